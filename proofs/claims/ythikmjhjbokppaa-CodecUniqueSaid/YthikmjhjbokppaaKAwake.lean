/- The reference's SameBytes; the examples of the chapter. -/
import Derived.Test.YthikmjhjbokppaaKSeal
import Derived.Lib.SmallJoins
namespace Go.Proofs.Ythikmjhjbokppaa
open Go.RowKit
set_option linter.unusedVariables false

theorem sameBytes_c (B B' : Nat) (A A' : Option Addr) (l m : List UInt8) (c c' : Nat) (w : World) (hA : ByAt w B A l) (hA' : ByAt w B' A' m) :
    Calls Try.prog 11 #[.slice A l.length c, .slice A' m.length c'] w fun e w' => e = .returned (.bool (l == m)) ∧ w = w' := by
  have h1 := conv_by hA c
  have h2 := conv_by hA' c'
  go_enter Try.func11, Try.ntmps11
  go_wp2_with fail
  go_ret
  exact ⟨rfl, rfl⟩

theorem lit_mark (w : World) (l : List UInt8) (cs : Array Value) (fr : Nat × Nat) (hcs : cs.toList = Lib.byteCells l) : ByAt (w.alloc (.cells cs 5 fr)) (w.heap.size + 1) (some ⟨w.heap.size, 0, none⟩) l := by
  refine .inr ⟨w.heap.size, 0, rfl, by omega, fun k hk => ?_⟩
  rw [Nat.zero_add, World.cell?_alloc_mark, ← Array.getElem?_toList, hcs, byteCells_map, List.getElem?_map, List.getElem?_eq_getElem hk]
  rfl

theorem ex_sum : crcSum [49, 50, 51, 52, 53, 54, 55, 56, 57] = 3808858755 := by decide +kernel
theorem ex_neg : encI (-64) = [127] := by
  unfold encI
  rw [show zz (-64) = 127 from rfl, putZ_lt (by decide)]
  rfl
theorem ex_zero : encI 0 = [0] := by
  unfold encI
  rw [show zz 0 = 0 from rfl, putZ_lt (by decide)]
  rfl
theorem ex_i1 : takeI [128, 1, 9] = (64, 2, 0) := by decide +kernel
theorem ex_i2 : takeI [128, 0] = (0, 0, 6) := by decide +kernel
theorem ex_s : takeS [4, 97, 98] = ([97, 98], 3, 0) := by decide +kernel

/-- A slice of given bytes. -/
theorem lit_by (w : World) (l : List UInt8) (cs : Array Value) (hcs : cs.toList = Lib.byteCells l) (hl : l.length ≤ 1000) : ByAt (w.alloc (.cells cs 5)) (w.heap.size + 1) (some ⟨w.heap.size, 0, none⟩) l := by
  have h := own_lit w w.heap.size (Nat.le_refl _) l cs hcs hl
  obtain ⟨A, c, hv, hb, _⟩ := own_by h
  injection hv with h1 h2 h3
  subst h1
  simpa using hb

theorem lit_by2 (w : World) (l : List UInt8) (cs : Array Value) (hcs : cs.toList = Lib.byteCells l) (hl : l.length ≤ 1000) : ByAt (w.alloc (.cells cs 5)) (w.alloc (.cells cs 5)).heap.size (some ⟨w.heap.size, 0, none⟩) l := by
  have := lit_by w l cs hcs hl
  simpa using this

set_option maxHeartbeats 4000000 in
set_option maxRecDepth 100000 in
theorem awake_c (w : World) :
    Calls Try.prog 7 #[] w fun e w' => e = .returned (.bool true) ∧ Below w.heap.size w w' := by
  have c1 : ∀ W : World, Calls Try.prog 8 #[.slice (some ⟨W.heap.size, 0, none⟩) 3 3] (W.alloc (.cells #[.int .u8 128, .int .u8 1, .int .u8 9] 5)) fun e w' => e = .returned (.tuple #[.int .i64 64, .int .i64 2, .int .i64 0]) ∧ Below W.heap.size W w' := fun W => by
    have h := takeInt_c _ [128, 1, 9] 3 _ (lit_by2 W [128, 1, 9] #[.int .u8 128, .int .u8 1, .int .u8 9] rfl (by decide)) ⟨by decide, by decide⟩ (by decide)
    rw [ex_i1] at h
    exact h.mono fun e w' ⟨h1, h2⟩ => ⟨h1, ((Below.refl _ W).alloc (Nat.le_refl _) _).trans (h2.mono (by simp))⟩
  have c2 : ∀ W : World, Calls Try.prog 8 #[.slice (some ⟨W.heap.size, 0, none⟩) 2 2] (W.alloc (.cells #[.int .u8 128, .int .u8 0] 5)) fun e w' => e = .returned (.tuple #[.int .i64 0, .int .i64 0, .int .i64 6]) ∧ Below W.heap.size W w' := fun W => by
    have h := takeInt_c _ [128, 0] 2 _ (lit_by2 W [128, 0] #[.int .u8 128, .int .u8 0] rfl (by decide)) ⟨by decide, by decide⟩ (by decide)
    rw [ex_i2] at h
    exact h.mono fun e w' ⟨h1, h2⟩ => ⟨h1, ((Below.refl _ W).alloc (Nat.le_refl _) _).trans (h2.mono (by simp))⟩
  have c3 : ∀ W : World, Calls Try.prog 9 #[.slice (some ⟨W.heap.size, 0, none⟩) 3 3] (W.alloc (.cells #[.int .u8 4, .int .u8 97, .int .u8 98] 5)) fun e w' => e = .returned (.tuple #[.string ⟨#[97, 98]⟩, .int .i64 3, .int .i64 0]) ∧ Below W.heap.size W w' := fun W => by
    have h := takeText_c _ [4, 97, 98] 3 _ (lit_by2 W [4, 97, 98] #[.int .u8 4, .int .u8 97, .int .u8 98] rfl (by decide)) ⟨by decide, by decide⟩ (by decide)
    rw [ex_s] at h
    exact h.mono fun e w' ⟨h1, h2⟩ => ⟨h1, ((Below.refl _ W).alloc (Nat.le_refl _) _).trans (h2.mono (by simp))⟩
  have c4 := fun W => putInt_c (-64) W (by decide) (by decide)
  rw [ex_neg] at c4
  have c6 : ∀ W : World, Calls Try.prog 20 #[.slice (some ⟨W.heap.size, 0, none⟩) 9 9] (W.alloc (.cells #[.int .u8 49, .int .u8 50, .int .u8 51, .int .u8 52, .int .u8 53, .int .u8 54, .int .u8 55, .int .u8 56, .int .u8 57] 5 (9, 10))) fun e w' => e = .returned (.int .i64 3808858755) ∧ (W.alloc (.cells #[.int .u8 49, .int .u8 50, .int .u8 51, .int .u8 52, .int .u8 53, .int .u8 54, .int .u8 55, .int .u8 56, .int .u8 57] 5 (9, 10))) = w' := fun W => by
    have h := sum_c _ _ [49, 50, 51, 52, 53, 54, 55, 56, 57] 9 _ (lit_mark W [49, 50, 51, 52, 53, 54, 55, 56, 57] #[.int .u8 49, .int .u8 50, .int .u8 51, .int .u8 52, .int .u8 53, .int .u8 54, .int .u8 55, .int .u8 56, .int .u8 57] (9, 10) rfl) (by decide)
    rw [ex_sum] at h
    exact h
  have c7 : ∀ W : World, Calls Try.prog 15 #[.int .i64 7, .slice none 0 0] W fun e w' => (∃ A c, e = .returned (.slice A 6 c)) ∧ Below W.heap.size W w' := fun W => by
    refine (seal_c 0 7 none [] 0 W (by decide) (.inl rfl) (Nat.zero_le _) (by decide)).mono ?_
    rintro e w' ⟨v, rfl, ho, hb⟩
    obtain ⟨A, c, rfl, _⟩ := own_by ho
    have hl : (sealL (7 : Nat).toUInt8 []).length = 6 := by
      unfold sealL frameL
      rw [show encI ((([] : List UInt8).length : Nat) : Int) = [0] from ex_zero]
      rfl
    rw [hl]
    exact ⟨⟨A, c, rfl⟩, hb⟩
  have C1 := Lib.hid c1; have C2 := Lib.hid c2; have C3 := Lib.hid c3; have C4 := Lib.hid c4; have C6 := Lib.hid c6; have C7 := Lib.hid c7
  clear c1 c2 c3 c4 c6 c7
  go_enter Try.func7, Try.ntmps7
  go_wp2_with fail
  refine (C1.out _).mono ?_
  rintro e w1 ⟨rfl, m1⟩
  go_wp2_with fail
  refine (C2.out _).mono ?_
  rintro e w2 ⟨rfl, m2⟩
  replace m2 := m1.trans (m2.mono m1.size)
  go_wp2_with fail
  refine (C3.out _).mono ?_
  rintro e w3 ⟨rfl, m3⟩
  replace m3 := m2.trans (m3.mono m2.size)
  go_wp2_with fail
  refine (C4.out _).mono ?_
  rintro e w4 ⟨v4, rfl, o4, m4⟩
  replace m4 := m3.trans (m4.mono m3.size)
  obtain ⟨A4, k4, rfl, hb4, _, _⟩ := own_by o4
  go_wp2_with fail
  refine (sameBytes_c _ _ _ _ [127] [127] _ _ _ (byAt_alloc hb4 (Nat.le_refl _) _) (lit_by w4 [127] #[.int .u8 127] rfl (by decide))).mono ?_
  rintro e w5 ⟨rfl, rfl⟩
  have m5 := m4.alloc m4.size (.cells #[.int .u8 127] 5)
  have hcv := Joins.run_convert_bytes_const_at (P := Try.prog) (w4.alloc (.cells #[.int .u8 127] 5)) 22 5 #[.int .u8 49, .int .u8 50, .int .u8 51, .int .u8 52, .int .u8 53, .int .u8 54, .int .u8 55, .int .u8 56, .int .u8 57] 9 9 (w4.heap.size + 1) (by simp) Try.underlying22 Try.underlying5
  go_wp2_with fail
  have h6 := C6.out (w4.alloc (.cells #[.int .u8 127] 5))
  rw [show (w4.alloc (.cells #[.int .u8 127] 5)).heap.size = w4.heap.size + 1 from by simp] at h6
  refine h6.mono ?_
  rintro e w6 ⟨rfl, rfl⟩
  have m6 := m5.alloc m5.size (.cells #[.int .u8 49, .int .u8 50, .int .u8 51, .int .u8 52, .int .u8 53, .int .u8 54, .int .u8 55, .int .u8 56, .int .u8 57] 5 (9, 10))
  go_wp2_with fail
  refine (C7.out _).mono ?_
  rintro e w7 ⟨⟨A7, k7, rfl⟩, m7⟩
  replace m7 := m6.trans (m7.mono m6.size)
  go_wp2_with fail
  go_ret
  exact ⟨rfl, m7⟩
end Go.Proofs.Ythikmjhjbokppaa
