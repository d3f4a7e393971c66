/- The contracts of codec's sumBytes, Seal. -/
import Derived.Test.YthikmjhjbokppaaKPut
namespace Go.Proofs.Ythikmjhjbokppaa
open Go.RowKit
set_option linter.unusedVariables false

/-- A number of 32 bits as four bytes. -/
def fourL (S : Nat) : List UInt8 := [(S / 16777216).toUInt8, (S / 65536).toUInt8, (S / 256).toUInt8, S.toUInt8]
/-- A frame. -/
def frameL (k : UInt8) (b : List UInt8) : List UInt8 := k :: (encI b.length ++ b)
def sealL (k : UInt8) (b : List UInt8) : List UInt8 := frameL k b ++ fourL (crcSum (frameL k b))

theorem own_lit (w : World) (B : Nat) (hB : B ≤ w.heap.size) (l : List UInt8) (cs : Array Value) (hcs : cs.toList = Lib.byteCells l) (hl : l.length ≤ 1000) : Own (w.alloc (.cells cs 5)) B (.slice (some ⟨w.heap.size, 0, none⟩) l.length l.length) l := by
  have hsz : cs.size = l.length := by
    have := congrArg List.length hcs
    rw [Lib.byteCells_length] at this
    simpa using this
  refine ⟨by rw [Lib.byteCells_length]; omega, .inr ⟨w.heap.size, l.length, cs, (0, 0), rfl, hB, heap_alloc_new w _, Nat.zero_le _, Nat.le_refl _, by unfold maxLen; omega, by omega, ?_⟩⟩
  rw [hcs, List.take_of_length_le (by rw [Lib.byteCells_length]; omega)]
theorem own_by {w : World} {B : Nat} {v : Value} {l : List UInt8} (h : Own w B v l) : ∃ A c, v = .slice A l.length c ∧ ByAt w w.heap.size A l ∧ l.length ≤ c ∧ c ≤ maxLen := by
  rcases h.2 with ⟨rfl, h0⟩ | ⟨g, cap, cur, fz, rfl, hg, hh, h1, h2, h3, h4, h5⟩
  · exact ⟨none, 0, by rw [h0], .inl (List.length_eq_zero_iff.1 h0), by omega, by unfold maxLen; omega⟩
  · refine ⟨_, cap, rfl, .inr ⟨g, 0, rfl, lt_of_block hh, fun k hk => ?_⟩, h2, h3⟩
    rw [Lib.cell_of_heap hh]
    have h6 : (cur.toList.take (l.length * 1))[k]? = (Lib.byteCells l)[k]? := by rw [h5]
    rw [List.getElem?_take, if_pos (by omega), byteCells_map, List.getElem?_map, List.getElem?_eq_getElem hk] at h6
    show cur[0 + k]? = _
    rw [Nat.zero_add, ← Array.getElem?_toList, h6]
    rfl
theorem own_below {w w' : World} {B : Nat} {v : Value} {l : List UInt8} (h : Own w B v l) (hb : Below w.heap.size w w') : Own w' B v l := by
  refine World.ownsRowF.kept h (row := none) ⟨hb.os, hb.tape, hb.output, hb.size, fun i hi _ => hb.block i hi⟩ ?_
  rcases hv : v.ownBlock with _ | x
  · exact .inl rfl
  · exact .inr (by simp)

theorem wrap8 (n : Nat) : IntKind.u8.wrap (n : Int) = (n.toUInt8.toNat : Int) := by
  rw [IntKind.wrap_u8]
  simp
set_option maxHeartbeats 1000000 in
theorem sumBytes_c (B : Nat) (A : Option Addr) (l : List UInt8) (c : Nat) (w : World) (hA : ByAt w B A l) (hl : l.length ≤ 1000000) :
    Calls Try.prog 29 #[.slice A l.length c] w fun e w' => ∃ v, e = .returned v ∧ Own w' w.heap.size v (fourL (crcSum l)) ∧ Below w.heap.size w w' := by
  have hlt : crcSum l < 4294967296 := by unfold crcSum; omega
  have hck := fun W h => checksum_c B A l c W h hl
  generalize crcSum l = S at *
  have Hck := Lib.hid hck
  clear hck
  go_enter Try.func29, Try.ntmps29
  go_wp2_with fail
  refine (Hck.out _ hA).mono ?_
  rintro e w1 ⟨rfl, rfl⟩
  go_wp2_with fail
  go_ret
  refine ⟨_, rfl, own_lit w w.heap.size (Nat.le_refl _) (fourL S) _ ?_ (by simp [fourL]), (Below.refl _ w).alloc (Nat.le_refl _) _⟩
  have q : ∀ n : Nat, ((n.toUInt8.toNat : Nat) : Int) = (n : Int) % 256 := by intro n; simp
  rw [byteCells_map]
  show _ = [Value.int .u8 ((S / 16777216).toUInt8.toNat : Int), Value.int .u8 ((S / 65536).toUInt8.toNat : Int), Value.int .u8 ((S / 256).toUInt8.toNat : Int), Value.int .u8 (S.toUInt8.toNat : Int)]
  rw [q, q, q, q]
  simp
  omega

theorem seal_none (k : Int) (A : Option Addr) (l : List UInt8) (c : Nat) (w : World) (h : k < 0 ∨ 255 < k) :
    Calls Try.prog 15 #[.int .i64 k, .slice A l.length c] w fun e w' => e = .returned (.slice none 0 0) ∧ w = w' := by
  by_cases h1 : k < 0
  · have t1 : decide (k < 0) = true := decide_eq_true h1
    go_enter Try.func15, Try.ntmps15
    go_wp2_with fail
    go_ret
    exact ⟨rfl, rfl⟩
  · have t1 : decide (k < 0) = false := decide_eq_false h1
    have t2 : decide (255 < k) = true := decide_eq_true (by omega)
    go_enter Try.func15, Try.ntmps15
    go_wp2_with fail
    go_ret
    exact ⟨rfl, rfl⟩

set_option maxHeartbeats 2000000 in
theorem seal_c (B : Nat) (k : Nat) (A : Option Addr) (l : List UInt8) (c : Nat) (w : World) (hk : k ≤ 255) (hA : ByAt w B A l) (hB : B ≤ w.heap.size) (hl : l.length ≤ 100000) :
    Calls Try.prog 15 #[.int .i64 k, .slice A l.length c] w fun e w' => ∃ v, e = .returned v ∧ Own w' w.heap.size v (sealL k.toUInt8 l) ∧ Below w.heap.size w w' := by
  have t1 : decide ((k : Int) < 0) = false := decide_eq_false (by omega)
  have t2 : decide ((255 : Int) < (k : Int)) = false := decide_eq_false (by omega)
  have t2' : decide (255 < k) = false := decide_eq_false (by omega)
  have hw : IntKind.u8.wrap (k : Int) = (k : Int) := IntWalk.u8_in _ (by omega)
  have hlen := encI_len (n := l.length) (by omega) (by omega)
  have hk8 := u8_toNat (show k < 256 by omega)
  go_enter Try.func15, Try.ntmps15
  go_wp2_with fail
  have hlit := own_lit w w.heap.size (Nat.le_refl _) [k.toUInt8] #[.int .u8 k] (by rw [byteCells_map]; show [Value.int .u8 (k : Int)] = [Value.int .u8 (k.toUInt8.toNat : Int)]; rw [hk8]) (by simp)
  refine (appendNumber_c w.heap.size _ [k.toUInt8] l.length _ (by omega) (by omega) (by simp) (by simp) hlit).mono ?_
  rintro e w1 ⟨v1, rfl, ho1, hb1⟩
  replace hb1 : Below w.heap.size w w1 := ((Below.refl _ w).alloc (Nat.le_refl _) _).trans hb1
  have hA1 := byAt_below hA hb1 hB
  go_wp2_with (at_builtin; refine wpList_app_by rfl _ _ rfl w.heap.size _ _ rfl ho1 B A l c rfl hA1 (by simp; omega) hb1.size ?_)
  intro v2 w2 ho2 hb2
  replace hb2 := hb1.trans hb2
  change Own w2 w.heap.size v2 (frameL k.toUInt8 l) at ho2
  have hfl : (frameL k.toUInt8 l).length ≤ 100011 := by simp [frameL]; omega
  obtain ⟨A2, c2, rfl, hby, hc2, hm2⟩ := own_by ho2
  clear ho1
  go_wp2_with fail
  refine (sumBytes_c w2.heap.size A2 _ c2 _ hby (by omega)).mono ?_
  rintro e w3 ⟨v3, rfl, ho3, hb3⟩
  obtain ⟨A3, c3, rfl, hby3, hc3, hm3⟩ := own_by ho3
  have ho2' := own_below ho2 hb3
  have hb4 := hb2.trans (hb3.mono hb2.size)
  have h4 : (fourL (crcSum (frameL k.toUInt8 l))).length = 4 := rfl
  go_wp2_with (at_builtin; refine wpList_app_by rfl _ _ rfl w.heap.size _ _ rfl ho2' w3.heap.size A3 _ c3 rfl hby3 (by omega) hb4.size ?_)
  intro v5 w5 ho5 hb5
  go_wp2_with fail
  go_ret
  exact ⟨v5, rfl, ho5, hb4.trans hb5⟩
end Go.Proofs.Ythikmjhjbokppaa
