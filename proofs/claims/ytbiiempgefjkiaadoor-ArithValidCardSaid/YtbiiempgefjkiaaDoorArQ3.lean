/- arith: firstToken, scan. -/
import Derived.Test.YtbiiempgefjkiaaDoorArQ2
import Derived.Deep.AppendLies
namespace Go.Proofs.YtbiiempgefjkiaaDoor.Ar
open Go.RowKit
set_option linter.unusedVariables false

def Tok.val (t : Tok) : Value := .agg #[.int .i64 t.k, .int .i64 t.p, .string t.t]
def tokO (t : Tok) : Obj := .cells #[.int .i64 t.k, .int .i64 t.p, .string t.t] 77
theorem hdig_cons {s : ByteArray} {b : UInt8} {r : List UInt8} (h : s.data.toList = b :: r) : hdig s = digB b := by
  unfold hdig
  rw [h]
theorem hdig_eq {s : ByteArray} (h0 : 0 < s.size) : hdig s = digB s[0] := by
  have h1 := get_list h0
  obtain ⟨b, r, hl⟩ : ∃ b r, s.data.toList = b :: r := by
    cases hl : s.data.toList with
    | nil => rw [hl] at h1; simp at h1
    | cons b r => exact ⟨b, r, rfl⟩
  rw [hl] at h1
  have h2 : b = s[0] := by simpa using h1
  rw [hdig_cons hl, h2]
set_option maxHeartbeats 4000000 in
set_option maxRecDepth 100000 in
theorem firstToken_c (s : ByteArray) (w : World) (hE : Env w) (h0 : 0 < s.size) (hs : s.size ≤ maxLen) :
    Calls Tryd.prog 47 #[.string s] w fun e w' => e = .returned (firstT s 0).val ∧ Below w.heap.size w w' := by
  have hb0 := (Below.refl w.heap.size w).alloc (Nat.le_refl _) (tokO ⟨0, 0, ⟨#[]⟩⟩)
  have hn0 := heap_alloc_new w (tokO ⟨0, 0, ⟨#[]⟩⟩)
  have HW := Lib.hid (wordSize_c s (w.alloc (tokO ⟨0, 0, ⟨#[]⟩⟩)) hs)
  have HS := Lib.hid (fun W (h : Below w.heap.size w W) => symbolSize_c s W (env_next hE h))
  have hsn := symN_le h0
  have hwn := wrdN_le s
  have i0 : (0 : Int) < (s.size : Int) := by omega
  have hh := hdig_eq h0
  have hdg : ((decide ((48 : Int) ≤ ((s[0]'h0).toNat : Int))) && decide (((s[0]'h0).toNat : Int) ≤ 57)) = digB (s[0]'h0) := by
    unfold digB; rw [Bool.eq_iff_iff]; simp only [Bool.and_eq_true, decide_eq_true_iff]; omega
  unfold firstT
  rw [hh]
  generalize symN s = sy at *
  generalize wrdN s = wd at *
  generalize digB (s[0]'h0) = dg at *
  unfold maxLen at hs
  clear hE hh
  by_cases hw0 : wd = 0
  · rw [if_pos hw0]
    subst hw0
    have i2 : (sy : Int) ≤ (s.size : Int) := by omega
    clear hdg
    unfold tokO at *
    go_enter Tryd.func47, Tryd.ntmps47
    go_wp2_with fail
    refine HW.out.mono ?_
    rintro e w1 ⟨rfl, hb1⟩
    have hb2 := hb0.trans (hb1.mono (by simp))
    have hn1 := (hb1.block _ (by simp)).trans hn0
    have HS2 := Lib.hid (HS.out _ hb2)
    have hz1 : w.heap.size + 1 ≤ w1.heap.size := by have := hb1.size; simp at this; omega
    clear HW HS hb0 hn0 hb1
    go_wp2_with fail
    refine HS2.out.mono ?_
    rintro e w3 ⟨rfl, hb3⟩
    have hb4 := hb2.trans (hb3.mono (by omega))
    have hn3 := (hb3.block _ (by omega)).trans hn1
    have c0 : w3.cell? ⟨w.heap.size, 0, none⟩ = some (.int .i64 0) := by rw [Lib.cell_of_heap hn3]; rfl
    have c1 : w3.cell? ⟨w.heap.size, 1, none⟩ = some (.int .i64 0) := by rw [Lib.cell_of_heap hn3]; rfl
    have c2 : w3.cell? ⟨w.heap.size, 2, none⟩ = some (.string ⟨#[]⟩) := by rw [Lib.cell_of_heap hn3]; rfl
    have f0 : ∀ j, w3.frozen? ⟨w.heap.size, j, none⟩ = false := fun j => Lib.frozen_of_heap hn3 j
    have Hmz := Lib.hid (fun v0 v1 v2 => ((hb4.setCell (p := ⟨w.heap.size, 0, none⟩) (Nat.le_refl _) v0).setCell (p := ⟨w.heap.size, 1, none⟩) (Nat.le_refl _) v1).setCell (p := ⟨w.heap.size, 2, none⟩) (Nat.le_refl _) v2)
    clear HS2 hn1 hn3 hb2 hb3 hb4
    go_wp2_with fail
    refine bodyPost_ret (v := .agg #[.int .i64 3, .int .i64 0, .string (s.extract 0 sy)]) (by simp [results, Tryd.results47, go_sem, c0, c1, c2]) rfl ⟨rfl, Hmz.out _ _ _⟩
  rw [if_neg hw0]
  have t0 : ((wd : Int) == 0) = false := by rw [beq_eq_false_iff_ne]; omega
  have t0' : (wd == 0) = false := by rw [beq_eq_false_iff_ne]; exact hw0
  have i2 : (wd : Int) ≤ (s.size : Int) := by omega
  have key : ∀ w1 : World, w1.heap[w.heap.size]? = some (tokO ⟨0, 0, ⟨#[]⟩⟩) → (w1.cell? ⟨w.heap.size, 0, none⟩ = some (.int .i64 0) ∧ w1.cell? ⟨w.heap.size, 1, none⟩ = some (.int .i64 0) ∧ w1.cell? ⟨w.heap.size, 2, none⟩ = some (.string ⟨#[]⟩)) ∧ ∀ j, w1.frozen? ⟨w.heap.size, j, none⟩ = false := by
    intro w1 hn
    unfold tokO at hn
    refine ⟨⟨?_, ?_, ?_⟩, fun j => Lib.frozen_of_heap hn j⟩ <;> (rw [Lib.cell_of_heap hn]; rfl)
  have HK := Lib.hid key
  clear key HS
  rcases hdg1 : decide ((48 : Int) ≤ ((s[0]'h0).toNat : Int)) with _ | _
  · rw [hdg1, Bool.false_and] at hdg
    subst hdg
    rw [if_neg (by simp)]
    unfold tokO at *
    go_enter Tryd.func47, Tryd.ntmps47
    go_wp2_with fail
    refine HW.out.mono ?_
    rintro e w3 ⟨rfl, hb1⟩
    have hb4 := hb0.trans (hb1.mono (by simp))
    have hn3 := (hb1.block _ (by simp)).trans hn0
    obtain ⟨⟨c0, c1, c2⟩, f0⟩ := HK.out w3 hn3
    have Hmz := Lib.hid (fun v0 v1 v2 => ((hb4.setCell (p := ⟨w.heap.size, 0, none⟩) (Nat.le_refl _) v0).setCell (p := ⟨w.heap.size, 1, none⟩) (Nat.le_refl _) v1).setCell (p := ⟨w.heap.size, 2, none⟩) (Nat.le_refl _) v2)
    clear HW hb0 hn0 hb1 hb4 hn3 HK
    go_wp2_with fail
    refine bodyPost_ret (v := .agg #[.int .i64 2, .int .i64 0, .string (s.extract 0 wd)]) (by simp [results, Tryd.results47, go_sem, c0, c1, c2]) rfl ⟨rfl, Hmz.out _ _ _⟩
  · rw [hdg1, Bool.true_and] at hdg
    rcases hd2 : decide (((s[0]'h0).toNat : Int) ≤ 57) with _ | _
    · rw [hd2] at hdg
      subst hdg
      rw [if_neg (by simp)]
      unfold tokO at *
      go_enter Tryd.func47, Tryd.ntmps47
      go_wp2_with fail
      refine HW.out.mono ?_
      rintro e w3 ⟨rfl, hb1⟩
      have hb4 := hb0.trans (hb1.mono (by simp))
      have hn3 := (hb1.block _ (by simp)).trans hn0
      obtain ⟨⟨c0, c1, c2⟩, f0⟩ := HK.out w3 hn3
      have Hmz := Lib.hid (fun v0 v1 v2 => ((hb4.setCell (p := ⟨w.heap.size, 0, none⟩) (Nat.le_refl _) v0).setCell (p := ⟨w.heap.size, 1, none⟩) (Nat.le_refl _) v1).setCell (p := ⟨w.heap.size, 2, none⟩) (Nat.le_refl _) v2)
      clear HW hb0 hn0 hb1 hb4 hn3 HK
      go_wp2_with fail
      refine bodyPost_ret (v := .agg #[.int .i64 2, .int .i64 0, .string (s.extract 0 wd)]) (by simp [results, Tryd.results47, go_sem, c0, c1, c2]) rfl ⟨rfl, Hmz.out _ _ _⟩
    · rw [hd2] at hdg
      subst hdg
      rw [if_pos rfl]
      unfold tokO at *
      go_enter Tryd.func47, Tryd.ntmps47
      go_wp2_with fail
      refine HW.out.mono ?_
      rintro e w3 ⟨rfl, hb1⟩
      have hb4 := hb0.trans (hb1.mono (by simp))
      have hn3 := (hb1.block _ (by simp)).trans hn0
      obtain ⟨⟨c0, c1, c2⟩, f0⟩ := HK.out w3 hn3
      have Hmz := Lib.hid (fun v0 v1 v2 => ((hb4.setCell (p := ⟨w.heap.size, 0, none⟩) (Nat.le_refl _) v0).setCell (p := ⟨w.heap.size, 1, none⟩) (Nat.le_refl _) v1).setCell (p := ⟨w.heap.size, 2, none⟩) (Nat.le_refl _) v2)
      clear HW hb0 hn0 hb1 hb4 hn3 HK
      go_wp2_with fail
      refine bodyPost_ret (v := .agg #[.int .i64 1, .int .i64 0, .string (s.extract 0 wd)]) (by simp [results, Tryd.results47, go_sem, c0, c1, c2]) rfl ⟨rfl, Hmz.out _ _ _⟩
end Go.Proofs.YtbiiempgefjkiaaDoor.Ar
