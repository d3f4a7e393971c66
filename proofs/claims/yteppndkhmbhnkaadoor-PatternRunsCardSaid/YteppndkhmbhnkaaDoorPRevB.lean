/- pattern: slices.Reverse of bytes. -/
import Derived.Test.YteppndkhmbhnkaaDoorPRevI
namespace Go.Proofs.YteppndkhmbhnkaaDoor
open Go.RowKit
set_option linter.unusedVariables false

def RowB (w : World) (g n : Nat) (X : Nat → Int) : Prop := g < w.heap.size ∧ ∀ m, m < n → w.cell? ⟨g, m, none⟩ = some (.int .u8 (X m)) ∧ w.frozen? ⟨g, m, none⟩ = false
theorem rowB_drew {w : World} {g n : Nat} {X : Nat → Int} (h : RowB w g n X) : RowB w.drew g n X := h
theorem rowB_swap {w : World} {g n i : Nat} {X : Nat → Int} (h : RowB w g n (fun m => X (sgm n i m))) (hi : i < n - 1 - i) :
    RowB ((w.setCell ⟨g, i, none⟩ (.int .u8 (X (n - 1 - i)))).setCell ⟨g, n - 1 - i, none⟩ (.int .u8 (X i))) g n (fun m => X (sgm n (i + 1) m)) := by
  refine ⟨by simpa using h.1, fun m hm => ⟨?_, by simpa using (h.2 m hm).2⟩⟩
  have s1 : sgm n i i = i := by unfold sgm; rw [if_neg (by omega)]
  have s2 : sgm n i (n - 1 - i) = n - 1 - i := by unfold sgm; rw [if_neg (by omega)]
  by_cases e1 : m = i
  · subst e1
    have : sgm n (m + 1) m = n - 1 - m := by unfold sgm; rw [if_pos (by omega)]
    simp only [this]
    rw [set_oth _ _ _ _ _ (by omega)]
    exact set_sam _ _ _ _ _ (h.2 m hm).1
  · by_cases e2 : m = n - 1 - i
    · subst e2
      have : sgm n (i + 1) (n - 1 - i) = i := by unfold sgm; rw [if_pos (by omega)]; omega
      simp only [this]
      exact set_sam _ _ _ _ _ (by rw [set_oth _ _ _ _ _ (by omega)]; exact (h.2 (n - 1 - i) hm).1)
    · have : sgm n (i + 1) m = sgm n i m := by
        unfold sgm
        by_cases h : m < i ∨ n ≤ m + i
        · rw [if_pos h, if_pos (by omega)]
        · rw [if_neg h, if_neg (by omega)]
      simp only [this]
      rw [set_oth _ _ _ _ _ (by omega), set_oth _ _ _ _ _ (by omega)]
      exact (h.2 m hm).1
set_option maxHeartbeats 4000000 in
set_option maxRecDepth 100000 in
theorem reverseB_c (g n c : Nat) (X : Nat → Int) (w : World) (hX : RowB w g n X) (hn : n ≤ 1000000) :
    Calls Tryd.prog 63 #[.slice (some ⟨g, 0, none⟩) n c] w fun e w' => e = .returned (.tuple #[]) ∧ RowB w' g n (fun m => X (n - 1 - m)) ∧ ButG g w w' := by
  go_enter Tryd.func63, Tryd.ntmps63
  go_wp2_with fail
  go_loopw [2, 3] (fun iv jv wr => ∃ (i : Nat), iv = .int .i64 i ∧ jv = .int .i64 ((n : Int) - 1 - i) ∧ i ≤ n ∧ Hid (RowB wr g n (fun m => X (sgm n i m))) ∧ ButG g w wr) (fun iv _ _ => n - (intOf iv).toNat)
  case atStart => exact ⟨0, rfl, by first | rfl | (simp; done) | (congr 1; omega), by omega, Lib.hid ⟨hX.1, fun m hm => by simp only [sgm_zero n m hm]; exact hX.2 m hm⟩, ButG.refl _ _⟩
  case round =>
    obtain ⟨i, rfl, rfl, hi, hR, hb⟩ := hrel
    by_cases hlt : i < n - 1 - i
    · have d1 : decide ((i : Int) < (n : Int) - 1 - i) = true := decide_eq_true (by omega)
      have hsw := rowB_swap hR.out hlt
      obtain ⟨j, hj⟩ : ∃ j, j = n - 1 - i := ⟨_, rfl⟩
      have hjI : (n : Int) - 1 - i = (j : Int) := by omega
      rw [← hj] at hsw
      rw [hjI] at d1 ⊢
      have hRi := hR.out.2 i (by omega)
      have hRj := hR.out.2 j (by omega)
      have s1 : sgm n i i = i := by unfold sgm; rw [if_neg (by omega)]
      have s2 : sgm n i j = j := by unfold sgm; rw [if_neg (by omega)]
      simp only [s1, s2] at hRi hRj
      have hgs := hR.out.1
      obtain ⟨a0, f0⟩ := hRi
      obtain ⟨b0, g0⟩ := hRj
      have hbs : ButG g w ((wr.setCell ⟨g, i, none⟩ (.int .u8 (X j))).setCell ⟨g, j, none⟩ (.int .u8 (X i))).drew := butG_drew (butG_set (butG_set hb _) _)
      have hs2 := Lib.hid (rowB_drew hsw)
      have hb2 := Lib.hid hbs
      have hlj : i < j := by omega
      have hjn : j < n := by omega
      have i1 : (i : Int) < (n : Int) := by omega
      have i2 : (j : Int) < (n : Int) := by omega
      have i3 : (i : Int) < (j : Int) := by omega
      have w2 : (j : Int) - 1 = (n : Int) - 1 - ((i + 1 : Nat) : Int) := by omega
      have W2 := Lib.hid w2
      clear s1 s2 hj hjI hX w2 hR hb hsw hbs
      go_wp2_with fail
      go_region
      go_wp2_with fail
      go_roundw
      case rel => exact ⟨i + 1, by go_num, by first | (rw [← W2.out]; go_num) | (rw [← W2.out]), by omega, hs2, hb2.out⟩
      case measure => simp [intOf]; omega
    · have d1 : decide ((i : Int) < (n : Int) - 1 - i) = false := decide_eq_false (by omega)
      have hfin : RowB wr g n (fun m => X (n - 1 - m)) := ⟨hR.out.1, fun m hm => by have := hR.out.2 m hm; simp only [sgm_end n i m hlt hm] at this; exact this⟩
      clear hX
      go_wp2_with fail
      exact bodyPost_end (results_none rfl _ _ _) rfl ⟨rfl, hfin, hb⟩
end Go.Proofs.YteppndkhmbhnkaaDoor
