/- pattern: contains. -/
import Derived.Test.YteppndkhmbhnkaaDoorPInv
namespace Go.Proofs.YteppndkhmbhnkaaDoor
open Go.RowKit
set_option linter.unusedVariables false

/-- Does a list of spans hold a byte? -/
def conL : List (Nat × Nat) → Nat → Bool
  | [], _ => false
  | (a, e) :: r, b => if b ≤ e then decide (a ≤ b) else conL r b
set_option maxHeartbeats 4000000 in
set_option maxRecDepth 100000 in
theorem contains_c (sv : Value) (l : List (Nat × Nat)) (z : Nat) (w : World) (hs : SpAt w w.heap.size sv l) (ho : SpOk l) (hz : z < 256) :
    Calls Tryd.prog 92 #[sv, .int .u8 z] w fun e w' => e = .returned (.bool (conL l z)) ∧ Below w.heap.size w w' := by
  obtain ⟨A, c, rfl, hs⟩ := hs
  have hln := ho.1
  have HR : Hid (conL l z = conL (l.drop 0) z) := Lib.hid rfl
  generalize conL l z = R at *
  go_enter Tryd.func92, Tryd.ntmps92
  go_wp2_with fail
  go_loopw [9] (fun iv wr => ∃ (k : Nat), iv = .int .i64 k ∧ k ≤ l.length ∧ Below w.heap.size w wr ∧ Hid (R = conL (l.drop k) z)) (fun iv _ => l.length - (intOf iv).toNat)
  case atStart => exact ⟨0, rfl, by omega, Below.refl _ _, HR⟩
  case round =>
    obtain ⟨k, rfl, hk, hb, hx⟩ := hrel
    clear HR
    by_cases hlt : k < l.length
    · have d1 : decide ((k : Int) < (l.length : Int)) = true := decide_eq_true (by omega)
      have d1' : decide (k < l.length) = true := decide_eq_true hlt
      obtain ⟨b, off, rfl, hbl, hcell⟩ : ∃ b off, A = some ⟨b, off, none⟩ ∧ b < w.heap.size ∧ ∀ k (h : k < l.length), w.cell? ⟨b, off + k * 2, none⟩ = some (.int .u8 ((l[k]'h).1 : Nat)) ∧ w.cell? ⟨b, off + k * 2 + 1, none⟩ = some (.int .u8 ((l[k]'h).2 : Nat)) := by
        rcases hs with rfl | h
        · simp at hlt
        · exact h
      have x0 := (hb.cell (p := ⟨b, off + k * 2, none⟩) hbl).trans (hcell k hlt).1
      have x1 := (hb.cell (p := ⟨b, off + k * 2 + 1, none⟩) hbl).trans (hcell k hlt).2
      have hok := ho.2 (l[k]'hlt) (List.getElem_mem hlt)
      have hx2 := hx.out
      rw [List.drop_eq_getElem_cons hlt] at hx2
      generalize l[k]'hlt = q at *
      obtain ⟨a, e⟩ := q
      simp only [conL] at hok hx2 x0 x1
      have Hx2 := Lib.hid hx2
      have hkI : (k : Int) < (l.length : Int) := by omega
      have hwsz := hb.size
      have hba : ∀ o, Below w.heap.size w (wr.alloc o) := fun o => hb.alloc hwsz o
      have Hba := Lib.hid hba
      clear hx hx2 hcell hba
      by_cases hbad : z ≤ e
      · have hR : R = decide (a ≤ z) := by rw [Hx2.out, if_pos hbad]
        subst hR
        have t1 : decide ((z : Int) ≤ (e : Int)) = true := decide_eq_true (by omega)
        have t1' : decide (z ≤ e) = true := decide_eq_true (by omega)
        have t2 : (decide ((a : Int) ≤ (z : Int)) = decide (a ≤ z)) := by
          by_cases h : a ≤ z
          · rw [decide_eq_true (by omega : (a : Int) ≤ (z : Int)), decide_eq_true h]
          · rw [decide_eq_false (by omega : ¬ (a : Int) ≤ (z : Int)), decide_eq_false h]
        clear hbad Hx2
        go_wp2_with fail
        go_ret
        exact ⟨by first | rfl | (simp [t2]) | skip, Hba.out _⟩
      · have hR : Hid (R = conL (l.drop (k + 1)) z) := Lib.hid (by rw [Hx2.out, if_neg hbad])
        have t1 : decide ((z : Int) ≤ (e : Int)) = false := decide_eq_false (by omega)
        have t1' : decide (z ≤ e) = false := decide_eq_false (by omega)
        clear hbad Hx2
        go_wp2_with fail
        go_roundw
        case rel => exact ⟨k + 1, by go_num, by omega, Hba.out _, hR⟩
        case measure => simp [intOf]; omega
    · have hke : k = l.length := by omega
      have d1 : decide ((k : Int) < (l.length : Int)) = false := decide_eq_false (by omega)
      have d1' : decide (k < l.length) = false := decide_eq_false hlt
      have hR : R = false := by rw [hx.out, hke, List.drop_length]; rfl
      subst hR
      clear hx hke
      go_wp2_with fail
      go_ret
      exact ⟨rfl, hb⟩
end Go.Proofs.YteppndkhmbhnkaaDoor
