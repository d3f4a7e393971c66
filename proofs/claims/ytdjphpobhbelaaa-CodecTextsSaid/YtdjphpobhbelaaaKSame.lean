/- The reference's SameTexts, of two slices that show the same strings. -/
import Derived.Test.YtdjphpobhbelaaaKRTexts
import Derived.Deep.QuietTactic
import Derived.BigQuiet
namespace Go.Proofs.Ytdjphpobhbelaaa
open Go.RowKit
set_option linter.unusedVariables false

theorem below_drewN {B : Nat} {a w : World} (h : Below B a w) (n : Nat) : Below B a (w.drewN n) := ⟨h.os, h.tape, h.output, h.size, h.block⟩
set_option maxHeartbeats 2000000 in
theorem sameTexts_c (A A' : Option Addr) (ss : List (List UInt8)) (c c' : Nat) (w : World) (hA : SByAt w w.heap.size A ss) (hA' : SByAt w w.heap.size A' ss) (hn : ss.length ≤ 9223372036854775807) :
    Calls Try.prog 18 #[.slice A ss.length c, .slice A' ss.length c'] w fun e w' => e = .returned (.bool true) ∧ Below w.heap.size w w' := by
  have e1 : ((ss.length : Int) != (ss.length : Int)) = false := by simp
  go_enter Try.func18, Try.ntmps18
  go_wp2_with fail
  go_loopw [5] (fun iv wr => ∃ k : Nat, iv = .int .i64 k ∧ k ≤ ss.length ∧ Below w.heap.size w wr) (fun iv _ => ss.length - (intOf iv).toNat)
  case atStart => exact ⟨0, rfl, by omega, Below.refl _ _⟩
  case round =>
    obtain ⟨k, rfl, hk, hb⟩ := hrel
    by_cases hlt : k < ss.length
    · have d1 : decide ((k : Int) < (ss.length : Int)) = true := decide_eq_true (by omega)
      have d1' : decide (k < ss.length) = true := decide_eq_true hlt
      obtain ⟨b, off, rfl, hbl, hc⟩ : ∃ b off, A = some ⟨b, off, none⟩ ∧ b < w.heap.size ∧ ∀ k (h : k < ss.length), w.cell? ⟨b, off + k, none⟩ = some (strV (ss[k]'h)) := by
        rcases hA with rfl | h
        · simp at hlt
        · exact h
      obtain ⟨b', off', rfl, hbl', hc'⟩ : ∃ b off, A' = some ⟨b, off, none⟩ ∧ b < w.heap.size ∧ ∀ k (h : k < ss.length), w.cell? ⟨b, off + k, none⟩ = some (strV (ss[k]'h)) := by
        rcases hA' with rfl | h
        · simp at hlt
        · exact h
      have hcell : wr.cell? ⟨b, off + k, none⟩ = some (.string ⟨(ss[k]'hlt).toArray⟩) := (hb.cell (p := ⟨b, off + k, none⟩) hbl).trans (hc k hlt)
      have hcell' : wr.cell? ⟨b', off' + k, none⟩ = some (.string ⟨(ss[k]'hlt).toArray⟩) := (hb.cell (p := ⟨b', off' + k, none⟩) hbl').trans (hc' k hlt)
      have i1 : 0 ≤ (k : Int) ∧ (k : Int) < (ss.length : Int) := by omega
      have i2 : (k : Int).toNat = k := by omega
      generalize ss[k]'hlt = s at *
      clear hc hc' hA hA'
      have Hk := Lib.hid hlt
      go_wp2_with fail
      go_quiet (fail)
      all_goals go_wp2_with fail
      go_roundw
      case rel => exact ⟨k + 1, by go_num, by have := Hk.out; omega, below_drewN hb _⟩
      case measure => have := Hk.out; simp [intOf]; omega
    · have hkl : k = ss.length := by omega
      have d1 : decide ((k : Int) < (ss.length : Int)) = false := decide_eq_false (by omega)
      have d1' : decide (k < ss.length) = false := decide_eq_false hlt
      go_wp2_with fail
      go_ret
      exact ⟨rfl, hb⟩
end Go.Proofs.Ytdjphpobhbelaaa
