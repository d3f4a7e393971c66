/- The contracts of chars.isPrintable, chars.hexEscape. -/
import Derived.Test.YtdjphpobhbelaaaDoorPlain
namespace Go.Proofs.YtdjphpobhbelaaaDoor
open Go.RowKit

def prB (r : Int) : Bool := decide (32 ≤ r ∧ r ≤ 126)
def hexS : ByteArray := ⟨#[48, 49, 50, 51, 52, 53, 54, 55, 56, 57, 97, 98, 99, 100, 101, 102]⟩

theorem printable_c (r : Int) (w : World) : Calls Tryd.prog 37 #[.int .i32 r] w fun e w' => e = .returned (.bool (prB r)) ∧ w = w' := by
  by_cases h1 : (32 : Int) ≤ r
  · by_cases h2 : r ≤ 126
    · rw [show prB r = true from decide_eq_true ⟨h1, h2⟩]
      go_enter Tryd.func37, Tryd.ntmps37
      go_wp2
      go_ret
      exact ⟨by simp <;> omega, rfl⟩
    · rw [show prB r = false from decide_eq_false (by omega)]
      go_enter Tryd.func37, Tryd.ntmps37
      go_wp2
      go_ret
      exact ⟨by simp <;> omega, rfl⟩
  · rw [show prB r = false from decide_eq_false (by omega)]
    go_enter Tryd.func37, Tryd.ntmps37
    go_wp2
    go_ret
    exact ⟨by simp <;> omega, rfl⟩

theorem conv4 (w : World) (p q : UInt8) : (convert 39 9 (.slice (some ⟨w.heap.size, 0, none⟩) 4 4)).run Tryd.prog (w.alloc (.cells #[.int .u8 92, .int .u8 120, .int .u8 p.toNat, .int .u8 q.toNat] 5)).drew = .ok (.string ⟨#[92, 120, p, q]⟩) (w.alloc (.cells #[.int .u8 92, .int .u8 120, .int .u8 p.toNat, .int .u8 q.toNat] 5)).drew := by
  refine run_convert_bytes_back _ _ _ 5 ⟨w.heap.size, 0, none⟩ 4 [92, 120, p, q] Tryd.underlying39 Tryd.underlying5 Tryd.underlying9 ?_
  intro j hj
  have hj4 : j < 4 := hj
  rw [show (⟨w.heap.size, 0, none⟩ : Addr).add j = ⟨w.heap.size, j, none⟩ from by simp [Addr.add] <;> omega, World.cell?_drew, World.cell?_alloc_mark]
  rcases j with _ | _ | _ | _ | j
  · rfl
  · rfl
  · rfl
  · rfl
  · omega
def hexE (b : Nat) (h : b < 256) : ByteArray := ⟨#[92, 120, hexS[b / 16]'(by show b / 16 < 16; omega), hexS[b % 16]'(by show b % 16 < 16; omega)]⟩
set_option maxHeartbeats 1000000 in
theorem hexEscape_c (b : Nat) (h : b < 256) (w : World) : Calls Tryd.prog 40 #[.int .u8 b] w fun e w' => e = .returned (.string (hexE b h)) ∧ Below w.heap.size w w' := by
  have g1 : (0 : Int) ≤ (b : Int) / 16 := by omega
  have g2 : (b : Int) / 16 < 16 := by omega
  have g3 : (0 : Int) ≤ (b : Int) % 16 := by omega
  have g4 : (b : Int) % 16 < 16 := by omega
  have g5 : (0 : Int) ≤ (b : Int) / 16 ∧ (b : Int) / 16 < 16 := ⟨g1, g2⟩
  have g6 : (0 : Int) ≤ (b : Int) % 16 ∧ (b : Int) % 16 < 16 := ⟨g3, g4⟩
  have hcv := conv4 w ((⟨#[48, 49, 50, 51, 52, 53, 54, 55, 56, 57, 97, 98, 99, 100, 101, 102]⟩ : ByteArray)[b / 16]'(by show b / 16 < 16; omega)) ((⟨#[48, 49, 50, 51, 52, 53, 54, 55, 56, 57, 97, 98, 99, 100, 101, 102]⟩ : ByteArray)[b % 16]'(by show b % 16 < 16; omega))
  go_enter Tryd.func40, Tryd.ntmps40
  go_wp2_with fail
  go_region
  all_goals go_wp2
  all_goals go_ret
  all_goals exact ⟨rfl, ((Below.refl _ _).alloc (Nat.le_refl _) _).drew⟩
end Go.Proofs.YtdjphpobhbelaaaDoor
