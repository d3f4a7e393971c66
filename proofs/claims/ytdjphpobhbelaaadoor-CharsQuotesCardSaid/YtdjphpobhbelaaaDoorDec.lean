/- The bytes of a rune that is not ASCII. -/
import Derived.Test.YtdjphpobhbelaaaDoorCh
import Derived.Lib.DecodeN
namespace Go.Proofs.YtdjphpobhbelaaaDoor
open Go.RowKit

theorem get_in (s : ByteArray) (k : Nat) (h : k < s.size) : (s.get! k) = s[k]'h := by
  have := get_at s k h
  simpa using this

theorem high_bytes {s : ByteArray} {p : Nat} (h : p < s.size) (hr : 128 ≤ (s[p]'h).toNat) : p + widthAt s p ≤ s.size ∧ ∀ i (hi : p + i < s.size), i < widthAt s p → 128 ≤ (s[p + i]'hi).toNat := by
  have e0 := get_in s p h
  have key : ∀ n b0 b1 b2 b3 : Nat, 128 ≤ b0 → 0 < n → (Lib.decodeN n b0 b1 b2 b3).2 ≤ n ∧ (1 < (Lib.decodeN n b0 b1 b2 b3).2 → 128 ≤ b1) ∧ (2 < (Lib.decodeN n b0 b1 b2 b3).2 → 128 ≤ b2) ∧ (3 < (Lib.decodeN n b0 b1 b2 b3).2 → 128 ≤ b3) ∧ (Lib.decodeN n b0 b1 b2 b3).2 ≤ 4 := by
    intro n b0 b1 b2 b3 h0 hn
    unfold Lib.decodeN
    rw [if_neg (by omega)]
    by_cases c1 : b0 / 32 = 6 ∧ (1 < n ∧ b1 / 64 = 2)
    · rw [if_pos c1]
      split <;> simp only <;> omega
    rw [if_neg c1]
    by_cases c2 : b0 / 16 = 14 ∧ (1 < n ∧ b1 / 64 = 2) ∧ (2 < n ∧ b2 / 64 = 2)
    · rw [if_pos c2]
      split <;> simp only <;> omega
    rw [if_neg c2]
    by_cases c3 : b0 / 8 = 30 ∧ (1 < n ∧ b1 / 64 = 2) ∧ (2 < n ∧ b2 / 64 = 2) ∧ (3 < n ∧ b3 / 64 = 2)
    · rw [if_pos c3]
      split <;> simp only <;> omega
    rw [if_neg c3]
    simp only
    omega
  have hk := key (s.size - p) (s.get! p).toNat (s.get! (p + 1)).toNat (s.get! (p + 2)).toNat (s.get! (p + 3)).toNat (by rw [e0]; exact hr) (by omega)
  rw [← Lib.decode_at s p] at hk
  change (widthAt s p ≤ _ ∧ (1 < widthAt s p → _) ∧ (2 < widthAt s p → _) ∧ (3 < widthAt s p → _) ∧ widthAt s p ≤ 4) at hk
  obtain ⟨k0, k1, k2, k3, k4⟩ := hk
  refine ⟨by omega, fun i hi hiw => ?_⟩
  match i, hi, hiw with
  | 0, hi, _ => exact hr
  | 1, hi, hw => rw [← get_in s (p + 1) hi]; exact k1 hw
  | 2, hi, hw => rw [← get_in s (p + 2) hi]; exact k2 hw
  | 3, hi, hw => rw [← get_in s (p + 3) hi]; exact k3 hw
  | i + 4, hi, hw => omega
end Go.Proofs.YtdjphpobhbelaaaDoor
