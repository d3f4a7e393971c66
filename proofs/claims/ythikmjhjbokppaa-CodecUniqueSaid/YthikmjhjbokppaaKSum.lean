/- The contracts of codec's checksum, Sum, sumBytes, and of the reference's Sum. -/
import Derived.Test.YthikmjhjbokppaaKTake
namespace Go.Proofs.Ythikmjhjbokppaa
open Go.RowKit
set_option linter.unusedVariables false

def crcStep (r : Nat) : Nat := (r / 2) ^^^ (r % 2 * 2197175160)
def crcN : Nat → Nat → Nat
  | 0, r => r
  | k + 1, r => crcN k (crcStep r)
def crcF : Nat → List UInt8 → Nat
  | r, [] => r
  | r, c :: l => crcF (crcN 8 (r ^^^ c.toNat)) l
/-- The checksum. -/
def crcSum (l : List UInt8) : Nat := 4294967295 - crcF 4294967295 l

theorem crcStep_lt {r : Nat} (h : r < 4294967296) : crcStep r < 4294967296 :=
  Nat.xor_lt_two_pow (n := 32) (by omega) (by have : r % 2 < 2 := Nat.mod_lt _ (by omega); omega)
theorem crcN_lt : ∀ (k r : Nat), r < 4294967296 → crcN k r < 4294967296
  | 0, _, h => h
  | k + 1, _, h => crcN_lt k _ (crcStep_lt h)
theorem crcIn_lt {r : Nat} (c : UInt8) (h : r < 4294967296) : r ^^^ c.toNat < 4294967296 :=
  Nat.xor_lt_two_pow (n := 32) h (by have := UInt8.toNat_lt c; omega)
theorem crcF_lt : ∀ (l : List UInt8) (r : Nat), r < 4294967296 → crcF r l < 4294967296
  | [], _, h => h
  | c :: l, _, h => crcF_lt l _ (crcN_lt 8 _ (crcIn_lt c h))

theorem not32 {r : Nat} (h : r < 4294967296) : 4294967295 ^^^ r = 4294967295 - r := by
  have h1 : (BitVec.allOnes 32 ^^^ BitVec.ofNat 32 r).toNat = (~~~ BitVec.ofNat 32 r).toNat := by rw [BitVec.allOnes_xor]
  rw [BitVec.toNat_xor, BitVec.toNat_not, BitVec.toNat_ofNat, Nat.mod_eq_of_lt (by omega)] at h1
  have h2 : (BitVec.allOnes 32).toNat = 4294967295 := by decide
  rw [h2] at h1
  rw [h1]
theorem bits_not32 {r : Nat} (h : r < 4294967296) : bits .xor .u32 IntKind.u32.max (r : Int) = ((4294967295 - r : Nat) : Int) := by
  have h1 := u32_xor_nat 4294967295 r (by decide) h
  rw [not32 h] at h1
  exact h1

set_option maxHeartbeats 2000000 in
theorem checksum_c (B : Nat) (A : Option Addr) (l : List UInt8) (c : Nat) (w : World) (hA : ByAt w B A l) (hl : l.length ≤ 1000000) :
    Calls Try.prog 38 #[.slice A l.length c] w fun e w' => e = .returned (.int .u32 (crcSum l)) ∧ w = w' := by
  have HS : Hid (crcSum l = 4294967295 - crcF 4294967295 l) := Lib.hid rfl
  generalize crcSum l = S at *
  go_enter Try.func38, Try.ntmps38
  go_wp2_with fail
  go_loop [3, 9] (fun rv iv => ∃ (k r : Nat), iv = .int .i64 k ∧ rv = .int .u32 r ∧ k ≤ l.length ∧ r < 4294967296 ∧ Hid (S = 4294967295 - crcF r (l.drop k))) (fun _ iv => l.length - (intOf iv).toNat)
  case atStart => exact ⟨0, 4294967295, rfl, rfl, by omega, by omega, HS⟩
  case round =>
    obtain ⟨k, r, rfl, rfl, hk, hr, hx⟩ := hrel
    by_cases hlt : k < l.length
    · have d1 : decide ((k : Int) < (l.length : Int)) = true := decide_eq_true (by omega)
      obtain ⟨b, off, rfl, _, hc⟩ : ∃ b off, A = some ⟨b, off, none⟩ ∧ b < B ∧ ∀ k (h : k < l.length), w.cell? ⟨b, off + k, none⟩ = some (.int .u8 (l[k]'h).toNat) := by
        rcases hA with rfl | h
        · simp at hlt
        · exact h
      have hcell := hc k hlt
      have hx2 := hx.out
      rw [List.drop_eq_getElem_cons hlt] at hx2
      generalize l[k]'hlt = x at *
      have hr0 := crcIn_lt x hr
      have hxor : bits .xor .u32 (r : Int) ((x.toNat : Int) % 4294967296) = ((r ^^^ x.toNat : Nat) : Int) := by
        have h8 := UInt8.toNat_lt x
        rw [show (x.toNat : Int) % 4294967296 = (x.toNat : Int) from by omega]
        exact u32_xor_nat r x.toNat hr (by omega)
      have Hx2 := Lib.hid hx2
      clear hc hx hx2 hA
      generalize hr1 : r ^^^ x.toNat = r1 at *
      have Hr1 := Lib.hid hr1
      clear hr1
      go_wp2_with fail
      go_loop [3, 17] (fun rv jv => ∃ (j r2 : Nat), jv = .int .i64 j ∧ rv = .int .u32 r2 ∧ j ≤ 8 ∧ r2 < 4294967296 ∧ Hid (crcN (8 - j) r2 = crcN 8 r1)) (fun _ jv => 8 - (intOf jv).toNat)
      case atStart => exact ⟨0, r1, rfl, rfl, by omega, hr0, Lib.hid rfl⟩
      case round =>
        obtain ⟨j, r2, rfl, rfl, hj, hr2, hy⟩ := hrel
        by_cases hj8 : j < 8
        · have d2 : decide ((j : Int) < (8 : Int)) = true := decide_eq_true (by omega)
          have d3 : decide (j < 8) = true := decide_eq_true hj8
          have hand : bits .and .u32 (r2 : Int) 1 = (r2 : Int) % 2 := by
            have h := u32_and_nat r2 1 hr2 (by decide)
            rw [Nat.and_one_is_mod] at h
            exact h
          have hy2 : Hid (crcN (8 - (j + 1)) (crcStep r2) = crcN 8 r1) := Lib.hid (by
            rw [← hy.out, show 8 - j = (8 - (j + 1)) + 1 from by omega]
            rfl)
          have hstep : bits .xor .u32 ((r2 : Int) / 2) ((r2 : Int) % 2 * 2197175160) = ((crcStep r2 : Nat) : Int) := by
            have h := u32_xor_nat (r2 / 2) (r2 % 2 * 2197175160) (by omega) (by have : r2 % 2 < 2 := Nat.mod_lt _ (by omega); omega)
            rw [show ((r2 : Int) / 2) = ((r2 / 2 : Nat) : Int) from by omega, show ((r2 : Int) % 2 * 2197175160) = ((r2 % 2 * 2197175160 : Nat) : Int) from by omega, h]
            rfl
          have hst := crcStep_lt hr2
          have hw : IntKind.u32.wrap ((r2 : Int) % 2 * 2197175160) = (r2 : Int) % 2 * 2197175160 := IntWalk.u32_in _ (by omega)
          go_wp2_with fail
          go_round
          case rel => exact ⟨j + 1, crcStep r2, by go_num, by first | rfl | rw [hstep], by omega, hst, hy2⟩
          case measure => simp [intOf]; omega
        · have hj0 : j = 8 := by omega
          subst hj0
          have hfin : Hid (S = 4294967295 - crcF r2 (l.drop (k + 1))) := Lib.hid (by
            have := Hx2.out
            rw [crcF, Hr1.out] at this
            rw [this, ← hy.out]
            rfl)
          go_wp2_with fail
          go_round
          case rel => exact ⟨k + 1, r2, by go_num, rfl, by omega, hr2, hfin⟩
          case measure => simp [intOf]; omega
    · have hkl : k = l.length := by omega
      subst hkl
      have d1 : decide ((l.length : Int) < (l.length : Int)) = false := decide_eq_false (by omega)
      have hS := hx.out
      rw [List.drop_length, crcF] at hS
      subst hS
      go_wp2_with fail
      go_ret
      refine ⟨?_, rfl⟩
      rw [← bits_not32 hr]
      rfl
end Go.Proofs.Ythikmjhjbokppaa
