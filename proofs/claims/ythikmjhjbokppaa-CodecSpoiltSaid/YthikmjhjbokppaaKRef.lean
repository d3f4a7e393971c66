/- The reference's Sum and PutInt; what changing one byte does to a checksum. -/
import Derived.Test.YthikmjhjbokppaaKAwake
namespace Go.Proofs.Ythikmjhjbokppaa
open Go.RowKit
set_option linter.unusedVariables false

theorem crcStep_odd (r : Nat) (h : r % 2 = 1) : crcStep r = (r / 2) ^^^ 2197175160 := by unfold crcStep; rw [h]
theorem crcStep_even (r : Nat) (h : ¬ r % 2 = 1) : crcStep r = r / 2 := by
  unfold crcStep
  rw [show r % 2 = 0 from by omega]
  simp
theorem xor_cancel {a b u : Nat} (h : a ^^^ u = b ^^^ u) : a = b := by
  have h1 := congrArg (· ^^^ u) h
  simpa [Nat.xor_assoc] using h1
theorem crcStep_inj {a b : Nat} (ha : a < 4294967296) (hb : b < 4294967296) (h : crcStep a = crcStep b) : a = b := by
  have hbit : ∀ x, x < 4294967296 → Nat.testBit (x / 2) 31 = false := fun x hx => Nat.testBit_lt_two_pow (by omega)
  have hP : Nat.testBit 2197175160 31 = true := by decide
  by_cases h1 : a % 2 = 1 <;> by_cases h2 : b % 2 = 1
  · rw [crcStep_odd a h1, crcStep_odd b h2] at h
    have := xor_cancel h
    omega
  · rw [crcStep_odd a h1, crcStep_even b h2] at h
    have h3 := congrArg (fun n => Nat.testBit n 31) h
    simp only [Nat.testBit_xor, hbit a ha, hbit b hb, hP] at h3
    exact absurd h3 (by decide)
  · rw [crcStep_even a h1, crcStep_odd b h2] at h
    have h3 := congrArg (fun n => Nat.testBit n 31) h
    simp only [Nat.testBit_xor, hbit a ha, hbit b hb, hP] at h3
    exact absurd h3 (by decide)
  · rw [crcStep_even a h1, crcStep_even b h2] at h
    omega
theorem crcN_inj : ∀ (k a b : Nat), a < 4294967296 → b < 4294967296 → crcN k a = crcN k b → a = b
  | 0, _, _, _, _, h => h
  | k + 1, a, b, ha, hb, h => crcStep_inj ha hb (crcN_inj k _ _ (crcStep_lt ha) (crcStep_lt hb) h)
theorem crcF_inj : ∀ (l : List UInt8) (a b : Nat), a < 4294967296 → b < 4294967296 → crcF a l = crcF b l → a = b
  | [], _, _, _, _, h => h
  | c :: l, a, b, ha, hb, h => by
    have h1 := crcF_inj l _ _ (crcN_lt 8 _ (crcIn_lt c ha)) (crcN_lt 8 _ (crcIn_lt c hb)) h
    have h2 := crcN_inj 8 _ _ (crcIn_lt c ha) (crcIn_lt c hb) h1
    exact xor_cancel h2
theorem crcF_set : ∀ (l : List UInt8) (i r : Nat) (y : UInt8) (hi : i < l.length), r < 4294967296 → y ≠ l[i]'hi → crcF r (l.set i y) ≠ crcF r l
  | [], i, _, _, hi, _, _ => by simp at hi
  | c :: l, 0, r, y, hi, hr, hy => by
    intro h
    have h1 := crcF_inj l _ _ (crcN_lt 8 _ (crcIn_lt y hr)) (crcN_lt 8 _ (crcIn_lt c hr)) h
    have h2 := crcN_inj 8 _ _ (crcIn_lt y hr) (crcIn_lt c hr) h1
    rw [Nat.xor_comm r, Nat.xor_comm r] at h2
    exact hy (u8_ext (xor_cancel h2))
  | c :: l, i + 1, r, y, hi, hr, hy => by
    intro h
    exact crcF_set l i _ y (by simpa using hi) (crcN_lt 8 _ (crcIn_lt c hr)) (by simpa using hy) h
theorem crcSum_set (l : List UInt8) (i : Nat) (y : UInt8) (hi : i < l.length) (hy : y ≠ l[i]'hi) : crcSum (l.set i y) ≠ crcSum l := by
  have h := crcF_set l i 4294967295 y hi (by omega) hy
  have h1 := crcF_lt l 4294967295 (by omega)
  have h2 := crcF_lt (l.set i y) 4294967295 (by omega)
  unfold crcSum
  omega

set_option maxHeartbeats 2000000 in
theorem rsum_c (B : Nat) (A : Option Addr) (l : List UInt8) (c : Nat) (w : World) (hA : ByAt w B A l) (hl : l.length ≤ 1000000) :
    Calls Try.prog 18 #[.slice A l.length c] w fun e w' => e = .returned (.int .i64 (crcSum l)) ∧ w = w' := by
  have HS : Hid (crcSum l = 4294967295 - crcF 4294967295 l) := Lib.hid rfl
  generalize crcSum l = S at *
  go_enter Try.func18, Try.ntmps18
  go_wp2_with fail
  go_loop [3, 4] (fun rv iv => ∃ (k r : Nat), iv = .int .i64 k ∧ rv = .int .u32 r ∧ k ≤ l.length ∧ r < 4294967296 ∧ Hid (S = 4294967295 - crcF r (l.drop k))) (fun _ iv => l.length - (intOf iv).toNat)
  case atStart => exact ⟨0, 4294967295, rfl, rfl, by omega, by omega, HS⟩
  case round =>
    obtain ⟨k, r, rfl, rfl, hk, hr, hx⟩ := hrel
    by_cases hlt : k < l.length
    · have d1 : decide ((k : Int) < (l.length : Int)) = true := decide_eq_true (by omega)
      have d1' : decide (k < l.length) = true := decide_eq_true hlt
      obtain ⟨b, off, rfl, _, hc⟩ : ∃ b off, A = some ⟨b, off, none⟩ ∧ b < B ∧ ∀ k (h : k < l.length), w.cell? ⟨b, off + k, none⟩ = some (.int .u8 (l[k]'h).toNat) := by
        rcases hA with rfl | h
        · simp at hlt
        · exact h
      have hcell := hc k hlt
      have hx2 := hx.out
      rw [List.drop_eq_getElem_cons hlt] at hx2
      generalize l[k]'hlt = x at *
      have hr0 := crcIn_lt x hr
      have hxor : bits .xor .u32 (r : Int) ((x.toNat : Int) % 4294967296) = ((r ^^^ x.toNat : Nat) : Int) := by
        have h8 := UInt8.toNat_lt x
        rw [show (x.toNat : Int) % 4294967296 = (x.toNat : Int) from by omega]
        exact u32_xor_nat r x.toNat hr (by omega)
      have Hx2 := Lib.hid hx2
      clear hc hx hx2 hA
      generalize hr1 : r ^^^ x.toNat = r1 at *
      have Hr1 := Lib.hid hr1
      clear hr1
      go_wp2_with fail
      go_loop [3, 5] (fun rv jv => ∃ (j r2 : Nat), jv = .int .i64 j ∧ rv = .int .u32 r2 ∧ j ≤ 8 ∧ r2 < 4294967296 ∧ Hid (crcN (8 - j) r2 = crcN 8 r1)) (fun _ jv => 8 - (intOf jv).toNat)
      case atStart => exact ⟨0, r1, rfl, rfl, by omega, hr0, Lib.hid rfl⟩
      case round =>
        obtain ⟨j, r2, rfl, rfl, hj, hr2, hy⟩ := hrel
        by_cases hj8 : j < 8
        · have d2 : decide ((j : Int) < (8 : Int)) = true := decide_eq_true (by omega)
          have d3 : decide (j < 8) = true := decide_eq_true hj8
          have hy2 : Hid (crcN (8 - (j + 1)) (crcStep r2) = crcN 8 r1) := Lib.hid (by
            rw [← hy.out, show 8 - j = (8 - (j + 1)) + 1 from by omega]
            rfl)
          have hst := crcStep_lt hr2
          by_cases hodd : r2 % 2 = 1
          · have t1 : ((r2 : Int) % 2 == 1) = true := by rw [beq_iff_eq]; omega
            have t1' : (r2 % 2 == 1) = true := by rw [beq_iff_eq]; omega
            have hstep : bits .xor .u32 ((r2 : Int) / 2) 2197175160 = ((crcStep r2 : Nat) : Int) := by
              rw [crcStep_odd r2 hodd]
              exact u32_xor_nat (r2 / 2) 2197175160 (by omega) (by decide)
            clear hodd
            go_wp2_with fail
            go_round
            case rel => exact ⟨j + 1, crcStep r2, by go_num, by first | rfl | rw [hstep], by omega, hst, hy2⟩
            case measure => simp [intOf]; omega
          · have t1 : ((r2 : Int) % 2 == 1) = false := by rw [beq_eq_false_iff_ne]; omega
            have t1' : (r2 % 2 == 1) = false := by rw [beq_eq_false_iff_ne]; omega
            have hstep : ((r2 : Int) / 2) = ((crcStep r2 : Nat) : Int) := by rw [crcStep_even r2 hodd]; omega
            have Hstep := Lib.hid hstep
            clear hodd hstep
            go_wp2_with fail
            go_round
            case rel => exact ⟨j + 1, crcStep r2, by go_num, by rw [Hstep.out], by omega, hst, hy2⟩
            case measure => simp [intOf]; omega
        · have hj0 : j = 8 := by omega
          subst hj0
          have hfin : Hid (S = 4294967295 - crcF r2 (l.drop (k + 1))) := Lib.hid (by
            have := Hx2.out
            rw [crcF, Hr1.out] at this
            rw [this, ← hy.out]
            rfl)
          go_wp2_with fail
          go_round
          case rel => exact ⟨k + 1, r2, by go_num, rfl, by omega, hr2, hfin⟩
          case measure => simp [intOf]; omega
    · have hkl : k = l.length := by omega
      subst hkl
      have d1 : decide ((l.length : Int) < (l.length : Int)) = false := decide_eq_false (by omega)
      have hS := hx.out
      rw [List.drop_length, crcF] at hS
      subst hS
      have hw : IntKind.u32.wrap (4294967295 - (r : Int)) = 4294967295 - (r : Int) := IntWalk.u32_in _ (by omega)
      go_wp2_with fail
      go_ret
      refine ⟨?_, rfl⟩
      show Ending.returned (Value.int .i64 _) = _
      congr 2
      omega
end Go.Proofs.Ythikmjhjbokppaa
