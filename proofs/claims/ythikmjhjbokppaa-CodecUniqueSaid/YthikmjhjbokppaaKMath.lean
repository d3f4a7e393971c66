/- The encoding of integers, and what reads it. -/
import Derived.Lib.Hide
namespace Go.Proofs.Ythikmjhjbokppaa

/-- The number that an integer is written as. -/
def zz (n : Int) : Nat := if n < 0 then (-2 * n - 1).toNat else (2 * n).toNat
def unz (z : Nat) : Int := if z % 2 = 1 then -((z / 2 : Nat) : Int) - 1 else ((z / 2 : Nat) : Int)
/-- A number in groups of seven bits. -/
def putZ (z : Nat) : List UInt8 := if z < 128 then [z.toUInt8] else (z % 128 + 128).toUInt8 :: putZ (z / 128)
termination_by z
/-- What reads it: the integer, how many bytes, the error's number. -/
def tk : Nat → Nat → List UInt8 → Int × Nat × Nat
  | _, _, [] => (0, 0, 28)
  | i, z, c :: r => if (i = 9 ∧ c ≠ 1) ∨ (0 < i ∧ c = 0) then (0, 0, 6) else if c.toNat < 128 then (unz (z + c.toNat % 128 * 2 ^ (7 * i)), i + 1, 0) else tk (i + 1) (z + c.toNat % 128 * 2 ^ (7 * i)) r

theorem tk_nil (i z : Nat) : tk i z [] = (0, 0, 28) := by rw [tk]
theorem tk_cons (i z : Nat) (c : UInt8) (r : List UInt8) : tk i z (c :: r) = if (i = 9 ∧ c ≠ 1) ∨ (0 < i ∧ c = 0) then (0, 0, 6) else if c.toNat < 128 then (unz (z + c.toNat % 128 * 2 ^ (7 * i)), i + 1, 0) else tk (i + 1) (z + c.toNat % 128 * 2 ^ (7 * i)) r := by rw [tk]

theorem unz_zz (n : Int) : unz (zz n) = n := by
  unfold unz zz
  split <;> split <;> omega
theorem zz_unz (z : Nat) : zz (unz z) = z := by
  unfold unz zz
  split <;> split <;> omega
theorem zz_lt {n : Int} (h0 : -9223372036854775808 ≤ n) (h1 : n ≤ 9223372036854775807) : zz n < 2 ^ 64 := by
  unfold zz
  split <;> omega

theorem u8_toNat {n : Nat} (h : n < 256) : n.toUInt8.toNat = n := by simp; omega
theorem u8_ext {a b : UInt8} (h : a.toNat = b.toNat) : a = b := UInt8.toNat_inj.1 h

theorem pow7 (i : Nat) : 2 ^ (7 * (i + 1)) = 128 * 2 ^ (7 * i) := by
  rw [Nat.mul_add, Nat.pow_add]; omega
theorem putZ_lt {z : Nat} (h : z < 128) : putZ z = [z.toUInt8] := by rw [putZ, if_pos h]
theorem putZ_ge {z : Nat} (h : ¬ z < 128) : putZ z = (z % 128 + 128).toUInt8 :: putZ (z / 128) := by rw [putZ, if_neg h]
theorem putZ_pos (z : Nat) : 1 ≤ (putZ z).length := by
  by_cases h : z < 128
  · rw [putZ_lt h]; exact Nat.le_refl _
  · rw [putZ_ge h]; simp

/-- z at the place i fits. -/
theorem group_fits {z i : Nat} (hi : i ≤ 9) (hz : z * 2 ^ (7 * i) < 2 ^ 64) (h128 : ¬ z < 128) : i + 1 ≤ 9 ∧ z / 128 * 2 ^ (7 * (i + 1)) < 2 ^ 64 := by
  constructor
  · by_cases h9 : i = 9
    · subst h9
      have h1 : 128 * 2 ^ (7 * 9) ≤ z * 2 ^ (7 * 9) := Nat.mul_le_mul_right _ (by omega)
      have h2 : (2 : Nat) ^ 64 < 128 * 2 ^ (7 * 9) := by decide
      omega
    · omega
  · rw [pow7, ← Nat.mul_assoc]
    have : z / 128 * 128 ≤ z := Nat.div_mul_le_self _ _
    have := Nat.mul_le_mul_right (2 ^ (7 * i)) this
    omega
theorem group_nine {z : Nat} (hz : z * 2 ^ (7 * 9) < 2 ^ 64) : z < 2 := by
  rcases Nat.lt_or_ge z 2 with h | h
  · exact h
  · have h1 : 2 * 2 ^ (7 * 9) ≤ z * 2 ^ (7 * 9) := Nat.mul_le_mul_right _ h
    have h2 : (2 : Nat) ^ 64 = 2 * 2 ^ (7 * 9) := by decide
    omega
theorem group_sum (z i acc : Nat) : acc + z % 128 * 2 ^ (7 * i) + z / 128 * 2 ^ (7 * (i + 1)) = acc + z * 2 ^ (7 * i) := by
  rw [pow7, ← Nat.mul_assoc, Nat.add_assoc, ← Nat.add_mul]
  congr 2
  omega

theorem tk_put (rest : List UInt8) : ∀ (z i acc : Nat), i ≤ 9 → z * 2 ^ (7 * i) < 2 ^ 64 → (0 < i → 1 ≤ z) → tk i acc (putZ z ++ rest) = (unz (acc + z * 2 ^ (7 * i)), i + (putZ z).length, 0) := by
  intro z
  induction z using Nat.strongRecOn with
  | ind z ih =>
    intro i acc hi hz h1
    by_cases h : z < 128
    · rw [putZ_lt h, List.singleton_append, tk_cons]
      have e := u8_toNat (show z < 256 by omega)
      rw [if_neg, if_pos (by rw [e]; exact h), e, Nat.mod_eq_of_lt h]
      · rfl
      · rintro (⟨rfl, h2⟩ | ⟨h2, h3⟩)
        · have := group_nine hz
          apply h2
          apply u8_ext
          rw [e]
          have := h1 (by omega)
          show z = 1
          omega
        · have := congrArg UInt8.toNat h3
          rw [e] at this
          have : z = 0 := this
          have := h1 h2
          omega
    · rw [putZ_ge h, List.cons_append, tk_cons]
      have e := u8_toNat (show z % 128 + 128 < 256 by omega)
      obtain ⟨g1, g2⟩ := group_fits hi hz h
      rw [if_neg, if_neg (by rw [e]; omega), e, show (z % 128 + 128) % 128 = z % 128 from by omega, ih (z / 128) (by omega) (i + 1) _ g1 g2 (by omega), group_sum, List.length_cons, Nat.add_right_comm, Nat.add_assoc]
      rintro (⟨rfl, h2⟩ | ⟨h2, h3⟩)
      · omega
      · have := congrArg UInt8.toNat h3
        rw [e] at this
        have : z % 128 + 128 = 0 := this
        omega

theorem tk_short : ∀ (z i acc j : Nat), i ≤ 9 → z * 2 ^ (7 * i) < 2 ^ 64 → j < (putZ z).length → tk i acc ((putZ z).take j) = (0, 0, 28) := by
  intro z
  induction z using Nat.strongRecOn with
  | ind z ih =>
    intro i acc j hi hz hj
    by_cases h : z < 128
    · rw [putZ_lt h] at hj
      have : j = 0 := by simpa using hj
      subst this
      rw [List.take_zero, tk_nil]
    · rw [putZ_ge h] at hj ⊢
      rcases j with _ | j
      · rw [List.take_zero, tk_nil]
      · rw [List.take_succ_cons, tk_cons]
        have e := u8_toNat (show z % 128 + 128 < 256 by omega)
        obtain ⟨g1, g2⟩ := group_fits hi hz h
        rw [if_neg, if_neg (by rw [e]; omega), ih (z / 128) (by omega) (i + 1) _ j g1 g2 (by simpa using hj)]
        rintro (⟨rfl, h2⟩ | ⟨h2, h3⟩)
        · omega
        · have := congrArg UInt8.toNat h3
          rw [e] at this
          have : z % 128 + 128 = 0 := this
          omega

theorem tk_unique : ∀ (l : List UInt8) (i acc k : Nat) (n : Int), tk i acc l = (n, k, 0) → ∃ z, n = unz (acc + z * 2 ^ (7 * i)) ∧ (0 < i → 1 ≤ z) ∧ i < k ∧ k ≤ i + l.length ∧ l.take (k - i) = putZ z
  | [], i, acc, k, n, h => by rw [tk_nil] at h; simp at h
  | c :: r, i, acc, k, n, h => by
    rw [tk_cons] at h
    split at h
    · simp at h
    rename_i h1
    have hc := UInt8.toNat_lt c
    split at h
    · rename_i h2
      simp only [Prod.mk.injEq] at h
      obtain ⟨rfl, rfl, _⟩ := h
      refine ⟨c.toNat, by rw [Nat.mod_eq_of_lt h2], fun h0 => ?_, by omega, by simp, ?_⟩
      · rcases Nat.eq_zero_or_pos c.toNat with h3 | h3
        · exact absurd (.inr ⟨h0, u8_ext h3⟩) h1
        · exact h3
      · rw [show i + 1 - i = 1 from by omega, putZ_lt h2, List.take_succ_cons, List.take_zero]
        congr 1
        exact u8_ext (by rw [u8_toNat (by omega)])
    · rename_i h2
      obtain ⟨z, e1, e2, e3, e4, e5⟩ := tk_unique r (i + 1) _ k n h
      have hz1 := e2 (by omega)
      refine ⟨c.toNat % 128 + 128 * z, ?_, by omega, by omega, by simp; omega, ?_⟩
      · rw [e1, pow7]
        congr 1
        rw [Nat.add_mul, Nat.add_assoc]
        congr 2
        rw [← Nat.mul_assoc, Nat.mul_comm z 128]
      · rw [show k - i = (k - (i + 1)) + 1 from by omega, List.take_succ_cons, e5, putZ_ge (z := c.toNat % 128 + 128 * z) (by omega), show (c.toNat % 128 + 128 * z) / 128 = z from by omega]
        congr 1
        exact u8_ext (by rw [u8_toNat (by omega)]; omega)

theorem putZ_len : ∀ (z i : Nat), i ≤ 9 → z * 2 ^ (7 * i) < 2 ^ 64 → i + (putZ z).length ≤ 10 := by
  intro z
  induction z using Nat.strongRecOn with
  | ind z ih =>
    intro i hi hz
    by_cases h : z < 128
    · rw [putZ_lt h]; simp; omega
    · obtain ⟨g1, g2⟩ := group_fits hi hz h
      have := ih (z / 128) (by omega) (i + 1) g1 g2
      rw [putZ_ge h, List.length_cons]
      omega

/-- The encoding of an integer. -/
def encI (n : Int) : List UInt8 := putZ (zz n)
theorem encI_len {n : Int} (h0 : -9223372036854775808 ≤ n) (h1 : n ≤ 9223372036854775807) : (encI n).length ≤ 10 := by
  have := putZ_len (zz n) 0 (by omega) (by have := zz_lt h0 h1; omega)
  unfold encI
  omega
/-- What reads one: the integer, how many bytes, the error's number. -/
def takeI (l : List UInt8) : Int × Nat × Nat := tk 0 0 l

theorem takeI_enc {n : Int} (h0 : -9223372036854775808 ≤ n) (h1 : n ≤ 9223372036854775807) (rest : List UInt8) : takeI (encI n ++ rest) = (n, (encI n).length, 0) := by
  unfold takeI encI
  rw [tk_put rest (zz n) 0 0 (by omega) (by have := zz_lt h0 h1; omega) (by omega)]
  simp [unz_zz]
theorem takeI_short {n : Int} (h0 : -9223372036854775808 ≤ n) (h1 : n ≤ 9223372036854775807) {j : Nat} (hj : j < (encI n).length) : takeI ((encI n).take j) = (0, 0, 28) :=
  tk_short (zz n) 0 0 j (by omega) (by have := zz_lt h0 h1; omega) hj
theorem takeI_unique {l : List UInt8} {n : Int} {k : Nat} (h : takeI l = (n, k, 0)) : 0 < k ∧ k ≤ l.length ∧ l.take k = encI n := by
  obtain ⟨z, e1, _, e3, e4, e5⟩ := tk_unique l 0 0 k n h
  refine ⟨e3, by omega, ?_⟩
  unfold encI
  rw [Nat.sub_zero] at e5
  rw [e5, e1]
  simp [zz_unz]
/-- What is read is a number of 64 bits. -/
theorem tk_fits : ∀ (l : List UInt8) (i acc : Nat), i ≤ 9 → acc < 2 ^ (7 * i) → -9223372036854775808 ≤ (tk i acc l).1 ∧ (tk i acc l).1 ≤ 9223372036854775807 ∧ (tk i acc l).2.1 ≤ i + l.length
  | [], i, acc, _, _ => by rw [tk_nil]; simp
  | c :: r, i, acc, hi, ha => by
    have hc := UInt8.toNat_lt c
    rw [tk_cons]
    split
    · simp
    rename_i h1
    have hp : acc + c.toNat % 128 * 2 ^ (7 * i) < 2 ^ (7 * (i + 1)) := by
      rw [pow7]
      have : c.toNat % 128 * 2 ^ (7 * i) ≤ 127 * 2 ^ (7 * i) := Nat.mul_le_mul_right _ (by omega)
      omega
    split
    · rename_i h2
      have hz : acc + c.toNat % 128 * 2 ^ (7 * i) < 2 ^ 64 := by
        by_cases h9 : i = 9
        · subst h9
          have hc1 : c = 1 := by
            by_cases h : c = 1
            · exact h
            · exact absurd (.inl ⟨rfl, h⟩) h1
          subst hc1
          have e : (UInt8.toNat 1) % 128 * 2 ^ (7 * 9) = 2 ^ 63 := rfl
          rw [e]
          have h6 : (2 : Nat) ^ (7 * 9) + 2 ^ 63 = 2 ^ 64 := rfl
          rw [← h6]
          exact Nat.add_lt_add_right ha _
        · have : (2 : Nat) ^ (7 * (i + 1)) ≤ 2 ^ 63 := Nat.pow_le_pow_right (by omega) (by omega)
          have : (2 : Nat) ^ 63 < 2 ^ 64 := Nat.pow_lt_pow_right (by omega) (by omega)
          omega
      generalize acc + c.toNat % 128 * 2 ^ (7 * i) = z at *
      have h64 : (2 : Nat) ^ 64 = 18446744073709551616 := rfl
      rw [h64] at hz
      refine ⟨?_, ?_, by simp⟩
      · show -9223372036854775808 ≤ unz z
        unfold unz; split <;> omega
      · show unz z ≤ _
        unfold unz; split <;> omega
    · rename_i h2
      have hi8 : i + 1 ≤ 9 := by
        by_cases h9 : i = 9
        · subst h9
          exfalso
          by_cases h : c = 1
          · subst h; exact h2 (by decide)
          · exact h1 (.inl ⟨rfl, h⟩)
        · omega
      have := tk_fits r (i + 1) _ hi8 hp
      refine ⟨this.1, this.2.1, ?_⟩
      have := this.2.2
      simp
      omega
end Go.Proofs.Ythikmjhjbokppaa
