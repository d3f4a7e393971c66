/- The reference's TakeInt, TakeText. -/
import Derived.Test.YthikmjhjbokppaaKUniq
namespace Go.Proofs.Ythikmjhjbokppaa
open Go.RowKit
set_option linter.unusedVariables false

set_option maxHeartbeats 4000000 in
set_option maxRecDepth 100000 in
theorem rtakeInt_c (B : Nat) (A : Option Addr) (l : List UInt8) (c : Nat) (w : World) (hA : ByAt w B A l) (hl : l.length ≤ 1000000) :
    Calls Try.prog 37 #[.slice A l.length c] w fun e w' => e = .returned (.tuple #[.int .i64 (takeI l).1, .int .i64 (takeI l).2.1, .int .i64 (takeI l).2.2]) ∧ w = w' := by
  have HT : Hid (takeI l = tk 0 0 l) := Lib.hid rfl
  generalize takeI l = T at *
  obtain ⟨tn, tu, te⟩ := T
  go_enter Try.func37, Try.ntmps37
  go_wp2_with fail
  go_loop [5, 6] (fun zv iv => ∃ (z i : Nat), zv = .int .u64 z ∧ iv = .int .i64 i ∧ i ≤ 9 ∧ i ≤ l.length ∧ z < 2 ^ (7 * i) ∧ Hid ((tn, tu, te) = tk i z (l.drop i))) (fun _ iv => 10 - (intOf iv).toNat)
  case atStart => exact ⟨0, 0, rfl, rfl, by omega, by omega, by simp, HT⟩
  case round =>
    obtain ⟨z, i, rfl, rfl, hi, hil, hz, ht⟩ := hrel
    have s1 : decide ((i : Int) < 10) = true := decide_eq_true (by omega)
    have s1' : decide (i < 10) = true := decide_eq_true (by omega)
    by_cases hlt : i < l.length
    · have d1 : decide ((i : Int) < (l.length : Int)) = true := decide_eq_true (by omega)
      have d1' : decide (i < l.length) = true := decide_eq_true hlt
      obtain ⟨b, off, rfl, _, hc⟩ : ∃ b off, A = some ⟨b, off, none⟩ ∧ b < B ∧ ∀ k (h : k < l.length), w.cell? ⟨b, off + k, none⟩ = some (.int .u8 (l[k]'h).toNat) := by
        rcases hA with rfl | h
        · simp at hlt
        · exact h
      have hcell := hc i hlt
      have ht2 := ht.out
      rw [List.drop_eq_getElem_cons hlt, tk_cons] at ht2
      generalize l[i]'hlt = x at *
      have hx := UInt8.toNat_lt x
      have hx0 : x = 0 ↔ x.toNat = 0 := ⟨fun h => by rw [h]; rfl, fun h => u8_ext h⟩
      have hx1 : x = 1 ↔ x.toNat = 1 := ⟨fun h => by rw [h]; rfl, fun h => u8_ext h⟩
      clear ht hc hA HT
      by_cases hbad : (i = 9 ∧ x ≠ 1) ∨ (0 < i ∧ x = 0)
      · rw [if_pos hbad] at ht2
        simp only [Prod.mk.injEq] at ht2
        obtain ⟨rfl, rfl, rfl⟩ := ht2
        by_cases h9 : i = 9 ∧ x ≠ 1
        · have t2 : ((x.toNat : Int) != 1) = true := by rw [bne_iff_ne]; have := h9.2; rw [ne_eq, hx1] at this; omega
          have t2' : (x.toNat != 1) = true := by rw [bne_iff_ne]; have := h9.2; rw [ne_eq, hx1] at this; omega
          obtain ⟨rfl, _⟩ := h9
          clear hbad hx0 hx1
          go_wp2_with fail
          go_ret3
          exact ⟨rfl, rfl⟩
        · have hb3 : 0 < i ∧ x = 0 := by
            rcases hbad with h | h
            · exact absurd h h9
            · exact h
          have t1 : ((i : Int) == 9) = false := by rw [beq_eq_false_iff_ne]; intro e; exact h9 ⟨by omega, by rw [hb3.2]; decide⟩
          have t3 : decide ((0 : Int) < (i : Int)) = true := decide_eq_true (by omega)
          have t4 : ((x.toNat : Int) == 0) = true := by rw [beq_iff_eq]; have := hx0.1 hb3.2; omega
          have t1' : (i == 9) = false := by rw [beq_eq_false_iff_ne]; intro e; exact h9 ⟨by omega, by rw [hb3.2]; decide⟩
          have t3' : decide (0 < i) = true := decide_eq_true (by omega)
          have t4' : (x.toNat == 0) = true := by rw [beq_iff_eq]; have := hx0.1 hb3.2; omega
          clear hbad hx0 hx1 h9 hb3
          go_wp2_with fail
          go_ret3
          exact ⟨rfl, rfl⟩
      · rw [if_neg hbad] at ht2
        have hs1 : (((i : Int) == 9) = false) ∨ (((i : Int) == 9) = true ∧ ((x.toNat : Int) != 1) = false) := by
          by_cases h9 : i = 9
          · right
            refine ⟨by rw [beq_iff_eq]; omega, ?_⟩
            rw [bne_eq_false_iff_eq]
            by_cases h : x = 1
            · have := hx1.1 h; omega
            · exact absurd (.inl ⟨h9, h⟩) hbad
          · left; rw [beq_eq_false_iff_ne]; omega
        have hs2 : (decide ((0 : Int) < (i : Int)) = false ∧ decide (0 < i) = false) ∨ ((decide ((0 : Int) < (i : Int)) = true ∧ decide (0 < i) = true) ∧ ((x.toNat : Int) == 0) = false) := by
          by_cases h0 : 0 < i
          · right
            refine ⟨⟨decide_eq_true (by omega), decide_eq_true h0⟩, ?_⟩
            rw [beq_eq_false_iff_ne]
            intro h
            exact hbad (.inr ⟨h0, hx0.2 (by omega)⟩)
          · left; exact ⟨decide_eq_false (by omega), decide_eq_false h0⟩
        have hfit : z + x.toNat % 128 * 2 ^ (7 * i) < 18446744073709551616 := by
          by_cases h9 : i = 9
          · subst h9
            have h1 : x.toNat = 1 := by
              by_cases h : x = 1
              · exact hx1.1 h
              · exact absurd (.inl ⟨rfl, h⟩) hbad
            rw [h1]
            have e1 : (2 : Nat) ^ (7 * 9) = 9223372036854775808 := rfl
            rw [e1] at hz ⊢
            omega
          · have h1 : z + x.toNat % 128 * 2 ^ (7 * i) < 2 ^ (7 * (i + 1)) := by
              rw [pow7]
              have : x.toNat % 128 * 2 ^ (7 * i) ≤ 127 * 2 ^ (7 * i) := Nat.mul_le_mul_right _ (by omega)
              omega
            have h2 : (2 : Nat) ^ (7 * (i + 1)) ≤ 2 ^ 63 := Nat.pow_le_pow_right (by omega) (by omega)
            have h3 : (2 : Nat) ^ 63 = 9223372036854775808 := rfl
            omega
        clear hbad hx0 hx1
        have hsum : IntKind.u64.wrap ((z : Int) + IntKind.u64.wrap ((x.toNat : Int) % 128 * 2 ^ (7 * i))) = ((z + x.toNat % 128 * 2 ^ (7 * i) : Nat) : Int) := by
          have e1 : (x.toNat : Int) % 128 * 2 ^ (7 * i) = ((x.toNat % 128 * 2 ^ (7 * i) : Nat) : Int) := by simp
          rw [e1]
          have hq : x.toNat % 128 * 2 ^ (7 * i) < 18446744073709551616 := by omega
          generalize x.toNat % 128 * 2 ^ (7 * i) = q at hfit hq ⊢
          rw [IntWalk.u64_in (q : Int) (by omega), IntWalk.u64_in ((z : Int) + (q : Int)) (by omega)]
          omega
        by_cases hsm : x.toNat < 128
        · rw [if_pos hsm] at ht2
          simp only [Prod.mk.injEq] at ht2
          obtain ⟨htn, rfl, rfl⟩ := ht2
          generalize z + x.toNat % 128 * 2 ^ (7 * i) = z2 at *
          have t5 : decide (128 ≤ x.toNat) = false := decide_eq_false (by omega)
          have t6 : decide ((128 : Int) ≤ (x.toNat : Int)) = false := decide_eq_false (by omega)
          have hw1 : IntKind.i64.wrap ((z2 : Int) / 2) = (z2 : Int) / 2 := IntWalk.i64_in _ (by omega)
          have hw2 : IntKind.i64.wrap (-((z2 : Int) / 2)) = -((z2 : Int) / 2) := IntWalk.i64_in _ (by omega)
          have hw3 : IntKind.i64.wrap (-((z2 : Int) / 2) - 1) = -((z2 : Int) / 2) - 1 := IntWalk.i64_in _ (by omega)
          by_cases hodd : z2 % 2 = 1
          · have hu : unz z2 = -((z2 : Int) / 2) - 1 := by unfold unz; rw [if_pos hodd]; omega
            rw [hu] at htn
            subst htn
            have t7 : ((z2 : Int) % 2 == 1) = true := by rw [beq_iff_eq]; omega
            have t7' : (z2 % 2 == 1) = true := by rw [beq_iff_eq]; omega
            clear hodd
            rcases hs1 with hs1 | ⟨hs1, hs1'⟩ <;> rcases hs2 with ⟨hs2, hs3⟩ | ⟨⟨hs2, hs3⟩, hs2'⟩
            all_goals
              go_wp2_with fail
              go_ret3
              exact ⟨rfl, rfl⟩
          · have hu : unz z2 = (z2 : Int) / 2 := by unfold unz; rw [if_neg hodd]; omega
            rw [hu] at htn
            subst htn
            have t7 : ((z2 : Int) % 2 == 1) = false := by rw [beq_eq_false_iff_ne]; omega
            have t7' : (z2 % 2 == 1) = false := by rw [beq_eq_false_iff_ne]; omega
            clear hodd
            rcases hs1 with hs1 | ⟨hs1, hs1'⟩ <;> rcases hs2 with ⟨hs2, hs3⟩ | ⟨⟨hs2, hs3⟩, hs2'⟩
            all_goals
              go_wp2_with fail
              go_ret3
              exact ⟨rfl, rfl⟩
        · rw [if_neg hsm] at ht2
          have t5 : decide (128 ≤ x.toNat) = true := decide_eq_true (by omega)
          have t6 : decide ((128 : Int) ≤ (x.toNat : Int)) = true := decide_eq_true (by omega)
          have hi8 : i + 1 ≤ 9 := by
            by_cases h9 : i = 9
            · subst h9
              exfalso
              rcases hs1 with h | ⟨_, h⟩
              · exact absurd h (by decide)
              · rw [bne_eq_false_iff_eq] at h; omega
            · omega
          have hz2 : z + x.toNat % 128 * 2 ^ (7 * i) < 2 ^ (7 * (i + 1)) := by
            rw [pow7]
            have : x.toNat % 128 * 2 ^ (7 * i) ≤ 127 * 2 ^ (7 * i) := Nat.mul_le_mul_right _ (by omega)
            omega
          have Ht2 := Lib.hid ht2
          have Hz2 := Lib.hid hz2
          clear ht2 hz2
          rcases hs1 with hs1 | ⟨hs1, hs1'⟩ <;> rcases hs2 with ⟨hs2, hs3⟩ | ⟨⟨hs2, hs3⟩, hs2'⟩
          all_goals
            go_wp2_with fail
            all_goals go_round
            all_goals first | exact ⟨_, i + 1, by first | rfl | rw [hsum], by go_num, hi8, by omega, Hz2.out, Ht2⟩ | (simp [intOf]; omega)
    · have hil2 : i = l.length := by omega
      have d1 : decide ((i : Int) < (l.length : Int)) = false := decide_eq_false (by omega)
      have d1' : decide (i < l.length) = false := decide_eq_false hlt
      have ht2 := ht.out
      rw [List.drop_of_length_le (by omega), tk_nil] at ht2
      simp only [Prod.mk.injEq] at ht2
      obtain ⟨rfl, rfl, rfl⟩ := ht2
      clear ht HT hil2
      go_wp2_with fail
      go_ret3
      exact ⟨rfl, rfl⟩
end Go.Proofs.Ythikmjhjbokppaa
