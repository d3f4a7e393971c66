/- The reference's TakeText, TakeTexts. -/
import Derived.Test.YtdjphpobhbelaaaKRTake
namespace Go.Proofs.Ytdjphpobhbelaaa
open Go.RowKit
set_option linter.unusedVariables false

/-- A slice's rest from k on, as the machine writes its address. -/
theorem byAt_from {w : World} {B : Nat} {A : Option Addr} {l : List UInt8} (h : ByAt w B A l) (k c : Nat) (hl : l.length ≤ c) (hk : k ≤ c) : ByAt w B (if k = c then A else A.map (·.add k)) (l.drop k) := by
  by_cases hkc : k = c
  · rw [if_pos hkc]
    exact .inl (List.drop_of_length_le (by omega))
  · rw [if_neg hkc]
    exact byAt_drop h k

set_option maxHeartbeats 2000000 in
theorem rtakeText_c (B : Nat) (A : Option Addr) (l : List UInt8) (c : Nat) (w : World) (hA : ByAt w B A l) (hl : l.length ≤ 1000000) (hc : l.length ≤ c) (hm : c ≤ maxLen) :
    Calls Try.prog 15 #[.slice A l.length c] w fun e w' => e = .returned (.tuple #[.string ⟨(takeS l).1.toArray⟩, .int .i64 (takeS l).2.1, .int .i64 (takeS l).2.2]) ∧ w = w' := by
  have hS : takeS l = if (takeN l).2.2 ≠ 0 then ([], 0, (takeN l).2.2) else if l.length - (takeN l).2.1 < (takeN l).1 then ([], 0, 28) else ((l.drop (takeN l).2.1).take (takeN l).1, (takeN l).2.1 + (takeN l).1, 0) := rfl
  have hN : takeN l = if (takeI l).2.2 ≠ 0 then (0, 0, (takeI l).2.2) else if (takeI l).1 < 0 then (0, 0, 6) else ((takeI l).1.toNat, (takeI l).2.1, 0) := rfl
  have hfit := takeI_fits l
  have hti := rtakeInt_c B A l c w hA hl
  generalize takeS l = S at *
  generalize takeN l = N at *
  generalize takeI l = T at *
  obtain ⟨tn, tu, te⟩ := T
  simp only at hN hti hfit
  have Hti := Lib.hid hti
  clear hti
  have hmx : maxLen = 9223372036854775807 := rfl
  by_cases he : te ≠ 0
  · rw [if_pos he] at hN
    subst hN
    simp only [he, ne_eq, not_false_eq_true, if_true] at hS
    subst hS
    have t1 : ((te : Int) != 0) = true := by rw [bne_iff_ne]; omega
    go_enter Try.func15, Try.ntmps15
    go_wp2_with fail
    refine Hti.out.mono ?_
    rintro e w1 ⟨rfl, rfl⟩
    go_wp2_with fail
    go_ret3
    exact ⟨rfl, rfl⟩
  have he0 : te = 0 := by omega
  subst he0
  rw [if_neg he] at hN
  by_cases hneg : tn < 0
  · rw [if_pos hneg] at hN
    subst hN
    simp at hS
    subst hS
    have t1 : decide (tn < 0) = true := decide_eq_true hneg
    go_enter Try.func15, Try.ntmps15
    go_wp2_with fail
    refine Hti.out.mono ?_
    rintro e w1 ⟨rfl, rfl⟩
    go_wp2_with fail
    go_ret3
    exact ⟨rfl, rfl⟩
  rw [if_neg hneg] at hN
  obtain ⟨k, rfl⟩ := Int.eq_ofNat_of_zero_le (show 0 ≤ tn by omega)
  rw [Int.toNat_natCast] at hN
  subst hN
  simp only [ne_eq, not_true_eq_false, if_false] at hS
  have t1 : decide ((k : Int) < 0) = false := decide_eq_false (by omega)
  have i0 : (tu : Int) ≤ (l.length : Int) := by omega
  by_cases hsh : l.length - tu < k
  · rw [if_pos hsh] at hS
    subst hS
    have t2 : decide ((l.length : Int) - (tu : Int) < (k : Int)) = true := decide_eq_true (by omega)
    go_enter Try.func15, Try.ntmps15
    go_wp2_with fail
    refine Hti.out.mono ?_
    rintro e w1 ⟨rfl, rfl⟩
    go_wp2_with fail
    go_ret3
    exact ⟨rfl, rfl⟩
  · rw [if_neg hsh] at hS
    subst hS
    have t2 : decide ((l.length : Int) - (tu : Int) < (k : Int)) = false := decide_eq_false (by omega)
    have i1 : (tu : Int) ≤ (tu : Int) + (k : Int) := by omega
    have i2 : (tu : Int) + (k : Int) ≤ (l.length : Int) := by omega
    have i3 : (tu : Int) + (k : Int) ≤ (c : Int) := by omega
    have hby := byAt_take (byAt_from hA tu c hc (by omega)) k
    have hcv := fun cc => conv_by hby cc
    have hlen : ((l.drop tu).take k).length = k := by rw [List.length_take, List.length_drop]; omega
    rw [hlen] at hcv
    by_cases htc : tu = c
    · rw [if_pos htc] at hcv
      clear hby hlen hA
      obtain rfl : k = 0 := by omega
      subst htc
      have hcv0 : ∀ cc, (convert 22 9 (.slice A 0 cc)).run Try.prog w = .ok (.string ⟨#[]⟩) w := fun cc => by
        have := hcv cc
        simpa using this
      clear hcv
      go_enter Try.func15, Try.ntmps15
      go_wp2_with fail
      refine Hti.out.mono ?_
      rintro e w1 ⟨rfl, rfl⟩
      go_wp2_with fail
      go_ret3
      exact ⟨by first | rfl | (simp; done), rfl⟩
    · rw [if_neg htc] at hcv
      clear hby hlen hA
      go_enter Try.func15, Try.ntmps15
      go_wp2_with fail
      refine Hti.out.mono ?_
      rintro e w1 ⟨rfl, rfl⟩
      go_wp2_with fail
      go_ret3
      exact ⟨by first | rfl | (simp; done), rfl⟩
end Go.Proofs.Ytdjphpobhbelaaa
