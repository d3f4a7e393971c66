/- The contracts of the reference's Letter, Digit, Word, Name. -/
import Derived.Test.YtbiiempgefjkiaaDoorCcCh
namespace Go.Proofs.YtbiiempgefjkiaaDoor.Cc
open Go.RowKit

theorem nonempty_tests {s : ByteArray} (q0 : s.size ≠ 0) : s.toList.isEmpty = false ∧ (s.toList == []) = false := by
  have h : s.toList ≠ [] := by
    rw [ByteArray.toList_eq]
    intro h
    have := congrArg List.length h
    exact q0 this
  exact ⟨List.isEmpty_eq_false_iff.2 h, beq_eq_false_iff_ne.2 h⟩
theorem empty_tests {s : ByteArray} (q0 : s.size = 0) : s.toList.isEmpty = true ∧ (s.toList == []) = true := by
  have h : s.toList = [] := by
    rw [ByteArray.toList_eq]
    exact List.eq_nil_of_length_eq_zero q0
  rw [h]
  exact ⟨rfl, rfl⟩

set_option maxHeartbeats 400000 in
theorem rletter_c (r : Nat) (w : World) : Calls Tryd.prog 70 #[.int .u8 r] w fun e w' => e = .returned (.bool (letB r)) ∧ w = w' := by
  by_cases h1 : 97 ≤ r
  · by_cases h2 : r ≤ 122
    · rw [show letB r = true from decide_eq_true (by omega)]
      go_enter Tryd.func70, Tryd.ntmps70
      go_wp2
      go_ret
      exact ⟨by simp <;> omega, rfl⟩
    · rw [show letB r = false from decide_eq_false (by omega)]
      go_enter Tryd.func70, Tryd.ntmps70
      go_wp2
      go_ret
      exact ⟨by simp <;> omega, rfl⟩
  · by_cases h3 : 65 ≤ r
    · by_cases h4 : r ≤ 90
      · rw [show letB r = true from decide_eq_true (by omega)]
        go_enter Tryd.func70, Tryd.ntmps70
        go_wp2
        go_ret
        exact ⟨by simp <;> omega, rfl⟩
      · rw [show letB r = false from decide_eq_false (by omega)]
        go_enter Tryd.func70, Tryd.ntmps70
        go_wp2
        go_ret
        exact ⟨by simp <;> omega, rfl⟩
    · rw [show letB r = false from decide_eq_false (by omega)]
      go_enter Tryd.func70, Tryd.ntmps70
      go_wp2
      go_ret
      exact ⟨by simp <;> omega, rfl⟩

theorem rdigit_c (r : Nat) (w : World) : Calls Tryd.prog 60 #[.int .u8 r] w fun e w' => e = .returned (.bool (digB r)) ∧ w = w' := by
  by_cases h1 : 48 ≤ r
  · by_cases h2 : r ≤ 57
    · rw [show digB r = true from decide_eq_true (by omega)]
      go_enter Tryd.func60, Tryd.ntmps60
      go_wp2
      go_ret
      exact ⟨by simp <;> omega, rfl⟩
    · rw [show digB r = false from decide_eq_false (by omega)]
      go_enter Tryd.func60, Tryd.ntmps60
      go_wp2
      go_ret
      exact ⟨by simp <;> omega, rfl⟩
  · rw [show digB r = false from decide_eq_false (by omega)]
    go_enter Tryd.func60, Tryd.ntmps60
    go_wp2
    go_ret
    exact ⟨by simp <;> omega, rfl⟩

def wordB (r : Int) : Bool := decide (letB r = true ∨ digB r = true ∨ r = 95)

theorem rword_c (r : Nat) (w : World) : Calls Tryd.prog 61 #[.int .u8 r] w fun e w' => e = .returned (.bool (wordB r)) ∧ w = w' := by
  by_cases h1 : letB r = true
  · rw [show wordB r = true from decide_eq_true (.inl h1)]
    go_enter Tryd.func61, Tryd.ntmps61
    go_wp2_with (go_at_call 70; refine (rletter_c _ _).mono ?_; rintro e w' ⟨rfl, rfl⟩)
    go_ret
    exact ⟨rfl, rfl⟩
  · have h1' : letB r = false := by simpa using h1
    by_cases h2 : digB r = true
    · rw [show wordB r = true from decide_eq_true (.inr (.inl h2))]
      clear h1
      go_enter Tryd.func61, Tryd.ntmps61
      go_wp2_with (first | (go_at_call 70; refine (rletter_c _ _).mono ?_; rintro e w' ⟨rfl, rfl⟩) | (go_at_call 60; refine (rdigit_c _ _).mono ?_; rintro e w' ⟨rfl, rfl⟩))
      go_ret
      exact ⟨rfl, rfl⟩
    · have h2' : digB r = false := by simpa using h2
      have hw : wordB r = ((r : Int) == 95) := by
        unfold wordB
        rw [h1', h2', Bool.eq_iff_iff]
        simp
      rw [hw]
      clear h1 h2 hw
      go_enter Tryd.func61, Tryd.ntmps61
      go_wp2_with (first | (go_at_call 70; refine (rletter_c _ _).mono ?_; rintro e w' ⟨rfl, rfl⟩) | (go_at_call 60; refine (rdigit_c _ _).mono ?_; rintro e w' ⟨rfl, rfl⟩))
      go_ret
      exact ⟨rfl, rfl⟩

set_option maxHeartbeats 1000000 in
theorem rname_c (s : ByteArray) (F : Bool) (hF : F = true ↔ NameP s) (w : World) (hs : s.size ≤ 1000) :
    Calls Tryd.prog 45 #[.string s] w fun e w' => e = .returned (.bool F) ∧ w = w' := by
  have HF := Lib.hid hF
  clear hF
  by_cases q0 : s.size = 0
  · have hf : F = false := by
      rcases F with _ | _
      · rfl
      · have := (HF.out.1 rfl).1; omega
    subst hf
    obtain ⟨e1, e2⟩ := empty_tests q0
    go_enter Tryd.func45, Tryd.ntmps45
    go_wp2_with fail
    go_ret
    exact ⟨rfl, rfl⟩
  obtain ⟨e1, e2⟩ := nonempty_tests q0
  have hpos : 0 < s.size := by omega
  by_cases q1 : 32 < s.size
  · have hf : F = false := by
      rcases F with _ | _
      · rfl
      · have := (HF.out.1 rfl).2.1; omega
    subst hf
    have d1 : decide ((32 : Int) < (s.size : Int)) = true := decide_eq_true (by omega)
    go_enter Tryd.func45, Tryd.ntmps45
    go_wp2_with fail
    go_ret
    exact ⟨rfl, rfl⟩
  have d1 : decide ((32 : Int) < (s.size : Int)) = false := decide_eq_false (by omega)
  have hb0 := (s[0]'hpos).toNat_lt
  by_cases q2 : digB (s[0]'hpos).toNat = true
  · have hf : F = false := by
      rcases F with _ | _
      · rfl
      · exfalso
        rcases (HF.out.1 rfl).2.2 0 hpos with h | h | ⟨h, _⟩
        · have := of_decide_eq_true h; have := of_decide_eq_true q2; omega
        · have := of_decide_eq_true q2; omega
        · exact h rfl
    subst hf
    go_enter Tryd.func45, Tryd.ntmps45
    go_wp2_with fail
    refine (rdigit_c _ _).mono ?_
    rintro e w' ⟨rfl, rfl⟩
    go_wp2_with fail
    go_ret
    exact ⟨rfl, rfl⟩
  have q2' : digB (s[0]'hpos).toNat = false := by simpa using q2
  go_enter Tryd.func45, Tryd.ntmps45
  go_wp2_with fail
  refine (rdigit_c _ _).mono ?_
  rintro e w' ⟨rfl, rfl⟩
  have Q2 := Lib.hid q2
  clear q2
  go_wp2_with fail
  clear e1 e2 d1 q2'
  go_loop [3] (fun iv => ∃ k : Nat, k ≤ s.size ∧ iv = .int .i64 k ∧ Hid (∀ i (h : i < s.size), i < k → wordB (s[i]'h).toNat = true)) (fun iv => s.size - (intOf iv).toNat)
  case atStart => exact ⟨0, by omega, rfl, Lib.hid (fun i h hi => by omega)⟩
  case round =>
    obtain ⟨k, hk, rfl, hall⟩ := hrel
    by_cases hlt : k < s.size
    · have i1 : (k : Int) < (s.size : Int) := by omega
      by_cases c1 : wordB (s[k]'hlt).toNat = true
      · have hall2 : Hid (∀ i (h : i < s.size), i < k + 1 → wordB (s[i]'h).toNat = true) := Lib.hid (fun i h hi => by
          by_cases hi' : i < k
          · exact hall.out i h hi'
          · obtain rfl : i = k := by omega
            exact c1)
        go_wp2_with fail
        refine (rword_c _ _).mono ?_
        rintro e w' ⟨rfl, rfl⟩
        go_wp2_with fail
        go_round
        case rel => exact ⟨k + 1, by omega, by go_num, hall2⟩
        case measure => simp [intOf]; omega
      · have hf : F = false := by
          rcases F with _ | _
          · rfl
          · exfalso
            apply c1
            rcases (HF.out.1 rfl).2.2 k hlt with h | h | ⟨_, h⟩
            · exact decide_eq_true (.inl h)
            · exact decide_eq_true (.inr (.inr (by omega)))
            · exact decide_eq_true (.inr (.inl h))
        subst hf
        have c1' : wordB (s[k]'hlt).toNat = false := by simpa using c1
        clear c1
        go_wp2_with fail
        refine (rword_c _ _).mono ?_
        rintro e w' ⟨rfl, rfl⟩
        go_wp2_with fail
        go_ret
        exact ⟨rfl, rfl⟩
    · have hf : F = true := HF.out.2 ⟨by omega, by omega, fun i h => by
        rcases of_decide_eq_true (hall.out i h (by omega)) with h' | h' | h'
        · exact .inl h'
        · refine .inr (.inr ⟨fun e => ?_, h'⟩)
          subst e
          exact Q2.out h'
        · exact .inr (.inl (by omega))⟩
      subst hf
      go_wp2_with fail
      go_ret
      exact ⟨rfl, rfl⟩
end Go.Proofs.YtbiiempgefjkiaaDoor.Cc
