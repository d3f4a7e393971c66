/- lexer: what is passed over in a text in front of a newline. -/
import Derived.Test.YtlenmkcafoiefaaDoorLxL1
namespace Go.Proofs.YtlenmkcafoiefaaDoor
open Go.RowKit
set_option linter.unusedVariables false

theorem nameL_app (t : List UInt8) : ∀ l : List UInt8, nameL (l ++ 10 :: t) = nameL l
  | [] => by show (if namB 10 = true then _ else 0) = 0; rw [if_neg (by decide)]
  | c :: r => by
    show (if namB c = true then nameL (r ++ 10 :: t) + 1 else 0) = if namB c = true then nameL r + 1 else 0
    rw [nameL_app t r]
theorem paramL_app (t : List UInt8) : ∀ l : List UInt8, paramL (l ++ 10 :: t) = paramL l
  | [] => by
    show (if digB 10 = true ∨ speB 10 = true then 1 else nameL ([] ++ 10 :: t)) = 0
    rw [if_neg (by decide), nameL_app]
    rfl
  | c :: r => by
    show (if digB c = true ∨ speB c = true then 1 else nameL ((c :: r) ++ 10 :: t)) = if digB c = true ∨ speB c = true then 1 else nameL (c :: r)
    rw [nameL_app]
theorem fndL_app (b : UInt8) (t : List UInt8) : ∀ l : List UInt8, fndL b l < l.length → fndL b (l ++ t) = fndL b l
  | [], h => by simp at h
  | c :: r, h => by
    show (if c == b then 0 else fndL b (r ++ t) + 1) = if c == b then 0 else fndL b r + 1
    by_cases hc : (c == b) = true
    · rw [if_pos hc, if_pos hc]
    · have e : fndL b (c :: r) = fndL b r + 1 := by rw [fndL, if_neg hc]
      rw [if_neg hc, if_neg hc, fndL_app b t r (by rw [e] at h; simpa using h)]
theorem fndL_ten (t : List UInt8) : ∀ l : List UInt8, fndL 10 (l ++ 10 :: t) = fndL 10 l
  | [] => rfl
  | c :: r => by
    show (if c == 10 then 0 else fndL 10 (r ++ 10 :: t) + 1) = if c == 10 then 0 else fndL 10 r + 1
    rw [fndL_ten t r]
section
variable {s t : List UInt8}
theorem fr_bt {p : Nat} (h : p < s.length) : bt (s ++ 10 :: t) p = bt s p := by unfold bt; rw [List.getD_eq_getElem?_getD, List.getD_eq_getElem?_getD, List.getElem?_append_left h]
theorem fr_ten : bt (s ++ 10 :: t) s.length = 10 := by have := (beh_app s (10 :: t)).bt 0; rw [Nat.add_zero] at this; rw [this]; rfl
theorem fr_len : (s ++ 10 :: t).length = s.length + 1 + t.length := by simp; omega
theorem fr_drop {p : Nat} (h : p ≤ s.length) : (s ++ 10 :: t).drop p = s.drop p ++ 10 :: t := by rw [List.drop_append, show p - s.length = 0 from by omega]; rfl
theorem fr_cond {p : Nat} (h : p ≤ s.length) (x : UInt8) (hx : x ≠ 10) : (decide (p < (s ++ 10 :: t).length) && bt (s ++ 10 :: t) p == x) = (decide (p < s.length) && bt s p == x) := by
  by_cases hp : p < s.length
  · rw [fr_bt hp, decide_eq_true (by rw [fr_len]; omega), decide_eq_true hp]
  · have e : p = s.length := by omega
    subst e
    rw [fr_ten, decide_eq_false hp, beq_eq_false_iff_ne.2 (Ne.symm hx)]
    simp
theorem fr_comm {p : Nat} (h : p ≤ s.length) : commL (s ++ 10 :: t) p = commL s p := by unfold commL; rw [fr_drop h, fndL_ten]
theorem fr_join {p : Nat} (h : p < s.length) (hn : ¬ (bt s p = 92 ∧ p + 1 = s.length)) : joinB (s ++ 10 :: t) p = joinB s p := by
  unfold joinB
  rw [fr_bt h]
  by_cases hp : p + 1 < s.length
  · rw [fr_bt hp, decide_eq_true hp, decide_eq_true (by rw [fr_len]; omega)]
  · have e : p + 1 = s.length := by omega
    have hb : bt s p ≠ 92 := fun hb => hn ⟨hb, e⟩
    rw [beq_eq_false_iff_ne.2 hb]
    simp
theorem back_front {o m : Nat} : ∀ (F p D : Nat), backF F s o p = (m, 0) → backF (F + D) (s ++ 10 :: t) o p = (m, 0)
  | 0, p, D, h => by simp [backF] at h
  | F + 1, p, D, h => by
    rw [Nat.add_right_comm]
    rw [backF] at h ⊢
    by_cases c1 : s.length ≤ p
    · rw [if_pos c1] at h; simp at h
    rw [if_neg c1] at h
    rw [if_neg (by rw [fr_len]; omega), fr_bt (by omega)]
    by_cases c2 : (bt s p == 96) = true
    · rw [if_pos c2] at h ⊢; exact h
    rw [if_neg c2] at h ⊢
    by_cases c3 : (bt s p == 92) = true
    · rw [if_pos c3] at h ⊢
      by_cases c4 : p + 1 = s.length
      · rw [if_pos c4] at h; simp at h
      rw [if_neg c4] at h
      rw [if_neg (by rw [fr_len]; omega)]
      exact back_front F _ D h
    rw [if_neg c3] at h ⊢
    exact back_front F _ D h
theorem esc_front {p m : Nat} (hp : p < s.length) (h : escL s p = (m, 0)) : escL (s ++ 10 :: t) p = (m, 0) := by
  unfold escL at h ⊢
  by_cases c : p + 1 = s.length
  · rw [if_pos c] at h; simp at h
  · rw [if_neg c] at h
    rw [if_neg (by rw [fr_len]; omega)]
    exact h
theorem sing_front {p m : Nat} (hp : p < s.length) (h : singL s p = (m, 0)) : singL (s ++ 10 :: t) p = (m, 0) := by
  unfold singL at h ⊢
  by_cases c : fndL 39 (s.drop (p + 1)) < s.length - (p + 1)
  · rw [if_pos c] at h
    rw [fr_drop (by omega), fndL_app _ _ _ (by rw [List.length_drop]; exact c), if_pos (by rw [fr_len]; omega)]
    exact h
  · rw [if_neg c] at h; simp at h
theorem all_front (D : Nat) (hD : s.length + 1 ≤ (s ++ 10 :: t).length) : ∀ F : Nat,
    (∀ p c m, p < s.length → 1 ≤ F → passF F s p c = (m, 0) → passF (F + D) (s ++ 10 :: t) p c = (m, 0)) ∧ (∀ o p m, dblF F s o p = (m, 0) → dblF (F + D) (s ++ 10 :: t) o p = (m, 0)) ∧ (∀ c o p m, bracF F s c o p = (m, 0) → bracF (F + D) (s ++ 10 :: t) c o p = (m, 0)) ∧
    (∀ o p d m, arthF F s o p d = (m, 0) → arthF (F + D) (s ++ 10 :: t) o p d = (m, 0)) ∧ (∀ o p d f m, p ≤ s.length → commF F s o p d f = (m, 0) → commF (F + D) (s ++ 10 :: t) o p d f = (m, 0))
  | 0 => ⟨fun p c m _ h => by omega, fun o p m h => by simp [dblF] at h, fun c o p m h => by simp [bracF] at h, fun o p d m h => by simp [arthF] at h, fun o p d f m _ h => by simp [commF] at h⟩
  | F + 1 => by
    obtain ⟨h1, h2, h3, h4, h5⟩ := all_front D hD F
    rw [Nat.add_right_comm]
    refine ⟨fun p c m hp _ h => ?_, fun o p m h => ?_, fun c o p m h => ?_, fun o p d m h => ?_, fun o p d f m hpl h => ?_⟩
    · have hL := fr_len (s := s) (t := t)
      rw [passF] at h ⊢
      rw [fr_bt hp]
      by_cases c1 : (bt s p == 92) = true
      · rw [if_pos c1] at h ⊢; exact esc_front hp h
      rw [if_neg c1] at h ⊢
      by_cases c1 : (bt s p == 96) = true
      · rw [if_pos c1] at h ⊢
        rw [show (s ++ 10 :: t).length + 1 = (s.length + 1) + (1 + t.length) from by omega]
        exact back_front _ _ _ h
      rw [if_neg c1] at h ⊢
      by_cases c1 : (bt s p == 36) = true
      · rw [if_pos c1] at h ⊢
        rw [fr_cond (by omega) 123 (by decide), fr_cond (by omega) 40 (by decide)]
        by_cases c2 : (decide (p + 1 < s.length) && bt s (p + 1) == 123) = true
        · rw [if_pos c2] at h ⊢; exact h3 c p _ m h
        rw [if_neg c2] at h ⊢
        have e2 : (decide (p + 2 < (s ++ 10 :: t).length) && (bt (s ++ 10 :: t) (p + 1) == 40 && bt (s ++ 10 :: t) (p + 2) == 40)) = (decide (p + 2 < s.length) && (bt s (p + 1) == 40 && bt s (p + 2) == 40)) := by
          by_cases hp2 : p + 2 < s.length
          · rw [fr_bt hp2, fr_bt (by omega), decide_eq_true hp2, decide_eq_true (by omega)]
          · rw [decide_eq_false hp2, Bool.false_and]
            by_cases hp1 : p + 2 = s.length
            · rw [hp1, fr_ten]; simp
            · have : p + 1 = s.length := by omega
              rw [this, fr_ten]; simp
        rw [e2]
        by_cases c2 : (decide (p + 2 < s.length) && (bt s (p + 1) == 40 && bt s (p + 2) == 40)) = true
        · rw [if_pos c2] at h ⊢; exact h4 p _ 0 m h
        rw [if_neg c2] at h ⊢
        by_cases c2 : (decide (p + 1 < s.length) && bt s (p + 1) == 40) = true
        · rw [if_pos c2] at h ⊢
          refine h5 p _ 0 true m ?_ h
          simp only [Bool.and_eq_true, decide_eq_true_eq] at c2
          omega
        rw [if_neg c2] at h ⊢
        rw [fr_drop (by omega), paramL_app]
        exact h
      rw [if_neg c1] at h ⊢
      by_cases c1 : (bt s p == 39 && c == 0) = true
      · rw [if_pos c1] at h ⊢; exact sing_front hp h
      rw [if_neg c1] at h ⊢
      by_cases c1 : (bt s p == 34 && c == 0) = true
      · rw [if_pos c1] at h ⊢; exact h2 p _ m h
      rw [if_neg c1] at h ⊢
      exact h
    · rw [dblF] at h ⊢
      by_cases c1 : s.length ≤ p
      · rw [if_pos c1] at h; simp at h
      rw [if_neg c1] at h
      rw [if_neg (by omega), fr_bt (by omega)]
      by_cases c2 : (bt s p == 34) = true
      · rw [if_pos c2] at h ⊢; exact h
      rw [if_neg c2] at h ⊢
      rcases hr : passF F s p 1 with ⟨n, e⟩
      rw [hr] at h
      rcases e with _ | e
      · rcases F with _ | F
        · simp [dblF] at h
        rw [h1 p 1 n (by omega) (by omega) hr]
        exact h2 o n m h
      · simp at h
    · rw [bracF] at h ⊢
      by_cases c1 : s.length ≤ p
      · rw [if_pos c1] at h; simp at h
      rw [if_neg c1] at h
      rw [if_neg (by omega), fr_bt (by omega)]
      by_cases c2 : (bt s p == 125) = true
      · rw [if_pos c2] at h ⊢; exact h
      rw [if_neg c2] at h ⊢
      by_cases c2 : (bt s p == 34 && c == 1) = true
      · rw [if_pos c2] at h; simp at h
      rw [if_neg c2] at h ⊢
      rcases hr : passF F s p c with ⟨n, e⟩
      rw [hr] at h
      rcases e with _ | e
      · rcases F with _ | F
        · simp [bracF] at h
        rw [h1 p c n (by omega) (by omega) hr]
        exact h3 c o n m h
      · simp at h
    · rw [arthF] at h ⊢
      by_cases c1 : s.length ≤ p
      · rw [if_pos c1] at h; simp at h
      rw [if_neg c1] at h
      rw [if_neg (by omega), fr_bt (by omega)]
      by_cases c2 : (bt s p == 41 && d == 0) = true
      · rw [if_pos c2] at h ⊢
        by_cases c3 : p + 1 = s.length
        · rw [if_pos c3] at h; simp at h
        rw [if_neg c3] at h
        rw [if_neg (by omega), fr_bt (by omega)]
        exact h
      rw [if_neg c2] at h ⊢
      rcases hr : passF F s p 2 with ⟨n, e⟩
      rw [hr] at h
      rcases e with _ | e
      · rcases F with _ | F
        · simp [arthF] at h
        rw [h1 p 2 n (by omega) (by omega) hr]
        exact h4 o n _ m h
      · simp at h
    · rw [commF] at h ⊢
      by_cases c1 : s.length ≤ p
      · rw [if_pos c1] at h; simp at h
      rw [if_neg c1] at h
      rw [if_neg (by omega), fr_bt (by omega), fr_comm hpl]
      by_cases c2 : (bt s p == 35 && f) = true
      · rw [if_pos c2] at h ⊢; exact h5 o _ d f m (commL_le hpl) h
      rw [if_neg c2] at h ⊢
      by_cases c2 : (bt s p == 41 && d == 0) = true
      · rw [if_pos c2] at h ⊢; exact h
      rw [if_neg c2] at h ⊢
      have hin := (all_in s F).1 p 0 (by omega)
      rcases hr : passF F s p 0 with ⟨n, e⟩
      rw [hr] at h hin
      rcases e with _ | e
      · rcases F with _ | F
        · simp [commF] at h
        have hj : ¬ (bt s p = 92 ∧ p + 1 = s.length) := by
          rintro ⟨hb, hl⟩
          rw [passF_92 hb] at hr
          unfold escL at hr
          rw [if_pos hl] at hr
          simp at hr
        rw [h1 p 0 n (by omega) (by omega) hr, fr_join (by omega) hj]
        exact h5 o n _ _ m hin.1 h
      · simp at h
theorem pasL_front {p c m : Nat} (hp : p < s.length) (h : pasL s p c = (m, 0)) : pasL (s ++ 10 :: t) p c = (m, 0) := by
  have hl := fr_len (s := s) (t := t)
  unfold pasL at h ⊢
  rw [show 2 * (s ++ 10 :: t).length + 2 = (2 * s.length + 2) + 2 * (1 + t.length) from by omega]
  exact (all_front _ (by omega) _).1 p c m hp (by omega) h
theorem wordF_front {m : Nat} : ∀ (F p D : Nat), s.length - p < F → p ≤ s.length → wordF F s p = (m, 0) → wordF (F + D) (s ++ 10 :: t) p = (m, 0)
  | 0, p, D, hF, _, _ => by omega
  | F + 1, p, D, hF, hp, h => by
    have hl := fr_len (s := s) (t := t)
    rw [Nat.add_right_comm, wordF_lt (by omega)]
    by_cases c1 : s.length ≤ p
    · have e : p = s.length := by omega
      subst e
      rw [wordF_ge c1] at h
      rw [fr_ten, if_pos (by decide)]
      exact h
    rw [wordF_lt (by omega)] at h
    rw [fr_bt (by omega)]
    by_cases c2 : borderB (bt s p) = true
    · rw [if_pos c2] at h ⊢; exact h
    rw [if_neg c2] at h ⊢
    have hin := pasL_in (s := s) 0 (show p < s.length by omega)
    rcases hr : pasL s p 0 with ⟨n, e⟩
    rw [hr] at h hin
    rcases e with _ | e
    · rw [pasL_front (by omega) hr]
      have := hin.2.1 rfl
      have i1 := hin.1
      simp only at this i1
      exact wordF_front F n D (by omega) (by omega) h
    · simp at h
theorem opS_in_ten {l : List UInt8} (h : opS l = true) (h10 : (10 : UInt8) ∈ l) : l = [10] := by
  unfold opS opsL at h
  rw [List.contains_iff_mem] at h
  simp only [List.mem_cons, List.not_mem_nil, or_false] at h
  rcases h with rfl | rfl | rfl | rfl | rfl | rfl | rfl | rfl | rfl | rfl | rfl | rfl | rfl | rfl | rfl | rfl | rfl | rfl <;> first | rfl | (exfalso; revert h10; decide)
theorem opsF_take {l : List UInt8} : ∀ m, m ≤ l.length → opsF (l ++ 10 :: t) m = opsF l m
  | 0, _ => rfl
  | m + 1, h => by rw [opsF, opsF, List.take_append_of_le_length h, opsF_take m (by omega)]
theorem opsF_past {l : List UInt8} (hl : 1 ≤ l.length) : ∀ m, l.length ≤ m → opsF (l ++ 10 :: t) m = opsF l l.length
  | m, h => by
    by_cases e : m = l.length
    · rw [e, opsF_take _ (Nat.le_refl _)]
    obtain ⟨m, rfl⟩ : ∃ k, m = k + 1 := ⟨m - 1, by omega⟩
    have hb : opS ((l ++ 10 :: t).take (m + 1)) = false := by
      rw [← Bool.not_eq_true]
      intro hb
      have h10 : (10 : UInt8) ∈ (l ++ 10 :: t).take (m + 1) := by
        rw [List.take_append]
        obtain ⟨k, hk⟩ : ∃ k, m + 1 - l.length = k + 1 := ⟨m - l.length, by omega⟩
        rw [hk, List.take_succ_cons]
        simp
      have := congrArg List.length (opS_in_ten hb h10)
      rw [List.length_take] at this
      simp only [List.length_append, List.length_cons, List.length_nil] at this
      omega
    rw [opsF, if_neg (by rw [hb]; simp)]
    exact opsF_past hl m (by omega)
theorem opsz_front {l : List UInt8} (hl : 1 ≤ l.length) : opsz (l ++ 10 :: t) = opsz l := by
  unfold opsz
  have e : (l ++ 10 :: t).length = l.length + 1 + t.length := by simp; omega
  by_cases h3 : 3 ≤ l.length
  · rw [show min 3 (l ++ 10 :: t).length = 3 from by omega, show min 3 l.length = 3 from by omega, opsF_take 3 h3]
  · rw [show min 3 l.length = l.length from by omega]
    exact opsF_past hl _ (by omega)
theorem endL_front {p m : Nat} (hp : p < s.length) (h : endL s p = (m, 0)) : endL (s ++ 10 :: t) p = (m, 0) := by
  have hl := fr_len (s := s) (t := t)
  unfold endL at h ⊢
  rw [fr_drop (by omega), opsz_front (by rw [List.length_drop]; omega)]
  by_cases c : 0 < opsz (s.drop p)
  · rw [if_pos c] at h ⊢; exact h
  · rw [if_neg c] at h ⊢
    rw [show (s ++ 10 :: t).length + 1 = (s.length + 1) + (1 + t.length) from by omega]
    exact wordF_front _ _ _ (by omega) (by omega) h
theorem skipF_front : ∀ (F p D : Nat), s.length - p < F → p ≤ s.length → ¬ (bt s (skipF F s p) = 92 ∧ skipF F s p + 1 = s.length) → skipF (F + D) (s ++ 10 :: t) p = skipF F s p
  | 0, p, D, h, _, _ => by omega
  | F + 1, p, D, hF, hp, h => by
    have hl := fr_len (s := s) (t := t)
    rw [Nat.add_right_comm, skipF_lt (by omega)]
    by_cases c1 : s.length ≤ p
    · have e : p = s.length := by omega
      subst e
      rw [skipF_ge c1, fr_ten, if_neg (by decide), if_neg (by decide), if_neg]
      unfold joinB
      rw [fr_ten]
      simp
    have c1' : p < s.length := by omega
    rw [skipF_lt c1'] at h ⊢
    rw [fr_bt c1', fr_comm hp]
    by_cases c2 : blankB (bt s p) = true
    · rw [if_pos c2] at h ⊢; rw [if_pos c2]; exact skipF_front F _ D (by omega) (by omega) h
    rw [if_neg c2] at h ⊢
    rw [if_neg c2]
    by_cases c2 : (bt s p == 35) = true
    · rw [if_pos c2] at h ⊢; rw [if_pos c2]; exact skipF_front F _ D (by have := commL_gt c1' c2; omega) (commL_le hp) h
    rw [if_neg c2] at h ⊢
    rw [if_neg c2]
    by_cases c2 : joinB s p = true
    · have hj := joinB_le c2
      have hj2 : joinB (s ++ 10 :: t) p = true := by
        rw [fr_join c1' (by omega)]; exact c2
      rw [if_pos c2] at h ⊢; rw [if_pos hj2]
      exact skipF_front F _ D (by omega) (by omega) h
    · rw [if_neg c2] at h ⊢
      rw [if_neg]
      rw [fr_join c1' h]
      exact c2
end
end Go.Proofs.YtlenmkcafoiefaaDoor
