/- pattern: Match of a text behind quoted bytes. -/
import Derived.Test.YteppndkhmbhnkaaDoorPJm
namespace Go.Proofs.YteppndkhmbhnkaaDoor
open Go.RowKit
set_option linter.unusedVariables false

def InvP (m n : Nat) (q : PSt) : Prop := q.res ≤ q.nxt ∧ q.nxt ≤ m ∧ q.tak ≤ n ∧ q.pos ≤ n
theorem stuck_dec {m n : Nat} {q q' : PSt} (h : InvP m n q) (e : stuckP n q = (q', false)) : InvP m n q' ∧ measP m n q'.res q'.tak q'.nxt < measP m n q.res q.tak q.nxt := by
  obtain ⟨h1, h2, h3, h4⟩ := h
  unfold stuckP at e
  split at e
  · simp at e
  · rename_i hc
    simp only [Prod.mk.injEq, and_true] at e
    subst e
    have hr : 0 ≤ q.res := by omega
    have ht : q.tak < n := by omega
    exact ⟨⟨by simp only; omega, by simp only; omega, by simp only; omega, by simp only; omega⟩, measP_back ht⟩
theorem step_dec {is : List It} {s : List UInt8} {lg : Bool} {q q' : PSt} (h : InvP is.length s.length q) (e : stepP is s lg q = (q', false)) : InvP is.length s.length q' ∧ measP is.length s.length q'.res q'.tak q'.nxt < measP is.length s.length q.res q.tak q.nxt := by
  have h0 := h
  obtain ⟨h1, h2, h3, h4⟩ := h
  unfold stepP at e
  split at e
  · rename_i x r hd
    have hlt : q.nxt < is.length := by
      have := congrArg List.length hd
      rw [List.length_drop] at this
      simp at this
      omega
    split at e
    · simp only [Prod.mk.injEq, and_true] at e
      subst e
      exact ⟨⟨by simp only; omega, by simp only; omega, h4, h4⟩, measP_star h1 hlt⟩
    · split at e
      · rename_i c r2 hd2
        have hlp : q.pos < s.length := by
          have := congrArg List.length hd2
          rw [List.length_drop] at this
          simp at this
          omega
        split at e
        · simp only [Prod.mk.injEq, and_true] at e
          subst e
          exact ⟨⟨by simp only; omega, by simp only; omega, h3, by simp only; omega⟩, measP_acc hlt⟩
        · exact stuck_dec h0 e
      · exact stuck_dec h0 e
  · split at e
    · obtain ⟨g1, g2⟩ := stuck_dec (q := ⟨q.pos, q.nxt, q.res, q.tak, q.pos, true⟩) ⟨h1, h2, h3, h4⟩ e
      exact ⟨g1, g2⟩
    · simp at e
theorem runP_enough (is : List It) (s : List UInt8) (lg : Bool) : ∀ (F F' : Nat) (q : PSt), InvP is.length s.length q → measP is.length s.length q.res q.tak q.nxt < F → measP is.length s.length q.res q.tak q.nxt < F' → runP is s lg F q = runP is s lg F' q := by
  intro F
  induction F with
  | zero => intro F' q _ h; omega
  | succ F ih =>
    intro F' q hi h h'
    obtain ⟨F', rfl⟩ : ∃ x, F' = x + 1 := ⟨F' - 1, by omega⟩
    unfold runP
    rcases hs : stepP is s lg q with ⟨q', b⟩
    rcases b with _ | _
    · obtain ⟨g1, g2⟩ := step_dec hi hs
      exact ih F' q' g1 (by omega) (by omega)
    · rfl
def shP (n : Nat) (q : PSt) : PSt := ⟨n + q.pos, n + q.nxt, if q.res < 0 then -1 else n + q.res, if q.res < 0 then 0 else n + q.tak, if q.fnd = true then n + q.siz else 0, q.fnd⟩
def shR (n : Nat) (r : Nat × Bool) : Nat × Bool := (if r.2 = true then n + r.1 else 0, r.2)
theorem sh_stuck (n k : Nat) (q : PSt) : stuckP (n + k) (shP n q) = (shP n (stuckP k q).1, (stuckP k q).2) := by
  unfold stuckP
  by_cases hr : q.res < 0
  · rw [if_pos (Or.inl hr), if_pos (Or.inl (by unfold shP; simp only [if_pos hr]; omega))]
  · by_cases ht : q.tak = k
    · rw [if_pos (Or.inr ht), if_pos (Or.inr (by unfold shP; simp only [if_neg hr]; omega))]
    · rw [if_neg (show ¬ (q.res < 0 ∨ q.tak = k) by omega), if_neg (by unfold shP; simp only [if_neg hr]; omega)]
      unfold shP
      simp only [if_neg hr]
      congr 2
      omega
theorem sh_step (P Q : List It) (s t : List UInt8) (lg : Bool) (n : Nat) (hP : P.length = n) (hs : s.length = n) (q : PSt) : stepP (P ++ Q) (s ++ t) lg (shP n q) = (shP n (stepP Q t lg q).1, (stepP Q t lg q).2) := by
  have d1 : (P ++ Q).drop (shP n q).nxt = Q.drop q.nxt := by
    show (P ++ Q).drop (n + q.nxt) = _
    rw [List.drop_append, List.drop_of_length_le (by omega), List.nil_append]
    congr 1
    omega
  have d2 : (s ++ t).drop (shP n q).pos = t.drop q.pos := by
    show (s ++ t).drop (n + q.pos) = _
    rw [List.drop_append, List.drop_of_length_le (by omega), List.nil_append]
    congr 1
    omega
  have hl : (s ++ t).length = n + t.length := by rw [List.length_append, hs]
  unfold stepP
  rw [d1, d2, hl]
  rcases Q.drop q.nxt with _ | ⟨x, r⟩
  · simp only
    by_cases hg : lg = true
    · rw [if_pos hg, if_pos hg]
      exact sh_stuck n t.length ⟨q.pos, q.nxt, q.res, q.tak, q.pos, true⟩
    · rw [if_neg hg, if_neg hg]
      rfl
  · simp only
    by_cases h3 : x.k = 3
    · rw [if_pos h3, if_pos h3]
      unfold shP
      have hq : ¬ (((q.nxt + 1 : Nat) : Int) < 0) := by omega
      simp only [if_neg hq]
      congr 2
    · rw [if_neg h3, if_neg h3]
      rcases t.drop q.pos with _ | ⟨c, r2⟩
      · exact sh_stuck n t.length q
      · simp only
        by_cases ha : acc x c.toNat = true
        · rw [if_pos ha, if_pos ha]
          rfl
        · rw [if_neg ha, if_neg ha]
          exact sh_stuck n t.length q
theorem sh_run (P Q : List It) (s t : List UInt8) (lg : Bool) (n : Nat) (hP : P.length = n) (hs : s.length = n) : ∀ (F : Nat) (q : PSt), runP (P ++ Q) (s ++ t) lg F (shP n q) = shR n (runP Q t lg F q) := by
  intro F
  induction F with
  | zero => intro q; rfl
  | succ F ih =>
    intro q
    unfold runP
    rw [sh_step P Q s t lg n hP hs q]
    rcases stepP Q t lg q with ⟨q', b⟩
    rcases b with _ | _
    · exact ih q'
    · rfl
theorem run_bytes (s : List UInt8) (Q : List It) (t : List UInt8) : ∀ (n i F : Nat), s.length - i = n → i ≤ s.length → runP (s.map byI ++ Q) (s ++ t) true (n + F) ⟨i, i, -1, 0, 0, false⟩ = runP (s.map byI ++ Q) (s ++ t) true F ⟨s.length, s.length, -1, 0, 0, false⟩ := by
  intro n
  induction n with
  | zero =>
    intro i F h hi
    rw [Nat.zero_add, show i = s.length from by omega]
  | succ n ih =>
    intro i F h hi
    have hp : i < s.length := by omega
    have hd : (s.map byI ++ Q).drop i = byI (s[i]'hp) :: ((s.map byI).drop (i + 1) ++ Q) := by
      rw [List.drop_append_of_le_length (by rw [List.length_map]; omega), ← List.map_drop, List.drop_eq_getElem_cons hp, List.map_cons, List.map_drop, List.cons_append]
    have hd2 : (s ++ t).drop i = s[i]'hp :: (s.drop (i + 1) ++ t) := by
      rw [List.drop_append_of_le_length (by omega), List.drop_eq_getElem_cons hp, List.cons_append]
    have hk : (byI (s[i]'hp)).k = 1 := rfl
    have ha : acc (byI (s[i]'hp)) (s[i]'hp).toNat = true := by unfold acc byI; simp
    rw [show n + 1 + F = (n + F) + 1 from by omega]
    have e : runP (s.map byI ++ Q) (s ++ t) true ((n + F) + 1) ⟨i, i, -1, 0, 0, false⟩ = runP (s.map byI ++ Q) (s ++ t) true (n + F) ⟨i + 1, i + 1, -1, 0, 0, false⟩ := by
      rw [runP]
      unfold stepP
      simp only [hd, hd2, hk]
      rw [if_neg (by decide), if_pos ha]
    rw [e]
    exact ih (i + 1) F (by omega) (by omega)
theorem meas_join (n m k : Nat) : n + measP m k (-1) 0 0 ≤ measP (n + m) (n + k) (-1) 0 0 := by
  unfold measP
  have e1 : ((m : Int) - -1).toNat = m + 1 := by omega
  have e2 : (((n + m : Nat) : Int) - -1).toNat = n + m + 1 := by omega
  rw [e1, e2]
  have a1 : (k + 1) * (m + 1) ≤ (n + k + 1) * (n + m + 1) := Nat.mul_le_mul (by omega) (by omega)
  have a2 : (m + 1) * ((k + 1) * (m + 1)) ≤ (n + m + 1) * ((n + k + 1) * (n + m + 1)) := Nat.mul_le_mul (by omega) a1
  have a3 : (k - 0) * (m + 1) ≤ (n + k - 0) * (n + m + 1) := Nat.mul_le_mul (by omega) (by omega)
  omega
theorem mtL_join (s : List UInt8) (Q : List It) (t : List UInt8) : mtL (s.map byI ++ Q) (s ++ t) = mtL Q t := by
  have hpre : preL (s.map byI ++ Q) (s ++ t) true = shR s.length (preL Q t true) := by
    unfold preL
    rw [List.any_append, inv_byI, Bool.false_or]
    by_cases hv : Q.any inv = true
    · rw [if_pos hv, if_pos hv]; rfl
    · rw [if_neg hv, if_neg hv, List.length_append, List.length_append, List.length_map]
      have hm := meas_join s.length Q.length t.length
      generalize hM : measP (s.length + Q.length) (s.length + t.length) (-1) 0 0 = M at *
      obtain ⟨F, hF⟩ : ∃ F, M + 1 = s.length + F := ⟨M + 1 - s.length, by omega⟩
      rw [hF, run_bytes s Q t s.length 0 F (by omega) (by omega)]
      rw [show (⟨s.length, s.length, -1, 0, 0, false⟩ : PSt) = shP s.length ⟨0, 0, -1, 0, 0, false⟩ from by unfold shP; simp]
      rw [sh_run (s.map byI) Q s t true s.length (by rw [List.length_map]) rfl]
      congr 1
      exact runP_enough Q t true F _ _ ⟨by simp only; omega, Nat.zero_le _, Nat.zero_le _, Nat.zero_le _⟩ (by simp only; omega) (by simp only; omega)
  unfold mtL
  rw [hpre]
  generalize preL Q t true = R
  obtain ⟨a, b⟩ := R
  unfold shR
  rcases b with _ | _
  · simp
  · simp only [if_true, Bool.true_and, List.length_append]
    rw [Bool.eq_iff_iff, beq_iff_eq, beq_iff_eq]
    omega
end Go.Proofs.YteppndkhmbhnkaaDoor
