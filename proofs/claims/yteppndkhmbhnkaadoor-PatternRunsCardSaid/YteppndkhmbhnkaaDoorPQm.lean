/- pattern: what PatternQuotes needs of Compile, Literal, Match. -/
import Derived.Test.YteppndkhmbhnkaaDoorPAwk
namespace Go.Proofs.YteppndkhmbhnkaaDoor
open Go.RowKit
set_option linter.unusedVariables false

def byI (b : UInt8) : It := ⟨1, [b], false, []⟩
def qCh (s : List UInt8) : List Ch := s.map (fun b => ⟨b, false⟩)
theorem charsOf_q (s : List UInt8) : charsOf [⟨s, 1⟩] = qCh s := by unfold charsOf runCh qCh; simp
theorem isAt_q (s : List UInt8) (p : Nat) (x : UInt8) : isAt (qCh s) p x = false := by
  unfold isAt qCh
  rw [List.getElem?_map]
  rcases s[p]? with _ | b <;> simp [chIs]
theorem itemL_q (s : List UInt8) (p : Nat) (h : p < s.length) : itemL (qCh s) p = (byI (s[p]'h), 1) := by
  unfold itemL
  rw [isAt_q, isAt_q, isAt_q]
  simp only [Bool.false_eq_true, if_false]
  have : byteAt (qCh s) p = s[p]'h := by unfold byteAt qCh; rw [List.getElem?_map, List.getElem?_eq_getElem h]; rfl
  rw [this]
  rfl
theorem compL_q (s : List UInt8) : ∀ (n p : Nat), s.length - p = n → compL (qCh s) p = (s.drop p).map byI := by
  intro n
  induction n with
  | zero =>
    intro p h
    rw [compL_end _ _ (by unfold qCh; rw [List.length_map]; omega), List.drop_of_length_le (by omega)]
    rfl
  | succ n ih =>
    intro p h
    have hp : p < s.length := by omega
    rw [compL_at _ _ (by unfold qCh; rw [List.length_map]; exact hp), itemL_q s p hp, List.drop_eq_getElem_cons hp, List.map_cons]
    show byI s[p] :: compL (qCh s) (p + 1) = _
    rw [ih (p + 1) (by omega)]
theorem compileL_q (s : List UInt8) : compileL [⟨s, 1⟩] = s.map byI := by
  unfold compileL
  rw [charsOf_q, compL_q s s.length 0 (by omega), List.drop_zero]
theorem inv_byI (s : List UInt8) : (s.map byI).any inv = false := by
  rw [List.any_eq_false]
  intro x hx
  obtain ⟨b, _, rfl⟩ := List.mem_map.1 hx
  simp [byI, inv]
theorem spec_byI (s : List UInt8) : (s.map byI).any spec = false := by
  rw [List.any_eq_false]
  intro x hx
  obtain ⟨b, _, rfl⟩ := List.mem_map.1 hx
  simp [byI, spec]
theorem ok_byI (s : List UInt8) : ∀ x ∈ s.map byI, ItOk x := by
  intro x hx
  obtain ⟨b, _, rfl⟩ := List.mem_map.1 hx
  refine ⟨⟨by simp [byI], by simp [byI]⟩, by simp [byI]⟩
theorem litL_q (s : List UInt8) : litL (s.map byI) = (s, true) := by
  unfold litL
  rw [inv_byI, spec_byI]
  simp only [Bool.false_eq_true, if_false]
  have : textL (s.map byI) = s := by
    unfold textL
    induction s with
    | nil => rfl
    | cons b s ih => rw [List.map_cons, List.flatMap_cons, ih]; rfl
  rw [this]
theorem runP_q (s t : List UInt8) : ∀ (n i F : Nat), s.length - i = n → i ≤ s.length → n < F → runP (s.map byI) t true F ⟨i, i, -1, 0, 0, false⟩ = if s.drop i <+: t.drop i then (s.length, true) else (0, false) := by
  intro n
  induction n with
  | zero =>
    intro i F h hi hF
    obtain ⟨F, rfl⟩ : ∃ F', F = F' + 1 := ⟨F - 1, by omega⟩
    have hie : i = s.length := by omega
    unfold runP stepP
    rw [List.drop_of_length_le (show (s.map byI).length ≤ (⟨i, i, -1, 0, 0, false⟩ : PSt).nxt from by rw [List.length_map]; simp only; omega), List.drop_of_length_le (show s.length ≤ i by omega)]
    simp [stuckP, hie]
  | succ n ih =>
    intro i F h hi hF
    obtain ⟨F, rfl⟩ : ∃ F', F = F' + 1 := ⟨F - 1, by omega⟩
    have hp : i < s.length := by omega
    have hd : (s.map byI).drop i = byI (s[i]'hp) :: (s.map byI).drop (i + 1) := by
      rw [← List.map_drop, List.drop_eq_getElem_cons hp, List.map_cons, List.map_drop]
    have hk : (byI (s[i]'hp)).k = 1 := rfl
    unfold runP stepP
    simp only [hd, hk]
    rw [if_neg (by decide)]
    rw [List.drop_eq_getElem_cons hp]
    by_cases ht : i < t.length
    · rw [List.drop_eq_getElem_cons ht]
      have ha : acc (byI (s[i]'hp)) (t[i]'ht).toNat = decide (s[i]'hp = t[i]'ht) := by
        unfold acc byI
        simp only [if_true]
        by_cases e : s[i]'hp = t[i]'ht
        · rw [e]; simp
        · rw [decide_eq_false e]
          simp only [List.headD_cons]
          rw [beq_eq_false_iff_ne]
          intro e2
          exact e (UInt8.toNat_inj.1 e2)
      simp only [ha]
      by_cases e : s[i]'hp = t[i]'ht
      · rw [if_pos (by simpa using e)]
        show runP (s.map byI) t true F ⟨i + 1, i + 1, -1, 0, 0, false⟩ = _
        rw [ih (i + 1) F (by omega) (by omega) (by omega), e]
        simp only [List.cons_prefix_cons, true_and]
      · rw [if_neg (by simpa using e)]
        simp only [List.cons_prefix_cons, e, false_and, if_false]
        rfl
    · rw [List.drop_of_length_le (show t.length ≤ i by omega)]
      simp [stuckP]
      exact hp
theorem mtL_q (s t : List UInt8) : mtL (s.map byI) t = decide (s = t) := by
  unfold mtL preL
  rw [inv_byI]
  simp only [Bool.false_eq_true, if_false]
  rw [runP_q s t s.length 0 _ (by omega) (by omega) (by unfold measP; rw [List.length_map]; simp; omega)]
  rw [List.drop_zero, List.drop_zero]
  by_cases h : s <+: t
  · rw [if_pos h]
    simp only [Bool.true_and]
    by_cases e : s = t
    · subst e; simp
    · rw [decide_eq_false e, beq_eq_false_iff_ne]
      intro hl
      exact e (h.eq_of_length hl)
  · rw [if_neg h]
    simp only [Bool.false_and]
    rw [decide_eq_false (fun (e : s = t) => h (by rw [e]; exact List.prefix_refl _))]
end Go.Proofs.YteppndkhmbhnkaaDoor
