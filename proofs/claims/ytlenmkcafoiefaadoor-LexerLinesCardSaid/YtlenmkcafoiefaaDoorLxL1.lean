/- lexer: fuel, and what is passed over in a text that stands behind another one. -/
import Derived.Test.YtlenmkcafoiefaaDoorLxK
namespace Go.Proofs.YtlenmkcafoiefaaDoor
open Go.RowKit
set_option linter.unusedVariables false

theorem backF_s (F : Nat) (s : List UInt8) (o p : Nat) : backF (F + 1) s o p = if s.length ≤ p then (o, 7) else if bt s p == 96 then (p + 1, 0) else if bt s p == 92 then (if p + 1 = s.length then (p, 7) else backF F s o (p + 2)) else backF F s o (p + 1) := by rw [backF]
theorem commF_s (F : Nat) (s : List UInt8) (o p d : Nat) (f : Bool) : commF (F + 1) s o p d f = if s.length ≤ p then (o, 7) else
    if bt s p == 35 && f then commF F s o (commL s p) d f else
    if bt s p == 41 && d == 0 then (p + 1, 0) else
    match passF F s p 0 with
    | (n, 0) => commF F s o n (if bt s p == 40 then d + 1 else if bt s p == 41 then d - 1 else d) (if joinB s p = true then f else borderB (bt s p))
    | (n, e + 1) => (n, e + 1) := by rw [commF]; rfl
theorem backF_succ {s : List UInt8} {o : Nat} : ∀ (F p : Nat), s.length - p < F → backF (F + 1) s o p = backF F s o p
  | 0, p, h => by omega
  | F + 1, p, h => by
    by_cases hl : s.length ≤ p
    · rw [backF_s (F + 1) s o p, backF_s F s o p, if_pos hl, if_pos hl]
    rw [backF_s (F + 1) s o p, if_neg hl, backF_s F s o p, if_neg hl, backF_succ F (p + 2) (by omega), backF_succ F (p + 1) (by omega)]
theorem backF_fuel {s : List UInt8} {o p F : Nat} (h : s.length - p < F) : ∀ D, backF (F + D) s o p = backF F s o p
  | 0 => rfl
  | D + 1 => by rw [show F + (D + 1) = (F + D) + 1 from rfl, backF_succ _ _ (by omega), backF_fuel h D]
theorem all_succ (s : List UInt8) : ∀ F : Nat,
    (∀ p c, p < s.length → 2 * (s.length - p) + 2 ≤ F → passF (F + 1) s p c = passF F s p c) ∧ (∀ o p, 2 * (s.length - p) + 3 ≤ F → dblF (F + 1) s o p = dblF F s o p) ∧ (∀ c o p, 2 * (s.length - p) + 3 ≤ F → bracF (F + 1) s c o p = bracF F s c o p) ∧
    (∀ o p d, 2 * (s.length - p) + 3 ≤ F → arthF (F + 1) s o p d = arthF F s o p d) ∧ (∀ o p d f, 2 * (s.length - p) + 3 ≤ F → commF (F + 1) s o p d f = commF F s o p d f)
  | 0 => ⟨fun p c _ h => by omega, fun o p h => by omega, fun c o p h => by omega, fun o p d h => by omega, fun o p d f h => by omega⟩
  | F + 1 => by
    obtain ⟨h1, h2, h3, h4, h5⟩ := all_succ s F
    refine ⟨fun p c hp h => ?_, fun o p h => ?_, fun c o p h => ?_, fun o p d h => ?_, fun o p d f h => ?_⟩
    · rw [passF, passF, h3 c p (p + 2) (by omega), h4 p (p + 3) 0 (by omega), h5 p (p + 2) 0 true (by omega), h2 p (p + 1) (by omega)]
    · by_cases hl : s.length ≤ p
      · rw [dblF, dblF, if_pos hl, if_pos hl]
      have hin := (all_in s F).1 p 1 (by omega)
      rw [dblF, if_neg hl, dblF, if_neg hl, h1 p 1 (by omega) (by omega)]
      by_cases hb : (bt s p == 34) = true
      · rw [if_pos hb, if_pos hb]
      rw [if_neg hb, if_neg hb]
      rcases hr : passF F s p 1 with ⟨n, e⟩
      rw [hr] at hin
      rcases e with _ | e
      · have := hin.2.1 rfl
        simp only at this
        exact h2 o n (by omega)
      · rfl
    · by_cases hl : s.length ≤ p
      · rw [bracF, bracF, if_pos hl, if_pos hl]
      have hin := (all_in s F).1 p c (by omega)
      rw [bracF, if_neg hl, bracF, if_neg hl, h1 p c (by omega) (by omega)]
      by_cases hb : (bt s p == 125) = true
      · rw [if_pos hb, if_pos hb]
      rw [if_neg hb, if_neg hb]
      by_cases hb : (bt s p == 34 && c == 1) = true
      · rw [if_pos hb, if_pos hb]
      rw [if_neg hb, if_neg hb]
      rcases hr : passF F s p c with ⟨n, e⟩
      rw [hr] at hin
      rcases e with _ | e
      · have := hin.2.1 rfl
        simp only at this
        exact h3 c o n (by omega)
      · rfl
    · by_cases hl : s.length ≤ p
      · rw [arthF, arthF, if_pos hl, if_pos hl]
      have hin := (all_in s F).1 p 2 (by omega)
      rw [arthF, if_neg hl, arthF, if_neg hl, h1 p 2 (by omega) (by omega)]
      by_cases hb : (bt s p == 41 && d == 0) = true
      · rw [if_pos hb, if_pos hb]
      rw [if_neg hb, if_neg hb]
      rcases hr : passF F s p 2 with ⟨n, e⟩
      rw [hr] at hin
      rcases e with _ | e
      · have := hin.2.1 rfl
        simp only at this
        exact h4 o n _ (by omega)
      · rfl
    · by_cases hl : s.length ≤ p
      · rw [commF_s (F + 1) s o p d f, commF_s F s o p d f, if_pos hl, if_pos hl]
      have hin := (all_in s F).1 p 0 (by omega)
      rw [commF_s (F + 1) s o p d f, if_neg hl, commF_s F s o p d f, if_neg hl, h1 p 0 (by omega) (by omega)]
      by_cases hb : (bt s p == 35 && f) = true
      · rw [if_pos hb, if_pos hb]
        have hg := commL_gt (show p < s.length by omega) (by simp only [Bool.and_eq_true] at hb; exact hb.1)
        exact h5 o _ d f (by omega)
      rw [if_neg hb, if_neg hb]
      by_cases hb : (bt s p == 41 && d == 0) = true
      · rw [if_pos hb, if_pos hb]
      rw [if_neg hb, if_neg hb]
      rcases hr : passF F s p 0 with ⟨n, e⟩
      rw [hr] at hin
      rcases e with _ | e
      · have := hin.2.1 rfl
        simp only at this
        exact h5 o n _ _ (by omega)
      · rfl
theorem passF_fuel {s : List UInt8} {p c F : Nat} (hp : p < s.length) (h : 2 * (s.length - p) + 2 ≤ F) : ∀ D, passF (F + D) s p c = passF F s p c
  | 0 => rfl
  | D + 1 => by rw [show F + (D + 1) = (F + D) + 1 from rfl, (all_succ s (F + D)).1 p c hp (by omega), passF_fuel hp h D]
theorem wordF_succ {s : List UInt8} : ∀ (F p : Nat), s.length - p < F → wordF (F + 1) s p = wordF F s p
  | 0, p, h => by omega
  | F + 1, p, h => by
    by_cases hl : s.length ≤ p
    · rw [wordF_ge hl, wordF_ge hl]
    have hin := pasL_in (s := s) 0 (show p < s.length by omega)
    rw [wordF_lt (by omega), wordF_lt (by omega)]
    by_cases hb : borderB (bt s p) = true
    · rw [if_pos hb, if_pos hb]
    rw [if_neg hb, if_neg hb]
    rcases hr : pasL s p 0 with ⟨n, e⟩
    rw [hr] at hin
    rcases e with _ | e
    · have := hin.2.1 rfl
      simp only at this
      exact wordF_succ F n (by omega)
    · rfl
theorem wordF_fuel {s : List UInt8} {p F : Nat} (h : s.length - p < F) : ∀ D, wordF (F + D) s p = wordF F s p
  | 0 => rfl
  | D + 1 => by rw [show F + (D + 1) = (F + D) + 1 from rfl, wordF_succ _ _ (by omega), wordF_fuel h D]
theorem skipF_succ {s : List UInt8} : ∀ (F p : Nat), s.length - p < F → skipF (F + 1) s p = skipF F s p
  | 0, p, h => by omega
  | F + 1, p, h => by
    by_cases hl : s.length ≤ p
    · rw [skipF_ge hl, skipF_ge hl]
    have hl' : p < s.length := by omega
    rw [skipF_lt hl', skipF_lt hl']
    by_cases h1 : blankB (bt s p) = true
    · rw [if_pos h1, if_pos h1]; exact skipF_succ F _ (by omega)
    rw [if_neg h1, if_neg h1]
    by_cases h2 : (bt s p == 35) = true
    · rw [if_pos h2, if_pos h2]; exact skipF_succ F _ (by have := commL_gt hl' h2; omega)
    rw [if_neg h2, if_neg h2]
    by_cases h3 : joinB s p = true
    · rw [if_pos h3, if_pos h3]; exact skipF_succ F _ (by omega)
    rw [if_neg h3, if_neg h3]
theorem skipF_fuel {s : List UInt8} {p F : Nat} (h : s.length - p < F) : ∀ D, skipF (F + D) s p = skipF F s p
  | 0 => rfl
  | D + 1 => by rw [show F + (D + 1) = (F + D) + 1 from rfl, skipF_succ _ _ (by omega), skipF_fuel h D]
/-- S shows s from u on. -/
structure Beh (u : Nat) (S s : List UInt8) : Prop where
  len : S.length = u + s.length
  bt : ∀ q, bt S (u + q) = bt s q
  drop : ∀ q, S.drop (u + q) = s.drop q
theorem beh_app (u s : List UInt8) : Beh u.length (u ++ s) s := by
  refine ⟨by simp, fun q => ?_, fun q => ?_⟩
  · unfold Go.Proofs.YtlenmkcafoiefaaDoor.bt
    rw [List.getD_eq_getElem?_getD, List.getD_eq_getElem?_getD, List.getElem?_append_right (by omega), Nat.add_sub_cancel_left]
  · rw [List.drop_append, List.drop_of_length_le (show u.length ≤ u.length + q by omega), Nat.add_sub_cancel_left, List.nil_append]
section
variable {u : Nat} {S s : List UInt8}
theorem Beh.le (h : Beh u S s) (p : Nat) : (S.length ≤ u + p) = (s.length ≤ p) := by rw [h.len]; exact propext ⟨fun x => by omega, fun x => by omega⟩
theorem Beh.lt (h : Beh u S s) (p : Nat) : (u + p < S.length) = (p < s.length) := by rw [h.len]; exact propext ⟨fun x => by omega, fun x => by omega⟩
theorem Beh.eq (h : Beh u S s) (p : Nat) : (u + p = S.length) = (p = s.length) := by rw [h.len]; exact propext ⟨fun x => by omega, fun x => by omega⟩
def mov (u : Nat) (r : Nat × Nat) : Nat × Nat := (u + r.1, r.2)
theorem backF_beh (h : Beh u S s) {o : Nat} : ∀ (F p : Nat), backF F S (u + o) (u + p) = mov u (backF F s o p)
  | 0, p => rfl
  | F + 1, p => by
    have i1 := backF_beh h (o := o) F (p + 1)
    have i2 := backF_beh h (o := o) F (p + 2)
    rw [backF_s, backF_s, h.bt]
    by_cases c1 : s.length ≤ p
    · rw [if_pos (by rw [h.le]; exact c1), if_pos c1]; rfl
    rw [if_neg (by rw [h.le]; exact c1), if_neg c1]
    by_cases c2 : (Go.Proofs.YtlenmkcafoiefaaDoor.bt s p == 96) = true
    · rw [if_pos c2, if_pos c2]; rfl
    rw [if_neg c2, if_neg c2]
    by_cases c3 : (Go.Proofs.YtlenmkcafoiefaaDoor.bt s p == 92) = true
    · rw [if_pos c3, if_pos c3]
      by_cases c4 : p + 1 = s.length
      · rw [if_pos (by rw [Nat.add_assoc, h.eq]; exact c4), if_pos c4]; rfl
      rw [if_neg (by rw [Nat.add_assoc, h.eq]; exact c4), if_neg c4]
      exact i2
    rw [if_neg c3, if_neg c3]
    exact i1
theorem commL_beh (h : Beh u S s) (p : Nat) : commL S (u + p) = u + commL s p := by unfold commL; rw [h.drop]; omega
theorem joinB_beh (h : Beh u S s) (p : Nat) : joinB S (u + p) = joinB s p := by
  unfold joinB
  rw [h.bt, Nat.add_assoc, h.bt, decide_eq_decide.2 (iff_of_eq (h.lt (p + 1)))]
theorem singL_beh (h : Beh u S s) (p : Nat) : singL S (u + p) = mov u (singL s p) := by
  unfold singL
  rw [Nat.add_assoc, h.drop, show S.length - (u + (p + 1)) = s.length - (p + 1) from by rw [h.len]; omega]
  split
  · unfold mov; simp only; rw [Nat.add_assoc, Nat.add_assoc]; congr 1
  · rfl
theorem escL_beh (h : Beh u S s) (p : Nat) : escL S (u + p) = mov u (escL s p) := by
  unfold escL
  by_cases c4 : p + 1 = s.length
  · rw [if_pos (by rw [Nat.add_assoc, h.eq]; exact c4), if_pos c4]; rfl
  · rw [if_neg (by rw [Nat.add_assoc, h.eq]; exact c4), if_neg c4]; rfl
theorem all_beh (h : Beh u S s) : ∀ F : Nat,
    (∀ p c, p < s.length → passF F S (u + p) c = mov u (passF F s p c)) ∧ (∀ o p, dblF F S (u + o) (u + p) = mov u (dblF F s o p)) ∧ (∀ c o p, bracF F S c (u + o) (u + p) = mov u (bracF F s c o p)) ∧
    (∀ o p d, arthF F S (u + o) (u + p) d = mov u (arthF F s o p d)) ∧ (∀ o p d f, commF F S (u + o) (u + p) d f = mov u (commF F s o p d f))
  | 0 => ⟨fun p c _ => by simp [passF, mov]; omega, fun o p => by simp [dblF, mov], fun c o p => by simp [bracF, mov], fun o p d => by simp [arthF, mov], fun o p d f => by simp [commF, mov]⟩
  | F + 1 => by
    obtain ⟨h1, h2, h3, h4, h5⟩ := all_beh h F
    refine ⟨fun p c hp => ?_, fun o p => ?_, fun c o p => ?_, fun o p d => ?_, fun o p d f => ?_⟩
    · have b1 := h.bt (p + 1)
      have b2 := h.bt (p + 2)
      have d1 : decide (u + (p + 1) < S.length) = decide (p + 1 < s.length) := decide_eq_decide.2 (iff_of_eq (h.lt (p + 1)))
      have d2 : decide (u + (p + 2) < S.length) = decide (p + 2 < s.length) := decide_eq_decide.2 (iff_of_eq (h.lt (p + 2)))
      have i3 := h3 c p (p + 2)
      have i4 := h4 p (p + 3) 0
      have i5 := h5 p (p + 2) 0 true
      have i2 := h2 p (p + 1)
      have i6 : backF (S.length + 1) S (u + p) (u + (p + 1)) = mov u (backF (s.length + 1) s p (p + 1)) := by
        rw [show S.length + 1 = (s.length + 1) + u from by rw [h.len]; omega, backF_fuel (by rw [h.len]; omega), backF_beh h]
      rw [passF, passF, h.bt]
      simp only [Nat.add_assoc]
      rw [b1, b2, d1, d2, i3, i4, i5, i2, i6, h.drop, escL_beh h, singL_beh h]
      by_cases c1 : (Go.Proofs.YtlenmkcafoiefaaDoor.bt s p == 92) = true
      · rw [if_pos c1, if_pos c1]
      rw [if_neg c1, if_neg c1]
      by_cases c1 : (Go.Proofs.YtlenmkcafoiefaaDoor.bt s p == 96) = true
      · rw [if_pos c1, if_pos c1]
      rw [if_neg c1, if_neg c1]
      by_cases c1 : (Go.Proofs.YtlenmkcafoiefaaDoor.bt s p == 36) = true
      · rw [if_pos c1, if_pos c1]
        by_cases c2 : (decide (p + 1 < s.length) && Go.Proofs.YtlenmkcafoiefaaDoor.bt s (p + 1) == 123) = true
        · rw [if_pos c2, if_pos c2]
        rw [if_neg c2, if_neg c2]
        by_cases c2 : (decide (p + 2 < s.length) && (Go.Proofs.YtlenmkcafoiefaaDoor.bt s (p + 1) == 40 && Go.Proofs.YtlenmkcafoiefaaDoor.bt s (p + 2) == 40)) = true
        · rw [if_pos c2, if_pos c2]
        rw [if_neg c2, if_neg c2]
        by_cases c2 : (decide (p + 1 < s.length) && Go.Proofs.YtlenmkcafoiefaaDoor.bt s (p + 1) == 40) = true
        · rw [if_pos c2, if_pos c2]
        rw [if_neg c2, if_neg c2]
        rfl
      rw [if_neg c1, if_neg c1]
      by_cases c1 : (Go.Proofs.YtlenmkcafoiefaaDoor.bt s p == 39 && c == 0) = true
      · rw [if_pos c1, if_pos c1]
      rw [if_neg c1, if_neg c1]
      by_cases c1 : (Go.Proofs.YtlenmkcafoiefaaDoor.bt s p == 34 && c == 0) = true
      · rw [if_pos c1, if_pos c1]
      rw [if_neg c1, if_neg c1]
      rfl
    · rw [dblF, dblF, h.bt p]
      by_cases c1 : s.length ≤ p
      · rw [if_pos (by rw [h.le]; exact c1), if_pos c1]; rfl
      rw [if_neg (by rw [h.le]; exact c1), if_neg c1]
      by_cases c2 : (Go.Proofs.YtlenmkcafoiefaaDoor.bt s p == 34) = true
      · rw [if_pos c2, if_pos c2]; rfl
      rw [if_neg c2, if_neg c2, h1 p 1 (by omega)]
      rcases hr : passF F s p 1 with ⟨n, e⟩
      rcases e with _ | e
      · exact h2 o n
      · rfl
    · rw [bracF, bracF, h.bt p]
      by_cases c1 : s.length ≤ p
      · rw [if_pos (by rw [h.le]; exact c1), if_pos c1]; rfl
      rw [if_neg (by rw [h.le]; exact c1), if_neg c1]
      by_cases c2 : (Go.Proofs.YtlenmkcafoiefaaDoor.bt s p == 125) = true
      · rw [if_pos c2, if_pos c2]; rfl
      rw [if_neg c2, if_neg c2]
      by_cases c2 : (Go.Proofs.YtlenmkcafoiefaaDoor.bt s p == 34 && c == 1) = true
      · rw [if_pos c2, if_pos c2]; rfl
      rw [if_neg c2, if_neg c2, h1 p c (by omega)]
      rcases hr : passF F s p c with ⟨n, e⟩
      rcases e with _ | e
      · exact h3 c o n
      · rfl
    · have b1 := h.bt (p + 1)
      rw [arthF, arthF, h.bt p]
      simp only [Nat.add_assoc]
      rw [b1]
      by_cases c1 : s.length ≤ p
      · rw [if_pos (by rw [h.le]; exact c1), if_pos c1]; rfl
      rw [if_neg (by rw [h.le]; exact c1), if_neg c1]
      by_cases c2 : (Go.Proofs.YtlenmkcafoiefaaDoor.bt s p == 41 && d == 0) = true
      · rw [if_pos c2, if_pos c2]
        by_cases c3 : p + 1 = s.length
        · rw [if_pos (by rw [h.eq]; exact c3), if_pos c3]; rfl
        rw [if_neg (by rw [h.eq]; exact c3), if_neg c3]
        by_cases c4 : (Go.Proofs.YtlenmkcafoiefaaDoor.bt s (p + 1) == 41) = true
        · rw [if_pos c4, if_pos c4]; rfl
        · rw [if_neg c4, if_neg c4]; rfl
      rw [if_neg c2, if_neg c2, h1 p 2 (by omega)]
      rcases hr : passF F s p 2 with ⟨n, e⟩
      rcases e with _ | e
      · exact h4 o n _
      · rfl
    · rw [commF_s, commF_s, h.bt p, commL_beh h, joinB_beh h]
      by_cases c1 : s.length ≤ p
      · rw [if_pos (by rw [h.le]; exact c1), if_pos c1]; rfl
      rw [if_neg (by rw [h.le]; exact c1), if_neg c1]
      by_cases c2 : (Go.Proofs.YtlenmkcafoiefaaDoor.bt s p == 35 && f) = true
      · rw [if_pos c2, if_pos c2]; exact h5 o _ d f
      rw [if_neg c2, if_neg c2]
      by_cases c2 : (Go.Proofs.YtlenmkcafoiefaaDoor.bt s p == 41 && d == 0) = true
      · rw [if_pos c2, if_pos c2]; rfl
      rw [if_neg c2, if_neg c2, h1 p 0 (by omega)]
      rcases hr : passF F s p 0 with ⟨n, e⟩
      rcases e with _ | e
      · exact h5 o n _ _
      · rfl
theorem pasL_beh (h : Beh u S s) {p c : Nat} (hp : p < s.length) : pasL S (u + p) c = mov u (pasL s p c) := by
  have hl := h.len
  unfold pasL
  rw [show 2 * S.length + 2 = (2 * s.length + 2) + 2 * u from by omega, passF_fuel (by omega) (by omega), (all_beh h _).1 p c hp]
theorem wordF_beh (h : Beh u S s) : ∀ (F p : Nat), wordF F S (u + p) = mov u (wordF F s p)
  | 0, p => rfl
  | F + 1, p => by
    rw [wordF, wordF, h.bt p]
    by_cases c1 : s.length ≤ p
    · rw [if_pos (by rw [h.le]; exact c1), if_pos c1]; rfl
    rw [if_neg (by rw [h.le]; exact c1), if_neg c1]
    by_cases c2 : borderB (Go.Proofs.YtlenmkcafoiefaaDoor.bt s p) = true
    · rw [if_pos c2, if_pos c2]; rfl
    rw [if_neg c2, if_neg c2, pasL_beh h (by omega)]
    rcases hr : pasL s p 0 with ⟨n, e⟩
    rcases e with _ | e
    · exact wordF_beh h F n
    · rfl
theorem endL_beh (h : Beh u S s) (p : Nat) : endL S (u + p) = mov u (endL s p) := by
  have hl := h.len
  unfold endL
  rw [h.drop]
  by_cases c1 : 0 < opsz (s.drop p)
  · rw [if_pos c1, if_pos c1, Nat.add_assoc]; rfl
  · rw [if_neg c1, if_neg c1, show S.length + 1 = (s.length + 1) + u from by omega, wordF_fuel (by omega), wordF_beh h]
theorem skipF_beh (h : Beh u S s) : ∀ (F p : Nat), skipF F S (u + p) = u + skipF F s p
  | 0, p => rfl
  | F + 1, p => by
    have i1 := skipF_beh h F (p + 1)
    have i2 := skipF_beh h F (p + 2)
    rw [skipF, skipF, h.bt p, commL_beh h, joinB_beh h]
    by_cases c1 : s.length ≤ p
    · rw [if_pos (by rw [h.le]; exact c1), if_pos c1]
    rw [if_neg (by rw [h.le]; exact c1), if_neg c1]
    by_cases c2 : blankB (Go.Proofs.YtlenmkcafoiefaaDoor.bt s p) = true
    · rw [if_pos c2, if_pos c2]; exact i1
    rw [if_neg c2, if_neg c2]
    by_cases c2 : (Go.Proofs.YtlenmkcafoiefaaDoor.bt s p == 35) = true
    · rw [if_pos c2, if_pos c2]; exact skipF_beh h F _
    rw [if_neg c2, if_neg c2]
    by_cases c2 : joinB s p = true
    · rw [if_pos c2, if_pos c2]; exact i2
    rw [if_neg c2, if_neg c2]
theorem skipL_beh (h : Beh u S s) {k : Nat} (hk : k ≤ s.length) : skipL S ((u + k : Nat) : Int) = u + skipL s k := by
  have hl := h.len
  unfold skipL
  rw [clamp_nat (by omega), clamp_nat hk, show S.length + 1 = (s.length + 1) + u from by omega, skipF_fuel (by omega), skipF_beh h]
theorem kindL_beh (h : Beh u S s) (p e : Nat) : kindL S (u + p) (u + e) = kindL s p e := by
  unfold kindL
  rw [h.drop, h.bt, Nat.add_sub_add_left, decide_eq_decide.2 (iff_of_eq (h.lt e))]
  by_cases c : e = p
  · rw [if_pos (by omega), if_pos c]
  · rw [if_neg (by omega), if_neg c]
end
def movT (u : Nat) (t : Tk) : Tk := ⟨t.kind, u + t.pos, u + t.fin, t.text⟩
theorem nextL_beh {u : Nat} {S s : ByteArray} (h : Beh u S.data.toList s.data.toList) (hS : S.size ≤ 16384) {k : Nat} (hk : k ≤ s.size) {t : Tk} (hn : nextL s k = (t, 0)) : nextL S ((u + k : Nat) : Int) = (movT u t, 0) := by
  have hl := h.len
  rw [lenS, lenS] at hl
  unfold nextL at hn ⊢
  rw [if_neg (by omega)] at hn ⊢
  rw [skipL_beh h (by rw [lenS]; exact hk)]
  generalize skipL s.data.toList k = p at *
  rw [endL_beh h]
  rcases he : endL s.data.toList p with ⟨e, x⟩
  rw [he] at hn
  rcases x with _ | x
  · simp only [mov]
    simp only [Prod.mk.injEq, and_true] at hn
    subst hn
    rw [kindL_beh h]
    unfold movT
    simp only [Prod.mk.injEq, and_true, Tk.mk.injEq, true_and]
    apply ByteArray.ext
    apply Array.toList_inj.1
    rw [Lib.extract_data, Lib.extract_data, h.drop, Nat.add_sub_add_left]
  · simp at hn
end Go.Proofs.YtlenmkcafoiefaaDoor
