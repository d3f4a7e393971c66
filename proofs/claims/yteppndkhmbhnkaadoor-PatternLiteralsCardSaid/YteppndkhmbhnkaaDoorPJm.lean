/- pattern: what a prefix of characters leaves of Compile. -/
import Derived.Test.YteppndkhmbhnkaaDoorPQm
import Derived.Test.YteppndkhmbhnkaaDoorPOk
namespace Go.Proofs.YteppndkhmbhnkaaDoor
open Go.RowKit
set_option linter.unusedVariables false

theorem charsOf_append (l m : List Rn) : charsOf (l ++ m) = charsOf l ++ charsOf m := by unfold charsOf; rw [List.flatMap_append]
section
variable (q cs : List Ch)
theorem sh_drop (i : Nat) : (q ++ cs).drop (q.length + i) = cs.drop i := by
  rw [List.drop_append, List.drop_of_length_le (by omega), List.nil_append]
  congr 1
  omega
theorem sh_at (i : Nat) (b : UInt8) : isAt (q ++ cs) (q.length + i) b = isAt cs i b := by
  unfold isAt
  rw [List.getElem?_append_right (by omega), show q.length + i - q.length = i from by omega]
theorem sh_byte (i : Nat) : byteAt (q ++ cs) (q.length + i) = byteAt cs i := by
  unfold byteAt
  rw [List.getElem?_append_right (by omega), show q.length + i - q.length = i from by omega]
theorem sh_mend : ∀ (n i : Nat), cs.length - i = n → mend (q ++ cs) (q.length + i) = if mend cs i < 0 then -1 else mend cs i + q.length := by
  intro n
  induction n using Nat.strongRecOn with
  | ind n ih =>
    intro i h
    by_cases hi : i < cs.length
    · rw [mend_at (q ++ cs) _ (by rw [List.length_append]; omega), mend_at cs i hi, sh_at, sh_drop]
      by_cases ha : isAt cs i 93 = true
      · rw [if_pos ha, if_pos ha, if_neg (by omega)]
        omega
      · rw [if_neg ha, if_neg ha, Nat.add_assoc]
        have := msize_pos (cs.drop i)
        exact ih (cs.length - (i + msize (cs.drop i))) (by omega) _ rfl
    · rw [mend_end _ _ (by rw [List.length_append]; omega), mend_end cs i (by omega)]
      rfl
theorem sh_mem (e j : Nat) : ∀ (n i : Nat), e - i = n → memS (q ++ cs) (q.length + e) (q.length + i) j = memS cs e i j := by
  intro n
  induction n using Nat.strongRecOn with
  | ind n ih =>
    intro i h
    by_cases hi : i < e
    · rw [memS_at _ _ _ _ (by omega), memS_at _ _ _ _ hi, sh_drop, Nat.add_assoc]
      have := msize_pos (cs.drop i)
      rw [ih (e - (i + msize (cs.drop i))) (by omega) _ rfl]
    · rw [memS_end _ _ _ _ (by omega), memS_end _ _ _ _ (by omega)]
theorem sh_neg (p : Nat) : negAt (q ++ cs) (q.length + p) = negAt cs p := by
  unfold negAt
  rw [Nat.add_assoc, sh_at, sh_at]
theorem sh_first (p : Nat) : firstAt (q ++ cs) (q.length + p) = q.length + firstAt cs p := by
  unfold firstAt
  rw [sh_neg]
  split <;> omega
theorem sh_brk (p : Nat) : brk (q ++ cs) (q.length + p) = brk cs p := by
  unfold brk
  rw [sh_first, sh_neg, List.length_append, sh_drop, Nat.add_assoc, sh_mend q cs _ _ rfl]
  by_cases h1 : cs.length ≤ firstAt cs p
  · rw [if_pos (by omega), if_pos h1]
  · rw [if_neg (by omega), if_neg h1]
    by_cases h2 : mend cs (firstAt cs p + msize (cs.drop (firstAt cs p))) < 0
    · rw [if_pos h2, if_pos h2, if_pos (by omega)]
    · rw [if_neg h2, if_neg (by omega), if_neg h2]
      generalize hm : mend cs (firstAt cs p + msize (cs.drop (firstAt cs p))) = M at *
      obtain ⟨M, rfl⟩ := Int.eq_ofNat_of_zero_le (show 0 ≤ M by omega)
      have e1 : ((M : Int) + (q.length : Int)).toNat = q.length + M := by omega
      have e2 : memS (q ++ cs) (q.length + M) (q.length + firstAt cs p) = memS cs M (firstAt cs p) := funext fun j => sh_mem q cs M j _ _ rfl
      rw [e1, e2]
      congr 3
      simp
      omega
theorem sh_item (p : Nat) : itemL (q ++ cs) (q.length + p) = itemL cs p := by
  unfold itemL
  rw [sh_at, sh_at, sh_at, sh_brk, sh_byte]
theorem sh_comp : ∀ (n p : Nat), cs.length - p = n → compL (q ++ cs) (q.length + p) = compL cs p := by
  intro n
  induction n using Nat.strongRecOn with
  | ind n ih =>
    intro p h
    by_cases hp : p < cs.length
    · rw [compL_at _ _ (by rw [List.length_append]; omega), compL_at cs p hp, sh_item, Nat.add_assoc]
      have := itemL_pos cs p hp
      rw [ih (cs.length - (p + (itemL cs p).2)) (by omega) _ rfl]
    · rw [compL_end _ _ (by rw [List.length_append]; omega), compL_end _ _ (by omega)]
end
theorem pre_item (s : List UInt8) (cs : List Ch) (p : Nat) (h : p < s.length) : itemL (qCh s ++ cs) p = (byI (s[p]'h), 1) := by
  have hl : (qCh s).length = s.length := by unfold qCh; rw [List.length_map]
  have ha : ∀ b, isAt (qCh s ++ cs) p b = false := fun b => by
    have := isAt_q s p b
    unfold isAt at this ⊢
    rw [List.getElem?_append_left (by omega)]
    exact this
  unfold itemL
  rw [ha, ha, ha]
  simp only [Bool.false_eq_true, if_false]
  have : byteAt (qCh s ++ cs) p = s[p]'h := by
    unfold byteAt
    rw [List.getElem?_append_left (by omega)]
    unfold qCh
    rw [List.getElem?_map, List.getElem?_eq_getElem h]
    rfl
  rw [this]
  rfl
theorem pre_comp (s : List UInt8) (cs : List Ch) : ∀ (n p : Nat), s.length - p = n → p ≤ s.length → compL (qCh s ++ cs) p = (s.drop p).map byI ++ compL cs 0 := by
  have hl : (qCh s).length = s.length := by unfold qCh; rw [List.length_map]
  intro n
  induction n with
  | zero =>
    intro p h hp
    have hpe : p = (qCh s).length + 0 := by omega
    rw [List.drop_of_length_le (by omega), hpe, sh_comp (qCh s) cs _ 0 rfl]
    rfl
  | succ n ih =>
    intro p h hp
    have hlt : p < s.length := by omega
    rw [compL_at _ _ (by rw [List.length_append]; omega), pre_item s cs p hlt, List.drop_eq_getElem_cons hlt, List.map_cons]
    show byI s[p] :: compL (qCh s ++ cs) (p + 1) = _
    rw [ih (p + 1) (by omega) (by omega)]
    rfl
theorem compileL_join (s : List UInt8) (l : List Rn) : compileL ([⟨s, 1⟩] ++ l) = s.map byI ++ compileL l := by
  unfold compileL
  rw [charsOf_append, charsOf_q, pre_comp s (charsOf l) s.length 0 (by omega) (by omega), List.drop_zero]
end Go.Proofs.YteppndkhmbhnkaaDoor
