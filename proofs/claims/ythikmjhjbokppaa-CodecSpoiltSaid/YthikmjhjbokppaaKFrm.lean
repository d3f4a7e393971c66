/- What opening says of sealed frames: whole, cut short, spoilt. -/
import Derived.Test.YthikmjhjbokppaaKOpen
import Derived.Test.YthikmjhjbokppaaKRef
namespace Go.Proofs.Ythikmjhjbokppaa
set_option linter.unusedVariables false

theorem takeN_enc {n : Nat} (h : n ≤ 9223372036854775807) (r : List UInt8) : takeN (encI n ++ r) = (n, (encI n).length, 0) := by
  unfold takeN
  rw [takeI_enc (by omega) (by omega) r]
  simp
theorem takeN_short {n j : Nat} (h : n ≤ 9223372036854775807) (hj : j < (encI n).length) : takeN ((encI n).take j) = (0, 0, 28) := by
  unfold takeN
  rw [takeI_short (by omega) (by omega) hj]
  simp
theorem fourL_length (S : Nat) : (fourL S).length = 4 := rfl
theorem sealL_length (k : UInt8) (b : List UInt8) : (sealL k b).length = 1 + (encI b.length).length + b.length + 4 := by
  unfold sealL frameL
  simp [fourL_length]
  omega
theorem frame_eq (k : UInt8) (b t : List UInt8) : frameL k b ++ t = k :: (encI b.length ++ (b ++ t)) := by
  unfold frameL
  simp
/-- Opening what begins with a number. -/
theorem openL_enc (k : UInt8) {n : Nat} (h : n ≤ 9223372036854775807) (t : List UInt8) : openL (k :: (encI n ++ t)) =
    if t.length < n then (0, [], 0, 28) else if t.length - n < 4 then (0, [], 0, 28) else
    if ((t.drop n).take 4 == fourL (crcSum (k :: (encI n ++ t.take n)))) = false then (0, [], 0, 29) else (k.toNat, t.take n, 1 + (encI n).length + n + 4, 0) := by
  rw [openL, takeN_enc h]
  simp only [ne_eq, not_true_eq_false, if_false, List.length_append, Nat.add_sub_cancel_left]
  have e1 : (encI n ++ t).drop ((encI n).length + n) = t.drop n := by
    rw [← List.drop_drop, List.drop_left]
  have e2 : (k :: (encI n ++ t)).take (1 + (encI n).length + n) = k :: (encI n ++ t.take n) := by
    rw [show 1 + (encI n).length + n = ((encI n).length + n) + 1 from by omega, List.take_succ_cons, List.take_length_add_append]
  have e3 : (encI n ++ t).drop (encI n).length = t := List.drop_left
  rw [e1, e2, e3]
theorem openL_seal (k : UInt8) (b rest : List UInt8) (h : b.length ≤ 1000000) : openL (sealL k b ++ rest) = (k.toNat, b, (sealL k b).length, 0) := by
  rw [sealL_length]
  unfold sealL
  rw [List.append_assoc, frame_eq, openL_enc k (by omega)]
  have e1 : (b ++ (fourL (crcSum (frameL k b)) ++ rest)).take b.length = b := List.take_left
  have e2 : ((b ++ (fourL (crcSum (frameL k b)) ++ rest)).drop b.length).take 4 = fourL (crcSum (frameL k b)) := by
    rw [List.drop_left]
    exact List.take_left' (fourL_length _)
  rw [e1, e2, if_neg (by simp), if_neg (by simp [fourL_length]), if_neg (by show ¬ ((fourL (crcSum (frameL k b)) == fourL (crcSum (frameL k b))) = false); simp)]
theorem openL_short (k : UInt8) (b : List UInt8) (j : Nat) (h : b.length ≤ 1000000) (hj : j < (sealL k b).length) : openL ((sealL k b).take j) = (0, [], 0, 28) := by
  rw [sealL_length] at hj
  unfold sealL
  rw [frame_eq]
  rcases j with _ | j
  · rfl
  rw [List.take_succ_cons]
  by_cases h1 : j < (encI b.length).length
  · rw [List.take_append_of_le_length (by omega), openL, takeN_short (by omega) h1]
    simp
  · rw [show j = (encI b.length).length + (j - (encI b.length).length) from by omega, List.take_length_add_append, openL_enc k (by omega)]
    have hl : ((b ++ fourL (crcSum (frameL k b))).take (j - (encI b.length).length)).length = j - (encI b.length).length := by
      rw [List.length_take, List.length_append, fourL_length]
      omega
    rw [hl]
    by_cases h2 : j - (encI b.length).length < b.length
    · rw [if_pos h2]
    · rw [if_neg h2, if_pos (by omega)]

theorem fourL_inj {a b : Nat} (ha : a < 4294967296) (hb : b < 4294967296) (h : fourL a = fourL b) : a = b := by
  unfold fourL at h
  simp only [List.cons.injEq, and_true] at h
  obtain ⟨h1, h2, h3, h4⟩ := h
  have q : ∀ n m : Nat, n.toUInt8 = m.toUInt8 → n % 256 = m % 256 := fun n m e => by
    have := congrArg UInt8.toNat e
    simpa using this
  have := q _ _ h1
  have := q _ _ h2
  have := q _ _ h3
  have := q _ _ h4
  omega
theorem crcSum_lt (l : List UInt8) : crcSum l < 4294967296 := by unfold crcSum; omega
theorem openL_spoilt_core (k : UInt8) (b F : List UInt8) (hF : F = fourL (crcSum (k :: (encI b.length ++ b)))) (h : b.length ≤ 1000000) (j : Nat) (y : UInt8) (hj : j < (b ++ F).length) (hy : y ≠ (b ++ F)[j]'hj) :
    openL (k :: (encI b.length ++ (b ++ F).set j y)) = (0, [], 0, 29) := by
  have hF4 : F.length = 4 := by rw [hF]; rfl
  have hlen : ((b ++ F).set j y).length = b.length + 4 := by rw [List.length_set, List.length_append, hF4]
  rw [openL_enc k (by omega), if_neg (by omega), if_neg (by omega), if_pos]
  rw [beq_eq_false_iff_ne]
  by_cases hjn : j < b.length
  · rw [List.set_append_left j y hjn, List.take_left' (by simp), List.drop_left' (by simp), List.take_of_length_le (by omega)]
    intro e
    rw [hF] at e
    have e2 := fourL_inj (crcSum_lt _) (crcSum_lt _) e
    have hi2 : (encI b.length).length + j + 1 < (k :: (encI b.length ++ b)).length := by simp; omega
    refine crcSum_set (k :: (encI b.length ++ b)) ((encI b.length).length + j + 1) y hi2 ?_ ?_
    · intro e3
      apply hy
      rw [e3]
      simp [hjn]
    · rw [List.set_cons_succ, List.set_append_right _ _ (Nat.le_add_right _ _), Nat.add_sub_cancel_left]
      exact e2.symm
  · have hbj : b.length ≤ j := by omega
    rw [List.set_append_right _ _ hbj, List.take_left, List.drop_left, List.take_of_length_le (by rw [List.length_set]; omega), ← hF]
    intro e
    apply hy
    have hj4 : j - b.length < F.length := by rw [List.length_append] at hj; omega
    have q1 := congrArg (fun l => l[j - b.length]?) e
    simp only [List.getElem?_set_self hj4] at q1
    rw [List.getElem?_eq_getElem hj4] at q1
    injection q1 with q1
    rw [q1, List.getElem_append_right hbj]
theorem openL_spoilt (k : UInt8) (b : List UInt8) (i : Nat) (y : UInt8) (h : b.length ≤ 1000000) (h1 : 1 + (encI b.length).length ≤ i) (hi : i < (sealL k b).length) (hy : y ≠ (sealL k b)[i]'hi) :
    openL ((sealL k b).set i y) = (0, [], 0, 29) := by
  have hS : sealL k b = k :: (encI b.length ++ (b ++ fourL (crcSum (frameL k b)))) := by unfold sealL; rw [frame_eq]
  have hF : fourL (crcSum (frameL k b)) = fourL (crcSum (k :: (encI b.length ++ b))) := rfl
  generalize fourL (crcSum (frameL k b)) = F at hS hF
  generalize sealL k b = L at *
  subst hS
  obtain ⟨j, rfl⟩ : ∃ j, i = (encI b.length).length + j + 1 := ⟨i - 1 - (encI b.length).length, by omega⟩
  have hj : j < (b ++ F).length := by simp at hi ⊢; omega
  rw [List.set_cons_succ, List.set_append_right _ _ (Nat.le_add_right _ _), Nat.add_sub_cancel_left]
  refine openL_spoilt_core k b F hF h j y hj ?_
  intro e
  apply hy
  rw [e]
  simp [List.getElem_append]
end Go.Proofs.Ythikmjhjbokppaa
