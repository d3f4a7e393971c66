/- heredoc: the lines of a text with its delimiter behind it. -/
import Derived.Test.YtlenmkcafoiefabGreatDoorHdQ
import Derived.Test.YtlenmkcafoiefabGreatDoorHdA
namespace Go.Proofs.YtlenmkcafoiefabGreatDoor
open Go.RowKit
set_option linter.unusedVariables false
set_option linter.unusedSimpArgs false

theorem fnd_app (b : UInt8) (t : List UInt8) : ∀ l : List UInt8, fndL b l < l.length → fndL b (l ++ t) = fndL b l
  | [], h => by simp at h
  | c :: l, h => by
    rw [List.cons_append]
    unfold fndL at h ⊢
    rcases hc : c == b with _ | _
    · rw [hc] at h
      simp only [Bool.false_eq_true, if_false, List.length_cons] at h ⊢
      rw [fnd_app b t l (by omega)]
    · simp
theorem fnd_mem : ∀ l : List UInt8, (10 : UInt8) ∈ l → fndL 10 l < l.length
  | [], h => by simp at h
  | c :: l, h => by
    unfold fndL
    rcases hc : c == 10 with _ | _
    · rcases List.mem_cons.1 h with e | h
      · rw [← e] at hc; simp at hc
      · have := fnd_mem l h
        simp; omega
    · simp
theorem fnd_no : ∀ l : List UInt8, (10 : UInt8) ∉ l → fndL 10 l = l.length
  | [], _ => rfl
  | c :: l, h => by
    unfold fndL
    have hc : (c == 10) = false := by
      rcases hc : c == 10 with _ | _
      · rfl
      · exact absurd (List.mem_cons.2 (.inl (by simpa using (by simpa using hc : c = 10).symm))) h
    rw [hc]
    simp only [Bool.false_eq_true, if_false, List.length_cons]
    rw [fnd_no l (fun hm => h (List.mem_cons_of_mem _ hm))]
theorem fnd_ten (t : List UInt8) : ∀ l : List UInt8, (10 : UInt8) ∉ l → fndL 10 (l ++ 10 :: t) = l.length
  | [], _ => rfl
  | c :: l, h => by
    rw [List.cons_append]
    unfold fndL
    have hc : (c == 10) = false := by
      rcases hc : c == 10 with _ | _
      · rfl
      · exact absurd (List.mem_cons.2 (.inl (by simpa using (by simpa using hc : c = 10).symm))) h
    rw [hc]
    simp only [Bool.false_eq_true, if_false, List.length_cons]
    rw [fnd_ten t l (fun hm => h (List.mem_cons_of_mem _ hm))]
/-- A text that is empty or ends with a newline. -/
def Ends (l : List UInt8) : Prop := l = [] ∨ ∃ m, l = m ++ [10]
theorem ends_drop {l : List UInt8} (h : Ends l) {p : Nat} (hp : p < l.length) : (10 : UInt8) ∈ l.drop p := by
  rcases h with rfl | ⟨m, rfl⟩
  · simp at hp
  · rw [List.length_append, List.length_cons, List.length_nil] at hp
    rw [List.drop_append_of_le_length (by omega)]
    simp
theorem app_list (a b : ByteArray) : (a ++ b).data.toList = a.data.toList ++ b.data.toList := by rw [ByteArray.data_append, Array.toList_append]
theorem lns_app (s e : ByteArray) (hs : Ends s.data.toList) : ∀ (n p : Nat), s.size - p = n → p ≤ s.size → lnsL (s ++ e) p = lnsL s p ++ lnsL (s ++ e) s.size := by
  intro n
  induction n using Nat.strongRecOn with
  | ind n ih =>
    intro p hn hp
    have hsz : (s ++ e).size = s.size + e.size := ByteArray.size_append
    by_cases hlt : p < s.size
    · have hm := fnd_mem _ (ends_drop hs (p := p) (by rw [lenS]; exact hlt))
      have he : endN (s ++ e).data.toList p = endN s.data.toList p := by
        rw [endN_eol (by rw [lenS]; omega), endN_eol (by rw [lenS]; exact hp), app_list, List.drop_append_of_le_length (by rw [lenS]; exact hp)]
        unfold eol
        rw [fnd_app _ _ _ hm, if_pos hm, if_pos (by rw [List.length_append]; omega)]
      obtain ⟨g1, g2⟩ := endN_gt (s := s.data.toList) (p := p) (by rw [lenS]; exact hlt)
      rw [lenS] at g2
      rw [lnsL_cons (s := s ++ e) (by omega), lnsL_cons hlt, he, ih (s.size - endN s.data.toList p) (by omega) _ rfl g2]
      have hx : (s ++ e).extract p (endN s.data.toList p) = s.extract p (endN s.data.toList p) := by
        apply ba_inj
        rw [ext_list, ext_list, app_list, List.drop_append_of_le_length (by rw [lenS]; exact hp), List.take_append_of_le_length (by rw [List.length_drop, lenS]; omega)]
      rw [hx]
      rfl
    · have : p = s.size := by omega
      subst this
      rw [lnsL_nil (s := s) (Nat.le_refl _)]
      rfl
theorem chop_list (s : ByteArray) : (chop s).data.toList = if Lib.hasSuffix s.data.toList [10] = true then s.data.toList.dropLast else s.data.toList := by
  unfold chop
  split
  · rw [ext_list, List.drop_zero, List.dropLast_eq_take, lenS]
    rfl
  · rfl
theorem suf_ten (m : List UInt8) : Lib.hasSuffix (m ++ [10]) [10] = true := by
  unfold Lib.hasSuffix
  rw [List.isSuffixOf_iff_suffix]
  exact List.suffix_append _ _
theorem suf_no {m : List UInt8} (h : (10 : UInt8) ∉ m) : Lib.hasSuffix m [10] = false := by
  rcases hs : Lib.hasSuffix m [10] with _ | _
  · rfl
  · unfold Lib.hasSuffix at hs
    rw [List.isSuffixOf_iff_suffix] at hs
    obtain ⟨r, rfl⟩ := hs
    exact absurd (by simp) h
theorem chop_ten {s : ByteArray} {m : List UInt8} (h : s.data.toList = m ++ [10]) : (chop s).data.toList = m := by
  rw [chop_list, h, suf_ten, if_pos rfl]
  simp
theorem chop_no {s : ByteArray} (h : (10 : UInt8) ∉ s.data.toList) : chop s = s := by
  apply ba_inj
  rw [chop_list, suf_no h]
  rfl
theorem dec_ten (u : Nat) : (10 : UInt8) ∉ Lib.decDigits u ∧ (9 : UInt8) ∉ Lib.decDigits u := by
  induction u using Nat.strongRecOn with
  | ind u ih =>
    have key : ∀ k, k < 10 → (10 : UInt8) ≠ UInt8.ofNat (48 + k) ∧ (9 : UInt8) ≠ UInt8.ofNat (48 + k) := by
      intro k hk
      refine ⟨fun e => ?_, fun e => ?_⟩
      · have := congrArg UInt8.toNat e
        simp at this
        omega
      · have := congrArg UInt8.toNat e
        simp at this
        omega
    rw [dec_eq]
    by_cases h : u < 10
    · rw [if_pos h]
      simp only [List.mem_singleton]
      exact key u h
    · rw [if_neg h]
      obtain ⟨i1, i2⟩ := ih (u / 10) (by omega)
      obtain ⟨k1, k2⟩ := key (u % 10) (Nat.mod_lt u (by decide))
      simp only [List.mem_append, List.mem_singleton, not_or]
      exact ⟨⟨i1, k1⟩, ⟨i2, k2⟩⟩
theorem cand_ten (n : Nat) : (10 : UInt8) ∉ (cand n).data.toList ∧ (9 : UInt8) ∉ (cand n).data.toList := by
  rcases n with _ | n
  · rw [cand0]
    decide
  · rw [cand_list]
    obtain ⟨h1, h2⟩ := dec_ten (n + 1)
    simp only [List.mem_append, not_or]
    exact ⟨⟨by decide, h1⟩, ⟨by decide, h2⟩⟩
theorem cand_pos (n : Nat) : 0 < (cand n).size := by
  rcases n with _ | n
  · decide
  · rw [← lenS, cand_list]
    simp
theorem term_took {x : ByteArray} {T : ByteArray} (h : decide (chop x = T) = false) : termB x T false = false := by
  unfold termB
  rw [if_neg (by simp), Lib.toList_data, Lib.toList_data]
  have hne := of_decide_eq_false h
  rcases hb : (chop x).data.toList == T.data.toList with _ | _
  · rfl
  · exact absurd (ba_inj (by simpa using hb)) hne
theorem term_eq {x : ByteArray} {T : ByteArray} (h : chop x = T) : termB x T false = true := by
  unfold termB
  rw [if_neg (by simp), h]
  simp
theorem took_term {l : List (Nat × ByteArray)} {T : ByteArray} (h : tookB l T = false) : termL l T false = none := by
  unfold termL
  rw [List.find?_eq_none]
  intro x hx
  unfold tookB at h
  rw [List.any_eq_false] at h
  have h1 := h x hx
  rw [term_took (by simpa using h1)]
  simp
/-- The line that the delimiter makes. -/
theorem last_line (s d t : ByteArray) (hd : 0 < d.size) (h10 : (10 : UInt8) ∉ d.data.toList) (ht : t.data.toList = [] ∨ ∃ r, t.data.toList = 10 :: r) :
    ∃ x : ByteArray, ∃ r, lnsL (s ++ d ++ t) s.size = (s.size, x) :: r ∧ chop x = d ∧ x.size = if t.size = 0 then d.size else d.size + 1 := by
  have hsz : (s ++ d ++ t).size = s.size + d.size + t.size := by rw [ByteArray.size_append, ByteArray.size_append]
  rw [lnsL_cons (by omega)]
  refine ⟨_, _, rfl, ?_⟩
  have hdr : (s ++ d ++ t).data.toList.drop s.size = d.data.toList ++ t.data.toList := by
    rw [app_list, app_list, List.append_assoc, ← lenS s, List.drop_left]
  have he := endN_eol (s := (s ++ d ++ t).data.toList) (p := s.size) (by rw [lenS]; omega)
  rw [hdr] at he
  rw [he]
  have hl : ((s ++ d ++ t).extract s.size (s.size + eol (d.data.toList ++ t.data.toList))).data.toList = (d.data.toList ++ t.data.toList).take (eol (d.data.toList ++ t.data.toList)) := by
    rw [ext_list, hdr, Nat.add_sub_cancel_left]
  rcases ht with h0 | ⟨r, h1⟩
  · have hz : t.size = 0 := by rw [← lenS, h0]; rfl
    rw [if_pos hz]
    rw [h0, List.append_nil] at hl ⊢
    have e1 : eol d.data.toList = d.data.toList.length := by
      unfold eol
      rw [fnd_no _ h10, if_neg (by omega)]
    rw [e1, List.take_length] at hl
    rw [e1]
    have hx : (s ++ d ++ t).extract s.size (s.size + d.data.toList.length) = d := ba_inj hl
    rw [hx]
    exact ⟨chop_no h10, rfl⟩
  · have hz : t.size ≠ 0 := by rw [← lenS, h1]; simp
    rw [if_neg hz]
    rw [h1] at hl ⊢
    have e1 : eol (d.data.toList ++ 10 :: r) = d.data.toList.length + 1 := by
      unfold eol
      rw [fnd_ten _ _ h10, if_pos (by simp)]
    rw [e1] at hl ⊢
    have e2 : (d.data.toList ++ 10 :: r).take (d.data.toList.length + 1) = d.data.toList ++ [10] := by
      rw [List.take_append, List.take_of_length_le (by omega), Nat.add_sub_cancel_left]
      rfl
    rw [e2] at hl
    refine ⟨ba_inj (chop_ten hl), ?_⟩
    rw [← lenS, hl, List.length_append, lenS]
    rfl
theorem rounds_term (s d t : ByteArray) (hs : Ends s.data.toList) (hd : 0 < d.size) (h10 : (10 : UInt8) ∉ d.data.toList) (ht : t.data.toList = [] ∨ ∃ r, t.data.toList = 10 :: r) (hf : tookB (lnsL s 0) d = false) :
    ∃ x : ByteArray, termL (lnsL (s ++ d ++ t) 0) d false = some (s.size, x) ∧ x.size = if t.size = 0 then d.size else d.size + 1 := by
  obtain ⟨x, r, h1, h2, h3⟩ := last_line s d t hd h10 ht
  refine ⟨x, ?_, h3⟩
  rw [ByteArray.append_assoc] at h1 ⊢
  rw [lns_app s (d ++ t) hs _ 0 rfl (by omega), h1]
  unfold termL
  rw [List.find?_append]
  have h0 := took_term hf
  unfold termL at h0
  rw [h0]
  show List.find? _ _ = _
  rw [List.find?_cons, term_eq h2]
theorem rounds_cont (s e : ByteArray) : contT (s ++ e) 0 s.size false = s := by
  unfold contT
  rw [if_neg (by simp)]
  apply ba_inj
  rw [ext_list, List.drop_zero, app_list, Nat.sub_zero, ← lenS s, List.take_left]
end Go.Proofs.YtlenmkcafoiefabGreatDoor
