/- heredoc: the lines of a stripped text; a delimiter behind tabs. -/
import Derived.Test.YtlenmkcafoiefabGreatDoorHdX
namespace Go.Proofs.YtlenmkcafoiefabGreatDoor
open Go.RowKit
set_option linter.unusedVariables false
set_option linter.unusedSimpArgs false

/-- A line with its newline. -/
def Whole (x : List UInt8) : Prop := ∃ m, x = m ++ [10] ∧ (10 : UInt8) ∉ m
theorem spl_line (r : List UInt8) : ∀ m : List UInt8, (10 : UInt8) ∉ m → spl (m ++ [10] ++ r) = (m ++ [10]) :: spl r
  | [], _ => by
    rw [List.nil_append, List.singleton_append, spl_cons]
    rfl
  | c :: m, h => by
    have hc : (c == 10) = false := by
      rcases hc : c == 10 with _ | _
      · rfl
      · exact absurd (List.mem_cons.2 (.inl (by simpa using (by simpa using hc : c = 10).symm))) h
    rw [List.cons_append, List.cons_append, spl_cons, hc, spl_line r m (fun hm => h (List.mem_cons_of_mem _ hm))]
    rfl
theorem spl_flat : ∀ L : List (List UInt8), (∀ x ∈ L, Whole x) → spl (L.flatMap id) = L
  | [], _ => rfl
  | x :: L, h => by
    obtain ⟨m, rfl, hm⟩ := h x (List.mem_cons_self ..)
    rw [List.flatMap_cons, id, spl_line _ m hm, spl_flat L (fun y hy => h y (List.mem_cons_of_mem _ hy))]
theorem spl_ne {l : List UInt8} (h : l ≠ []) : spl l ≠ [] := by rw [spl_cut l h]; simp
theorem ends_tail {c : UInt8} {l : List UInt8} (h : Ends (c :: l)) : Ends l := by
  rcases h with h | ⟨m, h⟩
  · cases h
  · rcases m with _ | ⟨d, m⟩
    · left; simpa using (List.cons.inj h).2
    · right; exact ⟨m, (List.cons.inj h).2⟩
theorem lines_ok : ∀ l : List UInt8, Ends l → ∀ x ∈ spl l, Whole x
  | [], _, x, hx => by simp [spl] at hx
  | c :: l, h, x, hx => by
    have ih := lines_ok l (ends_tail h)
    rw [spl_cons] at hx
    rcases hc : c == 10 with _ | _
    · rw [hc] at hx
      simp only [Bool.false_eq_true, if_false] at hx
      have hl : l ≠ [] := by
        rintro rfl
        rcases h with h | ⟨m, h⟩
        · cases h
        · rcases m with _ | ⟨d, m⟩
          · have := (List.cons.inj h).1; rw [this] at hc; cases hc
          · have := (List.cons.inj h).2; simp at this
      rcases hs : spl l with _ | ⟨y, r⟩
      · exact absurd hs (spl_ne hl)
      · rw [hs] at hx ih
        rcases List.mem_cons.1 hx with rfl | hx
        · obtain ⟨m, rfl, hm⟩ := ih y (List.mem_cons_self ..)
          refine ⟨c :: m, rfl, ?_⟩
          rw [List.mem_cons, not_or]
          exact ⟨fun e => (by rw [← e] at hc; cases hc), hm⟩
        · exact ih x (List.mem_cons_of_mem _ hx)
    · rw [hc] at hx
      simp only [if_true] at hx
      rcases List.mem_cons.1 hx with rfl | hx
      · exact ⟨[], by simpa using hc, by simp⟩
      · exact ih x hx
theorem trm_whole : ∀ m : List UInt8, (10 : UInt8) ∉ m → trm (m ++ [10]) = m.dropWhile (· == 9) ++ [10]
  | [], _ => rfl
  | c :: m, h => by
    have ih := trm_whole m (fun hm => h (List.mem_cons_of_mem _ hm))
    unfold trm at *
    rw [List.cons_append, List.dropWhile_cons, List.dropWhile_cons]
    rcases hc : c == 9 with _ | _
    · simp
    · simpa using ih
theorem whole_trm {x : List UInt8} (h : Whole x) : Whole (trm x) := by
  obtain ⟨m, rfl, hm⟩ := h
  exact ⟨_, trm_whole m hm, fun h => hm ((List.dropWhile_sublist _).subset h)⟩
theorem spl_strip {l : List UInt8} (h : Ends l) : spl (rst true l) = (spl l).map trm := by
  rw [(rst_spl l).1]
  have : (spl l).flatMap trm = ((spl l).map trm).flatMap id := by rw [List.flatMap_map]; rfl
  rw [this]
  refine spl_flat _ (fun x hx => ?_)
  obtain ⟨y, hy, rfl⟩ := List.mem_map.1 hx
  exact whole_trm (lines_ok l h y hy)
theorem term_tabs {x T : ByteArray} (h : chop (tabL x) ≠ T) : termB x T true = false := by
  unfold termB
  rw [if_pos rfl, Lib.toList_data, Lib.toList_data]
  rcases hb : (chop (tabL x)).data.toList == T.data.toList with _ | _
  · rfl
  · exact absurd (ba_inj (by simpa using hb)) h
theorem tabs_none {s d : ByteArray} (hs : Ends s.data.toList) (hf : tookB (lnsL (stripS s) 0) d = false) : termL (lnsL s 0) d true = none := by
  unfold termL
  rw [List.find?_eq_none]
  intro x hx
  have h1 : trm x.2.data.toList ∈ spl (stripS s).data.toList := by
    rw [strip_list, spl_strip hs]
    have := lns_spl s _ 0 rfl (by omega)
    rw [List.drop_zero] at this
    rw [← this]
    exact List.mem_map.2 ⟨_, List.mem_map.2 ⟨x, hx, rfl⟩, rfl⟩
  have h2 := lns_spl (stripS s) _ 0 rfl (by omega)
  rw [List.drop_zero] at h2
  rw [← h2] at h1
  obtain ⟨y, hy, he⟩ := List.mem_map.1 h1
  have hyx : y.2 = tabL x.2 := ba_inj he
  unfold tookB at hf
  rw [List.any_eq_false] at hf
  have h3 := hf y hy
  rw [hyx] at h3
  rw [term_tabs (by simpa using h3)]
  simp
theorem tabs_rep (k : Nat) {D : List UInt8} (h : (9 : UInt8) ∉ D) : (List.replicate k 9 ++ D).dropWhile (· == 9) = D := by
  induction k with
  | zero =>
    rw [List.replicate_zero, List.nil_append]
    rcases D with _ | ⟨c, D⟩
    · rfl
    · have hc : (c == 9) = false := by
        rcases hc : c == 9 with _ | _
        · rfl
        · exact absurd (List.mem_cons.2 (.inl (by simpa using (by simpa using hc : c = 9).symm))) h
      rw [List.dropWhile_cons, hc]
      rfl
  | succ k ih =>
    rw [List.replicate_succ, List.cons_append, List.dropWhile_cons]
    simpa using ih
def tabE (k : Nat) (d : ByteArray) : ByteArray := ⟨(List.replicate k (9 : UInt8) ++ d.data.toList).toArray⟩
theorem tabE_list (k : Nat) (d : ByteArray) : (tabE k d).data.toList = List.replicate k 9 ++ d.data.toList := rfl
theorem tabE_size (k : Nat) (d : ByteArray) : (tabE k d).size = k + d.size := by
  rw [← lenS, tabE_list, List.length_append, List.length_replicate, lenS]
theorem tabE_zero (d : ByteArray) : tabE 0 d = d := ba_inj rfl
theorem tabE_succ (k : Nat) (d : ByteArray) : (⟨#[9]⟩ : ByteArray) ++ tabE k d = tabE (k + 1) d := by
  apply ba_inj
  rw [app_list, tabE_list, tabE_list, List.replicate_succ]
  rfl
theorem tabs_term (s d : ByteArray) (k : Nat) (hs : Ends s.data.toList) (hd : 0 < d.size) (h10 : (10 : UInt8) ∉ d.data.toList) (h9 : (9 : UInt8) ∉ d.data.toList) (hf : tookB (lnsL (stripS s) 0) d = false) :
    termL (lnsL (s ++ tabE k d) 0) d true = some (s.size, tabE k d) := by
  have hE10 : (10 : UInt8) ∉ (tabE k d).data.toList := by
    rw [tabE_list, List.mem_append, not_or]
    refine ⟨fun h => ?_, h10⟩
    have := (List.mem_replicate.1 h).2
    cases this
  have hsz : (s ++ tabE k d).size = s.size + (k + d.size) := by rw [ByteArray.size_append, tabE_size]
  have hdr : (s ++ tabE k d).data.toList.drop s.size = (tabE k d).data.toList := by
    rw [app_list, ← lenS s, List.drop_left]
  have he := endN_eol (s := (s ++ tabE k d).data.toList) (p := s.size) (by rw [lenS]; omega)
  have e1 : eol (tabE k d).data.toList = (tabE k d).data.toList.length := by
    unfold eol
    rw [fnd_no _ hE10, if_neg (by omega)]
  rw [hdr, e1] at he
  have hx : (s ++ tabE k d).extract s.size (endN (s ++ tabE k d).data.toList s.size) = tabE k d := by
    apply ba_inj
    rw [ext_list, hdr, he, Nat.add_sub_cancel_left, List.take_length]
  have hl : lnsL (s ++ tabE k d) s.size = (s.size, tabE k d) :: lnsL (s ++ tabE k d) (endN (s ++ tabE k d).data.toList s.size) := by
    rw [lnsL_cons (by omega), hx]
  have ht : tabL (tabE k d) = d := by
    apply ba_inj
    show (tabE k d).data.toList.dropWhile (· == 9) = _
    rw [tabE_list, tabs_rep k h9]
  have hy : termB (tabE k d) d true = true := by
    unfold termB
    rw [if_pos rfl, ht, chop_no h10]
    simp
  rw [lns_app s _ hs _ 0 rfl (by omega), hl]
  unfold termL
  rw [List.find?_append]
  have h0 := tabs_none hs hf
  unfold termL at h0
  rw [h0]
  show List.find? _ _ = _
  rw [List.find?_cons, hy]
theorem tabs_cont (s e : ByteArray) : contT (s ++ e) 0 s.size true = stripS s := by
  have h := rounds_cont s e
  unfold contT at *
  rw [if_neg (by simp)] at h
  rw [if_pos rfl, h]
end Go.Proofs.YtlenmkcafoiefabGreatDoor
