/- alias: what Set and Unset do to a valid list. -/
import Derived.Test.YticehbhedoploaaGreatDoorAlS
namespace Go.Proofs.YticehbhedoploaaGreatDoor
open Go.RowKit
set_option linter.unusedVariables false

theorem without_facts {l : List Al} {s : ByteArray} (ha : Asc l) : Asc (withoutL l s) ∧ (∀ x ∈ withoutL l s, x ∈ l ∧ x.n ≠ s) := by
  refine ⟨ha.sublist (List.filter_sublist ..), fun x hx => ?_⟩
  unfold withoutL at hx
  rw [List.mem_filter] at hx
  exact ⟨hx.1, by simpa using hx.2⟩
theorem drop_above {s : ByteArray} : ∀ (r : List Al), Asc r → (∀ x ∈ r, x.n ≠ s) → ∀ x ∈ r.dropWhile (fun x => ltB x.n s), ltB s x.n = true
  | [], _, _, x, hx => by simp at hx
  | y :: r, ha, hn, x, hx => by
    obtain ⟨a1, a2⟩ := List.pairwise_cons.1 ha
    by_cases h : ltB y.n s = true
    · rw [List.dropWhile_cons_of_pos (p := fun x : Al => ltB x.n s) h] at hx
      exact drop_above r a2 (fun z hz => hn z (by simp [hz])) x hx
    · rw [List.dropWhile_cons_of_neg (p := fun x : Al => ltB x.n s) h] at hx
      have hy : ltB s y.n = true := ltB_tri (by simpa using h) (hn y (by simp))
      rcases List.mem_cons.1 hx with rfl | hx
      · exact hy
      · exact ltB_trans hy (a1 x hx)
theorem take_below {s : ByteArray} : ∀ (r : List Al), ∀ x ∈ r.takeWhile (fun x => ltB x.n s), ltB x.n s = true
  | [], x, hx => by simp at hx
  | y :: r, x, hx => by
    by_cases h : ltB y.n s = true
    · rw [List.takeWhile_cons_of_pos (p := fun x : Al => ltB x.n s) h] at hx
      rcases List.mem_cons.1 hx with rfl | hx
      · exact h
      · exact take_below r x hx
    · rw [List.takeWhile_cons_of_neg (p := fun x : Al => ltB x.n s) h] at hx
      simp at hx
theorem setL_facts {l : List Al} {s v : ByteArray} (ha : Asc l) : ∃ a b : List Al, setL l s v = a ++ ⟨s, v⟩ :: b ∧ withoutL l s = a ++ b ∧ (∀ x ∈ a, ltB x.n s = true) ∧ (∀ x ∈ b, ltB s x.n = true) := by
  obtain ⟨h1, h2⟩ := without_facts (s := s) ha
  refine ⟨_, _, rfl, (List.takeWhile_append_dropWhile ..).symm, take_below _, drop_above _ h1 (fun x hx => (h2 x hx).2)⟩
theorem find_none {a : List Al} {s : ByteArray} (h : ∀ x ∈ a, x.n ≠ s) : a.find? (fun x => decide (x.n = s)) = none := by
  rw [List.find?_eq_none]
  intro x hx
  simpa using h x hx
theorem set_get {l : List Al} {s v : ByteArray} (ha : Asc l) : getL (setL l s v) s = (v, true) := by
  obtain ⟨a, b, h1, h2, h3, h4⟩ := setL_facts (s := s) (v := v) ha
  rw [h1, getL, List.find?_append, find_none (fun x hx => ltB_ne (h3 x hx)), List.find?_cons_of_pos (by simp)]
  rfl
theorem asc_find {l : List Al} (ha : Asc l) {x : Al} (hx : x ∈ l) : l.find? (fun y => decide (y.n = x.n)) = some x := by
  induction l with
  | nil => simp at hx
  | cons y l ih =>
    obtain ⟨a1, a2⟩ := List.pairwise_cons.1 ha
    rcases List.mem_cons.1 hx with rfl | hx
    · rw [List.find?_cons_of_pos (by simp)]
    · rw [List.find?_cons_of_neg (by simpa using ltB_ne (a1 x hx)), ih a2 hx]
theorem set_asc {l : List Al} {s v : ByteArray} (ha : Asc l) : Asc (setL l s v) := by
  obtain ⟨a, b, h1, h2, h3, h4⟩ := setL_facts (s := s) (v := v) ha
  have hw := (without_facts (s := s) ha).1
  rw [h2] at hw
  obtain ⟨w1, w2, w3⟩ := List.pairwise_append.1 hw
  rw [h1]
  refine List.pairwise_append.2 ⟨w1, List.pairwise_cons.2 ⟨h4, w2⟩, fun x hx y hy => ?_⟩
  rcases List.mem_cons.1 hy with rfl | hy
  · exact h3 x hx
  · exact w3 x hx y hy
theorem set_other {l : List Al} {s v : ByteArray} (ha : Asc l) {x : Al} (hx : x ∈ l) (hn : x.n ≠ s) : getL (setL l s v) x.n = (x.v, true) := by
  obtain ⟨a, b, h1, h2, h3, h4⟩ := setL_facts (s := s) (v := v) ha
  have hm : x ∈ setL l s v := by
    have hw : x ∈ withoutL l s := by
      unfold withoutL
      rw [List.mem_filter]
      exact ⟨hx, by simpa using hn⟩
    rw [h2, List.mem_append] at hw
    rw [h1, List.mem_append, List.mem_cons]
    rcases hw with h | h
    · exact .inl h
    · exact .inr (.inr h)
  rw [getL, asc_find (set_asc ha) hm]
theorem set_valid {l : List Al} {s v : ByteArray} (hv : valL l = 0) (hs : nameB s = true) (hvs : v.size ≤ 4096) (hlen : (withoutL l s).length < 64) : valL (setL l s v) = 0 := by
  obtain ⟨q1, q2, q3⟩ := valL_zero.1 hv
  obtain ⟨a, b, h1, h2, h3, h4⟩ := setL_facts (s := s) (v := v) q3
  have hm : ∀ x ∈ a ++ b, x ∈ l := fun x hx => by rw [← h2] at hx; exact ((without_facts q3).2 x hx).1
  refine valL_zero.2 ⟨?_, fun x hx => ?_, set_asc q3⟩
  · rw [h2, List.length_append] at hlen
    rw [h1, List.length_append, List.length_cons]
    omega
  · rw [h1, List.mem_append, List.mem_cons] at hx
    rcases hx with h | rfl | h
    · exact q2 x (hm x (by simp [h]))
    · exact ⟨hs, hvs⟩
    · exact q2 x (hm x (by simp [h]))
theorem set_has {l : List Al} {s v : ByteArray} (ha : Asc l) : hasL (setL l s v) s = true := by
  obtain ⟨a, b, h1, h2, h3, h4⟩ := setL_facts (s := s) (v := v) ha
  unfold hasL
  rw [h1, List.any_append, List.any_cons]
  simp
theorem set_without {l : List Al} {s v : ByteArray} (ha : Asc l) : withoutL (setL l s v) s = withoutL l s ∧ (setL l s v).length = (withoutL l s).length + 1 := by
  obtain ⟨a, b, h1, h2, h3, h4⟩ := setL_facts (s := s) (v := v) ha
  have fa : ∀ c : List Al, (∀ x ∈ c, x.n ≠ s) → withoutL c s = c := fun c hc => by
    unfold withoutL
    rw [List.filter_eq_self]
    intro x hx
    simpa using hc x hx
  refine ⟨?_, by rw [h1, h2]; simp; omega⟩
  rw [h1, h2]
  have e : withoutL (a ++ (⟨s, v⟩ : Al) :: b) s = withoutL a s ++ withoutL b s := by
    unfold withoutL
    rw [List.filter_append, List.filter_cons_of_neg (by simp)]
  rw [e, fa a (fun x hx => ltB_ne (h3 x hx)), fa b (fun x hx => (ltB_ne (h4 x hx)).symm)]
theorem without_valid {l : List Al} {s : ByteArray} (hv : valL l = 0) : valL (withoutL l s) = 0 ∧ getL (withoutL l s) s = (⟨#[]⟩, false) := by
  obtain ⟨q1, q2, q3⟩ := valL_zero.1 hv
  obtain ⟨h1, h2⟩ := without_facts (s := s) q3
  refine ⟨valL_zero.2 ⟨Nat.le_trans (List.length_filter_le ..) q1, fun x hx => q2 x (h2 x hx).1, h1⟩, ?_⟩
  rw [getL, find_none (fun x hx => (h2 x hx).2)]
end Go.Proofs.YticehbhedoploaaGreatDoor
