/- pattern: matching a prefix of a text, a star behind a pattern; items that stand in a row. -/
import Derived.Test.YteppndkhmbhnkaaDoorPMp
import Derived.Test.YteppndkhmbhnkaaDoorPClone
import Derived.Laws.AppendOwnNone
import Derived.Lib.AppendZeros
namespace Go.Proofs.YteppndkhmbhnkaaDoor
open Go.RowKit
set_option linter.unusedVariables false

theorem mp_take {s : List UInt8} {k : Nat} (hk : k ≤ s.length) : ∀ (is : List It) (p n : Nat), n ≤ k → (Mp (s.take k) is p n ↔ Mp s is p n)
  | [], p, n, hn => by
    rw [mp_nil, mp_nil, List.length_take]
    constructor
    · rintro ⟨h, _⟩; exact ⟨h, by omega⟩
    · rintro ⟨h, _⟩; exact ⟨h, by omega⟩
  | x :: r, p, n, hn => by
    by_cases h3 : x.k = 3
    · rw [mp_star h3, mp_star h3]
      constructor
      · rintro ⟨q, h1, h2⟩; exact ⟨q, h1, (mp_take hk r q n hn).1 h2⟩
      · rintro ⟨q, h1, h2⟩; exact ⟨q, h1, (mp_take hk r q n hn).2 h2⟩
    · rw [mp_one h3, mp_one h3]
      constructor
      · rintro ⟨c, h1, h2, h4⟩
        have h5 := (mp_take hk r (p + 1) n hn).1 h4
        have := mp_le h5
        exact ⟨c, by rw [List.getElem?_take, if_pos (by omega)] at h1; exact h1, h2, h5⟩
      · rintro ⟨c, h1, h2, h4⟩
        have := mp_le h4
        exact ⟨c, by rw [List.getElem?_take, if_pos (by omega)]; exact h1, h2, (mp_take hk r (p + 1) n hn).2 h4⟩
theorem preL_le (is : List It) (s : List UInt8) (lg : Bool) : (preL is s lg).1 ≤ s.length := by
  rcases hv : is.any inv with _ | _
  · have h := preL_good is s lg hv
    rcases hb : (preL is s lg).2 with _ | _
    · rw [(h.2 hb).1]; exact Nat.zero_le _
    · exact (mp_le (h.1 hb).1).2
  · unfold preL; rw [if_pos hv]; exact Nat.zero_le _
theorem preL_two (is : List It) (s : List UInt8) : (preL is s true).2 = (preL is s false).2 ∧ (preL is s false).1 ≤ (preL is s true).1 := by
  rcases hv : is.any inv with _ | _
  · have h := preL_good is s true hv
    have h' := preL_good is s false hv
    rcases hb : (preL is s true).2 with _ | _ <;> rcases hb' : (preL is s false).2 with _ | _
    · exact ⟨rfl, by rw [(h'.2 hb').1]; exact Nat.zero_le _⟩
    · exact absurd (h'.1 hb').1 ((h.2 hb).2 _)
    · exact absurd (h.1 hb).1 ((h'.2 hb').2 _)
    · refine ⟨rfl, ?_⟩
      have := (h.1 hb).2 _ (h'.1 hb').1
      simpa using this
  · unfold preL; rw [if_pos hv, if_pos hv]; exact ⟨rfl, Nat.le_refl _⟩
theorem mtL_pre (is : List It) (s : List UInt8) (lg : Bool) (h : (preL is s lg).2 = true) : mtL is (s.take (preL is s lg).1) = true := by
  rcases hv : is.any inv with _ | _
  · have hg := (preL_good is s lg hv).1 h
    have hl := preL_le is s lg
    rw [mtL_iff _ _ hv, List.length_take, Nat.min_eq_left hl]
    exact (mp_take hl is 0 _ (Nat.le_refl _)).2 hg.1
  · unfold preL at h; rw [if_pos hv] at h; simp at h
def starI : It := ⟨3, [], false, []⟩
theorem inv_star (is : List It) : (is ++ [starI]).any inv = is.any inv := by
  rw [List.any_append]
  have : [starI].any inv = false := by rfl
  rw [this, Bool.or_false]
theorem mtL_star (is : List It) (s : List UInt8) : mtL (is ++ [starI]) s = (preL is s false).2 := by
  rcases hv : is.any inv with _ | _
  · have hg := preL_good is s false hv
    rw [Bool.eq_iff_iff, mtL_iff _ _ (by rw [inv_star, hv]), mp_append]
    constructor
    · rintro ⟨q, h1, h2⟩
      rcases hb : (preL is s false).2 with _ | _
      · exact absurd h1 ((hg.2 hb).2 _)
      · rfl
    · intro hb
      refine ⟨_, (hg.1 hb).1, ?_⟩
      rw [mp_star rfl]
      exact ⟨s.length, (mp_le (hg.1 hb).1).2, rfl, Nat.le_refl _⟩
  · have e1 : mtL (is ++ [starI]) s = false := by
      unfold mtL preL
      rw [inv_star, if_pos hv]
      rfl
    rw [e1]
    unfold preL
    rw [if_pos hv]

/-- A row of items, whose sets may lie anywhere. -/
theorem patAt_row {w : World} {B : Nat} {v : Value} {is : List It} {vs : List Value} (hv : vs.length = is.length) (h : w.ownsRow B 43 4 v is.length (itCells is vs)) (hs : ∀ i (hi : i < is.length) (hi' : i < vs.length), SpAt w w.heap.size (vs[i]'hi') (is[i]'hi).set) :
    ∃ A c, v = .slice A is.length c ∧ PatAt w w.heap.size A is ∧ is.length ≤ c ∧ c ≤ maxLen := by
  have h' := h
  rcases h.2 with ⟨rfl, h0⟩ | ⟨g, cap, cur, rfl, hg, hh, h2, h3, h4, h5⟩
  · exact ⟨none, 0, by rw [h0], .inl (List.length_eq_zero_iff.1 h0), by omega, by unfold maxLen; omega⟩
  · refine ⟨_, cap, rfl, .inr ⟨g, 0, rfl, lt_of_block hh, fun k hk => ?_⟩, h2, h3⟩
    have hk' : k < vs.length := by omega
    obtain ⟨q0, q1, q2, q3⟩ := itCells_get is vs k hk hk'
    simp only [Nat.zero_add]
    refine ⟨vs[k]'hk', ?_, ?_, ?_, ?_, hs k hk hk'⟩
    · rw [World.ownsRow.cellAt h' (k * 4) (by omega)]; exact q0
    · rw [World.ownsRow.cellAt h' (k * 4 + 1) (by omega)]; exact q1
    · rw [World.ownsRow.cellAt h' (k * 4 + 2) (by omega)]; exact q2
    · rw [World.ownsRow.cellAt h' (k * 4 + 3) (by omega)]; exact q3
theorem itCells_one : ∀ (is : List It) (vs : List Value), (∀ v ∈ vs, v.oneCell' = true) → ∀ u ∈ itCells is vs, u.oneCell' = true
  | [], _, _, u, hu => by cases ‹List Value› <;> simp [itCells] at hu
  | _ :: _, [], _, u, hu => by simp [itCells] at hu
  | x :: is, v :: vs, h, u, hu => by
    rw [itCells] at hu
    simp only [List.mem_cons] at hu
    rcases hu with rfl | rfl | rfl | rfl | hu
    · rfl
    · rfl
    · rfl
    · exact h _ List.mem_cons_self
    · exact itCells_one is vs (fun v hv => h v (List.mem_cons_of_mem _ hv)) u hu
theorem pick_list {α : Type} {p : Nat → α → Prop} : ∀ (n : Nat), (∀ i, i < n → ∃ x, p i x) → ∃ l : List α, l.length = n ∧ ∀ i x, l[i]? = some x → p i x
  | 0, _ => ⟨[], rfl, fun i x h => by simp at h⟩
  | n + 1, h => by
    obtain ⟨l, hl, hp⟩ := pick_list n fun i hi => h i (by omega)
    obtain ⟨x, hx⟩ := h n (by omega)
    refine ⟨l ++ [x], by simp [hl], fun i y hy => ?_⟩
    rcases Nat.lt_or_ge i n with hi | hi
    · rw [List.getElem?_append_left (by omega)] at hy
      exact hp i y hy
    · rw [List.getElem?_append_right (by omega)] at hy
      rcases hk : i - l.length with _ | k
      · rw [hk] at hy
        simp at hy
        subst hy
        obtain rfl : i = n := by omega
        exact hx
      · rw [hk] at hy
        simp at hy
/-- The cells of a pattern, with the values of its sets. -/
theorem patAt_vals {w : World} {B : Nat} {ad : Addr} {is : List It} (h : PatAt w B (some ad) is) : ∃ vs : List Value, vs.length = is.length ∧ (∀ v ∈ vs, v.oneCell' = true) ∧ (∀ j u, (itCells is vs)[j]? = some u → w.cell? (ad.add j) = some u) ∧ ∀ i (hi : i < is.length) (hi' : i < vs.length), SpAt w B (vs[i]'hi') (is[i]'hi).set := by
  rcases h with rfl | ⟨b, off, e, hb, hc⟩
  · exact ⟨[], rfl, by simp, by intro j u hu; simp [itCells] at hu, fun i hi => by simp at hi⟩
  · injection e with e
    subst e
    obtain ⟨vs, hl, hp⟩ := pick_list (p := fun i sv => ∀ h : i < is.length, w.cell? ⟨b, off + i * 4, none⟩ = some (.int .i64 (is[i]'h).k) ∧ w.cell? ⟨b, off + i * 4 + 1, none⟩ = some (.string ⟨(is[i]'h).t.toArray⟩) ∧ w.cell? ⟨b, off + i * 4 + 2, none⟩ = some (.bool (is[i]'h).neg) ∧ w.cell? ⟨b, off + i * 4 + 3, none⟩ = some sv ∧ SpAt w B sv (is[i]'h).set) is.length (fun i hi => by
      obtain ⟨sv, h⟩ := hc i hi
      exact ⟨sv, fun _ => h⟩)
    have hs : ∀ i (hi : i < is.length) (hi' : i < vs.length), SpAt w B (vs[i]'hi') (is[i]'hi).set := fun i hi hi' => (hp i _ (List.getElem?_eq_getElem hi') hi).2.2.2.2
    refine ⟨vs, hl, ?_, ?_, hs⟩
    · intro v hv
      obtain ⟨i, hi, rfl⟩ := List.getElem_of_mem hv
      obtain ⟨A9, c9, e9, _⟩ := hs i (by omega) hi
      rw [e9]
      rfl
    · intro j u hu
      have hj : j < is.length * 4 := by
        have := (List.getElem?_eq_some_iff.1 hu).1
        rw [itCells_length is vs hl] at this
        exact this
      have hk : j / 4 < is.length := by omega
      have hk' : j / 4 < vs.length := by omega
      obtain ⟨q0, q1, q2, q3⟩ := itCells_get is vs (j / 4) hk hk'
      obtain ⟨c0, c1, c2, c3, _⟩ := hp (j / 4) _ (List.getElem?_eq_getElem hk') hk
      rw [show (⟨b, off, none⟩ : Addr).add j = ⟨b, off + j, none⟩ from by simp [Addr.add]]
      have hm : j % 4 = 0 ∨ j % 4 = 1 ∨ j % 4 = 2 ∨ j % 4 = 3 := by omega
      rcases hm with hm | hm | hm | hm
      · have e1 : j / 4 * 4 = j := by omega
        rw [e1] at q0 c0
        rw [q0] at hu; rw [c0]; exact hu
      · have e1 : j / 4 * 4 + 1 = j := by omega
        rw [e1] at q1
        rw [show off + j / 4 * 4 + 1 = off + j from by omega] at c1
        rw [q1] at hu; rw [c1]; exact hu
      · have e1 : j / 4 * 4 + 2 = j := by omega
        rw [e1] at q2
        rw [show off + j / 4 * 4 + 2 = off + j from by omega] at c2
        rw [q2] at hu; rw [c2]; exact hu
      · have e1 : j / 4 * 4 + 3 = j := by omega
        rw [e1] at q3
        rw [show off + j / 4 * 4 + 3 = off + j from by omega] at c3
        rw [q3] at hu; rw [c3]; exact hu
theorem prefixes_c (A : Option Addr) (is : List It) (c : Nat) (s : List UInt8) (w : World) (hp : PatAt w w.heap.size A is) (ho : ∀ x ∈ is, ItOk x) (hl : is.length ≤ 1000000) (hsl : s.length ≤ 1000000) :
    Calls Tryd.prog 34 #[.slice A is.length c, .string ⟨s.toArray⟩] w fun e w' => e = .returned (.bool (preL is s false).2) ∧ Below w.heap.size w w' := by
  have hc := Lib.hid (prefix_c A is c s false w hp ho hl hsl)
  generalize preL is s false = R at *
  obtain ⟨n, f⟩ := R
  clear hp ho
  go_enter Tryd.func34, Tryd.ntmps34
  go_wp2_with fail
  refine hc.out.mono ?_
  rintro e w7 ⟨rfl, m7⟩
  go_wp2_with fail
  go_ret
  exact ⟨rfl, m7⟩
end Go.Proofs.YteppndkhmbhnkaaDoor
