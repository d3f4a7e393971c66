/- pattern: slices.Clone. -/
import Derived.Test.YteppndkhmbhnkaaDoorPRevB
namespace Go.Proofs.YteppndkhmbhnkaaDoor
open Go.RowKit
set_option linter.unusedVariables false

def ivCells (X : Nat → IV) : Nat → List Value
  | 0 => []
  | n + 1 => ivCells X n ++ [.int .i64 (X n).k, .string (X n).s, .bool (X n).b, .slice (X n).a (X n).l (X n).c]
theorem ivCells_length (X : Nat → IV) : ∀ n, (ivCells X n).length = n * 4
  | 0 => rfl
  | n + 1 => by rw [ivCells, List.length_append, ivCells_length X n]; simp; omega
theorem ivCells_get (X : Nat → IV) : ∀ (n m : Nat), m < n → (ivCells X n)[m * 4]? = some (.int .i64 (X m).k) ∧ (ivCells X n)[m * 4 + 1]? = some (.string (X m).s) ∧ (ivCells X n)[m * 4 + 2]? = some (.bool (X m).b) ∧ (ivCells X n)[m * 4 + 3]? = some (.slice (X m).a (X m).l (X m).c)
  | 0, m, h => by omega
  | n + 1, m, h => by
    have hl := ivCells_length X n
    rw [ivCells]
    by_cases e : m < n
    · have ih := ivCells_get X n m e
      rw [List.getElem?_append_left (by omega), List.getElem?_append_left (by omega), List.getElem?_append_left (by omega), List.getElem?_append_left (by omega)]
      exact ih
    · have : m = n := by omega
      subst this
      rw [List.getElem?_append_right (by omega), List.getElem?_append_right (by omega), List.getElem?_append_right (by omega), List.getElem?_append_right (by omega), hl]
      rw [show m * 4 - m * 4 = 0 from by omega, show m * 4 + 1 - m * 4 = 1 from by omega, show m * 4 + 2 - m * 4 = 2 from by omega, show m * 4 + 3 - m * 4 = 3 from by omega]
      exact ⟨rfl, rfl, rfl, rfl⟩
theorem ivCells_any (X : Nat → IV) (n j : Nat) (u : Value) (h : (ivCells X n)[j]? = some u) : ∃ m, m < n ∧ (j = m * 4 ∧ u = .int .i64 (X m).k ∨ j = m * 4 + 1 ∧ u = .string (X m).s ∨ j = m * 4 + 2 ∧ u = .bool (X m).b ∨ j = m * 4 + 3 ∧ u = .slice (X m).a (X m).l (X m).c) := by
  have hj : j < n * 4 := by
    have := (List.getElem?_eq_some_iff.1 h).1
    rw [ivCells_length] at this; exact this
  have hm : j / 4 < n := by omega
  obtain ⟨q0, q1, q2, q3⟩ := ivCells_get X n (j / 4) hm
  refine ⟨j / 4, hm, ?_⟩
  have h4 : j = j / 4 * 4 ∨ j = j / 4 * 4 + 1 ∨ j = j / 4 * 4 + 2 ∨ j = j / 4 * 4 + 3 := by omega
  rcases h4 with e | e | e | e
  · rw [← e] at q0; rw [h] at q0; injection q0 with q0; exact .inl ⟨e, q0⟩
  · rw [← e] at q1; rw [h] at q1; injection q1 with q1; exact .inr (.inl ⟨e, q1⟩)
  · rw [← e] at q2; rw [h] at q2; injection q2 with q2; exact .inr (.inr (.inl ⟨e, q2⟩))
  · rw [← e] at q3; rw [h] at q3; injection q3 with q3; exact .inr (.inr (.inr ⟨e, q3⟩))
def SrcV (w : World) (b off n : Nat) (X : Nat → IV) : Prop := ∀ m, m < n → w.cell? ⟨b, off + m * 4, none⟩ = some (.int .i64 (X m).k) ∧ w.cell? ⟨b, off + m * 4 + 1, none⟩ = some (.string (X m).s) ∧ w.cell? ⟨b, off + m * 4 + 2, none⟩ = some (.bool (X m).b) ∧ w.cell? ⟨b, off + m * 4 + 3, none⟩ = some (.slice (X m).a (X m).l (X m).c)
theorem patAt_X {w : World} {B b off : Nat} {is : List It} (hne : is ≠ []) (h : PatAt w B (some ⟨b, off, none⟩) is) : b < B ∧ ∃ X : Nat → IV, SrcV w b off is.length X ∧ ∀ m (hm : m < is.length), (X m).k = (is[m]'hm).k ∧ (X m).s = ⟨(is[m]'hm).t.toArray⟩ ∧ (X m).b = (is[m]'hm).neg ∧ SpAt w B (.slice (X m).a (X m).l (X m).c) (is[m]'hm).set := by
  rcases h with rfl | ⟨b', off', e, hb, hc⟩
  · exact absurd rfl hne
  · injection e with e; injection e with e1 e2; subst e1; subst e2
    refine ⟨hb, ?_⟩
    have : ∀ m, ∃ x : IV, ∀ hm : m < is.length, (w.cell? ⟨b, off + m * 4, none⟩ = some (.int .i64 x.k) ∧ w.cell? ⟨b, off + m * 4 + 1, none⟩ = some (.string x.s) ∧ w.cell? ⟨b, off + m * 4 + 2, none⟩ = some (.bool x.b) ∧ w.cell? ⟨b, off + m * 4 + 3, none⟩ = some (.slice x.a x.l x.c)) ∧ x.k = (is[m]'hm).k ∧ x.s = ⟨(is[m]'hm).t.toArray⟩ ∧ x.b = (is[m]'hm).neg ∧ SpAt w B (.slice x.a x.l x.c) (is[m]'hm).set := by
      intro m
      by_cases hm : m < is.length
      · obtain ⟨sv, h0, h1, h2, h3, h4⟩ := hc m hm
        have h5 := h4
        obtain ⟨A, c, rfl, _⟩ := h5
        exact ⟨⟨(is[m]'hm).k, ⟨(is[m]'hm).t.toArray⟩, (is[m]'hm).neg, A, (is[m]'hm).set.length, c⟩, fun _ => ⟨⟨h0, h1, h2, h3⟩, rfl, rfl, rfl, h4⟩⟩
      · exact ⟨⟨0, ⟨#[]⟩, false, none, 0, 0⟩, fun h => absurd h hm⟩
    exact ⟨fun m => Classical.choose (this m), fun m hm => (Classical.choose_spec (this m) hm).1, fun m hm => (Classical.choose_spec (this m) hm).2⟩
theorem rowV_of_own {w : World} {B n : Nat} {v : Value} {X : Nat → IV} (h : w.ownsRow B 43 4 v n (ivCells X n)) (hv : v ≠ .slice none 0 0) : ∃ g c, v = .slice (some ⟨g, 0, none⟩) n c ∧ B ≤ g ∧ RowV w g n X := by
  have h' := h
  rcases h.2 with ⟨rfl, h0⟩ | ⟨g, cap, cur, rfl, hg, hh, h2, h3, h4, h5⟩
  · exact absurd rfl hv
  · refine ⟨g, cap, rfl, hg, lt_of_block hh, fun m hm => ?_⟩
    obtain ⟨q0, q1, q2, q3⟩ := ivCells_get X n m hm
    refine ⟨⟨?_, ?_, ?_, ?_⟩, Lib.frozen_of_heap hh _, Lib.frozen_of_heap hh _, Lib.frozen_of_heap hh _, Lib.frozen_of_heap hh _⟩
    · rw [World.ownsRow.cellAt h' (m * 4) (by omega)]; exact q0
    · rw [World.ownsRow.cellAt h' (m * 4 + 1) (by omega)]; exact q1
    · rw [World.ownsRow.cellAt h' (m * 4 + 2) (by omega)]; exact q2
    · rw [World.ownsRow.cellAt h' (m * 4 + 3) (by omega)]; exact q3
theorem own_empty (w : World) : (w.alloc (.cells #[] 43)).ownsRow w.heap.size 43 4 (.slice (some ⟨w.heap.size, 0, none⟩) 0 0) 0 [] :=
  ⟨rfl, .inr ⟨w.heap.size, 0, #[], rfl, Nat.le_refl _, heap_alloc_new w _, Nat.le_refl _, by unfold maxLen; omega, by simp, by simp⟩⟩
set_option maxHeartbeats 4000000 in
set_option maxRecDepth 100000 in
theorem cloneNil_c (c : Nat) (w : World) :
    Calls Tryd.prog 61 #[.slice none 0 c] w fun e w' => e = .returned (.slice none 0 0) ∧ w' = w := by
  have hq : (binOp BinOp.eql 26 (.slice none 0 c) (.slice none 0 0)).run Tryd.prog w = .ok (.bool true) w := by kernel_rfl
  go_enter Tryd.func61, Tryd.ntmps61
  go_wp2_with fail
  go_ret
  exact ⟨rfl, rfl⟩
set_option maxHeartbeats 4000000 in
set_option maxRecDepth 100000 in
theorem clone_c (b off n c : Nat) (X : Nat → IV) (w : World) (hX : SrcV w b off n X) (hb : b < w.heap.size) (hn : n ≤ 1000000) :
    Calls Tryd.prog 61 #[.slice (some ⟨b, off, none⟩) n c] w fun e w' => ∃ g c', e = .returned (.slice (some ⟨g, 0, none⟩) n c') ∧ w.heap.size ≤ g ∧ RowV w' g n X ∧ Below w.heap.size w w' := by
  obtain ⟨i0, hi, hz0, hz1, hz2⟩ := info_parts patInfo
  have hq : (binOp BinOp.eql 26 (.slice (some ⟨b, off, none⟩) n c) (.slice none 0 0)).run Tryd.prog w = .ok (.bool false) w := by kernel_rfl
  have ho := own_empty w
  have hwb : Below w.heap.size w (w.alloc (.cells #[] 43)) := (Below.refl _ _).alloc (Nat.le_refl _) _
  have hnews : ∀ j u, (ivCells X n)[j]? = some u → (w.alloc (.cells #[] 43)).cell? ((⟨b, off, none⟩ : Addr).add j) = some u := by
    intro j u hu
    rw [show (⟨b, off, none⟩ : Addr).add j = ⟨b, off + j, none⟩ from by simp [Addr.add]]
    obtain ⟨m, hm, h⟩ := ivCells_any X n j u hu
    obtain ⟨q0, q1, q2, q3⟩ := hX m hm
    refine (hwb.cell (p := ⟨b, off + j, none⟩) hb).trans ?_
    rcases h with ⟨rfl, rfl⟩ | ⟨rfl, rfl⟩ | ⟨rfl, rfl⟩ | ⟨rfl, rfl⟩
    · exact q0
    · rw [← Nat.add_assoc]; exact q1
    · rw [← Nat.add_assoc]; exact q2
    · rw [← Nat.add_assoc]; exact q3
  have hone : ∀ u ∈ ivCells X n, u.oneCell' = true := by
    intro u hu
    obtain ⟨j, hj⟩ := List.getElem?_of_mem hu
    obtain ⟨m, _, h⟩ := ivCells_any X n j u hj
    rcases h with ⟨_, rfl⟩ | ⟨_, rfl⟩ | ⟨_, rfl⟩ | ⟨_, rfl⟩ <;> rfl
  have hlen := ivCells_length X n
  have hwsz : w.heap.size ≤ (w.alloc (.cells #[] 43)).heap.size := hwb.size
  have hmx : maxLen = 9223372036854775807 := rfl
  have Hlen := Lib.hid hlen; have Ho := Lib.hid ho; have Hnews := Lib.hid hnews; have Hone := Lib.hid hone; have Hwb := Lib.hid hwb
  clear hX ho hnews hone hlen hwb
  go_enter Tryd.func61, Tryd.ntmps61
  go_wp2_with (at_builtin; refine wpList_append_own _ rfl _ _ 26 rfl w.heap.size 43 i0 _ 4 56 Tryd.underlying26 hi hz0 hz1 hz2 rfl (by decide) _ _ _ rfl Ho.out ⟨b, off, none⟩ n c (ivCells X n) rfl Hlen.out Hnews.out Hone.out (by omega) (by omega) hwsz ?_)
  intro v' w8 hown' hgrow hnil
  have hb8 : Below w.heap.size w w8 := Hwb.out.grown hgrow hwsz (fun q hq => by
    have := (Ho.out.lt q hq).1; exact this)
  obtain ⟨g, c', rfl, hg, hrow⟩ := rowV_of_own hown' (fun e => hnil e)
  have Hrow := Lib.hid hrow
  clear hown' hgrow hnil Ho Hnews Hone Hwb Hlen hrow
  go_wp2_with fail
  go_ret
  exact ⟨g, c', rfl, hg, Hrow.out, hb8⟩
end Go.Proofs.YteppndkhmbhnkaaDoor
