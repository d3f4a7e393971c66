/- alias: fresh slices of aliases: Clone, Insert at the end. -/
import Derived.Test.YticehbhedoploaaGreatDoorAlA
import Derived.Deep.AppendLies
import Derived.WalkSmall
import Derived.BigQuiet
import Derived.Lib.AppendZeros
import Derived.Laws.AppendOwnNone
namespace Go.Proofs.YticehbhedoploaaGreatDoor
open Go.RowKit
set_option linter.unusedVariables false

def alCells (l : List Al) : List Value := l.flatMap fun x => [.string x.n, .string x.v]
theorem alCells_append (l m : List Al) : alCells (l ++ m) = alCells l ++ alCells m := by simp [alCells]
theorem alCells_length (l : List Al) : (alCells l).length = l.length * 2 := by
  induction l with
  | nil => rfl
  | cons p l ih => rw [alCells, List.flatMap_cons, List.length_append]; unfold alCells at ih; rw [ih]; simp; omega
theorem alCells_get : ∀ (l : List Al) (k : Nat) (h : k < l.length), (alCells l)[k * 2]? = some (.string (l[k]'h).n) ∧ (alCells l)[k * 2 + 1]? = some (.string (l[k]'h).v)
  | [], k, h => by simp at h
  | c :: l, 0, h => ⟨rfl, rfl⟩
  | c :: l, k + 1, h => by
    have ih := alCells_get l k (by simpa using h)
    have e : alCells (c :: l) = .string c.n :: .string c.v :: alCells l := rfl
    rw [e, show (k + 1) * 2 = k * 2 + 1 + 1 from by omega, show k * 2 + 1 + 1 + 1 = (k * 2 + 1) + 1 + 1 from rfl]
    simp only [List.getElem?_cons_succ, List.getElem_cons_succ]
    exact ih
theorem alCells_one (l : List Al) : ∀ u ∈ alCells l, u.oneCell' = true := by
  intro u hu
  unfold alCells at hu
  rw [List.mem_flatMap] at hu
  obtain ⟨x, _, hx⟩ := hu
  simp at hx
  rcases hx with rfl | rfl <;> rfl
theorem alCells_any (l : List Al) (j : Nat) (u : Value) (h : (alCells l)[j]? = some u) : ∃ k, ∃ hk : k < l.length, (j = k * 2 ∧ u = .string (l[k]'hk).n) ∨ (j = k * 2 + 1 ∧ u = .string (l[k]'hk).v) := by
  have hj : j < l.length * 2 := by
    have := (List.getElem?_eq_some_iff.1 h).1
    rw [alCells_length] at this; exact this
  have hk : j / 2 < l.length := by omega
  obtain ⟨q0, q1⟩ := alCells_get l (j / 2) hk
  refine ⟨j / 2, hk, ?_⟩
  have h2 : j = j / 2 * 2 ∨ j = j / 2 * 2 + 1 := by omega
  rcases h2 with e | e
  · rw [← e] at q0; rw [h] at q0; injection q0 with q0; exact .inl ⟨e, q0⟩
  · rw [← e] at q1; rw [h] at q1; injection q1 with q1; exact .inr ⟨e, q1⟩
/-- A slice of fresh aliases. -/
def OwnA (w : World) (B : Nat) (v : Value) (l : List Al) : Prop := w.ownsRow B 47 2 v l.length (alCells l)
theorem alInfo : (Tryz.prog.info? 47).map (fun i => (i.zero, i.size, i.bytes)) = some (some (.agg #[.string { data := #[] }, .string { data := #[] }]), 2, 32) := by kernel_rfl
theorem al_info_parts {o : Option TypeInfo} {z : Value} {n b : Nat} (h : o.map (fun i => (i.zero, i.size, i.bytes)) = some (some z, n, b)) : ∃ i, o = some i ∧ i.zero = some z ∧ i.size = n ∧ i.bytes = b := by
  cases o with
  | none => cases h
  | some i => simp at h; exact ⟨i, rfl, h.1, h.2.1, h.2.2⟩
theorem al_row_kept {w w' : World} {B : Nat} {e : TypeId} {size n : Nat} {v : Value} {xs : List Value} (h : w.ownsRow B e size v n xs) (hk : ∀ k, k < w.heap.size → w'.heap[k]? = w.heap[k]?) : w'.ownsRow B e size v n xs := by
  refine ⟨h.1, ?_⟩
  rcases h.2 with h0 | ⟨g, cap, cur, rfl, hg, hh, r⟩
  · exact .inl h0
  · refine .inr ⟨g, cap, cur, rfl, hg, (hk g ?_).trans hh, r⟩
    rw [Array.getElem?_eq_some_iff] at hh
    exact hh.1
/-- A fresh slice, as one that is read. -/
theorem ownA_at {w : World} {B : Nat} {v : Value} {l : List Al} (h : OwnA w B v l) : ∃ A c, v = .slice A l.length c ∧ AlAt w w.heap.size A l ∧ l.length ≤ c ∧ c ≤ maxLen := by
  have h' := h
  rcases h.2 with ⟨rfl, h0⟩ | ⟨g, cap, cur, rfl, hg, hh, h2, h3, h4, h5⟩
  · exact ⟨none, 0, by rw [h0], .inl (List.eq_nil_of_length_eq_zero h0), by omega, by simp [maxLen]⟩
  · refine ⟨some ⟨g, 0, none⟩, cap, rfl, ?_, h2, h3⟩
    rcases Nat.eq_zero_or_pos l.length with h0 | hp
    · exact .inl (List.eq_nil_of_length_eq_zero h0)
    refine .inr ⟨g, 0, rfl, ?_, fun i hi => ?_⟩
    · rw [Array.getElem?_eq_some_iff] at hh
      exact hh.1
    · obtain ⟨q0, q1⟩ := alCells_get l i hi
      constructor
      · have := World.ownsRow.cellAt h' (i * 2) (by omega)
        rw [show (⟨g, 0 + i * 2, none⟩ : Addr) = ⟨g, i * 2, none⟩ from by rw [Nat.zero_add], this]
        exact q0
      · have := World.ownsRow.cellAt h' (i * 2 + 1) (by omega)
        rw [show (⟨g, 0 + i * 2 + 1, none⟩ : Addr) = ⟨g, i * 2 + 1, none⟩ from by rw [Nat.zero_add], this]
        exact q1
theorem own_emptyA (w : World) : OwnA (w.alloc (.cells #[] 47)) w.heap.size (.slice (some ⟨w.heap.size, 0, none⟩) 0 0) [] :=
  ⟨rfl, .inr ⟨w.heap.size, 0, #[], rfl, Nat.le_refl _, heap_alloc_new w _, Nat.le_refl _, by unfold maxLen; omega, by simp, by simp [alCells]⟩⟩
theorem own_nilA (w : World) (B : Nat) : OwnA w B (.slice none 0 0) [] := World.ownsRow_nil w B _ _
set_option maxHeartbeats 1000000 in
set_option maxRecDepth 100000 in
theorem Clone_c (A : Option Addr) (l : List Al) (c : Nat) (w : World) (hA : AlAt w w.heap.size A l) (hn : A = none → l = [] ∧ c = 0) (hl : l.length ≤ 1000000) :
    Calls Tryz.prog 42 #[.slice A l.length c] w fun e w' => ∃ v, e = .returned v ∧ OwnA w' w.heap.size v l ∧ Below w.heap.size w w' := by
  rcases A with _ | a
  · obtain ⟨rfl, rfl⟩ := hn rfl
    show Calls Tryz.prog 42 #[.slice none 0 0] w _
    have hq : (binOp BinOp.eql 22 (.slice none 0 0) (.slice none 0 0)).run Tryz.prog w = .ok (.bool true) w := by kernel_rfl
    have ho := Lib.hid (own_nilA w w.heap.size)
    go_enter Tryz.func42, Tryz.ntmps42
    go_wp2_with fail
    go_ret
    exact ⟨_, rfl, ho.out, Below.refl _ _⟩
  obtain ⟨i0, hi, hz0, hz1, hz2⟩ := al_info_parts alInfo
  have hq : (binOp BinOp.eql 22 (.slice (some a) l.length c) (.slice none 0 0)).run Tryz.prog w = .ok (.bool false) w := by kernel_rfl
  have ho := own_emptyA w
  have hwb : Below w.heap.size w (w.alloc (.cells #[] 47)) := (Below.refl _ _).alloc (Nat.le_refl _) _
  have hnews : ∀ j u, (alCells l)[j]? = some u → (w.alloc (.cells #[] 47)).cell? (a.add j) = some u := by
    intro j u hu
    obtain ⟨k, hk, h⟩ := alCells_any l j u hu
    obtain ⟨b, off, e, hb, q0, q1⟩ := alAt_cells hA hk
    injection e with e
    subst e
    rw [show (⟨b, off, none⟩ : Addr).add j = ⟨b, off + j, none⟩ from by simp [Addr.add]]
    refine (hwb.cell (p := ⟨b, off + j, none⟩) hb).trans ?_
    rcases h with ⟨rfl, rfl⟩ | ⟨rfl, rfl⟩
    · exact q0
    · rw [← Nat.add_assoc]; exact q1
  have hone := alCells_one l
  have hlen := alCells_length l
  have hwsz : w.heap.size ≤ (w.alloc (.cells #[] 47)).heap.size := hwb.size
  have hmx : maxLen = 9223372036854775807 := rfl
  have Hlen := Lib.hid hlen; have Ho := Lib.hid ho; have Hnews := Lib.hid hnews; have Hone := Lib.hid hone; have Hwb := Lib.hid hwb
  clear hA ho hnews hone hlen hwb hn
  obtain ⟨n, hnl⟩ : ∃ n, Hid (n = l.length) := ⟨_, Lib.hid rfl⟩
  rw [← hnl.out] at hl Hlen hq ⊢
  go_enter Tryz.func42, Tryz.ntmps42
  go_wp2_with (at_builtin; refine wpList_append_own _ rfl _ _ 22 rfl w.heap.size 47 i0 _ 2 32 Tryz.underlying22 hi hz0 hz1 hz2 rfl (by decide) _ _ _ rfl Ho.out a n c (alCells l) rfl Hlen.out Hnews.out Hone.out (by simp; omega) (by simp; omega) hwsz ?_)
  intro v' w8 hown' hgrow hnil
  have hb8 : Below w.heap.size w w8 := Hwb.out.grown hgrow hwsz (fun q hq => by
    have := (Ho.out.lt q hq).1; exact this)
  have Hown : Hid (w8.ownsRow w.heap.size 47 2 v' n (alCells l)) := Lib.hid hown'
  clear hown' hgrow hnil Ho Hnews Hone Hwb Hlen
  go_wp2_with fail
  go_ret
  exact ⟨_, rfl, by have h := Hown.out; rw [hnl.out] at h; exact h, hb8⟩
set_option maxHeartbeats 1000000 in
set_option maxRecDepth 100000 in
theorem insEnd_c (B vb : Nat) (v : Value) (l : List Al) (x : Al) (w : World) (ho : OwnA w B v l) (hx : w.heap[vb]? = some (.cells #[.string x.n, .string x.v] 47 (0, 0))) (hne : v.ownBlock ≠ some vb) (hl : l.length ≤ 1000000) (hB : B ≤ w.heap.size) :
    Calls Tryz.prog 43 #[v, .int .i64 l.length, .slice (some ⟨vb, 0, none⟩) 1 1] w fun e w' => ∃ v', e = .returned v' ∧ OwnA w' B v' (l ++ [x]) ∧ Below B w w' := by
  obtain ⟨i0, hi, hz0, hz1, hz2⟩ := al_info_parts alInfo
  obtain ⟨A, c, hv, _, hc1, hc2⟩ := ownA_at ho
  have hnews := World.news_of_block (cs := #[.string x.n, .string x.v]) (t := 47) (fr := (0, 0)) hx
  have hmx : maxLen = 9223372036854775807 := rfl
  have hw : (alCells (l ++ [x])) = alCells l ++ [.string x.n, .string x.v] := by rw [alCells_append]; rfl
  have hw2 : (l ++ [x]).length = l.length + 1 := by simp
  have Hw : Hid (∀ v' w', w'.ownsRow B 47 2 v' (l.length + 1) (alCells l ++ [.string x.n, .string x.v]) → OwnA w' B v' (l ++ [x])) := Lib.hid (fun v' w' h => by
    unfold OwnA
    rw [hw, hw2]; exact h)
  have ho2 : w.ownsRow B 47 2 v l.length (alCells l) := ho
  have Ho := Lib.hid ho2
  have Hlen := Lib.hid (alCells_length l)
  have Hlt := Lib.hid ho2.lt
  clear hw hw2 ho ho2 hne
  subst hv
  generalize l.length = n at *
  by_cases hcn : c = n
  · subst hcn
    have Hnews := Lib.hid hnews
    clear hnews
    go_enter Tryz.func43, Tryz.ntmps43
    rcases A with _ | ⟨b, off, sp⟩ <;>
    · go_wp2_with (at_builtin; refine wpList_append_own _ rfl _ _ 22 rfl B 47 i0 _ 2 32 Tryz.underlying22 hi hz0 hz1 hz2 rfl (by decide) _ _ _ rfl Ho.out ⟨vb, 0, none⟩ 1 1 [.string x.n, .string x.v] rfl rfl Hnews.out (by intro u hu; simp at hu; rcases hu with rfl | rfl <;> rfl) (by unfold maxLen; omega) (by omega) hB ?_)
      intro v' w8 hown' hgrow hnil
      have hb8 : Below B w w8 := (Below.refl B w).grown hgrow hB (fun q hq => (Hlt.out q hq).1)
      have Hown := Lib.hid (Hw.out v' w8 hown')
      clear hown' hgrow hnil
      go_wp2_with fail
      go_ret
      exact ⟨_, rfl, Hown.out, hb8⟩
  · have hcn' : n < c := by omega
    have Hnews := Lib.hid hnews
    clear hnews
    go_enter Tryz.func43, Tryz.ntmps43
    rcases A with _ | ⟨b, off, sp⟩ <;>
    · go_wp2_with (at_builtin; refine wpList_append_own _ rfl _ _ 22 rfl B 47 i0 _ 2 32 Tryz.underlying22 hi hz0 hz1 hz2 rfl (by decide) _ _ _ rfl Ho.out ⟨vb, 0, none⟩ 1 1 [.string x.n, .string x.v] rfl rfl Hnews.out (by intro u hu; simp at hu; rcases hu with rfl | rfl <;> rfl) (by unfold maxLen; omega) (by omega) hB ?_)
      intro v' w8 hown' hgrow hnil
      have hb8 : Below B w w8 := (Below.refl B w).grown hgrow hB (fun q hq => (Hlt.out q hq).1)
      have Hown := Lib.hid (Hw.out v' w8 hown')
      clear hown' hgrow hnil
      go_wp2_with fail
      go_ret
      exact ⟨_, rfl, Hown.out, hb8⟩
end Go.Proofs.YticehbhedoploaaGreatDoor
