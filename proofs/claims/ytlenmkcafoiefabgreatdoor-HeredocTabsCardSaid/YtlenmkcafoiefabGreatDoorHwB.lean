/- words: the list's steps, for a here-document. -/
import Derived.Test.YtlenmkcafoiefabGreatDoorHwA
import Derived.Deep.RegionLaw
namespace Go.Proofs.YtlenmkcafoiefabGreatDoor
open Go.RowKit
set_option linter.unusedVariables false

theorem partInfo : (Tryz.prog.info? 66).map (fun i => (i.zero, i.size, i.bytes)) = some (some (.agg #[.int .i64 0, .string { data := #[] }, .int .i64 0, .bool false, .slice none 0 0]), 5, 64) := by kernel_rfl
theorem byteInfo2 : (Tryz.prog.info? 5).map (fun i => (i.zero, i.size, i.bytes)) = some (some (.int .u8 0), 1, 1) := by kernel_rfl
theorem infoP {o : Option TypeInfo} {z : Value} {n b : Nat} (h : o.map (fun i => (i.zero, i.size, i.bytes)) = some (some z, n, b)) : ∃ i, o = some i ∧ i.zero = some z ∧ i.size = n ∧ i.bytes = b := by
  cases o with
  | none => cases h
  | some i => simp at h; exact ⟨i, rfl, h.1, h.2.1, h.2.2⟩
def partO (k : Int) (t : ByteArray) : Obj := .cells #[.int .i64 k, .string t, .int .i64 0, .bool false, .slice none 0 0] 66 (0, 0)
def partV (k : Int) (t : ByteArray) : Value := .agg #[.int .i64 k, .string t, .int .i64 0, .bool false, .slice none 0 0]
def partC (k : Int) (t : ByteArray) : List Value := [.int .i64 k, .string t, .int .i64 0, .bool false, .slice none 0 0]
set_option maxHeartbeats 8000000 in
set_option maxRecDepth 100000 in
theorem finish_nil (L : Nat) (v : Value) (w : World) (hL : w.heap[L]? = some (lstO v (.slice none 0 0))) : Calls Tryz.prog 158 #[.pointer (some ⟨L, 0, none⟩)] w fun e w' => e = .returned v ∧ w = w' := by
  obtain ⟨c0, c1, _, _⟩ := lst_cells hL
  go_enter Tryz.func158, Tryz.ntmps158
  go_wp2_with fail
  go_ret
  exact ⟨rfl, rfl⟩
theorem ownsRow_far {w : World} {B L i : Nat} {e : TypeId} {size n : Nat} {v x : Value} {xs : List Value} (h : w.ownsRow B e size v n xs) (hL : L < B) : (w.setCell ⟨L, i, none⟩ x).ownsRow B e size v n xs := by
  refine ⟨h.1, ?_⟩
  rcases h.2 with h0 | ⟨g, cap, cur, rfl, hg, hh, r⟩
  · exact .inl h0
  · exact .inr ⟨g, cap, cur, rfl, hg, (Below.heap_setCell _ _ _ _ (by show g ≠ L; omega)).trans hh, r⟩
theorem ButL.set {L : Nat} {a b : World} (h : ButL L a b) (i : Nat) (x : Value) : ButL L a (b.setCell ⟨L, i, none⟩ x) := ⟨h.rel.setCell (p := ⟨L, i, none⟩) (Nat.zero_le _) x, fun k hk hn => (Below.heap_setCell _ _ _ _ (by simpa using hn)).trans (h.same k hk hn)⟩
theorem ButL.grow {L : Nat} {a b c : World} (h : ButL L a b) (hg : b.grownBy c none) : ButL L a c := ⟨h.rel.grown hg (Nat.zero_le _) (fun k e => by cases e), fun k hk hn => (hg.block k (by have := h.size; omega) (by simp)).trans (h.same k hk hn)⟩
theorem after_app {W w9 : World} {L p : Nat} {k : Int} {t : ByteArray} {v u : Value} (hg : W.grownBy w9 none) (hp : W.heap[p]? = some (.cells #[.int .i64 k, .string t, .int .i64 0, .bool false, .slice none 0 0] 66 (0, 0))) (hl : W.heap[L]? = some (lstO v u)) :
    w9.heap[L]? = some (lstO v u) ∧ w9.cell? ⟨p, 0, none⟩ = some (.int .i64 k) ∧ w9.cell? ⟨p, 1, none⟩ = some (.string t) ∧ w9.cell? ⟨p, 2, none⟩ = some (.int .i64 0) ∧ w9.cell? ⟨p, 3, none⟩ = some (.bool false) ∧ w9.cell? ⟨p, 4, none⟩ = some (.slice none 0 0) ∧
    w9.cell? ⟨L, 0, none⟩ = some v ∧ w9.cell? ⟨L, 1, none⟩ = some u ∧ w9.frozen? ⟨L, 0, none⟩ = false ∧ w9.frozen? ⟨L, 1, none⟩ = false := by
  have hp9 := (hg.block p (Array.getElem?_eq_some_iff.1 hp).1 (by simp)).trans hp
  have hL9 := (hg.block L (Array.getElem?_eq_some_iff.1 hl).1 (by simp)).trans hl
  exact ⟨hL9, by rw [Lib.cell_of_heap hp9]; rfl, by rw [Lib.cell_of_heap hp9]; rfl, by rw [Lib.cell_of_heap hp9]; rfl, by rw [Lib.cell_of_heap hp9]; rfl, by rw [Lib.cell_of_heap hp9]; rfl, lst_cells hL9⟩
set_option maxHeartbeats 16000000 in
set_option maxRecDepth 100000 in
/-- The first part of a list. -/
theorem add_c (L : Nat) (k : Int) (t : ByteArray) (w : World) (hL : w.heap[L]? = some (lstO (.slice none 0 0) (.slice none 0 0))) :
    Calls Tryz.prog 149 #[.pointer (some ⟨L, 0, none⟩), partV k t] w fun e w' => e = .returned (.tuple #[]) ∧ ∃ v, w'.heap[L]? = some (lstO v (.slice none 0 0)) ∧ w'.ownsRow w.heap.size 66 5 v 1 (partC k t) ∧ ButL L w w' := by
  obtain ⟨i0, hi, hz0, hz1, hz2⟩ := infoP partInfo
  have hlt := (Array.getElem?_eq_some_iff.1 hL).1
  have hh := heap_alloc_new w (partO k t)
  have hL1 : (w.alloc (partO k t)).heap[L]? = some (lstO (.slice none 0 0) (.slice none 0 0)) := (Below.heap_alloc _ _ _ hlt).trans hL
  have hF := Lib.hid (fun W h => finish_nil L (.slice none 0 0) W h)
  obtain ⟨c0, c1, c2, c3⟩ := lst_cells hL1
  unfold partV
  unfold partO at *
  have x0 : (w.alloc (.cells #[.int .i64 k, .string t, .int .i64 0, .bool false, .slice none 0 0] 66)).cell? ⟨w.heap.size, 0, none⟩ = some (.int .i64 k) := by rw [Lib.cell_of_heap hh]; rfl
  have x1 : (w.alloc (.cells #[.int .i64 k, .string t, .int .i64 0, .bool false, .slice none 0 0] 66)).cell? ⟨w.heap.size, 1, none⟩ = some (.string t) := by rw [Lib.cell_of_heap hh]; rfl
  have x2 : (w.alloc (.cells #[.int .i64 k, .string t, .int .i64 0, .bool false, .slice none 0 0] 66)).cell? ⟨w.heap.size, 2, none⟩ = some (.int .i64 0) := by rw [Lib.cell_of_heap hh]; rfl
  have x3 : (w.alloc (.cells #[.int .i64 k, .string t, .int .i64 0, .bool false, .slice none 0 0] 66)).cell? ⟨w.heap.size, 3, none⟩ = some (.bool false) := by rw [Lib.cell_of_heap hh]; rfl
  have x4 : (w.alloc (.cells #[.int .i64 k, .string t, .int .i64 0, .bool false, .slice none 0 0] 66)).cell? ⟨w.heap.size, 4, none⟩ = some (.slice none 0 0) := by rw [Lib.cell_of_heap hh]; rfl
  have HL1 := Lib.hid hL1
  have hLs : L < w.heap.size + 1 := by omega
  have hN := World.news_of_block (cs := #[.int .i64 k, .string t, .int .i64 0, .bool false, .slice none 0 0]) (t := 66) (fr := (0, 0)) (heap_alloc_new (w.alloc (.cells #[.int .i64 k, .string t, .int .i64 0, .bool false, .slice none 0 0] 66)).drew (.cells #[.int .i64 k, .string t, .int .i64 0, .bool false, .slice none 0 0] 66))
  rw [show (w.alloc (.cells #[.int .i64 k, .string t, .int .i64 0, .bool false, .slice none 0 0] 66)).drew.heap.size = w.heap.size + 1 from by simp] at hN
  have HN : Hid (∀ j u, (partC k t)[j]? = some u → ((w.alloc (.cells #[.int .i64 k, .string t, .int .i64 0, .bool false, .slice none 0 0] 66)).drew.alloc (.cells #[.int .i64 k, .string t, .int .i64 0, .bool false, .slice none 0 0] 66)).cell? ((⟨w.heap.size + 1, 0, none⟩ : Addr).add j) = some u) := Lib.hid hN
  have HP : Hid (((w.alloc (.cells #[.int .i64 k, .string t, .int .i64 0, .bool false, .slice none 0 0] 66)).drew.alloc (.cells #[.int .i64 k, .string t, .int .i64 0, .bool false, .slice none 0 0] 66)).heap[w.heap.size]? = some (.cells #[.int .i64 k, .string t, .int .i64 0, .bool false, .slice none 0 0] 66 (0, 0))) := Lib.hid (by rw [Below.heap_alloc _ _ _ (by simp)]; exact hh)
  have HL2 : Hid (((w.alloc (.cells #[.int .i64 k, .string t, .int .i64 0, .bool false, .slice none 0 0] 66)).drew.alloc (.cells #[.int .i64 k, .string t, .int .i64 0, .bool false, .slice none 0 0] 66)).heap[L]? = some (lstO (.slice none 0 0) (.slice none 0 0))) := Lib.hid (by rw [Below.heap_alloc _ _ _ (by simp <;> omega)]; exact hL1)
  have n1 : L ≠ w.heap.size := by omega
  have n2 : w.heap.size ≠ L := by omega
  clear hL1 hh hN
  go_enter Tryz.func149, Tryz.ntmps149
  go_wp2_with fail
  go_region_held3 (fun w' => w'.cell? ⟨w.heap.size, 0, none⟩ = some (.int .i64 k) ∧ w'.cell? ⟨w.heap.size, 1, none⟩ = some (.string t) ∧ w'.cell? ⟨w.heap.size, 2, none⟩ = some (.int .i64 0) ∧ w'.cell? ⟨w.heap.size, 3, none⟩ = some (.bool false) ∧ w'.cell? ⟨w.heap.size, 4, none⟩ = some (.slice none 0 0))
    (first | go_keep | assumption)
    ((first
      | (go_at_call 158; refine (hF.out _ (by first | exact HL1.out | exact (Below.heap_alloc _ _ _ (by simp <;> omega)).trans HL1.out)).mono ?_; rintro r w7 ⟨rfl, rfl⟩)
      | (refine step_append_lies _ (by rfl) _ _ _ (by rfl) w.heap.size 66 i0 _ 5 64 Tryz.underlying62 hi hz0 hz1 hz2 rfl (by omega) (.slice none 0 0) 0 [] (by rfl) ⟨rfl, .inl ⟨rfl, rfl⟩⟩ ⟨w.heap.size + 1, 0, none⟩ 1 1 (partC k t) (by rfl) (by rfl) HN.out (by intro u hu; simp [partC] at hu; rcases hu with rfl | rfl | rfl | rfl | rfl <;> rfl) (by omega) (by unfold maxLen; omega) (by omega) (by simp <;> omega) (w.heap.size + 2) (by simp) ?_; intro gg cap w9 hown9 hgrow9 hat9 hlt9; obtain ⟨hL9, y0, y1, y2, y3, y4, z0, z1, z2, z3⟩ := after_app hgrow9 HP.out HL2.out)))
  all_goals
    have hL10 : (w9.setCell ⟨L, 0, none⟩ (.slice (some ⟨gg, 0, none⟩) 1 cap)).heap[L]? = some (lstO (.slice (some ⟨gg, 0, none⟩) 1 cap) (.slice none 0 0)) := heap_setCell_same _ _ _ _ _ _ hL9
    obtain ⟨q0, q1, q2, q3⟩ := lst_cells hL10
    go_wp2_with fail
    go_end0
    refine ⟨rfl, .slice (some ⟨gg, 0, none⟩) 1 cap, ?_, ?_, ?_⟩
    · exact heap_setCell_same _ _ _ _ _ _ hL10
    · exact ownsRow_far (ownsRow_far hown9 hlt) hlt
    · exact (((ButL.of_below (((Below.refl _ w).alloc (Nat.le_refl _) _).drew.alloc (by simp) _)).grow hgrow9).set 0 _).set 1 _
/-- The byte that is next becomes text. -/
theorem after_lit {W w9 : World} {L P : Nat} {s : ByteArray} {a : Nat} {v u : Value} (hg : W.grownBy w9 none) (hp : W.heap[P]? = some (psrO s a)) (hl : W.heap[L]? = some (lstO v u)) :
    w9.heap[L]? = some (lstO v u) ∧ w9.heap[P]? = some (psrO s a) ∧ (w9.cell? ⟨P, 0, none⟩ = some (.string s) ∧ w9.cell? ⟨P, 1, none⟩ = some (.int .i64 a) ∧ w9.frozen? ⟨P, 1, none⟩ = false) ∧
    w9.cell? ⟨L, 0, none⟩ = some v ∧ w9.cell? ⟨L, 1, none⟩ = some u ∧ w9.frozen? ⟨L, 0, none⟩ = false ∧ w9.frozen? ⟨L, 1, none⟩ = false := by
  have hp9 := (hg.block P (Array.getElem?_eq_some_iff.1 hp).1 (by simp)).trans hp
  have hL9 := (hg.block L (Array.getElem?_eq_some_iff.1 hl).1 (by simp)).trans hl
  exact ⟨hL9, hp9, psr_cells hp9, lst_cells hL9⟩
theorem byte_at {s : ByteArray} {a : Nat} (h : a < s.size) : (⟨#[s[a]'h]⟩ : ByteArray).size = 1 := rfl
set_option maxHeartbeats 16000000 in
set_option maxRecDepth 100000 in
theorem literal_c (P L : Nat) (s : ByteArray) (a : Nat) (v : Value) (w : World) (hP : w.heap[P]? = some (psrO s a)) (hL : w.heap[L]? = some (lstO v (.slice none 0 0))) (hPL : P ≠ L) (ha : a < s.size) (hs : s.size ≤ 1000000) :
    Calls Tryz.prog 157 #[.pointer (some ⟨P, 0, none⟩), .pointer (some ⟨L, 0, none⟩)] w fun e w' => e = .returned (.tuple #[]) ∧ ∃ u, w'.heap[L]? = some (lstO v u) ∧ w'.ownsRow w.heap.size 5 1 u 1 [.int .u8 (s[a]'ha).toNat] ∧ w'.heap[P]? = some (psrO s (a + 1)) ∧ Below 0 w w' ∧ ∀ k, k < w.heap.size → k ≠ L → k ≠ P → w'.heap[k]? = w.heap[k]? := by
  obtain ⟨i0, hi, hz0, hz1, hz2⟩ := infoP byteInfo2
  have hlt := (Array.getElem?_eq_some_iff.1 hL).1
  have hltP := (Array.getElem?_eq_some_iff.1 hP).1
  obtain ⟨c0, c1, c2, c3⟩ := lst_cells hL
  obtain ⟨d0, d1, d2⟩ := psr_cells hP
  have aI : (a : Int) < (s.size : Int) := by omega
  have a0 : (0 : Int) ≤ (a : Int) := by omega
  have n1 : L ≠ w.heap.size := by omega
  have n2 : w.heap.size ≠ L := by omega
  have n3 : P ≠ w.heap.size := by omega
  have n4 : w.heap.size ≠ P := by omega
  have n5 : L ≠ P := fun h => hPL h.symm
  generalize hq : s[a]'ha = q at *
  have hN := World.news_of_block (cs := #[.int .u8 q.toNat]) (t := 5) (fr := (0, 0)) (heap_alloc_new w.drew (.cells #[.int .u8 q.toNat] 5))
  have HN : Hid (∀ j u, ([.int .u8 q.toNat] : List Value)[j]? = some u → (w.drew.alloc (.cells #[.int .u8 q.toNat] 5)).cell? ((⟨w.heap.size, 0, none⟩ : Addr).add j) = some u) := Lib.hid hN
  have HP : Hid ((w.drew.alloc (.cells #[.int .u8 q.toNat] 5)).heap[P]? = some (psrO s a)) := Lib.hid ((Below.heap_alloc _ _ _ hltP).trans hP)
  have HL : Hid ((w.drew.alloc (.cells #[.int .u8 q.toNat] 5)).heap[L]? = some (lstO v (.slice none 0 0))) := Lib.hid ((Below.heap_alloc _ _ _ hlt).trans hL)
  clear hN
  go_enter Tryz.func157, Tryz.ntmps157
  go_wp2_with fail
  go_region_law ((refine step_append_lies _ (by rfl) _ _ _ (by rfl) w.heap.size 5 i0 _ 1 1 Tryz.underlying50 hi hz0 hz1 hz2 rfl (by omega) (.slice none 0 0) 0 [] (by rfl) ⟨rfl, .inl ⟨rfl, rfl⟩⟩ ⟨w.heap.size, 0, none⟩ 1 1 [.int .u8 q.toNat] (by rfl) (by rfl) HN.out (by intro u hu; simp at hu; subst hu; rfl) (by omega) (by unfold maxLen; omega) (by omega) (by simp) (w.heap.size + 1) (by simp) ?_; intro gg cap w9 hown9 hgrow9 hat9 hlt9; obtain ⟨hL9, hP9, ⟨y0, y1, y2⟩, z0, z1, z2, z3⟩ := after_lit hgrow9 HP.out HL.out))
  all_goals
    have hL10 : (w9.setCell ⟨L, 1, none⟩ (.slice (some ⟨gg, 0, none⟩) 1 cap)).heap[L]? = some (lstO v (.slice (some ⟨gg, 0, none⟩) 1 cap)) := heap_setCell_same _ _ _ _ _ _ hL9
    have hP10 : (w9.setCell ⟨L, 1, none⟩ (.slice (some ⟨gg, 0, none⟩) 1 cap)).heap[P]? = some (psrO s a) := (Below.heap_setCell _ _ _ _ (by show P ≠ L; exact hPL)).trans hP9
    obtain ⟨q0, q1, q2⟩ := psr_cells hP10
    go_wp2_with fail
    go_end0
    refine ⟨rfl, .slice (some ⟨gg, 0, none⟩) 1 cap, (Below.heap_setCell _ _ _ _ (by show L ≠ P; exact n5)).trans hL10, ?_, ?_, ?_, ?_⟩
    · exact ownsRow_far (ownsRow_far hown9 hlt) hltP
    · exact heap_setCell_same _ _ _ _ _ _ hP10
    · exact (((((Below.refl 0 w).alloc (Nat.zero_le _) (.cells #[.int .u8 q.toNat] 5)).drew.grown hgrow9 (Nat.zero_le _) (fun k e => by simp [Value.ownBlock] at e)).setCell (p := ⟨L, 1, none⟩) (Nat.zero_le _) _).setCell (p := ⟨P, 1, none⟩) (Nat.zero_le _) _)
    · intro k hk hkL hkP
      refine (Below.heap_setCell _ _ _ _ (by show k ≠ P; exact hkP)).trans ((Below.heap_setCell _ _ _ _ (by show k ≠ L; exact hkL)).trans ((hgrow9.block k (by simp <;> omega) (by simp [Value.ownBlock])).trans ?_))
      exact Below.heap_alloc _ _ _ hk
end Go.Proofs.YtlenmkcafoiefabGreatDoor
