/- words: the parser's small steps, for a here-document. -/
import Derived.Test.YtlenmkcafoiefabGreatDoorLxH
import Derived.BigQuiet
import Derived.WalkSmall
import Derived.Deep.RegionHeld3
import Derived.Deep.AppendLies
namespace Go.Proofs.YtlenmkcafoiefabGreatDoor
open Go.RowKit
set_option linter.unusedVariables false

/-- All that lies, but block L, lies on. -/
structure ButL (L : Nat) (w w' : World) : Prop where
  rel : Below 0 w w'
  same : ∀ k, k < w.heap.size → k ≠ L → w'.heap[k]? = w.heap[k]?
theorem ButL.size {L : Nat} {w w' : World} (h : ButL L w w') : w.heap.size ≤ w'.heap.size := h.rel.size
theorem ButL.refl (L : Nat) (w : World) : ButL L w w := ⟨Below.refl _ _, fun _ _ _ => rfl⟩
theorem ButL.trans {L : Nat} {a b c : World} (h : ButL L a b) (k : ButL L b c) : ButL L a c := ⟨h.rel.trans k.rel, fun i hi hn => (k.same i (by have := h.size; omega) hn).trans (h.same i hi hn)⟩
theorem ButL.of_below {L : Nat} {a b : World} (h : Below a.heap.size a b) : ButL L a b := ⟨h.mono (Nat.zero_le _), fun k hk _ => h.block k hk⟩
theorem ButL.blk {L : Nat} {a b : World} (h : ButL L a b) {k : Nat} {o : Obj} (hk : a.heap[k]? = some o) (hn : k ≠ L) : b.heap[k]? = some o := (h.same k (Array.getElem?_eq_some_iff.1 hk).1 hn).trans hk
def psrO (s : ByteArray) (a : Nat) : Obj := .cells #[.string s, .int .i64 a] 133 (0, 0)
def lstO (v t : Value) : Obj := .cells #[v, t] 158 (0, 0)
def plcV : Value := .agg #[.int .i64 3, .bool false, .int .i64 1]
theorem psr_cells {P : Nat} {s : ByteArray} {a : Nat} {w : World} (h : w.heap[P]? = some (psrO s a)) : w.cell? ⟨P, 0, none⟩ = some (.string s) ∧ w.cell? ⟨P, 1, none⟩ = some (.int .i64 a) ∧ w.frozen? ⟨P, 1, none⟩ = false := by
  unfold psrO at h
  exact ⟨by rw [Lib.cell_of_heap h]; rfl, by rw [Lib.cell_of_heap h]; rfl, Lib.frozen_of_heap h 1⟩
theorem lst_cells {L : Nat} {v t : Value} {w : World} (h : w.heap[L]? = some (lstO v t)) : w.cell? ⟨L, 0, none⟩ = some v ∧ w.cell? ⟨L, 1, none⟩ = some t ∧ w.frozen? ⟨L, 0, none⟩ = false ∧ w.frozen? ⟨L, 1, none⟩ = false := by
  unfold lstO at h
  exact ⟨by rw [Lib.cell_of_heap h]; rfl, by rw [Lib.cell_of_heap h]; rfl, Lib.frozen_of_heap h 0, Lib.frozen_of_heap h 1⟩
set_option maxHeartbeats 8000000 in
set_option maxRecDepth 100000 in
theorem follows_c (P : Nat) (s t : ByteArray) (a : Nat) (w : World) (hP : w.heap[P]? = some (psrO s a)) (ha : a ≤ s.size) (hs : s.size ≤ 1000000) :
    Calls Tryz.prog 147 #[.pointer (some ⟨P, 0, none⟩), .string t] w fun e w' => e = .returned (.bool (Lib.hasPrefix (s.data.toList.drop a) t.data.toList)) ∧ Below w.heap.size w w' := by
  obtain ⟨c0, c1, _⟩ := psr_cells hP
  have h := fun W => Tryz.strings_HasPrefix (s.extract a s.size) t W
  simp only [dropS] at h
  generalize Lib.hasPrefix (s.data.toList.drop a) t.data.toList = r at *
  have H := Lib.hid h
  clear h
  have b1 : (0 : Int) ≤ (a : Int) := by omega
  have b2 : (a : Int) ≤ (s.size : Int) := by omega
  go_enter Tryz.func147, Tryz.ntmps147
  go_wp2_with fail
  go_region_held3 (fun w' => w'.cell? ⟨P, 0, none⟩ = some (.string s) ∧ w'.cell? ⟨P, 1, none⟩ = some (.int .i64 a))
    (first | go_keep | assumption)
    ((go_at_call 115; refine (H.out _).mono ?_; rintro r w7 ⟨rfl, rfl⟩))
  go_wp2_with fail
  go_ret
  exact ⟨rfl, below_drewN (Below.refl _ _) _⟩
set_option maxHeartbeats 8000000 in
set_option maxRecDepth 100000 in
theorem isArith_c (w : World) : Calls Tryz.prog 179 #[plcV] w fun e w' => e = .returned (.bool false) ∧ Below w.heap.size w w' := by
  unfold plcV
  go_enter Tryz.func179, Tryz.ntmps179
  go_wp2_with fail
  go_ret
  exact ⟨rfl, (Below.refl _ w).alloc (Nat.le_refl _) _⟩
set_option maxHeartbeats 8000000 in
set_option maxRecDepth 100000 in
theorem paren_c (P : Nat) (w : World) : Calls Tryz.prog 161 #[.pointer (some ⟨P, 0, none⟩), plcV] w fun e w' => e = .returned (.int .i64 0) ∧ Below w.heap.size w w' := by
  have H := Lib.hid isArith_c
  have hh := heap_alloc_new w (.cells #[.int .i64 3, .bool false, .int .i64 1] 136)
  have hb := (Below.refl w.heap.size w).alloc (Nat.le_refl _) (.cells #[.int .i64 3, .bool false, .int .i64 1] 136)
  unfold plcV at *
  go_enter Tryz.func161, Tryz.ntmps161
  go_wp2_with fail
  refine (H.out _).mono ?_
  rintro e w1 ⟨rfl, m1⟩
  have hh1 := (m1.block w.heap.size (by simp)).trans hh
  have x0 : w1.cell? ⟨w.heap.size, 0, none⟩ = some (.int .i64 3) := by rw [Lib.cell_of_heap hh1]; rfl
  have x1 : w1.cell? ⟨w.heap.size, 1, none⟩ = some (.bool false) := by rw [Lib.cell_of_heap hh1]; rfl
  have x2 : w1.cell? ⟨w.heap.size, 2, none⟩ = some (.int .i64 1) := by rw [Lib.cell_of_heap hh1]; rfl
  go_wp2_with fail
  refine (H.out _).mono ?_
  rintro e w2 ⟨rfl, m2⟩
  go_wp2_with fail
  go_ret
  exact ⟨rfl, (hb.trans (m1.mono (by simp))).trans (m2.mono (by have := m1.size; simp at this; omega))⟩
set_option maxHeartbeats 8000000 in
set_option maxRecDepth 100000 in
theorem ends_c (P : Nat) (d : Int) (w : World) : Calls Tryz.prog 159 #[.pointer (some ⟨P, 0, none⟩), plcV, .int .i64 d] w fun e w' => e = .returned (.bool false) ∧ Below w.heap.size w w' := by
  unfold plcV
  go_enter Tryz.func159, Tryz.ntmps159
  go_wp2_with fail
  go_ret
  exact ⟨rfl, (Below.refl _ w).alloc (Nat.le_refl _) _⟩
set_option maxHeartbeats 8000000 in
set_option maxRecDepth 100000 in
theorem check_c (t : ByteArray) (a : Int) (w : World) (ht : t.size ≤ 32) : Calls Tryz.prog 186 #[.string t, .int .i64 a] w fun e w' => e = .returned (.tuple #[]) ∧ w = w' := by
  have d1 : decide ((32 : Int) < (t.size : Int)) = false := decide_eq_false (by omega)
  have d1' : decide (32 < t.size) = false := decide_eq_false (by omega)
  go_enter Tryz.func186, Tryz.ntmps186
  go_wp2_with fail
  go_end0
  exact ⟨rfl, rfl⟩
/-- A construct that closes. -/
theorem construct_c (P : Nat) (s : ByteArray) (a n : Nat) (w : World) (hP : w.heap[P]? = some (psrO s a)) (hs : s.size ≤ 1000000) (hcl : closL s.data.toList a = (n, 0)) (ha : a ≤ n) (hn : n ≤ s.size) :
    Calls Tryz.prog 148 #[.pointer (some ⟨P, 0, none⟩)] w fun e w' => e = .returned (.string (s.extract a n)) ∧ w'.heap[P]? = some (psrO s n) ∧ ButL P w w' := by
  obtain ⟨c0, c1, c2⟩ := psr_cells hP
  have H : Hid (∀ W, Calls Tryz.prog 169 #[.string s, .int .i64 a] W fun e w' => e = .returned (.tuple #[.int .i64 n, .int .i64 0]) ∧ W = w') := Lib.hid (fun W => by
    have := Close_c s a W (by omega) (by omega)
    rw [hcl] at this
    exact this)
  have b1 : (a : Int) ≤ (n : Int) := by omega
  have b2 : (n : Int) ≤ (s.size : Int) := by omega
  have hset : (w.setCell ⟨P, 1, none⟩ (.int .i64 n)).heap[P]? = some (psrO s n) := heap_setCell_same _ _ _ _ _ _ hP
  have hbut : ButL P w (w.setCell ⟨P, 1, none⟩ (.int .i64 n)) := ⟨(Below.refl 0 w).setCell (p := ⟨P, 1, none⟩) (Nat.zero_le _) _, fun k hk hne => Below.heap_setCell _ _ _ _ (by simpa using hne)⟩
  have Hs := Lib.hid hset
  have Hb := Lib.hid hbut
  clear hset hbut hcl
  go_enter Tryz.func148, Tryz.ntmps148
  go_wp2_with fail
  refine (H.out _).mono ?_
  rintro e w1 ⟨rfl, rfl⟩
  go_wp2_with fail
  go_ret
  exact ⟨rfl, Hs.out, Hb.out⟩
end Go.Proofs.YtlenmkcafoiefabGreatDoor
