/- alias: an examination as a machine: isTooLong, advance, leave. -/
import Derived.Test.YticehbhedoploaaGreatDoorAlX
import Derived.Maps.OwnIn
import Derived.Maps.Views
import Derived.StringKeys
import Derived.Deep.RegionHeld3
namespace Go.Proofs.YticehbhedoploaaGreatDoor
open Go.RowKit
set_option linter.unusedVariables false

/-- An examination: what has been examined, the rest, the values (name, how many bytes are behind it, whether it ends with a blank), their names, command position, and how many values there were. -/
structure Ex where
  done : List UInt8
  rest : ByteArray
  vals : List (ByteArray × Nat × Bool)
  act : List ByteArray
  cmd : Bool
  cnt : Nat
def actB (l : List ByteArray) (t : ByteArray) : Bool := l.any fun x => decide (x = t)
def MapA (h n : Nat) (l : List ByteArray) (W : World) : Prop :=
  ∃ D : DataW Unit, W.ownsMap Tryz.prog 9 (plainElem Tryz.prog 4) h n D ∧ ∀ t : ByteArray, D.atKey (.string t.data.toList) (.lit (.bool false)) = .lit (.bool (actB l t))
def vCells (l : List (ByteArray × Nat × Bool)) : List Value := l.flatMap fun x => [.string x.1, .int .i64 x.2.1, .bool x.2.2]
theorem vCells_append (l m : List (ByteArray × Nat × Bool)) : vCells (l ++ m) = vCells l ++ vCells m := by simp [vCells]
theorem vCells_length (l : List (ByteArray × Nat × Bool)) : (vCells l).length = l.length * 3 := by
  induction l with
  | nil => rfl
  | cons p l ih => rw [vCells, List.flatMap_cons, List.length_append]; unfold vCells at ih; rw [ih]; simp; omega
/-- An examination in memory: its block X, its map h, its fresh memory from B on. -/
def ExAt (B X h : Nat) (al : Value) (x : Ex) (W : World) : Prop :=
  ∃ p0 buf vals, ExC X p0 buf (.string x.rest) al vals (.map (some h)) (.bool x.cmd) (.string ⟨#[]⟩) (.slice none 0 0) W ∧ (p0 = .pointer none ∨ p0 = .pointer (some ⟨X, 0, none⟩)) ∧
    W.ownsRow B 5 1 buf x.done.length (Lib.byteCells x.done) ∧ W.ownsRow B 162 3 vals x.vals.length (vCells x.vals) ∧ MapA h x.cnt x.act W ∧ B ≤ X ∧ B ≤ h
theorem exAt_keep {B X h : Nat} {al : Value} {x : Ex} {W W' : World} (H : ExAt B X h al x W) (hk : ∀ k, k < W.heap.size → W'.heap[k]? = W.heap[k]?) : ExAt B X h al x W' := by
  obtain ⟨p0, buf, vals, h1, h2, h3, h4, ⟨D, ⟨es, clock, hb, F, hs, rfl⟩, hD⟩, h6, h7⟩ := H
  have hX : X < W.heap.size := by unfold ExC at h1; rw [Array.getElem?_eq_some_iff] at h1; exact h1.1
  have hh : h < W.heap.size := by rw [Array.getElem?_eq_some_iff] at hb; exact hb.1
  refine ⟨p0, buf, vals, (hk X hX).trans h1, h2, row_keep h3 (fun g hg => hk g (h3.lt g hg).2), row_keep h4 (fun g hg => hk g (h4.lt g hg).2), ⟨_, ⟨es, clock, (hk h hh).trans hb, F, hs, rfl⟩, hD⟩, h6, h7⟩
theorem mapA_at {h n : Nat} {l : List ByteArray} {W W' : World} (H : MapA h n l W) (hk : ∀ es clock, W.heap[h]? = some (.map es clock) → W'.heap[h]? = W.heap[h]?) : MapA h n l W' := by
  obtain ⟨D, ⟨es, clock, hb, F, hs, rfl⟩, hD⟩ := H
  exact ⟨_, ⟨es, clock, (hk es clock hb).trans hb, F, hs, rfl⟩, hD⟩
theorem mapA_obj {h n : Nat} {l : List ByteArray} {W : World} (H : MapA h n l W) : ∃ es clock, W.heap[h]? = some (.map es clock) := by
  obtain ⟨D, ⟨es, clock, hb, F, hs, rfl⟩, hD⟩ := H
  exact ⟨es, clock, hb⟩
theorem row_obj {w : World} {B n size g : Nat} {e : TypeId} {v : Value} {xs : List Value} (h : w.ownsRow B e size v n xs) (hg : v.ownBlock = some g) : ∃ cur, w.heap[g]? = some (.cells cur e (0, 0)) := by
  rcases h.2 with ⟨rfl, _⟩ | ⟨g', cap, cur, rfl, _, hh, _⟩
  · cases hg
  · have : g' = g := by injection hg
    subst this
    exact ⟨cur, hh⟩
/-- Only the block X is turned. -/
def OnlyX (X : Nat) (W W' : World) : Prop := W.heap.size = W'.heap.size ∧ ∀ k, k ≠ X → W'.heap[k]? = W.heap[k]?
theorem exTyV : (71 : TypeId) ≠ 162 := by decide
theorem byteTyV : (5 : TypeId) ≠ 162 := by decide
/-- The parts of an examination behind a store to its own block. -/
theorem exAt_put {B X h : Nat} {al : Value} {x y : Ex} {W W' : World} {p0 buf vals vals' : Value} (h1 : ExC X p0 buf (.string x.rest) al vals (.map (some h)) (.bool x.cmd) (.string ⟨#[]⟩) (.slice none 0 0) W)
    (h2 : p0 = .pointer none ∨ p0 = .pointer (some ⟨X, 0, none⟩)) (h3 : W.ownsRow B 5 1 buf y.done.length (Lib.byteCells y.done)) (h4 : W.ownsRow B 162 3 vals' y.vals.length (vCells y.vals)) (h5 : MapA h y.cnt y.act W) (h6 : B ≤ X) (h7 : B ≤ h)
    (hX : ExC X p0 buf (.string y.rest) al vals' (.map (some h)) (.bool y.cmd) (.string ⟨#[]⟩) (.slice none 0 0) W') (ho : ∀ k, k ≠ X → W'.heap[k]? = W.heap[k]?) : ExAt B X h al y W' := by
  refine ⟨p0, buf, vals', hX, h2, row_keep h3 (fun g hg => ho g (fun e => row_ne h3 h1 exTy (by rw [hg, e]))), row_keep h4 (fun g hg => ho g (fun e => row_ne h4 h1 exTyV (by rw [hg, e]))), mapA_at h5 (fun es clock hb => ho h (fun e => ?_)), h6, h7⟩
  rw [e] at hb
  have h1' : W.heap[X]? = _ := h1
  rw [hb] at h1'
  cases h1'
theorem set_only (X j : Nat) (v : Value) (W : World) : ∀ k, k ≠ X → (W.setCell ⟨X, j, none⟩ v).heap[k]? = W.heap[k]? := fun k hk => heap_setCell_other _ _ _ _ (fun e => hk e)
def tooB (x : Ex) : Bool := decide (16384 < x.done.length + x.rest.size)
set_option maxHeartbeats 2000000 in
set_option maxRecDepth 100000 in
theorem tooLong_c (B X h : Nat) (al : Value) (x : Ex) (w : World) (H : ExAt B X h al x w) (hs : x.done.length + x.rest.size ≤ 1000000000) :
    Calls Tryz.prog 46 #[.pointer (some ⟨X, 0, none⟩)] w fun e w' => e = .returned (.bool (tooB x)) ∧ Below w.heap.size w w' := by
  obtain ⟨p0, buf, vals, h1, h2, h3, h4, h5, h6, h7⟩ := H
  have c2 : w.cell? ⟨X, 2, none⟩ = some (.string x.rest) := by rw [Lib.cell_of_heap h1]; rfl
  have hl : (Lib.byteCells x.done).length = x.done.length := Lib.byteCells_length _
  have HL : Hid (∀ W : World, W.heap = w.heap → Calls Tryz.prog 72 #[.pointer (some ⟨X, 0, none⟩)] W fun e w' => e = .returned (.int .i64 x.done.length) ∧ W = w') := Lib.hid (fun W hW => by
    have := lenE B X p0 buf _ _ _ _ _ _ _ (Lib.byteCells x.done) W (by show W.heap[X]? = _; rw [hW]; exact h1) (row_keep (by rw [hl]; exact h3) (fun g hg => by rw [hW]))
    rw [hl] at this
    exact this)
  unfold tooB
  have hd : decide ((16384 : Int) < IntKind.i64.wrap ((x.done.length : Int) + (x.rest.size : Int))) = decide (16384 < x.done.length + x.rest.size) := by
    rw [show IntKind.i64.wrap ((x.done.length : Int) + (x.rest.size : Int)) = (x.done.length : Int) + (x.rest.size : Int) from by rw [IntKind.wrap_i64]; omega]
    by_cases h : 16384 < x.done.length + x.rest.size
    · rw [decide_eq_true h]; exact decide_eq_true (by omega)
    · rw [decide_eq_false h]; exact decide_eq_false (by omega)
  generalize x.rest = r at *
  generalize x.done.length = n at *
  clear h1 h2 h3 h4 h5 hl
  go_enter Tryz.func46, Tryz.ntmps46
  go_wp2_with fail
  go_region_held3 (fun W => W.cell? ⟨X, 2, none⟩ = some (.string r) ∧ W.heap = w.heap ∧ Below w.heap.size w W)
    (first | exact ⟨c2, rfl, (Below.refl _ w).drew⟩ | (refine ⟨?_, ?_, ?_⟩ <;> assumption))
    ((go_at_call 72; refine (HL.out _ (by first | assumption | rfl)).mono ?_; rintro e w7 ⟨rfl, rfl⟩))
  go_wp2_with fail
  go_ret
  refine ⟨?_, by first | assumption | exact below_drewN (Below.refl _ w) _ | exact (Below.refl _ w).drew⟩
  rw [← hd]
  rfl
def advX (x : Ex) (k : Nat) : Ex := { x with done := x.done ++ (x.rest.extract 0 k).data.toList, rest := x.rest.extract k x.rest.size }
set_option maxHeartbeats 2000000 in
set_option maxRecDepth 100000 in
theorem advance_c (B X h k : Nat) (al : Value) (x : Ex) (w : World) (H : ExAt B X h al x w) (hs : x.done.length + x.rest.size ≤ 1000000000) (hk : k ≤ x.rest.size) :
    Calls Tryz.prog 112 #[.pointer (some ⟨X, 0, none⟩), .int .i64 k] w fun e w' => e = .returned (.tuple #[]) ∧ ExAt B X h al (advX x k) w' ∧ Below B w w' ∧ Lib.OthersKept 5 (some X) w w' := by
  obtain ⟨p0, buf, vals, h1, h2, h3, h4, h5, h6, h7⟩ := H
  have c2 : w.cell? ⟨X, 2, none⟩ = some (.string x.rest) := by rw [Lib.cell_of_heap h1]; rfl
  have hl : (Lib.byteCells x.done).length = x.done.length := Lib.byteCells_length _
  have hxs : (x.rest.extract 0 k).size ≤ x.rest.size := by rw [ByteArray.size_extract]; omega
  have hcs : Lib.byteCells x.done ++ Lib.strCells (x.rest.extract 0 k) = Lib.byteCells (advX x k).done := by
    unfold advX Lib.byteCells Lib.strCells
    rw [List.map_append]
  have HW : Hid (∀ W : World, W.heap = w.heap → Below B w W → Calls Tryz.prog 53 #[.pointer (some ⟨X, 0, none⟩), .string (x.rest.extract 0 k)] W fun e w' => (∃ n : Int, e = .returned (.tuple #[.int .i64 n, .nilIface])) ∧ w'.cell? ⟨X, 2, none⟩ = some (.string x.rest) ∧ w'.frozen? ⟨X, 2, none⟩ = false ∧ ExAt B X h al (advX x k) (w'.setCell ⟨X, 2, none⟩ (.string (x.rest.extract k x.rest.size))) ∧ Below B w w' ∧ Lib.OthersKept 5 (some X) w w') := Lib.hid (fun W hW hbW => by
    have hXW : ExC X p0 buf (.string x.rest) al vals (.map (some h)) (.bool x.cmd) (.string ⟨#[]⟩) (.slice none 0 0) W := by show W.heap[X]? = _; rw [hW]; exact h1
    have hvW := row_keep h4 (w' := W) (fun g hg => by rw [hW])
    have hmW := mapA_at h5 (W' := W) (fun es clock hb => by rw [hW])
    refine (writeE B X p0 buf _ _ _ _ _ _ _ (Lib.byteCells x.done) (x.rest.extract 0 k) W hXW h2 (row_keep (by rw [hl]; exact h3) (fun g hg => by rw [hW])) (by rw [hl]; omega) h6).mono ?_
    rintro e w' ⟨v', rfl, g1, g2, g3, g4⟩
    refine ⟨⟨_, rfl⟩, by rw [Lib.cell_of_heap g1]; rfl, Lib.frozen_of_heap g1 2, ?_, hbW.trans g3, fun k o hk => g4 k o (by rw [hW]; exact hk)⟩
    rw [hcs, Lib.byteCells_length] at g2
    refine exAt_put (x := x) (vals := vals) (vals' := vals) (W := w') g1 (.inr rfl) g2 ?_ ?_ h6 h7 (heap_setCell_same _ _ _ _ _ _ g1) (set_only X 2 _ w')
    · refine row_keep hvW (fun g hg => ?_)
      obtain ⟨cur, hc⟩ := row_obj hvW hg
      rw [g4 g _ hc (fun e => row_ne hvW hXW exTyV (by rw [hg, e])) (fun c fz e => by injection e with _ e _; exact byteTyV e.symm), hc]
    · refine mapA_at hmW (fun es clock hb => ?_)
      rw [g4 h _ hb (fun e => by
        injection e with e
        rw [e] at hb
        have h1' : W.heap[X]? = _ := hXW
        rw [hb] at h1'
        cases h1') (fun c fz e => by cases e), hb])
  have hk2 : (k : Int) ≤ (x.rest.size : Int) := by omega
  have hk3 : (0 : Int) ≤ (k : Int) := by omega
  clear h1 h2 h3 h4 h5 hl hcs
  generalize advX x k = y at *
  generalize x.rest = r at *
  go_enter Tryz.func112, Tryz.ntmps112
  go_wp2_with fail
  go_region_with (go_at_call 53; refine (HW.out _ (by rfl) (by first | exact (Below.refl B w).drew | exact Below.refl B w)).mono ?_; rintro e w7 ⟨⟨n, rfl⟩, d2, f2, hex, hb7, hk7⟩)
  go_wp2_with fail
  go_end0
  exact ⟨rfl, hex, hb7.setCell (p := ⟨X, 2, none⟩) h6 _, hk7.setCell ⟨X, 2, none⟩ rfl _⟩
end Go.Proofs.YticehbhedoploaaGreatDoor
