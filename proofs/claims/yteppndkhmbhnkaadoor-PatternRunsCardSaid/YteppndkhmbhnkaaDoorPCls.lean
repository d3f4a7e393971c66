/- pattern: classOf, with the table of the classes. -/
import Derived.Test.YteppndkhmbhnkaaDoorPBeg
namespace Go.Proofs.YteppndkhmbhnkaaDoor
open Go.RowKit
set_option linter.unusedVariables false

/-- The classes: how each is written, its ranges. -/
def classT (i : Nat) : List UInt8 := [[91, 58, 97, 108, 112, 104, 97, 58, 93], [91, 58, 100, 105, 103, 105, 116, 58, 93], [91, 58, 97, 108, 110, 117, 109, 58, 93], [91, 58, 117, 112, 112, 101, 114, 58, 93], [91, 58, 108, 111, 119, 101, 114, 58, 93], [91, 58, 115, 112, 97, 99, 101, 58, 93], [91, 58, 98, 108, 97, 110, 107, 58, 93], [91, 58, 112, 117, 110, 99, 116, 58, 93]].getD i []
def classR (i : Nat) : List UInt8 := [[65, 90, 97, 122], [48, 57], [48, 57, 65, 90, 97, 122], [65, 90], [97, 122], [9, 13, 32, 32], [9, 9, 32, 32], [33, 47, 58, 64, 91, 96, 123, 126]].getD i []
theorem classT_len (i : Nat) (h : i < 8) : (classT i).length = 9 := by
  have : ∀ i, i < 8 → (classT i).length = 9 := by decide
  exact this i h
/-- The table in memory, below B. -/
def Env (w : World) (B : Nat) : Prop := 0 < B ∧ ∀ i, i < 8 → w.cell? ⟨0, i * 2, none⟩ = some (strB (classT i)) ∧ w.cell? ⟨0, i * 2 + 1, none⟩ = some (strB (classR i))
theorem env_below {w w' : World} {B B' : Nat} (h : Env w B) (hb : Below B' w w') (hB : B ≤ B') : Env w' B :=
  ⟨h.1, fun i hi => ⟨(hb.cell (p := ⟨0, i * 2, none⟩) (by show 0 < B'; exact Nat.lt_of_lt_of_le h.1 hB)).trans (h.2 i hi).1, (hb.cell (p := ⟨0, i * 2 + 1, none⟩) (by show 0 < B'; exact Nat.lt_of_lt_of_le h.1 hB)).trans (h.2 i hi).2⟩⟩
theorem env_mono {w : World} {B B' : Nat} (h : Env w B) (hB : B ≤ B') : Env w B' := ⟨Nat.lt_of_lt_of_le h.1 hB, h.2⟩

/-- The first class from i on that the characters begin with; 8 if there is none. -/
def clsFrom (cs : List Ch) : Nat → Nat → Nat
  | 0, i => i
  | n + 1, i => if begs cs (classT i) = true then i else clsFrom cs n (i + 1)
def classI (cs : List Ch) : Nat := clsFrom cs 8 0
theorem clsFrom_le (cs : List Ch) : ∀ (n i : Nat), clsFrom cs n i ≤ i + n
  | 0, i => Nat.le_refl _
  | n + 1, i => by
    rw [clsFrom]
    split
    · omega
    · have := clsFrom_le cs n (i + 1); omega
theorem clsFrom_begs (cs : List Ch) : ∀ (n i : Nat), clsFrom cs n i < i + n → begs cs (classT (clsFrom cs n i)) = true
  | 0, i, h => by rw [clsFrom] at h; omega
  | n + 1, i, h => by
    rw [clsFrom] at h ⊢
    split at h
    · rename_i h1; rw [if_pos h1]; exact h1
    · rename_i h1; rw [if_neg h1]; exact clsFrom_begs cs n (i + 1) (by omega)
theorem classI_begs {cs : List Ch} (h : classI cs < 8) : begs cs (classT (classI cs)) = true := clsFrom_begs cs 8 0 (by unfold classI at h; omega)
def ClsPost (cs : List Ch) (w : World) (e : Ending) (w' : World) : Prop :=
  (classI cs < 8 ∧ e = .returned (.tuple #[.agg #[strB (classT (classI cs)), strB (classR (classI cs))], .bool true]) ∨ classI cs = 8 ∧ e = .returned (.tuple #[.agg #[.string { data := #[] }, .string { data := #[] }], .bool false])) ∧ Below w.heap.size w w'

set_option maxHeartbeats 8000000 in
set_option maxRecDepth 100000 in
theorem classOf_c (A : Option Addr) (cs : List Ch) (c : Nat) (w : World) (hA : ChAt w w.heap.size A cs) (hc : cs.length ≤ 1000000) (hE : Env w w.heap.size) :
    Calls Tryd.prog 111 #[.slice A cs.length c] w (ClsPost cs w) := by
  have hbw : ∀ w1 i, i < 8 → Below w.heap.size w w1 → Calls Tryd.prog 145 #[.slice A cs.length c, .string ⟨(classT i).toArray⟩] w1 fun e w' => e = .returned (.bool (begs cs (classT i))) ∧ Below w1.heap.size w1 w' := by
    intro w1 i hi h1
    exact beginsWith_c A cs c (classT i) w1 (chAt_mono (chAt_below hA h1 (Nat.le_refl _)) h1.size) hc (by rw [classT_len i hi]; omega)
  have hx0 : Hid (classI cs = clsFrom cs (8 - 0) 0) := Lib.hid rfl
  have Hbw := Lib.hid hbw
  have HEnv := Lib.hid hE
  have hEa : ∀ o, Env (w.alloc o) w.heap.size := fun o => env_below hE ((Below.refl _ w).alloc (Nat.le_refl _) o) (Nat.le_refl _)
  have e0a : ∀ o, (w.alloc o).cell? ⟨0, 0, none⟩ = some (.string ⟨(classT 0).toArray⟩) := fun o => ((hEa o).2 0 (by decide)).1
  have e0b : ∀ o, (w.alloc o).cell? ⟨0, 1, none⟩ = some (.string ⟨(classR 0).toArray⟩) := fun o => ((hEa o).2 0 (by decide)).2
  have e1a : ∀ o, (w.alloc o).cell? ⟨0, 2, none⟩ = some (.string ⟨(classT 1).toArray⟩) := fun o => ((hEa o).2 1 (by decide)).1
  have e1b : ∀ o, (w.alloc o).cell? ⟨0, 3, none⟩ = some (.string ⟨(classR 1).toArray⟩) := fun o => ((hEa o).2 1 (by decide)).2
  have e2a : ∀ o, (w.alloc o).cell? ⟨0, 4, none⟩ = some (.string ⟨(classT 2).toArray⟩) := fun o => ((hEa o).2 2 (by decide)).1
  have e2b : ∀ o, (w.alloc o).cell? ⟨0, 5, none⟩ = some (.string ⟨(classR 2).toArray⟩) := fun o => ((hEa o).2 2 (by decide)).2
  have e3a : ∀ o, (w.alloc o).cell? ⟨0, 6, none⟩ = some (.string ⟨(classT 3).toArray⟩) := fun o => ((hEa o).2 3 (by decide)).1
  have e3b : ∀ o, (w.alloc o).cell? ⟨0, 7, none⟩ = some (.string ⟨(classR 3).toArray⟩) := fun o => ((hEa o).2 3 (by decide)).2
  have e4a : ∀ o, (w.alloc o).cell? ⟨0, 8, none⟩ = some (.string ⟨(classT 4).toArray⟩) := fun o => ((hEa o).2 4 (by decide)).1
  have e4b : ∀ o, (w.alloc o).cell? ⟨0, 9, none⟩ = some (.string ⟨(classR 4).toArray⟩) := fun o => ((hEa o).2 4 (by decide)).2
  have e5a : ∀ o, (w.alloc o).cell? ⟨0, 10, none⟩ = some (.string ⟨(classT 5).toArray⟩) := fun o => ((hEa o).2 5 (by decide)).1
  have e5b : ∀ o, (w.alloc o).cell? ⟨0, 11, none⟩ = some (.string ⟨(classR 5).toArray⟩) := fun o => ((hEa o).2 5 (by decide)).2
  have e6a : ∀ o, (w.alloc o).cell? ⟨0, 12, none⟩ = some (.string ⟨(classT 6).toArray⟩) := fun o => ((hEa o).2 6 (by decide)).1
  have e6b : ∀ o, (w.alloc o).cell? ⟨0, 13, none⟩ = some (.string ⟨(classR 6).toArray⟩) := fun o => ((hEa o).2 6 (by decide)).2
  have e7a : ∀ o, (w.alloc o).cell? ⟨0, 14, none⟩ = some (.string ⟨(classT 7).toArray⟩) := fun o => ((hEa o).2 7 (by decide)).1
  have e7b : ∀ o, (w.alloc o).cell? ⟨0, 15, none⟩ = some (.string ⟨(classR 7).toArray⟩) := fun o => ((hEa o).2 7 (by decide)).2
  clear hbw hE hA hEa
  go_enter Tryd.func111, Tryd.ntmps111
  go_wp2_with fail
  clear e0a e0b e1a e1b e2a e2b e3a e3b e4a e4b e5a e5b e6a e6b e7a e7b
  have m0 : Below w.heap.size w (w.alloc (.cells #[.string { data := #[] }, .string { data := #[] }] 123)) := (Below.refl _ _).alloc (Nat.le_refl _) _
  have hn0 := heap_alloc_new w (.cells #[.string { data := #[] }, .string { data := #[] }] 123)
  have hsz0 : (w.alloc (.cells #[.string { data := #[] }, .string { data := #[] }] 123)).heap.size = w.heap.size + 1 := by simp
  generalize w.alloc (.cells #[.string { data := #[] }, .string { data := #[] }] 123) = w0 at *
  have Hsz0 := Lib.hid hsz0
  clear hsz0
  go_loopw [7] (fun iv wr => ∃ k : Nat, iv = .int .i64 k ∧ k ≤ 8 ∧ Below (w.heap.size + 1) w0 wr ∧ Hid (classI cs = clsFrom cs (8 - k) k)) (fun iv _ => 8 - (intOf iv).toNat)
  case atStart => exact ⟨0, rfl, by omega, Below.refl _ _, hx0⟩
  case round =>
    obtain ⟨k, rfl, hk, hb, hx⟩ := hrel
    clear hx0
    have mr := m0.trans (hb.mono (Nat.le_succ _))
    have hwr : w.heap.size + 1 ≤ wr.heap.size := by have := hb.size; rw [Hsz0.out] at this; exact this
    have hH : wr.heap[w.heap.size]? = some (.cells #[.string { data := #[] }, .string { data := #[] }] 123 (0, 0)) := (hb.block _ (by omega)).trans hn0
    by_cases h8 : k = 8
    · subst h8
      have hxx := hx.out
      rw [show 8 - 8 = 0 from rfl, clsFrom] at hxx
      have hf := Lib.frozen_of_heap hH
      have c0 : wr.cell? ⟨w.heap.size, 0, none⟩ = some (.string { data := #[] }) := by rw [Lib.cell_of_heap hH]; rfl
      have c1 : wr.cell? ⟨w.heap.size, 1, none⟩ = some (.string { data := #[] }) := by rw [Lib.cell_of_heap hH]; rfl
      have f0 := hf 0
      have f1 := hf 1
      clear hf
      clear Hbw
      go_wp2_with fail
      refine bodyPost_ret (v := .tuple #[.agg #[.string { data := #[] }, .string { data := #[] }], .bool false]) (by simp [results, Tryd.results111, go_sem, c0, c1]) rfl ⟨.inr ⟨hxx, rfl⟩, (mr.setCell (p := ⟨w.heap.size, 0, none⟩) (Nat.le_refl _) _).setCell (p := ⟨w.heap.size, 1, none⟩) (Nat.le_refl _) _⟩
    have hk7 : k = 0 ∨ k = 1 ∨ k = 2 ∨ k = 3 ∨ k = 4 ∨ k = 5 ∨ k = 6 ∨ k = 7 := by omega
    clear h8 hk
    rcases hk7 with rfl | rfl | rfl | rfl | rfl | rfl | rfl | rfl
    · have hx2 := hx.out
      rw [show 8 - 0 = (8 - (0 + 1)) + 1 from rfl, clsFrom] at hx2
      have Hx2 := Lib.hid hx2
      have hix : (Instr.index 145 (.agg #[.string ⟨(classT 0).toArray⟩, .string ⟨(classR 0).toArray⟩, .string ⟨(classT 1).toArray⟩, .string ⟨(classR 1).toArray⟩, .string ⟨(classT 2).toArray⟩, .string ⟨(classR 2).toArray⟩, .string ⟨(classT 3).toArray⟩, .string ⟨(classR 3).toArray⟩, .string ⟨(classT 4).toArray⟩, .string ⟨(classR 4).toArray⟩, .string ⟨(classT 5).toArray⟩, .string ⟨(classR 5).toArray⟩, .string ⟨(classT 6).toArray⟩, .string ⟨(classR 6).toArray⟩, .string ⟨(classT 7).toArray⟩, .string ⟨(classR 7).toArray⟩]) (.int .i64 0)).run Tryd.prog wr = .ok (.agg #[.string ⟨(classT 0).toArray⟩, .string ⟨(classR 0).toArray⟩]) wr := by kernel_rfl
      have Hbwi := Lib.hid (Hbw.out _ 0 (by decide) (mr.alloc (by omega) (.cells #[.string ⟨(classT 0).toArray⟩, .string ⟨(classR 0).toArray⟩] 123)))
      clear hx hx2 Hbw
      go_wp2_with fail
      with_reducible refine Hbwi.out.mono ?_
      rintro e w7 ⟨rfl, m7⟩
      have mb : Below (w.heap.size + 1) w0 w7 := (hb.alloc (by omega) _).trans (m7.mono (by simp; omega))
      have hn7 : w7.heap[wr.heap.size]? = some (.cells #[.string ⟨(classT 0).toArray⟩, .string ⟨(classR 0).toArray⟩] 123 (0, 0)) := (m7.block _ (by simp)).trans (heap_alloc_new wr _)
      have hH7 : w7.heap[w.heap.size]? = some (.cells #[.string { data := #[] }, .string { data := #[] }] 123 (0, 0)) := (mb.block _ (by omega)).trans hn0
      rcases hb7 : begs cs (classT 0) with _ | _
      · have hx3 : Hid (classI cs = clsFrom cs (8 - (0 + 1)) (0 + 1)) := Lib.hid (by have := Hx2.out; rw [hb7, if_neg (by simp)] at this; exact this)
        clear Hx2 hb7 Hbwi hn7 hH7 hH
        go_wp2_with fail
        go_roundw
        case rel => exact ⟨0 + 1, by first | rfl | go_num, by omega, mb, hx3⟩
        case measure => simp [intOf]
      · have hx3 : classI cs = 0 := by have := Hx2.out; rw [hb7, if_pos rfl] at this; exact this
        have c0 : w7.cell? ⟨wr.heap.size, 0, none⟩ = some (.string ⟨(classT 0).toArray⟩) := by rw [Lib.cell_of_heap hn7]; rfl
        have c1 : w7.cell? ⟨wr.heap.size, 1, none⟩ = some (.string ⟨(classR 0).toArray⟩) := by rw [Lib.cell_of_heap hn7]; rfl
        have d0 : w7.cell? ⟨w.heap.size, 0, none⟩ = some (.string { data := #[] }) := by rw [Lib.cell_of_heap hH7]; rfl
        have d1 : w7.cell? ⟨w.heap.size, 1, none⟩ = some (.string { data := #[] }) := by rw [Lib.cell_of_heap hH7]; rfl
        have f0 := Lib.frozen_of_heap hH7 0
        have f1 := Lib.frozen_of_heap hH7 1
        have mz := ((m0.trans (mb.mono (Nat.le_succ _))).setCell (p := ⟨w.heap.size, 0, none⟩) (Nat.le_refl _) (.string ⟨(classT 0).toArray⟩)).setCell (p := ⟨w.heap.size, 1, none⟩) (Nat.le_refl _) (.string ⟨(classR 0).toArray⟩)
        clear Hx2 hb7 Hbwi hn7 hH7 hH
        go_wp2_with fail
        refine bodyPost_ret (v := .tuple #[.agg #[strB (classT 0), strB (classR 0)], .bool true]) (by simp [results, Tryd.results111, go_sem, strB, d0, d1]) rfl ⟨.inl ⟨by omega, by rw [hx3]⟩, mz⟩
    · have hx2 := hx.out
      rw [show 8 - 1 = (8 - (1 + 1)) + 1 from rfl, clsFrom] at hx2
      have Hx2 := Lib.hid hx2
      have hix : (Instr.index 145 (.agg #[.string ⟨(classT 0).toArray⟩, .string ⟨(classR 0).toArray⟩, .string ⟨(classT 1).toArray⟩, .string ⟨(classR 1).toArray⟩, .string ⟨(classT 2).toArray⟩, .string ⟨(classR 2).toArray⟩, .string ⟨(classT 3).toArray⟩, .string ⟨(classR 3).toArray⟩, .string ⟨(classT 4).toArray⟩, .string ⟨(classR 4).toArray⟩, .string ⟨(classT 5).toArray⟩, .string ⟨(classR 5).toArray⟩, .string ⟨(classT 6).toArray⟩, .string ⟨(classR 6).toArray⟩, .string ⟨(classT 7).toArray⟩, .string ⟨(classR 7).toArray⟩]) (.int .i64 1)).run Tryd.prog wr = .ok (.agg #[.string ⟨(classT 1).toArray⟩, .string ⟨(classR 1).toArray⟩]) wr := by kernel_rfl
      have Hbwi := Lib.hid (Hbw.out _ 1 (by decide) (mr.alloc (by omega) (.cells #[.string ⟨(classT 1).toArray⟩, .string ⟨(classR 1).toArray⟩] 123)))
      clear hx hx2 Hbw
      go_wp2_with fail
      with_reducible refine Hbwi.out.mono ?_
      rintro e w7 ⟨rfl, m7⟩
      have mb : Below (w.heap.size + 1) w0 w7 := (hb.alloc (by omega) _).trans (m7.mono (by simp; omega))
      have hn7 : w7.heap[wr.heap.size]? = some (.cells #[.string ⟨(classT 1).toArray⟩, .string ⟨(classR 1).toArray⟩] 123 (0, 0)) := (m7.block _ (by simp)).trans (heap_alloc_new wr _)
      have hH7 : w7.heap[w.heap.size]? = some (.cells #[.string { data := #[] }, .string { data := #[] }] 123 (0, 0)) := (mb.block _ (by omega)).trans hn0
      rcases hb7 : begs cs (classT 1) with _ | _
      · have hx3 : Hid (classI cs = clsFrom cs (8 - (1 + 1)) (1 + 1)) := Lib.hid (by have := Hx2.out; rw [hb7, if_neg (by simp)] at this; exact this)
        clear Hx2 hb7 Hbwi hn7 hH7 hH
        go_wp2_with fail
        go_roundw
        case rel => exact ⟨1 + 1, by first | rfl | go_num, by omega, mb, hx3⟩
        case measure => simp [intOf]
      · have hx3 : classI cs = 1 := by have := Hx2.out; rw [hb7, if_pos rfl] at this; exact this
        have c0 : w7.cell? ⟨wr.heap.size, 0, none⟩ = some (.string ⟨(classT 1).toArray⟩) := by rw [Lib.cell_of_heap hn7]; rfl
        have c1 : w7.cell? ⟨wr.heap.size, 1, none⟩ = some (.string ⟨(classR 1).toArray⟩) := by rw [Lib.cell_of_heap hn7]; rfl
        have d0 : w7.cell? ⟨w.heap.size, 0, none⟩ = some (.string { data := #[] }) := by rw [Lib.cell_of_heap hH7]; rfl
        have d1 : w7.cell? ⟨w.heap.size, 1, none⟩ = some (.string { data := #[] }) := by rw [Lib.cell_of_heap hH7]; rfl
        have f0 := Lib.frozen_of_heap hH7 0
        have f1 := Lib.frozen_of_heap hH7 1
        have mz := ((m0.trans (mb.mono (Nat.le_succ _))).setCell (p := ⟨w.heap.size, 0, none⟩) (Nat.le_refl _) (.string ⟨(classT 1).toArray⟩)).setCell (p := ⟨w.heap.size, 1, none⟩) (Nat.le_refl _) (.string ⟨(classR 1).toArray⟩)
        clear Hx2 hb7 Hbwi hn7 hH7 hH
        go_wp2_with fail
        refine bodyPost_ret (v := .tuple #[.agg #[strB (classT 1), strB (classR 1)], .bool true]) (by simp [results, Tryd.results111, go_sem, strB, d0, d1]) rfl ⟨.inl ⟨by omega, by rw [hx3]⟩, mz⟩
    · have hx2 := hx.out
      rw [show 8 - 2 = (8 - (2 + 1)) + 1 from rfl, clsFrom] at hx2
      have Hx2 := Lib.hid hx2
      have hix : (Instr.index 145 (.agg #[.string ⟨(classT 0).toArray⟩, .string ⟨(classR 0).toArray⟩, .string ⟨(classT 1).toArray⟩, .string ⟨(classR 1).toArray⟩, .string ⟨(classT 2).toArray⟩, .string ⟨(classR 2).toArray⟩, .string ⟨(classT 3).toArray⟩, .string ⟨(classR 3).toArray⟩, .string ⟨(classT 4).toArray⟩, .string ⟨(classR 4).toArray⟩, .string ⟨(classT 5).toArray⟩, .string ⟨(classR 5).toArray⟩, .string ⟨(classT 6).toArray⟩, .string ⟨(classR 6).toArray⟩, .string ⟨(classT 7).toArray⟩, .string ⟨(classR 7).toArray⟩]) (.int .i64 2)).run Tryd.prog wr = .ok (.agg #[.string ⟨(classT 2).toArray⟩, .string ⟨(classR 2).toArray⟩]) wr := by kernel_rfl
      have Hbwi := Lib.hid (Hbw.out _ 2 (by decide) (mr.alloc (by omega) (.cells #[.string ⟨(classT 2).toArray⟩, .string ⟨(classR 2).toArray⟩] 123)))
      clear hx hx2 Hbw
      go_wp2_with fail
      with_reducible refine Hbwi.out.mono ?_
      rintro e w7 ⟨rfl, m7⟩
      have mb : Below (w.heap.size + 1) w0 w7 := (hb.alloc (by omega) _).trans (m7.mono (by simp; omega))
      have hn7 : w7.heap[wr.heap.size]? = some (.cells #[.string ⟨(classT 2).toArray⟩, .string ⟨(classR 2).toArray⟩] 123 (0, 0)) := (m7.block _ (by simp)).trans (heap_alloc_new wr _)
      have hH7 : w7.heap[w.heap.size]? = some (.cells #[.string { data := #[] }, .string { data := #[] }] 123 (0, 0)) := (mb.block _ (by omega)).trans hn0
      rcases hb7 : begs cs (classT 2) with _ | _
      · have hx3 : Hid (classI cs = clsFrom cs (8 - (2 + 1)) (2 + 1)) := Lib.hid (by have := Hx2.out; rw [hb7, if_neg (by simp)] at this; exact this)
        clear Hx2 hb7 Hbwi hn7 hH7 hH
        go_wp2_with fail
        go_roundw
        case rel => exact ⟨2 + 1, by first | rfl | go_num, by omega, mb, hx3⟩
        case measure => simp [intOf]
      · have hx3 : classI cs = 2 := by have := Hx2.out; rw [hb7, if_pos rfl] at this; exact this
        have c0 : w7.cell? ⟨wr.heap.size, 0, none⟩ = some (.string ⟨(classT 2).toArray⟩) := by rw [Lib.cell_of_heap hn7]; rfl
        have c1 : w7.cell? ⟨wr.heap.size, 1, none⟩ = some (.string ⟨(classR 2).toArray⟩) := by rw [Lib.cell_of_heap hn7]; rfl
        have d0 : w7.cell? ⟨w.heap.size, 0, none⟩ = some (.string { data := #[] }) := by rw [Lib.cell_of_heap hH7]; rfl
        have d1 : w7.cell? ⟨w.heap.size, 1, none⟩ = some (.string { data := #[] }) := by rw [Lib.cell_of_heap hH7]; rfl
        have f0 := Lib.frozen_of_heap hH7 0
        have f1 := Lib.frozen_of_heap hH7 1
        have mz := ((m0.trans (mb.mono (Nat.le_succ _))).setCell (p := ⟨w.heap.size, 0, none⟩) (Nat.le_refl _) (.string ⟨(classT 2).toArray⟩)).setCell (p := ⟨w.heap.size, 1, none⟩) (Nat.le_refl _) (.string ⟨(classR 2).toArray⟩)
        clear Hx2 hb7 Hbwi hn7 hH7 hH
        go_wp2_with fail
        refine bodyPost_ret (v := .tuple #[.agg #[strB (classT 2), strB (classR 2)], .bool true]) (by simp [results, Tryd.results111, go_sem, strB, d0, d1]) rfl ⟨.inl ⟨by omega, by rw [hx3]⟩, mz⟩
    · have hx2 := hx.out
      rw [show 8 - 3 = (8 - (3 + 1)) + 1 from rfl, clsFrom] at hx2
      have Hx2 := Lib.hid hx2
      have hix : (Instr.index 145 (.agg #[.string ⟨(classT 0).toArray⟩, .string ⟨(classR 0).toArray⟩, .string ⟨(classT 1).toArray⟩, .string ⟨(classR 1).toArray⟩, .string ⟨(classT 2).toArray⟩, .string ⟨(classR 2).toArray⟩, .string ⟨(classT 3).toArray⟩, .string ⟨(classR 3).toArray⟩, .string ⟨(classT 4).toArray⟩, .string ⟨(classR 4).toArray⟩, .string ⟨(classT 5).toArray⟩, .string ⟨(classR 5).toArray⟩, .string ⟨(classT 6).toArray⟩, .string ⟨(classR 6).toArray⟩, .string ⟨(classT 7).toArray⟩, .string ⟨(classR 7).toArray⟩]) (.int .i64 3)).run Tryd.prog wr = .ok (.agg #[.string ⟨(classT 3).toArray⟩, .string ⟨(classR 3).toArray⟩]) wr := by kernel_rfl
      have Hbwi := Lib.hid (Hbw.out _ 3 (by decide) (mr.alloc (by omega) (.cells #[.string ⟨(classT 3).toArray⟩, .string ⟨(classR 3).toArray⟩] 123)))
      clear hx hx2 Hbw
      go_wp2_with fail
      with_reducible refine Hbwi.out.mono ?_
      rintro e w7 ⟨rfl, m7⟩
      have mb : Below (w.heap.size + 1) w0 w7 := (hb.alloc (by omega) _).trans (m7.mono (by simp; omega))
      have hn7 : w7.heap[wr.heap.size]? = some (.cells #[.string ⟨(classT 3).toArray⟩, .string ⟨(classR 3).toArray⟩] 123 (0, 0)) := (m7.block _ (by simp)).trans (heap_alloc_new wr _)
      have hH7 : w7.heap[w.heap.size]? = some (.cells #[.string { data := #[] }, .string { data := #[] }] 123 (0, 0)) := (mb.block _ (by omega)).trans hn0
      rcases hb7 : begs cs (classT 3) with _ | _
      · have hx3 : Hid (classI cs = clsFrom cs (8 - (3 + 1)) (3 + 1)) := Lib.hid (by have := Hx2.out; rw [hb7, if_neg (by simp)] at this; exact this)
        clear Hx2 hb7 Hbwi hn7 hH7 hH
        go_wp2_with fail
        go_roundw
        case rel => exact ⟨3 + 1, by first | rfl | go_num, by omega, mb, hx3⟩
        case measure => simp [intOf]
      · have hx3 : classI cs = 3 := by have := Hx2.out; rw [hb7, if_pos rfl] at this; exact this
        have c0 : w7.cell? ⟨wr.heap.size, 0, none⟩ = some (.string ⟨(classT 3).toArray⟩) := by rw [Lib.cell_of_heap hn7]; rfl
        have c1 : w7.cell? ⟨wr.heap.size, 1, none⟩ = some (.string ⟨(classR 3).toArray⟩) := by rw [Lib.cell_of_heap hn7]; rfl
        have d0 : w7.cell? ⟨w.heap.size, 0, none⟩ = some (.string { data := #[] }) := by rw [Lib.cell_of_heap hH7]; rfl
        have d1 : w7.cell? ⟨w.heap.size, 1, none⟩ = some (.string { data := #[] }) := by rw [Lib.cell_of_heap hH7]; rfl
        have f0 := Lib.frozen_of_heap hH7 0
        have f1 := Lib.frozen_of_heap hH7 1
        have mz := ((m0.trans (mb.mono (Nat.le_succ _))).setCell (p := ⟨w.heap.size, 0, none⟩) (Nat.le_refl _) (.string ⟨(classT 3).toArray⟩)).setCell (p := ⟨w.heap.size, 1, none⟩) (Nat.le_refl _) (.string ⟨(classR 3).toArray⟩)
        clear Hx2 hb7 Hbwi hn7 hH7 hH
        go_wp2_with fail
        refine bodyPost_ret (v := .tuple #[.agg #[strB (classT 3), strB (classR 3)], .bool true]) (by simp [results, Tryd.results111, go_sem, strB, d0, d1]) rfl ⟨.inl ⟨by omega, by rw [hx3]⟩, mz⟩
    · have hx2 := hx.out
      rw [show 8 - 4 = (8 - (4 + 1)) + 1 from rfl, clsFrom] at hx2
      have Hx2 := Lib.hid hx2
      have hix : (Instr.index 145 (.agg #[.string ⟨(classT 0).toArray⟩, .string ⟨(classR 0).toArray⟩, .string ⟨(classT 1).toArray⟩, .string ⟨(classR 1).toArray⟩, .string ⟨(classT 2).toArray⟩, .string ⟨(classR 2).toArray⟩, .string ⟨(classT 3).toArray⟩, .string ⟨(classR 3).toArray⟩, .string ⟨(classT 4).toArray⟩, .string ⟨(classR 4).toArray⟩, .string ⟨(classT 5).toArray⟩, .string ⟨(classR 5).toArray⟩, .string ⟨(classT 6).toArray⟩, .string ⟨(classR 6).toArray⟩, .string ⟨(classT 7).toArray⟩, .string ⟨(classR 7).toArray⟩]) (.int .i64 4)).run Tryd.prog wr = .ok (.agg #[.string ⟨(classT 4).toArray⟩, .string ⟨(classR 4).toArray⟩]) wr := by kernel_rfl
      have Hbwi := Lib.hid (Hbw.out _ 4 (by decide) (mr.alloc (by omega) (.cells #[.string ⟨(classT 4).toArray⟩, .string ⟨(classR 4).toArray⟩] 123)))
      clear hx hx2 Hbw
      go_wp2_with fail
      with_reducible refine Hbwi.out.mono ?_
      rintro e w7 ⟨rfl, m7⟩
      have mb : Below (w.heap.size + 1) w0 w7 := (hb.alloc (by omega) _).trans (m7.mono (by simp; omega))
      have hn7 : w7.heap[wr.heap.size]? = some (.cells #[.string ⟨(classT 4).toArray⟩, .string ⟨(classR 4).toArray⟩] 123 (0, 0)) := (m7.block _ (by simp)).trans (heap_alloc_new wr _)
      have hH7 : w7.heap[w.heap.size]? = some (.cells #[.string { data := #[] }, .string { data := #[] }] 123 (0, 0)) := (mb.block _ (by omega)).trans hn0
      rcases hb7 : begs cs (classT 4) with _ | _
      · have hx3 : Hid (classI cs = clsFrom cs (8 - (4 + 1)) (4 + 1)) := Lib.hid (by have := Hx2.out; rw [hb7, if_neg (by simp)] at this; exact this)
        clear Hx2 hb7 Hbwi hn7 hH7 hH
        go_wp2_with fail
        go_roundw
        case rel => exact ⟨4 + 1, by first | rfl | go_num, by omega, mb, hx3⟩
        case measure => simp [intOf]
      · have hx3 : classI cs = 4 := by have := Hx2.out; rw [hb7, if_pos rfl] at this; exact this
        have c0 : w7.cell? ⟨wr.heap.size, 0, none⟩ = some (.string ⟨(classT 4).toArray⟩) := by rw [Lib.cell_of_heap hn7]; rfl
        have c1 : w7.cell? ⟨wr.heap.size, 1, none⟩ = some (.string ⟨(classR 4).toArray⟩) := by rw [Lib.cell_of_heap hn7]; rfl
        have d0 : w7.cell? ⟨w.heap.size, 0, none⟩ = some (.string { data := #[] }) := by rw [Lib.cell_of_heap hH7]; rfl
        have d1 : w7.cell? ⟨w.heap.size, 1, none⟩ = some (.string { data := #[] }) := by rw [Lib.cell_of_heap hH7]; rfl
        have f0 := Lib.frozen_of_heap hH7 0
        have f1 := Lib.frozen_of_heap hH7 1
        have mz := ((m0.trans (mb.mono (Nat.le_succ _))).setCell (p := ⟨w.heap.size, 0, none⟩) (Nat.le_refl _) (.string ⟨(classT 4).toArray⟩)).setCell (p := ⟨w.heap.size, 1, none⟩) (Nat.le_refl _) (.string ⟨(classR 4).toArray⟩)
        clear Hx2 hb7 Hbwi hn7 hH7 hH
        go_wp2_with fail
        refine bodyPost_ret (v := .tuple #[.agg #[strB (classT 4), strB (classR 4)], .bool true]) (by simp [results, Tryd.results111, go_sem, strB, d0, d1]) rfl ⟨.inl ⟨by omega, by rw [hx3]⟩, mz⟩
    · have hx2 := hx.out
      rw [show 8 - 5 = (8 - (5 + 1)) + 1 from rfl, clsFrom] at hx2
      have Hx2 := Lib.hid hx2
      have hix : (Instr.index 145 (.agg #[.string ⟨(classT 0).toArray⟩, .string ⟨(classR 0).toArray⟩, .string ⟨(classT 1).toArray⟩, .string ⟨(classR 1).toArray⟩, .string ⟨(classT 2).toArray⟩, .string ⟨(classR 2).toArray⟩, .string ⟨(classT 3).toArray⟩, .string ⟨(classR 3).toArray⟩, .string ⟨(classT 4).toArray⟩, .string ⟨(classR 4).toArray⟩, .string ⟨(classT 5).toArray⟩, .string ⟨(classR 5).toArray⟩, .string ⟨(classT 6).toArray⟩, .string ⟨(classR 6).toArray⟩, .string ⟨(classT 7).toArray⟩, .string ⟨(classR 7).toArray⟩]) (.int .i64 5)).run Tryd.prog wr = .ok (.agg #[.string ⟨(classT 5).toArray⟩, .string ⟨(classR 5).toArray⟩]) wr := by kernel_rfl
      have Hbwi := Lib.hid (Hbw.out _ 5 (by decide) (mr.alloc (by omega) (.cells #[.string ⟨(classT 5).toArray⟩, .string ⟨(classR 5).toArray⟩] 123)))
      clear hx hx2 Hbw
      go_wp2_with fail
      with_reducible refine Hbwi.out.mono ?_
      rintro e w7 ⟨rfl, m7⟩
      have mb : Below (w.heap.size + 1) w0 w7 := (hb.alloc (by omega) _).trans (m7.mono (by simp; omega))
      have hn7 : w7.heap[wr.heap.size]? = some (.cells #[.string ⟨(classT 5).toArray⟩, .string ⟨(classR 5).toArray⟩] 123 (0, 0)) := (m7.block _ (by simp)).trans (heap_alloc_new wr _)
      have hH7 : w7.heap[w.heap.size]? = some (.cells #[.string { data := #[] }, .string { data := #[] }] 123 (0, 0)) := (mb.block _ (by omega)).trans hn0
      rcases hb7 : begs cs (classT 5) with _ | _
      · have hx3 : Hid (classI cs = clsFrom cs (8 - (5 + 1)) (5 + 1)) := Lib.hid (by have := Hx2.out; rw [hb7, if_neg (by simp)] at this; exact this)
        clear Hx2 hb7 Hbwi hn7 hH7 hH
        go_wp2_with fail
        go_roundw
        case rel => exact ⟨5 + 1, by first | rfl | go_num, by omega, mb, hx3⟩
        case measure => simp [intOf]
      · have hx3 : classI cs = 5 := by have := Hx2.out; rw [hb7, if_pos rfl] at this; exact this
        have c0 : w7.cell? ⟨wr.heap.size, 0, none⟩ = some (.string ⟨(classT 5).toArray⟩) := by rw [Lib.cell_of_heap hn7]; rfl
        have c1 : w7.cell? ⟨wr.heap.size, 1, none⟩ = some (.string ⟨(classR 5).toArray⟩) := by rw [Lib.cell_of_heap hn7]; rfl
        have d0 : w7.cell? ⟨w.heap.size, 0, none⟩ = some (.string { data := #[] }) := by rw [Lib.cell_of_heap hH7]; rfl
        have d1 : w7.cell? ⟨w.heap.size, 1, none⟩ = some (.string { data := #[] }) := by rw [Lib.cell_of_heap hH7]; rfl
        have f0 := Lib.frozen_of_heap hH7 0
        have f1 := Lib.frozen_of_heap hH7 1
        have mz := ((m0.trans (mb.mono (Nat.le_succ _))).setCell (p := ⟨w.heap.size, 0, none⟩) (Nat.le_refl _) (.string ⟨(classT 5).toArray⟩)).setCell (p := ⟨w.heap.size, 1, none⟩) (Nat.le_refl _) (.string ⟨(classR 5).toArray⟩)
        clear Hx2 hb7 Hbwi hn7 hH7 hH
        go_wp2_with fail
        refine bodyPost_ret (v := .tuple #[.agg #[strB (classT 5), strB (classR 5)], .bool true]) (by simp [results, Tryd.results111, go_sem, strB, d0, d1]) rfl ⟨.inl ⟨by omega, by rw [hx3]⟩, mz⟩
    · have hx2 := hx.out
      rw [show 8 - 6 = (8 - (6 + 1)) + 1 from rfl, clsFrom] at hx2
      have Hx2 := Lib.hid hx2
      have hix : (Instr.index 145 (.agg #[.string ⟨(classT 0).toArray⟩, .string ⟨(classR 0).toArray⟩, .string ⟨(classT 1).toArray⟩, .string ⟨(classR 1).toArray⟩, .string ⟨(classT 2).toArray⟩, .string ⟨(classR 2).toArray⟩, .string ⟨(classT 3).toArray⟩, .string ⟨(classR 3).toArray⟩, .string ⟨(classT 4).toArray⟩, .string ⟨(classR 4).toArray⟩, .string ⟨(classT 5).toArray⟩, .string ⟨(classR 5).toArray⟩, .string ⟨(classT 6).toArray⟩, .string ⟨(classR 6).toArray⟩, .string ⟨(classT 7).toArray⟩, .string ⟨(classR 7).toArray⟩]) (.int .i64 6)).run Tryd.prog wr = .ok (.agg #[.string ⟨(classT 6).toArray⟩, .string ⟨(classR 6).toArray⟩]) wr := by kernel_rfl
      have Hbwi := Lib.hid (Hbw.out _ 6 (by decide) (mr.alloc (by omega) (.cells #[.string ⟨(classT 6).toArray⟩, .string ⟨(classR 6).toArray⟩] 123)))
      clear hx hx2 Hbw
      go_wp2_with fail
      with_reducible refine Hbwi.out.mono ?_
      rintro e w7 ⟨rfl, m7⟩
      have mb : Below (w.heap.size + 1) w0 w7 := (hb.alloc (by omega) _).trans (m7.mono (by simp; omega))
      have hn7 : w7.heap[wr.heap.size]? = some (.cells #[.string ⟨(classT 6).toArray⟩, .string ⟨(classR 6).toArray⟩] 123 (0, 0)) := (m7.block _ (by simp)).trans (heap_alloc_new wr _)
      have hH7 : w7.heap[w.heap.size]? = some (.cells #[.string { data := #[] }, .string { data := #[] }] 123 (0, 0)) := (mb.block _ (by omega)).trans hn0
      rcases hb7 : begs cs (classT 6) with _ | _
      · have hx3 : Hid (classI cs = clsFrom cs (8 - (6 + 1)) (6 + 1)) := Lib.hid (by have := Hx2.out; rw [hb7, if_neg (by simp)] at this; exact this)
        clear Hx2 hb7 Hbwi hn7 hH7 hH
        go_wp2_with fail
        go_roundw
        case rel => exact ⟨6 + 1, by first | rfl | go_num, by omega, mb, hx3⟩
        case measure => simp [intOf]
      · have hx3 : classI cs = 6 := by have := Hx2.out; rw [hb7, if_pos rfl] at this; exact this
        have c0 : w7.cell? ⟨wr.heap.size, 0, none⟩ = some (.string ⟨(classT 6).toArray⟩) := by rw [Lib.cell_of_heap hn7]; rfl
        have c1 : w7.cell? ⟨wr.heap.size, 1, none⟩ = some (.string ⟨(classR 6).toArray⟩) := by rw [Lib.cell_of_heap hn7]; rfl
        have d0 : w7.cell? ⟨w.heap.size, 0, none⟩ = some (.string { data := #[] }) := by rw [Lib.cell_of_heap hH7]; rfl
        have d1 : w7.cell? ⟨w.heap.size, 1, none⟩ = some (.string { data := #[] }) := by rw [Lib.cell_of_heap hH7]; rfl
        have f0 := Lib.frozen_of_heap hH7 0
        have f1 := Lib.frozen_of_heap hH7 1
        have mz := ((m0.trans (mb.mono (Nat.le_succ _))).setCell (p := ⟨w.heap.size, 0, none⟩) (Nat.le_refl _) (.string ⟨(classT 6).toArray⟩)).setCell (p := ⟨w.heap.size, 1, none⟩) (Nat.le_refl _) (.string ⟨(classR 6).toArray⟩)
        clear Hx2 hb7 Hbwi hn7 hH7 hH
        go_wp2_with fail
        refine bodyPost_ret (v := .tuple #[.agg #[strB (classT 6), strB (classR 6)], .bool true]) (by simp [results, Tryd.results111, go_sem, strB, d0, d1]) rfl ⟨.inl ⟨by omega, by rw [hx3]⟩, mz⟩
    · have hx2 := hx.out
      rw [show 8 - 7 = (8 - (7 + 1)) + 1 from rfl, clsFrom] at hx2
      have Hx2 := Lib.hid hx2
      have hix : (Instr.index 145 (.agg #[.string ⟨(classT 0).toArray⟩, .string ⟨(classR 0).toArray⟩, .string ⟨(classT 1).toArray⟩, .string ⟨(classR 1).toArray⟩, .string ⟨(classT 2).toArray⟩, .string ⟨(classR 2).toArray⟩, .string ⟨(classT 3).toArray⟩, .string ⟨(classR 3).toArray⟩, .string ⟨(classT 4).toArray⟩, .string ⟨(classR 4).toArray⟩, .string ⟨(classT 5).toArray⟩, .string ⟨(classR 5).toArray⟩, .string ⟨(classT 6).toArray⟩, .string ⟨(classR 6).toArray⟩, .string ⟨(classT 7).toArray⟩, .string ⟨(classR 7).toArray⟩]) (.int .i64 7)).run Tryd.prog wr = .ok (.agg #[.string ⟨(classT 7).toArray⟩, .string ⟨(classR 7).toArray⟩]) wr := by kernel_rfl
      have Hbwi := Lib.hid (Hbw.out _ 7 (by decide) (mr.alloc (by omega) (.cells #[.string ⟨(classT 7).toArray⟩, .string ⟨(classR 7).toArray⟩] 123)))
      clear hx hx2 Hbw
      go_wp2_with fail
      with_reducible refine Hbwi.out.mono ?_
      rintro e w7 ⟨rfl, m7⟩
      have mb : Below (w.heap.size + 1) w0 w7 := (hb.alloc (by omega) _).trans (m7.mono (by simp; omega))
      have hn7 : w7.heap[wr.heap.size]? = some (.cells #[.string ⟨(classT 7).toArray⟩, .string ⟨(classR 7).toArray⟩] 123 (0, 0)) := (m7.block _ (by simp)).trans (heap_alloc_new wr _)
      have hH7 : w7.heap[w.heap.size]? = some (.cells #[.string { data := #[] }, .string { data := #[] }] 123 (0, 0)) := (mb.block _ (by omega)).trans hn0
      rcases hb7 : begs cs (classT 7) with _ | _
      · have hx3 : Hid (classI cs = clsFrom cs (8 - (7 + 1)) (7 + 1)) := Lib.hid (by have := Hx2.out; rw [hb7, if_neg (by simp)] at this; exact this)
        clear Hx2 hb7 Hbwi hn7 hH7 hH
        go_wp2_with fail
        go_roundw
        case rel => exact ⟨7 + 1, by first | rfl | go_num, by omega, mb, hx3⟩
        case measure => simp [intOf]
      · have hx3 : classI cs = 7 := by have := Hx2.out; rw [hb7, if_pos rfl] at this; exact this
        have c0 : w7.cell? ⟨wr.heap.size, 0, none⟩ = some (.string ⟨(classT 7).toArray⟩) := by rw [Lib.cell_of_heap hn7]; rfl
        have c1 : w7.cell? ⟨wr.heap.size, 1, none⟩ = some (.string ⟨(classR 7).toArray⟩) := by rw [Lib.cell_of_heap hn7]; rfl
        have d0 : w7.cell? ⟨w.heap.size, 0, none⟩ = some (.string { data := #[] }) := by rw [Lib.cell_of_heap hH7]; rfl
        have d1 : w7.cell? ⟨w.heap.size, 1, none⟩ = some (.string { data := #[] }) := by rw [Lib.cell_of_heap hH7]; rfl
        have f0 := Lib.frozen_of_heap hH7 0
        have f1 := Lib.frozen_of_heap hH7 1
        have mz := ((m0.trans (mb.mono (Nat.le_succ _))).setCell (p := ⟨w.heap.size, 0, none⟩) (Nat.le_refl _) (.string ⟨(classT 7).toArray⟩)).setCell (p := ⟨w.heap.size, 1, none⟩) (Nat.le_refl _) (.string ⟨(classR 7).toArray⟩)
        clear Hx2 hb7 Hbwi hn7 hH7 hH
        go_wp2_with fail
        refine bodyPost_ret (v := .tuple #[.agg #[strB (classT 7), strB (classR 7)], .bool true]) (by simp [results, Tryd.results111, go_sem, strB, d0, d1]) rfl ⟨.inl ⟨by omega, by rw [hx3]⟩, mz⟩
end Go.Proofs.YteppndkhmbhnkaaDoor
