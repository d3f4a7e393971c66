/- words: a parameter in a here-document. -/
import Derived.Test.YtlenmkcafoiefabGreatDoorHwB
namespace Go.Proofs.YtlenmkcafoiefabGreatDoor
open Go.RowKit
set_option linter.unusedVariables false

/-- The document of the example. -/
def docS : ByteArray := ⟨#[36, 120, 10]⟩
theorem doc_close : closL docS.data.toList ((0 : Nat) : Int) = (2, 0) := by kernel_rfl
theorem doc_ext : docS.extract 0 2 = ⟨#[36, 120]⟩ := by kernel_rfl
set_option maxHeartbeats 8000000 in
set_option maxRecDepth 100000 in
theorem param_doc (P : Nat) (w : World) (hP : w.heap[P]? = some (psrO docS 0)) : Calls Tryz.prog 176 #[.pointer (some ⟨P, 0, none⟩)] w fun e w' => e = .returned (partV 4 ⟨#[120]⟩) ∧ w'.heap[P]? = some (psrO docS 2) ∧ ButL P w w' := by
  have hlt := (Array.getElem?_eq_some_iff.1 hP).1
  have hP1 : (w.alloc (.cells #[.int .i64 0, .string ⟨#[]⟩, .int .i64 0, .bool false, .slice none 0 0] 66)).heap[P]? = some (psrO docS 0) := (Below.heap_alloc _ _ _ hlt).trans hP
  have hh := heap_alloc_new w (.cells #[.int .i64 0, .string ⟨#[]⟩, .int .i64 0, .bool false, .slice none 0 0] 66)
  obtain ⟨c0, c1, c2⟩ := psr_cells hP1
  have HC := Lib.hid (construct_c P docS 0 2 _ hP1 (by decide) doc_close (by omega) (by decide))
  have HK := Lib.hid (fun W => check_c ⟨#[120]⟩ 0 W (by decide))
  have HH := Lib.hid hh
  have e0 : ((⟨#[36, 120]⟩ : ByteArray).extract 1 2) = ⟨#[120]⟩ := by kernel_rfl
  rw [doc_ext] at HC
  unfold partV
  clear hh hP1
  go_enter Tryz.func176, Tryz.ntmps176
  go_wp2_with fail
  refine HC.out.mono ?_
  rintro e w1 ⟨rfl, g1, g2⟩
  have hp1 := g2.blk HH.out (by omega)
  have y0 : w1.cell? ⟨w.heap.size, 0, none⟩ = some (.int .i64 0) := by rw [Lib.cell_of_heap hp1]; rfl
  have y1 : w1.cell? ⟨w.heap.size, 1, none⟩ = some (.string ⟨#[]⟩) := by rw [Lib.cell_of_heap hp1]; rfl
  have y2 : w1.cell? ⟨w.heap.size, 2, none⟩ = some (.int .i64 0) := by rw [Lib.cell_of_heap hp1]; rfl
  have y3 : w1.cell? ⟨w.heap.size, 3, none⟩ = some (.bool false) := by rw [Lib.cell_of_heap hp1]; rfl
  have y4 : w1.cell? ⟨w.heap.size, 4, none⟩ = some (.slice none 0 0) := by rw [Lib.cell_of_heap hp1]; rfl
  have f0 := Lib.frozen_of_heap hp1 0
  have f1 := Lib.frozen_of_heap hp1 1
  have f2 := Lib.frozen_of_heap hp1 2
  have f3 := Lib.frozen_of_heap hp1 3
  have f4 := Lib.frozen_of_heap hp1 4
  go_wp2_with fail
  refine (HK.out _).mono ?_
  rintro e w2 ⟨rfl, rfl⟩
  go_wp2_with fail
  have hp2 : (((((w1.setCell ⟨w.heap.size, 0, none⟩ (.int .i64 4)).setCell ⟨w.heap.size, 1, none⟩ (.string ⟨#[120]⟩)).setCell ⟨w.heap.size, 2, none⟩ (.int .i64 0)).setCell ⟨w.heap.size, 3, none⟩ (.bool false)).setCell ⟨w.heap.size, 4, none⟩ (.slice none 0 0)).heap[w.heap.size]? = some (.cells #[.int .i64 4, .string ⟨#[120]⟩, .int .i64 0, .bool false, .slice none 0 0] 66 (0, 0)) :=
    heap_setCell_same _ _ _ _ _ _ (heap_setCell_same _ _ _ _ _ _ (heap_setCell_same _ _ _ _ _ _ (heap_setCell_same _ _ _ _ _ _ (heap_setCell_same _ _ _ _ _ _ hp1))))
  have far : ∀ k, k ≠ w.heap.size → (((((w1.setCell ⟨w.heap.size, 0, none⟩ (.int .i64 4)).setCell ⟨w.heap.size, 1, none⟩ (.string ⟨#[120]⟩)).setCell ⟨w.heap.size, 2, none⟩ (.int .i64 0)).setCell ⟨w.heap.size, 3, none⟩ (.bool false)).setCell ⟨w.heap.size, 4, none⟩ (.slice none 0 0)).heap[k]? = w1.heap[k]? := fun k hk => by
    rw [Below.heap_setCell _ _ _ _ (by simpa using hk), Below.heap_setCell _ _ _ _ (by simpa using hk), Below.heap_setCell _ _ _ _ (by simpa using hk), Below.heap_setCell _ _ _ _ (by simpa using hk), Below.heap_setCell _ _ _ _ (by simpa using hk)]
  refine bodyPost_ret (v := .agg #[.int .i64 4, .string ⟨#[120]⟩, .int .i64 0, .bool false, .slice none 0 0]) ?_ rfl ⟨rfl, (far _ (by omega)).trans g1, ⟨((((((((Below.refl 0 w).alloc (Nat.zero_le _) _).trans g2.rel).setCell (p := ⟨w.heap.size, 0, none⟩) (Nat.zero_le _) _).setCell (p := ⟨w.heap.size, 1, none⟩) (Nat.zero_le _) _).setCell (p := ⟨w.heap.size, 2, none⟩) (Nat.zero_le _) _).setCell (p := ⟨w.heap.size, 3, none⟩) (Nat.zero_le _) _).setCell (p := ⟨w.heap.size, 4, none⟩) (Nat.zero_le _) _), fun k hk hne => (far _ (by omega)).trans ((g2.same k (by simp; omega) hne).trans (Below.heap_alloc _ _ _ hk))⟩⟩
  rw [results_cell_row (P := Tryz.prog) (fn := Tryz.f176) (p := 2) (ty := 66) rfl _ _ w.heap.size 66 _ _ _ rfl hp2 Tryz.underlying66 rfl (by kernel_rfl)]
end Go.Proofs.YtlenmkcafoiefabGreatDoor
