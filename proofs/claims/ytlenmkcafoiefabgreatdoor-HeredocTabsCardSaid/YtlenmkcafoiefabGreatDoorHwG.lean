/- words: Here of the example. -/
import Derived.Test.YtlenmkcafoiefabGreatDoorHwF
import Derived.Recover
import Derived.Defers
namespace Go.Proofs.YtlenmkcafoiefabGreatDoor
open Go.RowKit
set_option linter.unusedVariables false

set_option maxHeartbeats 16000000 in
set_option maxRecDepth 100000 in
theorem parts_doc (P : Nat) (w : World) (hP : w.heap[P]? = some (psrO docS 0)) :
    Calls Tryz.prog 107 #[.pointer (some ⟨P, 0, none⟩), plcV] w fun e w' => (∃ A c, e = .returned (.slice A 2 c)) ∧ Below 0 w w' ∧ ∀ k, k < w.heap.size → k ≠ P → w'.heap[k]? = w.heap[k]? := by
  have hltP := (Array.getElem?_eq_some_iff.1 hP).1
  have hP0 := (Below.heap_alloc w plcO P hltP).trans hP
  have hB0 := heap_alloc_new w plcO
  have HQ := Lib.hid (quoted_doc P (w.alloc plcO) hP0)
  have hplc : plcV = .agg #[.int .i64 3, .bool false, .int .i64 1] := rfl
  obtain ⟨p0, p1, p2⟩ := plc_cells hB0
  rw [hplc] at HQ ⊢
  unfold plcO at *
  clear hplc
  go_enter Tryz.func107, Tryz.ntmps107
  go_wp2_with fail
  refine HQ.out.mono ?_
  rintro e w1 ⟨⟨A, c, rfl⟩, g1, g2⟩
  go_wp2_with fail
  go_ret
  refine ⟨⟨A, c, rfl⟩, ((Below.refl 0 w).alloc (Nat.zero_le _) _).trans g1, fun k hk hne => ?_⟩
  rw [g2 k (by simp; omega) hne, Below.heap_alloc _ _ _ hk]
theorem as_none (W : World) : (Instr.typeAssert .nilIface 20 130 true).run Tryz.prog W = .ok (.tuple #[.agg #[.int .i64 0, .int .i64 0], .bool false]) W := by kernel_rfl
theorem idleP (p q : Addr) (w : World) :
    CallsD Tryz.prog 106 #[.pointer (some p), .pointer (some q)] .returning w fun e' u' w' =>
      e' = .returned (.tuple #[]) ∧ u' = .returning ∧ w' = w.alloc (.cells #[.int .i64 0, .int .i64 0] 130) := by
  refine callsD_of_wpS Tryz.func106 rfl fun c₀ cs hu => ?_
  apply wpS_seq
  apply wpS_region
  simp [wpOpsS, go_sem, recoverD, hu, Tryz.ntmps106, as_none]
  simp only [Exit.thenS]
  apply wpS_seq
  apply wpS_region
  simp [wpOpsS, go_sem]
  simp only [Exit.thenS]
  refine wpS_cond (t := false) (by simp [go_sem]) ?_
  refine wpS_of_wp ?_
  go_wp2_with fail
  simp [bodyPostS, results, Tryz.results106, go_sem]
  cases c₀
  simp_all
set_option maxHeartbeats 16000000 in
set_option maxRecDepth 100000 in
theorem parse_doc (w : World) :
    Calls Tryz.prog 85 #[.string docS, .int .i64 3] w fun e w' => (∃ A c, e = .returned (.tuple #[.slice A 2 c, .int .i64 0, .int .i64 0])) ∧ Below w.heap.size w w' := by
  have hmf : ∀ (fn : Fn) (first cap : Array Value) (w : World), (Instr.makeFunc fn first cap).run Tryz.prog w = .ok (.func fn first cap) w := fun _ _ _ _ => rfl
  have d1 : decide ((16384 : Int) < (docS.size : Int)) = false := by decide
  have d1' : decide (16384 < docS.size) = false := by decide
  obtain ⟨W0, hW0⟩ : ∃ W0 : World, W0 = ((w.alloc (.cells #[.int .i64 0] 3)).alloc (.cells #[.int .i64 0] 23)).alloc (.cells #[.string docS, .int .i64 0] 133) := ⟨_, rfl⟩
  have n1 := heap_alloc_new w (.cells #[.int .i64 0] 3)
  have n2 := heap_alloc_new (w.alloc (.cells #[.int .i64 0] 3)) (.cells #[.int .i64 0] 23)
  have n3 := heap_alloc_new ((w.alloc (.cells #[.int .i64 0] 3)).alloc (.cells #[.int .i64 0] 23)) (.cells #[.string docS, .int .i64 0] 133)
  simp only [World.size_alloc] at n2 n3
  have q1 : W0.heap[w.heap.size]? = some (.cells #[.int .i64 0] 3 (0, 0)) := by rw [hW0, Below.heap_alloc _ _ _ (by simp <;> omega), Below.heap_alloc _ _ _ (by simp)]; exact n1
  have q2 : W0.heap[w.heap.size + 1]? = some (.cells #[.int .i64 0] 23 (0, 0)) := by rw [hW0, Below.heap_alloc _ _ _ (by simp)]; exact n2
  have q3 : W0.heap[w.heap.size + 1 + 1]? = some (psrO docS 0) := by rw [hW0]; exact n3
  have hb : Below w.heap.size w W0 := by rw [hW0]; exact (((Below.refl _ w).alloc (Nat.le_refl _) _).alloc (by simp) _).alloc (by simp <;> omega) _
  have hsz : W0.heap.size = w.heap.size + 3 := by rw [hW0]; simp
  have HQ := Lib.hid (parts_doc (w.heap.size + 1 + 1) W0 q3)
  have hplc : plcV = .agg #[.int .i64 3, .bool false, .int .i64 1] := rfl
  rw [hplc] at HQ
  clear hplc n1 n2 n3
  rw [hW0] at HQ
  go_enter_defers Tryz.func85, Tryz.ntmps85
  go_wp2_with fail
  refine HQ.out.mono ?_
  rw [← hW0]
  rintro e w1 ⟨⟨A, c, rfl⟩, g1, g2⟩
  have r1 := (g2 _ (by omega) (by omega)).trans q1
  have r2 := (g2 _ (by omega) (by omega)).trans q2
  have hb1 : Below w.heap.size w w1 := ⟨(hb.mono (Nat.zero_le _)|>.trans g1).os, (hb.mono (Nat.zero_le _)|>.trans g1).tape, (hb.mono (Nat.zero_le _)|>.trans g1).output, (hb.mono (Nat.zero_le _)|>.trans g1).size, fun k hk => (g2 k (by omega) (by omega)).trans (hb.block k hk)⟩
  have c1 : w1.cell? ⟨w.heap.size, 0, none⟩ = some (.int .i64 0) := by rw [Lib.cell_of_heap r1]; rfl
  have f1 := Lib.frozen_of_heap r1 0
  have c2 : w1.cell? ⟨w.heap.size + 1, 0, none⟩ = some (.int .i64 0) := by rw [Lib.cell_of_heap r2]; rfl
  have f2 := Lib.frozen_of_heap r2 0
  have b1 := one_setCell (u := .int .i64 0) r1
  have b2 : (w1.setCell ⟨w.heap.size, 0, none⟩ (.int .i64 0)).heap[w.heap.size + 1]? = some (.cells #[.int .i64 0] 23 (0, 0)) := (Below.heap_setCell _ _ _ _ (by simp)).trans r2
  have b3 := one_setCell (u := .int .i64 0) b2
  have b4 : ((w1.setCell ⟨w.heap.size, 0, none⟩ (.int .i64 0)).setCell ⟨w.heap.size + 1, 0, none⟩ (.int .i64 0)).heap[w.heap.size]? = some (.cells #[.int .i64 0] 3 (0, 0)) := (Below.heap_setCell _ _ _ _ (by simp)).trans b1
  have hb2 := (hb1.setCell (p := ⟨w.heap.size, 0, none⟩) (Nat.le_refl _) (.int .i64 0)).setCell (p := ⟨w.heap.size + 1, 0, none⟩) (by simp) (.int .i64 0)
  go_wp2_with fail
  refine leaves_cons (f := 106) (args := #[.pointer (some ⟨w.heap.size, 0, none⟩), .pointer (some ⟨w.heap.size + 1, 0, none⟩)]) (by simp) (by simp [go_sem]) ?_
  refine (idleP ⟨w.heap.size, 0, none⟩ ⟨w.heap.size + 1, 0, none⟩ _).mono ?_
  rintro e u' w2 ⟨rfl, rfl, rfl⟩
  have hlt1 := (Array.getElem?_eq_some_iff.1 b3).1
  have hlt0 := (Array.getElem?_eq_some_iff.1 b4).1
  have z1 : (((w1.setCell ⟨w.heap.size, 0, none⟩ (.int .i64 0)).setCell ⟨w.heap.size + 1, 0, none⟩ (.int .i64 0)).alloc (.cells #[.int .i64 0, .int .i64 0] 130)).cell? ⟨w.heap.size, 0, none⟩ = some (.int .i64 0) := by rw [Lib.cell_of_heap ((Below.heap_alloc _ _ _ hlt0).trans b4)]; rfl
  have z2 : (((w1.setCell ⟨w.heap.size, 0, none⟩ (.int .i64 0)).setCell ⟨w.heap.size + 1, 0, none⟩ (.int .i64 0)).alloc (.cells #[.int .i64 0, .int .i64 0] 130)).cell? ⟨w.heap.size + 1, 0, none⟩ = some (.int .i64 0) := by rw [Lib.cell_of_heap ((Below.heap_alloc _ _ _ hlt1).trans b3)]; rfl
  have hb3 := hb2.alloc hb2.size (.cells #[.int .i64 0, .int .i64 0] 130)
  simp [Leaves, settle, results, Tryz.results85, go_sem, z1, z2]
  exact hb3
set_option maxHeartbeats 4000000 in
set_option maxRecDepth 100000 in
theorem here_doc (w : World) :
    Calls Tryz.prog 60 #[.string docS] w fun e w' => (∃ A c, e = .returned (.tuple #[.slice A 2 c, .int .i64 0, .int .i64 0])) ∧ Below w.heap.size w w' := by
  have H := Lib.hid (parse_doc w)
  go_enter Tryz.func60, Tryz.ntmps60
  go_wp2_with fail
  refine H.out.mono ?_
  rintro e w1 ⟨⟨A, c, rfl⟩, m1⟩
  go_wp2_with fail
  go_ret3
  exact ⟨⟨A, c, rfl⟩, m1⟩
end Go.Proofs.YtlenmkcafoiefabGreatDoor
