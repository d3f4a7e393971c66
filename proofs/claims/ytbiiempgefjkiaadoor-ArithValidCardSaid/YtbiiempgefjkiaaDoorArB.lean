/- arith: the builder within a writer. -/
import Derived.Test.YtbiiempgefjkiaaDoorBld
import Derived.Lib.UnsafeStr
import Derived.Lib.AppendStr
import Derived.Lib.OthersKept
import Derived.BigQuiet
import Derived.WalkSmall
import Derived.Lib.Hide
import Derived.Test.YtbiiempgefjkiaaDoorArG
namespace Go.Proofs.YtbiiempgefjkiaaDoor.Ar
open Go.RowKit
set_option linter.unusedVariables false

/-- The cells of an examination in the block X. -/
def WrC (X : Nat) (p0 buf : Value) (w : World) : Prop := w.heap[X]? = some (.cells #[p0, buf] 47 (0, 0))
theorem wrInfoB : (Tryd.prog.info? 45).map (·.size) = some 2 := by kernel_rfl
theorem wrLies : liesAt Tryd.prog Tryd.prog.depth 47 (2 / Tryd.prog.cellsOf 47) 0 45 1 = true := by kernel_rfl
set_option maxHeartbeats 1000000 in
set_option maxRecDepth 100000 in
theorem copyCheckE_fresh (b : Nat) (w : World) (h0 : w.cell? ⟨b, 0, none⟩ = some (.pointer none)) (hsh : w.shape? b = some (47, 2)) (hfz : w.frozen? ⟨b, 0, none⟩ = false) :
    Calls Tryd.prog 54 #[.pointer (some ⟨b, 0, none⟩)] w fun e w' => e = .returned (.tuple #[]) ∧ w' = w.setCell ⟨b, 0, none⟩ (.pointer (some ⟨b, 0, none⟩)) := by
  obtain ⟨j, hj, hjs⟩ := Option.map_eq_some_iff.1 wrInfoB
  go_enter Tryd.func54, Tryd.ntmps54
  go_wp2
  rw [Lib.run_to_unsafe w ⟨b, 0, none⟩ Tryd.underlying42 Tryd.underlying94 hj (by rw [hjs]; decide) hsh (show 0 < 2 by decide)]
  simp only [Result.andThen]
  rw [Oper.upon_value]
  go_wp2
  rw [run_callFunc_extern Tryd.func69 (by kernel_rfl) (by kernel_rfl) (by kernel_rfl) (e := Extern.AbiNoEscape.same) (by kernel_rfl)]
  rw [Lib.run_noEscape]
  simp only [Result.andThen]
  rw [Oper.upon_value]
  go_wp2
  rw [Lib.run_from_unsafe w ⟨b, 0, none⟩ Tryd.underlying94 Tryd.underlying42 hj hsh wrLies]
  simp only [Result.andThen]
  rw [Oper.upon_value]
  go_wp2
  go_end0
  exact ⟨rfl, rfl⟩
theorem row_ne {w : World} {B n size X : Nat} {e T : TypeId} {v : Value} {xs : List Value} {cs : Array Value} {fr : Nat × Nat} (h : w.ownsRow B e size v n xs) (hX : w.heap[X]? = some (.cells cs T fr)) (hne : T ≠ e) : v.ownBlock ≠ some X := by
  intro h2
  rcases h.2 with ⟨rfl, _⟩ | ⟨g, cap, cur, rfl, hg, hh, _⟩
  · cases h2
  · injection h2 with h2
    have h2 : g = X := h2
    subst h2
    rw [hX] at hh
    injection hh with hh
    injection hh with _ hh _
    exact hne hh
theorem row_keep {w w' : World} {B n size : Nat} {e : TypeId} {v : Value} {xs : List Value} (h : w.ownsRow B e size v n xs) (hk : ∀ g, v.ownBlock = some g → w'.heap[g]? = w.heap[g]?) : w'.ownsRow B e size v n xs := by
  refine ⟨h.1, ?_⟩
  rcases h.2 with h0 | ⟨g, cap, cur, rfl, hg, hh, r⟩
  · exact .inl h0
  · exact .inr ⟨g, cap, cur, rfl, hg, (hk g rfl).trans hh, r⟩
theorem wrTy : (47 : TypeId) ≠ 5 := by decide
set_option maxHeartbeats 2000000 in
set_option maxRecDepth 100000 in
theorem writeE (B X : Nat) (p0 buf : Value) (bs : List Value) (s : ByteArray) (w : World) (hX : WrC X p0 buf w) (hp : p0 = .pointer none ∨ p0 = .pointer (some ⟨X, 0, none⟩)) (hr : w.ownsRow B 5 1 buf bs.length bs)
    (hlen : bs.length + s.size ≤ 140737488355328) (hB : B ≤ X) :
    Calls Tryd.prog 36 #[.pointer (some ⟨X, 0, none⟩), .string s] w fun e w' => ∃ v', e = .returned (.tuple #[.int .i64 s.size, .nilIface]) ∧ WrC X (.pointer (some ⟨X, 0, none⟩)) v' w' ∧ w'.ownsRow B 5 1 v' (bs ++ Lib.strCells s).length (bs ++ Lib.strCells s) ∧ Below B w w' ∧ Lib.OthersKept 5 (some X) w w' ∧ w.heap.size ≤ w'.heap.size := by
  obtain ⟨i0, hi, hz0, hz1, hz2⟩ := info_parts byteInfo
  have hXw : X < w.heap.size := by unfold WrC at hX; rw [Array.getElem?_eq_some_iff] at hX; exact hX.1
  have HC : Hid (Calls Tryd.prog 54 #[.pointer (some ⟨X, 0, none⟩)] w fun e w' => e = .returned (.tuple #[]) ∧ WrC X (.pointer (some ⟨X, 0, none⟩)) buf w' ∧ w'.ownsRow B 5 1 buf bs.length bs ∧ Below B w w' ∧ Lib.OthersKept 5 (some X) w w' ∧ w.heap.size ≤ w'.heap.size) := Lib.hid (by
    rcases hp with rfl | rfl
    · refine (copyCheckE_fresh X w (by rw [Lib.cell_of_heap hX]; rfl) (by unfold WrC at hX; simp [World.shape?, hX]) (Lib.frozen_of_heap hX 0)).mono ?_
      rintro e w' ⟨rfl, rfl⟩
      refine ⟨rfl, heap_setCell_same _ _ _ _ _ _ hX, row_keep hr (fun g hg => ?_), (Below.refl B w).setCell (p := ⟨X, 0, none⟩) hB _, (Lib.OthersKept.refl _ _ w).setCell ⟨X, 0, none⟩ rfl _, by simp⟩
      have hne := row_ne hr hX wrTy
      exact heap_setCell_other _ _ _ _ (fun e => hne (by rw [hg]; exact congrArg some e))
    · refine (copyCheck_used X w (by rw [Lib.cell_of_heap hX]; rfl)).mono ?_
      rintro e w' ⟨rfl, rfl⟩
      exact ⟨rfl, hX, hr, Below.refl _ _, Lib.OthersKept.refl _ _ _, Nat.le_refl _⟩)
  clear hp hr hX
  go_enter Tryd.func36, Tryd.ntmps36
  go_wp2_with fail
  refine HC.out.mono ?_
  rintro e w1 ⟨rfl, hX1, hown, hb1, hk1, hs1⟩
  have c0 : w1.cell? ⟨X, 0, none⟩ = some (.pointer (some ⟨X, 0, none⟩)) := by rw [Lib.cell_of_heap hX1]; rfl
  have c1 : w1.cell? ⟨X, 1, none⟩ = some buf := by rw [Lib.cell_of_heap hX1]; rfl
  have hne := row_ne hown hX1 wrTy
  have hsz := hb1.size
  go_wp2_with (at_builtin; refine Lib.wpList_append_own_string _ rfl _ _ 43 9 rfl B 5 i0 Tryd.underlying43 Tryd.underlying9 hi hz0 hz1 hz2 _ _ _ rfl hown s rfl ?c3 ?c4 ?c5 ?_)
  case c3 => unfold maxLen; omega
  case c4 => omega
  case c5 => omega
  intro v' w2 hown' hgrow _
  have hX2 : WrC X (.pointer (some ⟨X, 0, none⟩)) buf w2 := (hgrow.block X (by omega) (fun e => hne e.symm)).trans hX1
  have d0 : w2.cell? ⟨X, 0, none⟩ = some (.pointer (some ⟨X, 0, none⟩)) := by rw [Lib.cell_of_heap hX2]; rfl
  have d1 : w2.cell? ⟨X, 1, none⟩ = some buf := by rw [Lib.cell_of_heap hX2]; rfl
  have f1 : w2.frozen? ⟨X, 1, none⟩ = false := Lib.frozen_of_heap hX2 1
  have hb2 : Below B w w2 := hb1.grown hgrow (by omega) (fun q hq => (hown.lt q hq).1)
  have hk2 : Lib.OthersKept 5 (some X) w w2 := fun k o hk hkX ho => by
    have h1 := hk1 k o hk hkX ho
    have hkl : k < w1.heap.size := by rw [Array.getElem?_eq_some_iff] at h1; exact h1.1
    rw [hgrow.block k hkl (fun e => ?_)]
    · exact h1
    · rcases hown.2 with ⟨rfl, _⟩ | ⟨g, cap, cur, rfl, hg, hh, _⟩
      · cases e
      · have e : some k = some g := e
        injection e with e
        subst e
        rw [h1] at hh
        injection hh with hh
        exact ho _ _ hh
  have hlen2 : (bs ++ Lib.strCells s).length = bs.length + s.size := by rw [List.length_append, Lib.strCells_length]
  have hfin : WrC X (.pointer (some ⟨X, 0, none⟩)) v' (w2.setCell ⟨X, 1, none⟩ v') ∧ (w2.setCell ⟨X, 1, none⟩ v').ownsRow B 5 1 v' (bs ++ Lib.strCells s).length (bs ++ Lib.strCells s) ∧ Below B w (w2.setCell ⟨X, 1, none⟩ v') ∧ Lib.OthersKept 5 (some X) w (w2.setCell ⟨X, 1, none⟩ v') ∧ w.heap.size ≤ (w2.setCell ⟨X, 1, none⟩ v').heap.size := by
    refine ⟨heap_setCell_same _ _ _ _ _ _ hX2, ?_, hb2.setCell (p := ⟨X, 1, none⟩) hB _, hk2.setCell ⟨X, 1, none⟩ rfl _, by have := hgrow.size; simp; omega⟩
    rw [hlen2]
    have hne' := row_ne hown' hX2 wrTy
    exact row_keep hown' (fun g hg => heap_setCell_other _ _ _ _ (fun e => hne' (by rw [hg]; exact congrArg some e)))
  obtain ⟨ao, n', cap, rfl⟩ : ∃ ao n' cap, v' = .slice ao n' cap := by
    rcases hown'.2 with ⟨hv, _⟩ | ⟨g, cap, cur, hv, _⟩
    · exact ⟨_, _, _, hv⟩
    · exact ⟨_, _, _, hv⟩
  have Hfin := Lib.hid hfin
  clear hfin hown' hgrow hk2 hb2 hX2 hX1 hown hne
  go_wp2_with fail
  go_ret2
  exact ⟨_, rfl, Hfin.out⟩
set_option maxHeartbeats 1000000 in
set_option maxRecDepth 100000 in
theorem lenE (B X : Nat) (p0 buf : Value) (bs : List Value) (w : World) (hX : WrC X p0 buf w) (hr : w.ownsRow B 5 1 buf bs.length bs) :
    Calls Tryd.prog 23 #[.pointer (some ⟨X, 0, none⟩)] w fun e w' => e = .returned (.int .i64 bs.length) ∧ w = w' := by
  have c1 : w.cell? ⟨X, 1, none⟩ = some buf := by rw [Lib.cell_of_heap hX]; rfl
  obtain ⟨ao, cap, rfl⟩ : ∃ ao cap, buf = .slice ao bs.length cap := by
    rcases hr.2 with ⟨hv, h0⟩ | ⟨g, cap, cur, hv, _⟩
    · exact ⟨none, 0, by rw [hv, h0]⟩
    · exact ⟨_, _, hv⟩
  go_enter Tryd.func23, Tryd.ntmps23
  go_wp2_with fail
  go_ret
  exact ⟨rfl, rfl⟩
theorem byteCellsN : Tryd.prog.cellsOf 5 = 1 := by kernel_rfl
set_option maxHeartbeats 2000000 in
set_option maxRecDepth 100000 in
theorem strE (B X : Nat) (p0 buf : Value) (l : List UInt8) (w : World) (hX : WrC X p0 buf w) (hown : w.ownsRow B 5 1 buf l.length (Lib.byteCells l)) (h0 : l ≠ []) :
    Calls Tryd.prog 24 #[.pointer (some ⟨X, 0, none⟩)] w fun e w' => e = .returned (.string ⟨l.toArray⟩) ∧ Below B w w' := by
  have hl0 : l.length ≠ 0 := by simpa using h0
  obtain ⟨g, cap, cur, rfl, hbg, hg, hnc, hcm, hcs, htake⟩ : ∃ g cap cur, buf = .slice (some ⟨g, 0, none⟩) l.length cap ∧ B ≤ g ∧ w.heap[g]? = some (.cells cur 5 (0, 0)) ∧ l.length ≤ cap ∧ cap ≤ maxLen ∧ cur.size = cap * 1 ∧ cur.toList.take (l.length * 1) = Lib.byteCells l := by
    rcases hown.2 with ⟨_, hz⟩ | ⟨g, cap, cur, hv, r⟩
    · exact absurd hz hl0
    · exact ⟨g, cap, cur, hv, r⟩
  have c1 : w.drew.cell? ⟨X, 1, none⟩ = some (.slice (some ⟨g, 0, none⟩) l.length cap) := by
    have : w.drew.heap[X]? = some (.cells #[p0, .slice (some ⟨g, 0, none⟩) l.length cap] 47 (0, 0)) := hX
    rw [Lib.cell_of_heap this]; rfl
  have hSD : (Builtin.unsafeSliceData_ #[43] 71 #[.slice (some ⟨g, 0, none⟩) l.length cap]).run Tryd.prog w.drew = .ok (.pointer (some ⟨g, 0, none⟩)) w.drew :=
    Lib.run_unsafeSliceData_row _ _ _ _ _ _ (by omega)
  have hUS : (Builtin.unsafeString_ #[71, 3] 9 #[.pointer (some ⟨g, 0, none⟩), .int .i64 l.length]).run Tryd.prog w.drew = .ok (.string ⟨l.toArray⟩) (w.drew.freeze ⟨g, 0, none⟩ l.length) := by
    refine Lib.run_unsafeString_row w.drew 71 3 9 5 Tryd.underlying71 byteCellsN g cur.size (by have hg' : w.drew.heap[g]? = some (.cells cur 5 (0, 0)) := hg; simp [World.shape?, hg']) l h0 (by omega) (by unfold maxLen at hcm; omega) ?_
    intro j x hx
    exact hown.cells (g := g) rfl j (.int .u8 x.toNat) (by simp [Lib.byteCells, hx])
  have mixed : Tryd.prog.follows .mixedOrders = true := by kernel_rfl
  have Hb := Lib.hid (Lib.below_freeze (Below.drew (Below.refl B w)) (p := ⟨g, 0, none⟩) hbg l.length)
  clear hown htake hcs hg hX
  go_enter Tryd.func24, Tryd.ntmps24
  go_wp2
  go_region_o
  all_goals (go_wp2; go_ret; exact ⟨rfl, Hb.out⟩)
end Go.Proofs.YtbiiempgefjkiaaDoor.Ar
