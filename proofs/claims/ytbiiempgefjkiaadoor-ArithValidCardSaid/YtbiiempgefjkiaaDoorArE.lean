/- arith: the table of the binary operators: binaryOf, binaryAt. -/
import Derived.Test.YtbiiempgefjkiaaDoorProg
import Derived.Test.YtbiiempgefjkiaaDoorArA
import Derived.BigCall
import Derived.Lib.Hide
import Derived.WalkLawsBesides
import Derived.WalkSmall
import Derived.Laws.Rows
namespace Go.Proofs.YtbiiempgefjkiaaDoor.Ar
open Go.RowKit
set_option linter.unusedVariables false

/-- An operator's cells, and its value. -/
def bnC (b : Bn) : List Value := [.string b.t, .int .i64 b.op, .int .i64 b.lv, .bool b.as]
def bnV (b : Bn) : Value := .agg #[.string b.t, .int .i64 b.op, .int .i64 b.lv, .bool b.as]
def tabA : Array Value := (binL.flatMap bnC).toArray
/-- The table in memory. -/
def Env (w : World) : Prop := ∃ t fr, w.heap[0]? = some (.cells tabA t fr)
theorem env_lt {w : World} (h : Env w) : 0 < w.heap.size := by
  obtain ⟨t, fr, h⟩ := h
  exact (Array.getElem?_eq_some_iff.1 h).1
theorem env_below {w w' : World} {B : Nat} (h : Env w) (hb : Below B w w') (hB : 0 < B) : Env w' := by
  obtain ⟨t, fr, h⟩ := h
  exact ⟨t, fr, (hb.block _ hB).trans h⟩
theorem env_next {w w' : World} (h : Env w) (hb : Below w.heap.size w w') : Env w' := env_below h hb (env_lt h)
theorem binL_len : binL.length = 18 := rfl
set_option maxRecDepth 100000 in
theorem tab_index (k : Nat) (hk : k < 18) (W : World) : (Instr.index 93 (.agg tabA) (.int .i64 (k : Int))).run Tryd.prog W = .ok (bnV (binL[k]'hk)) W := by
  have : k = 0 ∨ k = 1 ∨ k = 2 ∨ k = 3 ∨ k = 4 ∨ k = 5 ∨ k = 6 ∨ k = 7 ∨ k = 8 ∨ k = 9 ∨ k = 10 ∨ k = 11 ∨ k = 12 ∨ k = 13 ∨ k = 14 ∨ k = 15 ∨ k = 16 ∨ k = 17 := by omega
  rcases this with rfl | rfl | rfl | rfl | rfl | rfl | rfl | rfl | rfl | rfl | rfl | rfl | rfl | rfl | rfl | rfl | rfl | rfl <;> rfl
theorem find_drop {α : Type} (f : α → Bool) (l : List α) (k : Nat) (h : k < l.length) : (l.drop k).find? f = if f l[k] then some l[k] else (l.drop (k + 1)).find? f := by
  rw [List.drop_eq_getElem_cons h, List.find?_cons]
  cases f l[k] <;> rfl

def bn0O : Obj := .cells #[.string ⟨#[]⟩, .int .i64 0, .int .i64 0, .bool false] 82
set_option maxHeartbeats 2000000 in
set_option maxRecDepth 100000 in
theorem binaryOf_c (op : Int) (w : World) (hE : Env w) :
    Calls Tryd.prog 51 #[.int .i64 op] w fun e w' => e = .returned (.tuple #[bnV (binOf op).1, .bool (binOf op).2]) ∧ Below w.heap.size w w' := by
  have hR : Hid (findOp binL op = (binL.drop 0).find? fun b => ((b.op : Int) == op)) := Lib.hid rfl
  unfold binOf
  generalize findOp binL op = R at *
  obtain ⟨t0, fr0, hg⟩ := hE
  have hglt : 0 < w.heap.size := (Array.getElem?_eq_some_iff.1 hg).1
  have hg2 : ∀ o, (w.alloc o).heap[0]? = some (.cells tabA t0 fr0) := fun o => by rw [Below.heap_alloc _ _ _ hglt]; exact hg
  have HG := Lib.hid hg2
  clear hg hg2
  have m0 : Below w.heap.size w (w.alloc bn0O) := (Below.refl _ _).alloc (Nat.le_refl _) _
  have hn0 := heap_alloc_new w bn0O
  have hz0 : w.heap.size + 1 ≤ (w.alloc bn0O).heap.size := by simp
  go_enter Tryd.func51, Tryd.ntmps51
  go_wp2_with (refine wpList_load_row rfl 93 _ rfl 0 rfl t0 tabA fr0 _ (HG.out _) Tryd.underlying93 rfl (by kernel_rfl) ?_)
  have hw0 : w.alloc (.cells #[.string ⟨#[]⟩, .int .i64 0, .int .i64 0, .bool false] 82) = w.alloc bn0O := rfl
  rw [hw0]
  clear hw0
  generalize w.alloc bn0O = w0 at *
  go_loopw [7] (fun iv wr => ∃ k : Nat, iv = .int .i64 k ∧ k ≤ 18 ∧ Below (w.heap.size + 1) w0 wr ∧ Hid (R = (binL.drop k).find? fun b => ((b.op : Int) == op))) (fun iv _ => 18 - (intOf iv).toNat)
  case atStart => exact ⟨0, rfl, by omega, Below.refl _ _, hR⟩
  case round =>
    obtain ⟨k, rfl, hk, hb, hx⟩ := hrel
    have mr := m0.trans (hb.mono (Nat.le_succ _))
    have hwr : w.heap.size + 1 ≤ wr.heap.size := Nat.le_trans hz0 hb.size
    have hH : wr.heap[w.heap.size]? = some (.cells #[.string ⟨#[]⟩, .int .i64 0, .int .i64 0, .bool false] 82 (0, 0)) := (hb.block _ (by omega)).trans hn0
    by_cases h8 : k < 18
    · have i1 : (k : Int) < 18 := by omega
      have hix := tab_index k h8 wr
      have hxx := hx.out
      rw [find_drop _ _ _ h8] at hxx
      have Hxx := Lib.hid hxx
      generalize binL[k] = b at *
      have hb2 := hb.alloc hwr (.cells #[.string b.t, .int .i64 b.op, .int .i64 b.lv, .bool b.as] 82)
      clear hx hxx HG hR
      unfold bnV at hix
      by_cases hop : ((b.op : Int) == op) = true
      · have hR2 : R = some b := by rw [Hxx.out, if_pos hop]
        subst hR2
        have c0 : ∀ o, (wr.alloc o).cell? ⟨w.heap.size, 0, none⟩ = some (.string ⟨#[]⟩) := fun o => by rw [Lib.cell_of_heap (by rw [Below.heap_alloc _ _ _ (by omega)]; exact hH)]; rfl
        have c1 : ∀ o, (wr.alloc o).cell? ⟨w.heap.size, 1, none⟩ = some (.int .i64 0) := fun o => by rw [Lib.cell_of_heap (by rw [Below.heap_alloc _ _ _ (by omega)]; exact hH)]; rfl
        have c2 : ∀ o, (wr.alloc o).cell? ⟨w.heap.size, 2, none⟩ = some (.int .i64 0) := fun o => by rw [Lib.cell_of_heap (by rw [Below.heap_alloc _ _ _ (by omega)]; exact hH)]; rfl
        have c3 : ∀ o, (wr.alloc o).cell? ⟨w.heap.size, 3, none⟩ = some (.bool false) := fun o => by rw [Lib.cell_of_heap (by rw [Below.heap_alloc _ _ _ (by omega)]; exact hH)]; rfl
        have f0 : ∀ o j, (wr.alloc o).frozen? ⟨w.heap.size, j, none⟩ = false := fun o j => Lib.frozen_of_heap (by rw [Below.heap_alloc _ _ _ (by omega)]; exact hH) j
        have mz := fun v0 v1 v2 v3 => (((((m0.trans (hb2.mono (Nat.le_succ _))).setCell (p := ⟨w.heap.size, 0, none⟩) (Nat.le_refl _) v0).setCell (p := ⟨w.heap.size, 1, none⟩) (Nat.le_refl _) v1).setCell (p := ⟨w.heap.size, 2, none⟩) (Nat.le_refl _) v2).setCell (p := ⟨w.heap.size, 3, none⟩) (Nat.le_refl _) v3)
        have Hmz := Lib.hid mz
        clear mz hH Hxx hb hb2 mr
        go_wp2_with fail
        refine bodyPost_ret (v := .tuple #[bnV b, .bool true]) (by simp [results, Tryd.results51, go_sem, bnV, c0, c1, c2, c3]) rfl ⟨rfl, Hmz.out _ _ _ _⟩
      · have hop' : ((b.op : Int) == op) = false := by simpa using hop
        have hR2 : Hid (R = (binL.drop (k + 1)).find? fun b => ((b.op : Int) == op)) := Lib.hid (by rw [Hxx.out, if_neg hop])
        clear Hxx hop hH
        go_wp2_with fail
        go_roundw
        case rel => exact ⟨k + 1, by go_num, by omega, hb2, hR2⟩
        case measure => simp [intOf]; omega
    · obtain rfl : k = 18 := by omega
      have hR2 : R = none := hx.out
      subst hR2
      have c0 : wr.cell? ⟨w.heap.size, 0, none⟩ = some (.string ⟨#[]⟩) := by rw [Lib.cell_of_heap hH]; rfl
      have c1 : wr.cell? ⟨w.heap.size, 1, none⟩ = some (.int .i64 0) := by rw [Lib.cell_of_heap hH]; rfl
      have c2 : wr.cell? ⟨w.heap.size, 2, none⟩ = some (.int .i64 0) := by rw [Lib.cell_of_heap hH]; rfl
      have c3 : wr.cell? ⟨w.heap.size, 3, none⟩ = some (.bool false) := by rw [Lib.cell_of_heap hH]; rfl
      have f0 : ∀ j, wr.frozen? ⟨w.heap.size, j, none⟩ = false := fun j => Lib.frozen_of_heap hH j
      have mz := fun v0 v1 v2 v3 => ((((mr.setCell (p := ⟨w.heap.size, 0, none⟩) (Nat.le_refl _) v0).setCell (p := ⟨w.heap.size, 1, none⟩) (Nat.le_refl _) v1).setCell (p := ⟨w.heap.size, 2, none⟩) (Nat.le_refl _) v2).setCell (p := ⟨w.heap.size, 3, none⟩) (Nat.le_refl _) v3)
      have Hmz := Lib.hid mz
      clear mz hH hb mr hx h8 hk
      go_wp2_with fail
      refine bodyPost_ret (v := .tuple #[bnV bn0, .bool false]) (by simp [results, Tryd.results51, go_sem, bnV, bn0, c0, c1, c2, c3]) rfl ⟨rfl, Hmz.out _ _ _ _⟩
end Go.Proofs.YtbiiempgefjkiaaDoor.Ar
