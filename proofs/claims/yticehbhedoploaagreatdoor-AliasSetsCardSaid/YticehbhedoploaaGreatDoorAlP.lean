/- alias: a token is passed, where no here-document is. -/
import Derived.Test.YticehbhedoploaaGreatDoorAlU
import Derived.Laws.ResultCell
namespace Go.Proofs.YticehbhedoploaaGreatDoor
open Go.RowKit
set_option linter.unusedVariables false

def dlm0 : Value := .agg #[.string ⟨#[]⟩, .bool false, .bool false]
theorem del_res {tmps : Array Value} {w : World} (g : Nat) (E : Value) (hp : tmps.getD 4 undef = .pointer (some ⟨g, 0, none⟩)) (h5 : tmps.getD 5 undef = E)
    (hg : w.heap[g]? = some (.cells #[.string ⟨#[]⟩, .bool false, .bool false] 53)) : (results Tryz.f115 tmps).run Tryz.prog w = .ok (.tuple #[dlm0, E]) w := by
  rw [results_cell_tmp (p := 4) (u := 5) (ty := 53) rfl, hp, h5]
  have hl := run_loadVar_row (P := Tryz.prog) w g 53 53 _ _ _ hg Tryz.underlying53 rfl (by kernel_rfl)
  simp only [asAddr, Sem.run_pure, Result.andThen_ok]
  rw [hl]
  rfl
set_option maxHeartbeats 2000000 in
set_option maxRecDepth 100000 in
theorem delim0_c (X : Nat) (t : Tk) (w : World) (c7 : w.cell? ⟨X, 7, none⟩ = some (.string ⟨#[]⟩)) :
    Calls Tryz.prog 115 #[.pointer (some ⟨X, 0, none⟩), t.val] w fun e w' => e = .returned (.tuple #[dlm0, .bool false]) ∧ Below w.heap.size w w' := by
  have hXw := World.block_lt_of_cell? w _ c7
  have hX2 : X < w.heap.size := hXw
  obtain ⟨W1, hW1⟩ : ∃ W1, W1 = w.alloc (tokObj t) := ⟨_, rfl⟩
  obtain ⟨W2, hW2⟩ : ∃ W2, W2 = W1.alloc (.cells #[.string ⟨#[]⟩, .bool false, .bool false] 53) := ⟨_, rfl⟩
  have hs1 : W1.heap.size = w.heap.size + 1 := by rw [hW1, World.size_alloc]
  have hb1 : Below w.heap.size w W1 := by rw [hW1]; exact (Below.refl _ w).alloc (Nat.le_refl _) _
  have hb2 : Below w.heap.size w W2 := by rw [hW2]; exact hb1.alloc (by omega) _
  have hD2 : W2.heap[w.heap.size + 1]? = some (.cells #[.string ⟨#[]⟩, .bool false, .bool false] 53 (0, 0)) := by rw [hW2, ← hs1]; exact heap_alloc_new _ _
  have hD3 : (W2.setCell ⟨w.heap.size + 1, 0, none⟩ (.string ⟨#[]⟩)).heap[w.heap.size + 1]? = some (.cells #[.string ⟨#[]⟩, .bool false, .bool false] 53 (0, 0)) := heap_setCell_same _ _ _ _ _ _ hD2
  have hD4 : ((W2.setCell ⟨w.heap.size + 1, 0, none⟩ (.string ⟨#[]⟩)).setCell ⟨w.heap.size + 1, 1, none⟩ (.bool false)).heap[w.heap.size + 1]? = some (.cells #[.string ⟨#[]⟩, .bool false, .bool false] 53 (0, 0)) := heap_setCell_same _ _ _ _ _ _ hD3
  have hD5 : (((W2.setCell ⟨w.heap.size + 1, 0, none⟩ (.string ⟨#[]⟩)).setCell ⟨w.heap.size + 1, 1, none⟩ (.bool false)).setCell ⟨w.heap.size + 1, 2, none⟩ (.bool false)).heap[w.heap.size + 1]? = some (.cells #[.string ⟨#[]⟩, .bool false, .bool false] 53 (0, 0)) := heap_setCell_same _ _ _ _ _ _ hD4
  have hb5 : Below w.heap.size w (((W2.setCell ⟨w.heap.size + 1, 0, none⟩ (.string ⟨#[]⟩)).setCell ⟨w.heap.size + 1, 1, none⟩ (.bool false)).setCell ⟨w.heap.size + 1, 2, none⟩ (.bool false)) := ((hb2.setCell (p := ⟨w.heap.size + 1, 0, none⟩) (Nat.le_succ _) _).setCell (p := ⟨w.heap.size + 1, 1, none⟩) (Nat.le_succ _) _).setCell (p := ⟨w.heap.size + 1, 2, none⟩) (Nat.le_succ _) _
  have c7W : W2.cell? ⟨X, 7, none⟩ = some (.string ⟨#[]⟩) := (hb2.cell (p := ⟨X, 7, none⟩) hX2).trans c7
  have m0 : W2.cell? ⟨w.heap.size + 1, 0, none⟩ = some (.string ⟨#[]⟩) := by rw [Lib.cell_of_heap hD2]; rfl
  have m1 : W2.cell? ⟨w.heap.size + 1, 1, none⟩ = some (.bool false) := by rw [Lib.cell_of_heap hD2]; rfl
  have m2 : W2.cell? ⟨w.heap.size + 1, 2, none⟩ = some (.bool false) := by rw [Lib.cell_of_heap hD2]; rfl
  have n0 := Lib.frozen_of_heap hD2 0
  have n1 := Lib.frozen_of_heap hD2 1
  have n2 := Lib.frozen_of_heap hD2 2
  have hWe : (w.alloc (.cells #[.int .i64 t.kind, .int .i64 t.pos, .int .i64 t.fin, .string t.text] 118)).alloc (.cells #[.string ⟨#[]⟩, .bool false, .bool false] 53) = W2 := by rw [hW2, hW1]; rfl
  have Hfin := Lib.hid hD5
  have Hb5 := Lib.hid hb5
  have hle : (([] : List UInt8) == []) = true := rfl
  clear hD2 hD3 hD4 hD5 hb5 hW1 hW2 hs1 hb1 hb2 c7 hXw
  show Calls Tryz.prog 115 #[.pointer (some ⟨X, 0, none⟩), .agg #[.int .i64 t.kind, .int .i64 t.pos, .int .i64 t.fin, .string t.text]] w _
  go_enter Tryz.func115, Tryz.ntmps115
  go_wp2_with fail
  exact bodyPost_ret (del_res _ _ rfl rfl Hfin.out) rfl ⟨rfl, Hb5.out⟩
set_option maxHeartbeats 2000000 in
set_option maxRecDepth 100000 in
theorem skip0_c (X : Nat) (w : World) (c8 : w.cell? ⟨X, 8, none⟩ = some (.slice none 0 0)) (f8 : w.frozen? ⟨X, 8, none⟩ = false) :
    Calls Tryz.prog 116 #[.pointer (some ⟨X, 0, none⟩)] w fun e w' => e = .returned (.tuple #[]) ∧ w' = w.setCell ⟨X, 8, none⟩ (.slice none 0 0) := by
  go_enter Tryz.func116, Tryz.ntmps116
  go_wp2_with fail
  go_loopw [12] (fun iv wr => iv = .int .i64 0 ∧ wr = w) (fun _ _ => 0)
  case atStart => exact ⟨rfl, rfl⟩
  case round =>
    obtain ⟨rfl, rfl⟩ := hrel
    go_wp2_with fail
    go_end0
    exact ⟨rfl, rfl⟩
def passX (x : Ex) (t : Tk) : Ex := { advX x t.fin with cmd := sepB t.text || (x.cmd && intB t.text) }
theorem tok_at {W : World} {g : Nat} {t : Tk} (h : W.heap[g]? = some (tokObj t)) : W.cell? ⟨g, 0, none⟩ = some (.int .i64 t.kind) ∧ W.cell? ⟨g, 1, none⟩ = some (.int .i64 t.pos) ∧ W.cell? ⟨g, 2, none⟩ = some (.int .i64 t.fin) ∧ W.cell? ⟨g, 3, none⟩ = some (.string t.text) :=
  ⟨by rw [cell_of_row W _ 0 _ _ _ h]; rfl, by rw [cell_of_row W _ 1 _ _ _ h]; rfl, by rw [cell_of_row W _ 2 _ _ _ h]; rfl, by rw [cell_of_row W _ 3 _ _ _ h]; rfl⟩
theorem exAt_cells {B X h : Nat} {al : Value} {x : Ex} {W : World} (H : ExAt B X h al x W) : W.cell? ⟨X, 7, none⟩ = some (.string ⟨#[]⟩) ∧ W.frozen? ⟨X, 7, none⟩ = false ∧ W.cell? ⟨X, 8, none⟩ = some (.slice none 0 0) ∧ W.frozen? ⟨X, 8, none⟩ = false := by
  obtain ⟨q0, qb, qv, g1, _⟩ := H
  exact ⟨by rw [Lib.cell_of_heap g1]; rfl, Lib.frozen_of_heap g1 7, by rw [Lib.cell_of_heap g1]; rfl, Lib.frozen_of_heap g1 8⟩
theorem exAt_same7 {B X h : Nat} {al : Value} {x : Ex} {W : World} (H : ExAt B X h al x W) : ExAt B X h al x (W.setCell ⟨X, 7, none⟩ (.string ⟨#[]⟩)) := by
  obtain ⟨q0, qb, qv, g1, g2, g3, g4, g5, g6, g7⟩ := H
  exact exAt_put (x := x) g1 g2 g3 g4 g5 g6 g7 (heap_setCell_same _ _ _ _ _ _ g1) (set_only X 7 _ _)
theorem exAt_same8 {B X h : Nat} {al : Value} {x : Ex} {W : World} (H : ExAt B X h al x W) : ExAt B X h al x (W.setCell ⟨X, 8, none⟩ (.slice none 0 0)) := by
  obtain ⟨q0, qb, qv, g1, g2, g3, g4, g5, g6, g7⟩ := H
  exact exAt_put (x := x) g1 g2 g3 g4 g5 g6 g7 (heap_setCell_same _ _ _ _ _ _ g1) (set_only X 8 _ _)
set_option maxHeartbeats 4000000 in
set_option maxRecDepth 100000 in
theorem pass_c (B X h : Nat) (al : Value) (x : Ex) (t : Tk) (w : World) (H : ExAt B X h al x w) (hs : x.done.length + x.rest.size ≤ 1000000000) (hf : t.fin ≤ x.rest.size) (hB : B ≤ w.heap.size) (hn1 : t.text.toList ≠ [60, 60]) (hn2 : t.text.toList ≠ [60, 60, 45]) :
    Calls Tryz.prog 77 #[.pointer (some ⟨X, 0, none⟩), t.val] w fun e w' => e = .returned (.tuple #[]) ∧ ExAt B X h al (passX x t) w' ∧ Below B w w' := by
  obtain ⟨W, hW⟩ : ∃ W, W = w.alloc (tokObj t) := ⟨_, rfl⟩
  have hbW : Below w.heap.size w W := by rw [hW]; exact (Below.refl _ w).alloc (Nat.le_refl _) _
  have HW : ExAt B X h al x W := exAt_keep H (fun k hk => hbW.block k hk)
  have htW : W.heap[w.heap.size]? = some (tokObj t) := by rw [hW]; exact heap_alloc_new _ _
  have h6 : B ≤ X := by obtain ⟨_, _, _, _, _, _, _, _, g6, _⟩ := H; exact g6
  have hTX : w.heap.size ≠ X := by
    obtain ⟨_, _, _, g1, _⟩ := H
    unfold ExC at g1
    rw [Array.getElem?_eq_some_iff] at g1
    have := g1.1
    omega
  have HAdv := Lib.hid (advance_c B X h t.fin al x W HW hs hf)
  obtain ⟨k0, k1, k2, k3⟩ := tok_at htW
  have hWe : w.alloc (.cells #[.int .i64 t.kind, .int .i64 t.pos, .int .i64 t.fin, .string t.text] 118) = W := hW.symm
  have HtW := Lib.hid htW
  have HbW := Lib.hid hbW
  have e1 : (t.text.toList == [60, 60]) = false := by rw [beq_eq_false_iff_ne]; exact hn1
  have e2 : (t.text.toList == [60, 60, 45]) = false := by rw [beq_eq_false_iff_ne]; exact hn2
  obtain ⟨y, hy⟩ : ∃ y, y = passX x t := ⟨_, rfl⟩
  rw [← hy]
  unfold passX at hy
  have hcx : (advX x t.fin).cmd = x.cmd := rfl
  have HSep := Lib.hid (fun U => separates_c t U)
  have HInt := Lib.hid (fun U => introduces_c t U)
  clear H HW hW htW hbW
  show Calls Tryz.prog 77 #[.pointer (some ⟨X, 0, none⟩), .agg #[.int .i64 t.kind, .int .i64 t.pos, .int .i64 t.fin, .string t.text]] w _
  have HSep' : Hid (∀ U, Calls Tryz.prog 113 #[.agg #[.int .i64 t.kind, .int .i64 t.pos, .int .i64 t.fin, .string t.text]] U fun e w' => e = .returned (.bool (sepB t.text)) ∧ Below U.heap.size U w') := HSep
  have HInt' : Hid (∀ U, Calls Tryz.prog 114 #[.agg #[.int .i64 t.kind, .int .i64 t.pos, .int .i64 t.fin, .string t.text]] U fun e w' => e = .returned (.bool (intB t.text)) ∧ Below U.heap.size U w') := HInt
  clear HSep HInt
  generalize sepB t.text = sp at *
  generalize intB t.text = it at *
  obtain ⟨cm, hcm⟩ : ∃ cm, cm = x.cmd := ⟨_, rfl⟩
  rw [← hcm] at hy hcx
  have HY := Lib.hid hy
  have HCX := Lib.hid hcx
  clear hy hcx hcm
  rcases sp with _ | _
  · rcases cm with _ | _
    · go_enter Tryz.func77, Tryz.ntmps77
      go_wp2_with fail
      refine HAdv.out.mono ?_
      rintro e w2 ⟨rfl, hE2, hb2, hk2⟩
      have hT2 : w2.heap[w.heap.size]? = some (tokObj t) := hk2 _ _ HtW.out (fun e => hTX (by injection e)) (fun c fz e => by unfold tokObj at e; injection e with _ e _; exact absurd e (by decide))
      have hbW2 : Below B w w2 := (HbW.out.mono hB).trans hb2
      obtain ⟨a0, a1, a2, a3⟩ := tok_at hT2
      have hT2l : w.heap.size < w2.heap.size := by rw [Array.getElem?_eq_some_iff] at hT2; exact hT2.1
      have HE2 := Lib.hid hE2
      have HT2 := Lib.hid hT2
      clear hE2 hT2 hk2 hb2 HAdv k0 k1 k2 k3 hWe
      go_wp2_with fail
      refine (HSep'.out w2).mono ?_
      rintro e w3 ⟨rfl, hb3⟩
      have hE3 : ExAt B X h al (advX x t.fin) w3 := exAt_keep HE2.out (fun k hk => hb3.block k hk)
      have hT3 : w3.heap[w.heap.size]? = some (tokObj t) := (hb3.block _ hT2l).trans HT2.out
      have hbw3 : Below B w w3 := hbW2.trans (hb3.mono (by omega))
      have cc6 : w3.cell? ⟨X, 6, none⟩ = some (.bool false) := by
        obtain ⟨_, _, _, g1, _⟩ := hE3
        rw [Lib.cell_of_heap g1, ← HCX.out]; rfl
      have ff6 : w3.frozen? ⟨X, 6, none⟩ = false := by
        obtain ⟨_, _, _, g1, _⟩ := hE3
        exact Lib.frozen_of_heap g1 6
      clear a0 a1 a2 a3 HE2 HT2 hb3 hbW2
      obtain ⟨a0, a1, a2, a3⟩ := tok_at hT3
      have HE3 := Lib.hid hE3
      have HT3 := Lib.hid hT3
      have hT3l : w.heap.size < w3.heap.size := by rw [Array.getElem?_eq_some_iff] at hT3; exact hT3.1
      clear hE3 hT3
      go_wp2_with fail
      obtain ⟨V6, hV6⟩ : ∃ V6, V6 = w3.setCell ⟨X, 6, none⟩ (.bool false) := ⟨_, rfl⟩
      have hE5 := HE3.out
      have hT5 := HT3.out
      have hb5 := hbw3
      have hE6 : ExAt B X h al y V6 := by
        obtain ⟨q0, qb, qv, g1, g2, g3, g4, g5, g6, g7⟩ := hE5
        rw [hV6, HY.out]
        exact exAt_put (x := advX x t.fin) g1 g2 g3 g4 g5 g6 g7 (heap_setCell_same _ _ _ _ _ _ g1) (set_only X 6 _ _)
      have hT6 : V6.heap[w.heap.size]? = some (tokObj t) := by rw [hV6]; exact (set_only X 6 _ _ _ hTX).trans hT5
      have hb6 : Below B w V6 := by rw [hV6]; exact hb5.setCell (p := ⟨X, 6, none⟩) h6 _
      rw [← hV6]
      obtain ⟨c7, f7, c8, f8⟩ := exAt_cells hE6
      have hD := delim0_c X t V6 c7
      unfold dlm0 at hD
      have HD := Lib.hid hD
      clear hD
      have HE6 := Lib.hid hE6
      have hT6l : w.heap.size < V6.heap.size := by rw [Array.getElem?_eq_some_iff] at hT6; exact hT6.1
      have HT6 := Lib.hid hT6
      clear hE5 hE6 hT5 hT6 hV6 hb5 c7 f7 c8 f8
      refine HD.out.mono ?_
      rintro e w7 ⟨rfl, hb7⟩
      have hE8 : ExAt B X h al y (w7.alloc (.cells #[.string ⟨#[]⟩, .bool false, .bool false] 53)) := exAt_keep HE6.out (fun k hk => (Below.heap_alloc _ _ _ (by have := hb7.size; omega)).trans (hb7.block k hk))
      have hT8 : (w7.alloc (.cells #[.string ⟨#[]⟩, .bool false, .bool false] 53)).heap[w.heap.size]? = some (tokObj t) := (Below.heap_alloc _ _ _ (by have := hb7.size; omega)).trans ((hb7.block _ hT6l).trans HT6.out)
      have hB6 : B ≤ V6.heap.size := by omega
      have hb8 : Below B w (w7.alloc (.cells #[.string ⟨#[]⟩, .bool false, .bool false] 53)) := (hb6.trans (hb7.mono hB6)).alloc (by have := hb7.size; omega) _
      obtain ⟨c7, f7, c8, f8⟩ := exAt_cells hE8
      have hE9 := exAt_same7 hE8
      have hb9 := hb8.setCell (p := ⟨X, 7, none⟩) h6 (.string ⟨#[]⟩)
      have hT9 : ((w7.alloc (.cells #[.string ⟨#[]⟩, .bool false, .bool false] 53)).setCell ⟨X, 7, none⟩ (.string ⟨#[]⟩)).heap[w.heap.size]? = some (tokObj t) := (set_only X 7 _ _ _ hTX).trans hT8
      obtain ⟨W9, hW9⟩ : ∃ W9, W9 = (w7.alloc (.cells #[.string ⟨#[]⟩, .bool false, .bool false] 53)).setCell ⟨X, 7, none⟩ (.string ⟨#[]⟩) := ⟨_, rfl⟩
      rw [← hW9] at hE9 hb9 hT9
      obtain ⟨z0, _, _, z3⟩ := tok_at hT9
      obtain ⟨_, _, c89, f89⟩ := exAt_cells hE9
      have hE10 := exAt_same8 hE9
      have hb10 := hb9.setCell (p := ⟨X, 8, none⟩) h6 (.slice none 0 0)
      have HE9 := Lib.hid hE9
      have HE10 := Lib.hid hE10
      have HS := Lib.hid (skip0_c X W9 c89 f89)
      have hWe := hW9.symm
      clear hE8 hT8 hE9 hE10 hT9 hW9 HD hb7
      by_cases hk3 : t.kind = 3
      · have d3 : ((t.kind : Int) == 3) = true := by rw [beq_iff_eq]; omega
        clear hk3
        go_wp2_with fail
        refine HS.out.mono ?_
        rintro e w11 ⟨rfl, rfl⟩
        go_wp2_with fail
        go_end0
        exact ⟨rfl, HE10.out, hb10⟩
      · have d3 : ((t.kind : Int) == 3) = false := by rw [beq_eq_false_iff_ne]; omega
        clear hk3
        go_wp2_with fail
        go_end0
        exact ⟨rfl, HE9.out, hb9⟩
    · go_enter Tryz.func77, Tryz.ntmps77
      go_wp2_with fail
      refine HAdv.out.mono ?_
      rintro e w2 ⟨rfl, hE2, hb2, hk2⟩
      have hT2 : w2.heap[w.heap.size]? = some (tokObj t) := hk2 _ _ HtW.out (fun e => hTX (by injection e)) (fun c fz e => by unfold tokObj at e; injection e with _ e _; exact absurd e (by decide))
      have hbW2 : Below B w w2 := (HbW.out.mono hB).trans hb2
      obtain ⟨a0, a1, a2, a3⟩ := tok_at hT2
      have hT2l : w.heap.size < w2.heap.size := by rw [Array.getElem?_eq_some_iff] at hT2; exact hT2.1
      have HE2 := Lib.hid hE2
      have HT2 := Lib.hid hT2
      clear hE2 hT2 hk2 hb2 HAdv k0 k1 k2 k3 hWe
      go_wp2_with fail
      refine (HSep'.out w2).mono ?_
      rintro e w3 ⟨rfl, hb3⟩
      have hE3 : ExAt B X h al (advX x t.fin) w3 := exAt_keep HE2.out (fun k hk => hb3.block k hk)
      have hT3 : w3.heap[w.heap.size]? = some (tokObj t) := (hb3.block _ hT2l).trans HT2.out
      have hbw3 : Below B w w3 := hbW2.trans (hb3.mono (by omega))
      have cc6 : w3.cell? ⟨X, 6, none⟩ = some (.bool true) := by
        obtain ⟨_, _, _, g1, _⟩ := hE3
        rw [Lib.cell_of_heap g1, ← HCX.out]; rfl
      have ff6 : w3.frozen? ⟨X, 6, none⟩ = false := by
        obtain ⟨_, _, _, g1, _⟩ := hE3
        exact Lib.frozen_of_heap g1 6
      clear a0 a1 a2 a3 HE2 HT2 hb3 hbW2
      obtain ⟨a0, a1, a2, a3⟩ := tok_at hT3
      have HE3 := Lib.hid hE3
      have HT3 := Lib.hid hT3
      have hT3l : w.heap.size < w3.heap.size := by rw [Array.getElem?_eq_some_iff] at hT3; exact hT3.1
      clear hE3 hT3
      go_wp2_with fail
      refine (HInt'.out w3).mono ?_
      rintro e w4 ⟨rfl, hb4⟩
      have hE4 : ExAt B X h al (advX x t.fin) w4 := exAt_keep HE3.out (fun k hk => hb4.block k hk)
      have hT4 : w4.heap[w.heap.size]? = some (tokObj t) := (hb4.block _ hT3l).trans HT3.out
      have hbw4 : Below B w w4 := hbw3.trans (hb4.mono (by omega))
      have ff64 : w4.frozen? ⟨X, 6, none⟩ = false := by
        obtain ⟨_, _, _, g1, _⟩ := hE4
        exact Lib.frozen_of_heap g1 6
      have cc64 : w4.cell? ⟨X, 6, none⟩ = some (.bool true) := by
        obtain ⟨_, _, _, g1, _⟩ := hE4
        rw [Lib.cell_of_heap g1, ← HCX.out]; rfl
      obtain ⟨b0, b1, b2, b3⟩ := tok_at hT4
      have HE4 := Lib.hid hE4
      have HT4 := Lib.hid hT4
      clear hE4 hT4 hb4 a0 a1 a2 a3
      go_wp2_with fail
      obtain ⟨V6, hV6⟩ : ∃ V6, V6 = w4.setCell ⟨X, 6, none⟩ (.bool it) := ⟨_, rfl⟩
      have hE5 := HE4.out
      have hT5 := HT4.out
      have hb5 := hbw4
      have hE6 : ExAt B X h al y V6 := by
        obtain ⟨q0, qb, qv, g1, g2, g3, g4, g5, g6, g7⟩ := hE5
        rw [hV6, HY.out]
        exact exAt_put (x := advX x t.fin) g1 g2 g3 g4 g5 g6 g7 (heap_setCell_same _ _ _ _ _ _ g1) (set_only X 6 _ _)
      have hT6 : V6.heap[w.heap.size]? = some (tokObj t) := by rw [hV6]; exact (set_only X 6 _ _ _ hTX).trans hT5
      have hb6 : Below B w V6 := by rw [hV6]; exact hb5.setCell (p := ⟨X, 6, none⟩) h6 _
      rw [← hV6]
      obtain ⟨c7, f7, c8, f8⟩ := exAt_cells hE6
      have hD := delim0_c X t V6 c7
      unfold dlm0 at hD
      have HD := Lib.hid hD
      clear hD
      have HE6 := Lib.hid hE6
      have hT6l : w.heap.size < V6.heap.size := by rw [Array.getElem?_eq_some_iff] at hT6; exact hT6.1
      have HT6 := Lib.hid hT6
      clear hE5 hE6 hT5 hT6 hV6 hb5 c7 f7 c8 f8
      refine HD.out.mono ?_
      rintro e w7 ⟨rfl, hb7⟩
      have hE8 : ExAt B X h al y (w7.alloc (.cells #[.string ⟨#[]⟩, .bool false, .bool false] 53)) := exAt_keep HE6.out (fun k hk => (Below.heap_alloc _ _ _ (by have := hb7.size; omega)).trans (hb7.block k hk))
      have hT8 : (w7.alloc (.cells #[.string ⟨#[]⟩, .bool false, .bool false] 53)).heap[w.heap.size]? = some (tokObj t) := (Below.heap_alloc _ _ _ (by have := hb7.size; omega)).trans ((hb7.block _ hT6l).trans HT6.out)
      have hB6 : B ≤ V6.heap.size := by omega
      have hb8 : Below B w (w7.alloc (.cells #[.string ⟨#[]⟩, .bool false, .bool false] 53)) := (hb6.trans (hb7.mono hB6)).alloc (by have := hb7.size; omega) _
      obtain ⟨c7, f7, c8, f8⟩ := exAt_cells hE8
      have hE9 := exAt_same7 hE8
      have hb9 := hb8.setCell (p := ⟨X, 7, none⟩) h6 (.string ⟨#[]⟩)
      have hT9 : ((w7.alloc (.cells #[.string ⟨#[]⟩, .bool false, .bool false] 53)).setCell ⟨X, 7, none⟩ (.string ⟨#[]⟩)).heap[w.heap.size]? = some (tokObj t) := (set_only X 7 _ _ _ hTX).trans hT8
      obtain ⟨W9, hW9⟩ : ∃ W9, W9 = (w7.alloc (.cells #[.string ⟨#[]⟩, .bool false, .bool false] 53)).setCell ⟨X, 7, none⟩ (.string ⟨#[]⟩) := ⟨_, rfl⟩
      rw [← hW9] at hE9 hb9 hT9
      obtain ⟨z0, _, _, z3⟩ := tok_at hT9
      obtain ⟨_, _, c89, f89⟩ := exAt_cells hE9
      have hE10 := exAt_same8 hE9
      have hb10 := hb9.setCell (p := ⟨X, 8, none⟩) h6 (.slice none 0 0)
      have HE9 := Lib.hid hE9
      have HE10 := Lib.hid hE10
      have HS := Lib.hid (skip0_c X W9 c89 f89)
      have hWe := hW9.symm
      clear hE8 hT8 hE9 hE10 hT9 hW9 HD hb7
      by_cases hk3 : t.kind = 3
      · have d3 : ((t.kind : Int) == 3) = true := by rw [beq_iff_eq]; omega
        clear hk3
        go_wp2_with fail
        refine HS.out.mono ?_
        rintro e w11 ⟨rfl, rfl⟩
        go_wp2_with fail
        go_end0
        exact ⟨rfl, HE10.out, hb10⟩
      · have d3 : ((t.kind : Int) == 3) = false := by rw [beq_eq_false_iff_ne]; omega
        clear hk3
        go_wp2_with fail
        go_end0
        exact ⟨rfl, HE9.out, hb9⟩
  · go_enter Tryz.func77, Tryz.ntmps77
    go_wp2_with fail
    refine HAdv.out.mono ?_
    rintro e w2 ⟨rfl, hE2, hb2, hk2⟩
    have hT2 : w2.heap[w.heap.size]? = some (tokObj t) := hk2 _ _ HtW.out (fun e => hTX (by injection e)) (fun c fz e => by unfold tokObj at e; injection e with _ e _; exact absurd e (by decide))
    have hbW2 : Below B w w2 := (HbW.out.mono hB).trans hb2
    obtain ⟨a0, a1, a2, a3⟩ := tok_at hT2
    have hT2l : w.heap.size < w2.heap.size := by rw [Array.getElem?_eq_some_iff] at hT2; exact hT2.1
    have HE2 := Lib.hid hE2
    have HT2 := Lib.hid hT2
    clear hE2 hT2 hk2 hb2 HAdv k0 k1 k2 k3 hWe
    go_wp2_with fail
    refine (HSep'.out w2).mono ?_
    rintro e w3 ⟨rfl, hb3⟩
    have hE3 : ExAt B X h al (advX x t.fin) w3 := exAt_keep HE2.out (fun k hk => hb3.block k hk)
    have hT3 : w3.heap[w.heap.size]? = some (tokObj t) := (hb3.block _ hT2l).trans HT2.out
    have hbw3 : Below B w w3 := hbW2.trans (hb3.mono (by omega))
    have cc6 : w3.cell? ⟨X, 6, none⟩ = some (.bool cm) := by
      obtain ⟨_, _, _, g1, _⟩ := hE3
      rw [Lib.cell_of_heap g1, ← HCX.out]; rfl
    have ff6 : w3.frozen? ⟨X, 6, none⟩ = false := by
      obtain ⟨_, _, _, g1, _⟩ := hE3
      exact Lib.frozen_of_heap g1 6
    clear a0 a1 a2 a3 HE2 HT2 hb3 hbW2
    obtain ⟨a0, a1, a2, a3⟩ := tok_at hT3
    have HE3 := Lib.hid hE3
    have HT3 := Lib.hid hT3
    have hT3l : w.heap.size < w3.heap.size := by rw [Array.getElem?_eq_some_iff] at hT3; exact hT3.1
    clear hE3 hT3
    go_wp2_with fail
    obtain ⟨V6, hV6⟩ : ∃ V6, V6 = w3.setCell ⟨X, 6, none⟩ (.bool true) := ⟨_, rfl⟩
    have hE5 := HE3.out
    have hT5 := HT3.out
    have hb5 := hbw3
    have hE6 : ExAt B X h al y V6 := by
      obtain ⟨q0, qb, qv, g1, g2, g3, g4, g5, g6, g7⟩ := hE5
      rw [hV6, HY.out]
      exact exAt_put (x := advX x t.fin) g1 g2 g3 g4 g5 g6 g7 (heap_setCell_same _ _ _ _ _ _ g1) (set_only X 6 _ _)
    have hT6 : V6.heap[w.heap.size]? = some (tokObj t) := by rw [hV6]; exact (set_only X 6 _ _ _ hTX).trans hT5
    have hb6 : Below B w V6 := by rw [hV6]; exact hb5.setCell (p := ⟨X, 6, none⟩) h6 _
    rw [← hV6]
    obtain ⟨c7, f7, c8, f8⟩ := exAt_cells hE6
    have hD := delim0_c X t V6 c7
    unfold dlm0 at hD
    have HD := Lib.hid hD
    clear hD
    have HE6 := Lib.hid hE6
    have hT6l : w.heap.size < V6.heap.size := by rw [Array.getElem?_eq_some_iff] at hT6; exact hT6.1
    have HT6 := Lib.hid hT6
    clear hE5 hE6 hT5 hT6 hV6 hb5 c7 f7 c8 f8
    refine HD.out.mono ?_
    rintro e w7 ⟨rfl, hb7⟩
    have hE8 : ExAt B X h al y (w7.alloc (.cells #[.string ⟨#[]⟩, .bool false, .bool false] 53)) := exAt_keep HE6.out (fun k hk => (Below.heap_alloc _ _ _ (by have := hb7.size; omega)).trans (hb7.block k hk))
    have hT8 : (w7.alloc (.cells #[.string ⟨#[]⟩, .bool false, .bool false] 53)).heap[w.heap.size]? = some (tokObj t) := (Below.heap_alloc _ _ _ (by have := hb7.size; omega)).trans ((hb7.block _ hT6l).trans HT6.out)
    have hB6 : B ≤ V6.heap.size := by omega
    have hb8 : Below B w (w7.alloc (.cells #[.string ⟨#[]⟩, .bool false, .bool false] 53)) := (hb6.trans (hb7.mono hB6)).alloc (by have := hb7.size; omega) _
    obtain ⟨c7, f7, c8, f8⟩ := exAt_cells hE8
    have hE9 := exAt_same7 hE8
    have hb9 := hb8.setCell (p := ⟨X, 7, none⟩) h6 (.string ⟨#[]⟩)
    have hT9 : ((w7.alloc (.cells #[.string ⟨#[]⟩, .bool false, .bool false] 53)).setCell ⟨X, 7, none⟩ (.string ⟨#[]⟩)).heap[w.heap.size]? = some (tokObj t) := (set_only X 7 _ _ _ hTX).trans hT8
    obtain ⟨W9, hW9⟩ : ∃ W9, W9 = (w7.alloc (.cells #[.string ⟨#[]⟩, .bool false, .bool false] 53)).setCell ⟨X, 7, none⟩ (.string ⟨#[]⟩) := ⟨_, rfl⟩
    rw [← hW9] at hE9 hb9 hT9
    obtain ⟨z0, _, _, z3⟩ := tok_at hT9
    obtain ⟨_, _, c89, f89⟩ := exAt_cells hE9
    have hE10 := exAt_same8 hE9
    have hb10 := hb9.setCell (p := ⟨X, 8, none⟩) h6 (.slice none 0 0)
    have HE9 := Lib.hid hE9
    have HE10 := Lib.hid hE10
    have HS := Lib.hid (skip0_c X W9 c89 f89)
    have hWe := hW9.symm
    clear hE8 hT8 hE9 hE10 hT9 hW9 HD hb7
    by_cases hk3 : t.kind = 3
    · have d3 : ((t.kind : Int) == 3) = true := by rw [beq_iff_eq]; omega
      clear hk3
      go_wp2_with fail
      refine HS.out.mono ?_
      rintro e w11 ⟨rfl, rfl⟩
      go_wp2_with fail
      go_end0
      exact ⟨rfl, HE10.out, hb10⟩
    · have d3 : ((t.kind : Int) == 3) = false := by rw [beq_eq_false_iff_ne]; omega
      clear hk3
      go_wp2_with fail
      go_end0
      exact ⟨rfl, HE9.out, hb9⟩
end Go.Proofs.YticehbhedoploaaGreatDoor
