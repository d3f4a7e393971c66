/- lexer: Next. -/
import Derived.Test.YticehbhedoploaaGreatDoorLxI
import Derived.Laws.ResultCell
namespace Go.Proofs.YticehbhedoploaaGreatDoor
open Go.RowKit
set_option linter.unusedVariables false

/-- A token. -/
structure Tk where
  kind : Nat
  pos : Nat
  fin : Nat
  text : ByteArray
def Tk.val (t : Tk) : Value := .agg #[.int .i64 t.kind, .int .i64 t.pos, .int .i64 t.fin, .string t.text]
def Tk.none : Tk := ⟨0, 0, 0, ⟨#[]⟩⟩
/-- What Next answers: a token and an error's number. -/
def nextL (s : ByteArray) (a : Int) : Tk × Nat :=
  if 16384 < s.size then (Tk.none, 3) else
  match endL s.data.toList (skipL s.data.toList a) with
  | (e, 0) => (⟨kindL s.data.toList (skipL s.data.toList a) e, skipL s.data.toList a, e, s.extract (skipL s.data.toList a) e⟩, 0)
  | (e, x + 1) => (⟨0, e, 0, ⟨#[]⟩⟩, x + 1)
theorem skipF_le {s : List UInt8} : ∀ (F p : Nat), p ≤ s.length → skipF F s p ≤ s.length ∧ p ≤ skipF F s p
  | 0, p, h => ⟨h, Nat.le_refl _⟩
  | F + 1, p, h => by
    by_cases hl : s.length ≤ p
    · rw [skipF_ge hl]; exact ⟨h, Nat.le_refl _⟩
    rw [skipF_lt (by omega)]
    split
    · have := skipF_le (s := s) F (p + 1) (by omega); omega
    split
    · have h1 := commL_le (s := s) (p := p) h
      have h2 := commL_ge s p
      have := skipF_le (s := s) F _ h1; omega
    split
    · rename_i hj
      have hj := joinB_le hj
      have := skipF_le (s := s) F (p + 2) hj; omega
    · omega
theorem skipL_le (s : List UInt8) (a : Int) : skipL s a ≤ s.length := (skipF_le _ _ (clamp_le a _)).1
theorem heap_new (w : World) (o : Obj) : (w.alloc o).heap[w.heap.size]? = some o := heap_alloc_new w o
def zeroTok : Obj := .cells #[.int .i64 0, .int .i64 0, .int .i64 0, .string ⟨#[]⟩] 118
theorem tok_cells {W : World} {g : Nat} (h : W.heap[g]? = some zeroTok) : W.cell? ⟨g, 0, none⟩ = some (.int .i64 0) ∧ W.cell? ⟨g, 1, none⟩ = some (.int .i64 0) ∧ W.cell? ⟨g, 2, none⟩ = some (.int .i64 0) ∧ W.cell? ⟨g, 3, none⟩ = some (.string ⟨#[]⟩) ∧
    W.frozen? ⟨g, 0, none⟩ = false ∧ W.frozen? ⟨g, 1, none⟩ = false ∧ W.frozen? ⟨g, 2, none⟩ = false ∧ W.frozen? ⟨g, 3, none⟩ = false :=
  ⟨by rw [cell_of_row W g 0 _ _ _ h]; rfl, by rw [cell_of_row W g 1 _ _ _ h]; rfl, by rw [cell_of_row W g 2 _ _ _ h]; rfl, by rw [cell_of_row W g 3 _ _ _ h]; rfl, Lib.frozen_of_heap h 0, Lib.frozen_of_heap h 1, Lib.frozen_of_heap h 2, Lib.frozen_of_heap h 3⟩
structure NxS (w w' : World) : Prop where
  b : Below w.heap.size w w'
  h : w'.heap[w.heap.size]? = some zeroTok
theorem nx_keep {w W w7 : World} (h : NxS w W) (hb : Below W.heap.size W w7) : NxS w w7 := by
  have hlt : w.heap.size < W.heap.size := by
    have := h.h
    rw [Array.getElem?_eq_some_iff] at this
    exact this.1
  exact ⟨h.b.trans (hb.mono (by omega)), by rw [hb.block _ hlt]; exact h.h⟩
theorem nx_start (w : World) : NxS w (w.alloc zeroTok).drew := ⟨((Below.refl _ w).alloc (Nat.le_refl _) _).drew, heap_new _ _⟩
theorem nx_store {w W : World} (h : NxS w W) (k p e : Nat) (t : ByteArray) :
    Below w.heap.size w ((((W.setCell ⟨w.heap.size, 0, none⟩ (.int .i64 k)).setCell ⟨w.heap.size, 1, none⟩ (.int .i64 p)).setCell ⟨w.heap.size, 2, none⟩ (.int .i64 e)).setCell ⟨w.heap.size, 3, none⟩ (.string t)) ∧
    ((((W.setCell ⟨w.heap.size, 0, none⟩ (.int .i64 k)).setCell ⟨w.heap.size, 1, none⟩ (.int .i64 p)).setCell ⟨w.heap.size, 2, none⟩ (.int .i64 e)).setCell ⟨w.heap.size, 3, none⟩ (.string t)).heap[w.heap.size]? =
      some (.cells #[.int .i64 k, .int .i64 p, .int .i64 e, .string t] 118 (0, 0)) := by
  refine ⟨(((h.b.setCell (Nat.le_refl _) _).setCell (Nat.le_refl _) _).setCell (Nat.le_refl _) _).setCell (Nat.le_refl _) _, ?_⟩
  exact heap_setCell_same _ _ _ _ _ _ (heap_setCell_same _ _ _ _ _ _ (heap_setCell_same _ _ _ _ _ _ (heap_setCell_same _ _ _ _ _ _ h.h)))
theorem next_res (t : Tk) {tmps : Array Value} {w : World} (g : Nat) (E : Value) (hp : tmps.getD 4 undef = .pointer (some ⟨g, 0, none⟩)) (h5 : tmps.getD 5 undef = E)
    (hg : w.heap[g]? = some (.cells #[.int .i64 t.kind, .int .i64 t.pos, .int .i64 t.fin, .string t.text] 118)) : (results Tryz.f73 tmps).run Tryz.prog w = .ok (.tuple #[t.val, E]) w := by
  rw [results_cell_tmp (p := 4) (u := 5) (ty := 118) rfl, hp, h5]
  have hl := run_loadVar_row (P := Tryz.prog) w g 118 118 _ _ _ hg Tryz.underlying118 rfl (by kernel_rfl)
  simp only [asAddr, Sem.run_pure, Result.andThen_ok]
  rw [hl]
  rfl
set_option maxHeartbeats 8000000 in
set_option maxRecDepth 100000 in
theorem Next_c (s : ByteArray) (a : Int) (w : World) (hs : s.size ≤ 140737488355328) (ha : -9223372036854775808 ≤ a ∧ a ≤ 9223372036854775807) :
    Calls Tryz.prog 73 #[.string s, .int .i64 a] w fun e w' => e = .returned (.tuple #[(nextL s a).1.val, .int .i64 ((nextL s a).2 : Nat)]) ∧ Below w.heap.size w w' := by
  unfold nextL
  by_cases h1 : 16384 < s.size
  · rw [if_pos h1]
    have t1 : decide ((16384 : Int) < (s.size : Int)) = true := decide_eq_true (by omega)
    have t1' : decide (16384 < s.size) = true := decide_eq_true h1
    go_enter Tryz.func73, Tryz.ntmps73
    go_wp2_with fail
    exact bodyPost_ret (next_res ⟨0, 0, 0, ⟨#[]⟩⟩ _ _ rfl rfl (heap_new _ _)) rfl ⟨rfl, (Below.refl _ w).alloc (Nat.le_refl _) _⟩
  rw [if_neg h1]
  have t1 : decide ((16384 : Int) < (s.size : Int)) = false := decide_eq_false (by omega)
  have t1' : decide (16384 < s.size) = false := decide_eq_false h1
  have Hsk := Lib.hid (fun W => Skip_c s a W hs ha)
  have hpl := skipL_le s.data.toList a
  rw [lenS] at hpl
  generalize skipL s.data.toList a = p at *
  have Hen := Lib.hid (fun W => tend_c s p W hs hpl)
  have hin := endL_in (s := s.data.toList) (p := p) (by rw [lenS]; exact hpl)
  rw [lenS] at hin
  rcases he : endL s.data.toList p with ⟨e, x⟩
  rw [he] at Hen hin
  obtain ⟨i1, i2, i3⟩ := hin
  simp only at i1 i2 i3
  clear he h1
  rcases x with _ | x
  · have hpe := i2 rfl
    have Hki := Lib.hid (fun W => kind_c s p e W hs hpe i1)
    have Hen0 : Hid (∀ W, Calls Tryz.prog 109 #[.string s, .int .i64 p] W fun r w' => r = .returned (.tuple #[.int .i64 e, .int .i64 0]) ∧ W = w') := Lib.hid (fun W => Hen.out W)
    clear Hen i3 i2
    show Calls _ _ _ w fun r w' => r = .returned (.tuple #[Tk.val ⟨kindL s.data.toList p e, p, e, s.extract p e⟩, .int .i64 (0 : Nat)]) ∧ Below w.heap.size w w'
    generalize kindL s.data.toList p e = kd at *
    have b1 : (p : Int) ≤ (e : Int) := by omega
    have b2 : (e : Int) ≤ (s.size : Int) := by omega
    go_enter Tryz.func73, Tryz.ntmps73
    go_wp2_with fail
    refine (Hsk.out _).mono ?_
    rintro r w7 ⟨rfl, rfl⟩
    go_wp2_with fail
    refine (Hen0.out _).mono ?_
    rintro r w7 ⟨rfl, rfl⟩
    go_wp2_with fail
    go_region_held3 (fun _ => True)
      (trivial)
      ((go_at_call 110; refine (Hki.out _).mono ?_; rintro r w7 ⟨rfl, hb7⟩; obtain ⟨c0, c1, c2, c3, f0, f1, f2, f3⟩ := tok_cells (nx_keep (nx_start w) hb7).h))
    have hfin := nx_store (nx_keep (nx_start w) hb7) kd p e (s.extract p e)
    obtain ⟨hf1, hf2⟩ := hfin
    go_wp2_with fail
    exact bodyPost_ret (next_res ⟨kd, p, e, s.extract p e⟩ _ _ rfl rfl hf2) rfl ⟨rfl, hf1⟩
  · obtain ⟨E, hE⟩ : ∃ E : Int, E = ((x + 1 : Nat) : Int) := ⟨_, rfl⟩
    have tE : (E != 0) = true := by rw [hE, bne_iff_ne]; omega
    have Hen0 : Hid (∀ W, Calls Tryz.prog 109 #[.string s, .int .i64 p] W fun r w' => r = .returned (.tuple #[.int .i64 e, .int .i64 E]) ∧ W = w') := Lib.hid (fun W => by rw [hE]; exact Hen.out W)
    have hx3 : Hid (E = ((x + 1 : Nat) : Int)) := Lib.hid hE
    clear Hen i2 i3 hE
    go_enter Tryz.func73, Tryz.ntmps73
    go_wp2_with fail
    refine (Hsk.out _).mono ?_
    rintro r w7 ⟨rfl, rfl⟩
    go_wp2_with fail
    refine (Hen0.out _).mono ?_
    rintro r w7 ⟨rfl, rfl⟩
    go_wp2_with fail
    exact bodyPost_ret (next_res ⟨0, e, 0, ⟨#[]⟩⟩ _ _ rfl rfl (heap_new _ _)) rfl ⟨by rw [hx3.out]; rfl, (Below.refl _ w).alloc (Nat.le_refl _) _⟩
end Go.Proofs.YticehbhedoploaaGreatDoor
