/- arith: the parser's small methods: fail, skip, accept, expect, name. -/
import Derived.Test.YtbiiempgefjkiaaDoorArV
import Derived.Test.YtbiiempgefjkiaaDoorArT
import Derived.Test.YtbiiempgefjkiaaDoorArW
namespace Go.Proofs.YtbiiempgefjkiaaDoor.Ar
open Go.RowKit
set_option linter.unusedVariables false

/-- The panic with a failure. -/
def errP (p e : Nat) : List PanicEntry := [{ v := .iface 59 (.agg #[.int .i64 p, .int .i64 e]), recovered := false }]
/-- All below D is as it was, and of what was there all but D. -/
structure Kd (D : Nat) (w w' : World) : Prop where
  bel : Below D w w'
  kept : ∀ k, k ≠ D → k < w.heap.size → w'.heap[k]? = w.heap[k]?
theorem Kd.refl (D : Nat) (w : World) : Kd D w w := ⟨Below.refl _ _, fun _ _ _ => rfl⟩
theorem Kd.trans {D : Nat} {a b c : World} (h : Kd D a b) (k : Kd D b c) : Kd D a c :=
  ⟨h.bel.trans k.bel, fun i hi hl => (k.kept i hi (by have := h.bel.size; have := (Array.getElem?_eq_some_iff.1 ((h.kept i hi hl).trans (Array.getElem?_eq_getElem hl))).1; omega)).trans (h.kept i hi hl)⟩
theorem Kd.of {D : Nat} {w w' : World} (h : Below w.heap.size w w') (hD : D ≤ w.heap.size) : Kd D w w' :=
  ⟨h.mono hD, fun k _ hk => h.block k hk⟩
theorem Kd.size {D : Nat} {w w' : World} (h : Kd D w w') (hD : D < w.heap.size) : w.heap.size ≤ w'.heap.size := by
  have h1 := h.bel.size
  by_cases h2 : w.heap.size = D + 1
  · exact h2 ▸ (by omega)
  · have hk : w.heap.size - 1 < w.heap.size := by omega
    have := (Array.getElem?_eq_some_iff.1 ((h.kept (w.heap.size - 1) (by omega) hk).trans (Array.getElem?_eq_getElem hk))).1
    omega
/-- The parser at D has the tokens T. -/
def ParAt (w : World) (D : Nat) (T : List Tok) : Prop :=
  ∃ b off c, w.heap[D]? = some (.cells #[.slice (some ⟨b, off, none⟩) T.length c] 64 (0, 0)) ∧ b < D ∧ T.length ≤ c ∧ c ≤ maxLen ∧
    ∀ i (h : i < T.length), w.cell? ⟨b, off + i * 3, none⟩ = some (.int .i64 (T[i]'h).k) ∧ w.cell? ⟨b, off + i * 3 + 1, none⟩ = some (.int .i64 (T[i]'h).p) ∧ w.cell? ⟨b, off + i * 3 + 2, none⟩ = some (.string (T[i]'h).t)
theorem parAt_lt {w : World} {D : Nat} {T : List Tok} (h : ParAt w D T) : D < w.heap.size := by
  obtain ⟨b, off, c, h, _⟩ := h
  exact (Array.getElem?_eq_some_iff.1 h).1
theorem parAt_keep {w w' : World} {D : Nat} {T : List Tok} (h : ParAt w D T) (hb : Below w.heap.size w w') : ParAt w' D T := by
  have hD := parAt_lt h
  obtain ⟨b, off, c, h, hbD, hc, hm, hi⟩ := h
  exact ⟨b, off, c, (hb.block _ hD).trans h, hbD, hc, hm, fun i hl => ⟨(hb.cell (p := ⟨b, off + i * 3, none⟩) (by show b < _; omega)).trans (hi i hl).1, (hb.cell (p := ⟨b, off + i * 3 + 1, none⟩) (by show b < _; omega)).trans (hi i hl).2.1, (hb.cell (p := ⟨b, off + i * 3 + 2, none⟩) (by show b < _; omega)).trans (hi i hl).2.2⟩⟩
set_option maxHeartbeats 1000000 in
theorem fail_c (D e : Nat) (t : Tok) (r : List Tok) (w : World) (h : ParAt w D (t :: r)) :
    Calls Tryd.prog 49 #[.pointer (some ⟨D, 0, none⟩), .int .i64 e] w fun en w' => en = .panicked (errP t.p e) ∧ w = w' := by
  obtain ⟨b, off, c, hh, hbD, hc, hm, hi⟩ := h
  have c0 : w.cell? ⟨D, 0, none⟩ = some (.slice (some ⟨b, off, none⟩) (t :: r).length c) := by simp [World.cell?, hh]
  have f0 : w.frozen? ⟨D, 0, none⟩ = false := Lib.frozen_of_heap hh 0
  obtain ⟨d0, d1, d2⟩ := hi 0 (by simp)
  simp only [List.getElem_cons_zero, Nat.zero_mul, Nat.add_zero] at d0 d1 d2
  have hl : (0 : Int) < ((t :: r).length : Int) := by simp
  clear hh hi hc
  generalize (t :: r).length = n at *
  go_enter Tryd.func49, Tryd.ntmps49
  go_wp2_with fail
  exact ⟨rfl, rfl, rfl⟩
theorem parAt_set {w : World} {D : Nat} {t : Tok} {T : List Tok} {b off c : Nat} (h : w.heap[D]? = some (.cells #[.slice (some ⟨b, off, none⟩) (t :: T).length c] 64 (0, 0))) (hbD : b < D) (hc : (t :: T).length ≤ c) (hm : c ≤ maxLen)
    (hi : ∀ i (h : i < (t :: T).length), w.cell? ⟨b, off + i * 3, none⟩ = some (.int .i64 ((t :: T)[i]'h).k) ∧ w.cell? ⟨b, off + i * 3 + 1, none⟩ = some (.int .i64 ((t :: T)[i]'h).p) ∧ w.cell? ⟨b, off + i * 3 + 2, none⟩ = some (.string ((t :: T)[i]'h).t)) :
    ParAt (w.setCell ⟨D, 0, none⟩ (.slice (some ⟨b, off + 3, none⟩) T.length (c - 1))) D T ∧ Kd D w (w.setCell ⟨D, 0, none⟩ (.slice (some ⟨b, off + 3, none⟩) T.length (c - 1))) := by
  have hk : Kd D w (w.setCell ⟨D, 0, none⟩ (.slice (some ⟨b, off + 3, none⟩) T.length (c - 1))) :=
    ⟨(Below.refl D w).setCell (p := ⟨D, 0, none⟩) (Nat.le_refl _) _, fun k hk _ => Below.heap_setCell _ _ _ _ (by simpa using hk)⟩
  refine ⟨⟨b, off + 3, c - 1, one_setCell h, hbD, by simp only [List.length_cons] at hc; omega, by omega, fun i hl => ?_⟩, hk⟩
  obtain ⟨h0, h1, h2⟩ := hi (i + 1) (by simpa using hl)
  rw [show off + (i + 1) * 3 = off + 3 + i * 3 by omega] at h0 h1 h2
  exact ⟨(hk.bel.cell (p := ⟨b, off + 3 + i * 3, none⟩) hbD).trans h0, (hk.bel.cell (p := ⟨b, off + 3 + i * 3 + 1, none⟩) hbD).trans h1, (hk.bel.cell (p := ⟨b, off + 3 + i * 3 + 2, none⟩) hbD).trans h2⟩
set_option maxHeartbeats 1000000 in
theorem skip_c (D : Nat) (t : Tok) (r : List Tok) (w : World) (h : ParAt w D (t :: r)) (hr : r ≠ []) :
    Calls Tryd.prog 67 #[.pointer (some ⟨D, 0, none⟩)] w fun e w' => e = .returned (.tuple #[]) ∧ ParAt w' D r ∧ Kd D w w' := by
  obtain ⟨b, off, c, hh, hbD, hc, hm, hi⟩ := h
  have c0 : w.cell? ⟨D, 0, none⟩ = some (.slice (some ⟨b, off, none⟩) (t :: r).length c) := by simp [World.cell?, hh]
  have f0 : w.frozen? ⟨D, 0, none⟩ = false := Lib.frozen_of_heap hh 0
  have HS := Lib.hid (parAt_set hh hbD hc hm hi)
  have hrl : 0 < r.length := List.length_pos_iff.2 hr
  have hl : (1 : Int) ≤ ((r.length + 1 : Nat) : Int) := by omega
  have hl2 : r.length + 1 ≤ c := by simpa using hc
  have hc1 : (1 : Int) < (c : Int) := by omega
  have hc2 : 1 < c := by omega
  rw [List.length_cons] at c0
  unfold maxLen at hm
  clear hh hi hc
  go_enter Tryd.func67, Tryd.ntmps67
  go_wp2_with fail
  go_end0
  exact ⟨rfl, HS.out⟩
/-- The text of the first token is read. -/
theorem par_text {w : World} {D : Nat} {t : Tok} {r : List Tok} (h : ParAt w D (t :: r)) : ∃ b off c, w.cell? ⟨D, 0, none⟩ = some (.slice (some ⟨b, off, none⟩) (r.length + 1) c) ∧ w.cell? ⟨b, off, none⟩ = some (.int .i64 t.k) ∧ w.cell? ⟨b, off + 1, none⟩ = some (.int .i64 t.p) ∧ w.cell? ⟨b, off + 2, none⟩ = some (.string t.t) ∧ r.length + 1 ≤ c ∧ c ≤ maxLen := by
  obtain ⟨b, off, c, hh, hbD, hc, hm, hi⟩ := h
  have c0 : w.cell? ⟨D, 0, none⟩ = some (.slice (some ⟨b, off, none⟩) (t :: r).length c) := by simp [World.cell?, hh]
  obtain ⟨d0, d1, d2⟩ := hi 0 (by simp)
  simp only [List.getElem_cons_zero, Nat.zero_mul, Nat.add_zero] at d0 d1 d2
  exact ⟨b, off, c, c0, d0, d1, d2, by simpa using hc, hm⟩
set_option maxHeartbeats 1000000 in
theorem accept_yes (D : Nat) (t : Tok) (r : List Tok) (sym : ByteArray) (w : World) (h : ParAt w D (t :: r)) (hr : r ≠ []) (he : eqB t.t sym = true) :
    Calls Tryd.prog 74 #[.pointer (some ⟨D, 0, none⟩), .string sym] w fun e w' => e = .returned (.bool true) ∧ ParAt w' D r ∧ Kd D w w' := by
  have HS := Lib.hid (skip_c D t r w h hr)
  obtain ⟨b, off, c, c0, d0, d1, d2, hl, hm⟩ := par_text h
  have t1 : (t.t.toList == sym.toList) = true := by rw [beq_list, he]
  have i0 : (0 : Int) < ((r.length + 1 : Nat) : Int) := by omega
  clear h
  go_enter Tryd.func74, Tryd.ntmps74
  go_wp2_with fail
  refine HS.out.mono ?_
  rintro e w1 ⟨rfl, h1, h2⟩
  have H := Lib.hid (And.intro h1 h2)
  clear h1 h2
  go_wp2_with fail
  go_ret
  exact ⟨rfl, H.out⟩
set_option maxHeartbeats 1000000 in
theorem accept_no (D : Nat) (t : Tok) (r : List Tok) (sym : ByteArray) (w : World) (h : ParAt w D (t :: r)) (he : eqB t.t sym = false) :
    Calls Tryd.prog 74 #[.pointer (some ⟨D, 0, none⟩), .string sym] w fun e w' => e = .returned (.bool false) ∧ w = w' := by
  obtain ⟨b, off, c, c0, d0, d1, d2, hl, hm⟩ := par_text h
  have t1 : (t.t.toList == sym.toList) = false := by rw [beq_list, he]
  have i0 : (0 : Int) < ((r.length + 1 : Nat) : Int) := by omega
  clear h
  go_enter Tryd.func74, Tryd.ntmps74
  go_wp2_with fail
  go_ret
  exact ⟨rfl, rfl⟩
set_option maxHeartbeats 1000000 in
theorem expect_yes (D : Nat) (t : Tok) (r : List Tok) (sym : ByteArray) (w : World) (h : ParAt w D (t :: r)) (hr : r ≠ []) (he : eqB t.t sym = true) :
    Calls Tryd.prog 75 #[.pointer (some ⟨D, 0, none⟩), .string sym] w fun e w' => e = .returned (.tuple #[]) ∧ ParAt w' D r ∧ Kd D w w' := by
  have HS := Lib.hid (accept_yes D t r sym w h hr he)
  clear h
  go_enter Tryd.func75, Tryd.ntmps75
  go_wp2_with fail
  refine HS.out.mono ?_
  rintro e w1 ⟨rfl, h1, h2⟩
  have H := Lib.hid (And.intro h1 h2)
  clear h1 h2
  go_wp2_with fail
  go_end0
  exact ⟨rfl, H.out⟩
set_option maxHeartbeats 1000000 in
theorem expect_no (D : Nat) (t : Tok) (r : List Tok) (sym : ByteArray) (w : World) (h : ParAt w D (t :: r)) (he : eqB t.t sym = false) :
    Calls Tryd.prog 75 #[.pointer (some ⟨D, 0, none⟩), .string sym] w fun e w' => e = .panicked (errP t.p 6) ∧ w = w' := by
  have HS := Lib.hid (accept_no D t r sym w h he)
  have HF := Lib.hid (fail_c D 6 t r w h)
  clear h
  go_enter Tryd.func75, Tryd.ntmps75
  go_wp2_with fail
  refine HS.out.mono ?_
  rintro e w1 ⟨rfl, rfl⟩
  go_wp2_with fail
  refine HF.out.mono ?_
  rintro e w1 ⟨rfl, rfl⟩
  go_wp2_with fail
  exact ⟨rfl, rfl, rfl⟩
set_option maxHeartbeats 1000000 in
theorem name_yes (D : Nat) (t : Tok) (r : List Tok) (w : World) (h : ParAt w D (t :: r)) (hr : r ≠ []) (he : nameB t.t = true) :
    Calls Tryd.prog 66 #[.pointer (some ⟨D, 0, none⟩)] w fun e w' => e = .returned (.string t.t) ∧ ParAt w' D r ∧ Kd D w w' := by
  have HN := Lib.hid (name_ok t.t)
  have hD := parAt_lt h
  have HP := Lib.hid h
  obtain ⟨b, off, c, c0, d0, d1, d2, hl, hm⟩ := par_text h
  have i0 : (0 : Int) < ((r.length + 1 : Nat) : Int) := by omega
  clear h
  go_enter Tryd.func66, Tryd.ntmps66
  go_wp2_with fail
  refine (HN.out _).mono ?_
  rw [he]
  rintro e w1 ⟨rfl, hb⟩
  have HS := Lib.hid (skip_c D t r w1 (parAt_keep HP.out hb) hr)
  have hk := Kd.of hb (Nat.le_of_lt hD)
  clear hb HN
  go_wp2_with fail
  refine HS.out.mono ?_
  rintro e w2 ⟨rfl, h1, h2⟩
  have H := Lib.hid (And.intro h1 (hk.trans h2))
  clear h1 h2 hk
  go_wp2_with fail
  go_ret
  exact ⟨rfl, H.out⟩
set_option maxHeartbeats 1000000 in
theorem name_no (D : Nat) (t : Tok) (r : List Tok) (w : World) (h : ParAt w D (t :: r)) (he : nameB t.t = false) :
    Calls Tryd.prog 66 #[.pointer (some ⟨D, 0, none⟩)] w fun e w' => e = .panicked (errP t.p 10) ∧ Kd D w w' := by
  have HN := Lib.hid (name_ok t.t)
  have hD := parAt_lt h
  have HP := Lib.hid h
  obtain ⟨b, off, c, c0, d0, d1, d2, hl, hm⟩ := par_text h
  have i0 : (0 : Int) < ((r.length + 1 : Nat) : Int) := by omega
  clear h
  go_enter Tryd.func66, Tryd.ntmps66
  go_wp2_with fail
  refine (HN.out _).mono ?_
  rw [he]
  rintro e w1 ⟨rfl, hb⟩
  have HS := Lib.hid (fail_c D 10 t r w1 (parAt_keep HP.out hb))
  have hk := Kd.of hb (Nat.le_of_lt hD)
  clear hb HN
  go_wp2_with fail
  refine HS.out.mono ?_
  rintro e w2 ⟨rfl, rfl⟩
  go_wp2_with fail
  exact ⟨rfl, rfl, hk⟩
end Go.Proofs.YtbiiempgefjkiaaDoor.Ar
