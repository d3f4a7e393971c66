/- arith: the parser's method single, over what assignment does. -/
import Derived.Test.YtbiiempgefjkiaaDoorArR0
namespace Go.Proofs.YtbiiempgefjkiaaDoor.Ar
open Go.RowKit
set_option linter.unusedVariables false

theorem env_kd {w w' : World} {D : Nat} (h : Env w) (hk : Kd D w w') (hg : 0 < D) : Env w' := env_below h hk.bel hg
/-- The methods at a fuel. -/
def AsgOk (f : Nat) : Prop := ∀ (D : Nat) (T : List Tok) (R : PR) (w : World), asgF f T = some R → GoodT T → ParAt w D T → Env w → 0 < D → Calls Tryd.prog 48 #[.pointer (some ⟨D, 0, none⟩)] w (Ans D w R)
def CndOk (f : Nat) : Prop := ∀ (D : Nat) (T : List Tok) (R : PR) (w : World), cndF f T = some R → GoodT T → ParAt w D T → Env w → 0 < D → Calls Tryd.prog 64 #[.pointer (some ⟨D, 0, none⟩)] w (Ans D w R)
def OpnOk (f : Nat) : Prop := ∀ (D l : Nat) (T : List Tok) (R : PR) (w : World), opnF f l T = some R → l ≤ 100 → GoodT T → ParAt w D T → Env w → 0 < D → Calls Tryd.prog 73 #[.pointer (some ⟨D, 0, none⟩), .int .i64 l] w (Ans D w R)
def UnaOk (f : Nat) : Prop := ∀ (D : Nat) (T : List Tok) (R : PR) (w : World), unaF f T = some R → GoodT T → ParAt w D T → Env w → 0 < D → Calls Tryd.prog 81 #[.pointer (some ⟨D, 0, none⟩)] w (Ans D w R)
def SngOk (f : Nat) : Prop := ∀ (D : Nat) (T : List Tok) (R : PR) (w : World), sngF f T = some R → GoodT T → ParAt w D T → Env w → 0 < D → Calls Tryd.prog 85 #[.pointer (some ⟨D, 0, none⟩)] w (Ans D w R)
theorem good_cell {T : List Tok} (h : GoodT T) : ∃ t r, T = t :: r := by
  match T, h with
  | t :: r, _ => exact ⟨t, r, rfl⟩
theorem good_rest {t : Tok} {r : List Tok} (h : GoodT (t :: r)) (hk : t.k ≠ 0) : r ≠ [] ∧ GoodT r ∧ 0 < t.t.size ∧ t.t.size ≤ 100000 ∧ t.p ≤ 100000 := by
  obtain ⟨t', r', e, _, h1, h2, h3, h4⟩ := good_next h (by simpa [hd] using hk)
  injection e with e1 e2
  subst e1; subst e2
  exact ⟨fun e => by subst e; exact h4, h4, h1, h2, h3⟩
theorem good_sym {t : Tok} {r : List Tok} {sym : ByteArray} (h : GoodT (t :: r)) (he : eqB t.t sym = true) (hs : sym.size ≠ 0) : t.k ≠ 0 := by
  have h1 := good_text h (by show t.t.size ≠ 0; rw [eqB_iff.1 he]; exact hs)
  simpa [hd] using h1
set_option maxHeartbeats 4000000 in
set_option maxRecDepth 100000 in
theorem sng_step (f : Nat) (ih : AsgOk f) : SngOk (f + 1) := by
  intro D T R w hR hG hP hE hgD
  obtain ⟨t, r, rfl⟩ := good_cell hG
  have hD := parAt_lt hP
  have hw0 := (Below.refl w.heap.size w).alloc (Nat.le_refl _) (.cells #[.int .i64 0, .int .i64 0, .string ⟨#[]⟩, .slice none 0 0] 24)
  have hn0 := heap_alloc_new w (.cells #[.int .i64 0, .int .i64 0, .string ⟨#[]⟩, .slice none 0 0] 24)
  have hP0 := parAt_keep hP hw0
  have hk0 := Kd.of hw0 (Nat.le_of_lt hD)
  have hE0 := env_next hE hw0
  have hD0 : D < (w.alloc (.cells #[.int .i64 0, .int .i64 0, .string ⟨#[]⟩, .slice none 0 0] 24)).heap.size := by simp; omega
  have hz0 : (w.alloc (.cells #[.int .i64 0, .int .i64 0, .string ⟨#[]⟩, .slice none 0 0] 24)).heap.size = w.heap.size + 1 := by simp
  obtain ⟨b, off, c, p0, d0, d1, d2, hl, hm⟩ := par_text hP0
  have i0 : (0 : Int) < ((r.length + 1 : Nat) : Int) := by omega
  rw [sngF] at hR
  by_cases h1 : (hd (t :: r)).k = 1
  · rw [if_pos h1, Option.some.injEq] at hR
    subst hR
    replace h1 : t.k = 1 := h1
    obtain ⟨hr, hG2, hts, htl, _⟩ := good_rest hG (by omega)
    have t1 : ((t.k : Int) == 1) = true := by rw [beq_iff_eq]; omega
    have t1' : (t.k == 1) = true := by rw [beq_iff_eq]; omega
    unfold numR
    by_cases h0 : (constC (hd (t :: r)).t 9223372036854775807).2 = 0
    · rw [if_pos h0]
      replace h0 : (constC t.t 9223372036854775807).2 = 0 := h0
      rw [show (hd (t :: r)).t = t.t from rfl, show (t :: r).tail = r from rfl]
      have HC := Lib.hid (number_yes D t r _ hP0 hr htl h0)
      generalize (constC t.t 9223372036854775807).1 = v at *
      have Hk0 := Lib.hid hk0
      have Hn0 := Lib.hid hn0
      have Hz0 := Lib.hid hz0
      have HG2 := Lib.hid hG2
      clear h0 h1 hP hE hP0 hE0 hn0 hk0 hw0 ih hG hG2 hz0
      go_enter Tryd.func85, Tryd.ntmps85
      go_wp2_with fail
      refine HC.out.mono ?_
      rintro e w1 ⟨rfl, hp1, hk1⟩
      have hn1 := (hk1.kept w.heap.size (by omega) (by rw [Hz0.out]; omega)).trans Hn0.out
      obtain ⟨⟨c0, c1, c2, c3⟩, f0⟩ := zero_cells hn1
      have HA := Lib.hid (ans_set hD (Hk0.out.trans hk1) hp1 HG2.out (leaf_mk w1 _ 1 v ⟨#[]⟩))
      clear HC hn1 hp1 hk1 p0 d0 d1 d2
      go_wp2_with fail
      refine bodyPost_ret (v := .agg #[.int .i64 1, .int .i64 v, .string ⟨#[]⟩, .slice none 0 0]) (by simp [results, Tryd.results85, go_sem, c0, c1, c2, c3]) rfl (HA.out _ _ _ _)
    · rw [if_neg h0]
      replace h0 : (constC t.t 9223372036854775807).2 ≠ 0 := h0
      rw [show (hd (t :: r)).t = t.t from rfl, show (hd (t :: r)).p = t.p from rfl]
      have HC := Lib.hid (number_no D t r _ hP0 htl h0)
      generalize (constC t.t 9223372036854775807).2 = v at *
      have Hk0 := Lib.hid hk0
      clear h0 h1 hP hE hP0 hE0 hn0 hk0 hw0 ih hG hG2 hz0
      go_enter Tryd.func85, Tryd.ntmps85
      go_wp2_with fail
      refine HC.out.mono ?_
      rintro e w1 ⟨rfl, hk1⟩
      go_wp2_with fail
      exact ⟨rfl, Hk0.out.trans hk1, rfl⟩
  rw [if_neg h1] at hR
  replace h1 : t.k ≠ 1 := h1
  have n1 : ((t.k : Int) == 1) = false := by rw [beq_eq_false_iff_ne]; omega
  have n1' : (t.k == 1) = false := by rw [beq_eq_false_iff_ne]; omega
  by_cases h2 : (hd (t :: r)).k = 2
  · rw [if_pos h2, Option.some.injEq] at hR
    subst hR
    replace h2 : t.k = 2 := h2
    obtain ⟨hr, hG2, hts, htl, _⟩ := good_rest hG (by omega)
    have t1 : ((t.k : Int) == 2) = true := by rw [beq_iff_eq]; omega
    have t1' : (t.k == 2) = true := by rw [beq_iff_eq]; omega
    unfold varR
    by_cases h0 : nameB (hd (t :: r)).t = true
    · rw [if_pos h0]
      replace h0 : nameB t.t = true := h0
      rw [show (hd (t :: r)).t = t.t from rfl, show (t :: r).tail = r from rfl]
      have HC := Lib.hid (name_yes D t r _ hP0 hr h0)
      have Hk0 := Lib.hid hk0
      have Hn0 := Lib.hid hn0
      have Hz0 := Lib.hid hz0
      have HG2 := Lib.hid hG2
      clear h0 h1 h2 hP hE hP0 hE0 hn0 hk0 hw0 ih hG hG2 hz0
      go_enter Tryd.func85, Tryd.ntmps85
      go_wp2_with fail
      refine HC.out.mono ?_
      rintro e w1 ⟨rfl, hp1, hk1⟩
      have hn1 := (hk1.kept w.heap.size (by omega) (by rw [Hz0.out]; omega)).trans Hn0.out
      obtain ⟨⟨c0, c1, c2, c3⟩, f0⟩ := zero_cells hn1
      have HA := Lib.hid (ans_set hD (Hk0.out.trans hk1) hp1 HG2.out (leaf_mk w1 _ 2 0 t.t))
      clear HC hn1 hp1 hk1 p0 d0 d1 d2
      go_wp2_with fail
      refine bodyPost_ret (v := .agg #[.int .i64 2, .int .i64 0, .string t.t, .slice none 0 0]) (by simp [results, Tryd.results85, go_sem, c0, c1, c2, c3]) rfl (HA.out _ _ _ _)
    · rw [if_neg h0]
      replace h0 : nameB t.t = false := by simpa using (show ¬ nameB t.t = true from h0)
      rw [show (hd (t :: r)).p = t.p from rfl]
      have HC := Lib.hid (name_no D t r _ hP0 h0)
      have Hk0 := Lib.hid hk0
      clear h0 h1 h2 hP hE hP0 hE0 hn0 hk0 hw0 ih hG hG2 hz0
      go_enter Tryd.func85, Tryd.ntmps85
      go_wp2_with fail
      refine HC.out.mono ?_
      rintro e w1 ⟨rfl, hk1⟩
      go_wp2_with fail
      exact ⟨rfl, Hk0.out.trans hk1, rfl⟩
  rw [if_neg h2] at hR
  replace h2 : t.k ≠ 2 := h2
  have n2 : ((t.k : Int) == 2) = false := by rw [beq_eq_false_iff_ne]; omega
  have n2' : (t.k == 2) = false := by rw [beq_eq_false_iff_ne]; omega
  by_cases h3 : eqB (hd (t :: r)).t ⟨#[40]⟩ = true
  · rw [if_pos h3] at hR
    replace h3 : eqB t.t ⟨#[40]⟩ = true := h3
    obtain ⟨hr, hG2, hts, htl, _⟩ := good_rest hG (good_sym hG h3 (by decide))
    have HC := Lib.hid (expect_yes D t r ⟨#[40]⟩ _ hP0 hr h3)
    rw [show (t :: r).tail = r from rfl] at hR
    have Hk0 := Lib.hid hk0
    have Hn0 := Lib.hid hn0
    have Hz0 := Lib.hid hz0
    have HG2 := Lib.hid hG2
    have HE0 := Lib.hid hE0
    have HI := Lib.hid ih
    rcases ha : asgF f r with _ | ⟨x, T1⟩ | ⟨pb, eb⟩
    · rw [ha] at hR; simp [PR.then] at hR
    · rw [ha] at hR
      have hR2 : (if eqB (hd T1).t ⟨#[41]⟩ = true then some (PR.ok x T1.tail) else some (PR.bad (hd T1).p 6)) = some R := hR
      have HR2 := Lib.hid hR2
      have Ha := Lib.hid ha
      clear h1 h2 h3 hP hE hP0 hE0 hn0 hk0 hw0 ih hG hG2 hz0 hR hR2 ha
      go_enter Tryd.func85, Tryd.ntmps85
      go_wp2_with fail
      refine HC.out.mono ?_
      rintro e w1 ⟨rfl, hp1, hk1⟩
      have hE1 := env_kd HE0.out hk1 hgD
      have HC2 := Lib.hid (HI.out D r _ w1 Ha.out HG2.out hp1 hE1 hgD)
      have hz1 := hk1.size (by rw [Hz0.out]; omega)
      rw [Hz0.out] at hz1
      have Hn1 := Lib.hid ((hk1.kept w.heap.size (by omega) (by rw [Hz0.out]; omega)).trans Hn0.out)
      have Hk1 := Lib.hid (Hk0.out.trans hk1)
      clear HC hp1 hk1 hE1 HI p0 d0 d1 d2
      go_wp2_with fail
      refine HC2.out.mono ?_
      rintro e w2 ⟨hk2, hG3, hp2, v, rfl, hx⟩
      obtain ⟨A, cc, rfl, hxl, hxm, hxk⟩ := ex_open hx
      have hz2 := hk2.size (by omega)
      have Hk2 := Lib.hid (Hk1.out.trans hk2)
      have Hn2 := Lib.hid ((hk2.kept w.heap.size (by omega) (by omega)).trans Hn1.out)
      have hbx := (Below.refl w2.heap.size w2).alloc (Nat.le_refl _) (.cells #[.int .i64 x.op, .int .i64 x.n, .string x.name, .slice A x.kids.length cc] 24)
      have hnx := heap_alloc_new w2 (.cells #[.int .i64 x.op, .int .i64 x.n, .string x.name, .slice A x.kids.length cc] 24)
      have hp3 := parAt_keep hp2 hbx
      obtain ⟨t2, r2, rfl⟩ := good_cell hG3
      have HX := Lib.hid hx
      have HP3 := Lib.hid hp3
      have HBX := Lib.hid hbx
      have HNX := Lib.hid hnx
      have HG3 := Lib.hid hG3
      clear HC2 hk2 hp2 hx hxk hbx hnx hp3 Hn1 Hk1 Ha
      by_cases h4 : eqB (hd (t2 :: r2)).t ⟨#[41]⟩ = true
      · have hR3 := HR2.out
        rw [if_pos h4, Option.some.injEq] at hR3
        replace h4 : eqB t2.t ⟨#[41]⟩ = true := h4
        obtain ⟨hr2, hG4, _, _, _⟩ := good_rest HG3.out (good_sym HG3.out h4 (by decide))
        have HC3 := Lib.hid (expect_yes D t2 r2 ⟨#[41]⟩ _ HP3.out hr2 h4)
        rw [show (t2 :: r2).tail = r2 from rfl] at hR3
        subst hR3
        have HG4 := Lib.hid hG4
        clear HR2 h4 hG4 hG3
        go_wp2_with fail
        refine HC3.out.mono ?_
        rintro e w4 ⟨rfl, hp4, hk4⟩
        have hz3 : (w2.alloc (.cells #[.int .i64 x.op, .int .i64 x.n, .string x.name, .slice A x.kids.length cc] 24)).heap.size = w2.heap.size + 1 := by simp
        have hn4 := (hk4.kept w.heap.size (by omega) (by omega)).trans ((HBX.out.block _ (by omega)).trans Hn2.out)
        have hx4 := (hk4.kept w2.heap.size (by omega) (by omega)).trans HNX.out
        have hz4 := hk4.size (by omega)
        obtain ⟨⟨c0, c1, c2, c3⟩, f0⟩ := zero_cells hn4
        have e0 : w4.cell? ⟨w2.heap.size, 0, none⟩ = some (.int .i64 x.op) := by rw [Lib.cell_of_heap hx4]; rfl
        have e1 : w4.cell? ⟨w2.heap.size, 1, none⟩ = some (.int .i64 x.n) := by rw [Lib.cell_of_heap hx4]; rfl
        have e2 : w4.cell? ⟨w2.heap.size, 2, none⟩ = some (.string x.name) := by rw [Lib.cell_of_heap hx4]; rfl
        have e3 : w4.cell? ⟨w2.heap.size, 3, none⟩ = some (.slice A x.kids.length cc) := by rw [Lib.cell_of_heap hx4]; rfl
        have hxx : ExAt w4 (Fresh (w.heap.size + 1) w4) x (.agg #[.int .i64 x.op, .int .i64 x.n, .string x.name, .slice A x.kids.length cc]) := by
          refine ex_keep (fun b hb => ⟨by have := hb.1; omega, by have := hb.2; omega⟩) (fun b o hb => ?_) HX.out
          have hb1 := hb.1
          have hb2 := hb.2
          simp only [World.cell?]
          rw [hk4.kept b (by omega) (by omega), HBX.out.block b hb2]
        have HA := Lib.hid (ans_set hD ((Hk2.out.trans (Kd.of HBX.out (by omega))).trans hk4) hp4 HG4.out hxx)
        clear HC3 hn4 hx4 hp4 hk4 hxx HX HP3 HBX HNX
        go_wp2_with fail
        refine bodyPost_ret (v := .agg #[.int .i64 x.op, .int .i64 x.n, .string x.name, .slice A x.kids.length cc]) (by simp [results, Tryd.results85, go_sem, c0, c1, c2, c3]) rfl (HA.out _ _ _ _)
      · have hR3 := HR2.out
        rw [if_neg h4, Option.some.injEq] at hR3
        replace h4 : eqB t2.t ⟨#[41]⟩ = false := by simpa using (show ¬ eqB t2.t ⟨#[41]⟩ = true from h4)
        have HC3 := Lib.hid (expect_no D t2 r2 ⟨#[41]⟩ _ HP3.out h4)
        rw [show (hd (t2 :: r2)).p = t2.p from rfl] at hR3
        subst hR3
        clear HR2 h4 hG3
        go_wp2_with fail
        refine HC3.out.mono ?_
        rintro e w4 ⟨rfl, rfl⟩
        go_wp2_with fail
        exact ⟨rfl, Hk2.out.trans (Kd.of HBX.out (by omega)), rfl⟩
    · rw [ha] at hR
      have hR2 : some (PR.bad pb eb) = some R := hR
      injection hR2 with hR2
      subst hR2
      have Ha := Lib.hid ha
      clear h1 h2 h3 hP hE hP0 hE0 hn0 hk0 hw0 ih hG hG2 hz0 hR ha
      go_enter Tryd.func85, Tryd.ntmps85
      go_wp2_with fail
      refine HC.out.mono ?_
      rintro e w1 ⟨rfl, hp1, hk1⟩
      have hE1 := env_kd HE0.out hk1 hgD
      have HC2 := Lib.hid (HI.out D r _ w1 Ha.out HG2.out hp1 hE1 hgD)
      have Hk1 := Lib.hid (Hk0.out.trans hk1)
      clear HC hp1 hk1 hE1 HI p0 d0 d1 d2
      go_wp2_with fail
      refine HC2.out.mono ?_
      rintro e w2 ⟨hk2, rfl⟩
      go_wp2_with fail
      exact ⟨rfl, Hk1.out.trans hk2, rfl⟩
  · rw [if_neg h3, Option.some.injEq] at hR
    replace h3 : eqB t.t ⟨#[40]⟩ = false := by simpa using (show ¬ eqB t.t ⟨#[40]⟩ = true from h3)
    rw [show (hd (t :: r)).p = t.p from rfl] at hR
    subst hR
    have HC := Lib.hid (expect_no D t r ⟨#[40]⟩ _ hP0 h3)
    have Hk0 := Lib.hid hk0
    clear h1 h2 h3 hP hE hP0 hE0 hn0 hk0 hw0 ih hG hz0
    go_enter Tryd.func85, Tryd.ntmps85
    go_wp2_with fail
    refine HC.out.mono ?_
    rintro e w1 ⟨rfl, rfl⟩
    go_wp2_with fail
    exact ⟨rfl, Hk0.out, rfl⟩
end Go.Proofs.YtbiiempgefjkiaaDoor.Ar
