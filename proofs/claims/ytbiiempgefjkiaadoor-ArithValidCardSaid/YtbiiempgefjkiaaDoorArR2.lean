/- arith: the parser's methods unary and assignment, over what is below them. -/
import Derived.Test.YtbiiempgefjkiaaDoorArR1
import Derived.Test.YtbiiempgefjkiaaDoorArQ5
namespace Go.Proofs.YtbiiempgefjkiaaDoor.Ar
open Go.RowKit
set_option linter.unusedVariables false

theorem node_one {w : World} {B : Nat} {x : Ex} {A : Option Addr} {cc : Nat} (op n : Int) (s : ByteArray) (hB : B ≤ w.heap.size) (hl : x.kids.length ≤ cc) (hm : cc ≤ maxLen) (hx : KidsAt w (Fresh B w) x.kids A) :
    ExAt (w.alloc (.cells #[.int .i64 x.op, .int .i64 x.n, .string x.name, .slice A x.kids.length cc] 24)) (Fresh B (w.alloc (.cells #[.int .i64 x.op, .int .i64 x.n, .string x.name, .slice A x.kids.length cc] 24))) (.mk op n s [x]) (.agg #[.int .i64 op, .int .i64 n, .string s, .slice (some ⟨w.heap.size, 0, none⟩) 1 1]) :=
  node_mk [(x, A, cc)] op n s hB (by unfold maxLen; simp) (fun q hq => by
    rw [List.mem_singleton] at hq; subst hq; exact ⟨hl, hm, hx⟩)
set_option maxHeartbeats 4000000 in
set_option maxRecDepth 100000 in
theorem una_step (f : Nat) (ih : UnaOk f) (ih2 : SngOk f) : UnaOk (f + 1) := by
  intro D T R w hR hG hP hE hgD
  obtain ⟨t, r, rfl⟩ := good_cell hG
  have hD := parAt_lt hP
  have hw0 := (Below.refl w.heap.size w).alloc (Nat.le_refl _) (.cells #[.int .i64 0, .int .i64 0, .string ⟨#[]⟩, .slice none 0 0] 24)
  have hn0 := heap_alloc_new w (.cells #[.int .i64 0, .int .i64 0, .string ⟨#[]⟩, .slice none 0 0] 24)
  have hP0 := parAt_keep hP hw0
  have hk0 := Kd.of hw0 (Nat.le_of_lt hD)
  have hE0 := env_next hE hw0
  have hz0 : (w.alloc (.cells #[.int .i64 0, .int .i64 0, .string ⟨#[]⟩, .slice none 0 0] 24)).heap.size = w.heap.size + 1 := by simp
  obtain ⟨b, off, c, p0, d0, d1, d2, hl, hm⟩ := par_text hP0
  have i0 : (0 : Int) < ((r.length + 1 : Nat) : Int) := by omega
  have Hk0 := Lib.hid hk0
  have Hn0 := Lib.hid hn0
  have Hz0 := Lib.hid hz0
  have HE0 := Lib.hid hE0
  have HP0 := Lib.hid hP0
  have HG := Lib.hid hG
  clear hP hE hn0 hk0 hw0 hz0 hE0 hP0 hG
  rw [unaF] at hR
  have HU := Lib.hid (fun W => unaryAt_c t.t W)
  by_cases h1 : (unaAt (hd (t :: r)).t).2 = true
  · rw [if_pos h1] at hR
    replace h1 : (unaAt t.t).2 = true := h1
    rw [show (hd (t :: r)).t = t.t from rfl, show (t :: r).tail = r from rfl] at hR
    have hk1 : t.k ≠ 0 := by
      have h2 : t.t.size ≠ 0 := by
        intro e
        have e2 : t.t = ⟨#[]⟩ := ByteArray.ext (Array.eq_empty_of_size_eq_zero e)
        rw [e2] at h1
        exact absurd h1 (by decide)
      have := good_text HG.out (show (hd (t :: r)).t.size ≠ 0 from h2)
      exact this
    obtain ⟨hr, hG2, hts, htl, _⟩ := good_rest HG.out hk1
    generalize unaAt t.t = uu at *
    obtain ⟨uo, ub⟩ := uu
    simp only at h1 hR HU
    subst h1
    have HC := Lib.hid (skip_c D t r _ HP0.out hr)
    have HG2 := Lib.hid hG2
    have HI := Lib.hid ih
    clear ih ih2 hG2 hk1
    rcases ha : unaF f r with _ | ⟨x, T1⟩ | ⟨pb, eb⟩
    · rw [ha] at hR; simp [PR.then] at hR
    · rw [ha] at hR
      have hR2 : some (PR.ok (.mk uo 0 ⟨#[]⟩ [x]) T1) = some R := hR
      injection hR2 with hR2
      subst hR2
      have Ha := Lib.hid ha
      clear hR ha
      go_enter Tryd.func81, Tryd.ntmps81
      go_wp2_with fail
      refine (HU.out _).mono ?_
      rintro e w1 ⟨rfl, rfl⟩
      go_wp2_with fail
      refine HC.out.mono ?_
      rintro e w1 ⟨rfl, hp1, hk1⟩
      have hE1 := env_kd HE0.out hk1 hgD
      have HC2 := Lib.hid (HI.out D r _ w1 Ha.out HG2.out hp1 hE1 hgD)
      have hz1 := hk1.size (by rw [Hz0.out]; omega)
      rw [Hz0.out] at hz1
      have Hn1 := Lib.hid ((hk1.kept w.heap.size (by omega) (by rw [Hz0.out]; omega)).trans Hn0.out)
      have Hk1 := Lib.hid (Hk0.out.trans hk1)
      clear HC hp1 hk1 hE1 HI p0 d0 d1 d2 HU
      go_wp2_with fail
      refine HC2.out.mono ?_
      rintro e w2 ⟨hk2, hG3, hp2, v, rfl, hx⟩
      obtain ⟨A, cc, rfl, hxl, hxm, hxk⟩ := ex_open hx
      have hz2 := hk2.size (by omega)
      have hn2 := (hk2.kept w.heap.size (by omega) (by omega)).trans Hn1.out
      have hbx := (Below.refl w2.heap.size w2).alloc (Nat.le_refl _) (.cells #[.int .i64 x.op, .int .i64 x.n, .string x.name, .slice A x.kids.length cc] 24)
      have hn3 := (hbx.block _ (by omega)).trans hn2
      have hxk2 : KidsAt w2 (Fresh (w.heap.size + 1) w2) x.kids A := kids_keep (fun b hb => ⟨by have := hb.1; omega, hb.2⟩) (fun b o _ => rfl) hxk
      have hnode := node_one uo 0 ⟨#[]⟩ (by omega) hxl hxm hxk2
      have HA := Lib.hid (ans_set hD ((Hk1.out.trans hk2).trans (Kd.of hbx (by omega))) (parAt_keep hp2 hbx) hG3 hnode)
      obtain ⟨⟨c0, c1, c2, c3⟩, f0⟩ := zero_cells hn3
      have Hsz := Lib.hid hz2
      clear HC2 hn2 hn3 hp2 hk2 hx hxk hxk2 hnode hbx hG3 Hn1 Hk1 Ha
      go_wp2_with fail
      refine bodyPost_ret (v := .agg #[.int .i64 uo, .int .i64 0, .string ⟨#[]⟩, .slice (some ⟨w2.heap.size, 0, none⟩) 1 1]) (by simp [results, Tryd.results81, go_sem, c0, c1, c2, c3]) rfl (HA.out _ _ _ _)
    · rw [ha] at hR
      have hR2 : some (PR.bad pb eb) = some R := hR
      injection hR2 with hR2
      subst hR2
      have Ha := Lib.hid ha
      clear hR ha
      go_enter Tryd.func81, Tryd.ntmps81
      go_wp2_with fail
      refine (HU.out _).mono ?_
      rintro e w1 ⟨rfl, rfl⟩
      go_wp2_with fail
      refine HC.out.mono ?_
      rintro e w1 ⟨rfl, hp1, hk1⟩
      have hE1 := env_kd HE0.out hk1 hgD
      have HC2 := Lib.hid (HI.out D r _ w1 Ha.out HG2.out hp1 hE1 hgD)
      have Hk1 := Lib.hid (Hk0.out.trans hk1)
      clear HC hp1 hk1 hE1 HI p0 d0 d1 d2 HU
      go_wp2_with fail
      refine HC2.out.mono ?_
      rintro e w2 ⟨hk2, rfl⟩
      go_wp2_with fail
      exact ⟨rfl, Hk1.out.trans hk2, rfl⟩
  rw [if_neg h1] at hR
  replace h1 : (unaAt t.t).2 = false := by simpa using (show ¬ (unaAt t.t).2 = true from h1)
  generalize unaAt t.t = uu at *
  obtain ⟨uo, ub⟩ := uu
  simp only at h1 HU
  subst h1
  have HI := Lib.hid (ih2 D (t :: r) R _ hR HG.out HP0.out HE0.out hgD)
  rcases R with ⟨x, T1⟩ | ⟨pb, eb⟩
  · clear hR
    go_enter Tryd.func81, Tryd.ntmps81
    go_wp2_with fail
    refine (HU.out _).mono ?_
    rintro e w1 ⟨rfl, rfl⟩
    go_wp2_with fail
    refine HI.out.mono ?_
    rintro e w2 ⟨hk2, hG3, hp2, v, rfl, hx⟩
    obtain ⟨A, cc, rfl, hxl, hxm, hxk⟩ := ex_open hx
    have hn2 := (hk2.kept w.heap.size (by omega) (by rw [Hz0.out]; omega)).trans Hn0.out
    obtain ⟨⟨c0, c1, c2, c3⟩, f0⟩ := zero_cells hn2
    rw [Hz0.out] at hx
    have HA := Lib.hid (ans_set hD (Hk0.out.trans hk2) hp2 hG3 hx)
    clear HI hn2 hp2 hk2 hx hxk hG3 p0 d0 d1 d2
    go_wp2_with fail
    refine bodyPost_ret (v := .agg #[.int .i64 x.op, .int .i64 x.n, .string x.name, .slice A x.kids.length cc]) (by simp [results, Tryd.results81, go_sem, c0, c1, c2, c3]) rfl (HA.out _ _ _ _)
  · clear hR
    go_enter Tryd.func81, Tryd.ntmps81
    go_wp2_with fail
    refine (HU.out _).mono ?_
    rintro e w1 ⟨rfl, rfl⟩
    go_wp2_with fail
    refine HI.out.mono ?_
    rintro e w2 ⟨hk2, rfl⟩
    go_wp2_with fail
    exact ⟨rfl, Hk0.out.trans hk2, rfl⟩
set_option maxHeartbeats 4000000 in
set_option maxRecDepth 100000 in
theorem asg_step (f : Nat) (ih : AsgOk f) (ih2 : CndOk f) : AsgOk (f + 1) := by
  intro D T R w hR hG hP hE hgD
  obtain ⟨t, r, rfl⟩ := good_cell hG
  have hD := parAt_lt hP
  have hw0 := (Below.refl w.heap.size w).alloc (Nat.le_refl _) (.cells #[.int .i64 0, .int .i64 0, .string ⟨#[]⟩, .slice none 0 0] 24)
  have hn0 := heap_alloc_new w (.cells #[.int .i64 0, .int .i64 0, .string ⟨#[]⟩, .slice none 0 0] 24)
  have hP0 := parAt_keep hP hw0
  have hk0 := Kd.of hw0 (Nat.le_of_lt hD)
  have hE0 := env_next hE hw0
  have hz0 : (w.alloc (.cells #[.int .i64 0, .int .i64 0, .string ⟨#[]⟩, .slice none 0 0] 24)).heap.size = w.heap.size + 1 := by simp
  obtain ⟨b, off, c, p0, d0, d1, d2, hl, hm⟩ := par_text hP0
  have i0 : (0 : Int) < ((r.length + 1 : Nat) : Int) := by omega
  have Hk0 := Lib.hid hk0
  have Hn0 := Lib.hid hn0
  have Hz0 := Lib.hid hz0
  have HE0 := Lib.hid hE0
  have HP0 := Lib.hid hP0
  have HG := Lib.hid hG
  clear hP hE hn0 hk0 hw0 hz0 hE0 hP0 hG
  rw [asgF] at hR
  by_cases h1 : (hd (t :: r)).k = 2
  · rw [if_pos h1] at hR
    replace h1 : t.k = 2 := h1
    obtain ⟨hr, hG2, hts, htl, _⟩ := good_rest HG.out (by omega)
    obtain ⟨t1, r1, rfl⟩ := good_cell hG2
    have t1a : ((t.k : Int) != 2) = false := by rw [bne_eq_false_iff_eq]; omega
    have t1b : (t.k != 2) = false := by rw [bne_eq_false_iff_eq]; omega
    have q1 : (w.alloc (.cells #[.int .i64 0, .int .i64 0, .string ⟨#[]⟩, .slice none 0 0] 24)).cell? ⟨b, off + 5, none⟩ = some (.string t1.t) := by
      obtain ⟨b', off', c', hh, _, _, _, hi⟩ := HP0.out
      have c0' : (w.alloc (.cells #[.int .i64 0, .int .i64 0, .string ⟨#[]⟩, .slice none 0 0] 24)).cell? ⟨D, 0, none⟩ = some (.slice (some ⟨b', off', none⟩) (t :: t1 :: r1).length c') := by simp [World.cell?, hh]
      rw [c0'] at p0
      simp only [Option.some.injEq, Value.slice.injEq, Addr.mk.injEq] at p0
      obtain ⟨⟨rfl, rfl, _⟩, _, _⟩ := p0
      exact (hi 1 (by simp)).2.2
    have i1 : (1 : Int) < (((t1 :: r1).length + 1 : Nat) : Int) := by simp <;> omega
    have HU := Lib.hid (fun W (h : Env W) => assignmentAt_c t1.t W h (by have := (scan_len HG.out); omega))
    have HU0 := Lib.hid (HU.out _ HE0.out)
    by_cases h2 : (asgAt (hd (t :: t1 :: r1).tail).t).2 = true
    · rw [if_pos h2] at hR
      replace h2 : (asgAt t1.t).2 = true := h2
      rw [show (hd (t :: t1 :: r1).tail).t = t1.t from rfl, show (hd (t :: t1 :: r1)).t = t.t from rfl, show (hd (t :: t1 :: r1)).p = t.p from rfl, show (t :: t1 :: r1).tail.tail = r1 from rfl] at hR
      have hk1 : t1.k ≠ 0 := by
        have h2' : t1.t.size ≠ 0 := by
          intro e
          have e2 : t1.t = ⟨#[]⟩ := ByteArray.ext (Array.eq_empty_of_size_eq_zero e)
          rw [e2] at h2
          exact absurd h2 (by decide)
        have := good_text hG2 (show (hd (t1 :: r1)).t.size ≠ 0 from h2')
        exact this
      obtain ⟨hr1, hG3, _, _, _⟩ := good_rest hG2 hk1
      generalize asgAt t1.t = uu at *
      obtain ⟨uo, ub⟩ := uu
      simp only at h2 hR HU0
      subst h2
      by_cases h3 : nameB t.t = true
      · rw [if_pos h3] at hR
        have HN := Lib.hid (fun W (h : ParAt W D (t :: t1 :: r1)) => name_yes D t (t1 :: r1) W h hr h3)
        have HS := Lib.hid (fun W (h : ParAt W D (t1 :: r1)) => skip_c D t1 r1 W h hr1)
        have HI := Lib.hid ih
        have HG3 := Lib.hid hG3
        clear ih ih2 hG2 hG3 hk1 h3 HU
        rcases ha : asgF f r1 with _ | ⟨x, T1⟩ | ⟨pb, eb⟩
        · rw [ha] at hR; simp [PR.then] at hR
        all_goals
          rw [ha] at hR
          have Ha := Lib.hid ha
          clear ha
        · have hR2 : some (PR.ok (.mk 26 uo t.t [x]) T1) = some R := hR
          injection hR2 with hR2
          subst hR2
          clear hR
          go_enter Tryd.func48, Tryd.ntmps48
          go_wp2_with fail
          refine HU0.out.mono ?_
          rintro e w1 ⟨rfl, hb1⟩
          have hz0 := Hz0.out
          have hs1 := hb1.size
          have hk1 := Kd.of hb1 (show D ≤ _ by omega)
          have HN1 := Lib.hid (HN.out w1 (parAt_keep HP0.out hb1))
          have Hk1 := Lib.hid (Hk0.out.trans hk1)
          have HE1 := Lib.hid (env_kd HE0.out hk1 hgD)
          have Hn1 := Lib.hid ((hb1.block w.heap.size (by omega)).trans Hn0.out)
          clear hk1 HU0 HN p0 d0 d1 d2 q1 hb1
          go_wp2_with fail
          refine HN1.out.mono ?_
          rintro e w2 ⟨rfl, hp2, hk2⟩
          have hs2 := hk2.size (by omega)
          have HS2 := Lib.hid (HS.out w2 hp2)
          have Hk2 := Lib.hid (Hk1.out.trans hk2)
          have HE2 := Lib.hid (env_kd HE1.out hk2 hgD)
          have Hn2 := Lib.hid ((hk2.kept w.heap.size (by omega) (by omega)).trans Hn1.out)
          clear hk2 hp2 HN1 HS Hk1 HE1 Hn1
          go_wp2_with fail
          refine HS2.out.mono ?_
          rintro e w3 ⟨rfl, hp3, hk3⟩
          have hs3 := hk3.size (by omega)
          have HC2 := Lib.hid (HI.out D r1 _ w3 Ha.out HG3.out hp3 (env_kd HE2.out hk3 hgD) hgD)
          have Hk3 := Lib.hid (Hk2.out.trans hk3)
          have Hn3 := Lib.hid ((hk3.kept w.heap.size (by omega) (by omega)).trans Hn2.out)
          clear hk3 hp3 HS2 Hk2 HE2 Hn2 HI
          go_wp2_with fail
          refine HC2.out.mono ?_
          rintro e w4 ⟨hk4, hG4, hp4, v, rfl, hx⟩
          obtain ⟨A, cc, rfl, hxl, hxm, hxk⟩ := ex_open hx
          have hs4 := hk4.size (by omega)
          have hn4 := (hk4.kept w.heap.size (by omega) (by omega)).trans Hn3.out
          have hbx := (Below.refl w4.heap.size w4).alloc (Nat.le_refl _) (.cells #[.int .i64 x.op, .int .i64 x.n, .string x.name, .slice A x.kids.length cc] 24)
          have hn5 := (hbx.block _ (by omega)).trans hn4
          have hxk2 : KidsAt w4 (Fresh (w.heap.size + 1) w4) x.kids A := kids_keep (fun b hb => ⟨by have := hb.1; omega, hb.2⟩) (fun b o _ => rfl) hxk
          have hnode := node_one 26 uo t.t (by omega) hxl hxm hxk2
          have HA := Lib.hid (ans_set hD ((Hk3.out.trans hk4).trans (Kd.of hbx (by omega))) (parAt_keep hp4 hbx) hG4 hnode)
          obtain ⟨⟨c0, c1, c2, c3⟩, f0⟩ := zero_cells hn5
          clear HC2 hn4 hn5 hp4 hk4 hx hxk hxk2 hnode hbx hG4 Hn3 Hk3 Ha
          go_wp2_with fail
          refine bodyPost_ret (v := .agg #[.int .i64 26, .int .i64 uo, .string t.t, .slice (some ⟨w4.heap.size, 0, none⟩) 1 1]) (by simp [results, Tryd.results48, go_sem, c0, c1, c2, c3]) rfl (HA.out _ _ _ _)
        · have hR2 : some (PR.bad pb eb) = some R := hR
          injection hR2 with hR2
          subst hR2
          clear hR
          go_enter Tryd.func48, Tryd.ntmps48
          go_wp2_with fail
          refine HU0.out.mono ?_
          rintro e w1 ⟨rfl, hb1⟩
          have hz0 := Hz0.out
          have hs1 := hb1.size
          have hk1 := Kd.of hb1 (show D ≤ _ by omega)
          have HN1 := Lib.hid (HN.out w1 (parAt_keep HP0.out hb1))
          have Hk1 := Lib.hid (Hk0.out.trans hk1)
          have HE1 := Lib.hid (env_kd HE0.out hk1 hgD)
          clear hk1 HU0 HN p0 d0 d1 d2 q1 hb1
          go_wp2_with fail
          refine HN1.out.mono ?_
          rintro e w2 ⟨rfl, hp2, hk2⟩
          have HS2 := Lib.hid (HS.out w2 hp2)
          have Hk2 := Lib.hid (Hk1.out.trans hk2)
          have HE2 := Lib.hid (env_kd HE1.out hk2 hgD)
          clear hk2 hp2 HN1 HS Hk1 HE1
          go_wp2_with fail
          refine HS2.out.mono ?_
          rintro e w3 ⟨rfl, hp3, hk3⟩
          have HC2 := Lib.hid (HI.out D r1 _ w3 Ha.out HG3.out hp3 (env_kd HE2.out hk3 hgD) hgD)
          have Hk3 := Lib.hid (Hk2.out.trans hk3)
          clear hk3 hp3 HS2 Hk2 HE2 HI
          go_wp2_with fail
          refine HC2.out.mono ?_
          rintro e w4 ⟨hk4, rfl⟩
          go_wp2_with fail
          exact ⟨rfl, Hk3.out.trans hk4, rfl⟩
      · rw [if_neg h3, Option.some.injEq] at hR
        subst hR
        replace h3 : nameB t.t = false := by simpa using h3
        have HN := Lib.hid (fun W (h : ParAt W D (t :: t1 :: r1)) => name_no D t (t1 :: r1) W h h3)
        clear ih ih2 hG2 hG3 hk1 h3 HU
        go_enter Tryd.func48, Tryd.ntmps48
        go_wp2_with fail
        refine HU0.out.mono ?_
        rintro e w1 ⟨rfl, hb1⟩
        have hz0 := Hz0.out
        have hk1 := Kd.of hb1 (show D ≤ _ by omega)
        have HN1 := Lib.hid (HN.out w1 (parAt_keep HP0.out hb1))
        have Hk1 := Lib.hid (Hk0.out.trans hk1)
        clear hk1 HU0 HN p0 d0 d1 d2 q1 hb1
        go_wp2_with fail
        refine HN1.out.mono ?_
        rintro e w2 ⟨rfl, hk2⟩
        go_wp2_with fail
        exact ⟨rfl, Hk1.out.trans hk2, rfl⟩
    · rw [if_neg h2] at hR
      replace h2 : (asgAt t1.t).2 = false := by simpa using (show ¬ (asgAt t1.t).2 = true from h2)
      generalize asgAt t1.t = uu at *
      obtain ⟨uo, ub⟩ := uu
      simp only at h2 HU0
      subst h2
      have HI := Lib.hid (fun W h1 h2 => ih2 D (t :: t1 :: r1) R W hR HG.out h1 h2 hgD)
      clear ih ih2 hG2 hR HU
      rcases R with ⟨x, T1⟩ | ⟨pb, eb⟩
      · go_enter Tryd.func48, Tryd.ntmps48
        go_wp2_with fail
        refine HU0.out.mono ?_
        rintro e w1 ⟨rfl, hb1⟩
        have hz0 := Hz0.out
        have hs1 := hb1.size
        have hk1 := Kd.of hb1 (show D ≤ _ by omega)
        have HI1 := Lib.hid (HI.out w1 (parAt_keep HP0.out hb1) (env_kd HE0.out hk1 hgD))
        have Hk1 := Lib.hid (Hk0.out.trans hk1)
        have Hn1 := Lib.hid ((hb1.block w.heap.size (by omega)).trans Hn0.out)
        clear hk1 HU0 HI p0 d0 d1 d2 q1 hb1
        go_wp2_with fail
        refine HI1.out.mono ?_
        rintro e w2 ⟨hk2, hG3, hp2, v, rfl, hx⟩
        obtain ⟨A, cc, rfl, hxl, hxm, hxk⟩ := ex_open hx
        have hn2 := (hk2.kept w.heap.size (by omega) (by omega)).trans Hn1.out
        obtain ⟨⟨c0, c1, c2, c3⟩, f0⟩ := zero_cells hn2
        have hx2 := ex_keep (ok' := Fresh (w.heap.size + 1) w2) (fun b hb => ⟨by have := hb.1; omega, hb.2⟩) (fun b o _ => rfl) hx
        have HA := Lib.hid (ans_set hD (Hk1.out.trans hk2) hp2 hG3 hx2)
        clear HI1 hn2 hp2 hk2 hx hxk hG3 hx2 Hn1 Hk1
        go_wp2_with fail
        refine bodyPost_ret (v := .agg #[.int .i64 x.op, .int .i64 x.n, .string x.name, .slice A x.kids.length cc]) (by simp [results, Tryd.results48, go_sem, c0, c1, c2, c3]) rfl (HA.out _ _ _ _)
      · go_enter Tryd.func48, Tryd.ntmps48
        go_wp2_with fail
        refine HU0.out.mono ?_
        rintro e w1 ⟨rfl, hb1⟩
        have hz0 := Hz0.out
        have hk1 := Kd.of hb1 (show D ≤ _ by omega)
        have HI1 := Lib.hid (HI.out w1 (parAt_keep HP0.out hb1) (env_kd HE0.out hk1 hgD))
        have Hk1 := Lib.hid (Hk0.out.trans hk1)
        clear hk1 HU0 HI p0 d0 d1 d2 q1 hb1
        go_wp2_with fail
        refine HI1.out.mono ?_
        rintro e w2 ⟨hk2, rfl⟩
        go_wp2_with fail
        exact ⟨rfl, Hk1.out.trans hk2, rfl⟩
  rw [if_neg h1] at hR
  replace h1 : t.k ≠ 2 := h1
  have t1a : ((t.k : Int) != 2) = true := by rw [bne_iff_ne]; omega
  have t1b : (t.k != 2) = true := by rw [bne_iff_ne]; omega
  have HI := Lib.hid (ih2 D (t :: r) R _ hR HG.out HP0.out HE0.out hgD)
  rcases R with ⟨x, T1⟩ | ⟨pb, eb⟩
  · clear hR
    go_enter Tryd.func48, Tryd.ntmps48
    go_wp2_with fail
    refine HI.out.mono ?_
    rintro e w2 ⟨hk2, hG3, hp2, v, rfl, hx⟩
    obtain ⟨A, cc, rfl, hxl, hxm, hxk⟩ := ex_open hx
    have hn2 := (hk2.kept w.heap.size (by omega) (by rw [Hz0.out]; omega)).trans Hn0.out
    obtain ⟨⟨c0, c1, c2, c3⟩, f0⟩ := zero_cells hn2
    rw [Hz0.out] at hx
    have HA := Lib.hid (ans_set hD (Hk0.out.trans hk2) hp2 hG3 hx)
    clear HI hn2 hp2 hk2 hx hxk hG3 p0 d0 d1 d2
    go_wp2_with fail
    refine bodyPost_ret (v := .agg #[.int .i64 x.op, .int .i64 x.n, .string x.name, .slice A x.kids.length cc]) (by simp [results, Tryd.results48, go_sem, c0, c1, c2, c3]) rfl (HA.out _ _ _ _)
  · clear hR
    go_enter Tryd.func48, Tryd.ntmps48
    go_wp2_with fail
    refine HI.out.mono ?_
    rintro e w2 ⟨hk2, rfl⟩
    go_wp2_with fail
    exact ⟨rfl, Hk0.out.trans hk2, rfl⟩
end Go.Proofs.YtbiiempgefjkiaaDoor.Ar
