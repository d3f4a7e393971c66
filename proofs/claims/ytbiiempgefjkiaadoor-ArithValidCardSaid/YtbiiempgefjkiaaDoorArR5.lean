/- arith: the parser at every fuel; input. -/
import Derived.Test.YtbiiempgefjkiaaDoorArR4
import Derived.Test.YtbiiempgefjkiaaDoorArD
namespace Go.Proofs.YtbiiempgefjkiaaDoor.Ar
open Go.RowKit
set_option linter.unusedVariables false

theorem par_all : ∀ f, AsgOk f ∧ CndOk f ∧ OpnOk f ∧ UnaOk f ∧ SngOk f ∧ ∀ g, g < f → OpnOk g := by
  intro f
  induction f with
  | zero =>
    refine ⟨?_, ?_, ?_, ?_, ?_, fun g hg => by omega⟩
    · intro D T R w hR; simp [asgF] at hR
    · intro D T R w hR; simp [cndF] at hR
    · intro D l T R w hR; simp [opnF] at hR
    · intro D T R w hR; simp [unaF] at hR
    · intro D T R w hR; simp [sngF] at hR
  | succ f ih =>
    obtain ⟨hA, hC, hO, hU, hS, hg⟩ := ih
    refine ⟨asg_step f hA hC, cnd_step f hA hC hO, opn_step f hU hg, una_step f hU hS, sng_step f hA, fun g hgf => ?_⟩
    rcases Nat.lt_or_ge g f with h | h
    · exact hg g h
    · obtain rfl : g = f := by omega
      exact hO
set_option maxHeartbeats 4000000 in
set_option maxRecDepth 100000 in
theorem input_c (f D : Nat) (T : List Tok) (R : PR) (w : World) (hR : inpF f T = some R) (hG : GoodT T) (hP : ParAt w D T) (hE : Env w) (hgD : 0 < D) (hTl : T.length ≤ 1000000) :
    Calls Tryd.prog 33 #[.pointer (some ⟨D, 0, none⟩)] w (Ans D w R) := by
  obtain ⟨t, r, rfl⟩ := good_cell hG
  have hD := parAt_lt hP
  have hw0 := (Below.refl w.heap.size w).alloc (Nat.le_refl _) (.cells #[.int .i64 0, .int .i64 0, .string ⟨#[]⟩, .slice none 0 0] 24)
  have hn0 := heap_alloc_new w (.cells #[.int .i64 0, .int .i64 0, .string ⟨#[]⟩, .slice none 0 0] 24)
  have hP0 := parAt_keep hP hw0
  have hk0 := Kd.of hw0 (Nat.le_of_lt hD)
  have hE0 := env_next hE hw0
  have hz0 : (w.alloc (.cells #[.int .i64 0, .int .i64 0, .string ⟨#[]⟩, .slice none 0 0] 24)).heap.size = w.heap.size + 1 := by simp
  obtain ⟨b, off, c, p0, d0, d1, d2, hl, hm⟩ := par_text hP0
  have i0 : (0 : Int) < ((r.length + 1 : Nat) : Int) := by omega
  have Hk0 := Lib.hid hk0
  have Hn0 := Lib.hid hn0
  have Hz0 := Lib.hid hz0
  have HE0 := Lib.hid hE0
  have HP0 := Lib.hid hP0
  have HG := Lib.hid hG
  have HPW := Lib.hid hP
  clear hP hE hn0 hk0 hw0 hz0 hE0 hP0 hG
  unfold inpF at hR
  by_cases h1 : (hd (t :: r)).k = 0
  · rw [if_pos h1, Option.some.injEq] at hR
    subst hR
    replace h1 : t.k = 0 := h1
    have t1 : ((t.k : Int) == 0) = true := by rw [beq_iff_eq]; omega
    have t1' : (t.k == 0) = true := by rw [beq_iff_eq]; omega
    obtain ⟨⟨c0, c1, c2, c3⟩, f0⟩ := zero_cells Hn0.out
    have hw1 := (Below.refl w.heap.size w).alloc (Nat.le_refl _) (.cells #[.int .i64 1, .int .i64 0, .string ⟨#[]⟩, .slice none 0 0] 24)
    have HF : Hid (Ans D w (.ok (.mk 1 0 ⟨#[]⟩ []) (t :: r)) (.returned (.agg #[.int .i64 1, .int .i64 0, .string ⟨#[]⟩, .slice none 0 0])) (w.alloc (.cells #[.int .i64 1, .int .i64 0, .string ⟨#[]⟩, .slice none 0 0] 24))) := Lib.hid ⟨Kd.of hw1 (Nat.le_of_lt hD), HG.out, parAt_keep HPW.out hw1, _, rfl, leaf_mk _ _ 1 0 ⟨#[]⟩⟩
    clear h1
    go_enter Tryd.func33, Tryd.ntmps33
    go_wp2_with fail
    refine bodyPost_ret (v := .agg #[.int .i64 1, .int .i64 0, .string ⟨#[]⟩, .slice none 0 0]) (by simp [results, Tryd.results33, go_sem]) rfl HF.out
  rw [if_neg h1] at hR
  replace h1 : t.k ≠ 0 := h1
  have t1 : ((t.k : Int) == 0) = false := by rw [beq_eq_false_iff_ne]; omega
  have t1' : (t.k == 0) = false := by rw [beq_eq_false_iff_ne]; exact h1
  clear h1
  have HA := Lib.hid (fun R' (h : asgF f (t :: r) = some R') => (par_all f).1 D (t :: r) R' _ h HG.out HP0.out HE0.out hgD)
  rcases ha : asgF f (t :: r) with _ | ⟨x, T1⟩ | ⟨pb, eb⟩
  · rw [ha] at hR; simp [PR.then] at hR
  · have HO := Lib.hid (HA.out _ ha)
    rw [ha] at hR
    replace hR := (show (if (hd T1).k = 0 then if 32 < dep x then some (.bad 0 5) else some (.ok x T1) else some (.bad (hd T1).p 6)) = some R from hR)
    have HR := Lib.hid hR
    have HDX := Lib.hid (show dep x ≤ 1000000 by have := (took f).1 _ _ _ ha; omega)
    clear hR ha HA
    go_enter Tryd.func33, Tryd.ntmps33
    go_wp2_with fail
    refine HO.out.mono ?_
    rintro e w1 ⟨hk1, hG1, hp1, v, rfl, hx⟩
    obtain ⟨A, cc, rfl, hxl, hxm, hxk⟩ := ex_open hx
    have hz0 := Hz0.out
    have hz1 := hk1.size (by omega)
    have hn1 := (hk1.kept w.heap.size (by omega) (by omega)).trans Hn0.out
    have hbx := (Below.refl w1.heap.size w1).alloc (Nat.le_refl _) (.cells #[.int .i64 x.op, .int .i64 x.n, .string x.name, .slice A x.kids.length cc] 24)
    have hnx := heap_alloc_new w1 (.cells #[.int .i64 x.op, .int .i64 x.n, .string x.name, .slice A x.kids.length cc] 24)
    have hzx : (w1.alloc (.cells #[.int .i64 x.op, .int .i64 x.n, .string x.name, .slice A x.kids.length cc] 24)).heap.size = w1.heap.size + 1 := by simp
    have hn2 := (hbx.block w.heap.size (by omega)).trans hn1
    have hk2 := (Hk0.out.trans hk1).trans (Kd.of hbx (by omega))
    have hp2 := parAt_keep hp1 hbx
    have hX2 : KidsAt (w1.alloc (.cells #[.int .i64 x.op, .int .i64 x.n, .string x.name, .slice A x.kids.length cc] 24)) (fun b => w.heap.size + 1 ≤ b ∧ b < w1.heap.size) x.kids A :=
      kids_keep (fun b hb => ⟨by have := hb.1; omega, hb.2⟩) (fun b o hb => hbx.cell (p := ⟨b, o, none⟩) hb.2) hxk
    have HX2 := Lib.hid hX2
    have HK2 := Lib.hid hk2
    have HP2 := Lib.hid hp2
    have HN2 := Lib.hid hn2
    have HNX := Lib.hid hnx
    have HG1 := Lib.hid hG1
    obtain ⟨t2, r2, rfl⟩ := good_cell hG1
    obtain ⟨b2, off2, c2, q0, e0, e1, e2, hl2, hm2⟩ := par_text hp2
    have i2 : (0 : Int) < ((r2.length + 1 : Nat) : Int) := by omega
    clear HO hk1 hp1 hx hxk hn1 hbx hnx hn2 hk2 hp2 hX2 Hn0 Hk0 HE0 HP0 hG1 p0 d0 d1 d2
    by_cases h4 : (hd (t2 :: r2)).k = 0
    · have hR3 := HR.out
      rw [if_pos h4] at hR3
      replace h4 : t2.k = 0 := h4
      have t2a : ((t2.k : Int) != 0) = false := by rw [bne_eq_false_iff_eq]; omega
      have t2b : (t2.k != 0) = false := by rw [bne_eq_false_iff_eq]; omega
      have HDP := Lib.hid (fun W (h : KidsIn W W.heap.size x.kids A) => depth_c (dep x) x A cc W (Nat.le_refl _) (by have := HDX.out; omega) h hxl hxm)
      have HDP2 := Lib.hid (HDP.out _ (kids_keep (fun b hb => by have := hb.2; omega) (fun b o _ => rfl) HX2.out))
      unfold Ex.val at HDP2
      have hdm := HDX.out
      by_cases h5 : 32 < dep x
      · rw [if_pos h5, Option.some.injEq] at hR3
        subst hR3
        have d5 : decide ((32 : Int) < (dep x : Int)) = true := decide_eq_true (by omega)
        have d5' : decide (32 < dep x) = true := decide_eq_true h5
        generalize dep x = dx at *
        have x0 : (w1.alloc (.cells #[.int .i64 x.op, .int .i64 x.n, .string x.name, .slice A x.kids.length cc] 24)).cell? ⟨w1.heap.size, 0, none⟩ = some (.int .i64 x.op) := by rw [Lib.cell_of_heap HNX.out]; rfl
        have x1 : (w1.alloc (.cells #[.int .i64 x.op, .int .i64 x.n, .string x.name, .slice A x.kids.length cc] 24)).cell? ⟨w1.heap.size, 1, none⟩ = some (.int .i64 x.n) := by rw [Lib.cell_of_heap HNX.out]; rfl
        have x2 : (w1.alloc (.cells #[.int .i64 x.op, .int .i64 x.n, .string x.name, .slice A x.kids.length cc] 24)).cell? ⟨w1.heap.size, 2, none⟩ = some (.string x.name) := by rw [Lib.cell_of_heap HNX.out]; rfl
        have x3 : (w1.alloc (.cells #[.int .i64 x.op, .int .i64 x.n, .string x.name, .slice A x.kids.length cc] 24)).cell? ⟨w1.heap.size, 3, none⟩ = some (.slice A x.kids.length cc) := by rw [Lib.cell_of_heap HNX.out]; rfl
        clear HR h4 HDP
        go_wp2_with fail
        refine HDP2.out.mono ?_
        rintro e w3 ⟨rfl, hb3⟩
        go_wp2_with fail
        exact ⟨rfl, HK2.out.trans (Kd.of hb3 (by omega)), rfl⟩
      · rw [if_neg h5, Option.some.injEq] at hR3
        subst hR3
        have d5 : decide ((32 : Int) < (dep x : Int)) = false := decide_eq_false (by omega)
        have d5' : decide (32 < dep x) = false := decide_eq_false h5
        generalize dep x = dx at *
        have x0 : (w1.alloc (.cells #[.int .i64 x.op, .int .i64 x.n, .string x.name, .slice A x.kids.length cc] 24)).cell? ⟨w1.heap.size, 0, none⟩ = some (.int .i64 x.op) := by rw [Lib.cell_of_heap HNX.out]; rfl
        have x1 : (w1.alloc (.cells #[.int .i64 x.op, .int .i64 x.n, .string x.name, .slice A x.kids.length cc] 24)).cell? ⟨w1.heap.size, 1, none⟩ = some (.int .i64 x.n) := by rw [Lib.cell_of_heap HNX.out]; rfl
        have x2 : (w1.alloc (.cells #[.int .i64 x.op, .int .i64 x.n, .string x.name, .slice A x.kids.length cc] 24)).cell? ⟨w1.heap.size, 2, none⟩ = some (.string x.name) := by rw [Lib.cell_of_heap HNX.out]; rfl
        have x3 : (w1.alloc (.cells #[.int .i64 x.op, .int .i64 x.n, .string x.name, .slice A x.kids.length cc] 24)).cell? ⟨w1.heap.size, 3, none⟩ = some (.slice A x.kids.length cc) := by rw [Lib.cell_of_heap HNX.out]; rfl
        clear HR h4 HDP
        go_wp2_with fail
        refine HDP2.out.mono ?_
        rintro e w3 ⟨rfl, hb3⟩
        have hn3 := (hb3.block w.heap.size (by omega)).trans HN2.out
        have hx3 := (hb3.block w1.heap.size (by omega)).trans HNX.out
        obtain ⟨⟨c0, c1, c2, c3⟩, f0⟩ := zero_cells hn3
        have y0 : w3.cell? ⟨w1.heap.size, 0, none⟩ = some (.int .i64 x.op) := by rw [Lib.cell_of_heap hx3]; rfl
        have y1 : w3.cell? ⟨w1.heap.size, 1, none⟩ = some (.int .i64 x.n) := by rw [Lib.cell_of_heap hx3]; rfl
        have y2 : w3.cell? ⟨w1.heap.size, 2, none⟩ = some (.string x.name) := by rw [Lib.cell_of_heap hx3]; rfl
        have y3 : w3.cell? ⟨w1.heap.size, 3, none⟩ = some (.slice A x.kids.length cc) := by rw [Lib.cell_of_heap hx3]; rfl
        have hs3 := hb3.size
        have hX3 : KidsAt w3 (Fresh (w.heap.size + 1) w3) x.kids A := kids_keep (fun b hb => ⟨hb.1, by have := hb.2; omega⟩) (fun b o hb => hb3.cell (p := ⟨b, o, none⟩) (by have := hb.2; show b < _; omega)) HX2.out
        have HF := Lib.hid (ans_set hD (HK2.out.trans (Kd.of hb3 (by omega))) (parAt_keep HP2.out hb3) HG1.out ⟨A, cc, rfl, hxl, hxm, hX3⟩)
        clear hn3 hx3 hX3 HDP2 hb3
        go_wp2_with fail
        refine bodyPost_ret (v := .agg #[.int .i64 x.op, .int .i64 x.n, .string x.name, .slice A x.kids.length cc]) (by simp [results, Tryd.results33, go_sem, c0, c1, c2, c3]) rfl (HF.out _ _ _ _)
    · have hR3 := HR.out
      rw [if_neg h4, Option.some.injEq] at hR3
      replace h4 : t2.k ≠ 0 := h4
      have t3 : ((t2.k : Int) != 0) = true := by rw [bne_iff_ne]; omega
      have t3' : (t2.k != 0) = true := by rw [bne_iff_ne]; omega
      rw [show (hd (t2 :: r2)).p = t2.p from rfl] at hR3
      subst hR3
      have HQ := Lib.hid (fail_c D 6 t2 r2 _ HP2.out)
      clear HR h4
      go_wp2_with fail
      refine HQ.out.mono ?_
      rintro e w3 ⟨rfl, rfl⟩
      go_wp2_with fail
      exact ⟨rfl, HK2.out, rfl⟩
  · have HO := Lib.hid (HA.out _ ha)
    rw [ha] at hR
    have hR4 : some (PR.bad pb eb) = some R := hR
    injection hR4 with hR4
    subst hR4
    clear hR ha HA
    go_enter Tryd.func33, Tryd.ntmps33
    go_wp2_with fail
    refine HO.out.mono ?_
    rintro e w1 ⟨hk1, rfl⟩
    go_wp2_with fail
    exact ⟨rfl, Hk0.out.trans hk1, rfl⟩
end Go.Proofs.YtbiiempgefjkiaaDoor.Ar
