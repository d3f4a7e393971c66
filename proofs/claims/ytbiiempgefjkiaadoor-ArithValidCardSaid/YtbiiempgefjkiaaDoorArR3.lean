/- arith: the parser's method conditional, over what is below it. -/
import Derived.Test.YtbiiempgefjkiaaDoorArR2
import Derived.Deep.RegionHeld3
namespace Go.Proofs.YtbiiempgefjkiaaDoor.Ar
open Go.RowKit
set_option linter.unusedVariables false

theorem kd_drew {D : Nat} {w w' : World} (h : Kd D w w') : Kd D w w'.drew := ⟨h.bel.drew, h.kept⟩
theorem node_three {w : World} {B : Nat} {x y z : Ex} {A A2 A3 : Option Addr} {cc cc2 cc3 : Nat} (op n : Int) (s : ByteArray) (hB : B ≤ w.heap.size) (hl : x.kids.length ≤ cc) (hm : cc ≤ maxLen) (hx : KidsAt w (Fresh B w) x.kids A)
    (hl2 : y.kids.length ≤ cc2) (hm2 : cc2 ≤ maxLen) (hy : KidsAt w (Fresh B w) y.kids A2) (hl3 : z.kids.length ≤ cc3) (hm3 : cc3 ≤ maxLen) (hz : KidsAt w (Fresh B w) z.kids A3) :
    ExAt (w.alloc (.cells #[.int .i64 x.op, .int .i64 x.n, .string x.name, .slice A x.kids.length cc, .int .i64 y.op, .int .i64 y.n, .string y.name, .slice A2 y.kids.length cc2, .int .i64 z.op, .int .i64 z.n, .string z.name, .slice A3 z.kids.length cc3] 24)) (Fresh B (w.alloc (.cells #[.int .i64 x.op, .int .i64 x.n, .string x.name, .slice A x.kids.length cc, .int .i64 y.op, .int .i64 y.n, .string y.name, .slice A2 y.kids.length cc2, .int .i64 z.op, .int .i64 z.n, .string z.name, .slice A3 z.kids.length cc3] 24))) (.mk op n s [x, y, z]) (.agg #[.int .i64 op, .int .i64 n, .string s, .slice (some ⟨w.heap.size, 0, none⟩) 3 3]) :=
  node_mk [(x, A, cc), (y, A2, cc2), (z, A3, cc3)] op n s hB (by unfold maxLen; simp) (fun q hq => by
    simp only [List.mem_cons, List.mem_nil_iff, or_false] at hq
    rcases hq with rfl | rfl | rfl
    · exact ⟨hl, hm, hx⟩
    · exact ⟨hl2, hm2, hy⟩
    · exact ⟨hl3, hm3, hz⟩)
set_option maxHeartbeats 8000000 in
set_option maxRecDepth 100000 in
theorem cnd_step (f : Nat) (ihA : AsgOk f) (ihC : CndOk f) (ihO : OpnOk f) : CndOk (f + 1) := by
  intro D T R w hR hG hP hE hgD
  obtain ⟨t, r, rfl⟩ := good_cell hG
  have hD := parAt_lt hP
  have hw0 := (Below.refl w.heap.size w).alloc (Nat.le_refl _) (.cells #[.int .i64 0, .int .i64 0, .string ⟨#[]⟩, .slice none 0 0] 24)
  have hn0 := heap_alloc_new w (.cells #[.int .i64 0, .int .i64 0, .string ⟨#[]⟩, .slice none 0 0] 24)
  have hP0 := parAt_keep hP hw0
  have hk0 := Kd.of hw0 (Nat.le_of_lt hD)
  have hE0 := env_next hE hw0
  have hz0 : (w.alloc (.cells #[.int .i64 0, .int .i64 0, .string ⟨#[]⟩, .slice none 0 0] 24)).heap.size = w.heap.size + 1 := by simp
  obtain ⟨b, off, c, p0, d0, d1, d2, hl, hm⟩ := par_text hP0
  have i0 : (0 : Int) < ((r.length + 1 : Nat) : Int) := by omega
  have Hk0 := Lib.hid hk0
  have Hn0 := Lib.hid hn0
  have Hz0 := Lib.hid hz0
  have HE0 := Lib.hid hE0
  have HP0 := Lib.hid hP0
  have HG := Lib.hid hG
  clear hP hE hn0 hk0 hw0 hz0 hE0 hP0 hG
  rw [cndF] at hR
  clear p0 d0 d1 d2 i0 hl hm
  have HA := Lib.hid ihA
  have HC := Lib.hid ihC
  clear ihA ihC
  rcases ha : opnF f 3 (t :: r) with _ | ⟨x, T1⟩ | ⟨pb, eb⟩
  · rw [ha] at hR; simp [PR.then] at hR
  · have HO := Lib.hid (ihO D 3 (t :: r) _ _ ha (by omega) HG.out HP0.out HE0.out hgD)
    rw [ha] at hR
    replace hR := (show (if eqB (hd T1).t ⟨#[63]⟩ = true then PR.then (asgF f T1.tail) fun b T2 => if eqB (hd T2).t ⟨#[58]⟩ = true then PR.then (cndF f T2.tail) fun c T3 => some (.ok (.mk 25 0 ⟨#[]⟩ [x, b, c]) T3) else some (.bad (hd T2).p 6) else some (.ok x T1)) = some R from hR)
    have HR := Lib.hid hR
    clear hR ha ihO
    go_enter Tryd.func64, Tryd.ntmps64
    go_wp2_with fail
    refine HO.out.mono ?_
    rintro e w1 ⟨hk1, hG1, hp1, v, rfl, hx⟩
    obtain ⟨A, cc, rfl, hxl, hxm, hxk⟩ := ex_open hx
    have hz0 := Hz0.out
    have hz1 := hk1.size (by omega)
    have hn1 := (hk1.kept w.heap.size (by omega) (by omega)).trans Hn0.out
    have hbx := (Below.refl w1.heap.size w1).alloc (Nat.le_refl _) (.cells #[.int .i64 x.op, .int .i64 x.n, .string x.name, .slice A x.kids.length cc] 24)
    have hnx := heap_alloc_new w1 (.cells #[.int .i64 x.op, .int .i64 x.n, .string x.name, .slice A x.kids.length cc] 24)
    have hzx : (w1.alloc (.cells #[.int .i64 x.op, .int .i64 x.n, .string x.name, .slice A x.kids.length cc] 24)).heap.size = w1.heap.size + 1 := by simp
    have hn2 := (hbx.block w.heap.size (by omega)).trans hn1
    have hk2 := (Hk0.out.trans hk1).trans (Kd.of hbx (by omega))
    have hp2 := parAt_keep hp1 hbx
    have hE2 := env_kd (env_kd HE0.out hk1 hgD) (Kd.of hbx (show D ≤ _ by omega)) hgD
    have hX2 : KidsAt (w1.alloc (.cells #[.int .i64 x.op, .int .i64 x.n, .string x.name, .slice A x.kids.length cc] 24)) (fun b => w.heap.size + 1 ≤ b ∧ b < w1.heap.size) x.kids A :=
      kids_keep (fun b hb => ⟨by have := hb.1; omega, hb.2⟩) (fun b o hb => hbx.cell (p := ⟨b, o, none⟩) hb.2) hxk
    have HX2 := Lib.hid hX2
    have HK2 := Lib.hid hk2
    have HP2 := Lib.hid hp2
    have HE2 := Lib.hid hE2
    have HN2 := Lib.hid hn2
    have HNX := Lib.hid hnx
    have HG1 := Lib.hid hG1
    obtain ⟨t1, r1, rfl⟩ := good_cell hG1
    clear HO hk1 hp1 hx hxk hn1 hbx hnx hn2 hk2 hp2 hE2 hX2 Hn0 Hk0 HE0 HP0 hG1
    by_cases h4 : eqB (hd (t1 :: r1)).t ⟨#[63]⟩ = true
    · have hR3 := HR.out
      rw [if_pos h4] at hR3
      replace h4 : eqB t1.t ⟨#[63]⟩ = true := h4
      obtain ⟨hr1, hG2, _, _, _⟩ := good_rest HG1.out (good_sym HG1.out h4 (by decide))
      have HQ := Lib.hid (accept_yes D t1 r1 ⟨#[63]⟩ _ HP2.out hr1 h4)
      rw [show (t1 :: r1).tail = r1 from rfl] at hR3
      have HG2 := Lib.hid hG2
      clear HR hG2 h4
      rcases hb : asgF f r1 with _ | ⟨y, T2⟩ | ⟨pb, eb⟩
      · rw [hb] at hR3; simp [PR.then] at hR3
      · rw [hb] at hR3
        replace hR3 := (show (if eqB (hd T2).t ⟨#[58]⟩ = true then PR.then (cndF f T2.tail) fun c T3 => some (.ok (.mk 25 0 ⟨#[]⟩ [x, y, c]) T3) else some (.bad (hd T2).p 6)) = some R from hR3)
        have HR3 := Lib.hid hR3
        have HB := Lib.hid hb
        clear hR3 hb
        go_wp2_with fail
        refine HQ.out.mono ?_
        rintro e w3 ⟨rfl, hp3, hk3⟩
        have hz3 := hk3.size (by omega)
        have HA3 := Lib.hid (HA.out D r1 _ w3 HB.out HG2.out hp3 (env_kd HE2.out hk3 hgD) hgD)
        have HN3 := Lib.hid ((hk3.kept w.heap.size (by omega) (by omega)).trans HN2.out)
        have HNX3 := Lib.hid ((hk3.kept w1.heap.size (by omega) (by omega)).trans HNX.out)
        have HX3 : Hid (KidsAt w3 (fun b => w.heap.size + 1 ≤ b ∧ b < w1.heap.size) x.kids A) := Lib.hid (kids_keep (fun b hb => hb) (fun b o hb => by have := hb.1; have := hb.2; simp only [World.cell?]; rw [hk3.kept b (by omega) (by omega)]) HX2.out)
        have HK3 := Lib.hid (HK2.out.trans hk3)
        have HE3 := Lib.hid (env_kd HE2.out hk3 hgD)
        clear hp3 hk3 HQ HN2 HNX HX2 HK2 HE2 HB HA HP2
        go_wp2_with fail
        refine HA3.out.mono ?_
        rintro e w4 ⟨hk4, hG4, hp4, v, rfl, hy⟩
        obtain ⟨A2, cc2, rfl, hyl, hym, hyk⟩ := ex_open hy
        have hz4 := hk4.size (by omega)
        have hby := (Below.refl w4.heap.size w4).alloc (Nat.le_refl _) (.cells #[.int .i64 y.op, .int .i64 y.n, .string y.name, .slice A2 y.kids.length cc2] 24)
        have hny := heap_alloc_new w4 (.cells #[.int .i64 y.op, .int .i64 y.n, .string y.name, .slice A2 y.kids.length cc2] 24)
        have hzy : (w4.alloc (.cells #[.int .i64 y.op, .int .i64 y.n, .string y.name, .slice A2 y.kids.length cc2] 24)).heap.size = w4.heap.size + 1 := by simp
        have HN5 := Lib.hid ((hby.block w.heap.size (by omega)).trans ((hk4.kept w.heap.size (by omega) (by omega)).trans HN3.out))
        have HNX5 := Lib.hid ((hby.block w1.heap.size (by omega)).trans ((hk4.kept w1.heap.size (by omega) (by omega)).trans HNX3.out))
        have HX5 : Hid (KidsAt (w4.alloc (.cells #[.int .i64 y.op, .int .i64 y.n, .string y.name, .slice A2 y.kids.length cc2] 24)) (fun b => w.heap.size + 1 ≤ b ∧ b < w1.heap.size) x.kids A) := Lib.hid (kids_keep (fun b hb => hb) (fun b o hb => by have := hb.1; have := hb.2; simp only [World.cell?]; rw [hby.block b (by omega), hk4.kept b (by omega) (by omega)]) HX3.out)
        have HY5 : Hid (KidsAt (w4.alloc (.cells #[.int .i64 y.op, .int .i64 y.n, .string y.name, .slice A2 y.kids.length cc2] 24)) (fun b => w3.heap.size ≤ b ∧ b < w4.heap.size) y.kids A2) := Lib.hid (kids_keep (fun b hb => hb) (fun b o hb => hby.cell (p := ⟨b, o, none⟩) hb.2) hyk)
        have HK5 := Lib.hid ((HK3.out.trans hk4).trans (Kd.of hby (by omega)))
        have HE5 := Lib.hid (env_kd (env_kd HE3.out hk4 hgD) (Kd.of hby (show D ≤ _ by omega)) hgD)
        have HP5 := Lib.hid (parAt_keep hp4 hby)
        have HNY5 := Lib.hid hny
        have HG4 := Lib.hid hG4
        obtain ⟨t2, r2, rfl⟩ := good_cell hG4
        clear HA3 hk4 hp4 hy hyk hby hny HN3 HNX3 HX3 HK3 HE3 hG4
        by_cases h5 : eqB (hd (t2 :: r2)).t ⟨#[58]⟩ = true
        · have hR4 := HR3.out
          rw [if_pos h5] at hR4
          replace h5 : eqB t2.t ⟨#[58]⟩ = true := h5
          obtain ⟨hr2, hG5, _, _, _⟩ := good_rest HG4.out (good_sym HG4.out h5 (by decide))
          have HQ := Lib.hid (expect_yes D t2 r2 ⟨#[58]⟩ _ HP5.out hr2 h5)
          rw [show (t2 :: r2).tail = r2 from rfl] at hR4
          have HG5 := Lib.hid hG5
          clear HR3 hG5 h5
          rcases hc : cndF f r2 with _ | ⟨z, T3⟩ | ⟨pb, eb⟩
          · rw [hc] at hR4; simp [PR.then] at hR4
          all_goals
            have HCC := Lib.hid hc
            rw [hc] at hR4
            go_wp2_with fail
            refine HQ.out.mono ?_
            rintro e w6 ⟨rfl, hp6, hk6⟩
            have hz6 := hk6.size (by omega)
            have hn6 := (hk6.kept w.heap.size (by omega) (by omega)).trans HN5.out
            have hx6 := (hk6.kept w1.heap.size (by omega) (by omega)).trans HNX5.out
            have hy6 := (hk6.kept w4.heap.size (by omega) (by omega)).trans HNY5.out
            have HX6 : Hid (KidsAt w6 (fun b => w.heap.size + 1 ≤ b ∧ b < w1.heap.size) x.kids A) := Lib.hid (kids_keep (fun b hb => hb) (fun b o hb => by have := hb.1; have := hb.2; simp only [World.cell?]; rw [hk6.kept b (by omega) (by omega)]) HX5.out)
            have HY6 : Hid (KidsAt w6 (fun b => w3.heap.size ≤ b ∧ b < w4.heap.size) y.kids A2) := Lib.hid (kids_keep (fun b hb => hb) (fun b o hb => by have := hb.1; have := hb.2; simp only [World.cell?]; rw [hk6.kept b (by omega) (by omega)]) HY5.out)
            have HK6 := Lib.hid (HK5.out.trans hk6)
            have hE6a : Env w6 := env_kd HE5.out hk6 hgD
            have hE6 : Env w6.drew := hE6a
            have HC6 := Lib.hid (HC.out D r2 _ w6.drew HCC.out HG5.out (parAt_heap hp6 (fun k _ => rfl)) hE6 hgD)
            have HN6 := Lib.hid hn6
            have HNX6 := Lib.hid hx6
            have HNY6 := Lib.hid hy6
            obtain ⟨⟨n0, n1, n2, n3⟩, nf⟩ := zero_cells hn6
            have x0 : w6.cell? ⟨w1.heap.size, 0, none⟩ = some (.int .i64 x.op) := by rw [Lib.cell_of_heap hx6]; rfl
            have x1 : w6.cell? ⟨w1.heap.size, 1, none⟩ = some (.int .i64 x.n) := by rw [Lib.cell_of_heap hx6]; rfl
            have x2 : w6.cell? ⟨w1.heap.size, 2, none⟩ = some (.string x.name) := by rw [Lib.cell_of_heap hx6]; rfl
            have x3 : w6.cell? ⟨w1.heap.size, 3, none⟩ = some (.slice A x.kids.length cc) := by rw [Lib.cell_of_heap hx6]; rfl
            have y0 : w6.cell? ⟨w4.heap.size, 0, none⟩ = some (.int .i64 y.op) := by rw [Lib.cell_of_heap hy6]; rfl
            have y1 : w6.cell? ⟨w4.heap.size, 1, none⟩ = some (.int .i64 y.n) := by rw [Lib.cell_of_heap hy6]; rfl
            have y2 : w6.cell? ⟨w4.heap.size, 2, none⟩ = some (.string y.name) := by rw [Lib.cell_of_heap hy6]; rfl
            have y3 : w6.cell? ⟨w4.heap.size, 3, none⟩ = some (.slice A2 y.kids.length cc2) := by rw [Lib.cell_of_heap hy6]; rfl
            have HZ6 := Lib.hid hz6
            clear hp6 hk6 HQ HN5 HNX5 HNY5 HX5 HY5 HK5 HE5 HCC HC HP5 hn6 hx6 hy6 hE6
          · have hR5 : some (PR.ok (.mk 25 0 ⟨#[]⟩ [x, y, z]) T3) = some R := hR4
            injection hR5 with hR5
            subst hR5
            clear hR4 hc
            go_wp2_with fail
            go_region_with ((go_at_call 64; refine HC6.out.mono ?_; rintro e w7 ⟨hk7, hG7, hp7, v, rfl, hz⟩; obtain ⟨A3, cc3, rfl, hzl, hzm, hzk⟩ := ex_open hz; have hz7 := hk7.size (show D < w6.heap.size by omega); have hx7 := (hk7.kept w1.heap.size (by omega) (show _ < w6.heap.size by omega)).trans HNX6.out; have hy7 := (hk7.kept w4.heap.size (by omega) (show _ < w6.heap.size by omega)).trans HNY6.out; have hn7 := (hk7.kept w.heap.size (by omega) (show _ < w6.heap.size by omega)).trans HN6.out; have xx0 : w7.cell? ⟨w1.heap.size, 0, none⟩ = some (.int .i64 x.op) := (by rw [Lib.cell_of_heap hx7]; rfl); have xx1 : w7.cell? ⟨w1.heap.size, 1, none⟩ = some (.int .i64 x.n) := (by rw [Lib.cell_of_heap hx7]; rfl); have xx2 : w7.cell? ⟨w1.heap.size, 2, none⟩ = some (.string x.name) := (by rw [Lib.cell_of_heap hx7]; rfl); have xx3 : w7.cell? ⟨w1.heap.size, 3, none⟩ = some (.slice A x.kids.length cc) := (by rw [Lib.cell_of_heap hx7]; rfl); have yy0 : w7.cell? ⟨w4.heap.size, 0, none⟩ = some (.int .i64 y.op) := (by rw [Lib.cell_of_heap hy7]; rfl); have yy1 : w7.cell? ⟨w4.heap.size, 1, none⟩ = some (.int .i64 y.n) := (by rw [Lib.cell_of_heap hy7]; rfl); have yy2 : w7.cell? ⟨w4.heap.size, 2, none⟩ = some (.string y.name) := (by rw [Lib.cell_of_heap hy7]; rfl); have yy3 : w7.cell? ⟨w4.heap.size, 3, none⟩ = some (.slice A2 y.kids.length cc2) := (by rw [Lib.cell_of_heap hy7]; rfl); have hlt7 : w.heap.size < w7.heap.size := (by have : w6.heap.size ≤ w7.heap.size := hz7; omega); have hna : ∀ o, (w7.alloc o).heap[w.heap.size]? = some (.cells #[.int .i64 0, .int .i64 0, .string ⟨#[]⟩, .slice none 0 0] 24 (0, 0)) := fun o => (Below.heap_alloc _ _ _ hlt7).trans hn7; have nn0 : ∀ o, (w7.alloc o).cell? ⟨w.heap.size, 0, none⟩ = some (.int .i64 0) := fun o => (zero_cells (hna o)).1.1; have nn1 : ∀ o, (w7.alloc o).cell? ⟨w.heap.size, 1, none⟩ = some (.int .i64 0) := fun o => (zero_cells (hna o)).1.2.1; have nn2 : ∀ o, (w7.alloc o).cell? ⟨w.heap.size, 2, none⟩ = some (.string ⟨#[]⟩) := fun o => (zero_cells (hna o)).1.2.2.1; have nn3 : ∀ o, (w7.alloc o).cell? ⟨w.heap.size, 3, none⟩ = some (.slice none 0 0) := fun o => (zero_cells (hna o)).1.2.2.2; have nnf : ∀ o j, (w7.alloc o).frozen? ⟨w.heap.size, j, none⟩ = false := fun o j => (zero_cells (hna o)).2 j; have HH7 := Lib.hid (And.intro hx7 (And.intro hy7 hn7)); have HI7 := Lib.hid (And.intro hk7 (And.intro hG7 hp7)); have HJ7 := Lib.hid (And.intro hzl (And.intro hzm hzk)); clear hx7 hy7 hn7 hna hlt7 hk7 hG7 hp7 hz hzl hzm hzk))
            all_goals
              have hk7 := HI7.out.1
              have hz7 := hk7.size (show D < w6.heap.size by have := HZ6.out; omega)
              have hz6 := HZ6.out
              have hn7 := HH7.out.2.2
              have hbx := (Below.refl w7.heap.size w7).alloc (Nat.le_refl _) (.cells #[.int .i64 x.op, .int .i64 x.n, .string x.name, .slice A x.kids.length cc, .int .i64 y.op, .int .i64 y.n, .string y.name, .slice A2 y.kids.length cc2, .int .i64 z.op, .int .i64 z.n, .string z.name, .slice A3 z.kids.length cc3] 24)
              have hw67 : w6.heap.size ≤ w7.heap.size := hz7
              have hX7 : KidsAt w7 (Fresh (w.heap.size + 1) w7) x.kids A := kids_keep (fun b hb => ⟨by have := hb.1; omega, by have := hb.2; omega⟩) (fun b o hb => by have := hb.1; have := hb.2; simp only [World.cell?]; rw [hk7.kept b (by omega) (show b < w6.heap.size by omega)]; rfl) HX6.out
              have hY7 : KidsAt w7 (Fresh (w.heap.size + 1) w7) y.kids A2 := kids_keep (fun b hb => ⟨by have := hb.1; omega, by have := hb.2; omega⟩) (fun b o hb => by have := hb.1; have := hb.2; simp only [World.cell?]; rw [hk7.kept b (by omega) (show b < w6.heap.size by omega)]; rfl) HY6.out
              have hZ7 : KidsAt w7 (Fresh (w.heap.size + 1) w7) z.kids A3 := kids_keep (fun b hb => ⟨by have h1 : w6.heap.size ≤ b := hb.1; omega, hb.2⟩) (fun b o _ => rfl) HJ7.out.2.2
              have hnode := node_three 25 0 ⟨#[]⟩ (show w.heap.size + 1 ≤ w7.heap.size by omega) hxl hxm hX7 hyl hym hY7 HJ7.out.1 HJ7.out.2.1 hZ7
              have HF := Lib.hid (ans_set hD (((kd_drew HK6.out).trans hk7).trans (Kd.of hbx (by omega))) (parAt_keep HI7.out.2.2 hbx) HI7.out.2.1 hnode)
              clear hk7 hn7 hbx hX7 hY7 hZ7 hnode
              go_wp2_with fail
              refine bodyPost_ret (v := .agg #[.int .i64 25, .int .i64 0, .string ⟨#[]⟩, .slice (some ⟨w7.heap.size, 0, none⟩) 3 3]) (by simp [results, Tryd.results64, go_sem, nn0, nn1, nn2, nn3]) rfl (HF.out _ _ _ _)
          · have hR5 : some (PR.bad pb eb) = some R := hR4
            injection hR5 with hR5
            subst hR5
            clear hR4 hc
            go_wp2_with fail
            refine wp_region_held_drew (S := fun V => V.cell? ⟨w1.heap.size, 0, none⟩ = some (.int .i64 x.op) ∧ V.cell? ⟨w1.heap.size, 1, none⟩ = some (.int .i64 x.n) ∧ V.cell? ⟨w1.heap.size, 2, none⟩ = some (.string x.name) ∧ V.cell? ⟨w1.heap.size, 3, none⟩ = some (.slice A x.kids.length cc) ∧ V.cell? ⟨w4.heap.size, 0, none⟩ = some (.int .i64 y.op) ∧ V.cell? ⟨w4.heap.size, 1, none⟩ = some (.int .i64 y.n) ∧ V.cell? ⟨w4.heap.size, 2, none⟩ = some (.string y.name) ∧ V.cell? ⟨w4.heap.size, 3, none⟩ = some (.slice A2 y.kids.length cc2)) (by kernel_rfl) ⟨x0, x1, x2, x3, y0, y1, y2, y3⟩ (fun hHeld => ?_)
            refine wpAnyH_take (i := 0) (v := .agg #[.int .i64 x.op, .int .i64 x.n, .string x.name, .slice A x.kids.length cc]) rfl (by kernel_rfl) (by kernel_rfl) (by kernel_rfl) (fun _ _ _ h => h) (Or.inl ⟨by rfl, ?_⟩) hHeld ?_
            · intro W hW
              obtain ⟨g0, g1, g2, g3, g4, g5, g6, g7⟩ := hW
              go_simp
            refine wpAnyH_take (i := 1) (v := .agg #[.int .i64 y.op, .int .i64 y.n, .string y.name, .slice A2 y.kids.length cc2]) rfl (by kernel_rfl) (by kernel_rfl) (by kernel_rfl) (fun _ _ _ h => h) (Or.inl ⟨by rfl, ?_⟩) hHeld ?_
            · intro W hW
              obtain ⟨g0, g1, g2, g3, g4, g5, g6, g7⟩ := hW
              go_simp
            refine wpAnyH_take (i := 2) (v := .pointer (some ⟨D, 0, none⟩)) rfl (by kernel_rfl) (by kernel_rfl) (by kernel_rfl) (fun _ _ _ h => h) (Or.inl ⟨by rfl, ?_⟩) hHeld ?_
            · intro W hW
              go_simp
            refine wpAnyH_ready (rs := [3]) (by kernel_rfl) (by simp) ?_
            refine AllReadyH.cons rfl (fun K hK => ?_) AllReadyH.nil
            go_simp
            refine HC6.out.mono ?_
            rintro e w7 ⟨hk7, rfl⟩
            exact ⟨rfl, (kd_drew HK6.out).trans hk7, rfl⟩
        · have hR4 := HR3.out
          rw [if_neg h5, Option.some.injEq] at hR4
          replace h5 : eqB t2.t ⟨#[58]⟩ = false := by simpa using (show ¬ eqB t2.t ⟨#[58]⟩ = true from h5)
          have HQ := Lib.hid (expect_no D t2 r2 ⟨#[58]⟩ _ HP5.out h5)
          rw [show (hd (t2 :: r2)).p = t2.p from rfl] at hR4
          subst hR4
          clear HR3 h5
          go_wp2_with fail
          refine HQ.out.mono ?_
          rintro e w6 ⟨rfl, rfl⟩
          go_wp2_with fail
          exact ⟨rfl, HK5.out, rfl⟩
      · rw [hb] at hR3
        have hR4 : some (PR.bad pb eb) = some R := hR3
        injection hR4 with hR4
        subst hR4
        have HB := Lib.hid hb
        clear hR3 hb
        go_wp2_with fail
        refine HQ.out.mono ?_
        rintro e w3 ⟨rfl, hp3, hk3⟩
        have hz3 := hk3.size (by omega)
        have HA3 := Lib.hid (HA.out D r1 _ w3 HB.out HG2.out hp3 (env_kd HE2.out hk3 hgD) hgD)
        have HK3 := Lib.hid (HK2.out.trans hk3)
        clear hp3 hk3 HQ HN2 HNX HX2 HK2 HE2 HB HA HP2
        go_wp2_with fail
        refine HA3.out.mono ?_
        rintro e w4 ⟨hk4, rfl⟩
        go_wp2_with fail
        exact ⟨rfl, HK3.out.trans hk4, rfl⟩
    · have hR3 := HR.out
      rw [if_neg h4, Option.some.injEq] at hR3
      replace h4 : eqB t1.t ⟨#[63]⟩ = false := by simpa using (show ¬ eqB t1.t ⟨#[63]⟩ = true from h4)
      subst hR3
      have HQ := Lib.hid (accept_no D t1 r1 ⟨#[63]⟩ _ HP2.out h4)
      obtain ⟨⟨c0, c1, c2, c3⟩, f0⟩ := zero_cells HN2.out
      have x0 : (w1.alloc (.cells #[.int .i64 x.op, .int .i64 x.n, .string x.name, .slice A x.kids.length cc] 24)).cell? ⟨w1.heap.size, 0, none⟩ = some (.int .i64 x.op) := by rw [Lib.cell_of_heap HNX.out]; rfl
      have x1 : (w1.alloc (.cells #[.int .i64 x.op, .int .i64 x.n, .string x.name, .slice A x.kids.length cc] 24)).cell? ⟨w1.heap.size, 1, none⟩ = some (.int .i64 x.n) := by rw [Lib.cell_of_heap HNX.out]; rfl
      have x2 : (w1.alloc (.cells #[.int .i64 x.op, .int .i64 x.n, .string x.name, .slice A x.kids.length cc] 24)).cell? ⟨w1.heap.size, 2, none⟩ = some (.string x.name) := by rw [Lib.cell_of_heap HNX.out]; rfl
      have x3 : (w1.alloc (.cells #[.int .i64 x.op, .int .i64 x.n, .string x.name, .slice A x.kids.length cc] 24)).cell? ⟨w1.heap.size, 3, none⟩ = some (.slice A x.kids.length cc) := by rw [Lib.cell_of_heap HNX.out]; rfl
      have hxx : ExAt (w1.alloc (.cells #[.int .i64 x.op, .int .i64 x.n, .string x.name, .slice A x.kids.length cc] 24)) (Fresh (w.heap.size + 1) (w1.alloc (.cells #[.int .i64 x.op, .int .i64 x.n, .string x.name, .slice A x.kids.length cc] 24))) x (.agg #[.int .i64 x.op, .int .i64 x.n, .string x.name, .slice A x.kids.length cc]) := ⟨A, cc, rfl, hxl, hxm, kids_keep (fun b hb => ⟨hb.1, by have := hb.2; omega⟩) (fun b o _ => rfl) HX2.out⟩
      have HF := Lib.hid (ans_set hD HK2.out HP2.out HG1.out hxx)
      clear HR h4 hxx
      go_wp2_with fail
      refine HQ.out.mono ?_
      rintro e w3 ⟨rfl, rfl⟩
      go_wp2_with fail
      refine bodyPost_ret (v := .agg #[.int .i64 x.op, .int .i64 x.n, .string x.name, .slice A x.kids.length cc]) (by simp [results, Tryd.results64, go_sem, c0, c1, c2, c3]) rfl (HF.out _ _ _ _)
  · have HO := Lib.hid (ihO D 3 (t :: r) _ _ ha (by omega) HG.out HP0.out HE0.out hgD)
    rw [ha] at hR
    have hR4 : some (PR.bad pb eb) = some R := hR
    injection hR4 with hR4
    subst hR4
    clear hR ha ihO
    go_enter Tryd.func64, Tryd.ntmps64
    go_wp2_with fail
    refine HO.out.mono ?_
    rintro e w1 ⟨hk1, rfl⟩
    go_wp2_with fail
    exact ⟨rfl, Hk0.out.trans hk1, rfl⟩
end Go.Proofs.YtbiiempgefjkiaaDoor.Ar
