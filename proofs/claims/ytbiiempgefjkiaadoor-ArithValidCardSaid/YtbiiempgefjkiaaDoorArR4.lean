/- arith: the parser's method operation, over what is below it. -/
import Derived.Test.YtbiiempgefjkiaaDoorArR3
import Derived.Deep.LoopGhost
namespace Go.Proofs.YtbiiempgefjkiaaDoor.Ar
open Go.RowKit
set_option linter.unusedVariables false

theorem binAt_lv (t : ByteArray) : (binAt t).1.lv ≤ 12 := by
  unfold binAt
  rcases h : findTx binL t with _ | b
  · decide
  · have hm : b ∈ binL := List.mem_of_find?_eq_some h
    have hall : ∀ b ∈ binL, b.lv ≤ 12 := by decide
    exact hall b hm
/-- The state of operation's loop. -/
structure LoopSt (D : Nat) (w : World) (X : Nat) (wr : World) (a : Ex) (A : Option Addr) (cc : Nat) (T : List Tok) : Prop where
  kd : Kd D w wr
  par : ParAt wr D T
  good : GoodT T
  env : Env wr
  res : wr.heap[w.heap.size]? = some (.cells #[.int .i64 0, .int .i64 0, .string ⟨#[]⟩, .slice none 0 0] 24 (0, 0))
  box : wr.heap[X]? = some (.cells #[.int .i64 a.op, .int .i64 a.n, .string a.name, .slice A a.kids.length cc] 24 (0, 0))
  len : a.kids.length ≤ cc
  max : cc ≤ maxLen
  kids : KidsAt wr (fun b => w.heap.size + 1 ≤ b ∧ b < wr.heap.size ∧ b ≠ X) a.kids A
  lt : X < wr.heap.size
  ord : w.heap.size + 1 ≤ X
/-- The state behind memory that was made, or a call that keeps all but the parser. -/
theorem LoopSt.keep {D : Nat} {w : World} {X : Nat} {wr w' : World} {a : Ex} {A : Option Addr} {cc : Nat} {T T' : List Tok} (h : LoopSt D w X wr a A cc T) (hD : D < w.heap.size) (hg : 0 < D) (hk : Kd D wr w') (hp : ParAt w' D T') (hG : GoodT T') : LoopSt D w X w' a A cc T' where
  kd := h.kd.trans hk
  par := hp
  good := hG
  env := env_kd h.env hk hg
  res := (hk.kept _ (by omega) (by have := h.lt; have := h.ord; omega)).trans h.res
  box := (hk.kept _ (by have := h.ord; omega) h.lt).trans h.box
  len := h.len
  max := h.max
  kids := by
    have hs := hk.size (show D < wr.heap.size by have := h.lt; have := h.ord; omega)
    exact kids_keep (fun b hb => ⟨hb.1, by have := hb.2.1; omega, hb.2.2⟩) (fun b o hb => by have := hb.1; have := hb.2.1; simp only [World.cell?]; rw [hk.kept b (by omega) (by omega)]) h.kids
  lt := by have hs := hk.size (show D < wr.heap.size by have := h.lt; have := h.ord; omega); have := h.lt; omega
  ord := h.ord
theorem LoopSt.below {D : Nat} {w : World} {X : Nat} {wr w' : World} {a : Ex} {A : Option Addr} {cc : Nat} {T : List Tok} (h : LoopSt D w X wr a A cc T) (hD : D < w.heap.size) (hg : 0 < D) (hb : Below wr.heap.size wr w') : LoopSt D w X w' a A cc T :=
  h.keep hD hg (Kd.of hb (by have := h.lt; have := h.ord; omega)) (parAt_keep h.par hb) h.good
theorem LoopSt.drew {D : Nat} {w : World} {X : Nat} {wr : World} {a : Ex} {A : Option Addr} {cc : Nat} {T : List Tok} (h : LoopSt D w X wr a A cc T) (hD : D < w.heap.size) (hg : 0 < D) : LoopSt D w X wr.drew a A cc T :=
  h.below hD hg (Below.refl _ _).drew
/-- One operator more. -/
theorem LoopSt.next {D : Nat} {w : World} {X : Nat} {wr : World} {a y : Ex} {A A2 : Option Addr} {cc cc2 op : Nat} {T : List Tok} (h : LoopSt D w X wr a A cc T) (hD : D < w.heap.size) (hg : 0 < D) {B : Nat} (hB : X < B) (hl : y.kids.length ≤ cc2) (hm : cc2 ≤ maxLen) (hy : KidsAt wr (Fresh B wr) y.kids A2) :
    LoopSt D w X (set4 (wr.alloc (.cells #[.int .i64 a.op, .int .i64 a.n, .string a.name, .slice A a.kids.length cc, .int .i64 y.op, .int .i64 y.n, .string y.name, .slice A2 y.kids.length cc2] 24)) X (.int .i64 op) (.int .i64 0) (.string ⟨#[]⟩) (.slice (some ⟨wr.heap.size, 0, none⟩) 2 2)) (.mk op 0 ⟨#[]⟩ [a, y]) (some ⟨wr.heap.size, 0, none⟩) 2 T := by
  have hlt := h.lt
  have hor := h.ord
  have hb := (Below.refl wr.heap.size wr).alloc (Nat.le_refl _) (.cells #[.int .i64 a.op, .int .i64 a.n, .string a.name, .slice A a.kids.length cc, .int .i64 y.op, .int .i64 y.n, .string y.name, .slice A2 y.kids.length cc2] 24)
  have h2 := h.below hD hg hb
  have hz : (wr.alloc (.cells #[.int .i64 a.op, .int .i64 a.n, .string a.name, .slice A a.kids.length cc, .int .i64 y.op, .int .i64 y.n, .string y.name, .slice A2 y.kids.length cc2] 24)).heap.size = wr.heap.size + 1 := by simp
  refine ⟨⟨set4_below h2.kd.bel (by omega) _ _ _ _, fun k hkD hkw => (set4_heap _ _ _ _ _ _ k (by omega)).trans (h2.kd.kept k hkD hkw)⟩, parAt_heap h2.par fun k hkD => set4_heap _ _ _ _ _ _ k (by omega), h2.good, ?_, (set4_heap _ _ _ _ _ _ _ (by omega)).trans h2.res, ?_, by simp [Ex.kids], by unfold maxLen; omega, ?_, by rw [set4_size]; exact h2.lt, h.ord⟩
  · obtain ⟨t0, fr, he⟩ := h2.env
    exact ⟨t0, fr, (set4_heap _ _ _ _ _ _ _ (by omega)).trans he⟩
  · have hbx := h2.box
    unfold set4
    have e1 : ((wr.alloc (.cells #[.int .i64 a.op, .int .i64 a.n, .string a.name, .slice A a.kids.length cc, .int .i64 y.op, .int .i64 y.n, .string y.name, .slice A2 y.kids.length cc2] 24)).setCell ⟨X, 0, none⟩ (.int .i64 op)).heap[X]? = some (.cells #[.int .i64 op, .int .i64 a.n, .string a.name, .slice A a.kids.length cc] 24 (0, 0)) := heap_setCell_same _ _ _ _ _ _ hbx
    have e2 : (((wr.alloc (.cells #[.int .i64 a.op, .int .i64 a.n, .string a.name, .slice A a.kids.length cc, .int .i64 y.op, .int .i64 y.n, .string y.name, .slice A2 y.kids.length cc2] 24)).setCell ⟨X, 0, none⟩ (.int .i64 op)).setCell ⟨X, 1, none⟩ (.int .i64 0)).heap[X]? = some (.cells #[.int .i64 op, .int .i64 0, .string a.name, .slice A a.kids.length cc] 24 (0, 0)) := heap_setCell_same _ _ _ _ _ _ e1
    have e3 : ((((wr.alloc (.cells #[.int .i64 a.op, .int .i64 a.n, .string a.name, .slice A a.kids.length cc, .int .i64 y.op, .int .i64 y.n, .string y.name, .slice A2 y.kids.length cc2] 24)).setCell ⟨X, 0, none⟩ (.int .i64 op)).setCell ⟨X, 1, none⟩ (.int .i64 0)).setCell ⟨X, 2, none⟩ (.string ⟨#[]⟩)).heap[X]? = some (.cells #[.int .i64 op, .int .i64 0, .string ⟨#[]⟩, .slice A a.kids.length cc] 24 (0, 0)) := heap_setCell_same _ _ _ _ _ _ e2
    exact heap_setCell_same _ _ _ _ _ _ e3
  · refine kids_keep (ok := fun b => w.heap.size + 1 ≤ b ∧ b < (wr.alloc (.cells #[.int .i64 a.op, .int .i64 a.n, .string a.name, .slice A a.kids.length cc, .int .i64 y.op, .int .i64 y.n, .string y.name, .slice A2 y.kids.length cc2] 24)).heap.size ∧ b ≠ X) (fun b hb => ⟨hb.1, by rw [set4_size]; exact hb.2.1, hb.2.2⟩) (fun b o hb => set4_cell _ _ _ _ _ _ b o hb.2.2) ?_
    refine kids_row (l := [(a, A, cc), (y, A2, cc2)]) ⟨by omega, by omega, by omega⟩ (heap_alloc_new wr _) fun q hq => ?_
    simp only [List.mem_cons, List.mem_nil_iff, or_false] at hq
    rcases hq with rfl | rfl
    · exact ⟨h.len, h.max, h2.kids⟩
    · exact ⟨hl, hm, kids_keep (fun b hb' => ⟨by have := hb'.1; omega, by have := hb'.2; omega, by have := hb'.1; omega⟩) (fun b o hb' => hb.cell (p := ⟨b, o, none⟩) hb'.2) hy⟩
theorem LoopSt.cells {D : Nat} {w : World} {X : Nat} {wr : World} {a : Ex} {A : Option Addr} {cc : Nat} {T : List Tok} (h : LoopSt D w X wr a A cc T) :
    (wr.cell? ⟨X, 0, none⟩ = some (.int .i64 a.op) ∧ wr.cell? ⟨X, 1, none⟩ = some (.int .i64 a.n) ∧ wr.cell? ⟨X, 2, none⟩ = some (.string a.name) ∧ wr.cell? ⟨X, 3, none⟩ = some (.slice A a.kids.length cc)) ∧ ∀ j, wr.frozen? ⟨X, j, none⟩ = false := by
  refine ⟨⟨?_, ?_, ?_, ?_⟩, fun j => Lib.frozen_of_heap h.box j⟩ <;> (rw [Lib.cell_of_heap h.box]; rfl)
theorem LoopSt.ex {D : Nat} {w : World} {X : Nat} {wr : World} {a : Ex} {A : Option Addr} {cc : Nat} {T : List Tok} (h : LoopSt D w X wr a A cc T) :
    ExAt wr (Fresh (w.heap.size + 1) wr) a (.agg #[.int .i64 a.op, .int .i64 a.n, .string a.name, .slice A a.kids.length cc]) :=
  ⟨A, cc, rfl, h.len, h.max, kids_keep (fun b hb => ⟨hb.1, hb.2.1⟩) (fun b o _ => rfl) h.kids⟩
set_option maxHeartbeats 16000000 in
set_option maxRecDepth 100000 in
theorem opn_step (f : Nat) (ihU : UnaOk f) (ihO : ∀ g, g < f → OpnOk g) : OpnOk (f + 1) := by
  intro D l T R w hR hl100 hG hP hE hgD
  obtain ⟨t, r, rfl⟩ := good_cell hG
  have hD := parAt_lt hP
  have hw0 := (Below.refl w.heap.size w).alloc (Nat.le_refl _) (.cells #[.int .i64 0, .int .i64 0, .string ⟨#[]⟩, .slice none 0 0] 24)
  have hn0 := heap_alloc_new w (.cells #[.int .i64 0, .int .i64 0, .string ⟨#[]⟩, .slice none 0 0] 24)
  have hP0 := parAt_keep hP hw0
  have hk0 := Kd.of hw0 (Nat.le_of_lt hD)
  have hE0 := env_next hE hw0
  have hz0 : (w.alloc (.cells #[.int .i64 0, .int .i64 0, .string ⟨#[]⟩, .slice none 0 0] 24)).heap.size = w.heap.size + 1 := by simp
  have HE0 := Lib.hid hE0
  have Hk0 := Lib.hid hk0
  have Hn0 := Lib.hid hn0
  have Hz0 := Lib.hid hz0
  have HU := Lib.hid (fun R' (h : unaF f (t :: r) = some R') => ihU D (t :: r) R' _ h hG hP0 hE0 hgD)
  have HI := Lib.hid ihO
  clear hP hE hn0 hk0 hw0 hz0 hE0 hP0 hG ihU ihO
  rw [opnF] at hR
  rcases ha : unaF f (t :: r) with _ | ⟨x, T1⟩ | ⟨pb, eb⟩
  · rw [ha] at hR; simp [PR.then] at hR
  · rw [ha] at hR
    replace hR := (show lopF f l x T1 = some R from hR)
    have HO := Lib.hid (HU.out _ ha)
    have HR := Lib.hid hR
    clear hR ha HU
    go_enter Tryd.func73, Tryd.ntmps73
    go_wp2_with fail
    refine HO.out.mono ?_
    rintro e w1 ⟨hk1, hG1, hp1, v, rfl, hx⟩
    obtain ⟨A, cc, rfl, hxl, hxm, hxk⟩ := ex_open hx
    have hz0 := Hz0.out
    have hz1 := hk1.size (by omega)
    have hbx := (Below.refl w1.heap.size w1).alloc (Nat.le_refl _) (.cells #[.int .i64 x.op, .int .i64 x.n, .string x.name, .slice A x.kids.length cc] 24)
    have hzx : (w1.alloc (.cells #[.int .i64 x.op, .int .i64 x.n, .string x.name, .slice A x.kids.length cc] 24)).heap.size = w1.heap.size + 1 := by simp
    have hL : LoopSt D w w1.heap.size (w1.alloc (.cells #[.int .i64 x.op, .int .i64 x.n, .string x.name, .slice A x.kids.length cc] 24)) x A cc T1 := {
      kd := (Hk0.out.trans hk1).trans (Kd.of hbx (by omega))
      par := parAt_keep hp1 hbx
      good := hG1
      env := env_kd (env_kd HE0.out hk1 hgD) (Kd.of hbx (show D ≤ _ by omega)) hgD
      res := (hbx.block w.heap.size (by omega)).trans ((hk1.kept w.heap.size (by omega) (by omega)).trans Hn0.out)
      box := heap_alloc_new w1 _
      len := hxl
      max := hxm
      kids := kids_keep (fun b hb => ⟨by have := hb.1; omega, by have := hb.2; omega, by have := hb.2; omega⟩) (fun b o hb => hbx.cell (p := ⟨b, o, none⟩) hb.2) hxk
      lt := by omega
      ord := by omega }
    have HL := Lib.hid hL
    have hXo : w.heap.size + 1 ≤ w1.heap.size := by omega
    clear HO hk1 hp1 hx hxk hbx hL hG1 Hn0 Hk0 hxl hxm
    clear hzx hz1 hz0 Hz0
    go_wp2_with fail
    go_loopg [] f (fun g wr => ∃ (a : Ex) (A : Option Addr) (cc : Nat) (T1 : List Tok), Hid (lopF g l a T1 = some R) ∧ g ≤ f ∧ Hid (LoopSt D w w1.heap.size wr a A cc T1))
    case atStart => exact ⟨x, A, cc, T1, HR, Nat.le_refl _, HL⟩
    case round =>
      obtain ⟨a, A, cc, T1, hlop, hgf, hst⟩ := hrel
      clear HR HL
      obtain ⟨g, rfl⟩ : ∃ g, gk = g + 1 := by
        rcases gk with _ | g
        · have := hlop.out; simp [lopF] at this
        · exact ⟨g, rfl⟩
      obtain ⟨t1, r1, rfl⟩ := good_cell hst.out.good
      have hlop1 := hlop.out
      rw [lopF] at hlop1
      rw [show (hd (t1 :: r1)).t = t1.t from rfl, show (t1 :: r1).tail = r1 from rfl] at hlop1
      obtain ⟨b, off, c, p0, d0, d1, d2, hl, hm⟩ := par_text hst.out.par
      have i0 : (0 : Int) < ((r1.length + 1 : Nat) : Int) := by omega
      have HB := Lib.hid (binaryAt_c t1.t wr hst.out.env)
      have hlv12 := binAt_lv t1.t
      have hkk : (binAt t1.t).2 = true → t1.k ≠ 0 := by
        intro h2
        have h3 : t1.t.size ≠ 0 := by
          intro e
          have e2 : t1.t = ⟨#[]⟩ := ByteArray.ext (Array.eq_empty_of_size_eq_zero e)
          rw [e2] at h2
          exact absurd h2 (by decide)
        have := good_text hst.out.good (show (hd (t1 :: r1)).t.size ≠ 0 from h3)
        exact this
      generalize binAt t1.t = bb at *
      obtain ⟨⟨bt, bo, lv, ag⟩, ok⟩ := bb
      unfold bnV at HB
      simp only at hlop1 hlv12 hkk HB
      by_cases hcond : (ok && decide (l ≤ lv)) = true
      · rw [if_pos hcond] at hlop1
        rw [Bool.and_eq_true, decide_eq_true_iff] at hcond
        obtain ⟨rfl, hle⟩ := hcond
        have tl : decide ((lv : Int) < (l : Int)) = false := decide_eq_false (by omega)
        have tl' : decide (lv < l) = false := decide_eq_false (by omega)
        obtain ⟨hr1, hG2, _, _, _⟩ := good_rest hst.out.good (hkk rfl)
        have HG2 := Lib.hid hG2
        have wlv : IntKind.i64.wrap ((lv : Int) + 1) = (lv : Int) + 1 := IntWalk.i64_in _ (by omega)
        rcases hb : opnF g (lv + 1) r1 with _ | ⟨y, T2⟩ | ⟨pb, eb⟩
        · rw [hb] at hlop1; simp [PR.then] at hlop1
        all_goals
          rw [hb] at hlop1
          have Hb := Lib.hid hb
          have Hlop1 := Lib.hid hlop1
          have Hle := Lib.hid hle
          clear hb hlop1 hkk hlop hG2 hle
          go_wp2_with fail
          refine HB.out.mono ?_
          rintro e wb ⟨rfl, hbb⟩
          have hs1 := hst.out.below hD hgD hbb
          have hb6 := (Below.refl wb.heap.size wb).alloc (Nat.le_refl _) (.cells #[.string bt, .int .i64 bo, .int .i64 lv, .bool ag] 82)
          have hs6 := hs1.below hD hgD hb6
          have hn6 := heap_alloc_new wb (.cells #[.string bt, .int .i64 bo, .int .i64 lv, .bool ag] 82)
          have hX6 : w1.heap.size < wb.heap.size := hs1.lt
          have HS6 := Lib.hid (skip_c D t1 r1 _ hs6.par hr1)
          have Hs6 := Lib.hid hs6
          have Hn6 := Lib.hid hn6
          clear HB hbb hs1 hb6 hs6 hn6 p0 d0 d1 d2 hst
          go_wp2_with fail
          refine HS6.out.mono ?_
          rintro e w7 ⟨rfl, hp7, hk7⟩
          have hs7 := Hs6.out.keep hD hgD hk7 hp7 HG2.out
          have hzb : (wb.alloc (.cells #[.string bt, .int .i64 bo, .int .i64 lv, .bool ag] 82)).heap.size = wb.heap.size + 1 := by simp
          have hz7 := hk7.size (show D < (wb.alloc (.cells #[.string bt, .int .i64 bo, .int .i64 lv, .bool ag] 82)).heap.size by omega)
          have hn7 := (hk7.kept wb.heap.size (by omega) (by omega)).trans Hn6.out
          have k0 : w7.cell? ⟨wb.heap.size, 1, none⟩ = some (.int .i64 bo) := by rw [Lib.cell_of_heap hn7]; rfl
          have k1 : w7.cell? ⟨wb.heap.size, 2, none⟩ = some (.int .i64 lv) := by rw [Lib.cell_of_heap hn7]; rfl
          obtain ⟨⟨x0, x1, x2, x3⟩, xf⟩ := hs7.cells
          have HC7 := Lib.hid ((HI.out g (by omega)) D (lv + 1) r1 _ w7.drew Hb.out (by omega) HG2.out (hs7.drew hD hgD).par (hs7.drew hD hgD).env hgD)
          have Hs7 := Lib.hid hs7
          have Hn7 := Lib.hid hn7
          have HX7 := Lib.hid (show wb.heap.size + 1 ≤ w7.heap.size by omega)
          clear HS6 hp7 hk7 Hs6 Hn6 hs7 hz7 hn7 hzb HI Hb
          rw [show (((lv + 1 : Nat) : Nat) : Int) = (lv : Int) + 1 by omega] at HC7
        · replace Hlop1 : Hid (lopF g l (.mk bo 0 ⟨#[]⟩ [a, y]) T2 = some R) := Lib.hid Hlop1.out
          go_wp2_with fail
          go_region_with ((go_at_call 73; refine HC7.out.mono ?_; rintro e w8 ⟨hk8, hG8, hp8, v, rfl, hz⟩; obtain ⟨A2, cc2, rfl, hzl, hzm, hzk⟩ := ex_open hz; have hs8 := (Hs7.out.drew hD hgD).keep hD hgD hk8 hp8 hG8; have hn8 := (hk8.kept wb.heap.size (by omega) (show wb.heap.size < w7.heap.size by have := HX7.out; omega)).trans Hn7.out; have hz8 := hk8.size (show D < w7.heap.size by have := HX7.out; omega); have hz8' : w7.heap.size ≤ w8.heap.size := hz8; have kk0 : w8.cell? ⟨wb.heap.size, 1, none⟩ = some (.int .i64 bo) := (by rw [Lib.cell_of_heap hn8]; rfl); have kk1 : w8.cell? ⟨wb.heap.size, 2, none⟩ = some (.int .i64 lv) := (by rw [Lib.cell_of_heap hn8]; rfl); have hna : ∀ o, (w8.alloc o).heap[wb.heap.size]? = some (.cells #[.string bt, .int .i64 bo, .int .i64 lv, .bool ag] 82 (0, 0)) := (fun o => (Below.heap_alloc _ _ _ (by have := HX7.out; omega)).trans hn8); have ka0 : ∀ o, (w8.alloc o).cell? ⟨wb.heap.size, 1, none⟩ = some (.int .i64 bo) := (fun o => by rw [Lib.cell_of_heap (hna o)]; rfl); have ka1 : ∀ o, (w8.alloc o).cell? ⟨wb.heap.size, 2, none⟩ = some (.int .i64 lv) := (fun o => by rw [Lib.cell_of_heap (hna o)]; rfl); obtain ⟨⟨xx0, xx1, xx2, xx3⟩, xxf⟩ := hs8.cells; have hsa : ∀ o, LoopSt D w w1.heap.size (w8.alloc o) a A cc T2 := (fun o => hs8.below hD hgD ((Below.refl w8.heap.size w8).alloc (Nat.le_refl _) o)); have nn0 : ∀ o, (w8.alloc o).cell? ⟨w1.heap.size, 0, none⟩ = some (.int .i64 a.op) := (fun o => (hsa o).cells.1.1); have nn1 : ∀ o, (w8.alloc o).cell? ⟨w1.heap.size, 1, none⟩ = some (.int .i64 a.n) := (fun o => (hsa o).cells.1.2.1); have nn2 : ∀ o, (w8.alloc o).cell? ⟨w1.heap.size, 2, none⟩ = some (.string a.name) := (fun o => (hsa o).cells.1.2.2.1); have nn3 : ∀ o, (w8.alloc o).cell? ⟨w1.heap.size, 3, none⟩ = some (.slice A a.kids.length cc) := (fun o => (hsa o).cells.1.2.2.2); have nnf : ∀ o j, (w8.alloc o).frozen? ⟨w1.heap.size, j, none⟩ = false := (fun o j => (hsa o).cells.2 j); have HI8 := Lib.hid (And.intro hs8 (And.intro hzl (And.intro hzm hzk))); clear hk8 hG8 hp8 hz hzl hzm hzk hs8 hn8 hz8 hz8' hsa hna))
          all_goals
            have hnx := HI8.out.1.next hD hgD (op := bo) (show w1.heap.size < w7.heap.size by have := HX7.out; omega) HI8.out.2.1 HI8.out.2.2.1 HI8.out.2.2.2
            have Hnx := Lib.hid hnx
            clear hnx
            go_wp2_with fail
            go_roundg g
            case measure => omega
            case rel => exact ⟨_, _, _, T2, Hlop1, by omega, Hnx⟩
        · have hR4 : some (PR.bad pb eb) = some R := Hlop1.out
          injection hR4 with hR4
          subst hR4
          clear Hlop1
          go_wp2_with fail
          refine wp_region_held_drew (S := fun V => V.cell? ⟨wb.heap.size, 1, none⟩ = some (.int .i64 bo) ∧ V.cell? ⟨wb.heap.size, 2, none⟩ = some (.int .i64 lv) ∧ V.cell? ⟨w1.heap.size, 0, none⟩ = some (.int .i64 a.op) ∧ V.cell? ⟨w1.heap.size, 1, none⟩ = some (.int .i64 a.n) ∧ V.cell? ⟨w1.heap.size, 2, none⟩ = some (.string a.name) ∧ V.cell? ⟨w1.heap.size, 3, none⟩ = some (.slice A a.kids.length cc)) (by kernel_rfl) ⟨k0, k1, x0, x1, x2, x3⟩ (fun hHeld => ?_)
          refine wpAnyH_take (i := 0) (v := .pointer (some ⟨wb.heap.size, 1, none⟩)) rfl (by kernel_rfl) (by kernel_rfl) (by kernel_rfl) (fun _ _ _ h => h) (Or.inl ⟨by rfl, ?_⟩) hHeld ?_
          · intro W hW
            obtain ⟨g0, g1, g2, g3, g4, g5⟩ := hW
            go_simp
          refine wpAnyH_take (i := 1) (v := .int .i64 bo) rfl (by kernel_rfl) (by kernel_rfl) (by kernel_rfl) (fun _ _ _ h => h) (Or.inl ⟨by rfl, ?_⟩) hHeld ?_
          · intro W hW
            obtain ⟨g0, g1, g2, g3, g4, g5⟩ := hW
            go_simp
          refine wpAnyH_take (i := 2) (v := .agg #[.int .i64 a.op, .int .i64 a.n, .string a.name, .slice A a.kids.length cc]) rfl (by kernel_rfl) (by kernel_rfl) (by kernel_rfl) (fun _ _ _ h => h) (Or.inl ⟨by rfl, ?_⟩) hHeld ?_
          · intro W hW
            obtain ⟨g0, g1, g2, g3, g4, g5⟩ := hW
            go_simp
          refine wpAnyH_take (i := 3) (v := .pointer (some ⟨D, 0, none⟩)) rfl (by kernel_rfl) (by kernel_rfl) (by kernel_rfl) (fun _ _ _ h => h) (Or.inl ⟨by rfl, ?_⟩) hHeld ?_
          · intro W hW
            go_simp
          refine wpAnyH_take (i := 4) (v := .pointer (some ⟨wb.heap.size, 2, none⟩)) rfl (by kernel_rfl) (by kernel_rfl) (by kernel_rfl) (fun _ _ _ h => h) (Or.inl ⟨by rfl, ?_⟩) hHeld ?_
          · intro W hW
            obtain ⟨g0, g1, g2, g3, g4, g5⟩ := hW
            go_simp
          refine wpAnyH_take (i := 5) (v := .int .i64 lv) rfl (by kernel_rfl) (by kernel_rfl) (by kernel_rfl) (fun _ _ _ h => h) (Or.inl ⟨by rfl, ?_⟩) hHeld ?_
          · intro W hW
            obtain ⟨g0, g1, g2, g3, g4, g5⟩ := hW
            go_simp
          refine wpAnyH_take (i := 6) (v := .int .i64 ((lv : Int) + 1)) rfl (by kernel_rfl) (by kernel_rfl) (by kernel_rfl) (fun _ _ _ h => h) (Or.inl ⟨by rfl, ?_⟩) hHeld ?_
          · intro W hW
            go_simp
          refine wpAnyH_ready (rs := [7]) (by kernel_rfl) (by simp) ?_
          refine AllReadyH.cons rfl (fun K hK => ?_) AllReadyH.nil
          go_simp
          refine HC7.out.mono ?_
          rintro e w8 ⟨hk8, rfl⟩
          exact ⟨rfl, (kd_drew Hs7.out.kd).trans hk8, rfl⟩
      · rw [if_neg hcond, Option.some.injEq] at hlop1
        subst hlop1
        have hok : ok = false ∨ (ok = true ∧ lv < l) := by
          rcases ok with _ | _
          · exact .inl rfl
          · exact .inr ⟨rfl, by simpa using hcond⟩
        clear hcond hkk hlop
        rcases hok with rfl | ⟨rfl, hlt⟩
        all_goals
          first
          | (have tl : decide ((lv : Int) < (l : Int)) = true := decide_eq_true (by omega)
             have tl' : decide (lv < l) = true := decide_eq_true (by omega))
          | skip
          go_wp2_with fail
          refine HB.out.mono ?_
          rintro e wb ⟨rfl, hbb⟩
          have hs1 := hst.out.below hD hgD hbb
          have hs6 := hs1.below hD hgD ((Below.refl wb.heap.size wb).alloc (Nat.le_refl _) (.cells #[.string bt, .int .i64 bo, .int .i64 lv, .bool ag] 82))
          have hX6 : w1.heap.size < wb.heap.size := hs1.lt
          obtain ⟨⟨x0, x1, x2, x3⟩, xf⟩ := hs6.cells
          obtain ⟨⟨c0, c1, c2, c3⟩, f0⟩ := zero_cells hs6.res
          have HF := Lib.hid (ans_set hD hs6.kd hs6.par hs6.good hs6.ex)
          clear HB hbb hs1 hs6 p0 d0 d1 d2 hst HI
          go_wp2_with fail
          refine bodyPost_ret (v := .agg #[.int .i64 a.op, .int .i64 a.n, .string a.name, .slice A a.kids.length cc]) (by simp [results, Tryd.results73, go_sem, c0, c1, c2, c3]) rfl (HF.out _ _ _ _)
  · have HO := Lib.hid (HU.out _ ha)
    rw [ha] at hR
    have hR4 : some (PR.bad pb eb) = some R := hR
    injection hR4 with hR4
    subst hR4
    clear hR ha HU HI
    go_enter Tryd.func73, Tryd.ntmps73
    go_wp2_with fail
    refine HO.out.mono ?_
    rintro e w1 ⟨hk1, rfl⟩
    go_wp2_with fail
    exact ⟨rfl, Hk0.out.trans hk1, rfl⟩
end Go.Proofs.YtbiiempgefjkiaaDoor.Ar
