/- arith: Parse. -/
import Derived.Test.YtbiiempgefjkiaaDoorArR5
import Derived.Recover
import Derived.Defers
namespace Go.Proofs.YtbiiempgefjkiaaDoor.Ar
open Go.RowKit
set_option linter.unusedVariables false

theorem as_fail (v : Value) (W : World) : (Instr.typeAssert (.iface 59 v) 20 59 true).run Tryd.prog W = .ok (.tuple #[v, .bool true]) W := by kernel_rfl
theorem as_nilf (W : World) : (Instr.typeAssert .nilIface 20 59 true).run Tryd.prog W = .ok (.tuple #[.agg #[.int .i64 0, .int .i64 0], .bool false]) W := by kernel_rfl
set_option maxHeartbeats 2000000 in
theorem catchP (N p e : Nat) (w : World) (h1 : w.heap[N + 1]? = some (.cells #[.int .i64 0] 3 (0, 0))) (h2 : w.heap[N + 2]? = some (.cells #[.int .i64 0] 27 (0, 0))) :
    CallsD Tryd.prog 31 #[.pointer (some ⟨N + 1, 0, none⟩), .pointer (some ⟨N + 2, 0, none⟩)] (.panicking (errP p e)) w fun e' u' w' =>
      e' = .returned (.tuple #[]) ∧ u' = .panicking [{ v := .iface 59 (.agg #[.int .i64 p, .int .i64 e]), recovered := true }] ∧ Below N w w' ∧ w'.heap[N]? = w.heap[N]? ∧ w'.cell? ⟨N + 1, 0, none⟩ = some (.int .i64 p) ∧ w'.cell? ⟨N + 2, 0, none⟩ = some (.int .i64 e) := by
  unfold errP
  have l1 := (Array.getElem?_eq_some_iff.1 h1).1
  have l2 := (Array.getElem?_eq_some_iff.1 h2).1
  have c1 : ∀ o, (w.alloc o).cell? ⟨N + 1, 0, none⟩ = some (.int .i64 0) := fun o => by rw [Lib.cell_of_heap (by rw [Below.heap_alloc _ _ _ l1]; exact h1)]; rfl
  have c2 : ∀ o, (w.alloc o).cell? ⟨N + 2, 0, none⟩ = some (.int .i64 0) := fun o => by rw [Lib.cell_of_heap (by rw [Below.heap_alloc _ _ _ l2]; exact h2)]; rfl
  have f1 : ∀ o, (w.alloc o).frozen? ⟨N + 1, 0, none⟩ = false := fun o => Lib.frozen_of_heap (by rw [Below.heap_alloc _ _ _ l1]; exact h1) 0
  have f2 : ∀ o, (w.alloc o).frozen? ⟨N + 2, 0, none⟩ = false := fun o => Lib.frozen_of_heap (by rw [Below.heap_alloc _ _ _ l2]; exact h2) 0
  have g1 : w.cell? ⟨N + 1, 0, none⟩ = some (.int .i64 0) := by rw [Lib.cell_of_heap h1]; rfl
  have g2 : w.cell? ⟨N + 2, 0, none⟩ = some (.int .i64 0) := by rw [Lib.cell_of_heap h2]; rfl
  have j1 : w.frozen? ⟨N + 1, 0, none⟩ = false := Lib.frozen_of_heap h1 0
  have j2 : w.frozen? ⟨N + 2, 0, none⟩ = false := Lib.frozen_of_heap h2 0
  refine callsD_of_wpS Tryd.func31 rfl fun c₀ cs hu => ?_
  apply wpS_seq
  apply wpS_region
  have hr : (Array.replicate 12 undef : Array Value) = #[undef, undef, undef, undef, undef, undef, undef, undef, undef, undef, undef, undef] := rfl
  simp [wpOpsS, go_sem, recoverD, hu, Tryd.ntmps31, as_fail, hr]
  clear hr
  refine wpS_of_wp ?_
  have hb := (Below.refl w.heap.size w).alloc (Nat.le_refl _) (.cells #[.int .i64 p, .int .i64 e] 59)
  have hbN := hb.mono (show N ≤ w.heap.size by omega)
  have hN : (w.alloc (.cells #[.int .i64 p, .int .i64 e] 59)).heap[N]? = w.heap[N]? := hb.block _ (by omega)
  have k1 := one_setCell h1 (u := .int .i64 p)
  have k2 : ((w.setCell ⟨N + 1, 0, none⟩ (.int .i64 p)).setCell ⟨N + 2, 0, none⟩ (.int .i64 e)).heap[N + 1]? = some (.cells #[.int .i64 p] 3 (0, 0)) := (Below.heap_setCell _ _ _ _ (by simp)).trans k1
  have k3 : (w.setCell ⟨N + 1, 0, none⟩ (.int .i64 p)).heap[N + 2]? = some (.cells #[.int .i64 0] 27 (0, 0)) := (Below.heap_setCell _ _ _ _ (by simp)).trans h2
  have k4 := one_setCell k3 (u := .int .i64 e)
  have HF : Hid (Below N w (((w.setCell ⟨N + 1, 0, none⟩ (.int .i64 p)).setCell ⟨N + 2, 0, none⟩ (.int .i64 e)).alloc (.cells #[.int .i64 p, .int .i64 e] 59)).drew ∧ (((w.setCell ⟨N + 1, 0, none⟩ (.int .i64 p)).setCell ⟨N + 2, 0, none⟩ (.int .i64 e)).alloc (.cells #[.int .i64 p, .int .i64 e] 59)).drew.heap[N]? = w.heap[N]? ∧ (((w.setCell ⟨N + 1, 0, none⟩ (.int .i64 p)).setCell ⟨N + 2, 0, none⟩ (.int .i64 e)).alloc (.cells #[.int .i64 p, .int .i64 e] 59)).drew.cell? ⟨N + 1, 0, none⟩ = some (.int .i64 p) ∧ (((w.setCell ⟨N + 1, 0, none⟩ (.int .i64 p)).setCell ⟨N + 2, 0, none⟩ (.int .i64 e)).alloc (.cells #[.int .i64 p, .int .i64 e] 59)).drew.cell? ⟨N + 2, 0, none⟩ = some (.int .i64 e)) := Lib.hid (by
    refine ⟨((((Below.refl N w).setCell (p := ⟨N + 1, 0, none⟩) (by show N ≤ N + 1; omega) _).setCell (p := ⟨N + 2, 0, none⟩) (by show N ≤ N + 2; omega) _).alloc (by simp; omega) _).drew, ?_, ?_, ?_⟩
    · show (World.alloc _ _).heap[N]? = _
      rw [Below.heap_alloc _ _ _ (by simp; omega), Below.heap_setCell _ _ _ _ (by simp), Below.heap_setCell _ _ _ _ (by simp)]
    · show (World.alloc _ _).cell? _ = _
      rw [Lib.cell_of_heap ((Below.heap_alloc _ _ _ (by simp; omega)).trans k2)]; rfl
    · show (World.alloc _ _).cell? _ = _
      rw [Lib.cell_of_heap ((Below.heap_alloc _ _ _ (by simp; omega)).trans k4)]; rfl)
  clear hb hbN hN h1 h2 k1 k2 k3 k4
  go_wp2_with fail
  go_region
  all_goals
    go_wp2_with fail
    exact ⟨rfl, _, rfl, _, by simp [results, Tryd.results31, go_sem], rfl, rfl, HF.out⟩
set_option maxHeartbeats 2000000 in
theorem idleP (N : Nat) (w : World) :
    CallsD Tryd.prog 31 #[.pointer (some ⟨N + 1, 0, none⟩), .pointer (some ⟨N + 2, 0, none⟩)] .returning w fun e' u' w' =>
      e' = .returned (.tuple #[]) ∧ u' = .returning ∧ Below w.heap.size w w' := by
  refine callsD_of_wpS Tryd.func31 rfl fun c₀ cs hu => ?_
  have hb := (Below.refl w.heap.size w).alloc (Nat.le_refl _) (.cells #[.int .i64 0, .int .i64 0] 59)
  apply wpS_seq
  apply wpS_region
  have hr : (Array.replicate 12 undef : Array Value) = #[undef, undef, undef, undef, undef, undef, undef, undef, undef, undef, undef, undef] := rfl
  simp [wpOpsS, go_sem, recoverD, hu, Tryd.ntmps31, as_nilf, hr]
  clear hr
  refine wpS_of_wp ?_
  go_wp2_with fail
  refine ⟨rfl, _, ?_, _, by simp [results, Tryd.results31, go_sem], rfl, rfl, hb⟩
  cases c₀
  simp_all
theorem own_tokens {w : World} {B : Nat} {v : Value} {T : List Tok} (h : OwnTk w B v T) (hT : 0 < T.length) : ∃ g c, v = .slice (some ⟨g, 0, none⟩) T.length c ∧ B ≤ g ∧ g < w.heap.size ∧ T.length ≤ c ∧ c ≤ maxLen ∧
    ∀ i (h : i < T.length), w.cell? ⟨g, 0 + i * 3, none⟩ = some (.int .i64 (T[i]'h).k) ∧ w.cell? ⟨g, 0 + i * 3 + 1, none⟩ = some (.int .i64 (T[i]'h).p) ∧ w.cell? ⟨g, 0 + i * 3 + 2, none⟩ = some (.string (T[i]'h).t) := by
  have h0 := h
  rcases h.2 with ⟨_, hn⟩ | ⟨g, c, cur, rfl, hB, hh, hc, hm, hsz, htk⟩
  · omega
  · refine ⟨g, c, rfl, hB, (Array.getElem?_eq_some_iff.1 hh).1, hc, hm, fun i hi => ?_⟩
    obtain ⟨g0, g1, g2⟩ := tkC_get T i hi
    unfold OwnTk at h0
    rw [Nat.zero_add, h0.cellAt (i * 3) (by omega), h0.cellAt (i * 3 + 1) (by omega), h0.cellAt (i * 3 + 2) (by omega)]
    exact ⟨g0, g1, g2⟩
theorem catch_heap {w w' : World} {N : Nat} (h : w'.heap[N]? = w.heap[N]?) (o : Nat) : w'.cell? ⟨N, o, none⟩ = w.cell? ⟨N, o, none⟩ := by
  simp only [World.cell?]; rw [h]
/-- The world in which Parse begins. -/
def parW (w : World) : World := ((w.alloc (.cells #[.int .i64 0, .int .i64 0, .string ⟨#[]⟩, .slice none 0 0] 24)).alloc (.cells #[.int .i64 0] 3)).alloc (.cells #[.int .i64 0] 27)
theorem parW_facts (w : World) : Below w.heap.size w (parW w) ∧ (parW w).heap.size = w.heap.size + 3 ∧ (parW w).heap[w.heap.size]? = some (.cells #[.int .i64 0, .int .i64 0, .string ⟨#[]⟩, .slice none 0 0] 24 (0, 0)) ∧
    (parW w).heap[w.heap.size + 1]? = some (.cells #[.int .i64 0] 3 (0, 0)) ∧ (parW w).heap[w.heap.size + 2]? = some (.cells #[.int .i64 0] 27 (0, 0)) := by
  unfold parW
  refine ⟨(((Below.refl _ w).alloc (Nat.le_refl _) _).alloc (by simp) _).alloc (by simp; omega) _, by simp, ?_, ?_, ?_⟩
  · rw [Below.heap_alloc _ _ _ (by simp; omega), Below.heap_alloc _ _ _ (by simp)]; exact heap_alloc_new w _
  · rw [Below.heap_alloc _ _ _ (by simp)]
    have := heap_alloc_new (w.alloc (.cells #[.int .i64 0, .int .i64 0, .string ⟨#[]⟩, .slice none 0 0] 24)) (.cells #[.int .i64 0] 3)
    simpa using this
  · have := heap_alloc_new ((w.alloc (.cells #[.int .i64 0, .int .i64 0, .string ⟨#[]⟩, .slice none 0 0] 24)).alloc (.cells #[.int .i64 0] 3)) (.cells #[.int .i64 0] 27)
    simpa using this
set_option maxHeartbeats 4000000 in
set_option maxRecDepth 100000 in
theorem Parse_c (f : Nat) (s : ByteArray) (x : Ex) (at' er : Nat) (w : World) (hR : parF f s = some (x, at', er)) (hE : Env w) :
    Calls Tryd.prog 19 #[.string s] w fun e w' => (∃ v, e = .returned (.tuple #[v, .int .i64 at', .int .i64 er]) ∧ ExAt w' (Fresh w.heap.size w') x v) ∧ Below w.heap.size w w' := by
  have hmf : ∀ (fn : Fn) (first cap : Array Value) (w : World), (Instr.makeFunc fn first cap).run Tryd.prog w = .ok (.func fn first cap) w := fun _ _ _ _ => rfl
  obtain ⟨hb0, hz0, hn0, hn1, hn2⟩ := parW_facts w
  have hE0 := env_next hE hb0
  have hEl := env_lt hE
  have HW : Hid (parW w = ((w.alloc (.cells #[.int .i64 0, .int .i64 0, .string ⟨#[]⟩, .slice none 0 0] 24)).alloc (.cells #[.int .i64 0] 3)).alloc (.cells #[.int .i64 0] 27)) := Lib.hid rfl
  unfold parF at hR
  by_cases hlong : 4096 < s.size
  · rw [if_pos hlong] at hR
    simp only [Option.some.injEq, Prod.mk.injEq] at hR
    obtain ⟨rfl, rfl, rfl⟩ := hR
    have d1 : decide ((4096 : Int) < (s.size : Int)) = true := decide_eq_true (by omega)
    clear hlong hb0 hn0 hn1 hn2 hE0 hE HW
    go_enter_defers Tryd.func19, Tryd.ntmps19
    go_wp2_with fail
    have hfin : ∀ w3, ExAt w3 (Fresh w.heap.size w3) Ex.zero (.agg #[.int .i64 0, .int .i64 0, .string ⟨#[]⟩, .slice none 0 0]) := fun w3 => leaf_mk _ _ 0 0 ⟨#[]⟩
    have hbf : Below w.heap.size w (((w.alloc (.cells #[.int .i64 0, .int .i64 0, .string ⟨#[]⟩, .slice none 0 0] 24)).alloc (.cells #[.int .i64 0] 3)).alloc (.cells #[.int .i64 3] 27)) := (((Below.refl _ w).alloc (Nat.le_refl _) _).alloc (by simp) _).alloc (by simp; omega) _
    simp [bodyPostD, Leaves, results, Tryd.results19, go_sem]
    exact ⟨hfin _, hbf⟩
  rw [if_neg hlong] at hR
  have d1 : decide ((4096 : Int) < (s.size : Int)) = false := decide_eq_false (by omega)
  have HSC := Lib.hid (scan_c s (parW w) hE0 (by omega))
  have hTg := scanL_good (s := s) (by omega)
  have hTl := scanF_len s (s.size + 1) (spc s 0)
  rcases hi : inpF f (scanL s) with _ | ⟨y, T⟩ | ⟨pb, eb⟩
  · rw [hi] at hR; simp at hR
  · rw [hi] at hR
    simp only [Option.some.injEq, Prod.mk.injEq] at hR
    obtain ⟨rfl, rfl, rfl⟩ := hR
    have Hi := Lib.hid hi
    have HT := Lib.hid (And.intro hTg (show (scanL s).length ≤ 1000000 by unfold scanL; omega))
    clear hi hTg hTl hlong
    generalize scanL s = TT at *
    generalize hpw : parW w = w0 at *
    have Hb0 := Lib.hid hb0
    have Hz0 := Lib.hid hz0
    have Hn0 := Lib.hid hn0
    have Hn1 := Lib.hid hn1
    have Hn2 := Lib.hid hn2
    have HE0 := Lib.hid hE0
    clear hb0 hz0 hn0 hn1 hn2 hE0 hpw
    go_enter_defers Tryd.func19, Tryd.ntmps19
    go_wp2_with fail
    rw [← HW.out]
    refine HSC.out.mono ?_
    rintro e w1 ⟨v, rfl, hown, hb1⟩
    obtain ⟨g, c, rfl, hgB, hgl, hTc, hcm, hcells⟩ := own_tokens hown (good_len HT.out.1)
    have hz0 := Hz0.out
    have hs1 := hb1.size
    have hbp := (Below.refl w1.heap.size w1).alloc (Nat.le_refl _) (.cells #[.slice (some ⟨g, 0, none⟩) TT.length c] 64)
    have hP : ParAt (w1.alloc (.cells #[.slice (some ⟨g, 0, none⟩) TT.length c] 64)) w1.heap.size TT :=
      ⟨g, 0, c, heap_alloc_new w1 _, hgl, hTc, hcm, fun i hi => ⟨(hbp.cell (p := ⟨g, 0 + i * 3, none⟩) hgl).trans (hcells i hi).1, (hbp.cell (p := ⟨g, 0 + i * 3 + 1, none⟩) hgl).trans (hcells i hi).2.1, (hbp.cell (p := ⟨g, 0 + i * 3 + 2, none⟩) hgl).trans (hcells i hi).2.2⟩⟩
    have HI := Lib.hid (input_c f w1.heap.size TT _ _ Hi.out HT.out.1 hP (env_next (env_next HE0.out hb1) hbp) (show 0 < w1.heap.size by omega) HT.out.2)
    have hzp : (w1.alloc (.cells #[.slice (some ⟨g, 0, none⟩) TT.length c] 64)).heap.size = w1.heap.size + 1 := by simp
    have HM0 := Lib.hid ((hbp.block w.heap.size (by omega)).trans ((hb1.block w.heap.size (by omega)).trans Hn0.out))
    have HM1 := Lib.hid ((hbp.block (w.heap.size + 1) (by omega)).trans ((hb1.block (w.heap.size + 1) (by omega)).trans Hn1.out))
    have HM2 := Lib.hid ((hbp.block (w.heap.size + 2) (by omega)).trans ((hb1.block (w.heap.size + 2) (by omega)).trans Hn2.out))
    have HBP := Lib.hid ((Hb0.out.trans (hb1.mono (by omega))).trans (hbp.mono (by omega)))
    clear hcells hown hP hbp hb1 HSC Hn0 Hn1 Hn2 HE0 Hi HW
    go_wp2_with fail
    refine HI.out.mono ?_
    rintro e w2 ⟨hk2, hG2, hp2, v, rfl, hx⟩
    obtain ⟨A, cc, rfl, hxl, hxm, hxk⟩ := ex_open hx
    have hs2 := hk2.size (by omega)
    have m0 := (hk2.kept w.heap.size (by omega) (by omega)).trans HM0.out
    have m1 := (hk2.kept (w.heap.size + 1) (by omega) (by omega)).trans HM1.out
    have m2 := (hk2.kept (w.heap.size + 2) (by omega) (by omega)).trans HM2.out
    obtain ⟨⟨c0, c1, c2, c3⟩, f0⟩ := zero_cells m0
    have c4 : w2.cell? ⟨w.heap.size + 1, 0, none⟩ = some (.int .i64 0) := by rw [Lib.cell_of_heap m1]; rfl
    have f4 : w2.frozen? ⟨w.heap.size + 1, 0, none⟩ = false := Lib.frozen_of_heap m1 0
    have c5 : w2.cell? ⟨w.heap.size + 1 + 1, 0, none⟩ = some (.int .i64 0) := by rw [show w.heap.size + 1 + 1 = w.heap.size + 2 from rfl, Lib.cell_of_heap m2]; rfl
    have f5 : w2.frozen? ⟨w.heap.size + 1 + 1, 0, none⟩ = false := Lib.frozen_of_heap m2 0
    obtain ⟨W5, hW5⟩ : ∃ W5, W5 = ((set4 w2 w.heap.size (.int .i64 y.op) (.int .i64 y.n) (.string y.name) (.slice A y.kids.length cc)).setCell ⟨w.heap.size + 1, 0, none⟩ (.int .i64 0)).setCell ⟨w.heap.size + 1 + 1, 0, none⟩ (.int .i64 0) := ⟨_, rfl⟩
    have HR : Hid (W5.heap.size = w2.heap.size ∧ Below w.heap.size w W5 ∧ W5.heap[w.heap.size]? = some (.cells #[.int .i64 y.op, .int .i64 y.n, .string y.name, .slice A y.kids.length cc] 24 (0, 0)) ∧ W5.heap[w.heap.size + 1]? = some (.cells #[.int .i64 0] 3 (0, 0)) ∧ W5.heap[w.heap.size + 2]? = some (.cells #[.int .i64 0] 27 (0, 0)) ∧ ∀ k, w.heap.size + 3 ≤ k → W5.heap[k]? = w2.heap[k]?) := Lib.hid (by
      subst hW5
      have e1 : (w2.setCell ⟨w.heap.size, 0, none⟩ (.int .i64 y.op)).heap[w.heap.size]? = some (.cells #[.int .i64 y.op, .int .i64 0, .string ⟨#[]⟩, .slice none 0 0] 24 (0, 0)) := heap_setCell_same _ _ _ _ _ _ m0
      have e2 : ((w2.setCell ⟨w.heap.size, 0, none⟩ (.int .i64 y.op)).setCell ⟨w.heap.size, 1, none⟩ (.int .i64 y.n)).heap[w.heap.size]? = some (.cells #[.int .i64 y.op, .int .i64 y.n, .string ⟨#[]⟩, .slice none 0 0] 24 (0, 0)) := heap_setCell_same _ _ _ _ _ _ e1
      have e3 : (((w2.setCell ⟨w.heap.size, 0, none⟩ (.int .i64 y.op)).setCell ⟨w.heap.size, 1, none⟩ (.int .i64 y.n)).setCell ⟨w.heap.size, 2, none⟩ (.string y.name)).heap[w.heap.size]? = some (.cells #[.int .i64 y.op, .int .i64 y.n, .string y.name, .slice none 0 0] 24 (0, 0)) := heap_setCell_same _ _ _ _ _ _ e2
      have e4 : (set4 w2 w.heap.size (.int .i64 y.op) (.int .i64 y.n) (.string y.name) (.slice A y.kids.length cc)).heap[w.heap.size]? = some (.cells #[.int .i64 y.op, .int .i64 y.n, .string y.name, .slice A y.kids.length cc] 24 (0, 0)) := heap_setCell_same _ _ _ _ _ _ e3
      refine ⟨by simp [set4_size], ?_, ?_, ?_, ?_, fun k hk => ?_⟩
      · exact ((set4_below (HBP.out.trans (hk2.bel.mono (by omega))) (Nat.le_refl _) _ _ _ _).setCell (p := ⟨w.heap.size + 1, 0, none⟩) (by show w.heap.size ≤ w.heap.size + 1; omega) _).setCell (p := ⟨w.heap.size + 1 + 1, 0, none⟩) (by show w.heap.size ≤ w.heap.size + 1 + 1; omega) _
      · rw [Below.heap_setCell _ _ _ _ (by show w.heap.size ≠ w.heap.size + 1 + 1; omega), Below.heap_setCell _ _ _ _ (by show w.heap.size ≠ w.heap.size + 1; omega)]; exact e4
      · rw [Below.heap_setCell _ _ _ _ (by show w.heap.size + 1 ≠ w.heap.size + 1 + 1; omega)]
        exact one_setCell ((set4_heap _ _ _ _ _ _ _ (by omega)).trans m1)
      · exact one_setCell (((Below.heap_setCell _ _ _ _ (by show w.heap.size + 2 ≠ w.heap.size + 1; omega)).trans (set4_heap _ _ _ _ _ _ _ (by omega))).trans m2)
      · rw [Below.heap_setCell _ _ _ _ (by show k ≠ w.heap.size + 1 + 1; omega), Below.heap_setCell _ _ _ _ (by show k ≠ w.heap.size + 1; omega)]
        exact set4_heap _ _ _ _ _ _ _ (by omega))
    have HXK := Lib.hid hxk
    have hfr : w0.heap.size ≤ (w1.alloc (.cells #[.slice (some ⟨g, 0, none⟩) TT.length c] 64)).heap.size := by omega
    clear hk2 hp2 hx hxk hG2 m0 m1 m2 HI HM0 HM1 HM2 HBP
    go_wp2_with fail
    refine leaves_cons (f := 31) (args := #[.pointer (some ⟨w.heap.size + 1, 0, none⟩), .pointer (some ⟨w.heap.size + 1 + 1, 0, none⟩)]) (by simp) (by simp [go_sem]) ?_
    refine (idleP w.heap.size _).mono ?_
    rintro e u' w3 ⟨rfl, rfl, hb3⟩
    have hb3' : Below W5.heap.size W5 w3 := by rw [hW5]; exact hb3
    obtain ⟨r1, r2, r3, r4, r5, r6⟩ := HR.out
    have g0 := (hb3'.block w.heap.size (by omega)).trans r3
    have g1 := (hb3'.block (w.heap.size + 1) (by omega)).trans r4
    have g2 := (hb3'.block (w.heap.size + 2) (by omega)).trans r5
    have q0 : w3.cell? ⟨w.heap.size, 0, none⟩ = some (.int .i64 y.op) := by rw [Lib.cell_of_heap g0]; rfl
    have q1 : w3.cell? ⟨w.heap.size, 1, none⟩ = some (.int .i64 y.n) := by rw [Lib.cell_of_heap g0]; rfl
    have q2 : w3.cell? ⟨w.heap.size, 2, none⟩ = some (.string y.name) := by rw [Lib.cell_of_heap g0]; rfl
    have q3 : w3.cell? ⟨w.heap.size, 3, none⟩ = some (.slice A y.kids.length cc) := by rw [Lib.cell_of_heap g0]; rfl
    have q4 : w3.cell? ⟨w.heap.size + 1, 0, none⟩ = some (.int .i64 0) := by rw [Lib.cell_of_heap g1]; rfl
    have q5 : w3.cell? ⟨w.heap.size + 1 + 1, 0, none⟩ = some (.int .i64 0) := by rw [show w.heap.size + 1 + 1 = w.heap.size + 2 from rfl, Lib.cell_of_heap g2]; rfl
    have hs3 := hb3'.size
    have hfin : ExAt w3 (Fresh w.heap.size w3) y (.agg #[.int .i64 y.op, .int .i64 y.n, .string y.name, .slice A y.kids.length cc]) := ⟨A, cc, rfl, hxl, hxm, kids_keep (fun b hb => ⟨by have := hb.1; omega, by have := hb.2; omega⟩) (fun b o hb => by
      have h1 := hb.1
      have h2 := hb.2
      simp only [World.cell?]
      rw [hb3'.block b (by omega), r6 b (by omega)]) HXK.out⟩
    have hbf : Below w.heap.size w w3 := r2.trans (hb3'.mono (by omega))
    simp [Leaves, settle, results, Tryd.results19, go_sem, q0, q1, q2, q3, q4, q5]
    exact ⟨hfin, hbf⟩
  · rw [hi] at hR
    simp only [Option.some.injEq, Prod.mk.injEq] at hR
    obtain ⟨rfl, rfl, rfl⟩ := hR
    have Hi := Lib.hid hi
    have HT := Lib.hid (And.intro hTg (show (scanL s).length ≤ 1000000 by unfold scanL; omega))
    clear hi hTg hTl hlong
    generalize scanL s = TT at *
    generalize hpw : parW w = w0 at *
    have Hb0 := Lib.hid hb0
    have Hz0 := Lib.hid hz0
    have Hn0 := Lib.hid hn0
    have Hn1 := Lib.hid hn1
    have Hn2 := Lib.hid hn2
    have HE0 := Lib.hid hE0
    clear hb0 hz0 hn0 hn1 hn2 hE0 hpw
    go_enter_defers Tryd.func19, Tryd.ntmps19
    go_wp2_with fail
    rw [← HW.out]
    refine HSC.out.mono ?_
    rintro e w1 ⟨v, rfl, hown, hb1⟩
    obtain ⟨g, c, rfl, hgB, hgl, hTc, hcm, hcells⟩ := own_tokens hown (good_len HT.out.1)
    have hz0 := Hz0.out
    have hs1 := hb1.size
    have hbp := (Below.refl w1.heap.size w1).alloc (Nat.le_refl _) (.cells #[.slice (some ⟨g, 0, none⟩) TT.length c] 64)
    have hP : ParAt (w1.alloc (.cells #[.slice (some ⟨g, 0, none⟩) TT.length c] 64)) w1.heap.size TT :=
      ⟨g, 0, c, heap_alloc_new w1 _, hgl, hTc, hcm, fun i hi => ⟨(hbp.cell (p := ⟨g, 0 + i * 3, none⟩) hgl).trans (hcells i hi).1, (hbp.cell (p := ⟨g, 0 + i * 3 + 1, none⟩) hgl).trans (hcells i hi).2.1, (hbp.cell (p := ⟨g, 0 + i * 3 + 2, none⟩) hgl).trans (hcells i hi).2.2⟩⟩
    have HI := Lib.hid (input_c f w1.heap.size TT _ _ Hi.out HT.out.1 hP (env_next (env_next HE0.out hb1) hbp) (show 0 < w1.heap.size by omega) HT.out.2)
    have hzp : (w1.alloc (.cells #[.slice (some ⟨g, 0, none⟩) TT.length c] 64)).heap.size = w1.heap.size + 1 := by simp
    have HM0 := Lib.hid ((hbp.block w.heap.size (by omega)).trans ((hb1.block w.heap.size (by omega)).trans Hn0.out))
    have HM1 := Lib.hid ((hbp.block (w.heap.size + 1) (by omega)).trans ((hb1.block (w.heap.size + 1) (by omega)).trans Hn1.out))
    have HM2 := Lib.hid ((hbp.block (w.heap.size + 2) (by omega)).trans ((hb1.block (w.heap.size + 2) (by omega)).trans Hn2.out))
    have HBP := Lib.hid ((Hb0.out.trans (hb1.mono (by omega))).trans (hbp.mono (by omega)))
    clear hcells hown hP hbp hb1 HSC Hn0 Hn1 Hn2 HE0 Hi HW
    go_wp2_with fail
    refine HI.out.mono ?_
    rintro e w2 ⟨hk2, rfl⟩
    have hs2 := hk2.size (by omega)
    have m0 := (hk2.kept w.heap.size (by omega) (by omega)).trans HM0.out
    have m1 := (hk2.kept (w.heap.size + 1) (by omega) (by omega)).trans HM1.out
    have m2 := (hk2.kept (w.heap.size + 2) (by omega) (by omega)).trans HM2.out
    have hbf := HBP.out.trans (hk2.bel.mono (show w.heap.size ≤ w1.heap.size by omega))
    have HC := Lib.hid (catchP w.heap.size pb eb w2 m1 m2)
    have Hm0 := Lib.hid m0
    have Hbf := Lib.hid hbf
    clear hk2 m0 m1 m2 HI HM0 HM1 HM2 HBP hbf
    go_wp2_with fail
    refine leaves_cons (f := 31) (args := #[.pointer (some ⟨w.heap.size + 1, 0, none⟩), .pointer (some ⟨w.heap.size + 1 + 1, 0, none⟩)]) (by simp) (by simp [go_sem]) ?_
    refine HC.out.mono ?_
    rintro e u' w3 ⟨rfl, rfl, hb3, h0, q4, q5⟩
    have g0 := h0.trans Hm0.out
    obtain ⟨⟨q0, q1, q2, q3⟩, _⟩ := zero_cells g0
    have q5' : w3.cell? ⟨w.heap.size + 1 + 1, 0, none⟩ = some (.int .i64 eb) := q5
    have hbf : Below w.heap.size w w3 := Hbf.out.trans hb3
    have hfin : ExAt w3 (Fresh w.heap.size w3) Ex.zero (.agg #[.int .i64 0, .int .i64 0, .string ⟨#[]⟩, .slice none 0 0]) := leaf_mk _ _ 0 0 ⟨#[]⟩
    simp [Leaves, settle, results, Tryd.results19, go_sem, q0, q1, q2, q3, q4, q5']
    exact ⟨hfin, hbf⟩
end Go.Proofs.YtbiiempgefjkiaaDoor.Ar
