/- heredoc: Delimiter. -/
import Derived.Test.YtlenmkcafoiefabGreatDoorHdD
namespace Go.Proofs.YtlenmkcafoiefabGreatDoor
open Go.RowKit Go.Shelf
attribute [local go_sem] Oper.semAt_some
set_option linter.unusedVariables false

theorem cand_size (n : Nat) (h : n ≤ 1000000000) : (cand n).size ≤ 1000 := by
  rcases n with _ | n
  · decide
  · have : (cand (n + 1)).data.toList.length = 3 + (Lib.decDigits (n + 1)).length := by rw [cand_list]; simp; omega
    rw [lenS] at this
    have h2 : ∀ k u, u < 10 ^ (k + 1) → (Lib.decDigits u).length ≤ k + 1 := by
      intro k
      induction k with
      | zero =>
        intro u hu
        rw [dec_eq, if_pos (by simpa using hu)]
        simp
      | succ k ih =>
        intro u hu
        rw [dec_eq]
        by_cases h10 : u < 10
        · rw [if_pos h10]; simp
        · rw [if_neg h10, List.length_append]
          have := ih (u / 10) (by rw [Nat.pow_succ] at hu; omega)
          simp only [List.length_cons, List.length_nil]
          omega
    have := h2 9 (n + 1) (by omega)
    omega
/-- Which candidate is the first that is free. -/
def FreeAt (l : List (Nat × ByteArray)) (m : Nat) : Prop := (∀ i, i < m → tookB l (cand i) = true) ∧ tookB l (cand m) = false
set_option maxHeartbeats 16000000 in
set_option maxRecDepth 100000 in
theorem Delim_c (s : ByteArray) (w : World) (hs : s.size ≤ 1000000)
    (HI : ∀ (n : Nat) (W : World), n ≤ s.size + 1 → Below w.heap.size w W → Calls Tryz.prog 41 #[.int .i64 n] W fun e w' => e = .returned (.string ⟨(Lib.decDigits n).toArray⟩) ∧ Below W.heap.size W w') :
    Calls Tryz.prog 23 #[.string s] w fun e w' => ∃ m : Nat, e = .returned (.string (cand m)) ∧ m ≤ s.size ∧ FreeAt (lnsL s 0) m ∧ Below w.heap.size w w' := by
  have hmm := @run_makeMap Tryz.prog
  have HI2 := Lib.hid HI
  clear HI
  refine (callsIn_wide (n := 3)).1 ?_
  refine callsIn_of_wp_marks Tryz.func23 rfl trivial ?_ rfl
  simp only [Tryz.ntmps23, List.size_toArray, List.length_cons, List.length_nil, Nat.reduceAdd, Nat.reduceSub, Array.replicate_succ, Array.replicate_zero, List.push_toArray, List.append_toArray, List.nil_append, List.cons_append]
  gi_wp2_with (refine ⟨trivial, ?_⟩; gi_at_call 37; refine (callsIn_wide.2 (From_c s 0 _)).mono ?_; rintro e w7 ⟨rfl, rfl⟩)
  clear hmm
  obtain ⟨W0, hW0⟩ : ∃ W0 : World, W0 = (((w.alloc (.map #[] 0)).alloc (.cells #[.map (some w.heap.size)] 48)).alloc (.cells #[.string s] 9)).alloc (.cells #[.int .i64 0] 3) := ⟨_, rfl⟩
  rw [← hW0]
  obtain ⟨hsz, hB0, q1, q2, q3, q4⟩ := four_alloc w _ _ _ _ W0 hW0
  have hm0 : MapSt w.heap.size 0 [] W0 := by
    rw [hW0]
    refine ⟨.map [], ((((World.ownsMap_made w Tryz.prog 9 (plainElem Tryz.prog 4)).alloc _).alloc _).alloc _), fun t => ?_⟩
    rfl
  clear hW0 q1
  have hlen := lnsF_len (s := s) (s.size + 1) 0
  rw [show lnsF (s.size + 1) s 0 = lnsL s 0 from rfl] at hlen
  refine wpIn_rangeFunc_ownG rfl (by omega) (gf := 61) (lb := #[.pointer (some ⟨w.heap.size + 1 + 1 + 1, 0, none⟩), .pointer (some ⟨w.heap.size + 1 + 1, 0, none⟩)]) rfl trivial (enters_of Tryz.func61 (by kernel_rfl) rfl)
    (from_stops _ (by omega) s 0 (by omega) (by omega) (w.heap.size + 1 + 1) (w.heap.size + 1 + 1 + 1) W0 (by omega) (by omega) (by rw [Lib.cell_of_heap q3]; rfl) (by rw [Lib.cell_of_heap q4]; rfl)) kpS_t (kpS_b (by omega)) (Below.refl _ _) (fun _ => rfl)
    (fun (pre : List (LineOf s)) (W : World) => (W.cell? ⟨w.heap.size + 1, 0, none⟩ = some (.map (some w.heap.size)) ∧ W.cell? ⟨w.heap.size + 1 + 1, 0, none⟩ = some (.string s) ∧ MapSt w.heap.size pre.length (pre.map (fun x : LineOf s => x.1)) W) ∧ Below w.heap.size w W)
    (fun _ _ _ => False)
    (OwnFrom.and (fun (s' : List (LineOf s)) A C row hs hg hr => ⟨cell_kept hs.1 hg (fun r e => (hr r e).2), cell_kept hs.2.1 hg (fun r e => (hr r e).2), map_own (B := W0.heap.size) (A := A) (C := C) (row := row) hs.2.2 hg hr (by omega)⟩) (ownFrom_below (Nat.le_refl _) (by omega)))
    (fun _ _ _ _ _ hs _ _ => hs)
    ⟨⟨by rw [Lib.cell_of_heap q2]; rfl, by rw [Lib.cell_of_heap q3]; rfl, hm0⟩, hB0⟩
    (fun x => { tmps := #[.string s, undef, .string ⟨#[]⟩, .pointer (some ⟨w.heap.size + 1, 0, none⟩), undef, .string x.1.2, undef, undef, .map (some w.heap.size), .string s, .func (.func 61) #[] #[.pointer (some ⟨w.heap.size + 1 + 1 + 1, 0, none⟩), .pointer (some ⟨w.heap.size + 1 + 1, 0, none⟩)], .int .i64 x.1.1, .string x.1.2, undef, undef, undef, undef, undef, undef, undef, undef, undef, undef, undef, undef], defers := [] }) ?assign ?body ?done ?stop
  case assign =>
    intro l x W K hK
    gi_wp2
    exact hK
  case body =>
    rintro l pre x W ⟨⟨hc, hsb, hm⟩, hB⟩ hN
    have hx2 := x.2.2
    have hch := chop_le x.1.2
    have htc := Lib.hid (fun W => chop_c x.1.2 W (by omega))
    obtain ⟨W', hrun, hm', hg'⟩ := map_put (W := W.drew) hm x.1 (by unfold maxLen; omega) (by unfold maxLen; omega)
    have hmx : Tryz.prog.follows .mixedOrders = true := by kernel_rfl
    have Hm' := Lib.hid hm'
    have Hg' := Lib.hid hg'
    have Hm := Lib.hid hm
    clear hm hm' hg' q2 q3 q4 hm0
    gi_wp2
    gi_region_with_o (first | (refine ⟨trivial, ?_⟩; gi_at_call 40; refine (CallsIn.inRound l (callsIn_wide.2 (htc.out _))).mono ?_; rintro e w7 ⟨rfl, rfl⟩))
    all_goals gi_wp2
    all_goals
      have hg : W.grownBy W' (some w.heap.size) := ⟨Hg'.out.os, Hg'.out.tape, Hg'.out.output, Hg'.out.size, Hg'.out.block⟩
      obtain ⟨D0, ho0, hD0⟩ := Hm.out
      obtain ⟨es, ck, hh, hrest⟩ := ho0
      have hrow : ∀ r, some w.heap.size = some r → ∃ o : Obj, W.heap[r]? = some o ∧ o.isCells = false := fun r e => by cases e; exact ⟨_, hh, rfl⟩
      refine ⟨KeepsFrom.of_grownBy hg (fun j e => by cases e; omega), fun h => cell_kept h hg hrow, ⟨cell_kept hc hg hrow, cell_kept hsb hg hrow, ?_⟩, hB.grown hg hB.size (fun k e => by cases e; exact Nat.le_refl _)⟩
      rw [List.map_append, List.length_append]
      exact Hm'.out
  case done =>
    rintro D ys W hD hSy ⟨⟨hc, hsb, hm⟩, hB⟩ hK
    rw [hSy] at hm
    generalize hL : lnsL s 0 = L at *
    have hWs := hB.size
    have hhb : w.heap.size + 1 < W.heap.size := by
      obtain ⟨o, ho, _⟩ := cells_of_cell hc
      exact (Array.getElem?_eq_some_iff.1 ho).1
    have HK := Lib.hid hK
    have HB := Lib.hid hB
    have Hm := Lib.hid hm
    clear q2 q3 q4 hm0 hsb hK hB hm
    gi_wp2
    gi_loopw [6, 7] (fun tv nv wr => (∃ n m : Nat, nv = .int .i64 n ∧ tv = .string (cand m) ∧ Hid (n = m + 1) ∧ n ≤ s.size + 1 ∧ 1 ≤ n ∧ Hid (∀ i, i < m → tookB L (cand i) = true)) ∧ Hid (Below W.heap.size W wr)) (fun _ nv _ => s.size + 2 - (intOf nv).toNat)
    case atStart => exact ⟨⟨1, 0, rfl, rfl, Lib.hid rfl, by omega, by omega, Lib.hid (fun i h => by omega)⟩, Lib.hid (Below.refl _ _)⟩
    case round =>
      obtain ⟨⟨n, m, rfl, rfl, hnm, hn, hn1, htk⟩, hb⟩ := hrel
      have hgr : W.grownBy wr none := ⟨hb.out.os, hb.out.tape, hb.out.output, hb.out.size, fun k hk _ => hb.out.block k hk⟩
      have hm2 : MapSt w.heap.size ys.length L wr := map_own (B := w.heap.size + 1) Hm.out hgr (fun r e => by cases e) (by omega)
      have hcs := cand_size m (by have := hnm.out; omega)
      have hcs2 := cand_size n (by omega)
      have hlk := map_look hm2 (cand m) (by unfold maxLen; omega)
      have hc2 : wr.cell? ⟨w.heap.size + 1, 0, none⟩ = some (.map (some w.heap.size)) := (hb.out.cell (p := ⟨w.heap.size + 1, 0, none⟩) hhb).trans hc
      have Hlast : Hid (tookB L (cand m) = true → n ≤ s.size ∧ ∀ i, i < n → tookB L (cand i) = true) := Lib.hid (by
        intro h
        have hall : ∀ i, i < n → tookB L (cand i) = true := by
          intro i hi
          have := hnm.out
          by_cases e : i = m
          · subst e; exact h
          · exact htk.out i (by omega)
        exact ⟨Nat.le_trans (took_le hall) (by omega), hall⟩)
      have Hfree : Hid (tookB L (cand m) = false → FreeAt L m) := Lib.hid (fun h => ⟨htk.out, h⟩)
      have hce : cand n = ⟨#[69, 79, 70]⟩ ++ ⟨(Lib.decDigits n).toArray⟩ := by
        have := hnm.out
        subst this
        rfl
      have Hce := Lib.hid hce
      rw [hce] at hcs2
      have HIt := Lib.hid (HI2.out n wr hn (HB.out.trans (hb.out.mono hWs)))
      have hdl : (Lib.decDigits n).length ≤ 1000 := by
        rw [ByteArray.size_append] at hcs2
        have e : (⟨(Lib.decDigits n).toArray⟩ : ByteArray).size = (Lib.decDigits n).length := by simp [ByteArray.size]
        omega
      have hbw : IntKind.i64.wrap ((n : Int) + 1) = (n : Int) + 1 := IntWalk.i64_in _ (by omega)
      clear hm2 hgr hce htk
      have Hm1 := Lib.hid (show m ≤ s.size by have := hnm.out; omega)
      have Hnm := Lib.hid hnm.out
      clear hnm
      generalize hcm : cand m = cm at *
      have Hcm := Lib.hid hcm
      clear hcm
      generalize tookB L cm = R at *
      rcases R with _ | _
      · gi_wp2
        have hK2 := (hb.out.block D (Array.getElem?_eq_some_iff.1 HK.out).1).trans HK.out
        have hB2 := HB.out.trans (hb.out.mono hWs)
        refine ⟨by simp, .inl ⟨_, _, rfl, run_takeDeferred hK2, ?_⟩⟩
        exact ⟨_, results_tmp rfl _ _ _, m, by rw [Hcm.out]; rfl, Hm1.out, Hfree.out trivial, hB2.trans (belowK_b (w := w) (Nat.le_refl _) wr D _ _ (by omega) hK2 rfl rfl)⟩
      · gi_wp2_with (refine ⟨trivial, ?_⟩; gi_at_call 41; refine (callsIn_wide.2 HIt.out).mono ?_; rintro e w7 ⟨rfl, m7⟩)
        have hb7 := hb.out.trans (m7.mono hb.out.size)
        obtain ⟨l1, l2⟩ := Hlast.out trivial
        all_goals (try (exfalso; omega))
        go_roundw
        case rel => exact ⟨⟨n + 1, n, by push_cast; rfl, by rw [Hce.out], Lib.hid rfl, by omega, by omega, Lib.hid l2⟩, Lib.hid hb7⟩
        case measure => simp [intOf]; omega
  case stop =>
    rintro D c pre W _ _ h _
    exact h.elim
end Go.Proofs.YtlenmkcafoiefabGreatDoor
