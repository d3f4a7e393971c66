/- The contracts of codec's TakeTexts, PutTexts; what one says of the other. -/
import Derived.Test.YthikmjhjbokppaaKTexts
namespace Go.Proofs.Ythikmjhjbokppaa
open Go.RowKit
set_option linter.unusedVariables false

theorem ownT_mono {w : World} {B B' : Nat} {v : Value} {ss : List (List UInt8)} (h : OwnT w B v ss) (hB : B' ≤ B) : OwnT w B' v ss := by
  refine ⟨h.1, ?_⟩
  rcases h.2 with h0 | ⟨g, cap, cur, rfl, hg, r⟩
  · exact .inl h0
  · exact .inr ⟨g, cap, cur, rfl, by omega, r⟩
theorem loopT_fits : ∀ (k : Nat) (l : List UInt8), (loopT k l).2.1 ≤ l.length
  | 0, l => Nat.zero_le _
  | k + 1, l => by
    have h1 := takeS_fits l
    have h2 := loopT_fits k (l.drop (takeS l).2.1)
    rw [List.length_drop] at h2
    rw [loopT]
    split
    · exact Nat.zero_le _
    · split
      · exact Nat.zero_le _
      · show (takeS l).2.1 + (loopT k (l.drop (takeS l).2.1)).2.1 ≤ _
        omega
theorem takeL_fits (l : List UInt8) : (takeL l).2.1 ≤ l.length := by
  have h1 := takeN_fits l
  have h2 := loopT_fits (takeN l).1 (l.drop (takeN l).2.1)
  rw [List.length_drop] at h2
  unfold takeL comb
  split
  · exact Nat.zero_le _
  · split
    · exact Nat.zero_le _
    · split
      · exact Nat.zero_le _
      · show (takeN l).2.1 + (loopT (takeN l).1 (l.drop (takeN l).2.1)).2.1 ≤ _
        omega
theorem takeL_err (l : List UInt8) (h : (takeL l).2.2 ≠ 0) : takeL l = ([], 0, (takeL l).2.2) := by
  unfold takeL comb at h ⊢
  split
  · rfl
  · rename_i h1
    rw [if_neg h1] at h
    split
    · rfl
    · rename_i h2
      rw [if_neg h2] at h
      split
      · rfl
      · rename_i h3
        rw [if_neg h3] at h
        exact absurd rfl h

set_option maxHeartbeats 2000000 in
theorem takeTexts_c (A : Option Addr) (l : List UInt8) (c : Nat) (w : World) (hA : ByAt w w.heap.size A l) (hc : l.length ≤ c ∧ c ≤ maxLen) (hl : l.length ≤ 1000000) :
    Calls Try.prog 10 #[.slice A l.length c] w fun e w' => ∃ v, e = .returned (.tuple #[v, .int .i64 (takeL l).2.1, .int .i64 (takeL l).2.2]) ∧ OwnT w' w.heap.size v (takeL l).1 ∧ Below w.heap.size w w' := by
  have hmf : ∀ (fn : Fn) (first cap : Array Value) (w : World), (Instr.makeFunc fn first cap).run Try.prog w = .ok (.func fn first cap) w := fun _ _ _ _ => rfl
  have herr := takeL_err l
  have hfit := takeL_fits l
  have hnum := texts_c (w.heap.size + 1) (w.heap.size + 1) A l c (begW w A l c) (begW_dec hA hc) hl (by simp [begW])
  generalize takeL l = T at *
  obtain ⟨tn, tu, te⟩ := T
  simp only at herr hnum hfit
  have Hnum := Lib.hid hnum
  clear hnum hA
  go_enter_defers Try.func10, Try.ntmps10
  go_wp2_with fail
  refine Hnum.out.mono ?_
  rintro e w1 ⟨hb, (⟨h1, rfl⟩ | ⟨h1, v, rfl, ho, A2, c2, hd⟩)⟩
  · obtain ⟨b1, b2⟩ := begW_below hb.bel
    have hr := herr h1
    simp only [Prod.mk.injEq] at hr
    obtain ⟨rfl, rfl, _⟩ := hr
    have c0 : w1.cell? ⟨w.heap.size, 0, none⟩ = some (.int .i64 0) := by rw [Lib.cell_of_heap b2]; rfl
    have f0 : w1.frozen? ⟨w.heap.size, 0, none⟩ = false := Lib.frozen_of_heap b2 0
    have hset := b1.setCell (p := ⟨w.heap.size, 0, none⟩) (Nat.le_refl _) (.int .i64 te)
    clear Hnum hb herr
    go_wp2_with fail
    refine leaves_cons (f := 25) (args := #[.pointer (some ⟨w.heap.size, 0, none⟩)]) (by simp) (by simp [go_sem]) ?_
    refine (catchL ⟨w.heap.size, 0, none⟩ 0 te w1 c0 f0).mono ?_
    rintro e u' w2 ⟨rfl, rfl, rfl⟩
    have hs2 : (w1.setCell ⟨w.heap.size, 0, none⟩ (.int .i64 te)).cell? ⟨w.heap.size, 0, none⟩ = some (.int .i64 te) := by rw [Lib.cell_of_heap (one_setCell b2)]; rfl
    simp [Leaves, settle, results, Try.results10, go_sem, hs2]
    first | exact ⟨ownT_nil _ _, hset⟩ | exact ⟨_, rfl, ownT_nil _ _, hset⟩
  · subst h1
    obtain ⟨b1, b2⟩ := begW_below hb.bel
    have c0 : w1.cell? ⟨w.heap.size, 0, none⟩ = some (.int .i64 0) := by rw [Lib.cell_of_heap b2]; rfl
    have f0 : w1.frozen? ⟨w.heap.size, 0, none⟩ = false := Lib.frozen_of_heap b2 0
    have c1 : w1.cell? ⟨w.heap.size + 1, 0, none⟩ = some (.slice A2 (l.length - tu) c2) := by rw [Lib.cell_of_heap hd.cell, List.length_drop]; rfl
    have hset := b1.setCell (p := ⟨w.heap.size, 0, none⟩) (Nat.le_refl _) (.int .i64 0)
    clear Hnum hb herr hd
    go_wp2_with fail
    go_region
    all_goals go_wp2_with fail
    have b3 := one_setCell (u := .int .i64 0) b2
    have d0 : ((w1.setCell ⟨w.heap.size, 0, none⟩ (.int .i64 0)).drew).cell? ⟨w.heap.size, 0, none⟩ = some (.int .i64 0) := by rw [World.cell?_drew, Lib.cell_of_heap b3]; rfl
    have e0 : ((w1.setCell ⟨w.heap.size, 0, none⟩ (.int .i64 0)).drew).frozen? ⟨w.heap.size, 0, none⟩ = false := Lib.frozen_of_heap b3 0
    refine leaves_cons (f := 25) (args := #[.pointer (some ⟨w.heap.size, 0, none⟩)]) (by simp) (by simp [go_sem]) ?_
    refine (idleL ⟨w.heap.size, 0, none⟩ 0 _ d0 e0).mono ?_
    rintro e u' w2 ⟨rfl, rfl, rfl⟩
    have hs2 : ((w1.setCell ⟨w.heap.size, 0, none⟩ (.int .i64 0)).setCell ⟨w.heap.size, 0, none⟩ (.int .i64 0)).cell? ⟨w.heap.size, 0, none⟩ = some (.int .i64 0) := by
      rw [Lib.cell_of_heap (one_setCell (u := .int .i64 0) b3)]; rfl
    have hu : ((l.length : Int) - ((l.length - tu : Nat) : Int)) = tu := by omega
    simp [Leaves, settle, results, Try.results10, go_sem, hs2, hu]
    have hOT : ∀ W, (∀ k, k ≠ w.heap.size → k < w1.heap.size → W.heap[k]? = w1.heap[k]?) → OwnT W w.heap.size v tn := fun W hk => ownT_mono (ownT_kept ho (by simp [begW]; omega) hk) (by simp [begW]; omega)
    refine ⟨hOT _ (fun k hk _ => ?_), ?_⟩
    · show ((w1.setCell _ _).setCell _ _).heap[k]? = _
      rw [Below.heap_setCell _ _ _ _ (by simpa using hk), Below.heap_setCell _ _ _ _ (by simpa using hk)]
    first | exact (hset.setCell (p := ⟨w.heap.size, 0, none⟩) (Nat.le_refl _) _).drew | exact hset.drew.setCell (p := ⟨w.heap.size, 0, none⟩) (Nat.le_refl _) _
end Go.Proofs.Ythikmjhjbokppaa
