/- heredoc: the iterator over lines. -/
import Derived.RangeFuncNested
import Derived.RangeFuncBound
import Derived.RangeFuncCalls
import Derived.RangeFuncLeaves
import Derived.Shelf.Abstract
import Derived.Shelf.RegionOpen
import Derived.WalkKit
import Derived.OwnWalkIn
import Derived.TacticsInMore
import Derived.LoopNIn
import Derived.LoopIn
import Derived.Test.YtlenmkcafoiefabGreatDoorHdM
namespace Go.Proofs.YtlenmkcafoiefabGreatDoor
open Go.RowKit Go.Shelf
attribute [local go_sem] Oper.semAt_some
set_option linter.unusedVariables false

/-- A line of s with its offset. -/
abbrev LineOf (s : ByteArray) := { x : Nat × ByteArray // x.1 ≤ s.size ∧ x.2.size ≤ s.size }
abbrev encL {s : ByteArray} (x : LineOf s) : Array Value := #[.int .i64 x.1.1, .string x.1.2]
/-- The box still holds s. -/
def KpS (bs : Nat) (s : ByteArray) (W W' : World) : Prop := W.cell? ⟨bs, 0, none⟩ = some (.string s) → W'.cell? ⟨bs, 0, none⟩ = some (.string s)
theorem kpS_t {bs : Nat} {s : ByteArray} {A B C : World} (h : KpS bs s A B) (k : KpS bs s B C) : KpS bs s A C := fun x => k (h x)
theorem kpS_below {n bs : Nat} {s : ByteArray} {A B : World} (h : Below n A B) (hb : bs < n) : KpS bs s A B := fun x => (h.cell (p := ⟨bs, 0, none⟩) hb).trans x
theorem kpS_b {bs : Nat} {s : ByteArray} {w : World} (hb : bs < w.heap.size) (W : World) (l : Nat) (o o' : Obj) (hl : w.heap.size ≤ l) (h : W.heap[l]? = some o) (h1 : o.isCells = false) (h2 : o.isWalk = false) : KpS bs s W (W.putObj l o') :=
  kpS_below (belowK_b (w := w) (Nat.le_refl _) W l o o' hl h h1 h2) hb
set_option maxHeartbeats 4000000 in
set_option maxRecDepth 100000 in
theorem from_stops (n : Nat) (hn : 1 ≤ n) (s : ByteArray) (p0 : Nat) (hs : s.size ≤ 140737488355328) (hp0 : p0 ≤ s.size) (bs ba : Nat) (w : World) (hbs : bs < w.heap.size) (hba : ba < w.heap.size)
    (hS : w.cell? ⟨bs, 0, none⟩ = some (.string s)) (hA : w.cell? ⟨ba, 0, none⟩ = some (.int .i64 p0)) :
    SeqStopsK Fence.wide n Tryz.prog 61 #[.pointer (some ⟨ba, 0, none⟩), .pointer (some ⟨bs, 0, none⟩)] (encL (s := s)) (KpS bs s) (fun xs => xs.map (·.1) = lnsL s p0) (fun pre => pre.map (·.1) <+: lnsL s p0) (lnsL s p0).length w := fun l J Jx W hW hJ hJx hY h0 => by
  have hS' : W.cell? ⟨bs, 0, none⟩ = some (.string s) := (hW.cell (p := ⟨bs, 0, none⟩) hbs).trans hS
  have hA' : W.cell? ⟨ba, 0, none⟩ = some (.int .i64 p0) := (hW.cell (p := ⟨ba, 0, none⟩) hba).trans hA
  refine callsIn_of_wp Tryz.func61 rfl trivial ?_ rfl
  simp only [Tryz.ntmps61, List.size_toArray, List.length_cons, List.length_nil, Nat.reduceAdd, Nat.reduceSub, Array.replicate_succ, Array.replicate_zero, List.push_toArray, List.append_toArray, List.nil_append, List.cons_append]
  gi_wp2
  gi_loopw [4] (fun p wr => ∃ (k : Nat) (pre : List (LineOf s)), p = .int .i64 k ∧ k ≤ s.size ∧ lnsL s p0 = pre.map (·.1) ++ lnsL s k ∧ wr.cell? ⟨bs, 0, none⟩ = some (.string s) ∧ J pre wr) (fun p wr => s.size - (intOf p).toNat)
  case atStart => exact ⟨p0, [], rfl, hp0, rfl, hS', h0⟩
  case round =>
    obtain ⟨k, pre, rfl, hk, hx, hS2, hJs⟩ := hrel
    by_cases hlt : k < s.size
    · have hc := lnsL_cons hlt
      obtain ⟨g1, g2⟩ := endN_gt (s := s.data.toList) (p := k) (by rw [lenS]; exact hlt)
      rw [lenS] at g2
      rw [hc] at hx
      have He := Lib.hid (fun W => end_c s k W hs hk)
      generalize endN s.data.toList k = m at *
      have hlin : k ≤ s.size ∧ (s.extract k m).size ≤ s.size := ⟨hk, by simp; omega⟩
      obtain ⟨fn, tmps, assign, body, hy, hR⟩ := hY pre ⟨(k, s.extract k m), hlin⟩ wr hJs (by rw [hx]; simp)
      dsimp only [encL] at hy
      have d1 : decide ((k : Int) < (s.size : Int)) = true := decide_eq_true (by omega)
      have d1' : decide (k < s.size) = true := decide_eq_true hlt
      have b1 : (k : Int) ≤ (m : Int) := by omega
      have b2 : (m : Int) ≤ (s.size : Int) := by omega
      gi_wp2_with (refine ⟨trivial, ?_⟩; gi_at_call 62; refine (callsIn_wide.2 (He.out _)).mono ?_; rintro e w7 ⟨rfl, rfl⟩)
      refine hR.mono ?_
      rintro e W3 (⟨rfl, hJ3, hk3⟩ | ⟨rfl, hJx3⟩)
      · gi_wp2
        go_roundw
        case rel => exact ⟨m, pre ++ [⟨(k, s.extract k m), hlin⟩], rfl, g2, by rw [hx]; simp, hk3 hS2, hJ3⟩
        case measure => simp [intOf]; omega
      · gi_wp2
        refine bodyPost_ret (results_none rfl _ _ _) rfl ?_
        exact ⟨⟨_, rfl⟩, .inr ⟨pre ++ [⟨(k, s.extract k m), hlin⟩], ⟨lnsL s m, by rw [hx]; simp⟩, hJx3⟩⟩
    · have hks : k = s.size := by omega
      subst hks
      rw [lnsL_nil (Nat.le_refl _), List.append_nil] at hx
      have d1 : decide ((s.size : Int) < (s.size : Int)) = false := decide_eq_false (by omega)
      gi_wp2
      go_end0
      exact ⟨⟨_, rfl⟩, .inl ⟨pre, hx.symm, hJs⟩⟩
end Go.Proofs.YtlenmkcafoiefabGreatDoor
