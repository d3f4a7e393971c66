/- arith: Names. -/
import Derived.Test.YtbiiempgefjkiaaDoorArN2
import Derived.Laws.EntriesVeiled
namespace Go.Proofs.YtbiiempgefjkiaaDoor.Ar
open Go.RowKit
set_option linter.unusedVariables false

theorem five_alloc (w : World) (o1 o2 o3 o4 o5 : Obj) : ∀ W : World, W = ((((w.alloc o1).alloc o2).alloc o3).alloc o4).alloc o5 →
    W.heap.size = w.heap.size + 5 ∧ Below w.heap.size w W ∧ W.heap[w.heap.size]? = some o1 ∧ W.heap[w.heap.size + 1]? = some o2 ∧ W.heap[w.heap.size + 1 + 1]? = some o3 ∧ W.heap[w.heap.size + 1 + 1 + 1]? = some o4 ∧ W.heap[w.heap.size + 1 + 1 + 1 + 1]? = some o5 := by
  rintro W rfl
  have n1 := heap_alloc_new w o1
  have n2 := heap_alloc_new (w.alloc o1) o2
  have n3 := heap_alloc_new ((w.alloc o1).alloc o2) o3
  have n4 := heap_alloc_new (((w.alloc o1).alloc o2).alloc o3) o4
  have n5 := heap_alloc_new ((((w.alloc o1).alloc o2).alloc o3).alloc o4) o5
  simp only [World.size_alloc] at n2 n3 n4 n5
  refine ⟨by simp, ?_, ?_, ?_, ?_, ?_, n5⟩
  · exact (((((Below.refl _ w).alloc (Nat.le_refl _) _).alloc (by simp) _).alloc (by simp <;> omega) _).alloc (by simp <;> omega) _).alloc (by simp <;> omega) _
  · rw [Below.heap_alloc _ _ _ (by simp <;> omega), Below.heap_alloc _ _ _ (by simp <;> omega), Below.heap_alloc _ _ _ (by simp <;> omega), Below.heap_alloc _ _ _ (by simp)]; exact n1
  · rw [Below.heap_alloc _ _ _ (by simp <;> omega), Below.heap_alloc _ _ _ (by simp <;> omega), Below.heap_alloc _ _ _ (by simp)]; exact n2
  · rw [Below.heap_alloc _ _ _ (by simp <;> omega), Below.heap_alloc _ _ _ (by simp)]; exact n3
  · rw [Below.heap_alloc _ _ _ (by simp)]; exact n4
set_option maxHeartbeats 4000000 in
set_option maxRecDepth 100000 in
theorem Names_c (x : Ex) (A : Option Addr) (c : Nat) (w : World) (hwf : wfE x) (hK : KidsIn w w.heap.size x.kids A) (hl : x.kids.length ≤ c) (hc : c ≤ maxLen) (hlen : (nmE x []).length ≤ 1000000) :
    Calls Tryd.prog 15 #[x.val A c] w fun e w' => ∃ v, e = .returned v ∧ w'.ownsRow w.heap.size 9 1 v (nmE x []).length ((nmE x []).map Value.string) ∧ Below w.heap.size w w' := by
  have hmm := @run_makeMap Tryd.prog
  have hdep := Nat.le_refl (dep x)
  have HVI := Lib.hid (fun (F G V h : Nat) (W : World) (hb : Below w.heap.size w W) (hN : NmAt w.heap.size F G V h [] W) => visit_c w.heap.size F G V h (dep x) x A c [] W hdep (kidsIn_below hK hb (Nat.le_refl _)) hl hc hwf hN hlen)
  unfold Ex.val at *
  clear hdep hwf hK hl hc hlen
  generalize nmE x [] = R at *
  generalize x.op = op, x.n = n, x.name = s, x.kids.length = l at *
  go_enter Tryd.func15, Tryd.ntmps15
  go_wp2_with fail
  clear hmm
  obtain ⟨W, hW⟩ : ∃ W : World, W = ((((w.alloc (.cells #[.int .i64 op, .int .i64 n, .string s, .slice A l c] 24)).alloc (.cells #[.slice none 0 0] 35)).alloc (.map #[] 0)).alloc (.cells #[.map (some (w.heap.size + 1 + 1))] 54)).alloc (.cells #[.func (.func 28) #[] #[.pointer (some ⟨w.heap.size + 1 + 1 + 1, 0, none⟩), .pointer (some ⟨w.heap.size + 1, 0, none⟩), .pointer (some ⟨w.heap.size + 1 + 1 + 1 + 1, 0, none⟩)]] 55) := ⟨_, rfl⟩
  rw [← hW]
  obtain ⟨hsz, hB, q1, q2, q3, q4, q5⟩ := five_alloc w _ _ _ _ _ W hW
  have hm0 : MapN (w.heap.size + 1 + 1) 0 [] W := by
    rw [hW]
    have h1 := ((World.ownsMap_made (H := Unit) ((w.alloc (.cells #[.int .i64 op, .int .i64 n, .string s, .slice A l c] 24)).alloc (.cells #[.slice none 0 0] 35)) Tryd.prog 9 (plainElem Tryd.prog 4)).alloc (.cells #[.map (some (w.heap.size + 1 + 1))] 54)).alloc (.cells #[.func (.func 28) #[] #[.pointer (some ⟨w.heap.size + 1 + 1 + 1, 0, none⟩), .pointer (some ⟨w.heap.size + 1, 0, none⟩), .pointer (some ⟨w.heap.size + 1 + 1 + 1 + 1, 0, none⟩)]] 55)
    simp only [World.size_alloc] at h1
    exact ⟨.map [], h1, fun t => rfl⟩
  clear hW
  have hN : NmAt w.heap.size (w.heap.size + 1 + 1 + 1) (w.heap.size + 1) (w.heap.size + 1 + 1 + 1 + 1) (w.heap.size + 1 + 1) [] W :=
    ⟨q4, q5, ⟨.slice none 0 0, q2, World.ownsRow_nil _ _ _ _⟩, hm0, by omega, by omega, by omega, by omega⟩
  have HC := Lib.hid (HVI.out _ _ _ _ _ hB hN)
  have Hb6 := Lib.hid hB
  clear hN q1 q2 q3 q4 q5 hm0 hB HVI
  refine HC.out.mono ?_
  rintro e w7 ⟨rfl, hN7, hB7, _, _⟩
  obtain ⟨v, hg, hr⟩ := hN7.fg
  have g0 : w7.cell? ⟨w.heap.size + 1, 0, none⟩ = some v := by rw [Lib.cell_of_heap hg]; rfl
  have HF := Lib.hid (And.intro hr (Hb6.out.trans hB7))
  obtain ⟨ao, n', cap, rfl⟩ : ∃ ao n' cap, v = .slice ao n' cap := by
    rcases hr.2 with ⟨hv, _⟩ | ⟨g, cap, cur, hv, _⟩
    · exact ⟨_, _, _, hv⟩
    · exact ⟨_, _, _, hv⟩
  clear hN7 hB7 hg hr HC Hb6
  go_wp2_with fail
  go_ret
  exact ⟨_, rfl, HF.out⟩
end Go.Proofs.YtbiiempgefjkiaaDoor.Ar
