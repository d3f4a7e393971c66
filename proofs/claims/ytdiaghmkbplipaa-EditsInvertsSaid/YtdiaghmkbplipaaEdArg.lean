/- A slice of edits that came in. -/
import Derived.Test.YtdiaghmkbplipaaArgs
import Derived.Test.YtdiaghmkbplipaaVal
namespace Go.Proofs.Ytdiaghmkbplipaa
open Go.ChangeShapes Go.WideShapes Go.Deep Go.RowKit
theorem edCells : Try.prog.cellsOf 47 = 3 := by kernel_rfl
theorem open_edits {H : Type} {enc : TypeId × Value → H} {W : World} {base : Nat} {r : Reach} {v : Value} {d : DataW H} {p : List MemPlace} (hv : Value.okWide Try.prog W r base 34 v) (h : DataW.Trod enc Try.prog W 0 (fun _ => true) true 34 v d p) :
    ∃ (A : Option Addr) (c : Nat) (es : List Ed), v = .slice A es.length c ∧ EdAt W W.heap.size A es ∧ es.length ≤ c ∧ c ≤ maxLen ∧
      ∀ e ∈ es, (-9223372036854775808 ≤ e.f ∧ e.f ≤ 9223372036854775807) ∧ (-9223372036854775808 ≤ e.t ∧ e.t ≤ 9223372036854775807) ∧ e.s.size ≤ maxLen := by
  obtain ⟨A, len, cap, rfl⟩ := okWide_slice Try.underlying34 hv
  obtain ⟨fuel, hf⟩ := h
  rcases open_fields Try.underlying34 Try.underlying47 (by kernel_rfl) edCells (by simpa [Value.cells] using hf) with h0 | ⟨a, len', cap', m, hcs, hl, hm, hlm, hi⟩
  · simp at h0
    obtain ⟨rfl, rfl, rfl⟩ := h0
    exact ⟨none, 0, [], rfl, fun h => by simp at h, by simp, by simp [maxLen], by simp⟩
  · simp only [List.cons.injEq, Value.slice.injEq, and_true] at hcs
    obtain ⟨rfl, rfl, rfl⟩ := hcs
    have key : ∀ i, i < len → ∃ e : Ed, (W.cell? (a.add (i * 3)) = some (.int .i64 e.f) ∧ W.cell? (a.add (i * 3 + 1)) = some (.int .i64 e.t) ∧ W.cell? (a.add (i * 3 + 2)) = some (.string e.s)) ∧
        (-9223372036854775808 ≤ e.f ∧ e.f ≤ 9223372036854775807) ∧ (-9223372036854775808 ≤ e.t ∧ e.t ≤ 9223372036854775807) ∧ e.s.size ≤ maxLen := by
      intro i him
      obtain ⟨v0, y0, n0, k0, t0⟩ := hi i (by omega) 0 _ rfl
      obtain ⟨v1, y1, n1, k1, t1⟩ := hi i (by omega) 1 _ rfl
      obtain ⟨v2, y2, n2, k2, t2⟩ := hi i (by omega) 2 _ rfl
      obtain ⟨f, e0, _, wf⟩ := DataW.trod_int Try.underlying3 t0
      obtain ⟨t, e1, _, wt⟩ := DataW.trod_int Try.underlying3 t1
      obtain ⟨s, e2, _, hs⟩ := DataW.trod_string Try.underlying9 t2
      simp only [List.cons.injEq, and_true] at e0 e1 e2
      subst e0; subst e1; subst e2
      exact ⟨⟨f, t, s⟩, ⟨k0, k1, k2⟩, bounds_i64 wf, bounds_i64 wt, hs⟩
    obtain ⟨es, he, hp⟩ := list_of len key
    refine ⟨some a, cap, es, by rw [he], fun hpos => ?_, by omega, hm, fun e hme => ?_⟩
    · obtain ⟨⟨z0, _, _⟩, _⟩ := hp 0 es[0] (List.getElem?_eq_getElem hpos)
      obtain ⟨b, off, spot⟩ := a
      have hspot : spot = none := by simpa [Addr.add] using World.cell?_spot z0
      subst hspot
      have hlt := World.block_lt_of_cell? W _ z0
      refine ⟨b, off, rfl, by simpa [Addr.add] using hlt, fun i e hie => ?_⟩
      obtain ⟨⟨c0, c1, c2⟩, _⟩ := hp i e hie
      rw [add_plain] at c0 c1 c2
      exact ⟨c0, c1, c2⟩
    · obtain ⟨i, hi, rfl⟩ := List.getElem_of_mem hme
      exact (hp i _ (List.getElem?_eq_getElem hi)).2
end Go.Proofs.Ytdiaghmkbplipaa
