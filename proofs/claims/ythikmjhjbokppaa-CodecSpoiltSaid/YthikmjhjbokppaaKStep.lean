/- Bytes appended to fresh bytes: the run, the operation, a step of a region that draws its order. -/
import Derived.Test.YthikmjhjbokppaaKOpen
import Derived.Deep.RegionHeld3
namespace Go.Proofs.Ythikmjhjbokppaa
open Go.RowKit
set_option linter.unusedVariables false

theorem run_app_by (w : World) (ty : TypeId) (B : Nat) (v : Value) (l : List UInt8) (hown : Own w B v l) (B' : Nat) (A : Option Addr) (m : List UInt8) (c : Nat) (hA : ByAt w B' A m) (hl : l.length + m.length ≤ 100000000) (hB : B ≤ w.heap.size) :
    ∃ v' w', (Builtin.append_ #[22, 22] ty #[v, .slice A m.length c]).run Try.prog w = .ok v' w' ∧ Own w' B v' (l ++ m) ∧ Below B w w' := by
  obtain ⟨i0, hi, hz0, hz1, hz2⟩ := info_parts byteInfo
  rcases hA with rfl | ⟨b, off, rfl, _, hc⟩
  · obtain ⟨base, sLen, sCap, rfl, hle⟩ : ∃ base sLen sCap, v = .slice base sLen sCap ∧ sLen ≤ sCap := by
      rcases hown.2 with ⟨rfl, _⟩ | ⟨g, cap, cur, fz, rfl, _, _, _, h1, _⟩
      · exact ⟨_, _, _, rfl, Nat.le_refl _⟩
      · exact ⟨_, _, _, rfl, h1⟩
    have hsrc : ∃ hk : Try.prog.underlying 22 = some (.slice 5), Src Try.prog i0.size 22 (.slice A 0 c) 0 [] w := by
      refine ⟨Try.underlying22, ?_⟩
      rcases A with _ | ad
      · exact Src.ofNil w Try.underlying22 c
      · exact Src.ofSlice w Try.underlying22 ad 0 c [] (by simp) (fun j u hj => by simp at hj) (fun u hu => by simp at hu)
    have hrun := run_append_nothing (P := Try.prog) w 22 22 ty 5 i0 Try.underlying22 hi base sLen sCap hle _ hsrc.2
    exact ⟨_, _, hrun, by rw [List.append_nil]; exact hown, Below.refl _ _⟩
  · obtain ⟨v', w', hr, h1, h2, _⟩ := run_append_ownF (P := Try.prog) w B 22 ty 5 i0 (.int .u8 0) 1 1 Try.underlying22 hi hz0 hz1 hz2 rfl (by decide) v l.length (Lib.byteCells l) hown ⟨b, off, none⟩ m.length c (Lib.byteCells m) (by rw [Lib.byteCells_length]; omega) (by
      intro j u hj
      have hj' : j < m.length := by
        have := (List.getElem?_eq_some_iff.1 hj).1
        simpa [byteCells_map] using this
      rw [byteCells_map, List.getElem?_map, List.getElem?_eq_getElem hj'] at hj
      injection hj with hj
      rw [← hj, show (⟨b, off, none⟩ : Addr).add j = ⟨b, off + j, none⟩ from by simp [Addr.add]]
      exact hc j hj') (by
      intro u hu
      rw [byteCells_map] at hu
      obtain ⟨x, _, rfl⟩ := List.mem_map.1 hu
      rfl) (by unfold maxLen; omega) (by omega) hB
    refine ⟨v', w', hr, ?_, (Below.refl B w).grown h2 hB (fun k hk => (own_lt hown k hk).1)⟩
    unfold Own
    rw [Lib.byteCells_append, List.length_append]
    exact h1

theorem wp_app_by {w : World} {o : Oper} {a : Act} {K : Act → World → Prop} {Q : Exit → Act → World → Prop} (s x : Operand)
    (ho : o.op = .call { callee := .builtin .append, args := #[s, x], argTypes := #[22, 22] })
    (B : Nat) (v : Value) (l : List UInt8) (hs : a.eval s = v) (hown : Own w B v l) (B' : Nat) (A : Option Addr) (m : List UInt8) (n c : Nat) (hn : n = m.length) (hx : a.eval x = .slice A n c) (hA : ByAt w B' A m)
    (hl : l.length + m.length ≤ 100000000) (hB : B ≤ w.heap.size)
    (h : ∀ v' w', Own w' B v' (l ++ m) → Below B w w' → K (a.put o.dst v') w') : o.wp Try.prog a w K Q := by
  subst hn
  obtain ⟨v', w', hr, h1, h2⟩ := run_app_by w o.type B v l hown B' A m c hA hl hB
  unfold Oper.wp execOp
  simp only [ho, resolve, invoke, builtin, Sem.run_bind, Sem.run_pure, Result.andThen_ok, List.map_toArray, List.map_cons, List.map_nil, hs, hx, hr]
  exact h v' w' h1 h2
theorem step_app_by {w : World} {ops : Array Oper} {o : Oper} {a : Act} {K : Act → World → Prop} {Q : Exit → Act → World → Prop} {E : Prop} (hgd : o.guard = none) (s x : Operand)
    (ho : o.op = .call { callee := .builtin .append, args := #[s, x], argTypes := #[22, 22] })
    (B : Nat) (v : Value) (l : List UInt8) (hs : a.eval s = v) (hown : Own w B v l) (B' : Nat) (A : Option Addr) (m : List UInt8) (n c : Nat) (hn : n = m.length) (hx : a.eval x = .slice A n c) (hA : ByAt w B' A m)
    (hl : l.length + m.length ≤ 100000000) (hB : B ≤ w.heap.size)
    (h : ∀ v' w', Own w' B v' (l ++ m) → Below B w w' → K (a.put o.dst v') w') :
    if Region.wanted o (yielded ops a.tmps) = true then Oper.wp Try.prog o a w K Q else E := by
  have hw : Region.wanted o (yielded ops a.tmps) = true := by simp [Region.wanted, hgd]
  rw [if_pos hw]
  exact wp_app_by s x ho B v l hs hown B' A m n c hn hx hA hl hB h
end Go.Proofs.Ythikmjhjbokppaa
