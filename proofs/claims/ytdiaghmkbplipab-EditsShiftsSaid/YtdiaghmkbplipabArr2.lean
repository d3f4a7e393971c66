/- An argument of the type [2]uint16. -/
import Derived.Test.YtdiaghmkbplipabArgs
namespace Go.Proofs.Ytdiaghmkbplipab
open Go.ChangeShapes Go.WideShapes Go.Deep Go.RowKit
theorem arrCells : Try.prog.cellsOf 24 = 2 := by kernel_rfl
theorem u16Cells : Try.prog.cellsOf 23 = 1 := by kernel_rfl
theorem okWide_arr {P : Program} {w : World} {r : Reach} {base : Nat} {t e : TypeId} {n : Nat} {v : Value} (ht : P.underlying t = some (.array n e)) (h : Value.okWide P w r base t v) : ∃ cs, v = .agg cs ∧ cs.size = P.cellsOf t := by
  simp only [Value.okWide, ht] at h
  cases v <;> simp_all
theorem open_arr2 {H : Type} {enc : TypeId × Value → H} {W : World} {base : Nat} {r : Reach} {v : Value} {d : DataW H} {p : List MemPlace} (hv : Value.okWide Try.prog W r base 24 v) (h : DataW.Trod enc Try.prog W 0 (fun _ => true) true 24 v d p) :
    ∃ x y : Int, v = .agg #[.int .u16 x, .int .u16 y] ∧ (0 ≤ x ∧ x ≤ 65535) ∧ (0 ≤ y ∧ y ≤ 65535) := by
  obtain ⟨⟨l⟩, rfl, hsz⟩ := okWide_arr Try.underlying24 hv
  match l, hsz.trans arrCells with
  | [c0, c1], _ =>
    obtain ⟨fuel, hf⟩ := h
    obtain ⟨xs, m, _, _, _, hl, hg⟩ := DataW.trod_array Try.underlying24 hf
    match xs, hl with
    | [y0, y1], _ =>
      have g0 := hg 0 (by omega)
      have g1 := hg 1 (by omega)
      rw [u16Cells] at g0 g1
      simp [Value.cells] at g0 g1
      obtain ⟨a, e0, _, w0⟩ := DataW.trod_int Try.underlying23 g0
      obtain ⟨b, e1, _, w1⟩ := DataW.trod_int Try.underlying23 g1
      simp at e0 e1
      subst e0; subst e1
      have k0 := bounds_u16 w0
      have k1 := bounds_u16 w1
      exact ⟨a, b, rfl, by omega, by omega⟩
end Go.Proofs.Ytdiaghmkbplipab
