/- A slice of bytes, a byte, that came in. -/
import Derived.Test.YthikmjhjbokppaaArgs
import Derived.Test.YthikmjhjbokppaaKAwake
import Derived.ChangeSlices
namespace Go.Proofs.Ythikmjhjbokppaa
open Go.ChangeShapes Go.WideShapes Go.Deep Go.RowKit
set_option linter.unusedVariables false

theorem open_bytes {H : Type} {enc : TypeId × Value → H} {W : World} {base : Nat} {r : Reach} {v : Value} {d : DataW H} {p : List MemPlace} (hv : Value.okWide Try.prog W r base 22 v) (h : DataW.Trod enc Try.prog W 0 (fun _ => true) true 22 v d p) :
    ∃ (A : Option Addr) (c : Nat) (l : List UInt8), v = .slice A l.length c ∧ ByAt W W.heap.size A l ∧ l.length ≤ c ∧ c ≤ maxLen := by
  obtain ⟨A, len, cap, rfl⟩ := okWide_slice Try.underlying22 hv
  obtain ⟨fuel, hf⟩ := h
  rcases open_ints Try.underlying22 Try.underlying5 (by kernel_rfl) (by simpa [Value.cells] using hf) with ⟨h0, _⟩ | ⟨a, len', cap', zs, hcs, _, hl, hm, hzl, _, hc, hw⟩
  · simp at h0
    obtain ⟨rfl, rfl, rfl⟩ := h0
    exact ⟨none, 0, [], rfl, .inl rfl, by simp, by simp [maxLen]⟩
  · simp only [List.cons.injEq, Value.slice.injEq, and_true] at hcs
    obtain ⟨rfl, rfl, rfl⟩ := hcs
    rw [if_pos rfl] at hzl
    have hlen : ((zs.take len).map fun z => z.toNat.toUInt8).length = len := by simp; omega
    refine ⟨some a, cap, (zs.take len).map fun z => z.toNat.toUInt8, by rw [hlen], ?_, by omega, hm⟩
    by_cases hz : len = 0
    · subst hz; exact .inl (by simp)
    right
    have h0 := hc 0 (by omega)
    obtain ⟨b, off, spot⟩ := a
    have hspot : spot = none := by simpa [Addr.add] using World.cell?_spot h0
    subst hspot
    have hlt := World.block_lt_of_cell? W _ h0
    refine ⟨b, off, rfl, by simpa [Addr.add] using hlt, fun k hk => ?_⟩
    rw [hlen] at hk
    have h1 := hc k (by omega)
    have hk2 : k < zs.length := by omega
    have h2 := bounds_u8 (hw _ (List.getElem_mem hk2))
    rw [show (⟨b, off, none⟩ : Addr).add k = ⟨b, off + k, none⟩ from by simp [Addr.add], List.getD_eq_getElem?_getD, List.getElem?_eq_getElem hk2] at h1
    rw [h1]
    simp only [List.getElem_map, List.getElem_take, Option.getD_some]
    rw [u8_toNat (by omega)]
    congr 2
    omega
end Go.Proofs.Ythikmjhjbokppaa
