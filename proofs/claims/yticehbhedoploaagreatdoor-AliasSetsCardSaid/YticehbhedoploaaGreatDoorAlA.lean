/- alias: slices of aliases in memory. -/
import Derived.Test.YticehbhedoploaaGreatDoorAlM
import Derived.Deep.Slices
namespace Go.Proofs.YticehbhedoploaaGreatDoor
open Go.RowKit
set_option linter.unusedVariables false

/-- The aliases at A, in blocks below B. -/
def AlAt (w : World) (B : Nat) (A : Option Addr) (l : List Al) : Prop :=
  l = [] ∨ ∃ b off, A = some ⟨b, off, none⟩ ∧ b < B ∧ ∀ i (h : i < l.length), w.cell? ⟨b, off + i * 2, none⟩ = some (.string (l[i]'h).n) ∧ w.cell? ⟨b, off + i * 2 + 1, none⟩ = some (.string (l[i]'h).v)
theorem alAt_below {w w' : World} {B B' : Nat} {A : Option Addr} {l : List Al} (h : AlAt w B A l) (hb : Below B' w w') (hB : B ≤ B') : AlAt w' B A l := by
  rcases h with h | ⟨b, off, e, hlt, hc⟩
  · exact .inl h
  · refine .inr ⟨b, off, e, hlt, fun i hi => ?_⟩
    rw [hb.cell (p := ⟨b, off + i * 2, none⟩) (by show b < B'; omega), hb.cell (p := ⟨b, off + i * 2 + 1, none⟩) (by show b < B'; omega)]
    exact hc i hi
theorem alAt_mono {w : World} {B B' : Nat} {A : Option Addr} {l : List Al} (h : AlAt w B A l) (hB : B ≤ B') : AlAt w B' A l := by
  rcases h with h | ⟨b, off, e, hlt, hc⟩
  · exact .inl h
  · exact .inr ⟨b, off, e, by omega, hc⟩
theorem alAt_cells {w : World} {B : Nat} {A : Option Addr} {l : List Al} {i : Nat} (h : AlAt w B A l) (hi : i < l.length) :
    ∃ b off, A = some ⟨b, off, none⟩ ∧ b < B ∧ w.cell? ⟨b, off + i * 2, none⟩ = some (.string (l[i]'hi).n) ∧ w.cell? ⟨b, off + i * 2 + 1, none⟩ = some (.string (l[i]'hi).v) := by
  rcases h with rfl | ⟨b, off, e, hlt, hc⟩
  · simp at hi
  · exact ⟨b, off, e, hlt, hc i hi⟩
end Go.Proofs.YticehbhedoploaaGreatDoor
