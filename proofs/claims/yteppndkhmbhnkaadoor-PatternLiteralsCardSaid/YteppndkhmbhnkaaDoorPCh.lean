/- pattern: a character, a run of characters; (char).is, beginsWith. -/
import Derived.Test.YteppndkhmbhnkaaDoorProg
import Derived.WalkKit
import Derived.BigCall
import Derived.Lib.Hide
import Derived.Lib.FrozenHead2
import Derived.WalkSmall
import Derived.Deep.RegionHeld3
import Derived.Deep.DrawnRows
namespace Go.Proofs.YteppndkhmbhnkaaDoor
open Go.RowKit
set_option linter.unusedVariables false

theorem u8_ext {a b : UInt8} (h : a.toNat = b.toNat) : a = b := UInt8.toNat_inj.1 h

/-- A character: its byte, whether it is active. -/
structure Ch where
  b : UInt8
  act : Bool
deriving DecidableEq
def chIs (c : Ch) (x : UInt8) : Bool := c.act && c.b == x
def chV (c : Ch) : Value := .agg #[.int .u8 c.b.toNat, .bool c.act]
/-- The characters that a slice shows, in blocks below B. -/
def ChAt (w : World) (B : Nat) (A : Option Addr) (cs : List Ch) : Prop :=
  cs = [] ∨ ∃ b off, A = some ⟨b, off, none⟩ ∧ b < B ∧ ∀ k (h : k < cs.length), w.cell? ⟨b, off + k * 2, none⟩ = some (.int .u8 (cs[k]'h).b.toNat) ∧ w.cell? ⟨b, off + k * 2 + 1, none⟩ = some (.bool (cs[k]'h).act)
theorem chAt_below {w w' : World} {B B' : Nat} {A : Option Addr} {cs : List Ch} (h : ChAt w B A cs) (hb : Below B' w w') (hB : B ≤ B') : ChAt w' B A cs := by
  rcases h with rfl | ⟨b, off, rfl, hlt, hc⟩
  · exact .inl rfl
  · exact .inr ⟨b, off, rfl, hlt, fun k hk => ⟨(hb.cell (p := ⟨b, off + k * 2, none⟩) (by show b < B'; omega)).trans (hc k hk).1, (hb.cell (p := ⟨b, off + k * 2 + 1, none⟩) (by show b < B'; omega)).trans (hc k hk).2⟩⟩
theorem chAt_mono {w : World} {B B' : Nat} {A : Option Addr} {cs : List Ch} (h : ChAt w B A cs) (hB : B ≤ B') : ChAt w B' A cs := by
  rcases h with rfl | ⟨b, off, rfl, hlt, hc⟩
  · exact .inl rfl
  · exact .inr ⟨b, off, rfl, by omega, hc⟩
theorem chAt_drop {w : World} {B : Nat} {A : Option Addr} {cs : List Ch} (h : ChAt w B A cs) (k : Nat) : ChAt w B (A.map (·.add (k * 2))) (cs.drop k) := by
  rcases h with rfl | ⟨b, off, rfl, hb, hc⟩
  · exact .inl (by simp)
  · refine .inr ⟨b, off + k * 2, by simp [Addr.add], hb, fun j hj => ?_⟩
    rw [List.getElem_drop]
    have := hc (k + j) (by rw [List.length_drop] at hj; omega)
    rw [show off + k * 2 + j * 2 = off + (k + j) * 2 from by omega]
    exact this
theorem chAt_dropS {w : World} {B b off : Nat} {cs : List Ch} (h : ChAt w B (some ⟨b, off, none⟩) cs) (k : Nat) : ChAt w B (some ⟨b, off + k * 2, none⟩) (cs.drop k) := by
  have := chAt_drop h k
  rwa [show (some ⟨b, off, none⟩ : Option Addr).map (·.add (k * 2)) = some ⟨b, off + k * 2, none⟩ from by simp [Addr.add]] at this
theorem chAt_take {w : World} {B : Nat} {A : Option Addr} {cs : List Ch} (h : ChAt w B A cs) (k : Nat) : ChAt w B A (cs.take k) := by
  rcases h with rfl | ⟨b, off, rfl, hb, hc⟩
  · exact .inl (by simp)
  · refine .inr ⟨b, off, rfl, hb, fun j hj => ?_⟩
    rw [List.getElem_take]
    exact hc j (by rw [List.length_take] at hj; omega)

theorem is_c (c : Ch) (x : UInt8) (w : World) :
    Calls Tryd.prog 84 #[chV c, .int .u8 x.toNat] w fun e w' => e = .returned (.bool (chIs c x)) ∧ Below w.heap.size w w' := by
  obtain ⟨b, a⟩ := c
  unfold chV chIs
  have hbx : ((b.toNat : Int) == (x.toNat : Int)) = (b == x) := by
    rw [Bool.eq_iff_iff, beq_iff_eq, beq_iff_eq]
    exact ⟨fun h => u8_ext (by omega), fun h => by rw [h]⟩
  have hbx' : (b.toNat == x.toNat) = (b == x) := by
    rw [Bool.eq_iff_iff, beq_iff_eq, beq_iff_eq]
    exact ⟨fun h => u8_ext h, fun h => by rw [h]⟩
  cases a
  · go_enter Tryd.func84, Tryd.ntmps84
    go_wp2_with fail
    go_ret
    exact ⟨rfl, (Below.refl _ _).alloc (Nat.le_refl _) _⟩
  · go_enter Tryd.func84, Tryd.ntmps84
    go_wp2_with fail
    go_ret
    exact ⟨rfl, (Below.refl _ _).alloc (Nat.le_refl _) _⟩
end Go.Proofs.YteppndkhmbhnkaaDoor
