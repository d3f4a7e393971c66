/- pattern: accepts. -/
import Derived.Test.YteppndkhmbhnkaaDoorPCont
import Derived.Deep.RegionHeld3
namespace Go.Proofs.YteppndkhmbhnkaaDoor
open Go.RowKit
set_option linter.unusedVariables false

/-- Does an item that is no star match a byte? -/
def acc (x : It) (z : Nat) : Bool :=
  if x.k = 1 then (x.t.headD 0).toNat == z else
  if x.k = 4 then (conL x.set z != x.neg) else true
set_option maxHeartbeats 4000000 in
set_option maxRecDepth 100000 in
theorem accepts_c (x : It) (sv : Value) (z : Nat) (w : World) (hs : SpAt w w.heap.size sv x.set) (ho : ItOk x) (hv : x.k = 1 → x.t.length = 1) (hz : z < 256) :
    Calls Tryd.prog 60 #[.agg #[.int .i64 x.k, .string ⟨x.t.toArray⟩, .bool x.neg, sv], .int .u8 z] w fun e w' => e = .returned (.bool (acc x z)) ∧ Below w.heap.size w w' := by
  have hs0 := Lib.hid hs
  obtain ⟨A, c, rfl, _⟩ := hs
  obtain ⟨xk, xt, xn, xs⟩ := x
  simp only at *
  by_cases h1 : xk = 1
  · subst h1
    obtain ⟨d, rfl⟩ : ∃ d, xt = [d] := by
      have := hv rfl
      rcases xt with _ | ⟨d, _ | ⟨e, r⟩⟩
      · simp at this
      · exact ⟨d, rfl⟩
      · simp at this
    have hI : acc ⟨1, [d], xn, xs⟩ z = (d.toNat == z) := rfl
    have hsz : (⟨[d].toArray⟩ : ByteArray).size = 1 := rfl
    have hix : ∀ h, (⟨[d].toArray⟩ : ByteArray)[0]'h = d := fun _ => rfl
    have hq : ((d.toNat : Int) == (z : Int)) = (d.toNat == z) := by
      by_cases h : d.toNat = z
      · rw [beq_iff_eq.2 (by omega : (d.toNat : Int) = (z : Int)), beq_iff_eq.2 h]
      · rw [beq_eq_false_iff_ne.2 (by omega : (d.toNat : Int) ≠ (z : Int)), beq_eq_false_iff_ne.2 h]
    rw [hI, ← hq]; clear hI hs0 ho hv hq
    go_enter Tryd.func60, Tryd.ntmps60
    go_wp2_with fail
    go_ret
    exact ⟨rfl, (Below.refl _ _).alloc (Nat.le_refl _) _⟩
  by_cases h4 : xk = 4
  · subst h4
    have hI : acc ⟨4, xt, xn, xs⟩ z = (conL xs z != xn) := rfl
    have hcall : Hid (∀ W, (Below w.heap.size w W ∧ w.heap.size < W.heap.size ∧ W.cell? ⟨w.heap.size, 2, none⟩ = some (.bool xn) ∧ W.cell? ⟨w.heap.size, 3, none⟩ = some (.slice A xs.length c)) → Calls Tryd.prog 92 #[.slice A xs.length c, .int .u8 z] W fun e w' => e = .returned (.bool (conL xs z)) ∧ (Below w.heap.size w w' ∧ w.heap.size < w'.heap.size ∧ w'.cell? ⟨w.heap.size, 2, none⟩ = some (.bool xn) ∧ w'.cell? ⟨w.heap.size, 3, none⟩ = some (.slice A xs.length c))) := by
      refine Lib.hid ?_
      rintro W ⟨hW, hlt, c2, c3⟩
      refine (contains_c _ xs z W (spAt_mono (spAt_below hs0.out hW (Nat.le_refl _)) hW.size) ho.1 hz).mono ?_
      rintro e w' ⟨rfl, hb⟩
      exact ⟨rfl, hW.trans (hb.mono hW.size), by have := hb.size; omega, (hb.cell (p := ⟨w.heap.size, 2, none⟩) hlt).trans c2, (hb.cell (p := ⟨w.heap.size, 3, none⟩) hlt).trans c3⟩
    rw [hI]; clear hI
    generalize conL xs z = m at *
    clear hs0 ho hv h1
    have mb := (Below.refl w.heap.size w).alloc (Nat.le_refl _) (.cells #[.int .i64 4, .string ⟨xt.toArray⟩, .bool xn, .slice A xs.length c] 43)
    go_enter Tryd.func60, Tryd.ntmps60
    go_wp2_with fail
    go_region_held3 (fun w' => Below w.heap.size w w' ∧ w.heap.size < w'.heap.size ∧ w'.cell? ⟨w.heap.size, 2, none⟩ = some (.bool xn) ∧ w'.cell? ⟨w.heap.size, 3, none⟩ = some (.slice A xs.length c))
      (first | assumption | (exact ⟨by assumption, by assumption, by assumption, by assumption⟩) | (refine ⟨((Below.refl w.heap.size w).alloc (Nat.le_refl _) _).drew, ?_, ?_, ?_⟩ <;> first | (simp [World.drew, World.alloc]; done) | go_keep | rfl))
      ((go_at_call 92; refine (hcall.out _ (by first | assumption | (refine ⟨((Below.refl w.heap.size w).alloc (Nat.le_refl _) _).drew, ?_, ?_, ?_⟩ <;> first | (simp [World.drew, World.alloc]; done) | go_keep | rfl))).mono ?_; rintro e w7 ⟨rfl, m7, l7, z2, z3⟩))
    go_wp2_with fail
    go_ret
    exact ⟨rfl, m7⟩
  · have hI : acc ⟨xk, xt, xn, xs⟩ z = true := by simp [acc, h1, h4]
    have e1 : (xk == 1) = false := by rw [beq_eq_false_iff_ne]; exact h1
    have e4 : (xk == 4) = false := by rw [beq_eq_false_iff_ne]; exact h4
    rw [hI]; clear hI hs0 ho hv h1 h4
    go_enter Tryd.func60, Tryd.ntmps60
    go_wp2_with fail
    go_ret
    exact ⟨rfl, (Below.refl _ _).alloc (Nat.le_refl _) _⟩
end Go.Proofs.YteppndkhmbhnkaaDoor
