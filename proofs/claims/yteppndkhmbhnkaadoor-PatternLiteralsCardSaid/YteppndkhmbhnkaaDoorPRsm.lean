/- pattern: the reference's Same, of equal patterns. -/
import Derived.Test.YteppndkhmbhnkaaDoorPAwk
import Derived.Deep.QuietTactic
import Derived.BigQuiet
namespace Go.Proofs.YteppndkhmbhnkaaDoor
open Go.RowKit
set_option linter.unusedVariables false

set_option maxHeartbeats 16000000 in
set_option maxRecDepth 100000 in
theorem same_c (A A2 : Option Addr) (is : List It) (c c2 : Nat) (w : World) (hp : PatAt w w.heap.size A is) (hp2 : PatAt w w.heap.size A2 is) (ho : ∀ x ∈ is, ItOk x) (hl : is.length ≤ 1000000) :
    Calls Tryd.prog 17 #[.slice A is.length c, .slice A2 is.length c2] w fun e w' => e = .returned (.bool true) ∧ Below w.heap.size w w' := by
  have HP := Lib.hid hp; have HP2 := Lib.hid hp2; have Ho := Lib.hid ho
  clear hp hp2 ho
  go_enter Tryd.func17, Tryd.ntmps17
  go_wp2_with fail
  go_loopw [5] (fun iv wr => ∃ i : Nat, iv = .int .i64 i ∧ i ≤ is.length ∧ Below w.heap.size w wr) (fun iv _ => is.length - (intOf iv).toNat)
  case atStart => exact ⟨0, rfl, by omega, Below.refl _ _⟩
  case round =>
    obtain ⟨i, rfl, hi, hb⟩ := hrel
    obtain ⟨wo, hwo⟩ : ∃ x, x = wr := ⟨_, rfl⟩
    subst hwo
    by_cases hlt : i < is.length
    · have d1 : decide ((i : Int) < (is.length : Int)) = true := decide_eq_true (by omega)
      have d1' : decide (i < is.length) = true := decide_eq_true hlt
      obtain ⟨b, off, rfl, hbl, hcell⟩ : ∃ b off, A = some ⟨b, off, none⟩ ∧ b < w.heap.size ∧ ∀ k (h : k < is.length), ∃ sv, w.cell? ⟨b, off + k * 4, none⟩ = some (.int .i64 (is[k]'h).k) ∧ w.cell? ⟨b, off + k * 4 + 1, none⟩ = some (.string ⟨(is[k]'h).t.toArray⟩) ∧ w.cell? ⟨b, off + k * 4 + 2, none⟩ = some (.bool (is[k]'h).neg) ∧ w.cell? ⟨b, off + k * 4 + 3, none⟩ = some sv ∧ SpAt w w.heap.size sv (is[k]'h).set := by
        rcases HP.out with rfl | h
        · simp at hlt
        · exact h
      obtain ⟨b2, off2, rfl, hbl2, hcell2⟩ : ∃ b off, A2 = some ⟨b, off, none⟩ ∧ b < w.heap.size ∧ ∀ k (h : k < is.length), ∃ sv, w.cell? ⟨b, off + k * 4, none⟩ = some (.int .i64 (is[k]'h).k) ∧ w.cell? ⟨b, off + k * 4 + 1, none⟩ = some (.string ⟨(is[k]'h).t.toArray⟩) ∧ w.cell? ⟨b, off + k * 4 + 2, none⟩ = some (.bool (is[k]'h).neg) ∧ w.cell? ⟨b, off + k * 4 + 3, none⟩ = some sv ∧ SpAt w w.heap.size sv (is[k]'h).set := by
        rcases HP2.out with rfl | h
        · simp at hlt
        · exact h
      obtain ⟨sv, y0, y1, y2, y3, A9, c9, rfl, ys⟩ := hcell i hlt
      obtain ⟨sv2, v0, v1, v2, v3, A8, c8, rfl, vs⟩ := hcell2 i hlt
      have hok := Ho.out (is[i]'hlt) (List.getElem_mem hlt)
      have hls := hok.1.1
      have hiI : (i : Int) < (is.length : Int) := by omega
      generalize is[i]'hlt = q at *
      obtain ⟨xk, xt, xn, xs⟩ := q
      simp only at y0 y1 y2 y3 v0 v1 v2 v3 ys vs hls
      have x0 := (hb.cell (p := ⟨b, off + i * 4, none⟩) hbl).trans y0
      have x1 := (hb.cell (p := ⟨b, off + i * 4 + 1, none⟩) hbl).trans y1
      have x2 := (hb.cell (p := ⟨b, off + i * 4 + 2, none⟩) hbl).trans y2
      have x3 := (hb.cell (p := ⟨b, off + i * 4 + 3, none⟩) hbl).trans y3
      have z0 := (hb.cell (p := ⟨b2, off2 + i * 4, none⟩) hbl2).trans v0
      have z1 := (hb.cell (p := ⟨b2, off2 + i * 4 + 1, none⟩) hbl2).trans v1
      have z2 := (hb.cell (p := ⟨b2, off2 + i * 4 + 2, none⟩) hbl2).trans v2
      have z3 := (hb.cell (p := ⟨b2, off2 + i * 4 + 3, none⟩) hbl2).trans v3
      have e0 : (xk != xk) = false := bne_self_eq_false _
      have e2 : (xn != xn) = false := bne_self_eq_false _
      have e3 : ((xs.length : Int) != (xs.length : Int)) = false := bne_self_eq_false _
      clear hcell hcell2 hok HP HP2 Ho y0 y1 y2 v0 v1 v2
      go_wp2_with fail
      go_quiet (fail)
      clear x0 x1 x2 x3 z0 z1 z2 z3
      go_wp2_with fail
      go_loopw [6] (fun kv wr => ∃ k : Nat, kv = .int .i64 k ∧ k ≤ xs.length ∧ Below w.heap.size w wr) (fun kv _ => xs.length - (intOf kv).toNat)
      case atStart => exact ⟨0, rfl, by omega, by first | assumption | exact below_drewN hb _⟩
      case round =>
        obtain ⟨k, rfl, hk, hbr⟩ := hrel
        have x3 := (hbr.cell (p := ⟨b, off + i * 4 + 3, none⟩) hbl).trans y3
        have z3 := (hbr.cell (p := ⟨b2, off2 + i * 4 + 3, none⟩) hbl2).trans v3
        by_cases hks : k < xs.length
        · have d2 : decide ((k : Int) < (xs.length : Int)) = true := decide_eq_true (by omega)
          have d2' : decide (k < xs.length) = true := decide_eq_true hks
          obtain ⟨b9, off9, rfl, hb9, hc9⟩ : ∃ b off, A9 = some ⟨b, off, none⟩ ∧ b < w.heap.size ∧ ∀ k (h : k < xs.length), w.cell? ⟨b, off + k * 2, none⟩ = some (.int .u8 ((xs[k]'h).1 : Nat)) ∧ w.cell? ⟨b, off + k * 2 + 1, none⟩ = some (.int .u8 ((xs[k]'h).2 : Nat)) := by
            rcases ys with rfl | h
            · simp at hks
            · exact h
          obtain ⟨b8, off8, rfl, hb8, hc8⟩ : ∃ b off, A8 = some ⟨b, off, none⟩ ∧ b < w.heap.size ∧ ∀ k (h : k < xs.length), w.cell? ⟨b, off + k * 2, none⟩ = some (.int .u8 ((xs[k]'h).1 : Nat)) ∧ w.cell? ⟨b, off + k * 2 + 1, none⟩ = some (.int .u8 ((xs[k]'h).2 : Nat)) := by
            rcases vs with rfl | h
            · simp at hks
            · exact h
          have r0 := (hbr.cell (p := ⟨b9, off9 + k * 2, none⟩) hb9).trans (hc9 k hks).1
          have r1 := (hbr.cell (p := ⟨b9, off9 + k * 2 + 1, none⟩) hb9).trans (hc9 k hks).2
          have s0 := (hbr.cell (p := ⟨b8, off8 + k * 2, none⟩) hb8).trans (hc8 k hks).1
          have s1 := (hbr.cell (p := ⟨b8, off8 + k * 2 + 1, none⟩) hb8).trans (hc8 k hks).2
          have hkI : (k : Int) < (xs.length : Int) := by omega
          generalize xs[k]'hks = q at *
          obtain ⟨a9, e9⟩ := q
          simp only at r0 r1 s0 s1
          clear hc9 hc8 ys vs y3 v3
          go_wp2_with fail
          go_quiet (fail)
          go_wp2_with fail
          go_roundw
          case rel => exact ⟨k + 1, by go_num, by omega, by first | assumption | exact below_drewN hbr _⟩
          case measure => simp [intOf]; omega
        · have hke : k = xs.length := by omega
          have d2 : decide ((k : Int) < (xs.length : Int)) = false := decide_eq_false (by omega)
          have d2' : decide (k < xs.length) = false := decide_eq_false hks
          clear ys vs y3 v3
          go_wp2_with fail
          go_roundw
          case rel => exact ⟨i + 1, by go_num, by omega, hbr⟩
          case measure => simp [intOf]; omega
    · have d1 : decide ((i : Int) < (is.length : Int)) = false := decide_eq_false (by omega)
      have d1' : decide (i < is.length) = false := decide_eq_false hlt
      go_wp2_with fail
      go_ret
      exact ⟨rfl, hb⟩
end Go.Proofs.YteppndkhmbhnkaaDoor
