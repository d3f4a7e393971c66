/- lexer: values that awake asks for. -/
import Derived.Test.YtlenmkcafoiefaaDoorLxK
namespace Go.Proofs.YtlenmkcafoiefaaDoor
open Go.RowKit
set_option linter.unusedVariables false

def sA : ByteArray := ⟨#[97, 62, 98, 32, 50, 62, 38, 49, 32, 35, 99]⟩
theorem evA1 : (allL sA).2 = (0, 0) := by kernel_rfl
theorem evA2 : (allL sA).1.length = 7 := by kernel_rfl
theorem evA3 : (tkCells (allL sA).1).drop 12 = [.int .i64 4, .int .i64 4, .int .i64 5, .string ⟨#[50]⟩, .int .i64 2, .int .i64 5, .int .i64 7, .string ⟨#[62, 38]⟩, .int .i64 1, .int .i64 7, .int .i64 8, .string ⟨#[49]⟩, .int .i64 5, .int .i64 11, .int .i64 11, .string ⟨#[]⟩] := by kernel_rfl
theorem evC1 : closL [36, 40, 40, 49, 43, 40, 50, 41, 41, 41] 0 = (10, 0) := by kernel_rfl
theorem evC2 : closL [34, 36, 40, 97] 0 = (1, 7) := by kernel_rfl
theorem evS : skipL [32, 9, 35, 120, 10, 121] 0 = 4 := by kernel_rfl
theorem evO : opS [60, 60, 45] = true := by kernel_rfl
theorem evR : resS [101, 108, 105, 102] = true := by kernel_rfl
/-- A slice of tokens whose cells stand below B. -/
def TkAt (w : World) (B : Nat) (A : Option Addr) (l : List Tk) : Prop := (A = none ∧ l = []) ∨ ∃ b off, A = some ⟨b, off, none⟩ ∧ b < B ∧ ∀ j v, (tkCells l)[j]? = some v → w.cell? ⟨b, off + j, none⟩ = some v
theorem ownT_at {w : World} {B : Nat} {v : Value} {l : List Tk} (h : OwnT w B v l) : ∃ A c, v = .slice A l.length c ∧ TkAt w w.heap.size A l ∧ l.length ≤ c ∧ c ≤ maxLen := by
  have h' := h
  rcases h.2 with ⟨rfl, h0⟩ | ⟨g, cap, cur, rfl, hg, hh, h2, h3, h4, h5⟩
  · exact ⟨none, 0, by rw [h0], .inl ⟨rfl, List.length_eq_zero_iff.1 h0⟩, by omega, by unfold maxLen; omega⟩
  · refine ⟨_, cap, rfl, .inr ⟨g, 0, rfl, ?_, fun j v hj => ?_⟩, h2, h3⟩
    · rw [Array.getElem?_eq_some_iff] at hh
      exact hh.1
    have hl : j < l.length * 4 := by
      have := (List.getElem?_eq_some_iff.1 hj).1
      rw [tkCells_length] at this
      exact this
    rw [Nat.zero_add, World.ownsRow.cellAt h' j (by omega)]
    exact hj
theorem tkAt_below {w w' : World} {B : Nat} {A : Option Addr} {l : List Tk} (h : TkAt w B A l) (hb : Below B w w') : TkAt w' B A l := by
  rcases h with h | ⟨b, off, rfl, hl, hc⟩
  · exact .inl h
  · exact .inr ⟨b, off, rfl, hl, fun j v hj => (hb.cell (p := ⟨b, off + j, none⟩) hl).trans (hc j v hj)⟩
set_option maxHeartbeats 16000000 in
set_option maxRecDepth 100000 in
theorem awake_c (w : World) : Calls Tryd.prog 7 #[] w fun e w' => e = .returned (.bool true) ∧ Below w.heap.size w w' := by
  have hall := Lib.hid (All_c sA w (by decide))
  have hC1 := Lib.hid (fun W => Close_c ⟨#[36, 40, 40, 49, 43, 40, 50, 41, 41, 41]⟩ 0 W (by decide) (by decide))
  have hC2 := Lib.hid (fun W => Close_c ⟨#[34, 36, 40, 97]⟩ 0 W (by decide) (by decide))
  have hS := Lib.hid (fun W => Skip_c ⟨#[32, 9, 35, 120, 10, 121]⟩ 0 W (by decide) (by decide))
  have hO := Lib.hid (fun W => Oper_c ⟨#[60, 60, 45]⟩ W)
  have hR := Lib.hid (fun W => Rese_c ⟨#[101, 108, 105, 102]⟩ W)
  simp only [evC1, evC2, evS, evO, evR] at hC1 hC2 hS hO hR
  go_enter Tryd.func7, Tryd.ntmps7
  go_wp2_with fail
  refine hall.out.mono ?_
  rintro e w1 ⟨v, rfl, ho, hb⟩
  rw [evA1]
  obtain ⟨A, c, rfl, hA, hlc, hcm⟩ := ownT_at ho
  rw [evA2] at *
  obtain ⟨b, off, rfl, hbl, hcell⟩ : ∃ b off, A = some ⟨b, off, none⟩ ∧ b < w1.heap.size ∧ ∀ j v, (tkCells (allL sA).1)[j]? = some v → w1.cell? ⟨b, off + j, none⟩ = some v := by
    rcases hA with ⟨_, h⟩ | h
    · have := evA2; rw [h] at this; cases this
    · exact h
  have hx : ∀ j v, ([.int .i64 4, .int .i64 4, .int .i64 5, .string ⟨#[50]⟩, .int .i64 2, .int .i64 5, .int .i64 7, .string ⟨#[62, 38]⟩, .int .i64 1, .int .i64 7, .int .i64 8, .string ⟨#[49]⟩, .int .i64 5, .int .i64 11, .int .i64 11, .string ⟨#[]⟩] : List Value)[j]? = some v → w1.cell? ⟨b, off + (12 + j), none⟩ = some v := by
    intro j v hj
    rw [← evA3, List.getElem?_drop] at hj
    exact hcell _ _ hj
  have x0 : w1.cell? ⟨b, off + 12, none⟩ = some (.int .i64 4) := hx 0 _ rfl
  have x1 : w1.cell? ⟨b, off + 12 + 1, none⟩ = some (.int .i64 4) := hx 1 _ rfl
  have x2 : w1.cell? ⟨b, off + 12 + 2, none⟩ = some (.int .i64 5) := hx 2 _ rfl
  have x3 : w1.cell? ⟨b, off + 12 + 3, none⟩ = some (.string ⟨#[50]⟩) := hx 3 _ rfl
  have x7 : w1.cell? ⟨b, off + 16 + 3, none⟩ = some (.string ⟨#[62, 38]⟩) := hx 7 _ rfl
  have y0 : w1.cell? ⟨b, off + 24, none⟩ = some (.int .i64 5) := hx 12 _ rfl
  have y1 : w1.cell? ⟨b, off + 24 + 1, none⟩ = some (.int .i64 11) := hx 13 _ rfl
  have y2 : w1.cell? ⟨b, off + 24 + 2, none⟩ = some (.int .i64 11) := hx 14 _ rfl
  have y3 : w1.cell? ⟨b, off + 24 + 3, none⟩ = some (.string ⟨#[]⟩) := hx 15 _ rfl
  clear hx hcell ho hA
  go_wp2_with fail
  refine (hC1.out _).mono ?_
  rintro e w2 ⟨rfl, rfl⟩
  go_wp2_with fail
  refine (hC2.out _).mono ?_
  rintro e w2 ⟨rfl, rfl⟩
  go_wp2_with fail
  refine (hS.out _).mono ?_
  rintro e w2 ⟨rfl, rfl⟩
  go_wp2_with fail
  refine (hO.out _).mono ?_
  rintro e w2 ⟨rfl, rfl⟩
  go_wp2_with fail
  refine (hR.out _).mono ?_
  rintro e w2 ⟨rfl, rfl⟩
  go_wp2_with fail
  go_ret
  exact ⟨rfl, hb⟩
end Go.Proofs.YtlenmkcafoiefaaDoor
