/- pattern: valid. -/
import Derived.Test.YteppndkhmbhnkaaDoorPAcc
namespace Go.Proofs.YteppndkhmbhnkaaDoor
open Go.RowKit
set_option linter.unusedVariables false

/-- The first item from k on of which P is true, or -1. -/
def idx (P : It → Bool) : Nat → List It → Int
  | _, [] => -1
  | k, x :: r => if P x then (k : Int) else idx P (k + 1) r
theorem idx_any (P : It → Bool) : ∀ (l : List It) (k : Nat), (decide (0 ≤ idx P k l) = l.any P) := by
  intro l
  induction l with
  | nil => intro k; rfl
  | cons x r ih =>
    intro k
    unfold idx
    rcases h : P x with _ | _
    · simp only [Bool.false_eq_true, if_false, List.any_cons, h, Bool.false_or]; exact ih (k + 1)
    · simp only [if_true, List.any_cons, h, Bool.true_or]; exact decide_eq_true (by omega)
set_option maxHeartbeats 4000000 in
set_option maxRecDepth 100000 in
theorem indexFunc_i (A : Option Addr) (is : List It) (c : Nat) (w : World) (hp : PatAt w w.heap.size A is) (ho : ∀ x ∈ is, ItOk x) (hl : is.length ≤ 1000000)
    (hf : ∀ (x : It) (sv : Value) (W : World), SpAt W W.heap.size sv x.set → ItOk x → Calls Tryd.prog 90 #[.agg #[.int .i64 x.k, .string ⟨x.t.toArray⟩, .bool x.neg, sv]] W fun e w' => e = .returned (.bool (inv x)) ∧ Below W.heap.size W w') :
    Calls Tryd.prog 93 #[.slice A is.length c, .func (Fn.func 90) #[] #[]] w fun e w' => e = .returned (.int .i64 (idx inv 0 is)) ∧ Below w.heap.size w w' := by
  have HF := Lib.hid hf
  have HR : Hid (idx inv 0 is = idx inv 0 (is.drop 0)) := Lib.hid rfl
  have HP := Lib.hid hp
  generalize idx inv 0 is = R at *
  clear hf hp
  go_enter Tryd.func93, Tryd.ntmps93
  go_wp2_with fail
  go_loopw [8] (fun iv wr => ∃ (k : Nat), iv = .int .i64 k ∧ k ≤ is.length ∧ Below w.heap.size w wr ∧ Hid (R = idx inv k (is.drop k))) (fun iv _ => is.length - (intOf iv).toNat)
  case atStart => exact ⟨0, rfl, by omega, Below.refl _ _, HR⟩
  case round =>
    obtain ⟨k, rfl, hk, hb, hx⟩ := hrel
    clear HR
    by_cases hlt : k < is.length
    · have d1 : decide ((k : Int) < (is.length : Int)) = true := decide_eq_true (by omega)
      have d1' : decide (k < is.length) = true := decide_eq_true hlt
      obtain ⟨b, off, rfl, hbl, hcell⟩ : ∃ b off, A = some ⟨b, off, none⟩ ∧ b < w.heap.size ∧ ∀ k (h : k < is.length), ∃ sv, w.cell? ⟨b, off + k * 4, none⟩ = some (.int .i64 (is[k]'h).k) ∧ w.cell? ⟨b, off + k * 4 + 1, none⟩ = some (.string ⟨(is[k]'h).t.toArray⟩) ∧ w.cell? ⟨b, off + k * 4 + 2, none⟩ = some (.bool (is[k]'h).neg) ∧ w.cell? ⟨b, off + k * 4 + 3, none⟩ = some sv ∧ SpAt w w.heap.size sv (is[k]'h).set := by
        rcases HP.out with rfl | h
        · simp at hlt
        · exact h
      obtain ⟨sv, y0, y1, y2, y3, ys⟩ := hcell k hlt
      have x0 := (hb.cell (p := ⟨b, off + k * 4, none⟩) hbl).trans y0
      have x1 := (hb.cell (p := ⟨b, off + k * 4 + 1, none⟩) hbl).trans y1
      have x2 := (hb.cell (p := ⟨b, off + k * 4 + 2, none⟩) hbl).trans y2
      have x3 := (hb.cell (p := ⟨b, off + k * 4 + 3, none⟩) hbl).trans y3
      have hok := ho (is[k]'hlt) (List.getElem_mem hlt)
      have hx2 := hx.out
      rw [List.drop_eq_getElem_cons hlt] at hx2
      have hcall : Hid (∀ W, Below w.heap.size w W → Calls Tryd.prog 90 #[.agg #[.int .i64 (is[k]'hlt).k, .string ⟨(is[k]'hlt).t.toArray⟩, .bool (is[k]'hlt).neg, sv]] W fun e w' => e = .returned (.bool (inv (is[k]'hlt))) ∧ Below w.heap.size w w') := by
        refine Lib.hid ?_
        intro W hW
        refine (HF.out _ sv W (spAt_mono (spAt_below ys hW (Nat.le_refl _)) hW.size) hok).mono ?_
        rintro e w' ⟨rfl, hb⟩
        exact ⟨rfl, hW.trans (hb.mono hW.size)⟩
      generalize is[k]'hlt = q at *
      obtain ⟨qk, qt, qn, qs⟩ := q
      simp only [idx] at hx2 x0 x1 x2 x3 hcall
      have Hx2 := Lib.hid hx2
      have hkI : (k : Int) < (is.length : Int) := by omega
      have hwsz := hb.size
      have hba : ∀ o, Below w.heap.size w (wr.alloc o) := fun o => hb.alloc hwsz o
      have Hba := Lib.hid hba
      clear hx hx2 hcell hba y0 y1 y2 y3 ys hok HF HP
      generalize inv ⟨qk, qt, qn, qs⟩ = p at *
      go_wp2_with fail
      refine (hcall.out _ (by first | assumption | exact Hba.out _)).mono ?_
      rintro e w7 ⟨rfl, m7⟩
      rcases p with _ | _
      · have hR : Hid (R = idx inv (k + 1) (is.drop (k + 1))) := Lib.hid (by rw [Hx2.out]; rfl)
        clear Hx2 hcall
        go_wp2_with fail
        go_roundw
        case rel => exact ⟨k + 1, by go_num, by omega, m7, hR⟩
        case measure => simp [intOf]; omega
      · have hR : R = k := by rw [Hx2.out]; rfl
        subst hR
        clear Hx2 hcall
        go_wp2_with fail
        go_ret
        exact ⟨rfl, m7⟩
    · have hke : k = is.length := by omega
      have d1 : decide ((k : Int) < (is.length : Int)) = false := decide_eq_false (by omega)
      have d1' : decide (k < is.length) = false := decide_eq_false hlt
      have hR : R = -1 := by rw [hx.out, hke, List.drop_length]; rfl
      subst hR
      clear hx hke
      go_wp2_with fail
      go_ret
      exact ⟨rfl, hb⟩

set_option maxHeartbeats 4000000 in
set_option maxRecDepth 100000 in
theorem containsFunc_i (A : Option Addr) (is : List It) (c : Nat) (w : World) (hp : PatAt w w.heap.size A is) (ho : ∀ x ∈ is, ItOk x) (hl : is.length ≤ 1000000)
    (hf : ∀ (x : It) (sv : Value) (W : World), SpAt W W.heap.size sv x.set → ItOk x → Calls Tryd.prog 90 #[.agg #[.int .i64 x.k, .string ⟨x.t.toArray⟩, .bool x.neg, sv]] W fun e w' => e = .returned (.bool (inv x)) ∧ Below W.heap.size W w') :
    Calls Tryd.prog 64 #[.slice A is.length c, .func (Fn.func 90) #[] #[]] w fun e w' => e = .returned (.bool (is.any inv)) ∧ Below w.heap.size w w' := by
  have hc := indexFunc_i A is c w hp ho hl hf
  rw [← idx_any inv is 0]
  clear hf hp ho
  have hc := Lib.hid hc
  go_enter Tryd.func64, Tryd.ntmps64
  go_wp2_with fail
  refine hc.out.mono ?_
  rintro e w7 ⟨rfl, m7⟩
  go_wp2_with fail
  go_ret
  exact ⟨rfl, m7⟩

set_option maxHeartbeats 4000000 in
set_option maxRecDepth 100000 in
theorem indexFunc_s (A : Option Addr) (is : List It) (c : Nat) (w : World) (hp : PatAt w w.heap.size A is) (ho : ∀ x ∈ is, ItOk x) (hl : is.length ≤ 1000000)
    (hf : ∀ (x : It) (sv : Value) (W : World), SpAt W W.heap.size sv x.set → ItOk x → Calls Tryd.prog 65 #[.agg #[.int .i64 x.k, .string ⟨x.t.toArray⟩, .bool x.neg, sv]] W fun e w' => e = .returned (.bool (spec x)) ∧ Below W.heap.size W w') :
    Calls Tryd.prog 93 #[.slice A is.length c, .func (Fn.func 65) #[] #[]] w fun e w' => e = .returned (.int .i64 (idx spec 0 is)) ∧ Below w.heap.size w w' := by
  have HF := Lib.hid hf
  have HR : Hid (idx spec 0 is = idx spec 0 (is.drop 0)) := Lib.hid rfl
  have HP := Lib.hid hp
  generalize idx spec 0 is = R at *
  clear hf hp
  go_enter Tryd.func93, Tryd.ntmps93
  go_wp2_with fail
  go_loopw [8] (fun iv wr => ∃ (k : Nat), iv = .int .i64 k ∧ k ≤ is.length ∧ Below w.heap.size w wr ∧ Hid (R = idx spec k (is.drop k))) (fun iv _ => is.length - (intOf iv).toNat)
  case atStart => exact ⟨0, rfl, by omega, Below.refl _ _, HR⟩
  case round =>
    obtain ⟨k, rfl, hk, hb, hx⟩ := hrel
    clear HR
    by_cases hlt : k < is.length
    · have d1 : decide ((k : Int) < (is.length : Int)) = true := decide_eq_true (by omega)
      have d1' : decide (k < is.length) = true := decide_eq_true hlt
      obtain ⟨b, off, rfl, hbl, hcell⟩ : ∃ b off, A = some ⟨b, off, none⟩ ∧ b < w.heap.size ∧ ∀ k (h : k < is.length), ∃ sv, w.cell? ⟨b, off + k * 4, none⟩ = some (.int .i64 (is[k]'h).k) ∧ w.cell? ⟨b, off + k * 4 + 1, none⟩ = some (.string ⟨(is[k]'h).t.toArray⟩) ∧ w.cell? ⟨b, off + k * 4 + 2, none⟩ = some (.bool (is[k]'h).neg) ∧ w.cell? ⟨b, off + k * 4 + 3, none⟩ = some sv ∧ SpAt w w.heap.size sv (is[k]'h).set := by
        rcases HP.out with rfl | h
        · simp at hlt
        · exact h
      obtain ⟨sv, y0, y1, y2, y3, ys⟩ := hcell k hlt
      have x0 := (hb.cell (p := ⟨b, off + k * 4, none⟩) hbl).trans y0
      have x1 := (hb.cell (p := ⟨b, off + k * 4 + 1, none⟩) hbl).trans y1
      have x2 := (hb.cell (p := ⟨b, off + k * 4 + 2, none⟩) hbl).trans y2
      have x3 := (hb.cell (p := ⟨b, off + k * 4 + 3, none⟩) hbl).trans y3
      have hok := ho (is[k]'hlt) (List.getElem_mem hlt)
      have hx2 := hx.out
      rw [List.drop_eq_getElem_cons hlt] at hx2
      have hcall : Hid (∀ W, Below w.heap.size w W → Calls Tryd.prog 65 #[.agg #[.int .i64 (is[k]'hlt).k, .string ⟨(is[k]'hlt).t.toArray⟩, .bool (is[k]'hlt).neg, sv]] W fun e w' => e = .returned (.bool (spec (is[k]'hlt))) ∧ Below w.heap.size w w') := by
        refine Lib.hid ?_
        intro W hW
        refine (HF.out _ sv W (spAt_mono (spAt_below ys hW (Nat.le_refl _)) hW.size) hok).mono ?_
        rintro e w' ⟨rfl, hb⟩
        exact ⟨rfl, hW.trans (hb.mono hW.size)⟩
      generalize is[k]'hlt = q at *
      obtain ⟨qk, qt, qn, qs⟩ := q
      simp only [idx] at hx2 x0 x1 x2 x3 hcall
      have Hx2 := Lib.hid hx2
      have hkI : (k : Int) < (is.length : Int) := by omega
      have hwsz := hb.size
      have hba : ∀ o, Below w.heap.size w (wr.alloc o) := fun o => hb.alloc hwsz o
      have Hba := Lib.hid hba
      clear hx hx2 hcell hba y0 y1 y2 y3 ys hok HF HP
      generalize spec ⟨qk, qt, qn, qs⟩ = p at *
      go_wp2_with fail
      refine (hcall.out _ (by first | assumption | exact Hba.out _)).mono ?_
      rintro e w7 ⟨rfl, m7⟩
      rcases p with _ | _
      · have hR : Hid (R = idx spec (k + 1) (is.drop (k + 1))) := Lib.hid (by rw [Hx2.out]; rfl)
        clear Hx2 hcall
        go_wp2_with fail
        go_roundw
        case rel => exact ⟨k + 1, by go_num, by omega, m7, hR⟩
        case measure => simp [intOf]; omega
      · have hR : R = k := by rw [Hx2.out]; rfl
        subst hR
        clear Hx2 hcall
        go_wp2_with fail
        go_ret
        exact ⟨rfl, m7⟩
    · have hke : k = is.length := by omega
      have d1 : decide ((k : Int) < (is.length : Int)) = false := decide_eq_false (by omega)
      have d1' : decide (k < is.length) = false := decide_eq_false hlt
      have hR : R = -1 := by rw [hx.out, hke, List.drop_length]; rfl
      subst hR
      clear hx hke
      go_wp2_with fail
      go_ret
      exact ⟨rfl, hb⟩

set_option maxHeartbeats 4000000 in
set_option maxRecDepth 100000 in
theorem containsFunc_s (A : Option Addr) (is : List It) (c : Nat) (w : World) (hp : PatAt w w.heap.size A is) (ho : ∀ x ∈ is, ItOk x) (hl : is.length ≤ 1000000)
    (hf : ∀ (x : It) (sv : Value) (W : World), SpAt W W.heap.size sv x.set → ItOk x → Calls Tryd.prog 65 #[.agg #[.int .i64 x.k, .string ⟨x.t.toArray⟩, .bool x.neg, sv]] W fun e w' => e = .returned (.bool (spec x)) ∧ Below W.heap.size W w') :
    Calls Tryd.prog 64 #[.slice A is.length c, .func (Fn.func 65) #[] #[]] w fun e w' => e = .returned (.bool (is.any spec)) ∧ Below w.heap.size w w' := by
  have hc := indexFunc_s A is c w hp ho hl hf
  rw [← idx_any spec is 0]
  clear hf hp ho
  have hc := Lib.hid hc
  go_enter Tryd.func64, Tryd.ntmps64
  go_wp2_with fail
  refine hc.out.mono ?_
  rintro e w7 ⟨rfl, m7⟩
  go_wp2_with fail
  go_ret
  exact ⟨rfl, m7⟩

set_option maxHeartbeats 4000000 in
set_option maxRecDepth 100000 in
theorem valid_c (A : Option Addr) (is : List It) (c : Nat) (w : World) (hp : PatAt w w.heap.size A is) (ho : ∀ x ∈ is, ItOk x) (hl : is.length ≤ 1000000) :
    Calls Tryd.prog 56 #[.slice A is.length c] w fun e w' => e = .returned (.bool (!is.any inv)) ∧ Below w.heap.size w w' := by
  have hc := Lib.hid (containsFunc_i A is c w hp ho hl (fun x sv W h1 h2 => isInvalid_c x sv W h1 h2))
  clear hp ho
  go_enter Tryd.func56, Tryd.ntmps56
  go_wp2_with fail
  refine hc.out.mono ?_
  rintro e w7 ⟨rfl, m7⟩
  go_wp2_with fail
  go_ret
  exact ⟨rfl, m7⟩
end Go.Proofs.YteppndkhmbhnkaaDoor
