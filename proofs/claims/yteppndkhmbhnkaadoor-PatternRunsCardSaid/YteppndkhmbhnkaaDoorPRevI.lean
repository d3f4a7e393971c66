/- pattern: slices.Reverse of items. -/
import Derived.Test.YteppndkhmbhnkaaDoorPLit
namespace Go.Proofs.YteppndkhmbhnkaaDoor
open Go.RowKit
set_option linter.unusedVariables false

/-- An item's four cells. -/
structure IV where
  k : Int
  s : ByteArray
  b : Bool
  a : Option Addr
  l : Nat
  c : Nat
def IvAt (w : World) (g m : Nat) (x : IV) : Prop :=
  (w.cell? ⟨g, m * 4, none⟩ = some (.int .i64 x.k) ∧ w.cell? ⟨g, m * 4 + 1, none⟩ = some (.string x.s) ∧ w.cell? ⟨g, m * 4 + 2, none⟩ = some (.bool x.b) ∧ w.cell? ⟨g, m * 4 + 3, none⟩ = some (.slice x.a x.l x.c)) ∧
  w.frozen? ⟨g, m * 4, none⟩ = false ∧ w.frozen? ⟨g, m * 4 + 1, none⟩ = false ∧ w.frozen? ⟨g, m * 4 + 2, none⟩ = false ∧ w.frozen? ⟨g, m * 4 + 3, none⟩ = false
def RowV (w : World) (g n : Nat) (X : Nat → IV) : Prop := g < w.heap.size ∧ ∀ m, m < n → IvAt w g m (X m)
def sgm (n i m : Nat) : Nat := if m < i ∨ n ≤ m + i then n - 1 - m else m
theorem rowV_step {w w' : World} {g n i : Nat} {X : Nat → IV} (h : RowV w g n (fun m => X (sgm n i m))) (hi : i < n - 1 - i) (hg : g < w'.heap.size)
    (h1 : IvAt w' g i (X (n - 1 - i))) (h2 : IvAt w' g (n - 1 - i) (X i)) (h3 : ∀ m, m < n → m ≠ i → m ≠ n - 1 - i → IvAt w g m (X (sgm n i m)) → IvAt w' g m (X (sgm n i m))) :
    RowV w' g n (fun m => X (sgm n (i + 1) m)) := by
  refine ⟨hg, fun m hm => ?_⟩
  by_cases e1 : m = i
  · subst e1
    have : sgm n (m + 1) m = n - 1 - m := by unfold sgm; rw [if_pos (by omega)]
    simp only [this]; exact h1
  · by_cases e2 : m = n - 1 - i
    · subst e2
      have : sgm n (i + 1) (n - 1 - i) = i := by unfold sgm; rw [if_pos (by omega)]; omega
      simp only [this]; exact h2
    · have : sgm n (i + 1) m = sgm n i m := by
        unfold sgm
        by_cases h : m < i ∨ n ≤ m + i
        · rw [if_pos h, if_pos (by omega)]
        · rw [if_neg h, if_neg (by omega)]
      simp only [this]; exact h3 m hm e1 e2 (h.2 m hm)
theorem sgm_zero (n m : Nat) (h : m < n) : sgm n 0 m = m := by unfold sgm; rw [if_neg (by omega)]
theorem sgm_end (n i m : Nat) (h : ¬ i < n - 1 - i) (hm : m < n) : sgm n i m = n - 1 - m := by
  unfold sgm
  by_cases e : m < i ∨ n ≤ m + i
  · rw [if_pos e]
  · rw [if_neg e]; omega
theorem set_oth (w : World) (g p q : Nat) (v : Value) (h : p ≠ q) : (w.setCell ⟨g, p, none⟩ v).cell? ⟨g, q, none⟩ = w.cell? ⟨g, q, none⟩ :=
  World.cell?_setCell_other _ _ _ _ (fun e1 => h (by injection e1))
theorem set_sam (w : World) (g p : Nat) (v x : Value) (h : w.cell? ⟨g, p, none⟩ = some x) : (w.setCell ⟨g, p, none⟩ v).cell? ⟨g, p, none⟩ = some v :=
  World.cell?_setCell_same _ _ _ h
def store4 (w : World) (g m : Nat) (y : IV) : World :=
  (((w.setCell ⟨g, m * 4, none⟩ (.int .i64 y.k)).setCell ⟨g, m * 4 + 1, none⟩ (.string y.s)).setCell ⟨g, m * 4 + 2, none⟩ (.bool y.b)).setCell ⟨g, m * 4 + 3, none⟩ (.slice y.a y.l y.c)
theorem store4_at {w : World} {g m : Nat} {x : IV} (y : IV) (h : IvAt w g m x) : IvAt (store4 w g m y) g m y := by
  obtain ⟨⟨h0, h1, h2, h3⟩, f0, f1, f2, f3⟩ := h
  unfold store4
  refine ⟨⟨?_, ?_, ?_, ?_⟩, by simpa using f0, by simpa using f1, by simpa using f2, by simpa using f3⟩
  · rw [set_oth _ _ _ _ _ (by omega), set_oth _ _ _ _ _ (by omega), set_oth _ _ _ _ _ (by omega)]
    exact set_sam _ _ _ _ _ h0
  · rw [set_oth _ _ _ _ _ (by omega), set_oth _ _ _ _ _ (by omega)]
    exact set_sam _ _ _ _ _ (by rw [set_oth _ _ _ _ _ (by omega)]; exact h1)
  · rw [set_oth _ _ _ _ _ (by omega)]
    exact set_sam _ _ _ _ _ (by rw [set_oth _ _ _ _ _ (by omega), set_oth _ _ _ _ _ (by omega)]; exact h2)
  · exact set_sam _ _ _ _ _ (by rw [set_oth _ _ _ _ _ (by omega), set_oth _ _ _ _ _ (by omega), set_oth _ _ _ _ _ (by omega)]; exact h3)
theorem store4_oth {w : World} {g m k : Nat} {x : IV} (y : IV) (h : IvAt w g k x) (hk : k ≠ m) : IvAt (store4 w g m y) g k x := by
  obtain ⟨⟨h0, h1, h2, h3⟩, f0, f1, f2, f3⟩ := h
  unfold store4
  refine ⟨⟨?_, ?_, ?_, ?_⟩, by simpa using f0, by simpa using f1, by simpa using f2, by simpa using f3⟩
  all_goals
    rw [set_oth _ _ _ _ _ (by omega), set_oth _ _ _ _ _ (by omega), set_oth _ _ _ _ _ (by omega), set_oth _ _ _ _ _ (by omega)]
    assumption
theorem butG_set {g i : Nat} {w wr : World} (h : ButG g w wr) (v : Value) : ButG g w (wr.setCell ⟨g, i, none⟩ v) := h.trans (ButG.set g i _ _)
theorem butG_drew {g : Nat} {w wr : World} (h : ButG g w wr) : ButG g w wr.drew := h.trans ⟨(Below.refl _ _).drew, fun _ _ _ => rfl⟩
theorem store4_butG {w wr : World} {g m : Nat} (y : IV) (h : ButG g w wr) : ButG g w (store4 wr g m y) := by
  unfold store4
  exact butG_set (butG_set (butG_set (butG_set h _) _) _) _
theorem rowV_drew {w : World} {g n : Nat} {X : Nat → IV} (h : RowV w g n X) : RowV w.drew g n X := h
theorem ivAt_drew {w : World} {g m : Nat} {x : IV} (h : IvAt w g m x) : IvAt w.drew g m x := h
set_option maxHeartbeats 8000000 in
set_option maxRecDepth 100000 in
theorem reverseI_c (g n c : Nat) (X : Nat → IV) (w : World) (hX : RowV w g n X) (hn : n ≤ 1000000) :
    Calls Tryd.prog 62 #[.slice (some ⟨g, 0, none⟩) n c] w fun e w' => e = .returned (.tuple #[]) ∧ RowV w' g n (fun m => X (n - 1 - m)) ∧ ButG g w w' := by
  go_enter Tryd.func62, Tryd.ntmps62
  go_wp2_with fail
  go_loopw [2, 3] (fun iv jv wr => ∃ (i : Nat), iv = .int .i64 i ∧ jv = .int .i64 ((n : Int) - 1 - i) ∧ i ≤ n ∧ Hid (RowV wr g n (fun m => X (sgm n i m))) ∧ ButG g w wr) (fun iv _ _ => n - (intOf iv).toNat)
  case atStart => exact ⟨0, rfl, by first | rfl | (simp; done) | (congr 1; omega), by omega, Lib.hid ⟨hX.1, fun m hm => by simp only [sgm_zero n m hm]; exact hX.2 m hm⟩, ButG.refl _ _⟩
  case round =>
    obtain ⟨i, rfl, rfl, hi, hR, hb⟩ := hrel
    by_cases hlt : i < n - 1 - i
    · have d1 : decide ((i : Int) < (n : Int) - 1 - i) = true := decide_eq_true (by omega)
      obtain ⟨j, hj⟩ : ∃ j, j = n - 1 - i := ⟨_, rfl⟩
      have hjI : (n : Int) - 1 - i = (j : Int) := by omega
      rw [hjI] at d1 ⊢
      have hRi := hR.out.2 i (by omega)
      have hRj := hR.out.2 j (by omega)
      have s1 : sgm n i i = i := by unfold sgm; rw [if_neg (by omega)]
      have s2 : sgm n i j = j := by unfold sgm; rw [if_neg (by omega)]
      simp only [s1, s2] at hRi hRj
      have hgs := hR.out.1
      have HRi := Lib.hid hRi; have HRj := Lib.hid hRj
      obtain ⟨⟨a0, a1, a2, a3⟩, f0, f1, f2, f3⟩ := hRi
      obtain ⟨⟨b0, b1, b2, b3⟩, g0, g1, g2, g3⟩ := hRj
      generalize hxi : X i = x at *
      generalize hyj : X j = y at *
      obtain ⟨xk, xs, xb, xa, xl, xc⟩ := x
      obtain ⟨yk, ys, yb, ya, yl, yc⟩ := y
      simp only at a0 a1 a2 a3 b0 b1 b2 b3
      have hlj : i < j := by omega
      have hjn : j < n := by omega
      have i1 : (i : Int) < (n : Int) := by omega
      have i2 : (j : Int) < (n : Int) := by omega
      have i3 : (i : Int) < (j : Int) := by omega
      have Hx := Lib.hid hxi; have Hy := Lib.hid hyj; have Hj := Lib.hid hj; have HjI := Lib.hid hjI
      clear s1 s2 hxi hyj hj hjI hX
      have hs : Hid (RowV (store4 (store4 wr g i ⟨yk, ys, yb, ya, yl, yc⟩) g j ⟨xk, xs, xb, xa, xl, xc⟩) g n (fun m => X (sgm n (i + 1) m))) := Lib.hid (by
        refine rowV_step hR.out hlt (by unfold store4; simpa using hgs) ?_ ?_ (fun m hm e1 e2 h => ?_)
        · rw [← Hj.out, Hy.out]; exact store4_oth _ (store4_at _ HRi.out) (by omega)
        · rw [← Hj.out, Hx.out]; exact store4_at _ (store4_oth _ HRj.out (by omega))
        · exact store4_oth _ (store4_oth _ h e1) (by rw [Hj.out]; exact e2))
      have hbs : Hid (ButG g w (store4 (store4 wr g i ⟨yk, ys, yb, ya, yl, yc⟩) g j ⟨xk, xs, xb, xa, xl, xc⟩)) := Lib.hid (store4_butG _ (store4_butG _ hb))
      have w1 : (i : Int) + 1 = ((i + 1 : Nat) : Int) := by omega
      have w2 : (j : Int) - 1 = (n : Int) - 1 - ((i + 1 : Nat) : Int) := by have := Hj.out; omega
      have W2 := Lib.hid w2
      unfold store4 at hs hbs
      simp only at hs hbs
      have hs2 := Lib.hid (rowV_drew hs.out)
      have hb2 := butG_drew hbs.out
      clear HRi HRj hR hb w1 w2 hs hbs
      go_wp2_with fail
      go_region
      go_wp2_with fail
      go_roundw
      case rel => exact ⟨i + 1, by go_num, by first | (rw [← W2.out]; go_num) | (rw [← W2.out]), by omega, hs2, hb2⟩
      case measure => simp [intOf]; omega
    · have d1 : decide ((i : Int) < (n : Int) - 1 - i) = false := decide_eq_false (by omega)
      have hfin : RowV wr g n (fun m => X (n - 1 - m)) := ⟨hR.out.1, fun m hm => by have := hR.out.2 m hm; simp only [sgm_end n i m hlt hm] at this; exact this⟩
      clear hX
      go_wp2_with fail
      exact bodyPost_end (results_none rfl _ _ _) rfl ⟨rfl, hfin, hb⟩
end Go.Proofs.YteppndkhmbhnkaaDoor
