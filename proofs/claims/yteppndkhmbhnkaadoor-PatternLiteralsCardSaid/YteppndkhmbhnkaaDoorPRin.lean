/- pattern: the reference's in, takes, ascending. -/
import Derived.Test.YteppndkhmbhnkaaDoorPEn
import Derived.Deep.QuietTactic
import Derived.BigQuiet
namespace Go.Proofs.YteppndkhmbhnkaaDoor
open Go.RowKit
set_option linter.unusedVariables false

set_option maxHeartbeats 4000000 in
set_option maxRecDepth 100000 in
theorem in_c (sv : Value) (l : List (Nat × Nat)) (z B : Nat) (w : World) (hs : SpAt w B sv l) (hl : l.length ≤ 1000000) (hz : z < 256) (hlz : ∀ p ∈ l, p.1 < 256 ∧ p.2 < 256) :
    Calls Tryd.prog 117 #[sv, .int .u8 z] w fun e w' => e = .returned (.bool (inSp l z)) ∧ w = w' := by
  obtain ⟨A, c, rfl, hs⟩ := hs
  have HR : Hid (inSp l z = inSp (l.drop 0) z) := Lib.hid rfl
  generalize inSp l z = R at *
  go_enter Tryd.func117, Tryd.ntmps117
  go_wp2_with fail
  go_loop [5] (fun iv => ∃ k : Nat, iv = .int .i64 k ∧ k ≤ l.length ∧ Hid (R = inSp (l.drop k) z)) (fun iv => l.length - (intOf iv).toNat)
  case atStart => exact ⟨0, rfl, by omega, HR⟩
  case round =>
    obtain ⟨k, rfl, hk, hx⟩ := hrel
    clear HR
    by_cases hlt : k < l.length
    · have d1 : decide ((k : Int) < (l.length : Int)) = true := decide_eq_true (by omega)
      have d1' : decide (k < l.length) = true := decide_eq_true hlt
      obtain ⟨b, off, rfl, hbl, hc⟩ : ∃ b off, A = some ⟨b, off, none⟩ ∧ b < B ∧ ∀ k (h : k < l.length), w.cell? ⟨b, off + k * 2, none⟩ = some (.int .u8 ((l[k]'h).1 : Nat)) ∧ w.cell? ⟨b, off + k * 2 + 1, none⟩ = some (.int .u8 ((l[k]'h).2 : Nat)) := by
        rcases hs with rfl | h
        · simp at hlt
        · exact h
      obtain ⟨x0, x1⟩ := hc k hlt
      have hx2 := hx.out
      rw [List.drop_eq_getElem_cons hlt, inSp_cons] at hx2
      have hpz := hlz _ (List.getElem_mem hlt)
      generalize l[k]'hlt = q at *
      obtain ⟨a, e⟩ := q
      simp only at x0 x1 hx2 hpz
      have Hx2 := Lib.hid hx2
      clear hx hx2 hc hs hlz
      by_cases h1 : a ≤ z
      · have e1 : decide ((a : Int) ≤ (z : Int)) = true := decide_eq_true (by omega)
        have e1' : decide (a ≤ z) = true := decide_eq_true h1
        by_cases h2 : z ≤ e
        · have e2 : decide ((z : Int) ≤ (e : Int)) = true := decide_eq_true (by omega)
          have e2' : decide (z ≤ e) = true := decide_eq_true h2
          have hR : R = true := by rw [Hx2.out, e1', e2']; rfl
          subst hR
          clear Hx2
          go_wp2_with fail
          go_ret
          first | exact ⟨rfl, rfl⟩ | exact rfl | trivial
        · have e2 : decide ((z : Int) ≤ (e : Int)) = false := decide_eq_false (by omega)
          have e2' : decide (z ≤ e) = false := decide_eq_false h2
          have hR : Hid (R = inSp (l.drop (k + 1)) z) := Lib.hid (by rw [Hx2.out, e1', e2']; rfl)
          clear Hx2
          go_wp2_with fail
          go_round
          case rel => exact ⟨k + 1, by go_num, by omega, hR⟩
          case measure => simp [intOf]; omega
      · have e1 : decide ((a : Int) ≤ (z : Int)) = false := decide_eq_false (by omega)
        have e1' : decide (a ≤ z) = false := decide_eq_false h1
        have hR : Hid (R = inSp (l.drop (k + 1)) z) := Lib.hid (by rw [Hx2.out, e1']; rfl)
        clear Hx2
        go_wp2_with fail
        go_round
        case rel => exact ⟨k + 1, by go_num, by omega, hR⟩
        case measure => simp [intOf]; omega
    · have hke : k = l.length := by omega
      have d1 : decide ((k : Int) < (l.length : Int)) = false := decide_eq_false (by omega)
      have d1' : decide (k < l.length) = false := decide_eq_false hlt
      have hR : R = false := by rw [hx.out, hke, List.drop_length]; rfl
      subst hR
      clear hx hke
      go_wp2_with fail
      go_ret
      first | exact ⟨rfl, rfl⟩ | exact rfl | trivial

/-- As acc, with the reference's way to look into a set. -/
def tkR (x : It) (z : Nat) : Bool :=
  if x.k = 1 then (x.t.headD 0).toNat == z else
  if x.k = 4 then (inSp x.set z != x.neg) else true
theorem tkR_acc {x : It} (h : inv x = false) (z : Nat) : tkR x z = acc x z := by
  unfold tkR acc
  by_cases h1 : x.k = 1
  · rw [if_pos h1, if_pos h1]
  · rw [if_neg h1, if_neg h1]
    by_cases h4 : x.k = 4
    · rw [if_pos h4, if_pos h4]
      unfold inv at h
      rw [if_neg h1, if_neg (by omega), if_pos h4] at h
      simp at h
      rw [conL_inSp z h.2]
    · rw [if_neg h4, if_neg h4]
set_option maxHeartbeats 4000000 in
set_option maxRecDepth 100000 in
theorem takes_c (x : It) (sv : Value) (z : Nat) (w : World) (hs : SpAt w w.heap.size sv x.set) (ho : ItOk x) (hv : x.k = 1 → x.t.length = 1) (hz : z < 256) :
    Calls Tryd.prog 91 #[.agg #[.int .i64 x.k, .string ⟨x.t.toArray⟩, .bool x.neg, sv], .int .u8 z] w fun e w' => e = .returned (.bool (tkR x z)) ∧ Below w.heap.size w w' := by
  have hs0 := Lib.hid hs
  obtain ⟨A, c, rfl, _⟩ := hs
  obtain ⟨xk, xt, xn, xs⟩ := x
  simp only at *
  by_cases h1 : xk = 1
  · subst h1
    obtain ⟨d, rfl⟩ : ∃ d, xt = [d] := by
      have := hv rfl
      rcases xt with _ | ⟨d, _ | ⟨e, r⟩⟩
      · simp at this
      · exact ⟨d, rfl⟩
      · simp at this
    have hI : tkR ⟨1, [d], xn, xs⟩ z = (d.toNat == z) := rfl
    have hsz : (⟨[d].toArray⟩ : ByteArray).size = 1 := rfl
    have hix : ∀ h, (⟨[d].toArray⟩ : ByteArray)[0]'h = d := fun _ => rfl
    have hq : ((d.toNat : Int) == (z : Int)) = (d.toNat == z) := by
      by_cases h : d.toNat = z
      · rw [beq_iff_eq.2 (by omega : (d.toNat : Int) = (z : Int)), beq_iff_eq.2 h]
      · rw [beq_eq_false_iff_ne.2 (by omega : (d.toNat : Int) ≠ (z : Int)), beq_eq_false_iff_ne.2 h]
    rw [hI, ← hq]; clear hI hs0 ho hv hq
    go_enter Tryd.func91, Tryd.ntmps91
    go_wp2_with fail
    go_ret
    exact ⟨rfl, (Below.refl _ _).alloc (Nat.le_refl _) _⟩
  by_cases h4 : xk = 4
  · subst h4
    have hI : tkR ⟨4, xt, xn, xs⟩ z = (inSp xs z != xn) := rfl
    have hcall : Hid (∀ W, (Below w.heap.size w W ∧ w.heap.size < W.heap.size ∧ W.cell? ⟨w.heap.size, 2, none⟩ = some (.bool xn) ∧ W.cell? ⟨w.heap.size, 3, none⟩ = some (.slice A xs.length c)) → Calls Tryd.prog 117 #[.slice A xs.length c, .int .u8 z] W fun e w' => e = .returned (.bool (inSp xs z)) ∧ (Below w.heap.size w w' ∧ w.heap.size < w'.heap.size ∧ w'.cell? ⟨w.heap.size, 2, none⟩ = some (.bool xn) ∧ w'.cell? ⟨w.heap.size, 3, none⟩ = some (.slice A xs.length c))) := by
      refine Lib.hid ?_
      rintro W ⟨hW, hlt, c2, c3⟩
      refine (in_c _ xs z W.heap.size W (spAt_mono (spAt_below hs0.out hW (Nat.le_refl _)) hW.size) ho.1.1 hz ho.1.2).mono ?_
      rintro e w' ⟨rfl, rfl⟩
      exact ⟨rfl, hW, hlt, c2, c3⟩
    rw [hI]; clear hI
    generalize inSp xs z = m at *
    clear hs0 ho hv h1
    have mb := (Below.refl w.heap.size w).alloc (Nat.le_refl _) (.cells #[.int .i64 4, .string ⟨xt.toArray⟩, .bool xn, .slice A xs.length c] 43)
    go_enter Tryd.func91, Tryd.ntmps91
    go_wp2_with fail
    go_region_held3 (fun w' => Below w.heap.size w w' ∧ w.heap.size < w'.heap.size ∧ w'.cell? ⟨w.heap.size, 2, none⟩ = some (.bool xn) ∧ w'.cell? ⟨w.heap.size, 3, none⟩ = some (.slice A xs.length c))
      (first | assumption | (exact ⟨by assumption, by assumption, by assumption, by assumption⟩) | (refine ⟨((Below.refl w.heap.size w).alloc (Nat.le_refl _) _).drew, ?_, ?_, ?_⟩ <;> first | (simp [World.drew, World.alloc]; done) | go_keep | rfl))
      ((go_at_call 117; refine (hcall.out _ (by first | assumption | (refine ⟨((Below.refl w.heap.size w).alloc (Nat.le_refl _) _).drew, ?_, ?_, ?_⟩ <;> first | (simp [World.drew, World.alloc]; done) | go_keep | rfl))).mono ?_; rintro e w7 ⟨rfl, m7, l7, z2, z3⟩))
    go_wp2_with fail
    go_ret
    exact ⟨rfl, m7⟩
  · have hI : tkR ⟨xk, xt, xn, xs⟩ z = true := by simp [tkR, h1, h4]
    have e1 : (xk == 1) = false := by rw [beq_eq_false_iff_ne]; exact h1
    have e4 : (xk == 4) = false := by rw [beq_eq_false_iff_ne]; exact h4
    rw [hI]; clear hI hs0 ho hv h1 h4
    go_enter Tryd.func91, Tryd.ntmps91
    go_wp2_with fail
    go_ret
    exact ⟨rfl, (Below.refl _ _).alloc (Nat.le_refl _) _⟩

/-- The least number at which the span k may begin. -/
def lowS (l : List (Nat × Nat)) : Nat → Nat
  | 0 => 0
  | k + 1 => (l.getD k (0, 0)).2 + 2
set_option maxHeartbeats 4000000 in
set_option maxRecDepth 100000 in
theorem ascending_c (sv : Value) (l : List (Nat × Nat)) (w : World) (hs : SpAt w w.heap.size sv l) (ho : SpOk l) :
    Calls Tryd.prog 58 #[sv] w fun e w' => e = .returned (.bool (minL 0 l)) ∧ Below w.heap.size w w' := by
  obtain ⟨A, c, rfl, hs⟩ := hs
  have hll := ho.1
  have HR : Hid (minL 0 l = minL (lowS l 0) (l.drop 0)) := Lib.hid rfl
  generalize minL 0 l = R at *
  go_enter Tryd.func58, Tryd.ntmps58
  go_wp2_with fail
  go_loopw [3] (fun iv wr => ∃ k : Nat, iv = .int .i64 k ∧ k ≤ l.length ∧ Below w.heap.size w wr ∧ Hid (R = minL (lowS l k) (l.drop k))) (fun iv _ => l.length - (intOf iv).toNat)
  case atStart => exact ⟨0, rfl, by omega, Below.refl _ _, HR⟩
  case round =>
    obtain ⟨k, rfl, hk, hb, hx⟩ := hrel
    clear HR
    by_cases hlt : k < l.length
    · have d1 : decide ((k : Int) < (l.length : Int)) = true := decide_eq_true (by omega)
      have d1' : decide (k < l.length) = true := decide_eq_true hlt
      obtain ⟨b, off, rfl, hbl, hc⟩ : ∃ b off, A = some ⟨b, off, none⟩ ∧ b < w.heap.size ∧ ∀ k (h : k < l.length), w.cell? ⟨b, off + k * 2, none⟩ = some (.int .u8 ((l[k]'h).1 : Nat)) ∧ w.cell? ⟨b, off + k * 2 + 1, none⟩ = some (.int .u8 ((l[k]'h).2 : Nat)) := by
        rcases hs with rfl | h
        · simp at hlt
        · exact h
      have x0 := (hb.cell (p := ⟨b, off + k * 2, none⟩) hbl).trans (hc k hlt).1
      have x1 := (hb.cell (p := ⟨b, off + k * 2 + 1, none⟩) hbl).trans (hc k hlt).2
      have hx2 := hx.out
      rw [List.drop_eq_getElem_cons hlt] at hx2
      have hlow : lowS l (k + 1) = (l[k]'hlt).2 + 2 := by show (l.getD k (0, 0)).2 + 2 = _; rw [List.getD_eq_getElem?_getD, List.getElem?_eq_getElem hlt]; rfl
      have hpz := ho.2 _ (List.getElem_mem hlt)
      have hprev : 0 < k → ∃ p : Nat, p < 256 ∧ lowS l k = p + 2 ∧ wr.cell? ⟨b, off + (k - 1) * 2 + 1, none⟩ = some (.int .u8 (p : Nat)) := fun h0 => by
        obtain ⟨j, rfl⟩ : ∃ j, k = j + 1 := ⟨k - 1, by omega⟩
        refine ⟨(l[j]'(by omega)).2, (ho.2 _ (List.getElem_mem (by omega))).2, ?_, ?_⟩
        · show (l.getD j (0, 0)).2 + 2 = _; rw [List.getD_eq_getElem?_getD, List.getElem?_eq_getElem (by omega)]; rfl
        · exact (hb.cell (p := ⟨b, off + j * 2 + 1, none⟩) hbl).trans (hc j (by omega)).2
      generalize l[k]'hlt = q at *
      obtain ⟨a, e⟩ := q
      simp only [minL] at x0 x1 hx2 hpz hlow
      have Hx2 := Lib.hid hx2
      have Hlow := Lib.hid hlow
      have hkI : (k : Int) < (l.length : Int) := by omega
      clear hx hx2 hc hs hlow ho
      by_cases h1 : e < a
      · have e1 : decide ((e : Int) < (a : Int)) = true := decide_eq_true (by omega)
        have e1' : decide (e < a) = true := decide_eq_true h1
        have hR : R = false := by rw [Hx2.out, e1']; simp
        subst hR
        clear Hx2 hprev
        go_wp2_with fail
        go_quiet (fail)
        go_wp2_with fail
        go_ret
        exact ⟨rfl, by first | assumption | exact below_drewN hb _⟩
      have e1 : decide ((e : Int) < (a : Int)) = false := decide_eq_false (by omega)
      have e1' : decide (e < a) = false := decide_eq_false h1
      by_cases h0 : 0 < k
      · have e2 : decide ((0 : Int) < (k : Int)) = true := decide_eq_true (by omega)
        have e2' : decide (0 < k) = true := decide_eq_true h0
        obtain ⟨p, hp, hlp, xp⟩ := hprev h0
        rw [hlp] at Hx2
        have i1 : IntKind.i64.wrap ((k : Int) - 1) = (k : Int) - 1 := IntWalk.i64_in _ (by omega)
        have i2 : (0 : Int) ≤ (k : Int) - 1 := by omega
        have i2' : (1 : Int) ≤ (k : Int) := by omega
        have i3 : ((k : Int) - 1).toNat = k - 1 := by omega
        have i4 : (k : Int) - 1 < (l.length : Int) := by omega
        have i5 : IntKind.i64.wrap ((p : Int) + 1) = (p : Int) + 1 := IntWalk.i64_in _ (by omega)
        have i6 : IntKind.i64.wrap (p : Int) = (p : Int) := IntWalk.i64_in _ (by omega)
        have i7 : IntKind.i64.wrap (a : Int) = (a : Int) := IntWalk.i64_in _ (by omega)
        by_cases h2 : a ≤ p + 1
        · have e3 : decide ((a : Int) ≤ (p : Int) + 1) = true := decide_eq_true (by omega)
          have hR : R = false := by rw [Hx2.out, decide_eq_true (show a < p + 2 by omega)]; rfl
          subst hR
          clear Hx2 hprev
          go_wp2_with fail
          go_quiet (fail)
          go_wp2_with fail
          go_ret
          exact ⟨rfl, by first | assumption | exact below_drewN hb _⟩
        · have e3 : decide ((a : Int) ≤ (p : Int) + 1) = false := decide_eq_false (by omega)
          have hR : Hid (R = minL (lowS l (k + 1)) (l.drop (k + 1))) := Lib.hid (by rw [Hx2.out, e1', decide_eq_false (show ¬ a < p + 2 by omega), Hlow.out]; rfl)
          clear Hx2 hprev Hlow
          go_wp2_with fail
          go_quiet (fail)
          go_wp2_with fail
          go_roundw
          case rel => exact ⟨k + 1, by go_num, by omega, by first | assumption | exact below_drewN hb _, hR⟩
          case measure => simp [intOf]; omega
      · have hk0 : lowS l k = 0 := by rw [show k = 0 from by omega]; rfl
        have e2 : decide ((0 : Int) < (k : Int)) = false := decide_eq_false (by omega)
        have e2' : decide (0 < k) = false := decide_eq_false h0
        have hR : Hid (R = minL (lowS l (k + 1)) (l.drop (k + 1))) := Lib.hid (by rw [Hx2.out, e1', Hlow.out, hk0]; rfl)
        clear Hx2 hprev Hlow hk0
        go_wp2_with fail
        go_quiet (fail)
        go_wp2_with fail
        go_roundw
        case rel => exact ⟨k + 1, by go_num, by omega, by first | assumption | exact below_drewN hb _, hR⟩
        case measure => simp [intOf]; omega
    · have hke : k = l.length := by omega
      have d1 : decide ((k : Int) < (l.length : Int)) = false := decide_eq_false (by omega)
      have d1' : decide (k < l.length) = false := decide_eq_false hlt
      have hR : R = true := by rw [hx.out, hke, List.drop_length]; rfl
      subst hR
      clear hx hke
      go_wp2_with fail
      go_ret
      exact ⟨rfl, hb⟩
end Go.Proofs.YteppndkhmbhnkaaDoor
