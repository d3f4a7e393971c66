/- The contract of the reference's Shift, and that Shift is monotonic. -/
import Derived.Test.YtdiaghmkbplipabShift
import Derived.Deep.QuietTactic
import Derived.BigQuiet
import Derived.Deep.Draws
namespace Go.Proofs.Ytdiaghmkbplipab
open Go.RowKit

set_option maxHeartbeats 1000000 in
theorem rshift_c (A : Option Addr) (c : Nat) (es : List Ed) (at_ : Int) (w : World) (ha : 0 ≤ at_) (hb' : at_ ≤ 17000) (he : EdOk es) (hval : ∀ e ∈ es, 0 ≤ e.f ∧ e.f ≤ e.t ∧ e.t ≤ 17000) (hA : EdAt w w.heap.size A es) :
    Calls Try.prog 9 #[.slice A es.length c, .int .i64 at_] w fun e w' => e = .returned (.int .i64 (shiftL at_ 0 es)) ∧ Below w.heap.size w w' := by
  have hlen := he.1
  go_enter Try.func9, Try.ntmps9
  go_wp2_with fail
  go_loopw [5, 6] (fun mo i wr => ∃ (k : Nat) (m : Int), k ≤ es.length ∧ i = .int .i64 k ∧ mo = .int .i64 m ∧ -17000 * k ≤ m ∧ m ≤ 17000 * k ∧ shiftL at_ m (es.drop k) = shiftL at_ 0 es ∧ Below w.heap.size w wr) (fun _ i _ => es.length - (intOf i).toNat)
  case atStart => exact ⟨0, 0, by omega, rfl, rfl, by omega, by omega, rfl, Below.refl _ _⟩
  case round =>
    obtain ⟨k, m, hk, rfl, rfl, hm1, hm2, hv, hb⟩ := hrel
    by_cases hlt : k < es.length
    · obtain ⟨h1, h2, h3, h4, h5⟩ := ed_ok_at he hlt
      obtain ⟨v1, v2, v3⟩ := hval _ (List.getElem_mem hlt)
      obtain ⟨b, off, rfl, had, hc⟩ := (hA.below hb) (by omega)
      obtain ⟨c0, c1, c2⟩ := hc k es[k] (List.getElem?_eq_getElem hlt)
      rw [List.drop_eq_getElem_cons hlt] at hv
      clear hc
      generalize es[k] = e at *
      have Hv := Lib.hid hv
      clear hv
      have i0 : (k : Int) < (es.length : Int) := by omega
      by_cases q1 : e.f < at_
      · have d1 : decide (e.f < at_) = true := decide_eq_true q1
        by_cases q2 : at_ < e.t
        · have d2 : decide (at_ < e.t) = true := decide_eq_true q2
          go_wp2_with fail
          go_ret
          exact ⟨by rw [← Hv.out, shiftL, if_pos ⟨q1, q2⟩]; rfl, hb⟩
        · have d2 : decide (at_ < e.t) = false := decide_eq_false q2
          have d3 : decide (e.t ≤ at_) = true := decide_eq_true (by omega)
          have u1 : IntKind.i64.wrap (m + (e.s.size : Int)) = m + e.s.size := IntWalk.i64_in _ (by omega)
          have u2 : IntKind.i64.wrap (e.t - e.f) = e.t - e.f := IntWalk.i64_in _ (by omega)
          have u3 : IntKind.i64.wrap (m + (e.s.size : Int) - (e.t - e.f)) = m + e.s.size - (e.t - e.f) := IntWalk.i64_in _ (by omega)
          have H : Hid (shiftL at_ (m + e.grow) (es.drop (k + 1)) = shiftL at_ 0 es) := Lib.hid (by rw [← Hv.out, shiftL, if_neg (by omega), if_pos q1])
          clear q1 q2
          go_wp2_with fail
          go_quiet (fail)
          go_wp2_with fail
          clear u1 u2 u3
          go_roundw
          case rel => exact ⟨k + 1, m + e.grow, by omega, by go_num, by unfold Ed.grow; go_num, by unfold Ed.grow; omega, by unfold Ed.grow; omega, H.out, below_drewN hb _⟩
          case measure => simp [intOf]; omega
      · have d1 : decide (e.f < at_) = false := decide_eq_false q1
        go_wp2_with fail
        go_roundw
        case rel => exact ⟨k + 1, m, by omega, by go_num, rfl, by omega, by omega, by rw [← Hv.out, shiftL, if_neg (by omega), if_neg (by omega)], hb⟩
        case measure => simp [intOf]; omega
    · have hkk : k = es.length := by omega
      subst hkk
      rw [List.drop_length, shiftL] at hv
      have Hv := Lib.hid hv
      clear hv
      go_wp2_with fail
      go_ret
      exact ⟨by rw [← Hv.out]; rfl, hb⟩

theorem vloop_from {n : Int} {y : Int} : ∀ (es : List Ed) (last size : Int), vloop n last size es = 0 → y ≤ last → ∀ e ∈ es, y ≤ e.f
  | [], _, _, _, _, e, he => by cases he
  | x :: r, last, size, h, hy, e, he => by
    obtain ⟨h1, h2, h3, h4, h5⟩ := vloop_cons h
    rcases List.mem_cons.1 he with rfl | he
    · omega
    · exact vloop_from r _ _ h5 (by omega) e he
theorem shift_const {y : Int} : ∀ (es : List Ed) (m : Int), (∀ e ∈ es, y ≤ e.f) → shiftL y m es = y + m
  | [], _, _ => rfl
  | x :: r, m, h => by
    have := h x List.mem_cons_self
    rw [shiftL, if_neg (by omega), if_neg (by omega)]
    exact shift_const r m fun e he => h e (List.mem_cons_of_mem _ he)
theorem shift_low {n y : Int} : ∀ (es : List Ed) (last size m : Int), vloop n last size es = 0 → last ≤ y → last + m ≤ shiftL y m es
  | [], last, size, m, _, h => by unfold shiftL; omega
  | x :: r, last, size, m, h, hy => by
    obtain ⟨h1, h2, h3, h4, h5⟩ := vloop_cons h
    by_cases q1 : x.f < y
    · by_cases q2 : y < x.t
      · rw [shiftL, if_pos ⟨q1, q2⟩]; omega
      · rw [shiftL, if_neg (by omega), if_pos q1]
        have := shift_low (y := y) r x.t _ (m + x.grow) h5 (by omega)
        unfold Ed.grow at this ⊢
        omega
    · rw [shiftL, if_neg (by omega), if_neg q1, shift_const r m (vloop_from r x.t _ h5 (by omega))]
      omega
theorem shift_mono {n x y : Int} (hxy : x ≤ y) : ∀ (es : List Ed) (last size m : Int), vloop n last size es = 0 → shiftL x m es ≤ shiftL y m es
  | [], last, size, m, _ => by unfold shiftL; omega
  | e :: r, last, size, m, h => by
    obtain ⟨h1, h2, h3, h4, h5⟩ := vloop_cons h
    by_cases p1 : e.f < x
    · by_cases p2 : x < e.t
      · rw [shiftL, if_pos ⟨p1, p2⟩]
        by_cases q2 : y < e.t
        · rw [shiftL, if_pos ⟨by omega, q2⟩]; omega
        · rw [shiftL, if_neg (by omega), if_pos (by omega)]
          have := shift_low (y := y) r e.t _ (m + e.grow) h5 (show e.t ≤ y by omega)
          unfold Ed.grow at this ⊢
          omega
      · rw [shiftL, if_neg (by omega), if_pos p1, shiftL, if_neg (by omega), if_pos (by omega)]
        exact shift_mono hxy r _ _ _ h5
    · rw [shiftL, if_neg (by omega), if_neg p1, shift_const r m (vloop_from r e.t _ h5 (by omega))]
      by_cases q1 : e.f < y
      · by_cases q2 : y < e.t
        · rw [shiftL, if_pos ⟨q1, q2⟩]; omega
        · rw [shiftL, if_neg (by omega), if_pos q1]
          have := shift_low (y := y) r e.t _ (m + e.grow) h5 (show e.t ≤ y by omega)
          unfold Ed.grow at this ⊢
          omega
      · rw [shiftL, if_neg (by omega), if_neg q1, shift_const r m (vloop_from r e.t _ h5 (by omega))]
        omega

theorem shift_mono_valid {s : ByteArray} {es : List Ed} (h : valid s es = 0) {x y : Int} (hxy : x ≤ y) : shiftL x 0 es ≤ shiftL y 0 es := by
  unfold valid at h
  split at h
  · omega
  · exact shift_mono hxy es _ _ 0 h
end Go.Proofs.Ytdiaghmkbplipab
