/- The contract of edits.Shift. -/
import Derived.Test.YtdiaghmkbplipaaApp
namespace Go.Proofs.Ytdiaghmkbplipaa
open Go.RowKit

/-- Where an offset goes: the rest of the edits, by how much the text has grown so far. -/
def shiftL (at_ : Int) : Int → List Ed → Int
  | m, [] => at_ + m
  | m, e :: r => if e.f < at_ ∧ at_ < e.t then e.f + m else if e.f < at_ then shiftL at_ (m + e.grow) r else shiftL at_ m r

theorem vloop_all {n : Int} : ∀ (es : List Ed) (last size : Int), vloop n last size es = 0 → ∀ e ∈ es, 0 ≤ e.f ∧ e.f ≤ e.t ∧ e.t ≤ n
  | [], _, _, _, e, he => by cases he
  | x :: r, last, size, h, e, he => by
    obtain ⟨h1, h2, h3, h4, h5⟩ := vloop_cons h
    rcases List.mem_cons.1 he with rfl | he
    · exact ⟨h1, h2, h3⟩
    · exact vloop_all r _ _ h5 e he

theorem valid_all {s : ByteArray} {es : List Ed} (h : valid s es = 0) : ∀ e ∈ es, 0 ≤ e.f ∧ e.f ≤ e.t ∧ e.t ≤ s.size := by
  unfold valid at h
  split at h
  · omega
  · exact vloop_all _ _ _ h

set_option maxHeartbeats 1000000 in
theorem shift_c (A : Option Addr) (c : Nat) (es : List Ed) (at_ : Int) (w : World) (ha : 0 ≤ at_) (hb' : at_ ≤ 17000) (he : EdOk es) (hval : ∀ e ∈ es, 0 ≤ e.f ∧ e.f ≤ e.t ∧ e.t ≤ 17000) (hA : EdAt w w.heap.size A es) :
    Calls Try.prog 21 #[.slice A es.length c, .int .i64 at_] w fun e w' => e = .returned (.int .i64 (shiftL at_ 0 es)) ∧ Below w.heap.size w w' := by
  have hlen := he.1
  go_enter Try.func21, Try.ntmps21
  go_wp2_with fail
  go_loopw [5, 10] (fun mo i wr => ∃ (k : Nat) (m : Int), k ≤ es.length ∧ i = .int .i64 k ∧ mo = .int .i64 m ∧ -17000 * k ≤ m ∧ m ≤ 17000 * k ∧ shiftL at_ m (es.drop k) = shiftL at_ 0 es ∧ Below w.heap.size w wr) (fun _ i _ => es.length - (intOf i).toNat)
  case atStart => exact ⟨0, 0, by omega, rfl, rfl, by omega, by omega, rfl, Below.refl _ _⟩
  case round =>
    obtain ⟨k, m, hk, rfl, rfl, hm1, hm2, hv, hb⟩ := hrel
    have hsz := hb.size
    by_cases hlt : k < es.length
    · obtain ⟨h1, h2, h3, h4, h5⟩ := ed_ok_at he hlt
      obtain ⟨v1, v2, v3⟩ := hval _ (List.getElem_mem hlt)
      obtain ⟨b, off, rfl, had, hc⟩ := (hA.below hb) (by omega)
      obtain ⟨c0, c1, c2⟩ := hc k es[k] (List.getElem?_eq_getElem hlt)
      rw [List.drop_eq_getElem_cons hlt] at hv
      clear hc
      generalize es[k] = e at *
      have Hv := Lib.hid hv
      clear hv
      have hg1 : -17000 ≤ e.grow := by unfold Ed.grow; omega
      have hg2 : e.grow ≤ 17000 := by unfold Ed.grow; omega
      by_cases q1 : e.f < at_
      · have d1 : decide (e.f < at_) = true := decide_eq_true q1
        by_cases q2 : at_ < e.t
        · have d2 : decide (at_ < e.t) = true := decide_eq_true q2
          go_wp2_with fail
          go_ret
          exact ⟨by rw [← Hv.out, shiftL, if_pos ⟨q1, q2⟩]; rfl, hb.alloc hsz _⟩
        · have d2 : decide (at_ < e.t) = false := decide_eq_false q2
          go_wp2_with fail
          refine (growth_c e _ (by omega) v1 v2 (by omega)).mono ?_
          rintro x w1 ⟨rfl, hb1⟩
          have hsz1 := hb1.size
          go_wp2
          go_roundw
          case rel => exact ⟨k + 1, m + e.grow, by omega, by go_num, rfl, by omega, by omega, by rw [← Hv.out, shiftL, if_neg (by omega), if_pos q1], (hb.alloc hsz _).trans (hb1.mono (by simp; omega))⟩
          case measure => simp [intOf]; omega
      · have d1 : decide (e.f < at_) = false := decide_eq_false q1
        go_wp2_with fail
        go_roundw
        case rel => exact ⟨k + 1, m, by omega, by go_num, rfl, by omega, by omega, by rw [← Hv.out, shiftL, if_neg (by omega), if_neg (by omega)], hb.alloc hsz _⟩
        case measure => simp [intOf]; omega
    · have hkk : k = es.length := by omega
      subst hkk
      rw [List.drop_length, shiftL] at hv
      have Hv := Lib.hid hv
      clear hv
      go_wp2
      go_ret
      exact ⟨by rw [← Hv.out]; rfl, hb⟩
end Go.Proofs.Ytdiaghmkbplipaa
