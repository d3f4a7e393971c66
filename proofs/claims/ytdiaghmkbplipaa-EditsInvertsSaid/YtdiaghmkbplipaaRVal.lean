/- The contract of the reference's Valid. -/
import Derived.Test.YtdiaghmkbplipaaVal
import Derived.Deep.QuietTactic
import Derived.BigQuiet
import Derived.WalkSmall
import Derived.Deep.Draws
namespace Go.Proofs.Ytdiaghmkbplipaa
open Go.RowKit
set_option maxHeartbeats 800000 in
theorem rvalid_c (s : ByteArray) (A : Option Addr) (c : Nat) (es : List Ed) (w : World) (hs : s.size ≤ 17000) (he : EdOk es) (hA : EdAt w w.heap.size A es) :
    Calls Try.prog 31 #[.string s, .slice A es.length c] w fun e w' => e = .returned (.int .i64 (valid s es)) ∧ Below w.heap.size w w' := by
  have hlen := he.1
  by_cases h256 : 256 < es.length
  · go_enter Try.func31, Try.ntmps31
    go_wp2
    go_ret
    exact ⟨by simp [valid, h256], Below.refl _ _⟩
  · go_enter Try.func31, Try.ntmps31
    go_wp2
    go_loopw [5, 6, 7] (fun sz la i wr => ∃ (k : Nat) (size last : Int), k ≤ es.length ∧ i = .int .i64 k ∧ sz = .int .i64 size ∧ la = .int .i64 last ∧ 0 ≤ last ∧ last ≤ s.size ∧ -17000 * (k + 1) ≤ size ∧ size ≤ 17000 * (k + 1) ∧ vloop s.size last size (es.drop k) = valid s es ∧ Below w.heap.size w wr) (fun _ _ i _ => es.length - (intOf i).toNat)
    case atStart => exact ⟨0, s.size, 0, by omega, rfl, rfl, rfl, by omega, by omega, by omega, by omega, by simp [valid, h256], Below.refl _ _⟩
    case round =>
      obtain ⟨k, size, last, hk, rfl, rfl, rfl, hl0, hl1, hz0, hz1, hv, hb⟩ := hrel
      have hsz := hb.size
      by_cases hlt : k < es.length
      · obtain ⟨h1, h2, h3, h4, h5⟩ := ed_ok_at he hlt
        obtain ⟨b, off, rfl, had, hc⟩ := (hA.below hb) (by omega)
        obtain ⟨c0, c1, c2⟩ := hc k es[k] (List.getElem?_eq_getElem hlt)
        rw [List.drop_eq_getElem_cons hlt] at hv
        clear hc
        generalize es[k] = e at *
        have Hv := Lib.hid hv
        clear hv
        have hltI : (k : Int) < es.length := by omega
        by_cases q0 : e.f < 0
        · go_wp2
          go_quiet (fail)
          go_wp2
          go_ret
          exact ⟨by rw [← Hv.out, vloop, if_pos (by omega)]; rfl, below_drewN hb _⟩
        by_cases q1 : e.t < e.f
        · have b0 : 0 ≤ e.f := by omega
          have d0 : decide (e.f < 0) = false := decide_eq_false (by omega)
          have d1 : decide (e.t < e.f) = true := decide_eq_true q1
          clear q0
          go_wp2
          go_quiet (fail)
          go_wp2
          go_ret
          exact ⟨by rw [← Hv.out, vloop, if_pos (by omega)]; rfl, below_drewN hb _⟩
        by_cases q2 : (s.size : Int) < e.t
        · have b0 : 0 ≤ e.f := by omega
          have b1 : e.f ≤ e.t := by omega
          have d0 : decide (e.f < 0) = false := decide_eq_false (by omega)
          have d1 : decide (e.t < e.f) = false := decide_eq_false q1
          have d2 : decide ((s.size : Int) < e.t) = true := decide_eq_true q2
          clear q0 q1
          go_wp2
          go_quiet (fail)
          go_wp2
          go_ret
          exact ⟨by rw [← Hv.out, vloop, if_pos (by omega)]; rfl, below_drewN hb _⟩
        · have b0 : 0 ≤ e.f := by omega
          have b1 : e.f ≤ e.t := by omega
          have b2 : e.t ≤ (s.size : Int) := by omega
          clear q0 q1 q2
          by_cases hlast : e.f < last
          · go_wp2
            go_quiet (fail)
            go_wp2
            go_ret
            exact ⟨by rw [← Hv.out, vloop, if_neg (by omega), if_pos (by omega)]; rfl, below_drewN hb _⟩
          · have hg1 : -17000 ≤ e.grow := by unfold Ed.grow; omega
            have hg2 : e.grow ≤ 17000 := by unfold Ed.grow; omega
            have Hlast := Lib.hid hlast
            have u1 : IntKind.i64.wrap (size + (e.s.size : Int)) = size + e.s.size := IntWalk.i64_in _ (by omega)
            have u2 : IntKind.i64.wrap (e.t - e.f) = e.t - e.f := IntWalk.i64_in _ (by omega)
            have u3 : IntKind.i64.wrap (size + (e.s.size : Int) - (e.t - e.f)) = size + e.s.size - (e.t - e.f) := IntWalk.i64_in _ (by omega)
            go_wp2
            go_quiet (fail)
            go_wp2
            go_quiet (fail)
            go_wp2
            clear u1 u2 u3
            go_roundw
            case rel => exact ⟨k + 1, size + e.grow, e.t, by omega, by go_num, by unfold Ed.grow; go_num, rfl, by omega, by omega, by omega, by omega, by rw [← Hv.out, vloop, if_neg (by omega), if_neg (by have := Hlast.out; omega)], below_drewN hb _⟩
            case measure => simp [intOf]; omega
      · have hkk : k = es.length := by omega
        subst hkk
        rw [List.drop_length, vloop] at hv
        have Hv := Lib.hid hv
        clear hv
        by_cases h3 : 16384 < size
        · go_wp2
          go_ret
          exact ⟨by rw [← Hv.out, if_pos (by omega)]; rfl, hb⟩
        · go_wp2
          go_ret
          exact ⟨by rw [← Hv.out, if_neg (by omega)]; rfl, hb⟩
end Go.Proofs.Ytdiaghmkbplipaa
