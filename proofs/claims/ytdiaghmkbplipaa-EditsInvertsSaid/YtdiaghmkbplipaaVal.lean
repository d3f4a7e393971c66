/- The contract of edits.Valid. -/
import Derived.Test.YtdiaghmkbplipaaProg
import Derived.Test.YtdiaghmkbplipaaMath
import Derived.WalkKit
import Derived.BigCall
import Derived.Lib.Hide
namespace Go.Proofs.Ytdiaghmkbplipaa
open Go.RowKit
set_option maxHeartbeats 400000 in
theorem growth_c (e : Ed) (w : World) (h1 : e.s.size ≤ 17000) (h2 : 0 ≤ e.f) (h3 : e.f ≤ e.t) (h4 : e.t ≤ 17000) :
    Calls Try.prog 33 #[.agg #[.int .i64 e.f, .int .i64 e.t, .string e.s]] w fun x w' => x = .returned (.int .i64 e.grow) ∧ Below w.heap.size w w' := by
  obtain ⟨f, t, s⟩ := e
  simp only [Ed.grow] at *
  go_enter Try.func33, Try.ntmps33
  go_wp2
  go_ret
  exact ⟨rfl, (Below.refl _ _).alloc (Nat.le_refl _) _⟩

theorem ed_ok_at {es : List Ed} {k : Nat} (he : EdOk es) (hk : k < es.length) : es[k].s.size ≤ 17000 ∧ -9223372036854775808 ≤ es[k].f ∧ es[k].f ≤ 9223372036854775807 ∧ -9223372036854775808 ≤ es[k].t ∧ es[k].t ≤ 9223372036854775807 := he.2 _ (List.getElem_mem hk)

set_option maxHeartbeats 400000 in
theorem valid_c (s : ByteArray) (A : Option Addr) (c : Nat) (es : List Ed) (w : World) (hs : s.size ≤ 17000) (he : EdOk es) (hA : EdAt w w.heap.size A es) :
    Calls Try.prog 17 #[.string s, .slice A es.length c] w fun e w' => e = .returned (.int .i64 (valid s es)) ∧ Below w.heap.size w w' := by
  have hlen := he.1
  by_cases h256 : 256 < es.length
  · go_enter Try.func17, Try.ntmps17
    go_wp2
    go_ret
    exact ⟨by simp [valid, h256], Below.refl _ _⟩
  · go_enter Try.func17, Try.ntmps17
    go_wp2
    go_loopw [5, 6, 16] (fun sz la i wr => ∃ (k : Nat) (size last : Int), k ≤ es.length ∧ i = .int .i64 k ∧ sz = .int .i64 size ∧ la = .int .i64 last ∧ 0 ≤ last ∧ last ≤ s.size ∧ -17000 * (k + 1) ≤ size ∧ size ≤ 17000 * (k + 1) ∧ vloop s.size last size (es.drop k) = valid s es ∧ Below w.heap.size w wr) (fun _ _ i _ => es.length - (intOf i).toNat)
    case atStart => exact ⟨0, s.size, 0, by omega, rfl, rfl, rfl, by omega, by omega, by omega, by omega, by simp [valid, h256], Below.refl _ _⟩
    case round =>
      obtain ⟨k, size, last, hk, rfl, rfl, rfl, hl0, hl1, hz0, hz1, hv, hb⟩ := hrel
      have hsz := hb.size
      by_cases hlt : k < es.length
      · obtain ⟨h1, h2, h3, h4, h5⟩ := ed_ok_at he hlt
        obtain ⟨b, off, rfl, had, hc⟩ := (hA.below hb) (by omega)
        obtain ⟨c0, c1, c2⟩ := hc k es[k] (List.getElem?_eq_getElem hlt)
        rw [List.drop_eq_getElem_cons hlt] at hv
        clear hc
        generalize es[k] = e at *
        have Hv := Lib.hid hv
        clear hv
        by_cases hbad : e.f < 0 ∨ e.t < e.f ∨ (s.size : Int) < e.t
        · have hbad' := hbad
          rcases hbad' with h | h | h
          · go_wp2
            go_ret
            exact ⟨by rw [← Hv.out, vloop, if_pos (by omega)]; rfl, hb.alloc hsz _⟩
          · by_cases h0 : e.f < 0
            · go_wp2
              go_ret
              exact ⟨by rw [← Hv.out, vloop, if_pos (by omega)]; rfl, hb.alloc hsz _⟩
            · go_wp2
              go_ret
              exact ⟨by rw [← Hv.out, vloop, if_pos (by omega)]; rfl, hb.alloc hsz _⟩
          · by_cases h0 : e.f < 0
            · go_wp2
              go_ret
              exact ⟨by rw [← Hv.out, vloop, if_pos (by omega)]; rfl, hb.alloc hsz _⟩
            · by_cases h1 : e.t < e.f
              · go_wp2
                go_ret
                exact ⟨by rw [← Hv.out, vloop, if_pos (by omega)]; rfl, hb.alloc hsz _⟩
              · go_wp2
                go_ret
                exact ⟨by rw [← Hv.out, vloop, if_pos (by omega)]; rfl, hb.alloc hsz _⟩
        · have b0 : 0 ≤ e.f := by omega
          have b1 : e.f ≤ e.t := by omega
          have b2 : e.t ≤ (s.size : Int) := by omega
          by_cases hlast : e.f < last
          · go_wp2
            go_ret
            exact ⟨by rw [← Hv.out, vloop, if_neg (by omega), if_pos (by omega)]; rfl, hb.alloc hsz _⟩
          · have hg1 : -17000 ≤ e.grow := by unfold Ed.grow; omega
            have hg2 : e.grow ≤ 17000 := by unfold Ed.grow; omega
            have Hlast := Lib.hid hlast
            have Hbad := Lib.hid hbad
            clear hbad
            go_wp2_with fail
            refine (growth_c e _ (by omega) b0 b1 (by omega)).mono ?_
            rintro x w1 ⟨rfl, hb1⟩
            have hc1 : ∀ o, w1.cell? ⟨wr.heap.size, o, none⟩ = (wr.alloc (.cells #[.int .i64 e.f, .int .i64 e.t, .string e.s] 47)).cell? ⟨wr.heap.size, o, none⟩ := fun o => hb1.cell (p := ⟨wr.heap.size, o, none⟩) (by simp)
            have hsz1 := hb1.size
            go_wp2
            go_roundw
            case rel => exact ⟨k + 1, size + e.grow, e.t, by omega, by go_num, rfl, rfl, by omega, by omega, by omega, by omega, by rw [← Hv.out, vloop, if_neg (by have := Hbad.out; omega), if_neg (by have := Hlast.out; omega)], (hb.alloc hsz _).trans (hb1.mono (by simp; omega))⟩
            case measure => simp [intOf]; omega
      · have hkk : k = es.length := by omega
        subst hkk
        rw [List.drop_length, vloop] at hv
        have Hv := Lib.hid hv
        clear hv
        by_cases h3 : 16384 < size
        · go_wp2
          go_ret
          exact ⟨by rw [← Hv.out, if_pos (by omega)]; rfl, hb⟩
        · go_wp2
          go_ret
          exact ⟨by rw [← Hv.out, if_neg (by omega)]; rfl, hb⟩
end Go.Proofs.Ytdiaghmkbplipaa
