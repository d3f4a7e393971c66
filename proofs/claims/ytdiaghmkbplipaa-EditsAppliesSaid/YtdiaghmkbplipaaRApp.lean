/- The contracts of few, and of the reference's apply and Apply. -/
import Derived.Test.YtdiaghmkbplipaaApp
import Derived.Test.YtdiaghmkbplipaaRVal
namespace Go.Proofs.Ytdiaghmkbplipaa
open Go.RowKit

/-- A short text with a short list of edits. -/
def Few (s : ByteArray) (es : List Ed) : Prop := s.size ≤ 17000 ∧ es.length ≤ 300 ∧ ∀ e ∈ es, e.s.size ≤ 17000

set_option maxHeartbeats 1000000 in
theorem few_c (s : ByteArray) (A : Option Addr) (c : Nat) (es : List Ed) (w : World) (B : Bool) (hB : B = true ↔ Few s es) (hA : EdAt w w.heap.size A es) :
    Calls Try.prog 14 #[.string s, .slice A es.length c] w fun e w' => e = .returned (.bool B) ∧ w = w' := by
  have HB := Lib.hid hB
  clear hB
  by_cases q1 : 17000 < s.size
  · have hf : B = false := by
      rcases B with _ | _
      · rfl
      · have := (HB.out.1 rfl).1; omega
    subst hf
    have d1 : decide ((17000 : Int) < (s.size : Int)) = true := decide_eq_true (by omega)
    go_enter Try.func14, Try.ntmps14
    go_wp2_with fail
    go_ret
    exact ⟨rfl, rfl⟩
  by_cases q2 : 300 < es.length
  · have hf : B = false := by
      rcases B with _ | _
      · rfl
      · have := (HB.out.1 rfl).2.1; omega
    subst hf
    have d1 : decide ((17000 : Int) < (s.size : Int)) = false := decide_eq_false (by omega)
    have d2 : decide ((300 : Int) < (es.length : Int)) = true := decide_eq_true (by omega)
    go_enter Try.func14, Try.ntmps14
    go_wp2_with fail
    go_ret
    exact ⟨rfl, rfl⟩
  · have d1 : decide ((17000 : Int) < (s.size : Int)) = false := decide_eq_false (by omega)
    have d2 : decide ((300 : Int) < (es.length : Int)) = false := decide_eq_false (by omega)
    go_enter Try.func14, Try.ntmps14
    go_wp2_with fail
    go_loop [5] (fun iv => ∃ k : Nat, k ≤ es.length ∧ iv = .int .i64 k ∧ Hid (∀ i e, i < k → es[i]? = some e → e.s.size ≤ 17000)) (fun iv => es.length - (intOf iv).toNat)
    case atStart => exact ⟨0, by omega, rfl, Lib.hid (fun i e h => by omega)⟩
    case round =>
      obtain ⟨k, hk, rfl, hall⟩ := hrel
      by_cases hlt : k < es.length
      · obtain ⟨b, off, rfl, had, hcl⟩ := hA (by omega)
        obtain ⟨c0, c1, c2⟩ := hcl k es[k] (List.getElem?_eq_getElem hlt)
        clear hcl c0 c1
        have i1 : (k : Int) < (es.length : Int) := by omega
        by_cases hbig : 17000 < es[k].s.size
        · have hf : B = false := by
            rcases B with _ | _
            · rfl
            · have := (HB.out.1 rfl).2.2 _ (List.getElem_mem hlt); omega
          subst hf
          generalize es[k].s = x at *
          go_wp2_with fail
          go_ret
          exact ⟨rfl, rfl⟩
        · have hall' : Hid (∀ i e, i < k + 1 → es[i]? = some e → e.s.size ≤ 17000) := Lib.hid (fun i e h he => by
            by_cases hi : i < k
            · exact hall.out i e hi he
            · obtain rfl : i = k := by omega
              rw [List.getElem?_eq_getElem hlt] at he
              injection he with he
              subst he
              omega)
          generalize es[k].s = x at *
          go_wp2_with fail
          go_round
          case rel => exact ⟨k + 1, by omega, by go_num, hall'⟩
          case measure => simp [intOf]; omega
      · have hkk : k = es.length := by omega
        subst hkk
        have hf : B = true := HB.out.2 ⟨by omega, by omega, fun e he => by
          obtain ⟨i, hi, rfl⟩ := List.getElem_of_mem he
          exact hall.out i _ hi (List.getElem?_eq_getElem hi)⟩
        subst hf
        go_wp2_with fail
        go_ret
        exact ⟨rfl, rfl⟩

set_option maxHeartbeats 1000000 in
theorem rapply_c (s : ByteArray) (A : Option Addr) (c : Nat) (es : List Ed) (w : World) (hs : s.size ≤ 17000) (he : EdOk es) (hA : EdAt w w.heap.size A es) (hv : valid s es = 0) :
    Calls Try.prog 32 #[.string s, .slice A es.length c] w fun e w' => e = .returned (.string ⟨(applL s.data.toList 0 es).toArray⟩) ∧ Below w.heap.size w w' := by
  have hlen := he.1
  have hvl : ∃ size, vloop s.size 0 size es = 0 := by
    unfold valid at hv
    split at hv
    · omega
    · exact ⟨_, hv⟩
  clear hv
  go_enter Try.func32, Try.ntmps32
  go_wp2_with fail
  go_loopw [5, 6, 7] (fun ov la iv wr => ∃ (k last : Nat) (acc : ByteArray), k ≤ es.length ∧ iv = .int .i64 k ∧ la = .int .i64 last ∧ ov = .string acc ∧ last ≤ s.size ∧ (∃ size, vloop s.size last size (es.drop k) = 0) ∧ acc.data.toList ++ applL s.data.toList last (es.drop k) = applL s.data.toList 0 es ∧ acc.size ≤ 34000 * k ∧ Below w.heap.size w wr) (fun _ _ iv _ => es.length - (intOf iv).toNat)
  case atStart => exact ⟨0, 0, ⟨#[]⟩, by omega, rfl, rfl, rfl, by omega, hvl, rfl, Nat.le_refl _, Below.refl _ _⟩
  case round =>
    obtain ⟨k, last, acc, hk, rfl, rfl, rfl, hl, ⟨size, hvk⟩, hacc, hal, hb⟩ := hrel
    clear hvl
    by_cases hlt : k < es.length
    · obtain ⟨h1, h2, h3, h4, h5⟩ := ed_ok_at he hlt
      obtain ⟨b, off, rfl, had, hc⟩ := (hA.below hb) (by omega)
      obtain ⟨c0, c1, c2⟩ := hc k es[k] (List.getElem?_eq_getElem hlt)
      rw [List.drop_eq_getElem_cons hlt] at hvk hacc
      clear hc
      generalize es[k] = e at *
      obtain ⟨f, t, x⟩ := e
      obtain ⟨g1, g2, g3, g4, g5⟩ := vloop_cons hvk
      simp only at g1 g2 g3 g4 c0 c1 c2 h1 h2 h3 h4 h5
      obtain ⟨f, rfl⟩ := Int.eq_ofNat_of_zero_le g1
      obtain ⟨t, rfl⟩ := Int.eq_ofNat_of_zero_le (show 0 ≤ t by omega)
      simp only [applL, Int.toNat_natCast] at hacc
      have Hacc := Lib.hid hacc
      have Hg5 := Lib.hid g5
      clear hacc g5 hvk
      have i0 : (k : Int) < (es.length : Int) := by omega
      have i1 : (last : Int) ≤ f := by omega
      have i2 : (f : Int) ≤ s.size := by omega
      go_wp2_with fail
      go_quiet (fail)
      go_wp2_with fail
      go_roundw
      case rel =>
        refine ⟨k + 1, t, acc ++ s.extract last f ++ x, by omega, by go_num, rfl, rfl, by omega, ⟨_, Hg5.out⟩, ?_, ?_, below_drewN hb _⟩
        · rw [← Hacc.out]; simp [List.append_assoc]
        · simp; omega
      case measure => simp [intOf]; omega
    · have hkk : k = es.length := by omega
      subst hkk
      rw [List.drop_length, applL] at hacc
      have Hacc := Lib.hid hacc
      clear hacc hvk
      go_wp2_with fail
      go_ret
      refine ⟨?_, hb⟩
      have e1 : acc ++ s.extract last s.size = ⟨(applL s.data.toList 0 es).toArray⟩ := by
        rw [← Hacc.out]
        apply Go.WideShapes.bytes_inj
        have := Lib.extract_to_end s last
        rw [show (acc ++ s.extract last s.size).data.toList = acc.data.toList ++ (s.extract last s.size).data.toList from by simp, this]
      rw [← e1]
      rfl

set_option maxHeartbeats 1000000 in
theorem rApply_c (s : ByteArray) (A : Option Addr) (c : Nat) (es : List Ed) (w : World) (hs : s.size ≤ 17000) (he : EdOk es) (hA : EdAt w w.heap.size A es) :
    Calls Try.prog 16 #[.string s, .slice A es.length c] w fun e w' => e = .returned (.tuple #[.string (apply s es), .int .i64 (valid s es)]) ∧ Below w.heap.size w w' := by
  by_cases hv : valid s es = 0
  · have hap : apply s es = ⟨(applL s.data.toList 0 es).toArray⟩ := by simp [apply, hv]
    have Hv := Lib.hid hv
    rw [hap, hv]
    clear hap hv
    go_enter Try.func16, Try.ntmps16
    go_wp2_with fail
    refine (rvalid_c s A c es w hs he hA).mono ?_
    rintro e w1 ⟨rfl, hb1⟩
    rw [Hv.out]
    have hz1 := hb1.size
    go_wp2_with fail
    refine (rapply_c s A c es w1 hs he ((hA.below hb1).more hz1) Hv.out).mono ?_
    rintro e w2 ⟨rfl, hb2⟩
    go_wp2_with fail
    go_ret2
    exact ⟨rfl, hb1.trans (hb2.mono hz1)⟩
  · have hap : apply s es = s := by simp [apply, hv]
    have t1 : (valid s es != 0) = true := by simp [hv]
    rw [hap]
    clear hap hv
    go_enter Try.func16, Try.ntmps16
    go_wp2_with fail
    refine (rvalid_c s A c es w hs he hA).mono ?_
    rintro e w1 ⟨rfl, hb1⟩
    go_wp2_with fail
    go_ret2
    exact ⟨rfl, hb1⟩
end Go.Proofs.Ytdiaghmkbplipaa
