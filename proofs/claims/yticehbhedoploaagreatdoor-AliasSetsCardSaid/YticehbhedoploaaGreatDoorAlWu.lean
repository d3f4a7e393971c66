/- alias: the reference's Unset; AliasUnsets: the walk. -/
import Derived.Test.YticehbhedoploaaGreatDoorAlWv
import Derived.Test.YticehbhedoploaaGreatDoorAlRs
namespace Go.Proofs.YticehbhedoploaaGreatDoor
open Go.RowKit
set_option linter.unusedVariables false

theorem get_has (s : ByteArray) : ∀ l : List Al, (getL l s).2 = hasL l s
  | [] => rfl
  | x :: l => by
    have := get_has s l
    unfold getL hasL at *
    rw [List.find?_cons, List.any_cons]
    by_cases h : x.n = s
    · simp [h]
    · simpa [h] using this
theorem unset_len (l : List Al) (s : ByteArray) : (unsetR l s).1.length ≤ l.length := by
  unfold unsetR
  split
  · split
    · exact List.length_filter_le _ _
    · exact Nat.le_refl _
  · exact Nat.le_refl _
def RPost (w : World) (R : List Al × Nat) (e : Ending) (w' : World) : Prop := ∃ A' c', e = .returned (.tuple #[.slice A' R.1.length c', .int .i64 (R.2 : Nat)]) ∧ AlAt w' w'.heap.size A' R.1 ∧ Below w.heap.size w w'
set_option maxHeartbeats 4000000 in
set_option maxRecDepth 100000 in
theorem RUnset_c (A : Option Addr) (l : List Al) (c : Nat) (s : ByteArray) (w : World) (hA : AlAt w w.heap.size A l) (hl : l.length ≤ 1000000) (hz : ∀ x ∈ l, x.n.size ≤ 1000000000) :
    Calls Tryz.prog 23 #[.slice A l.length c, .string s] w (RPost w (unsetR l s)) := by
  have HV := Lib.hid (RValid_c A l c w hA hl hz)
  have HA := Lib.hid (fun (W : World) (hb : Below w.heap.size w W) => alAt_mono (alAt_below hA hb (Nat.le_refl _)) hb.size)
  have Hself := Lib.hid (fun (W : World) (hb : Below w.heap.size w W) (x : Nat) (hR : unsetR l s = (l, x)) => show RPost w (unsetR l s) (.returned (.tuple #[.slice A l.length c, .int .i64 (x : Nat)])) W from by
    rw [hR]; exact ⟨A, c, rfl, HA.out W hb, hb⟩)
  have HG := Lib.hid (fun (W : World) (hb : Below w.heap.size w W) => RGet_c A l c s W (HA.out W hb) hl)
  have HO := Lib.hid (fun (W : World) (hb : Below w.heap.size w W) => without_c A c l s W (HA.out W hb) hl)
  rw [get_has] at HG
  clear hA hz hl
  by_cases h0 : valL l = 0
  · have HV0 : Hid (Calls Tryz.prog 18 #[.slice A l.length c] w fun e w' => e = .returned (.int .i64 0) ∧ Below w.heap.size w w') := Lib.hid (by
      have := HV.out
      rw [h0] at this
      exact this)
    have hset : unsetR l s = if hasL l s = true then (withoutL l s, 0) else (l, 8) := by unfold unsetR; exact if_pos h0
    clear HV h0
    generalize (getL l s).1 = g at *
    rcases hhas : hasL l s with _ | _
    · rw [hhas] at HG
      have Hr := Lib.hid (fun W hb => Hself.out W hb 8 (by rw [hset, hhas]; rfl))
      clear Hself hset hhas HO
      generalize unsetR l s = R at *
      go_enter Tryz.func23, Tryz.ntmps23
      go_wp2_with fail
      refine HV0.out.mono ?_
      rintro e w1 ⟨rfl, hb1⟩
      go_wp2_with fail
      refine (HG.out w1 hb1).mono ?_
      rintro e w2 ⟨rfl, rfl⟩
      go_wp2_with fail
      go_ret2
      exact Hr.out w1 hb1
    · rw [hhas] at HG
      have Hr : Hid (unsetR l s = (withoutL l s, 0)) := Lib.hid (by rw [hset, hhas]; rfl)
      clear Hself hset hhas
      generalize unsetR l s = R at *
      generalize withoutL l s = Q at *
      go_enter Tryz.func23, Tryz.ntmps23
      go_wp2_with fail
      refine HV0.out.mono ?_
      rintro e w1 ⟨rfl, hb1⟩
      go_wp2_with fail
      refine (HG.out w1 hb1).mono ?_
      rintro e w2 ⟨rfl, rfl⟩
      go_wp2_with fail
      refine (HO.out w1 hb1).mono ?_
      rintro e w3 ⟨v3, rfl, ho3, hb3⟩
      have hb4 := hb1.trans (hb3.mono hb1.size)
      obtain ⟨A3, c3, rfl, hA3, _, _⟩ := ownA_at ho3
      have hf : RPost w R (.returned (.tuple #[.slice A3 Q.length c3, .int .i64 (0 : Nat)])) w3 := by
        rw [Hr.out]; exact ⟨A3, c3, rfl, hA3, hb4⟩
      have Hf := Lib.hid hf
      clear hf ho3 hA3
      go_wp2_with fail
      go_ret2
      exact Hf.out
  · obtain ⟨E, hE⟩ : ∃ E : Int, E = ((valL l : Nat) : Int) := ⟨_, rfl⟩
    have tE : (E != 0) = true := by rw [hE, bne_iff_ne]; omega
    have Hr := Lib.hid (fun W hb => Hself.out W hb (valL l) (by unfold unsetR; exact if_neg h0))
    have HV0 : Hid (Calls Tryz.prog 18 #[.slice A l.length c] w fun e w' => e = .returned (.int .i64 E) ∧ Below w.heap.size w w') := Lib.hid (by
      have := HV.out
      rw [← hE] at this
      exact this)
    rw [← hE] at Hr
    clear Hself HV hE h0 HG HO
    generalize unsetR l s = R at *
    go_enter Tryz.func23, Tryz.ntmps23
    go_wp2_with fail
    refine HV0.out.mono ?_
    rintro e w1 ⟨rfl, hb1⟩
    go_wp2_with fail
    go_ret2
    exact Hr.out w1 hb1
set_option maxHeartbeats 4000000 in
set_option maxRecDepth 100000 in
theorem unsets_walk (A : Option Addr) (c : Nat) (l : List Al) (s : ByteArray) (W : World) (hA : AlAt W W.heap.size A l) (hn : A = none → l = [] ∧ c = 0) (hz : ∀ x ∈ l, x.n.size ≤ 140737488355328 ∧ x.v.size ≤ 140737488355328) :
    Calls Tryz.prog 5 #[.slice A l.length c, .string s] W fun e w' => e = .returned (.bool true) ∧ Below W.heap.size W w' := by
  have HF := Lib.hid (few_c A l c W hA hz)
  have HA := Lib.hid (fun (V : World) (hb : Below W.heap.size W V) => alAt_mono (alAt_below hA hb (Nat.le_refl _)) hb.size)
  have HK := Lib.hid awake_c
  have HN := Lib.hid hn
  clear hA hz hn
  rcases hf : fewB l with _ | _
  · rw [hf] at HF
    clear hf
    go_enter Tryz.func5, Tryz.ntmps5
    go_wp2_with fail
    refine HF.out.mono ?_
    rintro e w1 ⟨rfl, hb1⟩
    go_wp2_with fail
    refine (HK.out w1).mono ?_
    rintro e w2 ⟨rfl, hb2⟩
    have hb3 := hb1.trans (hb2.mono hb1.size)
    go_wp2_with fail
    go_ret
    exact ⟨rfl, hb3⟩
  · rw [hf] at HF
    by_cases hs5 : 5000 < s.size
    · have d1 : decide ((5000 : Int) < (s.size : Int)) = true := decide_eq_true (by omega)
      clear hf
      go_enter Tryz.func5, Tryz.ntmps5
      go_wp2_with fail
      refine HF.out.mono ?_
      rintro e w1 ⟨rfl, hb1⟩
      go_wp2_with fail
      refine (HK.out w1).mono ?_
      rintro e w2 ⟨rfl, hb2⟩
      have hb3 := hb1.trans (hb2.mono hb1.size)
      go_wp2_with fail
      go_ret
      exact ⟨rfl, hb3⟩
    · obtain ⟨h70, hsm⟩ := few_small hf
      have d1 : decide ((5000 : Int) < (s.size : Int)) = false := decide_eq_false (by omega)
      have HU := Lib.hid (fun (V : World) (hb : Below W.heap.size W V) => Unset_c A l c s V (HA.out V hb) HN.out (by omega))
      have HR := Lib.hid (fun (V : World) (hb : Below W.heap.size W V) => RUnset_c A l c s V (HA.out V hb) (by omega) (fun x hx => by have := (hsm x hx).1; omega))
      have HG := Lib.hid (fun (V : World) (hb : Below W.heap.size W V) => Get_c A l c s V (HA.out V hb) (by omega))
      have HQ := Lib.hid (fun (V : World) (hb : Below W.heap.size W V) => RGet_c A l c s V (HA.out V hb) (by omega))
      have hlen := unset_len l s
      have HS := Lib.hid (fun (A1 A2 : Option Addr) (c1 c2 : Nat) (V : World) (h1 : AlAt V V.heap.size A1 (unsetR l s).1) (h2 : AlAt V V.heap.size A2 (unsetR l s).1) => RSame_c A1 A2 c1 c2 (unsetR l s).1 V h1 h2 (by omega))
      clear hlen hsm h70 hf hs5
      unfold SetPost at HU
      unfold RPost at HR
      generalize unsetR l s = R at *
      obtain ⟨m, E⟩ := R
      generalize (getL l s).2 = g2 at *
      generalize (getL l s).1 = g1 at *
      have t1 : (((E : Nat) : Int) == ((E : Nat) : Int)) = true := by simp
      have t2 : (g1.toList == g1.toList) = true := by simp
      have t3 : (g2 == g2) = true := by simp
      go_enter Tryz.func5, Tryz.ntmps5
      go_wp2_with fail
      refine HF.out.mono ?_
      rintro e w1 ⟨rfl, hb1⟩
      go_wp2_with fail
      refine (HU.out w1 hb1).mono ?_
      rintro e w2 ⟨A2, c2, rfl, hA2, _, hb2⟩
      have hb3 := hb1.trans (hb2.mono hb1.size)
      have HA2 := Lib.hid (fun (V : World) (hb : Below w2.heap.size w2 V) => alAt_mono (alAt_below hA2 hb (Nat.le_refl _)) hb.size)
      clear hA2
      go_wp2_with fail
      refine (HR.out w2 hb3).mono ?_
      rintro e w4 ⟨A4, c4, rfl, hA4, hb4⟩
      have hb5 := hb3.trans (hb4.mono hb3.size)
      have HA4 := Lib.hid (fun (V : World) (hb : Below w4.heap.size w4 V) => alAt_mono (alAt_below hA4 hb (Nat.le_refl _)) hb.size)
      clear hA4
      go_wp2_with fail
      refine (HG.out w4 hb5).mono ?_
      rintro e w6 ⟨rfl, hb6⟩
      have hb7 := hb5.trans (hb6.mono hb5.size)
      have hb26 := hb4.trans (hb6.mono hb4.size)
      go_wp2_with fail
      refine (HQ.out w6 hb7).mono ?_
      rintro e w7 ⟨rfl, rfl⟩
      go_wp2_with fail
      refine (HS.out A2 A4 c2 c4 w6 (HA2.out w6 hb26) (HA4.out w6 hb6)).mono ?_
      rintro e w8 ⟨rfl, hb8⟩
      have hb9 := hb7.trans (hb8.mono hb7.size)
      go_wp2_with fail
      refine (HK.out w8).mono ?_
      rintro e w9 ⟨rfl, hb10⟩
      have hb11 := hb9.trans (hb10.mono hb9.size)
      go_wp2_with fail
      go_ret
      exact ⟨rfl, hb11⟩
end Go.Proofs.YticehbhedoploaaGreatDoor
