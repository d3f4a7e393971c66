/- alias: AliasSets: the walk. -/
import Derived.Test.YticehbhedoploaaGreatDoorAlRt
namespace Go.Proofs.YticehbhedoploaaGreatDoor
open Go.RowKit
set_option linter.unusedVariables false

theorem takeDrop_len {α : Type} (f : α → Bool) : ∀ q : List α, (q.takeWhile f).length + (q.dropWhile f).length = q.length := by
  intro q
  rw [← List.length_append, List.takeWhile_append_dropWhile]
theorem set_len (l : List Al) (s v : ByteArray) : (setR l s v).1.length ≤ l.length + 1 := by
  have h : (withoutL l s).length ≤ l.length := List.length_filter_le _ _
  have h2 : (setL l s v).length = (withoutL l s).length + 1 := by
    have := takeDrop_len (fun x : Al => ltB x.n s) (withoutL l s)
    unfold setL
    rw [List.length_append, List.length_cons]
    omega
  unfold setR
  split
  · split
    · simp
    split
    · simp
    split
    · simp
    · simp only; omega
  · simp
set_option maxHeartbeats 4000000 in
set_option maxRecDepth 100000 in
theorem sets_walk (A : Option Addr) (c : Nat) (l : List Al) (s v : ByteArray) (W : World) (hA : AlAt W W.heap.size A l) (hn : A = none → l = [] ∧ c = 0) (hz : ∀ x ∈ l, x.n.size ≤ 140737488355328 ∧ x.v.size ≤ 140737488355328) :
    Calls Tryz.prog 4 #[.slice A l.length c, .string s, .string v] W fun e w' => e = .returned (.bool true) ∧ Below W.heap.size W w' := by
  have HF := Lib.hid (few_c A l c W hA hz)
  have HA := Lib.hid (fun (V : World) (hb : Below W.heap.size W V) => alAt_mono (alAt_below hA hb (Nat.le_refl _)) hb.size)
  have HK := Lib.hid awake_c
  have HN := Lib.hid hn
  clear hA hz hn
  rcases hf : fewB l with _ | _
  · rw [hf] at HF
    clear hf
    go_enter Tryz.func4, Tryz.ntmps4
    go_wp2_with fail
    refine HF.out.mono ?_
    rintro e w1 ⟨rfl, hb1⟩
    go_wp2_with fail
    refine (HK.out w1).mono ?_
    rintro e w2 ⟨rfl, hb2⟩
    have hb3 := hb1.trans (hb2.mono hb1.size)
    go_wp2_with fail
    go_ret
    exact ⟨rfl, hb3⟩
  · rw [hf] at HF
    by_cases hs5 : 5000 < s.size
    · have d1 : decide ((5000 : Int) < (s.size : Int)) = true := decide_eq_true (by omega)
      clear hf
      go_enter Tryz.func4, Tryz.ntmps4
      go_wp2_with fail
      refine HF.out.mono ?_
      rintro e w1 ⟨rfl, hb1⟩
      go_wp2_with fail
      refine (HK.out w1).mono ?_
      rintro e w2 ⟨rfl, hb2⟩
      have hb3 := hb1.trans (hb2.mono hb1.size)
      go_wp2_with fail
      go_ret
      exact ⟨rfl, hb3⟩
    · by_cases hv5 : 5000 < v.size
      · have d1 : decide ((5000 : Int) < (s.size : Int)) = false := decide_eq_false (by omega)
        have d2 : decide ((5000 : Int) < (v.size : Int)) = true := decide_eq_true (by omega)
        clear hf
        go_enter Tryz.func4, Tryz.ntmps4
        go_wp2_with fail
        refine HF.out.mono ?_
        rintro e w1 ⟨rfl, hb1⟩
        go_wp2_with fail
        refine (HK.out w1).mono ?_
        rintro e w2 ⟨rfl, hb2⟩
        have hb3 := hb1.trans (hb2.mono hb1.size)
        go_wp2_with fail
        go_ret
        exact ⟨rfl, hb3⟩
      · obtain ⟨h70, hsm⟩ := few_small hf
        have d1 : decide ((5000 : Int) < (s.size : Int)) = false := decide_eq_false (by omega)
        have d2 : decide ((5000 : Int) < (v.size : Int)) = false := decide_eq_false (by omega)
        have HU := Lib.hid (fun (V : World) (hb : Below W.heap.size W V) => Set_c A l c s v V (HA.out V hb) HN.out (by omega))
        have hlen := set_len l s v
        have HR := Lib.hid (fun (A2 : Option Addr) (c2 : Nat) (V : World) (h2 : AlAt V V.heap.size A2 l) => RSet_c A2 l c2 s v V h2 (by omega) (fun x hx => by have := (hsm x hx).1; omega) (by omega))
        have HS := Lib.hid (fun (A1 A2 : Option Addr) (c1 c2 : Nat) (V : World) (h1 : AlAt V V.heap.size A1 (setR l s v).1) (h2 : AlAt V V.heap.size A2 (setR l s v).1) => RSame_c A1 A2 c1 c2 (setR l s v).1 V h1 h2 (by omega))
        have HT := Lib.hid (fun (A2 : Option Addr) (c2 : Nat) (V : World) (hb : Below W.heap.size W V) (h2 : AlAt V V.heap.size A2 l) => RSame_c A A2 c c2 l V (HA.out V hb) h2 (by omega))
        clear hlen hsm hf hs5 hv5
        unfold SetPost at HU
        unfold RPost at HR
        generalize setR l s v = R at *
        obtain ⟨m, E⟩ := R
        have t1 : (((E : Nat) : Int) == ((E : Nat) : Int)) = true := by simp
        obtain ⟨i0, hi, hz0, hz1, hz2⟩ := al_info_parts alInfo
        have Hone := Lib.hid (alCells_one l)
        have Hlen := Lib.hid (alCells_length l)
        have hmx : maxLen = 9223372036854775807 := rfl
        rcases A with _ | a
        · obtain ⟨hl0, rfl⟩ := HN.out rfl
          subst hl0
          go_enter Tryz.func4, Tryz.ntmps4
          go_wp2_with fail
          refine HF.out.mono ?_
          rintro e w1 ⟨rfl, hb1⟩
          have ho := Lib.hid (own_emptyA w1)
          have hbe := Lib.hid (hb1.alloc hb1.size (.cells #[] 47))
          go_wp2_with (at_builtin; refine wpList_append_own_none rfl _ _ 22 rfl w1.heap.size 47 i0 2 Tryz.underlying22 hi _ _ _ rfl ho.out rfl ?_)
          obtain ⟨w2, hw2⟩ : ∃ w2, w2 = w1.alloc (.cells #[] 47) := ⟨_, rfl⟩
          rw [← hw2] at ho hbe
          have hb2 := hbe.out
          have HA2 : Hid (∀ V : World, Below w2.heap.size w2 V → AlAt V V.heap.size (some ⟨w1.heap.size, 0, none⟩) []) := Lib.hid (fun _ _ => .inl rfl)
          rw [← hw2]
          obtain ⟨A2, hA2⟩ : ∃ A2, A2 = (some ⟨w1.heap.size, 0, none⟩ : Option Addr) := ⟨_, rfl⟩
          obtain ⟨c2, hc2⟩ : ∃ c2 : Nat, c2 = 0 := ⟨_, rfl⟩
          rw [← hA2] at HA2
          clear ho hbe hw2
          subst hA2 hc2
          go_wp2_with fail
          refine (HU.out w2 hb2).mono ?_
          rintro e w4 ⟨A4, c4, rfl, hA4, _, hb4⟩
          have hb5 := hb2.trans (hb4.mono hb2.size)
          have HA4 := Lib.hid (fun (V : World) (hb : Below w4.heap.size w4 V) => alAt_mono (alAt_below hA4 hb (Nat.le_refl _)) hb.size)
          clear hA4
          go_wp2_with fail
          refine (HR.out _ _ w4 (HA2.out w4 hb4)).mono ?_
          rintro e w6 ⟨A6, c6, rfl, hA6, hb6⟩
          have hb7 := hb5.trans (hb6.mono hb5.size)
          have hb26 := hb4.trans (hb6.mono hb4.size)
          have HA6 := Lib.hid hA6
          clear hA6
          go_wp2_with fail
          refine (HS.out A4 A6 c4 c6 w6 (HA4.out w6 hb6) HA6.out).mono ?_
          rintro e w8 ⟨rfl, hb8⟩
          have hb9 := hb7.trans (hb8.mono hb7.size)
          have hb28 := hb26.trans (hb8.mono hb26.size)
          go_wp2_with fail
          refine (HT.out _ _ w8 hb9 (HA2.out w8 hb28)).mono ?_
          rintro e w10 ⟨rfl, hb10⟩
          have hb11 := hb9.trans (hb10.mono hb9.size)
          go_wp2_with fail
          refine (HK.out w10).mono ?_
          rintro e w12 ⟨rfl, hb12⟩
          have hb13 := hb11.trans (hb12.mono hb11.size)
          go_wp2_with fail
          go_ret
          exact ⟨rfl, hb13⟩
        · have Hnew := Lib.hid (fun (V : World) (hb : Below W.heap.size W V) => (fun j u hu => by
            obtain ⟨k, hk, h⟩ := alCells_any l j u hu
            obtain ⟨b, off, e, hb2, q0, q1⟩ := alAt_cells (HA.out V hb) hk
            injection e with e
            subst e
            rw [show (⟨b, off, none⟩ : Addr).add j = ⟨b, off + j, none⟩ from by simp [Addr.add]]
            rcases h with ⟨rfl, rfl⟩ | ⟨rfl, rfl⟩
            · exact q0
            · rw [← Nat.add_assoc]; exact q1 : ∀ j u, (alCells l)[j]? = some u → V.cell? (a.add j) = some u))
          go_enter Tryz.func4, Tryz.ntmps4
          go_wp2_with fail
          refine HF.out.mono ?_
          rintro e w1 ⟨rfl, hb1⟩
          have ho := Lib.hid (own_emptyA w1)
          have hbe := Lib.hid (hb1.alloc hb1.size (.cells #[] 47))
          have hwb : Below w1.heap.size w1 (w1.alloc (.cells #[] 47)) := (Below.refl _ _).alloc (Nat.le_refl _) _
          have hwsz : w1.heap.size ≤ (w1.alloc (.cells #[] 47)).heap.size := hwb.size
          have Hwb := Lib.hid hwb
          have Hnw := Lib.hid (Hnew.out _ hbe.out)
          clear hwb
          go_wp2_with (at_builtin; refine wpList_append_own _ rfl _ _ 22 rfl w1.heap.size 47 i0 _ 2 32 Tryz.underlying22 hi hz0 hz1 hz2 rfl (by decide) _ _ _ rfl ho.out a l.length c (alCells l) rfl Hlen.out Hnw.out Hone.out (by simp; omega) (by simp; omega) hwsz ?_)
          intro v2 w2 hown2 hgrow2 _
          have hbx : Below w1.heap.size w1 w2 := Hwb.out.grown hgrow2 hwsz (fun q hq => (ho.out.lt q hq).1)
          have hb2 := hb1.trans (hbx.mono hb1.size)
          have hO : OwnA w2 w1.heap.size v2 l := by simpa [OwnA, alCells] using hown2
          obtain ⟨A2, c2, rfl, hA2, _, _⟩ := ownA_at hO
          have HA2 := Lib.hid (fun (V : World) (hb : Below w2.heap.size w2 V) => alAt_mono (alAt_below hA2 hb (Nat.le_refl _)) hb.size)
          clear hO hown2 hgrow2 hA2 Hnw Hwb hbe ho hbx hwsz
          go_wp2_with fail
          refine (HU.out w2 hb2).mono ?_
          rintro e w4 ⟨A4, c4, rfl, hA4, _, hb4⟩
          have hb5 := hb2.trans (hb4.mono hb2.size)
          have HA4 := Lib.hid (fun (V : World) (hb : Below w4.heap.size w4 V) => alAt_mono (alAt_below hA4 hb (Nat.le_refl _)) hb.size)
          clear hA4
          go_wp2_with fail
          refine (HR.out A2 c2 w4 (HA2.out w4 hb4)).mono ?_
          rintro e w6 ⟨A6, c6, rfl, hA6, hb6⟩
          have hb7 := hb5.trans (hb6.mono hb5.size)
          have hb26 := hb4.trans (hb6.mono hb4.size)
          have HA6 := Lib.hid hA6
          clear hA6
          go_wp2_with fail
          refine (HS.out A4 A6 c4 c6 w6 (HA4.out w6 hb6) HA6.out).mono ?_
          rintro e w8 ⟨rfl, hb8⟩
          have hb9 := hb7.trans (hb8.mono hb7.size)
          have hb28 := hb26.trans (hb8.mono hb26.size)
          go_wp2_with fail
          refine (HT.out A2 c2 w8 hb9 (HA2.out w8 hb28)).mono ?_
          rintro e w10 ⟨rfl, hb10⟩
          have hb11 := hb9.trans (hb10.mono hb9.size)
          go_wp2_with fail
          refine (HK.out w10).mono ?_
          rintro e w12 ⟨rfl, hb12⟩
          have hb13 := hb11.trans (hb12.mono hb11.size)
          go_wp2_with fail
          go_ret
          exact ⟨rfl, hb13⟩
end Go.Proofs.YticehbhedoploaaGreatDoor
