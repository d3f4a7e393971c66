/- EditsInverts: for every string and every list of edits the law's call returns true: Invert agrees with the specification, and its edits restore the string. -/
import Derived.Test.YtdiaghmkbplipaaEdArg
import Derived.Test.YtdiaghmkbplipaaAwake
import Derived.Test.YtdiaghmkbplipaaFew
import Derived.Test.YtdiaghmkbplipaaRInv
import Derived.Test.YtdiaghmkbplipaaSame
namespace Go.Proofs.Ytdiaghmkbplipaa.editsInverts
open Go.ChangeShapes Go.WideShapes Go.ChangeAt Go.RowKit
open Go.ChangeMaps (open_string shut_string)
set_option linter.unusedVariables false

theorem head_take (L X Y : List UInt8) (a f : Nat) (haf : a ≤ f) (hf : f ≤ L.length) : ((L.drop a).take (f - a) ++ X ++ Y).take (f - a) = (L.drop a).take (f - a) := by
  have hl : ((L.drop a).take (f - a)).length = f - a := by simp; omega
  rw [List.append_assoc]
  exact List.take_left' hl
theorem head_drop (L X Y : List UInt8) (a f : Nat) (haf : a ≤ f) (hf : f ≤ L.length) : ((L.drop a).take (f - a) ++ X ++ Y).drop (f - a + X.length) = Y := by
  have hl : ((L.drop a).take (f - a) ++ X).length = f - a + X.length := by simp; omega
  exact List.drop_left' hl

theorem inv_back (s : ByteArray) (T : List UInt8) : ∀ (es : List Ed) (a p : Nat) (m size sz : Int), vloop s.size a size es = 0 → (p : Int) = a + m → a ≤ s.size → p ≤ T.length → T.drop p = applL s.data.toList a es → sz - (T.length - p : Nat) + (s.size - a) ≤ 16384 →
    applL T p (invL s m es) = s.data.toList.drop a ∧ vloop T.length p sz (invL s m es) = 0
  | [], a, p, m, size, sz, hv, hp, ha, hpT, hR, hsz => by
    refine ⟨by simpa [invL, applL] using hR, ?_⟩
    have hl : s.data.toList.length = s.size := by simp
    have := congrArg List.length hR
    simp only [applL, List.length_drop, hl] at this
    simp only [invL, vloop]
    rw [if_neg (by omega)]
  | e :: r, a, p, m, size, sz, hv, hp, ha, hpT, hR, hsz => by
    obtain ⟨h1, h2, h3, h4, h5⟩ := vloop_cons hv
    obtain ⟨f, t, x⟩ := e
    simp only at h1 h2 h3 h4
    obtain ⟨f, rfl⟩ := Int.eq_ofNat_of_zero_le h1
    obtain ⟨t, rfl⟩ := Int.eq_ofNat_of_zero_le (show 0 ≤ t by omega)
    have hl : s.data.toList.length = s.size := by simp
    have hxl : x.data.toList.length = x.size := by simp
    simp only [applL, Int.toNat_natCast] at hR
    have hgrow : (Ed.mk f t x).grow = (x.size : Int) - ((t : Int) - f) := rfl
    rw [hgrow] at h5
    have hlen := congrArg List.length hR
    have hl1 : ((s.data.toList.drop a).take (f - a)).length = f - a := by rw [List.length_take, List.length_drop, hl]; omega
    rw [List.length_append, List.length_append, hl1, hxl, List.length_drop] at hlen
    have hd : T.drop (p + (f - a) + x.size) = applL s.data.toList t r := by
      have := congrArg (List.drop (f - a + x.data.toList.length)) hR
      rw [head_drop _ _ _ a f (by omega) (by omega), List.drop_drop, hxl] at this
      rw [← this]
      congr 1
      omega
    have hlen2 := congrArg List.length hd
    rw [List.length_drop] at hlen2
    obtain ⟨i1, i2⟩ := inv_back s T r t (p + (f - a) + x.size) (m + ((x.size : Int) - ((t : Int) - f))) _ (sz + ((t : Int) - f) - x.size) h5 (by omega) (by omega) (by omega) hd (by omega)
    have e1 : ((f : Int) + m).toNat = p + (f - a) := by omega
    have e2 : ((f : Int) + m + x.size).toNat = p + (f - a) + x.size := by omega
    refine ⟨?_, ?_⟩
    · simp only [invL, applL, Int.toNat_natCast, hgrow]
      rw [e1, e2, i1, hR, show p + (f - a) - p = f - a from by omega, head_take _ _ _ a f (by omega) (by omega), Lib.extract_data]
      have k1 : s.data.toList.drop t = (s.data.toList.drop f).drop (t - f) := by rw [List.drop_drop]; congr 1; omega
      rw [k1, List.append_assoc, List.take_append_drop]
      have k2 : s.data.toList.drop f = (s.data.toList.drop a).drop (f - a) := by rw [List.drop_drop]; congr 1; omega
      rw [k2, List.take_append_drop]
    · have hgi : (Ed.mk ((f : Int) + m) ((f : Int) + m + x.size) (s.extract f t)).grow = ((t : Int) - f) - x.size := by
        have : (s.extract f t).size = t - f := by simp; omega
        unfold Ed.grow
        simp only [this]
        omega
      simp only [invL, Int.toNat_natCast, hgrow, vloop]
      rw [if_neg (by omega), if_neg (by omega), hgi, show sz + ((t : Int) - f - x.size) = sz + ((t : Int) - f) - x.size from by omega]
      have e3 : (f : Int) + m + x.size = ((p + (f - a) + x.size : Nat) : Int) := by omega
      rw [e3]
      exact i2

theorem appl_len (s : ByteArray) : ∀ (es : List Ed) (a : Nat) (size : Int), vloop s.size a size es = 0 → a ≤ s.size → size + ((applL s.data.toList a es).length : Int) - (s.size - a) ≤ 16384
  | [], a, size, hv, ha => by
    have hl : s.data.toList.length = s.size := by simp
    simp only [vloop] at hv
    simp only [applL, List.length_drop, hl]
    split at hv <;> omega
  | e :: r, a, size, hv, ha => by
    obtain ⟨h1, h2, h3, h4, h5⟩ := vloop_cons hv
    obtain ⟨f, t, x⟩ := e
    simp only at h1 h2 h3 h4
    obtain ⟨f, rfl⟩ := Int.eq_ofNat_of_zero_le h1
    obtain ⟨t, rfl⟩ := Int.eq_ofNat_of_zero_le (show 0 ≤ t by omega)
    have hl : s.data.toList.length = s.size := by simp
    have hxl : x.data.toList.length = x.size := by simp
    have hgrow : (Ed.mk f t x).grow = (x.size : Int) - ((t : Int) - f) := rfl
    rw [hgrow] at h5
    have := appl_len s r t _ h5 (by omega)
    have hl1 : ((s.data.toList.drop a).take (f - a)).length = f - a := by rw [List.length_take, List.length_drop, hl]; omega
    simp only [applL, Int.toNat_natCast, List.length_append, hl1, hxl]
    omega

theorem invL_text (s : ByteArray) : ∀ (es : List Ed) (m : Int), ∀ e ∈ invL s m es, e.s.size ≤ s.size
  | [], _, e, h => by simp [invL] at h
  | x :: r, m, e, h => by
    simp only [invL, List.mem_cons] at h
    rcases h with rfl | h
    · simp; omega
    · exact invL_text s r _ e h

/-- All that the law asks of inverted edits. -/
theorem inverted (s : ByteArray) (es : List Ed) (hs : s.size ≤ 16384) (hv : valid s es = 0) :
    (apply s es).size ≤ 17000 ∧ valid (apply s es) (invL s 0 es) = 0 ∧ apply (apply s es) (invL s 0 es) = s ∧ EdOk (invL s 0 es) := by
  have hv0 := hv
  have hlen : ¬ 256 < es.length := by
    intro h
    unfold valid at hv
    rw [if_pos h] at hv
    omega
  unfold valid at hv
  rw [if_neg hlen] at hv
  have hap : apply s es = ⟨(applL s.data.toList 0 es).toArray⟩ := by unfold apply; rw [if_pos hv0]
  have hal := appl_len s es 0 s.size hv (by omega)
  have htl : (apply s es).data.toList = applL s.data.toList 0 es := by rw [hap]
  have hts : (apply s es).size = (applL s.data.toList 0 es).length := by rw [hap]; rfl
  obtain ⟨i1, i2⟩ := inv_back s (applL s.data.toList 0 es) es 0 0 0 s.size ((applL s.data.toList 0 es).length : Int) hv (by omega) (by omega) (by omega) (by simp) (by omega)
  have hvi : valid (apply s es) (invL s 0 es) = 0 := by
    unfold valid
    rw [invL_length, if_neg hlen, hts]
    exact i2
  refine ⟨by omega, hvi, ?_, by rw [invL_length]; omega, fun e he => ?_⟩
  · rw [apply, if_pos hvi, htl, i1]
    apply bytes_inj
    simp
  · have h1 := valid_all hvi e he
    have h2 := invL_text s es 0 e he
    rw [hts] at h1
    omega

set_option maxHeartbeats 4000000 in
theorem walk (s : ByteArray) (A : Option Addr) (c : Nat) (es : List Ed) (w : World) (hs : s.size ≤ maxLen) (hA : EdAt w w.heap.size A es)
    (hr : ∀ e ∈ es, (-9223372036854775808 ≤ e.f ∧ e.f ≤ 9223372036854775807) ∧ (-9223372036854775808 ≤ e.t ∧ e.t ≤ 9223372036854775807) ∧ e.s.size ≤ maxLen) :
    Calls Try.prog 7 #[.string s, .slice A es.length c] w fun e w' => e = .returned (.bool true) ∧ Below w.heap.size w w' := by
  by_cases hf : Few s es
  · obtain ⟨f1, f2, f3⟩ := hf
    have he : EdOk es := ⟨f2, fun e hm => ⟨f3 e hm, (hr e hm).1.1, (hr e hm).1.2, (hr e hm).2.1.1, (hr e hm).2.1.2⟩⟩
    have HF := Lib.hid (few_c s A c es w true ⟨fun _ => ⟨f1, f2, f3⟩, fun _ => rfl⟩ hA)
    by_cases hv : valid s es = 0
    · have H1 := Lib.hid (fun W h => invert_c s A c es W f1 he h hv)
      have H2 := Lib.hid (fun W h => rinvert_c s A c es W f1 he h hv)
      have H3 := Lib.hid (fun W h => apply_c s A c es W f1 he h)
      have Hinv := Lib.hid (fun h => inverted s es h hv)
      have H5 := Lib.hid (fun (h : s.size ≤ 16384) W A' c' h' => apply_c (apply s es) A' c' (invL s 0 es) W (inverted s es h hv).1 (inverted s es h hv).2.2.2 h')
      have hil := invL_length s es 0
      have Hil := Lib.hid hil
      rw [hv] at H3
      clear hv hr f3 hil
      generalize invL s 0 es = xs at *
      go_enter Try.func7, Try.ntmps7
      go_wp2_with fail
      refine HF.out.mono ?_
      rintro e w0 ⟨rfl, rfl⟩
      go_wp2_with fail
      refine (H1.out _ hA).mono ?_
      rintro e w1 ⟨v1, rfl, o1, hb1⟩
      have hz1 := hb1.size
      obtain ⟨A1, c1, rfl, hA1⟩ := edAt_own o1 Hil.out.symm
      clear o1
      go_wp2_with fail
      refine (H2.out _ ((hA.below hb1).more hz1)).mono ?_
      rintro e w2 ⟨v2, rfl, o2, hb2⟩
      have hz2 := hb2.size
      obtain ⟨A2, c2, rfl, hA2⟩ := edAt_own o2 Hil.out.symm
      clear o2
      have hA12 := (hA1.below hb2).more hz2
      go_wp2_with fail
      refine (same_c A1 A2 c1 c2 xs w2 (by rw [Hil.out]; exact f2) hA12 hA2).mono ?_
      rintro e w3 ⟨rfl, hb3⟩
      have hz3 := hb3.size
      have hA13 := (hA12.below hb3).more hz3
      have hA3 := ((hA.below hb1).below (hb2.mono hz1)).below (hb3.mono (by omega))
      have hb : Below w.heap.size w w3 := (hb1.trans (hb2.mono hz1)).trans (hb3.mono (by omega))
      by_cases q : 16384 < s.size
      · have d1 : decide ((16384 : Int) < (s.size : Int)) = true := decide_eq_true (by omega)
        go_wp2_with fail
        refine (awake_c w3).mono ?_
        rintro e w' ⟨rfl, hb'⟩
        go_wp2
        go_ret
        exact ⟨rfl, hb.trans (hb'.mono (by omega))⟩
      · have d1 : decide ((16384 : Int) < (s.size : Int)) = false := decide_eq_false (by omega)
        obtain ⟨j1, j2, j3, j4⟩ := Hinv.out (by omega)
        have J2 := Lib.hid j2; have J3 := Lib.hid j3
        clear j1 j2 j3 j4
        generalize apply s es = T at *
        go_wp2_with fail
        refine (H3.out _ (hA3.more (by omega))).mono ?_
        rintro e w4 ⟨rfl, hb4⟩
        have hz4 := hb4.size
        go_wp2_with fail
        refine (H5.out (by omega) w4 A1 c1 ((hA13.below hb4).more hz4)).mono ?_
        rintro e w5 ⟨rfl, hb5⟩
        have hz5 := hb5.size
        rw [J2.out, J3.out]
        go_wp2_with fail
        refine (awake_c w5).mono ?_
        rintro e w' ⟨rfl, hb'⟩
        go_wp2
        go_ret
        exact ⟨rfl, ((hb.trans (hb4.mono (by omega))).trans (hb5.mono (by omega))).trans (hb'.mono (by omega))⟩
    · have H1 := Lib.hid (fun W h => invert_no s A c es W f1 he h hv)
      have H2 := Lib.hid (fun W h => rinvert_no s A c es W f1 he h hv)
      have t1 : (valid s es != 0) = true := by simp [hv]
      clear hv hr f3
      generalize valid s es = v at *
      go_enter Try.func7, Try.ntmps7
      go_wp2_with fail
      refine HF.out.mono ?_
      rintro e w0 ⟨rfl, rfl⟩
      go_wp2_with fail
      refine (H1.out _ hA).mono ?_
      rintro e w1 ⟨rfl, hb1⟩
      have hz1 := hb1.size
      go_wp2_with fail
      refine (H2.out _ ((hA.below hb1).more hz1)).mono ?_
      rintro e w2 ⟨rfl, hb2⟩
      have hz2 := hb2.size
      go_wp2_with fail
      refine (same_c none none 0 0 [] w2 (by simp) (fun h => by simp at h) (fun h => by simp at h)).mono ?_
      rintro e w3 ⟨rfl, hb3⟩
      have hz3 := hb3.size
      go_wp2_with fail
      refine (awake_c w3).mono ?_
      rintro e w' ⟨rfl, hb'⟩
      go_wp2
      go_ret
      exact ⟨rfl, ((hb1.trans (hb2.mono hz1)).trans (hb3.mono (by omega))).trans (hb'.mono (by omega))⟩
  · have HF := Lib.hid (few_c s A c es w false ⟨fun h => by simp at h, fun h => absurd h hf⟩ hA)
    clear hr
    go_enter Try.func7, Try.ntmps7
    go_wp2_with fail
    refine HF.out.mono ?_
    rintro e w0 ⟨rfl, rfl⟩
    go_wp2_with fail
    refine (awake_c w).mono ?_
    rintro e w' ⟨rfl, hb'⟩
    go_wp2
    go_ret
    exact ⟨rfl, hb'⟩

set_option maxRecDepth 100000 in
theorem lifted (os : Os) (started : os.Started) (H : Type) (enc : TypeId × Value → H) :
    ReturnsInHanded {} Try.checked os 7 .any (Rows.editsInvertsSpec.pre6 enc Try.prog Try.f7 Rows.editsInvertsRow.domain false) (Rows.editsInvertsSpec.post enc Try.prog Try.f7 false true false false) := by
  refine returnsInHanded_of_change (C := Try.checked) own started (by kernel_rfl) Try.func7
    (ChangeSpec.witness6 (enc := enc) (C := Try.checked) false ⟨#[], #[.string ByteArray.empty, .slice none 0 0], []⟩ 8 (by kernel_rfl) (by kernel_rfl) (by kernel_rfl) (by kernel_rfl)) ?_
  intro W base args ds gs before hval0 hW hcnd _
  have hval : ∀ (j : Nat) t v, Try.f7.params[j]? = some t → args[j]? = some v → Value.okWide Try.prog W .any base t v := hval0
  have hW' := hW
  obtain ⟨p, q, hA0, hV, rfl, hfz, hnd⟩ := hW
  have hA : DataW.TrodAll enc Try.prog W 0 (fun _ => true) true Try.f7.params.toList args.toList ds p := hA0
  have hA1 := hA
  rw [Try.params7] at hA hval
  obtain ⟨v0, vs0, d0, ds0, p0, q0, hargs, rfl, rfl, h0, r0⟩ := trodAll_cons hA
  obtain ⟨v1, vs1, d1, ds1, p1, q1, rfl, rfl, rfl, h1, r1⟩ := trodAll_cons r0
  obtain ⟨rfl, rfl, rfl⟩ := trodAll_nil r1
  obtain rfl : args = #[v0, v1] := by cases args; simp_all
  obtain ⟨rfl, rfl⟩ := trodVars_none hV
  have hlt : ∀ x ∈ p0 ++ (p1 ++ []), x.block < W.heap.size := fun x hx => hW'.lt x (List.mem_append_left _ hx)
  obtain ⟨a0, rfl, rfl, rfl, w0⟩ := open_string Try.underlying9 (hval 0 9 v0 rfl rfl) h0
  obtain ⟨A1, c1, es1, rfl, hE1, _, _, hr1⟩ := open_edits (hval 1 34 v1 rfl rfl) h1
  clear hA0 hval0
  refine (walk a0 A1 c1 es1 W w0 hE1 hr1).mono fun e W' ⟨he, hg⟩ => ?_
  subst he
  exact ⟨_, rfl, _, [], _, [], _, [], hW', trodAll_cons_mk (shut_bool Try.underlying4 _) trodAll_mk0, trodAll_below laidOut hg _ _ _ _ (by
      rw [Try.params7]
      intro t ht
      simp only [List.mem_cons, List.mem_nil_iff, or_false] at ht
      rcases ht with rfl | rfl
      · exact ⟨by kernel_rfl, of_decide_eq_true (by kernel_rfl)⟩
      · exact ⟨by kernel_rfl, of_decide_eq_true (by kernel_rfl)⟩) hlt hA1, rfl, hg.frame _, fun h => by cases h⟩

theorem over : Rows.editsInvertsRow.holds Try.pinned (OpenSpec.ofChange Rows.editsInvertsSpec) :=
  OpenClaim.holds_of_wide 7 Try.f7 rfl rfl rfl rfl rfl rfl rfl ⟨rfl, rfl, rfl, rfl, rfl⟩ rfl rfl rfl rfl rfl (by kernel_rfl) Try.func7 (by kernel_rfl)
    (of_decide_eq_true (by kernel_rfl)) (by unfold Func.isWrapper; first | (rw [if_pos (by decide +kernel)]; kernel_rfl) | (rw [if_neg (by decide +kernel)]; exact ⟨rfl, rfl⟩))
    (fun os started H enc _ => lifted os started H enc)

theorem proved : Rows.EditsInvertsSaid :=
  over
end Go.Proofs.Ytdiaghmkbplipaa.editsInverts
