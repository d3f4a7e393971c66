/- EditsShifts: for every string, list of edits and two offsets the law's call returns true: Shift agrees with the specification, and is monotonic. -/
import Derived.Test.YtdiaghmkbplipabEdArg
import Derived.Test.YtdiaghmkbplipabAwake
import Derived.Test.YtdiaghmkbplipabFew
import Derived.Test.YtdiaghmkbplipabArr2
import Derived.Test.YtdiaghmkbplipabRShift
namespace Go.Proofs.Ytdiaghmkbplipab.editsShifts
open Go.ChangeShapes Go.WideShapes Go.ChangeAt Go.RowKit
open Go.ChangeMaps (open_string shut_string)
set_option linter.unusedVariables false

set_option maxHeartbeats 2000000 in
theorem walk (s : ByteArray) (A : Option Addr) (c : Nat) (es : List Ed) (x y : Int) (w : World) (hs : s.size ≤ maxLen) (hA : EdAt w w.heap.size A es)
    (hr : ∀ e ∈ es, (-9223372036854775808 ≤ e.f ∧ e.f ≤ 9223372036854775807) ∧ (-9223372036854775808 ≤ e.t ∧ e.t ≤ 9223372036854775807) ∧ e.s.size ≤ maxLen) (hx : 0 ≤ x ∧ x ≤ 65535) (hy : 0 ≤ y ∧ y ≤ 65535) :
    Calls Try.prog 3 #[.string s, .slice A es.length c, .agg #[.int .u16 x, .int .u16 y]] w fun e w' => e = .returned (.bool true) ∧ Below w.heap.size w w' := by
  obtain ⟨x0, x1⟩ := hx
  obtain ⟨y0, y1⟩ := hy
  by_cases hf : Few s es
  · obtain ⟨f1, f2, f3⟩ := hf
    have he : EdOk es := ⟨f2, fun e hm => ⟨f3 e hm, (hr e hm).1.1, (hr e hm).1.2, (hr e hm).2.1.1, (hr e hm).2.1.2⟩⟩
    have HF := Lib.hid (fun W h => few_c s A c es W true ⟨fun _ => ⟨f1, f2, f3⟩, fun _ => rfl⟩ h)
    have H3 := Lib.hid (fun W h => valid_c s A c es W f1 he h)
    by_cases hv : valid s es = 0
    · have hall : ∀ e ∈ es, 0 ≤ e.f ∧ e.f ≤ e.t ∧ e.t ≤ 17000 := fun e hm => by have := valid_all hv e hm; omega
      have hmono : min x 16384 ≤ min y 16384 → shiftL (min x 16384) 0 es ≤ shiftL (min y 16384) 0 es := fun h => shift_mono_valid hv h
      have H1 := Lib.hid (fun W h => shift_c A c es (min x 16384) W (by omega) (by omega) he hall h)
      have H2 := Lib.hid (fun W h => shift_c A c es (min y 16384) W (by omega) (by omega) he hall h)
      have H4 := Lib.hid (fun W h => rshift_c A c es (min x 16384) W (by omega) (by omega) he hall h)
      have Hv := Lib.hid hv
      clear hv hr f3 hall
      generalize shiftL (min x 16384) 0 es = X at *
      generalize shiftL (min y 16384) 0 es = Y at *
      go_enter Try.func3, Try.ntmps3
      go_wp2_with fail
      have hb0 : Below w.heap.size w (w.alloc (.cells #[.int .u16 x, .int .u16 y] 24)) := (Below.refl _ _).alloc (Nat.le_refl _) _
      have hs0 : w.heap.size + 1 ≤ (w.alloc (.cells #[.int .u16 x, .int .u16 y] 24)).heap.size := by simp
      have hn := heap_alloc_new w (.cells #[.int .u16 x, .int .u16 y] 24)
      generalize w.alloc (.cells #[.int .u16 x, .int .u16 y] 24) = W0 at *
      have hA0 := (hA.below hb0).more (show w.heap.size ≤ W0.heap.size by omega)
      refine (HF.out _ hA0).mono ?_
      rintro e w0 ⟨rfl, rfl⟩
      go_wp2_with fail
      refine (H3.out _ hA0).mono ?_
      rintro e w1 ⟨rfl, hb1⟩
      have hz1 := hb1.size
      rw [Hv.out]
      have hn1 : w1.heap[w.heap.size]? = some (.cells #[.int .u16 x, .int .u16 y] 24 (0, 0)) := (hb1.block _ (by omega)).trans hn
      have c0 : w1.cell? ⟨w.heap.size, 0, none⟩ = some (.int .u16 x) := by rw [Lib.cell_of_heap hn1]; rfl
      have c1 : w1.cell? ⟨w.heap.size, 1, none⟩ = some (.int .u16 y) := by rw [Lib.cell_of_heap hn1]; rfl
      have u1 : IntKind.i64.wrap x = x := IntWalk.i64_in _ (by omega)
      have u2 : IntKind.i64.wrap y = y := IntWalk.i64_in _ (by omega)
      clear hn hn1
      go_wp2_with fail
      go_quiet (fail)
      go_wp2_with fail
      have hA1 := hA0.below hb1
      refine (H1.out _ ((hA1.drewN _).more (by simpa using hz1))).mono ?_
      rintro e w2 ⟨rfl, hb2⟩
      simp only [World.heap_drewN] at hb2
      have hz2 := hb2.size
      simp only [World.heap_drewN] at hz2
      clear c0 c1 u1 u2
      have hA2 : EdAt w2 W0.heap.size A es := (hA1.drewN _).below (hb2.mono hz1)
      go_wp2_with fail
      refine (H2.out _ (hA2.more (by omega))).mono ?_
      rintro e w3 ⟨rfl, hb3⟩
      have hz3 := hb3.size
      have hA3 : EdAt w3 W0.heap.size A es := hA2.below (hb3.mono (by omega))
      go_wp2_with fail
      refine (H4.out _ (hA3.more (by omega))).mono ?_
      rintro e w4 ⟨rfl, hb4⟩
      have hz4 := hb4.size
      have hb : Below w.heap.size w w4 := (((hb0.trans (hb1.mono (by omega))).trans ((below_drewN (Below.refl _ _) _).trans (hb2.mono (by omega)))).trans (hb3.mono (by omega))).trans (hb4.mono (by omega))
      by_cases q1 : min y 16384 < min x 16384
      · have d1 : decide (min y 16384 < min x 16384) = true := decide_eq_true q1
        clear hmono
        go_wp2_with fail
        refine (awake_c w4).mono ?_
        rintro e w' ⟨rfl, hb'⟩
        go_wp2
        go_ret
        exact ⟨rfl, hb.trans (hb'.mono (by omega))⟩
      · have d1 : decide (min y 16384 < min x 16384) = false := decide_eq_false q1
        have q2 := hmono (by omega)
        have d2 : decide (X ≤ Y) = true := decide_eq_true q2
        clear hmono
        go_wp2_with fail
        refine (awake_c w4).mono ?_
        rintro e w' ⟨rfl, hb'⟩
        go_wp2
        go_ret
        exact ⟨rfl, hb.trans (hb'.mono (by omega))⟩
    · have hv' : (valid s es != 0) = true := by simp [hv]
      clear hv hr f3
      generalize valid s es = v at *
      go_enter Try.func3, Try.ntmps3
      go_wp2_with fail
      have hb0 : Below w.heap.size w (w.alloc (.cells #[.int .u16 x, .int .u16 y] 24)) := (Below.refl _ _).alloc (Nat.le_refl _) _
      generalize w.alloc (.cells #[.int .u16 x, .int .u16 y] 24) = W0 at *
      have hA0 := (hA.below hb0).more hb0.size
      have hz0 := hb0.size
      refine (HF.out _ hA0).mono ?_
      rintro e w0 ⟨rfl, rfl⟩
      go_wp2_with fail
      refine (H3.out _ hA0).mono ?_
      rintro e w1 ⟨rfl, hb1⟩
      have hz1 := hb1.size
      go_wp2_with fail
      refine (awake_c w1).mono ?_
      rintro e w' ⟨rfl, hb'⟩
      go_wp2
      go_ret
      exact ⟨rfl, (hb0.trans (hb1.mono hz0)).trans (hb'.mono (by omega))⟩
  · have HF := Lib.hid (fun W h => few_c s A c es W false ⟨fun h => by simp at h, fun h => absurd h hf⟩ h)
    clear hr
    go_enter Try.func3, Try.ntmps3
    go_wp2_with fail
    have hb0 : Below w.heap.size w (w.alloc (.cells #[.int .u16 x, .int .u16 y] 24)) := (Below.refl _ _).alloc (Nat.le_refl _) _
    generalize w.alloc (.cells #[.int .u16 x, .int .u16 y] 24) = W0 at *
    have hA0 := (hA.below hb0).more hb0.size
    have hz0 := hb0.size
    refine (HF.out _ hA0).mono ?_
    rintro e w0 ⟨rfl, rfl⟩
    go_wp2_with fail
    refine (awake_c W0).mono ?_
    rintro e w' ⟨rfl, hb'⟩
    go_wp2
    go_ret
    exact ⟨rfl, hb0.trans (hb'.mono (by omega))⟩

set_option maxRecDepth 100000 in
theorem lifted (os : Os) (started : os.Started) (H : Type) (enc : TypeId × Value → H) :
    ReturnsInHanded {} Try.checked os 3 .any (Rows.editsShiftsSpec.pre6 enc Try.prog Try.f3 Rows.editsShiftsRow.domain false) (Rows.editsShiftsSpec.post enc Try.prog Try.f3 false true false false) := by
  refine returnsInHanded_of_change (C := Try.checked) own started (by kernel_rfl) Try.func3
    (ChangeSpec.witness6 (enc := enc) (C := Try.checked) false ⟨#[], #[.string ByteArray.empty, .slice none 0 0, .agg #[.int .u16 0, .int .u16 0]], []⟩ 8 (by kernel_rfl) (by kernel_rfl) (by kernel_rfl) (by kernel_rfl)) ?_
  intro W base args ds gs before hval0 hW hcnd _
  have hval : ∀ (j : Nat) t v, Try.f3.params[j]? = some t → args[j]? = some v → Value.okWide Try.prog W .any base t v := hval0
  have hW' := hW
  obtain ⟨p, q, hA0, hV, rfl, hfz, hnd⟩ := hW
  have hA : DataW.TrodAll enc Try.prog W 0 (fun _ => true) true Try.f3.params.toList args.toList ds p := hA0
  have hA1 := hA
  rw [Try.params3] at hA hval
  obtain ⟨v0, vs0, d0, ds0, p0, q0, hargs, rfl, rfl, h0, r0⟩ := trodAll_cons hA
  obtain ⟨v1, vs1, d1, ds1, p1, q1, rfl, rfl, rfl, h1, r1⟩ := trodAll_cons r0
  obtain ⟨v2, vs2, d2, ds2, p2, q2, rfl, rfl, rfl, h2, r2⟩ := trodAll_cons r1
  obtain ⟨rfl, rfl, rfl⟩ := trodAll_nil r2
  obtain rfl : args = #[v0, v1, v2] := by cases args; simp_all
  obtain ⟨rfl, rfl⟩ := trodVars_none hV
  have hlt : ∀ x ∈ p0 ++ (p1 ++ (p2 ++ [])), x.block < W.heap.size := fun x hx => hW'.lt x (List.mem_append_left _ hx)
  obtain ⟨a0, rfl, rfl, rfl, w0⟩ := open_string Try.underlying9 (hval 0 9 v0 rfl rfl) h0
  obtain ⟨A1, c1, es1, rfl, hE1, _, _, hr1⟩ := open_edits (hval 1 22 v1 rfl rfl) h1
  obtain ⟨x2, y2, rfl, hx2, hy2⟩ := open_arr2 (hval 2 24 v2 rfl rfl) h2
  clear hA0 hval0
  refine (walk a0 A1 c1 es1 x2 y2 W w0 hE1 hr1 hx2 hy2).mono fun e W' ⟨he, hg⟩ => ?_
  subst he
  exact ⟨_, rfl, _, [], _, [], _, [], hW', trodAll_cons_mk (shut_bool Try.underlying4 _) trodAll_mk0, trodAll_below laidOut hg _ _ _ _ (by
      rw [Try.params3]
      intro t ht
      simp only [List.mem_cons, List.mem_nil_iff, or_false] at ht
      rcases ht with rfl | rfl | rfl
      · exact ⟨by kernel_rfl, of_decide_eq_true (by kernel_rfl)⟩
      · exact ⟨by kernel_rfl, of_decide_eq_true (by kernel_rfl)⟩
      · exact ⟨by kernel_rfl, of_decide_eq_true (by kernel_rfl)⟩) hlt hA1, rfl, hg.frame _, fun h => by cases h⟩

theorem over : Rows.editsShiftsRow.holds Try.pinned (OpenSpec.ofChange Rows.editsShiftsSpec) :=
  OpenClaim.holds_of_wide 3 Try.f3 rfl rfl rfl rfl rfl rfl rfl ⟨rfl, rfl, rfl, rfl, rfl⟩ rfl rfl rfl rfl rfl (by kernel_rfl) Try.func3 (by kernel_rfl)
    (of_decide_eq_true (by kernel_rfl)) (by unfold Func.isWrapper; first | (rw [if_pos (by decide +kernel)]; kernel_rfl) | (rw [if_neg (by decide +kernel)]; exact ⟨rfl, rfl⟩))
    (fun os started H enc _ => lifted os started H enc)

theorem proved : Rows.EditsShiftsSaid :=
  over
end Go.Proofs.Ytdiaghmkbplipab.editsShifts
