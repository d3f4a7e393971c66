/- EditsPlaces: for every string and every offset the law's call returns true: Place and Offset agree with the specification, and Offset inverts Place. -/
import Derived.Test.YtdiaghmkbplipaaPost
import Derived.Test.YtdiaghmkbplipaaAwake
import Derived.Test.YtdiaghmkbplipaaRPlace
namespace Go.Proofs.Ytdiaghmkbplipaa.editsPlaces
open Go.ChangeShapes Go.WideShapes Go.ChangeAt Go.RowKit
open Go.ChangeMaps (open_string shut_string)
set_option linter.unusedVariables false

theorem spans_ne (l : List UInt8) (st p : Nat) : spans l st p ≠ [] := by
  intro h
  have := congrArg List.length h
  revert this
  induction l generalizing st p with
  | nil => simp [spans]
  | cons c r ih =>
    rw [spans_cons] at h ⊢
    split
    · simp
    · rename_i hc
      rw [if_neg hc] at h
      exact ih _ _ h

theorem spans_append : ∀ (l m : List UInt8) (st p d : Nat), spans (l ++ m) st p = (spans l st p).dropLast ++ spans m (lastOf (spans l st p) d) (p + l.length)
  | [], m, st, p, d => by simp [spans, lastOf]
  | c :: r, m, st, p, d => by
    rw [List.cons_append, spans_cons, spans_cons]
    by_cases h : c = 10
    · rw [if_pos h, if_pos h, spans_append r m (p + 1) (p + 1) st, List.dropLast_cons_of_ne_nil (spans_ne _ _ _), List.cons_append]
      simp only [lastOf, List.length_cons]
      rw [show p + 1 + r.length = p + (r.length + 1) from by omega]
    · rw [if_neg h, if_neg h, spans_append r m st (p + 1) d, List.length_cons, show p + 1 + r.length = p + (r.length + 1) from by omega]

theorem offL_skip (line col : Int) : ∀ (A B : List (Nat × Nat)) (c : Nat), ((c + A.length : Nat) : Int) < line → offL line col (A ++ B) c = offL line col B (c + A.length)
  | [], B, c, _ => rfl
  | (a, b) :: A, B, c, h => by
    simp only [List.length_cons] at h
    rw [List.cons_append, offL, if_neg (by omega), offL_skip line col A B (c + 1) (by omega), List.length_cons, show c + 1 + A.length = c + (A.length + 1) from by omega]

theorem spans_head : ∀ (l : List UInt8) (st p : Nat), ∃ b r, spans l st p = (st, b) :: r ∧ p ≤ b
  | [], st, p => ⟨p, [], rfl, Nat.le_refl _⟩
  | c :: r, st, p => by
    rw [spans_cons]
    split
    · exact ⟨p, _, rfl, Nat.le_refl _⟩
    · obtain ⟨b, r', e, h⟩ := spans_head r st (p + 1)
      exact ⟨b, r', e, by omega⟩

theorem offset_place (s : ByteArray) (c : Nat) (hc : c ≤ s.size) : offset s (placeL s c) (placeC s c) = ((c : Int), 0) := by
  have hlen : s.data.toList.length = s.size := by simp
  have hl := lastOf_le (s.data.toList.take c) 0 0 0 (by omega) (by omega)
  rw [List.length_take, hlen, Nat.min_eq_left hc] at hl
  unfold offset
  have e : spans s.data.toList 0 0 = spans (s.data.toList.take c ++ s.data.toList.drop c) 0 0 := by rw [List.take_append_drop]
  rw [e, spans_append _ _ 0 0 0, List.length_take, hlen, Nat.min_eq_left hc]
  have hpos := List.length_pos_iff.2 (spans_ne (s.data.toList.take c) 0 0)
  unfold placeL placeC
  rw [offL_skip _ _ _ _ _ (by rw [List.length_dropLast]; omega), List.length_dropLast]
  obtain ⟨b, r, eb, hb⟩ := spans_head (s.data.toList.drop c) (lastOf (spans (s.data.toList.take c) 0 0) 0) (0 + c)
  rw [eb, offL, if_pos (by omega), if_pos (by omega)]
  congr 1
  omega

theorem offset_small (s : ByteArray) (c : Nat) (hc : c ≤ s.size) (hs : s.size ≤ 17000) : (placeL s c : Int) ≤ 20000 ∧ 0 ≤ placeC s c ∧ placeC s c ≤ 20000 := by
  have hlen : s.data.toList.length = s.size := by simp
  have hl := lastOf_le (s.data.toList.take c) 0 0 0 (by omega) (by omega)
  have h2 := spans_length (s.data.toList.take c) 0 0
  rw [List.length_take, hlen, Nat.min_eq_left hc] at hl h2
  unfold placeC placeL
  omega

set_option maxHeartbeats 2000000 in
theorem walk (a0 : ByteArray) (a1 : Int) (w0 : a0.size ≤ maxLen) (w1 : (Lit.int .i64 a1).wf = true) (w : World) :
    Calls Try.prog 3 #[.string a0, .int .i64 a1] w fun e w' => e = .returned (.bool true) ∧ Below w.heap.size w w' := by
  unfold maxLen at w0
  obtain ⟨b1, b2⟩ := bounds_i64 w1
  by_cases h5 : 17000 < a0.size
  · go_enter Try.func3, Try.ntmps3
    go_wp2_with fail
    refine (awake_c w).mono ?_
    rintro e w' ⟨rfl, hb⟩
    go_wp2
    go_ret
    exact ⟨rfl, hb⟩
  · have hcl : clampAt a0 a1 ≤ a0.size := by unfold clampAt; omega
    have hin : 0 ≤ a1 → a1 ≤ a0.size → ((clampAt a0 a1 : Nat) : Int) = a1 := by unfold clampAt; omega
    have hop := offset_place a0 (clampAt a0 a1) hcl
    obtain ⟨hp1, hp2, hp3⟩ := offset_small a0 (clampAt a0 a1) hcl (by omega)
    have hP := fun W => place_c a0 a1 W (by omega) b1 b2
    have hR := fun W => rplace_c a0 a1 W (by omega) b1 b2
    have HP := Lib.hid hP; have HR := Lib.hid hR
    clear hP hR
    generalize placeL a0 (clampAt a0 a1) = L at *
    generalize placeC a0 (clampAt a0 a1) = C at *
    generalize clampAt a0 a1 = c at *
    have Hop := Lib.hid hop; have Hin := Lib.hid hin
    clear hop hin
    go_enter Try.func3, Try.ntmps3
    go_wp2_with fail
    refine (HP.out _).mono ?_
    rintro e w2 ⟨rfl, hb2⟩
    go_wp2_with fail
    refine (HR.out _).mono ?_
    rintro e w3 ⟨rfl, hb3⟩
    go_wp2_with fail
    refine (offset_c a0 L C _ (by omega) (by omega) (by omega) (by omega) (by omega)).mono ?_
    rintro e w4 ⟨rfl, hb4⟩
    rw [Hop.out]
    have hz2 := hb2.size; have hz3 := hb3.size; have hz4 := hb4.size
    have hb : Below w.heap.size w w4 := (hb2.trans (hb3.mono hz2)).trans (hb4.mono (by omega))
    by_cases q1 : a1 < 0
    · have d1 : decide (a1 < 0) = true := decide_eq_true q1
      go_wp2_with fail
      refine (awake_c w4).mono ?_
      rintro e w' ⟨rfl, hb'⟩
      go_wp2
      go_ret
      exact ⟨rfl, hb.trans (hb'.mono (by omega))⟩
    · by_cases q2 : (a0.size : Int) < a1
      · have d1 : decide (a1 < 0) = false := decide_eq_false q1
        have d2 : decide ((a0.size : Int) < a1) = true := decide_eq_true q2
        go_wp2_with fail
        refine (awake_c w4).mono ?_
        rintro e w' ⟨rfl, hb'⟩
        go_wp2
        go_ret
        exact ⟨rfl, hb.trans (hb'.mono (by omega))⟩
      · have d1 : decide (a1 < 0) = false := decide_eq_false q1
        have d2 : decide ((a0.size : Int) < a1) = false := decide_eq_false q2
        rw [Hin.out (by omega) (by omega)]
        go_wp2_with fail
        refine (awake_c w4).mono ?_
        rintro e w' ⟨rfl, hb'⟩
        go_wp2
        go_ret
        exact ⟨rfl, hb.trans (hb'.mono (by omega))⟩

set_option maxRecDepth 100000 in
theorem lifted (os : Os) (started : os.Started) (H : Type) (enc : TypeId × Value → H) :
    ReturnsInHanded {} Try.checked os 3 .any (Rows.editsPlacesSpec.pre6 enc Try.prog Try.f3 Rows.editsPlacesRow.domain false) (Rows.editsPlacesSpec.post enc Try.prog Try.f3 false true false false) := by
  refine returnsInHanded_of_change (C := Try.checked) own started (by kernel_rfl) Try.func3
    (ChangeSpec.witness6 (enc := enc) (C := Try.checked) false ⟨#[], #[.string ByteArray.empty, .int .i64 0], []⟩ 8 (by kernel_rfl) (by kernel_rfl) (by kernel_rfl) (by kernel_rfl)) ?_
  intro W base args ds gs before hval0 hW hcnd _
  have hval : ∀ (j : Nat) t v, Try.f3.params[j]? = some t → args[j]? = some v → Value.okWide Try.prog W .any base t v := hval0
  have hW' := hW
  obtain ⟨p, q, hA0, hV, rfl, hfz, hnd⟩ := hW
  have hA : DataW.TrodAll enc Try.prog W 0 (fun _ => true) true Try.f3.params.toList args.toList ds p := hA0
  rw [Try.params3] at hA hval
  obtain ⟨v0, vs0, d0, ds0, p0, q0, hargs, rfl, rfl, h0, r0⟩ := trodAll_cons hA
  obtain ⟨v1, vs1, d1, ds1, p1, q1, rfl, rfl, rfl, h1, r1⟩ := trodAll_cons r0
  obtain ⟨rfl, rfl, rfl⟩ := trodAll_nil r1
  obtain rfl : args = #[v0, v1] := by cases args; simp_all
  obtain ⟨rfl, rfl⟩ := trodVars_none hV
  obtain ⟨a0, rfl, rfl, rfl, w0⟩ := open_string Try.underlying9 (hval 0 9 v0 rfl rfl) h0
  obtain ⟨a1, rfl, rfl, rfl, w1⟩ := open_int Try.underlying3 (hval 1 3 v1 rfl rfl) h1
  clear hA0 hval0
  simp only [List.append_nil] at hW'
  refine (walk a0 a1 w0 w1 W).mono fun e W' ⟨he, hg⟩ => ?_
  subst he
  exact ⟨_, rfl, post_below (pa := []) (pv := []) hW' (fun _ _ _ => (trodAll_cons_mk (shut_bool Try.underlying4 _) trodAll_mk0)) (fun sp _ => (trodAll_cons_mk (shut_string Try.underlying9 w0) (trodAll_cons_mk (shut_int Try.underlying3 w1) trodAll_mk0))) (fun _ _ => rfl) rfl
    hg (ok_one (by kernel_rfl) rfl (okWide_bool_mk Try.underlying4 _))⟩

theorem over : Rows.editsPlacesRow.holds Try.pinned (OpenSpec.ofChange Rows.editsPlacesSpec) :=
  OpenClaim.holds_of_wide 3 Try.f3 rfl rfl rfl rfl rfl rfl rfl ⟨rfl, rfl, rfl, rfl, rfl⟩ rfl rfl rfl rfl rfl (by kernel_rfl) Try.func3 (by kernel_rfl)
    (of_decide_eq_true (by kernel_rfl)) (by unfold Func.isWrapper; first | (rw [if_pos (by decide +kernel)]; kernel_rfl) | (rw [if_neg (by decide +kernel)]; exact ⟨rfl, rfl⟩))
    (fun os started H enc _ => lifted os started H enc)

theorem proved : Rows.EditsPlacesSaid :=
  over
end Go.Proofs.Ytdiaghmkbplipaa.editsPlaces
