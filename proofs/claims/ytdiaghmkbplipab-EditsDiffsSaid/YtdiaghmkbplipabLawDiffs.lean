/- EditsDiffs: for every two strings the law's call returns true: Diff agrees with the specification, and applying it to the first string gives the second one. -/
import Derived.Test.YtdiaghmkbplipabArgs
import Derived.Test.YtdiaghmkbplipabAwake
import Derived.Test.YtdiaghmkbplipabRDiff
import Derived.Test.YtdiaghmkbplipabSame
namespace Go.Proofs.Ytdiaghmkbplipab.editsDiffs
open Go.ChangeShapes Go.WideShapes Go.ChangeAt Go.RowKit
open Go.ChangeMaps (open_string shut_string)
set_option linter.unusedVariables false

theorem pre_take : ∀ a b : List UInt8, a.take (pre a b) = b.take (pre a b)
  | [], [] => rfl
  | [], _ :: _ => by simp [pre]
  | _ :: _, [] => by simp [pre]
  | x :: xs, y :: ys => by
    unfold pre
    split
    · rename_i h; subst h; simp [pre_take xs ys]
    · simp

theorem join_diff (A B : List UInt8) (F K : Nat) (hF : F = pre A B) (hK : K = pre (A.drop F).reverse (B.drop F).reverse) : A.take F ++ (B.drop F).take (B.length - K - F) ++ A.drop (A.length - K) = B := by
  have h1 := pre_take A B
  have h2 := pre_take (A.drop F).reverse (B.drop F).reverse
  have hd := pre_le A B
  have hk := pre_le (A.drop F).reverse (B.drop F).reverse
  rw [← hF] at h1 hd
  rw [← hK] at h2 hk
  simp only [List.length_reverse, List.length_drop] at hk
  rw [List.take_reverse, List.take_reverse] at h2
  have h3 := List.reverse_inj.1 h2
  rw [List.length_drop, List.length_drop, List.drop_drop, List.drop_drop] at h3
  rw [show F + (A.length - F - K) = A.length - K from by omega, show F + (B.length - F - K) = B.length - K from by omega] at h3
  rw [h1, h3, List.append_assoc, show B.length - K = F + (B.length - K - F) from by omega, ← List.drop_drop]
  rw [show F + (B.length - K - F) - F = B.length - K - F from by omega, List.take_append_drop, List.take_append_drop]

/-- The one edit that Diff gives. -/
def dEd (a b : ByteArray) : Ed := ⟨dfrom a b, ((a.size - dback a b : Nat) : Int), b.extract (dfrom a b) (b.size - dback a b)⟩

theorem d_bounds (a b : ByteArray) : dfrom a b + dback a b ≤ a.size ∧ dfrom a b + dback a b ≤ b.size := by
  have hla : a.data.toList.length = a.size := by simp
  have hlb : b.data.toList.length = b.size := by simp
  have hd := pre_le a.data.toList b.data.toList
  have hbk := pre_le (a.data.toList.drop (dfrom a b)).reverse (b.data.toList.drop (dfrom a b)).reverse
  simp only [List.length_reverse, List.length_drop, hla, hlb] at hbk hd
  unfold dback
  unfold dfrom at *
  omega

theorem d_size (a b : ByteArray) : (dEd a b).s.size = b.size - dback a b - dfrom a b := by
  have := d_bounds a b
  have h : (b.extract (dfrom a b) (b.size - dback a b)).size = min (b.size - dback a b) b.size - dfrom a b := by simp
  simp only [dEd, h]
  omega

theorem d_valid (a b : ByteArray) : valid a [dEd a b] = if 16384 < b.size then 3 else 0 := by
  have h := d_bounds a b
  have hs := d_size a b
  have hf : (dEd a b).f = dfrom a b := rfl
  have ht : (dEd a b).t = ((a.size - dback a b : Nat) : Int) := rfl
  unfold valid
  rw [if_neg (by simp), vloop, if_neg (by rw [hf, ht]; omega), if_neg (by rw [hf]; omega), vloop]
  unfold Ed.grow
  rw [hs, hf, ht]
  split <;> split <;> omega

theorem d_apply (a b : ByteArray) (h : b.size ≤ 16384) : apply a [dEd a b] = b := by
  have hv := d_valid a b
  rw [if_neg (by omega)] at hv
  have hb := d_bounds a b
  have hla : a.data.toList.length = a.size := by simp
  have hlb : b.data.toList.length = b.size := by simp
  have hj := join_diff a.data.toList b.data.toList (dfrom a b) (dback a b) rfl rfl
  unfold apply
  rw [if_pos hv]
  apply bytes_inj
  simp only [applL, dEd, Int.toNat_natCast, Lib.extract_data, List.drop_zero, Nat.sub_zero]
  rw [hla, hlb] at hj
  exact hj

theorem n_valid (a : ByteArray) : valid a [] = if 16384 < a.size then 3 else 0 := by
  unfold valid
  rw [if_neg (by simp), vloop]
  split <;> split <;> omega
theorem n_apply (a : ByteArray) : apply a [] = a := by
  unfold apply
  split
  · apply bytes_inj; simp [applL]
  · rfl

theorem one_at (w : World) (B g : Nat) (e : Ed) (hg : g < B) (h : w.heap[g]? = some (.cells #[.int .i64 e.f, .int .i64 e.t, .string e.s] 37 (0, 0))) : EdAt w B (some ⟨g, 0, none⟩) [e] := by
  intro _
  refine ⟨g, 0, rfl, hg, fun i x hx => ?_⟩
  match i, hx with
  | 0, hx => simp at hx; subst hx; refine ⟨?_, ?_, ?_⟩ <;> (rw [Lib.cell_of_heap h]; rfl)
  | n + 1, hx => simp at hx


theorem diff_nil (a : ByteArray) (w : World) : Calls Try.prog 10 #[.string a, .string a] w fun e w' => e = .returned (.slice none 0 0) ∧ w = w' := by
  have t0 : (a.toList == a.toList) = true := by simp
  go_enter Try.func10, Try.ntmps10
  go_wp2_with fail
  go_ret
  exact ⟨rfl, rfl⟩
theorem rdiff_nil (a : ByteArray) (w : World) : Calls Try.prog 12 #[.string a, .string a] w fun e w' => e = .returned (.slice none 0 0) ∧ w = w' := by
  have t0 : (a.toList == a.toList) = true := by simp
  go_enter Try.func12, Try.ntmps12
  go_wp2_with fail
  go_ret
  exact ⟨rfl, rfl⟩

set_option maxHeartbeats 2000000 in
theorem walk (a0 a1 : ByteArray) (w : World) (w0 : a0.size ≤ maxLen) (w1 : a1.size ≤ maxLen) :
    Calls Try.prog 4 #[.string a0, .string a1] w fun e w' => e = .returned (.bool true) ∧ Below w.heap.size w w' := by
  unfold maxLen at w0 w1
  by_cases h5 : 17000 < a0.size
  · have d1 : decide ((17000 : Int) < (a0.size : Int)) = true := decide_eq_true (by omega)
    go_enter Try.func4, Try.ntmps4
    go_wp2_with fail
    refine (awake_c w).mono ?_
    rintro e w' ⟨rfl, hb⟩
    go_wp2
    go_ret
    exact ⟨rfl, hb⟩
  by_cases h6 : 17000 < a1.size
  · have d1 : decide ((17000 : Int) < (a0.size : Int)) = false := decide_eq_false (by omega)
    have d2 : decide ((17000 : Int) < (a1.size : Int)) = true := decide_eq_true (by omega)
    go_enter Try.func4, Try.ntmps4
    go_wp2_with fail
    refine (awake_c w).mono ?_
    rintro e w' ⟨rfl, hb⟩
    go_wp2
    go_ret
    exact ⟨rfl, hb⟩
  have d1 : decide ((17000 : Int) < (a0.size : Int)) = false := decide_eq_false (by omega)
  have d2 : decide ((17000 : Int) < (a1.size : Int)) = false := decide_eq_false (by omega)
  obtain ⟨b1, b2⟩ := d_bounds a0 a1
  have hsz := d_size a0 a1
  have hfin : a1.size ≤ 16384 → ∀ (W : World) (A : Option Addr) (c : Nat) (es : List Ed), (a0 ≠ a1 ∧ es = [dEd a0 a1] ∨ a0 = a1 ∧ es = []) → EdAt W W.heap.size A es →
      Calls Try.prog 13 #[.string a0, .slice A es.length c] W fun e w' => e = .returned (.tuple #[.string a1, .int .i64 0]) ∧ Below W.heap.size W w' := by
    intro hle W A c es hes hA
    have h1 : apply a0 es = a1 ∧ valid a0 es = 0 ∧ EdOk es := by
      rcases hes with ⟨_, rfl⟩ | ⟨rfl, rfl⟩
      · refine ⟨d_apply a0 a1 hle, by rw [d_valid, if_neg (by omega)], by simp, fun e he => ?_⟩
        simp at he
        subst he
        refine ⟨by omega, ?_, ?_, ?_, ?_⟩ <;> simp only [dEd] <;> omega
      · exact ⟨n_apply a0, by rw [n_valid, if_neg (by omega)], by simp, by simp⟩
    have := apply_c a0 A c es W (by omega) h1.2.2 hA
    rw [h1.1, h1.2.1] at this
    exact this
  have hbig : ∀ (W : World) (A : Option Addr) (c : Nat) (es : List Ed), (a0 ≠ a1 ∧ es = [dEd a0 a1] ∨ a0 = a1 ∧ es = []) → EdAt W W.heap.size A es →
      Calls Try.prog 13 #[.string a0, .slice A es.length c] W fun e w' => ∃ t v, e = .returned (.tuple #[.string t, .int .i64 v]) ∧ Below W.heap.size W w' := by
    intro W A c es hes hA
    refine (apply_c a0 A c es W (by omega) ?_ hA).mono fun e w' h => ⟨_, _, h⟩
    rcases hes with ⟨_, rfl⟩ | ⟨rfl, rfl⟩
    · refine ⟨by simp, fun e he => ?_⟩
      simp at he
      subst he
      refine ⟨by omega, ?_, ?_, ?_, ?_⟩ <;> simp only [dEd] <;> omega
    · exact ⟨by simp, by simp⟩
  have Hfin := Lib.hid hfin
  have Hbig := Lib.hid hbig
  clear hfin hbig hsz b1 b2
  by_cases hab : a0 = a1
  · subst hab
    go_enter Try.func4, Try.ntmps4
    go_wp2_with fail
    refine (diff_nil a0 w).mono ?_
    rintro e w2 ⟨rfl, rfl⟩
    go_wp2_with fail
    refine (rdiff_nil a0 w).mono ?_
    rintro e w3 ⟨rfl, rfl⟩
    go_wp2_with fail
    refine (same_c none none 0 0 [] w (by simp) (fun h => by simp at h) (fun h => by simp at h)).mono ?_
    rintro e w4 ⟨rfl, hb4⟩
    have hz4 := hb4.size
    by_cases q : 16384 < a0.size
    · have e1 : decide ((16384 : Int) < (a0.size : Int)) = true := decide_eq_true (by omega)
      go_wp2_with fail
      refine (Hbig.out w4 none 0 [] (.inr (by simp)) (fun h => by simp at h)).mono ?_
      rintro e w5 ⟨t, v, rfl, hb5⟩
      have hz5 := hb5.size
      go_wp2_with fail
      refine (awake_c w5).mono ?_
      rintro e w' ⟨rfl, hb'⟩
      go_wp2
      go_ret
      exact ⟨rfl, (hb4.trans (hb5.mono (by omega))).trans (hb'.mono (by omega))⟩
    · have e1 : decide ((16384 : Int) < (a0.size : Int)) = false := decide_eq_false (by omega)
      go_wp2_with fail
      refine (Hfin.out (by omega) w4 none 0 [] (.inr (by simp)) (fun h => by simp at h)).mono ?_
      rintro e w5 ⟨rfl, hb5⟩
      have hz5 := hb5.size
      go_wp2_with fail
      refine (awake_c w5).mono ?_
      rintro e w' ⟨rfl, hb'⟩
      go_wp2
      go_ret
      exact ⟨rfl, (hb4.trans (hb5.mono (by omega))).trans (hb'.mono (by omega))⟩
  · have H1 := Lib.hid (fun W => diff_c a0 a1 W (by omega) (by omega) hab)
    have H2 := Lib.hid (fun W => rdiff_c a0 a1 W (by omega) (by omega) hab)
    have Hab := Lib.hid hab
    clear hab
    go_enter Try.func4, Try.ntmps4
    go_wp2_with fail
    refine (H1.out w).mono ?_
    rintro e w2 ⟨g, rfl, g1, g2, g3, hb2⟩
    have hz2 := hb2.size
    have hA := one_at w2 w2.heap.size g (dEd a0 a1) g2 g3
    have G1 := Lib.hid g1
    clear g1 g2 g3
    go_wp2_with fail
    refine (H2.out w2).mono ?_
    rintro e w3 ⟨g', rfl, g1', g2', g3', hb3⟩
    have hz3 := hb3.size
    have hA3 := (hA.below hb3).more hz3
    have hA3' := one_at w3 w3.heap.size g' (dEd a0 a1) g2' g3'
    clear g1' g2' g3'
    go_wp2_with fail
    refine (same_c (some ⟨g, 0, none⟩) (some ⟨g', 0, none⟩) 1 1 [dEd a0 a1] w3 (by simp) hA3 hA3').mono ?_
    rintro e w4 ⟨rfl, hb4⟩
    have hz4 := hb4.size
    have hA4 := (hA3.below hb4).more hz4
    by_cases q : 16384 < a1.size
    · have e1 : decide ((16384 : Int) < (a1.size : Int)) = true := decide_eq_true (by omega)
      go_wp2_with fail
      refine (Hbig.out w4 (some ⟨g, 0, none⟩) 1 [dEd a0 a1] (.inl ⟨Hab.out, rfl⟩) hA4).mono ?_
      rintro e w5 ⟨t, v, rfl, hb5⟩
      have hz5 := hb5.size
      go_wp2_with fail
      refine (awake_c w5).mono ?_
      rintro e w' ⟨rfl, hb'⟩
      go_wp2
      go_ret
      exact ⟨rfl, (((hb2.trans (hb3.mono hz2)).trans (hb4.mono (by omega))).trans (hb5.mono (by omega))).trans (hb'.mono (by omega))⟩
    · have e1 : decide ((16384 : Int) < (a1.size : Int)) = false := decide_eq_false (by omega)
      go_wp2_with fail
      refine (Hfin.out (by omega) w4 (some ⟨g, 0, none⟩) 1 [dEd a0 a1] (.inl ⟨Hab.out, rfl⟩) hA4).mono ?_
      rintro e w5 ⟨rfl, hb5⟩
      have hz5 := hb5.size
      go_wp2_with fail
      refine (awake_c w5).mono ?_
      rintro e w' ⟨rfl, hb'⟩
      go_wp2
      go_ret
      exact ⟨rfl, (((hb2.trans (hb3.mono hz2)).trans (hb4.mono (by omega))).trans (hb5.mono (by omega))).trans (hb'.mono (by omega))⟩

set_option maxRecDepth 100000 in
theorem lifted (os : Os) (started : os.Started) (H : Type) (enc : TypeId × Value → H) :
    ReturnsInHanded {} Try.checked os 4 .any (Rows.editsDiffsSpec.pre6 enc Try.prog Try.f4 Rows.editsDiffsRow.domain false) (Rows.editsDiffsSpec.post enc Try.prog Try.f4 false true false false) := by
  refine returnsInHanded_of_change (C := Try.checked) own started (by kernel_rfl) Try.func4
    (ChangeSpec.witness6 (enc := enc) (C := Try.checked) false ⟨#[], #[.string ByteArray.empty, .string ByteArray.empty], []⟩ 8 (by kernel_rfl) (by kernel_rfl) (by kernel_rfl) (by kernel_rfl)) ?_
  intro W base args ds gs before hval0 hW hcnd _
  have hval : ∀ (j : Nat) t v, Try.f4.params[j]? = some t → args[j]? = some v → Value.okWide Try.prog W .any base t v := hval0
  have hW' := hW
  obtain ⟨p, q, hA0, hV, rfl, hfz, hnd⟩ := hW
  have hA : DataW.TrodAll enc Try.prog W 0 (fun _ => true) true Try.f4.params.toList args.toList ds p := hA0
  have hA1 := hA
  rw [Try.params4] at hA hval
  obtain ⟨v0, vs0, d0, ds0, p0, q0, hargs, rfl, rfl, h0, r0⟩ := trodAll_cons hA
  obtain ⟨v1, vs1, d1, ds1, p1, q1, rfl, rfl, rfl, h1, r1⟩ := trodAll_cons r0
  obtain ⟨rfl, rfl, rfl⟩ := trodAll_nil r1
  obtain rfl : args = #[v0, v1] := by cases args; simp_all
  obtain ⟨rfl, rfl⟩ := trodVars_none hV
  have hlt : ∀ x ∈ p0 ++ (p1 ++ []), x.block < W.heap.size := fun x hx => hW'.lt x (List.mem_append_left _ hx)
  obtain ⟨a0, rfl, rfl, rfl, w0⟩ := open_string Try.underlying9 (hval 0 9 v0 rfl rfl) h0
  obtain ⟨a1, rfl, rfl, rfl, w1⟩ := open_string Try.underlying9 (hval 1 9 v1 rfl rfl) h1
  clear hA0 hval0
  refine (walk a0 a1 W w0 w1).mono fun e W' ⟨he, hg⟩ => ?_
  subst he
  exact ⟨_, rfl, _, [], _, [], _, [], hW', trodAll_cons_mk (shut_bool Try.underlying4 _) trodAll_mk0, trodAll_below laidOut hg _ _ _ _ (by
      rw [Try.params4]
      intro t ht
      simp only [List.mem_cons, List.mem_nil_iff, or_false] at ht
      rcases ht with rfl | rfl
      · exact ⟨by kernel_rfl, of_decide_eq_true (by kernel_rfl)⟩
      · exact ⟨by kernel_rfl, of_decide_eq_true (by kernel_rfl)⟩) hlt hA1, rfl, hg.frame _, fun h => by cases h⟩

theorem over : Rows.editsDiffsRow.holds Try.pinned (OpenSpec.ofChange Rows.editsDiffsSpec) :=
  OpenClaim.holds_of_wide 4 Try.f4 rfl rfl rfl rfl rfl rfl rfl ⟨rfl, rfl, rfl, rfl, rfl⟩ rfl rfl rfl rfl rfl (by kernel_rfl) Try.func4 (by kernel_rfl)
    (of_decide_eq_true (by kernel_rfl)) (by unfold Func.isWrapper; first | (rw [if_pos (by decide +kernel)]; kernel_rfl) | (rw [if_neg (by decide +kernel)]; exact ⟨rfl, rfl⟩))
    (fun os started H enc _ => lifted os started H enc)

theorem proved : Rows.EditsDiffsSaid :=
  over
end Go.Proofs.Ytdiaghmkbplipab.editsDiffs
