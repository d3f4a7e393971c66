/- CodecReads: for every input the law's call returns true: TakeInt, TakeText and TakeTexts return the specified value or error. -/
import Derived.Test.YtdjphpobhbelaaaKArg
import Derived.Test.YtdjphpobhbelaaaKSame
namespace Go.Proofs.Ytdjphpobhbelaaa.codecReads
open Go.ChangeShapes Go.WideShapes Go.ChangeAt Go.RowKit
open Go.ChangeMaps (open_string shut_string)
set_option linter.unusedVariables false

set_option maxHeartbeats 4000000 in
set_option maxRecDepth 100000 in
theorem walk (A : Option Addr) (l : List UInt8) (c : Nat) (W : World) (hB : ByAt W W.heap.size A l) (hl : l.length ≤ c) (hm : c ≤ maxLen) :
    Calls Try.prog 4 #[.slice A l.length c] W fun e w' => e = .returned (.bool true) ∧ Below W.heap.size W w' := by
  by_cases hs : 200 < l.length
  · have t1 : decide ((200 : Int) < (l.length : Int)) = true := decide_eq_true (by omega)
    go_enter Try.func4, Try.ntmps4
    go_wp2_with fail
    refine (awake_c _).mono ?_
    rintro e w' ⟨rfl, hb⟩
    go_wp2_with fail
    go_ret
    exact ⟨rfl, hb⟩
  have hs1 : l.length ≤ 200 := by omega
  have t1 : decide ((200 : Int) < (l.length : Int)) = false := decide_eq_false (by omega)
  have hby : ∀ w, Below W.heap.size W w → ByAt w w.heap.size A l := fun w h => byAt_mono (byAt_below hB h (Nat.le_refl _)) h.size
  have c1 := fun w (h : Below W.heap.size W w) => takeInt_c A l c w (hby w h) ⟨hl, hm⟩ (by omega)
  have c2 := fun w (h : Below W.heap.size W w) => rtakeInt_c w.heap.size A l c w (hby w h) (by omega)
  have c3 := fun w (h : Below W.heap.size W w) => takeText_c A l c w (hby w h) ⟨hl, hm⟩ (by omega)
  have c4 := fun w (h : Below W.heap.size W w) => rtakeText_c w.heap.size A l c w (hby w h) (by omega) hl hm
  have c5 := fun w (h : Below W.heap.size W w) => takeTexts_c A l c w (hby w h) ⟨hl, hm⟩ (by omega)
  have c6 := fun w (h : Below W.heap.size W w) => rtakeTexts_c A l c w (hby w h) (by omega) hl hm
  generalize takeI l = TI at *
  generalize takeS l = TS at *
  generalize takeL l = TL at *
  obtain ⟨n, i, e⟩ := TI
  obtain ⟨s, k, g⟩ := TS
  obtain ⟨ss, x, u⟩ := TL
  simp only at c1 c2 c3 c4 c5 c6
  have C1 := Lib.hid c1; have C2 := Lib.hid c2; have C3 := Lib.hid c3; have C4 := Lib.hid c4; have C5 := Lib.hid c5; have C6 := Lib.hid c6
  clear c1 c2 c3 c4 c5 c6 hby hB
  have b1 : (n != n) = false := by simp
  have b2 : ((i : Int) != (i : Int)) = false := by simp
  have b3 : ((e : Int) != (e : Int)) = false := by simp
  have b4 : (s != s) = false := by simp
  have b5 : ((k : Int) != (k : Int)) = false := by simp
  have b6 : ((g : Int) != (g : Int)) = false := by simp
  go_enter Try.func4, Try.ntmps4
  go_wp2_with fail
  refine (C1.out _ (Below.refl _ _)).mono ?_
  rintro e w1 ⟨rfl, m1⟩
  go_wp2_with fail
  refine (C2.out _ m1).mono ?_
  rintro e w2 ⟨rfl, rfl⟩
  go_wp2_with fail
  refine (C3.out _ m1).mono ?_
  rintro e w2 ⟨rfl, m2⟩
  replace m2 := m1.trans (m2.mono m1.size)
  go_wp2_with fail
  refine (C4.out _ m2).mono ?_
  rintro e w3 ⟨rfl, rfl⟩
  go_wp2_with fail
  refine (C5.out _ m2).mono ?_
  rintro e w3 ⟨v5, rfl, o5, m3⟩
  have m3' := m2.trans (m3.mono m2.size)
  go_wp2_with fail
  refine (C6.out _ m3').mono ?_
  rintro e w4 ⟨v6, rfl, o6, m4⟩
  obtain ⟨A5, k5, rfl, s5, z5, z6⟩ := ownT_by o5
  obtain ⟨A6, k6, rfl, s6, _, _⟩ := ownT_by o6
  have s5' := sby_below s5 m4 (Nat.le_refl _)
  have m4' := m3'.trans (m4.mono m3'.size)
  have s5'' : SByAt w4 w4.heap.size A5 ss := by
    rcases s5' with h | ⟨b, off, h1, h2, h3⟩
    · exact .inl h
    · exact .inr ⟨b, off, h1, by have := m4.size; omega, h3⟩
  clear C1 C2 C3 C4 C5 C6 o5 o6 s5 s5'
  go_wp2_with fail
  refine (sameTexts_c A5 A6 ss k5 k6 w4 s5'' s6 (Nat.le_trans z5 z6)).mono ?_
  rintro e w5 ⟨rfl, m5⟩
  replace m5 := m4'.trans (m5.mono m4'.size)
  go_wp2_with fail
  refine (awake_c _).mono ?_
  rintro e w6 ⟨rfl, m6⟩
  go_wp2_with fail
  go_ret
  exact ⟨rfl, m5.trans (m6.mono m5.size)⟩

set_option maxRecDepth 100000 in
theorem lifted (os : Os) (started : os.Started) (H : Type) (enc : TypeId × Value → H) :
    ReturnsInHanded {} Try.checked os 4 .any (Rows.codecReadsSpec.pre6 enc Try.prog Try.f4 Rows.codecReadsRow.domain false) (Rows.codecReadsSpec.post enc Try.prog Try.f4 false true false false) := by
  refine returnsInHanded_of_change (C := Try.checked) own started (by kernel_rfl) Try.func4
    (ChangeSpec.witness6 (enc := enc) (C := Try.checked) false ⟨#[], #[.slice none 0 0], []⟩ 8 (by kernel_rfl) (by kernel_rfl) (by kernel_rfl) (by kernel_rfl)) ?_
  intro W base args ds gs before hval0 hW hcnd _
  have hval : ∀ (j : Nat) t v, Try.f4.params[j]? = some t → args[j]? = some v → Value.okWide Try.prog W .any base t v := hval0
  have hW' := hW
  obtain ⟨p, q, hA0, hV, rfl, hfz, hnd⟩ := hW
  have hA : DataW.TrodAll enc Try.prog W 0 (fun _ => true) true Try.f4.params.toList args.toList ds p := hA0
  have hA1 := hA
  rw [Try.params4] at hA hval
  obtain ⟨v0, vs0, d0, ds0, p0, q0, hargs, rfl, rfl, h0, r0⟩ := trodAll_cons hA
  obtain ⟨rfl, rfl, rfl⟩ := trodAll_nil r0
  obtain rfl : args = #[v0] := by cases args; simp_all
  obtain ⟨rfl, rfl⟩ := trodVars_none hV
  have hlt : ∀ x ∈ p0 ++ [], x.block < W.heap.size := fun x hx => hW'.lt x (List.mem_append_left _ hx)
  obtain ⟨A0, c0, l0, rfl, hB0, hl0, hm0⟩ := open_bytes (hval 0 22 v0 rfl rfl) h0
  clear hA0 hval0
  refine (walk A0 l0 c0 W hB0 hl0 hm0).mono fun e W' ⟨he, hg⟩ => ?_
  subst he
  exact ⟨_, rfl, _, [], _, [], _, [], hW', trodAll_cons_mk (shut_bool Try.underlying4 _) trodAll_mk0, trodAll_below laidOut hg _ _ _ _ (by
      rw [Try.params4]
      intro t ht
      obtain rfl := List.mem_singleton.1 ht
      · exact ⟨by kernel_rfl, of_decide_eq_true (by kernel_rfl)⟩) hlt hA1, rfl, hg.frame _, fun h => by cases h⟩

theorem over : Rows.codecReadsRow.holds Try.pinned (OpenSpec.ofChange Rows.codecReadsSpec) :=
  OpenClaim.holds_of_wide 4 Try.f4 rfl rfl rfl rfl rfl rfl rfl ⟨rfl, rfl, rfl, rfl, rfl⟩ rfl rfl rfl rfl rfl (by kernel_rfl) Try.func4 (by kernel_rfl)
    (of_decide_eq_true (by kernel_rfl)) (by unfold Func.isWrapper; first | (rw [if_pos (by decide +kernel)]; kernel_rfl) | (rw [if_neg (by decide +kernel)]; exact ⟨rfl, rfl⟩))
    (fun os started H enc _ => lifted os started H enc)

theorem proved : Rows.CodecReadsSaid :=
  over
end Go.Proofs.Ytdjphpobhbelaaa.codecReads
