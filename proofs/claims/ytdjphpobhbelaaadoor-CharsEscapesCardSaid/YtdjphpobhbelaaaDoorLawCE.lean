/- CharsEscapes: for every input the law's call returns true: Escape agrees with the specification, returns bytes from 32 to 126 only, and is inverted by Unescape. The listed tables hold what the program's text lays; the row's other named variable may hold anything. -/
import Derived.Test.YtdjphpobhbelaaaDoorCardB
namespace Go.Proofs.YtdjphpobhbelaaaDoor.charsEscapes
open Go.ChangeShapes Go.WideShapes Go.ChangeAt Go.RowKit
open Go.ChangeMaps (open_string shut_string)
set_option linter.unusedVariables false

set_option maxHeartbeats 4000000 in
set_option maxRecDepth 100000 in
theorem walk (s : ByteArray) (W : World) (ws : s.size ≤ maxLen) (hE : Env W W.heap.size) :
    Calls Tryd.prog 8 #[.string s] W fun e w' => e = .returned (.bool true) ∧ Below W.heap.size W w' := by
  have HE := Lib.hid hE
  clear hE
  by_cases hs : 500 < s.size
  · have t1 : decide ((500 : Int) < (s.size : Int)) = true := decide_eq_true (by omega)
    go_enter Tryd.func8, Tryd.ntmps8
    go_wp2_with fail
    refine (awake_c _ HE.out).mono ?_
    rintro e w' ⟨rfl, hb⟩
    go_wp2_with fail
    go_ret
    exact ⟨rfl, hb⟩
  have hs1 : s.size ≤ 500 := by omega
  have hss : s.data.toList.length = s.size := rfl
  have t1 : decide ((500 : Int) < (s.size : Int)) = false := decide_eq_false (by omega)
  have hel := escL_len s.data.toList
  have c1 := fun w hE => escape_c s w (by omega) hE
  have c2 := fun w => rEscape_c s w (by omega)
  have c3 : ∀ w, Calls Tryd.prog 22 #[.string ⟨(escL s.data.toList).toArray⟩] w fun e w' => e = .returned (.tuple #[.string s, .int .i64 0]) ∧ Below w.heap.size w w' := fun w => by
    have h := unescape_c ⟨(escL s.data.toList).toArray⟩ w (by show (escL s.data.toList).toArray.size ≤ 3000; rw [List.size_toArray]; omega)
    rw [show (⟨(escL s.data.toList).toArray⟩ : ByteArray).data.toList = escL s.data.toList from by simp, un_escL, back] at h
    exact h
  have hrg : ∀ i (h : i < (⟨(escL s.data.toList).toArray⟩ : ByteArray).size), 32 ≤ ((⟨(escL s.data.toList).toArray⟩ : ByteArray)[i]'h).toNat ∧ ((⟨(escL s.data.toList).toArray⟩ : ByteArray)[i]'h).toNat ≤ 126 := by
    intro i h
    have h' : i < (escL s.data.toList).length := by simpa [ByteArray.size] using h
    have e : (⟨(escL s.data.toList).toArray⟩ : ByteArray)[i]'h = (escL s.data.toList)[i]'h' := by
      show (escL s.data.toList).toArray[i] = _
      simp
    rw [e]
    exact escL_range _ _ (List.getElem_mem h')
  have hts : (⟨(escL s.data.toList).toArray⟩ : ByteArray).size ≤ 2000 := by show (escL s.data.toList).toArray.size ≤ 2000; rw [List.size_toArray]; omega
  clear hel
  generalize (⟨(escL s.data.toList).toArray⟩ : ByteArray) = T at *
  have C1 := Lib.hid c1; have C2 := Lib.hid c2; have C3 := Lib.hid c3; have Hrg := Lib.hid hrg
  clear c1 c2 c3 hrg
  go_enter Tryd.func8, Tryd.ntmps8
  go_wp2_with fail
  refine (C1.out _ HE.out).mono ?_
  rintro e w1 ⟨rfl, m1⟩
  go_wp2_with fail
  go_loop [4] (fun iv => ∃ k : Nat, k ≤ T.size ∧ iv = .int .i64 k) (fun iv => T.size - (intOf iv).toNat)
  case atStart => exact ⟨0, by omega, rfl⟩
  case round =>
    obtain ⟨k, hk, rfl⟩ := hrel
    by_cases hlt : k < T.size
    · have i1 : (k : Int) < (T.size : Int) := by omega
      have d1 : decide ((k : Int) < (T.size : Int)) = true := decide_eq_true i1
      have n1 : decide (k < T.size) = true := decide_eq_true hlt
      obtain ⟨r1, r2⟩ := Hrg.out k hlt
      have u1 : decide ((T[k]'hlt).toNat < 32) = false := decide_eq_false (by omega)
      have u2 : decide (((T[k]'hlt).toNat : Int) < 32) = false := decide_eq_false (by omega)
      have u3 : decide (126 < (T[k]'hlt).toNat) = false := decide_eq_false (by omega)
      have u4 : decide ((126 : Int) < ((T[k]'hlt).toNat : Int)) = false := decide_eq_false (by omega)
      go_wp2_with fail
      go_round
      case rel => exact ⟨k + 1, by omega, by go_num⟩
      case measure => simp [intOf]; omega
    · have hks : k = T.size := by omega
      subst hks
      have d1 : decide ((T.size : Int) < (T.size : Int)) = false := decide_eq_false (by omega)
      clear Hrg
      go_wp2_with fail
      refine (C3.out _).mono ?_
      rintro e w2 ⟨rfl, m2⟩
      replace m2 := m1.trans (m2.mono m1.size)
      go_wp2_with fail
      refine (C2.out _).mono ?_
      rintro e w3 ⟨rfl, m3⟩
      replace m3 := m2.trans (m3.mono m2.size)
      go_wp2_with fail
      refine (awake_c _ (HE.out.next m3)).mono ?_
      rintro e w4 ⟨rfl, m4⟩
      go_wp2_with fail
      go_ret
      exact ⟨rfl, m3.trans (m4.mono m3.size)⟩

theorem laid_eq : Rows.charsEscapesRow.laid = laidL := rfl
theorem witness_row (os : Os) {H : Type} (enc : TypeId × Value → H) :
    (OpenSpec.ofChange Rows.charsEscapesSpec).preRow enc Tryd.prog Tryd.f8 Rows.charsEscapesRow.domain false Rows.charsEscapesRow.laid ((laidWorld os).forCall (fun _ _ => 0) ⟨#[], #[.string ⟨#[]⟩], []⟩).memory #[.string ⟨#[]⟩] := by
  have hw : (DataW.whole enc Tryd.prog ((laidWorld os).forCall (fun _ _ => 0) ⟨#[], #[.string ⟨#[]⟩], []⟩).memory Tryd.f8.params.toList (OpenSpec.ofChange Rows.charsEscapesSpec).vars false (#[.string ⟨#[]⟩] : Array Value).toList 8).map (fun x => (x.1, x.2.1)) =
      some ([.lit (.string [])], []) := by kernel_rfl
  obtain ⟨⟨x1, x2, x3⟩, hx, hx1⟩ := Option.map_eq_some_iff.1 hw
  simp only [Prod.mk.injEq] at hx1
  obtain ⟨rfl, rfl⟩ := hx1
  exact OpenSpec.preRow_of_cond 8 hx (by kernel_rfl) (fun k hk => by cases hk) (by kernel_rfl) (by rw [laid_eq]; exact laid_met os _)
set_option maxRecDepth 100000 in
set_option maxHeartbeats 2000000 in
theorem lifted (os : Os) (started : os.Started) (H : Type) (enc : TypeId × Value → H) (F : Stop.Interp) :
    ReturnsInHanded {} Tryd.checked os 8 .any ((OpenSpec.ofChange Rows.charsEscapesSpec).preRow enc Tryd.prog Tryd.f8 Rows.charsEscapesRow.domain false Rows.charsEscapesRow.laid) (((OpenSpec.ofChange Rows.charsEscapesSpec).at F).post enc Tryd.prog Tryd.f8 false true false false) := by
  refine returnsInHanded_of_row (C := Tryd.checked) (s := OpenSpec.ofChange Rows.charsEscapesSpec) own started (by kernel_rfl) Tryd.func8
    (witness_row_at (enc := enc) (C := Tryd.checked) false (laidWorld os) #[.string ⟨#[]⟩] rfl (by kernel_rfl) (by kernel_rfl) (by kernel_rfl) (witness_row os enc)) ?_
  intro W base args ds gs before hval0 hW _ _ _ hL hsh _
  have hE := env_of hL hsh
  have hval : ∀ (j : Nat) t v, Tryd.f8.params[j]? = some t → args[j]? = some v → Value.okWide Tryd.prog W .any base t v := hval0
  have hW' := hW
  obtain ⟨p, q, hA0, hV, rfl, hfz, hnd⟩ := hW
  have hA : DataW.TrodAll enc Tryd.prog W 0 (fun _ => true) true Tryd.f8.params.toList args.toList ds p := hA0
  have hA1 := hA
  rw [Tryd.params8] at hA hval
  obtain ⟨v0, vs0, d0, ds0, p0, q0, hargs, rfl, rfl, h0, r0⟩ := trodAll_cons hA
  obtain ⟨rfl, rfl, rfl⟩ := trodAll_nil r0
  obtain rfl : args = #[v0] := by cases args; simp_all
  obtain ⟨rfl, rfl⟩ := trodVars_none hV
  have hlt : ∀ x ∈ p0 ++ [], x.block < W.heap.size := fun x hx => hW'.lt x (List.mem_append_left _ hx)
  obtain ⟨a0, rfl, rfl, rfl, w0⟩ := open_string Tryd.underlying9 (hval 0 9 v0 rfl rfl) h0
  clear hA0 hval0
  refine (walk a0 W w0 hE).mono fun e W' ⟨he, hg⟩ => ?_
  subst he
  exact ⟨_, rfl, _, [], _, [], _, [], hW', trodAll_cons_mk (shut_bool Tryd.underlying4 _) trodAll_mk0, trodAll_below laidOut hg _ _ _ _ (by
      rw [Tryd.params8]
      intro t ht
      obtain rfl := List.mem_singleton.1 ht
      · exact ⟨by kernel_rfl, of_decide_eq_true (by kernel_rfl)⟩) hlt hA1, rfl, hg.frame _, fun h => by cases h⟩

theorem said : Rows.CharsEscapesSaid :=
  OpenClaim.holds_of_cond 8 Tryd.f8 rfl rfl rfl rfl rfl rfl rfl ⟨rfl, rfl, rfl, rfl, rfl⟩ rfl rfl rfl rfl rfl (by kernel_rfl) Tryd.func8 (by kernel_rfl)
    (of_decide_eq_true (by kernel_rfl)) (by unfold Func.isWrapper; first | (rw [if_pos (by decide +kernel)]; kernel_rfl) | (rw [if_neg (by decide +kernel)]; exact ⟨rfl, rfl⟩))
    (fun os started H enc _ F => by rw [OpenClaim.pre_eq_preRow]; exact lifted os started H enc F)
theorem plain (f : FuncId) (fn : Func) (hf : Tryd.pinned.checked.prog.funcNamed "jobshell/jobshelllaw01.CharsEscapes" = some f) (hfn : Tryd.pinned.checked.prog.funcs[f]? = some fn) :
    false = Tryd.pinned.checked.prog.looks [] ∧ ∀ (j : Nat) t, fn.params[j]? = some t → Tryd.pinned.checked.prog.wantsStandIn t = false := by
  obtain rfl : f = 8 := Option.some.inj ((show Tryd.prog.funcNamed "jobshell/jobshelllaw01.CharsEscapes" = some 8 by kernel_rfl).symm.trans hf) |>.symm
  obtain rfl : fn = Tryd.f8 := (Option.some.inj (Tryd.func8.symm.trans hfn)).symm
  refine ⟨by kernel_rfl, fun j t ht => ?_⟩
  rw [Tryd.params8] at ht
  obtain rfl : t = 9 := by simpa using Array.mem_of_getElem? ht
  exact (show Tryd.prog.wantsStandIn 9 = false by kernel_rfl)

theorem card : Rows.CharsEscapesCardSaid :=
  Claim7.holds_tied_plain_at .later [] _ _ _ _ said (fun _ h => by cases h) (by kernel_rfl) (fun _ h => by cases h) charsEscapes_row_tie rfl ⟨rfl, rfl⟩ (by kernel_rfl) rfl plain (by kernel_rfl)
#print axioms card
end Go.Proofs.YtdjphpobhbelaaaDoor.charsEscapes
