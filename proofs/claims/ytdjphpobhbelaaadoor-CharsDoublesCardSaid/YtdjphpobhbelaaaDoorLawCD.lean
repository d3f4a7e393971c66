/- CharsDoubles: for every input the law's call returns true: a string in double quotes, with each dollar, backquote, double quote and backslash escaped, represents itself. The listed tables hold what the program's text lays; the row's other named variable may hold anything. -/
import Derived.Test.YtdjphpobhbelaaaDoorCardB
namespace Go.Proofs.YtdjphpobhbelaaaDoor.charsDoubles
open Go.ChangeShapes Go.WideShapes Go.ChangeAt Go.RowKit
open Go.ChangeMaps (open_string shut_string)
set_option linter.unusedVariables false

set_option maxHeartbeats 4000000 in
set_option maxRecDepth 100000 in
theorem walk (s : ByteArray) (W : World) (ws : s.size ≤ maxLen) (hE : Env W W.heap.size) :
    Calls Tryd.prog 7 #[.string s] W fun e w' => e = .returned (.bool true) ∧ Below W.heap.size W w' := by
  have HE := Lib.hid hE
  clear hE
  by_cases hs : 1000 < s.size
  · have t1 : decide ((1000 : Int) < (s.size : Int)) = true := decide_eq_true (by omega)
    go_enter Tryd.func7, Tryd.ntmps7
    go_wp2_with fail
    refine (awake_c _ HE.out).mono ?_
    rintro e w' ⟨rfl, hb⟩
    go_wp2_with fail
    go_ret
    exact ⟨rfl, hb⟩
  have hs1 : s.size ≤ 1000 := by omega
  have z92 : (⟨#[92]⟩ : ByteArray).size = 1 := rfl
  have t1 : decide ((1000 : Int) < (s.size : Int)) = false := decide_eq_false (by omega)
  go_enter Tryd.func7, Tryd.ntmps7
  go_wp2_with fail
  go_loop [3, 4] (fun qv iv => ∃ (k : Nat) (q : ByteArray), k ≤ s.size ∧ iv = .int .i64 k ∧ qv = .string q ∧ q.size ≤ 2 * k + 1 ∧ Hid (q.data.toList = 34 :: (s.data.toList.take k).flatMap dblB)) (fun _ iv => s.size - (intOf iv).toNat)
  case atStart => exact ⟨0, ⟨#[34]⟩, by omega, rfl, rfl, Nat.le_refl _, Lib.hid (by simp)⟩
  case round =>
    obtain ⟨k, q, hk, rfl, rfl, hqs, hx⟩ := hrel
    by_cases hlt : k < s.size
    · have i1 : (k : Int) < (s.size : Int) := by omega
      have i2 : (k : Int) ≤ (k : Int) + 1 := by omega
      have i3 : (k : Int) + 1 ≤ (s.size : Int) := by omega
      have d1 : decide ((k : Int) < (s.size : Int)) = true := decide_eq_true i1
      have n1 : decide (k < s.size) = true := decide_eq_true hlt
      have hl : k < s.data.toList.length := hlt
      have htk : s.data.toList.take (k + 1) = s.data.toList.take k ++ [s[k]'hlt] := by
        rw [List.take_add_one, List.getElem?_eq_getElem hl]; rfl
      have hone : s.extract k (k + 1) = ⟨#[s[k]'hlt]⟩ := by
        rw [← back (s.extract k (k + 1)), Lib.extract_data, List.drop_eq_getElem_cons hl, show k + 1 - k = 1 from by omega]
        rfl
      have hz : (s.extract k (k + 1)).size = 1 := by rw [hone]; rfl
      have hi := esc_iff (s[k]'hlt).toNat (UInt8.toNat_lt _)
      have hq1 : dblB (s[k]'hlt) = (if among escS (s[k]'hlt).toNat = true then [92] else []) ++ [s[k]'hlt] := by
        unfold dblB
        split <;> rfl
      have hx1 : among escS (s[k]'hlt).toNat = true → Hid ((q ++ ⟨#[92]⟩ ++ s.extract k (k + 1)).data.toList = 34 :: (s.data.toList.take (k + 1)).flatMap dblB) := fun h => Lib.hid (by
        rw [htk, List.flatMap_append, ← List.cons_append, ← hx.out, hone]
        simp [hq1, h])
      have hx2 : ¬ among escS (s[k]'hlt).toNat = true → Hid ((q ++ s.extract k (k + 1)).data.toList = 34 :: (s.data.toList.take (k + 1)).flatMap dblB) := fun h => Lib.hid (by
        rw [htk, List.flatMap_append, ← List.cons_append, ← hx.out, hone]
        simp [hq1, h])
      clear htk hone hq1
      have hz1 : (s.extract k (k + 1)).size ≤ 1 := by omega
      by_cases c1 : (s[k]'hlt).toNat = 36
      · have hx3 := hx1 (hi.2 (by omega))
        have u1 : (((s[k]'hlt).toNat : Int) == 36) = true := by rw [beq_iff_eq]; omega
        have v1 : ((s[k]'hlt).toNat == 36) = true := by rw [beq_iff_eq]; omega
        clear hx1 hx2 hi
        go_wp2_with fail
        all_goals go_round
        all_goals first | exact ⟨k + 1, _, by omega, by go_num, rfl, by rw [ByteArray.size_append, ByteArray.size_append, z92]; omega, hx3⟩ | exact ⟨k + 1, _, by omega, by go_num, rfl, by rw [ByteArray.size_append]; omega, hx3⟩ | (simp [intOf]; omega)
      have u1 : (((s[k]'hlt).toNat : Int) == 36) = false := by rw [beq_eq_false_iff_ne]; omega
      have v1 : ((s[k]'hlt).toNat == 36) = false := by rw [beq_eq_false_iff_ne]; omega
      by_cases c2 : (s[k]'hlt).toNat = 96
      · have hx3 := hx1 (hi.2 (by omega))
        have u2 : (((s[k]'hlt).toNat : Int) == 96) = true := by rw [beq_iff_eq]; omega
        have v2 : ((s[k]'hlt).toNat == 96) = true := by rw [beq_iff_eq]; omega
        clear hx1 hx2 hi
        go_wp2_with fail
        all_goals go_round
        all_goals first | exact ⟨k + 1, _, by omega, by go_num, rfl, by rw [ByteArray.size_append, ByteArray.size_append, z92]; omega, hx3⟩ | exact ⟨k + 1, _, by omega, by go_num, rfl, by rw [ByteArray.size_append]; omega, hx3⟩ | (simp [intOf]; omega)
      have u2 : (((s[k]'hlt).toNat : Int) == 96) = false := by rw [beq_eq_false_iff_ne]; omega
      have v2 : ((s[k]'hlt).toNat == 96) = false := by rw [beq_eq_false_iff_ne]; omega
      by_cases c3 : (s[k]'hlt).toNat = 34
      · have hx3 := hx1 (hi.2 (by omega))
        have u3 : (((s[k]'hlt).toNat : Int) == 34) = true := by rw [beq_iff_eq]; omega
        have v3 : ((s[k]'hlt).toNat == 34) = true := by rw [beq_iff_eq]; omega
        clear hx1 hx2 hi
        go_wp2_with fail
        all_goals go_round
        all_goals first | exact ⟨k + 1, _, by omega, by go_num, rfl, by rw [ByteArray.size_append, ByteArray.size_append, z92]; omega, hx3⟩ | exact ⟨k + 1, _, by omega, by go_num, rfl, by rw [ByteArray.size_append]; omega, hx3⟩ | (simp [intOf]; omega)
      have u3 : (((s[k]'hlt).toNat : Int) == 34) = false := by rw [beq_eq_false_iff_ne]; omega
      have v3 : ((s[k]'hlt).toNat == 34) = false := by rw [beq_eq_false_iff_ne]; omega
      by_cases c4 : (s[k]'hlt).toNat = 92
      · have hx3 := hx1 (hi.2 (by omega))
        have u4 : (((s[k]'hlt).toNat : Int) == 92) = true := by rw [beq_iff_eq]; omega
        have v4 : ((s[k]'hlt).toNat == 92) = true := by rw [beq_iff_eq]; omega
        clear hx1 hx2 hi
        go_wp2_with fail
        all_goals go_round
        all_goals first | exact ⟨k + 1, _, by omega, by go_num, rfl, by rw [ByteArray.size_append, ByteArray.size_append, z92]; omega, hx3⟩ | exact ⟨k + 1, _, by omega, by go_num, rfl, by rw [ByteArray.size_append]; omega, hx3⟩ | (simp [intOf]; omega)
      have u4 : (((s[k]'hlt).toNat : Int) == 92) = false := by rw [beq_eq_false_iff_ne]; omega
      have v4 : ((s[k]'hlt).toNat == 92) = false := by rw [beq_eq_false_iff_ne]; omega
      have hx3 := hx2 (fun h => by have := hi.1 h; omega)
      clear hx1 hx2 hi
      go_wp2_with fail
      all_goals go_round
      all_goals first | exact ⟨k + 1, _, by omega, by go_num, rfl, by rw [ByteArray.size_append, ByteArray.size_append, z92]; omega, hx3⟩ | exact ⟨k + 1, _, by omega, by go_num, rfl, by rw [ByteArray.size_append]; omega, hx3⟩ | (simp [intOf]; omega)
    · have hks : k = s.size := by omega
      subst hks
      have d1 : decide ((s.size : Int) < (s.size : Int)) = false := decide_eq_false (by omega)
      have c1 : ∀ w, Calls Tryd.prog 19 #[.string (q ++ ⟨#[34]⟩)] w fun e w' => e = .returned (.tuple #[.string s, .int .i64 0]) ∧ Below w.heap.size w w' := fun w => by
        have h := unquote_c (q ++ ⟨#[34]⟩) w (by rw [ByteArray.size_append]; have : (⟨#[34]⟩ : ByteArray).size = 1 := rfl; omega)
        have e : (q ++ ⟨#[34]⟩ : ByteArray).data.toList = 34 :: (s.data.toList.flatMap dblB ++ [34]) := by
          rw [ByteArray.data_append, Array.toList_append, hx.out, show s.data.toList.take s.size = s.data.toList from List.take_of_length_le (Nat.le_refl _)]
          rfl
        rw [e, unq_double] at h
        rw [back] at h
        exact h
      have C1 := Lib.hid c1
      clear c1 hx
      have hz : q.size ≤ 2001 := by omega
      go_wp2_with fail
      refine (C1.out _).mono ?_
      rintro e w1 ⟨rfl, m1⟩
      go_wp2_with fail
      refine (awake_c _ (HE.out.next m1)).mono ?_
      rintro e w4 ⟨rfl, m4⟩
      go_wp2_with fail
      go_ret
      exact ⟨rfl, m1.trans (m4.mono m1.size)⟩

theorem laid_eq : Rows.charsDoublesRow.laid = laidL := rfl
theorem witness_row (os : Os) {H : Type} (enc : TypeId × Value → H) :
    (OpenSpec.ofChange Rows.charsDoublesSpec).preRow enc Tryd.prog Tryd.f7 Rows.charsDoublesRow.domain false Rows.charsDoublesRow.laid ((laidWorld os).forCall (fun _ _ => 0) ⟨#[], #[.string ⟨#[]⟩], []⟩).memory #[.string ⟨#[]⟩] := by
  have hw : (DataW.whole enc Tryd.prog ((laidWorld os).forCall (fun _ _ => 0) ⟨#[], #[.string ⟨#[]⟩], []⟩).memory Tryd.f7.params.toList (OpenSpec.ofChange Rows.charsDoublesSpec).vars false (#[.string ⟨#[]⟩] : Array Value).toList 8).map (fun x => (x.1, x.2.1)) =
      some ([.lit (.string [])], []) := by kernel_rfl
  obtain ⟨⟨x1, x2, x3⟩, hx, hx1⟩ := Option.map_eq_some_iff.1 hw
  simp only [Prod.mk.injEq] at hx1
  obtain ⟨rfl, rfl⟩ := hx1
  exact OpenSpec.preRow_of_cond 8 hx (by kernel_rfl) (fun k hk => by cases hk) (by kernel_rfl) (by rw [laid_eq]; exact laid_met os _)
set_option maxRecDepth 100000 in
set_option maxHeartbeats 2000000 in
theorem lifted (os : Os) (started : os.Started) (H : Type) (enc : TypeId × Value → H) (F : Stop.Interp) :
    ReturnsInHanded {} Tryd.checked os 7 .any ((OpenSpec.ofChange Rows.charsDoublesSpec).preRow enc Tryd.prog Tryd.f7 Rows.charsDoublesRow.domain false Rows.charsDoublesRow.laid) (((OpenSpec.ofChange Rows.charsDoublesSpec).at F).post enc Tryd.prog Tryd.f7 false true false false) := by
  refine returnsInHanded_of_row (C := Tryd.checked) (s := OpenSpec.ofChange Rows.charsDoublesSpec) own started (by kernel_rfl) Tryd.func7
    (witness_row_at (enc := enc) (C := Tryd.checked) false (laidWorld os) #[.string ⟨#[]⟩] rfl (by kernel_rfl) (by kernel_rfl) (by kernel_rfl) (witness_row os enc)) ?_
  intro W base args ds gs before hval0 hW _ _ _ hL hsh _
  have hE := env_of hL hsh
  have hval : ∀ (j : Nat) t v, Tryd.f7.params[j]? = some t → args[j]? = some v → Value.okWide Tryd.prog W .any base t v := hval0
  have hW' := hW
  obtain ⟨p, q, hA0, hV, rfl, hfz, hnd⟩ := hW
  have hA : DataW.TrodAll enc Tryd.prog W 0 (fun _ => true) true Tryd.f7.params.toList args.toList ds p := hA0
  have hA1 := hA
  rw [Tryd.params7] at hA hval
  obtain ⟨v0, vs0, d0, ds0, p0, q0, hargs, rfl, rfl, h0, r0⟩ := trodAll_cons hA
  obtain ⟨rfl, rfl, rfl⟩ := trodAll_nil r0
  obtain rfl : args = #[v0] := by cases args; simp_all
  obtain ⟨rfl, rfl⟩ := trodVars_none hV
  have hlt : ∀ x ∈ p0 ++ [], x.block < W.heap.size := fun x hx => hW'.lt x (List.mem_append_left _ hx)
  obtain ⟨a0, rfl, rfl, rfl, w0⟩ := open_string Tryd.underlying9 (hval 0 9 v0 rfl rfl) h0
  clear hA0 hval0
  refine (walk a0 W w0 hE).mono fun e W' ⟨he, hg⟩ => ?_
  subst he
  exact ⟨_, rfl, _, [], _, [], _, [], hW', trodAll_cons_mk (shut_bool Tryd.underlying4 _) trodAll_mk0, trodAll_below laidOut hg _ _ _ _ (by
      rw [Tryd.params7]
      intro t ht
      obtain rfl := List.mem_singleton.1 ht
      · exact ⟨by kernel_rfl, of_decide_eq_true (by kernel_rfl)⟩) hlt hA1, rfl, hg.frame _, fun h => by cases h⟩

theorem said : Rows.CharsDoublesSaid :=
  OpenClaim.holds_of_cond 7 Tryd.f7 rfl rfl rfl rfl rfl rfl rfl ⟨rfl, rfl, rfl, rfl, rfl⟩ rfl rfl rfl rfl rfl (by kernel_rfl) Tryd.func7 (by kernel_rfl)
    (of_decide_eq_true (by kernel_rfl)) (by unfold Func.isWrapper; first | (rw [if_pos (by decide +kernel)]; kernel_rfl) | (rw [if_neg (by decide +kernel)]; exact ⟨rfl, rfl⟩))
    (fun os started H enc _ F => by rw [OpenClaim.pre_eq_preRow]; exact lifted os started H enc F)
theorem plain (f : FuncId) (fn : Func) (hf : Tryd.pinned.checked.prog.funcNamed "jobshell/jobshelllaw01.CharsDoubles" = some f) (hfn : Tryd.pinned.checked.prog.funcs[f]? = some fn) :
    false = Tryd.pinned.checked.prog.looks [] ∧ ∀ (j : Nat) t, fn.params[j]? = some t → Tryd.pinned.checked.prog.wantsStandIn t = false := by
  obtain rfl : f = 7 := Option.some.inj ((show Tryd.prog.funcNamed "jobshell/jobshelllaw01.CharsDoubles" = some 7 by kernel_rfl).symm.trans hf) |>.symm
  obtain rfl : fn = Tryd.f7 := (Option.some.inj (Tryd.func7.symm.trans hfn)).symm
  refine ⟨by kernel_rfl, fun j t ht => ?_⟩
  rw [Tryd.params7] at ht
  obtain rfl : t = 9 := by simpa using Array.mem_of_getElem? ht
  exact (show Tryd.prog.wantsStandIn 9 = false by kernel_rfl)

theorem card : Rows.CharsDoublesCardSaid :=
  Claim7.holds_tied_plain_at .later [] _ _ _ _ said (fun _ h => by cases h) (by kernel_rfl) (fun _ h => by cases h) charsDoubles_row_tie rfl ⟨rfl, rfl⟩ (by kernel_rfl) rfl plain (by kernel_rfl)
#print axioms card
end Go.Proofs.YtdjphpobhbelaaaDoor.charsDoubles
