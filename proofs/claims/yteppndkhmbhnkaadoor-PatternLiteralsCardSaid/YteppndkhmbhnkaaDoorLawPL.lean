/- PatternLiterals: for every input the law's call returns true: Literal and Special answer as the reference does, for any pattern and runs. The listed tables hold what the program's text lays; the row's other named variable may hold anything. -/
import Derived.Test.YteppndkhmbhnkaaDoorPLc
import Derived.Test.YteppndkhmbhnkaaDoorPCardB
import Derived.Test.YteppndkhmbhnkaaDoorPArg
namespace Go.Proofs.YteppndkhmbhnkaaDoor
open Go.RowKit
set_option linter.unusedVariables false

theorem textL_len (is : List It) (ho : ∀ x ∈ is, ItOk x) (hl : is.length ≤ 1000000) (k : Nat) : (textL (is.take k)).length ≤ 1000000000000 := by
  have key : ∀ l : List It, (∀ x ∈ l, x.t.length ≤ 1000000) → (textL l).length ≤ l.length * 1000000 := by
    intro l
    induction l with
    | nil => intro _; exact Nat.le_refl _
    | cons x l ih =>
      intro h
      have e : textL (x :: l) = x.t ++ textL l := by unfold textL; rw [List.flatMap_cons]
      have h1 := ih (fun y hy => h y (List.mem_cons_of_mem _ hy))
      have h2 := h x List.mem_cons_self
      rw [e, List.length_append, List.length_cons]
      omega
  have h1 := key (is.take k) (fun x hx => (ho x (List.mem_of_mem_take hx)).2)
  have h2 : (is.take k).length ≤ 1000000 := by rw [List.length_take]; omega
  omega
set_option maxHeartbeats 8000000 in
set_option maxRecDepth 100000 in
theorem refLiteral_c (A : Option Addr) (is : List It) (c : Nat) (w : World) (hp : PatAt w w.heap.size A is) (ho : ∀ x ∈ is, ItOk x) (hl : is.length ≤ 1000000) :
    Calls Tryd.prog 30 #[.slice A is.length c] w fun e w' => e = .returned (.tuple #[.string ⟨(litL is).1.toArray⟩, .bool (litL is).2]) ∧ Below w.heap.size w w' := by
  have hval := Lib.hid (refValid_c A is c w hp ho hl)
  have HP := Lib.hid hp
  have HL : Hid (litL is = if is.any inv = true then ([], false) else if is.any spec = true then ([], false) else (textL is, true)) := Lib.hid rfl
  generalize litL is = R at *
  have Htl : Hid (∀ k, (textL (is.take k)).length ≤ 1000000000000 ∧ ∀ x ∈ is, x.t.length ≤ 1000000) := Lib.hid (fun k => ⟨textL_len is ho hl k, fun x hx => (ho x hx).2⟩)
  clear hp ho
  go_enter Tryd.func30, Tryd.ntmps30
  go_wp2_with fail
  go_loop [4, 5] (fun ov iv => ∃ k : Nat, iv = .int .i64 k ∧ k ≤ is.length ∧ ov = .string ⟨(textL (is.take k)).toArray⟩ ∧ Hid ((is.take k).any spec = false)) (fun _ iv => is.length - (intOf iv).toNat)
  case atStart => exact ⟨0, rfl, by omega, rfl, Lib.hid rfl⟩
  case round =>
    obtain ⟨k, rfl, hk, rfl, hx⟩ := hrel
    by_cases hlt : k < is.length
    · have d1 : decide ((k : Int) < (is.length : Int)) = true := decide_eq_true (by omega)
      have d1' : decide (k < is.length) = true := decide_eq_true hlt
      obtain ⟨b, off, rfl, hbl, hcell⟩ : ∃ b off, A = some ⟨b, off, none⟩ ∧ b < w.heap.size ∧ ∀ k (h : k < is.length), ∃ sv, w.cell? ⟨b, off + k * 4, none⟩ = some (.int .i64 (is[k]'h).k) ∧ w.cell? ⟨b, off + k * 4 + 1, none⟩ = some (.string ⟨(is[k]'h).t.toArray⟩) ∧ w.cell? ⟨b, off + k * 4 + 2, none⟩ = some (.bool (is[k]'h).neg) ∧ w.cell? ⟨b, off + k * 4 + 3, none⟩ = some sv ∧ SpAt w w.heap.size sv (is[k]'h).set := by
        rcases HP.out with rfl | h
        · simp at hlt
        · exact h
      obtain ⟨sv, x0, x1, _, _, _⟩ := hcell k hlt
      have hsn := textL_snoc hlt
      have htk : is.take (k + 1) = is.take k ++ [is[k]'hlt] := by rw [List.take_add_one, List.getElem?_eq_getElem hlt]; rfl
      have hmem := List.getElem_mem hlt
      have hnext : (is[k]'hlt).k = 1 → Hid ((is.take (k + 1)).any spec = false) := fun h1 => Lib.hid (by
        rw [htk, List.any_append, hx.out]
        simp [spec, h1])
      have hstop : (is[k]'hlt).k ≠ 1 → R = ([], false) := fun h1 => by
        rw [HL.out]
        have : is.any spec = true := List.any_eq_true.2 ⟨_, hmem, by simp [spec, h1]⟩
        rw [this]
        simp
      have hcat : (⟨(textL (is.take k)).toArray⟩ : ByteArray) ++ ⟨(is[k]'hlt).t.toArray⟩ = ⟨(textL (is.take (k + 1))).toArray⟩ := by
        rw [hsn]
        apply ByteArray.ext
        simp
      have hkI : (k : Int) < (is.length : Int) := by omega
      have Hcat := Lib.hid hcat
      have t1 := (Htl.out k).1
      have t2 := (Htl.out k).2 _ (List.getElem_mem hlt)
      generalize is[k]'hlt = q at *
      obtain ⟨qk, qt, qn, qs⟩ := q
      simp only at x0 x1 hnext hstop Hcat t2
      clear hcell hx hsn htk hmem hcat
      by_cases h1 : qk = 1
      · subst h1
        have hn := hnext rfl
        clear hnext hstop
        go_wp2_with fail
        go_round
        case rel => exact ⟨k + 1, by go_num, by omega, by rw [Hcat.out], hn⟩
        case measure => simp [intOf]; omega
      · have e1 : (qk != 1) = true := by rw [bne_iff_ne]; exact h1
        have e1' : (qk == 1) = false := by rw [beq_eq_false_iff_ne]; exact h1
        have hR := hstop h1
        subst hR
        clear hnext hstop h1
        go_wp2_with fail
        exact bodyPost_ret (results_tmp2 rfl _ _ _) rfl ⟨rfl, Below.refl _ _⟩
    · have hke : k = is.length := by omega
      have d1 : decide ((k : Int) < (is.length : Int)) = false := decide_eq_false (by omega)
      have d1' : decide (k < is.length) = false := decide_eq_false hlt
      have hx2 := hx.out
      rw [hke, List.take_length] at hx2
      have hR : R = if is.any inv = true then ([], false) else (textL is, true) := by rw [HL.out, hx2]; simp
      have hte : textL (is.take k) = textL is := by rw [hke, List.take_length]
      rw [hte]
      have HR := Lib.hid hR
      clear hx hx2 hR hte HL hke
      rcases hany : is.any inv with _ | _
      · rw [hany] at hval HR
        have hR : R = (textL is, true) := HR.out
        subst hR
        clear HR
        go_wp2_with fail
        refine hval.out.mono ?_
        rintro e w7 ⟨rfl, m7⟩
        go_wp2_with fail
        exact bodyPost_ret (results_tmp2 rfl _ _ _) rfl ⟨rfl, m7⟩
      · rw [hany] at hval HR
        have hR : R = ([], false) := HR.out
        subst hR
        clear HR
        go_wp2_with fail
        refine hval.out.mono ?_
        rintro e w7 ⟨rfl, m7⟩
        go_wp2_with fail
        exact bodyPost_ret (results_tmp2 rfl _ _ _) rfl ⟨rfl, m7⟩
theorem litL_spec (rs : List Rn) : (!(litL (compileL rs)).2) = (compileL rs).any spec := by
  unfold litL
  rw [compileL_valid]
  simp only [Bool.false_eq_true, if_false]
  cases h : (compileL rs).any spec <;> simp
set_option maxHeartbeats 8000000 in
set_option maxRecDepth 100000 in
theorem refSpecial_c (A : Option Addr) (rs : List Rn) (c : Nat) (w : World) (hA : RunAt w w.heap.size A rs) (hn : rs.length ≤ 100000) (hT : (charsOf rs).length ≤ 100000) (hL : ∀ r ∈ rs, r.t.length ≤ 100000) (hcl : ∀ r ∈ rs, -9223372036854775808 ≤ r.c ∧ r.c ≤ 9223372036854775807) :
    Calls Tryd.prog 32 #[.slice A rs.length c] w fun e w' => e = .returned (.bool ((compileL rs).any spec)) ∧ Below w.heap.size w w' := by
  have h1 := Lib.hid (refComp1_c (c := c) hA hn hT hL hcl)
  have h2 : Hid (∀ X A2 c2, PatAt X X.heap.size A2 (compileL rs) → Calls Tryd.prog 30 #[.slice A2 (compileL rs).length c2] X fun e w' => e = .returned (.tuple #[.string ⟨(litL (compileL rs)).1.toArray⟩, .bool (litL (compileL rs)).2]) ∧ Below X.heap.size X w') := Lib.hid (fun X A2 c2 hp => refLiteral_c A2 (compileL rs) c2 X hp (compileL_ok rs) (by have := compileL_len rs; omega))
  rw [← litL_spec rs]
  generalize litL (compileL rs) = R at *
  obtain ⟨t, b⟩ := R
  clear hA hn hT hL hcl
  go_enter Tryd.func32, Tryd.ntmps32
  go_wp2_with fail
  refine h1.out.mono ?_
  rintro e w1 ⟨A2, c2, rfl, p2, m1⟩
  have h3 := Lib.hid (h2.out w1 A2 c2 p2)
  clear h1 h2 p2
  go_wp2_with fail
  refine h3.out.mono ?_
  rintro e w2 ⟨rfl, n2⟩
  have m2 := m1.trans (n2.mono m1.size)
  clear h3 n2 m1
  go_wp2_with fail
  go_ret
  exact ⟨rfl, m2⟩
set_option maxHeartbeats 16000000 in
set_option maxRecDepth 100000 in
theorem literals_walk (A : Option Addr) (is : List It) (c : Nat) (A2 : Option Addr) (rs : List Rn) (c2 : Nat) (W : World) (hA : PatAt W W.heap.size A is) (hlc : is.length ≤ c) (hcm : c ≤ maxLen) (hz : ∀ x ∈ is, (-9223372036854775808 ≤ x.k ∧ x.k ≤ 9223372036854775807) ∧ x.t.length ≤ maxLen ∧ x.set.length ≤ maxLen ∧ ∀ q ∈ x.set, q.1 < 256 ∧ q.2 < 256) (hA2 : RunAt W W.heap.size A2 rs) (hlc2 : rs.length ≤ c2) (hcm2 : c2 ≤ maxLen) (hsz : ∀ r ∈ rs, r.t.length ≤ 140737488351232 ∧ -9223372036854775808 ≤ r.c ∧ r.c ≤ 9223372036854775807) (hE : Env W W.heap.size) :
    Calls Tryd.prog 7 #[.slice A is.length c, .slice A2 rs.length c2] W fun e w' => e = .returned (.bool true) ∧ Below W.heap.size W w' := by
  have HE : Hid (∀ X, Below W.heap.size W X → Env X X.heap.size) := Lib.hid (fun X hX => env_mono (env_below hE hX (Nat.le_refl _)) hX.size)
  have hfew := Lib.hid (few_c 12 (by omega) A is c W hA (fun x hx => ⟨(hz x hx).2.1, (hz x hx).2.2.1⟩) (by omega))
  have hsml := Lib.hid (small_c A2 rs c2 W hA2 (fun r hr => (hsz r hr).1) (by omega))
  clear hE
  go_enter Tryd.func7, Tryd.ntmps7
  go_wp2_with fail
  refine hfew.out.mono ?_
  rintro e w0 ⟨rfl, (rfl | ⟨rfl, h8, h60⟩)⟩
  · go_wp2_with fail
    refine (awake_c _ (HE.out _ (Below.refl _ _))).mono ?_
    rintro e w' ⟨rfl, hb⟩
    go_wp2_with fail
    go_ret
    exact ⟨rfl, hb⟩
  clear hfew
  go_wp2_with fail
  refine hsml.out.mono ?_
  rintro e w0 ⟨rfl, (rfl | ⟨rfl, k8, k60⟩)⟩
  · go_wp2_with fail
    refine (awake_c _ (HE.out _ (Below.refl _ _))).mono ?_
    rintro e w' ⟨rfl, hb⟩
    go_wp2_with fail
    go_ret
    exact ⟨rfl, hb⟩
  have hok : ∀ x ∈ is, ItOk x := fun x hx => ⟨⟨by have := (h60 x hx).1; omega, (hz x hx).2.2.2⟩, by have := (h60 x hx).2; omega⟩
  have hin : is.length ≤ 1000000 := by omega
  have hcl := chars_le rs
  have Hmem : ∀ r ∈ rs, r.t.length ≤ 100000 := fun r hr => by have := tot_mem hr; omega
  have Hap : Hid (∀ X, Below W.heap.size W X → PatAt X X.heap.size A is) := Lib.hid (fun X hX => patAt_mono (patAt_below hA hX (Nat.le_refl _)) hX.size)
  have Hrp : Hid (∀ X, Below W.heap.size W X → RunAt X X.heap.size A2 rs) := Lib.hid (fun X hX => runAt_mono (runAt_below hA2 hX (Nat.le_refl _)) hX.size)
  have H1 := Lib.hid (literal_c A is c W hA hok hin)
  have H2 : Hid (∀ X, Below W.heap.size W X → Calls Tryd.prog 30 #[.slice A is.length c] X fun e w' => e = .returned (.tuple #[.string ⟨(litL is).1.toArray⟩, .bool (litL is).2]) ∧ Below X.heap.size X w') := Lib.hid (fun X hX => refLiteral_c A is c X (Hap.out X hX) hok hin)
  have H3 : Hid (∀ X, Below W.heap.size W X → Calls Tryd.prog 31 #[.slice A2 rs.length c2] X fun e w' => e = .returned (.bool ((compileL rs).any spec)) ∧ Below X.heap.size X w') := Lib.hid (fun X hX => special_c A2 rs c2 X (Hrp.out X hX) (by omega) (by omega) (fun r hr => by have := Hmem r hr; omega) (HE.out X hX) (compileL_ok rs))
  have H4 : Hid (∀ X, Below W.heap.size W X → Calls Tryd.prog 32 #[.slice A2 rs.length c2] X fun e w' => e = .returned (.bool ((compileL rs).any spec)) ∧ Below X.heap.size X w') := Lib.hid (fun X hX => refSpecial_c A2 rs c2 X (Hrp.out X hX) (by omega) (by omega) Hmem (fun r hr => (hsz r hr).2))
  generalize litL is = P at *
  generalize (compileL rs).any spec = q at *
  obtain ⟨t, b⟩ := P
  simp only at H1 H2
  have e1 : (b == b) = true := beq_self_eq_true _
  have e2 : (q == q) = true := beq_self_eq_true _
  generalize (⟨t.toArray⟩ : ByteArray) = T at *
  clear hsml hok hcl Hmem Hap Hrp hA hA2 hz hsz h60 k60
  go_wp2_with fail
  refine H1.out.mono ?_
  rintro e w1 ⟨rfl, m1⟩
  go_wp2_with fail
  refine (H2.out _ m1).mono ?_
  rintro e w2 ⟨rfl, n2⟩
  have m2 := m1.trans (n2.mono m1.size)
  clear H1 H2 n2 m1
  go_wp2_with fail
  refine (H3.out _ m2).mono ?_
  rintro e w3 ⟨rfl, n3⟩
  have m3 := m2.trans (n3.mono m2.size)
  clear H3 n3 m2
  go_wp2_with fail
  refine (H4.out _ m3).mono ?_
  rintro e w4 ⟨rfl, n4⟩
  have m4 := m3.trans (n4.mono m3.size)
  clear H4 n4 m3
  go_wp2_with fail
  refine (awake_c _ (HE.out _ m4)).mono ?_
  rintro e w7 ⟨rfl, n7⟩
  have m7 := m4.trans (n7.mono m4.size)
  clear m4 n7
  go_wp2_with fail
  go_ret
  exact ⟨rfl, m7⟩
end Go.Proofs.YteppndkhmbhnkaaDoor
namespace Go.Proofs.YteppndkhmbhnkaaDoor.patternLiterals
open Go.ChangeShapes Go.WideShapes Go.ChangeAt Go.RowKit
open Go.ChangeMaps (open_string shut_string)
set_option linter.unusedVariables false

theorem walk (A : Option Addr) (is : List It) (c : Nat) (A2 : Option Addr) (rs : List Rn) (c2 : Nat) (W : World) (hA : PatAt W W.heap.size A is) (hnone : A = none → is = [] ∧ c = 0) (hlc : is.length ≤ c) (hcm : c ≤ maxLen) (hz : ∀ x ∈ is, (-9223372036854775808 ≤ x.k ∧ x.k ≤ 9223372036854775807) ∧ x.t.length ≤ maxLen ∧ x.set.length ≤ maxLen ∧ ∀ q ∈ x.set, q.1 < 256 ∧ q.2 < 256) (hA2 : RunAt W W.heap.size A2 rs) (hnone2 : A2 = none → rs = [] ∧ c2 = 0) (hlc2 : rs.length ≤ c2) (hcm2 : c2 ≤ maxLen) (hsz : ∀ r ∈ rs, r.t.length ≤ 140737488351232 ∧ -9223372036854775808 ≤ r.c ∧ r.c ≤ 9223372036854775807) (hE : Env W W.heap.size) :
    Calls Tryd.prog 7 #[.slice A is.length c, .slice A2 rs.length c2] W fun e w' => e = .returned (.bool true) ∧ Below W.heap.size W w' :=
  literals_walk A is c A2 rs c2 W hA hlc hcm hz hA2 hlc2 hcm2 hsz hE
theorem laid_eq : Rows.patternLiteralsRow.laid = laidL := rfl
theorem witness_row (os : Os) {H : Type} (enc : TypeId × Value → H) :
    (OpenSpec.ofChange Rows.patternLiteralsSpec).preRow enc Tryd.prog Tryd.f7 Rows.patternLiteralsRow.domain false Rows.patternLiteralsRow.laid ((laidWorld os).forCall (fun _ _ => 0) ⟨#[], #[.slice none 0 0, .slice none 0 0], []⟩).memory #[.slice none 0 0, .slice none 0 0] := by
  have hw : (DataW.whole enc Tryd.prog ((laidWorld os).forCall (fun _ _ => 0) ⟨#[], #[.slice none 0 0, .slice none 0 0], []⟩).memory Tryd.f7.params.toList (OpenSpec.ofChange Rows.patternLiteralsSpec).vars false (#[.slice none 0 0, .slice none 0 0] : Array Value).toList 8).map (fun x => (x.1, x.2.1)) =
      some ([.nil, .nil], []) := by kernel_rfl
  obtain ⟨⟨x1, x2, x3⟩, hx, hx1⟩ := Option.map_eq_some_iff.1 hw
  simp only [Prod.mk.injEq] at hx1
  obtain ⟨rfl, rfl⟩ := hx1
  exact OpenSpec.preRow_of_cond 8 hx (by kernel_rfl) (fun k hk => by cases hk) (by kernel_rfl) (by rw [laid_eq]; exact laid_met os _)
set_option maxRecDepth 100000 in
set_option maxHeartbeats 2000000 in
theorem lifted (os : Os) (started : os.Started) (H : Type) (enc : TypeId × Value → H) (F : Stop.Interp) :
    ReturnsInHanded {} Tryd.checked os 7 .any ((OpenSpec.ofChange Rows.patternLiteralsSpec).preRow enc Tryd.prog Tryd.f7 Rows.patternLiteralsRow.domain false Rows.patternLiteralsRow.laid) (((OpenSpec.ofChange Rows.patternLiteralsSpec).at F).post enc Tryd.prog Tryd.f7 false true false false) := by
  refine returnsInHanded_of_row (C := Tryd.checked) (s := OpenSpec.ofChange Rows.patternLiteralsSpec) own started (by kernel_rfl) Tryd.func7
    (witness_row_at (enc := enc) (C := Tryd.checked) false (laidWorld os) #[.slice none 0 0, .slice none 0 0] rfl (by kernel_rfl) (by kernel_rfl) (by kernel_rfl) (witness_row os enc)) ?_
  intro W base args ds gs before hval0 hW _ _ hwt hL hsh _
  have hE := env_of hL hsh
  have hval : ∀ (j : Nat) t v, Tryd.f7.params[j]? = some t → args[j]? = some v → Value.okWide Tryd.prog W .any base t v := hval0
  have hW' := hW
  obtain ⟨p, q, hA0, hV, rfl, hfz, hnd⟩ := hW
  have hA : DataW.TrodAll enc Tryd.prog W 0 (fun _ => true) true Tryd.f7.params.toList args.toList ds p := hA0
  have hA1 := hA
  rw [Tryd.params7] at hA hval
  obtain ⟨v0, vs0, d0, ds0, p0, q0, hargs, rfl, rfl, h0, r0⟩ := trodAll_cons hA
  obtain ⟨v1, vs1, d1, ds1, p1, q1, rfl, rfl, rfl, h1, r1⟩ := trodAll_cons r0
  obtain ⟨rfl, rfl, rfl⟩ := trodAll_nil r1
  obtain rfl : args = #[v0, v1] := by cases args; simp_all
  obtain ⟨rfl, rfl⟩ := trodVars_none hV
  have hlt : ∀ x ∈ p0 ++ (p1 ++ []), x.block < W.heap.size := fun x hx => hW'.lt x (List.mem_append_left _ hx)
  obtain ⟨AA0, c0, is0, rfl, hRn0, hNo0, hLn0, hMx0, hZz0⟩ := open_items (hval 0 26 v0 rfl rfl) h0
  obtain ⟨AA1, c1, rs1, rfl, hRn1, hNo1, hLn1, hMx1, hZz1⟩ := open_runs (hval 1 22 v1 rfl rfl) h1 (fun n hn => of_decide_eq_true (List.all_eq_true.1 hwt n (DataW.weights_mem_each (j := 1) (t := 22) (d := d1) (by rw [Tryd.params7]; rfl) rfl n hn)))
  clear hA0 hval0
  refine (walk AA0 is0 c0 AA1 rs1 c1 W hRn0 hNo0 hLn0 hMx0 hZz0 hRn1 hNo1 hLn1 hMx1 hZz1 hE).mono fun e W' ⟨he, hg⟩ => ?_
  subst he
  exact ⟨_, rfl, _, [], _, [], _, [], hW', trodAll_cons_mk (shut_bool Tryd.underlying4 _) trodAll_mk0, trodAll_below laidOut hg _ _ _ _ (by
      rw [Tryd.params7]
      intro t ht
      simp only [List.mem_cons, List.mem_nil_iff, or_false] at ht
      rcases ht with rfl | rfl
      · exact ⟨by kernel_rfl, of_decide_eq_true (by kernel_rfl)⟩
      · exact ⟨by kernel_rfl, of_decide_eq_true (by kernel_rfl)⟩) hlt hA1, rfl, hg.frame _, fun h => by cases h⟩

theorem said : Rows.PatternLiteralsSaid :=
  OpenClaim.holds_of_cond 7 Tryd.f7 rfl rfl rfl rfl rfl rfl rfl ⟨rfl, rfl, rfl, rfl, rfl⟩ rfl rfl rfl rfl rfl (by kernel_rfl) Tryd.func7 (by kernel_rfl)
    (of_decide_eq_true (by kernel_rfl)) (by unfold Func.isWrapper; first | (rw [if_pos (by decide +kernel)]; kernel_rfl) | (rw [if_neg (by decide +kernel)]; exact ⟨rfl, rfl⟩))
    (fun os started H enc _ F => by rw [OpenClaim.pre_eq_preRow]; exact lifted os started H enc F)
theorem plain (f : FuncId) (fn : Func) (hf : Tryd.pinned.checked.prog.funcNamed "jobshell/jobshelllaw04.PatternLiterals" = some f) (hfn : Tryd.pinned.checked.prog.funcs[f]? = some fn) :
    false = Tryd.pinned.checked.prog.looks [] ∧ ∀ (j : Nat) t, fn.params[j]? = some t → Tryd.pinned.checked.prog.wantsStandIn t = false := by
  obtain rfl : f = 7 := Option.some.inj ((show Tryd.prog.funcNamed "jobshell/jobshelllaw04.PatternLiterals" = some 7 by kernel_rfl).symm.trans hf) |>.symm
  obtain rfl : fn = Tryd.f7 := (Option.some.inj (Tryd.func7.symm.trans hfn)).symm
  refine ⟨by kernel_rfl, fun j t ht => ?_⟩
  rw [Tryd.params7] at ht
  have hm := Array.mem_of_getElem? ht
  simp only [List.mem_toArray, List.mem_cons, List.mem_nil_iff, or_false] at hm
  rcases hm with rfl | rfl
  · exact (show Tryd.prog.wantsStandIn 26 = false by kernel_rfl)
  · exact (show Tryd.prog.wantsStandIn 22 = false by kernel_rfl)

theorem card : Rows.PatternLiteralsCardSaid :=
  Claim7.holds_tied_plain_at .later [] _ _ _ _ said (fun _ h => by cases h) (by kernel_rfl) (fun _ h => by cases h) patternLiterals_row_tie rfl ⟨rfl, rfl⟩ (by kernel_rfl) rfl plain (by kernel_rfl)
#print axioms card
end Go.Proofs.YteppndkhmbhnkaaDoor.patternLiterals
