/- PatternCompiles, PatternRuns: the laws' walks. -/
import Derived.Test.YteppndkhmbhnkaaDoorPRco
import Derived.Test.YteppndkhmbhnkaaDoorPRsm
import Derived.Test.YteppndkhmbhnkaaDoorPRt
import Derived.Test.YteppndkhmbhnkaaDoorPSml
import Derived.Test.YteppndkhmbhnkaaDoorPRval
namespace Go.Proofs.YteppndkhmbhnkaaDoor
open Go.RowKit
set_option linter.unusedVariables false

theorem compR1_c {rs : List Rn} {A : Option Addr} {c : Nat} {w : World} (h : RunAt w w.heap.size A rs) (hn : rs.length ≤ 1000000) (hT : (charsOf rs).length ≤ 1000000) (hL : ∀ r ∈ rs, r.t.length ≤ 1000000) (hE : Env w w.heap.size) :
    Calls Tryd.prog 18 #[.slice A rs.length c] w fun e w' => ∃ A2 c2, e = .returned (.slice A2 (compileL rs).length c2) ∧ PatAt w' w'.heap.size A2 (compileL rs) ∧ Below w.heap.size w w' := by
  refine (compile_c A rs c w h hn hT hL hE).mono ?_
  rintro e w' ⟨v, rfl, ho, hb⟩
  obtain ⟨A2, c2, rfl, hp, _, _⟩ := ownIt_at ho
  exact ⟨A2, c2, rfl, hp, hb⟩
theorem refComp1_c {rs : List Rn} {A : Option Addr} {c : Nat} {w : World} (h : RunAt w w.heap.size A rs) (hn : rs.length ≤ 100000) (hT : (charsOf rs).length ≤ 100000) (hL : ∀ r ∈ rs, r.t.length ≤ 100000) (hcl : ∀ r ∈ rs, -9223372036854775808 ≤ r.c ∧ r.c ≤ 9223372036854775807) :
    Calls Tryd.prog 19 #[.slice A rs.length c] w fun e w' => ∃ A2 c2, e = .returned (.slice A2 (compileL rs).length c2) ∧ PatAt w' w'.heap.size A2 (compileL rs) ∧ Below w.heap.size w w' := by
  refine (refCompile_c A rs c w h hn hT hL hcl).mono ?_
  rintro e w' ⟨v, rfl, ho, hb⟩
  obtain ⟨A2, c2, rfl, hp, _, _⟩ := ownIt_at ho
  exact ⟨A2, c2, rfl, hp, hb⟩
set_option maxHeartbeats 16000000 in
set_option maxRecDepth 100000 in
theorem compiles_walk (A : Option Addr) (rs : List Rn) (c : Nat) (W : World) (hA : RunAt W W.heap.size A rs) (hlc : rs.length ≤ c) (hcm : c ≤ maxLen) (hsz : ∀ r ∈ rs, r.t.length ≤ 140737488351232 ∧ -9223372036854775808 ≤ r.c ∧ r.c ≤ 9223372036854775807) (hE : Env W W.heap.size) :
    Calls Tryd.prog 3 #[.slice A rs.length c] W fun e w' => e = .returned (.bool true) ∧ Below W.heap.size W w' := by
  have HE : Hid (∀ X, Below W.heap.size W X → Env X X.heap.size) := Lib.hid (fun X hX => env_mono (env_below hE hX (Nat.le_refl _)) hX.size)
  have hsml := Lib.hid (small_c A rs c W hA (fun r hr => (hsz r hr).1) (by omega))
  clear hE
  go_enter Tryd.func3, Tryd.ntmps3
  go_wp2_with fail
  refine hsml.out.mono ?_
  rintro e w0 ⟨rfl, (rfl | ⟨rfl, h8, h60⟩)⟩
  · go_wp2_with fail
    refine (awake_c _ (HE.out _ (Below.refl _ _))).mono ?_
    rintro e w' ⟨rfl, hb⟩
    go_wp2_with fail
    go_ret
    exact ⟨rfl, hb⟩
  have hcl := chars_le rs
  have Hmem : ∀ r ∈ rs, r.t.length ≤ 100000 := fun r hr => by have := tot_mem hr; omega
  have H1 := Lib.hid (compR1_c (c := c) hA (by omega) (by omega) (fun r hr => by have := Hmem r hr; omega) (HE.out _ (Below.refl _ _)))
  have H2 : Hid (∀ X, Below W.heap.size W X → Calls Tryd.prog 19 #[.slice A rs.length c] X fun e w' => ∃ A2 c2, e = .returned (.slice A2 (compileL rs).length c2) ∧ PatAt w' w'.heap.size A2 (compileL rs) ∧ Below X.heap.size X w') := Lib.hid (fun X hX => refComp1_c (c := c) (runAt_mono (runAt_below hA hX (Nat.le_refl _)) hX.size) (by omega) (by omega) Hmem (fun r hr => (hsz r hr).2))
  have Hok := Lib.hid (compileL_ok rs)
  have Hln : Hid ((compileL rs).length ≤ 1000000) := Lib.hid (by have := compileL_len rs; omega)
  generalize compileL rs = Q at *
  clear hsml hcl Hmem hsz hA h60
  go_wp2_with fail
  refine H1.out.mono ?_
  rintro e w1 ⟨A2, c2, rfl, p2, m1⟩
  go_wp2_with fail
  refine (H2.out _ m1).mono ?_
  rintro e w2 ⟨A3, c3, rfl, p3, n2⟩
  have m2 := m1.trans (n2.mono m1.size)
  have hs := Lib.hid (same_c A2 A3 Q c2 c3 w2 (patAt_mono (patAt_below p2 n2 (Nat.le_refl _)) n2.size) p3 Hok.out Hln.out)
  clear H1 H2 p2 p3 n2 m1
  go_wp2_with fail
  refine hs.out.mono ?_
  rintro e w3 ⟨rfl, n3⟩
  have m3 := m2.trans (n3.mono m2.size)
  clear hs n3 m2
  go_wp2_with fail
  refine (awake_c _ (HE.out _ m3)).mono ?_
  rintro e w7 ⟨rfl, n7⟩
  have m7 := m3.trans (n7.mono m3.size)
  clear m3 n7
  go_wp2_with fail
  go_ret
  exact ⟨rfl, m7⟩

theorem brR_short (x : It) : (brR x).length ≤ 3 * x.set.length + 6 := by
  unfold brR
  rw [List.length_append, List.length_append, List.length_append, spR_length]
  by_cases h1 : x.neg = true <;> by_cases h2 : x.set = [] <;> simp [h1, h2] <;> omega
theorem itR_short (x : It) : (itR x).length ≤ 3 * x.set.length + 6 := by
  unfold itR
  have := brR_short x
  split
  · simp
  · split
    · simp
    · split
      · exact this
      · simp
theorem itR_mem (x : It) (hx : x.t.length ≤ 40) : ∀ r ∈ itR x, r.t.length ≤ 40 ∧ 0 ≤ r.c ∧ r.c ≤ 1 := by
  intro r hr
  unfold itR at hr
  split at hr
  · simp at hr; subst hr; simp
  · split at hr
    · simp at hr; subst hr; simp
    · split at hr
      · unfold brR at hr
        rw [List.mem_append, List.mem_append, List.mem_append] at hr
        rcases hr with ((hr | hr) | hr) | hr
        · simp at hr; subst hr; simp
        · split at hr
          · simp at hr; subst hr; simp
          · simp at hr
        · unfold spR at hr
          rw [List.mem_flatMap] at hr
          obtain ⟨p, _, hr⟩ := hr
          simp at hr
          rcases hr with rfl | rfl | rfl <;> simp
        · simp at hr; subst hr; simp
      · simp at hr; subst hr; exact ⟨hx, by simp⟩
theorem runs_short (is : List It) (hx : ∀ x ∈ is, x.set.length ≤ 40 ∧ x.t.length ≤ 40) : (is.flatMap itR).length ≤ is.length * 126 ∧ totL (is.flatMap itR) ≤ is.length * 5040 := by
  induction is with
  | nil => exact ⟨Nat.le_refl _, Nat.le_refl _⟩
  | cons x r ih =>
    obtain ⟨h1, h2⟩ := ih (fun y hy => hx y (List.mem_cons_of_mem _ hy))
    obtain ⟨h3, h4⟩ := hx x List.mem_cons_self
    have h5 := itR_short x
    have h6 : totL (itR x) ≤ (itR x).length * 40 := by
      have := itR_mem x h4
      generalize itR x = l at *
      clear h5 h1 h2
      induction l with
      | nil => exact Nat.le_refl _
      | cons a l ih2 =>
        have e : totL (a :: l) = a.t.length + totL l := by unfold totL; simp
        have h7 := ih2 (fun r hr => this r (List.mem_cons_of_mem _ hr))
        have h8 := (this a List.mem_cons_self).1
        rw [e, List.length_cons]
        omega
    have e : totL (itR x ++ r.flatMap itR) = totL (itR x) + totL (r.flatMap itR) := by unfold totL; rw [List.map_append, List.sum_append]
    rw [List.flatMap_cons, List.length_append, e, List.length_cons]
    omega
theorem runsL_short (is : List It) (hx : ∀ x ∈ is, x.set.length ≤ 40 ∧ x.t.length ≤ 40) : (runsL is).length ≤ is.length * 126 ∧ totL (runsL is) ≤ is.length * 5040 ∧ ∀ r ∈ runsL is, r.t.length ≤ 40 ∧ 0 ≤ r.c ∧ r.c ≤ 1 := by
  unfold runsL
  split
  · exact ⟨Nat.zero_le _, Nat.zero_le _, fun r hr => by simp at hr⟩
  · obtain ⟨h1, h2⟩ := runs_short is hx
    refine ⟨h1, h2, fun r hr => ?_⟩
    rw [List.mem_flatMap] at hr
    obtain ⟨x, hxm, hr⟩ := hr
    exact itR_mem x (hx x hxm).2 r hr
set_option maxHeartbeats 16000000 in
set_option maxRecDepth 100000 in
theorem runs_walk (A : Option Addr) (is : List It) (c : Nat) (W : World) (hA : PatAt W W.heap.size A is) (hlc : is.length ≤ c) (hcm : c ≤ maxLen) (hz : ∀ x ∈ is, (-9223372036854775808 ≤ x.k ∧ x.k ≤ 9223372036854775807) ∧ x.t.length ≤ maxLen ∧ x.set.length ≤ maxLen ∧ ∀ q ∈ x.set, q.1 < 256 ∧ q.2 < 256) (hE : Env W W.heap.size) :
    Calls Tryd.prog 4 #[.slice A is.length c] W fun e w' => e = .returned (.bool true) ∧ Below W.heap.size W w' := by
  have HE : Hid (∀ X, Below W.heap.size W X → Env X X.heap.size) := Lib.hid (fun X hX => env_mono (env_below hE hX (Nat.le_refl _)) hX.size)
  have hfew := Lib.hid (few_c 12 (by omega) A is c W hA (fun x hx => ⟨(hz x hx).2.1, (hz x hx).2.2.1⟩) (by omega))
  clear hE
  go_enter Tryd.func4, Tryd.ntmps4
  go_wp2_with fail
  refine hfew.out.mono ?_
  rintro e w0 ⟨rfl, (rfl | ⟨rfl, h8, h60⟩)⟩
  · go_wp2_with fail
    refine (awake_c _ (HE.out _ (Below.refl _ _))).mono ?_
    rintro e w' ⟨rfl, hb⟩
    go_wp2_with fail
    go_ret
    exact ⟨rfl, hb⟩
  clear hfew
  have hok : ∀ x ∈ is, ItOk x := fun x hx => ⟨⟨by have := (h60 x hx).1; omega, (hz x hx).2.2.2⟩, by have := (h60 x hx).2; omega⟩
  have hin : is.length ≤ 1000000 := by omega
  obtain ⟨hr1, hr2, hr3⟩ := runsL_short is h60
  have hcl := chars_le (runsL is)
  have Hap : Hid (∀ X, Below W.heap.size W X → PatAt X X.heap.size A is) := Lib.hid (fun X hX => patAt_mono (patAt_below hA hX (Nat.le_refl _)) hX.size)
  have H1 := Lib.hid (runs_c A is c W hA hok hin)
  have Hv : Hid (∀ X, Below W.heap.size W X → Calls Tryd.prog 22 #[.slice A is.length c] X fun e w' => e = .returned (.bool (!(is.any inv))) ∧ Below X.heap.size X w') := Lib.hid (fun X hX => refValid_c A is c X (Hap.out X hX) hok hin)
  have Hnil : Hid (is.any inv = true → runsL is = []) := Lib.hid (fun h => by unfold runsL; rw [if_pos h])
  have Hcomp : Hid (is.any inv = false → compileL (runsL is) = is) := Lib.hid (fun h => compileL_runs is h hok)
  have Hsm : Hid (∀ X A2 c2, Below W.heap.size W X → PatAt X X.heap.size A2 is → Calls Tryd.prog 17 #[.slice A2 is.length c2, .slice A is.length c] X fun e w' => e = .returned (.bool true) ∧ Below X.heap.size X w') := Lib.hid (fun X A2 c2 hX hp => same_c A2 A is c2 c X hp (Hap.out X hX) hok hin)
  have Hrc : Hid (∀ X A2 c2, Below W.heap.size W X → RunAt X X.heap.size A2 (runsL is) → Calls Tryd.prog 19 #[.slice A2 (runsL is).length c2] X fun e w' => ∃ A3 c3, e = .returned (.slice A3 (compileL (runsL is)).length c3) ∧ PatAt w' w'.heap.size A3 (compileL (runsL is)) ∧ Below X.heap.size X w') := Lib.hid (fun X A2 c2 hX hp => refComp1_c (c := c2) hp (by omega) (by omega) (fun r hr => by have := (hr3 r hr).1; omega) (fun r hr => by have := (hr3 r hr).2; omega))
  have Hcc : Hid (∀ X A2 c2, Below W.heap.size W X → RunAt X X.heap.size A2 (runsL is) → Calls Tryd.prog 18 #[.slice A2 (runsL is).length c2] X fun e w' => ∃ A3 c3, e = .returned (.slice A3 (compileL (runsL is)).length c3) ∧ PatAt w' w'.heap.size A3 (compileL (runsL is)) ∧ Below X.heap.size X w') := Lib.hid (fun X A2 c2 hX hp => compR1_c (c := c2) hp (by omega) (by omega) (fun r hr => by have := (hr3 r hr).1; omega) (HE.out X hX))
  generalize runsL is = RS at *
  clear hok hr2 hr3 hcl hz h60 hA Hap
  go_wp2_with fail
  refine H1.out.mono ?_
  rintro e w1 ⟨v1, rfl, o1, m1⟩
  clear H1
  obtain ⟨A1, c1, rfl, hrA, _, _⟩ := ownR_at o1
  have HrA := Lib.hid hrA
  clear o1 hrA
  rcases hany : is.any inv with _ | _
  rotate_left
  · have hn := Hnil.out hany
    rw [hany] at Hv
    subst hn
    clear hany Hnil Hcomp Hrc Hcc Hsm hr1
    go_wp2_with fail
    refine (Hv.out _ m1).mono ?_
    rintro e w2 ⟨rfl, n2⟩
    have m2 := m1.trans (n2.mono m1.size)
    clear Hv n2 m1
    go_wp2_with fail
    refine (awake_c _ (HE.out _ m2)).mono ?_
    rintro e w7 ⟨rfl, n7⟩
    have m7 := m2.trans (n7.mono m2.size)
    clear m2 n7
    go_wp2_with fail
    go_ret
    exact ⟨rfl, m7⟩
  have hcq := Hcomp.out hany
  rw [hany] at Hv
  rw [hcq] at Hrc Hcc
  clear hany Hnil Hcomp hcq
  go_wp2_with fail
  refine (Hv.out _ m1).mono ?_
  rintro e w2 ⟨rfl, n2⟩
  have m2 := m1.trans (n2.mono m1.size)
  have hr2 := runAt_mono (runAt_below HrA.out n2 (Nat.le_refl _)) n2.size
  have hrc := Lib.hid (Hrc.out w2 A1 c1 m2 hr2)
  have Hr2 := Lib.hid hr2
  clear Hv n2 m1 HrA Hrc hr2
  go_wp2_with fail
  refine hrc.out.mono ?_
  rintro e w3 ⟨A3, c3, rfl, p3, n3⟩
  have m3 := m2.trans (n3.mono m2.size)
  have hsm := Lib.hid (Hsm.out w3 A3 c3 m3 p3)
  have hr3 := runAt_mono (runAt_below Hr2.out n3 (Nat.le_refl _)) n3.size
  have Hr3 := Lib.hid hr3
  clear hrc n3 m2 p3 hr3 Hr2
  go_wp2_with fail
  refine hsm.out.mono ?_
  rintro e w4 ⟨rfl, n4⟩
  have m4 := m3.trans (n4.mono m3.size)
  have hr4 := runAt_mono (runAt_below Hr3.out n4 (Nat.le_refl _)) n4.size
  have hcc := Lib.hid (Hcc.out w4 A1 c1 m4 hr4)
  clear hsm n4 m3 hr4 Hr3 Hcc
  go_wp2_with fail
  refine hcc.out.mono ?_
  rintro e w5 ⟨A5, c5, rfl, p5, n5⟩
  have m5 := m4.trans (n5.mono m4.size)
  have hsm := Lib.hid (Hsm.out w5 A5 c5 m5 p5)
  clear hcc n5 m4 p5 Hsm
  go_wp2_with fail
  refine hsm.out.mono ?_
  rintro e w6 ⟨rfl, n6⟩
  have m6 := m5.trans (n6.mono m5.size)
  clear hsm n6 m5
  go_wp2_with fail
  refine (awake_c _ (HE.out _ m6)).mono ?_
  rintro e w7 ⟨rfl, n7⟩
  have m7 := m6.trans (n7.mono m6.size)
  clear m6 n7
  go_wp2_with fail
  go_ret
  exact ⟨rfl, m7⟩
end Go.Proofs.YteppndkhmbhnkaaDoor
