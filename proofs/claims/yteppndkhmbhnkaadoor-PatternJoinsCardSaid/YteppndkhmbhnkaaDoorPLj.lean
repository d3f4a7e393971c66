/- PatternJoins: the law's walk. -/
import Derived.Test.YteppndkhmbhnkaaDoorPJr
import Derived.Test.YteppndkhmbhnkaaDoorPSml
import Derived.Laws.AppendOwnNone
import Derived.Lib.AppendZeros
namespace Go.Proofs.YteppndkhmbhnkaaDoor
open Go.RowKit
set_option linter.unusedVariables false

theorem run_news {w : World} {B : Nat} {ad : Addr} {rs : List Rn} (h : RunAt w B (some ad) rs) : ∀ j u, (rnCells rs)[j]? = some u → w.cell? (ad.add j) = some u := by
  intro j u hu
  have hj : j < rs.length * 2 := by
    have := (List.getElem?_eq_some_iff.1 hu).1
    rw [rnCells_length] at this
    exact this
  rcases h with rfl | ⟨b, off, e, hb, hc⟩
  · simp at hj
  · injection e with e
    subst e
    have hk : j / 2 < rs.length := by omega
    obtain ⟨g0, g1⟩ := rnCells_get rs (j / 2) hk
    obtain ⟨c0, c1⟩ := hc (j / 2) hk
    rcases Nat.mod_two_eq_zero_or_one j with hm | hm
    · have e1 : j / 2 * 2 = j := by omega
      rw [e1] at g0 c0
      rw [g0] at hu
      rw [show (⟨b, off, none⟩ : Addr).add j = ⟨b, off + j, none⟩ from by simp [Addr.add]]
      rw [c0]; exact hu
    · have e1 : j / 2 * 2 + 1 = j := by omega
      rw [e1] at g1
      rw [show off + j / 2 * 2 + 1 = off + j from by omega] at c1
      rw [g1] at hu
      rw [show (⟨b, off, none⟩ : Addr).add j = ⟨b, off + j, none⟩ from by simp [Addr.add]]
      rw [c1]; exact hu
set_option maxHeartbeats 16000000 in
set_option maxRecDepth 100000 in
theorem joins_walk (s : ByteArray) (A : Option Addr) (rs : List Rn) (c : Nat) (t : ByteArray) (W : World) (ws : s.size ≤ maxLen) (hA : RunAt W W.heap.size A rs) (hnone : A = none → rs = [] ∧ c = 0) (hlc : rs.length ≤ c) (hcm : c ≤ maxLen) (hsz : ∀ r ∈ rs, r.t.length ≤ 140737488351232) (wt : t.size ≤ maxLen) (hE : Env W W.heap.size) :
    Calls Tryd.prog 8 #[.string s, .slice A rs.length c, .string t] W fun e w' => e = .returned (.bool true) ∧ Below W.heap.size W w' := by
  have HE : Hid (∀ X, Below W.heap.size W X → Env X X.heap.size) := Lib.hid (fun X hX => env_mono (env_below hE hX (Nat.le_refl _)) hX.size)
  clear hE
  by_cases hs : 30 < s.size ∨ 30 < t.size
  · have t1 : decide ((30 : Int) < (s.size : Int)) = true ∨ decide ((30 : Int) < (s.size : Int)) = false ∧ decide ((30 : Int) < (t.size : Int)) = true := by
      by_cases h : 30 < s.size
      · exact .inl (decide_eq_true (by omega))
      · exact .inr ⟨decide_eq_false (by omega), decide_eq_true (by omega)⟩
    clear hs
    rcases t1 with t1 | ⟨t1, t2⟩
    all_goals
      go_enter Tryd.func8, Tryd.ntmps8
      go_wp2_with fail
      refine (awake_c _ (HE.out _ (Below.refl _ _))).mono ?_
      rintro e w' ⟨rfl, hb⟩
      go_wp2_with fail
      go_ret
      exact ⟨rfl, hb⟩
  have hs1 : s.size ≤ 30 := by omega
  have ht1 : t.size ≤ 30 := by omega
  have t1 : decide ((30 : Int) < (s.size : Int)) = false := decide_eq_false (by omega)
  have t2 : decide ((30 : Int) < (t.size : Int)) = false := decide_eq_false (by omega)
  obtain ⟨S, rfl⟩ : ∃ S : List UInt8, s = ⟨S.toArray⟩ := ⟨s.data.toList, by simp⟩
  obtain ⟨V, rfl⟩ : ∃ V : List UInt8, t = ⟨V.toArray⟩ := ⟨t.data.toList, by simp⟩
  have hS : S.length ≤ 30 := by have e : (⟨S.toArray⟩ : ByteArray).size = S.length := (by show S.toArray.size = _; simp); omega
  have hV : V.length ≤ 30 := by have e : (⟨V.toArray⟩ : ByteArray).size = V.length := (by show V.toArray.size = _; simp); omega
  have t1' : decide ((30 : Int) < (S.length : Int)) = false := decide_eq_false (by omega)
  have t2' : decide ((30 : Int) < (V.length : Int)) = false := decide_eq_false (by omega)
  have hsml := Lib.hid (small_c A rs c W hA hsz (by omega))
  clear ws wt hs hs1 ht1
  go_enter Tryd.func8, Tryd.ntmps8
  go_wp2_with fail
  refine hsml.out.mono ?_
  rintro e w0 ⟨rfl, (rfl | ⟨rfl, h8, h60⟩)⟩
  · go_wp2_with fail
    refine (awake_c _ (HE.out _ (Below.refl _ _))).mono ?_
    rintro e w' ⟨rfl, hb⟩
    go_wp2_with fail
    go_ret
    exact ⟨rfl, hb⟩
  clear hsml hsz
  have hcl := chars_le rs
  have Hch : Hid ((charsOf rs).length ≤ 1000000) := Lib.hid (by omega)
  have Hmem : Hid (∀ r ∈ rs, r.t.length ≤ 1000000) := Lib.hid (fun r hr => by have := tot_mem hr; omega)
  have Hch2 : Hid ((charsOf ([⟨S, 1⟩] ++ rs)).length ≤ 1000000) := Lib.hid (by
    rw [charsOf_append, charsOf_q, List.length_append]
    unfold qCh
    rw [List.length_map]
    omega)
  have Hmem2 : Hid (∀ r ∈ ([⟨S, 1⟩] ++ rs : List Rn), r.t.length ≤ 1000000) := Lib.hid (fun r hr => by
    rcases List.mem_append.1 hr with h | h
    · simp at h; subst h; show S.length ≤ _; omega
    · exact Hmem.out r h)
  have Hlen2 : Hid (([⟨S, 1⟩] ++ rs : List Rn).length ≤ 1000000) := Lib.hid (by rw [List.length_append]; simp; omega)
  have Hq1 := Lib.hid (rfl : compileL rs = compileL rs)
  have Hq2 := Lib.hid (compileL_join S rs)
  have Hl1 : Hid ((compileL rs).length ≤ 1000000) := Lib.hid (by have := compileL_len rs; omega)
  have Hl2 : Hid ((compileL ([⟨S, 1⟩] ++ rs)).length ≤ 1000000) := Lib.hid (by have := compileL_len ([⟨S, 1⟩] ++ rs); have := Hch2.out; omega)
  have Hok1 := Lib.hid (compileL_ok rs)
  have Hok2 := Lib.hid (compileL_ok ([⟨S, 1⟩] ++ rs))
  have Hm : Hid (mtL (compileL ([⟨S, 1⟩] ++ rs)) (S ++ V) = mtL (compileL rs) V) := Lib.hid (by rw [compileL_join]; exact mtL_join S (compileL rs) V)
  have HrA := Lib.hid hA
  have Hn1 := Lib.hid (rnCells_length rs)
  have Hn2 := Lib.hid (fun u hu => rn_one u rs hu)
  have hSV : (S ++ V).length ≤ 1000000 := by rw [List.length_append]; omega
  have HSV := Lib.hid hSV
  have hVV : V.length ≤ 1000000 := by omega
  have hapb : (⟨S.toArray⟩ : ByteArray) ++ ⟨V.toArray⟩ = ⟨(S ++ V).toArray⟩ := by
    apply ByteArray.ext
    simp
  have h8n : rs.length ≤ 1000000 := by omega
  clear hcl h60 hA hSV
  generalize hQe : compileL rs = Q at *
  generalize hPe : compileL ([⟨S, 1⟩] ++ rs) = P at *
  have HQe := Lib.hid hQe
  have HPe := Lib.hid hPe
  clear hQe hPe Hq1 Hq2
  go_wp2_with fail
  refine (quoted_c S _).mono ?_
  rintro e w1 ⟨v1, rfl, o1, m1⟩
  obtain ⟨i0, hi, hz0, hz1, hz2⟩ := info_parts runInfo
  have Hap : Hid (∃ v8 w8, (Builtin.append_ #[22, 22] 22 #[v1, .slice A rs.length c]).run Tryd.prog w1 = .ok v8 w8 ∧ OwnR w8 W.heap.size v8 ([⟨S, 1⟩] ++ rs) ∧ Below W.heap.size W w8) := Lib.hid (by
    rcases hq : A with _ | ad
    · obtain ⟨rfl, rfl⟩ := hnone hq
      exact ⟨v1, w1, run_append_owned_none w1 W.heap.size _ _ 66 i0 2 Tryd.underlying22 hi v1 1 _ o1, o1, m1⟩
    · subst hq
      have hr1 := runAt_below HrA.out m1 (Nat.le_refl _)
      obtain ⟨v8, w8, hr, ho, hg, _⟩ := run_append_own w1 W.heap.size 22 22 66 i0 _ 2 24 Tryd.underlying22 hi hz0 hz1 hz2 rfl (by decide) v1 1 _ o1 ad rs.length c (rnCells rs) Hn1.out (run_news hr1) Hn2.out (by unfold maxLen; omega) (by omega) m1.size
      refine ⟨v8, w8, hr, ?_, m1.grown hg m1.size (fun q hq => (o1.lt q hq).1)⟩
      unfold OwnR
      rw [List.length_append, rnCells_append]
      exact ho)
  obtain ⟨v8, w8, hrun, ho8, m8⟩ := Hap.out
  have Ho8 := Lib.hid ho8
  clear Hap ho8 o1 m1 Hn1 Hn2 hnone
  go_wp2_with (at_builtin; refine Lib.wpList_append_run _ rfl _ _ _ _ rfl _ _ rfl rfl _ _ hrun ?_)
  go_wp2_with fail
  refine (compR_c P P.length HPe.out rfl Ho8.out Hlen2.out Hch2.out Hmem2.out (HE.out _ m8)).mono ?_
  rintro e w2 ⟨A2, c2, rfl, p2, n2⟩
  have m2 := m8.trans (n2.mono m8.size)
  clear Ho8 n2 m8 hrun
  have hcr : Calls Tryd.prog 18 #[.slice A rs.length c] w2 fun e w' => ∃ v, e = .returned v ∧ OwnIt w' w2.heap.size v Q ∧ Below w2.heap.size w2 w' := by
    have := compile_c A rs c w2 (runAt_mono (runAt_below HrA.out m2 (Nat.le_refl _)) m2.size) h8n Hch.out Hmem.out (HE.out _ m2)
    rw [HQe.out] at this
    exact this
  go_wp2_with fail
  refine hcr.mono ?_
  rintro e w3 ⟨v3, rfl, o3, k3⟩
  obtain ⟨A3, c3, rfl, p3, _, _⟩ := ownIt_at o3
  have m3 := m2.trans (k3.mono m2.size)
  have p2' := patAt_mono (patAt_below p2 k3 (Nat.le_refl _)) k3.size
  clear hcr o3 k3 p2 m2
  have hc1 := match_c A2 P c2 (S ++ V) w3 p2' Hok2.out Hl2.out HSV.out
  rw [Hm.out] at hc1
  rw [← hapb] at hc1
  go_wp2_with fail
  refine hc1.mono ?_
  rintro e w4 ⟨rfl, k4⟩
  have m4 := m3.trans (k4.mono m3.size)
  have hc2 := match_c A3 Q c3 V w4 (patAt_mono (patAt_below p3 k4 (Nat.le_refl _)) k4.size) Hok1.out Hl1.out hVV
  clear hc1 k4 m3 p3 p2'
  go_wp2_with fail
  refine hc2.mono ?_
  rintro e w5 ⟨rfl, k5⟩
  have m5 := m4.trans (k5.mono m4.size)
  clear hc2 k5 m4
  have hbb : (mtL Q V == mtL Q V) = true := beq_self_eq_true _
  generalize mtL Q V = r at *
  go_wp2_with fail
  refine (awake_c _ (HE.out _ m5)).mono ?_
  rintro e w8 ⟨rfl, n8⟩
  have m8 := m5.trans (n8.mono m5.size)
  clear n8 m5
  go_wp2_with fail
  go_ret
  exact ⟨rfl, m8⟩
end Go.Proofs.YteppndkhmbhnkaaDoor
