/- PatternQuotes: the law's walk. -/
import Derived.Test.YthikmjhjbokppaaDoorPQm
namespace Go.Proofs.YthikmjhjbokppaaDoor
open Go.RowKit
set_option linter.unusedVariables false

theorem bytes_eq (s t : ByteArray) : decide (s.data.toList = t.data.toList) = (s.toList == t.toList) := by
  rw [Bool.eq_iff_iff, decide_eq_true_iff, beq_iff_eq, ByteArray.toList_eq, ByteArray.toList_eq]
set_option maxHeartbeats 8000000 in
set_option maxRecDepth 100000 in
theorem quotes_walk (s t : ByteArray) (W : World) (ws : s.size ≤ maxLen) (wt : t.size ≤ maxLen) (hE : Env W W.heap.size) :
    Calls Tryd.prog 8 #[.string s, .string t] W fun e w' => e = .returned (.bool true) ∧ Below W.heap.size W w' := by
  have HE : Hid (∀ X, Below W.heap.size W X → Env X X.heap.size) := Lib.hid (fun X hX => env_mono (env_below hE hX (Nat.le_refl _)) hX.size)
  clear hE
  by_cases hs : 40 < s.size ∨ 40 < t.size
  · have t1 : decide ((40 : Int) < (s.size : Int)) = true ∨ decide ((40 : Int) < (s.size : Int)) = false ∧ decide ((40 : Int) < (t.size : Int)) = true := by
      by_cases h : 40 < s.size
      · exact .inl (decide_eq_true (by omega))
      · exact .inr ⟨decide_eq_false (by omega), decide_eq_true (by omega)⟩
    clear hs
    rcases t1 with t1 | ⟨t1, t2⟩
    all_goals
      go_enter Tryd.func8, Tryd.ntmps8
      go_wp2_with fail
      refine (awake_c _ (HE.out _ (Below.refl _ _))).mono ?_
      rintro e w' ⟨rfl, hb⟩
      go_wp2_with fail
      go_ret
      exact ⟨rfl, hb⟩
  have hs1 : s.size ≤ 40 := by omega
  have ht1 : t.size ≤ 40 := by omega
  have t1 : decide ((40 : Int) < (s.size : Int)) = false := decide_eq_false (by omega)
  have t2 : decide ((40 : Int) < (t.size : Int)) = false := decide_eq_false (by omega)
  have hbe := Lib.hid (bytes_eq s t)
  obtain ⟨S, rfl⟩ : ∃ S : List UInt8, s = ⟨S.toArray⟩ := ⟨s.data.toList, by simp⟩
  obtain ⟨V, rfl⟩ : ∃ V : List UInt8, t = ⟨V.toArray⟩ := ⟨t.data.toList, by simp⟩
  have hS : S.length ≤ 40 := by have e : (⟨S.toArray⟩ : ByteArray).size = S.length := (by show S.toArray.size = _; simp); omega
  have hV : V.length ≤ 40 := by have e : (⟨V.toArray⟩ : ByteArray).size = V.length := (by show V.toArray.size = _; simp); omega
  have t1' : decide ((40 : Int) < (S.length : Int)) = false := decide_eq_false (by omega)
  have t2' : decide ((40 : Int) < (V.length : Int)) = false := decide_eq_false (by omega)
  have hli : (S.map byI).length ≤ 1000000 := by rw [List.length_map]; omega
  have hch : (charsOf [⟨S, 1⟩]).length ≤ 1000000 := by rw [charsOf_q]; unfold qCh; rw [List.length_map]; omega
  have hch2 : ∀ r ∈ ([⟨S, 1⟩] : List Rn), r.t.length ≤ 1000000 := by intro r hr; simp at hr; subst hr; show S.length ≤ _; omega
  have hVS : V.length ≤ 1000000 := by omega
  have hSS : S.length ≤ 1000000 := by omega
  have Hch := Lib.hid hch; have Hch2 := Lib.hid hch2; have Hli := Lib.hid hli; have Hcq := Lib.hid (compileL_q S); have Hok := Lib.hid (ok_byI S)
  have hsp := Lib.hid (spec_byI S)
  have hlq := Lib.hid (litL_q S)
  have hm1 := Lib.hid ((mtL_q S S).trans (decide_eq_true rfl))
  have hm2 : Hid (mtL (S.map byI) V = (S == V)) := Lib.hid ((mtL_q S V).trans (by rw [Bool.eq_iff_iff, decide_eq_true_iff, beq_iff_eq]))
  have Hlen : Hid ((S.map byI).length = S.length) := Lib.hid (by rw [List.length_map])
  clear hch hch2 hli ws wt hs hs1 ht1
  generalize S.map byI = PI at *
  go_enter Tryd.func8, Tryd.ntmps8
  go_wp2_with fail
  refine (quoted_c S _).mono ?_
  rintro e w1 ⟨v1, rfl, o1, m1⟩
  go_wp2_with fail
  refine (compR_c PI PI.length Hcq.out rfl o1 (by simp) Hch.out Hch2.out (HE.out _ m1)).mono ?_
  rintro e w2 ⟨A2, c2, rfl, p2, n2⟩
  have m2 := m1.trans (n2.mono m1.size)
  clear o1 n2 m1
  have hl := literal_c A2 PI c2 w2 p2 Hok.out Hli.out
  rw [hlq.out] at hl
  go_wp2_with fail
  refine hl.mono ?_
  rintro e w3 ⟨rfl, k3⟩
  clear hl
  go_wp2_with fail
  have hc1 := match_c A2 PI c2 S w3 (patAt_mono (patAt_below p2 k3 (Nat.le_refl _)) k3.size) Hok.out Hli.out hSS
  rw [hm1.out] at hc1
  refine hc1.mono ?_
  rintro e w4 ⟨rfl, n4⟩
  have k4 := k3.trans (n4.mono k3.size)
  clear hc1 n4 k3
  go_wp2_with fail
  have hc1 := match_c A2 PI c2 V w4 (patAt_mono (patAt_below p2 k4 (Nat.le_refl _)) k4.size) Hok.out Hli.out hVS
  rw [hm2.out] at hc1
  refine hc1.mono ?_
  rintro e w5 ⟨rfl, n5⟩
  have k5 := k4.trans (n5.mono k4.size)
  have m5 := m2.trans (k5.mono m2.size)
  clear hc1 n5 k4 k5 p2
  have hbb : ((S == V) == (S == V)) = true := beq_self_eq_true _
  go_wp2_with fail
  refine (quoted_c S _).mono ?_
  rintro e w6 ⟨v6, rfl, o6, n6⟩
  have m6 := m5.trans (n6.mono m5.size)
  clear n6 m5
  have hs5 := specR_c o6 (by simp) Hch.out Hch2.out (HE.out _ m6) (by rw [Hcq.out]; exact Hok.out)
  rw [Hcq.out, hsp.out] at hs5
  go_wp2_with fail
  refine hs5.mono ?_
  rintro e w7 ⟨rfl, n7⟩
  have m7 := m6.trans (n7.mono m6.size)
  clear hs5 n7 m6 o6
  go_wp2_with fail
  refine (awake_c _ (HE.out _ m7)).mono ?_
  rintro e w8 ⟨rfl, n8⟩
  have m8 := m7.trans (n8.mono m7.size)
  clear n8 m7
  go_wp2_with fail
  go_ret
  exact ⟨rfl, m8⟩
end Go.Proofs.YthikmjhjbokppaaDoor
