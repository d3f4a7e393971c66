/- PatternEnds: the law's walk. -/
import Derived.Test.YteppndkhmbhnkaaDoorPRmt
import Derived.Test.YteppndkhmbhnkaaDoorPSu0
namespace Go.Proofs.YteppndkhmbhnkaaDoor
open Go.RowKit
set_option linter.unusedVariables false

set_option maxHeartbeats 16000000 in
set_option maxRecDepth 100000 in
theorem ends_walk (A : Option Addr) (is : List It) (c : Nat) (s : ByteArray) (lg : Bool) (W : World) (hA : PatAt W W.heap.size A is) (hlc : is.length ≤ c) (hcm : c ≤ maxLen) (hz : ∀ x ∈ is, (-9223372036854775808 ≤ x.k ∧ x.k ≤ 9223372036854775807) ∧ x.t.length ≤ maxLen ∧ x.set.length ≤ maxLen ∧ ∀ q ∈ x.set, q.1 < 256 ∧ q.2 < 256) (ws : s.size ≤ maxLen) (hE : Env W W.heap.size) :
    Calls Tryd.prog 6 #[.slice A is.length c, .string s, .bool lg] W fun e w' => e = .returned (.bool true) ∧ Below W.heap.size W w' := by
  have HE : Hid (∀ X, Below W.heap.size W X → Env X X.heap.size) := Lib.hid (fun X hX => env_mono (env_below hE hX (Nat.le_refl _)) hX.size)
  have hfew := Lib.hid (few_c 12 (by omega) A is c W hA (fun x hx => ⟨(hz x hx).2.1, (hz x hx).2.2.1⟩) (by omega))
  clear hE
  go_enter Tryd.func6, Tryd.ntmps6
  go_wp2_with fail
  refine hfew.out.mono ?_
  rintro e w0 ⟨rfl, (rfl | ⟨rfl, h8, h60⟩)⟩
  · go_wp2_with fail
    refine (awake_c _ (HE.out _ (Below.refl _ _))).mono ?_
    rintro e w' ⟨rfl, hb⟩
    go_wp2_with fail
    go_ret
    exact ⟨rfl, hb⟩
  clear hfew
  by_cases hs : 40 < s.size
  · have t1 : decide ((40 : Int) < (s.size : Int)) = true := decide_eq_true (by omega)
    clear hs
    go_wp2_with fail
    refine (awake_c _ (HE.out _ (Below.refl _ _))).mono ?_
    rintro e w' ⟨rfl, hb⟩
    go_wp2_with fail
    go_ret
    exact ⟨rfl, hb⟩
  have t1 : decide ((40 : Int) < (s.size : Int)) = false := decide_eq_false (by omega)
  obtain ⟨S, rfl⟩ : ∃ S : List UInt8, s = ⟨S.toArray⟩ := ⟨s.data.toList, by simp⟩
  have hS : S.length ≤ 40 := by have e : (⟨S.toArray⟩ : ByteArray).size = S.length := (by show S.toArray.size = _; simp); omega
  have t1' : decide ((40 : Int) < (S.length : Int)) = false := decide_eq_false (by omega)
  have hok : ∀ x ∈ is, ItOk x := fun x hx => ⟨⟨by have := (h60 x hx).1; omega, (hz x hx).2.2.2⟩, by have := (h60 x hx).2; omega⟩
  have hin : is.length ≤ 1000000 := by omega
  have hSn : S.length ≤ 1000000 := by omega
  have Hap : Hid (∀ X, Below W.heap.size W X → PatAt X X.heap.size A is) := Lib.hid (fun X hX => patAt_mono (patAt_below hA hX (Nat.le_refl _)) hX.size)
  have H1 := Lib.hid (prefix_c A is c S lg W hA hok hin hSn)
  have H2 : Hid (∀ X, Below W.heap.size W X → Calls Tryd.prog 26 #[.slice A is.length c, .string ⟨S.toArray⟩, .bool lg] X fun e w' => e = .returned (.tuple #[.int .i64 ((preL is S lg).1 : Nat), .bool (preL is S lg).2]) ∧ Below W.heap.size W w') := Lib.hid (fun X hX => (refPrefix_c A is c S lg X (Hap.out X hX) hok hin hSn).mono (fun e w' ⟨h1, h2⟩ => ⟨h1, hX.trans (h2.mono hX.size)⟩))
  have H3 : Hid (∀ X, Below W.heap.size W X → Calls Tryd.prog 27 #[.slice A is.length c, .string ⟨S.toArray⟩, .bool lg] X fun e w' => e = .returned (.tuple #[.int .i64 ((sufL is S lg).1 : Nat), .bool (sufL is S lg).2]) ∧ Below W.heap.size W w') := Lib.hid (fun X hX => (suffixA_c A c is S lg X (Hap.out X hX) hok hin hSn).mono (fun e w' ⟨h1, h2⟩ => ⟨h1, hX.trans (h2.mono hX.size)⟩))
  have H4 : Hid (∀ X, Below W.heap.size W X → Calls Tryd.prog 28 #[.slice A is.length c, .string ⟨S.toArray⟩, .bool lg] X fun e w' => e = .returned (.tuple #[.int .i64 ((sufL is S lg).1 : Nat), .bool (sufL is S lg).2]) ∧ Below W.heap.size W w') := Lib.hid (fun X hX => (refSuffix_c A is c S lg X (Hap.out X hX) hok hin hSn).mono (fun e w' ⟨h1, h2⟩ => ⟨h1, hX.trans (h2.mono hX.size)⟩))
  generalize preL is S lg = P at *
  generalize sufL is S lg = Q at *
  obtain ⟨p, pb⟩ := P
  obtain ⟨q, qb⟩ := Q
  have h1 : ((p : Int) == (p : Int)) = true := beq_self_eq_true _
  have h2 : ((q : Int) == (q : Int)) = true := beq_self_eq_true _
  have h3 : (pb == pb) = true := beq_self_eq_true _
  have h4 : (qb == qb) = true := beq_self_eq_true _
  clear ws hs h60 hok hA hz Hap
  go_wp2_with fail
  refine H1.out.mono ?_
  rintro e w1 ⟨rfl, m1⟩
  go_wp2_with fail
  refine (H2.out _ m1).mono ?_
  rintro e w2 ⟨rfl, m2⟩
  clear H1 H2 m1
  go_wp2_with fail
  refine (H3.out _ m2).mono ?_
  rintro e w3 ⟨rfl, m3⟩
  clear H3 m2
  go_wp2_with fail
  refine (H4.out _ m3).mono ?_
  rintro e w4 ⟨rfl, m4⟩
  clear H4 m3
  go_wp2_with fail
  refine (awake_c _ (HE.out _ m4)).mono ?_
  rintro e w7 ⟨rfl, n7⟩
  have m7 := m4.trans (n7.mono m4.size)
  clear m4 n7
  go_wp2_with fail
  go_ret
  exact ⟨rfl, m7⟩
end Go.Proofs.YteppndkhmbhnkaaDoor
