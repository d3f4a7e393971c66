/- PatternStars: the law's walk. -/
import Derived.Test.YteppndkhmbhnkaaDoorPSt
import Derived.Test.YteppndkhmbhnkaaDoorPSml
namespace Go.Proofs.YteppndkhmbhnkaaDoor
open Go.RowKit
set_option linter.unusedVariables false

theorem patInfo2 : (Tryd.prog.info? 43).map (fun i => (i.zero, i.size, i.bytes)) = some (some (.agg #[.int .i64 0, .string { data := #[] }, .bool false, .slice none 0 0]), 4, 56) := by kernel_rfl
theorem copy_run (A : Option Addr) (is : List It) (c : Nat) (w : World) (hA : PatAt w w.heap.size A is) (hnone : A = none → is = [] ∧ c = 0) (hl : is.length ≤ 1000000) :
    ∃ v8 w8, (Builtin.append_ #[26, 26] 26 #[.slice (some ⟨w.heap.size, 0, none⟩) 0 0, .slice A is.length c]).run Tryd.prog (w.alloc (.cells #[] 43)) = .ok v8 w8 ∧
      (∃ vs : List Value, vs.length = is.length ∧ (∀ v ∈ vs, v.oneCell' = true) ∧ w8.ownsRow w.heap.size 43 4 v8 is.length (itCells is vs) ∧ (∀ i (hi : i < is.length) (hi' : i < vs.length), SpAt w8 w.heap.size (vs[i]'hi') (is[i]'hi).set)) ∧ Below w.heap.size w w8 := by
  obtain ⟨i0, hi, hz0, hz1, hz2⟩ := info_parts patInfo2
  have hb := (Below.refl w.heap.size w).alloc (Nat.le_refl _) (.cells #[] 43)
  rcases A with _ | ad
  · obtain ⟨rfl, rfl⟩ := hnone rfl
    exact ⟨_, _, run_append_owned_none (w.alloc (.cells #[] 43)) w.heap.size _ _ 43 i0 4 Tryd.underlying26 hi _ 0 _ (own_empty w), ⟨[], rfl, by simp, own_empty w, fun i hi => by simp at hi⟩, hb⟩
  · obtain ⟨vs, h1, h2, h3, h4⟩ := patAt_vals (patAt_below hA hb (Nat.le_refl _))
    obtain ⟨v8, w8, hr, ho, hg, _⟩ := run_append_own (w.alloc (.cells #[] 43)) w.heap.size 26 26 43 i0 _ 4 56 Tryd.underlying26 hi hz0 hz1 hz2 rfl (by decide) _ 0 _ (own_empty w) ad is.length c (itCells is vs) (itCells_length is vs h1) h3 (itCells_one is vs h2) (by unfold maxLen; omega) (by omega) hb.size
    have hb8 : Below w.heap.size w w8 := hb.grown hg hb.size (fun q hq => by
      have := (own_empty w).lt q hq
      exact this.1)
    refine ⟨v8, w8, hr, ⟨vs, h1, h2, by rw [Nat.zero_add, List.nil_append] at ho; exact ho, fun i hi hi' => ?_⟩, hb8⟩
    obtain ⟨vs', g1, g2, g3, g4⟩ := patAt_vals hA
    have := h4 i hi hi'
    exact spAt_below (spAt_below (spAt_mono this (Nat.le_refl _)) (Below.refl _ _) (Nat.le_refl _)) ((Below.refl w.heap.size (w.alloc (.cells #[] 43))).grown hg hb.size (fun q hq => ((own_empty w).lt q hq).1)) (Nat.le_refl _)
theorem star_run (is : List It) (B : Nat) (v : Value) (vs : List Value) (w : World) (hv : vs.length = is.length) (h1 : ∀ v ∈ vs, v.oneCell' = true) (ho : w.ownsRow B 43 4 v is.length (itCells is vs)) (hs : ∀ i (hi : i < is.length) (hi' : i < vs.length), SpAt w B (vs[i]'hi') (is[i]'hi).set) (hB : B ≤ w.heap.size) (hl : is.length ≤ 1000000) :
    ∃ v8 w8, (Builtin.append_ #[26, 26] 26 #[v, .slice (some ⟨w.heap.size, 0, none⟩) 1 1]).run Tryd.prog (w.alloc (.cells #[.int .i64 3, .string { data := #[] }, .bool false, .slice none 0 0] 43)) = .ok v8 w8 ∧
      (∃ A c, v8 = .slice A (is.length + 1) c ∧ PatAt w8 w8.heap.size A (is ++ [starI])) ∧ Below B w w8 := by
  obtain ⟨i0, hi, hz0, hz1, hz2⟩ := info_parts patInfo2
  have hb := (Below.refl B w).alloc hB (.cells #[.int .i64 3, .string { data := #[] }, .bool false, .slice none 0 0] 43)
  have ho2 := World.ownsRow.alloc ho (.cells #[.int .i64 3, .string { data := #[] }, .bool false, .slice none 0 0] 43)
  have hnews := World.news_of_block (cs := #[.int .i64 3, .string { data := #[] }, .bool false, .slice none 0 0]) (t := 43) (fr := (0, 0)) (heap_alloc_new w (.cells #[.int .i64 3, .string { data := #[] }, .bool false, .slice none 0 0] 43))
  obtain ⟨v8, w8, hr, ho8, hg, _⟩ := run_append_own _ B 26 26 43 i0 _ 4 56 Tryd.underlying26 hi hz0 hz1 hz2 rfl (by decide) v is.length _ ho2 ⟨w.heap.size, 0, none⟩ 1 1 [.int .i64 3, .string { data := #[] }, .bool false, .slice none 0 0] rfl hnews (by intro u hu; simp at hu; rcases hu with rfl | rfl | rfl | rfl <;> rfl) (by unfold maxLen; omega) (by omega) (Nat.le_trans hB hb.size)
  have hb8 : Below B w w8 := hb.grown hg (Nat.le_trans hB hb.size) (fun q hq => (ho2.lt q hq).1)
  refine ⟨v8, w8, hr, ?_, hb8⟩
  have hc : itCells is vs ++ [.int .i64 3, .string { data := #[] }, .bool false, .slice none 0 0] = itCells (is ++ [starI]) (vs ++ [.slice none 0 0]) := by
    rw [itCells_append is vs _ _ hv]
    rfl
  have hn : is.length + 1 = (is ++ [starI]).length := by simp
  rw [hc, hn] at ho8
  obtain ⟨A, c, e, hp, _, _⟩ := patAt_row (by simp [hv]) ho8 (fun i hi hi' => by
    by_cases hii : i < is.length
    · rw [List.getElem_append_left (by omega), List.getElem_append_left hii]
      exact spAt_mono (spAt_below (hs i hii (by omega)) hb8 (Nat.le_refl _)) (Nat.le_trans hB hb8.size)
    · rw [List.getElem_append_right (by omega), List.getElem_append_right (by omega)]
      refine ⟨none, 0, ?_, .inl ?_⟩
      · simp [starI]
      · simp [starI])
  exact ⟨A, c, by rw [e, ← hn], hp⟩
set_option maxHeartbeats 16000000 in
set_option maxRecDepth 100000 in
theorem stars_walk (A : Option Addr) (is : List It) (c : Nat) (s t : ByteArray) (W : World) (hA : PatAt W W.heap.size A is) (hnone : A = none → is = [] ∧ c = 0) (hlc : is.length ≤ c) (hcm : c ≤ maxLen) (hz : ∀ x ∈ is, (-9223372036854775808 ≤ x.k ∧ x.k ≤ 9223372036854775807) ∧ x.t.length ≤ maxLen ∧ x.set.length ≤ maxLen ∧ ∀ q ∈ x.set, q.1 < 256 ∧ q.2 < 256) (ws : s.size ≤ maxLen) (wt : t.size ≤ maxLen) (hE : Env W W.heap.size) :
    Calls Tryd.prog 9 #[.slice A is.length c, .string s, .string t] W fun e w' => e = .returned (.bool true) ∧ Below W.heap.size W w' := by
  have HE : Hid (∀ X, Below W.heap.size W X → Env X X.heap.size) := Lib.hid (fun X hX => env_mono (env_below hE hX (Nat.le_refl _)) hX.size)
  have hfew := Lib.hid (few_c 10 (by omega) A is c W hA (fun x hx => ⟨(hz x hx).2.1, (hz x hx).2.2.1⟩) (by omega))
  clear hE
  go_enter Tryd.func9, Tryd.ntmps9
  go_wp2_with fail
  refine hfew.out.mono ?_
  rintro e w0 ⟨rfl, (rfl | ⟨rfl, h8, h60⟩)⟩
  · go_wp2_with fail
    refine (awake_c _ (HE.out _ (Below.refl _ _))).mono ?_
    rintro e w' ⟨rfl, hb⟩
    go_wp2_with fail
    go_ret
    exact ⟨rfl, hb⟩
  clear hfew
  by_cases hs : 30 < s.size ∨ 30 < t.size
  · have t1 : decide ((30 : Int) < (s.size : Int)) = true ∨ decide ((30 : Int) < (s.size : Int)) = false ∧ decide ((30 : Int) < (t.size : Int)) = true := by
      by_cases h : 30 < s.size
      · exact .inl (decide_eq_true (by omega))
      · exact .inr ⟨decide_eq_false (by omega), decide_eq_true (by omega)⟩
    clear hs
    rcases t1 with t1 | ⟨t1, t2⟩
    all_goals
      go_wp2_with fail
      refine (awake_c _ (HE.out _ (Below.refl _ _))).mono ?_
      rintro e w' ⟨rfl, hb⟩
      go_wp2_with fail
      go_ret
      exact ⟨rfl, hb⟩
  have hs1 : s.size ≤ 30 := by omega
  have ht1 : t.size ≤ 30 := by omega
  have t1 : decide ((30 : Int) < (s.size : Int)) = false := decide_eq_false (by omega)
  have t2 : decide ((30 : Int) < (t.size : Int)) = false := decide_eq_false (by omega)
  obtain ⟨S, rfl⟩ : ∃ S : List UInt8, s = ⟨S.toArray⟩ := ⟨s.data.toList, by simp⟩
  obtain ⟨V, rfl⟩ : ∃ V : List UInt8, t = ⟨V.toArray⟩ := ⟨t.data.toList, by simp⟩
  have hS : S.length ≤ 30 := by have e : (⟨S.toArray⟩ : ByteArray).size = S.length := (by show S.toArray.size = _; simp); omega
  have hV : V.length ≤ 30 := by have e : (⟨V.toArray⟩ : ByteArray).size = V.length := (by show V.toArray.size = _; simp); omega
  have t1' : decide ((30 : Int) < (S.length : Int)) = false := decide_eq_false (by omega)
  have t2' : decide ((30 : Int) < (V.length : Int)) = false := decide_eq_false (by omega)
  have hok : ∀ x ∈ is, ItOk x := fun x hx => ⟨⟨by have := (h60 x hx).1; omega, (hz x hx).2.2.2⟩, by have := (h60 x hx).2; omega⟩
  have hok2 : ∀ x ∈ is ++ [starI], ItOk x := fun x hx => by
    rcases List.mem_append.1 hx with h | h
    · exact hok x h
    · simp at h; subst h; exact ⟨⟨by simp [starI], by simp [starI]⟩, by simp [starI]⟩
  have hin : is.length ≤ 1000000 := by omega
  have hin2 : (is ++ [starI]).length ≤ 1000000 := by simp; omega
  have hSn : S.length ≤ 1000000 := by omega
  have hSV : (S ++ V).length ≤ 1000000 := by rw [List.length_append]; omega
  have hapb : (⟨S.toArray⟩ : ByteArray) ++ ⟨V.toArray⟩ = ⟨(S ++ V).toArray⟩ := by
    apply ByteArray.ext
    simp
  have Hap : Hid (∀ X, Below W.heap.size W X → PatAt X X.heap.size A is) := Lib.hid (fun X hX => patAt_mono (patAt_below hA hX (Nat.le_refl _)) hX.size)
  have Hpre : Hid (∀ X lg, Below W.heap.size W X → Calls Tryd.prog 25 #[.slice A is.length c, .string ⟨S.toArray⟩, .bool lg] X fun e w' => e = .returned (.tuple #[.int .i64 ((preL is S lg).1 : Nat), .bool (preL is S lg).2]) ∧ Below W.heap.size W w') := Lib.hid (fun X lg hX => (prefix_c A is c S lg X (Hap.out X hX) hok hin hSn).mono (fun e w' ⟨h1, h2⟩ => ⟨h1, hX.trans (h2.mono hX.size)⟩))
  have Hmt : Hid (∀ X lg, Below W.heap.size W X → (preL is S lg).2 = true → Calls Tryd.prog 23 #[.slice A is.length c, .string ((⟨S.toArray⟩ : ByteArray).extract 0 (preL is S lg).1)] X fun e w' => e = .returned (.bool true) ∧ Below W.heap.size W w') := Lib.hid (fun X lg hX hb => by
    have e : ((⟨S.toArray⟩ : ByteArray).extract 0 (preL is S lg).1) = ⟨(S.take (preL is S lg).1).toArray⟩ := by
      apply ByteArray.ext
      simp
    rw [e]
    have h := match_c A is c (S.take (preL is S lg).1) X (Hap.out X hX) hok hin (by rw [List.length_take]; omega)
    rw [mtL_pre is S lg hb] at h
    exact h.mono (fun e w' ⟨h1, h2⟩ => ⟨h1, hX.trans (h2.mono hX.size)⟩))
  have Hpf : Hid (∀ X, Below W.heap.size W X → Calls Tryd.prog 34 #[.slice A is.length c, .string (⟨S.toArray⟩ ++ ⟨V.toArray⟩)] X fun e w' => e = .returned (.bool (preL is (S ++ V) false).2) ∧ Below W.heap.size W w') := Lib.hid (fun X hX => by
    rw [hapb]
    exact (prefixes_c A is c (S ++ V) X (Hap.out X hX) hok hin hSV).mono (fun e w' ⟨h1, h2⟩ => ⟨h1, hX.trans (h2.mono hX.size)⟩))
  have Hms : Hid (∀ X A2 c2, Below W.heap.size W X → PatAt X X.heap.size A2 (is ++ [starI]) → Calls Tryd.prog 23 #[.slice A2 (is.length + 1) c2, .string (⟨S.toArray⟩ ++ ⟨V.toArray⟩)] X fun e w' => e = .returned (.bool (preL is (S ++ V) false).2) ∧ Below W.heap.size W w') := Lib.hid (fun X A2 c2 hX hp => by
    rw [hapb]
    have h := match_c A2 (is ++ [starI]) c2 (S ++ V) X hp hok2 hin2 hSV
    rw [mtL_star, show (is ++ [starI]).length = is.length + 1 from by simp] at h
    exact h.mono (fun e w' ⟨h1, h2⟩ => ⟨h1, hX.trans (h2.mono hX.size)⟩))
  have Hcp : Hid (∀ X, Below W.heap.size W X → ∃ v8 w8, (Builtin.append_ #[26, 26] 26 #[.slice (some ⟨X.heap.size, 0, none⟩) 0 0, .slice A is.length c]).run Tryd.prog (X.alloc (.cells #[] 43)) = .ok v8 w8 ∧
      (∃ v9 w9, (Builtin.append_ #[26, 26] 26 #[v8, .slice (some ⟨w8.heap.size, 0, none⟩) 1 1]).run Tryd.prog (w8.alloc (.cells #[.int .i64 3, .string { data := #[] }, .bool false, .slice none 0 0] 43)) = .ok v9 w9 ∧
      (∃ A2 c2, v9 = .slice A2 (is.length + 1) c2 ∧ PatAt w9 w9.heap.size A2 (is ++ [starI])) ∧ Below W.heap.size W w9)) := Lib.hid (fun X hX => by
    obtain ⟨v8, w8, h1, ⟨vs, h2, h3, h4, h5⟩, h6⟩ := copy_run A is c X (Hap.out X hX) hnone hin
    obtain ⟨v9, w9, g1, g2, g3⟩ := star_run is X.heap.size v8 vs w8 h2 h3 h4 h5 h6.size hin
    exact ⟨v8, w8, h1, v9, w9, g1, g2, hX.trans ((h6.trans g3).mono hX.size)⟩)
  obtain ⟨hb2, hle⟩ := preL_two is S
  have hlm := preL_le is S true
  clear ws wt hs hs1 ht1 h60 hok hok2 hin2 hnone hA hz hapb
  have hlen : (⟨S.toArray⟩ : ByteArray).size = S.length := by show S.toArray.size = _; simp
  have P0 := Lib.hid (Hpre.out · false); have P1 := Lib.hid (Hpre.out · true)
  have M0 := Lib.hid (Hmt.out · false); have M1 := Lib.hid (Hmt.out · true)
  clear Hpre Hmt
  generalize preL is S false = R0 at *
  generalize preL is S true = R1 at *
  obtain ⟨n, b⟩ := R0
  obtain ⟨m, b'⟩ := R1
  simp only at hb2 hle hlm
  subst hb2
  generalize (preL is (S ++ V) false).2 = r at *
  have hrr : (r == r) = true := beq_self_eq_true _
  have d1 : decide ((m : Int) < (n : Int)) = false := decide_eq_false (by omega)
  have d1' : decide (m < n) = false := decide_eq_false (by omega)
  have d2 : decide ((n : Int) < 0) = false := decide_eq_false (by omega)
  have d3 : decide ((S.length : Int) < (m : Int)) = false := decide_eq_false (by omega)
  have d3' : decide (S.length < m) = false := decide_eq_false (by omega)
  have a1 : (0 : Int) ≤ (n : Int) ∧ (n : Int) ≤ (S.length : Int) := by omega
  have a2 : (0 : Int) ≤ (m : Int) ∧ (m : Int) ≤ (S.length : Int) := by omega
  have a3 : n ≤ S.length := by omega
  go_wp2_with fail
  refine (P0.out _ (Below.refl _ _)).mono ?_
  rintro e w1 ⟨rfl, m1⟩
  go_wp2_with fail
  refine (P1.out _ m1).mono ?_
  rintro e w2 ⟨rfl, m2⟩
  clear P0 P1 m1
  have fin : Hid (∀ X, Below W.heap.size W X → ∃ v8 w8, (Builtin.append_ #[26, 26] 26 #[.slice (some ⟨X.heap.size, 0, none⟩) 0 0, .slice A is.length c]).run Tryd.prog (X.alloc (.cells #[] 43)) = .ok v8 w8 ∧
      (∃ A2 c2 w9, (Builtin.append_ #[26, 26] 26 #[v8, .slice (some ⟨w8.heap.size, 0, none⟩) 1 1]).run Tryd.prog (w8.alloc (.cells #[.int .i64 3, .string { data := #[] }, .bool false, .slice none 0 0] 43)) = .ok (.slice A2 (is.length + 1) c2) w9 ∧
      Below W.heap.size W w9 ∧ Calls Tryd.prog 23 #[.slice A2 (is.length + 1) c2, .string (⟨S.toArray⟩ ++ ⟨V.toArray⟩)] w9 fun e w' => e = .returned (.bool r) ∧ Below W.heap.size W w')) := Lib.hid (fun X hX => by
    obtain ⟨v8, w8, h1, v9, w9, g1, ⟨A2, c2, rfl, g2⟩, g3⟩ := Hcp.out X hX
    exact ⟨v8, w8, h1, A2, c2, w9, g1, g3, Hms.out w9 A2 c2 g3 g2⟩)
  clear Hcp Hms Hap
  rcases b' with _ | _
  · obtain ⟨v8, w8, hr1, A2, c2, w9, hr2, g3, hms⟩ := fin.out _ m2
    clear fin M0 M1
    go_wp2_with (at_builtin; first | (refine Lib.wpList_append_run _ rfl _ _ _ _ rfl _ _ rfl rfl _ _ hr1 ?_) | (refine Lib.wpList_append_run _ rfl _ _ _ _ rfl _ _ rfl rfl _ _ hr2 ?_))
    refine hms.mono ?_
    rintro e w5 ⟨rfl, m5⟩
    clear hr1 hr2 g3 hms
    go_wp2_with fail
    refine (Hpf.out _ m5).mono ?_
    rintro e w6 ⟨rfl, m6⟩
    clear m5
    go_wp2_with fail
    refine (awake_c _ (HE.out _ m6)).mono ?_
    rintro e w7 ⟨rfl, n7⟩
    have m7 := m6.trans (n7.mono m6.size)
    clear m6 n7
    go_wp2_with fail
    go_ret
    exact ⟨rfl, m7⟩
  · go_wp2_with fail
    refine (M0.out _ m2 (by first | trivial | rfl)).mono ?_
    rintro e w3 ⟨rfl, m3⟩
    go_wp2_with fail
    refine (M1.out _ m3 (by first | trivial | rfl)).mono ?_
    rintro e w4 ⟨rfl, m4⟩
    obtain ⟨v8, w8, hr1, A2, c2, w9, hr2, g3, hms⟩ := fin.out _ m4
    clear fin M0 M1
    go_wp2_with (at_builtin; first | (refine Lib.wpList_append_run _ rfl _ _ _ _ rfl _ _ rfl rfl _ _ hr1 ?_) | (refine Lib.wpList_append_run _ rfl _ _ _ _ rfl _ _ rfl rfl _ _ hr2 ?_))
    refine hms.mono ?_
    rintro e w5 ⟨rfl, m5⟩
    clear hr1 hr2 g3 hms
    go_wp2_with fail
    refine (Hpf.out _ m5).mono ?_
    rintro e w6 ⟨rfl, m6⟩
    clear m5
    go_wp2_with fail
    refine (awake_c _ (HE.out _ m6)).mono ?_
    rintro e w7 ⟨rfl, n7⟩
    have m7 := m6.trans (n7.mono m6.size)
    clear m6 n7
    go_wp2_with fail
    go_ret
    exact ⟨rfl, m7⟩
end Go.Proofs.YteppndkhmbhnkaaDoor
