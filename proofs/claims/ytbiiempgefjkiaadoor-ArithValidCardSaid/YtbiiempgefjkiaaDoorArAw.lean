/- arith: awake. -/
import Derived.Test.YtbiiempgefjkiaaDoorArA0
namespace Go.Proofs.YtbiiempgefjkiaaDoor.Ar
open Go.RowKit
set_option linter.unusedVariables false

theorem Show_k (A : Option Addr) (c : Nat) (w : World) (hE : Env w) (hT : Tab w) (hK : KidsIn w w.heap.size kA A) (hl : 2 ≤ c) (hc : c ≤ maxLen) :
    Calls Tryd.prog 11 #[.agg #[.int .i64 7, .int .i64 0, .string ⟨#[]⟩, .slice A 2 c]] w fun e w' => e = .returned (.tuple #[.string ⟨#[40, 49, 32, 43, 32, 50, 41, 32, 42, 32, 51]⟩, .int .i64 0]) ∧ Below w.heap.size w w' := by
  have h := Show_c (.mk 7 0 ⟨#[]⟩ kA) A c w hE hT wfA hK hl hc lA
  rw [sA] at h
  exact h
theorem Valid_k (A : Option Addr) (c : Nat) (w : World) (hE : Env w) (hK : KidsIn w w.heap.size kA A) (hl : 2 ≤ c) (hc : c ≤ maxLen) :
    Calls Tryd.prog 13 #[.agg #[.int .i64 7, .int .i64 0, .string ⟨#[]⟩, .slice A 2 c]] w fun e w' => e = .returned (.int .i64 0) ∧ Below w.heap.size w w' := by
  have h := Valid_c (.mk 7 0 ⟨#[]⟩ kA) A c w hE hK hl hc
  rw [vA] at h
  exact h
theorem Valid_z (w : World) (hE : Env w) :
    Calls Tryd.prog 13 #[.agg #[.int .i64 0, .int .i64 0, .string ⟨#[]⟩, .slice none 0 0]] w fun e w' => e = .returned (.int .i64 1) ∧ Below w.heap.size w w' := by
  have h := Valid_c (.mk 0 0 ⟨#[]⟩ []) none 0 w hE (by simp [KidsIn, KidsAt, Ex.kids]) (by simp [Ex.kids]) (by unfold maxLen; omega)
  rw [vZ] at h
  exact h
theorem Same_k (A : Option Addr) (c : Nat) (w : World) (hK : KidsIn w w.heap.size kA A) (hl : 2 ≤ c) (hc : c ≤ maxLen) :
    Calls Tryd.prog 17 #[.agg #[.int .i64 7, .int .i64 0, .string ⟨#[]⟩, .slice A 2 c], .agg #[.int .i64 7, .int .i64 0, .string ⟨#[]⟩, .slice A 2 c]] w fun e w' => e = .returned (.bool true) ∧ Below w.heap.size w w' := by
  have h := Same_c _ (.mk 7 0 ⟨#[]⟩ kA) (.mk 7 0 ⟨#[]⟩ kA) A A c c w (Nat.le_refl _) hK hK hl hc hl hc
  rw [mA] at h
  exact h
theorem Same_d (A A' : Option Addr) (c c' : Nat) (w : World) (hK : KidsIn w w.heap.size kA A) (hK' : KidsIn w w.heap.size kB A') (hl : 2 ≤ c) (hc : c ≤ maxLen) (hl' : 1 ≤ c') (hc' : c' ≤ maxLen) :
    Calls Tryd.prog 17 #[.agg #[.int .i64 7, .int .i64 0, .string ⟨#[]⟩, .slice A 2 c], .agg #[.int .i64 26, .int .i64 0, .string ⟨#[97]⟩, .slice A' 1 c']] w fun e w' => e = .returned (.bool false) ∧ Below w.heap.size w w' := by
  have h := Same_c _ (.mk 7 0 ⟨#[]⟩ kA) (.mk 26 0 ⟨#[97]⟩ kB) A A' c c' w (Nat.le_refl _) hK hK' hl hc hl' hc'
  rw [mAB] at h
  exact h
theorem Names_k (A : Option Addr) (c : Nat) (w : World) (hK : KidsIn w w.heap.size kB A) (hl : 1 ≤ c) (hc : c ≤ maxLen) :
    Calls Tryd.prog 15 #[.agg #[.int .i64 26, .int .i64 0, .string ⟨#[97]⟩, .slice A 1 c]] w fun e w' => ∃ g cap, e = .returned (.slice (some ⟨g, 0, none⟩) 2 cap) ∧ w'.cell? ⟨g, 0, none⟩ = some (.string ⟨#[97]⟩) ∧ w'.cell? ⟨g, 1, none⟩ = some (.string ⟨#[98]⟩) ∧ g < w'.heap.size ∧ Below w.heap.size w w' := by
  have h := Names_c (.mk 26 0 ⟨#[97]⟩ kB) A c w wfB hK hl hc (by rw [nB]; decide)
  rw [nB] at h
  refine Calls.mono h ?_
  rintro e w' ⟨v, rfl, hr, hb⟩
  rcases hr.2 with ⟨_, h0⟩ | ⟨g, cap, cur, rfl, hbg, hh, hnc, hcm, hcs, htk⟩
  · simp at h0
  have hget : ∀ (j : Nat) (u : Value), [Value.string ⟨#[97]⟩, Value.string ⟨#[98]⟩][j]? = some u → w'.cell? ⟨g, j, none⟩ = some u := by
    intro j u hj
    have hj2 : (cur.toList.take 2)[j]? = some u := by
      have : cur.toList.take 2 = [Value.string ⟨#[97]⟩, Value.string ⟨#[98]⟩] := htk
      rw [this]; exact hj
    have hjl : j < 2 := by
      rcases Nat.lt_or_ge j 2 with h | h
      · exact h
      · rw [List.getElem?_eq_none (by simpa using h)] at hj; cases hj
    rw [List.getElem?_take, if_pos hjl] at hj2
    rw [Lib.cell_of_heap hh]
    simpa using hj2
  exact ⟨g, cap, rfl, hget 0 _ rfl, hget 1 _ rfl, (Array.getElem?_eq_some_iff.1 hh).1, hb⟩
set_option maxHeartbeats 8000000 in
set_option maxRecDepth 100000 in
theorem awake_c (w : World) (hE : Env w) (hT : Tab w) : Calls Tryd.prog 10 #[] w fun e w' => e = .returned (.bool true) ∧ Below w.heap.size w w' := by
  have hEl := env_lt hE
  have hTl := tab_lt hT
  have HE := Lib.hid (fun W (h : Below w.heap.size w W) => env_below hE h hEl)
  have HT := Lib.hid (fun W (h : Below w.heap.size w W) => tab_below hT h hTl)
  have HC := Lib.hid (Parse_k 2 w pA rfl hE)
  clear hE hT hEl hTl
  go_enter Tryd.func10, Tryd.ntmps10
  go_wp2_with fail
  refine HC.out.mono ?_
  rintro e w1 ⟨A1, c1, rfl, hK1, hl1, hm1, hb1⟩
  have hs1 := hb1.size
  have hb1a := hb1.alloc hs1 (.cells #[.int .i64 7, .int .i64 0, .string ⟨#[]⟩, .slice A1 2 c1] 24)
  have hx1 := (Below.refl w1.heap.size w1).alloc (Nat.le_refl _) (.cells #[.int .i64 7, .int .i64 0, .string ⟨#[]⟩, .slice A1 2 c1] 24)
  have hK1a : KidsIn (w1.alloc (.cells #[.int .i64 7, .int .i64 0, .string ⟨#[]⟩, .slice A1 2 c1] 24)) (w1.alloc (.cells #[.int .i64 7, .int .i64 0, .string ⟨#[]⟩, .slice A1 2 c1] 24)).heap.size kA A1 := kidsIn_below hK1 hx1 hx1.size
  have hn1a := heap_alloc_new w1 (.cells #[.int .i64 7, .int .i64 0, .string ⟨#[]⟩, .slice A1 2 c1] 24)
  have HS := Lib.hid (Show_k A1 c1 _ (HE.out _ hb1a) (HT.out _ hb1a) hK1a hl1 hm1)
  have Hb1 := Lib.hid hb1a
  have HK1 := Lib.hid hK1a
  have HN1 := Lib.hid hn1a
  have HM1 := Lib.hid (And.intro hl1 hm1)
  clear hb1 hb1a hx1 hK1 hK1a hn1a HC hs1 hl1 hm1
  go_wp2_with fail
  refine HS.out.mono ?_
  rintro e w2 ⟨rfl, hb2⟩
  have HN2 := Lib.hid ((hb2.block w1.heap.size (by simp)).trans HN1.out)
  have HK2 := Lib.hid (kidsIn_below HK1.out hb2 hb2.size)
  have hq2 := Hb1.out.trans (hb2.mono Hb1.out.size)
  have Hb2 := Lib.hid hq2
  have HC := Lib.hid (Parse_k 0 w2 pB rfl (HE.out _ hq2))
  clear hq2 hb2 HS HK1 HN1 Hb1
  go_wp2_with fail
  refine HC.out.mono ?_
  rintro e w3 ⟨A2, c2, rfl, _, _, _, hb3⟩
  have hq3 := Hb2.out.trans (hb3.mono Hb2.out.size)
  have ha3 := (Below.refl w3.heap.size w3).alloc (Nat.le_refl _) (.cells #[.int .i64 0, .int .i64 0, .string ⟨#[]⟩, .slice A2 0 c2] 24)
  have hb1w2 : w1.heap.size < w2.heap.size := (Array.getElem?_eq_some_iff.1 HN2.out).1
  have hn3 := (ha3.block _ (by have := hb3.size; omega)).trans ((hb3.block w1.heap.size hb1w2).trans HN2.out)
  have hk3 := kidsIn_below (kidsIn_below HK2.out hb3 hb3.size) ha3 ha3.size
  have hq3a := hq3.trans (ha3.mono hq3.size)
  have HC2 := Lib.hid (Parse_k 1 _ pC rfl (HE.out _ hq3a))
  have HN3 := Lib.hid hn3
  have HK3 := Lib.hid hk3
  have Hb3 := Lib.hid hq3a
  clear hq3 ha3 hn3 hk3 hq3a hb3 HC HN2 HK2 Hb2 hb1w2
  go_wp2_with fail
  refine HC2.out.mono ?_
  rintro e w4 ⟨A3, c3, rfl, hK4, hl4, hm4, hb4⟩
  have hb1w3 : w1.heap.size < (w3.alloc (.cells #[.int .i64 0, .int .i64 0, .string ⟨#[]⟩, .slice A2 0 c2] 24)).heap.size := (Array.getElem?_eq_some_iff.1 HN3.out).1
  have ha4 := (Below.refl w4.heap.size w4).alloc (Nat.le_refl _) (.cells #[.int .i64 26, .int .i64 0, .string ⟨#[97]⟩, .slice A3 1 c3] 24)
  have hn4 := (hb4.block w1.heap.size hb1w3).trans HN3.out
  have hb1w4 : w1.heap.size < w4.heap.size := (Array.getElem?_eq_some_iff.1 hn4).1
  have hn4a := (ha4.block _ hb1w4).trans hn4
  have hm4a := heap_alloc_new w4 (.cells #[.int .i64 26, .int .i64 0, .string ⟨#[97]⟩, .slice A3 1 c3] 24)
  have hk4 := kidsIn_below (kidsIn_below HK3.out hb4 hb4.size) ha4 ha4.size
  have hk4b := kidsIn_below hK4 ha4 ha4.size
  have hq4 := Hb3.out.trans (hb4.mono Hb3.out.size)
  have hq4a := hq4.trans (ha4.mono hq4.size)
  have HNm := Lib.hid (Names_k A3 c3 _ hk4b hl4 hm4)
  have HN4 := Lib.hid hn4a
  have HO4 := Lib.hid hm4a
  have HK4 := Lib.hid hk4
  have HL4 := Lib.hid hk4b
  have Hb4 := Lib.hid hq4a
  have HM4 := Lib.hid (And.intro hl4 hm4)
  clear hb1w3 ha4 hn4 hb1w4 hn4a hm4a hk4 hk4b hq4 hq4a hl4 hm4 hb4 hK4 HC2 HN3 HK3 Hb3
  go_wp2_with fail
  refine HNm.out.mono ?_
  rintro e w5 ⟨g, cap, rfl, g0, g1, hg, hb5⟩
  have z4 : w1.heap.size < (w4.alloc (.cells #[.int .i64 26, .int .i64 0, .string ⟨#[97]⟩, .slice A3 1 c3] 24)).heap.size := (Array.getElem?_eq_some_iff.1 HN4.out).1
  have Hp := Lib.hid ((hb5.block w1.heap.size z4).trans HN4.out)
  have Hr := Lib.hid ((hb5.block w4.heap.size (by simp)).trans HO4.out)
  have hk5 := kidsIn_below HK4.out hb5 hb5.size
  have hk5b := kidsIn_below HL4.out hb5 hb5.size
  have hq5 := Hb4.out.trans (hb5.mono Hb4.out.size)
  have HK5 := Lib.hid hk5
  have HL5 := Lib.hid hk5b
  have Hb5 := Lib.hid hq5
  have HC := Lib.hid (Same_k A1 c1 w5 hk5 HM1.out.1 HM1.out.2)
  clear z4 hk5 hk5b hq5 hb5 HN4 HO4 HK4 HL4 Hb4 HNm hg
  have p0 : w5.cell? ⟨w1.heap.size, 0, none⟩ = some (.int .i64 7) := by rw [Lib.cell_of_heap Hp.out]; rfl
  have p1 : w5.cell? ⟨w1.heap.size, 1, none⟩ = some (.int .i64 0) := by rw [Lib.cell_of_heap Hp.out]; rfl
  have p2 : w5.cell? ⟨w1.heap.size, 2, none⟩ = some (.string ⟨#[]⟩) := by rw [Lib.cell_of_heap Hp.out]; rfl
  have p3 : w5.cell? ⟨w1.heap.size, 3, none⟩ = some (.slice A1 2 c1) := by rw [Lib.cell_of_heap Hp.out]; rfl
  have r0 : w5.cell? ⟨w4.heap.size, 0, none⟩ = some (.int .i64 26) := by rw [Lib.cell_of_heap Hr.out]; rfl
  have r1 : w5.cell? ⟨w4.heap.size, 1, none⟩ = some (.int .i64 0) := by rw [Lib.cell_of_heap Hr.out]; rfl
  have r2 : w5.cell? ⟨w4.heap.size, 2, none⟩ = some (.string ⟨#[97]⟩) := by rw [Lib.cell_of_heap Hr.out]; rfl
  have r3 : w5.cell? ⟨w4.heap.size, 3, none⟩ = some (.slice A3 1 c3) := by rw [Lib.cell_of_heap Hr.out]; rfl
  go_wp2_with fail
  refine HC.out.mono ?_
  rintro e w6 ⟨rfl, hb6⟩
  have z5 : w1.heap.size < w5.heap.size := (Array.getElem?_eq_some_iff.1 Hp.out).1
  have z5b : w4.heap.size < w5.heap.size := (Array.getElem?_eq_some_iff.1 Hr.out).1
  have hs := (hb6.block w1.heap.size z5).trans Hp.out
  have ht := (hb6.block w4.heap.size z5b).trans Hr.out
  have hk6 := kidsIn_below HK5.out hb6 hb6.size
  have hk6b := kidsIn_below HL5.out hb6 hb6.size
  have hq6 := Hb5.out.trans (hb6.mono Hb5.out.size)
  have Hs := Lib.hid hs
  have Ht := Lib.hid ht
  have HK6 := Lib.hid hk6
  have Hb6 := Lib.hid hq6
  have HC2 := Lib.hid (Same_d A1 A3 c1 c3 w6 hk6 hk6b HM1.out.1 HM1.out.2 HM4.out.1 HM4.out.2)
  clear z5 z5b hs ht hk6 hk6b hq6 hb6 HK5 HL5 Hb5 HC p0 p1 p2 p3 r0 r1 r2 r3 Hp Hr g0 g1
  have s0 : w6.cell? ⟨w1.heap.size, 0, none⟩ = some (.int .i64 7) := by rw [Lib.cell_of_heap Hs.out]; rfl
  have s1 : w6.cell? ⟨w1.heap.size, 1, none⟩ = some (.int .i64 0) := by rw [Lib.cell_of_heap Hs.out]; rfl
  have s2 : w6.cell? ⟨w1.heap.size, 2, none⟩ = some (.string ⟨#[]⟩) := by rw [Lib.cell_of_heap Hs.out]; rfl
  have s3 : w6.cell? ⟨w1.heap.size, 3, none⟩ = some (.slice A1 2 c1) := by rw [Lib.cell_of_heap Hs.out]; rfl
  have t0 : w6.cell? ⟨w4.heap.size, 0, none⟩ = some (.int .i64 26) := by rw [Lib.cell_of_heap Ht.out]; rfl
  have t1 : w6.cell? ⟨w4.heap.size, 1, none⟩ = some (.int .i64 0) := by rw [Lib.cell_of_heap Ht.out]; rfl
  have t2 : w6.cell? ⟨w4.heap.size, 2, none⟩ = some (.string ⟨#[97]⟩) := by rw [Lib.cell_of_heap Ht.out]; rfl
  have t3 : w6.cell? ⟨w4.heap.size, 3, none⟩ = some (.slice A3 1 c3) := by rw [Lib.cell_of_heap Ht.out]; rfl
  go_wp2_with fail
  refine HC2.out.mono ?_
  rintro e w7 ⟨rfl, hb7⟩
  have z6 : w1.heap.size < w6.heap.size := (Array.getElem?_eq_some_iff.1 Hs.out).1
  have hu := (hb7.block w1.heap.size z6).trans Hs.out
  have hk7 := kidsIn_below HK6.out hb7 hb7.size
  have hq7 := Hb6.out.trans (hb7.mono Hb6.out.size)
  have HC := Lib.hid (Valid_z w7 (HE.out _ hq7))
  have Hu := Lib.hid hu
  have HK7 := Lib.hid hk7
  have Hb7 := Lib.hid hq7
  clear z6 hu hk7 hq7 hb7 HK6 Hb6 HC2 s0 s1 s2 s3 t0 t1 t2 t3 Hs Ht
  go_wp2_with fail
  refine HC.out.mono ?_
  rintro e w8 ⟨rfl, hb8⟩
  have z7 : w1.heap.size < w7.heap.size := (Array.getElem?_eq_some_iff.1 Hu.out).1
  have hv := (hb8.block w1.heap.size z7).trans Hu.out
  have hk8 := kidsIn_below HK7.out hb8 hb8.size
  have hq8 := Hb7.out.trans (hb8.mono Hb7.out.size)
  have HC3 := Lib.hid (Valid_k A1 c1 w8 (HE.out _ hq8) hk8 HM1.out.1 HM1.out.2)
  have Hv := Lib.hid hv
  have Hb8 := Lib.hid hq8
  clear z7 hv hk8 hq8 hb8 HK7 Hb7 HC Hu
  have v0 : w8.cell? ⟨w1.heap.size, 0, none⟩ = some (.int .i64 7) := by rw [Lib.cell_of_heap Hv.out]; rfl
  have v1 : w8.cell? ⟨w1.heap.size, 1, none⟩ = some (.int .i64 0) := by rw [Lib.cell_of_heap Hv.out]; rfl
  have v2 : w8.cell? ⟨w1.heap.size, 2, none⟩ = some (.string ⟨#[]⟩) := by rw [Lib.cell_of_heap Hv.out]; rfl
  have v3 : w8.cell? ⟨w1.heap.size, 3, none⟩ = some (.slice A1 2 c1) := by rw [Lib.cell_of_heap Hv.out]; rfl
  go_wp2_with fail
  refine HC3.out.mono ?_
  rintro e w9 ⟨rfl, hb9⟩
  have Hf := Lib.hid (Hb8.out.trans (hb9.mono Hb8.out.size))
  clear hb9 HC3 v0 v1 v2 v3 Hv Hb8
  go_wp2_with fail
  go_ret
  exact ⟨rfl, Hf.out⟩
end Go.Proofs.YtbiiempgefjkiaaDoor.Ar
