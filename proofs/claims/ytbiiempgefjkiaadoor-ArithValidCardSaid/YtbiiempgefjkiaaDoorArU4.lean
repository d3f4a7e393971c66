/- arith: the writer's bare: cond. -/
import Derived.Test.YtbiiempgefjkiaaDoorArU2
import Derived.StillTailTactics
import Derived.Deep.RegionWith
namespace Go.Proofs.YtbiiempgefjkiaaDoor.Ar
open Go.RowKit
set_option linter.unusedVariables false
set_option linter.unusedSimpArgs false

set_option maxHeartbeats 8000000 in
set_option maxRecDepth 100000 in
theorem bare_cond (N : Nat) (ih : ExpOk N) (x : Ex) (hc : x.op = 25) : BareAt (N + 1) x := by
  intro B X A c k t w hN hv hwf hE hK hlc hcm hW hBX hlen
  have hX := wrAt_lt hW
  obtain ⟨hk32, hsh, hnm, hvk⟩ := val_ok hv
  obtain ⟨har, hkn, hna, hsn⟩ := shaped_kids hsh
  have hwfk : wfK x.kids ∧ (-9223372036854775808 ≤ x.n ∧ x.n ≤ 9223372036854775807) := by
    cases x; exact ⟨hwf.2.2.2, hwf.2.1⟩
  have hbx : bare x = combS x.op x.n x.name (bareK x.kids) := by cases x; rw [bare]; rfl
  have hkl : x.kids.length = 3 := by rw [hkn, hc]; rfl
  obtain ⟨kb, ko, rfl, hkb⟩ := kids_some (by rw [hkl]; decide) hK
  obtain ⟨y0, A0, c0, hy0, he0⟩ := kid_pack N ih (X := X) 0 (by rw [hkl]; decide) (by have := dep_kid (List.getElem_mem (l := x.kids) (n := 0) (by rw [hkl]; decide)); omega) (valK_mem hvk _ (List.getElem_mem _)) (wfK_at hwfk.1 _ (List.getElem_mem _)) hE hK hBX
  have HY0 := Lib.hid hy0
  have HE0 := Lib.hid he0
  clear hy0 he0
  obtain ⟨y1, A1, c1, hy1, he1⟩ := kid_pack N ih (X := X) 1 (by rw [hkl]; decide) (by have := dep_kid (List.getElem_mem (l := x.kids) (n := 1) (by rw [hkl]; decide)); omega) (valK_mem hvk _ (List.getElem_mem _)) (wfK_at hwfk.1 _ (List.getElem_mem _)) hE hK hBX
  have HY1 := Lib.hid hy1
  have HE1 := Lib.hid he1
  clear hy1 he1
  obtain ⟨y2, A2, c2, hy2, he2⟩ := kid_pack N ih (X := X) 2 (by rw [hkl]; decide) (by have := dep_kid (List.getElem_mem (l := x.kids) (n := 2) (by rw [hkl]; decide)); omega) (valK_mem hvk _ (List.getElem_mem _)) (wfK_at hwfk.1 _ (List.getElem_mem _)) hE hK hBX
  have HY2 := Lib.hid hy2
  have HE2 := Lib.hid he2
  clear hy2 he2
  have hb0 := (Below.refl w.heap.size w).alloc (Nat.le_refl _) (.cells #[.int .i64 x.op, .int .i64 x.n, .string x.name, .slice (some ⟨kb, ko, none⟩) x.kids.length c] 24)
  have hn0 := heap_alloc_new w (.cells #[.int .i64 x.op, .int .i64 x.n, .string x.name, .slice (some ⟨kb, ko, none⟩) x.kids.length c] 24)
  have HL0 := levelOf_c x (some ⟨kb, ko, none⟩) c _ (env_next hE.env hb0)
  have hs0 := ShP.of hW hb0 hBX
  have hSG := fun W (h : Below B w W) => single_c x (some ⟨kb, ko, none⟩) c W (hE.below h).tab hwfk.2.1 hwfk.2.2
  have HBO := Lib.hid (fun op W (h : Below B w W) => binaryOf_c op W (hE.below h).env)
  have HUT := Lib.hid (fun op W => unaryText_c op W)
  have hns : x.name.size ≤ 32 := by
    rcases hnm with h | h
    · omega
    · exact name_size h
  rw [hbx] at hlen ⊢
  clear hbx hv hsh hvk hE hN hwf ih hW hnm hsn hwfk hK
  unfold Ex.val at *
  unfold combS at hlen ⊢
  generalize bareK x.kids = KS at *
  rw [hkl] at hn0 HL0 hs0 hb0 hSG hlc ⊢
  have HL := Lib.hid HL0
  have HSG := Lib.hid hSG
  clear HL0 hSG hkn hkl
  generalize x.op = op, x.n = n, x.name = s at *
  unfold maxLen at hcm
  subst hc
  have hlv : lvOf 25 = 2 := rfl
  rw [hlv] at hlen HL ⊢
  rw [if_neg (by decide), if_pos rfl] at hlen ⊢
  simp only [List.length_append, List.length_cons, List.length_nil] at hlen

  have Hn0 := Lib.hid hn0
  have Hs0 := Lib.hid hs0
  have Hlen := Lib.hid hlen
  clear hn0 hs0 hlen
  go_enter Tryd.func35, Tryd.ntmps35
  go_wp2_with fail
  refine HL.out.mono ?_
  rintro e w1 ⟨rfl, hb1⟩
  have hs1 := Hs0.out.nil_trans (ShP.of Hs0.out.nilw hb1 hBX)
  have hn1 := (hb1.block _ (by simp)).trans Hn0.out
  have hz1 : w.heap.size < w1.heap.size := (Array.getElem?_eq_some_iff.1 hn1).1
  have Hs1 := Lib.hid hs1
  have Hn1 := Lib.hid hn1
  clear hb1 HL hs1 hn1 Hn0 Hs0 hb0
  have e3 : w1.cell? ⟨w.heap.size, 3, none⟩ = some (.slice (some ⟨kb, ko, none⟩) 3 c) := by rw [Lib.cell_of_heap Hn1.out]; rfl
  obtain ⟨a0, a1, a2, a3⟩ := HY0.out w1 Hs1.out.bel
  have HC := Lib.hid (HE0.out 3 (t) w1 Hs1.out.bel Hs1.out.nilw (by have := Hlen.out; simp; omega) (by omega))
  clear HE0 HY0
  simp only [Nat.zero_mul, Nat.one_mul, Nat.reduceMul, Nat.add_zero, Nat.add_assoc, Nat.reduceAdd] at a0 a1 a2 a3
  go_wp2_with fail
  refine HC.out.mono ?_
  rintro e w2 ⟨rfl, hq⟩
  have hn2 := hq.box Hn1.out (by omega) (by decide)
  have Hs2 := Lib.hid (Hs1.out.nil_trans hq)
  have Hn2 := Lib.hid hn2
  clear hq hn2 HC a0 a1 a2 a3 Hs1 Hn1
  clear e3
  have HW := Lib.hid (writeW B X (t ++ (wrapS 3 (kid KS 0))) ⟨#[32, 63, 32]⟩ w2 Hs2.out.wr (by have := Hlen.out; show _ + 3 ≤ _; simp; omega) hBX)
  go_wp2_with fail
  refine HW.out.mono ?_
  rintro e w3 ⟨rfl, hq⟩
  replace hq : ShP B X (t ++ (wrapS 3 (kid KS 0))) [32, 63, 32] w2 w3 := hq
  have hn3 := hq.box Hn2.out (by omega) (by decide)
  have Hs3 := Lib.hid (Hs2.out.trans hq)
  have Hn3 := Lib.hid hn3
  clear hq hn3 HW Hs2 Hn2
  have e3 : w3.cell? ⟨w.heap.size, 3, none⟩ = some (.slice (some ⟨kb, ko, none⟩) 3 c) := by rw [Lib.cell_of_heap Hn3.out]; rfl
  obtain ⟨a0, a1, a2, a3⟩ := HY1.out w3 Hs3.out.bel
  have HC := Lib.hid (HE1.out 1 (t ++ ((wrapS 3 (kid KS 0)) ++ [32, 63, 32])) w3 Hs3.out.bel Hs3.out.wr (by have := Hlen.out; simp; omega) (by omega))
  clear HE1 HY1
  simp only [Nat.zero_mul, Nat.one_mul, Nat.reduceMul, Nat.add_zero, Nat.add_assoc, Nat.reduceAdd] at a0 a1 a2 a3
  go_wp2_with fail
  refine HC.out.mono ?_
  rintro e w4 ⟨rfl, hq⟩
  have hn4 := hq.box Hn3.out (by omega) (by decide)
  have Hs4 := Lib.hid (Hs3.out.trans hq)
  have Hn4 := Lib.hid hn4
  clear hq hn4 HC a0 a1 a2 a3 Hs3 Hn3
  clear e3
  have HW := Lib.hid (writeW B X (t ++ ((wrapS 3 (kid KS 0)) ++ [32, 63, 32] ++ (wrapS 1 (kid KS 1)))) ⟨#[32, 58, 32]⟩ w4 Hs4.out.wr (by have := Hlen.out; show _ + 3 ≤ _; simp; omega) hBX)
  go_wp2_with fail
  refine HW.out.mono ?_
  rintro e w5 ⟨rfl, hq⟩
  replace hq : ShP B X (t ++ ((wrapS 3 (kid KS 0)) ++ [32, 63, 32] ++ (wrapS 1 (kid KS 1)))) [32, 58, 32] w4 w5 := hq
  have hn5 := hq.box Hn4.out (by omega) (by decide)
  have Hs5 := Lib.hid (Hs4.out.trans hq)
  have Hn5 := Lib.hid hn5
  clear hq hn5 HW Hs4 Hn4
  have e3 : w5.cell? ⟨w.heap.size, 3, none⟩ = some (.slice (some ⟨kb, ko, none⟩) 3 c) := by rw [Lib.cell_of_heap Hn5.out]; rfl
  obtain ⟨a0, a1, a2, a3⟩ := HY2.out w5 Hs5.out.bel
  have HC := Lib.hid (HE2.out 2 (t ++ ((wrapS 3 (kid KS 0)) ++ [32, 63, 32] ++ (wrapS 1 (kid KS 1)) ++ [32, 58, 32])) w5 Hs5.out.bel Hs5.out.wr (by have := Hlen.out; simp; omega) (by omega))
  clear HE2 HY2
  simp only [Nat.zero_mul, Nat.one_mul, Nat.reduceMul, Nat.add_zero, Nat.add_assoc, Nat.reduceAdd] at a0 a1 a2 a3
  go_wp2_with fail
  refine HC.out.mono ?_
  rintro e w6 ⟨rfl, hq⟩
  have hn6 := hq.box Hn5.out (by omega) (by decide)
  have Hs6 := Lib.hid (Hs5.out.trans hq)
  have Hn6 := Lib.hid hn6
  clear hq hn6 HC a0 a1 a2 a3 Hs5 Hn5
  clear e3
  go_wp2_with fail
  go_end0
  exact ⟨rfl, Hs6.out⟩

end Go.Proofs.YtbiiempgefjkiaaDoor.Ar
