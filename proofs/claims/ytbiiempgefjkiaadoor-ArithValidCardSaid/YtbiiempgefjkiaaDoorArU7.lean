/- arith: the writer's bare: bin. -/
import Derived.Test.YtbiiempgefjkiaaDoorArU2
import Derived.StillTailTactics
import Derived.Deep.RegionWith
namespace Go.Proofs.YtbiiempgefjkiaaDoor.Ar
open Go.RowKit
set_option linter.unusedVariables false
set_option linter.unusedSimpArgs false

set_option maxHeartbeats 8000000 in
set_option maxRecDepth 100000 in
theorem bare_bin (N : Nat) (ih : ExpOk N) (x : Ex) (hc : (binOf x.op).2 = true ∧ lvOf x.op = (binOf x.op).1.lv ∧ arity x.op = (2, true)) : BareAt (N + 1) x := by
  intro B X A c k t w hN hv hwf hE hK hlc hcm hW hBX hlen
  have hX := wrAt_lt hW
  obtain ⟨hk32, hsh, hnm, hvk⟩ := val_ok hv
  obtain ⟨har, hkn, hna, hsn⟩ := shaped_kids hsh
  have hwfk : wfK x.kids ∧ (-9223372036854775808 ≤ x.n ∧ x.n ≤ 9223372036854775807) := by
    cases x; exact ⟨hwf.2.2.2, hwf.2.1⟩
  have hbx : bare x = combS x.op x.n x.name (bareK x.kids) := by cases x; rw [bare]; rfl
  have hkl : x.kids.length = 2 := by rw [hkn, hc.2.2]
  obtain ⟨kb, ko, rfl, hkb⟩ := kids_some (by rw [hkl]; decide) hK
  obtain ⟨y0, A0, c0, hy0, he0⟩ := kid_pack N ih (X := X) 0 (by rw [hkl]; decide) (by have := dep_kid (List.getElem_mem (l := x.kids) (n := 0) (by rw [hkl]; decide)); omega) (valK_mem hvk _ (List.getElem_mem _)) (wfK_at hwfk.1 _ (List.getElem_mem _)) hE hK hBX
  have HY0 := Lib.hid hy0
  have HE0 := Lib.hid he0
  clear hy0 he0
  obtain ⟨y1, A1, c1, hy1, he1⟩ := kid_pack N ih (X := X) 1 (by rw [hkl]; decide) (by have := dep_kid (List.getElem_mem (l := x.kids) (n := 1) (by rw [hkl]; decide)); omega) (valK_mem hvk _ (List.getElem_mem _)) (wfK_at hwfk.1 _ (List.getElem_mem _)) hE hK hBX
  have HY1 := Lib.hid hy1
  have HE1 := Lib.hid he1
  clear hy1 he1
  have hb0 := (Below.refl w.heap.size w).alloc (Nat.le_refl _) (.cells #[.int .i64 x.op, .int .i64 x.n, .string x.name, .slice (some ⟨kb, ko, none⟩) x.kids.length c] 24)
  have hn0 := heap_alloc_new w (.cells #[.int .i64 x.op, .int .i64 x.n, .string x.name, .slice (some ⟨kb, ko, none⟩) x.kids.length c] 24)
  have HL0 := levelOf_c x (some ⟨kb, ko, none⟩) c _ (env_next hE.env hb0)
  have hs0 := ShP.of hW hb0 hBX
  have hSG := fun W (h : Below B w W) => single_c x (some ⟨kb, ko, none⟩) c W (hE.below h).tab hwfk.2.1 hwfk.2.2
  have HBO := Lib.hid (fun op W (h : Below B w W) => binaryOf_c op W (hE.below h).env)
  have HUT := Lib.hid (fun op W => unaryText_c op W)
  have hns : x.name.size ≤ 32 := by
    rcases hnm with h | h
    · omega
    · exact name_size h
  rw [hbx] at hlen ⊢
  clear hbx hv hsh hvk hE hN hwf ih hW hnm hsn hwfk hK
  unfold Ex.val at *
  unfold combS at hlen ⊢
  generalize bareK x.kids = KS at *
  rw [hkl] at hn0 HL0 hs0 hb0 hSG hlc ⊢
  have HL := Lib.hid HL0
  have HSG := Lib.hid hSG
  clear HL0 hSG hkn hkl
  generalize x.op = op, x.n = n, x.name = s at *
  unfold maxLen at hcm
  have hlv : lvOf op = (binOf op).1.lv := hc.2.1
  obtain ⟨r1, r2, r3, r4, r5, r6⟩ := bin_range hc.1
  rw [hlv] at hlen HL ⊢
  rw [if_neg (by omega), if_neg (by omega), if_neg (by omega), if_neg (by omega)] at hlen ⊢
  have hbo := HBO.out op
  unfold bnV at hbo
  clear hc hlv
  generalize binOf op = bb at hlen hbo r3 r4 r5 r6 HL ⊢
  obtain ⟨⟨bt, bo, lv, ag⟩, bk⟩ := bb
  simp only [List.length_append, List.length_cons, List.length_nil] at hlen
  simp only at hbo r3 r4 r5 r6 HL ⊢
  have HO := Lib.hid hbo
  have z2 : (9223372036854775807 < 1 + bt.size) = False := eq_false (by omega)
  have z3 : (9223372036854775807 < 1 + bt.size + 1) = False := eq_false (by omega)
  have l1 : decide ((lv : Int) = 1) = false := decide_eq_false (by omega)
  have l2 : decide ((lv : Int) = 2) = false := decide_eq_false (by omega)
  have l13 : decide ((lv : Int) = 13) = false := decide_eq_false (by omega)
  have l14 : decide ((lv : Int) = 14) = false := decide_eq_false (by omega)
  have n1 : decide (lv = 1) = false := decide_eq_false (by omega)
  have n2 : decide (lv = 2) = false := decide_eq_false (by omega)
  have n13 : decide (lv = 13) = false := decide_eq_false (by omega)
  have n14 : decide (lv = 14) = false := decide_eq_false (by omega)
  have hw : IntKind.i64.wrap ((lv : Int) + 1) = (lv : Int) + 1 := IntWalk.i64_in _ (by omega)
  have Hlv := Lib.hid (show ((lv + 1 : Nat) : Int) = (lv : Int) + 1 by omega)
  clear har hna hbo HBO HUT HSG hns r1 r2

  have Hn0 := Lib.hid hn0
  have Hs0 := Lib.hid hs0
  have Hlen := Lib.hid hlen
  clear hn0 hs0 hlen
  go_enter Tryd.func35, Tryd.ntmps35
  go_wp2_with fail
  refine HL.out.mono ?_
  rintro e w1 ⟨rfl, hb1⟩
  have hs1 := Hs0.out.nil_trans (ShP.of Hs0.out.nilw hb1 hBX)
  have hn1 := (hb1.block _ (by simp)).trans Hn0.out
  have hz1 : w.heap.size < w1.heap.size := (Array.getElem?_eq_some_iff.1 hn1).1
  have Hs1 := Lib.hid hs1
  have Hn1 := Lib.hid hn1
  clear hb1 HL hs1 hn1 Hn0 Hs0 hb0
  have e0 : w1.cell? ⟨w.heap.size, 0, none⟩ = some (.int .i64 op) := by rw [Lib.cell_of_heap Hn1.out]; rfl
  have HB := Lib.hid (HO.out w1 Hs1.out.bel)
  clear HO
  go_wp2_with fail
  refine HB.out.mono ?_
  rintro e w2 ⟨rfl, hb2⟩
  have Hs2 := Lib.hid (Hs1.out.nil_trans (ShP.of Hs1.out.nilw hb2 hBX))
  have Hn2 := Lib.hid ((hb2.block _ hz1).trans Hn1.out)
  have hz2 : w.heap.size < w2.heap.size := (Array.getElem?_eq_some_iff.1 Hn2.out).1
  have hX2 : X < w2.heap.size := wrAt_lt Hs2.out.nilw
  have hb3 := (Below.refl w2.heap.size w2).alloc (Nat.le_refl _) (.cells #[.string bt, .int .i64 bo, .int .i64 lv, .bool ag] 82)
  have Hs3 := Lib.hid (Hs2.out.nil_trans (ShP.of Hs2.out.nilw hb3 hBX))
  have Hn3 := Lib.hid ((hb3.block _ hz2).trans Hn2.out)
  have Hm3 := Lib.hid (heap_alloc_new w2 (.cells #[.string bt, .int .i64 bo, .int .i64 lv, .bool ag] 82))
  clear HB e0 Hs1 Hn1 hb2 hb3 Hs2
  go_wp2_with fail
  generalize hW3 : w2.alloc (.cells #[.string bt, .int .i64 bo, .int .i64 lv, .bool ag] 82) = w3 at *
  clear hW3
  have e3 : w3.cell? ⟨w.heap.size, 3, none⟩ = some (.slice (some ⟨kb, ko, none⟩) 2 c) := by rw [Lib.cell_of_heap Hn3.out]; rfl
  have d2 : w3.cell? ⟨w2.heap.size, 2, none⟩ = some (.int .i64 lv) := by rw [Lib.cell_of_heap Hm3.out]; rfl
  obtain ⟨a0, a1, a2, a3⟩ := HY0.out w3 Hs3.out.bel
  simp only [Nat.zero_mul, Nat.one_mul, Nat.reduceMul, Nat.add_zero, Nat.add_assoc, Nat.reduceAdd] at a0 a1 a2 a3
  have HC := Lib.hid (HE0.out lv t w3.drew Hs3.out.bel.drew (wrAt_keep Hs3.out.nilw (Below.refl w3.heap.size w3).drew) (by have := Hlen.out; omega) (by omega))
  clear HE0 HY0
  go_still_tail 7, (by kernel_rfl)
  change wpList _ _ _ _ _ w3.drew
  go_wp2_with fail
  refine HC.out.mono ?_
  rintro e w4 ⟨rfl, hq⟩
  have Hn4 := Lib.hid (hq.box (show w3.drew.heap[w.heap.size]? = _ from Hn3.out) (by omega) (by decide))
  have Hm4 := Lib.hid (hq.box (show w3.drew.heap[w2.heap.size]? = _ from Hm3.out) (by omega) (by decide))
  have Hs4 := Lib.hid (Hs3.out.nil_trans ((ShP.of Hs3.out.nilw ((Below.refl w3.heap.size w3).drew) hBX).nil_trans hq))
  clear hq HC Hs3 Hn3 Hm3 e3 d2 a0 a1 a2 a3
  have d0 : w4.cell? ⟨w2.heap.size, 0, none⟩ = some (.string bt) := by rw [Lib.cell_of_heap Hm4.out]; rfl
  go_wp2_with fail
  go_still_tail 7, (by kernel_rfl)
  change wpList _ _ _ _ _ w4.drew
  have HW := Lib.hid (writeW B X (t ++ wrapS lv (kid KS 0)) (⟨#[32]⟩ ++ bt ++ ⟨#[32]⟩) w4.drew (wrAt_keep Hs4.out.wr (Below.refl w4.heap.size w4).drew) (by have := Hlen.out; rw [ByteArray.size_append, ByteArray.size_append]; show _ + (1 + bt.size + 1) ≤ _; simp [bytesOf] at this ⊢; omega) hBX)
  go_wp2_with fail
  refine HW.out.mono ?_
  rintro e w5 ⟨rfl, hq⟩
  replace hq : ShP B X (t ++ wrapS lv (kid KS 0)) ([32] ++ bytesOf bt ++ [32]) w4.drew w5 := by
    have e1 : (⟨#[32]⟩ ++ bt ++ ⟨#[32]⟩ : ByteArray).data.toList = [32] ++ bytesOf bt ++ [32] := by simp [bytesOf]
    rw [← e1]; exact hq
  have Hn5 := Lib.hid (hq.box (show w4.drew.heap[w.heap.size]? = _ from Hn4.out) (by omega) (by decide))
  have Hm5 := Lib.hid (hq.box (show w4.drew.heap[w2.heap.size]? = _ from Hm4.out) (by omega) (by decide))
  have hs5 := Hs4.out.trans (((ShP.of Hs4.out.wr ((Below.refl w4.heap.size w4).drew) hBX)).nil_trans hq)
  have Hs5 := Lib.hid hs5
  clear hq hs5 HW Hs4 Hn4 Hm4 d0 z2 z3
  have e3 : w5.cell? ⟨w.heap.size, 3, none⟩ = some (.slice (some ⟨kb, ko, none⟩) 2 c) := by rw [Lib.cell_of_heap Hn5.out]; rfl
  have d2 : w5.cell? ⟨w2.heap.size, 2, none⟩ = some (.int .i64 lv) := by rw [Lib.cell_of_heap Hm5.out]; rfl
  obtain ⟨a0, a1, a2, a3⟩ := HY1.out w5 Hs5.out.bel
  simp only [Nat.zero_mul, Nat.one_mul, Nat.reduceMul, Nat.add_zero, Nat.add_assoc, Nat.reduceAdd] at a0 a1 a2 a3
  have hc5 := HE1.out (lv + 1) (t ++ (wrapS lv (kid KS 0) ++ ([32] ++ bytesOf bt ++ [32]))) w5.drew Hs5.out.bel.drew (wrAt_keep Hs5.out.wr (Below.refl w5.heap.size w5).drew) (by have := Hlen.out; simp [bytesOf] at this ⊢; omega) (by omega)
  rw [Hlv.out] at hc5
  have HC := Lib.hid hc5
  clear HE1 HY1 hc5
  go_wp2_with fail
  go_still_tail 8, (by kernel_rfl)
  change wpList _ _ _ _ _ w5.drew
  go_wp2_with fail
  refine HC.out.mono ?_
  rintro e w6 ⟨rfl, hq⟩
  have hs6 := Hs5.out.trans ((ShP.of Hs5.out.wr ((Below.refl w5.heap.size w5).drew) hBX).nil_trans hq)
  have Hs6 := Lib.hid hs6
  clear hq hs6 HC e3 d2 a0 a1 a2 a3 Hs5 Hn5 Hm5
  go_wp2_with fail
  go_end0
  exact ⟨rfl, by have := Hs6.out; simpa only [List.append_assoc] using this⟩

end Go.Proofs.YtbiiempgefjkiaaDoor.Ar
