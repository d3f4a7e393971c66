/- arith: the writer's bare: set. -/
import Derived.Test.YtbiiempgefjkiaaDoorArU2
import Derived.StillTailTactics
import Derived.Deep.RegionWith
namespace Go.Proofs.YtbiiempgefjkiaaDoor.Ar
open Go.RowKit
set_option linter.unusedVariables false
set_option linter.unusedSimpArgs false

set_option maxHeartbeats 8000000 in
set_option maxRecDepth 100000 in
theorem bare_set (N : Nat) (ih : ExpOk N) (x : Ex) (hc : x.op = 26) : BareAt (N + 1) x := by
  intro B X A c k t w hN hv hwf hE hK hlc hcm hW hBX hlen
  have hX := wrAt_lt hW
  obtain ⟨hk32, hsh, hnm, hvk⟩ := val_ok hv
  obtain ⟨har, hkn, hna, hsn⟩ := shaped_kids hsh
  have hwfk : wfK x.kids ∧ (-9223372036854775808 ≤ x.n ∧ x.n ≤ 9223372036854775807) := by
    cases x; exact ⟨hwf.2.2.2, hwf.2.1⟩
  have hbx : bare x = combS x.op x.n x.name (bareK x.kids) := by cases x; rw [bare]; rfl
  have hkl : x.kids.length = 1 := by rw [hkn, hc]; rfl
  obtain ⟨kb, ko, rfl, hkb⟩ := kids_some (by rw [hkl]; decide) hK
  obtain ⟨y0, A0, c0, hy0, he0⟩ := kid_pack N ih (X := X) 0 (by rw [hkl]; decide) (by have := dep_kid (List.getElem_mem (l := x.kids) (n := 0) (by rw [hkl]; decide)); omega) (valK_mem hvk _ (List.getElem_mem _)) (wfK_at hwfk.1 _ (List.getElem_mem _)) hE hK hBX
  have HY0 := Lib.hid hy0
  have HE0 := Lib.hid he0
  clear hy0 he0
  have hb0 := (Below.refl w.heap.size w).alloc (Nat.le_refl _) (.cells #[.int .i64 x.op, .int .i64 x.n, .string x.name, .slice (some ⟨kb, ko, none⟩) x.kids.length c] 24)
  have hn0 := heap_alloc_new w (.cells #[.int .i64 x.op, .int .i64 x.n, .string x.name, .slice (some ⟨kb, ko, none⟩) x.kids.length c] 24)
  have HL0 := levelOf_c x (some ⟨kb, ko, none⟩) c _ (env_next hE.env hb0)
  have hs0 := ShP.of hW hb0 hBX
  have hSG := fun W (h : Below B w W) => single_c x (some ⟨kb, ko, none⟩) c W (hE.below h).tab hwfk.2.1 hwfk.2.2
  have HBO := Lib.hid (fun op W (h : Below B w W) => binaryOf_c op W (hE.below h).env)
  have HUT := Lib.hid (fun op W => unaryText_c op W)
  have hns : x.name.size ≤ 32 := by
    rcases hnm with h | h
    · omega
    · exact name_size h
  rw [hbx] at hlen ⊢
  clear hbx hv hsh hvk hE hN hwf ih hW hnm hsn hwfk hK
  unfold Ex.val at *
  unfold combS at hlen ⊢
  generalize bareK x.kids = KS at *
  rw [hkl] at hn0 HL0 hs0 hb0 hSG hlc ⊢
  have HL := Lib.hid HL0
  have HSG := Lib.hid hSG
  clear HL0 hSG hkn hkl
  generalize x.op = op, x.n = n, x.name = s at *
  unfold maxLen at hcm
  subst hc
  have hlv : lvOf 26 = 1 := rfl
  rw [hlv] at hlen HL ⊢
  rw [if_pos rfl] at hlen ⊢
  have hbo := HBO.out n
  have hbs := bin_size n
  unfold bnV at hbo
  generalize binOf n = bb at hlen hbo hbs ⊢
  obtain ⟨⟨bt, bo, lv, ag⟩, bk⟩ := bb
  simp only [List.length_append, List.length_cons, List.length_nil] at hlen
  simp only at hbo hbs ⊢
  have HO := Lib.hid hbo
  have z1 : (9223372036854775807 < s.size + 1) = False := eq_false (by omega)
  have z2 : (9223372036854775807 < s.size + 1 + bt.size) = False := eq_false (by omega)
  have z3 : (9223372036854775807 < s.size + 1 + bt.size + 2) = False := eq_false (by omega)
  have z4 : True := trivial
  clear har hna hlv hbo HBO HUT HSG

  have Hn0 := Lib.hid hn0
  have Hs0 := Lib.hid hs0
  have Hlen := Lib.hid hlen
  clear hn0 hs0 hlen
  go_enter Tryd.func35, Tryd.ntmps35
  go_wp2_with fail
  refine HL.out.mono ?_
  rintro e w1 ⟨rfl, hb1⟩
  have hs1 := Hs0.out.nil_trans (ShP.of Hs0.out.nilw hb1 hBX)
  have hn1 := (hb1.block _ (by simp)).trans Hn0.out
  have hz1 : w.heap.size < w1.heap.size := (Array.getElem?_eq_some_iff.1 hn1).1
  have Hs1 := Lib.hid hs1
  have Hn1 := Lib.hid hn1
  clear hb1 HL hs1 hn1 Hn0 Hs0 hb0
  have e1 : w1.cell? ⟨w.heap.size, 1, none⟩ = some (.int .i64 n) := by rw [Lib.cell_of_heap Hn1.out]; rfl
  have HB := Lib.hid (HO.out w1 Hs1.out.bel)
  clear HO
  go_wp2_with fail
  refine HB.out.mono ?_
  rintro e w2 ⟨rfl, hb2⟩
  have Hs2 := Lib.hid (Hs1.out.nil_trans (ShP.of Hs1.out.nilw hb2 hBX))
  have Hn2 := Lib.hid ((hb2.block _ hz1).trans Hn1.out)
  have hz2 : w.heap.size < w2.heap.size := (Array.getElem?_eq_some_iff.1 Hn2.out).1
  have hb3 := (Below.refl w2.heap.size w2).alloc (Nat.le_refl _) (.cells #[.string bt, .int .i64 bo, .int .i64 lv, .bool ag] 82)
  have Hs3 := Lib.hid (Hs2.out.nil_trans (ShP.of Hs2.out.nilw hb3 hBX))
  have Hn3 := Lib.hid ((hb3.block _ hz2).trans Hn2.out)
  have Hm3 := Lib.hid (heap_alloc_new w2 (.cells #[.string bt, .int .i64 bo, .int .i64 lv, .bool ag] 82))
  clear HB e1 Hs1 Hn1 hb2 hb3 Hs2
  have m2 : ∀ o, (w2.alloc o).cell? ⟨w.heap.size, 2, none⟩ = some (.string s) := fun o => by rw [Lib.cell_of_heap ((Below.heap_alloc _ _ _ hz2).trans Hn2.out)]; rfl
  go_wp2_with fail
  generalize hW3 : w2.alloc (.cells #[.string bt, .int .i64 bo, .int .i64 lv, .bool ag] 82) = w3 at *
  have e2 : w3.cell? ⟨w.heap.size, 2, none⟩ = some (.string s) := by rw [Lib.cell_of_heap Hn3.out]; rfl
  have d0 : w3.cell? ⟨w2.heap.size, 0, none⟩ = some (.string bt) := by rw [Lib.cell_of_heap Hm3.out]; rfl
  clear m2 hW3
  go_still_tail 10, (by kernel_rfl)
  change wpList _ _ _ _ _ w3.drew
  have HW := Lib.hid (writeW B X t (s ++ ⟨#[32]⟩ ++ bt ++ ⟨#[61, 32]⟩) w3.drew (wrAt_keep Hs3.out.nilw (Below.refl w3.heap.size w3).drew) (by have := Hlen.out; rw [ByteArray.size_append, ByteArray.size_append, ByteArray.size_append]; show t.length + (s.size + 1 + bt.size + 2) ≤ _; simp [bytesOf] at this; omega) hBX)
  go_wp2_with fail
  refine HW.out.mono ?_
  rintro e w4 ⟨rfl, hq⟩
  replace hq : ShP B X t (bytesOf s ++ [32] ++ bytesOf bt ++ [61, 32]) w3.drew w4 := by
    have e1 : (s ++ ⟨#[32]⟩ ++ bt ++ ⟨#[61, 32]⟩ : ByteArray).data.toList = bytesOf s ++ [32] ++ bytesOf bt ++ [61, 32] := by simp [bytesOf]
    rw [← e1]; exact hq
  have Hn4 := Lib.hid (hq.box (show w3.drew.heap[w.heap.size]? = _ from Hn3.out) (by omega) (by decide))
  have Hs4 := Lib.hid (Hs3.out.nil_trans ((ShP.of Hs3.out.nilw ((Below.refl w3.heap.size w3).drew) hBX).nil_trans hq))
  clear hq HW Hs3 Hn3 Hm3 e2 d0 z1 z2 z3 z4 hbs hns
  have e3 : w4.cell? ⟨w.heap.size, 3, none⟩ = some (.slice (some ⟨kb, ko, none⟩) 1 c) := by rw [Lib.cell_of_heap Hn4.out]; rfl
  obtain ⟨a0, a1, a2, a3⟩ := HY0.out w4 Hs4.out.bel
  have HC := Lib.hid (HE0.out 1 (t ++ (bytesOf s ++ [32] ++ bytesOf bt ++ [61, 32])) w4 Hs4.out.bel Hs4.out.wr (by have := Hlen.out; simp; omega) (by omega))
  clear HE0 HY0
  simp only [Nat.zero_mul, Nat.one_mul, Nat.reduceMul, Nat.add_zero, Nat.add_assoc, Nat.reduceAdd] at a0 a1 a2 a3
  go_wp2_with fail
  refine HC.out.mono ?_
  rintro e w5 ⟨rfl, hq⟩
  have hn5 := hq.box Hn4.out (by omega) (by decide)
  have Hs5 := Lib.hid (Hs4.out.trans hq)
  have Hn5 := Lib.hid hn5
  clear hq hn5 HC a0 a1 a2 a3 Hs4 Hn4
  clear e3
  go_wp2_with fail
  go_end0
  exact ⟨rfl, Hs5.out⟩

end Go.Proofs.YtbiiempgefjkiaaDoor.Ar
