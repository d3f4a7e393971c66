/- arith: the writer's bare: num. -/
import Derived.Test.YtbiiempgefjkiaaDoorArU2
import Derived.StillTailTactics
import Derived.Deep.RegionWith
namespace Go.Proofs.YtbiiempgefjkiaaDoor.Ar
open Go.RowKit
set_option linter.unusedVariables false
set_option linter.unusedSimpArgs false

set_option maxHeartbeats 8000000 in
set_option maxRecDepth 100000 in
theorem bare_num (N : Nat) (ih : ExpOk N) (x : Ex) (hc : x.op = 1 ∨ x.op = 2) : BareAt (N + 1) x := by
  intro B X A c k t w hN hv hwf hE hK hlc hcm hW hBX hlen
  have hX := wrAt_lt hW
  obtain ⟨hk32, hsh, hnm, hvk⟩ := val_ok hv
  obtain ⟨har, hkn, hna, hsn⟩ := shaped_kids hsh
  have hwfk : wfK x.kids ∧ (-9223372036854775808 ≤ x.n ∧ x.n ≤ 9223372036854775807) := by
    cases x; exact ⟨hwf.2.2.2, hwf.2.1⟩
  have hbx : bare x = combS x.op x.n x.name (bareK x.kids) := by cases x; rw [bare]; rfl
  have hkl : x.kids.length = 0 := by rw [hkn]; rcases hc with h | h <;> rw [h] <;> rfl

  have hb0 := (Below.refl w.heap.size w).alloc (Nat.le_refl _) (.cells #[.int .i64 x.op, .int .i64 x.n, .string x.name, .slice A x.kids.length c] 24)
  have hn0 := heap_alloc_new w (.cells #[.int .i64 x.op, .int .i64 x.n, .string x.name, .slice A x.kids.length c] 24)
  have HL0 := levelOf_c x A c _ (env_next hE.env hb0)
  have hs0 := ShP.of hW hb0 hBX
  have hSG := fun W (h : Below B w W) => single_c x A c W (hE.below h).tab hwfk.2.1 hwfk.2.2
  have HBO := Lib.hid (fun op W (h : Below B w W) => binaryOf_c op W (hE.below h).env)
  have HUT := Lib.hid (fun op W => unaryText_c op W)
  have hns : x.name.size ≤ 32 := by
    rcases hnm with h | h
    · omega
    · exact name_size h
  rw [hbx] at hlen ⊢
  clear hbx hv hsh hvk hE hN hwf ih hW hnm hsn hwfk hK
  unfold Ex.val at *
  unfold combS at hlen ⊢
  generalize bareK x.kids = KS at *
  rw [hkl] at hn0 HL0 hs0 hb0 hSG hlc ⊢
  have HL := Lib.hid HL0
  have HSG := Lib.hid hSG
  clear HL0 hSG hkn hkl
  generalize x.op = op, x.n = n, x.name = s at *
  unfold maxLen at hcm
  have hlv : lvOf op = 14 := by rcases hc with h | h <;> rw [h] <;> rfl
  rw [hlv] at hlen HL ⊢
  rw [if_neg (by decide), if_neg (by decide), if_neg (by decide), if_pos rfl] at hlen ⊢
  generalize (if (op == 2) = true then bytesOf s else decI n) = out at hlen HSG ⊢
  clear hc

  have Hn0 := Lib.hid hn0
  have Hs0 := Lib.hid hs0
  have Hlen := Lib.hid hlen
  clear hn0 hs0 hlen
  go_enter Tryd.func35, Tryd.ntmps35
  go_wp2_with fail
  refine HL.out.mono ?_
  rintro e w1 ⟨rfl, hb1⟩
  have hs1 := Hs0.out.nil_trans (ShP.of Hs0.out.nilw hb1 hBX)
  have hn1 := (hb1.block _ (by simp)).trans Hn0.out
  have hz1 : w.heap.size < w1.heap.size := (Array.getElem?_eq_some_iff.1 hn1).1
  have Hs1 := Lib.hid hs1
  have Hn1 := Lib.hid hn1
  clear hb1 HL hs1 hn1 Hn0 Hs0 hb0
  have e0 : w1.cell? ⟨w.heap.size, 0, none⟩ = some (.int .i64 op) := by rw [Lib.cell_of_heap Hn1.out]; rfl
  have e1 : w1.cell? ⟨w.heap.size, 1, none⟩ = some (.int .i64 n) := by rw [Lib.cell_of_heap Hn1.out]; rfl
  have e2 : w1.cell? ⟨w.heap.size, 2, none⟩ = some (.string s) := by rw [Lib.cell_of_heap Hn1.out]; rfl
  have e3 : w1.cell? ⟨w.heap.size, 3, none⟩ = some (.slice A 0 c) := by rw [Lib.cell_of_heap Hn1.out]; rfl
  have HC := Lib.hid (HSG.out w1.drew Hs1.out.bel.drew)
  go_wp2_with fail
  go_region_with (first
    | (go_at_call 53; refine HC.out.mono ?_; rintro e w2 ⟨rfl, hb2⟩; have Hb2 := Lib.hid (show Below w1.heap.size w1 w2 from ((Below.refl w1.heap.size w1).drew).trans hb2); have HW2 := Lib.hid (writeW B X t ⟨out.toArray⟩ w2 (wrAt_keep Hs1.out.nilw Hb2.out) (by have := Hlen.out; show _ + out.toArray.size ≤ _; simp; omega) hBX); clear hb2)
    | (go_at_call 36; refine HW2.out.mono ?_; rintro e w3 ⟨rfl, hq⟩; replace hq : ShP B X t (out.toArray.toList) w2 w3 := hq; have Hq := Lib.hid hq; clear hq))
  all_goals
    have Hf := Lib.hid (Hs1.out.nil_trans ((ShP.of Hs1.out.nilw Hb2.out hBX).nil_trans Hq.out))
    go_wp2_with fail
    go_end0
    exact ⟨rfl, Hf.out⟩

end Go.Proofs.YtbiiempgefjkiaaDoor.Ar
