/- arith: ArithValid's walk. -/
import Derived.Test.YtbiiempgefjkiaaDoorArAw
import Derived.Test.YtbiiempgefjkiaaDoorArX3
import Derived.Deep.RegionWith
namespace Go.Proofs.YtbiiempgefjkiaaDoor.Ar
open Go.RowKit
set_option linter.unusedVariables false

set_option maxHeartbeats 8000000 in
set_option maxRecDepth 100000 in
theorem valid_walk (x : Ex) (A : Option Addr) (c : Nat) (W : World) (hK : KidsIn W W.heap.size x.kids A) (hl : x.kids.length ≤ c) (hc : c ≤ maxLen) (hE : Env W) (hT : Tab W) :
    Calls Tryd.prog 4 #[x.val A c] W fun e w' => e = .returned (.bool true) ∧ Below W.heap.size W w' := by
  obtain ⟨W0, hW0⟩ : ∃ W0 : World, W0 = W.alloc (.cells #[.int .i64 x.op, .int .i64 x.n, .string x.name, .slice A x.kids.length c] 24) := ⟨_, rfl⟩
  have hb0 : Below W.heap.size W W0 := by rw [hW0]; exact (Below.refl W.heap.size W).alloc (Nat.le_refl _) _
  have hn0 : W0.heap[W.heap.size]? = some (.cells #[.int .i64 x.op, .int .i64 x.n, .string x.name, .slice A x.kids.length c] 24) := by rw [hW0]; exact heap_alloc_new W _
  have hz0 : W.heap.size < W0.heap.size := (Array.getElem?_eq_some_iff.1 hn0).1
  have hK0 := kidsIn_below hK hb0 hb0.size
  have HS := Lib.hid (fun V (h : Below W0.heap.size W0 V) => (Small_c x A c 60 V (kidsIn_below hK0 h h.size) hl hc (by omega) (by omega)).mono fun e w' q => (⟨q.1, h.trans (q.2.mono h.size)⟩ : _ ∧ Below W0.heap.size W0 w'))
  have HV := Lib.hid (fun V (h : Below W0.heap.size W0 V) => (Valid_c x A c V (env_next (env_next hE hb0) h) (kidsIn_below hK0 h h.size) hl hc).mono fun e w' q => (⟨q.1, h.trans (q.2.mono h.size)⟩ : _ ∧ Below W0.heap.size W0 w'))
  have HR := Lib.hid (fun V (h : Below W0.heap.size W0 V) => (RValid_c x A c V (kidsIn_below hK0 h h.size) hl hc).mono fun e w' q => (⟨q.1, h.trans (q.2.mono h.size)⟩ : _ ∧ Below W0.heap.size W0 w'))
  have HA := Lib.hid (fun V (h : Below W0.heap.size W0 V) => (awake_c V (env_next (env_next hE hb0) h) (tab_below (tab_below hT hb0 (tab_lt hT)) h (tab_lt (tab_below hT hb0 (tab_lt hT))))).mono fun e w' q => (⟨q.1, h.trans (q.2.mono h.size)⟩ : _ ∧ Below W0.heap.size W0 w'))
  unfold Ex.val at *
  clear hE hT hK hK0 hl hc
  generalize smallB x 60 = sm, valE x 0 = vv at *
  generalize x.op = op, x.n = n, x.name = s, x.kids.length = k at *
  have hb0' := Below.refl W0.heap.size W0
  have HB0 := Lib.hid hb0
  clear hb0
  have cc : ∀ V, Below W0.heap.size W0 V → V.heap[W.heap.size]? = some (.cells #[.int .i64 op, .int .i64 n, .string s, .slice A k c] 24) := fun V h => (h.block _ hz0).trans hn0
  have c0 : W0.cell? ⟨W.heap.size, 0, none⟩ = some (.int .i64 op) := by rw [Lib.cell_of_heap (cc _ hb0')]; rfl
  have c1 : W0.cell? ⟨W.heap.size, 1, none⟩ = some (.int .i64 n) := by rw [Lib.cell_of_heap (cc _ hb0')]; rfl
  have c2 : W0.cell? ⟨W.heap.size, 2, none⟩ = some (.string s) := by rw [Lib.cell_of_heap (cc _ hb0')]; rfl
  have c3 : W0.cell? ⟨W.heap.size, 3, none⟩ = some (.slice A k c) := by rw [Lib.cell_of_heap (cc _ hb0')]; rfl
  have HC := Lib.hid cc
  have HW0 := Lib.hid hW0
  have HH := Lib.hid (HS.out W0 hb0')
  clear cc hn0 hz0 hW0 HS
  go_enter Tryd.func4, Tryd.ntmps4
  go_wp2_with fail
  rw [← HW0.out]
  refine HH.out.mono ?_
  rintro e w1 ⟨rfl, hb1⟩
  have d0 : w1.cell? ⟨W.heap.size, 0, none⟩ = some (.int .i64 op) := by rw [Lib.cell_of_heap (HC.out _ hb1)]; rfl
  have d1 : w1.cell? ⟨W.heap.size, 1, none⟩ = some (.int .i64 n) := by rw [Lib.cell_of_heap (HC.out _ hb1)]; rfl
  have d2 : w1.cell? ⟨W.heap.size, 2, none⟩ = some (.string s) := by rw [Lib.cell_of_heap (HC.out _ hb1)]; rfl
  have d3 : w1.cell? ⟨W.heap.size, 3, none⟩ = some (.slice A k c) := by rw [Lib.cell_of_heap (HC.out _ hb1)]; rfl
  clear HH c0 c1 c2 c3 hb0' HW0
  rcases sm with _ | _
  · have HH := Lib.hid (HA.out w1 hb1)
    clear HA HV HR
    go_wp2_with fail
    refine HH.out.mono ?_
    rintro e w2 ⟨rfl, hb2⟩
    clear HH d0 d1 d2 d3
    go_wp2_with fail
    go_ret
    exact ⟨rfl, HB0.out.trans (hb2.mono HB0.out.size)⟩
  · go_wp2_with fail
    have hbd := hb1.drew
    go_region_with (first
      | (go_at_call 13; refine (HV.out _ (by assumption)).mono ?_; rintro e wv ⟨rfl, hbv⟩; have v0 : wv.cell? ⟨W.heap.size, 0, none⟩ = some (.int .i64 op) := (by rw [Lib.cell_of_heap (HC.out _ hbv)]; rfl); have v1 : wv.cell? ⟨W.heap.size, 1, none⟩ = some (.int .i64 n) := (by rw [Lib.cell_of_heap (HC.out _ hbv)]; rfl); have v2 : wv.cell? ⟨W.heap.size, 2, none⟩ = some (.string s) := (by rw [Lib.cell_of_heap (HC.out _ hbv)]; rfl); have v3 : wv.cell? ⟨W.heap.size, 3, none⟩ = some (.slice A k c) := (by rw [Lib.cell_of_heap (HC.out _ hbv)]; rfl))
      | (go_at_call 14; refine (HR.out _ (by assumption)).mono ?_; rintro e wr ⟨rfl, hbr⟩; have r0 : wr.cell? ⟨W.heap.size, 0, none⟩ = some (.int .i64 op) := (by rw [Lib.cell_of_heap (HC.out _ hbr)]; rfl); have r1 : wr.cell? ⟨W.heap.size, 1, none⟩ = some (.int .i64 n) := (by rw [Lib.cell_of_heap (HC.out _ hbr)]; rfl); have r2 : wr.cell? ⟨W.heap.size, 2, none⟩ = some (.string s) := (by rw [Lib.cell_of_heap (HC.out _ hbr)]; rfl); have r3 : wr.cell? ⟨W.heap.size, 3, none⟩ = some (.slice A k c) := (by rw [Lib.cell_of_heap (HC.out _ hbr)]; rfl))
      | (go_at_call 10; refine (HA.out _ (by assumption)).mono ?_; rintro e wa ⟨rfl, hba⟩))
    all_goals
      go_wp2_with fail
      go_ret
      exact ⟨rfl, HB0.out.trans (hba.mono HB0.out.size)⟩
end Go.Proofs.YtbiiempgefjkiaaDoor.Ar
