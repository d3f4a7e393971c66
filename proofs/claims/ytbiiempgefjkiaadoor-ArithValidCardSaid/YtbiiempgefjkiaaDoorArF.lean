/- arith: operators: binaryAt, isAssigning, unaryAt, unaryText, levelOf, arity, named. -/
import Derived.Test.YtbiiempgefjkiaaDoorArE
import Derived.Deep.QuietTactic
import Derived.BigQuiet
namespace Go.Proofs.YtbiiempgefjkiaaDoor.Ar
open Go.RowKit
set_option linter.unusedVariables false

set_option maxHeartbeats 2000000 in
set_option maxRecDepth 100000 in
theorem binaryAt_c (t : ByteArray) (w : World) (hE : Env w) :
    Calls Tryd.prog 77 #[.string t] w fun e w' => e = .returned (.tuple #[bnV (binAt t).1, .bool (binAt t).2]) ∧ Below w.heap.size w w' := by
  have hR : Hid (findTx binL t = (binL.drop 0).find? fun b => eqB b.t t) := Lib.hid rfl
  unfold binAt
  generalize findTx binL t = R at *
  obtain ⟨ty0, fr0, hg⟩ := hE
  have hglt : 0 < w.heap.size := (Array.getElem?_eq_some_iff.1 hg).1
  have hg2 : ∀ o, (w.alloc o).heap[0]? = some (.cells tabA ty0 fr0) := fun o => by rw [Below.heap_alloc _ _ _ hglt]; exact hg
  have HG := Lib.hid hg2
  clear hg hg2
  have m0 : Below w.heap.size w (w.alloc bn0O) := (Below.refl _ _).alloc (Nat.le_refl _) _
  have hn0 := heap_alloc_new w bn0O
  have hz0 : w.heap.size + 1 ≤ (w.alloc bn0O).heap.size := by simp
  go_enter Tryd.func77, Tryd.ntmps77
  go_wp2_with (refine wpList_load_row rfl 93 _ rfl 0 rfl ty0 tabA fr0 _ (HG.out _) Tryd.underlying93 rfl (by kernel_rfl) ?_)
  have hw0 : w.alloc (.cells #[.string ⟨#[]⟩, .int .i64 0, .int .i64 0, .bool false] 82) = w.alloc bn0O := rfl
  rw [hw0]
  clear hw0
  generalize w.alloc bn0O = w0 at *
  go_loopw [7] (fun iv wr => ∃ k : Nat, iv = .int .i64 k ∧ k ≤ 18 ∧ Below (w.heap.size + 1) w0 wr ∧ Hid (R = (binL.drop k).find? fun b => eqB b.t t)) (fun iv _ => 18 - (intOf iv).toNat)
  case atStart => exact ⟨0, rfl, by omega, Below.refl _ _, hR⟩
  case round =>
    obtain ⟨k, rfl, hk, hb, hx⟩ := hrel
    have mr := m0.trans (hb.mono (Nat.le_succ _))
    have hwr : w.heap.size + 1 ≤ wr.heap.size := Nat.le_trans hz0 hb.size
    have hH : wr.heap[w.heap.size]? = some (.cells #[.string ⟨#[]⟩, .int .i64 0, .int .i64 0, .bool false] 82 (0, 0)) := (hb.block _ (by omega)).trans hn0
    by_cases h8 : k < 18
    · have i1 : (k : Int) < 18 := by omega
      have hix := tab_index k h8 wr
      have hxx := hx.out
      rw [find_drop _ _ _ h8] at hxx
      have Hxx := Lib.hid hxx
      generalize binL[k] = b at *
      have hb2 := hb.alloc hwr (.cells #[.string b.t, .int .i64 b.op, .int .i64 b.lv, .bool b.as] 82)
      clear hx hxx HG hR
      unfold bnV at hix
      by_cases hop : eqB b.t t = true
      · have hR2 : R = some b := by rw [Hxx.out, if_pos hop]
        subst hR2
        have t1 : (b.t.toList == t.toList) = true := by
          rw [ByteArray.toList_eq, ByteArray.toList_eq]; unfold eqB at hop; exact hop
        have c0 : ∀ o, (wr.alloc o).cell? ⟨w.heap.size, 0, none⟩ = some (.string ⟨#[]⟩) := fun o => by rw [Lib.cell_of_heap (by rw [Below.heap_alloc _ _ _ (by omega)]; exact hH)]; rfl
        have c1 : ∀ o, (wr.alloc o).cell? ⟨w.heap.size, 1, none⟩ = some (.int .i64 0) := fun o => by rw [Lib.cell_of_heap (by rw [Below.heap_alloc _ _ _ (by omega)]; exact hH)]; rfl
        have c2 : ∀ o, (wr.alloc o).cell? ⟨w.heap.size, 2, none⟩ = some (.int .i64 0) := fun o => by rw [Lib.cell_of_heap (by rw [Below.heap_alloc _ _ _ (by omega)]; exact hH)]; rfl
        have c3 : ∀ o, (wr.alloc o).cell? ⟨w.heap.size, 3, none⟩ = some (.bool false) := fun o => by rw [Lib.cell_of_heap (by rw [Below.heap_alloc _ _ _ (by omega)]; exact hH)]; rfl
        have f0 : ∀ o j, (wr.alloc o).frozen? ⟨w.heap.size, j, none⟩ = false := fun o j => Lib.frozen_of_heap (by rw [Below.heap_alloc _ _ _ (by omega)]; exact hH) j
        have mz := fun v0 v1 v2 v3 => (((((m0.trans (hb2.mono (Nat.le_succ _))).setCell (p := ⟨w.heap.size, 0, none⟩) (Nat.le_refl _) v0).setCell (p := ⟨w.heap.size, 1, none⟩) (Nat.le_refl _) v1).setCell (p := ⟨w.heap.size, 2, none⟩) (Nat.le_refl _) v2).setCell (p := ⟨w.heap.size, 3, none⟩) (Nat.le_refl _) v3)
        have Hmz := Lib.hid mz
        clear mz hH Hxx hb hb2 mr hop
        go_wp2_with fail
        refine bodyPost_ret (v := .tuple #[bnV b, .bool true]) (by simp [results, Tryd.results77, go_sem, bnV, c0, c1, c2, c3]) rfl ⟨rfl, Hmz.out _ _ _ _⟩
      · have t1 : (b.t.toList == t.toList) = false := by
          rw [ByteArray.toList_eq, ByteArray.toList_eq]; unfold eqB at hop; simpa using hop
        have hR2 : Hid (R = (binL.drop (k + 1)).find? fun b => eqB b.t t) := Lib.hid (by rw [Hxx.out, if_neg hop])
        clear Hxx hop hH
        go_wp2_with fail
        go_roundw
        case rel => exact ⟨k + 1, by go_num, by omega, hb2, hR2⟩
        case measure => simp [intOf]; omega
    · obtain rfl : k = 18 := by omega
      have hR2 : R = none := hx.out
      subst hR2
      have c0 : wr.cell? ⟨w.heap.size, 0, none⟩ = some (.string ⟨#[]⟩) := by rw [Lib.cell_of_heap hH]; rfl
      have c1 : wr.cell? ⟨w.heap.size, 1, none⟩ = some (.int .i64 0) := by rw [Lib.cell_of_heap hH]; rfl
      have c2 : wr.cell? ⟨w.heap.size, 2, none⟩ = some (.int .i64 0) := by rw [Lib.cell_of_heap hH]; rfl
      have c3 : wr.cell? ⟨w.heap.size, 3, none⟩ = some (.bool false) := by rw [Lib.cell_of_heap hH]; rfl
      have f0 : ∀ j, wr.frozen? ⟨w.heap.size, j, none⟩ = false := fun j => Lib.frozen_of_heap hH j
      have mz := fun v0 v1 v2 v3 => ((((mr.setCell (p := ⟨w.heap.size, 0, none⟩) (Nat.le_refl _) v0).setCell (p := ⟨w.heap.size, 1, none⟩) (Nat.le_refl _) v1).setCell (p := ⟨w.heap.size, 2, none⟩) (Nat.le_refl _) v2).setCell (p := ⟨w.heap.size, 3, none⟩) (Nat.le_refl _) v3)
      have Hmz := Lib.hid mz
      clear mz hH hb mr hx h8 hk
      go_wp2_with fail
      refine bodyPost_ret (v := .tuple #[bnV bn0, .bool false]) (by simp [results, Tryd.results77, go_sem, bnV, bn0, c0, c1, c2, c3]) rfl ⟨rfl, Hmz.out _ _ _ _⟩
set_option maxHeartbeats 1000000 in
theorem isAssigning_c (op : Int) (w : World) (hE : Env w) :
    Calls Tryd.prog 57 #[.int .i64 op] w fun e w' => e = .returned (.bool (asgOp op)) ∧ Below w.heap.size w w' := by
  have HC := Lib.hid (binaryOf_c op w hE)
  unfold asgOp
  generalize binOf op = R at *
  obtain ⟨⟨tx, o, lv, ag⟩, r⟩ := R
  unfold bnV at HC
  by_cases h0 : (op == 0) = true
  · rw [h0, Bool.or_true]
    rcases ag with _ | _ <;>
    · go_enter Tryd.func57, Tryd.ntmps57
      go_wp2_with fail
      refine HC.out.mono ?_
      rintro e w1 ⟨rfl, hb⟩
      have hb2 := hb.alloc hb.size (.cells #[.string tx, .int .i64 o, .int .i64 lv, .bool true] 82)
      have hb3 := hb.alloc hb.size (.cells #[.string tx, .int .i64 o, .int .i64 lv, .bool false] 82)
      go_wp2_with fail
      go_ret
      first | exact ⟨rfl, hb2⟩ | exact ⟨rfl, hb3⟩
  · have h1 : (op == 0) = false := by simpa using h0
    rw [h1, Bool.or_false]
    clear h0
    rcases ag with _ | _ <;>
    · go_enter Tryd.func57, Tryd.ntmps57
      go_wp2_with fail
      refine HC.out.mono ?_
      rintro e w1 ⟨rfl, hb⟩
      have hb2 := hb.alloc hb.size (.cells #[.string tx, .int .i64 o, .int .i64 lv, .bool true] 82)
      have hb3 := hb.alloc hb.size (.cells #[.string tx, .int .i64 o, .int .i64 lv, .bool false] 82)
      go_wp2_with fail
      go_ret
      first | exact ⟨rfl, hb2⟩ | exact ⟨rfl, hb3⟩
theorem eqB_list {s : ByteArray} {l : List UInt8} (b : Bool) (h : eqB s ⟨l.toArray⟩ = b) : (s.toList == l) = b := by
  rw [ByteArray.toList_eq, ← h]; unfold eqB; simp
set_option maxHeartbeats 1000000 in
theorem unaryAt_c (t : ByteArray) (w : World) :
    Calls Tryd.prog 84 #[.string t] w fun e w' => e = .returned (.tuple #[.int .i64 (unaAt t).1, .bool (unaAt t).2]) ∧ w = w' := by
  have hl : ∀ l b, eqB t ⟨l⟩ = b → (t.toList == l.toList) = b := fun l b h => eqB_list b (by simpa using h)
  unfold unaAt
  by_cases h1 : eqB t ⟨#[45]⟩ = true
  · rw [if_pos h1]
    have g1 : (t.toList == [45]) = true := hl _ _ h1
    clear hl h1
    go_enter Tryd.func84, Tryd.ntmps84
    go_wp2_with fail
    go_ret2
    exact ⟨rfl, rfl⟩
  rw [if_neg h1]
  have g1 : (t.toList == [45]) = false := hl _ _ (by simpa using h1)
  by_cases h2 : eqB t ⟨#[43]⟩ = true
  · rw [if_pos h2]
    have g2 : (t.toList == [43]) = true := hl _ _ h2
    clear hl h1 h2
    go_enter Tryd.func84, Tryd.ntmps84
    go_wp2_with fail
    go_ret2
    exact ⟨rfl, rfl⟩
  rw [if_neg h2]
  have g2 : (t.toList == [43]) = false := hl _ _ (by simpa using h2)
  by_cases h3 : eqB t ⟨#[33]⟩ = true
  · rw [if_pos h3]
    have g3 : (t.toList == [33]) = true := hl _ _ h3
    clear hl h1 h2 h3
    go_enter Tryd.func84, Tryd.ntmps84
    go_wp2_with fail
    go_ret2
    exact ⟨rfl, rfl⟩
  rw [if_neg h3]
  have g3 : (t.toList == [33]) = false := hl _ _ (by simpa using h3)
  by_cases h4 : eqB t ⟨#[126]⟩ = true
  · rw [if_pos h4]
    have g4 : (t.toList == [126]) = true := hl _ _ h4
    clear hl h1 h2 h3 h4
    go_enter Tryd.func84, Tryd.ntmps84
    go_wp2_with fail
    go_ret2
    exact ⟨rfl, rfl⟩
  rw [if_neg h4]
  have g4 : (t.toList == [126]) = false := hl _ _ (by simpa using h4)
  clear hl h1 h2 h3 h4
  go_enter Tryd.func84, Tryd.ntmps84
  go_wp2_with fail
  go_ret2
  exact ⟨rfl, rfl⟩
set_option maxHeartbeats 1000000 in
theorem unaryText_c (op : Int) (w : World) :
    Calls Tryd.prog 52 #[.int .i64 op] w fun e w' => e = .returned (.string (unaTx op)) ∧ w = w' := by
  unfold unaTx
  rcases h3 : (op == 3) with _ | _
  · rcases h4 : (op == 4) with _ | _
    · rcases h5 : (op == 5) with _ | _ <;>
      · go_enter Tryd.func52, Tryd.ntmps52
        go_wp2_with fail
        go_ret
        exact ⟨rfl, rfl⟩
    · go_enter Tryd.func52, Tryd.ntmps52
      go_wp2_with fail
      go_ret
      exact ⟨rfl, rfl⟩
  · go_enter Tryd.func52, Tryd.ntmps52
    go_wp2_with fail
    go_ret
    exact ⟨rfl, rfl⟩
set_option maxHeartbeats 1000000 in
theorem named_c (op : Int) (w : World) :
    Calls Tryd.prog 29 #[.int .i64 op] w fun e w' => e = .returned (.bool (named op)) ∧ w = w' := by
  unfold named
  rcases h3 : (op == 2) with _ | _
  · rcases h4 : (op == 26) with _ | _ <;>
    · go_enter Tryd.func29, Tryd.ntmps29
      go_wp2_with fail
      go_ret
      exact ⟨rfl, rfl⟩
  · go_enter Tryd.func29, Tryd.ntmps29
    go_wp2_with fail
    go_ret
    exact ⟨rfl, rfl⟩
set_option maxHeartbeats 2000000 in
theorem levelOf_c (x : Ex) (A : Option Addr) (c : Nat) (w : World) (hE : Env w) :
    Calls Tryd.prog 34 #[x.val A c] w fun e w' => e = .returned (.int .i64 (lvOf x.op : Nat)) ∧ Below w.heap.size w w' := by
  unfold Ex.val
  generalize x.op = op, x.n = n, x.name = s, x.kids.length = k
  have hb0 := (Below.refl w.heap.size w).alloc (Nat.le_refl _) (.cells #[.int .i64 op, .int .i64 n, .string s, .slice A k c] 24)
  have HC := Lib.hid (binaryOf_c op _ (env_next hE hb0))
  clear hE
  unfold lvOf
  rcases h1 : (op == 1) with _ | _
  · rcases h2 : (op == 2) with _ | _
    · rcases h3 : (op == 26) with _ | _
      · rcases h4 : (op == 25) with _ | _
        · generalize binOf op = R at *
          obtain ⟨⟨tx, o, lv, ag⟩, r⟩ := R
          unfold bnV at HC
          rcases r with _ | _ <;>
          · go_enter Tryd.func34, Tryd.ntmps34
            go_wp2_with fail
            refine HC.out.mono ?_
            rintro e w1 ⟨rfl, hb⟩
            have hb2 := (hb0.trans (hb.mono (by simp))).alloc (by have := hb.size; simp at this; omega) (.cells #[.string tx, .int .i64 o, .int .i64 lv, .bool ag] 82)
            go_wp2_with fail
            go_ret
            exact ⟨rfl, hb2⟩
        · go_enter Tryd.func34, Tryd.ntmps34
          go_wp2_with fail
          go_ret
          exact ⟨rfl, hb0⟩
      · go_enter Tryd.func34, Tryd.ntmps34
        go_wp2_with fail
        go_ret
        exact ⟨rfl, hb0⟩
    · go_enter Tryd.func34, Tryd.ntmps34
      go_wp2_with fail
      go_ret
      exact ⟨rfl, hb0⟩
  · go_enter Tryd.func34, Tryd.ntmps34
    go_wp2_with fail
    go_ret
    exact ⟨rfl, hb0⟩
set_option maxHeartbeats 2000000 in
theorem arity_c (op : Int) (w : World) (hE : Env w) :
    Calls Tryd.prog 56 #[.int .i64 op] w fun e w' => e = .returned (.tuple #[.int .i64 (arity op).1, .bool (arity op).2]) ∧ Below w.heap.size w w' := by
  have HC := Lib.hid (binaryOf_c op w hE)
  unfold arity
  by_cases h1 : (op == 1) = true ∨ (op == 2) = true ∨ (op == 3) = true ∨ (op == 4) = true ∨ (op == 5) = true ∨ (op == 6) = true ∨ (op == 26) = true ∨ (op == 25) = true
  · simp only [beq_iff_eq] at h1
    rcases h1 with rfl | rfl | rfl | rfl | rfl | rfl | rfl | rfl <;>
    · clear HC
      go_enter Tryd.func56, Tryd.ntmps56
      go_wp2_with fail
      go_ret2
      exact ⟨rfl, Below.refl _ _⟩
  · simp only [not_or, Bool.not_eq_true] at h1
    obtain ⟨h1, h2, h3, h4, h5, h6, h7, h8⟩ := h1
    rw [h1, h2, h3, h4, h5, h6, h7, h8]
    simp only [Bool.or_self, Bool.false_eq_true, if_false]
    generalize binOf op = R at *
    obtain ⟨⟨tx, o, lv, ag⟩, r⟩ := R
    unfold bnV at HC
    go_enter Tryd.func56, Tryd.ntmps56
    go_wp2_with fail
    refine HC.out.mono ?_
    rintro e w1 ⟨rfl, hb⟩
    have hb2 := hb.alloc hb.size (.cells #[.string tx, .int .i64 o, .int .i64 lv, .bool ag] 82)
    go_wp2_with fail
    go_ret2
    exact ⟨rfl, hb2⟩
end Go.Proofs.YtbiiempgefjkiaaDoor.Ar
