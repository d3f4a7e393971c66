/- pattern: memberEnds. -/
import Derived.Test.YteppndkhmbhnkaaDoorPSize
namespace Go.Proofs.YteppndkhmbhnkaaDoor
open Go.RowKit
set_option linter.unusedVariables false

/-- Where the ] is that ends the members from i on; -1 if there is none. -/
def mend (cs : List Ch) (i : Nat) : Int :=
  if h : i < cs.length then (if isAt cs i 93 = true then (i : Int) else mend cs (i + msize (cs.drop i))) else -1
termination_by cs.length - i
decreasing_by have := msize_pos (cs.drop i); omega
theorem mend_end (cs : List Ch) (i : Nat) (h : cs.length ≤ i) : mend cs i = -1 := by rw [mend, dif_neg (by omega)]
theorem mend_at (cs : List Ch) (i : Nat) (h : i < cs.length) : mend cs i = if isAt cs i 93 = true then (i : Int) else mend cs (i + msize (cs.drop i)) := by rw [mend, dif_pos h]
theorem mend_range (cs : List Ch) (i : Nat) : mend cs i = -1 ∨ ∃ k : Nat, mend cs i = k ∧ i ≤ k ∧ k < cs.length ∧ isAt cs k 93 = true := by
  induction hn : cs.length - i using Nat.strongRecOn generalizing i with
  | ind n ih =>
    by_cases h : i < cs.length
    · rw [mend_at cs i h]
      by_cases h1 : isAt cs i 93 = true
      · rw [if_pos h1]
        exact .inr ⟨i, rfl, Nat.le_refl _, h, h1⟩
      · rw [if_neg h1]
        have := msize_pos (cs.drop i)
        rcases ih (cs.length - (i + msize (cs.drop i))) (by omega) (i + msize (cs.drop i)) rfl with h2 | ⟨k, h2, h3, h4⟩
        · exact .inl h2
        · exact .inr ⟨k, h2, by omega, h4⟩
    · exact .inl (mend_end cs i (by omega))

theorem intInfo : (Tryd.prog.info? 3).map (fun i => (i.zero, i.size, i.bytes)) = some (some (.int .i64 0), 1, 8) := by kernel_rfl
/-- A row of n + 1 numbers, of which those from lo on are told. -/
def EndsAt (w : World) (g n lo : Nat) (cs : List Ch) : Prop :=
  g < w.heap.size ∧ (∀ j, j ≤ n → (∃ x, w.cell? ⟨g, j, none⟩ = some (.int .i64 x)) ∧ w.frozen? ⟨g, j, none⟩ = false) ∧ ∀ j, lo ≤ j → j ≤ n → w.cell? ⟨g, j, none⟩ = some (.int .i64 (mend cs j))
theorem endsAt_below {w w' : World} {g n lo B : Nat} {cs : List Ch} (h : EndsAt w g n lo cs) (hb : Below B w w') (hg : g < B) : EndsAt w' g n lo cs :=
  ⟨Nat.lt_of_lt_of_le h.1 hb.size, fun j hj => ⟨by obtain ⟨x, hx⟩ := (h.2.1 j hj).1; exact ⟨x, (hb.cell (p := ⟨g, j, none⟩) hg).trans hx⟩, (hb.frozen (p := ⟨g, j, none⟩) hg).trans (h.2.1 j hj).2⟩, fun j h1 h2 => (hb.cell (p := ⟨g, j, none⟩) hg).trans (h.2.2 j h1 h2)⟩
theorem endsAt_set {w : World} {g n i : Nat} {cs : List Ch} (h : EndsAt w g n (i + 1) cs) (hi : i ≤ n) : EndsAt (w.setCell ⟨g, i, none⟩ (.int .i64 (mend cs i))) g n i cs := by
  obtain ⟨h1, h2, h3⟩ := h
  have hcell : ∀ j, j ≤ n → (w.setCell ⟨g, i, none⟩ (.int .i64 (mend cs i))).cell? ⟨g, j, none⟩ = if i = j then some (.int .i64 (mend cs i)) else w.cell? ⟨g, j, none⟩ := by
    intro j hj
    by_cases e : i = j
    · subst e
      obtain ⟨x, hx⟩ := (h2 i hi).1
      rw [World.cell?_setCell_same _ _ _ hx, if_pos rfl]
    · rw [World.cell?_setCell_other _ _ _ _ (fun e1 => e (by injection e1)), if_neg e]
  refine ⟨by simpa using h1, fun j hj => ⟨?_, by simpa using (h2 j hj).2⟩, fun j hj1 hj2 => ?_⟩
  · rw [hcell j hj]
    by_cases e : i = j
    · rw [if_pos e]; exact ⟨_, rfl⟩
    · rw [if_neg e]; exact (h2 j hj).1
  · rw [hcell j hj2]
    by_cases e : i = j
    · rw [if_pos e, e]
    · rw [if_neg e]; exact h3 j (by omega) hj2

set_option maxHeartbeats 8000000 in
set_option maxRecDepth 100000 in
theorem memberEnds_c (A : Option Addr) (cs : List Ch) (c : Nat) (w : World) (hA : ChAt w w.heap.size A cs) (hc : cs.length ≤ 1000000) (hcc : cs.length ≤ c) (hcm : c ≤ maxLen) (hE : Env w w.heap.size) :
    Calls Tryd.prog 51 #[.slice A cs.length c] w fun e w' => ∃ g, e = .returned (.slice (some ⟨g, 0, none⟩) (cs.length + 1) (cs.length + 1)) ∧ EndsAt w' g cs.length 0 cs ∧ Below w.heap.size w w' := by
  obtain ⟨i0, hi, hz0, hz1, hz2⟩ := info_parts intInfo
  have hmx : maxLen = 9223372036854775807 := rfl
  go_enter Tryd.func51, Tryd.ntmps51
  go_wp2_with (at_make; refine wpList_make_full _ rfl _ _ 71 rfl w.heap.size 3 i0 _ 1 Tryd.underlying71 hi hz0 hz1 .i64 .i64 ((cs.length : Int) + 1) ((cs.length : Int) + 1) (cs.length + 1) rfl rfl (by omega) (by omega) (by rw [hz2]; omega) (by omega) (Nat.le_refl _) ?_)
  intro w1 hown1 hg1
  have hb1 : Below w.heap.size w w1 := (Below.refl _ w).grown hg1 (Nat.le_refl _) (fun k hk => by cases hk)
  obtain ⟨cur, hgh, hcs⟩ : ∃ cur, w1.heap[w.heap.size]? = some (.cells cur 3 (0, 0)) ∧ (∀ j, j ≤ cs.length → cur[j]? = some (.int .i64 0)) := by
    rcases hown1.2 with ⟨h, _⟩ | ⟨g, cap, cur, hv, hgB, hgh, _, _, _, h5⟩
    · cases h
    · injection hv with hv1 hv2 hv3
      injection hv1 with hv1
      injection hv1 with hv1
      subst hv1
      refine ⟨cur, hgh, fun j hj => ?_⟩
      rw [Nat.mul_one, toList_madeCells_one] at h5
      have h6 : (cur.toList.take (cs.length + 1))[j]? = (List.replicate (cs.length + 1) (Value.int IntKind.i64 0))[j]? := by rw [h5]
      rw [List.getElem?_take, if_pos (by omega), Array.getElem?_toList, List.getElem?_replicate, if_pos (by omega)] at h6
      exact h6
  have hgsz : w.heap.size < w1.heap.size := lt_of_block hgh
  have hE1 : EndsAt w1 w.heap.size cs.length (cs.length + 1) cs := by
    refine ⟨hgsz, fun j hj => ⟨⟨0, ?_⟩, Lib.frozen_of_heap hgh j⟩, fun j h1 h2 => by omega⟩
    rw [Lib.cell_of_heap hgh]
    exact hcs j hj
  have hE2 := endsAt_set hE1 (Nat.le_refl _)
  rw [mend_end cs cs.length (Nat.le_refl _)] at hE2
  obtain ⟨x9, hx9⟩ := (hE1.2.1 cs.length (Nat.le_refl _)).1
  have hf9 := (hE1.2.1 cs.length (Nat.le_refl _)).2
  have hb2 := hb1.setCell (p := ⟨w.heap.size, cs.length, none⟩) (Nat.le_refl _) (.int .i64 (-1))
  have i1 : (cs.length : Int) < (cs.length : Int) + 1 := by omega
  have HE2 := Lib.hid hE2
  clear hE1 hcs hgh hown1 hg1 hE2
  go_wp2_with fail
  clear hx9 hf9
  go_loopw [4] (fun iv wr => ∃ k : Nat, iv = .int .i64 ((k : Int) - 1) ∧ k ≤ cs.length ∧ Hid (EndsAt wr w.heap.size cs.length k cs) ∧ Below w.heap.size w wr) (fun iv _ => (intOf iv + 1).toNat)
  case atStart => exact ⟨cs.length, rfl, by omega, HE2, hb2⟩
  case round =>
    obtain ⟨k, rfl, hk, hEw, hb⟩ := hrel
    clear HE2 hb1 hb2
    rcases k with _ | k
    · have d1 : decide ((0 : Int) ≤ ((0 : Nat) : Int) - 1) = false := by decide
      go_wp2_with fail
      go_ret
      exact ⟨_, rfl, hEw.out, hb⟩
    rw [show ((k + 1 : Nat) : Int) - 1 = (k : Int) from by omega]
    have d1 : decide ((0 : Int) ≤ (k : Int)) = true := decide_eq_true (by omega)
    obtain ⟨b, off, rfl, hbl, hcell⟩ : ∃ b off, A = some ⟨b, off, none⟩ ∧ b < w.heap.size ∧ ∀ k (h : k < cs.length), w.cell? ⟨b, off + k * 2, none⟩ = some (.int .u8 (cs[k]'h).b.toNat) ∧ w.cell? ⟨b, off + k * 2 + 1, none⟩ = some (.bool (cs[k]'h).act) := by
      rcases hA with rfl | h
      · simp at hk
      · exact h
    have hkl : k < cs.length := by omega
    obtain ⟨x0, x1⟩ := hcell k hkl
    have y0 := (hb.cell (p := ⟨b, off + k * 2, none⟩) hbl).trans x0
    have y1 := (hb.cell (p := ⟨b, off + k * 2 + 1, none⟩) hbl).trans x1
    have his := Lib.hid (isAt_c hA k 93 93 rfl hkl wr hb)
    have hwr : w.heap.size < wr.heap.size := hEw.out.1
    have j1 : (k : Int) < (cs.length : Int) := by omega
    have j2 : (k : Int) < (cs.length : Int) + 1 := by omega
    have j3 : (k : Int) ≤ (c : Int) := by omega
    have j4 : ¬ (c = k) := by omega
    clear x0 x1 hcell
    go_wp2_with fail
    with_reducible refine his.out.mono ?_
    rintro e w3 ⟨rfl, m3, n3⟩
    clear his y0 y1
    have hE3 := endsAt_below hEw.out n3 hwr
    have hset := endsAt_set hE3 (show k ≤ cs.length by omega)
    have hme := mend_at cs k hkl
    have hb3 : ∀ v, Below w.heap.size w (w3.setCell ⟨w.heap.size, k, none⟩ v) := fun v => m3.setCell (p := ⟨w.heap.size, k, none⟩) (Nat.le_refl _) v
    rcases hQ : isAt cs k 93 with _ | _
    · rw [hQ, if_neg (by simp)] at hme
      have hpos := msize_pos (cs.drop k)
      have hle := msize_le (cs.drop k) (by intro h; have := congrArg List.length h; rw [List.length_drop] at this; simp at this; omega)
      rw [List.length_drop] at hle
      have hw3 : w.heap.size ≤ w3.heap.size := m3.size
      have hA3 := chAt_mono (chAt_below (chAt_dropS hA k) m3 (Nat.le_refl _)) hw3
      have hms := memberSize_c _ (cs.drop k) (c - k) w3 hA3 (by rw [List.length_drop]; omega) (env_mono (env_below hE m3 (Nat.le_refl _)) hw3)
      rw [List.length_drop] at hms
      generalize msize (cs.drop k) = M at *
      have Hms := Lib.hid hms
      have HE3 := Lib.hid hE3
      have Hme := Lib.hid hme
      have j5 : (0 : Int) ≤ (k : Int) + (M : Int) ∧ (k : Int) + (M : Int) < (cs.length : Int) + 1 := by omega
      clear hms hE3 hset hQ hme
      go_wp2_with fail
      with_reducible refine Hms.out.mono ?_
      rintro e w4 ⟨rfl, m4⟩
      clear Hms
      have hE4 := endsAt_below HE3.out m4 (by have := HE3.out.1; exact this)
      have hv := hE4.2.2 (k + M) (by omega) (by omega)
      obtain ⟨x9, hx9⟩ := (hE4.2.1 k (by omega)).1
      have hf9 := (hE4.2.1 k (by omega)).2
      have hset := endsAt_set hE4 (show k ≤ cs.length by omega)
      rw [Hme.out] at hset
      have Hset := Lib.hid hset
      have hb4 : ∀ v, Below w.heap.size w (w4.setCell ⟨w.heap.size, k, none⟩ v) := fun v => (m3.trans (m4.mono m3.size)).setCell (p := ⟨w.heap.size, k, none⟩) (Nat.le_refl _) v
      have j6 : ((k : Int) + (M : Int)).toNat = k + M := by omega
      obtain ⟨j5, j5'⟩ := j5
      clear hset hE4 HE3 hb3
      go_wp2_with fail
      go_roundw
      case rel => exact ⟨k, by go_num, by omega, Hset, hb4 _⟩
      case measure => simp [intOf]
    · rw [hQ, if_pos rfl] at hme
      rw [hme] at hset
      obtain ⟨x9, hx9⟩ := (hE3.2.1 k (by omega)).1
      have hf9 := (hE3.2.1 k (by omega)).2
      have Hset := Lib.hid hset
      clear hset hE3 hme hQ
      go_wp2_with fail
      go_roundw
      case rel => exact ⟨k, by go_num, by omega, Hset, hb3 _⟩
      case measure => simp [intOf]
end Go.Proofs.YteppndkhmbhnkaaDoor
