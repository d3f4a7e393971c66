/- pattern: bracketAt. -/
import Derived.Test.YteppndkhmbhnkaaDoorPSpans
namespace Go.Proofs.YteppndkhmbhnkaaDoor
open Go.RowKit
set_option linter.unusedVariables false

theorem classR_even (i : Nat) : (classR i).length % 2 = 0 := by
  have : ∀ i, i < 8 → (classR i).length % 2 = 0 := by decide
  rcases Nat.lt_or_ge i 8 with h | h
  · exact this i h
  · unfold classR
    rw [List.getD_eq_getElem?_getD, List.getElem?_eq_none (by simpa using h)]
    rfl
theorem classR_len (i : Nat) : (classR i).length ≤ 8 := by
  have : ∀ i, i < 8 → (classR i).length ≤ 8 := by decide
  rcases Nat.lt_or_ge i 8 with h | h
  · exact this i h
  · unfold classR
    rw [List.getD_eq_getElem?_getD, List.getElem?_eq_none (by simpa using h)]
    simp
theorem mranges_even (cs : List Ch) : (mranges cs).length % 2 = 0 := by
  unfold mranges
  split
  · exact classR_even _
  · split <;> simp
theorem mranges_len (cs : List Ch) : (mranges cs).length ≤ 8 := by
  unfold mranges
  split
  · exact classR_len _
  · split <;> simp
/-- The bytes of the members from i on, up to e. -/
def memS (cs : List Ch) (e i : Nat) (j : Nat) : Bool :=
  if h : i < e then inR (mranges ((cs.drop i).take (msize (cs.drop i)))) j || memS cs e (i + msize (cs.drop i)) j else false
termination_by e - i
decreasing_by have := msize_pos (cs.drop i); omega
theorem memS_end (cs : List Ch) (e i j : Nat) (h : e ≤ i) : memS cs e i j = false := by rw [memS, dif_neg (by omega)]
theorem memS_at (cs : List Ch) (e i j : Nat) (h : i < e) : memS cs e i j = (inR (mranges ((cs.drop i).take (msize (cs.drop i)))) j || memS cs e (i + msize (cs.drop i)) j) := by rw [memS, dif_pos h]

def negAt (cs : List Ch) (p : Nat) : Bool := isAt cs (p + 1) 33 || isAt cs (p + 1) 94
def firstAt (cs : List Ch) (p : Nat) : Nat := if negAt cs p = true then p + 2 else p + 1
/-- The bracket expression at p: is it negated, its spans, its size. -/
def brk (cs : List Ch) (p : Nat) : Option (Bool × List (Nat × Nat) × Nat) :=
  if cs.length ≤ firstAt cs p then none else
  if mend cs (firstAt cs p + msize (cs.drop (firstAt cs p))) < 0 then none else
  some (negAt cs p, spL (memS cs (mend cs (firstAt cs p + msize (cs.drop (firstAt cs p)))).toNat (firstAt cs p)) 256, (mend cs (firstAt cs p + msize (cs.drop (firstAt cs p)))).toNat + 1 - p)
def BrkPost (cs : List Ch) (p : Nat) (w : World) (e : Ending) (w' : World) : Prop :=
  (brk cs p = none ∧ e = .returned (.tuple #[.agg #[.int .i64 0, .string { data := #[] }, .bool false, .slice none 0 0], .int .i64 0]) ∨
    ∃ neg sp sz v, brk cs p = some (neg, sp, sz) ∧ e = .returned (.tuple #[.agg #[.int .i64 4, .string { data := #[] }, .bool neg, v], .int .i64 (sz : Nat)]) ∧ OwnSp w' w.heap.size v sp) ∧ Below w.heap.size w w'

/-- An item in a block of its own. -/
def ItemAt (w : World) (D : Nat) (k : Int) (t : Value) (n : Bool) (v : Value) : Prop :=
  D < w.heap.size ∧ (∀ j, w.frozen? ⟨D, j, none⟩ = false) ∧ w.cell? ⟨D, 0, none⟩ = some (.int .i64 k) ∧ w.cell? ⟨D, 1, none⟩ = some t ∧ w.cell? ⟨D, 2, none⟩ = some (.bool n) ∧ w.cell? ⟨D, 3, none⟩ = some v
theorem itemAt_below {w w' : World} {D B : Nat} {k : Int} {t v : Value} {n : Bool} (h : ItemAt w D k t n v) (hb : Below B w w') (hD : D < B) : ItemAt w' D k t n v :=
  ⟨Nat.lt_of_lt_of_le h.1 hb.size, fun j => (hb.frozen (p := ⟨D, j, none⟩) hD).trans (h.2.1 j), (hb.cell (p := ⟨D, 0, none⟩) hD).trans h.2.2.1, (hb.cell (p := ⟨D, 1, none⟩) hD).trans h.2.2.2.1, (hb.cell (p := ⟨D, 2, none⟩) hD).trans h.2.2.2.2.1, (hb.cell (p := ⟨D, 3, none⟩) hD).trans h.2.2.2.2.2⟩
theorem itemAt_kept {w w' : World} {D : Nat} {k : Int} {t v : Value} {n : Bool} (h : ItemAt w D k t n v) (hk : w'.heap[D]? = w.heap[D]?) (hs : w.heap.size ≤ w'.heap.size) : ItemAt w' D k t n v :=
  ⟨Nat.lt_of_lt_of_le h.1 hs, fun j => (World.frozen?_of_block (a := ⟨D, j, none⟩) hk).trans (h.2.1 j), (World.cell?_of_block (a := ⟨D, 0, none⟩) hk).trans h.2.2.1, (World.cell?_of_block (a := ⟨D, 1, none⟩) hk).trans h.2.2.2.1, (World.cell?_of_block (a := ⟨D, 2, none⟩) hk).trans h.2.2.2.2.1, (World.cell?_of_block (a := ⟨D, 3, none⟩) hk).trans h.2.2.2.2.2⟩
theorem itemAt_new (w : World) (k : Int) (t : Value) (n : Bool) (v : Value) (T : TypeId) : ItemAt (w.alloc (.cells #[.int .i64 k, t, .bool n, v] T)) w.heap.size k t n v := by
  have h := heap_alloc_new w (.cells #[.int .i64 k, t, .bool n, v] T)
  refine ⟨by simp, fun j => Lib.frozen_of_heap h j, ?_, ?_, ?_, ?_⟩ <;> (rw [Lib.cell_of_heap h]; rfl)
theorem itemAt_neg {w : World} {D : Nat} {k : Int} {t v : Value} {n : Bool} (h : ItemAt w D k t n v) (m : Bool) : ItemAt (w.setCell ⟨D, 2, none⟩ (.bool m)) D k t m v := by
  obtain ⟨h1, h2, h3, h4, h5, h6⟩ := h
  refine ⟨by simpa using h1, fun j => by simpa using h2 j, ?_, ?_, ?_, ?_⟩
  · rw [World.cell?_setCell_other _ _ _ _ (by intro e; injection e with _ e; cases e)]; exact h3
  · rw [World.cell?_setCell_other _ _ _ _ (by intro e; injection e with _ e; cases e)]; exact h4
  · rw [World.cell?_setCell_same _ _ _ h5]
  · rw [World.cell?_setCell_other _ _ _ _ (by intro e; injection e with _ e; cases e)]; exact h6
theorem itemAt_other {w : World} {D D2 i : Nat} {k : Int} {t v x : Value} {n : Bool} (h : ItemAt w D k t n v) (hD : D ≠ D2) : ItemAt (w.setCell ⟨D2, i, none⟩ x) D k t n v :=
  itemAt_kept h (Below.heap_setCell _ _ _ _ (by simpa using hD)) (by simp)

theorem zeroSet : Tryd.zeroCells127 = Array.replicate 256 (.bool false) := by kernel_rfl
theorem setAt_zero (w : World) : SetAt (w.alloc (.cells Tryd.zeroCells127 127)) w.heap.size (fun _ => false) := by
  have h := heap_alloc_new w (.cells Tryd.zeroCells127 127)
  refine ⟨by simp, fun j hj => ⟨?_, Lib.frozen_of_heap h j⟩⟩
  rw [Lib.cell_of_heap h, zeroSet]
  show (Array.replicate 256 (Value.bool false))[j]? = _
  rw [Array.getElem?_replicate, if_pos hj]

theorem spL_ext (S T : Nat → Bool) : ∀ (k : Nat), (∀ j, j < k → S j = T j) → spL S k = spL T k
  | 0, _ => rfl
  | k + 1, h => by
    have h1 := h k (by omega)
    have h2 : (decide (0 < k) && S (k - 1)) = (decide (0 < k) && T (k - 1)) := by
      by_cases h0 : 0 < k
      · rw [h (k - 1) (by omega)]
      · simp [h0]
    rw [spL, spL, h1, h2, spL_ext S T k (fun j hj => h j (by omega))]
theorem ownSp_set {w : World} {B D i : Nat} {v : Value} {l : List (Nat × Nat)} (h : OwnSp w B v l) (hD : D < B) (u : Value) : OwnSp (w.setCell ⟨D, i, none⟩ u) B v l := by
  refine ⟨h.1, ?_⟩
  rcases h.2 with h0 | ⟨g, cap, cur, rfl, hg, hh, r⟩
  · exact .inl h0
  · exact .inr ⟨g, cap, cur, rfl, hg, (Below.heap_setCell _ _ _ _ (by show g ≠ D; omega)).trans hh, r⟩
theorem ownSp_form {w : World} {B : Nat} {v : Value} {l : List (Nat × Nat)} (h : OwnSp w B v l) : ∃ A n c, v = .slice A n c := by
  rcases h.2 with ⟨h0, _⟩ | ⟨g, cap, cur, rfl, _⟩
  · exact ⟨_, _, _, h0⟩
  · exact ⟨_, _, _, rfl⟩
theorem ownSp_mono {w : World} {B B' : Nat} {v : Value} {l : List (Nat × Nat)} (h : OwnSp w B v l) (hB : B' ≤ B) : OwnSp w B' v l := by
  refine ⟨h.1, ?_⟩
  rcases h.2 with h0 | ⟨g, cap, cur, rfl, hg, r⟩
  · exact .inl h0
  · exact .inr ⟨g, cap, cur, rfl, by omega, r⟩

set_option maxHeartbeats 8000000 in
set_option maxRecDepth 100000 in
theorem bracketAt_c (A : Option Addr) (cs : List Ch) (c p ge : Nat) (w : World) (hA : ChAt w w.heap.size A cs) (hc : cs.length ≤ 1000000) (hcc : cs.length ≤ c) (hcm : c ≤ maxLen) (hE : Env w w.heap.size) (hp : p < cs.length) (hEn : EndsAt w ge cs.length 0 cs) :
    Calls Tryd.prog 86 #[.slice A cs.length c, .int .i64 p, .slice (some ⟨ge, 0, none⟩) (cs.length + 1) (cs.length + 1)] w (BrkPost cs p w) := by
  have hmx : maxLen = 9223372036854775807 := rfl
  obtain ⟨b, off, rfl, hbl, hcell⟩ : ∃ b off, A = some ⟨b, off, none⟩ ∧ b < w.heap.size ∧ ∀ k (h : k < cs.length), w.cell? ⟨b, off + k * 2, none⟩ = some (.int .u8 (cs[k]'h).b.toNat) ∧ w.cell? ⟨b, off + k * 2 + 1, none⟩ = some (.bool (cs[k]'h).act) := by
    rcases hA with rfl | h
    · simp at hp
    · exact h
  by_cases h1 : p + 1 < cs.length
  · have t1 : decide ((p : Int) + 1 < (cs.length : Int)) = true := decide_eq_true (by omega)
    go_enter Tryd.func86, Tryd.ntmps86
    go_wp2_with fail
    have mZ : Below w.heap.size w (w.alloc (.cells #[.int .i64 0, .string { data := #[] }, .bool false, .slice none 0 0] 43)) := (Below.refl _ _).alloc (Nat.le_refl _) _
    have hZ0 := itemAt_new w 0 (.string { data := #[] }) false (.slice none 0 0) 43
    have hsz1 : (w.alloc (.cells #[.int .i64 0, .string { data := #[] }, .bool false, .slice none 0 0] 43)).heap.size = w.heap.size + 1 := by simp
    generalize w.alloc (.cells #[.int .i64 0, .string { data := #[] }, .bool false, .slice none 0 0] 43) = wz at *
    have mI : Below wz.heap.size wz (wz.alloc (.cells #[.int .i64 4, .string { data := #[] }, .bool false, .slice none 0 0] 43)) := (Below.refl _ _).alloc (Nat.le_refl _) _
    have hI0 := itemAt_new wz 4 (.string { data := #[] }) false (.slice none 0 0) 43
    have hZ1 := itemAt_below hZ0 mI hZ0.1
    have hb0 := mZ.trans (mI.mono mZ.size)
    rw [hsz1] at hI0
    have hsz2 : w.heap.size + 1 < (wz.alloc (.cells #[.int .i64 4, .string { data := #[] }, .bool false, .slice none 0 0] 43)).heap.size := hI0.1
    generalize wz.alloc (.cells #[.int .i64 4, .string { data := #[] }, .bool false, .slice none 0 0] 43) = w0 at *
    have i1 := Lib.hid (isAt_c hA (p + 1) 33 33 rfl h1 w0 hb0)
    have i2 := Lib.hid (isAt_c hA (p + 1) 94 94 rfl h1)
    clear mZ hZ0 mI hsz1
    with_reducible refine i1.out.mono ?_
    rintro e w1 ⟨rfl, m1, n1⟩
    have hZ2 := itemAt_below hZ1 n1 hZ1.1
    have hI2 := itemAt_below hI0 n1 hI0.1
    clear i1 hZ1 hI0 n1
    rcases hQ1 : isAt cs (p + 1) 33 with _ | _
    · have x0 := (m1.cell (p := ⟨b, off + (p + 1) * 2, none⟩) hbl).trans (hcell (p + 1) h1).1
      have x1 := (m1.cell (p := ⟨b, off + (p + 1) * 2 + 1, none⟩) hbl).trans (hcell (p + 1) h1).2
      go_wp2_with fail
      with_reducible refine (i2.out _ m1).mono ?_
      rintro e w2 ⟨rfl, m2, n2⟩
      have hZ := itemAt_below hZ2 n2 hZ2.1
      have hI3 := itemAt_below hI2 n2 hI2.1
      have hb := m2
      clear i2 x0 x1 hZ2 hI2 n2 m1
      rcases hQ2 : isAt cs (p + 1) 94 with _ | _
      · have hneg : negAt cs p = false := by unfold negAt; rw [hQ1, hQ2]; rfl
        have hFst : firstAt cs p = p + 1 := by unfold firstAt; rw [hneg]; rfl
        have hI := hI3
        clear hQ1 hQ2 hI3
        clear hcell

        have hfl : p + 1 < cs.length := by omega
        have t9 : (((p : Int) + 1) == (cs.length : Int)) = false := by rw [beq_eq_false_iff_ne]; omega
        have hM1 := msize_pos (cs.drop (p + 1))
        have hM2 := msize_le (cs.drop (p + 1)) (by intro h; have := congrArg List.length h; rw [List.length_drop] at this; simp at this; omega)
        rw [List.length_drop] at hM2
        have hwW : w.heap.size ≤ w2.heap.size := hb.size
        have hms := memberSize_c _ (cs.drop (p + 1)) (c - (p + 1)) w2 (chAt_mono (chAt_below (chAt_dropS hA (p + 1)) hb (Nat.le_refl _)) hwW) (by rw [List.length_drop]; omega) (env_mono (env_below hE hb (Nat.le_refl _)) hwW)
        rw [List.length_drop] at hms
        have hbr0 : brk cs p = if mend cs (p + 1 + msize (cs.drop (p + 1))) < 0 then none else some (negAt cs p, spL (memS cs (mend cs (p + 1 + msize (cs.drop (p + 1)))).toNat (p + 1)) 256, (mend cs (p + 1 + msize (cs.drop (p + 1)))).toNat + 1 - p) := by
          unfold brk
          rw [hFst, if_neg (by omega)]
        have hME : Hid (msize (cs.drop (p + 1)) = msize (cs.drop (p + 1))) := Lib.hid rfl
        have Hms := Lib.hid hms
        have Hbr0 := Lib.hid hbr0
        clear hms hbr0
        obtain ⟨M, hM⟩ : ∃ M, msize (cs.drop (p + 1)) = M := ⟨_, rfl⟩
        rw [hM] at hM1 hM2
        have HM := Lib.hid hM
        clear hM
        have Hms2 : Hid (Calls Tryd.prog 85 #[.slice (some ⟨b, off + (p + 1) * 2, none⟩) (cs.length - (p + 1)) (c - (p + 1))] w2 fun e w' => e = .returned (.int .i64 M) ∧ Below w2.heap.size w2 w') := Lib.hid (by have := Hms.out; rw [HM.out] at this; exact this)
        have Hbr1 : Hid (brk cs p = if mend cs (p + 1 + M) < 0 then none else some (negAt cs p, spL (memS cs (mend cs (p + 1 + M)).toNat (p + 1)) 256, (mend cs (p + 1 + M)).toNat + 1 - p)) := Lib.hid (by have := Hbr0.out; rw [HM.out] at this; exact this)
        clear Hms Hbr0 hME
        have j1 : ((p : Int) + 1) ≤ (c : Int) ∧ (0 : Int) ≤ ((p : Int) + 1) := by omega
        have j2 : ¬ (c = p + 1) := by omega
        have j3 : (((p : Int) + 1)).toNat = p + 1 := by omega
        have j4 : (0 : Int) ≤ ((p : Int) + 1) + (M : Int) ∧ ((p : Int) + 1) + (M : Int) < (cs.length : Int) + 1 := by omega
        have j5 : (((p : Int) + 1) + (M : Int)).toNat = p + 1 + M := by omega
        have j6 : ((p : Int) + 1) ≤ (cs.length : Int) := by omega
        go_wp2_with fail
        with_reducible refine Hms2.out.mono ?_
        rintro e w4 ⟨rfl, m4⟩
        clear Hms2
        have hge3 : ge < w2.heap.size := Nat.lt_of_lt_of_le hEn.1 hb.size
        have hEn4 := endsAt_below (endsAt_below hEn hb hEn.1) m4 hge3
        have hv := hEn4.2.2 (p + 1 + M) (by omega) (by omega)
        have hb4 := hb.trans (m4.mono hwW)
        have hZ4 := itemAt_below hZ m4 hZ.1
        have hI4 := itemAt_below hI m4 hI.1
        clear hZ hI hb m4 hEn4 hge3 hwW
        rcases mend_range cs (p + 1 + M) with hme | ⟨k, hme, hk1, hk2, hk3⟩
        · rw [hme] at hv
          have hbr : brk cs p = none := by
            rw [Hbr1.out, hme, if_pos (by omega)]
          clear Hbr1 hme hI4
          obtain ⟨_, zf, z0, z1, z2, z3⟩ := hZ4
          have zf0 := zf 0; have zf1 := zf 1; have zf2 := zf 2; have zf3 := zf 3
          clear zf
          go_wp2_with fail
          refine bodyPost_ret (v := .tuple #[.agg #[.int .i64 0, .string { data := #[] }, .bool false, .slice none 0 0], .int .i64 0]) (by simp [results, Tryd.results86, go_sem, z0, z1, z2, z3]) rfl ⟨.inl ⟨hbr, rfl⟩, ?_⟩
          exact (((hb4.setCell (p := ⟨w.heap.size, 0, none⟩) (Nat.le_refl _) _).setCell (p := ⟨w.heap.size, 1, none⟩) (Nat.le_refl _) _).setCell (p := ⟨w.heap.size, 2, none⟩) (Nat.le_refl _) _).setCell (p := ⟨w.heap.size, 3, none⟩) (Nat.le_refl _) _
        rw [hme] at hv
        have hbr : brk cs p = some (negAt cs p, spL (memS cs k (p + 1)) 256, k + 1 - p) := by
          rw [Hbr1.out, hme, if_neg (by omega), Int.toNat_natCast]
        rw [hneg] at hbr
        have Hbr := Lib.hid hbr
        have Hme := Lib.hid hme
        have tk : ((k : Int) == -1) = false := by rw [beq_eq_false_iff_ne]; omega
        clear hbr Hbr1 hme
        go_wp2_with fail
        have hset0 := setAt_zero w4
        have mset : Below w4.heap.size w4 (w4.alloc (.cells Tryd.zeroCells127 127)) := (Below.refl _ _).alloc (Nat.le_refl _) _
        have hZ5 := itemAt_below hZ4 mset hZ4.1
        have hI5 := itemAt_below hI4 mset hI4.1
        have hb5 := hb4.trans (mset.mono hb4.size)
        have hg2 : w.heap.size + 1 < w4.heap.size := hI4.1
        generalize hG : w4.heap.size = G at *
        generalize w4.alloc (.cells Tryd.zeroCells127 127) = w5 at *
        clear mset hZ4 hI4 hb4 hG hv
        have HZ5 := Lib.hid hZ5; have HI5 := Lib.hid hI5; have HS5 := Lib.hid hset0
        clear hZ5 hI5 hset0
        go_loopw [12] (fun iv wr => ∃ (i : Nat) (S1 : Nat → Bool), iv = .int .i64 i ∧ p + 1 ≤ i ∧ i ≤ k ∧ (i = p + 1 ∨ Hid (mend cs i = k)) ∧ Hid (SetAt wr G S1) ∧ Hid (∀ j, j < 256 → (S1 j || memS cs k i j) = memS cs k (p + 1) j) ∧ Below w.heap.size w wr ∧ Hid (ItemAt wr w.heap.size 0 (.string { data := #[] }) false (.slice none 0 0)) ∧ Hid (ItemAt wr (w.heap.size + 1) 4 (.string { data := #[] }) false (.slice none 0 0))) (fun iv _ => k - (intOf iv).toNat)
        case atStart => exact ⟨p + 1, _, by first | rfl | go_num, Nat.le_refl _, by omega, .inl rfl, HS5, Lib.hid (fun j _ => by simp), hb5, HZ5, HI5⟩
        case round =>
          obtain ⟨i, S1, rfl, hi1, hi2, hi3, hs, hx, hbr, hz, hit⟩ := hrel
          clear HS5 HZ5 HI5 hb5
          have hwr : G < wr.heap.size := hs.out.1
          by_cases hik : i < k
          · have d1 : decide ((i : Int) < (k : Int)) = true := decide_eq_true (by omega)
            have d1' : decide (i < k) = true := decide_eq_true hik
            have hn1 := msize_pos (cs.drop i)
            have hn2 := msize_le (cs.drop i) (by intro h; have := congrArg List.length h; rw [List.length_drop] at this; simp at this; omega)
            rw [List.length_drop] at hn2
            have hnext : mend cs (i + msize (cs.drop i)) = k := by
              rcases hi3 with rfl | h
              · rw [HM.out]; exact Hme.out
              · have h1 := mend_at cs i (by omega)
                rw [h.out] at h1
                by_cases h2 : isAt cs i 93 = true
                · rw [if_pos h2] at h1; omega
                · rw [if_neg h2] at h1; exact h1.symm
            have hik2 : i + msize (cs.drop i) ≤ k := by
              rcases mend_range cs (i + msize (cs.drop i)) with h | ⟨q, h, h2, _⟩
              · rw [hnext] at h; omega
              · rw [hnext] at h; omega
            have hx1 := hx.out
            have hwW : w.heap.size ≤ wr.heap.size := hbr.size
            have hAr := chAt_mono (chAt_below (chAt_dropS hA i) hbr (Nat.le_refl _)) hwW
            have hEr := env_mono (env_below hE hbr (Nat.le_refl _)) hwW
            have hms := memberSize_c _ (cs.drop i) (c - i) wr hAr (by rw [List.length_drop]; omega) hEr
            rw [List.length_drop] at hms
            have hmr : ∀ w1, Below wr.heap.size wr w1 → Calls Tryd.prog 113 #[.slice (some ⟨b, off + i * 2, none⟩) (msize (cs.drop i)) (c - i)] w1 fun e w' => e = .returned (.string ⟨(mranges ((cs.drop i).take (msize (cs.drop i)))).toArray⟩) ∧ Below w1.heap.size w1 w' := by
              intro w1 h1
              have := memberRanges_c _ ((cs.drop i).take (msize (cs.drop i))) (c - i) w1 (chAt_take (chAt_mono (chAt_below hAr h1 (Nat.le_refl _)) h1.size) _) (by rw [List.length_take, List.length_drop]; omega) (by rw [List.length_take, List.length_drop]; omega) (env_mono (env_below hEr h1 (Nat.le_refl _)) h1.size)
              rw [List.length_take, List.length_drop, Nat.min_eq_left hn2] at this
              exact this
            have hxs : ∀ j, j < 256 → ((S1 j || inR (mranges ((cs.drop i).take (msize (cs.drop i)))) j) || memS cs k (i + msize (cs.drop i)) j) = memS cs k (p + 1) j := by
              intro j hj
              rw [← hx1 j hj, memS_at cs k i j hik, Bool.or_assoc]
            have hev := mranges_even ((cs.drop i).take (msize (cs.drop i)))
            have hrl := mranges_len ((cs.drop i).take (msize (cs.drop i)))
            generalize mranges ((cs.drop i).take (msize (cs.drop i))) = RS at *
            generalize msize (cs.drop i) = N at *
            have Hms := Lib.hid hms; have Hmr := Lib.hid hmr; have Hxs := Lib.hid hxs; have Hnext := Lib.hid hnext; have Hev := Lib.hid hev
            clear hms hmr hxs hnext hx1 hx hAr hEr hi3 hev
            have k1 : (i : Int) ≤ (c : Int) ∧ (0 : Int) ≤ (i : Int) := by omega
            have k2 : ¬ (c = i) := by omega
            have k3 : (i : Int) ≤ (i : Int) + (N : Int) ∧ (i : Int) + (N : Int) ≤ (c : Int) := by omega
            have k4 : ((i : Int) + (N : Int)).toNat = i + N := by omega
            have k5 : i + N - i = N := by omega
            obtain ⟨k3a, k3b⟩ := k3
            go_wp2_with fail
            with_reducible refine Hms.out.mono ?_
            rintro e w6 ⟨rfl, m6⟩
            clear Hms
            go_wp2_with fail
            with_reducible refine (Hmr.out _ m6).mono ?_
            rintro e w7 ⟨rfl, m7⟩
            clear Hmr
            have m67 := m6.trans (m7.mono m6.size)
            have hs7 := setAt_below hs.out m67 hwr
            have hz7 := itemAt_below hz.out m67 (by omega)
            have hit7 := itemAt_below hit.out m67 (by omega)
            have hb7 := hbr.trans (m67.mono hwW)
            have hadd := Lib.hid (add_c G S1 RS w7 hs7 Hev.out (by omega))
            clear hs hz hit hbr m6 m7 m67 hs7
            go_wp2_with fail
            refine hadd.out.mono ?_
            rintro e w8 ⟨rfl, s8, n8⟩
            have hz8 := itemAt_kept hz7 (n8.kept _ (by omega) hz7.1) n8.bel.size
            have hit8 := itemAt_kept hit7 (n8.kept _ (by omega) hit7.1) n8.bel.size
            have hb8 := hb7.trans (n8.bel.mono (by omega))
            have Hs8 := Lib.hid s8; have Hz8 := Lib.hid hz8; have Hit8 := Lib.hid hit8
            clear hadd s8 hz8 hit8 hz7 hit7 hb7 n8
            go_wp2_with fail
            go_roundw
            case rel => exact ⟨i + N, _, by go_num, by omega, hik2, .inr Hnext, Hs8, Hxs, hb8, Hz8, Hit8⟩
            case measure => simp [intOf]; omega
          · have hik3 : i = k := by omega
            subst hik3
            have d1 : decide ((i : Int) < (i : Int)) = false := decide_eq_false (by omega)
            have d1' : decide (i < i) = false := decide_eq_false (by omega)
            have hsp := spans_c G S1 wr hs.out
            have heq : spL S1 256 = spL (memS cs i (p + 1)) 256 := spL_ext _ _ 256 (fun j hj => by
              have := hx.out j hj
              rw [memS_end cs i i j (Nat.le_refl _), Bool.or_false] at this
              exact this)
            rw [heq] at hsp
            have Hsp := Lib.hid hsp
            clear hsp heq hx hi3 Hme
            have hwW : w.heap.size ≤ wr.heap.size := hbr.size
            go_wp2_with fail
            refine Hsp.out.mono ?_
            rintro e w9 ⟨v9, rfl, o9, m9⟩
            obtain ⟨A9, n9, c9, rfl⟩ := ownSp_form o9
            have hz9 := itemAt_below hz.out m9 hz.out.1
            have hit9 := itemAt_below hit.out m9 hit.out.1
            have hb9 := hbr.trans (m9.mono hwW)
            obtain ⟨_, zf, z0, z1, z2, z3⟩ := hz9
            have zf0 := zf 0; have zf1 := zf 1; have zf2 := zf 2; have zf3 := zf 3
            obtain ⟨_, yf, y0, y1, y2, y3⟩ := hit9
            have yf3 := yf 3
            clear zf yf hz hit Hsp hs
            have hne : w.heap.size ≠ w.heap.size + 1 := by omega
            have o9k : ∀ (u0 u1 u2 u3 u4 : Value), OwnSp (((((w9.setCell ⟨w.heap.size + 1, 3, none⟩ u0).setCell ⟨w.heap.size, 0, none⟩ u1).setCell ⟨w.heap.size, 1, none⟩ u2).setCell ⟨w.heap.size, 2, none⟩ u3).setCell ⟨w.heap.size, 3, none⟩ u4) w.heap.size (.slice A9 n9 c9) (spL (memS cs i (p + 1)) 256) := by
              intro u0 u1 u2 u3 u4
              have hGs : w.heap.size + 1 < wr.heap.size := by omega
              exact ownSp_mono (ownSp_set (ownSp_set (ownSp_set (ownSp_set (ownSp_set o9 hGs u0) (by omega) u1) (by omega) u2) (by omega) u3) (by omega) u4) hwW
            have j7 : ((i : Int) + 1 - (p : Int)) = ((i + 1 - p : Nat) : Int) := by omega
            have Hj7 := Lib.hid j7
            clear j7
            go_wp2_with fail
            refine bodyPost_ret (v := .tuple #[.agg #[.int .i64 4, .string { data := #[] }, .bool false, .slice A9 n9 c9], .int .i64 ((i : Int) + 1 - (p : Int))]) (by simp [results, Tryd.results86, go_sem, z0, z1, z2, z3]) rfl ⟨.inr ⟨_, _, _, _, Hbr.out, by rw [Hj7.out], o9k _ _ _ _ _⟩, ?_⟩
            exact ((((hb9.setCell (p := ⟨w.heap.size + 1, 3, none⟩) (Nat.le_succ _) _).setCell (p := ⟨w.heap.size, 0, none⟩) (Nat.le_refl _) _).setCell (p := ⟨w.heap.size, 1, none⟩) (Nat.le_refl _) _).setCell (p := ⟨w.heap.size, 2, none⟩) (Nat.le_refl _) _).setCell (p := ⟨w.heap.size, 3, none⟩) (Nat.le_refl _) _
      · skip
        have hneg : negAt cs p = true := by unfold negAt; rw [hQ1, hQ2]; first | rfl | simp
        have hFst : firstAt cs p = p + 2 := by unfold firstAt; rw [hneg]; rfl
        have hI := itemAt_neg hI3 true
        obtain ⟨_, yf, y0, y1, y2, y3⟩ := hI3
        have yf2 := yf 2
        clear yf
        have hZn := itemAt_other (D2 := w.heap.size + 1) (i := 2) (x := .bool true) hZ (by omega)
        have hbn := hb.setCell (p := ⟨w.heap.size + 1, 2, none⟩) (Nat.le_succ _) (.bool true)
        clear y0 y1 y3 hZ hb hQ1 hQ2
        have hZ := hZn
        have hb := hbn
        clear hZn hbn

        clear hcell

        by_cases hfn : p + 2 = cs.length
        · have hbr : brk cs p = none := by
            unfold brk
            rw [if_pos (by rw [hFst]; omega)]
          have t9 : (((p : Int) + 1 + 1) == (cs.length : Int)) = true := by rw [beq_iff_eq]; omega
          have t9' : ((p + 2 : Nat) == cs.length) = true := by rw [beq_iff_eq]; omega
          obtain ⟨_, zf, z0, z1, z2, z3⟩ := hZ
          have zf0 := zf 0; have zf1 := zf 1; have zf2 := zf 2; have zf3 := zf 3
          clear zf
          go_wp2_with fail
          refine bodyPost_ret (v := .tuple #[.agg #[.int .i64 0, .string { data := #[] }, .bool false, .slice none 0 0], .int .i64 0]) (by simp [results, Tryd.results86, go_sem, z0, z1, z2, z3]) rfl ⟨.inl ⟨hbr, rfl⟩, ?_⟩
          exact (((hb.setCell (p := ⟨w.heap.size, 0, none⟩) (Nat.le_refl _) _).setCell (p := ⟨w.heap.size, 1, none⟩) (Nat.le_refl _) _).setCell (p := ⟨w.heap.size, 2, none⟩) (Nat.le_refl _) _).setCell (p := ⟨w.heap.size, 3, none⟩) (Nat.le_refl _) _
        have hfl : p + 2 < cs.length := by omega
        have t9 : (((p : Int) + 1 + 1) == (cs.length : Int)) = false := by rw [beq_eq_false_iff_ne]; omega
        have hM1 := msize_pos (cs.drop (p + 2))
        have hM2 := msize_le (cs.drop (p + 2)) (by intro h; have := congrArg List.length h; rw [List.length_drop] at this; simp at this; omega)
        rw [List.length_drop] at hM2
        have hwW : w.heap.size ≤ (w2.setCell ⟨w.heap.size + 1, 2, none⟩ (.bool true)).heap.size := hb.size
        have hms := memberSize_c _ (cs.drop (p + 2)) (c - (p + 2)) (w2.setCell ⟨w.heap.size + 1, 2, none⟩ (.bool true)) (chAt_mono (chAt_below (chAt_dropS hA (p + 2)) hb (Nat.le_refl _)) hwW) (by rw [List.length_drop]; omega) (env_mono (env_below hE hb (Nat.le_refl _)) hwW)
        rw [List.length_drop] at hms
        have hbr0 : brk cs p = if mend cs (p + 2 + msize (cs.drop (p + 2))) < 0 then none else some (negAt cs p, spL (memS cs (mend cs (p + 2 + msize (cs.drop (p + 2)))).toNat (p + 2)) 256, (mend cs (p + 2 + msize (cs.drop (p + 2)))).toNat + 1 - p) := by
          unfold brk
          rw [hFst, if_neg (by omega)]
        have hME : Hid (msize (cs.drop (p + 2)) = msize (cs.drop (p + 2))) := Lib.hid rfl
        have Hms := Lib.hid hms
        have Hbr0 := Lib.hid hbr0
        clear hms hbr0
        obtain ⟨M, hM⟩ : ∃ M, msize (cs.drop (p + 2)) = M := ⟨_, rfl⟩
        rw [hM] at hM1 hM2
        have HM := Lib.hid hM
        clear hM
        have Hms2 : Hid (Calls Tryd.prog 85 #[.slice (some ⟨b, off + (p + 2) * 2, none⟩) (cs.length - (p + 2)) (c - (p + 2))] (w2.setCell ⟨w.heap.size + 1, 2, none⟩ (.bool true)) fun e w' => e = .returned (.int .i64 M) ∧ Below (w2.setCell ⟨w.heap.size + 1, 2, none⟩ (.bool true)).heap.size (w2.setCell ⟨w.heap.size + 1, 2, none⟩ (.bool true)) w') := Lib.hid (by have := Hms.out; rw [HM.out] at this; exact this)
        have Hbr1 : Hid (brk cs p = if mend cs (p + 2 + M) < 0 then none else some (negAt cs p, spL (memS cs (mend cs (p + 2 + M)).toNat (p + 2)) 256, (mend cs (p + 2 + M)).toNat + 1 - p)) := Lib.hid (by have := Hbr0.out; rw [HM.out] at this; exact this)
        clear Hms Hbr0 hME
        have j1 : ((p : Int) + 1 + 1) ≤ (c : Int) ∧ (0 : Int) ≤ ((p : Int) + 1 + 1) := by omega
        have j2 : ¬ (c = p + 2) := by omega
        have j3 : (((p : Int) + 1 + 1)).toNat = p + 2 := by omega
        have j4 : (0 : Int) ≤ ((p : Int) + 1 + 1) + (M : Int) ∧ ((p : Int) + 1 + 1) + (M : Int) < (cs.length : Int) + 1 := by omega
        have j5 : (((p : Int) + 1 + 1) + (M : Int)).toNat = p + 2 + M := by omega
        have j6 : ((p : Int) + 1 + 1) ≤ (cs.length : Int) := by omega
        go_wp2_with fail
        with_reducible refine Hms2.out.mono ?_
        rintro e w4 ⟨rfl, m4⟩
        clear Hms2
        have hge3 : ge < (w2.setCell ⟨w.heap.size + 1, 2, none⟩ (.bool true)).heap.size := Nat.lt_of_lt_of_le hEn.1 hb.size
        have hEn4 := endsAt_below (endsAt_below hEn hb hEn.1) m4 hge3
        have hv := hEn4.2.2 (p + 2 + M) (by omega) (by omega)
        have hb4 := hb.trans (m4.mono hwW)
        have hZ4 := itemAt_below hZ m4 hZ.1
        have hI4 := itemAt_below hI m4 hI.1
        clear hZ hI hb m4 hEn4 hge3 hwW
        rcases mend_range cs (p + 2 + M) with hme | ⟨k, hme, hk1, hk2, hk3⟩
        · rw [hme] at hv
          have hbr : brk cs p = none := by
            rw [Hbr1.out, hme, if_pos (by omega)]
          clear Hbr1 hme hI4
          obtain ⟨_, zf, z0, z1, z2, z3⟩ := hZ4
          have zf0 := zf 0; have zf1 := zf 1; have zf2 := zf 2; have zf3 := zf 3
          clear zf
          go_wp2_with fail
          refine bodyPost_ret (v := .tuple #[.agg #[.int .i64 0, .string { data := #[] }, .bool false, .slice none 0 0], .int .i64 0]) (by simp [results, Tryd.results86, go_sem, z0, z1, z2, z3]) rfl ⟨.inl ⟨hbr, rfl⟩, ?_⟩
          exact (((hb4.setCell (p := ⟨w.heap.size, 0, none⟩) (Nat.le_refl _) _).setCell (p := ⟨w.heap.size, 1, none⟩) (Nat.le_refl _) _).setCell (p := ⟨w.heap.size, 2, none⟩) (Nat.le_refl _) _).setCell (p := ⟨w.heap.size, 3, none⟩) (Nat.le_refl _) _
        rw [hme] at hv
        have hbr : brk cs p = some (negAt cs p, spL (memS cs k (p + 2)) 256, k + 1 - p) := by
          rw [Hbr1.out, hme, if_neg (by omega), Int.toNat_natCast]
        rw [hneg] at hbr
        have Hbr := Lib.hid hbr
        have Hme := Lib.hid hme
        have tk : ((k : Int) == -1) = false := by rw [beq_eq_false_iff_ne]; omega
        clear hbr Hbr1 hme
        go_wp2_with fail
        have hset0 := setAt_zero w4
        have mset : Below w4.heap.size w4 (w4.alloc (.cells Tryd.zeroCells127 127)) := (Below.refl _ _).alloc (Nat.le_refl _) _
        have hZ5 := itemAt_below hZ4 mset hZ4.1
        have hI5 := itemAt_below hI4 mset hI4.1
        have hb5 := hb4.trans (mset.mono hb4.size)
        have hg2 : w.heap.size + 1 < w4.heap.size := hI4.1
        generalize hG : w4.heap.size = G at *
        generalize w4.alloc (.cells Tryd.zeroCells127 127) = w5 at *
        clear mset hZ4 hI4 hb4 hG hv
        have HZ5 := Lib.hid hZ5; have HI5 := Lib.hid hI5; have HS5 := Lib.hid hset0
        clear hZ5 hI5 hset0
        go_loopw [12] (fun iv wr => ∃ (i : Nat) (S1 : Nat → Bool), iv = .int .i64 i ∧ p + 2 ≤ i ∧ i ≤ k ∧ (i = p + 2 ∨ Hid (mend cs i = k)) ∧ Hid (SetAt wr G S1) ∧ Hid (∀ j, j < 256 → (S1 j || memS cs k i j) = memS cs k (p + 2) j) ∧ Below w.heap.size w wr ∧ Hid (ItemAt wr w.heap.size 0 (.string { data := #[] }) false (.slice none 0 0)) ∧ Hid (ItemAt wr (w.heap.size + 1) 4 (.string { data := #[] }) true (.slice none 0 0))) (fun iv _ => k - (intOf iv).toNat)
        case atStart => exact ⟨p + 2, _, by first | rfl | go_num, Nat.le_refl _, by omega, .inl rfl, HS5, Lib.hid (fun j _ => by simp), hb5, HZ5, HI5⟩
        case round =>
          obtain ⟨i, S1, rfl, hi1, hi2, hi3, hs, hx, hbr, hz, hit⟩ := hrel
          clear HS5 HZ5 HI5 hb5
          have hwr : G < wr.heap.size := hs.out.1
          by_cases hik : i < k
          · have d1 : decide ((i : Int) < (k : Int)) = true := decide_eq_true (by omega)
            have d1' : decide (i < k) = true := decide_eq_true hik
            have hn1 := msize_pos (cs.drop i)
            have hn2 := msize_le (cs.drop i) (by intro h; have := congrArg List.length h; rw [List.length_drop] at this; simp at this; omega)
            rw [List.length_drop] at hn2
            have hnext : mend cs (i + msize (cs.drop i)) = k := by
              rcases hi3 with rfl | h
              · rw [HM.out]; exact Hme.out
              · have h1 := mend_at cs i (by omega)
                rw [h.out] at h1
                by_cases h2 : isAt cs i 93 = true
                · rw [if_pos h2] at h1; omega
                · rw [if_neg h2] at h1; exact h1.symm
            have hik2 : i + msize (cs.drop i) ≤ k := by
              rcases mend_range cs (i + msize (cs.drop i)) with h | ⟨q, h, h2, _⟩
              · rw [hnext] at h; omega
              · rw [hnext] at h; omega
            have hx1 := hx.out
            have hwW : w.heap.size ≤ wr.heap.size := hbr.size
            have hAr := chAt_mono (chAt_below (chAt_dropS hA i) hbr (Nat.le_refl _)) hwW
            have hEr := env_mono (env_below hE hbr (Nat.le_refl _)) hwW
            have hms := memberSize_c _ (cs.drop i) (c - i) wr hAr (by rw [List.length_drop]; omega) hEr
            rw [List.length_drop] at hms
            have hmr : ∀ w1, Below wr.heap.size wr w1 → Calls Tryd.prog 113 #[.slice (some ⟨b, off + i * 2, none⟩) (msize (cs.drop i)) (c - i)] w1 fun e w' => e = .returned (.string ⟨(mranges ((cs.drop i).take (msize (cs.drop i)))).toArray⟩) ∧ Below w1.heap.size w1 w' := by
              intro w1 h1
              have := memberRanges_c _ ((cs.drop i).take (msize (cs.drop i))) (c - i) w1 (chAt_take (chAt_mono (chAt_below hAr h1 (Nat.le_refl _)) h1.size) _) (by rw [List.length_take, List.length_drop]; omega) (by rw [List.length_take, List.length_drop]; omega) (env_mono (env_below hEr h1 (Nat.le_refl _)) h1.size)
              rw [List.length_take, List.length_drop, Nat.min_eq_left hn2] at this
              exact this
            have hxs : ∀ j, j < 256 → ((S1 j || inR (mranges ((cs.drop i).take (msize (cs.drop i)))) j) || memS cs k (i + msize (cs.drop i)) j) = memS cs k (p + 2) j := by
              intro j hj
              rw [← hx1 j hj, memS_at cs k i j hik, Bool.or_assoc]
            have hev := mranges_even ((cs.drop i).take (msize (cs.drop i)))
            have hrl := mranges_len ((cs.drop i).take (msize (cs.drop i)))
            generalize mranges ((cs.drop i).take (msize (cs.drop i))) = RS at *
            generalize msize (cs.drop i) = N at *
            have Hms := Lib.hid hms; have Hmr := Lib.hid hmr; have Hxs := Lib.hid hxs; have Hnext := Lib.hid hnext; have Hev := Lib.hid hev
            clear hms hmr hxs hnext hx1 hx hAr hEr hi3 hev
            have k1 : (i : Int) ≤ (c : Int) ∧ (0 : Int) ≤ (i : Int) := by omega
            have k2 : ¬ (c = i) := by omega
            have k3 : (i : Int) ≤ (i : Int) + (N : Int) ∧ (i : Int) + (N : Int) ≤ (c : Int) := by omega
            have k4 : ((i : Int) + (N : Int)).toNat = i + N := by omega
            have k5 : i + N - i = N := by omega
            obtain ⟨k3a, k3b⟩ := k3
            go_wp2_with fail
            with_reducible refine Hms.out.mono ?_
            rintro e w6 ⟨rfl, m6⟩
            clear Hms
            go_wp2_with fail
            with_reducible refine (Hmr.out _ m6).mono ?_
            rintro e w7 ⟨rfl, m7⟩
            clear Hmr
            have m67 := m6.trans (m7.mono m6.size)
            have hs7 := setAt_below hs.out m67 hwr
            have hz7 := itemAt_below hz.out m67 (by omega)
            have hit7 := itemAt_below hit.out m67 (by omega)
            have hb7 := hbr.trans (m67.mono hwW)
            have hadd := Lib.hid (add_c G S1 RS w7 hs7 Hev.out (by omega))
            clear hs hz hit hbr m6 m7 m67 hs7
            go_wp2_with fail
            refine hadd.out.mono ?_
            rintro e w8 ⟨rfl, s8, n8⟩
            have hz8 := itemAt_kept hz7 (n8.kept _ (by omega) hz7.1) n8.bel.size
            have hit8 := itemAt_kept hit7 (n8.kept _ (by omega) hit7.1) n8.bel.size
            have hb8 := hb7.trans (n8.bel.mono (by omega))
            have Hs8 := Lib.hid s8; have Hz8 := Lib.hid hz8; have Hit8 := Lib.hid hit8
            clear hadd s8 hz8 hit8 hz7 hit7 hb7 n8
            go_wp2_with fail
            go_roundw
            case rel => exact ⟨i + N, _, by go_num, by omega, hik2, .inr Hnext, Hs8, Hxs, hb8, Hz8, Hit8⟩
            case measure => simp [intOf]; omega
          · have hik3 : i = k := by omega
            subst hik3
            have d1 : decide ((i : Int) < (i : Int)) = false := decide_eq_false (by omega)
            have d1' : decide (i < i) = false := decide_eq_false (by omega)
            have hsp := spans_c G S1 wr hs.out
            have heq : spL S1 256 = spL (memS cs i (p + 2)) 256 := spL_ext _ _ 256 (fun j hj => by
              have := hx.out j hj
              rw [memS_end cs i i j (Nat.le_refl _), Bool.or_false] at this
              exact this)
            rw [heq] at hsp
            have Hsp := Lib.hid hsp
            clear hsp heq hx hi3 Hme
            have hwW : w.heap.size ≤ wr.heap.size := hbr.size
            go_wp2_with fail
            refine Hsp.out.mono ?_
            rintro e w9 ⟨v9, rfl, o9, m9⟩
            obtain ⟨A9, n9, c9, rfl⟩ := ownSp_form o9
            have hz9 := itemAt_below hz.out m9 hz.out.1
            have hit9 := itemAt_below hit.out m9 hit.out.1
            have hb9 := hbr.trans (m9.mono hwW)
            obtain ⟨_, zf, z0, z1, z2, z3⟩ := hz9
            have zf0 := zf 0; have zf1 := zf 1; have zf2 := zf 2; have zf3 := zf 3
            obtain ⟨_, yf, y0, y1, y2, y3⟩ := hit9
            have yf3 := yf 3
            clear zf yf hz hit Hsp hs
            have hne : w.heap.size ≠ w.heap.size + 1 := by omega
            have o9k : ∀ (u0 u1 u2 u3 u4 : Value), OwnSp (((((w9.setCell ⟨w.heap.size + 1, 3, none⟩ u0).setCell ⟨w.heap.size, 0, none⟩ u1).setCell ⟨w.heap.size, 1, none⟩ u2).setCell ⟨w.heap.size, 2, none⟩ u3).setCell ⟨w.heap.size, 3, none⟩ u4) w.heap.size (.slice A9 n9 c9) (spL (memS cs i (p + 2)) 256) := by
              intro u0 u1 u2 u3 u4
              have hGs : w.heap.size + 1 < wr.heap.size := by omega
              exact ownSp_mono (ownSp_set (ownSp_set (ownSp_set (ownSp_set (ownSp_set o9 hGs u0) (by omega) u1) (by omega) u2) (by omega) u3) (by omega) u4) hwW
            have j7 : ((i : Int) + 1 - (p : Int)) = ((i + 1 - p : Nat) : Int) := by omega
            have Hj7 := Lib.hid j7
            clear j7
            go_wp2_with fail
            refine bodyPost_ret (v := .tuple #[.agg #[.int .i64 4, .string { data := #[] }, .bool true, .slice A9 n9 c9], .int .i64 ((i : Int) + 1 - (p : Int))]) (by simp [results, Tryd.results86, go_sem, z0, z1, z2, z3]) rfl ⟨.inr ⟨_, _, _, _, Hbr.out, by rw [Hj7.out], o9k _ _ _ _ _⟩, ?_⟩
            exact ((((hb9.setCell (p := ⟨w.heap.size + 1, 3, none⟩) (Nat.le_succ _) _).setCell (p := ⟨w.heap.size, 0, none⟩) (Nat.le_refl _) _).setCell (p := ⟨w.heap.size, 1, none⟩) (Nat.le_refl _) _).setCell (p := ⟨w.heap.size, 2, none⟩) (Nat.le_refl _) _).setCell (p := ⟨w.heap.size, 3, none⟩) (Nat.le_refl _) _
    · skip
      have hneg : negAt cs p = true := by unfold negAt; rw [hQ1]; first | rfl | simp
      have hFst : firstAt cs p = p + 2 := by unfold firstAt; rw [hneg]; rfl
      have hI := itemAt_neg hI2 true
      obtain ⟨_, yf, y0, y1, y2, y3⟩ := hI2
      have yf2 := yf 2
      clear yf
      have hZ := itemAt_other (D2 := w.heap.size + 1) (i := 2) (x := .bool true) hZ2 (by omega)
      have hb := m1.setCell (p := ⟨w.heap.size + 1, 2, none⟩) (Nat.le_succ _) (.bool true)
      clear y0 y1 y3 hZ2 m1 hQ1 i2

      clear hcell

      by_cases hfn : p + 2 = cs.length
      · have hbr : brk cs p = none := by
          unfold brk
          rw [if_pos (by rw [hFst]; omega)]
        have t9 : (((p : Int) + 1 + 1) == (cs.length : Int)) = true := by rw [beq_iff_eq]; omega
        have t9' : ((p + 2 : Nat) == cs.length) = true := by rw [beq_iff_eq]; omega
        obtain ⟨_, zf, z0, z1, z2, z3⟩ := hZ
        have zf0 := zf 0; have zf1 := zf 1; have zf2 := zf 2; have zf3 := zf 3
        clear zf
        go_wp2_with fail
        refine bodyPost_ret (v := .tuple #[.agg #[.int .i64 0, .string { data := #[] }, .bool false, .slice none 0 0], .int .i64 0]) (by simp [results, Tryd.results86, go_sem, z0, z1, z2, z3]) rfl ⟨.inl ⟨hbr, rfl⟩, ?_⟩
        exact (((hb.setCell (p := ⟨w.heap.size, 0, none⟩) (Nat.le_refl _) _).setCell (p := ⟨w.heap.size, 1, none⟩) (Nat.le_refl _) _).setCell (p := ⟨w.heap.size, 2, none⟩) (Nat.le_refl _) _).setCell (p := ⟨w.heap.size, 3, none⟩) (Nat.le_refl _) _
      have hfl : p + 2 < cs.length := by omega
      have t9 : (((p : Int) + 1 + 1) == (cs.length : Int)) = false := by rw [beq_eq_false_iff_ne]; omega
      have hM1 := msize_pos (cs.drop (p + 2))
      have hM2 := msize_le (cs.drop (p + 2)) (by intro h; have := congrArg List.length h; rw [List.length_drop] at this; simp at this; omega)
      rw [List.length_drop] at hM2
      have hwW : w.heap.size ≤ (w1.setCell ⟨w.heap.size + 1, 2, none⟩ (.bool true)).heap.size := hb.size
      have hms := memberSize_c _ (cs.drop (p + 2)) (c - (p + 2)) (w1.setCell ⟨w.heap.size + 1, 2, none⟩ (.bool true)) (chAt_mono (chAt_below (chAt_dropS hA (p + 2)) hb (Nat.le_refl _)) hwW) (by rw [List.length_drop]; omega) (env_mono (env_below hE hb (Nat.le_refl _)) hwW)
      rw [List.length_drop] at hms
      have hbr0 : brk cs p = if mend cs (p + 2 + msize (cs.drop (p + 2))) < 0 then none else some (negAt cs p, spL (memS cs (mend cs (p + 2 + msize (cs.drop (p + 2)))).toNat (p + 2)) 256, (mend cs (p + 2 + msize (cs.drop (p + 2)))).toNat + 1 - p) := by
        unfold brk
        rw [hFst, if_neg (by omega)]
      have hME : Hid (msize (cs.drop (p + 2)) = msize (cs.drop (p + 2))) := Lib.hid rfl
      have Hms := Lib.hid hms
      have Hbr0 := Lib.hid hbr0
      clear hms hbr0
      obtain ⟨M, hM⟩ : ∃ M, msize (cs.drop (p + 2)) = M := ⟨_, rfl⟩
      rw [hM] at hM1 hM2
      have HM := Lib.hid hM
      clear hM
      have Hms2 : Hid (Calls Tryd.prog 85 #[.slice (some ⟨b, off + (p + 2) * 2, none⟩) (cs.length - (p + 2)) (c - (p + 2))] (w1.setCell ⟨w.heap.size + 1, 2, none⟩ (.bool true)) fun e w' => e = .returned (.int .i64 M) ∧ Below (w1.setCell ⟨w.heap.size + 1, 2, none⟩ (.bool true)).heap.size (w1.setCell ⟨w.heap.size + 1, 2, none⟩ (.bool true)) w') := Lib.hid (by have := Hms.out; rw [HM.out] at this; exact this)
      have Hbr1 : Hid (brk cs p = if mend cs (p + 2 + M) < 0 then none else some (negAt cs p, spL (memS cs (mend cs (p + 2 + M)).toNat (p + 2)) 256, (mend cs (p + 2 + M)).toNat + 1 - p)) := Lib.hid (by have := Hbr0.out; rw [HM.out] at this; exact this)
      clear Hms Hbr0 hME
      have j1 : ((p : Int) + 1 + 1) ≤ (c : Int) ∧ (0 : Int) ≤ ((p : Int) + 1 + 1) := by omega
      have j2 : ¬ (c = p + 2) := by omega
      have j3 : (((p : Int) + 1 + 1)).toNat = p + 2 := by omega
      have j4 : (0 : Int) ≤ ((p : Int) + 1 + 1) + (M : Int) ∧ ((p : Int) + 1 + 1) + (M : Int) < (cs.length : Int) + 1 := by omega
      have j5 : (((p : Int) + 1 + 1) + (M : Int)).toNat = p + 2 + M := by omega
      have j6 : ((p : Int) + 1 + 1) ≤ (cs.length : Int) := by omega
      go_wp2_with fail
      with_reducible refine Hms2.out.mono ?_
      rintro e w4 ⟨rfl, m4⟩
      clear Hms2
      have hge3 : ge < (w1.setCell ⟨w.heap.size + 1, 2, none⟩ (.bool true)).heap.size := Nat.lt_of_lt_of_le hEn.1 hb.size
      have hEn4 := endsAt_below (endsAt_below hEn hb hEn.1) m4 hge3
      have hv := hEn4.2.2 (p + 2 + M) (by omega) (by omega)
      have hb4 := hb.trans (m4.mono hwW)
      have hZ4 := itemAt_below hZ m4 hZ.1
      have hI4 := itemAt_below hI m4 hI.1
      clear hZ hI hb m4 hEn4 hge3 hwW
      rcases mend_range cs (p + 2 + M) with hme | ⟨k, hme, hk1, hk2, hk3⟩
      · rw [hme] at hv
        have hbr : brk cs p = none := by
          rw [Hbr1.out, hme, if_pos (by omega)]
        clear Hbr1 hme hI4
        obtain ⟨_, zf, z0, z1, z2, z3⟩ := hZ4
        have zf0 := zf 0; have zf1 := zf 1; have zf2 := zf 2; have zf3 := zf 3
        clear zf
        go_wp2_with fail
        refine bodyPost_ret (v := .tuple #[.agg #[.int .i64 0, .string { data := #[] }, .bool false, .slice none 0 0], .int .i64 0]) (by simp [results, Tryd.results86, go_sem, z0, z1, z2, z3]) rfl ⟨.inl ⟨hbr, rfl⟩, ?_⟩
        exact (((hb4.setCell (p := ⟨w.heap.size, 0, none⟩) (Nat.le_refl _) _).setCell (p := ⟨w.heap.size, 1, none⟩) (Nat.le_refl _) _).setCell (p := ⟨w.heap.size, 2, none⟩) (Nat.le_refl _) _).setCell (p := ⟨w.heap.size, 3, none⟩) (Nat.le_refl _) _
      rw [hme] at hv
      have hbr : brk cs p = some (negAt cs p, spL (memS cs k (p + 2)) 256, k + 1 - p) := by
        rw [Hbr1.out, hme, if_neg (by omega), Int.toNat_natCast]
      rw [hneg] at hbr
      have Hbr := Lib.hid hbr
      have Hme := Lib.hid hme
      have tk : ((k : Int) == -1) = false := by rw [beq_eq_false_iff_ne]; omega
      clear hbr Hbr1 hme
      go_wp2_with fail
      have hset0 := setAt_zero w4
      have mset : Below w4.heap.size w4 (w4.alloc (.cells Tryd.zeroCells127 127)) := (Below.refl _ _).alloc (Nat.le_refl _) _
      have hZ5 := itemAt_below hZ4 mset hZ4.1
      have hI5 := itemAt_below hI4 mset hI4.1
      have hb5 := hb4.trans (mset.mono hb4.size)
      have hg2 : w.heap.size + 1 < w4.heap.size := hI4.1
      generalize hG : w4.heap.size = G at *
      generalize w4.alloc (.cells Tryd.zeroCells127 127) = w5 at *
      clear mset hZ4 hI4 hb4 hG hv
      have HZ5 := Lib.hid hZ5; have HI5 := Lib.hid hI5; have HS5 := Lib.hid hset0
      clear hZ5 hI5 hset0
      go_loopw [12] (fun iv wr => ∃ (i : Nat) (S1 : Nat → Bool), iv = .int .i64 i ∧ p + 2 ≤ i ∧ i ≤ k ∧ (i = p + 2 ∨ Hid (mend cs i = k)) ∧ Hid (SetAt wr G S1) ∧ Hid (∀ j, j < 256 → (S1 j || memS cs k i j) = memS cs k (p + 2) j) ∧ Below w.heap.size w wr ∧ Hid (ItemAt wr w.heap.size 0 (.string { data := #[] }) false (.slice none 0 0)) ∧ Hid (ItemAt wr (w.heap.size + 1) 4 (.string { data := #[] }) true (.slice none 0 0))) (fun iv _ => k - (intOf iv).toNat)
      case atStart => exact ⟨p + 2, _, by first | rfl | go_num, Nat.le_refl _, by omega, .inl rfl, HS5, Lib.hid (fun j _ => by simp), hb5, HZ5, HI5⟩
      case round =>
        obtain ⟨i, S1, rfl, hi1, hi2, hi3, hs, hx, hbr, hz, hit⟩ := hrel
        clear HS5 HZ5 HI5 hb5
        have hwr : G < wr.heap.size := hs.out.1
        by_cases hik : i < k
        · have d1 : decide ((i : Int) < (k : Int)) = true := decide_eq_true (by omega)
          have d1' : decide (i < k) = true := decide_eq_true hik
          have hn1 := msize_pos (cs.drop i)
          have hn2 := msize_le (cs.drop i) (by intro h; have := congrArg List.length h; rw [List.length_drop] at this; simp at this; omega)
          rw [List.length_drop] at hn2
          have hnext : mend cs (i + msize (cs.drop i)) = k := by
            rcases hi3 with rfl | h
            · rw [HM.out]; exact Hme.out
            · have h1 := mend_at cs i (by omega)
              rw [h.out] at h1
              by_cases h2 : isAt cs i 93 = true
              · rw [if_pos h2] at h1; omega
              · rw [if_neg h2] at h1; exact h1.symm
          have hik2 : i + msize (cs.drop i) ≤ k := by
            rcases mend_range cs (i + msize (cs.drop i)) with h | ⟨q, h, h2, _⟩
            · rw [hnext] at h; omega
            · rw [hnext] at h; omega
          have hx1 := hx.out
          have hwW : w.heap.size ≤ wr.heap.size := hbr.size
          have hAr := chAt_mono (chAt_below (chAt_dropS hA i) hbr (Nat.le_refl _)) hwW
          have hEr := env_mono (env_below hE hbr (Nat.le_refl _)) hwW
          have hms := memberSize_c _ (cs.drop i) (c - i) wr hAr (by rw [List.length_drop]; omega) hEr
          rw [List.length_drop] at hms
          have hmr : ∀ w1, Below wr.heap.size wr w1 → Calls Tryd.prog 113 #[.slice (some ⟨b, off + i * 2, none⟩) (msize (cs.drop i)) (c - i)] w1 fun e w' => e = .returned (.string ⟨(mranges ((cs.drop i).take (msize (cs.drop i)))).toArray⟩) ∧ Below w1.heap.size w1 w' := by
            intro w1 h1
            have := memberRanges_c _ ((cs.drop i).take (msize (cs.drop i))) (c - i) w1 (chAt_take (chAt_mono (chAt_below hAr h1 (Nat.le_refl _)) h1.size) _) (by rw [List.length_take, List.length_drop]; omega) (by rw [List.length_take, List.length_drop]; omega) (env_mono (env_below hEr h1 (Nat.le_refl _)) h1.size)
            rw [List.length_take, List.length_drop, Nat.min_eq_left hn2] at this
            exact this
          have hxs : ∀ j, j < 256 → ((S1 j || inR (mranges ((cs.drop i).take (msize (cs.drop i)))) j) || memS cs k (i + msize (cs.drop i)) j) = memS cs k (p + 2) j := by
            intro j hj
            rw [← hx1 j hj, memS_at cs k i j hik, Bool.or_assoc]
          have hev := mranges_even ((cs.drop i).take (msize (cs.drop i)))
          have hrl := mranges_len ((cs.drop i).take (msize (cs.drop i)))
          generalize mranges ((cs.drop i).take (msize (cs.drop i))) = RS at *
          generalize msize (cs.drop i) = N at *
          have Hms := Lib.hid hms; have Hmr := Lib.hid hmr; have Hxs := Lib.hid hxs; have Hnext := Lib.hid hnext; have Hev := Lib.hid hev
          clear hms hmr hxs hnext hx1 hx hAr hEr hi3 hev
          have k1 : (i : Int) ≤ (c : Int) ∧ (0 : Int) ≤ (i : Int) := by omega
          have k2 : ¬ (c = i) := by omega
          have k3 : (i : Int) ≤ (i : Int) + (N : Int) ∧ (i : Int) + (N : Int) ≤ (c : Int) := by omega
          have k4 : ((i : Int) + (N : Int)).toNat = i + N := by omega
          have k5 : i + N - i = N := by omega
          obtain ⟨k3a, k3b⟩ := k3
          go_wp2_with fail
          with_reducible refine Hms.out.mono ?_
          rintro e w6 ⟨rfl, m6⟩
          clear Hms
          go_wp2_with fail
          with_reducible refine (Hmr.out _ m6).mono ?_
          rintro e w7 ⟨rfl, m7⟩
          clear Hmr
          have m67 := m6.trans (m7.mono m6.size)
          have hs7 := setAt_below hs.out m67 hwr
          have hz7 := itemAt_below hz.out m67 (by omega)
          have hit7 := itemAt_below hit.out m67 (by omega)
          have hb7 := hbr.trans (m67.mono hwW)
          have hadd := Lib.hid (add_c G S1 RS w7 hs7 Hev.out (by omega))
          clear hs hz hit hbr m6 m7 m67 hs7
          go_wp2_with fail
          refine hadd.out.mono ?_
          rintro e w8 ⟨rfl, s8, n8⟩
          have hz8 := itemAt_kept hz7 (n8.kept _ (by omega) hz7.1) n8.bel.size
          have hit8 := itemAt_kept hit7 (n8.kept _ (by omega) hit7.1) n8.bel.size
          have hb8 := hb7.trans (n8.bel.mono (by omega))
          have Hs8 := Lib.hid s8; have Hz8 := Lib.hid hz8; have Hit8 := Lib.hid hit8
          clear hadd s8 hz8 hit8 hz7 hit7 hb7 n8
          go_wp2_with fail
          go_roundw
          case rel => exact ⟨i + N, _, by go_num, by omega, hik2, .inr Hnext, Hs8, Hxs, hb8, Hz8, Hit8⟩
          case measure => simp [intOf]; omega
        · have hik3 : i = k := by omega
          subst hik3
          have d1 : decide ((i : Int) < (i : Int)) = false := decide_eq_false (by omega)
          have d1' : decide (i < i) = false := decide_eq_false (by omega)
          have hsp := spans_c G S1 wr hs.out
          have heq : spL S1 256 = spL (memS cs i (p + 2)) 256 := spL_ext _ _ 256 (fun j hj => by
            have := hx.out j hj
            rw [memS_end cs i i j (Nat.le_refl _), Bool.or_false] at this
            exact this)
          rw [heq] at hsp
          have Hsp := Lib.hid hsp
          clear hsp heq hx hi3 Hme
          have hwW : w.heap.size ≤ wr.heap.size := hbr.size
          go_wp2_with fail
          refine Hsp.out.mono ?_
          rintro e w9 ⟨v9, rfl, o9, m9⟩
          obtain ⟨A9, n9, c9, rfl⟩ := ownSp_form o9
          have hz9 := itemAt_below hz.out m9 hz.out.1
          have hit9 := itemAt_below hit.out m9 hit.out.1
          have hb9 := hbr.trans (m9.mono hwW)
          obtain ⟨_, zf, z0, z1, z2, z3⟩ := hz9
          have zf0 := zf 0; have zf1 := zf 1; have zf2 := zf 2; have zf3 := zf 3
          obtain ⟨_, yf, y0, y1, y2, y3⟩ := hit9
          have yf3 := yf 3
          clear zf yf hz hit Hsp hs
          have hne : w.heap.size ≠ w.heap.size + 1 := by omega
          have o9k : ∀ (u0 u1 u2 u3 u4 : Value), OwnSp (((((w9.setCell ⟨w.heap.size + 1, 3, none⟩ u0).setCell ⟨w.heap.size, 0, none⟩ u1).setCell ⟨w.heap.size, 1, none⟩ u2).setCell ⟨w.heap.size, 2, none⟩ u3).setCell ⟨w.heap.size, 3, none⟩ u4) w.heap.size (.slice A9 n9 c9) (spL (memS cs i (p + 2)) 256) := by
            intro u0 u1 u2 u3 u4
            have hGs : w.heap.size + 1 < wr.heap.size := by omega
            exact ownSp_mono (ownSp_set (ownSp_set (ownSp_set (ownSp_set (ownSp_set o9 hGs u0) (by omega) u1) (by omega) u2) (by omega) u3) (by omega) u4) hwW
          have j7 : ((i : Int) + 1 - (p : Int)) = ((i + 1 - p : Nat) : Int) := by omega
          have Hj7 := Lib.hid j7
          clear j7
          go_wp2_with fail
          refine bodyPost_ret (v := .tuple #[.agg #[.int .i64 4, .string { data := #[] }, .bool true, .slice A9 n9 c9], .int .i64 ((i : Int) + 1 - (p : Int))]) (by simp [results, Tryd.results86, go_sem, z0, z1, z2, z3]) rfl ⟨.inr ⟨_, _, _, _, Hbr.out, by rw [Hj7.out], o9k _ _ _ _ _⟩, ?_⟩
          exact ((((hb9.setCell (p := ⟨w.heap.size + 1, 3, none⟩) (Nat.le_succ _) _).setCell (p := ⟨w.heap.size, 0, none⟩) (Nat.le_refl _) _).setCell (p := ⟨w.heap.size, 1, none⟩) (Nat.le_refl _) _).setCell (p := ⟨w.heap.size, 2, none⟩) (Nat.le_refl _) _).setCell (p := ⟨w.heap.size, 3, none⟩) (Nat.le_refl _) _
  · have t1 : decide ((p : Int) + 1 < (cs.length : Int)) = false := decide_eq_false (by omega)
    have hFst : firstAt cs p = p + 1 := by
      have : negAt cs p = false := by
        unfold negAt isAt
        rw [List.getElem?_eq_none (by omega)]
        rfl
      unfold firstAt
      rw [this]
      rfl
    have hZ0 := itemAt_new w 0 (.string { data := #[] }) false (.slice none 0 0) 43
    have mZ : Below w.heap.size w (w.alloc (.cells #[.int .i64 0, .string { data := #[] }, .bool false, .slice none 0 0] 43)) := (Below.refl _ _).alloc (Nat.le_refl _) _
    have hb := mZ.alloc mZ.size (.cells #[.int .i64 4, .string { data := #[] }, .bool false, .slice none 0 0] 43)
    have hZ := itemAt_below hZ0 ((Below.refl _ _).alloc (Nat.le_refl _) (.cells #[.int .i64 4, .string { data := #[] }, .bool false, .slice none 0 0] 43)) hZ0.1
    clear hZ0 mZ hcell
    go_enter Tryd.func86, Tryd.ntmps86
    by_cases hfn : p + 1 = cs.length
    · have hbr : brk cs p = none := by
        unfold brk
        rw [if_pos (by rw [hFst]; omega)]
      have t9 : (((p : Int) + 1) == (cs.length : Int)) = true := by rw [beq_iff_eq]; omega
      have t9' : ((p + 1 : Nat) == cs.length) = true := by rw [beq_iff_eq]; omega
      obtain ⟨_, zf, z0, z1, z2, z3⟩ := hZ
      have zf0 := zf 0; have zf1 := zf 1; have zf2 := zf 2; have zf3 := zf 3
      clear zf
      go_wp2_with fail
      refine bodyPost_ret (v := .tuple #[.agg #[.int .i64 0, .string { data := #[] }, .bool false, .slice none 0 0], .int .i64 0]) (by simp [results, Tryd.results86, go_sem, z0, z1, z2, z3]) rfl ⟨.inl ⟨hbr, rfl⟩, ?_⟩
      first | exact hb | exact (((hb.setCell (p := ⟨w.heap.size, 0, none⟩) (Nat.le_refl _) _).setCell (p := ⟨w.heap.size, 1, none⟩) (Nat.le_refl _) _).setCell (p := ⟨w.heap.size, 2, none⟩) (Nat.le_refl _) _).setCell (p := ⟨w.heap.size, 3, none⟩) (Nat.le_refl _) _
    omega
end Go.Proofs.YteppndkhmbhnkaaDoor
