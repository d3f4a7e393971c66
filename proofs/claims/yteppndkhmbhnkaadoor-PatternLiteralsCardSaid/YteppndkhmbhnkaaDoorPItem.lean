/- pattern: itemAt. -/
import Derived.Test.YteppndkhmbhnkaaDoorPBrk
namespace Go.Proofs.YteppndkhmbhnkaaDoor
open Go.RowKit
set_option linter.unusedVariables false

/-- An item. -/
structure It where
  k : Int
  t : List UInt8
  neg : Bool
  set : List (Nat × Nat)
deriving DecidableEq
def byteAt (cs : List Ch) (p : Nat) : UInt8 := match cs[p]? with | some c => c.b | none => 0
/-- The item at p, and how many characters it has. -/
def itemL (cs : List Ch) (p : Nat) : It × Nat :=
  if isAt cs p 42 = true then (⟨3, [], false, []⟩, 1) else if isAt cs p 63 = true then (⟨2, [], false, []⟩, 1) else
  match (if isAt cs p 91 = true then brk cs p else none) with
  | some (neg, sp, sz) => (⟨4, [], neg, sp⟩, sz)
  | none => (⟨1, [byteAt cs p], false, []⟩, 1)
theorem brk_pos {cs : List Ch} {p : Nat} {neg : Bool} {sp : List (Nat × Nat)} {sz : Nat} (h : brk cs p = some (neg, sp, sz)) : 0 < sz ∧ p + sz ≤ cs.length := by
  unfold brk at h
  split at h
  · cases h
  · rename_i h1
    split at h
    · cases h
    · rename_i h2
      simp only [Option.some.injEq, Prod.mk.injEq] at h
      obtain ⟨_, _, h3⟩ := h
      have hf : p + 1 ≤ firstAt cs p := by unfold firstAt; split <;> omega
      have hM := msize_pos (cs.drop (firstAt cs p))
      rcases mend_range cs (firstAt cs p + msize (cs.drop (firstAt cs p))) with h4 | ⟨k, h4, h5, h6, _⟩
      · omega
      · omega
theorem itemL_pos (cs : List Ch) (p : Nat) (h : p < cs.length) : 0 < (itemL cs p).2 ∧ p + (itemL cs p).2 ≤ cs.length := by
  unfold itemL
  split
  · exact ⟨by decide, h⟩
  · split
    · exact ⟨by decide, h⟩
    · split
      · rename_i neg sp sz hq
        split at hq
        · exact brk_pos hq
        · cases hq
      · exact ⟨Nat.one_pos, h⟩
def ItPost (x : It × Nat) (w : World) (e : Ending) (w' : World) : Prop :=
  ∃ v, e = .returned (.tuple #[.agg #[.int .i64 x.1.k, strB x.1.t, .bool x.1.neg, v], .int .i64 (x.2 : Nat)]) ∧ OwnSp w' w.heap.size v x.1.set ∧ Below w.heap.size w w'
theorem ownSp_nil (w : World) (B : Nat) : OwnSp w B (.slice none 0 0) [] := ⟨rfl, .inl ⟨rfl, rfl⟩⟩

set_option maxHeartbeats 8000000 in
set_option maxRecDepth 100000 in
theorem itemAt_c (A : Option Addr) (cs : List Ch) (c p ge : Nat) (w : World) (hA : ChAt w w.heap.size A cs) (hc : cs.length ≤ 1000000) (hcc : cs.length ≤ c) (hcm : c ≤ maxLen) (hE : Env w w.heap.size) (hp : p < cs.length) (hEn : EndsAt w ge cs.length 0 cs) :
    Calls Tryd.prog 52 #[.slice A cs.length c, .int .i64 p, .slice (some ⟨ge, 0, none⟩) (cs.length + 1) (cs.length + 1)] w (ItPost (itemL cs p) w) := by
  have hmx : maxLen = 9223372036854775807 := rfl
  obtain ⟨b, off, rfl, hbl, hcell⟩ : ∃ b off, A = some ⟨b, off, none⟩ ∧ b < w.heap.size ∧ ∀ k (h : k < cs.length), w.cell? ⟨b, off + k * 2, none⟩ = some (.int .u8 (cs[k]'h).b.toNat) ∧ w.cell? ⟨b, off + k * 2 + 1, none⟩ = some (.bool (cs[k]'h).act) := by
    rcases hA with rfl | h
    · simp at hp
    · exact h
  have hit : itemL cs p = if isAt cs p 42 = true then (⟨3, [], false, []⟩, 1) else if isAt cs p 63 = true then (⟨2, [], false, []⟩, 1) else
    match (if isAt cs p 91 = true then brk cs p else none) with
    | some (neg, sp, sz) => (⟨4, [], neg, sp⟩, sz)
    | none => (⟨1, [byteAt cs p], false, []⟩, 1) := rfl
  have Hit := Lib.hid hit
  have hby : byteAt cs p = (cs[p]'hp).b := by unfold byteAt; rw [List.getElem?_eq_getElem hp]
  have Hby := Lib.hid hby
  have hcI : (p : Int) < (cs.length : Int) := by omega
  have c0 : ∀ o, (w.alloc o).cell? ⟨b, off + p * 2, none⟩ = some (.int .u8 (cs[p]'hp).b.toNat) := fun o => (((Below.refl w.heap.size w).alloc (Nat.le_refl _) o).cell (p := ⟨b, off + p * 2, none⟩) hbl).trans (hcell p hp).1
  have c1 : ∀ o, (w.alloc o).cell? ⟨b, off + p * 2 + 1, none⟩ = some (.bool (cs[p]'hp).act) := fun o => (((Below.refl w.heap.size w).alloc (Nat.le_refl _) o).cell (p := ⟨b, off + p * 2 + 1, none⟩) hbl).trans (hcell p hp).2
  have mZ : Below w.heap.size w (w.alloc (.cells #[.int .i64 0, .string { data := #[] }, .bool false, .slice none 0 0] 43)) := (Below.refl _ _).alloc (Nat.le_refl _) _
  have hZ0 := itemAt_new w 0 (.string { data := #[] }) false (.slice none 0 0) 43
  have hsz1 : (w.alloc (.cells #[.int .i64 0, .string { data := #[] }, .bool false, .slice none 0 0] 43)).heap.size = w.heap.size + 1 := by simp
  clear hit hby hcell
  go_enter Tryd.func52, Tryd.ntmps52
  go_wp2_with fail
  clear c0 c1
  generalize w.alloc (.cells #[.int .i64 0, .string { data := #[] }, .bool false, .slice none 0 0] 43) = wz at *
  have mI : Below wz.heap.size wz (wz.alloc (.cells #[.int .u8 (cs[p]'hp).b.toNat, .bool (cs[p]'hp).act] 108)) := (Below.refl _ _).alloc (Nat.le_refl _) _
  have hC0 := heap_alloc_new wz (.cells #[.int .u8 (cs[p]'hp).b.toNat, .bool (cs[p]'hp).act] 108)
  have hZ1 := itemAt_below hZ0 mI hZ0.1
  have hb0 := mZ.trans (mI.mono mZ.size)
  rw [hsz1] at hC0
  generalize wz.alloc (.cells #[.int .u8 (cs[p]'hp).b.toNat, .bool (cs[p]'hp).act] 108) = w0 at *
  have i1 := Lib.hid (isAt_c hA p 42 42 rfl hp w0 hb0)
  have i2 := Lib.hid (isAt_c hA p 63 63 rfl hp)
  have i3 := Lib.hid (isAt_c hA p 91 91 rfl hp)
  clear mZ hZ0 mI hsz1
  have hCl : w.heap.size + 1 < w0.heap.size := lt_of_block hC0
  with_reducible refine i1.out.mono ?_
  rintro e w1 ⟨rfl, m1, n1⟩
  have hZ := itemAt_below hZ1 n1 hZ1.1
  have hC := (n1.block _ hCl).trans hC0
  have hCl1 : w.heap.size + 1 < w1.heap.size := lt_of_block hC
  clear i1 hZ1 hC0 n1 hCl hb0
  rcases hQ1 : isAt cs p 42 with _ | _
  · have x0 : w1.cell? ⟨w.heap.size + 1, 0, none⟩ = some (.int .u8 (cs[p]'hp).b.toNat) := by rw [Lib.cell_of_heap hC]; rfl
    have x1 : w1.cell? ⟨w.heap.size + 1, 1, none⟩ = some (.bool (cs[p]'hp).act) := by rw [Lib.cell_of_heap hC]; rfl
    go_wp2_with fail
    with_reducible refine (i2.out _ m1).mono ?_
    rintro e w2 ⟨rfl, m2, n2⟩
    replace hZ := itemAt_below hZ n2 hZ.1
    replace hC := (n2.block _ hCl1).trans hC
    replace hCl1 : w.heap.size + 1 < w2.heap.size := lt_of_block hC
    clear n2 m1 x0 x1
    rcases hQ2 : isAt cs p 63 with _ | _
    · have x0 : w2.cell? ⟨w.heap.size + 1, 0, none⟩ = some (.int .u8 (cs[p]'hp).b.toNat) := by rw [Lib.cell_of_heap hC]; rfl
      have x1 : w2.cell? ⟨w.heap.size + 1, 1, none⟩ = some (.bool (cs[p]'hp).act) := by rw [Lib.cell_of_heap hC]; rfl
      go_wp2_with fail
      with_reducible refine (i3.out _ m2).mono ?_
      rintro e w3 ⟨rfl, m3, n3⟩
      replace hZ := itemAt_below hZ n3 hZ.1
      replace hC := (n3.block _ hCl1).trans hC
      replace hCl1 : w.heap.size + 1 < w3.heap.size := lt_of_block hC
      clear n3 m2 x0 x1
      rcases hQ3 : isAt cs p 91 with _ | _
      · have hx : itemL cs p = (⟨1, [(cs[p]'hp).b], false, []⟩, 1) := by rw [Hit.out, if_neg (by rw [hQ1]; simp), if_neg (by rw [hQ2]; simp), if_neg (by rw [hQ3]; simp), Hby.out]
        have x0 : w3.cell? ⟨w.heap.size + 1, 0, none⟩ = some (.int .u8 (cs[p]'hp).b.toNat) := by rw [Lib.cell_of_heap hC]; rfl
        have hob := Lib.hid (oneByte_c (cs[p]'hp).b)
        have hlW := hCl1
        clear i2 i3 Hit
        go_wp2_with fail
        with_reducible refine (hob.out _).mono ?_
        rintro e wb ⟨rfl, mb⟩
        unfold strB
        have hZb := itemAt_below hZ mb hZ.1
        have hbb := m3.trans (mb.mono (by have := m3.size; omega))
        obtain ⟨_, zf, z0, z1, z2, z3⟩ := hZb
        have zf0 := zf 0; have zf1 := zf 1; have zf2 := zf 2; have zf3 := zf 3
        clear zf hC x0 hob
        go_wp2_with fail
        refine bodyPost_ret (v := .tuple #[.agg #[.int .i64 1, .string ⟨#[(cs[p]'hp).b]⟩, .bool false, .slice none 0 0], .int .i64 1]) (by simp [results, Tryd.results52, go_sem, z0, z1, z2, z3]) rfl (by unfold ItPost; rw [hx]; exact ⟨_, rfl, ownSp_nil _ _, by first | exact (((hbb.setCell (p := ⟨w.heap.size, 0, none⟩) (Nat.le_refl _) _).setCell (p := ⟨w.heap.size, 1, none⟩) (Nat.le_refl _) _).setCell (p := ⟨w.heap.size, 2, none⟩) (Nat.le_refl _) _).setCell (p := ⟨w.heap.size, 3, none⟩) (Nat.le_refl _) _ | exact (hbb.setCell (p := ⟨w.heap.size, 0, none⟩) (Nat.le_refl _) _).setCell (p := ⟨w.heap.size, 1, none⟩) (Nat.le_refl _) _⟩)
      · have hw3 : w.heap.size ≤ w3.heap.size := m3.size
        have hbk := bracketAt_c (some ⟨b, off, none⟩) cs c p ge w3 (chAt_mono (chAt_below hA m3 (Nat.le_refl _)) hw3) hc hcc hcm (env_mono (env_below hE m3 (Nat.le_refl _)) hw3) hp (endsAt_below hEn m3 hEn.1)
        have Hbk := Lib.hid hbk
        clear hbk
        go_wp2_with fail
        refine Hbk.out.mono ?_
        rintro e w4 ⟨hpost, m4⟩
        replace hZ := itemAt_below hZ m4 hZ.1
        replace hC := (m4.block _ hCl1).trans hC
        have m34 := m3.trans (m4.mono hw3)
        have hCl3 := hCl1
        replace hCl1 : w.heap.size + 1 < w4.heap.size := lt_of_block hC
        clear Hbk m4
        rcases hpost with ⟨hnone, rfl⟩ | ⟨neg, sp, sz, v, hsome, rfl, ov⟩
        · have hx : itemL cs p = (⟨1, [(cs[p]'hp).b], false, []⟩, 1) := by rw [Hit.out, if_neg (by rw [hQ1]; simp), if_neg (by rw [hQ2]; simp), if_pos hQ3, hnone, Hby.out]
          have m5 := m34.alloc m34.size (.cells #[.int .i64 0, .string { data := #[] }, .bool false, .slice none 0 0] 43)
          have n5 : Below w4.heap.size w4 (w4.alloc (.cells #[.int .i64 0, .string { data := #[] }, .bool false, .slice none 0 0] 43)) := (Below.refl _ _).alloc (Nat.le_refl _) _
          have hZ5 := itemAt_below hZ n5 hZ.1
          have hC5 := (n5.block _ hCl1).trans hC
          have hl5 := lt_of_block hC5
          clear hZ hC m34 n5
          have hZ := hZ5; have hC := hC5
          clear hZ5 hC5
          have x0 : (w4.alloc (.cells #[.int .i64 0, .string { data := #[] }, .bool false, .slice none 0 0] 43)).cell? ⟨w.heap.size + 1, 0, none⟩ = some (.int .u8 (cs[p]'hp).b.toNat) := by rw [Lib.cell_of_heap hC]; rfl
          have hob := Lib.hid (oneByte_c (cs[p]'hp).b)
          have hlW := hCl1
          clear i2 i3 Hit
          go_wp2_with fail
          with_reducible refine (hob.out _).mono ?_
          rintro e wb ⟨rfl, mb⟩
          unfold strB
          have hZb := itemAt_below hZ mb hZ.1
          have hbb := m5.trans (mb.mono (by have := m5.size; omega))
          obtain ⟨_, zf, z0, z1, z2, z3⟩ := hZb
          have zf0 := zf 0; have zf1 := zf 1; have zf2 := zf 2; have zf3 := zf 3
          clear zf hC x0 hob
          go_wp2_with fail
          refine bodyPost_ret (v := .tuple #[.agg #[.int .i64 1, .string ⟨#[(cs[p]'hp).b]⟩, .bool false, .slice none 0 0], .int .i64 1]) (by simp [results, Tryd.results52, go_sem, z0, z1, z2, z3]) rfl (by unfold ItPost; rw [hx]; exact ⟨_, rfl, ownSp_nil _ _, by first | exact (((hbb.setCell (p := ⟨w.heap.size, 0, none⟩) (Nat.le_refl _) _).setCell (p := ⟨w.heap.size, 1, none⟩) (Nat.le_refl _) _).setCell (p := ⟨w.heap.size, 2, none⟩) (Nat.le_refl _) _).setCell (p := ⟨w.heap.size, 3, none⟩) (Nat.le_refl _) _ | exact (hbb.setCell (p := ⟨w.heap.size, 0, none⟩) (Nat.le_refl _) _).setCell (p := ⟨w.heap.size, 1, none⟩) (Nat.le_refl _) _⟩)
        · have hx : itemL cs p = (⟨4, [], neg, sp⟩, sz) := by rw [Hit.out, if_neg (by rw [hQ1]; simp), if_neg (by rw [hQ2]; simp), if_pos hQ3, hsome]
          have hsz := (brk_pos hsome).1
          obtain ⟨A9, n9, c9, rfl⟩ := ownSp_form ov
          have t1 : decide ((0 : Int) < (sz : Int)) = true := decide_eq_true (by omega)
          have t1' : decide (0 < sz) = true := decide_eq_true hsz
          have m5 := m34.alloc m34.size (.cells #[.int .i64 4, .string { data := #[] }, .bool neg, .slice A9 n9 c9] 43)
          have n5 : Below w4.heap.size w4 (w4.alloc (.cells #[.int .i64 4, .string { data := #[] }, .bool neg, .slice A9 n9 c9] 43)) := (Below.refl _ _).alloc (Nat.le_refl _) _
          have hZ5 := itemAt_below hZ n5 hZ.1
          have ov5 : OwnSp (w4.alloc (.cells #[.int .i64 4, .string { data := #[] }, .bool neg, .slice A9 n9 c9] 43)) w3.heap.size (.slice A9 n9 c9) sp := World.ownsRow.alloc ov _
          obtain ⟨_, zf, z0, z1, z2, z3⟩ := hZ5
          have zf0 := zf 0; have zf1 := zf 1; have zf2 := zf 2; have zf3 := zf 3
          clear zf hC i2 i3 Hit Hby hZ m34 n5 ov hsome
          have ovk : ∀ (u1 u2 u3 u4 : Value), OwnSp (((((w4.alloc (.cells #[.int .i64 4, .string { data := #[] }, .bool neg, .slice A9 n9 c9] 43)).setCell ⟨w.heap.size, 0, none⟩ u1).setCell ⟨w.heap.size, 1, none⟩ u2).setCell ⟨w.heap.size, 2, none⟩ u3).setCell ⟨w.heap.size, 3, none⟩ u4) w.heap.size (.slice A9 n9 c9) sp := fun u1 u2 u3 u4 =>
            ownSp_mono (ownSp_set (ownSp_set (ownSp_set (ownSp_set ov5 (by omega) u1) (by omega) u2) (by omega) u3) (by omega) u4) hw3
          go_wp2_with fail
          refine bodyPost_ret (v := .tuple #[.agg #[.int .i64 4, .string { data := #[] }, .bool neg, .slice A9 n9 c9], .int .i64 sz]) (by simp [results, Tryd.results52, go_sem, z0, z1, z2, z3]) rfl (by unfold ItPost; rw [hx]; exact ⟨_, rfl, ovk _ _ _ _, by exact (((m5.setCell (p := ⟨w.heap.size, 0, none⟩) (Nat.le_refl _) _).setCell (p := ⟨w.heap.size, 1, none⟩) (Nat.le_refl _) _).setCell (p := ⟨w.heap.size, 2, none⟩) (Nat.le_refl _) _).setCell (p := ⟨w.heap.size, 3, none⟩) (Nat.le_refl _) _⟩)
    · have hx : itemL cs p = (⟨2, [], false, []⟩, 1) := by rw [Hit.out, if_neg (by rw [hQ1]; simp), if_pos hQ2]
      obtain ⟨_, zf, z0, z1, z2, z3⟩ := hZ
      have zf0 := zf 0; have zf1 := zf 1; have zf2 := zf 2; have zf3 := zf 3
      clear zf hC i3 Hit Hby
      go_wp2_with fail
      refine bodyPost_ret (v := .tuple #[.agg #[.int .i64 2, .string { data := #[] }, .bool false, .slice none 0 0], .int .i64 1]) (by simp [results, Tryd.results52, go_sem, z0, z1, z2, z3]) rfl (by unfold ItPost; rw [hx]; exact ⟨_, rfl, ownSp_nil _ _, by first | exact (((m2.setCell (p := ⟨w.heap.size, 0, none⟩) (Nat.le_refl _) _).setCell (p := ⟨w.heap.size, 1, none⟩) (Nat.le_refl _) _).setCell (p := ⟨w.heap.size, 2, none⟩) (Nat.le_refl _) _).setCell (p := ⟨w.heap.size, 3, none⟩) (Nat.le_refl _) _ | exact m2.setCell (p := ⟨w.heap.size, 0, none⟩) (Nat.le_refl _) _⟩)
  · have hx : itemL cs p = (⟨3, [], false, []⟩, 1) := by rw [Hit.out, if_pos hQ1]
    obtain ⟨_, zf, z0, z1, z2, z3⟩ := hZ
    have zf0 := zf 0; have zf1 := zf 1; have zf2 := zf 2; have zf3 := zf 3
    clear zf hC i2 i3 Hit Hby
    go_wp2_with fail
    refine bodyPost_ret (v := .tuple #[.agg #[.int .i64 3, .string { data := #[] }, .bool false, .slice none 0 0], .int .i64 1]) (by simp [results, Tryd.results52, go_sem, z0, z1, z2, z3]) rfl (by unfold ItPost; rw [hx]; exact ⟨_, rfl, ownSp_nil _ _, by first | exact (((m1.setCell (p := ⟨w.heap.size, 0, none⟩) (Nat.le_refl _) _).setCell (p := ⟨w.heap.size, 1, none⟩) (Nat.le_refl _) _).setCell (p := ⟨w.heap.size, 2, none⟩) (Nat.le_refl _) _).setCell (p := ⟨w.heap.size, 3, none⟩) (Nat.le_refl _) _ | exact m1.setCell (p := ⟨w.heap.size, 0, none⟩) (Nat.le_refl _) _⟩)
end Go.Proofs.YteppndkhmbhnkaaDoor
