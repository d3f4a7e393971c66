/- alias: Expand, where no here-document is. -/
import Derived.Test.YticehbhedoploaaGreatDoorAlQ
namespace Go.Proofs.YticehbhedoploaaGreatDoor
open Go.RowKit
set_option linter.unusedVariables false

set_option maxHeartbeats 2000000 in
set_option maxRecDepth 100000 in
theorem strE2 (B X : Nat) (p0 buf c2 c3 c4 c5 c6 c7 c8 : Value) (l : List UInt8) (w : World) (hX : ExC X p0 buf c2 c3 c4 c5 c6 c7 c8 w) (hown : w.ownsRow B 5 1 buf l.length (Lib.byteCells l)) (h0 : l ≠ []) :
    Calls Tryz.prog 48 #[.pointer (some ⟨X, 0, none⟩)] w fun e w' => e = .returned (.string ⟨l.toArray⟩) ∧ Below B w w' ∧ w'.heap[X]? = w.heap[X]? := by
  have hl0 : l.length ≠ 0 := by simpa using h0
  have hneX := row_ne hown hX exTy
  obtain ⟨g, cap, cur, rfl, hbg, hg, hnc, hcm, hcs, htake⟩ : ∃ g cap cur, buf = .slice (some ⟨g, 0, none⟩) l.length cap ∧ B ≤ g ∧ w.heap[g]? = some (.cells cur 5 (0, 0)) ∧ l.length ≤ cap ∧ cap ≤ maxLen ∧ cur.size = cap * 1 ∧ cur.toList.take (l.length * 1) = Lib.byteCells l := by
    rcases hown.2 with ⟨_, hz⟩ | ⟨g, cap, cur, hv, r⟩
    · exact absurd hz hl0
    · exact ⟨g, cap, cur, hv, r⟩
  have hgX : g ≠ X := fun e => hneX (by rw [e]; rfl)
  have c1 : w.drew.cell? ⟨X, 1, none⟩ = some (.slice (some ⟨g, 0, none⟩) l.length cap) := by
    have : w.drew.heap[X]? = some (.cells #[p0, .slice (some ⟨g, 0, none⟩) l.length cap, c2, c3, c4, c5, c6, c7, c8] 71 (0, 0)) := hX
    rw [Lib.cell_of_heap this]; rfl
  have hSD : (Builtin.unsafeSliceData_ #[66] 125 #[.slice (some ⟨g, 0, none⟩) l.length cap]).run Tryz.prog w.drew = .ok (.pointer (some ⟨g, 0, none⟩)) w.drew :=
    Lib.run_unsafeSliceData_row _ _ _ _ _ _ (by omega)
  have hUS : (Builtin.unsafeString_ #[125, 3] 9 #[.pointer (some ⟨g, 0, none⟩), .int .i64 l.length]).run Tryz.prog w.drew = .ok (.string ⟨l.toArray⟩) (w.drew.freeze ⟨g, 0, none⟩ l.length) := by
    refine Lib.run_unsafeString_row w.drew 125 3 9 5 Tryz.underlying125 byteCellsN g cur.size (by have hg' : w.drew.heap[g]? = some (.cells cur 5 (0, 0)) := hg; simp [World.shape?, hg']) l h0 (by omega) (by unfold maxLen at hcm; omega) ?_
    intro j x hx
    exact hown.cells (g := g) rfl j (.int .u8 x.toNat) (by simp [Lib.byteCells, hx])
  have mixed : Tryz.prog.follows .mixedOrders = true := by kernel_rfl
  have Hb := Lib.hid (Lib.below_freeze (Below.drew (Below.refl B w)) (p := ⟨g, 0, none⟩) hbg l.length)
  have Hk : Hid ((w.drew.freeze ⟨g, 0, none⟩ l.length).heap[X]? = w.heap[X]?) := Lib.hid (by
    unfold World.freeze
    rw [if_neg hl0]
    show (w.heap.modify g _)[X]? = _
    rw [Array.getElem?_modify, if_neg hgX])
  clear hown htake hcs hg hX
  go_enter Tryz.func48, Tryz.ntmps48
  go_wp2
  go_region_o
  all_goals (go_wp2; go_ret; exact ⟨rfl, Hb.out, Hk.out⟩)
def okT (s : ByteArray) : Bool := (s.data.toList != [60, 60]) && (s.data.toList != [60, 60, 45])
def goodX (x : Ex) : Bool := !tooB x && (okT (nextL x.rest 0).1.text && (decide (x.vals.length ≤ 1000) && (decide (x.cnt ≤ 1000) && x.vals.all fun v => decide (v.1.size ≤ 1000000))))
def runX : Nat → List Al → Ex → Option Ex
  | 0, _, _ => none
  | n + 1, al, x => if goodX x = true then match stepX al x with
      | none => some x
      | some z => runX n al z
    else none
def startX (s : ByteArray) : Ex := ⟨[], s, [], [], true, 0⟩
theorem goodX_facts {x : Ex} (h : goodX x = true) : tooB x = false ∧ x.done.length + x.rest.size ≤ 16384 ∧ (nextL x.rest 0).1.text.toList ≠ [60, 60] ∧ (nextL x.rest 0).1.text.toList ≠ [60, 60, 45] ∧ x.vals.length ≤ 1000 ∧ x.cnt ≤ 1000 ∧ ∀ v ∈ x.vals, v.1.size ≤ 1000000 := by
  unfold goodX okT at h
  simp only [Bool.and_eq_true, Bool.not_eq_true', decide_eq_true_iff, bne_iff_ne, List.all_eq_true] at h
  obtain ⟨h1, ⟨h2, h3⟩, h4, h5, h6⟩ := h
  refine ⟨h1, ?_, by rw [ByteArray.toList_eq]; exact h2, by rw [ByteArray.toList_eq]; exact h3, h4, h5, h6⟩
  unfold tooB at h1
  rw [decide_eq_false_iff_not] at h1
  omega
set_option maxHeartbeats 4000000 in
set_option maxRecDepth 100000 in
theorem Expand_c (A : Option Addr) (c : Nat) (al : List Al) (s : ByteArray) (z : Ex) (n : Nat) (w : World) (hA : AlAt w w.heap.size A al) (hl : al.length ≤ 1000000) (hval : valL al = 0) (hrun : runX n al (startX s) = some z) (hd : z.done ≠ []) :
    Calls Tryz.prog 26 #[.string s, .slice A al.length c] w fun e w' => e = .returned (.tuple #[.string (⟨z.done.toArray⟩ ++ z.rest), .int .i64 0]) ∧ Below w.heap.size w w' := by
  have HV : Hid (Calls Tryz.prog 17 #[.slice A al.length c] w fun e w' => e = .returned (.int .i64 0) ∧ Below w.heap.size w w') := Lib.hid (by
    have := Valid_c A al c w hA hl
    rw [hval] at this
    exact this)
  obtain ⟨_, hv2, _⟩ := valL_zero.1 hval
  have hav : ∀ a ∈ al, a.v.size ≤ 1000000 := fun a ha => by have := (hv2 a ha).2; omega
  have HAV := Lib.hid hav
  have HR := Lib.hid hrun
  have HD := Lib.hid hd
  clear hv2 hav hval hrun hd
  have hmm := @run_makeMap Tryz.prog
  go_enter Tryz.func26, Tryz.ntmps26
  go_wp2_with fail
  refine HV.out.mono ?_
  rintro e w1 ⟨rfl, hb1⟩
  have hs1 := hb1.size
  go_wp2_with fail
  clear hmm
  obtain ⟨W0, hW0⟩ : ∃ W0 : World, W0 = (w1.alloc (.map #[] 0)).alloc (.cells #[.pointer none, .slice none 0 0, .string s, .slice A al.length c, .slice none 0 0, .map (some w1.heap.size), .bool true, .string ⟨#[]⟩, .slice none 0 0] 71) := ⟨_, rfl⟩
  rw [← hW0]
  have hE0 : ExAt w.heap.size (w1.heap.size + 1) w1.heap.size (.slice A al.length c) (startX s) W0 := by
    refine ⟨.pointer none, .slice none 0 0, .slice none 0 0, ?_, .inl rfl, World.ownsRow_nil _ _ _ _, World.ownsRow_nil _ _ _ _, ?_, by omega, by omega⟩
    · show W0.heap[w1.heap.size + 1]? = _
      rw [hW0]
      have := heap_alloc_new (w1.alloc (.map #[] 0)) (.cells #[.pointer none, .slice none 0 0, .string s, .slice A al.length c, .slice none 0 0, .map (some w1.heap.size), .bool true, .string ⟨#[]⟩, .slice none 0 0] 71)
      rw [World.size_alloc] at this
      exact this
    · rw [hW0]
      refine ⟨.map [], (World.ownsMap_made w1 Tryz.prog 9 (plainElem Tryz.prog 4)).alloc _, fun t => ?_⟩
      rfl
  have hb0 : Below w.heap.size w W0 := by
    rw [hW0]
    exact (hb1.alloc hs1 _).alloc (by rw [World.size_alloc]; omega) _
  have HE0 : Hid (∃ x, runX n al x = some z ∧ ExAt w.heap.size (w1.heap.size + 1) w1.heap.size (.slice A al.length c) x W0) := Lib.hid ⟨_, HR.out, hE0⟩
  clear hE0 hW0 hb1 HV
  obtain ⟨X, hX⟩ : ∃ X, X = w1.heap.size + 1 := ⟨_, rfl⟩
  obtain ⟨h, hh⟩ : ∃ h, h = w1.heap.size := ⟨_, rfl⟩
  rw [← hX, ← hh] at HE0
  rw [← hX]
  clear hh hX
  go_loopg [] n (fun kx wr => ∃ k : Nat, k ≤ kx ∧ Below w.heap.size w wr ∧ Hid (∃ x, runX k al x = some z ∧ ExAt w.heap.size X h (.slice A al.length c) x wr))
  case atStart => exact ⟨n, Nat.le_refl _, hb0, HE0⟩
  case round =>
    obtain ⟨k, hkx, hb, hx⟩ := hrel
    obtain ⟨x, hrx, hE⟩ := hx.out
    clear HE0 hb0
    rcases k with _ | k
    · exact absurd hrx (by rw [runX]; simp)
    rw [runX] at hrx
    by_cases hg : goodX x = true
    · rw [if_pos hg] at hrx
      obtain ⟨f1, f2, f3, f4, f5, f6, f7⟩ := goodX_facts hg
      have hwr := hb.size
      have hTL := tooLong_c w.heap.size X h (.slice A al.length c) x wr hE (by omega)
      rw [f1] at hTL
      have HTL := Lib.hid hTL
      have HT0 := Lib.hid f2
      have HTB := Lib.hid f1
      have HE := Lib.hid hE
      obtain ⟨rs, hrs⟩ : ∃ rs, rs = stepX al x := ⟨_, rfl⟩
      rw [← hrs] at hrx
      have HRX := Lib.hid hrx
      have HSX : Hid (∀ W : World, (∀ k, k < wr.heap.size → W.heap[k]? = wr.heap[k]?) → Below w.heap.size w W → Calls Tryz.prog 47 #[.pointer (some ⟨X, 0, none⟩)] W (StepPost w.heap.size X h (.slice A al.length c) x W rs)) := Lib.hid (fun W hW hbW => by
        rw [hrs]
        exact step_c w.heap.size X h A c al x W (exAt_keep HE.out hW) (alAt_below hA hbW (Nat.le_refl _)) hl HAV.out hbW.size (by omega) (fun v hv => by have := f7 v hv; omega) (by omega) (by omega) f3 f4)
      clear hrx hE hTL hg f1 f2 f3 f4 f5 f6 f7 hrs hx
      go_wp2_with fail
      refine HTL.out.mono ?_
      rintro e w2 ⟨rfl, hb2⟩
      have hbw2 := hb.trans (hb2.mono hwr)
      have hk2 : ∀ k, k < wr.heap.size → w2.heap[k]? = wr.heap[k]? := fun k hk => hb2.block k hk
      go_wp2_with fail
      refine (HSX.out w2 hk2 hbw2).mono ?_
      intro e w3 hpost
      rcases rs with _ | y
      · obtain ⟨rfl, hE3, hb3⟩ := hpost
        have hz : x = z := by have := HRX.out; simpa using this
        subst hz
        have hwr3 := hbw2.trans hb3
        have hT3 := Lib.hid (tooLong_c w.heap.size X h (.slice A al.length c) x w3 hE3 (by have := HT0.out; omega))
        obtain ⟨p0, buf, vals, g1, g2, g3, g4, g5, g6, g7⟩ := hE3
        have hXl : X < w3.heap.size := by
          have : w3.heap[X]? = _ := g1
          rw [Array.getElem?_eq_some_iff] at this
          exact this.1
        have hT3' : Hid (Calls Tryz.prog 46 #[.pointer (some ⟨X, 0, none⟩)] w3 fun e w' => e = .returned (.bool false) ∧ Below w3.heap.size w3 w') := Lib.hid (by
          have := hT3.out
          rw [HTB.out] at this
          exact this)
        clear hT3
        go_wp2_with fail
        refine hT3'.out.mono ?_
        rintro e w4 ⟨rfl, hb4⟩
        have g14 : ExC X p0 buf (.string x.rest) (.slice A al.length c) vals (.map (some h)) (.bool x.cmd) (.string ⟨#[]⟩) (.slice none 0 0) w4 := (hb4.block X hXl).trans g1
        have g34 : w4.ownsRow w.heap.size 5 1 buf x.done.length (Lib.byteCells x.done) := row_keep g3 (fun g hg => hb4.block g (g3.lt g hg).2)
        have hbw4 : Below w.heap.size w w4 := hwr3.trans (hb4.mono hwr3.size)
        have cr : w4.cell? ⟨X, 2, none⟩ = some (.string x.rest) := by rw [Lib.cell_of_heap g14]; rfl
        have HST := Lib.hid (fun (W : World) (hW : W.heap = w4.heap) => strE2 w.heap.size X p0 buf _ _ _ _ _ _ _ x.done W (show W.heap[X]? = _ by rw [hW]; exact g14) (row_keep g34 (fun g hg => by rw [hW])) HD.out)
        have hsum := HT0.out
        clear g1 g2 g3 g4 g5 hT3' hb4 g34 HE
        have Hg14 := Lib.hid g14
        clear g14
        go_wp2_with fail
        go_region_with (go_at_call 48; refine (HST.out _ (by rfl)).mono ?_; rintro e w7 ⟨rfl, hb7, hX7⟩; have cr7 : w7.cell? ⟨X, 2, none⟩ = some (.string x.rest) := (World.cell?_of_block (a := ⟨X, 2, none⟩) hX7).trans cr)
        all_goals try (exfalso; omega)
        all_goals
          go_wp2_with fail
          go_ret2
          exact ⟨rfl, hbw4.drew.trans hb7⟩
      · obtain ⟨rfl, hE3, hb3⟩ := hpost
        have hrel : Hid (∃ x, runX k al x = some z ∧ ExAt w.heap.size X h (.slice A al.length c) x w3) := Lib.hid ⟨y, HRX.out, hE3⟩
        have hbw3 := hbw2.trans hb3
        clear hE3
        go_wp2_with fail
        go_roundg k
        case rel => exact ⟨k, Nat.le_refl _, hbw3, hrel⟩
        case measure => omega
    · rw [if_neg hg] at hrx
      exact absurd hrx (by simp)
end Go.Proofs.YticehbhedoploaaGreatDoor
