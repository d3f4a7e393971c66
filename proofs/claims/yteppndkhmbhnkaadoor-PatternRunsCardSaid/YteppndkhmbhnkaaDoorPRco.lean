/- pattern: the reference's Compile. -/
import Derived.Test.YteppndkhmbhnkaaDoorPRbk
namespace Go.Proofs.YteppndkhmbhnkaaDoor
open Go.RowKit
set_option linter.unusedVariables false

/-- An item in a fresh block is appended to fresh items. -/
theorem items_app (B : Nat) (w0 w : World) (v sv : Value) (acc : List It) (x : It) (ho : OwnIt w B v acc) (hs : OwnSp w B sv x.set) (hb : Below B w0 w) (hB : B ≤ w.heap.size) (hn : acc.length ≤ 1000000) :
    ∃ v8 w8, (Builtin.append_ #[26, 26] 26 #[v, .slice (some ⟨w.heap.size, 0, none⟩) 1 1]).run Tryd.prog (w.alloc (.cells #[.int .i64 x.k, .string ⟨x.t.toArray⟩, .bool x.neg, sv] 43)) = .ok v8 w8 ∧ Hid (OwnIt w8 B v8 (acc ++ [x])) ∧ Below B w0 w8 := by
  obtain ⟨i0, hi, hz0, hz1, hz2⟩ := info_parts patInfo
  obtain ⟨A5, n5, c5, rfl⟩ := ownSp_form hs
  obtain ⟨vs, hvl, hrow, hsets⟩ := ho
  have hb7 := hb.alloc hB (.cells #[.int .i64 x.k, .string ⟨x.t.toArray⟩, .bool x.neg, .slice A5 n5 c5] 43)
  have hrow7 := World.ownsRow.alloc hrow (.cells #[.int .i64 x.k, .string ⟨x.t.toArray⟩, .bool x.neg, .slice A5 n5 c5] 43)
  have o7 : OwnSp (w.alloc (.cells #[.int .i64 x.k, .string ⟨x.t.toArray⟩, .bool x.neg, .slice A5 n5 c5] 43)) B (.slice A5 n5 c5) x.set := World.ownsRow.alloc hs _
  have hnews := World.news_of_block (cs := #[.int .i64 x.k, .string ⟨x.t.toArray⟩, .bool x.neg, .slice A5 n5 c5]) (t := 43) (fr := (0, 0)) (heap_alloc_new w (.cells #[.int .i64 x.k, .string ⟨x.t.toArray⟩, .bool x.neg, .slice A5 n5 c5] 43))
  have hB7 : B ≤ (w.alloc (.cells #[.int .i64 x.k, .string ⟨x.t.toArray⟩, .bool x.neg, .slice A5 n5 c5] 43)).heap.size := by simp; omega
  obtain ⟨v8, w8, hr, hown', hgrow, _⟩ := run_append_own _ B 26 26 43 i0 _ 4 56 Tryd.underlying26 hi hz0 hz1 hz2 rfl (by decide) v acc.length _ hrow7 ⟨w.heap.size, 0, none⟩ 1 1 [.int .i64 x.k, .string ⟨x.t.toArray⟩, .bool x.neg, .slice A5 n5 c5] rfl hnews (by intro u hu; simp at hu; rcases hu with rfl | rfl | rfl | rfl <;> rfl) (by unfold maxLen; omega) (by omega) hB7
  have hne : ∀ D cs2 fr, (w.alloc (.cells #[.int .i64 x.k, .string ⟨x.t.toArray⟩, .bool x.neg, .slice A5 n5 c5] 43)).heap[D]? = some (.cells cs2 68 fr) → v.ownBlock ≠ some D := fun D cs2 fr h => own_ne hrow7 h (by decide)
  refine ⟨v8, w8, hr, Lib.hid ?_, hb7.grown hgrow hB7 (fun q hq => (hrow7.lt q hq).1)⟩
  refine ⟨vs ++ [.slice A5 n5 c5], by simp [hvl], ?_, fun i h h' => ?_⟩
  · rw [itCells_append _ _ _ _ hvl, List.length_append]
    exact hown'
  · by_cases hia : i < acc.length
    · have hiv : i < vs.length := by rw [hvl]; exact hia
      rw [List.getElem_append_left hia, List.getElem_append_left hiv]
      exact ownSp_grown (World.ownsRow.alloc (hsets i hia hiv) _) hgrow hne
    · have hie : i = acc.length := by simp at h; omega
      subst hie
      have e1 : (acc ++ [x])[acc.length]'h = x := by simp
      have e2 : (vs ++ [Value.slice A5 n5 c5])[acc.length]'h' = .slice A5 n5 c5 := by
        rw [List.getElem_append_right (by rw [hvl]; exact Nat.le_refl _)]
        simp
      rw [e1, e2]
      exact ownSp_grown o7 hgrow hne
theorem ownIt_kept {w w' : World} {B : Nat} {v : Value} {is : List It} (h : OwnIt w B v is) (hk : ∀ k, k < w.heap.size → w'.heap[k]? = w.heap[k]?) : OwnIt w' B v is := by
  obtain ⟨vs, hvl, hrow, hsets⟩ := h
  exact ⟨vs, hvl, row_kept hrow hk, fun i h h' => ownSp_kept (hsets i h h') hk⟩
theorem ownIt_lower {w : World} {B B' : Nat} {v : Value} {is : List It} (h : OwnIt w B v is) (hB : B' ≤ B) : OwnIt w B' v is := by
  obtain ⟨vs, h1, h2, h3⟩ := h
  refine ⟨vs, h1, ?_, fun i h h' => ownSp_mono (h3 i h h') hB⟩
  refine ⟨h2.1, ?_⟩
  rcases h2.2 with h0 | ⟨g2, cap, cur, rfl, hg, r⟩
  · exact .inl h0
  · exact .inr ⟨g2, cap, cur, rfl, by omega, r⟩

set_option maxHeartbeats 32000000 in
set_option maxRecDepth 100000 in
theorem refCompile_c (A : Option Addr) (rs : List Rn) (c : Nat) (w : World) (hA : RunAt w w.heap.size A rs) (hn : rs.length ≤ 100000) (hT : (charsOf rs).length ≤ 100000) (hL : ∀ r ∈ rs, r.t.length ≤ 100000) (hcl : ∀ r ∈ rs, -9223372036854775808 ≤ r.c ∧ r.c ≤ 9223372036854775807) :
    Calls Tryd.prog 19 #[.slice A rs.length c] w fun e w' => ∃ v, e = .returned v ∧ OwnIt w' w.heap.size v (compileL rs) ∧ Below w.heap.size w w' := by
  have hch := Lib.hid (elements_c A rs c w hA (by omega) (by omega) (fun r hr => by have := hL r hr; omega) hcl)
  have HR : Hid (compileL rs = [] ++ compL (charsOf rs) 0) := Lib.hid rfl
  have hclen := compL_len (charsOf rs) 0
  generalize compileL rs = R at *
  generalize charsOf rs = cs at *
  clear hA hL hn hcl
  go_enter Tryd.func19, Tryd.ntmps19
  go_wp2_with fail
  refine hch.out.mono ?_
  rintro e w1 ⟨v1, rfl, o1, m1⟩
  obtain ⟨A1, c1, rfl, hA1, hc1, hm1⟩ := ownEl_at o1
  have hw1 := m1.size
  have HA1 := Lib.hid hA1
  clear hch o1 hA1
  go_wp2_with fail
  go_loopw [4, 5] (fun lv iv wr => ∃ (p : Nat) (acc : List It), iv = .int .i64 p ∧ p ≤ cs.length ∧ acc.length ≤ p ∧ Hid (OwnIt wr w1.heap.size lv acc) ∧ Below w1.heap.size w1 wr ∧ Hid (R = acc ++ compL cs p)) (fun _ iv _ => cs.length - (intOf iv).toNat)
  case atStart => exact ⟨0, [], rfl, by omega, by simp, Lib.hid (ownIt_nil _ _), Below.refl _ _, HR⟩
  case round =>
    obtain ⟨p, acc, rfl, hp, hacc, ho, hb, hx⟩ := hrel
    clear HR
    have hwr := hb.size
    by_cases hlt : p < cs.length
    · have d1 : decide ((p : Int) < (cs.length : Int)) = true := decide_eq_true (by omega)
      have d1' : decide (p < cs.length) = true := decide_eq_true hlt
      have hAr : Hid (∀ W, Below w1.heap.size w1 W → ChAt W W.heap.size A1 cs) := Lib.hid (fun W hW => chAt_mono (chAt_below HA1.out hW (Nat.le_refl _)) hW.size)
      have h42 := Lib.hid (isR_c A1 cs c1 p 42 wr (hAr.out wr hb) (by omega) (by omega))
      have h63 := Lib.hid (isR_c A1 cs c1 p 63 wr (hAr.out wr hb) (by omega) (by omega))
      have h91 := Lib.hid (isR_c A1 cs c1 p 91 wr (hAr.out wr hb) (by omega) (by omega))
      have hbk := Lib.hid (bracket_c A1 cs c1 p wr (hAr.out wr hb) hT hc1 hlt)
      have hx2 := hx.out
      rw [compL_at cs p hlt] at hx2
      have Hx2 := Lib.hid hx2
      have hit : Hid (itemL cs p = if isAt cs p 42 = true then (⟨3, [], false, []⟩, 1) else if isAt cs p 63 = true then (⟨2, [], false, []⟩, 1) else match (if isAt cs p 91 = true then brk cs p else none) with
        | some (neg, sp, sz) => (⟨4, [], neg, sp⟩, sz)
        | none => (⟨1, [byteAt cs p], false, []⟩, 1)) := Lib.hid rfl
      obtain ⟨b, off, hAe, hbl, hcell⟩ : ∃ b off, A1 = some ⟨b, off, none⟩ ∧ b < w1.heap.size ∧ ∀ k (h : k < cs.length), w1.cell? ⟨b, off + k * 2, none⟩ = some (.int .u8 (cs[k]'h).b.toNat) ∧ w1.cell? ⟨b, off + k * 2 + 1, none⟩ = some (.bool (cs[k]'h).act) := by
        rcases HA1.out with rfl | h
        · simp at hlt
        · exact h
      subst hAe
      have hby : Hid (∀ W, Below w1.heap.size w1 W → W.cell? ⟨b, off + p * 2, none⟩ = some (.int .u8 (byteAt cs p).toNat)) := Lib.hid (fun W hW => by
        have e : byteAt cs p = (cs[p]'hlt).b := by unfold byteAt; rw [List.getElem?_eq_getElem hlt]
        rw [e]
        exact (hW.cell (p := ⟨b, off + p * 2, none⟩) hbl).trans (hcell p hlt).1)
      have app : Hid (∀ (W : World) (x : It) (sv : Value), OwnIt W w1.heap.size u4 acc → OwnSp W w1.heap.size sv x.set → Below w1.heap.size w1 W → ∃ v8 w8, (Builtin.append_ #[26, 26] 26 #[u4, .slice (some ⟨W.heap.size, 0, none⟩) 1 1]).run Tryd.prog (W.alloc (.cells #[.int .i64 x.k, .string ⟨x.t.toArray⟩, .bool x.neg, sv] 43)) = .ok v8 w8 ∧ Hid (OwnIt w8 w1.heap.size v8 (acc ++ [x])) ∧ Below w1.heap.size w1 w8) := Lib.hid (fun W x sv h1 h2 h3 => items_app w1.heap.size w1 W u4 sv acc x h1 h2 h3 h3.size (by omega))
      have hpI : (p : Int) < (cs.length : Int) := by omega
      clear hcell hx hx2
      rcases q42 : isAt cs p 42 with _ | _
      rotate_left
      · rw [q42] at h42 hit
        have hitm : itemL cs p = (⟨3, [], false, []⟩, 1) := by rw [hit.out]; simp
        rw [hitm] at Hx2
        obtain ⟨v8, w8, hrun, ho8, hb8⟩ := app.out wr ⟨3, [], false, []⟩ (.slice none 0 0) ho.out (ownSp_nil _ _) hb
        have Hx3 : Hid (R = (acc ++ [⟨3, [], false, []⟩]) ++ compL cs (p + 1)) := Lib.hid (by rw [Hx2.out, List.append_assoc]; rfl)
        clear hit hitm app hby hbk Hx2 ho hb hAr
        clear h63 h91
        go_wp2_with fail
        refine h42.out.mono ?_
        rintro e w7 ⟨rfl, rfl⟩
        clear h42
        go_wp2_with (at_builtin; refine Lib.wpList_append_run _ rfl _ _ _ _ rfl _ _ rfl rfl _ _ hrun ?_)
        go_roundw
        case rel => exact ⟨p + 1, _, by go_num, by omega, by simp; omega, ho8, hb8, Hx3⟩
        case measure => simp [intOf]; omega
      rcases q63 : isAt cs p 63 with _ | _
      rotate_left
      · rw [q42] at h42 hit
        rw [q63] at h63 hit
        have hitm : itemL cs p = (⟨2, [], false, []⟩, 1) := by rw [hit.out]; simp
        rw [hitm] at Hx2
        obtain ⟨v8, w8, hrun, ho8, hb8⟩ := app.out wr ⟨2, [], false, []⟩ (.slice none 0 0) ho.out (ownSp_nil _ _) hb
        have Hx3 : Hid (R = (acc ++ [⟨2, [], false, []⟩]) ++ compL cs (p + 1)) := Lib.hid (by rw [Hx2.out, List.append_assoc]; rfl)
        clear hit hitm app hby hbk Hx2 ho hb hAr
        clear h91
        go_wp2_with fail
        refine h42.out.mono ?_
        rintro e w7 ⟨rfl, rfl⟩
        clear h42
        go_wp2_with fail
        refine h63.out.mono ?_
        rintro e w7 ⟨rfl, rfl⟩
        clear h63
        go_wp2_with (at_builtin; refine Lib.wpList_append_run _ rfl _ _ _ _ rfl _ _ rfl rfl _ _ hrun ?_)
        go_roundw
        case rel => exact ⟨p + 1, _, by go_num, by omega, by simp; omega, ho8, hb8, Hx3⟩
        case measure => simp [intOf]; omega
      rcases q91 : isAt cs p 91 with _ | _
      · rw [q42] at h42 hit
        rw [q63] at h63 hit
        rw [q91] at h91 hit
        have hbW := hb
        have hoW := ho.out
        clear hbk q42 q63 q91
        go_wp2_with fail
        refine h42.out.mono ?_
        rintro e w7 ⟨rfl, rfl⟩
        clear h42
        go_wp2_with fail
        refine h63.out.mono ?_
        rintro e w7 ⟨rfl, rfl⟩
        clear h63
        go_wp2_with fail
        refine h91.out.mono ?_
        rintro e w7 ⟨rfl, rfl⟩
        clear h91
        have hitm : itemL cs p = (⟨1, [byteAt cs p], false, []⟩, 1) := by rw [hit.out]; simp 
        rw [hitm] at Hx2
        have hcv := conv1 wr (byteAt cs p)
        have x0 := hby.out _ hbW
        have hoW2 : OwnIt (wr.alloc (.cells #[.int .u8 (byteAt cs p).toNat] 5)) w1.heap.size u4 acc := ownIt_kept hoW (fun k hk => Below.heap_alloc _ _ k hk)
        have hbW2 := hbW.alloc hbW.size (.cells #[.int .u8 (byteAt cs p).toNat] 5)
        obtain ⟨v8, w8, hrun, ho8, hb8⟩ := app.out _ ⟨1, [byteAt cs p], false, []⟩ (.slice none 0 0) hoW2 (ownSp_nil _ _) hbW2
        rw [show (wr.alloc (.cells #[.int .u8 (byteAt cs p).toNat] 5)).heap.size = wr.heap.size + 1 from by simp] at hrun
        have Hx3 : Hid (R = (acc ++ [⟨1, [byteAt cs p], false, []⟩]) ++ compL cs (p + 1)) := Lib.hid (by rw [Hx2.out, List.append_assoc]; rfl)
        clear hit hitm app hby Hx2 ho hoW hoW2 hbW2 hAr
        generalize byteAt cs p = q at *
        go_wp2_with (at_builtin; refine Lib.wpList_append_run _ rfl _ _ _ _ rfl _ _ rfl rfl _ _ hrun ?_)
        go_roundw
        case rel => exact ⟨p + 1, _, by go_num, by omega, by simp; omega, ho8, hb8, Hx3⟩
        case measure => simp [intOf]; omega
      · rw [q42] at h42 hit
        rw [q63] at h63 hit
        rw [q91] at h91 hit
        clear q42 q63 q91
        go_wp2_with fail
        refine h42.out.mono ?_
        rintro e w7 ⟨rfl, rfl⟩
        clear h42
        go_wp2_with fail
        refine h63.out.mono ?_
        rintro e w7 ⟨rfl, rfl⟩
        clear h63
        go_wp2_with fail
        refine h91.out.mono ?_
        rintro e w7 ⟨rfl, rfl⟩
        clear h91
        go_wp2_with fail
        refine hbk.out.mono ?_
        rintro e w5 ⟨⟨hn5, rfl⟩ | ⟨neg, sp, sz, v5, hs5, rfl, o5⟩, m5⟩
        · have hbW5 := hb.trans (m5.mono hwr)
          have hbW := hbW5.alloc hbW5.size (.cells #[.int .i64 0, .string { data := #[] }, .bool false, .slice none 0 0] 43)
          have hoW : OwnIt (w5.alloc (.cells #[.int .i64 0, .string { data := #[] }, .bool false, .slice none 0 0] 43)) w1.heap.size u4 acc := ownIt_kept (ownIt_kept ho.out (fun k hk => m5.block k hk)) (fun k hk => Below.heap_alloc _ _ k hk)
          clear hbk m5 hbW5
          have hitm : itemL cs p = (⟨1, [byteAt cs p], false, []⟩, 1) := by rw [hit.out]; simp [hn5]
          rw [hitm] at Hx2
          have hcv := conv1 (w5.alloc (.cells #[.int .i64 0, .string { data := #[] }, .bool false, .slice none 0 0] 43)) (byteAt cs p)
          have hsz5 : (w5.alloc (.cells #[.int .i64 0, .string { data := #[] }, .bool false, .slice none 0 0] 43)).heap.size = w5.heap.size + 1 := by simp
          rw [hsz5] at hcv
          have x0 := hby.out _ hbW
          have hoW2 : OwnIt ((w5.alloc (.cells #[.int .i64 0, .string { data := #[] }, .bool false, .slice none 0 0] 43)).alloc (.cells #[.int .u8 (byteAt cs p).toNat] 5)) w1.heap.size u4 acc := ownIt_kept hoW (fun k hk => Below.heap_alloc _ _ k hk)
          have hbW2 := hbW.alloc hbW.size (.cells #[.int .u8 (byteAt cs p).toNat] 5)
          obtain ⟨v8, w8, hrun, ho8, hb8⟩ := app.out _ ⟨1, [byteAt cs p], false, []⟩ (.slice none 0 0) hoW2 (ownSp_nil _ _) hbW2
          rw [show ((w5.alloc (.cells #[.int .i64 0, .string { data := #[] }, .bool false, .slice none 0 0] 43)).alloc (.cells #[.int .u8 (byteAt cs p).toNat] 5)).heap.size = (w5.alloc (.cells #[.int .i64 0, .string { data := #[] }, .bool false, .slice none 0 0] 43)).heap.size + 1 from by simp] at hrun
          rw [hsz5] at hrun
          clear hsz5
          have Hx3 : Hid (R = (acc ++ [⟨1, [byteAt cs p], false, []⟩]) ++ compL cs (p + 1)) := Lib.hid (by rw [Hx2.out, List.append_assoc]; rfl)
          clear hit hitm app hby Hx2 ho hoW hoW2 hbW2 hAr
          generalize byteAt cs p = q at *
          go_wp2_with (at_builtin; refine Lib.wpList_append_run _ rfl _ _ _ _ rfl _ _ rfl rfl _ _ hrun ?_)
          go_roundw
          case rel => exact ⟨p + 1, _, by go_num, by omega, by simp; omega, ho8, hb8, Hx3⟩
          case measure => simp [intOf]; omega
        · have hitm : itemL cs p = (⟨4, [], neg, sp⟩, sz) := by rw [hit.out]; simp [hs5]
          have hps := brk_pos hs5
          rw [hitm] at Hx2
          obtain ⟨A5, n5, c5, rfl⟩ := ownSp_form o5
          have hbW5 := hb.trans (m5.mono hwr)
          have hbW := hbW5.alloc hbW5.size (.cells #[.int .i64 4, .string { data := #[] }, .bool neg, .slice A5 n5 c5] 43)
          have hoW : OwnIt (w5.alloc (.cells #[.int .i64 4, .string { data := #[] }, .bool neg, .slice A5 n5 c5] 43)) w1.heap.size u4 acc := ownIt_kept (ownIt_kept ho.out (fun k hk => m5.block k hk)) (fun k hk => Below.heap_alloc _ _ k hk)
          have hsW : OwnSp (w5.alloc (.cells #[.int .i64 4, .string { data := #[] }, .bool neg, .slice A5 n5 c5] 43)) w1.heap.size (.slice A5 n5 c5) sp := ownSp_mono (World.ownsRow.alloc o5 _) hwr
          obtain ⟨v8, w8, hrun, ho8, hb8⟩ := app.out _ ⟨4, [], neg, sp⟩ (.slice A5 n5 c5) hoW hsW hbW
          rw [show (w5.alloc (.cells #[.int .i64 4, .string { data := #[] }, .bool neg, .slice A5 n5 c5] 43)).heap.size = w5.heap.size + 1 from by simp] at hrun
          have Hx3 : Hid (R = (acc ++ [⟨4, [], neg, sp⟩]) ++ compL cs (p + sz)) := Lib.hid (by rw [Hx2.out, List.append_assoc]; rfl)
          clear hit hitm app hby Hx2 ho hoW hsW hbW hbW5 hAr hbk m5 o5 hs5
          go_wp2_with (at_builtin; refine Lib.wpList_append_run _ rfl _ _ _ _ rfl _ _ rfl rfl _ _ hrun ?_)
          go_roundw
          case rel => exact ⟨p + sz, _, by go_num, by omega, by simp; omega, ho8, hb8, Hx3⟩
          case measure => simp [intOf]; omega
    · have hpe : p = cs.length := by omega
      have d1 : decide ((p : Int) < (cs.length : Int)) = false := decide_eq_false (by omega)
      have d1' : decide (p < cs.length) = false := decide_eq_false hlt
      have hR2 : R = acc := by rw [hx.out, compL_end cs p (by omega), List.append_nil]
      subst hR2
      have hfin : OwnIt wr w.heap.size u4 R := ownIt_lower ho.out hw1
      clear hx hpe ho
      go_wp2_with fail
      go_ret
      exact ⟨_, rfl, hfin, m1.trans (hb.mono hw1)⟩
end Go.Proofs.YteppndkhmbhnkaaDoor
