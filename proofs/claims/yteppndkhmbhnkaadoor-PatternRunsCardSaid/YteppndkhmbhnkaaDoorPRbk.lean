/- pattern: the reference's bracket. -/
import Derived.Test.YteppndkhmbhnkaaDoorPRst
import Derived.Laws.AppendOwnNone
import Derived.Lib.AppendZeros
namespace Go.Proofs.YteppndkhmbhnkaaDoor
open Go.RowKit
set_option linter.unusedVariables false

theorem prR_len : ∀ (i : Nat), (prR (classR i)).length ≤ 4 := by
  intro i
  have : ∀ i, i < 8 → (prR (classR i)).length ≤ 4 := by decide
  rcases Nat.lt_or_ge i 8 with h | h
  · exact this i h
  · unfold classR
    rw [List.getD_eq_getElem?_getD, List.getElem?_eq_none (by simpa using h)]
    simp [prR]
theorem refSp_len (d : List Ch) : (refSp d).length ≤ 4 := by
  unfold refSp
  split
  · exact prR_len _
  · split
    · split <;> simp
    · simp
theorem prR_lt : ∀ (rs : List UInt8), ∀ p ∈ prR rs, p.1 < 256 ∧ p.2 < 256
  | [], p, h => by simp [prR] at h
  | [_], p, h => by simp [prR] at h
  | a :: b :: r, p, h => by
    rw [prR] at h
    rcases List.mem_cons.1 h with rfl | h
    · exact ⟨UInt8.toNat_lt a, UInt8.toNat_lt b⟩
    · exact prR_lt r p h
theorem refSp_lt (d : List Ch) : ∀ p ∈ refSp d, p.1 < 256 ∧ p.2 < 256 := by
  intro p hp
  unfold refSp at hp
  split at hp
  · exact prR_lt _ p hp
  · split at hp
    · split at hp
      · simp at hp; subst hp; exact ⟨UInt8.toNat_lt _, UInt8.toNat_lt _⟩
      · simp at hp
    · simp at hp; subst hp; exact ⟨UInt8.toNat_lt _, UInt8.toNat_lt _⟩
def BrkPostR (cs : List Ch) (p : Nat) (w : World) (e : Ending) (w' : World) : Prop :=
  (brk cs p = none ∧ e = .returned (.tuple #[.agg #[.int .i64 0, .string { data := #[] }, .bool false, .slice none 0 0], .int .i64 0, .bool false]) ∨
    ∃ neg sp sz v, brk cs p = some (neg, sp, sz) ∧ e = .returned (.tuple #[.agg #[.int .i64 4, .string { data := #[] }, .bool neg, v], .int .i64 ((p + sz : Nat) : Int), .bool true]) ∧ OwnSp w' w.heap.size v sp) ∧ Below w.heap.size w w'
/-- Spans are appended to fresh spans. -/
theorem spans_app (B : Nat) (w0 w : World) (sv v : Value) (acc l : List (Nat × Nat)) (ho : OwnSp w B sv acc) (hm : MemV w v l) (hb : Below B w0 w) (hB : B ≤ w.heap.size) (hn : acc.length + l.length ≤ 1000000) :
    ∃ v8 w8, (Builtin.append_ #[41, 41] 41 #[sv, v]).run Tryd.prog w = .ok v8 w8 ∧ OwnSp w8 B v8 (acc ++ l) ∧ Below B w0 w8 := by
  obtain ⟨i0, hi, hz0, hz1, hz2⟩ := info_parts spanInfo
  rcases hm with ⟨rfl, rfl⟩ | ⟨b, c, rfl, hbl, hc⟩
  · exact ⟨sv, w, run_append_owned_none w B _ _ 68 i0 2 Tryd.underlying41 hi sv _ _ ho, by rw [List.append_nil]; exact ho, hb⟩
  · have hone : ∀ u ∈ spCells l, u.oneCell' = true := by
      intro u hu
      unfold spCells at hu
      rw [List.mem_flatMap] at hu
      obtain ⟨p, _, h⟩ := hu
      simp at h
      rcases h with rfl | rfl <;> rfl
    have hnews : ∀ j u, (spCells l)[j]? = some u → w.cell? ((⟨b, 0, none⟩ : Addr).add j) = some u := by
      intro j u hu
      have hj : j < l.length * 2 := by
        have := (List.getElem?_eq_some_iff.1 hu).1
        rw [spCells_length] at this
        exact this
      have hk : j / 2 < l.length := by omega
      obtain ⟨g0, g1⟩ := spCells_get l (j / 2) hk
      obtain ⟨c0, c1⟩ := hc (j / 2) hk
      rw [show (⟨b, 0, none⟩ : Addr).add j = ⟨b, j, none⟩ from by simp [Addr.add] <;> omega]
      rcases Nat.mod_two_eq_zero_or_one j with hm | hm
      · have e1 : j / 2 * 2 = j := by omega
        rw [e1] at g0 c0
        rw [g0] at hu
        rw [c0]; exact hu
      · have e1 : j / 2 * 2 + 1 = j := by omega
        rw [e1] at g1 c1
        rw [g1] at hu
        rw [c1]; exact hu
    obtain ⟨v8, w8, hr, ho8, hg, _⟩ := run_append_own w B 41 41 68 i0 _ 2 2 Tryd.underlying41 hi hz0 hz1 hz2 rfl (by decide) sv acc.length _ ho ⟨b, 0, none⟩ l.length c (spCells l) (spCells_length l) hnews hone (by unfold maxLen; omega) (by omega) hB
    refine ⟨v8, w8, hr, ?_, hb.grown hg hB (fun q hq => (World.ownsRow.lt ho q hq).1)⟩
    unfold OwnSp
    rw [List.length_append, spCells_append]
    exact ho8

set_option maxHeartbeats 32000000 in
set_option maxRecDepth 100000 in
theorem bracket_c (A : Option Addr) (cs : List Ch) (c p : Nat) (w : World) (hA : ChAt w w.heap.size A cs) (hc : cs.length ≤ 100000) (hcc : cs.length ≤ c) (hp : p < cs.length) :
    Calls Tryd.prog 55 #[.slice A cs.length c, .int .i64 p] w (BrkPostR cs p w) := by
  have HA := Lib.hid hA
  have h33 : Hid (∀ W, Below w.heap.size w W → Calls Tryd.prog 54 #[.slice A cs.length c, .int .i64 ((p : Int) + 1), .int .u8 33] W fun e w' => e = .returned (.bool (isAt cs (p + 1) 33)) ∧ W = w') := Lib.hid (fun W hW => isR_c A cs c (p + 1) 33 W (chAt_mono (chAt_below HA.out hW (Nat.le_refl _)) hW.size) (by omega) (by omega))
  have h94 : Hid (∀ W, Below w.heap.size w W → Calls Tryd.prog 54 #[.slice A cs.length c, .int .i64 ((p : Int) + 1), .int .u8 94] W fun e w' => e = .returned (.bool (isAt cs (p + 1) 94)) ∧ W = w') := Lib.hid (fun W hW => isR_c A cs c (p + 1) 94 W (chAt_mono (chAt_below HA.out hW (Nat.le_refl _)) hW.size) (by omega) (by omega))
  have h93 : Hid (∀ W i, Below w.heap.size w W → i ≤ cs.length → Calls Tryd.prog 54 #[.slice A cs.length c, .int .i64 i, .int .u8 93] W fun e w' => e = .returned (.bool (isAt cs i 93)) ∧ W = w') := Lib.hid (fun W i hW hi => isR_c A cs c i 93 W (chAt_mono (chAt_below HA.out hW (Nat.le_refl _)) hW.size) (by omega) (by omega))
  have hmem : Hid (∀ W i, Below w.heap.size w W → i < cs.length → Calls Tryd.prog 88 #[.slice A cs.length c, .int .i64 i] W fun e w' => ∃ v, e = .returned (.tuple #[v, .int .i64 ((i + msize (cs.drop i) : Nat) : Int)]) ∧ MemV w' v (refSp (cs.drop i)) ∧ Below W.heap.size W w') := Lib.hid (fun W i hW hi => member_c A cs c i W (chAt_mono (chAt_below HA.out hW (Nat.le_refl _)) hW.size) (by omega) hcc hi)
  clear hA HA
  go_enter Tryd.func55, Tryd.ntmps55
  go_wp2_with fail
  have mZ : Below w.heap.size w (w.alloc (.cells #[.int .i64 0, .string { data := #[] }, .bool false, .slice none 0 0] 43)) := (Below.refl _ _).alloc (Nat.le_refl _) _
  have hZ0 := itemAt_new w 0 (.string { data := #[] }) false (.slice none 0 0) 43
  have hsz1 : (w.alloc (.cells #[.int .i64 0, .string { data := #[] }, .bool false, .slice none 0 0] 43)).heap.size = w.heap.size + 1 := by simp
  generalize w.alloc (.cells #[.int .i64 0, .string { data := #[] }, .bool false, .slice none 0 0] 43) = wz at *
  have mI : Below wz.heap.size wz (wz.alloc (.cells #[.int .i64 4, .string { data := #[] }, .bool false, .slice none 0 0] 43)) := (Below.refl _ _).alloc (Nat.le_refl _) _
  have hI0 := itemAt_new wz 4 (.string { data := #[] }) false (.slice none 0 0) 43
  have hZ1 := itemAt_below hZ0 mI hZ0.1
  have hb0 := mZ.trans (mI.mono mZ.size)
  rw [hsz1] at hI0
  have hsz2 : w.heap.size + 2 ≤ (wz.alloc (.cells #[.int .i64 4, .string { data := #[] }, .bool false, .slice none 0 0] 43)).heap.size := by have := hI0.1; omega
  generalize wz.alloc (.cells #[.int .i64 4, .string { data := #[] }, .bool false, .slice none 0 0] 43) = w0 at *
  clear mZ hZ0 mI hsz1
  with_reducible refine (h33.out w0 hb0).mono ?_
  rintro e w1 ⟨rfl, rfl⟩
  rcases hQ1 : isAt cs (p + 1) 33 with _ | _
  · go_wp2_with fail
    refine (h94.out w0 hb0).mono ?_
    rintro e w1 ⟨rfl, rfl⟩
    rcases hQ2 : isAt cs (p + 1) 94 with _ | _
    · have hneg : negAt cs p = false := by unfold negAt; rw [hQ1, hQ2]; rfl
      clear hQ1 hQ2
      have hbB := hb0
      obtain ⟨wB, hwB⟩ : ∃ x, x = w0 := ⟨_, rfl⟩
      subst hwB
      clear h33 h94
      have hf : firstAt cs p = p + 1 := by unfold firstAt; rw [hneg]; rfl
      have HF := Lib.hid hf
      have HN := Lib.hid hneg
      clear hf hneg
      have HZ := Lib.hid hZ1; have HI := Lib.hid hI0
      clear hZ1 hI0
      go_wp2_with fail
      go_loopw [8, 9, 10] (fun iv sv fv wr => ∃ (i : Nat) (acc : List (Nat × Nat)) (first : Bool), iv = .int .i64 i ∧ i ≤ cs.length + 1 ∧ (first = false → i ≤ cs.length) ∧ fv = .bool first ∧ acc.length ≤ 4 * i ∧ Hid (OwnSp wr (w.heap.size + 2) sv acc) ∧ Below (w.heap.size + 2) wB wr ∧ Hid (BrkInv cs (p + 1) first i acc) ∧ Hid (∀ q ∈ acc, q.1 < 256 ∧ q.2 < 256)) (fun iv _ _ _ => cs.length + 1 - (intOf iv).toNat)
      case atStart => exact ⟨p + 1, [], true, by first | rfl | go_num, by omega, fun h => by simp at h, rfl, by simp, Lib.hid ⟨rfl, .inl ⟨rfl, rfl⟩⟩, Below.refl _ _, Lib.hid (.inl ⟨rfl, rfl, rfl⟩), Lib.hid (by simp)⟩
      case round =>
        obtain ⟨i, acc, first, rfl, hi1, hi2, rfl, hal, ho, hbr, hinv, hacc⟩ := hrel
        have hwr := hbr.size
        have hbw : Below w.heap.size w wr := hbB.trans (hbr.mono (by omega))
        by_cases hlt : i < cs.length
        · have d1 : decide ((i : Int) < (cs.length : Int)) = true := decide_eq_true (by omega)
          have d1' : decide (i < cs.length) = true := decide_eq_true hlt
          -- one more member
          have more : Hid ((first = true ∨ isAt cs i 93 = false) → Hid (BrkInv cs (p + 1) false (i + msize (cs.drop i)) (acc ++ refSp (cs.drop i))) ∧ i + msize (cs.drop i) ≤ cs.length ∧ (acc ++ refSp (cs.drop i)).length ≤ 4 * (i + msize (cs.drop i)) ∧ 0 < msize (cs.drop i) ∧ Hid (∀ q ∈ acc ++ refSp (cs.drop i), q.1 < 256 ∧ q.2 < 256)) := Lib.hid (fun h => by
            have hpos := msize_pos (cs.drop i)
            have hle := msize_le (cs.drop i) (by intro h; have := congrArg List.length h; rw [List.length_drop] at this; simp at this; omega)
            rw [List.length_drop] at hle
            have h4 := refSp_len (cs.drop i)
            refine ⟨Lib.hid (brkInv_step hinv.out hlt h), by omega, by rw [List.length_append]; omega, hpos, Lib.hid (fun q hq => ?_)⟩
            rcases List.mem_append.1 hq with g | g
            · exact hacc.out q g
            · exact refSp_lt _ q g)
          have Hmem := Lib.hid (hmem.out wr i hbw hlt)
          have H93 := Lib.hid (h93.out wr i hbw (by omega))
          have app : Hid (∀ w7 v, Below wr.heap.size wr w7 → MemV w7 v (refSp (cs.drop i)) → ∃ v8 w8, (Builtin.append_ #[41, 41] 41 #[u9, v]).run Tryd.prog w7 = .ok v8 w8 ∧ OwnSp w8 (w.heap.size + 2) v8 (acc ++ refSp (cs.drop i)) ∧ Below (w.heap.size + 2) wB w8) := Lib.hid (fun w7 v hW hm => by
            have h7 : OwnSp w7 (w.heap.size + 2) u9 acc := ownSp_kept ho.out (fun k hk => hW.block k hk)
            have h4 := refSp_len (cs.drop i)
            have hs := hW.size
            exact spans_app (w.heap.size + 2) wB w7 u9 v acc _ h7 hm (hbr.trans (hW.mono (by omega))) (by omega) (by omega))
          have ended : Hid (first = false → isAt cs i 93 = true → brk cs p = some (false, spL (inSp acc) 256, i + 1 - p)) := Lib.hid (fun h1 h2 => by
            subst h1
            have h0 := hinv.out
            rw [← HF.out] at h0
            have := brk_some h0 hlt h2
            rw [HN.out] at this
            exact this)
          have hpi : Hid (first = false → p + 1 ≤ i) := Lib.hid (fun h1 => by
            rcases hinv.out with ⟨h, _⟩ | ⟨_, _, _, h, _⟩
            · rw [h1] at h; cases h
            · omega)
          clear hinv
          rcases first with _ | _
          · rcases h9 : isAt cs i 93 with _ | _
            · rw [h9] at H93
              obtain ⟨n1, n2, n3, n4, n5⟩ := more.out (.inr h9)
              clear more ended hacc ho h9 hpi
              generalize msize (cs.drop i) = M at *
              generalize refSp (cs.drop i) = RS at *
              go_wp2_with fail
              refine H93.out.mono ?_
              rintro e w7 ⟨rfl, rfl⟩
              go_wp2_with fail
              refine Hmem.out.mono ?_
              rintro e w7 ⟨v7, rfl, hm7, b7⟩
              obtain ⟨v8, w8, hrun, ho8, hb8⟩ := app.out w7 v7 b7 hm7
              have Ho8 := Lib.hid ho8
              clear app Hmem H93 hm7 b7 ho8
              go_wp2_with (at_builtin; refine Lib.wpList_append_run _ rfl _ _ _ _ rfl _ _ rfl rfl _ _ hrun ?_)
              go_roundw
              case rel => exact ⟨i + M, acc ++ RS, false, by go_num, by omega, fun _ => n2, rfl, n3, Ho8, hb8, n1, n5⟩
              case measure => simp [intOf]; omega
            · rw [h9] at H93
              have Hend := Lib.hid (ended.out rfl h9)
              have hpi1 := hpi.out rfl
              have hset := Lib.hid (set_c u9 acc wr (ownSp_at ho.out) (by omega) hacc.out)
              clear more ended app Hmem h9 hpi ho hacc
              have j3 : decide ((cs.length : Int) ≤ (i : Int)) = false := decide_eq_false (by omega)
              have j3' : decide (cs.length ≤ i) = false := decide_eq_false (by omega)
              go_wp2_with fail
              refine H93.out.mono ?_
              rintro e w7 ⟨rfl, rfl⟩
              clear H93
              go_wp2_with fail
              refine hset.out.mono ?_
              rintro e w9 ⟨v9, rfl, o9, m9⟩
              obtain ⟨A9, n9, c9, rfl⟩ := ownSp_form o9
              have b9 := hbr.trans (m9.mono (by omega))
              have hz9 := itemAt_below HZ.out b9 (by omega)
              have hit9 := itemAt_below HI.out b9 (by omega)
              have hb9 := hbw.trans (m9.mono (by omega))
              obtain ⟨_, zf, z0, z1, z2, z3⟩ := hz9
              have zf0 := zf 0; have zf1 := zf 1; have zf2 := zf 2; have zf3 := zf 3
              obtain ⟨_, yf, y0, y1, y2, y3⟩ := hit9
              have yf3 := yf 3
              clear zf yf hset b9
              have hne : w.heap.size ≠ w.heap.size + 1 := by omega
              have O9k : Hid (∀ (u0 u1 u2 u3 u4 : Value), OwnSp (((((w9.setCell ⟨w.heap.size + 1, 3, none⟩ u0).setCell ⟨w.heap.size, 0, none⟩ u1).setCell ⟨w.heap.size, 1, none⟩ u2).setCell ⟨w.heap.size, 2, none⟩ u3).setCell ⟨w.heap.size, 3, none⟩ u4) w.heap.size (.slice A9 n9 c9) (spL (inSp acc) 256)) := Lib.hid (by
                intro u0 u1 u2 u3 u4
                exact ownSp_mono (ownSp_set (ownSp_set (ownSp_set (ownSp_set (ownSp_set o9 (by omega) u0) (by omega) u1) (by omega) u2) (by omega) u3) (by omega) u4) (by omega))
              have Hj7 : Hid ((i : Int) + 1 = ((p + (i + 1 - p) : Nat) : Int)) := Lib.hid (by omega)
              clear o9
              go_wp2_with fail
              refine bodyPost_ret (v := .tuple #[.agg #[.int .i64 4, .string { data := #[] }, .bool false, .slice A9 n9 c9], .int .i64 ((i : Int) + 1), .bool true]) (by simp [results, Tryd.results55, go_sem, z0, z1, z2, z3]) rfl ⟨.inr ⟨_, _, _, _, Hend.out, by rw [Hj7.out], O9k.out _ _ _ _ _⟩, ?_⟩
              exact ((((hb9.setCell (p := ⟨w.heap.size + 1, 3, none⟩) (Nat.le_succ _) _).setCell (p := ⟨w.heap.size, 0, none⟩) (Nat.le_refl _) _).setCell (p := ⟨w.heap.size, 1, none⟩) (Nat.le_refl _) _).setCell (p := ⟨w.heap.size, 2, none⟩) (Nat.le_refl _) _).setCell (p := ⟨w.heap.size, 3, none⟩) (Nat.le_refl _) _
          · obtain ⟨n1, n2, n3, n4, n5⟩ := more.out (.inl rfl)
            clear more ended hacc ho hpi H93
            generalize msize (cs.drop i) = M at *
            generalize refSp (cs.drop i) = RS at *
            go_wp2_with fail
            refine Hmem.out.mono ?_
            rintro e w7 ⟨v7, rfl, hm7, b7⟩
            obtain ⟨v8, w8, hrun, ho8, hb8⟩ := app.out w7 v7 b7 hm7
            have Ho8 := Lib.hid ho8
            clear app Hmem hm7 b7 ho8
            go_wp2_with (at_builtin; refine Lib.wpList_append_run _ rfl _ _ _ _ rfl _ _ rfl rfl _ _ hrun ?_)
            go_roundw
            case rel => exact ⟨i + M, acc ++ RS, false, by go_num, by omega, fun _ => n2, rfl, n3, Ho8, hb8, n1, n5⟩
            case measure => simp [intOf]; omega
        · have d1 : decide ((i : Int) < (cs.length : Int)) = false := decide_eq_false (by omega)
          have d1' : decide (i < cs.length) = false := decide_eq_false hlt
          have j3 : decide ((cs.length : Int) ≤ (i : Int)) = true := decide_eq_true (by omega)
          have j3' : decide (cs.length ≤ i) = true := decide_eq_true (by omega)
          have hbr0 : brk cs p = none := by
            have h0 := hinv.out
            rw [← HF.out] at h0
            exact brk_none h0 (by omega)
          have Hbr0 := Lib.hid hbr0
          have hz9 := itemAt_below HZ.out hbr (by omega)
          obtain ⟨_, zf, z0, z1, z2, z3⟩ := hz9
          have zf0 := zf 0; have zf1 := zf 1; have zf2 := zf 2; have zf3 := zf 3
          clear zf hinv hbr0 ho hacc h93 hmem
          go_wp2_with fail
          refine bodyPost_ret (v := .tuple #[.agg #[.int .i64 0, .string { data := #[] }, .bool false, .slice none 0 0], .int .i64 0, .bool false]) (by simp [results, Tryd.results55, go_sem, z0, z1, z2, z3]) rfl ⟨.inl ⟨Hbr0.out, rfl⟩, ?_⟩
          exact (((hbw.setCell (p := ⟨w.heap.size, 0, none⟩) (Nat.le_refl _) _).setCell (p := ⟨w.heap.size, 1, none⟩) (Nat.le_refl _) _).setCell (p := ⟨w.heap.size, 2, none⟩) (Nat.le_refl _) _).setCell (p := ⟨w.heap.size, 3, none⟩) (Nat.le_refl _) _
    · have hneg : negAt cs p = true := by unfold negAt; rw [hQ1, hQ2]; rfl
      clear hQ1 hQ2
      clear h33 h94
      have hf : firstAt cs p = p + 2 := by unfold firstAt; rw [hneg]; rfl
      have HF := Lib.hid hf
      have HN := Lib.hid hneg
      clear hf hneg
      obtain ⟨_, yf, y0, y1, y2, y3⟩ := hI0
      have yf2 := yf 2
      have hI9 := itemAt_neg (D := w.heap.size + 1) ⟨by omega, yf, y0, y1, y2, y3⟩ true
      have hZ9 := itemAt_other (D2 := w.heap.size + 1) (i := 2) (x := .bool true) hZ1 (by omega)
      have hbB := hb0.setCell (p := ⟨w.heap.size + 1, 2, none⟩) (Nat.le_succ _) (.bool true)
      have hsz9 : w.heap.size + 2 ≤ (w0.setCell ⟨w.heap.size + 1, 2, none⟩ (.bool true)).heap.size := by simpa using hsz2
      clear yf y0 y1 y3 hZ1 hb0 hsz2
      have HZ := Lib.hid hZ9; have HI := Lib.hid hI9
      clear hZ9 hI9
      go_wp2_with fail
      clear y2 yf2
      generalize w0.setCell ⟨w.heap.size + 1, 2, none⟩ (.bool true) = wB at *
      go_loopw [8, 9, 10] (fun iv sv fv wr => ∃ (i : Nat) (acc : List (Nat × Nat)) (first : Bool), iv = .int .i64 i ∧ i ≤ cs.length + 1 ∧ (first = false → i ≤ cs.length) ∧ fv = .bool first ∧ acc.length ≤ 4 * i ∧ Hid (OwnSp wr (w.heap.size + 2) sv acc) ∧ Below (w.heap.size + 2) wB wr ∧ Hid (BrkInv cs (p + 2) first i acc) ∧ Hid (∀ q ∈ acc, q.1 < 256 ∧ q.2 < 256)) (fun iv _ _ _ => cs.length + 1 - (intOf iv).toNat)
      case atStart => exact ⟨p + 2, [], true, by first | rfl | go_num, by omega, fun h => by simp at h, rfl, by simp, Lib.hid ⟨rfl, .inl ⟨rfl, rfl⟩⟩, Below.refl _ _, Lib.hid (.inl ⟨rfl, rfl, rfl⟩), Lib.hid (by simp)⟩
      case round =>
        obtain ⟨i, acc, first, rfl, hi1, hi2, rfl, hal, ho, hbr, hinv, hacc⟩ := hrel
        have hwr := hbr.size
        have hbw : Below w.heap.size w wr := hbB.trans (hbr.mono (by omega))
        by_cases hlt : i < cs.length
        · have d1 : decide ((i : Int) < (cs.length : Int)) = true := decide_eq_true (by omega)
          have d1' : decide (i < cs.length) = true := decide_eq_true hlt
          -- one more member
          have more : Hid ((first = true ∨ isAt cs i 93 = false) → Hid (BrkInv cs (p + 2) false (i + msize (cs.drop i)) (acc ++ refSp (cs.drop i))) ∧ i + msize (cs.drop i) ≤ cs.length ∧ (acc ++ refSp (cs.drop i)).length ≤ 4 * (i + msize (cs.drop i)) ∧ 0 < msize (cs.drop i) ∧ Hid (∀ q ∈ acc ++ refSp (cs.drop i), q.1 < 256 ∧ q.2 < 256)) := Lib.hid (fun h => by
            have hpos := msize_pos (cs.drop i)
            have hle := msize_le (cs.drop i) (by intro h; have := congrArg List.length h; rw [List.length_drop] at this; simp at this; omega)
            rw [List.length_drop] at hle
            have h4 := refSp_len (cs.drop i)
            refine ⟨Lib.hid (brkInv_step hinv.out hlt h), by omega, by rw [List.length_append]; omega, hpos, Lib.hid (fun q hq => ?_)⟩
            rcases List.mem_append.1 hq with g | g
            · exact hacc.out q g
            · exact refSp_lt _ q g)
          have Hmem := Lib.hid (hmem.out wr i hbw hlt)
          have H93 := Lib.hid (h93.out wr i hbw (by omega))
          have app : Hid (∀ w7 v, Below wr.heap.size wr w7 → MemV w7 v (refSp (cs.drop i)) → ∃ v8 w8, (Builtin.append_ #[41, 41] 41 #[u9, v]).run Tryd.prog w7 = .ok v8 w8 ∧ OwnSp w8 (w.heap.size + 2) v8 (acc ++ refSp (cs.drop i)) ∧ Below (w.heap.size + 2) wB w8) := Lib.hid (fun w7 v hW hm => by
            have h7 : OwnSp w7 (w.heap.size + 2) u9 acc := ownSp_kept ho.out (fun k hk => hW.block k hk)
            have h4 := refSp_len (cs.drop i)
            have hs := hW.size
            exact spans_app (w.heap.size + 2) wB w7 u9 v acc _ h7 hm (hbr.trans (hW.mono (by omega))) (by omega) (by omega))
          have ended : Hid (first = false → isAt cs i 93 = true → brk cs p = some (true, spL (inSp acc) 256, i + 1 - p)) := Lib.hid (fun h1 h2 => by
            subst h1
            have h0 := hinv.out
            rw [← HF.out] at h0
            have := brk_some h0 hlt h2
            rw [HN.out] at this
            exact this)
          have hpi : Hid (first = false → p + 1 ≤ i) := Lib.hid (fun h1 => by
            rcases hinv.out with ⟨h, _⟩ | ⟨_, _, _, h, _⟩
            · rw [h1] at h; cases h
            · omega)
          clear hinv
          rcases first with _ | _
          · rcases h9 : isAt cs i 93 with _ | _
            · rw [h9] at H93
              obtain ⟨n1, n2, n3, n4, n5⟩ := more.out (.inr h9)
              clear more ended hacc ho h9 hpi
              generalize msize (cs.drop i) = M at *
              generalize refSp (cs.drop i) = RS at *
              go_wp2_with fail
              refine H93.out.mono ?_
              rintro e w7 ⟨rfl, rfl⟩
              go_wp2_with fail
              refine Hmem.out.mono ?_
              rintro e w7 ⟨v7, rfl, hm7, b7⟩
              obtain ⟨v8, w8, hrun, ho8, hb8⟩ := app.out w7 v7 b7 hm7
              have Ho8 := Lib.hid ho8
              clear app Hmem H93 hm7 b7 ho8
              go_wp2_with (at_builtin; refine Lib.wpList_append_run _ rfl _ _ _ _ rfl _ _ rfl rfl _ _ hrun ?_)
              go_roundw
              case rel => exact ⟨i + M, acc ++ RS, false, by go_num, by omega, fun _ => n2, rfl, n3, Ho8, hb8, n1, n5⟩
              case measure => simp [intOf]; omega
            · rw [h9] at H93
              have Hend := Lib.hid (ended.out rfl h9)
              have hpi1 := hpi.out rfl
              have hset := Lib.hid (set_c u9 acc wr (ownSp_at ho.out) (by omega) hacc.out)
              clear more ended app Hmem h9 hpi ho hacc
              have j3 : decide ((cs.length : Int) ≤ (i : Int)) = false := decide_eq_false (by omega)
              have j3' : decide (cs.length ≤ i) = false := decide_eq_false (by omega)
              go_wp2_with fail
              refine H93.out.mono ?_
              rintro e w7 ⟨rfl, rfl⟩
              clear H93
              go_wp2_with fail
              refine hset.out.mono ?_
              rintro e w9 ⟨v9, rfl, o9, m9⟩
              obtain ⟨A9, n9, c9, rfl⟩ := ownSp_form o9
              have b9 := hbr.trans (m9.mono (by omega))
              have hz9 := itemAt_below HZ.out b9 (by omega)
              have hit9 := itemAt_below HI.out b9 (by omega)
              have hb9 := hbw.trans (m9.mono (by omega))
              obtain ⟨_, zf, z0, z1, z2, z3⟩ := hz9
              have zf0 := zf 0; have zf1 := zf 1; have zf2 := zf 2; have zf3 := zf 3
              obtain ⟨_, yf, y0, y1, y2, y3⟩ := hit9
              have yf3 := yf 3
              clear zf yf hset b9
              have hne : w.heap.size ≠ w.heap.size + 1 := by omega
              have O9k : Hid (∀ (u0 u1 u2 u3 u4 : Value), OwnSp (((((w9.setCell ⟨w.heap.size + 1, 3, none⟩ u0).setCell ⟨w.heap.size, 0, none⟩ u1).setCell ⟨w.heap.size, 1, none⟩ u2).setCell ⟨w.heap.size, 2, none⟩ u3).setCell ⟨w.heap.size, 3, none⟩ u4) w.heap.size (.slice A9 n9 c9) (spL (inSp acc) 256)) := Lib.hid (by
                intro u0 u1 u2 u3 u4
                exact ownSp_mono (ownSp_set (ownSp_set (ownSp_set (ownSp_set (ownSp_set o9 (by omega) u0) (by omega) u1) (by omega) u2) (by omega) u3) (by omega) u4) (by omega))
              have Hj7 : Hid ((i : Int) + 1 = ((p + (i + 1 - p) : Nat) : Int)) := Lib.hid (by omega)
              clear o9
              go_wp2_with fail
              refine bodyPost_ret (v := .tuple #[.agg #[.int .i64 4, .string { data := #[] }, .bool true, .slice A9 n9 c9], .int .i64 ((i : Int) + 1), .bool true]) (by simp [results, Tryd.results55, go_sem, z0, z1, z2, z3]) rfl ⟨.inr ⟨_, _, _, _, Hend.out, by rw [Hj7.out], O9k.out _ _ _ _ _⟩, ?_⟩
              exact ((((hb9.setCell (p := ⟨w.heap.size + 1, 3, none⟩) (Nat.le_succ _) _).setCell (p := ⟨w.heap.size, 0, none⟩) (Nat.le_refl _) _).setCell (p := ⟨w.heap.size, 1, none⟩) (Nat.le_refl _) _).setCell (p := ⟨w.heap.size, 2, none⟩) (Nat.le_refl _) _).setCell (p := ⟨w.heap.size, 3, none⟩) (Nat.le_refl _) _
          · obtain ⟨n1, n2, n3, n4, n5⟩ := more.out (.inl rfl)
            clear more ended hacc ho hpi H93
            generalize msize (cs.drop i) = M at *
            generalize refSp (cs.drop i) = RS at *
            go_wp2_with fail
            refine Hmem.out.mono ?_
            rintro e w7 ⟨v7, rfl, hm7, b7⟩
            obtain ⟨v8, w8, hrun, ho8, hb8⟩ := app.out w7 v7 b7 hm7
            have Ho8 := Lib.hid ho8
            clear app Hmem hm7 b7 ho8
            go_wp2_with (at_builtin; refine Lib.wpList_append_run _ rfl _ _ _ _ rfl _ _ rfl rfl _ _ hrun ?_)
            go_roundw
            case rel => exact ⟨i + M, acc ++ RS, false, by go_num, by omega, fun _ => n2, rfl, n3, Ho8, hb8, n1, n5⟩
            case measure => simp [intOf]; omega
        · have d1 : decide ((i : Int) < (cs.length : Int)) = false := decide_eq_false (by omega)
          have d1' : decide (i < cs.length) = false := decide_eq_false hlt
          have j3 : decide ((cs.length : Int) ≤ (i : Int)) = true := decide_eq_true (by omega)
          have j3' : decide (cs.length ≤ i) = true := decide_eq_true (by omega)
          have hbr0 : brk cs p = none := by
            have h0 := hinv.out
            rw [← HF.out] at h0
            exact brk_none h0 (by omega)
          have Hbr0 := Lib.hid hbr0
          have hz9 := itemAt_below HZ.out hbr (by omega)
          obtain ⟨_, zf, z0, z1, z2, z3⟩ := hz9
          have zf0 := zf 0; have zf1 := zf 1; have zf2 := zf 2; have zf3 := zf 3
          clear zf hinv hbr0 ho hacc h93 hmem
          go_wp2_with fail
          refine bodyPost_ret (v := .tuple #[.agg #[.int .i64 0, .string { data := #[] }, .bool false, .slice none 0 0], .int .i64 0, .bool false]) (by simp [results, Tryd.results55, go_sem, z0, z1, z2, z3]) rfl ⟨.inl ⟨Hbr0.out, rfl⟩, ?_⟩
          exact (((hbw.setCell (p := ⟨w.heap.size, 0, none⟩) (Nat.le_refl _) _).setCell (p := ⟨w.heap.size, 1, none⟩) (Nat.le_refl _) _).setCell (p := ⟨w.heap.size, 2, none⟩) (Nat.le_refl _) _).setCell (p := ⟨w.heap.size, 3, none⟩) (Nat.le_refl _) _
  · have hneg : negAt cs p = true := by unfold negAt; rw [hQ1]; rfl
    clear hQ1
    clear h33 h94
    have hf : firstAt cs p = p + 2 := by unfold firstAt; rw [hneg]; rfl
    have HF := Lib.hid hf
    have HN := Lib.hid hneg
    clear hf hneg
    obtain ⟨_, yf, y0, y1, y2, y3⟩ := hI0
    have yf2 := yf 2
    have hI9 := itemAt_neg (D := w.heap.size + 1) ⟨by omega, yf, y0, y1, y2, y3⟩ true
    have hZ9 := itemAt_other (D2 := w.heap.size + 1) (i := 2) (x := .bool true) hZ1 (by omega)
    have hbB := hb0.setCell (p := ⟨w.heap.size + 1, 2, none⟩) (Nat.le_succ _) (.bool true)
    have hsz9 : w.heap.size + 2 ≤ (w0.setCell ⟨w.heap.size + 1, 2, none⟩ (.bool true)).heap.size := by simpa using hsz2
    clear yf y0 y1 y3 hZ1 hb0 hsz2
    have HZ := Lib.hid hZ9; have HI := Lib.hid hI9
    clear hZ9 hI9
    go_wp2_with fail
    clear y2 yf2
    generalize w0.setCell ⟨w.heap.size + 1, 2, none⟩ (.bool true) = wB at *
    go_loopw [8, 9, 10] (fun iv sv fv wr => ∃ (i : Nat) (acc : List (Nat × Nat)) (first : Bool), iv = .int .i64 i ∧ i ≤ cs.length + 1 ∧ (first = false → i ≤ cs.length) ∧ fv = .bool first ∧ acc.length ≤ 4 * i ∧ Hid (OwnSp wr (w.heap.size + 2) sv acc) ∧ Below (w.heap.size + 2) wB wr ∧ Hid (BrkInv cs (p + 2) first i acc) ∧ Hid (∀ q ∈ acc, q.1 < 256 ∧ q.2 < 256)) (fun iv _ _ _ => cs.length + 1 - (intOf iv).toNat)
    case atStart => exact ⟨p + 2, [], true, by first | rfl | go_num, by omega, fun h => by simp at h, rfl, by simp, Lib.hid ⟨rfl, .inl ⟨rfl, rfl⟩⟩, Below.refl _ _, Lib.hid (.inl ⟨rfl, rfl, rfl⟩), Lib.hid (by simp)⟩
    case round =>
      obtain ⟨i, acc, first, rfl, hi1, hi2, rfl, hal, ho, hbr, hinv, hacc⟩ := hrel
      have hwr := hbr.size
      have hbw : Below w.heap.size w wr := hbB.trans (hbr.mono (by omega))
      by_cases hlt : i < cs.length
      · have d1 : decide ((i : Int) < (cs.length : Int)) = true := decide_eq_true (by omega)
        have d1' : decide (i < cs.length) = true := decide_eq_true hlt
        -- one more member
        have more : Hid ((first = true ∨ isAt cs i 93 = false) → Hid (BrkInv cs (p + 2) false (i + msize (cs.drop i)) (acc ++ refSp (cs.drop i))) ∧ i + msize (cs.drop i) ≤ cs.length ∧ (acc ++ refSp (cs.drop i)).length ≤ 4 * (i + msize (cs.drop i)) ∧ 0 < msize (cs.drop i) ∧ Hid (∀ q ∈ acc ++ refSp (cs.drop i), q.1 < 256 ∧ q.2 < 256)) := Lib.hid (fun h => by
          have hpos := msize_pos (cs.drop i)
          have hle := msize_le (cs.drop i) (by intro h; have := congrArg List.length h; rw [List.length_drop] at this; simp at this; omega)
          rw [List.length_drop] at hle
          have h4 := refSp_len (cs.drop i)
          refine ⟨Lib.hid (brkInv_step hinv.out hlt h), by omega, by rw [List.length_append]; omega, hpos, Lib.hid (fun q hq => ?_)⟩
          rcases List.mem_append.1 hq with g | g
          · exact hacc.out q g
          · exact refSp_lt _ q g)
        have Hmem := Lib.hid (hmem.out wr i hbw hlt)
        have H93 := Lib.hid (h93.out wr i hbw (by omega))
        have app : Hid (∀ w7 v, Below wr.heap.size wr w7 → MemV w7 v (refSp (cs.drop i)) → ∃ v8 w8, (Builtin.append_ #[41, 41] 41 #[u9, v]).run Tryd.prog w7 = .ok v8 w8 ∧ OwnSp w8 (w.heap.size + 2) v8 (acc ++ refSp (cs.drop i)) ∧ Below (w.heap.size + 2) wB w8) := Lib.hid (fun w7 v hW hm => by
          have h7 : OwnSp w7 (w.heap.size + 2) u9 acc := ownSp_kept ho.out (fun k hk => hW.block k hk)
          have h4 := refSp_len (cs.drop i)
          have hs := hW.size
          exact spans_app (w.heap.size + 2) wB w7 u9 v acc _ h7 hm (hbr.trans (hW.mono (by omega))) (by omega) (by omega))
        have ended : Hid (first = false → isAt cs i 93 = true → brk cs p = some (true, spL (inSp acc) 256, i + 1 - p)) := Lib.hid (fun h1 h2 => by
          subst h1
          have h0 := hinv.out
          rw [← HF.out] at h0
          have := brk_some h0 hlt h2
          rw [HN.out] at this
          exact this)
        have hpi : Hid (first = false → p + 1 ≤ i) := Lib.hid (fun h1 => by
          rcases hinv.out with ⟨h, _⟩ | ⟨_, _, _, h, _⟩
          · rw [h1] at h; cases h
          · omega)
        clear hinv
        rcases first with _ | _
        · rcases h9 : isAt cs i 93 with _ | _
          · rw [h9] at H93
            obtain ⟨n1, n2, n3, n4, n5⟩ := more.out (.inr h9)
            clear more ended hacc ho h9 hpi
            generalize msize (cs.drop i) = M at *
            generalize refSp (cs.drop i) = RS at *
            go_wp2_with fail
            refine H93.out.mono ?_
            rintro e w7 ⟨rfl, rfl⟩
            go_wp2_with fail
            refine Hmem.out.mono ?_
            rintro e w7 ⟨v7, rfl, hm7, b7⟩
            obtain ⟨v8, w8, hrun, ho8, hb8⟩ := app.out w7 v7 b7 hm7
            have Ho8 := Lib.hid ho8
            clear app Hmem H93 hm7 b7 ho8
            go_wp2_with (at_builtin; refine Lib.wpList_append_run _ rfl _ _ _ _ rfl _ _ rfl rfl _ _ hrun ?_)
            go_roundw
            case rel => exact ⟨i + M, acc ++ RS, false, by go_num, by omega, fun _ => n2, rfl, n3, Ho8, hb8, n1, n5⟩
            case measure => simp [intOf]; omega
          · rw [h9] at H93
            have Hend := Lib.hid (ended.out rfl h9)
            have hpi1 := hpi.out rfl
            have hset := Lib.hid (set_c u9 acc wr (ownSp_at ho.out) (by omega) hacc.out)
            clear more ended app Hmem h9 hpi ho hacc
            have j3 : decide ((cs.length : Int) ≤ (i : Int)) = false := decide_eq_false (by omega)
            have j3' : decide (cs.length ≤ i) = false := decide_eq_false (by omega)
            go_wp2_with fail
            refine H93.out.mono ?_
            rintro e w7 ⟨rfl, rfl⟩
            clear H93
            go_wp2_with fail
            refine hset.out.mono ?_
            rintro e w9 ⟨v9, rfl, o9, m9⟩
            obtain ⟨A9, n9, c9, rfl⟩ := ownSp_form o9
            have b9 := hbr.trans (m9.mono (by omega))
            have hz9 := itemAt_below HZ.out b9 (by omega)
            have hit9 := itemAt_below HI.out b9 (by omega)
            have hb9 := hbw.trans (m9.mono (by omega))
            obtain ⟨_, zf, z0, z1, z2, z3⟩ := hz9
            have zf0 := zf 0; have zf1 := zf 1; have zf2 := zf 2; have zf3 := zf 3
            obtain ⟨_, yf, y0, y1, y2, y3⟩ := hit9
            have yf3 := yf 3
            clear zf yf hset b9
            have hne : w.heap.size ≠ w.heap.size + 1 := by omega
            have O9k : Hid (∀ (u0 u1 u2 u3 u4 : Value), OwnSp (((((w9.setCell ⟨w.heap.size + 1, 3, none⟩ u0).setCell ⟨w.heap.size, 0, none⟩ u1).setCell ⟨w.heap.size, 1, none⟩ u2).setCell ⟨w.heap.size, 2, none⟩ u3).setCell ⟨w.heap.size, 3, none⟩ u4) w.heap.size (.slice A9 n9 c9) (spL (inSp acc) 256)) := Lib.hid (by
              intro u0 u1 u2 u3 u4
              exact ownSp_mono (ownSp_set (ownSp_set (ownSp_set (ownSp_set (ownSp_set o9 (by omega) u0) (by omega) u1) (by omega) u2) (by omega) u3) (by omega) u4) (by omega))
            have Hj7 : Hid ((i : Int) + 1 = ((p + (i + 1 - p) : Nat) : Int)) := Lib.hid (by omega)
            clear o9
            go_wp2_with fail
            refine bodyPost_ret (v := .tuple #[.agg #[.int .i64 4, .string { data := #[] }, .bool true, .slice A9 n9 c9], .int .i64 ((i : Int) + 1), .bool true]) (by simp [results, Tryd.results55, go_sem, z0, z1, z2, z3]) rfl ⟨.inr ⟨_, _, _, _, Hend.out, by rw [Hj7.out], O9k.out _ _ _ _ _⟩, ?_⟩
            exact ((((hb9.setCell (p := ⟨w.heap.size + 1, 3, none⟩) (Nat.le_succ _) _).setCell (p := ⟨w.heap.size, 0, none⟩) (Nat.le_refl _) _).setCell (p := ⟨w.heap.size, 1, none⟩) (Nat.le_refl _) _).setCell (p := ⟨w.heap.size, 2, none⟩) (Nat.le_refl _) _).setCell (p := ⟨w.heap.size, 3, none⟩) (Nat.le_refl _) _
        · obtain ⟨n1, n2, n3, n4, n5⟩ := more.out (.inl rfl)
          clear more ended hacc ho hpi H93
          generalize msize (cs.drop i) = M at *
          generalize refSp (cs.drop i) = RS at *
          go_wp2_with fail
          refine Hmem.out.mono ?_
          rintro e w7 ⟨v7, rfl, hm7, b7⟩
          obtain ⟨v8, w8, hrun, ho8, hb8⟩ := app.out w7 v7 b7 hm7
          have Ho8 := Lib.hid ho8
          clear app Hmem hm7 b7 ho8
          go_wp2_with (at_builtin; refine Lib.wpList_append_run _ rfl _ _ _ _ rfl _ _ rfl rfl _ _ hrun ?_)
          go_roundw
          case rel => exact ⟨i + M, acc ++ RS, false, by go_num, by omega, fun _ => n2, rfl, n3, Ho8, hb8, n1, n5⟩
          case measure => simp [intOf]; omega
      · have d1 : decide ((i : Int) < (cs.length : Int)) = false := decide_eq_false (by omega)
        have d1' : decide (i < cs.length) = false := decide_eq_false hlt
        have j3 : decide ((cs.length : Int) ≤ (i : Int)) = true := decide_eq_true (by omega)
        have j3' : decide (cs.length ≤ i) = true := decide_eq_true (by omega)
        have hbr0 : brk cs p = none := by
          have h0 := hinv.out
          rw [← HF.out] at h0
          exact brk_none h0 (by omega)
        have Hbr0 := Lib.hid hbr0
        have hz9 := itemAt_below HZ.out hbr (by omega)
        obtain ⟨_, zf, z0, z1, z2, z3⟩ := hz9
        have zf0 := zf 0; have zf1 := zf 1; have zf2 := zf 2; have zf3 := zf 3
        clear zf hinv hbr0 ho hacc h93 hmem
        go_wp2_with fail
        refine bodyPost_ret (v := .tuple #[.agg #[.int .i64 0, .string { data := #[] }, .bool false, .slice none 0 0], .int .i64 0, .bool false]) (by simp [results, Tryd.results55, go_sem, z0, z1, z2, z3]) rfl ⟨.inl ⟨Hbr0.out, rfl⟩, ?_⟩
        exact (((hbw.setCell (p := ⟨w.heap.size, 0, none⟩) (Nat.le_refl _) _).setCell (p := ⟨w.heap.size, 1, none⟩) (Nat.le_refl _) _).setCell (p := ⟨w.heap.size, 2, none⟩) (Nat.le_refl _) _).setCell (p := ⟨w.heap.size, 3, none⟩) (Nat.le_refl _) _
end Go.Proofs.YteppndkhmbhnkaaDoor
