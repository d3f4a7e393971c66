/- The contract of chars.Escape: the walk. -/
import Derived.Test.YtdjphpobhbelaaaDoorEscC
namespace Go.Proofs.YtdjphpobhbelaaaDoor
open Go.RowKit

set_option maxHeartbeats 8000000 in
set_option maxRecDepth 100000 in
theorem escape_c (s : ByteArray) (w : World) (hs : s.size ≤ 2000) (hE : Env w w.heap.size) :
    Calls Tryd.prog 21 #[.string s] w fun e w' => e = .returned (.string ⟨(escL s.data.toList).toArray⟩) ∧ Below w.heap.size w w' := by
  have hll : s.data.toList.length = s.size := rfl
  have HE := Lib.hid hE
  clear hE
  go_enter Tryd.func21, Tryd.ntmps21
  go_wp2_with fail
  go_loopw [] (fun wr => ∃ pos : Nat, EscR s w pos wr) (fun wr => s.size - wr.iterPos (w.heap.size + 1))
  case atStart => exact ⟨0, esc_start s w⟩
  case round =>
    obtain ⟨pos, hR⟩ := hrel
    by_cases hlt : pos < s.size
    · have hnx := next_at wr (w.heap.size + 1) s pos hR.it hlt
      have hit2 := Lib.iterAt_heap wr (w.heap.size + 1) s pos (pos + widthAt s pos) hR.it
      have hb2 := Lib.below_iterAt hR.bl (k := w.heap.size + 1) (by omega) s (pos + widthAt s pos)
      have hI2 := hR.bld.iterAt hR.it (pos + widthAt s pos)
      have hsz2 : w.heap.size + 1 < (wr.iterAt (w.heap.size + 1) s (pos + widthAt s pos)).heap.size := by rw [Lib.iterAt_size]; exact hR.sz
      have hwp := width_pos hlt
      have hrs := rune_small s pos
      obtain ⟨c, hs', x1, x2, x3, x4, x5, x6⟩ := rune_split hlt
      have hip : wr.iterPos (w.heap.size + 1) = pos := by simp only [World.iterPos, hR.it]
      have Hip := Lib.hid hip
      have hdec : ∀ W, Below w.heap.size w W → Calls Tryd.prog 39 #[.string (s.extract pos s.size)] W fun e w' => e = .returned (.tuple #[.int .i32 (runeAt s pos), .int .i64 (widthAt s pos)]) ∧ Below W.heap.size W w' := by
        intro W hb
        have h := Tryd.utf8_DecodeRuneInString (s.extract pos s.size) W (Utf8Tabs_below HE.out.tb hb)
        rw [show Lib.decodeGo (s.extract pos s.size) = Utf8.decode s pos from Lib.decodeGo_extract s pos hlt] at h
        exact h
      have hacc : (escL (s.data.toList.take pos)).length ≤ 8000 := by
        have := escL_len (s.data.toList.take pos)
        rw [List.length_take] at this
        omega
      have hcc : s[pos]'hlt = c := by
        have h1 : s.data.toList.drop pos = s.data.toList[pos]'(by rw [hll]; exact hlt) :: s.data.toList.drop (pos + 1) := List.drop_eq_getElem_cons _
        rw [x1] at h1
        injection h1 with h1 _
        exact h1.symm
      have htk : s.data.toList.take (pos + widthAt s pos) = s.data.toList.take pos ++ (c :: hs') := by
        rw [List.take_add, x1, ← List.cons_append, ← x2]
        congr 1
        exact List.take_left' rfl
      have hext : (s.extract pos (pos + widthAt s pos)).data.toList = c :: hs' := by
        rw [Lib.extract_data, x1, show pos + widthAt s pos - pos = hs'.length + 1 from by omega, ← List.cons_append]
        exact List.take_left' rfl
      have hnext : escL (s.data.toList.take (pos + widthAt s pos)) = escL (s.data.toList.take pos) ++ escL (c :: hs') := by rw [htk, escL_append]
      clear hR hip htk
      generalize runeAt s pos = R at *
      generalize widthAt s pos = wd at *
      generalize hX : wr.iterAt (w.heap.size + 1) s (pos + wd) = wx at *
      generalize escL (s.data.toList.take pos) = acc at *
      have HX := Lib.hid hX
      have hcv : ∀ v : Nat, v < 128 → (R = v ↔ c.toNat = v) := fun v hv => by
        by_cases hr : R < 128
        · rw [(x5 hr).1]
        · have := x6 (by omega)
          omega
      have hone : R < 128 → hs' = [] ∧ wd = 1 := fun h => by
        have := (x5 h).2
        subst this
        exact ⟨rfl, by simpa using x2.symm⟩
      have hbytes : ∀ x ∈ c :: hs', R < 32 ∨ 126 < R → R ≠ 10 → R ≠ 9 → (x.toNat < 32 ∨ 126 < x.toNat) ∧ x ≠ 10 ∧ x ≠ 9 := by
        intro x hx h1 h2 h3
        by_cases hr : R < 128
        · obtain ⟨e1, e2⟩ := x5 hr
          subst e2
          have : x = c := by simpa using hx
          subst this
          exact ⟨by omega, by rintro rfl; exact h2 e1, by rintro rfl; exact h3 e1⟩
        · have h128 : 128 ≤ x.toNat := by
            rcases List.mem_cons.1 hx with rfl | hx
            · exact x6 (by omega)
            · exact x4 x hx
          refine ⟨by omega, ?_, ?_⟩ <;> (rintro rfl; revert h128; decide)
      have hasc : acc.length + 4 ≤ 140737488355328 := by omega
      have n1 : decide (pos < s.size) = true := decide_eq_true hlt
      have HI := Lib.hid hI2; have Hit := Lib.hid hit2; have Hb2 := Lib.hid hb2; have X1 := Lib.hid x1; have X2 := Lib.hid x2; have Hdec := Lib.hid hdec; have Hcc := Lib.hid hcc; have Hext := Lib.hid hext; have Hnext := Lib.hid hnext; have Hcv := Lib.hid hcv; have Hone := Lib.hid hone; have Hbytes := Lib.hid hbytes
      clear hX hI2 hit2 hb2 x1 x2 x4 x5 x6 hdec hcc hext hnext hcv hone hbytes
      have hlen : ∀ n, n ≤ 100 → (Lib.byteCells acc).length + n ≤ 140737488355328 := fun n hn => by rw [Lib.byteCells_length]; omega
      have hpw : w.heap.size ≤ wx.heap.size := by omega
      have hdone : ∀ (t : List UInt8) (w1 : World), Lib.BuilderAtF 41 5 w.heap.size w.heap.size (.pointer (some ⟨w.heap.size, 0, none⟩)) (Lib.byteCells acc ++ Lib.byteCells t) w1 → Below w.heap.size wx w1 → Lib.OthersKept 5 (some w.heap.size) wx w1 → t = escL (c :: hs') → EscR s w (pos + wd) w1 := by
        intro t w1 m1 m2 m3 e
        rw [← Lib.byteCells_append] at m1
        exact esc_step Hit.out Hb2.out m1 m2 m3 (by rw [Hnext.out, e]) hsz2 x3
      have Hdone := Lib.hid hdone
      clear hdone
      by_cases c1 : R = 10
      · subst c1
        obtain ⟨e1, e2⟩ := Hone.out (by omega)
        have e3 : c = 10 := u8_of (v := 10) (by omega) ((Hcv.out 10 (by omega)).1 rfl)
        subst e1; subst e2; subst e3
        go_wp2_with fail
        refine (writeString w.heap.size w.heap.size (Lib.byteCells acc) ⟨#[92, 110]⟩ wx HI.out (hlen 2 (by omega)) hpw).mono ?_
        rintro e w1 ⟨rfl, m1, m2, m3⟩
        have hn := Hdone.out [92, 110] w1 m1 m2 m3 rfl
        have hit3 := hn.it
        go_wp2_with fail
        go_roundw
        case rel => exact ⟨pos + 1, hn⟩
        case measure => rw [Hip.out]; simp only [World.iterPos, hit3]; omega
      have t1 : ((R : Int) == 10) = false := by rw [beq_eq_false_iff_ne]; omega
      by_cases c2 : R = 9
      · subst c2
        obtain ⟨e1, e2⟩ := Hone.out (by omega)
        have e3 : c = 9 := u8_of (v := 9) (by omega) ((Hcv.out 9 (by omega)).1 rfl)
        subst e1; subst e2; subst e3
        go_wp2_with fail
        refine (writeString w.heap.size w.heap.size (Lib.byteCells acc) ⟨#[92, 116]⟩ wx HI.out (hlen 2 (by omega)) hpw).mono ?_
        rintro e w1 ⟨rfl, m1, m2, m3⟩
        have hn := Hdone.out [92, 116] w1 m1 m2 m3 rfl
        have hit3 := hn.it
        go_wp2_with fail
        go_roundw
        case rel => exact ⟨pos + 1, hn⟩
        case measure => rw [Hip.out]; simp only [World.iterPos, hit3]; omega
      have t2 : ((R : Int) == 9) = false := by rw [beq_eq_false_iff_ne]; omega
      by_cases c3 : R = 92
      · subst c3
        obtain ⟨e1, e2⟩ := Hone.out (by omega)
        have e3 : c = 92 := u8_of (v := 92) (by omega) ((Hcv.out 92 (by omega)).1 rfl)
        subst e1; subst e2; subst e3
        go_wp2_with fail
        refine (writeString w.heap.size w.heap.size (Lib.byteCells acc) ⟨#[92, 92]⟩ wx HI.out (hlen 2 (by omega)) hpw).mono ?_
        rintro e w1 ⟨rfl, m1, m2, m3⟩
        have hn := Hdone.out [92, 92] w1 m1 m2 m3 rfl
        have hit3 := hn.it
        go_wp2_with fail
        go_roundw
        case rel => exact ⟨pos + 1, hn⟩
        case measure => rw [Hip.out]; simp only [World.iterPos, hit3]; omega
      have t3 : ((R : Int) == 92) = false := by rw [beq_eq_false_iff_ne]; omega
      by_cases c4 : prB R = true
      · have h4 := c4
        unfold prB at h4
        rw [decide_eq_true_iff] at h4
        obtain ⟨e1, e2⟩ := Hone.out (by omega)
        subst e1; subst e2
        have h5 : c.toNat = R := (Hcv.out R (by omega)).1 rfl
        have e5 : [c] = escL [c] := by
          rw [escL_cons]
          rcases eL_cases c with ⟨rfl, e'⟩ | ⟨rfl, e'⟩ | ⟨rfl, e'⟩ | ⟨h', e'⟩ | ⟨_, _, e'⟩
          · exact absurd h5.symm c1
          · exact absurd h5.symm c2
          · exact absurd h5.symm c3
          · have := need_iff h'; omega
          · rw [e']; rfl
        have E5 := Lib.hid e5
        clear h4 h5 c1 c2 c3 e5
        go_wp2_with fail
        refine (printable_c _ _).mono ?_
        rintro e w1 ⟨rfl, rfl⟩
        go_wp2_with fail
        rw [Hcc.out]
        refine (writeByte w.heap.size w.heap.size (Lib.byteCells acc) _ wx HI.out (hlen 1 (by omega)) hpw).mono ?_
        rintro e w1 ⟨rfl, m1, m2, m3⟩
        have hn := Hdone.out [c] w1 m1 m2 m3 E5.out
        have hit3 := hn.it
        go_wp2_with fail
        go_roundw
        case rel => exact ⟨pos + 1, hn⟩
        case measure => rw [Hip.out]; simp only [World.iterPos, hit3]; omega
      have h4 : ¬ (32 ≤ (R : Int) ∧ (R : Int) ≤ 126) := by
        intro h
        exact c4 (decide_eq_true h)
      have t4 : prB R = false := by simpa using c4
      have hhex : ∀ x ∈ c :: hs', (x.toNat < 32 ∨ 126 < x.toNat) ∧ x ≠ 10 ∧ x ≠ 9 := fun x hx => Hbytes.out x hx (by omega) c1 c2
      have Hhex := Lib.hid hhex
      clear c1 c2 c3 c4 h4 hhex Hbytes
      have i1 : (pos : Int) ≤ (s.size : Int) := by omega
      have i2 : (pos : Int) ≤ (pos : Int) + (wd : Int) := by omega
      have i3 : (pos : Int) + (wd : Int) ≤ (s.size : Int) := by omega
      go_wp2_with fail
      refine (printable_c _ _).mono ?_
      rintro e w1 ⟨rfl, rfl⟩
      go_wp2_with fail
      refine (Hdec.out _ Hb2.out).mono ?_
      rintro e w1 ⟨rfl, m1⟩
      have hI1 := bld_below HI.out m1
      have hit1 := (m1.block _ hsz2).trans Hit.out
      have hb1 : Below w.heap.size w w1 := Hb2.out.trans (m1.mono hpw)
      have hsz1 : w.heap.size + 1 < w1.heap.size := by have := m1.size; omega
      have hT : (s.extract pos (pos + wd)).size = wd := by rw [ByteArray.size_extract]; omega
      obtain ⟨cap, nx, hcvt⟩ := bytes_of (s.extract pos (pos + wd))
      obtain ⟨q1, q2, row, q3, q4⟩ := hcvt w1
      rw [hT] at q1
      have hrow : ∀ k (h : k < (c :: hs').length), row[k]? = some (.int .u8 ((c :: hs')[k]'h).toNat) := by
        intro k h
        have hk : k < (s.extract pos (pos + wd)).size := by rw [hT, ← X2.out]; exact h
        rw [q4 k hk]
        have : (s.extract pos (pos + wd))[k]'hk = (c :: hs')[k]'h := by
          have h2 : (s.extract pos (pos + wd))[k]'hk = (s.extract pos (pos + wd)).data.toList[k]'hk := rfl
          rw [h2]
          have h3 : ∀ (a b : List UInt8) (e : a = b) (k : Nat) (h : k < a.length) (h' : k < b.length), a[k]'h = b[k]'h' := by rintro a b rfl k h h'; rfl
          exact h3 _ _ Hext.out k hk h
        rw [this]
      have Hrow := Lib.hid hrow
      have hI2 := bld_below hI1 (q2.mono (Nat.le_refl _))
      have hit2 := (q2.block _ hsz1).trans hit1
      have hb2 : Below w.heap.size w (nx w1) := hb1.trans (q2.mono (by omega))
      have hsz2' : w1.heap.size < (nx w1).heap.size := lt_of_block q3
      have hll2 : (c :: hs').length = wd := X2.out
      clear hcvt q2 q4 hrow hI1 hit1 hb1 m1
      generalize nx w1 = w2 at *
      have hx1 : w.heap.size + 1 < w1.heap.size := hsz1
      generalize hxx : w1.heap.size = x at *
      obtain ⟨wo, rfl⟩ : ∃ wo, wo = wr := ⟨_, rfl⟩
      go_wp2_with fail
      go_loopw [31] (fun iv wi => ∃ k : Nat, iv = .int .i64 k ∧ k ≤ wd ∧ Lib.IsBuilderF 41 5 w.heap.size w.heap.size (Lib.byteCells (acc ++ escL ((c :: hs').take k))) wi ∧ BytesRow wi x row ∧ wi.heap[w.heap.size + 1]? = some (.stringIter s (pos + wd)) ∧ Below w.heap.size w wi) (fun iv _ => wd - (intOf iv).toNat)
      case atStart => exact ⟨0, rfl, by omega, by simpa [escL] using hI2, q3, hit2, hb2⟩
      case round =>
        obtain ⟨k, rfl, hk, hI3, hx3, hit3, hb3⟩ := hrel
        by_cases hkl : k < wd
        · have j1 : (k : Int) < (wd : Int) := by omega
          have d1 : decide ((k : Int) < (wd : Int)) = true := decide_eq_true j1
          have hkl2 : k < (c :: hs').length := by omega
          have hcell : wr.cell? ⟨x, k, none⟩ = some (.int .u8 ((c :: hs')[k]'hkl2).toNat) := by
            rw [Lib.cell_of_heap hx3]
            exact Hrow.out k hkl2
          have htk1 : escL ((c :: hs').take (k + 1)) = escL ((c :: hs').take k) ++ eL ((c :: hs')[k]'hkl2) := by
            rw [List.take_add_one, List.getElem?_eq_getElem hkl2, escL_append]
            simp [escL, eL]
          have hh := Hhex.out _ (List.getElem_mem hkl2)
          have hhe := escB_hex _ hh.1 hh.2.1 hh.2.2
          have hal2 : (escL ((c :: hs').take k)).length ≤ 8000 := by
            have := escL_len ((c :: hs').take k)
            rw [List.length_take] at this
            omega
          have Htk1 := Lib.hid htk1; have Hhe := Lib.hid hhe; have HI3 := Lib.hid hI3
          have hszi : w.heap.size + 1 < wr.heap.size := lt_of_block hit3
          have hxi : x < wr.heap.size := lt_of_block hx3
          clear htk1 hhe hh hI3
          generalize (c :: hs')[k]'hkl2 = y at *
          generalize escL ((c :: hs').take k) = acc2 at *
          go_wp2_with fail
          refine (hexEscape_c y.toNat (UInt8.toNat_lt y) _).mono ?_
          rintro e w3 ⟨rfl, m1⟩
          have hI4 := bld_below HI3.out m1
          have hx4 : BytesRow w3 x row := (m1.block _ hxi).trans hx3
          have hit4 := (m1.block _ hszi).trans hit3
          have hz3 := m1.size
          have hb4 : Below w.heap.size w w3 := hb3.trans (m1.mono (by omega))
          have hzh : (hexE y.toNat (UInt8.toNat_lt y)).size = 4 := rfl
          have Hzh := Lib.hid hzh
          have HI4 := Lib.hid hI4
          clear hI4 hzh
          generalize hexE y.toNat (UInt8.toNat_lt y) = hx5 at *
          go_wp2_with fail
          refine (writeString_row w.heap.size w.heap.size x row (Lib.byteCells (acc ++ acc2)) hx5 w3 HI4.out hx4 (by omega) (by rw [Lib.byteCells_length, List.length_append, Hzh.out]; omega) (by omega)).mono ?_
          rintro e w4 ⟨rfl, m2, m3, m4, m5⟩
          have hit5 := m4 _ _ hit4 (by simp) (by intro c fz hh; simp at hh)
          have hfin : Lib.IsBuilderF 41 5 w.heap.size w.heap.size (Lib.byteCells (acc ++ escL ((c :: hs').take (k + 1)))) w4 := by
            rw [Htk1.out, ← Hhe.out, ← List.append_assoc, Lib.byteCells_append, ← Lib.strCells_eq]
            exact .inr m2
          clear m2 m4
          go_wp2_with fail
          go_roundw
          case rel => exact ⟨k + 1, by go_num, by omega, hfin, m5, hit5, hb4.trans m3⟩
          case measure => simp [intOf]; omega
        · have hkw : k = wd := by omega
          subst hkw
          have d1 : decide ((k : Int) < (k : Int)) = false := decide_eq_false (by omega)
          rw [List.take_of_length_le (by omega), ← Hnext.out] at hI3
          have hn : EscR s w (pos + k) wr := ⟨hI3, hit3, hb3, lt_of_block hit3, x3⟩
          go_wp2_with fail
          go_roundw
          case rel => exact ⟨pos + k, hn⟩
          case measure => rw [Hip.out]; simp only [World.iterPos, hit3]; omega
    · have hnx := next_end wr (w.heap.size + 1) s pos hR.it hlt
      have hps : pos = s.size := by have := hR.po; omega
      subst hps
      have hb := hR.bld; have hbl := hR.bl; have hsz := hR.sz
      rw [List.take_of_length_le (by omega)] at hb
      clear hR
      go_wp2_with fail
      refine (Tryd.Builder_String_any_k w.heap.size w.heap.size _ wr hb (by omega)).mono ?_
      rintro e w3 ⟨rfl, _, p2, _⟩
      go_wp2_with fail
      go_ret
      exact ⟨rfl, hbl.trans p2⟩
end Go.Proofs.YtdjphpobhbelaaaDoor
