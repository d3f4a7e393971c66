/- pattern: the reference's member. -/
import Derived.Test.YteppndkhmbhnkaaDoorPRcl
namespace Go.Proofs.YteppndkhmbhnkaaDoor
open Go.RowKit
set_option linter.unusedVariables false

/-- A slice of spans that is nil, or begins its block. -/
def MemV (w : World) (v : Value) (l : List (Nat × Nat)) : Prop :=
  (v = .slice none 0 0 ∧ l = []) ∨ ∃ b c, v = .slice (some ⟨b, 0, none⟩) l.length c ∧ b < w.heap.size ∧ ∀ k (h : k < l.length), w.cell? ⟨b, k * 2, none⟩ = some (.int .u8 ((l[k]'h).1 : Nat)) ∧ w.cell? ⟨b, k * 2 + 1, none⟩ = some (.int .u8 ((l[k]'h).2 : Nat))
theorem memV_one (w : World) (a e : Nat) : MemV (w.alloc (.cells #[.int .u8 a, .int .u8 e] 68)) (.slice (some ⟨w.heap.size, 0, none⟩) 1 1) [(a, e)] := by
  have h := heap_alloc_new w (.cells #[.int .u8 a, .int .u8 e] 68)
  refine .inr ⟨w.heap.size, 1, rfl, by simp, fun k hk => ?_⟩
  have hk0 : k = 0 := by simp at hk; exact hk
  subst hk0
  exact ⟨by rw [Lib.cell_of_heap h]; rfl, by rw [Lib.cell_of_heap h]; rfl⟩
theorem cat_cls (i : Nat) (h : i < 8) : (({ data := #[91, 58] } : ByteArray) ++ ⟨(nameI i).toArray⟩ ++ { data := #[58, 93] }) = ⟨(classT i).toArray⟩ := by
  apply ByteArray.ext
  rw [classT_name i h]
  simp
theorem nameI_len (i : Nat) (h : i < 8) : (nameI i).length = 5 := by
  have : ∀ i, i < 8 → (nameI i).length = 5 := by decide
  exact this i h
set_option maxHeartbeats 16000000 in
set_option maxRecDepth 100000 in
theorem member_c (A : Option Addr) (cs : List Ch) (c at_ : Nat) (w : World) (hA : ChAt w w.heap.size A cs) (hc : cs.length ≤ 1000000) (hcc : cs.length ≤ c) (hat : at_ < cs.length) :
    Calls Tryd.prog 88 #[.slice A cs.length c, .int .i64 at_] w fun e w' => ∃ v, e = .returned (.tuple #[v, .int .i64 ((at_ + msize (cs.drop at_) : Nat) : Int)]) ∧ MemV w' v (refSp (cs.drop at_)) ∧ Below w.heap.size w w' := by
  have HA := Lib.hid hA
  have HD : Hid (∀ k x, isAt (cs.drop at_) k x = isAt cs (at_ + k) x) := Lib.hid (fun k x => by unfold isAt; rw [List.getElem?_drop])
  have HB : Hid (∀ k, byteAt (cs.drop at_) k = byteAt cs (at_ + k)) := Lib.hid (fun k => by unfold byteAt; rw [List.getElem?_drop])
  have HX : Hid (classI (cs.drop at_) = clsFrom (cs.drop at_) (8 - 0) 0) := Lib.hid rfl
  have HL : Hid ((cs.drop at_).length = cs.length - at_) := Lib.hid (by rw [List.length_drop])
  have Hne : Hid (at_ < cs.length) := Lib.hid hat
  clear hA
  go_enter Tryd.func88, Tryd.ntmps88
  go_wp2_with fail
  refine (classes_c w).mono ?_
  rintro e w1 ⟨g, rfl, hcls, m1⟩
  have Hcls := Lib.hid hcls
  clear hcls
  go_wp2_with fail
  go_loop [7] (fun iv => ∃ i : Nat, iv = .int .i64 i ∧ i ≤ 8 ∧ Hid (classI (cs.drop at_) = clsFrom (cs.drop at_) (8 - i) i)) (fun iv => 8 - (intOf iv).toNat)
  case atStart => exact ⟨0, rfl, by omega, HX⟩
  case round =>
    obtain ⟨i, rfl, hi8, hx⟩ := hrel
    clear HX
    by_cases hlt : i < 8
    · have d1 : decide ((i : Int) < 8) = true := decide_eq_true (by omega)
      have d1' : decide (i < 8) = true := decide_eq_true hlt
      obtain ⟨x0, b, cp, x1, hbl, hsp⟩ := Hcls.out.2 i hlt
      have hcat := cat_cls i hlt
      have hT9 := classT_len i hlt
      have hsz9 : (({ data := #[91, 58] } : ByteArray) ++ ⟨(nameI i).toArray⟩ ++ { data := #[58, 93] }).size = 9 := by rw [hcat]; exact hT9
      have hA1 := chAt_mono (chAt_below HA.out m1 (Nat.le_refl _)) m1.size
      have hsy := says_c A cs c at_ (classT i) w1 hA1 hc (by omega) (by rw [hT9]; omega)
      rw [← hcat] at hsy
      have hx2 := hx.out
      rw [show 8 - i = (8 - (i + 1)) + 1 from by omega, clsFrom] at hx2
      have hnm : (⟨(nameI i).toArray⟩ : ByteArray).size = 5 := nameI_len i hlt
      have i1 : (i : Int) < 8 := by omega
      have Hx2 := Lib.hid hx2; have Hsy := Lib.hid hsy; have Hsp := Lib.hid hsp; have Hsz9 := Lib.hid hsz9
      clear hx hx2 hsy hA1 hcat hT9 hsp hsz9
      rcases hbg : begs (cs.drop at_) (classT i) with _ | _
      · rw [hbg] at Hx2 Hsy
        have hR : Hid (classI (cs.drop at_) = clsFrom (cs.drop at_) (8 - (i + 1)) (i + 1)) := Lib.hid (by rw [Hx2.out, if_neg (by simp)])
        clear Hx2 hbg
        go_wp2_with fail
        refine Hsy.out.mono ?_
        rintro e w7 ⟨rfl, rfl⟩
        clear Hsy
        go_wp2_with fail
        go_round
        case rel => exact ⟨i + 1, by go_num, by omega, hR⟩
        case measure => simp [intOf]; omega
      · rw [hbg] at Hx2 Hsy
        have hR : classI (cs.drop at_) = i := by rw [Hx2.out, if_pos rfl]
        have hm : msize (cs.drop at_) = 9 := by unfold msize; rw [hR, if_pos hlt]
        have hsz9 := Hsz9.out
        have hfin : Hid (∃ v, (Ending.returned (.tuple #[.slice (some ⟨b, 0, none⟩) (prR (classR i)).length cp, .int .i64 ((at_ : Int) + 9)]) : Ending) = .returned (.tuple #[v, .int .i64 ((at_ + msize (cs.drop at_) : Nat) : Int)]) ∧ MemV w1 v (refSp (cs.drop at_)) ∧ Below w.heap.size w w1) := Lib.hid (by
          refine ⟨_, by rw [hm]; rfl, ?_, m1⟩
          unfold refSp
          rw [hR, if_pos hlt]
          exact .inr ⟨b, cp, rfl, hbl, Hsp.out⟩)
        clear Hx2 hbg hR hm Hsp
        go_wp2_with fail
        refine Hsy.out.mono ?_
        rintro e w7 ⟨rfl, rfl⟩
        clear Hsy
        go_wp2_with fail
        refine bodyPost_ret (results_tmp2 rfl _ _ _) rfl ?_
        obtain ⟨v, h1, h2, h3⟩ := hfin.out
        exact ⟨v, h1, h2, h3⟩
    · have hi : i = 8 := by omega
      subst hi
      have hcI : classI (cs.drop at_) = 8 := hx.out
      have d1 : decide (((8 : Nat) : Int) < 8) = false := by decide
      obtain ⟨bl, off, rfl, hbl, hcell⟩ : ∃ b off, A = some ⟨b, off, none⟩ ∧ b < w.heap.size ∧ ∀ k (h : k < cs.length), w.cell? ⟨b, off + k * 2, none⟩ = some (.int .u8 (cs[k]'h).b.toNat) ∧ w.cell? ⟨b, off + k * 2 + 1, none⟩ = some (.bool (cs[k]'h).act) := by
        rcases HA.out with h | h
        · have := Hne.out; rw [h] at this; simp at this
        · exact h
      have hA1 := chAt_mono (chAt_below HA.out m1 (Nat.le_refl _)) m1.size
      have z0 := (m1.cell (p := ⟨bl, off + at_ * 2, none⟩) hbl).trans (hcell at_ hat).1
      have hlow : byteAt (cs.drop at_) 0 = (cs[at_]'hat).b := by rw [HB.out]; unfold byteAt; rw [Nat.add_zero, List.getElem?_eq_getElem hat]
      have i0 : (at_ : Int) < (cs.length : Int) := by omega
      have h1a : isAt cs (at_ + 1) 45 = isAt (cs.drop at_) 1 45 := (HD.out 1 45).symm
      have h2a : isAt cs (at_ + 2) 93 = isAt (cs.drop at_) 2 93 := (HD.out 2 93).symm
      have his1 := isR_c (some ⟨bl, off, none⟩) cs c (at_ + 1) 45 w1 hA1 hc (by omega)
      have his2 := isR_c (some ⟨bl, off, none⟩) cs c (at_ + 2) 93 w1 hA1 hc (by omega)
      rw [h1a, show ((at_ + 1 : Nat) : Int) = (at_ : Int) + 1 from by omega] at his1
      rw [h2a, show ((at_ + 2 : Nat) : Int) = (at_ : Int) + 2 from by omega] at his2
      have hlen : decide (3 ≤ (cs.drop at_).length) = decide (at_ + 2 < cs.length) := by rw [HL.out, decide_eq_decide]; omega
      have hms : msize (cs.drop at_) = if (decide (at_ + 2 < cs.length) && isAt (cs.drop at_) 1 45 && !isAt (cs.drop at_) 2 93) = true then 3 else 1 := by unfold msize; rw [hcI, if_neg (by omega), hlen]
      have hrs : refSp (cs.drop at_) = if (decide (at_ + 2 < cs.length) && isAt (cs.drop at_) 1 45 && !isAt (cs.drop at_) 2 93) = true then (if (cs[at_]'hat).b.toNat ≤ (byteAt (cs.drop at_) 2).toNat then [((cs[at_]'hat).b.toNat, (byteAt (cs.drop at_) 2).toNat)] else []) else [((cs[at_]'hat).b.toNat, (cs[at_]'hat).b.toNat)] := by unfold refSp; rw [hcI, if_neg (by omega), hlen, hlow]
      have hhi : ∀ h2 : at_ + 2 < cs.length, byteAt (cs.drop at_) 2 = (cs[at_ + 2]'h2).b ∧ w1.cell? ⟨bl, off + (at_ + 2) * 2, none⟩ = some (.int .u8 (cs[at_ + 2]'h2).b.toNat) := fun h2 => ⟨by rw [HB.out]; unfold byteAt; rw [List.getElem?_eq_getElem h2], (m1.cell (p := ⟨bl, off + (at_ + 2) * 2, none⟩) hbl).trans (hcell (at_ + 2) h2).1⟩
      generalize (cs[at_]'hat).b = lo at *
      have His1 := Lib.hid his1; have His2 := Lib.hid his2; have Hms := Lib.hid hms; have Hrs := Lib.hid hrs; have Hhi := Lib.hid hhi
      have m1s := m1.size
      have hba : ∀ o, Below w.heap.size w (w1.alloc o) := fun o => m1.alloc m1s o
      clear hcell hA1 his1 his2 hms hrs hhi hlow h1a h2a hlen hx Hcls HA HD HB HL hcI
      -- what is left when the member is one character
      have one : Hid (msize (cs.drop at_) = 1 → refSp (cs.drop at_) = [(lo.toNat, lo.toNat)] → ∃ v, (Ending.returned (.tuple #[.slice (some ⟨w1.heap.size, 0, none⟩) 1 1, .int .i64 ((at_ : Int) + 1)]) : Ending) = .returned (.tuple #[v, .int .i64 ((at_ + msize (cs.drop at_) : Nat) : Int)]) ∧ MemV (w1.alloc (.cells #[.int .u8 lo.toNat, .int .u8 lo.toNat] 68)) v (refSp (cs.drop at_)) ∧ Below w.heap.size w (w1.alloc (.cells #[.int .u8 lo.toNat, .int .u8 lo.toNat] 68))) := Lib.hid (fun h1 h2 => by
        rw [h1, h2]
        exact ⟨_, rfl, memV_one w1 _ _, hba _⟩)
      rcases hq1 : isAt (cs.drop at_) 1 45 with _ | _
      · rw [hq1] at His1 Hms Hrs
        have hfin := Lib.hid (one.out (by rw [Hms.out]; simp) (by rw [Hrs.out]; simp))
        clear one Hms Hrs His2 Hhi hq1
        go_wp2_with fail
        refine His1.out.mono ?_
        rintro e w7 ⟨rfl, rfl⟩
        clear His1
        go_wp2_with fail
        refine bodyPost_ret (results_tmp2 rfl _ _ _) rfl ?_
        obtain ⟨v, h1, h2, h3⟩ := hfin.out
        exact ⟨v, h1, h2, h3⟩
      rw [hq1] at His1 Hms Hrs
      clear hq1
      by_cases h2 : at_ + 2 < cs.length
      · have d2 : decide ((at_ : Int) + 2 < (cs.length : Int)) = true := decide_eq_true (by omega)
        have d2' : decide (at_ + 2 < cs.length) = true := decide_eq_true h2
        rw [d2'] at Hms Hrs
        obtain ⟨hb2, z2⟩ := Hhi.out h2
        rw [hb2] at Hrs
        generalize (cs[at_ + 2]'h2).b = hi9 at *
        have i2 : (at_ : Int) + 2 < (cs.length : Int) := by omega
        rcases hq2 : isAt (cs.drop at_) 2 93 with _ | _
        · rw [hq2] at His2 Hms Hrs
          have hM3 : msize (cs.drop at_) = 3 := by rw [Hms.out]; rfl
          have hS3 : refSp (cs.drop at_) = (if lo.toNat ≤ hi9.toNat then [(lo.toNat, hi9.toNat)] else []) := by rw [Hrs.out]; rfl
          have i4 : ((at_ : Int) + 2).toNat = at_ + 2 := by omega
          clear Hms Hrs one hq2 hb2 Hhi
          by_cases hle : lo.toNat ≤ hi9.toNat
          · have d3 : decide ((lo.toNat : Int) ≤ (hi9.toNat : Int)) = true := decide_eq_true (by omega)
            have d3' : decide (lo.toNat ≤ hi9.toNat) = true := decide_eq_true hle
            rw [if_pos hle] at hS3
            have hfin : Hid (∃ v, (Ending.returned (.tuple #[.slice (some ⟨w1.heap.size, 0, none⟩) 1 1, .int .i64 ((at_ : Int) + 3)]) : Ending) = .returned (.tuple #[v, .int .i64 ((at_ + msize (cs.drop at_) : Nat) : Int)]) ∧ MemV (w1.alloc (.cells #[.int .u8 lo.toNat, .int .u8 hi9.toNat] 68)) v (refSp (cs.drop at_)) ∧ Below w.heap.size w (w1.alloc (.cells #[.int .u8 lo.toNat, .int .u8 hi9.toNat] 68))) := Lib.hid (by
              rw [hM3, hS3]
              exact ⟨_, rfl, memV_one w1 _ _, hba _⟩)
            clear hM3 hS3
            go_wp2_with fail
            refine His1.out.mono ?_
            rintro e w7 ⟨rfl, rfl⟩
            clear His1
            go_wp2_with fail
            refine His2.out.mono ?_
            rintro e w7 ⟨rfl, rfl⟩
            clear His2
            go_wp2_with fail
            refine bodyPost_ret (results_tmp2 rfl _ _ _) rfl ?_
            obtain ⟨v, h1, h2, h3⟩ := hfin.out
            exact ⟨v, h1, h2, h3⟩
          · have d3 : decide ((lo.toNat : Int) ≤ (hi9.toNat : Int)) = false := decide_eq_false (by omega)
            have d3' : decide (lo.toNat ≤ hi9.toNat) = false := decide_eq_false hle
            rw [if_neg hle] at hS3
            have hfin : Hid (∃ v, (Ending.returned (.tuple #[.slice none 0 0, .int .i64 ((at_ : Int) + 3)]) : Ending) = .returned (.tuple #[v, .int .i64 ((at_ + msize (cs.drop at_) : Nat) : Int)]) ∧ MemV w1 v (refSp (cs.drop at_)) ∧ Below w.heap.size w w1) := Lib.hid (by
              rw [hM3, hS3]
              exact ⟨_, rfl, .inl ⟨rfl, rfl⟩, m1⟩)
            clear hM3 hS3
            go_wp2_with fail
            refine His1.out.mono ?_
            rintro e w7 ⟨rfl, rfl⟩
            clear His1
            go_wp2_with fail
            refine His2.out.mono ?_
            rintro e w7 ⟨rfl, rfl⟩
            clear His2
            go_wp2_with fail
            refine bodyPost_ret (results_tmp2 rfl _ _ _) rfl ?_
            obtain ⟨v, h1, h2, h3⟩ := hfin.out
            exact ⟨v, h1, h2, h3⟩
        · rw [hq2] at His2 Hms Hrs
          have hfin := Lib.hid (one.out (by rw [Hms.out]; simp) (by rw [Hrs.out]; simp))
          clear one Hms Hrs Hhi hq2 z2 hb2
          go_wp2_with fail
          refine His1.out.mono ?_
          rintro e w7 ⟨rfl, rfl⟩
          clear His1
          go_wp2_with fail
          refine His2.out.mono ?_
          rintro e w7 ⟨rfl, rfl⟩
          clear His2
          go_wp2_with fail
          refine bodyPost_ret (results_tmp2 rfl _ _ _) rfl ?_
          obtain ⟨v, h1, h2, h3⟩ := hfin.out
          exact ⟨v, h1, h2, h3⟩
      · have d2 : decide ((at_ : Int) + 2 < (cs.length : Int)) = false := decide_eq_false (by omega)
        have d2' : decide (at_ + 2 < cs.length) = false := decide_eq_false h2
        rw [d2'] at Hms Hrs
        have hfin := Lib.hid (one.out (by rw [Hms.out]; simp) (by rw [Hrs.out]; simp))
        clear one Hms Hrs Hhi His2
        go_wp2_with fail
        refine His1.out.mono ?_
        rintro e w7 ⟨rfl, rfl⟩
        clear His1
        go_wp2_with fail
        refine bodyPost_ret (results_tmp2 rfl _ _ _) rfl ?_
        obtain ⟨v, h1, h2, h3⟩ := hfin.out
        exact ⟨v, h1, h2, h3⟩
end Go.Proofs.YteppndkhmbhnkaaDoor
