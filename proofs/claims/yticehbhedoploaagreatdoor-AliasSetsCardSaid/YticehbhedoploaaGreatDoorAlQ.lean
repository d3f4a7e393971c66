/- alias: a step of the examination. -/
import Derived.Test.YticehbhedoploaaGreatDoorAlP
import Derived.Test.YticehbhedoploaaGreatDoorAlS
namespace Go.Proofs.YticehbhedoploaaGreatDoor
open Go.RowKit
set_option linter.unusedVariables false

theorem leaveF_keeps : ∀ (n : Nat) (x : Ex) (p : Nat), (leaveF n x p).done = x.done ∧ (leaveF n x p).rest = x.rest ∧ (leaveF n x p).cnt = x.cnt ∧ (leaveF n x p).vals.length ≤ x.vals.length ∧ ∀ v ∈ (leaveF n x p).vals, v ∈ x.vals
  | 0, x, p => ⟨rfl, rfl, rfl, Nat.le_refl _, fun _ h => h⟩
  | n + 1, x, p => by
    rw [leaveF]
    split
    · split
      · obtain ⟨h1, h2, h3, h4, h5⟩ := leaveF_keeps n { x with cmd := x.cmd || _, act := x.act.filter fun y => !decide (y = _), vals := x.vals.take n } p
        refine ⟨h1, h2, h3, ?_, fun v hv => List.mem_of_mem_take (h5 v hv)⟩
        refine Nat.le_trans h4 ?_
        simp only [List.length_take]
        omega
      · exact ⟨rfl, rfl, rfl, Nat.le_refl _, fun _ h => h⟩
    · exact ⟨rfl, rfl, rfl, Nat.le_refl _, fun _ h => h⟩
def stepX (al : List Al) (x : Ex) : Option Ex :=
  if (nextL x.rest 0).2 ≠ 0 then none else if (nextL x.rest 0).1.kind = 5 then none else
    if (subL al (leaveX x (nextL x.rest 0).1.pos) (nextL x.rest 0).1).2 = true then some (repX (leaveX x (nextL x.rest 0).1.pos) (nextL x.rest 0).1 (subL al (leaveX x (nextL x.rest 0).1.pos) (nextL x.rest 0).1).1)
    else some (passX (leaveX x (nextL x.rest 0).1.pos) (nextL x.rest 0).1)
theorem getL_size {al : List Al} {s : ByteArray} {m : Nat} (h : ∀ a ∈ al, a.v.size ≤ m) : (getL al s).1.size ≤ m := by
  unfold getL
  split
  · rename_i a ha
    exact h a (List.mem_of_find?_eq_some ha)
  · exact Nat.zero_le _
def StepPost (B X h : Nat) (av : Value) (x : Ex) (w : World) (r : Option Ex) (e : Ending) (w' : World) : Prop :=
  match r with
  | none => e = .returned (.bool false) ∧ ExAt B X h av x w' ∧ Below B w w'
  | some z => e = .returned (.bool true) ∧ ExAt B X h av z w' ∧ Below B w w'
set_option maxHeartbeats 4000000 in
set_option maxRecDepth 100000 in
theorem step_c (B X h : Nat) (A : Option Addr) (c : Nat) (al : List Al) (x : Ex) (w : World) (H : ExAt B X h (.slice A al.length c) x w) (hA : AlAt w B A al) (hl : al.length ≤ 1000000) (hav : ∀ a ∈ al, a.v.size ≤ 1000000) (hB : B ≤ w.heap.size)
    (hs : x.done.length + x.rest.size ≤ 1000000) (hv : ∀ v ∈ x.vals, v.1.size ≤ 1000000000) (hn : x.vals.length ≤ 1000000) (hc : x.cnt ≤ 1000000000) (hn1 : (nextL x.rest 0).1.text.toList ≠ [60, 60]) (hn2 : (nextL x.rest 0).1.text.toList ≠ [60, 60, 45]) :
    Calls Tryz.prog 47 #[.pointer (some ⟨X, 0, none⟩)] w (StepPost B X h (.slice A al.length c) x w (stepX al x)) := by
  have HN := Lib.hid (Next_c x.rest 0 w (by omega) (by omega))
  have hok := next_ok (s := x.rest) (k := 0) (Nat.zero_le _)
  have hst : stepX al x = if (nextL x.rest 0).2 ≠ 0 then none else if (nextL x.rest 0).1.kind = 5 then none else
    if (subL al (leaveX x (nextL x.rest 0).1.pos) (nextL x.rest 0).1).2 = true then some (repX (leaveX x (nextL x.rest 0).1.pos) (nextL x.rest 0).1 (subL al (leaveX x (nextL x.rest 0).1.pos) (nextL x.rest 0).1).1)
    else some (passX (leaveX x (nextL x.rest 0).1.pos) (nextL x.rest 0).1) := rfl
  have hok2 : (nextL x.rest 0).2 = 0 → x.rest.size ≤ 16384 ∧ (nextL x.rest 0).1.fin ≤ x.rest.size ∧ (nextL x.rest 0).1.pos ≤ (nextL x.rest 0).1.fin ∧ (nextL x.rest 0).1.text.size ≤ x.rest.size := fun h0 => by
    obtain ⟨a1, a2, _, a4, _⟩ := hok h0
    refine ⟨a1, a2, a4, ?_⟩
    unfold nextL at h0 ⊢
    split
    · exact Nat.zero_le _
    · split
      · show (x.rest.extract _ _).size ≤ _
        rw [ByteArray.size_extract]; omega
      · exact Nat.zero_le _
  have c2 : w.cell? ⟨X, 2, none⟩ = some (.string x.rest) := by
    obtain ⟨_, _, _, g1, _⟩ := H
    rw [Lib.cell_of_heap g1]; rfl
  rcases hnx : nextL x.rest 0 with ⟨t, er⟩
  rw [hnx] at HN hst hok2 hn1 hn2
  simp only at hst hok2 hn1 hn2
  clear hok hnx
  have HN2 : Hid (Calls Tryz.prog 73 #[.string x.rest, .int .i64 0] w fun e w' => e = .returned (.tuple #[.agg #[.int .i64 t.kind, .int .i64 t.pos, .int .i64 t.fin, .string t.text], .int .i64 (er : Nat)]) ∧ Below w.heap.size w w') := HN
  clear HN
  have HH := Lib.hid H
  obtain ⟨R, hR⟩ : ∃ R, R = x.rest := ⟨_, rfl⟩
  rw [← hR] at HN2 c2
  by_cases her : er = 0
  · subst her
    obtain ⟨r1, r2, r3, r4⟩ := hok2 rfl
    rw [if_neg (by simp)] at hst
    by_cases hk5 : t.kind = 5
    · rw [if_pos hk5] at hst
      rw [hst]
      have d5 : ((t.kind : Int) == 5) = true := by rw [beq_iff_eq]; omega
      clear hst hk5 H hR
      go_enter Tryz.func47, Tryz.ntmps47
      go_wp2_with fail
      refine HN2.out.mono ?_
      rintro e w2 ⟨rfl, hb2⟩
      have hb3 := (hb2.mono hB).alloc (show B ≤ w2.heap.size by have := hb2.size; omega) (tokObj t)
      have hE3 : ExAt B X h (.slice A al.length c) x (w2.alloc (tokObj t)) := exAt_keep HH.out (fun k hk => (Below.heap_alloc _ _ _ (by have := hb2.size; omega)).trans (hb2.block k hk))
      have HE3 := Lib.hid hE3
      unfold tokObj at HE3 hb3
      clear hE3
      go_wp2_with fail
      go_ret
      exact ⟨rfl, HE3.out, hb3⟩
    · rw [if_neg hk5] at hst
      have d5 : ((t.kind : Int) == 5) = false := by rw [beq_eq_false_iff_ne]; omega
      obtain ⟨y, hy⟩ : ∃ y, y = leaveX x t.pos := ⟨_, rfl⟩
      rw [← hy] at hst
      have hkp := leaveF_keeps x.vals.length x t.pos
      have hkp2 : y.done = x.done ∧ y.rest = x.rest ∧ y.cnt = x.cnt ∧ y.vals.length ≤ x.vals.length ∧ ∀ v ∈ y.vals, v ∈ x.vals := by rw [hy]; exact hkp
      obtain ⟨y1, y2, y3, y4, y5⟩ := hkp2
      have hhX : h < w.heap.size ∧ X < w.heap.size := by
        obtain ⟨_, _, _, g1, _, _, _, g5, _⟩ := H
        obtain ⟨es, ck, hm⟩ := mapA_obj g5
        unfold ExC at g1
        rw [Array.getElem?_eq_some_iff] at g1 hm
        exact ⟨hm.1, g1.1⟩
      obtain ⟨hhl, hXl⟩ := hhX
      obtain ⟨sb, hsb⟩ : ∃ sb, sb = subL al y t := ⟨_, rfl⟩
      rw [← hsb] at hst
      have hsbs : sb.1.size ≤ 1000000 := by
        rw [hsb]
        unfold subL
        split
        · exact getL_size hav
        · exact Nat.zero_le _
      have HY := Lib.hid hy
      have HSB := Lib.hid hsb
      have HKP := Lib.hid (And.intro y1 (And.intro y2 (And.intro y3 (And.intro y4 y5))))
      have HST := Lib.hid hst
      clear hst hk5 H hy hsb hkp y1 y2 y3 y4 y5
      obtain ⟨SR, hSR⟩ : ∃ SR, Hid (SR = stepX al x) := ⟨_, Lib.hid rfl⟩
      rw [← hSR.out]
      have hRs : R.size ≤ 16384 := by rw [hR]; exact r1
      have Hr := Lib.hid (And.intro r1 (And.intro r2 (And.intro r3 r4)))
      have HR := Lib.hid hR
      clear hR r1 r2 r3 r4 hok2
      go_enter Tryz.func47, Tryz.ntmps47
      go_wp2_with fail
      refine HN2.out.mono ?_
      rintro e w2 ⟨rfl, hb2⟩
      have hb3 := (hb2.mono hB).alloc (show B ≤ w2.heap.size by have := hb2.size; omega) (tokObj t)
      have hE3 : ExAt B X h (.slice A al.length c) x (w2.alloc (tokObj t)) := exAt_keep HH.out (fun k hk => (Below.heap_alloc _ _ _ (by have := hb2.size; omega)).trans (hb2.block k hk))
      have hT3 : (w2.alloc (tokObj t)).heap[w2.heap.size]? = some (tokObj t) := heap_alloc_new _ _
      obtain ⟨w3, hw3⟩ : ∃ w3, w3 = w2.alloc (tokObj t) := ⟨_, rfl⟩
      rw [← hw3] at hb3 hE3 hT3
      have hTw : w.heap.size ≤ w2.heap.size := hb2.size
      have hT3l : w2.heap.size < w3.heap.size := by rw [Array.getElem?_eq_some_iff] at hT3; exact hT3.1
      obtain ⟨r1, r2, r3, r4⟩ := Hr.out
      have HL := Lib.hid (leave_c B X h t.pos (.slice A al.length c) x w3 hE3 (by omega) hv (by omega) (by omega))
      obtain ⟨k0, k1, k2, k3⟩ := tok_at hT3
      have HT3 := Lib.hid hT3
      have hWe : w2.alloc (.cells #[.int .i64 t.kind, .int .i64 t.pos, .int .i64 t.fin, .string t.text] 118) = w3 := hw3.symm
      clear hE3 hT3 hw3 hb2 c2 r1 r2 r3 r4
      go_wp2_with fail
      refine HL.out.mono ?_
      rintro e w4 ⟨rfl, hE4, hb4, hkk⟩
      rw [← HY.out] at hE4
      have hT4 : w4.heap[w2.heap.size]? = some (tokObj t) := (hkk _ (by omega) (by omega) hT3l).trans HT3.out
      have hbw4 : Below B w w4 := hb3.trans hb4
      obtain ⟨r1, r2, r3, r4⟩ := Hr.out
      have HS := Lib.hid (subst_c B X h A c al y t w4 hE4 (alAt_below hA hbw4 (Nat.le_refl _)) hl (by omega) (by have := hbw4.size; omega))
      have hT4l : w2.heap.size < w4.heap.size := by rw [Array.getElem?_eq_some_iff] at hT4; exact hT4.1
      have HS2 : Hid (Calls Tryz.prog 75 #[.pointer (some ⟨X, 0, none⟩), .agg #[.int .i64 t.kind, .int .i64 t.pos, .int .i64 t.fin, .string t.text]] w4 fun e w' => e = .returned (.tuple #[.string sb.1, .bool sb.2]) ∧ Below w4.heap.size w4 w') := Lib.hid (by
        rw [HSB.out]
        exact HS.out)
      clear HS HL hb4 hkk hWe k0 k1 k2 k3 HT3
      obtain ⟨k0, k1, k2, k3⟩ := tok_at hT4
      have HE4 := Lib.hid hE4
      have HT4 := Lib.hid hT4
      clear hE4 hT4 r1 r2 r3 r4
      go_wp2_with fail
      refine HS2.out.mono ?_
      rintro e w5 ⟨rfl, hb5⟩
      have hE5 : ExAt B X h (.slice A al.length c) y w5 := exAt_keep HE4.out (fun k hk => hb5.block k hk)
      have hT5 : w5.heap[w2.heap.size]? = some (tokObj t) := (hb5.block _ hT4l).trans HT4.out
      have hbw5 : Below B w w5 := hbw4.trans (hb5.mono (by omega))
      obtain ⟨j0, j1, j2, j3⟩ := tok_at hT5
      have hB5 : B ≤ w5.heap.size := by have := hbw5.size; omega
      obtain ⟨y1, y2, y3, y4, y5⟩ := HKP.out
      obtain ⟨r1, r2, r3, r4⟩ := Hr.out
      have HR5 := Lib.hid (replace_c B X h (.slice A al.length c) y t sb.1 w5 hE5 (by rw [y1, y2]; omega) (by omega) (by omega) (by omega) (by omega) (by rw [y2]; omega) (by rw [y2]; omega) hB5)
      have HP5 := Lib.hid (pass_c B X h (.slice A al.length c) y t w5 hE5 (by rw [y1, y2]; omega) (by rw [y2]; omega) hB5 hn1 hn2)
      clear y1 y2 y3 y4 y5 r1 r2 r3 r4 hE5 hT5 k0 k1 k2 k3 hb5
      obtain ⟨s1, s2⟩ := sb
      simp only at HR5 HP5
      rcases s2 with _ | _
      · have hfin : SR = some (passX y t) := by rw [hSR.out, HST.out]; rfl
        subst hfin
        go_wp2_with fail
        refine HP5.out.mono ?_
        rintro e w6 ⟨rfl, hE6, hb6⟩
        have HE6 := Lib.hid hE6
        have hb7 := hbw5.trans hb6
        clear hE6
        go_wp2_with fail
        go_ret
        exact ⟨rfl, HE6.out, hb7⟩
      · have hfin : SR = some (repX y t s1) := by rw [hSR.out, HST.out]; rfl
        subst hfin
        go_wp2_with fail
        refine HR5.out.mono ?_
        rintro e w6 ⟨rfl, hE6, hb6⟩
        have HE6 := Lib.hid hE6
        have hb7 := hbw5.trans hb6
        clear hE6
        go_wp2_with fail
        go_ret
        exact ⟨rfl, HE6.out, hb7⟩
  · have HE : ∃ E : Int, E = (er : Int) ∧ (E != 0) = true := ⟨_, rfl, by rw [bne_iff_ne]; omega⟩
    obtain ⟨E, hE, tE⟩ := HE
    rw [if_pos her] at hst
    rw [hst]
    rw [← hE] at HN2
    clear hst her hE H hR
    go_enter Tryz.func47, Tryz.ntmps47
    go_wp2_with fail
    refine HN2.out.mono ?_
    rintro e w2 ⟨rfl, hb2⟩
    have hb3 := (hb2.mono hB).alloc (show B ≤ w2.heap.size by have := hb2.size; omega) (tokObj t)
    have hE3 : ExAt B X h (.slice A al.length c) x (w2.alloc (tokObj t)) := exAt_keep HH.out (fun k hk => (Below.heap_alloc _ _ _ (by have := hb2.size; omega)).trans (hb2.block k hk))
    have HE3 := Lib.hid hE3
    unfold tokObj at HE3 hb3
    clear hE3
    go_wp2_with fail
    go_ret
    exact ⟨rfl, HE3.out, hb3⟩
end Go.Proofs.YticehbhedoploaaGreatDoor
