/- The reference's TakeTexts, SameTexts. -/
import Derived.Test.YtdjphpobhbelaaaKRText
namespace Go.Proofs.Ytdjphpobhbelaaa
open Go.RowKit
set_option linter.unusedVariables false

set_option maxHeartbeats 4000000 in
set_option maxRecDepth 100000 in
theorem rtakeTexts_c (A : Option Addr) (l : List UInt8) (c : Nat) (w : World) (hA : ByAt w w.heap.size A l) (hl : l.length ≤ 1000000) (hc : l.length ≤ c) (hm : c ≤ maxLen) :
    Calls Try.prog 17 #[.slice A l.length c] w fun e w' => ∃ v, e = .returned (.tuple #[v, .int .i64 (takeL l).2.1, .int .i64 (takeL l).2.2]) ∧ OwnT w' w.heap.size v (takeL l).1 ∧ Below w.heap.size w w' := by
  have hL : takeL l = if (takeN l).2.2 ≠ 0 then ([], 0, (takeN l).2.2) else if l.length - (takeN l).2.1 < (takeN l).1 then ([], 0, 28) else comb [] (takeN l).2.1 (loopT (takeN l).1 (l.drop (takeN l).2.1)) := rfl
  have hN : takeN l = if (takeI l).2.2 ≠ 0 then (0, 0, (takeI l).2.2) else if (takeI l).1 < 0 then (0, 0, 6) else ((takeI l).1.toNat, (takeI l).2.1, 0) := rfl
  have hfit := takeI_fits l
  have hti := rtakeInt_c w.heap.size A l c w hA hl
  obtain ⟨i0, hi, hz0, hz1, hz2⟩ := info_parts strInfo
  generalize takeL l = R at *
  generalize takeN l = N at *
  generalize takeI l = T at *
  obtain ⟨tn, tu, te⟩ := T
  simp only at hN hti hfit
  have Hti := Lib.hid hti
  clear hti
  have hmx : maxLen = 9223372036854775807 := rfl
  by_cases he : te ≠ 0
  · rw [if_pos he] at hN
    subst hN
    simp only [he, ne_eq, not_false_eq_true, if_true] at hL
    subst hL
    have t1 : ((te : Int) != 0) = true := by rw [bne_iff_ne]; omega
    go_enter Try.func17, Try.ntmps17
    go_wp2_with fail
    refine Hti.out.mono ?_
    rintro e w1 ⟨rfl, rfl⟩
    go_wp2_with fail
    go_ret3
    exact ⟨_, rfl, ownT_nil _ _, Below.refl _ _⟩
  have he0 : te = 0 := by omega
  subst he0
  rw [if_neg he] at hN
  by_cases hneg : tn < 0
  · rw [if_pos hneg] at hN
    subst hN
    simp at hL
    subst hL
    have t1 : decide (tn < 0) = true := decide_eq_true hneg
    go_enter Try.func17, Try.ntmps17
    go_wp2_with fail
    refine Hti.out.mono ?_
    rintro e w1 ⟨rfl, rfl⟩
    go_wp2_with fail
    go_ret3
    exact ⟨_, rfl, ownT_nil _ _, Below.refl _ _⟩
  rw [if_neg hneg] at hN
  obtain ⟨k, rfl⟩ := Int.eq_ofNat_of_zero_le (show 0 ≤ tn by omega)
  rw [Int.toNat_natCast] at hN
  subst hN
  simp only [ne_eq, not_true_eq_false, if_false] at hL
  have t1 : decide ((k : Int) < 0) = false := decide_eq_false (by omega)
  have i0' : (tu : Int) ≤ (l.length : Int) := by omega
  by_cases hsh : l.length - tu < k
  · rw [if_pos hsh] at hL
    subst hL
    have t2 : decide ((l.length : Int) - (tu : Int) < (k : Int)) = true := decide_eq_true (by omega)
    go_enter Try.func17, Try.ntmps17
    go_wp2_with fail
    refine Hti.out.mono ?_
    rintro e w1 ⟨rfl, rfl⟩
    go_wp2_with fail
    go_ret3
    exact ⟨_, rfl, ownT_nil _ _, Below.refl _ _⟩
  rw [if_neg hsh] at hL
  have t2 : decide ((l.length : Int) - (tu : Int) < (k : Int)) = false := decide_eq_false (by omega)
  have HL : Hid (R = comb [] tu (loopT k (l.drop tu))) := Lib.hid hL
  clear hL
  obtain ⟨rs, ru, re⟩ := R
  go_enter Try.func17, Try.ntmps17
  go_wp2_with fail
  refine Hti.out.mono ?_
  rintro e w1 ⟨rfl, rfl⟩
  clear Hti
  go_wp2_with fail
  go_loopw [8, 6, 9] (fun ov av iv wr => ∃ (j off : Nat) (acc : List (List UInt8)), iv = .int .i64 j ∧ av = .int .i64 off ∧ j ≤ k ∧ acc.length = j ∧ off ≤ l.length ∧ OwnT wr w.heap.size ov acc ∧ Below w.heap.size w wr ∧ Hid ((rs, ru, re) = comb acc off (loopT (k - j) (l.drop off)))) (fun _ _ iv _ => k - (intOf iv).toNat)
  case atStart => exact ⟨0, tu, [], rfl, rfl, by omega, rfl, by omega, ownT_nil _ _, Below.refl _ _, HL⟩
  case round =>
    obtain ⟨j, off, acc, rfl, rfl, hj, hal, hoff, ho, hb, hx⟩ := hrel
    by_cases hlt : j < k
    · have d1 : decide ((j : Int) < (k : Int)) = true := decide_eq_true (by omega)
      have d1' : decide (j < k) = true := decide_eq_true hlt
      have hwr := hb.size
      have hA2 := byAt_from (byAt_below hA hb (Nat.le_refl _)) off c hc (by omega)
      have htx := rtakeText_c w.heap.size _ (l.drop off) (c - off) wr hA2 (by rw [List.length_drop]; omega) (by rw [List.length_drop]; omega) (by omega)
      rw [List.length_drop] at htx
      have hx2 := hx.out
      rw [show k - j = (k - (j + 1)) + 1 from by omega] at hx2
      have hfit2 := takeS_fits (l.drop off)
      rw [List.length_drop] at hfit2
      have i4 : (off : Int) ≤ (l.length : Int) := by omega
      have hAA : (∃ A3, (if off = c then A else A.map (·.add off)) = A3) := ⟨_, rfl⟩
      by_cases hte : (takeS (l.drop off)).2.2 ≠ 0
      · have hre : (rs, ru, re) = ([], 0, (takeS (l.drop off)).2.2) := by
          rw [hx2, loopT, if_pos hte]
          simp [comb, hte]
        simp only [Prod.mk.injEq] at hre
        obtain ⟨rfl, rfl, rfl⟩ := hre
        have t3 : (((takeS (l.drop off)).2.2 : Int) != 0) = true := by rw [bne_iff_ne]; omega
        by_cases hoc : off = c
        · rw [if_pos hoc] at htx
          subst hoc
          have hll : l.length = off := by omega
          rw [hll, Nat.sub_self] at htx
          have Htx := Lib.hid htx
          clear htx hx hx2 hA hA2
          go_wp2_with fail
          refine Htx.out.mono ?_
          rintro e w2 ⟨rfl, rfl⟩
          go_wp2_with fail
          go_ret3
          exact ⟨_, rfl, ownT_nil _ _, hb⟩
        · rw [if_neg hoc] at htx
          have Htx := Lib.hid htx
          clear htx hx hx2 hA hA2
          go_wp2_with fail
          refine Htx.out.mono ?_
          rintro e w2 ⟨rfl, rfl⟩
          go_wp2_with fail
          go_ret3
          exact ⟨_, rfl, ownT_nil _ _, hb⟩
      · have hte0 : (takeS (l.drop off)).2.2 = 0 := by omega
        rw [comb_step _ _ _ _ hte0, List.drop_drop] at hx2
        have Hx2 := Lib.hid hx2
        have hoc : ¬ off = c := by
          intro h
          have h1 : l.drop off = [] := List.drop_of_length_le (by omega)
          rw [h1] at hte0
          exact absurd hte0 (by decide)
        rw [if_neg hoc] at htx
        have Htx := Lib.hid htx
        clear htx hx hx2 hte hAA
        generalize takeS (l.drop off) = S at *
        obtain ⟨ts, tsu, tse⟩ := S
        simp only at hte0 hfit2
        subst hte0
        go_wp2_with fail
        refine Htx.out.mono ?_
        rintro e w2 ⟨rfl, rfl⟩
        clear Htx
        have ho2a : (wr.alloc (.cells #[strV ts] 9)).ownsRow w.heap.size 9 1 _ acc.length (acc.map strV) := World.ownsRow.alloc ho _
        go_wp2_with (at_builtin; refine wpList_append_own _ rfl _ _ 36 rfl w.heap.size 9 i0 (.string ByteArray.empty) 1 16 Try.underlying36 hi hz0 hz1 hz2 rfl (by decide) _ _ _ rfl ho2a ⟨wr.heap.size, 0, none⟩ 1 1 [strV ts] rfl rfl ?c1 ?c2 ?c3 ?c4 ?c5 ?_)
        case c1 =>
          intro i u hi'
          match i, hi' with
          | 0, hi' => simp at hi'; subst hi'; simp [Addr.add, strV]
        case c2 => intro u hu; simp at hu; subst hu; rfl
        case c3 => unfold maxLen; omega
        case c4 => omega
        case c5 => simp; omega
        intro v' w3 hown' hgrow _
        have hnew : OwnT w3 w.heap.size v' (acc ++ [ts]) := by
          unfold OwnT
          rw [List.map_append, List.length_append, hal]
          exact hown'
        have hb3 : Below w.heap.size wr w3 := ((Below.refl _ wr).alloc (by omega) _).grown hgrow (by simp; omega) (fun k hk => (ho2a.lt k hk).1)
        go_wp2_with fail
        go_roundw
        case rel => exact ⟨j + 1, off + tsu, acc ++ [ts], by go_num, by go_num, by omega, by simp; omega, by omega, hnew, hb.trans hb3, Hx2⟩
        case measure => simp [intOf]; omega
    · have hjn : j = k := by omega
      have d1 : decide ((j : Int) < (k : Int)) = false := decide_eq_false (by omega)
      have d1' : decide (j < k) = false := decide_eq_false hlt
      have hx2 := hx.out
      rw [hjn, Nat.sub_self] at hx2
      simp [loopT, comb] at hx2
      obtain ⟨rfl, rfl, rfl⟩ := hx2
      clear hx hjn
      go_wp2_with fail
      go_ret3
      exact ⟨_, rfl, ho, hb⟩
end Go.Proofs.Ytdjphpobhbelaaa
