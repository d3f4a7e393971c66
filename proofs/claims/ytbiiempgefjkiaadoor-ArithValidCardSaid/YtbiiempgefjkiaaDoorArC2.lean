/- arith: constant.Value; the parser's number. -/
import Derived.Test.YtbiiempgefjkiaaDoorArC
import Derived.Test.YtbiiempgefjkiaaDoorArP
import Derived.IntWalk
namespace Go.Proofs.YtbiiempgefjkiaaDoor.Ar
open Go.RowKit
set_option linter.unusedVariables false

theorem splitC_base {s : ByteArray} (h : (splitC s).2.2 = true) : (splitC s).1 = 8 ∨ (splitC s).1 = 10 ∨ (splitC s).1 = 16 := by
  unfold splitC at *
  by_cases h0 : s.size = 0
  · rw [if_pos h0] at h; simp at h
  · rw [if_neg h0] at h ⊢
    by_cases h1 : btA s 0 = 48
    · rw [if_pos h1]
      split
      · exact .inr (.inr rfl)
      · exact .inl rfl
    · rw [if_neg h1]
      exact .inr (.inl rfl)
theorem wrap_step (b v d : Nat) : IntKind.u64.wrap (IntKind.u64.wrap ((b : Int) * (v : Int)) + (d : Int)) = (((b * v + d) % 18446744073709551616 : Nat) : Int) := by
  rw [IntKind.wrap_u64, IntKind.wrap_u64]
  have e : (b : Int) * (v : Int) = ((b * v : Nat) : Int) := by simp
  rw [e]
  generalize b * v = P
  omega
theorem dgV_lt (b : UInt8) : (dgV b).1 < 16 := by
  unfold dgV
  split
  · show b.toNat - 48 < 16; omega
  · split
    · show b.toNat - 97 + 10 < 16; omega
    · split
      · show b.toNat - 65 + 10 < 16; omega
      · show 0 < 16; omega
set_option maxHeartbeats 4000000 in
set_option maxRecDepth 100000 in
theorem Value_c (s : ByteArray) (most : Nat) (w : World) (hm : most < 18446744073709551616) (hs : s.size ≤ maxLen) :
    Calls Tryd.prog 97 #[.string s, .int .u64 most] w fun e w' => e = .returned (.tuple #[.int .u64 (constC s most).1, .int .i64 (constC s most).2]) ∧ Below w.heap.size w w' := by
  have HS := Lib.hid (split_c s w)
  have hbase := splitC_base (s := s)
  unfold constC
  have hsz : (splitC s).2.1.size ≤ s.size := by
    unfold splitC
    split
    · exact Nat.zero_le _
    · split
      · split
        · simp only [ByteArray.size_extract]; omega
        · exact Nat.le_refl _
      · exact Nat.le_refl _
  generalize splitC s = S at *
  obtain ⟨base, ds, ok⟩ := S
  simp only at hbase hsz ⊢
  unfold maxLen at hs
  rcases ok with _ | _
  · rw [if_neg (by simp)]
    clear hbase
    go_enter Tryd.func97, Tryd.ntmps97
    go_wp2_with fail
    refine HS.out.mono ?_
    rintro e w1 ⟨rfl, hb⟩
    go_wp2_with fail
    go_ret2
    exact ⟨rfl, hb⟩
  rw [if_pos rfl]
  have hb0 := hbase rfl
  obtain ⟨R, hR⟩ : ∃ R, R = valC base most ds.data.toList 0 true := ⟨_, rfl⟩
  rw [← hR]
  have HR := Lib.hid hR
  clear hR hbase
  have hdl : ds.data.toList.length = ds.size := by simp
  have HDL := Lib.hid hdl
  clear hdl
  go_enter Tryd.func97, Tryd.ntmps97
  go_wp2_with fail
  refine HS.out.mono ?_
  rintro e w1 ⟨rfl, hb⟩
  have Hb := Lib.hid hb
  clear HS hb
  go_wp2_with fail
  go_loopw [9, 10, 24] (fun vv fv iv wr => ∃ (k v : Nat) (f : Bool), k ≤ ds.size ∧ vv = .int .u64 v ∧ fv = .bool f ∧ iv = .int .i64 k ∧ v < 18446744073709551616 ∧ wr = w1 ∧ Hid (R = valC base most (ds.data.toList.drop k) v f)) (fun _ _ iv _ => ds.size - (intOf iv).toNat)
  case atStart => exact ⟨0, 0, true, by omega, rfl, rfl, rfl, by omega, rfl, by rw [List.drop_zero]; exact HR⟩
  case round =>
    obtain ⟨k, v, f, hk, rfl, rfl, rfl, hv, rfl, hr⟩ := hrel
    by_cases hlt : k < ds.size
    · have i1 : (k : Int) < (ds.size : Int) := by omega
      have hr1 := hr.out
      rw [List.drop_eq_getElem_cons (by rw [HDL.out]; exact hlt), valC] at hr1
      have hge : ds.data.toList[k]'(by rw [HDL.out]; exact hlt) = ds[k] := by rw [ByteArray.getElem_eq_getElem_data, ← Array.getElem_toList]
      rw [hge] at hr1
      have HD := Lib.hid (digitValue_c ds[k])
      have hd16 := dgV_lt ds[k]
      generalize dgV ds[k] = Dg at *
      obtain ⟨d, okd⟩ := Dg
      simp only at hr1 hd16
      clear hr HR hge
      by_cases hbad : (okd && decide (d < base)) = true
      · rw [if_pos hbad] at hr1
        rw [Bool.and_eq_true, decide_eq_true_iff] at hbad
        obtain ⟨rfl, hdb⟩ := hbad
        have t1 : decide ((base : Int) ≤ (d : Int)) = false := decide_eq_false (by omega)
        have t1' : decide (base ≤ d) = false := decide_eq_false (by omega)
        have Hr1 := Lib.hid hr1
        clear hr1
        rcases f with _ | _
        · have HQ : Hid (R = valC base most (ds.data.toList.drop (k + 1)) ((base * v + d) % 18446744073709551616) false) := Lib.hid (by rw [Hr1.out]; rfl)
          clear Hr1
          go_wp2_with fail
          refine (HD.out _).mono ?_
          rintro e w2 ⟨rfl, rfl⟩
          go_wp2_with fail
          go_roundw
          case rel => exact ⟨k + 1, _, false, by omega, by rw [wrap_step], rfl, by go_num, Nat.mod_lt _ (by omega), trivial, HQ⟩
          case measure => simp [intOf]; omega
        · by_cases hdm : d ≤ most
          · have m1 : decide ((d : Int) ≤ (most : Int)) = true := decide_eq_true (by omega)
            have m1' : decide (d ≤ most) = true := decide_eq_true hdm
            have m2 : (d : Int) ≤ (most : Int) := by omega
            have hq : ((most : Int) - (d : Int)) / (base : Int) = (((most - d) / base : Nat) : Int) := by
              rw [show (most : Int) - (d : Int) = ((most - d : Nat) : Int) by omega]
              exact (Int.natCast_ediv _ _).symm
            have hqt : Int.tdiv ((most : Int) - (d : Int)) (base : Int) = (((most - d) / base : Nat) : Int) := by
              rw [show (most : Int) - (d : Int) = ((most - d : Nat) : Int) by omega]
              exact (Int.ofNat_tdiv _ _).symm
            have hb1 : ((base : Int) == 0) = false := by rw [beq_eq_false_iff_ne]; omega
            have hb2 : (base == 0) = false := by rw [beq_eq_false_iff_ne]; omega
            have hb3 : ¬ (base : Int) = 0 := by omega
            have hb4 : ¬ base = 0 := by omega
            have hw : IntKind.u64.wrap ((most : Int) - (d : Int)) = (most : Int) - (d : Int) := IntWalk.u64_in _ (by omega)
            have hq0 : (most - d) / base ≤ most := Nat.le_trans (Nat.div_le_self _ _) (Nat.sub_le _ _)
            generalize hQ : (most - d) / base = Q at *
            have hw2 : IntKind.u64.wrap (Q : Int) = (Q : Int) := IntWalk.u64_in _ (by clear hq hqt hQ; omega)
            by_cases hvq : v ≤ Q
            · have m3 : decide ((v : Int) ≤ (Q : Int)) = true := decide_eq_true (by omega)
              have m3' : decide (v ≤ Q) = true := decide_eq_true hvq
              have HQ : Hid (R = valC base most (ds.data.toList.drop (k + 1)) ((base * v + d) % 18446744073709551616) true) := Lib.hid (by rw [Hr1.out, m1', m3']; rfl)
              clear Hr1 hQ
              go_wp2_with fail
              refine (HD.out _).mono ?_
              rintro e w2 ⟨rfl, rfl⟩
              go_wp2_with fail
              go_roundw
              case rel => exact ⟨k + 1, _, true, by omega, by rw [wrap_step], rfl, by go_num, Nat.mod_lt _ (by omega), trivial, HQ⟩
              case measure => simp [intOf]; omega
            · have m3 : decide ((v : Int) ≤ (Q : Int)) = false := decide_eq_false (by omega)
              have m3' : decide (v ≤ Q) = false := decide_eq_false hvq
              have HQ : Hid (R = valC base most (ds.data.toList.drop (k + 1)) ((base * v + d) % 18446744073709551616) false) := Lib.hid (by rw [Hr1.out, m1', m3']; rfl)
              clear Hr1 hQ
              go_wp2_with fail
              refine (HD.out _).mono ?_
              rintro e w2 ⟨rfl, rfl⟩
              go_wp2_with fail
              go_roundw
              case rel => exact ⟨k + 1, _, false, by omega, by rw [wrap_step], rfl, by go_num, Nat.mod_lt _ (by omega), trivial, HQ⟩
              case measure => simp [intOf]; omega
          · have m1 : decide ((d : Int) ≤ (most : Int)) = false := decide_eq_false (by omega)
            have m1' : decide (d ≤ most) = false := decide_eq_false hdm
            have HQ : Hid (R = valC base most (ds.data.toList.drop (k + 1)) ((base * v + d) % 18446744073709551616) false) := Lib.hid (by rw [Hr1.out, m1']; rfl)
            clear Hr1
            go_wp2_with fail
            refine (HD.out _).mono ?_
            rintro e w2 ⟨rfl, rfl⟩
            go_wp2_with fail
            go_roundw
            case rel => exact ⟨k + 1, _, false, by omega, by rw [wrap_step], rfl, by go_num, Nat.mod_lt _ (by omega), trivial, HQ⟩
            case measure => simp [intOf]; omega
      · rw [if_neg hbad] at hr1
        subst hr1
        rcases okd with _ | _
        · clear hbad
          go_wp2_with fail
          refine (HD.out _).mono ?_
          rintro e w2 ⟨rfl, rfl⟩
          go_wp2_with fail
          go_ret2
          exact ⟨rfl, Hb.out⟩
        · have hdb : ¬ d < base := by simpa using hbad
          have t1 : decide ((base : Int) ≤ (d : Int)) = true := decide_eq_true (by omega)
          have t1' : decide (base ≤ d) = true := decide_eq_true (by omega)
          clear hbad
          go_wp2_with fail
          refine (HD.out _).mono ?_
          rintro e w2 ⟨rfl, rfl⟩
          go_wp2_with fail
          go_ret2
          exact ⟨rfl, Hb.out⟩
    · obtain rfl : k = ds.size := by omega
      have hr1 := hr.out
      rw [← HDL.out, List.drop_length, valC] at hr1
      rcases f with _ | _
      · have hR2 : R = (0, 14) := hr1
        subst hR2
        clear hr hr1 HR
        go_wp2_with fail
        go_ret2
        exact ⟨rfl, Hb.out⟩
      · have hR2 : R = (v, 0) := hr1
        subst hR2
        clear hr hr1 HR
        go_wp2_with fail
        go_ret2
        exact ⟨rfl, Hb.out⟩
end Go.Proofs.YtbiiempgefjkiaaDoor.Ar
