/- arith: skipSpace, wordSize. -/
import Derived.Test.YtbiiempgefjkiaaDoorArC
import Derived.Test.YtbiiempgefjkiaaDoorArP
namespace Go.Proofs.YtbiiempgefjkiaaDoor.Ar
open Go.RowKit
set_option linter.unusedVariables false

theorem get_list {s : ByteArray} {k : Nat} (h : k < s.size) : s.data.toList[k]? = some s[k] := by
  rw [List.getElem?_eq_getElem (by simpa using h), ByteArray.getElem_eq_getElem_data, ← Array.getElem_toList]
set_option maxHeartbeats 2000000 in
theorem skipSpace_c (s : ByteArray) (p : Nat) (w : World) (hp : p ≤ s.size) (hs : s.size ≤ maxLen) :
    Calls Tryd.prog 46 #[.string s, .int .i64 p] w fun e w' => e = .returned (.int .i64 (spc s p : Nat)) ∧ w = w' := by
  unfold maxLen at hs
  obtain ⟨R, hR⟩ : ∃ R, R = spc s p := ⟨_, rfl⟩
  rw [← hR]
  have HR := Lib.hid hR
  clear hR
  go_enter Tryd.func46, Tryd.ntmps46
  go_wp2_with fail
  go_loop [1] (fun iv => ∃ k : Nat, k ≤ s.size ∧ iv = .int .i64 k ∧ Hid (R = spc s k)) (fun iv => s.size - (intOf iv).toNat)
  case atStart => exact ⟨p, hp, rfl, HR⟩
  case round =>
    obtain ⟨k, hk, rfl, hr⟩ := hrel
    by_cases hlt : k < s.size
    · have i1 : (k : Int) < (s.size : Int) := by omega
      have h9 := u8_eq s[k] 9
      have h10 := u8_eq s[k] 10
      have h32 := u8_eq s[k] 32
      simp only [show ((9 : UInt8).toNat : Int) = 9 from rfl, show ((10 : UInt8).toNat : Int) = 10 from rfl, show ((32 : UInt8).toNat : Int) = 32 from rfl] at h9 h10 h32
      have n9 : (s[k].toNat == 9) = decide (s[k] = 9) := by rw [← h9, Bool.eq_iff_iff, beq_iff_eq, beq_iff_eq]; omega
      have n10 : (s[k].toNat == 10) = decide (s[k] = 10) := by rw [← h10, Bool.eq_iff_iff, beq_iff_eq, beq_iff_eq]; omega
      have n32 : (s[k].toNat == 32) = decide (s[k] = 32) := by rw [← h32, Bool.eq_iff_iff, beq_iff_eq, beq_iff_eq]; omega
      by_cases hsp : isSp s[k] = true
      · have HQ : Hid (R = spc s (k + 1)) := Lib.hid (by rw [hr.out]; exact spc_step hlt s[k] (get_list hlt) hsp)
        unfold isSp at hsp
        rw [Bool.or_eq_true, Bool.or_eq_true, beq_iff_eq, beq_iff_eq, beq_iff_eq] at hsp
        clear hr HR
        rcases hsp with (h | h) | h
        · rw [decide_eq_true h] at h9 n9
          clear h h10 h32 n10 n32
          go_wp2_with fail
          go_round
          case rel => exact ⟨k + 1, by omega, by go_num, HQ⟩
          case measure => simp [intOf]; omega
        · have h' : s[k] ≠ 9 := by rw [h]; decide
          rw [decide_eq_true h] at h10 n10
          rw [decide_eq_false h'] at h9 n9
          clear h h' h32 n32
          go_wp2_with fail
          go_round
          case rel => exact ⟨k + 1, by omega, by go_num, HQ⟩
          case measure => simp [intOf]; omega
        · have h' : s[k] ≠ 9 := by rw [h]; decide
          have h'' : s[k] ≠ 10 := by rw [h]; decide
          rw [decide_eq_true h] at h32 n32
          rw [decide_eq_false h'] at h9 n9
          rw [decide_eq_false h''] at h10 n10
          clear h h' h''
          go_wp2_with fail
          go_round
          case rel => exact ⟨k + 1, by omega, by go_num, HQ⟩
          case measure => simp [intOf]; omega
      · have hsp' : isSp s[k] = false := by simpa using hsp
        have HQ : R = k := by rw [hr.out]; exact spc_stop s[k] (get_list hlt) hsp'
        unfold isSp at hsp'
        simp only [Bool.or_eq_false_iff, beq_eq_false_iff_ne] at hsp'
        obtain ⟨⟨a, b⟩, c⟩ := hsp'
        rw [decide_eq_false a] at h9 n9
        rw [decide_eq_false b] at h10 n10
        rw [decide_eq_false c] at h32 n32
        subst HQ
        clear hr HR a b c hsp
        go_wp2_with fail
        go_ret
        exact ⟨rfl, rfl⟩
    · obtain rfl : k = s.size := by omega
      have HQ : R = s.size := by rw [hr.out]; exact spc_end (Nat.le_refl _)
      subst HQ
      clear hr HR
      go_wp2_with fail
      go_ret
      exact ⟨rfl, rfl⟩
theorem name_one (s : ByteArray) (k : Nat) (h : k < s.size) : nameB (⟨#[95]⟩ ++ s.extract k (k + 1)) = wrdB s[k] := by
  have e : (⟨#[95]⟩ ++ s.extract k (k + 1) : ByteArray).data.toList = [95, s[k]] := by
    rw [ByteArray.data_append, ByteArray.data_extract, Array.toList_append, Array.toList_extract]
    have h1 : s.data.toList.length = s.size := by simp
    have h2 : List.extract s.data.toList k (k + 1) = [s[k]] := by
      rw [List.extract_eq_take_drop, show k + 1 - k = 1 by omega, List.drop_eq_getElem_cons (by omega), ByteArray.getElem_eq_getElem_data, ← Array.getElem_toList]
      rfl
    rw [h2]
    rfl
  have hz : (⟨#[95]⟩ ++ s.extract k (k + 1) : ByteArray).size = 2 := by
    rw [← len_toList, e]; rfl
  unfold nameB
  rw [hz, e]
  simp [nameL, ltrB]
theorem wrd_drop {s : ByteArray} {k : Nat} (h : k < s.size) : ((s.data.toList.drop k).takeWhile wrdB).length = if wrdB s[k] then ((s.data.toList.drop (k + 1)).takeWhile wrdB).length + 1 else 0 := by
  obtain ⟨hp, he⟩ := List.getElem?_eq_some_iff.1 (get_list h)
  rw [List.drop_eq_getElem_cons hp, he, List.takeWhile_cons]
  split <;> rfl
set_option maxHeartbeats 2000000 in
set_option maxRecDepth 100000 in
theorem wordSize_c (s : ByteArray) (w : World) (hs : s.size ≤ maxLen) :
    Calls Tryd.prog 62 #[.string s] w fun e w' => e = .returned (.int .i64 (wrdN s : Nat)) ∧ Below w.heap.size w w' := by
  unfold maxLen at hs
  obtain ⟨R, hR⟩ : ∃ R, R = wrdN s := ⟨_, rfl⟩
  rw [← hR]
  have HR := Lib.hid (show R = 0 + ((s.data.toList.drop 0).takeWhile wrdB).length by rw [hR, List.drop_zero, Nat.zero_add]; rfl)
  clear hR
  go_enter Tryd.func62, Tryd.ntmps62
  go_wp2_with fail
  go_loopw [3] (fun iv wr => ∃ k : Nat, k ≤ s.size ∧ iv = .int .i64 k ∧ Below w.heap.size w wr ∧ Hid (R = k + ((s.data.toList.drop k).takeWhile wrdB).length)) (fun iv _ => s.size - (intOf iv).toNat)
  case atStart => exact ⟨0, by omega, rfl, Below.refl _ _, HR⟩
  case round =>
    obtain ⟨k, hk, rfl, hb, hr⟩ := hrel
    by_cases hlt : k < s.size
    · have i1 : (k : Int) < (s.size : Int) := by omega
      have i2 : (k : Int) + 1 ≤ (s.size : Int) := by omega
      have i3 : (0 : Int) ≤ (k : Int) + 1 := by omega
      have i4 : ((k : Int) + 1).toNat = k + 1 := by omega
      have i5 : (k : Int) ≤ (k : Int) + 1 := by omega
      have hr1 := hr.out
      rw [wrd_drop hlt] at hr1
      have HN := Lib.hid (name_ok (⟨#[95]⟩ ++ s.extract k (k + 1)) wr)
      rw [name_one s k hlt] at HN
      rcases hwb : wrdB s[k] with _ | _
      · rw [hwb] at HN
        have hR2 : R = k := by rw [hr1, hwb]; rfl
        subst hR2
        clear hr hr1 HR hwb
        go_wp2_with fail
        refine HN.out.mono ?_
        rintro e w1 ⟨rfl, hb1⟩
        have hb2 := hb.trans (hb1.mono hb.size)
        clear HN hb1
        go_wp2_with fail
        go_ret
        exact ⟨rfl, hb2⟩
      · rw [hwb] at HN
        have HQ : Hid (R = (k + 1) + ((s.data.toList.drop (k + 1)).takeWhile wrdB).length) := Lib.hid (by rw [hr1, hwb, if_pos rfl]; omega)
        clear hr hr1 HR hwb
        go_wp2_with fail
        refine HN.out.mono ?_
        rintro e w1 ⟨rfl, hb1⟩
        have hb2 := hb.trans (hb1.mono hb.size)
        clear HN hb1
        go_wp2_with fail
        go_roundw
        case rel => exact ⟨k + 1, by omega, by go_num, hb2, HQ⟩
        case measure => simp [intOf]; omega
    · obtain rfl : k = s.size := by omega
      have HQ : R = s.size := by rw [hr.out, List.drop_of_length_le (by simp)]; rfl
      subst HQ
      clear hr HR
      go_wp2_with fail
      go_ret
      exact ⟨rfl, hb⟩
end Go.Proofs.YtbiiempgefjkiaaDoor.Ar
