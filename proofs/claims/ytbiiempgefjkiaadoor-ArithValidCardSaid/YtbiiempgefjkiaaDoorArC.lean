/- arith: constants: digitValue, split, Value. -/
import Derived.Test.YtbiiempgefjkiaaDoorArV
namespace Go.Proofs.YtbiiempgefjkiaaDoor.Ar
open Go.RowKit
set_option linter.unusedVariables false

set_option maxHeartbeats 2000000 in
theorem digitValue_c (b : UInt8) (w : World) :
    Calls Tryd.prog 101 #[.int .u8 b.toNat] w fun e w' => e = .returned (.tuple #[.int .u64 (dgV b).1, .bool (dgV b).2]) ∧ w = w' := by
  unfold dgV
  have hb := UInt8.toNat_lt b
  generalize b.toNat = n at *
  by_cases h1 : 48 ≤ n ∧ n ≤ 57
  · rw [if_pos h1]
    have e1 : (((n - 48 : Nat) : Nat) : Int) = (n : Int) - 48 := by omega
    have g1 : (48 : Int) ≤ (n : Int) := by omega
    have g2 : (n : Int) ≤ 57 := by omega
    rw [e1]
    clear e1 h1
    go_enter Tryd.func101, Tryd.ntmps101
    go_wp2_with fail
    go_ret2
    exact ⟨rfl, rfl⟩
  rw [if_neg h1]
  by_cases h2 : 97 ≤ n ∧ n ≤ 102
  · rw [if_pos h2]
    have e1 : (((n - 97 + 10 : Nat) : Nat) : Int) = (n : Int) - 97 + 10 := by omega
    have g0 : ¬ (n : Int) ≤ 57 := by omega
    have g1 : (97 : Int) ≤ (n : Int) := by omega
    have g2 : (n : Int) ≤ 102 := by omega
    rw [e1]
    clear e1 h1 h2
    go_enter Tryd.func101, Tryd.ntmps101
    go_wp2_with fail
    all_goals go_ret2
    all_goals exact ⟨rfl, rfl⟩
  rw [if_neg h2]
  by_cases h3 : 65 ≤ n ∧ n ≤ 70
  · rw [if_pos h3]
    have e1 : (((n - 65 + 10 : Nat) : Nat) : Int) = (n : Int) - 65 + 10 := by omega
    have g0 : ¬ (n : Int) ≤ 57 := by omega
    have g1 : (65 : Int) ≤ (n : Int) := by omega
    have g2 : (n : Int) ≤ 70 := by omega
    have g3 : ¬ (97 : Int) ≤ (n : Int) := by omega
    rw [e1]
    clear e1 h1 h2 h3
    go_enter Tryd.func101, Tryd.ntmps101
    go_wp2_with fail
    all_goals go_ret2
    all_goals exact ⟨rfl, rfl⟩
  rw [if_neg h3]
  have k1 : (n < 48) ∨ (57 < n ∧ n < 65) ∨ (70 < n ∧ n < 97) ∨ 102 < n := by omega
  clear h1 h2 h3
  rcases k1 with k1 | ⟨k1, k2⟩ | ⟨k1, k2⟩ | k1
  · have g0 : ¬ (48 : Int) ≤ (n : Int) := by omega
    have g1 : ¬ (97 : Int) ≤ (n : Int) := by omega
    have g2 : ¬ (65 : Int) ≤ (n : Int) := by omega
    go_enter Tryd.func101, Tryd.ntmps101
    go_wp2_with fail
    go_ret2
    exact ⟨rfl, rfl⟩
  · have g0 : ¬ (n : Int) ≤ 57 := by omega
    have g1 : ¬ (97 : Int) ≤ (n : Int) := by omega
    have g2 : ¬ (65 : Int) ≤ (n : Int) := by omega
    go_enter Tryd.func101, Tryd.ntmps101
    go_wp2_with fail
    all_goals go_ret2
    all_goals exact ⟨rfl, rfl⟩
  · have g0 : ¬ (n : Int) ≤ 57 := by omega
    have g1 : ¬ (97 : Int) ≤ (n : Int) := by omega
    have g2 : ¬ (n : Int) ≤ 70 := by omega
    go_enter Tryd.func101, Tryd.ntmps101
    go_wp2_with fail
    all_goals go_ret2
    all_goals exact ⟨rfl, rfl⟩
  · have g0 : ¬ (n : Int) ≤ 57 := by omega
    have g1 : ¬ (n : Int) ≤ 102 := by omega
    have g2 : ¬ (n : Int) ≤ 70 := by omega
    go_enter Tryd.func101, Tryd.ntmps101
    go_wp2_with fail
    all_goals go_ret2
    all_goals exact ⟨rfl, rfl⟩
theorem bt_at {s : ByteArray} {i : Nat} (h : i < s.size) : btA s i = s[i] := by
  unfold btA
  rw [List.getD_eq_getElem?_getD, List.getElem?_eq_getElem (by simpa using h), ByteArray.getElem_eq_getElem_data, ← Array.getElem_toList]
  rfl
theorem u8_eq (b c : UInt8) : ((b.toNat : Int) == (c.toNat : Int)) = decide (b = c) := by
  rw [Bool.eq_iff_iff, beq_iff_eq, decide_eq_true_iff]
  constructor
  · intro h; exact UInt8.toNat_inj.1 (by omega)
  · intro h; rw [h]
theorem toList_nil {s : ByteArray} (h : s.size = 0) : s.toList = [] := by
  rw [ByteArray.toList_eq]
  exact List.eq_nil_of_length_eq_zero (by simpa using h)
set_option maxHeartbeats 2000000 in
theorem split_c (s : ByteArray) (w : World) :
    Calls Tryd.prog 100 #[.string s] w fun e w' => e = .returned (.tuple #[.int .u64 (splitC s).1, .string (splitC s).2.1, .bool (splitC s).2.2]) ∧ Below w.heap.size w w' := by
  have hes := env_size s
  unfold splitC
  by_cases h0 : s.size = 0
  · rw [if_pos h0]
    have e0 : s.toList = [] := toList_nil h0
    have e1 : s.toList.isEmpty = true := by rw [e0]; rfl
    clear hes h0
    go_enter Tryd.func100, Tryd.ntmps100
    go_wp2_with fail
    exact bodyPost_ret (v := .tuple #[.int .u64 0, .string ⟨#[]⟩, .bool false]) (by simp [results, Tryd.results100, go_sem]) rfl ⟨rfl, Below.refl _ _⟩
  rw [if_neg h0]
  have e1 : s.toList.isEmpty = false := by rw [hes, beq_eq_false_iff_ne]; exact h0
  have i0 : (0 : Int) < (s.size : Int) := by omega
  have i0' : 0 < s.size := by omega
  rw [bt_at i0']
  have hu := u8_eq s[0] 48
  simp only [show ((48 : UInt8).toNat : Int) = 48 from rfl] at hu
  by_cases h1 : s[0] = 48
  · rw [if_pos h1]
    have t1 : ((s[0].toNat : Int) != 48) = false := by unfold bne; rw [hu, decide_eq_true h1]; rfl
    have t1' : (s[0].toNat != 48) = false := by rw [h1]; rfl
    by_cases h2 : 1 < s.size
    · have i1 : (1 : Int) < (s.size : Int) := by omega
      rw [bt_at h2]
      have hv := u8_eq s[1] 120
      have hv2 := u8_eq s[1] 88
      simp only [show ((120 : UInt8).toNat : Int) = 120 from rfl, show ((88 : UInt8).toNat : Int) = 88 from rfl] at hv hv2
      by_cases h3 : s[1] = 120
      · rw [if_pos ⟨h2, .inl h3⟩]
        rw [decide_eq_true h3] at hv
        have t2 : (s[1].toNat == 120) = true := by rw [h3]; rfl
        have i2 : (2 : Int) ≤ (s.size : Int) := by omega
        have hdd : decide (2 < s.size) = decide ((2 : Int) < (s.size : Int)) := by rw [Bool.eq_iff_iff, decide_eq_true_iff, decide_eq_true_iff]; omega
        rw [hdd]
        clear hes hu h1 h3 hv2 hdd
        go_enter Tryd.func100, Tryd.ntmps100
        go_wp2_with fail
        go_quiet (fail)
        go_wp2_with fail
        exact bodyPost_ret (v := .tuple #[.int .u64 16, .string (s.extract 2 s.size), .bool (decide ((2 : Int) < (s.size : Int)))]) (by simp [results, Tryd.results100, go_sem]) rfl ⟨rfl, below_drewN' (Below.refl _ _) _⟩
      · by_cases h4 : s[1] = 88
        · rw [if_pos ⟨h2, .inr h4⟩]
          rw [decide_eq_false h3] at hv
          rw [decide_eq_true h4] at hv2
          have t2 : (s[1].toNat == 120) = false := by rw [h4]; rfl
          have t3 : (s[1].toNat == 88) = true := by rw [h4]; rfl
          have i2 : (2 : Int) ≤ (s.size : Int) := by omega
          have hdd : decide (2 < s.size) = decide ((2 : Int) < (s.size : Int)) := by rw [Bool.eq_iff_iff, decide_eq_true_iff, decide_eq_true_iff]; omega
          rw [hdd]
          clear hes hu h1 h3 h4 hdd
          go_enter Tryd.func100, Tryd.ntmps100
          go_wp2_with fail
          go_quiet (fail)
          go_wp2_with fail
          exact bodyPost_ret (v := .tuple #[.int .u64 16, .string (s.extract 2 s.size), .bool (decide ((2 : Int) < (s.size : Int)))]) (by simp [results, Tryd.results100, go_sem]) rfl ⟨rfl, below_drewN' (Below.refl _ _) _⟩
        · rw [if_neg (by rintro ⟨_, h | h⟩; exact h3 h; exact h4 h)]
          rw [decide_eq_false h3] at hv
          rw [decide_eq_false h4] at hv2
          have t2 : (s[1].toNat == 120) = false := by rw [beq_eq_false_iff_ne]; intro h; exact h3 (UInt8.toNat_inj.1 h)
          have t3 : (s[1].toNat == 88) = false := by rw [beq_eq_false_iff_ne]; intro h; exact h4 (UInt8.toNat_inj.1 h)
          clear hes hu h1 h3 h4
          go_enter Tryd.func100, Tryd.ntmps100
          go_wp2_with fail
          exact bodyPost_ret (v := .tuple #[.int .u64 8, .string s, .bool true]) (by simp [results, Tryd.results100, go_sem]) rfl ⟨rfl, Below.refl _ _⟩
    · rw [if_neg (by rintro ⟨h, _⟩; exact h2 h)]
      have i1 : ¬ (1 : Int) < (s.size : Int) := by omega
      have d1 : decide ((1 : Int) < (s.size : Int)) = false := decide_eq_false i1
      clear hes hu h1
      go_enter Tryd.func100, Tryd.ntmps100
      go_wp2_with fail
      exact bodyPost_ret (v := .tuple #[.int .u64 8, .string s, .bool true]) (by simp [results, Tryd.results100, go_sem]) rfl ⟨rfl, Below.refl _ _⟩
  · rw [if_neg h1]
    have t1 : ((s[0].toNat : Int) != 48) = true := by unfold bne; rw [hu, decide_eq_false h1]; rfl
    have t1' : (s[0].toNat != 48) = true := by rw [bne_iff_ne]; intro h; exact h1 (UInt8.toNat_inj.1 h)
    clear hes hu h1
    go_enter Tryd.func100, Tryd.ntmps100
    go_wp2_with fail
    exact bodyPost_ret (v := .tuple #[.int .u64 10, .string s, .bool true]) (by simp [results, Tryd.results100, go_sem]) rfl ⟨rfl, Below.refl _ _⟩
end Go.Proofs.YtbiiempgefjkiaaDoor.Ar
