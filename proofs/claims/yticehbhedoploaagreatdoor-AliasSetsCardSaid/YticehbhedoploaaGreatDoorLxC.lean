/- lexer: the kinds of bytes, the ends of parameters. -/
import Derived.Test.YticehbhedoploaaGreatDoorLxM
import Derived.Test.YticehbhedoploaaGreatDoorShelf
namespace Go.Proofs.YticehbhedoploaaGreatDoor
open Go.RowKit
set_option linter.unusedVariables false

theorem opB_find (q : UInt8) : (opB q = true ↔ fndL q [38, 124, 59, 40, 41, 60, 62] < 7) := by
  have : ∀ q : UInt8, (opB q = true ↔ fndL q [38, 124, 59, 40, 41, 60, 62] < 7) := by
    intro q
    unfold opB
    simp only [fndL, List.contains_cons, List.contains_nil, Bool.or_false]
    by_cases h1 : q = 38
    · subst h1; decide
    by_cases h2 : q = 124
    · subst h2; decide
    by_cases h3 : q = 59
    · subst h3; decide
    by_cases h4 : q = 40
    · subst h4; decide
    by_cases h5 : q = 41
    · subst h5; decide
    by_cases h6 : q = 60
    · subst h6; decide
    by_cases h7 : q = 62
    · subst h7; decide
    have g1 : (38 == q) = false := beq_eq_false_iff_ne.2 (fun h => h1 h.symm)
    have g2 : (124 == q) = false := beq_eq_false_iff_ne.2 (fun h => h2 h.symm)
    have g3 : (59 == q) = false := beq_eq_false_iff_ne.2 (fun h => h3 h.symm)
    have g4 : (40 == q) = false := beq_eq_false_iff_ne.2 (fun h => h4 h.symm)
    have g5 : (41 == q) = false := beq_eq_false_iff_ne.2 (fun h => h5 h.symm)
    have g6 : (60 == q) = false := beq_eq_false_iff_ne.2 (fun h => h6 h.symm)
    have g7 : (62 == q) = false := beq_eq_false_iff_ne.2 (fun h => h7 h.symm)
    simp [g1, g2, g3, g4, g5, g6, g7, h1, h2, h3, h4, h5, h6, h7]
  exact this q
theorem speB_find (q : UInt8) : (speB q = true ↔ fndL q [64, 42, 35, 63, 45, 36, 33] < 7) := by
  unfold speB
  simp only [fndL, List.contains_cons, List.contains_nil, Bool.or_false]
  by_cases h1 : q = 64
  · subst h1; decide
  by_cases h2 : q = 42
  · subst h2; decide
  by_cases h3 : q = 35
  · subst h3; decide
  by_cases h4 : q = 63
  · subst h4; decide
  by_cases h5 : q = 45
  · subst h5; decide
  by_cases h6 : q = 36
  · subst h6; decide
  by_cases h7 : q = 33
  · subst h7; decide
  have g1 : (64 == q) = false := beq_eq_false_iff_ne.2 (fun h => h1 h.symm)
  have g2 : (42 == q) = false := beq_eq_false_iff_ne.2 (fun h => h2 h.symm)
  have g3 : (35 == q) = false := beq_eq_false_iff_ne.2 (fun h => h3 h.symm)
  have g4 : (63 == q) = false := beq_eq_false_iff_ne.2 (fun h => h4 h.symm)
  have g5 : (45 == q) = false := beq_eq_false_iff_ne.2 (fun h => h5 h.symm)
  have g6 : (36 == q) = false := beq_eq_false_iff_ne.2 (fun h => h6 h.symm)
  have g7 : (33 == q) = false := beq_eq_false_iff_ne.2 (fun h => h7 h.symm)
  simp [g1, g2, g3, g4, g5, g6, g7, h1, h2, h3, h4, h5, h6, h7]
theorem idxB_c (s : List UInt8) (q : UInt8) (w : World) :
    Calls Tryz.prog 127 #[.string ⟨s.toArray⟩, .int .u8 q.toNat] w fun e w' => e = .returned (.int .i64 (if fndL q s < s.length then (fndL q s : Int) else -1)) ∧ w = w' := by
  refine (Tryz.strings_IndexByte ⟨s.toArray⟩ q.toNat w).mono ?_
  rintro e w' ⟨rfl, rfl⟩
  refine ⟨?_, rfl⟩
  rw [← fndL_index]
  simp
set_option maxHeartbeats 4000000 in
set_option maxRecDepth 100000 in
theorem blank_c (q : UInt8) (w : World) : Calls Tryz.prog 149 #[.int .u8 q.toNat] w fun e w' => e = .returned (.bool (blankB q)) ∧ w = w' := by
  unfold blankB
  rcases h1 : (q == 32) with _ | _
  · rcases h2 : (q == 9) with _ | _
    all_goals
      have e1 : ((q.toNat : Int) == 32) = false := u8b h1 rfl
      first | have e2 : ((q.toNat : Int) == 9) = false := u8b h2 rfl
            | have e2 : ((q.toNat : Int) == 9) = true := u8b h2 rfl
      go_enter Tryz.func149, Tryz.ntmps149
      go_wp2_with fail
      go_ret
      exact ⟨rfl, rfl⟩
  · have e1 : ((q.toNat : Int) == 32) = true := u8b h1 rfl
    go_enter Tryz.func149, Tryz.ntmps149
    go_wp2_with fail
    go_ret
    exact ⟨rfl, rfl⟩
set_option maxHeartbeats 4000000 in
set_option maxRecDepth 100000 in
theorem operB_c (q : UInt8) (w : World) : Calls Tryz.prog 184 #[.int .u8 q.toNat] w fun e w' => e = .returned (.bool (opB q)) ∧ w = w' := by
  have hix := Lib.hid (idxB_c [38, 124, 59, 40, 41, 60, 62] q w)
  have hf := opB_find q
  have hl := fndL_le q [38, 124, 59, 40, 41, 60, 62]
  rcases ho : opB q with _ | _
  · rw [ho] at hf
    have : ¬ fndL q [38, 124, 59, 40, 41, 60, 62] < 7 := fun h => by have := hf.2 h; simp at this
    rw [if_neg (show ¬ fndL q [38, 124, 59, 40, 41, 60, 62] < ([38, 124, 59, 40, 41, 60, 62] : List UInt8).length from this)] at hix
    obtain ⟨m, hm⟩ : ∃ m : Int, m = -1 := ⟨-1, rfl⟩
    rw [← hm] at hix
    have d1 : decide ((0 : Int) ≤ m) = false := decide_eq_false (by omega)
    clear hm
    go_enter Tryz.func184, Tryz.ntmps184
    go_wp2_with fail
    refine hix.out.mono ?_
    rintro e w7 ⟨rfl, rfl⟩
    go_wp2_with fail
    go_ret
    exact ⟨rfl, rfl⟩
  · rw [ho] at hf
    have h7 := hf.1 rfl
    rw [if_pos (show fndL q [38, 124, 59, 40, 41, 60, 62] < ([38, 124, 59, 40, 41, 60, 62] : List UInt8).length from h7)] at hix
    obtain ⟨m, hm⟩ : ∃ m : Int, m = (fndL q [38, 124, 59, 40, 41, 60, 62] : Int) := ⟨_, rfl⟩
    rw [← hm] at hix
    have d1 : decide ((0 : Int) ≤ m) = true := decide_eq_true (by omega)
    clear hm
    go_enter Tryz.func184, Tryz.ntmps184
    go_wp2_with fail
    refine hix.out.mono ?_
    rintro e w7 ⟨rfl, rfl⟩
    go_wp2_with fail
    go_ret
    exact ⟨rfl, rfl⟩
set_option maxHeartbeats 4000000 in
set_option maxRecDepth 100000 in
theorem border_c (q : UInt8) (w : World) : Calls Tryz.prog 153 #[.int .u8 q.toNat] w fun e w' => e = .returned (.bool (borderB q)) ∧ w = w' := by
  have h1 := Lib.hid (blank_c q w)
  have h2 := Lib.hid (operB_c q w)
  unfold borderB
  rcases hb : blankB q with _ | _
  · rw [hb] at h1
    rcases h3 : (q == 10) with _ | _
    · have e1 : ((q.toNat : Int) == 10) = false := u8b h3 rfl
      generalize opB q = r at *
      simp only [Bool.false_or]
      go_enter Tryz.func153, Tryz.ntmps153
      go_wp2_with fail
      refine h1.out.mono ?_
      rintro e w7 ⟨rfl, rfl⟩
      go_wp2_with fail
      refine h2.out.mono ?_
      rintro e w7 ⟨rfl, rfl⟩
      go_wp2_with fail
      go_ret
      exact ⟨rfl, rfl⟩
    · have e1 : ((q.toNat : Int) == 10) = true := u8b h3 rfl
      go_enter Tryz.func153, Tryz.ntmps153
      go_wp2_with fail
      refine h1.out.mono ?_
      rintro e w7 ⟨rfl, rfl⟩
      go_wp2_with fail
      go_ret
      exact ⟨rfl, rfl⟩
  · rw [hb] at h1
    go_enter Tryz.func153, Tryz.ntmps153
    go_wp2_with fail
    refine h1.out.mono ?_
    rintro e w7 ⟨rfl, rfl⟩
    go_wp2_with fail
    go_ret
    exact ⟨rfl, rfl⟩
set_option maxHeartbeats 4000000 in
set_option maxRecDepth 100000 in
theorem digB_c (q : UInt8) (w : World) : Calls Tryz.prog 254 #[.int .u8 q.toNat] w fun e w' => e = .returned (.bool (digB q)) ∧ w = w' := by
  unfold digB
  generalize q.toNat = n
  by_cases h1 : 48 ≤ n
  · have e1 : decide ((48 : Int) ≤ (n : Int)) = true := decide_eq_true (by omega)
    have e1' : decide (48 ≤ n) = true := decide_eq_true h1
    by_cases h2 : n ≤ 57
    · have e2 : decide ((n : Int) ≤ 57) = true := decide_eq_true (by omega)
      have e2' : decide (n ≤ 57) = true := decide_eq_true h2
      rw [e1', e2']
      go_enter Tryz.func254, Tryz.ntmps254
      go_wp2_with fail
      go_ret
      exact ⟨rfl, rfl⟩
    · have e2 : decide ((n : Int) ≤ 57) = false := decide_eq_false (by omega)
      have e2' : decide (n ≤ 57) = false := decide_eq_false h2
      rw [e1', e2']
      go_enter Tryz.func254, Tryz.ntmps254
      go_wp2_with fail
      go_ret
      exact ⟨rfl, rfl⟩
  · have e1 : decide ((48 : Int) ≤ (n : Int)) = false := decide_eq_false (by omega)
    have e1' : decide (48 ≤ n) = false := decide_eq_false h1
    rw [e1']
    go_enter Tryz.func254, Tryz.ntmps254
    go_wp2_with fail
    go_ret
    exact ⟨rfl, rfl⟩
set_option maxHeartbeats 8000000 in
set_option maxRecDepth 100000 in
theorem namB_c (q : UInt8) (w : World) : Calls Tryz.prog 255 #[.int .u8 q.toNat] w fun e w' => e = .returned (.bool (namB q)) ∧ w = w' := by
  have hd := Lib.hid (digB_c q w)
  unfold namB
  have h95 : ((q.toNat : Int) == 95) = (q == 95) := u8b rfl rfl
  rcases hq : (q == 95) with _ | _
  all_goals
    rw [hq] at h95
    generalize digB q = r at *
    generalize q.toNat = n at *
    have c1 : (decide ((65 : Int) ≤ (n : Int)) = true ∧ decide (65 ≤ n) = true) ∨ (decide ((65 : Int) ≤ (n : Int)) = false ∧ decide (65 ≤ n) = false) := by
      by_cases h : 65 ≤ n
      · exact .inl ⟨decide_eq_true (by omega), decide_eq_true h⟩
      · exact .inr ⟨decide_eq_false (by omega), decide_eq_false h⟩
    have c2 : (decide ((n : Int) ≤ 90) = true ∧ decide (n ≤ 90) = true) ∨ (decide ((n : Int) ≤ 90) = false ∧ decide (n ≤ 90) = false) := by
      by_cases h : n ≤ 90
      · exact .inl ⟨decide_eq_true (by omega), decide_eq_true h⟩
      · exact .inr ⟨decide_eq_false (by omega), decide_eq_false h⟩
    have c3 : (decide ((97 : Int) ≤ (n : Int)) = true ∧ decide (97 ≤ n) = true) ∨ (decide ((97 : Int) ≤ (n : Int)) = false ∧ decide (97 ≤ n) = false) := by
      by_cases h : 97 ≤ n
      · exact .inl ⟨decide_eq_true (by omega), decide_eq_true h⟩
      · exact .inr ⟨decide_eq_false (by omega), decide_eq_false h⟩
    have c4 : (decide ((n : Int) ≤ 122) = true ∧ decide (n ≤ 122) = true) ∨ (decide ((n : Int) ≤ 122) = false ∧ decide (n ≤ 122) = false) := by
      by_cases h : n ≤ 122
      · exact .inl ⟨decide_eq_true (by omega), decide_eq_true h⟩
      · exact .inr ⟨decide_eq_false (by omega), decide_eq_false h⟩
    rcases c1 with ⟨a1, b1⟩ | ⟨a1, b1⟩ <;> rcases c2 with ⟨a2, b2⟩ | ⟨a2, b2⟩ <;> rcases c3 with ⟨a3, b3⟩ | ⟨a3, b3⟩ <;> rcases c4 with ⟨a4, b4⟩ | ⟨a4, b4⟩
    all_goals
      rw [b1, b2, b3, b4]
      try simp only [Bool.and_true, Bool.and_false, Bool.true_or, Bool.or_true, Bool.false_or, Bool.or_false]
      go_enter Tryz.func255, Tryz.ntmps255
      go_wp2_with fail
      first
        | (go_ret; exact ⟨rfl, rfl⟩)
        | (refine hd.out.mono ?_; rintro e w7 ⟨rfl, rfl⟩; go_wp2_with fail; go_ret; exact ⟨rfl, rfl⟩)
end Go.Proofs.YticehbhedoploaaGreatDoor
