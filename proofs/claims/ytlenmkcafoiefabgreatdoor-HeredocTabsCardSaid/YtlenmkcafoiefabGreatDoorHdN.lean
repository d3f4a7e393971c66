/- heredoc's reference: line, has, number, Delimiter. -/
import Derived.Test.YtlenmkcafoiefabGreatDoorHdX
namespace Go.Proofs.YtlenmkcafoiefabGreatDoor
open Go.RowKit
set_option linter.unusedVariables false
set_option linter.unusedSimpArgs false

theorem commL_at {s : List UInt8} {k : Nat} (h : k < s.length) : commL s k = if bt s k == 10 then k else commL s (k + 1) := by
  unfold commL
  rw [List.drop_eq_getElem_cons h, bt_get h]
  show k + (if (s[k]'h == 10) = true then 0 else fndL 10 (s.drop (k + 1)) + 1) = _
  split
  · rfl
  · omega
theorem commL_end {s : List UInt8} {k : Nat} (h : s.length ≤ k) : commL s k = k := by
  unfold commL
  rw [List.drop_of_length_le h]
  rfl
set_option maxHeartbeats 4000000 in
set_option maxRecDepth 100000 in
theorem line_c (s : ByteArray) (a : Nat) (w : World) (hs : s.size ≤ 140737488355328) (ha : a ≤ s.size) : Calls Tryz.prog 67 #[.string s, .int .i64 a] w fun e w' => e = .returned (.int .i64 (commL s.data.toList a : Nat)) ∧ w = w' := by
  obtain ⟨R, hR⟩ : ∃ R : Nat, R = commL s.data.toList a := ⟨_, rfl⟩
  rw [← hR]
  have HR := Lib.hid hR
  clear hR
  go_enter Tryz.func67, Tryz.ntmps67
  go_wp2_with fail
  go_loop [1] (fun kv => ∃ k : Nat, kv = .int .i64 k ∧ k ≤ s.size ∧ Hid (R = commL s.data.toList k)) (fun kv => s.size - (intOf kv).toNat)
  case atStart => exact ⟨a, rfl, ha, HR⟩
  case round =>
    obtain ⟨k, rfl, hk, hx⟩ := hrel
    clear HR
    by_cases hlt : k < s.size
    · have d1 : decide ((k : Int) < (s.size : Int)) = true := decide_eq_true (by omega)
      have d1' : decide (k < s.size) = true := decide_eq_true hlt
      have hx2 := hx.out
      rw [commL_at (show k < s.data.toList.length from hlt), btS hlt] at hx2
      clear hx
      rcases h1 : (s[k]'hlt) == 10 with _ | _
      · have t1 : (((s[k]'hlt).toNat : Int) != 10) = true := u8n h1 rfl
        rw [h1] at hx2
        have hx3 : Hid (R = commL s.data.toList (k + 1)) := Lib.hid hx2
        clear hx2 h1
        go_wp2_with fail
        go_round
        case rel => exact ⟨k + 1, by go_num, by omega, hx3⟩
        case measure => simp [intOf]; omega
      · have t1 : (((s[k]'hlt).toNat : Int) != 10) = false := u8n h1 rfl
        rw [h1] at hx2
        have hx3 : Hid (R = k) := Lib.hid hx2
        clear hx2 h1
        go_wp2_with fail
        go_ret
        exact ⟨by rw [hx3.out]; rfl, rfl⟩
    · have hks : k = s.size := by omega
      subst hks
      have d1 : decide ((s.size : Int) < (s.size : Int)) = false := decide_eq_false (by omega)
      have hx3 : Hid (R = s.size) := Lib.hid (by have := hx.out; rw [commL_end (by rw [lenS]; exact Nat.le_refl _)] at this; exact this)
      clear hx
      go_wp2_with fail
      go_ret
      exact ⟨by rw [hx3.out]; rfl, rfl⟩
theorem fnd_out : ∀ l : List UInt8, ¬ fndL 10 l < l.length → (10 : UInt8) ∉ l := fun l h hm => h (fnd_mem l hm)
theorem fnd_take : ∀ l : List UInt8, fndL 10 l < l.length → l.take (fndL 10 l + 1) = l.take (fndL 10 l) ++ [10]
  | [], h => by simp at h
  | c :: l, h => by
    unfold fndL at h ⊢
    rcases hc : c == 10 with _ | _
    · rw [hc] at h
      simp only [Bool.false_eq_true, if_false, List.length_cons] at h ⊢
      rw [List.take_succ_cons, List.take_succ_cons, fnd_take l (by omega)]
      rfl
    · have e : c = 10 := by simpa using hc
      subst e
      rfl
/-- A line without its newline, by its bounds; and where the next begins. -/
theorem line_chop {s : ByteArray} {k : Nat} (h : k < s.size) : chop (s.extract k (endN s.data.toList k)) = s.extract k (commL s.data.toList k) ∧ lnsL s (commL s.data.toList k + 1) = lnsL s (endN s.data.toList k) ∧ commL s.data.toList k ≤ s.size := by
  have he := endN_eol (s := s.data.toList) (p := k) (by rw [lenS]; omega)
  have hl : (s.data.toList.drop k).length = s.size - k := by rw [List.length_drop, lenS]
  have hf := fndL_le 10 (s.data.toList.drop k)
  have hle : commL s.data.toList k ≤ s.size := by unfold commL; omega
  by_cases h1 : fndL 10 (s.data.toList.drop k) < (s.data.toList.drop k).length
  · have e1 : eol (s.data.toList.drop k) = fndL 10 (s.data.toList.drop k) + 1 := by unfold eol; rw [if_pos h1]
    rw [e1] at he
    refine ⟨?_, ?_, hle⟩
    · apply ba_inj
      rw [ext_list]
      refine chop_ten ?_
      rw [ext_list, he, show k + (fndL 10 (s.data.toList.drop k) + 1) - k = fndL 10 (s.data.toList.drop k) + 1 by omega, fnd_take _ h1]
      unfold commL
      rw [Nat.add_sub_cancel_left]
    · rw [he]
      unfold commL
      rw [Nat.add_assoc]
  · have e1 : eol (s.data.toList.drop k) = s.size - k := by unfold eol; rw [if_neg h1, hl]
    rw [e1] at he
    have e2 : commL s.data.toList k = s.size := by unfold commL; omega
    have e3 : endN s.data.toList k = s.size := by omega
    refine ⟨?_, ?_, hle⟩
    · rw [e3, e2]
      refine chop_no ?_
      rw [ext_list]
      intro hm
      exact fnd_out _ h1 (List.mem_of_mem_take hm)
    · rw [e3, e2, lnsL_nil (by omega), lnsL_nil (by omega)]
theorem beq_dec (a b : ByteArray) : (a.toList == b.toList) = decide (a = b) := by
  rw [Lib.toList_data, Lib.toList_data]
  by_cases h : a = b
  · rw [decide_eq_true h, h]
    simp
  · rw [decide_eq_false h]
    rcases hb : a.data.toList == b.data.toList with _ | _
    · rfl
    · exact absurd (ba_inj (by simpa using hb)) h
set_option maxHeartbeats 4000000 in
set_option maxRecDepth 100000 in
theorem has_c (s t : ByteArray) (w : World) (hs : s.size ≤ 140737488355328) : Calls Tryz.prog 42 #[.string s, .string t] w fun e w' => e = .returned (.bool (tookB (lnsL s 0) t)) ∧ w = w' := by
  obtain ⟨R, hR⟩ : ∃ R : Bool, R = tookB (lnsL s 0) t := ⟨_, rfl⟩
  rw [← hR]
  have HR := Lib.hid hR
  clear hR
  go_enter Tryz.func42, Tryz.ntmps42
  go_wp2_with fail
  go_loop [5] (fun kv => ∃ k : Nat, kv = .int .i64 k ∧ k ≤ s.size + 1 ∧ Hid (R = tookB (lnsL s k) t)) (fun kv => s.size + 1 - (intOf kv).toNat)
  case atStart => exact ⟨0, rfl, by omega, HR⟩
  case round =>
    obtain ⟨k, rfl, hk, hx⟩ := hrel
    clear HR
    by_cases hlt : k < s.size
    · have d1 : decide ((k : Int) < (s.size : Int)) = true := decide_eq_true (by omega)
      have d1' : decide (k < s.size) = true := decide_eq_true hlt
      obtain ⟨e1, e2, e3⟩ := line_chop hlt
      have hx2 := hx.out
      rw [lnsL_cons hlt] at hx2
      unfold tookB at hx2
      rw [List.any_cons, e1, ← e2] at hx2
      have hck : k ≤ commL s.data.toList k := by unfold commL; omega
      have HL := Lib.hid (line_c s k w hs (by omega))
      generalize commL s.data.toList k = c at *
      rw [← beq_dec] at hx2
      have b1 : (k : Int) ≤ (c : Int) := by omega
      have b2 : (c : Int) ≤ (s.size : Int) := by omega
      clear hx e1 e2
      rcases h1 : ((s.extract k c).toList == t.toList) with _ | _
      · rw [h1, Bool.false_or] at hx2
        have hx3 : Hid (R = tookB (lnsL s (c + 1)) t) := Lib.hid hx2
        clear hx2
        go_wp2_with fail
        refine HL.out.mono ?_
        rintro e w2 ⟨rfl, rfl⟩
        go_wp2_with fail
        go_round
        case rel => exact ⟨c + 1, by go_num, by omega, hx3⟩
        case measure => simp [intOf]; omega
      · rw [h1, Bool.true_or] at hx2
        have hx3 := Lib.hid hx2
        clear hx2
        go_wp2_with fail
        refine HL.out.mono ?_
        rintro e w2 ⟨rfl, rfl⟩
        go_wp2_with fail
        go_ret
        exact ⟨by rw [hx3.out]; rfl, rfl⟩
    · have d1 : decide ((k : Int) < (s.size : Int)) = false := decide_eq_false (by omega)
      have d1' : decide (k < s.size) = false := decide_eq_false hlt
      have hx3 : Hid (R = false) := Lib.hid (by have := hx.out; rw [lnsL_nil (by omega)] at this; exact this)
      clear hx
      go_wp2_with fail
      go_ret
      exact ⟨by rw [hx3.out]; rfl, rfl⟩
def tenS : ByteArray := ⟨#[48, 49, 50, 51, 52, 53, 54, 55, 56, 57]⟩
theorem ten_ext : ∀ n, n < 10 → tenS.extract n (n + 1) = ⟨#[UInt8.ofNat (48 + n)]⟩ := by
  intro n hn
  have : n = 0 ∨ n = 1 ∨ n = 2 ∨ n = 3 ∨ n = 4 ∨ n = 5 ∨ n = 6 ∨ n = 7 ∨ n = 8 ∨ n = 9 := by omega
  rcases this with rfl | rfl | rfl | rfl | rfl | rfl | rfl | rfl | rfl | rfl
  all_goals rfl
set_option maxHeartbeats 4000000 in
set_option maxRecDepth 100000 in
theorem number_c : ∀ (n : Nat) (w : World), n ≤ 1000000000 → Calls Tryz.prog 43 #[.int .i64 n] w fun e w' => e = .returned (.string ⟨(Lib.decDigits n).toArray⟩) ∧ w = w' := by
  intro n
  induction n using Nat.strongRecOn with
  | ind n ih =>
    intro w hn
    by_cases h : n < 10
    · have d1 : decide ((n : Int) < 10) = true := decide_eq_true (by omega)
      have d1' : decide (n < 10) = true := decide_eq_true h
      have hr : Hid (tenS.extract n (n + 1) = ⟨(Lib.decDigits n).toArray⟩) := Lib.hid (by rw [ten_ext n h, dec_eq, if_pos h])
      clear ih
      have b1 : (n : Int) + 1 ≤ 10 := by omega
      have b2 : (n : Int) ≤ (n : Int) + 1 := by omega
      go_enter Tryz.func43, Tryz.ntmps43
      go_wp2_with fail
      go_ret
      exact ⟨by rw [← hr.out]; rfl, rfl⟩
    · have d1 : decide ((n : Int) < 10) = false := decide_eq_false (by omega)
      have d1' : decide (n < 10) = false := decide_eq_false h
      have i1 := Lib.hid (fun W => ih (n / 10) (by omega) W (by omega))
      have i2 := Lib.hid (fun W => ih (n % 10) (by omega) W (by omega))
      have hr : Hid ((⟨(Lib.decDigits (n / 10)).toArray⟩ : ByteArray) ++ ⟨(Lib.decDigits (n % 10)).toArray⟩ = ⟨(Lib.decDigits n).toArray⟩) := Lib.hid (by
        apply ba_inj
        rw [app_list]
        show Lib.decDigits (n / 10) ++ Lib.decDigits (n % 10) = Lib.decDigits n
        rw [dec_eq n, if_neg h, dec_eq (n % 10), if_pos (Nat.mod_lt n (by decide))])
      have q1 : Int.tdiv (n : Int) 10 = ((n / 10 : Nat) : Int) := by rw [Int.tdiv_eq_ediv_of_nonneg (by omega)]; omega
      have q2 : Int.tmod (n : Int) 10 = ((n % 10 : Nat) : Int) := by rw [Int.tmod_eq_emod_of_nonneg (by omega)]; omega
      have q3 : IntKind.i64.wrap ((n / 10 : Nat) : Int) = ((n / 10 : Nat) : Int) := IntWalk.i64_in _ (by omega)
      have q4 : IntKind.i64.wrap ((n % 10 : Nat) : Int) = ((n % 10 : Nat) : Int) := IntWalk.i64_in _ (by omega)
      have hlen : ∀ k u, u < 10 ^ (k + 1) → (Lib.decDigits u).length ≤ k + 1 := by
        intro k
        induction k with
        | zero =>
          intro u hu
          rw [dec_eq, if_pos (by simpa using hu)]
          simp
        | succ k ih =>
          intro u hu
          rw [dec_eq]
          by_cases h10 : u < 10
          · rw [if_pos h10]; simp
          · rw [if_neg h10, List.length_append]
            have := ih (u / 10) (by rw [Nat.pow_succ] at hu; omega)
            simp only [List.length_cons, List.length_nil]
            omega
      have l1 := hlen 9 (n / 10) (by omega)
      have l2 := hlen 9 (n % 10) (by omega)
      clear ih hlen
      generalize n / 10 = a at *
      generalize n % 10 = b at *
      generalize Lib.decDigits a = da at *
      generalize Lib.decDigits b = db at *
      go_enter Tryz.func43, Tryz.ntmps43
      go_wp2_with fail
      refine (i1.out _).mono ?_
      rintro e w2 ⟨rfl, rfl⟩
      go_wp2_with fail
      refine (i2.out _).mono ?_
      rintro e w2 ⟨rfl, rfl⟩
      go_wp2_with fail
      all_goals try (exfalso; omega)
      go_ret
      exact ⟨by rw [← hr.out]; rfl, rfl⟩
end Go.Proofs.YtlenmkcafoiefabGreatDoor
