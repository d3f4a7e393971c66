/- lexer's reference: Skip; LexerSkips. -/
import Derived.Test.YteppndkhmbhnkaaDoorLxU
namespace Go.Proofs.YteppndkhmbhnkaaDoor
open Go.RowKit
set_option linter.unusedVariables false

set_option maxHeartbeats 4000000 in
set_option maxRecDepth 100000 in
theorem rblank_c (q : UInt8) (w : World) : Calls Tryd.prog 74 #[.int .u8 q.toNat] w fun e w' => e = .returned (.bool (blankB q)) ∧ w = w' := by
  unfold blankB
  rcases h1 : (q == 32) with _ | _
  · rcases h2 : (q == 9) with _ | _
    all_goals
      have e1 : ((q.toNat : Int) == 32) = false := u8b h1 rfl
      first | have e2 : ((q.toNat : Int) == 9) = false := u8b h2 rfl
            | have e2 : ((q.toNat : Int) == 9) = true := u8b h2 rfl
      go_enter Tryd.func74, Tryd.ntmps74
      go_wp2_with fail
      go_ret
      exact ⟨rfl, rfl⟩
  · have e1 : ((q.toNat : Int) == 32) = true := u8b h1 rfl
    have e2 : ((q.toNat : Int) == 9) = false := by rw [beq_iff_eq] at h1; rw [h1]; rfl
    go_enter Tryd.func74, Tryd.ntmps74
    go_wp2_with fail
    go_ret
    exact ⟨rfl, rfl⟩
theorem commL_at {s : List UInt8} {k : Nat} (h : k < s.length) : commL s k = if bt s k == 10 then k else commL s (k + 1) := by
  unfold commL
  rw [List.drop_eq_getElem_cons h, bt_get h]
  show k + (if (s[k]'h == 10) = true then 0 else fndL 10 (s.drop (k + 1)) + 1) = _
  split
  · rfl
  · omega
theorem commL_end {s : List UInt8} {k : Nat} (h : s.length ≤ k) : commL s k = k := by
  unfold commL
  rw [List.drop_of_length_le h]
  rfl
theorem commL_byte {s : List UInt8} : ∀ (n k : Nat), s.length - k ≤ n → commL s k < s.length → bt s (commL s k) = 10
  | 0, k, hn, h => by rw [commL_end (by omega)] at h; omega
  | n + 1, k, hn, h => by
    by_cases hk : s.length ≤ k
    · rw [commL_end hk] at h; omega
    rw [commL_at (by omega)] at h ⊢
    split at h
    · rename_i hb
      rw [if_pos hb]
      rwa [beq_iff_eq] at hb
    · rename_i hb
      rw [if_neg hb]
      exact commL_byte n (k + 1) (by omega) h
theorem skipF_comm {s : List UInt8} {F k : Nat} (hk : k ≤ s.length) : skipF F s (commL s k) = commL s k := by
  by_cases h : s.length ≤ commL s k
  · exact skipF_ge h
  cases F with
  | zero => rfl
  | succ F =>
    have hb := commL_byte (s := s) (s.length - k) k (Nat.le_refl _) (by omega)
    rw [skipF_lt (by omega), hb]
    rw [if_neg (by decide), if_neg (by decide)]
    unfold joinB
    rw [hb]
    rw [if_neg (by simp)]
set_option maxHeartbeats 4000000 in
set_option maxRecDepth 100000 in
theorem rcomm_c (s : ByteArray) (a : Nat) (w : World) (hs : s.size ≤ 140737488355328) (ha : a ≤ s.size) : Calls Tryd.prog 72 #[.string s, .int .i64 a] w fun e w' => e = .returned (.int .i64 (commL s.data.toList a : Nat)) ∧ w = w' := by
  obtain ⟨R, hR⟩ : ∃ R : Nat, R = commL s.data.toList a := ⟨_, rfl⟩
  rw [← hR]
  have HR := Lib.hid hR
  clear hR
  go_enter Tryd.func72, Tryd.ntmps72
  go_wp2_with fail
  go_loop [1] (fun kv => ∃ k : Nat, kv = .int .i64 k ∧ k ≤ s.size ∧ Hid (R = commL s.data.toList k)) (fun kv => s.size - (intOf kv).toNat)
  case atStart => exact ⟨a, rfl, ha, HR⟩
  case round =>
    obtain ⟨k, rfl, hk, hx⟩ := hrel
    clear HR
    by_cases hlt : k < s.size
    · have d1 : decide ((k : Int) < (s.size : Int)) = true := decide_eq_true (by omega)
      have d1' : decide (k < s.size) = true := decide_eq_true hlt
      have hx2 := hx.out
      rw [commL_at (show k < s.data.toList.length from hlt), btS hlt] at hx2
      clear hx
      rcases h1 : (s[k]'hlt) == 10 with _ | _
      · have t1 : (((s[k]'hlt).toNat : Int) != 10) = true := u8n h1 rfl
        rw [h1] at hx2
        have hx3 : Hid (R = commL s.data.toList (k + 1)) := Lib.hid hx2
        clear hx2 h1
        go_wp2_with fail
        go_round
        case rel => exact ⟨k + 1, by go_num, by omega, hx3⟩
        case measure => simp [intOf]; omega
      · have t1 : (((s[k]'hlt).toNat : Int) != 10) = false := u8n h1 rfl
        rw [h1] at hx2
        have hx3 : Hid (R = k) := Lib.hid hx2
        clear hx2 h1
        go_wp2_with fail
        go_ret
        exact ⟨by rw [hx3.out]; rfl, rfl⟩
    · have hks : k = s.size := by omega
      subst hks
      have d1 : decide ((s.size : Int) < (s.size : Int)) = false := decide_eq_false (by omega)
      have hx3 : Hid (R = s.size) := Lib.hid (by have := hx.out; rw [commL_end (by rw [lenS]; exact Nat.le_refl _)] at this; exact this)
      clear hx
      go_wp2_with fail
      go_ret
      exact ⟨by rw [hx3.out]; rfl, rfl⟩
set_option maxHeartbeats 4000000 in
set_option maxRecDepth 100000 in
theorem rjoin_c (s : ByteArray) (a : Nat) (w : World) (hs : s.size ≤ 140737488355328) (ha : a ≤ s.size) : Calls Tryd.prog 73 #[.string s, .int .i64 a] w fun e w' => e = .returned (.bool (joinB s.data.toList a)) ∧ w = w' := by
  unfold joinB
  rw [lenS]
  by_cases h1 : a + 1 < s.size
  · have d1 : decide ((a : Int) + 1 < (s.size : Int)) = true := decide_eq_true (by omega)
    have d1' : decide (a + 1 < s.size) = true := decide_eq_true h1
    have i1 : (a : Int) + 1 < (s.size : Int) := by omega
    have i0 : (a : Int) < (s.size : Int) := by omega
    have h0 : a < s.size := by omega
    rw [d1', btS h0, btS h1]
    rcases h2 : (s[a]'h0) == 92 with _ | _
    · have t2 : (((s[a]'h0).toNat : Int) == 92) = false := u8b h2 rfl
      clear h2
      go_enter Tryd.func73, Tryd.ntmps73
      go_wp2_with fail
      go_ret
      exact ⟨rfl, rfl⟩
    · have t2 : (((s[a]'h0).toNat : Int) == 92) = true := u8b h2 rfl
      rcases h3 : (s[a + 1]'h1) == 10 with _ | _
      all_goals
        first | have t3 : (((s[a + 1]'h1).toNat : Int) == 10) = false := u8b h3 rfl
              | have t3 : (((s[a + 1]'h1).toNat : Int) == 10) = true := u8b h3 rfl
        clear h2 h3
        go_enter Tryd.func73, Tryd.ntmps73
        go_wp2_with fail
        go_ret
        exact ⟨rfl, rfl⟩
  · have d1 : decide ((a : Int) + 1 < (s.size : Int)) = false := decide_eq_false (by omega)
    have d1' : decide (a + 1 < s.size) = false := decide_eq_false h1
    rw [d1']
    go_enter Tryd.func73, Tryd.ntmps73
    go_wp2_with fail
    go_ret
    exact ⟨rfl, rfl⟩
set_option maxHeartbeats 4000000 in
theorem limit_c (a : Int) (n : Nat) (w : World) (hn : n ≤ 140737488355328) : Calls Tryd.prog 71 #[.int .i64 a, .int .i64 n] w fun e w' => e = .returned (.int .i64 (clamp a n : Nat)) ∧ w = w' := by
  have hm : max (0 : Int) (min a (n : Int)) = ((clamp a n : Nat) : Int) := by
    unfold clamp
    by_cases h1 : a < 0
    · rw [if_pos h1]; omega
    · rw [if_neg h1]
      by_cases h2 : (n : Int) ≤ a
      · rw [if_pos h2]; omega
      · rw [if_neg h2]; omega
  have Hm := Lib.hid hm
  clear hm
  go_enter Tryd.func71, Tryd.ntmps71
  go_wp2_with fail
  go_ret
  exact ⟨by rw [← Hm.out]; rfl, rfl⟩
set_option maxHeartbeats 8000000 in
set_option maxRecDepth 100000 in
theorem RSkip_c (s : ByteArray) (a : Int) (w : World) (hs : s.size ≤ 140737488355328) (ha : -9223372036854775808 ≤ a ∧ a ≤ 9223372036854775807) :
    Calls Tryd.prog 41 #[.string s, .int .i64 a] w fun e w' => e = .returned (.int .i64 (skipL s.data.toList a : Nat)) ∧ w = w' := by
  obtain ⟨R, hR⟩ : ∃ R : Nat, R = skipL s.data.toList a := ⟨_, rfl⟩
  rw [← hR]
  have HR : Hid (∃ F, s.size - clamp a s.size < F ∧ R = skipF F s.data.toList (clamp a s.size)) := Lib.hid ⟨s.size + 1, by omega, hR⟩
  clear hR
  have hlim := Lib.hid (limit_c a s.size w hs)
  obtain ⟨ha1, ha2⟩ := ha
  have hbla := Lib.hid (fun (k : Nat) (h : k < s.size) => rblank_c (s[k]'h) w)
  have hcom := Lib.hid (fun (k : Nat) (h : k ≤ s.size) => rcomm_c s k w hs h)
  have hjoi := Lib.hid (fun (k : Nat) (h : k ≤ s.size) => rjoin_c s k w hs h)
  have hcl := clamp_le a s.size
  generalize clamp a s.size = n at *
  go_enter Tryd.func41, Tryd.ntmps41
  go_wp2_with fail
  refine hlim.out.mono ?_
  rintro e w7 ⟨rfl, rfl⟩
  go_wp2_with fail
  go_loop [1] (fun kv => ∃ k : Nat, kv = .int .i64 k ∧ k ≤ s.size ∧ Hid (∃ F, s.size - k < F ∧ R = skipF F s.data.toList k)) (fun kv => s.size - (intOf kv).toNat)
  case atStart => exact ⟨n, rfl, hcl, HR⟩
  case round =>
    obtain ⟨k, rfl, hk, hx⟩ := hrel
    clear HR
    by_cases hlt : k < s.size
    · have d1 : decide ((k : Int) < (s.size : Int)) = true := decide_eq_true (by omega)
      have d1' : decide (k < s.size) = true := decide_eq_true hlt
      obtain ⟨F, hF, hx2⟩ := hx.out
      obtain ⟨F, rfl⟩ : ∃ G, F = G + 1 := ⟨F - 1, by omega⟩
      rw [skipF_lt (show k < s.data.toList.length from hlt), btS hlt, skipF_comm (by rw [lenS]; omega)] at hx2
      have hjl := joinB_le (s := s.data.toList) (p := k)
      rw [lenS] at hjl
      have Hbla := Lib.hid (hbla.out k hlt)
      have Hcom := Lib.hid (hcom.out k hk)
      have Hjoi := Lib.hid (hjoi.out k hk)
      clear hx
      rcases h1 : (s[k]'hlt) == 35 with _ | _
      · have t1 : (((s[k]'hlt).toNat : Int) == 35) = false := u8b h1 rfl
        rw [h1] at hx2
        rcases hj : joinB s.data.toList k with _ | _
        · rw [hj] at Hjoi hx2
          rcases hb : blankB (s[k]'hlt) with _ | _
          · rw [hb] at Hbla hx2
            have hx3 : Hid (R = k) := Lib.hid (by rw [if_neg (by simp), if_neg (by simp), if_neg (by simp)] at hx2; exact hx2)
            clear hx2 h1 hb hj
            go_wp2_with fail
            refine Hjoi.out.mono ?_
            rintro e w7 ⟨rfl, rfl⟩
            go_wp2_with fail
            refine Hbla.out.mono ?_
            rintro e w7 ⟨rfl, rfl⟩
            go_wp2_with fail
            go_ret
            exact ⟨by rw [hx3.out]; rfl, rfl⟩
          · rw [hb] at Hbla hx2
            rw [if_pos rfl] at hx2
            have hx3 : Hid (∃ F, s.size - (k + 1) < F ∧ R = skipF F s.data.toList (k + 1)) := Lib.hid ⟨F, by omega, hx2⟩
            clear hx2 h1 hb hj
            go_wp2_with fail
            refine Hjoi.out.mono ?_
            rintro e w7 ⟨rfl, rfl⟩
            go_wp2_with fail
            refine Hbla.out.mono ?_
            rintro e w7 ⟨rfl, rfl⟩
            go_wp2_with fail
            go_round
            case rel => exact ⟨k + 1, by go_num, by omega, hx3⟩
            case measure => simp [intOf]; omega
        · have hk2 := hjl hj
          have hb : blankB (s[k]'hlt) = false := by
            unfold joinB at hj
            rw [btS hlt] at hj
            simp only [Bool.and_eq_true, beq_iff_eq] at hj
            rw [hj.2.1]; rfl
          rw [hj, hb] at hx2
          rw [hj] at Hjoi
          rw [if_neg (by simp), if_neg (by simp), if_pos rfl] at hx2
          have hx3 : Hid (∃ F, s.size - (k + 2) < F ∧ R = skipF F s.data.toList (k + 2)) := Lib.hid ⟨F, by omega, hx2⟩
          clear hx2 h1 hb hj
          go_wp2_with fail
          refine Hjoi.out.mono ?_
          rintro e w7 ⟨rfl, rfl⟩
          go_wp2_with fail
          go_round
          case rel => exact ⟨k + 2, by go_num, by omega, hx3⟩
          case measure => simp [intOf]; omega
      · have t1 : (((s[k]'hlt).toNat : Int) == 35) = true := u8b h1 rfl
        have hb : blankB (s[k]'hlt) = false := by rw [beq_iff_eq] at h1; rw [h1]; rfl
        rw [h1, hb] at hx2
        rw [if_neg (by simp), if_pos rfl] at hx2
        have hx3 := Lib.hid hx2
        clear hx2 h1 hb
        go_wp2_with fail
        refine Hcom.out.mono ?_
        rintro e w7 ⟨rfl, rfl⟩
        go_wp2_with fail
        go_ret
        exact ⟨by rw [hx3.out]; rfl, rfl⟩
    · have hks : k = s.size := by omega
      subst hks
      have d1 : decide ((s.size : Int) < (s.size : Int)) = false := decide_eq_false (by omega)
      have hx3 : Hid (R = s.size) := Lib.hid (by obtain ⟨F, hF, h⟩ := hx.out; rw [skipF_ge (by rw [lenS]; exact Nat.le_refl _)] at h; exact h)
      clear hx
      go_wp2_with fail
      go_ret
      exact ⟨by rw [hx3.out]; rfl, rfl⟩
set_option maxHeartbeats 8000000 in
set_option maxRecDepth 100000 in
theorem skips_walk (s : ByteArray) (a : Int) (w : World) (ha : -9223372036854775808 ≤ a ∧ a ≤ 9223372036854775807) :
    Calls Tryd.prog 11 #[.string s, .int .i64 a] w fun e w' => e = .returned (.bool true) ∧ Below w.heap.size w w' := by
  have haw := Lib.hid (fun W => awake_c W)
  by_cases hl : 2000 < s.size
  · have t1 : decide ((2000 : Int) < (s.size : Int)) = true := decide_eq_true (by omega)
    have t1' : decide (2000 < s.size) = true := decide_eq_true hl
    go_enter Tryd.func11, Tryd.ntmps11
    go_wp2_with fail
    refine (haw.out _).mono ?_
    rintro e w1 ⟨rfl, m1⟩
    go_wp2_with fail
    go_ret
    exact ⟨rfl, m1⟩
  have t1 : decide ((2000 : Int) < (s.size : Int)) = false := decide_eq_false (by omega)
  have t1' : decide (2000 < s.size) = false := decide_eq_false hl
  have h1 := Lib.hid (Skip_c s a w (by omega) ha)
  have h2 := Lib.hid (RSkip_c s a w (by omega) ha)
  generalize skipL s.data.toList a = n at *
  have e1 : ((n : Int) == (n : Int)) = true := by rw [beq_iff_eq]
  clear hl
  go_enter Tryd.func11, Tryd.ntmps11
  go_wp2_with fail
  refine h1.out.mono ?_
  rintro e w1 ⟨rfl, rfl⟩
  go_wp2_with fail
  refine h2.out.mono ?_
  rintro e w1 ⟨rfl, rfl⟩
  go_wp2_with fail
  refine (haw.out _).mono ?_
  rintro e w1 ⟨rfl, m1⟩
  go_wp2_with fail
  go_ret
  exact ⟨rfl, m1⟩
end Go.Proofs.YteppndkhmbhnkaaDoor
