/- lexer's reference: what is skipped, construct by construct, over what Pass does behind. -/
import Derived.Test.YteppndkhmbhnkaaDoorLxW
namespace Go.Proofs.YteppndkhmbhnkaaDoor
open Go.RowKit
set_option linter.unusedVariables false

/-- Pass does as passF, at every place behind o. -/
def RPassOk (s : ByteArray) (o : Nat) : Prop := ∀ (p c F : Nat) (w : World), o < p → p < s.size → c ≤ 2 → 2 * (s.size - p) + 2 ≤ F →
  Calls Tryd.prog 78 #[.string s, .int .i64 p, .int .i64 c] w (Gv w (passF F s.data.toList p c))
theorem rpass_ok {s : ByteArray} {p c F n : Nat} {w : World} {C : Int} (hC : C = (c : Int)) (h : Calls Tryd.prog 78 #[.string s, .int .i64 p, .int .i64 c] w (Gv w (passF F s.data.toList p c))) (hq : passF F s.data.toList p c = (n, 0)) :
    Calls Tryd.prog 78 #[.string s, .int .i64 p, .int .i64 C] w fun e w' => e = .returned (.tuple #[.int .i64 (n : Nat), .int .i64 0]) ∧ w = w' := by
  subst hC
  rw [hq] at h
  exact h
theorem rpass_bad {s : ByteArray} {p c F n x : Nat} {w : World} {C : Int} (hC : C = (c : Int)) (h : Calls Tryd.prog 78 #[.string s, .int .i64 p, .int .i64 c] w (Gv w (passF F s.data.toList p c))) (hq : passF F s.data.toList p c = (n, x + 1)) :
    ∃ E : Int, (E != 0) = true ∧ E = ((x + 1 : Nat) : Int) ∧ Calls Tryd.prog 78 #[.string s, .int .i64 p, .int .i64 C] w fun e w' => e = .returned (.tuple #[.int .i64 (n : Nat), .int .i64 E]) ∧ w = w' := by
  subst hC
  rw [hq] at h
  exact ⟨((x + 1 : Nat) : Int), by rw [bne_iff_ne]; omega, rfl, h⟩
set_option maxHeartbeats 16000000 in
set_option maxRecDepth 100000 in
theorem rdbl_c (s : ByteArray) (a : Nat) (w : World) (hs : s.size ≤ 140737488355328) (ha : a + 1 ≤ s.size) (hsk : RPassOk s a) (F0 : Nat) (hF0 : 2 * (s.size - a) + 1 ≤ F0) :
    Calls Tryd.prog 105 #[.string s, .int .i64 a] w (Gv w (dblF F0 s.data.toList a (a + 1))) := by
  obtain ⟨R, hR⟩ : ∃ R : Nat × Nat, R = dblF F0 s.data.toList a (a + 1) := ⟨_, rfl⟩
  rw [← hR]
  have HR : Hid (∃ F, 2 * (s.size - (a + 1)) + 3 ≤ F ∧ R = dblF F s.data.toList a (a + 1)) := Lib.hid ⟨F0, by omega, hR⟩
  clear hR
  have Hsk := Lib.hid hsk
  clear hsk
  go_enter Tryd.func105, Tryd.ntmps105
  go_wp2_with fail
  go_loop [6] (fun kv => ∃ k : Nat, kv = .int .i64 k ∧ k ≤ s.size ∧ a < k ∧ Hid (∃ F, 2 * (s.size - k) + 3 ≤ F ∧ R = dblF F s.data.toList a (k))) (fun kv => s.size - (intOf kv).toNat)
  case atStart => exact ⟨a + 1, by go_num, by omega, by omega, HR⟩
  case round =>
    obtain ⟨k, rfl, hk, hak, hx⟩ := hrel
    clear HR
    by_cases hlt : k < s.size
    · have d1 : decide ((k : Int) < (s.size : Int)) = true := decide_eq_true (by omega)
      have d1' : decide (k < s.size) = true := decide_eq_true hlt
      obtain ⟨F, hF, hx2⟩ := hx.out
      obtain ⟨F, rfl⟩ : ∃ G, F = G + 1 := ⟨F - 1, by omega⟩
      rw [dblF_lt (show k < s.data.toList.length from hlt), btS hlt] at hx2
      clear hx
      rcases h1 : (s[k]'hlt) == 34 with _ | _
      · have t1 : (((s[k]'hlt).toNat : Int) == 34) = false := u8b h1 rfl
        rw [h1] at hx2
        rw [if_neg (by simp)] at hx2
        have hsc := Hsk.out k 1 F w hak hlt (by omega) (by omega)
        have hin := (all_in s.data.toList F).1 k 1 hlt
        rcases hq : passF F s.data.toList k 1 with ⟨n, x⟩
        rw [hq] at hin hx2
        obtain ⟨hn1, hn2, -⟩ := hin
        rw [lenS] at hn1
        simp only at hn1 hn2
        rcases x with _ | x
        · have hkn := hn2 rfl
          have Hc := Lib.hid (rpass_ok (C := 1) rfl hsc hq)
          have hx3 : Hid (∃ F, 2 * (s.size - n) + 3 ≤ F ∧ R = dblF F s.data.toList a (n)) := Lib.hid ⟨F, by omega, hx2⟩
          clear hx2 hsc hq h1
          go_wp2_with fail
          refine Hc.out.mono ?_
          rintro e w7 ⟨rfl, rfl⟩
          go_wp2_with fail
          go_round
          case rel => exact ⟨n, rfl, hn1, by omega, hx3⟩
          case measure => simp [intOf]; omega
        · obtain ⟨E, tE, hE, hc⟩ := rpass_bad (C := 1) rfl hsc hq
          have Hc := Lib.hid hc
          have hx3 : Hid (R = (n, x + 1) ∧ E = ((x + 1 : Nat) : Int)) := Lib.hid ⟨hx2, hE⟩
          clear hx2 hsc hq hc hE h1
          go_wp2_with fail
          refine Hc.out.mono ?_
          rintro e w7 ⟨rfl, rfl⟩
          go_wp2_with fail
          go_ret2
          exact ⟨by rw [hx3.out.1, hx3.out.2]; rfl, rfl⟩
      · have t1 : (((s[k]'hlt).toNat : Int) == 34) = true := u8b h1 rfl
        rw [h1] at hx2
        have hx3 : Hid (R = (k + 1, 0)) := Lib.hid hx2
        clear hx2 h1
        go_wp2_with fail
        go_ret2
        exact ⟨by rw [hx3.out]; rfl, rfl⟩
    · have hks : k = s.size := by omega
      subst hks
      have d1 : decide ((s.size : Int) < (s.size : Int)) = false := decide_eq_false (by omega)
      have hx3 : Hid (R = (a, 7)) := Lib.hid (by obtain ⟨F, hF, h⟩ := hx.out; rw [dblF_ge (by rw [lenS]; exact Nat.le_refl _)] at h; exact h)
      clear hx
      go_wp2_with fail
      go_ret2
      exact ⟨by rw [hx3.out]; rfl, rfl⟩
set_option maxHeartbeats 16000000 in
set_option maxRecDepth 100000 in
theorem rbrac_c (s : ByteArray) (a : Nat) (c : Nat) (w : World) (hs : s.size ≤ 140737488355328) (ha : a + 2 ≤ s.size) (hc : c ≤ 2) (hsk : RPassOk s a) (F0 : Nat) (hF0 : 2 * (s.size - a) + 1 ≤ F0) :
    Calls Tryd.prog 133 #[.string s, .int .i64 a, .int .i64 c] w (Gv w (bracF F0 s.data.toList c a (a + 2))) := by
  obtain ⟨R, hR⟩ : ∃ R : Nat × Nat, R = bracF F0 s.data.toList c a (a + 2) := ⟨_, rfl⟩
  rw [← hR]
  have HR : Hid (∃ F, 2 * (s.size - (a + 2)) + 3 ≤ F ∧ R = bracF F s.data.toList c a (a + 2)) := Lib.hid ⟨F0, by omega, hR⟩
  clear hR
  have Hsk := Lib.hid hsk
  clear hsk
  go_enter Tryd.func133, Tryd.ntmps133
  go_wp2_with fail
  go_loop [8] (fun kv => ∃ k : Nat, kv = .int .i64 k ∧ k ≤ s.size ∧ a < k ∧ Hid (∃ F, 2 * (s.size - k) + 3 ≤ F ∧ R = bracF F s.data.toList c a (k))) (fun kv => s.size - (intOf kv).toNat)
  case atStart => exact ⟨a + 2, by go_num, by omega, by omega, HR⟩
  case round =>
    obtain ⟨k, rfl, hk, hak, hx⟩ := hrel
    clear HR
    by_cases hlt : k < s.size
    · have d1 : decide ((k : Int) < (s.size : Int)) = true := decide_eq_true (by omega)
      have d1' : decide (k < s.size) = true := decide_eq_true hlt
      obtain ⟨F, hF, hx2⟩ := hx.out
      obtain ⟨F, rfl⟩ : ∃ G, F = G + 1 := ⟨F - 1, by omega⟩
      rw [bracF_lt (show k < s.data.toList.length from hlt), btS hlt] at hx2
      clear hx
      rcases h1 : (s[k]'hlt) == 125 with _ | _
      · have t1 : (((s[k]'hlt).toNat : Int) == 125) = false := u8b h1 rfl
        rw [h1] at hx2
        rw [if_neg (by simp)] at hx2
        rcases h2 : (s[k]'hlt) == 34 with _ | _
        · have t2 : (((s[k]'hlt).toNat : Int) == 34) = false := u8b h2 rfl
          rw [h2] at hx2
          rw [if_neg (by simp)] at hx2
          have hsc := Hsk.out k c F w hak hlt (by omega) (by omega)
          have hin := (all_in s.data.toList F).1 k c hlt
          rcases hq : passF F s.data.toList k c with ⟨n, x⟩
          rw [hq] at hin hx2
          obtain ⟨hn1, hn2, -⟩ := hin
          rw [lenS] at hn1
          simp only at hn1 hn2
          rcases x with _ | x
          · have hkn := hn2 rfl
            have Hc := Lib.hid (rpass_ok (C := (c : Int)) rfl hsc hq)
            have hx3 : Hid (∃ F, 2 * (s.size - n) + 3 ≤ F ∧ R = bracF F s.data.toList c a (n)) := Lib.hid ⟨F, by omega, hx2⟩
            clear hx2 hsc hq h1 h2
            go_wp2_with fail
            refine Hc.out.mono ?_
            rintro e w7 ⟨rfl, rfl⟩
            go_wp2_with fail
            go_round
            case rel => exact ⟨n, rfl, hn1, by omega, hx3⟩
            case measure => simp [intOf]; omega
          · obtain ⟨E, tE, hE, hc⟩ := rpass_bad (C := (c : Int)) rfl hsc hq
            have Hc := Lib.hid hc
            have hx3 : Hid (R = (n, x + 1) ∧ E = ((x + 1 : Nat) : Int)) := Lib.hid ⟨hx2, hE⟩
            clear hx2 hsc hq hc hE h1 h2
            go_wp2_with fail
            refine Hc.out.mono ?_
            rintro e w7 ⟨rfl, rfl⟩
            go_wp2_with fail
            go_ret2
            exact ⟨by rw [hx3.out.1, hx3.out.2]; rfl, rfl⟩
        · have t2 : (((s[k]'hlt).toNat : Int) == 34) = true := u8b h2 rfl
          rw [h2] at hx2
          rcases h3 : c == 1 with _ | _
          · have t3 : ((c : Int) == 1) = false := by rw [beq_eq_false_iff_ne] at *; omega
            rw [h3] at hx2
            rw [if_neg (by simp)] at hx2
            have hsc := Hsk.out k c F w hak hlt (by omega) (by omega)
            have hin := (all_in s.data.toList F).1 k c hlt
            rcases hq : passF F s.data.toList k c with ⟨n, x⟩
            rw [hq] at hin hx2
            obtain ⟨hn1, hn2, -⟩ := hin
            rw [lenS] at hn1
            simp only at hn1 hn2
            rcases x with _ | x
            · have hkn := hn2 rfl
              have Hc := Lib.hid (rpass_ok (C := (c : Int)) rfl hsc hq)
              have hx3 : Hid (∃ F, 2 * (s.size - n) + 3 ≤ F ∧ R = bracF F s.data.toList c a (n)) := Lib.hid ⟨F, by omega, hx2⟩
              clear hx2 hsc hq h1 h2
              go_wp2_with fail
              refine Hc.out.mono ?_
              rintro e w7 ⟨rfl, rfl⟩
              go_wp2_with fail
              go_round
              case rel => exact ⟨n, rfl, hn1, by omega, hx3⟩
              case measure => simp [intOf]; omega
            · obtain ⟨E, tE, hE, hc⟩ := rpass_bad (C := (c : Int)) rfl hsc hq
              have Hc := Lib.hid hc
              have hx3 : Hid (R = (n, x + 1) ∧ E = ((x + 1 : Nat) : Int)) := Lib.hid ⟨hx2, hE⟩
              clear hx2 hsc hq hc hE h1 h2
              go_wp2_with fail
              refine Hc.out.mono ?_
              rintro e w7 ⟨rfl, rfl⟩
              go_wp2_with fail
              go_ret2
              exact ⟨by rw [hx3.out.1, hx3.out.2]; rfl, rfl⟩
          · have t3 : ((c : Int) == 1) = true := by rw [beq_iff_eq] at *; omega
            rw [h3] at hx2
            rw [if_pos (by simp)] at hx2
            have hx3 : Hid (R = (k, 6)) := Lib.hid hx2
            clear hx2 h1 h2
            go_wp2_with fail
            go_ret2
            exact ⟨by rw [hx3.out]; rfl, rfl⟩
      · have t1 : (((s[k]'hlt).toNat : Int) == 125) = true := u8b h1 rfl
        rw [h1] at hx2
        have hx3 : Hid (R = (k + 1, 0)) := Lib.hid hx2
        clear hx2 h1
        go_wp2_with fail
        go_ret2
        exact ⟨by rw [hx3.out]; rfl, rfl⟩
    · have hks : k = s.size := by omega
      subst hks
      have d1 : decide ((s.size : Int) < (s.size : Int)) = false := decide_eq_false (by omega)
      have hx3 : Hid (R = (a, 7)) := Lib.hid (by obtain ⟨F, hF, h⟩ := hx.out; rw [bracF_ge (by rw [lenS]; exact Nat.le_refl _)] at h; exact h)
      clear hx
      go_wp2_with fail
      go_ret2
      exact ⟨by rw [hx3.out]; rfl, rfl⟩
set_option maxHeartbeats 16000000 in
set_option maxRecDepth 100000 in
theorem rarth_c (s : ByteArray) (a : Nat) (w : World) (hs : s.size ≤ 140737488355328) (ha : a + 3 ≤ s.size) (hsk : RPassOk s a) (F0 : Nat) (hF0 : 2 * (s.size - a) + 1 ≤ F0) :
    Calls Tryd.prog 134 #[.string s, .int .i64 a] w (Gv w (arthF F0 s.data.toList a (a + 3) 0)) := by
  obtain ⟨R, hR⟩ : ∃ R : Nat × Nat, R = arthF F0 s.data.toList a (a + 3) 0 := ⟨_, rfl⟩
  rw [← hR]
  have HR : Hid (∃ F, 2 * (s.size - (a + 3)) + 3 ≤ F ∧ R = arthF F s.data.toList a (a + 3) 0) := Lib.hid ⟨F0, by omega, hR⟩
  clear hR
  have Hsk := Lib.hid hsk
  clear hsk
  go_enter Tryd.func134, Tryd.ntmps134
  go_wp2_with fail
  go_loop [6, 7] (fun kv dv => ∃ k d : Nat, kv = .int .i64 k ∧ dv = .int .i64 d ∧ k ≤ s.size ∧ a < k ∧ d ≤ k ∧ Hid (∃ F, 2 * (s.size - k) + 3 ≤ F ∧ R = arthF F s.data.toList a k d)) (fun kv _ => s.size - (intOf kv).toNat)
  case atStart => exact ⟨a + 3, 0, by go_num, by go_num, by omega, by omega, by omega, HR⟩
  case round =>
    obtain ⟨k, d, rfl, rfl, hk, hak, hd, hx⟩ := hrel
    clear HR
    by_cases hlt : k < s.size
    · have d1 : decide ((k : Int) < (s.size : Int)) = true := decide_eq_true (by omega)
      have d1' : decide (k < s.size) = true := decide_eq_true hlt
      obtain ⟨F, hF, hx2⟩ := hx.out
      obtain ⟨F, rfl⟩ : ∃ G, F = G + 1 := ⟨F - 1, by omega⟩
      rw [arthF_lt (show k < s.data.toList.length from hlt), btS hlt] at hx2
      clear hx
      rcases h1 : (s[k]'hlt) == 40 with _ | _
      · have t1 : (((s[k]'hlt).toNat : Int) == 40) = false := u8b h1 rfl
        rcases h2 : (s[k]'hlt) == 41 with _ | _
        · have t2 : (((s[k]'hlt).toNat : Int) == 41) = false := u8b h2 rfl
          rw [h1, h2] at hx2
          rw [if_neg (by simp)] at hx2
          have hsc := Hsk.out k 2 F w hak hlt (by omega) (by omega)
          have hin := (all_in s.data.toList F).1 k 2 hlt
          rcases hq : passF F s.data.toList k 2 with ⟨n, x⟩
          rw [hq] at hin hx2
          obtain ⟨hn1, hn2, -⟩ := hin
          rw [lenS] at hn1
          simp only at hn1 hn2
          rcases x with _ | x
          · have hkn := hn2 rfl
            have Hc := Lib.hid (rpass_ok (C := 2) rfl hsc hq)
            have hx3 : Hid (∃ F, 2 * (s.size - n) + 3 ≤ F ∧ R = arthF F s.data.toList a n d) := Lib.hid ⟨F, by omega, hx2⟩
            clear hx2 hsc hq h1 h2
            go_wp2_with fail
            refine Hc.out.mono ?_
            rintro e w7 ⟨rfl, rfl⟩
            go_wp2_with fail
            go_round
            case rel => exact ⟨n, d, rfl, rfl, hn1, by omega, by omega, hx3⟩
            case measure => simp [intOf]; omega
          · obtain ⟨E, tE, hE, hc⟩ := rpass_bad (C := 2) rfl hsc hq
            have Hc := Lib.hid hc
            have hx3 : Hid (R = (n, x + 1) ∧ E = ((x + 1 : Nat) : Int)) := Lib.hid ⟨hx2, hE⟩
            clear hx2 hsc hq hc hE h1 h2
            go_wp2_with fail
            refine Hc.out.mono ?_
            rintro e w7 ⟨rfl, rfl⟩
            go_wp2_with fail
            go_ret2
            exact ⟨by rw [hx3.out.1, hx3.out.2]; rfl, rfl⟩
        · have t2 : (((s[k]'hlt).toNat : Int) == 41) = true := u8b h2 rfl
          rw [h1, h2] at hx2
          by_cases h3 : d = 0
          · subst h3
            have t3 : decide ((0 : Int) < 0) = false := by decide
            rw [if_pos (by simp), lenS] at hx2
            by_cases h5 : k + 1 = s.size
            · have t5 : ((k : Int) + 1 == (s.size : Int)) = true := by rw [beq_iff_eq]; omega
              have t5' : (k + 1 == s.size) = true := by rw [beq_iff_eq]; exact h5
              have hx3 : Hid (R = (a, 7)) := Lib.hid (by rw [if_pos h5] at hx2; exact hx2)
              clear hx2 h1 h2 h5
              go_wp2_with fail
              go_ret2
              exact ⟨by rw [hx3.out]; rfl, rfl⟩
            · have t5 : ((k : Int) + 1 == (s.size : Int)) = false := by rw [beq_eq_false_iff_ne]; omega
              have t5' : (k + 1 == s.size) = false := by rw [beq_eq_false_iff_ne]; exact h5
              have h6 : k + 1 < s.size := by omega
              have i6 : (k : Int) + 1 < (s.size : Int) := by omega
              rw [if_neg h5, btS h6] at hx2
              rcases h7 : (s[k + 1]'h6) == 41 with _ | _
              · have t7 : (((s[k + 1]'h6).toNat : Int) == 41) = false := u8b h7 rfl
                rw [h7] at hx2
                have hx3 : Hid (R = (k, 6)) := Lib.hid hx2
                clear hx2 h1 h2 h5 h7
                go_wp2_with fail
                go_ret2
                exact ⟨by rw [hx3.out]; rfl, rfl⟩
              · have t7 : (((s[k + 1]'h6).toNat : Int) == 41) = true := u8b h7 rfl
                rw [h7] at hx2
                have hx3 : Hid (R = (k + 2, 0)) := Lib.hid hx2
                clear hx2 h1 h2 h5 h7
                go_wp2_with fail
                go_ret2
                exact ⟨by rw [hx3.out]; rfl, rfl⟩
          · have t3 : decide ((0 : Int) < (d : Int)) = true := decide_eq_true (by omega)
            have t3' : decide (0 < d) = true := decide_eq_true (by omega)
            have i0 : (0 : Int) ≤ (d : Int) - 1 := by omega
            have h4 : (d == 0) = false := by rw [beq_eq_false_iff_ne]; exact h3
            rw [h4] at hx2
            rw [if_neg (by simp)] at hx2
            have hsc := Hsk.out k 2 F w hak hlt (by omega) (by omega)
            have hin := (all_in s.data.toList F).1 k 2 hlt
            rcases hq : passF F s.data.toList k 2 with ⟨n, x⟩
            rw [hq] at hin hx2
            obtain ⟨hn1, hn2, -⟩ := hin
            rw [lenS] at hn1
            simp only at hn1 hn2
            rcases x with _ | x
            · have hkn := hn2 rfl
              have Hc := Lib.hid (rpass_ok (C := 2) rfl hsc hq)
              have hx3 : Hid (∃ F, 2 * (s.size - n) + 3 ≤ F ∧ R = arthF F s.data.toList a n (d - 1)) := Lib.hid ⟨F, by omega, hx2⟩
              clear hx2 hsc hq h1 h2 h4
              go_wp2_with fail
              refine Hc.out.mono ?_
              rintro e w7 ⟨rfl, rfl⟩
              go_wp2_with fail
              go_round
              case rel => exact ⟨n, d - 1, rfl, congrArg (Value.int .i64) (by omega), hn1, by omega, by omega, hx3⟩
              case measure => simp [intOf]; omega
            · obtain ⟨E, tE, hE, hc⟩ := rpass_bad (C := 2) rfl hsc hq
              have Hc := Lib.hid hc
              have hx3 : Hid (R = (n, x + 1) ∧ E = ((x + 1 : Nat) : Int)) := Lib.hid ⟨hx2, hE⟩
              clear hx2 hsc hq hc hE h1 h2 h4
              go_wp2_with fail
              refine Hc.out.mono ?_
              rintro e w7 ⟨rfl, rfl⟩
              go_wp2_with fail
              go_ret2
              exact ⟨by rw [hx3.out.1, hx3.out.2]; rfl, rfl⟩
      · have t1 : (((s[k]'hlt).toNat : Int) == 40) = true := u8b h1 rfl
        have h2 : ((s[k]'hlt) == 41) = false := by rw [beq_iff_eq] at h1; rw [h1]; rfl
        rw [h1, h2] at hx2
        rw [if_neg (by simp)] at hx2
        have hsc := Hsk.out k 2 F w hak hlt (by omega) (by omega)
        have hin := (all_in s.data.toList F).1 k 2 hlt
        rcases hq : passF F s.data.toList k 2 with ⟨n, x⟩
        rw [hq] at hin hx2
        obtain ⟨hn1, hn2, -⟩ := hin
        rw [lenS] at hn1
        simp only at hn1 hn2
        rcases x with _ | x
        · have hkn := hn2 rfl
          have Hc := Lib.hid (rpass_ok (C := 2) rfl hsc hq)
          have hx3 : Hid (∃ F, 2 * (s.size - n) + 3 ≤ F ∧ R = arthF F s.data.toList a n (d + 1)) := Lib.hid ⟨F, by omega, hx2⟩
          clear hx2 hsc hq h1 h2
          go_wp2_with fail
          refine Hc.out.mono ?_
          rintro e w7 ⟨rfl, rfl⟩
          go_wp2_with fail
          go_round
          case rel => exact ⟨n, d + 1, rfl, congrArg (Value.int .i64) (by omega), hn1, by omega, by omega, hx3⟩
          case measure => simp [intOf]; omega
        · obtain ⟨E, tE, hE, hc⟩ := rpass_bad (C := 2) rfl hsc hq
          have Hc := Lib.hid hc
          have hx3 : Hid (R = (n, x + 1) ∧ E = ((x + 1 : Nat) : Int)) := Lib.hid ⟨hx2, hE⟩
          clear hx2 hsc hq hc hE h1 h2
          go_wp2_with fail
          refine Hc.out.mono ?_
          rintro e w7 ⟨rfl, rfl⟩
          go_wp2_with fail
          go_ret2
          exact ⟨by rw [hx3.out.1, hx3.out.2]; rfl, rfl⟩
    · have hks : k = s.size := by omega
      subst hks
      have d1 : decide ((s.size : Int) < (s.size : Int)) = false := decide_eq_false (by omega)
      have hx3 : Hid (R = (a, 7)) := Lib.hid (by obtain ⟨F, hF, h⟩ := hx.out; rw [arthF_ge (by rw [lenS]; exact Nat.le_refl _)] at h; exact h)
      clear hx
      go_wp2_with fail
      go_ret2
      exact ⟨by rw [hx3.out]; rfl, rfl⟩
theorem comm_join {s : List UInt8} {F o k d : Nat} {f : Bool} (hF : 1 ≤ F) (hj : joinB s k = true) : commF (F + 1) s o k d f = commF F s o (k + 2) d f := by
  have hl := joinB_le hj
  have hb : bt s k = 92 := by
    unfold joinB at hj
    simp only [Bool.and_eq_true, beq_iff_eq] at hj
    exact hj.2.1
  obtain ⟨G, rfl⟩ : ∃ G, F = G + 1 := ⟨F - 1, by omega⟩
  rw [commF_lt (by omega), hb, if_neg (by simp), if_neg (by simp), passF_92 hb]
  unfold escL
  rw [if_neg (by omega), hj]
  rfl
set_option maxHeartbeats 16000000 in
set_option maxRecDepth 100000 in
theorem rcmd_c (s : ByteArray) (a : Nat) (w : World) (hs : s.size ≤ 140737488355328) (ha : a + 2 ≤ s.size) (hsk : RPassOk s a) (F0 : Nat) (hF0 : 2 * (s.size - a) + 1 ≤ F0) :
    Calls Tryd.prog 135 #[.string s, .int .i64 a] w (Gv w (commF F0 s.data.toList a (a + 2) 0 true)) := by
  obtain ⟨R, hR⟩ : ∃ R : Nat × Nat, R = commF F0 s.data.toList a (a + 2) 0 true := ⟨_, rfl⟩
  rw [← hR]
  have HR : Hid (∃ F, 2 * (s.size - (a + 2)) + 3 ≤ F ∧ R = commF F s.data.toList a (a + 2) (1 - 1) true) := Lib.hid ⟨F0, by omega, hR⟩
  clear hR
  have Hsk := Lib.hid hsk
  clear hsk
  have hcom := Lib.hid (fun (k : Nat) (h : k ≤ s.size) => rcomm_c s k w hs h)
  have hjoi := Lib.hid (fun (k : Nat) (h : k ≤ s.size) => rjoin_c s k w hs h)
  have hbla := Lib.hid (fun (k : Nat) (h : k < s.size) => rblank_c (s[k]'h) w)
  have hopb := Lib.hid (fun (k : Nat) (h : k < s.size) => ropb_c (s[k]'h) w)
  go_enter Tryd.func135, Tryd.ntmps135
  go_wp2_with fail
  go_loop [6, 7, 8] (fun kv dv fv => ∃ (k d : Nat) (f : Bool), kv = .int .i64 k ∧ dv = .int .i64 d ∧ fv = .bool f ∧ k ≤ s.size ∧ a < k ∧ d ≤ k + 1 ∧ 1 ≤ d ∧ Hid (∃ F, 2 * (s.size - k) + 3 ≤ F ∧ R = commF F s.data.toList a k (d - 1) f)) (fun kv _ _ => s.size - (intOf kv).toNat)
  case atStart => exact ⟨a + 2, 1, true, by go_num, by go_num, rfl, by omega, by omega, by omega, by omega, HR⟩
  case round =>
    obtain ⟨k, d, f, rfl, rfl, rfl, hk, hak, hd, hdp, hx⟩ := hrel
    clear HR
    by_cases hlt : k < s.size
    · have d1 : decide ((k : Int) < (s.size : Int)) = true := decide_eq_true (by omega)
      have d1' : decide (k < s.size) = true := decide_eq_true hlt
      obtain ⟨F, hF, hx2⟩ := hx.out
      obtain ⟨F, rfl⟩ : ∃ G, F = G + 1 := ⟨F - 1, by omega⟩
      have hgt := commL_gt (show k < s.data.toList.length from hlt)
      rw [btS hlt] at hgt
      have hle := commL_le (s := s.data.toList) (p := k) (by rw [lenS]; omega)
      have hjl := joinB_le (s := s.data.toList) (p := k)
      have hjc := comm_join (s := s.data.toList) (F := F) (o := a) (k := k) (d := d - 1) (f := f) (by omega)
      rw [lenS] at hle hjl
      have hx9 := hx2
      rw [commF_lt (show k < s.data.toList.length from hlt), btS hlt] at hx2
      have Hcom := Lib.hid (hcom.out k hk)
      have Hjoi := Lib.hid (hjoi.out k hk)
      have Hbla := Lib.hid (hbla.out k hlt)
      have Hopb := Lib.hid (hopb.out k hlt)
      clear hx
      by_cases hfq : ((s[k]'hlt) == 35 && f) = true
      · obtain ⟨h1, rfl⟩ : (s[k]'hlt == 35) = true ∧ f = true := by simpa using hfq
        have t1 : (((s[k]'hlt).toNat : Int) == 35) = true := u8b h1 rfl
        rw [if_pos hfq] at hx2
        have hg := hgt h1
        generalize commL s.data.toList k = m at *
        have hx3 : Hid (∃ F, 2 * (s.size - m) + 3 ≤ F ∧ R = commF F s.data.toList a m (d - 1) true) := Lib.hid ⟨F, by omega, hx2⟩
        clear hx2 h1 hgt hfq hjc hx9
        go_wp2_with fail
        refine Hcom.out.mono ?_
        rintro e w7 ⟨rfl, rfl⟩
        go_wp2_with fail
        go_round
        case rel => exact ⟨m, d, true, rfl, rfl, rfl, hle, by omega, by omega, hdp, hx3⟩
        case measure => simp [intOf]; omega
      rw [if_neg hfq] at hx2
      rcases hj : joinB s.data.toList k with _ | _
      · rw [hj] at Hjoi hx2
        have hbo : borderB (s[k]'hlt) = (blankB (s[k]'hlt) || (s[k]'hlt) == 10 || opB (s[k]'hlt)) := rfl
        rw [if_neg (show ¬ false = true from by simp), hbo] at hx2
        generalize blankB (s[k]'hlt) = bl at *
        generalize opB (s[k]'hlt) = op at *
        clear hbo hjc hx9 hjl hgt hle Hcom
        rcases f with _ | _
        · clear hfq
          rcases h2 : (s[k]'hlt) == 41 with _ | _
          · have t2 : (((s[k]'hlt).toNat : Int) == 41) = false := u8b h2 rfl
            rw [h2] at hx2
            rw [if_neg (by simp)] at hx2
            rcases h3 : (s[k]'hlt) == 40 with _ | _
            · have t3 : (((s[k]'hlt).toNat : Int) == 40) = false := u8b h3 rfl
              rw [h3] at hx2
              have hx0 := hx2
              clear hx2
              rcases bl with _ | _
              · rcases h10 : (s[k]'hlt) == 10 with _ | _
                · have t10 : (((s[k]'hlt).toNat : Int) == 10) = false := u8b h10 rfl
                  have hx2 := hx0
                  rw [h10, Bool.false_or, Bool.false_or] at hx2
                  have hsc := Hsk.out k 0 F w hak hlt (by omega) (by omega)
                  have hin := (all_in s.data.toList F).1 k 0 hlt
                  rcases hq : passF F s.data.toList k 0 with ⟨n, x⟩
                  rw [hq] at hin hx2
                  obtain ⟨hn1, hn2, -⟩ := hin
                  rw [lenS] at hn1
                  simp only at hn1 hn2
                  rcases x with _ | x
                  · have hkn := hn2 rfl
                    have Hc := Lib.hid (rpass_ok (C := 0) rfl hsc hq)
                    have hx3 : Hid (∃ F, 2 * (s.size - n) + 3 ≤ F ∧ R = commF F s.data.toList a n (d - 1) op) := Lib.hid ⟨F, by omega, hx2⟩
                    clear hx2 hsc hq hx0 h10 h2 h3 
                    go_wp2_with fail
                    refine Hjoi.out.mono ?_
                    rintro e w7 ⟨rfl, rfl⟩
                    go_wp2_with fail
                    refine Hbla.out.mono ?_
                    rintro e w7 ⟨rfl, rfl⟩
                    go_wp2_with fail
                    refine Hopb.out.mono ?_
                    rintro e w7 ⟨rfl, rfl⟩
                    go_wp2_with fail
                    refine Hc.out.mono ?_
                    rintro e w7 ⟨rfl, rfl⟩
                    go_wp2_with fail
                    go_round
                    case rel => exact ⟨n, d, op, rfl, rfl, rfl, hn1, by omega, by omega, by omega, hx3⟩
                    case measure => simp [intOf]; omega
                  · obtain ⟨E, tE, hE, hc⟩ := rpass_bad (C := 0) rfl hsc hq
                    have Hc := Lib.hid hc
                    have hx3 : Hid (R = (n, x + 1) ∧ E = ((x + 1 : Nat) : Int)) := Lib.hid ⟨hx2, hE⟩
                    clear hx2 hsc hq hc hE hx0 h10 h2 h3 
                    go_wp2_with fail
                    refine Hjoi.out.mono ?_
                    rintro e w7 ⟨rfl, rfl⟩
                    go_wp2_with fail
                    refine Hbla.out.mono ?_
                    rintro e w7 ⟨rfl, rfl⟩
                    go_wp2_with fail
                    refine Hopb.out.mono ?_
                    rintro e w7 ⟨rfl, rfl⟩
                    go_wp2_with fail
                    refine Hc.out.mono ?_
                    rintro e w7 ⟨rfl, rfl⟩
                    go_wp2_with fail
                    go_ret2
                    exact ⟨by rw [hx3.out.1, hx3.out.2]; rfl, rfl⟩
                · have t10 : (((s[k]'hlt).toNat : Int) == 10) = true := u8b h10 rfl
                  have hx2 := hx0
                  rw [h10, Bool.false_or, Bool.true_or] at hx2
                  have hsc := Hsk.out k 0 F w hak hlt (by omega) (by omega)
                  have hin := (all_in s.data.toList F).1 k 0 hlt
                  rcases hq : passF F s.data.toList k 0 with ⟨n, x⟩
                  rw [hq] at hin hx2
                  obtain ⟨hn1, hn2, -⟩ := hin
                  rw [lenS] at hn1
                  simp only at hn1 hn2
                  rcases x with _ | x
                  · have hkn := hn2 rfl
                    have Hc := Lib.hid (rpass_ok (C := 0) rfl hsc hq)
                    have hx3 : Hid (∃ F, 2 * (s.size - n) + 3 ≤ F ∧ R = commF F s.data.toList a n (d - 1) true) := Lib.hid ⟨F, by omega, hx2⟩
                    clear hx2 hsc hq hx0 h10 h2 h3 
                    go_wp2_with fail
                    refine Hjoi.out.mono ?_
                    rintro e w7 ⟨rfl, rfl⟩
                    go_wp2_with fail
                    refine Hbla.out.mono ?_
                    rintro e w7 ⟨rfl, rfl⟩
                    go_wp2_with fail
                    refine Hc.out.mono ?_
                    rintro e w7 ⟨rfl, rfl⟩
                    go_wp2_with fail
                    go_round
                    case rel => exact ⟨n, d, true, rfl, rfl, rfl, hn1, by omega, by omega, by omega, hx3⟩
                    case measure => simp [intOf]; omega
                  · obtain ⟨E, tE, hE, hc⟩ := rpass_bad (C := 0) rfl hsc hq
                    have Hc := Lib.hid hc
                    have hx3 : Hid (R = (n, x + 1) ∧ E = ((x + 1 : Nat) : Int)) := Lib.hid ⟨hx2, hE⟩
                    clear hx2 hsc hq hc hE hx0 h10 h2 h3 
                    go_wp2_with fail
                    refine Hjoi.out.mono ?_
                    rintro e w7 ⟨rfl, rfl⟩
                    go_wp2_with fail
                    refine Hbla.out.mono ?_
                    rintro e w7 ⟨rfl, rfl⟩
                    go_wp2_with fail
                    refine Hc.out.mono ?_
                    rintro e w7 ⟨rfl, rfl⟩
                    go_wp2_with fail
                    go_ret2
                    exact ⟨by rw [hx3.out.1, hx3.out.2]; rfl, rfl⟩
              · have hx2 := hx0
                rw [Bool.true_or, Bool.true_or] at hx2
                have hsc := Hsk.out k 0 F w hak hlt (by omega) (by omega)
                have hin := (all_in s.data.toList F).1 k 0 hlt
                rcases hq : passF F s.data.toList k 0 with ⟨n, x⟩
                rw [hq] at hin hx2
                obtain ⟨hn1, hn2, -⟩ := hin
                rw [lenS] at hn1
                simp only at hn1 hn2
                rcases x with _ | x
                · have hkn := hn2 rfl
                  have Hc := Lib.hid (rpass_ok (C := 0) rfl hsc hq)
                  have hx3 : Hid (∃ F, 2 * (s.size - n) + 3 ≤ F ∧ R = commF F s.data.toList a n (d - 1) true) := Lib.hid ⟨F, by omega, hx2⟩
                  clear hx2 hsc hq hx0 h2 h3 
                  go_wp2_with fail
                  refine Hjoi.out.mono ?_
                  rintro e w7 ⟨rfl, rfl⟩
                  go_wp2_with fail
                  refine Hbla.out.mono ?_
                  rintro e w7 ⟨rfl, rfl⟩
                  go_wp2_with fail
                  refine Hc.out.mono ?_
                  rintro e w7 ⟨rfl, rfl⟩
                  go_wp2_with fail
                  go_round
                  case rel => exact ⟨n, d, true, rfl, rfl, rfl, hn1, by omega, by omega, by omega, hx3⟩
                  case measure => simp [intOf]; omega
                · obtain ⟨E, tE, hE, hc⟩ := rpass_bad (C := 0) rfl hsc hq
                  have Hc := Lib.hid hc
                  have hx3 : Hid (R = (n, x + 1) ∧ E = ((x + 1 : Nat) : Int)) := Lib.hid ⟨hx2, hE⟩
                  clear hx2 hsc hq hc hE hx0 h2 h3 
                  go_wp2_with fail
                  refine Hjoi.out.mono ?_
                  rintro e w7 ⟨rfl, rfl⟩
                  go_wp2_with fail
                  refine Hbla.out.mono ?_
                  rintro e w7 ⟨rfl, rfl⟩
                  go_wp2_with fail
                  refine Hc.out.mono ?_
                  rintro e w7 ⟨rfl, rfl⟩
                  go_wp2_with fail
                  go_ret2
                  exact ⟨by rw [hx3.out.1, hx3.out.2]; rfl, rfl⟩
            · have t3 : (((s[k]'hlt).toNat : Int) == 40) = true := u8b h3 rfl
              rw [h3] at hx2
              rw [if_pos rfl, show d - 1 + 1 = d + 1 - 1 from by omega] at hx2
              have hx0 := hx2
              clear hx2
              rcases bl with _ | _
              · rcases h10 : (s[k]'hlt) == 10 with _ | _
                · have t10 : (((s[k]'hlt).toNat : Int) == 10) = false := u8b h10 rfl
                  have hx2 := hx0
                  rw [h10, Bool.false_or, Bool.false_or] at hx2
                  have hsc := Hsk.out k 0 F w hak hlt (by omega) (by omega)
                  have hin := (all_in s.data.toList F).1 k 0 hlt
                  rcases hq : passF F s.data.toList k 0 with ⟨n, x⟩
                  rw [hq] at hin hx2
                  obtain ⟨hn1, hn2, -⟩ := hin
                  rw [lenS] at hn1
                  simp only at hn1 hn2
                  rcases x with _ | x
                  · have hkn := hn2 rfl
                    have Hc := Lib.hid (rpass_ok (C := 0) rfl hsc hq)
                    have hx3 : Hid (∃ F, 2 * (s.size - n) + 3 ≤ F ∧ R = commF F s.data.toList a n (d + 1 - 1) op) := Lib.hid ⟨F, by omega, hx2⟩
                    clear hx2 hsc hq hx0 h10 h2 h3 
                    go_wp2_with fail
                    refine Hjoi.out.mono ?_
                    rintro e w7 ⟨rfl, rfl⟩
                    go_wp2_with fail
                    refine Hbla.out.mono ?_
                    rintro e w7 ⟨rfl, rfl⟩
                    go_wp2_with fail
                    refine Hopb.out.mono ?_
                    rintro e w7 ⟨rfl, rfl⟩
                    go_wp2_with fail
                    refine Hc.out.mono ?_
                    rintro e w7 ⟨rfl, rfl⟩
                    go_wp2_with fail
                    go_round
                    case rel => exact ⟨n, d + 1, op, rfl, congrArg (Value.int .i64) (by omega), rfl, hn1, by omega, by omega, by omega, hx3⟩
                    case measure => simp [intOf]; omega
                  · obtain ⟨E, tE, hE, hc⟩ := rpass_bad (C := 0) rfl hsc hq
                    have Hc := Lib.hid hc
                    have hx3 : Hid (R = (n, x + 1) ∧ E = ((x + 1 : Nat) : Int)) := Lib.hid ⟨hx2, hE⟩
                    clear hx2 hsc hq hc hE hx0 h10 h2 h3 
                    go_wp2_with fail
                    refine Hjoi.out.mono ?_
                    rintro e w7 ⟨rfl, rfl⟩
                    go_wp2_with fail
                    refine Hbla.out.mono ?_
                    rintro e w7 ⟨rfl, rfl⟩
                    go_wp2_with fail
                    refine Hopb.out.mono ?_
                    rintro e w7 ⟨rfl, rfl⟩
                    go_wp2_with fail
                    refine Hc.out.mono ?_
                    rintro e w7 ⟨rfl, rfl⟩
                    go_wp2_with fail
                    go_ret2
                    exact ⟨by rw [hx3.out.1, hx3.out.2]; rfl, rfl⟩
                · have t10 : (((s[k]'hlt).toNat : Int) == 10) = true := u8b h10 rfl
                  have hx2 := hx0
                  rw [h10, Bool.false_or, Bool.true_or] at hx2
                  have hsc := Hsk.out k 0 F w hak hlt (by omega) (by omega)
                  have hin := (all_in s.data.toList F).1 k 0 hlt
                  rcases hq : passF F s.data.toList k 0 with ⟨n, x⟩
                  rw [hq] at hin hx2
                  obtain ⟨hn1, hn2, -⟩ := hin
                  rw [lenS] at hn1
                  simp only at hn1 hn2
                  rcases x with _ | x
                  · have hkn := hn2 rfl
                    have Hc := Lib.hid (rpass_ok (C := 0) rfl hsc hq)
                    have hx3 : Hid (∃ F, 2 * (s.size - n) + 3 ≤ F ∧ R = commF F s.data.toList a n (d + 1 - 1) true) := Lib.hid ⟨F, by omega, hx2⟩
                    clear hx2 hsc hq hx0 h10 h2 h3 
                    go_wp2_with fail
                    refine Hjoi.out.mono ?_
                    rintro e w7 ⟨rfl, rfl⟩
                    go_wp2_with fail
                    refine Hbla.out.mono ?_
                    rintro e w7 ⟨rfl, rfl⟩
                    go_wp2_with fail
                    refine Hc.out.mono ?_
                    rintro e w7 ⟨rfl, rfl⟩
                    go_wp2_with fail
                    go_round
                    case rel => exact ⟨n, d + 1, true, rfl, congrArg (Value.int .i64) (by omega), rfl, hn1, by omega, by omega, by omega, hx3⟩
                    case measure => simp [intOf]; omega
                  · obtain ⟨E, tE, hE, hc⟩ := rpass_bad (C := 0) rfl hsc hq
                    have Hc := Lib.hid hc
                    have hx3 : Hid (R = (n, x + 1) ∧ E = ((x + 1 : Nat) : Int)) := Lib.hid ⟨hx2, hE⟩
                    clear hx2 hsc hq hc hE hx0 h10 h2 h3 
                    go_wp2_with fail
                    refine Hjoi.out.mono ?_
                    rintro e w7 ⟨rfl, rfl⟩
                    go_wp2_with fail
                    refine Hbla.out.mono ?_
                    rintro e w7 ⟨rfl, rfl⟩
                    go_wp2_with fail
                    refine Hc.out.mono ?_
                    rintro e w7 ⟨rfl, rfl⟩
                    go_wp2_with fail
                    go_ret2
                    exact ⟨by rw [hx3.out.1, hx3.out.2]; rfl, rfl⟩
              · have hx2 := hx0
                rw [Bool.true_or, Bool.true_or] at hx2
                have hsc := Hsk.out k 0 F w hak hlt (by omega) (by omega)
                have hin := (all_in s.data.toList F).1 k 0 hlt
                rcases hq : passF F s.data.toList k 0 with ⟨n, x⟩
                rw [hq] at hin hx2
                obtain ⟨hn1, hn2, -⟩ := hin
                rw [lenS] at hn1
                simp only at hn1 hn2
                rcases x with _ | x
                · have hkn := hn2 rfl
                  have Hc := Lib.hid (rpass_ok (C := 0) rfl hsc hq)
                  have hx3 : Hid (∃ F, 2 * (s.size - n) + 3 ≤ F ∧ R = commF F s.data.toList a n (d + 1 - 1) true) := Lib.hid ⟨F, by omega, hx2⟩
                  clear hx2 hsc hq hx0 h2 h3 
                  go_wp2_with fail
                  refine Hjoi.out.mono ?_
                  rintro e w7 ⟨rfl, rfl⟩
                  go_wp2_with fail
                  refine Hbla.out.mono ?_
                  rintro e w7 ⟨rfl, rfl⟩
                  go_wp2_with fail
                  refine Hc.out.mono ?_
                  rintro e w7 ⟨rfl, rfl⟩
                  go_wp2_with fail
                  go_round
                  case rel => exact ⟨n, d + 1, true, rfl, congrArg (Value.int .i64) (by omega), rfl, hn1, by omega, by omega, by omega, hx3⟩
                  case measure => simp [intOf]; omega
                · obtain ⟨E, tE, hE, hc⟩ := rpass_bad (C := 0) rfl hsc hq
                  have Hc := Lib.hid hc
                  have hx3 : Hid (R = (n, x + 1) ∧ E = ((x + 1 : Nat) : Int)) := Lib.hid ⟨hx2, hE⟩
                  clear hx2 hsc hq hc hE hx0 h2 h3 
                  go_wp2_with fail
                  refine Hjoi.out.mono ?_
                  rintro e w7 ⟨rfl, rfl⟩
                  go_wp2_with fail
                  refine Hbla.out.mono ?_
                  rintro e w7 ⟨rfl, rfl⟩
                  go_wp2_with fail
                  refine Hc.out.mono ?_
                  rintro e w7 ⟨rfl, rfl⟩
                  go_wp2_with fail
                  go_ret2
                  exact ⟨by rw [hx3.out.1, hx3.out.2]; rfl, rfl⟩
          · have t2 : (((s[k]'hlt).toNat : Int) == 41) = true := u8b h2 rfl
            have h3 : ((s[k]'hlt) == 40) = false := by rw [beq_iff_eq] at h2; rw [h2]; rfl
            have t3 : (((s[k]'hlt).toNat : Int) == 40) = false := u8b h3 rfl
            rw [h2, h3] at hx2
            by_cases h4 : d = 1
            · subst h4
              have hx3 : Hid (R = (k + 1, 0)) := Lib.hid (by rw [if_pos (by simp)] at hx2; exact hx2)
              clear hx2 h2 h3 
              go_wp2_with fail
              refine Hjoi.out.mono ?_
              rintro e w7 ⟨rfl, rfl⟩
              go_wp2_with fail
              go_ret2
              exact ⟨by rw [hx3.out]; rfl, rfl⟩
            · have t4 : ((d : Int) == 1) = false := by rw [beq_eq_false_iff_ne]; omega
              have t4' : (d == 1) = false := by rw [beq_eq_false_iff_ne]; exact h4
              have i0 : (0 : Int) ≤ (d : Int) - 1 := by omega
              have h5 : (d - 1 == 0) = false := by rw [beq_eq_false_iff_ne]; omega
              rw [h5] at hx2
              rw [if_neg (by simp)] at hx2
              have hx0 := hx2
              clear hx2
              rcases bl with _ | _
              · rcases h10 : (s[k]'hlt) == 10 with _ | _
                · have t10 : (((s[k]'hlt).toNat : Int) == 10) = false := u8b h10 rfl
                  have hx2 := hx0
                  rw [h10, Bool.false_or, Bool.false_or] at hx2
                  have hsc := Hsk.out k 0 F w hak hlt (by omega) (by omega)
                  have hin := (all_in s.data.toList F).1 k 0 hlt
                  rcases hq : passF F s.data.toList k 0 with ⟨n, x⟩
                  rw [hq] at hin hx2
                  obtain ⟨hn1, hn2, -⟩ := hin
                  rw [lenS] at hn1
                  simp only at hn1 hn2
                  rcases x with _ | x
                  · have hkn := hn2 rfl
                    have Hc := Lib.hid (rpass_ok (C := 0) rfl hsc hq)
                    have hx3 : Hid (∃ F, 2 * (s.size - n) + 3 ≤ F ∧ R = commF F s.data.toList a n ((d - 1) - 1) op) := Lib.hid ⟨F, by omega, hx2⟩
                    clear hx2 hsc hq hx0 h10 h2 h3 h5 
                    go_wp2_with fail
                    refine Hjoi.out.mono ?_
                    rintro e w7 ⟨rfl, rfl⟩
                    go_wp2_with fail
                    refine Hbla.out.mono ?_
                    rintro e w7 ⟨rfl, rfl⟩
                    go_wp2_with fail
                    refine Hopb.out.mono ?_
                    rintro e w7 ⟨rfl, rfl⟩
                    go_wp2_with fail
                    refine Hc.out.mono ?_
                    rintro e w7 ⟨rfl, rfl⟩
                    go_wp2_with fail
                    go_round
                    case rel => exact ⟨n, (d - 1), op, rfl, congrArg (Value.int .i64) (by omega), rfl, hn1, by omega, by omega, by omega, hx3⟩
                    case measure => simp [intOf]; omega
                  · obtain ⟨E, tE, hE, hc⟩ := rpass_bad (C := 0) rfl hsc hq
                    have Hc := Lib.hid hc
                    have hx3 : Hid (R = (n, x + 1) ∧ E = ((x + 1 : Nat) : Int)) := Lib.hid ⟨hx2, hE⟩
                    clear hx2 hsc hq hc hE hx0 h10 h2 h3 h5 
                    go_wp2_with fail
                    refine Hjoi.out.mono ?_
                    rintro e w7 ⟨rfl, rfl⟩
                    go_wp2_with fail
                    refine Hbla.out.mono ?_
                    rintro e w7 ⟨rfl, rfl⟩
                    go_wp2_with fail
                    refine Hopb.out.mono ?_
                    rintro e w7 ⟨rfl, rfl⟩
                    go_wp2_with fail
                    refine Hc.out.mono ?_
                    rintro e w7 ⟨rfl, rfl⟩
                    go_wp2_with fail
                    go_ret2
                    exact ⟨by rw [hx3.out.1, hx3.out.2]; rfl, rfl⟩
                · have t10 : (((s[k]'hlt).toNat : Int) == 10) = true := u8b h10 rfl
                  have hx2 := hx0
                  rw [h10, Bool.false_or, Bool.true_or] at hx2
                  have hsc := Hsk.out k 0 F w hak hlt (by omega) (by omega)
                  have hin := (all_in s.data.toList F).1 k 0 hlt
                  rcases hq : passF F s.data.toList k 0 with ⟨n, x⟩
                  rw [hq] at hin hx2
                  obtain ⟨hn1, hn2, -⟩ := hin
                  rw [lenS] at hn1
                  simp only at hn1 hn2
                  rcases x with _ | x
                  · have hkn := hn2 rfl
                    have Hc := Lib.hid (rpass_ok (C := 0) rfl hsc hq)
                    have hx3 : Hid (∃ F, 2 * (s.size - n) + 3 ≤ F ∧ R = commF F s.data.toList a n ((d - 1) - 1) true) := Lib.hid ⟨F, by omega, hx2⟩
                    clear hx2 hsc hq hx0 h10 h2 h3 h5 
                    go_wp2_with fail
                    refine Hjoi.out.mono ?_
                    rintro e w7 ⟨rfl, rfl⟩
                    go_wp2_with fail
                    refine Hbla.out.mono ?_
                    rintro e w7 ⟨rfl, rfl⟩
                    go_wp2_with fail
                    refine Hc.out.mono ?_
                    rintro e w7 ⟨rfl, rfl⟩
                    go_wp2_with fail
                    go_round
                    case rel => exact ⟨n, (d - 1), true, rfl, congrArg (Value.int .i64) (by omega), rfl, hn1, by omega, by omega, by omega, hx3⟩
                    case measure => simp [intOf]; omega
                  · obtain ⟨E, tE, hE, hc⟩ := rpass_bad (C := 0) rfl hsc hq
                    have Hc := Lib.hid hc
                    have hx3 : Hid (R = (n, x + 1) ∧ E = ((x + 1 : Nat) : Int)) := Lib.hid ⟨hx2, hE⟩
                    clear hx2 hsc hq hc hE hx0 h10 h2 h3 h5 
                    go_wp2_with fail
                    refine Hjoi.out.mono ?_
                    rintro e w7 ⟨rfl, rfl⟩
                    go_wp2_with fail
                    refine Hbla.out.mono ?_
                    rintro e w7 ⟨rfl, rfl⟩
                    go_wp2_with fail
                    refine Hc.out.mono ?_
                    rintro e w7 ⟨rfl, rfl⟩
                    go_wp2_with fail
                    go_ret2
                    exact ⟨by rw [hx3.out.1, hx3.out.2]; rfl, rfl⟩
              · have hx2 := hx0
                rw [Bool.true_or, Bool.true_or] at hx2
                have hsc := Hsk.out k 0 F w hak hlt (by omega) (by omega)
                have hin := (all_in s.data.toList F).1 k 0 hlt
                rcases hq : passF F s.data.toList k 0 with ⟨n, x⟩
                rw [hq] at hin hx2
                obtain ⟨hn1, hn2, -⟩ := hin
                rw [lenS] at hn1
                simp only at hn1 hn2
                rcases x with _ | x
                · have hkn := hn2 rfl
                  have Hc := Lib.hid (rpass_ok (C := 0) rfl hsc hq)
                  have hx3 : Hid (∃ F, 2 * (s.size - n) + 3 ≤ F ∧ R = commF F s.data.toList a n ((d - 1) - 1) true) := Lib.hid ⟨F, by omega, hx2⟩
                  clear hx2 hsc hq hx0 h2 h3 h5 
                  go_wp2_with fail
                  refine Hjoi.out.mono ?_
                  rintro e w7 ⟨rfl, rfl⟩
                  go_wp2_with fail
                  refine Hbla.out.mono ?_
                  rintro e w7 ⟨rfl, rfl⟩
                  go_wp2_with fail
                  refine Hc.out.mono ?_
                  rintro e w7 ⟨rfl, rfl⟩
                  go_wp2_with fail
                  go_round
                  case rel => exact ⟨n, (d - 1), true, rfl, congrArg (Value.int .i64) (by omega), rfl, hn1, by omega, by omega, by omega, hx3⟩
                  case measure => simp [intOf]; omega
                · obtain ⟨E, tE, hE, hc⟩ := rpass_bad (C := 0) rfl hsc hq
                  have Hc := Lib.hid hc
                  have hx3 : Hid (R = (n, x + 1) ∧ E = ((x + 1 : Nat) : Int)) := Lib.hid ⟨hx2, hE⟩
                  clear hx2 hsc hq hc hE hx0 h2 h3 h5 
                  go_wp2_with fail
                  refine Hjoi.out.mono ?_
                  rintro e w7 ⟨rfl, rfl⟩
                  go_wp2_with fail
                  refine Hbla.out.mono ?_
                  rintro e w7 ⟨rfl, rfl⟩
                  go_wp2_with fail
                  refine Hc.out.mono ?_
                  rintro e w7 ⟨rfl, rfl⟩
                  go_wp2_with fail
                  go_ret2
                  exact ⟨by rw [hx3.out.1, hx3.out.2]; rfl, rfl⟩
        · have h1 : ((s[k]'hlt) == 35) = false := by simpa using hfq
          have t1 : (((s[k]'hlt).toNat : Int) == 35) = false := u8b h1 rfl
          clear hfq
          rcases h2 : (s[k]'hlt) == 41 with _ | _
          · have t2 : (((s[k]'hlt).toNat : Int) == 41) = false := u8b h2 rfl
            rw [h2] at hx2
            rw [if_neg (by simp)] at hx2
            rcases h3 : (s[k]'hlt) == 40 with _ | _
            · have t3 : (((s[k]'hlt).toNat : Int) == 40) = false := u8b h3 rfl
              rw [h3] at hx2
              have hx0 := hx2
              clear hx2
              rcases bl with _ | _
              · rcases h10 : (s[k]'hlt) == 10 with _ | _
                · have t10 : (((s[k]'hlt).toNat : Int) == 10) = false := u8b h10 rfl
                  have hx2 := hx0
                  rw [h10, Bool.false_or, Bool.false_or] at hx2
                  have hsc := Hsk.out k 0 F w hak hlt (by omega) (by omega)
                  have hin := (all_in s.data.toList F).1 k 0 hlt
                  rcases hq : passF F s.data.toList k 0 with ⟨n, x⟩
                  rw [hq] at hin hx2
                  obtain ⟨hn1, hn2, -⟩ := hin
                  rw [lenS] at hn1
                  simp only at hn1 hn2
                  rcases x with _ | x
                  · have hkn := hn2 rfl
                    have Hc := Lib.hid (rpass_ok (C := 0) rfl hsc hq)
                    have hx3 : Hid (∃ F, 2 * (s.size - n) + 3 ≤ F ∧ R = commF F s.data.toList a n (d - 1) op) := Lib.hid ⟨F, by omega, hx2⟩
                    clear hx2 hsc hq hx0 h10 h2 h3 h1
                    go_wp2_with fail
                    refine Hjoi.out.mono ?_
                    rintro e w7 ⟨rfl, rfl⟩
                    go_wp2_with fail
                    refine Hbla.out.mono ?_
                    rintro e w7 ⟨rfl, rfl⟩
                    go_wp2_with fail
                    refine Hopb.out.mono ?_
                    rintro e w7 ⟨rfl, rfl⟩
                    go_wp2_with fail
                    refine Hc.out.mono ?_
                    rintro e w7 ⟨rfl, rfl⟩
                    go_wp2_with fail
                    go_round
                    case rel => exact ⟨n, d, op, rfl, rfl, rfl, hn1, by omega, by omega, by omega, hx3⟩
                    case measure => simp [intOf]; omega
                  · obtain ⟨E, tE, hE, hc⟩ := rpass_bad (C := 0) rfl hsc hq
                    have Hc := Lib.hid hc
                    have hx3 : Hid (R = (n, x + 1) ∧ E = ((x + 1 : Nat) : Int)) := Lib.hid ⟨hx2, hE⟩
                    clear hx2 hsc hq hc hE hx0 h10 h2 h3 h1
                    go_wp2_with fail
                    refine Hjoi.out.mono ?_
                    rintro e w7 ⟨rfl, rfl⟩
                    go_wp2_with fail
                    refine Hbla.out.mono ?_
                    rintro e w7 ⟨rfl, rfl⟩
                    go_wp2_with fail
                    refine Hopb.out.mono ?_
                    rintro e w7 ⟨rfl, rfl⟩
                    go_wp2_with fail
                    refine Hc.out.mono ?_
                    rintro e w7 ⟨rfl, rfl⟩
                    go_wp2_with fail
                    go_ret2
                    exact ⟨by rw [hx3.out.1, hx3.out.2]; rfl, rfl⟩
                · have t10 : (((s[k]'hlt).toNat : Int) == 10) = true := u8b h10 rfl
                  have hx2 := hx0
                  rw [h10, Bool.false_or, Bool.true_or] at hx2
                  have hsc := Hsk.out k 0 F w hak hlt (by omega) (by omega)
                  have hin := (all_in s.data.toList F).1 k 0 hlt
                  rcases hq : passF F s.data.toList k 0 with ⟨n, x⟩
                  rw [hq] at hin hx2
                  obtain ⟨hn1, hn2, -⟩ := hin
                  rw [lenS] at hn1
                  simp only at hn1 hn2
                  rcases x with _ | x
                  · have hkn := hn2 rfl
                    have Hc := Lib.hid (rpass_ok (C := 0) rfl hsc hq)
                    have hx3 : Hid (∃ F, 2 * (s.size - n) + 3 ≤ F ∧ R = commF F s.data.toList a n (d - 1) true) := Lib.hid ⟨F, by omega, hx2⟩
                    clear hx2 hsc hq hx0 h10 h2 h3 h1
                    go_wp2_with fail
                    refine Hjoi.out.mono ?_
                    rintro e w7 ⟨rfl, rfl⟩
                    go_wp2_with fail
                    refine Hbla.out.mono ?_
                    rintro e w7 ⟨rfl, rfl⟩
                    go_wp2_with fail
                    refine Hc.out.mono ?_
                    rintro e w7 ⟨rfl, rfl⟩
                    go_wp2_with fail
                    go_round
                    case rel => exact ⟨n, d, true, rfl, rfl, rfl, hn1, by omega, by omega, by omega, hx3⟩
                    case measure => simp [intOf]; omega
                  · obtain ⟨E, tE, hE, hc⟩ := rpass_bad (C := 0) rfl hsc hq
                    have Hc := Lib.hid hc
                    have hx3 : Hid (R = (n, x + 1) ∧ E = ((x + 1 : Nat) : Int)) := Lib.hid ⟨hx2, hE⟩
                    clear hx2 hsc hq hc hE hx0 h10 h2 h3 h1
                    go_wp2_with fail
                    refine Hjoi.out.mono ?_
                    rintro e w7 ⟨rfl, rfl⟩
                    go_wp2_with fail
                    refine Hbla.out.mono ?_
                    rintro e w7 ⟨rfl, rfl⟩
                    go_wp2_with fail
                    refine Hc.out.mono ?_
                    rintro e w7 ⟨rfl, rfl⟩
                    go_wp2_with fail
                    go_ret2
                    exact ⟨by rw [hx3.out.1, hx3.out.2]; rfl, rfl⟩
              · have hx2 := hx0
                rw [Bool.true_or, Bool.true_or] at hx2
                have hsc := Hsk.out k 0 F w hak hlt (by omega) (by omega)
                have hin := (all_in s.data.toList F).1 k 0 hlt
                rcases hq : passF F s.data.toList k 0 with ⟨n, x⟩
                rw [hq] at hin hx2
                obtain ⟨hn1, hn2, -⟩ := hin
                rw [lenS] at hn1
                simp only at hn1 hn2
                rcases x with _ | x
                · have hkn := hn2 rfl
                  have Hc := Lib.hid (rpass_ok (C := 0) rfl hsc hq)
                  have hx3 : Hid (∃ F, 2 * (s.size - n) + 3 ≤ F ∧ R = commF F s.data.toList a n (d - 1) true) := Lib.hid ⟨F, by omega, hx2⟩
                  clear hx2 hsc hq hx0 h2 h3 h1
                  go_wp2_with fail
                  refine Hjoi.out.mono ?_
                  rintro e w7 ⟨rfl, rfl⟩
                  go_wp2_with fail
                  refine Hbla.out.mono ?_
                  rintro e w7 ⟨rfl, rfl⟩
                  go_wp2_with fail
                  refine Hc.out.mono ?_
                  rintro e w7 ⟨rfl, rfl⟩
                  go_wp2_with fail
                  go_round
                  case rel => exact ⟨n, d, true, rfl, rfl, rfl, hn1, by omega, by omega, by omega, hx3⟩
                  case measure => simp [intOf]; omega
                · obtain ⟨E, tE, hE, hc⟩ := rpass_bad (C := 0) rfl hsc hq
                  have Hc := Lib.hid hc
                  have hx3 : Hid (R = (n, x + 1) ∧ E = ((x + 1 : Nat) : Int)) := Lib.hid ⟨hx2, hE⟩
                  clear hx2 hsc hq hc hE hx0 h2 h3 h1
                  go_wp2_with fail
                  refine Hjoi.out.mono ?_
                  rintro e w7 ⟨rfl, rfl⟩
                  go_wp2_with fail
                  refine Hbla.out.mono ?_
                  rintro e w7 ⟨rfl, rfl⟩
                  go_wp2_with fail
                  refine Hc.out.mono ?_
                  rintro e w7 ⟨rfl, rfl⟩
                  go_wp2_with fail
                  go_ret2
                  exact ⟨by rw [hx3.out.1, hx3.out.2]; rfl, rfl⟩
            · have t3 : (((s[k]'hlt).toNat : Int) == 40) = true := u8b h3 rfl
              rw [h3] at hx2
              rw [if_pos rfl, show d - 1 + 1 = d + 1 - 1 from by omega] at hx2
              have hx0 := hx2
              clear hx2
              rcases bl with _ | _
              · rcases h10 : (s[k]'hlt) == 10 with _ | _
                · have t10 : (((s[k]'hlt).toNat : Int) == 10) = false := u8b h10 rfl
                  have hx2 := hx0
                  rw [h10, Bool.false_or, Bool.false_or] at hx2
                  have hsc := Hsk.out k 0 F w hak hlt (by omega) (by omega)
                  have hin := (all_in s.data.toList F).1 k 0 hlt
                  rcases hq : passF F s.data.toList k 0 with ⟨n, x⟩
                  rw [hq] at hin hx2
                  obtain ⟨hn1, hn2, -⟩ := hin
                  rw [lenS] at hn1
                  simp only at hn1 hn2
                  rcases x with _ | x
                  · have hkn := hn2 rfl
                    have Hc := Lib.hid (rpass_ok (C := 0) rfl hsc hq)
                    have hx3 : Hid (∃ F, 2 * (s.size - n) + 3 ≤ F ∧ R = commF F s.data.toList a n (d + 1 - 1) op) := Lib.hid ⟨F, by omega, hx2⟩
                    clear hx2 hsc hq hx0 h10 h2 h3 h1
                    go_wp2_with fail
                    refine Hjoi.out.mono ?_
                    rintro e w7 ⟨rfl, rfl⟩
                    go_wp2_with fail
                    refine Hbla.out.mono ?_
                    rintro e w7 ⟨rfl, rfl⟩
                    go_wp2_with fail
                    refine Hopb.out.mono ?_
                    rintro e w7 ⟨rfl, rfl⟩
                    go_wp2_with fail
                    refine Hc.out.mono ?_
                    rintro e w7 ⟨rfl, rfl⟩
                    go_wp2_with fail
                    go_round
                    case rel => exact ⟨n, d + 1, op, rfl, congrArg (Value.int .i64) (by omega), rfl, hn1, by omega, by omega, by omega, hx3⟩
                    case measure => simp [intOf]; omega
                  · obtain ⟨E, tE, hE, hc⟩ := rpass_bad (C := 0) rfl hsc hq
                    have Hc := Lib.hid hc
                    have hx3 : Hid (R = (n, x + 1) ∧ E = ((x + 1 : Nat) : Int)) := Lib.hid ⟨hx2, hE⟩
                    clear hx2 hsc hq hc hE hx0 h10 h2 h3 h1
                    go_wp2_with fail
                    refine Hjoi.out.mono ?_
                    rintro e w7 ⟨rfl, rfl⟩
                    go_wp2_with fail
                    refine Hbla.out.mono ?_
                    rintro e w7 ⟨rfl, rfl⟩
                    go_wp2_with fail
                    refine Hopb.out.mono ?_
                    rintro e w7 ⟨rfl, rfl⟩
                    go_wp2_with fail
                    refine Hc.out.mono ?_
                    rintro e w7 ⟨rfl, rfl⟩
                    go_wp2_with fail
                    go_ret2
                    exact ⟨by rw [hx3.out.1, hx3.out.2]; rfl, rfl⟩
                · have t10 : (((s[k]'hlt).toNat : Int) == 10) = true := u8b h10 rfl
                  have hx2 := hx0
                  rw [h10, Bool.false_or, Bool.true_or] at hx2
                  have hsc := Hsk.out k 0 F w hak hlt (by omega) (by omega)
                  have hin := (all_in s.data.toList F).1 k 0 hlt
                  rcases hq : passF F s.data.toList k 0 with ⟨n, x⟩
                  rw [hq] at hin hx2
                  obtain ⟨hn1, hn2, -⟩ := hin
                  rw [lenS] at hn1
                  simp only at hn1 hn2
                  rcases x with _ | x
                  · have hkn := hn2 rfl
                    have Hc := Lib.hid (rpass_ok (C := 0) rfl hsc hq)
                    have hx3 : Hid (∃ F, 2 * (s.size - n) + 3 ≤ F ∧ R = commF F s.data.toList a n (d + 1 - 1) true) := Lib.hid ⟨F, by omega, hx2⟩
                    clear hx2 hsc hq hx0 h10 h2 h3 h1
                    go_wp2_with fail
                    refine Hjoi.out.mono ?_
                    rintro e w7 ⟨rfl, rfl⟩
                    go_wp2_with fail
                    refine Hbla.out.mono ?_
                    rintro e w7 ⟨rfl, rfl⟩
                    go_wp2_with fail
                    refine Hc.out.mono ?_
                    rintro e w7 ⟨rfl, rfl⟩
                    go_wp2_with fail
                    go_round
                    case rel => exact ⟨n, d + 1, true, rfl, congrArg (Value.int .i64) (by omega), rfl, hn1, by omega, by omega, by omega, hx3⟩
                    case measure => simp [intOf]; omega
                  · obtain ⟨E, tE, hE, hc⟩ := rpass_bad (C := 0) rfl hsc hq
                    have Hc := Lib.hid hc
                    have hx3 : Hid (R = (n, x + 1) ∧ E = ((x + 1 : Nat) : Int)) := Lib.hid ⟨hx2, hE⟩
                    clear hx2 hsc hq hc hE hx0 h10 h2 h3 h1
                    go_wp2_with fail
                    refine Hjoi.out.mono ?_
                    rintro e w7 ⟨rfl, rfl⟩
                    go_wp2_with fail
                    refine Hbla.out.mono ?_
                    rintro e w7 ⟨rfl, rfl⟩
                    go_wp2_with fail
                    refine Hc.out.mono ?_
                    rintro e w7 ⟨rfl, rfl⟩
                    go_wp2_with fail
                    go_ret2
                    exact ⟨by rw [hx3.out.1, hx3.out.2]; rfl, rfl⟩
              · have hx2 := hx0
                rw [Bool.true_or, Bool.true_or] at hx2
                have hsc := Hsk.out k 0 F w hak hlt (by omega) (by omega)
                have hin := (all_in s.data.toList F).1 k 0 hlt
                rcases hq : passF F s.data.toList k 0 with ⟨n, x⟩
                rw [hq] at hin hx2
                obtain ⟨hn1, hn2, -⟩ := hin
                rw [lenS] at hn1
                simp only at hn1 hn2
                rcases x with _ | x
                · have hkn := hn2 rfl
                  have Hc := Lib.hid (rpass_ok (C := 0) rfl hsc hq)
                  have hx3 : Hid (∃ F, 2 * (s.size - n) + 3 ≤ F ∧ R = commF F s.data.toList a n (d + 1 - 1) true) := Lib.hid ⟨F, by omega, hx2⟩
                  clear hx2 hsc hq hx0 h2 h3 h1
                  go_wp2_with fail
                  refine Hjoi.out.mono ?_
                  rintro e w7 ⟨rfl, rfl⟩
                  go_wp2_with fail
                  refine Hbla.out.mono ?_
                  rintro e w7 ⟨rfl, rfl⟩
                  go_wp2_with fail
                  refine Hc.out.mono ?_
                  rintro e w7 ⟨rfl, rfl⟩
                  go_wp2_with fail
                  go_round
                  case rel => exact ⟨n, d + 1, true, rfl, congrArg (Value.int .i64) (by omega), rfl, hn1, by omega, by omega, by omega, hx3⟩
                  case measure => simp [intOf]; omega
                · obtain ⟨E, tE, hE, hc⟩ := rpass_bad (C := 0) rfl hsc hq
                  have Hc := Lib.hid hc
                  have hx3 : Hid (R = (n, x + 1) ∧ E = ((x + 1 : Nat) : Int)) := Lib.hid ⟨hx2, hE⟩
                  clear hx2 hsc hq hc hE hx0 h2 h3 h1
                  go_wp2_with fail
                  refine Hjoi.out.mono ?_
                  rintro e w7 ⟨rfl, rfl⟩
                  go_wp2_with fail
                  refine Hbla.out.mono ?_
                  rintro e w7 ⟨rfl, rfl⟩
                  go_wp2_with fail
                  refine Hc.out.mono ?_
                  rintro e w7 ⟨rfl, rfl⟩
                  go_wp2_with fail
                  go_ret2
                  exact ⟨by rw [hx3.out.1, hx3.out.2]; rfl, rfl⟩
          · have t2 : (((s[k]'hlt).toNat : Int) == 41) = true := u8b h2 rfl
            have h3 : ((s[k]'hlt) == 40) = false := by rw [beq_iff_eq] at h2; rw [h2]; rfl
            have t3 : (((s[k]'hlt).toNat : Int) == 40) = false := u8b h3 rfl
            rw [h2, h3] at hx2
            by_cases h4 : d = 1
            · subst h4
              have hx3 : Hid (R = (k + 1, 0)) := Lib.hid (by rw [if_pos (by simp)] at hx2; exact hx2)
              clear hx2 h2 h3 h1
              go_wp2_with fail
              refine Hjoi.out.mono ?_
              rintro e w7 ⟨rfl, rfl⟩
              go_wp2_with fail
              go_ret2
              exact ⟨by rw [hx3.out]; rfl, rfl⟩
            · have t4 : ((d : Int) == 1) = false := by rw [beq_eq_false_iff_ne]; omega
              have t4' : (d == 1) = false := by rw [beq_eq_false_iff_ne]; exact h4
              have i0 : (0 : Int) ≤ (d : Int) - 1 := by omega
              have h5 : (d - 1 == 0) = false := by rw [beq_eq_false_iff_ne]; omega
              rw [h5] at hx2
              rw [if_neg (by simp)] at hx2
              have hx0 := hx2
              clear hx2
              rcases bl with _ | _
              · rcases h10 : (s[k]'hlt) == 10 with _ | _
                · have t10 : (((s[k]'hlt).toNat : Int) == 10) = false := u8b h10 rfl
                  have hx2 := hx0
                  rw [h10, Bool.false_or, Bool.false_or] at hx2
                  have hsc := Hsk.out k 0 F w hak hlt (by omega) (by omega)
                  have hin := (all_in s.data.toList F).1 k 0 hlt
                  rcases hq : passF F s.data.toList k 0 with ⟨n, x⟩
                  rw [hq] at hin hx2
                  obtain ⟨hn1, hn2, -⟩ := hin
                  rw [lenS] at hn1
                  simp only at hn1 hn2
                  rcases x with _ | x
                  · have hkn := hn2 rfl
                    have Hc := Lib.hid (rpass_ok (C := 0) rfl hsc hq)
                    have hx3 : Hid (∃ F, 2 * (s.size - n) + 3 ≤ F ∧ R = commF F s.data.toList a n ((d - 1) - 1) op) := Lib.hid ⟨F, by omega, hx2⟩
                    clear hx2 hsc hq hx0 h10 h2 h3 h5 h1
                    go_wp2_with fail
                    refine Hjoi.out.mono ?_
                    rintro e w7 ⟨rfl, rfl⟩
                    go_wp2_with fail
                    refine Hbla.out.mono ?_
                    rintro e w7 ⟨rfl, rfl⟩
                    go_wp2_with fail
                    refine Hopb.out.mono ?_
                    rintro e w7 ⟨rfl, rfl⟩
                    go_wp2_with fail
                    refine Hc.out.mono ?_
                    rintro e w7 ⟨rfl, rfl⟩
                    go_wp2_with fail
                    go_round
                    case rel => exact ⟨n, (d - 1), op, rfl, congrArg (Value.int .i64) (by omega), rfl, hn1, by omega, by omega, by omega, hx3⟩
                    case measure => simp [intOf]; omega
                  · obtain ⟨E, tE, hE, hc⟩ := rpass_bad (C := 0) rfl hsc hq
                    have Hc := Lib.hid hc
                    have hx3 : Hid (R = (n, x + 1) ∧ E = ((x + 1 : Nat) : Int)) := Lib.hid ⟨hx2, hE⟩
                    clear hx2 hsc hq hc hE hx0 h10 h2 h3 h5 h1
                    go_wp2_with fail
                    refine Hjoi.out.mono ?_
                    rintro e w7 ⟨rfl, rfl⟩
                    go_wp2_with fail
                    refine Hbla.out.mono ?_
                    rintro e w7 ⟨rfl, rfl⟩
                    go_wp2_with fail
                    refine Hopb.out.mono ?_
                    rintro e w7 ⟨rfl, rfl⟩
                    go_wp2_with fail
                    refine Hc.out.mono ?_
                    rintro e w7 ⟨rfl, rfl⟩
                    go_wp2_with fail
                    go_ret2
                    exact ⟨by rw [hx3.out.1, hx3.out.2]; rfl, rfl⟩
                · have t10 : (((s[k]'hlt).toNat : Int) == 10) = true := u8b h10 rfl
                  have hx2 := hx0
                  rw [h10, Bool.false_or, Bool.true_or] at hx2
                  have hsc := Hsk.out k 0 F w hak hlt (by omega) (by omega)
                  have hin := (all_in s.data.toList F).1 k 0 hlt
                  rcases hq : passF F s.data.toList k 0 with ⟨n, x⟩
                  rw [hq] at hin hx2
                  obtain ⟨hn1, hn2, -⟩ := hin
                  rw [lenS] at hn1
                  simp only at hn1 hn2
                  rcases x with _ | x
                  · have hkn := hn2 rfl
                    have Hc := Lib.hid (rpass_ok (C := 0) rfl hsc hq)
                    have hx3 : Hid (∃ F, 2 * (s.size - n) + 3 ≤ F ∧ R = commF F s.data.toList a n ((d - 1) - 1) true) := Lib.hid ⟨F, by omega, hx2⟩
                    clear hx2 hsc hq hx0 h10 h2 h3 h5 h1
                    go_wp2_with fail
                    refine Hjoi.out.mono ?_
                    rintro e w7 ⟨rfl, rfl⟩
                    go_wp2_with fail
                    refine Hbla.out.mono ?_
                    rintro e w7 ⟨rfl, rfl⟩
                    go_wp2_with fail
                    refine Hc.out.mono ?_
                    rintro e w7 ⟨rfl, rfl⟩
                    go_wp2_with fail
                    go_round
                    case rel => exact ⟨n, (d - 1), true, rfl, congrArg (Value.int .i64) (by omega), rfl, hn1, by omega, by omega, by omega, hx3⟩
                    case measure => simp [intOf]; omega
                  · obtain ⟨E, tE, hE, hc⟩ := rpass_bad (C := 0) rfl hsc hq
                    have Hc := Lib.hid hc
                    have hx3 : Hid (R = (n, x + 1) ∧ E = ((x + 1 : Nat) : Int)) := Lib.hid ⟨hx2, hE⟩
                    clear hx2 hsc hq hc hE hx0 h10 h2 h3 h5 h1
                    go_wp2_with fail
                    refine Hjoi.out.mono ?_
                    rintro e w7 ⟨rfl, rfl⟩
                    go_wp2_with fail
                    refine Hbla.out.mono ?_
                    rintro e w7 ⟨rfl, rfl⟩
                    go_wp2_with fail
                    refine Hc.out.mono ?_
                    rintro e w7 ⟨rfl, rfl⟩
                    go_wp2_with fail
                    go_ret2
                    exact ⟨by rw [hx3.out.1, hx3.out.2]; rfl, rfl⟩
              · have hx2 := hx0
                rw [Bool.true_or, Bool.true_or] at hx2
                have hsc := Hsk.out k 0 F w hak hlt (by omega) (by omega)
                have hin := (all_in s.data.toList F).1 k 0 hlt
                rcases hq : passF F s.data.toList k 0 with ⟨n, x⟩
                rw [hq] at hin hx2
                obtain ⟨hn1, hn2, -⟩ := hin
                rw [lenS] at hn1
                simp only at hn1 hn2
                rcases x with _ | x
                · have hkn := hn2 rfl
                  have Hc := Lib.hid (rpass_ok (C := 0) rfl hsc hq)
                  have hx3 : Hid (∃ F, 2 * (s.size - n) + 3 ≤ F ∧ R = commF F s.data.toList a n ((d - 1) - 1) true) := Lib.hid ⟨F, by omega, hx2⟩
                  clear hx2 hsc hq hx0 h2 h3 h5 h1
                  go_wp2_with fail
                  refine Hjoi.out.mono ?_
                  rintro e w7 ⟨rfl, rfl⟩
                  go_wp2_with fail
                  refine Hbla.out.mono ?_
                  rintro e w7 ⟨rfl, rfl⟩
                  go_wp2_with fail
                  refine Hc.out.mono ?_
                  rintro e w7 ⟨rfl, rfl⟩
                  go_wp2_with fail
                  go_round
                  case rel => exact ⟨n, (d - 1), true, rfl, congrArg (Value.int .i64) (by omega), rfl, hn1, by omega, by omega, by omega, hx3⟩
                  case measure => simp [intOf]; omega
                · obtain ⟨E, tE, hE, hc⟩ := rpass_bad (C := 0) rfl hsc hq
                  have Hc := Lib.hid hc
                  have hx3 : Hid (R = (n, x + 1) ∧ E = ((x + 1 : Nat) : Int)) := Lib.hid ⟨hx2, hE⟩
                  clear hx2 hsc hq hc hE hx0 h2 h3 h5 h1
                  go_wp2_with fail
                  refine Hjoi.out.mono ?_
                  rintro e w7 ⟨rfl, rfl⟩
                  go_wp2_with fail
                  refine Hbla.out.mono ?_
                  rintro e w7 ⟨rfl, rfl⟩
                  go_wp2_with fail
                  refine Hc.out.mono ?_
                  rintro e w7 ⟨rfl, rfl⟩
                  go_wp2_with fail
                  go_ret2
                  exact ⟨by rw [hx3.out.1, hx3.out.2]; rfl, rfl⟩
      · have hk2 := hjl hj
        have hx3 : Hid (∃ F, 2 * (s.size - (k + 2)) + 3 ≤ F ∧ R = commF F s.data.toList a (k + 2) (d - 1) f) := Lib.hid ⟨F, by omega, by rw [← hjc hj]; exact hx9⟩
        rw [hj] at Hjoi
        clear hx2 hj hjc hx9 hgt hjl Hbla Hopb Hcom
        rcases f with _ | _
        · clear hfq
          go_wp2_with fail
          refine Hjoi.out.mono ?_
          rintro e w7 ⟨rfl, rfl⟩
          go_wp2_with fail
          go_round
          case rel => exact ⟨k + 2, d, false, by go_num, rfl, rfl, by omega, by omega, by omega, hdp, hx3⟩
          case measure => simp [intOf]; omega
        · have h1 : ((s[k]'hlt) == 35) = false := by simpa using hfq
          have t1 : (((s[k]'hlt).toNat : Int) == 35) = false := u8b h1 rfl
          clear hfq h1
          go_wp2_with fail
          refine Hjoi.out.mono ?_
          rintro e w7 ⟨rfl, rfl⟩
          go_wp2_with fail
          go_round
          case rel => exact ⟨k + 2, d, true, by go_num, rfl, rfl, by omega, by omega, by omega, hdp, hx3⟩
          case measure => simp [intOf]; omega
    · have hks : k = s.size := by omega
      subst hks
      have d1 : decide ((s.size : Int) < (s.size : Int)) = false := decide_eq_false (by omega)
      have hx3 : Hid (R = (a, 7)) := Lib.hid (by obtain ⟨F, hF, h⟩ := hx.out; rw [commF_ge (by rw [lenS]; exact Nat.le_refl _)] at h; exact h)
      clear hx
      go_wp2_with fail
      go_ret2
      exact ⟨by rw [hx3.out]; rfl, rfl⟩
end Go.Proofs.YteppndkhmbhnkaaDoor
