/- lexer: what is skipped, construct by construct, over what skip does behind. -/
import Derived.Test.YticehbhedoploaaGreatDoorLxD
namespace Go.Proofs.YticehbhedoploaaGreatDoor
open Go.RowKit
set_option linter.unusedVariables false

/-- skip does as passF, at every place behind o. -/
def SkipOk (s : ByteArray) (o : Nat) : Prop := ∀ (p c F : Nat) (w : World), o < p → p < s.size → c ≤ 2 → 2 * (s.size - p) + 2 ≤ F →
  Calls Tryz.prog 154 #[.string s, .int .i64 p, .int .i64 c] w (Gv w (passF F s.data.toList p c))
theorem pass_ok {s : ByteArray} {p c F n : Nat} {w : World} {C : Int} (hC : C = (c : Int)) (h : Calls Tryz.prog 154 #[.string s, .int .i64 p, .int .i64 c] w (Gv w (passF F s.data.toList p c))) (hq : passF F s.data.toList p c = (n, 0)) :
    Calls Tryz.prog 154 #[.string s, .int .i64 p, .int .i64 C] w fun e w' => e = .returned (.tuple #[.int .i64 (n : Nat), .int .i64 0]) ∧ w = w' := by
  subst hC
  rw [hq] at h
  exact h
theorem pass_bad {s : ByteArray} {p c F n x : Nat} {w : World} {C : Int} (hC : C = (c : Int)) (h : Calls Tryz.prog 154 #[.string s, .int .i64 p, .int .i64 c] w (Gv w (passF F s.data.toList p c))) (hq : passF F s.data.toList p c = (n, x + 1)) :
    ∃ E : Int, (E != 0) = true ∧ E = ((x + 1 : Nat) : Int) ∧ Calls Tryz.prog 154 #[.string s, .int .i64 p, .int .i64 C] w fun e w' => e = .returned (.tuple #[.int .i64 (n : Nat), .int .i64 E]) ∧ w = w' := by
  subst hC
  rw [hq] at h
  exact ⟨((x + 1 : Nat) : Int), by rw [bne_iff_ne]; omega, rfl, h⟩
theorem dblF_ge {s : List UInt8} {F o p : Nat} (h : s.length ≤ p) : dblF F s o p = (o, 7) := by
  cases F with
  | zero => simp [dblF]
  | succ F => unfold dblF; rw [if_pos h]
theorem dblF_lt {s : List UInt8} {F o p : Nat} (h : p < s.length) : dblF (F + 1) s o p = if bt s p == 34 then (p + 1, 0) else match passF F s p 1 with
    | (n, 0) => dblF F s o n
    | (n, e + 1) => (n, e + 1) := by
  rw [dblF, if_neg (by omega)]
  rfl
theorem bracF_ge {s : List UInt8} {F c o p : Nat} (h : s.length ≤ p) : bracF F s c o p = (o, 7) := by
  cases F with
  | zero => simp [bracF]
  | succ F => unfold bracF; rw [if_pos h]
theorem bracF_lt {s : List UInt8} {F c o p : Nat} (h : p < s.length) : bracF (F + 1) s c o p = if bt s p == 125 then (p + 1, 0) else if bt s p == 34 && c == 1 then (p, 6) else match passF F s p c with
    | (n, 0) => bracF F s c o n
    | (n, e + 1) => (n, e + 1) := by
  rw [bracF, if_neg (by omega)]
  rfl
theorem arthF_ge {s : List UInt8} {F o p d : Nat} (h : s.length ≤ p) : arthF F s o p d = (o, 7) := by
  cases F with
  | zero => simp [arthF]
  | succ F => unfold arthF; rw [if_pos h]
theorem arthF_lt {s : List UInt8} {F o p d : Nat} (h : p < s.length) : arthF (F + 1) s o p d = if bt s p == 41 && d == 0 then (if p + 1 = s.length then (o, 7) else if bt s (p + 1) == 41 then (p + 2, 0) else (p, 6)) else match passF F s p 2 with
    | (n, 0) => arthF F s o n (if bt s p == 40 then d + 1 else if bt s p == 41 then d - 1 else d)
    | (n, e + 1) => (n, e + 1) := by
  rw [arthF, if_neg (by omega)]
  rfl
theorem commF_ge {s : List UInt8} {F o p d : Nat} {f : Bool} (h : s.length ≤ p) : commF F s o p d f = (o, 7) := by
  cases F with
  | zero => simp [commF]
  | succ F => unfold commF; rw [if_pos h]
theorem commF_lt {s : List UInt8} {F o p d : Nat} {f : Bool} (h : p < s.length) : commF (F + 1) s o p d f = if bt s p == 35 && f then commF F s o (commL s p) d f else
    if bt s p == 41 && d == 0 then (p + 1, 0) else match passF F s p 0 with
    | (n, 0) => commF F s o n (if bt s p == 40 then d + 1 else if bt s p == 41 then d - 1 else d) (if joinB s p = true then f else borderB (bt s p))
    | (n, e + 1) => (n, e + 1) := by
  rw [commF, if_neg (by omega)]
  rfl
theorem commL_gt {s : List UInt8} {p : Nat} (h : p < s.length) (hb : bt s p == 35) : p < commL s p := by
  unfold commL
  rw [List.drop_eq_getElem_cons h]
  rw [bt_get h, beq_iff_eq] at hb
  rw [hb]
  show p < p + (if ((35 : UInt8) == 10) = true then 0 else fndL 10 (s.drop (p + 1)) + 1)
  rw [if_neg (by decide)]
  omega
theorem ifz {α : Type} {P : Prop} [Decidable P] {a b c : α} (h : ¬ P) (e : b = c) : (if P then a else b) = c := by rw [if_neg h]; exact e
set_option maxHeartbeats 16000000 in
set_option maxRecDepth 100000 in
theorem dbl_c (s : ByteArray) (a : Nat) (w : World) (hs : s.size ≤ 140737488355328) (ha : a + 1 ≤ s.size) (hsk : SkipOk s a) (F0 : Nat) (hF0 : 2 * (s.size - a) + 1 ≤ F0) :
    Calls Tryz.prog 216 #[.string s, .int .i64 a] w (Gv w (dblF F0 s.data.toList a (a + 1))) := by
  obtain ⟨R, hR⟩ : ∃ R : Nat × Nat, R = dblF F0 s.data.toList a (a + 1) := ⟨_, rfl⟩
  rw [← hR]
  have HR : Hid (∃ F, 2 * (s.size - (a + 1)) + 3 ≤ F ∧ R = dblF F s.data.toList a (a + 1)) := Lib.hid ⟨F0, by omega, hR⟩
  clear hR
  have Hsk := Lib.hid hsk
  clear hsk
  have hclo := Lib.hid (fun (k : Nat) (h : k ≤ s.size) => clos_c s a k w hs h)
  go_enter Tryz.func216, Tryz.ntmps216
  go_wp2_with fail
  go_loop [6, 7] (fun kv ev => ∃ k : Nat, kv = .int .i64 k ∧ ev = .int .i64 0 ∧ k ≤ s.size ∧ a < k ∧ Hid (∃ F, 2 * (s.size - k) + 3 ≤ F ∧ R = dblF F s.data.toList a (k))) (fun kv _ => s.size - (intOf kv).toNat)
  case atStart => exact ⟨a + 1, by go_num, by go_num, by omega, by omega, HR⟩
  case round =>
    obtain ⟨k, rfl, rfl, hk, hak, hx⟩ := hrel
    clear HR
    have hcl := Lib.hid (hclo.out k hk)
    by_cases hlt : k < s.size
    · have d1 : decide ((k : Int) < (s.size : Int)) = true := decide_eq_true (by omega)
      have d1' : decide (k < s.size) = true := decide_eq_true hlt
      obtain ⟨F, hF, hx2⟩ := hx.out
      obtain ⟨F, rfl⟩ : ∃ G, F = G + 1 := ⟨F - 1, by omega⟩
      rw [dblF_lt (show k < s.data.toList.length from hlt), btS hlt] at hx2
      clear hx
      rcases h1 : (s[k]'hlt) == 34 with _ | _
      · have t1 : (((s[k]'hlt).toNat : Int) != 34) = true := u8n h1 rfl
        rw [h1] at hx2
        rw [if_neg (by simp)] at hx2
        have hsc := Hsk.out k 1 F w hak hlt (by omega) (by omega)
        have hin := (all_in s.data.toList F).1 k 1 hlt
        rcases hq : passF F s.data.toList k 1 with ⟨n, x⟩
        rw [hq] at hin hx2
        obtain ⟨hn1, hn2, -⟩ := hin
        rw [lenS] at hn1
        simp only at hn1 hn2
        rcases x with _ | x
        · have hkn := hn2 rfl
          have Hc := Lib.hid (pass_ok (C := 1) rfl hsc hq)
          have hx3 : Hid (∃ F, 2 * (s.size - n) + 3 ≤ F ∧ R = dblF F s.data.toList a (n)) := Lib.hid ⟨F, by omega, hx2⟩
          clear hx2 hsc hq h1
          go_wp2_with fail
          refine Hc.out.mono ?_
          rintro e w7 ⟨rfl, rfl⟩
          go_wp2_with fail
          go_round
          case rel => exact ⟨n, rfl, rfl, hn1, by omega, hx3⟩
          case measure => simp [intOf]; omega
        · obtain ⟨E, tE, hE, hc⟩ := pass_bad (C := 1) rfl hsc hq
          have Hc := Lib.hid hc
          have hx3 : Hid (R = (n, x + 1) ∧ E = ((x + 1 : Nat) : Int)) := Lib.hid ⟨hx2, hE⟩
          clear hx2 hsc hq hc hE h1
          go_wp2_with fail
          refine Hc.out.mono ?_
          rintro e w7 ⟨rfl, rfl⟩
          go_wp2_with fail
          go_ret2
          exact ⟨by rw [hx3.out.1, hx3.out.2]; rfl, rfl⟩
      · have t1 : (((s[k]'hlt).toNat : Int) != 34) = false := u8n h1 rfl
        rw [h1] at hx2
        have hx3 : Hid (R = (k + 1, 0)) := Lib.hid hx2
        have hcl2 := hcl.out
        rw [if_neg (by omega)] at hcl2
        have Hcl := Lib.hid hcl2
        clear hx2 h1 hcl2 hcl
        go_wp2_with fail
        refine Hcl.out.mono ?_
        rintro e w7 ⟨rfl, rfl⟩
        go_wp2_with fail
        go_ret2
        exact ⟨by rw [hx3.out]; rfl, rfl⟩
    · have hks : k = s.size := by omega
      subst hks
      have d1 : decide ((s.size : Int) < (s.size : Int)) = false := decide_eq_false (by omega)
      have hx3 : Hid (R = (a, 7)) := Lib.hid (by obtain ⟨F, hF, h⟩ := hx.out; rw [dblF_ge (by rw [lenS]; exact Nat.le_refl _)] at h; exact h)
      have hcl2 := hcl.out
      rw [if_pos rfl] at hcl2
      have Hcl := Lib.hid hcl2
      clear hcl2 hcl hx
      go_wp2_with fail
      refine Hcl.out.mono ?_
      rintro e w7 ⟨rfl, rfl⟩
      go_wp2_with fail
      go_ret2
      exact ⟨by rw [hx3.out]; rfl, rfl⟩
set_option maxHeartbeats 16000000 in
set_option maxRecDepth 100000 in
theorem brac_c (s : ByteArray) (a : Nat) (c : Nat) (w : World) (hs : s.size ≤ 140737488355328) (ha : a + 2 ≤ s.size) (hc : c ≤ 2) (hsk : SkipOk s a) (F0 : Nat) (hF0 : 2 * (s.size - a) + 1 ≤ F0) :
    Calls Tryz.prog 218 #[.string s, .int .i64 a, .int .i64 c] w (Gv w (bracF F0 s.data.toList c a (a + 2))) := by
  obtain ⟨R, hR⟩ : ∃ R : Nat × Nat, R = bracF F0 s.data.toList c a (a + 2) := ⟨_, rfl⟩
  rw [← hR]
  have HR : Hid (∃ F, 2 * (s.size - (a + 2)) + 3 ≤ F ∧ R = bracF F s.data.toList c a (a + 2)) := Lib.hid ⟨F0, by omega, hR⟩
  clear hR
  have Hsk := Lib.hid hsk
  clear hsk
  have hclo := Lib.hid (fun (k : Nat) (h : k ≤ s.size) => clos_c s a k w hs h)
  go_enter Tryz.func218, Tryz.ntmps218
  go_wp2_with fail
  go_loop [8, 9] (fun kv ev => ∃ k : Nat, kv = .int .i64 k ∧ ev = .int .i64 0 ∧ k ≤ s.size ∧ a < k ∧ Hid (∃ F, 2 * (s.size - k) + 3 ≤ F ∧ R = bracF F s.data.toList c a (k))) (fun kv _ => s.size - (intOf kv).toNat)
  case atStart => exact ⟨a + 2, by go_num, by go_num, by omega, by omega, HR⟩
  case round =>
    obtain ⟨k, rfl, rfl, hk, hak, hx⟩ := hrel
    clear HR
    have hcl := Lib.hid (hclo.out k hk)
    by_cases hlt : k < s.size
    · have d1 : decide ((k : Int) < (s.size : Int)) = true := decide_eq_true (by omega)
      have d1' : decide (k < s.size) = true := decide_eq_true hlt
      obtain ⟨F, hF, hx2⟩ := hx.out
      obtain ⟨F, rfl⟩ : ∃ G, F = G + 1 := ⟨F - 1, by omega⟩
      rw [bracF_lt (show k < s.data.toList.length from hlt), btS hlt] at hx2
      clear hx
      rcases h1 : (s[k]'hlt) == 125 with _ | _
      · have t1 : (((s[k]'hlt).toNat : Int) != 125) = true := u8n h1 rfl
        rw [h1] at hx2
        rw [if_neg (by simp)] at hx2
        rcases h2 : (s[k]'hlt) == 34 with _ | _
        · have t2 : (((s[k]'hlt).toNat : Int) == 34) = false := u8b h2 rfl
          rw [h2] at hx2
          rw [if_neg (by simp)] at hx2
          have hsc := Hsk.out k c F w hak hlt (by omega) (by omega)
          have hin := (all_in s.data.toList F).1 k c hlt
          rcases hq : passF F s.data.toList k c with ⟨n, x⟩
          rw [hq] at hin hx2
          obtain ⟨hn1, hn2, -⟩ := hin
          rw [lenS] at hn1
          simp only at hn1 hn2
          rcases x with _ | x
          · have hkn := hn2 rfl
            have Hc := Lib.hid (pass_ok (C := (c : Int)) rfl hsc hq)
            have hx3 : Hid (∃ F, 2 * (s.size - n) + 3 ≤ F ∧ R = bracF F s.data.toList c a (n)) := Lib.hid ⟨F, by omega, hx2⟩
            clear hx2 hsc hq h1 h2
            go_wp2_with fail
            refine Hc.out.mono ?_
            rintro e w7 ⟨rfl, rfl⟩
            go_wp2_with fail
            go_round
            case rel => exact ⟨n, rfl, rfl, hn1, by omega, hx3⟩
            case measure => simp [intOf]; omega
          · obtain ⟨E, tE, hE, hc⟩ := pass_bad (C := (c : Int)) rfl hsc hq
            have Hc := Lib.hid hc
            have hx3 : Hid (R = (n, x + 1) ∧ E = ((x + 1 : Nat) : Int)) := Lib.hid ⟨hx2, hE⟩
            clear hx2 hsc hq hc hE h1 h2
            go_wp2_with fail
            refine Hc.out.mono ?_
            rintro e w7 ⟨rfl, rfl⟩
            go_wp2_with fail
            go_ret2
            exact ⟨by rw [hx3.out.1, hx3.out.2]; rfl, rfl⟩
        · have t2 : (((s[k]'hlt).toNat : Int) == 34) = true := u8b h2 rfl
          rw [h2] at hx2
          rcases h3 : c == 1 with _ | _
          · have t3 : ((c : Int) == 1) = false := by rw [beq_eq_false_iff_ne] at *; omega
            rw [h3] at hx2
            rw [if_neg (by simp)] at hx2
            have hsc := Hsk.out k c F w hak hlt (by omega) (by omega)
            have hin := (all_in s.data.toList F).1 k c hlt
            rcases hq : passF F s.data.toList k c with ⟨n, x⟩
            rw [hq] at hin hx2
            obtain ⟨hn1, hn2, -⟩ := hin
            rw [lenS] at hn1
            simp only at hn1 hn2
            rcases x with _ | x
            · have hkn := hn2 rfl
              have Hc := Lib.hid (pass_ok (C := (c : Int)) rfl hsc hq)
              have hx3 : Hid (∃ F, 2 * (s.size - n) + 3 ≤ F ∧ R = bracF F s.data.toList c a (n)) := Lib.hid ⟨F, by omega, hx2⟩
              clear hx2 hsc hq h1 h2
              go_wp2_with fail
              refine Hc.out.mono ?_
              rintro e w7 ⟨rfl, rfl⟩
              go_wp2_with fail
              go_round
              case rel => exact ⟨n, rfl, rfl, hn1, by omega, hx3⟩
              case measure => simp [intOf]; omega
            · obtain ⟨E, tE, hE, hc⟩ := pass_bad (C := (c : Int)) rfl hsc hq
              have Hc := Lib.hid hc
              have hx3 : Hid (R = (n, x + 1) ∧ E = ((x + 1 : Nat) : Int)) := Lib.hid ⟨hx2, hE⟩
              clear hx2 hsc hq hc hE h1 h2
              go_wp2_with fail
              refine Hc.out.mono ?_
              rintro e w7 ⟨rfl, rfl⟩
              go_wp2_with fail
              go_ret2
              exact ⟨by rw [hx3.out.1, hx3.out.2]; rfl, rfl⟩
          · have t3 : ((c : Int) == 1) = true := by rw [beq_iff_eq] at *; omega
            rw [h3] at hx2
            rw [if_pos (by simp)] at hx2
            have hx3 : Hid (R = (k, 6)) := Lib.hid hx2
            clear hx2 h1 h2
            go_wp2_with fail
            go_ret2
            exact ⟨by rw [hx3.out]; rfl, rfl⟩
      · have t1 : (((s[k]'hlt).toNat : Int) != 125) = false := u8n h1 rfl
        rw [h1] at hx2
        have hx3 : Hid (R = (k + 1, 0)) := Lib.hid hx2
        have hcl2 := hcl.out
        rw [if_neg (by omega)] at hcl2
        have Hcl := Lib.hid hcl2
        clear hx2 h1 hcl2 hcl
        go_wp2_with fail
        refine Hcl.out.mono ?_
        rintro e w7 ⟨rfl, rfl⟩
        go_wp2_with fail
        go_ret2
        exact ⟨by rw [hx3.out]; rfl, rfl⟩
    · have hks : k = s.size := by omega
      subst hks
      have d1 : decide ((s.size : Int) < (s.size : Int)) = false := decide_eq_false (by omega)
      have hx3 : Hid (R = (a, 7)) := Lib.hid (by obtain ⟨F, hF, h⟩ := hx.out; rw [bracF_ge (by rw [lenS]; exact Nat.le_refl _)] at h; exact h)
      have hcl2 := hcl.out
      rw [if_pos rfl] at hcl2
      have Hcl := Lib.hid hcl2
      clear hcl2 hcl hx
      go_wp2_with fail
      refine Hcl.out.mono ?_
      rintro e w7 ⟨rfl, rfl⟩
      go_wp2_with fail
      go_ret2
      exact ⟨by rw [hx3.out]; rfl, rfl⟩
set_option maxHeartbeats 4000000 in
theorem arEnd_c (s : ByteArray) (o a : Nat) (w : World) (hs : s.size ≤ 140737488355328) (ha : a < s.size) : Calls Tryz.prog 253 #[.string s, .int .i64 o, .int .i64 a] w (Gv w (if a + 1 = s.size then (o, 7) else if bt s.data.toList (a + 1) == 41 then (a + 2, 0) else (a, 6))) := by
  by_cases h : a + 1 = s.size
  · rw [if_pos h]
    have t1 : ((a : Int) + 1 == (s.size : Int)) = true := by rw [beq_iff_eq]; omega
    have t1' : (a + 1 == s.size) = true := by rw [beq_iff_eq]; omega
    clear h
    go_enter Tryz.func253, Tryz.ntmps253
    go_wp2_with fail
    go_ret2
    exact ⟨rfl, rfl⟩
  · rw [if_neg h]
    have t1 : ((a : Int) + 1 == (s.size : Int)) = false := by rw [beq_eq_false_iff_ne]; omega
    have t1' : (a + 1 == s.size) = false := by rw [beq_eq_false_iff_ne]; omega
    have h1 : a + 1 < s.size := by omega
    have i1 : (a : Int) + 1 < (s.size : Int) := by omega
    rw [btS h1]
    rcases h2 : (s[a + 1]'h1) == 41 with _ | _
    all_goals
      first | have t2 : (((s[a + 1]'h1).toNat : Int) != 41) = false := u8n h2 rfl
            | have t2 : (((s[a + 1]'h1).toNat : Int) != 41) = true := u8n h2 rfl
      clear h h2
      go_enter Tryz.func253, Tryz.ntmps253
      go_wp2_with fail
      go_ret2
      exact ⟨rfl, rfl⟩
set_option maxHeartbeats 16000000 in
set_option maxRecDepth 100000 in
theorem arth_c (s : ByteArray) (a : Nat) (w : World) (hs : s.size ≤ 140737488355328) (ha : a + 3 ≤ s.size) (hsk : SkipOk s a) (F0 : Nat) (hF0 : 2 * (s.size - a) + 1 ≤ F0) :
    Calls Tryz.prog 219 #[.string s, .int .i64 a] w (Gv w (arthF F0 s.data.toList a (a + 3) 0)) := by
  obtain ⟨R, hR⟩ : ∃ R : Nat × Nat, R = arthF F0 s.data.toList a (a + 3) 0 := ⟨_, rfl⟩
  rw [← hR]
  have HR : Hid (∃ F, 2 * (s.size - (a + 3)) + 3 ≤ F ∧ R = arthF F s.data.toList a (a + 3) 0) := Lib.hid ⟨F0, by omega, hR⟩
  clear hR
  have Hsk := Lib.hid hsk
  clear hsk
  have hend := Lib.hid (fun (k : Nat) (h : k < s.size) => arEnd_c s a k w hs h)
  go_enter Tryz.func219, Tryz.ntmps219
  go_wp2_with fail
  go_loop [6, 7, 8] (fun kv ev dv => ∃ k d : Nat, kv = .int .i64 k ∧ ev = .int .i64 0 ∧ dv = .int .i64 d ∧ k ≤ s.size ∧ a < k ∧ d ≤ k ∧ Hid (∃ F, 2 * (s.size - k) + 3 ≤ F ∧ R = arthF F s.data.toList a k d)) (fun kv _ _ => s.size - (intOf kv).toNat)
  case atStart => exact ⟨a + 3, 0, by go_num, by go_num, by go_num, by omega, by omega, by omega, HR⟩
  case round =>
    obtain ⟨k, d, rfl, rfl, rfl, hk, hak, hd, hx⟩ := hrel
    clear HR
    by_cases hlt : k < s.size
    · have d1 : decide ((k : Int) < (s.size : Int)) = true := decide_eq_true (by omega)
      have d1' : decide (k < s.size) = true := decide_eq_true hlt
      obtain ⟨F, hF, hx2⟩ := hx.out
      obtain ⟨F, rfl⟩ : ∃ G, F = G + 1 := ⟨F - 1, by omega⟩
      rw [arthF_lt (show k < s.data.toList.length from hlt), btS hlt] at hx2
      clear hx
      rcases h1 : (s[k]'hlt) == 40 with _ | _
      · have t1 : (((s[k]'hlt).toNat : Int) == 40) = false := u8b h1 rfl
        rcases h2 : (s[k]'hlt) == 41 with _ | _
        · have t2 : (((s[k]'hlt).toNat : Int) == 41) = false := u8b h2 rfl
          rw [h1, h2] at hx2
          rw [if_neg (by simp)] at hx2
          have hsc := Hsk.out k 2 F w hak hlt (by omega) (by omega)
          have hin := (all_in s.data.toList F).1 k 2 hlt
          rcases hq : passF F s.data.toList k 2 with ⟨n, x⟩
          rw [hq] at hin hx2
          obtain ⟨hn1, hn2, -⟩ := hin
          rw [lenS] at hn1
          simp only at hn1 hn2
          rcases x with _ | x
          · have hkn := hn2 rfl
            have Hc := Lib.hid (pass_ok (C := 2) rfl hsc hq)
            have hx3 : Hid (∃ F, 2 * (s.size - n) + 3 ≤ F ∧ R = arthF F s.data.toList a n d) := Lib.hid ⟨F, by omega, hx2⟩
            clear hx2 hsc hq h1 h2
            go_wp2_with fail
            refine Hc.out.mono ?_
            rintro e w7 ⟨rfl, rfl⟩
            go_wp2_with fail
            go_round
            case rel => exact ⟨n, d, rfl, rfl, rfl, hn1, by omega, by omega, hx3⟩
            case measure => simp [intOf]; omega
          · obtain ⟨E, tE, hE, hc⟩ := pass_bad (C := 2) rfl hsc hq
            have Hc := Lib.hid hc
            have hx3 : Hid (R = (n, x + 1) ∧ E = ((x + 1 : Nat) : Int)) := Lib.hid ⟨hx2, hE⟩
            clear hx2 hsc hq hc hE h1 h2
            go_wp2_with fail
            refine Hc.out.mono ?_
            rintro e w7 ⟨rfl, rfl⟩
            go_wp2_with fail
            go_ret2
            exact ⟨by rw [hx3.out.1, hx3.out.2]; rfl, rfl⟩
        · have t2 : (((s[k]'hlt).toNat : Int) == 41) = true := u8b h2 rfl
          rw [h1, h2] at hx2
          by_cases h3 : d = 0
          · subst h3
            have t3 : decide ((0 : Int) < 0) = false := by decide
            have hx3 : Hid (R = if k + 1 = s.size then (a, 7) else if bt s.data.toList (k + 1) == 41 then (k + 2, 0) else (k, 6)) := Lib.hid (by rw [if_pos (by simp), lenS] at hx2; exact hx2)
            have he := Lib.hid (hend.out k hlt)
            rw [← hx3.out] at he
            clear hx2 h1 h2 hx3
            go_wp2_with fail
            refine he.out.mono ?_
            rintro e w7 ⟨rfl, rfl⟩
            go_wp2_with fail
            go_ret2
            exact ⟨rfl, rfl⟩
          · have t3 : decide ((0 : Int) < (d : Int)) = true := decide_eq_true (by omega)
            have t3' : decide (0 < d) = true := decide_eq_true (by omega)
            have i0 : (0 : Int) ≤ (d : Int) - 1 := by omega
            have h4 : (d == 0) = false := by rw [beq_eq_false_iff_ne]; exact h3
            rw [h4] at hx2
            rw [if_neg (by simp)] at hx2
            have hsc := Hsk.out k 2 F w hak hlt (by omega) (by omega)
            have hin := (all_in s.data.toList F).1 k 2 hlt
            rcases hq : passF F s.data.toList k 2 with ⟨n, x⟩
            rw [hq] at hin hx2
            obtain ⟨hn1, hn2, -⟩ := hin
            rw [lenS] at hn1
            simp only at hn1 hn2
            rcases x with _ | x
            · have hkn := hn2 rfl
              have Hc := Lib.hid (pass_ok (C := 2) rfl hsc hq)
              have hx3 : Hid (∃ F, 2 * (s.size - n) + 3 ≤ F ∧ R = arthF F s.data.toList a n (d - 1)) := Lib.hid ⟨F, by omega, hx2⟩
              clear hx2 hsc hq h1 h2 h4
              go_wp2_with fail
              refine Hc.out.mono ?_
              rintro e w7 ⟨rfl, rfl⟩
              go_wp2_with fail
              go_round
              case rel => exact ⟨n, d - 1, rfl, rfl, congrArg (Value.int .i64) (by omega), hn1, by omega, by omega, hx3⟩
              case measure => simp [intOf]; omega
            · obtain ⟨E, tE, hE, hc⟩ := pass_bad (C := 2) rfl hsc hq
              have Hc := Lib.hid hc
              have hx3 : Hid (R = (n, x + 1) ∧ E = ((x + 1 : Nat) : Int)) := Lib.hid ⟨hx2, hE⟩
              clear hx2 hsc hq hc hE h1 h2 h4
              go_wp2_with fail
              refine Hc.out.mono ?_
              rintro e w7 ⟨rfl, rfl⟩
              go_wp2_with fail
              go_ret2
              exact ⟨by rw [hx3.out.1, hx3.out.2]; rfl, rfl⟩
      · have t1 : (((s[k]'hlt).toNat : Int) == 40) = true := u8b h1 rfl
        have h2 : ((s[k]'hlt) == 41) = false := by rw [beq_iff_eq] at h1; rw [h1]; rfl
        rw [h1, h2] at hx2
        rw [if_neg (by simp)] at hx2
        have hsc := Hsk.out k 2 F w hak hlt (by omega) (by omega)
        have hin := (all_in s.data.toList F).1 k 2 hlt
        rcases hq : passF F s.data.toList k 2 with ⟨n, x⟩
        rw [hq] at hin hx2
        obtain ⟨hn1, hn2, -⟩ := hin
        rw [lenS] at hn1
        simp only at hn1 hn2
        rcases x with _ | x
        · have hkn := hn2 rfl
          have Hc := Lib.hid (pass_ok (C := 2) rfl hsc hq)
          have hx3 : Hid (∃ F, 2 * (s.size - n) + 3 ≤ F ∧ R = arthF F s.data.toList a n (d + 1)) := Lib.hid ⟨F, by omega, hx2⟩
          clear hx2 hsc hq h1 h2
          go_wp2_with fail
          refine Hc.out.mono ?_
          rintro e w7 ⟨rfl, rfl⟩
          go_wp2_with fail
          go_round
          case rel => exact ⟨n, d + 1, rfl, rfl, congrArg (Value.int .i64) (by omega), hn1, by omega, by omega, hx3⟩
          case measure => simp [intOf]; omega
        · obtain ⟨E, tE, hE, hc⟩ := pass_bad (C := 2) rfl hsc hq
          have Hc := Lib.hid hc
          have hx3 : Hid (R = (n, x + 1) ∧ E = ((x + 1 : Nat) : Int)) := Lib.hid ⟨hx2, hE⟩
          clear hx2 hsc hq hc hE h1 h2
          go_wp2_with fail
          refine Hc.out.mono ?_
          rintro e w7 ⟨rfl, rfl⟩
          go_wp2_with fail
          go_ret2
          exact ⟨by rw [hx3.out.1, hx3.out.2]; rfl, rfl⟩
    · have hks : k = s.size := by omega
      subst hks
      have d1 : decide ((s.size : Int) < (s.size : Int)) = false := decide_eq_false (by omega)
      have hx3 : Hid (R = (a, 7)) := Lib.hid (by obtain ⟨F, hF, h⟩ := hx.out; rw [arthF_ge (by rw [lenS]; exact Nat.le_refl _)] at h; exact h)
      clear hx
      go_wp2_with fail
      go_ret2
      exact ⟨by rw [hx3.out]; rfl, rfl⟩
set_option maxHeartbeats 16000000 in
set_option maxRecDepth 100000 in
theorem cmd_c (s : ByteArray) (a : Nat) (w : World) (hs : s.size ≤ 140737488355328) (ha : a + 2 ≤ s.size) (hsk : SkipOk s a) (F0 : Nat) (hF0 : 2 * (s.size - a) + 1 ≤ F0) :
    Calls Tryz.prog 220 #[.string s, .int .i64 a] w (Gv w (commF F0 s.data.toList a (a + 2) 0 true)) := by
  obtain ⟨R, hR⟩ : ∃ R : Nat × Nat, R = commF F0 s.data.toList a (a + 2) 0 true := ⟨_, rfl⟩
  rw [← hR]
  have HR : Hid (∃ F, 2 * (s.size - (a + 2)) + 3 ≤ F ∧ R = commF F s.data.toList a (a + 2) 0 true) := Lib.hid ⟨F0, by omega, hR⟩
  clear hR
  have Hsk := Lib.hid hsk
  clear hsk
  have hcom := Lib.hid (fun (k : Nat) (h : k ≤ s.size) => comm_c s k w hs h)
  have hjoi := Lib.hid (fun (k : Nat) (h : k ≤ s.size) => joins_c s k w hs h)
  have hbor := Lib.hid (fun (k : Nat) (h : k < s.size) => border_c (s[k]'h) w)
  go_enter Tryz.func220, Tryz.ntmps220
  go_wp2_with fail
  go_loop [6, 7, 8, 9] (fun kv ev dv fv => ∃ (k d : Nat) (f : Bool), kv = .int .i64 k ∧ ev = .int .i64 0 ∧ dv = .int .i64 d ∧ fv = .bool f ∧ k ≤ s.size ∧ a < k ∧ d ≤ k ∧ Hid (∃ F, 2 * (s.size - k) + 3 ≤ F ∧ R = commF F s.data.toList a k d f)) (fun kv _ _ _ => s.size - (intOf kv).toNat)
  case atStart => exact ⟨a + 2, 0, true, by go_num, by go_num, by go_num, rfl, by omega, by omega, by omega, HR⟩
  case round =>
    obtain ⟨k, d, f, rfl, rfl, rfl, rfl, hk, hak, hd, hx⟩ := hrel
    clear HR
    by_cases hlt : k < s.size
    · have d1 : decide ((k : Int) < (s.size : Int)) = true := decide_eq_true (by omega)
      have d1' : decide (k < s.size) = true := decide_eq_true hlt
      obtain ⟨F, hF, hx2⟩ := hx.out
      obtain ⟨F, rfl⟩ : ∃ G, F = G + 1 := ⟨F - 1, by omega⟩
      have hgt := commL_gt (show k < s.data.toList.length from hlt)
      rw [commF_lt (show k < s.data.toList.length from hlt)] at hx2
      rw [btS hlt] at hx2 hgt
      have hle := commL_le (s := s.data.toList) (p := k) (by rw [lenS]; omega)
      rw [lenS] at hle
      have Hcom := Lib.hid (hcom.out k hk)
      have Hjoi := Lib.hid (hjoi.out k hk)
      have Hbor := Lib.hid (hbor.out k hlt)
      generalize joinB s.data.toList k = j at *
      generalize borderB (s[k]'hlt) = bo at *
      clear hx
      rcases h1 : (s[k]'hlt) == 35 with _ | _
      · have t1 : (((s[k]'hlt).toNat : Int) == 35) = false := u8b h1 rfl
        rw [h1] at hx2
        rw [if_neg (by simp)] at hx2
        rcases h2 : (s[k]'hlt) == 41 with _ | _
        · have t2 : (((s[k]'hlt).toNat : Int) == 41) = false := u8b h2 rfl
          rw [h2] at hx2
          rw [if_neg (by simp)] at hx2
          rcases h3 : (s[k]'hlt) == 40 with _ | _
          · have t3 : (((s[k]'hlt).toNat : Int) == 40) = false := u8b h3 rfl
            rw [h3] at hx2
            have hx0 := hx2
            clear hx2
            rcases j with _ | _
            · have hx2 := hx0
              have hsc := Hsk.out k 0 F w hak hlt (by omega) (by omega)
              have hin := (all_in s.data.toList F).1 k 0 hlt
              rcases hq : passF F s.data.toList k 0 with ⟨n, x⟩
              rw [hq] at hin hx2
              obtain ⟨hn1, hn2, -⟩ := hin
              rw [lenS] at hn1
              simp only at hn1 hn2
              rcases x with _ | x
              · have hkn := hn2 rfl
                have Hc := Lib.hid (pass_ok (C := 0) rfl hsc hq)
                have hx3 : Hid (∃ F, 2 * (s.size - n) + 3 ≤ F ∧ R = commF F s.data.toList a n (d) bo) := Lib.hid ⟨F, by omega, hx2⟩
                clear hx2 hsc hq hx0 h1 h2 h3
                go_wp2_with fail
                refine Hjoi.out.mono ?_
                rintro e w7 ⟨rfl, rfl⟩
                go_wp2_with fail
                refine Hbor.out.mono ?_
                rintro e w7 ⟨rfl, rfl⟩
                go_wp2_with fail
                refine Hc.out.mono ?_
                rintro e w7 ⟨rfl, rfl⟩
                go_wp2_with fail
                go_round
                case rel => exact ⟨n, d, bo, rfl, rfl, rfl, rfl, hn1, by omega, by omega, hx3⟩
                case measure => simp [intOf]; omega
              · obtain ⟨E, tE, hE, hc⟩ := pass_bad (C := 0) rfl hsc hq
                have Hc := Lib.hid hc
                have hx3 : Hid (R = (n, x + 1) ∧ E = ((x + 1 : Nat) : Int)) := Lib.hid ⟨hx2, hE⟩
                clear hx2 hsc hq hc hE hx0 h1 h2 h3
                go_wp2_with fail
                refine Hjoi.out.mono ?_
                rintro e w7 ⟨rfl, rfl⟩
                go_wp2_with fail
                refine Hbor.out.mono ?_
                rintro e w7 ⟨rfl, rfl⟩
                go_wp2_with fail
                refine Hc.out.mono ?_
                rintro e w7 ⟨rfl, rfl⟩
                go_wp2_with fail
                go_ret2
                exact ⟨by rw [hx3.out.1, hx3.out.2]; rfl, rfl⟩
            · have hx2 := hx0
              have hsc := Hsk.out k 0 F w hak hlt (by omega) (by omega)
              have hin := (all_in s.data.toList F).1 k 0 hlt
              rcases hq : passF F s.data.toList k 0 with ⟨n, x⟩
              rw [hq] at hin hx2
              obtain ⟨hn1, hn2, -⟩ := hin
              rw [lenS] at hn1
              simp only at hn1 hn2
              rcases x with _ | x
              · have hkn := hn2 rfl
                have Hc := Lib.hid (pass_ok (C := 0) rfl hsc hq)
                have hx3 : Hid (∃ F, 2 * (s.size - n) + 3 ≤ F ∧ R = commF F s.data.toList a n (d) f) := Lib.hid ⟨F, by omega, hx2⟩
                clear hx2 hsc hq hx0 h1 h2 h3
                go_wp2_with fail
                refine Hjoi.out.mono ?_
                rintro e w7 ⟨rfl, rfl⟩
                go_wp2_with fail
                refine Hc.out.mono ?_
                rintro e w7 ⟨rfl, rfl⟩
                go_wp2_with fail
                go_round
                case rel => exact ⟨n, d, f, rfl, rfl, rfl, rfl, hn1, by omega, by omega, hx3⟩
                case measure => simp [intOf]; omega
              · obtain ⟨E, tE, hE, hc⟩ := pass_bad (C := 0) rfl hsc hq
                have Hc := Lib.hid hc
                have hx3 : Hid (R = (n, x + 1) ∧ E = ((x + 1 : Nat) : Int)) := Lib.hid ⟨hx2, hE⟩
                clear hx2 hsc hq hc hE hx0 h1 h2 h3
                go_wp2_with fail
                refine Hjoi.out.mono ?_
                rintro e w7 ⟨rfl, rfl⟩
                go_wp2_with fail
                refine Hc.out.mono ?_
                rintro e w7 ⟨rfl, rfl⟩
                go_wp2_with fail
                go_ret2
                exact ⟨by rw [hx3.out.1, hx3.out.2]; rfl, rfl⟩
          · have t3 : (((s[k]'hlt).toNat : Int) == 40) = true := u8b h3 rfl
            rw [h3] at hx2
            have hx0 := hx2
            clear hx2
            rcases j with _ | _
            · have hx2 := hx0
              have hsc := Hsk.out k 0 F w hak hlt (by omega) (by omega)
              have hin := (all_in s.data.toList F).1 k 0 hlt
              rcases hq : passF F s.data.toList k 0 with ⟨n, x⟩
              rw [hq] at hin hx2
              obtain ⟨hn1, hn2, -⟩ := hin
              rw [lenS] at hn1
              simp only at hn1 hn2
              rcases x with _ | x
              · have hkn := hn2 rfl
                have Hc := Lib.hid (pass_ok (C := 0) rfl hsc hq)
                have hx3 : Hid (∃ F, 2 * (s.size - n) + 3 ≤ F ∧ R = commF F s.data.toList a n (d + 1) bo) := Lib.hid ⟨F, by omega, hx2⟩
                clear hx2 hsc hq hx0 h1 h2 h3
                go_wp2_with fail
                refine Hjoi.out.mono ?_
                rintro e w7 ⟨rfl, rfl⟩
                go_wp2_with fail
                refine Hbor.out.mono ?_
                rintro e w7 ⟨rfl, rfl⟩
                go_wp2_with fail
                refine Hc.out.mono ?_
                rintro e w7 ⟨rfl, rfl⟩
                go_wp2_with fail
                go_round
                case rel => exact ⟨n, d + 1, bo, rfl, rfl, congrArg (Value.int .i64) (by omega), rfl, hn1, by omega, by omega, hx3⟩
                case measure => simp [intOf]; omega
              · obtain ⟨E, tE, hE, hc⟩ := pass_bad (C := 0) rfl hsc hq
                have Hc := Lib.hid hc
                have hx3 : Hid (R = (n, x + 1) ∧ E = ((x + 1 : Nat) : Int)) := Lib.hid ⟨hx2, hE⟩
                clear hx2 hsc hq hc hE hx0 h1 h2 h3
                go_wp2_with fail
                refine Hjoi.out.mono ?_
                rintro e w7 ⟨rfl, rfl⟩
                go_wp2_with fail
                refine Hbor.out.mono ?_
                rintro e w7 ⟨rfl, rfl⟩
                go_wp2_with fail
                refine Hc.out.mono ?_
                rintro e w7 ⟨rfl, rfl⟩
                go_wp2_with fail
                go_ret2
                exact ⟨by rw [hx3.out.1, hx3.out.2]; rfl, rfl⟩
            · have hx2 := hx0
              have hsc := Hsk.out k 0 F w hak hlt (by omega) (by omega)
              have hin := (all_in s.data.toList F).1 k 0 hlt
              rcases hq : passF F s.data.toList k 0 with ⟨n, x⟩
              rw [hq] at hin hx2
              obtain ⟨hn1, hn2, -⟩ := hin
              rw [lenS] at hn1
              simp only at hn1 hn2
              rcases x with _ | x
              · have hkn := hn2 rfl
                have Hc := Lib.hid (pass_ok (C := 0) rfl hsc hq)
                have hx3 : Hid (∃ F, 2 * (s.size - n) + 3 ≤ F ∧ R = commF F s.data.toList a n (d + 1) f) := Lib.hid ⟨F, by omega, hx2⟩
                clear hx2 hsc hq hx0 h1 h2 h3
                go_wp2_with fail
                refine Hjoi.out.mono ?_
                rintro e w7 ⟨rfl, rfl⟩
                go_wp2_with fail
                refine Hc.out.mono ?_
                rintro e w7 ⟨rfl, rfl⟩
                go_wp2_with fail
                go_round
                case rel => exact ⟨n, d + 1, f, rfl, rfl, congrArg (Value.int .i64) (by omega), rfl, hn1, by omega, by omega, hx3⟩
                case measure => simp [intOf]; omega
              · obtain ⟨E, tE, hE, hc⟩ := pass_bad (C := 0) rfl hsc hq
                have Hc := Lib.hid hc
                have hx3 : Hid (R = (n, x + 1) ∧ E = ((x + 1 : Nat) : Int)) := Lib.hid ⟨hx2, hE⟩
                clear hx2 hsc hq hc hE hx0 h1 h2 h3
                go_wp2_with fail
                refine Hjoi.out.mono ?_
                rintro e w7 ⟨rfl, rfl⟩
                go_wp2_with fail
                refine Hc.out.mono ?_
                rintro e w7 ⟨rfl, rfl⟩
                go_wp2_with fail
                go_ret2
                exact ⟨by rw [hx3.out.1, hx3.out.2]; rfl, rfl⟩
        · have t2 : (((s[k]'hlt).toNat : Int) == 41) = true := u8b h2 rfl
          have h3 : ((s[k]'hlt) == 40) = false := by rw [beq_iff_eq] at h2; rw [h2]; rfl
          have t3 : (((s[k]'hlt).toNat : Int) == 40) = false := u8b h3 rfl
          rw [h2, h3] at hx2
          by_cases h4 : d = 0
          · subst h4
            have hx3 : Hid (R = (k + 1, 0)) := Lib.hid (by rw [if_pos (by simp)] at hx2; exact hx2)
            clear hx2 h1 h2 h3
            go_wp2_with fail
            go_ret2
            exact ⟨by rw [hx3.out]; rfl, rfl⟩
          · have t4 : ((d : Int) == 0) = false := by rw [beq_eq_false_iff_ne]; omega
            have t4' : (d == 0) = false := by rw [beq_eq_false_iff_ne]; exact h4
            have i0 : (0 : Int) ≤ (d : Int) - 1 := by omega
            rw [t4'] at hx2
            rw [if_neg (by simp)] at hx2
            have hx0 := hx2
            clear hx2
            rcases j with _ | _
            · have hx2 := hx0
              have hsc := Hsk.out k 0 F w hak hlt (by omega) (by omega)
              have hin := (all_in s.data.toList F).1 k 0 hlt
              rcases hq : passF F s.data.toList k 0 with ⟨n, x⟩
              rw [hq] at hin hx2
              obtain ⟨hn1, hn2, -⟩ := hin
              rw [lenS] at hn1
              simp only at hn1 hn2
              rcases x with _ | x
              · have hkn := hn2 rfl
                have Hc := Lib.hid (pass_ok (C := 0) rfl hsc hq)
                have hx3 : Hid (∃ F, 2 * (s.size - n) + 3 ≤ F ∧ R = commF F s.data.toList a n (d - 1) bo) := Lib.hid ⟨F, by omega, hx2⟩
                clear hx2 hsc hq hx0 h1 h2 h3
                go_wp2_with fail
                refine Hjoi.out.mono ?_
                rintro e w7 ⟨rfl, rfl⟩
                go_wp2_with fail
                refine Hbor.out.mono ?_
                rintro e w7 ⟨rfl, rfl⟩
                go_wp2_with fail
                refine Hc.out.mono ?_
                rintro e w7 ⟨rfl, rfl⟩
                go_wp2_with fail
                go_round
                case rel => exact ⟨n, d - 1, bo, rfl, rfl, congrArg (Value.int .i64) (by omega), rfl, hn1, by omega, by omega, hx3⟩
                case measure => simp [intOf]; omega
              · obtain ⟨E, tE, hE, hc⟩ := pass_bad (C := 0) rfl hsc hq
                have Hc := Lib.hid hc
                have hx3 : Hid (R = (n, x + 1) ∧ E = ((x + 1 : Nat) : Int)) := Lib.hid ⟨hx2, hE⟩
                clear hx2 hsc hq hc hE hx0 h1 h2 h3
                go_wp2_with fail
                refine Hjoi.out.mono ?_
                rintro e w7 ⟨rfl, rfl⟩
                go_wp2_with fail
                refine Hbor.out.mono ?_
                rintro e w7 ⟨rfl, rfl⟩
                go_wp2_with fail
                refine Hc.out.mono ?_
                rintro e w7 ⟨rfl, rfl⟩
                go_wp2_with fail
                go_ret2
                exact ⟨by rw [hx3.out.1, hx3.out.2]; rfl, rfl⟩
            · have hx2 := hx0
              have hsc := Hsk.out k 0 F w hak hlt (by omega) (by omega)
              have hin := (all_in s.data.toList F).1 k 0 hlt
              rcases hq : passF F s.data.toList k 0 with ⟨n, x⟩
              rw [hq] at hin hx2
              obtain ⟨hn1, hn2, -⟩ := hin
              rw [lenS] at hn1
              simp only at hn1 hn2
              rcases x with _ | x
              · have hkn := hn2 rfl
                have Hc := Lib.hid (pass_ok (C := 0) rfl hsc hq)
                have hx3 : Hid (∃ F, 2 * (s.size - n) + 3 ≤ F ∧ R = commF F s.data.toList a n (d - 1) f) := Lib.hid ⟨F, by omega, hx2⟩
                clear hx2 hsc hq hx0 h1 h2 h3
                go_wp2_with fail
                refine Hjoi.out.mono ?_
                rintro e w7 ⟨rfl, rfl⟩
                go_wp2_with fail
                refine Hc.out.mono ?_
                rintro e w7 ⟨rfl, rfl⟩
                go_wp2_with fail
                go_round
                case rel => exact ⟨n, d - 1, f, rfl, rfl, congrArg (Value.int .i64) (by omega), rfl, hn1, by omega, by omega, hx3⟩
                case measure => simp [intOf]; omega
              · obtain ⟨E, tE, hE, hc⟩ := pass_bad (C := 0) rfl hsc hq
                have Hc := Lib.hid hc
                have hx3 : Hid (R = (n, x + 1) ∧ E = ((x + 1 : Nat) : Int)) := Lib.hid ⟨hx2, hE⟩
                clear hx2 hsc hq hc hE hx0 h1 h2 h3
                go_wp2_with fail
                refine Hjoi.out.mono ?_
                rintro e w7 ⟨rfl, rfl⟩
                go_wp2_with fail
                refine Hc.out.mono ?_
                rintro e w7 ⟨rfl, rfl⟩
                go_wp2_with fail
                go_ret2
                exact ⟨by rw [hx3.out.1, hx3.out.2]; rfl, rfl⟩
      · have t1 : (((s[k]'hlt).toNat : Int) == 35) = true := u8b h1 rfl
        have h2 : ((s[k]'hlt) == 41) = false := by rw [beq_iff_eq] at h1; rw [h1]; rfl
        have h3 : ((s[k]'hlt) == 40) = false := by rw [beq_iff_eq] at h1; rw [h1]; rfl
        have t2 : (((s[k]'hlt).toNat : Int) == 41) = false := u8b h2 rfl
        have t3 : (((s[k]'hlt).toNat : Int) == 40) = false := u8b h3 rfl
        rw [h1, h2, h3] at hx2
        rcases f with _ | _
        · rw [if_neg (by simp), if_neg (by simp)] at hx2
          have hx0 := hx2
          clear hx2
          rcases j with _ | _
          · have hx2 := hx0
            have hsc := Hsk.out k 0 F w hak hlt (by omega) (by omega)
            have hin := (all_in s.data.toList F).1 k 0 hlt
            rcases hq : passF F s.data.toList k 0 with ⟨n, x⟩
            rw [hq] at hin hx2
            obtain ⟨hn1, hn2, -⟩ := hin
            rw [lenS] at hn1
            simp only at hn1 hn2
            rcases x with _ | x
            · have hkn := hn2 rfl
              have Hc := Lib.hid (pass_ok (C := 0) rfl hsc hq)
              have hx3 : Hid (∃ F, 2 * (s.size - n) + 3 ≤ F ∧ R = commF F s.data.toList a n (d) bo) := Lib.hid ⟨F, by omega, hx2⟩
              clear hx2 hsc hq hx0 h1 h2 h3
              go_wp2_with fail
              refine Hjoi.out.mono ?_
              rintro e w7 ⟨rfl, rfl⟩
              go_wp2_with fail
              refine Hbor.out.mono ?_
              rintro e w7 ⟨rfl, rfl⟩
              go_wp2_with fail
              refine Hc.out.mono ?_
              rintro e w7 ⟨rfl, rfl⟩
              go_wp2_with fail
              go_round
              case rel => exact ⟨n, d, bo, rfl, rfl, rfl, rfl, hn1, by omega, by omega, hx3⟩
              case measure => simp [intOf]; omega
            · obtain ⟨E, tE, hE, hc⟩ := pass_bad (C := 0) rfl hsc hq
              have Hc := Lib.hid hc
              have hx3 : Hid (R = (n, x + 1) ∧ E = ((x + 1 : Nat) : Int)) := Lib.hid ⟨hx2, hE⟩
              clear hx2 hsc hq hc hE hx0 h1 h2 h3
              go_wp2_with fail
              refine Hjoi.out.mono ?_
              rintro e w7 ⟨rfl, rfl⟩
              go_wp2_with fail
              refine Hbor.out.mono ?_
              rintro e w7 ⟨rfl, rfl⟩
              go_wp2_with fail
              refine Hc.out.mono ?_
              rintro e w7 ⟨rfl, rfl⟩
              go_wp2_with fail
              go_ret2
              exact ⟨by rw [hx3.out.1, hx3.out.2]; rfl, rfl⟩
          · have hx2 := hx0
            have hsc := Hsk.out k 0 F w hak hlt (by omega) (by omega)
            have hin := (all_in s.data.toList F).1 k 0 hlt
            rcases hq : passF F s.data.toList k 0 with ⟨n, x⟩
            rw [hq] at hin hx2
            obtain ⟨hn1, hn2, -⟩ := hin
            rw [lenS] at hn1
            simp only at hn1 hn2
            rcases x with _ | x
            · have hkn := hn2 rfl
              have Hc := Lib.hid (pass_ok (C := 0) rfl hsc hq)
              have hx3 : Hid (∃ F, 2 * (s.size - n) + 3 ≤ F ∧ R = commF F s.data.toList a n (d) false) := Lib.hid ⟨F, by omega, hx2⟩
              clear hx2 hsc hq hx0 h1 h2 h3
              go_wp2_with fail
              refine Hjoi.out.mono ?_
              rintro e w7 ⟨rfl, rfl⟩
              go_wp2_with fail
              refine Hc.out.mono ?_
              rintro e w7 ⟨rfl, rfl⟩
              go_wp2_with fail
              go_round
              case rel => exact ⟨n, d, false, rfl, rfl, rfl, rfl, hn1, by omega, by omega, hx3⟩
              case measure => simp [intOf]; omega
            · obtain ⟨E, tE, hE, hc⟩ := pass_bad (C := 0) rfl hsc hq
              have Hc := Lib.hid hc
              have hx3 : Hid (R = (n, x + 1) ∧ E = ((x + 1 : Nat) : Int)) := Lib.hid ⟨hx2, hE⟩
              clear hx2 hsc hq hc hE hx0 h1 h2 h3
              go_wp2_with fail
              refine Hjoi.out.mono ?_
              rintro e w7 ⟨rfl, rfl⟩
              go_wp2_with fail
              refine Hc.out.mono ?_
              rintro e w7 ⟨rfl, rfl⟩
              go_wp2_with fail
              go_ret2
              exact ⟨by rw [hx3.out.1, hx3.out.2]; rfl, rfl⟩
        · rw [if_pos (by simp)] at hx2
          have hg := hgt h1
          generalize commL s.data.toList k = m at *
          have hx3 : Hid (∃ F, 2 * (s.size - m) + 3 ≤ F ∧ R = commF F s.data.toList a m d true) := Lib.hid ⟨F, by omega, hx2⟩
          clear hx2 h1 h2 h3 hgt
          go_wp2_with fail
          refine Hcom.out.mono ?_
          rintro e w7 ⟨rfl, rfl⟩
          go_wp2_with fail
          go_round
          case rel => exact ⟨m, d, true, rfl, rfl, rfl, rfl, hle, by omega, by omega, hx3⟩
          case measure => simp [intOf]; omega
    · have hks : k = s.size := by omega
      subst hks
      have d1 : decide ((s.size : Int) < (s.size : Int)) = false := decide_eq_false (by omega)
      have hx3 : Hid (R = (a, 7)) := Lib.hid (by obtain ⟨F, hF, h⟩ := hx.out; rw [commF_ge (by rw [lenS]; exact Nat.le_refl _)] at h; exact h)
      clear hx
      go_wp2_with fail
      go_ret2
      exact ⟨by rw [hx3.out]; rfl, rfl⟩
end Go.Proofs.YticehbhedoploaaGreatDoor
