/- lexer's reference: kinds of bytes, simple quotes. -/
import Derived.Test.YteppndkhmbhnkaaDoorLxV
namespace Go.Proofs.YteppndkhmbhnkaaDoor
open Go.RowKit
set_option linter.unusedVariables false

set_option maxHeartbeats 4000000 in
set_option maxRecDepth 100000 in
theorem rdig_c (q : UInt8) (w : World) : Calls Tryd.prog 110 #[.int .u8 q.toNat] w fun e w' => e = .returned (.bool (digB q)) ∧ w = w' := by
  unfold digB
  generalize q.toNat = n
  by_cases h1 : 48 ≤ n
  · have e1 : decide ((48 : Int) ≤ (n : Int)) = true := decide_eq_true (by omega)
    have e1' : decide (48 ≤ n) = true := decide_eq_true h1
    by_cases h2 : n ≤ 57
    · have e2 : decide ((n : Int) ≤ 57) = true := decide_eq_true (by omega)
      have e2' : decide (n ≤ 57) = true := decide_eq_true h2
      rw [e1', e2']
      go_enter Tryd.func110, Tryd.ntmps110
      go_wp2_with fail
      go_ret
      exact ⟨rfl, rfl⟩
    · have e2 : decide ((n : Int) ≤ 57) = false := decide_eq_false (by omega)
      have e2' : decide (n ≤ 57) = false := decide_eq_false h2
      rw [e1', e2']
      go_enter Tryd.func110, Tryd.ntmps110
      go_wp2_with fail
      go_ret
      exact ⟨rfl, rfl⟩
  · have e1 : decide ((48 : Int) ≤ (n : Int)) = false := decide_eq_false (by omega)
    have e1' : decide (48 ≤ n) = false := decide_eq_false h1
    rw [e1']
    go_enter Tryd.func110, Tryd.ntmps110
    go_wp2_with fail
    go_ret
    exact ⟨rfl, rfl⟩
def letB (b : UInt8) : Bool := (decide (65 ≤ b.toNat) && decide (b.toNat ≤ 90)) || (decide (97 ≤ b.toNat) && decide (b.toNat ≤ 122))
set_option maxHeartbeats 8000000 in
set_option maxRecDepth 100000 in
theorem rlet_c (q : UInt8) (w : World) : Calls Tryd.prog 131 #[.int .u8 q.toNat] w fun e w' => e = .returned (.bool (letB q)) ∧ w = w' := by
  unfold letB
  generalize q.toNat = n at *
  have c1 : (decide ((65 : Int) ≤ (n : Int)) = true ∧ decide (65 ≤ n) = true) ∨ (decide ((65 : Int) ≤ (n : Int)) = false ∧ decide (65 ≤ n) = false) := by
    by_cases h : 65 ≤ n
    · exact .inl ⟨decide_eq_true (by omega), decide_eq_true h⟩
    · exact .inr ⟨decide_eq_false (by omega), decide_eq_false h⟩
  have c2 : (decide ((n : Int) ≤ 90) = true ∧ decide (n ≤ 90) = true) ∨ (decide ((n : Int) ≤ 90) = false ∧ decide (n ≤ 90) = false) := by
    by_cases h : n ≤ 90
    · exact .inl ⟨decide_eq_true (by omega), decide_eq_true h⟩
    · exact .inr ⟨decide_eq_false (by omega), decide_eq_false h⟩
  have c3 : (decide ((97 : Int) ≤ (n : Int)) = true ∧ decide (97 ≤ n) = true) ∨ (decide ((97 : Int) ≤ (n : Int)) = false ∧ decide (97 ≤ n) = false) := by
    by_cases h : 97 ≤ n
    · exact .inl ⟨decide_eq_true (by omega), decide_eq_true h⟩
    · exact .inr ⟨decide_eq_false (by omega), decide_eq_false h⟩
  have c4 : (decide ((n : Int) ≤ 122) = true ∧ decide (n ≤ 122) = true) ∨ (decide ((n : Int) ≤ 122) = false ∧ decide (n ≤ 122) = false) := by
    by_cases h : n ≤ 122
    · exact .inl ⟨decide_eq_true (by omega), decide_eq_true h⟩
    · exact .inr ⟨decide_eq_false (by omega), decide_eq_false h⟩
  rcases c1 with ⟨a1, b1⟩ | ⟨a1, b1⟩ <;> rcases c2 with ⟨a2, b2⟩ | ⟨a2, b2⟩ <;> rcases c3 with ⟨a3, b3⟩ | ⟨a3, b3⟩ <;> rcases c4 with ⟨a4, b4⟩ | ⟨a4, b4⟩
  all_goals
    rw [b1, b2, b3, b4]
    go_enter Tryd.func131, Tryd.ntmps131
    go_wp2_with fail
    go_ret
    exact ⟨rfl, rfl⟩
theorem namB_eq (q : UInt8) : namB q = ((letB q || digB q) || q == 95) := by
  unfold namB letB
  cases (decide (65 ≤ q.toNat) && decide (q.toNat ≤ 90)) <;> cases (decide (97 ≤ q.toNat) && decide (q.toNat ≤ 122)) <;> cases digB q <;> cases (q == 95) <;> rfl
set_option maxHeartbeats 4000000 in
set_option maxRecDepth 100000 in
theorem rword_c (q : UInt8) (w : World) : Calls Tryd.prog 100 #[.int .u8 q.toNat] w fun e w' => e = .returned (.bool (namB q)) ∧ w = w' := by
  have h1 := Lib.hid (rlet_c q w)
  have h2 := Lib.hid (rdig_c q w)
  rw [namB_eq]
  have h95 : ((q.toNat : Int) == 95) = (q == 95) := u8b rfl rfl
  generalize (q == 95) = u at *
  generalize letB q = x at *
  generalize digB q = y at *
  rcases x with _ | _
  · rcases y with _ | _
    · go_enter Tryd.func100, Tryd.ntmps100
      go_wp2_with fail
      refine h1.out.mono ?_
      rintro e w7 ⟨rfl, rfl⟩
      go_wp2_with fail
      refine h2.out.mono ?_
      rintro e w7 ⟨rfl, rfl⟩
      go_wp2_with fail
      go_ret
      exact ⟨rfl, rfl⟩
    · go_enter Tryd.func100, Tryd.ntmps100
      go_wp2_with fail
      refine h1.out.mono ?_
      rintro e w7 ⟨rfl, rfl⟩
      go_wp2_with fail
      refine h2.out.mono ?_
      rintro e w7 ⟨rfl, rfl⟩
      go_wp2_with fail
      go_ret
      exact ⟨rfl, rfl⟩
  · go_enter Tryd.func100, Tryd.ntmps100
    go_wp2_with fail
    refine h1.out.mono ?_
    rintro e w7 ⟨rfl, rfl⟩
    go_wp2_with fail
    go_ret
    exact ⟨rfl, rfl⟩
theorem contains_at {l : List UInt8} {k : Nat} (h : k < l.length) (q : UInt8) : (l.drop k).contains q = (l[k]'h == q || (l.drop (k + 1)).contains q) := by
  rw [List.drop_eq_getElem_cons h, List.contains_cons]
  congr 1
  rw [Bool.eq_iff_iff, beq_iff_eq, beq_iff_eq]
  exact eq_comm
theorem u8bb (x q : UInt8) : ((x.toNat : Int) == (q.toNat : Int)) = (x == q) := by
  rw [Bool.eq_iff_iff, beq_iff_eq, beq_iff_eq]
  exact ⟨fun h => UInt8.toNat_inj.1 (by omega), fun h => by rw [h]⟩
theorem u8bbN (x q : UInt8) : (x.toNat == q.toNat) = (x == q) := by
  rw [Bool.eq_iff_iff, beq_iff_eq, beq_iff_eq]
  exact ⟨fun h => UInt8.toNat_inj.1 h, fun h => by rw [h]⟩
set_option maxHeartbeats 4000000 in
set_option maxRecDepth 100000 in
theorem rhas_c (s : ByteArray) (q : UInt8) (w : World) (hs : s.size ≤ 1000) : Calls Tryd.prog 132 #[.string s, .int .u8 q.toNat] w fun e w' => e = .returned (.bool (s.data.toList.contains q)) ∧ w = w' := by
  obtain ⟨R, hR⟩ : ∃ R : Bool, R = s.data.toList.contains q := ⟨_, rfl⟩
  rw [← hR]
  have HR : Hid (R = (s.data.toList.drop 0).contains q) := Lib.hid (by rw [List.drop_zero]; exact hR)
  clear hR
  go_enter Tryd.func132, Tryd.ntmps132
  go_wp2_with fail
  go_loop [5] (fun kv => ∃ k : Nat, kv = .int .i64 k ∧ k ≤ s.size ∧ Hid (R = (s.data.toList.drop k).contains q)) (fun kv => s.size - (intOf kv).toNat)
  case atStart => exact ⟨0, by go_num, by omega, HR⟩
  case round =>
    obtain ⟨k, rfl, hk, hx⟩ := hrel
    clear HR
    by_cases hlt : k < s.size
    · have d1 : decide ((k : Int) < (s.size : Int)) = true := decide_eq_true (by omega)
      have d1' : decide (k < s.size) = true := decide_eq_true hlt
      have hx2 := hx.out
      rw [contains_at (show k < s.data.toList.length from hlt)] at hx2
      have t1 := u8bb (s[k]'hlt) q
      have t1' := u8bbN (s[k]'hlt) q
      have e : s.data.toList[k]'hlt = s[k]'hlt := rfl
      rw [e] at hx2
      clear hx e
      rcases h1 : (s[k]'hlt) == q with _ | _
      · rw [h1] at hx2 t1 t1'
        have hx3 : Hid (R = (s.data.toList.drop (k + 1)).contains q) := Lib.hid hx2
        clear hx2 h1
        go_wp2_with fail
        go_round
        case rel => exact ⟨k + 1, by go_num, by omega, hx3⟩
        case measure => simp [intOf]; omega
      · rw [h1] at hx2 t1 t1'
        have hx3 : Hid (R = true) := Lib.hid hx2
        clear hx2 h1
        go_wp2_with fail
        go_ret
        exact ⟨by rw [hx3.out]; rfl, rfl⟩
    · have hks : k = s.size := by omega
      subst hks
      have d1 : decide ((s.size : Int) < (s.size : Int)) = false := decide_eq_false (by omega)
      have hx3 : Hid (R = false) := Lib.hid (by have := hx.out; rw [List.drop_of_length_le (by rw [lenS]; exact Nat.le_refl _)] at this; exact this)
      clear hx
      go_wp2_with fail
      go_ret
      exact ⟨by rw [hx3.out]; rfl, rfl⟩
set_option maxHeartbeats 4000000 in
set_option maxRecDepth 100000 in
theorem rspec_c (q : UInt8) (w : World) : Calls Tryd.prog 101 #[.int .u8 q.toNat] w fun e w' => e = .returned (.bool (digB q || speB q)) ∧ w = w' := by
  have h1 := Lib.hid (rdig_c q w)
  have h2 := Lib.hid (rhas_c ⟨#[64, 42, 35, 63, 45, 36, 33]⟩ q w (by decide))
  have e : (⟨#[64, 42, 35, 63, 45, 36, 33]⟩ : ByteArray).data.toList.contains q = speB q := rfl
  rw [e] at h2
  clear e
  generalize speB q = u at *
  generalize digB q = y at *
  rcases y with _ | _
  · go_enter Tryd.func101, Tryd.ntmps101
    go_wp2_with fail
    refine h1.out.mono ?_
    rintro e w7 ⟨rfl, rfl⟩
    go_wp2_with fail
    refine h2.out.mono ?_
    rintro e w7 ⟨rfl, rfl⟩
    go_wp2_with fail
    go_ret
    exact ⟨rfl, rfl⟩
  · go_enter Tryd.func101, Tryd.ntmps101
    go_wp2_with fail
    refine h1.out.mono ?_
    rintro e w7 ⟨rfl, rfl⟩
    go_wp2_with fail
    go_ret
    exact ⟨rfl, rfl⟩
set_option maxHeartbeats 4000000 in
set_option maxRecDepth 100000 in
theorem ropb_c (q : UInt8) (w : World) : Calls Tryd.prog 109 #[.int .u8 q.toNat] w fun e w' => e = .returned (.bool (opB q)) ∧ w = w' := by
  unfold opB
  simp only [List.contains_cons, List.contains_nil, Bool.or_false]
  rcases h0 : (q == 38) with _ | _
  · have t0 : ((q.toNat : Int) == 38) = false := u8b h0 rfl
    rcases h1 : (q == 124) with _ | _
    · have t1 : ((q.toNat : Int) == 124) = false := u8b h1 rfl
      rcases h2 : (q == 59) with _ | _
      · have t2 : ((q.toNat : Int) == 59) = false := u8b h2 rfl
        rcases h3 : (q == 40) with _ | _
        · have t3 : ((q.toNat : Int) == 40) = false := u8b h3 rfl
          rcases h4 : (q == 41) with _ | _
          · have t4 : ((q.toNat : Int) == 41) = false := u8b h4 rfl
            rcases h5 : (q == 60) with _ | _
            · have t5 : ((q.toNat : Int) == 60) = false := u8b h5 rfl
              rcases h6 : (q == 62) with _ | _
              · have t6 : ((q.toNat : Int) == 62) = false := u8b h6 rfl
                go_enter Tryd.func109, Tryd.ntmps109
                go_wp2_with fail
                go_ret
                exact ⟨rfl, rfl⟩
              · have t6 : ((q.toNat : Int) == 62) = true := u8b h6 rfl
                have g : (q.toNat : Int) = 62 := by rw [beq_iff_eq] at t6; exact t6
                clear g
                go_enter Tryd.func109, Tryd.ntmps109
                go_wp2_with fail
                go_ret
                exact ⟨by simp, rfl⟩
            · have t5 : ((q.toNat : Int) == 60) = true := u8b h5 rfl
              have g : (q.toNat : Int) = 60 := by rw [beq_iff_eq] at t5; exact t5
              clear g
              go_enter Tryd.func109, Tryd.ntmps109
              go_wp2_with fail
              go_ret
              exact ⟨by simp, rfl⟩
          · have t4 : ((q.toNat : Int) == 41) = true := u8b h4 rfl
            have g : (q.toNat : Int) = 41 := by rw [beq_iff_eq] at t4; exact t4
            clear g
            go_enter Tryd.func109, Tryd.ntmps109
            go_wp2_with fail
            go_ret
            exact ⟨by simp, rfl⟩
        · have t3 : ((q.toNat : Int) == 40) = true := u8b h3 rfl
          have g : (q.toNat : Int) = 40 := by rw [beq_iff_eq] at t3; exact t3
          clear g
          go_enter Tryd.func109, Tryd.ntmps109
          go_wp2_with fail
          go_ret
          exact ⟨by simp, rfl⟩
      · have t2 : ((q.toNat : Int) == 59) = true := u8b h2 rfl
        have g : (q.toNat : Int) = 59 := by rw [beq_iff_eq] at t2; exact t2
        clear g
        go_enter Tryd.func109, Tryd.ntmps109
        go_wp2_with fail
        go_ret
        exact ⟨by simp, rfl⟩
    · have t1 : ((q.toNat : Int) == 124) = true := u8b h1 rfl
      have g : (q.toNat : Int) = 124 := by rw [beq_iff_eq] at t1; exact t1
      clear g
      go_enter Tryd.func109, Tryd.ntmps109
      go_wp2_with fail
      go_ret
      exact ⟨by simp, rfl⟩
  · have t0 : ((q.toNat : Int) == 38) = true := u8b h0 rfl
    have g : (q.toNat : Int) = 38 := by rw [beq_iff_eq] at t0; exact t0
    clear g
    go_enter Tryd.func109, Tryd.ntmps109
    go_wp2_with fail
    go_ret
    exact ⟨by simp, rfl⟩
theorem singL_at {s : List UInt8} {o k : Nat} (h : k < s.length) (ho : o < k) (r : Nat × Nat) : (r = if fndL 39 (s.drop k) < s.length - k then (k + fndL 39 (s.drop k) + 1, 0) else (o, 7)) ↔ (r = if bt s k == 39 then (k + 1, 0) else if fndL 39 (s.drop (k + 1)) < s.length - (k + 1) then (k + 1 + fndL 39 (s.drop (k + 1)) + 1, 0) else (o, 7)) := by
  have e : fndL 39 (s.drop k) = if (bt s k == 39) = true then 0 else fndL 39 (s.drop (k + 1)) + 1 := by
    rw [List.drop_eq_getElem_cons h, bt_get h]
    rfl
  rw [e]
  split
  · rw [if_pos (by omega)]
  · by_cases h2 : fndL 39 (s.drop (k + 1)) < s.length - (k + 1)
    · rw [if_pos h2, if_pos (by omega), show k + (fndL 39 (s.drop (k + 1)) + 1) + 1 = k + 1 + fndL 39 (s.drop (k + 1)) + 1 from by omega]
    · rw [if_neg h2, if_neg (by omega)]
set_option maxHeartbeats 4000000 in
set_option maxRecDepth 100000 in
theorem rsing_c (s : ByteArray) (a : Nat) (w : World) (hs : s.size ≤ 140737488355328) (ha : a < s.size) : Calls Tryd.prog 104 #[.string s, .int .i64 a] w (Gv w (singL s.data.toList a)) := by
  obtain ⟨R, hR⟩ : ∃ R : Nat × Nat, R = singL s.data.toList a := ⟨_, rfl⟩
  rw [← hR]
  have HR : Hid (R = if fndL 39 (s.data.toList.drop (a + 1)) < s.data.toList.length - (a + 1) then (a + 1 + fndL 39 (s.data.toList.drop (a + 1)) + 1, 0) else (a, 7)) := Lib.hid hR
  clear hR
  go_enter Tryd.func104, Tryd.ntmps104
  go_wp2_with fail
  go_loop [6] (fun kv => ∃ k : Nat, kv = .int .i64 k ∧ k ≤ s.size ∧ a < k ∧ Hid (R = if fndL 39 (s.data.toList.drop k) < s.data.toList.length - k then (k + fndL 39 (s.data.toList.drop k) + 1, 0) else (a, 7))) (fun kv => s.size - (intOf kv).toNat)
  case atStart => exact ⟨a + 1, by go_num, by omega, by omega, HR⟩
  case round =>
    obtain ⟨k, rfl, hk, hak, hx⟩ := hrel
    clear HR
    by_cases hlt : k < s.size
    · have d1 : decide ((k : Int) < (s.size : Int)) = true := decide_eq_true (by omega)
      have d1' : decide (k < s.size) = true := decide_eq_true hlt
      have hx2 := (singL_at (show k < s.data.toList.length from hlt) hak R).1 hx.out
      rw [btS hlt] at hx2
      clear hx
      rcases h1 : (s[k]'hlt) == 39 with _ | _
      · have t1 : (((s[k]'hlt).toNat : Int) == 39) = false := u8b h1 rfl
        rw [h1] at hx2
        have hx3 : Hid (R = if fndL 39 (s.data.toList.drop (k + 1)) < s.data.toList.length - (k + 1) then (k + 1 + fndL 39 (s.data.toList.drop (k + 1)) + 1, 0) else (a, 7)) := Lib.hid hx2
        clear hx2 h1
        go_wp2_with fail
        go_round
        case rel => exact ⟨k + 1, by go_num, by omega, by omega, hx3⟩
        case measure => simp [intOf]; omega
      · have t1 : (((s[k]'hlt).toNat : Int) == 39) = true := u8b h1 rfl
        rw [h1] at hx2
        have hx3 : Hid (R = (k + 1, 0)) := Lib.hid hx2
        clear hx2 h1
        go_wp2_with fail
        go_ret2
        exact ⟨by rw [hx3.out]; rfl, rfl⟩
    · have hks : k = s.size := by omega
      subst hks
      have d1 : decide ((s.size : Int) < (s.size : Int)) = false := decide_eq_false (by omega)
      have hx3 : Hid (R = (a, 7)) := Lib.hid (by have := hx.out; rw [if_neg (by rw [lenS]; omega)] at this; exact this)
      clear hx
      go_wp2_with fail
      go_ret2
      exact ⟨by rw [hx3.out]; rfl, rfl⟩
set_option maxHeartbeats 8000000 in
set_option maxRecDepth 100000 in
theorem rback_c (s : ByteArray) (a : Nat) (w : World) (hs : s.size ≤ 140737488355328) (ha : a < s.size) : Calls Tryd.prog 102 #[.string s, .int .i64 a] w (Gv w (backF (s.data.toList.length + 1) s.data.toList a (a + 1))) := by
  obtain ⟨R, hR⟩ : ∃ R : Nat × Nat, R = backF (s.data.toList.length + 1) s.data.toList a (a + 1) := ⟨_, rfl⟩
  rw [← hR]
  have HR : Hid (∃ F, s.size - (a + 1) < F ∧ R = backF F s.data.toList a (a + 1)) := Lib.hid ⟨s.data.toList.length + 1, by rw [lenS]; omega, hR⟩
  clear hR
  go_enter Tryd.func102, Tryd.ntmps102
  go_wp2_with fail
  go_loop [6] (fun kv => ∃ k : Nat, kv = .int .i64 k ∧ k ≤ s.size ∧ Hid (∃ F, s.size - k < F ∧ R = backF F s.data.toList a k)) (fun kv => s.size - (intOf kv).toNat)
  case atStart => exact ⟨a + 1, by go_num, by omega, HR⟩
  case round =>
    obtain ⟨k, rfl, hk, hx⟩ := hrel
    clear HR
    by_cases hlt : k < s.size
    · have d1 : decide ((k : Int) < (s.size : Int)) = true := decide_eq_true (by omega)
      have d1' : decide (k < s.size) = true := decide_eq_true hlt
      have hx2 : ∃ F, s.size - (k + 1) < F ∧ R = if (s[k]'hlt) == 96 then (k + 1, 0) else if (s[k]'hlt) == 92 then (if k + 1 = s.size then (k, 7) else backF F s.data.toList a (k + 2)) else backF F s.data.toList a (k + 1) := by
        obtain ⟨F, hF, h⟩ := hx.out
        obtain ⟨F, rfl⟩ : ∃ G, F = G + 1 := ⟨F - 1, by omega⟩
        rw [backF_lt (show k < s.data.toList.length from hlt), btS hlt, lenS] at h
        exact ⟨F, by omega, h⟩
      obtain ⟨F, hF, hx2⟩ := hx2
      clear hx
      rcases h1 : (s[k]'hlt) == 96 with _ | _
      · have t1 : (((s[k]'hlt).toNat : Int) == 96) = false := u8b h1 rfl
        rcases h2 : (s[k]'hlt) == 92 with _ | _
        · have t2 : (((s[k]'hlt).toNat : Int) == 92) = false := u8b h2 rfl
          rw [h1, h2] at hx2
          have hx3 : Hid (∃ F, s.size - (k + 1) < F ∧ R = backF F s.data.toList a (k + 1)) := Lib.hid ⟨F, hF, hx2⟩
          clear hx2 h1 h2
          go_wp2_with fail
          go_round
          case rel => exact ⟨k + 1, by go_num, by omega, hx3⟩
          case measure => simp [intOf]; omega
        · have t2 : (((s[k]'hlt).toNat : Int) == 92) = true := u8b h2 rfl
          rw [h1, h2] at hx2
          by_cases he : k + 1 = s.size
          · have t3 : ((k : Int) + 1 == (s.size : Int)) = true := by rw [beq_iff_eq]; omega
            have t3' : (k + 1 == s.size) = true := by rw [beq_iff_eq]; exact he
            rw [if_pos he] at hx2
            have hx3 : Hid (R = (k, 7)) := Lib.hid hx2
            clear hx2 h1 h2 he
            go_wp2_with fail
            go_ret2
            exact ⟨by rw [hx3.out]; rfl, rfl⟩
          · have t3 : ((k : Int) + 1 == (s.size : Int)) = false := by rw [beq_eq_false_iff_ne]; omega
            have t3' : (k + 1 == s.size) = false := by rw [beq_eq_false_iff_ne]; exact he
            rw [if_neg he] at hx2
            have hx3 : Hid (∃ F, s.size - (k + 2) < F ∧ R = backF F s.data.toList a (k + 2)) := Lib.hid ⟨F, by omega, hx2⟩
            clear hx2 h1 h2
            go_wp2_with fail
            go_round
            case rel => exact ⟨k + 2, congrArg (Value.int .i64) (by omega), by omega, hx3⟩
            case measure => simp [intOf]; omega
      · have t1 : (((s[k]'hlt).toNat : Int) == 96) = true := u8b h1 rfl
        rw [h1] at hx2
        have hx3 : Hid (R = (k + 1, 0)) := Lib.hid hx2
        clear hx2 h1
        go_wp2_with fail
        go_ret2
        exact ⟨by rw [hx3.out]; rfl, rfl⟩
    · have hks : k = s.size := by omega
      subst hks
      have d1 : decide ((s.size : Int) < (s.size : Int)) = false := decide_eq_false (by omega)
      have hx3 : Hid (R = (a, 7)) := Lib.hid (by obtain ⟨F, hF, h⟩ := hx.out; rw [backF_ge (by rw [lenS]; exact Nat.le_refl _)] at h; exact h)
      clear hx
      go_wp2_with fail
      go_ret2
      exact ⟨by rw [hx3.out]; rfl, rfl⟩
set_option maxHeartbeats 4000000 in
set_option maxRecDepth 100000 in
theorem rname_c (s : ByteArray) (a : Nat) (w : World) (hs : s.size ≤ 140737488355328) (ha : a ≤ s.size) : Calls Tryd.prog 136 #[.string s, .int .i64 a] w fun e w' => e = .returned (.int .i64 ((a + nameL (s.data.toList.drop a) : Nat) : Int)) ∧ w = w' := by
  obtain ⟨R, hR⟩ : ∃ R : Nat, R = a + nameL (s.data.toList.drop a) := ⟨_, rfl⟩
  rw [← hR]
  have HR := Lib.hid hR
  clear hR
  have hwo := Lib.hid (fun (k : Nat) (h : k < s.size) => rword_c (s[k]'h) w)
  go_enter Tryd.func136, Tryd.ntmps136
  go_wp2_with fail
  go_loop [1] (fun kv => ∃ k : Nat, kv = .int .i64 k ∧ k ≤ s.size ∧ Hid (R = k + nameL (s.data.toList.drop k))) (fun kv => s.size - (intOf kv).toNat)
  case atStart => exact ⟨a, rfl, ha, HR⟩
  case round =>
    obtain ⟨k, rfl, hk, hx⟩ := hrel
    clear HR
    by_cases hlt : k < s.size
    · have d1 : decide ((k : Int) < (s.size : Int)) = true := decide_eq_true (by omega)
      have d1' : decide (k < s.size) = true := decide_eq_true hlt
      have hn := Lib.hid (hwo.out k hlt)
      rcases h3 : namB (s[k]'hlt) with _ | _
      · rw [h3] at hn
        have hx2 : Hid (R = k) := Lib.hid (by have := hx.out; rw [nameL_at hlt, h3, if_neg (by simp)] at this; omega)
        clear h3 hx
        go_wp2_with fail
        refine hn.out.mono ?_
        rintro e w7 ⟨rfl, rfl⟩
        go_wp2_with fail
        go_ret
        exact ⟨by rw [hx2.out]; rfl, rfl⟩
      · rw [h3] at hn
        have hx2 : Hid (R = k + 1 + nameL (s.data.toList.drop (k + 1))) := Lib.hid (by have := hx.out; rw [nameL_at hlt, h3, if_pos rfl] at this; omega)
        clear h3 hx
        go_wp2_with fail
        refine hn.out.mono ?_
        rintro e w7 ⟨rfl, rfl⟩
        go_wp2_with fail
        go_round
        case rel => exact ⟨k + 1, by go_num, by omega, hx2⟩
        case measure => simp [intOf]; omega
    · have hks : k = s.size := by omega
      subst hks
      have d1 : decide ((s.size : Int) < (s.size : Int)) = false := decide_eq_false (by omega)
      have hx2 : Hid (R = s.size) := Lib.hid (by have := hx.out; rw [List.drop_of_length_le (by rw [lenS]; exact Nat.le_refl _)] at this; simpa [nameL] using this)
      clear hx
      go_wp2_with fail
      go_ret
      exact ⟨by rw [hx2.out]; rfl, rfl⟩
end Go.Proofs.YteppndkhmbhnkaaDoor
