/- lexer: the ends of parameters, comments, escapes and simple quotes. -/
import Derived.Test.YticehbhedoploaaGreatDoorLxC
namespace Go.Proofs.YticehbhedoploaaGreatDoor
open Go.RowKit
set_option linter.unusedVariables false

theorem btS {s : ByteArray} {k : Nat} (h : k < s.size) : bt s.data.toList k = s[k]'h := bt_get (s := s.data.toList) (i := k) h
theorem lenS (s : ByteArray) : s.data.toList.length = s.size := rfl
theorem dropS (s : ByteArray) (a : Nat) : (s.extract a s.size).data.toList = s.data.toList.drop a := by
  rw [Lib.extract_data, List.take_of_length_le]
  rw [List.length_drop, lenS]
  exact Nat.le_refl _
theorem idxS_c (s : ByteArray) (q : UInt8) (w : World) :
    Calls Tryz.prog 127 #[.string s, .int .u8 q.toNat] w fun e w' => e = .returned (.int .i64 (if fndL q s.data.toList < s.data.toList.length then (fndL q s.data.toList : Int) else -1)) ∧ w = w' := by
  refine (Tryz.strings_IndexByte s q.toNat w).mono ?_
  rintro e w' ⟨rfl, rfl⟩
  refine ⟨?_, rfl⟩
  rw [← fndL_index]
  simp
theorem nameL_at {s : ByteArray} {k : Nat} (h : k < s.size) : nameL (s.data.toList.drop k) = if namB (s[k]'h) = true then nameL (s.data.toList.drop (k + 1)) + 1 else 0 := by
  rw [List.drop_eq_getElem_cons (show k < s.data.toList.length from h)]
  rfl
theorem speC (s : ByteArray) (q : UInt8) (w : World) : ∃ E : Int, decide ((0 : Int) ≤ E) = speB q ∧ Calls Tryz.prog 127 #[.string ⟨#[64, 42, 35, 63, 45, 36, 33]⟩, .int .u8 q.toNat] w fun e w' => e = .returned (.int .i64 E) ∧ w = w' := by
  refine ⟨_, ?_, idxB_c [64, 42, 35, 63, 45, 36, 33] q w⟩
  have hf := speB_find q
  rcases hb : speB q with _ | _
  · rw [hb] at hf
    have : ¬ fndL q [64, 42, 35, 63, 45, 36, 33] < 7 := fun h => by have := hf.2 h; simp at this
    rw [if_neg (show ¬ fndL q [64, 42, 35, 63, 45, 36, 33] < ([64, 42, 35, 63, 45, 36, 33] : List UInt8).length from this)]
    decide
  · rw [hb] at hf
    have h7 := hf.1 rfl
    rw [if_pos (show fndL q [64, 42, 35, 63, 45, 36, 33] < ([64, 42, 35, 63, 45, 36, 33] : List UInt8).length from h7)]
    exact decide_eq_true (by omega)
set_option maxHeartbeats 8000000 in
set_option maxRecDepth 100000 in
theorem param_c (s : ByteArray) (w : World) (hs : s.size ≤ 140737488355328) : Calls Tryz.prog 221 #[.string s] w fun e w' => e = .returned (.int .i64 (paramL s.data.toList : Nat)) ∧ w = w' := by
  rcases hd : s.data.toList with _ | ⟨c, r⟩
  · have hz : s.size = 0 := by have := lenS s; rw [hd] at this; exact this.symm
    have e1 : s.toList.isEmpty = true := by rw [ByteArray.toList_eq, hd]; rfl
    have e2 : (s.toList == []) = true := by rw [ByteArray.toList_eq, hd]; rfl
    rw [show paramL [] = 0 from rfl]
    clear hd
    go_enter Tryz.func221, Tryz.ntmps221
    go_wp2_with fail
    go_ret
    exact ⟨rfl, rfl⟩
  have hpos : 0 < s.size := by have := lenS s; rw [hd] at this; rw [← this]; simp
  have e1 : s.toList.isEmpty = false := by rw [ByteArray.toList_eq, hd]; rfl
  have e2 : (s.toList == []) = false := by rw [ByteArray.toList_eq, hd]; rfl
  have hc : c = s[0]'hpos := by
    have := btS hpos
    rw [hd] at this
    exact this
  have hP : paramL (c :: r) = if digB c = true ∨ speB c = true then 1 else nameL (c :: r) := rfl
  rw [hP]
  rw [show nameL (c :: r) = nameL s.data.toList from by rw [hd], hc]
  clear hP hd hc
  have hdig := Lib.hid (digB_c (s[0]'hpos) w)
  have hnam := Lib.hid (fun (k : Nat) (h : k < s.size) => namB_c (s[k]'h) w)
  obtain ⟨E, hE, hsp⟩ := speC s (s[0]'hpos) w
  have Hsp := Lib.hid hsp
  clear hsp
  rcases h1 : digB (s[0]'hpos) with _ | _
  · rw [h1] at hdig
    rcases h2 : speB (s[0]'hpos) with _ | _
    · rw [h2] at hE
      rw [if_neg (by simp)]
      obtain ⟨R, hR⟩ : ∃ R : Nat, R = nameL s.data.toList := ⟨_, rfl⟩
      rw [← hR]
      have hR0 : Hid (R = 0 + nameL (s.data.toList.drop 0)) := Lib.hid (by rw [List.drop_zero, Nat.zero_add]; exact hR)
      clear hR h1 h2
      go_enter Tryz.func221, Tryz.ntmps221
      go_wp2_with fail
      refine hdig.out.mono ?_
      rintro e w7 ⟨rfl, rfl⟩
      go_wp2_with fail
      refine Hsp.out.mono ?_
      rintro e w7 ⟨rfl, rfl⟩
      go_wp2_with fail
      go_loop [3] (fun kv => ∃ k : Nat, kv = .int .i64 k ∧ k ≤ s.size ∧ Hid (R = k + nameL (s.data.toList.drop k))) (fun kv => s.size - (intOf kv).toNat)
      case atStart => exact ⟨0, by go_num, by omega, hR0⟩
      case round =>
        obtain ⟨k, rfl, hk, hx⟩ := hrel
        by_cases hlt : k < s.size
        · have d1 : decide ((k : Int) < (s.size : Int)) = true := decide_eq_true (by omega)
          have d1' : decide (k < s.size) = true := decide_eq_true hlt
          have hn := Lib.hid (hnam.out k hlt)
          rcases h3 : namB (s[k]'hlt) with _ | _
          · rw [h3] at hn
            have hx2 : Hid (R = k) := Lib.hid (by have := hx.out; rw [nameL_at hlt, h3, if_neg (by simp)] at this; omega)
            clear h3 hx
            go_wp2_with fail
            refine hn.out.mono ?_
            rintro e w7 ⟨rfl, rfl⟩
            go_wp2_with fail
            go_ret
            exact ⟨by rw [hx2.out]; rfl, rfl⟩
          · rw [h3] at hn
            have hx2 : Hid (R = k + 1 + nameL (s.data.toList.drop (k + 1))) := Lib.hid (by have := hx.out; rw [nameL_at hlt, h3, if_pos rfl] at this; omega)
            clear h3 hx
            go_wp2_with fail
            refine hn.out.mono ?_
            rintro e w7 ⟨rfl, rfl⟩
            go_wp2_with fail
            go_round
            case rel => exact ⟨k + 1, by go_num, by omega, hx2⟩
            case measure => simp [intOf]; omega
        · have hks : k = s.size := by omega
          subst hks
          have d1 : decide ((s.size : Int) < (s.size : Int)) = false := decide_eq_false (by omega)
          have hx2 : Hid (R = s.size) := Lib.hid (by have := hx.out; rw [List.drop_of_length_le (by rw [lenS]; exact Nat.le_refl _)] at this; simpa [nameL] using this)
          clear hx
          go_wp2_with fail
          go_ret
          exact ⟨by rw [hx2.out]; rfl, rfl⟩
    · rw [h2] at hE
      rw [if_pos (by simp)]
      clear h1 h2
      go_enter Tryz.func221, Tryz.ntmps221
      go_wp2_with fail
      refine hdig.out.mono ?_
      rintro e w7 ⟨rfl, rfl⟩
      go_wp2_with fail
      refine Hsp.out.mono ?_
      rintro e w7 ⟨rfl, rfl⟩
      go_wp2_with fail
      go_ret
      exact ⟨rfl, rfl⟩
  · rw [h1] at hdig
    rw [if_pos (by simp)]
    clear h1
    go_enter Tryz.func221, Tryz.ntmps221
    go_wp2_with fail
    refine hdig.out.mono ?_
    rintro e w7 ⟨rfl, rfl⟩
    go_wp2_with fail
    go_ret
    exact ⟨rfl, rfl⟩
set_option maxHeartbeats 8000000 in
set_option maxRecDepth 100000 in
theorem comm_c (s : ByteArray) (a : Nat) (w : World) (hs : s.size ≤ 140737488355328) (ha : a ≤ s.size) : Calls Tryz.prog 150 #[.string s, .int .i64 a] w fun e w' => e = .returned (.int .i64 (commL s.data.toList a : Nat)) ∧ w = w' := by
  have hix := idxS_c (s.extract a s.size) 10 w
  rw [dropS] at hix
  have hle := fndL_le 10 (s.data.toList.drop a)
  unfold commL
  generalize hn : fndL 10 (s.data.toList.drop a) = n at *
  rw [List.length_drop, lenS] at hix hle
  by_cases h : n < s.size - a
  · rw [if_pos h] at hix
    obtain ⟨m, hm⟩ : ∃ m : Int, m = (n : Int) := ⟨_, rfl⟩
    rw [← hm] at hix
    have hrs : (a : Int) + m = ((a + n : Nat) : Int) := by omega
    have Hrs := Lib.hid hrs
    have d1 : decide (m < (0 : Int)) = false := decide_eq_false (by omega)
    have b1 : (0 : Int) ≤ (a : Int) + m := by omega
    have b2 : (a : Int) + m ≤ 140737488355328 := by omega
    have Hix := Lib.hid hix
    clear hix hm hrs hn
    go_enter Tryz.func150, Tryz.ntmps150
    go_wp2_with fail
    refine Hix.out.mono ?_
    rintro e w7 ⟨rfl, rfl⟩
    go_wp2_with fail
    go_ret
    exact ⟨by rw [Hrs.out]; rfl, rfl⟩
  · rw [if_neg h] at hix
    obtain ⟨m, hm⟩ : ∃ m : Int, m = -1 := ⟨_, rfl⟩
    rw [← hm] at hix
    have hrs : a + n = s.size := by omega
    have d1 : decide (m < (0 : Int)) = true := decide_eq_true (by omega)
    have Hix := Lib.hid hix
    rw [hrs]
    clear hix hm hrs hn h hle
    go_enter Tryz.func150, Tryz.ntmps150
    go_wp2_with fail
    refine Hix.out.mono ?_
    rintro e w7 ⟨rfl, rfl⟩
    go_wp2_with fail
    go_ret
    exact ⟨rfl, rfl⟩
theorem pre_at (s : List UInt8) (p : List UInt8) : Lib.hasPrefix s p = p.isPrefixOf s := by unfold Lib.hasPrefix; rfl
theorem pre1 (l : List UInt8) (a : Nat) (x : UInt8) : Lib.hasPrefix (l.drop a) [x] = (decide (a < l.length) && bt l a == x) := by
  rw [pre_at]
  by_cases h : a < l.length
  · rw [List.drop_eq_getElem_cons h, decide_eq_true h, bt_get h, Bool.true_and]
    simp only [List.isPrefixOf]
    rw [Bool.and_true, Bool.eq_iff_iff, beq_iff_eq, beq_iff_eq]
    exact eq_comm
  · rw [List.drop_of_length_le (by omega), decide_eq_false h]
    rfl
theorem pre2 (l : List UInt8) (a : Nat) (x y : UInt8) : Lib.hasPrefix (l.drop a) [x, y] = (decide (a + 1 < l.length) && (bt l a == x && bt l (a + 1) == y)) := by
  rw [pre_at]
  by_cases h : a + 1 < l.length
  · have h0 : a < l.length := by omega
    rw [List.drop_eq_getElem_cons h0, List.drop_eq_getElem_cons h, decide_eq_true h, bt_get h, bt_get h0, Bool.true_and]
    simp only [List.isPrefixOf]
    rw [Bool.and_true]
    have c1 : (x == l[a]) = (l[a] == x) := by rw [Bool.eq_iff_iff, beq_iff_eq, beq_iff_eq]; exact eq_comm
    have c2 : (y == l[a + 1]) = (l[a + 1] == y) := by rw [Bool.eq_iff_iff, beq_iff_eq, beq_iff_eq]; exact eq_comm
    rw [c1, c2]
  · rw [decide_eq_false h, Bool.false_and]
    by_cases h0 : a < l.length
    · rw [List.drop_eq_getElem_cons h0, List.drop_of_length_le (by omega)]
      simp [List.isPrefixOf]
    · rw [List.drop_of_length_le (by omega)]
      rfl
theorem joins_c (s : ByteArray) (a : Nat) (w : World) (hs : s.size ≤ 140737488355328) (ha : a ≤ s.size) : Calls Tryz.prog 151 #[.string s, .int .i64 a] w fun e w' => e = .returned (.bool (joinB s.data.toList a)) ∧ w = w' := by
  have hp := Tryz.strings_HasPrefix (s.extract a s.size) ⟨#[92, 10]⟩ w
  rw [dropS, pre2] at hp
  have hj : joinB s.data.toList a = (decide (a + 1 < s.data.toList.length) && (bt s.data.toList a == 92 && bt s.data.toList (a + 1) == 10)) := rfl
  rw [hj]
  generalize (decide (a + 1 < s.data.toList.length) && (bt s.data.toList a == 92 && bt s.data.toList (a + 1) == 10)) = R at *
  have Hp := Lib.hid hp
  clear hp hj
  go_enter Tryz.func151, Tryz.ntmps151
  go_wp2_with fail
  refine Hp.out.mono ?_
  rintro e w7 ⟨rfl, rfl⟩
  go_wp2_with fail
  go_ret
  exact ⟨rfl, rfl⟩
/-- The call answers with the pair. -/
def Gv (w : World) (r : Nat × Nat) (e : Ending) (w' : World) : Prop := e = .returned (.tuple #[.int .i64 (r.1 : Nat), .int .i64 (r.2 : Nat)]) ∧ w = w'
set_option maxHeartbeats 4000000 in
theorem esc_c (s : ByteArray) (a : Nat) (w : World) (hs : s.size ≤ 140737488355328) (ha : a < s.size) : Calls Tryz.prog 214 #[.string s, .int .i64 a] w (Gv w (escL s.data.toList a)) := by
  unfold escL
  rw [lenS]
  by_cases h : a + 1 = s.size
  · rw [if_pos h]
    have t1 : ((a : Int) + 1 == (s.size : Int)) = true := by rw [beq_iff_eq]; omega
    have t1' : (a + 1 == s.size) = true := by rw [beq_iff_eq]; omega
    clear h
    go_enter Tryz.func214, Tryz.ntmps214
    go_wp2_with fail
    go_ret2
    exact ⟨rfl, rfl⟩
  · rw [if_neg h]
    have t1 : ((a : Int) + 1 == (s.size : Int)) = false := by rw [beq_eq_false_iff_ne]; omega
    have t1' : (a + 1 == s.size) = false := by rw [beq_eq_false_iff_ne]; omega
    clear h
    go_enter Tryz.func214, Tryz.ntmps214
    go_wp2_with fail
    go_ret2
    exact ⟨rfl, rfl⟩
set_option maxHeartbeats 4000000 in
theorem clos_c (s : ByteArray) (o a : Nat) (w : World) (hs : s.size ≤ 140737488355328) (ha : a ≤ s.size) : Calls Tryz.prog 252 #[.string s, .int .i64 o, .int .i64 a] w (Gv w (if a = s.size then (o, 7) else (a + 1, 0))) := by
  by_cases h : a = s.size
  · rw [if_pos h]
    have t1 : ((a : Int) == (s.size : Int)) = true := by rw [beq_iff_eq]; omega
    have t1' : (a == s.size) = true := by rw [beq_iff_eq]; omega
    clear h
    go_enter Tryz.func252, Tryz.ntmps252
    go_wp2_with fail
    go_ret2
    exact ⟨rfl, rfl⟩
  · rw [if_neg h]
    have t1 : ((a : Int) == (s.size : Int)) = false := by rw [beq_eq_false_iff_ne]; omega
    have t1' : (a == s.size) = false := by rw [beq_eq_false_iff_ne]; omega
    clear h
    go_enter Tryz.func252, Tryz.ntmps252
    go_wp2_with fail
    go_ret2
    exact ⟨rfl, rfl⟩
set_option maxHeartbeats 4000000 in
set_option maxRecDepth 100000 in
theorem sing_c (s : ByteArray) (a : Nat) (w : World) (hs : s.size ≤ 140737488355328) (ha : a < s.size) : Calls Tryz.prog 215 #[.string s, .int .i64 a] w (Gv w (singL s.data.toList a)) := by
  have hix := idxS_c (s.extract (a + 1) s.size) 39 w
  rw [dropS] at hix
  have hle := fndL_le 39 (s.data.toList.drop (a + 1))
  unfold singL
  generalize hn : fndL 39 (s.data.toList.drop (a + 1)) = n at *
  rw [List.length_drop] at hix hle
  rw [lenS] at *
  by_cases h : n < s.size - (a + 1)
  · rw [if_pos h] at hix ⊢
    obtain ⟨m, hm⟩ : ∃ m : Int, m = (n : Int) := ⟨_, rfl⟩
    rw [← hm] at hix
    have hrs : (a : Int) + 1 + m + 1 = ((a + 1 + n + 1 : Nat) : Int) := by omega
    have Hrs := Lib.hid hrs
    have d1 : decide (m < (0 : Int)) = false := decide_eq_false (by omega)
    have b1 : (0 : Int) ≤ (a : Int) + 1 + m := by omega
    have b2 : (a : Int) + 1 + m ≤ 140737488355328 := by omega
    have Hix := Lib.hid hix
    clear hix hm hrs hn
    go_enter Tryz.func215, Tryz.ntmps215
    go_wp2_with fail
    refine Hix.out.mono ?_
    rintro e w7 ⟨rfl, rfl⟩
    go_wp2_with fail
    go_ret2
    exact ⟨by rw [Hrs.out]; rfl, rfl⟩
  · rw [if_neg h] at hix ⊢
    obtain ⟨m, hm⟩ : ∃ m : Int, m = -1 := ⟨_, rfl⟩
    rw [← hm] at hix
    have d1 : decide (m < (0 : Int)) = true := decide_eq_true (by omega)
    have Hix := Lib.hid hix
    clear hix hm hn h hle
    go_enter Tryz.func215, Tryz.ntmps215
    go_wp2_with fail
    refine Hix.out.mono ?_
    rintro e w7 ⟨rfl, rfl⟩
    go_wp2_with fail
    go_ret2
    exact ⟨rfl, rfl⟩
theorem backF_lt {s : List UInt8} {o p F : Nat} (h : p < s.length) : backF (F + 1) s o p = if bt s p == 96 then (p + 1, 0) else if bt s p == 92 then (if p + 1 = s.length then (p, 7) else backF F s o (p + 2)) else backF F s o (p + 1) := by
  show (if s.length ≤ p then _ else _) = _
  rw [if_neg (by omega)]
theorem backF_ge {s : List UInt8} {o p F : Nat} (h : s.length ≤ p) : backF F s o p = (o, 7) := by
  cases F with
  | zero => rfl
  | succ F => show (if s.length ≤ p then _ else _) = _; rw [if_pos h]
set_option maxHeartbeats 8000000 in
set_option maxRecDepth 100000 in
theorem back_c (s : ByteArray) (a : Nat) (w : World) (hs : s.size ≤ 140737488355328) (ha : a < s.size) : Calls Tryz.prog 217 #[.string s, .int .i64 a] w (Gv w (backF (s.data.toList.length + 1) s.data.toList a (a + 1))) := by
  obtain ⟨R, hR⟩ : ∃ R : Nat × Nat, R = backF (s.data.toList.length + 1) s.data.toList a (a + 1) := ⟨_, rfl⟩
  rw [← hR]
  have HR : Hid (∃ F, s.size - (a + 1) < F ∧ R = backF F s.data.toList a (a + 1)) := Lib.hid ⟨s.data.toList.length + 1, by rw [lenS]; omega, hR⟩
  clear hR
  have hesc := Lib.hid (fun (k : Nat) (h : k < s.size) => esc_c s k w hs h)
  have hclo := Lib.hid (fun (k : Nat) (h : k ≤ s.size) => clos_c s a k w hs h)
  go_enter Tryz.func217, Tryz.ntmps217
  go_wp2_with fail
  go_loop [6, 7] (fun kv ev => ∃ k : Nat, kv = .int .i64 k ∧ ev = .int .i64 0 ∧ k ≤ s.size ∧ Hid (∃ F, s.size - k < F ∧ R = backF F s.data.toList a k)) (fun kv _ => s.size - (intOf kv).toNat)
  case atStart => exact ⟨a + 1, by go_num, by go_num, by omega, HR⟩
  case round =>
    obtain ⟨k, rfl, rfl, hk, hx⟩ := hrel
    clear HR
    have hcl := Lib.hid (hclo.out k hk)
    by_cases hlt : k < s.size
    · have d1 : decide ((k : Int) < (s.size : Int)) = true := decide_eq_true (by omega)
      have d1' : decide (k < s.size) = true := decide_eq_true hlt
      have hx2 : ∃ F, s.size - (k + 1) < F ∧ R = if (s[k]'hlt) == 96 then (k + 1, 0) else if (s[k]'hlt) == 92 then (if k + 1 = s.size then (k, 7) else backF F s.data.toList a (k + 2)) else backF F s.data.toList a (k + 1) := by
        obtain ⟨F, hF, h⟩ := hx.out
        obtain ⟨F, rfl⟩ : ∃ G, F = G + 1 := ⟨F - 1, by omega⟩
        rw [backF_lt (show k < s.data.toList.length from hlt), btS hlt, lenS] at h
        exact ⟨F, by omega, h⟩
      obtain ⟨F, hF, hx2⟩ := hx2
      clear hx
      rcases h1 : (s[k]'hlt) == 96 with _ | _
      · have t1 : (((s[k]'hlt).toNat : Int) != 96) = true := u8n h1 rfl
        rcases h2 : (s[k]'hlt) == 92 with _ | _
        · have t2 : (((s[k]'hlt).toNat : Int) != 92) = true := u8n h2 rfl
          rw [h1, h2] at hx2
          have hx3 : Hid (∃ F, s.size - (k + 1) < F ∧ R = backF F s.data.toList a (k + 1)) := Lib.hid ⟨F, hF, hx2⟩
          clear hx2 h1 h2
          go_wp2_with fail
          go_round
          case rel => exact ⟨k + 1, by go_num, by go_num, by omega, hx3⟩
          case measure => simp [intOf]; omega
        · have t2 : (((s[k]'hlt).toNat : Int) != 92) = false := u8n h2 rfl
          rw [h1, h2] at hx2
          have hes := hesc.out k hlt
          unfold escL at hes
          rw [lenS] at hes
          by_cases he : k + 1 = s.size
          · rw [if_pos he] at hes hx2
            obtain ⟨E, hE⟩ : ∃ E : Int, E = 7 := ⟨_, rfl⟩
            have t3 : (E != 0) = true := by rw [hE]; rfl
            have hes2 : Calls Tryz.prog 214 #[.string s, .int .i64 k] w fun e w' => e = .returned (.tuple #[.int .i64 k, .int .i64 E]) ∧ w = w' := by rw [hE]; exact hes
            have Hes := Lib.hid hes2
            have hx3 : Hid (R = (k, 7) ∧ E = 7) := Lib.hid ⟨hx2, hE⟩
            clear hes hes2 hE hx2 h1 h2 he
            go_wp2_with fail
            refine Hes.out.mono ?_
            rintro e w7 ⟨rfl, rfl⟩
            go_wp2_with fail
            go_ret2
            exact ⟨by rw [hx3.out.1, hx3.out.2]; rfl, rfl⟩
          · rw [if_neg he] at hes hx2
            obtain ⟨m, hm⟩ : ∃ m : Nat, m = k + 2 := ⟨_, rfl⟩
            have hes2 : Calls Tryz.prog 214 #[.string s, .int .i64 k] w fun e w' => e = .returned (.tuple #[.int .i64 m, .int .i64 0]) ∧ w = w' := by rw [hm]; exact hes
            have Hes := Lib.hid hes2
            have hx3 : Hid (∃ F, s.size - m < F ∧ R = backF F s.data.toList a m) := Lib.hid ⟨F, by omega, by rw [hm]; exact hx2⟩
            have hm2 : m ≤ s.size := by omega
            have hm3 : k < m := by omega
            clear hes hes2 hm hx2 h1 h2
            go_wp2_with fail
            refine Hes.out.mono ?_
            rintro e w7 ⟨rfl, rfl⟩
            go_wp2_with fail
            go_round
            case rel => exact ⟨m, rfl, by go_num, hm2, hx3⟩
            case measure => simp [intOf]; omega
      · have t1 : (((s[k]'hlt).toNat : Int) != 96) = false := u8n h1 rfl
        rw [h1] at hx2
        have hx3 : Hid (R = (k + 1, 0)) := Lib.hid hx2
        have hcl2 := hcl.out
        rw [if_neg (by omega)] at hcl2
        have Hcl := Lib.hid hcl2
        clear hx2 h1 hcl2 hcl
        go_wp2_with fail
        refine Hcl.out.mono ?_
        rintro e w7 ⟨rfl, rfl⟩
        go_wp2_with fail
        go_ret2
        exact ⟨by rw [hx3.out]; rfl, rfl⟩
    · have hks : k = s.size := by omega
      subst hks
      have d1 : decide ((s.size : Int) < (s.size : Int)) = false := decide_eq_false (by omega)
      have hx3 : Hid (R = (a, 7)) := Lib.hid (by obtain ⟨F, hF, h⟩ := hx.out; rw [backF_ge (by rw [lenS]; exact Nat.le_refl _)] at h; exact h)
      have hcl2 := hcl.out
      rw [if_pos rfl] at hcl2
      have Hcl := Lib.hid hcl2
      clear hcl2 hcl hx
      go_wp2_with fail
      refine Hcl.out.mono ?_
      rintro e w7 ⟨rfl, rfl⟩
      go_wp2_with fail
      go_ret2
      exact ⟨by rw [hx3.out]; rfl, rfl⟩
end Go.Proofs.YticehbhedoploaaGreatDoor
