/- The reference's Plain and Quote. -/
import Derived.Test.YtlenmkcafoiefaaDoorLxL0
namespace Go.Proofs.YtlenmkcafoiefaaDoor
open Go.RowKit
set_option linter.unusedVariables false

set_option maxHeartbeats 4000000 in
set_option maxRecDepth 100000 in
theorem rdig_c (q : UInt8) (w : World) : Calls Tryd.prog 54 #[.int .u8 q.toNat] w fun e w' => e = .returned (.bool (digB q)) ∧ w = w' := by
  unfold digB
  generalize q.toNat = n
  by_cases h1 : 48 ≤ n
  · have e1 : decide ((48 : Int) ≤ (n : Int)) = true := decide_eq_true (by omega)
    have e1' : decide (48 ≤ n) = true := decide_eq_true h1
    by_cases h2 : n ≤ 57
    · have e2 : decide ((n : Int) ≤ 57) = true := decide_eq_true (by omega)
      have e2' : decide (n ≤ 57) = true := decide_eq_true h2
      rw [e1', e2']
      go_enter Tryd.func54, Tryd.ntmps54
      go_wp2_with fail
      go_ret
      exact ⟨rfl, rfl⟩
    · have e2 : decide ((n : Int) ≤ 57) = false := decide_eq_false (by omega)
      have e2' : decide (n ≤ 57) = false := decide_eq_false h2
      rw [e1', e2']
      go_enter Tryd.func54, Tryd.ntmps54
      go_wp2_with fail
      go_ret
      exact ⟨rfl, rfl⟩
  · have e1 : decide ((48 : Int) ≤ (n : Int)) = false := decide_eq_false (by omega)
    have e1' : decide (48 ≤ n) = false := decide_eq_false h1
    rw [e1']
    go_enter Tryd.func54, Tryd.ntmps54
    go_wp2_with fail
    go_ret
    exact ⟨rfl, rfl⟩
def letB (b : UInt8) : Bool := (decide (65 ≤ b.toNat) && decide (b.toNat ≤ 90)) || (decide (97 ≤ b.toNat) && decide (b.toNat ≤ 122))
set_option maxHeartbeats 8000000 in
set_option maxRecDepth 100000 in
theorem rlet_c (q : UInt8) (w : World) : Calls Tryd.prog 53 #[.int .u8 q.toNat] w fun e w' => e = .returned (.bool (letB q)) ∧ w = w' := by
  unfold letB
  generalize q.toNat = n at *
  have c1 : (decide ((65 : Int) ≤ (n : Int)) = true ∧ decide (65 ≤ n) = true) ∨ (decide ((65 : Int) ≤ (n : Int)) = false ∧ decide (65 ≤ n) = false) := by
    by_cases h : 65 ≤ n
    · exact .inl ⟨decide_eq_true (by omega), decide_eq_true h⟩
    · exact .inr ⟨decide_eq_false (by omega), decide_eq_false h⟩
  have c2 : (decide ((n : Int) ≤ 90) = true ∧ decide (n ≤ 90) = true) ∨ (decide ((n : Int) ≤ 90) = false ∧ decide (n ≤ 90) = false) := by
    by_cases h : n ≤ 90
    · exact .inl ⟨decide_eq_true (by omega), decide_eq_true h⟩
    · exact .inr ⟨decide_eq_false (by omega), decide_eq_false h⟩
  have c3 : (decide ((97 : Int) ≤ (n : Int)) = true ∧ decide (97 ≤ n) = true) ∨ (decide ((97 : Int) ≤ (n : Int)) = false ∧ decide (97 ≤ n) = false) := by
    by_cases h : 97 ≤ n
    · exact .inl ⟨decide_eq_true (by omega), decide_eq_true h⟩
    · exact .inr ⟨decide_eq_false (by omega), decide_eq_false h⟩
  have c4 : (decide ((n : Int) ≤ 122) = true ∧ decide (n ≤ 122) = true) ∨ (decide ((n : Int) ≤ 122) = false ∧ decide (n ≤ 122) = false) := by
    by_cases h : n ≤ 122
    · exact .inl ⟨decide_eq_true (by omega), decide_eq_true h⟩
    · exact .inr ⟨decide_eq_false (by omega), decide_eq_false h⟩
  rcases c1 with ⟨a1, b1⟩ | ⟨a1, b1⟩ <;> rcases c2 with ⟨a2, b2⟩ | ⟨a2, b2⟩ <;> rcases c3 with ⟨a3, b3⟩ | ⟨a3, b3⟩ <;> rcases c4 with ⟨a4, b4⟩ | ⟨a4, b4⟩
  all_goals
    rw [b1, b2, b3, b4]
    go_enter Tryd.func53, Tryd.ntmps53
    go_wp2_with fail
    go_ret
    exact ⟨rfl, rfl⟩
theorem namB_eq (q : UInt8) : namB q = ((letB q || digB q) || q == 95) := by
  unfold namB letB
  cases (decide (65 ≤ q.toNat) && decide (q.toNat ≤ 90)) <;> cases (decide (97 ≤ q.toNat) && decide (q.toNat ≤ 122)) <;> cases digB q <;> cases (q == 95) <;> rfl
set_option maxHeartbeats 4000000 in
set_option maxRecDepth 100000 in
theorem rword_c (q : UInt8) (w : World) : Calls Tryd.prog 32 #[.int .u8 q.toNat] w fun e w' => e = .returned (.bool (namB q)) ∧ w = w' := by
  have h1 := Lib.hid (rlet_c q w)
  have h2 := Lib.hid (rdig_c q w)
  rw [namB_eq]
  have h95 : ((q.toNat : Int) == 95) = (q == 95) := u8b rfl rfl
  generalize (q == 95) = u at *
  generalize letB q = x at *
  generalize digB q = y at *
  rcases x with _ | _
  · rcases y with _ | _
    · go_enter Tryd.func32, Tryd.ntmps32
      go_wp2_with fail
      refine h1.out.mono ?_
      rintro e w7 ⟨rfl, rfl⟩
      go_wp2_with fail
      refine h2.out.mono ?_
      rintro e w7 ⟨rfl, rfl⟩
      go_wp2_with fail
      go_ret
      exact ⟨rfl, rfl⟩
    · go_enter Tryd.func32, Tryd.ntmps32
      go_wp2_with fail
      refine h1.out.mono ?_
      rintro e w7 ⟨rfl, rfl⟩
      go_wp2_with fail
      refine h2.out.mono ?_
      rintro e w7 ⟨rfl, rfl⟩
      go_wp2_with fail
      go_ret
      exact ⟨rfl, rfl⟩
  · go_enter Tryd.func32, Tryd.ntmps32
    go_wp2_with fail
    refine h1.out.mono ?_
    rintro e w7 ⟨rfl, rfl⟩
    go_wp2_with fail
    go_ret
    exact ⟨rfl, rfl⟩
theorem contains_at {l : List UInt8} {k : Nat} (h : k < l.length) (q : UInt8) : (l.drop k).contains q = (l[k]'h == q || (l.drop (k + 1)).contains q) := by
  rw [List.drop_eq_getElem_cons h, List.contains_cons]
  congr 1
  rw [Bool.eq_iff_iff, beq_iff_eq, beq_iff_eq]
  exact eq_comm
theorem u8bb (x q : UInt8) : ((x.toNat : Int) == (q.toNat : Int)) = (x == q) := by
  rw [Bool.eq_iff_iff, beq_iff_eq, beq_iff_eq]
  exact ⟨fun h => UInt8.toNat_inj.1 (by omega), fun h => by rw [h]⟩
theorem u8bbN (x q : UInt8) : (x.toNat == q.toNat) = (x == q) := by
  rw [Bool.eq_iff_iff, beq_iff_eq, beq_iff_eq]
  exact ⟨fun h => UInt8.toNat_inj.1 h, fun h => by rw [h]⟩
set_option maxHeartbeats 4000000 in
set_option maxRecDepth 100000 in
theorem rhas_c (s : ByteArray) (q : UInt8) (w : World) (hs : s.size ≤ 1000) : Calls Tryd.prog 33 #[.string s, .int .u8 q.toNat] w fun e w' => e = .returned (.bool (s.data.toList.contains q)) ∧ w = w' := by
  obtain ⟨R, hR⟩ : ∃ R : Bool, R = s.data.toList.contains q := ⟨_, rfl⟩
  rw [← hR]
  have HR : Hid (R = (s.data.toList.drop 0).contains q) := Lib.hid (by rw [List.drop_zero]; exact hR)
  clear hR
  go_enter Tryd.func33, Tryd.ntmps33
  go_wp2_with fail
  go_loop [5] (fun kv => ∃ k : Nat, kv = .int .i64 k ∧ k ≤ s.size ∧ Hid (R = (s.data.toList.drop k).contains q)) (fun kv => s.size - (intOf kv).toNat)
  case atStart => exact ⟨0, by go_num, by omega, HR⟩
  case round =>
    obtain ⟨k, rfl, hk, hx⟩ := hrel
    clear HR
    by_cases hlt : k < s.size
    · have d1 : decide ((k : Int) < (s.size : Int)) = true := decide_eq_true (by omega)
      have d1' : decide (k < s.size) = true := decide_eq_true hlt
      have hx2 := hx.out
      rw [contains_at (show k < s.data.toList.length from hlt)] at hx2
      have t1 := u8bb (s[k]'hlt) q
      have t1' := u8bbN (s[k]'hlt) q
      have e : s.data.toList[k]'hlt = s[k]'hlt := rfl
      rw [e] at hx2
      clear hx e
      rcases h1 : (s[k]'hlt) == q with _ | _
      · rw [h1] at hx2 t1 t1'
        have hx3 : Hid (R = (s.data.toList.drop (k + 1)).contains q) := Lib.hid hx2
        clear hx2 h1
        go_wp2_with fail
        go_round
        case rel => exact ⟨k + 1, by go_num, by omega, hx3⟩
        case measure => simp [intOf]; omega
      · rw [h1] at hx2 t1 t1'
        have hx3 : Hid (R = true) := Lib.hid hx2
        clear hx2 h1
        go_wp2_with fail
        go_ret
        exact ⟨by rw [hx3.out]; rfl, rfl⟩
    · have hks : k = s.size := by omega
      subst hks
      have d1 : decide ((s.size : Int) < (s.size : Int)) = false := decide_eq_false (by omega)
      have hx3 : Hid (R = false) := Lib.hid (by have := hx.out; rw [List.drop_of_length_le (by rw [lenS]; exact Nat.le_refl _)] at this; exact this)
      clear hx
      go_wp2_with fail
      go_ret
      exact ⟨by rw [hx3.out]; rfl, rfl⟩
def plS : List UInt8 := [45, 46, 47, 44, 58, 43, 37, 64, 94]
def plB (q : UInt8) : Bool := namB q || plS.contains q
theorem ptests {s : ByteArray} (q0 : s.size ≠ 0) : s.toList.isEmpty = false ∧ (s.toList == []) = false := by
  have : s.toList ≠ [] := by
    rw [Lib.toList_data]
    intro h
    apply q0
    rw [← lenS, h]
    rfl
  exact ⟨by simpa using this, by simpa using this⟩
theorem petests {s : ByteArray} (q0 : s.size = 0) : s.toList.isEmpty = true ∧ (s.toList == []) = true := by
  have : s.toList = [] := by
    rw [Lib.toList_data]
    exact List.length_eq_zero_iff.1 (by rw [lenS]; exact q0)
  rw [this]
  exact ⟨rfl, rfl⟩
theorem all_at {l : List UInt8} {k : Nat} (h : k < l.length) (f : UInt8 → Bool) : (l.drop k).all f = (f (l[k]'h) && (l.drop (k + 1)).all f) := by rw [List.drop_eq_getElem_cons h, List.all_cons]
set_option maxHeartbeats 4000000 in
set_option maxRecDepth 100000 in
theorem rplain_c (s : ByteArray) (w : World) (hs : s.size ≤ 1000) (h0 : s.size ≠ 0) : Calls Tryd.prog 23 #[.string s] w fun e w' => e = .returned (.bool (s.data.toList.all plB)) ∧ w = w' := by
  obtain ⟨R, hR⟩ : ∃ R : Bool, R = s.data.toList.all plB := ⟨_, rfl⟩
  rw [← hR]
  have HR : Hid (R = (s.data.toList.drop 0).all plB) := Lib.hid (by rw [List.drop_zero]; exact hR)
  clear hR
  obtain ⟨e1, e2⟩ := ptests h0
  go_enter Tryd.func23, Tryd.ntmps23
  go_wp2_with fail
  go_loop [3] (fun kv => ∃ k : Nat, kv = .int .i64 k ∧ k ≤ s.size ∧ Hid (R = (s.data.toList.drop k).all plB)) (fun kv => s.size - (intOf kv).toNat)
  case atStart => exact ⟨0, by go_num, by omega, HR⟩
  case round =>
    obtain ⟨k, rfl, hk, hx⟩ := hrel
    clear HR
    by_cases hlt : k < s.size
    · have d1 : decide ((k : Int) < (s.size : Int)) = true := decide_eq_true (by omega)
      have d1' : decide (k < s.size) = true := decide_eq_true hlt
      have hx2 := hx.out
      rw [all_at (show k < s.data.toList.length from hlt)] at hx2
      have e : s.data.toList[k]'hlt = s[k]'hlt := rfl
      rw [e] at hx2
      have c1 := Lib.hid (fun W => rword_c (s[k]'hlt) W)
      have c2 := Lib.hid (fun W => rhas_c ⟨#[45, 46, 47, 44, 58, 43, 37, 64, 94]⟩ (s[k]'hlt) W (by decide))
      have e3 : (⟨#[45, 46, 47, 44, 58, 43, 37, 64, 94]⟩ : ByteArray).data.toList.contains (s[k]'hlt) = plS.contains (s[k]'hlt) := rfl
      rw [e3] at c2
      rw [show plB (s[k]'hlt) = (namB (s[k]'hlt) || plS.contains (s[k]'hlt)) from rfl] at hx2
      clear hx e e3
      generalize namB (s[k]'hlt) = x at *
      generalize plS.contains (s[k]'hlt) = y at *
      rcases x with _ | _
      · rcases y with _ | _
        · have hx3 : Hid (R = false) := Lib.hid hx2
          clear hx2
          go_wp2_with fail
          refine (c1.out _).mono ?_
          rintro e w7 ⟨rfl, rfl⟩
          go_wp2_with fail
          refine (c2.out _).mono ?_
          rintro e w7 ⟨rfl, rfl⟩
          go_wp2_with fail
          go_ret
          exact ⟨by rw [hx3.out]; rfl, rfl⟩
        · have hx3 : Hid (R = (s.data.toList.drop (k + 1)).all plB) := Lib.hid (by simpa using hx2)
          clear hx2
          go_wp2_with fail
          refine (c1.out _).mono ?_
          rintro e w7 ⟨rfl, rfl⟩
          go_wp2_with fail
          refine (c2.out _).mono ?_
          rintro e w7 ⟨rfl, rfl⟩
          go_wp2_with fail
          go_round
          case rel => exact ⟨k + 1, by go_num, by omega, hx3⟩
          case measure => simp [intOf]; omega
      · have hx3 : Hid (R = (s.data.toList.drop (k + 1)).all plB) := Lib.hid (by simpa using hx2)
        clear hx2
        go_wp2_with fail
        refine (c1.out _).mono ?_
        rintro e w7 ⟨rfl, rfl⟩
        go_wp2_with fail
        go_round
        case rel => exact ⟨k + 1, by go_num, by omega, hx3⟩
        case measure => simp [intOf]; omega
    · have hks : k = s.size := by omega
      subst hks
      have d1 : decide ((s.size : Int) < (s.size : Int)) = false := decide_eq_false (by omega)
      have hx3 : Hid (R = true) := Lib.hid (by have := hx.out; rw [List.drop_of_length_le (by rw [lenS]; exact Nat.le_refl _)] at this; exact this)
      clear hx
      go_wp2_with fail
      go_ret
      exact ⟨by rw [hx3.out]; rfl, rfl⟩
set_option maxHeartbeats 4000000 in
set_option maxRecDepth 100000 in
theorem rplain_nil (s : ByteArray) (w : World) (h0 : s.size = 0) : Calls Tryd.prog 23 #[.string s] w fun e w' => e = .returned (.bool false) ∧ w = w' := by
  obtain ⟨e1, e2⟩ := petests h0
  have d1 : decide ((0 : Int) < (s.size : Int)) = false := decide_eq_false (by omega)
  go_enter Tryd.func23, Tryd.ntmps23
  go_wp2_with fail
  go_loop [3] (fun kv => kv = .int .i64 0) (fun kv => 0)
  case atStart => exact rfl
  case round =>
    obtain rfl := hrel
    go_wp2_with fail
    go_ret
    exact ⟨rfl, rfl⟩
/-- Whether a text is plain. -/
def plnB (l : List UInt8) : Bool := !l.isEmpty && l.all plB
theorem rpln_c (s : ByteArray) (w : World) (hs : s.size ≤ 1000) : Calls Tryd.prog 23 #[.string s] w fun e w' => e = .returned (.bool (plnB s.data.toList)) ∧ w = w' := by
  by_cases h0 : s.size = 0
  · have : s.data.toList = [] := List.length_eq_zero_iff.1 (by rw [lenS]; exact h0)
    rw [this]
    exact rplain_nil s w h0
  · have e := (ptests h0).1
    rw [Lib.toList_data] at e
    unfold plnB
    rw [e]
    exact rplain_c s w hs h0
def quoB (c : UInt8) : List UInt8 := if c = 39 then [39, 92, 39, 39] else [c]
/-- The quoted form. -/
def quoL (s : ByteArray) : ByteArray := if plnB s.data.toList = true then s else ⟨([39] ++ s.data.toList.flatMap quoB ++ [39]).toArray⟩
theorem extOne {s : ByteArray} {k : Nat} (h : k < s.size) : (s.extract k (k + 1)).data.toList = [s[k]'h] := by
  rw [Lib.extract_data, Nat.add_sub_cancel_left, List.drop_eq_getElem_cons (show k < s.data.toList.length from h)]
  rfl
set_option maxHeartbeats 4000000 in
set_option maxRecDepth 100000 in
theorem rquote_c (s : ByteArray) (w : World) (hs : s.size ≤ 1000) :
    Calls Tryd.prog 13 #[.string s] w fun e w' => e = .returned (.string (quoL s)) ∧ w = w' := by
  have HP := Lib.hid (fun W => rpln_c s W hs)
  unfold quoL
  generalize plnB s.data.toList = F at *
  rcases F with _ | _
  · rw [if_neg (by simp)]
    obtain ⟨Res, hRes⟩ : ∃ Res : ByteArray, Res = ⟨([39] ++ s.data.toList.flatMap quoB ++ [39]).toArray⟩ := ⟨_, rfl⟩
    rw [← hRes]
    have HQ := Lib.hid hRes
    clear hRes
    go_enter Tryd.func13, Tryd.ntmps13
    go_wp2_with fail
    refine (HP.out _).mono ?_
    rintro e w' ⟨rfl, rfl⟩
    go_wp2_with fail
    go_loop [3, 4] (fun ov iv => ∃ (k : Nat) (out : ByteArray), k ≤ s.size ∧ iv = .int .i64 k ∧ ov = .string out ∧ out.size ≤ 4 * k + 1 ∧ Hid (out.data.toList = [39] ++ (s.data.toList.take k).flatMap quoB)) (fun _ iv => s.size - (intOf iv).toNat)
    case atStart => exact ⟨0, ⟨#[39]⟩, by omega, rfl, rfl, Nat.le_refl _, Lib.hid (by simp)⟩
    case round =>
      obtain ⟨k, out, hk, rfl, rfl, hos, hx⟩ := hrel
      by_cases hlt : k < s.size
      · have i1 : (k : Int) < (s.size : Int) := by omega
        have i2 : (k : Int) ≤ (k : Int) + 1 := by omega
        have i3 : (k : Int) + 1 ≤ (s.size : Int) := by omega
        have d1 : decide ((k : Int) < (s.size : Int)) = true := decide_eq_true i1
        have n1 : decide (k < s.size) = true := decide_eq_true hlt
        have hl : k < s.data.toList.length := hlt
        have htk : s.data.toList.take (k + 1) = s.data.toList.take k ++ [s[k]'hlt] := by
          rw [List.take_add_one, List.getElem?_eq_getElem hl]; rfl
        rcases hq : (s[k]'hlt == 39) with _ | _
        · have t1 : (((s[k]'hlt).toNat : Int) == 39) = false := u8b hq rfl
          have n39 : s[k]'hlt ≠ 39 := by simpa using hq
          have e1 := extOne hlt
          have z1 : (s.extract k (k + 1)).size = 1 := congrArg List.length e1
          have hx2 : Hid ((out ++ s.extract k (k + 1)).data.toList = [39] ++ (s.data.toList.take (k + 1)).flatMap quoB) := Lib.hid (by
            have : (out ++ s.extract k (k + 1)).data.toList = out.data.toList ++ [s[k]'hlt] := by rw [← e1]; simp
            rw [this, htk, List.flatMap_append, ← List.append_assoc, ← hx.out]
            simp [quoB, n39])
          have Z1 := Lib.hid z1
          have z1' : (s.extract k (k + 1)).size ≤ 1 := by omega
          clear hq n39 htk e1 z1
          go_wp2_with fail
          go_round
          case rel => exact ⟨k + 1, _, by omega, by go_num, rfl, by have := Z1.out; simp at this ⊢; omega, hx2⟩
          case measure => simp [intOf]; omega
        · have t1 : (((s[k]'hlt).toNat : Int) == 39) = true := u8b hq rfl
          have h39 : s[k]'hlt = 39 := by simpa using hq
          have hx2 : Hid ((out ++ ⟨#[39, 92, 39, 39]⟩).data.toList = [39] ++ (s.data.toList.take (k + 1)).flatMap quoB) := Lib.hid (by
            rw [htk, List.flatMap_append, h39, ← List.append_assoc, ← hx.out]
            simp [quoB])
          clear hq h39 htk
          go_wp2_with fail
          go_round
          case rel => exact ⟨k + 1, _, by omega, by go_num, rfl, by have h4 : (⟨#[39, 92, 39, 39]⟩ : ByteArray).size = 4 := rfl; simp [h4]; omega, hx2⟩
          case measure => simp [intOf]; omega
      · have hks : k = s.size := by omega
        subst hks
        have d1 : decide ((s.size : Int) < (s.size : Int)) = false := decide_eq_false (by omega)
        have hR : Res = out ++ ⟨#[39]⟩ := by
          rw [HQ.out]
          have h1 := hx.out
          rw [show s.data.toList.take s.size = s.data.toList from List.take_of_length_le (Nat.le_refl _)] at h1
          rw [← h1]
          cases out; simp [ByteArray.ext_iff]
          apply Array.ext'
          simp
        subst hR
        go_wp2_with fail
        go_ret
        exact ⟨rfl, rfl⟩
  · rw [if_pos rfl]
    go_enter Tryd.func13, Tryd.ntmps13
    go_wp2_with fail
    refine (HP.out _).mono ?_
    rintro e w' ⟨rfl, rfl⟩
    go_wp2_with fail
    go_ret
    exact ⟨rfl, rfl⟩
end Go.Proofs.YtlenmkcafoiefaaDoor
