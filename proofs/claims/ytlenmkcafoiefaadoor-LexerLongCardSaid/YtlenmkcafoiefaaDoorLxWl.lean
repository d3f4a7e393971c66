/- LexerLong's walk. -/
import Derived.Test.YtlenmkcafoiefaaDoorLxL4
import Derived.Test.YtlenmkcafoiefaaDoorLxQ
namespace Go.Proofs.YtlenmkcafoiefaaDoor
open Go.RowKit
set_option linter.unusedVariables false

theorem size_dbl (i : Nat) (h : i ≤ 12) : 3 * 2 ^ i ≤ 12288 := by
  have : 2 ^ i ≤ 2 ^ 12 := Nat.pow_le_pow_right (by decide) h
  omega
theorem size_ge (i : Nat) (h : 13 ≤ i) : 16390 ≤ 3 * 2 ^ i := by
  have : 2 ^ 13 ≤ 2 ^ i := Nat.pow_le_pow_right (by decide) h
  omega
set_option maxHeartbeats 16000000 in
set_option maxRecDepth 100000 in
theorem long_walk (k : Nat) (w : World) :
    Calls Tryd.prog 3 #[.int .u8 k] w fun e w' => e = .returned (.bool true) ∧ Below w.heap.size w w' := by
  have haw := Lib.hid (fun W => awake_c W)
  by_cases hk : 3 < k
  · have t1 : decide ((3 : Int) < (k : Int)) = true := decide_eq_true (by omega)
    have t1' : decide (3 < k) = true := decide_eq_true hk
    go_enter Tryd.func3, Tryd.ntmps3
    go_wp2_with fail
    refine (haw.out _).mono ?_
    rintro e w1 ⟨rfl, m1⟩
    go_wp2_with fail
    go_ret
    exact ⟨rfl, m1⟩
  have t1 : decide ((3 : Int) < (k : Int)) = false := decide_eq_false (by omega)
  have t1' : decide (3 < k) = false := decide_eq_false hk
  go_enter Tryd.func3, Tryd.ntmps3
  go_wp2_with fail
  go_loop [3, 4] (fun sv iv => ∃ (i : Nat) (s : ByteArray), sv = .string s ∧ iv = .int .i64 i ∧ i ≤ 13 ∧ Hid (s.size = 3 * 2 ^ i ∧ s.data.toList.take 3 = [39, 97, 39])) (fun _ iv => 13 - (intOf iv).toNat)
  case atStart => exact ⟨0, ⟨#[39, 97, 39]⟩, rfl, by go_num, by omega, Lib.hid ⟨rfl, rfl⟩⟩
  case round =>
    obtain ⟨i, s, rfl, rfl, hi, hx⟩ := hrel
    have i14 : decide ((i : Int) < 14) = true := decide_eq_true (by omega)
    have i14' : decide (i < 14) = true := decide_eq_true (by omega)
    obtain ⟨hx1, hx2⟩ := hx.out
    by_cases hlt : i ≤ 12
    · have hz := size_dbl i hlt
      have hs : s.size ≤ 12288 := by omega
      have d1 : decide ((s.size : Int) ≤ 16384) = true := decide_eq_true (by omega)
      have d1' : decide (s.size ≤ 16384) = true := decide_eq_true (by omega)
      have hx3 : Hid ((s ++ s).size = 3 * 2 ^ (i + 1) ∧ (s ++ s).data.toList.take 3 = [39, 97, 39]) := Lib.hid ⟨by simp; rw [hx1, Nat.pow_succ]; omega, by
        have : (s ++ s).data.toList = s.data.toList ++ s.data.toList := by simp
        rw [this, List.take_append_of_le_length, hx2]
        rw [lenS, hx1]
        have : 0 < 2 ^ i := Nat.pow_pos (by decide)
        omega⟩
      clear hx hx1 hx2 hz
      go_wp2_with fail
      go_round
      case rel => exact ⟨i + 1, _, rfl, by go_num, by omega, hx3⟩
      case measure => simp [intOf]; omega
    · have hz := size_ge i (by omega)
      obtain rfl : i = 13 := by omega
      have hs : s.size = 24576 := by rw [hx1]
      have d1 : decide ((s.size : Int) ≤ 16384) = false := decide_eq_false (by omega)
      have d1' : decide (s.size ≤ 16384) = false := decide_eq_false (by omega)
      have hF : Hid ((s.extract 0 (16382 + k)).size = 16382 + k ∧ ∃ r, (s.extract 0 (16382 + k)).data.toList = 39 :: 97 :: 39 :: r) := Lib.hid ⟨by simp; omega, by
        have e : (s.extract 0 (16382 + k)).data.toList = s.data.toList.take (16382 + k) := by rw [Lib.extract_data, List.drop_zero]; rfl
        have e2 : (s.data.toList.take (16382 + k)).take 3 = [39, 97, 39] := by rw [List.take_take, show min 3 (16382 + k) = 3 from by omega, hx2]
        refine ⟨(s.data.toList.take (16382 + k)).drop 3, ?_⟩
        rw [e]
        have e3 := List.take_append_drop 3 (s.data.toList.take (16382 + k))
        rw [e2] at e3
        exact e3.symm⟩
      have k0 : (0 : Int) ≤ (k : Int) := by omega
      have k1 : 16382 + (k : Int) ≤ (s.size : Int) := by omega
      have k2 : (16382 + (k : Int)).toNat = 16382 + k := by omega
      have k3 : (3 : Int) ≤ 16382 + (k : Int) := by omega
      have k4 : (0 : Int) ≤ 16382 + (k : Int) := by omega
      have k5 : (k : Int) ≤ 255 := by omega
      have k6 : (3 : Int) ≤ (s.size : Int) := by omega
      have k7 : 16382 + k ≤ s.size := by omega
      have k8 : 2 < 16382 + k := by omega
      have k9 : 3 ≤ 16382 + k := by omega
      have k10 : (2 : Int) < 16382 + (k : Int) := by omega
      clear hx hx1 hx2 hs hz
      go_wp2_with fail
      go_region
      clear k1 k7 k6
      generalize s.extract 0 (16382 + k) = S at *
      obtain ⟨hSz, r, hSl⟩ := hF.out
      have hA := Lib.hid (All_c S w.drew (by omega))
      have hC := Lib.hid (fun W => Close_c S 0 W (by omega) (by decide))
      have hN : Hid (∀ W, Calls Tryd.prog 10 #[.string S, .int .i64 0] W fun e w' => e = .returned (.tuple #[(nextL S 0).1.val, .int .i64 ((nextL S 0).2 : Nat)]) ∧ Below W.heap.size W w') := Lib.hid (fun W => Next_c S 0 W (by omega) (by decide))
      have hd : Below w.heap.size w w.drew := (Below.refl _ w).drew
      by_cases g0 : 16384 < S.size
      · have tS : decide ((16384 : Int) < (S.size : Int)) = true := decide_eq_true (by omega)
        have tS' : decide (16384 < S.size) = true := decide_eq_true g0
        rw [allL_long g0] at hA
        rw [closL_long (by rw [lenS]; exact g0)] at hC
        rw [nextL_long g0] at hN
        unfold Gv at hC
        unfold Tk.none Tk.val at hN
        simp only at hN hA hC
        clear hSl hF
        go_wp2_with fail
        refine hA.out.mono ?_
        rintro e w1 ⟨v1, rfl, o1, m1⟩
        obtain ⟨A, c, rfl, _, _, _⟩ := ownT_at o1
        have M1 := hd.trans (m1.mono hd.size)
        clear o1
        go_wp2_with fail
        refine (hC.out _).mono ?_
        rintro e w2 ⟨rfl, rfl⟩
        go_wp2_with fail
        refine (hN.out _).mono ?_
        rintro e w2 ⟨rfl, m2⟩
        have M2 := (M1.trans (m2.mono M1.size))
        have M3 := M2.alloc M2.size (.cells #[.int .i64 0, .int .i64 0, .int .i64 0, .string ⟨#[]⟩] 30)
        go_wp2_with fail
        refine (haw.out _).mono ?_
        rintro e w3 ⟨rfl, m3⟩
        have M4 := M3.trans (m3.mono M3.size)
        go_wp2_with fail
        go_ret
        exact ⟨rfl, M4⟩
      · have tS : decide ((16384 : Int) < (S.size : Int)) = false := decide_eq_false (by omega)
        have tS' : decide (16384 < S.size) = false := decide_eq_false g0
        have hA2 := allF_err (s := S) g0 (S.size + 1) 0 []
        rw [show allF (S.size + 1) S 0 [] = allL S from rfl] at hA2
        have hN2 := nextL_err (s := S) (a := 0) g0
        have hC2 : closL S.data.toList 0 = (3, 0) := by
          rw [hSl]
          exact closL_a (by rw [← hSl, lenS]; exact g0)
        rw [hC2] at hC
        generalize allL S = R at *
        obtain ⟨l, n, x⟩ := R
        generalize nextL S 0 = T at *
        obtain ⟨⟨qk, qp, qe, qt⟩, y⟩ := T
        unfold Gv at hC
        unfold Tk.val at hN
        simp only at hN hA hC hA2 hN2
        have c1 : ((x : Int) != 3) = true := by rw [bne_iff_ne]; omega
        have c1' : (x != 3) = true := by rw [bne_iff_ne]; omega
        have c2 : ((y : Int) != 3) = true := by rw [bne_iff_ne]; omega
        have c2' : (y != 3) = true := by rw [bne_iff_ne]; omega
        clear hSl hF hC2 hA2 hN2
        go_wp2_with fail
        refine hA.out.mono ?_
        rintro e w1 ⟨v1, rfl, o1, m1⟩
        obtain ⟨A, c, rfl, _, _, _⟩ := ownT_at o1
        have M1 := hd.trans (m1.mono hd.size)
        clear o1
        go_wp2_with fail
        refine (hC.out _).mono ?_
        rintro e w2 ⟨rfl, rfl⟩
        go_wp2_with fail
        refine (hN.out _).mono ?_
        rintro e w2 ⟨rfl, m2⟩
        have M2 := (M1.trans (m2.mono M1.size))
        have M3 := M2.alloc M2.size (.cells #[.int .i64 qk, .int .i64 qp, .int .i64 qe, .string qt] 30)
        go_wp2_with fail
        refine (haw.out _).mono ?_
        rintro e w3 ⟨rfl, m3⟩
        have M4 := M3.trans (m3.mono M3.size)
        go_wp2_with fail
        go_ret
        exact ⟨rfl, M4⟩
theorem long_walkI (a : Int) (w : World) (h : 0 ≤ a ∧ a ≤ 255) :
    Calls Tryd.prog 3 #[.int .u8 a] w fun e w' => e = .returned (.bool true) ∧ Below w.heap.size w w' := by
  obtain ⟨k, rfl⟩ : ∃ k : Nat, a = (k : Int) := ⟨a.toNat, by omega⟩
  exact long_walk k w
end Go.Proofs.YtlenmkcafoiefaaDoor
