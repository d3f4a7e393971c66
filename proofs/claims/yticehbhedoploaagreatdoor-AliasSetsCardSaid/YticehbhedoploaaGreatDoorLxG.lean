/- lexer: Skip, Close, operators and reserved words. -/
import Derived.Test.YticehbhedoploaaGreatDoorLxF
import Derived.Shelf.Strings.SlTrimAscii
namespace Go.Proofs.YticehbhedoploaaGreatDoor
open Go.RowKit
set_option linter.unusedVariables false

theorem skipF_lt {s : List UInt8} {p F : Nat} (h : p < s.length) : skipF (F + 1) s p = if blankB (bt s p) = true then skipF F s (p + 1) else if bt s p == 35 then skipF F s (commL s p) else if joinB s p = true then skipF F s (p + 2) else p := by
  show (if s.length ≤ p then _ else _) = _
  rw [if_neg (by omega)]
theorem skipF_ge {s : List UInt8} {p F : Nat} (h : s.length ≤ p) : skipF F s p = p := by
  cases F with
  | zero => rfl
  | succ F => show (if s.length ≤ p then _ else _) = _; rw [if_pos h]
theorem joinB_le {s : List UInt8} {p : Nat} (h : joinB s p = true) : p + 2 ≤ s.length := by
  unfold joinB at h
  simp only [Bool.and_eq_true, decide_eq_true_eq] at h
  omega
/-- The place that an offset stands for. -/
def clamp (a : Int) (n : Nat) : Nat := if a < 0 then 0 else if (n : Int) ≤ a then n else a.toNat
theorem clamp_le (a : Int) (n : Nat) : clamp a n ≤ n := by
  unfold clamp
  split
  · omega
  split <;> omega
def skipL (s : List UInt8) (a : Int) : Nat := skipF (s.length + 1) s (clamp a s.length)
set_option maxHeartbeats 8000000 in
set_option maxRecDepth 100000 in
theorem Skip_c (s : ByteArray) (a : Int) (w : World) (hs : s.size ≤ 140737488355328) (ha : -9223372036854775808 ≤ a ∧ a ≤ 9223372036854775807) :
    Calls Tryz.prog 108 #[.string s, .int .i64 a] w fun e w' => e = .returned (.int .i64 (skipL s.data.toList a : Nat)) ∧ w = w' := by
  obtain ⟨R, hR⟩ : ∃ R : Nat, R = skipL s.data.toList a := ⟨_, rfl⟩
  rw [← hR]
  have HR : Hid (∃ F, s.size - clamp a s.size < F ∧ R = skipF F s.data.toList (clamp a s.size)) := Lib.hid ⟨s.size + 1, by omega, hR⟩
  clear hR
  obtain ⟨ha1, ha2⟩ := ha
  have hbla := Lib.hid (fun (k : Nat) (h : k < s.size) => blank_c (s[k]'h) w)
  have hcom := Lib.hid (fun (k : Nat) (h : k ≤ s.size) => comm_c s k w hs h)
  have hjoi := Lib.hid (fun (k : Nat) (h : k ≤ s.size) => joins_c s k w hs h)
  have hcl := clamp_le a s.size
  have hcase : (a < 0 ∧ clamp a s.size = 0) ∨ ((s.size : Int) < a ∧ clamp a s.size = s.size) ∨ (∃ n : Nat, a = n ∧ n ≤ s.size ∧ clamp a s.size = n) := by
    unfold clamp
    by_cases h1 : a < 0
    · left; rw [if_pos h1]; exact ⟨h1, rfl⟩
    · right
      rw [if_neg h1]
      by_cases h2 : (s.size : Int) < a
      · left; rw [if_pos (by omega)]; exact ⟨h2, rfl⟩
      · right
        by_cases h3 : (s.size : Int) ≤ a
        · rw [if_pos h3]; exact ⟨s.size, by omega, Nat.le_refl _, rfl⟩
        · rw [if_neg h3]; exact ⟨a.toNat, by omega, by omega, rfl⟩
  rcases hcase with ⟨h1, hc⟩ | ⟨h1, hc⟩ | ⟨n, rfl, h1, hc⟩
  · rw [hc] at HR
    clear hc hcl
    have m1 : max a 0 = 0 := by omega
    have m2 : min (0 : Int) (s.size : Int) = 0 := by omega
    go_enter Tryz.func108, Tryz.ntmps108
    go_wp2_with fail
    go_loop [1] (fun kv => ∃ k : Nat, kv = .int .i64 k ∧ k ≤ s.size ∧ Hid (∃ F, s.size - k < F ∧ R = skipF F s.data.toList k)) (fun kv => s.size - (intOf kv).toNat)
    case atStart => exact ⟨0, by go_num, by omega, HR⟩
    case round =>
      obtain ⟨k, rfl, hk, hx⟩ := hrel
      clear HR
      by_cases hlt : k < s.size
      · have d1 : decide ((k : Int) < (s.size : Int)) = true := decide_eq_true (by omega)
        have d1' : decide (k < s.size) = true := decide_eq_true hlt
        obtain ⟨F, hF, hx2⟩ := hx.out
        obtain ⟨F, rfl⟩ : ∃ G, F = G + 1 := ⟨F - 1, by omega⟩
        have hgt := commL_gt (show k < s.data.toList.length from hlt)
        rw [skipF_lt (show k < s.data.toList.length from hlt)] at hx2
        rw [btS hlt] at hx2 hgt
        have hle := commL_le (s := s.data.toList) (p := k) (by rw [lenS]; omega)
        have hjl := joinB_le (s := s.data.toList) (p := k)
        rw [lenS] at hle hjl
        have Hbla := Lib.hid (hbla.out k hlt)
        have Hcom := Lib.hid (hcom.out k hk)
        have Hjoi := Lib.hid (hjoi.out k hk)
        clear hx
        rcases hb : blankB (s[k]'hlt) with _ | _
        · rw [hb] at Hbla hx2
          rw [if_neg (by simp)] at hx2
          rcases h1 : (s[k]'hlt) == 35 with _ | _
          · have t1 : (((s[k]'hlt).toNat : Int) == 35) = false := u8b h1 rfl
            rw [h1] at hx2
            rw [if_neg (by simp)] at hx2
            rcases hj : joinB s.data.toList k with _ | _
            · rw [hj] at Hjoi hx2
              have hx3 : Hid (R = k) := Lib.hid (by rw [if_neg (by simp)] at hx2; exact hx2)
              clear hx2 h1 hb hj hgt
              go_wp2_with fail
              refine Hbla.out.mono ?_
              rintro e w7 ⟨rfl, rfl⟩
              go_wp2_with fail
              refine Hjoi.out.mono ?_
              rintro e w7 ⟨rfl, rfl⟩
              go_wp2_with fail
              go_ret
              exact ⟨by rw [hx3.out]; rfl, rfl⟩
            · have hk2 := hjl hj
              rw [hj] at Hjoi hx2
              rw [if_pos rfl] at hx2
              have hx3 : Hid (∃ F, s.size - (k + 2) < F ∧ R = skipF F s.data.toList (k + 2)) := Lib.hid ⟨F, by omega, hx2⟩
              clear hx2 h1 hb hj hgt
              go_wp2_with fail
              refine Hbla.out.mono ?_
              rintro e w7 ⟨rfl, rfl⟩
              go_wp2_with fail
              refine Hjoi.out.mono ?_
              rintro e w7 ⟨rfl, rfl⟩
              go_wp2_with fail
              go_round
              case rel => exact ⟨k + 2, by go_num, by omega, hx3⟩
              case measure => simp [intOf]; omega
          · have t1 : (((s[k]'hlt).toNat : Int) == 35) = true := u8b h1 rfl
            have hg := hgt h1
            rw [h1] at hx2
            rw [if_pos rfl] at hx2
            generalize commL s.data.toList k = m at *
            have hx3 : Hid (∃ F, s.size - m < F ∧ R = skipF F s.data.toList m) := Lib.hid ⟨F, by omega, hx2⟩
            clear hx2 h1 hb hgt
            go_wp2_with fail
            refine Hbla.out.mono ?_
            rintro e w7 ⟨rfl, rfl⟩
            go_wp2_with fail
            refine Hcom.out.mono ?_
            rintro e w7 ⟨rfl, rfl⟩
            go_wp2_with fail
            go_round
            case rel => exact ⟨m, rfl, hle, hx3⟩
            case measure => simp [intOf]; omega
        · rw [hb] at Hbla hx2
          rw [if_pos rfl] at hx2
          have hx3 : Hid (∃ F, s.size - (k + 1) < F ∧ R = skipF F s.data.toList (k + 1)) := Lib.hid ⟨F, by omega, hx2⟩
          clear hx2 hb hgt
          go_wp2_with fail
          refine Hbla.out.mono ?_
          rintro e w7 ⟨rfl, rfl⟩
          go_wp2_with fail
          go_round
          case rel => exact ⟨k + 1, by go_num, by omega, hx3⟩
          case measure => simp [intOf]; omega
      · have hks : k = s.size := by omega
        subst hks
        have d1 : decide ((s.size : Int) < (s.size : Int)) = false := decide_eq_false (by omega)
        have hx3 : Hid (R = s.size) := Lib.hid (by obtain ⟨F, hF, h⟩ := hx.out; rw [skipF_ge (by rw [lenS]; exact Nat.le_refl _)] at h; exact h)
        clear hx
        go_wp2_with fail
        go_ret
        exact ⟨by rw [hx3.out]; rfl, rfl⟩
  · rw [hc] at HR
    clear hc hcl
    have m1 : max a 0 = a := by omega
    have m2 : min a (s.size : Int) = (s.size : Int) := by omega
    go_enter Tryz.func108, Tryz.ntmps108
    go_wp2_with fail
    go_loop [1] (fun kv => ∃ k : Nat, kv = .int .i64 k ∧ k ≤ s.size ∧ Hid (∃ F, s.size - k < F ∧ R = skipF F s.data.toList k)) (fun kv => s.size - (intOf kv).toNat)
    case atStart => exact ⟨s.size, rfl, by omega, HR⟩
    case round =>
      obtain ⟨k, rfl, hk, hx⟩ := hrel
      clear HR
      by_cases hlt : k < s.size
      · have d1 : decide ((k : Int) < (s.size : Int)) = true := decide_eq_true (by omega)
        have d1' : decide (k < s.size) = true := decide_eq_true hlt
        obtain ⟨F, hF, hx2⟩ := hx.out
        obtain ⟨F, rfl⟩ : ∃ G, F = G + 1 := ⟨F - 1, by omega⟩
        have hgt := commL_gt (show k < s.data.toList.length from hlt)
        rw [skipF_lt (show k < s.data.toList.length from hlt)] at hx2
        rw [btS hlt] at hx2 hgt
        have hle := commL_le (s := s.data.toList) (p := k) (by rw [lenS]; omega)
        have hjl := joinB_le (s := s.data.toList) (p := k)
        rw [lenS] at hle hjl
        have Hbla := Lib.hid (hbla.out k hlt)
        have Hcom := Lib.hid (hcom.out k hk)
        have Hjoi := Lib.hid (hjoi.out k hk)
        clear hx
        rcases hb : blankB (s[k]'hlt) with _ | _
        · rw [hb] at Hbla hx2
          rw [if_neg (by simp)] at hx2
          rcases h1 : (s[k]'hlt) == 35 with _ | _
          · have t1 : (((s[k]'hlt).toNat : Int) == 35) = false := u8b h1 rfl
            rw [h1] at hx2
            rw [if_neg (by simp)] at hx2
            rcases hj : joinB s.data.toList k with _ | _
            · rw [hj] at Hjoi hx2
              have hx3 : Hid (R = k) := Lib.hid (by rw [if_neg (by simp)] at hx2; exact hx2)
              clear hx2 h1 hb hj hgt
              go_wp2_with fail
              refine Hbla.out.mono ?_
              rintro e w7 ⟨rfl, rfl⟩
              go_wp2_with fail
              refine Hjoi.out.mono ?_
              rintro e w7 ⟨rfl, rfl⟩
              go_wp2_with fail
              go_ret
              exact ⟨by rw [hx3.out]; rfl, rfl⟩
            · have hk2 := hjl hj
              rw [hj] at Hjoi hx2
              rw [if_pos rfl] at hx2
              have hx3 : Hid (∃ F, s.size - (k + 2) < F ∧ R = skipF F s.data.toList (k + 2)) := Lib.hid ⟨F, by omega, hx2⟩
              clear hx2 h1 hb hj hgt
              go_wp2_with fail
              refine Hbla.out.mono ?_
              rintro e w7 ⟨rfl, rfl⟩
              go_wp2_with fail
              refine Hjoi.out.mono ?_
              rintro e w7 ⟨rfl, rfl⟩
              go_wp2_with fail
              go_round
              case rel => exact ⟨k + 2, by go_num, by omega, hx3⟩
              case measure => simp [intOf]; omega
          · have t1 : (((s[k]'hlt).toNat : Int) == 35) = true := u8b h1 rfl
            have hg := hgt h1
            rw [h1] at hx2
            rw [if_pos rfl] at hx2
            generalize commL s.data.toList k = m at *
            have hx3 : Hid (∃ F, s.size - m < F ∧ R = skipF F s.data.toList m) := Lib.hid ⟨F, by omega, hx2⟩
            clear hx2 h1 hb hgt
            go_wp2_with fail
            refine Hbla.out.mono ?_
            rintro e w7 ⟨rfl, rfl⟩
            go_wp2_with fail
            refine Hcom.out.mono ?_
            rintro e w7 ⟨rfl, rfl⟩
            go_wp2_with fail
            go_round
            case rel => exact ⟨m, rfl, hle, hx3⟩
            case measure => simp [intOf]; omega
        · rw [hb] at Hbla hx2
          rw [if_pos rfl] at hx2
          have hx3 : Hid (∃ F, s.size - (k + 1) < F ∧ R = skipF F s.data.toList (k + 1)) := Lib.hid ⟨F, by omega, hx2⟩
          clear hx2 hb hgt
          go_wp2_with fail
          refine Hbla.out.mono ?_
          rintro e w7 ⟨rfl, rfl⟩
          go_wp2_with fail
          go_round
          case rel => exact ⟨k + 1, by go_num, by omega, hx3⟩
          case measure => simp [intOf]; omega
      · have hks : k = s.size := by omega
        subst hks
        have d1 : decide ((s.size : Int) < (s.size : Int)) = false := decide_eq_false (by omega)
        have hx3 : Hid (R = s.size) := Lib.hid (by obtain ⟨F, hF, h⟩ := hx.out; rw [skipF_ge (by rw [lenS]; exact Nat.le_refl _)] at h; exact h)
        clear hx
        go_wp2_with fail
        go_ret
        exact ⟨by rw [hx3.out]; rfl, rfl⟩
  · rw [hc] at HR
    clear hc hcl
    have m1 : max (n : Int) 0 = n := by omega
    have m2 : min (n : Int) (s.size : Int) = n := by omega
    go_enter Tryz.func108, Tryz.ntmps108
    go_wp2_with fail
    go_loop [1] (fun kv => ∃ k : Nat, kv = .int .i64 k ∧ k ≤ s.size ∧ Hid (∃ F, s.size - k < F ∧ R = skipF F s.data.toList k)) (fun kv => s.size - (intOf kv).toNat)
    case atStart => exact ⟨n, rfl, h1, HR⟩
    case round =>
      obtain ⟨k, rfl, hk, hx⟩ := hrel
      clear HR
      by_cases hlt : k < s.size
      · have d1 : decide ((k : Int) < (s.size : Int)) = true := decide_eq_true (by omega)
        have d1' : decide (k < s.size) = true := decide_eq_true hlt
        obtain ⟨F, hF, hx2⟩ := hx.out
        obtain ⟨F, rfl⟩ : ∃ G, F = G + 1 := ⟨F - 1, by omega⟩
        have hgt := commL_gt (show k < s.data.toList.length from hlt)
        rw [skipF_lt (show k < s.data.toList.length from hlt)] at hx2
        rw [btS hlt] at hx2 hgt
        have hle := commL_le (s := s.data.toList) (p := k) (by rw [lenS]; omega)
        have hjl := joinB_le (s := s.data.toList) (p := k)
        rw [lenS] at hle hjl
        have Hbla := Lib.hid (hbla.out k hlt)
        have Hcom := Lib.hid (hcom.out k hk)
        have Hjoi := Lib.hid (hjoi.out k hk)
        clear hx
        rcases hb : blankB (s[k]'hlt) with _ | _
        · rw [hb] at Hbla hx2
          rw [if_neg (by simp)] at hx2
          rcases h1 : (s[k]'hlt) == 35 with _ | _
          · have t1 : (((s[k]'hlt).toNat : Int) == 35) = false := u8b h1 rfl
            rw [h1] at hx2
            rw [if_neg (by simp)] at hx2
            rcases hj : joinB s.data.toList k with _ | _
            · rw [hj] at Hjoi hx2
              have hx3 : Hid (R = k) := Lib.hid (by rw [if_neg (by simp)] at hx2; exact hx2)
              clear hx2 h1 hb hj hgt
              go_wp2_with fail
              refine Hbla.out.mono ?_
              rintro e w7 ⟨rfl, rfl⟩
              go_wp2_with fail
              refine Hjoi.out.mono ?_
              rintro e w7 ⟨rfl, rfl⟩
              go_wp2_with fail
              go_ret
              exact ⟨by rw [hx3.out]; rfl, rfl⟩
            · have hk2 := hjl hj
              rw [hj] at Hjoi hx2
              rw [if_pos rfl] at hx2
              have hx3 : Hid (∃ F, s.size - (k + 2) < F ∧ R = skipF F s.data.toList (k + 2)) := Lib.hid ⟨F, by omega, hx2⟩
              clear hx2 h1 hb hj hgt
              go_wp2_with fail
              refine Hbla.out.mono ?_
              rintro e w7 ⟨rfl, rfl⟩
              go_wp2_with fail
              refine Hjoi.out.mono ?_
              rintro e w7 ⟨rfl, rfl⟩
              go_wp2_with fail
              go_round
              case rel => exact ⟨k + 2, by go_num, by omega, hx3⟩
              case measure => simp [intOf]; omega
          · have t1 : (((s[k]'hlt).toNat : Int) == 35) = true := u8b h1 rfl
            have hg := hgt h1
            rw [h1] at hx2
            rw [if_pos rfl] at hx2
            generalize commL s.data.toList k = m at *
            have hx3 : Hid (∃ F, s.size - m < F ∧ R = skipF F s.data.toList m) := Lib.hid ⟨F, by omega, hx2⟩
            clear hx2 h1 hb hgt
            go_wp2_with fail
            refine Hbla.out.mono ?_
            rintro e w7 ⟨rfl, rfl⟩
            go_wp2_with fail
            refine Hcom.out.mono ?_
            rintro e w7 ⟨rfl, rfl⟩
            go_wp2_with fail
            go_round
            case rel => exact ⟨m, rfl, hle, hx3⟩
            case measure => simp [intOf]; omega
        · rw [hb] at Hbla hx2
          rw [if_pos rfl] at hx2
          have hx3 : Hid (∃ F, s.size - (k + 1) < F ∧ R = skipF F s.data.toList (k + 1)) := Lib.hid ⟨F, by omega, hx2⟩
          clear hx2 hb hgt
          go_wp2_with fail
          refine Hbla.out.mono ?_
          rintro e w7 ⟨rfl, rfl⟩
          go_wp2_with fail
          go_round
          case rel => exact ⟨k + 1, by go_num, by omega, hx3⟩
          case measure => simp [intOf]; omega
      · have hks : k = s.size := by omega
        subst hks
        have d1 : decide ((s.size : Int) < (s.size : Int)) = false := decide_eq_false (by omega)
        have hx3 : Hid (R = s.size) := Lib.hid (by obtain ⟨F, hF, h⟩ := hx.out; rw [skipF_ge (by rw [lenS]; exact Nat.le_refl _)] at h; exact h)
        clear hx
        go_wp2_with fail
        go_ret
        exact ⟨by rw [hx3.out]; rfl, rfl⟩
def opsL : List (List UInt8) := [[38, 38], [124, 124], [59], [59, 59], [38], [124], [40], [41], [60], [62], [60, 60], [60, 60, 45], [62, 62], [60, 38], [62, 38], [60, 62], [62, 124], [10]]
def opS (s : List UInt8) : Bool := opsL.contains s
def resL : List (List UInt8) := [[33], [123], [125], [99, 97, 115, 101], [100, 111], [100, 111, 110, 101], [101, 108, 105, 102], [101, 108, 115, 101], [101, 115, 97, 99], [102, 105], [102, 111, 114], [105, 102], [105, 110], [116, 104, 101, 110], [117, 110, 116, 105, 108], [119, 104, 105, 108, 101]]
def resS (s : List UInt8) : Bool := resL.contains s
set_option maxHeartbeats 16000000 in
set_option maxRecDepth 100000 in
theorem Oper_c (s : ByteArray) (w : World) : Calls Tryz.prog 155 #[.string s] w fun e w' => e = .returned (.bool (opS s.data.toList)) ∧ w = w' := by
  rw [← ByteArray.toList_eq]
  rcases hr : opS s.toList with _ | _
  · unfold opS opsL at hr
    simp only [List.contains_cons, List.contains_nil, Bool.or_eq_false_iff, Bool.or_false] at hr
    obtain ⟨t0, t1, t2, t3, t4, t5, t6, t7, t8, t9, t10, t11, t12, t13, t14, t15, t16, t17⟩ := hr
    go_enter Tryz.func155, Tryz.ntmps155
    go_wp2_with fail
    go_ret
    exact ⟨rfl, rfl⟩
  · unfold opS opsL at hr
    rw [List.contains_iff_mem] at hr
    simp only [List.mem_cons, List.not_mem_nil, or_false] at hr
    rcases hr with h | h | h | h | h | h | h | h | h | h | h | h | h | h | h | h | h | h
    · have t0 : (s.toList == [38, 38]) = true := by rw [h]; rfl
      clear h
      go_enter Tryz.func155, Tryz.ntmps155
      go_wp2_with fail
      go_ret
      exact ⟨rfl, rfl⟩
    · have t0 : (s.toList == [38, 38]) = false := by rw [h]; rfl
      have t1 : (s.toList == [124, 124]) = true := by rw [h]; rfl
      clear h
      go_enter Tryz.func155, Tryz.ntmps155
      go_wp2_with fail
      go_ret
      exact ⟨rfl, rfl⟩
    · have t0 : (s.toList == [38, 38]) = false := by rw [h]; rfl
      have t1 : (s.toList == [124, 124]) = false := by rw [h]; rfl
      have t2 : (s.toList == [59]) = true := by rw [h]; rfl
      clear h
      go_enter Tryz.func155, Tryz.ntmps155
      go_wp2_with fail
      go_ret
      exact ⟨rfl, rfl⟩
    · have t0 : (s.toList == [38, 38]) = false := by rw [h]; rfl
      have t1 : (s.toList == [124, 124]) = false := by rw [h]; rfl
      have t2 : (s.toList == [59]) = false := by rw [h]; rfl
      have t3 : (s.toList == [59, 59]) = true := by rw [h]; rfl
      clear h
      go_enter Tryz.func155, Tryz.ntmps155
      go_wp2_with fail
      go_ret
      exact ⟨rfl, rfl⟩
    · have t0 : (s.toList == [38, 38]) = false := by rw [h]; rfl
      have t1 : (s.toList == [124, 124]) = false := by rw [h]; rfl
      have t2 : (s.toList == [59]) = false := by rw [h]; rfl
      have t3 : (s.toList == [59, 59]) = false := by rw [h]; rfl
      have t4 : (s.toList == [38]) = true := by rw [h]; rfl
      clear h
      go_enter Tryz.func155, Tryz.ntmps155
      go_wp2_with fail
      go_ret
      exact ⟨rfl, rfl⟩
    · have t0 : (s.toList == [38, 38]) = false := by rw [h]; rfl
      have t1 : (s.toList == [124, 124]) = false := by rw [h]; rfl
      have t2 : (s.toList == [59]) = false := by rw [h]; rfl
      have t3 : (s.toList == [59, 59]) = false := by rw [h]; rfl
      have t4 : (s.toList == [38]) = false := by rw [h]; rfl
      have t5 : (s.toList == [124]) = true := by rw [h]; rfl
      clear h
      go_enter Tryz.func155, Tryz.ntmps155
      go_wp2_with fail
      go_ret
      exact ⟨rfl, rfl⟩
    · have t0 : (s.toList == [38, 38]) = false := by rw [h]; rfl
      have t1 : (s.toList == [124, 124]) = false := by rw [h]; rfl
      have t2 : (s.toList == [59]) = false := by rw [h]; rfl
      have t3 : (s.toList == [59, 59]) = false := by rw [h]; rfl
      have t4 : (s.toList == [38]) = false := by rw [h]; rfl
      have t5 : (s.toList == [124]) = false := by rw [h]; rfl
      have t6 : (s.toList == [40]) = true := by rw [h]; rfl
      clear h
      go_enter Tryz.func155, Tryz.ntmps155
      go_wp2_with fail
      go_ret
      exact ⟨rfl, rfl⟩
    · have t0 : (s.toList == [38, 38]) = false := by rw [h]; rfl
      have t1 : (s.toList == [124, 124]) = false := by rw [h]; rfl
      have t2 : (s.toList == [59]) = false := by rw [h]; rfl
      have t3 : (s.toList == [59, 59]) = false := by rw [h]; rfl
      have t4 : (s.toList == [38]) = false := by rw [h]; rfl
      have t5 : (s.toList == [124]) = false := by rw [h]; rfl
      have t6 : (s.toList == [40]) = false := by rw [h]; rfl
      have t7 : (s.toList == [41]) = true := by rw [h]; rfl
      clear h
      go_enter Tryz.func155, Tryz.ntmps155
      go_wp2_with fail
      go_ret
      exact ⟨rfl, rfl⟩
    · have t0 : (s.toList == [38, 38]) = false := by rw [h]; rfl
      have t1 : (s.toList == [124, 124]) = false := by rw [h]; rfl
      have t2 : (s.toList == [59]) = false := by rw [h]; rfl
      have t3 : (s.toList == [59, 59]) = false := by rw [h]; rfl
      have t4 : (s.toList == [38]) = false := by rw [h]; rfl
      have t5 : (s.toList == [124]) = false := by rw [h]; rfl
      have t6 : (s.toList == [40]) = false := by rw [h]; rfl
      have t7 : (s.toList == [41]) = false := by rw [h]; rfl
      have t8 : (s.toList == [60]) = true := by rw [h]; rfl
      clear h
      go_enter Tryz.func155, Tryz.ntmps155
      go_wp2_with fail
      go_ret
      exact ⟨rfl, rfl⟩
    · have t0 : (s.toList == [38, 38]) = false := by rw [h]; rfl
      have t1 : (s.toList == [124, 124]) = false := by rw [h]; rfl
      have t2 : (s.toList == [59]) = false := by rw [h]; rfl
      have t3 : (s.toList == [59, 59]) = false := by rw [h]; rfl
      have t4 : (s.toList == [38]) = false := by rw [h]; rfl
      have t5 : (s.toList == [124]) = false := by rw [h]; rfl
      have t6 : (s.toList == [40]) = false := by rw [h]; rfl
      have t7 : (s.toList == [41]) = false := by rw [h]; rfl
      have t8 : (s.toList == [60]) = false := by rw [h]; rfl
      have t9 : (s.toList == [62]) = true := by rw [h]; rfl
      clear h
      go_enter Tryz.func155, Tryz.ntmps155
      go_wp2_with fail
      go_ret
      exact ⟨rfl, rfl⟩
    · have t0 : (s.toList == [38, 38]) = false := by rw [h]; rfl
      have t1 : (s.toList == [124, 124]) = false := by rw [h]; rfl
      have t2 : (s.toList == [59]) = false := by rw [h]; rfl
      have t3 : (s.toList == [59, 59]) = false := by rw [h]; rfl
      have t4 : (s.toList == [38]) = false := by rw [h]; rfl
      have t5 : (s.toList == [124]) = false := by rw [h]; rfl
      have t6 : (s.toList == [40]) = false := by rw [h]; rfl
      have t7 : (s.toList == [41]) = false := by rw [h]; rfl
      have t8 : (s.toList == [60]) = false := by rw [h]; rfl
      have t9 : (s.toList == [62]) = false := by rw [h]; rfl
      have t10 : (s.toList == [60, 60]) = true := by rw [h]; rfl
      clear h
      go_enter Tryz.func155, Tryz.ntmps155
      go_wp2_with fail
      go_ret
      exact ⟨rfl, rfl⟩
    · have t0 : (s.toList == [38, 38]) = false := by rw [h]; rfl
      have t1 : (s.toList == [124, 124]) = false := by rw [h]; rfl
      have t2 : (s.toList == [59]) = false := by rw [h]; rfl
      have t3 : (s.toList == [59, 59]) = false := by rw [h]; rfl
      have t4 : (s.toList == [38]) = false := by rw [h]; rfl
      have t5 : (s.toList == [124]) = false := by rw [h]; rfl
      have t6 : (s.toList == [40]) = false := by rw [h]; rfl
      have t7 : (s.toList == [41]) = false := by rw [h]; rfl
      have t8 : (s.toList == [60]) = false := by rw [h]; rfl
      have t9 : (s.toList == [62]) = false := by rw [h]; rfl
      have t10 : (s.toList == [60, 60]) = false := by rw [h]; rfl
      have t11 : (s.toList == [60, 60, 45]) = true := by rw [h]; rfl
      clear h
      go_enter Tryz.func155, Tryz.ntmps155
      go_wp2_with fail
      go_ret
      exact ⟨rfl, rfl⟩
    · have t0 : (s.toList == [38, 38]) = false := by rw [h]; rfl
      have t1 : (s.toList == [124, 124]) = false := by rw [h]; rfl
      have t2 : (s.toList == [59]) = false := by rw [h]; rfl
      have t3 : (s.toList == [59, 59]) = false := by rw [h]; rfl
      have t4 : (s.toList == [38]) = false := by rw [h]; rfl
      have t5 : (s.toList == [124]) = false := by rw [h]; rfl
      have t6 : (s.toList == [40]) = false := by rw [h]; rfl
      have t7 : (s.toList == [41]) = false := by rw [h]; rfl
      have t8 : (s.toList == [60]) = false := by rw [h]; rfl
      have t9 : (s.toList == [62]) = false := by rw [h]; rfl
      have t10 : (s.toList == [60, 60]) = false := by rw [h]; rfl
      have t11 : (s.toList == [60, 60, 45]) = false := by rw [h]; rfl
      have t12 : (s.toList == [62, 62]) = true := by rw [h]; rfl
      clear h
      go_enter Tryz.func155, Tryz.ntmps155
      go_wp2_with fail
      go_ret
      exact ⟨rfl, rfl⟩
    · have t0 : (s.toList == [38, 38]) = false := by rw [h]; rfl
      have t1 : (s.toList == [124, 124]) = false := by rw [h]; rfl
      have t2 : (s.toList == [59]) = false := by rw [h]; rfl
      have t3 : (s.toList == [59, 59]) = false := by rw [h]; rfl
      have t4 : (s.toList == [38]) = false := by rw [h]; rfl
      have t5 : (s.toList == [124]) = false := by rw [h]; rfl
      have t6 : (s.toList == [40]) = false := by rw [h]; rfl
      have t7 : (s.toList == [41]) = false := by rw [h]; rfl
      have t8 : (s.toList == [60]) = false := by rw [h]; rfl
      have t9 : (s.toList == [62]) = false := by rw [h]; rfl
      have t10 : (s.toList == [60, 60]) = false := by rw [h]; rfl
      have t11 : (s.toList == [60, 60, 45]) = false := by rw [h]; rfl
      have t12 : (s.toList == [62, 62]) = false := by rw [h]; rfl
      have t13 : (s.toList == [60, 38]) = true := by rw [h]; rfl
      clear h
      go_enter Tryz.func155, Tryz.ntmps155
      go_wp2_with fail
      go_ret
      exact ⟨rfl, rfl⟩
    · have t0 : (s.toList == [38, 38]) = false := by rw [h]; rfl
      have t1 : (s.toList == [124, 124]) = false := by rw [h]; rfl
      have t2 : (s.toList == [59]) = false := by rw [h]; rfl
      have t3 : (s.toList == [59, 59]) = false := by rw [h]; rfl
      have t4 : (s.toList == [38]) = false := by rw [h]; rfl
      have t5 : (s.toList == [124]) = false := by rw [h]; rfl
      have t6 : (s.toList == [40]) = false := by rw [h]; rfl
      have t7 : (s.toList == [41]) = false := by rw [h]; rfl
      have t8 : (s.toList == [60]) = false := by rw [h]; rfl
      have t9 : (s.toList == [62]) = false := by rw [h]; rfl
      have t10 : (s.toList == [60, 60]) = false := by rw [h]; rfl
      have t11 : (s.toList == [60, 60, 45]) = false := by rw [h]; rfl
      have t12 : (s.toList == [62, 62]) = false := by rw [h]; rfl
      have t13 : (s.toList == [60, 38]) = false := by rw [h]; rfl
      have t14 : (s.toList == [62, 38]) = true := by rw [h]; rfl
      clear h
      go_enter Tryz.func155, Tryz.ntmps155
      go_wp2_with fail
      go_ret
      exact ⟨rfl, rfl⟩
    · have t0 : (s.toList == [38, 38]) = false := by rw [h]; rfl
      have t1 : (s.toList == [124, 124]) = false := by rw [h]; rfl
      have t2 : (s.toList == [59]) = false := by rw [h]; rfl
      have t3 : (s.toList == [59, 59]) = false := by rw [h]; rfl
      have t4 : (s.toList == [38]) = false := by rw [h]; rfl
      have t5 : (s.toList == [124]) = false := by rw [h]; rfl
      have t6 : (s.toList == [40]) = false := by rw [h]; rfl
      have t7 : (s.toList == [41]) = false := by rw [h]; rfl
      have t8 : (s.toList == [60]) = false := by rw [h]; rfl
      have t9 : (s.toList == [62]) = false := by rw [h]; rfl
      have t10 : (s.toList == [60, 60]) = false := by rw [h]; rfl
      have t11 : (s.toList == [60, 60, 45]) = false := by rw [h]; rfl
      have t12 : (s.toList == [62, 62]) = false := by rw [h]; rfl
      have t13 : (s.toList == [60, 38]) = false := by rw [h]; rfl
      have t14 : (s.toList == [62, 38]) = false := by rw [h]; rfl
      have t15 : (s.toList == [60, 62]) = true := by rw [h]; rfl
      clear h
      go_enter Tryz.func155, Tryz.ntmps155
      go_wp2_with fail
      go_ret
      exact ⟨rfl, rfl⟩
    · have t0 : (s.toList == [38, 38]) = false := by rw [h]; rfl
      have t1 : (s.toList == [124, 124]) = false := by rw [h]; rfl
      have t2 : (s.toList == [59]) = false := by rw [h]; rfl
      have t3 : (s.toList == [59, 59]) = false := by rw [h]; rfl
      have t4 : (s.toList == [38]) = false := by rw [h]; rfl
      have t5 : (s.toList == [124]) = false := by rw [h]; rfl
      have t6 : (s.toList == [40]) = false := by rw [h]; rfl
      have t7 : (s.toList == [41]) = false := by rw [h]; rfl
      have t8 : (s.toList == [60]) = false := by rw [h]; rfl
      have t9 : (s.toList == [62]) = false := by rw [h]; rfl
      have t10 : (s.toList == [60, 60]) = false := by rw [h]; rfl
      have t11 : (s.toList == [60, 60, 45]) = false := by rw [h]; rfl
      have t12 : (s.toList == [62, 62]) = false := by rw [h]; rfl
      have t13 : (s.toList == [60, 38]) = false := by rw [h]; rfl
      have t14 : (s.toList == [62, 38]) = false := by rw [h]; rfl
      have t15 : (s.toList == [60, 62]) = false := by rw [h]; rfl
      have t16 : (s.toList == [62, 124]) = true := by rw [h]; rfl
      clear h
      go_enter Tryz.func155, Tryz.ntmps155
      go_wp2_with fail
      go_ret
      exact ⟨rfl, rfl⟩
    · have t0 : (s.toList == [38, 38]) = false := by rw [h]; rfl
      have t1 : (s.toList == [124, 124]) = false := by rw [h]; rfl
      have t2 : (s.toList == [59]) = false := by rw [h]; rfl
      have t3 : (s.toList == [59, 59]) = false := by rw [h]; rfl
      have t4 : (s.toList == [38]) = false := by rw [h]; rfl
      have t5 : (s.toList == [124]) = false := by rw [h]; rfl
      have t6 : (s.toList == [40]) = false := by rw [h]; rfl
      have t7 : (s.toList == [41]) = false := by rw [h]; rfl
      have t8 : (s.toList == [60]) = false := by rw [h]; rfl
      have t9 : (s.toList == [62]) = false := by rw [h]; rfl
      have t10 : (s.toList == [60, 60]) = false := by rw [h]; rfl
      have t11 : (s.toList == [60, 60, 45]) = false := by rw [h]; rfl
      have t12 : (s.toList == [62, 62]) = false := by rw [h]; rfl
      have t13 : (s.toList == [60, 38]) = false := by rw [h]; rfl
      have t14 : (s.toList == [62, 38]) = false := by rw [h]; rfl
      have t15 : (s.toList == [60, 62]) = false := by rw [h]; rfl
      have t16 : (s.toList == [62, 124]) = false := by rw [h]; rfl
      have t17 : (s.toList == [10]) = true := by rw [h]; rfl
      clear h
      go_enter Tryz.func155, Tryz.ntmps155
      go_wp2_with fail
      go_ret
      exact ⟨rfl, rfl⟩
set_option maxHeartbeats 16000000 in
set_option maxRecDepth 100000 in
theorem Rese_c (s : ByteArray) (w : World) : Calls Tryz.prog 66 #[.string s] w fun e w' => e = .returned (.bool (resS s.data.toList)) ∧ w = w' := by
  rw [← ByteArray.toList_eq]
  rcases hr : resS s.toList with _ | _
  · unfold resS resL at hr
    simp only [List.contains_cons, List.contains_nil, Bool.or_eq_false_iff, Bool.or_false] at hr
    obtain ⟨t0, t1, t2, t3, t4, t5, t6, t7, t8, t9, t10, t11, t12, t13, t14, t15⟩ := hr
    go_enter Tryz.func66, Tryz.ntmps66
    go_wp2_with fail
    go_ret
    exact ⟨rfl, rfl⟩
  · unfold resS resL at hr
    rw [List.contains_iff_mem] at hr
    simp only [List.mem_cons, List.not_mem_nil, or_false] at hr
    rcases hr with h | h | h | h | h | h | h | h | h | h | h | h | h | h | h | h
    · have t0 : (s.toList == [33]) = true := by rw [h]; rfl
      clear h
      go_enter Tryz.func66, Tryz.ntmps66
      go_wp2_with fail
      go_ret
      exact ⟨rfl, rfl⟩
    · have t0 : (s.toList == [33]) = false := by rw [h]; rfl
      have t1 : (s.toList == [123]) = true := by rw [h]; rfl
      clear h
      go_enter Tryz.func66, Tryz.ntmps66
      go_wp2_with fail
      go_ret
      exact ⟨rfl, rfl⟩
    · have t0 : (s.toList == [33]) = false := by rw [h]; rfl
      have t1 : (s.toList == [123]) = false := by rw [h]; rfl
      have t2 : (s.toList == [125]) = true := by rw [h]; rfl
      clear h
      go_enter Tryz.func66, Tryz.ntmps66
      go_wp2_with fail
      go_ret
      exact ⟨rfl, rfl⟩
    · have t0 : (s.toList == [33]) = false := by rw [h]; rfl
      have t1 : (s.toList == [123]) = false := by rw [h]; rfl
      have t2 : (s.toList == [125]) = false := by rw [h]; rfl
      have t3 : (s.toList == [99, 97, 115, 101]) = true := by rw [h]; rfl
      clear h
      go_enter Tryz.func66, Tryz.ntmps66
      go_wp2_with fail
      go_ret
      exact ⟨rfl, rfl⟩
    · have t0 : (s.toList == [33]) = false := by rw [h]; rfl
      have t1 : (s.toList == [123]) = false := by rw [h]; rfl
      have t2 : (s.toList == [125]) = false := by rw [h]; rfl
      have t3 : (s.toList == [99, 97, 115, 101]) = false := by rw [h]; rfl
      have t4 : (s.toList == [100, 111]) = true := by rw [h]; rfl
      clear h
      go_enter Tryz.func66, Tryz.ntmps66
      go_wp2_with fail
      go_ret
      exact ⟨rfl, rfl⟩
    · have t0 : (s.toList == [33]) = false := by rw [h]; rfl
      have t1 : (s.toList == [123]) = false := by rw [h]; rfl
      have t2 : (s.toList == [125]) = false := by rw [h]; rfl
      have t3 : (s.toList == [99, 97, 115, 101]) = false := by rw [h]; rfl
      have t4 : (s.toList == [100, 111]) = false := by rw [h]; rfl
      have t5 : (s.toList == [100, 111, 110, 101]) = true := by rw [h]; rfl
      clear h
      go_enter Tryz.func66, Tryz.ntmps66
      go_wp2_with fail
      go_ret
      exact ⟨rfl, rfl⟩
    · have t0 : (s.toList == [33]) = false := by rw [h]; rfl
      have t1 : (s.toList == [123]) = false := by rw [h]; rfl
      have t2 : (s.toList == [125]) = false := by rw [h]; rfl
      have t3 : (s.toList == [99, 97, 115, 101]) = false := by rw [h]; rfl
      have t4 : (s.toList == [100, 111]) = false := by rw [h]; rfl
      have t5 : (s.toList == [100, 111, 110, 101]) = false := by rw [h]; rfl
      have t6 : (s.toList == [101, 108, 105, 102]) = true := by rw [h]; rfl
      clear h
      go_enter Tryz.func66, Tryz.ntmps66
      go_wp2_with fail
      go_ret
      exact ⟨rfl, rfl⟩
    · have t0 : (s.toList == [33]) = false := by rw [h]; rfl
      have t1 : (s.toList == [123]) = false := by rw [h]; rfl
      have t2 : (s.toList == [125]) = false := by rw [h]; rfl
      have t3 : (s.toList == [99, 97, 115, 101]) = false := by rw [h]; rfl
      have t4 : (s.toList == [100, 111]) = false := by rw [h]; rfl
      have t5 : (s.toList == [100, 111, 110, 101]) = false := by rw [h]; rfl
      have t6 : (s.toList == [101, 108, 105, 102]) = false := by rw [h]; rfl
      have t7 : (s.toList == [101, 108, 115, 101]) = true := by rw [h]; rfl
      clear h
      go_enter Tryz.func66, Tryz.ntmps66
      go_wp2_with fail
      go_ret
      exact ⟨rfl, rfl⟩
    · have t0 : (s.toList == [33]) = false := by rw [h]; rfl
      have t1 : (s.toList == [123]) = false := by rw [h]; rfl
      have t2 : (s.toList == [125]) = false := by rw [h]; rfl
      have t3 : (s.toList == [99, 97, 115, 101]) = false := by rw [h]; rfl
      have t4 : (s.toList == [100, 111]) = false := by rw [h]; rfl
      have t5 : (s.toList == [100, 111, 110, 101]) = false := by rw [h]; rfl
      have t6 : (s.toList == [101, 108, 105, 102]) = false := by rw [h]; rfl
      have t7 : (s.toList == [101, 108, 115, 101]) = false := by rw [h]; rfl
      have t8 : (s.toList == [101, 115, 97, 99]) = true := by rw [h]; rfl
      clear h
      go_enter Tryz.func66, Tryz.ntmps66
      go_wp2_with fail
      go_ret
      exact ⟨rfl, rfl⟩
    · have t0 : (s.toList == [33]) = false := by rw [h]; rfl
      have t1 : (s.toList == [123]) = false := by rw [h]; rfl
      have t2 : (s.toList == [125]) = false := by rw [h]; rfl
      have t3 : (s.toList == [99, 97, 115, 101]) = false := by rw [h]; rfl
      have t4 : (s.toList == [100, 111]) = false := by rw [h]; rfl
      have t5 : (s.toList == [100, 111, 110, 101]) = false := by rw [h]; rfl
      have t6 : (s.toList == [101, 108, 105, 102]) = false := by rw [h]; rfl
      have t7 : (s.toList == [101, 108, 115, 101]) = false := by rw [h]; rfl
      have t8 : (s.toList == [101, 115, 97, 99]) = false := by rw [h]; rfl
      have t9 : (s.toList == [102, 105]) = true := by rw [h]; rfl
      clear h
      go_enter Tryz.func66, Tryz.ntmps66
      go_wp2_with fail
      go_ret
      exact ⟨rfl, rfl⟩
    · have t0 : (s.toList == [33]) = false := by rw [h]; rfl
      have t1 : (s.toList == [123]) = false := by rw [h]; rfl
      have t2 : (s.toList == [125]) = false := by rw [h]; rfl
      have t3 : (s.toList == [99, 97, 115, 101]) = false := by rw [h]; rfl
      have t4 : (s.toList == [100, 111]) = false := by rw [h]; rfl
      have t5 : (s.toList == [100, 111, 110, 101]) = false := by rw [h]; rfl
      have t6 : (s.toList == [101, 108, 105, 102]) = false := by rw [h]; rfl
      have t7 : (s.toList == [101, 108, 115, 101]) = false := by rw [h]; rfl
      have t8 : (s.toList == [101, 115, 97, 99]) = false := by rw [h]; rfl
      have t9 : (s.toList == [102, 105]) = false := by rw [h]; rfl
      have t10 : (s.toList == [102, 111, 114]) = true := by rw [h]; rfl
      clear h
      go_enter Tryz.func66, Tryz.ntmps66
      go_wp2_with fail
      go_ret
      exact ⟨rfl, rfl⟩
    · have t0 : (s.toList == [33]) = false := by rw [h]; rfl
      have t1 : (s.toList == [123]) = false := by rw [h]; rfl
      have t2 : (s.toList == [125]) = false := by rw [h]; rfl
      have t3 : (s.toList == [99, 97, 115, 101]) = false := by rw [h]; rfl
      have t4 : (s.toList == [100, 111]) = false := by rw [h]; rfl
      have t5 : (s.toList == [100, 111, 110, 101]) = false := by rw [h]; rfl
      have t6 : (s.toList == [101, 108, 105, 102]) = false := by rw [h]; rfl
      have t7 : (s.toList == [101, 108, 115, 101]) = false := by rw [h]; rfl
      have t8 : (s.toList == [101, 115, 97, 99]) = false := by rw [h]; rfl
      have t9 : (s.toList == [102, 105]) = false := by rw [h]; rfl
      have t10 : (s.toList == [102, 111, 114]) = false := by rw [h]; rfl
      have t11 : (s.toList == [105, 102]) = true := by rw [h]; rfl
      clear h
      go_enter Tryz.func66, Tryz.ntmps66
      go_wp2_with fail
      go_ret
      exact ⟨rfl, rfl⟩
    · have t0 : (s.toList == [33]) = false := by rw [h]; rfl
      have t1 : (s.toList == [123]) = false := by rw [h]; rfl
      have t2 : (s.toList == [125]) = false := by rw [h]; rfl
      have t3 : (s.toList == [99, 97, 115, 101]) = false := by rw [h]; rfl
      have t4 : (s.toList == [100, 111]) = false := by rw [h]; rfl
      have t5 : (s.toList == [100, 111, 110, 101]) = false := by rw [h]; rfl
      have t6 : (s.toList == [101, 108, 105, 102]) = false := by rw [h]; rfl
      have t7 : (s.toList == [101, 108, 115, 101]) = false := by rw [h]; rfl
      have t8 : (s.toList == [101, 115, 97, 99]) = false := by rw [h]; rfl
      have t9 : (s.toList == [102, 105]) = false := by rw [h]; rfl
      have t10 : (s.toList == [102, 111, 114]) = false := by rw [h]; rfl
      have t11 : (s.toList == [105, 102]) = false := by rw [h]; rfl
      have t12 : (s.toList == [105, 110]) = true := by rw [h]; rfl
      clear h
      go_enter Tryz.func66, Tryz.ntmps66
      go_wp2_with fail
      go_ret
      exact ⟨rfl, rfl⟩
    · have t0 : (s.toList == [33]) = false := by rw [h]; rfl
      have t1 : (s.toList == [123]) = false := by rw [h]; rfl
      have t2 : (s.toList == [125]) = false := by rw [h]; rfl
      have t3 : (s.toList == [99, 97, 115, 101]) = false := by rw [h]; rfl
      have t4 : (s.toList == [100, 111]) = false := by rw [h]; rfl
      have t5 : (s.toList == [100, 111, 110, 101]) = false := by rw [h]; rfl
      have t6 : (s.toList == [101, 108, 105, 102]) = false := by rw [h]; rfl
      have t7 : (s.toList == [101, 108, 115, 101]) = false := by rw [h]; rfl
      have t8 : (s.toList == [101, 115, 97, 99]) = false := by rw [h]; rfl
      have t9 : (s.toList == [102, 105]) = false := by rw [h]; rfl
      have t10 : (s.toList == [102, 111, 114]) = false := by rw [h]; rfl
      have t11 : (s.toList == [105, 102]) = false := by rw [h]; rfl
      have t12 : (s.toList == [105, 110]) = false := by rw [h]; rfl
      have t13 : (s.toList == [116, 104, 101, 110]) = true := by rw [h]; rfl
      clear h
      go_enter Tryz.func66, Tryz.ntmps66
      go_wp2_with fail
      go_ret
      exact ⟨rfl, rfl⟩
    · have t0 : (s.toList == [33]) = false := by rw [h]; rfl
      have t1 : (s.toList == [123]) = false := by rw [h]; rfl
      have t2 : (s.toList == [125]) = false := by rw [h]; rfl
      have t3 : (s.toList == [99, 97, 115, 101]) = false := by rw [h]; rfl
      have t4 : (s.toList == [100, 111]) = false := by rw [h]; rfl
      have t5 : (s.toList == [100, 111, 110, 101]) = false := by rw [h]; rfl
      have t6 : (s.toList == [101, 108, 105, 102]) = false := by rw [h]; rfl
      have t7 : (s.toList == [101, 108, 115, 101]) = false := by rw [h]; rfl
      have t8 : (s.toList == [101, 115, 97, 99]) = false := by rw [h]; rfl
      have t9 : (s.toList == [102, 105]) = false := by rw [h]; rfl
      have t10 : (s.toList == [102, 111, 114]) = false := by rw [h]; rfl
      have t11 : (s.toList == [105, 102]) = false := by rw [h]; rfl
      have t12 : (s.toList == [105, 110]) = false := by rw [h]; rfl
      have t13 : (s.toList == [116, 104, 101, 110]) = false := by rw [h]; rfl
      have t14 : (s.toList == [117, 110, 116, 105, 108]) = true := by rw [h]; rfl
      clear h
      go_enter Tryz.func66, Tryz.ntmps66
      go_wp2_with fail
      go_ret
      exact ⟨rfl, rfl⟩
    · have t0 : (s.toList == [33]) = false := by rw [h]; rfl
      have t1 : (s.toList == [123]) = false := by rw [h]; rfl
      have t2 : (s.toList == [125]) = false := by rw [h]; rfl
      have t3 : (s.toList == [99, 97, 115, 101]) = false := by rw [h]; rfl
      have t4 : (s.toList == [100, 111]) = false := by rw [h]; rfl
      have t5 : (s.toList == [100, 111, 110, 101]) = false := by rw [h]; rfl
      have t6 : (s.toList == [101, 108, 105, 102]) = false := by rw [h]; rfl
      have t7 : (s.toList == [101, 108, 115, 101]) = false := by rw [h]; rfl
      have t8 : (s.toList == [101, 115, 97, 99]) = false := by rw [h]; rfl
      have t9 : (s.toList == [102, 105]) = false := by rw [h]; rfl
      have t10 : (s.toList == [102, 111, 114]) = false := by rw [h]; rfl
      have t11 : (s.toList == [105, 102]) = false := by rw [h]; rfl
      have t12 : (s.toList == [105, 110]) = false := by rw [h]; rfl
      have t13 : (s.toList == [116, 104, 101, 110]) = false := by rw [h]; rfl
      have t14 : (s.toList == [117, 110, 116, 105, 108]) = false := by rw [h]; rfl
      have t15 : (s.toList == [119, 104, 105, 108, 101]) = true := by rw [h]; rfl
      clear h
      go_enter Tryz.func66, Tryz.ntmps66
      go_wp2_with fail
      go_ret
      exact ⟨rfl, rfl⟩
end Go.Proofs.YticehbhedoploaaGreatDoor
