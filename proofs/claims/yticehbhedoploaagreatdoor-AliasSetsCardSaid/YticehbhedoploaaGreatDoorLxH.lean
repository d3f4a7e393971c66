/- lexer: Close, the sizes of operators, the ends of tokens, their kinds. -/
import Derived.Test.YticehbhedoploaaGreatDoorLxG
namespace Go.Proofs.YticehbhedoploaaGreatDoor
open Go.RowKit
set_option linter.unusedVariables false

/-- Does a text begin with a quoted string or an expansion? -/
def begB (s : List UInt8) (p : Nat) : Bool :=
  if bt s p == 92 || bt s p == 39 || bt s p == 34 || bt s p == 96 then true else
  if bt s p == 36 then ((decide (p + 1 < s.length) && bt s (p + 1) == 123) || (decide (p + 1 < s.length) && bt s (p + 1) == 40)) || decide (0 < paramL (s.drop (p + 1))) else false
set_option maxHeartbeats 8000000 in
set_option maxRecDepth 100000 in
theorem begins_c (s : ByteArray) (p : Nat) (w : World) (hs : s.size ≤ 140737488355328) (hp : p < s.size) :
    Calls Tryz.prog 273 #[.string (s.extract p s.size)] w fun e w' => e = .returned (.bool (begB s.data.toList p)) ∧ w = w' := by
  obtain ⟨x, hx⟩ : ∃ x : ByteArray, x = s.extract p s.size := ⟨_, rfl⟩
  have hxd : x.data.toList = s.data.toList.drop p := by rw [hx, dropS]
  have hxs : x.size = s.size - p := by rw [← lenS x, hxd, List.length_drop, lenS]
  have h0 : 0 < x.size := by omega
  have hb : bt s.data.toList p = x[0]'h0 := by
    rw [← btS h0, hxd]
    unfold bt
    rw [List.getD_eq_getElem?_getD, List.getD_eq_getElem?_getD, List.getElem?_drop]
    rfl
  have p1 := Tryz.strings_HasPrefix (x.extract 1 x.size) ⟨#[123]⟩ w
  have p3 := Tryz.strings_HasPrefix (x.extract 1 x.size) ⟨#[40]⟩ w
  have pr := param_c (x.extract 1 x.size) w (by simp; omega)
  rw [dropS, hxd, List.drop_drop] at p1 p3 pr
  rw [pre1] at p1 p3
  unfold begB
  rw [hb]
  rw [← hx]
  have i1 : (1 : Int) ≤ (x.size : Int) := by omega
  have i2 : x.size ≤ 140737488355328 := by omega
  clear hx hxd hb hxs hp hs
  rcases h1 : (x[0]'h0) == 92 with _ | _
  · have t1 : (((x[0]'h0).toNat : Int) == 92) = false := u8b h1 rfl
    rcases h2 : (x[0]'h0) == 39 with _ | _
    · have t2 : (((x[0]'h0).toNat : Int) == 39) = false := u8b h2 rfl
      rcases h3 : (x[0]'h0) == 34 with _ | _
      · have t3 : (((x[0]'h0).toNat : Int) == 34) = false := u8b h3 rfl
        rcases h4 : (x[0]'h0) == 96 with _ | _
        · have t4 : (((x[0]'h0).toNat : Int) == 96) = false := u8b h4 rfl
          rw [if_neg (by simp)]
          rcases h5 : (x[0]'h0) == 36 with _ | _
          · have t5 : (((x[0]'h0).toNat : Int) == 36) = false := u8b h5 rfl
            rw [if_neg (by simp)]
            clear p1 p3 pr h1 h2 h3 h4 h5
            go_enter Tryz.func273, Tryz.ntmps273
            go_wp2_with fail
            go_ret
            exact ⟨rfl, rfl⟩
          · have t5 : (((x[0]'h0).toNat : Int) == 36) = true := u8b h5 rfl
            rw [if_pos rfl]
            generalize hm : paramL (s.data.toList.drop (p + 1)) = m at *
            clear h1 h2 h3 h4 h5 hm
            rcases g1 : (decide (p + 1 < s.data.toList.length) && bt s.data.toList (p + 1) == 123) with _ | _
            · rw [g1] at p1
              have P1 := Lib.hid p1
              rcases g2 : (decide (p + 1 < s.data.toList.length) && bt s.data.toList (p + 1) == 40) with _ | _
              · rw [g2] at p3
                have P3 := Lib.hid p3
                have Pr := Lib.hid pr
                clear p1 p3 pr g1 g2
                rw [Bool.false_or, Bool.false_or]
                obtain ⟨B, hB⟩ : ∃ B, B = decide (0 < m) := ⟨_, rfl⟩
                rw [← hB]
                have tm : decide ((0 : Int) < (m : Int)) = B := by rw [hB, Bool.eq_iff_iff, decide_eq_true_eq, decide_eq_true_eq]; omega
                have tm' : decide (0 < m) = B := hB.symm
                clear hB
                go_enter Tryz.func273, Tryz.ntmps273
                go_wp2_with fail
                refine P1.out.mono ?_
                rintro e w7 ⟨rfl, rfl⟩
                go_wp2_with fail
                refine P3.out.mono ?_
                rintro e w7 ⟨rfl, rfl⟩
                go_wp2_with fail
                refine Pr.out.mono ?_
                rintro e w7 ⟨rfl, rfl⟩
                go_wp2_with fail
                go_ret
                exact ⟨rfl, rfl⟩
              · rw [g2] at p3
                have P3 := Lib.hid p3
                clear p1 p3 pr g1 g2
                go_enter Tryz.func273, Tryz.ntmps273
                go_wp2_with fail
                refine P1.out.mono ?_
                rintro e w7 ⟨rfl, rfl⟩
                go_wp2_with fail
                refine P3.out.mono ?_
                rintro e w7 ⟨rfl, rfl⟩
                go_wp2_with fail
                go_ret
                exact ⟨rfl, rfl⟩
            · rw [g1] at p1
              have P1 := Lib.hid p1
              clear p1 p3 pr g1
              go_enter Tryz.func273, Tryz.ntmps273
              go_wp2_with fail
              refine P1.out.mono ?_
              rintro e w7 ⟨rfl, rfl⟩
              go_wp2_with fail
              go_ret
              exact ⟨rfl, rfl⟩
        · have t4 : (((x[0]'h0).toNat : Int) == 96) = true := u8b h4 rfl
          rw [if_pos (by simp)]
          clear p1 p3 pr h1 h2 h3 h4
          go_enter Tryz.func273, Tryz.ntmps273
          go_wp2_with fail
          go_ret
          exact ⟨rfl, rfl⟩
      · have t3 : (((x[0]'h0).toNat : Int) == 34) = true := u8b h3 rfl
        rw [if_pos (by simp)]
        clear p1 p3 pr h1 h2 h3
        go_enter Tryz.func273, Tryz.ntmps273
        go_wp2_with fail
        go_ret
        exact ⟨rfl, rfl⟩
    · have t2 : (((x[0]'h0).toNat : Int) == 39) = true := u8b h2 rfl
      rw [if_pos (by simp)]
      clear p1 p3 pr h1 h2
      go_enter Tryz.func273, Tryz.ntmps273
      go_wp2_with fail
      go_ret
      exact ⟨rfl, rfl⟩
  · have t1 : (((x[0]'h0).toNat : Int) == 92) = true := u8b h1 rfl
    rw [if_pos (by simp)]
    clear p1 p3 pr h1
    go_enter Tryz.func273, Tryz.ntmps273
    go_wp2_with fail
    go_ret
    exact ⟨rfl, rfl⟩
/-- Close at any offset. -/
def closL (s : List UInt8) (a : Int) : Nat × Nat := if 16384 < s.length then (0, 3) else if a < 0 ∨ (s.length : Int) ≤ a ∨ begB s a.toNat = false then (0, 1) else pasL s a.toNat 0
set_option maxHeartbeats 8000000 in
set_option maxRecDepth 100000 in
theorem Close_c (s : ByteArray) (a : Int) (w : World) (hs : s.size ≤ 140737488355328) (ha : -9223372036854775808 ≤ a ∧ a ≤ 9223372036854775807) :
    Calls Tryz.prog 260 #[.string s, .int .i64 a] w (Gv w (closL s.data.toList a)) := by
  unfold closL
  rw [lenS]
  obtain ⟨ha1, ha2⟩ := ha
  by_cases h1 : 16384 < s.size
  · rw [if_pos h1]
    have t1 : decide ((16384 : Int) < (s.size : Int)) = true := decide_eq_true (by omega)
    have t1' : decide (16384 < s.size) = true := decide_eq_true h1
    go_enter Tryz.func260, Tryz.ntmps260
    go_wp2_with fail
    go_ret2
    exact ⟨rfl, rfl⟩
  rw [if_neg h1]
  have t1 : decide ((16384 : Int) < (s.size : Int)) = false := decide_eq_false (by omega)
  have t1' : decide (16384 < s.size) = false := decide_eq_false h1
  by_cases h2 : a < 0
  · rw [if_pos (.inl h2)]
    have t2 : decide (a < (0 : Int)) = true := decide_eq_true h2
    go_enter Tryz.func260, Tryz.ntmps260
    go_wp2_with fail
    go_ret2
    exact ⟨rfl, rfl⟩
  have t2 : decide (a < (0 : Int)) = false := decide_eq_false h2
  by_cases h3 : (s.size : Int) ≤ a
  · rw [if_pos (.inr (.inl h3))]
    have t3 : decide ((s.size : Int) ≤ a) = true := decide_eq_true h3
    go_enter Tryz.func260, Tryz.ntmps260
    go_wp2_with fail
    go_ret2
    exact ⟨rfl, rfl⟩
  obtain ⟨p, rfl⟩ : ∃ p : Nat, a = p := ⟨a.toNat, by omega⟩
  rw [Int.toNat_natCast]
  have hp : p < s.size := by omega
  have t3 : decide ((s.size : Int) ≤ (p : Int)) = false := decide_eq_false h3
  have t3' : decide (s.size ≤ p) = false := decide_eq_false (by omega)
  have hb := begins_c s p w hs hp
  have Hc := Lib.hid (skip_c s p 0 w hs hp (by omega))
  generalize pasL s.data.toList p 0 = r at *
  rcases h4 : begB s.data.toList p with _ | _
  · rw [h4] at hb
    have Hb := Lib.hid hb
    rw [if_pos (.inr (.inr rfl))]
    clear hb h4 h1
    go_enter Tryz.func260, Tryz.ntmps260
    go_wp2_with fail
    refine Hb.out.mono ?_
    rintro e w7 ⟨rfl, rfl⟩
    go_wp2_with fail
    go_ret2
    exact ⟨rfl, rfl⟩
  · rw [h4] at hb
    have Hb := Lib.hid hb
    rw [if_neg (by rintro (h | h | h); exact h2 h; exact h3 h; simp at h)]
    clear hb h4 h1
    go_enter Tryz.func260, Tryz.ntmps260
    go_wp2_with fail
    refine Hb.out.mono ?_
    rintro e w7 ⟨rfl, rfl⟩
    go_wp2_with fail
    refine Hc.out.mono ?_
    rintro e w7 ⟨rfl, rfl⟩
    go_wp2_with fail
    go_ret2
    exact ⟨rfl, rfl⟩
/-- The size of the longest operator that a text begins with, among the first so many bytes. -/
def opsF (s : List UInt8) : Nat → Nat
  | 0 => 0
  | m + 1 => if opS (s.take (m + 1)) = true then m + 1 else opsF s m
def opsz (s : List UInt8) : Nat := opsF s (min 3 s.length)
theorem opsF_le (s : List UInt8) : ∀ m, opsF s m ≤ m
  | 0 => Nat.le_refl _
  | m + 1 => by unfold opsF; split; exact Nat.le_refl _; have := opsF_le s m; omega
theorem opsz_le (s : List UInt8) : opsz s ≤ s.length := by unfold opsz; have := opsF_le s (min 3 s.length); omega
theorem takeS (s : ByteArray) (a : Nat) : (s.extract 0 a).data.toList = s.data.toList.take a := by
  rw [Lib.extract_data, List.drop_zero, Nat.sub_zero]
set_option maxHeartbeats 8000000 in
set_option maxRecDepth 100000 in
theorem opsz_c (s : ByteArray) (w : World) (hs : s.size ≤ 140737488355328) : Calls Tryz.prog 152 #[.string s] w fun e w' => e = .returned (.int .i64 (opsz s.data.toList : Nat)) ∧ w = w' := by
  obtain ⟨R, hR⟩ : ∃ R : Nat, R = opsz s.data.toList := ⟨_, rfl⟩
  rw [← hR]
  obtain ⟨n, hn⟩ : ∃ n : Nat, n = min 3 s.size := ⟨_, rfl⟩
  have HR : Hid (R = opsF s.data.toList n) := Lib.hid (by rw [hR, hn]; rfl)
  clear hR
  have hn1 : n ≤ 3 ∧ n ≤ s.size := by omega
  obtain ⟨hn1, hn2⟩ := hn1
  have m1 : min (3 : Int) (s.size : Int) = (n : Int) := by omega
  have hope := Lib.hid (fun (m : Nat) => Oper_c (s.extract 0 m) w)
  clear hn
  go_enter Tryz.func152, Tryz.ntmps152
  go_wp2_with fail
  go_loop [3] (fun kv => ∃ m : Nat, kv = .int .i64 m ∧ m ≤ 3 ∧ m ≤ s.size ∧ Hid (R = opsF s.data.toList m)) (fun kv => (intOf kv).toNat)
  case atStart => exact ⟨n, rfl, hn1, hn2, HR⟩
  case round =>
    obtain ⟨m, rfl, hm1, hm2, hx⟩ := hrel
    clear HR
    by_cases h0 : m = 0
    · subst h0
      have hx3 : Hid (R = 0) := Lib.hid hx.out
      clear hx
      go_wp2_with fail
      go_ret
      exact ⟨by rw [hx3.out]; rfl, rfl⟩
    · obtain ⟨q, hq⟩ : ∃ q, m = q + 1 := ⟨m - 1, by omega⟩
      have hx2 := hx.out
      have ho := hope.out m
      rw [takeS] at ho
      have e : opsF s.data.toList m = if opS (s.data.toList.take m) = true then m else opsF s.data.toList q := by rw [hq]; rfl
      rw [e] at hx2
      have Hq := Lib.hid hq
      have hqm : q < m := by omega
      clear e hx hq
      have d1 : decide ((0 : Int) < (m : Int)) = true := decide_eq_true (by omega)
      have d1' : decide (0 < m) = true := decide_eq_true (by omega)
      rcases hb : opS (s.data.toList.take m) with _ | _
      · rw [hb] at hx2 ho
        have Ho := Lib.hid ho
        have hx3 : Hid (R = opsF s.data.toList q) := Lib.hid (by rw [if_neg (by simp)] at hx2; exact hx2)
        clear hx2 ho hb
        go_wp2_with fail
        refine Ho.out.mono ?_
        rintro e w7 ⟨rfl, rfl⟩
        go_wp2_with fail
        go_round
        case rel => exact ⟨q, congrArg (Value.int .i64) (by have := Hq.out; omega), by omega, by omega, hx3⟩
        case measure => simp [intOf]; omega
      · rw [hb] at hx2 ho
        have Ho := Lib.hid ho
        have hx3 : Hid (R = m) := Lib.hid (by rw [if_pos rfl] at hx2; exact hx2)
        clear hx2 ho hb
        go_wp2_with fail
        refine Ho.out.mono ?_
        rintro e w7 ⟨rfl, rfl⟩
        go_wp2_with fail
        go_ret
        exact ⟨by rw [hx3.out]; rfl, rfl⟩
/-- The end of a word. -/
def wordF : Nat → List UInt8 → Nat → Nat × Nat
  | 0, _, p => (p, 0)
  | F + 1, s, p => if s.length ≤ p then (p, 0) else if borderB (bt s p) = true then (p, 0) else
    match pasL s p 0 with
    | (n, 0) => wordF F s n
    | (n, e + 1) => (n, e + 1)
theorem wordF_ge {s : List UInt8} {p F : Nat} (h : s.length ≤ p) : wordF F s p = (p, 0) := by
  cases F with
  | zero => rfl
  | succ F => unfold wordF; rw [if_pos h]
theorem wordF_lt {s : List UInt8} {p F : Nat} (h : p < s.length) : wordF (F + 1) s p = if borderB (bt s p) = true then (p, 0) else match pasL s p 0 with
    | (n, 0) => wordF F s n
    | (n, e + 1) => (n, e + 1) := by
  rw [wordF, if_neg (by omega)]
theorem wordF_in {s : List UInt8} : ∀ (F p : Nat), p ≤ s.length → (wordF F s p).1 ≤ s.length ∧ ((wordF F s p).2 = 0 → p ≤ (wordF F s p).1) ∧ ((wordF F s p).2 = 0 ∨ (wordF F s p).2 = 6 ∨ (wordF F s p).2 = 7)
  | 0, p, h => ⟨h, fun _ => Nat.le_refl _, .inl rfl⟩
  | F + 1, p, h => by
    by_cases hl : s.length ≤ p
    · rw [wordF_ge hl]; exact ⟨h, fun _ => Nat.le_refl _, .inl rfl⟩
    rw [wordF_lt (by omega)]
    split
    · exact ⟨h, fun _ => Nat.le_refl _, .inl rfl⟩
    have hin := pasL_in (s := s) 0 (show p < s.length by omega)
    rcases hr : pasL s p 0 with ⟨n, x⟩
    rw [hr] at hin
    obtain ⟨i1, i2, i3⟩ := hin
    simp only at i1 i2 i3
    rcases x with _ | x
    · have := i2 rfl
      obtain ⟨j1, j2, j3⟩ := wordF_in F n i1
      exact ⟨j1, fun h => by show p ≤ (wordF F s n).1; have := j2 h; omega, j3⟩
    · exact ⟨i1, fun h => by simp at h, i3⟩
def endL (s : List UInt8) (p : Nat) : Nat × Nat := if 0 < opsz (s.drop p) then (p + opsz (s.drop p), 0) else wordF (s.length + 1) s p
theorem endL_in {s : List UInt8} {p : Nat} (h : p ≤ s.length) : (endL s p).1 ≤ s.length ∧ ((endL s p).2 = 0 → p ≤ (endL s p).1) ∧ ((endL s p).2 = 0 ∨ (endL s p).2 = 6 ∨ (endL s p).2 = 7) := by
  unfold endL
  split
  · have := opsz_le (s.drop p)
    rw [List.length_drop] at this
    exact ⟨by simp only; omega, fun _ => by simp only; omega, .inl rfl⟩
  · exact wordF_in _ p h
set_option maxHeartbeats 16000000 in
set_option maxRecDepth 100000 in
theorem tend_c (s : ByteArray) (p : Nat) (w : World) (hs : s.size ≤ 140737488355328) (hp : p ≤ s.size) : Calls Tryz.prog 109 #[.string s, .int .i64 p] w (Gv w (endL s.data.toList p)) := by
  have ho := opsz_c (s.extract p s.size) w (by simp; omega)
  rw [dropS] at ho
  have hol := opsz_le (s.data.toList.drop p)
  rw [List.length_drop, lenS] at hol
  unfold endL
  rw [lenS]
  generalize opsz (s.data.toList.drop p) = z at *
  have Ho := Lib.hid ho
  clear ho
  by_cases hz : 0 < z
  · rw [if_pos hz]
    have d1 : decide ((0 : Int) < (z : Int)) = true := decide_eq_true (by omega)
    have d1' : decide (0 < z) = true := decide_eq_true hz
    go_enter Tryz.func109, Tryz.ntmps109
    go_wp2_with fail
    refine Ho.out.mono ?_
    rintro e w7 ⟨rfl, rfl⟩
    go_wp2_with fail
    go_ret2
    exact ⟨rfl, rfl⟩
  rw [if_neg hz]
  obtain rfl : z = 0 := by omega
  clear hz hol
  obtain ⟨R, hR⟩ : ∃ R : Nat × Nat, R = wordF (s.size + 1) s.data.toList p := ⟨_, rfl⟩
  rw [← hR]
  have HR : Hid (∃ F, s.size - p < F ∧ R = wordF F s.data.toList p) := Lib.hid ⟨s.size + 1, by omega, hR⟩
  clear hR
  have hbor := Lib.hid (fun (k : Nat) (h : k < s.size) => border_c (s[k]'h) w)
  have hski := Lib.hid (fun (k : Nat) (h : k < s.size) => skip_c s k 0 w hs h (by omega))
  go_enter Tryz.func109, Tryz.ntmps109
  go_wp2_with fail
  refine Ho.out.mono ?_
  rintro e w7 ⟨rfl, rfl⟩
  go_wp2_with fail
  go_loop [1, 7] (fun kv ev => ∃ (k : Nat) (E : Int), kv = .int .i64 k ∧ ev = .int .i64 E ∧ k ≤ s.size ∧ ((E = 0 ∧ Hid (∃ F, s.size - k < F ∧ R = wordF F s.data.toList k)) ∨ ((E == 0) = false ∧ Hid (R.1 = k ∧ (R.2 : Int) = E)))) (fun kv ev => if intOf ev = 0 then s.size + 1 - (intOf kv).toNat else 0)
  case atStart => exact ⟨p, 0, rfl, by go_num, hp, .inl ⟨rfl, HR⟩⟩
  case round =>
    obtain ⟨k, E, rfl, rfl, hk, hor⟩ := hrel
    clear HR
    by_cases hlt : k < s.size
    · have d1 : decide ((k : Int) < (s.size : Int)) = true := decide_eq_true (by omega)
      have d1' : decide (k < s.size) = true := decide_eq_true hlt
      have hb := hbor.out k hlt
      rcases hor with ⟨rfl, hx⟩ | ⟨tE, hx⟩
      · obtain ⟨F, hF, hx2⟩ := hx.out
        obtain ⟨F, rfl⟩ : ∃ G, F = G + 1 := ⟨F - 1, by omega⟩
        rw [wordF_lt (show k < s.data.toList.length from hlt), btS hlt] at hx2
        clear hx
        rcases h1 : borderB (s[k]'hlt) with _ | _
        · rw [h1] at hb hx2
          rw [if_neg (by simp)] at hx2
          have Hb := Lib.hid hb
          have hsc := hski.out k hlt
          have hin := pasL_in (s := s.data.toList) 0 (show k < s.data.toList.length from hlt)
          unfold pasL at hsc
          rcases hq : pasL s.data.toList k 0 with ⟨n, x⟩
          rw [hq] at hin hx2
          unfold pasL at hq
          obtain ⟨hn1, hn2, -⟩ := hin
          rw [lenS] at hn1
          simp only at hn1 hn2
          rcases x with _ | x
          · have hkn := hn2 rfl
            have Hc := Lib.hid (pass_ok (C := 0) rfl hsc hq)
            have hx3 : Hid (∃ F, s.size - n < F ∧ R = wordF F s.data.toList n) := Lib.hid ⟨F, by omega, hx2⟩
            clear hx2 hsc hq h1 hb
            go_wp2_with fail
            refine Hb.out.mono ?_
            rintro e w7 ⟨rfl, rfl⟩
            go_wp2_with fail
            refine Hc.out.mono ?_
            rintro e w7 ⟨rfl, rfl⟩
            go_wp2_with fail
            go_round
            case rel => exact ⟨n, 0, rfl, rfl, hn1, .inl ⟨rfl, hx3⟩⟩
            case measure => simp [intOf]; omega
          · obtain ⟨E, tE, hE, hc⟩ := pass_bad (C := 0) rfl hsc hq
            have Hc := Lib.hid hc
            have tE0 : (E == 0) = false := by rw [bne] at tE; simpa using tE
            have hx3 : Hid (R.1 = n ∧ (R.2 : Int) = E) := Lib.hid (by rw [hx2, hE]; exact ⟨rfl, rfl⟩)
            have hEn : ¬ E = 0 := by omega
            clear hx2 hsc hq h1 hb hc hE
            go_wp2_with fail
            refine Hb.out.mono ?_
            rintro e w7 ⟨rfl, rfl⟩
            go_wp2_with fail
            refine Hc.out.mono ?_
            rintro e w7 ⟨rfl, rfl⟩
            go_wp2_with fail
            go_round
            case rel => exact ⟨n, E, rfl, rfl, hn1, .inr ⟨tE0, hx3⟩⟩
            case measure => simp [intOf, hEn]; omega
        · rw [h1] at hb hx2
          have Hb := Lib.hid hb
          have hx3 : Hid (R = (k, 0)) := Lib.hid (by rw [if_pos rfl] at hx2; exact hx2)
          clear hb hx2 h1
          go_wp2_with fail
          refine Hb.out.mono ?_
          rintro e w7 ⟨rfl, rfl⟩
          go_wp2_with fail
          go_ret2
          exact ⟨by rw [hx3.out]; rfl, rfl⟩
      · generalize borderB (s[k]'hlt) = b at *
        have Hb := Lib.hid hb
        clear hb
        rcases b with _ | _
        · go_wp2_with fail
          refine Hb.out.mono ?_
          rintro e w7 ⟨rfl, rfl⟩
          go_wp2_with fail
          go_ret2
          exact ⟨by rw [hx.out.1, hx.out.2]; rfl, rfl⟩
        · go_wp2_with fail
          refine Hb.out.mono ?_
          rintro e w7 ⟨rfl, rfl⟩
          go_wp2_with fail
          go_ret2
          exact ⟨by rw [hx.out.1, hx.out.2]; rfl, rfl⟩
    · have hks : k = s.size := by omega
      subst hks
      have d1 : decide ((s.size : Int) < (s.size : Int)) = false := decide_eq_false (by omega)
      have hx3 : Hid (R.1 = s.size ∧ (R.2 : Int) = E) := Lib.hid (by
        rcases hor with ⟨rfl, hx⟩ | ⟨tE, hx⟩
        · obtain ⟨F, hF, h⟩ := hx.out
          rw [wordF_ge (by rw [lenS]; exact Nat.le_refl _)] at h
          rw [h]; exact ⟨rfl, rfl⟩
        · exact hx.out)
      clear hor
      go_wp2_with fail
      go_ret2
      exact ⟨by rw [hx3.out.1, hx3.out.2]; rfl, rfl⟩
end Go.Proofs.YticehbhedoploaaGreatDoor
