/- lexer: skip itself; Skip, Close. -/
import Derived.Test.YticehbhedoploaaGreatDoorLxE
namespace Go.Proofs.YticehbhedoploaaGreatDoor
open Go.RowKit
set_option linter.unusedVariables false

set_option maxHeartbeats 8000000 in
set_option maxRecDepth 100000 in
theorem quot_c (s : ByteArray) (a : Nat) (w : World) (hs : s.size ≤ 140737488355328) (ha : a < s.size) (hsk : SkipOk s a) (F : Nat) (hF : 2 * (s.size - a) + 1 ≤ F) (hq : bt s.data.toList a = 92 ∨ bt s.data.toList a = 96 ∨ bt s.data.toList a = 39 ∨ bt s.data.toList a = 34) :
    Calls Tryz.prog 185 #[.string s, .int .i64 a] w (Gv w (passF (F + 1) s.data.toList a 0)) := by
  rcases hq with h | h | h | h
  · rw [passF_92 h]
    have Hc := Lib.hid (esc_c s a w hs ha)
    rw [btS ha] at h
    have t1 : (((s[a]'ha).toNat : Int) == 92) = true := by rw [h]; rfl
    clear h
    generalize escL s.data.toList a = r at *
    go_enter Tryz.func185, Tryz.ntmps185
    go_wp2_with fail
    refine Hc.out.mono ?_
    rintro e w7 ⟨rfl, rfl⟩
    go_wp2_with fail
    go_ret2
    exact ⟨rfl, rfl⟩
  · rw [passF_96 h]
    have Hc := Lib.hid (back_c s a w hs ha)
    rw [btS ha] at h
    have t1 : (((s[a]'ha).toNat : Int) == 92) = false := by rw [h]; rfl
    have t2 : (((s[a]'ha).toNat : Int) == 39) = false := by rw [h]; rfl
    have t3 : (((s[a]'ha).toNat : Int) == 34) = false := by rw [h]; rfl
    clear h
    generalize backF (s.data.toList.length + 1) s.data.toList a (a + 1) = r at *
    go_enter Tryz.func185, Tryz.ntmps185
    go_wp2_with fail
    refine Hc.out.mono ?_
    rintro e w7 ⟨rfl, rfl⟩
    go_wp2_with fail
    go_ret2
    exact ⟨rfl, rfl⟩
  · rw [passF_39 h]
    have Hc := Lib.hid (sing_c s a w hs ha)
    rw [btS ha] at h
    have t1 : (((s[a]'ha).toNat : Int) == 92) = false := by rw [h]; rfl
    have t2 : (((s[a]'ha).toNat : Int) == 39) = true := by rw [h]; rfl
    clear h
    generalize singL s.data.toList a = r at *
    go_enter Tryz.func185, Tryz.ntmps185
    go_wp2_with fail
    refine Hc.out.mono ?_
    rintro e w7 ⟨rfl, rfl⟩
    go_wp2_with fail
    go_ret2
    exact ⟨rfl, rfl⟩
  · rw [passF_34 h]
    have Hc := Lib.hid (dbl_c s a w hs (by omega) hsk F hF)
    rw [btS ha] at h
    have t1 : (((s[a]'ha).toNat : Int) == 92) = false := by rw [h]; rfl
    have t2 : (((s[a]'ha).toNat : Int) == 39) = false := by rw [h]; rfl
    have t3 : (((s[a]'ha).toNat : Int) == 34) = true := by rw [h]; rfl
    clear h hsk
    generalize dblF F s.data.toList a (a + 1) = r at *
    go_enter Tryz.func185, Tryz.ntmps185
    go_wp2_with fail
    refine Hc.out.mono ?_
    rintro e w7 ⟨rfl, rfl⟩
    go_wp2_with fail
    go_ret2
    exact ⟨rfl, rfl⟩
set_option maxHeartbeats 8000000 in
set_option maxRecDepth 100000 in
theorem expa_c (s : ByteArray) (a c : Nat) (w : World) (hs : s.size ≤ 140737488355328) (ha : a < s.size) (hc : c ≤ 2) (hsk : SkipOk s a) (F : Nat) (hF : 2 * (s.size - a) + 1 ≤ F) :
    Calls Tryz.prog 186 #[.string s, .int .i64 a, .int .i64 c] w (Gv w (expF F s.data.toList a c)) := by
  have p1 := Tryz.strings_HasPrefix (s.extract (a + 1) s.size) ⟨#[123]⟩ w
  have p2 := Tryz.strings_HasPrefix (s.extract (a + 1) s.size) ⟨#[40, 40]⟩ w
  have p3 := Tryz.strings_HasPrefix (s.extract (a + 1) s.size) ⟨#[40]⟩ w
  have pr := param_c (s.extract (a + 1) s.size) w (by simp; omega)
  rw [dropS] at p1 p2 p3 pr
  rw [pre1] at p1 p3
  rw [pre2] at p2
  have hple := paramL_le (s.data.toList.drop (a + 1))
  rw [List.length_drop] at hple
  unfold expF
  have g1 : ∀ b, (decide (a + 1 < s.data.toList.length) && bt s.data.toList (a + 1) == 123) = b → b = true → a + 2 ≤ s.size := by
    rintro b rfl h; simp only [Bool.and_eq_true, decide_eq_true_eq] at h; rw [lenS] at h; omega
  have g2 : ∀ b, (decide (a + 1 + 1 < s.data.toList.length) && (bt s.data.toList (a + 1) == 40 && bt s.data.toList (a + 1 + 1) == 40)) = b → b = true → a + 3 ≤ s.size := by
    rintro b rfl h; simp only [Bool.and_eq_true, decide_eq_true_eq] at h; rw [lenS] at h; omega
  have g3 : ∀ b, (decide (a + 1 < s.data.toList.length) && bt s.data.toList (a + 1) == 40) = b → b = true → a + 2 ≤ s.size := by
    rintro b rfl h; simp only [Bool.and_eq_true, decide_eq_true_eq] at h; rw [lenS] at h; omega
  rw [lenS] at hple
  rcases h1 : (decide (a + 1 < s.data.toList.length) && bt s.data.toList (a + 1) == 123) with _ | _
  · rw [h1] at p1
    have P1 := Lib.hid p1
    clear p1
    rw [if_neg (by simp)]
    rw [show (decide (a + 2 < s.data.toList.length) && (bt s.data.toList (a + 1) == 40 && bt s.data.toList (a + 2) == 40)) = (decide (a + 1 + 1 < s.data.toList.length) && (bt s.data.toList (a + 1) == 40 && bt s.data.toList (a + 1 + 1) == 40)) from rfl]
    rcases h2 : (decide (a + 1 + 1 < s.data.toList.length) && (bt s.data.toList (a + 1) == 40 && bt s.data.toList (a + 1 + 1) == 40)) with _ | _
    · rw [h2] at p2
      have P2 := Lib.hid p2
      clear p2
      rw [if_neg (by simp)]
      rcases h3 : (decide (a + 1 < s.data.toList.length) && bt s.data.toList (a + 1) == 40) with _ | _
      · rw [h3] at p3
        have P3 := Lib.hid p3
        have Pr := Lib.hid pr
        clear p3 pr g1 g2 g3 h1 h2 h3 hsk
        rw [if_neg (by simp)]
        generalize paramL (s.data.toList.drop (a + 1)) = m at *
        go_enter Tryz.func186, Tryz.ntmps186
        go_wp2_with fail
        refine P1.out.mono ?_
        rintro e w7 ⟨rfl, rfl⟩
        go_wp2_with fail
        refine P2.out.mono ?_
        rintro e w7 ⟨rfl, rfl⟩
        go_wp2_with fail
        refine P3.out.mono ?_
        rintro e w7 ⟨rfl, rfl⟩
        go_wp2_with fail
        refine Pr.out.mono ?_
        rintro e w7 ⟨rfl, rfl⟩
        go_wp2_with fail
        go_ret2
        exact ⟨rfl, rfl⟩
      · rw [h3] at p3
        have P3 := Lib.hid p3
        have Hc := Lib.hid (cmd_c s a w hs (g3 _ h3 rfl) hsk F hF)
        clear p3 pr g1 g2 g3 h1 h2 h3 hsk
        rw [if_pos rfl]
        generalize commF F s.data.toList a (a + 2) 0 true = r at *
        go_enter Tryz.func186, Tryz.ntmps186
        go_wp2_with fail
        refine P1.out.mono ?_
        rintro e w7 ⟨rfl, rfl⟩
        go_wp2_with fail
        refine P2.out.mono ?_
        rintro e w7 ⟨rfl, rfl⟩
        go_wp2_with fail
        refine P3.out.mono ?_
        rintro e w7 ⟨rfl, rfl⟩
        go_wp2_with fail
        refine Hc.out.mono ?_
        rintro e w7 ⟨rfl, rfl⟩
        go_wp2_with fail
        go_ret2
        exact ⟨rfl, rfl⟩
    · rw [h2] at p2
      have P2 := Lib.hid p2
      have Hc := Lib.hid (arth_c s a w hs (g2 _ h2 rfl) hsk F hF)
      clear p2 p3 pr g1 g2 g3 h1 h2 hsk
      rw [if_pos rfl]
      generalize arthF F s.data.toList a (a + 3) 0 = r at *
      go_enter Tryz.func186, Tryz.ntmps186
      go_wp2_with fail
      refine P1.out.mono ?_
      rintro e w7 ⟨rfl, rfl⟩
      go_wp2_with fail
      refine P2.out.mono ?_
      rintro e w7 ⟨rfl, rfl⟩
      go_wp2_with fail
      refine Hc.out.mono ?_
      rintro e w7 ⟨rfl, rfl⟩
      go_wp2_with fail
      go_ret2
      exact ⟨rfl, rfl⟩
  · rw [h1] at p1
    have P1 := Lib.hid p1
    have Hc := Lib.hid (brac_c s a c w hs (g1 _ h1 rfl) hc hsk F hF)
    clear p1 p2 p3 pr g1 g2 g3 h1 hsk
    rw [if_pos rfl]
    generalize bracF F s.data.toList c a (a + 2) = r at *
    go_enter Tryz.func186, Tryz.ntmps186
    go_wp2_with fail
    refine P1.out.mono ?_
    rintro e w7 ⟨rfl, rfl⟩
    go_wp2_with fail
    refine Hc.out.mono ?_
    rintro e w7 ⟨rfl, rfl⟩
    go_wp2_with fail
    go_ret2
    exact ⟨rfl, rfl⟩
set_option maxHeartbeats 8000000 in
set_option maxRecDepth 100000 in
theorem skip_step (s : ByteArray) (a c : Nat) (w : World) (hs : s.size ≤ 140737488355328) (ha : a < s.size) (hc : c ≤ 2) (hsk : SkipOk s a) (F : Nat) (hF : 2 * (s.size - a) + 1 ≤ F) :
    Calls Tryz.prog 154 #[.string s, .int .i64 a, .int .i64 c] w (Gv w (passF (F + 1) s.data.toList a c)) := by
  by_cases q1 : bt s.data.toList a = 39 ∨ bt s.data.toList a = 34
  · by_cases hz : c = 0
    · subst hz
      have Hc := Lib.hid (quot_c s a w hs ha hsk F hF (by rcases q1 with h | h; exact .inr (.inr (.inl h)); exact .inr (.inr (.inr h))))
      generalize passF (F + 1) s.data.toList a 0 = r at *
      rw [btS ha] at q1
      clear hsk
      rcases q1 with h | h
      · have t1 : (((s[a]'ha).toNat : Int) == 39) = true := by rw [h]; rfl
        clear h
        go_enter Tryz.func154, Tryz.ntmps154
        go_wp2_with fail
        refine Hc.out.mono ?_
        rintro e w7 ⟨rfl, rfl⟩
        go_wp2_with fail
        go_ret2
        exact ⟨rfl, rfl⟩
      · have t1 : (((s[a]'ha).toNat : Int) == 39) = false := by rw [h]; rfl
        have t2 : (((s[a]'ha).toNat : Int) == 34) = true := by rw [h]; rfl
        clear h
        go_enter Tryz.func154, Tryz.ntmps154
        go_wp2_with fail
        refine Hc.out.mono ?_
        rintro e w7 ⟨rfl, rfl⟩
        go_wp2_with fail
        go_ret2
        exact ⟨rfl, rfl⟩
    · rw [passF_q q1 hz]
      have tz : ((c : Int) != 0) = true := by rw [bne_iff_ne]; omega
      have tz' : (c != 0) = true := by rw [bne_iff_ne]; omega
      rw [btS ha] at q1
      clear hsk
      rcases q1 with h | h
      · have t1 : (((s[a]'ha).toNat : Int) == 39) = true := by rw [h]; rfl
        clear h
        go_enter Tryz.func154, Tryz.ntmps154
        go_wp2_with fail
        go_ret2
        exact ⟨rfl, rfl⟩
      · have t1 : (((s[a]'ha).toNat : Int) == 39) = false := by rw [h]; rfl
        have t2 : (((s[a]'ha).toNat : Int) == 34) = true := by rw [h]; rfl
        clear h
        go_enter Tryz.func154, Tryz.ntmps154
        go_wp2_with fail
        go_ret2
        exact ⟨rfl, rfl⟩
  have q39 : bt s.data.toList a ≠ 39 := fun h => q1 (.inl h)
  have q34 : bt s.data.toList a ≠ 34 := fun h => q1 (.inr h)
  clear q1
  have t39 : (((s[a]'ha).toNat : Int) == 39) = false := u8b (by rw [← btS ha]; exact beq_eq_false_iff_ne.2 q39) rfl
  have t34 : (((s[a]'ha).toNat : Int) == 34) = false := u8b (by rw [← btS ha]; exact beq_eq_false_iff_ne.2 q34) rfl
  by_cases q92 : bt s.data.toList a = 92
  · have Hc := Lib.hid (quot_c s a w hs ha hsk F hF (.inl q92))
    rw [passF_92 q92] at Hc ⊢
    generalize escL s.data.toList a = r at *
    rw [btS ha] at q92
    have t1 : (((s[a]'ha).toNat : Int) == 92) = true := by rw [q92]; rfl
    clear hsk q92 q39 q34
    go_enter Tryz.func154, Tryz.ntmps154
    go_wp2_with fail
    refine Hc.out.mono ?_
    rintro e w7 ⟨rfl, rfl⟩
    go_wp2_with fail
    go_ret2
    exact ⟨rfl, rfl⟩
  have t92 : (((s[a]'ha).toNat : Int) == 92) = false := u8b (by rw [← btS ha]; exact beq_eq_false_iff_ne.2 q92) rfl
  by_cases q96 : bt s.data.toList a = 96
  · have Hc := Lib.hid (quot_c s a w hs ha hsk F hF (.inr (.inl q96)))
    rw [passF_96 q96] at Hc ⊢
    generalize backF (s.data.toList.length + 1) s.data.toList a (a + 1) = r at *
    rw [btS ha] at q96
    have t1 : (((s[a]'ha).toNat : Int) == 96) = true := by rw [q96]; rfl
    clear hsk q92 q39 q34 q96
    go_enter Tryz.func154, Tryz.ntmps154
    go_wp2_with fail
    refine Hc.out.mono ?_
    rintro e w7 ⟨rfl, rfl⟩
    go_wp2_with fail
    go_ret2
    exact ⟨rfl, rfl⟩
  have t96 : (((s[a]'ha).toNat : Int) == 96) = false := u8b (by rw [← btS ha]; exact beq_eq_false_iff_ne.2 q96) rfl
  by_cases q36 : bt s.data.toList a = 36
  · have Hc := Lib.hid (expa_c s a c w hs ha hc hsk F hF)
    rw [passF_36 q36]
    generalize expF F s.data.toList a c = r at *
    rw [btS ha] at q36
    have t1 : (((s[a]'ha).toNat : Int) == 36) = true := by rw [q36]; rfl
    clear hsk q92 q39 q34 q96 q36
    go_enter Tryz.func154, Tryz.ntmps154
    go_wp2_with fail
    refine Hc.out.mono ?_
    rintro e w7 ⟨rfl, rfl⟩
    go_wp2_with fail
    go_ret2
    exact ⟨rfl, rfl⟩
  · have t36 : (((s[a]'ha).toNat : Int) == 36) = false := u8b (by rw [← btS ha]; exact beq_eq_false_iff_ne.2 q36) rfl
    rw [passF_oth q92 q96 q36 q39 q34]
    clear hsk q92 q39 q34 q96 q36
    go_enter Tryz.func154, Tryz.ntmps154
    go_wp2_with fail
    go_ret2
    exact ⟨rfl, rfl⟩
theorem skip_ok (s : ByteArray) (hs : s.size ≤ 140737488355328) : ∀ (N o : Nat), s.size - o ≤ N → SkipOk s o
  | 0, o, h => fun p c F w hop hp hc hF => by omega
  | N + 1, o, h => fun p c F w hop hp hc hF => by
    obtain ⟨F, rfl⟩ : ∃ G, F = G + 1 := ⟨F - 1, by omega⟩
    exact skip_step s p c w hs hp hc (skip_ok s hs N p (by omega)) F (by omega)
/-- The result of a pass with enough fuel. -/
def pasL (s : List UInt8) (p c : Nat) : Nat × Nat := passF (2 * s.length + 2) s p c
theorem skip_c (s : ByteArray) (p c : Nat) (w : World) (hs : s.size ≤ 140737488355328) (hp : p < s.size) (hc : c ≤ 2) :
    Calls Tryz.prog 154 #[.string s, .int .i64 p, .int .i64 c] w (Gv w (pasL s.data.toList p c)) := by
  unfold pasL
  rw [lenS]
  exact skip_step s p c w hs hp hc (skip_ok s hs _ p (Nat.le_refl _)) _ (by omega)
theorem pasL_in {s : List UInt8} {p : Nat} (c : Nat) (h : p < s.length) : InB s.length p (pasL s p c) := (all_in s _).1 p c h
end Go.Proofs.YticehbhedoploaaGreatDoor
