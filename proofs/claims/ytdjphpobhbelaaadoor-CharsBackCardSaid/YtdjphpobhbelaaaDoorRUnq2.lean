/- The contracts of the reference's Blank, OpByte, piece, Unquote and Quote. -/
import Derived.Test.YtdjphpobhbelaaaDoorRUnq
import Derived.Test.YtdjphpobhbelaaaDoorRCh2
import Derived.Test.YtdjphpobhbelaaaDoorQuote
namespace Go.Proofs.YtdjphpobhbelaaaDoor
open Go.RowKit

def spB (r : Nat) : Bool := decide (r = 9 ∨ r = 32)
def opB (r : Nat) : Bool := decide (r = 38 ∨ r = 124 ∨ r = 59 ∨ r = 40 ∨ r = 41 ∨ r = 60 ∨ r = 62)

theorem ne_test {r v : Nat} (h : r ≠ v) : ((r : Int) == (v : Int)) = false := by rw [beq_eq_false_iff_ne]; omega
theorem eq_test {r v : Nat} (h : r = v) : ((r : Int) == (v : Int)) = true := by rw [beq_iff_eq]; omega

set_option maxHeartbeats 400000 in
theorem rblank_c (r : Nat) (w : World) : Calls Tryd.prog 53 #[.int .u8 r] w fun e w' => e = .returned (.bool (spB r)) ∧ w = w' := by
  by_cases h1 : r = 9
  · rw [show spB r = true from decide_eq_true (by omega)]
    have t1 : ((r : Int) == 9) = true := eq_test (v := 9) h1
    clear h1
    go_enter Tryd.func53, Tryd.ntmps53
    go_wp2_with fail
    go_ret
    exact ⟨rfl, rfl⟩
  have t1 : ((r : Int) == 9) = false := ne_test (v := 9) h1
  by_cases h2 : r = 32
  · rw [show spB r = true from decide_eq_true (by omega)]
    have t2 : ((r : Int) == 32) = true := eq_test (v := 32) h2
    clear h1 h2
    go_enter Tryd.func53, Tryd.ntmps53
    go_wp2_with fail
    go_ret
    exact ⟨rfl, rfl⟩
  rw [show spB r = false from decide_eq_false (by omega)]
  have t2 : ((r : Int) == 32) = false := ne_test (v := 32) h2
  clear h1 h2
  go_enter Tryd.func53, Tryd.ntmps53
  go_wp2_with fail
  go_ret
  exact ⟨rfl, rfl⟩

set_option maxHeartbeats 1000000 in
theorem rop_c (r : Nat) (w : World) : Calls Tryd.prog 54 #[.int .u8 r] w fun e w' => e = .returned (.bool (opB r)) ∧ w = w' := by
  by_cases h1 : r = 38
  · rw [show opB r = true from decide_eq_true (by omega)]
    have t : ((r : Int) == 38) = true := eq_test (v := 38) h1
    clear h1
    go_enter Tryd.func54, Tryd.ntmps54
    go_wp2_with fail
    go_ret
    exact ⟨rfl, rfl⟩
  have t1 : ((r : Int) == 38) = false := ne_test (v := 38) h1
  by_cases h2 : r = 124
  · rw [show opB r = true from decide_eq_true (by omega)]
    have t : ((r : Int) == 124) = true := eq_test (v := 124) h2
    clear h1 h2
    go_enter Tryd.func54, Tryd.ntmps54
    go_wp2_with fail
    go_ret
    exact ⟨rfl, rfl⟩
  have t2 : ((r : Int) == 124) = false := ne_test (v := 124) h2
  by_cases h3 : r = 59
  · rw [show opB r = true from decide_eq_true (by omega)]
    have t : ((r : Int) == 59) = true := eq_test (v := 59) h3
    clear h1 h2 h3
    go_enter Tryd.func54, Tryd.ntmps54
    go_wp2_with fail
    go_ret
    exact ⟨rfl, rfl⟩
  have t3 : ((r : Int) == 59) = false := ne_test (v := 59) h3
  by_cases h4 : r = 40
  · rw [show opB r = true from decide_eq_true (by omega)]
    have t : ((r : Int) == 40) = true := eq_test (v := 40) h4
    clear h1 h2 h3 h4
    go_enter Tryd.func54, Tryd.ntmps54
    go_wp2_with fail
    go_ret
    exact ⟨rfl, rfl⟩
  have t4 : ((r : Int) == 40) = false := ne_test (v := 40) h4
  by_cases h5 : r = 41
  · rw [show opB r = true from decide_eq_true (by omega)]
    have t : ((r : Int) == 41) = true := eq_test (v := 41) h5
    clear h1 h2 h3 h4 h5
    go_enter Tryd.func54, Tryd.ntmps54
    go_wp2_with fail
    go_ret
    exact ⟨rfl, rfl⟩
  have t5 : ((r : Int) == 41) = false := ne_test (v := 41) h5
  by_cases h6 : r = 60
  · rw [show opB r = true from decide_eq_true (by omega)]
    have t : ((r : Int) == 60) = true := eq_test (v := 60) h6
    clear h1 h2 h3 h4 h5 h6
    go_enter Tryd.func54, Tryd.ntmps54
    go_wp2_with fail
    go_ret
    exact ⟨rfl, rfl⟩
  have t6 : ((r : Int) == 60) = false := ne_test (v := 60) h6
  by_cases h7 : r = 62
  · rw [show opB r = true from decide_eq_true (by omega)]
    have t : ((r : Int) == 62) = true := eq_test (v := 62) h7
    clear h1 h2 h3 h4 h5 h6 h7
    go_enter Tryd.func54, Tryd.ntmps54
    go_wp2_with fail
    go_ret
    exact ⟨rfl, rfl⟩
  have t7 : ((r : Int) == 62) = false := ne_test (v := 62) h7
  rw [show opB r = false from decide_eq_false (by omega)]
  clear h1 h2 h3 h4 h5 h6 h7
  go_enter Tryd.func54, Tryd.ntmps54
  go_wp2_with fail
  go_ret
  exact ⟨rfl, rfl⟩

theorem bad_split (r : Nat) : among blankS r = decide (spB r = true ∨ r = 10 ∨ opB r = true ∨ r = 36 ∨ r = 96) := by
  unfold among spB opB
  rw [decide_eq_decide]
  simp only [decide_eq_true_eq]
  constructor
  · rintro ⟨i, h, e⟩
    have h10 : i < 12 := h
    have : ∀ i (h : i < 12), ((blankS[i]'h).toNat = 9 ∨ (blankS[i]'h).toNat = 32) ∨ (blankS[i]'h).toNat = 10 ∨ ((blankS[i]'h).toNat = 38 ∨ (blankS[i]'h).toNat = 124 ∨ (blankS[i]'h).toNat = 59 ∨ (blankS[i]'h).toNat = 40 ∨ (blankS[i]'h).toNat = 41 ∨ (blankS[i]'h).toNat = 60 ∨ (blankS[i]'h).toNat = 62) ∨ (blankS[i]'h).toNat = 36 ∨ (blankS[i]'h).toNat = 96 := by decide
    rw [← e]
    exact this i h10
  · rintro ((rfl | rfl) | rfl | (rfl | rfl | rfl | rfl | rfl | rfl | rfl) | rfl | rfl)
    · exact ⟨1, by decide, rfl⟩
    · exact ⟨0, by decide, rfl⟩
    · exact ⟨2, by decide, rfl⟩
    · exact ⟨3, by decide, rfl⟩
    · exact ⟨4, by decide, rfl⟩
    · exact ⟨5, by decide, rfl⟩
    · exact ⟨6, by decide, rfl⟩
    · exact ⟨7, by decide, rfl⟩
    · exact ⟨8, by decide, rfl⟩
    · exact ⟨9, by decide, rfl⟩
    · exact ⟨10, by decide, rfl⟩
    · exact ⟨11, by decide, rfl⟩

theorem piece_tr {q : Nat} {s : ByteArray} {a : Nat} {t : List UInt8} {n e : Nat} (h : PieceOk q s (a + 1) t n e) (hu : uq 0 false (s.data.toList.drop a) = uq q false (s.data.toList.drop (a + 1))) : PieceOk 0 s a t n e := by
  rcases h with ⟨h1, h2, h3, h4, h5⟩ | ⟨h1, h2, h3, h5⟩
  · exact .inl ⟨h1, by omega, h3, h4, fun xs => by rw [hu]; exact h5 xs⟩
  · exact .inr ⟨h1, h2, h3, fun xs => by rw [hu]; exact h5 xs⟩

set_option maxHeartbeats 4000000 in
theorem piece_c (s : ByteArray) (a : Nat) (w : World) (hs : s.size ≤ 8100) (ha : a < s.size) :
    Calls Tryd.prog 36 #[.string s, .int .i64 a] w fun e w' => ∃ (t : ByteArray) (next er : Nat), e = .returned (.tuple #[.string t, .int .i64 next, .int .i64 er]) ∧ PieceOk 0 s a t.data.toList next er ∧ w = w' := by
  have hu := uq_cons_at ha 0 false
  have i1 : (a : Int) < (s.size : Int) := by omega
  by_cases q39 : (s[a]'ha).toNat = 39
  · have h39 : s[a]'ha = 39 := u8_of (v := 39) (by omega) q39
    have t1 : (((s[a]'ha).toNat : Int) == 39) = true := eq_test (v := 39) q39
    have hu2 : uq 0 false (s.data.toList.drop a) = uq 39 false (s.data.toList.drop (a + 1)) := by
      rw [hu, uq, if_neg (by rw [h39]; simp), if_neg (by simp), if_pos ⟨rfl, .inl h39⟩, q39]
    have Hu := Lib.hid hu2
    clear hu hu2 q39 h39
    go_enter Tryd.func36, Tryd.ntmps36
    go_wp2_with fail
    refine (single_c s a _ hs ha).mono ?_
    rintro e w' ⟨t, n, er, rfl, hp, rfl⟩
    go_wp2_with fail
    go_ret3
    exact ⟨t, n, er, rfl, piece_tr hp Hu.out, rfl⟩
  have t1 : (((s[a]'ha).toNat : Int) == 39) = false := ne_test (v := 39) q39
  by_cases q34 : (s[a]'ha).toNat = 34
  · have h34 : s[a]'ha = 34 := u8_of (v := 34) (by omega) q34
    have t2 : (((s[a]'ha).toNat : Int) == 34) = true := eq_test (v := 34) q34
    have hu2 : uq 0 false (s.data.toList.drop a) = uq 34 false (s.data.toList.drop (a + 1)) := by
      rw [hu, uq, if_neg (by rw [h34]; simp), if_neg (by simp), if_pos ⟨rfl, .inr h34⟩, q34]
    have Hu := Lib.hid hu2
    clear hu hu2 q39 q34 h34
    go_enter Tryd.func36, Tryd.ntmps36
    go_wp2_with fail
    refine (double_c s a _ hs ha).mono ?_
    rintro e w' ⟨t, n, er, rfl, hp, rfl⟩
    go_wp2_with fail
    go_ret3
    exact ⟨t, n, er, rfl, piece_tr hp Hu.out, rfl⟩
  have t2 : (((s[a]'ha).toNat : Int) == 34) = false := ne_test (v := 34) q34
  by_cases q92 : (s[a]'ha).toNat = 92
  · have h92 : s[a]'ha = 92 := u8_of (v := 92) (by omega) q92
    have t3 : (((s[a]'ha).toNat : Int) == 92) = true := eq_test (v := 92) q92
    have hu2 : uq 0 false (s.data.toList.drop a) = uq 0 true (s.data.toList.drop (a + 1)) := by
      rw [hu, uq, if_pos ⟨h92, by omega⟩]
    clear hu q39 q34 q92 h92
    by_cases hend : a + 1 = s.size
    · have t5 : ((a : Int) + 1 == (s.size : Int)) = true := by rw [beq_iff_eq]; omega
      have hp : PieceOk 0 s a [] 0 7 := .inr ⟨by omega, rfl, rfl, fun xs => by rw [hu2, hend, drop_end]; simp [uq, preU]⟩
      have Hp := Lib.hid hp
      clear hu2 hend hp
      go_enter Tryd.func36, Tryd.ntmps36
      go_wp2_with fail
      go_ret3
      exact ⟨⟨#[]⟩, 0, 7, rfl, Hp.out, rfl⟩
    have t5 : ((a : Int) + 1 == (s.size : Int)) = false := by rw [beq_eq_false_iff_ne]; omega
    have hk : a + 1 < s.size := by omega
    have i2 : (a : Int) + 1 < (s.size : Int) := by omega
    have i3 : (a : Int) + 2 ≤ (s.size : Int) := by omega
    have i4 : (a : Int) + 1 ≤ (a : Int) + 2 := by omega
    rw [uq_cons_at hk] at hu2
    by_cases q10 : (s[a + 1]'hk).toNat = 10
    · have h10 : s[a + 1]'hk = 10 := u8_of (v := 10) (by omega) q10
      have t6 : (((s[a + 1]'hk).toNat : Int) == 10) = true := eq_test (v := 10) q10
      have hp : PieceOk 0 s a [] (a + 2) 0 := .inl ⟨rfl, by omega, by omega, Nat.zero_le _, fun xs => by rw [hu2, uq, if_pos h10]; simp⟩
      have Hp := Lib.hid hp
      clear hu2 hend hp q10 h10
      go_enter Tryd.func36, Tryd.ntmps36
      go_wp2_with fail
      go_ret3
      exact ⟨⟨#[]⟩, a + 2, 0, rfl, Hp.out, rfl⟩
    · have t6 : (((s[a + 1]'hk).toNat : Int) == 10) = false := ne_test (v := 10) q10
      have e1 := ext_one hk
      have hp : PieceOk 0 s a (s.extract (a + 1) (a + 2)).data.toList (a + 2) 0 := .inl ⟨rfl, by omega, by omega, by rw [show a + 2 = a + 1 + 1 from rfl, e1]; simp, fun xs => by
        rw [hu2, uq, if_neg (by rintro h; rw [h] at q10; exact q10 rfl), if_pos (.inl rfl), preU_preU, show s.extract (a + 1) (a + 2) = s.extract (a + 1) (a + 1 + 1) from rfl, e1]⟩
      have Hp := Lib.hid hp
      clear hu2 hend hp q10 e1
      go_enter Tryd.func36, Tryd.ntmps36
      go_wp2_with fail
      go_ret3
      exact ⟨s.extract (a + 1) (a + 2), a + 2, 0, rfl, Hp.out, rfl⟩
  have t3 : (((s[a]'ha).toNat : Int) == 92) = false := ne_test (v := 92) q92
  have hb := bad_split (s[a]'ha).toNat
  have n92 : s[a]'ha ≠ 92 := by rintro h; rw [h] at q92; exact q92 rfl
  have n39 : s[a]'ha ≠ 39 := by rintro h; rw [h] at q39; exact q39 rfl
  have n34 : s[a]'ha ≠ 34 := by rintro h; rw [h] at q34; exact q34 rfl
  by_cases hbad : among blankS (s[a]'ha).toNat = true
  · have hp : PieceOk 0 s a [] 0 6 := .inr ⟨by omega, rfl, rfl, fun xs => by
      rw [hu, uq, if_neg (by simp [n92]), if_neg (by simp), if_neg (by simp [n39, n34]), if_pos (by simp [okU, hbad])]; simp [preU]⟩
    have Hp := Lib.hid hp
    rw [hb, decide_eq_true_iff] at hbad
    clear hu hp n92 n39 n34 q39 q34 q92 hb
    by_cases b1 : spB (s[a]'ha).toNat = true
    · clear hbad
      go_enter Tryd.func36, Tryd.ntmps36
      go_wp2_with fail
      refine (rblank_c _ _).mono ?_
      rintro e w' ⟨rfl, rfl⟩
      go_wp2_with fail
      go_ret3
      exact ⟨⟨#[]⟩, 0, 6, rfl, Hp.out, rfl⟩
    have b1' : spB (s[a]'ha).toNat = false := by simpa using b1
    by_cases b2 : (s[a]'ha).toNat = 10
    · have t4 : (((s[a]'ha).toNat : Int) == 10) = true := eq_test (v := 10) b2
      clear hbad b1 b2
      go_enter Tryd.func36, Tryd.ntmps36
      go_wp2_with fail
      refine (rblank_c _ _).mono ?_
      rintro e w' ⟨rfl, rfl⟩
      go_wp2_with fail
      go_ret3
      exact ⟨⟨#[]⟩, 0, 6, rfl, Hp.out, rfl⟩
    have t4 : (((s[a]'ha).toNat : Int) == 10) = false := ne_test (v := 10) b2
    by_cases b3 : opB (s[a]'ha).toNat = true
    · clear hbad b1 b2
      go_enter Tryd.func36, Tryd.ntmps36
      go_wp2_with fail
      refine (rblank_c _ _).mono ?_
      rintro e w' ⟨rfl, rfl⟩
      go_wp2_with fail
      refine (rop_c _ _).mono ?_
      rintro e w' ⟨rfl, rfl⟩
      go_wp2_with fail
      go_ret3
      exact ⟨⟨#[]⟩, 0, 6, rfl, Hp.out, rfl⟩
    have b3' : opB (s[a]'ha).toNat = false := by simpa using b3
    by_cases b4 : (s[a]'ha).toNat = 36
    · have t7 : (((s[a]'ha).toNat : Int) == 36) = true := eq_test (v := 36) b4
      clear hbad b1 b2 b3 b4
      go_enter Tryd.func36, Tryd.ntmps36
      go_wp2_with fail
      refine (rblank_c _ _).mono ?_
      rintro e w' ⟨rfl, rfl⟩
      go_wp2_with fail
      refine (rop_c _ _).mono ?_
      rintro e w' ⟨rfl, rfl⟩
      go_wp2_with fail
      go_ret3
      exact ⟨⟨#[]⟩, 0, 6, rfl, Hp.out, rfl⟩
    have t7 : (((s[a]'ha).toNat : Int) == 36) = false := ne_test (v := 36) b4
    have b5 : (s[a]'ha).toNat = 96 := by
      rcases hbad with h | h | h | h | h
      · exact absurd h b1
      · exact absurd h b2
      · exact absurd h b3
      · exact absurd h b4
      · exact h
    have t8 : (((s[a]'ha).toNat : Int) == 96) = true := eq_test (v := 96) b5
    clear hbad b1 b2 b3 b4 b5
    go_enter Tryd.func36, Tryd.ntmps36
    go_wp2_with fail
    refine (rblank_c _ _).mono ?_
    rintro e w' ⟨rfl, rfl⟩
    go_wp2_with fail
    refine (rop_c _ _).mono ?_
    rintro e w' ⟨rfl, rfl⟩
    go_wp2_with fail
    go_ret3
    exact ⟨⟨#[]⟩, 0, 6, rfl, Hp.out, rfl⟩
  · have hbad' : among blankS (s[a]'ha).toNat = false := by simpa using hbad
    have e1 := ext_one ha
    have hp : PieceOk 0 s a (s.extract a (a + 1)).data.toList (a + 1) 0 := .inl ⟨rfl, by omega, by omega, by rw [e1]; simp, fun xs => by
      rw [hu, uq, if_neg (by simp [n92]), if_neg (by simp), if_neg (by simp [n39, n34]), if_neg (by simp [okU, hbad']), preU_preU, e1]⟩
    have Hp := Lib.hid hp
    rw [hb, decide_eq_true_iff] at hbad
    have b1 : spB (s[a]'ha).toNat = false := by
      cases h : spB (s[a]'ha).toNat with
      | false => rfl
      | true => exact absurd (.inl h) hbad
    have b3 : opB (s[a]'ha).toNat = false := by
      cases h : opB (s[a]'ha).toNat with
      | false => rfl
      | true => exact absurd (.inr (.inr (.inl h))) hbad
    have t4 : (((s[a]'ha).toNat : Int) == 10) = false := ne_test (v := 10) (by omega)
    have t7 : (((s[a]'ha).toNat : Int) == 36) = false := ne_test (v := 36) (by omega)
    have t8 : (((s[a]'ha).toNat : Int) == 96) = false := ne_test (v := 96) (by omega)
    have j1 : (a : Int) ≤ (a : Int) + 1 := by omega
    have j2 : (a : Int) + 1 ≤ (s.size : Int) := by omega
    clear hu hp n92 n39 n34 q39 q34 q92 hb hbad hbad' e1
    go_enter Tryd.func36, Tryd.ntmps36
    go_wp2_with fail
    refine (rblank_c _ _).mono ?_
    rintro e w' ⟨rfl, rfl⟩
    go_wp2_with fail
    refine (rop_c _ _).mono ?_
    rintro e w' ⟨rfl, rfl⟩
    go_wp2_with fail
    go_ret3
    exact ⟨s.extract a (a + 1), a + 1, 0, rfl, Hp.out, rfl⟩
end Go.Proofs.YtdjphpobhbelaaaDoor
