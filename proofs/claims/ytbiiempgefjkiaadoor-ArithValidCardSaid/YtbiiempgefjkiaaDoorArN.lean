/- arith: the parser's number. -/
import Derived.Test.YtbiiempgefjkiaaDoorArC2
namespace Go.Proofs.YtbiiempgefjkiaaDoor.Ar
open Go.RowKit
set_option linter.unusedVariables false

theorem valC_le (base most : Nat) (hm : most < 18446744073709551616) (hb : 0 < base) : ∀ (l : List UInt8) (v : Nat) (f : Bool), (f = true → v ≤ most) → (valC base most l v f).2 = 0 → (valC base most l v f).1 ≤ most
  | [], v, f, hv, h => by
    rw [valC] at h ⊢
    cases f
    · simp at h
    · exact hv rfl
  | b :: r, v, f, hv, h => by
    rw [valC] at h ⊢
    split at h
    · rename_i h1
      rw [if_pos h1]
      refine valC_le base most hm hb r _ _ ?_ h
      intro hf
      rw [Bool.and_eq_true, Bool.and_eq_true, decide_eq_true_iff, decide_eq_true_iff] at hf
      obtain ⟨⟨_, h2⟩, h3⟩ := hf
      have h4 := (Nat.le_div_iff_mul_le hb).1 h3
      have h5 : base * v = v * base := Nat.mul_comm _ _
      have h6 := Nat.mod_le (base * v + (dgV b).1) 18446744073709551616
      omega
    · simp at h
theorem constC_le {s : ByteArray} {most : Nat} (hm : most < 18446744073709551616) (h : (constC s most).2 = 0) : (constC s most).1 ≤ most := by
  unfold constC at *
  by_cases h1 : (splitC s).2.2 = true
  · rw [if_pos h1] at h ⊢
    have h2 := splitC_base h1
    exact valC_le _ _ hm (by omega) _ _ _ (fun _ => Nat.zero_le _) h
  · rw [if_neg h1] at h
    simp at h
set_option maxHeartbeats 1000000 in
theorem number_yes (D : Nat) (t : Tok) (r : List Tok) (w : World) (h : ParAt w D (t :: r)) (hr : r ≠ []) (ht : t.t.size ≤ 100000) (he : (constC t.t 9223372036854775807).2 = 0) :
    Calls Tryd.prog 91 #[.pointer (some ⟨D, 0, none⟩)] w fun e w' => e = .returned (.int .i64 (constC t.t 9223372036854775807).1) ∧ ParAt w' D r ∧ Kd D w w' := by
  have HN := Lib.hid (Value_c t.t 9223372036854775807 w (by omega) (by unfold maxLen; omega))
  have hle := constC_le (s := t.t) (most := 9223372036854775807) (by omega) he
  generalize constC t.t 9223372036854775807 = R at *
  obtain ⟨v, e0⟩ := R
  simp only at he hle HN ⊢
  subst he
  have hw : IntKind.i64.wrap (v : Int) = (v : Int) := IntWalk.i64_in _ (by omega)
  have hD := parAt_lt h
  have HP := Lib.hid h
  obtain ⟨b, off, c, c0, d0, d1, d2, hl, hm⟩ := par_text h
  have i0 : (0 : Int) < ((r.length + 1 : Nat) : Int) := by omega
  clear h
  go_enter Tryd.func91, Tryd.ntmps91
  go_wp2_with fail
  refine HN.out.mono ?_
  rintro e w1 ⟨rfl, hb⟩
  have HS := Lib.hid (skip_c D t r w1 (parAt_keep HP.out hb) hr)
  have hk := Kd.of hb (Nat.le_of_lt hD)
  clear hb HN
  go_wp2_with fail
  refine HS.out.mono ?_
  rintro e w2 ⟨rfl, h1, h2⟩
  have H := Lib.hid (And.intro h1 (hk.trans h2))
  clear h1 h2 hk
  go_wp2_with fail
  go_ret
  exact ⟨rfl, H.out⟩
set_option maxHeartbeats 1000000 in
theorem number_no (D : Nat) (t : Tok) (r : List Tok) (w : World) (h : ParAt w D (t :: r)) (ht : t.t.size ≤ 100000) (he : (constC t.t 9223372036854775807).2 ≠ 0) :
    Calls Tryd.prog 91 #[.pointer (some ⟨D, 0, none⟩)] w fun e w' => e = .panicked (errP t.p (constC t.t 9223372036854775807).2) ∧ Kd D w w' := by
  have HN := Lib.hid (Value_c t.t 9223372036854775807 w (by omega) (by unfold maxLen; omega))
  generalize constC t.t 9223372036854775807 = R at *
  obtain ⟨v, e0⟩ := R
  simp only at he HN ⊢
  have t1 : ((e0 : Int) != 0) = true := by rw [bne_iff_ne]; omega
  have t1' : (e0 != 0) = true := by rw [bne_iff_ne]; omega
  have hD := parAt_lt h
  have HP := Lib.hid h
  obtain ⟨b, off, c, c0, d0, d1, d2, hl, hm⟩ := par_text h
  have i0 : (0 : Int) < ((r.length + 1 : Nat) : Int) := by omega
  clear h he
  go_enter Tryd.func91, Tryd.ntmps91
  go_wp2_with fail
  refine HN.out.mono ?_
  rintro e w1 ⟨rfl, hb⟩
  have HS := Lib.hid (fail_c D e0 t r w1 (parAt_keep HP.out hb))
  have hk := Kd.of hb (Nat.le_of_lt hD)
  clear hb HN
  go_wp2_with fail
  refine HS.out.mono ?_
  rintro e w2 ⟨rfl, rfl⟩
  go_wp2_with fail
  exact ⟨rfl, rfl, hk⟩
end Go.Proofs.YtbiiempgefjkiaaDoor.Ar
