/- lexer's reference: operator, word, digits. -/
import Derived.Test.YteppndkhmbhnkaaDoorLxY
namespace Go.Proofs.YteppndkhmbhnkaaDoor
open Go.RowKit
set_option linter.unusedVariables false

/-- The reference's operator: among the first so many bytes. -/
def opsR (s : List UInt8) : Nat → Nat
  | 0 => 0
  | m + 1 => if m + 1 ≤ s.length ∧ opS (s.take (m + 1)) = true then m + 1 else opsR s m
theorem opsR_le (s : List UInt8) : ∀ m, m ≤ s.length → opsR s m = opsF s m
  | 0, _ => rfl
  | m + 1, h => by
    unfold opsR opsF
    rw [opsR_le s m (by omega)]
    by_cases h2 : opS (s.take (m + 1)) = true
    · rw [if_pos ⟨h, h2⟩, if_pos h2]
    · rw [if_neg (fun h3 => h2 h3.2), if_neg h2]
theorem opsR_min (s : List UInt8) : ∀ m, opsR s m = opsF s (min m s.length)
  | 0 => by rw [Nat.zero_min]; rfl
  | m + 1 => by
    by_cases h : m + 1 ≤ s.length
    · rw [opsR_le s (m + 1) h, Nat.min_eq_left h]
    · unfold opsR
      rw [if_neg (fun h3 => h h3.1), opsR_min s m]
      congr 1
      omega
set_option maxHeartbeats 8000000 in
set_option maxRecDepth 100000 in
theorem rops_c (s : ByteArray) (p : Nat) (w : World) (hs : s.size ≤ 140737488355328) (hp : p ≤ s.size) : Calls Tryd.prog 81 #[.string s, .int .i64 p] w fun e w' => e = .returned (.int .i64 (opsz (s.data.toList.drop p) : Nat)) ∧ w = w' := by
  obtain ⟨R, hR⟩ : ∃ R : Nat, R = opsz (s.data.toList.drop p) := ⟨_, rfl⟩
  rw [← hR]
  have HR : Hid (R = opsR (s.data.toList.drop p) 3) := Lib.hid (by rw [hR, opsR_min]; rfl)
  clear hR
  have hope := Lib.hid (fun (m : Nat) => ROper_c (s.extract p (p + m)) w)
  go_enter Tryd.func81, Tryd.ntmps81
  go_wp2_with fail
  go_loop [5] (fun kv => ∃ m : Nat, kv = .int .i64 m ∧ m ≤ 3 ∧ Hid (R = opsR (s.data.toList.drop p) m)) (fun kv => (intOf kv).toNat)
  case atStart => exact ⟨3, by go_num, by omega, HR⟩
  case round =>
    obtain ⟨m, rfl, hm1, hx⟩ := hrel
    clear HR
    by_cases h0 : m = 0
    · subst h0
      have hx3 : Hid (R = 0) := Lib.hid hx.out
      clear hx
      go_wp2_with fail
      go_ret
      exact ⟨by rw [hx3.out]; rfl, rfl⟩
    · obtain ⟨q, hq⟩ : ∃ q, m = q + 1 := ⟨m - 1, by omega⟩
      have hx2 := hx.out
      have ho := hope.out m
      have etk : (s.extract p (p + m)).data.toList = (s.data.toList.drop p).take m := by rw [Lib.extract_data, Nat.add_sub_cancel_left]
      rw [etk] at ho
      have e : opsR (s.data.toList.drop p) m = if m ≤ (s.data.toList.drop p).length ∧ opS ((s.data.toList.drop p).take m) = true then m else opsR (s.data.toList.drop p) q := by rw [hq]; rfl
      rw [e, List.length_drop, lenS] at hx2
      have Hq := Lib.hid hq
      have hqm : q < m := by omega
      clear e hx hq etk
      have d1 : decide ((0 : Int) < (m : Int)) = true := decide_eq_true (by omega)
      have d1' : decide (0 < m) = true := decide_eq_true (by omega)
      by_cases hlen : m ≤ s.size - p
      · have d2 : decide ((p : Int) + (m : Int) ≤ (s.size : Int)) = true := decide_eq_true (by omega)
        have d2' : decide (p + m ≤ s.size) = true := decide_eq_true (by omega)
        have i2 : (p : Int) ≤ (p : Int) + (m : Int) := by omega
        have i3 : (p : Int) + (m : Int) ≤ (s.size : Int) := by omega
        rcases hb : opS ((s.data.toList.drop p).take m) with _ | _
        · rw [hb] at hx2 ho
          have Ho := Lib.hid ho
          have hx3 : Hid (R = opsR (s.data.toList.drop p) q) := Lib.hid (by rw [if_neg (by simp)] at hx2; exact hx2)
          clear hx2 ho hb
          go_wp2_with fail
          refine Ho.out.mono ?_
          rintro e w7 ⟨rfl, rfl⟩
          go_wp2_with fail
          go_round
          case rel => exact ⟨q, congrArg (Value.int .i64) (by have := Hq.out; omega), by omega, hx3⟩
          case measure => simp [intOf]; omega
        · rw [hb] at hx2 ho
          have Ho := Lib.hid ho
          have hx3 : Hid (R = m) := Lib.hid (by rw [if_pos ⟨hlen, rfl⟩] at hx2; exact hx2)
          clear hx2 ho hb
          go_wp2_with fail
          refine Ho.out.mono ?_
          rintro e w7 ⟨rfl, rfl⟩
          go_wp2_with fail
          go_ret
          exact ⟨by rw [hx3.out]; rfl, rfl⟩
      · have d2 : decide ((p : Int) + (m : Int) ≤ (s.size : Int)) = false := decide_eq_false (by omega)
        have d2' : decide (p + m ≤ s.size) = false := decide_eq_false (by omega)
        have hx3 : Hid (R = opsR (s.data.toList.drop p) q) := Lib.hid (by rw [if_neg (fun h => hlen h.1)] at hx2; exact hx2)
        clear hx2 ho
        go_wp2_with fail
        go_round
        case rel => exact ⟨q, congrArg (Value.int .i64) (by have := Hq.out; omega), by omega, hx3⟩
        case measure => simp [intOf]; omega
set_option maxHeartbeats 8000000 in
set_option maxRecDepth 100000 in
theorem rword2_c (s : ByteArray) (p : Nat) (w : World) (hs : s.size ≤ 140737488355328) (hp : p ≤ s.size) : Calls Tryd.prog 82 #[.string s, .int .i64 p] w (Gv w (wordF (s.data.toList.length + 1) s.data.toList p)) := by
  obtain ⟨R, hR⟩ : ∃ R : Nat × Nat, R = wordF (s.data.toList.length + 1) s.data.toList p := ⟨_, rfl⟩
  rw [← hR]
  have HR : Hid (∃ F, s.size - p < F ∧ R = wordF F s.data.toList p) := Lib.hid ⟨s.data.toList.length + 1, by rw [lenS]; omega, hR⟩
  clear hR
  have hbla := Lib.hid (fun (k : Nat) (h : k < s.size) => rblank_c (s[k]'h) w)
  have hopb := Lib.hid (fun (k : Nat) (h : k < s.size) => ropb_c (s[k]'h) w)
  have hski := Lib.hid (fun (k : Nat) (h : k < s.size) => rpass_c s k 0 w hs h (by omega))
  go_enter Tryd.func82, Tryd.ntmps82
  go_wp2_with fail
  go_loop [1] (fun kv => ∃ k : Nat, kv = .int .i64 k ∧ k ≤ s.size ∧ Hid (∃ F, s.size - k < F ∧ R = wordF F s.data.toList k)) (fun kv => s.size - (intOf kv).toNat)
  case atStart => exact ⟨p, rfl, hp, HR⟩
  case round =>
    obtain ⟨k, rfl, hk, hx⟩ := hrel
    clear HR
    by_cases hlt : k < s.size
    · have d1 : decide ((k : Int) < (s.size : Int)) = true := decide_eq_true (by omega)
      have d1' : decide (k < s.size) = true := decide_eq_true hlt
      have Hbla := Lib.hid (hbla.out k hlt)
      have Hopb := Lib.hid (hopb.out k hlt)
      obtain ⟨F, hF, hx2⟩ := hx.out
      obtain ⟨F, rfl⟩ : ∃ G, F = G + 1 := ⟨F - 1, by omega⟩
      rw [wordF_lt (show k < s.data.toList.length from hlt), btS hlt] at hx2
      have hbo : borderB (s[k]'hlt) = (blankB (s[k]'hlt) || (s[k]'hlt) == 10 || opB (s[k]'hlt)) := rfl
      rw [hbo] at hx2
      generalize blankB (s[k]'hlt) = bl at *
      generalize opB (s[k]'hlt) = op at *
      clear hbo hx
      rcases bl with _ | _
      · rcases h10 : (s[k]'hlt) == 10 with _ | _
        · have t10 : (((s[k]'hlt).toNat : Int) != 10) = true := u8n h10 rfl
          rw [h10] at hx2
          rcases op with _ | _
          · rw [if_neg (by simp)] at hx2
            have hsc := hski.out k hlt
            have hin := pasL_in (s := s.data.toList) 0 (show k < s.data.toList.length from hlt)
            unfold pasL at hsc
            rcases hq : pasL s.data.toList k 0 with ⟨n, x⟩
            rw [hq] at hin hx2
            unfold pasL at hq
            obtain ⟨hn1, hn2, -⟩ := hin
            rw [lenS] at hn1
            simp only at hn1 hn2
            rcases x with _ | x
            · have hkn := hn2 rfl
              have Hc := Lib.hid (rpass_ok (C := 0) rfl hsc hq)
              have hx3 : Hid (∃ F, s.size - n < F ∧ R = wordF F s.data.toList n) := Lib.hid ⟨F, by omega, hx2⟩
              clear hx2 hsc hq h10
              go_wp2_with fail
              refine Hbla.out.mono ?_
              rintro e w7 ⟨rfl, rfl⟩
              go_wp2_with fail
              refine Hopb.out.mono ?_
              rintro e w7 ⟨rfl, rfl⟩
              go_wp2_with fail
              refine Hc.out.mono ?_
              rintro e w7 ⟨rfl, rfl⟩
              go_wp2_with fail
              go_round
              case rel => exact ⟨n, rfl, hn1, hx3⟩
              case measure => simp [intOf]; omega
            · obtain ⟨E, tE, hE, hc⟩ := rpass_bad (C := 0) rfl hsc hq
              have Hc := Lib.hid hc
              have hx3 : Hid (R = (n, x + 1) ∧ E = ((x + 1 : Nat) : Int)) := Lib.hid ⟨hx2, hE⟩
              clear hx2 hsc hq h10 hc hE
              go_wp2_with fail
              refine Hbla.out.mono ?_
              rintro e w7 ⟨rfl, rfl⟩
              go_wp2_with fail
              refine Hopb.out.mono ?_
              rintro e w7 ⟨rfl, rfl⟩
              go_wp2_with fail
              refine Hc.out.mono ?_
              rintro e w7 ⟨rfl, rfl⟩
              go_wp2_with fail
              go_ret2
              exact ⟨by rw [hx3.out.1, hx3.out.2]; rfl, rfl⟩
          · have hx3 : Hid (R = (k, 0)) := Lib.hid (by rw [if_pos (by simp)] at hx2; exact hx2)
            clear hx2 h10
            go_wp2_with fail
            refine Hbla.out.mono ?_
            rintro e w7 ⟨rfl, rfl⟩
            go_wp2_with fail
            refine Hopb.out.mono ?_
            rintro e w7 ⟨rfl, rfl⟩
            go_wp2_with fail
            go_ret2
            exact ⟨by rw [hx3.out]; rfl, rfl⟩
        · have t10 : (((s[k]'hlt).toNat : Int) != 10) = false := u8n h10 rfl
          rw [h10] at hx2
          have hx3 : Hid (R = (k, 0)) := Lib.hid (by rw [if_pos (by simp)] at hx2; exact hx2)
          clear hx2 h10
          go_wp2_with fail
          refine Hbla.out.mono ?_
          rintro e w7 ⟨rfl, rfl⟩
          go_wp2_with fail
          go_ret2
          exact ⟨by rw [hx3.out]; rfl, rfl⟩
      · have hx3 : Hid (R = (k, 0)) := Lib.hid (by rw [if_pos (by simp)] at hx2; exact hx2)
        clear hx2
        go_wp2_with fail
        refine Hbla.out.mono ?_
        rintro e w7 ⟨rfl, rfl⟩
        go_wp2_with fail
        go_ret2
        exact ⟨by rw [hx3.out]; rfl, rfl⟩
    · have hks : k = s.size := by omega
      subst hks
      have d1 : decide ((s.size : Int) < (s.size : Int)) = false := decide_eq_false (by omega)
      have hx3 : Hid (R = (s.size, 0)) := Lib.hid (by obtain ⟨F, hF, h⟩ := hx.out; rw [wordF_ge (by rw [lenS]; exact Nat.le_refl _)] at h; exact h)
      clear hx
      go_wp2_with fail
      go_ret2
      exact ⟨by rw [hx3.out]; rfl, rfl⟩
theorem all_at {l : List UInt8} {k : Nat} (h : k < l.length) (f : UInt8 → Bool) : (l.drop k).all f = (f (l[k]'h) && (l.drop (k + 1)).all f) := by
  rw [List.drop_eq_getElem_cons h, List.all_cons]
set_option maxHeartbeats 4000000 in
set_option maxRecDepth 100000 in
theorem rdigs_c (s : ByteArray) (w : World) (hs : s.size ≤ 140737488355328) (h0 : 0 < s.size) : Calls Tryd.prog 83 #[.string s] w fun e w' => e = .returned (.bool (s.data.toList.all digB)) ∧ w = w' := by
  obtain ⟨R, hR⟩ : ∃ R : Bool, R = s.data.toList.all digB := ⟨_, rfl⟩
  rw [← hR]
  have HR : Hid (R = (s.data.toList.drop 0).all digB) := Lib.hid (by rw [List.drop_zero]; exact hR)
  clear hR
  have hnz : s.data.toList ≠ [] := fun h => by have := lenS s; rw [h] at this; simp at this; omega
  have e1 : s.toList.isEmpty = false := by rw [ByteArray.toList_eq]; exact List.isEmpty_eq_false_iff.2 hnz
  have e2 : (s.toList == []) = false := by rw [ByteArray.toList_eq]; exact beq_eq_false_iff_ne.2 hnz
  clear hnz
  have hdi := Lib.hid (fun (k : Nat) (h : k < s.size) => rdig_c (s[k]'h) w)
  go_enter Tryd.func83, Tryd.ntmps83
  go_wp2_with fail
  go_loop [3] (fun kv => ∃ k : Nat, kv = .int .i64 k ∧ k ≤ s.size ∧ Hid (R = (s.data.toList.drop k).all digB)) (fun kv => s.size - (intOf kv).toNat)
  case atStart => exact ⟨0, by go_num, by omega, HR⟩
  case round =>
    obtain ⟨k, rfl, hk, hx⟩ := hrel
    clear HR
    by_cases hlt : k < s.size
    · have d1 : decide ((k : Int) < (s.size : Int)) = true := decide_eq_true (by omega)
      have d1' : decide (k < s.size) = true := decide_eq_true hlt
      have hx2 := hx.out
      rw [all_at (show k < s.data.toList.length from hlt)] at hx2
      have e : s.data.toList[k]'hlt = s[k]'hlt := rfl
      rw [e] at hx2
      have Hd := Lib.hid (hdi.out k hlt)
      generalize digB (s[k]'hlt) = b at *
      clear hx e
      rcases b with _ | _
      · have hx3 : Hid (R = false) := Lib.hid hx2
        clear hx2
        go_wp2_with fail
        refine Hd.out.mono ?_
        rintro e w7 ⟨rfl, rfl⟩
        go_wp2_with fail
        go_ret
        exact ⟨by rw [hx3.out]; rfl, rfl⟩
      · have hx3 : Hid (R = (s.data.toList.drop (k + 1)).all digB) := Lib.hid hx2
        clear hx2
        go_wp2_with fail
        refine Hd.out.mono ?_
        rintro e w7 ⟨rfl, rfl⟩
        go_wp2_with fail
        go_round
        case rel => exact ⟨k + 1, by go_num, by omega, hx3⟩
        case measure => simp [intOf]; omega
    · have hks : k = s.size := by omega
      subst hks
      have d1 : decide ((s.size : Int) < (s.size : Int)) = false := decide_eq_false (by omega)
      have hx3 : Hid (R = true) := Lib.hid (by have := hx.out; rw [List.drop_of_length_le (by rw [lenS]; exact Nat.le_refl _)] at this; exact this)
      clear hx
      go_wp2_with fail
      go_ret
      exact ⟨by rw [hx3.out]; rfl, rfl⟩
end Go.Proofs.YteppndkhmbhnkaaDoor
