/- heredoc's reference: Delimiter. -/
import Derived.Test.YtlenmkcafoiefabGreatDoorHdN
namespace Go.Proofs.YtlenmkcafoiefabGreatDoor
open Go.RowKit
set_option linter.unusedVariables false
set_option linter.unusedSimpArgs false

set_option maxHeartbeats 8000000 in
set_option maxRecDepth 100000 in
theorem RDelim_c (s : ByteArray) (w : World) (hs : s.size ≤ 1000000) : Calls Tryz.prog 24 #[.string s] w fun e w' => (∃ m : Nat, e = .returned (.string (cand m)) ∧ m ≤ s.size ∧ FreeAt (lnsL s 0) m) ∧ w = w' := by
  have HH := Lib.hid (fun t W => has_c s t W (by omega))
  have HN := Lib.hid (fun n W h => number_c n W h)
  have hlen := lnsF_len (s := s) (s.size + 1) 0
  rw [show lnsF (s.size + 1) s 0 = lnsL s 0 from rfl] at hlen
  generalize lnsL s 0 = L at *
  have H0 := Lib.hid (HH.out (cand 0) w)
  have Hf0 : Hid (tookB L (cand 0) = false → FreeAt L 0) := Lib.hid (fun h => ⟨fun i hi => by omega, h⟩)
  have Ht0 : Hid (tookB L (cand 0) = true → ∀ i, i < 1 → tookB L (cand i) = true) := Lib.hid (fun h i hi => by
    obtain rfl : i = 0 := by omega
    exact h)
  generalize tookB L (cand 0) = R at *
  rw [cand0] at H0
  rcases R with _ | _
  · go_enter Tryz.func24, Tryz.ntmps24
    go_wp2_with fail
    refine H0.out.mono ?_
    rintro e w2 ⟨rfl, rfl⟩
    go_wp2_with fail
    go_ret
    exact ⟨⟨0, rfl, by omega, Hf0.out trivial⟩, rfl⟩
  · have Ht1 := Lib.hid (Ht0.out rfl)
    clear Ht0 Hf0
    go_enter Tryz.func24, Tryz.ntmps24
    go_wp2_with fail
    refine H0.out.mono ?_
    rintro e w2 ⟨rfl, rfl⟩
    go_wp2_with fail
    go_loop [3] (fun kv => ∃ n : Nat, kv = .int .i64 n ∧ 1 ≤ n ∧ n ≤ s.size + 1 ∧ Hid (∀ i, i < n → tookB L (cand i) = true)) (fun kv => s.size + 1 - (intOf kv).toNat)
    case atStart => exact ⟨1, rfl, by omega, by omega, Ht1⟩
    case round =>
      obtain ⟨n, rfl, hn1, hn, hx⟩ := hrel
      clear Ht1 H0
      have hle := took_le hx.out
      have hns : n ≤ s.size := by omega
      have d1 : decide ((n : Int) ≤ (s.size : Int)) = true := decide_eq_true (by omega)
      have d1' : decide (n ≤ s.size) = true := decide_eq_true hns
      have HN1 := Lib.hid (HN.out n w (by omega))
      have hce : cand n = ⟨#[69, 79, 70]⟩ ++ ⟨(Lib.decDigits n).toArray⟩ := by
        obtain ⟨m, rfl⟩ : ∃ m, n = m + 1 := ⟨n - 1, by omega⟩
        rfl
      have hcs := cand_size n (by omega)
      rw [hce] at hcs
      have hdl : (Lib.decDigits n).length ≤ 1000 := by
        rw [ByteArray.size_append] at hcs
        have e : (⟨(Lib.decDigits n).toArray⟩ : ByteArray).size = (Lib.decDigits n).length := by simp [ByteArray.size]
        omega
      have H1 := Lib.hid (HH.out (cand n) w)
      have Hfr : Hid (tookB L (cand n) = false → FreeAt L n) := Lib.hid (fun h => ⟨hx.out, h⟩)
      have Htk : Hid (tookB L (cand n) = true → ∀ i, i < n + 1 → tookB L (cand i) = true) := Lib.hid (fun h i hi => by
        by_cases e : i = n
        · subst e; exact h
        · exact hx.out i (by omega))
      have Hce := Lib.hid hce.symm
      generalize tookB L (cand n) = R at *
      rw [hce] at H1
      clear hce hcs hx
      rcases R with _ | _
      · have Hfr2 := Lib.hid (Hfr.out rfl)
        clear Hfr Htk
        go_wp2_with fail
        refine HN1.out.mono ?_
        rintro e w2 ⟨rfl, rfl⟩
        go_wp2_with fail
        all_goals try (exfalso; omega)
        refine H1.out.mono ?_
        rintro e w2 ⟨rfl, rfl⟩
        go_wp2_with fail
        refine HN1.out.mono ?_
        rintro e w2 ⟨rfl, rfl⟩
        go_wp2_with fail
        all_goals try (exfalso; omega)
        go_ret
        exact ⟨⟨n, by rw [← Hce.out]; rfl, hns, Hfr2.out⟩, rfl⟩
      · have Htk2 := Lib.hid (Htk.out rfl)
        clear Hfr Htk
        go_wp2_with fail
        refine HN1.out.mono ?_
        rintro e w2 ⟨rfl, rfl⟩
        go_wp2_with fail
        all_goals try (exfalso; omega)
        refine H1.out.mono ?_
        rintro e w2 ⟨rfl, rfl⟩
        go_wp2_with fail
        go_round
        case rel => exact ⟨n + 1, by go_num, by omega, by omega, Htk2⟩
        case measure => simp [intOf]; omega
end Go.Proofs.YtlenmkcafoiefabGreatDoor
