/- The contracts of the reference's Digits and Plain. -/
import Derived.Test.YticehbhedoploaaGreatDoorCcRCh
namespace Go.Proofs.YticehbhedoploaaGreatDoor.Cc
open Go.RowKit

theorem dv_low {s : ByteArray} (h0 : 0 < s.size) (h1 : 49 ≤ (s[0]'h0).toNat) : ∀ k, k < s.size → 10 ^ k ≤ dv s (k + 1)
  | 0, h => by rw [dv_succ h]; simp only [dv]; omega
  | k + 1, h => by
    have := dv_low h0 h1 k (by omega)
    rw [dv_succ h, Nat.pow_succ]
    omega

theorem digP_short {s : ByteArray} (h : DigP s) : s.size ≤ 10 := by
  obtain ⟨h1, h2, h3, h4⟩ := h
  by_cases hl : s.size ≤ 10
  · exact hl
  · exfalso
    have hd := of_decide_eq_true (h3 0 h1)
    have hge : s.data.toList[0]? = some (s[0]'h1) := by rw [List.getElem?_eq_getElem (show 0 < s.data.toList.length from h1)]; rfl
    have hne : (s[0]'h1).toNat ≠ 48 := by
      intro e
      apply h2
      refine ⟨?_, by omega⟩
      rw [hge]
      exact congrArg some (UInt8.toNat_inj.1 e)
    have hlow : 10 ^ 10 ≤ dv s 11 := dv_low h1 (by omega) 10 (by omega)
    have hm := dv_mono s 11 s.size (by omega)
    omega

set_option maxHeartbeats 2000000 in
theorem rdigits_c (s : ByteArray) (F : Bool) (hF : F = true ↔ DigP s) (w : World) (hs : s.size ≤ 1000) :
    Calls Tryz.prog 287 #[.string s] w fun e w' => e = .returned (.tuple #[.int .i64 (if F = true then (dv s s.size : Int) else 0), .bool F]) ∧ w = w' := by
  have HF := Lib.hid hF
  clear hF
  by_cases q0 : s.size = 0
  · have hf : F = false := by
      rcases F with _ | _
      · rfl
      · have := (HF.out.1 rfl).1; omega
    subst hf
    obtain ⟨e1, e2⟩ := empty_tests q0
    go_enter Tryz.func287, Tryz.ntmps287
    go_wp2_with fail
    go_ret2
    exact ⟨rfl, rfl⟩
  obtain ⟨e1, e2⟩ := nonempty_tests q0
  have hpos : 0 < s.size := by omega
  by_cases q1 : 10 < s.size
  · have hf : F = false := by
      rcases F with _ | _
      · rfl
      · have := digP_short (HF.out.1 rfl); omega
    subst hf
    have d1 : decide ((10 : Int) < (s.size : Int)) = true := decide_eq_true (by omega)
    go_enter Tryz.func287, Tryz.ntmps287
    go_wp2_with fail
    go_ret2
    exact ⟨rfl, rfl⟩
  have d1 : decide ((10 : Int) < (s.size : Int)) = false := decide_eq_false (by omega)
  have hge : s.data.toList[0]? = some (s[0]'hpos) := by rw [List.getElem?_eq_getElem (show 0 < s.data.toList.length from hpos)]; rfl
  by_cases q2 : (s[0]'hpos).toNat = 48 ∧ 1 < s.size
  · have hf : F = false := by
      rcases F with _ | _
      · rfl
      · exact absurd ⟨by rw [hge]; exact congrArg some (UInt8.toNat_inj.1 q2.1), q2.2⟩ (HF.out.1 rfl).2.1
    subst hf
    have t1 : (((s[0]'hpos).toNat : Int) == 48) = true := by rw [q2.1]; rfl
    have d2 : decide ((1 : Int) < (s.size : Int)) = true := decide_eq_true (by omega)
    clear q2 hge
    go_enter Tryz.func287, Tryz.ntmps287
    go_wp2_with fail
    go_ret2
    exact ⟨rfl, rfl⟩
  have hgo : (((s[0]'hpos).toNat : Int) == 48) = false ∨ ((((s[0]'hpos).toNat : Int) == 48) = true ∧ decide ((1 : Int) < (s.size : Int)) = false) := by
    by_cases h48 : (s[0]'hpos).toNat = 48
    · right
      exact ⟨by rw [h48]; rfl, decide_eq_false (fun h => q2 ⟨h48, by omega⟩)⟩
    · left
      rw [beq_eq_false_iff_ne]; omega
  have Hnz : Hid (¬ (s.data.toList[0]? = some 48 ∧ 1 < s.size)) := Lib.hid (by
    rw [hge]
    rintro ⟨h, h'⟩
    apply q2
    exact ⟨by injection h with h; rw [h]; rfl, h'⟩)
  have Hgo := Lib.hid hgo
  clear hgo q2 hge
  rcases Hgo.out with t1 | ⟨t1, d2⟩
  all_goals
    go_enter Tryz.func287, Tryz.ntmps287
    go_wp2_with fail
    go_loop [4, 5] (fun nv iv => ∃ k : Nat, k ≤ s.size ∧ iv = .int .i64 k ∧ nv = .int .i64 (dv s k) ∧ dv s k < 10 ^ k ∧ Hid (∀ i (h : i < s.size), i < k → digB (s[i]'h).toNat = true)) (fun _ iv => s.size - (intOf iv).toNat)
    case atStart => exact ⟨0, by omega, rfl, rfl, by simp [dv], Lib.hid (fun i h hi => by omega)⟩
    case round =>
      obtain ⟨k, hk, rfl, rfl, hdk, hall⟩ := hrel
      clear e1 e2 t1 d1
      have hp : 10 ^ k ≤ 10 ^ 10 := Nat.pow_le_pow_right (by omega) (by omega)
      have hbnd : dv s k < 10000000000 := by omega
      by_cases hlt : k < s.size
      · have i1 : (k : Int) < (s.size : Int) := by omega
        have hdv := dv_succ hlt
        have hb0 := (s[k]'hlt).toNat_lt
        by_cases c1 : digB (s[k]'hlt).toNat = true
        · have hR := of_decide_eq_true c1
          have hall2 : Hid (∀ i (h : i < s.size), i < k + 1 → digB (s[i]'h).toNat = true) := Lib.hid (fun i h hi => by
            by_cases hi' : i < k
            · exact hall.out i h hi'
            · obtain rfl : i = k := by omega
              exact c1)
          have hdk2 : dv s (k + 1) < 10 ^ (k + 1) := by rw [hdv, Nat.pow_succ]; omega
          have Hdv := Lib.hid hdv
          have Hdk := Lib.hid hdk2
          have Hdk1 := Lib.hid hdk
          clear hdv hdk2 hdk hp
          generalize dv s k = V at *
          have r1 : 48 ≤ ((s[k]'hlt).toNat : Int) := by omega
          have r2 : ((s[k]'hlt).toNat : Int) ≤ 57 := by omega
          clear hR
          go_wp2_with fail
          refine (rdigit_c _ _).mono ?_
          rintro e w' ⟨rfl, rfl⟩
          go_wp2_with fail
          go_round
          case rel => exact ⟨k + 1, by omega, by go_num, by rw [Hdv.out]; congr 1; omega, Hdk.out, hall2⟩
          case measure => simp [intOf]; omega
        · have hf : F = false := by
            rcases F with _ | _
            · rfl
            · exact absurd ((HF.out.1 rfl).2.2.1 k hlt) c1
          subst hf
          have c1' : digB (s[k]'hlt).toNat = false := by simpa using c1
          clear c1 hdv hdk hp
          go_wp2_with fail
          refine (rdigit_c _ _).mono ?_
          rintro e w' ⟨rfl, rfl⟩
          go_wp2_with fail
          go_ret2
          exact ⟨rfl, rfl⟩
      · have hks : k = s.size := by omega
        subst hks
        clear hdk hp
        by_cases c2 : 2147483647 < dv s s.size
        · have hf : F = false := by
            rcases F with _ | _
            · rfl
            · have := (HF.out.1 rfl).2.2.2; omega
          subst hf
          generalize dv s s.size = V at *
          go_wp2_with fail
          go_ret2
          exact ⟨rfl, rfl⟩
        · have hf : F = true := HF.out.2 ⟨hpos, Hnz.out, fun i h => hall.out i h h, by omega⟩
          subst hf
          go_wp2_with fail
          go_ret2
          exact ⟨rfl, rfl⟩

def rplainS : ByteArray := ⟨#[45, 46, 47, 44, 58, 43, 37, 64, 94]⟩
theorem plain_same (b : Nat) : PlainAt b ↔ wordB b = true ∨ among rplainS b = true := by
  have h1 : among plainS b = true ↔ b = 95 ∨ among rplainS b = true := by
    unfold among
    rw [decide_eq_true_iff, decide_eq_true_iff]
    constructor
    · rintro ⟨i, h, e⟩
      have h10 : i < 10 := h
      match i, h10 with
      | 0, _ => left; exact e.symm
      | j + 1, hj => right; refine ⟨j, show j < 9 by omega, ?_⟩; rw [← e]; rfl
    · rintro (rfl | ⟨i, h, e⟩)
      · exact ⟨0, by decide, rfl⟩
      · exact ⟨i + 1, by have : i < 9 := h; show i + 1 < 10; omega, by rw [← e]; rfl⟩
  have h2 : wordB b = true ↔ letB b = true ∨ digB b = true ∨ b = 95 := by
    unfold wordB
    rw [decide_eq_true_iff]
    constructor <;> rintro (h | h | h)
    · exact .inl h
    · exact .inr (.inl h)
    · exact .inr (.inr (by omega))
    · exact .inl h
    · exact .inr (.inl h)
    · exact .inr (.inr (by omega))
  rw [h2]
  unfold PlainAt
  rw [h1]
  constructor
  · rintro (h | h | h | h)
    · exact .inl (.inl h)
    · exact .inl (.inr (.inl h))
    · exact .inl (.inr (.inr h))
    · exact .inr h
  · rintro ((h | h | h) | h)
    · exact .inl h
    · exact .inr (.inl h)
    · exact .inr (.inr (.inl h))
    · exact .inr (.inr (.inr h))

set_option maxHeartbeats 1000000 in
theorem rplain_c (s : ByteArray) (F : Bool) (hF : F = true ↔ PlainP s) (w : World) (hs : s.size ≤ 1000000000) :
    Calls Tryz.prog 50 #[.string s] w fun e w' => e = .returned (.bool F) ∧ w = w' := by
  have HF := Lib.hid hF
  clear hF
  go_enter Tryz.func50, Tryz.ntmps50
  go_wp2_with fail
  go_loop [3] (fun iv => ∃ k : Nat, k ≤ s.size ∧ iv = .int .i64 k ∧ Hid (∀ i (h : i < s.size), i < k → PlainAt (s[i]'h).toNat)) (fun iv => s.size - (intOf iv).toNat)
  case atStart => exact ⟨0, by omega, rfl, Lib.hid (fun i h hi => by omega)⟩
  case round =>
    obtain ⟨k, hk, rfl, hall⟩ := hrel
    by_cases hlt : k < s.size
    · have i1 : (k : Int) < (s.size : Int) := by omega
      have hps := plain_same (s[k]'hlt).toNat
      have hall2 : PlainAt (s[k]'hlt).toNat → Hid (∀ i (h : i < s.size), i < k + 1 → PlainAt (s[i]'h).toNat) := fun c1 => Lib.hid (fun i h hi => by
        by_cases hi' : i < k
        · exact hall.out i h hi'
        · obtain rfl : i = k := by omega
          exact c1)
      have Hps := Lib.hid hps
      have Hall2 := Lib.hid hall2
      clear hps hall2
      by_cases c1 : wordB (s[k]'hlt).toNat = true
      · have h2 := Hall2.out (Hps.out.2 (.inl c1))
        go_wp2_with fail
        refine (rword_c _ _).mono ?_
        rintro e w' ⟨rfl, rfl⟩
        go_wp2_with fail
        go_round
        case rel => exact ⟨k + 1, by omega, by go_num, h2⟩
        case measure => simp [intOf]; omega
      have c1' : wordB (s[k]'hlt).toNat = false := by simpa using c1
      by_cases c2 : among rplainS (s[k]'hlt).toNat = true
      · have h2 := Hall2.out (Hps.out.2 (.inr c2))
        clear c1
        go_wp2_with fail
        refine (rword_c _ _).mono ?_
        rintro e w' ⟨rfl, rfl⟩
        go_wp2_with fail
        refine (has_c rplainS _ _ (by decide)).mono ?_
        rintro e w' ⟨rfl, rfl⟩
        go_wp2_with fail
        go_round
        case rel => exact ⟨k + 1, by omega, by go_num, h2⟩
        case measure => simp [intOf]; omega
      · have hf : F = false := by
          rcases F with _ | _
          · rfl
          · rcases Hps.out.1 ((HF.out.1 rfl).2 k hlt) with h | h
            · exact absurd h c1
            · exact absurd h c2
        subst hf
        have c2' : among rplainS (s[k]'hlt).toNat = false := by simpa using c2
        clear c1 c2
        go_wp2_with fail
        refine (rword_c _ _).mono ?_
        rintro e w' ⟨rfl, rfl⟩
        go_wp2_with fail
        refine (has_c rplainS _ _ (by decide)).mono ?_
        rintro e w' ⟨rfl, rfl⟩
        go_wp2_with fail
        go_ret
        exact ⟨rfl, rfl⟩
    · by_cases q0 : s.size = 0
      · obtain ⟨e1, e2⟩ := empty_tests q0
        have hf : F = false := by
          rcases F with _ | _
          · rfl
          · have := (HF.out.1 rfl).1; omega
        subst hf
        go_wp2_with fail
        go_ret
        exact ⟨rfl, rfl⟩
      · obtain ⟨e1, e2⟩ := nonempty_tests q0
        have hf : F = true := HF.out.2 ⟨by omega, fun i h => hall.out i h (by omega)⟩
        subst hf
        go_wp2_with fail
        go_ret
        exact ⟨rfl, rfl⟩
end Go.Proofs.YticehbhedoploaaGreatDoor.Cc
