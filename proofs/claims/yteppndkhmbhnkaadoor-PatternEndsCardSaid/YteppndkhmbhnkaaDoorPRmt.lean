/- pattern: the reference's Match, Prefix, Suffix. -/
import Derived.Test.YteppndkhmbhnkaaDoorPRen
namespace Go.Proofs.YteppndkhmbhnkaaDoor
open Go.RowKit
set_option linter.unusedVariables false

set_option maxHeartbeats 8000000 in
set_option maxRecDepth 100000 in
theorem refMatch_c (A : Option Addr) (is : List It) (c : Nat) (s : List UInt8) (w : World) (hp : PatAt w w.heap.size A is) (ho : ∀ x ∈ is, ItOk x) (hl : is.length ≤ 1000000) (hsl : s.length ≤ 1000000) :
    Calls Tryd.prog 24 #[.slice A is.length c, .string ⟨s.toArray⟩] w fun e w' => e = .returned (.bool (mtL is s)) ∧ Below w.heap.size w w' := by
  have hval := Lib.hid (refValid_c A is c w hp ho hl)
  have hsz : (⟨s.toArray⟩ : ByteArray).size = s.length := by show s.toArray.size = _; simp
  rcases hany : is.any inv with _ | _
  rotate_left
  · rw [mtL_inv is s hany]
    rw [hany] at hval
    clear hp ho hany
    go_enter Tryd.func24, Tryd.ntmps24
    go_wp2_with fail
    refine hval.out.mono ?_
    rintro e w7 ⟨rfl, m7⟩
    go_wp2_with fail
    go_ret
    exact ⟨rfl, m7⟩
  have hm : mtL is s = endB s is s.length := by rw [Bool.eq_iff_iff, mtL_iff _ _ hany, endB_iff]
  rw [hm]
  have hen := Lib.hid (fun W (hW : Below w.heap.size w W) => ends_c A is c s W (patAt_mono (patAt_below hp hW (Nat.le_refl _)) hW.size) ho hl hany hsl)
  rw [hany] at hval
  have i1 : (s.length : Int) < (s.length : Int) + 1 := by omega
  generalize endB s is = F at *
  obtain ⟨r, hr0⟩ : ∃ r, r = F s.length := ⟨_, rfl⟩
  rw [← hr0]
  have Hr0 := Lib.hid hr0
  clear hp ho hany hm hr0
  go_enter Tryd.func24, Tryd.ntmps24
  go_wp2_with fail
  refine hval.out.mono ?_
  rintro e w7 ⟨rfl, m7⟩
  go_wp2_with fail
  refine (hen.out _ m7).mono ?_
  rintro e w8 ⟨g, rfl, hr, m8⟩
  obtain ⟨x0, _⟩ := hr.2 s.length (Nat.le_refl _)
  have m9 := m7.trans (m8.mono m7.size)
  rw [← Hr0.out] at x0
  clear hen hval hr m7 m8 Hr0
  go_wp2_with fail
  go_ret
  exact ⟨rfl, m9⟩

set_option maxHeartbeats 8000000 in
set_option maxRecDepth 100000 in
theorem refPrefix_c (A : Option Addr) (is : List It) (c : Nat) (s : List UInt8) (lg : Bool) (w : World) (hp : PatAt w w.heap.size A is) (ho : ∀ x ∈ is, ItOk x) (hl : is.length ≤ 1000000) (hsl : s.length ≤ 1000000) :
    Calls Tryd.prog 26 #[.slice A is.length c, .string ⟨s.toArray⟩, .bool lg] w fun e w' => e = .returned (.tuple #[.int .i64 ((preL is s lg).1 : Nat), .bool (preL is s lg).2]) ∧ Below w.heap.size w w' := by
  have hval := Lib.hid (refValid_c A is c w hp ho hl)
  have hsz : (⟨s.toArray⟩ : ByteArray).size = s.length := by show s.toArray.size = _; simp
  rcases hany : is.any inv with _ | _
  rotate_left
  · have e : preL is s lg = (0, false) := by unfold preL; rw [if_pos hany]
    rw [e]
    rw [hany] at hval
    clear hp ho hany
    go_enter Tryd.func26, Tryd.ntmps26
    go_wp2_with fail
    refine hval.out.mono ?_
    rintro e w7 ⟨rfl, m7⟩
    go_wp2_with fail
    first | (go_ret; exact ⟨rfl, m7⟩) | exact bodyPost_ret (results_tmp2 rfl _ _ _) rfl ⟨rfl, m7⟩
  have hfin : Hid (∀ out ok, Best (endB s is) lg (s.length + 1) out ok → (out, ok) = preL is s lg) := Lib.hid (fun out ok h => best_pre hany h)
  have hen := Lib.hid (fun W (hW : Below w.heap.size w W) => ends_c A is c s W (patAt_mono (patAt_below hp hW (Nat.le_refl _)) hW.size) ho hl hany hsl)
  rw [hany] at hval
  generalize preL is s lg = R at *
  generalize endB s is = F at *
  clear hp ho hany
  go_enter Tryd.func26, Tryd.ntmps26
  go_wp2_with fail
  refine hval.out.mono ?_
  rintro e w7 ⟨rfl, m7⟩
  go_wp2_with fail
  refine (hen.out _ m7).mono ?_
  rintro e w8 ⟨g, rfl, hr, m8⟩
  have m9 := m7.trans (m8.mono m7.size)
  have Hr := Lib.hid hr
  clear hen hval hr m7 m8
  go_wp2_with fail
  go_loop [9, 10, 11] (fun ov bv kv => ∃ (out k : Nat) (ok : Bool), ov = .int .i64 out ∧ bv = .bool ok ∧ kv = .int .i64 k ∧ k ≤ s.length + 1 ∧ Hid (Best F lg k out ok)) (fun _ _ kv => s.length + 1 - (intOf kv).toNat)
  case atStart => exact ⟨0, 0, false, rfl, rfl, rfl, by omega, Lib.hid (best_zero _ _)⟩
  case round =>
    obtain ⟨out, k, ok, rfl, rfl, rfl, hk, hB⟩ := hrel
    by_cases hks : k ≤ s.length
    · have d2 : decide ((k : Int) ≤ (s.length : Int)) = true := decide_eq_true (by omega)
      have d2' : decide (k ≤ s.length) = true := decide_eq_true hks
      have j2 : (k : Int) < (s.length : Int) + 1 := by omega
      obtain ⟨x0, _⟩ := Hr.out.2 k hks
      rcases hF : F k with _ | _
      · rw [hF] at x0
        have hB2 := Lib.hid (best_miss hB.out (.inl hF))
        clear hB hF
        go_wp2_with fail
        go_round
        case rel => exact ⟨out, k + 1, ok, rfl, rfl, by go_num, by omega, hB2⟩
        case measure => simp [intOf]; omega
      · rw [hF] at x0
        rcases lg with _ | _
        · rcases ok with _ | _
          · have hB2 := Lib.hid (best_hit hB.out hF (.inr rfl))
            clear hB hF
            go_wp2_with fail
            go_round
            case rel => exact ⟨k, k + 1, true, by go_num, rfl, by go_num, by omega, hB2⟩
            case measure => simp [intOf]; omega
          · have hB2 := Lib.hid (best_miss hB.out (.inr ⟨rfl, rfl⟩))
            clear hB hF
            go_wp2_with fail
            go_round
            case rel => exact ⟨out, k + 1, true, rfl, rfl, by go_num, by omega, hB2⟩
            case measure => simp [intOf]; omega
        · have hB2 := Lib.hid (best_hit hB.out hF (.inl rfl))
          clear hB hF
          go_wp2_with fail
          go_round
          case rel => exact ⟨k, k + 1, true, by go_num, rfl, by go_num, by omega, hB2⟩
          case measure => simp [intOf]; omega
    · have hke : k = s.length + 1 := by omega
      have d2 : decide ((k : Int) ≤ (s.length : Int)) = false := decide_eq_false (by omega)
      have d2' : decide (k ≤ s.length) = false := decide_eq_false hks
      have hR : (out, ok) = R := hfin.out out ok (by rw [← hke]; exact hB.out)
      subst hR
      clear hB hke hfin
      go_wp2_with fail
      first | (go_ret; exact ⟨rfl, m9⟩) | exact bodyPost_ret (results_tmp2 rfl _ _ _) rfl ⟨rfl, m9⟩

set_option maxHeartbeats 8000000 in
set_option maxRecDepth 100000 in
theorem refSuffix_c (A : Option Addr) (is : List It) (c : Nat) (s : List UInt8) (lg : Bool) (w : World) (hp : PatAt w w.heap.size A is) (ho : ∀ x ∈ is, ItOk x) (hl : is.length ≤ 1000000) (hsl : s.length ≤ 1000000) :
    Calls Tryd.prog 28 #[.slice A is.length c, .string ⟨s.toArray⟩, .bool lg] w fun e w' => e = .returned (.tuple #[.int .i64 ((sufL is s lg).1 : Nat), .bool (sufL is s lg).2]) ∧ Below w.heap.size w w' := by
  have hsz : (⟨s.toArray⟩ : ByteArray).size = s.length := by show s.toArray.size = _; simp
  unfold sufL
  have hfin : Hid (∀ out ok, Best (fun n => mtL is (s.drop (s.length - n))) lg (s.length + 1) out ok → (out, ok) = preL is.reverse s.reverse lg) := Lib.hid (fun out ok h => best_suf h)
  have hmt : Hid (∀ W k, Below w.heap.size w W → k ≤ s.length → Calls Tryd.prog 24 #[.slice A is.length c, .string ((⟨s.toArray⟩ : ByteArray).extract (s.length - k) s.length)] W fun e w' => e = .returned (.bool (mtL is (s.drop (s.length - k)))) ∧ Below w.heap.size w w') := Lib.hid (fun W k hW hk => by
    have e : ((⟨s.toArray⟩ : ByteArray).extract (s.length - k) s.length) = ⟨(s.drop (s.length - k)).toArray⟩ := by
      apply ByteArray.ext
      simp
      rw [List.take_of_length_le (by rw [List.length_drop]; omega)]
    rw [e]
    refine (refMatch_c A is c (s.drop (s.length - k)) W (patAt_mono (patAt_below hp hW (Nat.le_refl _)) hW.size) ho hl (by rw [List.length_drop]; omega)).mono ?_
    rintro e w' ⟨rfl, hb⟩
    exact ⟨rfl, hW.trans (hb.mono hW.size)⟩)
  generalize hF : (fun n => mtL is (s.drop (s.length - n))) = F at *
  have hmt2 : Hid (∀ W k, Below w.heap.size w W → k ≤ s.length → Calls Tryd.prog 24 #[.slice A is.length c, .string ((⟨s.toArray⟩ : ByteArray).extract (s.length - k) s.length)] W fun e w' => e = .returned (.bool (F k)) ∧ Below w.heap.size w w') := Lib.hid (by
    subst hF
    exact hmt.out)
  generalize preL is.reverse s.reverse lg = R at *
  clear hp ho hF hmt
  go_enter Tryd.func28, Tryd.ntmps28
  go_wp2_with fail
  go_loopw [8, 9, 10] (fun ov bv kv wr => ∃ (out k : Nat) (ok : Bool), ov = .int .i64 out ∧ bv = .bool ok ∧ kv = .int .i64 k ∧ k ≤ s.length + 1 ∧ Below w.heap.size w wr ∧ Hid (Best F lg k out ok)) (fun _ _ kv _ => s.length + 1 - (intOf kv).toNat)
  case atStart => exact ⟨0, 0, false, rfl, rfl, rfl, by omega, Below.refl _ _, Lib.hid (best_zero _ _)⟩
  case round =>
    obtain ⟨out, k, ok, rfl, rfl, rfl, hk, hb, hB⟩ := hrel
    by_cases hks : k ≤ s.length
    · have d2 : decide ((k : Int) ≤ (s.length : Int)) = true := decide_eq_true (by omega)
      have d2' : decide (k ≤ s.length) = true := decide_eq_true hks
      have i1 : IntKind.i64.wrap ((s.length : Int) - (k : Int)) = (s.length : Int) - (k : Int) := IntWalk.i64_in _ (by omega)
      have i2 : (0 : Int) ≤ (s.length : Int) - (k : Int) := by omega
      have i3 : ((s.length : Int) - (k : Int)).toNat = s.length - k := by omega
      have i4 : (s.length : Int) - (k : Int) ≤ (s.length : Int) := by omega
      by_cases hc : lg = false ∧ ok = true
      · obtain ⟨rfl, rfl⟩ := hc
        have hB2 := Lib.hid (best_miss hB.out (.inr ⟨rfl, rfl⟩))
        clear hB hmt2
        go_wp2_with fail
        go_roundw
        case rel => exact ⟨out, k + 1, true, rfl, rfl, by go_num, by omega, hb, hB2⟩
        case measure => simp [intOf]; omega
      · have hc2 : lg = true ∨ lg = false ∧ ok = false := by
          rcases lg with _ | _
          · rcases ok with _ | _
            · exact .inr ⟨rfl, rfl⟩
            · exact absurd ⟨rfl, rfl⟩ hc
          · exact .inl rfl
        have hc3 : lg = true ∨ ok = false := hc2.elim .inl (fun h => .inr h.2)
        have Hc3 := Lib.hid hc3
        have hcall := Lib.hid (hmt2.out _ k hb hks)
        clear hmt2 hc hc3
        rcases hFk : F k with _ | _
        · rw [hFk] at hcall
          have hB2 := Lib.hid (best_miss hB.out (.inl hFk))
          clear hB hFk
          rcases hc2 with rfl | ⟨rfl, rfl⟩
          all_goals
            go_wp2_with fail
            refine hcall.out.mono ?_
            rintro e w7 ⟨rfl, m7⟩
            clear hcall
            go_wp2_with fail
            go_roundw
            case rel => exact ⟨out, k + 1, _, rfl, rfl, by go_num, by omega, m7, hB2⟩
            case measure => simp [intOf]; omega
        · rw [hFk] at hcall
          have hB2 := Lib.hid (best_hit hB.out hFk Hc3.out)
          clear hB hFk Hc3
          rcases hc2 with rfl | ⟨rfl, rfl⟩
          all_goals
            go_wp2_with fail
            refine hcall.out.mono ?_
            rintro e w7 ⟨rfl, m7⟩
            clear hcall
            go_wp2_with fail
            go_roundw
            case rel => exact ⟨k, k + 1, true, by go_num, rfl, by go_num, by omega, m7, hB2⟩
            case measure => simp [intOf]; omega
    · have hke : k = s.length + 1 := by omega
      have d2 : decide ((k : Int) ≤ (s.length : Int)) = false := decide_eq_false (by omega)
      have d2' : decide (k ≤ s.length) = false := decide_eq_false hks
      have hR : (out, ok) = R := hfin.out out ok (by rw [← hke]; exact hB.out)
      subst hR
      clear hB hke hfin hmt2
      go_wp2_with fail
      first | (go_ret; exact ⟨rfl, hb⟩) | exact bodyPost_ret (results_tmp2 rfl _ _ _) rfl ⟨rfl, hb⟩
end Go.Proofs.YteppndkhmbhnkaaDoor
