/- arith: the reference's kids, compound; names. -/
import Derived.Test.YtbiiempgefjkiaaDoorArX1
import Derived.Test.YtbiiempgefjkiaaDoorArS2
import Derived.Test.YtbiiempgefjkiaaDoorCcRN
namespace Go.Proofs.YtbiiempgefjkiaaDoor.Ar
open Go.RowKit
set_option linter.unusedVariables false

theorem name_iff (s : ByteArray) : nameB s = true ↔ Cc.NameP s := by
  unfold nameB Cc.NameP Cc.NameAt
  have hl : s.data.toList.length = s.size := by simp
  have hg : ∀ i (h : i < s.size), s[i] = s.data.toList[i]'(by omega) := fun i h => by rw [ByteArray.getElem_eq_getElem_data, ← Array.getElem_toList]
  have hg0 : ∀ b : UInt8, (Cc.letB b.toNat = true ∨ (b.toNat : Nat) = 95) ↔ ltrB b = true := fun b => by
    unfold Cc.letB ltrB
    simp only [decide_eq_true_iff]
    omega
  have hg1 : ∀ b : UInt8, Cc.digB b.toNat = true ↔ digB b = true := fun b => by
    unfold Cc.digB digB
    simp only [decide_eq_true_iff]
    omega
  rw [Bool.and_eq_true, decide_eq_true_iff]
  cases hs : s.data.toList with
  | nil =>
    rw [hs] at hl
    simp only [List.length_nil] at hl
    simp only [nameL]
    constructor
    · intro h; simp at h
    · intro h; omega
  | cons b r =>
    rw [hs] at hl
    simp only [List.length_cons] at hl
    simp only [nameL, Bool.and_eq_true, List.all_eq_true]
    constructor
    · rintro ⟨h1, h2, h3⟩
      refine ⟨by omega, h1, fun i hi => ?_⟩
      rcases i with _ | i
      · have e : s[0] = b := by rw [hg 0 hi]; simp [hs]
        rw [e]
        rcases (hg0 b).2 h2 with h | h
        · exact .inl h
        · exact .inr (.inl h)
      · have e : s[i + 1] = r[i]'(by omega) := by rw [hg (i + 1) hi]; simp [hs]
        rw [e]
        have := h3 _ (List.getElem_mem (l := r) (n := i) (by omega))
        unfold wrdB at this
        rw [Bool.or_eq_true] at this
        rcases this with h | h
        · rcases (hg0 _).2 h with h | h
          · exact .inl h
          · exact .inr (.inl h)
        · exact .inr (.inr ⟨by omega, (hg1 _).2 h⟩)
    · rintro ⟨h0, h1, h2⟩
      refine ⟨h1, ?_, fun c hc => ?_⟩
      · have := h2 0 h0
        have e : s[0] = b := by rw [hg 0 h0]; simp [hs]
        rw [e] at this
        rcases this with h | h | ⟨h, _⟩
        · exact (hg0 b).1 (.inl h)
        · exact (hg0 b).1 (.inr h)
        · exact absurd rfl h
      · obtain ⟨i, hi, rfl⟩ := List.getElem_of_mem hc
        have := h2 (i + 1) (by omega)
        have e : s[i + 1] = r[i] := by rw [hg (i + 1) (by omega)]; simp [hs]
        rw [e] at this
        unfold wrdB
        rw [Bool.or_eq_true]
        rcases this with h | h | ⟨_, h⟩
        · exact .inl ((hg0 _).1 (.inl h))
        · exact .inl ((hg0 _).1 (.inr h))
        · exact .inr ((hg1 _).1 h)


theorem rname_ok (s : ByteArray) (w : World) : Calls Tryd.prog 45 #[.string s] w fun e w' => e = .returned (.bool (nameB s)) ∧ w = w' := by
  by_cases h : s.size ≤ 1000
  · exact Cc.rname_c s (nameB s) (name_iff s) w h
  · have hn : nameB s = false := by unfold nameB; rw [decide_eq_false (by omega)]; rfl
    rw [hn]
    have d1 : decide ((32 : Int) < (s.size : Int)) = true := decide_eq_true (by omega)
    have d2 : decide (32 < s.size) = true := decide_eq_true (by omega)
    have d3 : (s.size == 0) = false := by rw [beq_eq_false_iff_ne]; omega
    obtain ⟨d4, d5⟩ := Cc.nonempty_tests (s := s) (by omega)
    go_enter Tryd.func45, Tryd.ntmps45
    go_wp2_with fail
    go_ret
    exact ⟨rfl, rfl⟩
def kidsR (op : Int) : Int := if op = 1 ∨ op = 2 then 0 else if (3 ≤ op ∧ op ≤ 6) ∨ op = 26 then 1 else if 7 ≤ op ∧ op ≤ 24 then 2 else if op = 25 then 3 else -1
def cmpR (n : Int) : Bool := decide (n = 0 ∨ (7 ≤ n ∧ n ≤ 13) ∨ (20 ≤ n ∧ n ≤ 22))
set_option maxHeartbeats 1000000 in
theorem kids_c (op : Int) (w : World) : Calls Tryd.prog 43 #[.int .i64 op] w fun e w' => e = .returned (.int .i64 (kidsR op)) ∧ w = w' := by
  have hc : (op ≤ 0) ∨ (op = 1) ∨ (op = 2) ∨ (3 ≤ op ∧ op ≤ 6) ∨ (7 ≤ op ∧ op ≤ 24) ∨ (op = 25) ∨ (op = 26) ∨ (27 ≤ op) := by omega
  rcases hc with h | h | h | h | h | h | h | h
  · rw [show kidsR op = -1 by unfold kidsR; (try subst h); first | rfl | (simp; omega) | (split <;> (try split) <;> (try split) <;> (try split) <;> (try rfl) <;> (exfalso; omega))]
    have t0 : (op == 1) = false := beq_eq_false_iff_ne.2 (by omega)
    have t1 : (op == 2) = false := beq_eq_false_iff_ne.2 (by omega)
    have t2 : decide ((3 : Int) ≤ op) = false := decide_eq_false (by omega)
    have t3 : decide (op ≤ (6 : Int)) = true := decide_eq_true (by omega)
    have t4 : (op == 26) = false := beq_eq_false_iff_ne.2 (by omega)
    have t5 : decide ((7 : Int) ≤ op) = false := decide_eq_false (by omega)
    have t6 : decide (op ≤ (24 : Int)) = true := decide_eq_true (by omega)
    have t7 : (op == 25) = false := beq_eq_false_iff_ne.2 (by omega)
    go_enter Tryd.func43, Tryd.ntmps43
    go_wp2_with fail
    go_ret
    exact ⟨rfl, rfl⟩
  · rw [show kidsR op = 0 by unfold kidsR; (try subst h); first | rfl | (simp; omega) | (split <;> (try split) <;> (try split) <;> (try split) <;> (try rfl) <;> (exfalso; omega))]
    subst h
    go_enter Tryd.func43, Tryd.ntmps43
    go_wp2_with fail
    go_ret
    exact ⟨rfl, rfl⟩
  · rw [show kidsR op = 0 by unfold kidsR; (try subst h); first | rfl | (simp; omega) | (split <;> (try split) <;> (try split) <;> (try split) <;> (try rfl) <;> (exfalso; omega))]
    subst h
    go_enter Tryd.func43, Tryd.ntmps43
    go_wp2_with fail
    go_ret
    exact ⟨rfl, rfl⟩
  · rw [show kidsR op = 1 by unfold kidsR; (try subst h); first | rfl | (simp; omega) | (split <;> (try split) <;> (try split) <;> (try split) <;> (try rfl) <;> (exfalso; omega))]
    have t0 : (op == 1) = false := beq_eq_false_iff_ne.2 (by omega)
    have t1 : (op == 2) = false := beq_eq_false_iff_ne.2 (by omega)
    have t2 : decide ((3 : Int) ≤ op) = true := decide_eq_true (by omega)
    have t3 : decide (op ≤ (6 : Int)) = true := decide_eq_true (by omega)
    have t4 : (op == 26) = false := beq_eq_false_iff_ne.2 (by omega)
    have t5 : decide ((7 : Int) ≤ op) = false := decide_eq_false (by omega)
    have t6 : decide (op ≤ (24 : Int)) = true := decide_eq_true (by omega)
    have t7 : (op == 25) = false := beq_eq_false_iff_ne.2 (by omega)
    go_enter Tryd.func43, Tryd.ntmps43
    go_wp2_with fail
    go_ret
    exact ⟨rfl, rfl⟩
  · rw [show kidsR op = 2 by unfold kidsR; (try subst h); first | rfl | (simp; omega) | (split <;> (try split) <;> (try split) <;> (try split) <;> (try rfl) <;> (exfalso; omega))]
    have t0 : (op == 1) = false := beq_eq_false_iff_ne.2 (by omega)
    have t1 : (op == 2) = false := beq_eq_false_iff_ne.2 (by omega)
    have t2 : decide ((3 : Int) ≤ op) = true := decide_eq_true (by omega)
    have t3 : decide (op ≤ (6 : Int)) = false := decide_eq_false (by omega)
    have t4 : (op == 26) = false := beq_eq_false_iff_ne.2 (by omega)
    have t5 : decide ((7 : Int) ≤ op) = true := decide_eq_true (by omega)
    have t6 : decide (op ≤ (24 : Int)) = true := decide_eq_true (by omega)
    have t7 : (op == 25) = false := beq_eq_false_iff_ne.2 (by omega)
    go_enter Tryd.func43, Tryd.ntmps43
    go_wp2_with fail
    go_ret
    exact ⟨rfl, rfl⟩
  · rw [show kidsR op = 3 by unfold kidsR; (try subst h); first | rfl | (simp; omega) | (split <;> (try split) <;> (try split) <;> (try split) <;> (try rfl) <;> (exfalso; omega))]
    subst h
    go_enter Tryd.func43, Tryd.ntmps43
    go_wp2_with fail
    go_ret
    exact ⟨rfl, rfl⟩
  · rw [show kidsR op = 1 by unfold kidsR; (try subst h); first | rfl | (simp; omega) | (split <;> (try split) <;> (try split) <;> (try split) <;> (try rfl) <;> (exfalso; omega))]
    subst h
    go_enter Tryd.func43, Tryd.ntmps43
    go_wp2_with fail
    go_ret
    exact ⟨rfl, rfl⟩
  · rw [show kidsR op = -1 by unfold kidsR; (try subst h); first | rfl | (simp; omega) | (split <;> (try split) <;> (try split) <;> (try split) <;> (try rfl) <;> (exfalso; omega))]
    have t0 : (op == 1) = false := beq_eq_false_iff_ne.2 (by omega)
    have t1 : (op == 2) = false := beq_eq_false_iff_ne.2 (by omega)
    have t2 : decide ((3 : Int) ≤ op) = true := decide_eq_true (by omega)
    have t3 : decide (op ≤ (6 : Int)) = false := decide_eq_false (by omega)
    have t4 : (op == 26) = false := beq_eq_false_iff_ne.2 (by omega)
    have t5 : decide ((7 : Int) ≤ op) = true := decide_eq_true (by omega)
    have t6 : decide (op ≤ (24 : Int)) = false := decide_eq_false (by omega)
    have t7 : (op == 25) = false := beq_eq_false_iff_ne.2 (by omega)
    go_enter Tryd.func43, Tryd.ntmps43
    go_wp2_with fail
    go_ret
    exact ⟨rfl, rfl⟩
set_option maxHeartbeats 1000000 in
theorem compound_c (n : Int) (w : World) : Calls Tryd.prog 44 #[.int .i64 n] w fun e w' => e = .returned (.bool (cmpR n)) ∧ w = w' := by
  have hc : (n ≤ -1) ∨ (n = 0) ∨ (1 ≤ n ∧ n ≤ 6) ∨ (7 ≤ n ∧ n ≤ 13) ∨ (14 ≤ n ∧ n ≤ 19) ∨ (20 ≤ n ∧ n ≤ 22) ∨ (23 ≤ n) := by omega
  rcases hc with h | h | h | h | h | h | h
  · rw [show cmpR n = false by unfold cmpR; (try subst h); first | rfl | (simp; omega) | (split <;> (try split) <;> (try split) <;> (try split) <;> (try rfl) <;> (exfalso; omega))]
    have t0 : (n == 0) = false := beq_eq_false_iff_ne.2 (by omega)
    have t1 : decide ((7 : Int) ≤ n) = false := decide_eq_false (by omega)
    have t2 : decide (n ≤ (13 : Int)) = true := decide_eq_true (by omega)
    have t3 : decide ((20 : Int) ≤ n) = false := decide_eq_false (by omega)
    have t4 : decide (n ≤ (22 : Int)) = true := decide_eq_true (by omega)
    go_enter Tryd.func44, Tryd.ntmps44
    go_wp2_with fail
    go_ret
    exact ⟨rfl, rfl⟩
  · rw [show cmpR n = true by unfold cmpR; (try subst h); first | rfl | (simp; omega) | (split <;> (try split) <;> (try split) <;> (try split) <;> (try rfl) <;> (exfalso; omega))]
    subst h
    go_enter Tryd.func44, Tryd.ntmps44
    go_wp2_with fail
    go_ret
    exact ⟨rfl, rfl⟩
  · rw [show cmpR n = false by unfold cmpR; (try subst h); first | rfl | (simp; omega) | (split <;> (try split) <;> (try split) <;> (try split) <;> (try rfl) <;> (exfalso; omega))]
    have t0 : (n == 0) = false := beq_eq_false_iff_ne.2 (by omega)
    have t1 : decide ((7 : Int) ≤ n) = false := decide_eq_false (by omega)
    have t2 : decide (n ≤ (13 : Int)) = true := decide_eq_true (by omega)
    have t3 : decide ((20 : Int) ≤ n) = false := decide_eq_false (by omega)
    have t4 : decide (n ≤ (22 : Int)) = true := decide_eq_true (by omega)
    go_enter Tryd.func44, Tryd.ntmps44
    go_wp2_with fail
    go_ret
    exact ⟨rfl, rfl⟩
  · rw [show cmpR n = true by unfold cmpR; (try subst h); first | rfl | (simp; omega) | (split <;> (try split) <;> (try split) <;> (try split) <;> (try rfl) <;> (exfalso; omega))]
    have t0 : (n == 0) = false := beq_eq_false_iff_ne.2 (by omega)
    have t1 : decide ((7 : Int) ≤ n) = true := decide_eq_true (by omega)
    have t2 : decide (n ≤ (13 : Int)) = true := decide_eq_true (by omega)
    have t3 : decide ((20 : Int) ≤ n) = false := decide_eq_false (by omega)
    have t4 : decide (n ≤ (22 : Int)) = true := decide_eq_true (by omega)
    go_enter Tryd.func44, Tryd.ntmps44
    go_wp2_with fail
    go_ret
    exact ⟨rfl, rfl⟩
  · rw [show cmpR n = false by unfold cmpR; (try subst h); first | rfl | (simp; omega) | (split <;> (try split) <;> (try split) <;> (try split) <;> (try rfl) <;> (exfalso; omega))]
    have t0 : (n == 0) = false := beq_eq_false_iff_ne.2 (by omega)
    have t1 : decide ((7 : Int) ≤ n) = true := decide_eq_true (by omega)
    have t2 : decide (n ≤ (13 : Int)) = false := decide_eq_false (by omega)
    have t3 : decide ((20 : Int) ≤ n) = false := decide_eq_false (by omega)
    have t4 : decide (n ≤ (22 : Int)) = true := decide_eq_true (by omega)
    go_enter Tryd.func44, Tryd.ntmps44
    go_wp2_with fail
    go_ret
    exact ⟨rfl, rfl⟩
  · rw [show cmpR n = true by unfold cmpR; (try subst h); first | rfl | (simp; omega) | (split <;> (try split) <;> (try split) <;> (try split) <;> (try rfl) <;> (exfalso; omega))]
    have t0 : (n == 0) = false := beq_eq_false_iff_ne.2 (by omega)
    have t1 : decide ((7 : Int) ≤ n) = true := decide_eq_true (by omega)
    have t2 : decide (n ≤ (13 : Int)) = false := decide_eq_false (by omega)
    have t3 : decide ((20 : Int) ≤ n) = true := decide_eq_true (by omega)
    have t4 : decide (n ≤ (22 : Int)) = true := decide_eq_true (by omega)
    go_enter Tryd.func44, Tryd.ntmps44
    go_wp2_with fail
    go_ret
    exact ⟨rfl, rfl⟩
  · rw [show cmpR n = false by unfold cmpR; (try subst h); first | rfl | (simp; omega) | (split <;> (try split) <;> (try split) <;> (try split) <;> (try rfl) <;> (exfalso; omega))]
    have t0 : (n == 0) = false := beq_eq_false_iff_ne.2 (by omega)
    have t1 : decide ((7 : Int) ≤ n) = true := decide_eq_true (by omega)
    have t2 : decide (n ≤ (13 : Int)) = false := decide_eq_false (by omega)
    have t3 : decide ((20 : Int) ≤ n) = true := decide_eq_true (by omega)
    have t4 : decide (n ≤ (22 : Int)) = false := decide_eq_false (by omega)
    go_enter Tryd.func44, Tryd.ntmps44
    go_wp2_with fail
    go_ret
    exact ⟨rfl, rfl⟩
theorem bin_iff (op : Int) : (binOf op).2 = true ↔ 7 ≤ op ∧ op ≤ 24 := by
  constructor
  · intro h; have := bin_range h; omega
  · rintro ⟨h1, h2⟩
    have : op = 7 ∨ op = 8 ∨ op = 9 ∨ op = 10 ∨ op = 11 ∨ op = 12 ∨ op = 13 ∨ op = 14 ∨ op = 15 ∨ op = 16 ∨ op = 17 ∨ op = 18 ∨ op = 19 ∨ op = 20 ∨ op = 21 ∨ op = 22 ∨ op = 23 ∨ op = 24 := by omega
    rcases this with rfl | rfl | rfl | rfl | rfl | rfl | rfl | rfl | rfl | rfl | rfl | rfl | rfl | rfl | rfl | rfl | rfl | rfl <;> rfl
theorem asg_iff (n : Int) : asgOp n = cmpR n := by
  by_cases h : 7 ≤ n ∧ n ≤ 24
  · have : n = 7 ∨ n = 8 ∨ n = 9 ∨ n = 10 ∨ n = 11 ∨ n = 12 ∨ n = 13 ∨ n = 14 ∨ n = 15 ∨ n = 16 ∨ n = 17 ∨ n = 18 ∨ n = 19 ∨ n = 20 ∨ n = 21 ∨ n = 22 ∨ n = 23 ∨ n = 24 := by omega
    rcases this with rfl | rfl | rfl | rfl | rfl | rfl | rfl | rfl | rfl | rfl | rfl | rfl | rfl | rfl | rfl | rfl | rfl | rfl <;> rfl
  · have hb : (binOf n).2 = false := by
      rcases hb : (binOf n).2 with _ | _
      · rfl
      · exact absurd ((bin_iff n).1 hb) h
    have ha : (binOf n).1.as = false := by
      unfold binOf at *
      rcases hf : findOp binL n with _ | b
      · rfl
      · rw [hf] at hb; simp at hb
    unfold asgOp cmpR
    rw [ha, Bool.false_or]
    by_cases h0 : n = 0
    · subst h0; rfl
    · rw [beq_eq_false_iff_ne.2 h0, eq_comm]
      exact decide_eq_false (by omega)
theorem arity_kids (op : Int) (k : Nat) : ((arity op).2 && (k == (arity op).1)) = decide ((k : Int) = kidsR op) := by
  by_cases h1 : op = 1 ∨ op = 2
  · rcases h1 with rfl | rfl <;> (unfold kidsR; simp [arity]; rw [Bool.eq_iff_iff]; simp <;> omega)
  · by_cases h2 : (3 ≤ op ∧ op ≤ 6) ∨ op = 26
    · have : op = 3 ∨ op = 4 ∨ op = 5 ∨ op = 6 ∨ op = 26 := by omega
      rcases this with rfl | rfl | rfl | rfl | rfl <;> (unfold kidsR; simp [arity]; rw [Bool.eq_iff_iff]; simp <;> omega)
    · by_cases h3 : op = 25
      · subst h3; unfold kidsR; simp [arity]; rw [Bool.eq_iff_iff]; simp <;> omega
      · have ha : arity op = (2, (binOf op).2) := by
          unfold arity
          rw [if_neg (by simp; omega), if_neg (by simp; omega), if_neg (by simp; omega)]
        rw [ha]
        unfold kidsR
        rw [if_neg h1, if_neg h2]
        by_cases h4 : 7 ≤ op ∧ op ≤ 24
        · rw [if_pos h4, (bin_iff op).2 h4, Bool.true_and, Bool.eq_iff_iff]; simp <;> omega
        · have hb : (binOf op).2 = false := by
            rcases hb : (binOf op).2 with _ | _
            · rfl
            · exact absurd ((bin_iff op).1 hb) h4
          rw [if_neg h4, if_neg h3, hb, Bool.false_and, eq_comm]
          exact decide_eq_false (by omega)
end Go.Proofs.YtbiiempgefjkiaaDoor.Ar
