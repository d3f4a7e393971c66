/- pattern: isInvalid. -/
import Derived.Test.YteppndkhmbhnkaaDoorPRead
namespace Go.Proofs.YteppndkhmbhnkaaDoor
open Go.RowKit
set_option linter.unusedVariables false

set_option maxHeartbeats 8000000 in
set_option maxRecDepth 100000 in
theorem isInvalid_c (x : It) (sv : Value) (w : World) (hs : SpAt w w.heap.size sv x.set) (ho : ItOk x) :
    Calls Tryd.prog 90 #[.agg #[.int .i64 x.k, .string ⟨x.t.toArray⟩, .bool x.neg, sv]] w fun e w' => e = .returned (.bool (inv x)) ∧ Below w.heap.size w w' := by
  have hs0 := Lib.hid hs
  obtain ⟨A, c, rfl, _⟩ := hs
  obtain ⟨xk, xt, xn, xs⟩ := x
  simp only at *
  have hne : (xt.length = 0 ∧ xt.isEmpty = true ∧ (xt == []) = true) ∨ (xt.length ≠ 0 ∧ xt.isEmpty = false ∧ (xt == []) = false) := by
    rcases xt with _ | ⟨a, r⟩
    · exact .inl ⟨rfl, rfl, rfl⟩
    · exact .inr ⟨by simp, rfl, rfl⟩
  have hsz : (⟨xt.toArray⟩ : ByteArray).size = xt.length := rfl
  have hset : (xs.length = 0 ∧ decide ((0 : Int) < (xs.length : Int)) = false ∧ decide (0 < xs.length) = false) ∨ (0 < xs.length ∧ decide ((0 : Int) < (xs.length : Int)) = true ∧ decide (0 < xs.length) = true) := by
    by_cases h : 0 < xs.length
    · exact .inr ⟨h, decide_eq_true (by omega), decide_eq_true h⟩
    · exact .inl ⟨by omega, decide_eq_false (by omega), decide_eq_false h⟩
  have hlt := ho.2
  have hls := ho.1.1
  by_cases h1 : xk = 1
  · subst h1; clear hne
    by_cases h : xt.length = 1
    · have p1 : ((xt.length : Int) == 1) = true := by rw [beq_iff_eq]; omega
      have p2 : ((xt.length : Int) != 1) = false := by rw [bne_eq_false_iff_eq]; omega
      have p3 : (xt.length == 1) = true := by rw [beq_iff_eq]; omega
      rcases xn with _ | _
      · rcases hset with ⟨q0, q1, q2⟩ | ⟨q0, q1, q2⟩
        · have hI : inv ⟨1, xt, false, xs⟩ = false := by simp [inv, p3, q2]
          rw [hI]; clear hI hs0 ho
          go_enter Tryd.func90, Tryd.ntmps90
          go_wp2_with fail
          go_ret
          exact ⟨rfl, (Below.refl _ _).alloc (Nat.le_refl _) _⟩
        · have hI : inv ⟨1, xt, false, xs⟩ = true := by simp [inv, p3, q2]
          rw [hI]; clear hI hs0 ho
          go_enter Tryd.func90, Tryd.ntmps90
          go_wp2_with fail
          go_ret
          exact ⟨rfl, (Below.refl _ _).alloc (Nat.le_refl _) _⟩
      · have hI : inv ⟨1, xt, true, xs⟩ = true := by simp [inv]
        clear hset
        rw [hI]; clear hI hs0 ho
        go_enter Tryd.func90, Tryd.ntmps90
        go_wp2_with fail
        go_ret
        exact ⟨rfl, (Below.refl _ _).alloc (Nat.le_refl _) _⟩
    · have p1 : ((xt.length : Int) == 1) = false := by rw [beq_eq_false_iff_ne]; omega
      have p2 : ((xt.length : Int) != 1) = true := by rw [bne_iff_ne]; omega
      have hI : inv ⟨1, xt, xn, xs⟩ = true := by simp [inv, h]
      clear hset h
      rw [hI]; clear hI hs0 ho
      go_enter Tryd.func90, Tryd.ntmps90
      go_wp2_with fail
      go_ret
      exact ⟨rfl, (Below.refl _ _).alloc (Nat.le_refl _) _⟩
  by_cases h2 : xk = 2
  · subst h2; clear hsz
    rcases hne with ⟨p0, p1, p2⟩ | ⟨p0, p1, p2⟩
    · rcases xn with _ | _
      · rcases hset with ⟨q0, q1, q2⟩ | ⟨q0, q1, q2⟩
        · have hI : inv ⟨2, xt, false, xs⟩ = false := by simp [inv, p0, q2]
          clear p0 q0
          rw [hI]; clear hI hs0 ho
          go_enter Tryd.func90, Tryd.ntmps90
          go_wp2_with fail
          go_ret
          exact ⟨rfl, (Below.refl _ _).alloc (Nat.le_refl _) _⟩
        · have hI : inv ⟨2, xt, false, xs⟩ = true := by simp [inv, p0, q2]
          clear p0 q0
          rw [hI]; clear hI hs0 ho
          go_enter Tryd.func90, Tryd.ntmps90
          go_wp2_with fail
          go_ret
          exact ⟨rfl, (Below.refl _ _).alloc (Nat.le_refl _) _⟩
      · have hI : inv ⟨2, xt, true, xs⟩ = true := by simp [inv]
        clear hset p0
        rw [hI]; clear hI hs0 ho
        go_enter Tryd.func90, Tryd.ntmps90
        go_wp2_with fail
        go_ret
        exact ⟨rfl, (Below.refl _ _).alloc (Nat.le_refl _) _⟩
    · have hI : inv ⟨2, xt, xn, xs⟩ = true := by simp [inv, p0]
      clear hset p0
      rw [hI]; clear hI hs0 ho
      go_enter Tryd.func90, Tryd.ntmps90
      go_wp2_with fail
      go_ret
      exact ⟨rfl, (Below.refl _ _).alloc (Nat.le_refl _) _⟩
  by_cases h3 : xk = 3
  · subst h3; clear hsz
    rcases hne with ⟨p0, p1, p2⟩ | ⟨p0, p1, p2⟩
    · rcases xn with _ | _
      · rcases hset with ⟨q0, q1, q2⟩ | ⟨q0, q1, q2⟩
        · have hI : inv ⟨3, xt, false, xs⟩ = false := by simp [inv, p0, q2]
          clear p0 q0
          rw [hI]; clear hI hs0 ho
          go_enter Tryd.func90, Tryd.ntmps90
          go_wp2_with fail
          go_ret
          exact ⟨rfl, (Below.refl _ _).alloc (Nat.le_refl _) _⟩
        · have hI : inv ⟨3, xt, false, xs⟩ = true := by simp [inv, p0, q2]
          clear p0 q0
          rw [hI]; clear hI hs0 ho
          go_enter Tryd.func90, Tryd.ntmps90
          go_wp2_with fail
          go_ret
          exact ⟨rfl, (Below.refl _ _).alloc (Nat.le_refl _) _⟩
      · have hI : inv ⟨3, xt, true, xs⟩ = true := by simp [inv]
        clear hset p0
        rw [hI]; clear hI hs0 ho
        go_enter Tryd.func90, Tryd.ntmps90
        go_wp2_with fail
        go_ret
        exact ⟨rfl, (Below.refl _ _).alloc (Nat.le_refl _) _⟩
    · have hI : inv ⟨3, xt, xn, xs⟩ = true := by simp [inv, p0]
      clear hset p0
      rw [hI]; clear hI hs0 ho
      go_enter Tryd.func90, Tryd.ntmps90
      go_wp2_with fail
      go_ret
      exact ⟨rfl, (Below.refl _ _).alloc (Nat.le_refl _) _⟩
  by_cases h4 : xk = 4
  · subst h4; clear hsz hset
    rcases hne with ⟨p0, p1, p2⟩ | ⟨p0, p1, p2⟩
    · have hI : inv ⟨4, xt, xn, xs⟩ = !(minL 0 xs) := by simp [inv, p0]
      rw [hI]; clear hI p0
      have hcall : Hid (∀ W, Below w.heap.size w W → Calls Tryd.prog 118 #[.slice A xs.length c] W fun e w' => e = .returned (.bool (minL 0 xs)) ∧ Below w.heap.size w w') := by
        refine Lib.hid ?_
        intro W hW
        refine (isMinimal_c _ xs W (spAt_mono (spAt_below hs0.out hW (Nat.le_refl _)) hW.size) ho.1).mono ?_
        rintro e w' ⟨rfl, hb⟩
        exact ⟨rfl, hW.trans (hb.mono hW.size)⟩
      generalize minL 0 xs = m at *
      clear hs0 ho
      go_enter Tryd.func90, Tryd.ntmps90
      go_wp2_with fail
      refine (hcall.out _ ((Below.refl _ _).alloc (Nat.le_refl _) _)).mono ?_
      rintro e w' ⟨rfl, hb⟩
      rcases m with _ | _
      all_goals
        go_wp2_with fail
        go_ret
        exact ⟨rfl, hb⟩
    · have hI : inv ⟨4, xt, xn, xs⟩ = true := by simp [inv, p0]
      clear p0
      rw [hI]; clear hI hs0 ho
      go_enter Tryd.func90, Tryd.ntmps90
      go_wp2_with fail
      go_ret
      exact ⟨rfl, (Below.refl _ _).alloc (Nat.le_refl _) _⟩
  · have hI : inv ⟨xk, xt, xn, xs⟩ = true := by simp [inv, h1, h2, h3, h4]
    have e1 : (xk == 1) = false := by rw [beq_eq_false_iff_ne]; exact h1
    have e2 : (xk == 2) = false := by rw [beq_eq_false_iff_ne]; exact h2
    have e3 : (xk == 3) = false := by rw [beq_eq_false_iff_ne]; exact h3
    have e4 : (xk == 4) = false := by rw [beq_eq_false_iff_ne]; exact h4
    clear h1 h2 h3 h4 hne hset
    rw [hI]; clear hI hs0 ho
    go_enter Tryd.func90, Tryd.ntmps90
    go_wp2_with fail
    go_ret
    exact ⟨rfl, (Below.refl _ _).alloc (Nat.le_refl _) _⟩
end Go.Proofs.YteppndkhmbhnkaaDoor
