/- pattern: what Compile gives is valid. -/
import Derived.Test.YteppndkhmbhnkaaDoorPAwk
namespace Go.Proofs.YteppndkhmbhnkaaDoor
open Go.RowKit
set_option linter.unusedVariables false

def lbS : Nat → List (Nat × Nat) → Nat
  | m, [] => m
  | _, (_, e) :: r => lbS (e + 2) r
theorem minL_snoc (a e : Nat) : ∀ (l : List (Nat × Nat)) (m : Nat), minL m (l ++ [(a, e)]) = (minL m l && (!(decide (a < lbS m l)) && !(decide (e < a))))
  | [], m => by
    rw [List.nil_append]
    simp only [minL, lbS, Bool.and_true, Bool.true_and]
    rfl
  | (x, y) :: r, m => by
    rw [List.cons_append]
    simp only [minL, lbS]
    rw [minL_snoc a e r (y + 2)]
    simp only [Bool.and_assoc]
    rfl
theorem lbS_le (K : Nat) : ∀ (l : List (Nat × Nat)) (m : Nat), m ≤ K → (∀ p ∈ l, p.2 + 2 ≤ K) → lbS m l ≤ K
  | [], m, h, _ => h
  | (x, y) :: r, m, h, hp => lbS_le K r (y + 2) (hp (x, y) (by simp)) (fun p hq => hp p (by simp [hq]))
theorem spL_lt (S : Nat → Bool) : ∀ (k : Nat), ∀ p ∈ spL S k, p.1 ≤ p.2 ∧ p.2 < k
  | 0 => by intro p hp; simp [spL] at hp
  | k + 1 => by
    have h1 := spL_lt S k
    rcases hS : S k with _ | _
    · have e : spL S (k + 1) = spL S k := by rw [spL, if_pos hS]
      rw [e]
      exact fun p hp => ⟨(h1 p hp).1, by have := (h1 p hp).2; omega⟩
    · by_cases hk : (decide (0 < k) && S (k - 1)) = true
      · have hk1 : 0 < k := by simp at hk; exact hk.1
        have hk2 : S (k - 1) = true := by simp at hk; exact hk.2
        obtain ⟨l, a, e1, ha⟩ := spL_last S (k - 1) hk2
        rw [show k - 1 + 1 = k from by omega] at e1
        have e : spL S (k + 1) = l ++ [(a, k)] := by
          rw [spL, if_neg (by rw [hS]; simp), if_pos hk, e1, setHi_last]
        rw [e]
        rw [e1] at h1
        intro p hp
        rcases List.mem_append.1 hp with h | h
        · have := h1 p (List.mem_append.2 (.inl h)); exact ⟨this.1, by omega⟩
        · simp at h; subst h; exact ⟨by show a ≤ k; omega, by show k < k + 1; omega⟩
      · have e : spL S (k + 1) = spL S k ++ [(k, k)] := by rw [spL, if_neg (by rw [hS]; simp), if_neg hk]
        rw [e]
        intro p hp
        rcases List.mem_append.1 hp with h | h
        · exact ⟨(h1 p h).1, by have := (h1 p h).2; omega⟩
        · simp at h; subst h; exact ⟨Nat.le_refl _, by show k < k + 1; omega⟩
theorem spL_good (S : Nat → Bool) : ∀ (k : Nat), (∀ p ∈ spL S k, p.1 ≤ p.2 ∧ p.2 < k) ∧ minL 0 (spL S k) = true
  | 0 => ⟨by intro p hp; simp [spL] at hp, rfl⟩
  | k + 1 => by
    obtain ⟨h1, h2⟩ := spL_good S k
    rcases hS : S k with _ | _
    · have e : spL S (k + 1) = spL S k := by rw [spL, if_pos hS]
      rw [e]
      exact ⟨fun p hp => ⟨(h1 p hp).1, by have := (h1 p hp).2; omega⟩, h2⟩
    · rcases k with _ | j
      · have e : spL S 1 = [(0, 0)] := by rw [spL, if_neg (by rw [hS]; simp), if_neg (by simp)]; rfl
        rw [e]
        exact ⟨by intro p hp; simp at hp; subst hp; exact ⟨Nat.le_refl _, by omega⟩, rfl⟩
      · rcases hj : S j with _ | _
        · have e : spL S (j + 1 + 1) = spL S (j + 1) ++ [(j + 1, j + 1)] := by rw [spL, if_neg (by rw [hS]; simp), if_neg (by simp [hj])]
          have e2 : spL S (j + 1) = spL S j := by rw [spL, if_pos hj]
          have g1 := spL_lt S j
          rw [e]
          refine ⟨?_, ?_⟩
          · intro p hp
            rcases List.mem_append.1 hp with h | h
            · exact ⟨(h1 p h).1, by have := (h1 p h).2; omega⟩
            · simp at h; subst h; exact ⟨Nat.le_refl _, by omega⟩
          · have hl : lbS 0 (spL S (j + 1)) ≤ j + 1 := lbS_le (j + 1) _ 0 (by omega) (by rw [e2]; intro p hp; have := (g1 p hp).2; omega)
            rw [minL_snoc, h2]
            simp
            omega
        · obtain ⟨l, a, e1, ha⟩ := spL_last S j hj
          have e : spL S (j + 1 + 1) = l ++ [(a, j + 1)] := by
            rw [spL, if_neg (by rw [hS]; simp), if_pos (by simp [hj]), e1, setHi_last]
          rw [e]
          rw [e1] at h1 h2
          rw [minL_snoc] at h2
          simp at h2
          refine ⟨?_, ?_⟩
          · intro p hp
            rcases List.mem_append.1 hp with h | h
            · have := h1 p (List.mem_append.2 (.inl h)); exact ⟨this.1, by omega⟩
            · simp at h; subst h; exact ⟨by show a ≤ j + 1; omega, by show j + 1 < j + 1 + 1; omega⟩
          · rw [minL_snoc]
            simp
            refine ⟨h2.1, h2.2.1, by omega⟩
theorem itemL_ok (cs : List Ch) (p : Nat) : ItOk (itemL cs p).1 ∧ inv (itemL cs p).1 = false := by
  unfold itemL
  split
  · exact ⟨⟨⟨by simp, by simp⟩, by simp⟩, by rfl⟩
  · split
    · exact ⟨⟨⟨by simp, by simp⟩, by simp⟩, by rfl⟩
    · split
      · rename_i neg sp sz h
        have hb : ∃ S, sp = spL S 256 := by
          split at h
          · unfold brk at h
            split at h
            · cases h
            · split at h
              · cases h
              · simp only [Option.some.injEq, Prod.mk.injEq] at h
                exact ⟨_, h.2.1.symm⟩
          · cases h
        obtain ⟨S, rfl⟩ := hb
        obtain ⟨g1, g2⟩ := spL_good S 256
        refine ⟨⟨⟨by have := spL_len S 256; show (spL S 256).length ≤ _; omega, fun q hq => ?_⟩, by simp⟩, ?_⟩
        · have := g1 q hq; omega
        · unfold inv
          simp [g2]
      · exact ⟨⟨⟨by simp, by simp⟩, by simp⟩, by rfl⟩
theorem compL_ok (cs : List Ch) : ∀ (n p : Nat), cs.length - p ≤ n → ∀ x ∈ compL cs p, ItOk x ∧ inv x = false := by
  intro n
  induction n with
  | zero =>
    intro p h x hx
    rw [compL_end cs p (by omega)] at hx
    simp at hx
  | succ n ih =>
    intro p h x hx
    by_cases hp : p < cs.length
    · rw [compL_at cs p hp] at hx
      rcases List.mem_cons.1 hx with rfl | hx
      · exact itemL_ok cs p
      · have := itemL_pos cs p hp
        exact ih _ (by omega) x hx
    · rw [compL_end cs p (by omega)] at hx
      simp at hx
theorem compileL_ok (rs : List Rn) : ∀ x ∈ compileL rs, ItOk x := fun x hx => (compL_ok _ _ 0 (Nat.le_refl _) x hx).1
theorem compileL_valid (rs : List Rn) : (compileL rs).any inv = false := by
  rw [List.any_eq_false]
  intro x hx
  rw [(compL_ok _ _ 0 (Nat.le_refl _) x hx).2]
  simp
end Go.Proofs.YteppndkhmbhnkaaDoor
