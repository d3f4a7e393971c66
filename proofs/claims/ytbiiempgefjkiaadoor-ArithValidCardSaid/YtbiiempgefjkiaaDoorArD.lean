/- arith: an expression is no deeper than the tokens that it took. -/
import Derived.Test.YtbiiempgefjkiaaDoorArT
namespace Go.Proofs.YtbiiempgefjkiaaDoor.Ar
set_option linter.unusedVariables false

theorem then_ok {r : Option PR} {g : Ex → List Tok → Option PR} {x : Ex} {T : List Tok} (h : PR.then r g = some (.ok x T)) : ∃ y T1, r = some (.ok y T1) ∧ g y T1 = some (.ok x T) := by
  unfold PR.then at h
  match r, h with
  | some (.ok y T1), h => exact ⟨y, T1, rfl, h⟩
theorem tail_len {T : List Tok} (h : T ≠ []) : T.tail.length + 1 = T.length := by
  cases T with
  | nil => exact absurd rfl h
  | cons a r => rfl
theorem ne_of_k {T : List Tok} (h : (hd T).k ≠ 0) : T ≠ [] := by
  rintro rfl; exact h rfl
theorem ne_of_eq {T : List Tok} {sym : ByteArray} (h : eqB (hd T).t sym = true) (hs : eqB ⟨#[]⟩ sym = false) : T ≠ [] := by
  rintro rfl
  have h' : eqB ⟨#[]⟩ sym = true := h
  rw [hs] at h'; cases h'
theorem ne_of_una {T : List Tok} (h : (unaAt (hd T).t).2 = true) : T ≠ [] := by
  rintro rfl; exact absurd h (by decide)
theorem ne_of_bin {T : List Tok} (h : (binAt (hd T).t).2 = true) : T ≠ [] := by
  rintro rfl; exact absurd h (by decide)
theorem ne_of_asg {T : List Tok} (h : (asgAt (hd T.tail).t).2 = true) : T.tail ≠ [] := by
  intro e
  rw [e] at h
  exact absurd h (by decide)
theorem dep_one (op n : Int) (s : ByteArray) (x : Ex) : dep (.mk op n s [x]) = dep x + 1 := by simp [dep, depK]
theorem dep_two (op n : Int) (s : ByteArray) (x y : Ex) : dep (.mk op n s [x, y]) = max (dep x) (dep y) + 1 := by simp [dep, depK]
theorem dep_three (op n : Int) (s : ByteArray) (x y z : Ex) : dep (.mk op n s [x, y, z]) = max (dep x) (max (dep y) (dep z)) + 1 := by simp [dep, depK]
theorem took : ∀ f : Nat, (∀ T x T', asgF f T = some (.ok x T') → dep x + T'.length ≤ T.length) ∧ (∀ T x T', cndF f T = some (.ok x T') → dep x + T'.length ≤ T.length) ∧
    (∀ l T x T', opnF f l T = some (.ok x T') → dep x + T'.length ≤ T.length) ∧ (∀ l a T x T', lopF f l a T = some (.ok x T') → ∀ L, dep a + T.length ≤ L → dep x + T'.length ≤ L) ∧
    (∀ T x T', unaF f T = some (.ok x T') → dep x + T'.length ≤ T.length) ∧ (∀ T x T', sngF f T = some (.ok x T') → dep x + T'.length ≤ T.length)
  | 0 => by simp [asgF, cndF, opnF, lopF, unaF, sngF]
  | f + 1 => by
    obtain ⟨hA, hC, hO, hL, hU, hS⟩ := took f
    refine ⟨?_, ?_, ?_, ?_, ?_, ?_⟩
    · intro T x T' h
      rw [asgF] at h
      split at h
      · split at h
        · split at h
          · rename_i h1 h2 h3
            obtain ⟨y, T1, h4, h5⟩ := then_ok h
            simp only [Option.some.injEq, PR.ok.injEq] at h5
            obtain ⟨rfl, rfl⟩ := h5
            have := hA _ _ _ h4
            have t1 := tail_len (ne_of_k (T := T) (by omega))
            have t2 := tail_len (ne_of_asg h2)
            rw [dep_one]; omega
          · simp at h
        · exact hC _ _ _ h
      · exact hC _ _ _ h
    · intro T x T' h
      rw [cndF] at h
      obtain ⟨a, T1, h4, h5⟩ := then_ok h
      have k1 := hO _ _ _ _ h4
      split at h5
      · rename_i h6
        obtain ⟨b, T2, h7, h8⟩ := then_ok h5
        have k2 := hA _ _ _ h7
        have t1 := tail_len (ne_of_eq h6 (by decide))
        split at h8
        · rename_i h9
          obtain ⟨c, T3, h10, h11⟩ := then_ok h8
          have k3 := hC _ _ _ h10
          have t2 := tail_len (ne_of_eq h9 (by decide))
          simp only [Option.some.injEq, PR.ok.injEq] at h11
          obtain ⟨rfl, rfl⟩ := h11
          rw [dep_three]; omega
        · simp at h8
      · simp only [Option.some.injEq, PR.ok.injEq] at h5
        obtain ⟨rfl, rfl⟩ := h5
        exact k1
    · intro l T x T' h
      rw [opnF] at h
      obtain ⟨a, T1, h4, h5⟩ := then_ok h
      exact hL _ _ _ _ _ h5 _ (hU _ _ _ h4)
    · intro l a T x T' h L hLe
      rw [lopF] at h
      split at h
      · rename_i h6
        rw [Bool.and_eq_true] at h6
        obtain ⟨b, T1, h7, h8⟩ := then_ok h
        have k1 := hO _ _ _ _ h7
        have t1 := tail_len (ne_of_bin h6.1)
        exact hL _ _ _ _ _ h8 L (by rw [dep_two]; omega)
      · simp only [Option.some.injEq, PR.ok.injEq] at h
        obtain ⟨rfl, rfl⟩ := h
        exact hLe
    · intro T x T' h
      rw [unaF] at h
      split at h
      · rename_i h6
        obtain ⟨y, T1, h7, h8⟩ := then_ok h
        simp only [Option.some.injEq, PR.ok.injEq] at h8
        obtain ⟨rfl, rfl⟩ := h8
        have := hU _ _ _ h7
        have t1 := tail_len (ne_of_una h6)
        rw [dep_one]; omega
      · exact hS _ _ _ h
    · intro T x T' h
      rw [sngF] at h
      split at h
      · rename_i h6
        unfold numR at h
        have t1 := tail_len (ne_of_k (T := T) (by omega))
        split at h
        · simp only [Option.some.injEq, PR.ok.injEq] at h
          obtain ⟨rfl, rfl⟩ := h
          simp only [dep, depK]; omega
        · simp at h
      · split at h
        · rename_i h6
          unfold varR at h
          have t1 := tail_len (ne_of_k (T := T) (by omega))
          split at h
          · simp only [Option.some.injEq, PR.ok.injEq] at h
            obtain ⟨rfl, rfl⟩ := h
            simp only [dep, depK]; omega
          · simp at h
        · split at h
          · rename_i h6
            obtain ⟨y, T1, h7, h8⟩ := then_ok h
            have := hA _ _ _ h7
            have t1 := tail_len (ne_of_eq h6 (by decide))
            split at h8
            · rename_i h9
              have t2 := tail_len (ne_of_eq h9 (by decide))
              simp only [Option.some.injEq, PR.ok.injEq] at h8
              obtain ⟨rfl, rfl⟩ := h8
              omega
            · simp at h8
          · simp at h
end Go.Proofs.YtbiiempgefjkiaaDoor.Ar
