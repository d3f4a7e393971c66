/- What quoted forms and strings in double quotes represent. -/
import Derived.Test.YtdjphpobhbelaaaDoorUnq2
import Derived.Test.YtdjphpobhbelaaaDoorQuote
namespace Go.Proofs.YtdjphpobhbelaaaDoor
open Go.RowKit

def plB (b : Nat) : Bool := letB b || digB b || among plainS b
theorem plB_of {b : Nat} (h : PlainAt b) : plB b = true := by
  unfold plB
  rcases h with h | h | h <;> rw [h] <;> simp
theorem plB_ok : ∀ b, b < 128 → plB b = true → (b ≠ 92 ∧ b ≠ 39 ∧ b ≠ 34) ∧ okU 0 b = true := by decide

theorem uq_plain : ∀ (l r : List UInt8), (∀ c ∈ l, PlainAt c.toNat) → uq 0 false (l ++ r) = preU l (uq 0 false r) ∨ l = []
  | [], _, _ => .inr rfl
  | c :: l, r, h => by
    left
    have hc := h c List.mem_cons_self
    obtain ⟨⟨n1, n2, n3⟩, ok⟩ := plB_ok _ (plainAt_ascii hc) (plB_of hc)
    have m1 : c ≠ 92 := by rintro rfl; exact n1 rfl
    have m2 : c ≠ 39 := by rintro rfl; exact n2 rfl
    have m3 : c ≠ 34 := by rintro rfl; exact n3 rfl
    rw [List.cons_append, uq, if_neg (by simp [m1]), if_neg (by simp), if_neg (by simp [m2, m3]), if_neg (by rw [ok]; simp)]
    rcases uq_plain l r (fun x hx => h x (List.mem_cons_of_mem _ hx)) with e | rfl
    · rw [e, preU_preU]; rfl
    · rfl

theorem uq_single : ∀ (l r : List UInt8), uq 39 false (l.flatMap quoteB ++ 39 :: r) = preU l (uq 0 false r) ∨ l = []
  | [], _ => .inr rfl
  | c :: l, r => by
    left
    have ih : uq 39 false (l.flatMap quoteB ++ 39 :: r) = preU l (uq 0 false r) ∨ (l = [] ∧ uq 39 false (l.flatMap quoteB ++ 39 :: r) = uq 0 false r) := by
      rcases uq_single l r with e | rfl
      · exact .inl e
      · right
        refine ⟨rfl, ?_⟩
        rw [List.flatMap_nil, List.nil_append, uq, if_neg (by simp), if_pos (by decide)]
    have key : uq 39 false ((c :: l).flatMap quoteB ++ 39 :: r) = preU [c] (uq 39 false (l.flatMap quoteB ++ 39 :: r)) := by
      rw [List.flatMap_cons, List.append_assoc]
      unfold quoteB
      by_cases hc : c = 39
      · subst hc
        rw [if_pos rfl]
        simp only [List.cons_append, List.nil_append]
        rw [uq, if_neg (by simp), if_pos (by decide), uq, if_pos (by decide), uq, if_neg (by decide), if_pos (.inl rfl), uq, if_neg (by decide), if_neg (by decide), if_pos (by decide)]
        rfl
      · rw [if_neg hc]
        simp only [List.cons_append, List.nil_append]
        rw [uq, if_neg (by simp), if_neg (by rintro ⟨_, h⟩; exact hc (UInt8.toNat_inj.1 h)), if_neg (by simp), if_neg (by unfold okU; simp)]
    rw [key]
    rcases ih with e | ⟨rfl, e⟩
    · rw [e, preU_preU]; rfl
    · rw [e]

/-- A quoted form ahead of other text represents its own string ahead of what that represents. -/
theorem uq_quoted (s : ByteArray) (F : Bool) (hF : F = true ↔ PlainP s) (r : List UInt8) : uq 0 false ((quoteF F s).data.toList ++ r) = preU s.data.toList (uq 0 false r) ∨ s.data.toList = [] ∧ uq 0 false ((quoteF F s).data.toList ++ r) = uq 0 false r := by
  rcases F with _ | _
  · have e : (quoteF false s).data.toList ++ r = 39 :: (s.data.toList.flatMap quoteB ++ 39 :: r) := by
      unfold quoteF
      simp
    rw [e, uq, if_neg (by decide), if_neg (by decide), if_pos (by decide)]
    rcases uq_single s.data.toList r with h | h
    · exact .inl h
    · right
      refine ⟨h, ?_⟩
      rw [h]
      show uq 39 false (39 :: r) = _
      rw [uq, if_neg (by decide), if_pos (by decide)]
  · left
    have hp := hF.1 rfl
    rw [show quoteF true s = s from rfl]
    rcases uq_plain s.data.toList r (fun c hc => by
      obtain ⟨i, hi, rfl⟩ := List.getElem_of_mem hc
      exact hp.2 i hi) with h | h
    · exact h
    · have := hp.1
      have h2 : s.data.toList.length = s.size := rfl
      rw [h] at h2; simp at h2; omega

theorem preU_ok (a b : List UInt8) : preU a (0, b) = (0, a ++ b) := by simp [preU]
theorem unq_back (s t : ByteArray) (F G : Bool) (hF : F = true ↔ PlainP s) (hG : G = true ↔ PlainP t) : unqL ((quoteF F s ++ quoteF G t).data.toList) = (0, s.data.toList ++ t.data.toList) := by
  have h2 : uq 0 false (quoteF G t).data.toList = (0, t.data.toList) := by
    have h := uq_quoted t G hG []
    rw [List.append_nil, show uq 0 false [] = (0, []) from by rw [uq]; rfl] at h
    rcases h with h | ⟨h, h'⟩
    · rw [h, preU_ok, List.append_nil]
    · rw [h', h]
  unfold unqL
  rw [ByteArray.data_append, Array.toList_append]
  rcases uq_quoted s F hF (quoteF G t).data.toList with h | ⟨h, h'⟩
  · rw [h, h2, preU_ok, preU_ok, List.nil_append]
  · rw [h', h2, h, preU_ok, List.nil_append]

theorem flat_ge : ∀ l : List UInt8, l.length ≤ (l.flatMap quoteB).length
  | [] => Nat.le_refl _
  | c :: l => by
    have := flat_ge l
    rw [List.flatMap_cons, List.length_append]
    have : 1 ≤ (quoteB c).length := by unfold quoteB; split <;> simp
    rw [List.length_cons]; omega
theorem quote_same (s : ByteArray) (F : Bool) : quoteF F s = s ↔ F = true := by
  rcases F with _ | _
  · simp only [Bool.false_eq_true, iff_false]
    intro h
    have h2 := congrArg (fun x : ByteArray => x.data.toList.length) h
    have h3 := flat_ge s.data.toList
    have h4 : (quoteF false s).data.toList.length = (s.data.toList.flatMap quoteB).length + 2 := by simp only [quoteF, Bool.false_eq_true, if_false, List.length_append, List.length_cons, List.length_nil, Nat.zero_add]; omega
    omega
  · simp [quoteF]

/-- A byte within double quotes. -/
def dblB (c : UInt8) : List UInt8 := if among escS c.toNat = true then [92, c] else [c]
theorem esc_iff (n : Nat) (_ : n < 256) : among escS n = true ↔ n = 36 ∨ n = 96 ∨ n = 34 ∨ n = 92 := by
  unfold among
  rw [decide_eq_true_iff]
  constructor
  · rintro ⟨i, hi, e⟩
    have h4 : i < 4 := hi
    rcases i with _ | _ | _ | _ | i
    · have : 36 = n := e
      omega
    · have : 96 = n := e
      omega
    · have : 34 = n := e
      omega
    · have : 92 = n := e
      omega
    · omega
  · rintro (rfl | rfl | rfl | rfl)
    · exact ⟨0, by decide, rfl⟩
    · exact ⟨1, by decide, rfl⟩
    · exact ⟨2, by decide, rfl⟩
    · exact ⟨3, by decide, rfl⟩
theorem uq_double : ∀ (l r : List UInt8), uq 34 false (l.flatMap dblB ++ 34 :: r) = preU l (uq 0 false r) ∨ l = []
  | [], _ => .inr rfl
  | c :: l, r => by
    left
    have ih : uq 34 false (l.flatMap dblB ++ 34 :: r) = preU l (uq 0 false r) ∨ (l = [] ∧ uq 34 false (l.flatMap dblB ++ 34 :: r) = uq 0 false r) := by
      rcases uq_double l r with e | rfl
      · exact .inl e
      · right
        refine ⟨rfl, ?_⟩
        rw [List.flatMap_nil, List.nil_append, uq, if_neg (by decide), if_pos (by decide)]
    have hi := esc_iff c.toNat (UInt8.toNat_lt c)
    have key : uq 34 false ((c :: l).flatMap dblB ++ 34 :: r) = preU [c] (uq 34 false (l.flatMap dblB ++ 34 :: r)) := by
      rw [List.flatMap_cons, List.append_assoc]
      unfold dblB
      by_cases hc : among escS c.toNat = true
      · rw [if_pos hc]
        simp only [List.cons_append, List.nil_append]
        rw [uq, if_pos (by decide), uq, if_neg (by rintro rfl; revert hc; decide), if_pos (.inr hc)]
      · rw [if_neg hc]
        simp only [List.cons_append, List.nil_append]
        have n1 : c ≠ 92 := by rintro rfl; exact hc (by decide)
        have n2 : c.toNat ≠ 36 ∧ c.toNat ≠ 96 ∧ c.toNat ≠ 34 := by
          refine ⟨fun h => hc (hi.2 (by omega)), fun h => hc (hi.2 (by omega)), fun h => hc (hi.2 (by omega))⟩
        rw [uq, if_neg (by simp [n1]), if_neg (by rintro ⟨_, h⟩; omega), if_neg (by simp), if_neg (by unfold okU; simp; omega)]
    rw [key]
    rcases ih with e | ⟨rfl, e⟩
    · rw [e, preU_preU]; rfl
    · rw [e]
theorem unq_double (l : List UInt8) : unqL (34 :: (l.flatMap dblB ++ [34])) = (0, l) := by
  unfold unqL
  rw [uq, if_neg (by decide), if_neg (by decide), if_pos (by decide)]
  show preU [] (uq 34 false _) = _
  rcases uq_double l [] with h | rfl
  · rw [h, show uq 0 false [] = (0, []) from by rw [uq]; rfl, preU_ok, preU_ok]; simp
  · show preU [] (uq 34 false [34]) = _
    rw [uq, if_neg (by decide), if_pos (by decide), uq]
    rfl
end Go.Proofs.YtdjphpobhbelaaaDoor
