/- lexer: a quoted form is one word. -/
import Derived.Test.YtlenmkcafoiefaaDoorLxP
import Derived.Test.YtlenmkcafoiefaaDoorLxL1
namespace Go.Proofs.YtlenmkcafoiefaaDoor
open Go.RowKit
set_option linter.unusedVariables false

/-- What stands at a place is told by what is left there. -/
theorem bt_of {l : List UInt8} {p : Nat} {c : UInt8} {r : List UInt8} (h : l.drop p = c :: r) : bt l p = c ∧ p < l.length ∧ l.drop (p + 1) = r ∧ l.length = p + 1 + r.length := by
  have hl := congrArg List.length h
  rw [List.length_drop] at hl
  simp only [List.length_cons] at hl
  have hp : p < l.length := by omega
  have h2 := drop_bt hp
  rw [h] at h2
  injection h2 with h3 h4
  exact ⟨h3.symm, hp, h4.symm, by omega⟩
theorem pasL_plain {l : List UInt8} {p : Nat} (h : plB (bt l p) = true) : borderB (bt l p) = false ∧ pasL l p 0 = (p + 1, 0) := by
  generalize hb : bt l p = b at *
  have key : ∀ n, n < 256 → plB (UInt8.ofNat n) = true → borderB (UInt8.ofNat n) = false ∧ UInt8.ofNat n ≠ 92 ∧ UInt8.ofNat n ≠ 96 ∧ UInt8.ofNat n ≠ 36 ∧ UInt8.ofNat n ≠ 39 ∧ UInt8.ofNat n ≠ 34 := by decide +kernel
  have k2 := key b.toNat b.toNat_lt (by rw [UInt8.ofNat_toNat]; exact h)
  rw [UInt8.ofNat_toNat] at k2
  obtain ⟨h1, h2, h3, h4, h5, h6⟩ := k2
  refine ⟨h1, ?_⟩
  unfold pasL
  rw [show 2 * l.length + 2 = (2 * l.length + 1) + 1 from rfl]
  exact passF_oth (by rw [hb]; exact h2) (by rw [hb]; exact h3) (by rw [hb]; exact h4) (by rw [hb]; exact h5) (by rw [hb]; exact h6)
/-- A run of plain bytes in front of a blank. -/
theorem word_plain {l r : List UInt8} : ∀ (q : List UInt8) (p F : Nat), l.drop p = q ++ 32 :: r → q.all plB = true → q.length < F → wordF F l p = (p + q.length, 0)
  | [], p, F, h, _, hF => by
    obtain ⟨h1, h2, h3, _⟩ := bt_of h
    obtain ⟨F, rfl⟩ : ∃ G, F = G + 1 := ⟨F - 1, by simp at hF; omega⟩
    rw [wordF_lt h2, h1, if_pos (by decide)]
    rfl
  | c :: q, p, F, h, ha, hF => by
    obtain ⟨h1, h2, h3, _⟩ := bt_of h
    rw [List.all_cons, Bool.and_eq_true] at ha
    obtain ⟨F, rfl⟩ : ∃ G, F = G + 1 := ⟨F - 1, by omega⟩
    obtain ⟨e1, e2⟩ := pasL_plain (l := l) (p := p) (by rw [h1]; exact ha.1)
    rw [wordF_lt h2, e1, if_neg (by simp), e2]
    simp only
    rw [word_plain q (p + 1) F h3 ha.2 (by simp at hF; omega)]
    simp only [List.length_cons]
    congr 1
    omega
theorem fndL_no {x r : List UInt8} (h : (39 : UInt8) ∉ x) : fndL 39 (x ++ 39 :: r) = x.length := by
  induction x with
  | nil => rfl
  | cons c x ih =>
    show (if c == 39 then 0 else fndL 39 (x ++ 39 :: r) + 1) = _
    rw [if_neg (by rw [beq_iff_eq]; rintro rfl; simp at h), ih (fun hm => h (by simp [hm]))]
    rfl
theorem pasL_sing {l x r : List UInt8} {p : Nat} (h : l.drop p = 39 :: (x ++ 39 :: r)) (hx : (39 : UInt8) ∉ x) : borderB (bt l p) = false ∧ pasL l p 0 = (p + x.length + 2, 0) ∧ l.drop (p + x.length + 2) = r ∧ p + x.length + 2 ≤ l.length := by
  obtain ⟨h1, h2, h3, h4⟩ := bt_of h
  refine ⟨by rw [h1]; decide, ?_, ?_, by simp at h4; omega⟩
  · unfold pasL
    rw [show 2 * l.length + 2 = (2 * l.length + 1) + 1 from rfl, passF_39 h1]
    unfold singL
    rw [h3, fndL_no hx, if_pos (by simp at h4; omega)]
    simp only [Prod.mk.injEq, and_true]
    omega
  · rw [show p + x.length + 2 = (p + 1) + (x.length + 1) from by omega, ← List.drop_drop, h3, List.drop_append, List.drop_of_length_le (by omega), show x.length + 1 - x.length = 1 from by omega]
    rfl
/-- What is left of the quoted form, from an opening quote on. -/
theorem word_quoted {l r : List UInt8} : ∀ (s x : List UInt8) (p F : Nat), l.drop p = 39 :: (x ++ (s.flatMap quoB ++ 39 :: 32 :: r)) → (39 : UInt8) ∉ x → 3 * s.length + 3 ≤ F → wordF F l p = (p + x.length + (s.flatMap quoB).length + 2, 0)
  | [], x, p, F, h, hx, hF => by
    obtain ⟨F, rfl⟩ : ∃ G, F = G + 1 + 1 := ⟨F - 2, by simp at hF; omega⟩
    obtain ⟨e1, e2, e3, e4⟩ := pasL_sing (x := x) (r := 32 :: r) h hx
    obtain ⟨g1, g2, g3, g4⟩ := bt_of e3
    have hp := (bt_of h).2.1
    rw [wordF_lt hp, e1, if_neg (by simp), e2]
    simp only
    rw [wordF_lt g2, g1, if_pos (by decide)]
    rfl
  | c :: s, x, p, F, h, hx, hF => by
    by_cases hc : c = 39
    · subst hc
      have h' : l.drop p = 39 :: (x ++ 39 :: (92 :: 39 :: (39 :: ([] ++ (s.flatMap quoB ++ 39 :: 32 :: r))))) := by
        rw [h, List.flatMap_cons]
        rfl
      obtain ⟨F, rfl⟩ : ∃ G, F = G + 1 + 1 := ⟨F - 2, by simp at hF; omega⟩
      obtain ⟨e1, e2, e3, e4⟩ := pasL_sing h' hx
      obtain ⟨g1, g2, g3, g4⟩ := bt_of e3
      have hp := (bt_of h').2.1
      have h3 : l.drop (p + x.length + 2 + 2) = 39 :: ([] ++ (s.flatMap quoB ++ 39 :: 32 :: r)) := (bt_of g3).2.2.1
      have hes : pasL l (p + x.length + 2) 0 = (p + x.length + 2 + 2, 0) := by
        unfold pasL
        rw [show 2 * l.length + 2 = (2 * l.length + 1) + 1 from rfl, passF_92 g1]
        unfold escL
        rw [if_neg (by simp at g4; omega)]
      rw [wordF_lt hp, e1, if_neg (by simp), e2]
      simp only
      rw [wordF_lt g2, g1, if_neg (by decide), hes]
      simp only
      rw [word_quoted s [] _ F h3 (by simp) (by simp at hF; omega)]
      rw [List.flatMap_cons, show quoB 39 = [39, 92, 39, 39] from rfl]
      simp only [List.length_append, List.length_cons, List.length_nil, Prod.mk.injEq, and_true]
      omega
    · have hq : quoB c = [c] := if_neg hc
      have h' : l.drop p = 39 :: ((x ++ [c]) ++ (s.flatMap quoB ++ 39 :: 32 :: r)) := by
        rw [h, List.flatMap_cons, hq]
        simp
      rw [word_quoted s (x ++ [c]) p F h' (by simp [hx]; exact fun e => hc e.symm) (by simp at hF; omega)]
      rw [List.flatMap_cons, hq]
      simp only [List.length_append, List.length_cons, List.length_nil, Prod.mk.injEq, and_true]
      omega
theorem opS_head {c : UInt8} {r : List UInt8} (h : opS (c :: r) = true) : opB c = true ∨ c = 10 := by
  unfold opS opsL at h
  rw [List.contains_iff_mem] at h
  simp only [List.mem_cons, List.not_mem_nil, or_false, List.cons.injEq] at h
  rcases h with ⟨rfl, _⟩ | ⟨rfl, _⟩ | ⟨rfl, _⟩ | ⟨rfl, _⟩ | ⟨rfl, _⟩ | ⟨rfl, _⟩ | ⟨rfl, _⟩ | ⟨rfl, _⟩ | ⟨rfl, _⟩ | ⟨rfl, _⟩ | ⟨rfl, _⟩ | ⟨rfl, _⟩ | ⟨rfl, _⟩ | ⟨rfl, _⟩ | ⟨rfl, _⟩ | ⟨rfl, _⟩ | ⟨rfl, _⟩ | ⟨rfl, _⟩ <;> decide
theorem opsF_head {c : UInt8} {r : List UInt8} (h1 : opB c = false) (h2 : c ≠ 10) : ∀ m, opsF (c :: r) m = 0
  | 0 => rfl
  | m + 1 => by
    rw [opsF, if_neg, opsF_head h1 h2 m]
    rw [List.take_succ_cons]
    intro h
    rcases opS_head h with h | h
    · rw [h1] at h; cases h
    · exact h2 h
theorem skip_two {l r : List UInt8} {c : UInt8} (h : l = 32 :: 32 :: c :: r) (h1 : blankB c = false) (h2 : c ≠ 35) (h3 : c ≠ 92) : skipL l 0 = 2 := by
  subst h
  unfold skipL
  rw [show clamp 0 (32 :: 32 :: c :: r).length = 0 from rfl]
  rw [show (32 :: 32 :: c :: r).length + 1 = r.length + 1 + 1 + 1 + 1 from rfl]
  rw [skipF_lt (by simp), show bt (32 :: 32 :: c :: r) 0 = 32 from rfl, if_pos (by decide)]
  rw [skipF_lt (by simp), show bt (32 :: 32 :: c :: r) (0 + 1) = 32 from rfl, if_pos (by decide)]
  rw [skipF_lt (by simp), show bt (32 :: 32 :: c :: r) (0 + 1 + 1) = c from rfl, h1, if_neg (by simp), if_neg (by simpa using h2), if_neg]
  unfold joinB
  rw [show bt (32 :: 32 :: c :: r) (0 + 1 + 1) = c from rfl, beq_eq_false_iff_ne.2 h3]
  simp
theorem quoted_next {s S : ByteArray} (hS : S.data.toList = 32 :: 32 :: ((quoL s).data.toList ++ [32, 120])) (hsz : S.size ≤ 16384) : nextL S 0 = (⟨1, 2, 2 + (quoL s).size, quoL s⟩, 0) := by
  obtain ⟨q, hq⟩ : ∃ q, q = (quoL s).data.toList := ⟨_, rfl⟩
  have hqs : (quoL s).size = q.length := by rw [hq, lenS]
  rw [← hq] at hS
  have hlen : S.size = q.length + 4 := by rw [← lenS, hS]; simp
  have hdrop : S.data.toList.drop 2 = q ++ [32, 120] := by rw [hS]; rfl
  have main : ∃ c r, q = c :: r ∧ blankB c = false ∧ opB c = false ∧ c ≠ 10 ∧ c ≠ 35 ∧ c ≠ 92 ∧ wordF (S.data.toList.length + 1) S.data.toList 2 = (2 + q.length, 0) := by
    unfold quoL at hq
    by_cases hp : plnB s.data.toList = true
    · rw [if_pos hp] at hq
      unfold plnB at hp
      rw [Bool.and_eq_true, ← hq] at hp
      rcases q with _ | ⟨c, r⟩
      · simp at hp
      have hc : plB c = true := by
        have := hp.2
        rw [List.all_cons, Bool.and_eq_true] at this
        exact this.1
      have key : ∀ n, n < 256 → plB (UInt8.ofNat n) = true → blankB (UInt8.ofNat n) = false ∧ opB (UInt8.ofNat n) = false ∧ UInt8.ofNat n ≠ 10 ∧ UInt8.ofNat n ≠ 35 ∧ UInt8.ofNat n ≠ 92 := by decide +kernel
      have k2 := key c.toNat c.toNat_lt (by rw [UInt8.ofNat_toNat]; exact hc)
      rw [UInt8.ofNat_toNat] at k2
      obtain ⟨k1, k2, k3, k4, k5⟩ := k2
      exact ⟨c, r, rfl, k1, k2, k3, k4, k5, word_plain (c :: r) 2 _ hdrop hp.2 (by rw [lenS]; omega)⟩
    · rw [if_neg hp] at hq
      have hq' : q = 39 :: (s.data.toList.flatMap quoB ++ [39]) := by rw [hq]; simp
      refine ⟨39, _, hq', by decide, by decide, by decide, by decide, by decide, ?_⟩
      have h : S.data.toList.drop 2 = 39 :: ([] ++ (s.data.toList.flatMap quoB ++ 39 :: 32 :: [120])) := by rw [hdrop, hq']; simp
      have hfl : ∀ l : List UInt8, l.length ≤ (l.flatMap quoB).length ∧ (l.count 39) * 3 ≤ (l.flatMap quoB).length := by
        intro l
        induction l with
        | nil => simp
        | cons c l ih =>
          rw [List.flatMap_cons, List.length_append]
          by_cases hc : c = 39
          · subst hc
            rw [show quoB 39 = [39, 92, 39, 39] from rfl, List.count_cons_self]
            simp only [List.length_cons, List.length_nil]
            omega
          · rw [show quoB c = [c] from if_neg hc, List.count_cons_of_ne hc]
            simp only [List.length_cons, List.length_nil]
            omega
      have hf := wordF_fuel (s := S.data.toList) (p := 2) (F := S.data.toList.length + 1) (by omega) (3 * s.data.toList.length + 3)
      rw [← hf, word_quoted s.data.toList [] 2 _ h (by simp) (by omega), hq']
      simp only [List.length_append, List.length_cons, List.length_nil, Prod.mk.injEq, and_true]
      omega
  obtain ⟨c, r, hcr, k1, k2, k3, k4, k5, hw⟩ := main
  have hsk : skipL S.data.toList 0 = 2 := skip_two (by rw [hS, hcr]; rfl) k1 k4 k5
  have hb : bt S.data.toList 2 = c := by rw [hS, hcr]; rfl
  have hz : opsz (S.data.toList.drop 2) = 0 := by
    rw [hdrop, hcr]
    unfold opsz
    exact opsF_head k2 k3 _
  obtain ⟨n1, n2, n3⟩ := nextL_word (s := S) (a := 0) (by omega) hsk (by omega) (by rw [hb]; exact k3) hz hw
  rw [n3, hqs]
  have h32 : bt S.data.toList (2 + q.length) = 32 := by
    rw [hS]
    have := (beh_app (32 :: 32 :: q) [32, 120]).bt 0
    rw [show (32 :: 32 :: q).length + 0 = 2 + q.length from by simp; omega] at this
    rw [show (32 :: 32 :: (q ++ [32, 120]) : List UInt8) = (32 :: 32 :: q) ++ [32, 120] from rfl, this]
    rfl
  rw [h32]
  simp only [Prod.mk.injEq, and_true, Tk.mk.injEq]
  refine ⟨by simp, trivial, trivial, ?_⟩
  apply ByteArray.ext
  apply Array.toList_inj.1
  rw [Lib.extract_data, hdrop, Nat.add_sub_cancel_left, List.take_left' rfl, hq]
end Go.Proofs.YtlenmkcafoiefaaDoor
