/- Reading back the encodings of strings and lists of strings; their proper prefixes. -/
import Derived.Test.YtdjphpobhbelaaaKUniq
namespace Go.Proofs.Ytdjphpobhbelaaa
open Go.RowKit
set_option linter.unusedVariables false

theorem takeN_of {l : List UInt8} {n : Nat} {k : Nat} (h : takeI l = ((n : Int), k, 0)) : takeN l = (n, k, 0) := by
  unfold takeN
  rw [h]
  simp
theorem takeN_enc {n : Nat} (h : n ≤ 9223372036854775807) (rest : List UInt8) : takeN (encI n ++ rest) = (n, (encI n).length, 0) :=
  takeN_of (takeI_enc (by omega) (by omega) rest)
theorem takeN_short {n : Nat} (h : n ≤ 9223372036854775807) {j : Nat} (hj : j < (encI n).length) : takeN ((encI n).take j) = (0, 0, 28) := by
  unfold takeN
  rw [takeI_short (by omega) (by omega) hj]
  simp
theorem takeS_enc (s rest : List UInt8) (h : s.length ≤ 9223372036854775807) : takeS (encS s ++ rest) = (s, (encS s).length, 0) := by
  have e : encS s ++ rest = encI s.length ++ (s ++ rest) := by unfold encS; rw [List.append_assoc]
  rw [e]
  unfold takeS
  rw [takeN_enc h]
  simp only [ne_eq, not_true_eq_false, if_false]
  rw [if_neg (by simp), List.drop_left, List.take_left]
  unfold encS
  rw [List.length_append]
theorem takeS_short (s : List UInt8) (h : s.length ≤ 9223372036854775807) {j : Nat} (hj : j < (encS s).length) : takeS ((encS s).take j) = ([], 0, 28) := by
  unfold encS at hj ⊢
  rw [List.length_append] at hj
  by_cases h1 : j < (encI s.length).length
  · rw [List.take_append_of_le_length (by omega)]
    unfold takeS
    rw [takeN_short h h1]
    simp
  · have e : (encI s.length ++ s).take j = encI s.length ++ s.take (j - (encI s.length).length) := by
      rw [List.take_append, List.take_of_length_le (by omega)]
    rw [e]
    unfold takeS
    rw [takeN_enc h]
    simp only [ne_eq, not_true_eq_false, if_false]
    rw [if_pos]
    rw [List.length_append, List.length_take]
    omega
theorem encS_pos (s : List UInt8) : 1 ≤ (encS s).length := by
  have := putZ_pos (zz (s.length : Int))
  unfold encS encI
  rw [List.length_append]
  omega
theorem flat_count : ∀ ss : List (List UInt8), ss.length ≤ (ss.flatMap encS).length
  | [] => Nat.zero_le _
  | s :: ss => by
    have h1 := flat_count ss
    have h2 := encS_pos s
    rw [List.flatMap_cons, List.length_append, List.length_cons]
    omega
theorem loopT_enc : ∀ (ss : List (List UInt8)) (rest : List UInt8), (∀ s ∈ ss, s.length ≤ 9223372036854775807) → loopT ss.length (ss.flatMap encS ++ rest) = (ss, (ss.flatMap encS).length, 0)
  | [], rest, _ => rfl
  | s :: ss, rest, h => by
    have ih := loopT_enc ss rest (fun x hx => h x (List.mem_cons_of_mem _ hx))
    have hs := takeS_enc s (ss.flatMap encS ++ rest) (h s List.mem_cons_self)
    rw [List.flatMap_cons, List.append_assoc, List.length_cons, loopT, hs]
    simp only [ne_eq, not_true_eq_false, if_false, List.drop_left, ih]
    rw [List.length_append]
theorem loopT_short : ∀ (ss : List (List UInt8)) (j : Nat), (∀ s ∈ ss, s.length ≤ 9223372036854775807) → j < (ss.flatMap encS).length → loopT ss.length ((ss.flatMap encS).take j) = ([], 0, 28)
  | [], j, _, hj => by simp at hj
  | s :: ss, j, h, hj => by
    rw [List.flatMap_cons, List.length_append] at hj
    rw [List.flatMap_cons, List.length_cons, loopT]
    by_cases h1 : j < (encS s).length
    · rw [List.take_append_of_le_length (by omega), takeS_short s (h s List.mem_cons_self) h1]
      simp
    · have e : (encS s ++ ss.flatMap encS).take j = encS s ++ (ss.flatMap encS).take (j - (encS s).length) := by
        rw [List.take_append, List.take_of_length_le (by omega)]
      rw [e, takeS_enc s _ (h s List.mem_cons_self)]
      simp only [ne_eq, not_true_eq_false, if_false, List.drop_left]
      rw [loopT_short ss (j - (encS s).length) (fun x hx => h x (List.mem_cons_of_mem _ hx)) (by omega)]
      simp
theorem takeL_enc (ss : List (List UInt8)) (rest : List UInt8) (h : ∀ s ∈ ss, s.length ≤ 9223372036854775807) (hn : ss.length ≤ 9223372036854775807) : takeL (encT ss ++ rest) = (ss, (encT ss).length, 0) := by
  have e : encT ss ++ rest = encI ss.length ++ (ss.flatMap encS ++ rest) := by unfold encT; rw [List.append_assoc]
  have hc := flat_count ss
  rw [e]
  unfold takeL
  rw [takeN_enc hn]
  simp only [ne_eq, not_true_eq_false, if_false, List.drop_left]
  rw [if_neg (by rw [List.length_append, List.length_append]; omega), loopT_enc ss rest h]
  simp [comb, encT]
theorem takeL_short (ss : List (List UInt8)) (h : ∀ s ∈ ss, s.length ≤ 9223372036854775807) (hn : ss.length ≤ 9223372036854775807) {j : Nat} (hj : j < (encT ss).length) : takeL ((encT ss).take j) = ([], 0, 28) := by
  unfold encT at hj ⊢
  rw [List.length_append] at hj
  by_cases h1 : j < (encI ss.length).length
  · rw [List.take_append_of_le_length (by omega)]
    unfold takeL
    rw [takeN_short hn h1]
    simp
  · have e : (encI ss.length ++ ss.flatMap encS).take j = encI ss.length ++ (ss.flatMap encS).take (j - (encI ss.length).length) := by
      rw [List.take_append, List.take_of_length_le (by omega)]
    rw [e]
    unfold takeL
    rw [takeN_enc hn]
    simp only [ne_eq, not_true_eq_false, if_false, List.drop_left]
    split
    · rfl
    · rw [loopT_short ss _ h (by omega)]
      simp [comb]
end Go.Proofs.Ytdjphpobhbelaaa
