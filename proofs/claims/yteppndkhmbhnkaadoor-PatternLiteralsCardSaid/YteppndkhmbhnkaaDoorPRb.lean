/- pattern: the reference's members against the code's. -/
import Derived.Test.YteppndkhmbhnkaaDoorPRt
namespace Go.Proofs.YteppndkhmbhnkaaDoor
open Go.RowKit
set_option linter.unusedVariables false

/-- Ranges as spans. -/
def prR : List UInt8 → List (Nat × Nat)
  | a :: b :: r => (a.toNat, b.toNat) :: prR r
  | _ => []
theorem inSp_prR : ∀ (rs : List UInt8) (j : Nat), inSp (prR rs) j = inR rs j
  | [], _ => rfl
  | [_], _ => rfl
  | a :: b :: r, j => by rw [prR, inSp_cons, inR, inSp_prR r j]
/-- The spans of the member at a place. -/
def refSp (d : List Ch) : List (Nat × Nat) :=
  if classI d < 8 then prR (classR (classI d)) else
  if (decide (3 ≤ d.length) && isAt d 1 45 && !isAt d 2 93) = true then (if (byteAt d 0).toNat ≤ (byteAt d 2).toNat then [((byteAt d 0).toNat, (byteAt d 2).toNat)] else []) else
  [((byteAt d 0).toNat, (byteAt d 0).toNat)]
theorem begs_take : ∀ (n : Nat) (d : List Ch) (s : List UInt8), s.length ≤ n → begs (d.take n) s = begs d s
  | n, d, [], _ => by rw [begs_nil, begs_nil]
  | 0, d, x :: s, h => by simp at h
  | n + 1, [], x :: s, h => rfl
  | n + 1, c :: d, x :: s, h => by
    rw [List.take_succ_cons, begs, begs, begs_take n d s (by simpa using h)]
theorem clsFrom_take (d : List Ch) (k : Nat) (hk : 9 ≤ k) : ∀ (n i : Nat), i + n ≤ 8 → clsFrom (d.take k) n i = clsFrom d n i
  | 0, i, _ => rfl
  | n + 1, i, h => by
    rw [clsFrom, clsFrom, begs_take k d _ (by rw [classT_len i (by omega)]; exact hk), clsFrom_take d k hk n (i + 1) (by omega)]
theorem classI_take (d : List Ch) : classI (d.take 9) = classI d := clsFrom_take d 9 (Nat.le_refl _) 8 0 (by omega)
theorem clsFrom_short (d : List Ch) (hd : d.length < 9) : ∀ (n i : Nat), i + n ≤ 8 → clsFrom d n i = i + n
  | 0, i, _ => rfl
  | n + 1, i, h => by
    rw [clsFrom, if_neg (by rw [begs_short d _ (by rw [classT_len i (by omega)]; exact hd)]; simp), clsFrom_short d hd n (i + 1) (by omega)]
    omega
theorem classI_short (d : List Ch) (hd : d.length < 9) : classI d = 8 := clsFrom_short d hd 8 0 (by omega)
theorem refSp_in (d : List Ch) (hd : d ≠ []) (j : Nat) : inSp (refSp d) j = inR (mranges (d.take (msize d))) j := by
  unfold refSp msize
  by_cases h1 : classI d < 8
  · rw [if_pos h1, if_pos h1, inSp_prR]
    unfold mranges
    rw [classI_take, if_pos h1]
  · rw [if_neg h1, if_neg h1]
    obtain ⟨a, r, rfl⟩ := List.exists_cons_of_ne_nil hd
    by_cases h2 : (decide (3 ≤ (a :: r).length) && isAt (a :: r) 1 45 && !isAt (a :: r) 2 93) = true
    · rw [if_pos h2, if_pos h2]
      simp only [Bool.and_eq_true, decide_eq_true_eq] at h2
      obtain ⟨⟨h3, _⟩, _⟩ := h2
      obtain ⟨b, r2, rfl⟩ : ∃ b r2, r = b :: r2 := List.exists_cons_of_ne_nil (by intro e; subst e; simp at h3)
      obtain ⟨c, r3, rfl⟩ : ∃ c r3, r2 = c :: r3 := List.exists_cons_of_ne_nil (by intro e; subst e; simp at h3)
      show inSp (if a.b.toNat ≤ c.b.toNat then [(a.b.toNat, c.b.toNat)] else []) j = inR (mranges [a, b, c]) j
      have hm : mranges [a, b, c] = [a.b, c.b] := by
        unfold mranges
        rw [classI_short _ (by simp), if_neg (by omega)]
        rfl
      rw [hm]
      simp only [inR, Bool.or_false]
      by_cases h4 : a.b.toNat ≤ c.b.toNat
      · rw [if_pos h4]; simp [inSp]
      · rw [if_neg h4]
        simp [inSp]
        omega
    · rw [if_neg h2, if_neg h2]
      show inSp [(a.b.toNat, a.b.toNat)] j = inR (mranges [a]) j
      have hm : mranges [a] = [a.b, a.b] := by
        unfold mranges
        rw [classI_short _ (by simp), if_neg (by omega)]
        rfl
      rw [hm]
      simp [inSp, inR]
/-- What the loop over the members knows: where it stands, the spans so far. -/
def BrkInv (cs : List Ch) (f : Nat) (first : Bool) (i : Nat) (acc : List (Nat × Nat)) : Prop :=
  (first = true ∧ i = f ∧ acc = []) ∨
  (first = false ∧ f < cs.length ∧ mend cs (f + msize (cs.drop f)) = mend cs i ∧ f + 1 ≤ i ∧ ∀ E : Nat, mend cs i = E → ∀ j, (inSp acc j || memS cs E i j) = memS cs E f j)
theorem mend_ge (cs : List Ch) (i E : Nat) (h : mend cs i = E) : i ≤ E ∧ E < cs.length := by
  rcases mend_range cs i with h1 | ⟨k, h1, h2, h3, _⟩
  · rw [h1] at h; omega
  · rw [h1] at h
    have : k = E := by omega
    omega
theorem brkInv_step {cs : List Ch} {f i : Nat} {first : Bool} {acc : List (Nat × Nat)} (h : BrkInv cs f first i acc) (hi : i < cs.length) (hc : first = true ∨ isAt cs i 93 = false) :
    BrkInv cs f false (i + msize (cs.drop i)) (acc ++ refSp (cs.drop i)) := by
  have hne : cs.drop i ≠ [] := by
    intro e
    have := congrArg List.length e
    rw [List.length_drop] at this
    simp at this
    omega
  have hpos := msize_pos (cs.drop i)
  rcases h with ⟨h1, rfl, rfl⟩ | ⟨h1, h2, h3, h4, h5⟩
  · refine .inr ⟨rfl, hi, rfl, by omega, fun E hE j => ?_⟩
    have := mend_ge _ _ _ hE
    rw [List.nil_append, refSp_in _ hne, ← memS_at _ _ _ _ (by omega)]
  · have h93 : isAt cs i 93 = false := by
      rcases hc with hc | hc
      · rw [h1] at hc; cases hc
      · exact hc
    have hme : mend cs i = mend cs (i + msize (cs.drop i)) := by rw [mend_at cs i hi, if_neg (by rw [h93]; simp)]
    refine .inr ⟨rfl, h2, h3.trans hme, by omega, fun E hE j => ?_⟩
    have := mend_ge _ _ _ hE
    rw [← h5 E (hme.trans hE) j, memS_at cs E i j (by omega), inSp_append, refSp_in _ hne, Bool.or_assoc]
theorem brk_none {cs : List Ch} {p i : Nat} {first : Bool} {acc : List (Nat × Nat)} (h : BrkInv cs (firstAt cs p) first i acc) (hi : cs.length ≤ i) : brk cs p = none := by
  unfold brk
  rcases h with ⟨h1, rfl, rfl⟩ | ⟨h1, h2, h3, h4, h5⟩
  · rw [if_pos hi]
  · rw [if_neg (by omega), if_pos (by rw [h3, mend_end cs i hi]; omega)]
theorem brk_some {cs : List Ch} {p i : Nat} {acc : List (Nat × Nat)} (h : BrkInv cs (firstAt cs p) false i acc) (hi : i < cs.length) (hc : isAt cs i 93 = true) : brk cs p = some (negAt cs p, spL (inSp acc) 256, i + 1 - p) := by
  unfold brk
  rcases h with ⟨h1, _⟩ | ⟨h1, h2, h3, h4, h5⟩
  · cases h1
  · have hm : mend cs i = i := by rw [mend_at cs i hi, if_pos hc]
    rw [if_neg (by omega), h3, hm, if_neg (by omega), Int.toNat_natCast]
    congr 3
    refine spL_ext _ _ 256 fun j _ => ?_
    rw [← h5 i hm j, memS_end cs i i j (Nat.le_refl _), Bool.or_false]
end Go.Proofs.YteppndkhmbhnkaaDoor
