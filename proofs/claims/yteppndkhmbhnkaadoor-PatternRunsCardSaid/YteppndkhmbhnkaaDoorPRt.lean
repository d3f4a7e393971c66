/- pattern: Compile of Runs gives the items back. -/
import Derived.Test.YteppndkhmbhnkaaDoorPJm
namespace Go.Proofs.YteppndkhmbhnkaaDoor
open Go.RowKit
set_option linter.unusedVariables false

/-- Is a number in one of the spans? -/
def inSp (l : List (Nat × Nat)) (j : Nat) : Bool := l.any fun p => decide (p.1 ≤ j) && decide (j ≤ p.2)
theorem inSp_cons (p : Nat × Nat) (l : List (Nat × Nat)) (j : Nat) : inSp (p :: l) j = ((decide (p.1 ≤ j) && decide (j ≤ p.2)) || inSp l j) := rfl
theorem inSp_append (l m : List (Nat × Nat)) (j : Nat) : inSp (l ++ m) j = (inSp l j || inSp m j) := by unfold inSp; rw [List.any_append]
/-- The spans, cut off at k. -/
def cutS : List (Nat × Nat) → Nat → List (Nat × Nat)
  | [], _ => []
  | (a, e) :: r, k => if k ≤ a then [] else if k ≤ e then [(a, k - 1)] else (a, e) :: cutS r k
theorem minL_cons {m a e : Nat} {r : List (Nat × Nat)} (h : minL m ((a, e) :: r) = true) : m ≤ a ∧ a ≤ e ∧ minL (e + 2) r = true := by
  simp only [minL, Bool.and_eq_true, Bool.not_eq_true', decide_eq_false_iff_not] at h
  exact ⟨by omega, by omega, h.2⟩
theorem inSp_low : ∀ {l : List (Nat × Nat)} {m j : Nat}, minL m l = true → j < m → inSp l j = false
  | [], _, _, _, _ => rfl
  | (a, e) :: r, m, j, h, hj => by
    obtain ⟨h1, h2, h3⟩ := minL_cons h
    rw [inSp_cons, inSp_low h3 (by omega)]
    simp
    omega
theorem cutS_low : ∀ {l : List (Nat × Nat)} {m k : Nat}, minL m l = true → k ≤ m → cutS l k = []
  | [], _, _, _, _ => rfl
  | (a, e) :: r, m, k, h, hk => by
    obtain ⟨h1, h2, h3⟩ := minL_cons h
    rw [cutS, if_pos (by omega)]
theorem cutS_ne : ∀ {l : List (Nat × Nat)} {m k : Nat}, minL m l = true → inSp l k = true → cutS l (k + 1) ≠ []
  | [], _, _, _, h => by simp [inSp] at h
  | (a, e) :: r, m, k, h, hi => by
    obtain ⟨h1, h2, h3⟩ := minL_cons h
    rw [cutS]
    by_cases hk : k + 1 ≤ a
    · rw [inSp_cons, inSp_low h3 (by omega)] at hi
      simp at hi
      omega
    · rw [if_neg hk]
      split <;> simp
theorem cutS_step : ∀ {l : List (Nat × Nat)} {m k : Nat}, minL m l = true →
    cutS l (k + 1) = if inSp l k = false then cutS l k else if (decide (0 < k) && inSp l (k - 1)) = true then setHi (cutS l k) k else cutS l k ++ [(k, k)]
  | [], _, _, _ => rfl
  | (a, e) :: r, m, k, h => by
    obtain ⟨h1, h2, h3⟩ := minL_cons h
    have ih := cutS_step (k := k) h3
    by_cases c1 : k < a
    · have e1 : inSp ((a, e) :: r) k = false := by rw [inSp_cons, inSp_low h3 (by omega)]; simp; omega
      rw [if_pos e1, cutS, cutS, if_pos (by omega), if_pos (by omega)]
    · by_cases c2 : k ≤ e
      · have e1 : inSp ((a, e) :: r) k = true := by rw [inSp_cons]; simp; left; omega
        rw [if_neg (by rw [e1]; simp)]
        have hr : cutS r (k + 1) = [] := cutS_low h3 (by omega)
        have hl : cutS ((a, e) :: r) (k + 1) = [(a, k)] := by
          rw [cutS, if_neg (by omega), hr]
          by_cases c3 : k + 1 ≤ e
          · rw [if_pos c3]; rfl
          · rw [if_neg c3, show e = k from by omega]
        rw [hl]
        by_cases c3 : a = k
        · have e2 : (decide (0 < k) && inSp ((a, e) :: r) (k - 1)) = false := by
            rcases Nat.eq_zero_or_pos k with h0 | h0
            · simp [h0]
            · rw [inSp_cons, inSp_low h3 (by omega)]; simp; omega
          rw [if_neg (by rw [e2]; simp), cutS, if_pos (by omega), c3]
          rfl
        · have e2 : (decide (0 < k) && inSp ((a, e) :: r) (k - 1)) = true := by
            rw [inSp_cons]; simp; exact ⟨by omega, .inl (by omega)⟩
          rw [if_pos e2, cutS, if_neg (by omega), if_pos c2]
          rfl
      · have e1 : inSp ((a, e) :: r) k = inSp r k := by rw [inSp_cons]; have : decide (k ≤ e) = false := decide_eq_false c2; rw [this]; simp
        have hl : ∀ n, e < n → cutS ((a, e) :: r) n = (a, e) :: cutS r n := fun n hn => by rw [cutS, if_neg (by omega), if_neg (by omega)]
        rw [e1, hl (k + 1) (by omega), hl k (by omega)]
        by_cases c4 : inSp r k = false
        · rw [if_pos c4, ih, if_pos c4]
        · rw [if_neg c4]
          rw [if_neg c4] at ih
          have hk2 : e + 2 ≤ k := by
            rcases Nat.lt_or_ge k (e + 2) with g | g
            · exact absurd (inSp_low h3 g) c4
            · exact g
          have e3 : inSp ((a, e) :: r) (k - 1) = inSp r (k - 1) := by rw [inSp_cons]; have : decide (k - 1 ≤ e) = false := decide_eq_false (by omega); rw [this]; simp
          rw [e3, ih]
          by_cases c5 : (decide (0 < k) && inSp r (k - 1)) = true
          · rw [if_pos c5, if_pos c5]
            have hne := cutS_ne h3 (k := k - 1) (by simp at c5; exact c5.2)
            rw [show k - 1 + 1 = k from by omega] at hne
            rcases hq : cutS r k with _ | ⟨p, q⟩
            · exact absurd hq hne
            · rfl
          · rw [if_neg c5, if_neg c5]
            rfl
theorem spL_cut {l : List (Nat × Nat)} (h : minL 0 l = true) : ∀ k, spL (inSp l) k = cutS l k
  | 0 => (cutS_low h (Nat.le_refl _)).symm
  | k + 1 => by
    rw [spL, cutS_step h, spL_cut h k]
theorem cutS_all : ∀ {l : List (Nat × Nat)} {m k : Nat}, minL m l = true → (∀ p ∈ l, p.2 < k) → cutS l k = l
  | [], _, _, _, _ => rfl
  | (a, e) :: r, m, k, h, hp => by
    obtain ⟨h1, h2, h3⟩ := minL_cons h
    have := hp (a, e) List.mem_cons_self
    simp only at this
    rw [cutS, if_neg (by omega), if_neg (by omega), cutS_all h3 (fun p hq => hp p (List.mem_cons_of_mem _ hq))]
theorem spL_min {l : List (Nat × Nat)} (h : minL 0 l = true) (hp : ∀ p ∈ l, p.2 < 256) : spL (inSp l) 256 = l := by
  rw [spL_cut h, cutS_all h hp]

theorem msize_q (lo : UInt8) (c : Ch) (hi : UInt8) (cs : List Ch) (hc : c = ⟨45, true⟩) : msize (⟨lo, false⟩ :: c :: ⟨hi, false⟩ :: cs) = 3 ∧ classI (⟨lo, false⟩ :: c :: ⟨hi, false⟩ :: cs) = 8 := by
  have h8 : ∀ d : List Ch, classI (⟨lo, false⟩ :: d) = 8 := by
    intro d
    have hb : ∀ i, i < 8 → begs (⟨lo, false⟩ :: d) (classT i) = false := by
      intro i hi
      have := classT_len i hi
      rcases hq : classT i with _ | ⟨x, s⟩
      · rw [hq] at this; simp at this
      · rw [begs]; simp [chIs]
    unfold classI
    simp [clsFrom, hb]
  refine ⟨?_, h8 _⟩
  subst hc
  unfold msize
  rw [h8, if_neg (by omega)]
  simp [isAt, chIs]
def spC (l : List (Nat × Nat)) : List Ch := l.flatMap fun p => [⟨UInt8.ofNat p.1, false⟩, ⟨45, true⟩, ⟨UInt8.ofNat p.2, false⟩]
theorem spC_cons (p : Nat × Nat) (l : List (Nat × Nat)) : spC (p :: l) = [⟨UInt8.ofNat p.1, false⟩, ⟨45, true⟩, ⟨UInt8.ofNat p.2, false⟩] ++ spC l := rfl
theorem spC_len (l : List (Nat × Nat)) : (spC l).length = 3 * l.length := by
  induction l with
  | nil => rfl
  | cons p l ih => rw [spC_cons, List.length_append, ih]; simp; omega
theorem charsOf_spR (l : List (Nat × Nat)) : charsOf (spR l) = spC l := by
  induction l with
  | nil => rfl
  | cons p l ih =>
    obtain ⟨a, e⟩ := p
    rw [spR_cons, charsOf_append, ih, spC_cons]
    rfl
theorem mend_spC (cs : List Ch) : ∀ (l : List (Nat × Nat)), mend (spC l ++ ⟨93, true⟩ :: cs) 0 = (3 * l.length : Nat)
  | [] => by
    show mend (⟨93, true⟩ :: cs) 0 = _
    rw [mend_at _ _ (by simp), if_pos (by simp [isAt, chIs])]
    rfl
  | p :: l => by
    have e : spC (p :: l) ++ ⟨93, true⟩ :: cs = [⟨UInt8.ofNat p.1, false⟩, ⟨45, true⟩, ⟨UInt8.ofNat p.2, false⟩] ++ (spC l ++ ⟨93, true⟩ :: cs) := by rw [spC_cons, List.append_assoc]
    rw [mend_at _ _ (by rw [List.length_append]; simp; omega), if_neg (by rw [e]; simp [isAt, chIs]), List.drop_zero]
    have hm : msize (spC (p :: l) ++ ⟨93, true⟩ :: cs) = 3 := by rw [e]; exact (msize_q _ _ _ _ rfl).1
    rw [hm, e]
    have := sh_mend [⟨UInt8.ofNat p.1, false⟩, ⟨45, true⟩, ⟨UInt8.ofNat p.2, false⟩] (spC l ++ ⟨93, true⟩ :: cs) _ 0 rfl
    rw [show ([⟨UInt8.ofNat p.1, false⟩, ⟨45, true⟩, ⟨UInt8.ofNat p.2, false⟩] : List Ch).length + 0 = 0 + 3 from rfl] at this
    rw [this, mend_spC cs l, if_neg (by omega)]
    simp
    omega
theorem inR_two (a e j : Nat) (ha : a < 256) (he : e < 256) : inR [UInt8.ofNat a, UInt8.ofNat e] j = (decide (a ≤ j) && decide (j ≤ e)) := by
  have h1 : (UInt8.ofNat a).toNat = a := by simp; omega
  have h2 : (UInt8.ofNat e).toNat = e := by simp; omega
  simp only [inR, h1, h2, Bool.or_false]
theorem memS_spC (cs : List Ch) (j : Nat) : ∀ (l : List (Nat × Nat)), (∀ p ∈ l, p.1 < 256 ∧ p.2 < 256) → memS (spC l ++ ⟨93, true⟩ :: cs) (3 * l.length) 0 j = inSp l j
  | [], _ => by rw [memS_end _ _ _ _ (by simp)]; rfl
  | p :: l, h => by
    have e : spC (p :: l) ++ ⟨93, true⟩ :: cs = [⟨UInt8.ofNat p.1, false⟩, ⟨45, true⟩, ⟨UInt8.ofNat p.2, false⟩] ++ (spC l ++ ⟨93, true⟩ :: cs) := by rw [spC_cons, List.append_assoc]
    have hm : msize (spC (p :: l) ++ ⟨93, true⟩ :: cs) = 3 := by rw [e]; exact (msize_q _ _ _ _ rfl).1
    rw [memS_at _ _ _ _ (by simp), List.drop_zero, hm]
    have hr : mranges ((spC (p :: l) ++ ⟨93, true⟩ :: cs).take 3) = [UInt8.ofNat p.1, UInt8.ofNat p.2] := by
      rw [e]
      show mranges [⟨UInt8.ofNat p.1, false⟩, ⟨45, true⟩, ⟨UInt8.ofNat p.2, false⟩] = _
      unfold mranges
      rw [(msize_q _ _ _ [] rfl).2, if_neg (by omega)]
      rfl
    obtain ⟨h1, h2⟩ := h p List.mem_cons_self
    rw [hr, inR_two _ _ _ h1 h2, inSp_cons]
    congr 1
    rw [e]
    have := sh_mem [⟨UInt8.ofNat p.1, false⟩, ⟨45, true⟩, ⟨UInt8.ofNat p.2, false⟩] (spC l ++ ⟨93, true⟩ :: cs) (3 * l.length) j _ 0 rfl
    rw [show ([⟨UInt8.ofNat p.1, false⟩, ⟨45, true⟩, ⟨UInt8.ofNat p.2, false⟩] : List Ch).length + 0 = 0 + 3 from rfl, show ([⟨UInt8.ofNat p.1, false⟩, ⟨45, true⟩, ⟨UInt8.ofNat p.2, false⟩] : List Ch).length + 3 * l.length = 3 * (p :: l).length from by simp; omega] at this
    rw [this]
    exact memS_spC cs j l (fun q hq => h q (List.mem_cons_of_mem _ hq))
/-- The head of a bracket expression. -/
def hdC (neg : Bool) : List Ch := ⟨91, true⟩ :: (if neg = true then [⟨33, true⟩] else [])
theorem brk_own (neg : Bool) (p : Nat × Nat) (l : List (Nat × Nat)) (cs : List Ch) (h : ∀ q ∈ p :: l, q.1 < 256 ∧ q.2 < 256) :
    brk (hdC neg ++ (spC (p :: l) ++ ⟨93, true⟩ :: cs)) 0 = some (neg, spL (inSp (p :: l)) 256, (hdC neg).length + 3 * (p :: l).length + 1) := by
  generalize hX : spC (p :: l) ++ ⟨93, true⟩ :: cs = X
  have hX1 : X = ⟨UInt8.ofNat p.1, false⟩ :: ⟨45, true⟩ :: ⟨UInt8.ofNat p.2, false⟩ :: (spC l ++ ⟨93, true⟩ :: cs) := by rw [← hX, spC_cons, List.append_assoc]; rfl
  have hn : negAt (hdC neg ++ X) 0 = neg := by
    unfold negAt hdC
    rw [hX1]
    cases neg <;> simp [isAt, chIs]
  have hf : firstAt (hdC neg ++ X) 0 = (hdC neg).length := by
    unfold firstAt
    rw [hn]
    cases neg <;> rfl
  have hm : msize ((hdC neg ++ X).drop (hdC neg).length) = 3 := by
    rw [List.drop_left, hX1]
    exact (msize_q _ _ _ _ rfl).1
  have hme : mend (hdC neg ++ X) ((hdC neg).length + 3) = ((hdC neg).length + 3 * (p :: l).length : Nat) := by
    have h0 := sh_mend (hdC neg) X _ 0 rfl
    have h1 := mend_spC cs (p :: l)
    rw [hX] at h1
    rw [h1, if_neg (by omega)] at h0
    have hlt : (hdC neg).length + 0 < (hdC neg ++ X).length := by rw [List.length_append, hX1]; simp
    rw [mend_at _ _ hlt] at h0
    have h93 : isAt (hdC neg ++ X) ((hdC neg).length + 0) 93 = false := by rw [sh_at, hX1]; simp [isAt, chIs]
    rw [if_neg (by rw [h93]; simp), Nat.add_zero, hm] at h0
    rw [h0]
    omega
  unfold brk
  rw [hn, hf, hm, hme, if_neg (by rw [List.length_append, hX1]; simp), if_neg (by omega)]
  have e1 : (((hdC neg).length + 3 * (p :: l).length : Nat) : Int).toNat = (hdC neg).length + 3 * (p :: l).length := by omega
  rw [e1, Nat.sub_zero]
  congr 3
  refine spL_ext _ _ 256 fun j _ => ?_
  have h2 := sh_mem (hdC neg) X (3 * (p :: l).length) j _ 0 rfl
  rw [Nat.add_zero] at h2
  rw [h2, ← hX]
  exact memS_spC cs j (p :: l) h
theorem charsOf_brR (x : It) : charsOf (brR x) = hdC x.neg ++ (spC (if x.set = [] then [(98, 97)] else x.set) ++ [⟨93, true⟩]) := by
  unfold brR
  rw [charsOf_append, charsOf_append, charsOf_append, charsOf_spR, List.append_assoc]
  congr 1
  unfold hdC
  cases x.neg <;> rfl
theorem spL_none : ∀ (S : Nat → Bool) (k : Nat), (∀ j, S j = false) → spL S k = []
  | S, 0, _ => rfl
  | S, k + 1, h => by rw [spL, if_pos (h k), spL_none S k h]
theorem itemL_own (x : It) (cs : List Ch) (hv : inv x = false) (ho : ItOk x) : itemL (charsOf (itR x) ++ cs) 0 = (x, (charsOf (itR x)).length) ∧ 0 < (charsOf (itR x)).length := by
  obtain ⟨k, t, neg, set⟩ := x
  unfold inv at hv
  by_cases h1 : k = 1
  · subst h1
    simp at hv
    obtain ⟨⟨h2, h3⟩, h4⟩ := hv
    subst h3; subst h4
    obtain ⟨b, rfl⟩ := List.length_eq_one_iff.1 h2
    have e : charsOf (itR ⟨1, [b], false, []⟩) = [⟨b, false⟩] := rfl
    rw [e]
    refine ⟨?_, by simp⟩
    unfold itemL
    simp [isAt, chIs, byteAt]
  by_cases h2 : k = 2
  · subst h2
    simp at hv
    obtain ⟨⟨h2, h3⟩, h4⟩ := hv
    subst h2; subst h3; subst h4
    refine ⟨?_, by decide⟩
    show itemL (⟨63, true⟩ :: cs) 0 = _
    unfold itemL
    simp [isAt, chIs]
    rfl
  by_cases h3 : k = 3
  · subst h3
    simp at hv
    obtain ⟨⟨h2, h3⟩, h4⟩ := hv
    subst h2; subst h3; subst h4
    refine ⟨?_, by decide⟩
    show itemL (⟨42, true⟩ :: cs) 0 = _
    unfold itemL
    simp [isAt, chIs]
    rfl
  by_cases h4 : k = 4
  · subst h4
    simp at hv
    obtain ⟨h5, h6⟩ := hv
    subst h5
    have e : charsOf (itR ⟨4, [], neg, set⟩) = hdC neg ++ (spC (if set = [] then [(98, 97)] else set) ++ [⟨93, true⟩]) := charsOf_brR ⟨4, [], neg, set⟩
    have hset : ∃ p l, (if set = [] then [(98, 97)] else set) = p :: l ∧ (∀ q ∈ p :: l, q.1 < 256 ∧ q.2 < 256) ∧ spL (inSp (p :: l)) 256 = set := by
      by_cases hs : set = []
      · subst hs
        refine ⟨(98, 97), [], by simp, by simp, ?_⟩
        refine spL_none _ _ fun j => ?_
        simp [inSp]
        omega
      · rw [if_neg hs]
        rcases set with _ | ⟨p, l⟩
        · exact absurd rfl hs
        · exact ⟨p, l, rfl, ho.1.2, spL_min h6 (fun q hq => (ho.1.2 q hq).2)⟩
    obtain ⟨p, l, e2, e3, e4⟩ := hset
    rw [e, e2]
    have hb := brk_own neg p l cs e3
    have e5 : hdC neg ++ (spC (p :: l) ++ [⟨93, true⟩]) ++ cs = hdC neg ++ (spC (p :: l) ++ ⟨93, true⟩ :: cs) := by simp
    rw [e5]
    have a1 : ∀ b, isAt (hdC neg ++ (spC (p :: l) ++ ⟨93, true⟩ :: cs)) 0 b = (91 == b) := by intro b; unfold hdC; simp [isAt, chIs]
    have hlen : (hdC neg ++ (spC (p :: l) ++ ([⟨93, true⟩] : List Ch))).length = (hdC neg).length + 3 * (p :: l).length + 1 := by rw [List.length_append, List.length_append, spC_len]; simp; omega
    refine ⟨?_, by rw [hlen]; omega⟩
    unfold itemL
    rw [a1, a1, a1, hb, e4, hlen]
    rfl
  · simp [h1, h2, h3, h4] at hv
theorem compileL_runs (is : List It) (hv : is.any inv = false) (ho : ∀ x ∈ is, ItOk x) : compileL (runsL is) = is := by
  unfold runsL
  rw [if_neg (by rw [hv]; simp)]
  induction is with
  | nil => unfold compileL; rw [compL_end _ _ (by exact Nat.le_refl _)]
  | cons x r ih =>
    rw [List.any_cons, Bool.or_eq_false_iff] at hv
    have h2 := ih hv.2 (fun y hy => ho y (List.mem_cons_of_mem _ hy))
    obtain ⟨h3, h4⟩ := itemL_own x (charsOf (r.flatMap itR)) hv.1 (ho x List.mem_cons_self)
    unfold compileL at h2 ⊢
    rw [List.flatMap_cons, charsOf_append, compL_at _ _ (by rw [List.length_append]; omega), h3]
    congr 1
    have := sh_comp (charsOf (itR x)) (charsOf (r.flatMap itR)) _ 0 rfl
    rw [Nat.add_zero] at this
    rw [Nat.zero_add, this, h2]
end Go.Proofs.YteppndkhmbhnkaaDoor
