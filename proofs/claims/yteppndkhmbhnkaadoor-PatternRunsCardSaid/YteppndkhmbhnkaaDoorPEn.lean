/- pattern: the reference's table of ends; matching backwards. -/
import Derived.Test.YteppndkhmbhnkaaDoorPSt
import Derived.Test.YteppndkhmbhnkaaDoorPRb
namespace Go.Proofs.YteppndkhmbhnkaaDoor
open Go.RowKit
set_option linter.unusedVariables false

open Classical in
noncomputable def endB (s : List UInt8) (is : List It) (k : Nat) : Bool := decide (Mp s is 0 k)
theorem endB_iff (s : List UInt8) (is : List It) (k : Nat) : endB s is k = true ↔ Mp s is 0 k := by unfold endB; simp
theorem endB_nil (s : List UInt8) (k : Nat) : endB s [] k = (k == 0) := by
  rw [Bool.eq_iff_iff, endB_iff, mp_nil, beq_iff_eq]
  constructor
  · rintro ⟨h, _⟩; exact h.symm
  · intro h; exact ⟨h.symm, by omega⟩
theorem endB_star {s : List UInt8} {a : List It} {x : It} {k : Nat} (h : x.k = 3) (hk : k ≤ s.length) : endB s (a ++ [x]) k = (endB s a k || (decide (0 < k) && endB s (a ++ [x]) (k - 1))) := by
  have hs : ∀ n, n ≤ s.length → (Mp s (a ++ [x]) 0 n ↔ ∃ q, q ≤ n ∧ Mp s a 0 q) := by
    intro n hn
    rw [mp_append]
    constructor
    · rintro ⟨q, h1, h2⟩
      obtain ⟨t, h3, h4⟩ := (mp_star h).1 h2
      exact ⟨q, by have := h4.1; omega, h1⟩
    · rintro ⟨q, h1, h2⟩
      exact ⟨q, h2, (mp_star h).2 ⟨n, h1, rfl, hn⟩⟩
  rw [Bool.eq_iff_iff, Bool.or_eq_true, Bool.and_eq_true, endB_iff, endB_iff, endB_iff, decide_eq_true_iff, hs k hk]
  constructor
  · rintro ⟨q, h1, h2⟩
    by_cases e : q = k
    · subst e; exact .inl h2
    · exact .inr ⟨by omega, (hs (k - 1) (by omega)).2 ⟨q, by omega, h2⟩⟩
  · rintro (h1 | ⟨h1, h2⟩)
    · exact ⟨k, Nat.le_refl _, h1⟩
    · obtain ⟨q, h3, h4⟩ := (hs (k - 1) (by omega)).1 h2
      exact ⟨q, by omega, h4⟩
theorem endB_zero {s : List UInt8} {a : List It} {x : It} (h : x.k ≠ 3) : endB s (a ++ [x]) 0 = false := by
  rw [← Bool.not_eq_true, endB_iff, mp_append]
  rintro ⟨q, h1, h2⟩
  obtain ⟨c, _, _, h3⟩ := (mp_one h).1 h2
  have := mp_le h3
  omega
theorem endB_one {s : List UInt8} {a : List It} {x : It} {k : Nat} (h : x.k ≠ 3) (hk : k < s.length) : endB s (a ++ [x]) (k + 1) = (endB s a k && acc x (s[k]'hk).toNat) := by
  rw [Bool.eq_iff_iff, Bool.and_eq_true, endB_iff, endB_iff, mp_append]
  constructor
  · rintro ⟨q, h1, h2⟩
    obtain ⟨c, h3, h4, h5⟩ := (mp_one h).1 h2
    have e : q = k := by have := h5.1; omega
    subst e
    rw [List.getElem?_eq_getElem hk] at h3
    injection h3 with h3
    subst h3
    exact ⟨h1, h4⟩
  · rintro ⟨h1, h2⟩
    exact ⟨k, h1, (mp_one h).2 ⟨_, List.getElem?_eq_getElem hk, h2, rfl, by omega⟩⟩
theorem conL_inSp : ∀ {l : List (Nat × Nat)} {m : Nat} (z : Nat), minL m l = true → conL l z = inSp l z
  | [], _, _, _ => rfl
  | (a, e) :: r, m, z, h => by
    obtain ⟨h1, h2, h3⟩ := minL_cons h
    rw [conL, inSp_cons]
    by_cases hz : z ≤ e
    · rw [if_pos hz, inSp_low h3 (by omega)]
      simp [hz]
    · rw [if_neg hz, conL_inSp z h3]
      simp [hz]
theorem mp_drop {s : List UInt8} {d : Nat} (hd : d ≤ s.length) : ∀ (is : List It) (p n : Nat), Mp (s.drop d) is p n ↔ Mp s is (d + p) (d + n)
  | [], p, n => by
    rw [mp_nil, mp_nil, List.length_drop]
    constructor
    · rintro ⟨h, g⟩; exact ⟨by omega, by omega⟩
    · rintro ⟨h, g⟩; exact ⟨by omega, by omega⟩
  | x :: r, p, n => by
    by_cases h3 : x.k = 3
    · rw [mp_star h3, mp_star h3]
      constructor
      · rintro ⟨q, h1, h2⟩; exact ⟨d + q, by omega, (mp_drop hd r q n).1 h2⟩
      · rintro ⟨q, h1, h2⟩
        refine ⟨q - d, by omega, (mp_drop hd r (q - d) n).2 ?_⟩
        rw [show d + (q - d) = q from by omega]
        exact h2
    · rw [mp_one h3, mp_one h3]
      have e : (s.drop d)[p]? = s[d + p]? := List.getElem?_drop
      rw [e]
      constructor
      · rintro ⟨c, h1, h2, h4⟩; exact ⟨c, h1, h2, (mp_drop hd r (p + 1) n).1 h4⟩
      · rintro ⟨c, h1, h2, h4⟩; exact ⟨c, h1, h2, (mp_drop hd r (p + 1) n).2 h4⟩
theorem mp_rev {s : List UInt8} : ∀ (is : List It) (a b : Nat), a ≤ b → b ≤ s.length → (Mp s.reverse is.reverse a b ↔ Mp s is (s.length - b) (s.length - a))
  | [], a, b, h1, h2 => by
    rw [List.reverse_nil, mp_nil, mp_nil, List.length_reverse]
    constructor
    · rintro ⟨h, g⟩; exact ⟨by omega, by omega⟩
    · rintro ⟨h, g⟩; exact ⟨by omega, by omega⟩
  | x :: r, a, b, h1, h2 => by
    rw [List.reverse_cons, mp_append]
    by_cases h3 : x.k = 3
    · rw [mp_star h3]
      constructor
      · rintro ⟨q, g1, g2⟩
        obtain ⟨t, g3, g4⟩ := (mp_star h3).1 g2
        have l1 := mp_le g1
        have l2 := g4.1
        exact ⟨s.length - q, by omega, (mp_rev r a q l1.1 (by omega)).1 g1⟩
      · rintro ⟨q, g1, g2⟩
        have l1 := mp_le g2
        refine ⟨s.length - q, ?_, (mp_star h3).2 ⟨b, by omega, rfl, by rw [List.length_reverse]; omega⟩⟩
        refine (mp_rev r a (s.length - q) (by omega) (by omega)).2 ?_
        rw [show s.length - (s.length - q) = q from by omega]
        exact g2
    · rw [mp_one h3]
      constructor
      · rintro ⟨q, g1, g2⟩
        obtain ⟨c, g3, g4, g5⟩ := (mp_one h3).1 g2
        have l1 := mp_le g1
        have l2 := g5.1
        subst l2
        rw [List.getElem?_reverse (by omega)] at g3
        refine ⟨c, by rw [← g3]; congr 1; omega, g4, ?_⟩
        rw [show s.length - (q + 1) + 1 = s.length - q from by omega]
        exact (mp_rev r a q l1.1 (by omega)).1 g1
      · rintro ⟨c, g3, g4, g5⟩
        have l1 := mp_le g5
        refine ⟨b - 1, ?_, (mp_one h3).2 ⟨c, ?_, g4, by omega, by rw [List.length_reverse]; omega⟩⟩
        · refine (mp_rev r a (b - 1) (by omega) (by omega)).2 ?_
          rw [show s.length - (b - 1) = s.length - b + 1 from by omega]
          exact g5
        · rw [List.getElem?_reverse (by omega)]
          rw [← g3]
          congr 1
          omega
theorem mtL_end (is : List It) (s : List UInt8) (n : Nat) (hv : is.any inv = false) (hn : n ≤ s.length) : mtL is (s.drop (s.length - n)) = true ↔ Mp s.reverse is.reverse 0 n := by
  rw [mtL_iff _ _ hv, mp_drop (by omega), mp_rev is 0 n (Nat.zero_le _) hn, List.length_drop]
  rw [show s.length - n + 0 = s.length - n from rfl, show s.length - n + (s.length - (s.length - n)) = s.length - 0 from by omega]
theorem mtL_inv (is : List It) (s : List UInt8) (hv : is.any inv = true) : mtL is s = false := by
  unfold mtL preL
  rw [if_pos hv]
  rfl
/-- What the reference's loops over lengths know. -/
def Best (P : Nat → Bool) (lg : Bool) (k out : Nat) (ok : Bool) : Prop :=
  (ok = true → out < k ∧ P out = true ∧ ∀ n, n < k → P n = true → if lg = true then n ≤ out else out ≤ n) ∧ (ok = false → out = 0 ∧ ∀ n, n < k → P n = false)
theorem best_zero (P : Nat → Bool) (lg : Bool) : Best P lg 0 0 false := ⟨fun h => by simp at h, fun _ => ⟨rfl, fun n hn => by omega⟩⟩
theorem best_hit {P : Nat → Bool} {lg : Bool} {k out : Nat} {ok : Bool} (h : Best P lg k out ok) (hp : P k = true) (hc : lg = true ∨ ok = false) : Best P lg (k + 1) k true := by
  refine ⟨fun _ => ⟨by omega, hp, fun n hn hpn => ?_⟩, fun h => by simp at h⟩
  rcases hc with hc | hc
  · rw [if_pos hc]; omega
  · have := (h.2 hc).2
    by_cases e : n = k
    · subst e; split <;> exact Nat.le_refl _
    · have := this n (by omega); rw [hpn] at this; simp at this
theorem best_miss {P : Nat → Bool} {lg : Bool} {k out : Nat} {ok : Bool} (h : Best P lg k out ok) (hp : P k = false ∨ lg = false ∧ ok = true) : Best P lg (k + 1) out ok := by
  refine ⟨fun ho => ?_, fun ho => ?_⟩
  · obtain ⟨h1, h2, h3⟩ := h.1 ho
    refine ⟨by omega, h2, fun n hn hpn => ?_⟩
    by_cases e : n = k
    · subst e
      rcases hp with hp | ⟨hp, _⟩
      · rw [hpn] at hp; simp at hp
      · rw [if_neg (by rw [hp]; simp)]; omega
    · exact h3 n (by omega) hpn
  · obtain ⟨h1, h2⟩ := h.2 ho
    refine ⟨h1, fun n hn => ?_⟩
    by_cases e : n = k
    · subst e
      rcases hp with hp | ⟨_, hp⟩
      · exact hp
      · rw [ho] at hp; simp at hp
    · exact h2 n (by omega)
theorem best_pre {s : List UInt8} {is : List It} {lg : Bool} {out : Nat} {ok : Bool} (hv : is.any inv = false) (h : Best (endB s is) lg (s.length + 1) out ok) : (out, ok) = preL is s lg := by
  refine good_unique ?_ (preL_good is s lg hv)
  refine ⟨fun ho => ?_, fun ho => ?_⟩
  · obtain ⟨h1, h2, h3⟩ := h.1 ho
    refine ⟨(endB_iff _ _ _).1 h2, fun n hn => ?_⟩
    have := mp_le hn
    exact h3 n (by omega) ((endB_iff _ _ _).2 hn)
  · obtain ⟨h1, h2⟩ := h.2 ho
    refine ⟨h1, fun n hn => ?_⟩
    have := mp_le hn
    have h3 := h2 n (by omega)
    rw [← Bool.not_eq_true, endB_iff] at h3
    exact h3 hn
theorem best_suf {s : List UInt8} {is : List It} {lg : Bool} {out : Nat} {ok : Bool} (h : Best (fun n => mtL is (s.drop (s.length - n))) lg (s.length + 1) out ok) : (out, ok) = preL is.reverse s.reverse lg := by
  rcases hv : is.any inv with _ | _
  · refine good_unique ?_ (preL_good is.reverse s.reverse lg (by rw [List.any_reverse]; exact hv))
    refine ⟨fun ho => ?_, fun ho => ?_⟩
    · obtain ⟨h1, h2, h3⟩ := h.1 ho
      refine ⟨(mtL_end is s out hv (by omega)).1 h2, fun n hn => ?_⟩
      have := mp_le hn
      rw [List.length_reverse] at this
      exact h3 n (by omega) ((mtL_end is s n hv this.2).2 hn)
    · obtain ⟨h1, h2⟩ := h.2 ho
      refine ⟨h1, fun n hn => ?_⟩
      have := mp_le hn
      rw [List.length_reverse] at this
      have h3 := h2 n (by omega)
      rw [← Bool.not_eq_true] at h3
      exact h3 ((mtL_end is s n hv this.2).2 hn)
  · have e : preL is.reverse s.reverse lg = (0, false) := by unfold preL; rw [if_pos (by rw [List.any_reverse]; exact hv)]
    rw [e]
    rcases ok with _ | _
    · rw [(h.2 rfl).1]
    · have := (h.1 rfl).2.1
      simp only at this
      rw [mtL_inv is _ hv] at this
      simp at this
end Go.Proofs.YteppndkhmbhnkaaDoor
