/- Unescape as a machine that takes one byte a step, and that it is the reference's. -/
import Derived.Test.YtdjphpobhbelaaaDoorUneA
import Derived.Test.YtdjphpobhbelaaaDoorRUne
namespace Go.Proofs.YtdjphpobhbelaaaDoor
open Go.RowKit

def hexL : List UInt8 := [48, 49, 50, 51, 52, 53, 54, 55, 56, 57, 97, 98, 99, 100, 101, 102]
/-- Which digit a byte is (-1: none). -/
def dig (c : UInt8) : Int := Lib.indexByte hexL c

/-- Unescape, a byte a step: 0 outside of an escape, 1 behind a backslash, 2 behind its x, 3 behind the first digit, which is h. -/
def un : Nat → Nat → List UInt8 → Nat × List UInt8
  | 0, _, [] => (0, [])
  | _ + 1, _, [] => (28, [])
  | 0, _, c :: r => if c = 92 then un 1 0 r else if prB c.toNat = true then preU [c] (un 0 0 r) else (6, [])
  | 1, _, c :: r => if c = 120 then un 2 0 r else if (shortF c.toNat).2 = true then preU [(shortF c.toNat).1.toNat.toUInt8] (un 0 0 r) else (6, [])
  | 2, _, c :: r => if highB (dig c) = true then un 3 (dig c).toNat r else (6, [])
  | _ + 3, h, c :: r => if dig c < 0 ∨ needB (16 * h + dig c) = false then (6, []) else preU [(16 * h + dig c).toNat.toUInt8] (un 0 0 r)

theorem un0 (h : Nat) (c : UInt8) (r : List UInt8) : un 0 h (c :: r) = if c = 92 then un 1 0 r else if prB c.toNat = true then preU [c] (un 0 0 r) else (6, []) := by rw [un]
theorem un1 (h : Nat) (c : UInt8) (r : List UInt8) : un 1 h (c :: r) = if c = 120 then un 2 0 r else if (shortF c.toNat).2 = true then preU [(shortF c.toNat).1.toNat.toUInt8] (un 0 0 r) else (6, []) := by rw [un]
theorem un2 (h : Nat) (c : UInt8) (r : List UInt8) : un 2 h (c :: r) = if highB (dig c) = true then un 3 (dig c).toNat r else (6, []) := by rw [un]
theorem un3 (h : Nat) (c : UInt8) (r : List UInt8) : un 3 h (c :: r) = if dig c < 0 ∨ needB (16 * h + dig c) = false then (6, []) else preU [(16 * h + dig c).toNat.toUInt8] (un 0 0 r) := by rw [un]

/-- The digit of a number below 16. -/
def hx (k : Nat) : UInt8 := hexL.getD k 0
theorem dig_hx : ∀ k, k < 16 → dig (hx k) = k := by decide
theorem dig_range (c : UInt8) : -1 ≤ dig c ∧ dig c < 16 := by
  refine ⟨Lib.indexByte_ge _ _, ?_⟩
  rcases Int.lt_or_le (dig c) 0 with h | h
  · omega
  · obtain ⟨o, ho⟩ := Int.eq_ofNat_of_zero_le h
    have h2 := (Lib.indexByte_some (show Lib.indexByte hexL c = o from ho)).1
    obtain ⟨h3, _⟩ := List.getElem?_eq_some_iff.1 h2
    have : o < 16 := h3
    omega
theorem hx_dig {c : UInt8} (h : 0 ≤ dig c) : hx (dig c).toNat = c := by
  obtain ⟨o, ho⟩ := Int.eq_ofNat_of_zero_le h
  have h2 := (Lib.indexByte_some (show Lib.indexByte hexL c = o from ho)).1
  rw [ho, Int.toNat_natCast]
  unfold hx
  rw [List.getD_eq_getElem?_getD, h2]
  rfl

/-- The escape of a byte as a list. -/
def eL (c : UInt8) : List UInt8 := (escB c).data.toList

theorem eL_cases (c : UInt8) : (c = 10 ∧ eL c = [92, 110]) ∨ (c = 9 ∧ eL c = [92, 116]) ∨ (c = 92 ∧ eL c = [92, 92]) ∨ (needB c.toNat = true ∧ eL c = [92, 120, hx (c.toNat / 16), hx (c.toNat % 16)]) ∨ (c ≠ 92 ∧ prB c.toNat = true ∧ eL c = [c]) := by
  have hc := UInt8.toNat_lt c
  unfold eL escB
  by_cases h1 : c = 10
  · rw [if_pos h1]; exact .inl ⟨h1, rfl⟩
  rw [if_neg h1]
  by_cases h2 : c = 9
  · rw [if_pos h2]; exact .inr (.inl ⟨h2, rfl⟩)
  rw [if_neg h2]
  by_cases h3 : c = 92
  · rw [if_pos h3]; exact .inr (.inr (.inl ⟨h3, rfl⟩))
  rw [if_neg h3]
  have n1 : c.toNat ≠ 10 := fun e => h1 (UInt8.toNat_inj.1 e)
  have n2 : c.toNat ≠ 9 := fun e => h2 (UInt8.toNat_inj.1 e)
  by_cases h4 : c.toNat < 32 ∨ 126 < c.toNat
  · rw [if_pos h4]
    refine .inr (.inr (.inr (.inl ⟨?_, ?_⟩)))
    · unfold needB prB
      rw [decide_eq_true_iff]
      refine ⟨decide_eq_false (by omega), by omega, by omega⟩
    · unfold hexE hx hexS hexL
      have e : ∀ k (hk : k < 16), (⟨#[48, 49, 50, 51, 52, 53, 54, 55, 56, 57, 97, 98, 99, 100, 101, 102]⟩ : ByteArray)[k]'hk = ([48, 49, 50, 51, 52, 53, 54, 55, 56, 57, 97, 98, 99, 100, 101, 102] : List UInt8).getD k 0 := by
        intro k hk
        rw [List.getD_eq_getElem?_getD, List.getElem?_eq_getElem (show k < 16 from hk)]
        rfl
      rw [← e _ (by omega), ← e _ (by omega)]
      rfl
  · rw [if_neg h4]
    exact .inr (.inr (.inr (.inr ⟨h3, decide_eq_true (by omega), rfl⟩)))

theorem need_iff {n : Nat} (h : needB (n : Int) = true) : n ≠ 10 ∧ n ≠ 9 ∧ (n < 32 ∨ 126 < n) := by
  unfold needB prB at h
  rw [decide_eq_true_iff, decide_eq_false_iff_not] at h
  omega

theorem need_high (n : Nat) (_ : n < 256) (h : needB (n : Int) = true) : highB ((n / 16 : Nat) : Int) = true := by
  have := need_iff h
  unfold highB
  rw [decide_eq_true_iff]
  omega

theorem un_esc (c : UInt8) (r : List UInt8) : un 0 0 (eL c ++ r) = preU [c] (un 0 0 r) := by
  have hc := UInt8.toNat_lt c
  rcases eL_cases c with ⟨rfl, e⟩ | ⟨rfl, e⟩ | ⟨rfl, e⟩ | ⟨h, e⟩ | ⟨h1, h2, e⟩
  · rw [e]; simp only [List.cons_append, List.nil_append, un0, un1]; rfl
  · rw [e]; simp only [List.cons_append, List.nil_append, un0, un1]; rfl
  · rw [e]; simp only [List.cons_append, List.nil_append, un0, un1]; rfl
  · rw [e]
    have hh := need_high _ hc h
    have d1 := dig_hx (c.toNat / 16) (by omega)
    have d2 := dig_hx (c.toNat % 16) (by omega)
    have hs : (16 * ((c.toNat / 16 : Nat) : Int) + ((c.toNat % 16 : Nat) : Int)) = (c.toNat : Int) := by omega
    simp only [List.cons_append, List.nil_append]
    rw [un0, if_pos rfl, un1, if_pos rfl, un2, d1, if_pos hh, Int.toNat_natCast, un3, d2, hs, if_neg (by rw [h]; simp only [Bool.true_eq_false, or_false]; omega)]
    congr 2
    exact UInt8.toNat_inj.1 (by simp)
  · rw [e]; simp only [List.cons_append, List.nil_append]
    rw [un0, if_neg h1, if_pos h2]

theorem beg_fit : ∀ (l t : List UInt8), (beg l t).1 = true ↔ ∃ r, l = t ++ r
  | l, [] => by simp [beg]
  | [], _ :: _ => by simp [beg]
  | a :: l, b :: t => by
    unfold beg
    by_cases h : a = b
    · subst h; rw [if_pos rfl, beg_fit l t]; simp
    · rw [if_neg h]; simp [h]
theorem beg_part : ∀ (l t : List UInt8), (beg l t).2 = true ↔ ∃ r, r ≠ [] ∧ t = l ++ r
  | l, [] => by
    simp [beg]
  | [], b :: t => by simp [beg]
  | a :: l, b :: t => by
    unfold beg
    by_cases h : a = b
    · subst h; rw [if_pos rfl, beg_part l t]; simp
    · rw [if_neg h]; simp [Ne.symm h]

theorem ufold_fit (l : List UInt8) : ∀ n, 0 ≤ (ufold l n).1 → ∃ r, l = eL (ufold l n).1.toNat.toUInt8 ++ r
  | 0, h => by simp [ufold] at h
  | n + 1, h => by
    unfold ufold at h ⊢
    by_cases hb : (beg l (escB n.toUInt8).data.toList).1 = true
    · rw [if_pos hb]; simpa [eL] using (beg_fit _ _).1 hb
    · rw [if_neg hb] at h ⊢
      exact ufold_fit l n h
theorem ufold_none (l : List UInt8) : ∀ n, (ufold l n).1 < 0 → ∀ k, k < n → ¬ ∃ r, l = eL k.toUInt8 ++ r
  | 0, _, k, hk => by omega
  | n + 1, h, k, hk => by
    unfold ufold at h
    by_cases hb : (beg l (escB n.toUInt8).data.toList).1 = true
    · rw [if_pos hb] at h; simp at h; omega
    · rw [if_neg hb] at h
      by_cases hkn : k = n
      · subst hkn
        intro hx
        exact hb ((beg_fit _ _).2 hx)
      · exact ufold_none l n h k (by omega)
theorem ufold_part (l : List UInt8) : ∀ n, (ufold l n).2 = true ↔ ∃ k, k < n ∧ ∃ r, r ≠ [] ∧ eL k.toUInt8 = l ++ r
  | 0 => by simp [ufold]
  | n + 1 => by
    unfold ufold
    rw [Bool.or_eq_true, ufold_part l n, beg_part]
    constructor
    · rintro (⟨k, hk, h⟩ | h)
      · exact ⟨k, by omega, h⟩
      · exact ⟨n, by omega, h⟩
    · rintro ⟨k, hk, h⟩
      by_cases hkn : k = n
      · subst hkn; exact .inr h
      · exact .inl ⟨k, by omega, h⟩

theorem fits_of (l : List UInt8) (hf : (ufold l 256).1 < 0) (c : UInt8) (r : List UInt8) : l ≠ eL c ++ r := by
  intro h
  have := ufold_none l 256 hf c.toNat (UInt8.toNat_lt c)
  apply this
  refine ⟨r, ?_⟩
  rw [show c.toNat.toUInt8 = c from UInt8.toNat_inj.1 (by simp)]
  exact h
theorem part_iff (l : List UInt8) : (ufold l 256).2 = true ↔ ∃ (c : UInt8) (r : List UInt8), r ≠ [] ∧ eL c = l ++ r := by
  rw [ufold_part]
  constructor
  · rintro ⟨k, _, r, h⟩; exact ⟨_, r, h⟩
  · rintro ⟨c, r, h⟩
    refine ⟨c.toNat, UInt8.toNat_lt c, r, h.1, ?_⟩
    rw [show c.toNat.toUInt8 = c from UInt8.toNat_inj.1 (by simp)]
    exact h.2

theorem high_some : ∀ h, h < 16 → highB ((h : Nat) : Int) = true → ∃ k, k < 16 ∧ needB ((16 * h + k : Nat) : Int) = true := by decide

theorem eL_hex {n : Nat} (hn : n < 256) (h : needB (n : Int) = true) : eL n.toUInt8 = [92, 120, hx (n / 16), hx (n % 16)] := by
  have ht : n.toUInt8.toNat = n := by simp; omega
  have h' := need_iff h
  rcases eL_cases n.toUInt8 with ⟨e1, e⟩ | ⟨e1, e⟩ | ⟨e1, e⟩ | ⟨e1, e⟩ | ⟨h1, h2, e⟩
  · have := congrArg UInt8.toNat e1; rw [ht] at this; exact absurd this h'.1
  · have := congrArg UInt8.toNat e1; rw [ht] at this; exact absurd this h'.2.1
  · have := congrArg UInt8.toNat e1; rw [ht] at this; have : n = 92 := this; omega
  · rw [e, ht]
  · unfold prB at h2; rw [decide_eq_true_iff, ht] at h2; omega

/-- Where no escape fits: the error, by whether the text ends within an escape. -/
theorem un_none (l : List UInt8) (hl : l ≠ []) (hf : (ufold l 256).1 < 0) : un 0 0 l = (if (ufold l 256).2 = true then 28 else 6, []) := by
  have hfit := fits_of l hf
  have hp := part_iff l
  have yes : (∃ (c : UInt8) (r : List UInt8), r ≠ [] ∧ eL c = l ++ r) → un 0 0 l = (28, []) → un 0 0 l = (if (ufold l 256).2 = true then 28 else 6, []) := fun h e => by rw [if_pos (hp.2 h), e]
  have no : (¬ ∃ (c : UInt8) (r : List UInt8), r ≠ [] ∧ eL c = l ++ r) → un 0 0 l = (6, []) → un 0 0 l = (if (ufold l 256).2 = true then 28 else 6, []) := fun h e => by rw [if_neg (fun h' => h (hp.1 h')), e]
  rcases l with _ | ⟨c, r⟩
  · exact absurd rfl hl
  clear hl hf hp
  by_cases hc : c = 92
  · subst hc
    rcases r with _ | ⟨d, r⟩
    · exact yes ⟨10, [110], by simp, rfl⟩ rfl
    by_cases h1 : d = 120
    · subst h1
      rcases r with _ | ⟨h, r⟩
      · exact yes ⟨0, [48, 48], by simp, rfl⟩ rfl
      by_cases h2 : highB (dig h) = true
      · have hr := dig_range h
        have hr0 : 0 ≤ dig h := by
          rcases Int.lt_or_le (dig h) 0 with h' | h'
          · rw [show dig h = -1 from by omega] at h2; exact absurd h2 (by decide)
          · exact h'
        have hxd := hx_dig hr0
        obtain ⟨o, ho⟩ := Int.eq_ofNat_of_zero_le hr0
        rw [ho] at hr h2 hxd
        rw [Int.toNat_natCast] at hxd
        rcases r with _ | ⟨g, r⟩
        · obtain ⟨k, hk, hn⟩ := high_some o (by omega) h2
          refine yes ⟨(16 * o + k).toUInt8, [hx k], by simp, ?_⟩ ?_
          · rw [eL_hex (by omega) hn, show (16 * o + k) / 16 = o from by omega, show (16 * o + k) % 16 = k from by omega, hxd]; rfl
          · rw [un0, if_pos rfl, un1, if_pos rfl, un2, ho, if_pos h2]; rfl
        · refine no ?_ ?_
          · rintro ⟨b, t, ht, e⟩
            have h4 := escB_size b
            have : (eL b).length = (escB b).size := rfl
            rw [e] at this
            rcases t with _ | ⟨x, t⟩
            · exact ht rfl
            · simp at this; omega
          · rw [un0, if_pos rfl, un1, if_pos rfl, un2, ho, if_pos h2, Int.toNat_natCast, un3, if_pos]
            rcases Int.lt_or_le (dig g) 0 with h' | h'
            · exact .inl h'
            · right
              have hg := dig_range g
              have hxg := hx_dig h'
              obtain ⟨q, hq⟩ := Int.eq_ofNat_of_zero_le h'
              rw [hq] at hg hxg ⊢
              rw [Int.toNat_natCast] at hxg
              by_cases hn : needB ((16 * o + q : Nat) : Int) = true
              · exfalso
                apply hfit (16 * o + q).toUInt8 r
                rw [eL_hex (by omega) hn, show (16 * o + q) / 16 = o from by omega, show (16 * o + q) % 16 = q from by omega, hxd, hxg]; rfl
              · have : (16 * (o : Int) + (q : Int)) = ((16 * o + q : Nat) : Int) := by omega
                rw [this]
                simpa using hn
      · refine no ?_ ?_
        · rintro ⟨b, t, ht, e⟩
          have hb := UInt8.toNat_lt b
          rcases eL_cases b with ⟨rfl, e'⟩ | ⟨rfl, e'⟩ | ⟨rfl, e'⟩ | ⟨h', e'⟩ | ⟨h3, h4, e'⟩
          · rw [e'] at e; simp at e
          · rw [e'] at e; simp at e
          · rw [e'] at e; simp at e
          · rw [e'] at e
            simp only [List.cons_append, List.cons.injEq] at e
            rw [← e.2.2.1, dig_hx _ (by omega)] at h2
            exact h2 (need_high _ hb h')
          · rw [e'] at e; simp at e
        · rw [un0, if_pos rfl, un1, if_pos rfl, un2, if_neg h2]
    · have hs : (shortF d.toNat).2 = false := by
        unfold shortF
        rw [if_neg, if_neg, if_neg]
        · intro h; exact hfit 92 r (by rw [show d = 92 from UInt8.toNat_inj.1 (by rw [show d.toNat = 92 from by omega]; rfl)]; rfl)
        · intro h; exact hfit 9 r (by rw [show d = 116 from UInt8.toNat_inj.1 (by rw [show d.toNat = 116 from by omega]; rfl)]; rfl)
        · intro h; exact hfit 10 r (by rw [show d = 110 from UInt8.toNat_inj.1 (by rw [show d.toNat = 110 from by omega]; rfl)]; rfl)
      refine no ?_ ?_
      · rintro ⟨b, t, ht, e⟩
        rcases eL_cases b with ⟨rfl, e'⟩ | ⟨rfl, e'⟩ | ⟨rfl, e'⟩ | ⟨h', e'⟩ | ⟨h3, h4, e'⟩
        · rw [e'] at e; simp at e; exact ht e.2.2
        · rw [e'] at e; simp at e; exact ht e.2.2
        · rw [e'] at e; simp at e; exact ht e.2.2
        · rw [e'] at e
          simp only [List.cons_append, List.cons.injEq] at e
          exact h1 e.2.1.symm
        · rw [e'] at e; simp at e
      · rw [un0, if_pos rfl, un1, if_neg h1, if_neg (by rw [hs]; decide)]
  · refine no ?_ ?_
    · rintro ⟨b, t, ht, e⟩
      rcases eL_cases b with ⟨rfl, e'⟩ | ⟨rfl, e'⟩ | ⟨rfl, e'⟩ | ⟨h', e'⟩ | ⟨h3, h4, e'⟩
      · rw [e'] at e; simp at e; exact hc e.1.symm
      · rw [e'] at e; simp at e; exact hc e.1.symm
      · rw [e'] at e; simp at e; exact hc e.1.symm
      · rw [e'] at e
        simp only [List.cons_append, List.cons.injEq] at e
        exact hc e.1.symm
      · rw [e'] at e; simp at e; exact ht e.2.2
    · rw [un0, if_neg hc, if_neg]
      intro h
      rcases eL_cases c with ⟨rfl, e'⟩ | ⟨rfl, e'⟩ | ⟨rfl, e'⟩ | ⟨h', e'⟩ | ⟨h3, h4, e'⟩
      · exact absurd h (by decide)
      · exact absurd h (by decide)
      · exact hc rfl
      · have := need_iff h'
        unfold prB at h
        rw [decide_eq_true_iff] at h
        omega
      · exact hfit c r (by rw [e']; rfl)

theorem un_uneR : ∀ (n : Nat) (l : List UInt8), l.length ≤ n → un 0 0 l = uneR l
  | 0, l, h => by
    rcases l with _ | ⟨c, r⟩
    · rw [uneR]; rfl
    · simp at h
  | n + 1, l, h => by
    rw [uneR]
    by_cases h0 : l = []
    · rw [if_pos h0, h0]; rfl
    rw [if_neg h0]
    by_cases h1 : (ufold l 256).1 < 0
    · rw [if_pos h1, un_none l h0 h1]
      split <;> rfl
    · rw [if_neg h1]
      obtain ⟨r, hr⟩ := ufold_fit l 256 (by omega)
      generalize (ufold l 256).1.toNat.toUInt8 = c at *
      have hpos := escB_pos c
      have hd : l.drop (escB c).size = r := by rw [hr]; exact List.drop_left' rfl
      have hlen : (escB c).size + r.length = l.length := by rw [hr, List.length_append]; rfl
      rw [hd, hr, un_esc, un_uneR n r (by omega)]

theorem escL_cons (c : UInt8) (l : List UInt8) : escL (c :: l) = eL c ++ escL l := rfl
theorem un_escL : ∀ l : List UInt8, un 0 0 (escL l) = (0, l)
  | [] => rfl
  | c :: l => by rw [escL_cons, un_esc, un_escL l]; rfl
theorem une_escL (l : List UInt8) : uneR (escL l) = (0, l) := by rw [← un_uneR _ _ (Nat.le_refl _), un_escL]

theorem escL_une : ∀ (n : Nat) (l t : List UInt8), l.length ≤ n → uneR l = (0, t) → escL t = l
  | 0, l, t, h, e => by
    rcases l with _ | ⟨c, r⟩
    · rw [uneR, if_pos rfl] at e
      injection e with _ e
      subst e; rfl
    · simp at h
  | n + 1, l, t, h, e => by
    rw [uneR] at e
    by_cases h0 : l = []
    · rw [if_pos h0] at e
      injection e with _ e
      subst e; rw [h0]; rfl
    rw [if_neg h0] at e
    by_cases h1 : (ufold l 256).1 < 0
    · rw [if_pos h1] at e
      split at e <;> simp at e
    · rw [if_neg h1] at e
      obtain ⟨r, hr⟩ := ufold_fit l 256 (by omega)
      generalize (ufold l 256).1.toNat.toUInt8 = c at *
      have hpos := escB_pos c
      have hd : l.drop (escB c).size = r := by rw [hr]; exact List.drop_left' rfl
      have hlen : (escB c).size + r.length = l.length := by rw [hr, List.length_append]; rfl
      rw [hd] at e
      unfold preU at e
      split at e
      · rename_i h3
        injection e with _ e
        rw [← e]
        have := escL_une n r (uneR r).2 (by omega) (by rw [← h3])
        rw [List.singleton_append, escL_cons, this, hr]
      · rename_i h3
        injection e with e _
        exact absurd e h3

theorem hx_range (k : Nat) (h : k < 16) : 32 ≤ (hx k).toNat ∧ (hx k).toNat ≤ 126 := by
  revert k; decide
theorem eL_range (c : UInt8) : ∀ x ∈ eL c, 32 ≤ x.toNat ∧ x.toNat ≤ 126 := by
  have hc := UInt8.toNat_lt c
  intro x hx'
  rcases eL_cases c with ⟨rfl, e'⟩ | ⟨rfl, e'⟩ | ⟨rfl, e'⟩ | ⟨h', e'⟩ | ⟨h3, h4, e'⟩
  · rw [e'] at hx'; revert x; decide
  · rw [e'] at hx'; revert x; decide
  · rw [e'] at hx'; revert x; decide
  · rw [e'] at hx'
    simp only [List.mem_cons, List.not_mem_nil, or_false] at hx'
    rcases hx' with rfl | rfl | rfl | rfl
    · decide
    · decide
    · exact hx_range _ (by omega)
    · exact hx_range _ (by omega)
  · rw [e'] at hx'
    simp only [List.mem_cons, List.not_mem_nil, or_false] at hx'
    subst hx'
    unfold prB at h4
    rw [decide_eq_true_iff] at h4
    omega
theorem escL_range (l : List UInt8) : ∀ x ∈ escL l, 32 ≤ x.toNat ∧ x.toNat ≤ 126 := by
  intro x hx'
  unfold escL at hx'
  rw [List.mem_flatMap] at hx'
  obtain ⟨c, _, h⟩ := hx'
  exact eL_range c x h
end Go.Proofs.YtdjphpobhbelaaaDoor
