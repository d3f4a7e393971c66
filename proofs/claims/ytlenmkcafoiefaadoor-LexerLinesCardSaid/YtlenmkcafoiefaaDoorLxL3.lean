/- lexer: all tokens as a chain, and those of a text in front of a newline and behind it. -/
import Derived.Test.YtlenmkcafoiefaaDoorLxL2
import Derived.Test.YtlenmkcafoiefaaDoorLxL0
namespace Go.Proofs.YtlenmkcafoiefaaDoor
open Go.RowKit
set_option linter.unusedVariables false

/-- The tokens from a place on. -/
inductive Toks (s : ByteArray) : Nat → List Tk → Prop
  | last {k : Nat} {t : Tk} : nextL s (k : Int) = (t, 0) → t.kind = 5 → Toks s k [t]
  | cons {k : Nat} {t : Tk} {r : List Tk} : nextL s (k : Int) = (t, 0) → t.kind ≠ 5 → Toks s t.fin r → Toks s k (t :: r)
theorem Toks.ne {s : ByteArray} {k : Nat} {r : List Tk} (h : Toks s k r) : r ≠ [] := by cases h <;> simp
theorem allF_ok {s : ByteArray} : ∀ (F k : Nat) (acc : List Tk), k ≤ s.size → s.size - k < F → (allF F s k acc).2.2 = 0 → ∃ r, allF F s k acc = (acc ++ r, 0, 0) ∧ Toks s k r
  | 0, k, acc, _, h, _ => by omega
  | F + 1, k, acc, hk, hF, h => by
    rw [allF] at h ⊢
    by_cases h1 : (nextL s k).2 ≠ 0
    · rw [if_pos h1] at h; exact absurd h h1
    have h0 : (nextL s k).2 = 0 := by simpa using h1
    obtain ⟨_, i1, i2, i3, i4⟩ := next_ok hk h0
    rw [if_neg h1] at h ⊢
    rcases hn : nextL s k with ⟨t, e⟩
    rw [hn] at h0 h i1 i2 i3 i4
    simp only at h0 h i1 i2 i3 i4
    subst h0
    by_cases h5 : t.kind = 5
    · rw [if_pos h5]
      exact ⟨[t], rfl, .last hn h5⟩
    · have := i4 h5
      rw [if_neg h5] at h ⊢
      obtain ⟨r, e, hr⟩ := allF_ok F t.fin (acc ++ [t]) i1 (by omega) h
      exact ⟨t :: r, by rw [e, List.append_assoc]; rfl, .cons hn h5 hr⟩
theorem allF_bad {s : ByteArray} : ∀ (F k : Nat) (acc : List Tk), (allF F s k acc).2.2 ≠ 0 → (allF F s k acc).1 = []
  | 0, k, acc, h => rfl
  | F + 1, k, acc, h => by
    rw [allF] at h ⊢
    by_cases h1 : (nextL s k).2 ≠ 0
    · rw [if_pos h1]
    rw [if_neg h1] at h ⊢
    by_cases h5 : (nextL s k).1.kind = 5
    · rw [if_pos h5] at h; simp at h
    · rw [if_neg h5] at h ⊢
      exact allF_bad F _ _ h
theorem toks_allF {s : ByteArray} {k : Nat} {r : List Tk} (h : Toks s k r) : ∀ (F : Nat) (acc : List Tk), k ≤ s.size → s.size - k < F → allF F s k acc = (acc ++ r, 0, 0) := by
  induction h with
  | last hn h5 =>
    intro F acc hk hF
    obtain ⟨F, rfl⟩ : ∃ G, F = G + 1 := ⟨F - 1, by omega⟩
    rw [allF, hn, if_neg (by simp), if_pos h5]
  | @cons k t r hn h5 hr ih =>
    intro F acc hk hF
    obtain ⟨F, rfl⟩ : ∃ G, F = G + 1 := ⟨F - 1, by omega⟩
    obtain ⟨_, i1, i2, i3, i4⟩ := next_ok hk (by rw [hn])
    rw [hn] at i1 i2 i3 i4
    have := i4 h5
    simp only at i1 i2 i3 this
    rw [allF, hn, if_neg (by simp), if_neg h5, ih F _ i1 (by omega), List.append_assoc]
    rfl
theorem allL_ok {s : ByteArray} (h : (allL s).2.2 = 0) : Toks s 0 (allL s).1 ∧ (allL s).2.1 = 0 := by
  obtain ⟨r, e, hr⟩ := allF_ok (s := s) (s.size + 1) 0 [] (by omega) (by omega) h
  unfold allL
  rw [e]
  exact ⟨hr, rfl⟩
theorem toks_all {s : ByteArray} {r : List Tk} (h : Toks s 0 r) : allL s = (r, 0, 0) := toks_allF h _ [] (by omega) (by omega)
/-- What Next's token is. -/
theorem next_facts {s : ByteArray} {k : Nat} {t : Tk} (hk : k ≤ s.size) (h : nextL s (k : Int) = (t, 0)) :
    t.pos = skipL s.data.toList k ∧ t.pos ≤ t.fin ∧ t.fin ≤ s.size ∧ t.text = s.extract t.pos t.fin ∧ (t.kind = 5 ↔ t.pos = t.fin) ∧ (t.kind = 5 → t.fin = s.size) ∧ t.kind = kindL s.data.toList t.pos t.fin ∧ endL s.data.toList t.pos = (t.fin, 0) := by
  obtain ⟨hsz, i1, i2, i3, i4⟩ := next_ok hk (by rw [h])
  rw [h] at i1 i2 i3 i4
  simp only at i1 i2 i3 i4
  have hp := skipL_le s.data.toList k
  have hst := skipL_stop (s := s.data.toList) (a := (k : Int))
  have h0 := h
  unfold nextL at h
  rw [if_neg (by omega)] at h
  generalize hpp : skipL s.data.toList k = p at *
  rcases he : endL s.data.toList p with ⟨e, x⟩
  rw [he] at h
  rcases x with _ | x
  · simp only [Prod.mk.injEq, and_true] at h
    subst h
    simp only at *
    rw [lenS] at hp hst
    have hq : kindL s.data.toList p e = 5 → e = p := by
        intro h5
        by_cases c : e = p
        · exact c
        · have := i4
          unfold kindL at h5
          rw [if_neg c] at h5
          split at h5
          · cases h5
          split at h5
          · cases h5
          split at h5 <;> cases h5
    have h5 : kindL s.data.toList p e = 5 → e = s.size := by
      intro h5
      have hep : e = p := hq h5
      subst hep
      by_cases hlt : e < s.size
      · exfalso
        by_cases hz : 0 < opsz (s.data.toList.drop e)
        · unfold endL at he
          rw [if_pos hz] at he
          simp at he
          omega
        · by_cases hb : bt s.data.toList e = 10
          · have := nextL_nl (s := s) (a := (k : Int)) (by omega) hpp hlt hb
            rw [h0] at this
            simp only [Prod.mk.injEq, Tk.mk.injEq, and_true] at this
            omega
          · have hw : wordF (s.data.toList.length + 1) s.data.toList e = (e, 0) := by
              unfold endL at he
              rw [if_neg hz] at he
              exact he
            have := (nextL_word (s := s) (a := (k : Int)) (by omega) hpp hlt hb (by omega) hw).1
            omega
      · omega
    refine ⟨trivial, i3, i1, trivial, ⟨fun h => ?_, fun h => ?_⟩, h5, trivial, he⟩
    · exact (hq h).symm
    · unfold kindL; rw [if_pos h.symm]
  · simp at h
theorem text_empty {s : ByteArray} {p e : Nat} (hpe : p ≤ e) (he : e ≤ s.size) : (s.extract p e).size = e - p := by simp; omega
section
variable {s t S : ByteArray}
theorem escEnd {l : List UInt8} {p e : Nat} (hp : p < l.length) (he : endL l p = (e, 0)) : ¬ (bt l p = 92 ∧ p + 1 = l.length) := by
  rintro ⟨hb, hl⟩
  have hd : l.drop p = [92] := by
    have := drop_bt hp
    rw [hb, hl, List.drop_of_length_le (Nat.le_refl _)] at this
    exact this
  unfold endL at he
  rw [hd, if_neg (by decide), wordF_lt hp, hb, if_neg (by decide)] at he
  have : pasL l p 0 = (p, 7) := by
    unfold pasL
    rw [show 2 * l.length + 2 = (2 * l.length + 1) + 1 from rfl, passF_92 hb]
    unfold escL
    rw [if_pos hl]
  rw [this] at he
  simp at he
theorem skipL_nat {l : List UInt8} {k : Nat} (h : k ≤ l.length) : skipL l (k : Int) = skipF (l.length + 1) l k := by unfold skipL; rw [clamp_nat h]
theorem next_front (hS : S.data.toList = s.data.toList ++ 10 :: t.data.toList) (hsz : S.size ≤ 16384) {k : Nat} (hk : k ≤ s.size) {x : Tk} (h : nextL s (k : Int) = (x, 0)) (h5 : x.kind ≠ 5) : nextL S (k : Int) = (x, 0) := by
  obtain ⟨f1, f2, f3, f4, f5, f6, f7, f8⟩ := next_facts hk h
  have hpe : x.pos < x.fin := by
    rcases Nat.lt_or_ge x.pos x.fin with h | h
    · exact h
    · exact absurd (f5.2 (by omega)) h5
  have hl := fr_len (s := s.data.toList) (t := t.data.toList)
  rw [← hS, lenS, lenS] at hl
  have hne := escEnd (show x.pos < s.data.toList.length by rw [lenS]; omega) f8
  have hsk : skipL S.data.toList k = x.pos := by
    have e0 : skipL s.data.toList k = skipF (s.data.toList.length + 1) s.data.toList k := skipL_nat (by rw [lenS]; exact hk)
    rw [f1, e0] at hne ⊢
    rw [skipL_nat (by rw [lenS]; omega), hS, show (s.data.toList ++ 10 :: t.data.toList).length + 1 = (s.data.toList.length + 1) + (1 + t.data.toList.length) from by simp; omega]
    exact skipF_front _ _ _ (by omega) (by rw [lenS]; exact hk) hne
  have hen : endL S.data.toList x.pos = (x.fin, 0) := by rw [hS]; exact endL_front (by rw [lenS]; omega) f8
  rw [nextL_of (by omega) hsk hen]
  have htk : (S.data.toList.drop x.pos).take (x.fin - x.pos) = (s.data.toList.drop x.pos).take (x.fin - x.pos) := by
    rw [hS, fr_drop (by rw [lenS]; omega), List.take_append_of_le_length (by rw [List.length_drop, lenS]; omega)]
  have e1 : kindL S.data.toList x.pos x.fin = x.kind := by
    rw [f7]
    unfold kindL
    rw [htk]
    have : (decide (x.fin < S.data.toList.length) && (bt S.data.toList x.fin == 60 || bt S.data.toList x.fin == 62)) = (decide (x.fin < s.data.toList.length) && (bt s.data.toList x.fin == 60 || bt s.data.toList x.fin == 62)) := by
      rw [hS, Bool.and_or_distrib_left, Bool.and_or_distrib_left, fr_cond (by rw [lenS]; omega) 60 (by decide), fr_cond (by rw [lenS]; omega) 62 (by decide)]
    rw [this]
  have e2 : S.extract x.pos x.fin = x.text := by
    rw [f4]
    apply ByteArray.ext
    apply Array.toList_inj.1
    rw [Lib.extract_data, Lib.extract_data, htk]
  rw [e1, e2]
theorem toks_front (hS : S.data.toList = s.data.toList ++ 10 :: t.data.toList) (hsz : S.size ≤ 16384) {B : List Tk} (hB : Toks S (s.size + 1) B) {k : Nat} {r : List Tk} (h : Toks s k r) : k ≤ s.size → Toks S k (r.dropLast ++ ⟨3, s.size, s.size + 1, ⟨#[10]⟩⟩ :: B) := by
  have hl := fr_len (s := s.data.toList) (t := t.data.toList)
  rw [← hS, lenS, lenS] at hl
  induction h with
  | @last k x hn h5 =>
    intro hk
    obtain ⟨f1, f2, f3, f4, f5, f6, f7, f8⟩ := next_facts hk hn
    have hfin := f6 h5
    have hpos := f5.1 h5
    have hsk : skipL S.data.toList k = s.size := by
      have h2 : skipL s.data.toList k = s.size := by omega
      rw [skipL_nat (by rw [lenS]; exact hk)] at h2
      rw [skipL_nat (by rw [lenS]; omega), hS, show (s.data.toList ++ 10 :: t.data.toList).length + 1 = (s.data.toList.length + 1) + (1 + t.data.toList.length) from by simp; omega]
      rw [skipF_front _ _ _ (by omega) (by rw [lenS]; exact hk) (by rw [h2, lenS]; omega), h2]
    have h10 : bt S.data.toList s.size = 10 := by rw [hS]; exact fr_ten
    exact .cons (nextL_nl (by omega) hsk (by omega) h10) (by show (3 : Nat) ≠ 5; decide) hB
  | @cons k x r hn h5 hr ih =>
    intro hk
    obtain ⟨f1, f2, f3, f4, f5, f6, f7, f8⟩ := next_facts hk hn
    rw [List.dropLast_cons_of_ne_nil hr.ne]
    exact .cons (next_front hS hsz hk hn h5) h5 (ih f3)
theorem toks_beh {u : Nat} (hb : Beh u S.data.toList t.data.toList) (hsz : S.size ≤ 16384) {k : Nat} {r : List Tk} (h : Toks t k r) : k ≤ t.size → Toks S (u + k) (r.map (movT u)) := by
  induction h with
  | @last k x hn h5 =>
    intro hk
    exact .last (nextL_beh hb hsz hk hn) h5
  | @cons k x r hn h5 hr ih =>
    intro hk
    obtain ⟨f1, f2, f3, f4, f5, f6, f7, f8⟩ := next_facts hk hn
    exact .cons (nextL_beh hb hsz hk hn) h5 (ih f3)
theorem all_lines (hS : S.data.toList = s.data.toList ++ 10 :: t.data.toList) (hsz : S.size ≤ 16384) (h1 : (allL s).2.2 = 0) (h2 : (allL t).2.2 = 0) :
    allL S = ((allL s).1.dropLast ++ ⟨3, s.size, s.size + 1, ⟨#[10]⟩⟩ :: (allL t).1.map (movT (s.size + 1)), 0, 0) := by
  have hb : Beh (s.size + 1) S.data.toList t.data.toList := by
    have := beh_app (s.data.toList ++ [10]) t.data.toList
    rw [List.length_append, lenS, List.append_assoc] at this
    rw [hS]
    exact this
  exact toks_all (toks_front hS hsz (toks_beh hb hsz (allL_ok h2).1 (Nat.zero_le _)) (allL_ok h1).1 (Nat.zero_le _))
end
end Go.Proofs.YtlenmkcafoiefaaDoor
