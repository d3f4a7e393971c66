/- lexer: Next, by the byte where Skip stops. -/
import Derived.Test.YtlenmkcafoiefaaDoorLxK
namespace Go.Proofs.YtlenmkcafoiefaaDoor
open Go.RowKit
set_option linter.unusedVariables false

theorem skipF_stop {s : List UInt8} : ∀ (F p : Nat), s.length - p < F → skipF F s p < s.length → blankB (bt s (skipF F s p)) = false
  | 0, p, h, _ => by omega
  | F + 1, p, h, hr => by
    by_cases hl : s.length ≤ p
    · rw [skipF_ge hl] at hr; omega
    rw [skipF_lt (by omega)] at hr ⊢
    by_cases h1 : blankB (bt s p) = true
    · rw [if_pos h1] at hr ⊢
      exact skipF_stop F (p + 1) (by omega) hr
    rw [if_neg h1] at hr ⊢
    by_cases h2 : (bt s p == 35) = true
    · rw [if_pos h2] at hr ⊢
      exact skipF_stop F _ (by have := commL_gt (show p < s.length by omega) h2; omega) hr
    rw [if_neg h2] at hr ⊢
    by_cases h3 : joinB s p = true
    · rw [if_pos h3] at hr ⊢
      exact skipF_stop F (p + 2) (by omega) hr
    rw [if_neg h3] at hr ⊢
    simpa using h1
theorem skipL_stop {s : List UInt8} {a : Int} (h : skipL s a < s.length) : blankB (bt s (skipL s a)) = false :=
  skipF_stop _ _ (by have := clamp_le a s.length; omega) h
theorem opS_len {l : List UInt8} (h : opS l = true) : l.length ≤ 3 := by
  unfold opS opsL at h
  rw [List.contains_iff_mem] at h
  simp only [List.mem_cons, List.not_mem_nil, or_false] at h
  rcases h with rfl | rfl | rfl | rfl | rfl | rfl | rfl | rfl | rfl | rfl | rfl | rfl | rfl | rfl | rfl | rfl | rfl | rfl <;> decide
theorem opS_ten {x : UInt8} {l : List UInt8} : opS (10 :: x :: l) = false := by
  rw [← Bool.not_eq_true]
  intro h
  unfold opS opsL at h
  rw [List.contains_iff_mem] at h
  simp at h
theorem opB_one {q : UInt8} (h : opB q = true) : opS [q] = true := by
  unfold opB at h
  rw [List.contains_iff_mem] at h
  simp only [List.mem_cons, List.not_mem_nil, or_false] at h
  rcases h with rfl | rfl | rfl | rfl | rfl | rfl | rfl <;> rfl
theorem opsF_zero {l : List UInt8} : ∀ (m : Nat), opsF l m = 0 → ∀ j, 1 ≤ j → j ≤ m → opS (l.take j) = false
  | 0, _, j, h1, h2 => by omega
  | m + 1, h, j, h1, h2 => by
    unfold opsF at h
    by_cases hb : opS (l.take (m + 1)) = true
    · rw [if_pos hb] at h; omega
    · rw [if_neg hb] at h
      by_cases e : j = m + 1
      · rw [e]; simpa using hb
      · exact opsF_zero m h j h1 (by omega)
theorem opsF_pos {l : List UInt8} : ∀ (m : Nat), 0 < opsF l m → opS (l.take (opsF l m)) = true
  | 0, h => by simp [opsF] at h
  | m + 1, h => by
    by_cases hb : opS (l.take (m + 1)) = true
    · have e : opsF l (m + 1) = m + 1 := by unfold opsF; rw [if_pos hb]
      rw [e]; exact hb
    · have e : opsF l (m + 1) = opsF l m := by rw [opsF, if_neg hb]
      rw [e] at h ⊢
      exact opsF_pos m h
theorem opsz_ten (r : List UInt8) : opsz (10 :: r) = 1 := by
  rcases r with _ | ⟨x, _ | ⟨y, r⟩⟩
  · rfl
  · show opsF [10, x] 2 = 1
    unfold opsF
    rw [if_neg (by show ¬ opS [10, x] = true; rw [opS_ten]; simp)]
    rfl
  · have e : min 3 (10 :: x :: y :: r).length = 3 := by simp only [List.length_cons]; omega
    unfold opsz
    rw [e]
    unfold opsF
    rw [if_neg (by show ¬ opS [10, x, y] = true; rw [opS_ten]; simp)]
    unfold opsF
    rw [if_neg (by show ¬ opS [10, x] = true; rw [opS_ten]; simp)]
    rfl
theorem drop_bt {s : List UInt8} {p : Nat} (h : p < s.length) : s.drop p = bt s p :: s.drop (p + 1) := by rw [bt_get h]; exact List.drop_eq_getElem_cons h
theorem opsz_none {s : List UInt8} {p : Nat} (h : opsz (s.drop p) = 0) {e : Nat} (hp : p < e) (he : e ≤ s.length) : opS ((s.drop p).take (e - p)) = false := by
  by_cases h3 : e - p ≤ 3
  · exact opsF_zero _ h (e - p) (by omega) (by rw [List.length_drop]; omega)
  · rw [← Bool.not_eq_true]
    intro hb
    have := opS_len hb
    rw [List.length_take, List.length_drop] at this
    omega
theorem wordF_gt {s : List UInt8} {F p e : Nat} (hp : p < s.length) (hb : borderB (bt s p) = false) (h : wordF (F + 1) s p = (e, 0)) : p < e := by
  rw [wordF_lt hp, hb, if_neg (by simp)] at h
  have hin := pasL_in (s := s) 0 hp
  rcases hq : pasL s p 0 with ⟨n, x⟩
  rw [hq] at hin h
  rcases x with _ | x
  · have h1 := hin.2.1 rfl
    have h2 := (wordF_in F n hin.1).2.1
    simp only at h h1
    rw [h] at h2
    have := h2 rfl
    simp only at this
    omega
  · simp at h
section
variable {s : ByteArray} {a : Int} {p : Nat}
theorem extract_nil (s : ByteArray) (p : Nat) : s.extract p p = ⟨#[]⟩ := by
  apply ByteArray.ext
  apply Array.toList_inj.1
  rw [Lib.extract_data]
  simp
theorem nextL_of (h1 : ¬ 16384 < s.size) (hp : skipL s.data.toList a = p) {e : Nat} (he : endL s.data.toList p = (e, 0)) : nextL s a = (⟨kindL s.data.toList p e, p, e, s.extract p e⟩, 0) := by
  unfold nextL
  rw [if_neg h1, hp, he]
theorem nextL_end (h1 : ¬ 16384 < s.size) (hp : skipL s.data.toList a = s.size) : nextL s a = (⟨5, s.size, s.size, ⟨#[]⟩⟩, 0) := by
  have he : endL s.data.toList s.size = (s.size, 0) := by
    unfold endL
    have : s.data.toList.drop s.size = [] := List.drop_of_length_le (by rw [lenS]; exact Nat.le_refl _)
    rw [this, if_neg (by decide)]
    exact wordF_ge (by rw [lenS]; exact Nat.le_refl _)
  rw [nextL_of h1 hp he, extract_nil]
  unfold kindL
  rw [if_pos rfl]
theorem nextL_nl (h1 : ¬ 16384 < s.size) (hp : skipL s.data.toList a = p) (hl : p < s.size) (hb : bt s.data.toList p = 10) : nextL s a = (⟨3, p, p + 1, ⟨#[10]⟩⟩, 0) := by
  have hd := drop_bt (show p < s.data.toList.length from hl)
  rw [hb] at hd
  have he : endL s.data.toList p = (p + 1, 0) := by
    unfold endL
    rw [hd, opsz_ten, if_pos (by decide)]
  have hx : (s.data.toList.drop p).take (p + 1 - p) = [10] := by rw [hd, Nat.add_sub_cancel_left]; rfl
  rw [nextL_of h1 hp he]
  have hk : kindL s.data.toList p (p + 1) = 3 := by
    unfold kindL
    rw [if_neg (by omega), hx, if_pos (by decide)]
  have hxe : s.extract p (p + 1) = ⟨#[10]⟩ := by
    apply ByteArray.ext
    apply Array.toList_inj.1
    rw [Lib.extract_data, hx]
  rw [hk, hxe]
theorem take_head {l : List UInt8} {q : UInt8} {r : List UInt8} (hd : l = q :: r) {n : Nat} (hn : 0 < n) (hq : q ≠ 10) : (l.take n == [10]) = false := by
  rw [hd, beq_eq_false_iff_ne]
  obtain ⟨m, rfl⟩ : ∃ m, n = m + 1 := ⟨n - 1, by omega⟩
  rw [List.take_succ_cons]
  intro h
  injection h with h _
  exact hq h
theorem nextL_op (h1 : ¬ 16384 < s.size) (hp : skipL s.data.toList a = p) (hl : p < s.size) (hb : bt s.data.toList p ≠ 10) (hz : 0 < opsz (s.data.toList.drop p)) : nextL s a = (⟨2, p, p + opsz (s.data.toList.drop p), s.extract p (p + opsz (s.data.toList.drop p))⟩, 0) := by
  have he : endL s.data.toList p = (p + opsz (s.data.toList.drop p), 0) := by
    unfold endL
    rw [if_pos hz]
  rw [nextL_of h1 hp he]
  have hk : kindL s.data.toList p (p + opsz (s.data.toList.drop p)) = 2 := by
    unfold kindL
    rw [if_neg (by omega), Nat.add_sub_cancel_left, take_head (drop_bt (show p < s.data.toList.length from hl)) hz hb, if_neg (by simp)]
    have : opS ((s.data.toList.drop p).take (opsz (s.data.toList.drop p))) = true := opsF_pos _ hz
    rw [if_pos this]
  rw [hk]
theorem nextL_word (h1 : ¬ 16384 < s.size) (hp : skipL s.data.toList a = p) (hl : p < s.size) (hb : bt s.data.toList p ≠ 10) (hz : opsz (s.data.toList.drop p) = 0) {e : Nat} (hw : wordF (s.data.toList.length + 1) s.data.toList p = (e, 0)) :
    p < e ∧ e ≤ s.size ∧ nextL s a = (⟨if (((s.data.toList.drop p).take (e - p)).all digB && (decide (e < s.data.toList.length) && (bt s.data.toList e == 60 || bt s.data.toList e == 62))) = true then 4 else 1, p, e, s.extract p e⟩, 0) := by
  have hbl := skipL_stop (s := s.data.toList) (a := a) (by rw [hp]; exact hl)
  rw [hp] at hbl
  have hbo : borderB (bt s.data.toList p) = false := by
    unfold borderB
    rw [hbl]
    rcases ho : opB (bt s.data.toList p) with _ | _
    · rw [beq_eq_false_iff_ne.2 hb]; rfl
    · have h2 := opB_one ho
      have h3 := opsz_none hz (e := p + 1) (by omega) (by rw [lenS]; omega)
      rw [drop_bt (show p < s.data.toList.length from hl), Nat.add_sub_cancel_left] at h3
      rw [show (bt s.data.toList p :: s.data.toList.drop (p + 1)).take 1 = [bt s.data.toList p] from rfl, h2] at h3
      cases h3
  have hpe := wordF_gt (show p < s.data.toList.length from hl) hbo hw
  have hle := (wordF_in (s := s.data.toList) (s.data.toList.length + 1) p (by rw [lenS]; omega)).1
  rw [hw, lenS] at hle
  have he : endL s.data.toList p = (e, 0) := by
    unfold endL
    rw [if_neg (by omega)]
    exact hw
  refine ⟨hpe, hle, ?_⟩
  rw [nextL_of h1 hp he]
  have hk : kindL s.data.toList p e = if (((s.data.toList.drop p).take (e - p)).all digB && (decide (e < s.data.toList.length) && (bt s.data.toList e == 60 || bt s.data.toList e == 62))) = true then 4 else 1 := by
    unfold kindL
    rw [if_neg (by omega), take_head (drop_bt (show p < s.data.toList.length from hl)) (by omega) hb, if_neg (by simp), opsz_none hz hpe (by rw [lenS]; exact hle), if_neg (by simp), Bool.and_comm]
  rw [hk]
theorem nextL_bad (h1 : ¬ 16384 < s.size) (hp : skipL s.data.toList a = p) (hz : opsz (s.data.toList.drop p) = 0) {e x : Nat} (hw : wordF (s.data.toList.length + 1) s.data.toList p = (e, x + 1)) : nextL s a = (⟨0, e, 0, ⟨#[]⟩⟩, x + 1) := by
  have he : endL s.data.toList p = (e, x + 1) := by
    unfold endL
    rw [if_neg (by omega)]
    exact hw
  unfold nextL
  rw [if_neg h1, hp, he]
end
end Go.Proofs.YtlenmkcafoiefaaDoor
