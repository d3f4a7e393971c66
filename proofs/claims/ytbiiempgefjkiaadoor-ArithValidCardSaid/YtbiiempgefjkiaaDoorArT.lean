/- arith: facts of tokens. -/
import Derived.Test.YtbiiempgefjkiaaDoorArM
namespace Go.Proofs.YtbiiempgefjkiaaDoor.Ar
set_option linter.unusedVariables false

theorem len_toList (s : ByteArray) : s.data.toList.length = s.size := by simp
theorem spc_ge (s : ByteArray) (p : Nat) : p ≤ spc s p := by unfold spc; omega
theorem takeWhile_le {α : Type} (f : α → Bool) : ∀ l : List α, (l.takeWhile f).length ≤ l.length
  | [] => by simp
  | a :: l => by
    rw [List.takeWhile_cons]
    split
    · have := takeWhile_le f l
      simp only [List.length_cons]; omega
    · simp
theorem spc_le {s : ByteArray} {p : Nat} (h : p ≤ s.size) : spc s p ≤ s.size := by
  unfold spc
  have := takeWhile_le isSp (s.data.toList.drop p)
  rw [List.length_drop, len_toList] at this
  omega
theorem spc_step {s : ByteArray} {p : Nat} (h : p < s.size) (b : UInt8) (hb : s.data.toList[p]? = some b) (hs : isSp b = true) : spc s p = spc s (p + 1) := by
  unfold spc
  have hl := len_toList s
  have he := List.getElem?_eq_some_iff.1 hb
  obtain ⟨hp, he⟩ := he
  rw [List.drop_eq_getElem_cons hp, he, List.takeWhile_cons, if_pos hs, List.length_cons]
  omega
theorem spc_stop {s : ByteArray} {p : Nat} (b : UInt8) (hb : s.data.toList[p]? = some b) (hs : isSp b = false) : spc s p = p := by
  unfold spc
  obtain ⟨hp, he⟩ := List.getElem?_eq_some_iff.1 hb
  rw [List.drop_eq_getElem_cons hp, he, List.takeWhile_cons, if_neg (by simp [hs])]
  rfl
theorem spc_end {s : ByteArray} {p : Nat} (h : s.size ≤ p) : spc s p = p := by
  unfold spc
  rw [List.drop_of_length_le (by rw [len_toList]; exact h)]
  rfl
theorem wrdN_le (s : ByteArray) : wrdN s ≤ s.size := by
  unfold wrdN
  have := takeWhile_le wrdB s.data.toList
  rw [len_toList] at this
  exact this
theorem prefix_len {a b : List UInt8} (h : a.isPrefixOf b = true) : a.length ≤ b.length := (List.isPrefixOf_iff_prefix.1 h).length_le
theorem symOne_le (s : ByteArray) (b : Bn) : symOne s b ≤ s.size := by
  unfold symOne
  split
  · rename_i h
    have h1 := prefix_len h
    rw [len_toList, len_toList] at h1
    split
    · rename_i h2
      rw [Bool.and_eq_true] at h2
      have := prefix_len h2.2
      rw [List.length_drop, len_toList] at this
      simp only [List.length_cons, List.length_nil] at this
      omega
    · omega
  · omega
theorem symL_le (s : ByteArray) : ∀ (l : List Bn) (m : Nat), m ≤ s.size → symL s l m ≤ s.size
  | [], m, h => h
  | b :: r, m, h => symL_le s r _ (by have := symOne_le s b; omega)
theorem symL_ge (s : ByteArray) : ∀ (l : List Bn) (m : Nat), m ≤ symL s l m
  | [], m => Nat.le_refl _
  | b :: r, m => Nat.le_trans (Nat.le_max_left _ _) (symL_ge s r _)
theorem symN_le {s : ByteArray} (h : 0 < s.size) : symN s ≤ s.size := symL_le s _ _ h
theorem symN_pos (s : ByteArray) : 1 ≤ symN s := symL_ge s _ _
/-- Tokens: the last is the end. -/
def GoodT : List Tok → Prop
  | [] => False
  | [t] => t.k = 0 ∧ t.t = ⟨#[]⟩ ∧ t.p ≤ 100000
  | t :: r => (t.k = 1 ∨ t.k = 2 ∨ t.k = 3) ∧ 0 < t.t.size ∧ t.t.size ≤ 100000 ∧ t.p ≤ 100000 ∧ GoodT r
theorem first_size {s : ByteArray} (h : 0 < s.size) (p : Nat) : 0 < (firstT s p).t.size ∧ (firstT s p).t.size ≤ s.size ∧ (firstT s p).p = p ∧ ((firstT s p).k = 1 ∨ (firstT s p).k = 2 ∨ (firstT s p).k = 3) := by
  have h1 := symN_le h
  have h2 := symN_pos s
  have h3 := wrdN_le s
  unfold firstT
  split
  · exact ⟨by simp only [ByteArray.size_extract]; omega, by simp only [ByteArray.size_extract]; omega, rfl, .inr (.inr rfl)⟩
  · split
    · exact ⟨by simp only [ByteArray.size_extract]; omega, by simp only [ByteArray.size_extract]; omega, rfl, .inl rfl⟩
    · exact ⟨by simp only [ByteArray.size_extract]; omega, by simp only [ByteArray.size_extract]; omega, rfl, .inr (.inl rfl)⟩
theorem scanF_ne (s : ByteArray) : ∀ f p, scanF s f p ≠ []
  | 0, p => by simp [scanF]
  | f + 1, p => by
    rw [scanF]
    split <;> simp
theorem good_cons {t : Tok} {r : List Tok} (hr : GoodT r) (h1 : t.k = 1 ∨ t.k = 2 ∨ t.k = 3) (h2 : 0 < t.t.size) (h3 : t.t.size ≤ 100000) (h4 : t.p ≤ 100000) : GoodT (t :: r) := by
  cases r with
  | nil => exact absurd hr (by simp [GoodT])
  | cons a r => exact ⟨h1, h2, h3, h4, hr⟩
theorem scanF_good {s : ByteArray} (hs : s.size ≤ 100000) : ∀ f p, GoodT (scanF s f p)
  | 0, p => ⟨rfl, rfl, hs⟩
  | f + 1, p => by
    rw [scanF]
    split
    · rename_i h
      have h0 : 0 < (s.extract p s.size).size := by rw [ByteArray.size_extract]; omega
      obtain ⟨h1, h2, h3, h4⟩ := first_size h0 p
      rw [ByteArray.size_extract] at h2
      exact good_cons (scanF_good hs f _) h4 h1 (by omega) (by omega)
    · exact ⟨rfl, rfl, hs⟩
theorem scanL_good {s : ByteArray} (hs : s.size ≤ 100000) : GoodT (scanL s) := scanF_good hs _ _
theorem good_end {T : List Tok} (h : GoodT T) (hk : (hd T).k = 0) : ∃ t, T = [t] ∧ t.k = 0 ∧ t.t = ⟨#[]⟩ ∧ t.p ≤ 100000 := by
  match T, h with
  | [t], h => exact ⟨t, rfl, h⟩
  | t :: a :: r, h =>
    have h1 := h.1
    simp only [hd, List.headD_cons] at hk
    omega
theorem good_next {T : List Tok} (h : GoodT T) (hk : (hd T).k ≠ 0) : ∃ t r, T = t :: r ∧ (t.k = 1 ∨ t.k = 2 ∨ t.k = 3) ∧ 0 < t.t.size ∧ t.t.size ≤ 100000 ∧ t.p ≤ 100000 ∧ GoodT r := by
  match T, h with
  | [t], h => exact absurd h.1 (by simpa [hd] using hk)
  | t :: a :: r, h => exact ⟨t, a :: r, rfl, h⟩
theorem good_text {T : List Tok} (h : GoodT T) (ht : (hd T).t.size ≠ 0) : (hd T).k ≠ 0 := by
  intro hk
  obtain ⟨t, rfl, _, h2, _⟩ := good_end h hk
  exact ht (by show t.t.size = 0; rw [h2]; rfl)
theorem good_len {T : List Tok} (h : GoodT T) : 0 < T.length := by
  match T, h with
  | t :: r, _ => simp
theorem scanF_len (s : ByteArray) : ∀ f p, (scanF s f p).length ≤ f + 1
  | 0, p => by simp [scanF]
  | f + 1, p => by
    rw [scanF]
    split
    · have := scanF_len s f (spc s (p + (firstT (s.extract p s.size) p).t.size))
      simp only [List.length_cons]; omega
    · simp
end Go.Proofs.YtbiiempgefjkiaaDoor.Ar
