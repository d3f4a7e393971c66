/- alias: aliases as lists: names, valid lists, Get. -/
import Derived.Test.YticehbhedoploaaGreatDoorCcPlain
import Derived.Test.YticehbhedoploaaGreatDoorLxG
import Derived.Laws.Strings
namespace Go.Proofs.YticehbhedoploaaGreatDoor
open Go.RowKit
set_option linter.unusedVariables false

/-- An alias. -/
structure Al where
  n : ByteArray
  v : ByteArray
def plainB (s : ByteArray) : Bool := decide (0 < s.size) && s.data.toList.all fun b => Cc.letB b.toNat || (Cc.digB b.toNat || Cc.among Cc.plainS b.toNat)
theorem plainB_iff (s : ByteArray) : plainB s = true ↔ Cc.PlainP s := by
  have hl : s.data.toList.length = s.size := by simp
  unfold plainB Cc.PlainP
  rw [Bool.and_eq_true, decide_eq_true_iff, List.all_eq_true]
  refine and_congr_right fun _ => ?_
  constructor
  · intro h i hi
    have := h (s[i]'hi) (by
      rw [ByteArray.getElem_eq_getElem_data, ← Array.getElem_toList]
      exact List.getElem_mem _)
    rw [Bool.or_eq_true, Bool.or_eq_true] at this
    exact this
  · intro h b hb
    obtain ⟨i, hi, rfl⟩ := List.getElem_of_mem hb
    have := h i (by omega)
    rw [Bool.or_eq_true, Bool.or_eq_true]
    rw [ByteArray.getElem_eq_getElem_data, ← Array.getElem_toList] at this
    exact this
/-- May s be the name of an alias? -/
def nameB (s : ByteArray) : Bool := decide (s.size ≤ 32) && (plainB s && !resS s.data.toList)
def ltB (a b : ByteArray) : Bool := Op.bytesLess a.toList b.toList
/-- The error of the alias x behind the alias p. -/
def oneV (p : Option Al) (x : Al) : Nat :=
  if nameB x.n = false then 10 else if 4096 < x.v.size then 3 else match p with
  | none => 0
  | some q => if ltB q.n x.n = true then 0 else 1
/-- The first error of the aliases behind p. -/
def valF : Option Al → List Al → Nat
  | _, [] => 0
  | p, x :: l => if oneV p x = 0 then valF (some x) l else oneV p x
def valL (l : List Al) : Nat := if 64 < l.length then 4 else valF none l
def getL (l : List Al) (s : ByteArray) : ByteArray × Bool :=
  match l.find? fun x => decide (x.n = s) with
  | some x => (x.v, true)
  | none => (⟨#[]⟩, false)
theorem less_irrefl : ∀ a : List UInt8, Op.bytesLess a a = false
  | [] => rfl
  | a :: x => by
    rw [Op.bytesLess, less_irrefl x]
    simp
theorem less_trans : ∀ a b c : List UInt8, Op.bytesLess a b = true → Op.bytesLess b c = true → Op.bytesLess a c = true
  | _, _, [], _, h => by simp [Op.bytesLess] at h
  | [], _, _ :: _, _, _ => rfl
  | _ :: _, [], _ :: _, h, _ => by simp [Op.bytesLess] at h
  | a :: x, b :: y, c :: z, h, k => by
    simp only [Op.bytesLess, Bool.or_eq_true, Bool.and_eq_true, decide_eq_true_iff, beq_iff_eq] at h k ⊢
    rcases h with h | ⟨rfl, h⟩ <;> rcases k with k | ⟨rfl, k⟩
    · exact .inl (UInt8.lt_trans h k)
    · exact .inl h
    · exact .inl k
    · exact .inr ⟨rfl, less_trans x y z h k⟩
theorem less_tri : ∀ a b : List UInt8, Op.bytesLess a b = false → a ≠ b → Op.bytesLess b a = true
  | [], [], _, h => absurd rfl h
  | [], _ :: _, h, _ => by simp [Op.bytesLess] at h
  | _ :: _, [], _, _ => rfl
  | a :: x, b :: y, h, hne => by
    simp only [Op.bytesLess, Bool.or_eq_false_iff, Bool.and_eq_false_iff, decide_eq_false_iff_not, beq_eq_false_iff_ne, Bool.or_eq_true, Bool.and_eq_true, decide_eq_true_iff, beq_iff_eq] at h ⊢
    obtain ⟨h1, h2⟩ := h
    by_cases e : a = b
    · subst e
      refine .inr ⟨rfl, less_tri x y ?_ (fun e => hne (by rw [e]))⟩
      rcases h2 with h2 | h2
      · exact absurd rfl h2
      · exact h2
    · left
      have h1' : ¬ a.toNat < b.toNat := fun h => h1 (UInt8.lt_iff_toNat_lt.2 h)
      have h3 : a.toNat ≠ b.toNat := fun h => e (UInt8.toNat_inj.1 h)
      exact UInt8.lt_iff_toNat_lt.2 (by omega)
theorem ba_ext {a b : ByteArray} (h : a.toList = b.toList) : a = b := by
  rw [ByteArray.toList_eq, ByteArray.toList_eq] at h
  exact ByteArray.ext (Array.toList_inj.1 h)
theorem ltB_irrefl (a : ByteArray) : ltB a a = false := less_irrefl _
theorem ltB_trans {a b c : ByteArray} (h : ltB a b = true) (k : ltB b c = true) : ltB a c = true := less_trans _ _ _ h k
theorem ltB_tri {a b : ByteArray} (h : ltB a b = false) (hne : a ≠ b) : ltB b a = true := less_tri _ _ h (fun e => hne (ba_ext e))
theorem ltB_asymm {a b : ByteArray} (h : ltB a b = true) : ltB b a = false := by
  rcases e : ltB b a with _ | _
  · rfl
  · have := ltB_trans h e
    rw [ltB_irrefl] at this
    exact absurd this (by decide)
theorem ltB_ne {a b : ByteArray} (h : ltB a b = true) : a ≠ b := by
  rintro rfl
  rw [ltB_irrefl] at h
  exact absurd h (by decide)
/-- The names ascend. -/
def Asc (l : List Al) : Prop := l.Pairwise fun x y => ltB x.n y.n = true
theorem valF_asc : ∀ (l : List Al) (p : Option Al), valF p l = 0 → (∀ x ∈ l, nameB x.n = true ∧ x.v.size ≤ 4096) ∧ Asc l ∧ ∀ q, p = some q → ∀ x ∈ l, ltB q.n x.n = true
  | [], _, _ => ⟨by simp, List.Pairwise.nil, by simp⟩
  | x :: l, p, h => by
    rw [valF] at h
    split at h
    · rename_i h1
      obtain ⟨i1, i2, i3⟩ := valF_asc l _ h
      have hx := i3 x rfl
      unfold oneV at h1
      split at h1
      · exact absurd h1 (by decide)
      rename_i n1
      split at h1
      · exact absurd h1 (by decide)
      rename_i n2
      refine ⟨?_, List.pairwise_cons.2 ⟨hx, i2⟩, ?_⟩
      · intro y hy
        rcases List.mem_cons.1 hy with rfl | hy
        · exact ⟨by simpa using n1, by omega⟩
        · exact i1 y hy
      · rintro q rfl y hy
        have hq : ltB q.n x.n = true := by
          simp only at h1
          split at h1
          · assumption
          · exact absurd h1 (by decide)
        rcases List.mem_cons.1 hy with rfl | hy
        · exact hq
        · exact ltB_trans hq (hx y hy)
    · rename_i h1
      exact absurd h h1
theorem asc_valF : ∀ (l : List Al) (p : Option Al), (∀ x ∈ l, nameB x.n = true ∧ x.v.size ≤ 4096) → Asc l → (∀ q, p = some q → ∀ x ∈ l, ltB q.n x.n = true) → valF p l = 0
  | [], _, _, _, _ => rfl
  | x :: l, p, h, ha, hp => by
    obtain ⟨a1, a2⟩ := List.pairwise_cons.1 ha
    obtain ⟨n1, n2⟩ := h x (by simp)
    have h1 : oneV p x = 0 := by
      unfold oneV
      rw [if_neg (by rw [n1]; decide), if_neg (by omega)]
      rcases p with _ | q
      · rfl
      · exact if_pos (hp q rfl x (by simp))
    rw [valF, if_pos h1]
    exact asc_valF l _ (fun y hy => h y (by simp [hy])) a2 (fun q hq y hy => by
      injection hq with hq
      subst hq
      exact a1 y hy)
theorem valL_zero {l : List Al} : valL l = 0 ↔ l.length ≤ 64 ∧ (∀ x ∈ l, nameB x.n = true ∧ x.v.size ≤ 4096) ∧ Asc l := by
  unfold valL
  constructor
  · intro h
    split at h
    · exact absurd h (by decide)
    · rename_i h0
      obtain ⟨h1, h2, _⟩ := valF_asc l none h
      exact ⟨by omega, h1, h2⟩
  · rintro ⟨h0, h1, h2⟩
    rw [if_neg (by omega)]
    exact asc_valF l none h1 h2 (by simp)
/-- The place at which the name s stands in an ascending list, or would stand. -/
def placeL (l : List Al) (s : ByteArray) : Nat := (l.takeWhile fun x => ltB x.n s).length
def hasL (l : List Al) (s : ByteArray) : Bool := l.any fun x => decide (x.n = s)
def withoutL (l : List Al) (s : ByteArray) : List Al := l.filter fun x => !decide (x.n = s)
def setL (l : List Al) (s v : ByteArray) : List Al := (withoutL l s).takeWhile (fun x => ltB x.n s) ++ ⟨s, v⟩ :: (withoutL l s).dropWhile fun x => ltB x.n s
/-- What Set answers. -/
def setR (l : List Al) (s v : ByteArray) : List Al × Nat :=
  if valL l = 0 then if nameB s = false then (l, 10) else if 4096 < v.size then (l, 3) else if 64 ≤ (withoutL l s).length then (l, 4) else (setL l s v, 0) else (l, valL l)
/-- What Unset answers. -/
def unsetR (l : List Al) (s : ByteArray) : List Al × Nat :=
  if valL l = 0 then if hasL l s = true then (withoutL l s, 0) else (l, 8) else (l, valL l)
end Go.Proofs.YticehbhedoploaaGreatDoor
