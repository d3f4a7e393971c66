/- lexer: what its functions answer, as functions of lists of bytes. -/
import Derived.Test.YticehbhedoploaaGreatDoorProg
import Derived.WalkKit
import Derived.BigCall
import Derived.Lib.Hide
import Derived.Lib.Bytealg
namespace Go.Proofs.YticehbhedoploaaGreatDoor
open Go.RowKit
set_option linter.unusedVariables false

def bt (s : List UInt8) (i : Nat) : UInt8 := s.getD i 0
theorem bt_get {s : List UInt8} {i : Nat} (h : i < s.length) : bt s i = s[i]'h := by unfold bt; rw [List.getD_eq_getElem?_getD, List.getElem?_eq_getElem h]; rfl
def blankB (b : UInt8) : Bool := b == 32 || b == 9
def opB (b : UInt8) : Bool := [38, 124, 59, 40, 41, 60, 62].contains b
def borderB (b : UInt8) : Bool := blankB b || b == 10 || opB b
def digB (b : UInt8) : Bool := decide (48 ≤ b.toNat) && decide (b.toNat ≤ 57)
def namB (b : UInt8) : Bool := (decide (65 ≤ b.toNat) && decide (b.toNat ≤ 90)) || (decide (97 ≤ b.toNat) && decide (b.toNat ≤ 122)) || b == 95 || digB b
def speB (b : UInt8) : Bool := [64, 42, 35, 63, 45, 36, 33].contains b
/-- How many bytes the name has that a text begins with. -/
def nameL : List UInt8 → Nat
  | [] => 0
  | c :: r => if namB c = true then nameL r + 1 else 0
theorem nameL_le : ∀ l : List UInt8, nameL l ≤ l.length
  | [] => Nat.le_refl _
  | c :: r => by
    unfold nameL
    have := nameL_le r
    split
    · simp; omega
    · simp
/-- The size of the parameter that a text begins with. -/
def paramL : List UInt8 → Nat
  | [] => 0
  | c :: r => if digB c = true ∨ speB c = true then 1 else nameL (c :: r)
theorem paramL_le : ∀ l : List UInt8, paramL l ≤ l.length
  | [] => Nat.le_refl _
  | c :: r => by
    have e : paramL (c :: r) = if digB c = true ∨ speB c = true then 1 else nameL (c :: r) := rfl
    rw [e]
    by_cases h : digB c = true ∨ speB c = true
    · rw [if_pos h]; simp
    · rw [if_neg h]; exact nameL_le (c :: r)
/-- The offset of the first b, or the size. -/
def fndL (b : UInt8) : List UInt8 → Nat
  | [] => 0
  | c :: r => if c == b then 0 else fndL b r + 1
theorem fndL_le (b : UInt8) : ∀ l, fndL b l ≤ l.length
  | [] => Nat.le_refl _
  | c :: r => by
    unfold fndL
    have := fndL_le b r
    split
    · simp
    · simp; omega
theorem fndL_index (b : UInt8) : ∀ l, Lib.indexByte l b = if fndL b l < l.length then (fndL b l : Int) else -1
  | [] => rfl
  | c :: r => by
    unfold Lib.indexByte fndL
    have ih := fndL_index b r
    have := fndL_le b r
    by_cases h : (c == b) = true
    · rw [if_pos h, if_pos h, if_pos (by simp)]; rfl
    · rw [if_neg h, if_neg h, ih]
      by_cases h2 : fndL b r < r.length
      · rw [if_pos h2, if_neg (by rw [beq_iff_eq]; omega), if_pos (by simp; exact h2)]
        omega
      · rw [if_neg h2, if_pos (by decide), if_neg (by simp; omega)]
def commL (s : List UInt8) (p : Nat) : Nat := p + fndL 10 (s.drop p)
theorem commL_le {s : List UInt8} {p : Nat} (h : p ≤ s.length) : commL s p ≤ s.length := by unfold commL; have := fndL_le 10 (s.drop p); rw [List.length_drop] at this; omega
theorem commL_ge (s : List UInt8) (p : Nat) : p ≤ commL s p := Nat.le_add_right _ _
def joinB (s : List UInt8) (p : Nat) : Bool := decide (p + 1 < s.length) && (bt s p == 92 && bt s (p + 1) == 10)
/-- Skip from an offset on. -/
def skipF : Nat → List UInt8 → Nat → Nat
  | 0, _, p => p
  | F + 1, s, p => if s.length ≤ p then p else if blankB (bt s p) = true then skipF F s (p + 1) else if bt s p == 35 then skipF F s (commL s p) else if joinB s p = true then skipF F s (p + 2) else p
def singL (s : List UInt8) (o : Nat) : Nat × Nat := if fndL 39 (s.drop (o + 1)) < s.length - (o + 1) then (o + 1 + fndL 39 (s.drop (o + 1)) + 1, 0) else (o, 7)
def escL (s : List UInt8) (o : Nat) : Nat × Nat := if o + 1 = s.length then (o, 7) else (o + 2, 0)
def backF : Nat → List UInt8 → Nat → Nat → Nat × Nat
  | 0, _, o, _ => (o, 7)
  | F + 1, s, o, p => if s.length ≤ p then (o, 7) else if bt s p == 96 then (p + 1, 0) else if bt s p == 92 then (if p + 1 = s.length then (p, 7) else backF F s o (p + 2)) else backF F s o (p + 1)
mutual
/-- What is passed over at an offset: the offset behind it and 0, or that of an error and the error. -/
def passF : Nat → List UInt8 → Nat → Nat → Nat × Nat
  | 0, _, p, _ => (p + 1, 0)
  | F + 1, s, p, c =>
    if bt s p == 92 then escL s p else
    if bt s p == 96 then backF (s.length + 1) s p (p + 1) else
    if bt s p == 36 then (
      if decide (p + 1 < s.length) && bt s (p + 1) == 123 then bracF F s c p (p + 2) else
      if decide (p + 2 < s.length) && (bt s (p + 1) == 40 && bt s (p + 2) == 40) then arthF F s p (p + 3) 0 else
      if decide (p + 1 < s.length) && bt s (p + 1) == 40 then commF F s p (p + 2) 0 true else
      (p + 1 + paramL (s.drop (p + 1)), 0)) else
    if bt s p == 39 && c == 0 then singL s p else
    if bt s p == 34 && c == 0 then dblF F s p (p + 1) else (p + 1, 0)
def dblF : Nat → List UInt8 → Nat → Nat → Nat × Nat
  | 0, _, o, _ => (o, 7)
  | F + 1, s, o, p => if s.length ≤ p then (o, 7) else if bt s p == 34 then (p + 1, 0) else
    match passF F s p 1 with
    | (n, 0) => dblF F s o n
    | (n, e + 1) => (n, e + 1)
def bracF : Nat → List UInt8 → Nat → Nat → Nat → Nat × Nat
  | 0, _, _, o, _ => (o, 7)
  | F + 1, s, c, o, p => if s.length ≤ p then (o, 7) else if bt s p == 125 then (p + 1, 0) else if bt s p == 34 && c == 1 then (p, 6) else
    match passF F s p c with
    | (n, 0) => bracF F s c o n
    | (n, e + 1) => (n, e + 1)
def arthF : Nat → List UInt8 → Nat → Nat → Nat → Nat × Nat
  | 0, _, o, _, _ => (o, 7)
  | F + 1, s, o, p, d => if s.length ≤ p then (o, 7) else
    if bt s p == 41 && d == 0 then (if p + 1 = s.length then (o, 7) else if bt s (p + 1) == 41 then (p + 2, 0) else (p, 6)) else
    match passF F s p 2 with
    | (n, 0) => arthF F s o n (if bt s p == 40 then d + 1 else if bt s p == 41 then d - 1 else d)
    | (n, e + 1) => (n, e + 1)
def commF : Nat → List UInt8 → Nat → Nat → Nat → Bool → Nat × Nat
  | 0, _, o, _, _, _ => (o, 7)
  | F + 1, s, o, p, d, f => if s.length ≤ p then (o, 7) else
    if bt s p == 35 && f then commF F s o (commL s p) d f else
    if bt s p == 41 && d == 0 then (p + 1, 0) else
    match passF F s p 0 with
    | (n, 0) => commF F s o n (if bt s p == 40 then d + 1 else if bt s p == 41 then d - 1 else d) (if joinB s p = true then f else borderB (bt s p))
    | (n, e + 1) => (n, e + 1)
end
/-- What comes out: behind the place where it began, within the text. -/
def InB (n p : Nat) (r : Nat × Nat) : Prop := r.1 ≤ n ∧ (r.2 = 0 → p < r.1) ∧ (r.2 = 0 ∨ r.2 = 6 ∨ r.2 = 7)
theorem singL_in {s : List UInt8} {o : Nat} (h : o < s.length) : InB s.length o (singL s o) := by
  unfold singL
  split
  · exact ⟨by simp only; omega, fun _ => by simp only; omega, .inl rfl⟩
  · exact ⟨by simp only; omega, fun h => by simp at h, .inr (.inr rfl)⟩
theorem escL_in {s : List UInt8} {o : Nat} (h : o < s.length) : InB s.length o (escL s o) := by
  unfold escL
  split
  · exact ⟨by simp only; omega, fun h => by simp at h, .inr (.inr rfl)⟩
  · exact ⟨by simp only; omega, fun _ => by simp only; omega, .inl rfl⟩
theorem backF_in {s : List UInt8} {o : Nat} (h : o < s.length) : ∀ (F p : Nat), o < p → InB s.length o (backF F s o p)
  | 0, p, _ => ⟨by unfold backF; simp only; omega, fun h => by simp [backF] at h, .inr (.inr rfl)⟩
  | F + 1, p, hp => by
    unfold backF
    split
    · exact ⟨by simp only; omega, fun h => by simp at h, .inr (.inr rfl)⟩
    · split
      · exact ⟨by simp only; omega, fun _ => by simp only; omega, .inl rfl⟩
      · split
        · split
          · exact ⟨by simp only; omega, fun h => by simp at h, .inr (.inr rfl)⟩
          · exact backF_in h F (p + 2) (by omega)
        · exact backF_in h F (p + 1) (by omega)
theorem in_lift {n p q : Nat} {r : Nat × Nat} (h : InB n q r) (hp : p ≤ q) : InB n p r := ⟨h.1, fun e => by have := h.2.1 e; omega, h.2.2⟩
theorem all_in (s : List UInt8) : ∀ F : Nat,
    (∀ p c, p < s.length → InB s.length p (passF F s p c)) ∧ (∀ o p, o < p → o < s.length → InB s.length o (dblF F s o p)) ∧ (∀ c o p, o < p → o < s.length → InB s.length o (bracF F s c o p)) ∧
    (∀ o p d, o < p → o < s.length → InB s.length o (arthF F s o p d)) ∧ (∀ o p d f, o < p → o < s.length → InB s.length o (commF F s o p d f))
  | 0 => by
    refine ⟨fun p c h => ⟨by unfold passF; simp only; omega, fun _ => by unfold passF; simp only; omega, .inl (by simp [passF])⟩, fun o p _ h => ⟨by unfold dblF; simp only; omega, fun h => by simp [dblF] at h, .inr (.inr (by simp [dblF]))⟩, fun c o p _ h => ⟨by unfold bracF; simp only; omega, fun h => by simp [bracF] at h, .inr (.inr (by simp [bracF]))⟩, fun o p d _ h => ⟨by unfold arthF; simp only; omega, fun h => by simp [arthF] at h, .inr (.inr (by simp [arthF]))⟩, fun o p d f _ h => ⟨by unfold commF; simp only; omega, fun h => by simp [commF] at h, .inr (.inr (by simp [commF]))⟩⟩
  | F + 1 => by
    obtain ⟨h1, h2, h3, h4, h5⟩ := all_in s F
    have bad : ∀ {p n : Nat} {o : Nat}, o < s.length → n ≤ s.length → InB s.length o (n, 7) := fun ho hn => ⟨hn, fun h => by simp at h, .inr (.inr rfl)⟩
    have bad6 : ∀ {p n : Nat} {o : Nat}, o < s.length → n ≤ s.length → InB s.length o (n, 6) := fun ho hn => ⟨hn, fun h => by simp at h, .inr (.inl rfl)⟩
    refine ⟨fun p c h => ?_, fun o p hop ho => ?_, fun c o p hop ho => ?_, fun o p d hop ho => ?_, fun o p d f hop ho => ?_⟩
    · unfold passF
      split
      · exact escL_in h
      split
      · exact backF_in h _ _ (by omega)
      split
      · split
        · exact h3 c p (p + 2) (by omega) h
        split
        · exact h4 p (p + 3) 0 (by omega) h
        split
        · exact h5 p (p + 2) 0 true (by omega) h
        · have := paramL_le (s.drop (p + 1))
          rw [List.length_drop] at this
          exact ⟨by simp only; omega, fun _ => by simp only; omega, .inl rfl⟩
      split
      · exact singL_in h
      split
      · exact h2 p (p + 1) (by omega) h
      · exact ⟨by simp only; omega, fun _ => by simp only; omega, .inl rfl⟩
    · unfold dblF
      split
      · exact ⟨by simp only; omega, fun h => by simp at h, .inr (.inr rfl)⟩
      split
      · exact ⟨by simp only; omega, fun _ => by simp only; omega, .inl rfl⟩
      have hq := h1 p 1 (by omega)
      rcases hr : passF F s p 1 with ⟨n, e⟩
      rw [hr] at hq
      rcases e with _ | e
      · exact h2 o n (by have := hq.2.1 rfl; simp only at this; omega) ho
      · exact in_lift hq (by omega)
    · unfold bracF
      split
      · exact ⟨by simp only; omega, fun h => by simp at h, .inr (.inr rfl)⟩
      split
      · exact ⟨by simp only; omega, fun _ => by simp only; omega, .inl rfl⟩
      split
      · exact ⟨by simp only; omega, fun h => by simp at h, .inr (.inl rfl)⟩
      have hq := h1 p c (by omega)
      rcases hr : passF F s p c with ⟨n, e⟩
      rw [hr] at hq
      rcases e with _ | e
      · exact h3 c o n (by have := hq.2.1 rfl; simp only at this; omega) ho
      · exact in_lift hq (by omega)
    · unfold arthF
      split
      · exact ⟨by simp only; omega, fun h => by simp at h, .inr (.inr rfl)⟩
      split
      · split
        · exact ⟨by simp only; omega, fun h => by simp at h, .inr (.inr rfl)⟩
        split
        · exact ⟨by simp only; omega, fun _ => by simp only; omega, .inl rfl⟩
        · exact ⟨by simp only; omega, fun h => by simp at h, .inr (.inl rfl)⟩
      have hq := h1 p 2 (by omega)
      rcases hr : passF F s p 2 with ⟨n, e⟩
      rw [hr] at hq
      rcases e with _ | e
      · exact h4 o n _ (by have := hq.2.1 rfl; simp only at this; omega) ho
      · exact in_lift hq (by omega)
    · unfold commF
      split
      · exact ⟨by simp only; omega, fun h => by simp at h, .inr (.inr rfl)⟩
      split
      · exact h5 o _ d f (by have := commL_ge s p; omega) ho
      split
      · exact ⟨by simp only; omega, fun _ => by simp only; omega, .inl rfl⟩
      have hq := h1 p 0 (by omega)
      rcases hr : passF F s p 0 with ⟨n, e⟩
      rw [hr] at hq
      rcases e with _ | e
      · exact h5 o n _ _ (by have := hq.2.1 rfl; simp only at this; omega) ho
      · exact in_lift hq (by omega)
/-- What begins with a dollar. -/
def expF (F : Nat) (s : List UInt8) (p c : Nat) : Nat × Nat :=
  if decide (p + 1 < s.length) && bt s (p + 1) == 123 then bracF F s c p (p + 2) else
  if decide (p + 2 < s.length) && (bt s (p + 1) == 40 && bt s (p + 2) == 40) then arthF F s p (p + 3) 0 else
  if decide (p + 1 < s.length) && bt s (p + 1) == 40 then commF F s p (p + 2) 0 true else
  (p + 1 + paramL (s.drop (p + 1)), 0)
section
variable {F : Nat} {s : List UInt8} {p c : Nat}
theorem passF_92 (h : bt s p = 92) : passF (F + 1) s p c = escL s p := by unfold passF; rw [h]; rfl
theorem passF_96 (h : bt s p = 96) : passF (F + 1) s p c = backF (s.length + 1) s p (p + 1) := by unfold passF; rw [h]; rfl
theorem passF_36 (h : bt s p = 36) : passF (F + 1) s p c = expF F s p c := by unfold passF expF; rw [h]; rfl
theorem passF_39 (h : bt s p = 39) : passF (F + 1) s p 0 = singL s p := by unfold passF; rw [h]; rfl
theorem passF_34 (h : bt s p = 34) : passF (F + 1) s p 0 = dblF F s p (p + 1) := by unfold passF; rw [h]; rfl
theorem passF_q (h : bt s p = 39 ∨ bt s p = 34) (hc : c ≠ 0) : passF (F + 1) s p c = (p + 1, 0) := by
  have e : (c == 0) = false := by rw [beq_eq_false_iff_ne]; exact hc
  unfold passF
  rcases h with h | h <;> rw [h, e] <;> rfl
theorem passF_oth (h1 : bt s p ≠ 92) (h2 : bt s p ≠ 96) (h3 : bt s p ≠ 36) (h4 : bt s p ≠ 39) (h5 : bt s p ≠ 34) : passF (F + 1) s p c = (p + 1, 0) := by
  unfold passF
  rw [beq_eq_false_iff_ne.2 h1, beq_eq_false_iff_ne.2 h2, beq_eq_false_iff_ne.2 h3, beq_eq_false_iff_ne.2 h4, beq_eq_false_iff_ne.2 h5]
  rfl
end
theorem u8b {q c : UInt8} {b : Bool} (h : (q == c) = b) {k : Int} (hk : k = (c.toNat : Int)) : ((q.toNat : Int) == k) = b := by
  subst hk; subst h
  rw [Bool.eq_iff_iff, beq_iff_eq, beq_iff_eq]
  exact ⟨fun h => UInt8.toNat_inj.1 (by omega), fun h => by rw [h]⟩
theorem u8n {q c : UInt8} {b : Bool} (h : (q == c) = b) {k : Int} (hk : k = (c.toNat : Int)) : ((q.toNat : Int) != k) = !b := by
  have := u8b h hk
  rw [bne, this]
theorem u8bN {q c : UInt8} {b : Bool} (h : (q == c) = b) {k : Nat} (hk : k = c.toNat) : (q.toNat == k) = b := by
  subst hk; subst h
  rw [Bool.eq_iff_iff, beq_iff_eq, beq_iff_eq]
  exact ⟨fun h => UInt8.toNat_inj.1 h, fun h => by rw [h]⟩
theorem u8nN {q c : UInt8} {b : Bool} (h : (q == c) = b) {k : Nat} (hk : k = c.toNat) : (q.toNat != k) = !b := by
  have := u8bN h hk
  rw [bne, this]
end Go.Proofs.YticehbhedoploaaGreatDoor
