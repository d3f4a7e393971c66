/- arith: expressions, tokens, the parser and the printer as plain functions. -/
import Derived.Laws.Strings
namespace Go.Proofs.YtbiiempgefjkiaaDoor.Ar
set_option linter.unusedVariables false

/-- An expression: operator, number, name, operands. -/
inductive Ex where
  | mk (op n : Int) (name : ByteArray) (kids : List Ex)
def Ex.op : Ex → Int | .mk op _ _ _ => op
def Ex.n : Ex → Int | .mk _ n _ _ => n
def Ex.name : Ex → ByteArray | .mk _ _ s _ => s
def Ex.kids : Ex → List Ex | .mk _ _ _ l => l
def Ex.zero : Ex := .mk 0 0 ⟨#[]⟩ []
def strB (l : List UInt8) : ByteArray := ⟨l.toArray⟩
def eqB (s t : ByteArray) : Bool := s.data.toList == t.data.toList
theorem eqB_iff {s t : ByteArray} : eqB s t = true ↔ s = t := by
  unfold eqB
  rw [beq_iff_eq]
  exact ⟨fun h => ByteArray.ext (Array.toList_inj.1 h), fun h => by rw [h]⟩
theorem eqB_false {s t : ByteArray} : eqB s t = false ↔ s ≠ t := by
  rw [← Bool.not_eq_true, eqB_iff]

/-- A binary operator: text, number, level, may it assign. -/
structure Bn where
  t : ByteArray
  op : Nat
  lv : Nat
  as : Bool
def binL : List Bn := [⟨⟨#[124, 124]⟩, 24, 3, false⟩, ⟨⟨#[38, 38]⟩, 23, 4, false⟩, ⟨⟨#[124]⟩, 22, 5, true⟩, ⟨⟨#[94]⟩, 21, 6, true⟩, ⟨⟨#[38]⟩, 20, 7, true⟩,
  ⟨⟨#[61, 61]⟩, 18, 8, false⟩, ⟨⟨#[33, 61]⟩, 19, 8, false⟩, ⟨⟨#[60]⟩, 14, 9, false⟩, ⟨⟨#[62]⟩, 15, 9, false⟩, ⟨⟨#[60, 61]⟩, 16, 9, false⟩, ⟨⟨#[62, 61]⟩, 17, 9, false⟩,
  ⟨⟨#[60, 60]⟩, 12, 10, true⟩, ⟨⟨#[62, 62]⟩, 13, 10, true⟩, ⟨⟨#[43]⟩, 10, 11, true⟩, ⟨⟨#[45]⟩, 11, 11, true⟩, ⟨⟨#[42]⟩, 7, 12, true⟩, ⟨⟨#[47]⟩, 8, 12, true⟩, ⟨⟨#[37]⟩, 9, 12, true⟩]
def bn0 : Bn := ⟨⟨#[]⟩, 0, 0, false⟩
def findOp (l : List Bn) (op : Int) : Option Bn := l.find? fun b => ((b.op : Int) == op)
def findTx (l : List Bn) (t : ByteArray) : Option Bn := l.find? fun b => eqB b.t t
/-- The operator with a number, and is there one. -/
def binOf (op : Int) : Bn × Bool := match findOp binL op with
  | some b => (b, true)
  | none => (bn0, false)
def binAt (t : ByteArray) : Bn × Bool := match findTx binL t with
  | some b => (b, true)
  | none => (bn0, false)
def asgOp (op : Int) : Bool := (binOf op).1.as || (op == 0)
def endEq (t : ByteArray) : Bool := t.data.toList.getLast? == some 61
def asgAt (t : ByteArray) : Nat × Bool :=
  if endEq t then
    if t.size = 1 then (0, true) else ((binAt (t.extract 0 (t.size - 1))).1.op, (binAt (t.extract 0 (t.size - 1))).1.as)
  else (0, false)
def unaAt (t : ByteArray) : Nat × Bool :=
  if eqB t ⟨#[45]⟩ then (3, true) else if eqB t ⟨#[43]⟩ then (4, true) else if eqB t ⟨#[33]⟩ then (5, true) else if eqB t ⟨#[126]⟩ then (6, true) else (0, false)
def unaTx (op : Int) : ByteArray := if op == 3 then ⟨#[45]⟩ else if op == 4 then ⟨#[43]⟩ else if op == 5 then ⟨#[33]⟩ else ⟨#[126]⟩
def lvOf (op : Int) : Nat :=
  if op == 1 then 14 else if op == 2 then 14 else if op == 26 then 1 else if op == 25 then 2 else if (binOf op).2 then (binOf op).1.lv else 13

/-- Names. -/
def ltrB (b : UInt8) : Bool := decide (65 ≤ b.toNat ∧ b.toNat ≤ 90 ∨ 97 ≤ b.toNat ∧ b.toNat ≤ 122 ∨ b.toNat = 95)
def digB (b : UInt8) : Bool := decide (48 ≤ b.toNat ∧ b.toNat ≤ 57)
def wrdB (b : UInt8) : Bool := ltrB b || digB b
def nameL : List UInt8 → Bool
  | [] => false
  | b :: r => ltrB b && r.all wrdB
def nameB (s : ByteArray) : Bool := decide (s.size ≤ 32) && nameL s.data.toList

/-- Constants. -/
def dgV (b : UInt8) : Nat × Bool :=
  if 48 ≤ b.toNat ∧ b.toNat ≤ 57 then (b.toNat - 48, true) else if 97 ≤ b.toNat ∧ b.toNat ≤ 102 then (b.toNat - 97 + 10, true) else if 65 ≤ b.toNat ∧ b.toNat ≤ 70 then (b.toNat - 65 + 10, true) else (0, false)
def btA (s : ByteArray) (i : Nat) : UInt8 := s.data.toList.getD i 0
def splitC (s : ByteArray) : Nat × ByteArray × Bool :=
  if s.size = 0 then (0, ⟨#[]⟩, false) else if btA s 0 = 48 then
    if 1 < s.size ∧ (btA s 1 = 120 ∨ btA s 1 = 88) then (16, s.extract 2 s.size, decide (2 < s.size)) else (8, s, true)
  else (10, s, true)
def valC (base most : Nat) : List UInt8 → Nat → Bool → Nat × Nat
  | [], v, f => if f then (v, 0) else (0, 14)
  | b :: r, v, f => if (dgV b).2 && decide ((dgV b).1 < base) then
      valC base most r ((base * v + (dgV b).1) % 18446744073709551616) (f && decide ((dgV b).1 ≤ most) && decide (v ≤ (most - (dgV b).1) / base))
    else (0, 6)
/-- The value of a constant, and the error. -/
def constC (s : ByteArray) (most : Nat) : Nat × Nat :=
  if (splitC s).2.2 then valC (splitC s).1 most (splitC s).2.1.data.toList 0 true else (0, 6)

/-- A token: kind, place, text. -/
structure Tok where
  k : Nat
  p : Nat
  t : ByteArray
def isSp (b : UInt8) : Bool := b == 9 || b == 10 || b == 32
def spc (s : ByteArray) (p : Nat) : Nat := p + ((s.data.toList.drop p).takeWhile isSp).length
def wrdN (s : ByteArray) : Nat := (s.data.toList.takeWhile wrdB).length
/-- How far the operator b leads at the beginning of s; 0 if it is not there. -/
def symOne (s : ByteArray) (b : Bn) : Nat :=
  if b.t.data.toList.isPrefixOf s.data.toList then
    b.t.size + (if b.as && ([61] : List UInt8).isPrefixOf (s.data.toList.drop b.t.size) then 1 else 0)
  else 0
def symL (s : ByteArray) : List Bn → Nat → Nat
  | [], m => m
  | b :: r, m => symL s r (max m (symOne s b))
def symN (s : ByteArray) : Nat := symL s binL 1
def hdig (s : ByteArray) : Bool := match s.data.toList with
  | b :: _ => digB b
  | [] => false
def firstT (s : ByteArray) (p : Nat) : Tok :=
  if wrdN s = 0 then ⟨3, p, s.extract 0 (symN s)⟩
  else if hdig s then ⟨1, p, s.extract 0 (wrdN s)⟩
  else ⟨2, p, s.extract 0 (wrdN s)⟩
def scanF (s : ByteArray) : Nat → Nat → List Tok
  | 0, _ => [⟨0, s.size, ⟨#[]⟩⟩]
  | f + 1, p => if p < s.size then firstT (s.extract p s.size) p :: scanF s f (spc s (p + (firstT (s.extract p s.size) p).t.size)) else [⟨0, s.size, ⟨#[]⟩⟩]
def scanL (s : ByteArray) : List Tok := scanF s (s.size + 1) (spc s 0)

/-- What a parser answers: an expression and the tokens left, or an error and its place. -/
inductive PR where
  | ok (x : Ex) (T : List Tok)
  | bad (p e : Nat)
def hd (T : List Tok) : Tok := T.headD ⟨0, 0, ⟨#[]⟩⟩
def numR (T : List Tok) : PR := if (constC (hd T).t 9223372036854775807).2 = 0 then .ok (.mk 1 (constC (hd T).t 9223372036854775807).1 ⟨#[]⟩ []) T.tail else .bad (hd T).p (constC (hd T).t 9223372036854775807).2
def varR (T : List Tok) : PR := if nameB (hd T).t then .ok (.mk 2 0 (hd T).t []) T.tail else .bad (hd T).p 10
/-- Go on behind an answer. -/
def PR.then (r : Option PR) (g : Ex → List Tok → Option PR) : Option PR :=
  match r with
  | none => none
  | some (.bad p e) => some (.bad p e)
  | some (.ok x T) => g x T
mutual
def asgF : Nat → List Tok → Option PR
  | 0, _ => none
  | f + 1, T =>
    if (hd T).k = 2 then
      if (asgAt (hd T.tail).t).2 then
        if nameB (hd T).t then PR.then (asgF f T.tail.tail) fun x T' => some (.ok (.mk 26 (asgAt (hd T.tail).t).1 (hd T).t [x]) T')
        else some (.bad (hd T).p 10)
      else cndF f T
    else cndF f T
def cndF : Nat → List Tok → Option PR
  | 0, _ => none
  | f + 1, T => PR.then (opnF f 3 T) fun a T1 =>
    if eqB (hd T1).t ⟨#[63]⟩ then PR.then (asgF f T1.tail) fun b T2 =>
      if eqB (hd T2).t ⟨#[58]⟩ then PR.then (cndF f T2.tail) fun c T3 => some (.ok (.mk 25 0 ⟨#[]⟩ [a, b, c]) T3)
      else some (.bad (hd T2).p 6)
    else some (.ok a T1)
def opnF : Nat → Nat → List Tok → Option PR
  | 0, _, _ => none
  | f + 1, l, T => PR.then (unaF f T) fun a T1 => lopF f l a T1
def lopF : Nat → Nat → Ex → List Tok → Option PR
  | 0, _, _, _ => none
  | f + 1, l, a, T =>
    if (binAt (hd T).t).2 && decide (l ≤ (binAt (hd T).t).1.lv) then
      PR.then (opnF f ((binAt (hd T).t).1.lv + 1) T.tail) fun b T1 => lopF f l (.mk (binAt (hd T).t).1.op 0 ⟨#[]⟩ [a, b]) T1
    else some (.ok a T)
def unaF : Nat → List Tok → Option PR
  | 0, _ => none
  | f + 1, T =>
    if (unaAt (hd T).t).2 then PR.then (unaF f T.tail) fun x T1 => some (.ok (.mk (unaAt (hd T).t).1 0 ⟨#[]⟩ [x]) T1)
    else sngF f T
def sngF : Nat → List Tok → Option PR
  | 0, _ => none
  | f + 1, T =>
    if (hd T).k = 1 then some (numR T)
    else if (hd T).k = 2 then some (varR T)
    else if eqB (hd T).t ⟨#[40]⟩ then PR.then (asgF f T.tail) fun x T1 =>
      if eqB (hd T1).t ⟨#[41]⟩ then some (.ok x T1.tail) else some (.bad (hd T1).p 6)
    else some (.bad (hd T).p 6)
end
mutual
def dep : Ex → Nat
  | .mk _ _ _ l => depK l + 1
def depK : List Ex → Nat
  | [] => 0
  | x :: l => max (dep x) (depK l)
end
def inpF (f : Nat) (T : List Tok) : Option PR :=
  if (hd T).k = 0 then some (.ok (.mk 1 0 ⟨#[]⟩ []) T) else PR.then (asgF f T) fun x T1 =>
    if (hd T1).k = 0 then if 32 < dep x then some (.bad 0 5) else some (.ok x T1) else some (.bad (hd T1).p 6)
/-- Parse's answer: expression, place, error. -/
def parF (f : Nat) (s : ByteArray) : Option (Ex × Nat × Nat) :=
  if 4096 < s.size then some (Ex.zero, 0, 3) else match inpF f (scanL s) with
  | none => none
  | some (.bad p e) => some (Ex.zero, p, e)
  | some (.ok x _) => some (x, 0, 0)

/-- Valid expressions. -/
def arity (op : Int) : Nat × Bool :=
  if op == 1 || op == 2 then (0, true) else if op == 3 || op == 4 || op == 5 || op == 6 || op == 26 then (1, true) else if op == 25 then (3, true) else (2, (binOf op).2)
def named (op : Int) : Bool := op == 2 || op == 26
def shapedN (op n : Int) : Bool := if op == 1 then decide (0 ≤ n) else if op == 26 then asgOp n else n == 0
def shaped (op n : Int) (name : ByteArray) (k : Nat) : Bool :=
  (arity op).2 && (k == (arity op).1) && ((!(name.size == 0)) == named op) && shapedN op n
mutual
def valE : Ex → Nat → Nat
  | .mk op n name l, lv => if lv = 32 then 5 else if shaped op n name l.length then (if name.size ≠ 0 ∧ nameB name = false then 10 else valK l (lv + 1)) else 1
def valK : List Ex → Nat → Nat
  | [], _ => 0
  | x :: l, lv => if valE x lv = 0 then valK l lv else valE x lv
end
mutual
def smE : Ex → Ex → Bool
  | .mk op n s l, .mk op' n' s' l' => (op == op') && (n == n') && eqB s s' && (l.length == l'.length) && smK l l'
def smK : List Ex → List Ex → Bool
  | x :: l, y :: l' => smE x y && smK l l'
  | _, _ => true
end
mutual
def nmE : Ex → List ByteArray → List ByteArray
  | .mk op _ s l, acc => nmK l (if named op && !(acc.any fun t => eqB t s) then acc ++ [s] else acc)
def nmK : List Ex → List ByteArray → List ByteArray
  | [], acc => acc
  | x :: l, acc => nmK l (nmE x acc)
end
end Go.Proofs.YtbiiempgefjkiaaDoor.Ar
