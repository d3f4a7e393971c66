/- arith: the printer as a plain function. -/
import Derived.Test.YtbiiempgefjkiaaDoorArM
import Derived.Lib.ItoaNum
namespace Go.Proofs.YtbiiempgefjkiaaDoor.Ar
set_option linter.unusedVariables false

def bytesOf (s : ByteArray) : List UInt8 := s.data.toList
def decD : Nat → Nat → List UInt8
  | 0, u => [UInt8.ofNat (48 + u)]
  | f + 1, u => if u < 10 then [UInt8.ofNat (48 + u)] else decD f (u / 10) ++ [UInt8.ofNat (48 + u % 10)]
def decI (n : Int) : List UInt8 := if n < 0 then 45 :: decD 25 n.natAbs else decD 25 n.toNat
theorem decD_eq : ∀ (f u : Nat), u < 10 ^ (f + 1) → decD f u = Lib.decDigits u
  | 0, u, h => by rw [decD, Lib.decDigits, dif_pos (by simpa using h)]
  | f + 1, u, h => by
    rw [decD, Lib.decDigits]
    by_cases h1 : u < 10
    · rw [if_pos h1, dif_pos h1]
    · rw [if_neg h1, dif_neg h1, decD_eq f (u / 10) (by rw [Nat.pow_succ] at h; omega)]
theorem decI_eq (n : Int) (h : n.natAbs < 10 ^ 26) : decI n = Lib.itoa n := by
  unfold decI Lib.itoa
  split
  · rw [decD_eq 25 _ h]
  · rw [decD_eq 25 _ (by omega)]
/-- An operand where a level is required. -/
def wrapS (lv : Nat) (k : Int × List UInt8) : List UInt8 := if lv ≤ lvOf k.1 then k.2 else 40 :: (k.2 ++ [41])
def kid (K : List (Int × List UInt8)) (i : Nat) : Int × List UInt8 := K.getD i (1, [])
def combS (op n : Int) (s : ByteArray) (K : List (Int × List UInt8)) : List UInt8 :=
  if lvOf op = 1 then bytesOf s ++ [32] ++ bytesOf (binOf n).1.t ++ [61, 32] ++ wrapS 1 (kid K 0)
  else if lvOf op = 2 then wrapS 3 (kid K 0) ++ [32, 63, 32] ++ wrapS 1 (kid K 1) ++ [32, 58, 32] ++ wrapS 2 (kid K 2)
  else if lvOf op = 13 then bytesOf (unaTx op) ++ wrapS 13 (kid K 0)
  else if lvOf op = 14 then (if op == 2 then bytesOf s else decI n)
  else wrapS (binOf op).1.lv (kid K 0) ++ [32] ++ bytesOf (binOf op).1.t ++ [32] ++ wrapS ((binOf op).1.lv + 1) (kid K 1)
mutual
def bare : Ex → List UInt8
  | .mk op n s l => combS op n s (bareK l)
def bareK : List Ex → List (Int × List UInt8)
  | [] => []
  | x :: r => (x.op, bare x) :: bareK r
end
def showL (x : Ex) : List UInt8 × Nat :=
  if valE x 0 = 0 then if 4096 < (wrapS 1 (x.op, bare x)).length then ([], 3) else (wrapS 1 (x.op, bare x), 0) else ([], valE x 0)
end Go.Proofs.YtbiiempgefjkiaaDoor.Ar
