/- The contracts of codec's zigzag, unzigzag. -/
import Derived.Test.YthikmjhjbokppaaProg
import Derived.Test.YthikmjhjbokppaaKMath
import Derived.WalkKit
import Derived.BigCall
import Derived.Lib.Hide
import Derived.Laws.BitsAllLaws
namespace Go.Proofs.Ythikmjhjbokppaa
open Go.RowKit

theorem i64_notI (n : Int) (h0 : -9223372036854775808 ≤ n) (h1 : n ≤ 9223372036854775807) : bits .xor .i64 (-1) n = -1 - n := by
  show IntKind.i64.wrap ((BitVec.ofInt 64 (-1) ^^^ BitVec.ofInt 64 n).toNat : Int) = _
  have e : BitVec.ofInt 64 (-1) = BitVec.allOnes 64 := by decide
  rw [e, BitVec.allOnes_xor, BitVec.toNat_not, BitVec.toNat_ofInt, IntKind.wrap_i64]
  omega

theorem zigzag_c (n : Int) (w : World) (h0 : -9223372036854775808 ≤ n) (h1 : n ≤ 9223372036854775807) :
    Calls Try.prog 40 #[.int .i64 n] w fun e w' => e = .returned (.int .u64 (zz n)) ∧ w = w' := by
  by_cases h : n < 0
  · have e : ((zz n : Nat) : Int) = -2 * n - 1 := by unfold zz; rw [if_pos h]; omega
    rw [e]
    clear e
    have hb := i64_notI n h0 h1
    have hw1 : IntKind.u64.wrap (-1 - n) = -1 - n := IntWalk.u64_in _ (by omega)
    have hw2 : IntKind.u64.wrap (2 * (-1 - n)) = 2 * (-1 - n) := IntWalk.u64_in _ (by omega)
    have hw3 : IntKind.u64.wrap (2 * (-1 - n) + 1) = 2 * (-1 - n) + 1 := IntWalk.u64_in _ (by omega)
    go_enter Try.func40, Try.ntmps40
    go_wp2_with fail
    go_ret
    refine ⟨?_, rfl⟩
    show Ending.returned (Value.int .u64 _) = _
    congr 2
    omega
  · have e : ((zz n : Nat) : Int) = 2 * n := by unfold zz; rw [if_neg h]; omega
    rw [e]
    clear e
    go_enter Try.func40, Try.ntmps40
    go_wp2_with fail
    go_ret
    exact ⟨rfl, rfl⟩
theorem unzigzag_c (z : Nat) (w : World) (h : z < 18446744073709551616) :
    Calls Try.prog 39 #[.int .u64 z] w fun e w' => e = .returned (.int .i64 (unz z)) ∧ w = w' := by
  by_cases h1 : z % 2 = 1
  · rw [show unz z = -((z / 2 : Nat) : Int) - 1 from by unfold unz; rw [if_pos h1]]
    have t1 : ((z : Int) % 2 == 1) = true := by rw [beq_iff_eq]; omega
    have hb := i64_notI ((z : Int) / 2) (by omega) (by omega)
    go_enter Try.func39, Try.ntmps39
    go_wp2_with fail
    go_ret
    refine ⟨?_, rfl⟩
    show Ending.returned (Value.int .i64 _) = _
    congr 2
    omega
  · rw [show unz z = ((z / 2 : Nat) : Int) from by unfold unz; rw [if_neg h1]]
    have t1 : ((z : Int) % 2 == 1) = false := by rw [beq_eq_false_iff_ne]; omega
    go_enter Try.func39, Try.ntmps39
    go_wp2_with fail
    go_ret
    exact ⟨rfl, rfl⟩
end Go.Proofs.Ythikmjhjbokppaa
