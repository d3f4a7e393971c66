/- arith: the examples. -/
import Derived.Test.YtbiiempgefjkiaaDoorArR6
import Derived.Test.YtbiiempgefjkiaaDoorArU8
import Derived.Test.YtbiiempgefjkiaaDoorArN3
import Derived.Test.YtbiiempgefjkiaaDoorArW
namespace Go.Proofs.YtbiiempgefjkiaaDoor.Ar
open Go.RowKit
set_option linter.unusedVariables false

def kA : List Ex := [.mk 10 0 ⟨#[]⟩ [.mk 1 1 ⟨#[]⟩ [], .mk 1 2 ⟨#[]⟩ []], .mk 1 3 ⟨#[]⟩ []]
def kB : List Ex := [.mk 26 10 ⟨#[98]⟩ [.mk 1 2 ⟨#[]⟩ []]]
set_option maxRecDepth 100000 in
theorem pA : parF 100 ⟨#[40, 49, 43, 50, 41, 42, 51]⟩ = some (.mk 7 0 ⟨#[]⟩ kA, 0, 0) := by kernel_rfl
set_option maxRecDepth 100000 in
theorem pB : parF 100 ⟨#[97, 43, 98, 61, 50]⟩ = some (.mk 0 0 ⟨#[]⟩ [], 3, 6) := by kernel_rfl
set_option maxRecDepth 100000 in
theorem pC : parF 100 ⟨#[97, 61, 98, 43, 61, 50]⟩ = some (.mk 26 0 ⟨#[97]⟩ kB, 0, 0) := by kernel_rfl
theorem sA : showL (.mk 7 0 ⟨#[]⟩ kA) = ([40, 49, 32, 43, 32, 50, 41, 32, 42, 32, 51], 0) := by kernel_rfl
theorem nB : nmE (.mk 26 0 ⟨#[97]⟩ kB) [] = [⟨#[97]⟩, ⟨#[98]⟩] := by kernel_rfl
theorem mA : smE (.mk 7 0 ⟨#[]⟩ kA) (.mk 7 0 ⟨#[]⟩ kA) = true := by kernel_rfl
theorem mAB : smE (.mk 7 0 ⟨#[]⟩ kA) (.mk 26 0 ⟨#[97]⟩ kB) = false := by kernel_rfl
theorem vA : valE (.mk 7 0 ⟨#[]⟩ kA) 0 = 0 := by kernel_rfl
theorem vZ : valE (.mk 0 0 ⟨#[]⟩ []) 0 = 1 := by kernel_rfl
theorem lA : (wrapS 1 ((7 : Int), bare (.mk 7 0 ⟨#[]⟩ kA))).length ≤ 1000000000 := by
  rw [show (wrapS 1 ((7 : Int), bare (.mk 7 0 ⟨#[]⟩ kA))).length = 11 by kernel_rfl]; omega
/-- The last three parts of the node's value. -/
theorem Parse_k {s : ByteArray} {K : List Ex} {op n : Int} {nm : ByteArray} {a e : Nat} (k : Nat) (w : World) (hR : parF 100 s = some (.mk op n nm K, a, e)) (hk : K.length = k) (hE : Env w) :
    Calls Tryd.prog 19 #[.string s] w fun r w' => ∃ A c, r = .returned (.tuple #[.agg #[.int .i64 op, .int .i64 n, .string nm, .slice A k c], .int .i64 a, .int .i64 e]) ∧ KidsIn w' w'.heap.size K A ∧ k ≤ c ∧ c ≤ maxLen ∧ Below w.heap.size w w' := by
  subst hk
  refine (Parse_c 100 s _ a e w hR hE).mono ?_
  rintro r w' ⟨⟨v, rfl, hx⟩, hb⟩
  obtain ⟨A, c, rfl, h1, h2, h3⟩ := ex_open hx
  exact ⟨A, c, rfl, kids_keep (fun b hb => hb.2) (fun _ _ _ => rfl) h3, h1, h2, hb⟩
theorem wfA : wfE (.mk 7 0 ⟨#[]⟩ kA) := by simp [wfE, wfK, kA, maxLen, ByteArray.size]
theorem wfB : wfE (.mk 26 0 ⟨#[97]⟩ kB) := by simp [wfE, wfK, kB, maxLen, ByteArray.size]
end Go.Proofs.YtbiiempgefjkiaaDoor.Ar
