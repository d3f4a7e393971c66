/- alias: the examples. -/
import Derived.Test.YticehbhedoploaaGreatDoorAlW
namespace Go.Proofs.YticehbhedoploaaGreatDoor
open Go.RowKit
set_option linter.unusedVariables false

def bA (l : List UInt8) : ByteArray := ⟨l.toArray⟩
def exL1 : List Al := [⟨bA [108, 108], bA [108, 115, 32, 45, 108]⟩]
def exL2 : List Al := [⟨bA [108, 108], bA [108, 115, 32, 45, 108]⟩, ⟨bA [115, 117, 100, 111], bA [115, 117, 100, 111, 32]⟩]
def exS : ByteArray := bA [105, 102, 32, 108, 108, 32, 97, 59, 32, 101, 99, 104, 111, 32, 108, 108, 59, 32, 115, 117, 100, 111, 32, 108, 108]
def exR : List UInt8 := [105, 102, 32, 108, 115, 32, 45, 108, 32, 97, 59, 32, 101, 99, 104, 111, 32, 108, 108, 59, 32, 115, 117, 100, 111, 32, 32, 108, 115, 32, 45, 108]
theorem ex_set1 : setR [] (bA [108, 108]) (bA [108, 115, 32, 45, 108]) = (exL1, 0) := by kernel_rfl
theorem ex_set2 : setR exL1 (bA [115, 117, 100, 111]) (bA [115, 117, 100, 111, 32]) = (exL2, 0) := by kernel_rfl
theorem ex_valid : valL exL2 = 0 := by kernel_rfl
theorem ex_get : getL exL2 (bA [108, 108]) = (bA [108, 115, 32, 45, 108], true) := by kernel_rfl
theorem ex_unset : (unsetR exL2 (bA [108, 108])).2 = 0 ∧ (unsetR exL2 (bA [108, 108])).1.length = 1 := ⟨by kernel_rfl, by kernel_rfl⟩
theorem ex_bad : valL [⟨bA [105, 102], bA []⟩] = 10 := by kernel_rfl
theorem ex_run : ((runX 40 exL2 (startX exS)).map fun z => (z.done, z.rest.data.toList)) = some (exR, []) := by kernel_rfl
end Go.Proofs.YticehbhedoploaaGreatDoor
