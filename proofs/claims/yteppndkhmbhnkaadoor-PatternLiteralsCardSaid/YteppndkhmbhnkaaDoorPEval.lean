/- pattern: awake's values. -/
import Derived.Test.YteppndkhmbhnkaaDoorPRuns
namespace Go.Proofs.YteppndkhmbhnkaaDoor
open Go.RowKit
set_option linter.unusedVariables false

def pA : List It := [⟨1, [97], false, []⟩, ⟨3, [], false, []⟩, ⟨4, [], true, [(48, 57)]⟩]
set_option maxRecDepth 1000000 in
theorem ev1 : compileL [⟨[97, 42, 91, 33, 48, 45, 57, 93], 0⟩] = pA := by
  unfold compileL
  rw [show charsOf [⟨[97, 42, 91, 33, 48, 45, 57, 93], 0⟩] = ([⟨97, true⟩, ⟨42, true⟩, ⟨91, true⟩, ⟨33, true⟩, ⟨48, true⟩, ⟨45, true⟩, ⟨57, true⟩, ⟨93, true⟩] : List Ch) from by rfl]
  rw [compL_at _ _ (by decide), show itemL ([⟨97, true⟩, ⟨42, true⟩, ⟨91, true⟩, ⟨33, true⟩, ⟨48, true⟩, ⟨45, true⟩, ⟨57, true⟩, ⟨93, true⟩] : List Ch) 0 = (⟨1, [97], false, []⟩, 1) from by kernel_rfl]
  rw [compL_at _ _ (by decide), show itemL ([⟨97, true⟩, ⟨42, true⟩, ⟨91, true⟩, ⟨33, true⟩, ⟨48, true⟩, ⟨45, true⟩, ⟨57, true⟩, ⟨93, true⟩] : List Ch) (0 + 1) = (⟨3, [], false, []⟩, 1) from by kernel_rfl]
  rw [compL_at _ _ (by decide), show itemL ([⟨97, true⟩, ⟨42, true⟩, ⟨91, true⟩, ⟨33, true⟩, ⟨48, true⟩, ⟨45, true⟩, ⟨57, true⟩, ⟨93, true⟩] : List Ch) (0 + 1 + 1) = (⟨4, [], true, [(48, 57)]⟩, 6) from by kernel_rfl]
  rw [compL_end _ _ (by decide)]
  rfl
def pB : List It := [⟨1, [97], false, []⟩, ⟨3, [], false, []⟩]
theorem ev2 : compileL [⟨[97, 42], 0⟩] = pB := by
  unfold compileL
  rw [show charsOf [⟨[97, 42], 0⟩] = ([⟨97, true⟩, ⟨42, true⟩] : List Ch) from by rfl]
  rw [compL_at _ _ (by decide), show itemL ([⟨97, true⟩, ⟨42, true⟩] : List Ch) 0 = (⟨1, [97], false, []⟩, 1) from by kernel_rfl]
  rw [compL_at _ _ (by decide), show itemL ([⟨97, true⟩, ⟨42, true⟩] : List Ch) (0 + 1) = (⟨3, [], false, []⟩, 1) from by kernel_rfl]
  rw [compL_end _ _ (by decide)]
  rfl
def pC : List It := [⟨3, [], false, []⟩, ⟨1, [99], false, []⟩]
theorem ev3 : compileL [⟨[42, 99], 0⟩] = pC := by
  unfold compileL
  rw [show charsOf [⟨[42, 99], 0⟩] = ([⟨42, true⟩, ⟨99, true⟩] : List Ch) from by rfl]
  rw [compL_at _ _ (by decide), show itemL ([⟨42, true⟩, ⟨99, true⟩] : List Ch) 0 = (⟨3, [], false, []⟩, 1) from by kernel_rfl]
  rw [compL_at _ _ (by decide), show itemL ([⟨42, true⟩, ⟨99, true⟩] : List Ch) (0 + 1) = (⟨1, [99], false, []⟩, 1) from by kernel_rfl]
  rw [compL_end _ _ (by decide)]
  rfl
def pD : List It := [⟨1, [97], false, []⟩, ⟨1, [42], false, []⟩]
theorem ev4 : compileL [⟨[97, 42], 1⟩] = pD := by
  unfold compileL
  rw [show charsOf [⟨[97, 42], 1⟩] = ([⟨97, false⟩, ⟨42, false⟩] : List Ch) from by rfl]
  rw [compL_at _ _ (by decide), show itemL ([⟨97, false⟩, ⟨42, false⟩] : List Ch) 0 = (⟨1, [97], false, []⟩, 1) from by kernel_rfl]
  rw [compL_at _ _ (by decide), show itemL ([⟨97, false⟩, ⟨42, false⟩] : List Ch) (0 + 1) = (⟨1, [42], false, []⟩, 1) from by kernel_rfl]
  rw [compL_end _ _ (by decide)]
  rfl
theorem ev5 : compileL [⟨[91, 97, 93], 0⟩] = [⟨4, [], false, [(97, 97)]⟩] := by
  unfold compileL
  rw [show charsOf [⟨[91, 97, 93], 0⟩] = ([⟨91, true⟩, ⟨97, true⟩, ⟨93, true⟩] : List Ch) from by rfl]
  rw [compL_at _ _ (by decide), show itemL ([⟨91, true⟩, ⟨97, true⟩, ⟨93, true⟩] : List Ch) 0 = (⟨4, [], false, [(97, 97)]⟩, 3) from by kernel_rfl]
  rw [compL_end _ _ (by decide)]
theorem ev6 : compileL [⟨[91, 97], 0⟩] = [⟨1, [91], false, []⟩, ⟨1, [97], false, []⟩] := by
  unfold compileL
  rw [show charsOf [⟨[91, 97], 0⟩] = ([⟨91, true⟩, ⟨97, true⟩] : List Ch) from by rfl]
  rw [compL_at _ _ (by decide), show itemL ([⟨91, true⟩, ⟨97, true⟩] : List Ch) 0 = (⟨1, [91], false, []⟩, 1) from by kernel_rfl]
  rw [compL_at _ _ (by decide), show itemL ([⟨91, true⟩, ⟨97, true⟩] : List Ch) (0 + 1) = (⟨1, [97], false, []⟩, 1) from by kernel_rfl]
  rw [compL_end _ _ (by decide)]
theorem ev7 : preL pB [97, 98, 99] true = (3, true) := by kernel_rfl
theorem ev8 : sufL pC [97, 98, 99] false = (1, true) := by kernel_rfl
theorem ev9 : litL pD = ([97, 42], true) := by kernel_rfl
theorem ev10 : mtL pA [97, 49, 98] = true := by kernel_rfl
theorem ev11 : mtL pA [97, 49] = false := by kernel_rfl
theorem ev12 : 0 < (runsL pA).length := by
  have : (runsL pA).length = 8 := by kernel_rfl
  omega
end Go.Proofs.YteppndkhmbhnkaaDoor
