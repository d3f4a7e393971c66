/- What the cards of pattern share: the world of the witness, and what the listed table gives. -/
import Derived.Test.YteppndkhmbhnkaaDoorArgs
import Derived.Test.YteppndkhmbhnkaaDoorCards
import Derived.Test.YteppndkhmbhnkaaDoorTie
import Derived.Test.YteppndkhmbhnkaaDoorPAwk
import Derived.Deep.DeepHandedRow
import Derived.Lib.LaidTab
import Derived.Lib.LaidU8T
import Derived.Lib.LaidIn
namespace Go.Proofs.YteppndkhmbhnkaaDoor
open Go.ChangeShapes Go.WideShapes Go.ChangeAt Go.RowKit Go.Lib
set_option linter.unusedVariables false

/-- What the rows list. -/
def clsData : DataW Unit := .agg ((List.range 8).map fun i => .agg [.lit (.string (classT i)), .lit (.string (classR i))])
noncomputable def laidL : List (String × DataW Unit) := [("jobshell/pattern.classes", Rows.laid_jobshell_pattern_classes)]
/-- The settled world, the table holding what its initialiser lays. -/
noncomputable def laidWorld (os : Os) : World :=
  let w0 := World.holding Tryd.prog os ⟨#[], #[], []⟩
  let put (h : Array Obj) (g : Nat) (cs : Array Value) : Array Obj := h.modify g fun
    | .cells _ t frozen => .cells cs t frozen
    | o => o
  let h1 := put w0.heap 0 ((List.range 8).flatMap fun i => [strB (classT i), strB (classR i)]).toArray
  { w0 with heap := h1 }
theorem laidL_eq : laidL = [("jobshell/pattern.classes", clsData)] := by kernel_rfl
theorem laid_met (os : Os) (args : Array Value) : laidMet Tryd.prog laidL ((laidWorld os).forCall (fun _ _ => 0) ⟨#[], args, []⟩).memory := by
  rw [laidL_eq]
  exact (LaidIn.of_run (l := [("jobshell/pattern.classes", clsData)]) [0] 8 (by kernel_rfl) (by kernel_rfl) (by kernel_rfl) (by kernel_rfl)).met

theorem strs_of_struct {P : Program} {w : World} {fuel : Nat} {t : TypeId} {fs : Array Field} {cs : List Value} {T R : List UInt8} {p : List MemPlace} (ht : P.underlying t = some (.struct fs)) (hn : fs.size = 2)
    (hf : ∀ (i : Nat) (f : Field), fs[i]? = some f → P.underlying f.type = some .string ∧ f.offset = i ∧ P.cellsOf f.type = 1)
    (h : DataW.trod (fun _ => ()) P w 0 (fun _ => true) false fuel t cs = some (.agg [.lit (.string T), .lit (.string R)], p)) : cs[0]? = some (strB T) ∧ cs[1]? = some (strB R) := by
  obtain ⟨xs, n, rfl, hx, hl, hxl, hall⟩ := DataW.trod_struct ht h
  have hxs : xs.map (·.1) = [.lit (.string T), .lit (.string R)] := by
    have := congrArg Prod.fst hx
    simpa using this.symm
  have key : ∀ (i : Nat) (hi : i < 2) (L : List UInt8), (xs.map (·.1))[i]? = some (.lit (.string L)) → cs[i]? = some (strB L) := by
    intro i hi L hL
    obtain ⟨hu, ho, hc⟩ := hf i (fs[i]'(by omega)) (by simp [hn, hi])
    have h1 := hall i (fs[i]'(by omega)) (by simp [hn, hi])
    obtain ⟨b, hb⟩ : ∃ b, xs[i]? = some b := ⟨xs[i]'(by omega), List.getElem?_eq_getElem (by omega)⟩
    rw [hb, ho, hc] at h1
    obtain ⟨s, hcz, rfl, _⟩ := DataW.trod_string hu h1
    have h2 : cs[i]? = some (.string s) := by
      have := congrArg (·[0]?) hcz
      simpa [List.getElem?_take, List.getElem?_drop] using this
    rw [List.getElem?_map, hb] at hL
    simp only [Option.map_some, Option.some.injEq, DataW.lit.injEq, Lit.string.injEq] at hL
    rw [h2, ← hL]
    unfold strB
    simp
  exact ⟨key 0 (by omega) T (by rw [hxs]; rfl), key 1 (by omega) R (by rw [hxs]; rfl)⟩
theorem env_of {W : World} (hL : laidMetH Tryd.prog laidL W) (hsh : W.ShapedOpen Tryd.prog) : Env W W.heap.size := by
  have hL2 : laidMet Tryd.prog laidL W := hL
  rw [laidL_eq] at hL2
  obtain ⟨g, t, cs, fuel, p, h1, h2, h3, h4⟩ := Lib.laidMet.reads hL2 (.head _)
  have e1 : Tryd.prog.globalNamed "jobshell/pattern.classes" = some 0 := by kernel_rfl
  rw [e1] at h1
  injection h1 with h1
  subst h1
  have e2 : (Tryd.prog.globals[0]?).map (·.type) = some 145 := by kernel_rfl
  rw [e2] at h2
  injection h2 with h2
  subst h2
  have hall : ∀ i, i < 8 → cs[i * 2]? = some (strB (classT i)) ∧ cs[i * 2 + 1]? = some (strB (classR i)) := by
    intro i hi
    obtain ⟨f', d, q, hd, htr⟩ := array_elem Tryd.underlying145 h4 i hi
    rw [List.getElem?_map, List.getElem?_range hi] at hd
    simp only [Option.map_some, Option.some.injEq] at hd
    subst hd
    rw [show Tryd.prog.cellsOf 123 = 2 from by kernel_rfl] at htr
    have hs := strs_of_struct Tryd.underlying123 rfl (fun j f hj => by
      rcases j with _ | _ | j
      · simp at hj; subst hj; exact ⟨by kernel_rfl, by rfl, by kernel_rfl⟩
      · simp at hj; subst hj; exact ⟨by kernel_rfl, by rfl, by kernel_rfl⟩
      · simp at hj) htr
    have a0 := hs.1
    have a1 := hs.2
    simp only [List.getElem?_take, List.getElem?_drop] at a0 a1
    refine ⟨?_, ?_⟩
    · simpa using a0
    · simpa using a1
  have hcell : ∀ i, i < 16 → W.cell? ⟨0, i, none⟩ = cs[i]? := fun i hi => World.var?_cell e1 h3 i
  have h0 := (hcell 0 (by omega)).trans (by have := (hall 0 (by omega)).1; simpa using this)
  refine ⟨World.block_lt_of_cell? W _ h0, fun i hi => ⟨?_, ?_⟩⟩
  · rw [hcell (i * 2) (by omega)]; exact (hall i hi).1
  · rw [hcell (i * 2 + 1) (by omega)]; exact (hall i hi).2
end Go.Proofs.YteppndkhmbhnkaaDoor
