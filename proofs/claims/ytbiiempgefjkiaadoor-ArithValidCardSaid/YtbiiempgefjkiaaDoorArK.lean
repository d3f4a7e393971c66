/- What the cards of arith share: the world of the witness, the table of the operators, the powers of ten, an expression as an argument. -/
import Derived.Test.YtbiiempgefjkiaaDoorArgs
import Derived.Test.YtbiiempgefjkiaaDoorCards
import Derived.Test.YtbiiempgefjkiaaDoorTie
import Derived.Test.YtbiiempgefjkiaaDoorArU1
import Derived.Deep.DeepHandedRow
import Derived.Lib.LaidTab
import Derived.Lib.LaidU8T
import Derived.Lib.LaidIn
import Derived.Lib.ItoaNum
import Derived.Stop.LaidErr
import Derived.Lib.TrailingZeros
namespace Go.Proofs.YtbiiempgefjkiaaDoor
open Go.ChangeShapes Go.WideShapes Go.ChangeAt Go.RowKit Go.Lib
set_option linter.unusedVariables false
set_option linter.constructorNameAsVariable false
set_option maxRecDepth 10000

/-- What the rows list. -/
noncomputable def laidL : List (String × DataW Unit) := [("math/bits.deBruijn32tab", Rows.laid_math_bits_deBruijn32tab), ("math/bits.deBruijn64tab", Rows.laid_math_bits_deBruijn64tab), ("internal/strconv.uint64pow10", Rows.laid_internal_strconv_uint64pow10), ("jobshell/arith.binaries", Rows.laid_jobshell_arith_binaries)]
/-- The settled world, the tables holding what their initialisers lay. -/
noncomputable def laidWorld (os : Os) : World :=
  let w0 := World.holding Tryd.prog os ⟨#[], #[], []⟩
  let put (h : Array Obj) (g : Nat) (cs : Array Value) : Array Obj := h.modify g fun
    | .cells _ t frozen => .cells cs t frozen
    | o => o
  let h3 := put w0.heap 2 (Lib.deBruijn32tab.map fun z : Nat => Value.int .u8 (z : Int)).toArray
  let h4 := put h3 3 (Lib.deBruijn64tab.map fun z : Nat => Value.int .u8 (z : Int)).toArray
  let h5 := put h4 1 (Lib.pow10Tab.map fun z => Value.int .u64 z).toArray
  let h6 := put h5 0 Ar.tabA
  { w0 with heap := h6 }
def bnD (b : Ar.Bn) : DataW Unit := .agg [.lit (.string b.t.data.toList), .lit (.int .i64 b.op), .lit (.int .i64 b.lv), .lit (.bool b.as)]
noncomputable def laidL2 : List (String × DataW Unit) := [("math/bits.deBruijn32tab", Rows.laid_math_bits_deBruijn32tab), ("math/bits.deBruijn64tab", Rows.laid_math_bits_deBruijn64tab), ("internal/strconv.uint64pow10", Lib.tabData .u64 Lib.pow10Tab), ("jobshell/arith.binaries", .agg (Ar.binL.map bnD))]
theorem laidL_eq : laidL = laidL2 := by kernel_rfl
theorem laid_met (os : Os) (args : Array Value) : laidMet Tryd.prog laidL ((laidWorld os).forCall (fun _ _ => 0) ⟨#[], args, []⟩).memory := by
  rw [laidL_eq]
  exact (LaidIn.of_run (l := laidL2) [2, 3, 1, 0] 8 (by kernel_rfl) (by kernel_rfl) (by kernel_rfl) (by kernel_rfl)).met
/-- The table of the operators, and the powers of ten. -/
def Env (W : World) (_ : Nat) : Prop := Ar.Env W ∧ Ar.Tab W
theorem take1' {α : Type} {l : List α} {k : Nat} {x : α} (h : (l.drop k).take 1 = [x]) : l[k]? = some x := by
  have h1 : ((l.drop k).take 1)[0]? = some x := by rw [h]; rfl
  rw [List.getElem?_take_of_lt (by omega), List.getElem?_drop] at h1
  simpa using h1
/-- A struct of a string, two numbers and a truth value. -/
theorem bn_of_struct {P : Program} {w : World} {fuel : Nat} {t : TypeId} {fs : Array Field} {cs : List Value} {b : Ar.Bn} {p : List MemPlace} (f0 f1 f2 f3 : Field) (ht : P.underlying t = some (.struct fs)) (hn : fs = #[f0, f1, f2, f3])
    (u0 : P.underlying f0.type = some .string) (u1 : P.underlying f1.type = some (.int .i64)) (u2 : P.underlying f2.type = some (.int .i64)) (u3 : P.underlying f3.type = some .bool)
    (o0 : f0.offset = 0) (o1 : f1.offset = 1) (o2 : f2.offset = 2) (o3 : f3.offset = 3) (c0 : P.cellsOf f0.type = 1) (c1 : P.cellsOf f1.type = 1) (c2 : P.cellsOf f2.type = 1) (c3 : P.cellsOf f3.type = 1) (hc : P.cellsOf t = 4)
    (h : DataW.trod (fun _ => ()) P w 0 (fun _ => true) false fuel t cs = some (bnD b, p)) : cs = Ar.bnC b := by
  subst hn
  obtain ⟨xs, n, rfl, hx, hl, hxl, hall⟩ := DataW.trod_struct ht h
  rw [hc] at hl
  obtain ⟨v0, v1, v2, v3, rfl⟩ : ∃ v0 v1 v2 v3, cs = [v0, v1, v2, v3] := by
    match cs, hl with
    | [a, b, c, d], _ => exact ⟨a, b, c, d, rfl⟩
  obtain ⟨x0, x1, x2, x3, rfl⟩ : ∃ x0 x1 x2 x3, xs = [x0, x1, x2, x3] := by
    match xs, hxl with
    | [a, b, c, d], _ => exact ⟨a, b, c, d, rfl⟩
  have g0 := hall 0 f0 rfl
  have g1 := hall 1 f1 rfl
  have g2 := hall 2 f2 rfl
  have g3 := hall 3 f3 rfl
  rw [o0, c0] at g0
  rw [o1, c1] at g1
  rw [o2, c2] at g2
  rw [o3, c3] at g3
  obtain ⟨s, e0, r0, _⟩ := DataW.trod_string u0 g0
  obtain ⟨m1, e1, r1, _⟩ := DataW.trod_int u1 g1
  obtain ⟨m2, e2, r2, _⟩ := DataW.trod_int u2 g2
  obtain ⟨bb, e3, r3⟩ := DataW.trod_bool u3 g3
  have t0 := take1' e0
  have t1 := take1' e1
  have t2 := take1' e2
  have t3 := take1' e3
  simp at t0 t1 t2 t3
  subst t0 t1 t2 t3
  have hx1 := congrArg Prod.fst hx
  subst r0 r1 r2 r3
  simp only [bnD, List.map_cons, List.map_nil, DataW.agg.injEq, List.cons.injEq, DataW.lit.injEq, Lit.string.injEq, Lit.int.injEq, Lit.bool.injEq, true_and, and_true] at hx1
  obtain ⟨q0, q1, q2, q3⟩ := hx1
  unfold Ar.bnC
  rw [show s = b.t from (ByteArray.ext (Array.toList_inj.1 q0)).symm, ← q1, ← q2, ← q3]
theorem flat_eq : ∀ (l : List Ar.Bn) (cs : List Value), cs.length = l.length * 4 → (∀ i (h : i < l.length), (cs.drop (i * 4)).take 4 = Ar.bnC l[i]) → cs = l.flatMap Ar.bnC
  | [], cs, hl, _ => List.eq_nil_of_length_eq_zero (by simpa using hl)
  | b :: r, cs, hl, h => by
    rw [List.flatMap_cons, ← flat_eq r (cs.drop 4) (by rw [List.length_drop, hl, List.length_cons]; omega) (fun i hi => by
      have := h (i + 1) (by simp; omega)
      rw [List.drop_drop]
      rw [show 4 + i * 4 = (i + 1) * 4 by omega]
      simpa using this)]
    have h0 := h 0 (by simp)
    simp only [Nat.zero_mul, List.drop_zero, List.getElem_cons_zero] at h0
    rw [← h0, List.take_append_drop]
theorem env_of {W : World} (hL : laidMetH Tryd.prog laidL W) (hsh : W.ShapedOpen Tryd.prog) : Env W W.heap.size := by
  have hL2 : laidMet Tryd.prog laidL W := hL
  rw [laidL_eq] at hL2
  refine ⟨?_, Lib.tabIs_of_head (g := 1) (t := 109) (e := 86) (n := 20) (by kernel_rfl) (by kernel_rfl) (by kernel_rfl) (by kernel_rfl) (by kernel_rfl) (by kernel_rfl) (laidMet.tail (laidMet.tail hL2))⟩
  obtain ⟨g, t, cs, fuel, p, h1, h2, h3, h4⟩ := Lib.laidMet.reads hL2 (.tail _ (.tail _ (.tail _ (.head _))))
  have e1 : Tryd.prog.globalNamed "jobshell/arith.binaries" = some 0 := by kernel_rfl
  rw [e1] at h1
  injection h1 with h1
  subst h1
  have e2 : (Tryd.prog.globals[0]?).map (·.type) = some 93 := by kernel_rfl
  rw [e2] at h2
  injection h2 with h2
  subst h2
  have hlen : cs.toList.length = 72 := by
    obtain ⟨xs, m, _, _, hl, _⟩ := DataW.trod_array Tryd.underlying93 h4
    rw [hl]; kernel_rfl
  have hcs : cs.toList = Ar.binL.flatMap Ar.bnC := by
    refine flat_eq Ar.binL cs.toList (by rw [hlen]; rfl) (fun i hi => ?_)
    obtain ⟨f', d, q, hd, htr⟩ := array_elem Tryd.underlying93 h4 i hi
    rw [List.getElem?_map, List.getElem?_eq_getElem hi] at hd
    simp only [Option.map_some, Option.some.injEq] at hd
    subst hd
    rw [show Tryd.prog.cellsOf 82 = 4 from by kernel_rfl] at htr
    exact bn_of_struct _ _ _ _ Tryd.underlying82 rfl (by kernel_rfl) (by kernel_rfl) (by kernel_rfl) (by kernel_rfl) rfl rfl rfl rfl (by kernel_rfl) (by kernel_rfl) (by kernel_rfl) (by kernel_rfl) (by kernel_rfl) htr
  have hh : cs = Ar.tabA := by
    unfold Ar.tabA
    rw [← hcs]
  simp only [World.var?, e1, Option.bind_some] at h3
  split at h3
  · rename_i cs' t' fr' hc
    injection h3 with h3
    subst h3
    rw [hh] at hc
    exact ⟨t', fr', hc⟩
  · cases h3
/-- An expression as an argument. -/
theorem open_expr {H : Type} {enc : TypeId × Value → H} {W : World} {base : Nat} {r : Reach} {v : Value} {d : DataW H} {p : List MemPlace} (hv : Value.okWide Tryd.prog W r base 24 v) (h : DataW.Trod enc Tryd.prog W 0 (fun _ => true) true 24 v d p) :
    ∃ (x : Ar.Ex) (A : Option Addr) (c : Nat), v = x.val A c ∧ Ar.KidsIn W W.heap.size x.kids A ∧ x.kids.length ≤ c ∧ c ≤ maxLen ∧ Ar.wfE x := by
  obtain ⟨fuel, hf⟩ := h
  have hv4 : ∃ a b c e, v = .agg #[a, b, c, e] := by
    obtain ⟨⟨l⟩, rfl, hsz⟩ := okWide_struct Tryd.underlying24 hv
    match l, hsz.trans (show Tryd.prog.cellsOf 24 = 4 by kernel_rfl) with
    | [a, b, c, e], _ => exact ⟨a, b, c, e, rfl⟩
  obtain ⟨a, b, c, e, hv4⟩ := hv4
  obtain ⟨x, hx, hwf⟩ := Ar.open_ex (P := Tryd.prog) (tS := 22) (tE := 24) (tI := 3) (tO := 3) (tN := 9) ⟨Tryd.underlying22, Tryd.underlying24, by kernel_rfl, by kernel_rfl, by kernel_rfl, by kernel_rfl, by kernel_rfl, by kernel_rfl, by kernel_rfl, by kernel_rfl, ⟨_, rfl, rfl, rfl⟩, ⟨_, rfl, rfl, rfl⟩, ⟨_, rfl, rfl, rfl⟩, ⟨_, rfl, rfl, rfl⟩⟩ hv4 ⟨fuel, hf⟩
  obtain ⟨A, c', h1, h2, h3, h4⟩ := hx
  exact ⟨x, A, c', h1, h4, h2, h3, hwf⟩
end Go.Proofs.YtbiiempgefjkiaaDoor
