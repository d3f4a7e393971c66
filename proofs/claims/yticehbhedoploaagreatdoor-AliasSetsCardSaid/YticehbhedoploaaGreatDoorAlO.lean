/- alias: arguments: slices of aliases, with the form's own reach. -/
import Derived.Test.YticehbhedoploaaGreatDoorArgs
import Derived.Test.YticehbhedoploaaGreatDoorAlA
import Derived.SizedLaws
namespace Go.Proofs.YticehbhedoploaaGreatDoor
open Go.ChangeShapes Go.WideShapes Go.Deep Go.RowKit
set_option linter.unusedVariables false

section
variable {H : Type} {enc : TypeId × Value → H} {P : Program} {w : World} {base : Nat} {spare : Nat → Bool} {held : Bool}
theorem weights_all {e : TypeId} : ∀ {ds : List (DataW H)} {d : DataW H}, d ∈ ds → ∀ n ∈ d.weights P e, n ∈ DataW.weightsAll P e ds
  | d0 :: ds, d, hd, n, hn => by
    simp only [DataW.weightsAll, List.mem_append]
    rcases List.mem_cons.1 hd with rfl | hd
    · exact .inl hn
    · exact .inr (weights_all hd n hn)
  | [], _, hd, _, _ => by simp at hd
theorem open_fieldsW {t e : TypeId} {fs : Array Field} {fuel K : Nat} {cs : List Value} {x : DataW H × List MemPlace} (ht : P.underlying t = some (.slice e)) (he : P.underlying e = some (.struct fs))
    (hone : oneCellFields P fs = true) (hC : P.cellsOf e = fs.size) (h : DataW.trod enc P w base spare held fuel t cs = some x) (hK : ∀ n ∈ x.1.weights P t, n ≤ K) :
    cs = [.slice none 0 0] ∨
    ∃ (a : Addr) (len cap : Nat), cs = [.slice (some a) len cap] ∧ len ≤ cap ∧ cap ≤ maxLen ∧
      ∀ i, i < len → ∀ (j : Nat) (f : Field), fs[j]? = some f → ∃ (v : Value) (y : DataW H × List MemPlace) (n : Nat), w.cell? (a.add (i * fs.size + j)) = some v ∧ DataW.trod enc P w base spare held n f.type [v] = some y ∧ ∀ m ∈ y.1.weights P f.type, m ≤ K := by
  rcases open_slice ht h with h0 | ⟨a, len, cap, m, n, D, Pl, hcs, hb, hl, hm, hmm, hx, hi⟩
  · exact .inl h0.1
  · refine .inr ⟨a, len, cap, hcs, hl, hm, fun i hil => ?_⟩
    have him : i < m := by rw [hmm]; split <;> omega
    obtain ⟨cs', hc, ht'⟩ := hi i him
    rw [hC] at hc
    obtain ⟨ys, n', hn', hy, hlen, hyl, hf⟩ := DataW.trod_struct he ht'
    obtain ⟨_, hcl, hat⟩ := World.cells?_some hc
    intro j f hj
    obtain ⟨ho, hk⟩ := hone_of hone j f hj
    have hjl : j < fs.size := (Array.getElem?_eq_some_iff.1 hj).1
    have hcell := hat j hjl
    have hv : cs'[j]? = some (cs'[j]'(by omega)) := List.getElem?_eq_getElem (by omega)
    have h1 := hf j f hj
    rw [ho, hk] at h1
    have hone' : (cs'.drop j).take 1 = [cs'[j]'(by omega)] := by
      rw [List.drop_eq_getElem_cons (by omega)]
      rfl
    rw [hone'] at h1
    have hys : ys[j]? = some (ys[j]'(by omega)) := List.getElem?_eq_getElem (by omega)
    refine ⟨_, _, n', ?_, h1.trans hys, fun k hk2 => hK k ?_⟩
    · rw [← Go.Deep.add_add, hcell, hv]
    · have hD : D i = .agg (ys.map (·.1)) := congrArg Prod.fst hy
      have h2 : k ∈ (D i).weights P e := by
        rw [hD]
        simp only [DataW.weights, he]
        exact DataW.weights_mem_each (j := j) (t := f.type) (d := (ys[j]'(by omega)).1) (by simp [List.getElem?_map, hj]) (by rw [List.getElem?_map, hys]; rfl) k hk2
      rw [hx]
      simp only [DataW.weights, ht, List.mem_cons, List.mem_append]
      exact .inr (.inl (weights_all (List.mem_map.2 ⟨i, List.mem_range.2 hil, rfl⟩) k h2))
end
theorem alCellsN : Tryz.prog.cellsOf 47 = 2 := by kernel_rfl
set_option maxRecDepth 100000 in
theorem open_aliases {H : Type} {enc : TypeId × Value → H} {W : World} {base K : Nat} {r : Reach} {v : Value} {d : DataW H} {p : List MemPlace} (hv : Value.okWide Tryz.prog W r base 22 v) (h : DataW.Trod enc Tryz.prog W 0 (fun _ => true) true 22 v d p)
    (hK : ∀ n ∈ d.weights Tryz.prog 22, n ≤ K) :
    ∃ (A : Option Addr) (c : Nat) (l : List Al), v = .slice A l.length c ∧ AlAt W W.heap.size A l ∧ (A = none → l = [] ∧ c = 0) ∧ l.length ≤ c ∧ c ≤ maxLen ∧ ∀ x ∈ l, x.n.size ≤ K ∧ x.v.size ≤ K := by
  obtain ⟨A, len, cap, rfl⟩ := okWide_slice Tryz.underlying22 hv
  obtain ⟨fuel, hf⟩ := h
  rcases open_fieldsW Tryz.underlying22 Tryz.underlying47 (by kernel_rfl) alCellsN (by simpa [Value.cells] using hf) hK with h0 | ⟨a, len', cap', hcs, hl, hm, hi⟩
  · simp at h0
    obtain ⟨rfl, rfl, rfl⟩ := h0
    exact ⟨none, 0, [], rfl, .inl rfl, fun _ => ⟨rfl, rfl⟩, by simp, by simp [maxLen], by simp⟩
  · simp only [List.cons.injEq, Value.slice.injEq, and_true] at hcs
    obtain ⟨rfl, rfl, rfl⟩ := hcs
    have key : ∀ i, i < len → ∃ e : Al, (W.cell? (a.add (i * 2)) = some (.string e.n) ∧ W.cell? (a.add (i * 2 + 1)) = some (.string e.v)) ∧ e.n.size ≤ K ∧ e.v.size ≤ K := by
      intro i him
      obtain ⟨v0, y0, n0, k0, t0, w0⟩ := hi i him 0 _ rfl
      obtain ⟨v1, y1, n1, k1, t1, w1⟩ := hi i him 1 _ rfl
      obtain ⟨s, e0, e2, hs⟩ := DataW.trod_string Tryz.underlying9 t0
      obtain ⟨f, e1, e3, hf⟩ := DataW.trod_string Tryz.underlying9 t1
      simp only [List.cons.injEq, and_true] at e0 e1
      subst e0; subst e1
      refine ⟨⟨s, f⟩, ⟨k0, k1⟩, ?_, ?_⟩
      · have := w0 s.data.toList.length (by
          rw [e2]
          simp [DataW.weights])
        simpa using this
      · have := w1 f.data.toList.length (by
          rw [e3]
          simp [DataW.weights])
        simpa using this
    obtain ⟨es, he, hp⟩ := list_of len key
    refine ⟨some a, cap, es, by rw [he], ?_, fun h => by (cases h), by omega, hm, fun e hme => ?_⟩
    · rcases es with _ | ⟨e0, es⟩
      · exact .inl rfl
      · obtain ⟨⟨z0, _⟩, _⟩ := hp 0 e0 rfl
        obtain ⟨b, off, spot⟩ := a
        have hspot : spot = none := by simpa [Addr.add] using World.cell?_spot z0
        subst hspot
        have hlt := World.block_lt_of_cell? W _ z0
        refine .inr ⟨b, off, rfl, by simpa [Addr.add] using hlt, fun i hie => ?_⟩
        obtain ⟨⟨c0, c1⟩, _⟩ := hp i _ (List.getElem?_eq_getElem hie)
        rw [add_plain] at c0 c1
        exact ⟨c0, c1⟩
    · obtain ⟨i, hi, rfl⟩ := List.getElem_of_mem hme
      exact (hp i _ (List.getElem?_eq_getElem hi)).2
end Go.Proofs.YticehbhedoploaaGreatDoor
