/- pattern: arguments: slices of runs and of items, with the form's own reach. -/
import Derived.Test.YteppndkhmbhnkaaDoorArgs
import Derived.Test.YteppndkhmbhnkaaDoorPRead
import Derived.SizedLaws
namespace Go.Proofs.YteppndkhmbhnkaaDoor
open Go.ChangeShapes Go.WideShapes Go.Deep Go.RowKit
set_option linter.unusedVariables false

section
variable {H : Type} {enc : TypeId × Value → H} {P : Program} {w : World} {base : Nat} {spare : Nat → Bool} {held : Bool}
theorem weights_all {e : TypeId} : ∀ {ds : List (DataW H)} {d : DataW H}, d ∈ ds → ∀ n ∈ d.weights P e, n ∈ DataW.weightsAll P e ds
  | d0 :: ds, d, hd, n, hn => by
    simp only [DataW.weightsAll, List.mem_append]
    rcases List.mem_cons.1 hd with rfl | hd
    · exact .inl hn
    · exact .inr (weights_all hd n hn)
  | [], _, hd, _, _ => by simp at hd
theorem open_fieldsW {t e : TypeId} {fs : Array Field} {fuel K : Nat} {cs : List Value} {x : DataW H × List MemPlace} (ht : P.underlying t = some (.slice e)) (he : P.underlying e = some (.struct fs))
    (hone : oneCellFields P fs = true) (hC : P.cellsOf e = fs.size) (h : DataW.trod enc P w base spare held fuel t cs = some x) (hK : ∀ n ∈ x.1.weights P t, n ≤ K) :
    cs = [.slice none 0 0] ∨
    ∃ (a : Addr) (len cap : Nat), cs = [.slice (some a) len cap] ∧ len ≤ cap ∧ cap ≤ maxLen ∧
      ∀ i, i < len → ∀ (j : Nat) (f : Field), fs[j]? = some f → ∃ (v : Value) (y : DataW H × List MemPlace) (n : Nat), w.cell? (a.add (i * fs.size + j)) = some v ∧ DataW.trod enc P w base spare held n f.type [v] = some y ∧ ∀ m ∈ y.1.weights P f.type, m ≤ K := by
  rcases open_slice ht h with h0 | ⟨a, len, cap, m, n, D, Pl, hcs, hb, hl, hm, hmm, hx, hi⟩
  · exact .inl h0.1
  · refine .inr ⟨a, len, cap, hcs, hl, hm, fun i hil => ?_⟩
    have him : i < m := by rw [hmm]; split <;> omega
    obtain ⟨cs', hc, ht'⟩ := hi i him
    rw [hC] at hc
    obtain ⟨ys, n', hn', hy, hlen, hyl, hf⟩ := DataW.trod_struct he ht'
    obtain ⟨_, hcl, hat⟩ := World.cells?_some hc
    intro j f hj
    obtain ⟨ho, hk⟩ := hone_of hone j f hj
    have hjl : j < fs.size := (Array.getElem?_eq_some_iff.1 hj).1
    have hcell := hat j hjl
    have hv : cs'[j]? = some (cs'[j]'(by omega)) := List.getElem?_eq_getElem (by omega)
    have h1 := hf j f hj
    rw [ho, hk] at h1
    have hone' : (cs'.drop j).take 1 = [cs'[j]'(by omega)] := by
      rw [List.drop_eq_getElem_cons (by omega)]
      rfl
    rw [hone'] at h1
    have hys : ys[j]? = some (ys[j]'(by omega)) := List.getElem?_eq_getElem (by omega)
    refine ⟨_, _, n', ?_, h1.trans hys, fun k hk2 => hK k ?_⟩
    · rw [← Go.Deep.add_add, hcell, hv]
    · have hD : D i = .agg (ys.map (·.1)) := congrArg Prod.fst hy
      have h2 : k ∈ (D i).weights P e := by
        rw [hD]
        simp only [DataW.weights, he]
        exact DataW.weights_mem_each (j := j) (t := f.type) (d := (ys[j]'(by omega)).1) (by simp [List.getElem?_map, hj]) (by rw [List.getElem?_map, hys]; rfl) k hk2
      rw [hx]
      simp only [DataW.weights, ht, List.mem_cons, List.mem_append]
      exact .inr (.inl (weights_all (List.mem_map.2 ⟨i, List.mem_range.2 hil, rfl⟩) k h2))
end
theorem runCells : Tryd.prog.cellsOf 66 = 2 := by kernel_rfl
theorem itCellsN : Tryd.prog.cellsOf 43 = 4 := by kernel_rfl
theorem spCellsN : Tryd.prog.cellsOf 68 = 2 := by kernel_rfl
set_option maxRecDepth 100000 in
theorem open_runs {H : Type} {enc : TypeId × Value → H} {W : World} {base K : Nat} {r : Reach} {v : Value} {d : DataW H} {p : List MemPlace} (hv : Value.okWide Tryd.prog W r base 22 v) (h : DataW.Trod enc Tryd.prog W 0 (fun _ => true) true 22 v d p)
    (hK : ∀ n ∈ d.weights Tryd.prog 22, n ≤ K) :
    ∃ (A : Option Addr) (c : Nat) (rs : List Rn), v = .slice A rs.length c ∧ RunAt W W.heap.size A rs ∧ (A = none → rs = [] ∧ c = 0) ∧ rs.length ≤ c ∧ c ≤ maxLen ∧ ∀ r ∈ rs, r.t.length ≤ K ∧ -9223372036854775808 ≤ r.c ∧ r.c ≤ 9223372036854775807 := by
  obtain ⟨A, len, cap, rfl⟩ := okWide_slice Tryd.underlying22 hv
  obtain ⟨fuel, hf⟩ := h
  rcases open_fieldsW Tryd.underlying22 Tryd.underlying66 (by kernel_rfl) runCells (by simpa [Value.cells] using hf) hK with h0 | ⟨a, len', cap', hcs, hl, hm, hi⟩
  · simp at h0
    obtain ⟨rfl, rfl, rfl⟩ := h0
    exact ⟨none, 0, [], rfl, .inl rfl, fun _ => ⟨rfl, rfl⟩, by simp, by simp [maxLen], by simp⟩
  · simp only [List.cons.injEq, Value.slice.injEq, and_true] at hcs
    obtain ⟨rfl, rfl, rfl⟩ := hcs
    have key : ∀ i, i < len → ∃ e : Rn, (W.cell? (a.add (i * 2)) = some (.string ⟨e.t.toArray⟩) ∧ W.cell? (a.add (i * 2 + 1)) = some (.int .i64 e.c)) ∧ e.t.length ≤ K ∧ -9223372036854775808 ≤ e.c ∧ e.c ≤ 9223372036854775807 := by
      intro i him
      obtain ⟨v0, y0, n0, k0, t0, w0⟩ := hi i him 0 _ rfl
      obtain ⟨v1, y1, n1, k1, t1, _⟩ := hi i him 1 _ rfl
      obtain ⟨s, e0, e2, hs⟩ := DataW.trod_string Tryd.underlying9 t0
      obtain ⟨f, e1, _, wf⟩ := DataW.trod_int Tryd.underlying3 t1
      simp only [List.cons.injEq, and_true] at e0 e1
      subst e0; subst e1
      have hb : (⟨s.data.toList.toArray⟩ : ByteArray) = s := by simp
      refine ⟨⟨s.data.toList, f⟩, ⟨k0.trans (by show some (Value.string s) = some (Value.string ⟨s.data.toList.toArray⟩); rw [hb]), k1⟩, ?_, bounds_i64 wf⟩
      have := w0 s.data.toList.length (by
        rw [e2]
        simp [DataW.weights])
      exact this
    obtain ⟨es, he, hp⟩ := list_of len key
    refine ⟨some a, cap, es, by rw [he], ?_, fun h => by (cases h), by omega, hm, fun e hme => ?_⟩
    · rcases es with _ | ⟨e0, es⟩
      · exact .inl rfl
      · obtain ⟨⟨z0, _⟩, _⟩ := hp 0 e0 rfl
        obtain ⟨b, off, spot⟩ := a
        have hspot : spot = none := by simpa [Addr.add] using World.cell?_spot z0
        subst hspot
        have hlt := World.block_lt_of_cell? W _ z0
        refine .inr ⟨b, off, rfl, by simpa [Addr.add] using hlt, fun i hie => ?_⟩
        obtain ⟨⟨c0, c1⟩, _⟩ := hp i _ (List.getElem?_eq_getElem hie)
        rw [add_plain] at c0 c1
        exact ⟨c0, c1⟩
    · obtain ⟨i, hi, rfl⟩ := List.getElem_of_mem hme
      exact (hp i _ (List.getElem?_eq_getElem hi)).2
set_option maxRecDepth 100000 in
theorem open_items {H : Type} {enc : TypeId × Value → H} {W : World} {base : Nat} {r : Reach} {v : Value} {d : DataW H} {p : List MemPlace} (hv : Value.okWide Tryd.prog W r base 26 v) (h : DataW.Trod enc Tryd.prog W 0 (fun _ => true) true 26 v d p) :
    ∃ (A : Option Addr) (c : Nat) (is : List It), v = .slice A is.length c ∧ PatAt W W.heap.size A is ∧ (A = none → is = [] ∧ c = 0) ∧ is.length ≤ c ∧ c ≤ maxLen ∧ ∀ x ∈ is, (-9223372036854775808 ≤ x.k ∧ x.k ≤ 9223372036854775807) ∧ x.t.length ≤ maxLen ∧ x.set.length ≤ maxLen ∧ ∀ q ∈ x.set, q.1 < 256 ∧ q.2 < 256 := by
  obtain ⟨A, len, cap, rfl⟩ := okWide_slice Tryd.underlying26 hv
  obtain ⟨fuel, hf⟩ := h
  rcases open_fields Tryd.underlying26 Tryd.underlying43 (by kernel_rfl) itCellsN (by simpa [Value.cells] using hf) with h0 | ⟨a, len', cap', m, hcs, hl, hm, hlm, hi⟩
  · simp at h0
    obtain ⟨rfl, rfl, rfl⟩ := h0
    exact ⟨none, 0, [], rfl, .inl rfl, fun _ => ⟨rfl, rfl⟩, by simp, by simp [maxLen], by simp⟩
  · simp only [List.cons.injEq, Value.slice.injEq, and_true] at hcs
    obtain ⟨rfl, rfl, rfl⟩ := hcs
    have key : ∀ i, i < len → ∃ e : It, (∃ sv, W.cell? (a.add (i * 4)) = some (.int .i64 e.k) ∧ W.cell? (a.add (i * 4 + 1)) = some (.string ⟨e.t.toArray⟩) ∧ W.cell? (a.add (i * 4 + 2)) = some (.bool e.neg) ∧ W.cell? (a.add (i * 4 + 3)) = some sv ∧ SpAt W W.heap.size sv e.set) ∧
        (-9223372036854775808 ≤ e.k ∧ e.k ≤ 9223372036854775807) ∧ e.t.length ≤ maxLen ∧ e.set.length ≤ maxLen ∧ ∀ q ∈ e.set, q.1 < 256 ∧ q.2 < 256 := by
      intro i him
      obtain ⟨v0, y0, n0, k0, t0⟩ := hi i (by omega) 0 _ rfl
      obtain ⟨v1, y1, n1, k1, t1⟩ := hi i (by omega) 1 _ rfl
      obtain ⟨v2, y2, n2, k2, t2⟩ := hi i (by omega) 2 _ rfl
      obtain ⟨v3, y3, n3, k3, t3⟩ := hi i (by omega) 3 _ rfl
      obtain ⟨f, e0, _, wf⟩ := DataW.trod_int Tryd.underlying3 t0
      obtain ⟨s, e1, _, hs⟩ := DataW.trod_string Tryd.underlying9 t1
      obtain ⟨b, e2, _⟩ := DataW.trod_bool Tryd.underlying4 t2
      simp only [List.cons.injEq, and_true] at e0 e1 e2
      subst e0; subst e1; subst e2
      have hbs : (⟨s.data.toList.toArray⟩ : ByteArray) = s := by simp
      have hsl : s.data.toList.length ≤ maxLen := hs
      rcases open_fields Tryd.underlying41 Tryd.underlying68 (by kernel_rfl) spCellsN t3 with g0 | ⟨a9, len9, cap9, m9, hcs9, hl9, hm9, hlm9, hi9⟩
      · simp at g0
        subst g0
        exact ⟨⟨f, s.data.toList, b, []⟩, ⟨_, k0, k1.trans (by show some (Value.string s) = some (Value.string ⟨s.data.toList.toArray⟩); rw [hbs]), k2, k3, none, 0, rfl, .inl rfl⟩, bounds_i64 wf, hsl, by simp [maxLen], by simp⟩
      · simp only [List.cons.injEq, and_true] at hcs9
        subst hcs9
        have key9 : ∀ j, j < len9 → ∃ q : Nat × Nat, (W.cell? (a9.add (j * 2)) = some (.int .u8 q.1) ∧ W.cell? (a9.add (j * 2 + 1)) = some (.int .u8 q.2)) ∧ q.1 < 256 ∧ q.2 < 256 := by
          intro j hj
          obtain ⟨u0, z0, o0, l0, q0⟩ := hi9 j (by omega) 0 _ rfl
          obtain ⟨u1, z1, o1, l1, q1⟩ := hi9 j (by omega) 1 _ rfl
          obtain ⟨f0, g0, _, x0⟩ := DataW.trod_int Tryd.underlying5 q0
          obtain ⟨f1, g1, _, x1⟩ := DataW.trod_int Tryd.underlying5 q1
          simp only [List.cons.injEq, and_true] at g0 g1
          subst g0; subst g1
          have r0 : 0 ≤ f0 ∧ f0 ≤ 255 := by simpa [Lit.wf, IntKind.min, IntKind.max, IntKind.signed, IntKind.bits] using x0
          have r1 : 0 ≤ f1 ∧ f1 ≤ 255 := by simpa [Lit.wf, IntKind.min, IntKind.max, IntKind.signed, IntKind.bits] using x1
          refine ⟨(f0.toNat, f1.toNat), ⟨?_, ?_⟩, by simp only; omega, by simp only; omega⟩
          · rw [show ((f0.toNat : Nat) : Int) = f0 from by omega]; exact l0
          · rw [show ((f1.toNat : Nat) : Int) = f1 from by omega]; exact l1
        obtain ⟨qs, hq, hpq⟩ := list_of len9 key9
        refine ⟨⟨f, s.data.toList, b, qs⟩, ⟨_, k0, k1.trans (by show some (Value.string s) = some (Value.string ⟨s.data.toList.toArray⟩); rw [hbs]), k2, k3, some a9, cap9, by rw [hq], ?_⟩, bounds_i64 wf, hsl, by show qs.length ≤ _; omega, fun q hmq => ?_⟩
        · rcases qs with _ | ⟨e0, es⟩
          · exact .inl rfl
          · obtain ⟨⟨z0, _⟩, _⟩ := hpq 0 e0 rfl
            obtain ⟨b9, off, spot⟩ := a9
            have hspot : spot = none := by simpa [Addr.add] using World.cell?_spot z0
            subst hspot
            have hlt := World.block_lt_of_cell? W _ z0
            refine .inr ⟨b9, off, rfl, by simpa [Addr.add] using hlt, fun i hie => ?_⟩
            obtain ⟨⟨c0, c1⟩, _⟩ := hpq i _ (List.getElem?_eq_getElem hie)
            rw [add_plain] at c0 c1
            exact ⟨c0, c1⟩
        · obtain ⟨i, hi, rfl⟩ := List.getElem_of_mem hmq
          exact (hpq i _ (List.getElem?_eq_getElem hi)).2
    obtain ⟨es, he, hp⟩ := list_of len key
    refine ⟨some a, cap, es, by rw [he], ?_, fun h => by (cases h), by omega, hm, fun e hme => ?_⟩
    · rcases es with _ | ⟨e0, es⟩
      · exact .inl rfl
      · obtain ⟨⟨sv, z0, _⟩, _⟩ := hp 0 e0 rfl
        obtain ⟨b, off, spot⟩ := a
        have hspot : spot = none := by simpa [Addr.add] using World.cell?_spot z0
        subst hspot
        have hlt := World.block_lt_of_cell? W _ z0
        refine .inr ⟨b, off, rfl, by simpa [Addr.add] using hlt, fun i hie => ?_⟩
        obtain ⟨⟨sv, c0, c1, c2, c3, c4⟩, _⟩ := hp i _ (List.getElem?_eq_getElem hie)
        rw [add_plain] at c0 c1 c2 c3
        exact ⟨sv, c0, c1, c2, c3, c4⟩
    · obtain ⟨i, hi, rfl⟩ := List.getElem_of_mem hme
      exact (hp i _ (List.getElem?_eq_getElem hi)).2
end Go.Proofs.YteppndkhmbhnkaaDoor
