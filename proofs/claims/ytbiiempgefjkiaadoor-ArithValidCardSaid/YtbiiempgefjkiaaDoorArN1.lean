/- arith: Names: the memory of its walk. -/
import Derived.Test.YtbiiempgefjkiaaDoorArU1
import Derived.Maps.OwnIn
import Derived.Maps.Views
import Derived.StringKeys
namespace Go.Proofs.YtbiiempgefjkiaaDoor.Ar
open Go.RowKit
set_option linter.unusedVariables false

def nmHas (l : List ByteArray) (s : ByteArray) : Bool := l.any fun t => eqB t s
theorem nmHas_snoc (l : List ByteArray) (s t : ByteArray) : nmHas (l ++ [s]) t = (nmHas l t || eqB s t) := by simp [nmHas]
def MapN (h n : Nat) (l : List ByteArray) (W : World) : Prop :=
  ∃ D : DataW Unit, W.ownsMap Tryd.prog 9 (plainElem Tryd.prog 4) h n D ∧ ∀ t : ByteArray, D.atKey (.string t.data.toList) (.lit (.bool false)) = .lit (.bool (nmHas l t))
theorem mapN_at {h n : Nat} {l : List ByteArray} {W W' : World} (H : MapN h n l W) (hk : ∀ es clock, W.heap[h]? = some (.map es clock) → W'.heap[h]? = W.heap[h]?) : MapN h n l W' := by
  obtain ⟨D, ⟨es, clock, hb, F, hs, rfl⟩, hD⟩ := H
  exact ⟨_, ⟨es, clock, (hk es clock hb).trans hb, F, hs, rfl⟩, hD⟩
theorem mapN_obj {h n : Nat} {l : List ByteArray} {W : World} (H : MapN h n l W) : ∃ es clock, W.heap[h]? = some (.map es clock) := by
  obtain ⟨D, ⟨es, clock, hb, F, hs, rfl⟩, hD⟩ := H
  exact ⟨es, clock, hb⟩
set_option maxRecDepth 100000 in
theorem mapN_look {h n : Nat} {l : List ByteArray} {W : World} (H : MapN h n l W) (t : ByteArray) (ht : t.size ≤ maxLen) : (Instr.lookup 54 (.map (some h)) (.string t) false).run Tryd.prog W = .ok (.bool (nmHas l t)) W := by
  obtain ⟨D, ho, hD⟩ := H
  obtain ⟨v, ps, hr, hv⟩ := ho.lookup (Maps.string_keyed Tryd.underlying9) Tryd.underlying54 (z := .bool false) (by kernel_rfl) (plainElem_bool Tryd.underlying4 false) (Go.WideMaps.keyOf_string_mk Tryd.underlying9 ht)
  rw [hD t] at hv
  have hvb : v = .bool (nmHas l t) := by
    unfold plainElem at hv
    rw [Tryd.underlying4] at hv
    cases v <;> simp_all
  rw [hr, hvb]
theorem mapN_put {h n : Nat} {l : List ByteArray} {W : World} (H : MapN h n l W) (s : ByteArray) (hs : s.size ≤ maxLen) (hn : n < maxLen) :
    ∃ w', (Instr.mapUpdate 54 (.map (some h)) (.string s) (.bool true)).run Tryd.prog W = .ok () w' ∧ MapN h (n + 1) (l ++ [s]) w' ∧ W.grownBy w' (some h) := by
  obtain ⟨D, ho, hD⟩ := H
  obtain ⟨w', hr, h1, h2⟩ := ho.update (Maps.string_keyed Tryd.underlying9) Tryd.underlying54 hn (Go.WideMaps.keyOf_string_mk Tryd.underlying9 hs) (plainElem_bool Tryd.underlying4 true)
  refine ⟨w', hr, ⟨_, h1, fun t => ?_⟩, h2⟩
  rw [nmHas_snoc]
  by_cases e : s = t
  · rw [← e, Maps.atKey_put_same ho.isMap (by trivial), eqB_iff.2 rfl, Bool.or_true]
  · rw [Maps.atKey_put_other (fun h => e (by
      have h' : t.data.toList = s.data.toList := by simpa using h
      exact (ByteArray.ext (Array.toList_inj.1 h')).symm)), hD, eqB_false.2 e, Bool.or_false]
/-- The cells that the walk shares: found, names, visit. -/
structure NmAt (B F G V h : Nat) (l : List ByteArray) (w : World) : Prop where
  ff : w.heap[F]? = some (.cells #[.map (some h)] 54 (0, 0))
  fv : w.heap[V]? = some (.cells #[.func (.func 28) #[] #[.pointer (some ⟨F, 0, none⟩), .pointer (some ⟨G, 0, none⟩), .pointer (some ⟨V, 0, none⟩)]] 55 (0, 0))
  fg : ∃ v, w.heap[G]? = some (.cells #[v] 35 (0, 0)) ∧ w.ownsRow B 9 1 v l.length (l.map Value.string)
  mp : MapN h l.length l w
  bf : B ≤ F
  bg : B ≤ G
  bv : B ≤ V
  bh : B ≤ h
/-- All but the names, their cell and the map is kept. -/
def NmK (G h : Nat) (w w' : World) : Prop := ∀ k o, w.heap[k]? = some o → k ≠ G → k ≠ h → (∀ c fz, o ≠ .cells c 9 fz) → w'.heap[k]? = some o
theorem nmK_refl (G h : Nat) (w : World) : NmK G h w w := fun _ _ h _ _ _ => h
theorem nmK_trans {G h : Nat} {a b c : World} (h1 : NmK G h a b) (h2 : NmK G h b c) : NmK G h a c := fun k o hk hG hh ho => h2 k o (h1 k o hk hG hh ho) hG hh ho
theorem nmK_keep {G h : Nat} {w w' : World} (hk : ∀ k, k < w.heap.size → w'.heap[k]? = w.heap[k]?) : NmK G h w w' := fun k o hk' _ _ _ => (hk k (Array.getElem?_eq_some_iff.1 hk').1).trans hk'
theorem nmAt_lt {B F G V h : Nat} {l : List ByteArray} {w : World} (H : NmAt B F G V h l w) : F < w.heap.size ∧ G < w.heap.size ∧ V < w.heap.size ∧ h < w.heap.size := by
  obtain ⟨v, hg, _⟩ := H.fg
  obtain ⟨es, ck, hm⟩ := mapN_obj H.mp
  exact ⟨(Array.getElem?_eq_some_iff.1 H.ff).1, (Array.getElem?_eq_some_iff.1 hg).1, (Array.getElem?_eq_some_iff.1 H.fv).1, (Array.getElem?_eq_some_iff.1 hm).1⟩
theorem nmAt_keep {B F G V h : Nat} {l : List ByteArray} {w w' : World} (H : NmAt B F G V h l w) (hk : ∀ k, k < w.heap.size → w'.heap[k]? = w.heap[k]?) : NmAt B F G V h l w' := by
  obtain ⟨l1, l2, l3, l4⟩ := nmAt_lt H
  obtain ⟨v, hg, hr⟩ := H.fg
  exact ⟨(hk F l1).trans H.ff, (hk V l3).trans H.fv, ⟨v, (hk G l2).trans hg, row_keep hr fun g hg => hk g (hr.lt g hg).2⟩, mapN_at H.mp (fun _ _ _ => hk h l4), H.bf, H.bg, H.bv, H.bh⟩
mutual
theorem nmE_le : ∀ (x : Ex) (acc : List ByteArray), acc.length ≤ (nmE x acc).length
  | .mk op n s l, acc => by
    rw [nmE]
    refine Nat.le_trans ?_ (nmK_le l _)
    split <;> simp
theorem nmK_le : ∀ (l : List Ex) (acc : List ByteArray), acc.length ≤ (nmK l acc).length
  | [], acc => by rw [nmK]; exact Nat.le_refl _
  | x :: l, acc => by
    rw [nmK]
    exact Nat.le_trans (nmE_le x acc) (nmK_le l _)
end
theorem strInfo : (Tryd.prog.info? 9).map (fun i => (i.zero, i.size, i.bytes)) = some (some (.string ByteArray.empty), 1, 16) := by kernel_rfl
/-- The map is written. -/
theorem nm_put {B F G V h : Nat} {l : List ByteArray} {w w1 : World} {s : ByteArray} (H : NmAt B F G V h l w) (hg : w.grownBy w1 (some h)) (hB : B ≤ w.heap.size) :
    (∀ k, k < w.heap.size → k ≠ h → w1.heap[k]? = w.heap[k]?) ∧ Below B w w1 ∧ NmK G h w w1 ∧ w.heap.size ≤ w1.heap.size := by
  have hk : ∀ k, k < w.heap.size → k ≠ h → w1.heap[k]? = w.heap[k]? := fun k hk hne => hg.block k hk (fun e => hne (Option.some.inj e))
  refine ⟨hk, (Below.refl B w).grown hg hB (fun q hq => Option.some.inj hq ▸ H.bh), fun k o hk' _ hh _ => (hk k (Array.getElem?_eq_some_iff.1 hk').1 hh).trans hk', hg.size⟩
/-- The name is appended, and the cell written. -/
theorem nm_add {B F G V h : Nat} {l : List ByteArray} {w w1 w2 w3 : World} {s : ByteArray} {v v' : Value} (H : NmAt B F G V h l w) (hp : MapN h (l.length + 1) (l ++ [s]) w1) (hg : w.grownBy w1 (some h)) (hB : B ≤ w.heap.size)
    (hv : w.heap[G]? = some (.cells #[v] 35 (0, 0))) (hr : w.ownsRow B 9 1 v l.length (l.map Value.string))
    (h2 : w2 = w1.alloc (.cells #[.string s] 9)) (hown : w3.ownsRow B 9 1 v' (l.length + 1) (l.map Value.string ++ [.string s])) (hgrow : w2.grownBy w3 v.ownBlock) :
    NmAt B F G V h (l ++ [s]) (w3.setCell ⟨G, 0, none⟩ v') ∧ Below B w (w3.setCell ⟨G, 0, none⟩ v') ∧ NmK G h w (w3.setCell ⟨G, 0, none⟩ v') ∧ w.heap.size ≤ (w3.setCell ⟨G, 0, none⟩ v').heap.size ∧ w3.heap[G]? = some (.cells #[v] 35 (0, 0)) := by
  obtain ⟨l1, l2, l3, l4⟩ := nmAt_lt H
  obtain ⟨es, ck, hm⟩ := mapN_obj hp
  have hmw : ∃ es ck, w.heap[h]? = some (.map es ck) := mapN_obj H.mp
  obtain ⟨k1, b1, n1, s1⟩ := nm_put (s := s) H hg hB
  have s2 : w1.heap.size + 1 = w2.heap.size := by rw [h2]; simp
  have k2 : ∀ k, k < w1.heap.size → w2.heap[k]? = w1.heap[k]? := fun k hk => by rw [h2]; exact Below.heap_alloc _ _ _ hk
  have hob : ∀ g, v.ownBlock = some g → ∃ cur, w.heap[g]? = some (.cells cur 9 (0, 0)) := by
    intro g hgo
    rcases hr.2 with ⟨rfl, _⟩ | ⟨g', cap, cur, rfl, _, hh, _⟩
    · cases hgo
    · have : g' = g := by injection hgo
      subst this
      exact ⟨cur, hh⟩
  have k3 : ∀ k, k < w2.heap.size → v.ownBlock ≠ some k → w3.heap[k]? = w2.heap[k]? := fun k hk hne => hgrow.block k hk (fun e => hne e.symm)
  have s3 := hgrow.size
  have kk : ∀ k o, w.heap[k]? = some o → k ≠ h → (∀ c fz, o ≠ .cells c 9 fz) → w3.heap[k]? = some o := by
    intro k o hk hh ho
    have hlt := (Array.getElem?_eq_some_iff.1 hk).1
    rw [k3 k (by omega) (fun e => by obtain ⟨cur, hc⟩ := hob k e; rw [hk] at hc; injection hc with hc; exact ho _ _ hc), k2 k (by omega), k1 k hlt hh]
    exact hk
  have nf : F ≠ h := fun e => by subst e; obtain ⟨_, _, e2⟩ := hmw; rw [H.ff] at e2; cases e2
  have ng : G ≠ h := fun e => by subst e; obtain ⟨_, _, e2⟩ := hmw; rw [hv] at e2; cases e2
  have nv : V ≠ h := fun e => by subst e; obtain ⟨_, _, e2⟩ := hmw; rw [H.fv] at e2; cases e2
  have nfg : F ≠ G := fun e => by subst e; have e2 := H.ff; rw [hv] at e2; injection e2 with e2; injection e2 with e3 e4; exact absurd e4 (by decide)
  have nvg : V ≠ G := fun e => by subst e; have e2 := H.fv; rw [hv] at e2; injection e2 with e2; injection e2 with e3 e4; exact absurd e4 (by decide)
  have hG3 : w3.heap[G]? = some (.cells #[v] 35 (0, 0)) := kk G _ hv ng (fun c fz e => by injection e with _ e; exact absurd e (by decide))
  have hm3 : w3.heap[h]? = w1.heap[h]? := by
    rw [k3 h (by omega) (fun e => by obtain ⟨cur, hc⟩ := hob h e; obtain ⟨_, _, e2⟩ := hmw; rw [hc] at e2; cases e2), k2 h (by omega)]
  have hne3 : v'.ownBlock ≠ some G := row_ne hown hG3 (by decide)
  have b2 : Below B w w2 := b1.trans (by rw [h2]; exact (Below.refl B w1).alloc (by omega) _)
  have b3 : Below B w w3 := b2.grown hgrow (by omega) (fun q hq => (hr.lt q hq).1)
  refine ⟨⟨?_, ?_, ⟨v', heap_setCell_same _ _ _ _ _ _ hG3, ?_⟩, ?_, H.bf, H.bg, H.bv, H.bh⟩, b3.setCell (p := ⟨G, 0, none⟩) H.bg _, ?_, by simp; omega, hG3⟩
  · rw [heap_setCell_other _ _ _ _ (fun e => nfg e)]; exact kk F _ H.ff nf (fun c fz e => by injection e with _ e; exact absurd e (by decide))
  · rw [heap_setCell_other _ _ _ _ (fun e => nvg e)]; exact kk V _ H.fv nv (fun c fz e => by injection e with _ e; exact absurd e (by decide))
  · rw [List.length_append, List.map_append]
    exact row_keep hown (fun g hgo => heap_setCell_other _ _ _ _ (fun e => hne3 (by rw [hgo]; exact congrArg some e)))
  · rw [List.length_append]
    exact mapN_at hp (fun _ _ _ => by rw [heap_setCell_other _ _ _ _ (fun e => ng e.symm)]; exact hm3)
  · intro k o hk hG hh ho
    rw [heap_setCell_other _ _ _ _ (fun e => hG e)]
    exact kk k o hk hh ho
end Go.Proofs.YtbiiempgefjkiaaDoor.Ar
