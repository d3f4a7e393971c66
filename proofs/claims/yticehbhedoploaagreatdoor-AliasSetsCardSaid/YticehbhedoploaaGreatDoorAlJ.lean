/- alias: Insert in the midst, Delete. -/
import Derived.Test.YticehbhedoploaaGreatDoorAlI
import Derived.Shelf.Spec.SlicesInsertGrow
import Derived.Lib.Overlaps
import Derived.Lib.SliceRun
namespace Go.Proofs.YticehbhedoploaaGreatDoor
open Go.RowKit Go.Lib
set_option linter.unusedVariables false

theorem run_copy_k {P : Program} (w : World) (dT sT ty elem : TypeId) (b o dLen dCap : Nat) (a : Addr) (sLen sCap k : Nat) (cs : List Value)
    (hu : P.underlying dT = some (.slice elem)) (hs : (P.info? elem).map (·.size) = some k) (hn : cs.length = Nat.min sLen dLen * k)
    (hsrc : ∀ j v, cs[j]? = some v → w.cell? (a.add j) = some v) (hc : ∀ j, j < cs.length → (w.cell? ⟨b, o + j, none⟩).isSome = true) (hf : ∀ j, j < cs.length → w.frozen? ⟨b, o + j, none⟩ = false) (h1 : ∀ v ∈ cs, v.oneCell' = true) :
    (Builtin.copy_ #[dT, sT] ty #[.slice (some ⟨b, o, none⟩) dLen dCap, .slice (some a) sLen sCap]).run P w = .ok (goInt (Nat.min sLen dLen)) (w.setCells b o cs) := by
  have hl := run_loadCells_list (P := P) w a cs hsrc
  have hst := run_storeCells_cells (P := P) b o cs 0 w (by simpa using hc) (by simpa using hf) h1
  cases hq : P.info? elem with
  | none => simp [hq] at hs
  | some i =>
    have hi : i.size = k := by simpa [hq] using hs
    simp [Builtin.copy_, run_underlying hu, Builtin.lenOf, Builtin.firstCells, sizeOf, typeInfo, hq, hi, ← hn, hl, hst]
theorem run_clear_k {P : Program} (w : World) (t e ty : TypeId) (z : Value) (zs : List Value) (ht : P.underlying t = some (.slice e)) (hv : ∀ w, (zeroValue e).run P w = .ok z w) (hz : (Builtin.zeroCells z.cells 1).toList = zs) (h1 : ∀ v ∈ zs, v.oneCell' = true) (b o c : Nat)
    (hc : ∀ j, j < zs.length → (w.cell? ⟨b, o + j, none⟩).isSome = true) (hf : ∀ j, j < zs.length → w.frozen? ⟨b, o + j, none⟩ = false) :
    (Builtin.clear_ #[t] ty #[.slice (some ⟨b, o, none⟩) 1 c]).run P w = .ok (.tuple #[]) (w.setCells b o zs) := by
  have hst := run_storeCells_cells (P := P) b o zs 0 w (by simpa using hc) (by simpa using hf) h1
  simp only [Nat.add_zero] at hst
  simp [Builtin.clear_, run_underlying ht, hv, hz, hst]
theorem below_setCells {B : Nat} {w : World} {b : Nat} (hb : B ≤ b) : ∀ (vs : List Value) (o : Nat) (w' : World), Below B w w' → Below B w (w'.setCells b o vs)
  | [], _, _, h => h
  | v :: r, o, w', h => by
    rw [World.setCells]
    exact below_setCells hb r (o + 1) _ (h.setCell (p := ⟨b, o, none⟩) hb v)
theorem size_setCells (b : Nat) : ∀ (vs : List Value) (o : Nat) (w : World), (w.setCells b o vs).heap.size = w.heap.size
  | [], _, _ => rfl
  | v :: r, o, w => by rw [World.setCells, size_setCells b r, World.size_setCell]
/-- The aliases at the head of the block g, which may be written. -/
def RowA (w : World) (g : Nat) (l : List Al) : Prop := ∀ j u, (alCells l)[j]? = some u → w.cell? ⟨g, j, none⟩ = some u ∧ w.frozen? ⟨g, j, none⟩ = false
theorem rowA_at {w : World} {g : Nat} {l : List Al} (h : RowA w g l) (hg : g < w.heap.size) : AlAt w w.heap.size (some ⟨g, 0, none⟩) l := by
  refine .inr ⟨g, 0, rfl, hg, fun i hi => ?_⟩
  obtain ⟨q0, q1⟩ := alCells_get l i hi
  rw [Nat.zero_add]
  exact ⟨(h _ _ q0).1, (h _ _ q1).1⟩
theorem rowA_ins {w : World} {g i : Nat} {l : List Al} {x : Al} (hi : i ≤ l.length)
    (ha : ∀ j u, (alCells (l.take i))[j]? = some u → w.cell? ⟨g, j, none⟩ = some u) (hb0 : w.cell? ⟨g, i * 2, none⟩ = some (.string x.n)) (hb1 : w.cell? ⟨g, i * 2 + 1, none⟩ = some (.string x.v))
    (hc : ∀ j u, (alCells (l.drop i))[j]? = some u → w.cell? ⟨g, (i + 1) * 2 + j, none⟩ = some u) (hf : ∀ j, w.frozen? ⟨g, j, none⟩ = false) : RowA w g (l.take i ++ x :: l.drop i) := by
  intro j u hu
  refine ⟨?_, hf j⟩
  have hlt : (alCells (l.take i)).length = i * 2 := by rw [alCells_length, List.length_take]; omega
  have e : alCells (l.take i ++ x :: l.drop i) = alCells (l.take i) ++ (.string x.n :: .string x.v :: alCells (l.drop i)) := by rw [alCells_append]; rfl
  rw [e] at hu
  by_cases h1 : j < i * 2
  · rw [List.getElem?_append_left (by omega)] at hu
    exact ha j u hu
  · rw [List.getElem?_append_right (by omega), hlt] at hu
    obtain ⟨k, rfl⟩ : ∃ k, j = i * 2 + k := ⟨j - i * 2, by omega⟩
    rw [Nat.add_sub_cancel_left] at hu
    match k with
    | 0 => simp at hu; subst hu; exact hb0
    | 1 => simp at hu; subst hu; exact hb1
    | k + 2 =>
      simp only [List.getElem?_cons_succ] at hu
      have := hc k u hu
      rw [show (i + 1) * 2 + k = i * 2 + (k + 2) from by omega] at this
      exact this
theorem ovl_apart (w : World) (vb g o la ca lb cb : Nat) (hne : vb ≠ g) (hx : ∃ u v, w.heap[vb]? = some (.cells #[u, v] 47 (0, 0))) (hg : ∃ cur, w.heap[g]? = some (.cells cur 47 (0, 0)) ∧ cur.size ≠ 0) :
    (callFunc 70 #[.slice (some ⟨vb, 0, none⟩) la ca, .slice (some ⟨g, o, none⟩) lb cb]).run Tryz.prog w = .ok (.value (.bool false)) w := by
  obtain ⟨u, v, hx⟩ := hx
  obtain ⟨cur, hg, hcs⟩ := hg
  obtain ⟨i0, hi, hz0, hz1, hz2⟩ := al_info_parts alInfo
  rw [run_callFunc_extern Tryz.func70 (by kernel_rfl) (by kernel_rfl) (by kernel_rfl) (e := Extern.SlicesOverlaps.overlaps #[22, 22] #[4]) (by kernel_rfl),
    Lib.run_overlaps_apart w 22 4 47 Tryz.underlying22 2 (fun W => by simp [sizeOf, typeInfo, hi, hz1]) ⟨vb, 0, none⟩ ⟨g, o, none⟩ la ca lb cb hne 47 47 2 cur.size (by simp [World.shape?, hx]) (by simp [World.shape?, hg]) hcs (Lib.frozen_of_heap hx 0) (Lib.frozen_of_heap hx 2)]
  rfl
set_option maxHeartbeats 2000000 in
set_option maxRecDepth 100000 in
theorem insRoom_c (B vb g n c i : Nat) (cur : Array Value) (l : List Al) (x : Al) (w : World) (hh : w.heap[g]? = some (.cells cur 47 (0, 0))) (hln : l.length = n) (hcs : cur.size = c * 2) (htk : cur.toList.take (n * 2) = alCells l) (hBg : B ≤ g)
    (hx : w.heap[vb]? = some (.cells #[.string x.n, .string x.v] 47 (0, 0))) (hne : vb ≠ g) (hl : n ≤ 1000000) (hin : i < n) (hroom : n + 1 ≤ c) (hcm : c ≤ 9223372036854775807) :
    Calls Tryz.prog 43 #[.slice (some ⟨g, 0, none⟩) n c, .int .i64 i, .slice (some ⟨vb, 0, none⟩) 1 1] w fun e w' => e = .returned (.slice (some ⟨g, 0, none⟩) (n + 1) c) ∧ RowA w' g (l.take i ++ x :: l.drop i) ∧ Below B w w' ∧ w'.heap.size = w.heap.size := by
  have hcell : ∀ j u, (alCells l)[j]? = some u → w.cell? ⟨g, j, none⟩ = some u := fun j u hu => by
    rw [Lib.cell_of_heap hh]
    rw [← htk, List.getElem?_take] at hu
    split at hu
    · simpa using hu
    · cases hu
  have hsome : ∀ j, j < (n + 1) * 2 → (w.cell? ⟨g, j, none⟩).isSome = true := fun j hj => by
    rw [Lib.cell_of_heap hh, Array.getElem?_eq_getElem (by omega)]; rfl
  have hfz : ∀ j, w.frozen? ⟨g, j, none⟩ = false := fun j => Lib.frozen_of_heap hh j
  have hov : ∀ lb cb, (callFunc 70 #[.slice (some ⟨vb, 0, none⟩) 1 1, .slice (some ⟨g, (i + 1) * 2, none⟩) lb cb]).run Tryz.prog w = .ok (.value (.bool false)) w := fun lb cb =>
    ovl_apart w vb g _ _ _ _ _ hne ⟨_, _, hx⟩ ⟨cur, hh, by omega⟩
  obtain ⟨i0, hi, hz0, hz1, hz2⟩ := al_info_parts alInfo
  have hsz : (Tryz.prog.info? 47).map (·.size) = some 2 := by rw [hi]; simp [hz1]
  have hdl : (alCells (l.drop i)).length = (n - i) * 2 := by rw [alCells_length, List.length_drop, hln]
  have hal : ∀ j u, (alCells (l.drop i))[j]? = some u → (alCells l)[i * 2 + j]? = some u := fun j u hu => by
    have e : alCells l = alCells (l.take i) ++ alCells (l.drop i) := by rw [← alCells_append, List.take_append_drop]
    have hlt : (alCells (l.take i)).length = i * 2 := by rw [alCells_length, List.length_take]; omega
    rw [e, List.getElem?_append_right (by omega), hlt, Nat.add_sub_cancel_left]
    exact hu
  have hat : ∀ j u, (alCells (l.take i))[j]? = some u → j < i * 2 ∧ (alCells l)[j]? = some u := fun j u hu => by
    have e : alCells l = alCells (l.take i) ++ alCells (l.drop i) := by rw [← alCells_append, List.take_append_drop]
    have hlt : (alCells (l.take i)).length = i * 2 := by rw [alCells_length, List.length_take]; omega
    have hj := (List.getElem?_eq_some_iff.1 hu).1
    rw [e, List.getElem?_append_left (by omega)]
    exact ⟨by omega, hu⟩
  have hcp1 : ∀ ty dc sc, (Builtin.copy_ #[22, 22] ty #[.slice (some ⟨g, (i + 1) * 2, none⟩) (n - i) dc, .slice (some ⟨g, i * 2, none⟩) (n + 1 - i) sc]).run Tryz.prog w.drew = .ok (goInt (Nat.min (n + 1 - i) (n - i))) (w.drew.setCells g ((i + 1) * 2) (alCells (l.drop i))) := fun ty dc sc =>
    run_copy_k w.drew _ _ ty 47 g ((i + 1) * 2) _ dc ⟨g, i * 2, none⟩ _ sc 2 (alCells (l.drop i)) Tryz.underlying22 hsz (by rw [hdl]; simp only [Nat.min_def]; split <;> omega)
      (fun j v hj => by rw [Addr.add_lit]; exact hcell _ v (hal j v hj))
      (fun j hj => hsome _ (by omega)) (fun j hj => hfz _) (alCells_one _)
  obtain ⟨W1, hW1⟩ : ∃ W1, W1 = w.drew.setCells g ((i + 1) * 2) (alCells (l.drop i)) := ⟨_, rfl⟩
  have hsp1 : ∀ k, k < (n + 1) * 2 → (W1.cell? ⟨g, k, none⟩).isSome = true := fun k hk => by
    rw [hW1]
    exact isSome_setCells g (alCells (l.drop i)) ((i + 1) * 2) w.drew (fun j hj => hsome _ (by omega)) _ (hsome k hk)
  have hvx : ∀ j v, [Value.string x.n, Value.string x.v][j]? = some v → w.cell? ⟨vb, 0 + j, none⟩ = some v := fun j v hj => by
    rw [Lib.cell_of_heap hx, Nat.zero_add]
    match j with
    | 0 => simpa using hj
    | 1 => simpa using hj
    | k + 2 => simp at hj
  have hcp2 : ∀ (W : World), (∀ x, W.cell? x = W1.cell? x) → (∀ x, W.frozen? x = W1.frozen? x) → ∀ ty dc, (Builtin.copy_ #[22, 22] ty #[.slice (some ⟨g, i * 2, none⟩) (n + 1 - i) dc, .slice (some ⟨vb, 0, none⟩) 1 1]).run Tryz.prog W = .ok (goInt (Nat.min 1 (n + 1 - i))) (W.setCells g (i * 2) [.string x.n, .string x.v]) := fun W hWc hWf ty dc =>
    run_copy_k W _ _ ty 47 g (i * 2) (n + 1 - i) dc ⟨vb, 0, none⟩ 1 1 2 [.string x.n, .string x.v] Tryz.underlying22 hsz (by simp only [Nat.min_def, List.length_cons, List.length_nil]; split <;> omega)
      (fun j v hj => by
        rw [Addr.add_lit, hWc, hW1, World.cell?_setCells_out g _ _ _ _ (fun h _ => absurd h hne)]
        exact hvx j v hj)
      (fun j hj => by rw [hWc]; simp at hj; exact hsp1 _ (by omega)) (fun j hj => by rw [hWf, hW1, World.frozen?_setCells]; exact hfz _) (by intro u hu; simp at hu; rcases hu with rfl | rfl <;> rfl)
  have hrow : RowA (W1.setCells g (i * 2) [.string x.n, .string x.v]) g (l.take i ++ x :: l.drop i) := by
    have hin2 := World.cell?_setCells_in g [.string x.n, .string x.v] (i * 2) W1 (fun j hj => by simp at hj; exact hsp1 _ (by omega))
    refine rowA_ins (by omega) (fun j u hu => ?_) (hin2 0 (by simp)) (hin2 1 (by simp)) (fun j u hu => ?_) (fun j => ?_)
    · obtain ⟨h1, h2⟩ := hat j u hu
      rw [World.cell?_setCells_out g _ _ _ _ (fun _ _ => by show j < _ ∨ _; omega), hW1, World.cell?_setCells_out g _ _ _ _ (fun _ _ => by show j < _ ∨ _; omega)]
      exact hcell j u h2
    · have hj := (List.getElem?_eq_some_iff.1 hu)
      obtain ⟨hj1, hj2⟩ := hj
      rw [World.cell?_setCells_out g _ _ _ _ (fun _ _ => by show _ ∨ i * 2 + 2 ≤ (i + 1) * 2 + j; omega), hW1]
      rw [World.cell?_setCells_in g (alCells (l.drop i)) ((i + 1) * 2) w.drew (fun t ht => hsome _ (by omega)) j hj1, hj2]
    · rw [World.frozen?_setCells, hW1, World.frozen?_setCells]; exact hfz j
  rw [← hW1] at hcp1
  have hbel : Below B w (W1.setCells g (i * 2) [.string x.n, .string x.v]) := by
    rw [hW1]
    exact below_setCells hBg _ _ _ (below_setCells hBg _ _ _ (Below.refl B w).drew)
  have hsize : (W1.setCells g (i * 2) [.string x.n, .string x.v]).heap.size = w.heap.size := by
    rw [hW1, size_setCells, size_setCells]
    rfl
  have Hrow := Lib.hid hrow; have Hbel := Lib.hid hbel; have Hsize := Lib.hid hsize
  have hz2 : ¬ ((i : Int) = (n : Int)) := by omega
  have hw1 : IntKind.i64.wrap ((i : Int) + 1) = (i : Int) + 1 := by rw [IntKind.wrap_i64]; omega
  have hw2 : IntKind.i64.wrap ((n : Int) + 1) = (n : Int) + 1 := by rw [IntKind.wrap_i64]; omega
  have hb1 : (0 : Int) ≤ (i : Int) + 1 := by omega
  have hin' : i ≤ n := by omega
  have htn : ((i : Int) + 1).toNat = i + 1 := by omega
  have htn2 : ((n : Int) + 1).toNat = n + 1 := by omega
  have hb2 : ¬ (c = i + 1) := by omega
  have hb3 : (i : Int) ≤ (n : Int) + 1 := by omega
  have hb4 : ¬ (c = i) := by omega
  have hb5 : decide ((c : Int) < (n : Int) + 1) = false := decide_eq_false (by omega)
  clear hrow hbel hsize hsp1 hvx hal hat hdl hcell hsome hfz
  go_enter Tryz.func43, Tryz.ntmps43
  have mixed : Tryz.prog.follows .mixedOrders = true := by kernel_rfl
  go_wp2_with (simp only [hov])
  go_region_law_o (refine step_copy_runI rfl _ _ 22 22 rfl _ _ (by simp [Act.eval, Act.put]) (by simp [Act.eval, Act.put]) (hcp1 _ _ _) ?_)
  go_wp2_with (at_builtin; refine wpList_copy_runI _ rfl _ _ 22 22 rfl _ _ rfl rfl (hcp2 _ (fun _ => rfl) (fun _ => rfl) _ _) ?_)
  go_ret
  rw [← hW1]
  exact ⟨rfl, Hrow.out, Hbel.out, Hsize.out⟩
end Go.Proofs.YticehbhedoploaaGreatDoor
