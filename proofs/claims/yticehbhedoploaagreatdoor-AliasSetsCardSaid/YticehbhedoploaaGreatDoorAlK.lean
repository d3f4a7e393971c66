/- alias: Insert where there is no room, Delete. -/
import Derived.Test.YticehbhedoploaaGreatDoorAlJ
import Derived.Lib.AppendZerosOnto
namespace Go.Proofs.YticehbhedoploaaGreatDoor
open Go.RowKit Go.Lib
set_option linter.unusedVariables false

def zAl : Value := .agg #[.string { data := #[] }, .string { data := #[] }]
theorem zAl_cells : zAl.cells.size = 2 := rfl
theorem zAl_one : (Builtin.zeroCells zAl.cells 1).toList = [.string { data := #[] }, .string { data := #[] }] := by
  apply List.ext_getElem?
  intro j
  have h : zAl.cells = #[.string { data := #[] }, .string { data := #[] }] := rfl
  rw [h]
  unfold Builtin.zeroCells
  match j with
  | 0 => simp
  | 1 => simp
  | k + 2 => simp
theorem step_append_runA {P : Program} {ops : Array Oper} {o : Oper} {a : Act} {w : World} {K : Act → World → Prop} {Q : Exit → Act → World → Prop} {E : Prop}
    (hg : o.guard = none) (d x : Operand) (dT sT : TypeId) (hop : o.op = Op.call { callee := Callee.builtin Builtin.append, args := #[d, x], argTypes := #[dT, sT] })
    (v u : Value) (hd : a.eval d = v) (hx : a.eval x = u) {v' : Value} {w' : World} (hr : (Builtin.append_ #[dT, sT] o.type #[v, u]).run P w = .ok v' w') (hK : K (a.put o.dst v') w') :
    if Region.wanted o (yielded ops a.tmps) = true then Oper.wp P o a w K Q else E := by
  have hw : Region.wanted o (yielded ops a.tmps) = true := by simp [Region.wanted, hg]
  rw [if_pos hw]
  unfold Oper.wp
  simp [execOp, hop, resolve, invoke, builtin, hd, hx, hr, Result.andThen]
  exact hK
set_option maxHeartbeats 2000000 in
set_option maxRecDepth 100000 in
theorem insGrow_c (vb g n c i : Nat) (cur : Array Value) (l : List Al) (x : Al) (w : World) (hh : w.heap[g]? = some (.cells cur 47 (0, 0))) (hln : l.length = n) (hcs : cur.size = c * 2) (htk : cur.toList.take (n * 2) = alCells l)
    (hx : w.heap[vb]? = some (.cells #[.string x.n, .string x.v] 47 (0, 0))) (hl : n ≤ 1000000) (hin : i < n) (hnc : n ≤ c) (hroom : c < n + 1) :
    Calls Tryz.prog 43 #[.slice (some ⟨g, 0, none⟩) n c, .int .i64 i, .slice (some ⟨vb, 0, none⟩) 1 1] w fun e w' => ∃ G, e = .returned (.slice (some ⟨w.heap.size, 0, none⟩) (n + 1) G) ∧ RowA w' w.heap.size (l.take i ++ x :: l.drop i) ∧ Below w.heap.size w w' ∧ w.heap.size < w'.heap.size := by
  have hcell : ∀ j u, (alCells l)[j]? = some u → w.cell? ⟨g, j, none⟩ = some u := fun j u hu => by
    rw [Lib.cell_of_heap hh]
    rw [← htk, List.getElem?_take] at hu
    split at hu
    · simpa using hu
    · cases hu
  obtain ⟨i0, hi, hz0, hz1, hz2⟩ := al_info_parts alInfo
  have hz0' : i0.zero = some zAl := hz0
  have hsz : (Tryz.prog.info? 47).map (·.size) = some 2 := by rw [hi]; simp [hz1]
  have hgw : g < w.heap.size := by rw [Array.getElem?_eq_some_iff] at hh; exact hh.1
  have hvw : vb < w.heap.size := by rw [Array.getElem?_eq_some_iff] at hx; exact hx.1
  have hlt : (alCells (l.take i)).length = i * 2 := by rw [alCells_length, List.length_take]; omega
  have hdl : (alCells (l.drop i)).length = (n - i) * 2 := by rw [alCells_length, List.length_drop, hln]
  have hsplit : alCells l = alCells (l.take i) ++ alCells (l.drop i) := by rw [← alCells_append, List.take_append_drop]
  have hal : ∀ j u, (alCells (l.drop i))[j]? = some u → (alCells l)[i * 2 + j]? = some u := fun j u hu => by
    rw [hsplit, List.getElem?_append_right (by omega), hlt, Nat.add_sub_cancel_left]
    exact hu
  have hat : ∀ j u, (alCells (l.take i))[j]? = some u → j < i * 2 ∧ (alCells l)[j]? = some u := fun j u hu => by
    have hj := (List.getElem?_eq_some_iff.1 hu).1
    rw [hsplit, List.getElem?_append_left (by omega)]
    exact ⟨by omega, hu⟩
  have hkk : (n : Int) + 1 - (i : Int) = ((n + 1 - i : Nat) : Int) := by omega
  have hik : i + (n + 1 - i) = n + 1 := by omega
  have hold : (Builtin.firstCells i0.size i (.slice (some ⟨g, 0, none⟩) i c)).run Tryz.prog w.drew = .ok (alCells (l.take i)).toArray w.drew := by
    rw [hz1]
    exact run_firstCells_some w.drew 2 i ⟨g, 0, none⟩ i c (alCells (l.take i)) (by rw [hlt]) (fun j v hj => by
      rw [Addr.add_lit, Nat.zero_add]
      exact hcell j v (hat j v hj).2)
  have hrz : ∀ ty, (Builtin.append_ #[22, 3] ty #[.slice (some ⟨g, 0, none⟩) i c, .int .i64 ((n : Int) + 1 - (i : Int))]).run Tryz.prog w =
      .ok (.slice (some ⟨w.heap.size, 0, none⟩) (n + 1) (grownCap w (n + 1) c 47)) (w.drew.alloc (.cells ((alCells (l.take i)).toArray ++ Builtin.zeroCells zAl.cells (n + 1 - i) ++ Builtin.zeroCells zAl.cells (grownCap w (n + 1) c 47 - (n + 1))) 47)) := fun ty => by
    have h := Lib.run_append_grow_zeros w 22 3 ty 47 i0 _ .i64 .i64 Tryz.underlying22 Tryz.underlying3 hi hz0' (some ⟨g, 0, none⟩) i c (alCells (l.take i)) hold (n + 1 - i) (by omega) (by omega) (by omega) (by omega) (by rw [hz2]; omega) (by rw [hz2, hik]; exact growslice_fits hroom (by omega))
    rw [hik] at h
    rw [hkk]
    exact h
  obtain ⟨G, hG⟩ : ∃ G, G = grownCap w (n + 1) c 47 := ⟨_, rfl⟩
  obtain ⟨ROW, hROW⟩ : ∃ ROW : Array Value, ROW = (alCells (l.take i)).toArray ++ Builtin.zeroCells zAl.cells (n + 1 - i) ++ Builtin.zeroCells zAl.cells (G - (n + 1)) := ⟨_, rfl⟩
  rw [← hG] at hrz
  rw [← hROW] at hrz
  have hRl : (n + 1) * 2 ≤ ROW.size := by
    rw [hROW]
    simp only [Array.size_append, List.size_toArray, size_zeroCells, zAl_cells, hlt]
    omega
  have hRg : ∀ j u, (alCells (l.take i))[j]? = some u → ROW[j]? = some u := fun j u hu => by
    have hj := (List.getElem?_eq_some_iff.1 hu).1
    rw [hROW, Array.getElem?_append_left (by simp only [Array.size_append, List.size_toArray]; omega), Array.getElem?_append_left (by simp only [List.size_toArray]; omega)]
    simpa using hu
  obtain ⟨W1, hW1⟩ : ∃ W1, W1 = w.drew.alloc (.cells ROW 47) := ⟨_, rfl⟩
  rw [← hW1] at hrz
  have hN : ∀ j, j < (n + 1) * 2 → (W1.cell? ⟨w.heap.size, j, none⟩).isSome = true := fun j hj => by
    rw [hW1, World.cell?_alloc_at (w := w.drew) ROW _ w.heap.size j rfl, Array.getElem?_eq_getElem (by omega)]; rfl
  have hNt : ∀ j u, (alCells (l.take i))[j]? = some u → W1.cell? ⟨w.heap.size, j, none⟩ = some u := fun j u hu => by
    rw [hW1, World.cell?_alloc_at (w := w.drew) ROW _ w.heap.size j rfl]
    exact hRg j u hu
  have hNf : ∀ j, W1.frozen? ⟨w.heap.size, j, none⟩ = false := fun j => by rw [hW1]; exact World.frozen?_alloc_at (w := w.drew) ROW _ w.heap.size j rfl
  have hOb : ∀ j v, w.cell? ⟨g, j, none⟩ = some v → W1.cell? ⟨g, j, none⟩ = some v := fun j v h => by rw [hW1, World.cell?_alloc_past (w := w.drew) _ g j hgw]; exact h
  have hvx : ∀ j v, [Value.string x.n, Value.string x.v][j]? = some v → W1.cell? ⟨vb, 0 + j, none⟩ = some v := fun j v hj => by
    rw [hW1, World.cell?_alloc_past (w := w.drew) _ vb _ hvw]
    show w.cell? _ = _
    rw [Lib.cell_of_heap hx, Nat.zero_add]
    match j with
    | 0 => simpa using hj
    | 1 => simpa using hj
    | k + 2 => simp at hj
  have hcpA : ∀ (W : World), (∀ x, W.cell? x = W1.cell? x) → (∀ x, W.frozen? x = W1.frozen? x) → ∀ ty dc, (Builtin.copy_ #[22, 22] ty #[.slice (some ⟨w.heap.size, i * 2, none⟩) (n + 1 - i) dc, .slice (some ⟨vb, 0, none⟩) 1 1]).run Tryz.prog W = .ok (goInt (Nat.min 1 (n + 1 - i))) (W.setCells w.heap.size (i * 2) [.string x.n, .string x.v]) := fun W hWc hWf ty dc =>
    run_copy_k W _ _ ty 47 w.heap.size (i * 2) (n + 1 - i) dc ⟨vb, 0, none⟩ 1 1 2 [.string x.n, .string x.v] Tryz.underlying22 hsz (by simp only [Nat.min_def, List.length_cons, List.length_nil]; split <;> omega)
      (fun j v hj => by rw [Addr.add_lit, hWc]; exact hvx j v hj)
      (fun j hj => by rw [hWc]; simp at hj; exact hN _ (by omega)) (fun j hj => by rw [hWf]; exact hNf _) (by intro u hu; simp at hu; rcases hu with rfl | rfl <;> rfl)
  have hGn : n + 1 ≤ G := by rw [hG]; exact grownCap_ge w _ _ _
  have hG63 : G ≤ 9223372036854775807 := by
    have := grownCap_le_maxLen w (n + 1) c 47 (by unfold maxLen; omega)
    rw [← hG] at this
    unfold maxLen at this
    omega
  have hGi : ¬ (G = i) := by omega
  have hGim : ¬ (G = i + 1) := by omega
  have hci : ¬ (c = i) := by omega
  have hbN : g ≠ w.heap.size := by omega
  have hcpB : ∀ (W : World), (∀ y, W.cell? y = (W1.setCells w.heap.size (i * 2) [.string x.n, .string x.v]).cell? y) → (∀ y, W.frozen? y = (W1.setCells w.heap.size (i * 2) [.string x.n, .string x.v]).frozen? y) → ∀ ty dc sc, (Builtin.copy_ #[22, 22] ty #[.slice (some ⟨w.heap.size, (i + 1) * 2, none⟩) (n - i) dc, .slice (some ⟨g, i * 2, none⟩) (n - i) sc]).run Tryz.prog W = .ok (goInt (Nat.min (n - i) (n - i))) (W.setCells w.heap.size ((i + 1) * 2) (alCells (l.drop i))) := fun W hWc hWf ty dc sc =>
    run_copy_k W _ _ ty 47 w.heap.size ((i + 1) * 2) (n - i) dc ⟨g, i * 2, none⟩ (n - i) sc 2 (alCells (l.drop i)) Tryz.underlying22 hsz (by rw [hdl]; simp only [Nat.min_def]; split <;> omega)
      (fun j v hj => by
        rw [Addr.add_lit, hWc, World.cell?_setCells_out _ _ _ _ _ (fun h _ => absurd h hbN)]
        exact hOb _ v (hcell _ v (hal j v hj)))
      (fun j hj => by rw [hWc]; exact isSome_setCells w.heap.size [.string x.n, .string x.v] (i * 2) W1 (fun t ht => by simp at ht; exact hN _ (by omega)) _ (hN _ (by omega)))
      (fun j hj => by rw [hWf, World.frozen?_setCells]; exact hNf _) (alCells_one _)
  have hrow : RowA ((W1.setCells w.heap.size (i * 2) [.string x.n, .string x.v]).setCells w.heap.size ((i + 1) * 2) (alCells (l.drop i))) w.heap.size (l.take i ++ x :: l.drop i) := by
    have hin1 := World.cell?_setCells_in w.heap.size [.string x.n, .string x.v] (i * 2) W1 (fun j hj => by simp at hj; exact hN _ (by omega))
    have hin2 := World.cell?_setCells_in w.heap.size (alCells (l.drop i)) ((i + 1) * 2) (W1.setCells w.heap.size (i * 2) [.string x.n, .string x.v]) (fun j hj => isSome_setCells w.heap.size [.string x.n, .string x.v] (i * 2) W1 (fun t ht => by simp at ht; exact hN _ (by omega)) _ (hN _ (by omega)))
    refine rowA_ins (by omega) (fun j u hu => ?_) ?_ ?_ (fun j u hu => ?_) (fun j => ?_)
    · obtain ⟨h1, h2⟩ := hat j u hu
      rw [World.cell?_setCells_out _ _ _ _ _ (fun _ _ => by show j < _ ∨ _; omega), World.cell?_setCells_out _ _ _ _ _ (fun _ _ => by show j < _ ∨ _; omega)]
      exact hNt j u hu
    · rw [World.cell?_setCells_out _ _ _ _ _ (fun _ _ => by show i * 2 < _ ∨ _; omega)]
      exact hin1 0 (by simp)
    · rw [World.cell?_setCells_out _ _ _ _ _ (fun _ _ => by show i * 2 + 1 < _ ∨ _; omega)]
      exact hin1 1 (by simp)
    · obtain ⟨hj1, hj2⟩ := List.getElem?_eq_some_iff.1 hu
      rw [hin2 j hj1, hj2]
    · rw [World.frozen?_setCells, World.frozen?_setCells]; exact hNf j
  have hbel : Below w.heap.size w ((W1.setCells w.heap.size (i * 2) [.string x.n, .string x.v]).setCells w.heap.size ((i + 1) * 2) (alCells (l.drop i))) := by
    rw [hW1]
    exact below_setCells (Nat.le_refl _) _ _ _ (below_setCells (Nat.le_refl _) _ _ _ (((Below.refl _ w).drew).alloc (Nat.le_refl _) _))
  have hsize : w.heap.size < ((W1.setCells w.heap.size (i * 2) [.string x.n, .string x.v]).setCells w.heap.size ((i + 1) * 2) (alCells (l.drop i))).heap.size := by
    rw [hW1, size_setCells, size_setCells]
    show w.heap.size < (w.drew.alloc _).heap.size
    rw [World.size_alloc]
    exact Nat.lt_succ_self _
  have Hrow := Lib.hid hrow; have Hbel := Lib.hid hbel; have Hsize := Lib.hid hsize
  have hz2' : ¬ ((i : Int) = (n : Int)) := by omega
  have hw1 : IntKind.i64.wrap ((i : Int) + 1) = (i : Int) + 1 := by rw [IntKind.wrap_i64]; omega
  have hb1 : (0 : Int) ≤ (i : Int) + 1 := by omega
  have hin' : i ≤ n := by omega
  have htn : ((i : Int) + 1).toNat = i + 1 := by omega
  have hb5 : decide ((c : Int) < (n : Int) + 1) = true := decide_eq_true (by omega)
  subst hW1
  have hE1 : ∀ x, ((w.alloc (.cells ROW 47)).drew).cell? x = (w.drew.alloc (.cells ROW 47)).cell? x := fun x => rfl
  have hE2 : ∀ x, ((w.alloc (.cells ROW 47)).drew).frozen? x = (w.drew.alloc (.cells ROW 47)).frozen? x := fun x => rfl
  have hF1 : ∀ y, (((w.alloc (.cells ROW 47)).drew.setCells w.heap.size (i * 2) [.string x.n, .string x.v]).drew).cell? y = ((w.drew.alloc (.cells ROW 47)).setCells w.heap.size (i * 2) [.string x.n, .string x.v]).cell? y := fun x => rfl
  have hF2 : ∀ y, (((w.alloc (.cells ROW 47)).drew.setCells w.heap.size (i * 2) [.string x.n, .string x.v]).drew).frozen? y = ((w.drew.alloc (.cells ROW 47)).setCells w.heap.size (i * 2) [.string x.n, .string x.v]).frozen? y := fun x => rfl
  clear hkk hik hold hROW hG hRl hrow hbel hsize hvx hal hat hdl hcell hN hNt hNf hOb hRg hlt hsplit
  have mixed : Tryz.prog.follows .mixedOrders = true := by kernel_rfl
  go_enter Tryz.func43, Tryz.ntmps43
  go_wp2_with (first
    | (at_builtin; refine Lib.wpList_append_run _ rfl _ _ _ _ rfl _ _ rfl rfl _ _ (hrz _) ?_)
    | (at_builtin; refine wpList_copy_runI _ rfl _ _ 22 22 rfl _ _ rfl rfl (hcpA _ hE1 hE2 _ _) ?_))
  go_region_law_o (refine step_copy_runI rfl _ _ 22 22 rfl (.slice (some ⟨w.heap.size, (i + 1) * 2, none⟩) (n - i) (G - (i + 1))) (.slice (some ⟨g, i * 2, none⟩) (n - i) (c - i)) (by simp [Act.eval, Act.put]) (by simp [Act.eval, Act.put]) (hcpB _ hF1 hF2 _ _ _) ?_)
  go_wp2_with fail
  go_ret
  rw [← drew_setCells]
  exact ⟨G, rfl, Hrow.out, Hbel.out.drew, Hsize.out⟩
set_option maxHeartbeats 2000000 in
set_option maxRecDepth 100000 in
theorem Delete_c (B g n c i : Nat) (cur : Array Value) (l : List Al) (w : World) (hh : w.heap[g]? = some (.cells cur 47 (0, 0))) (hln : l.length = n) (hcs : cur.size = c * 2) (htk : cur.toList.take (n * 2) = alCells l) (hBg : B ≤ g)
    (hl : n ≤ 1000000) (hin : i < n) (hnc : n ≤ c) (hcm : c ≤ 9223372036854775807) :
    Calls Tryz.prog 45 #[.slice (some ⟨g, 0, none⟩) n c, .int .i64 i, .int .i64 ((i : Int) + 1)] w fun e w' => e = .returned (.slice (some ⟨g, 0, none⟩) (n - 1) c) ∧ RowA w' g (l.take i ++ l.drop (i + 1)) ∧ Below B w w' ∧ w'.heap.size = w.heap.size := by
  have hcell : ∀ j u, (alCells l)[j]? = some u → w.cell? ⟨g, j, none⟩ = some u := fun j u hu => by
    rw [Lib.cell_of_heap hh]
    rw [← htk, List.getElem?_take] at hu
    split at hu
    · simpa using hu
    · cases hu
  have hsome : ∀ j, j < n * 2 → (w.cell? ⟨g, j, none⟩).isSome = true := fun j hj => by
    rw [Lib.cell_of_heap hh, Array.getElem?_eq_getElem (by omega)]; rfl
  have hfz : ∀ j, w.frozen? ⟨g, j, none⟩ = false := fun j => Lib.frozen_of_heap hh j
  obtain ⟨i0, hi, hz0, hz1, hz2⟩ := al_info_parts alInfo
  have hdl : (alCells (l.drop (i + 1))).length = (n - (i + 1)) * 2 := by rw [alCells_length, List.length_drop, hln]
  have hlt : (alCells (l.take i)).length = i * 2 := by rw [alCells_length, List.length_take]; omega
  have hlt1 : (alCells (l.take (i + 1))).length = (i + 1) * 2 := by rw [alCells_length, List.length_take]; omega
  have hal : ∀ j u, (alCells (l.drop (i + 1)))[j]? = some u → (alCells l)[(i + 1) * 2 + j]? = some u := fun j u hu => by
    have e : alCells l = alCells (l.take (i + 1)) ++ alCells (l.drop (i + 1)) := by rw [← alCells_append, List.take_append_drop]
    rw [e, List.getElem?_append_right (by omega), hlt1, Nat.add_sub_cancel_left]
    exact hu
  have hat : ∀ j u, (alCells (l.take i))[j]? = some u → j < i * 2 ∧ (alCells l)[j]? = some u := fun j u hu => by
    have e : alCells l = alCells (l.take i) ++ alCells (l.drop i) := by rw [← alCells_append, List.take_append_drop]
    have hj := (List.getElem?_eq_some_iff.1 hu).1
    rw [e, List.getElem?_append_left (by omega)]
    exact ⟨by omega, hu⟩
  obtain ⟨W1, hW1⟩ : ∃ W1, W1 = w.drew.setCells g (i * 2) (alCells (l.drop (i + 1))) := ⟨_, rfl⟩
  have happ : ∀ (a : Addr) (sc : Nat), (∀ j u, (alCells (l.drop (i + 1)))[j]? = some u → w.cell? (a.add j) = some u) → ∀ ty, (Builtin.append_ #[22, 22] ty #[.slice (some ⟨g, 0, none⟩) i c, .slice (some a) (n - (i + 1)) sc]).run Tryz.prog w.drew = .ok (.slice (some ⟨g, 0, none⟩) (n - 1) c) W1 := fun a sc ha ty => by
    have h := run_append_room_cells (P := Tryz.prog) w.drew 22 ty 47 i0 Tryz.underlying22 hi g 0 i c a (n - (i + 1)) sc (alCells (l.drop (i + 1))) (by rw [hz1, hdl]) (fun j u hu => ha j u hu) (alCells_one _) (by omega) (fun j hj => by rw [hz1]; exact hsome _ (by omega)) (fun j hj => hfz _)
    rw [h, hz1, Nat.zero_add, hW1]
    congr 2
    omega
  have hcl : ∀ (W : World), (∀ x, W.cell? x = W1.cell? x) → (∀ x, W.frozen? x = W1.frozen? x) → ∀ ty sc, (Builtin.clear_ #[22] ty #[.slice (some ⟨g, (n - 1) * 2, none⟩) 1 sc]).run Tryz.prog W = .ok (.tuple #[]) (W.setCells g ((n - 1) * 2) [.string { data := #[] }, .string { data := #[] }]) := fun W hWc hWf ty sc =>
    run_clear_k W 22 47 ty zAl [.string { data := #[] }, .string { data := #[] }] Tryz.underlying22 (fun W => by simp [zeroValue, typeInfo, hi, hz0]; rfl) zAl_one (by intro u hu; simp at hu; rcases hu with rfl | rfl <;> rfl) g ((n - 1) * 2) sc
      (fun j hj => by
        rw [hWc, hW1]
        simp at hj
        exact isSome_setCells g (alCells (l.drop (i + 1))) (i * 2) w.drew (fun t ht => hsome _ (by omega)) _ (hsome _ (by omega)))
      (fun j hj => by rw [hWf, hW1, World.frozen?_setCells]; exact hfz _)
  have hrow : RowA (W1.setCells g ((n - 1) * 2) [.string { data := #[] }, .string { data := #[] }]) g (l.take i ++ l.drop (i + 1)) := by
    intro j u hu
    refine ⟨?_, by rw [World.frozen?_setCells, hW1, World.frozen?_setCells]; exact hfz j⟩
    rw [alCells_append] at hu
    have hj := (List.getElem?_eq_some_iff.1 hu).1
    rw [List.length_append, hlt, hdl] at hj
    rw [World.cell?_setCells_out g _ _ _ _ (fun _ _ => by show j < _ ∨ _; omega), hW1]
    by_cases h1 : j < i * 2
    · rw [List.getElem?_append_left (by omega)] at hu
      rw [World.cell?_setCells_out g _ _ _ _ (fun _ _ => by show j < _ ∨ _; omega)]
      exact hcell j u (hat j u hu).2
    · rw [List.getElem?_append_right (by omega), hlt] at hu
      obtain ⟨k, rfl⟩ : ∃ k, j = i * 2 + k := ⟨j - i * 2, by omega⟩
      rw [Nat.add_sub_cancel_left] at hu
      obtain ⟨hk1, hk2⟩ := List.getElem?_eq_some_iff.1 hu
      rw [World.cell?_setCells_in g (alCells (l.drop (i + 1))) (i * 2) w.drew (fun t ht => hsome _ (by omega)) k hk1, hk2]
  have hbel : Below B w (W1.setCells g ((n - 1) * 2) [.string { data := #[] }, .string { data := #[] }]) := by
    rw [hW1]
    exact below_setCells hBg _ _ _ (below_setCells hBg _ _ _ (Below.refl B w).drew)
  have hsize : (W1.setCells g ((n - 1) * 2) [.string { data := #[] }, .string { data := #[] }]).heap.size = w.heap.size := by
    rw [hW1, size_setCells, size_setCells]
    rfl
  have Hrow := Lib.hid hrow; have Hbel := Lib.hid hbel; have Hsize := Lib.hid hsize
  have happ1 := happ ⟨g, (i + 1) * 2, none⟩ (c - (i + 1)) (fun j u hu => by rw [Addr.add_lit]; exact hcell _ u (hal j u hu))
  have happ2 : n = i + 1 → ∀ sc ty, (Builtin.append_ #[22, 22] ty #[.slice (some ⟨g, 0, none⟩) i c, .slice (some ⟨g, 0, none⟩) (n - (i + 1)) sc]).run Tryz.prog w.drew = .ok (.slice (some ⟨g, 0, none⟩) (n - 1) c) W1 := fun hn sc => happ ⟨g, 0, none⟩ sc (fun j u hu => by
    have hj := (List.getElem?_eq_some_iff.1 hu).1
    omega)
  have hw1 : IntKind.i64.wrap ((i : Int) + 1) = (i : Int) + 1 := by rw [IntKind.wrap_i64]; omega
  have hb1 : (0 : Int) ≤ (i : Int) + 1 := by omega
  have hin' : i ≤ n := by omega
  have hb2 : (i : Int) + 1 ≤ (n : Int) := by omega
  have hb3 : (i : Int) ≤ (i : Int) + 1 := by omega
  have hb6 : (n : Int) ≤ (c : Int) := by omega
  have htn : ((i : Int) + 1).toNat = i + 1 := by omega
  have hb4 : ((i : Int) == (i : Int) + 1) = false := by rw [beq_eq_false_iff_ne]; omega
  have hb7 : ¬ (c = n - 1) := by omega
  have hb8 : n - 1 ≤ n := by omega
  have hb9 : n - (n - 1) = 1 := by omega
  have hb10 : (i : Int) ≤ (c : Int) := by omega
  have hb11 : (i : Int) + 1 ≤ (c : Int) := by omega
  have mixed : Tryz.prog.follows .mixedOrders = true := by kernel_rfl
  clear hrow hbel hsize hal hat hdl hcell hsome hfz happ hlt hlt1
  have hcl1 := hcl W1 (fun _ => rfl) (fun _ => rfl)
  clear hcl
  by_cases hci : c = i + 1
  · have hni : n = i + 1 := by omega
    have happ3 : ∀ sc ty, (Builtin.append_ #[22, 22] ty #[.slice (some ⟨g, 0, none⟩) i (i + 1), .slice (some ⟨g, 0, none⟩) 0 sc]).run Tryz.prog w.drew = .ok (.slice (some ⟨g, 0, none⟩) i (i + 1)) W1 := fun sc ty => by
      have h := happ2 hni sc ty
      rw [hci, hni] at h
      rw [show i + 1 - (i + 1) = 0 from by omega, show i + 1 - 1 = i from by omega] at h
      exact h
    have hcl3 : ∀ ty sc, (Builtin.clear_ #[22] ty #[.slice (some ⟨g, i * 2, none⟩) 1 sc]).run Tryz.prog W1 = .ok (.tuple #[]) (W1.setCells g ((n - 1) * 2) [.string { data := #[] }, .string { data := #[] }]) := fun ty sc => by
      have h := hcl1 ty sc
      rw [show n - 1 = i from by omega] at h ⊢
      exact h
    have hW0 : W1 = w.drew := by
      rw [hW1, List.drop_eq_nil_of_le (by omega)]
      rfl
    have Hcl3 : ∀ ty sc, (Builtin.clear_ #[22] ty #[.slice (some ⟨g, i * 2, none⟩) 1 sc]).run Tryz.prog w.drew = .ok (.tuple #[]) (W1.setCells g ((n - 1) * 2) [.string { data := #[] }, .string { data := #[] }]) := fun ty sc => by
      rw [← hW0]; exact hcl3 ty sc
    clear hcl1 happ2 happ1 hcl3 hW0 hW1
    subst hci
    have Hni := Lib.hid hni
    clear hni hb9 hb8 hb7
    rw [Hni.out]
    go_enter Tryz.func45, Tryz.ntmps45
    go_wp2_with fail
    go_region_law_o (refine step_append_runA rfl _ _ 22 22 rfl _ _ (by simp [Act.eval, Act.put]) (by simp [Act.eval, Act.put]) (happ3 _ _) ?_)
    go_wp2_with (simp only [Hcl3])
    go_ret
    exact ⟨rfl, Hrow.out, Hbel.out, Hsize.out⟩
  · clear happ2
    subst hW1
    go_enter Tryz.func45, Tryz.ntmps45
    go_wp2_with fail
    go_region_law_o (refine step_append_runA rfl _ _ 22 22 rfl _ _ (by simp [Act.eval, Act.put]) (by simp [Act.eval, Act.put]) (happ1 _) ?_)
    go_wp2_with (simp only [hcl1])
    go_ret
    exact ⟨rfl, Hrow.out, Hbel.out, Hsize.out⟩
end Go.Proofs.YticehbhedoploaaGreatDoor
