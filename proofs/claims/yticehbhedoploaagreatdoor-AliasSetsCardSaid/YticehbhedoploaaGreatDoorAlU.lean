/- alias: a token is replaced. -/
import Derived.Test.YticehbhedoploaaGreatDoorAlT
namespace Go.Proofs.YticehbhedoploaaGreatDoor
open Go.RowKit
set_option linter.unusedVariables false

theorem vInfo : (Tryz.prog.info? 162).map (fun i => (i.zero, i.size, i.bytes)) = some (some (.agg #[.string { data := #[] }, .int .i64 0, .bool false]), 3, 32) := by kernel_rfl
theorem step_update_runA {P : Program} {ops : Array Oper} {o : Oper} {a : Act} {w : World} {K : Act → World → Prop} {Q : Exit → Act → World → Prop} {E : Prop}
    (hg : o.guard = none) (d x y : Operand) (dT : TypeId) (hop : o.op = Op.mapUpdate dT d x y)
    (v u z : Value) (hd : a.eval d = v) (hx : a.eval x = u) (hy : a.eval y = z) {w' : World} (hr : (Instr.mapUpdate dT v u z).run P w = .ok () w') (hK : K (a.put o.dst undef) w') :
    if Region.wanted o (yielded ops a.tmps) = true then Oper.wp P o a w K Q else E := by
  have hw : Region.wanted o (yielded ops a.tmps) = true := by simp [Region.wanted, hg]
  rw [if_pos hw]
  unfold Oper.wp
  simp [execOp, hop, hd, hx, hy, hr, Result.andThen]
  exact hK
theorem actB_cons (l : List ByteArray) (s t : ByteArray) : actB (s :: l) t = (decide (s = t) || actB l t) := by simp [actB]
theorem mapA_put {h n : Nat} {l : List ByteArray} {W : World} (H : MapA h n l W) (s : ByteArray) (hs : s.size ≤ maxLen) (hn : n < maxLen) :
    ∃ w', (Instr.mapUpdate 64 (.map (some h)) (.string s) (.bool true)).run Tryz.prog W = .ok () w' ∧ MapA h (n + 1) (s :: l) w' ∧ W.grownBy w' (some h) := by
  obtain ⟨D, ho, hD⟩ := H
  obtain ⟨w', hr, h1, h2⟩ := ho.update (Maps.string_keyed Tryz.underlying9) Tryz.underlying64 hn (Go.WideMaps.keyOf_string_mk Tryz.underlying9 hs) (plainElem_bool Tryz.underlying4 true)
  refine ⟨w', hr, ⟨_, h1, fun t => ?_⟩, h2⟩
  rw [actB_cons]
  by_cases e : s = t
  · rw [← e, Maps.atKey_put_same ho.isMap (by trivial), decide_eq_true rfl, Bool.true_or]
  · rw [Maps.atKey_put_other (fun h => e (by
      have h' : t.data.toList = s.data.toList := by simpa using h
      exact (ByteArray.ext (Array.toList_inj.1 h')).symm)), hD, decide_eq_false e, Bool.false_or]
def repX (x : Ex) (t : Tk) (tx : ByteArray) : Ex :=
  { done := x.done ++ (x.rest.extract 0 t.pos).data.toList, rest := tx ++ x.rest.extract t.fin x.rest.size, vals := x.vals ++ [(t.text, (x.rest.extract t.fin x.rest.size).size, endsB tx)], act := t.text :: x.act, cmd := x.cmd, cnt := x.cnt + 1 }
set_option maxHeartbeats 4000000 in
set_option maxRecDepth 100000 in
theorem replace_c (B X h : Nat) (al : Value) (x : Ex) (t : Tk) (tx : ByteArray) (w : World) (H : ExAt B X h al x w) (hs : x.done.length + x.rest.size ≤ 1000000000) (htx : tx.size ≤ 1000000000) (htt : t.text.size ≤ 1000000000) (hv : x.vals.length ≤ 1000000) (hcn : x.cnt ≤ 1000000000)
    (hp : t.pos ≤ x.rest.size) (hf : t.fin ≤ x.rest.size) (hB : B ≤ w.heap.size) :
    Calls Tryz.prog 76 #[.pointer (some ⟨X, 0, none⟩), t.val, .string tx] w fun e w' => e = .returned (.tuple #[]) ∧ ExAt B X h al (repX x t tx) w' ∧ Below B w w' := by
  obtain ⟨i0, hi, hz0, hz1, hz2⟩ := al_info_parts vInfo
  obtain ⟨W, hW⟩ : ∃ W, W = w.alloc (tokObj t) := ⟨_, rfl⟩
  have hbW : Below w.heap.size w W := by rw [hW]; exact (Below.refl _ w).alloc (Nat.le_refl _) _
  have HW : ExAt B X h al x W := exAt_keep H (fun k hk => hbW.block k hk)
  have htW : W.heap[w.heap.size]? = some (tokObj t) := by rw [hW]; exact heap_alloc_new _ _
  have HHW := Lib.hid HW
  obtain ⟨p0, buf, vals, h1, h2, h3, h4, h5, h6, h7⟩ := HW
  have c2 : W.cell? ⟨X, 2, none⟩ = some (.string x.rest) := by rw [Lib.cell_of_heap h1]; rfl
  have k2 : W.cell? ⟨w.heap.size, 2, none⟩ = some (.int .i64 t.fin) := by rw [cell_of_row W _ 2 _ _ _ htW]; rfl
  have hWe : w.alloc (.cells #[.int .i64 t.kind, .int .i64 t.pos, .int .i64 t.fin, .string t.text] 118) = W := hW.symm
  have b1 : (0 : Int) ≤ (t.fin : Int) := by omega
  have b2 : (t.fin : Int) ≤ (x.rest.size : Int) := by omega
  have HtW := Lib.hid htW
  have HbW := Lib.hid hbW
  clear h1 h2 h3 h4 h5 hW H htW hbW
  show Calls Tryz.prog 76 #[.pointer (some ⟨X, 0, none⟩), .agg #[.int .i64 t.kind, .int .i64 t.pos, .int .i64 t.fin, .string t.text], .string tx] w _
  go_enter Tryz.func76, Tryz.ntmps76
  go_wp2_with fail
  go_quiet (fail)
  obtain ⟨V, hV⟩ : ∃ V, V = W.drewN nq := ⟨_, rfl⟩
  rw [← hV]
  have hk0 : ∀ k, V.heap[k]? = W.heap[k]? := fun k => by rw [hV]; exact drewN_heap nq W k
  have hsz0 : V.heap.size = W.heap.size := by rw [hV]; simp
  have hbV : Below w.heap.size w V := by rw [hV]; exact below_drewN HbW.out _
  have htV : V.heap[w.heap.size]? = some (tokObj t) := (hk0 _).trans HtW.out
  have HV : ExAt B X h al x V := exAt_keep HHW.out (fun k _ => hk0 k)
  clear hV c2 k2 hk0 HHW hWe
  obtain ⟨p0, buf, vals, h1, h2, h3, h4, h5, _, _⟩ := HV
  have hTl : w.heap.size < V.heap.size := by rw [Array.getElem?_eq_some_iff] at htV; exact htV.1
  have hXl : X < V.heap.size := by unfold ExC at h1; rw [Array.getElem?_eq_some_iff] at h1; exact h1.1
  obtain ⟨EX, hEX⟩ : ∃ EX, EX = x.rest.extract t.fin x.rest.size := ⟨_, rfl⟩
  rw [← hEX]
  have hEs : EX.size ≤ x.rest.size := by rw [hEX, ByteArray.size_extract]; omega
  obtain ⟨W5, hW5⟩ : ∃ W5, W5 = V.drew.alloc (.cells #[.string t.text, .int .i64 EX.size, .bool (endsB tx)] 162) := ⟨_, rfl⟩
  have hk5 : ∀ k, k < V.heap.size → W5.heap[k]? = V.heap[k]? := fun k hk => by rw [hW5]; exact Below.heap_alloc _ _ _ hk
  have h4W5 := row_keep h4 (w' := W5) (fun g hg => hk5 g (h4.lt g hg).2)
  have hnews := World.news_of_block (cs := #[.string t.text, .int .i64 EX.size, .bool (endsB tx)]) (t := 162) (fr := (0, 0)) (heap_alloc_new V.drew (.cells #[.string t.text, .int .i64 EX.size, .bool (endsB tx)] 162))
  rw [← hW5] at hnews
  have hBW5 : B ≤ W5.heap.size := by rw [hW5, World.size_alloc]; show B ≤ V.heap.size + 1; omega
  obtain ⟨v9, w9, happ, hown9, hgrow9, _⟩ := run_append_own (P := Tryz.prog) W5 B 69 69 162 i0 _ 3 32 Tryz.underlying69 hi hz0 hz1 hz2 rfl (by decide) vals x.vals.length (vCells x.vals) h4W5 ⟨V.heap.size, 0, none⟩ 1 1 [.string t.text, .int .i64 EX.size, .bool (endsB tx)] rfl hnews (by intro u hu; simp at hu; rcases hu with rfl | rfl | rfl <;> rfl) (by unfold maxLen; omega) (by omega) hBW5
  obtain ⟨a9, n9, cp9, rfl⟩ : ∃ a n c, v9 = .slice a n c := by
    rcases hown9.2 with ⟨hv, _⟩ | ⟨g, cap, cur, hv, _⟩
    · exact ⟨_, _, _, hv⟩
    · exact ⟨_, _, _, hv⟩
  have hk9 : ∀ k (o : Obj), V.heap[k]? = some o → (∀ cu, o ≠ Obj.cells cu 162 (0, 0)) → w9.heap[k]? = some o := fun k o hk ho => by
    have hkl : k < V.heap.size := by rw [Array.getElem?_eq_some_iff] at hk; exact hk.1
    have h5k := (hk5 k hkl).trans hk
    rw [hgrow9.block k (by rw [hW5, World.size_alloc]; show k < V.heap.size + 1; omega) (fun e => ?_)]
    · exact h5k
    · obtain ⟨cu, hcu⟩ := row_obj h4W5 e.symm
      rw [h5k] at hcu
      injection hcu with hcu
      exact ho _ hcu
  have hX9 : ExC X p0 buf (.string x.rest) al vals (.map (some h)) (.bool x.cmd) (.string ⟨#[]⟩) (.slice none 0 0) w9 := hk9 X _ h1 (fun cu e => by injection e with _ e _; exact exTyV e)
  have hT9 : w9.heap[w.heap.size]? = some (tokObj t) := hk9 _ _ htV (fun cu e => by unfold tokObj at e; injection e with _ e _; exact absurd e (by decide))
  have h39 : w9.ownsRow B 5 1 buf x.done.length (Lib.byteCells x.done) := row_keep h3 (fun g hg => by
    obtain ⟨cu, hcu⟩ := row_obj h3 hg
    rw [hk9 g _ hcu (fun c2 e => by injection e with _ e _; exact byteTyV e), hcu])
  have h59 : MapA h x.cnt x.act w9 := mapA_at h5 (fun es ck hm => by rw [hk9 h _ hm (fun cu e => by cases e), hm])
  have hb9 : Below B w w9 := by
    have h50 : Below B w W5 := by rw [hW5]; exact ((hbV.mono hB).drew).alloc (show B ≤ V.heap.size by omega) _
    exact h50.grown hgrow9 hBW5 (fun q hq => (h4W5.lt q hq).1)
  obtain ⟨y1, hy1⟩ : ∃ y1 : Ex, y1 = { x with vals := x.vals ++ [(t.text, EX.size, endsB tx)] } := ⟨_, rfl⟩
  obtain ⟨w10, hw10⟩ : ∃ w10, w10 = w9.setCell ⟨X, 4, none⟩ (.slice a9 n9 cp9) := ⟨_, rfl⟩
  have hb10 : Below B w w10 := by rw [hw10]; exact hb9.setCell (p := ⟨X, 4, none⟩) h6 _
  have hX10 : ExC X p0 buf (.string x.rest) al (.slice a9 n9 cp9) (.map (some h)) (.bool x.cmd) (.string ⟨#[]⟩) (.slice none 0 0) w10 := by rw [hw10]; exact heap_setCell_same _ _ _ _ _ _ hX9
  have hTX : w.heap.size ≠ X := by
    intro e
    rw [e] at htV
    have h1' : V.heap[X]? = _ := h1
    rw [htV] at h1'
    injection h1' with h1'
    injection h1' with _ h1' _
    exact absurd h1' (by decide)
  have hhX : h ≠ X := by
    intro e
    obtain ⟨es, ck, hm⟩ := mapA_obj h5
    rw [e] at hm
    have h1' : V.heap[X]? = _ := h1
    rw [hm] at h1'
    cases h1'
  have hT10 : w10.heap[w.heap.size]? = some (tokObj t) := by rw [hw10]; exact (set_only X 4 _ w9 _ hTX).trans hT9
  have h510 : MapA h x.cnt x.act w10 := mapA_at h59 (fun _ _ _ => by rw [hw10]; exact set_only X 4 _ w9 h hhX)
  have hE10 : ExAt B X h al y1 w10 := by
    rw [hw10, hy1]
    refine exAt_put (x := x) (W := w9) hX9 h2 h39 ?_ h59 h6 h7 (heap_setCell_same _ _ _ _ _ _ hX9) (set_only X 4 _ w9)
    show w9.ownsRow B _ 3 (.slice a9 n9 cp9) (x.vals ++ [(t.text, EX.size, endsB tx)]).length (vCells (x.vals ++ [(t.text, EX.size, endsB tx)]))
    rw [List.length_append, vCells_append]
    exact hown9
  have hmd : MapA h x.cnt x.act w10.drew := mapA_at h510 (fun _ _ _ => rfl)
  obtain ⟨w11, hupd, hm11, hgr11⟩ := mapA_put hmd t.text (by unfold maxLen; omega) (by unfold maxLen; omega)
  have hk11 : ∀ k, k < w10.heap.size → k ≠ h → w11.heap[k]? = w10.heap[k]? := fun k hk hn => hgr11.block k hk (fun e => hn (by injection e))
  have hbnd : ∀ {k : Nat} {o : Obj}, w10.heap[k]? = some o → k < w10.heap.size := fun {k o} hk => by rw [Array.getElem?_eq_some_iff] at hk; exact hk.1
  have hhl : h < w10.heap.size := by obtain ⟨es, ck, hm⟩ := mapA_obj h510; exact hbnd hm
  obtain ⟨y2, hy2⟩ : ∃ y2 : Ex, y2 = { y1 with act := t.text :: y1.act, cnt := y1.cnt + 1 } := ⟨_, rfl⟩
  have hE11 : ExAt B X h al y2 w11 := by
    obtain ⟨q0, qb, qv, g1, g2, g3, g4, g5, g6, g7⟩ := hE10
    have hrows : ∀ {e size n v xs}, w10.ownsRow B e size v n xs → w11.ownsRow B e size v n xs := fun {e size n v xs} hr => row_keep hr (fun g hg => by
      obtain ⟨cu, hcu⟩ := row_obj hr hg
      refine hk11 g (hbnd hcu) (fun e => ?_)
      obtain ⟨es, ck, hm⟩ := mapA_obj h510
      rw [← e, hcu] at hm
      cases hm)
    rw [hy2]
    refine ⟨q0, qb, qv, (hk11 X (hbnd g1) (fun e => hhX e.symm)).trans g1, g2, hrows g3, hrows g4, ?_, g6, g7⟩
    rw [hy1]
    exact hm11
  have hT11 : w11.heap[w.heap.size]? = some (tokObj t) := (hk11 _ (hbnd hT10) (fun e => by
    obtain ⟨es, ck, hm⟩ := mapA_obj h510
    rw [← e, hT10] at hm
    cases hm)).trans hT10
  have hb11 : Below B w w11 := hb10.drew.grown hgr11 (show B ≤ w10.heap.size by omega) (fun q hq => by injection hq with hq; omega)
  have hd2 : y2.done = x.done := by rw [hy2, hy1]
  have hr2 : y2.rest = x.rest := by rw [hy2, hy1]
  have HAdv := Lib.hid (advance_c B X h t.pos al y2 w11 hE11 (by rw [hd2, hr2]; exact hs) (by rw [hr2]; exact hp))
  have Hfin : Hid (∀ W', ExAt B X h al (advX y2 t.pos) W' → W'.cell? ⟨X, 2, none⟩ = some (.string (x.rest.extract t.pos x.rest.size)) ∧ W'.frozen? ⟨X, 2, none⟩ = false ∧ ExAt B X h al (repX x t tx) (W'.setCell ⟨X, 2, none⟩ (.string (tx ++ EX)))) := Lib.hid (fun W' hW' => by
    obtain ⟨q0, qb, qv, g1, g2, g3, g4, g5, g6, g7⟩ := hW'
    refine ⟨by rw [Lib.cell_of_heap g1]; show some (Value.string (y2.rest.extract t.pos y2.rest.size)) = _; rw [hr2], Lib.frozen_of_heap g1 2, ?_⟩
    have hy3 : repX x t tx = { advX y2 t.pos with rest := tx ++ EX } := by
      unfold repX advX
      rw [hy2, hy1, hEX]
    rw [hy3]
    exact exAt_put (W := W') g1 g2 g3 g4 g5 g6 g7 (heap_setCell_same _ _ _ _ _ _ g1) (set_only X 2 _ W'))
  have c4 : V.cell? ⟨X, 4, none⟩ = some vals := by rw [Lib.cell_of_heap h1]; rfl
  have k3 : V.cell? ⟨w.heap.size, 3, none⟩ = some (.string t.text) := by rw [cell_of_row V _ 3 _ _ _ htV]; rfl
  have c49 : w9.cell? ⟨X, 4, none⟩ = some vals := by rw [Lib.cell_of_heap hX9]; rfl
  have f49 : w9.frozen? ⟨X, 4, none⟩ = false := Lib.frozen_of_heap hX9 4
  have c510 : w10.cell? ⟨X, 5, none⟩ = some (.map (some h)) := by rw [Lib.cell_of_heap hX10]; rfl
  have k310 : w10.cell? ⟨w.heap.size, 3, none⟩ = some (.string t.text) := by rw [cell_of_row w10 _ 3 _ _ _ hT10]; rfl
  have k111 : w11.cell? ⟨w.heap.size, 1, none⟩ = some (.int .i64 t.pos) := by rw [cell_of_row w11 _ 1 _ _ _ hT11]; rfl
  have HE := Lib.hid (fun U => ends_c tx U htx)
  have hX5 : ExC X p0 buf (.string x.rest) al vals (.map (some h)) (.bool x.cmd) (.string ⟨#[]⟩) (.slice none 0 0) W5 := (hk5 X hXl).trans h1
  have c4W5 : W5.cell? ⟨X, 4, none⟩ = some vals := by rw [Lib.cell_of_heap hX5]; rfl
  have k3W5 : W5.cell? ⟨w.heap.size, 3, none⟩ = some (.string t.text) := by
    have := (hk5 _ hTl).trans htV
    rw [cell_of_row W5 _ 3 _ _ _ this]; rfl
  have hb11' := hb11
  have mixed : Tryz.prog.follows .mixedOrders = true := by kernel_rfl
  clear h1 h2 h3 h4 h5 htV hX9 hT9 h39 h59 hX10 hT10 h510 hE10 hmd hm11 hgr11 hk11 hbnd hE11 hT11 hb9 hb10 hk9 hk5 h4W5 hnews hown9 hgrow9 hy1 hy2 hd2 hr2 hEX hbV hBW5 HtW HbW hX5
  generalize endsB tx = eb at *
  have happ' : (Builtin.append_ #[69, 69] 69 #[vals, .slice (some ⟨V.heap.size, 0, none⟩) 1 1]).run Tryz.prog W5 = .ok (.slice a9 n9 cp9) w9 := happ
  rw [hW5] at happ' c4W5 k3W5
  clear happ hW5 hsz0
  have c4W6 : (V.alloc (.cells #[.string t.text, .int .i64 EX.size, .bool eb] 162)).cell? ⟨X, 4, none⟩ = some vals := c4W5
  have k3W6 : (V.alloc (.cells #[.string t.text, .int .i64 EX.size, .bool eb] 162)).cell? ⟨w.heap.size, 3, none⟩ = some (.string t.text) := k3W5
  have happ6 : (Builtin.append_ #[69, 69] 69 #[vals, .slice (some ⟨V.heap.size, 0, none⟩) 1 1]).run Tryz.prog (V.alloc (.cells #[.string t.text, .int .i64 EX.size, .bool eb] 162)).drew = .ok (.slice a9 n9 cp9) w9 := happ'
  go_wp2_with fail
  go_region_law (first
    | (refine step_append_runA (by rfl) _ _ 69 69 (by rfl) _ _ (by simp [Act.eval]) (by simp [Act.eval]) happ' ?_)
    | (refine step_append_runA (by rfl) _ _ 69 69 (by rfl) _ _ (by simp [Act.eval]) (by simp [Act.eval]) happ6 ?_)
    | (go_simp; go_at_call 111; refine (HE.out _).mono ?_; rintro e w7 ⟨rfl, rfl⟩))
  all_goals
    rw [← hw10]
    clear hw10
    go_wp2_with fail
    go_region_with (simp only [hupd])
    all_goals
      go_wp2_with fail
      refine HAdv.out.mono ?_
      rintro e w12 ⟨rfl, hE12, hb12, _⟩
      obtain ⟨g2, gf2, hfin⟩ := Hfin.out w12 hE12
      have hb13 := (hb11.trans hb12).setCell (p := ⟨X, 2, none⟩) h6 (.string (tx ++ EX))
      have Hf2 := Lib.hid hfin
      clear hfin hE12
      go_wp2_with fail
      all_goals try (exfalso; omega)
      go_end0
      exact ⟨rfl, Hf2.out, hb13⟩
end Go.Proofs.YticehbhedoploaaGreatDoor
