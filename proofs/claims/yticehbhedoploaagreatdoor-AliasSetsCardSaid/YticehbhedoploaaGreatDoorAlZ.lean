/- alias: an examination leaves values. -/
import Derived.Test.YticehbhedoploaaGreatDoorAlY
import Derived.Test.YticehbhedoploaaGreatDoorAlK
namespace Go.Proofs.YticehbhedoploaaGreatDoor
open Go.RowKit
set_option linter.unusedVariables false

theorem step_delete_runA {P : Program} {ops : Array Oper} {o : Oper} {a : Act} {w : World} {K : Act → World → Prop} {Q : Exit → Act → World → Prop} {E : Prop}
    (hg : o.guard = none) (d x : Operand) (dT sT : TypeId) (hop : o.op = Op.call { callee := Callee.builtin Builtin.delete, args := #[d, x], argTypes := #[dT, sT] })
    (v u : Value) (hd : a.eval d = v) (hx : a.eval x = u) {v' : Value} {w' : World} (hr : (Builtin.delete_ #[dT, sT] o.type #[v, u]).run P w = .ok v' w') (hK : K (a.put o.dst v') w') :
    if Region.wanted o (yielded ops a.tmps) = true then Oper.wp P o a w K Q else E := by
  have hw : Region.wanted o (yielded ops a.tmps) = true := by simp [Region.wanted, hg]
  rw [if_pos hw]
  unfold Oper.wp
  simp [execOp, hop, resolve, invoke, builtin, hd, hx, hr, Result.andThen]
  exact hK
theorem actB_filter (l : List ByteArray) (s t : ByteArray) : actB (l.filter fun x => !decide (x = s)) t = (actB l t && !decide (t = s)) := by
  induction l with
  | nil => rfl
  | cons a l ih =>
    unfold actB at ih ⊢
    by_cases e : a = s
    · rw [List.filter_cons_of_neg (by simpa using e), ih, List.any_cons]
      subst e
      by_cases h2 : a = t
      · subst h2; simp
      · simp [h2]
    · rw [List.filter_cons_of_pos (by simpa using e), List.any_cons, ih, List.any_cons]
      by_cases h2 : a = t
      · subst h2; simp [e]
      · simp [h2]
theorem mapA_del {h n : Nat} {l : List ByteArray} {W : World} (H : MapA h n l W) (s : ByteArray) (hs : s.size ≤ maxLen) (ty : TypeId) :
    ∃ w', (Builtin.delete_ #[64, 9] ty #[.map (some h), .string s]).run Tryz.prog W = .ok (.tuple #[]) w' ∧ MapA h n (l.filter fun x => !decide (x = s)) w' ∧ W.grownBy w' (some h) := by
  obtain ⟨D, ho, hD⟩ := H
  obtain ⟨w', h1, h2, h3⟩ := ho.drop (Maps.string_keyed Tryz.underlying9) Tryz.underlying64 (Go.WideMaps.keyOf_string_mk Tryz.underlying9 hs) ty
  refine ⟨w', h1, ⟨_, h2, fun t => ?_⟩, h3.grown⟩
  rw [actB_filter]
  by_cases e : t = s
  · subst e
    rw [Maps.atKey_del_same, decide_eq_true rfl, Bool.not_true, Bool.and_false]
  · rw [Maps.atKey_del_other (fun h => e (by
      have h' : t.data.toList = s.data.toList := by simpa using h
      exact ByteArray.ext (Array.toList_inj.1 h'))), hD, decide_eq_false e, Bool.not_false, Bool.and_true]
theorem drewN_heap (n : Nat) (W : World) (k : Nat) : (W.drewN n).heap[k]? = W.heap[k]? := by
  have : (W.drewN n).heap = W.heap := by simp
  rw [this]
def leaveF : Nat → Ex → Nat → Ex
  | 0, x, _ => x
  | n + 1, x, p => match x.vals[n]? with
    | some v => if x.rest.size - p ≤ v.2.1 then leaveF n { x with cmd := x.cmd || v.2.2, act := x.act.filter fun y => !decide (y = v.1), vals := x.vals.take n } p else x
    | none => x
def leaveX (x : Ex) (p : Nat) : Ex := leaveF x.vals.length x p
theorem leaveF_one {j : Nat} {x : Ex} {p : Nat} (h : j < x.vals.length) : leaveF (j + 1) x p = if x.rest.size - p ≤ (x.vals[j]'h).2.1 then leaveF j { x with cmd := x.cmd || (x.vals[j]'h).2.2, act := x.act.filter fun y => !decide (y = (x.vals[j]'h).1), vals := x.vals.take j } p else x := by
  rw [leaveF, List.getElem?_eq_getElem h]
theorem vCells_get (l : List (ByteArray × Nat × Bool)) (j : Nat) (h : j < l.length) : (vCells l)[j * 3]? = some (.string (l[j]'h).1) ∧ (vCells l)[j * 3 + 1]? = some (.int .i64 ((l[j]'h).2.1 : Nat)) ∧ (vCells l)[j * 3 + 2]? = some (.bool (l[j]'h).2.2) := by
  induction l generalizing j with
  | nil => simp at h
  | cons c l ih =>
    have e : vCells (c :: l) = .string c.1 :: .int .i64 (c.2.1 : Nat) :: .bool c.2.2 :: vCells l := rfl
    match j with
    | 0 => exact ⟨rfl, rfl, rfl⟩
    | j + 1 =>
      have ih := ih j (by simpa using h)
      rw [e, show (j + 1) * 3 = j * 3 + 1 + 1 + 1 from by omega, show j * 3 + 1 + 1 + 1 + 1 = (j * 3 + 1) + 1 + 1 + 1 from rfl, show j * 3 + 1 + 1 + 1 + 2 = (j * 3 + 2) + 1 + 1 + 1 from rfl]
      simp only [List.getElem?_cons_succ, List.getElem_cons_succ]
      exact ih
set_option maxHeartbeats 4000000 in
set_option maxRecDepth 100000 in
theorem leave_c (B X h p : Nat) (al : Value) (x : Ex) (w : World) (H : ExAt B X h al x w) (hs : x.rest.size ≤ 1000000000) (hv : ∀ v ∈ x.vals, v.1.size ≤ 1000000000) (hn : x.vals.length ≤ 1000000000) (hp : p ≤ x.rest.size) :
    Calls Tryz.prog 74 #[.pointer (some ⟨X, 0, none⟩), .int .i64 p] w fun e w' => e = .returned (.tuple #[]) ∧ ExAt B X h al (leaveX x p) w' ∧ Below B w w' ∧ ∀ k, k ≠ X → k ≠ h → k < w.heap.size → w'.heap[k]? = w.heap[k]? := by
  unfold leaveX
  have HH := Lib.hid H
  obtain ⟨p0, buf, vals, h1, h2, h3, h4, h5, h6, h7⟩ := H
  obtain ⟨F, hF⟩ : ∃ F, Hid (F = leaveF x.vals.length x p) := ⟨_, Lib.hid rfl⟩
  rw [← hF.out]
  obtain ⟨R, hR⟩ : ∃ R, R = x.rest := ⟨_, rfl⟩
  obtain ⟨ao, cap, rfl⟩ : ∃ ao cap, vals = .slice ao x.vals.length cap := by
    rcases h4.2 with ⟨hv, h0⟩ | ⟨g, cap, cur, hv, _⟩
    · exact ⟨none, 0, by rw [hv, h0]⟩
    · exact ⟨_, _, hv⟩
  have c4 : w.cell? ⟨X, 4, none⟩ = some (.slice ao x.vals.length cap) := by rw [Lib.cell_of_heap h1]; rfl
  have hrel0 : Hid (∃ y : Ex, ExAt B X h al y w ∧ y.rest = R ∧ y.vals.length = x.vals.length ∧ F = leaveF x.vals.length y p ∧ ∀ v ∈ y.vals, v.1.size ≤ 1000000000) := Lib.hid ⟨x, HH.out, hR.symm, rfl, hF.out, hv⟩
  rw [← hR] at hs hp
  generalize x.vals.length = n0 at *
  clear h1 h2 h3 h4 h5 HH hF hv hR
  go_enter Tryz.func74, Tryz.ntmps74
  go_wp2_with fail
  go_loopw [4] (fun iv wr => ∃ (k : Nat) (kk : Int), iv = .int .i64 kk ∧ kk = (k : Int) - 1 ∧ k ≤ n0 ∧ Below B w wr ∧ Hid (∀ k, k ≠ X → k ≠ h → k < w.heap.size → wr.heap[k]? = w.heap[k]?) ∧ Hid (∃ y : Ex, ExAt B X h al y wr ∧ y.rest = R ∧ y.vals.length = k ∧ F = leaveF k y p ∧ ∀ v ∈ y.vals, v.1.size ≤ 1000000000)) (fun iv _ => (intOf iv + 1).toNat)
  case atStart => exact ⟨n0, (n0 : Int) - 1, by go_num, rfl, by omega, Below.refl _ _, Lib.hid (fun _ _ _ _ => rfl), hrel0⟩
  case round =>
    obtain ⟨k, kk, rfl, hkk, hk, hb, hkp, hy⟩ := hrel
    clear hrel0 c4
    obtain ⟨y, hE, hyr, hyl, hFy, hyv⟩ := hy.out
    rcases k with _ | j
    · have d1 : decide ((0 : Int) ≤ kk) = false := decide_eq_false (by omega)
      have hfin : ExAt B X h al F wr := by rw [hFy]; exact hE
      have Hfin := Lib.hid hfin
      clear hfin hE hFy hy hyl hyv
      go_wp2_with fail
      go_quiet (fail)
      go_wp2_with fail
      go_end0
      exact ⟨rfl, exAt_keep Hfin.out (fun k _ => by simp), below_drewN hb _, fun k h1 h2 h3 => (drewN_heap _ wr k).trans (hkp.out k h1 h2 h3)⟩
    · obtain rfl : kk = (j : Int) := by omega
      clear hkk
      have hjl : j < y.vals.length := by omega
      rw [leaveF_one hjl] at hFy
      obtain ⟨p0, buf, vals, h1, h2, h3, h4, h5, h6', h7'⟩ := hE
      obtain ⟨g, cap1, cur, rfl, hg, hgh, hcap, hcm, hcs, htk⟩ : ∃ g cap cur, vals = .slice (some ⟨g, 0, none⟩) (j + 1) cap ∧ B ≤ g ∧ wr.heap[g]? = some (.cells cur 162 (0, 0)) ∧ (j + 1) ≤ cap ∧ cap ≤ maxLen ∧ cur.size = cap * 3 ∧ cur.toList.take ((j + 1) * 3) = vCells y.vals := by
        rw [hyl] at h4
        rcases h4.2 with ⟨_, hz⟩ | ⟨g, cap, cur, hv, r⟩
        · omega
        · exact ⟨g, cap, cur, hv, r⟩
      obtain ⟨q0, q1, q2⟩ := vCells_get y.vals j hjl
      have hcell : ∀ i u, (vCells y.vals)[i]? = some u → wr.cell? ⟨g, i, none⟩ = some u := fun i u hu => by
        rw [Lib.cell_of_heap hgh]
        rw [← htk, List.getElem?_take] at hu
        split at hu
        · simpa using hu
        · cases hu
      have e0 := hcell _ _ q0
      have e1 := hcell _ _ q1
      have e2 := hcell _ _ q2
      have c2 : wr.cell? ⟨X, 2, none⟩ = some (.string R) := by rw [Lib.cell_of_heap h1, ← hyr]; rfl
      have c4 : wr.cell? ⟨X, 4, none⟩ = some (.slice (some ⟨g, 0, none⟩) (j + 1) cap1) := by rw [Lib.cell_of_heap h1]; rfl
      have c5 : wr.cell? ⟨X, 5, none⟩ = some (.map (some h)) := by rw [Lib.cell_of_heap h1]; rfl
      have c6 : wr.cell? ⟨X, 6, none⟩ = some (.bool y.cmd) := by rw [Lib.cell_of_heap h1]; rfl
      have f6 : wr.frozen? ⟨X, 6, none⟩ = false := Lib.frozen_of_heap h1 6
      have f4 : wr.frozen? ⟨X, 4, none⟩ = false := Lib.frozen_of_heap h1 4
      have d1 : decide ((0 : Int) ≤ (j : Int)) = true := decide_eq_true (by omega)
      have d1' : decide (0 ≤ j) = true := decide_eq_true (by omega)
      have ws : IntKind.i64.wrap ((R.size : Int) - (p : Int)) = ((R.size - p : Nat) : Int) := by rw [IntKind.wrap_i64]; omega
      have g1 : (0 : Int) ≤ (j : Int) := by omega
      have g2 : (j : Int) < ((j + 1 : Nat) : Int) := by omega
      have hvj := hyv _ (List.getElem_mem hjl)
      have htk2 : y.vals = y.vals.take j ++ [y.vals[j]] := by
        rw [← List.take_succ_eq_append_getElem hjl, List.take_of_length_le (by omega)]
      have h4p : wr.ownsRow B 162 3 (.slice (some ⟨g, 0, none⟩) j cap1) (y.vals.take j).length (vCells (y.vals.take j)) := by
        have hlt : (y.vals.take j).length = j := by rw [List.length_take]; omega
        rw [hlt]
        refine ownsRow_pop (last := vCells [y.vals[j]]) (by rw [vCells_length, hlt]) ?_
        have := h4
        rw [hyl] at this
        rw [← vCells_append, ← htk2]
        exact this
      have hvs : ∀ v ∈ y.vals.take j, v.1.size ≤ 1000000000 := fun v hv => hyv v (List.mem_of_mem_take hv)
      have hlt : (y.vals.take j).length = j := by rw [List.length_take]; omega
      obtain ⟨TK, hTK⟩ : ∃ TK, TK = y.vals.take j := ⟨_, rfl⟩
      rw [← hTK] at h4p hvs hlt hFy
      clear htk2 hcell q0 q1 q2 htk hyv hTK
      generalize y.vals[j] = v at *
      obtain ⟨nm, bh, bl⟩ := v
      simp only at e0 e1 e2 hvj hFy
      by_cases hle : R.size - p ≤ bh
      · have d2 : decide (((R.size - p : Nat) : Int) ≤ (bh : Int)) = true := decide_eq_true (by omega)
        have d2' : decide (R.size - p ≤ bh) = true := decide_eq_true hle
        rw [if_pos (by rw [hyr]; exact hle)] at hFy
        obtain ⟨y2, hy2⟩ : ∃ y2 : Ex, y2 = { y with cmd := y.cmd || bl, act := y.act.filter fun z => !decide (z = nm), vals := TK } := ⟨_, rfl⟩
        rw [← hy2] at hFy
        have hhX : h ≠ X := by
          intro e
          obtain ⟨es, ck, hm⟩ := mapA_obj h5
          rw [e] at hm
          have h1' : wr.heap[X]? = _ := h1
          rw [hm] at h1'
          cases h1'
        have Hfacts : Hid (ExC X p0 buf (.string y.rest) al (.slice (some ⟨g, 0, none⟩) (j + 1) cap1) (.map (some h)) (.bool y.cmd) (.string ⟨#[]⟩) (.slice none 0 0) wr ∧ (p0 = .pointer none ∨ p0 = .pointer (some ⟨X, 0, none⟩)) ∧ wr.ownsRow B 5 1 buf y.done.length (Lib.byteCells y.done) ∧ wr.ownsRow B 162 3 (.slice (some ⟨g, 0, none⟩) j cap1) TK.length (vCells TK) ∧ MapA h y.cnt y.act wr) := Lib.hid ⟨h1, h2, h3, h4p, h5⟩
        have HFy := Lib.hid hFy
        have Hvs := Lib.hid hvs
        clear h1 h2 h3 h4 h5 h4p hFy hy hyl hvs
        go_wp2_with fail
        go_quiet (fail)
        obtain ⟨V, hV⟩ : ∃ V, V = wr.drewN nq := ⟨_, rfl⟩
        rw [← hV]
        have hk0 : ∀ k, V.heap[k]? = wr.heap[k]? := fun k => by rw [hV]; exact drewN_heap nq wr k
        have hbV : Below B w V := by rw [hV]; exact below_drewN hb _
        obtain ⟨h1, h2, h3, h4p, h5⟩ := Hfacts.out
        have h1V : ExC X p0 buf (.string y.rest) al (.slice (some ⟨g, 0, none⟩) (j + 1) cap1) (.map (some h)) (.bool y.cmd) (.string ⟨#[]⟩) (.slice none 0 0) V := (hk0 X).trans h1
        have h3V := row_keep h3 (fun g _ => hk0 g)
        have h4V := row_keep h4p (fun g _ => hk0 g)
        have h5V := mapA_at h5 (fun _ _ _ => hk0 h)
        have e0V := (World.cell?_of_block (a := ⟨g, j * 3, none⟩) (hk0 g)).trans e0
        have e2V := (World.cell?_of_block (a := ⟨g, j * 3 + 2, none⟩) (hk0 g)).trans e2
        clear hV c2 c4 c5 c6 f4 f6 e0 e1 e2 h1 h3 h4p h5 hgh hb Hfacts
        obtain ⟨cm, hcm⟩ : ∃ cm, cm = y.cmd := ⟨_, rfl⟩
        have hgX : g ≠ X := by
          intro e
          have := row_ne h4V h1V exTyV
          exact this (by rw [e]; rfl)
        obtain ⟨W1, hW1⟩ : ∃ W1, W1 = V.setCell ⟨X, 6, none⟩ (.bool (cm || bl)) := ⟨_, rfl⟩
        have hX1 : ExC X p0 buf (.string y.rest) al (.slice (some ⟨g, 0, none⟩) (j + 1) cap1) (.map (some h)) (.bool (cm || bl)) (.string ⟨#[]⟩) (.slice none 0 0) W1 := by rw [hW1]; exact heap_setCell_same _ _ _ _ _ _ h1V
        have hk1 : ∀ k, k ≠ X → W1.heap[k]? = V.heap[k]? := by rw [hW1]; exact set_only X 6 _ V
        have hb1 : Below B w W1 := by rw [hW1]; exact hbV.setCell (p := ⟨X, 6, none⟩) h6 _
        have hm1 : MapA h y.cnt y.act W1.drew := mapA_at h5V (fun _ _ _ => hk1 h hhX)
        obtain ⟨W2, hdel, hm2, hgr⟩ := mapA_del hm1 nm (by unfold maxLen; omega) 0
        have hhlt : h < W1.drew.heap.size := by
          obtain ⟨es, ck, hm⟩ := mapA_obj hm1
          rw [Array.getElem?_eq_some_iff] at hm
          exact hm.1
        have hk2 : ∀ k, k ≠ h → k < W1.heap.size → W2.heap[k]? = W1.heap[k]? := fun k hk hl => hgr.block k hl (fun e => hk (by injection e))
        have hXl : X < W1.heap.size := by
          have : W1.heap[X]? = _ := hX1
          rw [Array.getElem?_eq_some_iff] at this
          exact this.1
        have hX2 : ExC X p0 buf (.string y.rest) al (.slice (some ⟨g, 0, none⟩) (j + 1) cap1) (.map (some h)) (.bool (cm || bl)) (.string ⟨#[]⟩) (.slice none 0 0) W2 := (hk2 X (fun e => hhX e.symm) hXl).trans hX1
        have hBW1 : B ≤ W1.drew.heap.size := by show B ≤ W1.heap.size; omega
        have hb2 : Below B w W2 := hb1.drew.grown hgr hBW1 (fun q hq => by injection hq with hq; omega)
        have hrows : ∀ {e size n v xs}, V.ownsRow B e size v n xs → 71 ≠ e → W2.ownsRow B e size v n xs := fun {e size n v xs} hr hne => by
          refine row_keep hr (fun g' hg' => ?_)
          have hgx : g' ≠ X := fun e => row_ne hr h1V hne (by rw [hg', e])
          obtain ⟨cu, hcu⟩ := row_obj hr hg'
          have hgl : g' < W1.heap.size := by
            have := (hk1 g' hgx).trans hcu
            rw [Array.getElem?_eq_some_iff] at this
            exact this.1
          refine (hk2 g' (fun e => ?_) hgl).trans (hk1 g' hgx)
          obtain ⟨es, ck, hm⟩ := mapA_obj h5V
          rw [← e, hcu] at hm
          cases hm
        have hfin : ExAt B X h al y2 (W2.setCell ⟨X, 4, none⟩ (.slice (some ⟨g, 0, none⟩) j cap1)) := by
          rw [hy2]
          refine exAt_put (x := { y with cmd := cm || bl }) (W := W2) hX2 h2 (hrows h3V exTy) (hrows h4V exTyV) hm2 h6' h7' ?_ (set_only X 4 _ W2)
          rw [← hcm]
          exact heap_setCell_same _ _ _ _ _ _ hX2
        have hrel : Hid (∃ y : Ex, ExAt B X h al y (W2.setCell ⟨X, 4, none⟩ (.slice (some ⟨g, 0, none⟩) j cap1)) ∧ y.rest = R ∧ y.vals.length = j ∧ F = leaveF j y p ∧ ∀ v ∈ y.vals, v.1.size ≤ 1000000000) := Lib.hid ⟨y2, hfin, by rw [hy2]; exact hyr, by rw [hy2]; exact hlt, HFy.out, by rw [hy2]; exact Hvs.out⟩
        have hb3 : Below B w (W2.setCell ⟨X, 4, none⟩ (.slice (some ⟨g, 0, none⟩) j cap1)) := hb2.setCell (p := ⟨X, 4, none⟩) h6 _
        obtain ⟨m, hm⟩ : ∃ m, m = j + 1 := ⟨_, rfl⟩
        have hkp2 : Hid (∀ k, k ≠ X → k ≠ h → k < w.heap.size → (W2.setCell ⟨X, 4, none⟩ (.slice (some ⟨g, 0, none⟩) j cap1)).heap[k]? = w.heap[k]?) := Lib.hid (fun k n1 n2 n3 => by
          rw [set_only X 4 _ W2 k n1, hk2 k n2 (by have := hb1.size; omega), hk1 k n1, hk0 k]
          exact hkp.out k n1 n2 n3)
        have c4W : W2.cell? ⟨X, 4, none⟩ = some (.slice (some ⟨g, 0, none⟩) m cap1) := by rw [Lib.cell_of_heap hX2, hm]; rfl
        have f4W : W2.frozen? ⟨X, 4, none⟩ = false := Lib.frozen_of_heap hX2 4
        have c4V : V.cell? ⟨X, 4, none⟩ = some (.slice (some ⟨g, 0, none⟩) m cap1) := by rw [Lib.cell_of_heap h1V, hm]; rfl
        have gm : (j : Int) < (m : Int) := by omega
        have gm2 : ¬ ((m : Int) ≤ (j : Int)) := by omega
        have gm3 : j < m := by omega
        have c5V : V.cell? ⟨X, 5, none⟩ = some (.map (some h)) := by rw [Lib.cell_of_heap h1V]; rfl
        have c6V : V.cell? ⟨X, 6, none⟩ = some (.bool cm) := by rw [Lib.cell_of_heap h1V, hcm]; rfl
        have f6V : V.frozen? ⟨X, 6, none⟩ = false := Lib.frozen_of_heap h1V 6
        have hj1 : (j : Int) ≤ (cap1 : Int) := by omega
        have mixed : Tryz.prog.follows .mixedOrders = true := by kernel_rfl
        clear hfin hrows hX2 hX1 h1V h3V h4V h5V hm1 hm2 hgr hk1 hk2 hy2 hcm HFy Hvs hb1 hb2 hbV hm g2 hk0
        rcases cm with _ | _
        · have hdel' : (Builtin.delete_ #[64, 9] 0 #[.map (some h), .string nm]).run Tryz.prog (V.setCell ⟨X, 6, none⟩ (.bool bl)).drew = .ok (.tuple #[]) W2 := by rw [hW1] at hdel; exact hdel
          clear hdel hW1
          go_wp2_with fail
          go_region_law_o (refine step_delete_runA rfl _ _ 64 9 rfl _ _ (by simp [Act.eval]) (by simp [Act.eval]) hdel' ?_)
          all_goals
            go_wp2_with fail
            go_roundw
            case rel => exact ⟨j, (j : Int) - 1, by go_num, rfl, by omega, hb3, hkp2, hrel⟩
            case measure => simp [intOf] <;> omega
        · have hdel' : (Builtin.delete_ #[64, 9] 0 #[.map (some h), .string nm]).run Tryz.prog (V.setCell ⟨X, 6, none⟩ (.bool true)).drew = .ok (.tuple #[]) W2 := by rw [hW1] at hdel; exact hdel
          clear hdel hW1
          go_wp2_with fail
          go_region_law_o (refine step_delete_runA rfl _ _ 64 9 rfl _ _ (by simp [Act.eval]) (by simp [Act.eval]) hdel' ?_)
          all_goals
            go_wp2_with fail
            go_roundw
            case rel => exact ⟨j, (j : Int) - 1, by go_num, rfl, by omega, hb3, hkp2, hrel⟩
            case measure => simp [intOf] <;> omega
      · have d2 : decide (((R.size - p : Nat) : Int) ≤ (bh : Int)) = false := decide_eq_false (by omega)
        have d2' : decide (R.size - p ≤ bh) = false := decide_eq_false hle
        rw [if_neg (by rw [hyr]; exact hle)] at hFy
        have hfin : ExAt B X h al F wr := by rw [hFy]; exact ⟨p0, buf, _, h1, h2, h3, h4, h5, h6', h7'⟩
        have Hfin := Lib.hid hfin
        clear hfin h1 h2 h3 h4 h5 h4p hFy hy hyl hgh
        go_wp2_with fail
        go_quiet (fail)
        go_wp2_with fail
        go_end0
        exact ⟨rfl, exAt_keep Hfin.out (fun k _ => by simp), below_drewN hb _, fun k h1 h2 h3 => (drewN_heap _ wr k).trans (hkp.out k h1 h2 h3)⟩
end Go.Proofs.YticehbhedoploaaGreatDoor
