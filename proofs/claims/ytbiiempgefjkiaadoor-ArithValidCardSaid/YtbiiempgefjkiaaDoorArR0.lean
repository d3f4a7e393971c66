/- arith: nodes that are built; depth. -/
import Derived.Test.YtbiiempgefjkiaaDoorArN
import Derived.Test.YtbiiempgefjkiaaDoorArQ4
namespace Go.Proofs.YtbiiempgefjkiaaDoor.Ar
open Go.RowKit
set_option linter.unusedVariables false

/-- An expression's cells. -/
def exC (q : Ex × Option Addr × Nat) : List Value := [.int .i64 q.1.op, .int .i64 q.1.n, .string q.1.name, .slice q.2.1 q.1.kids.length q.2.2]
theorem exC_get : ∀ (l : List (Ex × Option Addr × Nat)) (k : Nat) (h : k < l.length), (l.flatMap exC)[k * 4]? = some (.int .i64 (l[k]'h).1.op) ∧ (l.flatMap exC)[k * 4 + 1]? = some (.int .i64 (l[k]'h).1.n) ∧ (l.flatMap exC)[k * 4 + 2]? = some (.string (l[k]'h).1.name) ∧ (l.flatMap exC)[k * 4 + 3]? = some (.slice (l[k]'h).2.1 (l[k]'h).1.kids.length (l[k]'h).2.2)
  | [], k, h => by simp at h
  | c :: l, 0, h => ⟨rfl, rfl, rfl, rfl⟩
  | c :: l, k + 1, h => by
    have ih := exC_get l k (by simpa using h)
    have e : (c :: l).flatMap exC = .int .i64 c.1.op :: .int .i64 c.1.n :: .string c.1.name :: .slice c.2.1 c.1.kids.length c.2.2 :: l.flatMap exC := rfl
    rw [e, show (k + 1) * 4 = k * 4 + 1 + 1 + 1 + 1 from by omega, show k * 4 + 1 + 1 + 1 + 1 + 1 = (k * 4 + 1) + 1 + 1 + 1 + 1 from rfl, show k * 4 + 1 + 1 + 1 + 1 + 2 = (k * 4 + 2) + 1 + 1 + 1 + 1 from rfl, show k * 4 + 1 + 1 + 1 + 1 + 3 = (k * 4 + 3) + 1 + 1 + 1 + 1 from rfl]
    simp only [List.getElem?_cons_succ, List.getElem_cons_succ]
    exact ih
theorem kids_row {w : World} {ok : Nat → Prop} {b : Nat} (hb : ok b) {ty : TypeId} {fr : Nat × Nat} (l : List (Ex × Option Addr × Nat)) (hh : w.heap[b]? = some (.cells (l.flatMap exC).toArray ty fr))
    (hk : ∀ q ∈ l, q.1.kids.length ≤ q.2.2 ∧ q.2.2 ≤ maxLen ∧ KidsAt w ok q.1.kids q.2.1) : KidsAt w ok (l.map (·.1)) (some ⟨b, 0, none⟩) := by
  refine kids_mk hb fun i hi => ?_
  have hi' : i < l.length := by simpa using hi
  obtain ⟨h0, h1, h2, h3⟩ := exC_get l i hi'
  obtain ⟨k1, k2, k3⟩ := hk _ (List.getElem_mem hi')
  have hc : ∀ j, w.cell? ⟨b, 0 + j, none⟩ = (l.flatMap exC)[j]? := fun j => by
    rw [Nat.zero_add, Lib.cell_of_heap hh]; simp
  rw [List.getElem_map]
  refine one_mk (A := (l[i]'hi').2.1) (c := (l[i]'hi').2.2) ?_ ?_ ?_ ?_ k1 k2 k3
  · rw [hc]; exact h0
  · rw [Nat.add_assoc, hc]; exact h1
  · rw [Nat.add_assoc, hc]; exact h2
  · rw [Nat.add_assoc, hc]; exact h3
/-- What was built from block B on. -/
def Fresh (B : Nat) (w : World) (b : Nat) : Prop := B ≤ b ∧ b < w.heap.size
/-- A node over operands that lie in fresh blocks. -/
theorem node_mk {w : World} {B : Nat} (l : List (Ex × Option Addr × Nat)) (op n : Int) (s : ByteArray) (hB : B ≤ w.heap.size) (hm : l.length ≤ maxLen)
    (hk : ∀ q ∈ l, q.1.kids.length ≤ q.2.2 ∧ q.2.2 ≤ maxLen ∧ KidsAt w (Fresh B w) q.1.kids q.2.1) :
    ExAt (w.alloc (.cells (l.flatMap exC).toArray 24)) (Fresh B (w.alloc (.cells (l.flatMap exC).toArray 24))) (.mk op n s (l.map (·.1))) (.agg #[.int .i64 op, .int .i64 n, .string s, .slice (some ⟨w.heap.size, 0, none⟩) l.length l.length]) := by
  refine ⟨some ⟨w.heap.size, 0, none⟩, l.length, ?_, by simp [Ex.kids], hm, ?_⟩
  · simp [Ex.val, Ex.op, Ex.n, Ex.name, Ex.kids]
  · refine kids_row ⟨hB, by simp⟩ l (heap_alloc_new w _) fun q hq => ?_
    obtain ⟨k1, k2, k3⟩ := hk q hq
    refine ⟨k1, k2, kids_keep (fun b hb => ⟨hb.1, by have := hb.2; simp; omega⟩) (fun b o hb => ?_) k3⟩
    exact ((Below.refl w.heap.size w).alloc (Nat.le_refl _) _).cell (p := ⟨b, o, none⟩) hb.2
/-- A leaf. -/
theorem leaf_mk (w : World) (ok : Nat → Prop) (op n : Int) (s : ByteArray) : ExAt w ok (.mk op n s []) (.agg #[.int .i64 op, .int .i64 n, .string s, .slice none 0 0]) :=
  ⟨none, 0, rfl, Nat.le_refl _, Nat.zero_le _, by simp [KidsAt, Ex.kids]⟩
theorem ex_open {w : World} {ok : Nat → Prop} {x : Ex} {v : Value} (h : ExAt w ok x v) : ∃ A c, v = .agg #[.int .i64 x.op, .int .i64 x.n, .string x.name, .slice A x.kids.length c] ∧ x.kids.length ≤ c ∧ c ≤ maxLen ∧ KidsAt w ok x.kids A := h

/-- Four cells stored. -/
def set4 (w : World) (r : Nat) (v0 v1 v2 v3 : Value) : World := (((w.setCell ⟨r, 0, none⟩ v0).setCell ⟨r, 1, none⟩ v1).setCell ⟨r, 2, none⟩ v2).setCell ⟨r, 3, none⟩ v3
theorem set4_heap (w : World) (r : Nat) (v0 v1 v2 v3 : Value) (k : Nat) (h : k ≠ r) : (set4 w r v0 v1 v2 v3).heap[k]? = w.heap[k]? := by
  unfold set4
  rw [Below.heap_setCell _ _ _ _ (by simpa using h), Below.heap_setCell _ _ _ _ (by simpa using h), Below.heap_setCell _ _ _ _ (by simpa using h), Below.heap_setCell _ _ _ _ (by simpa using h)]
theorem set4_below {B : Nat} {w0 w : World} (h : Below B w0 w) {r : Nat} (hr : B ≤ r) (v0 v1 v2 v3 : Value) : Below B w0 (set4 w r v0 v1 v2 v3) :=
  (((h.setCell (p := ⟨r, 0, none⟩) hr v0).setCell (p := ⟨r, 1, none⟩) hr v1).setCell (p := ⟨r, 2, none⟩) hr v2).setCell (p := ⟨r, 3, none⟩) hr v3
theorem set4_size (w : World) (r : Nat) (v0 v1 v2 v3 : Value) : (set4 w r v0 v1 v2 v3).heap.size = w.heap.size := by
  unfold set4; simp
theorem set4_cell (w : World) (r : Nat) (v0 v1 v2 v3 : Value) (b o : Nat) (h : b ≠ r) : (set4 w r v0 v1 v2 v3).cell? ⟨b, o, none⟩ = w.cell? ⟨b, o, none⟩ := by
  simp only [World.cell?]
  rw [set4_heap w r v0 v1 v2 v3 b h]
/-- What a parser's method answers. -/
def Ans (D : Nat) (w : World) (R : PR) (e : Ending) (w' : World) : Prop :=
  Kd D w w' ∧ match R with
  | .bad p er => e = .panicked (errP p er)
  | .ok x T => GoodT T ∧ ParAt w' D T ∧ ∃ v, e = .returned v ∧ ExAt w' (Fresh w.heap.size w') x v
theorem parAt_heap {w w' : World} {D : Nat} {T : List Tok} (h : ParAt w D T) (hk : ∀ k, k ≤ D → w'.heap[k]? = w.heap[k]?) : ParAt w' D T := by
  obtain ⟨b, off, c, h, hbD, hc, hm, hi⟩ := h
  have hcell : ∀ o, w'.cell? ⟨b, o, none⟩ = w.cell? ⟨b, o, none⟩ := fun o => by simp only [World.cell?]; rw [hk b (by omega)]
  exact ⟨b, off, c, (hk D (Nat.le_refl _)).trans h, hbD, hc, hm, fun i hl => ⟨(hcell _).trans (hi i hl).1, (hcell _).trans (hi i hl).2.1, (hcell _).trans (hi i hl).2.2⟩⟩
theorem ans_set {D : Nat} {w w3 : World} {x : Ex} {T : List Tok} {v : Value} (hD : D < w.heap.size) (hk : Kd D w w3) (hp : ParAt w3 D T) (hg : GoodT T) (hx : ExAt w3 (Fresh (w.heap.size + 1) w3) x v) (v0 v1 v2 v3 : Value) :
    Ans D w (.ok x T) (.returned v) (set4 w3 w.heap.size v0 v1 v2 v3) := by
  refine ⟨⟨set4_below hk.bel (Nat.le_of_lt hD) _ _ _ _, fun k hkD hkw => (set4_heap _ _ _ _ _ _ k (by omega)).trans (hk.kept k hkD hkw)⟩, hg, parAt_heap hp fun k hkD => set4_heap _ _ _ _ _ _ k (by omega), v, rfl, ?_⟩
  refine ex_keep (fun b hb => ?_) (fun b o hb => set4_cell _ _ _ _ _ _ b o (by have := hb.1; omega)) hx
  exact ⟨by have := hb.1; omega, by rw [set4_size]; exact hb.2⟩
/-- The cells of a result that is not set yet. -/
def zeroO : Obj := .cells #[.int .i64 0, .int .i64 0, .string ⟨#[]⟩, .slice none 0 0] 24
theorem zero_cells {w : World} {r : Nat} (h : w.heap[r]? = some (.cells #[.int .i64 0, .int .i64 0, .string ⟨#[]⟩, .slice none 0 0] 24 (0, 0))) :
    (w.cell? ⟨r, 0, none⟩ = some (.int .i64 0) ∧ w.cell? ⟨r, 1, none⟩ = some (.int .i64 0) ∧ w.cell? ⟨r, 2, none⟩ = some (.string ⟨#[]⟩) ∧ w.cell? ⟨r, 3, none⟩ = some (.slice none 0 0)) ∧ ∀ j, w.frozen? ⟨r, j, none⟩ = false := by
  refine ⟨⟨?_, ?_, ?_, ?_⟩, fun j => Lib.frozen_of_heap h j⟩ <;> (rw [Lib.cell_of_heap h]; rfl)
set_option maxHeartbeats 4000000 in
set_option maxRecDepth 100000 in
theorem depth_c : ∀ (N : Nat) (x : Ex) (A : Option Addr) (c : Nat) (w : World), dep x ≤ N → N ≤ 1000000000 → KidsIn w w.heap.size x.kids A → x.kids.length ≤ c → c ≤ maxLen →
    Calls Tryd.prog 50 #[x.val A c] w fun e w' => e = .returned (.int .i64 (dep x : Nat)) ∧ Below w.heap.size w w' := by
  intro N
  induction N with
  | zero =>
    intro x A c w hN
    cases x with
    | mk op n s l => rw [dep] at hN; omega
  | succ N ih =>
  intro x A c w hN hNm hK hlc hcm
  have hdk : ∀ y ∈ x.kids, dep y ≤ N := fun y hy => by have := dep_kid hy; omega
  have hval : dep x = depK x.kids + 1 := by cases x; rw [dep]; rfl
  have hle : depK x.kids ≤ N := by omega
  rw [hval]
  unfold Ex.val at *
  generalize x.op = op, x.n = n, x.name = s, x.kids = l at *
  clear hval
  unfold maxLen at hcm
  have hb0 := (Below.refl w.heap.size w).alloc (Nat.le_refl _) (.cells #[.int .i64 op, .int .i64 n, .string s, .slice A l.length c] 24)
  obtain ⟨V, hV⟩ : ∃ V, V = depK l := ⟨_, rfl⟩
  rw [← hV] at hle ⊢
  have HV := Lib.hid (show V = max 0 (depK (l.drop 0)) by rw [List.drop_zero, Nat.max_eq_right (Nat.zero_le _)]; exact hV)
  have HIH := Lib.hid ih
  have HDK := Lib.hid hdk
  have HKK := Lib.hid hK
  clear ih hdk hK hV
  go_enter Tryd.func50, Tryd.ntmps50
  go_wp2_with fail
  go_loopw [3, 9] (fun mv iv wr => ∃ k m : Nat, k ≤ l.length ∧ mv = .int .i64 m ∧ iv = .int .i64 k ∧ m ≤ N ∧ Below w.heap.size w wr ∧ Hid (V = max m (depK (l.drop k)))) (fun _ iv _ => l.length - (intOf iv).toNat)
  case atStart => exact ⟨0, 0, by omega, rfl, by go_num, by omega, hb0, HV⟩
  case round =>
    obtain ⟨k, m, hk, rfl, rfl, hm, hb, hv⟩ := hrel
    have hwr := hb.size
    by_cases hlt : k < l.length
    · have i1 : (k : Int) < (l.length : Int) := by omega
      obtain ⟨b, off, A', c', rfl, hbl, c0, c1, c2, c3, hl', hc', hk'⟩ := kids_cells hlt (kidsIn_below HKK.out hb hwr)
      have hv1 := hv.out
      rw [List.drop_eq_getElem_cons hlt, depK] at hv1
      have hd := HDK.out _ (List.getElem_mem hlt)
      have hb2 := hb.alloc hwr (.cells #[.int .i64 l[k].op, .int .i64 l[k].n, .string l[k].name, .slice A' l[k].kids.length c'] 24)
      have hb3 := (Below.refl wr.heap.size wr).alloc (Nat.le_refl _) (.cells #[.int .i64 l[k].op, .int .i64 l[k].n, .string l[k].name, .slice A' l[k].kids.length c'] 24)
      have HC := Lib.hid (HIH.out l[k] A' c' _ hd (by omega) (kidsIn_below hk' hb3 hb3.size) hl' hc')
      have Hv1 := Lib.hid hv1
      clear hv1 hv hk' hl' HDK HIH HKK HV
      generalize l[k] = y at *
      have HQ : Hid (V = max (max m (dep y)) (depK (l.drop (k + 1)))) := Lib.hid (by rw [Hv1.out, Nat.max_assoc])
      clear Hv1
      generalize dep y = dy at *
      go_wp2_with fail
      refine HC.out.mono ?_
      rintro e w4 ⟨rfl, hb4⟩
      have hb5 := hb2.trans (hb4.mono (by have := hb2.size; omega))
      clear hb4 hb2 hb3 c0 c1 c2 c3 HC
      go_wp2_with fail
      go_roundw
      case rel => exact ⟨k + 1, max m dy, by omega, (by first | rfl | go_num | (congr 1; omega)), by go_num, by omega, hb5, HQ⟩
      case measure => simp [intOf]; omega
    · obtain rfl : k = l.length := by omega
      have hV2 : V = m := by
        have := hv.out
        rw [List.drop_length, depK, Nat.max_eq_left (Nat.zero_le _)] at this
        exact this
      subst hV2
      clear hv HV
      go_wp2_with fail
      go_ret
      exact ⟨by congr 2, hb⟩
end Go.Proofs.YtbiiempgefjkiaaDoor.Ar
