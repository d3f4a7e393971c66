/- The contracts of bytes.Equal, bytes.Clone, of codec's Open. -/
import Derived.Test.YthikmjhjbokppaaKAwake
import Derived.Deep.RegionHeld3
namespace Go.Proofs.Ythikmjhjbokppaa
open Go.RowKit
set_option linter.unusedVariables false

/-- What opens a frame: the kind, the payload, how many bytes, the error's number. -/
def openL (l : List UInt8) : Nat × List UInt8 × Nat × Nat :=
  match l with
  | [] => (0, [], 0, 28)
  | x :: r =>
    if (takeN r).2.2 ≠ 0 then (0, [], 0, (takeN r).2.2) else
    if r.length - (takeN r).2.1 < (takeN r).1 then (0, [], 0, 28) else
    if r.length - (takeN r).2.1 - (takeN r).1 < 4 then (0, [], 0, 28) else
    if ((r.drop ((takeN r).2.1 + (takeN r).1)).take 4 == fourL (crcSum ((x :: r).take (1 + (takeN r).2.1 + (takeN r).1)))) = false then (0, [], 0, 29) else
    (x.toNat, (r.drop (takeN r).2.1).take (takeN r).1, 1 + (takeN r).2.1 + (takeN r).1 + 4, 0)

theorem bytesEqual_c (B B' : Nat) (A A' : Option Addr) (l m : List UInt8) (c c' : Nat) (w : World) (hA : ByAt w B A l) (hA' : ByAt w B' A' m) :
    Calls Try.prog 35 #[.slice A l.length c, .slice A' m.length c'] w fun e w' => e = .returned (.bool (l == m)) ∧ w = w' := by
  have h1 := conv_by hA c
  have h2 := conv_by hA' c'
  go_enter Try.func35, Try.ntmps35
  go_wp2_with fail
  go_ret
  exact ⟨rfl, rfl⟩

theorem bytesClone_c (B : Nat) (A : Option Addr) (l : List UInt8) (c : Nat) (w : World) (hA : ByAt w B A l) (hl : l.length ≤ 1000000) :
    Calls Try.prog 36 #[.slice A l.length c] w fun e w' => ∃ v, e = .returned v ∧ Own w' w.heap.size v l ∧ Below w.heap.size w w' := by
  rcases A with _ | ad
  · have h0 : l = [] := by
      rcases hA with h | ⟨b, off, h, _⟩
      · exact h
      · cases h
    subst h0
    have hq : (binOp BinOp.eql 22 (.slice none 0 c) (.slice none 0 0)).run Try.prog w = .ok (.bool true) w := by kernel_rfl
    go_enter Try.func36, Try.ntmps36
    go_wp2_with fail
    go_ret
    exact ⟨_, rfl, own_nil _ _, Below.refl _ _⟩
  · have hq : (binOp BinOp.eql 22 (.slice (some ad) l.length c) (.slice none 0 0)).run Try.prog w = .ok (.bool false) w := by kernel_rfl
    have olit := own_lit w w.heap.size (Nat.le_refl _) [] #[] rfl (by simp)
    have ma : Below w.heap.size w (w.alloc (.cells #[] 5)) := (Below.refl _ w).alloc (Nat.le_refl _) _
    have hA1 : ByAt (w.alloc (.cells #[] 5)) B (some ad) l := by
      rcases hA with h | ⟨b, off, h1, h2, h3⟩
      · exact .inl h
      · refine .inr ⟨b, off, h1, h2, fun k hk => ?_⟩
        have := h3 k hk
        have hlt := World.block_lt_of_cell? w _ this
        exact (((Below.refl w.heap.size w).alloc (Nat.le_refl _) _).cell (p := ⟨b, off + k, none⟩) hlt).trans this
    go_enter Try.func36, Try.ntmps36
    go_wp2_with (at_builtin; refine wpList_app_by rfl _ _ rfl w.heap.size _ _ rfl olit B (some ad) l c rfl hA1 (by simp; omega) ma.size ?_)
    intro v2 w2 o2 m2
    go_wp2_with fail
    go_ret
    exact ⟨v2, rfl, o2, ma.trans m2⟩
/-- The deferred closure of Open, of a frame that panics with an error. -/
theorem catchO (p : Addr) (x : Int) (e : Nat) (w : World) (hc : w.cell? p = some (.int .i64 x)) (hz : w.frozen? p = false) :
    CallsD Try.prog 32 #[.pointer (some p)] (.panicking (errP e)) w fun e' u' w' =>
      e' = .returned (.tuple #[]) ∧ u' = .panicking [{ v := .iface 24 (.int .i64 e), recovered := true }] ∧ w' = w.setCell p (.int .i64 e) := by
  unfold errP
  refine callsD_of_wpS Try.func32 rfl fun c₀ cs hu => ?_
  apply wpS_region
  simp [wpOpsS, go_sem, recoverD, hu, Try.ntmps32, hc, hz, as_errno, bodyPostS, results, Try.results32]
theorem idleO (p : Addr) (x : Int) (w : World) (hc : w.cell? p = some (.int .i64 x)) (hz : w.frozen? p = false) :
    CallsD Try.prog 32 #[.pointer (some p)] .returning w fun e' u' w' =>
      e' = .returned (.tuple #[]) ∧ u' = .returning ∧ w' = w.setCell p (.int .i64 0) := by
  refine callsD_of_wpS Try.func32 rfl fun c₀ cs hu => ?_
  apply wpS_region
  simp [wpOpsS, go_sem, recoverD, hu, Try.ntmps32, hc, hz, as_nil, bodyPostS, results, Try.results32]
  cases c₀
  simp_all

theorem own_mono {w : World} {B B' : Nat} {v : Value} {l : List UInt8} (h : Own w B v l) (hB : B' ≤ B) : Own w B' v l := by
  refine ⟨h.1, ?_⟩
  rcases h.2 with h0 | ⟨g, cap, cur, fz, rfl, hg, r⟩
  · exact .inl h0
  · exact .inr ⟨g, cap, cur, fz, rfl, by omega, r⟩
theorem own_kept {w w' : World} {B : Nat} {v : Value} {l : List UInt8} (h : Own w B v l) (hk : ∀ k, B ≤ k → k < w.heap.size → w'.heap[k]? = w.heap[k]?) : Own w' B v l := by
  refine ⟨h.1, ?_⟩
  rcases h.2 with h0 | ⟨g, cap, cur, fz, rfl, hg, hh, r⟩
  · exact .inl h0
  · exact .inr ⟨g, cap, cur, fz, rfl, hg, (hk g hg (lt_of_block hh)).trans hh, r⟩
theorem own_set {w : World} {B D : Nat} {v : Value} {l : List UInt8} (h : Own w B v l) (hD : D < B) (u : Value) : Own (w.setCell ⟨D, 0, none⟩ u) B v l :=
  own_kept h fun k h1 _ => Below.heap_setCell _ _ _ _ (by show k ≠ D; omega)
theorem takeN_i63' (l : List UInt8) : (takeN l).1 ≤ 9223372036854775807 := by
  have := takeI_fits l
  unfold takeN
  split
  · exact Nat.zero_le _
  · split
    · exact Nat.zero_le _
    · show (takeI l).1.toNat ≤ _
      omega
/-- What Open ends in. -/
def OpenPost (l : List UInt8) (w : World) (e : Ending) (w' : World) : Prop :=
  ∃ v, e = .returned (.tuple #[.int .i64 (openL l).1, v, .int .i64 (openL l).2.2.1, .int .i64 (openL l).2.2.2]) ∧ Own w' w.heap.size v (openL l).2.1 ∧ Below w.heap.size w w'
theorem openPost_err {l : List UInt8} {w w' : World} {n : Nat} (h : openL l = (0, [], 0, n)) (hb : Below w.heap.size w w') : OpenPost l w (.returned (.tuple #[.int .i64 0, .slice none 0 0, .int .i64 0, .int .i64 n])) w' := by
  unfold OpenPost
  rw [h]
  exact ⟨_, rfl, own_nil _ _, hb⟩

set_option maxHeartbeats 4000000 in
set_option maxRecDepth 100000 in
theorem open_c (A : Option Addr) (l : List UInt8) (c : Nat) (w : World) (hA : ByAt w w.heap.size A l) (hc : l.length ≤ c ∧ c ≤ maxLen) (hl : l.length ≤ 1000000) :
    Calls Try.prog 17 #[.slice A l.length c] w (OpenPost l w) := by
  have hmf : ∀ (fn : Fn) (first cap : Array Value) (w : World), (Instr.makeFunc fn first cap).run Try.prog w = .ok (.func fn first cap) w := fun _ _ _ _ => rfl
  have hbeg := begW_dec hA hc
  have hAbeg : ByAt (begW w A l c) (w.heap.size + 1) A l := hbeg.by_
  have Htk := Lib.hid (take_c (w.heap.size + 1) (w.heap.size + 1) 1 A l c (begW w A l c) hbeg (by omega))
  have hx0 : l.length < 1 → openL l = (0, [], 0, 28) := fun h => by
    have : l = [] := List.length_eq_zero_iff.1 (by omega)
    subst this
    rfl
  clear hA hbeg
  go_enter_defers Try.func17, Try.ntmps17
  go_wp2_with fail
  refine Htk.out.mono ?_
  rintro e w1 (⟨h1, rfl, rfl⟩ | ⟨h1, rfl, hby1, hb1, A2, hd2⟩)
  · have hx := hx0 h1
    obtain ⟨q1, q2⟩ := begW_below (BelK.refl (w.heap.size + 1) (w.heap.size + 1) _ |>.bel)
    have c0 : (begW w A l c).cell? ⟨w.heap.size, 0, none⟩ = some (.int .i64 0) := by rw [Lib.cell_of_heap q2]; rfl
    have f0 : (begW w A l c).frozen? ⟨w.heap.size, 0, none⟩ = false := Lib.frozen_of_heap q2 0
    have hset := q1.setCell (p := ⟨w.heap.size, 0, none⟩) (Nat.le_refl _) (.int .i64 (28))
    clear Htk hAbeg hx0
    go_wp2_with fail
    refine leaves_cons (f := 32) (args := #[.pointer (some ⟨w.heap.size, 0, none⟩)]) (by simp) (by simp [go_sem]) ?_
    refine (catchO ⟨w.heap.size, 0, none⟩ 0 (28) (begW w A l c) c0 f0).mono ?_
    rintro e u' w9 ⟨rfl, rfl, rfl⟩
    have hs2 : ((begW w A l c).setCell ⟨w.heap.size, 0, none⟩ (.int .i64 (28))).cell? ⟨w.heap.size, 0, none⟩ = some (.int .i64 (28)) := by rw [Lib.cell_of_heap (one_setCell q2)]; rfl
    simp [Leaves, settle, results, Try.results17, go_sem, hs2]
    exact openPost_err hx hset
  clear Htk hx0
  obtain ⟨x, r, rfl⟩ : ∃ x r, l = x :: r := List.exists_cons_of_length_pos (by omega)
  obtain ⟨ab, ao, rfl, habl, hcell⟩ : ∃ b off, A = some ⟨b, off, none⟩ ∧ b < w.heap.size + 1 ∧ w1.cell? ⟨b, off, none⟩ = some (.int .u8 x.toNat) := by
    rcases hby1 with h0 | ⟨b, off, rfl, h1, h2⟩
    · simp at h0
    · exact ⟨b, off, rfl, h1, h2 0 (by simp)⟩
  change DecAt w1 (w.heap.size + 1) (w.heap.size + 1) A2 r (c - 1) at hd2
  have hrl : r.length ≤ 1000000 := by simp at hl; omega
  have hsz1 : w.heap.size + 1 ≤ w1.heap.size := by have := hb1.bel.size; simp [begW] at this; omega
  have Hsz := Lib.hid (size_c (w.heap.size + 1) (w.heap.size + 1) A2 r (c - 1) w1 hd2 hrl hsz1)
  have hOp : openL (x :: r) = if (takeN r).2.2 ≠ 0 then (0, [], 0, (takeN r).2.2) else
    if r.length - (takeN r).2.1 < (takeN r).1 then (0, [], 0, 28) else
    if r.length - (takeN r).2.1 - (takeN r).1 < 4 then (0, [], 0, 28) else
    if ((r.drop ((takeN r).2.1 + (takeN r).1)).take 4 == fourL (crcSum ((x :: r).take (1 + (takeN r).2.1 + (takeN r).1)))) = false then (0, [], 0, 29) else
    (x.toNat, (r.drop (takeN r).2.1).take (takeN r).1, 1 + (takeN r).2.1 + (takeN r).1 + 4, 0) := rfl
  have hnf := takeN_i63' r
  have hnu := takeN_fits r
  generalize takeN r = N at *
  obtain ⟨n, u, te⟩ := N
  simp only at hOp hnf hnu
  have HOp := Lib.hid hOp
  clear hOp hd2 hby1 h1
  go_wp2_with fail
  refine Hsz.out.mono ?_
  rintro e w2 ⟨hb2, (⟨h2, rfl⟩ | ⟨h2, rfl, A3, c3, hd3⟩)⟩
  · have hx : openL (x :: r) = (0, [], 0, te) := by rw [HOp.out, if_pos h2]
    have hb2' := hb1.trans hb2
    obtain ⟨q1, q2⟩ := begW_below (hb2'.bel)
    have c0 : w2.cell? ⟨w.heap.size, 0, none⟩ = some (.int .i64 0) := by rw [Lib.cell_of_heap q2]; rfl
    have f0 : w2.frozen? ⟨w.heap.size, 0, none⟩ = false := Lib.frozen_of_heap q2 0
    have hset := q1.setCell (p := ⟨w.heap.size, 0, none⟩) (Nat.le_refl _) (.int .i64 (te))
    clear Hsz HOp hAbeg
    go_wp2_with fail
    refine leaves_cons (f := 32) (args := #[.pointer (some ⟨w.heap.size, 0, none⟩)]) (by simp) (by simp [go_sem]) ?_
    refine (catchO ⟨w.heap.size, 0, none⟩ 0 te w2 c0 f0).mono ?_
    rintro e u' w9 ⟨rfl, rfl, rfl⟩
    have hs2 : (w2.setCell ⟨w.heap.size, 0, none⟩ (.int .i64 (te))).cell? ⟨w.heap.size, 0, none⟩ = some (.int .i64 (te)) := by rw [Lib.cell_of_heap (one_setCell q2)]; rfl
    simp [Leaves, settle, results, Try.results17, go_sem, hs2]
    exact openPost_err hx hset
  change te = 0 at h2
  subst h2
  have hb2' := hb1.trans hb2
  clear Hsz hcell
  have Htk3 := Lib.hid (take_c (w.heap.size + 1) (w.heap.size + 1) n A3 (r.drop u) c3 w2 hd3 hnf)
  clear hd3
  go_wp2_with fail
  refine Htk3.out.mono ?_
  rintro e w3 (⟨h3, rfl, rfl⟩ | ⟨h3, rfl, hby3, hb3, A4, hd4⟩)
  · rw [List.length_drop] at h3
    have hx : openL (x :: r) = (0, [], 0, 28) := by rw [HOp.out, if_neg (by simp), if_pos h3]
    obtain ⟨q1, q2⟩ := begW_below (hb2'.bel)
    have c0 : w3.cell? ⟨w.heap.size, 0, none⟩ = some (.int .i64 0) := by rw [Lib.cell_of_heap q2]; rfl
    have f0 : w3.frozen? ⟨w.heap.size, 0, none⟩ = false := Lib.frozen_of_heap q2 0
    have hset := q1.setCell (p := ⟨w.heap.size, 0, none⟩) (Nat.le_refl _) (.int .i64 (28))
    clear Htk3 HOp hAbeg
    go_wp2_with fail
    refine leaves_cons (f := 32) (args := #[.pointer (some ⟨w.heap.size, 0, none⟩)]) (by simp) (by simp [go_sem]) ?_
    refine (catchO ⟨w.heap.size, 0, none⟩ 0 (28) w3 c0 f0).mono ?_
    rintro e u' w9 ⟨rfl, rfl, rfl⟩
    have hs2 : (w3.setCell ⟨w.heap.size, 0, none⟩ (.int .i64 (28))).cell? ⟨w.heap.size, 0, none⟩ = some (.int .i64 (28)) := by rw [Lib.cell_of_heap (one_setCell q2)]; rfl
    simp [Leaves, settle, results, Try.results17, go_sem, hs2]
    exact openPost_err hx hset
  clear Htk3
  rw [List.length_drop] at h3
  rw [List.drop_drop] at hd4
  have hb3' := hb2'.trans hb3
  have cd : w3.cell? ⟨w.heap.size + 1, 0, none⟩ = some (.slice A4 (r.length - (u + n)) (c3 - n)) := by rw [Lib.cell_of_heap hd4.cell, List.length_drop]; rfl
  have i1 : ((r.length + 1 : Nat) : Int) - ((r.length - (u + n) : Nat) : Int) = ((1 + u + n : Nat) : Int) := by omega
  have i2 : ((1 + u + n : Nat) : Int) ≤ (c : Int) := by have := hc.1; simp at this; omega
  have i3 : 1 + u + n ≤ c := by omega
  have hcl : r.length + 1 ≤ c := by have := hc.1; simpa using this
  have hcm : c ≤ maxLen := hc.2
  have Htk4 := Lib.hid (take_c (w.heap.size + 1) (w.heap.size + 1) 4 A4 (r.drop (u + n)) (c3 - n) w3 hd4 (by omega))
  have I1 := Lib.hid i1
  clear hd4 i1
  go_wp2_with fail
  refine Htk4.out.mono ?_
  rintro e w4 (⟨h4, rfl, rfl⟩ | ⟨h4, rfl, hby4, hb4, A5, hd5⟩)
  · rw [List.length_drop] at h4
    have hx : openL (x :: r) = (0, [], 0, 28) := by rw [HOp.out, if_neg (by simp), if_neg (by omega), if_pos (by omega)]
    obtain ⟨q1, q2⟩ := begW_below (hb3'.bel)
    have c0 : w4.cell? ⟨w.heap.size, 0, none⟩ = some (.int .i64 0) := by rw [Lib.cell_of_heap q2]; rfl
    have f0 : w4.frozen? ⟨w.heap.size, 0, none⟩ = false := Lib.frozen_of_heap q2 0
    have hset := q1.setCell (p := ⟨w.heap.size, 0, none⟩) (Nat.le_refl _) (.int .i64 (28))
    clear Htk4 HOp hAbeg
    go_wp2_with fail
    refine leaves_cons (f := 32) (args := #[.pointer (some ⟨w.heap.size, 0, none⟩)]) (by simp) (by simp [go_sem]) ?_
    refine (catchO ⟨w.heap.size, 0, none⟩ 0 (28) w4 c0 f0).mono ?_
    rintro e u' w9 ⟨rfl, rfl, rfl⟩
    have hs2 : (w4.setCell ⟨w.heap.size, 0, none⟩ (.int .i64 (28))).cell? ⟨w.heap.size, 0, none⟩ = some (.int .i64 (28)) := by rw [Lib.cell_of_heap (one_setCell q2)]; rfl
    simp [Leaves, settle, results, Try.results17, go_sem, hs2]
    exact openPost_err hx hset
  clear Htk4 cd
  rw [List.length_drop] at h4
  rw [List.drop_drop] at hd5
  have hb4' := hb3'.trans hb4
  have hlt : ((x :: r).take (1 + u + n)).length = r.length + 1 - (r.length - (u + n)) := by rw [List.length_take, List.length_cons]; omega
  have hsb := sumBytes_c (w.heap.size + 1) _ _ c w4 (byAt_take (byAt_below hAbeg hb4'.bel (Nat.le_refl _)) (1 + u + n)) (by rw [hlt]; omega)
  rw [hlt] at hsb
  have hx2 := HOp.out
  rw [if_neg (by simp), if_neg (by omega), if_neg (by omega)] at hx2
  have Hx2 := Lib.hid hx2
  clear hx2 HOp
  generalize crcSum ((x :: r).take (1 + u + n)) = S at *
  have Hsb := Lib.hid hsb
  clear hsb hlt
  go_wp2_with fail
  refine Hsb.out.mono ?_
  rintro e w5 ⟨v5, rfl, o5, m5⟩
  clear Hsb
  obtain ⟨A6, c6, rfl, b6, _, _⟩ := own_by o5
  have hsz4 : w.heap.size + 1 ≤ w4.heap.size := by have := hb4.bel.size; have := hb3.bel.size; have := hb2.bel.size; omega
  have hb5' : Below (w.heap.size + 1) (begW w (some ⟨ab, ao, none⟩) (x :: r) c) w5 := hb4'.bel.trans (m5.mono hsz4)
  have heq := bytesEqual_c _ _ A4 A6 ((r.drop (u + n)).take 4) (fourL S) (c3 - n) c6 w5 (byAt_below hby4 m5 hsz4) b6
  rw [show ((r.drop (u + n)).take 4).length = 4 from by rw [List.length_take, List.length_drop]; omega] at heq
  generalize hq : ((r.drop (u + n)).take 4 == fourL S) = Q at *
  have Heq := Lib.hid heq
  clear heq hq b6 o5
  change Hid (Calls Try.prog 35 #[.slice A4 4 (c3 - n), .slice A6 4 c6] w5 _) at Heq
  have hcontent : ByAt w5 (w.heap.size + 1) A3 ((r.drop u).take n) := byAt_below (byAt_below hby3 hb4.bel (Nat.le_refl _)) m5 hsz4
  have hcl : ((r.drop u).take n).length = n := by rw [List.length_take, List.length_drop]; omega
  have cd : w5.cell? ⟨w.heap.size + 1, 0, none⟩ = some (.slice A5 (r.length - (u + n + 4)) (c3 - n - 4)) := by
    rw [m5.cell (p := ⟨w.heap.size + 1, 0, none⟩) (lt_of_block hd5.cell), Lib.cell_of_heap hd5.cell, List.length_drop]; rfl
  clear hd5 hby4 hby3 hAbeg hb4 hb3 hb2 hb1
  rcases Q with _ | _
  · have hx := Hx2.out
    rw [if_pos rfl] at hx
    change Hid (Calls Try.prog 35 #[.slice A4 4 (c3 - n), .slice A6 4 c6] w5 fun e w' => e = .returned (.bool false) ∧ w5 = w') at Heq
    change Below (w.heap.size + 1) _ w5 at hb5'
    clear cd
    go_wp2_with fail
    refine Heq.out.mono ?_
    rintro e w6 ⟨rfl, rfl⟩
    obtain ⟨q1, q2⟩ := begW_below (hb5')
    have c0 : w5.cell? ⟨w.heap.size, 0, none⟩ = some (.int .i64 0) := by rw [Lib.cell_of_heap q2]; rfl
    have f0 : w5.frozen? ⟨w.heap.size, 0, none⟩ = false := Lib.frozen_of_heap q2 0
    have hset := q1.setCell (p := ⟨w.heap.size, 0, none⟩) (Nat.le_refl _) (.int .i64 (29))
    clear Hx2 hcontent
    go_wp2_with fail
    refine leaves_cons (f := 32) (args := #[.pointer (some ⟨w.heap.size, 0, none⟩)]) (by simp) (by simp [go_sem]) ?_
    refine (catchO ⟨w.heap.size, 0, none⟩ 0 (29) w5 c0 f0).mono ?_
    rintro e u' w9 ⟨rfl, rfl, rfl⟩
    have hs2 : (w5.setCell ⟨w.heap.size, 0, none⟩ (.int .i64 (29))).cell? ⟨w.heap.size, 0, none⟩ = some (.int .i64 (29)) := by rw [Lib.cell_of_heap (one_setCell q2)]; rfl
    simp [Leaves, settle, results, Try.results17, go_sem, hs2]
    exact openPost_err hx hset
  · have hx := Hx2.out
    rw [if_neg (by simp)] at hx
    change Hid (Calls Try.prog 35 #[.slice A4 4 (c3 - n), .slice A6 4 c6] w5 fun e w' => e = .returned (.bool true) ∧ w5 = w') at Heq
    obtain ⟨q1, q2⟩ := begW_below hb5'
    have c0 : w5.cell? ⟨w.heap.size, 0, none⟩ = some (.int .i64 0) := by rw [Lib.cell_of_heap q2]; rfl
    have f0 : w5.frozen? ⟨w.heap.size, 0, none⟩ = false := Lib.frozen_of_heap q2 0
    have Hx := Lib.hid hx
    have hb1l : w.heap.size + 1 < w5.heap.size := by have := hb5'.size; simp [begW] at this; omega
    have hb0l : w.heap.size < w5.heap.size := by omega
    have hclone : ∀ W, Below w5.heap.size w5 W → Calls Try.prog 36 #[.slice A3 ((r.drop u).take n).length c3] W fun e w' => ∃ v, e = .returned v ∧ Own w' w5.heap.size v ((r.drop u).take n) ∧ Below w5.heap.size w5 w' ∧
      (w'.cell? ⟨w.heap.size + 1, 0, none⟩ = some (.slice A5 (r.length - (u + n + 4)) (c3 - n - 4)) ∧ w'.cell? ⟨w.heap.size, 0, none⟩ = some (.int .i64 0) ∧ w'.frozen? ⟨w.heap.size, 0, none⟩ = false) := by
      intro W hW
      refine (bytesClone_c (w.heap.size + 1) A3 _ c3 W (byAt_below hcontent hW (by have := m5.size; omega)) (by rw [hcl]; omega)).mono ?_
      rintro e w' ⟨v, h1, h2, h3⟩
      have h4 := hW.trans (h3.mono hW.size)
      exact ⟨v, h1, own_mono h2 hW.size, h4, (h4.cell (p := ⟨w.heap.size + 1, 0, none⟩) hb1l).trans cd, (h4.cell (p := ⟨w.heap.size, 0, none⟩) hb0l).trans c0, (h4.frozen (p := ⟨w.heap.size, 0, none⟩) hb0l).trans f0⟩
    rw [hcl] at hclone
    have Hclone := Lib.hid hclone
    clear hx Hx2 hclone hcontent
    go_wp2_with fail
    refine Heq.out.mono ?_
    rintro e w6 ⟨rfl, rfl⟩
    clear Heq
    go_wp2_with fail
    have j2 : IntKind.i64.wrap (x.toNat : Int) = (x.toNat : Int) := IntWalk.i64_in _ (by have := UInt8.toNat_lt x; omega)
    have j1 : IntKind.i64.wrap ((r.length : Int) + 1 - ((r.length - (u + n + 4) : Nat) : Int)) = ((1 + u + n + 4 : Nat) : Int) := by rw [IntWalk.i64_in _ (by omega)]; omega
    go_region_held3 (fun w' => w'.cell? ⟨w.heap.size + 1, 0, none⟩ = some (.slice A5 (r.length - (u + n + 4)) (c3 - n - 4)))
      (first | go_keep | assumption)
      ((go_at_call 36; refine (Hclone.out _ (by first | exact Below.refl _ _ | exact (Below.refl _ _).drew)).mono ?_; rintro e w7 ⟨v7, rfl, o7, m7, s7a, s7b, s7c⟩))
    have q7 : w7.heap[w.heap.size]? = some (.cells #[.int .i64 0] 24 (0, 0)) := (m7.block _ hb0l).trans q2
    have b7 := one_setCell (u := .int .i64 0) q7
    have d0 : (w7.setCell ⟨w.heap.size, 0, none⟩ (.int .i64 0)).cell? ⟨w.heap.size, 0, none⟩ = some (.int .i64 0) := by rw [Lib.cell_of_heap b7]; rfl
    have e0 : (w7.setCell ⟨w.heap.size, 0, none⟩ (.int .i64 0)).frozen? ⟨w.heap.size, 0, none⟩ = false := Lib.frozen_of_heap b7 0
    have o8 := own_set (own_set o7 (D := w.heap.size) hb0l (.int .i64 0)) (D := w.heap.size) hb0l (.int .i64 0)
    have m8 := ((q1.trans (m7.mono (by omega))).setCell (p := ⟨w.heap.size, 0, none⟩) (Nat.le_refl _) (.int .i64 0)).setCell (p := ⟨w.heap.size, 0, none⟩) (Nat.le_refl _) (.int .i64 0)
    clear Hclone j1 j2 hcl
    all_goals go_wp2_with fail
    refine leaves_cons (f := 32) (args := #[.pointer (some ⟨w.heap.size, 0, none⟩)]) (by simp) (by simp [go_sem]) ?_
    refine (idleO ⟨w.heap.size, 0, none⟩ 0 _ d0 e0).mono ?_
    rintro e u' w2 ⟨rfl, rfl, rfl⟩
    have hs2 : ((w7.setCell ⟨w.heap.size, 0, none⟩ (.int .i64 0)).setCell ⟨w.heap.size, 0, none⟩ (.int .i64 0)).cell? ⟨w.heap.size, 0, none⟩ = some (.int .i64 0) := by
      rw [Lib.cell_of_heap (one_setCell (u := .int .i64 0) b7)]; rfl
    simp [Leaves, settle, results, Try.results17, go_sem, hs2]
    unfold OpenPost
    rw [Hx.out]
    exact ⟨v7, by simp, own_mono o8 (by omega), m8⟩
end Go.Proofs.Ythikmjhjbokppaa
