/- words: a dollar in a here-document. -/
import Derived.Test.YtlenmkcafoiefabGreatDoorHwD
namespace Go.Proofs.YtlenmkcafoiefabGreatDoor
open Go.RowKit
set_option linter.unusedVariables false

/-- All that lies, but blocks P and L, lies on. -/
structure But2 (P L : Nat) (w w' : World) : Prop where
  rel : Below 0 w w'
  same : ∀ k, k < w.heap.size → k ≠ L → k ≠ P → w'.heap[k]? = w.heap[k]?
theorem But2.size {P L : Nat} {w w' : World} (h : But2 P L w w') : w.heap.size ≤ w'.heap.size := h.rel.size
theorem But2.refl (P L : Nat) (w : World) : But2 P L w w := ⟨Below.refl _ _, fun _ _ _ _ => rfl⟩
theorem But2.trans {P L : Nat} {a b c : World} (h : But2 P L a b) (k : But2 P L b c) : But2 P L a c := ⟨h.rel.trans k.rel, fun i hi hn hp => (k.same i (by have := h.size; omega) hn hp).trans (h.same i hi hn hp)⟩
theorem But2.of_below {P L : Nat} {a b : World} (h : Below a.heap.size a b) : But2 P L a b := ⟨h.mono (Nat.zero_le _), fun k hk _ _ => h.block k hk⟩
theorem But2.ofL {P L : Nat} {a b : World} (h : ButL L a b) : But2 P L a b := ⟨h.rel, fun k hk hn _ => h.same k hk hn⟩
theorem But2.ofP {P L : Nat} {a b : World} (h : ButL P a b) : But2 P L a b := ⟨h.rel, fun k hk _ hn => h.same k hk hn⟩
theorem But2.blk {P L : Nat} {a b : World} (h : But2 P L a b) {k : Nat} {o : Obj} (hk : a.heap[k]? = some o) (hn : k ≠ L) (hp : k ≠ P) : b.heap[k]? = some o := (h.same k (Array.getElem?_eq_some_iff.1 hk).1 hn hp).trans hk
def plcO : Obj := .cells #[.int .i64 3, .bool false, .int .i64 1] 136 (0, 0)
theorem plc_cells {b : Nat} {w : World} (h : w.heap[b]? = some plcO) : w.cell? ⟨b, 0, none⟩ = some (.int .i64 3) ∧ w.cell? ⟨b, 1, none⟩ = some (.bool false) ∧ w.cell? ⟨b, 2, none⟩ = some (.int .i64 1) := by
  unfold plcO at h
  exact ⟨by rw [Lib.cell_of_heap h]; rfl, by rw [Lib.cell_of_heap h]; rfl, by rw [Lib.cell_of_heap h]; rfl⟩
set_option maxHeartbeats 16000000 in
set_option maxRecDepth 100000 in
theorem dollar_gen (P L : Nat) (s : ByteArray) (a n : Nat) (t : ByteArray) (w : World) (hs : s.size ≤ 1000000) (ha : a + 1 ≤ s.size) (pa : Lib.hasPrefix (s.data.toList.drop a) (⟨#[36, 40, 40]⟩ : ByteArray).data.toList = false) (pb : Lib.hasPrefix (s.data.toList.drop a) (⟨#[36, 40]⟩ : ByteArray).data.toList = false) (pc : Lib.hasPrefix (s.data.toList.drop a) (⟨#[36, 123]⟩ : ByteArray).data.toList = false)
    (hpar : 0 < paramL (s.data.toList.drop (a + 1))) (hprm : ∀ w : World, w.heap[P]? = some (psrO s a) → Calls Tryz.prog 176 #[.pointer (some ⟨P, 0, none⟩)] w fun e w' => e = .returned (partV 4 t) ∧ w'.heap[P]? = some (psrO s n) ∧ ButL P w w')
    (hP : w.heap[P]? = some (psrO s a)) (hL : w.heap[L]? = some (lstO (.slice none 0 0) (.slice none 0 0))) (hPL : P ≠ L) :
    Calls Tryz.prog 153 #[.pointer (some ⟨P, 0, none⟩), plcV, .pointer (some ⟨L, 0, none⟩)] w fun e w' => e = .returned (.tuple #[]) ∧ ∃ v, w'.heap[L]? = some (lstO v (.slice none 0 0)) ∧ w'.ownsRow w.heap.size 66 5 v 1 (partC 4 t) ∧ w'.heap[P]? = some (psrO s n) ∧ But2 P L w w' := by
  have hltP := (Array.getElem?_eq_some_iff.1 hP).1
  have hltL := (Array.getElem?_eq_some_iff.1 hL).1
  have m0 : Below w.heap.size w (w.alloc plcO) := (Below.refl _ w).alloc (Nat.le_refl _) _
  have hP0 := (Below.heap_alloc w plcO P hltP).trans hP
  have hB0 := heap_alloc_new w plcO
  have hF : Hid (∀ (t : ByteArray) W, W.heap[P]? = some (psrO s a) → Calls Tryz.prog 147 #[.pointer (some ⟨P, 0, none⟩), .string t] W fun e w' => e = .returned (.bool (Lib.hasPrefix (s.data.toList.drop a) t.data.toList)) ∧ Below W.heap.size W w') := Lib.hid (fun t W h => follows_c P s t a W h (by omega) hs)
  have Fa := hF.out ⟨#[36, 40, 40]⟩
  have Fb := hF.out ⟨#[36, 40]⟩
  have Fc := hF.out ⟨#[36, 123]⟩
  rw [pa] at Fa
  rw [pb] at Fb
  rw [pc] at Fc
  have HFa := Lib.hid Fa
  have HFb := Lib.hid Fb
  have HFc := Lib.hid Fc
  obtain ⟨r, hr⟩ : ∃ r, r = paramL (s.data.toList.drop (a + 1)) := ⟨_, rfl⟩
  have HPr : Hid (∀ W, Calls Tryz.prog 144 #[.string (s.extract (a + 1) s.size)] W fun e w' => e = .returned (.int .i64 r) ∧ W = w') := Lib.hid (fun W => by
    have := param_c (s.extract (a + 1) s.size) W (by simp; omega)
    rw [dropS, ← hr] at this
    exact this)
  rw [← hr] at hpar
  have t1 : decide ((0 : Int) < (r : Int)) = true := decide_eq_true (by omega)
  have t1' : decide (0 < r) = true := decide_eq_true hpar
  have b1 : (0 : Int) ≤ (a : Int) + 1 := by omega
  have b2 : (a : Int) + 1 ≤ (s.size : Int) := by omega
  have b3 : (a : Int) < (s.size : Int) := by omega
  have b4 : a < s.size := by omega
  have w1 : IntKind.i64.wrap ((a : Int) + 1) = (a : Int) + 1 := IntWalk.i64_in _ (by omega)
  have b5 : ((a : Int) + 1).toNat = a + 1 := by omega
  have HC := Lib.hid hprm
  unfold plcO at *
  unfold plcV
  clear hF Fa Fb Fc pa pb pc hr hprm
  go_enter Tryz.func153, Tryz.ntmps153
  go_wp2_with fail
  refine (HFa.out _ hP0).mono ?_
  rintro e w1 ⟨rfl, m1⟩
  have hP1 := (m1.block P (Array.getElem?_eq_some_iff.1 hP0).1).trans hP0
  have hB1 := (m1.block _ (Array.getElem?_eq_some_iff.1 hB0).1).trans hB0
  go_wp2_with fail
  refine (HFb.out _ hP1).mono ?_
  rintro e w2 ⟨rfl, m2⟩
  have hP2 := (m2.block P (Array.getElem?_eq_some_iff.1 hP1).1).trans hP1
  go_wp2_with fail
  refine (HFc.out _ hP2).mono ?_
  rintro e w3 ⟨rfl, m3⟩
  have hP3 := (m3.block P (Array.getElem?_eq_some_iff.1 hP2).1).trans hP2
  have k1 : Below w.heap.size w w3 := (m0.trans (m1.mono m0.size)).trans ((m2.mono (m0.trans (m1.mono m0.size)).size).trans (m3.mono ((m0.trans (m1.mono m0.size)).trans (m2.mono (m0.trans (m1.mono m0.size)).size)).size))
  have hL3 := (k1.block L hltL).trans hL
  obtain ⟨c0, c1, c2⟩ := psr_cells hP3
  have hs3 := k1.size
  have HA := Lib.hid (fun (W : World) (h : W.heap[L]? = some (lstO (.slice none 0 0) (.slice none 0 0))) => add_c L 4 t W h)
  unfold partV at HC HA
  clear hP0 hP1 hP2 m1 m2 m3 m0 hB0 hB1
  go_wp2_with fail
  go_region_held3 (fun w' => w'.cell? ⟨P, 0, none⟩ = some (.string s) ∧ w'.cell? ⟨P, 1, none⟩ = some (.int .i64 a))
    (first | go_keep | assumption)
    ((go_at_call 144; refine (HPr.out _).mono ?_; rintro r w7 ⟨rfl, rfl⟩))
  go_wp2_with fail
  refine (HC.out w3.drew hP3).mono ?_
  rintro e w4 ⟨rfl, g1, g2⟩
  have hL4 := g2.blk (a := w3.drew) hL3 (fun h => hPL h.symm)
  go_wp2_with fail
  refine (HA.out _ hL4).mono ?_
  rintro e w5 ⟨rfl, v, a1, a2, a3⟩
  go_wp2_with fail
  go_end0
  have q : But2 P L w w5 := ((But2.of_below k1.drew).trans (But2.ofP (L := L) g2)).trans (But2.ofL a3)
  have hz : w.heap.size ≤ w4.heap.size := by have := g2.size; simp at this; omega
  exact ⟨rfl, v, a1, ⟨a2.1, a2.2.imp id fun ⟨g, cap, cur, h1, h2, h3⟩ => ⟨g, cap, cur, h1, Nat.le_trans hz h2, h3⟩⟩, a3.blk g1 hPL, q⟩
theorem dollar_doc (P L : Nat) (w : World) (hP : w.heap[P]? = some (psrO docS 0)) (hL : w.heap[L]? = some (lstO (.slice none 0 0) (.slice none 0 0))) (hPL : P ≠ L) :
    Calls Tryz.prog 153 #[.pointer (some ⟨P, 0, none⟩), plcV, .pointer (some ⟨L, 0, none⟩)] w fun e w' => e = .returned (.tuple #[]) ∧ ∃ v, w'.heap[L]? = some (lstO v (.slice none 0 0)) ∧ w'.ownsRow w.heap.size 66 5 v 1 (partC 4 ⟨#[120]⟩) ∧ w'.heap[P]? = some (psrO docS 2) ∧ But2 P L w w' :=
  dollar_gen P L docS 0 2 ⟨#[120]⟩ w (by decide) (by decide) (by kernel_rfl) (by kernel_rfl) (by kernel_rfl) (by decide +kernel) (fun w h => param_doc P w h) hP hL hPL
end Go.Proofs.YtlenmkcafoiefabGreatDoor
