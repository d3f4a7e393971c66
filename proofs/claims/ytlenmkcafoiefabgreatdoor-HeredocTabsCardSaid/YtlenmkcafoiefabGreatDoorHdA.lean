/- heredoc: the examples of the chapter: awake answers true. -/
import Derived.Test.YtlenmkcafoiefabGreatDoorHdE
import Derived.Test.YtlenmkcafoiefabGreatDoorHdR
import Derived.Test.YtlenmkcafoiefabGreatDoorHwG
namespace Go.Proofs.YtlenmkcafoiefabGreatDoor
open Go.RowKit
set_option linter.unusedVariables false

theorem free_uniq {l : List (Nat × ByteArray)} {m k : Nat} (h : FreeAt l m) (h' : FreeAt l k) : m = k := by
  rcases Nat.lt_trichotomy m k with h1 | h1 | h1
  · have := h'.1 m h1; rw [h.2] at this; cases this
  · exact h1
  · have := h.1 k h1; rw [h'.2] at this; cases this
theorem cand0 : cand 0 = ⟨#[69, 79, 70]⟩ := rfl
theorem cand1 : cand 1 = ⟨#[69, 79, 70, 49]⟩ := by
  show (⟨#[69, 79, 70]⟩ : ByteArray) ++ ⟨(Lib.decDigits (0 + 1)).toArray⟩ = _
  rw [show Lib.decDigits (0 + 1) = [49] by rw [dec_eq]; rfl]
  rfl
theorem cand2 : cand 2 = ⟨#[69, 79, 70, 50]⟩ := by
  show (⟨#[69, 79, 70]⟩ : ByteArray) ++ ⟨(Lib.decDigits (1 + 1)).toArray⟩ = _
  rw [show Lib.decDigits (1 + 1) = [50] by rw [dec_eq]; rfl]
  rfl
def eofS : ByteArray := ⟨#[69, 79, 70, 10, 69, 79, 70, 49]⟩
theorem eof_free : FreeAt (lnsL eofS 0) 2 := by
  refine ⟨fun i hi => ?_, ?_⟩
  · rcases (by omega : i = 0 ∨ i = 1) with rfl | rfl
    · rw [cand0]; kernel_rfl
    · rw [cand1]; kernel_rfl
  · rw [cand2]; kernel_rfl
theorem small_itoa (k : Nat) (hk : k < 99) (w : World) : ∀ (n : Nat) (W : World), n ≤ k + 1 → Below w.heap.size w W → Calls Tryz.prog 41 #[.int .i64 n] W fun e w' => e = .returned (.string ⟨(Lib.decDigits n).toArray⟩) ∧ Below W.heap.size W w' := by
  intro n W hn _
  refine (Tryz.strconv_Itoa_small n (by omega) W).mono ?_
  rintro e w' ⟨rfl, rfl⟩
  exact ⟨rfl, Below.refl _ _⟩
theorem eof_c (w : World) : Calls Tryz.prog 23 #[.string eofS] w fun e w' => e = .returned (.string ⟨#[69, 79, 70, 50]⟩) ∧ Below w.heap.size w w' := by
  refine (Delim_c eofS w (by decide) (small_itoa eofS.size (by decide) w)).mono ?_
  rintro e w' ⟨m, rfl, _, hf, hb⟩
  rw [free_uniq hf eof_free, cand2]
  exact ⟨rfl, hb⟩
set_option maxHeartbeats 4000000 in
set_option maxRecDepth 100000 in
theorem body_n (w : World) : Calls Tryz.prog 36 #[.string docS, .bool false] w fun e w' => (∃ A c, e = .returned (.tuple #[.slice A 2 c, .int .i64 0, .int .i64 0])) ∧ Below w.heap.size w w' := by
  have H := Lib.hid (here_doc w)
  go_enter Tryz.func36, Tryz.ntmps36
  go_wp2_with fail
  refine H.out.mono ?_
  rintro e w1 ⟨⟨A, c, rfl⟩, m1⟩
  go_wp2_with fail
  go_ret3
  exact ⟨⟨A, c, rfl⟩, m1⟩
set_option maxHeartbeats 4000000 in
set_option maxRecDepth 100000 in
theorem body_q (w : World) : Calls Tryz.prog 36 #[.string docS, .bool true] w fun e w' => e = .returned (.tuple #[.slice (some ⟨w.heap.size, 0, none⟩) 1 1, .int .i64 0, .int .i64 0]) ∧ w'.cell? ⟨w.heap.size, 0, none⟩ = some (.int .i64 2) ∧ w'.cell? ⟨w.heap.size, 1, none⟩ = some (.string docS) ∧ w'.heap.size = w.heap.size + 1 ∧ Below w.heap.size w w' := by
  have e0 : docS.toList.isEmpty = false := by kernel_rfl
  go_enter Tryz.func36, Tryz.ntmps36
  go_wp2_with fail
  go_ret3
  refine ⟨rfl, ?_, ?_, ?_, ?_⟩
  · rw [cell_of_row _ _ 0 _ _ _ (heap_alloc_new w _)]; rfl
  · rw [cell_of_row _ _ 1 _ _ _ (heap_alloc_new w _)]; rfl
  · simp
  · exact (Below.refl _ _).alloc (Nat.le_refl _) _
def aebS : ByteArray := ⟨#[97, 10, 69, 10, 98]⟩
theorem aeb_term : termL (lnsL aebS 0) ⟨#[69]⟩ false = some (2, ⟨#[69, 10]⟩) := by kernel_rfl
theorem aeb_cont : contT aebS 0 2 false = ⟨#[97, 10]⟩ := by kernel_rfl
def tabsS : ByteArray := ⟨#[9, 97, 10, 9, 32, 9, 98]⟩
theorem tabs_strip : stripS tabsS = ⟨#[97, 10, 32, 9, 98]⟩ := by kernel_rfl
set_option maxHeartbeats 4000000 in
set_option maxRecDepth 100000 in
theorem awake_c (w : World) : Calls Tryz.prog 20 #[] w fun e w' => e = .returned (.bool true) ∧ Below w.heap.size w w' := by
  obtain ⟨w0, hw0⟩ : ∃ w0, w0 = w.alloc (.cells #[.string ⟨#[69]⟩, .bool false, .bool false] 45) := ⟨_, rfl⟩
  have hz0 : w0.heap.size = w.heap.size + 1 := by rw [hw0]; simp
  have hb0 : Below w.heap.size w w0 := by rw [hw0]; exact (Below.refl _ _).alloc (Nat.le_refl _) _
  have HR := Lib.hid (Read_c aebS ⟨#[69]⟩ false false w.heap.size 0 w0 (by decide) (by decide) (by omega) (by rw [hw0, cell_of_row _ _ 0 _ _ _ (heap_alloc_new w _)]; rfl) (by rw [hw0, cell_of_row _ _ 1 _ _ _ (heap_alloc_new w _)]; rfl) (by rw [hw0, cell_of_row _ _ 2 _ _ _ (heap_alloc_new w _)]; rfl) (2, ⟨#[69, 10]⟩) aeb_term)
  rw [aeb_cont] at HR
  have HN := Lib.hid (fun W => body_n W)
  have HQ := Lib.hid (fun W => body_q W)
  have HS := Lib.hid (fun W => Strip_c tabsS W (by decide))
  rw [tabs_strip] at HS
  have HE := Lib.hid (fun W => eof_c W)
  go_enter Tryz.func20, Tryz.ntmps20
  go_wp2_with fail
  rw [← hw0]
  refine HR.out.mono ?_
  rintro e w1 ⟨⟨v, rfl, ho⟩, m1⟩
  obtain ⟨g, cap, cur, rfl, hg, hh, hc1, hc2, hc3, hc4⟩ := ho.2.resolve_left (by rintro ⟨_, h⟩; cases h)
  have k1 : w1.cell? ⟨g, 0, none⟩ = some (.string ⟨#[97, 10]⟩) := by
    have h0 := World.ownsRow.cellAt ho 0 (by omega)
    simpa using h0
  have hgl := (Array.getElem?_eq_some_iff.1 hh).1
  have hb1 := Lib.hid (hb0.trans (m1.mono (by omega)))
  have hz1 := m1.size
  clear ho hh m1 hc3 hc4 hw0
  go_wp2_with fail
  refine (HN.out _).mono ?_
  rintro e w2 ⟨⟨A, c, rfl⟩, m2⟩
  have k2 := (m2.cell (p := ⟨g, 0, none⟩) hgl).trans k1
  have hz2 := m2.size
  have hb2 := Lib.hid (hb1.out.trans (m2.mono (by omega)))
  clear k1
  go_wp2_with fail
  refine (HQ.out _).mono ?_
  rintro e w3 ⟨rfl, q0, q1, hz3, m3⟩
  have k3 := (m3.cell (p := ⟨g, 0, none⟩) (by simp; omega)).trans k2
  have hb3 := Lib.hid (hb2.out.trans (m3.mono (by omega)))
  clear k2
  unfold docS at q1
  go_wp2_with fail
  refine (HS.out _).mono ?_
  rintro e w4 ⟨rfl, m4⟩
  have hb4 := Lib.hid (hb3.out.trans (m4.mono (by omega)))
  have hz4 := m4.size
  go_wp2_with fail
  refine (HE.out _).mono ?_
  rintro e w5 ⟨rfl, m5⟩
  have hb5 := Lib.hid (hb4.out.trans (m5.mono (by omega)))
  go_wp2_with fail
  go_ret
  exact ⟨rfl, hb5.out⟩
end Go.Proofs.YtlenmkcafoiefabGreatDoor
