/- The examples of the chapter: awake answers true. -/
import Derived.Test.YtdiaghmkbplipaaOff
import Derived.Test.YtdiaghmkbplipaaPlace
import Derived.Test.YtdiaghmkbplipaaShift
import Derived.Test.YtdiaghmkbplipaaDiff
namespace Go.Proofs.Ytdiaghmkbplipaa
open Go.RowKit

def exE : List Ed := [⟨1, 2, ⟨#[88, 89]⟩⟩, ⟨2, 2, ⟨#[45]⟩⟩]
def exS : ByteArray := ⟨#[97, 98, 99, 100]⟩
def exL : ByteArray := ⟨#[97, 10, 98, 99]⟩
theorem exE_ok : EdOk exE := ⟨by decide, by intro e he; simp [exE] at he; rcases he with rfl | rfl <;> decide⟩
theorem exE_valid : valid exS exE = 0 := by decide +kernel
theorem exE_apply : apply exS exE = ⟨#[97, 88, 89, 45, 99, 100]⟩ := by
  unfold apply
  rw [if_pos exE_valid]
  rfl
theorem ex_place1 : placeL exL (clampAt exL 4) = 2 := by decide +kernel
theorem ex_place2 : placeC exL (clampAt exL 4) = 3 := by decide +kernel
theorem ex_offset : offset exL 2 3 = (4, 0) := by decide +kernel
theorem ex_shift : shiftL 3 0 exE = 5 := by decide +kernel
theorem ex_lines : (lineVals exL (spans exL.data.toList 0 0)).length = 2 := by decide +kernel

theorem exE_at (w : World) (B b : Nat) (hb : b < B) (h : w.heap[b]? = some (.cells #[.int .i64 1, .int .i64 2, .string ⟨#[88, 89]⟩, .int .i64 2, .int .i64 2, .string ⟨#[45]⟩] 47 (0, 0))) : EdAt w B (some ⟨b, 0, none⟩) exE := by
  intro _
  refine ⟨b, 0, rfl, hb, fun i e he => ?_⟩
  match i, he with
  | 0, he => simp [exE] at he; subst he; refine ⟨?_, ?_, ?_⟩ <;> (rw [Lib.cell_of_heap h]; rfl)
  | 1, he => simp [exE] at he; subst he; refine ⟨?_, ?_, ?_⟩ <;> (rw [Lib.cell_of_heap h]; rfl)
  | n + 2, he => simp [exE] at he

set_option maxHeartbeats 1000000 in
theorem awake_c (w : World) : Calls Try.prog 8 #[] w fun e w' => e = .returned (.bool true) ∧ Below w.heap.size w w' := by
  go_enter Try.func8, Try.ntmps8
  go_wp2_with fail
  have hn := heap_alloc_new w (.cells #[.int .i64 1, .int .i64 2, .string ⟨#[88, 89]⟩, .int .i64 2, .int .i64 2, .string ⟨#[45]⟩] 47)
  have hA0 := exE_at _ (w.heap.size + 1) _ (by omega) hn
  have hb0 : Below w.heap.size w (w.alloc (.cells #[.int .i64 1, .int .i64 2, .string ⟨#[88, 89]⟩, .int .i64 2, .int .i64 2, .string ⟨#[45]⟩] 47)) := (Below.refl _ w).alloc (Nat.le_refl _) _
  have hs0 : (w.alloc (.cells #[.int .i64 1, .int .i64 2, .string ⟨#[88, 89]⟩, .int .i64 2, .int .i64 2, .string ⟨#[45]⟩] 47)).heap.size = w.heap.size + 1 := by simp
  clear hn
  generalize w.alloc (.cells #[.int .i64 1, .int .i64 2, .string ⟨#[88, 89]⟩, .int .i64 2, .int .i64 2, .string ⟨#[45]⟩] 47) = W0 at *
  have Hs0 := Lib.hid hs0
  have hz0 : w.heap.size + 1 ≤ W0.heap.size := by omega
  clear hs0
  refine (apply_c exS (some ⟨w.heap.size, 0, none⟩) 2 exE W0 (by decide) exE_ok (hA0.more hz0)).mono ?_
  rintro e w1 ⟨rfl, hb1⟩
  have hz1 := hb1.size
  rw [exE_apply, exE_valid]
  go_wp2_with fail
  refine (place_c exL 4 w1 (by decide) (by omega) (by omega)).mono ?_
  rintro e w2 ⟨rfl, hb2⟩
  have hz2 := hb2.size
  rw [ex_place1, ex_place2]
  go_wp2_with fail
  refine (offset_c exL 2 3 w2 (by decide) (by omega) (by omega) (by omega) (by omega)).mono ?_
  rintro e w3 ⟨rfl, hb3⟩
  have hz3 := hb3.size
  rw [ex_offset]
  go_wp2_with fail
  have hA3 : EdAt w3 (w.heap.size + 1) _ exE := ((hA0.below (hb1.mono hz0)).below (hb2.mono (by omega))).below (hb3.mono (by omega))
  refine (shift_c (some ⟨w.heap.size, 0, none⟩) 2 exE 3 w3 (by omega) (by omega) exE_ok (fun e he => by have := valid_all exE_valid e he; have h4 : exS.size = 4 := rfl; omega) (hA3.more (by omega))).mono ?_
  rintro e w4 ⟨rfl, hb4⟩
  have hz4 := hb4.size
  rw [ex_shift]
  go_wp2_with fail
  have hA4 : EdAt w4 (w.heap.size + 1) _ exE := hA3.below (hb4.mono (by omega))
  refine (valid_c exS (some ⟨w.heap.size, 0, none⟩) 2 exE w4 (by decide) exE_ok (hA4.more (by omega))).mono ?_
  rintro e w5 ⟨rfl, hb5⟩
  have hz5 := hb5.size
  rw [exE_valid]
  go_wp2_with fail
  refine (lines_c exL w5 (by decide)).mono ?_
  rintro e w6 ⟨v, rfl, hown, hb6⟩
  have hz6 := hb6.size
  obtain ⟨g, cap, rfl, _⟩ := hown.form (by rw [ex_lines]; omega)
  rw [ex_lines]
  clear hown
  go_wp2_with fail
  refine (diff_c ⟨#[97]⟩ ⟨#[98]⟩ w6 (by decide) (by decide) (by decide)).mono ?_
  rintro e w7 ⟨g2, rfl, _, _, _, hb7⟩
  have hz7 := hb7.size
  go_wp2
  go_ret
  exact ⟨rfl, hb0.trans ((((((hb1.mono (by omega)).trans (hb2.mono (by omega))).trans (hb3.mono (by omega))).trans (hb4.mono (by omega))).trans (hb5.mono (by omega))).trans ((hb6.mono (by omega)).trans (hb7.mono (by omega))))⟩
end Go.Proofs.Ytdiaghmkbplipaa
