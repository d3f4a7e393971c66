/- alias: awake. -/
import Derived.Test.YticehbhedoploaaGreatDoorAlV2
namespace Go.Proofs.YticehbhedoploaaGreatDoor
open Go.RowKit
set_option linter.unusedVariables false

theorem ex_expand (A : Option Addr) (c : Nat) (w : World) (hA : AlAt w w.heap.size A exL2) :
    Calls Tryz.prog 26 #[.string ⟨#[105, 102, 32, 108, 108, 32, 97, 59, 32, 101, 99, 104, 111, 32, 108, 108, 59, 32, 115, 117, 100, 111, 32, 108, 108]⟩, .slice A 2 c] w fun e w' => e = .returned (.tuple #[.string ⟨#[105, 102, 32, 108, 115, 32, 45, 108, 32, 97, 59, 32, 101, 99, 104, 111, 32, 108, 108, 59, 32, 115, 117, 100, 111, 32, 32, 108, 115, 32, 45, 108]⟩, .int .i64 0]) ∧ Below w.heap.size w w' := by
  obtain ⟨z, hz, hz2⟩ := Option.map_eq_some_iff.1 ex_run
  injection hz2 with hz3 hz4
  have h := Expand_c A c exL2 exS z 40 w hA (by decide) ex_valid hz (by rw [hz3]; decide)
  have hs : (⟨z.done.toArray⟩ : ByteArray) ++ z.rest = ⟨#[105, 102, 32, 108, 115, 32, 45, 108, 32, 97, 59, 32, 101, 99, 104, 111, 32, 108, 108, 59, 32, 115, 117, 100, 111, 32, 32, 108, 115, 32, 45, 108]⟩ := by
    rw [hz3]
    apply ByteArray.ext
    apply Array.toList_inj.1
    rw [show ((⟨exR.toArray⟩ : ByteArray) ++ z.rest).data = (⟨exR.toArray⟩ : ByteArray).data ++ z.rest.data from ByteArray.data_append .., Array.toList_append, hz4]
    rfl
  rw [hs] at h
  exact h
set_option maxHeartbeats 4000000 in
set_option maxRecDepth 100000 in
theorem awake_c (w : World) : Calls Tryz.prog 16 #[] w fun e w' => e = .returned (.bool true) ∧ Below w.heap.size w w' := by
  have HS1 : Hid (Calls Tryz.prog 19 #[.slice none 0 0, .string ⟨#[108, 108]⟩, .string ⟨#[108, 115, 32, 45, 108]⟩] w fun e w' => ∃ A c, e = .returned (.tuple #[.slice A 1 c, .int .i64 0]) ∧ AlAt w' w'.heap.size A exL1 ∧ (A = none → False) ∧ Below w.heap.size w w') := Lib.hid (by
    have h := Set_c none [] 0 (bA [108, 108]) (bA [108, 115, 32, 45, 108]) w (.inl rfl) (fun _ => ⟨rfl, rfl⟩) (by simp)
    rw [ex_set1] at h
    refine h.mono ?_
    rintro e w' ⟨A, c, rfl, h1, h2, h3⟩
    exact ⟨A, c, rfl, h1, (fun e => by have := (h2 e).1; cases this), h3⟩)
  have HS2 : Hid (∀ A c (W : World), AlAt W W.heap.size A exL1 → (A = none → False) → Calls Tryz.prog 19 #[.slice A 1 c, .string ⟨#[115, 117, 100, 111]⟩, .string ⟨#[115, 117, 100, 111, 32]⟩] W fun e w' => ∃ A c, e = .returned (.tuple #[.slice A 2 c, .int .i64 0]) ∧ AlAt w' w'.heap.size A exL2 ∧ (A = none → False) ∧ Below W.heap.size W w') := Lib.hid (fun A c W hA hn => by
    have h := Set_c A exL1 c (bA [115, 117, 100, 111]) (bA [115, 117, 100, 111, 32]) W hA (fun e => (hn e).elim) (by decide)
    rw [ex_set2] at h
    refine h.mono ?_
    rintro e w' ⟨A, c, rfl, h1, h2, h3⟩
    exact ⟨A, c, rfl, h1, (fun e => by have := (h2 e).1; cases this), h3⟩)
  have HX := Lib.hid ex_expand
  have HG : Hid (∀ A c (W : World), AlAt W W.heap.size A exL2 → Calls Tryz.prog 24 #[.slice A 2 c, .string ⟨#[108, 108]⟩] W fun e w' => e = .returned (.tuple #[.string ⟨#[108, 115, 32, 45, 108]⟩, .bool true]) ∧ Below W.heap.size W w') := Lib.hid (fun A c W hA => by
    have h := Get_c A exL2 c (bA [108, 108]) W hA (by decide)
    rw [ex_get] at h
    exact h)
  have HU : Hid (∀ A c (W : World), AlAt W W.heap.size A exL2 → (A = none → False) → Calls Tryz.prog 22 #[.slice A 2 c, .string ⟨#[108, 108]⟩] W fun e w' => ∃ A c, e = .returned (.tuple #[.slice A 1 c, .int .i64 0]) ∧ Below W.heap.size W w') := Lib.hid (fun A c W hA hn => by
    have h := Unset_c A exL2 c (bA [108, 108]) W hA (fun e => (hn e).elim) (by decide)
    refine h.mono ?_
    rintro e w' ⟨A, c, rfl, h1, h2, h3⟩
    exact ⟨A, c, by rw [ex_unset.1, ex_unset.2]; rfl, h3⟩)
  have HV : Hid (∀ A c (W : World), AlAt W W.heap.size A exL2 → Calls Tryz.prog 17 #[.slice A 2 c] W fun e w' => e = .returned (.int .i64 0) ∧ Below W.heap.size W w') := Lib.hid (fun A c W hA => by
    have h := Valid_c A exL2 c W hA (by decide)
    rw [ex_valid] at h
    exact h)
  have HB : Hid (∀ (W : World), Calls Tryz.prog 17 #[.slice (some ⟨W.heap.size, 0, none⟩) 1 1] (W.alloc (.cells #[.string ⟨#[105, 102]⟩, .string ⟨#[]⟩] 47)) fun e w' => e = .returned (.int .i64 10) ∧ Below (W.heap.size + 1) (W.alloc (.cells #[.string ⟨#[105, 102]⟩, .string ⟨#[]⟩] 47)) w') := Lib.hid (fun W => by
    have hn := heap_alloc_new W (.cells #[.string ⟨#[105, 102]⟩, .string ⟨#[]⟩] 47)
    have h := Valid_c (some ⟨W.heap.size, 0, none⟩) [⟨bA [105, 102], bA []⟩] 1 (W.alloc (.cells #[.string ⟨#[105, 102]⟩, .string ⟨#[]⟩] 47)) (.inr ⟨W.heap.size, 0, rfl, by rw [World.size_alloc]; omega, fun i hi => by
      have : i = 0 := by simpa using hi
      subst this
      exact ⟨by rw [Lib.cell_of_heap hn]; rfl, by rw [Lib.cell_of_heap hn]; rfl⟩⟩) (by simp)
    rw [ex_bad, World.size_alloc] at h
    exact h)
  go_enter Tryz.func16, Tryz.ntmps16
  go_wp2_with fail
  refine HS1.out.mono ?_
  rintro e w1 ⟨A1, c1, rfl, hA1, hn1, hb1⟩
  go_wp2_with fail
  refine (HS2.out A1 c1 w1 hA1 hn1).mono ?_
  rintro e w2 ⟨A2, c2, rfl, hA2, hn2, hb2⟩
  have hb20 := hb1.trans (hb2.mono hb1.size)
  clear hA1 hn1
  go_wp2_with fail
  refine (HX.out A2 c2 w2 hA2).mono ?_
  rintro e w3 ⟨rfl, hb3⟩
  have hb30 := hb20.trans (hb3.mono hb20.size)
  have hA3 : AlAt w3 w3.heap.size A2 exL2 := alAt_mono (alAt_below hA2 hb3 (Nat.le_refl _)) hb3.size
  clear hA2
  go_wp2_with fail
  refine (HG.out A2 c2 w3 hA3).mono ?_
  rintro e w4 ⟨rfl, hb4⟩
  have hb40 := hb30.trans (hb4.mono hb30.size)
  have hA4 : AlAt w4 w4.heap.size A2 exL2 := alAt_mono (alAt_below hA3 hb4 (Nat.le_refl _)) hb4.size
  clear hA3
  go_wp2_with fail
  refine (HU.out A2 c2 w4 hA4 hn2).mono ?_
  rintro e w5 ⟨A5, c5, rfl, hb5⟩
  have hb50 := hb40.trans (hb5.mono hb40.size)
  have hA5 : AlAt w5 w5.heap.size A2 exL2 := alAt_mono (alAt_below hA4 hb5 (Nat.le_refl _)) hb5.size
  clear hA4 hn2
  go_wp2_with fail
  refine (HV.out A2 c2 w5 hA5).mono ?_
  rintro e w6 ⟨rfl, hb6⟩
  have hb60 := hb50.trans (hb6.mono hb50.size)
  have hb61 := hb60.alloc hb60.size (.cells #[.string ⟨#[105, 102]⟩, .string ⟨#[]⟩] 47)
  go_wp2_with fail
  refine (HB.out w6).mono ?_
  rintro e w7 ⟨rfl, hb7⟩
  have hb70 := hb61.trans (hb7.mono (by have := hb60.size; omega))
  go_wp2_with fail
  go_ret
  exact ⟨rfl, hb70⟩
end Go.Proofs.YticehbhedoploaaGreatDoor
