/- pattern: Suffix. -/
import Derived.Test.YteppndkhmbhnkaaDoorPClone
namespace Go.Proofs.YteppndkhmbhnkaaDoor
open Go.RowKit
set_option linter.unusedVariables false

theorem rowV_blk {w w' : World} {g n : Nat} {X : Nat → IV} (h : RowV w g n X) (hh : w'.heap[g]? = w.heap[g]?) (hg : g < w'.heap.size) : RowV w' g n X := by
  have e1 : ∀ o, w'.cell? ⟨g, o, none⟩ = w.cell? ⟨g, o, none⟩ := fun o => by simp only [World.cell?, hh]
  have e2 : ∀ o, w'.frozen? ⟨g, o, none⟩ = w.frozen? ⟨g, o, none⟩ := fun o => by simp only [World.frozen?, hh]
  refine ⟨hg, fun m hm => ?_⟩
  have := h.2 m hm
  unfold IvAt at this ⊢
  simp only [e1, e2]
  exact this
theorem rowB_blk {w w' : World} {g n : Nat} {X : Nat → Int} (h : RowB w g n X) (hh : w'.heap[g]? = w.heap[g]?) (hg : g < w'.heap.size) : RowB w' g n X := by
  have e1 : ∀ o, w'.cell? ⟨g, o, none⟩ = w.cell? ⟨g, o, none⟩ := fun o => by simp only [World.cell?, hh]
  have e2 : ∀ o, w'.frozen? ⟨g, o, none⟩ = w.frozen? ⟨g, o, none⟩ := fun o => by simp only [World.frozen?, hh]
  refine ⟨hg, fun m hm => ?_⟩
  rw [e1, e2]
  exact h.2 m hm
theorem rowB_bytes (w : World) (s : List UInt8) : RowB (Lib.bytesWorld w 5 ⟨s.toArray⟩) w.heap.size s.length (fun m => ((s.getD m 0).toNat : Int)) := by
  refine ⟨by rw [Lib.bytesWorld_size]; omega, fun m hm => ?_⟩
  have hsz : (⟨s.toArray⟩ : ByteArray).size = s.length := by show s.toArray.size = _; simp
  have hc := Lib.bytesWorld_cell w 5 ⟨s.toArray⟩ m (by rw [hsz]; exact hm)
  refine ⟨hc, ?_⟩
  have hn := Lib.bytesWorld_at_new w 5 ⟨s.toArray⟩
  have hlt : m < (Lib.bytesCells w 5 ⟨s.toArray⟩).size := by
    have hc2 := hc
    rw [Lib.cell_of_heap hn] at hc2
    exact (Array.getElem?_eq_some_iff.1 hc2).1
  simp only [World.frozen?, hn]
  simp
  omega
theorem conv_rowB {w : World} {h cap : Nat} {s : List UInt8} (hr : RowB w h s.length (fun m => ((s.getD (s.length - 1 - m) 0).toNat : Int))) : (convert 82 9 (.slice (some ⟨h, 0, none⟩) s.length cap)).run Tryd.prog w = .ok (.string ⟨s.reverse.toArray⟩) w := by
  have := run_convert_bytes_back w 82 9 5 ⟨h, 0, none⟩ cap s.reverse Tryd.underlying82 Tryd.underlying5 Tryd.underlying9 (fun j hj => by
    rw [show (⟨h, 0, none⟩ : Addr).add j = ⟨h, j, none⟩ from by simp [Addr.add] <;> omega]
    have hj' : j < s.length := by simpa using hj
    rw [(hr.2 j hj').1]
    simp only [List.getElem_reverse]
    rw [List.getD_eq_getElem?_getD, List.getElem?_eq_getElem (by omega)]
    rfl)
  rw [List.length_reverse] at this
  exact this
def sufL (is : List It) (s : List UInt8) (lg : Bool) : Nat × Bool := preL is.reverse s.reverse lg
set_option maxHeartbeats 8000000 in
set_option maxRecDepth 100000 in
theorem suffix_c (b off c : Nat) (is : List It) (s : List UInt8) (lg : Bool) (w : World) (hne : is ≠ []) (hp : PatAt w w.heap.size (some ⟨b, off, none⟩) is) (ho : ∀ x ∈ is, ItOk x) (hl : is.length ≤ 1000000) (hsl : s.length ≤ 1000000) :
    Calls Tryd.prog 27 #[.slice (some ⟨b, off, none⟩) is.length c, .string ⟨s.toArray⟩, .bool lg] w fun e w' => e = .returned (.tuple #[.int .i64 ((sufL is s lg).1 : Nat), .bool (sufL is s lg).2]) ∧ Below w.heap.size w w' := by
  obtain ⟨hb, X, hX, hXi⟩ := patAt_X hne hp
  have hcl := Lib.hid (clone_c b off is.length c X w hX hb hl)
  have hcv : ∀ w, (convert 9 82 (.string ⟨s.toArray⟩)).run Tryd.prog w = .ok (.slice (some ⟨w.heap.size, 0, none⟩) s.length (grownCap w s.length 0 5)) (Lib.bytesWorld w 5 ⟨s.toArray⟩) := fun w => Lib.run_convert_string_bytes w _ _ _ _ Tryd.underlying9 Tryd.underlying82 Tryd.underlying5
  have HXi := Lib.hid hXi
  have Ho := Lib.hid ho
  clear hp hX hXi ho
  go_enter Tryd.func27, Tryd.ntmps27
  go_wp2_with fail
  refine hcl.out.mono ?_
  rintro e w1 ⟨g, c1, rfl, hg, hrow, hb1⟩
  clear hcl
  have Hrow := Lib.hid hrow
  clear hrow
  go_wp2_with fail
  have hg1 : g < w1.heap.size := Hrow.out.1
  have hr2 := rowV_blk Hrow.out (Lib.bytesWorld_at_old w1 5 ⟨s.toArray⟩ g hg1) (by rw [Lib.bytesWorld_size]; omega)
  have hB2 := rowB_bytes w1 s
  have hb2 := below_bytes hb1 hb1.size 5 ⟨s.toArray⟩
  clear hcv
  generalize grownCap w1 s.length 0 5 = c2 at *
  generalize Lib.bytesWorld w1 5 ⟨s.toArray⟩ = w2 at *
  refine (reverseI_c g is.length c1 X w2 hr2 hl).mono ?_
  rintro e w3 ⟨rfl, hr3, hG3⟩
  have hh2 := hB2.1
  have hB3 := rowB_blk hB2 (hG3.kept w1.heap.size (by omega) hB2.1) (by have := hG3.bel.size; omega)
  have hb3 := hb2.trans (hG3.bel.mono hg)
  have hB3' := Lib.hid hB3; have hr3' := Lib.hid hr3
  clear hr2 hB2 hB3 hr3 hG3
  go_wp2_with fail
  refine (reverseB_c w1.heap.size s.length c2 _ w3 hB3'.out hsl).mono ?_
  rintro e w4 ⟨rfl, hB4, hG4⟩
  have hg3 := hr3'.out.1
  have hr4 := rowV_blk hr3'.out (hG4.kept g (by omega) hg3) (by have := hG4.bel.size; omega)
  have hb4 := hb3.trans (hG4.bel.mono hb1.size)
  have hcv4 : ∀ cap, (convert 82 9 (.slice (some ⟨w1.heap.size, 0, none⟩) s.length cap)).run Tryd.prog w4 = .ok (.string ⟨s.reverse.toArray⟩) w4 := fun cap => conv_rowB hB4
  have hpat : PatAt w4 w4.heap.size (some ⟨g, 0, none⟩) is.reverse := .inr ⟨g, 0, rfl, hr4.1, fun m hm => by
    have hm' : m < is.length := by simpa using hm
    obtain ⟨⟨q0, q1, q2, q3⟩, _⟩ := hr4.2 m hm'
    obtain ⟨p0, p1, p2, p3⟩ := HXi.out (is.length - 1 - m) (by omega)
    simp only [List.getElem_reverse, Nat.zero_add]
    rw [p0] at q0; rw [p1] at q1; rw [p2] at q2
    exact ⟨_, q0, q1, q2, q3, spAt_mono (spAt_below p3 hb4 (Nat.le_refl _)) hb4.size⟩⟩
  have hpre := prefix_c (some ⟨g, 0, none⟩) is.reverse c1 s.reverse lg w4 hpat (fun x hx => Ho.out x (List.mem_reverse.1 hx)) (by simpa using hl) (by simpa using hsl)
  rw [List.length_reverse] at hpre
  have Hpre := Lib.hid hpre
  clear hpre hpat hr4 hG4 hB4 hr3' hB3' HXi Ho
  go_wp2_with fail
  refine Hpre.out.mono ?_
  rintro e w5 ⟨rfl, m5⟩
  have hfin := hb4.trans (m5.mono hb4.size)
  clear Hpre
  go_wp2_with fail
  exact bodyPost_ret (results_tmp2 rfl _ _ _) rfl ⟨rfl, hfin⟩
end Go.Proofs.YteppndkhmbhnkaaDoor
