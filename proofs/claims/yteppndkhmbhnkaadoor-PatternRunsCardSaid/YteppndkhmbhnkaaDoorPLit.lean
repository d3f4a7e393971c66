/- pattern: Literal. -/
import Derived.Test.YteppndkhmbhnkaaDoorPMt
import Derived.Test.YteppndkhmbhnkaaDoorBld
import Derived.Test.YteppndkhmbhnkaaDoorShelf
import Derived.WalkSmall
namespace Go.Proofs.YteppndkhmbhnkaaDoor
open Go.RowKit
set_option linter.unusedVariables false

def textL (is : List It) : List UInt8 := is.flatMap (·.t)
def litL (is : List It) : List UInt8 × Bool := if is.any inv = true then ([], false) else if is.any spec = true then ([], false) else (textL is, true)
theorem textL_snoc {is : List It} {k : Nat} (h : k < is.length) : textL (is.take (k + 1)) = textL (is.take k) ++ (is[k]'h).t := by
  unfold textL
  rw [List.take_add_one, List.getElem?_eq_getElem h, List.flatMap_append]
  simp
set_option maxHeartbeats 8000000 in
set_option maxRecDepth 100000 in
theorem literal_c (A : Option Addr) (is : List It) (c : Nat) (w : World) (hp : PatAt w w.heap.size A is) (ho : ∀ x ∈ is, ItOk x) (hl : is.length ≤ 1000000) :
    Calls Tryd.prog 29 #[.slice A is.length c] w fun e w' => e = .returned (.tuple #[.string ⟨(litL is).1.toArray⟩, .bool (litL is).2]) ∧ Below w.heap.size w w' := by
  have hval := Lib.hid (valid_c A is c w hp ho hl)
  have HP := Lib.hid hp
  rcases hany : is.any inv with _ | _
  rotate_left
  · have hR : litL is = ([], false) := by unfold litL; rw [if_pos hany]
    rw [hR]; rw [hany] at hval
    clear hp ho hany hR HP
    go_enter Tryd.func29, Tryd.ntmps29
    go_wp2_with fail
    refine hval.out.mono ?_
    rintro e w7 ⟨rfl, m7⟩
    go_wp2_with fail
    exact bodyPost_ret (results_tmp2 rfl _ _ _) rfl ⟨rfl, m7⟩
  have hsp : Hid (∀ W, Below w.heap.size w W → Calls Tryd.prog 64 #[.slice A is.length c, .func (Fn.func 65) #[] #[]] W fun e w' => e = .returned (.bool (is.any spec)) ∧ Below w.heap.size w w') := Lib.hid (by
    intro W hW
    refine (containsFunc_s A is c W (patAt_mono (patAt_below hp hW (Nat.le_refl _)) hW.size) ho hl (fun x sv W h1 h2 => isSpecial_c x sv W h1 h2)).mono ?_
    rintro e w' ⟨rfl, hb⟩
    exact ⟨rfl, hW.trans (hb.mono hW.size)⟩)
  rw [hany] at hval
  rcases hspc : is.any spec with _ | _
  rotate_left
  · have hR : litL is = ([], false) := by unfold litL; rw [if_neg (by rw [hany]; decide), if_pos hspc]
    rw [hR]; rw [hspc] at hsp
    clear hp ho hany hR HP hspc
    go_enter Tryd.func29, Tryd.ntmps29
    go_wp2_with fail
    refine hval.out.mono ?_
    rintro e w7 ⟨rfl, m7⟩
    go_wp2_with fail
    refine (hsp.out _ m7).mono ?_
    rintro e w8 ⟨rfl, m8⟩
    go_wp2_with fail
    exact bodyPost_ret (results_tmp2 rfl _ _ _) rfl ⟨rfl, m8⟩
  have hR : litL is = (textL is, true) := by unfold litL; rw [if_neg (by rw [hany]; decide), if_neg (by rw [hspc]; decide)]
  have Hone : Hid (∀ x ∈ is, x.t.length = 1) := Lib.hid (fun x hx => by
    have h1 : inv x = false := by
      rcases h : inv x with _ | _
      · rfl
      · exact absurd (List.any_eq_true.2 ⟨x, hx, h⟩) (by rw [hany]; decide)
    have h2 : spec x = false := by
      rcases h : spec x with _ | _
      · rfl
      · exact absurd (List.any_eq_true.2 ⟨x, hx, h⟩) (by rw [hspc]; decide)
    refine inv_byte h1 ?_
    unfold spec at h2
    simp at h2
    exact h2)
  rw [hR]; rw [hspc] at hsp
  clear hp ho hany hR hspc
  go_enter Tryd.func29, Tryd.ntmps29
  go_wp2_with fail
  refine hval.out.mono ?_
  rintro e w7 ⟨rfl, m7⟩
  go_wp2_with fail
  refine (hsp.out _ m7).mono ?_
  rintro e w1 ⟨rfl, hb1⟩
  clear hsp hval m7
  go_wp2_with fail
  have hsz1 := hb1.size
  go_loopw [16] (fun i wr => ∃ (k : Nat), k ≤ is.length ∧ i = .int .i64 k ∧ (textL (is.take k)).length = k ∧
        Lib.IsBuilderF 95 5 w1.heap.size w1.heap.size (Lib.byteCells (textL (is.take k))) wr ∧ w1.heap.size < wr.heap.size ∧ Below w1.heap.size w1 wr) (fun i _ => is.length - (intOf i).toNat)
  case atStart =>
    exact ⟨0, by omega, rfl, by simp [textL], Lib.IsBuilderF.of (Lib.fresh_isBuilder _ _ w1), by simp, (Below.refl _ _).alloc (Nat.le_refl _) _⟩
  case round =>
    obtain ⟨k, hk, rfl, hlen, hI, hlt1, hb⟩ := hrel
    by_cases hlt : k < is.length
    · have d1 : decide ((k : Int) < (is.length : Int)) = true := decide_eq_true (by omega)
      have d1' : decide (k < is.length) = true := decide_eq_true hlt
      obtain ⟨b, off, rfl, hbl, hcell⟩ : ∃ b off, A = some ⟨b, off, none⟩ ∧ b < w.heap.size ∧ ∀ k (h : k < is.length), ∃ sv, w.cell? ⟨b, off + k * 4, none⟩ = some (.int .i64 (is[k]'h).k) ∧ w.cell? ⟨b, off + k * 4 + 1, none⟩ = some (.string ⟨(is[k]'h).t.toArray⟩) ∧ w.cell? ⟨b, off + k * 4 + 2, none⟩ = some (.bool (is[k]'h).neg) ∧ w.cell? ⟨b, off + k * 4 + 3, none⟩ = some sv ∧ SpAt w w.heap.size sv (is[k]'h).set := by
        rcases HP.out with rfl | h
        · simp at hlt
        · exact h
      obtain ⟨sv, y0, y1, y2, y3, ys⟩ := hcell k hlt
      obtain ⟨n9, A9, c9, rfl⟩ : ∃ n9 A9 c9, sv = .slice A9 n9 c9 := by obtain ⟨A9, c9, e9, _⟩ := ys; exact ⟨_, A9, c9, e9⟩
      have hbw := hb1.trans (hb.mono hsz1)
      have x0 := (hbw.cell (p := ⟨b, off + k * 4, none⟩) hbl).trans y0
      have x1 := (hbw.cell (p := ⟨b, off + k * 4 + 1, none⟩) hbl).trans y1
      have x2 := (hbw.cell (p := ⟨b, off + k * 4 + 2, none⟩) hbl).trans y2
      have x3 := (hbw.cell (p := ⟨b, off + k * 4 + 3, none⟩) hbl).trans y3
      have hone := Hone.out (is[k]'hlt) (List.getElem_mem hlt)
      have hsn := textL_snoc hlt
      have Hsn := Lib.hid hsn
      generalize hT2 : textL (is.take (k + 1)) = T2 at *
      have HT2 := Lib.hid hT2
      clear hT2
      generalize is[k]'hlt = q at *
      obtain ⟨qk, qt, qn, qs⟩ := q
      simp only at x0 x1 x2 x3 hone
      have hqs : (⟨qt.toArray⟩ : ByteArray).size = 1 := by show qt.toArray.size = 1; simp; exact hone
      have Hqs := Lib.hid hqs
      have hkI : (k : Int) < (is.length : Int) := by omega
      generalize hac : textL (is.take k) = acc at *
      have Hlen := Lib.hid hlen
      clear hcell y0 y1 y2 y3 ys hsn hone hac hlen hqs
      go_wp2_with fail
      refine (writeString w1.heap.size w1.heap.size (Lib.byteCells acc) ⟨qt.toArray⟩ _ (by first | exact hI | exact hI.alloc _) (by rw [Lib.byteCells_length, Hlen.out, Hqs.out]; omega) (by first | omega | (simp; omega))).mono ?_
      rintro e w2 ⟨rfl, m1, m2, m3⟩
      have hsz2 := m2.size
      try simp at hsz2
      have HI : Hid (Lib.IsBuilderF 95 5 w1.heap.size w1.heap.size (Lib.byteCells T2) w2) := Lib.hid (by
        rw [Hsn.out, Lib.byteCells_append]
        rw [Lib.strCells_eq] at m1
        exact Or.inr m1)
      have hbn : Below w1.heap.size w1 w2 := by first | exact hb.trans m2 | exact (hb.alloc (by omega) _).trans m2
      have HL : Hid (T2.length = k + 1) := Lib.hid (by rw [Hsn.out, List.length_append, Hlen.out]; have := Hqs.out; have e : (⟨qt.toArray⟩ : ByteArray).size = qt.length := (by show qt.toArray.size = _; simp); omega)
      clear m1 m2 m3 hI Hsn Hlen
      go_wp2_with fail
      go_roundw
      case rel => exact ⟨k + 1, by omega, by go_num, by rw [HT2.out]; exact HL.out, by rw [HT2.out]; exact HI.out, by omega, hbn⟩
      case measure => simp [intOf]; omega
    · have hkk : k = is.length := by omega
      have d1 : decide ((k : Int) < (is.length : Int)) = false := decide_eq_false (by omega)
      have d1' : decide (k < is.length) = false := decide_eq_false hlt
      rw [hkk, List.take_length] at hI hlen
      have HI := Lib.hid hI
      clear hI hlen hkk
      go_wp2_with fail
      refine (Tryd.Builder_String_any_k w1.heap.size w1.heap.size _ _ HI.out (by omega)).mono ?_
      rintro e w3 ⟨rfl, _, p2, _⟩
      have hfin := hb1.trans ((hb.trans p2).mono hsz1)
      go_wp2_with fail
      exact bodyPost_ret (results_tmp2 rfl _ _ _) rfl ⟨rfl, hfin⟩
end Go.Proofs.YteppndkhmbhnkaaDoor
