/- pattern: the reference's Valid. -/
import Derived.Test.YteppndkhmbhnkaaDoorPRin
namespace Go.Proofs.YteppndkhmbhnkaaDoor
open Go.RowKit
set_option linter.unusedVariables false

set_option maxHeartbeats 16000000 in
set_option maxRecDepth 100000 in
theorem refValid_c (A : Option Addr) (is : List It) (c : Nat) (w : World) (hp : PatAt w w.heap.size A is) (ho : ∀ x ∈ is, ItOk x) (hl : is.length ≤ 1000000) :
    Calls Tryd.prog 22 #[.slice A is.length c] w fun e w' => e = .returned (.bool (!(is.any inv))) ∧ Below w.heap.size w w' := by
  have HR : Hid ((!(is.any inv)) = !((is.drop 0).any inv)) := Lib.hid rfl
  generalize (!(is.any inv)) = R at *
  have HP := Lib.hid hp
  have Ho := Lib.hid ho
  clear hp ho
  go_enter Tryd.func22, Tryd.ntmps22
  go_wp2_with fail
  go_loopw [3] (fun iv wr => ∃ k : Nat, iv = .int .i64 k ∧ k ≤ is.length ∧ Below w.heap.size w wr ∧ Hid (R = !((is.drop k).any inv))) (fun iv _ => is.length - (intOf iv).toNat)
  case atStart => exact ⟨0, rfl, by omega, Below.refl _ _, HR⟩
  case round =>
    obtain ⟨k, rfl, hk, hb, hx⟩ := hrel
    clear HR
    have hwsz := hb.size
    by_cases hlt : k < is.length
    · have d1 : decide ((k : Int) < (is.length : Int)) = true := decide_eq_true (by omega)
      have d1' : decide (k < is.length) = true := decide_eq_true hlt
      obtain ⟨b, off, rfl, hbl, hcell⟩ : ∃ b off, A = some ⟨b, off, none⟩ ∧ b < w.heap.size ∧ ∀ k (h : k < is.length), ∃ sv, w.cell? ⟨b, off + k * 4, none⟩ = some (.int .i64 (is[k]'h).k) ∧ w.cell? ⟨b, off + k * 4 + 1, none⟩ = some (.string ⟨(is[k]'h).t.toArray⟩) ∧ w.cell? ⟨b, off + k * 4 + 2, none⟩ = some (.bool (is[k]'h).neg) ∧ w.cell? ⟨b, off + k * 4 + 3, none⟩ = some sv ∧ SpAt w w.heap.size sv (is[k]'h).set := by
        rcases HP.out with rfl | h
        · simp at hlt
        · exact h
      obtain ⟨sv, y0, y1, y2, y3, ys⟩ := hcell k hlt
      obtain ⟨A9, c9, e9⟩ : ∃ A9 c9, sv = .slice A9 (is[k]'hlt).set.length c9 := by obtain ⟨A9, c9, e9, _⟩ := ys; exact ⟨A9, c9, e9⟩
      subst e9
      have x0 := (hb.cell (p := ⟨b, off + k * 4, none⟩) hbl).trans y0
      have x1 := (hb.cell (p := ⟨b, off + k * 4 + 1, none⟩) hbl).trans y1
      have x2 := (hb.cell (p := ⟨b, off + k * 4 + 2, none⟩) hbl).trans y2
      have x3 := (hb.cell (p := ⟨b, off + k * 4 + 3, none⟩) hbl).trans y3
      have hok := Ho.out (is[k]'hlt) (List.getElem_mem hlt)
      have hx2 := hx.out
      rw [List.drop_eq_getElem_cons hlt, List.any_cons] at hx2
      have Hasc : Hid (∀ W, Below w.heap.size w W → Calls Tryd.prog 58 #[.slice A9 (is[k]'hlt).set.length c9] W fun e w' => e = .returned (.bool (minL 0 (is[k]'hlt).set)) ∧ Below w.heap.size w w') := by
        refine Lib.hid ?_
        intro W hW
        refine (ascending_c _ _ W (spAt_mono (spAt_below ys hW (Nat.le_refl _)) hW.size) hok.1).mono ?_
        rintro e w' ⟨rfl, hb⟩
        exact ⟨rfl, hW.trans (hb.mono hW.size)⟩
      have hlt9 := hok.2
      have hls9 := hok.1.1
      generalize is[k]'hlt = q at *
      obtain ⟨xk, xt, xn, xs⟩ := q
      simp only at hx2 x0 x1 x2 x3 Hasc hlt9 hls9
      have Hx2 := Lib.hid hx2
      have hkI : (k : Int) < (is.length : Int) := by omega
      have Hba := Lib.hid (hb.alloc hwsz (.cells #[.int .i64 xk, .string ⟨xt.toArray⟩, .bool xn, .slice A9 xs.length c9] 43))
      have stop : inv ⟨xk, xt, xn, xs⟩ = true → R = false := fun h => by rw [Hx2.out, h]; simp
      have goon : inv ⟨xk, xt, xn, xs⟩ = false → Hid (R = !((is.drop (k + 1)).any inv)) := fun h => Lib.hid (by rw [Hx2.out, h]; rfl)
      have hsz : (⟨xt.toArray⟩ : ByteArray).size = xt.length := rfl
      clear hx hx2 Hx2 hcell y0 y1 y2 y3 ys hok HP Ho
      by_cases h1 : xk = 1
      · subst h1
        by_cases hlen : xt.length = 1
        · have p1 : ((xt.length : Int) == 1) = true := by rw [beq_iff_eq]; omega
          have p2 : ((xt.length : Int) != 1) = false := by rw [bne_eq_false_iff_eq]; omega
          have p3 : (xt.length == 1) = true := by rw [beq_iff_eq]; omega
          have p4 : (xt.length != 1) = false := by rw [bne_eq_false_iff_eq]; omega
          rcases xn with _ | _
          · by_cases hs : 0 < xs.length
            · have q1 : decide ((0 : Int) < (xs.length : Int)) = true := decide_eq_true (by omega)
              have q2 : decide (0 < xs.length) = true := decide_eq_true hs
              have hR : R = false := stop (by simp [inv, hlen, hs])
              subst hR
              clear stop goon Hasc
              go_wp2_with fail
              go_ret
              exact ⟨rfl, Hba.out⟩
            · have q1 : decide ((0 : Int) < (xs.length : Int)) = false := decide_eq_false (by omega)
              have q2 : decide (0 < xs.length) = false := decide_eq_false hs
              have hnil : xs = [] := List.length_eq_zero_iff.1 (by omega)
              have Hasc2 : minL 0 xs = true := by rw [hnil]; rfl
              rw [Hasc2] at Hasc
              clear hnil Hasc2
              have hR := goon (by simp [inv, hlen, q2])
              clear stop goon
              go_wp2_with fail
              refine (Hasc.out _ Hba.out).mono ?_
              rintro e w7 ⟨rfl, m7⟩
              clear Hasc
              go_wp2_with fail
              go_roundw
              case rel => exact ⟨k + 1, by go_num, by omega, m7, hR⟩
              case measure => simp [intOf]; omega
          ·
            have hR : R = false := stop (by simp [inv])
            subst hR
            clear stop goon Hasc
            go_wp2_with fail
            go_ret
            exact ⟨rfl, Hba.out⟩
        · have p1 : ((xt.length : Int) == 1) = false := by rw [beq_eq_false_iff_ne]; omega
          have p2 : ((xt.length : Int) != 1) = true := by rw [bne_iff_ne]; omega
          have p3 : (xt.length == 1) = false := by rw [beq_eq_false_iff_ne]; exact hlen
          have p4 : (xt.length != 1) = true := by rw [bne_iff_ne]; exact hlen
          have hR : R = false := stop (by simp [inv, hlen])
          subst hR
          clear stop goon Hasc
          go_wp2_with fail
          go_ret
          exact ⟨rfl, Hba.out⟩
      by_cases h2 : xk = 2
      · subst h2
        by_cases hlen : xt.length = 0
        · have p1 : ((xt.length : Int) == 0) = true := by rw [beq_iff_eq]; omega
          have p2 : ((xt.length : Int) != 0) = false := by rw [bne_eq_false_iff_eq]; omega
          have p3 : (xt.length == 0) = true := by rw [beq_iff_eq]; omega
          have p4 : (xt.length != 0) = false := by rw [bne_eq_false_iff_eq]; omega
          rcases xn with _ | _
          · by_cases hs : 0 < xs.length
            · have q1 : decide ((0 : Int) < (xs.length : Int)) = true := decide_eq_true (by omega)
              have q2 : decide (0 < xs.length) = true := decide_eq_true hs
              have hR : R = false := stop (by simp [inv, hlen, hs])
              subst hR
              clear stop goon Hasc
              go_wp2_with fail
              go_ret
              exact ⟨rfl, Hba.out⟩
            · have q1 : decide ((0 : Int) < (xs.length : Int)) = false := decide_eq_false (by omega)
              have q2 : decide (0 < xs.length) = false := decide_eq_false hs
              have hnil : xs = [] := List.length_eq_zero_iff.1 (by omega)
              have Hasc2 : minL 0 xs = true := by rw [hnil]; rfl
              rw [Hasc2] at Hasc
              clear hnil Hasc2
              have hR := goon (by simp [inv, hlen, q2])
              clear stop goon
              go_wp2_with fail
              refine (Hasc.out _ Hba.out).mono ?_
              rintro e w7 ⟨rfl, m7⟩
              clear Hasc
              go_wp2_with fail
              go_roundw
              case rel => exact ⟨k + 1, by go_num, by omega, m7, hR⟩
              case measure => simp [intOf]; omega
          ·
            have hR : R = false := stop (by simp [inv])
            subst hR
            clear stop goon Hasc
            go_wp2_with fail
            go_ret
            exact ⟨rfl, Hba.out⟩
        · have p1 : ((xt.length : Int) == 0) = false := by rw [beq_eq_false_iff_ne]; omega
          have p2 : ((xt.length : Int) != 0) = true := by rw [bne_iff_ne]; omega
          have p3 : (xt.length == 0) = false := by rw [beq_eq_false_iff_ne]; exact hlen
          have p4 : (xt.length != 0) = true := by rw [bne_iff_ne]; exact hlen
          have hR : R = false := stop (by simp only [inv]; simp; exact .inl (.inl (fun h => hlen (by rw [h]; rfl))))
          subst hR
          clear stop goon Hasc
          go_wp2_with fail
          go_ret
          exact ⟨rfl, Hba.out⟩
      by_cases h3 : xk = 3
      · subst h3
        by_cases hlen : xt.length = 0
        · have p1 : ((xt.length : Int) == 0) = true := by rw [beq_iff_eq]; omega
          have p2 : ((xt.length : Int) != 0) = false := by rw [bne_eq_false_iff_eq]; omega
          have p3 : (xt.length == 0) = true := by rw [beq_iff_eq]; omega
          have p4 : (xt.length != 0) = false := by rw [bne_eq_false_iff_eq]; omega
          rcases xn with _ | _
          · by_cases hs : 0 < xs.length
            · have q1 : decide ((0 : Int) < (xs.length : Int)) = true := decide_eq_true (by omega)
              have q2 : decide (0 < xs.length) = true := decide_eq_true hs
              have hR : R = false := stop (by simp [inv, hlen, hs])
              subst hR
              clear stop goon Hasc
              go_wp2_with fail
              go_ret
              exact ⟨rfl, Hba.out⟩
            · have q1 : decide ((0 : Int) < (xs.length : Int)) = false := decide_eq_false (by omega)
              have q2 : decide (0 < xs.length) = false := decide_eq_false hs
              have hnil : xs = [] := List.length_eq_zero_iff.1 (by omega)
              have Hasc2 : minL 0 xs = true := by rw [hnil]; rfl
              rw [Hasc2] at Hasc
              clear hnil Hasc2
              have hR := goon (by simp [inv, hlen, q2])
              clear stop goon
              go_wp2_with fail
              refine (Hasc.out _ Hba.out).mono ?_
              rintro e w7 ⟨rfl, m7⟩
              clear Hasc
              go_wp2_with fail
              go_roundw
              case rel => exact ⟨k + 1, by go_num, by omega, m7, hR⟩
              case measure => simp [intOf]; omega
          ·
            have hR : R = false := stop (by simp [inv])
            subst hR
            clear stop goon Hasc
            go_wp2_with fail
            go_ret
            exact ⟨rfl, Hba.out⟩
        · have p1 : ((xt.length : Int) == 0) = false := by rw [beq_eq_false_iff_ne]; omega
          have p2 : ((xt.length : Int) != 0) = true := by rw [bne_iff_ne]; omega
          have p3 : (xt.length == 0) = false := by rw [beq_eq_false_iff_ne]; exact hlen
          have p4 : (xt.length != 0) = true := by rw [bne_iff_ne]; exact hlen
          have hR : R = false := stop (by simp only [inv]; simp; exact .inl (.inl (fun h => hlen (by rw [h]; rfl))))
          subst hR
          clear stop goon Hasc
          go_wp2_with fail
          go_ret
          exact ⟨rfl, Hba.out⟩
      by_cases h4 : xk = 4
      · subst h4
        by_cases hlen : xt.length = 0
        · have p1 : ((xt.length : Int) == 0) = true := by rw [beq_iff_eq]; omega
          have p2 : ((xt.length : Int) != 0) = false := by rw [bne_eq_false_iff_eq]; omega
          have p3 : (xt.length == 0) = true := by rw [beq_iff_eq]; omega
          have p4 : (xt.length != 0) = false := by rw [bne_eq_false_iff_eq]; omega
          rcases hm : minL 0 xs with _ | _
          · rw [hm] at Hasc
            have hR : R = false := stop (by simp [inv, hm])
            subst hR
            clear stop goon
            go_wp2_with fail
            refine (Hasc.out _ Hba.out).mono ?_
            rintro e w7 ⟨rfl, m7⟩
            clear Hasc
            go_wp2_with fail
            go_ret
            exact ⟨rfl, m7⟩
          · rw [hm] at Hasc
            have hR := goon (by unfold inv; simp [hm]; exact List.length_eq_zero_iff.1 hlen)
            clear stop goon
            go_wp2_with fail
            refine (Hasc.out _ Hba.out).mono ?_
            rintro e w7 ⟨rfl, m7⟩
            clear Hasc
            go_wp2_with fail
            go_roundw
            case rel => exact ⟨k + 1, by go_num, by omega, m7, hR⟩
            case measure => simp [intOf]; omega
        · have p1 : ((xt.length : Int) == 0) = false := by rw [beq_eq_false_iff_ne]; omega
          have p2 : ((xt.length : Int) != 0) = true := by rw [bne_iff_ne]; omega
          have p3 : (xt.length == 0) = false := by rw [beq_eq_false_iff_ne]; exact hlen
          have p4 : (xt.length != 0) = true := by rw [bne_iff_ne]; exact hlen
          have hR : R = false := stop (by unfold inv; simp; exact .inl (fun h => hlen (by rw [h]; rfl)))
          subst hR
          clear stop goon Hasc
          go_wp2_with fail
          go_ret
          exact ⟨rfl, Hba.out⟩
      · have e1 : (xk == 1) = false := by rw [beq_eq_false_iff_ne]; exact h1
        by_cases hlo : xk < 1
        · have e2 : decide (xk < 1) = true := decide_eq_true hlo
          have hR : R = false := stop (by simp [inv, h1, h2, h3, h4])
          subst hR
          clear stop goon Hasc
          go_wp2_with fail
          go_ret
          exact ⟨rfl, Hba.out⟩
        · have e2 : decide (xk < 1) = false := decide_eq_false hlo
          have e3 : decide ((4 : Int) < xk) = true := decide_eq_true (by omega)
          have hR : R = false := stop (by simp [inv, h1, h2, h3, h4])
          subst hR
          clear stop goon Hasc
          go_wp2_with fail
          go_ret
          exact ⟨rfl, Hba.out⟩
    · have hke : k = is.length := by omega
      have d1 : decide ((k : Int) < (is.length : Int)) = false := decide_eq_false (by omega)
      have d1' : decide (k < is.length) = false := decide_eq_false hlt
      have hR : R = true := by rw [hx.out, hke, List.drop_length]; rfl
      subst hR
      clear hx hke
      go_wp2_with fail
      go_ret
      exact ⟨rfl, hb⟩
end Go.Proofs.YteppndkhmbhnkaaDoor
