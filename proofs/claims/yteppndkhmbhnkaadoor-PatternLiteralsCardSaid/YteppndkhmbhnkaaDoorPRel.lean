/- pattern: the reference's elements, is, says. -/
import Derived.Test.YteppndkhmbhnkaaDoorPRin
import Derived.Test.YteppndkhmbhnkaaDoorPAwk
import Derived.Deep.AppendLies
import Derived.Deep.RegionHeld3
namespace Go.Proofs.YteppndkhmbhnkaaDoor
open Go.RowKit
set_option linter.unusedVariables false

/-- A slice of fresh elements. -/
def OwnEl (w : World) (B : Nat) (v : Value) (cs : List Ch) : Prop := w.ownsRow B 81 2 v cs.length (chCells cs)
theorem ownEl_at {w : World} {B : Nat} {v : Value} {cs : List Ch} (h : OwnEl w B v cs) : ∃ A c, v = .slice A cs.length c ∧ ChAt w w.heap.size A cs ∧ cs.length ≤ c ∧ c ≤ maxLen := by
  have h' := h
  rcases h.2 with ⟨rfl, h0⟩ | ⟨g, cap, cur, rfl, hg, hh, h2, h3, h4, h5⟩
  · exact ⟨none, 0, by rw [h0], .inl (List.length_eq_zero_iff.1 h0), by omega, by unfold maxLen; omega⟩
  · refine ⟨_, cap, rfl, .inr ⟨g, 0, rfl, lt_of_block hh, fun k hk => ?_⟩, h2, h3⟩
    rw [Nat.zero_add]
    have e1 := World.ownsRow.cellAt h' (k * 2) (by omega)
    have e2 := World.ownsRow.cellAt h' (k * 2 + 1) (by omega)
    rw [e1, e2]
    exact chCells_get cs k hk
theorem elInfo : (Tryd.prog.info? 81).map (fun i => (i.zero, i.size, i.bytes)) = some (some (.agg #[.int .u8 0, .bool false]), 2, 2) := by kernel_rfl

set_option maxHeartbeats 4000000 in
set_option maxRecDepth 100000 in
theorem isR_c (A : Option Addr) (cs : List Ch) (c at_ : Nat) (b : UInt8) (w : World) (hA : ChAt w w.heap.size A cs) (hc : cs.length ≤ 1000000) (hat : at_ ≤ 2000000) :
    Calls Tryd.prog 54 #[.slice A cs.length c, .int .i64 at_, .int .u8 b.toNat] w fun e w' => e = .returned (.bool (isAt cs at_ b)) ∧ w = w' := by
  by_cases hlt : at_ < cs.length
  · have d1 : decide ((at_ : Int) < (cs.length : Int)) = true := decide_eq_true (by omega)
    have d1' : decide (at_ < cs.length) = true := decide_eq_true hlt
    obtain ⟨bl, off, rfl, hbl, hcell⟩ : ∃ b off, A = some ⟨b, off, none⟩ ∧ b < w.heap.size ∧ ∀ k (h : k < cs.length), w.cell? ⟨b, off + k * 2, none⟩ = some (.int .u8 (cs[k]'h).b.toNat) ∧ w.cell? ⟨b, off + k * 2 + 1, none⟩ = some (.bool (cs[k]'h).act) := by
      rcases hA with rfl | h
      · simp at hlt
      · exact h
    obtain ⟨x0, x1⟩ := hcell at_ hlt
    rw [isAt_get hlt]
    have hiI : (at_ : Int) < (cs.length : Int) := by omega
    generalize cs[at_]'hlt = q at *
    obtain ⟨qb, qa⟩ := q
    simp only at x0 x1
    have hbx : ((qb.toNat : Int) == (b.toNat : Int)) = (qb == b) := by
      rw [Bool.eq_iff_iff, beq_iff_eq, beq_iff_eq]
      exact ⟨fun h => u8_ext (by omega), fun h => by rw [h]⟩
    have hbx' : (qb.toNat == b.toNat) = (qb == b) := by
      rw [Bool.eq_iff_iff, beq_iff_eq, beq_iff_eq]
      exact ⟨fun h => u8_ext h, fun h => by rw [h]⟩
    unfold chIs
    clear hcell hA
    rcases qa with _ | _
    · simp only [Bool.false_and]
      go_enter Tryd.func54, Tryd.ntmps54
      go_wp2_with fail
      go_ret
      first | exact ⟨rfl, rfl⟩ | exact rfl | trivial
    · simp only [Bool.true_and]
      generalize (qb == b) = r at *
      go_enter Tryd.func54, Tryd.ntmps54
      go_wp2_with fail
      go_ret
      first | exact ⟨rfl, rfl⟩ | exact rfl | trivial
  · have d1 : decide ((at_ : Int) < (cs.length : Int)) = false := decide_eq_false (by omega)
    have d1' : decide (at_ < cs.length) = false := decide_eq_false hlt
    have e : isAt cs at_ b = false := by unfold isAt; rw [List.getElem?_eq_none (by omega)]
    rw [e]
    go_enter Tryd.func54, Tryd.ntmps54
    go_wp2_with fail
    go_ret
    first | exact ⟨rfl, rfl⟩ | exact rfl | trivial

theorem begs_step {cs : List Ch} {p k : Nat} {s : List UInt8} (h : k < s.length) : begs (cs.drop (p + k)) (s.drop k) = (isAt cs (p + k) (s[k]'h) && begs (cs.drop (p + (k + 1))) (s.drop (k + 1))) := by
  rw [List.drop_eq_getElem_cons h]
  unfold isAt
  by_cases hp : p + k < cs.length
  · rw [List.drop_eq_getElem_cons hp, begs, List.getElem?_eq_getElem hp]
    rfl
  · rw [List.drop_of_length_le (show cs.length ≤ p + k by omega), begs, List.getElem?_eq_none (by omega)]
    rfl
set_option maxHeartbeats 4000000 in
set_option maxRecDepth 100000 in
theorem says_c (A : Option Addr) (cs : List Ch) (c at_ : Nat) (s : List UInt8) (w : World) (hA : ChAt w w.heap.size A cs) (hc : cs.length ≤ 1000000) (hat : at_ ≤ 1000000) (hs : s.length ≤ 1000) :
    Calls Tryd.prog 116 #[.slice A cs.length c, .int .i64 at_, .string ⟨s.toArray⟩] w fun e w' => e = .returned (.bool (begs (cs.drop at_) s)) ∧ w = w' := by
  have hsz : (⟨s.toArray⟩ : ByteArray).size = s.length := by show s.toArray.size = _; simp
  have HR : Hid (begs (cs.drop at_) s = begs (cs.drop (at_ + 0)) (s.drop 0)) := Lib.hid rfl
  generalize begs (cs.drop at_) s = R at *
  go_enter Tryd.func116, Tryd.ntmps116
  go_wp2_with fail
  go_loop [7] (fun iv => ∃ k : Nat, iv = .int .i64 k ∧ k ≤ s.length ∧ Hid (R = begs (cs.drop (at_ + k)) (s.drop k))) (fun iv => s.length - (intOf iv).toNat)
  case atStart => exact ⟨0, rfl, by omega, HR⟩
  case round =>
    obtain ⟨k, rfl, hk, hx⟩ := hrel
    clear HR
    by_cases hlt : k < s.length
    · have d1 : decide ((k : Int) < (s.length : Int)) = true := decide_eq_true (by omega)
      have d1' : decide (k < s.length) = true := decide_eq_true hlt
      have hbx : ∀ h, (⟨s.toArray⟩ : ByteArray)[k]'h = s[k]'hlt := fun _ => rfl
      have hkI : (k : Int) < (s.length : Int) := by omega
      have hx2 := hx.out
      rw [begs_step hlt] at hx2
      have his := isR_c A cs c (at_ + k) (s[k]'hlt) w hA hc (by omega)
      generalize isAt cs (at_ + k) (s[k]'hlt) = r at *
      have Hx2 := Lib.hid hx2; have His := Lib.hid his
      have hsum : ((at_ + k : Nat) : Int) = (at_ : Int) + (k : Int) := by omega
      clear hx hx2 his
      rw [hsum] at His
      go_wp2_with fail
      refine His.out.mono ?_
      rintro e w7 ⟨rfl, rfl⟩
      rcases r with _ | _
      · have hR : R = false := by rw [Hx2.out]; rfl
        subst hR
        clear Hx2 His
        go_wp2_with fail
        go_ret
        first | exact ⟨rfl, rfl⟩ | exact rfl | trivial
      · have hR : Hid (R = begs (cs.drop (at_ + (k + 1))) (s.drop (k + 1))) := Lib.hid (by rw [Hx2.out]; rfl)
        clear Hx2 His
        go_wp2_with fail
        go_round
        case rel => exact ⟨k + 1, by go_num, by omega, hR⟩
        case measure => simp [intOf]; omega
    · have hke : k = s.length := by omega
      have d1 : decide ((k : Int) < (s.length : Int)) = false := decide_eq_false (by omega)
      have d1' : decide (k < s.length) = false := decide_eq_false hlt
      have hR : R = true := by rw [hx.out, hke, List.drop_length, begs_nil]
      subst hR
      clear hx hke
      go_wp2_with fail
      go_ret
      first | exact ⟨rfl, rfl⟩ | exact rfl | trivial

set_option maxHeartbeats 16000000 in
set_option maxRecDepth 100000 in
theorem elements_c (A : Option Addr) (rs : List Rn) (c : Nat) (w : World) (hA : RunAt w w.heap.size A rs) (hn : rs.length ≤ 1000000) (hT : (charsOf rs).length ≤ 1000000) (hL : ∀ r ∈ rs, r.t.length ≤ 1000000) (hcl : ∀ r ∈ rs, -9223372036854775808 ≤ r.c ∧ r.c ≤ 9223372036854775807) :
    Calls Tryd.prog 53 #[.slice A rs.length c] w fun e w' => ∃ v, e = .returned v ∧ OwnEl w' w.heap.size v (charsOf rs) ∧ Below w.heap.size w w' := by
  obtain ⟨i0, hi, hz0, hz1, hz2⟩ := info_parts elInfo
  have HR : Hid (charsOf rs = [] ++ charsOf (rs.drop 0)) := Lib.hid rfl
  generalize charsOf rs = R at *
  go_enter Tryd.func53, Tryd.ntmps53
  go_wp2_with fail
  go_loopw [3, 4] (fun lv iv wr => ∃ (k : Nat) (acc : List Ch), iv = .int .i64 k ∧ k ≤ rs.length ∧ Hid (OwnEl wr w.heap.size lv acc) ∧ Below w.heap.size w wr ∧ Hid (R = acc ++ charsOf (rs.drop k))) (fun _ iv _ => rs.length - (intOf iv).toNat)
  case atStart => exact ⟨0, [], rfl, by omega, Lib.hid ⟨rfl, .inl ⟨rfl, rfl⟩⟩, Below.refl _ _, HR⟩
  case round =>
    obtain ⟨k, acc, rfl, hk, ho, hb, hx⟩ := hrel
    clear HR
    obtain ⟨wo, hwo⟩ : ∃ x, x = wr := ⟨_, rfl⟩
    subst hwo
    by_cases hlt : k < rs.length
    · have d1 : decide ((k : Int) < (rs.length : Int)) = true := decide_eq_true (by omega)
      have d1' : decide (k < rs.length) = true := decide_eq_true hlt
      obtain ⟨b, off, rfl, hbl, hcell⟩ : ∃ b off, A = some ⟨b, off, none⟩ ∧ b < w.heap.size ∧ ∀ k (h : k < rs.length), w.cell? ⟨b, off + k * 2, none⟩ = some (.string ⟨(rs[k]'h).t.toArray⟩) ∧ w.cell? ⟨b, off + k * 2 + 1, none⟩ = some (.int .i64 (rs[k]'h).c) := by
        rcases hA with rfl | h
        · simp at hlt
        · exact h
      have y0 := (hcell k hlt).1
      have y1 := (hcell k hlt).2
      have x0 := (hb.cell (p := ⟨b, off + k * 2, none⟩) hbl).trans y0
      have x1 := (hb.cell (p := ⟨b, off + k * 2 + 1, none⟩) hbl).trans y1
      have hlk := hL (rs[k]'hlt) (List.getElem_mem hlt)
      have hx2 := hx.out
      rw [List.drop_eq_getElem_cons hlt, charsOf, List.flatMap_cons] at hx2
      change R = acc ++ (runCh (rs[k]'hlt) ++ charsOf (rs.drop (k + 1))) at hx2
      have hks : (k : Int) < (rs.length : Int) := by omega
      clear hcell hx hA hL hcl
      generalize rs[k]'hlt = r at *
      obtain ⟨t, cl⟩ := r
      have hwsz := hb.size
      simp only at x0 x1 hlk y0 y1
      have Hx2 := Lib.hid hx2
      clear hx2
      by_cases hcl : cl = 0 ∨ cl = 1 ∨ cl = 2
      · have hsz : (⟨t.toArray⟩ : ByteArray).size = t.length := by show t.toArray.size = _; simp
        have hRl : R.length ≤ 1000000 := by assumption
        rcases hcl with rfl | rfl | rfl
        ·
          have hrun : Hid (R = acc ++ ((t.drop 0).map (fun b => (⟨b, true⟩ : Ch)) ++ charsOf (rs.drop (k + 1)))) := Lib.hid (by rw [Hx2.out]; rfl)
          clear Hx2
          go_wp2_with fail
          go_loopw [3, 5] (fun lv jv wr => ∃ (j : Nat) (acc : List Ch), jv = .int .i64 j ∧ j ≤ t.length ∧ acc.length ≤ 1000000 ∧ Hid (OwnEl wr w.heap.size lv acc) ∧ Below w.heap.size w wr ∧ Hid (R = acc ++ ((t.drop j).map (fun b => (⟨b, true⟩ : Ch)) ++ charsOf (rs.drop (k + 1))))) (fun _ jv _ => t.length - (intOf jv).toNat)
          case atStart => exact ⟨0, acc, rfl, by omega, by have := congrArg List.length hrun.out; rw [List.length_append] at this; omega, ho, hb, hrun⟩
          case round =>
            obtain ⟨j, acc, rfl, hj, hal, ho, hb, hx⟩ := hrel
            clear hrun
            have hwr := hb.size
            by_cases hjt : j < t.length
            · have d2 : decide ((j : Int) < (t.length : Int)) = true := decide_eq_true (by omega)
              have d2' : decide (j < t.length) = true := decide_eq_true hjt
              have x0 := (hb.cell (p := ⟨b, off + k * 2, none⟩) hbl).trans y0
              have x1 := (hb.cell (p := ⟨b, off + k * 2 + 1, none⟩) hbl).trans y1
              have hbx : ∀ h, (⟨t.toArray⟩ : ByteArray)[j]'h = t[j]'hjt := fun _ => rfl
              have hx2 := hx.out
              rw [List.drop_eq_getElem_cons hjt, List.map_cons] at hx2
              have Hx3 : Hid (R = (acc ++ [⟨t[j]'hjt, true⟩]) ++ ((t.drop (j + 1)).map (fun b => (⟨b, true⟩ : Ch)) ++ charsOf (rs.drop (k + 1)))) := Lib.hid (by rw [hx2]; simp)
              have hac2 : acc.length + 1 ≤ 1000000 := by have := congrArg List.length Hx3.out; rw [List.length_append, List.length_append] at this; simp at this; omega
              have hjI : (j : Int) < (t.length : Int) := by omega
              generalize t[j]'hjt = q at *
              have KO : Hid (∀ W, Below wr.heap.size wr W → OwnEl W w.heap.size u3 acc) := Lib.hid (fun W hW => by
                have := ho.out
                exact row_kept this (fun k hk => hW.block k hk))
              have KB : Hid (∀ W, Below wr.heap.size wr W → Below w.heap.size w W) := Lib.hid (fun W hW => hb.trans (hW.mono hwr))
              have KC : Hid (∀ W, Below w.heap.size w W → W.cell? ⟨b, off + k * 2, none⟩ = some (.string ⟨t.toArray⟩) ∧ W.cell? ⟨b, off + k * 2 + 1, none⟩ = some (.int .i64 0)) := Lib.hid (fun W hW => ⟨(hW.cell (p := ⟨b, off + k * 2, none⟩) hbl).trans y0, (hW.cell (p := ⟨b, off + k * 2 + 1, none⟩) hbl).trans y1⟩)
              have KBx : Below wr.heap.size wr (wr.drew.alloc (.cells #[.int .u8 q.toNat, .bool true] 81)) := ((Below.refl wr.heap.size wr).drew).alloc (Nat.le_refl _) _
              have hsz2 : (wr.drew).heap.size = wr.heap.size := rfl
              clear hx hx2 ho
              go_wp2_with fail
              go_region_held3 (fun w' => w'.cell? ⟨b, off + k * 2, none⟩ = some (.string ⟨t.toArray⟩) ∧ w'.cell? ⟨b, off + k * 2 + 1, none⟩ = some (.int .i64 0))
                (first
                  | (exact ⟨x0, x1⟩)
                  | (exact KC.out _ (KB.out _ KBx))
                  | (exact KC.out _ ((KB.out _ KBx).grown hgrow (KB.out _ KBx).size (fun q hq => ((KO.out _ KBx).lt q hq).1)))
                  | go_keep | assumption)
                ((refine step_append_lies _ (by rfl) _ _ _ (by rfl) w.heap.size 81 i0 _ 2 2 Tryd.underlying75 hi hz0 hz1 hz2 rfl (by omega) u3 acc.length (chCells acc) (by rfl) (KO.out _ KBx) ⟨wr.heap.size, 0, none⟩ 1 1 [.int .u8 q.toNat, .bool true] (by rfl) (by rfl) (World.news_of_block (fr := (0, 0)) (heap_alloc_new wr.drew (.cells #[.int .u8 q.toNat, .bool true] 81))) (by intro u hu; simp at hu; rcases hu with rfl | rfl <;> rfl) (by omega) (by unfold maxLen; omega) (by omega) (KB.out _ KBx).size (wr.heap.size + 1) (by simp) ?_; intro gg cap w8 hown' hgrow hat hlt8))
              have hb8 : Below w.heap.size w w8 := (KB.out _ KBx).grown hgrow (KB.out _ KBx).size (fun q hq => ((KO.out _ KBx).lt q hq).1)
              have Ho8 : Hid (OwnEl w8 w.heap.size (.slice (some ⟨gg, 0, none⟩) (acc.length + 1) cap) (acc ++ [⟨q, true⟩])) := Lib.hid (by
                unfold OwnEl
                rw [List.length_append, chCells_append]
                exact hown')
              clear hown' hgrow hat KBx KO KB KC x0 x1
              go_wp2_with fail
              go_roundw
              case rel => exact ⟨j + 1, _, by go_num, by omega, by simp; omega, Ho8, hb8, Hx3⟩
              case measure => simp [intOf]; omega
            · have hje : j = t.length := by omega
              have d2 : decide ((j : Int) < (t.length : Int)) = false := decide_eq_false (by omega)
              have d2' : decide (j < t.length) = false := decide_eq_false hjt
              have x0 := (hb.cell (p := ⟨b, off + k * 2, none⟩) hbl).trans y0
              have x1 := (hb.cell (p := ⟨b, off + k * 2 + 1, none⟩) hbl).trans y1
              have hR : Hid (R = acc ++ charsOf (rs.drop (k + 1))) := Lib.hid (by
                rw [hx.out, hje, List.drop_length]
                rfl)
              clear hx hje
              go_wp2_with fail
              go_roundw
              case rel => exact ⟨k + 1, acc, by go_num, by omega, ho, hb, hR⟩
              case measure => simp [intOf]; omega
        ·
          have hrun : Hid (R = acc ++ ((t.drop 0).map (fun b => (⟨b, false⟩ : Ch)) ++ charsOf (rs.drop (k + 1)))) := Lib.hid (by rw [Hx2.out]; rfl)
          clear Hx2
          go_wp2_with fail
          go_loopw [3, 5] (fun lv jv wr => ∃ (j : Nat) (acc : List Ch), jv = .int .i64 j ∧ j ≤ t.length ∧ acc.length ≤ 1000000 ∧ Hid (OwnEl wr w.heap.size lv acc) ∧ Below w.heap.size w wr ∧ Hid (R = acc ++ ((t.drop j).map (fun b => (⟨b, false⟩ : Ch)) ++ charsOf (rs.drop (k + 1))))) (fun _ jv _ => t.length - (intOf jv).toNat)
          case atStart => exact ⟨0, acc, rfl, by omega, by have := congrArg List.length hrun.out; rw [List.length_append] at this; omega, ho, hb, hrun⟩
          case round =>
            obtain ⟨j, acc, rfl, hj, hal, ho, hb, hx⟩ := hrel
            clear hrun
            have hwr := hb.size
            by_cases hjt : j < t.length
            · have d2 : decide ((j : Int) < (t.length : Int)) = true := decide_eq_true (by omega)
              have d2' : decide (j < t.length) = true := decide_eq_true hjt
              have x0 := (hb.cell (p := ⟨b, off + k * 2, none⟩) hbl).trans y0
              have x1 := (hb.cell (p := ⟨b, off + k * 2 + 1, none⟩) hbl).trans y1
              have hbx : ∀ h, (⟨t.toArray⟩ : ByteArray)[j]'h = t[j]'hjt := fun _ => rfl
              have hx2 := hx.out
              rw [List.drop_eq_getElem_cons hjt, List.map_cons] at hx2
              have Hx3 : Hid (R = (acc ++ [⟨t[j]'hjt, false⟩]) ++ ((t.drop (j + 1)).map (fun b => (⟨b, false⟩ : Ch)) ++ charsOf (rs.drop (k + 1)))) := Lib.hid (by rw [hx2]; simp)
              have hac2 : acc.length + 1 ≤ 1000000 := by have := congrArg List.length Hx3.out; rw [List.length_append, List.length_append] at this; simp at this; omega
              have hjI : (j : Int) < (t.length : Int) := by omega
              generalize t[j]'hjt = q at *
              have KO : Hid (∀ W, Below wr.heap.size wr W → OwnEl W w.heap.size u3 acc) := Lib.hid (fun W hW => by
                have := ho.out
                exact row_kept this (fun k hk => hW.block k hk))
              have KB : Hid (∀ W, Below wr.heap.size wr W → Below w.heap.size w W) := Lib.hid (fun W hW => hb.trans (hW.mono hwr))
              have KC : Hid (∀ W, Below w.heap.size w W → W.cell? ⟨b, off + k * 2, none⟩ = some (.string ⟨t.toArray⟩) ∧ W.cell? ⟨b, off + k * 2 + 1, none⟩ = some (.int .i64 1)) := Lib.hid (fun W hW => ⟨(hW.cell (p := ⟨b, off + k * 2, none⟩) hbl).trans y0, (hW.cell (p := ⟨b, off + k * 2 + 1, none⟩) hbl).trans y1⟩)
              have KBx : Below wr.heap.size wr (wr.drew.alloc (.cells #[.int .u8 q.toNat, .bool false] 81)) := ((Below.refl wr.heap.size wr).drew).alloc (Nat.le_refl _) _
              have hsz2 : (wr.drew).heap.size = wr.heap.size := rfl
              clear hx hx2 ho
              go_wp2_with fail
              go_region_held3 (fun w' => w'.cell? ⟨b, off + k * 2, none⟩ = some (.string ⟨t.toArray⟩) ∧ w'.cell? ⟨b, off + k * 2 + 1, none⟩ = some (.int .i64 1))
                (first
                  | (exact ⟨x0, x1⟩)
                  | (exact KC.out _ (KB.out _ KBx))
                  | (exact KC.out _ ((KB.out _ KBx).grown hgrow (KB.out _ KBx).size (fun q hq => ((KO.out _ KBx).lt q hq).1)))
                  | go_keep | assumption)
                ((refine step_append_lies _ (by rfl) _ _ _ (by rfl) w.heap.size 81 i0 _ 2 2 Tryd.underlying75 hi hz0 hz1 hz2 rfl (by omega) u3 acc.length (chCells acc) (by rfl) (KO.out _ KBx) ⟨wr.heap.size, 0, none⟩ 1 1 [.int .u8 q.toNat, .bool false] (by rfl) (by rfl) (World.news_of_block (fr := (0, 0)) (heap_alloc_new wr.drew (.cells #[.int .u8 q.toNat, .bool false] 81))) (by intro u hu; simp at hu; rcases hu with rfl | rfl <;> rfl) (by omega) (by unfold maxLen; omega) (by omega) (KB.out _ KBx).size (wr.heap.size + 1) (by simp) ?_; intro gg cap w8 hown' hgrow hat hlt8))
              have hb8 : Below w.heap.size w w8 := (KB.out _ KBx).grown hgrow (KB.out _ KBx).size (fun q hq => ((KO.out _ KBx).lt q hq).1)
              have Ho8 : Hid (OwnEl w8 w.heap.size (.slice (some ⟨gg, 0, none⟩) (acc.length + 1) cap) (acc ++ [⟨q, false⟩])) := Lib.hid (by
                unfold OwnEl
                rw [List.length_append, chCells_append]
                exact hown')
              clear hown' hgrow hat KBx KO KB KC x0 x1
              go_wp2_with fail
              go_roundw
              case rel => exact ⟨j + 1, _, by go_num, by omega, by simp; omega, Ho8, hb8, Hx3⟩
              case measure => simp [intOf]; omega
            · have hje : j = t.length := by omega
              have d2 : decide ((j : Int) < (t.length : Int)) = false := decide_eq_false (by omega)
              have d2' : decide (j < t.length) = false := decide_eq_false hjt
              have x0 := (hb.cell (p := ⟨b, off + k * 2, none⟩) hbl).trans y0
              have x1 := (hb.cell (p := ⟨b, off + k * 2 + 1, none⟩) hbl).trans y1
              have hR : Hid (R = acc ++ charsOf (rs.drop (k + 1))) := Lib.hid (by
                rw [hx.out, hje, List.drop_length]
                rfl)
              clear hx hje
              go_wp2_with fail
              go_roundw
              case rel => exact ⟨k + 1, acc, by go_num, by omega, ho, hb, hR⟩
              case measure => simp [intOf]; omega
        ·
          have hrun : Hid (R = acc ++ ((t.drop 0).map (fun b => (⟨b, true⟩ : Ch)) ++ charsOf (rs.drop (k + 1)))) := Lib.hid (by rw [Hx2.out]; rfl)
          clear Hx2
          go_wp2_with fail
          go_loopw [3, 5] (fun lv jv wr => ∃ (j : Nat) (acc : List Ch), jv = .int .i64 j ∧ j ≤ t.length ∧ acc.length ≤ 1000000 ∧ Hid (OwnEl wr w.heap.size lv acc) ∧ Below w.heap.size w wr ∧ Hid (R = acc ++ ((t.drop j).map (fun b => (⟨b, true⟩ : Ch)) ++ charsOf (rs.drop (k + 1))))) (fun _ jv _ => t.length - (intOf jv).toNat)
          case atStart => exact ⟨0, acc, rfl, by omega, by have := congrArg List.length hrun.out; rw [List.length_append] at this; omega, ho, hb, hrun⟩
          case round =>
            obtain ⟨j, acc, rfl, hj, hal, ho, hb, hx⟩ := hrel
            clear hrun
            have hwr := hb.size
            by_cases hjt : j < t.length
            · have d2 : decide ((j : Int) < (t.length : Int)) = true := decide_eq_true (by omega)
              have d2' : decide (j < t.length) = true := decide_eq_true hjt
              have x0 := (hb.cell (p := ⟨b, off + k * 2, none⟩) hbl).trans y0
              have x1 := (hb.cell (p := ⟨b, off + k * 2 + 1, none⟩) hbl).trans y1
              have hbx : ∀ h, (⟨t.toArray⟩ : ByteArray)[j]'h = t[j]'hjt := fun _ => rfl
              have hx2 := hx.out
              rw [List.drop_eq_getElem_cons hjt, List.map_cons] at hx2
              have Hx3 : Hid (R = (acc ++ [⟨t[j]'hjt, true⟩]) ++ ((t.drop (j + 1)).map (fun b => (⟨b, true⟩ : Ch)) ++ charsOf (rs.drop (k + 1)))) := Lib.hid (by rw [hx2]; simp)
              have hac2 : acc.length + 1 ≤ 1000000 := by have := congrArg List.length Hx3.out; rw [List.length_append, List.length_append] at this; simp at this; omega
              have hjI : (j : Int) < (t.length : Int) := by omega
              generalize t[j]'hjt = q at *
              have KO : Hid (∀ W, Below wr.heap.size wr W → OwnEl W w.heap.size u3 acc) := Lib.hid (fun W hW => by
                have := ho.out
                exact row_kept this (fun k hk => hW.block k hk))
              have KB : Hid (∀ W, Below wr.heap.size wr W → Below w.heap.size w W) := Lib.hid (fun W hW => hb.trans (hW.mono hwr))
              have KC : Hid (∀ W, Below w.heap.size w W → W.cell? ⟨b, off + k * 2, none⟩ = some (.string ⟨t.toArray⟩) ∧ W.cell? ⟨b, off + k * 2 + 1, none⟩ = some (.int .i64 2)) := Lib.hid (fun W hW => ⟨(hW.cell (p := ⟨b, off + k * 2, none⟩) hbl).trans y0, (hW.cell (p := ⟨b, off + k * 2 + 1, none⟩) hbl).trans y1⟩)
              have KBx : Below wr.heap.size wr (wr.drew.alloc (.cells #[.int .u8 q.toNat, .bool true] 81)) := ((Below.refl wr.heap.size wr).drew).alloc (Nat.le_refl _) _
              have hsz2 : (wr.drew).heap.size = wr.heap.size := rfl
              clear hx hx2 ho
              go_wp2_with fail
              go_region_held3 (fun w' => w'.cell? ⟨b, off + k * 2, none⟩ = some (.string ⟨t.toArray⟩) ∧ w'.cell? ⟨b, off + k * 2 + 1, none⟩ = some (.int .i64 2))
                (first
                  | (exact ⟨x0, x1⟩)
                  | (exact KC.out _ (KB.out _ KBx))
                  | (exact KC.out _ ((KB.out _ KBx).grown hgrow (KB.out _ KBx).size (fun q hq => ((KO.out _ KBx).lt q hq).1)))
                  | go_keep | assumption)
                ((refine step_append_lies _ (by rfl) _ _ _ (by rfl) w.heap.size 81 i0 _ 2 2 Tryd.underlying75 hi hz0 hz1 hz2 rfl (by omega) u3 acc.length (chCells acc) (by rfl) (KO.out _ KBx) ⟨wr.heap.size, 0, none⟩ 1 1 [.int .u8 q.toNat, .bool true] (by rfl) (by rfl) (World.news_of_block (fr := (0, 0)) (heap_alloc_new wr.drew (.cells #[.int .u8 q.toNat, .bool true] 81))) (by intro u hu; simp at hu; rcases hu with rfl | rfl <;> rfl) (by omega) (by unfold maxLen; omega) (by omega) (KB.out _ KBx).size (wr.heap.size + 1) (by simp) ?_; intro gg cap w8 hown' hgrow hat hlt8))
              have hb8 : Below w.heap.size w w8 := (KB.out _ KBx).grown hgrow (KB.out _ KBx).size (fun q hq => ((KO.out _ KBx).lt q hq).1)
              have Ho8 : Hid (OwnEl w8 w.heap.size (.slice (some ⟨gg, 0, none⟩) (acc.length + 1) cap) (acc ++ [⟨q, true⟩])) := Lib.hid (by
                unfold OwnEl
                rw [List.length_append, chCells_append]
                exact hown')
              clear hown' hgrow hat KBx KO KB KC x0 x1
              go_wp2_with fail
              go_roundw
              case rel => exact ⟨j + 1, _, by go_num, by omega, by simp; omega, Ho8, hb8, Hx3⟩
              case measure => simp [intOf]; omega
            · have hje : j = t.length := by omega
              have d2 : decide ((j : Int) < (t.length : Int)) = false := decide_eq_false (by omega)
              have d2' : decide (j < t.length) = false := decide_eq_false hjt
              have x0 := (hb.cell (p := ⟨b, off + k * 2, none⟩) hbl).trans y0
              have x1 := (hb.cell (p := ⟨b, off + k * 2 + 1, none⟩) hbl).trans y1
              have hR : Hid (R = acc ++ charsOf (rs.drop (k + 1))) := Lib.hid (by
                rw [hx.out, hje, List.drop_length]
                rfl)
              clear hx hje
              go_wp2_with fail
              go_roundw
              case rel => exact ⟨k + 1, acc, by go_num, by omega, ho, hb, hR⟩
              case measure => simp [intOf]; omega
      · have n0 : cl ≠ 0 := fun h => hcl (.inl h)
        have n1 : cl ≠ 1 := fun h => hcl (.inr (.inl h))
        have n2 : cl ≠ 2 := fun h => hcl (.inr (.inr h))
        have e0 : (cl != 0) = true := by rw [bne_iff_ne]; exact n0
        have e1 : (cl != 1) = true := by rw [bne_iff_ne]; exact n1
        have e2 : (cl != 2) = true := by rw [bne_iff_ne]; exact n2
        have hR : Hid (R = acc ++ charsOf (rs.drop (k + 1))) := Lib.hid (by
          rw [Hx2.out]
          unfold runCh
          rw [if_neg hcl]
          rfl)
        clear Hx2 hcl n0 n1 n2
        go_wp2_with fail
        go_roundw
        case rel => exact ⟨k + 1, acc, by go_num, by omega, ho, hb, hR⟩
        case measure => simp [intOf]; omega
    · have hke : k = rs.length := by omega
      have d1 : decide ((k : Int) < (rs.length : Int)) = false := decide_eq_false (by omega)
      have d1' : decide (k < rs.length) = false := decide_eq_false hlt
      have hR : R = acc := by rw [hx.out, hke, List.drop_length]; simp [charsOf]
      subst hR
      clear hx hke
      go_wp2_with fail
      go_ret
      exact ⟨_, rfl, ho.out, hb⟩
end Go.Proofs.YteppndkhmbhnkaaDoor
