/- pattern: the reference's ends. -/
import Derived.Test.YteppndkhmbhnkaaDoorPRval
namespace Go.Proofs.YteppndkhmbhnkaaDoor
open Go.RowKit
set_option linter.unusedVariables false

/-- A row of n + 1 truth values. -/
def BoolRow (w : World) (g n : Nat) (F : Nat → Bool) : Prop := g < w.heap.size ∧ ∀ j, j ≤ n → w.cell? ⟨g, j, none⟩ = some (.bool (F j)) ∧ w.frozen? ⟨g, j, none⟩ = false
theorem boolRow_below {w w' : World} {g n B : Nat} {F : Nat → Bool} (h : BoolRow w g n F) (hb : Below B w w') (hg : g < B) : BoolRow w' g n F :=
  ⟨Nat.lt_of_lt_of_le h.1 hb.size, fun j hj => ⟨(hb.cell (p := ⟨g, j, none⟩) hg).trans (h.2 j hj).1, (hb.frozen (p := ⟨g, j, none⟩) hg).trans (h.2 j hj).2⟩⟩
theorem boolRow_ext {w : World} {g n : Nat} {F G : Nat → Bool} (h : BoolRow w g n F) (he : ∀ j, j ≤ n → F j = G j) : BoolRow w g n G :=
  ⟨h.1, fun j hj => by rw [← he j hj]; exact h.2 j hj⟩
theorem boolRow_set {w : World} {g n i : Nat} {F : Nat → Bool} {b : Bool} (h : BoolRow w g n F) (hi : i ≤ n) : BoolRow (w.setCell ⟨g, i, none⟩ (.bool b)) g n (fun j => if j = i then b else F j) := by
  refine ⟨by simpa using h.1, fun j hj => ⟨?_, by simpa using (h.2 j hj).2⟩⟩
  by_cases e : i = j
  · subst e
    rw [World.cell?_setCell_same _ _ _ (h.2 i hi).1]
    simp
  · rw [World.cell?_setCell_other _ _ _ _ (fun e1 => e (by injection e1)), (h.2 j hj).1]
    have e2 : ¬ j = i := fun h => e h.symm
    simp [e2]
theorem boolRow_other {w : World} {g g2 n i : Nat} {F : Nat → Bool} (v : Value) (h : BoolRow w g n F) (hne : g ≠ g2) : BoolRow (w.setCell ⟨g2, i, none⟩ v) g n F := by
  refine ⟨by simpa using h.1, fun j hj => ⟨?_, by simpa using (h.2 j hj).2⟩⟩
  rw [World.cell?_setCell_other _ _ _ _ (fun e1 => hne (by injection e1 with e1 _; exact e1.symm))]
  exact (h.2 j hj).1
theorem boolInfo : (Tryd.prog.info? 4).map (fun i => (i.zero, i.size, i.bytes)) = some (some (.bool false), 1, 1) := by kernel_rfl
theorem boolRow_made {w w1 : World} {n : Nat} (h : w1.ownsRow w.heap.size 4 1 (.slice (some ⟨w.heap.size, 0, none⟩) (n + 1) (n + 1)) (n + 1) (madeCells #[Value.bool false] (n + 1)).toList) : BoolRow w1 w.heap.size n (fun _ => false) := by
  rcases h.2 with ⟨h, _⟩ | ⟨g, cap, cur, hv, hgB, hgh, _, _, _, h5⟩
  · cases h
  · injection hv with hv1 hv2 hv3
    injection hv1 with hv1
    injection hv1 with hv1
    subst hv1
    refine ⟨lt_of_block hgh, fun j hj => ⟨?_, Lib.frozen_of_heap hgh j⟩⟩
    have e : (madeCells #[Value.bool false] (n + 1)).toList = List.replicate (n + 1) (Value.bool false) := toList_madeCells_one (Value.bool false) (n + 1)
    rw [e, Nat.mul_one] at h5
    have h6 : (cur.toList.take (n + 1))[j]? = (List.replicate (n + 1) (Value.bool false))[j]? := by rw [h5]
    rw [List.getElem?_take, if_pos (by omega), Array.getElem?_toList, List.getElem?_replicate, if_pos (by omega)] at h6
    rw [Lib.cell_of_heap hgh]
    exact h6
set_option maxHeartbeats 16000000 in
set_option maxRecDepth 100000 in
theorem ends_c (A : Option Addr) (is : List It) (c : Nat) (s : List UInt8) (w : World) (hp : PatAt w w.heap.size A is) (ho : ∀ x ∈ is, ItOk x) (hl : is.length ≤ 1000000) (hv : is.any inv = false) (hsl : s.length ≤ 1000000) :
    Calls Tryd.prog 59 #[.slice A is.length c, .string ⟨s.toArray⟩] w fun e w' => ∃ g, e = .returned (.slice (some ⟨g, 0, none⟩) (s.length + 1) (s.length + 1)) ∧ BoolRow w' g s.length (endB s is) ∧ Below w.heap.size w w' := by
  obtain ⟨i0, hi, hz0, hz1, hz2⟩ := info_parts boolInfo
  have hmx : maxLen = 9223372036854775807 := rfl
  have hsz : (⟨s.toArray⟩ : ByteArray).size = s.length := by show s.toArray.size = _; simp
  have HP := Lib.hid hp
  have Ho := Lib.hid ho
  have Hinv : Hid (∀ x ∈ is, inv x = false) := Lib.hid (fun x hx => by
    rcases h : inv x with _ | _
    · rfl
    · exact absurd (List.any_eq_true.2 ⟨x, hx, h⟩) (by rw [hv]; decide))
  clear hp ho hv
  go_enter Tryd.func59, Tryd.ntmps59
  go_wp2_with (at_make; refine wpList_make_full _ rfl _ _ 85 rfl w.heap.size 4 i0 _ 1 Tryd.underlying85 hi hz0 hz1 .i64 .i64 ((s.length : Int) + 1) ((s.length : Int) + 1) (s.length + 1) rfl rfl (by omega) (by omega) (by rw [hz2]; omega) (by omega) (Nat.le_refl _) ?_)
  intro w1 hown1 hg1
  have hb1 : Below w.heap.size w w1 := (Below.refl _ w).grown hg1 (Nat.le_refl _) (fun k hk => by cases hk)
  have hr1 := boolRow_made hown1
  obtain ⟨x9, f9⟩ := hr1.2 0 (Nat.zero_le _)
  have hr2 := boolRow_ext (boolRow_set (b := true) hr1 (Nat.zero_le s.length)) (G := endB s (is.take 0)) (fun j hj => by
    rw [List.take_zero, endB_nil]
    by_cases e : j = 0
    · rw [if_pos e, e]; rfl
    · rw [if_neg e]; exact (beq_eq_false_iff_ne.2 e).symm)
  have Hr2 := Lib.hid hr2
  have hb2 := hb1.setCell (p := ⟨w.heap.size, 0, none⟩) (Nat.le_refl _) (.bool true)
  have i1 : (0 : Int) < (s.length : Int) + 1 := by omega
  clear hown1 hg1 hr1 hr2
  go_wp2_with fail
  clear x9 f9
  go_loopw [5, 6] (fun rv iv wr => ∃ (i g : Nat), iv = .int .i64 i ∧ i ≤ is.length ∧ rv = .slice (some ⟨g, 0, none⟩) (s.length + 1) (s.length + 1) ∧ w.heap.size ≤ g ∧ g < wr.heap.size ∧ Hid (BoolRow wr g s.length (endB s (is.take i))) ∧ Below w.heap.size w wr) (fun _ iv _ => is.length - (intOf iv).toNat)
  case atStart => exact ⟨0, w.heap.size, rfl, by omega, rfl, by omega, Hr2.out.1, Hr2, hb2⟩
  case round =>
    obtain ⟨i, g, rfl, hi2, rfl, hgl, hgs, hrow, hb⟩ := hrel
    obtain ⟨wo, hwo⟩ : ∃ x, x = wr := ⟨_, rfl⟩
    subst hwo
    clear Hr2 hb1 hb2
    have hwo := hb.size
    by_cases hlt : i < is.length
    · have d1 : decide ((i : Int) < (is.length : Int)) = true := decide_eq_true (by omega)
      have d1' : decide (i < is.length) = true := decide_eq_true hlt
      obtain ⟨b, off, rfl, hbl, hcell⟩ : ∃ b off, A = some ⟨b, off, none⟩ ∧ b < w.heap.size ∧ ∀ k (h : k < is.length), ∃ sv, w.cell? ⟨b, off + k * 4, none⟩ = some (.int .i64 (is[k]'h).k) ∧ w.cell? ⟨b, off + k * 4 + 1, none⟩ = some (.string ⟨(is[k]'h).t.toArray⟩) ∧ w.cell? ⟨b, off + k * 4 + 2, none⟩ = some (.bool (is[k]'h).neg) ∧ w.cell? ⟨b, off + k * 4 + 3, none⟩ = some sv ∧ SpAt w w.heap.size sv (is[k]'h).set := by
        rcases HP.out with rfl | h
        · simp at hlt
        · exact h
      obtain ⟨sv, y0, y1, y2, y3, ys⟩ := hcell i hlt
      have hok := Ho.out (is[i]'hlt) (List.getElem_mem hlt)
      have hin := Hinv.out (is[i]'hlt) (List.getElem_mem hlt)
      have htk : is.take (i + 1) = is.take i ++ [is[i]'hlt] := by rw [List.take_add_one, List.getElem?_eq_getElem hlt]; rfl
      have Hstar : Hid ((is[i]'hlt).k = 3 → ∀ k, k ≤ s.length → endB s (is.take (i + 1)) k = (endB s (is.take i) k || (decide (0 < k) && endB s (is.take (i + 1)) (k - 1)))) := Lib.hid (fun h3 k hk => by rw [htk]; exact endB_star h3 hk)
      have Hzero : Hid ((is[i]'hlt).k ≠ 3 → endB s (is.take (i + 1)) 0 = false) := Lib.hid (fun h3 => by rw [htk]; exact endB_zero h3)
      have Hone : Hid ((is[i]'hlt).k ≠ 3 → ∀ k (hk : k < s.length), endB s (is.take (i + 1)) (k + 1) = (endB s (is.take i) k && acc (is[i]'hlt) (s[k]'hk).toNat)) := Lib.hid (fun h3 k hk => by rw [htk]; exact endB_one h3 hk)
      have Htk : Hid (∀ (W : World) (z : Nat), Below w.heap.size w W → z < 256 → Calls Tryd.prog 91 #[.agg #[.int .i64 (is[i]'hlt).k, .string ⟨(is[i]'hlt).t.toArray⟩, .bool (is[i]'hlt).neg, sv], .int .u8 z] W fun e w' => e = .returned (.bool (acc (is[i]'hlt) z)) ∧ Below W.heap.size W w') := by
        refine Lib.hid ?_
        intro W z hW hz
        have := takes_c (is[i]'hlt) sv z W (spAt_mono (spAt_below ys hW (Nat.le_refl _)) hW.size) hok (fun h => inv_byte hin h) hz
        rw [tkR_acc hin] at this
        exact this
      have hiI : (i : Int) < (is.length : Int) := by omega
      generalize is[i]'hlt = q at *
      obtain ⟨xk, xt, xn, xs⟩ := q
      simp only at y0 y1 y2 y3 Hstar Hzero Hone Htk
      generalize hF' : endB s (is.take (i + 1)) = F' at *
      have HF' := Lib.hid hF'
      generalize hF : endB s (is.take i) = F at *
      clear hcell ys hok hin htk hF hF' HP Ho Hinv
      go_wp2_with (at_make; refine wpList_make_full _ rfl _ _ 85 rfl wo.heap.size 4 i0 _ 1 Tryd.underlying85 hi hz0 hz1 .i64 .i64 ((s.length : Int) + 1) ((s.length : Int) + 1) (s.length + 1) rfl rfl (by omega) (by omega) (by rw [hz2]; omega) (by omega) (Nat.le_refl _) ?_)
      intro w1 hown1 hg1
      have hb1 : Below wo.heap.size wo w1 := (Below.refl _ wo).grown hg1 (Nat.le_refl _) (fun k hk => by cases hk)
      have hr1 := boolRow_made hown1
      have hr3 := boolRow_ext hr1 (G := fun j => decide (j < 0) && F' j) (fun j hj => by simp)
      have Hr3 := Lib.hid hr3
      have hrow1 := Lib.hid (boolRow_below hrow.out hb1 hgs)
      have hbw1 := hb.trans (hb1.mono hwo)
      generalize hg2 : wo.heap.size = g2 at *
      have hwg : w.heap.size ≤ g2 := hwo
      clear hown1 hg1 hr1 hr3 hb1 hrow hg2 hb
      go_wp2_with fail
      go_loopw [8] (fun kv wr => ∃ k : Nat, kv = .int .i64 k ∧ k ≤ s.length + 1 ∧ Hid (BoolRow wr g2 s.length (fun j => decide (j < k) && F' j)) ∧ Hid (BoolRow wr g s.length F) ∧ Below w.heap.size w wr) (fun kv _ => s.length + 1 - (intOf kv).toNat)
      case atStart => exact ⟨0, rfl, by omega, Hr3, hrow1, hbw1⟩
      case round =>
        obtain ⟨k, rfl, hk, hn, hr, hb⟩ := hrel
        clear Hr3 hrow1 hbw1
        have hwr := hb.size
        by_cases hks : k ≤ s.length
        · have d2 : decide ((k : Int) ≤ (s.length : Int)) = true := decide_eq_true (by omega)
          have d2' : decide (k ≤ s.length) = true := decide_eq_true hks
          have j2 : (k : Int) < (s.length : Int) + 1 := by omega
          have x0 := (hb.cell (p := ⟨b, off + i * 4, none⟩) hbl).trans y0
          obtain ⟨xr, fr⟩ := hr.out.2 k hks
          obtain ⟨xq, fq⟩ := hn.out.2 k hks
          have hset : ∀ v, v = F' k → Hid (BoolRow (wr.setCell ⟨g2, k, none⟩ (.bool v)) g2 s.length (fun j => decide (j < k + 1) && F' j)) := fun v hv => Lib.hid (boolRow_ext (boolRow_set hn.out hks) (fun j hj => by
            by_cases e : j = k
            · rw [if_pos e, e, hv]; simp
            · rw [if_neg e]
              have : decide (j < k) = decide (j < k + 1) := by rw [decide_eq_decide]; omega
              rw [this]))
          have hoth : ∀ v, Hid (BoolRow (wr.setCell ⟨g2, k, none⟩ (.bool v)) g s.length F) := fun v => Lib.hid (boolRow_other _ hr.out (by omega))
          have hbs : ∀ v, Below w.heap.size w (wr.setCell ⟨g2, k, none⟩ (.bool v)) := fun v => hb.setCell (p := ⟨g2, k, none⟩) hwg _
          by_cases h3 : xk = 3
          · have hst := Hstar.out h3 k hks
            subst h3
            rcases hFk : F k with _ | _
            · rw [hFk] at xr hst
              by_cases h0 : 0 < k
              · have e2 : decide ((0 : Int) < (k : Int)) = true := decide_eq_true (by omega)
                have e2' : decide (0 < k) = true := decide_eq_true h0
                obtain ⟨xp, _⟩ := hn.out.2 (k - 1) (by omega)
                have xp' : wr.cell? ⟨g2, k - 1, none⟩ = some (.bool (F' (k - 1))) := by rw [xp]; show some (Value.bool (decide (k - 1 < k) && F' (k - 1))) = _; rw [decide_eq_true (show k - 1 < k by omega)]; rfl
                have i1 : IntKind.i64.wrap ((k : Int) - 1) = (k : Int) - 1 := IntWalk.i64_in _ (by omega)
                have i2 : (0 : Int) ≤ (k : Int) - 1 := by omega
                have i2' : (1 : Int) ≤ (k : Int) := by omega
                have i3 : ((k : Int) - 1).toNat = k - 1 := by omega
                have i4 : (k : Int) - 1 < (s.length : Int) + 1 := by omega
                rw [e2'] at hst
                have hs2 := hset (F' (k - 1)) (by rw [hst]; rfl)
                have ho2 := hoth (F' (k - 1))
                have hb2 := hbs (F' (k - 1))
                clear hset hoth hbs hst xp hn hr
                generalize F' (k - 1) = v at *
                go_wp2_with fail
                go_roundw
                case rel => exact ⟨k + 1, by go_num, by omega, hs2, ho2, hb2⟩
                case measure => simp [intOf]; omega
              · have e2 : decide ((0 : Int) < (k : Int)) = false := decide_eq_false (by omega)
                have e2' : decide (0 < k) = false := decide_eq_false h0
                rw [e2'] at hst
                have hs2 := hset false (by rw [hst]; rfl)
                have ho2 := hoth false
                have hb2 := hbs false
                clear hset hoth hbs hst hn hr
                go_wp2_with fail
                go_roundw
                case rel => exact ⟨k + 1, by go_num, by omega, hs2, ho2, hb2⟩
                case measure => simp [intOf]; omega
            · rw [hFk] at xr hst
              have hs2 := hset true (by rw [hst]; rfl)
              have ho2 := hoth true
              have hb2 := hbs true
              clear hset hoth hbs hst hn hr
              go_wp2_with fail
              go_roundw
              case rel => exact ⟨k + 1, by go_num, by omega, hs2, ho2, hb2⟩
              case measure => simp [intOf]; omega
          · have k1 : (xk == 3) = false := by rw [beq_eq_false_iff_ne]; exact h3
            by_cases h0 : 0 < k
            · have hml : k - 1 < s.length := by omega
              have e2 : decide ((0 : Int) < (k : Int)) = true := decide_eq_true (by omega)
              have e2' : decide (0 < k) = true := decide_eq_true h0
              have hon := Hone.out h3 (k - 1) hml
              rw [show k - 1 + 1 = k from by omega] at hon
              obtain ⟨xp, _⟩ := hr.out.2 (k - 1) (by omega)
              have i1 : IntKind.i64.wrap ((k : Int) - 1) = (k : Int) - 1 := IntWalk.i64_in _ (by omega)
              have i2 : (0 : Int) ≤ (k : Int) - 1 := by omega
              have i2' : (1 : Int) ≤ (k : Int) := by omega
              have i3 : ((k : Int) - 1).toNat = k - 1 := by omega
              have i4 : (k : Int) - 1 < (s.length : Int) + 1 := by omega
              have i5 : (k : Int) - 1 < (s.length : Int) := by omega
              have hbx : ∀ h, (⟨s.toArray⟩ : ByteArray)[k - 1]'h = s[k - 1]'hml := fun _ => rfl
              rcases hFm : F (k - 1) with _ | _
              · rw [hFm] at xp hon
                have hs2 := hset false (by rw [hon]; rfl)
                have ho2 := hoth false
                have hb2 := hbs false
                clear hset hoth hbs hn hr hon Hone Hzero Hstar
                go_wp2_with fail
                go_region
                go_wp2_with fail
                go_roundw
                case rel => exact ⟨k + 1, by go_num, by omega, hs2, ho2, hb2.drew⟩
                case measure => simp [intOf]; omega
              · rw [hFm] at xp hon
                have x1 := (hb.cell (p := ⟨b, off + i * 4 + 1, none⟩) hbl).trans y1
                have x2 := (hb.cell (p := ⟨b, off + i * 4 + 2, none⟩) hbl).trans y2
                have x3 := (hb.cell (p := ⟨b, off + i * 4 + 3, none⟩) hbl).trans y3
                have Hcall : Hid (∀ W, Below w.heap.size w W → BoolRow W g2 s.length (fun j => decide (j < k) && F' j) → BoolRow W g s.length F → Calls Tryd.prog 91 #[.agg #[.int .i64 xk, .string ⟨xt.toArray⟩, .bool xn, sv], .int .u8 (s[k - 1]'hml).toNat] W fun e w' => e = .returned (.bool (acc ⟨xk, xt, xn, xs⟩ (s[k - 1]'hml).toNat)) ∧
                    (w'.cell? ⟨g, k - 1, none⟩ = some (.bool true) ∧ w'.cell? ⟨b, off + i * 4, none⟩ = some (.int .i64 xk) ∧ w'.cell? ⟨b, off + i * 4 + 1, none⟩ = some (.string ⟨xt.toArray⟩) ∧ w'.cell? ⟨b, off + i * 4 + 2, none⟩ = some (.bool xn) ∧ w'.cell? ⟨b, off + i * 4 + 3, none⟩ = some sv) ∧
                    w'.cell? ⟨g2, k, none⟩ = some (.bool false) ∧ w'.frozen? ⟨g2, k, none⟩ = false ∧ Hid (BoolRow w' g2 s.length (fun j => decide (j < k) && F' j)) ∧ Hid (BoolRow w' g s.length F) ∧ Below w.heap.size w w') := Lib.hid (fun W hW h1 h2 => by
                  refine (Htk.out W _ hW (UInt8.toNat_lt _)).mono ?_
                  rintro e w' ⟨rfl, hb9⟩
                  have g1 := boolRow_below h1 hb9 h1.1
                  have g3 := boolRow_below h2 hb9 h2.1
                  have hbw := hW.trans (hb9.mono hW.size)
                  have e1 := (g3.2 (k - 1) (by omega)).1
                  rw [hFm] at e1
                  have e2 := (g1.2 (k) hks).1
                  simp only [Nat.lt_irrefl, decide_false, Bool.false_and] at e2
                  exact ⟨rfl, ⟨e1, (hbw.cell (p := ⟨b, off + i * 4, none⟩) hbl).trans y0, (hbw.cell (p := ⟨b, off + i * 4 + 1, none⟩) hbl).trans y1, (hbw.cell (p := ⟨b, off + i * 4 + 2, none⟩) hbl).trans y2, (hbw.cell (p := ⟨b, off + i * 4 + 3, none⟩) hbl).trans y3⟩, e2, (g1.2 (k) hks).2, Lib.hid g1, Lib.hid g3, hbw⟩)
                have hon2 : F' (k) = acc ⟨xk, xt, xn, xs⟩ (s[k - 1]'hml).toNat := by rw [hon]; rfl
                have Hfin : Hid (∀ (W : World), Hid (BoolRow W g2 s.length (fun j => decide (j < k) && F' j)) → Hid (BoolRow W g s.length F) → Below w.heap.size w W → Hid (BoolRow (W.setCell ⟨g2, k, none⟩ (.bool (F' (k)))) g2 s.length (fun j => decide (j < k + 1) && F' j)) ∧ Hid (BoolRow (W.setCell ⟨g2, k, none⟩ (.bool (F' (k)))) g s.length F) ∧ Below w.heap.size w (W.setCell ⟨g2, k, none⟩ (.bool (F' (k))))) := Lib.hid (fun W h1 h2 hW => ⟨Lib.hid (boolRow_ext (boolRow_set h1.out hks) (fun j hj => by
                  by_cases e : j = k
                  · rw [if_pos e, e]; simp
                  · rw [if_neg e]
                    have : decide (j < k) = decide (j < k + 1) := by rw [decide_eq_decide]; omega
                    rw [this])), Lib.hid (boolRow_other _ h2.out (by omega)), hW.setCell (p := ⟨g2, k, none⟩) hwg _⟩)
                rw [hon2] at Hfin
                have hgne : g ≠ g2 := by omega
                have hbne : b ≠ g2 := by omega
                generalize acc ⟨xk, xt, xn, xs⟩ (s[k - 1]'hml).toNat = ac at *
                have hn0 := hn.out
                have hr0 := hr.out
                have Hn0 := Lib.hid hn0
                have Hr0 := Lib.hid hr0
                clear hset hoth hbs hn hr hon hon2 Hone Hzero Hstar hn0 hr0 Htk xq fq
                go_wp2_with fail
                go_region_held3 (fun w' => w'.cell? ⟨g, k - 1, none⟩ = some (.bool true) ∧ w'.cell? ⟨b, off + i * 4, none⟩ = some (.int .i64 xk) ∧ w'.cell? ⟨b, off + i * 4 + 1, none⟩ = some (.string ⟨xt.toArray⟩) ∧ w'.cell? ⟨b, off + i * 4 + 2, none⟩ = some (.bool xn) ∧ w'.cell? ⟨b, off + i * 4 + 3, none⟩ = some sv)
                  (first | assumption | (exact ⟨xp, x0, x1, x2, x3⟩) | (go_split_ands; refine ⟨?_, ?_, ?_, ?_, ?_⟩ <;> (rw [World.cell?_setCell_other _ _ _ _ (by intro e; injection e; omega)]; assumption)) | go_keep)
                  ((go_at_call 91; refine (Hcall.out _ hb.drew Hn0.out Hr0.out).mono ?_; rintro e w7 ⟨rfl, z0, z5, z6, z7, z8, z9⟩))
                have hfin := Hfin.out w7 z7 z8 z9
                obtain ⟨f1, f2, f3⟩ := hfin
                clear Hfin z7 z8 z9 Hcall
                go_wp2_with fail
                go_roundw
                case rel => exact ⟨k + 1, by go_num, by omega, f1, f2, (by first | exact f3 | exact f3.drew)⟩
                case measure => simp [intOf]; omega
            · have hk0 : k = 0 := by omega
              have e2 : decide ((0 : Int) < (k : Int)) = false := decide_eq_false (by omega)
              have e2' : decide (0 < k) = false := decide_eq_false h0
              have hs2 := hset false (by rw [hk0]; exact (Hzero.out h3).symm)
              have ho2 := hoth false
              have hb2 := hbs false
              clear hset hoth hbs hn hr hk0 Hone Hzero Hstar
              go_wp2_with fail
              go_region
              go_wp2_with fail
              go_roundw
              case rel => exact ⟨k + 1, by go_num, by omega, hs2, ho2, hb2.drew⟩
              case measure => simp [intOf]; omega
        · have hke : k = s.length + 1 := by omega
          have d2 : decide ((k : Int) ≤ (s.length : Int)) = false := decide_eq_false (by omega)
          have d2' : decide (k ≤ s.length) = false := decide_eq_false hks
          have hr2 : Hid (BoolRow wr g2 s.length (endB s (is.take (i + 1)))) := Lib.hid (by
            rw [HF'.out]
            exact boolRow_ext hn.out (fun j hj => by rw [decide_eq_true (show j < k by omega)]; rfl))
          have hgr := hn.out.1
          clear hn hr hke
          go_wp2_with fail
          go_roundw
          case rel => exact ⟨i + 1, g2, by go_num, by omega, rfl, hwg, hgr, hr2, hb⟩
          case measure => simp [intOf]; omega
    · have hke : i = is.length := by omega
      have d1 : decide ((i : Int) < (is.length : Int)) = false := decide_eq_false (by omega)
      have d1' : decide (i < is.length) = false := decide_eq_false hlt
      have hrow2 := hrow.out
      rw [hke, List.take_length] at hrow2
      have Hrow2 := Lib.hid hrow2
      clear hrow hrow2 hke
      go_wp2_with fail
      go_ret
      exact ⟨_, rfl, Hrow2.out, hb⟩
end Go.Proofs.YteppndkhmbhnkaaDoor
