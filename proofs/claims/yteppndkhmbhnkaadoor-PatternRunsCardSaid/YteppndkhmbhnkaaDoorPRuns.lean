/- pattern: Runs. -/
import Derived.Test.YteppndkhmbhnkaaDoorPBr
namespace Go.Proofs.YteppndkhmbhnkaaDoor
open Go.RowKit
set_option linter.unusedVariables false

def itR (x : It) : List Rn := if x.k = 3 then [⟨[42], 0⟩] else if x.k = 2 then [⟨[63], 0⟩] else if x.k = 4 then brR x else [⟨x.t, 1⟩]
def runsL (is : List It) : List Rn := if is.any inv = true then [] else is.flatMap itR
theorem brR_length (x : It) (h : x.set.length ≤ 1000000) : (brR x).length ≤ 3000005 := by
  unfold brR
  rw [List.length_append, List.length_append, List.length_append, spR_length]
  by_cases h1 : x.neg = true <;> by_cases h2 : x.set = [] <;> simp [h1, h2] <;> omega
theorem rn_one (u : Value) (cs : List Rn) (h : u ∈ rnCells cs) : u.oneCell' = true := by
  unfold rnCells at h
  rw [List.mem_flatMap] at h
  obtain ⟨r, _, h⟩ := h
  simp at h
  rcases h with rfl | rfl <;> rfl
theorem rn_news {w : World} {B b off c : Nat} {v : Value} {rs : List Rn} (h : OwnR w B v rs) (hv : v = .slice (some ⟨b, off, none⟩) rs.length c) : ∀ j u, (rnCells rs)[j]? = some u → w.cell? ((⟨b, off, none⟩ : Addr).add j) = some u := by
  intro j u hu
  have hj : j < rs.length * 2 := by
    have := (List.getElem?_eq_some_iff.1 hu).1
    rw [rnCells_length] at this
    exact this
  subst hv
  have hh := h
  rcases h.2 with ⟨h0, _⟩ | ⟨g, cap, cur, h0, r⟩
  · cases h0
  · injection h0 with h0
    injection h0 with h0
    injection h0 with e1 e2
    subst e1; subst e2
    rw [show (⟨b, 0, none⟩ : Addr).add j = ⟨b, j, none⟩ from by simp [Addr.add] <;> omega]
    rw [World.ownsRow.cellAt hh j (by omega)]
    exact hu
set_option maxHeartbeats 16000000 in
set_option maxRecDepth 100000 in
theorem runs_c (A : Option Addr) (is : List It) (c : Nat) (w : World) (hp : PatAt w w.heap.size A is) (ho : ∀ x ∈ is, ItOk x) (hl : is.length ≤ 1000000) :
    Calls Tryd.prog 21 #[.slice A is.length c] w fun e w' => ∃ v, e = .returned v ∧ OwnR w' w.heap.size v (runsL is) ∧ Below w.heap.size w w' := by
  obtain ⟨i0, hi, hz0, hz1, hz2⟩ := info_parts runInfo
  have hval := Lib.hid (valid_c A is c w hp ho hl)
  have HP := Lib.hid hp
  rcases hany : is.any inv with _ | _
  rotate_left
  · have hR : runsL is = [] := by unfold runsL; rw [if_pos hany]
    rw [hR]; rw [hany] at hval
    clear hp ho hany hR HP
    go_enter Tryd.func21, Tryd.ntmps21
    go_wp2_with fail
    refine hval.out.mono ?_
    rintro e w7 ⟨rfl, m7⟩
    go_wp2_with fail
    go_ret
    exact ⟨_, rfl, ⟨rfl, .inl ⟨rfl, rfl⟩⟩, m7⟩
  have HR : Hid (runsL is = [] ++ (is.drop 0).flatMap itR) := Lib.hid (by unfold runsL; rw [if_neg (by rw [hany]; decide)]; rfl)
  rw [hany] at hval
  generalize runsL is = R at *
  have Ho := Lib.hid ho
  clear hp hany ho
  go_enter Tryd.func21, Tryd.ntmps21
  go_wp2_with fail
  refine hval.out.mono ?_
  rintro e w0 ⟨rfl, m0⟩
  clear hval
  go_wp2_with fail
  go_loopw [3, 11] (fun lv iv wr => ∃ (k : Nat) (acc : List Rn), iv = .int .i64 k ∧ k ≤ is.length ∧ acc.length ≤ 3000005 * k ∧ Hid (OwnR wr w.heap.size lv acc) ∧ Below w.heap.size w wr ∧ Hid (R = acc ++ (is.drop k).flatMap itR)) (fun _ iv _ => is.length - (intOf iv).toNat)
  case atStart => exact ⟨0, [], rfl, by omega, by simp, Lib.hid ⟨rfl, .inl ⟨rfl, rfl⟩⟩, m0, HR⟩
  case round =>
    obtain ⟨k, acc, rfl, hk, hac, ho, hb, hx⟩ := hrel
    clear HR m0
    have hwr := hb.size
    by_cases hlt : k < is.length
    · have d1 : decide ((k : Int) < (is.length : Int)) = true := decide_eq_true (by omega)
      have d1' : decide (k < is.length) = true := decide_eq_true hlt
      obtain ⟨b, off, rfl, hbl, hcell⟩ : ∃ b off, A = some ⟨b, off, none⟩ ∧ b < w.heap.size ∧ ∀ k (h : k < is.length), ∃ sv, w.cell? ⟨b, off + k * 4, none⟩ = some (.int .i64 (is[k]'h).k) ∧ w.cell? ⟨b, off + k * 4 + 1, none⟩ = some (.string ⟨(is[k]'h).t.toArray⟩) ∧ w.cell? ⟨b, off + k * 4 + 2, none⟩ = some (.bool (is[k]'h).neg) ∧ w.cell? ⟨b, off + k * 4 + 3, none⟩ = some sv ∧ SpAt w w.heap.size sv (is[k]'h).set := by
        rcases HP.out with rfl | h
        · simp at hlt
        · exact h
      obtain ⟨sv, y0, y1, y2, y3, ys⟩ := hcell k hlt
      obtain ⟨n9, A9, c9, rfl⟩ : ∃ n9 A9 c9, sv = .slice A9 n9 c9 := by obtain ⟨A9, c9, e9, _⟩ := ys; exact ⟨_, A9, c9, e9⟩
      have x0 := (hb.cell (p := ⟨b, off + k * 4, none⟩) hbl).trans y0
      have x1 := (hb.cell (p := ⟨b, off + k * 4 + 1, none⟩) hbl).trans y1
      have x2 := (hb.cell (p := ⟨b, off + k * 4 + 2, none⟩) hbl).trans y2
      have x3 := (hb.cell (p := ⟨b, off + k * 4 + 3, none⟩) hbl).trans y3
      have hok := Ho.out (is[k]'hlt) (List.getElem_mem hlt)
      have hx2 := hx.out
      rw [List.drop_eq_getElem_cons hlt, List.flatMap_cons] at hx2
      have Hbr : Hid (∀ W, Below w.heap.size w W → Calls Tryd.prog 57 #[.agg #[.int .i64 (is[k]'hlt).k, .string ⟨(is[k]'hlt).t.toArray⟩, .bool (is[k]'hlt).neg, .slice A9 n9 c9]] W fun e w' => ∃ v, e = .returned v ∧ OwnR w' W.heap.size v (brR (is[k]'hlt)) ∧ Below W.heap.size W w') := Lib.hid (fun W hW => bracketRuns_c (is[k]'hlt) _ W (spAt_mono (spAt_below ys hW (Nat.le_refl _)) hW.size) hok)
      have hbl2 := brR_length (is[k]'hlt) hok.1.1
      generalize is[k]'hlt = q at *
      obtain ⟨qk, qt, qn, qs⟩ := q
      simp only at x0 x1 x2 x3 Hbr
      have hkI : (k : Int) < (is.length : Int) := by omega
      have hpb := heap_alloc_new wr (.cells #[.int .i64 qk, .string ⟨qt.toArray⟩, .bool qn, .slice A9 n9 c9] 43)
      have hba := hb.alloc hwr (.cells #[.int .i64 qk, .string ⟨qt.toArray⟩, .bool qn, .slice A9 n9 c9] 43)
      have hoa : OwnR (wr.alloc (.cells #[.int .i64 qk, .string ⟨qt.toArray⟩, .bool qn, .slice A9 n9 c9] 43)) w.heap.size u3 acc := World.ownsRow.alloc ho.out _
      have Hpb := Lib.hid hpb; have Hba := Lib.hid hba; have Hoa := Lib.hid hoa; have Hx2 := Lib.hid hx2
      clear hpb hba hoa hx hx2 hcell y0 y1 y2 y3 ys hok
      by_cases h3 : qk = 3
      · subst h3
        have hit : itR ⟨3, qt, qn, qs⟩ = [⟨[42], 0⟩] := by unfold itR; simp
        rw [hit] at Hx2
        have hw3 := Hba.out.size
        have hr5 : ((wr.alloc (.cells #[.int .i64 3, .string ⟨qt.toArray⟩, .bool qn, .slice A9 n9 c9] 43)).alloc (.cells #[.string { data := #[42] }, .int .i64 0] 66)).ownsRow w.heap.size 66 2 u3 acc.length (rnCells acc) := World.ownsRow.alloc Hoa.out _
        have hb5 := Hba.out.alloc hw3 (.cells #[.string { data := #[42] }, .int .i64 0] 66)
        have hnews := World.news_of_block (cs := #[.string { data := #[42] }, .int .i64 0]) (t := 66) (fr := (0, 0)) (heap_alloc_new (wr.alloc (.cells #[.int .i64 3, .string ⟨qt.toArray⟩, .bool qn, .slice A9 n9 c9] 43)) (.cells #[.string { data := #[42] }, .int .i64 0] 66))
        rw [show (wr.alloc (.cells #[.int .i64 3, .string ⟨qt.toArray⟩, .bool qn, .slice A9 n9 c9] 43)).heap.size = wr.heap.size + 1 from by simp] at hnews
        have Hb5 := Lib.hid hb5
        clear hb5 Hbr hit

        go_wp2_with (at_builtin; refine wpList_append_own _ rfl _ _ 22 rfl w.heap.size 66 i0 _ 2 24 Tryd.underlying22 hi hz0 hz1 hz2 rfl (by decide) _ _ _ rfl hr5 ⟨wr.heap.size + 1, 0, none⟩ 1 1 [.string { data := #[42] }, .int .i64 0] rfl rfl hnews (by intro u hu; simp at hu; rcases hu with rfl | rfl <;> rfl) (by unfold maxLen; omega) (by omega) (by have := Hb5.out.size; exact this) ?_)
        intro v' w8 hown' hgrow _
        have hb8 : Below w.heap.size w w8 := Hb5.out.grown hgrow Hb5.out.size (fun q hq => (hr5.lt q hq).1)
        have Ho8 : Hid (OwnR w8 w.heap.size v' (acc ++ [⟨[42], 0⟩])) := Lib.hid (by
          unfold OwnR
          rw [List.length_append, rnCells_append]
          exact hown')
        have Hx3 : Hid (R = (acc ++ [⟨[42], 0⟩]) ++ (is.drop (k + 1)).flatMap itR) := Lib.hid (by rw [Hx2.out]; simp only [List.append_assoc])
        clear hown' hgrow hr5 Hb5 hnews Hx2
        go_wp2_with fail
        go_roundw
        case rel => exact ⟨k + 1, _, by go_num, by omega, by simp; omega, Ho8, hb8, Hx3⟩
        case measure => simp [intOf]; omega
      by_cases h2 : qk = 2
      · subst h2
        have hit : itR ⟨2, qt, qn, qs⟩ = [⟨[63], 0⟩] := by unfold itR; simp
        rw [hit] at Hx2
        have hw3 := Hba.out.size
        have hr5 : ((wr.alloc (.cells #[.int .i64 2, .string ⟨qt.toArray⟩, .bool qn, .slice A9 n9 c9] 43)).alloc (.cells #[.string { data := #[63] }, .int .i64 0] 66)).ownsRow w.heap.size 66 2 u3 acc.length (rnCells acc) := World.ownsRow.alloc Hoa.out _
        have hb5 := Hba.out.alloc hw3 (.cells #[.string { data := #[63] }, .int .i64 0] 66)
        have hnews := World.news_of_block (cs := #[.string { data := #[63] }, .int .i64 0]) (t := 66) (fr := (0, 0)) (heap_alloc_new (wr.alloc (.cells #[.int .i64 2, .string ⟨qt.toArray⟩, .bool qn, .slice A9 n9 c9] 43)) (.cells #[.string { data := #[63] }, .int .i64 0] 66))
        rw [show (wr.alloc (.cells #[.int .i64 2, .string ⟨qt.toArray⟩, .bool qn, .slice A9 n9 c9] 43)).heap.size = wr.heap.size + 1 from by simp] at hnews
        have Hb5 := Lib.hid hb5
        clear hb5 Hbr hit

        go_wp2_with (at_builtin; refine wpList_append_own _ rfl _ _ 22 rfl w.heap.size 66 i0 _ 2 24 Tryd.underlying22 hi hz0 hz1 hz2 rfl (by decide) _ _ _ rfl hr5 ⟨wr.heap.size + 1, 0, none⟩ 1 1 [.string { data := #[63] }, .int .i64 0] rfl rfl hnews (by intro u hu; simp at hu; rcases hu with rfl | rfl <;> rfl) (by unfold maxLen; omega) (by omega) (by have := Hb5.out.size; exact this) ?_)
        intro v' w8 hown' hgrow _
        have hb8 : Below w.heap.size w w8 := Hb5.out.grown hgrow Hb5.out.size (fun q hq => (hr5.lt q hq).1)
        have Ho8 : Hid (OwnR w8 w.heap.size v' (acc ++ [⟨[63], 0⟩])) := Lib.hid (by
          unfold OwnR
          rw [List.length_append, rnCells_append]
          exact hown')
        have Hx3 : Hid (R = (acc ++ [⟨[63], 0⟩]) ++ (is.drop (k + 1)).flatMap itR) := Lib.hid (by rw [Hx2.out]; simp only [List.append_assoc])
        clear hown' hgrow hr5 Hb5 hnews Hx2
        go_wp2_with fail
        go_roundw
        case rel => exact ⟨k + 1, _, by go_num, by omega, by simp; omega, Ho8, hb8, Hx3⟩
        case measure => simp [intOf]; omega
      by_cases h4 : qk = 4
      · subst h4
        have hit : itR ⟨4, qt, qn, qs⟩ = brR ⟨4, qt, qn, qs⟩ := by unfold itR; simp
        rw [hit] at Hx2
        have hne : 0 < (brR ⟨4, qt, qn, qs⟩).length := by unfold brR; simp
        clear hit h2 h3
        generalize brR ⟨4, qt, qn, qs⟩ = BR at *
        go_wp2_with fail
        refine (Hbr.out _ Hba.out).mono ?_
        rintro e w5 ⟨v5, rfl, o5, m5⟩
        have o5' := o5
        obtain ⟨g5, cap5, rfl⟩ : ∃ g5 cap5, v5 = .slice (some ⟨g5, 0, none⟩) BR.length cap5 := by
          rcases o5.2 with ⟨_, h0⟩ | ⟨g5, cap5, cur5, h0, _⟩
          · omega
          · exact ⟨g5, cap5, h0⟩
        have hnews := rn_news o5' rfl
        have hr5 : w5.ownsRow w.heap.size 66 2 u3 acc.length (rnCells acc) := ownR_kept Hoa.out (fun k hk => m5.block k hk)
        have Hb5 := Lib.hid (Hba.out.trans (m5.mono Hba.out.size))
        have Hlen := Lib.hid (rnCells_length BR)
        have Hone := Lib.hid (fun u hu => rn_one u BR hu)
        have Hnews := Lib.hid hnews
        clear o5 o5' hnews Hbr Hoa m5
        go_wp2_with (at_builtin; refine wpList_append_own _ rfl _ _ 22 rfl w.heap.size 66 i0 _ 2 24 Tryd.underlying22 hi hz0 hz1 hz2 rfl (by decide) _ _ _ rfl hr5 ⟨g5, 0, none⟩ BR.length cap5 (rnCells BR) rfl Hlen.out Hnews.out Hone.out (by unfold maxLen; omega) (by omega) Hb5.out.size ?_)
        intro v' w8 hown' hgrow _
        have hb8 : Below w.heap.size w w8 := Hb5.out.grown hgrow Hb5.out.size (fun q hq => (hr5.lt q hq).1)
        have Ho8 : Hid (OwnR w8 w.heap.size v' (acc ++ BR)) := Lib.hid (by
          unfold OwnR
          rw [List.length_append, rnCells_append]
          exact hown')
        have Hx3 : Hid (R = (acc ++ BR) ++ (is.drop (k + 1)).flatMap itR) := Lib.hid (by rw [Hx2.out]; simp only [List.append_assoc])
        clear hown' hgrow hr5 Hb5 Hnews Hx2 Hone Hlen
        go_wp2_with fail
        go_roundw
        case rel => exact ⟨k + 1, _, by go_num, by omega, by rw [List.length_append]; omega, Ho8, hb8, Hx3⟩
        case measure => simp [intOf]; omega
      · have hit : itR ⟨qk, qt, qn, qs⟩ = [⟨qt, 1⟩] := by unfold itR; simp [h2, h3, h4]
        have e2 : (qk == 2) = false := by rw [beq_eq_false_iff_ne]; exact h2
        have e3 : (qk == 3) = false := by rw [beq_eq_false_iff_ne]; exact h3
        have e4 : (qk == 4) = false := by rw [beq_eq_false_iff_ne]; exact h4
        rw [hit] at Hx2
        have hw3 := Hba.out.size
        have hr5 : ((wr.alloc (.cells #[.int .i64 qk, .string ⟨qt.toArray⟩, .bool qn, .slice A9 n9 c9] 43)).alloc (.cells #[.string ⟨qt.toArray⟩, .int .i64 1] 66)).ownsRow w.heap.size 66 2 u3 acc.length (rnCells acc) := World.ownsRow.alloc Hoa.out _
        have hb5 := Hba.out.alloc hw3 (.cells #[.string ⟨qt.toArray⟩, .int .i64 1] 66)
        have hnews := World.news_of_block (cs := #[.string ⟨qt.toArray⟩, .int .i64 1]) (t := 66) (fr := (0, 0)) (heap_alloc_new (wr.alloc (.cells #[.int .i64 qk, .string ⟨qt.toArray⟩, .bool qn, .slice A9 n9 c9] 43)) (.cells #[.string ⟨qt.toArray⟩, .int .i64 1] 66))
        rw [show (wr.alloc (.cells #[.int .i64 qk, .string ⟨qt.toArray⟩, .bool qn, .slice A9 n9 c9] 43)).heap.size = wr.heap.size + 1 from by simp] at hnews
        have Hb5 := Lib.hid hb5
        clear hb5 Hbr hit

        go_wp2_with (at_builtin; refine wpList_append_own _ rfl _ _ 22 rfl w.heap.size 66 i0 _ 2 24 Tryd.underlying22 hi hz0 hz1 hz2 rfl (by decide) _ _ _ rfl hr5 ⟨wr.heap.size + 1, 0, none⟩ 1 1 [.string ⟨qt.toArray⟩, .int .i64 1] rfl rfl hnews (by intro u hu; simp at hu; rcases hu with rfl | rfl <;> rfl) (by unfold maxLen; omega) (by omega) (by have := Hb5.out.size; exact this) ?_)
        intro v' w8 hown' hgrow _
        have hb8 : Below w.heap.size w w8 := Hb5.out.grown hgrow Hb5.out.size (fun q hq => (hr5.lt q hq).1)
        have Ho8 : Hid (OwnR w8 w.heap.size v' (acc ++ [⟨qt, 1⟩])) := Lib.hid (by
          unfold OwnR
          rw [List.length_append, rnCells_append]
          exact hown')
        have Hx3 : Hid (R = (acc ++ [⟨qt, 1⟩]) ++ (is.drop (k + 1)).flatMap itR) := Lib.hid (by rw [Hx2.out]; simp only [List.append_assoc])
        clear hown' hgrow hr5 Hb5 hnews Hx2
        go_wp2_with fail
        go_roundw
        case rel => exact ⟨k + 1, _, by go_num, by omega, by simp; omega, Ho8, hb8, Hx3⟩
        case measure => simp [intOf]; omega
    · have hke : k = is.length := by omega
      have d1 : decide ((k : Int) < (is.length : Int)) = false := decide_eq_false (by omega)
      have d1' : decide (k < is.length) = false := decide_eq_false hlt
      have hR2 : R = acc := by rw [hx.out, hke, List.drop_length]; simp
      subst hR2
      clear hx hke
      go_wp2_with fail
      go_ret
      exact ⟨_, rfl, ho.out, hb⟩
end Go.Proofs.YteppndkhmbhnkaaDoor
