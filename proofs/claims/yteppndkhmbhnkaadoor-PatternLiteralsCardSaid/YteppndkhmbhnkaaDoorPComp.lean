/- pattern: Compile. -/
import Derived.Test.YteppndkhmbhnkaaDoorPItem
import Derived.Test.YteppndkhmbhnkaaDoorPChars
namespace Go.Proofs.YteppndkhmbhnkaaDoor
open Go.RowKit
set_option linter.unusedVariables false

/-- The items from p on. -/
def compL (cs : List Ch) (p : Nat) : List It := if h : p < cs.length then (itemL cs p).1 :: compL cs (p + (itemL cs p).2) else []
termination_by cs.length - p
decreasing_by have := itemL_pos cs p h; omega
theorem compL_end (cs : List Ch) (p : Nat) (h : cs.length ≤ p) : compL cs p = [] := by rw [compL, dif_neg (by omega)]
theorem compL_at (cs : List Ch) (p : Nat) (h : p < cs.length) : compL cs p = (itemL cs p).1 :: compL cs (p + (itemL cs p).2) := by rw [compL, dif_pos h]
theorem compL_len (cs : List Ch) (p : Nat) : (compL cs p).length ≤ cs.length - p := by
  induction hn : cs.length - p using Nat.strongRecOn generalizing p with
  | ind n ih =>
    by_cases h : p < cs.length
    · rw [compL_at cs p h, List.length_cons]
      have h1 := itemL_pos cs p h
      have := ih (cs.length - (p + (itemL cs p).2)) (by omega) (p + (itemL cs p).2) rfl
      omega
    · rw [compL_end cs p (by omega)]
      exact Nat.zero_le _
def compileL (rs : List Rn) : List It := compL (charsOf rs) 0

theorem row_kept {w w' : World} {B : Nat} {e : TypeId} {size n : Nat} {v : Value} {xs : List Value} (h : w.ownsRow B e size v n xs) (hk : ∀ k, k < w.heap.size → w'.heap[k]? = w.heap[k]?) : w'.ownsRow B e size v n xs := by
  refine ⟨h.1, ?_⟩
  rcases h.2 with h0 | ⟨g, cap, cur, rfl, hg, hh, r⟩
  · exact .inl h0
  · exact .inr ⟨g, cap, cur, rfl, hg, (hk g (lt_of_block hh)).trans hh, r⟩
def itCells : List It → List Value → List Value
  | x :: is, v :: vs => .int .i64 x.k :: .string ⟨x.t.toArray⟩ :: .bool x.neg :: v :: itCells is vs
  | _, _ => []
theorem itCells_append : ∀ (is : List It) (vs : List Value) (is' : List It) (vs' : List Value), vs.length = is.length → itCells (is ++ is') (vs ++ vs') = itCells is vs ++ itCells is' vs'
  | [], [], is', vs', _ => rfl
  | [], _ :: _, _, _, h => by simp at h
  | _ :: _, [], _, _, h => by simp at h
  | x :: is, v :: vs, is', vs', h => by
    rw [List.cons_append, List.cons_append, itCells, itCells, itCells_append is vs is' vs' (by simpa using h)]
    rfl
theorem itCells_length : ∀ (is : List It) (vs : List Value), vs.length = is.length → (itCells is vs).length = is.length * 4
  | [], [], _ => rfl
  | [], _ :: _, h => by simp at h
  | _ :: _, [], h => by simp at h
  | x :: is, v :: vs, h => by
    rw [itCells]
    simp only [List.length_cons]
    rw [itCells_length is vs (by simpa using h)]
    omega
theorem itCells_get : ∀ (is : List It) (vs : List Value) (k : Nat) (h : k < is.length) (h' : k < vs.length), (itCells is vs)[k * 4]? = some (.int .i64 (is[k]'h).k) ∧ (itCells is vs)[k * 4 + 1]? = some (.string ⟨(is[k]'h).t.toArray⟩) ∧ (itCells is vs)[k * 4 + 2]? = some (.bool (is[k]'h).neg) ∧ (itCells is vs)[k * 4 + 3]? = some (vs[k]'h')
  | [], _, k, h, _ => by simp at h
  | _ :: _, [], k, _, h' => by simp at h'
  | x :: is, v :: vs, 0, h, h' => ⟨rfl, rfl, rfl, rfl⟩
  | x :: is, v :: vs, k + 1, h, h' => by
    have ih := itCells_get is vs k (by simpa using h) (by simpa using h')
    rw [itCells, show (k + 1) * 4 = k * 4 + 1 + 1 + 1 + 1 from by omega, show k * 4 + 1 + 1 + 1 + 1 + 1 = (k * 4 + 1) + 1 + 1 + 1 + 1 from rfl, show k * 4 + 1 + 1 + 1 + 1 + 2 = (k * 4 + 2) + 1 + 1 + 1 + 1 from rfl, show k * 4 + 1 + 1 + 1 + 1 + 3 = (k * 4 + 3) + 1 + 1 + 1 + 1 from rfl]
    simp only [List.getElem?_cons_succ, List.getElem_cons_succ]
    exact ih
/-- A slice of fresh items. -/
def OwnIt (w : World) (B : Nat) (v : Value) (is : List It) : Prop :=
  ∃ vs : List Value, vs.length = is.length ∧ w.ownsRow B 43 4 v is.length (itCells is vs) ∧ ∀ i (h : i < is.length) (h' : i < vs.length), OwnSp w B (vs[i]'h') (is[i]'h).set
theorem patInfo : (Tryd.prog.info? 43).map (fun i => (i.zero, i.size, i.bytes)) = some (some (.agg #[.int .i64 0, .string { data := #[] }, .bool false, .slice none 0 0]), 4, 56) := by kernel_rfl
theorem ownSp_grown {w w' : World} {B : Nat} {v : Value} {l : List (Nat × Nat)} {row : Option Nat} (h : OwnSp w B v l) (hg : w.grownBy w' row) (hn : ∀ D cs fr, w.heap[D]? = some (.cells cs 68 fr) → row ≠ some D) : OwnSp w' B v l := by
  refine ⟨h.1, ?_⟩
  rcases h.2 with h0 | ⟨g, cap, cur, rfl, hb, hh, r⟩
  · exact .inl h0
  · exact .inr ⟨g, cap, cur, rfl, hb, (hg.block g (lt_of_block hh) (Ne.symm (hn g cur _ hh))).trans hh, r⟩
theorem ownSp_kept {w w' : World} {B : Nat} {v : Value} {l : List (Nat × Nat)} (h : OwnSp w B v l) (hk : ∀ k, k < w.heap.size → w'.heap[k]? = w.heap[k]?) : OwnSp w' B v l := row_kept h hk
theorem ownIt_nil (w : World) (B : Nat) : OwnIt w B (.slice none 0 0) [] := ⟨[], rfl, ⟨rfl, .inl ⟨rfl, rfl⟩⟩, fun i h => by simp at h⟩

set_option maxHeartbeats 16000000 in
set_option maxRecDepth 100000 in
theorem compile_c (A : Option Addr) (rs : List Rn) (c : Nat) (w : World) (hA : RunAt w w.heap.size A rs) (hn : rs.length ≤ 1000000) (hT : (charsOf rs).length ≤ 1000000) (hL : ∀ r ∈ rs, r.t.length ≤ 1000000) (hE : Env w w.heap.size) :
    Calls Tryd.prog 18 #[.slice A rs.length c] w fun e w' => ∃ v, e = .returned v ∧ OwnIt w' w.heap.size v (compileL rs) ∧ Below w.heap.size w w' := by
  obtain ⟨i0, hi, hz0, hz1, hz2⟩ := info_parts patInfo
  have hch := Lib.hid (characters_c A rs c w hA hn hT hL)
  have hR : compileL rs = [] ++ compL (charsOf rs) 0 := rfl
  have hcl := compL_len (charsOf rs) 0
  generalize compileL rs = R at *
  generalize charsOf rs = cs at *
  have HR := Lib.hid hR
  clear hR hA hL hn
  go_enter Tryd.func18, Tryd.ntmps18
  go_wp2_with fail
  refine hch.out.mono ?_
  rintro e w1 ⟨v1, rfl, o1, m1⟩
  obtain ⟨A1, c1, rfl, hA1, hc1, hm1⟩ := ownCh_at o1
  have hw1 := m1.size
  have hme := Lib.hid (memberEnds_c A1 cs c1 w1 hA1 hT hc1 hm1 (env_mono (env_below hE m1 (Nat.le_refl _)) hw1))
  clear hch o1
  go_wp2_with fail
  refine hme.out.mono ?_
  rintro e w2 ⟨g, rfl, hEn, m2⟩
  have hw2 := m2.size
  have hA2 := chAt_mono (chAt_below hA1 m2 (Nat.le_refl _)) hw2
  have hE2 := env_mono (env_below hE (m1.trans (m2.mono hw1)) (Nat.le_refl _)) (Nat.le_trans hw1 hw2)
  have m12 := m1.trans (m2.mono hw1)
  clear hme hA1 hE m1 m2
  have HEn := Lib.hid hEn; have HA2 := Lib.hid hA2; have HE2 := Lib.hid hE2
  clear hEn hA2 hE2
  go_wp2_with fail
  go_loopw [5, 6] (fun lv iv wr => ∃ (p : Nat) (acc : List It), iv = .int .i64 p ∧ p ≤ cs.length ∧ acc.length ≤ p ∧ Hid (OwnIt wr w2.heap.size lv acc) ∧ Below w2.heap.size w2 wr ∧ Hid (R = acc ++ compL cs p)) (fun _ iv _ => cs.length - (intOf iv).toNat)
  case atStart => exact ⟨0, [], rfl, by omega, by simp, Lib.hid (ownIt_nil _ _), Below.refl _ _, HR⟩
  case round =>
    obtain ⟨p, acc, rfl, hp, hacc, ho, hb, hx⟩ := hrel
    clear HR
    have hwr := hb.size
    by_cases hlt : p < cs.length
    · have d1 : decide ((p : Int) < (cs.length : Int)) = true := decide_eq_true (by omega)
      have d1' : decide (p < cs.length) = true := decide_eq_true hlt
      have hit := Lib.hid (itemAt_c A1 cs c1 p g wr (chAt_mono (chAt_below HA2.out hb (Nat.le_refl _)) hwr) hT hc1 hm1 (env_mono (env_below HE2.out hb (Nat.le_refl _)) hwr) hlt (endsAt_below HEn.out hb HEn.out.1))
      have hpos := itemL_pos cs p hlt
      have hx2 := hx.out
      rw [compL_at cs p hlt] at hx2
      generalize itemL cs p = X at *
      obtain ⟨x, sz⟩ := X
      obtain ⟨xk, xt, xn, xs⟩ := x
      simp only at hpos hx2
      have Hx2 := Lib.hid hx2
      clear hx hx2
      go_wp2_with fail
      refine hit.out.mono ?_
      rintro e w5 ⟨v5, rfl, o5, m5⟩
      clear hit
      simp only at o5
      obtain ⟨A5, n5, c5, rfl⟩ := ownSp_form o5
      unfold strB
      obtain ⟨vs, hvl, hrow, hsets⟩ := ho.out
      have hb5 := hb.trans (m5.mono hwr)
      have hw5 := m5.size
      have hk5 : ∀ k, k < wr.heap.size → w5.heap[k]? = wr.heap[k]? := fun k hk => m5.block k hk
      have hk7 : ∀ k, k < wr.heap.size → ((w5.alloc (.cells #[.int .i64 xk, .string ⟨xt.toArray⟩, .bool xn, .slice A5 n5 c5] 43)).alloc (.cells #[.int .i64 xk, .string ⟨xt.toArray⟩, .bool xn, .slice A5 n5 c5] 43)).heap[k]? = wr.heap[k]? := fun k hk => by
        rw [Lib.alloc_old _ _ _ (by simp; omega), Lib.alloc_old _ _ _ (by omega)]; exact hk5 k hk
      have hrow7 := row_kept hrow hk7
      have o7 : OwnSp ((w5.alloc (.cells #[.int .i64 xk, .string ⟨xt.toArray⟩, .bool xn, .slice A5 n5 c5] 43)).alloc (.cells #[.int .i64 xk, .string ⟨xt.toArray⟩, .bool xn, .slice A5 n5 c5] 43)) w2.heap.size (.slice A5 n5 c5) xs := ownSp_mono (World.ownsRow.alloc (World.ownsRow.alloc o5 _) _) hwr
      have hb7 : Below w2.heap.size w2 ((w5.alloc (.cells #[.int .i64 xk, .string ⟨xt.toArray⟩, .bool xn, .slice A5 n5 c5] 43)).alloc (.cells #[.int .i64 xk, .string ⟨xt.toArray⟩, .bool xn, .slice A5 n5 c5] 43)) := (hb5.alloc hb5.size _).alloc (by simp; omega) _
      have hnews := World.news_of_block (cs := #[.int .i64 xk, .string ⟨xt.toArray⟩, .bool xn, .slice A5 n5 c5]) (t := 43) (fr := (0, 0)) (heap_alloc_new (w5.alloc (.cells #[.int .i64 xk, .string ⟨xt.toArray⟩, .bool xn, .slice A5 n5 c5] 43)) (.cells #[.int .i64 xk, .string ⟨xt.toArray⟩, .bool xn, .slice A5 n5 c5] 43))
      rw [show (w5.alloc (.cells #[.int .i64 xk, .string ⟨xt.toArray⟩, .bool xn, .slice A5 n5 c5] 43)).heap.size = w5.heap.size + 1 from by simp] at hnews
      have Hsets := Lib.hid hsets; have Ho7 := Lib.hid o7; have Hk7 := Lib.hid hk7; have Hvl := Lib.hid hvl
      have hsp0 : (spCells xs).length = (spCells xs).length := rfl
      clear hsets o5 o7 hk5 hk7 hrow ho m5 hb5 hvl hsp0
      go_wp2_with (at_builtin; refine wpList_append_own _ rfl _ _ 26 rfl w2.heap.size 43 i0 _ 4 56 Tryd.underlying26 hi hz0 hz1 hz2 rfl (by decide) _ _ _ rfl hrow7 ⟨w5.heap.size + 1, 0, none⟩ 1 1 [.int .i64 xk, .string ⟨xt.toArray⟩, .bool xn, .slice A5 n5 c5] rfl rfl hnews (by intro u hu; simp at hu; rcases hu with rfl | rfl | rfl | rfl <;> rfl) (by unfold maxLen; omega) (by omega) (by simp; omega) ?_)
      intro v' w8 hown' hgrow _
      have hb8 : Below w2.heap.size w2 w8 := hb7.grown hgrow (by simp; omega) (fun q hq => (hrow7.lt q hq).1)
      have hne : ∀ D cs2 fr, ((w5.alloc (.cells #[.int .i64 xk, .string ⟨xt.toArray⟩, .bool xn, .slice A5 n5 c5] 43)).alloc (.cells #[.int .i64 xk, .string ⟨xt.toArray⟩, .bool xn, .slice A5 n5 c5] 43)).heap[D]? = some (.cells cs2 68 fr) → u5.ownBlock ≠ some D := fun D cs2 fr h => own_ne hrow7 h (by decide)
      have Ho8 : Hid (OwnIt w8 w2.heap.size v' (acc ++ [⟨xk, xt, xn, xs⟩])) := Lib.hid (by
        refine ⟨vs ++ [.slice A5 n5 c5], by simp [Hvl.out], ?_, fun i h h' => ?_⟩
        · rw [itCells_append _ _ _ _ Hvl.out, List.length_append]
          exact hown'
        · by_cases hia : i < acc.length
          · have hiv : i < vs.length := by rw [Hvl.out]; exact hia
            rw [List.getElem_append_left hia, List.getElem_append_left hiv]
            exact ownSp_grown (ownSp_kept (Hsets.out i hia hiv) Hk7.out) hgrow hne
          · have hie : i = acc.length := by simp at h; omega
            subst hie
            have e1 : (acc ++ [(⟨xk, xt, xn, xs⟩ : It)])[acc.length]'h = ⟨xk, xt, xn, xs⟩ := by simp
            have e2 : (vs ++ [Value.slice A5 n5 c5])[acc.length]'h' = .slice A5 n5 c5 := by
              rw [List.getElem_append_right (by rw [Hvl.out]; exact Nat.le_refl _)]
              simp
            rw [e1, e2]
            exact ownSp_grown Ho7.out hgrow hne)
      have Hx3 : Hid (R = (acc ++ [⟨xk, xt, xn, xs⟩]) ++ compL cs (p + sz)) := Lib.hid (by rw [Hx2.out, List.append_assoc]; rfl)
      clear hown' hgrow hrow7 hb7 hnews Hsets Ho7 Hk7 hne Hx2
      go_wp2_with fail
      go_roundw
      case rel => exact ⟨p + sz, _, by go_num, by omega, by simp; omega, Ho8, hb8, Hx3⟩
      case measure => simp [intOf]; omega
    · have hpe : p = cs.length := by omega
      have d1 : decide ((p : Int) < (cs.length : Int)) = false := decide_eq_false (by omega)
      have d1' : decide (p < cs.length) = false := decide_eq_false hlt
      have hR2 : R = acc := by rw [hx.out, compL_end cs p (by omega), List.append_nil]
      subst hR2
      have hww : w.heap.size ≤ w2.heap.size := m12.size
      have hfin : OwnIt wr w.heap.size u5 R := by
        obtain ⟨vs, h1, h2, h3⟩ := ho.out
        refine ⟨vs, h1, ?_, fun i h h' => ownSp_mono (h3 i h h') hww⟩
        refine ⟨h2.1, ?_⟩
        rcases h2.2 with h0 | ⟨g2, cap, cur, rfl, hg, r⟩
        · exact .inl h0
        · exact .inr ⟨g2, cap, cur, rfl, by omega, r⟩
      clear hx hpe ho
      go_wp2_with fail
      go_ret
      exact ⟨_, rfl, hfin, m12.trans (hb.mono hww)⟩
end Go.Proofs.YteppndkhmbhnkaaDoor
