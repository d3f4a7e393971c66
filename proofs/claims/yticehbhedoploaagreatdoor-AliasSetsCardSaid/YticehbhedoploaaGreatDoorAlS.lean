/- alias: Set, Unset. -/
import Derived.Test.YticehbhedoploaaGreatDoorAlK
import Derived.Test.YticehbhedoploaaGreatDoorAlF
namespace Go.Proofs.YticehbhedoploaaGreatDoor
open Go.RowKit Go.Lib
set_option linter.unusedVariables false

theorem part_while {α : Type} (f : α → Bool) : ∀ (a b : List α), (∀ x ∈ a, f x = true) → (∀ x ∈ b, f x = false) → (a ++ b).takeWhile f = a ∧ (a ++ b).dropWhile f = b
  | [], [], _, _ => ⟨rfl, rfl⟩
  | [], y :: b, _, hb => by
    have := hb y (by simp)
    simp [this]
  | x :: a, b, ha, hb => by
    have ih := part_while f a b (fun y hy => ha y (by simp [hy])) hb
    have := ha x (by simp)
    simp [this, ih.1, ih.2]
theorem place_take {l : List Al} {s : ByteArray} {p : Nat} (h : PlaceOk l s p) : ∀ x ∈ l.take p, ltB x.n s = true := by
  intro x hx
  obtain ⟨k, hk, rfl⟩ := List.getElem_of_mem hx
  rw [List.length_take] at hk
  rw [List.getElem_take]
  exact h.2.1 k (by omega) (by omega)
theorem place_drop {l : List Al} {s : ByteArray} {p q : Nat} (h : PlaceOk l s p) (hq : p ≤ q) : ∀ x ∈ l.drop q, ltB x.n s = false := by
  intro x hx
  obtain ⟨k, hk, rfl⟩ := List.getElem_of_mem hx
  rw [List.length_drop] at hk
  rw [List.getElem_drop]
  exact h.2.2 _ (by omega) (by omega)
theorem without_no {l : List Al} {s : ByteArray} (h : hasL l s = false) : withoutL l s = l := by
  unfold withoutL
  rw [List.filter_eq_self]
  intro x hx
  unfold hasL at h
  rw [List.any_eq_false] at h
  simpa using h x hx
theorem split_at {l : List Al} {p : Nat} (h : p < l.length) : l = l.take p ++ l[p] :: l.drop (p + 1) := by
  rw [← List.drop_eq_getElem_cons h, List.take_append_drop]
theorem without_yes {l : List Al} {s : ByteArray} {p : Nat} (ha : Asc l) (hp : PlaceOk l s p) (h : p < l.length) (he : l[p].n = s) : withoutL l s = l.take p ++ l.drop (p + 1) := by
  have h1 : (l.take p).filter (fun x => !decide (x.n = s)) = l.take p := by
    rw [List.filter_eq_self]
    intro x hx
    simpa using ltB_ne (place_take hp x hx)
  have h2 : (l.drop (p + 1)).filter (fun x => !decide (x.n = s)) = l.drop (p + 1) := by
    rw [List.filter_eq_self]
    intro x hx
    obtain ⟨k, hk, rfl⟩ := List.getElem_of_mem hx
    rw [List.length_drop] at hk
    rw [List.getElem_drop]
    have := asc_get ha (i := p) (j := p + 1 + k) (by omega) (by omega)
    rw [he] at this
    simpa using (ltB_ne this).symm
  unfold withoutL
  rw [split_at h, List.filter_append, List.filter_cons_of_neg (by simpa using he)]
  rw [← split_at h, h1, h2]
theorem setL_no {l : List Al} {s v : ByteArray} {p : Nat} (hp : PlaceOk l s p) (h : hasL l s = false) : setL l s v = l.take p ++ ⟨s, v⟩ :: l.drop p := by
  unfold setL
  rw [without_no h]
  obtain ⟨h1, h2⟩ := part_while (fun x : Al => ltB x.n s) (l.take p) (l.drop p) (place_take hp) (place_drop hp (Nat.le_refl _))
  rw [List.take_append_drop] at h1 h2
  rw [h1, h2]
theorem setL_yes {l : List Al} {s v : ByteArray} {p : Nat} (ha : Asc l) (hp : PlaceOk l s p) (h : p < l.length) (he : l[p].n = s) : setL l s v = l.take p ++ ⟨s, v⟩ :: l.drop (p + 1) := by
  unfold setL
  rw [without_yes ha hp h he]
  obtain ⟨h1, h2⟩ := part_while (fun x : Al => ltB x.n s) (l.take p) (l.drop (p + 1)) (place_take hp) (place_drop hp (by omega))
  rw [h1, h2]
theorem ownA_row {w : World} {B n c : Nat} {a : Addr} {l : List Al} (h : OwnA w B (.slice (some a) n c) l) : ∃ g cur, a = ⟨g, 0, none⟩ ∧ n = l.length ∧ B ≤ g ∧ g < w.heap.size ∧ w.heap[g]? = some (.cells cur 47 (0, 0)) ∧ cur.size = c * 2 ∧ cur.toList.take (l.length * 2) = alCells l ∧ l.length ≤ c ∧ c ≤ 9223372036854775807 ∧ RowA w g l := by
  have h' := h
  rcases h.2 with ⟨h0, _⟩ | ⟨g, cap, cur, e, hg, hh, h2, h3, h4, h5⟩
  · cases h0
  · injection e with e1 e2 e3
    injection e1 with e1
    subst e1; subst e2; subst e3
    refine ⟨g, cur, rfl, rfl, hg, by rw [Array.getElem?_eq_some_iff] at hh; exact hh.1, hh, h4, h5, h2, h3, fun j u hu => ⟨?_, Lib.frozen_of_heap hh j⟩⟩
    have hj := (List.getElem?_eq_some_iff.1 hu).1
    rw [World.ownsRow.cellAt h' j (by rw [alCells_length] at hj; exact hj)]
    exact hu
theorem rowA_store {w : World} {g : Nat} {a b : List Al} {x : Al} {v : ByteArray} (h : RowA w g (a ++ x :: b)) : RowA (w.setCell ⟨g, a.length * 2 + 1, none⟩ (.string v)) g (a ++ ⟨x.n, v⟩ :: b) := by
  intro j u hu
  have e : ∀ y : Al, alCells (a ++ y :: b) = alCells a ++ (.string y.n :: .string y.v :: alCells b) := fun y => by rw [alCells_append]; rfl
  have hl := alCells_length a
  rw [World.frozen?_setCell]
  by_cases hj : j = a.length * 2 + 1
  · subst hj
    have h1 : (alCells (a ++ x :: b))[a.length * 2 + 1]? = some (.string x.v) := by
      rw [e, List.getElem?_append_right (by omega), hl, show a.length * 2 + 1 - a.length * 2 = 1 from by omega]
      exact rfl
    obtain ⟨q0, q1⟩ := h _ _ h1
    rw [e, List.getElem?_append_right (by omega), hl, show a.length * 2 + 1 - a.length * 2 = 1 from by omega] at hu
    simp at hu
    subst hu
    exact ⟨World.cell?_setCell_same _ _ _ q0, q1⟩
  · rw [World.cell?_setCell_other _ _ _ _ (by simp <;> omega)]
    refine h j u ?_
    rw [e] at hu ⊢
    by_cases h1 : j < a.length * 2
    · rw [List.getElem?_append_left (by omega)] at hu ⊢
      exact hu
    · rw [List.getElem?_append_right (by omega), hl] at hu ⊢
      obtain ⟨k, rfl⟩ : ∃ k, j = a.length * 2 + k := ⟨j - a.length * 2, by omega⟩
      rw [Nat.add_sub_cancel_left] at hu ⊢
      match k with
      | 0 => exact hu
      | 1 => exact absurd rfl hj
      | k + 2 => exact hu
theorem ins_c (B vb i : Nat) (v : Value) (l : List Al) (x : Al) (w : World) (ho : OwnA w B v l) (hx : w.heap[vb]? = some (.cells #[.string x.n, .string x.v] 47 (0, 0))) (hne : v.ownBlock ≠ some vb) (hl : l.length ≤ 1000000) (hi : i ≤ l.length) (hB : B ≤ w.heap.size) :
    Calls Tryz.prog 43 #[v, .int .i64 i, .slice (some ⟨vb, 0, none⟩) 1 1] w fun e w' => ∃ g c, e = .returned (.slice (some ⟨g, 0, none⟩) (l.length + 1) c) ∧ B ≤ g ∧ g < w'.heap.size ∧ RowA w' g (l.take i ++ x :: l.drop i) ∧ Below B w w' := by
  rcases Nat.lt_or_ge i l.length with h | h
  · obtain ⟨A, c, rfl, _, _, _⟩ := ownA_at ho
    rcases A with _ | a
    · exfalso
      rcases ho.2 with ⟨_, h0⟩ | ⟨g, cap, cur, e, _⟩
      · omega
      · cases e
    obtain ⟨g, cur, rfl, _, hBg, hgw, hh, hcs, htk, hnc, hcm, _⟩ := ownA_row ho
    rcases Nat.lt_or_ge c (l.length + 1) with hr | hr
    · refine (insGrow_c vb g l.length c i cur l x w hh rfl hcs htk hx hl h hnc hr).mono ?_
      rintro e w' ⟨G, rfl, h1, h2, h3⟩
      exact ⟨_, G, rfl, hB, h3, h1, h2.mono hB⟩
    · refine (insRoom_c B vb g l.length c i cur l x w hh rfl hcs htk hBg hx (fun e => hne (by rw [e]; rfl)) hl h hr hcm).mono ?_
      rintro e w' ⟨rfl, h1, h2, h3⟩
      exact ⟨g, c, rfl, hBg, by omega, h1, h2⟩
  · obtain rfl : i = l.length := by omega
    refine (insEnd_c B vb v l x w ho hx hne hl hB).mono ?_
    rintro e w' ⟨v', rfl, h1, h2⟩
    obtain ⟨A, c, rfl, _, _, _⟩ := ownA_at h1
    rcases A with _ | a
    · exfalso
      rcases h1.2 with ⟨_, h0⟩ | ⟨g, cap, cur, e, _⟩
      · simp at h0
      · cases e
    obtain ⟨g, cur, rfl, _, hBg, hgw, _, _, _, _, _, hr⟩ := ownA_row h1
    refine ⟨g, c, by simp, hBg, hgw, ?_, h2⟩
    rw [List.take_length, List.drop_length]
    exact hr
def SetPost (w : World) (R : List Al × Nat) (e : Ending) (w' : World) : Prop := ∃ A' c', e = .returned (.tuple #[.slice A' R.1.length c', .int .i64 (R.2 : Nat)]) ∧ AlAt w' w'.heap.size A' R.1 ∧ (A' = none → R.1 = [] ∧ c' = 0) ∧ Below w.heap.size w w'
set_option maxHeartbeats 2000000 in
set_option maxRecDepth 100000 in
theorem Set_c (A : Option Addr) (l : List Al) (c : Nat) (s v : ByteArray) (w : World) (hA : AlAt w w.heap.size A l) (hn : A = none → l = [] ∧ c = 0) (hl : l.length ≤ 1000000) :
    Calls Tryz.prog 19 #[.slice A l.length c, .string s, .string v] w (SetPost w (setR l s v)) := by
  have HV := Lib.hid (Valid_c A l c w hA hl)
  have HA := Lib.hid (fun (W : World) (hb : Below w.heap.size w W) => alAt_mono (alAt_below hA hb (Nat.le_refl _)) hb.size)
  have Hself := Lib.hid (fun (W : World) (hb : Below w.heap.size w W) (x : Nat) (hR : setR l s v = (l, x)) => show SetPost w (setR l s v) (.returned (.tuple #[.slice A l.length c, .int .i64 (x : Nat)])) W from by
    rw [hR]; exact ⟨A, c, rfl, HA.out W hb, hn, hb⟩)
  by_cases h0 : valL l = 0
  · obtain ⟨q1, q2, q3⟩ := valL_zero.1 h0
    have HV0 : Hid (Calls Tryz.prog 17 #[.slice A l.length c] w fun e w' => e = .returned (.int .i64 0) ∧ Below w.heap.size w w') := Lib.hid (by
      have := HV.out
      rw [h0] at this
      exact this)
    have HF := Lib.hid (fun (W : World) (hb : Below w.heap.size w W) => find_c A l c s W (HA.out W hb) hl q3)
    have HN := Lib.hid (fun W => isName_c s W)
    have HC := Lib.hid (fun (W : World) (hb : Below w.heap.size w W) => Clone_c A l c W (HA.out W hb) hn hl)
    have hset : setR l s v = if nameB s = false then (l, 10) else if 4096 < v.size then (l, 3) else if 64 ≤ (withoutL l s).length then (l, 4) else (setL l s v, 0) := by unfold setR; exact if_pos h0
    have Hset := Lib.hid hset
    clear HV hset h0 hA hn
    by_cases hnm : nameB s = false
    · have Hr := Lib.hid (fun W hb => Hself.out W hb 10 (by rw [Hset.out, if_pos hnm]))
      have HN1 : Hid (∀ W, Calls Tryz.prog 39 #[.string s] W fun e w' => e = .returned (.bool false) ∧ Below W.heap.size W w') := Lib.hid (fun W => by have := HN.out W; rw [hnm] at this; exact this)
      clear HN Hself Hset
      generalize setR l s v = R at *
      go_enter Tryz.func19, Tryz.ntmps19
      go_wp2_with fail
      refine HV0.out.mono ?_
      rintro e w1 ⟨rfl, hb1⟩
      go_wp2_with fail
      refine (HF.out w1 hb1).mono ?_
      rintro e w2 ⟨p, rfl, hp, hb2⟩
      have hb3 := hb1.trans (hb2.mono hb1.size)
      go_wp2_with fail
      refine (HN1.out w2).mono ?_
      rintro e w4 ⟨rfl, hb4⟩
      have hb5 := hb3.trans (hb4.mono hb3.size)
      go_wp2_with fail
      go_ret2
      exact Hr.out w4 hb5
    have hnm' : nameB s = true := by simpa using hnm
    have HN1 : Hid (∀ W, Calls Tryz.prog 39 #[.string s] W fun e w' => e = .returned (.bool true) ∧ Below W.heap.size W w') := Lib.hid (fun W => by have := HN.out W; rw [hnm'] at this; exact this)
    clear HN
    by_cases hbv : 4096 < v.size
    · have Hr := Lib.hid (fun W hb => Hself.out W hb 3 (by rw [Hset.out, if_neg hnm, if_pos hbv]))
      have d2 : decide ((4096 : Int) < (v.size : Int)) = true := decide_eq_true (by omega)
      have HF0 := HF
      clear Hself Hset HF
      generalize setR l s v = R at *
      clear hnm hnm'
      go_enter Tryz.func19, Tryz.ntmps19
      go_wp2_with fail
      refine HV0.out.mono ?_
      rintro e w1 ⟨rfl, hb1⟩
      go_wp2_with fail
      refine (HF0.out w1 hb1).mono ?_
      rintro e w2 ⟨p, rfl, hp, hb2⟩
      have hb3 := hb1.trans (hb2.mono hb1.size)
      go_wp2_with fail
      refine (HN1.out w2).mono ?_
      rintro e w4 ⟨rfl, hb4⟩
      have hb5 := hb3.trans (hb4.mono hb3.size)
      go_wp2_with fail
      go_ret2
      exact Hr.out w4 hb5
    have d2 : decide ((4096 : Int) < (v.size : Int)) = false := decide_eq_false (by omega)
    have hset2 : setR l s v = if 64 ≤ (withoutL l s).length then (l, 4) else (setL l s v, 0) := by rw [Hset.out, if_neg hnm, if_neg hbv]
    by_cases hhas : hasL l s = true
    · have HF0 : Hid (∀ (W : World), Below w.heap.size w W → Calls Tryz.prog 41 #[.slice A l.length c, .string s] W fun e w' => ∃ p : Nat, e = .returned (.tuple #[.int .i64 p, .bool true]) ∧ PlaceOk l s p ∧ Below W.heap.size W w') := Lib.hid (fun W hb => by have := HF.out W hb; rw [hhas] at this; exact this)
      have Hfin : Hid (∀ p, PlaceOk l s p → ∃ h : p < l.length, setR l s v = (l.take p ++ ⟨(l[p]'h).n, v⟩ :: l.drop (p + 1), 0)) := Lib.hid (fun p hp => by
        obtain ⟨h, he⟩ := (has_at q3 hp).1 hhas
        refine ⟨h, ?_⟩
        have hwl : (withoutL l s).length < 64 := by
          rw [without_yes q3 hp h he, List.length_append, List.length_take, List.length_drop]
          omega
        rw [hset2, if_neg (by omega), setL_yes q3 hp h he, he])
      clear Hself Hset HF hset2 hhas q3 q2
      generalize setR l s v = R at *
      clear hnm hnm' hbv
      go_enter Tryz.func19, Tryz.ntmps19
      go_wp2_with fail
      refine HV0.out.mono ?_
      rintro e w1 ⟨rfl, hb1⟩
      go_wp2_with fail
      refine (HF0.out w1 hb1).mono ?_
      rintro e w2 ⟨p, rfl, hp, hb2⟩
      have hb3 := hb1.trans (hb2.mono hb1.size)
      go_wp2_with fail
      refine (HN1.out w2).mono ?_
      rintro e w4 ⟨rfl, hb4⟩
      have hb5 := hb3.trans (hb4.mono hb3.size)
      obtain ⟨hpl, hR⟩ := Hfin.out p hp
      go_wp2_with fail
      refine (HC.out w4 hb5).mono ?_
      rintro e w6 ⟨v6, rfl, ho6, hb6⟩
      have hb7 := hb5.trans (hb6.mono hb5.size)
      have ho6' : OwnA w6 w.heap.size v6 l := ⟨ho6.1, by
        rcases ho6.2 with h | ⟨g, cap, cur, e1, hg, h⟩
        · exact .inl h
        · exact .inr ⟨g, cap, cur, e1, Nat.le_trans hb5.size hg, h⟩⟩
      obtain ⟨A6, c6, rfl, _, hlc6, _⟩ := ownA_at ho6'
      rcases A6 with _ | a6
      · exfalso
        rcases ho6'.2 with ⟨_, h0⟩ | ⟨g, cap, cur, e1, _⟩
        · omega
        · cases e1
      obtain ⟨g, cur, rfl, _, hBg, hgw, _, _, _, _, _, hrow⟩ := ownA_row ho6'
      have hsp := split_at hpl
      have hrow2 : RowA w6 g (l.take p ++ l[p] :: l.drop (p + 1)) := by rw [← hsp]; exact hrow
      have hlt : (l.take p).length = p := by rw [List.length_take]; omega
      have hst := rowA_store (v := v) hrow2
      rw [hlt] at hst
      obtain ⟨_, q1'⟩ := alCells_get l p hpl
      obtain ⟨cc, cf⟩ := hrow _ _ q1'
      have hfin : SetPost w R (.returned (.tuple #[.slice (some ⟨g, 0, none⟩) l.length c6, .int .i64 (0 : Nat)])) (w6.setCell ⟨g, p * 2 + 1, none⟩ (.string v)) := by
        rw [hR]
        refine ⟨some ⟨g, 0, none⟩, c6, ?_, rowA_at hst (by rw [World.size_setCell]; exact hgw), (by intro h; cases h), hb7.setCell (p := ⟨g, p * 2 + 1, none⟩) hBg _⟩
        have : (l.take p ++ (⟨(l[p]).n, v⟩ : Al) :: l.drop (p + 1)).length = l.length := by
          rw [List.length_append, hlt, List.length_cons, List.length_drop]
          omega
        rw [this]
      have Hf := Lib.hid hfin
      have hpi : (p : Int) < (l.length : Int) := by omega
      clear hfin hst hrow2 hrow hsp hR ho6 ho6' q1' HC Hfin HA hlt
      generalize l[p] = y at *
      go_wp2_with fail
      go_ret2
      exact Hf.out
    · have hhas' : hasL l s = false := by simpa using hhas
      have HF0 : Hid (∀ (W : World), Below w.heap.size w W → Calls Tryz.prog 41 #[.slice A l.length c, .string s] W fun e w' => ∃ p : Nat, e = .returned (.tuple #[.int .i64 p, .bool false]) ∧ PlaceOk l s p ∧ Below W.heap.size W w') := Lib.hid (fun W hb => by have := HF.out W hb; rw [hhas'] at this; exact this)
      have hwo := without_no hhas'
      by_cases h64 : l.length = 64
      · have Hr := Lib.hid (fun W hb => Hself.out W hb 4 (by rw [hset2, if_pos (by rw [hwo]; omega)]))
        have d3 : ((l.length : Int) == 64) = true := by rw [beq_iff_eq]; omega
        clear Hself Hset HF hset2 hhas hhas' q3 q2 hwo
        generalize setR l s v = R at *
        clear hnm hnm' hbv h64
        go_enter Tryz.func19, Tryz.ntmps19
        go_wp2_with fail
        refine HV0.out.mono ?_
        rintro e w1 ⟨rfl, hb1⟩
        go_wp2_with fail
        refine (HF0.out w1 hb1).mono ?_
        rintro e w2 ⟨p, rfl, hp, hb2⟩
        have hb3 := hb1.trans (hb2.mono hb1.size)
        go_wp2_with fail
        refine (HN1.out w2).mono ?_
        rintro e w4 ⟨rfl, hb4⟩
        have hb5 := hb3.trans (hb4.mono hb3.size)
        go_wp2_with fail
        go_ret2
        exact Hr.out w4 hb5
      have d3 : ((l.length : Int) == 64) = false := by rw [beq_eq_false_iff_ne]; omega
      have Hfin : Hid (∀ p, PlaceOk l s p → setR l s v = (l.take p ++ ⟨s, v⟩ :: l.drop p, 0)) := Lib.hid (fun p hp => by
        rw [hset2, if_neg (by rw [hwo]; omega), setL_no hp hhas'])
      have Hlen : Hid (l.length ≤ 64) := Lib.hid q1
      clear Hself Hset HF hset2 hhas hhas' q3 q2 q1 hwo
      generalize setR l s v = R at *
      clear hnm hnm' hbv h64
      go_enter Tryz.func19, Tryz.ntmps19
      go_wp2_with fail
      refine HV0.out.mono ?_
      rintro e w1 ⟨rfl, hb1⟩
      go_wp2_with fail
      refine (HF0.out w1 hb1).mono ?_
      rintro e w2 ⟨p, rfl, hp, hb2⟩
      have hb3 := hb1.trans (hb2.mono hb1.size)
      go_wp2_with fail
      refine (HN1.out w2).mono ?_
      rintro e w4 ⟨rfl, hb4⟩
      have hb5 := hb3.trans (hb4.mono hb3.size)
      have hR := Hfin.out p hp
      go_wp2_with fail
      refine (HC.out w4 hb5).mono ?_
      rintro e w6 ⟨v6, rfl, ho6, hb6⟩
      have hb7 := hb5.trans (hb6.mono hb5.size)
      have ho6' : OwnA w6 w.heap.size v6 l := ⟨ho6.1, by
        rcases ho6.2 with h | ⟨g, cap, cur, e1, hg, h⟩
        · exact .inl h
        · exact .inr ⟨g, cap, cur, e1, Nat.le_trans hb5.size hg, h⟩⟩
      have hlt6 := ho6'.lt
      have hins := ins_c w.heap.size w6.heap.size p v6 l ⟨s, ⟨#[]⟩⟩ (w6.alloc (.cells #[.string s, .string ⟨#[]⟩] 47)) (World.ownsRow.alloc ho6' _) (heap_alloc_new _ _) (fun e => by have := (hlt6 _ e).2; omega) hl hp.1 (by have := hb7.size; simp; omega)
      have Hins := Lib.hid hins
      have hb8 := hb7.alloc hb7.size (.cells #[.string s, .string ⟨#[]⟩] 47)
      clear hins HC Hfin HA ho6 ho6' hlt6
      have hp1 := hp.1
      go_wp2_with fail
      refine Hins.out.mono ?_
      rintro e w9 ⟨g, c9, rfl, hBg, hgw, hrow, hb9⟩
      have hb10 := hb8.trans hb9
      have hlt : (l.take p).length = p := by rw [List.length_take]; omega
      have hst := rowA_store (v := v) hrow
      rw [hlt] at hst
      have hcel : (alCells (l.take p ++ (⟨s, ⟨#[]⟩⟩ : Al) :: l.drop p))[p * 2 + 1]? = some (.string ⟨#[]⟩) := by
        rw [alCells_append, List.getElem?_append_right (by rw [alCells_length, hlt]; omega), alCells_length, hlt, show p * 2 + 1 - p * 2 = 1 from by omega]; rfl
      obtain ⟨cc, cf⟩ := hrow _ _ hcel
      have hfin : SetPost w R (.returned (.tuple #[.slice (some ⟨g, 0, none⟩) (l.length + 1) c9, .int .i64 (0 : Nat)])) (w9.setCell ⟨g, p * 2 + 1, none⟩ (.string v)) := by
        rw [hR]
        refine ⟨some ⟨g, 0, none⟩, c9, ?_, rowA_at hst (by rw [World.size_setCell]; exact hgw), (by intro h; cases h), hb10.setCell (p := ⟨g, p * 2 + 1, none⟩) hBg _⟩
        have : (l.take p ++ (⟨s, v⟩ : Al) :: l.drop p).length = l.length + 1 := by
          rw [List.length_append, hlt, List.length_cons, List.length_drop]
          omega
        rw [this]
      have Hf := Lib.hid hfin
      have hpi : (p : Int) < (l.length : Int) + 1 := by omega
      clear hfin hst hrow hR hcel hlt
      go_wp2_with fail
      go_ret2
      exact Hf.out
  · obtain ⟨E, hE⟩ : ∃ E : Int, E = ((valL l : Nat) : Int) := ⟨_, rfl⟩
    have tE : (E != 0) = true := by rw [hE, bne_iff_ne]; omega
    have Hr := Lib.hid (fun W hb => Hself.out W hb (valL l) (by unfold setR; exact if_neg h0))
    have HV0 : Hid (Calls Tryz.prog 17 #[.slice A l.length c] w fun e w' => e = .returned (.int .i64 E) ∧ Below w.heap.size w w') := Lib.hid (by
      have := HV.out
      rw [← hE] at this
      exact this)
    rw [← hE] at Hr
    clear Hself HV hE h0
    generalize setR l s v = R at *
    go_enter Tryz.func19, Tryz.ntmps19
    go_wp2_with fail
    refine HV0.out.mono ?_
    rintro e w1 ⟨rfl, hb1⟩
    go_wp2_with fail
    go_ret2
    exact Hr.out w1 hb1
set_option maxHeartbeats 2000000 in
set_option maxRecDepth 100000 in
theorem Unset_c (A : Option Addr) (l : List Al) (c : Nat) (s : ByteArray) (w : World) (hA : AlAt w w.heap.size A l) (hn : A = none → l = [] ∧ c = 0) (hl : l.length ≤ 1000000) :
    Calls Tryz.prog 22 #[.slice A l.length c, .string s] w (SetPost w (unsetR l s)) := by
  have HV := Lib.hid (Valid_c A l c w hA hl)
  have HA := Lib.hid (fun (W : World) (hb : Below w.heap.size w W) => alAt_mono (alAt_below hA hb (Nat.le_refl _)) hb.size)
  have Hself := Lib.hid (fun (W : World) (hb : Below w.heap.size w W) (x : Nat) (hR : unsetR l s = (l, x)) => show SetPost w (unsetR l s) (.returned (.tuple #[.slice A l.length c, .int .i64 (x : Nat)])) W from by
    rw [hR]; exact ⟨A, c, rfl, HA.out W hb, hn, hb⟩)
  by_cases h0 : valL l = 0
  · obtain ⟨q1, q2, q3⟩ := valL_zero.1 h0
    have HV0 : Hid (Calls Tryz.prog 17 #[.slice A l.length c] w fun e w' => e = .returned (.int .i64 0) ∧ Below w.heap.size w w') := Lib.hid (by
      have := HV.out
      rw [h0] at this
      exact this)
    have HF := Lib.hid (fun (W : World) (hb : Below w.heap.size w W) => find_c A l c s W (HA.out W hb) hl q3)
    have HC := Lib.hid (fun (W : World) (hb : Below w.heap.size w W) => Clone_c A l c W (HA.out W hb) hn hl)
    have hset : unsetR l s = if hasL l s = true then (withoutL l s, 0) else (l, 8) := by unfold unsetR; exact if_pos h0
    clear HV h0 hA hn
    by_cases hhas : hasL l s = true
    · have HF0 : Hid (∀ (W : World), Below w.heap.size w W → Calls Tryz.prog 41 #[.slice A l.length c, .string s] W fun e w' => ∃ p : Nat, e = .returned (.tuple #[.int .i64 p, .bool true]) ∧ PlaceOk l s p ∧ Below W.heap.size W w') := Lib.hid (fun W hb => by have := HF.out W hb; rw [hhas] at this; exact this)
      have Hfin : Hid (∀ p, PlaceOk l s p → p < l.length ∧ unsetR l s = (l.take p ++ l.drop (p + 1), 0)) := Lib.hid (fun p hp => by
        obtain ⟨h, he⟩ := (has_at q3 hp).1 hhas
        exact ⟨h, by rw [hset, if_pos hhas, without_yes q3 hp h he]⟩)
      clear Hself hset HF hhas q3 q2
      generalize unsetR l s = R at *
      go_enter Tryz.func22, Tryz.ntmps22
      go_wp2_with fail
      refine HV0.out.mono ?_
      rintro e w1 ⟨rfl, hb1⟩
      go_wp2_with fail
      refine (HF0.out w1 hb1).mono ?_
      rintro e w2 ⟨p, rfl, hp, hb2⟩
      have hb3 := hb1.trans (hb2.mono hb1.size)
      obtain ⟨hpl, hR⟩ := Hfin.out p hp
      go_wp2_with fail
      refine (HC.out w2 hb3).mono ?_
      rintro e w6 ⟨v6, rfl, ho6, hb6⟩
      have hb7 := hb3.trans (hb6.mono hb3.size)
      have ho6' : OwnA w6 w.heap.size v6 l := ⟨ho6.1, by
        rcases ho6.2 with h | ⟨g, cap, cur, e1, hg, h⟩
        · exact .inl h
        · exact .inr ⟨g, cap, cur, e1, Nat.le_trans hb3.size hg, h⟩⟩
      obtain ⟨A6, c6, rfl, _, hlc6, _⟩ := ownA_at ho6'
      rcases A6 with _ | a6
      · exfalso
        rcases ho6'.2 with ⟨_, h0⟩ | ⟨g, cap, cur, e1, _⟩
        · omega
        · cases e1
      obtain ⟨g, cur, rfl, _, hBg, hgw, hh, hcs, htk, hnc, hcm, _⟩ := ownA_row ho6'
      have Hdel := Lib.hid (Delete_c w.heap.size g l.length c6 p cur l w6 hh rfl hcs htk hBg hl hpl hnc hcm)
      clear ho6 ho6' HC Hfin HA htk
      have hw1 : IntKind.i64.wrap ((p : Int) + 1) = (p : Int) + 1 := by rw [IntKind.wrap_i64]; omega
      go_wp2_with fail
      refine Hdel.out.mono ?_
      rintro e w9 ⟨rfl, hrow, hb9, hsz9⟩
      have hfin : SetPost w R (.returned (.tuple #[.slice (some ⟨g, 0, none⟩) (l.length - 1) c6, .int .i64 (0 : Nat)])) w9 := by
        rw [hR]
        refine ⟨some ⟨g, 0, none⟩, c6, ?_, rowA_at hrow (by omega), (by intro h; cases h), hb7.trans hb9⟩
        have : (l.take p ++ l.drop (p + 1)).length = l.length - 1 := by
          rw [List.length_append, List.length_take, List.length_drop]
          omega
        rw [this]
      have Hf := Lib.hid hfin
      clear hfin hrow hR
      go_wp2_with fail
      go_ret2
      exact Hf.out
    · have hhas' : hasL l s = false := by simpa using hhas
      have HF0 : Hid (∀ (W : World), Below w.heap.size w W → Calls Tryz.prog 41 #[.slice A l.length c, .string s] W fun e w' => ∃ p : Nat, e = .returned (.tuple #[.int .i64 p, .bool false]) ∧ PlaceOk l s p ∧ Below W.heap.size W w') := Lib.hid (fun W hb => by have := HF.out W hb; rw [hhas'] at this; exact this)
      have Hr := Lib.hid (fun W hb => Hself.out W hb 8 (by rw [hset, if_neg hhas]))
      clear Hself hset HF hhas hhas' q3 q2
      generalize unsetR l s = R at *
      go_enter Tryz.func22, Tryz.ntmps22
      go_wp2_with fail
      refine HV0.out.mono ?_
      rintro e w1 ⟨rfl, hb1⟩
      go_wp2_with fail
      refine (HF0.out w1 hb1).mono ?_
      rintro e w2 ⟨p, rfl, hp, hb2⟩
      have hb3 := hb1.trans (hb2.mono hb1.size)
      go_wp2_with fail
      go_ret2
      exact Hr.out w2 hb3
  · obtain ⟨E, hE⟩ : ∃ E : Int, E = ((valL l : Nat) : Int) := ⟨_, rfl⟩
    have tE : (E != 0) = true := by rw [hE, bne_iff_ne]; omega
    have Hr := Lib.hid (fun W hb => Hself.out W hb (valL l) (by unfold unsetR; exact if_neg h0))
    have HV0 : Hid (Calls Tryz.prog 17 #[.slice A l.length c] w fun e w' => e = .returned (.int .i64 E) ∧ Below w.heap.size w w') := Lib.hid (by
      have := HV.out
      rw [← hE] at this
      exact this)
    rw [← hE] at Hr
    clear Hself HV hE h0
    generalize unsetR l s = R at *
    go_enter Tryz.func22, Tryz.ntmps22
    go_wp2_with fail
    refine HV0.out.mono ?_
    rintro e w1 ⟨rfl, hb1⟩
    go_wp2_with fail
    go_ret2
    exact Hr.out w1 hb1
end Go.Proofs.YticehbhedoploaaGreatDoor
