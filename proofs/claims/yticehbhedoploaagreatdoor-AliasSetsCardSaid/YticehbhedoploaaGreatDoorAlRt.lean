/- alias: the reference's Set. -/
import Derived.Test.YticehbhedoploaaGreatDoorAlWu
import Derived.Laws.AppendOwnNone
namespace Go.Proofs.YticehbhedoploaaGreatDoor
open Go.RowKit
set_option linter.unusedVariables false

theorem span_at {α : Type} (f : α → Bool) : ∀ (a b : List α), (∀ x ∈ a, f x = true) → (∀ x, b.head? = some x → f x = false) → (a ++ b).takeWhile f = a ∧ (a ++ b).dropWhile f = b
  | [], b, _, hb => by
    cases b with
    | nil => simp
    | cons x b =>
      have := hb x rfl
      simp [this]
  | x :: a, b, ha, hb => by
    have h := ha x (by simp)
    obtain ⟨i1, i2⟩ := span_at f a b (fun y hy => ha y (by simp [hy])) hb
    simp [h, i1, i2]
theorem news_drop {w : World} {B b off : Nat} {Q : List Al} (h : AlAt w B (some ⟨b, off, none⟩) Q) (k : Nat) : ∀ j u, (alCells (Q.drop k))[j]? = some u → w.cell? (Addr.add ⟨b, off + k * 2, none⟩ j) = some u := by
  intro j u hu
  obtain ⟨i, hi, h2⟩ := alCells_any (Q.drop k) j u hu
  have hik : k + i < Q.length := by rw [List.length_drop] at hi; omega
  obtain ⟨b', off', e, _, q0, q1⟩ := alAt_cells h hik
  injection e with e; injection e with e1 e2; subst e1; subst e2
  rw [show (Addr.add ⟨b, off + k * 2, none⟩ j : Addr) = ⟨b, off + k * 2 + j, none⟩ from by simp [Addr.add]]
  rw [List.getElem_drop] at h2
  rcases h2 with ⟨rfl, rfl⟩ | ⟨rfl, rfl⟩
  · rw [show off + k * 2 + i * 2 = off + (k + i) * 2 from by omega]; exact q0
  · rw [show off + k * 2 + (i * 2 + 1) = off + (k + i) * 2 + 1 from by omega]; exact q1
theorem rset_fin {w w9 : World} {B n : Nat} {R : List Al × Nat} {v9 : Value} {a d S : List Al} {x : Al} (hR : R = (S, 0)) (hS : S = a ++ x :: d) (h : w9.ownsRow B 47 2 v9 n (alCells (a ++ [x]) ++ alCells d)) (hn : n = a.length + 1 + d.length) (hb : Below w.heap.size w w9) :
    RPost w R (.returned (.tuple #[v9, .int .i64 (0 : Nat)])) w9 := by
  have h2 : OwnA w9 B v9 S := by
    unfold OwnA
    rw [hS, show a ++ x :: d = (a ++ [x]) ++ d from by simp, alCells_append (a ++ [x]) d, List.length_append, List.length_append, List.length_singleton, ← hn]
    exact h
  obtain ⟨A, c, rfl, hA, _, _⟩ := ownA_at h2
  rw [hR]
  exact ⟨A, c, rfl, hA, hb⟩
set_option maxHeartbeats 8000000 in
set_option maxRecDepth 100000 in
theorem RSet_c (A : Option Addr) (l : List Al) (c : Nat) (s v : ByteArray) (w : World) (hA : AlAt w w.heap.size A l) (hl : l.length ≤ 1000000) (hz : ∀ x ∈ l, x.n.size ≤ 1000000000) (hs : s.size ≤ 1000000000) :
    Calls Tryz.prog 20 #[.slice A l.length c, .string s, .string v] w (RPost w (setR l s v)) := by
  have HV := Lib.hid (RValid_c A l c w hA hl hz)
  have HA := Lib.hid (fun (W : World) (hb : Below w.heap.size w W) => alAt_mono (alAt_below hA hb (Nat.le_refl _)) hb.size)
  have Hself := Lib.hid (fun (W : World) (hb : Below w.heap.size w W) (x : Nat) (hR : setR l s v = (l, x)) => show RPost w (setR l s v) (.returned (.tuple #[.slice A l.length c, .int .i64 (x : Nat)])) W from by
    rw [hR]; exact ⟨A, c, rfl, HA.out W hb, hb⟩)
  have HN := Lib.hid (fun (W : World) => rname_c s W hs)
  have HO := Lib.hid (fun (W : World) (hb : Below w.heap.size w W) => without_c A c l s W (HA.out W hb) hl)
  clear hA hz hs
  by_cases h0 : valL l = 0
  · have HV0 : Hid (Calls Tryz.prog 18 #[.slice A l.length c] w fun e w' => e = .returned (.int .i64 0) ∧ Below w.heap.size w w') := Lib.hid (by
      have := HV.out
      rw [h0] at this
      exact this)
    have hset : setR l s v = if nameB s = false then (l, 10) else if 4096 < v.size then (l, 3) else if 64 ≤ (withoutL l s).length then (l, 4) else (setL l s v, 0) := by unfold setR; exact if_pos h0
    have hL : Hid (setL l s v = (withoutL l s).takeWhile (fun x => ltB x.n s) ++ ⟨s, v⟩ :: (withoutL l s).dropWhile fun x => ltB x.n s) := Lib.hid rfl
    clear HV h0
    rcases hnm : nameB s with _ | _
    · rw [hnm] at HN
      have Hr := Lib.hid (fun W hb => Hself.out W hb 10 (by rw [hset, hnm]; rfl))
      clear Hself hset hnm HO hL
      generalize setR l s v = R at *
      go_enter Tryz.func20, Tryz.ntmps20
      go_wp2_with fail
      refine HV0.out.mono ?_
      rintro e w1 ⟨rfl, hb1⟩
      go_wp2_with fail
      refine (HN.out w1).mono ?_
      rintro e w2 ⟨rfl, rfl⟩
      go_wp2_with fail
      go_ret2
      exact Hr.out w1 hb1
    rw [hnm] at HN
    have hset2 : setR l s v = if 4096 < v.size then (l, 3) else if 64 ≤ (withoutL l s).length then (l, 4) else (setL l s v, 0) := by rw [hset, hnm]; rfl
    clear hset hnm
    by_cases hv : 4096 < v.size
    · have d1 : decide ((4096 : Int) < (v.size : Int)) = true := decide_eq_true (by omega)
      have Hr := Lib.hid (fun W hb => Hself.out W hb 3 (by rw [hset2, if_pos hv]))
      clear Hself hset2 HO hL hv
      generalize setR l s v = R at *
      go_enter Tryz.func20, Tryz.ntmps20
      go_wp2_with fail
      refine HV0.out.mono ?_
      rintro e w1 ⟨rfl, hb1⟩
      go_wp2_with fail
      refine (HN.out w1).mono ?_
      rintro e w2 ⟨rfl, rfl⟩
      go_wp2_with fail
      go_ret2
      exact Hr.out w1 hb1
    have d1 : decide ((4096 : Int) < (v.size : Int)) = false := decide_eq_false (by omega)
    have hset3 : setR l s v = if 64 ≤ (withoutL l s).length then (l, 4) else (setL l s v, 0) := by rw [hset2, if_neg hv]
    clear hset2 hv
    obtain ⟨Q, hQ⟩ : ∃ Q, Q = withoutL l s := ⟨_, rfl⟩
    rw [← hQ] at HO hset3 hL
    clear hQ
    by_cases h64 : 64 ≤ Q.length
    · have d2 : decide ((64 : Int) ≤ (Q.length : Int)) = true := decide_eq_true (by omega)
      have Hr := Lib.hid (fun W hb => Hself.out W hb 4 (by rw [hset3, if_pos h64]))
      clear Hself hset3 hL
      generalize setR l s v = R at *
      go_enter Tryz.func20, Tryz.ntmps20
      go_wp2_with fail
      refine HV0.out.mono ?_
      rintro e w1 ⟨rfl, hb1⟩
      go_wp2_with fail
      refine (HN.out w1).mono ?_
      rintro e w2 ⟨rfl, rfl⟩
      go_wp2_with fail
      refine (HO.out w1 hb1).mono ?_
      rintro e w3 ⟨v3, rfl, ho3, hb3⟩
      have hb4 := hb1.trans (hb3.mono hb1.size)
      obtain ⟨A3, c3, rfl, hA3, _, _⟩ := ownA_at ho3
      clear ho3 hA3
      go_wp2_with fail
      go_ret2
      exact Hr.out w3 hb4
    have d2 : decide ((64 : Int) ≤ (Q.length : Int)) = false := decide_eq_false (by omega)
    have hR : Hid (setR l s v = (setL l s v, 0)) := Lib.hid (by rw [hset3, if_neg h64])
    clear Hself hset3
    have hq64 : Q.length < 64 := by omega
    clear h64
    generalize setR l s v = R at *
    generalize setL l s v = S at *
    obtain ⟨i0, hi, hz0, hz1, hz2⟩ := al_info_parts alInfo
    go_enter Tryz.func20, Tryz.ntmps20
    go_wp2_with fail
    refine HV0.out.mono ?_
    rintro e w1 ⟨rfl, hb1⟩
    go_wp2_with fail
    refine (HN.out w1).mono ?_
    rintro e w2 ⟨rfl, rfl⟩
    go_wp2_with fail
    refine (HO.out w1 hb1).mono ?_
    rintro e w3 ⟨v3, rfl, ho3, hbx⟩
    have hb3 := hb1.trans (hbx.mono hb1.size)
    obtain ⟨A3, c3, rfl, hA3, hlc3, hcm3⟩ := ownA_at ho3
    have hnone : A3 = none → Q = [] ∧ c3 = 0 := by
      rintro rfl
      rcases ho3.2 with ⟨e1, h0⟩ | ⟨g, cap, cur, e1, _⟩
      · injection e1 with _ _ e3
        exact ⟨List.eq_nil_of_length_eq_zero (by omega), by omega⟩
      · cases e1
    have HA3 := Lib.hid (fun (V : World) (hb : Below w3.heap.size w3 V) => alAt_mono (alAt_below hA3 hb (Nat.le_refl _)) hb.size)
    have hsome : ∀ a, A3 = some a → ∃ b off, a = ⟨b, off, none⟩ := by
      rintro a rfl
      rcases ho3.2 with ⟨e1, h0⟩ | ⟨g, cap, cur, e1, _⟩
      · cases e1
      · injection e1 with e1
        injection e1 with e1
        exact ⟨g, 0, e1⟩
    have Hnone := Lib.hid hnone
    have Hsome := Lib.hid hsome
    clear ho3 hA3 hsome hnone hbx HA HO HN
    go_wp2_with fail
    go_loopw [10, 11] (fun ov iv wr => ∃ (k : Nat) (acc : List Al), k ≤ Q.length ∧ iv = .int .i64 k ∧ acc.length ≤ k ∧ Below w3.heap.size w3 wr ∧ Hid (OwnA wr w3.heap.size ov acc) ∧ Hid (acc = Q.take k) ∧ Hid (∀ x ∈ acc, ltB x.n s = true)) (fun _ iv _ => Q.length - (intOf iv).toNat)
    case atStart => exact ⟨0, [], by omega, by go_num, by simp, Below.refl _ _, Lib.hid (own_nilA _ _), Lib.hid rfl, Lib.hid (by simp)⟩
    case round =>
      obtain ⟨k, acc, hk, rfl, hac, hb, ho, htk, hall⟩ := hrel
      have hwr := hb.size
      by_cases hlt : k < Q.length
      · have i1 : (k : Int) < (Q.length : Int) := by omega
        obtain ⟨b, off, rfl, hbl, c0, c1⟩ := alAt_cells (HA3.out wr hb) hlt
        have hdr : Q.drop k = Q[k] :: Q.drop (k + 1) := List.drop_eq_getElem_cons hlt
        have Htk2 : Hid (acc ++ [Q[k]] = Q.take (k + 1)) := Lib.hid (by rw [htk.out, List.take_append_getElem])
        have Hfin0 : Hid (ltB (Q[k]).n s = false → S = acc ++ ⟨s, v⟩ :: Q.drop k) := Lib.hid (fun hx => by
          have := span_at (fun x : Al => ltB x.n s) acc (Q.drop k) hall.out (fun x hx2 => by rw [hdr] at hx2; injection hx2 with hx2; rw [← hx2]; exact hx)
          rw [htk.out, List.take_append_drop] at this
          rw [hL.out, this.1, this.2, htk.out])
        generalize Q[k] = x at *
        clear hdr
        rcases hxs : ltB x.n s with _ | _
        · have b1 : Op.bytesLess x.n.toList s.toList = false := hxs
          have Hfin := Lib.hid (Hfin0.out hxs)
          clear hxs Hfin0 Htk2 hL htk hall
          have hro2 : (wr.alloc (.cells #[.string s, .string v] 47)).ownsRow w3.heap.size 47 2 u10 acc.length (alCells acc) := World.ownsRow.alloc ho.out _
          have hnews2 := World.news_of_block (cs := #[.string s, .string v]) (t := 47) (fr := (0, 0)) (heap_alloc_new wr (.cells #[.string s, .string v] 47))
          have hb2 := hb.alloc hwr (.cells #[.string s, .string v] 47)
          have Hb2 := Lib.hid hb2
          clear hb2
          go_wp2_with (at_builtin; refine wpList_append_own _ rfl _ _ 22 rfl w3.heap.size 47 i0 _ 2 32 Tryz.underlying22 hi hz0 hz1 hz2 rfl (by decide) _ _ _ rfl hro2 ⟨wr.heap.size, 0, none⟩ 1 1 [.string s, .string v] rfl rfl hnews2 (by intro u hu; simp at hu; rcases hu with rfl | rfl <;> rfl) (by unfold maxLen; omega) (by omega) (by simp <;> omega) ?_)
          intro v8 w8 hown8 hgrow8 _
          have hb8 : Below w3.heap.size w3 w8 := Hb2.out.grown hgrow8 Hb2.out.size (fun q hq => (hro2.lt q hq).1)
          have Ho8 : Hid (w8.ownsRow w3.heap.size 47 2 v8 (acc.length + 1) (alCells (acc ++ [⟨s, v⟩]))) := Lib.hid (by
            rw [alCells_append]
            exact hown8)
          clear hown8 hgrow8 hro2 hnews2 Hb2
          have hw1 : (Q.length - k : Nat) = Q.length - k := rfl
          have Hnw := Lib.hid (news_drop (HA3.out w8 hb8) k)
          have Hon := Lib.hid (alCells_one (Q.drop k))
          have hdl : (alCells (Q.drop k)).length = (Q.length - k) * 2 := by rw [alCells_length, List.length_drop]
          go_wp2_with (at_builtin; refine wpList_append_own _ rfl _ _ 22 rfl w3.heap.size 47 i0 _ 2 32 Tryz.underlying22 hi hz0 hz1 hz2 rfl (by decide) _ _ _ rfl Ho8.out ⟨b, off + k * 2, none⟩ (Q.length - k) (c3 - k) (alCells (Q.drop k)) rfl hdl Hnw.out Hon.out (by unfold maxLen; omega) (by omega) hb8.size ?_)

          intro v9 w9 hown9 hgrow9 _
          have hb9 : Below w3.heap.size w3 w9 := hb8.grown hgrow9 hb8.size (fun q hq => (Ho8.out.lt q hq).1)
          have hfin : RPost w R (.returned (.tuple #[v9, .int .i64 (0 : Nat)])) w9 := rset_fin hR.out Hfin.out hown9 (by rw [List.length_drop] <;> omega) (hb3.trans (hb9.mono hb3.size))
          have Hf := Lib.hid hfin
          clear hfin hown9 hgrow9
          go_wp2_with fail
          go_ret2
          exact Hf.out
        · have b1 : Op.bytesLess x.n.toList s.toList = true := hxs
          have Hall2 : Hid (∀ y ∈ acc ++ [x], ltB y.n s = true) := Lib.hid (fun y hy => by
            rcases List.mem_append.1 hy with h | h
            · exact hall.out y h
            · rw [List.mem_singleton.1 h]; exact hxs)
          have hro : (wr.alloc (.cells #[.string x.n, .string x.v] 47)).ownsRow w3.heap.size 47 2 u10 acc.length (alCells acc) := World.ownsRow.alloc ho.out _
          have hnews := World.news_of_block (cs := #[.string x.n, .string x.v]) (t := 47) (fr := (0, 0)) (heap_alloc_new wr (.cells #[.string x.n, .string x.v] 47))
          have hb1' := hb.alloc hwr (.cells #[.string x.n, .string x.v] 47)
          have Hb1 := Lib.hid hb1'
          clear hxs Hfin0 htk hall hb1'
          go_wp2_with (at_builtin; refine wpList_append_own _ rfl _ _ 22 rfl w3.heap.size 47 i0 _ 2 32 Tryz.underlying22 hi hz0 hz1 hz2 rfl (by decide) _ _ _ rfl hro ⟨wr.heap.size, 0, none⟩ 1 1 [.string x.n, .string x.v] rfl rfl hnews (by intro u hu; simp at hu; rcases hu with rfl | rfl <;> rfl) (by unfold maxLen; omega) (by omega) (by simp <;> omega) ?_)
          intro v' w8 hown' hgrow _
          have hb8 : Below w3.heap.size w3 w8 := Hb1.out.grown hgrow Hb1.out.size (fun q hq => (hro.lt q hq).1)
          have Ho8 : Hid (OwnA w8 w3.heap.size v' (acc ++ [x])) := Lib.hid (by
            unfold OwnA
            rw [List.length_append, alCells_append]
            exact hown')
          clear hown' hgrow hro hnews Hb1
          go_wp2_with fail
          go_roundw
          case rel => exact ⟨k + 1, acc ++ [x], by omega, by go_num, by simp; omega, hb8, Ho8, Htk2, Hall2⟩
          case measure => simp [intOf] <;> omega
      · have hkk : k = Q.length := by omega
        have Hfin : Hid (S = acc ++ ⟨s, v⟩ :: []) := Lib.hid (by
          have := span_at (fun x : Al => ltB x.n s) acc [] hall.out (fun x hx2 => by cases hx2)
          rw [List.append_nil] at this
          have h2 : acc = Q := by rw [htk.out, hkk, List.take_length]
          rw [hL.out, ← h2, this.1, this.2])
        clear hL htk hall
        have i1 : decide ((k : Int) < (Q.length : Int)) = false := decide_eq_false (by omega)
        have hro2 : (wr.alloc (.cells #[.string s, .string v] 47)).ownsRow w3.heap.size 47 2 u10 acc.length (alCells acc) := World.ownsRow.alloc ho.out _
        have hnews2 := World.news_of_block (cs := #[.string s, .string v]) (t := 47) (fr := (0, 0)) (heap_alloc_new wr (.cells #[.string s, .string v] 47))
        have hb2 := hb.alloc hwr (.cells #[.string s, .string v] 47)
        have Hb2 := Lib.hid hb2
        clear hb2
        go_wp2_with (at_builtin; refine wpList_append_own _ rfl _ _ 22 rfl w3.heap.size 47 i0 _ 2 32 Tryz.underlying22 hi hz0 hz1 hz2 rfl (by decide) _ _ _ rfl hro2 ⟨wr.heap.size, 0, none⟩ 1 1 [.string s, .string v] rfl rfl hnews2 (by intro u hu; simp at hu; rcases hu with rfl | rfl <;> rfl) (by unfold maxLen; omega) (by omega) (by simp <;> omega) ?_)
        intro v8 w8 hown8 hgrow8 _
        have hb8 : Below w3.heap.size w3 w8 := Hb2.out.grown hgrow8 Hb2.out.size (fun q hq => (hro2.lt q hq).1)
        have Ho8 : Hid (w8.ownsRow w3.heap.size 47 2 v8 (acc.length + 1) (alCells (acc ++ [⟨s, v⟩]))) := Lib.hid (by
          rw [alCells_append]
          exact hown8)
        clear hown8 hgrow8 hro2 hnews2 Hb2
        have hkQ : (k : Int) ≤ (Q.length : Int) := by omega
        rcases A3 with _ | a3
        · obtain ⟨hq0, rfl⟩ := Hnone.out rfl
          have Hq0 := Lib.hid hq0
          go_wp2_with (at_builtin; refine wpList_append_own_none rfl _ _ 22 rfl w3.heap.size 47 i0 2 Tryz.underlying22 hi v8 _ _ rfl Ho8.out rfl ?_)
          have hfin : RPost w R (.returned (.tuple #[v8, .int .i64 (0 : Nat)])) w8 := rset_fin hR.out Hfin.out (by simpa [alCells] using Ho8.out) (by simp) (hb3.trans (hb8.mono hb3.size))
          have Hf := Lib.hid hfin
          clear hfin
          go_wp2_with fail
          go_ret2
          exact Hf.out
        · obtain ⟨b, off, rfl⟩ := Hsome.out a3 rfl
          rcases Nat.lt_or_ge Q.length c3 with hcc | hcc
          · have hcc2 : (Q.length : Int) < (c3 : Int) := by omega
            go_wp2_with (at_builtin; refine wpList_append_own _ rfl _ _ 22 rfl w3.heap.size 47 i0 _ 2 32 Tryz.underlying22 hi hz0 hz1 hz2 rfl (by decide) _ _ _ rfl Ho8.out _ _ _ [] rfl (by simp) (by intro j u h; simp at h) (by simp) (by unfold maxLen; omega) (by omega) hb8.size ?_)
            intro v9 w9 hown9 hgrow9 _
            have hb9 : Below w3.heap.size w3 w9 := hb8.grown hgrow9 hb8.size (fun q hq => (Ho8.out.lt q hq).1)
            have hfin : RPost w R (.returned (.tuple #[v9, .int .i64 (0 : Nat)])) w9 := rset_fin hR.out Hfin.out (by simpa [alCells] using hown9) (by simp) (hb3.trans (hb9.mono hb3.size))
            have Hf := Lib.hid hfin
            clear hfin hown9 hgrow9
            go_wp2_with fail
            go_ret2
            exact Hf.out
          · obtain rfl : c3 = Q.length := by omega
            go_wp2_with (at_builtin; refine wpList_append_own _ rfl _ _ 22 rfl w3.heap.size 47 i0 _ 2 32 Tryz.underlying22 hi hz0 hz1 hz2 rfl (by decide) _ _ _ rfl Ho8.out _ _ _ [] rfl (by simp) (by intro j u h; simp at h) (by simp) (by unfold maxLen; omega) (by omega) hb8.size ?_)
            intro v9 w9 hown9 hgrow9 _
            have hb9 : Below w3.heap.size w3 w9 := hb8.grown hgrow9 hb8.size (fun q hq => (Ho8.out.lt q hq).1)
            have hfin : RPost w R (.returned (.tuple #[v9, .int .i64 (0 : Nat)])) w9 := rset_fin hR.out Hfin.out (by simpa [alCells] using hown9) (by simp) (hb3.trans (hb9.mono hb3.size))
            have Hf := Lib.hid hfin
            clear hfin hown9 hgrow9
            go_wp2_with fail
            go_ret2
            exact Hf.out
  · obtain ⟨E, hE⟩ : ∃ E : Int, E = ((valL l : Nat) : Int) := ⟨_, rfl⟩
    have tE : (E != 0) = true := by rw [hE, bne_iff_ne]; omega
    have Hr := Lib.hid (fun W hb => Hself.out W hb (valL l) (by unfold setR; exact if_neg h0))
    have HV0 : Hid (Calls Tryz.prog 18 #[.slice A l.length c] w fun e w' => e = .returned (.int .i64 E) ∧ Below w.heap.size w w') := Lib.hid (by
      have := HV.out
      rw [← hE] at this
      exact this)
    rw [← hE] at Hr
    clear Hself HV hE h0 HN HO
    generalize setR l s v = R at *
    go_enter Tryz.func20, Tryz.ntmps20
    go_wp2_with fail
    refine HV0.out.mono ?_
    rintro e w1 ⟨rfl, hb1⟩
    go_wp2_with fail
    go_ret2
    exact Hr.out w1 hb1
end Go.Proofs.YticehbhedoploaaGreatDoor
