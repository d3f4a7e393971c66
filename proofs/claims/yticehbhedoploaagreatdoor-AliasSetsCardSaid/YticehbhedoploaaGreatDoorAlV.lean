/- alias: isName, Valid, Get. -/
import Derived.Test.YticehbhedoploaaGreatDoorAlA
import Derived.BigQuiet
import Derived.WalkSmall
namespace Go.Proofs.YticehbhedoploaaGreatDoor
open Go.RowKit
set_option linter.unusedVariables false

set_option maxHeartbeats 2000000 in
set_option maxRecDepth 100000 in
theorem isName_c (s : ByteArray) (w : World) : Calls Tryz.prog 39 #[.string s] w fun e w' => e = .returned (.bool (nameB s)) ∧ Below w.heap.size w w' := by
  unfold nameB
  by_cases h : s.size ≤ 32
  · have d1 : decide ((s.size : Int) ≤ 32) = true := decide_eq_true (by omega)
    rw [decide_eq_true h, Bool.true_and]
    have HP := Lib.hid (fun W => Cc.plain_c s (plainB s) (plainB_iff s) W)
    have HR := Lib.hid (fun W => Rese_c s W)
    generalize plainB s = p at *
    generalize resS s.data.toList = q at *
    go_enter Tryz.func39, Tryz.ntmps39
    go_wp2_with fail
    refine (HP.out _).mono ?_
    rintro e w1 ⟨rfl, hb⟩
    rcases p with _ | _
    · go_wp2_with fail
      go_ret
      exact ⟨rfl, hb⟩
    · go_wp2_with fail
      refine (HR.out _).mono ?_
      rintro e w2 ⟨rfl, rfl⟩
      go_wp2_with fail
      go_ret
      exact ⟨rfl, hb⟩
  · have d1 : decide ((s.size : Int) ≤ 32) = false := decide_eq_false (by omega)
    rw [decide_eq_false h, Bool.false_and]
    go_enter Tryz.func39, Tryz.ntmps39
    go_wp2_with fail
    go_ret
    exact ⟨rfl, Below.refl _ _⟩
/-- The alias ahead of the place k. -/
def prevA (l : List Al) : Nat → Option Al
  | 0 => none
  | k + 1 => l[k]?
set_option maxHeartbeats 1000000 in
set_option maxRecDepth 100000 in
theorem Valid_c (A : Option Addr) (l : List Al) (c : Nat) (w : World) (hA : AlAt w w.heap.size A l) (hl : l.length ≤ 1000000) :
    Calls Tryz.prog 17 #[.slice A l.length c] w fun e w' => e = .returned (.int .i64 (valL l : Nat)) ∧ Below w.heap.size w w' := by
  unfold valL
  by_cases h : 64 < l.length
  · have d1 : decide ((64 : Int) < (l.length : Int)) = true := decide_eq_true (by omega)
    rw [if_pos h]
    go_enter Tryz.func17, Tryz.ntmps17
    go_wp2_with fail
    go_ret
    exact ⟨rfl, Below.refl _ _⟩
  have d1 : decide ((64 : Int) < (l.length : Int)) = false := decide_eq_false (by omega)
  rw [if_neg h]
  have HV : Hid (valF none l = valF (prevA l 0) (l.drop 0)) := Lib.hid rfl
  generalize valF none l = V at *
  go_enter Tryz.func17, Tryz.ntmps17
  go_wp2_with fail
  go_loopw [10] (fun iv wr => ∃ k : Nat, k ≤ l.length ∧ iv = .int .i64 k ∧ Below w.heap.size w wr ∧ Hid (V = valF (prevA l k) (l.drop k))) (fun iv _ => l.length - (intOf iv).toNat)
  case atStart => exact ⟨0, by omega, by go_num, Below.refl _ _, HV⟩
  case round =>
    obtain ⟨k, hk, rfl, hb, hv⟩ := hrel
    have hwr := hb.size
    by_cases hlt : k < l.length
    · have i1 : (k : Int) < (l.length : Int) := by omega
      obtain ⟨b, off, rfl, hbl, c0, c1⟩ := alAt_cells (alAt_below hA hb (Nat.le_refl _)) hlt
      have hdr : l.drop k = l[k] :: l.drop (k + 1) := List.drop_eq_getElem_cons hlt
      have hv1 := hv.out
      rw [hdr, valF] at hv1
      have hpv : prevA l (k + 1) = some l[k] := by unfold prevA; exact List.getElem?_eq_getElem hlt
      have HN := Lib.hid (fun W => isName_c l[k].n W)
      have hone : oneV (prevA l k) l[k] = if nameB l[k].n = false then 10 else if 4096 < l[k].v.size then 3 else match prevA l k with
        | none => 0
        | some q => if ltB q.n l[k].n = true then 0 else 1 := rfl
      have hA0 := hA
      have hblk : b < wr.heap.size := by omega
      have hprev : ∀ j, k = j + 1 → ∃ hj : j < l.length, prevA l k = some l[j] ∧ wr.cell? ⟨b, off + j * 2, none⟩ = some (.string (l[j]'hj).n) := by
        rintro j rfl
        refine ⟨by omega, List.getElem?_eq_getElem (by omega), ?_⟩
        obtain ⟨b', off', e, _, q0, _⟩ := alAt_cells (i := j) (alAt_below hA hb (Nat.le_refl _)) (by omega)
        injection e with e; injection e with e1 e2; subst e1; subst e2
        exact q0
      have Hprev := Lib.hid hprev
      clear hprev hA hdr hA0
      generalize l[k] = x at *
      go_wp2_with fail
      refine (HN.out _).mono ?_
      rintro e w7 ⟨rfl, hb7⟩
      have hbig : Below w.heap.size w w7 := (hb.alloc hwr _).trans (hb7.mono (by simp; omega))
      have hn7 : w7.heap[wr.heap.size]? = some (.cells #[.string x.n, .string x.v] 47 (0, 0)) := by
        rw [hb7.block _ (by simp)]
        exact heap_alloc_new wr _
      have e0 : w7.cell? ⟨wr.heap.size, 0, none⟩ = some (.string x.n) := by rw [cell_of_row w7 _ 0 _ _ _ hn7]; rfl
      have e1 : w7.cell? ⟨wr.heap.size, 1, none⟩ = some (.string x.v) := by rw [cell_of_row w7 _ 1 _ _ _ hn7]; rfl
      have hprev7 : ∀ j, k = j + 1 → ∃ hj : j < l.length, prevA l k = some l[j] ∧ w7.cell? ⟨b, off + j * 2, none⟩ = some (.string (l[j]'hj).n) := by
        rintro j hj
        obtain ⟨h1, h2, h3⟩ := Hprev.out j hj
        refine ⟨h1, h2, ?_⟩
        rw [hb7.cell (p := ⟨b, off + j * 2, none⟩) (by show b < _; simp; omega), ((Below.refl wr.heap.size wr).alloc (Nat.le_refl _) _).cell (p := ⟨b, off + j * 2, none⟩) (by show b < _; omega)]
        exact h3
      have Hprev7 := Lib.hid hprev7
      have Hv1 := Lib.hid hv1
      have Hone := Lib.hid hone
      have Hpv := Lib.hid hpv
      clear hprev7 Hprev hv1 hone hpv hn7 c0 c1 hv HV
      by_cases hnm : nameB x.n = false
      · rw [hnm]
        have h10 : V = 10 := by
          rw [Hv1.out, Hone.out, if_pos hnm]; rfl
        subst h10
        go_wp2_with fail
        go_ret
        exact ⟨rfl, hbig⟩
      have hnm' : nameB x.n = true := by simpa using hnm
      rw [hnm']
      by_cases hbv : 4096 < x.v.size
      · have h3 : V = 3 := by
          rw [Hv1.out, Hone.out, if_neg hnm, if_pos hbv]; rfl
        subst h3
        have d2 : decide ((4096 : Int) < (x.v.size : Int)) = true := decide_eq_true (by omega)
        go_wp2_with fail
        go_ret
        exact ⟨rfl, hbig⟩
      have d2 : decide ((4096 : Int) < (x.v.size : Int)) = false := decide_eq_false (by omega)
      by_cases hk0 : k = 0
      · subst hk0
        have h0 : Hid (V = valF (prevA l (0 + 1)) (l.drop (0 + 1))) := Lib.hid (by
          have ho := Hone.out
          rw [if_neg hnm, if_neg hbv] at ho
          have ho' : oneV (prevA l 0) x = 0 := ho
          rw [Hv1.out, if_pos ho', Hpv.out])
        have d3 : decide ((0 : Int) < (0 : Int)) = false := rfl
        go_wp2_with fail
        go_quiet (fail)
        go_wp2_with fail
        go_roundw
        case rel => exact ⟨0 + 1, by omega, by go_num, below_drewN hbig _, h0⟩
        case measure => simp [intOf]; omega
      · obtain ⟨j, rfl⟩ : ∃ j, k = j + 1 := ⟨k - 1, by omega⟩
        obtain ⟨hj, hpj, g0⟩ := Hprev7.out j rfl
        have ho := Hone.out
        rw [if_neg hnm, if_neg hbv, hpj] at ho
        have hjl : j < l.length := hj
        generalize l[j] = y at *
        have Hpj := Lib.hid hpj
        clear hpj
        have d3 : decide ((0 : Int) < ((j + 1 : Nat) : Int)) = true := decide_eq_true (by omega)
        have d3' : decide (0 < j + 1) = true := decide_eq_true (by omega)
        have wj : IntKind.i64.wrap (((j + 1 : Nat) : Int) - 1) = (j : Int) := by rw [IntKind.wrap_i64]; omega
        have g1 : (0 : Int) ≤ (j : Int) := by omega
        have g2 : (j : Int) < (l.length : Int) := by omega
        by_cases hlt2 : ltB y.n x.n = true
        · have b1 : Op.bytesLess x.n.toList y.n.toList = false := ltB_asymm hlt2
          have b2 : (x.n.toList == y.n.toList) = false := by
            rw [beq_eq_false_iff_ne]
            intro h
            exact ltB_ne hlt2 (ba_ext h).symm
          have h0 : Hid (V = valF (prevA l (j + 1 + 1)) (l.drop (j + 1 + 1))) := Lib.hid (by
            have ho2 : oneV (prevA l (j + 1)) x = 0 := by rw [Hpj.out, ho]; exact if_pos hlt2
            rw [Hv1.out, if_pos ho2, Hpv.out])
          clear ho hlt2
          go_wp2_with fail
          go_quiet (fail)
          go_wp2_with fail
          go_roundw
          case rel => exact ⟨j + 1 + 1, by omega, by go_num, below_drewN hbig _, h0⟩
          case measure => simp [intOf]; omega
        · have hlt3 : ltB y.n x.n = false := by simpa using hlt2
          have h1 : V = 1 := by
            have ho2 : oneV (prevA l (j + 1)) x = 1 := by rw [Hpj.out, ho]; exact if_neg hlt2
            rw [Hv1.out, if_neg (by rw [ho2]; decide), ho2]
          subst h1
          clear ho hlt2
          by_cases hxy : x.n = y.n
          · have b1 : Op.bytesLess x.n.toList y.n.toList = false := by rw [hxy]; exact less_irrefl _
            have b2 : (x.n.toList == y.n.toList) = true := by rw [hxy]; simp
            clear hxy hlt3
            go_wp2_with fail
            go_quiet (fail)
            go_wp2_with fail
            go_ret
            exact ⟨rfl, below_drewN hbig _⟩
          · have b1 : Op.bytesLess x.n.toList y.n.toList = true := ltB_tri hlt3 (fun e => hxy e.symm)
            have b2 : (x.n.toList == y.n.toList) = false := by
              rw [beq_eq_false_iff_ne]
              intro h
              exact hxy (ba_ext h)
            clear hxy hlt3
            go_wp2_with fail
            go_quiet (fail)
            go_wp2_with fail
            go_ret
            exact ⟨rfl, below_drewN hbig _⟩
    · have hkk : k = l.length := by omega
      subst hkk
      go_wp2_with fail
      go_ret
      have := hv.out
      rw [List.drop_length] at this
      exact ⟨by rw [this]; rfl, hb⟩
set_option maxHeartbeats 1000000 in
set_option maxRecDepth 100000 in
theorem Get_c (A : Option Addr) (l : List Al) (c : Nat) (s : ByteArray) (w : World) (hA : AlAt w w.heap.size A l) (hl : l.length ≤ 1000000) :
    Calls Tryz.prog 24 #[.slice A l.length c, .string s] w fun e w' => e = .returned (.tuple #[.string (getL l s).1, .bool (getL l s).2]) ∧ Below w.heap.size w w' := by
  have HG : Hid (getL l s = getL (l.drop 0) s) := Lib.hid rfl
  generalize getL l s = G at *
  go_enter Tryz.func24, Tryz.ntmps24
  go_wp2_with fail
  go_loopw [10] (fun iv wr => ∃ k : Nat, k ≤ l.length ∧ iv = .int .i64 k ∧ Below w.heap.size w wr ∧ Hid (G = getL (l.drop k) s)) (fun iv _ => l.length - (intOf iv).toNat)
  case atStart => exact ⟨0, by omega, by go_num, Below.refl _ _, HG⟩
  case round =>
    obtain ⟨k, hk, rfl, hb, hv⟩ := hrel
    have hwr := hb.size
    by_cases hlt : k < l.length
    · have i1 : (k : Int) < (l.length : Int) := by omega
      obtain ⟨b, off, rfl, hbl, c0, c1⟩ := alAt_cells (alAt_below hA hb (Nat.le_refl _)) hlt
      have hdr : l.drop k = l[k] :: l.drop (k + 1) := List.drop_eq_getElem_cons hlt
      have hv1 := hv.out
      rw [hdr] at hv1
      generalize l[k] = x at *
      have hb2 := hb.alloc hwr (.cells #[.string x.n, .string x.v] 47)
      clear hdr hv HG hA
      by_cases hxs : x.n = s
      · have hg : G = (x.v, true) := by
          rw [hv1, getL, List.find?_cons_of_pos (by simpa using hxs)]
        subst hg
        have t1 : (x.n.toList == s.toList) = true := by rw [hxs]; simp
        clear hv1 hxs
        go_wp2_with fail
        go_ret2
        exact ⟨rfl, hb2⟩
      · have hg : Hid (G = getL (l.drop (k + 1)) s) := Lib.hid (by
          rw [hv1, getL, List.find?_cons_of_neg (by simpa using hxs)]; rfl)
        have t1 : (x.n.toList == s.toList) = false := by
          rw [beq_eq_false_iff_ne]
          exact fun h => hxs (ba_ext h)
        clear hv1 hxs
        go_wp2_with fail
        go_roundw
        case rel => exact ⟨k + 1, by omega, by go_num, hb2, hg⟩
        case measure => simp [intOf]; omega
    · have hkk : k = l.length := by omega
      subst hkk
      have hg : G = (⟨#[]⟩, false) := by
        rw [hv.out, List.drop_length]; rfl
      subst hg
      go_wp2_with fail
      go_ret2
      exact ⟨rfl, hb⟩
end Go.Proofs.YticehbhedoploaaGreatDoor
