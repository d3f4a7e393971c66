/- alias: the reference's name, Valid, Get, Same; few. -/
import Derived.Test.YticehbhedoploaaGreatDoorAlV
import Derived.Test.YticehbhedoploaaGreatDoorCcRCh2
import Derived.Test.YticehbhedoploaaGreatDoorLxRO
namespace Go.Proofs.YticehbhedoploaaGreatDoor
open Go.RowKit
set_option linter.unusedVariables false

set_option maxHeartbeats 2000000 in
set_option maxRecDepth 100000 in
theorem rname_c (s : ByteArray) (w : World) (hs : s.size ≤ 1000000000) : Calls Tryz.prog 40 #[.string s] w fun e w' => e = .returned (.bool (nameB s)) ∧ w = w' := by
  unfold nameB
  have HP := Lib.hid (fun W => Cc.rplain_c s (plainB s) (plainB_iff s) W hs)
  have HR := Lib.hid (fun W => RRese_c s W)
  generalize plainB s = p at *
  generalize resS s.data.toList = q at *
  rcases p with _ | _
  · rw [Bool.false_and, Bool.and_false]
    go_enter Tryz.func40, Tryz.ntmps40
    go_wp2_with fail
    refine (HP.out _).mono ?_
    rintro e w1 ⟨rfl, rfl⟩
    go_wp2_with fail
    go_ret
    exact ⟨rfl, rfl⟩
  by_cases h : s.size ≤ 32
  · have d1 : decide ((s.size : Int) ≤ 32) = true := decide_eq_true (by omega)
    rw [decide_eq_true h, Bool.true_and, Bool.true_and]
    go_enter Tryz.func40, Tryz.ntmps40
    go_wp2_with fail
    refine (HP.out _).mono ?_
    rintro e w1 ⟨rfl, rfl⟩
    go_wp2_with fail
    refine (HR.out _).mono ?_
    rintro e w2 ⟨rfl, rfl⟩
    go_wp2_with fail
    go_ret
    exact ⟨rfl, rfl⟩
  · have d1 : decide ((s.size : Int) ≤ 32) = false := decide_eq_false (by omega)
    rw [decide_eq_false h, Bool.false_and]
    go_enter Tryz.func40, Tryz.ntmps40
    go_wp2_with fail
    refine (HP.out _).mono ?_
    rintro e w1 ⟨rfl, rfl⟩
    go_wp2_with fail
    go_ret
    exact ⟨rfl, rfl⟩
set_option maxHeartbeats 1000000 in
set_option maxRecDepth 100000 in
theorem RValid_c (A : Option Addr) (l : List Al) (c : Nat) (w : World) (hA : AlAt w w.heap.size A l) (hl : l.length ≤ 1000000) (hz : ∀ x ∈ l, x.n.size ≤ 1000000000) :
    Calls Tryz.prog 18 #[.slice A l.length c] w fun e w' => e = .returned (.int .i64 (valL l : Nat)) ∧ Below w.heap.size w w' := by
  unfold valL
  by_cases h : 64 < l.length
  · have d1 : decide ((64 : Int) < (l.length : Int)) = true := decide_eq_true (by omega)
    rw [if_pos h]
    go_enter Tryz.func18, Tryz.ntmps18
    go_wp2_with fail
    go_ret
    exact ⟨rfl, Below.refl _ _⟩
  have d1 : decide ((64 : Int) < (l.length : Int)) = false := decide_eq_false (by omega)
  rw [if_neg h]
  have HV : Hid (valF none l = valF (prevA l 0) (l.drop 0)) := Lib.hid rfl
  generalize valF none l = V at *
  have Hz := Lib.hid hz
  clear hz
  go_enter Tryz.func18, Tryz.ntmps18
  go_wp2_with fail
  go_loopw [3] (fun iv wr => ∃ k : Nat, k ≤ l.length ∧ iv = .int .i64 k ∧ Below w.heap.size w wr ∧ Hid (V = valF (prevA l k) (l.drop k))) (fun iv _ => l.length - (intOf iv).toNat)
  case atStart => exact ⟨0, by omega, by go_num, Below.refl _ _, HV⟩
  case round =>
    obtain ⟨k, hk, rfl, hb, hv⟩ := hrel
    have hwr := hb.size
    by_cases hlt : k < l.length
    · have i1 : (k : Int) < (l.length : Int) := by omega
      obtain ⟨b, off, rfl, hbl, c0, c1⟩ := alAt_cells (alAt_below hA hb (Nat.le_refl _)) hlt
      have hdr : l.drop k = l[k] :: l.drop (k + 1) := List.drop_eq_getElem_cons hlt
      have hv1 := hv.out
      rw [hdr, valF] at hv1
      have hpv : prevA l (k + 1) = some l[k] := by unfold prevA; exact List.getElem?_eq_getElem hlt
      have HN := Lib.hid (fun W => rname_c l[k].n W (Hz.out _ (List.getElem_mem hlt)))
      have hone : oneV (prevA l k) l[k] = if nameB l[k].n = false then 10 else if 4096 < l[k].v.size then 3 else match prevA l k with
        | none => 0
        | some q => if ltB q.n l[k].n = true then 0 else 1 := rfl
      have hprev : ∀ j, k = j + 1 → ∃ hj : j < l.length, prevA l k = some l[j] ∧ wr.cell? ⟨b, off + j * 2, none⟩ = some (.string (l[j]'hj).n) := by
        rintro j rfl
        refine ⟨by omega, List.getElem?_eq_getElem (by omega), ?_⟩
        obtain ⟨b', off', e, _, q0, _⟩ := alAt_cells (i := j) (alAt_below hA hb (Nat.le_refl _)) (by omega)
        injection e with e; injection e with e1 e2; subst e1; subst e2
        exact q0
      have Hprev := Lib.hid hprev
      clear hprev hA hdr
      generalize l[k] = x at *
      go_wp2_with fail
      refine (HN.out _).mono ?_
      rintro e w7 ⟨rfl, rfl⟩
      have Hv1 := Lib.hid hv1
      have Hone := Lib.hid hone
      have Hpv := Lib.hid hpv
      clear hv1 hone hpv hv HV
      by_cases hnm : nameB x.n = false
      · rw [hnm]
        have h10 : V = 10 := by
          rw [Hv1.out, Hone.out, if_pos hnm]; rfl
        subst h10
        go_wp2_with fail
        go_ret
        exact ⟨rfl, hb⟩
      have hnm' : nameB x.n = true := by simpa using hnm
      rw [hnm']
      by_cases hbv : 4096 < x.v.size
      · have h3 : V = 3 := by
          rw [Hv1.out, Hone.out, if_neg hnm, if_pos hbv]; rfl
        subst h3
        have d2 : decide ((4096 : Int) < (x.v.size : Int)) = true := decide_eq_true (by omega)
        go_wp2_with fail
        go_ret
        exact ⟨rfl, hb⟩
      have d2 : decide ((4096 : Int) < (x.v.size : Int)) = false := decide_eq_false (by omega)
      by_cases hk0 : k = 0
      · subst hk0
        have h0 : Hid (V = valF (prevA l (0 + 1)) (l.drop (0 + 1))) := Lib.hid (by
          have ho := Hone.out
          rw [if_neg hnm, if_neg hbv] at ho
          have ho' : oneV (prevA l 0) x = 0 := ho
          rw [Hv1.out, if_pos ho', Hpv.out])
        have d3 : decide ((0 : Int) < (0 : Int)) = false := rfl
        go_wp2_with fail
        go_quiet (fail)
        go_wp2_with fail
        go_roundw
        case rel => exact ⟨0 + 1, by omega, by go_num, below_drewN hb _, h0⟩
        case measure => simp [intOf]; omega
      · obtain ⟨j, rfl⟩ : ∃ j, k = j + 1 := ⟨k - 1, by omega⟩
        obtain ⟨hj, hpj, g0⟩ := Hprev.out j rfl
        have ho := Hone.out
        rw [if_neg hnm, if_neg hbv, hpj] at ho
        generalize l[j] = y at *
        have Hpj := Lib.hid hpj
        clear hpj
        have d3 : decide ((0 : Int) < ((j + 1 : Nat) : Int)) = true := decide_eq_true (by omega)
        have d3' : decide (0 < j + 1) = true := decide_eq_true (by omega)
        have wj : IntKind.i64.wrap (((j + 1 : Nat) : Int) - 1) = (j : Int) := by rw [IntKind.wrap_i64]; omega
        have g1 : (0 : Int) ≤ (j : Int) := by omega
        have g2 : (j : Int) < (l.length : Int) := by omega
        by_cases hlt2 : ltB y.n x.n = true
        · have b1 : Op.bytesLess y.n.toList x.n.toList = true := hlt2
          have h0 : Hid (V = valF (prevA l (j + 1 + 1)) (l.drop (j + 1 + 1))) := Lib.hid (by
            have ho2 : oneV (prevA l (j + 1)) x = 0 := by rw [Hpj.out, ho]; exact if_pos hlt2
            rw [Hv1.out, if_pos ho2, Hpv.out])
          clear ho hlt2
          go_wp2_with fail
          go_quiet (fail)
          go_wp2_with fail
          go_roundw
          case rel => exact ⟨j + 1 + 1, by omega, by go_num, below_drewN hb _, h0⟩
          case measure => simp [intOf]; omega
        · have b1 : Op.bytesLess y.n.toList x.n.toList = false := by
            have h : ltB y.n x.n = false := by simpa using hlt2
            exact h
          have h1 : V = 1 := by
            have ho2 : oneV (prevA l (j + 1)) x = 1 := by rw [Hpj.out, ho]; exact if_neg hlt2
            rw [Hv1.out, if_neg (by rw [ho2]; decide), ho2]
          subst h1
          clear ho hlt2
          go_wp2_with fail
          go_quiet (fail)
          go_wp2_with fail
          go_ret
          exact ⟨rfl, below_drewN hb _⟩
    · have hkk : k = l.length := by omega
      subst hkk
      go_wp2_with fail
      go_ret
      have := hv.out
      rw [List.drop_length] at this
      exact ⟨by rw [this]; rfl, hb⟩
set_option maxHeartbeats 1000000 in
set_option maxRecDepth 100000 in
theorem RGet_c (A : Option Addr) (l : List Al) (c : Nat) (s : ByteArray) (w : World) (hA : AlAt w w.heap.size A l) (hl : l.length ≤ 1000000) :
    Calls Tryz.prog 25 #[.slice A l.length c, .string s] w fun e w' => e = .returned (.tuple #[.string (getL l s).1, .bool (getL l s).2]) ∧ w = w' := by
  have HG : Hid (getL l s = getL (l.drop 0) s) := Lib.hid rfl
  generalize getL l s = G at *
  go_enter Tryz.func25, Tryz.ntmps25
  go_wp2_with fail
  go_loop [6] (fun iv => ∃ k : Nat, k ≤ l.length ∧ iv = .int .i64 k ∧ Hid (G = getL (l.drop k) s)) (fun iv => l.length - (intOf iv).toNat)
  case atStart => exact ⟨0, by omega, by go_num, HG⟩
  case round =>
    obtain ⟨k, hk, rfl, hv⟩ := hrel
    by_cases hlt : k < l.length
    · have i1 : (k : Int) < (l.length : Int) := by omega
      obtain ⟨b, off, rfl, hbl, c0, c1⟩ := alAt_cells hA hlt
      have hdr : l.drop k = l[k] :: l.drop (k + 1) := List.drop_eq_getElem_cons hlt
      have hv1 := hv.out
      rw [hdr] at hv1
      generalize l[k] = x at *
      clear hdr hv HG hA
      by_cases hxs : x.n = s
      · have hg : G = (x.v, true) := by
          rw [hv1, getL, List.find?_cons_of_pos (by simpa using hxs)]
        subst hg
        have t1 : (x.n.toList == s.toList) = true := by rw [hxs]; simp
        clear hv1 hxs
        go_wp2_with fail
        go_ret2
        exact ⟨rfl, rfl⟩
      · have hg : Hid (G = getL (l.drop (k + 1)) s) := Lib.hid (by
          rw [hv1, getL, List.find?_cons_of_neg (by simpa using hxs)]; rfl)
        have t1 : (x.n.toList == s.toList) = false := by
          rw [beq_eq_false_iff_ne]
          exact fun h => hxs (ba_ext h)
        clear hv1 hxs
        go_wp2_with fail
        go_round
        case rel => exact ⟨k + 1, by omega, by go_num, hg⟩
        case measure => simp [intOf]; omega
    · have hkk : k = l.length := by omega
      subst hkk
      have hg : G = (⟨#[]⟩, false) := by
        rw [hv.out, List.drop_length]; rfl
      subst hg
      go_wp2_with fail
      go_ret2
      exact ⟨rfl, rfl⟩
def sumA (l : List Al) : Nat := (l.map fun x => x.n.size + x.v.size).sum
def fewB (l : List Al) : Bool := decide (l.length ≤ 70) && decide (sumA l ≤ 10000)
theorem sumA_take (l : List Al) : ∀ k, sumA (l.take k) ≤ sumA l := by
  intro k
  have h : sumA l = sumA (l.take k) + sumA (l.drop k) := by
    unfold sumA
    rw [← List.sum_append, ← List.map_append, List.take_append_drop]
  omega
theorem sumA_snoc (l : List Al) (k : Nat) (h : k < l.length) : sumA (l.take (k + 1)) = sumA (l.take k) + (l[k].n.size + l[k].v.size) := by
  unfold sumA
  rw [List.take_succ_eq_append_getElem h, List.map_append, List.sum_append]
  simp only [List.map_cons, List.map_nil, List.sum_cons, List.sum_nil, Nat.add_zero]
theorem sumA_mem {l : List Al} {x : Al} (h : x ∈ l) : x.n.size + x.v.size ≤ sumA l := by
  obtain ⟨k, hk, rfl⟩ := List.getElem_of_mem h
  have := sumA_snoc l k hk
  have := sumA_take l (k + 1)
  omega
set_option maxHeartbeats 1000000 in
set_option maxRecDepth 100000 in
theorem few_c (A : Option Addr) (l : List Al) (c : Nat) (w : World) (hA : AlAt w w.heap.size A l) (hz : ∀ x ∈ l, x.n.size ≤ 140737488355328 ∧ x.v.size ≤ 140737488355328) :
    Calls Tryz.prog 15 #[.slice A l.length c] w fun e w' => e = .returned (.bool (fewB l)) ∧ Below w.heap.size w w' := by
  unfold fewB
  by_cases h : l.length ≤ 70
  · have d1 : decide ((70 : Int) < (l.length : Int)) = false := decide_eq_false (by omega)
    rw [decide_eq_true h, Bool.true_and]
    obtain ⟨F, hF⟩ : ∃ F : Bool, Hid (F = decide (sumA l ≤ 10000)) := ⟨_, Lib.hid rfl⟩
    rw [← hF.out]
    have Hz := Lib.hid hz
    clear hz
    go_enter Tryz.func15, Tryz.ntmps15
    go_wp2_with fail
    go_loopw [3, 4] (fun nv iv wr => ∃ k m : Nat, k ≤ l.length ∧ iv = .int .i64 k ∧ nv = .int .i64 m ∧ m ≤ 10000 ∧ Below w.heap.size w wr ∧ Hid (m = sumA (l.take k))) (fun _ iv _ => l.length - (intOf iv).toNat)
    case atStart => exact ⟨0, 0, by omega, by go_num, by go_num, by omega, Below.refl _ _, Lib.hid rfl⟩
    case round =>
      obtain ⟨k, m, hk, rfl, rfl, hm, hb, hs⟩ := hrel
      by_cases hlt : k < l.length
      · have i1 : (k : Int) < (l.length : Int) := by omega
        obtain ⟨b, off, rfl, hbl, c0, c1⟩ := alAt_cells (alAt_below hA hb (Nat.le_refl _)) hlt
        have hsn := sumA_snoc l k hlt
        have hst := sumA_take l (k + 1)
        obtain ⟨z1, z2⟩ := Hz.out _ (List.getElem_mem hlt)
        rw [← hs.out] at hsn
        have HT : ∃ S : Nat, Hid (S = sumA (l.take (k + 1))) := ⟨_, Lib.hid rfl⟩
        obtain ⟨S, HT⟩ := HT
        rw [← HT.out] at hsn hst
        generalize l[k] = x at *
        obtain ⟨M1, hM1⟩ : ∃ M1 : Nat, M1 = m + x.n.size := ⟨_, rfl⟩
        have w1 : IntKind.i64.wrap ((m : Int) + (x.n.size : Int)) = (M1 : Int) := by rw [IntKind.wrap_i64]; omega
        have w2 : IntKind.i64.wrap ((M1 : Int) + (x.v.size : Int)) = (S : Int) := by rw [IntKind.wrap_i64]; omega
        have hsS : S = m + (x.n.size + x.v.size) := hsn
        have HS : Hid (S ≤ sumA l) := Lib.hid hst
        have b0 := below_drewN hb
        by_cases hbig : 10000 < S
        · have hf : F = false := by rw [hF.out]; exact decide_eq_false (by have := HS.out; omega)
          subst hf
          have d2 : decide ((10000 : Int) < (S : Int)) = true := decide_eq_true (by omega)
          clear hsn hst hsS hM1
          go_wp2_with fail
          go_quiet (fail)
          go_wp2_with fail
          go_ret
          exact ⟨rfl, below_drewN hb _⟩
        · have d2 : decide ((10000 : Int) < (S : Int)) = false := decide_eq_false (by omega)
          clear hsn hst hsS hM1
          go_wp2_with fail
          go_quiet (fail)
          go_wp2_with fail
          go_roundw
          case rel => exact ⟨k + 1, S, by omega, by go_num, rfl, by omega, below_drewN hb _, HT⟩
          case measure => simp [intOf]; omega
      · have hkk : k = l.length := by omega
        subst hkk
        have hf : F = true := by
          rw [hF.out]
          have := hs.out
          rw [List.take_length] at this
          exact decide_eq_true (by omega)
        subst hf
        go_wp2_with fail
        go_ret
        exact ⟨rfl, hb⟩
  · have d1 : decide ((70 : Int) < (l.length : Int)) = true := decide_eq_true (by omega)
    rw [decide_eq_false h, Bool.false_and]
    go_enter Tryz.func15, Tryz.ntmps15
    go_wp2_with fail
    go_ret
    exact ⟨rfl, Below.refl _ _⟩
end Go.Proofs.YticehbhedoploaaGreatDoor
