/- The contract of edits.Diff. -/
import Derived.Test.YtdiaghmkbplipaaMath
import Derived.Test.YtdiaghmkbplipaaProg
import Derived.WalkKit
import Derived.BigCall
import Derived.Lib.Hide
import Derived.Deep.QuietTactic
import Derived.BigQuiet
import Derived.WalkSmall
import Derived.WalkLawsBesides
namespace Go.Proofs.Ytdiaghmkbplipaa
open Go.RowKit

/-- How many bytes two lists have in common at their beginnings. -/
def pre : List UInt8 → List UInt8 → Nat
  | x :: xs, y :: ys => if x = y then pre xs ys + 1 else 0
  | _, _ => 0

theorem pre_le : ∀ a b, pre a b ≤ a.length ∧ pre a b ≤ b.length
  | [], [] => by simp [pre]
  | [], _ :: _ => by simp [pre]
  | _ :: _, [] => by simp [pre]
  | x :: xs, y :: ys => by
    have := pre_le xs ys
    unfold pre
    split <;> simp <;> omega

theorem pre_stop {a b : List UInt8} {j : Nat} (h : ∀ x y, a[j]? = some x → b[j]? = some y → x ≠ y) : pre (a.drop j) (b.drop j) = 0 := by
  rcases ha : a.drop j with _ | ⟨x, xs⟩
  · cases b.drop j <;> simp [pre]
  · rcases hb : b.drop j with _ | ⟨y, ys⟩
    · simp [pre]
    · have h1 : a[j]? = some x := by rw [← List.head?_drop, ha]; rfl
      have h2 : b[j]? = some y := by rw [← List.head?_drop, hb]; rfl
      simp [pre, h x y h1 h2]

theorem pre_step {a b : List UInt8} {j : Nat} {x : UInt8} (h1 : a[j]? = some x) (h2 : b[j]? = some x) : pre (a.drop j) (b.drop j) = pre (a.drop (j + 1)) (b.drop (j + 1)) + 1 := by
  obtain ⟨ha, h1⟩ := List.getElem?_eq_some_iff.1 h1
  obtain ⟨hb, h2⟩ := List.getElem?_eq_some_iff.1 h2
  rw [List.drop_eq_getElem_cons ha, List.drop_eq_getElem_cons hb, h1, h2]
  simp [pre]

theorem rev_get (a : ByteArray) (j k p : Nat) (h : p + 1 + k = a.size) (hp : p < a.size) (hj : j ≤ p) : (a.data.toList.drop j).reverse[k]? = some a[p] := by
  have hl : a.data.toList.length = a.size := by simp
  rw [List.getElem?_reverse (by rw [List.length_drop, hl]; omega), List.getElem?_drop, List.length_drop, hl, show j + (a.size - j - 1 - k) = p from by omega, List.getElem?_eq_getElem (by rw [hl]; exact hp)]
  rfl

/-- The lengths of what is common at the beginning, and at the end of the rest. -/
def dfrom (a b : ByteArray) : Nat := pre a.data.toList b.data.toList
def dback (a b : ByteArray) : Nat := pre (a.data.toList.drop (dfrom a b)).reverse (b.data.toList.drop (dfrom a b)).reverse

set_option maxHeartbeats 2000000 in
theorem diff_c (a b : ByteArray) (w : World) (ha : a.size ≤ 17000) (hb : b.size ≤ 17000) (hab : a ≠ b) :
    Calls Try.prog 22 #[.string a, .string b] w fun e w' => ∃ g, e = .returned (.slice (some ⟨g, 0, none⟩) 1 1) ∧ w.heap.size ≤ g ∧ g < w'.heap.size ∧
      w'.heap[g]? = some (.cells #[.int .i64 (dfrom a b), .int .i64 ((a.size - dback a b : Nat) : Int), .string (b.extract (dfrom a b) (b.size - dback a b))] 47 (0, 0)) ∧ Below w.heap.size w w' := by
  have t0 : (a.toList == b.toList) = false := by
    rw [ByteArray.toList_eq, ByteArray.toList_eq, beq_eq_false_iff_ne]
    exact fun h => hab (Go.WideShapes.bytes_inj h)
  clear hab
  have hla : a.data.toList.length = a.size := by simp
  have hlb : b.data.toList.length = b.size := by simp
  have hd := pre_le a.data.toList b.data.toList
  rw [hla, hlb] at hd
  have hbk := pre_le (a.data.toList.drop (dfrom a b)).reverse (b.data.toList.drop (dfrom a b)).reverse
  simp only [List.length_reverse, List.length_drop, hla, hlb] at hbk
  have Hla := Lib.hid hla; have Hlb := Lib.hid hlb
  clear hla hlb
  have Hd1 := hd.1; have Hd2 := hd.2; have Hk1 := hbk.1; have Hk2 := hbk.2
  clear hd hbk
  unfold dback
  generalize hdf : dfrom a b = F at *
  have Hdf := Lib.hid hdf
  clear hdf
  generalize hK : pre (a.data.toList.drop F).reverse (b.data.toList.drop F).reverse = K at *
  have HK := Lib.hid hK
  clear hK
  by_cases hm : a.size ≤ b.size
  · skip
    have hmm : a.size ≤ b.size := by omega
    go_enter Try.func22, Try.ntmps22
    go_wp2_with fail
    go_loopw [5] (fun fr wr => ∃ j : Nat, j ≤ a.size ∧ fr = .int .i64 j ∧ j + pre (a.data.toList.drop j) (b.data.toList.drop j) = F ∧ Below w.heap.size w wr) (fun fr _ => a.size - (intOf fr).toNat)
    case atStart => exact ⟨0, by omega, rfl, by rw [← Hdf.out]; simp [dfrom], Below.refl _ _⟩
    case round =>
      obtain ⟨j, hj1, rfl, hp, hbw⟩ := hrel
      have Hp := Lib.hid hp
      clear hp
      by_cases hlt : j < a.size
      · have d1 : decide ((j : Int) < (a.size : Int)) = true := decide_eq_true (by omega)
        have i1 : (j : Int) < (a.size : Int) := by omega
        have i2 : (j : Int) < (b.size : Int) := by omega
        have hja : j < a.size := by omega
        have hjb : j < b.size := by omega
        by_cases hq : a[j] = b[j]
        · have t1 : (((a[j]).toNat : Int) == ((b[j]).toNat : Int)) = true := by rw [hq]; simp
          have Hq := Lib.hid hq
          clear hq
          go_wp2_with fail
          go_quiet (fail)
          go_wp2_with fail
          go_roundw
          case rel =>
            have e1 : a.data.toList[j]? = some a[j] := by rw [List.getElem?_eq_getElem (by simpa using hja)]; rfl
            have e2 : b.data.toList[j]? = some a[j] := by rw [List.getElem?_eq_getElem (by simpa using hjb), Hq.out]; rfl
            exact ⟨j + 1, by omega, by go_num, by rw [← Hp.out, pre_step e1 e2]; omega, below_drewN hbw _⟩
          case measure => simp [intOf]; omega
        · have t1 : (((a[j]).toNat : Int) == ((b[j]).toNat : Int)) = false := by
            rw [beq_eq_false_iff_ne]
            intro h
            exact hq (UInt8.toNat_inj.1 (by omega))
          have hz : pre (a.data.toList.drop j) (b.data.toList.drop j) = 0 := by
            refine pre_stop fun x y h1 h2 => ?_
            rw [List.getElem?_eq_getElem (by simpa using hja)] at h1
            rw [List.getElem?_eq_getElem (by simpa using hjb)] at h2
            simp only [Option.some.injEq] at h1 h2
            rw [← h1, ← h2]
            exact hq
          have hjF : j = F := by have := Hp.out; omega
          clear hq hz Hp
          subst hjF
          go_wp2_with fail
          go_quiet (fail)
          go_wp2_with fail
          obtain ⟨wo, rfl⟩ : ∃ wo : World, wo = wr := ⟨_, rfl⟩
          go_loopw [7, 8] (fun ea eb wr2 => ∃ p q k : Nat, j ≤ p ∧ j ≤ q ∧ p + k = a.size ∧ q + k = b.size ∧ ea = .int .i64 p ∧ eb = .int .i64 q ∧ k + pre ((a.data.toList.drop j).reverse.drop k) ((b.data.toList.drop j).reverse.drop k) = K ∧ Below w.heap.size w wr2) (fun ea _ _ => (intOf ea).toNat)
          case atStart => exact ⟨a.size, b.size, 0, by omega, by omega, by omega, by omega, rfl, rfl, by rw [← HK.out]; simp, below_drewN hbw _⟩
          case round =>
            obtain ⟨p, q, k, p1, p2, p3, p4, rfl, rfl, hp, hbw2⟩ := hrel
            have Hp := Lib.hid hp
            clear hp
            by_cases r1 : j < p ∧ j < q
            · obtain ⟨r1, r2⟩ := r1
              obtain ⟨p, rfl⟩ : ∃ x, p = x + 1 := ⟨p - 1, by omega⟩
              obtain ⟨q, rfl⟩ : ∃ x, q = x + 1 := ⟨q - 1, by omega⟩
              have hja : p < a.size := by omega
              have hjb : q < b.size := by omega
              have e1 : (a.data.toList.drop j).reverse[k]? = some a[p] := rev_get a j k p (by omega) hja (by omega)
              have e2 : (b.data.toList.drop j).reverse[k]? = some b[q] := rev_get b j k q (by omega) hjb (by omega)
              have E1 := Lib.hid e1
              have E2 := Lib.hid e2
              clear e1 e2
              have d1 : decide ((j : Int) < (p : Int) + 1) = true := decide_eq_true (by omega)
              have d2 : decide ((j : Int) < (q : Int) + 1) = true := decide_eq_true (by omega)
              have i1 : (p : Int) < (a.size : Int) := by omega
              have i2 : (q : Int) < (b.size : Int) := by omega
              have i3 : (j : Int) ≤ (q : Int) + 1 := by omega
              have i4 : (q : Int) + 1 ≤ (b.size : Int) := by omega
              by_cases hq : a[p] = b[q]
              · have t1 : (((a[p]).toNat : Int) == ((b[q]).toNat : Int)) = true := by rw [hq]; simp
                have Hq := Lib.hid hq
                clear hq
                go_wp2_with fail
                go_quiet (fail)
                go_wp2_with fail
                go_roundw
                case rel => exact ⟨p, q, k + 1, by omega, by omega, by omega, by omega, by go_num, by go_num, by rw [← Hp.out, pre_step E1.out (by rw [E2.out, Hq.out])]; omega, below_drewN hbw2 _⟩
                case measure => simp [intOf]
              · have t1 : (((a[p]).toNat : Int) == ((b[q]).toNat : Int)) = false := by
                  rw [beq_eq_false_iff_ne]
                  intro h
                  exact hq (UInt8.toNat_inj.1 (by omega))
                have hz : pre ((a.data.toList.drop j).reverse.drop k) ((b.data.toList.drop j).reverse.drop k) = 0 := by
                  refine pre_stop fun x y h1 h2 => ?_
                  rw [E1.out] at h1
                  rw [E2.out] at h2
                  simp only [Option.some.injEq] at h1 h2
                  rw [← h1, ← h2]
                  exact hq
                clear hq
                have hkK : k = K := by have := Hp.out; omega
                clear hz Hp
                subst hkK
                go_wp2_with fail
                go_quiet (fail)
                go_wp2
                go_ret
                refine ⟨wr.heap.size, rfl, hbw2.size, by simp, ?_, below_drewN (hbw2.alloc hbw2.size _) _⟩
                have hE : p + 1 = a.size - k := by omega
                have hF : q + 1 = b.size - k := by omega
                rw [← hE, ← hF]
                exact heap_alloc_new _ _
            · have hz : pre ((a.data.toList.drop j).reverse.drop k) ((b.data.toList.drop j).reverse.drop k) = 0 := by
                refine pre_stop fun x y h1 h2 => ?_
                have k1 := (List.getElem?_eq_some_iff.1 h1).1
                have k2 := (List.getElem?_eq_some_iff.1 h2).1
                rw [List.length_reverse, List.length_drop, Hla.out] at k1
                rw [List.length_reverse, List.length_drop, Hlb.out] at k2
                omega
              by_cases r2 : j < p
              · have d1 : decide ((j : Int) < (p : Int)) = true := decide_eq_true (by omega)
                have d2 : decide ((j : Int) < (q : Int)) = false := decide_eq_false (by omega)
                have n2 : decide (j < q) = false := decide_eq_false (by omega)
                have n1 : decide (j < p) = true := decide_eq_true r2
                have i3 : (j : Int) ≤ (q : Int) := by omega
                have i4 : (q : Int) ≤ (b.size : Int) := by omega
                clear r1
                have hkK : k = K := by have := Hp.out; omega
                clear hz Hp
                subst hkK
                go_wp2_with fail
                go_quiet (fail)
                go_wp2
                go_ret
                refine ⟨wr.heap.size, rfl, hbw2.size, by simp, ?_, below_drewN (hbw2.alloc hbw2.size _) _⟩
                have hE : p = a.size - k := by omega
                have hF : q = b.size - k := by omega
                rw [← hE, ← hF]
                exact heap_alloc_new _ _
              · have d1 : decide ((j : Int) < (p : Int)) = false := decide_eq_false (by omega)
                have n1 : decide (j < p) = false := decide_eq_false r2
                have i3 : (j : Int) ≤ (q : Int) := by omega
                have i4 : (q : Int) ≤ (b.size : Int) := by omega
                clear r1 r2
                have hkK : k = K := by have := Hp.out; omega
                clear hz Hp
                subst hkK
                go_wp2_with fail
                go_quiet (fail)
                go_wp2
                go_ret
                refine ⟨wr.heap.size, rfl, hbw2.size, by simp, ?_, below_drewN (hbw2.alloc hbw2.size _) _⟩
                have hE : p = a.size - k := by omega
                have hF : q = b.size - k := by omega
                rw [← hE, ← hF]
                exact heap_alloc_new _ _
      · have d1 : decide ((j : Int) < (a.size : Int)) = false := decide_eq_false (by omega)
        have hz : pre (a.data.toList.drop j) (b.data.toList.drop j) = 0 := by
          refine pre_stop fun x y h1 h2 => ?_
          have k1 := (List.getElem?_eq_some_iff.1 h1).1
          have k2 := (List.getElem?_eq_some_iff.1 h2).1
          rw [Hla.out] at k1
          rw [Hlb.out] at k2
          omega
        have hjF : j = F := by have := Hp.out; omega
        clear hz Hp
        subst hjF
        go_wp2_with fail
        go_quiet (fail)
        go_wp2_with fail
        obtain ⟨wo, rfl⟩ : ∃ wo : World, wo = wr := ⟨_, rfl⟩
        go_loopw [7, 8] (fun ea eb wr2 => ∃ p q k : Nat, j ≤ p ∧ j ≤ q ∧ p + k = a.size ∧ q + k = b.size ∧ ea = .int .i64 p ∧ eb = .int .i64 q ∧ k + pre ((a.data.toList.drop j).reverse.drop k) ((b.data.toList.drop j).reverse.drop k) = K ∧ Below w.heap.size w wr2) (fun ea _ _ => (intOf ea).toNat)
        case atStart => exact ⟨a.size, b.size, 0, by omega, by omega, by omega, by omega, rfl, rfl, by rw [← HK.out]; simp, below_drewN hbw _⟩
        case round =>
          obtain ⟨p, q, k, p1, p2, p3, p4, rfl, rfl, hp, hbw2⟩ := hrel
          have Hp := Lib.hid hp
          clear hp
          by_cases r1 : j < p ∧ j < q
          · obtain ⟨r1, r2⟩ := r1
            obtain ⟨p, rfl⟩ : ∃ x, p = x + 1 := ⟨p - 1, by omega⟩
            obtain ⟨q, rfl⟩ : ∃ x, q = x + 1 := ⟨q - 1, by omega⟩
            have hja : p < a.size := by omega
            have hjb : q < b.size := by omega
            have e1 : (a.data.toList.drop j).reverse[k]? = some a[p] := rev_get a j k p (by omega) hja (by omega)
            have e2 : (b.data.toList.drop j).reverse[k]? = some b[q] := rev_get b j k q (by omega) hjb (by omega)
            have E1 := Lib.hid e1
            have E2 := Lib.hid e2
            clear e1 e2
            have d1 : decide ((j : Int) < (p : Int) + 1) = true := decide_eq_true (by omega)
            have d2 : decide ((j : Int) < (q : Int) + 1) = true := decide_eq_true (by omega)
            have i1 : (p : Int) < (a.size : Int) := by omega
            have i2 : (q : Int) < (b.size : Int) := by omega
            have i3 : (j : Int) ≤ (q : Int) + 1 := by omega
            have i4 : (q : Int) + 1 ≤ (b.size : Int) := by omega
            by_cases hq : a[p] = b[q]
            · have t1 : (((a[p]).toNat : Int) == ((b[q]).toNat : Int)) = true := by rw [hq]; simp
              have Hq := Lib.hid hq
              clear hq
              go_wp2_with fail
              go_quiet (fail)
              go_wp2_with fail
              go_roundw
              case rel => exact ⟨p, q, k + 1, by omega, by omega, by omega, by omega, by go_num, by go_num, by rw [← Hp.out, pre_step E1.out (by rw [E2.out, Hq.out])]; omega, below_drewN hbw2 _⟩
              case measure => simp [intOf]
            · have t1 : (((a[p]).toNat : Int) == ((b[q]).toNat : Int)) = false := by
                rw [beq_eq_false_iff_ne]
                intro h
                exact hq (UInt8.toNat_inj.1 (by omega))
              have hz : pre ((a.data.toList.drop j).reverse.drop k) ((b.data.toList.drop j).reverse.drop k) = 0 := by
                refine pre_stop fun x y h1 h2 => ?_
                rw [E1.out] at h1
                rw [E2.out] at h2
                simp only [Option.some.injEq] at h1 h2
                rw [← h1, ← h2]
                exact hq
              clear hq
              exfalso
              omega
          · have hz : pre ((a.data.toList.drop j).reverse.drop k) ((b.data.toList.drop j).reverse.drop k) = 0 := by
              refine pre_stop fun x y h1 h2 => ?_
              have k1 := (List.getElem?_eq_some_iff.1 h1).1
              have k2 := (List.getElem?_eq_some_iff.1 h2).1
              rw [List.length_reverse, List.length_drop, Hla.out] at k1
              rw [List.length_reverse, List.length_drop, Hlb.out] at k2
              omega
            by_cases r2 : j < p
            · have d1 : decide ((j : Int) < (p : Int)) = true := decide_eq_true (by omega)
              have d2 : decide ((j : Int) < (q : Int)) = false := decide_eq_false (by omega)
              have n2 : decide (j < q) = false := decide_eq_false (by omega)
              have n1 : decide (j < p) = true := decide_eq_true r2
              have i3 : (j : Int) ≤ (q : Int) := by omega
              have i4 : (q : Int) ≤ (b.size : Int) := by omega
              clear r1
              exfalso
              omega
            · have d1 : decide ((j : Int) < (p : Int)) = false := decide_eq_false (by omega)
              have n1 : decide (j < p) = false := decide_eq_false r2
              have i3 : (j : Int) ≤ (q : Int) := by omega
              have i4 : (q : Int) ≤ (b.size : Int) := by omega
              clear r1 r2
              have hkK : k = K := by have := Hp.out; omega
              clear hz Hp
              subst hkK
              go_wp2_with fail
              go_quiet (fail)
              go_wp2
              go_ret
              refine ⟨wr.heap.size, rfl, hbw2.size, by simp, ?_, below_drewN (hbw2.alloc hbw2.size _) _⟩
              have hE : p = a.size - k := by omega
              have hF : q = b.size - k := by omega
              rw [← hE, ← hF]
              exact heap_alloc_new _ _
  · skip
    have hmm : b.size ≤ a.size := by omega
    go_enter Try.func22, Try.ntmps22
    go_wp2_with fail
    go_loopw [5] (fun fr wr => ∃ j : Nat, j ≤ b.size ∧ fr = .int .i64 j ∧ j + pre (a.data.toList.drop j) (b.data.toList.drop j) = F ∧ Below w.heap.size w wr) (fun fr _ => a.size - (intOf fr).toNat)
    case atStart => exact ⟨0, by omega, rfl, by rw [← Hdf.out]; simp [dfrom], Below.refl _ _⟩
    case round =>
      obtain ⟨j, hj1, rfl, hp, hbw⟩ := hrel
      have Hp := Lib.hid hp
      clear hp
      by_cases hlt : j < b.size
      · have d1 : decide ((j : Int) < (b.size : Int)) = true := decide_eq_true (by omega)
        have i1 : (j : Int) < (a.size : Int) := by omega
        have i2 : (j : Int) < (b.size : Int) := by omega
        have hja : j < a.size := by omega
        have hjb : j < b.size := by omega
        by_cases hq : a[j] = b[j]
        · have t1 : (((a[j]).toNat : Int) == ((b[j]).toNat : Int)) = true := by rw [hq]; simp
          have Hq := Lib.hid hq
          clear hq
          go_wp2_with fail
          go_quiet (fail)
          go_wp2_with fail
          go_roundw
          case rel =>
            have e1 : a.data.toList[j]? = some a[j] := by rw [List.getElem?_eq_getElem (by simpa using hja)]; rfl
            have e2 : b.data.toList[j]? = some a[j] := by rw [List.getElem?_eq_getElem (by simpa using hjb), Hq.out]; rfl
            exact ⟨j + 1, by omega, by go_num, by rw [← Hp.out, pre_step e1 e2]; omega, below_drewN hbw _⟩
          case measure => simp [intOf]; omega
        · have t1 : (((a[j]).toNat : Int) == ((b[j]).toNat : Int)) = false := by
            rw [beq_eq_false_iff_ne]
            intro h
            exact hq (UInt8.toNat_inj.1 (by omega))
          have hz : pre (a.data.toList.drop j) (b.data.toList.drop j) = 0 := by
            refine pre_stop fun x y h1 h2 => ?_
            rw [List.getElem?_eq_getElem (by simpa using hja)] at h1
            rw [List.getElem?_eq_getElem (by simpa using hjb)] at h2
            simp only [Option.some.injEq] at h1 h2
            rw [← h1, ← h2]
            exact hq
          have hjF : j = F := by have := Hp.out; omega
          clear hq hz Hp
          subst hjF
          go_wp2_with fail
          go_quiet (fail)
          go_wp2_with fail
          obtain ⟨wo, rfl⟩ : ∃ wo : World, wo = wr := ⟨_, rfl⟩
          go_loopw [7, 8] (fun ea eb wr2 => ∃ p q k : Nat, j ≤ p ∧ j ≤ q ∧ p + k = a.size ∧ q + k = b.size ∧ ea = .int .i64 p ∧ eb = .int .i64 q ∧ k + pre ((a.data.toList.drop j).reverse.drop k) ((b.data.toList.drop j).reverse.drop k) = K ∧ Below w.heap.size w wr2) (fun ea _ _ => (intOf ea).toNat)
          case atStart => exact ⟨a.size, b.size, 0, by omega, by omega, by omega, by omega, rfl, rfl, by rw [← HK.out]; simp, below_drewN hbw _⟩
          case round =>
            obtain ⟨p, q, k, p1, p2, p3, p4, rfl, rfl, hp, hbw2⟩ := hrel
            have Hp := Lib.hid hp
            clear hp
            by_cases r1 : j < p ∧ j < q
            · obtain ⟨r1, r2⟩ := r1
              obtain ⟨p, rfl⟩ : ∃ x, p = x + 1 := ⟨p - 1, by omega⟩
              obtain ⟨q, rfl⟩ : ∃ x, q = x + 1 := ⟨q - 1, by omega⟩
              have hja : p < a.size := by omega
              have hjb : q < b.size := by omega
              have e1 : (a.data.toList.drop j).reverse[k]? = some a[p] := rev_get a j k p (by omega) hja (by omega)
              have e2 : (b.data.toList.drop j).reverse[k]? = some b[q] := rev_get b j k q (by omega) hjb (by omega)
              have E1 := Lib.hid e1
              have E2 := Lib.hid e2
              clear e1 e2
              have d1 : decide ((j : Int) < (p : Int) + 1) = true := decide_eq_true (by omega)
              have d2 : decide ((j : Int) < (q : Int) + 1) = true := decide_eq_true (by omega)
              have i1 : (p : Int) < (a.size : Int) := by omega
              have i2 : (q : Int) < (b.size : Int) := by omega
              have i3 : (j : Int) ≤ (q : Int) + 1 := by omega
              have i4 : (q : Int) + 1 ≤ (b.size : Int) := by omega
              by_cases hq : a[p] = b[q]
              · have t1 : (((a[p]).toNat : Int) == ((b[q]).toNat : Int)) = true := by rw [hq]; simp
                have Hq := Lib.hid hq
                clear hq
                go_wp2_with fail
                go_quiet (fail)
                go_wp2_with fail
                go_roundw
                case rel => exact ⟨p, q, k + 1, by omega, by omega, by omega, by omega, by go_num, by go_num, by rw [← Hp.out, pre_step E1.out (by rw [E2.out, Hq.out])]; omega, below_drewN hbw2 _⟩
                case measure => simp [intOf]
              · have t1 : (((a[p]).toNat : Int) == ((b[q]).toNat : Int)) = false := by
                  rw [beq_eq_false_iff_ne]
                  intro h
                  exact hq (UInt8.toNat_inj.1 (by omega))
                have hz : pre ((a.data.toList.drop j).reverse.drop k) ((b.data.toList.drop j).reverse.drop k) = 0 := by
                  refine pre_stop fun x y h1 h2 => ?_
                  rw [E1.out] at h1
                  rw [E2.out] at h2
                  simp only [Option.some.injEq] at h1 h2
                  rw [← h1, ← h2]
                  exact hq
                clear hq
                have hkK : k = K := by have := Hp.out; omega
                clear hz Hp
                subst hkK
                go_wp2_with fail
                go_quiet (fail)
                go_wp2
                go_ret
                refine ⟨wr.heap.size, rfl, hbw2.size, by simp, ?_, below_drewN (hbw2.alloc hbw2.size _) _⟩
                have hE : p + 1 = a.size - k := by omega
                have hF : q + 1 = b.size - k := by omega
                rw [← hE, ← hF]
                exact heap_alloc_new _ _
            · have hz : pre ((a.data.toList.drop j).reverse.drop k) ((b.data.toList.drop j).reverse.drop k) = 0 := by
                refine pre_stop fun x y h1 h2 => ?_
                have k1 := (List.getElem?_eq_some_iff.1 h1).1
                have k2 := (List.getElem?_eq_some_iff.1 h2).1
                rw [List.length_reverse, List.length_drop, Hla.out] at k1
                rw [List.length_reverse, List.length_drop, Hlb.out] at k2
                omega
              by_cases r2 : j < p
              · have d1 : decide ((j : Int) < (p : Int)) = true := decide_eq_true (by omega)
                have d2 : decide ((j : Int) < (q : Int)) = false := decide_eq_false (by omega)
                have n2 : decide (j < q) = false := decide_eq_false (by omega)
                have n1 : decide (j < p) = true := decide_eq_true r2
                have i3 : (j : Int) ≤ (q : Int) := by omega
                have i4 : (q : Int) ≤ (b.size : Int) := by omega
                clear r1
                have hkK : k = K := by have := Hp.out; omega
                clear hz Hp
                subst hkK
                go_wp2_with fail
                go_quiet (fail)
                go_wp2
                go_ret
                refine ⟨wr.heap.size, rfl, hbw2.size, by simp, ?_, below_drewN (hbw2.alloc hbw2.size _) _⟩
                have hE : p = a.size - k := by omega
                have hF : q = b.size - k := by omega
                rw [← hE, ← hF]
                exact heap_alloc_new _ _
              · have d1 : decide ((j : Int) < (p : Int)) = false := decide_eq_false (by omega)
                have n1 : decide (j < p) = false := decide_eq_false r2
                have i3 : (j : Int) ≤ (q : Int) := by omega
                have i4 : (q : Int) ≤ (b.size : Int) := by omega
                clear r1 r2
                have hkK : k = K := by have := Hp.out; omega
                clear hz Hp
                subst hkK
                go_wp2_with fail
                go_quiet (fail)
                go_wp2
                go_ret
                refine ⟨wr.heap.size, rfl, hbw2.size, by simp, ?_, below_drewN (hbw2.alloc hbw2.size _) _⟩
                have hE : p = a.size - k := by omega
                have hF : q = b.size - k := by omega
                rw [← hE, ← hF]
                exact heap_alloc_new _ _
      · have d1 : decide ((j : Int) < (b.size : Int)) = false := decide_eq_false (by omega)
        have hz : pre (a.data.toList.drop j) (b.data.toList.drop j) = 0 := by
          refine pre_stop fun x y h1 h2 => ?_
          have k1 := (List.getElem?_eq_some_iff.1 h1).1
          have k2 := (List.getElem?_eq_some_iff.1 h2).1
          rw [Hla.out] at k1
          rw [Hlb.out] at k2
          omega
        have hjF : j = F := by have := Hp.out; omega
        clear hz Hp
        subst hjF
        go_wp2_with fail
        go_quiet (fail)
        go_wp2_with fail
        obtain ⟨wo, rfl⟩ : ∃ wo : World, wo = wr := ⟨_, rfl⟩
        go_loopw [7, 8] (fun ea eb wr2 => ∃ p q k : Nat, j ≤ p ∧ j ≤ q ∧ p + k = a.size ∧ q + k = b.size ∧ ea = .int .i64 p ∧ eb = .int .i64 q ∧ k + pre ((a.data.toList.drop j).reverse.drop k) ((b.data.toList.drop j).reverse.drop k) = K ∧ Below w.heap.size w wr2) (fun ea _ _ => (intOf ea).toNat)
        case atStart => exact ⟨a.size, b.size, 0, by omega, by omega, by omega, by omega, rfl, rfl, by rw [← HK.out]; simp, below_drewN hbw _⟩
        case round =>
          obtain ⟨p, q, k, p1, p2, p3, p4, rfl, rfl, hp, hbw2⟩ := hrel
          have Hp := Lib.hid hp
          clear hp
          by_cases r1 : j < p ∧ j < q
          · obtain ⟨r1, r2⟩ := r1
            obtain ⟨p, rfl⟩ : ∃ x, p = x + 1 := ⟨p - 1, by omega⟩
            obtain ⟨q, rfl⟩ : ∃ x, q = x + 1 := ⟨q - 1, by omega⟩
            have hja : p < a.size := by omega
            have hjb : q < b.size := by omega
            have e1 : (a.data.toList.drop j).reverse[k]? = some a[p] := rev_get a j k p (by omega) hja (by omega)
            have e2 : (b.data.toList.drop j).reverse[k]? = some b[q] := rev_get b j k q (by omega) hjb (by omega)
            have E1 := Lib.hid e1
            have E2 := Lib.hid e2
            clear e1 e2
            have d1 : decide ((j : Int) < (p : Int) + 1) = true := decide_eq_true (by omega)
            have d2 : decide ((j : Int) < (q : Int) + 1) = true := decide_eq_true (by omega)
            have i1 : (p : Int) < (a.size : Int) := by omega
            have i2 : (q : Int) < (b.size : Int) := by omega
            have i3 : (j : Int) ≤ (q : Int) + 1 := by omega
            have i4 : (q : Int) + 1 ≤ (b.size : Int) := by omega
            by_cases hq : a[p] = b[q]
            · have t1 : (((a[p]).toNat : Int) == ((b[q]).toNat : Int)) = true := by rw [hq]; simp
              have Hq := Lib.hid hq
              clear hq
              go_wp2_with fail
              go_quiet (fail)
              go_wp2_with fail
              go_roundw
              case rel => exact ⟨p, q, k + 1, by omega, by omega, by omega, by omega, by go_num, by go_num, by rw [← Hp.out, pre_step E1.out (by rw [E2.out, Hq.out])]; omega, below_drewN hbw2 _⟩
              case measure => simp [intOf]
            · have t1 : (((a[p]).toNat : Int) == ((b[q]).toNat : Int)) = false := by
                rw [beq_eq_false_iff_ne]
                intro h
                exact hq (UInt8.toNat_inj.1 (by omega))
              have hz : pre ((a.data.toList.drop j).reverse.drop k) ((b.data.toList.drop j).reverse.drop k) = 0 := by
                refine pre_stop fun x y h1 h2 => ?_
                rw [E1.out] at h1
                rw [E2.out] at h2
                simp only [Option.some.injEq] at h1 h2
                rw [← h1, ← h2]
                exact hq
              clear hq
              exfalso
              omega
          · have hz : pre ((a.data.toList.drop j).reverse.drop k) ((b.data.toList.drop j).reverse.drop k) = 0 := by
              refine pre_stop fun x y h1 h2 => ?_
              have k1 := (List.getElem?_eq_some_iff.1 h1).1
              have k2 := (List.getElem?_eq_some_iff.1 h2).1
              rw [List.length_reverse, List.length_drop, Hla.out] at k1
              rw [List.length_reverse, List.length_drop, Hlb.out] at k2
              omega
            by_cases r2 : j < p
            · have d1 : decide ((j : Int) < (p : Int)) = true := decide_eq_true (by omega)
              have d2 : decide ((j : Int) < (q : Int)) = false := decide_eq_false (by omega)
              have n2 : decide (j < q) = false := decide_eq_false (by omega)
              have n1 : decide (j < p) = true := decide_eq_true r2
              have i3 : (j : Int) ≤ (q : Int) := by omega
              have i4 : (q : Int) ≤ (b.size : Int) := by omega
              clear r1
              have hkK : k = K := by have := Hp.out; omega
              clear hz Hp
              subst hkK
              go_wp2_with fail
              go_quiet (fail)
              go_wp2
              go_ret
              refine ⟨wr.heap.size, rfl, hbw2.size, by simp, ?_, below_drewN (hbw2.alloc hbw2.size _) _⟩
              have hE : p = a.size - k := by omega
              have hF : q = b.size - k := by omega
              rw [← hE, ← hF]
              exact heap_alloc_new _ _
            · have d1 : decide ((j : Int) < (p : Int)) = false := decide_eq_false (by omega)
              have n1 : decide (j < p) = false := decide_eq_false r2
              have i3 : (j : Int) ≤ (q : Int) := by omega
              have i4 : (q : Int) ≤ (b.size : Int) := by omega
              clear r1 r2
              have hkK : k = K := by have := Hp.out; omega
              clear hz Hp
              subst hkK
              go_wp2_with fail
              go_quiet (fail)
              go_wp2
              go_ret
              refine ⟨wr.heap.size, rfl, hbw2.size, by simp, ?_, below_drewN (hbw2.alloc hbw2.size _) _⟩
              have hE : p = a.size - k := by omega
              have hF : q = b.size - k := by omega
              rw [← hE, ← hF]
              exact heap_alloc_new _ _
end Go.Proofs.Ytdiaghmkbplipaa
