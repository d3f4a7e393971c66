/- The contracts of the reference's Diff and Same. -/
import Derived.Test.YtdiaghmkbplipabDiff
import Derived.Deep.Draws
namespace Go.Proofs.Ytdiaghmkbplipab
open Go.RowKit

set_option maxHeartbeats 2000000 in
theorem rdiff_c (a b : ByteArray) (w : World) (ha : a.size ≤ 17000) (hb : b.size ≤ 17000) (hab : a ≠ b) :
    Calls Try.prog 12 #[.string a, .string b] w fun e w' => ∃ g, e = .returned (.slice (some ⟨g, 0, none⟩) 1 1) ∧ w.heap.size ≤ g ∧ g < w'.heap.size ∧
      w'.heap[g]? = some (.cells #[.int .i64 (dfrom a b), .int .i64 ((a.size - dback a b : Nat) : Int), .string (b.extract (dfrom a b) (b.size - dback a b))] 37 (0, 0)) ∧ Below w.heap.size w w' := by
  have t0 : (a.toList == b.toList) = false := by
    rw [ByteArray.toList_eq, ByteArray.toList_eq, beq_eq_false_iff_ne]
    exact fun h => hab (Go.WideShapes.bytes_inj h)
  clear hab
  have hla : a.data.toList.length = a.size := by simp
  have hlb : b.data.toList.length = b.size := by simp
  have hd := pre_le a.data.toList b.data.toList
  rw [hla, hlb] at hd
  have hbk := pre_le (a.data.toList.drop (dfrom a b)).reverse (b.data.toList.drop (dfrom a b)).reverse
  simp only [List.length_reverse, List.length_drop, hla, hlb] at hbk
  have Hla := Lib.hid hla; have Hlb := Lib.hid hlb
  clear hla hlb
  have Hd1 := hd.1; have Hd2 := hd.2; have Hk1 := hbk.1; have Hk2 := hbk.2
  clear hd hbk
  unfold dback
  generalize hdf : dfrom a b = F at *
  have Hdf := Lib.hid hdf
  clear hdf
  generalize hK : pre (a.data.toList.drop F).reverse (b.data.toList.drop F).reverse = K at *
  have HK := Lib.hid hK
  clear hK
  go_enter Try.func12, Try.ntmps12
  go_wp2_with fail
  go_loopw [5] (fun fr wr => ∃ j : Nat, j ≤ a.size ∧ j ≤ b.size ∧ fr = .int .i64 j ∧ j + pre (a.data.toList.drop j) (b.data.toList.drop j) = F ∧ Below w.heap.size w wr) (fun fr _ => a.size - (intOf fr).toNat)
  case atStart => exact ⟨0, by omega, by omega, rfl, by rw [← Hdf.out]; simp [dfrom], Below.refl _ _⟩
  case round =>
    obtain ⟨j, hj1, hj2, rfl, hp, hbw⟩ := hrel
    have Hp := Lib.hid hp
    clear hp
    by_cases hja : j < a.size
    · by_cases hjb : j < b.size
      · have d1 : decide ((j : Int) < (a.size : Int)) = true := decide_eq_true (by omega)
        have d2 : decide ((j : Int) < (b.size : Int)) = true := decide_eq_true (by omega)
        have n1 : decide (j < a.size) = true := decide_eq_true (by omega)
        have n2 : decide (j < b.size) = true := decide_eq_true (by omega)
        have i1 : (j : Int) < (a.size : Int) := by omega
        have i2 : (j : Int) < (b.size : Int) := by omega
        by_cases hq : a[j] = b[j]
        · have t1 : (((a[j]).toNat : Int) == ((b[j]).toNat : Int)) = true := by rw [hq]; simp
          have Hq := Lib.hid hq
          clear hq
          go_wp2_with fail
          go_quiet (fail)
          go_wp2_with fail
          go_roundw
          case rel =>
            have e1 : a.data.toList[j]? = some a[j] := by rw [List.getElem?_eq_getElem (by simpa using hja)]; rfl
            have e2 : b.data.toList[j]? = some a[j] := by rw [List.getElem?_eq_getElem (by simpa using hjb), Hq.out]; rfl
            exact ⟨j + 1, by omega, by omega, by go_num, by rw [← Hp.out, pre_step e1 e2]; omega, below_drewN hbw _⟩
          case measure => simp [intOf]; omega
        · have t1 : (((a[j]).toNat : Int) == ((b[j]).toNat : Int)) = false := by
            rw [beq_eq_false_iff_ne]
            intro h
            exact hq (UInt8.toNat_inj.1 (by omega))
          have hz : pre (a.data.toList.drop j) (b.data.toList.drop j) = 0 := by
            refine pre_stop fun x y h1 h2 => ?_
            rw [List.getElem?_eq_getElem (by simpa using hja)] at h1
            rw [List.getElem?_eq_getElem (by simpa using hjb)] at h2
            simp only [Option.some.injEq] at h1 h2
            rw [← h1, ← h2]
            exact hq
          have hjF : j = F := by have := Hp.out; omega
          clear hq hz Hp
          subst hjF
          go_wp2_with fail
          go_quiet (fail)
          go_wp2_with fail
          obtain ⟨wo, rfl⟩ : ∃ wo : World, wo = wr := ⟨_, rfl⟩
          go_loopw [6] (fun kv wr2 => ∃ k : Nat, j + k ≤ a.size ∧ j + k ≤ b.size ∧ kv = .int .i64 k ∧ k + pre ((a.data.toList.drop j).reverse.drop k) ((b.data.toList.drop j).reverse.drop k) = K ∧ Below w.heap.size w wr2) (fun kv _ => a.size - (intOf kv).toNat)
          case atStart => exact ⟨0, by omega, by omega, rfl, by rw [← HK.out]; simp, below_drewN hbw _⟩
          case round =>
            obtain ⟨k, p1, p2, rfl, hp, hbw2⟩ := hrel
            have Hp := Lib.hid hp
            clear hp
            have u1 : IntKind.i64.wrap ((a.size : Int) - (j : Int)) = (a.size : Int) - j := IntWalk.i64_in _ (by omega)
            have u2 : IntKind.i64.wrap ((b.size : Int) - (j : Int)) = (b.size : Int) - j := IntWalk.i64_in _ (by omega)
            have i3 : (j : Int) ≤ (b.size : Int) - (k : Int) := by omega
            have i4 : (b.size : Int) - (k : Int) ≤ (b.size : Int) := by omega
            have i5 : 0 ≤ (b.size : Int) - (k : Int) := by omega
            by_cases r1 : j + k < a.size
            · have c1 : decide ((k : Int) < (a.size : Int) - (j : Int)) = true := decide_eq_true (by omega)
              by_cases r2 : j + k < b.size
              · have c2 : decide ((k : Int) < (b.size : Int) - (j : Int)) = true := decide_eq_true (by omega)
                obtain ⟨p, hpa⟩ : ∃ p, p + 1 + k = a.size := ⟨a.size - 1 - k, by omega⟩
                obtain ⟨q, hqb⟩ : ∃ q, q + 1 + k = b.size := ⟨b.size - 1 - k, by omega⟩
                have hja' : p < a.size := by omega
                have hjb' : q < b.size := by omega
                have E1 := Lib.hid (rev_get a j k p (by omega) hja' (by omega))
                have E2 := Lib.hid (rev_get b j k q (by omega) hjb' (by omega))
                have v1 : IntKind.i64.wrap ((a.size : Int) - 1) = (a.size : Int) - 1 := IntWalk.i64_in _ (by omega)
                have v2 : IntKind.i64.wrap ((b.size : Int) - 1) = (b.size : Int) - 1 := IntWalk.i64_in _ (by omega)
                have v3 : IntKind.i64.wrap ((a.size : Int) - 1 - (k : Int)) = (p : Int) := by rw [show (a.size : Int) - 1 - (k : Int) = (p : Int) from by omega]; exact IntWalk.i64_in _ (by omega)
                have v4 : IntKind.i64.wrap ((b.size : Int) - 1 - (k : Int)) = (q : Int) := by rw [show (b.size : Int) - 1 - (k : Int) = (q : Int) from by omega]; exact IntWalk.i64_in _ (by omega)
                have j1 : (p : Int) < (a.size : Int) := by omega
                have j2 : (q : Int) < (b.size : Int) := by omega
                have Hpa := Lib.hid hpa
                have Hqb := Lib.hid hqb
                clear hpa hqb
                by_cases hq : a[p] = b[q]
                · have t1 : (((a[p]).toNat : Int) == ((b[q]).toNat : Int)) = true := by rw [hq]; simp
                  have Hq := Lib.hid hq
                  clear hq
                  go_wp2_with fail
                  go_quiet (fail)
                  clear u1 u2 v1 v2 v3 v4
                  go_wp2_with fail
                  go_roundw
                  case rel => exact ⟨k + 1, by omega, by omega, by go_num, by rw [← Hp.out, pre_step E1.out (by rw [E2.out, Hq.out])]; omega, below_drewN hbw2 _⟩
                  case measure => simp [intOf]; omega
                · have t1 : (((a[p]).toNat : Int) == ((b[q]).toNat : Int)) = false := by
                    rw [beq_eq_false_iff_ne]
                    intro h
                    exact hq (UInt8.toNat_inj.1 (by omega))
                  have hz : pre ((a.data.toList.drop j).reverse.drop k) ((b.data.toList.drop j).reverse.drop k) = 0 := by
                    refine pre_stop fun x y h1 h2 => ?_
                    rw [E1.out] at h1
                    rw [E2.out] at h2
                    simp only [Option.some.injEq] at h1 h2
                    rw [← h1, ← h2]
                    exact hq
                  clear hq
                  have hkK : k = K := by have := Hp.out; omega
                  clear hz Hp
                  subst hkK
                  go_wp2_with fail
                  go_quiet (fail)
                  go_wp2_with fail
                  go_ret
                  refine ⟨wr.heap.size, rfl, hbw2.size, by simp, ?_, below_drewN (hbw2.alloc hbw2.size _) _⟩
                  have hx := fun n => heap_alloc_new (wr.drewN n) (.cells #[.int .i64 j, .int .i64 ((a.size - k : Nat) : Int), .string (b.extract j (b.size - k))] 37)
                  have ea : ((a.size - k : Nat) : Int) = (a.size : Int) - k := by omega
                  have eb : ((b.size : Int) - k).toNat = b.size - k := by omega
                  rw [ea]
                  simp only [ea] at hx
                  simpa [eb] using hx _
              · have c2 : decide ((k : Int) < (b.size : Int) - (j : Int)) = false := decide_eq_false (by omega)
                have hz : pre ((a.data.toList.drop j).reverse.drop k) ((b.data.toList.drop j).reverse.drop k) = 0 := by
                  refine pre_stop fun x y h1 h2 => ?_
                  have k1 := (List.getElem?_eq_some_iff.1 h1).1
                  have k2 := (List.getElem?_eq_some_iff.1 h2).1
                  rw [List.length_reverse, List.length_drop, Hla.out] at k1
                  rw [List.length_reverse, List.length_drop, Hlb.out] at k2
                  omega
                have hkK : k = K := by have := Hp.out; omega
                clear hz Hp
                subst hkK
                go_wp2_with fail
                go_quiet (fail)
                go_wp2_with fail
                go_ret
                refine ⟨wr.heap.size, rfl, hbw2.size, by simp, ?_, below_drewN (hbw2.alloc hbw2.size _) _⟩
                have hx := fun n => heap_alloc_new (wr.drewN n) (.cells #[.int .i64 j, .int .i64 ((a.size - k : Nat) : Int), .string (b.extract j (b.size - k))] 37)
                have ea : ((a.size - k : Nat) : Int) = (a.size : Int) - k := by omega
                have eb : ((b.size : Int) - k).toNat = b.size - k := by omega
                rw [ea]
                simp only [ea] at hx
                simpa [eb] using hx _
            · have c1 : decide ((k : Int) < (a.size : Int) - (j : Int)) = false := decide_eq_false (by omega)
              have hz : pre ((a.data.toList.drop j).reverse.drop k) ((b.data.toList.drop j).reverse.drop k) = 0 := by
                refine pre_stop fun x y h1 h2 => ?_
                have k1 := (List.getElem?_eq_some_iff.1 h1).1
                have k2 := (List.getElem?_eq_some_iff.1 h2).1
                rw [List.length_reverse, List.length_drop, Hla.out] at k1
                rw [List.length_reverse, List.length_drop, Hlb.out] at k2
                omega
              have hkK : k = K := by have := Hp.out; omega
              clear hz Hp
              subst hkK
              go_wp2_with fail
              go_quiet (fail)
              go_wp2_with fail
              go_ret
              refine ⟨wr.heap.size, rfl, hbw2.size, by simp, ?_, below_drewN (hbw2.alloc hbw2.size _) _⟩
              have hx := fun n => heap_alloc_new (wr.drewN n) (.cells #[.int .i64 j, .int .i64 ((a.size - k : Nat) : Int), .string (b.extract j (b.size - k))] 37)
              have ea : ((a.size - k : Nat) : Int) = (a.size : Int) - k := by omega
              have eb : ((b.size : Int) - k).toNat = b.size - k := by omega
              rw [ea]
              simp only [ea] at hx
              simpa [eb] using hx _
      · have d1 : decide ((j : Int) < (a.size : Int)) = true := decide_eq_true (by omega)
        have d2 : decide ((j : Int) < (b.size : Int)) = false := decide_eq_false (by omega)
        have n1 : decide (j < a.size) = true := decide_eq_true (by omega)
        have n2 : decide (j < b.size) = false := decide_eq_false (by omega)
        have hz : pre (a.data.toList.drop j) (b.data.toList.drop j) = 0 := by
          refine pre_stop fun x y h1 h2 => ?_
          have k1 := (List.getElem?_eq_some_iff.1 h1).1
          have k2 := (List.getElem?_eq_some_iff.1 h2).1
          rw [Hla.out] at k1
          rw [Hlb.out] at k2
          omega
        have hjF : j = F := by have := Hp.out; omega
        clear hz Hp
        subst hjF
        go_wp2_with fail
        go_quiet (fail)
        go_wp2_with fail
        obtain ⟨wo, rfl⟩ : ∃ wo : World, wo = wr := ⟨_, rfl⟩
        go_loopw [6] (fun kv wr2 => ∃ k : Nat, j + k ≤ a.size ∧ j + k ≤ b.size ∧ kv = .int .i64 k ∧ k + pre ((a.data.toList.drop j).reverse.drop k) ((b.data.toList.drop j).reverse.drop k) = K ∧ Below w.heap.size w wr2) (fun kv _ => a.size - (intOf kv).toNat)
        case atStart => exact ⟨0, by omega, by omega, rfl, by rw [← HK.out]; simp, below_drewN hbw _⟩
        case round =>
          obtain ⟨k, p1, p2, rfl, hp, hbw2⟩ := hrel
          have Hp := Lib.hid hp
          clear hp
          have u1 : IntKind.i64.wrap ((a.size : Int) - (j : Int)) = (a.size : Int) - j := IntWalk.i64_in _ (by omega)
          have u2 : IntKind.i64.wrap ((b.size : Int) - (j : Int)) = (b.size : Int) - j := IntWalk.i64_in _ (by omega)
          have i3 : (j : Int) ≤ (b.size : Int) - (k : Int) := by omega
          have i4 : (b.size : Int) - (k : Int) ≤ (b.size : Int) := by omega
          have i5 : 0 ≤ (b.size : Int) - (k : Int) := by omega
          by_cases r1 : j + k < a.size
          · have c1 : decide ((k : Int) < (a.size : Int) - (j : Int)) = true := decide_eq_true (by omega)
            by_cases r2 : j + k < b.size
            · have c2 : decide ((k : Int) < (b.size : Int) - (j : Int)) = true := decide_eq_true (by omega)
              obtain ⟨p, hpa⟩ : ∃ p, p + 1 + k = a.size := ⟨a.size - 1 - k, by omega⟩
              obtain ⟨q, hqb⟩ : ∃ q, q + 1 + k = b.size := ⟨b.size - 1 - k, by omega⟩
              have hja' : p < a.size := by omega
              have hjb' : q < b.size := by omega
              have E1 := Lib.hid (rev_get a j k p (by omega) hja' (by omega))
              have E2 := Lib.hid (rev_get b j k q (by omega) hjb' (by omega))
              have v1 : IntKind.i64.wrap ((a.size : Int) - 1) = (a.size : Int) - 1 := IntWalk.i64_in _ (by omega)
              have v2 : IntKind.i64.wrap ((b.size : Int) - 1) = (b.size : Int) - 1 := IntWalk.i64_in _ (by omega)
              have v3 : IntKind.i64.wrap ((a.size : Int) - 1 - (k : Int)) = (p : Int) := by rw [show (a.size : Int) - 1 - (k : Int) = (p : Int) from by omega]; exact IntWalk.i64_in _ (by omega)
              have v4 : IntKind.i64.wrap ((b.size : Int) - 1 - (k : Int)) = (q : Int) := by rw [show (b.size : Int) - 1 - (k : Int) = (q : Int) from by omega]; exact IntWalk.i64_in _ (by omega)
              have j1 : (p : Int) < (a.size : Int) := by omega
              have j2 : (q : Int) < (b.size : Int) := by omega
              have Hpa := Lib.hid hpa
              have Hqb := Lib.hid hqb
              clear hpa hqb
              by_cases hq : a[p] = b[q]
              · have t1 : (((a[p]).toNat : Int) == ((b[q]).toNat : Int)) = true := by rw [hq]; simp
                have Hq := Lib.hid hq
                clear hq
                go_wp2_with fail
                go_quiet (fail)
                clear u1 u2 v1 v2 v3 v4
                go_wp2_with fail
                go_roundw
                case rel => exact ⟨k + 1, by omega, by omega, by go_num, by rw [← Hp.out, pre_step E1.out (by rw [E2.out, Hq.out])]; omega, below_drewN hbw2 _⟩
                case measure => simp [intOf]; omega
              · have t1 : (((a[p]).toNat : Int) == ((b[q]).toNat : Int)) = false := by
                  rw [beq_eq_false_iff_ne]
                  intro h
                  exact hq (UInt8.toNat_inj.1 (by omega))
                have hz : pre ((a.data.toList.drop j).reverse.drop k) ((b.data.toList.drop j).reverse.drop k) = 0 := by
                  refine pre_stop fun x y h1 h2 => ?_
                  rw [E1.out] at h1
                  rw [E2.out] at h2
                  simp only [Option.some.injEq] at h1 h2
                  rw [← h1, ← h2]
                  exact hq
                clear hq
                exfalso
                omega
            · have c2 : decide ((k : Int) < (b.size : Int) - (j : Int)) = false := decide_eq_false (by omega)
              have hz : pre ((a.data.toList.drop j).reverse.drop k) ((b.data.toList.drop j).reverse.drop k) = 0 := by
                refine pre_stop fun x y h1 h2 => ?_
                have k1 := (List.getElem?_eq_some_iff.1 h1).1
                have k2 := (List.getElem?_eq_some_iff.1 h2).1
                rw [List.length_reverse, List.length_drop, Hla.out] at k1
                rw [List.length_reverse, List.length_drop, Hlb.out] at k2
                omega
              have hkK : k = K := by have := Hp.out; omega
              clear hz Hp
              subst hkK
              go_wp2_with fail
              go_quiet (fail)
              go_wp2_with fail
              go_ret
              refine ⟨wr.heap.size, rfl, hbw2.size, by simp, ?_, below_drewN (hbw2.alloc hbw2.size _) _⟩
              have hx := fun n => heap_alloc_new (wr.drewN n) (.cells #[.int .i64 j, .int .i64 ((a.size - k : Nat) : Int), .string (b.extract j (b.size - k))] 37)
              have ea : ((a.size - k : Nat) : Int) = (a.size : Int) - k := by omega
              have eb : ((b.size : Int) - k).toNat = b.size - k := by omega
              rw [ea]
              simp only [ea] at hx
              simpa [eb] using hx _
          · have c1 : decide ((k : Int) < (a.size : Int) - (j : Int)) = false := decide_eq_false (by omega)
            have hz : pre ((a.data.toList.drop j).reverse.drop k) ((b.data.toList.drop j).reverse.drop k) = 0 := by
              refine pre_stop fun x y h1 h2 => ?_
              have k1 := (List.getElem?_eq_some_iff.1 h1).1
              have k2 := (List.getElem?_eq_some_iff.1 h2).1
              rw [List.length_reverse, List.length_drop, Hla.out] at k1
              rw [List.length_reverse, List.length_drop, Hlb.out] at k2
              omega
            exfalso
            omega
    · have d1 : decide ((j : Int) < (a.size : Int)) = false := decide_eq_false (by omega)
      have n1 : decide (j < a.size) = false := decide_eq_false (by omega)
      have hz : pre (a.data.toList.drop j) (b.data.toList.drop j) = 0 := by
        refine pre_stop fun x y h1 h2 => ?_
        have k1 := (List.getElem?_eq_some_iff.1 h1).1
        have k2 := (List.getElem?_eq_some_iff.1 h2).1
        rw [Hla.out] at k1
        rw [Hlb.out] at k2
        omega
      have hjF : j = F := by have := Hp.out; omega
      clear hz Hp
      subst hjF
      go_wp2_with fail
      go_quiet (fail)
      go_wp2_with fail
      obtain ⟨wo, rfl⟩ : ∃ wo : World, wo = wr := ⟨_, rfl⟩
      go_loopw [6] (fun kv wr2 => ∃ k : Nat, j + k ≤ a.size ∧ j + k ≤ b.size ∧ kv = .int .i64 k ∧ k + pre ((a.data.toList.drop j).reverse.drop k) ((b.data.toList.drop j).reverse.drop k) = K ∧ Below w.heap.size w wr2) (fun kv _ => a.size - (intOf kv).toNat)
      case atStart => exact ⟨0, by omega, by omega, rfl, by rw [← HK.out]; simp, below_drewN hbw _⟩
      case round =>
        obtain ⟨k, p1, p2, rfl, hp, hbw2⟩ := hrel
        have Hp := Lib.hid hp
        clear hp
        have u1 : IntKind.i64.wrap ((a.size : Int) - (j : Int)) = (a.size : Int) - j := IntWalk.i64_in _ (by omega)
        have u2 : IntKind.i64.wrap ((b.size : Int) - (j : Int)) = (b.size : Int) - j := IntWalk.i64_in _ (by omega)
        have i3 : (j : Int) ≤ (b.size : Int) - (k : Int) := by omega
        have i4 : (b.size : Int) - (k : Int) ≤ (b.size : Int) := by omega
        have i5 : 0 ≤ (b.size : Int) - (k : Int) := by omega
        by_cases r1 : j + k < a.size
        · have c1 : decide ((k : Int) < (a.size : Int) - (j : Int)) = true := decide_eq_true (by omega)
          by_cases r2 : j + k < b.size
          · have c2 : decide ((k : Int) < (b.size : Int) - (j : Int)) = true := decide_eq_true (by omega)
            obtain ⟨p, hpa⟩ : ∃ p, p + 1 + k = a.size := ⟨a.size - 1 - k, by omega⟩
            obtain ⟨q, hqb⟩ : ∃ q, q + 1 + k = b.size := ⟨b.size - 1 - k, by omega⟩
            have hja' : p < a.size := by omega
            have hjb' : q < b.size := by omega
            have E1 := Lib.hid (rev_get a j k p (by omega) hja' (by omega))
            have E2 := Lib.hid (rev_get b j k q (by omega) hjb' (by omega))
            have v1 : IntKind.i64.wrap ((a.size : Int) - 1) = (a.size : Int) - 1 := IntWalk.i64_in _ (by omega)
            have v2 : IntKind.i64.wrap ((b.size : Int) - 1) = (b.size : Int) - 1 := IntWalk.i64_in _ (by omega)
            have v3 : IntKind.i64.wrap ((a.size : Int) - 1 - (k : Int)) = (p : Int) := by rw [show (a.size : Int) - 1 - (k : Int) = (p : Int) from by omega]; exact IntWalk.i64_in _ (by omega)
            have v4 : IntKind.i64.wrap ((b.size : Int) - 1 - (k : Int)) = (q : Int) := by rw [show (b.size : Int) - 1 - (k : Int) = (q : Int) from by omega]; exact IntWalk.i64_in _ (by omega)
            have j1 : (p : Int) < (a.size : Int) := by omega
            have j2 : (q : Int) < (b.size : Int) := by omega
            have Hpa := Lib.hid hpa
            have Hqb := Lib.hid hqb
            clear hpa hqb
            by_cases hq : a[p] = b[q]
            · have t1 : (((a[p]).toNat : Int) == ((b[q]).toNat : Int)) = true := by rw [hq]; simp
              have Hq := Lib.hid hq
              clear hq
              go_wp2_with fail
              go_quiet (fail)
              clear u1 u2 v1 v2 v3 v4
              go_wp2_with fail
              go_roundw
              case rel => exact ⟨k + 1, by omega, by omega, by go_num, by rw [← Hp.out, pre_step E1.out (by rw [E2.out, Hq.out])]; omega, below_drewN hbw2 _⟩
              case measure => simp [intOf]; omega
            · have t1 : (((a[p]).toNat : Int) == ((b[q]).toNat : Int)) = false := by
                rw [beq_eq_false_iff_ne]
                intro h
                exact hq (UInt8.toNat_inj.1 (by omega))
              have hz : pre ((a.data.toList.drop j).reverse.drop k) ((b.data.toList.drop j).reverse.drop k) = 0 := by
                refine pre_stop fun x y h1 h2 => ?_
                rw [E1.out] at h1
                rw [E2.out] at h2
                simp only [Option.some.injEq] at h1 h2
                rw [← h1, ← h2]
                exact hq
              clear hq
              exfalso
              omega
          · have c2 : decide ((k : Int) < (b.size : Int) - (j : Int)) = false := decide_eq_false (by omega)
            have hz : pre ((a.data.toList.drop j).reverse.drop k) ((b.data.toList.drop j).reverse.drop k) = 0 := by
              refine pre_stop fun x y h1 h2 => ?_
              have k1 := (List.getElem?_eq_some_iff.1 h1).1
              have k2 := (List.getElem?_eq_some_iff.1 h2).1
              rw [List.length_reverse, List.length_drop, Hla.out] at k1
              rw [List.length_reverse, List.length_drop, Hlb.out] at k2
              omega
            exfalso
            omega
        · have c1 : decide ((k : Int) < (a.size : Int) - (j : Int)) = false := decide_eq_false (by omega)
          have hz : pre ((a.data.toList.drop j).reverse.drop k) ((b.data.toList.drop j).reverse.drop k) = 0 := by
            refine pre_stop fun x y h1 h2 => ?_
            have k1 := (List.getElem?_eq_some_iff.1 h1).1
            have k2 := (List.getElem?_eq_some_iff.1 h2).1
            rw [List.length_reverse, List.length_drop, Hla.out] at k1
            rw [List.length_reverse, List.length_drop, Hlb.out] at k2
            omega
          have hkK : k = K := by have := Hp.out; omega
          clear hz Hp
          subst hkK
          go_wp2_with fail
          go_quiet (fail)
          go_wp2_with fail
          go_ret
          refine ⟨wr.heap.size, rfl, hbw2.size, by simp, ?_, below_drewN (hbw2.alloc hbw2.size _) _⟩
          have hx := fun n => heap_alloc_new (wr.drewN n) (.cells #[.int .i64 j, .int .i64 ((a.size - k : Nat) : Int), .string (b.extract j (b.size - k))] 37)
          have ea : ((a.size - k : Nat) : Int) = (a.size : Int) - k := by omega
          have eb : ((b.size : Int) - k).toNat = b.size - k := by omega
          rw [ea]
          simp only [ea] at hx
          simpa [eb] using hx _
end Go.Proofs.Ytdiaghmkbplipab
