/- The reference's PutInt. -/
import Derived.Test.YthikmjhjbokppaaKRef
namespace Go.Proofs.Ythikmjhjbokppaa
open Go.RowKit
set_option linter.unusedVariables false

set_option maxHeartbeats 4000000 in
set_option maxRecDepth 100000 in
theorem rputInt_c (n : Int) (w : World) (h0 : -9223372036854775808 ≤ n) (h1 : n ≤ 9223372036854775807) :
    Calls Try.prog 30 #[.int .i64 n] w fun e w' => ∃ v', e = .returned v' ∧ Own w' w.heap.size v' (encI n) ∧ Below w.heap.size w w' := by
  obtain ⟨i0, hi, hz0, hz1, hz2⟩ := info_parts byteInfo
  have hzz : zz n < 18446744073709551616 := zz_lt h0 h1
  have hlen := encI_len h0 h1
  have hE : Hid (encI n = putZ (zz n)) := Lib.hid rfl
  by_cases hneg : n < 0
  · have t1 : decide (n < 0) = true := decide_eq_true hneg
    have hw1 : IntKind.i64.wrap (n + 1) = n + 1 := IntWalk.i64_in _ (by omega)
    have hw2 : IntKind.i64.wrap (-(n + 1)) = -(n + 1) := IntWalk.i64_in _ (by omega)
    have hw3 : IntKind.u64.wrap (-(n + 1)) = -(n + 1) := IntWalk.u64_in _ (by omega)
    have hw4 : IntKind.u64.wrap (2 * -(n + 1)) = 2 * -(n + 1) := IntWalk.u64_in _ (by omega)
    have hw5 : IntKind.u64.wrap (2 * -(n + 1) + 1) = 2 * -(n + 1) + 1 := IntWalk.u64_in _ (by omega)
    have hz : 2 * -(n + 1) + 1 = ((zz n : Nat) : Int) := by unfold zz; rw [if_pos hneg]; omega
    have Hz := Lib.hid hz
    clear hz
    generalize zz n = z0 at *
    go_enter Try.func30, Try.ntmps30
    go_wp2_with fail
    go_loopw [4, 3] (fun sv zv wr => ∃ (z : Nat) (l' : List UInt8), zv = .int .u64 z ∧ z < 18446744073709551616 ∧ Own wr w.heap.size sv l' ∧ l' ++ putZ z = encI n ∧ Below w.heap.size w wr) (fun _ zv _ => (intOf zv).toNat)
    case atStart => exact ⟨z0, [], by first | rw [Hz.out] | (congr 1; have := Hz.out; omega), hzz, own_nil w _, by rw [hE.out]; rfl, Below.refl _ _⟩
    case round =>
      obtain ⟨z, l', rfl, hz, hv', he, hb⟩ := hrel
      clear hw1 hw2 hw3 hw4 hw5
      have hl' : l'.length ≤ 10 := by
        have := congrArg List.length he
        rw [List.length_append] at this
        have := putZ_pos z
        omega
      have hsz := hb.size
      by_cases h : z < 128
      · have t1 : decide ((128 : Int) ≤ (z : Int)) = false := decide_eq_false (by omega)
        have t2 : decide (128 ≤ z) = false := decide_eq_false (by omega)
        have hw256 : IntKind.u8.wrap (z : Int) = (z : Int) := IntWalk.u8_in _ (by omega)
        rw [putZ_lt h] at he
        have He := Lib.hid he
        clear he
        have hm : (z : Int) = (z.toUInt8.toNat : Int) := by rw [u8_toNat (by omega)]
        have Hm := Lib.hid hm
        clear hm
        go_wp2_with (at_builtin; refine wpList_append_ownF _ rfl _ _ 22 rfl w.heap.size 5 i0 (.int .u8 0) 1 1 Try.underlying22 hi hz0 hz1 hz2 rfl (by decide) _ _ _ rfl (own_alloc hv' _) ⟨wr.heap.size, 0, none⟩ 1 1 [.int .u8 (z : Int)] rfl rfl ?c1 ?c2 ?c3 ?c4 ?c5 ?_)
        case c1 =>
          intro j u hj
          match j, hj with
          | 0, hj => simp at hj; subst hj; simp [Addr.add]
        case c2 => intro u hu; simp at hu; subst hu; rfl
        case c3 => unfold maxLen; omega
        case c4 => omega
        case c5 => simp; omega
        intro v' w2 hown' hgrow _
        go_wp2_with fail
        go_ret
        refine ⟨v', rfl, ?_, (hb.alloc hsz _).grown hgrow (by simp; omega) (fun k hk => (own_lt hv' k hk).1)⟩
        rw [← He.out]
        exact own_push hown' Hm.out
      · have t1 : decide ((128 : Int) ≤ (z : Int)) = true := decide_eq_true (by omega)
        have t2 : decide (128 ≤ z) = true := decide_eq_true (by omega)
        rw [putZ_ge h] at he
        have He := Lib.hid he
        have hwa : IntKind.u8.wrap ((z : Int) % 128) = (z : Int) % 128 := IntWalk.u8_in _ (by omega)
        have hwb : IntKind.u8.wrap ((z : Int) % 128 + 128) = (z : Int) % 128 + 128 := IntWalk.u8_in _ (by omega)
        have hm : ((z : Int) % 128 + 128) = ((z % 128 + 128).toUInt8.toNat : Int) := by rw [u8_toNat (by omega)]; omega
        have Hm := Lib.hid hm
        clear he hm
        go_wp2_with (at_builtin; refine wpList_append_ownF _ rfl _ _ 22 rfl w.heap.size 5 i0 (.int .u8 0) 1 1 Try.underlying22 hi hz0 hz1 hz2 rfl (by decide) _ _ _ rfl (own_alloc hv' _) ⟨wr.heap.size, 0, none⟩ 1 1 [.int .u8 ((z : Int) % 128 + 128)] rfl rfl ?c1 ?c2 ?c3 ?c4 ?c5 ?_)
        case c1 =>
          intro j u hj
          match j, hj with
          | 0, hj => simp at hj; subst hj; simp [Addr.add]
        case c2 => intro u hu; simp at hu; subst hu; rfl
        case c3 => unfold maxLen; omega
        case c4 => omega
        case c5 => simp; omega
        intro v' w2 hown' hgrow _
        have hnew := own_push (c := (z % 128 + 128).toUInt8) hown' Hm.out
        have hbl := (hb.alloc hsz _).grown hgrow (by simp; omega) (fun k hk => (own_lt hv' k hk).1)
        go_wp2_with fail
        go_roundw
        case rel => exact ⟨z / 128, l' ++ [(z % 128 + 128).toUInt8], by go_num, by omega, hnew, by rw [List.append_assoc, List.singleton_append]; exact He.out, hbl⟩
        case measure => simp [intOf]; omega
  · have t1 : decide (n < 0) = false := decide_eq_false hneg
    have hw1 : IntKind.u64.wrap n = n := IntWalk.u64_in _ (by omega)
    have hw2 : IntKind.u64.wrap (2 * n) = 2 * n := IntWalk.u64_in _ (by omega)
    have hz : 2 * n = ((zz n : Nat) : Int) := by unfold zz; rw [if_neg hneg]; omega
    have Hz := Lib.hid hz
    clear hz
    generalize zz n = z0 at *
    go_enter Try.func30, Try.ntmps30
    go_wp2_with fail
    go_loopw [4, 3] (fun sv zv wr => ∃ (z : Nat) (l' : List UInt8), zv = .int .u64 z ∧ z < 18446744073709551616 ∧ Own wr w.heap.size sv l' ∧ l' ++ putZ z = encI n ∧ Below w.heap.size w wr) (fun _ zv _ => (intOf zv).toNat)
    case atStart => exact ⟨z0, [], by first | rw [Hz.out] | (congr 1; have := Hz.out; omega), hzz, own_nil w _, by rw [hE.out]; rfl, Below.refl _ _⟩
    case round =>
      obtain ⟨z, l', rfl, hz, hv', he, hb⟩ := hrel
      clear hw1 hw2
      have hl' : l'.length ≤ 10 := by
        have := congrArg List.length he
        rw [List.length_append] at this
        have := putZ_pos z
        omega
      have hsz := hb.size
      by_cases h : z < 128
      · have t1 : decide ((128 : Int) ≤ (z : Int)) = false := decide_eq_false (by omega)
        have t2 : decide (128 ≤ z) = false := decide_eq_false (by omega)
        have hw256 : IntKind.u8.wrap (z : Int) = (z : Int) := IntWalk.u8_in _ (by omega)
        rw [putZ_lt h] at he
        have He := Lib.hid he
        clear he
        have hm : (z : Int) = (z.toUInt8.toNat : Int) := by rw [u8_toNat (by omega)]
        have Hm := Lib.hid hm
        clear hm
        go_wp2_with (at_builtin; refine wpList_append_ownF _ rfl _ _ 22 rfl w.heap.size 5 i0 (.int .u8 0) 1 1 Try.underlying22 hi hz0 hz1 hz2 rfl (by decide) _ _ _ rfl (own_alloc hv' _) ⟨wr.heap.size, 0, none⟩ 1 1 [.int .u8 (z : Int)] rfl rfl ?c1 ?c2 ?c3 ?c4 ?c5 ?_)
        case c1 =>
          intro j u hj
          match j, hj with
          | 0, hj => simp at hj; subst hj; simp [Addr.add]
        case c2 => intro u hu; simp at hu; subst hu; rfl
        case c3 => unfold maxLen; omega
        case c4 => omega
        case c5 => simp; omega
        intro v' w2 hown' hgrow _
        go_wp2_with fail
        go_ret
        refine ⟨v', rfl, ?_, (hb.alloc hsz _).grown hgrow (by simp; omega) (fun k hk => (own_lt hv' k hk).1)⟩
        rw [← He.out]
        exact own_push hown' Hm.out
      · have t1 : decide ((128 : Int) ≤ (z : Int)) = true := decide_eq_true (by omega)
        have t2 : decide (128 ≤ z) = true := decide_eq_true (by omega)
        rw [putZ_ge h] at he
        have He := Lib.hid he
        have hwa : IntKind.u8.wrap ((z : Int) % 128) = (z : Int) % 128 := IntWalk.u8_in _ (by omega)
        have hwb : IntKind.u8.wrap ((z : Int) % 128 + 128) = (z : Int) % 128 + 128 := IntWalk.u8_in _ (by omega)
        have hm : ((z : Int) % 128 + 128) = ((z % 128 + 128).toUInt8.toNat : Int) := by rw [u8_toNat (by omega)]; omega
        have Hm := Lib.hid hm
        clear he hm
        go_wp2_with (at_builtin; refine wpList_append_ownF _ rfl _ _ 22 rfl w.heap.size 5 i0 (.int .u8 0) 1 1 Try.underlying22 hi hz0 hz1 hz2 rfl (by decide) _ _ _ rfl (own_alloc hv' _) ⟨wr.heap.size, 0, none⟩ 1 1 [.int .u8 ((z : Int) % 128 + 128)] rfl rfl ?c1 ?c2 ?c3 ?c4 ?c5 ?_)
        case c1 =>
          intro j u hj
          match j, hj with
          | 0, hj => simp at hj; subst hj; simp [Addr.add]
        case c2 => intro u hu; simp at hu; subst hu; rfl
        case c3 => unfold maxLen; omega
        case c4 => omega
        case c5 => simp; omega
        intro v' w2 hown' hgrow _
        have hnew := own_push (c := (z % 128 + 128).toUInt8) hown' Hm.out
        have hbl := (hb.alloc hsz _).grown hgrow (by simp; omega) (fun k hk => (own_lt hv' k hk).1)
        go_wp2_with fail
        go_roundw
        case rel => exact ⟨z / 128, l' ++ [(z % 128 + 128).toUInt8], by go_num, by omega, hnew, by rw [List.append_assoc, List.singleton_append]; exact He.out, hbl⟩
        case measure => simp [intOf]; omega
end Go.Proofs.Ythikmjhjbokppaa
