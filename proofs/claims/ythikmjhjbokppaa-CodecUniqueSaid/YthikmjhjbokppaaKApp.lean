/- The contracts of codec's appendNumber, appendText, PutInt, PutText. -/
import Derived.Test.YthikmjhjbokppaaKZ
import Derived.Lib.FrozenHead2
namespace Go.Proofs.Ythikmjhjbokppaa
open Go.RowKit

theorem byteInfo : (Try.prog.info? 5).map (fun i => (i.zero, i.size, i.bytes)) = some (some (.int .u8 0), 1, 1) := by kernel_rfl

/-- A slice of fresh bytes: the value v holds l, in a block of its own at or above B. -/
def Own (w : World) (B : Nat) (v : Value) (l : List UInt8) : Prop := w.ownsRowF B 5 1 v l.length (Lib.byteCells l)

theorem u8_or128 : ∀ a, a < 256 → a ||| 128 = a % 128 + 128 := by decide +kernel
theorem u8_orI (z : Nat) : bits .or .u8 ((z : Int) % 256) 128 = ((z % 128 + 128 : Nat) : Int) := by
  have h := u8_or_nat (z % 256) 128 (by omega) (by decide)
  rw [u8_or128 _ (by omega)] at h
  rw [show ((z : Int) % 256) = ((z % 256 : Nat) : Int) from by omega]
  rw [show ((128 : Int)) = ((128 : Nat) : Int) from rfl, h]
  omega

theorem own_lt {w : World} {B : Nat} {v : Value} {l : List UInt8} (h : Own w B v l) (k : Nat) (hk : v.ownBlock = some k) : B ≤ k ∧ k < w.heap.size := h.lt k hk
theorem own_alloc {w : World} {B : Nat} {v : Value} {l : List UInt8} (h : Own w B v l) (o : Obj) : Own (w.alloc o) B v l := World.ownsRowF.alloc h o
theorem own_push {w : World} {B : Nat} {v : Value} {l : List UInt8} {x : Int} {c : UInt8} (h : w.ownsRowF B 5 1 v (l.length + 1) (Lib.byteCells l ++ [.int .u8 x])) (hx : x = c.toNat) : Own w B v (l ++ [c]) := by
  subst hx
  unfold Own
  rw [Lib.byteCells_append, List.length_append]
  exact h
theorem own_nil (w : World) (B : Nat) : Own w B (.slice none 0 0) [] := ⟨rfl, .inl ⟨rfl, rfl⟩⟩

set_option maxHeartbeats 4000000 in
set_option maxRecDepth 100000 in
theorem appendNumber_c (B : Nat) (v : Value) (l : List UInt8) (n : Int) (w : World) (h0 : -9223372036854775808 ≤ n) (h1 : n ≤ 9223372036854775807) (hl : l.length ≤ 1000000) (hB : B ≤ w.heap.size) (hv : Own w B v l) :
    Calls Try.prog 27 #[v, .int .i64 n] w fun e w' => ∃ v', e = .returned v' ∧ Own w' B v' (l ++ encI n) ∧ Below B w w' := by
  obtain ⟨i0, hi, hz0, hz1, hz2⟩ := info_parts byteInfo
  have hzz := zz_lt h0 h1
  have hlen := encI_len h0 h1
  have hzz2 : zz n < 18446744073709551616 := hzz
  clear hzz
  have hE : Hid (encI n = putZ (zz n)) := Lib.hid rfl
  go_enter Try.func27, Try.ntmps27
  go_wp2_with fail
  refine (zigzag_c n _ h0 h1).mono ?_
  rintro e w' ⟨rfl, rfl⟩
  generalize zz n = z0 at *
  go_wp2_with fail
  go_loopw [0, 5] (fun sv zv wr => ∃ (z : Nat) (l' : List UInt8), zv = .int .u64 z ∧ z < 18446744073709551616 ∧ Own wr B sv l' ∧ l' ++ putZ z = l ++ encI n ∧ Below B w wr) (fun _ zv _ => (intOf zv).toNat)
  case atStart => exact ⟨z0, l, rfl, hzz2, hv, by rw [hE.out], Below.refl _ _⟩
  case round =>
    obtain ⟨z, l', rfl, hz, hv', he, hb⟩ := hrel
    have hl' : l'.length ≤ 1000010 := by
      have := congrArg List.length he
      rw [List.length_append, List.length_append] at this
      have := putZ_pos z
      omega
    have hsz := hb.size
    have hw256 : IntKind.u8.wrap (z : Int) = (z : Int) % 256 := by rw [IntKind.wrap_u8]
    by_cases h : z < 128
    · have t1 : decide ((128 : Int) ≤ (z : Int)) = false := decide_eq_false (by omega)
      have t2 : decide (128 ≤ z) = false := decide_eq_false (by omega)
      rw [putZ_lt h] at he
      have He := Lib.hid he
      clear he
      have hm : (z : Int) % 256 = (z.toUInt8.toNat : Int) := by rw [u8_toNat (by omega)]; omega
      have Hm := Lib.hid hm
      clear hm
      go_wp2_with (at_builtin; refine wpList_append_ownF _ rfl _ _ 22 rfl B 5 i0 (.int .u8 0) 1 1 Try.underlying22 hi hz0 hz1 hz2 rfl (by decide) _ _ _ rfl (own_alloc hv' _) ⟨wr.heap.size, 0, none⟩ 1 1 [.int .u8 ((z : Int) % 256)] rfl rfl ?c1 ?c2 ?c3 ?c4 ?c5 ?_)
      case c1 =>
        intro j u hj
        match j, hj with
        | 0, hj => simp at hj; subst hj; simp [Addr.add]
      case c2 => intro u hu; simp at hu; subst hu; rfl
      case c3 => unfold maxLen; omega
      case c4 => omega
      case c5 => simp; omega
      intro v' w2 hown' hgrow _
      go_wp2_with fail
      go_ret
      refine ⟨v', rfl, ?_, (hb.alloc (Nat.le_trans hB hsz) _).grown hgrow (by simp; omega) (fun k hk => (own_lt hv' k hk).1)⟩
      rw [← He.out]
      exact own_push hown' Hm.out
    · have t1 : decide ((128 : Int) ≤ (z : Int)) = true := decide_eq_true (by omega)
      have t2 : decide (128 ≤ z) = true := decide_eq_true (by omega)
      rw [putZ_ge h] at he
      have He := Lib.hid he
      have hor := u8_orI z
      have hm : ((z % 128 + 128 : Nat) : Int) = ((z % 128 + 128).toUInt8.toNat : Int) := by rw [u8_toNat (by omega)]
      have Hm := Lib.hid hm
      clear he hm
      go_wp2_with (at_builtin; refine wpList_append_ownF _ rfl _ _ 22 rfl B 5 i0 (.int .u8 0) 1 1 Try.underlying22 hi hz0 hz1 hz2 rfl (by decide) _ _ _ rfl (own_alloc hv' _) ⟨wr.heap.size, 0, none⟩ 1 1 [.int .u8 ((z % 128 + 128 : Nat) : Int)] rfl rfl ?c1 ?c2 ?c3 ?c4 ?c5 ?_)
      case c1 =>
        intro j u hj
        match j, hj with
        | 0, hj => simp at hj; subst hj; simp [Addr.add]
      case c2 => intro u hu; simp at hu; subst hu; rfl
      case c3 => unfold maxLen; omega
      case c4 => omega
      case c5 => simp; omega
      intro v' w2 hown' hgrow _
      have hnew := own_push (c := (z % 128 + 128).toUInt8) hown' Hm.out
      have hbl := (hb.alloc (Nat.le_trans hB hsz) _).grown hgrow (by simp; omega) (fun k hk => (own_lt hv' k hk).1)
      go_wp2_with fail
      go_roundw
      case rel => exact ⟨z / 128, l' ++ [(z % 128 + 128).toUInt8], by go_num, by omega, hnew, by rw [List.append_assoc, List.singleton_append]; exact He.out, hbl⟩
      case measure => simp [intOf]; omega
end Go.Proofs.Ythikmjhjbokppaa
