/- The contract of the reference's begins. -/
import Derived.Test.YtdjphpobhbelaaaDoorREsc2
namespace Go.Proofs.YtdjphpobhbelaaaDoor
open Go.RowKit

theorem below_drewN {B : Nat} {a w : World} (h : Below B a w) (n : Nat) : Below B a (w.drewN n) := ⟨h.os, h.tape, h.output, h.size, h.block⟩

/-- Does a text begin with another; does it end before this can be decided? -/
def beg : List UInt8 → List UInt8 → Bool × Bool
  | _, [] => (true, false)
  | [], _ :: _ => (false, true)
  | a :: l, b :: t => if a = b then beg l t else (false, false)

set_option maxHeartbeats 2000000 in
theorem begins_c (s : ByteArray) (a : Nat) (t : ByteArray) (w : World) (hs : s.size ≤ 10000) (ha : a ≤ s.size) (ht : t.size ≤ 10) :
    Calls Tryd.prog 47 #[.string s, .int .i64 a, .string t] w fun e w' => e = .returned (.tuple #[.bool (beg (s.data.toList.drop a) t.data.toList).1, .bool (beg (s.data.toList.drop a) t.data.toList).2]) ∧ Below w.heap.size w w' := by
  have HL : Hid (beg (s.data.toList.drop a) t.data.toList = beg (s.data.toList.drop (a + 0)) (t.data.toList.drop 0)) := Lib.hid rfl
  generalize beg (s.data.toList.drop a) t.data.toList = Res at *
  go_enter Tryd.func47, Tryd.ntmps47
  go_wp2_with fail
  go_loopw [8] (fun iv wr => ∃ k : Nat, k ≤ t.size ∧ iv = .int .i64 k ∧ a + k ≤ s.size ∧ Hid (Res = beg (s.data.toList.drop (a + k)) (t.data.toList.drop k)) ∧ Below w.heap.size w wr) (fun iv _ => t.size - (intOf iv).toNat)
  case atStart => exact ⟨0, by omega, rfl, by omega, HL, Below.refl _ _⟩
  case round =>
    obtain ⟨k, hk, rfl, hak, hx, hb⟩ := hrel
    by_cases hlt : k < t.size
    · have i1 : (k : Int) < (t.size : Int) := by omega
      have d1 : decide ((k : Int) < (t.size : Int)) = true := decide_eq_true i1
      have n1 : decide (k < t.size) = true := decide_eq_true hlt
      have etk : t.data.toList.drop k = (t[k]'hlt) :: t.data.toList.drop (k + 1) := by
        rw [List.drop_eq_getElem_cons (show k < t.data.toList.length from hlt)]; rfl
      by_cases hend : a + k = s.size
      · have d2 : decide ((s.size : Int) ≤ (a : Int) + (k : Int)) = true := decide_eq_true (by omega)
        have hR : Res = (false, true) := by
          rw [hx.out, hend, drop_end, etk]; rfl
        subst hR
        clear hend etk
        go_wp2_with fail
        go_ret2
        exact ⟨rfl, hb⟩
      · have hsl : a + k < s.size := by omega
        have i2 : (a : Int) + (k : Int) < (s.size : Int) := by omega
        have d2 : decide ((s.size : Int) ≤ (a : Int) + (k : Int)) = false := decide_eq_false (by omega)
        have d3 : decide (s.size ≤ a + k) = false := decide_eq_false (by omega)
        have hwr : IntKind.i64.wrap ((a : Int) + (k : Int)) = (a : Int) + (k : Int) := IntWalk.i64_in _ (by omega)
        have i3 : (0 : Int) ≤ (a : Int) + (k : Int) := by omega
        have i4 : (0 : Int) ≤ (a : Int) + (k : Int) ∧ (a : Int) + (k : Int) < (s.size : Int) := ⟨i3, i2⟩
        have htn : ((a : Int) + (k : Int)).toNat = a + k := by omega
        have i5 : (0 : Int) ≤ (k : Int) ∧ (k : Int) < (t.size : Int) := ⟨by omega, i1⟩
        have esk : s.data.toList.drop (a + k) = (s[a + k]'hsl) :: s.data.toList.drop (a + k + 1) := by
          rw [List.drop_eq_getElem_cons (show a + k < s.data.toList.length from hsl)]; rfl
        by_cases heq : s[a + k]'hsl = t[k]'hlt
        · have wr1 := hwr
          have t1 : (((s[a + k]'hsl).toNat : Int) != ((t[k]'hlt).toNat : Int)) = false := by rw [heq]; simp
          have t1' : ((s[a + k]'hsl).toNat != (t[k]'hlt).toNat) = false := by rw [heq]; simp
          have hx2 : Hid (Res = beg (s.data.toList.drop (a + (k + 1))) (t.data.toList.drop (k + 1))) := Lib.hid (by
            rw [hx.out, etk, esk, beg, if_pos heq]; rfl)
          clear heq hend etk esk
          go_wp2_with fail
          go_quiet (fail)
          go_wp2_with fail
          go_roundw
          case rel => exact ⟨k + 1, by omega, by go_num, by omega, hx2, below_drewN hb _⟩
          case measure => simp [intOf]; omega
        · have hne : (s[a + k]'hsl).toNat ≠ (t[k]'hlt).toNat := fun h => heq (UInt8.toNat_inj.1 h)
          have t1 : (((s[a + k]'hsl).toNat : Int) != ((t[k]'hlt).toNat : Int)) = true := by rw [bne_iff_ne]; omega
          have t1' : ((s[a + k]'hsl).toNat != (t[k]'hlt).toNat) = true := by rw [bne_iff_ne]; exact hne
          have hR : Res = (false, false) := by
            rw [hx.out, etk, esk, beg, if_neg heq]
          subst hR
          clear heq hend etk esk hne
          go_wp2_with fail
          go_quiet (fail)
          go_wp2_with fail
          go_ret2
          exact ⟨rfl, below_drewN hb _⟩
    · have hks : k = t.size := by omega
      subst hks
      have d1 : decide ((t.size : Int) < (t.size : Int)) = false := decide_eq_false (by omega)
      have hR : Res = (true, false) := by
        rw [hx.out, drop_end]
        unfold beg
        cases s.data.toList.drop (a + t.size) <;> rfl
      subst hR
      go_wp2_with fail
      go_ret2
      exact ⟨rfl, hb⟩
end Go.Proofs.YtdjphpobhbelaaaDoor
