/- The contracts of the tests of characters, and of Name. -/
import Derived.Test.YtbiiempgefjkiaaDoorProg
import Derived.WalkKit
import Derived.BigCall
import Derived.Lib.Hide
import Derived.Lib.OthersKept
import Derived.WalkSmall
import Derived.WalkLawsBesides
import Derived.Deep.QuietTactic
import Derived.BigQuiet
import Derived.Deep.Draws
namespace Go.Proofs.YtbiiempgefjkiaaDoor.Cc
open Go.RowKit

def letB (r : Int) : Bool := decide (65 ≤ r ∧ r ≤ 90 ∨ 97 ≤ r ∧ r ≤ 122)
def digB (r : Int) : Bool := decide (48 ≤ r ∧ r ≤ 57)

set_option maxHeartbeats 400000 in
theorem isLetter_c (r : Int) (w : World) : Calls Tryd.prog 58 #[.int .i32 r] w fun e w' => e = .returned (.bool (letB r)) ∧ w = w' := by
  by_cases h1 : 65 ≤ r
  · by_cases h2 : r ≤ 90
    · rw [show letB r = true from decide_eq_true (by omega)]
      go_enter Tryd.func58, Tryd.ntmps58
      go_wp2
      go_ret
      exact ⟨by simp, rfl⟩
    · by_cases h3 : 97 ≤ r
      · by_cases h4 : r ≤ 122
        · rw [show letB r = true from decide_eq_true (by omega)]
          go_enter Tryd.func58, Tryd.ntmps58
          go_wp2
          go_ret
          exact ⟨by simp <;> omega, rfl⟩
        · rw [show letB r = false from decide_eq_false (by omega)]
          go_enter Tryd.func58, Tryd.ntmps58
          go_wp2
          go_ret
          exact ⟨by simp <;> omega, rfl⟩
      · rw [show letB r = false from decide_eq_false (by omega)]
        go_enter Tryd.func58, Tryd.ntmps58
        go_wp2
        go_ret
        exact ⟨by simp <;> omega, rfl⟩
  · rw [show letB r = false from decide_eq_false (by omega)]
    go_enter Tryd.func58, Tryd.ntmps58
    go_wp2
    go_ret
    exact ⟨by simp <;> omega, rfl⟩

theorem isDigit_c (r : Int) (w : World) : Calls Tryd.prog 59 #[.int .i32 r] w fun e w' => e = .returned (.bool (digB r)) ∧ w = w' := by
  by_cases h1 : 48 ≤ r
  · by_cases h2 : r ≤ 57
    · rw [show digB r = true from decide_eq_true (by omega)]
      go_enter Tryd.func59, Tryd.ntmps59
      go_wp2
      go_ret
      exact ⟨by simp, rfl⟩
    · rw [show digB r = false from decide_eq_false (by omega)]
      go_enter Tryd.func59, Tryd.ntmps59
      go_wp2
      go_ret
      exact ⟨by simp <;> omega, rfl⟩
  · rw [show digB r = false from decide_eq_false (by omega)]
    go_enter Tryd.func59, Tryd.ntmps59
    go_wp2
    go_ret
    exact ⟨by simp <;> omega, rfl⟩

/-- What 'next' finds at a place of a string: a rune, and how many bytes it has. -/
def runeAt (s : ByteArray) (p : Nat) : Nat := (Utf8.decode s p).1
def widthAt (s : ByteArray) (p : Nat) : Nat := (Utf8.decode s p).2
theorem rune_ascii {s : ByteArray} {p : Nat} (h : p < s.size) (hr : runeAt s p < 128) : runeAt s p = (s[p]'h).toNat ∧ widthAt s p = 1 := by
  by_cases ha : (s[p]'h).toNat < 128
  · unfold runeAt widthAt
    rw [decode_ascii s p h ha]
    exact ⟨rfl, rfl⟩
  · have := (decode_high s p h (by omega)).1
    unfold runeAt at hr
    omega
theorem rune_high {s : ByteArray} {p : Nat} (h : p < s.size) (hr : 128 ≤ runeAt s p) : 128 ≤ (s[p]'h).toNat := by
  by_cases ha : (s[p]'h).toNat < 128
  · unfold runeAt at hr
    rw [decode_ascii s p h ha] at hr
    simp only at hr
    omega
  · omega
theorem width_pos {s : ByteArray} {p : Nat} (h : p < s.size) : 1 ≤ widthAt s p := by
  unfold widthAt
  by_cases ha : (s[p]'h).toNat < 128
  · rw [decode_ascii s p h ha]
    exact Nat.le_refl _
  · exact (decode_high s p h (by omega)).2
theorem rune_small (s : ByteArray) (p : Nat) : runeAt s p ≤ 2147483647 := decode_le s p
theorem next_at (w : World) (k : Nat) (s : ByteArray) (pos : Nat) (hk : w.heap[k]? = some (.stringIter s pos)) (h : pos < s.size) (ty : TypeId) :
    (Instr.next (.pointer (some ⟨k, 0, none⟩)) true ty).run Tryd.prog w = .ok (.tuple #[.bool true, .int .i64 pos, .int .i32 (runeAt s pos)]) (w.iterAt k s (pos + widthAt s pos)) := Lib.run_next_any_at w k s pos ty hk h
theorem next_end (w : World) (k : Nat) (s : ByteArray) (pos : Nat) (hk : w.heap[k]? = some (.stringIter s pos)) (h : ¬ pos < s.size) (ty : TypeId) :
    (Instr.next (.pointer (some ⟨k, 0, none⟩)) true ty).run Tryd.prog w = .ok (.tuple #[.bool false]) w := Lib.run_next_end_at w k s pos ty hk h

/-- May the byte be at the place i of a name? -/
def NameAt (i : Nat) (b : Nat) : Prop := letB b = true ∨ b = 95 ∨ (i ≠ 0 ∧ digB b = true)
def NameP (s : ByteArray) : Prop := 0 < s.size ∧ s.size ≤ 32 ∧ ∀ i (h : i < s.size), NameAt i (s[i]'h).toNat

set_option maxHeartbeats 1000000 in
theorem name_c (s : ByteArray) (F : Bool) (hF : F = true ↔ NameP s) (w : World) :
    Calls Tryd.prog 42 #[.string s] w fun e w' => e = .returned (.bool F) ∧ Below w.heap.size w w' := by
  have HF := Lib.hid hF
  clear hF
  by_cases q0 : s.size = 0
  · have hf : F = false := by
      rcases F with _ | _
      · rfl
      · have := (HF.out.1 rfl).1; omega
    subst hf
    have e0 : s.toList = [] := by
      rw [ByteArray.toList_eq]
      exact List.eq_nil_of_length_eq_zero (by simpa using q0)
    have e1 : s.toList.isEmpty = true := by rw [e0]; rfl
    go_enter Tryd.func42, Tryd.ntmps42
    go_wp2_with fail
    go_ret
    exact ⟨rfl, Below.refl _ _⟩
  have e1 : s.toList.isEmpty = false := by
    rw [ByteArray.toList_eq, List.isEmpty_eq_false_iff]
    intro h
    have := congrArg List.length h
    exact q0 this
  have e2 : (s.toList == []) = false := by
    rw [beq_eq_false_iff_ne]
    intro h
    rw [h] at e1
    simp at e1
  by_cases q1 : 32 < s.size
  · have hf : F = false := by
      rcases F with _ | _
      · rfl
      · have := (HF.out.1 rfl).2.1; omega
    subst hf
    have d1 : decide ((32 : Int) < (s.size : Int)) = true := decide_eq_true (by omega)
    go_enter Tryd.func42, Tryd.ntmps42
    go_wp2_with fail
    go_ret
    exact ⟨rfl, Below.refl _ _⟩
  have d1 : decide ((32 : Int) < (s.size : Int)) = false := decide_eq_false (by omega)
  go_enter Tryd.func42, Tryd.ntmps42
  go_wp2_with fail
  go_loopw [] (fun wr => ∃ pos : Nat, pos ≤ s.size ∧ wr.heap[w.heap.size]? = some (.stringIter s pos) ∧ Below w.heap.size w wr ∧ Hid (∀ i (h : i < s.size), i < pos → NameAt i (s[i]'h).toNat)) (fun wr => s.size - wr.iterPos w.heap.size)
  case atStart => exact ⟨0, by omega, World.iter_heap w s 0, (Below.refl _ w).alloc (Nat.le_refl _) _, Lib.hid (fun i h hi => by omega)⟩
  case round =>
    obtain ⟨pos, hp, hit, hb, hall⟩ := hrel
    by_cases hlt : pos < s.size
    · have hnx := next_at wr w.heap.size s pos hit hlt
      have hit2 := Lib.iterAt_heap wr w.heap.size s pos (pos + widthAt s pos) hit
      have hb2 := Lib.below_iterAt hb (k := w.heap.size) (Nat.le_refl _) s (pos + widthAt s pos)
      have hra := rune_ascii hlt
      have hrh := rune_high hlt
      have hwp := width_pos hlt
      have hrs := rune_small s pos
      generalize runeAt s pos = R at *
      generalize widthAt s pos = wd at *
      have Hra := Lib.hid hra; have Hrh := Lib.hid hrh
      clear hra hrh
      have hyes : NameAt pos R → wd = 1 ∧ Hid (∀ i (h : i < s.size), i < pos + 1 → NameAt i (s[i]'h).toNat) := fun hn => by
        have hR : R < 128 := by
          rcases hn with h | h | ⟨_, h⟩
          · have := of_decide_eq_true h; omega
          · omega
          · have := of_decide_eq_true h; omega
        obtain ⟨e1, e2⟩ := Hra.out hR
        refine ⟨e2, Lib.hid (fun i h hi => ?_)⟩
        by_cases hi' : i < pos
        · exact hall.out i h hi'
        · obtain rfl : i = pos := by omega
          rw [← e1]; exact hn
      have hno : ¬ NameAt pos R → F = false := fun hn => by
        rcases F with _ | _
        · rfl
        · exfalso
          have h1 := (HF.out.1 rfl).2.2 pos hlt
          apply hn
          by_cases hR : R < 128
          · rw [(Hra.out hR).1]; exact h1
          · have := Hrh.out (by omega)
            rcases h1 with h | h | ⟨_, h⟩
            · have := of_decide_eq_true h; omega
            · omega
            · have := of_decide_eq_true h; omega
      have Hyes := Lib.hid hyes; have Hno := Lib.hid hno
      clear hyes hno
      clear e1 e2 d1
      by_cases c1 : letB R = true
      · obtain ⟨rfl, hall2⟩ := Hyes.out (.inl c1)
        go_wp2_with (go_at_call 58; refine (isLetter_c _ _).mono ?_; rintro e w' ⟨rfl, rfl⟩)
        go_roundw
        case rel => exact ⟨pos + 1, by omega, hit2, hb2, hall2⟩
        case measure => simp only [World.iterPos, hit2, hit]; omega
      have c1' : letB R = false := by simpa using c1
      clear c1
      by_cases c2 : R = 95
      · subst c2
        obtain ⟨rfl, hall2⟩ := Hyes.out (.inr (.inl rfl))
        go_wp2_with (go_at_call 58; refine (isLetter_c _ _).mono ?_; rintro e w' ⟨rfl, rfl⟩)
        go_roundw
        case rel => exact ⟨pos + 1, by omega, hit2, hb2, hall2⟩
        case measure => simp only [World.iterPos, hit2, hit]; omega
      have t2 : ((R : Int) != 95) = true := by rw [bne_iff_ne]; omega
      by_cases c3 : pos = 0
      · subst c3
        have hf := Hno.out (by rintro (h | h | ⟨h, _⟩); · simp [c1'] at h
                               · exact c2 h
                               · exact h rfl)
        subst hf
        clear c2
        rw [Nat.zero_add] at hb2
        go_wp2_with (go_at_call 58; refine (isLetter_c _ _).mono ?_; rintro e w' ⟨rfl, rfl⟩)
        go_ret
        exact ⟨rfl, hb2⟩
      have t3 : ((pos : Int) == 0) = false := by rw [beq_eq_false_iff_ne]; omega
      by_cases c4 : digB R = true
      · obtain ⟨rfl, hall2⟩ := Hyes.out (.inr (.inr ⟨c3, c4⟩))
        clear c2 c3
        go_wp2_with (first | (go_at_call 58; refine (isLetter_c _ _).mono ?_; rintro e w' ⟨rfl, rfl⟩) | (go_at_call 59; refine (isDigit_c _ _).mono ?_; rintro e w' ⟨rfl, rfl⟩))
        go_roundw
        case rel => exact ⟨pos + 1, by omega, hit2, hb2, hall2⟩
        case measure => simp only [World.iterPos, hit2, hit]; omega
      · have hf := Hno.out (by rintro (h | h | ⟨_, h⟩); · simp [c1'] at h
                               · exact c2 h
                               · exact c4 h)
        subst hf
        have c4' : digB R = false := by simpa using c4
        clear c2 c3 c4
        go_wp2_with (first | (go_at_call 58; refine (isLetter_c _ _).mono ?_; rintro e w' ⟨rfl, rfl⟩) | (go_at_call 59; refine (isDigit_c _ _).mono ?_; rintro e w' ⟨rfl, rfl⟩))
        go_ret
        exact ⟨rfl, hb2⟩
    · have hnx := next_end wr w.heap.size s pos hit hlt
      have hf : F = true := HF.out.2 ⟨by omega, by omega, fun i h => hall.out i h (by omega)⟩
      subst hf
      clear e1 e2 d1
      go_wp2_with fail
      go_ret
      exact ⟨rfl, hb⟩
end Go.Proofs.YtbiiempgefjkiaaDoor.Cc
