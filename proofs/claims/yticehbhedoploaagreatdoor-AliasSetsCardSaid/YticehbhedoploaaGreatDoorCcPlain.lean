/- The contract of chars.Plain. -/
import Derived.Test.YticehbhedoploaaGreatDoorCcDig
import Derived.Test.YticehbhedoploaaGreatDoorCcRune
namespace Go.Proofs.YticehbhedoploaaGreatDoor.Cc
open Go.RowKit

def plainS : ByteArray := ⟨#[95, 45, 46, 47, 44, 58, 43, 37, 64, 94]⟩
/-- May the byte be in a plain string? -/
def PlainAt (b : Nat) : Prop := letB b = true ∨ digB b = true ∨ among plainS b = true
def PlainP (s : ByteArray) : Prop := 0 < s.size ∧ ∀ i (h : i < s.size), PlainAt (s[i]'h).toNat
theorem plainS_ascii : Ascii plainS := by
  intro i h
  have h10 : i < 10 := h
  revert i
  decide
theorem plainAt_ascii {b : Nat} (h : PlainAt b) : b < 128 := by
  rcases h with h | h | h
  · have := of_decide_eq_true h; omega
  · have := of_decide_eq_true h; omega
  · obtain ⟨i, hi, e⟩ := of_decide_eq_true h
    have := plainS_ascii i hi
    omega

set_option maxHeartbeats 2000000 in
theorem plain_c (s : ByteArray) (F : Bool) (hF : F = true ↔ PlainP s) (w : World) :
    Calls Tryz.prog 65 #[.string s] w fun e w' => e = .returned (.bool F) ∧ Below w.heap.size w w' := by
  have HF := Lib.hid hF
  clear hF
  go_enter Tryz.func65, Tryz.ntmps65
  go_wp2_with fail
  go_loopw [] (fun wr => ∃ pos : Nat, pos ≤ s.size ∧ wr.heap[w.heap.size]? = some (.stringIter s pos) ∧ Below w.heap.size w wr ∧ w.heap.size < wr.heap.size ∧ Hid (∀ i (h : i < s.size), i < pos → PlainAt (s[i]'h).toNat)) (fun wr => s.size - wr.iterPos w.heap.size)
  case atStart => exact ⟨0, by omega, World.iter_heap w s 0, (Below.refl _ w).alloc (Nat.le_refl _) _, by simp [World.iter], Lib.hid (fun i h hi => by omega)⟩
  case round =>
    obtain ⟨pos, hp, hit, hb, hsz, hall⟩ := hrel
    by_cases hlt : pos < s.size
    · have hnx := next_at wr w.heap.size s pos hit hlt
      have hit2 := Lib.iterAt_heap wr w.heap.size s pos (pos + widthAt s pos) hit
      have hb2 := Lib.below_iterAt hb (k := w.heap.size) (Nat.le_refl _) s (pos + widthAt s pos)
      have hsz2 : w.heap.size < (wr.iterAt w.heap.size s (pos + widthAt s pos)).heap.size := by rw [Lib.iterAt_size]; exact hsz
      have hra := rune_ascii hlt
      have hrh := rune_high hlt
      have hrs := rune_small s pos
      generalize runeAt s pos = R at *
      generalize widthAt s pos = wd at *
      have Hra := Lib.hid hra; have Hrh := Lib.hid hrh
      clear hra hrh
      have hyes : PlainAt R → wd = 1 ∧ Hid (∀ i (h : i < s.size), i < pos + 1 → PlainAt (s[i]'h).toNat) := fun hn => by
        obtain ⟨e1, e2⟩ := Hra.out (plainAt_ascii hn)
        refine ⟨e2, Lib.hid (fun i h hi => ?_)⟩
        by_cases hi' : i < pos
        · exact hall.out i h hi'
        · obtain rfl : i = pos := by omega
          rw [← e1]; exact hn
      have hno : ¬ PlainAt R → F = false := fun hn => by
        rcases F with _ | _
        · rfl
        · exfalso
          have h1 := (HF.out.1 rfl).2 pos hlt
          apply hn
          by_cases hR : R < 128
          · rw [(Hra.out hR).1]; exact h1
          · have := Hrh.out (by omega)
            have := plainAt_ascii h1
            omega
      have Hyes := Lib.hid hyes; have Hno := Lib.hid hno
      clear hyes hno
      by_cases c1 : letB R = true
      · obtain ⟨rfl, hall2⟩ := Hyes.out (.inl c1)
        go_wp2_with (go_at_call 103; refine (isLetter_c _ _).mono ?_; rintro e w' ⟨rfl, rfl⟩)
        go_roundw
        case rel => exact ⟨pos + 1, by omega, hit2, hb2, hsz2, hall2⟩
        case measure => simp only [World.iterPos, hit2, hit]; omega
      have c1' : letB R = false := by simpa using c1
      by_cases c2 : digB R = true
      · obtain ⟨rfl, hall2⟩ := Hyes.out (.inr (.inl c2))
        clear c1
        go_wp2_with (first | (go_at_call 103; refine (isLetter_c _ _).mono ?_; rintro e w' ⟨rfl, rfl⟩) | (go_at_call 104; refine (isDigit_c _ _).mono ?_; rintro e w' ⟨rfl, rfl⟩))
        go_roundw
        case rel => exact ⟨pos + 1, by omega, hit2, hb2, hsz2, hall2⟩
        case measure => simp only [World.iterPos, hit2, hit]; omega
      have c2' : digB R = false := by simpa using c2
      have hcr := fun W => containsRune_c plainS R W (by decide) plainS_ascii hrs
      have Hcr := Lib.hid hcr
      clear hcr
      generalize hX : wr.iterAt w.heap.size s (pos + wd) = wx at *
      clear hX
      by_cases c3 : among plainS R = true
      · obtain ⟨rfl, hall2⟩ := Hyes.out (.inr (.inr c3))
        clear c1 c2
        go_wp2_with (first | (go_at_call 103; refine (isLetter_c _ _).mono ?_; rintro e w' ⟨rfl, rfl⟩) | (go_at_call 104; refine (isDigit_c _ _).mono ?_; rintro e w' ⟨rfl, rfl⟩))
        refine (Hcr.out _).mono ?_
        rintro e w2 ⟨rfl, hb3⟩
        have hit3 : w2.heap[w.heap.size]? = some (.stringIter s (pos + 1)) := (hb3.block _ hsz2).trans hit2
        have hsz3 := hb3.size
        go_wp2_with fail
        go_roundw
        case rel => exact ⟨pos + 1, by omega, hit3, hb2.trans (hb3.mono (by omega)), by omega, hall2⟩
        case measure => simp only [World.iterPos, hit3, hit]; omega
      · have hf := Hno.out (by rintro (h | h | h); · exact c1 h
                               · exact c2 h
                               · exact c3 h)
        subst hf
        have c3' : among plainS R = false := by simpa using c3
        clear c1 c2 c3
        go_wp2_with (first | (go_at_call 103; refine (isLetter_c _ _).mono ?_; rintro e w' ⟨rfl, rfl⟩) | (go_at_call 104; refine (isDigit_c _ _).mono ?_; rintro e w' ⟨rfl, rfl⟩))
        refine (Hcr.out _).mono ?_
        rintro e w2 ⟨rfl, hb3⟩
        go_wp2_with fail
        go_ret
        exact ⟨rfl, hb2.trans (hb3.mono (by omega))⟩
    · have hnx := next_end wr w.heap.size s pos hit hlt
      by_cases q0 : s.size = 0
      · obtain ⟨e1, e2⟩ := empty_tests q0
        have hf : F = false := by
          rcases F with _ | _
          · rfl
          · have := (HF.out.1 rfl).1; omega
        subst hf
        go_wp2_with fail
        go_ret
        exact ⟨rfl, hb⟩
      · obtain ⟨e1, e2⟩ := nonempty_tests q0
        have hf : F = true := HF.out.2 ⟨by omega, fun i h => hall.out i h (by omega)⟩
        subst hf
        go_wp2_with fail
        go_ret
        exact ⟨rfl, hb⟩
end Go.Proofs.YticehbhedoploaaGreatDoor.Cc
