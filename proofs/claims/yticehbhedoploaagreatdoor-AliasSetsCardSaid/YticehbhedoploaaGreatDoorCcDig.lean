/- The contract of chars.Digits. -/
import Derived.Test.YticehbhedoploaaGreatDoorCcCh
namespace Go.Proofs.YticehbhedoploaaGreatDoor.Cc
open Go.RowKit

/-- The number that the first bytes are. -/
def dv (s : ByteArray) : Nat → Nat
  | 0 => 0
  | k + 1 => 10 * dv s k + ((s.data.toList.getD k 0).toNat - 48)
theorem dv_mono (s : ByteArray) (a : Nat) : ∀ b, a ≤ b → dv s a ≤ dv s b
  | 0, h => by obtain rfl : a = 0 := by omega
               exact Nat.le_refl _
  | b + 1, h => by
    by_cases e : a = b + 1
    · subst e; exact Nat.le_refl _
    · have := dv_mono s a b (by omega)
      have e : dv s (b + 1) = 10 * dv s b + ((s.data.toList.getD b 0).toNat - 48) := rfl
      omega
theorem dv_succ {s : ByteArray} {k : Nat} (h : k < s.size) : dv s (k + 1) = 10 * dv s k + ((s[k]'h).toNat - 48) := by
  have e : s.data.toList.getD k 0 = s[k]'h := by
    rw [List.getD_eq_getElem?_getD, List.getElem?_eq_getElem (show k < s.data.toList.length from h)]; rfl
  rw [dv, e]

/-- Is the text the decimal form of a number of the range? -/
def DigP (s : ByteArray) : Prop := 0 < s.size ∧ ¬ (s.data.toList[0]? = some 48 ∧ 1 < s.size) ∧ (∀ i (h : i < s.size), digB (s[i]'h).toNat = true) ∧ dv s s.size ≤ 2147483647

theorem nonempty_tests {s : ByteArray} (q0 : s.size ≠ 0) : s.toList.isEmpty = false ∧ (s.toList == []) = false := by
  have h : s.toList ≠ [] := by
    rw [ByteArray.toList_eq]
    intro h
    have := congrArg List.length h
    exact q0 this
  exact ⟨List.isEmpty_eq_false_iff.2 h, beq_eq_false_iff_ne.2 h⟩
theorem empty_tests {s : ByteArray} (q0 : s.size = 0) : s.toList.isEmpty = true ∧ (s.toList == []) = true := by
  have h : s.toList = [] := by
    rw [ByteArray.toList_eq]
    exact List.eq_nil_of_length_eq_zero q0
  rw [h]
  exact ⟨rfl, rfl⟩

set_option maxHeartbeats 2000000 in
theorem digits_c (s : ByteArray) (F : Bool) (hF : F = true ↔ DigP s) (w : World) (hs : s.size ≤ 1000) :
    Calls Tryz.prog 142 #[.string s] w fun e w' => e = .returned (.tuple #[.int .i64 (if F = true then (dv s s.size : Int) else 0), .bool F]) ∧ Below w.heap.size w w' := by
  have HF := Lib.hid hF
  clear hF
  by_cases q0 : s.size = 0
  · have hf : F = false := by
      rcases F with _ | _
      · rfl
      · have := (HF.out.1 rfl).1; omega
    subst hf
    obtain ⟨e1, e2⟩ := empty_tests q0
    rw [if_neg (by simp)]
    go_enter Tryz.func142, Tryz.ntmps142
    go_wp2_with fail
    go_ret2
    exact ⟨rfl, Below.refl _ _⟩
  obtain ⟨e1, e2⟩ := nonempty_tests q0
  have hpos : 0 < s.size := by omega
  have hge : s.data.toList[0]? = some (s[0]'hpos) := by rw [List.getElem?_eq_getElem (show 0 < s.data.toList.length from hpos)]; rfl
  by_cases q1 : s[0]'hpos = 48 ∧ 1 < s.size
  · have hf : F = false := by
      rcases F with _ | _
      · rfl
      · exact absurd ⟨by rw [hge, q1.1], q1.2⟩ (HF.out.1 rfl).2.1
    subst hf
    have t1 : (((s[0]'hpos).toNat : Int) == 48) = true := by rw [q1.1]; rfl
    have t2 : (s.toList != [48]) = true := by
      rw [bne_iff_ne, ByteArray.toList_eq]
      intro h
      have := congrArg List.length h
      have h2 : s.data.toList.length = s.size := rfl
      simp at this
      have := q1.2
      omega
    have t3 : (s.toList == [48]) = false := by simpa using t2
    rw [if_neg (by simp)]
    clear q1 hge
    go_enter Tryz.func142, Tryz.ntmps142
    go_wp2_with fail
    go_ret2
    exact ⟨rfl, Below.refl _ _⟩
  have hgo : (((s[0]'hpos).toNat : Int) == 48) = false ∨ ((((s[0]'hpos).toNat : Int) == 48) = true ∧ (s.toList != [48]) = false ∧ (s.toList == [48]) = true) := by
    by_cases h48 : s[0]'hpos = 48
    · right
      have h1 : s.size = 1 := by
        have : ¬ 1 < s.size := fun h => q1 ⟨h48, h⟩
        omega
      have h2 : s.toList = [48] := by
        rw [ByteArray.toList_eq]
        have hl : s.data.toList.length = 1 := h1
        rcases hd : s.data.toList with _ | ⟨x, _ | ⟨y, r⟩⟩
        · rw [hd] at hl; simp at hl
        · rw [hd] at hge; simp at hge; rw [hge, h48]
        · rw [hd] at hl; simp at hl
      exact ⟨by rw [h48]; rfl, by rw [h2]; rfl, by rw [h2]; rfl⟩
    · left
      rw [beq_eq_false_iff_ne]
      intro h
      exact h48 (UInt8.toNat_inj.1 (by simp; omega))
  have hnz : ¬ (s.data.toList[0]? = some 48 ∧ 1 < s.size) := by rw [hge]; simpa using q1
  have Hnz := Lib.hid hnz
  have Hgo := Lib.hid hgo
  clear hnz hgo q1 hge
  rcases Hgo.out with t1 | ⟨t1, t2, t3⟩
  all_goals
    go_enter Tryz.func142, Tryz.ntmps142
    go_wp2_with fail
    go_loopw [4] (fun nv wr => ∃ pos : Nat, pos ≤ s.size ∧ nv = .int .i64 (dv s pos) ∧ dv s pos ≤ 2147483647 ∧ wr.heap[w.heap.size]? = some (.stringIter s pos) ∧ Below w.heap.size w wr ∧ Hid (∀ i (h : i < s.size), i < pos → digB (s[i]'h).toNat = true)) (fun _ wr => s.size - wr.iterPos w.heap.size)
    case atStart => exact ⟨0, by omega, rfl, by simp [dv], World.iter_heap w s 0, (Below.refl _ w).alloc (Nat.le_refl _) _, Lib.hid (fun i h hi => by omega)⟩
    case round =>
      obtain ⟨pos, hp, rfl, hmax, hit, hb, hall⟩ := hrel
      clear e1 e2 t1
      by_cases hlt : pos < s.size
      · have hnx := next_at wr w.heap.size s pos hit hlt
        have hit2 := Lib.iterAt_heap wr w.heap.size s pos (pos + widthAt s pos) hit
        have hb2 := Lib.below_iterAt hb (k := w.heap.size) (Nat.le_refl _) s (pos + widthAt s pos)
        have hra := rune_ascii hlt
        have hrh := rune_high hlt
        have hrs := rune_small s pos
        have hdv := dv_succ hlt
        generalize runeAt s pos = R at *
        generalize widthAt s pos = wd at *
        have Hra := Lib.hid hra; have Hrh := Lib.hid hrh; have Hdv := Lib.hid hdv
        clear hra hrh hdv
        by_cases c1 : digB R = true
        · have hR := of_decide_eq_true c1
          obtain ⟨r1, rfl⟩ := Hra.out (by omega)
          have hdv2 : dv s (pos + 1) = 10 * dv s pos + (R - 48) := by rw [Hdv.out, ← r1]
          have Hdv2 := Lib.hid hdv2
          have Hr1 := Lib.hid r1
          clear hdv2 r1
          obtain ⟨d, rfl⟩ : ∃ d, R = d + 48 := ⟨R - 48, by omega⟩
          have hd9 : d ≤ 9 := by omega
          have c1' : digB ((d : Int) + 48) = true := by simpa using c1
          clear hR
          generalize hV : dv s pos = V at *
          have HV := Lib.hid hV
          clear hV
          by_cases c2 : (2147483647 - (d : Int)) / 10 < (V : Int)
          · have hf : F = false := by
              rcases F with _ | _
              · rfl
              · have h1 := (HF.out.1 rfl).2.2.2
                have h2 := dv_mono s (pos + 1) s.size (by omega)
                rw [Hdv2.out] at h2
                omega
            subst hf
            have dd : decide ((2147483647 - (d : Int)) / 10 < (V : Int)) = true := decide_eq_true c2
            go_wp2_with (go_at_call 104; refine (isDigit_c _ _).mono ?_; rintro e w' ⟨rfl, rfl⟩)
            go_ret2
            exact ⟨rfl, hb2⟩
          · have dd : decide ((2147483647 - (d : Int)) / 10 < (V : Int)) = false := decide_eq_false c2
            have hall2 : Hid (∀ i (h : i < s.size), i < pos + 1 → digB (s[i]'h).toNat = true) := Lib.hid (fun i h hi => by
              by_cases hi' : i < pos
              · exact hall.out i h hi'
              · obtain rfl : i = pos := by omega
                rw [← Hr1.out]; exact c1)
            go_wp2_with (go_at_call 104; refine (isDigit_c _ _).mono ?_; rintro e w' ⟨rfl, rfl⟩)
            go_roundw
            case rel => exact ⟨pos + 1, by omega, by rw [Hdv2.out]; go_num, by rw [Hdv2.out]; omega, hit2, hb2, hall2⟩
            case measure => simp only [World.iterPos, hit2, hit]; omega
        · have hf : F = false := by
            rcases F with _ | _
            · rfl
            · exfalso
              have h1 := (HF.out.1 rfl).2.2.1 pos hlt
              apply c1
              by_cases hR : R < 128
              · rw [(Hra.out hR).1]; exact h1
              · have := Hrh.out (by omega)
                have := of_decide_eq_true h1
                omega
          subst hf
          have c1' : digB R = false := by simpa using c1
          clear c1
          go_wp2_with (go_at_call 104; refine (isDigit_c _ _).mono ?_; rintro e w' ⟨rfl, rfl⟩)
          go_ret2
          exact ⟨rfl, hb2⟩
      · have hnx := next_end wr w.heap.size s pos hit hlt
        have hps : pos = s.size := by omega
        subst hps
        have hf : F = true := HF.out.2 ⟨hpos, Hnz.out, fun i h => hall.out i h h, hmax⟩
        subst hf
        go_wp2_with fail
        go_ret2
        exact ⟨rfl, hb⟩
end Go.Proofs.YticehbhedoploaaGreatDoor.Cc
