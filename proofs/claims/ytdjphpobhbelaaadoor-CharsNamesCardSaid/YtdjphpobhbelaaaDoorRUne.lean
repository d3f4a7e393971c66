/- The contract of the reference's Unescape. -/
import Derived.Test.YtdjphpobhbelaaaDoorRBeg
namespace Go.Proofs.YtdjphpobhbelaaaDoor
open Go.RowKit

/-- What the search among the bytes below c finds: the last byte whose escape the text begins with (or -1), and whether the text ends within some escape. -/
def ufold (l : List UInt8) : Nat → Int × Bool
  | 0 => (-1, false)
  | c + 1 => (if (beg l (escB c.toUInt8).data.toList).1 = true then (c : Int) else (ufold l c).1, (ufold l c).2 || (beg l (escB c.toUInt8).data.toList).2)

theorem ufold_le (l : List UInt8) : ∀ c, -1 ≤ (ufold l c).1 ∧ (ufold l c).1 < c
  | 0 => by simp [ufold]
  | c + 1 => by
    have := ufold_le l c
    unfold ufold
    split <;> constructor <;> simp only [] <;> omega

theorem escB_pos (c : UInt8) : 1 ≤ (escB c).size := by
  unfold escB
  repeat' split
  all_goals (first | exact (by decide) | (show 1 ≤ 4; decide) | exact Nat.le_refl 1)

/-- Unescape as the reference reads it: the error's number, the bytes. -/
def uneR (l : List UInt8) : Nat × List UInt8 :=
  if l = [] then (0, [])
  else if (ufold l 256).1 < 0 then (if (ufold l 256).2 = true then (28, []) else (6, []))
  else preU [(ufold l 256).1.toNat.toUInt8] (uneR (l.drop (escB (ufold l 256).1.toNat.toUInt8).size))
termination_by l.length
decreasing_by
  have := escB_pos (ufold l 256).1.toNat.toUInt8
  have : l.length ≠ 0 := fun h => by rename_i h1 _; exact h1 (List.length_eq_zero_iff.1 h)
  rw [List.length_drop]
  omega

theorem beg_len : ∀ (l t : List UInt8), (beg l t).1 = true → t.length ≤ l.length
  | _, [], _ => by simp
  | [], _ :: _, h => by simp [beg] at h
  | a :: l, b :: t, h => by
    unfold beg at h
    split at h
    · have := beg_len l t h; simp; omega
    · simp at h

theorem ufold_len (l : List UInt8) : ∀ c, c ≤ 256 → 0 ≤ (ufold l c).1 → (escB (ufold l c).1.toNat.toUInt8).size ≤ l.length
  | 0, _, h => by simp [ufold] at h
  | c + 1, hc, h => by
    unfold ufold at h ⊢
    split
    · rename_i hb
      have := beg_len _ _ hb
      simpa using this
    · rename_i hb
      rw [if_neg hb] at h
      exact ufold_len l c (by omega) h

set_option maxHeartbeats 4000000 in
theorem rUnescape_c (s : ByteArray) (w : World) (hs : s.size ≤ 10000) :
    Calls Tryd.prog 24 #[.string s] w fun e w' => e = .returned (.tuple #[.string ⟨(uneR s.data.toList).2.toArray⟩, .int .i64 (uneR s.data.toList).1]) ∧ Below w.heap.size w w' := by
  have HL : Hid (uneR s.data.toList = preU [] (uneR (s.data.toList.drop 0))) := Lib.hid (by
    rw [List.drop_zero]
    unfold uneR
    split
    · rfl
    · split
      · split <;> rfl
      · rw [preU_preU]; rfl)
  generalize uneR s.data.toList = Res at *
  go_enter Tryd.func24, Tryd.ntmps24
  go_wp2_with fail
  go_loopw [4, 5] (fun ov iv wr => ∃ (k : Nat) (out : ByteArray), k ≤ s.size ∧ iv = .int .i64 k ∧ ov = .string out ∧ out.size ≤ k ∧ Hid (Res = preU out.data.toList (uneR (s.data.toList.drop k))) ∧ Below w.heap.size w wr) (fun _ iv _ => s.size - (intOf iv).toNat)
  case atStart => exact ⟨0, ⟨#[]⟩, by omega, rfl, rfl, Nat.zero_le _, HL, Below.refl _ _⟩
  case round =>
    obtain ⟨k, out, hk, rfl, rfl, hos, hx, hb⟩ := hrel
    by_cases hlt : k < s.size
    · have i1 : (k : Int) < (s.size : Int) := by omega
      have d1 : decide ((k : Int) < (s.size : Int)) = true := decide_eq_true i1
      have n1 : decide (k < s.size) = true := decide_eq_true hlt
      have hne : s.data.toList.drop k ≠ [] := by
        rw [List.drop_eq_getElem_cons (show k < s.data.toList.length from hlt)]; simp
      have hx2 := hx.out
      rw [uneR, if_neg hne] at hx2
      have Hx := Lib.hid hx2
      have hlen : (s.data.toList.drop k).length = s.size - k := by rw [List.length_drop]; rfl
      have hlen2 : (ufold (s.data.toList.drop k) 256).1 < 0 ∨ (escB (ufold (s.data.toList.drop k) 256).1.toNat.toUInt8).size ≤ s.size - k := by
        rcases Int.lt_or_le (ufold (s.data.toList.drop k) 256).1 0 with h | h
        · exact .inl h
        · exact .inr (hlen ▸ ufold_len _ 256 (by omega) h)
      have hdd : ∀ m, (s.data.toList.drop k).drop m = s.data.toList.drop (k + m) := fun m => by rw [List.drop_drop]
      have Hlen2 := Lib.hid hlen2
      have Hdd := Lib.hid hdd
      have hbeg := fun t W (ht : ByteArray.size t ≤ 10) => begins_c s k t W hs hk ht
      have Hbeg := Lib.hid hbeg
      have hfl := ufold_le (s.data.toList.drop k)
      have Hfl := Lib.hid hfl
      have hu0 : Hid (ufold (s.data.toList.drop k) 0 = (-1, false)) := Lib.hid rfl
      have hus : Hid (∀ c, ufold (s.data.toList.drop k) (c + 1) = (if (beg (s.data.toList.drop k) (escB c.toUInt8).data.toList).1 = true then (c : Int) else (ufold (s.data.toList.drop k) c).1, (ufold (s.data.toList.drop k) c).2 || (beg (s.data.toList.drop k) (escB c.toUInt8).data.toList).2)) := Lib.hid (fun c => rfl)
      obtain ⟨wo, rfl⟩ : ∃ wo : World, wo = wr := ⟨_, rfl⟩
      clear hx hne hx2 hlen hlen2 hdd hbeg hfl
      generalize s.data.toList.drop k = L at *
      go_wp2_with fail
      go_loopw [6, 7, 8] (fun nv ev cv wi => ∃ c : Nat, c ≤ 256 ∧ nv = .int .i64 (ufold L c).1 ∧ ev = .bool (ufold L c).2 ∧ cv = .int .i64 c ∧ Below w.heap.size w wi) (fun _ _ cv _ => 256 - (intOf cv).toNat)
      case atStart => exact ⟨0, by omega, by rw [hu0.out], by rw [hu0.out], rfl, hb⟩
      case round =>
        obtain ⟨c, hc, rfl, rfl, rfl, hbi⟩ := hrel
        by_cases hlc : c < 256
        · have j1 : decide ((c : Int) < 256) = true := decide_eq_true (by omega)
          have hesc : ∀ W, Calls Tryd.prog 46 #[.int .u8 (c : Int)] W fun e w' => e = .returned (.string (escB c.toUInt8)) ∧ Below W.heap.size W w' := fun W => by
            have := rescape_c c.toUInt8 W
            rw [show c.toUInt8.toNat = c from by simp; omega] at this
            exact this
          have hz : (escB c.toUInt8).size ≤ 10 := Nat.le_trans (escB_size _) (by omega)
          have Hesc := Lib.hid hesc
          have hs1 := Lib.hid (hus.out c)
          clear hesc
          go_wp2_with fail
          refine (Hesc.out _).mono ?_
          rintro e w1 ⟨rfl, hb1⟩
          go_wp2_with fail
          refine (Hbeg.out _ _ hz).mono ?_
          generalize beg L (escB c.toUInt8).data.toList = G at *
          rintro e w2 ⟨rfl, hb2⟩
          have hb3 : Below w.heap.size w w1 := hbi.trans (hb1.mono hbi.size)
          have hb4 : Below w.heap.size w w2 := hb3.trans (hb2.mono hb3.size)
          obtain ⟨G1, G2⟩ := G
          generalize ufold L c = U at *
          obtain ⟨N, E⟩ := U
          rcases G1 with _ | _
          · rcases E with _ | _
            · go_wp2_with fail
              go_roundw
              case rel => exact ⟨c + 1, by omega, by rw [hs1.out]; rfl, by rw [hs1.out]; rfl, by go_num, hb4⟩
              case measure => simp [intOf]; omega
            · go_wp2_with fail
              go_roundw
              case rel => exact ⟨c + 1, by omega, by rw [hs1.out]; rfl, by rw [hs1.out]; rfl, by go_num, hb4⟩
              case measure => simp [intOf]; omega
          · rcases E with _ | _
            · go_wp2_with fail
              go_roundw
              case rel => exact ⟨c + 1, by omega, by rw [hs1.out]; rfl, by rw [hs1.out]; rfl, by go_num, hb4⟩
              case measure => simp [intOf]; omega
            · go_wp2_with fail
              go_roundw
              case rel => exact ⟨c + 1, by omega, by rw [hs1.out]; rfl, by rw [hs1.out]; rfl, by go_num, hb4⟩
              case measure => simp [intOf]; omega
        · obtain rfl : c = 256 := by omega
          have j1 : decide (((256 : Nat) : Int) < 256) = false := rfl
          have hb256 := (Hfl.out 256).2
          have hR := Hx.out
          have hln := Hlen2.out
          clear hus hu0 Hx Hlen2 Hfl Hbeg
          generalize ufold L 256 = U at *
          obtain ⟨N, E⟩ := U
          simp only at hR hln hb256
          by_cases hN : N < 0
          · have j2 : decide (N < 0) = true := decide_eq_true hN
            rcases E with _ | _
            · have hR2 : Res = (6, []) := by rw [hR, if_pos hN]; rfl
              subst hR2
              clear hR hln
              go_wp2_with fail
              go_ret2
              exact ⟨rfl, hbi⟩
            · have hR2 : Res = (28, []) := by rw [hR, if_pos hN]; rfl
              subst hR2
              clear hR hln
              go_wp2_with fail
              go_ret2
              exact ⟨rfl, hbi⟩
          · have j2 : decide (N < 0) = false := decide_eq_false hN
            obtain ⟨m, rfl⟩ : ∃ m : Nat, N = (m : Int) := ⟨N.toNat, by omega⟩
            have hm : m < 256 := by omega
            rw [if_neg hN, Int.toNat_natCast, preU_preU] at hR
            rw [Int.toNat_natCast] at hln
            have hz := escB_size m.toUInt8
            have hp := escB_pos m.toUInt8
            have hln2 : (escB m.toUInt8).size ≤ s.size - k := hln.resolve_left hN
            have hR2 : Hid (Res = preU (out ++ ⟨#[m.toUInt8]⟩).data.toList (uneR (s.data.toList.drop (k + (escB m.toUInt8).size)))) := Lib.hid (by
              rw [hR, Hdd.out]; simp)
            have hcv := conv1 wr m.toUInt8
            have hmu : m.toUInt8.toNat = m := by simp; omega
            rw [hmu] at hcv
            have hesc : ∀ W, Calls Tryd.prog 46 #[.int .u8 (m : Int)] W fun e w' => e = .returned (.string (escB m.toUInt8)) ∧ Below W.heap.size W w' := fun W => by
              have := rescape_c m.toUInt8 W
              rw [hmu] at this
              exact this
            have Hesc := Lib.hid hesc
            have h1s : (⟨#[m.toUInt8]⟩ : ByteArray).size ≤ 1 := Nat.le_refl 1
            clear hR hln hesc hmu hN
            generalize m.toUInt8 = q at *
            go_wp2_with fail
            refine (Hesc.out _).mono ?_
            rintro e w3 ⟨rfl, hb3⟩
            have hb4 : Below w.heap.size w (wr.alloc (.cells #[.int .u8 (m : Int)] 5)) := hbi.alloc hbi.size _
            have hb5 : Below w.heap.size w w3 := hb4.trans (hb3.mono hb4.size)
            go_wp2_with fail
            go_roundw
            case rel => exact ⟨k + (escB q).size, _, by omega, by go_num, rfl, by have : (⟨#[q]⟩ : ByteArray).size = 1 := rfl; simp [this]; omega, hR2, hb5⟩
            case measure => simp [intOf]; omega
    · have hks : k = s.size := by omega
      subst hks
      have d1 : decide ((s.size : Int) < (s.size : Int)) = false := decide_eq_false (by omega)
      have hR : Res = (0, out.data.toList) := by
        rw [hx.out, drop_end]
        simp [uneR, preU]
      subst hR
      go_wp2_with fail
      go_ret2
      exact ⟨by rw [show (⟨out.data.toList.toArray⟩ : ByteArray) = out from by cases out; simp]; rfl, hb⟩
end Go.Proofs.YtdjphpobhbelaaaDoor
