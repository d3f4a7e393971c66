/- heredoc: the lines of a text as lists; Strip byte by byte; the reference's Strip. -/
import Derived.Test.YtlenmkcafoiefabGreatDoorHdS
import Derived.Test.YtlenmkcafoiefabGreatDoorLxE
import Derived.Lib.Strings
namespace Go.Proofs.YtlenmkcafoiefabGreatDoor
open Go.RowKit
set_option linter.unusedVariables false
set_option linter.unusedSimpArgs false

/-- The lines of a list of bytes. -/
def spl : List UInt8 → List (List UInt8)
  | [] => []
  | c :: l => if (c == 10) = true then [c] :: spl l else match spl l with | [] => [[c]] | x :: r => (c :: x) :: r
def eol (l : List UInt8) : Nat := if fndL 10 l < l.length then fndL 10 l + 1 else l.length
theorem spl_cons (c : UInt8) (l : List UInt8) : spl (c :: l) = if (c == 10) = true then [c] :: spl l else match spl l with | [] => [[c]] | x :: r => (c :: x) :: r := rfl
theorem fnd_cons (c : UInt8) (l : List UInt8) : fndL 10 (c :: l) = if (c == 10) = true then 0 else fndL 10 l + 1 := rfl
theorem spl_cut : ∀ l : List UInt8, l ≠ [] → spl l = l.take (eol l) :: spl (l.drop (eol l))
  | [], h => absurd rfl h
  | c :: l, _ => by
    rw [spl_cons]
    unfold eol
    rw [fnd_cons]
    rcases hc : c == 10 with _ | _
    · simp only [Bool.false_eq_true, if_false]
      rcases l with _ | ⟨d, l⟩
      · rfl
      · rw [spl_cut (d :: l) (by simp)]
        unfold eol
        by_cases h : fndL 10 (d :: l) < (d :: l).length
        · rw [if_pos h, if_pos (by simp only [List.length_cons] at h ⊢; omega)]
          rfl
        · rw [if_neg h, if_neg (by simp only [List.length_cons] at h ⊢; omega)]
          rfl
    · simp only [if_true]
      rw [if_pos (by simp)]
      rfl
theorem endN_eol {s : List UInt8} {p : Nat} (h : p ≤ s.length) : endN s p = p + eol (s.drop p) := by
  unfold endN eol
  rw [List.length_drop]
  split <;> omega
theorem ext_list (s : ByteArray) (a b : Nat) : (s.extract a b).data.toList = (s.data.toList.drop a).take (b - a) := by
  rw [ByteArray.data_extract, Array.toList_extract]
theorem lns_spl (s : ByteArray) : ∀ (n p : Nat), s.size - p = n → p ≤ s.size → (lnsL s p).map (fun x => x.2.data.toList) = spl (s.data.toList.drop p) := by
  intro n
  induction n using Nat.strongRecOn with
  | ind n ih =>
    intro p hn hp
    by_cases hlt : p < s.size
    · rw [lnsL_cons hlt]
      obtain ⟨g1, g2⟩ := endN_gt (s := s.data.toList) (p := p) (by rw [lenS]; exact hlt)
      rw [lenS] at g2
      rw [List.map_cons, ih (s.size - endN s.data.toList p) (by omega) _ rfl g2]
      have he := endN_eol (s := s.data.toList) (p := p) (by rw [lenS]; exact hp)
      rw [spl_cut (s.data.toList.drop p) (by intro h; have := congrArg List.length h; rw [List.length_drop, lenS] at this; simp at this; omega)]
      rw [ext_list, List.drop_drop, ← he, show endN s.data.toList p - p = eol (s.data.toList.drop p) by omega]
    · rw [lnsL_nil (by omega), List.drop_eq_nil_of_le (by rw [lenS]; omega)]
      rfl
/-- Strip byte by byte. -/
def rst : Bool → List UInt8 → List UInt8
  | _, [] => []
  | b, c :: l => if (b && c == 9) = true then rst true l else c :: rst (c == 10) l
def trm (l : List UInt8) : List UInt8 := l.dropWhile (· == 9)
theorem rst_spl : ∀ l : List UInt8, rst true l = (spl l).flatMap trm ∧ rst false l = (match spl l with | [] => [] | x :: r => x ++ r.flatMap trm)
  | [] => ⟨rfl, rfl⟩
  | c :: l => by
    obtain ⟨i1, i2⟩ := rst_spl l
    unfold rst spl
    rcases hc : c == 10 with _ | _
    · rcases h9 : c == 9 with _ | _
      · rcases hs : spl l with _ | ⟨x, r⟩
        · rw [hs] at i1 i2
          simp [i2, trm, h9]
        · rw [hs] at i1 i2
          simp [i2, trm, h9]
      · rcases hs : spl l with _ | ⟨x, r⟩
        · rw [hs] at i1 i2
          simp at i1 i2
          simp [i1, i2, trm, h9]
        · rw [hs] at i1 i2
          simp only [List.flatMap_cons] at i1
          simp [i1, i2, trm, h9]
    · have e : c = 10 := by simpa using hc
      subst e
      simp [i1, trm]
theorem rst_cons (b : Bool) (c : UInt8) (l : List UInt8) : rst b (c :: l) = if (b && c == 9) = true then rst true l else c :: rst (c == 10) l := rfl
theorem rst_idem : ∀ (b : Bool) (l : List UInt8), rst b (rst b l) = rst b l
  | _, [] => rfl
  | b, c :: l => by
    rw [rst_cons]
    rcases h : b && c == 9 with _ | _
    · simp only [Bool.false_eq_true, if_false]
      rw [rst_cons, h]
      simp only [Bool.false_eq_true, if_false]
      rw [rst_idem]
    · simp only [if_true]
      have hb : b = true := by rcases b with _ | _ <;> simp_all
      subst hb
      exact rst_idem true l
theorem rst_len : ∀ (b : Bool) (l : List UInt8), (rst b l).length ≤ l.length
  | _, [] => Nat.le_refl _
  | b, c :: l => by
    unfold rst
    split
    · have := rst_len true l; simp; omega
    · have := rst_len (c == 10) l; simp; omega
theorem strip_list (s : ByteArray) : (stripS s).data.toList = rst true s.data.toList := by
  rw [(rst_spl _).1]
  have h := lns_spl s _ 0 rfl (by omega)
  rw [List.drop_zero] at h
  rw [← h, List.flatMap_map]
  show stripB (lnsL s 0) = _
  unfold stripB
  rfl
theorem strip_idem (s : ByteArray) : stripS (stripS s) = stripS s := by
  apply ByteArray.ext
  apply Array.toList_inj.1
  rw [strip_list, strip_list, rst_idem]
theorem strip_le (s : ByteArray) : (stripS s).size ≤ s.size := by
  have := rst_len true s.data.toList
  rw [← strip_list, lenS, lenS] at this
  exact this
theorem rst_at {s : List UInt8} {k : Nat} {b : Bool} (h : k < s.length) : rst b (s.drop k) = if (b && bt s k == 9) = true then rst true (s.drop (k + 1)) else bt s k :: rst (bt s k == 10) (s.drop (k + 1)) := by
  rw [List.drop_eq_getElem_cons h, bt_get h]
  rfl
set_option maxHeartbeats 4000000 in
set_option maxRecDepth 100000 in
theorem RStrip_c (s : ByteArray) (w : World) (hs : s.size ≤ 140737488355328) : Calls Tryz.prog 22 #[.string s] w fun e w' => e = .returned (.string (stripS s)) ∧ w = w' := by
  have hsl := Lib.hid (strip_list s)
  generalize stripS s = R at *
  go_enter Tryz.func22, Tryz.ntmps22
  go_wp2_with fail
  go_loop [3, 4, 5] (fun ov bv kv => ∃ (k : Nat) (b : Bool) (o : ByteArray), kv = .int .i64 k ∧ bv = .bool b ∧ ov = .string o ∧ k ≤ s.size ∧ o.size ≤ k ∧ Hid (R.data.toList = o.data.toList ++ rst b (s.data.toList.drop k))) (fun _ _ kv => s.size - (intOf kv).toNat)
  case atStart => exact ⟨0, true, ⟨#[]⟩, rfl, rfl, rfl, by omega, by decide, Lib.hid (by rw [hsl.out]; rfl)⟩
  case round =>
    obtain ⟨k, b, o, rfl, rfl, rfl, hk, ho, hx⟩ := hrel
    clear hsl
    by_cases hlt : k < s.size
    · have d1 : decide ((k : Int) < (s.size : Int)) = true := decide_eq_true (by omega)
      have d1' : decide (k < s.size) = true := decide_eq_true hlt
      have i1 : (k : Int) < (s.size : Int) := by omega
      have hx2 := hx.out
      rw [rst_at (show k < s.data.toList.length from hlt), btS hlt] at hx2
      clear hx
      have b1 : (k : Int) ≤ (k : Int) + 1 := by omega
      have b2 : (k : Int) + 1 ≤ (s.size : Int) := by omega
      have hex : (s.extract k (k + 1)).size = 1 := by rw [ByteArray.size_extract]; omega
      have hel : (o ++ s.extract k (k + 1)).data.toList = o.data.toList ++ [s[k]'hlt] := by
        rw [ByteArray.data_append, Array.toList_append, ext_list, List.drop_eq_getElem_cons (show k < s.data.toList.length from hlt), show k + 1 - k = 1 by omega]
        rfl
      have hsz : (o ++ s.extract k (k + 1)).size ≤ k + 1 := by rw [ByteArray.size_append, hex]; omega
      have Hel := Lib.hid hel
      have Hsz := Lib.hid hsz
      clear hel hsz
      rcases h10 : (s[k]'hlt) == 10 with _ | _
      all_goals rcases h9 : (s[k]'hlt) == 9 with _ | _
      all_goals rcases b with _ | _
      all_goals
        first | have t1 : (((s[k]'hlt).toNat : Int) == 10) = false := u8b h10 rfl
              | have t1 : (((s[k]'hlt).toNat : Int) == 10) = true := u8b h10 rfl
        first | have t2 : (((s[k]'hlt).toNat : Int) == 9) = false := u8b h9 rfl
              | have t2 : (((s[k]'hlt).toNat : Int) == 9) = true := u8b h9 rfl
        rw [h9, h10] at hx2
        clear h9 h10
        simp only [Bool.and_true, Bool.and_false, Bool.true_and, Bool.false_and, Bool.false_eq_true, if_true, if_false] at hx2
        have Hx2 := Lib.hid hx2
        clear hx2
        go_wp2_with fail
        go_round
        case rel => first | exact ⟨k + 1, true, o, by go_num, rfl, rfl, by omega, by omega, Hx2⟩ | exact ⟨k + 1, _, o ++ s.extract k (k + 1), by go_num, rfl, rfl, by omega, Hsz.out, Lib.hid (by rw [Hel.out, List.append_assoc]; exact Hx2.out)⟩
        case measure => simp [intOf]; omega
    · have hks : k = s.size := by omega
      subst hks
      have d1 : decide ((s.size : Int) < (s.size : Int)) = false := decide_eq_false (by omega)
      have hx3 : Hid (R = o) := Lib.hid (by
        have := hx.out
        rw [List.drop_eq_nil_of_le (by rw [lenS]; exact Nat.le_refl _)] at this
        exact ByteArray.ext (Array.toList_inj.1 (by rw [this]; simp [rst])))
      clear hx
      go_wp2_with fail
      go_ret
      exact ⟨by rw [hx3.out]; rfl, rfl⟩
end Go.Proofs.YtlenmkcafoiefabGreatDoor
