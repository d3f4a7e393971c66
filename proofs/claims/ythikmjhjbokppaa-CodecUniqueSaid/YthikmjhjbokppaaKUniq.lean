/- The contract of codec's PutTexts; what is accepted begins with the encoding of the result. -/
import Derived.Test.YthikmjhjbokppaaKTexts2
namespace Go.Proofs.Ythikmjhjbokppaa
open Go.RowKit
set_option linter.unusedVariables false

def encS (s : List UInt8) : List UInt8 := encI s.length ++ s
def encT (ss : List (List UInt8)) : List UInt8 := encI ss.length ++ ss.flatMap encS

theorem takeN_unique {l : List UInt8} (h : (takeN l).2.2 = 0) : l.take (takeN l).2.1 = encI (takeN l).1 := by
  unfold takeN at h ⊢
  by_cases h1 : (takeI l).2.2 ≠ 0
  · rw [if_pos h1] at h; exact absurd h h1
  · rw [if_neg h1] at h ⊢
    by_cases h2 : (takeI l).1 < 0
    · rw [if_pos h2] at h; exact absurd h (by decide)
    · rw [if_neg h2]
      have h3 : (takeI l).2.2 = 0 := by omega
      have := (takeI_unique (l := l) (n := (takeI l).1) (k := (takeI l).2.1) (by rw [← h3])).2.2
      show l.take (takeI l).2.1 = encI (((takeI l).1.toNat : Nat) : Int)
      rw [this, Int.toNat_of_nonneg (by omega)]
theorem takeS_unique {l : List UInt8} (h : (takeS l).2.2 = 0) : l.take (takeS l).2.1 = encS (takeS l).1 := by
  unfold takeS at h ⊢
  by_cases h1 : (takeN l).2.2 ≠ 0
  · rw [if_pos h1] at h; exact absurd h h1
  · rw [if_neg h1] at h ⊢
    by_cases h2 : l.length - (takeN l).2.1 < (takeN l).1
    · rw [if_pos h2] at h; exact absurd h (by decide)
    · rw [if_neg h2]
      have h3 := takeN_unique (l := l) (by omega)
      show l.take ((takeN l).2.1 + (takeN l).1) = encS ((l.drop (takeN l).2.1).take (takeN l).1)
      rw [List.take_add, h3]
      unfold encS
      rw [List.length_take, List.length_drop, show min (takeN l).1 (l.length - (takeN l).2.1) = (takeN l).1 from by omega]
theorem loopT_unique : ∀ (k : Nat) (l : List UInt8), (loopT k l).2.2 = 0 → (loopT k l).1.length = k ∧ l.take (loopT k l).2.1 = (loopT k l).1.flatMap encS
  | 0, l, _ => by simp [loopT]
  | k + 1, l, h => by
    rw [loopT] at h ⊢
    by_cases h1 : (takeS l).2.2 ≠ 0
    · rw [if_pos h1] at h; exact absurd h h1
    · rw [if_neg h1] at h ⊢
      by_cases h2 : (loopT k (l.drop (takeS l).2.1)).2.2 ≠ 0
      · rw [if_pos h2] at h; exact absurd h h2
      · rw [if_neg h2]
        have h3 := takeS_unique (l := l) (by omega)
        have h4 := loopT_unique k (l.drop (takeS l).2.1) (by omega)
        refine ⟨by simp [h4.1], ?_⟩
        show l.take ((takeS l).2.1 + (loopT k (l.drop (takeS l).2.1)).2.1) = _
        rw [List.take_add, h3, h4.2]
        simp
theorem takeL_unique {l : List UInt8} (h : (takeL l).2.2 = 0) : l.take (takeL l).2.1 = encT (takeL l).1 := by
  unfold takeL comb at h ⊢
  by_cases h1 : (takeN l).2.2 ≠ 0
  · rw [if_pos h1] at h; exact absurd h h1
  · rw [if_neg h1] at h ⊢
    by_cases h2 : l.length - (takeN l).2.1 < (takeN l).1
    · rw [if_pos h2] at h; exact absurd h (by decide)
    · rw [if_neg h2] at h ⊢
      by_cases h5 : (loopT (takeN l).1 (l.drop (takeN l).2.1)).2.2 ≠ 0
      · rw [if_pos h5] at h; exact absurd h h5
      · rw [if_neg h5]
        have h3 := takeN_unique (l := l) (by omega)
        have h4 := loopT_unique (takeN l).1 (l.drop (takeN l).2.1) (by omega)
        show l.take ((takeN l).2.1 + (loopT (takeN l).1 (l.drop (takeN l).2.1)).2.1) = encT ([] ++ (loopT (takeN l).1 (l.drop (takeN l).2.1)).1)
        rw [List.take_add, h3, h4.2, List.nil_append]
        unfold encT
        rw [h4.1]

/-- The strings that a slice shows. -/
def SByAt (w : World) (B : Nat) (A : Option Addr) (ss : List (List UInt8)) : Prop := ss = [] ∨ ∃ b off, A = some ⟨b, off, none⟩ ∧ b < B ∧ ∀ k (h : k < ss.length), w.cell? ⟨b, off + k, none⟩ = some (strV (ss[k]'h))
theorem sby_below {w w' : World} {B B' : Nat} {A : Option Addr} {ss : List (List UInt8)} (h : SByAt w B A ss) (hb : Below B' w w') (hB : B ≤ B') : SByAt w' B A ss := by
  rcases h with rfl | ⟨b, off, rfl, hlt, hc⟩
  · exact .inl rfl
  · exact .inr ⟨b, off, rfl, hlt, fun j hj => (hb.cell (p := ⟨b, off + j, none⟩) (by show b < B'; omega)).trans (hc j hj)⟩
theorem ownT_by {w : World} {B : Nat} {v : Value} {ss : List (List UInt8)} (h : OwnT w B v ss) : ∃ A c, v = .slice A ss.length c ∧ SByAt w w.heap.size A ss ∧ ss.length ≤ c ∧ c ≤ maxLen := by
  rcases h.2 with ⟨rfl, h0⟩ | ⟨g, cap, cur, rfl, hg, hh, h2, h3, h4, h5⟩
  · exact ⟨none, 0, by rw [h0], .inl (List.length_eq_zero_iff.1 h0), by omega, by unfold maxLen; omega⟩
  · refine ⟨_, cap, rfl, .inr ⟨g, 0, rfl, lt_of_block hh, fun k hk => ?_⟩, h2, h3⟩
    rw [Lib.cell_of_heap hh]
    have h6 : (cur.toList.take (ss.length * 1))[k]? = (ss.map strV)[k]? := by rw [h5]
    rw [List.getElem?_take, if_pos (by omega), List.getElem?_map, List.getElem?_eq_getElem hk] at h6
    show cur[0 + k]? = _
    rw [Nat.zero_add, ← Array.getElem?_toList, h6]
    rfl

set_option maxHeartbeats 2000000 in
set_option maxRecDepth 100000 in
theorem putTexts_c (A : Option Addr) (ss : List (List UInt8)) (c : Nat) (w : World) (hA : SByAt w w.heap.size A ss) (hT : (encT ss).length ≤ 900000) (hn : ss.length ≤ 900000) :
    Calls Try.prog 14 #[.slice A ss.length c] w fun e w' => ∃ v, e = .returned v ∧ Own w' w.heap.size v (encT ss) ∧ Below w.heap.size w w' := by
  have hE : Hid (encT ss = encI ss.length ++ ss.flatMap encS) := Lib.hid rfl
  generalize hET : encT ss = E at *
  clear hET
  go_enter Try.func14, Try.ntmps14
  go_wp2_with fail
  refine (appendNumber_c w.heap.size _ [] ss.length _ (by omega) (by omega) (by simp) (Nat.le_refl _) (own_nil w _)).mono ?_
  rintro e w1 ⟨v1, rfl, ho1, hb1⟩
  rw [List.nil_append] at ho1
  go_wp2_with fail
  go_loopw [3, 11] (fun bv iv wr => ∃ (k : Nat) (acc : List UInt8), iv = .int .i64 k ∧ k ≤ ss.length ∧ Own wr w.heap.size bv acc ∧ Hid (E = acc ++ (ss.drop k).flatMap encS) ∧ Below w.heap.size w wr) (fun _ iv _ => ss.length - (intOf iv).toNat)
  case atStart => exact ⟨0, encI ss.length, rfl, by omega, ho1, Lib.hid (by rw [hE.out]; rfl), hb1⟩
  case round =>
    obtain ⟨k, acc, rfl, hk, ho, hx, hb⟩ := hrel
    by_cases hlt : k < ss.length
    · have d1 : decide ((k : Int) < (ss.length : Int)) = true := decide_eq_true (by omega)
      have d1' : decide (k < ss.length) = true := decide_eq_true hlt
      obtain ⟨b, off, rfl, hbl, hc⟩ : ∃ b off, A = some ⟨b, off, none⟩ ∧ b < w.heap.size ∧ ∀ k (h : k < ss.length), w.cell? ⟨b, off + k, none⟩ = some (strV (ss[k]'h)) := by
        rcases hA with rfl | h
        · simp at hlt
        · exact h
      have hcell : wr.cell? ⟨b, off + k, none⟩ = some (.string ⟨(ss[k]'hlt).toArray⟩) := (hb.cell (p := ⟨b, off + k, none⟩) hbl).trans (hc k hlt)
      have hx2 := hx.out
      rw [List.drop_eq_getElem_cons hlt, List.flatMap_cons, ← List.append_assoc] at hx2
      have hlen := congrArg List.length hx2
      rw [List.length_append, List.length_append] at hlen
      generalize ss[k]'hlt = s at *
      have hsl : s.length ≤ (encS s).length := by unfold encS; rw [List.length_append]; omega
      have hsz : (⟨s.toArray⟩ : ByteArray).size = s.length := by show s.toArray.size = _; simp
      have hat := fun W h1 h2 => appendText_c w.heap.size u3 acc ⟨s.toArray⟩ W (by omega) (by omega) h1 h2
      rw [show encI ((⟨s.toArray⟩ : ByteArray).size : Int) ++ (⟨s.toArray⟩ : ByteArray).data.toList = encS s from by rw [hsz]; rfl] at hat
      have Hx2 := Lib.hid hx2
      have Hat := Lib.hid hat
      clear hx hx2 hc hat hlen
      go_wp2_with fail
      refine (Hat.out _ hb.size ho).mono ?_
      rintro e w2 ⟨v2, rfl, ho2, hb2⟩
      go_wp2_with fail
      go_roundw
      case rel => exact ⟨k + 1, acc ++ encS s, by go_num, by omega, ho2, Hx2, hb.trans hb2⟩
      case measure => simp [intOf]; omega
    · have hkl : k = ss.length := by omega
      subst hkl
      have d1 : decide ((ss.length : Int) < (ss.length : Int)) = false := decide_eq_false (by omega)
      have hx2 := hx.out
      rw [List.drop_length] at hx2
      simp at hx2
      subst hx2
      go_wp2_with fail
      go_ret
      exact ⟨_, rfl, ho, hb⟩
end Go.Proofs.Ythikmjhjbokppaa
