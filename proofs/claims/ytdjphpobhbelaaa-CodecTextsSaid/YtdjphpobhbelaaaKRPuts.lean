/- The reference's PutText, PutTexts, Short; a slice of strings that came in. -/
import Derived.Test.YtdjphpobhbelaaaKTM
import Derived.Test.YtdjphpobhbelaaaKRPut
import Derived.Test.YtdjphpobhbelaaaKSame
import Derived.Test.YtdjphpobhbelaaaKArg
import Derived.SliceStrings
namespace Go.Proofs.Ytdjphpobhbelaaa
open Go.ChangeShapes Go.WideShapes Go.Deep Go.RowKit
set_option linter.unusedVariables false

set_option maxHeartbeats 1000000 in
theorem rputText_c (s : List UInt8) (w : World) (hs : s.length ≤ 1000000) :
    Calls Try.prog 23 #[.string ⟨s.toArray⟩] w fun e w' => ∃ v', e = .returned v' ∧ Own w' w.heap.size v' (encS s) ∧ Below w.heap.size w w' := by
  obtain ⟨i0, hi, hz0, hz1, hz2⟩ := info_parts byteInfo
  have hsz : (⟨s.toArray⟩ : ByteArray).size = s.length := by show s.toArray.size = _; simp
  have hlen := encI_len (n := s.length) (by omega) (by omega)
  have hput := fun W => rputInt_c (s.length : Int) W (by omega) (by omega)
  rw [← hsz] at hput
  have Hput := Lib.hid hput
  clear hput
  go_enter Try.func23, Try.ntmps23
  go_wp2_with fail
  refine (Hput.out _).mono ?_
  rintro e w1 ⟨v1, rfl, ho, hb⟩
  rw [hsz] at ho
  have hsz1 := hb.size
  go_wp2_with (at_builtin; refine Lib.wpList_append_own_stringF _ rfl _ _ 22 9 rfl w.heap.size 5 i0 Try.underlying22 Try.underlying9 hi hz0 hz1 hz2 _ _ _ rfl ho ⟨s.toArray⟩ rfl ?c3 ?c4 ?c5 ?_)
  case c3 => unfold maxLen; omega
  case c4 => omega
  case c5 => omega
  intro v' w2 hown' hgrow _
  go_wp2_with fail
  go_ret
  refine ⟨v', rfl, ?_, hb.grown hgrow (by omega) (fun k hk => (own_lt ho k hk).1)⟩
  unfold Own encS
  rw [Lib.byteCells_append, List.length_append]
  have e1 : Lib.strCells ⟨s.toArray⟩ = Lib.byteCells s := by rw [Lib.strCells_eq]
  rw [← e1]
  exact hown'

set_option maxHeartbeats 2000000 in
set_option maxRecDepth 100000 in
theorem rputTexts_c (A : Option Addr) (ss : List (List UInt8)) (c : Nat) (w : World) (hA : SByAt w w.heap.size A ss) (hT : (encT ss).length ≤ 900000) (hn : ss.length ≤ 900000) :
    Calls Try.prog 22 #[.slice A ss.length c] w fun e w' => ∃ v, e = .returned v ∧ Own w' w.heap.size v (encT ss) ∧ Below w.heap.size w w' := by
  have hE : Hid (encT ss = encI ss.length ++ ss.flatMap encS) := Lib.hid rfl
  generalize hET : encT ss = E at *
  clear hET
  go_enter Try.func22, Try.ntmps22
  go_wp2_with fail
  refine (rputInt_c ss.length _ (by omega) (by omega)).mono ?_
  rintro e w1 ⟨v1, rfl, ho1, hb1⟩
  go_wp2_with fail
  go_loopw [3, 4] (fun bv iv wr => ∃ (k : Nat) (acc : List UInt8), iv = .int .i64 k ∧ k ≤ ss.length ∧ Own wr w.heap.size bv acc ∧ Hid (E = acc ++ (ss.drop k).flatMap encS) ∧ Below w.heap.size w wr) (fun _ iv _ => ss.length - (intOf iv).toNat)
  case atStart => exact ⟨0, encI ss.length, rfl, by omega, ho1, Lib.hid (by rw [hE.out]; rfl), hb1⟩
  case round =>
    obtain ⟨k, acc, rfl, hk, ho, hx, hb⟩ := hrel
    by_cases hlt : k < ss.length
    · have d1 : decide ((k : Int) < (ss.length : Int)) = true := decide_eq_true (by omega)
      have d1' : decide (k < ss.length) = true := decide_eq_true hlt
      obtain ⟨b, off, rfl, hbl, hc⟩ : ∃ b off, A = some ⟨b, off, none⟩ ∧ b < w.heap.size ∧ ∀ k (h : k < ss.length), w.cell? ⟨b, off + k, none⟩ = some (strV (ss[k]'h)) := by
        rcases hA with rfl | h
        · simp at hlt
        · exact h
      have hcell : wr.cell? ⟨b, off + k, none⟩ = some (.string ⟨(ss[k]'hlt).toArray⟩) := (hb.cell (p := ⟨b, off + k, none⟩) hbl).trans (hc k hlt)
      have hx2 := hx.out
      rw [List.drop_eq_getElem_cons hlt, List.flatMap_cons, ← List.append_assoc] at hx2
      have hlen := congrArg List.length hx2
      rw [List.length_append, List.length_append] at hlen
      generalize ss[k]'hlt = s at *
      have hsl : s.length ≤ (encS s).length := by unfold encS; rw [List.length_append]; omega
      have hal : acc.length ≤ 900000 := by omega
      have hel : (encS s).length ≤ 900000 := by omega
      have Hx2 := Lib.hid hx2
      clear hx hx2 hc hlen
      go_wp2_with fail
      refine (rputText_c s _ (by omega)).mono ?_
      rintro e w2 ⟨v2, rfl, ho2, hb2⟩
      obtain ⟨A2, k2, rfl, by2, _, _⟩ := own_by ho2
      have ho' := own_below ho hb2
      have hb3 := hb.trans (hb2.mono hb.size)
      go_wp2_with (at_builtin; refine wpList_app_by rfl _ _ rfl w.heap.size _ _ rfl ho' w2.heap.size A2 (encS s) k2 rfl by2 (by omega) hb3.size ?_)
      intro v3 w3 ho3 hb4
      go_wp2_with fail
      go_roundw
      case rel => exact ⟨k + 1, acc ++ encS s, by go_num, by omega, ho3, Hx2, hb3.trans hb4⟩
      case measure => simp [intOf]; omega
    · have hkl : k = ss.length := by omega
      have d1 : decide ((k : Int) < (ss.length : Int)) = false := decide_eq_false (by omega)
      have d1' : decide (k < ss.length) = false := decide_eq_false hlt
      have hx2 := hx.out
      rw [hkl, List.drop_length] at hx2
      simp at hx2
      subst hx2
      go_wp2_with fail
      go_ret
      exact ⟨_, rfl, ho, hb⟩

set_option maxHeartbeats 2000000 in
theorem short_c (A : Option Addr) (ss : List (List UInt8)) (c : Nat) (w : World) (hA : SByAt w w.heap.size A ss) (hsz : ∀ s ∈ ss, s.length ≤ maxLen) :
    Calls Try.prog 21 #[.slice A ss.length c, .int .i64 8, .int .i64 60] w fun e w' => w = w' ∧ (e = .returned (.bool false) ∨ e = .returned (.bool true) ∧ ss.length ≤ 8 ∧ ∀ s ∈ ss, s.length ≤ 60) := by
  go_enter Try.func21, Try.ntmps21
  go_wp2_with fail
  go_loop [7] (fun iv => ∃ k : Nat, iv = .int .i64 k ∧ k ≤ ss.length ∧ k ≤ 9 ∧ Hid (∀ i (h : i < ss.length), i < k → (ss[i]'h).length ≤ 60)) (fun iv => ss.length - (intOf iv).toNat)
  case atStart => exact ⟨0, rfl, by omega, by omega, Lib.hid (fun i h h' => by omega)⟩
  case round =>
    obtain ⟨k, rfl, hk, hk9, hx⟩ := hrel
    by_cases hlt : k < ss.length
    · have d1 : decide ((k : Int) < (ss.length : Int)) = true := decide_eq_true (by omega)
      have d1' : decide (k < ss.length) = true := decide_eq_true hlt
      by_cases h8 : k ≤ 8
      · have d2 : decide ((k : Int) ≤ 8) = true := decide_eq_true (by omega)
        have d2' : decide (k ≤ 8) = true := decide_eq_true h8
        obtain ⟨b, off, rfl, hbl, hc⟩ : ∃ b off, A = some ⟨b, off, none⟩ ∧ b < w.heap.size ∧ ∀ k (h : k < ss.length), w.cell? ⟨b, off + k, none⟩ = some (strV (ss[k]'h)) := by
          rcases hA with rfl | h
          · simp at hlt
          · exact h
        have hcell : w.cell? ⟨b, off + k, none⟩ = some (.string ⟨(ss[k]'hlt).toArray⟩) := hc k hlt
        have hz : (⟨(ss[k]'hlt).toArray⟩ : ByteArray).size = (ss[k]'hlt).length := by show (ss[k]'hlt).toArray.size = _; simp
        have hnext : (ss[k]'hlt).length ≤ 60 → Hid (∀ i (h : i < ss.length), i < k + 1 → (ss[i]'h).length ≤ 60) := fun hs => Lib.hid (fun i h h' => by
          by_cases hik : i = k
          · subst hik; exact hs
          · exact hx.out i h (by omega))
        generalize hbx : (⟨(ss[k]'hlt).toArray⟩ : ByteArray) = bx at *
        clear hc hbx
        by_cases h60 : 60 < bx.size
        · have d3 : decide ((60 : Int) < (bx.size : Int)) = true := decide_eq_true (by omega)
          have d3' : decide (60 < bx.size) = true := decide_eq_true h60
          clear hnext hx
          go_wp2_with fail
          go_ret
          exact ⟨rfl, .inl rfl⟩
        · have d3 : decide ((60 : Int) < (bx.size : Int)) = false := decide_eq_false (by omega)
          have d3' : decide (60 < bx.size) = false := decide_eq_false h60
          have hn := hnext (by omega)
          clear hnext hx
          go_wp2_with fail
          go_round
          case rel => exact ⟨k + 1, by go_num, by omega, by omega, hn⟩
          case measure => simp [intOf]; omega
      · have d2 : decide ((k : Int) ≤ 8) = false := decide_eq_false (by omega)
        have d2' : decide (k ≤ 8) = false := decide_eq_false h8
        have d4 : decide ((ss.length : Int) ≤ 8) = false := decide_eq_false (by omega)
        have d4' : decide (ss.length ≤ 8) = false := decide_eq_false (by omega)
        go_wp2_with fail
        go_ret
        exact ⟨rfl, .inl rfl⟩
    · have hkl : k = ss.length := by omega
      have d1 : decide ((k : Int) < (ss.length : Int)) = false := decide_eq_false (by omega)
      have d1' : decide (k < ss.length) = false := decide_eq_false hlt
      have hall : Hid (∀ s ∈ ss, s.length ≤ 60) := Lib.hid (fun s hs => by
        obtain ⟨i, hi, rfl⟩ := List.getElem_of_mem hs
        exact hx.out i hi (by omega))
      clear hx
      by_cases h8 : ss.length ≤ 8
      · have d4 : decide ((ss.length : Int) ≤ 8) = true := decide_eq_true (by omega)
        have d4' : decide (ss.length ≤ 8) = true := decide_eq_true h8
        have Hall := hall
        go_wp2_with fail
        go_ret
        first | exact ⟨rfl, .inr ⟨rfl, Hall.out⟩⟩ | exact ⟨rfl, .inr ⟨rfl, h8, Hall.out⟩⟩
      · have d4 : decide ((ss.length : Int) ≤ 8) = false := decide_eq_false (by omega)
        have d4' : decide (ss.length ≤ 8) = false := decide_eq_false h8
        go_wp2_with fail
        go_ret
        first | exact ⟨rfl, rfl⟩ | exact ⟨rfl, .inl rfl⟩

theorem open_texts {H : Type} {enc : TypeId × Value → H} {W : World} {base : Nat} {r : Reach} {v : Value} {d : DataW H} {p : List MemPlace} (hv : Value.okWide Try.prog W r base 36 v) (h : DataW.Trod enc Try.prog W 0 (fun _ => true) true 36 v d p) :
    ∃ (A : Option Addr) (c : Nat) (ss : List (List UInt8)), v = .slice A ss.length c ∧ SByAt W W.heap.size A ss ∧ ss.length ≤ c ∧ c ≤ maxLen ∧ ∀ s ∈ ss, s.length ≤ maxLen := by
  obtain ⟨A, len, cap, rfl⟩ := okWide_slice Try.underlying36 hv
  obtain ⟨fuel, hf⟩ := h
  rcases open_strings Try.underlying36 Try.underlying9 (by kernel_rfl) (by simpa [Value.cells] using hf) with ⟨h0, _⟩ | ⟨a, len', cap', zs, hcs, _, hl, hm, hzl, _, hc, hw⟩
  · simp at h0
    obtain ⟨rfl, rfl, rfl⟩ := h0
    exact ⟨none, 0, [], rfl, .inl rfl, by simp, by simp [maxLen], by simp⟩
  · simp only [List.cons.injEq, Value.slice.injEq, and_true] at hcs
    obtain ⟨rfl, rfl, rfl⟩ := hcs
    rw [if_pos rfl] at hzl
    have hlen : ((zs.take len).map fun z => z.data.toList).length = len := by simp; omega
    refine ⟨some a, cap, (zs.take len).map fun z => z.data.toList, by rw [hlen], ?_, by omega, hm, fun s hs => ?_⟩
    · by_cases hz : len = 0
      · subst hz; exact .inl (by simp)
      right
      have h0 := hc 0 (by omega)
      obtain ⟨b, off, spot⟩ := a
      have hspot : spot = none := by simpa [Addr.add] using World.cell?_spot h0
      subst hspot
      have hlt := World.block_lt_of_cell? W _ h0
      refine ⟨b, off, rfl, by simpa [Addr.add] using hlt, fun k hk => ?_⟩
      rw [hlen] at hk
      have h1 := hc k (by omega)
      have hk2 : k < zs.length := by omega
      rw [show (⟨b, off, none⟩ : Addr).add k = ⟨b, off + k, none⟩ from by simp [Addr.add], List.getD_eq_getElem?_getD, List.getElem?_eq_getElem hk2] at h1
      rw [h1]
      simp only [List.getElem_map, List.getElem_take, Option.getD_some, strV]
    · obtain ⟨z, hz, rfl⟩ := List.mem_map.1 hs
      exact hw z (List.mem_of_mem_take hz)
end Go.Proofs.Ytdjphpobhbelaaa
