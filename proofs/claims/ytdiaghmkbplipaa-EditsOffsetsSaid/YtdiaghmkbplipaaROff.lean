/- The contracts of the reference's Lines and Offset. -/
import Derived.Test.YtdiaghmkbplipaaLawLines
namespace Go.Proofs.Ytdiaghmkbplipaa
open Go.RowKit
open editsLines

/-- The lines that are still to come. -/
def remL (s : ByteArray) (b k : Nat) : List (Nat × Nat) := if k ≤ s.size then spans (s.data.toList.drop k) b k else []

theorem remL_end (s : ByteArray) (b : Nat) : remL s b s.size = [(b, s.size)] := by
  have h : s.data.toList.length = s.size := by simp
  unfold remL
  rw [if_pos (Nat.le_refl _), List.drop_of_length_le (by omega)]
  rfl
theorem remL_out (s : ByteArray) (b : Nat) : remL s b (s.size + 1) = [] := by
  unfold remL
  rw [if_neg (by omega)]
theorem remL_step {s : ByteArray} {b k : Nat} (h : k < s.size) : remL s b k = if s[k] = 10 then (b, k) :: remL s (k + 1) (k + 1) else remL s b (k + 1) := by
  have hl : k < s.data.toList.length := by simpa using h
  unfold remL
  rw [if_pos (show k ≤ s.size by omega), if_pos (show k + 1 ≤ s.size by omega), if_pos (show k + 1 ≤ s.size by omega), List.drop_eq_getElem_cons hl, spans_cons]
  rfl

set_option maxHeartbeats 2000000 in
theorem rlines_c (s : ByteArray) (w : World) (hs : s.size ≤ 17000) :
    Calls Try.prog 27 #[.string s] w fun e w' => ∃ (v : Value), e = .returned v ∧
      w'.ownsRow w.heap.size 9 1 v (lineVals s (spans s.data.toList 0 0)).length (lineVals s (spans s.data.toList 0 0)) ∧ Below w.heap.size w w' := by
  obtain ⟨i0, hi0, hz0, hz1, hz2⟩ := info_parts strInfo
  have htot := spans_length' s.data.toList 0 0
  have hll : s.data.toList.length = s.size := by simp
  rw [hll] at htot
  have hrem0 : remL s 0 0 = spans s.data.toList 0 0 := by unfold remL; rw [if_pos (by omega)]; rfl
  rw [← hrem0] at htot ⊢
  have Hrem0 := Lib.hid hrem0
  clear hrem0 hll
  go_enter Try.func27, Try.ntmps27
  go_wp2_with fail
  go_loopw [3, 4, 5] (fun ov bv iv wr => ∃ (k b n : Nat) (xs : List Value), k ≤ s.size + 1 ∧ b ≤ k ∧ iv = .int .i64 k ∧ bv = .int .i64 b ∧ wr.ownsRow w.heap.size 9 1 ov n xs ∧ xs.length = n ∧ xs ++ lineVals s (remL s b k) = lineVals s (remL s 0 0) ∧ Below w.heap.size w wr) (fun _ _ iv _ => s.size + 1 - (intOf iv).toNat)
  case atStart => exact ⟨0, 0, 0, [], by omega, by omega, rfl, rfl, ⟨by simp, .inl ⟨rfl, rfl⟩⟩, rfl, rfl, Below.refl _ _⟩
  case round =>
    obtain ⟨k, b, n, xs, hk, hbk, rfl, rfl, hown, hxl, htx, hb⟩ := hrel
    rename_i ov _ _
    have hsz := hb.size
    have hnl : n ≤ 20000 := by
      have := congrArg List.length htx
      simp only [List.length_append, lineVals, List.length_map] at this
      omega
    have Hxl := Lib.hid hxl
    clear hxl
    by_cases hend : k = s.size
    · subst hend
      rw [remL_end] at htx
      have Htx := Lib.hid htx
      clear htx
      have i1 : (b : Int) ≤ (s.size : Int) := by omega
      go_wp2_with (at_builtin; refine wpList_append_lies _ rfl _ _ _ rfl w.heap.size 9 i0 _ 1 16 Try.underlying31 hi0 hz0 hz1 hz2 rfl (by omega) _ n xs rfl (hown.alloc _) ⟨wr.heap.size, 0, none⟩ 1 1 [.string (s.extract b s.size)] rfl rfl (World.news_of_block (cs := #[.string (s.extract b s.size)]) (t := 9) (fr := (0, 0)) (heap_alloc_new wr _)) (by simp [Value.oneCell']) (by omega) (by simp only [maxLen]; omega) (by omega) (by simp; omega) (wr.heap.size + 1) (by simp) ?_; intro gg cap w1 hown1 hgrow hat hlt)
      go_roundw
      case rel => exact ⟨s.size + 1, s.size + 1, n + 1, _, by omega, by omega, by go_num, by go_num, hown1, by simp [Hxl.out], by rw [remL_out, ← Htx.out]; simp [lineVals], (hb.alloc hsz _).grown hgrow (by simp; omega) (fun g hg => (hown.lt g hg).1)⟩
      case measure => simp [intOf]
    · by_cases hlt : k < s.size
      · rw [remL_step hlt] at htx
        have i0' : (k : Int) < (s.size : Int) := by omega
        have i1 : (b : Int) ≤ (k : Int) := by omega
        have i2 : (k : Int) ≤ (s.size : Int) := by omega
        have t0 : ((k : Int) == (s.size : Int)) = false := by rw [beq_eq_false_iff_ne]; omega
        clear hend
        by_cases h10 : s[k] = 10
        · have t1 : (((s[k]).toNat : Int) == 10) = true := by rw [h10]; rfl
          rw [if_pos h10] at htx
          have Htx := Lib.hid htx
          clear htx h10
          go_wp2_with (at_builtin; refine wpList_append_lies _ rfl _ _ _ rfl w.heap.size 9 i0 _ 1 16 Try.underlying31 hi0 hz0 hz1 hz2 rfl (by omega) _ n xs rfl (hown.alloc _) ⟨wr.heap.size, 0, none⟩ 1 1 [.string (s.extract b k)] rfl rfl (World.news_of_block (cs := #[.string (s.extract b k)]) (t := 9) (fr := (0, 0)) (heap_alloc_new wr _)) (by simp [Value.oneCell']) (by omega) (by simp only [maxLen]; omega) (by omega) (by simp; omega) (wr.heap.size + 1) (by simp) ?_; intro gg cap w1 hown1 hgrow hat hlt)
          go_roundw
          case rel => exact ⟨k + 1, k + 1, n + 1, _, by omega, by omega, by go_num, by go_num, hown1, by simp [Hxl.out], by rw [← Htx.out]; simp [lineVals], (hb.alloc hsz _).grown hgrow (by simp; omega) (fun g hg => (hown.lt g hg).1)⟩
          case measure => simp [intOf]; omega
        · have t1 : (((s[k]).toNat : Int) == 10) = false := by
            rw [beq_eq_false_iff_ne]
            intro h
            exact h10 (UInt8.toNat_inj.1 (by simp; omega))
          rw [if_neg h10] at htx
          have Htx := Lib.hid htx
          clear htx h10
          go_wp2_with fail
          go_roundw
          case rel => exact ⟨k + 1, b, n, xs, by omega, by omega, by go_num, rfl, hown, Hxl.out, Htx.out, hb⟩
          case measure => simp [intOf]; omega
      · have hkk : k = s.size + 1 := by omega
        subst hkk
        rw [remL_out] at htx
        have htx' : xs = lineVals s (remL s 0 0) := by simpa [lineVals] using htx
        have Htx := Lib.hid htx'
        clear htx htx' hend
        go_wp2_with fail
        go_ret
        refine ⟨_, rfl, ?_, hb⟩
        rw [← Htx.out, Hxl.out]
        exact hown

theorem rlines_ix (s : ByteArray) (w : World) (hs : s.size ≤ 17000) :
    Calls Try.prog 27 #[.string s] w fun e w' => ∃ (g cap : Nat), e = .returned (.slice (some ⟨g, 0, none⟩) (spans s.data.toList 0 0).length cap) ∧ (spans s.data.toList 0 0).length ≤ cap ∧
      (∀ k, k < (spans s.data.toList 0 0).length → w'.cell? ⟨g, k, none⟩ = some (.string (s.extract ((spans s.data.toList 0 0).getD k (0, 0)).1 ((spans s.data.toList 0 0).getD k (0, 0)).2))) ∧ Below w.heap.size w w' := by
  refine (rlines_c s w hs).mono ?_
  rintro e w' ⟨v, rfl, hown, hb⟩
  have hl : (lineVals s (spans s.data.toList 0 0)).length = (spans s.data.toList 0 0).length := by simp [lineVals]
  rw [hl] at hown
  have hix := ix s
  rcases hown.2 with ⟨_, h0⟩ | ⟨g, cap, cur, rfl, _, _, hc, _⟩
  · have := hix.pos; omega
  · refine ⟨g, cap, rfl, hc, fun k hk => ?_, hb⟩
    exact own_cell hown (by simp [lineVals, List.getD, List.getElem?_eq_getElem hk])

theorem offL_hit (col : Int) : ∀ (l : List (Nat × Nat)) (c k : Nat) (x : Nat × Nat), l[k]? = some x → offL ((c : Int) + k + 1) col l c = (if 1 ≤ col ∧ col ≤ (x.2 : Int) - x.1 + 1 then ((x.1 : Int) + col - 1, 0) else (0, 2))
  | [], _, _, _, h => by simp at h
  | (a, b) :: r, c, 0, x, h => by
    simp at h
    subst h
    rw [offL, if_pos (by omega)]
  | (a, b) :: r, c, k + 1, x, h => by
    rw [offL, if_neg (by omega)]
    have := offL_hit col r (c + 1) k x (by simpa using h)
    rw [← this]
    congr 1
    omega
theorem offL_miss (line col : Int) : ∀ (l : List (Nat × Nat)) (c : Nat), ((c + l.length : Nat) : Int) < line → offL line col l c = (0, 2)
  | [], _, _ => rfl
  | (a, b) :: r, c, h => by
    simp only [List.length_cons] at h
    rw [offL, if_neg (by omega)]
    exact offL_miss line col r (c + 1) (by omega)

set_option maxHeartbeats 2000000 in
theorem roffset_c (s : ByteArray) (line col : Int) (w : World) (hs : s.size ≤ 17000) (h1 : -9223372036854775808 ≤ line) (h2 : line ≤ 9223372036854775807) (h3 : -9223372036854775808 ≤ col) (h4 : col ≤ 9223372036854775807) :
    Calls Try.prog 12 #[.string s, .int .i64 line, .int .i64 col] w fun e w' => e = .returned (.tuple #[.int .i64 (offset s line col).1, .int .i64 (offset s line col).2]) ∧ Below w.heap.size w w' := by
  have hix := ix s
  have hR := fun W => rlines_ix s W hs
  have hmiss : line < 1 ∨ ((spans s.data.toList 0 0).length : Int) < line → offset s line col = (0, 2) := fun h => by
    rcases h with h | h
    · exact offL_none line col _ 0 (by omega)
    · exact offL_miss line col _ 0 (by omega)
  have hhit : ∀ k, k < (spans s.data.toList 0 0).length → offset s ((k : Int) + 1) col = (if 1 ≤ col ∧ col ≤ ((((spans s.data.toList 0 0).getD k (0, 0)).2 : Nat) : Int) - (((spans s.data.toList 0 0).getD k (0, 0)).1 : Nat) + 1 then (((((spans s.data.toList 0 0).getD k (0, 0)).1 : Nat) : Int) + col - 1, 0) else (0, 2)) := fun k hk => by
    have := offL_hit col (spans s.data.toList 0 0) 0 k ((spans s.data.toList 0 0).getD k (0, 0)) (by simp [List.getD, List.getElem?_eq_getElem hk])
    rw [← this]
    unfold offset
    congr 1
    omega
  revert hix hR hmiss hhit
  generalize hA : (fun k => ((spans s.data.toList 0 0).getD k (0, 0)).1) = A
  generalize hB : (fun k => ((spans s.data.toList 0 0).getD k (0, 0)).2) = B
  have hA' : ∀ k, ((spans s.data.toList 0 0).getD k (0, 0)).1 = A k := fun k => by rw [← hA]
  have hB' : ∀ k, ((spans s.data.toList 0 0).getD k (0, 0)).2 = B k := fun k => by rw [← hB]
  simp only [hA', hB']
  clear hA hB hA' hB'
  generalize (spans s.data.toList 0 0).length = n
  intro hix hR hmiss hhit
  have HR := Lib.hid hR; have Hmiss := Lib.hid hmiss; have Hhit := Lib.hid hhit
  clear hR hmiss hhit
  have hn := hix.small
  have hpos := hix.pos
  by_cases q1 : line < 1
  · rw [Hmiss.out (.inl q1)]
    have d1 : decide (line < 1) = true := decide_eq_true q1
    go_enter Try.func12, Try.ntmps12
    go_wp2_with fail
    refine (HR.out _).mono ?_
    rintro e w1 ⟨g, cap, rfl, hcap, hcell, hb1⟩
    clear hcell
    go_wp2_with fail
    go_ret2
    exact ⟨rfl, hb1⟩
  by_cases q2 : (n : Int) < line
  · rw [Hmiss.out (.inr q2)]
    have d1 : decide (line < 1) = false := decide_eq_false q1
    have d2 : decide ((n : Int) < line) = true := decide_eq_true q2
    clear q1
    go_enter Try.func12, Try.ntmps12
    go_wp2_with fail
    refine (HR.out _).mono ?_
    rintro e w1 ⟨g, cap, rfl, hcap, hcell, hb1⟩
    clear hcell
    go_wp2_with fail
    go_ret2
    exact ⟨rfl, hb1⟩
  obtain ⟨k, rfl⟩ : ∃ k : Nat, line = (k : Int) + 1 := ⟨(line - 1).toNat, by omega⟩
  have hkn : k < n := by omega
  clear q1 q2
  have d1 : decide ((k : Int) + 1 < 1) = false := decide_eq_false (by omega)
  have d2 : decide ((n : Int) < (k : Int) + 1) = false := decide_eq_false (by omega)
  rw [Hhit.out k hkn]
  obtain ⟨o1, o2⟩ := hix.ord k hkn
  by_cases q3 : col < 1
  · rw [if_neg (by omega)]
    have d3 : decide (col < 1) = true := decide_eq_true q3
    go_enter Try.func12, Try.ntmps12
    go_wp2_with fail
    refine (HR.out _).mono ?_
    rintro e w1 ⟨g, cap, rfl, hcap, hcell, hb1⟩
    clear hcell
    go_wp2_with fail
    go_ret2
    exact ⟨rfl, hb1⟩
  have d3 : decide (col < 1) = false := decide_eq_false q3
  have hez : (s.extract (A k) (B k)).size = B k - A k := by simp; omega
  have i1 : (k : Int) < (n : Int) := by omega
  have hcol : 1 ≤ col := by omega
  clear q3
  by_cases q4 : ((s.extract (A k) (B k)).size : Int) < col - 1
  · rw [if_neg (by omega)]
    have d4 : decide (((s.extract (A k) (B k)).size : Int) < col - 1) = true := decide_eq_true q4
    clear hez q4
    generalize hE : s.extract (A k) (B k) = E at *
    have HE := Lib.hid hE
    clear hE
    go_enter Try.func12, Try.ntmps12
    go_wp2_with fail
    refine (HR.out _).mono ?_
    rintro e w1 ⟨g, cap, rfl, hcap, hcell, hb1⟩
    have hc := hcell k hkn
    rw [HE.out] at hc
    clear hcell
    go_wp2_with fail
    go_ret2
    exact ⟨rfl, hb1⟩
  · rw [if_pos (by omega)]
    have hcol2 : col ≤ 17001 := by omega
    have d4 : decide (((s.extract (A k) (B k)).size : Int) < col - 1) = false := decide_eq_false q4
    clear hez q4
    generalize hE : s.extract (A k) (B k) = E at *
    have HE := Lib.hid hE
    clear hE
    go_enter Try.func12, Try.ntmps12
    go_wp2_with fail
    refine (HR.out _).mono ?_
    rintro e w1 ⟨g, cap, rfl, hcap, hcell, hb1⟩
    have hc := hcell k hkn
    rw [HE.out] at hc
    have Hcell := Lib.hid hcell
    clear hcell
    go_wp2_with fail
    go_loop [9, 10] (fun av iv => ∃ i : Nat, i ≤ k ∧ iv = .int .i64 i ∧ av = .int .i64 (A i)) (fun _ iv => k - (intOf iv).toNat)
    case atStart => exact ⟨0, by omega, rfl, by rw [hix.zero]; rfl⟩
    case round =>
      obtain ⟨i, hik, rfl, rfl⟩ := hrel
      obtain ⟨p1, p2⟩ := hix.ord i (by omega)
      clear hc d4
      by_cases hlt : i < k
      · have hci := Hcell.out i (by omega)
        have hsz : (s.extract (A i) (B i)).size = B i - A i := by simp; omega
        have hnx := (hix.next i (by omega)).1
        have Hnx := Lib.hid hnx
        clear hnx
        have hsz' : (s.extract (A i) (B i)).size ≤ 17000 := by omega
        have Hsz := Lib.hid hsz
        clear hsz
        have j1 : (i : Int) < (n : Int) := by omega
        generalize s.extract (A i) (B i) = F at *
        go_wp2_with fail
        go_round
        case rel => exact ⟨i + 1, by omega, by go_num, by rw [Hnx.out]; have := Hsz.out; congr 1; omega⟩
        case measure => simp [intOf]; omega
      · have hik' : i = k := by omega
        subst hik'
        go_wp2_with fail
        go_ret2
        exact ⟨rfl, hb1⟩
end Go.Proofs.Ytdiaghmkbplipaa
