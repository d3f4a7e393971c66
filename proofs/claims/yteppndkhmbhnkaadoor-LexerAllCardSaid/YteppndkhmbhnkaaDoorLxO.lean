/- lexer's reference: All, Same; LexerAll. -/
import Derived.Test.YteppndkhmbhnkaaDoorLxN
namespace Go.Proofs.YteppndkhmbhnkaaDoor
open Go.RowKit
set_option linter.unusedVariables false

set_option maxHeartbeats 16000000 in
set_option maxRecDepth 100000 in
theorem RAll_c (s : ByteArray) (w : World) (hs : s.size ≤ 140737488355328) :
    Calls Tryd.prog 47 #[.string s] w fun e w' => ∃ v, e = .returned (.tuple #[v, .int .i64 ((allL s).2.1 : Nat), .int .i64 ((allL s).2.2 : Nat)]) ∧ OwnT w' w.heap.size v (allL s).1 ∧ Below w.heap.size w w' := by
  obtain ⟨i0, hi, hz0, hz1, hz2⟩ := tk_info_parts tkInfo
  have HR : Hid (∃ F, s.size - 0 < F ∧ allL s = allF F s 0 []) := Lib.hid ⟨s.size + 1, by omega, rfl⟩
  generalize allL s = R at *
  have Hnx := Lib.hid (fun (k : Nat) (W : World) (h : k ≤ s.size) => RNext_c s k W hs (by omega))
  go_enter Tryd.func47, Tryd.ntmps47
  go_wp2_with fail
  go_loopw [5, 6, 7] (fun lv iv jv wr => ∃ (k : Nat) (acc : List Tk) (j : Nat), iv = .int .i64 k ∧ jv = .int .i64 j ∧ j ≤ k ∧ k ≤ s.size ∧ acc.length ≤ k ∧ Hid (OwnT wr w.heap.size lv acc) ∧ Below w.heap.size w wr ∧ Hid (∃ F, s.size - k < F ∧ R = allF F s k acc)) (fun _ iv _ _ => s.size - (intOf iv).toNat)
  case atStart => exact ⟨0, [], 0, by go_num, by go_num, by omega, by omega, by simp, Lib.hid ⟨rfl, .inl ⟨rfl, rfl⟩⟩, Below.refl _ _, HR⟩
  case round =>
    obtain ⟨k, acc, j, rfl, rfl, hj, hk, hac, ho, hb, hx⟩ := hrel
    have dj : decide ((j : Int) ≤ (s.size : Int) + 1) = true := decide_eq_true (by omega)
    have dj' : decide (j ≤ s.size + 1) = true := decide_eq_true (by omega)
    clear HR
    have hwr := hb.size
    have hnx := Hnx.out k wr hk
    have hok := next_ok (s := s) hk
    obtain ⟨F, hF, hx2⟩ := hx.out
    obtain ⟨F, rfl⟩ : ∃ G, F = G + 1 := ⟨F - 1, by omega⟩
    rw [allF] at hx2
    rcases hn : nextL s k with ⟨⟨qk, qp, qe, qt⟩, er⟩
    rw [hn] at hnx hx2 hok
    clear hn hx
    simp only at hx2 hok
    by_cases her : er = 0
    · subst her
      obtain ⟨hsz, he1, he2, he3, he4⟩ := hok rfl
      rw [if_neg (by simp)] at hx2
      have hnx2 : Calls Tryd.prog 45 #[.string s, .int .i64 k] wr fun e w' => e = .returned (.tuple #[.agg #[.int .i64 qk, .int .i64 qp, .int .i64 qe, .string qt], .int .i64 0]) ∧ Below wr.heap.size wr w' := hnx
      have Hnx2 := Lib.hid hnx2
      clear hnx hnx2 hok
      by_cases h5 : qk = 5
      · subst h5
        rw [if_pos rfl] at hx2
        have hx3 : Hid (R = (acc ++ [⟨5, qp, qe, qt⟩], 0, 0)) := Lib.hid hx2
        clear hx2
        go_wp2_with fail
        refine Hnx2.out.mono ?_
        rintro r w7 ⟨rfl, hb7⟩
        have hw7 := hb7.size
        have hb0 : Below w.heap.size w w7 := hb.trans (hb7.mono hwr)
        have hro7 : w7.ownsRow w.heap.size 54 4 u5 acc.length (tkCells acc) := row_kept2 ho.out (fun q hq => hb7.block q hq)
        have hrb : ∀ q, u5.ownBlock = some q → q < w7.heap.size := fun q hq => by have := (ho.out.lt q hq).2; omega
        have hr5 : ((w7.alloc (.cells #[.int .i64 5, .int .i64 qp, .int .i64 qe, .string qt] 54)).alloc (.cells #[.int .i64 5, .int .i64 qp, .int .i64 qe, .string qt] 54)).ownsRow w.heap.size 54 4 u5 acc.length (tkCells acc) := World.ownsRow.alloc (World.ownsRow.alloc hro7 _) _
        have hbw := hb0.size
        have hb5 := (hb0.alloc hbw (.cells #[.int .i64 5, .int .i64 qp, .int .i64 qe, .string qt] 54)).alloc (by simp; omega) (.cells #[.int .i64 5, .int .i64 qp, .int .i64 qe, .string qt] 54)
        have hnews := World.news_of_block (cs := #[.int .i64 5, .int .i64 qp, .int .i64 qe, .string qt]) (t := 54) (fr := (0, 0)) (heap_alloc_new (w7.alloc (.cells #[.int .i64 5, .int .i64 qp, .int .i64 qe, .string qt] 54)) (.cells #[.int .i64 5, .int .i64 qp, .int .i64 qe, .string qt] 54))
        rw [show (w7.alloc (.cells #[.int .i64 5, .int .i64 qp, .int .i64 qe, .string qt] 54)).heap.size = w7.heap.size + 1 from by simp] at hnews
        have hold : ((w7.alloc (.cells #[.int .i64 5, .int .i64 qp, .int .i64 qe, .string qt] 54)).alloc (.cells #[.int .i64 5, .int .i64 qp, .int .i64 qe, .string qt] 54)).heap[w7.heap.size]? = some (.cells #[.int .i64 5, .int .i64 qp, .int .i64 qe, .string qt] 54 (0, 0)) := by
          rw [Below.heap_alloc _ _ _ (by simp)]
          exact heap_alloc_new w7 _
        have Hb5 := Lib.hid hb5
        have Hold := Lib.hid hold
        have Hrb := Lib.hid hrb
        have Hm : Hid ((acc.length + 1) * 40 ≤ 140737488355328) := Lib.hid (by omega)
        clear hb5 hold hrb hb0 hbw
        go_wp2_with (at_builtin; refine wpList_append_own _ rfl _ _ 59 rfl w.heap.size 54 i0 _ 4 40 Tryd.underlying59 hi hz0 hz1 hz2 rfl (by decide) _ _ _ rfl hr5 ⟨w7.heap.size + 1, 0, none⟩ 1 1 [.int .i64 5, .int .i64 qp, .int .i64 qe, .string qt] rfl rfl hnews (by intro u hu; simp at hu; rcases hu with rfl | rfl | rfl | rfl <;> rfl) (by unfold maxLen; have := Hm.out; omega) Hm.out (by have := Hb5.out.size; exact this) ?_)
        intro v' w8 hown' hgrow _
        have hb8 : Below w.heap.size w w8 := Hb5.out.grown hgrow Hb5.out.size (fun q hq => (hr5.lt q hq).1)
        have hh8 : w8.heap[w7.heap.size]? = some (.cells #[.int .i64 5, .int .i64 qp, .int .i64 qe, .string qt] 54 (0, 0)) := by
          rw [hgrow.block _ (by simp; omega) (fun e => by have := Hrb.out _ e.symm; omega)]
          exact Hold.out
        have c0 : w8.cell? ⟨w7.heap.size, 0, none⟩ = some (.int .i64 5) := by rw [cell_of_row w8 _ 0 _ _ _ hh8]; rfl
        have c2 : w8.cell? ⟨w7.heap.size, 2, none⟩ = some (.int .i64 qe) := by rw [cell_of_row w8 _ 2 _ _ _ hh8]; rfl
        have Ho8 : Hid (OwnT w8 w.heap.size v' (acc ++ [⟨5, qp, qe, qt⟩])) := Lib.hid (by
          unfold OwnT
          rw [List.length_append, tkCells_append]
          exact hown')
        clear hown' hgrow hr5 Hb5 hnews Hold Hrb hh8 hro7
        go_wp2_with fail
        go_ret3
        exact ⟨_, by rw [hx3.out]; rfl, by rw [hx3.out]; exact Ho8.out, hb8⟩
      · have t5 : ((qk : Int) == 5) = false := by rw [beq_eq_false_iff_ne]; omega
        have t5' : (qk == 5) = false := by rw [beq_eq_false_iff_ne]; exact h5
        rw [if_neg h5] at hx2
        have hlt := he4 h5
        have hx3 : Hid (∃ F, s.size - qe < F ∧ R = allF F s qe (acc ++ [⟨qk, qp, qe, qt⟩])) := Lib.hid ⟨F, by omega, hx2⟩
        clear hx2 h5
        go_wp2_with fail
        refine Hnx2.out.mono ?_
        rintro r w7 ⟨rfl, hb7⟩
        have hw7 := hb7.size
        have hb0 : Below w.heap.size w w7 := hb.trans (hb7.mono hwr)
        have hro7 : w7.ownsRow w.heap.size 54 4 u5 acc.length (tkCells acc) := row_kept2 ho.out (fun q hq => hb7.block q hq)
        have hrb : ∀ q, u5.ownBlock = some q → q < w7.heap.size := fun q hq => by have := (ho.out.lt q hq).2; omega
        have hr5 : ((w7.alloc (.cells #[.int .i64 qk, .int .i64 qp, .int .i64 qe, .string qt] 54)).alloc (.cells #[.int .i64 qk, .int .i64 qp, .int .i64 qe, .string qt] 54)).ownsRow w.heap.size 54 4 u5 acc.length (tkCells acc) := World.ownsRow.alloc (World.ownsRow.alloc hro7 _) _
        have hbw := hb0.size
        have hb5 := (hb0.alloc hbw (.cells #[.int .i64 qk, .int .i64 qp, .int .i64 qe, .string qt] 54)).alloc (by simp; omega) (.cells #[.int .i64 qk, .int .i64 qp, .int .i64 qe, .string qt] 54)
        have hnews := World.news_of_block (cs := #[.int .i64 qk, .int .i64 qp, .int .i64 qe, .string qt]) (t := 54) (fr := (0, 0)) (heap_alloc_new (w7.alloc (.cells #[.int .i64 qk, .int .i64 qp, .int .i64 qe, .string qt] 54)) (.cells #[.int .i64 qk, .int .i64 qp, .int .i64 qe, .string qt] 54))
        rw [show (w7.alloc (.cells #[.int .i64 qk, .int .i64 qp, .int .i64 qe, .string qt] 54)).heap.size = w7.heap.size + 1 from by simp] at hnews
        have hold : ((w7.alloc (.cells #[.int .i64 qk, .int .i64 qp, .int .i64 qe, .string qt] 54)).alloc (.cells #[.int .i64 qk, .int .i64 qp, .int .i64 qe, .string qt] 54)).heap[w7.heap.size]? = some (.cells #[.int .i64 qk, .int .i64 qp, .int .i64 qe, .string qt] 54 (0, 0)) := by
          rw [Below.heap_alloc _ _ _ (by simp)]
          exact heap_alloc_new w7 _
        have Hb5 := Lib.hid hb5
        have Hold := Lib.hid hold
        have Hrb := Lib.hid hrb
        have Hm : Hid ((acc.length + 1) * 40 ≤ 140737488355328) := Lib.hid (by omega)
        clear hb5 hold hrb hb0 hbw
        go_wp2_with (at_builtin; refine wpList_append_own _ rfl _ _ 59 rfl w.heap.size 54 i0 _ 4 40 Tryd.underlying59 hi hz0 hz1 hz2 rfl (by decide) _ _ _ rfl hr5 ⟨w7.heap.size + 1, 0, none⟩ 1 1 [.int .i64 qk, .int .i64 qp, .int .i64 qe, .string qt] rfl rfl hnews (by intro u hu; simp at hu; rcases hu with rfl | rfl | rfl | rfl <;> rfl) (by unfold maxLen; have := Hm.out; omega) Hm.out (by have := Hb5.out.size; exact this) ?_)
        intro v' w8 hown' hgrow _
        have hb8 : Below w.heap.size w w8 := Hb5.out.grown hgrow Hb5.out.size (fun q hq => (hr5.lt q hq).1)
        have hh8 : w8.heap[w7.heap.size]? = some (.cells #[.int .i64 qk, .int .i64 qp, .int .i64 qe, .string qt] 54 (0, 0)) := by
          rw [hgrow.block _ (by simp; omega) (fun e => by have := Hrb.out _ e.symm; omega)]
          exact Hold.out
        have c0 : w8.cell? ⟨w7.heap.size, 0, none⟩ = some (.int .i64 qk) := by rw [cell_of_row w8 _ 0 _ _ _ hh8]; rfl
        have c2 : w8.cell? ⟨w7.heap.size, 2, none⟩ = some (.int .i64 qe) := by rw [cell_of_row w8 _ 2 _ _ _ hh8]; rfl
        have Ho8 : Hid (OwnT w8 w.heap.size v' (acc ++ [⟨qk, qp, qe, qt⟩])) := Lib.hid (by
          unfold OwnT
          rw [List.length_append, tkCells_append]
          exact hown')
        clear hown' hgrow hr5 Hb5 hnews Hold Hrb hh8 hro7
        go_wp2_with fail
        go_roundw
        case rel => exact ⟨qe, _, j + 1, rfl, by go_num, by omega, he1, by simp; omega, Ho8, hb8, hx3⟩
        case measure => simp [intOf]; omega
    · have hx3 : Hid (R = ([], qp, er)) := Lib.hid (by rw [if_pos her] at hx2; exact hx2)
      obtain ⟨E, hE⟩ : ∃ E : Int, E = (er : Int) := ⟨_, rfl⟩
      have tE : (E != 0) = true := by rw [bne_iff_ne]; omega
      have hnx2 : Calls Tryd.prog 45 #[.string s, .int .i64 k] wr fun e w' => e = .returned (.tuple #[.agg #[.int .i64 qk, .int .i64 qp, .int .i64 qe, .string qt], .int .i64 E]) ∧ Below wr.heap.size wr w' := by rw [hE]; exact hnx
      have Hnx2 := Lib.hid hnx2
      have HE := Lib.hid hE
      clear hnx hnx2 hok hx2 hE her
      go_wp2_with fail
      refine Hnx2.out.mono ?_
      rintro r w7 ⟨rfl, hb7⟩
      go_wp2_with fail
      go_quiet (fail)
      have hb9 : Below w.heap.size w w7 := hb.trans (hb7.mono hwr)
      have hb8 := hb9.alloc hb9.size (.cells #[.int .i64 qk, .int .i64 qp, .int .i64 qe, .string qt] 54)
      go_wp2_with fail
      go_ret3
      exact ⟨_, by rw [hx3.out, HE.out]; rfl, by rw [hx3.out]; exact ⟨rfl, .inl ⟨rfl, rfl⟩⟩, below_drewN hb8 _⟩
set_option maxHeartbeats 16000000 in
set_option maxRecDepth 100000 in
theorem RSame_c (A A2 : Option Addr) (l : List Tk) (c c2 : Nat) (w : World) (hA : TkAt w w.heap.size A l) (hA2 : TkAt w w.heap.size A2 l) (hl : l.length ≤ 1000000) :
    Calls Tryd.prog 48 #[.slice A l.length c, .slice A2 l.length c2] w fun e w' => e = .returned (.bool true) ∧ Below w.heap.size w w' := by
  have t0 : ((l.length : Int) != (l.length : Int)) = false := by rw [bne_eq_false_iff_eq]
  have HA := Lib.hid hA
  have HA2 := Lib.hid hA2
  clear hA hA2
  go_enter Tryd.func48, Tryd.ntmps48
  go_wp2_with fail
  go_loopw [5] (fun kv wr => ∃ k : Nat, kv = .int .i64 k ∧ k ≤ l.length ∧ Below w.heap.size w wr) (fun kv _ => l.length - (intOf kv).toNat)
  case atStart => exact ⟨0, by go_num, by omega, Below.refl _ _⟩
  case round =>
    obtain ⟨k, rfl, hk, hb⟩ := hrel
    by_cases hlt : k < l.length
    · have d1 : decide ((k : Int) < (l.length : Int)) = true := decide_eq_true (by omega)
      have d1' : decide (k < l.length) = true := decide_eq_true hlt
      have hkI : (k : Int) < (l.length : Int) := by omega
      obtain ⟨b, off, rfl, hbl, hc⟩ : ∃ b off, A = some ⟨b, off, none⟩ ∧ b < w.heap.size ∧ ∀ j v, (tkCells l)[j]? = some v → w.cell? ⟨b, off + j, none⟩ = some v := by
        rcases HA.out with ⟨_, h⟩ | h
        · rw [h] at hlt; simp at hlt
        · exact h
      obtain ⟨b2, off2, rfl, hbl2, hc2⟩ : ∃ b off, A2 = some ⟨b, off, none⟩ ∧ b < w.heap.size ∧ ∀ j v, (tkCells l)[j]? = some v → w.cell? ⟨b, off + j, none⟩ = some v := by
        rcases HA2.out with ⟨_, h⟩ | h
        · rw [h] at hlt; simp at hlt
        · exact h
      obtain ⟨g0, g1, g2, g3⟩ := tkCells_get l k hlt
      have x0 := (hb.cell (p := ⟨b, off + k * 4, none⟩) hbl).trans (hc _ _ g0)
      have x1 := (hb.cell (p := ⟨b, off + k * 4 + 1, none⟩) hbl).trans (hc _ _ g1)
      have x2 := (hb.cell (p := ⟨b, off + k * 4 + 2, none⟩) hbl).trans (hc _ _ g2)
      have x3 := (hb.cell (p := ⟨b, off + k * 4 + 3, none⟩) hbl).trans (hc _ _ g3)
      have y0 := (hb.cell (p := ⟨b2, off2 + k * 4, none⟩) hbl2).trans (hc2 _ _ g0)
      have y1 := (hb.cell (p := ⟨b2, off2 + k * 4 + 1, none⟩) hbl2).trans (hc2 _ _ g1)
      have y2 := (hb.cell (p := ⟨b2, off2 + k * 4 + 2, none⟩) hbl2).trans (hc2 _ _ g2)
      have y3 := (hb.cell (p := ⟨b2, off2 + k * 4 + 3, none⟩) hbl2).trans (hc2 _ _ g3)
      generalize l[k]'hlt = q at *
      obtain ⟨qk, qp, qe, qt⟩ := q
      simp only at x0 x1 x2 x3 y0 y1 y2 y3
      have e1 : ((qk : Int) == (qk : Int)) = true := by rw [beq_iff_eq]
      have e2 : ((qp : Int) == (qp : Int)) = true := by rw [beq_iff_eq]
      have e3 : ((qe : Int) == (qe : Int)) = true := by rw [beq_iff_eq]
      have e4 : (qt.toList == qt.toList) = true := by rw [beq_iff_eq]
      clear hc hc2 g0 g1 g2 g3
      go_wp2_with fail
      go_region
      go_wp2_with fail
      go_roundw
      case rel => exact ⟨k + 1, by go_num, by omega, below_drewN hb _⟩
      case measure => simp [intOf]; omega
    · have hks : k = l.length := by omega
      subst hks
      have d1 : decide ((l.length : Int) < (l.length : Int)) = false := decide_eq_false (by omega)
      go_wp2_with fail
      go_ret
      exact ⟨rfl, hb⟩
theorem allF_len (s : ByteArray) : ∀ (F k : Nat) (acc : List Tk), k ≤ s.size → acc.length ≤ k → (allF F s k acc).1.length ≤ s.size + 1
  | 0, k, acc, _, _ => by simp [allF]
  | F + 1, k, acc, hk, ha => by
    rw [allF]
    split
    · simp
    split
    · simp; omega
    · rename_i h1 h2
      have h0 : (nextL s k).2 = 0 := by simpa using h1
      obtain ⟨_, i1, i2, _, i4⟩ := next_ok hk h0
      have := i4 h2
      exact allF_len s F _ _ i1 (by simp; omega)
set_option maxHeartbeats 8000000 in
set_option maxRecDepth 100000 in
theorem all_walk (s : ByteArray) (w : World) :
    Calls Tryd.prog 14 #[.string s] w fun e w' => e = .returned (.bool true) ∧ Below w.heap.size w w' := by
  have haw := Lib.hid (fun W => awake_c W)
  by_cases hl : 2000 < s.size
  · have t1 : decide ((2000 : Int) < (s.size : Int)) = true := decide_eq_true (by omega)
    have t1' : decide (2000 < s.size) = true := decide_eq_true hl
    go_enter Tryd.func14, Tryd.ntmps14
    go_wp2_with fail
    refine (haw.out _).mono ?_
    rintro e w1 ⟨rfl, m1⟩
    go_wp2_with fail
    go_ret
    exact ⟨rfl, m1⟩
  have t1 : decide ((2000 : Int) < (s.size : Int)) = false := decide_eq_false (by omega)
  have t1' : decide (2000 < s.size) = false := decide_eq_false hl
  have h1 := Lib.hid (fun W => All_c s W (by omega))
  have h2 := Lib.hid (fun W => RAll_c s W (by omega))
  have hlen : (allL s).1.length ≤ 1000000 := by have := allF_len s (s.size + 1) 0 [] (by omega) (by simp); unfold allL; omega
  generalize allL s = r at *
  obtain ⟨l, n, x⟩ := r
  simp only at h1 h2 hlen
  have e1 : ((n : Int) == (n : Int)) = true := by rw [beq_iff_eq]
  have e5 : ((x : Int) == (x : Int)) = true := by rw [beq_iff_eq]
  clear hl
  go_enter Tryd.func14, Tryd.ntmps14
  go_wp2_with fail
  refine (h1.out _).mono ?_
  rintro q w1 ⟨v1, rfl, o1, m1⟩
  obtain ⟨A, c, rfl, hA, _, _⟩ := ownT_at o1
  clear o1
  go_wp2_with fail
  refine (h2.out _).mono ?_
  rintro q w2 ⟨v2, rfl, o2, n2⟩
  obtain ⟨A2, c2, rfl, hA2, _, _⟩ := ownT_at o2
  have hB := tkAt_below hA n2
  have hB2 : TkAt w2 w2.heap.size A l := by
    rcases hB with h | ⟨b, off, rfl, hl, hc⟩
    · exact .inl h
    · exact .inr ⟨b, off, rfl, by have := n2.size; omega, hc⟩
  have m2 := m1.trans (n2.mono m1.size)
  have hs := Lib.hid (RSame_c A A2 l c c2 w2 hB2 hA2 hlen)
  clear o2 hA hA2 hB hB2 m1 n2
  go_wp2_with fail
  refine hs.out.mono ?_
  rintro q w3 ⟨rfl, n3⟩
  have m3 := m2.trans (n3.mono m2.size)
  clear hs n3 m2
  go_wp2_with fail
  refine (haw.out _).mono ?_
  rintro q w4 ⟨rfl, n4⟩
  have m4 := m3.trans (n4.mono m3.size)
  clear n4
  go_wp2_with fail
  go_ret
  exact ⟨rfl, m4⟩
end Go.Proofs.YteppndkhmbhnkaaDoor
