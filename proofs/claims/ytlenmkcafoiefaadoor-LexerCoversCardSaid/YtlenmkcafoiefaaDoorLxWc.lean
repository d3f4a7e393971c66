/- LexerCovers' walk. -/
import Derived.Test.YtlenmkcafoiefaaDoorLxL3
import Derived.Test.YtlenmkcafoiefaaDoorLxQ
import Derived.Deep.RegionHeld3
namespace Go.Proofs.YtlenmkcafoiefaaDoor
open Go.RowKit
set_option linter.unusedVariables false

/-- Where the token before place i ends. -/
def finAt (l : List Tk) (i : Nat) : Nat := if i = 0 then 0 else (l.getD (i - 1) ⟨0, 0, 0, ⟨#[]⟩⟩).fin
theorem toks_at {s : ByteArray} : ∀ (i : Nat) {k : Nat} {l : List Tk}, Toks s k l → k ≤ s.size → ∀ (h : i < l.length), ∃ a, a ≤ s.size ∧ (i = 0 → a = k) ∧ (∀ j (hj : j < l.length), i = j + 1 → a = (l[j]'hj).fin) ∧ nextL s (a : Int) = (l[i]'h, 0) ∧ ((l[i]'h).kind = 5 ↔ i + 1 = l.length)
  | 0, k, l, ht, hk, h => by
    cases ht with
    | last hn h5 => exact ⟨k, hk, fun _ => rfl, fun j hj e => by omega, hn, by simpa using h5⟩
    | @cons _ t r hn h5 hr =>
      refine ⟨k, hk, fun _ => rfl, fun j hj e => by omega, hn, ?_⟩
      have : 0 < r.length := List.length_pos_iff.2 hr.ne
      simp only [List.getElem_cons_zero, List.length_cons]
      exact ⟨fun e => absurd e h5, fun e => by omega⟩
  | i + 1, k, l, ht, hk, h => by
    cases ht with
    | last hn h5 => simp at h
    | @cons _ t r hn h5 hr =>
      obtain ⟨_, _, f3, _⟩ := next_facts hk hn
      obtain ⟨a, a1, a2, a3, a4, a5⟩ := toks_at i hr f3 (by simpa using h)
      refine ⟨a, a1, fun e => by omega, fun j hj e => ?_, by simpa using a4, by simpa using a5⟩
      rcases j with _ | j
      · simp only [List.getElem_cons_zero]
        exact a2 (by omega)
      · simp only [List.getElem_cons_succ]
        exact a3 j (by simpa using hj) (by omega)
theorem allF_len (s : ByteArray) : ∀ (F k : Nat) (acc : List Tk), k ≤ s.size → acc.length ≤ k → (allF F s k acc).1.length ≤ s.size + 1
  | 0, k, acc, _, _ => by simp [allF]
  | F + 1, k, acc, hk, ha => by
    rw [allF]
    split
    · simp
    split
    · simp; omega
    · rename_i h1 h2
      have h0 : (nextL s k).2 = 0 := by simpa using h1
      obtain ⟨_, i1, i2, _, i4⟩ := next_ok hk h0
      have := i4 h2
      exact allF_len s F _ _ i1 (by simp; omega)
set_option maxHeartbeats 16000000 in
set_option maxRecDepth 100000 in
theorem covers_walk (s : ByteArray) (w : World) :
    Calls Tryd.prog 4 #[.string s] w fun e w' => e = .returned (.bool true) ∧ Below w.heap.size w w' := by
  have haw := Lib.hid (fun W => awake_c W)
  by_cases hl : 2000 < s.size
  · have t1 : decide ((2000 : Int) < (s.size : Int)) = true := decide_eq_true (by omega)
    have t1' : decide (2000 < s.size) = true := decide_eq_true hl
    go_enter Tryd.func4, Tryd.ntmps4
    go_wp2_with fail
    refine (haw.out _).mono ?_
    rintro e w1 ⟨rfl, m1⟩
    go_wp2_with fail
    go_ret
    exact ⟨rfl, m1⟩
  have t1 : decide ((2000 : Int) < (s.size : Int)) = false := decide_eq_false (by omega)
  have t1' : decide (2000 < s.size) = false := decide_eq_false hl
  have h1 := Lib.hid (fun W => All_c s W (by omega))
  by_cases h0 : (allL s).2.2 = 0
  · obtain ⟨ht, _⟩ := allL_ok h0
    have hfuel := toks_at (s := s)
    rw [h0] at h1
    generalize hL : (allL s).1 = l at *
    generalize (allL s).2.1 = n at *
    have hlen : l.length ≤ 2001 := by have := allF_len s (s.size + 1) 0 [] (by omega) (by simp); rw [← hL]; unfold allL; omega
    have hpos : 0 < l.length := List.length_pos_iff.2 ht.ne
    have HT := Lib.hid (fun i h => toks_at i ht (Nat.zero_le _) h)
    have HE : Hid (∀ (a : Nat), (∀ j (hj : j < l.length), l.length = j + 1 → a = (l[j]'hj).fin) → a = s.size) := Lib.hid (fun a ha => by
      obtain ⟨a', a1, a2, a3, a4, a5⟩ := toks_at (l.length - 1) ht (Nat.zero_le _) (by omega)
      rw [ha (l.length - 1) (by omega) (by omega)]
      exact (next_facts a1 a4).2.2.2.2.2.1 (a5.2 (by omega)))
    clear ht hfuel
    go_enter Tryd.func4, Tryd.ntmps4
    go_wp2_with fail
    refine (h1.out _).mono ?_
    rintro q w1 ⟨v1, rfl, o1, m1⟩
    obtain ⟨A, c, rfl, hA, _, _⟩ := ownT_at o1
    have HA := Lib.hid hA
    clear o1 hA
    go_wp2_with fail
    go_loopw [6, 7] (fun av iv wr => ∃ (i a : Nat), av = .int .i64 a ∧ iv = .int .i64 i ∧ i ≤ l.length ∧ a ≤ s.size ∧ Hid ((i = 0 → a = 0) ∧ (∀ j (hj : j < l.length), i = j + 1 → a = (l[j]'hj).fin)) ∧ Below w1.heap.size w1 wr) (fun _ iv _ => l.length - (intOf iv).toNat)
    case atStart => exact ⟨0, 0, by go_num, by go_num, by omega, by omega, Lib.hid ⟨fun _ => rfl, fun j hj e => by omega⟩, Below.refl _ _⟩
    case round =>
      obtain ⟨i, a, rfl, rfl, hi, ha, hx, hb⟩ := hrel
      by_cases hlt : i < l.length
      · have d1 : decide ((i : Int) < (l.length : Int)) = true := decide_eq_true (by omega)
        have d1' : decide (i < l.length) = true := decide_eq_true hlt
        have iI : (i : Int) < (l.length : Int) := by omega
        obtain ⟨b, off, rfl, hbl, hc⟩ : ∃ b off, A = some ⟨b, off, none⟩ ∧ b < w1.heap.size ∧ ∀ j v, (tkCells l)[j]? = some v → w1.cell? ⟨b, off + j, none⟩ = some v := by
          rcases HA.out with ⟨_, h⟩ | h
          · rw [h] at hlt; simp at hlt
          · exact h
        obtain ⟨g0, g1, g2, g3⟩ := tkCells_get l i hlt
        have x0 := (hb.cell (p := ⟨b, off + i * 4, none⟩) hbl).trans (hc _ _ g0)
        have x1 := (hb.cell (p := ⟨b, off + i * 4 + 1, none⟩) hbl).trans (hc _ _ g1)
        have x2 := (hb.cell (p := ⟨b, off + i * 4 + 2, none⟩) hbl).trans (hc _ _ g2)
        have x3 := (hb.cell (p := ⟨b, off + i * 4 + 3, none⟩) hbl).trans (hc _ _ g3)
        obtain ⟨a', a1, a2, a3, a4, a5⟩ := HT.out i hlt
        have haa : a' = a := by
          obtain ⟨y1, y2⟩ := hx.out
          rcases i with _ | j
          · rw [a2 rfl, y1 rfl]
          · rw [a3 j (by omega) rfl, y2 j (by omega) rfl]
        subst haa
        have hnx2 : Hid ((i + 1 = 0 → (l[i]'hlt).fin = 0) ∧ (∀ j (hj : j < l.length), i + 1 = j + 1 → (l[i]'hlt).fin = (l[j]'hj).fin)) := Lib.hid ⟨fun e => by omega, fun j hj e => by
          obtain rfl : i = j := by omega
          rfl⟩
        obtain ⟨f1, f2, f3, f4, f5, f6, f7, f8⟩ := next_facts a1 a4
        generalize l[i]'hlt = t at *
        obtain ⟨qk, qp, qe, qt⟩ := t
        simp only at x0 x1 x2 x3 a5 f1 f2 f3 f4 f5 f6 f7 f8 hnx2
        have hSk := Lib.hid (fun W => Skip_c s a' W (by omega) (by omega))
        rw [← f1] at hSk
        have c1 : ((qp : Int) != (qp : Int)) = false := by simp
        have c1' : (qp != qp) = false := by simp
        have c2 : decide ((qp : Int) < 0) = false := decide_eq_false (by omega)
        have c3 : decide ((qe : Int) < (qp : Int)) = false := decide_eq_false (by omega)
        have c3' : decide (qe < qp) = false := decide_eq_false (by omega)
        have c4 : decide ((s.size : Int) < (qe : Int)) = false := decide_eq_false (by omega)
        have c4' : decide (s.size < qe) = false := decide_eq_false (by omega)
        have b1 : (qp : Int) ≤ (qe : Int) := by omega
        have b2 : (qe : Int) ≤ (s.size : Int) := by omega
        have b3 : (0 : Int) ≤ (qp : Int) := by omega
        have hbw := hb.size
        have hb2 := (hb.alloc hbw (.cells #[.int .i64 qk, .int .i64 qp, .int .i64 qe, .string qt] 30))
        have hh2 : (wr.alloc (.cells #[.int .i64 qk, .int .i64 qp, .int .i64 qe, .string qt] 30)).heap[wr.heap.size]? = some (.cells #[.int .i64 qk, .int .i64 qp, .int .i64 qe, .string qt] 30 (0, 0)) := heap_alloc_new wr _
        have y0 : (wr.alloc (.cells #[.int .i64 qk, .int .i64 qp, .int .i64 qe, .string qt] 30)).cell? ⟨wr.heap.size, 0, none⟩ = some (.int .i64 qk) := by rw [cell_of_row _ _ 0 _ _ _ hh2]; rfl
        have y1 : (wr.alloc (.cells #[.int .i64 qk, .int .i64 qp, .int .i64 qe, .string qt] 30)).cell? ⟨wr.heap.size, 1, none⟩ = some (.int .i64 qp) := by rw [cell_of_row _ _ 1 _ _ _ hh2]; rfl
        have y2 : (wr.alloc (.cells #[.int .i64 qk, .int .i64 qp, .int .i64 qe, .string qt] 30)).cell? ⟨wr.heap.size, 2, none⟩ = some (.int .i64 qe) := by rw [cell_of_row _ _ 2 _ _ _ hh2]; rfl
        have y3 : (wr.alloc (.cells #[.int .i64 qk, .int .i64 qp, .int .i64 qe, .string qt] 30)).cell? ⟨wr.heap.size, 3, none⟩ = some (.string qt) := by rw [cell_of_row _ _ 3 _ _ _ hh2]; rfl
        have Hb2 := Lib.hid hb2
        clear hb2 hh2 hbw
        by_cases h5 : qk = 5
        · subst h5
          have hq := f5.1 rfl
          subst hq
          obtain rfl : qt = ⟨#[]⟩ := by rw [f4, extract_nil]
          have c5 : (([] : List UInt8) != (s.extract qp qp).toList) = false := by rw [← f4, Lib.toList_data]; rfl
          have hil := a5.1 rfl
          have c6 : ((i : Int) == (l.length : Int) - 1) = true := by rw [beq_iff_eq]; omega
          have b4 : IntKind.i64.wrap ((l.length : Int) - 1) = (l.length : Int) - 1 := IntWalk.i64_in _ (by omega)
          have Hil := Lib.hid hil
          clear hil
          clear hc g0 g1 g2 g3 a1 a2 a3 a4 f1 f2 f4 f5 f6 f7 f8 hx a5
          go_wp2_with fail
          go_region_held3 (fun w' => w'.cell? ⟨wr.heap.size, 0, none⟩ = some (.int .i64 5) ∧ w'.cell? ⟨wr.heap.size, 1, none⟩ = some (.int .i64 qp) ∧ w'.cell? ⟨wr.heap.size, 2, none⟩ = some (.int .i64 qp) ∧ w'.cell? ⟨wr.heap.size, 3, none⟩ = some (.string ⟨#[]⟩))
            (first | go_keep | assumption)
            ((go_at_call 11; refine (hSk.out _).mono ?_; rintro r w7 ⟨rfl, rfl⟩))
          go_wp2_with fail
          go_roundw
          case rel => exact ⟨i + 1, qp, by go_num, by go_num, by omega, f3, hnx2, below_drewN Hb2.out _⟩
          case measure => simp [intOf]; omega
        · have hlt2 : qp < qe := by
            rcases Nat.lt_or_ge qp qe with h | h
            · exact h
            · exact absurd (f5.2 (by omega)) h5
          have c5 : (qt.toList != (s.extract qp qe).toList) = false := by rw [f4]; simp
          have c5b : (qt.toList == (s.extract qp qe).toList) = true := by rw [f4]; simp
          have c5c : ((s.extract qp qe).toList == qt.toList) = true := by rw [f4]; simp
          have z1 : qt.size ≠ 0 := by rw [f4, text_empty f2 f3]; omega
          have z2 : qt.toList ≠ [] := by
            rw [Lib.toList_data]
            intro h
            apply z1
            rw [← lenS, h]
            rfl
          have z3 : qt.toList.isEmpty = false := by simpa using z2
          have z4 : (qt.toList == []) = false := by simpa using z2
          have k5 : ((qk : Int) == 5) = false := by rw [beq_eq_false_iff_ne]; omega
          have k5' : (qk == 5) = false := by rw [beq_eq_false_iff_ne]; exact h5
          have hne : i + 1 ≠ l.length := fun h => h5 (a5.2 h)
          have c6 : ((i : Int) == (l.length : Int) - 1) = false := by rw [beq_eq_false_iff_ne]; omega
          have b4 : IntKind.i64.wrap ((l.length : Int) - 1) = (l.length : Int) - 1 := IntWalk.i64_in _ (by omega)
          clear hc g0 g1 g2 g3 a1 a2 a3 a4 f1 f2 f4 f5 f6 f7 f8 hx a5 h5 hne z1 z2 hlt2
          go_wp2_with fail
          go_region_held3 (fun w' => w'.cell? ⟨wr.heap.size, 0, none⟩ = some (.int .i64 qk) ∧ w'.cell? ⟨wr.heap.size, 1, none⟩ = some (.int .i64 qp) ∧ w'.cell? ⟨wr.heap.size, 2, none⟩ = some (.int .i64 qe) ∧ w'.cell? ⟨wr.heap.size, 3, none⟩ = some (.string qt))
            (first | go_keep | assumption)
            ((go_at_call 11; refine (hSk.out _).mono ?_; rintro r w7 ⟨rfl, rfl⟩))
          go_wp2_with fail
          go_roundw
          case rel => exact ⟨i + 1, qe, by go_num, by go_num, by omega, f3, hnx2, below_drewN Hb2.out _⟩
          case measure => simp [intOf]; omega
      · have hil : i = l.length := by omega
        have hfa : a = s.size := by
          rw [hil] at hx
          exact HE.out a hx.out.2
        clear hx HE HT
        subst hil
        subst hfa
        have d1 : decide ((l.length : Int) < (l.length : Int)) = false := decide_eq_false (by omega)
        have d2 : decide ((0 : Int) < (l.length : Int)) = true := decide_eq_true (by omega)
        have d2' : decide (0 < l.length) = true := decide_eq_true (by omega)
        have M2 := m1.trans (hb.mono m1.size)
        go_wp2_with fail
        refine (haw.out _).mono ?_
        rintro e w3 ⟨rfl, m3⟩
        have M4 := M2.trans (m3.mono M2.size)
        go_wp2_with fail
        go_ret
        exact ⟨rfl, M4⟩
  · have h1' : (allL s).1 = [] := allF_bad _ _ _ h0
    rw [h1'] at h1
    generalize (allL s).2.1 = n at *
    generalize (allL s).2.2 = x at *
    obtain ⟨E, hE⟩ : ∃ E : Int, E = (x : Int) := ⟨_, rfl⟩
    have tE : (E != 0) = true := by rw [bne_iff_ne]; omega
    rw [← hE] at h1
    clear h1' hE h0 hl
    go_enter Tryd.func4, Tryd.ntmps4
    go_wp2_with fail
    refine (h1.out _).mono ?_
    rintro q w1 ⟨v1, rfl, o1, m1⟩
    obtain ⟨A, c, rfl, hA, _, _⟩ := ownT_at o1
    clear o1 hA
    go_wp2_with fail
    refine (haw.out _).mono ?_
    rintro e w3 ⟨rfl, m3⟩
    have M4 := m1.trans (m3.mono m1.size)
    go_wp2_with fail
    go_ret
    exact ⟨rfl, M4⟩
end Go.Proofs.YtlenmkcafoiefaaDoor
