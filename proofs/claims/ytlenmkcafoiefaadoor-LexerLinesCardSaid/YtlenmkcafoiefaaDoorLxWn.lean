/- LexerLines' walk. -/
import Derived.Test.YtlenmkcafoiefaaDoorLxWa
namespace Go.Proofs.YtlenmkcafoiefaaDoor
open Go.RowKit
set_option linter.unusedVariables false

theorem toks_in {s : ByteArray} {k : Nat} {l : List Tk} (h : Toks s k l) : k ≤ s.size → ∀ x ∈ l, x.pos ≤ s.size ∧ x.fin ≤ s.size := by
  induction h with
  | last hn h5 =>
    intro hk x hx
    obtain ⟨f1, f2, f3, _⟩ := next_facts hk hn
    simp at hx
    subst hx
    exact ⟨by omega, f3⟩
  | cons hn h5 hr ih =>
    intro hk x hx
    obtain ⟨f1, f2, f3, _⟩ := next_facts hk hn
    rcases List.mem_cons.1 hx with rfl | hx
    · exact ⟨by omega, f3⟩
    · exact ih f3 x hx
set_option maxHeartbeats 16000000 in
set_option maxRecDepth 100000 in
theorem lines_walk (s t : ByteArray) (w : World) :
    Calls Tryd.prog 5 #[.string s, .string t] w fun e w' => e = .returned (.bool true) ∧ Below w.heap.size w w' := by
  have haw := Lib.hid (fun W => awake_c W)
  by_cases hl : 1000 < s.size
  · have t1 : decide ((1000 : Int) < (s.size : Int)) = true := decide_eq_true (by omega)
    have t1' : decide (1000 < s.size) = true := decide_eq_true hl
    go_enter Tryd.func5, Tryd.ntmps5
    go_wp2_with fail
    refine (haw.out _).mono ?_
    rintro e w1 ⟨rfl, m1⟩
    go_wp2_with fail
    go_ret
    exact ⟨rfl, m1⟩
  have t1 : decide ((1000 : Int) < (s.size : Int)) = false := decide_eq_false (by omega)
  have t1' : decide (1000 < s.size) = false := decide_eq_false hl
  by_cases hl2 : 1000 < t.size
  · have t2 : decide ((1000 : Int) < (t.size : Int)) = true := decide_eq_true (by omega)
    have t2' : decide (1000 < t.size) = true := decide_eq_true hl2
    go_enter Tryd.func5, Tryd.ntmps5
    go_wp2_with fail
    refine (haw.out _).mono ?_
    rintro e w1 ⟨rfl, m1⟩
    go_wp2_with fail
    go_ret
    exact ⟨rfl, m1⟩
  have t2 : decide ((1000 : Int) < (t.size : Int)) = false := decide_eq_false (by omega)
  have t2' : decide (1000 < t.size) = false := decide_eq_false hl2
  have h1 := Lib.hid (fun W => All_c s W (by omega))
  have h2 := Lib.hid (fun W => All_c t W (by omega))
  by_cases e0 : (allL s).2.2 = 0
  · by_cases f0 : (allL t).2.2 = 0
    · have hS : (s ++ (⟨#[10]⟩ : ByteArray) ++ t).data.toList = s.data.toList ++ 10 :: t.data.toList := by simp
      have hsz : (s ++ (⟨#[10]⟩ : ByteArray) ++ t).size ≤ 16384 := by
        rw [← lenS, hS]
        simp only [List.length_append, List.length_cons, lenS]
        omega
      have hall := all_lines hS hsz e0 f0
      have h3 := Lib.hid (fun W => All_c (s ++ (⟨#[10]⟩ : ByteArray) ++ t) W (by omega))
      rw [hall] at h3
      obtain ⟨hta, _⟩ := allL_ok e0
      obtain ⟨htb, _⟩ := allL_ok f0
      have hla := allF_len s (s.size + 1) 0 [] (by omega) (by simp)
      rw [show allF (s.size + 1) s 0 [] = allL s from rfl] at hla
      have hlb := allF_len t (t.size + 1) 0 [] (by omega) (by simp)
      rw [show allF (t.size + 1) t 0 [] = allL t from rfl] at hlb
      have hfb : ∀ x ∈ (allL t).1, x.pos ≤ t.size ∧ x.fin ≤ t.size := toks_in htb (Nat.zero_le _)
      have hne := hta.ne
      rw [e0] at h1
      rw [f0] at h2
      generalize (allL s).1 = la at *
      generalize (allL t).1 = lb at *
      obtain ⟨R, hR⟩ : ∃ R, R = la.dropLast ++ ⟨3, s.size, s.size + 1, ⟨#[10]⟩⟩ :: lb.map (movT (s.size + 1)) := ⟨_, rfl⟩
      rw [← hR] at h3
      simp only at h3
      obtain ⟨ld, hld⟩ : ∃ ld, ld = la.dropLast := ⟨_, rfl⟩
      have hldl : la.length - 1 = ld.length := by rw [hld, List.length_dropLast]
      rw [← hld] at hR
      have HR := Lib.hid hR
      generalize (allL s).2.1 = na at *
      generalize (allL t).2.1 = nb at *
      have hpos : 0 < la.length := List.length_pos_iff.2 hne
      have p1 : ((la.length : Int) == 0) = false := by rw [beq_eq_false_iff_ne]; omega
      have p1' : (la.length == 0) = false := by rw [beq_eq_false_iff_ne]; omega
      have hs1 : s.size ≤ 1000 := by omega
      have ht1 : t.size ≤ 1000 := by omega
      have Hldl := Lib.hid hldl
      have hRl : R.length ≤ 1000000 := by rw [hR]; simp; omega
      clear hall hS hsz hta htb e0 f0 hne hl hl2 hR hldl
      go_enter Tryd.func5, Tryd.ntmps5
      go_wp2_with fail
      refine (h1.out _).mono ?_
      rintro q w1 ⟨v1, rfl, o1, m1⟩
      obtain ⟨A, c, rfl, hA, hlc, hcm⟩ := ownT_at o1
      have HA := Lib.hid hA
      clear o1 hA
      go_wp2_with fail
      refine (h2.out _).mono ?_
      rintro q w2 ⟨v2, rfl, o2, m2⟩
      obtain ⟨A2, c2, rfl, hA2, hlc2, hcm2⟩ := ownT_at o2
      have HA2 := Lib.hid hA2
      clear o2 hA2
      go_wp2_with fail
      refine (h3.out _).mono ?_
      rintro q w3 ⟨v3, rfl, o3, m3⟩
      obtain ⟨A3, c3, rfl, hA3, hlc3, hcm3⟩ := ownT_at o3
      have HA3 := Lib.hid hA3
      clear o3 hA3
      obtain ⟨b, off, rfl, hbl, hc⟩ : ∃ b off, A = some ⟨b, off, none⟩ ∧ b < w1.heap.size ∧ ∀ j v, (tkCells la)[j]? = some v → w1.cell? ⟨b, off + j, none⟩ = some v := by
        rcases HA.out with ⟨_, h⟩ | h
        · rw [h] at hpos; simp at hpos
        · exact h
      have b4 : IntKind.i64.wrap ((la.length : Int) - 1) = (la.length : Int) - 1 := IntWalk.i64_in _ (by omega)
      have b5 : (0 : Int) ≤ (la.length : Int) - 1 := by omega
      have b6 : (la.length : Int) - 1 ≤ (c : Int) := by omega
      have b7 : ((la.length : Int) - 1).toNat = la.length - 1 := by omega
      have M2 : Below w.heap.size w w2 := m1.trans (m2.mono m1.size)
      have M3 : Below w.heap.size w w3 := M2.trans (m3.mono M2.size)
      have M13 : Below w1.heap.size w1 w3 := m2.trans (m3.mono m2.size)
      have hc3 : ∀ j v, (tkCells ld)[j]? = some v → w3.cell? ⟨b, off + j, none⟩ = some v := by
        intro j v hj
        have h := tkAt_last (w := w1) (B := w1.heap.size) (A := some ⟨b, off, none⟩) (l := la) (.inr ⟨b, off, rfl, hbl, hc⟩)
        rw [← hld] at h
        rcases h with ⟨h, _⟩ | ⟨b', off', e, _, h⟩
        · cases h
        · cases e
          exact (M13.cell (p := ⟨b, off + j, none⟩) hbl).trans (h j v hj)
      clear hc hld
      have HC3 := Lib.hid hc3
      clear hc3
      go_wp2_with (at_builtin; refine wpList_appT rfl _ _ rfl w3.heap.size _ [] rfl ⟨rfl, .inl ⟨rfl, rfl⟩⟩ b off ld _ c Hldl.out rfl HC3.out (by have := Hldl.out; simp; omega) (Nat.le_refl _) ?_)
      intro v4 w4 own4 bel4 _
      have own4a : OwnT (w4.alloc (.cells #[.int .i64 3, .int .i64 (s.size : Int), .int .i64 ((s.size : Int) + 1), .string ⟨#[10]⟩] 30)) w3.heap.size v4 ([] ++ ld) := World.ownsRow.alloc own4 _
      have hb4 := bel4.size
      have bel4a := bel4.alloc hb4 (.cells #[.int .i64 3, .int .i64 (s.size : Int), .int .i64 ((s.size : Int) + 1), .string ⟨#[10]⟩] 30)
      have hnew := newT w4 3 s.size (s.size + 1) ⟨#[10]⟩ (s.size : Int) ((s.size : Int) + 1) rfl (by omega)
      have Own4a := Lib.hid own4a
      have Bel4a := Lib.hid bel4a
      have Hnew := Lib.hid hnew
      clear own4 own4a bel4 bel4a hnew
      go_wp2_with (at_builtin; refine wpList_appT rfl _ _ rfl w3.heap.size _ _ rfl Own4a.out w4.heap.size 0 [⟨3, s.size, s.size + 1, ⟨#[10]⟩⟩] 1 1 rfl rfl Hnew.out (by have := Hldl.out; simp; omega) (by have := Bel4a.out.size; exact this) ?_)
      intro v5 w5 own5 bel5 _
      have Own5 : Hid (OwnT w5 w3.heap.size v5 (ld ++ ⟨3, s.size, s.size + 1, ⟨#[10]⟩⟩ :: (lb.take 0).map (movT (s.size + 1)))) := Lib.hid (by
        have e : ld ++ ⟨3, s.size, s.size + 1, ⟨#[10]⟩⟩ :: (lb.take 0).map (movT (s.size + 1)) = ([] ++ ld) ++ [⟨3, s.size, s.size + 1, ⟨#[10]⟩⟩] := by simp
        rw [e]; exact own5)
      have Bel5 : Hid (Below w3.heap.size w3 w5) := Lib.hid (Bel4a.out.trans bel5)
      clear own5 bel5 Own4a Bel4a Hnew
      go_wp2_with fail
      go_loopw [14, 15] (fun vv iv wr => ∃ k : Nat, iv = .int .i64 k ∧ k ≤ lb.length ∧ Hid (OwnT wr w3.heap.size vv (ld ++ ⟨3, s.size, s.size + 1, ⟨#[10]⟩⟩ :: (lb.take k).map (movT (s.size + 1)))) ∧ Hid (Below w3.heap.size w3 wr)) (fun _ iv _ => lb.length - (intOf iv).toNat)
      case atStart => exact ⟨0, by go_num, by omega, Own5, Bel5⟩
      case round =>
        obtain ⟨k, rfl, hk, ho, hb⟩ := hrel
        by_cases hlt : k < lb.length
        · have d1 : decide ((k : Int) < (lb.length : Int)) = true := decide_eq_true (by omega)
          have d1' : decide (k < lb.length) = true := decide_eq_true hlt
          have kI : (k : Int) < (lb.length : Int) := by omega
          obtain ⟨b2, off2, rfl, hbl2, hc2⟩ : ∃ b off, A2 = some ⟨b, off, none⟩ ∧ b < w2.heap.size ∧ ∀ j v, (tkCells lb)[j]? = some v → w2.cell? ⟨b, off + j, none⟩ = some v := by
            rcases HA2.out with ⟨_, h⟩ | h
            · rw [h] at hlt; simp at hlt
            · exact h
          have hb23 : Below w2.heap.size w2 wr := m3.trans (hb.out.mono m3.size)
          obtain ⟨g0, g1, g2, g3⟩ := tkCells_get lb k hlt
          have x0 := (hb23.cell (p := ⟨b2, off2 + k * 4, none⟩) hbl2).trans (hc2 _ _ g0)
          have x1 := (hb23.cell (p := ⟨b2, off2 + k * 4 + 1, none⟩) hbl2).trans (hc2 _ _ g1)
          have x2 := (hb23.cell (p := ⟨b2, off2 + k * 4 + 2, none⟩) hbl2).trans (hc2 _ _ g2)
          have x3 := (hb23.cell (p := ⟨b2, off2 + k * 4 + 3, none⟩) hbl2).trans (hc2 _ _ g3)
          have htk : (lb.take (k + 1)).map (movT (s.size + 1)) = (lb.take k).map (movT (s.size + 1)) ++ [movT (s.size + 1) (lb[k]'hlt)] := by
            rw [List.take_add_one, List.getElem?_eq_getElem hlt, List.map_append]; rfl
          have hfk := hfb (lb[k]'hlt) (List.getElem_mem hlt)
          generalize lb[k]'hlt = q at *
          obtain ⟨qk, qp, qe, qt⟩ := q
          simp only at x0 x1 x2 x3 hfk
          have Htk := Lib.hid htk
          clear hc2 g0 g1 g2 g3 htk hb23
          have hbw := hb.out.size
          have bel6 := (hb.out.alloc hbw (.cells #[.int .i64 qk, .int .i64 ((qp : Int) + s.size + 1), .int .i64 ((qe : Int) + s.size + 1), .string qt] 30)).alloc (by simp; omega) (.cells #[.int .i64 qk, .int .i64 ((qp : Int) + s.size + 1), .int .i64 ((qe : Int) + s.size + 1), .string qt] 30)
          have own6 : OwnT ((wr.alloc (.cells #[.int .i64 qk, .int .i64 ((qp : Int) + s.size + 1), .int .i64 ((qe : Int) + s.size + 1), .string qt] 30)).alloc (.cells #[.int .i64 qk, .int .i64 ((qp : Int) + s.size + 1), .int .i64 ((qe : Int) + s.size + 1), .string qt] 30)) w3.heap.size _ _ := World.ownsRow.alloc (World.ownsRow.alloc ho.out _) _
          have hnew := newT (wr.alloc (.cells #[.int .i64 qk, .int .i64 ((qp : Int) + s.size + 1), .int .i64 ((qe : Int) + s.size + 1), .string qt] 30)) qk (s.size + 1 + qp) (s.size + 1 + qe) qt ((qp : Int) + s.size + 1) ((qe : Int) + s.size + 1) (by omega) (by omega)
          rw [show (wr.alloc (.cells #[.int .i64 qk, .int .i64 ((qp : Int) + s.size + 1), .int .i64 ((qe : Int) + s.size + 1), .string qt] 30)).heap.size = wr.heap.size + 1 from by simp] at hnew
          have Own6 := Lib.hid own6
          have Bel6 := Lib.hid bel6
          have Hnew := Lib.hid hnew
          clear own6 bel6 hnew ho hb hbw
          go_wp2_with (at_builtin; refine wpList_appT rfl _ _ rfl w3.heap.size _ _ rfl Own6.out (wr.heap.size + 1) 0 [⟨qk, s.size + 1 + qp, s.size + 1 + qe, qt⟩] 1 1 rfl rfl Hnew.out (by have := Hldl.out; simp; omega) (by have := Bel6.out.size; exact this) ?_)
          intro v7 w7 own7 bel7 _
          have Own7 : Hid (OwnT w7 w3.heap.size v7 (ld ++ ⟨3, s.size, s.size + 1, ⟨#[10]⟩⟩ :: (lb.take (k + 1)).map (movT (s.size + 1)))) := Lib.hid (by
            rw [Htk.out, List.map_take]
            exact own7)
          have Bel7 : Hid (Below w3.heap.size w3 w7) := Lib.hid (Bel6.out.trans bel7)
          clear own7 bel7 Own6 Bel6 Hnew Htk x0 x1 x2 x3
          go_wp2_with fail
          go_roundw
          case rel => exact ⟨k + 1, by go_num, by omega, Own7, Bel7⟩
          case measure => simp [intOf]; omega
        · have hkl : k = lb.length := by omega
          subst hkl
          have d1 : decide ((lb.length : Int) < (lb.length : Int)) = false := decide_eq_false (by omega)
          have ho2 := ho.out
          rw [List.take_length, ← HR.out] at ho2
          obtain ⟨A5, c5, rfl, hA5, _, _⟩ := ownT_at ho2
          have hA3' := tkAt_below HA3.out hb.out
          have hA3b : TkAt wr wr.heap.size A3 R := by
            rcases hA3' with h | ⟨b, off, rfl, hl, hc⟩
            · exact .inl h
            · exact .inr ⟨b, off, rfl, by have := hb.out.size; omega, hc⟩
          have hs := Lib.hid (RSame_c A3 A5 R c3 c5 wr hA3b hA5 hRl)
          have M5 := M3.trans (hb.out.mono M3.size)
          have H5 := Lib.hid M5
          clear hA3' hA3b hA5 ho ho2 hb M5 HA HA2 HA3 h1 h2 h3
          go_wp2_with fail
          refine hs.out.mono ?_
          rintro q w6 ⟨rfl, n6⟩
          have m6 := H5.out.trans (n6.mono H5.out.size)
          clear hs n6 H5
          go_wp2_with fail
          refine (haw.out _).mono ?_
          rintro q w7 ⟨rfl, n7⟩
          have m7 := m6.trans (n7.mono m6.size)
          clear n7
          go_wp2_with fail
          go_ret
          exact ⟨rfl, m7⟩
    · generalize (allL s).1 = la at *
      generalize (allL s).2.1 = na at *
      rw [e0] at h1
      generalize (allL t).1 = lb at *
      generalize (allL t).2.1 = nb at *
      generalize (allL t).2.2 = x at *
      obtain ⟨E, hE⟩ : ∃ E : Int, E = (x : Int) := ⟨_, rfl⟩
      have tE : (E != 0) = true := by rw [bne_iff_ne]; omega
      rw [← hE] at h2
      clear hE f0 e0
      go_enter Tryd.func5, Tryd.ntmps5
      go_wp2_with fail
      refine (h1.out _).mono ?_
      rintro q w1 ⟨v1, rfl, o1, m1⟩
      obtain ⟨A, c, rfl, hA, hlc, hcm⟩ := ownT_at o1
      clear o1 hA
      go_wp2_with fail
      refine (h2.out _).mono ?_
      rintro q w2 ⟨v2, rfl, o2, m2⟩
      obtain ⟨A2, c2, rfl, hA2, hlc2, hcm2⟩ := ownT_at o2
      clear o2 hA2
      have M2 : Below w.heap.size w w2 := m1.trans (m2.mono m1.size)
      go_wp2_with fail
      refine (haw.out _).mono ?_
      rintro q w7 ⟨rfl, n7⟩
      have m7 := M2.trans (n7.mono M2.size)
      go_wp2_with fail
      go_ret
      exact ⟨rfl, m7⟩
  · generalize (allL s).1 = la at *
    generalize (allL s).2.1 = na at *
    generalize (allL s).2.2 = x at *
    generalize (allL t).1 = lb at *
    generalize (allL t).2.1 = nb at *
    generalize (allL t).2.2 = y at *
    obtain ⟨E, hE⟩ : ∃ E : Int, E = (x : Int) := ⟨_, rfl⟩
    have tE : (E != 0) = true := by rw [bne_iff_ne]; omega
    rw [← hE] at h1
    clear hE e0
    go_enter Tryd.func5, Tryd.ntmps5
    go_wp2_with fail
    refine (h1.out _).mono ?_
    rintro q w1 ⟨v1, rfl, o1, m1⟩
    obtain ⟨A, c, rfl, hA, hlc, hcm⟩ := ownT_at o1
    clear o1 hA
    go_wp2_with fail
    refine (h2.out _).mono ?_
    rintro q w2 ⟨v2, rfl, o2, m2⟩
    obtain ⟨A2, c2, rfl, hA2, hlc2, hcm2⟩ := ownT_at o2
    clear o2 hA2
    have M2 : Below w.heap.size w w2 := m1.trans (m2.mono m1.size)
    go_wp2_with fail
    refine (haw.out _).mono ?_
    rintro q w7 ⟨rfl, n7⟩
    have m7 := M2.trans (n7.mono M2.size)
    go_wp2_with fail
    go_ret
    exact ⟨rfl, m7⟩
end Go.Proofs.YtlenmkcafoiefaaDoor
