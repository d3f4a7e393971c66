/- heredoc: HeredocRounds. -/
import Derived.Test.YtlenmkcafoiefabGreatDoorHdX
import Derived.Test.YtlenmkcafoiefabGreatDoorHdK
import Derived.Lib.AppendIntMem
namespace Go.Proofs.YtlenmkcafoiefabGreatDoor
open Go.RowKit
set_option linter.unusedVariables false
set_option linter.unusedSimpArgs false

theorem tab_keep {W W' : World} (h : Env W W.heap.size) (hb : Below W.heap.size W W') : Env W' W'.heap.size := by
  unfold Env Lib.TabIs World.var? at *
  rw [show Tryz.prog.globalNamed "internal/strconv.uint64pow10" = some 0 by kernel_rfl] at *
  simp only [Option.bind_some] at *
  have hlt : 0 < W.heap.size := by
    by_cases hlt : 0 < W.heap.size
    · exact hlt
    · rw [Array.getElem?_eq_none (by omega)] at h
      cases h
  rw [hb.block _ hlt]
  exact h
theorem itoa_env {W : World} (hE : Env W W.heap.size) (k : Nat) (hk : k ≤ 1000000) : ∀ (n : Nat) (W' : World), n ≤ k + 1 → Below W.heap.size W W' → Calls Tryz.prog 41 #[.int .i64 n] W' fun e w' => e = .returned (.string ⟨(Lib.decDigits n).toArray⟩) ∧ Below W'.heap.size W' w' := by
  intro n W' hn hb
  refine (Tryz.strconv_Itoa (n : Int) (by omega) (by omega) W' (tab_keep hE hb)).mono ?_
  rintro e w' ⟨rfl, q, os, rfl⟩
  have : Lib.itoa (n : Int) = Lib.decDigits n := by
    unfold Lib.itoa
    rw [if_neg (by omega)]
    rfl
  rw [this]
  exact ⟨rfl, Lib.below_grow _ _ (Nat.le_refl _) _ _⟩
theorem toList_empty {s : ByteArray} (h : s.size = 0) : s.toList.isEmpty = true := by
  rw [Lib.toList_data, List.isEmpty_iff]
  exact List.length_eq_zero_iff.1 (by rw [lenS]; exact h)
theorem toList_some {s : ByteArray} (h : 0 < s.size) : s.toList.isEmpty = false := by
  rw [Lib.toList_data]
  rcases he : s.data.toList with _ | ⟨c, r⟩
  · have : s.data.toList.length = 0 := by rw [he]; rfl
    rw [lenS] at this
    omega
  · rfl
theorem ends_of {s : ByteArray} (h : s.size = 0 ∨ ∃ hl : s.size - 1 < s.size, s[s.size - 1]'hl = 10) : Ends s.data.toList := by
  rcases h with h | ⟨hl, h⟩
  · exact .inl (List.length_eq_zero_iff.1 (by rw [lenS]; exact h))
  · right
    have hne : s.data.toList ≠ [] := by
      intro e
      have : s.data.toList.length = 0 := by rw [e]; rfl
      rw [lenS] at this
      omega
    refine ⟨s.data.toList.dropLast, ?_⟩
    have hg : s.data.toList.getLast hne = 10 := by
      rw [List.getLast_eq_getElem]
      rw [← h]
      rfl
    rw [← hg]
    exact (List.dropLast_concat_getLast hne).symm
theorem head_of {t : ByteArray} (h : t.size = 0 ∨ ∃ hl : 0 < t.size, t[0]'hl = 10) : t.data.toList = [] ∨ ∃ r, t.data.toList = 10 :: r := by
  rcases h with h | ⟨hl, h⟩
  · exact .inl (List.length_eq_zero_iff.1 (by rw [lenS]; exact h))
  · right
    refine ⟨t.data.toList.drop 1, ?_⟩
    have := List.drop_eq_getElem_cons (l := t.data.toList) (i := 0) (by rw [lenS]; exact hl)
    rw [List.drop_zero] at this
    rw [this, ← h]
    rfl
set_option maxHeartbeats 8000000 in
set_option maxRecDepth 100000 in
theorem rounds_main (s t : ByteArray) (W : World) (hE : Env W W.heap.size) (h1 : s.size ≤ 1000) (h2 : t.size ≤ 1000) (hs : s.size = 0 ∨ ∃ hl : s.size - 1 < s.size, s[s.size - 1]'hl = 10) (ht : t.size = 0 ∨ ∃ hl : 0 < t.size, t[0]'hl = 10) :
    Calls Tryz.prog 8 #[.string s, .string t] W fun e w' => e = .returned (.bool true) ∧ Below W.heap.size W w' := by
  have HA := Lib.hid (fun w => awake_c w)
  have HD := Lib.hid (Delim_c s W (by omega) (itoa_env hE s.size (by omega)))
  have Hs := Lib.hid (ends_of hs)
  have Ht := Lib.hid (head_of ht)
  have d1 : decide ((1000 : Int) < (s.size : Int)) = false := decide_eq_false (by omega)
  have d1' : decide (1000 < s.size) = false := decide_eq_false (by omega)
  have d2 : decide ((1000 : Int) < (t.size : Int)) = false := decide_eq_false (by omega)
  have d2' : decide (1000 < t.size) = false := decide_eq_false (by omega)
  rcases hs with hs | ⟨hl, hs⟩
  all_goals rcases ht with ht | ⟨hl', ht⟩
  all_goals try have es := toList_empty hs
  all_goals try have es := toList_some (s := s) (by omega)
  all_goals try have et := toList_empty ht
  all_goals try have et := toList_some hl'
  all_goals try
    (have c1 : IntKind.i64.wrap ((s.size : Int) - 1) = (s.size : Int) - 1 := IntWalk.i64_in _ (by omega)
     have c2 : ((s.size : Int) - 1).toNat = s.size - 1 := by omega
     have c3 : (0 : Int) ≤ (s.size : Int) - 1 := by omega
     have c4 : (s.size : Int) - 1 < (s.size : Int) := by omega
     have c5 : (((s[s.size - 1]'hl).toNat : Int) != 10) = false := by rw [hs]; rfl)
  all_goals try
    (have c6 : (((t[0]'hl').toNat : Int) != 10) = false := by rw [ht]; rfl)
  all_goals
    go_enter Tryz.func8, Tryz.ntmps8
    go_wp2_with fail
    refine HD.out.mono ?_
    rintro e w1 ⟨m, rfl, hm, hf, m1⟩
    have hcs := cand_size m (by omega)
    have hcp := cand_pos m
    have hc10 := (cand_ten m).1
    have Htm := Lib.hid (rounds_term s (cand m) t Hs.out hcp hc10 Ht.out hf.2)
    have Hct := Lib.hid (rounds_cont s (cand m ++ t))
    rw [← ByteArray.append_assoc] at Hct
    clear hf hc10
    generalize cand m = d at *
    obtain ⟨w0, hw0⟩ : ∃ w0, w0 = w1.alloc (.cells #[.string d, .bool false, .bool false] 45) := ⟨_, rfl⟩
    have hz0 : w0.heap.size = w1.heap.size + 1 := by rw [hw0]; simp
    have hb0 : Below W.heap.size W w0 := by rw [hw0]; exact m1.alloc m1.size _
    obtain ⟨x, hx, hxs⟩ := Htm.out
    have hfs : (s ++ d ++ t).size ≤ 100000 := by rw [ByteArray.size_append, ByteArray.size_append]; omega
    have HR := Read_c (s ++ d ++ t) d false false w1.heap.size 0 w0 hfs (by omega) (by omega) (by rw [hw0, cell_of_row _ _ 0 _ _ _ (heap_alloc_new w1 _)]; rfl) (by rw [hw0, cell_of_row _ _ 1 _ _ _ (heap_alloc_new w1 _)]; rfl) (by rw [hw0, cell_of_row _ _ 2 _ _ _ (heap_alloc_new w1 _)]; rfl) (s.size, x) hx
    rw [show contT (s ++ d ++ t) 0 (s.size, x).1 false = s from Hct.out] at HR
    first
      | rw [show ((s.size, x).1 : Int) + ((s.size, x).2.size : Int) = (s.size : Int) + d.size by simp only; rw [hxs, if_pos ht]] at HR
      | rw [show ((s.size, x).1 : Int) + ((s.size, x).2.size : Int) = (s.size : Int) + d.size + 1 by simp only; rw [hxs, if_neg (by omega)]; omega] at HR
    have HR2 := Lib.hid HR
    have q1 : IntKind.i64.wrap ((s.size : Int) + d.size) = (s.size : Int) + d.size := IntWalk.i64_in _ (by omega)
    have q2 : IntKind.i64.wrap ((s.size : Int) + d.size + 1) = (s.size : Int) + d.size + 1 := IntWalk.i64_in _ (by omega)
    have mz := m1.size
    clear HR hx hxs m1 Htm Hct
    go_wp2_with fail
    rw [← hw0]
    refine HR2.out.mono ?_
    rintro e w2 ⟨⟨v, rfl, ho⟩, m2⟩
    obtain ⟨g, cap, cur, rfl, hg, hh, hc1, hc2, hc3, hc4⟩ := ho.2.resolve_left (by rintro ⟨_, h⟩; cases h)
    have k1 : w2.cell? ⟨g, 0, none⟩ = some (.string s) := by
      have h0 := World.ownsRow.cellAt ho 0 (by omega)
      simpa using h0
    have hb2 := Lib.hid (hb0.trans (m2.mono (by omega)))
    clear ho hh m2 hc3 hc4 hw0 hb0
    go_wp2_with fail
    refine (HA.out _).mono ?_
    rintro e w3 ⟨rfl, m3⟩
    go_wp2_with fail
    go_ret
    exact ⟨rfl, hb2.out.trans (m3.mono hb2.out.size)⟩
theorem ne_ten {c : UInt8} (h : c ≠ 10) : ((c.toNat : Int) != 10) = true := by
  rcases hb : ((c.toNat : Int) != 10) with _ | _
  · exfalso
    have h1 : (c.toNat : Int) = 10 := by simpa using hb
    exact h (UInt8.toNat_inj.1 (by show c.toNat = 10; omega))
  · rfl
set_option maxHeartbeats 8000000 in
set_option maxRecDepth 100000 in
theorem rounds_walk (s t : ByteArray) (W : World) (ws : s.size ≤ maxLen) (wt : t.size ≤ maxLen) (hE : Env W W.heap.size) :
    Calls Tryz.prog 8 #[.string s, .string t] W fun e w' => e = .returned (.bool true) ∧ Below W.heap.size W w' := by
  have HA := Lib.hid (fun w => awake_c w)
  unfold maxLen at ws wt
  by_cases h1 : s.size ≤ 1000
  · have d1 : decide ((1000 : Int) < (s.size : Int)) = false := decide_eq_false (by omega)
    have d1' : decide (1000 < s.size) = false := decide_eq_false (by omega)
    by_cases h2 : t.size ≤ 1000
    · have d2 : decide ((1000 : Int) < (t.size : Int)) = false := decide_eq_false (by omega)
      have d2' : decide (1000 < t.size) = false := decide_eq_false (by omega)
      by_cases hs : s.size = 0 ∨ ∃ hl : s.size - 1 < s.size, s[s.size - 1]'hl = 10
      · by_cases ht : t.size = 0 ∨ ∃ hl : 0 < t.size, t[0]'hl = 10
        · exact rounds_main s t W hE h1 h2 hs ht
        · have hl' : 0 < t.size := by
            by_cases h0 : t.size = 0
            · exact absurd (.inl h0) ht
            · omega
          have et := toList_some hl'
          have c6 : (((t[0]'hl').toNat : Int) != 10) = true := ne_ten (fun e => ht (.inr ⟨hl', e⟩))
          clear ht
          rcases hs with hs | ⟨hl, hs⟩
          · have es := toList_empty hs
            go_enter Tryz.func8, Tryz.ntmps8
            go_wp2_with fail
            refine (HA.out _).mono ?_
            rintro e w3 ⟨rfl, m3⟩
            go_wp2_with fail
            go_ret
            exact ⟨rfl, m3⟩
          · have es := toList_some (s := s) (by omega)
            have c1 : IntKind.i64.wrap ((s.size : Int) - 1) = (s.size : Int) - 1 := IntWalk.i64_in _ (by omega)
            have c2 : ((s.size : Int) - 1).toNat = s.size - 1 := by omega
            have c3 : (0 : Int) ≤ (s.size : Int) - 1 := by omega
            have c4 : (s.size : Int) - 1 < (s.size : Int) := by omega
            have c5 : (((s[s.size - 1]'hl).toNat : Int) != 10) = false := by rw [hs]; rfl
            go_enter Tryz.func8, Tryz.ntmps8
            go_wp2_with fail
            refine (HA.out _).mono ?_
            rintro e w3 ⟨rfl, m3⟩
            go_wp2_with fail
            go_ret
            exact ⟨rfl, m3⟩
      · have hl : s.size - 1 < s.size := by
          by_cases h0 : s.size = 0
          · exact absurd (.inl h0) hs
          · omega
        have es := toList_some (s := s) (by omega)
        have c1 : IntKind.i64.wrap ((s.size : Int) - 1) = (s.size : Int) - 1 := IntWalk.i64_in _ (by omega)
        have c2 : ((s.size : Int) - 1).toNat = s.size - 1 := by omega
        have c3 : (0 : Int) ≤ (s.size : Int) - 1 := by omega
        have c4 : (s.size : Int) - 1 < (s.size : Int) := by omega
        have c5 : (((s[s.size - 1]'hl).toNat : Int) != 10) = true := ne_ten (fun e => hs (.inr ⟨hl, e⟩))
        clear hs
        go_enter Tryz.func8, Tryz.ntmps8
        go_wp2_with fail
        refine (HA.out _).mono ?_
        rintro e w3 ⟨rfl, m3⟩
        go_wp2_with fail
        go_ret
        exact ⟨rfl, m3⟩
    · have d2 : decide ((1000 : Int) < (t.size : Int)) = true := decide_eq_true (by omega)
      have d2' : decide (1000 < t.size) = true := decide_eq_true (by omega)
      go_enter Tryz.func8, Tryz.ntmps8
      go_wp2_with fail
      refine (HA.out _).mono ?_
      rintro e w3 ⟨rfl, m3⟩
      go_wp2_with fail
      go_ret
      exact ⟨rfl, m3⟩
  · have d1 : decide ((1000 : Int) < (s.size : Int)) = true := decide_eq_true (by omega)
    have d1' : decide (1000 < s.size) = true := decide_eq_true (by omega)
    go_enter Tryz.func8, Tryz.ntmps8
    go_wp2_with fail
    refine (HA.out _).mono ?_
    rintro e w3 ⟨rfl, m3⟩
    go_wp2_with fail
    go_ret
    exact ⟨rfl, m3⟩
end Go.Proofs.YtlenmkcafoiefabGreatDoor
