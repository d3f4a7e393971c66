/- heredoc: HeredocTabs. -/
import Derived.Test.YtlenmkcafoiefabGreatDoorHdV
import Derived.Test.YtlenmkcafoiefabGreatDoorHdZ
import Derived.Deep.RegionHeld3
import Derived.OpenShut
namespace Go.Proofs.YtlenmkcafoiefabGreatDoor
open Go.RowKit
set_option linter.unusedVariables false
set_option linter.unusedSimpArgs false

set_option maxHeartbeats 8000000 in
set_option maxRecDepth 100000 in
theorem tabs_main (s : ByteArray) (k : Nat) (W : World) (h1 : s.size ≤ 500) (h2 : k ≤ 9) (hs : s.size = 0 ∨ ∃ hl : s.size - 1 < s.size, s[s.size - 1]'hl = 10) :
    Calls Tryz.prog 9 #[.string s, .int .u8 k] W fun e w' => e = .returned (.bool true) ∧ Below W.heap.size W w' := by
  have HA := Lib.hid (fun w => awake_c w)
  have HS := Lib.hid (fun w => RStrip_c s w (by omega))
  have hle := strip_le s
  have HD := Lib.hid (fun w => RDelim_c (stripS s) w (by omega))
  have Hs := Lib.hid (ends_of hs)
  have d1 : decide ((500 : Int) < (s.size : Int)) = false := decide_eq_false (by omega)
  have d1' : decide (500 < s.size) = false := decide_eq_false (by omega)
  have d2 : decide ((9 : Int) < (k : Int)) = false := decide_eq_false (by omega)
  have d2' : decide (9 < k) = false := decide_eq_false (by omega)
  have cw : IntKind.i64.wrap (k : Int) = (k : Int) := IntWalk.i64_in _ (by omega)
  have Htn : Hid (∀ d : ByteArray, tookB (lnsL (stripS s) 0) d = false → 0 < d.size → (10 : UInt8) ∉ d.data.toList → (9 : UInt8) ∉ d.data.toList → termL (lnsL (s ++ tabE k d) 0) d true = some (s.size, tabE k d) ∧ contT (s ++ tabE k d) 0 s.size true = stripS s) := Lib.hid (fun d hf hd h10 h9 => ⟨tabs_term s d k Hs.out hd h10 h9 hf, tabs_cont s _⟩)
  generalize stripS s = t at *
  rcases hs with hs | ⟨hl, hs⟩
  all_goals try have es := toList_empty hs
  all_goals try have es := toList_some (s := s) (by omega)
  all_goals try
    (have c1 : IntKind.i64.wrap ((s.size : Int) - 1) = (s.size : Int) - 1 := IntWalk.i64_in _ (by omega)
     have c2 : ((s.size : Int) - 1).toNat = s.size - 1 := by omega
     have c3 : (0 : Int) ≤ (s.size : Int) - 1 := by omega
     have c4 : (s.size : Int) - 1 < (s.size : Int) := by omega
     have c5 : (((s[s.size - 1]'hl).toNat : Int) != 10) = false := by rw [hs]; rfl)
  all_goals clear hs
  all_goals
    go_enter Tryz.func9, Tryz.ntmps9
    go_wp2_with fail
    refine (HS.out _).mono ?_
    rintro e w1 ⟨rfl, rfl⟩
    go_wp2_with fail
    refine (HD.out _).mono ?_
    rintro e w2 ⟨⟨m, rfl, hm, hf⟩, rfl⟩
    have hcs := cand_size m (by omega)
    have hcp := cand_pos m
    obtain ⟨ht, hct⟩ := Htn.out (cand m) hf.2 hcp (cand_ten m).1 (cand_ten m).2
    have Ht := Lib.hid ht
    have Hct := Lib.hid hct
    clear ht hct Htn hf HD
    generalize cand m = d at *
    go_wp2_with fail
    go_loop [6, 7] (fun ev kv => ∃ j : Nat, ev = .string (tabE j d) ∧ kv = .int .i64 j ∧ j ≤ k) (fun _ kv => k - (intOf kv).toNat)
    case atStart => exact ⟨0, by rw [tabE_zero], rfl, by omega⟩
    case round =>
      obtain ⟨j, rfl, rfl, hj⟩ := hrel
      have hze := tabE_size j d
      by_cases hlt : j < k
      · have e1 : decide ((j : Int) < (k : Int)) = true := decide_eq_true (by omega)
        have e1' : decide (j < k) = true := decide_eq_true hlt
        go_wp2_with fail
        all_goals try (exfalso; omega)
        go_round
        case rel => exact ⟨j + 1, by rw [← tabE_succ], by go_num, by omega⟩
        case measure => simp [intOf]; omega
      · have hjk : j = k := by omega
        subst hjk
        have e1 : decide ((j : Int) < (j : Int)) = false := decide_eq_false (by omega)
        have e1' : decide (j < j) = false := decide_eq_false (by omega)
        obtain ⟨w0, hw0⟩ : ∃ w0, w0 = W.alloc (.cells #[.string d, .bool true, .bool false] 45) := ⟨_, rfl⟩
        have hz0 : w0.heap.size = W.heap.size + 1 := by rw [hw0]; simp
        have hb0 : Below W.heap.size W w0 := by rw [hw0]; exact (Below.refl _ _).alloc (Nat.le_refl _) _
        have hfs : (s ++ tabE j d).size ≤ 100000 := by rw [ByteArray.size_append]; omega
        have HR := Read_c (s ++ tabE j d) d true false W.heap.size 0 w0 hfs (by omega) (by omega) (by rw [hw0, cell_of_row _ _ 0 _ _ _ (heap_alloc_new W _)]; rfl) (by rw [hw0, cell_of_row _ _ 1 _ _ _ (heap_alloc_new W _)]; rfl) (by rw [hw0, cell_of_row _ _ 2 _ _ _ (heap_alloc_new W _)]; rfl) (s.size, tabE j d) Ht.out
        rw [show contT (s ++ tabE j d) 0 (s.size, tabE j d).1 true = t from Hct.out] at HR
        obtain ⟨E, hE⟩ : ∃ E : Int, E = (s.size : Int) + (tabE j d).size := ⟨_, rfl⟩
        rw [show ((s.size, tabE j d).1 : Int) + ((s.size, tabE j d).2.size : Int) = E from hE.symm] at HR
        have HR2 := Lib.hid HR
        have q1 : IntKind.i64.wrap ((s.size : Int) + (tabE j d).size) = E := by rw [hE]; exact IntWalk.i64_in _ (by omega)
        have hze2 : (tabE j d).size ≤ 2000 := by omega
        clear HR Ht Hct hE hze Hs
        generalize tabE j d = ee at *
        go_wp2_with fail
        all_goals try (exfalso; omega)
        rw [← hw0]
        refine HR2.out.mono ?_
        rintro e w2 ⟨⟨v, rfl, ho⟩, m2⟩
        obtain ⟨g, cap, cur, rfl, hg, hh, hc1, hc2, hc3, hc4⟩ := ho.2.resolve_left (by rintro ⟨_, h⟩; cases h)
        have k1 : w2.cell? ⟨g, 0, none⟩ = some (.string t) := by
          have h0 := World.ownsRow.cellAt ho 0 (by omega)
          simpa using h0
        have hgl := (Array.getElem?_eq_some_iff.1 hh).1
        have hb2 := Lib.hid (hb0.trans (m2.mono (by omega)))
        clear ho hh m2 hc3 hc4 hw0 hb0
        have p1 := hb2.out.size
        go_wp2_with fail
        go_region_held3 (fun w' => w'.cell? ⟨g, 0, none⟩ = some (.string t))
          (first | go_keep | assumption | (exact (m3.cell (p := ⟨g, 0, none⟩) (by simp <;> omega)).trans k1))
          (first
            | (go_at_call 22; refine (HS.out _).mono ?_; rintro r w7 ⟨rfl, rfl⟩)
            | (go_at_call 20; refine (HA.out _).mono ?_; rintro r w3 ⟨rfl, m3⟩))
        go_wp2_with fail
        go_ret
        first
          | exact ⟨rfl, (below_drewN hb2.out _).trans (m3.mono p1)⟩
          | exact ⟨rfl, (below_drewN (below_drewN hb2.out _) _).trans (m3.mono p1)⟩
          | exact ⟨rfl, (⟨hb2.out.os, hb2.out.tape, hb2.out.output, hb2.out.size, hb2.out.block⟩ : Below W.heap.size W w2.drew).trans (m3.mono p1)⟩
set_option maxHeartbeats 8000000 in
set_option maxRecDepth 100000 in
theorem tabs_walk (s : ByteArray) (a : Int) (W : World) (ws : s.size ≤ maxLen) (ha : 0 ≤ a ∧ a ≤ 255) :
    Calls Tryz.prog 9 #[.string s, .int .u8 a] W fun e w' => e = .returned (.bool true) ∧ Below W.heap.size W w' := by
  have HA := Lib.hid (fun w => awake_c w)
  unfold maxLen at ws
  obtain ⟨k, rfl⟩ : ∃ k : Nat, a = k := ⟨a.toNat, by omega⟩
  by_cases h1 : s.size ≤ 500
  · have d1 : decide ((500 : Int) < (s.size : Int)) = false := decide_eq_false (by omega)
    have d1' : decide (500 < s.size) = false := decide_eq_false (by omega)
    by_cases h2 : k ≤ 9
    · have d2 : decide ((9 : Int) < (k : Int)) = false := decide_eq_false (by omega)
      have d2' : decide (9 < k) = false := decide_eq_false (by omega)
      by_cases hs : s.size = 0 ∨ ∃ hl : s.size - 1 < s.size, s[s.size - 1]'hl = 10
      · exact tabs_main s k W h1 h2 hs
      · have hl : s.size - 1 < s.size := by
          by_cases h0 : s.size = 0
          · exact absurd (.inl h0) hs
          · omega
        have es := toList_some (s := s) (by omega)
        have c1 : IntKind.i64.wrap ((s.size : Int) - 1) = (s.size : Int) - 1 := IntWalk.i64_in _ (by omega)
        have c2 : ((s.size : Int) - 1).toNat = s.size - 1 := by omega
        have c3 : (0 : Int) ≤ (s.size : Int) - 1 := by omega
        have c4 : (s.size : Int) - 1 < (s.size : Int) := by omega
        have c5 : (((s[s.size - 1]'hl).toNat : Int) != 10) = true := ne_ten (fun e => hs (.inr ⟨hl, e⟩))
        clear hs
        go_enter Tryz.func9, Tryz.ntmps9
        go_wp2_with fail
        refine (HA.out _).mono ?_
        rintro e w3 ⟨rfl, m3⟩
        go_wp2_with fail
        go_ret
        exact ⟨rfl, m3⟩
    · have d2 : decide ((9 : Int) < (k : Int)) = true := decide_eq_true (by omega)
      have d2' : decide (9 < k) = true := decide_eq_true (by omega)
      go_enter Tryz.func9, Tryz.ntmps9
      go_wp2_with fail
      refine (HA.out _).mono ?_
      rintro e w3 ⟨rfl, m3⟩
      go_wp2_with fail
      go_ret
      exact ⟨rfl, m3⟩
  · have d1 : decide ((500 : Int) < (s.size : Int)) = true := decide_eq_true (by omega)
    have d1' : decide (500 < s.size) = true := decide_eq_true (by omega)
    go_enter Tryz.func9, Tryz.ntmps9
    go_wp2_with fail
    refine (HA.out _).mono ?_
    rintro e w3 ⟨rfl, m3⟩
    go_wp2_with fail
    go_ret
    exact ⟨rfl, m3⟩
end Go.Proofs.YtlenmkcafoiefabGreatDoor
