/- pattern: the reference's set. -/
import Derived.Test.YteppndkhmbhnkaaDoorPRme
import Derived.Test.YteppndkhmbhnkaaDoorPOk
namespace Go.Proofs.YteppndkhmbhnkaaDoor
open Go.RowKit
set_option linter.unusedVariables false

theorem spL_hi (S : Nat → Bool) : ∀ (k : Nat), ∀ p ∈ spL S k, S p.2 = true
  | 0 => by intro p hp; simp [spL] at hp
  | k + 1 => by
    have h1 := spL_hi S k
    rcases hS : S k with _ | _
    · have e : spL S (k + 1) = spL S k := by rw [spL, if_pos hS]
      rw [e]
      exact h1
    · by_cases hk : (decide (0 < k) && S (k - 1)) = true
      · have hk2 : S (k - 1) = true := by simp at hk; exact hk.2
        have hk1 : 0 < k := by simp at hk; exact hk.1
        obtain ⟨l, a, e1, ha⟩ := spL_last S (k - 1) hk2
        rw [show k - 1 + 1 = k from by omega] at e1
        have e : spL S (k + 1) = l ++ [(a, k)] := by
          rw [spL, if_neg (by rw [hS]; simp), if_pos hk, e1, setHi_last]
        rw [e]
        rw [e1] at h1
        intro p hp
        rcases List.mem_append.1 hp with h | h
        · exact h1 p (List.mem_append.2 (.inl h))
        · simp at h; subst h; exact hS
      · have e : spL S (k + 1) = spL S k ++ [(k, k)] := by rw [spL, if_neg (by rw [hS]; simp), if_neg hk]
        rw [e]
        intro p hp
        rcases List.mem_append.1 hp with h | h
        · exact h1 p h
        · simp at h; subst h; exact hS
theorem own_slice {w : World} {B : Nat} {e : TypeId} {size n : Nat} {v : Value} {xs : List Value} (h : w.ownsRow B e size v n xs) : ∃ A c, v = .slice A n c := by
  rcases h.2 with ⟨rfl, h0⟩ | ⟨g, cap, cur, rfl, _⟩
  · exact ⟨none, 0, by rw [h0]⟩
  · exact ⟨_, _, rfl⟩
set_option maxHeartbeats 16000000 in
set_option maxRecDepth 100000 in
theorem set_c (sv : Value) (l : List (Nat × Nat)) (w : World) (hs : SpAt w w.heap.size sv l) (hl : l.length ≤ 1000000) (hlz : ∀ p ∈ l, p.1 < 256 ∧ p.2 < 256) :
    Calls Tryd.prog 89 #[sv] w fun e w' => ∃ v, e = .returned v ∧ OwnSp w' w.heap.size v (spL (inSp l) 256) ∧ Below w.heap.size w w' := by
  obtain ⟨i0, hi, hz0, hz1, hz2⟩ := info_parts spanInfo
  have Hin : Hid (∀ W (z : Nat), Below w.heap.size w W → z < 256 → Calls Tryd.prog 117 #[sv, .int .u8 z] W fun e w' => e = .returned (.bool (inSp l z)) ∧ W = w') := Lib.hid (fun W z hW hz => in_c sv l z w.heap.size W (spAt_below hs hW (Nat.le_refl _)) hl hz hlz)
  obtain ⟨As, cs, rfl, _⟩ := hs
  generalize hSe : inSp l = S at *
  clear hSe
  go_enter Tryd.func89, Tryd.ntmps89
  go_wp2_with fail
  go_loopw [3, 4] (fun lv iv wr => ∃ (k : Nat), iv = .int .i64 k ∧ k ≤ 256 ∧ OwnSp wr w.heap.size lv (spL S k) ∧ Below w.heap.size w wr) (fun _ iv _ => 256 - (intOf iv).toNat)
  case atStart => exact ⟨0, rfl, by omega, ⟨rfl, .inl ⟨rfl, rfl⟩⟩, Below.refl _ _⟩
  case round =>
    obtain ⟨k, rfl, hk, ho1, hb1⟩ := hrel
    by_cases hlt : k < 256
    · have d1 : decide ((k : Int) < 256) = true := decide_eq_true (by omega)
      have d1' : decide (k < 256) = true := decide_eq_true hlt
      have hsp : spL S (k + 1) = if S k = false then spL S k else if (decide (0 < k) && S (k - 1)) = true then setHi (spL S k) k else spL S k ++ [(k, k)] := rfl
      have Hsp := Lib.hid hsp
      clear hsp
      have hw8 : IntKind.u8.wrap (k : Int) = (k : Int) := IntWalk.u8_in _ (by omega)
      have hin := Lib.hid (Hin.out wr k hb1 hlt)
      have hwsz := hb1.size
      obtain ⟨w2, hw2⟩ : ∃ x, x = wr := ⟨_, rfl⟩
      subst hw2
      rcases hSk : S k with _ | _
      · rw [hSk] at hin
        have hq : spL S (k + 1) = spL S k := by rw [Hsp.out, if_pos hSk]
        have Hq : Hid (OwnSp w2 w.heap.size u3 (spL S (k + 1))) := Lib.hid (by rw [hq]; exact ho1)
        clear hq ho1 hSk Hsp
        go_wp2_with fail
        refine hin.out.mono ?_
        rintro e w7 ⟨rfl, rfl⟩
        clear hin
        go_wp2_with fail
        go_roundw
        case rel => exact ⟨k + 1, by go_num, by omega, Hq.out, hb1⟩
        case measure => simp [intOf]; omega
      rw [hSk] at hin
      have hlenk := spL_len S k
      have hltk := spL_lt S k
      have hhik := spL_hi S k
      by_cases hpre : 0 < k ∧ S (k - 1) = true
      · obtain ⟨hk0, hSp⟩ := hpre
        have hq : spL S (k + 1) = setHi (spL S k) k := by rw [Hsp.out, if_neg (by rw [hSk]; simp), if_pos (by simp [hk0, hSp])]
        obtain ⟨l', a, hl', _⟩ := spL_last S (k - 1) hSp
        rw [show k - 1 + 1 = k from by omega] at hl'
        rw [hl', setHi_last] at hq
        rw [hl'] at ho1
        unfold OwnSp at ho1
        rw [List.length_append, List.length_singleton] at ho1
        have hlen := hlenk
        rw [hl', List.length_append, List.length_singleton] at hlen
        obtain ⟨g2, cap, rfl, hg2, hg2l⟩ := World.ownsRow.form ho1 (by omega)
        have hat := ho1.cellAt (l'.length * 2 + 1) (by omega)
        have hfr := ho1.frozenAt (l'.length * 2 + 1)
        have hst := (ho1.stored (l'.length * 2 + 1) (.int .u8 (k : Nat))).1
        rw [spCells_setHi] at hst
        have Hq : Hid (OwnSp (w2.setCell ⟨g2, l'.length * 2 + 1, none⟩ (.int .u8 (k : Nat))) w.heap.size (.slice (some ⟨g2, 0, none⟩) (l'.length + 1) cap) (spL S (k + 1))) := Lib.hid (by
          rw [hq]
          unfold OwnSp
          rw [List.length_append, List.length_singleton]
          exact hst)
        have hcx : w2.cell? ⟨g2, l'.length * 2 + 1, none⟩ = some (.int .u8 ((k - 1 : Nat) : Int)) := by
          rw [hat, spCells_append, List.getElem?_append_right (by rw [spCells_length]; omega), spCells_length, Nat.add_sub_cancel_left]
          rfl
        have j3 : (0 : Int) < (l'.length : Int) + 1 := by omega
        have j3' : decide ((0 : Int) < (l'.length : Int) + 1) = true := decide_eq_true j3
        have hbs := hb1.setCell (p := ⟨g2, l'.length * 2 + 1, none⟩) hg2 (.int .u8 (k : Nat))
        obtain ⟨m, hm⟩ : ∃ m, m = k - 1 := ⟨_, rfl⟩
        rw [← hm] at hcx
        have e1 : (((m : Int) + 1) == (k : Int)) = true := by rw [beq_iff_eq]; omega
        have i5 : IntKind.i64.wrap ((m : Int) + 1) = (m : Int) + 1 := IntWalk.i64_in _ (by omega)
        have i6 : IntKind.i64.wrap (m : Int) = (m : Int) := IntWalk.i64_in _ (by omega)
        clear hst hat ho1 hq hl' Hsp hltk hhik hlenk hm
        go_wp2_with fail
        refine hin.out.mono ?_
        rintro e w7 ⟨rfl, rfl⟩
        clear hin
        go_wp2_with fail
        go_roundw
        case rel => exact ⟨k + 1, by go_num, by omega, Hq.out, hbs⟩
        case measure => simp [intOf]; omega
      · have hq : spL S (k + 1) = spL S k ++ [(k, k)] := by
          rw [Hsp.out, if_neg (by rw [hSk]; simp), if_neg]
          intro h
          simp only [Bool.and_eq_true, decide_eq_true_eq] at h
          exact hpre h
        have hoa : (w2.alloc (.cells #[.int .u8 (k : Nat), .int .u8 (k : Nat)] 68)).ownsRow w.heap.size 68 2 u3 (spL S k).length (spCells (spL S k)) := World.ownsRow.alloc ho1 _
        have hba : Below w.heap.size w (w2.alloc (.cells #[.int .u8 (k : Nat), .int .u8 (k : Nat)] 68)) := hb1.alloc hwsz _
        have Hq := Lib.hid hq
        have hg : (∃ A3 c3, u3 = .slice A3 0 c3) ∨ ∃ g3 n3 c3 m3 : Nat, u3 = .slice (some ⟨g3, 0, none⟩) (n3 + 1) c3 ∧ w2.cell? ⟨g3, n3 * 2 + 1, none⟩ = some (.int .u8 (m3 : Nat)) ∧ m3 < 256 ∧ m3 + 1 ≠ k := by
          rcases hc : spL S k with _ | ⟨p0, r0⟩
          · unfold OwnSp at ho1
            rw [hc] at ho1
            exact .inl (own_slice ho1)
          · right
            obtain ⟨l', p, hlp⟩ : ∃ l' p, spL S k = l' ++ [p] := by
              rcases List.eq_nil_or_concat (spL S k) with h | ⟨l', p, h⟩
              · rw [hc] at h; cases h
              · exact ⟨l', p, by rw [h, List.concat_eq_append]⟩
            have hp := hltk p (by rw [hlp]; simp)
            have hph := hhik p (by rw [hlp]; simp)
            unfold OwnSp at ho1
            rw [hlp] at ho1
            rw [List.length_append, List.length_singleton] at ho1
            obtain ⟨g2, cap, hv, hg2, hg2l⟩ := World.ownsRow.form ho1 (by omega)
            have hlt9 : l'.length * 2 + 1 < (l'.length + 1) * 2 := by omega
            subst hv
            have hat := World.ownsRow.cellAt ho1 (l'.length * 2 + 1) hlt9
            refine ⟨g2, l'.length, cap, p.2, rfl, ?_, Nat.lt_trans hp.2 hlt, fun h => ?_⟩
            · rw [hat, spCells_append, List.getElem?_append_right (by rw [spCells_length]; omega), spCells_length, Nat.add_sub_cancel_left]
              rfl
            · exact hpre ⟨by omega, by rw [show k - 1 = p.2 from by omega]; exact hph⟩
        have arm : Hid (∀ (v' : Value) (w3 : World), w3.ownsRow w.heap.size 68 2 v' ((spL S k).length + 1) (spCells (spL S k) ++ [.int .u8 (k : Nat), .int .u8 (k : Nat)]) → (w2.alloc (.cells #[.int .u8 (k : Nat), .int .u8 (k : Nat)] 68)).grownBy w3 u3.ownBlock → Hid (OwnSp w3 w.heap.size v' (spL S (k + 1))) ∧ Below w.heap.size w w3) := Lib.hid (fun v' w3 hown' hgrow => ⟨Lib.hid (by
            rw [Hq.out]
            unfold OwnSp
            rw [List.length_append, spCells_append]
            exact hown'), hba.grown hgrow (by simp; omega) (fun q hq => (hoa.lt q hq).1)⟩)
        have Hoa := Lib.hid hoa
        have Hba := Lib.hid hba
        have hbz : w.heap.size ≤ (w2.alloc (.cells #[.int .u8 (k : Nat), .int .u8 (k : Nat)] 68)).heap.size := by simp; omega
        generalize hN : (spL S k).length = N at *
        clear hq hpre hSk Hsp ho1 hoa hba hltk hhik hN
        rcases hg with ⟨A3, c3, rfl⟩ | ⟨g3, n3, c3, m3, rfl, x3, hm3, hne⟩
        · go_wp2_with fail
          refine hin.out.mono ?_
          rintro e w7 ⟨rfl, rfl⟩
          clear hin
          go_wp2_with (at_builtin; refine wpList_append_own _ rfl _ _ 41 rfl w.heap.size 68 i0 _ 2 2 Tryd.underlying41 hi hz0 hz1 hz2 rfl (by decide) _ _ _ rfl Hoa.out ⟨w2.heap.size, 0, none⟩ 1 1 [.int .u8 (k : Nat), .int .u8 (k : Nat)] rfl rfl (World.news_of_block (cs := #[.int .u8 (k : Nat), .int .u8 (k : Nat)]) (t := 68) (fr := (0, 0)) (heap_alloc_new w2 _)) (by intro u hu; simp at hu; rcases hu with rfl | rfl <;> rfl) (by unfold maxLen; omega) (by omega) hbz ?_)
          intro v' w3 hown' hgrow _
          obtain ⟨Ho3, hb3⟩ := arm.out v' w3 hown' hgrow
          clear hown' hgrow arm Hoa Hba Hq
          go_wp2_with fail
          go_roundw
          case rel => exact ⟨k + 1, by go_num, by omega, Ho3.out, hb3⟩
          case measure => simp [intOf]; omega
        · have j3 : (0 : Int) < (n3 : Int) + 1 := by omega
          have j3' : decide ((0 : Int) < (n3 : Int) + 1) = true := decide_eq_true j3
          have e1 : (((m3 : Int) + 1) == (k : Int)) = false := by rw [beq_eq_false_iff_ne]; omega
          have i5 : IntKind.i64.wrap ((m3 : Int) + 1) = (m3 : Int) + 1 := IntWalk.i64_in _ (by omega)
          have i6 : IntKind.i64.wrap (m3 : Int) = (m3 : Int) := IntWalk.i64_in _ (by omega)
          have i7 : n3 + 1 = N := by
            rcases Hoa.out.2 with ⟨h, _⟩ | ⟨g, cap, cur, h, _⟩
            · cases h
            · injection h
          have Hi7 := Lib.hid i7
          have hn3 : n3 ≤ 256 := by omega
          clear i7
          go_wp2_with fail
          refine hin.out.mono ?_
          rintro e w7 ⟨rfl, rfl⟩
          clear hin
          go_wp2_with (at_builtin; refine wpList_append_own _ rfl _ _ 41 rfl w.heap.size 68 i0 _ 2 2 Tryd.underlying41 hi hz0 hz1 hz2 rfl (by decide) _ _ _ rfl Hoa.out ⟨w2.heap.size, 0, none⟩ 1 1 [.int .u8 (k : Nat), .int .u8 (k : Nat)] rfl rfl (World.news_of_block (cs := #[.int .u8 (k : Nat), .int .u8 (k : Nat)]) (t := 68) (fr := (0, 0)) (heap_alloc_new w2 _)) (by intro u hu; simp at hu; rcases hu with rfl | rfl <;> rfl) (by unfold maxLen; omega) (by omega) hbz ?_)
          intro v' w3 hown' hgrow _
          obtain ⟨Ho3, hb3⟩ := arm.out v' w3 hown' hgrow
          clear hown' hgrow arm Hoa Hba Hq
          go_wp2_with fail
          go_roundw
          case rel => exact ⟨k + 1, by go_num, by omega, Ho3.out, hb3⟩
          case measure => simp [intOf]; omega
    · have hk6 : k = 256 := by omega
      subst hk6
      have d1 : decide (((256 : Nat) : Int) < 256) = false := by decide
      go_wp2_with fail
      go_ret
      exact ⟨_, rfl, ho1, hb1⟩
end Go.Proofs.YteppndkhmbhnkaaDoor
