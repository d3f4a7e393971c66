/- words: the parts of the here-document of the example. -/
import Derived.Test.YtlenmkcafoiefabGreatDoorHwE
import Derived.Test.YtlenmkcafoiefabGreatDoorHwC
namespace Go.Proofs.YtlenmkcafoiefabGreatDoor
open Go.RowKit
set_option linter.unusedVariables false

/-- How far the parser is, and what the list holds. -/
inductive DocSt (B P L : Nat) (w : World) : Nat → Prop
  | a : w.heap[P]? = some (psrO docS 0) → w.heap[L]? = some (lstO (.slice none 0 0) (.slice none 0 0)) → DocSt B P L w 0
  | b (v : Value) : w.heap[P]? = some (psrO docS 2) → w.heap[L]? = some (lstO v (.slice none 0 0)) → w.ownsRow B 66 5 v 1 (partC 4 ⟨#[120]⟩) → DocSt B P L w 2
  | c (v : Value) (g cap : Nat) : w.heap[P]? = some (psrO docS 3) → w.heap[L]? = some (lstO v (.slice (some ⟨g, 0, none⟩) 1 cap)) → w.ownsRow B 66 5 v 1 (partC 4 ⟨#[120]⟩) → w.cell? ⟨g, 0, none⟩ = some (.int .u8 10) → DocSt B P L w 3
theorem after_ends {W w7 : World} {P b : Nat} {s : ByteArray} {a : Nat} (m7 : Below W.heap.size W w7) (hp : W.heap[P]? = some (psrO s a)) (hb : W.heap[b]? = some plcO) :
    w7.heap[P]? = some (psrO s a) ∧ w7.heap[b]? = some plcO ∧ (w7.cell? ⟨P, 0, none⟩ = some (.string s) ∧ w7.cell? ⟨P, 1, none⟩ = some (.int .i64 a) ∧ w7.frozen? ⟨P, 1, none⟩ = false) ∧ w7.cell? ⟨b, 0, none⟩ = some (.int .i64 3) ∧ w7.cell? ⟨b, 1, none⟩ = some (.bool false) ∧ w7.cell? ⟨b, 2, none⟩ = some (.int .i64 1) := by
  have h1 := (m7.block P (Array.getElem?_eq_some_iff.1 hp).1).trans hp
  have h2 := (m7.block b (Array.getElem?_eq_some_iff.1 hb).1).trans hb
  exact ⟨h1, h2, psr_cells h1, plc_cells h2⟩
theorem own_keep {B P L : Nat} {W w' : World} {v : Value} {xs : List Value} (h : W.ownsRow B 66 5 v 1 xs) (hb : But2 P L W w') (hL : ∃ a b, W.heap[L]? = some (lstO a b)) (hP : ∃ s a, W.heap[P]? = some (psrO s a)) : w'.ownsRow B 66 5 v 1 xs := by
  refine ⟨h.1, ?_⟩
  rcases h.2 with h0 | ⟨g, cap, cur, rfl, hg, hh, r⟩
  · exact .inl h0
  · refine .inr ⟨g, cap, cur, rfl, hg, hb.blk hh ?_ ?_, r⟩
    · rintro rfl
      obtain ⟨a, b, hl⟩ := hL
      rw [hh] at hl
      unfold lstO at hl
      simp at hl
    · rintro rfl
      obtain ⟨a, b, hl⟩ := hP
      rw [hh] at hl
      unfold psrO at hl
      simp at hl
set_option maxHeartbeats 16000000 in
set_option maxRecDepth 100000 in
theorem quoted_doc (P : Nat) (w : World) (hP : w.heap[P]? = some (psrO docS 0)) :
    Calls Tryz.prog 128 #[.pointer (some ⟨P, 0, none⟩), plcV] w fun e w' => (∃ A c, e = .returned (.slice A 2 c)) ∧ Below 0 w w' ∧ ∀ k, k < w.heap.size → k ≠ P → w'.heap[k]? = w.heap[k]? := by
  have hltP := (Array.getElem?_eq_some_iff.1 hP).1
  have HE := Lib.hid (fun W => ends_c P 0 W)
  have HD := Lib.hid (fun L W h1 h2 h3 => dollar_doc P L W h1 h2 h3)
  have HN := Lib.hid (fun W => paren_c P W)
  have HL := Lib.hid (fun L v W h1 h2 h3 => literal_c P L docS 2 v W h1 h2 h3 (by decide) (by decide))
  have hplc : plcV = .agg #[.int .i64 3, .bool false, .int .i64 1] := rfl
  have Hplc := Lib.hid hplc
  rw [hplc] at HE HD HN ⊢
  clear hplc
  go_enter Tryz.func128, Tryz.ntmps128
  go_wp2_with fail
  obtain ⟨W0, hW0⟩ : ∃ W0 : World, W0 = (w.alloc (.cells #[.int .i64 3, .bool false, .int .i64 1] 136)).alloc (.cells #[.slice none 0 0, .slice none 0 0] 158) := ⟨_, rfl⟩
  rw [← hW0]
  have q0 : W0.heap[w.heap.size]? = some plcO := by
    rw [hW0, Below.heap_alloc _ _ _ (by simp)]
    exact heap_alloc_new w _
  have q1 : W0.heap[w.heap.size + 1]? = some (lstO (.slice none 0 0) (.slice none 0 0)) := by
    have := heap_alloc_new (w.alloc (.cells #[.int .i64 3, .bool false, .int .i64 1] 136)) (.cells #[.slice none 0 0, .slice none 0 0] 158)
    rw [World.size_alloc] at this
    rw [hW0]; exact this
  have q2 : Below w.heap.size w W0 := by rw [hW0]; exact ((Below.refl _ w).alloc (Nat.le_refl _) _).alloc (by simp) _
  have q3 := (q2.block P hltP).trans hP
  have hsz : W0.heap.size = w.heap.size + 2 := by rw [hW0]; simp
  clear hW0
  go_loopw [6] (fun dv wr => dv = .int .i64 0 ∧ (∃ n, DocSt w.heap.size P (w.heap.size + 1) wr n) ∧ wr.heap[w.heap.size]? = some plcO ∧ But2 P (w.heap.size + 1) W0 wr) (fun _ wr => 3 - (intOf ((wr.cell? ⟨P, 1, none⟩).getD undef)).toNat)
  case atStart => exact ⟨rfl, ⟨0, .a q3 q1⟩, q0, But2.refl _ _ _⟩
  case round =>
    obtain ⟨rfl, ⟨n, hst⟩, hpl, hbt⟩ := hrel
    have hszr := hbt.size
    clear q0 q1 q3
    cases hst with
    | a h1 h2 =>
      obtain ⟨s, hs⟩ : ∃ s : ByteArray, s = docS := ⟨_, rfl⟩
      obtain ⟨a, ha⟩ : ∃ a : Nat, a = 0 := ⟨_, rfl⟩
      have g1 : a < s.size := by rw [hs, ha]; decide
      have g2 : s[a]'g1 = 36 := by subst hs; subst ha; kernel_rfl
      have HD2 : Hid (∀ (L : Nat) (W : World), W.heap[P]? = some (psrO s a) → W.heap[L]? = some (lstO (.slice none 0 0) (.slice none 0 0)) → P ≠ L → Calls Tryz.prog 153 #[.pointer (some ⟨P, 0, none⟩), .agg #[.int .i64 3, .bool false, .int .i64 1], .pointer (some ⟨L, 0, none⟩)] W fun e w' => e = .returned (.tuple #[]) ∧ ∃ v, w'.heap[L]? = some (lstO v (.slice none 0 0)) ∧ w'.ownsRow W.heap.size 66 5 v 1 (partC 4 ⟨#[120]⟩) ∧ w'.heap[P]? = some (psrO docS 2) ∧ But2 P L W w') := Lib.hid (fun L W x1 x2 x3 => by subst hs; subst ha; exact HD.out L W x1 x2 x3)
      have h1' : wr.drew.heap[P]? = some (psrO s a) := by rw [hs, ha]; exact h1
      have hpl' : wr.drew.heap[w.heap.size]? = some plcO := hpl
      have Hfin : Hid (intOf ((wr.cell? ⟨P, 1, none⟩).getD undef) = 0) := Lib.hid (by rw [(psr_cells h1).2.1]; rfl)
      obtain ⟨c0, c1, _⟩ := psr_cells (w := wr) h1'
      obtain ⟨p0, p1, p2⟩ := plc_cells hpl
      have Hsa := Lib.hid (And.intro hs ha)
      have aI : (a : Int) < (s.size : Int) := by omega
      have d1 : decide ((a : Int) < (s.size : Int)) = true := decide_eq_true aI
      have d1' : decide (a < s.size) = true := decide_eq_true g1
      have t92 : (((s[a]'g1).toNat : Int) == 92) = false := by rw [g2]; rfl
      have t96 : (((s[a]'g1).toNat : Int) == 96) = false := by rw [g2]; rfl
      have t36 : (((s[a]'g1).toNat : Int) == 36) = true := by rw [g2]; rfl
      clear hs ha g2 h1
      go_wp2_with fail
      go_region_held3 (fun w' => w'.cell? ⟨P, 0, none⟩ = some (.string s) ∧ w'.cell? ⟨P, 1, none⟩ = some (.int .i64 a) ∧ w'.cell? ⟨w.heap.size, 0, none⟩ = some (.int .i64 3) ∧ w'.cell? ⟨w.heap.size, 1, none⟩ = some (.bool false) ∧ w'.cell? ⟨w.heap.size, 2, none⟩ = some (.int .i64 1))
        (first | go_keep | assumption)
        ((go_at_call 159; refine (HE.out _).mono ?_; rintro r w7 ⟨rfl, m7⟩; obtain ⟨e1, e2, ⟨y0, y1, y2⟩, z0, z1, z2⟩ := after_ends m7 h1' hpl'))
      go_wp2_with fail
      go_region
      go_wp2_with fail
      have h2' : w7.drew.heap[w.heap.size + 1]? = some (lstO (.slice none 0 0) (.slice none 0 0)) := (m7.block _ (Array.getElem?_eq_some_iff.1 (show wr.drew.heap[w.heap.size + 1]? = _ from h2)).1).trans h2
      have hb7 : But2 P (w.heap.size + 1) wr w7 := But2.of_below ((Below.refl wr.heap.size wr).drew.trans m7)
      refine (HD2.out _ w7.drew e1 h2' (by omega)).mono ?_
      rintro e w8 ⟨rfl, v, b1, b2, b3, b4⟩
      have b5 : But2 P (w.heap.size + 1) w7 w8 := ⟨(Below.refl 0 w7).drew.trans b4.rel, b4.same⟩
      have hs8 : w.heap.size ≤ w7.heap.size := by have := hb7.size; omega
      go_wp2_with fail
      go_roundw
      case rel => exact ⟨rfl, ⟨2, .b v b3 b1 ⟨b2.1, b2.2.imp id fun ⟨g, cap, cur, x1, x2, x3⟩ => ⟨g, cap, cur, x1, Nat.le_trans hs8 x2, x3⟩⟩⟩, b5.blk e2 (by omega) (by omega), hbt.trans (hb7.trans b5)⟩
      case measure => rw [Hfin.out, (psr_cells b3).2.1]; simp [intOf]
    | b v h1 h2 h3 =>
      obtain ⟨s, hs⟩ : ∃ s : ByteArray, s = docS := ⟨_, rfl⟩
      obtain ⟨a, ha⟩ : ∃ a : Nat, a = 2 := ⟨_, rfl⟩
      have g1 : a < s.size := by rw [hs, ha]; decide
      have g2 : s[a]'g1 = 10 := by subst hs; subst ha; kernel_rfl
      have h1' : wr.drew.heap[P]? = some (psrO s a) := by rw [hs, ha]; exact h1
      have hpl' : wr.drew.heap[w.heap.size]? = some plcO := hpl
      have Hfin : Hid (intOf ((wr.cell? ⟨P, 1, none⟩).getD undef) = 2) := Lib.hid (by rw [(psr_cells h1).2.1]; rfl)
      obtain ⟨c0, c1, _⟩ := psr_cells (w := wr) h1'
      obtain ⟨p0, p1, p2⟩ := plc_cells hpl
      have Hsa := Lib.hid (And.intro hs ha)
      have aI : (a : Int) < (s.size : Int) := by omega
      have d1 : decide ((a : Int) < (s.size : Int)) = true := decide_eq_true aI
      have d1' : decide (a < s.size) = true := decide_eq_true g1
      have t92 : (((s[a]'g1).toNat : Int) == 92) = false := by rw [g2]; rfl
      have t96 : (((s[a]'g1).toNat : Int) == 96) = false := by rw [g2]; rfl
      have t36 : (((s[a]'g1).toNat : Int) == 36) = false := by rw [g2]; rfl
      have t34 : (((s[a]'g1).toNat : Int) == 34) = false := by rw [g2]; rfl
      have H1 := Lib.hid h1
      have H3 := Lib.hid h3
      clear hs ha g2 h1 h3
      go_wp2_with fail
      go_region_held3 (fun w' => w'.cell? ⟨P, 0, none⟩ = some (.string s) ∧ w'.cell? ⟨P, 1, none⟩ = some (.int .i64 a) ∧ w'.cell? ⟨w.heap.size, 0, none⟩ = some (.int .i64 3) ∧ w'.cell? ⟨w.heap.size, 1, none⟩ = some (.bool false) ∧ w'.cell? ⟨w.heap.size, 2, none⟩ = some (.int .i64 1))
        (first | go_keep | assumption)
        ((go_at_call 159; refine (HE.out _).mono ?_; rintro r w7 ⟨rfl, m7⟩; obtain ⟨e1, e2, ⟨y0, y1, y2⟩, z0, z1, z2⟩ := after_ends m7 h1' hpl'))
      go_wp2_with fail
      go_region
      go_wp2_with fail
      have hb7 : But2 P (w.heap.size + 1) wr w7 := But2.of_below ((Below.refl wr.heap.size wr).drew.trans m7)
      have hL7 : w7.heap[w.heap.size + 1]? = some (lstO v (.slice none 0 0)) := (m7.block _ (Array.getElem?_eq_some_iff.1 (show wr.drew.heap[w.heap.size + 1]? = _ from h2)).1).trans h2
      refine (HN.out _).mono ?_
      rintro e w8 ⟨rfl, m8⟩
      have m8' : Below w7.heap.size w7 w8 := (Below.refl w7.heap.size w7).drew.trans m8
      have hL8 := (m8'.block _ (Array.getElem?_eq_some_iff.1 hL7).1).trans hL7
      have hP8 := (m8'.block _ (Array.getElem?_eq_some_iff.1 e1).1).trans e1
      have hpl8 := (m8'.block _ (Array.getElem?_eq_some_iff.1 e2).1).trans e2
      rw [Hsa.out.1, Hsa.out.2] at hP8
      have hb8 : But2 P (w.heap.size + 1) wr w8 := hb7.trans (But2.of_below m8')
      have hv8 := own_keep H3.out hb8 ⟨_, _, h2⟩ ⟨_, _, H1.out⟩
      go_wp2_with fail
      refine (HL.out (w.heap.size + 1) v w8 hP8 hL8 (by omega)).mono ?_
      rintro e w9 ⟨rfl, u, l1, l2, l3, l4, l5⟩
      have hb9 : But2 P (w.heap.size + 1) w8 w9 := ⟨l4, l5⟩
      have hv9 := own_keep hv8 hb9 ⟨_, _, hL8⟩ ⟨_, _, hP8⟩
      obtain ⟨g, cap, rfl⟩ : ∃ g cap, u = .slice (some ⟨g, 0, none⟩) 1 cap := by
        rcases l2.2 with ⟨_, h⟩ | ⟨g, cap, cur, rfl, _⟩
        · omega
        · exact ⟨g, cap, rfl⟩
      have hu0 : w9.cell? ⟨g, 0, none⟩ = some (.int .u8 10) := by
        rw [World.ownsRow.cellAt l2 0 (by decide)]
        rfl
      go_wp2_with fail
      go_roundw
      case rel => exact ⟨rfl, ⟨3, .c v g cap l3 l1 hv9 hu0⟩, hb9.blk hpl8 (by omega) (by omega), hbt.trans (hb8.trans hb9)⟩
      case measure => rw [Hfin.out, (psr_cells l3).2.1]; simp [intOf]
    | c v g cap h1 h2 h3 h4 =>
      obtain ⟨s, hs⟩ : ∃ s : ByteArray, s = docS := ⟨_, rfl⟩
      obtain ⟨a, ha⟩ : ∃ a : Nat, a = 3 := ⟨_, rfl⟩
      have g1 : a = s.size := by rw [hs, ha]; rfl
      have h1' : wr.heap[P]? = some (psrO s a) := by rw [hs, ha]; exact h1
      obtain ⟨c0, c1, _⟩ := psr_cells (w := wr) h1'
      obtain ⟨p0, p1, p2⟩ := plc_cells hpl
      have d1 : decide ((a : Int) < (s.size : Int)) = false := decide_eq_false (by omega)
      have d1' : decide (a < s.size) = false := decide_eq_false (by omega)
      have HF := Lib.hid (fun W x1 x2 x3 x4 => finish_two (w.heap.size + 1) w.heap.size v (partC 4 ⟨#[120]⟩) g cap 10 W x1 x2 x3 x4)
      clear hs ha h1 h1' g1
      go_wp2_with fail
      go_quiet (fail)
      go_wp2_with fail
      refine (HF.out (wr.drewN nq) h2 h3 h4 (by show w.heap.size ≤ wr.heap.size; omega)).mono ?_
      rintro e w9 ⟨⟨A, c, rfl⟩, m9⟩
      go_wp2_with fail
      go_ret
      have hdn : Below w.heap.size wr w9 := (below_drewN (Below.refl w.heap.size wr) nq).trans m9
      refine ⟨⟨A, c, rfl⟩, ?_, fun k hk hne => ?_⟩
      · exact ((q2.mono (Nat.zero_le _)).trans hbt.rel).trans (hdn.mono (Nat.zero_le _))
      · rw [hdn.block k hk, hbt.same k (by omega) (by omega) hne, q2.block k hk]
end Go.Proofs.YtlenmkcafoiefabGreatDoor
