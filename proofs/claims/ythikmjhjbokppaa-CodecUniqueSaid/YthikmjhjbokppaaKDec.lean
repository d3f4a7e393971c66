/- The contracts of codec's decoder: take, number, size, text. -/
import Derived.Test.YthikmjhjbokppaaKApp
import Derived.WalkSmall
namespace Go.Proofs.Ythikmjhjbokppaa
open Go.RowKit
set_option linter.unusedVariables false

/-- The panic with an error's number. -/
def errP (e : Nat) : List PanicEntry := [{ v := .iface 24 (.int .i64 e), recovered := false }]

/-- The bytes that a slice shows, in blocks below B. -/
def ByAt (w : World) (B : Nat) (A : Option Addr) (l : List UInt8) : Prop := l = [] ∨ ∃ b off, A = some ⟨b, off, none⟩ ∧ b < B ∧ ∀ k (h : k < l.length), w.cell? ⟨b, off + k, none⟩ = some (.int .u8 (l[k]'h).toNat)
/-- A decoder in block D, whose rest is l. -/
structure DecAt (w : World) (B D : Nat) (A : Option Addr) (l : List UInt8) (c : Nat) : Prop where
  cell : w.heap[D]? = some (.cells #[.slice A l.length c] 51 (0, 0))
  by_ : ByAt w B A l
  cap : l.length ≤ c ∧ c ≤ maxLen
  ord : B ≤ D

/-- The blocks below B are as they were, and of those that were there all but D. -/
structure BelK (B D : Nat) (w w' : World) : Prop where
  bel : Below B w w'
  kept : ∀ k, k ≠ D → k < w.heap.size → w'.heap[k]? = w.heap[k]?
theorem BelK.refl (B D : Nat) (w : World) : BelK B D w w := ⟨Below.refl _ _, fun _ _ _ => rfl⟩
theorem BelK.trans {B D : Nat} {a b c : World} (h : BelK B D a b) (k : BelK B D b c) : BelK B D a c :=
  ⟨h.bel.trans k.bel, fun i hi hl => (k.kept i hi (by have := h.bel.size; omega)).trans (h.kept i hi hl)⟩
theorem BelK.set {B D : Nat} {w : World} (h : B ≤ D) (v : Value) : BelK B D w (w.setCell ⟨D, 0, none⟩ v) :=
  ⟨(Below.refl B w).setCell (p := ⟨D, 0, none⟩) h v, fun k hk _ => Below.heap_setCell _ _ _ _ (by simpa using hk)⟩

theorem byAt_take {w : World} {B : Nat} {A : Option Addr} {l : List UInt8} (h : ByAt w B A l) (k : Nat) : ByAt w B A (l.take k) := by
  rcases h with rfl | ⟨b, off, rfl, hb, hc⟩
  · exact .inl (by simp)
  · refine .inr ⟨b, off, rfl, hb, fun j hj => ?_⟩
    rw [List.getElem_take]
    exact hc j (by rw [List.length_take] at hj; omega)
theorem byAt_drop {w : World} {B : Nat} {A : Option Addr} {l : List UInt8} (h : ByAt w B A l) (k : Nat) : ByAt w B (A.map (·.add k)) (l.drop k) := by
  rcases h with rfl | ⟨b, off, rfl, hb, hc⟩
  · exact .inl (by simp)
  · refine .inr ⟨b, off + k, by simp [Addr.add], hb, fun j hj => ?_⟩
    rw [List.getElem_drop, Nat.add_assoc]
    exact hc (k + j) (by rw [List.length_drop] at hj; omega)
theorem byAt_below {w w' : World} {B B' : Nat} {A : Option Addr} {l : List UInt8} (h : ByAt w B A l) (hb : Below B' w w') (hB : B ≤ B') : ByAt w' B A l := by
  rcases h with rfl | ⟨b, off, rfl, hlt, hc⟩
  · exact .inl rfl
  · exact .inr ⟨b, off, rfl, hlt, fun j hj => (hb.cell (p := ⟨b, off + j, none⟩) (by show b < B'; omega)).trans (hc j hj)⟩
theorem byAt_set {w : World} {B D : Nat} {A : Option Addr} {l : List UInt8} {v : Value} (h : ByAt w B A l) (hD : B ≤ D) : ByAt (w.setCell ⟨D, 0, none⟩ v) B A l :=
  byAt_below h ((Below.refl B w).setCell (p := ⟨D, 0, none⟩) hD v) (Nat.le_refl _)
theorem decAt_set {w : World} {B D c : Nat} {A A' : Option Addr} {l l' : List UInt8} {c' : Nat} (h : DecAt w B D A l c) (hb : ByAt w B A' l') (hc : l'.length ≤ c' ∧ c' ≤ maxLen) : DecAt (w.setCell ⟨D, 0, none⟩ (.slice A' l'.length c')) B D A' l' c' :=
  ⟨one_setCell h.cell, byAt_set hb h.ord, hc, h.ord⟩

set_option maxHeartbeats 1000000 in
theorem take_c (B D k : Nat) (A : Option Addr) (l : List UInt8) (c : Nat) (w : World) (h : DecAt w B D A l c) (hk : k ≤ 9223372036854775807) :
    Calls Try.prog 33 #[.pointer (some ⟨D, 0, none⟩), .int .i64 k] w fun e w' => (l.length < k ∧ e = .panicked (errP 28) ∧ w' = w) ∨
      (k ≤ l.length ∧ e = .returned (.slice A k c) ∧ ByAt w' B A (l.take k) ∧ BelK B D w w' ∧ ∃ A2, DecAt w' B D A2 (l.drop k) (c - k)) := by
  have h' := h
  obtain ⟨hc, hb, ⟨hc1, hc2⟩, ho⟩ := h'
  have c0 : w.cell? ⟨D, 0, none⟩ = some (.slice A l.length c) := by simp [World.cell?, hc]
  have f0 : w.frozen? ⟨D, 0, none⟩ = false := Lib.frozen_of_heap hc 0
  have hm : maxLen = 9223372036854775807 := rfl
  by_cases hlt : l.length < k
  · have t1 : decide ((l.length : Int) < (k : Int)) = true := decide_eq_true (by omega)
    go_enter Try.func33, Try.ntmps33
    go_wp2_with fail
    exact ⟨rfl, .inl ⟨hlt, rfl, rfl⟩⟩
  · have t1 : decide ((l.length : Int) < (k : Int)) = false := decide_eq_false (by omega)
    have hk1 : k ≤ l.length := by omega
    by_cases hkc : k = c
    · subst hkc
      have hd : l.drop k = [] := List.drop_of_length_le (by omega)
      have hn := decAt_set h (A' := A) (l' := l.drop k) (c' := 0) (.inl hd) ⟨by rw [hd]; simp, by omega⟩
      rw [List.length_drop] at hn
      have hbt := byAt_take hb k
      clear hd hb
      go_enter Try.func33, Try.ntmps33
      go_wp2_with fail
      go_ret
      exact .inr ⟨hk1, rfl, byAt_set hbt ho, BelK.set ho _, A, by rw [show l.length - k = 0 from by omega] at hn; rw [Nat.sub_self]; exact hn⟩
    · have hn := decAt_set h (byAt_drop hb k) (c' := c - k) ⟨by rw [List.length_drop]; omega, by omega⟩
      rw [List.length_drop] at hn
      have hbt := byAt_take hb k
      go_enter Try.func33, Try.ntmps33
      go_wp2_with fail
      go_ret
      exact .inr ⟨hk1, rfl, byAt_set hbt ho, BelK.set ho _, _, hn⟩

theorem u8_and127 : ∀ a, a < 256 → a &&& 127 = a % 128 := fun a _ => Nat.and_two_pow_sub_one_eq_mod a 7
theorem or_shl (z x i : Nat) (hz : z < 2 ^ (7 * i)) : z ||| (x * 2 ^ (7 * i)) = z + x * 2 ^ (7 * i) := by
  rw [Nat.or_comm, Nat.add_comm, ← Nat.shiftLeft_eq, Nat.shiftLeft_add_eq_or_of_lt hz]
theorem u8_andNot128 (c : UInt8) : bits .andNot .u8 (c.toNat : Int) 128 = ((c.toNat % 128 : Nat) : Int) := by
  have h := u8_andNot_nat c.toNat 128 (UInt8.toNat_lt c) (by decide)
  rw [show 255 - 128 = 127 from rfl, u8_and127 _ (UInt8.toNat_lt c)] at h
  exact h

set_option maxHeartbeats 4000000 in
set_option maxRecDepth 100000 in
theorem number_c (B D : Nat) (A : Option Addr) (l : List UInt8) (c : Nat) (w : World) (h : DecAt w B D A l c) (hl : l.length ≤ 1000000) (hB : B ≤ w.heap.size) :
    Calls Try.prog 22 #[.pointer (some ⟨D, 0, none⟩)] w fun e w' => BelK B D w w' ∧ ((takeI l).2.2 ≠ 0 ∧ e = .panicked (errP (takeI l).2.2) ∨
      (takeI l).2.2 = 0 ∧ e = .returned (.int .i64 (takeI l).1) ∧ ∃ A2 c2, DecAt w' B D A2 (l.drop (takeI l).2.1) c2) := by
  have HT : Hid (takeI l = tk 0 0 l) := Lib.hid rfl
  generalize hT : takeI l = T at *
  clear hT
  obtain ⟨tn, tu, te⟩ := T
  go_enter Try.func22, Try.ntmps22
  go_wp2_with fail
  go_loopw [3, 4] (fun zv iv wr => ∃ (z i : Nat) (A1 : Option Addr) (c1 : Nat), zv = .int .u64 z ∧ iv = .int .i64 i ∧ i ≤ 9 ∧ z < 2 ^ (7 * i) ∧ DecAt wr B D A1 (l.drop i) c1 ∧ Hid ((tn, tu, te) = tk i z (l.drop i)) ∧ BelK B D w wr) (fun _ iv _ => 10 - (intOf iv).toNat)
  case atStart => exact ⟨0, 0, A, c, rfl, rfl, by omega, by simp, h, HT, BelK.refl _ _ _⟩
  case round =>
    obtain ⟨z, i, A1, c1, rfl, rfl, hi, hz, hd, ht, hb⟩ := hrel
    go_wp2_with fail
    refine (take_c B D 1 A1 (l.drop i) c1 _ hd (by omega)).mono ?_
    rintro e w1 (⟨h1, rfl, rfl⟩ | ⟨h1, rfl, hby, hb1, A2, hd2⟩)
    · have hn : l.drop i = [] := List.length_eq_zero_iff.1 (by omega)
      have ht2 := ht.out
      rw [hn, tk_nil] at ht2
      simp only [Prod.mk.injEq] at ht2
      obtain ⟨rfl, rfl, rfl⟩ := ht2
      go_wp2_with fail
      exact ⟨rfl, hb, .inl ⟨by decide, rfl⟩⟩
    · obtain ⟨x, r, hr⟩ : ∃ x r, l.drop i = x :: r := List.exists_cons_of_length_pos (by omega)
      have hr1 : l.drop (i + 1) = r := by rw [← List.tail_drop, hr]; rfl
      have ht2 := ht.out
      rw [hr, tk_cons] at ht2
      rw [hr] at hby
      rw [List.drop_drop] at hd2
      obtain ⟨b0, off0, rfl, _, hcell⟩ : ∃ b off, A1 = some ⟨b, off, none⟩ ∧ b < B ∧ w1.cell? ⟨b, off, none⟩ = some (.int .u8 x.toNat) := by
        rcases hby with h0 | ⟨b, off, rfl, h1, h2⟩
        · simp at h0
        · exact ⟨b, off, rfl, h1, h2 0 (by simp)⟩
      have hb2 := hb.trans hb1
      have hx := UInt8.toNat_lt x
      have hx0 : x = 0 ↔ x.toNat = 0 := ⟨fun h => by rw [h]; rfl, fun h => u8_ext h⟩
      have hx1 : x = 1 ↔ x.toNat = 1 := ⟨fun h => by rw [h]; rfl, fun h => u8_ext h⟩
      clear h ht hr hby hd hb hb1 HT h1
      by_cases hbad : (i = 9 ∧ x ≠ 1) ∨ (0 < i ∧ x = 0)
      · rw [if_pos hbad] at ht2
        simp only [Prod.mk.injEq] at ht2
        obtain ⟨rfl, rfl, rfl⟩ := ht2
        have hpan : (decide (6 ≠ 0) = true) := rfl
        by_cases h9 : i = 9 ∧ x ≠ 1
        · have t2 : ((x.toNat : Int) != 1) = true := by rw [bne_iff_ne]; have := h9.2; rw [ne_eq, hx1] at this; omega
          have t2' : (x.toNat != 1) = true := by rw [bne_iff_ne]; have := h9.2; rw [ne_eq, hx1] at this; omega
          obtain ⟨rfl, _⟩ := h9
          clear hbad hx0 hx1
          go_wp2_with fail
          exact ⟨rfl, hb2, .inl ⟨by decide, rfl⟩⟩
        · have hb3 : 0 < i ∧ x = 0 := by
            rcases hbad with h | h
            · exact absurd h h9
            · exact h
          have t1 : ((i : Int) == 9) = false := by rw [beq_eq_false_iff_ne]; intro e; exact h9 ⟨by omega, by rw [hb3.2]; decide⟩
          have t3 : decide ((0 : Int) < (i : Int)) = true := decide_eq_true (by omega)
          have t4 : ((x.toNat : Int) == 0) = true := by rw [beq_iff_eq]; have := hx0.1 hb3.2; omega
          have t1' : (i == 9) = false := by rw [beq_eq_false_iff_ne]; intro e; exact h9 ⟨by omega, by rw [hb3.2]; decide⟩
          have t3' : decide (0 < i) = true := decide_eq_true (by omega)
          have t4' : (x.toNat == 0) = true := by rw [beq_iff_eq]; have := hx0.1 hb3.2; omega
          clear hbad hx0 hx1 h9 hb3
          go_wp2_with fail
          exact ⟨rfl, hb2, .inl ⟨by decide, rfl⟩⟩
      · rw [if_neg hbad] at ht2
        have hs1 : (((i : Int) == 9) = false) ∨ (((i : Int) == 9) = true ∧ ((x.toNat : Int) != 1) = false) := by
          by_cases h9 : i = 9
          · right
            refine ⟨by rw [beq_iff_eq]; omega, ?_⟩
            rw [bne_eq_false_iff_eq]
            by_cases h : x = 1
            · have := hx1.1 h; omega
            · exact absurd (.inl ⟨h9, h⟩) hbad
          · left; rw [beq_eq_false_iff_ne]; omega
        have hs2 : (decide ((0 : Int) < (i : Int)) = false ∧ decide (0 < i) = false) ∨ ((decide ((0 : Int) < (i : Int)) = true ∧ decide (0 < i) = true) ∧ ((x.toNat : Int) == 0) = false) := by
          by_cases h0 : 0 < i
          · right
            refine ⟨⟨decide_eq_true (by omega), decide_eq_true h0⟩, ?_⟩
            rw [beq_eq_false_iff_ne]
            intro h
            exact hbad (.inr ⟨h0, hx0.2 (by omega)⟩)
          · left; exact ⟨decide_eq_false (by omega), decide_eq_false h0⟩
        have han := u8_andNot128 x
        have hfit : z + x.toNat % 128 * 2 ^ (7 * i) < 18446744073709551616 := by
          by_cases h9 : i = 9
          · subst h9
            have h1 : x.toNat = 1 := by
              by_cases h : x = 1
              · exact hx1.1 h
              · exact absurd (.inl ⟨rfl, h⟩) hbad
            rw [h1]
            have e1 : (2 : Nat) ^ (7 * 9) = 9223372036854775808 := rfl
            rw [e1] at hz ⊢
            omega
          · have h1 : z + x.toNat % 128 * 2 ^ (7 * i) < 2 ^ (7 * (i + 1)) := by
              rw [pow7]
              have : x.toNat % 128 * 2 ^ (7 * i) ≤ 127 * 2 ^ (7 * i) := Nat.mul_le_mul_right _ (by omega)
              omega
            have h2 : (2 : Nat) ^ (7 * (i + 1)) ≤ 2 ^ 63 := Nat.pow_le_pow_right (by omega) (by omega)
            have h3 : (2 : Nat) ^ 63 = 9223372036854775808 := rfl
            omega
        have hbad' : x.toNat = 0 → i = 0 := fun h => by
          rcases Nat.eq_zero_or_pos i with h' | h'
          · exact h'
          · exact absurd (.inr ⟨h', hx0.2 h⟩) hbad
        clear hbad hx0 hx1
        have hor : bits .or .u64 (z : Int) (IntKind.u64.wrap ((x.toNat : Int) % 128 * 2 ^ (7 * i))) = ((z + x.toNat % 128 * 2 ^ (7 * i) : Nat) : Int) := by
          have e1 : (x.toNat : Int) % 128 * 2 ^ (7 * i) = ((x.toNat % 128 * 2 ^ (7 * i) : Nat) : Int) := by simp
          rw [e1, IntWalk.u64_in _ (by omega), u64_or_nat _ _ (by omega) (by omega), or_shl _ _ _ hz]
        have Hor := Lib.hid hor
        clear hor
        by_cases hsm : x.toNat < 128
        · rw [if_pos hsm] at ht2
          simp only [Prod.mk.injEq] at ht2
          obtain ⟨rfl, rfl, rfl⟩ := ht2
          have t5 : decide (x.toNat < 128) = true := decide_eq_true hsm
          have t6 : decide ((x.toNat : Int) < 128) = true := decide_eq_true (by omega)
          rcases hs1 with hs1 | ⟨hs1, hs1'⟩ <;> rcases hs2 with ⟨hs2, hs3⟩ | ⟨⟨hs2, hs3⟩, hs2'⟩
          all_goals
            go_wp2_with fail
            rw [Hor.out]
            refine (unzigzag_c _ _ hfit).mono ?_
            rintro e w2 ⟨rfl, rfl⟩
            go_wp2_with fail
            go_ret
            first | exact ⟨hb2, rfl, _, _, hd2⟩ | exact ⟨hb2, rfl, _, _, hr1 ▸ hd2⟩
        · rw [if_neg hsm] at ht2
          have t5 : decide (x.toNat < 128) = false := decide_eq_false hsm
          have t6 : decide ((x.toNat : Int) < 128) = false := decide_eq_false (by omega)
          have hi8 : i + 1 ≤ 9 := by
            by_cases h9 : i = 9
            · subst h9
              exfalso
              rcases hs1 with h | ⟨_, h⟩
              · exact absurd h (by decide)
              · rw [bne_eq_false_iff_eq] at h; omega
            · omega
          have hz2 : z + x.toNat % 128 * 2 ^ (7 * i) < 2 ^ (7 * (i + 1)) := by
            rw [pow7]
            have : x.toNat % 128 * 2 ^ (7 * i) ≤ 127 * 2 ^ (7 * i) := Nat.mul_le_mul_right _ (by omega)
            omega
          rw [← hr1] at ht2
          have Ht2 := Lib.hid ht2
          clear ht2
          rcases hs1 with hs1 | ⟨hs1, hs1'⟩ <;> rcases hs2 with ⟨hs2, hs3⟩ | ⟨⟨hs2, hs3⟩, hs2'⟩
          all_goals
            go_wp2_with fail
            all_goals go_roundw
            all_goals first | exact ⟨_, i + 1, _, _, by rw [Hor.out], by go_num, hi8, hz2, hd2, Ht2, hb2⟩ | (simp [intOf]; omega)
end Go.Proofs.Ythikmjhjbokppaa
