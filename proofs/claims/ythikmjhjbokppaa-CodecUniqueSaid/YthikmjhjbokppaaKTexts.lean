/- The contracts of codec's decoder: texts; of TakeTexts. -/
import Derived.Test.YthikmjhjbokppaaKAwake
namespace Go.Proofs.Ythikmjhjbokppaa
open Go.RowKit
set_option linter.unusedVariables false

/-- What reads so many strings. -/
def loopT : Nat → List UInt8 → List (List UInt8) × Nat × Nat
  | 0, _ => ([], 0, 0)
  | k + 1, l => if (takeS l).2.2 ≠ 0 then ([], 0, (takeS l).2.2) else
    if (loopT k (l.drop (takeS l).2.1)).2.2 ≠ 0 then ([], 0, (loopT k (l.drop (takeS l).2.1)).2.2) else ((takeS l).1 :: (loopT k (l.drop (takeS l).2.1)).1, (takeS l).2.1 + (loopT k (l.drop (takeS l).2.1)).2.1, 0)
/-- What is read, ahead of it what was read before. -/
def comb (acc : List (List UInt8)) (off : Nat) (x : List (List UInt8) × Nat × Nat) : List (List UInt8) × Nat × Nat := if x.2.2 ≠ 0 then ([], 0, x.2.2) else (acc ++ x.1, off + x.2.1, 0)
/-- What reads a list of strings. -/
def takeL (l : List UInt8) : List (List UInt8) × Nat × Nat :=
  if (takeN l).2.2 ≠ 0 then ([], 0, (takeN l).2.2) else if l.length - (takeN l).2.1 < (takeN l).1 then ([], 0, 28) else comb [] (takeN l).2.1 (loopT (takeN l).1 (l.drop (takeN l).2.1))

def strV (s : List UInt8) : Value := .string ⟨s.toArray⟩
/-- A slice of fresh strings. -/
def OwnT (w : World) (B : Nat) (v : Value) (ss : List (List UInt8)) : Prop := w.ownsRow B 9 1 v ss.length (ss.map strV)
theorem ownT_kept {w w' : World} {B D : Nat} {v : Value} {ss : List (List UInt8)} (h : OwnT w B v ss) (hD : D < B) (hk : ∀ k, k ≠ D → k < w.heap.size → w'.heap[k]? = w.heap[k]?) : OwnT w' B v ss := by
  refine ⟨h.1, ?_⟩
  rcases h.2 with h0 | ⟨g, cap, cur, rfl, hg, hh, r⟩
  · exact .inl h0
  · exact .inr ⟨g, cap, cur, rfl, hg, (hk g (by omega) (lt_of_block hh)).trans hh, r⟩
theorem ownT_nil (w : World) (B : Nat) : OwnT w B (.slice none 0 0) [] := ⟨rfl, .inl ⟨rfl, rfl⟩⟩
theorem strInfo : (Try.prog.info? 9).map (fun i => (i.zero, i.size, i.bytes)) = some (some (.string ByteArray.empty), 1, 16) := by kernel_rfl

theorem takeN_i63 (l : List UInt8) : (takeN l).1 ≤ 9223372036854775807 := by
  have := takeI_fits l
  unfold takeN
  split
  · exact Nat.zero_le _
  · split
    · exact Nat.zero_le _
    · show (takeI l).1.toNat ≤ _
      omega
theorem comb_step (acc : List (List UInt8)) (off k : Nat) (l : List UInt8) (h : (takeS l).2.2 = 0) : comb acc off (loopT (k + 1) l) = comb (acc ++ [(takeS l).1]) (off + (takeS l).2.1) (loopT k (l.drop (takeS l).2.1)) := by
  rw [loopT, if_neg (by rw [h]; simp)]
  generalize loopT k (l.drop (takeS l).2.1) = x
  by_cases h1 : x.2.2 = 0
  · simp [comb, h1, Nat.add_assoc]
  · simp [comb, h1]

set_option maxHeartbeats 4000000 in
set_option maxRecDepth 100000 in
theorem texts_c (B D : Nat) (A : Option Addr) (l : List UInt8) (c : Nat) (w : World) (h : DecAt w B D A l c) (hl : l.length ≤ 1000000) (hB : B ≤ w.heap.size) :
    Calls Try.prog 26 #[.pointer (some ⟨D, 0, none⟩)] w fun e w' => BelK B D w w' ∧ ((takeL l).2.2 ≠ 0 ∧ e = .panicked (errP (takeL l).2.2) ∨
      (takeL l).2.2 = 0 ∧ ∃ v, e = .returned v ∧ OwnT w' w.heap.size v (takeL l).1 ∧ ∃ A2 c2, DecAt w' B D A2 (l.drop (takeL l).2.1) c2) := by
  have hL : takeL l = if (takeN l).2.2 ≠ 0 then ([], 0, (takeN l).2.2) else if l.length - (takeN l).2.1 < (takeN l).1 then ([], 0, 28) else comb [] (takeN l).2.1 (loopT (takeN l).1 (l.drop (takeN l).2.1)) := rfl
  have hc := size_c B D A l c w h hl hB
  have hf := takeN_i63 l
  have hu := takeN_fits l
  have hDw : D < w.heap.size := lt_of_block h.cell
  generalize takeN l = T at *
  obtain ⟨tn, tu, te⟩ := T
  simp only at hL hc hf hu
  have Hc := Lib.hid hc
  clear hc h
  by_cases he : te ≠ 0
  · rw [if_pos he] at hL
    rw [hL]
    clear hL
    go_enter Try.func26, Try.ntmps26
    go_wp2_with fail
    refine Hc.out.mono ?_
    rintro e w1 ⟨hb, (⟨h1, rfl⟩ | ⟨h1, rfl, A2, c2, hd⟩)⟩
    · go_wp2_with fail
      exact ⟨rfl, hb, .inl ⟨he, rfl⟩⟩
    · exact absurd h1 he
  have he0 : te = 0 := by omega
  subst he0
  rw [if_neg (by decide)] at hL
  by_cases hsh : l.length - tu < tn
  · rw [if_pos hsh] at hL
    rw [hL]
    clear hL
    have t1 : decide (((l.length - tu : Nat) : Int) < (tn : Int)) = true := decide_eq_true (by omega)
    go_enter Try.func26, Try.ntmps26
    go_wp2_with fail
    refine Hc.out.mono ?_
    rintro e w1 ⟨hb, (⟨h1, rfl⟩ | ⟨h1, rfl, A2, c2, hd⟩)⟩
    · exact absurd rfl h1
    · have c0 : w1.cell? ⟨D, 0, none⟩ = some (.slice A2 (l.length - tu) c2) := by rw [Lib.cell_of_heap hd.cell, List.length_drop]; rfl
      clear hd
      go_wp2_with fail
      exact ⟨rfl, hb, .inl ⟨by decide, rfl⟩⟩
  rw [if_neg hsh] at hL
  have t1 : decide (((l.length - tu : Nat) : Int) < (tn : Int)) = false := decide_eq_false (by omega)
  obtain ⟨i0, hi, hz0, hz1, hz2⟩ := info_parts strInfo
  have HL : Hid (takeL l = comb [] tu (loopT tn (l.drop tu))) := Lib.hid hL
  clear hL
  generalize takeL l = R at *
  obtain ⟨rs, ru, re⟩ := R
  go_enter Try.func26, Try.ntmps26
  go_wp2_with fail
  refine Hc.out.mono ?_
  rintro e w1 ⟨hb, (⟨h1, rfl⟩ | ⟨h1, rfl, A2, c2, hd⟩)⟩
  · exact absurd rfl h1
  have c0 : w1.cell? ⟨D, 0, none⟩ = some (.slice A2 (l.length - tu) c2) := by rw [Lib.cell_of_heap hd.cell, List.length_drop]; rfl
  clear Hc
  have hz1w := hb.bel.size
  go_wp2_with fail
  go_loopw [4, 16] (fun lv iv wr => ∃ (j off : Nat) (acc : List (List UInt8)) (A1 : Option Addr) (c1 : Nat), iv = .int .i64 j ∧ j ≤ tn ∧ acc.length = j ∧ off ≤ l.length ∧ OwnT wr w.heap.size lv acc ∧ DecAt wr B D A1 (l.drop off) c1 ∧ BelK B D w wr ∧ Hid ((rs, ru, re) = comb acc off (loopT (tn - j) (l.drop off)))) (fun _ iv _ => tn - (intOf iv).toNat)
  case atStart => exact ⟨0, tu, [], A2, c2, rfl, by omega, rfl, hu, ownT_nil _ _, hd, hb, HL⟩
  case round =>
    obtain ⟨j, off, acc, A1, c1, rfl, hj, hal, hoff, ho, hd1, hb1, hx⟩ := hrel
    clear hd c0 HL hb
    by_cases hlt : j < tn
    · have d1 : decide ((j : Int) < (tn : Int)) = true := decide_eq_true (by omega)
      have d1' : decide (j < tn) = true := decide_eq_true hlt
      have hwr := hb1.bel.size
      have htx := text_c B D A1 (l.drop off) c1 wr hd1 (by rw [List.length_drop]; omega) (by omega)
      have hx2 := hx.out
      rw [show tn - j = (tn - (j + 1)) + 1 from by omega] at hx2
      have hfit := takeS_fits (l.drop off)
      rw [List.length_drop] at hfit
      by_cases hte : (takeS (l.drop off)).2.2 ≠ 0
      · have hre : (rs, ru, re) = ([], 0, (takeS (l.drop off)).2.2) := by
          rw [hx2, loopT, if_pos hte]
          simp [comb, hte]
        simp only [Prod.mk.injEq] at hre
        obtain ⟨rfl, rfl, rfl⟩ := hre
        have Htx := Lib.hid htx
        clear htx hx hx2
        go_wp2_with fail
        refine Htx.out.mono ?_
        rintro e w2 ⟨hb2, (⟨h1, rfl⟩ | ⟨h1, _⟩)⟩
        · go_wp2_with fail
          exact ⟨rfl, hb1.trans hb2, .inl ⟨hte, rfl⟩⟩
        · exact absurd h1 hte
      · have hte0 : (takeS (l.drop off)).2.2 = 0 := by omega
        rw [comb_step _ _ _ _ hte0, List.drop_drop] at hx2
        have Hx2 := Lib.hid hx2
        have Htx := Lib.hid htx
        clear htx hx hx2 hte
        generalize takeS (l.drop off) = S at *
        obtain ⟨ts, tsu, tse⟩ := S
        simp only at hte0 hfit
        subst hte0
        go_wp2_with fail
        refine Htx.out.mono ?_
        rintro e w2 ⟨hb2, (⟨h1, rfl⟩ | ⟨h1, rfl, A3, c3, hd3⟩)⟩
        · exact absurd rfl h1
        rw [List.drop_drop] at hd3
        have ho2 := ownT_kept ho hDw hb2.kept
        have hz2w := hb2.bel.size
        have ho2a : (w2.alloc (.cells #[strV ts] 9)).ownsRow w.heap.size 9 1 _ acc.length (acc.map strV) := World.ownsRow.alloc ho2 _
        clear Htx
        go_wp2_with (at_builtin; refine wpList_append_own _ rfl _ _ 29 rfl w.heap.size 9 i0 (.string ByteArray.empty) 1 16 Try.underlying29 hi hz0 hz1 hz2 rfl (by decide) _ _ _ rfl ho2a ⟨w2.heap.size, 0, none⟩ 1 1 [strV ts] rfl rfl ?c1 ?c2 ?c3 ?c4 ?c5 ?_)
        case c1 =>
          intro i u hi'
          match i, hi' with
          | 0, hi' => simp at hi'; subst hi'; simp [Addr.add, strV]
        case c2 => intro u hu; simp at hu; subst hu; rfl
        case c3 => unfold maxLen; omega
        case c4 => omega
        case c5 => simp; omega
        intro v' w3 hown' hgrow _
        have hnew : OwnT w3 w.heap.size v' (acc ++ [ts]) := by
          unfold OwnT
          rw [List.map_append, List.length_append, hal]
          exact hown'
        have hkeep : ∀ k, k < w.heap.size → w3.heap[k]? = w2.heap[k]? := fun k hk => by
          rw [hgrow.block k (by simp; omega) (fun e => by have := (ho2a.lt k e.symm).1; omega), Lib.alloc_old _ _ _ (by omega)]
        have hb3 : Below w.heap.size w2 w3 := ((Below.refl _ w2).alloc (by omega) _).grown hgrow (by simp; omega) (fun k hk => (ho2a.lt k hk).1)
        have hb4 : BelK B D w w3 := ⟨(hb1.trans hb2).bel.trans (hb3.mono hB), fun k hk hkl => (hkeep k hkl).trans ((hb1.trans hb2).kept k hk hkl)⟩
        have hd4 : DecAt w3 B D A3 (l.drop (off + tsu)) c3 := ⟨(hkeep D hDw).trans hd3.cell, byAt_below hd3.by_ (hb3.mono hB) (Nat.le_refl _), hd3.cap, hd3.ord⟩
        go_wp2_with fail
        go_roundw
        case rel => exact ⟨j + 1, off + tsu, acc ++ [ts], A3, c3, by go_num, by omega, by simp; omega, by omega, hnew, hd4, hb4, Hx2⟩
        case measure => simp [intOf]; omega
    · have hjn : j = tn := by omega
      have d1 : decide ((j : Int) < (tn : Int)) = false := decide_eq_false (by omega)
      have d1' : decide (j < tn) = false := decide_eq_false hlt
      have hx2 := hx.out
      rw [hjn, Nat.sub_self] at hx2
      simp [loopT, comb] at hx2
      obtain ⟨rfl, rfl, rfl⟩ := hx2
      clear hx hjn
      go_wp2_with fail
      go_ret
      exact ⟨hb1, _, rfl, ho, _, _, hd1⟩
end Go.Proofs.Ythikmjhjbokppaa
