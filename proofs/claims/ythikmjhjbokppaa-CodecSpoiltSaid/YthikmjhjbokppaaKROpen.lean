/- The reference's four, Seal, Open. -/
import Derived.Test.YthikmjhjbokppaaKStep
import Derived.Test.YthikmjhjbokppaaKRPut
import Derived.Test.YthikmjhjbokppaaKRTake
namespace Go.Proofs.Ythikmjhjbokppaa
open Go.RowKit
set_option linter.unusedVariables false

theorem results_tmp4 {fn : Func} {t u v x : Tmp} (h : fn.results = #[.tmp t, .tmp u, .tmp v, .tmp x]) (tmps : Array Value) (P : Program) (w : World) :
    (results fn tmps).run P w = .ok (.tuple #[tmps.getD t undef, tmps.getD u undef, tmps.getD v undef, tmps.getD x undef]) w := by
  simp [results, h, go_sem]
theorem four_c (S : Nat) (w : World) (hS : S < 4294967296) :
    Calls Try.prog 31 #[.int .i64 S] w fun e w' => ∃ v, e = .returned v ∧ Own w' w.heap.size v (fourL S) ∧ Below w.heap.size w w' := by
  go_enter Try.func31, Try.ntmps31
  go_wp2_with fail
  go_ret
  refine ⟨_, rfl, own_lit w w.heap.size (Nat.le_refl _) (fourL S) _ ?_ (by simp [fourL]), (Below.refl _ w).alloc (Nat.le_refl _) _⟩
  have q : ∀ n : Nat, ((n.toUInt8.toNat : Nat) : Int) = (n : Int) % 256 := by intro n; simp
  rw [byteCells_map]
  show _ = [Value.int .u8 ((S / 16777216).toUInt8.toNat : Int), Value.int .u8 ((S / 65536).toUInt8.toNat : Int), Value.int .u8 ((S / 256).toUInt8.toNat : Int), Value.int .u8 (S.toUInt8.toNat : Int)]
  rw [q, q, q, q]
  simp
  all_goals omega

theorem rseal_none (k : Int) (A : Option Addr) (l : List UInt8) (c : Nat) (w : World) (h : k < 0 ∨ 255 < k) :
    Calls Try.prog 16 #[.int .i64 k, .slice A l.length c] w fun e w' => e = .returned (.slice none 0 0) ∧ w = w' := by
  by_cases h1 : k < 0
  · have t1 : decide (k < 0) = true := decide_eq_true h1
    go_enter Try.func16, Try.ntmps16
    go_wp2_with fail
    go_ret
    exact ⟨rfl, rfl⟩
  · have t1 : decide (k < 0) = false := decide_eq_false h1
    have t2 : decide (255 < k) = true := decide_eq_true (by omega)
    go_enter Try.func16, Try.ntmps16
    go_wp2_with fail
    go_ret
    exact ⟨rfl, rfl⟩

set_option maxHeartbeats 2000000 in
theorem rseal_c (B : Nat) (k : Nat) (A : Option Addr) (l : List UInt8) (c : Nat) (w : World) (hk : k ≤ 255) (hA : ByAt w B A l) (hB : B ≤ w.heap.size) (hl : l.length ≤ 100000) :
    Calls Try.prog 16 #[.int .i64 k, .slice A l.length c] w fun e w' => ∃ v, e = .returned v ∧ Own w' w.heap.size v (sealL k.toUInt8 l) ∧ Below w.heap.size w w' := by
  have t1 : decide ((k : Int) < 0) = false := decide_eq_false (by omega)
  have t2 : decide ((255 : Int) < (k : Int)) = false := decide_eq_false (by omega)
  have t2' : decide (255 < k) = false := decide_eq_false (by omega)
  have hw : IntKind.u8.wrap (k : Int) = (k : Int) := IntWalk.u8_in _ (by omega)
  have hlen := encI_len (n := l.length) (by omega) (by omega)
  have hk8 := u8_toNat (show k < 256 by omega)
  go_enter Try.func16, Try.ntmps16
  go_wp2_with fail
  have hlit := own_lit w w.heap.size (Nat.le_refl _) [k.toUInt8] #[.int .u8 k] (by rw [byteCells_map]; show [Value.int .u8 (k : Int)] = [Value.int .u8 (k.toUInt8.toNat : Int)]; rw [hk8]) (by simp)
  have ma : Below w.heap.size w (w.alloc (.cells #[.int .u8 k] 5)) := (Below.refl _ w).alloc (Nat.le_refl _) _
  refine (rputInt_c l.length _ (by omega) (by omega)).mono ?_
  rintro e w1 ⟨v1, rfl, ho1, hb1⟩
  obtain ⟨A1, c1, rfl, by1, _, _⟩ := own_by ho1
  have hlit1 := own_below hlit hb1
  have hb1' := ma.trans (hb1.mono ma.size)
  go_wp2_with (at_builtin; refine wpList_app_by rfl _ _ rfl w.heap.size _ _ rfl hlit1 w1.heap.size A1 (encI l.length) c1 rfl by1 (by simp; omega) hb1'.size ?_)
  intro v2 w2 ho2 hb2
  replace hb2 := hb1'.trans hb2
  have hA2 := byAt_below hA hb2 hB
  go_wp2_with (at_builtin; refine wpList_app_by rfl _ _ rfl w.heap.size _ _ rfl ho2 B A l c rfl hA2 (by simp; omega) hb2.size ?_)
  intro v3 w3 ho3 hb3
  replace hb3 := hb2.trans hb3
  change Own w3 w.heap.size v3 (frameL k.toUInt8 l) at ho3
  have hfl : (frameL k.toUInt8 l).length ≤ 100011 := by simp [frameL]; omega
  obtain ⟨A3, c3, rfl, by3, _, _⟩ := own_by ho3
  have hlt : crcSum (frameL k.toUInt8 l) < 4294967296 := by unfold crcSum; omega
  have Hlt := Lib.hid hlt
  clear hlt
  go_wp2_with fail
  refine (rsum_c w3.heap.size A3 _ c3 _ by3 (by omega)).mono ?_
  rintro e w4 ⟨rfl, rfl⟩
  go_wp2_with fail
  refine (four_c _ _ Hlt.out).mono ?_
  rintro e w5 ⟨v5, rfl, ho5, hb5⟩
  obtain ⟨A5, c5, rfl, by5, _, _⟩ := own_by ho5
  have ho3' := own_below ho3 hb5
  have hb5' := hb3.trans (hb5.mono hb3.size)
  have h4 : (fourL (crcSum (frameL k.toUInt8 l))).length = 4 := rfl
  go_wp2_with (at_builtin; refine wpList_app_by rfl _ _ rfl w.heap.size _ _ rfl ho3' w5.heap.size A5 _ c5 rfl by5 (by omega) hb5'.size ?_)
  intro v6 w6 ho6 hb6
  go_wp2_with fail
  go_ret
  exact ⟨v6, rfl, ho6, hb5'.trans hb6⟩

set_option maxHeartbeats 4000000 in
set_option maxRecDepth 100000 in
theorem ropen_c (A : Option Addr) (l : List UInt8) (c : Nat) (w : World) (hA : ByAt w w.heap.size A l) (hl : l.length ≤ 1000000) (hc : l.length ≤ c) (hm : c ≤ maxLen) :
    Calls Try.prog 19 #[.slice A l.length c] w (OpenPost l w) := by
  have hmx : maxLen = 9223372036854775807 := rfl
  rcases l with _ | ⟨x, r⟩
  · have t1 : ((0 : Int) == 0) = true := rfl
    have hx : openL [] = (0, [], 0, 28) := rfl
    go_enter Try.func19, Try.ntmps19
    go_wp2_with fail
    refine bodyPost_ret (results_tmp4 rfl _ _ _) rfl ?_
    exact openPost_err hx (Below.refl _ _)
  obtain ⟨b, off, rfl, hbl, hcl⟩ : ∃ b off, A = some ⟨b, off, none⟩ ∧ b < w.heap.size ∧ ∀ k (h : k < (x :: r).length), w.cell? ⟨b, off + k, none⟩ = some (.int .u8 ((x :: r)[k]'h).toNat) := by
    rcases hA with h | h
    · simp at h
    · exact h
  have hx0 : w.cell? ⟨b, off, none⟩ = some (.int .u8 x.toNat) := hcl 0 (by simp)
  clear hcl
  have hrl : r.length + 1 ≤ 1000000 := by simpa using hl
  have hrc : r.length + 1 ≤ c := by simpa using hc
  have t1 : ((r.length : Int) + 1 == 0) = false := by rw [beq_eq_false_iff_ne]; omega
  by_cases hc1 : c = 1
  · have : r = [] := List.length_eq_zero_iff.1 (by omega)
    subst this
    subst hc1
    have hti := rtakeInt_c w.heap.size (some ⟨b, off, none⟩) [] 0 w (.inl rfl) (by simp)
    rw [show takeI [] = (0, 0, 28) from rfl] at hti
    have Hti := Lib.hid hti
    clear hti
    have hx : openL [x] = (0, [], 0, 28) := rfl
    go_enter Try.func19, Try.ntmps19
    go_wp2_with fail
    refine Hti.out.mono ?_
    rintro e w1 ⟨rfl, rfl⟩
    go_wp2_with fail
    refine bodyPost_ret (results_tmp4 rfl _ _ _) rfl ?_
    exact openPost_err hx (Below.refl _ _)
  have hA1 : ByAt w w.heap.size (some ⟨b, off + 1, none⟩) r := by
    have := byAt_drop hA 1
    simpa [Addr.add] using this
  have hti := rtakeInt_c w.heap.size (some ⟨b, off + 1, none⟩) r (c - 1) w hA1 (by omega)
  have hfit := takeI_fits r
  have hOp : openL (x :: r) = if (takeN r).2.2 ≠ 0 then (0, [], 0, (takeN r).2.2) else
    if r.length - (takeN r).2.1 < (takeN r).1 then (0, [], 0, 28) else
    if r.length - (takeN r).2.1 - (takeN r).1 < 4 then (0, [], 0, 28) else
    if ((r.drop ((takeN r).2.1 + (takeN r).1)).take 4 == fourL (crcSum ((x :: r).take (1 + (takeN r).2.1 + (takeN r).1)))) = false then (0, [], 0, 29) else
    (x.toNat, (r.drop (takeN r).2.1).take (takeN r).1, 1 + (takeN r).2.1 + (takeN r).1 + 4, 0) := rfl
  have hN : takeN r = if (takeI r).2.2 ≠ 0 then (0, 0, (takeI r).2.2) else if (takeI r).1 < 0 then (0, 0, 6) else ((takeI r).1.toNat, (takeI r).2.1, 0) := rfl
  generalize takeN r = N at *
  generalize takeI r = T at *
  obtain ⟨tn, u, te⟩ := T
  simp only at hN hti hfit
  have Hti := Lib.hid hti
  have HOp := Lib.hid hOp
  clear hti hOp
  by_cases he : te ≠ 0
  · rw [if_pos he] at hN
    subst hN
    have hx : openL (x :: r) = (0, [], 0, te) := by rw [HOp.out, if_pos he]
    have t2 : ((te : Int) != 0) = true := by rw [bne_iff_ne]; omega
    go_enter Try.func19, Try.ntmps19
    go_wp2_with fail
    refine Hti.out.mono ?_
    rintro e w1 ⟨rfl, rfl⟩
    clear HOp Hti
    go_wp2_with fail
    refine bodyPost_ret (results_tmp4 rfl _ _ _) rfl ?_
    exact openPost_err hx (Below.refl _ _)
  have he0 : te = 0 := by omega
  subst he0
  rw [if_neg he] at hN
  by_cases hneg : tn < 0
  · rw [if_pos hneg] at hN
    subst hN
    have hx : openL (x :: r) = (0, [], 0, 6) := by rw [HOp.out, if_pos (by simp)]
    have t3 : decide (tn < 0) = true := decide_eq_true hneg
    go_enter Try.func19, Try.ntmps19
    go_wp2_with fail
    refine Hti.out.mono ?_
    rintro e w1 ⟨rfl, rfl⟩
    clear HOp Hti
    go_wp2_with fail
    refine bodyPost_ret (results_tmp4 rfl _ _ _) rfl ?_
    exact openPost_err hx (Below.refl _ _)
  rw [if_neg hneg] at hN
  obtain ⟨n, rfl⟩ := Int.eq_ofNat_of_zero_le (show 0 ≤ tn by omega)
  rw [Int.toNat_natCast] at hN
  subst hN
  have t3 : decide ((n : Int) < 0) = false := decide_eq_false (by omega)
  by_cases hsh : r.length - u < 4 ∨ r.length - u - 4 < n
  · have hx : openL (x :: r) = (0, [], 0, 28) := by
      rw [HOp.out, if_neg (by simp)]
      by_cases h1 : r.length - u < n
      · rw [if_pos h1]
      · rw [if_neg h1, if_pos (by simp only; omega)]
    by_cases h1 : r.length - u < 4
    · have t4 : decide ((r.length : Int) + 1 - (1 + (u : Int)) < 4) = true := decide_eq_true (by omega)
      clear hsh
      go_enter Try.func19, Try.ntmps19
      go_wp2_with fail
      refine Hti.out.mono ?_
      rintro e w1 ⟨rfl, rfl⟩
      clear HOp Hti
      go_wp2_with fail
      refine bodyPost_ret (results_tmp4 rfl _ _ _) rfl ?_
      exact openPost_err hx (Below.refl _ _)
    · have t4 : decide ((r.length : Int) + 1 - (1 + (u : Int)) < 4) = false := decide_eq_false (by omega)
      have t5 : decide ((r.length : Int) + 1 - (1 + (u : Int)) - 4 < (n : Int)) = true := decide_eq_true (by omega)
      clear hsh
      go_enter Try.func19, Try.ntmps19
      go_wp2_with fail
      refine Hti.out.mono ?_
      rintro e w1 ⟨rfl, rfl⟩
      clear HOp Hti
      go_wp2_with fail
      refine bodyPost_ret (results_tmp4 rfl _ _ _) rfl ?_
      exact openPost_err hx (Below.refl _ _)
  have t4 : decide ((r.length : Int) + 1 - (1 + (u : Int)) < 4) = false := decide_eq_false (by omega)
  have t5 : decide ((r.length : Int) + 1 - (1 + (u : Int)) - 4 < (n : Int)) = false := decide_eq_false (by omega)
  go_enter Try.func19, Try.ntmps19
  go_wp2_with fail
  refine Hti.out.mono ?_
  rintro e w1 ⟨rfl, rfl⟩
  clear Hti
  go_wp2_with fail
  have hlen4 : ((r.drop (u + n)).take 4).length = 4 := by rw [List.length_take, List.length_drop]; omega
  have hlenS : ((x :: r).take (1 + u + n)).length = 1 + u + n := by rw [List.length_take, List.length_cons]; omega
  have hlenN : ((r.drop u).take n).length = n := by rw [List.length_take, List.length_drop]; omega
  have hS : ∀ W, Below w.heap.size w W → Calls Try.prog 18 #[.slice (some ⟨b, off, none⟩) (1 + u + n) c] W fun e w' => e = .returned (.int .i64 (crcSum ((x :: r).take (1 + u + n)))) ∧ W = w' := by
    intro W hW
    have := rsum_c w.heap.size (some ⟨b, off, none⟩) ((x :: r).take (1 + u + n)) c W (byAt_take (byAt_below hA hW (Nat.le_refl _)) _) (by rw [hlenS]; omega)
    rw [hlenS] at this
    exact this
  have hx := HOp.out
  rw [if_neg (by simp), if_neg (by omega), if_neg (by omega)] at hx
  have hlt : crcSum ((x :: r).take (1 + u + n)) < 4294967296 := by unfold crcSum; omega
  generalize crcSum ((x :: r).take (1 + u + n)) = S at *
  have hF : ∀ W, Below w.heap.size w W → Calls Try.prog 31 #[.int .i64 S] W fun e w' => ∃ A5 c5, e = .returned (.slice A5 4 c5) ∧ ByAt w' w'.heap.size A5 (fourL S) ∧ Below w.heap.size w w' := by
    intro W hW
    refine (four_c S W hlt).mono ?_
    rintro e w' ⟨v, rfl, o, m⟩
    obtain ⟨A5, c5, rfl, b5, _, _⟩ := own_by o
    exact ⟨A5, c5, rfl, b5, hW.trans (m.mono hW.size)⟩
  have hA4 : ∀ W, Below w.heap.size w W → ByAt W w.heap.size (some ⟨b, off + (1 + u + n), none⟩) ((r.drop (u + n)).take 4) := by
    intro W hW
    have := byAt_take (byAt_drop (byAt_below hA hW (Nat.le_refl _)) (1 + u + n)) 4
    rw [show (x :: r).drop (1 + u + n) = r.drop (u + n) from by rw [show 1 + u + n = (u + n) + 1 from by omega]; rfl] at this
    simpa [Addr.add] using this
  have hE : ∀ W A5 c5, Below w.heap.size w W → ByAt W W.heap.size A5 (fourL S) → Calls Try.prog 11 #[.slice A5 4 c5, .slice (some ⟨b, off + (1 + u + n), none⟩) 4 (c - (1 + u + n))] W fun e w' => e = .returned (.bool ((r.drop (u + n)).take 4 == fourL S)) ∧ W = w' := by
    intro W A5 c5 hW h5
    have := sameBytes_c _ _ A5 (some ⟨b, off + (1 + u + n), none⟩) (fourL S) ((r.drop (u + n)).take 4) c5 (c - (1 + u + n)) W h5 (hA4 W hW)
    rw [hlen4, BEq.comm] at this
    exact this
  generalize ((r.drop (u + n)).take 4 == fourL S) = Q at *
  have HS := Lib.hid hS
  have HF := Lib.hid hF
  have HE := Lib.hid hE
  have Hx := Lib.hid hx
  clear hS hF hE hx HOp hA4 hlen4 hlenS
  have q1 : IntKind.i64.wrap (1 + (u : Int) + (n : Int)) = 1 + (u : Int) + (n : Int) := IntWalk.i64_in _ (by omega)
  have q2 : IntKind.i64.wrap (1 + (u : Int) + (n : Int) + 4) = 1 + (u : Int) + (n : Int) + 4 := IntWalk.i64_in _ (by omega)
  have q3 : (0 : Int) ≤ 1 + (u : Int) + (n : Int) := by omega
  have q4 : (1 + (u : Int) + (n : Int)).toNat = 1 + u + n := by omega
  have q5 : (1 + (u : Int) + (n : Int) + 4).toNat = 1 + u + n + 4 := by omega
  have q6 : 1 + (u : Int) + (n : Int) ≤ (c : Int) := by omega
  have q7 : 1 + (u : Int) + (n : Int) + 4 ≤ (c : Int) := by omega
  have q8 : 1 + (u : Int) + (n : Int) ≤ 1 + (u : Int) + (n : Int) + 4 := by omega
  have q9 : ¬ (1 + u + n = c) := by omega
  have q10 : 1 + u + n + 4 - (1 + u + n) = 4 := by omega
  go_region_held3 (fun w' => Below w.heap.size w w') (first | go_keep | assumption | exact Below.refl _ _ | exact (Below.refl _ _).drew)
    ((first
      | (go_at_call 18; refine (HS.out _ (by first | assumption | exact (Below.refl _ _).drew | exact Below.refl _ _)).mono ?_; rintro e w7 ⟨rfl, rfl⟩)
      | (go_at_call 31; refine (HF.out _ (by first | assumption | exact (Below.refl _ _).drew | exact Below.refl _ _)).mono ?_; rintro e w5 ⟨A5, c5, rfl, b5, m5⟩)
      | (go_at_call 11; refine (HE.out _ _ _ (by assumption) (by assumption)).mono ?_; rintro e w8 ⟨rfl, rfl⟩)))
  clear HS HF HE b5
  rcases Q with _ | _
  · have hx := Hx.out
    rw [if_pos rfl] at hx
    clear Hx q1 q2 q3 q4 q5 q6 q7 q8 q9 q10
    go_wp2_with fail
    refine bodyPost_ret (results_tmp4 rfl _ _ _) rfl ?_
    exact openPost_err hx m5
  have hx := Hx.out
  rw [if_neg (by simp)] at hx
  have Hx2 := Lib.hid hx
  have hbc : ∀ W, Below w.heap.size w W → ByAt W w.heap.size (some ⟨b, off + (1 + u), none⟩) ((r.drop u).take n) := by
    intro W hW
    have := byAt_take (byAt_drop (byAt_below hA hW (Nat.le_refl _)) (1 + u)) n
    rw [show (x :: r).drop (1 + u) = r.drop u from by rw [show 1 + u = u + 1 from by omega]; rfl] at this
    simpa [Addr.add] using this
  have Hbc := Lib.hid hbc
  have cx := (m5.cell (p := ⟨b, off, none⟩) hbl).trans hx0
  have r1 : (0 : Int) ≤ 1 + (u : Int) := by omega
  have r2 : (1 + (u : Int)).toNat = 1 + u := by omega
  have r3 : 1 + (u : Int) ≤ 1 + (u : Int) + (n : Int) := by omega
  have r4 : ¬ (c = 1 + u) := by omega
  have r5 : 1 + u + n - (1 + u) = n := by omega
  have r6 : IntKind.i64.wrap (x.toNat : Int) = (x.toNat : Int) := IntWalk.i64_in _ (by have := UInt8.toNat_lt x; omega)
  have r7 : 0 < r.length + 1 := by omega
  clear hx Hx hbc hA
  go_wp2_with fail
  go_region_held3 (fun w' => w'.cell? ⟨b, off, none⟩ = some (.int .u8 x.toNat) ∧ Below w.heap.size w w')
    (first
      | (exact ⟨by assumption, by first | assumption | exact m5.drew | exact (m5.drew).alloc m5.size _⟩)
      | (exact ⟨((((m5.drew).alloc m5.size _).trans m6).cell (p := ⟨b, off, none⟩) hbl).trans hx0, ((m5.drew).alloc m5.size _).trans m6⟩)
      | (exact ⟨by go_keep, by first | assumption | exact m5.drew | exact (m5.drew).alloc m5.size _⟩))
    ((refine step_app_by (by rfl) _ _ (by rfl) w.heap.size (.slice (some ⟨w5.heap.size, 0, none⟩) 0 0) [] (by rfl) (own_lit w5.drew w.heap.size m5.drew.size [] #[] rfl (by simp)) w.heap.size (some ⟨b, off + (1 + u), none⟩) ((r.drop u).take n) n (c - (1 + u)) hlenN.symm (by rfl) (Hbc.out _ ((m5.drew).alloc m5.size _)) (by rw [hlenN]; simp; omega) ((m5.drew).alloc m5.size _).size ?_; intro v6 w6 o6 m6))
  have M6 := ((m5.drew).alloc m5.size _).trans m6
  rw [List.nil_append] at o6
  clear Hbc q1 q2 q3 q4 q5 q6 q7 q8 q9 q10 r1 r2 r3 r4 r5 r6 r7 m6 m5 cx hx0
  go_wp2_with fail
  refine bodyPost_ret (results_tmp4 rfl _ _ _) rfl ?_
  unfold OpenPost
  rw [Hx2.out]
  exact ⟨v6, by simp, o6, M6⟩
end Go.Proofs.Ythikmjhjbokppaa
