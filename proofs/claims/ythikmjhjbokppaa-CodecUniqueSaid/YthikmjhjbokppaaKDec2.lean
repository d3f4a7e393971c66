/- The contracts of codec's decoder: size, text; of appendText, PutInt, PutText. -/
import Derived.Test.YthikmjhjbokppaaKDec
import Derived.Recover
import Derived.Laws.IdiomStrings
namespace Go.Proofs.Ythikmjhjbokppaa
open Go.RowKit
set_option linter.unusedVariables false

/-- What reads a length: the length, how many bytes, the error's number. -/
def takeN (l : List UInt8) : Nat × Nat × Nat := if (takeI l).2.2 ≠ 0 then (0, 0, (takeI l).2.2) else if (takeI l).1 < 0 then (0, 0, 6) else ((takeI l).1.toNat, (takeI l).2.1, 0)
/-- What reads a string: its bytes, how many bytes it takes, the error's number. -/
def takeS (l : List UInt8) : List UInt8 × Nat × Nat :=
  if (takeN l).2.2 ≠ 0 then ([], 0, (takeN l).2.2) else if l.length - (takeN l).2.1 < (takeN l).1 then ([], 0, 28) else ((l.drop (takeN l).2.1).take (takeN l).1, (takeN l).2.1 + (takeN l).1, 0)

theorem takeI_fits (l : List UInt8) : -9223372036854775808 ≤ (takeI l).1 ∧ (takeI l).1 ≤ 9223372036854775807 ∧ (takeI l).2.1 ≤ l.length := by
  have := tk_fits l 0 0 (by omega) (by simp)
  unfold takeI
  omega

set_option maxHeartbeats 1000000 in
theorem size_c (B D : Nat) (A : Option Addr) (l : List UInt8) (c : Nat) (w : World) (h : DecAt w B D A l c) (hl : l.length ≤ 1000000) (hB : B ≤ w.heap.size) :
    Calls Try.prog 34 #[.pointer (some ⟨D, 0, none⟩)] w fun e w' => BelK B D w w' ∧ ((takeN l).2.2 ≠ 0 ∧ e = .panicked (errP (takeN l).2.2) ∨
      (takeN l).2.2 = 0 ∧ e = .returned (.int .i64 (takeN l).1) ∧ ∃ A2 c2, DecAt w' B D A2 (l.drop (takeN l).2.1) c2) := by
  have hN : takeN l = if (takeI l).2.2 ≠ 0 then (0, 0, (takeI l).2.2) else if (takeI l).1 < 0 then (0, 0, 6) else ((takeI l).1.toNat, (takeI l).2.1, 0) := rfl
  have hc := number_c B D A l c w h hl hB
  generalize takeI l = T at *
  obtain ⟨tn, tu, te⟩ := T
  simp only at hN hc
  have Hc := Lib.hid hc
  clear hc h
  by_cases he : te ≠ 0
  · rw [if_pos he] at hN
    rw [hN]
    clear hN
    go_enter Try.func34, Try.ntmps34
    go_wp2_with fail
    refine Hc.out.mono ?_
    rintro e w1 ⟨hb, (⟨h1, rfl⟩ | ⟨h1, rfl, A2, c2, hd⟩)⟩
    · go_wp2_with fail
      exact ⟨rfl, hb, .inl ⟨he, rfl⟩⟩
    · exact absurd h1 he
  have he0 : te = 0 := by omega
  subst he0
  rw [if_neg (by decide)] at hN
  by_cases hneg : tn < 0
  · rw [if_pos hneg] at hN
    rw [hN]
    clear hN
    have t1 : decide (tn < 0) = true := decide_eq_true hneg
    go_enter Try.func34, Try.ntmps34
    go_wp2_with fail
    refine Hc.out.mono ?_
    rintro e w1 ⟨hb, (⟨h1, rfl⟩ | ⟨h1, rfl, A2, c2, hd⟩)⟩
    · exact absurd rfl h1
    · go_wp2_with fail
      exact ⟨rfl, hb, .inl ⟨by decide, rfl⟩⟩
  · rw [if_neg hneg] at hN
    rw [hN]
    clear hN
    have t1 : decide (tn < 0) = false := decide_eq_false hneg
    obtain ⟨k, rfl⟩ := Int.eq_ofNat_of_zero_le (show 0 ≤ tn by omega)
    go_enter Try.func34, Try.ntmps34
    go_wp2_with fail
    refine Hc.out.mono ?_
    rintro e w1 ⟨hb, (⟨h1, rfl⟩ | ⟨h1, rfl, A2, c2, hd⟩)⟩
    · exact absurd rfl h1
    · go_wp2_with fail
      go_ret
      exact ⟨hb, .inr ⟨trivial, rfl, _, _, hd⟩⟩

theorem conv_by {w : World} {B : Nat} {A : Option Addr} {l : List UInt8} (h : ByAt w B A l) (cap : Nat) : (convert 22 9 (.slice A l.length cap)).run Try.prog w = .ok (.string ⟨l.toArray⟩) w := by
  rcases h with rfl | ⟨b, off, rfl, _, hc⟩
  · rcases A with _ | a
    · rw [run_convert_bytes_string w _ _ _ none _ cap Try.underlying22 Try.underlying5 Try.underlying9]
      rfl
    · exact run_convert_bytes_back w _ _ 5 a cap [] Try.underlying22 Try.underlying5 Try.underlying9 (fun j hj => by simp at hj)
  · refine run_convert_bytes_back w _ _ 5 ⟨b, off, none⟩ cap l Try.underlying22 Try.underlying5 Try.underlying9 (fun j hj => ?_)
    rw [show (⟨b, off, none⟩ : Addr).add j = ⟨b, off + j, none⟩ from by simp [Addr.add]]
    exact hc j hj

set_option maxHeartbeats 1000000 in
theorem text_c (B D : Nat) (A : Option Addr) (l : List UInt8) (c : Nat) (w : World) (h : DecAt w B D A l c) (hl : l.length ≤ 1000000) (hB : B ≤ w.heap.size) :
    Calls Try.prog 24 #[.pointer (some ⟨D, 0, none⟩)] w fun e w' => BelK B D w w' ∧ ((takeS l).2.2 ≠ 0 ∧ e = .panicked (errP (takeS l).2.2) ∨
      (takeS l).2.2 = 0 ∧ e = .returned (.string ⟨(takeS l).1.toArray⟩) ∧ ∃ A2 c2, DecAt w' B D A2 (l.drop (takeS l).2.1) c2) := by
  have hS : takeS l = if (takeN l).2.2 ≠ 0 then ([], 0, (takeN l).2.2) else if l.length - (takeN l).2.1 < (takeN l).1 then ([], 0, 28) else ((l.drop (takeN l).2.1).take (takeN l).1, (takeN l).2.1 + (takeN l).1, 0) := rfl
  have hc := size_c B D A l c w h hl hB
  have hf : (takeN l).1 ≤ 9223372036854775807 := by
    have := takeI_fits l
    unfold takeN
    split
    · exact Nat.zero_le _
    · split
      · exact Nat.zero_le _
      · show (takeI l).1.toNat ≤ _
        omega
  generalize takeN l = T at *
  obtain ⟨tn, tu, te⟩ := T
  simp only at hS hc hf
  have Hc := Lib.hid hc
  clear hc h
  by_cases he : te ≠ 0
  · rw [if_pos he] at hS
    rw [hS]
    clear hS
    go_enter Try.func24, Try.ntmps24
    go_wp2_with fail
    refine Hc.out.mono ?_
    rintro e w1 ⟨hb, (⟨h1, rfl⟩ | ⟨h1, rfl, A2, c2, hd⟩)⟩
    · go_wp2_with fail
      exact ⟨rfl, hb, .inl ⟨he, rfl⟩⟩
    · exact absurd h1 he
  have he0 : te = 0 := by omega
  subst he0
  rw [if_neg (by decide)] at hS
  by_cases hsh : l.length - tu < tn
  · rw [if_pos hsh] at hS
    rw [hS]
    clear hS
    go_enter Try.func24, Try.ntmps24
    go_wp2_with fail
    refine Hc.out.mono ?_
    rintro e w1 ⟨hb, (⟨h1, rfl⟩ | ⟨h1, rfl, A2, c2, hd⟩)⟩
    · exact absurd rfl h1
    · go_wp2_with fail
      refine (take_c B D tn A2 _ c2 _ hd hf).mono ?_
      rintro e w2 (⟨h2, rfl, rfl⟩ | ⟨h2, rfl, hby, hb1, A3, hd2⟩)
      · go_wp2_with fail
        exact ⟨rfl, hb, .inl ⟨by decide, rfl⟩⟩
      · rw [List.length_drop] at h2
        omega
  · rw [if_neg hsh] at hS
    rw [hS]
    clear hS
    go_enter Try.func24, Try.ntmps24
    go_wp2_with fail
    refine Hc.out.mono ?_
    rintro e w1 ⟨hb, (⟨h1, rfl⟩ | ⟨h1, rfl, A2, c2, hd⟩)⟩
    · exact absurd rfl h1
    · go_wp2_with fail
      refine (take_c B D tn A2 _ c2 _ hd hf).mono ?_
      rintro e w2 (⟨h2, rfl, rfl⟩ | ⟨h2, rfl, hby, hb1, A3, hd2⟩)
      · rw [List.length_drop] at h2
        omega
      · have hcv := conv_by hby c2
        rw [List.length_take, List.length_drop, show min tn (l.length - tu) = tn from by omega] at hcv
        rw [List.drop_drop] at hd2
        go_wp2_with fail
        go_ret
        exact ⟨hb.trans hb1, .inr ⟨trivial, rfl, _, _, hd2⟩⟩

theorem as_errno (v : Value) (W : World) : (Instr.typeAssert (.iface 24 v) 20 24 true).run Try.prog W = .ok (.tuple #[v, .bool true]) W := by kernel_rfl
theorem as_nil (W : World) : (Instr.typeAssert .nilIface 20 24 true).run Try.prog W = .ok (.tuple #[.int .i64 0, .bool false]) W := by kernel_rfl
/-- The deferred closure of TakeInt, of a frame that panics with an error. -/
theorem catchI (p : Addr) (x : Int) (e : Nat) (w : World) (hc : w.cell? p = some (.int .i64 x)) (hz : w.frozen? p = false) :
    CallsD Try.prog 21 #[.pointer (some p)] (.panicking (errP e)) w fun e' u' w' =>
      e' = .returned (.tuple #[]) ∧ u' = .panicking [{ v := .iface 24 (.int .i64 e), recovered := true }] ∧ w' = w.setCell p (.int .i64 e) := by
  unfold errP
  refine callsD_of_wpS Try.func21 rfl fun c₀ cs hu => ?_
  apply wpS_region
  simp [wpOpsS, go_sem, recoverD, hu, Try.ntmps21, hc, hz, as_errno, bodyPostS, results, Try.results21]
theorem idleI (p : Addr) (x : Int) (w : World) (hc : w.cell? p = some (.int .i64 x)) (hz : w.frozen? p = false) :
    CallsD Try.prog 21 #[.pointer (some p)] .returning w fun e' u' w' =>
      e' = .returned (.tuple #[]) ∧ u' = .returning ∧ w' = w.setCell p (.int .i64 0) := by
  refine callsD_of_wpS Try.func21 rfl fun c₀ cs hu => ?_
  apply wpS_region
  simp [wpOpsS, go_sem, recoverD, hu, Try.ntmps21, hc, hz, as_nil, bodyPostS, results, Try.results21]
  cases c₀
  simp_all
/-- The deferred closure of TakeText, of a frame that panics with an error. -/
theorem catchS (p : Addr) (x : Int) (e : Nat) (w : World) (hc : w.cell? p = some (.int .i64 x)) (hz : w.frozen? p = false) :
    CallsD Try.prog 23 #[.pointer (some p)] (.panicking (errP e)) w fun e' u' w' =>
      e' = .returned (.tuple #[]) ∧ u' = .panicking [{ v := .iface 24 (.int .i64 e), recovered := true }] ∧ w' = w.setCell p (.int .i64 e) := by
  unfold errP
  refine callsD_of_wpS Try.func23 rfl fun c₀ cs hu => ?_
  apply wpS_region
  simp [wpOpsS, go_sem, recoverD, hu, Try.ntmps23, hc, hz, as_errno, bodyPostS, results, Try.results23]
theorem idleS (p : Addr) (x : Int) (w : World) (hc : w.cell? p = some (.int .i64 x)) (hz : w.frozen? p = false) :
    CallsD Try.prog 23 #[.pointer (some p)] .returning w fun e' u' w' =>
      e' = .returned (.tuple #[]) ∧ u' = .returning ∧ w' = w.setCell p (.int .i64 0) := by
  refine callsD_of_wpS Try.func23 rfl fun c₀ cs hu => ?_
  apply wpS_region
  simp [wpOpsS, go_sem, recoverD, hu, Try.ntmps23, hc, hz, as_nil, bodyPostS, results, Try.results23]
  cases c₀
  simp_all
/-- The deferred closure of TakeTexts, of a frame that panics with an error. -/
theorem catchL (p : Addr) (x : Int) (e : Nat) (w : World) (hc : w.cell? p = some (.int .i64 x)) (hz : w.frozen? p = false) :
    CallsD Try.prog 25 #[.pointer (some p)] (.panicking (errP e)) w fun e' u' w' =>
      e' = .returned (.tuple #[]) ∧ u' = .panicking [{ v := .iface 24 (.int .i64 e), recovered := true }] ∧ w' = w.setCell p (.int .i64 e) := by
  unfold errP
  refine callsD_of_wpS Try.func25 rfl fun c₀ cs hu => ?_
  apply wpS_region
  simp [wpOpsS, go_sem, recoverD, hu, Try.ntmps25, hc, hz, as_errno, bodyPostS, results, Try.results25]
theorem idleL (p : Addr) (x : Int) (w : World) (hc : w.cell? p = some (.int .i64 x)) (hz : w.frozen? p = false) :
    CallsD Try.prog 25 #[.pointer (some p)] .returning w fun e' u' w' =>
      e' = .returned (.tuple #[]) ∧ u' = .returning ∧ w' = w.setCell p (.int .i64 0) := by
  refine callsD_of_wpS Try.func25 rfl fun c₀ cs hu => ?_
  apply wpS_region
  simp [wpOpsS, go_sem, recoverD, hu, Try.ntmps25, hc, hz, as_nil, bodyPostS, results, Try.results25]
  cases c₀
  simp_all
end Go.Proofs.Ythikmjhjbokppaa
