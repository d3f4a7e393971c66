/- The contracts of codec's TakeInt, TakeText. -/
import Derived.Test.YthikmjhjbokppaaKDec2
namespace Go.Proofs.Ythikmjhjbokppaa
open Go.RowKit
set_option linter.unusedVariables false

theorem tk_err : ∀ (l : List UInt8) (i acc : Nat), (tk i acc l).2.2 ≠ 0 → tk i acc l = (0, 0, (tk i acc l).2.2)
  | [], i, acc, h => by rw [tk_nil]
  | c :: r, i, acc, h => by
    rw [tk_cons] at h ⊢
    split
    · rfl
    · rename_i h1
      rw [if_neg h1] at h
      split
      · rename_i h2; rw [if_pos h2] at h; exact absurd rfl h
      · rename_i h2; rw [if_neg h2] at h; exact tk_err r _ _ h

theorem byAt_mono {w : World} {B B' : Nat} {A : Option Addr} {l : List UInt8} (h : ByAt w B A l) (hB : B ≤ B') : ByAt w B' A l := by
  rcases h with rfl | ⟨b, off, rfl, hlt, hc⟩
  · exact .inl rfl
  · exact .inr ⟨b, off, rfl, by omega, hc⟩
theorem byAt_alloc {w : World} {B : Nat} {A : Option Addr} {l : List UInt8} (h : ByAt w B A l) (hB : B ≤ w.heap.size) (o : Obj) : ByAt (w.alloc o) B A l :=
  byAt_below h ((Below.refl B w).alloc hB o) (Nat.le_refl _)

/-- The world in which TakeInt, TakeText, TakeTexts begin: the error's number, the decoder. -/
def begW (w : World) (A : Option Addr) (l : List UInt8) (c : Nat) : World := (w.alloc (.cells #[.int .i64 0] 24)).alloc (.cells #[.slice A l.length c] 51)
theorem begW_dec {A : Option Addr} {l : List UInt8} {c : Nat} {w : World} (hA : ByAt w w.heap.size A l) (hc : l.length ≤ c ∧ c ≤ maxLen) : DecAt (begW w A l c) (w.heap.size + 1) (w.heap.size + 1) A l c := by
  refine ⟨?_, byAt_mono (byAt_alloc (byAt_alloc hA (Nat.le_refl _) _) (by simp) _) (by omega), hc, Nat.le_refl _⟩
  have := heap_alloc_new (w.alloc (.cells #[.int .i64 0] 24)) (.cells #[.slice A l.length c] 51)
  simpa [begW] using this
theorem begW_below {A : Option Addr} {l : List UInt8} {c : Nat} {w w' : World} (hb : Below (w.heap.size + 1) (begW w A l c) w') : Below w.heap.size w w' ∧ w'.heap[w.heap.size]? = some (.cells #[.int .i64 0] 24 (0, 0)) := by
  refine ⟨(((Below.refl _ w).alloc (Nat.le_refl _) _).alloc (by simp) _).trans (hb.mono (by omega)), ?_⟩
  rw [hb.block _ (by omega)]
  unfold begW
  rw [Lib.alloc_old _ _ _ (by simp)]
  exact heap_alloc_new w _

set_option maxHeartbeats 2000000 in
theorem takeInt_c (A : Option Addr) (l : List UInt8) (c : Nat) (w : World) (hA : ByAt w w.heap.size A l) (hc : l.length ≤ c ∧ c ≤ maxLen) (hl : l.length ≤ 1000000) :
    Calls Try.prog 8 #[.slice A l.length c] w fun e w' => e = .returned (.tuple #[.int .i64 (takeI l).1, .int .i64 (takeI l).2.1, .int .i64 (takeI l).2.2]) ∧ Below w.heap.size w w' := by
  have hmf : ∀ (fn : Fn) (first cap : Array Value) (w : World), (Instr.makeFunc fn first cap).run Try.prog w = .ok (.func fn first cap) w := fun _ _ _ _ => rfl
  have herr := tk_err l 0 0
  have hfit := (takeI_fits l).2.2
  have hnum := number_c (w.heap.size + 1) (w.heap.size + 1) A l c (begW w A l c) (begW_dec hA hc) hl (by simp [begW])
  rw [show tk 0 0 l = takeI l from rfl] at herr
  generalize takeI l = T at *
  obtain ⟨tn, tu, te⟩ := T
  simp only at herr hnum hfit
  have Hnum := Lib.hid hnum
  clear hnum hA
  go_enter_defers Try.func8, Try.ntmps8
  go_wp2_with fail
  refine Hnum.out.mono ?_
  rintro e w1 ⟨hb, (⟨h1, rfl⟩ | ⟨h1, rfl, A2, c2, hd⟩)⟩
  · obtain ⟨b1, b2⟩ := begW_below hb.bel
    have hr := herr h1
    simp only [Prod.mk.injEq] at hr
    obtain ⟨rfl, rfl, _⟩ := hr
    have c0 : w1.cell? ⟨w.heap.size, 0, none⟩ = some (.int .i64 0) := by rw [Lib.cell_of_heap b2]; rfl
    have f0 : w1.frozen? ⟨w.heap.size, 0, none⟩ = false := Lib.frozen_of_heap b2 0
    have hset := b1.setCell (p := ⟨w.heap.size, 0, none⟩) (Nat.le_refl _) (.int .i64 te)
    clear Hnum hb herr
    go_wp2_with fail
    refine leaves_cons (f := 21) (args := #[.pointer (some ⟨w.heap.size, 0, none⟩)]) (by simp) (by simp [go_sem]) ?_
    refine (catchI ⟨w.heap.size, 0, none⟩ 0 te w1 c0 f0).mono ?_
    rintro e u' w2 ⟨rfl, rfl, rfl⟩
    have hs2 : (w1.setCell ⟨w.heap.size, 0, none⟩ (.int .i64 te)).cell? ⟨w.heap.size, 0, none⟩ = some (.int .i64 te) := by rw [Lib.cell_of_heap (one_setCell b2)]; rfl
    simp [Leaves, settle, results, Try.results8, go_sem, hs2]
    exact hset
  · subst h1
    obtain ⟨b1, b2⟩ := begW_below hb.bel
    have c0 : w1.cell? ⟨w.heap.size, 0, none⟩ = some (.int .i64 0) := by rw [Lib.cell_of_heap b2]; rfl
    have f0 : w1.frozen? ⟨w.heap.size, 0, none⟩ = false := Lib.frozen_of_heap b2 0
    have c1 : w1.cell? ⟨w.heap.size + 1, 0, none⟩ = some (.slice A2 (l.length - tu) c2) := by rw [Lib.cell_of_heap hd.cell, List.length_drop]; rfl
    have hset := b1.setCell (p := ⟨w.heap.size, 0, none⟩) (Nat.le_refl _) (.int .i64 0)
    clear Hnum hb herr hd
    go_wp2_with fail
    go_region
    all_goals go_wp2_with fail
    have b3 := one_setCell (u := .int .i64 0) b2
    have d0 : ((w1.setCell ⟨w.heap.size, 0, none⟩ (.int .i64 0)).drew).cell? ⟨w.heap.size, 0, none⟩ = some (.int .i64 0) := by rw [World.cell?_drew, Lib.cell_of_heap b3]; rfl
    have e0 : ((w1.setCell ⟨w.heap.size, 0, none⟩ (.int .i64 0)).drew).frozen? ⟨w.heap.size, 0, none⟩ = false := Lib.frozen_of_heap b3 0
    refine leaves_cons (f := 21) (args := #[.pointer (some ⟨w.heap.size, 0, none⟩)]) (by simp) (by simp [go_sem]) ?_
    refine (idleI ⟨w.heap.size, 0, none⟩ 0 _ d0 e0).mono ?_
    rintro e u' w2 ⟨rfl, rfl, rfl⟩
    have hs2 : ((w1.setCell ⟨w.heap.size, 0, none⟩ (.int .i64 0)).setCell ⟨w.heap.size, 0, none⟩ (.int .i64 0)).cell? ⟨w.heap.size, 0, none⟩ = some (.int .i64 0) := by
      rw [Lib.cell_of_heap (one_setCell (u := .int .i64 0) b3)]; rfl
    have hu : ((l.length : Int) - ((l.length - tu : Nat) : Int)) = tu := by omega
    simp [Leaves, settle, results, Try.results8, go_sem, hs2, hu]
    first | exact (hset.setCell (p := ⟨w.heap.size, 0, none⟩) (Nat.le_refl _) _).drew | exact hset.drew.setCell (p := ⟨w.heap.size, 0, none⟩) (Nat.le_refl _) _
theorem takeN_fits (l : List UInt8) : (takeN l).2.1 ≤ l.length := by
  have := takeI_fits l
  unfold takeN
  split
  · exact Nat.zero_le _
  · split
    · exact Nat.zero_le _
    · exact this.2.2
theorem takeS_fits (l : List UInt8) : (takeS l).2.1 ≤ l.length := by
  have := takeN_fits l
  unfold takeS
  split
  · exact Nat.zero_le _
  · split
    · exact Nat.zero_le _
    · show (takeN l).2.1 + (takeN l).1 ≤ _
      omega
theorem takeS_err (l : List UInt8) (h : (takeS l).2.2 ≠ 0) : takeS l = ([], 0, (takeS l).2.2) := by
  unfold takeS at h ⊢
  split
  · rfl
  · rename_i h1
    rw [if_neg h1] at h
    split
    · rfl
    · rename_i h2
      rw [if_neg h2] at h
      exact absurd rfl h

set_option maxHeartbeats 2000000 in
theorem takeText_c (A : Option Addr) (l : List UInt8) (c : Nat) (w : World) (hA : ByAt w w.heap.size A l) (hc : l.length ≤ c ∧ c ≤ maxLen) (hl : l.length ≤ 1000000) :
    Calls Try.prog 9 #[.slice A l.length c] w fun e w' => e = .returned (.tuple #[.string ⟨(takeS l).1.toArray⟩, .int .i64 (takeS l).2.1, .int .i64 (takeS l).2.2]) ∧ Below w.heap.size w w' := by
  have hmf : ∀ (fn : Fn) (first cap : Array Value) (w : World), (Instr.makeFunc fn first cap).run Try.prog w = .ok (.func fn first cap) w := fun _ _ _ _ => rfl
  have herr := takeS_err l
  have hfit := takeS_fits l
  have hnum := text_c (w.heap.size + 1) (w.heap.size + 1) A l c (begW w A l c) (begW_dec hA hc) hl (by simp [begW])
  generalize takeS l = T at *
  obtain ⟨tn, tu, te⟩ := T
  simp only at herr hnum hfit
  have Hnum := Lib.hid hnum
  clear hnum hA
  go_enter_defers Try.func9, Try.ntmps9
  go_wp2_with fail
  refine Hnum.out.mono ?_
  rintro e w1 ⟨hb, (⟨h1, rfl⟩ | ⟨h1, rfl, A2, c2, hd⟩)⟩
  · obtain ⟨b1, b2⟩ := begW_below hb.bel
    have hr := herr h1
    simp only [Prod.mk.injEq] at hr
    obtain ⟨rfl, rfl, _⟩ := hr
    have c0 : w1.cell? ⟨w.heap.size, 0, none⟩ = some (.int .i64 0) := by rw [Lib.cell_of_heap b2]; rfl
    have f0 : w1.frozen? ⟨w.heap.size, 0, none⟩ = false := Lib.frozen_of_heap b2 0
    have hset := b1.setCell (p := ⟨w.heap.size, 0, none⟩) (Nat.le_refl _) (.int .i64 te)
    clear Hnum hb herr
    go_wp2_with fail
    refine leaves_cons (f := 23) (args := #[.pointer (some ⟨w.heap.size, 0, none⟩)]) (by simp) (by simp [go_sem]) ?_
    refine (catchS ⟨w.heap.size, 0, none⟩ 0 te w1 c0 f0).mono ?_
    rintro e u' w2 ⟨rfl, rfl, rfl⟩
    have hs2 : (w1.setCell ⟨w.heap.size, 0, none⟩ (.int .i64 te)).cell? ⟨w.heap.size, 0, none⟩ = some (.int .i64 te) := by rw [Lib.cell_of_heap (one_setCell b2)]; rfl
    simp [Leaves, settle, results, Try.results9, go_sem, hs2]
    exact hset
  · subst h1
    obtain ⟨b1, b2⟩ := begW_below hb.bel
    have c0 : w1.cell? ⟨w.heap.size, 0, none⟩ = some (.int .i64 0) := by rw [Lib.cell_of_heap b2]; rfl
    have f0 : w1.frozen? ⟨w.heap.size, 0, none⟩ = false := Lib.frozen_of_heap b2 0
    have c1 : w1.cell? ⟨w.heap.size + 1, 0, none⟩ = some (.slice A2 (l.length - tu) c2) := by rw [Lib.cell_of_heap hd.cell, List.length_drop]; rfl
    have hset := b1.setCell (p := ⟨w.heap.size, 0, none⟩) (Nat.le_refl _) (.int .i64 0)
    clear Hnum hb herr hd
    go_wp2_with fail
    go_region
    all_goals go_wp2_with fail
    have b3 := one_setCell (u := .int .i64 0) b2
    have d0 : ((w1.setCell ⟨w.heap.size, 0, none⟩ (.int .i64 0)).drew).cell? ⟨w.heap.size, 0, none⟩ = some (.int .i64 0) := by rw [World.cell?_drew, Lib.cell_of_heap b3]; rfl
    have e0 : ((w1.setCell ⟨w.heap.size, 0, none⟩ (.int .i64 0)).drew).frozen? ⟨w.heap.size, 0, none⟩ = false := Lib.frozen_of_heap b3 0
    refine leaves_cons (f := 23) (args := #[.pointer (some ⟨w.heap.size, 0, none⟩)]) (by simp) (by simp [go_sem]) ?_
    refine (idleS ⟨w.heap.size, 0, none⟩ 0 _ d0 e0).mono ?_
    rintro e u' w2 ⟨rfl, rfl, rfl⟩
    have hs2 : ((w1.setCell ⟨w.heap.size, 0, none⟩ (.int .i64 0)).setCell ⟨w.heap.size, 0, none⟩ (.int .i64 0)).cell? ⟨w.heap.size, 0, none⟩ = some (.int .i64 0) := by
      rw [Lib.cell_of_heap (one_setCell (u := .int .i64 0) b3)]; rfl
    have hu : ((l.length : Int) - ((l.length - tu : Nat) : Int)) = tu := by omega
    simp [Leaves, settle, results, Try.results9, go_sem, hs2, hu]
    first | exact (hset.setCell (p := ⟨w.heap.size, 0, none⟩) (Nat.le_refl _) _).drew | exact hset.drew.setCell (p := ⟨w.heap.size, 0, none⟩) (Nat.le_refl _) _
end Go.Proofs.Ythikmjhjbokppaa
