/- arith: the writer's methods for all expressions; Show. -/
import Derived.Test.YtbiiempgefjkiaaDoorArU3
import Derived.Test.YtbiiempgefjkiaaDoorArU4
import Derived.Test.YtbiiempgefjkiaaDoorArU5
import Derived.Test.YtbiiempgefjkiaaDoorArU6
import Derived.Test.YtbiiempgefjkiaaDoorArU7
namespace Go.Proofs.YtbiiempgefjkiaaDoor.Ar
open Go.RowKit
set_option linter.unusedVariables false

theorem bare_step (N : Nat) (ih : ExpOk N) : BareOk (N + 1) := by
  intro B X x A c k t w hN hv hwf hE hK hlc hcm hW hBX hlen
  obtain ⟨_, hsh, _, _⟩ := val_ok hv
  obtain ⟨har, _⟩ := shaped_kids hsh
  rcases lv_case har with h | h | h | h | ⟨h1, h2, h3⟩ | ⟨h1, h2, h3, h4⟩
  · exact bare_num N ih x (.inl h) B X A c k t w hN hv hwf hE hK hlc hcm hW hBX hlen
  · exact bare_num N ih x (.inr h) B X A c k t w hN hv hwf hE hK hlc hcm hW hBX hlen
  · exact bare_set N ih x h B X A c k t w hN hv hwf hE hK hlc hcm hW hBX hlen
  · exact bare_cond N ih x h B X A c k t w hN hv hwf hE hK hlc hcm hW hBX hlen
  · exact bare_bin N ih x ⟨h1, h2, h3⟩ B X A c k t w hN hv hwf hE hK hlc hcm hW hBX hlen
  · exact bare_una N ih x ⟨h1, h2, h3, h4⟩ B X A c k t w hN hv hwf hE hK hlc hcm hW hBX hlen
theorem bare_all : ∀ N, BareOk N
  | 0 => by
    intro B X x A c k t w hN
    cases x; rw [dep] at hN; omega
  | N + 1 => bare_step N (exp_step N (bare_all N))
theorem exp_all (N : Nat) : ExpOk N := exp_step N (bare_all N)
theorem lenW (B X : Nat) (l : List UInt8) (w : World) (h : WrAt B X l w) : Calls Tryd.prog 23 #[.pointer (some ⟨X, 0, none⟩)] w fun e w' => e = .returned (.int .i64 l.length) ∧ w = w' := by
  obtain ⟨p0, buf, h1, _, h3⟩ := h
  have := lenE B X p0 buf _ w h1 h3
  rwa [Lib.byteCells_length] at this
theorem strW (B X : Nat) (l : List UInt8) (w : World) (h : WrAt B X l w) (h0 : l ≠ []) : Calls Tryd.prog 24 #[.pointer (some ⟨X, 0, none⟩)] w fun e w' => e = .returned (.string ⟨l.toArray⟩) ∧ Below B w w' := by
  obtain ⟨p0, buf, h1, _, h3⟩ := h
  rw [Lib.byteCells_length] at h3
  exact strE B X p0 buf l w h1 h3 h0
theorem wrAt_new (B : Nat) (w : World) (hB : B ≤ w.heap.size) : WrAt B w.heap.size [] (w.alloc (.cells #[.pointer none, .slice none 0 0] 47)) :=
  ⟨.pointer none, .slice none 0 0, heap_alloc_new w _, .inl rfl, World.ownsRow_nil _ _ _ _⟩
theorem decD_ne : ∀ (f u : Nat), decD f u ≠ []
  | 0, u => by rw [decD]; simp
  | f + 1, u => by rw [decD]; split <;> simp
theorem decI_ne (n : Int) : decI n ≠ [] := by
  unfold decI
  split
  · simp
  · exact decD_ne _ _
theorem wrapS_ne {lv : Nat} {k : Int × List UInt8} (h : k.2 ≠ []) : wrapS lv k ≠ [] := by
  unfold wrapS
  split
  · exact h
  · simp
theorem bare_ne {x : Ex} {k : Nat} (hv : valE x k = 0) : bare x ≠ [] := by
  obtain ⟨_, hsh, hnm, _⟩ := val_ok hv
  obtain ⟨har, _, hna, _⟩ := shaped_kids hsh
  have hbx : bare x = combS x.op x.n x.name (bareK x.kids) := by cases x; rw [bare]; rfl
  rw [hbx]
  unfold combS
  split
  · simp
  · split
    · simp
    · split
      · rename_i h1 h2 h3
        intro h
        have h4 := congrArg List.length h
        simp [bytesOf] at h4
        have : unaTx x.op ≠ ⟨#[]⟩ := by unfold unaTx; split <;> (try split) <;> (try split) <;> decide
        exact this (h4.1.trans rfl)
      · split
        · split
          · rename_i h5
            have h6 : x.op = 2 := by simpa using h5
            have h7 : named x.op = true := by rw [h6]; rfl
            rw [h7] at hna
            intro h
            unfold bytesOf at h
            have : x.name.size = 0 := by
              have := congrArg List.length h
              simpa using this
            rw [this] at hna
            simp at hna
          · exact decI_ne _
        · simp
set_option maxHeartbeats 4000000 in
set_option maxRecDepth 100000 in
theorem Show_c (x : Ex) (A : Option Addr) (c : Nat) (w : World) (hE : Env w) (hT : Tab w) (hwf : wfE x) (hK : KidsIn w w.heap.size x.kids A) (hl : x.kids.length ≤ c) (hc : c ≤ maxLen) (hlen : (wrapS 1 (x.op, bare x)).length ≤ 1000000000) :
    Calls Tryd.prog 11 #[x.val A c] w fun e w' => e = .returned (.tuple #[.string ⟨(showL x).1.toArray⟩, .int .i64 ((showL x).2 : Nat)]) ∧ Below w.heap.size w w' := by
  have hb0 := (Below.refl w.heap.size w).alloc (Nat.le_refl _) (.cells #[.int .i64 x.op, .int .i64 x.n, .string x.name, .slice A x.kids.length c] 24)
  have hn0 := heap_alloc_new w (.cells #[.int .i64 x.op, .int .i64 x.n, .string x.name, .slice A x.kids.length c] 24)
  have HV := Lib.hid (Valid_c x A c _ (env_next hE hb0) (kidsIn_below hK hb0 hb0.size) hl hc)
  have HX := Lib.hid (fun (W : World) (X : Nat) (h0 : valE x 0 = 0) (hb : Below w.heap.size w W) (hX : w.heap.size ≤ X) (hW : WrAt w.heap.size X [] W) => exp_all (dep x) w.heap.size X x A c 1 0 [] W (Nat.le_refl _) h0 hwf ⟨env_next hE hb, tab_below hT hb (tab_lt hT), env_lt hE, tab_lt hT⟩ (kidsIn_below hK hb (Nat.le_refl _)) hl hc hW hX (by simpa using hlen) (by omega))
  have HNE := Lib.hid (fun (h : valE x 0 = 0) => wrapS_ne (lv := 1) (k := (x.op, bare x)) (bare_ne h))
  unfold showL
  unfold Ex.val at *
  clear hE hT hwf hK hl hc hlen
  generalize wrapS 1 (x.op, bare x) = out at *
  generalize x.op = op, x.n = n, x.name = s, x.kids.length = l, valE x 0 = V at *
  have Hb0 := Lib.hid hb0
  have Hn0 := Lib.hid hn0
  clear hb0 hn0
  by_cases h : V = 0
  · subst h
    rw [if_pos rfl]
    have HY := Lib.hid (fun W X => HX.out W X rfl)
    have hne := HNE.out rfl
    clear HNE HX
    by_cases h4 : 4096 < out.length
    · rw [if_pos h4]
      have d4 : decide ((4096 : Int) < (out.length : Int)) = true := decide_eq_true (by omega)
      have d4' : decide (4096 < out.length) = true := decide_eq_true h4
      clear h4
      go_enter Tryd.func11, Tryd.ntmps11
      go_wp2_with fail
      refine HV.out.mono ?_
      rintro e w1 ⟨rfl, hb1⟩
      have hn1 := (hb1.block _ (by simp)).trans Hn0.out
      have hz1 : w.heap.size < w1.heap.size := (Array.getElem?_eq_some_iff.1 hn1).1
      have hb01 := Hb0.out.trans (hb1.mono (by simp))
      have hb2 := hb01.alloc (Nat.le_of_lt hz1) (.cells #[.pointer none, .slice none 0 0] 47)
      have ca : ∀ o, (w1.alloc o).heap[w.heap.size]? = some (.cells #[.int .i64 op, .int .i64 n, .string s, .slice A l c] 24 (0, 0)) := fun o => (Below.heap_alloc _ _ _ hz1).trans hn1
      have c0 : ∀ o, (w1.alloc o).cell? ⟨w.heap.size, 0, none⟩ = some (.int .i64 op) := fun o => by rw [Lib.cell_of_heap (ca o)]; rfl
      have c1 : ∀ o, (w1.alloc o).cell? ⟨w.heap.size, 1, none⟩ = some (.int .i64 n) := fun o => by rw [Lib.cell_of_heap (ca o)]; rfl
      have c2 : ∀ o, (w1.alloc o).cell? ⟨w.heap.size, 2, none⟩ = some (.string s) := fun o => by rw [Lib.cell_of_heap (ca o)]; rfl
      have c3 : ∀ o, (w1.alloc o).cell? ⟨w.heap.size, 3, none⟩ = some (.slice A l c) := fun o => by rw [Lib.cell_of_heap (ca o)]; rfl
      have HC := Lib.hid (HY.out _ w1.heap.size hb2 (Nat.le_of_lt hz1) (wrAt_new w.heap.size w1 (Nat.le_of_lt hz1)))
      have Hb2 := Lib.hid hb2
      clear hb1 hn1 hb01 hb2 ca HY HV Hb0 Hn0
      go_wp2_with fail
      refine HC.out.mono ?_
      rintro e w3 ⟨rfl, hq⟩
      have hw3 : WrAt w.heap.size w1.heap.size out w3 := hq.wr
      have Hw3 := Lib.hid hw3
      have HLn := Lib.hid (lenW _ _ _ _ hw3)
      have Hb3 := Lib.hid (Hb2.out.trans hq.bel)
      clear hq hw3 HC c0 c1 c2 c3 Hb2
      go_wp2_with fail
      refine HLn.out.mono ?_
      rintro e w4 ⟨rfl, rfl⟩
      clear HLn
      go_wp2_with fail
      go_ret2
      exact ⟨rfl, Hb3.out⟩
    · rw [if_neg h4]
      have d4 : decide ((4096 : Int) < (out.length : Int)) = false := decide_eq_false (by omega)
      have d4' : decide (4096 < out.length) = false := decide_eq_false h4
      clear h4
      go_enter Tryd.func11, Tryd.ntmps11
      go_wp2_with fail
      refine HV.out.mono ?_
      rintro e w1 ⟨rfl, hb1⟩
      have hn1 := (hb1.block _ (by simp)).trans Hn0.out
      have hz1 : w.heap.size < w1.heap.size := (Array.getElem?_eq_some_iff.1 hn1).1
      have hb01 := Hb0.out.trans (hb1.mono (by simp))
      have hb2 := hb01.alloc (Nat.le_of_lt hz1) (.cells #[.pointer none, .slice none 0 0] 47)
      have ca : ∀ o, (w1.alloc o).heap[w.heap.size]? = some (.cells #[.int .i64 op, .int .i64 n, .string s, .slice A l c] 24 (0, 0)) := fun o => (Below.heap_alloc _ _ _ hz1).trans hn1
      have c0 : ∀ o, (w1.alloc o).cell? ⟨w.heap.size, 0, none⟩ = some (.int .i64 op) := fun o => by rw [Lib.cell_of_heap (ca o)]; rfl
      have c1 : ∀ o, (w1.alloc o).cell? ⟨w.heap.size, 1, none⟩ = some (.int .i64 n) := fun o => by rw [Lib.cell_of_heap (ca o)]; rfl
      have c2 : ∀ o, (w1.alloc o).cell? ⟨w.heap.size, 2, none⟩ = some (.string s) := fun o => by rw [Lib.cell_of_heap (ca o)]; rfl
      have c3 : ∀ o, (w1.alloc o).cell? ⟨w.heap.size, 3, none⟩ = some (.slice A l c) := fun o => by rw [Lib.cell_of_heap (ca o)]; rfl
      have HC := Lib.hid (HY.out _ w1.heap.size hb2 (Nat.le_of_lt hz1) (wrAt_new w.heap.size w1 (Nat.le_of_lt hz1)))
      have Hb2 := Lib.hid hb2
      clear hb1 hn1 hb01 hb2 ca HY HV Hb0 Hn0
      go_wp2_with fail
      refine HC.out.mono ?_
      rintro e w3 ⟨rfl, hq⟩
      have hw3 : WrAt w.heap.size w1.heap.size out w3 := hq.wr
      have Hw3 := Lib.hid hw3
      have HLn := Lib.hid (lenW _ _ _ _ hw3)
      have Hb3 := Lib.hid (Hb2.out.trans hq.bel)
      clear hq hw3 HC c0 c1 c2 c3 Hb2
      go_wp2_with fail
      refine HLn.out.mono ?_
      rintro e w4 ⟨rfl, rfl⟩
      have HS := Lib.hid (strW _ _ _ _ Hw3.out hne)
      clear HLn hne
      go_wp2_with fail
      refine HS.out.mono ?_
      rintro e w5 ⟨rfl, hb5⟩
      have Hb5 := Lib.hid (Hb3.out.trans hb5)
      clear hb5
      go_wp2_with fail
      go_ret2
      exact ⟨rfl, Hb5.out⟩
  · rw [if_neg h]
    have d : decide ((V : Int) = 0) = false := decide_eq_false (by omega)
    have d' : decide (V = 0) = false := decide_eq_false h
    clear HX HNE
    go_enter Tryd.func11, Tryd.ntmps11
    go_wp2_with fail
    refine HV.out.mono ?_
    rintro e w1 ⟨rfl, hb1⟩
    have Hf := Lib.hid (Hb0.out.trans (hb1.mono (by simp)))
    clear hb1 HV Hb0 Hn0
    go_wp2_with fail
    go_ret2
    exact ⟨rfl, Hf.out⟩
end Go.Proofs.YtbiiempgefjkiaaDoor.Ar
