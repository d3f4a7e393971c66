/- arith: the reference's small, Small. -/
import Derived.Test.YtbiiempgefjkiaaDoorArV
namespace Go.Proofs.YtbiiempgefjkiaaDoor.Ar
open Go.RowKit
set_option linter.unusedVariables false

mutual
def smlE : Ex → Int → Int → Int
  | .mk op n s l, m, lv => if m < 1 ∨ lv < 1 ∨ 60 < s.size then -1 else smlK l (m - 1) (lv - 1)
def smlK : List Ex → Int → Int → Int
  | [], m, _ => m
  | x :: l, m, lv => if 0 ≤ m then smlK l (smlE x m lv) lv else m
end
mutual
theorem smlE_range : ∀ (x : Ex) (m lv : Int), -1 ≤ m → -1 ≤ smlE x m lv ∧ smlE x m lv ≤ m
  | .mk op n s l, m, lv, h => by
    rw [smlE]
    split
    · omega
    · have := smlK_range l (m - 1) (lv - 1) (by omega); omega
theorem smlK_range : ∀ (l : List Ex) (m lv : Int), -1 ≤ m → -1 ≤ smlK l m lv ∧ smlK l m lv ≤ m
  | [], m, lv, h => by rw [smlK]; omega
  | x :: l, m, lv, h => by
    rw [smlK]
    split
    · have h1 := smlE_range x m lv h
      have := smlK_range l (smlE x m lv) lv h1.1; omega
    · omega
end
set_option maxHeartbeats 8000000 in
set_option maxRecDepth 100000 in
theorem small_c : ∀ (N : Nat) (x : Ex) (A : Option Addr) (c : Nat) (m lv : Int) (w : World), dep x ≤ N → KidsIn w w.heap.size x.kids A → x.kids.length ≤ c → c ≤ maxLen → -1 ≤ m → m ≤ 60 → 0 ≤ lv → lv ≤ 40 →
    Calls Tryd.prog 21 #[x.val A c, .int .i64 m, .int .i64 lv] w fun e w' => e = .returned (.int .i64 (smlE x m lv)) ∧ Below w.heap.size w w' := by
  intro N
  induction N with
  | zero =>
    intro x A c m lv w hN
    cases x; rw [dep] at hN; omega
  | succ N ih =>
  intro x A c m lv w hN hK hlc hcm hm0 hm1 hv0 hv1
  have HDK := Lib.hid (fun y (hy : y ∈ x.kids) => (show dep y ≤ N by have := dep_kid hy; omega))
  have HIH := Lib.hid ih
  have HKK := Lib.hid hK
  have hsm : smlE x m lv = if m < 1 ∨ lv < 1 ∨ 60 < x.name.size then -1 else smlK x.kids (m - 1) (lv - 1) := by cases x; rw [smlE]; rfl
  rw [hsm]
  clear ih hN hK hsm
  unfold Ex.val
  generalize x.op = op, x.n = n, x.name = s, x.kids = l at *
  have hb0 := (Below.refl w.heap.size w).alloc (Nat.le_refl _) (.cells #[.int .i64 op, .int .i64 n, .string s, .slice A l.length c] 24)
  have hn0 := heap_alloc_new w (.cells #[.int .i64 op, .int .i64 n, .string s, .slice A l.length c] 24)
  unfold maxLen at hcm
  by_cases h1 : m < 1
  · rw [if_pos (.inl h1)]
    have d1 : decide (m < 1) = true := decide_eq_true h1
    clear hn0 HIH HDK HKK
    go_enter Tryd.func21, Tryd.ntmps21
    go_wp2_with fail
    go_ret
    exact ⟨rfl, hb0⟩
  have d1 : decide (m < 1) = false := decide_eq_false h1
  by_cases h2 : lv < 1
  · rw [if_pos (.inr (.inl h2))]
    have d2 : decide (lv < 1) = true := decide_eq_true h2
    clear hn0 HIH HDK HKK
    go_enter Tryd.func21, Tryd.ntmps21
    go_wp2_with fail
    go_ret
    exact ⟨rfl, hb0⟩
  have d2 : decide (lv < 1) = false := decide_eq_false h2
  by_cases h3 : 60 < s.size
  · rw [if_pos (.inr (.inr h3))]
    have d3 : decide ((60 : Int) < (s.size : Int)) = true := decide_eq_true (by omega)
    have d3' : decide (60 < s.size) = true := decide_eq_true h3
    have e2 : (w.alloc (.cells #[.int .i64 op, .int .i64 n, .string s, .slice A l.length c] 24)).cell? ⟨w.heap.size, 2, none⟩ = some (.string s) := by rw [Lib.cell_of_heap hn0]; rfl
    clear hn0 HIH HDK HKK
    go_enter Tryd.func21, Tryd.ntmps21
    go_wp2_with fail
    go_ret
    exact ⟨rfl, hb0⟩
  have d3 : decide ((60 : Int) < (s.size : Int)) = false := decide_eq_false (by omega)
  have d3' : decide (60 < s.size) = false := decide_eq_false h3
  rw [if_neg (by omega)]
  generalize hR : smlK l (m - 1) (lv - 1) = R at *
  have wm : IntKind.i64.wrap (m - 1) = m - 1 := IntWalk.i64_in _ (by omega)
  have wl : IntKind.i64.wrap (lv - 1) = lv - 1 := IntWalk.i64_in _ (by omega)
  have HS := Lib.hid (show R = smlK (l.drop 0) (m - 1) (lv - 1) ∧ Below w.heap.size w (w.alloc (.cells #[.int .i64 op, .int .i64 n, .string s, .slice A l.length c] 24)) ∧ (w.alloc (.cells #[.int .i64 op, .int .i64 n, .string s, .slice A l.length c] 24)).heap[w.heap.size]? = some (.cells #[.int .i64 op, .int .i64 n, .string s, .slice A l.length c] 24) from ⟨by rw [List.drop_zero]; exact hR.symm, hb0, hn0⟩)
  have e2 : (w.alloc (.cells #[.int .i64 op, .int .i64 n, .string s, .slice A l.length c] 24)).cell? ⟨w.heap.size, 2, none⟩ = some (.string s) := by rw [Lib.cell_of_heap hn0]; rfl
  clear hb0 hn0 hR
  go_enter Tryd.func21, Tryd.ntmps21
  go_wp2_with fail
  go_loopw [1, 7] (fun mv iv wr => ∃ (k : Nat) (mk : Int), k ≤ l.length ∧ mv = .int .i64 mk ∧ iv = .int .i64 k ∧ -1 ≤ mk ∧ mk ≤ 60 ∧ Hid (R = smlK (l.drop k) mk (lv - 1) ∧ Below w.heap.size w wr ∧ wr.heap[w.heap.size]? = some (.cells #[.int .i64 op, .int .i64 n, .string s, .slice A l.length c] 24))) (fun _ iv _ => l.length - (intOf iv).toNat)
  case atStart => exact ⟨0, m - 1, by omega, rfl, by go_num, by omega, by omega, HS⟩
  case round =>
    obtain ⟨k, mk, hk, rfl, rfl, hk0, hk1, hh⟩ := hrel
    clear HS e2 d1 d2 d3 d3' wm
    obtain ⟨hRk, hb, hbx⟩ := hh.out
    have c3 : wr.cell? ⟨w.heap.size, 3, none⟩ = some (.slice A l.length c) := by rw [Lib.cell_of_heap hbx]; rfl
    by_cases hlt : k < l.length
    · have i1 : decide ((k : Int) < (l.length : Int)) = true := decide_eq_true (by omega)
      have i1' : decide (k < l.length) = true := decide_eq_true hlt
      rw [List.drop_eq_getElem_cons hlt, smlK] at hRk
      by_cases hg : 0 ≤ mk
      · have i2 : decide ((0 : Int) ≤ mk) = true := decide_eq_true hg
        rw [if_pos hg] at hRk
        have hlt0 : (k : Int) < (l.length : Int) := by omega
        obtain ⟨b, off, A', c', rfl, hbl, k0, k1, k2, k3, hl', hc', hk'⟩ := kids_cells hlt (kidsIn_below HKK.out hb (Nat.le_refl _))
        have HC := Lib.hid (HIH.out l[k] A' c' mk (lv - 1) wr (HDK.out _ (List.getElem_mem hlt)) (kidsIn_below hk' (Below.refl w.heap.size wr) hb.size) hl' hc' hk0 hk1 (by omega) (by omega))
        have hrg := smlE_range l[k] mk (lv - 1) hk0
        have HB := Lib.hid (And.intro hb hbx)
        have HRk := Lib.hid hRk
        clear hRk hb hbx hl' hc' hk' HIH HDK HKK hh
        generalize l[k] = y at *
        go_wp2_with fail
        refine HC.out.mono ?_
        rintro e w4 ⟨rfl, hb4⟩
        have HH := Lib.hid (show R = smlK (l.drop (k + 1)) (smlE y mk (lv - 1)) (lv - 1) ∧ Below w.heap.size w w4 ∧ w4.heap[w.heap.size]? = some (.cells #[.int .i64 op, .int .i64 n, .string s, .slice (some ⟨b, off, none⟩) l.length c] 24) from ⟨HRk.out, HB.out.1.trans (hb4.mono HB.out.1.size), (hb4.block _ (Array.getElem?_eq_some_iff.1 HB.out.2).1).trans HB.out.2⟩)
        clear hb4 HC HB HRk c3 k0 k1 k2 k3
        generalize smlE y mk (lv - 1) = mk2 at *
        go_wp2_with fail
        go_roundw
        case rel => exact ⟨k + 1, mk2, by omega, rfl, by go_num, by omega, by omega, HH⟩
        case measure => simp [intOf]; omega
      · have i2 : decide ((0 : Int) ≤ mk) = false := decide_eq_false hg
        rw [if_neg hg] at hRk
        subst hRk
        clear HIH HDK HKK hh hbx
        go_wp2_with fail
        go_ret
        exact ⟨rfl, hb⟩
    · have i1 : decide ((k : Int) < (l.length : Int)) = false := decide_eq_false (by omega)
      have i1' : decide (k < l.length) = false := decide_eq_false hlt
      have hRR : R = mk := by rw [hRk, List.drop_eq_nil_of_le (by omega), smlK]
      subst hRR
      clear HIH HDK HKK hh hbx hRk
      go_wp2_with fail
      go_ret
      exact ⟨rfl, hb⟩
def smallB (x : Ex) (m : Int) : Bool := decide (0 ≤ smlE x m 40)
set_option maxHeartbeats 1000000 in
theorem Small_c (x : Ex) (A : Option Addr) (c : Nat) (m : Int) (w : World) (hK : KidsIn w w.heap.size x.kids A) (hl : x.kids.length ≤ c) (hc : c ≤ maxLen) (h0 : -1 ≤ m) (h1 : m ≤ 60) :
    Calls Tryd.prog 9 #[x.val A c, .int .i64 m] w fun e w' => e = .returned (.bool (smallB x m)) ∧ Below w.heap.size w w' := by
  have hb0 := (Below.refl w.heap.size w).alloc (Nat.le_refl _) (.cells #[.int .i64 x.op, .int .i64 x.n, .string x.name, .slice A x.kids.length c] 24)
  have HC := Lib.hid (small_c (dep x) x A c m 40 _ (Nat.le_refl _) (kidsIn_below hK hb0 hb0.size) hl hc h0 h1 (by omega) (by omega))
  unfold smallB
  unfold Ex.val at *
  clear hK hl hc h0 h1
  generalize x.op = op, x.n = n, x.name = s, x.kids.length = k, smlE x m 40 = V at *
  go_enter Tryd.func9, Tryd.ntmps9
  go_wp2_with fail
  refine HC.out.mono ?_
  rintro e w1 ⟨rfl, hb⟩
  have hb1 := hb0.trans (hb.mono hb0.size)
  clear HC hb hb0
  go_wp2_with fail
  go_ret
  exact ⟨rfl, hb1⟩
end Go.Proofs.YtbiiempgefjkiaaDoor.Ar
