/- arith: the reference's valid, Valid. -/
import Derived.Test.YtbiiempgefjkiaaDoorArX2
import Derived.Test.YtbiiempgefjkiaaDoorArG
import Derived.BigQuiet
namespace Go.Proofs.YtbiiempgefjkiaaDoor.Ar
open Go.RowKit
set_option linter.unusedVariables false
set_option linter.unusedSimpArgs false

theorem drewN_heap (n : Nat) (W : World) (k : Nat) : (W.drewN n).heap[k]? = W.heap[k]? := by
  have : (W.drewN n).heap = W.heap := by simp
  rw [this]
def RVal (N : Nat) : Prop := ∀ (x : Ex) (A : Option Addr) (c lv : Nat) (w : World), dep x ≤ N → KidsIn w w.heap.size x.kids A → x.kids.length ≤ c → c ≤ maxLen → lv ≤ 32 →
    Calls Tryd.prog 27 #[x.val A c, .int .i64 lv] w fun e w' => e = .returned (.int .i64 (valE x lv : Nat)) ∧ Below w.heap.size w w'
set_option maxHeartbeats 16000000 in
set_option maxRecDepth 100000 in
theorem rval_num (N : Nat) (ih : RVal N) (op n : Int) (s : ByteArray) (l : List Ex) (A : Option Addr) (c lv : Nat) (w : World) (hop : op = 1) (HDK : Hid (∀ y ∈ l, dep y ≤ N)) (HKK : Hid (KidsIn w w.heap.size l A)) (hlc : l.length ≤ c) (hcm : c ≤ 9223372036854775807) (hlv : lv < 32) (sh : Bool) (V0 : Nat) (K : Int)
    (hsh : sh = (decide ((l.length : Int) = K) && ((!(s.size == 0)) == named op) && shapedN op n)) (HV0 : Hid (V0 = valK l (lv + 1))) (HKD : Hid (∀ W : World, Calls Tryd.prog 43 #[.int .i64 op] W fun e w' => e = .returned (.int .i64 K) ∧ w' = W)) :
    Calls Tryd.prog 27 #[.agg #[.int .i64 op, .int .i64 n, .string s, .slice A l.length c], .int .i64 lv] w fun e w' => e = .returned (.int .i64 ((if sh = true then (if s.size ≠ 0 ∧ nameB s = false then 10 else valK l (lv + 1)) else 1 : Nat) : Int)) ∧ Below w.heap.size w w' := by
  have HIH := Lib.hid ih
  have HLV := Lib.hid (show (((lv + 1 : Nat) : Nat) : Int) = (lv : Int) + 1 by omega)
  have wl : IntKind.i64.wrap ((lv : Int) + 1) = (lv : Int) + 1 := IntWalk.i64_in _ (by omega)
  have t0 : decide ((32 : Int) ≤ (lv : Int)) = false := decide_eq_false (by omega)
  have t0' : decide (32 ≤ lv) = false := decide_eq_false (by omega)
  clear ih
  subst hop
  have hb0 := (Below.refl w.heap.size w).alloc (Nat.le_refl _) (.cells #[.int .i64 1, .int .i64 n, .string s, .slice A l.length c] 24)
  have hn0 := heap_alloc_new w (.cells #[.int .i64 1, .int .i64 n, .string s, .slice A l.length c] 24)
  have hnm : named 1 = false := rfl
  rw [hnm] at hsh
  have c0 : (w.alloc (.cells #[.int .i64 1, .int .i64 n, .string s, .slice A l.length c] 24)).cell? ⟨w.heap.size, 0, none⟩ = some (.int .i64 (1)) := by rw [Lib.cell_of_heap hn0]; rfl
  have c2 : (w.alloc (.cells #[.int .i64 1, .int .i64 n, .string s, .slice A l.length c] 24)).cell? ⟨w.heap.size, 2, none⟩ = some (.string s) := by rw [Lib.cell_of_heap hn0]; rfl
  have c3 : (w.alloc (.cells #[.int .i64 1, .int .i64 n, .string s, .slice A l.length c] 24)).cell? ⟨w.heap.size, 3, none⟩ = some (.slice A l.length c) := by rw [Lib.cell_of_heap hn0]; rfl
  by_cases hK1 : (l.length : Int) = K
  · have k1 : ((l.length : Int) != K) = false := by rw [bne_eq_false_iff_eq]; exact hK1
    have k1' : ((l.length : Int) == K) = true := by rw [beq_iff_eq]; exact hK1
    rw [decide_eq_true hK1, Bool.true_and] at hsh
    by_cases hs0 : s.size = 0
    · have es : (s.size == 0) = true := by rw [beq_iff_eq]; exact hs0
      obtain ⟨f1, f2⟩ := Cc.empty_tests hs0
      rw [es] at hsh
      have hsh' : sh = shapedN 1 n := by rw [hsh]; rfl
      clear hsh
      by_cases hbad : n < 0
      · have hsf : sh = false := by rw [hsh']; unfold shapedN; simp; omega
        have b1 : decide (n < 0) = true := decide_eq_true hbad
        rw [hsf, if_neg (by simp)]
        clear hsh' HIH HDK HKK HV0 HLV hK1
        go_enter Tryd.func27, Tryd.ntmps27
        go_wp2_with fail
        go_quiet ((go_at_call 43; exact Calls.quiet_of_same (HKD.out _)))
        obtain ⟨V, hV⟩ : ∃ V, V = (w.alloc (.cells #[.int .i64 1, .int .i64 n, .string s, .slice A l.length c] 24)).drewN nq := ⟨_, rfl⟩
        rw [← hV]
        have hbV : Below w.heap.size w V := by rw [hV]; exact below_drewN' hb0 _
        have hnV : V.heap[w.heap.size]? = some (.cells #[.int .i64 1, .int .i64 n, .string s, .slice A l.length c] 24) := by rw [hV, drewN_heap nq _ _]; exact hn0
        have HbV := Lib.hid hbV
        have HnV := Lib.hid hnV
        have e1 : V.cell? ⟨w.heap.size, 1, none⟩ = some (.int .i64 n) := by rw [Lib.cell_of_heap hnV]; rfl
        have e0 : V.cell? ⟨w.heap.size, 0, none⟩ = some (.int .i64 (1)) := by rw [Lib.cell_of_heap hnV]; rfl
        have e2 : V.cell? ⟨w.heap.size, 2, none⟩ = some (.string s) := by rw [Lib.cell_of_heap hnV]; rfl
        clear hV hbV hnV c0 c2 c3
        go_wp2_with fail
        go_ret
        exact ⟨rfl, HbV.out⟩
      · have hsf : sh = true := by rw [hsh']; unfold shapedN; simp; omega
        have b1 : decide (n < 0) = false := decide_eq_false hbad
        rw [hsf, if_pos rfl]
        rw [if_neg (by rintro ⟨h, _⟩; exact h hs0)]
        rw [← HV0.out]
        clear hsh' hK1 hbad
        go_enter Tryd.func27, Tryd.ntmps27
        go_wp2_with fail
        go_quiet ((go_at_call 43; exact Calls.quiet_of_same (HKD.out _)))
        obtain ⟨V, hV⟩ : ∃ V, V = (w.alloc (.cells #[.int .i64 1, .int .i64 n, .string s, .slice A l.length c] 24)).drewN nq := ⟨_, rfl⟩
        rw [← hV]
        have hbV : Below w.heap.size w V := by rw [hV]; exact below_drewN' hb0 _
        have hnV : V.heap[w.heap.size]? = some (.cells #[.int .i64 1, .int .i64 n, .string s, .slice A l.length c] 24) := by rw [hV, drewN_heap nq _ _]; exact hn0
        have HbV := Lib.hid hbV
        have HnV := Lib.hid hnV
        have e1 : V.cell? ⟨w.heap.size, 1, none⟩ = some (.int .i64 n) := by rw [Lib.cell_of_heap hnV]; rfl
        have e0 : V.cell? ⟨w.heap.size, 0, none⟩ = some (.int .i64 (1)) := by rw [Lib.cell_of_heap hnV]; rfl
        have e2 : V.cell? ⟨w.heap.size, 2, none⟩ = some (.string s) := by rw [Lib.cell_of_heap hnV]; rfl
        clear hV hbV hnV c0 c2 c3
        go_wp2_with fail
        go_loopw [6] (fun iv wr => ∃ k : Nat, k ≤ l.length ∧ iv = .int .i64 k ∧ Hid (V0 = valK (l.drop k) (lv + 1) ∧ Below w.heap.size w wr ∧ wr.heap[w.heap.size]? = some (.cells #[.int .i64 1, .int .i64 n, .string s, .slice A l.length c] 24))) (fun iv _ => l.length - (intOf iv).toNat)
        case atStart => exact ⟨0, by omega, by go_num, Lib.hid ⟨by rw [List.drop_zero]; exact HV0.out, HbV.out, HnV.out⟩⟩
        case round =>
          obtain ⟨k, hk, rfl, hh⟩ := hrel
          clear HV0 HbV HnV e0 e1 e2
          obtain ⟨hRk, hb, hbx⟩ := hh.out
          have c3 : wr.cell? ⟨w.heap.size, 3, none⟩ = some (.slice A l.length c) := by rw [Lib.cell_of_heap hbx]; rfl
          by_cases hlt : k < l.length
          · have i1 : decide ((k : Int) < (l.length : Int)) = true := decide_eq_true (by omega)
            have i1' : decide (k < l.length) = true := decide_eq_true hlt
            rw [List.drop_eq_getElem_cons hlt, valK] at hRk
            have hlt0 : (k : Int) < (l.length : Int) := by omega
            obtain ⟨b, off, A', c', rfl, hbl, k0, k1, k2, k3, hl', hc', hk'⟩ := kids_cells hlt (kidsIn_below HKK.out hb (Nat.le_refl _))
            have hC := HIH.out l[k] A' c' (lv + 1) wr (HDK.out _ (List.getElem_mem hlt)) (kidsIn_below hk' (Below.refl w.heap.size wr) hb.size) hl' hc' (by omega)
            rw [HLV.out] at hC
            have HC := Lib.hid hC
            have HB := Lib.hid (And.intro hb hbx)
            have HRk := Lib.hid hRk
            clear hRk hb hbx hl' hc' hk' HIH HDK HKK hh hC
            generalize l[k] = y at *
            go_wp2_with fail
            refine HC.out.mono ?_
            rintro e w4 ⟨rfl, hb4⟩
            have HH := Lib.hid (show Below w.heap.size w w4 ∧ w4.heap[w.heap.size]? = some (.cells #[.int .i64 1, .int .i64 n, .string s, .slice (some ⟨b, off, none⟩) l.length c] 24) from ⟨HB.out.1.trans (hb4.mono HB.out.1.size), (hb4.block _ (Array.getElem?_eq_some_iff.1 HB.out.2).1).trans HB.out.2⟩)
            clear hb4 HC HB c3 k0 k1 k2 k3
            by_cases h0 : valE y (lv + 1) = 0
            · have hV2 : Hid (V0 = valK (l.drop (k + 1)) (lv + 1)) := Lib.hid (by rw [HRk.out, if_pos h0])
              rw [h0]
              clear HRk h0
              go_wp2_with fail
              go_roundw
              case rel => exact ⟨k + 1, by omega, by go_num, Lib.hid ⟨hV2.out, HH.out⟩⟩
              case measure => simp [intOf]; omega
            · have hV2 : V0 = valE y (lv + 1) := by rw [HRk.out, if_neg h0]
              have t1 : (((valE y (lv + 1) : Nat) : Int) != 0) = true := by rw [bne_iff_ne]; omega
              rw [← hV2] at t1 ⊢
              clear HRk h0 hV2
              go_wp2_with fail
              go_ret
              exact ⟨rfl, HH.out.1⟩
          · have i1 : decide ((k : Int) < (l.length : Int)) = false := decide_eq_false (by omega)
            have i1' : decide (k < l.length) = false := decide_eq_false hlt
            have hRR : V0 = 0 := by rw [hRk, List.drop_eq_nil_of_le (by omega), valK]
            subst hRR
            clear HIH HDK HKK hh hbx hRk
            go_wp2_with fail
            go_ret
            exact ⟨rfl, hb⟩
    · have es : (s.size == 0) = false := by rw [beq_eq_false_iff_ne]; exact hs0
      obtain ⟨f1, f2⟩ := Cc.nonempty_tests hs0
      rw [es] at hsh
      have hsh : sh = false := by rw [hsh]; rfl
      rw [hsh, if_neg (by simp)]
      clear hsh HIH HDK HKK HV0 HLV hK1
      go_enter Tryd.func27, Tryd.ntmps27
      go_wp2_with fail
      go_quiet ((go_at_call 43; exact Calls.quiet_of_same (HKD.out _)))
      obtain ⟨V, hV⟩ : ∃ V, V = (w.alloc (.cells #[.int .i64 1, .int .i64 n, .string s, .slice A l.length c] 24)).drewN nq := ⟨_, rfl⟩
      rw [← hV]
      have hbV : Below w.heap.size w V := by rw [hV]; exact below_drewN' hb0 _
      have hnV : V.heap[w.heap.size]? = some (.cells #[.int .i64 1, .int .i64 n, .string s, .slice A l.length c] 24) := by rw [hV, drewN_heap nq _ _]; exact hn0
      have HbV := Lib.hid hbV
      have HnV := Lib.hid hnV
      have e1 : V.cell? ⟨w.heap.size, 1, none⟩ = some (.int .i64 n) := by rw [Lib.cell_of_heap hnV]; rfl
      have e0 : V.cell? ⟨w.heap.size, 0, none⟩ = some (.int .i64 (1)) := by rw [Lib.cell_of_heap hnV]; rfl
      have e2 : V.cell? ⟨w.heap.size, 2, none⟩ = some (.string s) := by rw [Lib.cell_of_heap hnV]; rfl
      clear hV hbV hnV c0 c2 c3
      go_wp2_with fail
      go_ret
      exact ⟨rfl, HbV.out⟩
  · have k1 : ((l.length : Int) != K) = true := by rw [bne_iff_ne]; exact hK1
    have k1' : ((l.length : Int) == K) = false := by rw [beq_eq_false_iff_ne]; exact hK1
    rw [decide_eq_false hK1, Bool.false_and, Bool.false_and] at hsh
    rw [hsh, if_neg (by simp)]
    clear hsh HIH HDK HKK HV0 HLV hK1
    go_enter Tryd.func27, Tryd.ntmps27
    go_wp2_with fail
    go_quiet ((go_at_call 43; exact Calls.quiet_of_same (HKD.out _)))
    obtain ⟨V, hV⟩ : ∃ V, V = (w.alloc (.cells #[.int .i64 1, .int .i64 n, .string s, .slice A l.length c] 24)).drewN nq := ⟨_, rfl⟩
    rw [← hV]
    have hbV : Below w.heap.size w V := by rw [hV]; exact below_drewN' hb0 _
    have hnV : V.heap[w.heap.size]? = some (.cells #[.int .i64 1, .int .i64 n, .string s, .slice A l.length c] 24) := by rw [hV, drewN_heap nq _ _]; exact hn0
    have HbV := Lib.hid hbV
    have HnV := Lib.hid hnV
    have e1 : V.cell? ⟨w.heap.size, 1, none⟩ = some (.int .i64 n) := by rw [Lib.cell_of_heap hnV]; rfl
    have e0 : V.cell? ⟨w.heap.size, 0, none⟩ = some (.int .i64 (1)) := by rw [Lib.cell_of_heap hnV]; rfl
    have e2 : V.cell? ⟨w.heap.size, 2, none⟩ = some (.string s) := by rw [Lib.cell_of_heap hnV]; rfl
    clear hV hbV hnV c0 c2 c3
    go_wp2_with fail
    go_ret
    exact ⟨rfl, HbV.out⟩
set_option maxHeartbeats 16000000 in
set_option maxRecDepth 100000 in
theorem rval_var (N : Nat) (ih : RVal N) (op n : Int) (s : ByteArray) (l : List Ex) (A : Option Addr) (c lv : Nat) (w : World) (hop : op = 2) (HDK : Hid (∀ y ∈ l, dep y ≤ N)) (HKK : Hid (KidsIn w w.heap.size l A)) (hlc : l.length ≤ c) (hcm : c ≤ 9223372036854775807) (hlv : lv < 32) (sh : Bool) (V0 : Nat) (K : Int)
    (hsh : sh = (decide ((l.length : Int) = K) && ((!(s.size == 0)) == named op) && shapedN op n)) (HV0 : Hid (V0 = valK l (lv + 1))) (HKD : Hid (∀ W : World, Calls Tryd.prog 43 #[.int .i64 op] W fun e w' => e = .returned (.int .i64 K) ∧ w' = W)) :
    Calls Tryd.prog 27 #[.agg #[.int .i64 op, .int .i64 n, .string s, .slice A l.length c], .int .i64 lv] w fun e w' => e = .returned (.int .i64 ((if sh = true then (if s.size ≠ 0 ∧ nameB s = false then 10 else valK l (lv + 1)) else 1 : Nat) : Int)) ∧ Below w.heap.size w w' := by
  have HIH := Lib.hid ih
  have HLV := Lib.hid (show (((lv + 1 : Nat) : Nat) : Int) = (lv : Int) + 1 by omega)
  have wl : IntKind.i64.wrap ((lv : Int) + 1) = (lv : Int) + 1 := IntWalk.i64_in _ (by omega)
  have t0 : decide ((32 : Int) ≤ (lv : Int)) = false := decide_eq_false (by omega)
  have t0' : decide (32 ≤ lv) = false := decide_eq_false (by omega)
  clear ih
  subst hop
  have hb0 := (Below.refl w.heap.size w).alloc (Nat.le_refl _) (.cells #[.int .i64 2, .int .i64 n, .string s, .slice A l.length c] 24)
  have hn0 := heap_alloc_new w (.cells #[.int .i64 2, .int .i64 n, .string s, .slice A l.length c] 24)
  have hnm : named 2 = true := rfl
  rw [hnm] at hsh
  have c0 : (w.alloc (.cells #[.int .i64 2, .int .i64 n, .string s, .slice A l.length c] 24)).cell? ⟨w.heap.size, 0, none⟩ = some (.int .i64 (2)) := by rw [Lib.cell_of_heap hn0]; rfl
  have c2 : (w.alloc (.cells #[.int .i64 2, .int .i64 n, .string s, .slice A l.length c] 24)).cell? ⟨w.heap.size, 2, none⟩ = some (.string s) := by rw [Lib.cell_of_heap hn0]; rfl
  have c3 : (w.alloc (.cells #[.int .i64 2, .int .i64 n, .string s, .slice A l.length c] 24)).cell? ⟨w.heap.size, 3, none⟩ = some (.slice A l.length c) := by rw [Lib.cell_of_heap hn0]; rfl
  by_cases hK1 : (l.length : Int) = K
  · have k1 : ((l.length : Int) != K) = false := by rw [bne_eq_false_iff_eq]; exact hK1
    have k1' : ((l.length : Int) == K) = true := by rw [beq_iff_eq]; exact hK1
    rw [decide_eq_true hK1, Bool.true_and] at hsh
    by_cases hs0 : s.size = 0
    · have es : (s.size == 0) = true := by rw [beq_iff_eq]; exact hs0
      obtain ⟨f1, f2⟩ := Cc.empty_tests hs0
      rw [es] at hsh
      have hsh : sh = false := by rw [hsh]; rfl
      rw [hsh, if_neg (by simp)]
      clear hsh HIH HDK HKK HV0 HLV hK1
      go_enter Tryd.func27, Tryd.ntmps27
      go_wp2_with fail
      go_quiet ((go_at_call 43; exact Calls.quiet_of_same (HKD.out _)))
      obtain ⟨V, hV⟩ : ∃ V, V = (w.alloc (.cells #[.int .i64 2, .int .i64 n, .string s, .slice A l.length c] 24)).drewN nq := ⟨_, rfl⟩
      rw [← hV]
      have hbV : Below w.heap.size w V := by rw [hV]; exact below_drewN' hb0 _
      have hnV : V.heap[w.heap.size]? = some (.cells #[.int .i64 2, .int .i64 n, .string s, .slice A l.length c] 24) := by rw [hV, drewN_heap nq _ _]; exact hn0
      have HbV := Lib.hid hbV
      have HnV := Lib.hid hnV
      have e1 : V.cell? ⟨w.heap.size, 1, none⟩ = some (.int .i64 n) := by rw [Lib.cell_of_heap hnV]; rfl
      have e0 : V.cell? ⟨w.heap.size, 0, none⟩ = some (.int .i64 (2)) := by rw [Lib.cell_of_heap hnV]; rfl
      have e2 : V.cell? ⟨w.heap.size, 2, none⟩ = some (.string s) := by rw [Lib.cell_of_heap hnV]; rfl
      clear hV hbV hnV c0 c2 c3
      go_wp2_with fail
      go_ret
      exact ⟨rfl, HbV.out⟩
    · have es : (s.size == 0) = false := by rw [beq_eq_false_iff_ne]; exact hs0
      obtain ⟨f1, f2⟩ := Cc.nonempty_tests hs0
      rw [es] at hsh
      have hsh' : sh = shapedN 2 n := by rw [hsh]; rfl
      clear hsh
      by_cases hbad : n ≠ 0
      · have hsf : sh = false := by rw [hsh']; unfold shapedN; simp; omega
        have b1 : (n != 0) = true := by rw [bne_iff_ne]; exact hbad
        have b2 : (n == 0) = false := by rw [beq_eq_false_iff_ne]; exact hbad
        rw [hsf, if_neg (by simp)]
        clear hsh' HIH HDK HKK HV0 HLV hK1
        go_enter Tryd.func27, Tryd.ntmps27
        go_wp2_with fail
        go_quiet ((go_at_call 43; exact Calls.quiet_of_same (HKD.out _)))
        obtain ⟨V, hV⟩ : ∃ V, V = (w.alloc (.cells #[.int .i64 2, .int .i64 n, .string s, .slice A l.length c] 24)).drewN nq := ⟨_, rfl⟩
        rw [← hV]
        have hbV : Below w.heap.size w V := by rw [hV]; exact below_drewN' hb0 _
        have hnV : V.heap[w.heap.size]? = some (.cells #[.int .i64 2, .int .i64 n, .string s, .slice A l.length c] 24) := by rw [hV, drewN_heap nq _ _]; exact hn0
        have HbV := Lib.hid hbV
        have HnV := Lib.hid hnV
        have e1 : V.cell? ⟨w.heap.size, 1, none⟩ = some (.int .i64 n) := by rw [Lib.cell_of_heap hnV]; rfl
        have e0 : V.cell? ⟨w.heap.size, 0, none⟩ = some (.int .i64 (2)) := by rw [Lib.cell_of_heap hnV]; rfl
        have e2 : V.cell? ⟨w.heap.size, 2, none⟩ = some (.string s) := by rw [Lib.cell_of_heap hnV]; rfl
        clear hV hbV hnV c0 c2 c3
        go_wp2_with fail
        go_ret
        exact ⟨rfl, HbV.out⟩
      · have hsf : sh = true := by rw [hsh']; unfold shapedN; simp; omega
        have b1 : (n != 0) = false := by rw [bne_eq_false_iff_eq]; omega
        have b2 : (n == 0) = true := by rw [beq_iff_eq]; omega
        rw [hsf, if_pos rfl]
        by_cases hnb : nameB s = true
        · rw [if_neg (by rintro ⟨_, h⟩; rw [hnb] at h; cases h)]
          rw [← HV0.out]
          clear hsh' hK1 hbad
          go_enter Tryd.func27, Tryd.ntmps27
          go_wp2_with fail
          go_quiet ((go_at_call 43; exact Calls.quiet_of_same (HKD.out _)))
          obtain ⟨V, hV⟩ : ∃ V, V = (w.alloc (.cells #[.int .i64 2, .int .i64 n, .string s, .slice A l.length c] 24)).drewN nq := ⟨_, rfl⟩
          rw [← hV]
          have hbV : Below w.heap.size w V := by rw [hV]; exact below_drewN' hb0 _
          have hnV : V.heap[w.heap.size]? = some (.cells #[.int .i64 2, .int .i64 n, .string s, .slice A l.length c] 24) := by rw [hV, drewN_heap nq _ _]; exact hn0
          have HbV := Lib.hid hbV
          have HnV := Lib.hid hnV
          have e1 : V.cell? ⟨w.heap.size, 1, none⟩ = some (.int .i64 n) := by rw [Lib.cell_of_heap hnV]; rfl
          have e0 : V.cell? ⟨w.heap.size, 0, none⟩ = some (.int .i64 (2)) := by rw [Lib.cell_of_heap hnV]; rfl
          have e2 : V.cell? ⟨w.heap.size, 2, none⟩ = some (.string s) := by rw [Lib.cell_of_heap hnV]; rfl
          clear hV hbV hnV c0 c2 c3
          go_wp2_with fail
          refine (rname_ok s _).mono ?_
          rintro e w1 ⟨rfl, rfl⟩
          rw [hnb]
          go_wp2_with fail
          go_loopw [6] (fun iv wr => ∃ k : Nat, k ≤ l.length ∧ iv = .int .i64 k ∧ Hid (V0 = valK (l.drop k) (lv + 1) ∧ Below w.heap.size w wr ∧ wr.heap[w.heap.size]? = some (.cells #[.int .i64 2, .int .i64 n, .string s, .slice A l.length c] 24))) (fun iv _ => l.length - (intOf iv).toNat)
          case atStart => exact ⟨0, by omega, by go_num, Lib.hid ⟨by rw [List.drop_zero]; exact HV0.out, HbV.out, HnV.out⟩⟩
          case round =>
            obtain ⟨k, hk, rfl, hh⟩ := hrel
            clear HV0 HbV HnV e0 e1 e2
            obtain ⟨hRk, hb, hbx⟩ := hh.out
            have c3 : wr.cell? ⟨w.heap.size, 3, none⟩ = some (.slice A l.length c) := by rw [Lib.cell_of_heap hbx]; rfl
            by_cases hlt : k < l.length
            · have i1 : decide ((k : Int) < (l.length : Int)) = true := decide_eq_true (by omega)
              have i1' : decide (k < l.length) = true := decide_eq_true hlt
              rw [List.drop_eq_getElem_cons hlt, valK] at hRk
              have hlt0 : (k : Int) < (l.length : Int) := by omega
              obtain ⟨b, off, A', c', rfl, hbl, k0, k1, k2, k3, hl', hc', hk'⟩ := kids_cells hlt (kidsIn_below HKK.out hb (Nat.le_refl _))
              have hC := HIH.out l[k] A' c' (lv + 1) wr (HDK.out _ (List.getElem_mem hlt)) (kidsIn_below hk' (Below.refl w.heap.size wr) hb.size) hl' hc' (by omega)
              rw [HLV.out] at hC
              have HC := Lib.hid hC
              have HB := Lib.hid (And.intro hb hbx)
              have HRk := Lib.hid hRk
              clear hRk hb hbx hl' hc' hk' HIH HDK HKK hh hC
              generalize l[k] = y at *
              go_wp2_with fail
              refine HC.out.mono ?_
              rintro e w4 ⟨rfl, hb4⟩
              have HH := Lib.hid (show Below w.heap.size w w4 ∧ w4.heap[w.heap.size]? = some (.cells #[.int .i64 2, .int .i64 n, .string s, .slice (some ⟨b, off, none⟩) l.length c] 24) from ⟨HB.out.1.trans (hb4.mono HB.out.1.size), (hb4.block _ (Array.getElem?_eq_some_iff.1 HB.out.2).1).trans HB.out.2⟩)
              clear hb4 HC HB c3 k0 k1 k2 k3
              by_cases h0 : valE y (lv + 1) = 0
              · have hV2 : Hid (V0 = valK (l.drop (k + 1)) (lv + 1)) := Lib.hid (by rw [HRk.out, if_pos h0])
                rw [h0]
                clear HRk h0
                go_wp2_with fail
                go_roundw
                case rel => exact ⟨k + 1, by omega, by go_num, Lib.hid ⟨hV2.out, HH.out⟩⟩
                case measure => simp [intOf]; omega
              · have hV2 : V0 = valE y (lv + 1) := by rw [HRk.out, if_neg h0]
                have t1 : (((valE y (lv + 1) : Nat) : Int) != 0) = true := by rw [bne_iff_ne]; omega
                rw [← hV2] at t1 ⊢
                clear HRk h0 hV2
                go_wp2_with fail
                go_ret
                exact ⟨rfl, HH.out.1⟩
            · have i1 : decide ((k : Int) < (l.length : Int)) = false := decide_eq_false (by omega)
              have i1' : decide (k < l.length) = false := decide_eq_false hlt
              have hRR : V0 = 0 := by rw [hRk, List.drop_eq_nil_of_le (by omega), valK]
              subst hRR
              clear HIH HDK HKK hh hbx hRk
              go_wp2_with fail
              go_ret
              exact ⟨rfl, hb⟩
        · have hnb : nameB s = false := by simpa using hnb
          rw [if_pos ⟨hs0, hnb⟩]
          clear hsh' HIH HDK HKK HV0 HLV hK1
          go_enter Tryd.func27, Tryd.ntmps27
          go_wp2_with fail
          go_quiet ((go_at_call 43; exact Calls.quiet_of_same (HKD.out _)))
          obtain ⟨V, hV⟩ : ∃ V, V = (w.alloc (.cells #[.int .i64 2, .int .i64 n, .string s, .slice A l.length c] 24)).drewN nq := ⟨_, rfl⟩
          rw [← hV]
          have hbV : Below w.heap.size w V := by rw [hV]; exact below_drewN' hb0 _
          have hnV : V.heap[w.heap.size]? = some (.cells #[.int .i64 2, .int .i64 n, .string s, .slice A l.length c] 24) := by rw [hV, drewN_heap nq _ _]; exact hn0
          have HbV := Lib.hid hbV
          have HnV := Lib.hid hnV
          have e1 : V.cell? ⟨w.heap.size, 1, none⟩ = some (.int .i64 n) := by rw [Lib.cell_of_heap hnV]; rfl
          have e0 : V.cell? ⟨w.heap.size, 0, none⟩ = some (.int .i64 (2)) := by rw [Lib.cell_of_heap hnV]; rfl
          have e2 : V.cell? ⟨w.heap.size, 2, none⟩ = some (.string s) := by rw [Lib.cell_of_heap hnV]; rfl
          clear hV hbV hnV c0 c2 c3
          go_wp2_with fail
          refine (rname_ok s _).mono ?_
          rintro e w1 ⟨rfl, rfl⟩
          rw [hnb]
          go_wp2_with fail
          go_ret
          exact ⟨rfl, HbV.out⟩
  · have k1 : ((l.length : Int) != K) = true := by rw [bne_iff_ne]; exact hK1
    have k1' : ((l.length : Int) == K) = false := by rw [beq_eq_false_iff_ne]; exact hK1
    rw [decide_eq_false hK1, Bool.false_and, Bool.false_and] at hsh
    rw [hsh, if_neg (by simp)]
    clear hsh HIH HDK HKK HV0 HLV hK1
    go_enter Tryd.func27, Tryd.ntmps27
    go_wp2_with fail
    go_quiet ((go_at_call 43; exact Calls.quiet_of_same (HKD.out _)))
    obtain ⟨V, hV⟩ : ∃ V, V = (w.alloc (.cells #[.int .i64 2, .int .i64 n, .string s, .slice A l.length c] 24)).drewN nq := ⟨_, rfl⟩
    rw [← hV]
    have hbV : Below w.heap.size w V := by rw [hV]; exact below_drewN' hb0 _
    have hnV : V.heap[w.heap.size]? = some (.cells #[.int .i64 2, .int .i64 n, .string s, .slice A l.length c] 24) := by rw [hV, drewN_heap nq _ _]; exact hn0
    have HbV := Lib.hid hbV
    have HnV := Lib.hid hnV
    have e1 : V.cell? ⟨w.heap.size, 1, none⟩ = some (.int .i64 n) := by rw [Lib.cell_of_heap hnV]; rfl
    have e0 : V.cell? ⟨w.heap.size, 0, none⟩ = some (.int .i64 (2)) := by rw [Lib.cell_of_heap hnV]; rfl
    have e2 : V.cell? ⟨w.heap.size, 2, none⟩ = some (.string s) := by rw [Lib.cell_of_heap hnV]; rfl
    clear hV hbV hnV c0 c2 c3
    go_wp2_with fail
    go_ret
    exact ⟨rfl, HbV.out⟩
set_option maxHeartbeats 16000000 in
set_option maxRecDepth 100000 in
theorem rval_set (N : Nat) (ih : RVal N) (op n : Int) (s : ByteArray) (l : List Ex) (A : Option Addr) (c lv : Nat) (w : World) (hop : op = 26) (HDK : Hid (∀ y ∈ l, dep y ≤ N)) (HKK : Hid (KidsIn w w.heap.size l A)) (hlc : l.length ≤ c) (hcm : c ≤ 9223372036854775807) (hlv : lv < 32) (sh : Bool) (V0 : Nat) (K : Int)
    (hsh : sh = (decide ((l.length : Int) = K) && ((!(s.size == 0)) == named op) && shapedN op n)) (HV0 : Hid (V0 = valK l (lv + 1))) (HKD : Hid (∀ W : World, Calls Tryd.prog 43 #[.int .i64 op] W fun e w' => e = .returned (.int .i64 K) ∧ w' = W)) :
    Calls Tryd.prog 27 #[.agg #[.int .i64 op, .int .i64 n, .string s, .slice A l.length c], .int .i64 lv] w fun e w' => e = .returned (.int .i64 ((if sh = true then (if s.size ≠ 0 ∧ nameB s = false then 10 else valK l (lv + 1)) else 1 : Nat) : Int)) ∧ Below w.heap.size w w' := by
  have HIH := Lib.hid ih
  have HLV := Lib.hid (show (((lv + 1 : Nat) : Nat) : Int) = (lv : Int) + 1 by omega)
  have wl : IntKind.i64.wrap ((lv : Int) + 1) = (lv : Int) + 1 := IntWalk.i64_in _ (by omega)
  have t0 : decide ((32 : Int) ≤ (lv : Int)) = false := decide_eq_false (by omega)
  have t0' : decide (32 ≤ lv) = false := decide_eq_false (by omega)
  clear ih
  subst hop
  have hb0 := (Below.refl w.heap.size w).alloc (Nat.le_refl _) (.cells #[.int .i64 26, .int .i64 n, .string s, .slice A l.length c] 24)
  have hn0 := heap_alloc_new w (.cells #[.int .i64 26, .int .i64 n, .string s, .slice A l.length c] 24)
  have hnm : named 26 = true := rfl
  rw [hnm] at hsh
  have c0 : (w.alloc (.cells #[.int .i64 26, .int .i64 n, .string s, .slice A l.length c] 24)).cell? ⟨w.heap.size, 0, none⟩ = some (.int .i64 (26)) := by rw [Lib.cell_of_heap hn0]; rfl
  have c2 : (w.alloc (.cells #[.int .i64 26, .int .i64 n, .string s, .slice A l.length c] 24)).cell? ⟨w.heap.size, 2, none⟩ = some (.string s) := by rw [Lib.cell_of_heap hn0]; rfl
  have c3 : (w.alloc (.cells #[.int .i64 26, .int .i64 n, .string s, .slice A l.length c] 24)).cell? ⟨w.heap.size, 3, none⟩ = some (.slice A l.length c) := by rw [Lib.cell_of_heap hn0]; rfl
  by_cases hK1 : (l.length : Int) = K
  · have k1 : ((l.length : Int) != K) = false := by rw [bne_eq_false_iff_eq]; exact hK1
    have k1' : ((l.length : Int) == K) = true := by rw [beq_iff_eq]; exact hK1
    rw [decide_eq_true hK1, Bool.true_and] at hsh
    by_cases hs0 : s.size = 0
    · have es : (s.size == 0) = true := by rw [beq_iff_eq]; exact hs0
      obtain ⟨f1, f2⟩ := Cc.empty_tests hs0
      rw [es] at hsh
      have hsh : sh = false := by rw [hsh]; rfl
      rw [hsh, if_neg (by simp)]
      clear hsh HIH HDK HKK HV0 HLV hK1
      go_enter Tryd.func27, Tryd.ntmps27
      go_wp2_with fail
      go_quiet ((go_at_call 43; exact Calls.quiet_of_same (HKD.out _)))
      obtain ⟨V, hV⟩ : ∃ V, V = (w.alloc (.cells #[.int .i64 26, .int .i64 n, .string s, .slice A l.length c] 24)).drewN nq := ⟨_, rfl⟩
      rw [← hV]
      have hbV : Below w.heap.size w V := by rw [hV]; exact below_drewN' hb0 _
      have hnV : V.heap[w.heap.size]? = some (.cells #[.int .i64 26, .int .i64 n, .string s, .slice A l.length c] 24) := by rw [hV, drewN_heap nq _ _]; exact hn0
      have HbV := Lib.hid hbV
      have HnV := Lib.hid hnV
      have e1 : V.cell? ⟨w.heap.size, 1, none⟩ = some (.int .i64 n) := by rw [Lib.cell_of_heap hnV]; rfl
      have e0 : V.cell? ⟨w.heap.size, 0, none⟩ = some (.int .i64 (26)) := by rw [Lib.cell_of_heap hnV]; rfl
      have e2 : V.cell? ⟨w.heap.size, 2, none⟩ = some (.string s) := by rw [Lib.cell_of_heap hnV]; rfl
      clear hV hbV hnV c0 c2 c3
      go_wp2_with fail
      go_ret
      exact ⟨rfl, HbV.out⟩
    · have es : (s.size == 0) = false := by rw [beq_eq_false_iff_ne]; exact hs0
      obtain ⟨f1, f2⟩ := Cc.nonempty_tests hs0
      rw [es] at hsh
      have hsh' : sh = shapedN 26 n := by rw [hsh]; rfl
      clear hsh
      by_cases hbad : cmpR n = false
      · have hsf : sh = false := by rw [hsh']; unfold shapedN; simp; rw [asg_iff]; exact hbad

        rw [hsf, if_neg (by simp)]
        clear hsh' HIH HDK HKK HV0 HLV hK1
        go_enter Tryd.func27, Tryd.ntmps27
        go_wp2_with fail
        go_quiet ((go_at_call 43; exact Calls.quiet_of_same (HKD.out _)))
        obtain ⟨V, hV⟩ : ∃ V, V = (w.alloc (.cells #[.int .i64 26, .int .i64 n, .string s, .slice A l.length c] 24)).drewN nq := ⟨_, rfl⟩
        rw [← hV]
        have hbV : Below w.heap.size w V := by rw [hV]; exact below_drewN' hb0 _
        have hnV : V.heap[w.heap.size]? = some (.cells #[.int .i64 26, .int .i64 n, .string s, .slice A l.length c] 24) := by rw [hV, drewN_heap nq _ _]; exact hn0
        have HbV := Lib.hid hbV
        have HnV := Lib.hid hnV
        have e1 : V.cell? ⟨w.heap.size, 1, none⟩ = some (.int .i64 n) := by rw [Lib.cell_of_heap hnV]; rfl
        have e0 : V.cell? ⟨w.heap.size, 0, none⟩ = some (.int .i64 (26)) := by rw [Lib.cell_of_heap hnV]; rfl
        have e2 : V.cell? ⟨w.heap.size, 2, none⟩ = some (.string s) := by rw [Lib.cell_of_heap hnV]; rfl
        clear hV hbV hnV c0 c2 c3
        go_wp2_with fail
        refine (compound_c n _).mono ?_
        rintro e w1 ⟨rfl, rfl⟩
        rw [hbad]
        go_wp2_with fail
        go_ret
        exact ⟨rfl, HbV.out⟩
      · have hsf : sh = true := by rw [hsh']; unfold shapedN; simp; rw [asg_iff]; simpa using hbad
        have hgood : cmpR n = true := by simpa using hbad
        rw [hsf, if_pos rfl]
        by_cases hnb : nameB s = true
        · rw [if_neg (by rintro ⟨_, h⟩; rw [hnb] at h; cases h)]
          rw [← HV0.out]
          clear hsh' hK1 hbad
          go_enter Tryd.func27, Tryd.ntmps27
          go_wp2_with fail
          go_quiet ((go_at_call 43; exact Calls.quiet_of_same (HKD.out _)))
          obtain ⟨V, hV⟩ : ∃ V, V = (w.alloc (.cells #[.int .i64 26, .int .i64 n, .string s, .slice A l.length c] 24)).drewN nq := ⟨_, rfl⟩
          rw [← hV]
          have hbV : Below w.heap.size w V := by rw [hV]; exact below_drewN' hb0 _
          have hnV : V.heap[w.heap.size]? = some (.cells #[.int .i64 26, .int .i64 n, .string s, .slice A l.length c] 24) := by rw [hV, drewN_heap nq _ _]; exact hn0
          have HbV := Lib.hid hbV
          have HnV := Lib.hid hnV
          have e1 : V.cell? ⟨w.heap.size, 1, none⟩ = some (.int .i64 n) := by rw [Lib.cell_of_heap hnV]; rfl
          have e0 : V.cell? ⟨w.heap.size, 0, none⟩ = some (.int .i64 (26)) := by rw [Lib.cell_of_heap hnV]; rfl
          have e2 : V.cell? ⟨w.heap.size, 2, none⟩ = some (.string s) := by rw [Lib.cell_of_heap hnV]; rfl
          clear hV hbV hnV c0 c2 c3
          go_wp2_with fail
          refine (compound_c n _).mono ?_
          rintro e w1 ⟨rfl, rfl⟩
          rw [hgood]
          go_wp2_with fail
          refine (rname_ok s _).mono ?_
          rintro e w1 ⟨rfl, rfl⟩
          rw [hnb]
          go_wp2_with fail
          go_loopw [6] (fun iv wr => ∃ k : Nat, k ≤ l.length ∧ iv = .int .i64 k ∧ Hid (V0 = valK (l.drop k) (lv + 1) ∧ Below w.heap.size w wr ∧ wr.heap[w.heap.size]? = some (.cells #[.int .i64 26, .int .i64 n, .string s, .slice A l.length c] 24))) (fun iv _ => l.length - (intOf iv).toNat)
          case atStart => exact ⟨0, by omega, by go_num, Lib.hid ⟨by rw [List.drop_zero]; exact HV0.out, HbV.out, HnV.out⟩⟩
          case round =>
            obtain ⟨k, hk, rfl, hh⟩ := hrel
            clear HV0 HbV HnV e0 e1 e2
            obtain ⟨hRk, hb, hbx⟩ := hh.out
            have c3 : wr.cell? ⟨w.heap.size, 3, none⟩ = some (.slice A l.length c) := by rw [Lib.cell_of_heap hbx]; rfl
            by_cases hlt : k < l.length
            · have i1 : decide ((k : Int) < (l.length : Int)) = true := decide_eq_true (by omega)
              have i1' : decide (k < l.length) = true := decide_eq_true hlt
              rw [List.drop_eq_getElem_cons hlt, valK] at hRk
              have hlt0 : (k : Int) < (l.length : Int) := by omega
              obtain ⟨b, off, A', c', rfl, hbl, k0, k1, k2, k3, hl', hc', hk'⟩ := kids_cells hlt (kidsIn_below HKK.out hb (Nat.le_refl _))
              have hC := HIH.out l[k] A' c' (lv + 1) wr (HDK.out _ (List.getElem_mem hlt)) (kidsIn_below hk' (Below.refl w.heap.size wr) hb.size) hl' hc' (by omega)
              rw [HLV.out] at hC
              have HC := Lib.hid hC
              have HB := Lib.hid (And.intro hb hbx)
              have HRk := Lib.hid hRk
              clear hRk hb hbx hl' hc' hk' HIH HDK HKK hh hC
              generalize l[k] = y at *
              go_wp2_with fail
              refine HC.out.mono ?_
              rintro e w4 ⟨rfl, hb4⟩
              have HH := Lib.hid (show Below w.heap.size w w4 ∧ w4.heap[w.heap.size]? = some (.cells #[.int .i64 26, .int .i64 n, .string s, .slice (some ⟨b, off, none⟩) l.length c] 24) from ⟨HB.out.1.trans (hb4.mono HB.out.1.size), (hb4.block _ (Array.getElem?_eq_some_iff.1 HB.out.2).1).trans HB.out.2⟩)
              clear hb4 HC HB c3 k0 k1 k2 k3
              by_cases h0 : valE y (lv + 1) = 0
              · have hV2 : Hid (V0 = valK (l.drop (k + 1)) (lv + 1)) := Lib.hid (by rw [HRk.out, if_pos h0])
                rw [h0]
                clear HRk h0
                go_wp2_with fail
                go_roundw
                case rel => exact ⟨k + 1, by omega, by go_num, Lib.hid ⟨hV2.out, HH.out⟩⟩
                case measure => simp [intOf]; omega
              · have hV2 : V0 = valE y (lv + 1) := by rw [HRk.out, if_neg h0]
                have t1 : (((valE y (lv + 1) : Nat) : Int) != 0) = true := by rw [bne_iff_ne]; omega
                rw [← hV2] at t1 ⊢
                clear HRk h0 hV2
                go_wp2_with fail
                go_ret
                exact ⟨rfl, HH.out.1⟩
            · have i1 : decide ((k : Int) < (l.length : Int)) = false := decide_eq_false (by omega)
              have i1' : decide (k < l.length) = false := decide_eq_false hlt
              have hRR : V0 = 0 := by rw [hRk, List.drop_eq_nil_of_le (by omega), valK]
              subst hRR
              clear HIH HDK HKK hh hbx hRk
              go_wp2_with fail
              go_ret
              exact ⟨rfl, hb⟩
        · have hnb : nameB s = false := by simpa using hnb
          rw [if_pos ⟨hs0, hnb⟩]
          clear hsh' HIH HDK HKK HV0 HLV hK1
          go_enter Tryd.func27, Tryd.ntmps27
          go_wp2_with fail
          go_quiet ((go_at_call 43; exact Calls.quiet_of_same (HKD.out _)))
          obtain ⟨V, hV⟩ : ∃ V, V = (w.alloc (.cells #[.int .i64 26, .int .i64 n, .string s, .slice A l.length c] 24)).drewN nq := ⟨_, rfl⟩
          rw [← hV]
          have hbV : Below w.heap.size w V := by rw [hV]; exact below_drewN' hb0 _
          have hnV : V.heap[w.heap.size]? = some (.cells #[.int .i64 26, .int .i64 n, .string s, .slice A l.length c] 24) := by rw [hV, drewN_heap nq _ _]; exact hn0
          have HbV := Lib.hid hbV
          have HnV := Lib.hid hnV
          have e1 : V.cell? ⟨w.heap.size, 1, none⟩ = some (.int .i64 n) := by rw [Lib.cell_of_heap hnV]; rfl
          have e0 : V.cell? ⟨w.heap.size, 0, none⟩ = some (.int .i64 (26)) := by rw [Lib.cell_of_heap hnV]; rfl
          have e2 : V.cell? ⟨w.heap.size, 2, none⟩ = some (.string s) := by rw [Lib.cell_of_heap hnV]; rfl
          clear hV hbV hnV c0 c2 c3
          go_wp2_with fail
          refine (compound_c n _).mono ?_
          rintro e w1 ⟨rfl, rfl⟩
          rw [hgood]
          go_wp2_with fail
          refine (rname_ok s _).mono ?_
          rintro e w1 ⟨rfl, rfl⟩
          rw [hnb]
          go_wp2_with fail
          go_ret
          exact ⟨rfl, HbV.out⟩
  · have k1 : ((l.length : Int) != K) = true := by rw [bne_iff_ne]; exact hK1
    have k1' : ((l.length : Int) == K) = false := by rw [beq_eq_false_iff_ne]; exact hK1
    rw [decide_eq_false hK1, Bool.false_and, Bool.false_and] at hsh
    rw [hsh, if_neg (by simp)]
    clear hsh HIH HDK HKK HV0 HLV hK1
    go_enter Tryd.func27, Tryd.ntmps27
    go_wp2_with fail
    go_quiet ((go_at_call 43; exact Calls.quiet_of_same (HKD.out _)))
    obtain ⟨V, hV⟩ : ∃ V, V = (w.alloc (.cells #[.int .i64 26, .int .i64 n, .string s, .slice A l.length c] 24)).drewN nq := ⟨_, rfl⟩
    rw [← hV]
    have hbV : Below w.heap.size w V := by rw [hV]; exact below_drewN' hb0 _
    have hnV : V.heap[w.heap.size]? = some (.cells #[.int .i64 26, .int .i64 n, .string s, .slice A l.length c] 24) := by rw [hV, drewN_heap nq _ _]; exact hn0
    have HbV := Lib.hid hbV
    have HnV := Lib.hid hnV
    have e1 : V.cell? ⟨w.heap.size, 1, none⟩ = some (.int .i64 n) := by rw [Lib.cell_of_heap hnV]; rfl
    have e0 : V.cell? ⟨w.heap.size, 0, none⟩ = some (.int .i64 (26)) := by rw [Lib.cell_of_heap hnV]; rfl
    have e2 : V.cell? ⟨w.heap.size, 2, none⟩ = some (.string s) := by rw [Lib.cell_of_heap hnV]; rfl
    clear hV hbV hnV c0 c2 c3
    go_wp2_with fail
    go_ret
    exact ⟨rfl, HbV.out⟩
set_option maxHeartbeats 16000000 in
set_option maxRecDepth 100000 in
theorem rval_other (N : Nat) (ih : RVal N) (op n : Int) (s : ByteArray) (l : List Ex) (A : Option Addr) (c lv : Nat) (w : World) (h1 : op ≠ 1) (h2 : op ≠ 2) (h26 : op ≠ 26) (HDK : Hid (∀ y ∈ l, dep y ≤ N)) (HKK : Hid (KidsIn w w.heap.size l A)) (hlc : l.length ≤ c) (hcm : c ≤ 9223372036854775807) (hlv : lv < 32) (sh : Bool) (V0 : Nat) (K : Int)
    (hsh : sh = (decide ((l.length : Int) = K) && ((!(s.size == 0)) == named op) && shapedN op n)) (HV0 : Hid (V0 = valK l (lv + 1))) (HKD : Hid (∀ W : World, Calls Tryd.prog 43 #[.int .i64 op] W fun e w' => e = .returned (.int .i64 K) ∧ w' = W)) :
    Calls Tryd.prog 27 #[.agg #[.int .i64 op, .int .i64 n, .string s, .slice A l.length c], .int .i64 lv] w fun e w' => e = .returned (.int .i64 ((if sh = true then (if s.size ≠ 0 ∧ nameB s = false then 10 else valK l (lv + 1)) else 1 : Nat) : Int)) ∧ Below w.heap.size w w' := by
  have HIH := Lib.hid ih
  have HLV := Lib.hid (show (((lv + 1 : Nat) : Nat) : Int) = (lv : Int) + 1 by omega)
  have wl : IntKind.i64.wrap ((lv : Int) + 1) = (lv : Int) + 1 := IntWalk.i64_in _ (by omega)
  have t0 : decide ((32 : Int) ≤ (lv : Int)) = false := decide_eq_false (by omega)
  have t0' : decide (32 ≤ lv) = false := decide_eq_false (by omega)
  clear ih
  have q1 : (op == 1) = false := beq_eq_false_iff_ne.2 h1
  have q2 : (op == 2) = false := beq_eq_false_iff_ne.2 h2
  have q26 : (op == 26) = false := beq_eq_false_iff_ne.2 h26
  have r1 : (op != 1) = true := bne_iff_ne.2 h1
  have r26 : (op != 26) = true := bne_iff_ne.2 h26
  have hnamed : named op = false := by unfold named; rw [q2, q26]; rfl
  clear h1 h2 h26
  have hb0 := (Below.refl w.heap.size w).alloc (Nat.le_refl _) (.cells #[.int .i64 op, .int .i64 n, .string s, .slice A l.length c] 24)
  have hn0 := heap_alloc_new w (.cells #[.int .i64 op, .int .i64 n, .string s, .slice A l.length c] 24)
  have hnm : named op = false := hnamed
  rw [hnm] at hsh
  have c0 : (w.alloc (.cells #[.int .i64 op, .int .i64 n, .string s, .slice A l.length c] 24)).cell? ⟨w.heap.size, 0, none⟩ = some (.int .i64 (op)) := by rw [Lib.cell_of_heap hn0]; rfl
  have c2 : (w.alloc (.cells #[.int .i64 op, .int .i64 n, .string s, .slice A l.length c] 24)).cell? ⟨w.heap.size, 2, none⟩ = some (.string s) := by rw [Lib.cell_of_heap hn0]; rfl
  have c3 : (w.alloc (.cells #[.int .i64 op, .int .i64 n, .string s, .slice A l.length c] 24)).cell? ⟨w.heap.size, 3, none⟩ = some (.slice A l.length c) := by rw [Lib.cell_of_heap hn0]; rfl
  by_cases hK1 : (l.length : Int) = K
  · have k1 : ((l.length : Int) != K) = false := by rw [bne_eq_false_iff_eq]; exact hK1
    have k1' : ((l.length : Int) == K) = true := by rw [beq_iff_eq]; exact hK1
    rw [decide_eq_true hK1, Bool.true_and] at hsh
    by_cases hs0 : s.size = 0
    · have es : (s.size == 0) = true := by rw [beq_iff_eq]; exact hs0
      obtain ⟨f1, f2⟩ := Cc.empty_tests hs0
      rw [es] at hsh
      have hsh' : sh = shapedN op n := by rw [hsh]; rfl
      clear hsh
      by_cases hbad : n ≠ 0
      · have hsf : sh = false := by rw [hsh']; unfold shapedN; rw [q1, q26]; simpa using hbad
        have b1 : (n != 0) = true := by rw [bne_iff_ne]; exact hbad
        have b2 : (n == 0) = false := by rw [beq_eq_false_iff_ne]; exact hbad
        rw [hsf, if_neg (by simp)]
        clear hsh' HIH HDK HKK HV0 HLV hK1
        go_enter Tryd.func27, Tryd.ntmps27
        go_wp2_with fail
        go_quiet ((go_at_call 43; exact Calls.quiet_of_same (HKD.out _)))
        obtain ⟨V, hV⟩ : ∃ V, V = (w.alloc (.cells #[.int .i64 op, .int .i64 n, .string s, .slice A l.length c] 24)).drewN nq := ⟨_, rfl⟩
        rw [← hV]
        have hbV : Below w.heap.size w V := by rw [hV]; exact below_drewN' hb0 _
        have hnV : V.heap[w.heap.size]? = some (.cells #[.int .i64 op, .int .i64 n, .string s, .slice A l.length c] 24) := by rw [hV, drewN_heap nq _ _]; exact hn0
        have HbV := Lib.hid hbV
        have HnV := Lib.hid hnV
        have e1 : V.cell? ⟨w.heap.size, 1, none⟩ = some (.int .i64 n) := by rw [Lib.cell_of_heap hnV]; rfl
        have e0 : V.cell? ⟨w.heap.size, 0, none⟩ = some (.int .i64 (op)) := by rw [Lib.cell_of_heap hnV]; rfl
        have e2 : V.cell? ⟨w.heap.size, 2, none⟩ = some (.string s) := by rw [Lib.cell_of_heap hnV]; rfl
        clear hV hbV hnV c0 c2 c3
        go_wp2_with fail
        go_ret
        exact ⟨rfl, HbV.out⟩
      · have hsf : sh = true := by rw [hsh']; unfold shapedN; rw [q1, q26]; simpa using hbad
        have b1 : (n != 0) = false := by rw [bne_eq_false_iff_eq]; omega
        have b2 : (n == 0) = true := by rw [beq_iff_eq]; omega
        rw [hsf, if_pos rfl]
        rw [if_neg (by rintro ⟨h, _⟩; exact h hs0)]
        rw [← HV0.out]
        clear hsh' hK1 hbad
        go_enter Tryd.func27, Tryd.ntmps27
        go_wp2_with fail
        go_quiet ((go_at_call 43; exact Calls.quiet_of_same (HKD.out _)))
        obtain ⟨V, hV⟩ : ∃ V, V = (w.alloc (.cells #[.int .i64 op, .int .i64 n, .string s, .slice A l.length c] 24)).drewN nq := ⟨_, rfl⟩
        rw [← hV]
        have hbV : Below w.heap.size w V := by rw [hV]; exact below_drewN' hb0 _
        have hnV : V.heap[w.heap.size]? = some (.cells #[.int .i64 op, .int .i64 n, .string s, .slice A l.length c] 24) := by rw [hV, drewN_heap nq _ _]; exact hn0
        have HbV := Lib.hid hbV
        have HnV := Lib.hid hnV
        have e1 : V.cell? ⟨w.heap.size, 1, none⟩ = some (.int .i64 n) := by rw [Lib.cell_of_heap hnV]; rfl
        have e0 : V.cell? ⟨w.heap.size, 0, none⟩ = some (.int .i64 (op)) := by rw [Lib.cell_of_heap hnV]; rfl
        have e2 : V.cell? ⟨w.heap.size, 2, none⟩ = some (.string s) := by rw [Lib.cell_of_heap hnV]; rfl
        clear hV hbV hnV c0 c2 c3
        go_wp2_with fail
        go_loopw [6] (fun iv wr => ∃ k : Nat, k ≤ l.length ∧ iv = .int .i64 k ∧ Hid (V0 = valK (l.drop k) (lv + 1) ∧ Below w.heap.size w wr ∧ wr.heap[w.heap.size]? = some (.cells #[.int .i64 op, .int .i64 n, .string s, .slice A l.length c] 24))) (fun iv _ => l.length - (intOf iv).toNat)
        case atStart => exact ⟨0, by omega, by go_num, Lib.hid ⟨by rw [List.drop_zero]; exact HV0.out, HbV.out, HnV.out⟩⟩
        case round =>
          obtain ⟨k, hk, rfl, hh⟩ := hrel
          clear HV0 HbV HnV e0 e1 e2
          obtain ⟨hRk, hb, hbx⟩ := hh.out
          have c3 : wr.cell? ⟨w.heap.size, 3, none⟩ = some (.slice A l.length c) := by rw [Lib.cell_of_heap hbx]; rfl
          by_cases hlt : k < l.length
          · have i1 : decide ((k : Int) < (l.length : Int)) = true := decide_eq_true (by omega)
            have i1' : decide (k < l.length) = true := decide_eq_true hlt
            rw [List.drop_eq_getElem_cons hlt, valK] at hRk
            have hlt0 : (k : Int) < (l.length : Int) := by omega
            obtain ⟨b, off, A', c', rfl, hbl, k0, k1, k2, k3, hl', hc', hk'⟩ := kids_cells hlt (kidsIn_below HKK.out hb (Nat.le_refl _))
            have hC := HIH.out l[k] A' c' (lv + 1) wr (HDK.out _ (List.getElem_mem hlt)) (kidsIn_below hk' (Below.refl w.heap.size wr) hb.size) hl' hc' (by omega)
            rw [HLV.out] at hC
            have HC := Lib.hid hC
            have HB := Lib.hid (And.intro hb hbx)
            have HRk := Lib.hid hRk
            clear hRk hb hbx hl' hc' hk' HIH HDK HKK hh hC
            generalize l[k] = y at *
            go_wp2_with fail
            refine HC.out.mono ?_
            rintro e w4 ⟨rfl, hb4⟩
            have HH := Lib.hid (show Below w.heap.size w w4 ∧ w4.heap[w.heap.size]? = some (.cells #[.int .i64 op, .int .i64 n, .string s, .slice (some ⟨b, off, none⟩) l.length c] 24) from ⟨HB.out.1.trans (hb4.mono HB.out.1.size), (hb4.block _ (Array.getElem?_eq_some_iff.1 HB.out.2).1).trans HB.out.2⟩)
            clear hb4 HC HB c3 k0 k1 k2 k3
            by_cases h0 : valE y (lv + 1) = 0
            · have hV2 : Hid (V0 = valK (l.drop (k + 1)) (lv + 1)) := Lib.hid (by rw [HRk.out, if_pos h0])
              rw [h0]
              clear HRk h0
              go_wp2_with fail
              go_roundw
              case rel => exact ⟨k + 1, by omega, by go_num, Lib.hid ⟨hV2.out, HH.out⟩⟩
              case measure => simp [intOf]; omega
            · have hV2 : V0 = valE y (lv + 1) := by rw [HRk.out, if_neg h0]
              have t1 : (((valE y (lv + 1) : Nat) : Int) != 0) = true := by rw [bne_iff_ne]; omega
              rw [← hV2] at t1 ⊢
              clear HRk h0 hV2
              go_wp2_with fail
              go_ret
              exact ⟨rfl, HH.out.1⟩
          · have i1 : decide ((k : Int) < (l.length : Int)) = false := decide_eq_false (by omega)
            have i1' : decide (k < l.length) = false := decide_eq_false hlt
            have hRR : V0 = 0 := by rw [hRk, List.drop_eq_nil_of_le (by omega), valK]
            subst hRR
            clear HIH HDK HKK hh hbx hRk
            go_wp2_with fail
            go_ret
            exact ⟨rfl, hb⟩
    · have es : (s.size == 0) = false := by rw [beq_eq_false_iff_ne]; exact hs0
      obtain ⟨f1, f2⟩ := Cc.nonempty_tests hs0
      rw [es] at hsh
      have hsh : sh = false := by rw [hsh]; rfl
      rw [hsh, if_neg (by simp)]
      clear hsh HIH HDK HKK HV0 HLV hK1
      go_enter Tryd.func27, Tryd.ntmps27
      go_wp2_with fail
      go_quiet ((go_at_call 43; exact Calls.quiet_of_same (HKD.out _)))
      obtain ⟨V, hV⟩ : ∃ V, V = (w.alloc (.cells #[.int .i64 op, .int .i64 n, .string s, .slice A l.length c] 24)).drewN nq := ⟨_, rfl⟩
      rw [← hV]
      have hbV : Below w.heap.size w V := by rw [hV]; exact below_drewN' hb0 _
      have hnV : V.heap[w.heap.size]? = some (.cells #[.int .i64 op, .int .i64 n, .string s, .slice A l.length c] 24) := by rw [hV, drewN_heap nq _ _]; exact hn0
      have HbV := Lib.hid hbV
      have HnV := Lib.hid hnV
      have e1 : V.cell? ⟨w.heap.size, 1, none⟩ = some (.int .i64 n) := by rw [Lib.cell_of_heap hnV]; rfl
      have e0 : V.cell? ⟨w.heap.size, 0, none⟩ = some (.int .i64 (op)) := by rw [Lib.cell_of_heap hnV]; rfl
      have e2 : V.cell? ⟨w.heap.size, 2, none⟩ = some (.string s) := by rw [Lib.cell_of_heap hnV]; rfl
      clear hV hbV hnV c0 c2 c3
      go_wp2_with fail
      go_ret
      exact ⟨rfl, HbV.out⟩
  · have k1 : ((l.length : Int) != K) = true := by rw [bne_iff_ne]; exact hK1
    have k1' : ((l.length : Int) == K) = false := by rw [beq_eq_false_iff_ne]; exact hK1
    rw [decide_eq_false hK1, Bool.false_and, Bool.false_and] at hsh
    rw [hsh, if_neg (by simp)]
    clear hsh HIH HDK HKK HV0 HLV hK1
    go_enter Tryd.func27, Tryd.ntmps27
    go_wp2_with fail
    go_quiet ((go_at_call 43; exact Calls.quiet_of_same (HKD.out _)))
    obtain ⟨V, hV⟩ : ∃ V, V = (w.alloc (.cells #[.int .i64 op, .int .i64 n, .string s, .slice A l.length c] 24)).drewN nq := ⟨_, rfl⟩
    rw [← hV]
    have hbV : Below w.heap.size w V := by rw [hV]; exact below_drewN' hb0 _
    have hnV : V.heap[w.heap.size]? = some (.cells #[.int .i64 op, .int .i64 n, .string s, .slice A l.length c] 24) := by rw [hV, drewN_heap nq _ _]; exact hn0
    have HbV := Lib.hid hbV
    have HnV := Lib.hid hnV
    have e1 : V.cell? ⟨w.heap.size, 1, none⟩ = some (.int .i64 n) := by rw [Lib.cell_of_heap hnV]; rfl
    have e0 : V.cell? ⟨w.heap.size, 0, none⟩ = some (.int .i64 (op)) := by rw [Lib.cell_of_heap hnV]; rfl
    have e2 : V.cell? ⟨w.heap.size, 2, none⟩ = some (.string s) := by rw [Lib.cell_of_heap hnV]; rfl
    clear hV hbV hnV c0 c2 c3
    go_wp2_with fail
    go_ret
    exact ⟨rfl, HbV.out⟩
theorem rval_all : ∀ N, RVal N
  | 0 => by
    intro x A c lv w hN
    cases x; rw [dep] at hN; omega
  | N + 1 => by
    intro x A c lv w hN hK hlc hcm hlv
    have ih := rval_all N
    have hdk : ∀ y ∈ x.kids, dep y ≤ N := fun y hy => by have := dep_kid hy; omega
    have hve : valE x lv = if lv = 32 then 5 else if shaped x.op x.n x.name x.kids.length = true then (if x.name.size ≠ 0 ∧ nameB x.name = false then 10 else valK x.kids (lv + 1)) else 1 := by
      cases x; rw [valE]; rfl
    rw [hve]
    clear hve
    by_cases h32 : lv = 32
    · rw [if_pos h32]
      subst h32
      have hb0 := (Below.refl w.heap.size w).alloc (Nat.le_refl _) (.cells #[.int .i64 x.op, .int .i64 x.n, .string x.name, .slice A x.kids.length c] 24)
      unfold Ex.val
      generalize x.op = op, x.n = n, x.name = s, x.kids.length = k at *
      clear ih hdk hK
      go_enter Tryd.func27, Tryd.ntmps27
      go_wp2_with fail
      go_ret
      exact ⟨rfl, hb0⟩
    · rw [if_neg h32]
      have hsh : shaped x.op x.n x.name x.kids.length = (decide ((x.kids.length : Int) = kidsR x.op) && ((!(x.name.size == 0)) == named x.op) && shapedN x.op x.n) := by
        unfold shaped
        rw [arity_kids]
      have HKD := Lib.hid (fun W => (kids_c x.op W).mono fun e w' (h : _ ∧ W = w') => (⟨h.1, h.2.symm⟩ : e = .returned (.int .i64 (kidsR x.op)) ∧ w' = W))
      unfold maxLen at hcm
      by_cases h1 : x.op = 1
      · exact rval_num N ih x.op x.n x.name x.kids A c lv w h1 (Lib.hid hdk) (Lib.hid hK) hlc hcm (by omega) _ _ _ hsh (Lib.hid rfl) HKD
      by_cases h2 : x.op = 2
      · exact rval_var N ih x.op x.n x.name x.kids A c lv w h2 (Lib.hid hdk) (Lib.hid hK) hlc hcm (by omega) _ _ _ hsh (Lib.hid rfl) HKD
      by_cases h3 : x.op = 26
      · exact rval_set N ih x.op x.n x.name x.kids A c lv w h3 (Lib.hid hdk) (Lib.hid hK) hlc hcm (by omega) _ _ _ hsh (Lib.hid rfl) HKD
      exact rval_other N ih x.op x.n x.name x.kids A c lv w h1 h2 h3 (Lib.hid hdk) (Lib.hid hK) hlc hcm (by omega) _ _ _ hsh (Lib.hid rfl) HKD
theorem RValid_c (x : Ex) (A : Option Addr) (c : Nat) (w : World) (hK : KidsIn w w.heap.size x.kids A) (hl : x.kids.length ≤ c) (hc : c ≤ maxLen) :
    Calls Tryd.prog 14 #[x.val A c] w fun e w' => e = .returned (.int .i64 (valE x 0 : Nat)) ∧ Below w.heap.size w w' := by
  have hb0 := (Below.refl w.heap.size w).alloc (Nat.le_refl _) (.cells #[.int .i64 x.op, .int .i64 x.n, .string x.name, .slice A x.kids.length c] 24)
  have HC := Lib.hid (rval_all (dep x) x A c 0 _ (Nat.le_refl _) (kidsIn_below hK hb0 hb0.size) hl hc (by omega))
  unfold Ex.val at *
  clear hK hl hc
  generalize x.op = op, x.n = n, x.name = s, x.kids.length = k, valE x 0 = V at *
  go_enter Tryd.func14, Tryd.ntmps14
  go_wp2_with fail
  refine HC.out.mono ?_
  rintro e w1 ⟨rfl, hb⟩
  have hb1 := hb0.trans (hb.mono hb0.size)
  clear HC hb hb0
  go_wp2_with fail
  go_ret
  exact ⟨rfl, hb1⟩
end Go.Proofs.YtbiiempgefjkiaaDoor.Ar
