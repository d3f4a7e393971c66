/- arith: Same, the code's and the reference's. -/
import Derived.Test.YtbiiempgefjkiaaDoorArV
import Derived.StillTailTactics
namespace Go.Proofs.YtbiiempgefjkiaaDoor.Ar
open Go.RowKit
set_option linter.unusedVariables false

theorem smK_cons (x y : Ex) (l m : List Ex) : smK (x :: l) (y :: m) = (smE x y && smK l m) := by rw [smK]
theorem beq_list (s t : ByteArray) : (s.toList == t.toList) = eqB s t := by
  unfold eqB; rw [ByteArray.toList_eq, ByteArray.toList_eq]
set_option maxHeartbeats 8000000 in
set_option maxRecDepth 100000 in
theorem Same_c : ∀ (N : Nat) (x y : Ex) (A A2 : Option Addr) (c c2 : Nat) (w : World), dep x ≤ N → KidsIn w w.heap.size x.kids A → KidsIn w w.heap.size y.kids A2 → x.kids.length ≤ c → c ≤ maxLen → y.kids.length ≤ c2 → c2 ≤ maxLen →
    Calls Tryd.prog 17 #[x.val A c, y.val A2 c2] w fun e w' => e = .returned (.bool (smE x y)) ∧ Below w.heap.size w w' := by
  intro N
  induction N with
  | zero =>
    intro x y A A2 c c2 w hN
    cases x with
    | mk op n s l => rw [dep] at hN; omega
  | succ N ih =>
  intro x y A A2 c c2 w hN hK hK2 hlc hcm hlc2 hcm2
  have hdk : ∀ y ∈ x.kids, dep y ≤ N := fun y hy => by have := dep_kid hy; omega
  have hval : smE x y = ((x.op == y.op) && (x.n == y.n) && eqB x.name y.name && (x.kids.length == y.kids.length) && smK x.kids y.kids) := by
    cases x; cases y; rw [smE]; rfl
  rw [hval]
  unfold Ex.val at *
  generalize x.op = op, x.n = n, x.name = s, x.kids = l at *
  generalize y.op = op2, y.n = n2, y.name = s2, y.kids = l2 at *
  clear hval
  unfold maxLen at hcm hcm2
  obtain ⟨w0, hw0⟩ : ∃ w0, w0 = (w.alloc (.cells #[.int .i64 op, .int .i64 n, .string s, .slice A l.length c] 24)).alloc (.cells #[.int .i64 op2, .int .i64 n2, .string s2, .slice A2 l2.length c2] 24) := ⟨_, rfl⟩
  have hb0 : Below w.heap.size w w0 := by rw [hw0]; exact ((Below.refl w.heap.size w).alloc (Nat.le_refl _) _).alloc (by simp) _
  have hn0 : w0.heap[w.heap.size]? = some (.cells #[.int .i64 op, .int .i64 n, .string s, .slice A l.length c] 24 (0, 0)) := by
    rw [hw0, Below.heap_alloc _ _ _ (by simp)]; exact heap_alloc_new w _
  have hn1 : w0.heap[w.heap.size + 1]? = some (.cells #[.int .i64 op2, .int .i64 n2, .string s2, .slice A2 l2.length c2] 24 (0, 0)) := by
    rw [hw0]
    have := heap_alloc_new (w.alloc (.cells #[.int .i64 op, .int .i64 n, .string s, .slice A l.length c] 24)) (.cells #[.int .i64 op2, .int .i64 n2, .string s2, .slice A2 l2.length c2] 24)
    simpa using this
  have hz0 : w.heap.size + 2 ≤ w0.heap.size := by rw [hw0]; simp
  have hwe := hw0.symm
  have c0 : w0.cell? ⟨w.heap.size, 0, none⟩ = some (.int .i64 op) := by rw [Lib.cell_of_heap hn0]; rfl
  have c1 : w0.cell? ⟨w.heap.size, 1, none⟩ = some (.int .i64 n) := by rw [Lib.cell_of_heap hn0]; rfl
  have c2' : w0.cell? ⟨w.heap.size, 2, none⟩ = some (.string s) := by rw [Lib.cell_of_heap hn0]; rfl
  have c3 : w0.cell? ⟨w.heap.size, 3, none⟩ = some (.slice A l.length c) := by rw [Lib.cell_of_heap hn0]; rfl
  have d0 : w0.cell? ⟨w.heap.size + 1, 0, none⟩ = some (.int .i64 op2) := by rw [Lib.cell_of_heap hn1]; rfl
  have d1 : w0.cell? ⟨w.heap.size + 1, 1, none⟩ = some (.int .i64 n2) := by rw [Lib.cell_of_heap hn1]; rfl
  have d2 : w0.cell? ⟨w.heap.size + 1, 2, none⟩ = some (.string s2) := by rw [Lib.cell_of_heap hn1]; rfl
  have d3 : w0.cell? ⟨w.heap.size + 1, 3, none⟩ = some (.slice A2 l2.length c2) := by rw [Lib.cell_of_heap hn1]; rfl
  have Hb0 := Lib.hid hb0
  have Hn0 := Lib.hid hn0
  have Hn1 := Lib.hid hn1
  have HIH := Lib.hid ih
  have HDK := Lib.hid hdk
  have HKK := Lib.hid hK
  have HKK2 := Lib.hid hK2
  clear hb0 hn0 hn1 ih hdk hK hK2 hw0
  rcases h1 : (op == op2) with _ | _
  · simp only [Bool.false_and]
    have h1' : (op != op2) = true := by unfold bne; rw [h1]; rfl
    go_enter Tryd.func17, Tryd.ntmps17
    go_wp2_with fail
    go_ret
    exact ⟨rfl, Hb0.out⟩
  have h1' : (op != op2) = false := by unfold bne; rw [h1]; rfl
  rcases h2 : (n == n2) with _ | _
  · simp only [Bool.false_and, Bool.and_false]
    have h2' : (n != n2) = true := by unfold bne; rw [h2]; rfl
    go_enter Tryd.func17, Tryd.ntmps17
    go_wp2_with fail
    go_ret
    exact ⟨rfl, Hb0.out⟩
  have h2' : (n != n2) = false := by unfold bne; rw [h2]; rfl
  rcases h3 : eqB s s2 with _ | _
  · simp only [Bool.false_and, Bool.and_false]
    have h3' : (s.toList != s2.toList) = true := by unfold bne; rw [beq_list, h3]; rfl
    have h3'' : (s.toList == s2.toList) = false := by rw [beq_list, h3]
    go_enter Tryd.func17, Tryd.ntmps17
    go_wp2_with fail
    go_ret
    exact ⟨rfl, Hb0.out⟩
  have h3' : (s.toList != s2.toList) = false := by unfold bne; rw [beq_list, h3]; rfl
  have h3'' : (s.toList == s2.toList) = true := by rw [beq_list, h3]
  clear h3
  rcases h4 : (l.length == l2.length) with _ | _
  · simp only [Bool.false_and, Bool.and_false]
    have h4' : ((l.length : Int) != (l2.length : Int)) = true := by rw [bne_iff_ne]; rw [beq_eq_false_iff_ne] at h4; omega
    have h4'' : (l.length != l2.length) = true := by unfold bne; rw [h4]; rfl
    go_enter Tryd.func17, Tryd.ntmps17
    go_wp2_with fail
    go_ret
    exact ⟨rfl, Hb0.out⟩
  rw [beq_iff_eq] at h4
  have h4' : ((l.length : Int) != (l2.length : Int)) = false := by rw [bne_eq_false_iff_eq]; omega
  have h4'' : (l.length != l2.length) = false := by rw [bne_eq_false_iff_eq]; omega
  simp only [Bool.true_and]
  have HL := Lib.hid h4
  clear h4
  obtain ⟨V, hV⟩ : ∃ V, V = smK l l2 := ⟨_, rfl⟩
  rw [← hV]
  have HV := Lib.hid hV
  clear hV
  go_enter Tryd.func17, Tryd.ntmps17
  go_wp2_with fail
  clear c0 c1 c2' d0 d1 d2 h1 h2 h1' h2' h3' h3'' h4' h4'' c3 d3
  go_loopw [5, 37] (fun _ iv wr => ∃ k : Nat, k ≤ l.length ∧ iv = .int .i64 k ∧ Below (w.heap.size + 2) w0 wr ∧ Hid (V = smK (l.drop k) (l2.drop k))) (fun _ iv _ => l.length - (intOf iv).toNat)
  case atStart => exact ⟨0, by omega, by go_num, Below.refl _ _, by rw [List.drop_zero, List.drop_zero]; exact HV⟩
  case round =>
    obtain ⟨k, hk, rfl, hb, hv⟩ := hrel
    have hwr : w.heap.size + 2 ≤ wr.heap.size := Nat.le_trans hz0 hb.size
    have hbw := Hb0.out.trans (hb.mono (by omega))
    have e3 : wr.cell? ⟨w.heap.size, 3, none⟩ = some (.slice A l.length c) := by rw [Lib.cell_of_heap ((hb.block _ (by omega)).trans Hn0.out)]; rfl
    have g3 : wr.cell? ⟨w.heap.size + 1, 3, none⟩ = some (.slice A2 l2.length c2) := by rw [Lib.cell_of_heap ((hb.block _ (by omega)).trans Hn1.out)]; rfl
    by_cases hlt : k < l.length
    · have hlt2 : k < l2.length := by rw [← HL.out]; exact hlt
      have i1 : (k : Int) < (l.length : Int) := by omega
      have i2 : (k : Int) < (l2.length : Int) := by omega
      obtain ⟨b, off, A', c', rfl, hbl, c0, c1, c2', c3, hl', hc', hk'⟩ := kids_cells hlt (kidsIn_below HKK.out hbw hbw.size)
      obtain ⟨b2, off2, A2', c2'', rfl, hbl2, d0, d1, d2, d3, hl2', hc2', hk2'⟩ := kids_cells hlt2 (kidsIn_below HKK2.out hbw hbw.size)
      have hv1 := hv.out
      rw [List.drop_eq_getElem_cons hlt, List.drop_eq_getElem_cons hlt2, smK] at hv1
      have hd := HDK.out _ (List.getElem_mem hlt)
      have hbd : Below wr.heap.size wr wr.drew := (Below.refl wr.heap.size wr).drew
      have HC := Lib.hid (HIH.out l[k] l2[k] A' A2' c' c2'' wr.drew hd (kidsIn_below hk' hbd (Nat.le_refl _)) (kidsIn_below hk2' hbd (Nat.le_refl _)) hl' hc' hl2' hc2')
      have Hv1 := Lib.hid hv1
      clear hv1 hv hd hk' hl' HDK HIH HKK HKK2 HV hk2' hl2'
      generalize l[k] = y at *
      generalize l2[k] = y2 at *
      go_wp2_with fail
      go_still_tail 10, (by kernel_rfl)
      change wpList _ _ _ _ _ wr.drew
      clear c0 c1 c2' c3 d0 d1 d2 d3 e3 g3
      have hbwd : Below (w.heap.size + 2) w0 wr.drew := hb.drew
      have hwrd : w.heap.size + 2 ≤ wr.drew.heap.size := hwr
      clear hb hbw hbd
      generalize wr.drew = wd at *
      go_wp2_with fail
      refine HC.out.mono ?_
      rintro e w4 ⟨rfl, hb4⟩
      have hb5 := hbwd.trans (hb4.mono hwrd)
      clear hb4 HC
      rcases h0 : smE y y2 with _ | _
      · have hV2 : V = false := by rw [Hv1.out, h0, Bool.false_and]
        subst hV2
        clear Hv1 h0
        go_wp2_with fail
        go_ret
        exact ⟨rfl, Hb0.out.trans (hb5.mono (by omega))⟩
      · have hV2 : Hid (V = smK (l.drop (k + 1)) (l2.drop (k + 1))) := Lib.hid (by rw [Hv1.out, h0, Bool.true_and])
        clear Hv1 h0
        go_wp2_with fail
        go_roundw
        case rel => exact ⟨k + 1, by omega, by go_num, hb5, hV2⟩
        case measure => simp [intOf]; omega
    · obtain rfl : k = l.length := by omega
      have hV2 : V = true := by
        have := hv.out
        rw [List.drop_length, HL.out, List.drop_length, smK] at this
        exact this
        all_goals simp
      subst hV2
      clear hv HV
      go_wp2_with fail
      go_ret
      exact ⟨rfl, hbw⟩
set_option maxHeartbeats 8000000 in
set_option maxRecDepth 100000 in
theorem RSame_c : ∀ (N : Nat) (x y : Ex) (A A2 : Option Addr) (c c2 : Nat) (w : World), dep x ≤ N → KidsIn w w.heap.size x.kids A → KidsIn w w.heap.size y.kids A2 → x.kids.length ≤ c → c ≤ maxLen → y.kids.length ≤ c2 → c2 ≤ maxLen →
    Calls Tryd.prog 18 #[x.val A c, y.val A2 c2] w fun e w' => e = .returned (.bool (smE x y)) ∧ Below w.heap.size w w' := by
  intro N
  induction N with
  | zero =>
    intro x y A A2 c c2 w hN
    cases x with
    | mk op n s l => rw [dep] at hN; omega
  | succ N ih =>
  intro x y A A2 c c2 w hN hK hK2 hlc hcm hlc2 hcm2
  have hdk : ∀ y ∈ x.kids, dep y ≤ N := fun y hy => by have := dep_kid hy; omega
  have hval : smE x y = ((x.op == y.op) && (x.n == y.n) && eqB x.name y.name && (x.kids.length == y.kids.length) && smK x.kids y.kids) := by
    cases x; cases y; rw [smE]; rfl
  rw [hval]
  unfold Ex.val at *
  generalize x.op = op, x.n = n, x.name = s, x.kids = l at *
  generalize y.op = op2, y.n = n2, y.name = s2, y.kids = l2 at *
  clear hval
  unfold maxLen at hcm hcm2
  obtain ⟨w0, hw0⟩ : ∃ w0, w0 = (w.alloc (.cells #[.int .i64 op, .int .i64 n, .string s, .slice A l.length c] 24)).alloc (.cells #[.int .i64 op2, .int .i64 n2, .string s2, .slice A2 l2.length c2] 24) := ⟨_, rfl⟩
  have hb0 : Below w.heap.size w w0 := by rw [hw0]; exact ((Below.refl w.heap.size w).alloc (Nat.le_refl _) _).alloc (by simp) _
  have hn0 : w0.heap[w.heap.size]? = some (.cells #[.int .i64 op, .int .i64 n, .string s, .slice A l.length c] 24 (0, 0)) := by
    rw [hw0, Below.heap_alloc _ _ _ (by simp)]; exact heap_alloc_new w _
  have hn1 : w0.heap[w.heap.size + 1]? = some (.cells #[.int .i64 op2, .int .i64 n2, .string s2, .slice A2 l2.length c2] 24 (0, 0)) := by
    rw [hw0]
    have := heap_alloc_new (w.alloc (.cells #[.int .i64 op, .int .i64 n, .string s, .slice A l.length c] 24)) (.cells #[.int .i64 op2, .int .i64 n2, .string s2, .slice A2 l2.length c2] 24)
    simpa using this
  have hz0 : w.heap.size + 2 ≤ w0.heap.size := by rw [hw0]; simp
  have hwe := hw0.symm
  have c0 : w0.cell? ⟨w.heap.size, 0, none⟩ = some (.int .i64 op) := by rw [Lib.cell_of_heap hn0]; rfl
  have c1 : w0.cell? ⟨w.heap.size, 1, none⟩ = some (.int .i64 n) := by rw [Lib.cell_of_heap hn0]; rfl
  have c2' : w0.cell? ⟨w.heap.size, 2, none⟩ = some (.string s) := by rw [Lib.cell_of_heap hn0]; rfl
  have c3 : w0.cell? ⟨w.heap.size, 3, none⟩ = some (.slice A l.length c) := by rw [Lib.cell_of_heap hn0]; rfl
  have d0 : w0.cell? ⟨w.heap.size + 1, 0, none⟩ = some (.int .i64 op2) := by rw [Lib.cell_of_heap hn1]; rfl
  have d1 : w0.cell? ⟨w.heap.size + 1, 1, none⟩ = some (.int .i64 n2) := by rw [Lib.cell_of_heap hn1]; rfl
  have d2 : w0.cell? ⟨w.heap.size + 1, 2, none⟩ = some (.string s2) := by rw [Lib.cell_of_heap hn1]; rfl
  have d3 : w0.cell? ⟨w.heap.size + 1, 3, none⟩ = some (.slice A2 l2.length c2) := by rw [Lib.cell_of_heap hn1]; rfl
  have Hb0 := Lib.hid hb0
  have Hn0 := Lib.hid hn0
  have Hn1 := Lib.hid hn1
  have HIH := Lib.hid ih
  have HDK := Lib.hid hdk
  have HKK := Lib.hid hK
  have HKK2 := Lib.hid hK2
  clear hb0 hn0 hn1 ih hdk hK hK2 hw0
  rcases h1 : (op == op2) with _ | _
  · simp only [Bool.false_and]
    have h1' : (op != op2) = true := by unfold bne; rw [h1]; rfl
    go_enter Tryd.func18, Tryd.ntmps18
    go_wp2_with fail
    go_ret
    exact ⟨rfl, Hb0.out⟩
  have h1' : (op != op2) = false := by unfold bne; rw [h1]; rfl
  rcases h2 : (n == n2) with _ | _
  · simp only [Bool.false_and, Bool.and_false]
    have h2' : (n != n2) = true := by unfold bne; rw [h2]; rfl
    go_enter Tryd.func18, Tryd.ntmps18
    go_wp2_with fail
    go_ret
    exact ⟨rfl, Hb0.out⟩
  have h2' : (n != n2) = false := by unfold bne; rw [h2]; rfl
  rcases h3 : eqB s s2 with _ | _
  · simp only [Bool.false_and, Bool.and_false]
    have h3' : (s.toList != s2.toList) = true := by unfold bne; rw [beq_list, h3]; rfl
    have h3'' : (s.toList == s2.toList) = false := by rw [beq_list, h3]
    go_enter Tryd.func18, Tryd.ntmps18
    go_wp2_with fail
    go_ret
    exact ⟨rfl, Hb0.out⟩
  have h3' : (s.toList != s2.toList) = false := by unfold bne; rw [beq_list, h3]; rfl
  have h3'' : (s.toList == s2.toList) = true := by rw [beq_list, h3]
  clear h3
  rcases h4 : (l.length == l2.length) with _ | _
  · simp only [Bool.false_and, Bool.and_false]
    have h4' : ((l.length : Int) != (l2.length : Int)) = true := by rw [bne_iff_ne]; rw [beq_eq_false_iff_ne] at h4; omega
    have h4'' : (l.length != l2.length) = true := by unfold bne; rw [h4]; rfl
    go_enter Tryd.func18, Tryd.ntmps18
    go_wp2_with fail
    go_ret
    exact ⟨rfl, Hb0.out⟩
  rw [beq_iff_eq] at h4
  have h4' : ((l.length : Int) != (l2.length : Int)) = false := by rw [bne_eq_false_iff_eq]; omega
  have h4'' : (l.length != l2.length) = false := by rw [bne_eq_false_iff_eq]; omega
  simp only [Bool.true_and]
  have HL := Lib.hid h4
  clear h4
  obtain ⟨V, hV⟩ : ∃ V, V = smK l l2 := ⟨_, rfl⟩
  rw [← hV]
  have HV := Lib.hid hV
  clear hV
  go_enter Tryd.func18, Tryd.ntmps18
  go_wp2_with fail
  clear c0 c1 c2' d0 d1 d2 h1 h2 h1' h2' h3' h3'' h4' h4'' c3 d3
  go_loopw [5] (fun iv wr => ∃ k : Nat, k ≤ l.length ∧ iv = .int .i64 k ∧ Below (w.heap.size + 2) w0 wr ∧ Hid (V = smK (l.drop k) (l2.drop k))) (fun iv _ => l.length - (intOf iv).toNat)
  case atStart => exact ⟨0, by omega, by go_num, Below.refl _ _, by rw [List.drop_zero, List.drop_zero]; exact HV⟩
  case round =>
    obtain ⟨k, hk, rfl, hb, hv⟩ := hrel
    have hwr : w.heap.size + 2 ≤ wr.heap.size := Nat.le_trans hz0 hb.size
    have hbw := Hb0.out.trans (hb.mono (by omega))
    have e3 : wr.cell? ⟨w.heap.size, 3, none⟩ = some (.slice A l.length c) := by rw [Lib.cell_of_heap ((hb.block _ (by omega)).trans Hn0.out)]; rfl
    have g3 : wr.cell? ⟨w.heap.size + 1, 3, none⟩ = some (.slice A2 l2.length c2) := by rw [Lib.cell_of_heap ((hb.block _ (by omega)).trans Hn1.out)]; rfl
    by_cases hlt : k < l.length
    · have hlt2 : k < l2.length := by rw [← HL.out]; exact hlt
      have i1 : (k : Int) < (l.length : Int) := by omega
      have i2 : (k : Int) < (l2.length : Int) := by omega
      obtain ⟨b, off, A', c', rfl, hbl, c0, c1, c2', c3, hl', hc', hk'⟩ := kids_cells hlt (kidsIn_below HKK.out hbw hbw.size)
      obtain ⟨b2, off2, A2', c2'', rfl, hbl2, d0, d1, d2, d3, hl2', hc2', hk2'⟩ := kids_cells hlt2 (kidsIn_below HKK2.out hbw hbw.size)
      have hv1 := hv.out
      rw [List.drop_eq_getElem_cons hlt, List.drop_eq_getElem_cons hlt2, smK] at hv1
      have hd := HDK.out _ (List.getElem_mem hlt)
      have hbd : Below wr.heap.size wr wr.drew := (Below.refl wr.heap.size wr).drew
      have HC := Lib.hid (HIH.out l[k] l2[k] A' A2' c' c2'' wr.drew hd (kidsIn_below hk' hbd (Nat.le_refl _)) (kidsIn_below hk2' hbd (Nat.le_refl _)) hl' hc' hl2' hc2')
      have Hv1 := Lib.hid hv1
      clear hv1 hv hd hk' hl' HDK HIH HKK HKK2 HV hk2' hl2'
      generalize l[k] = y at *
      generalize l2[k] = y2 at *
      go_wp2_with fail
      go_still_tail 10, (by kernel_rfl)
      change wpList _ _ _ _ _ wr.drew
      clear c0 c1 c2' c3 d0 d1 d2 d3 e3 g3
      have hbwd : Below (w.heap.size + 2) w0 wr.drew := hb.drew
      have hwrd : w.heap.size + 2 ≤ wr.drew.heap.size := hwr
      clear hb hbw hbd
      generalize wr.drew = wd at *
      go_wp2_with fail
      refine HC.out.mono ?_
      rintro e w4 ⟨rfl, hb4⟩
      have hb5 := hbwd.trans (hb4.mono hwrd)
      clear hb4 HC
      rcases h0 : smE y y2 with _ | _
      · have hV2 : V = false := by rw [Hv1.out, h0, Bool.false_and]
        subst hV2
        clear Hv1 h0
        go_wp2_with fail
        go_ret
        exact ⟨rfl, Hb0.out.trans (hb5.mono (by omega))⟩
      · have hV2 : Hid (V = smK (l.drop (k + 1)) (l2.drop (k + 1))) := Lib.hid (by rw [Hv1.out, h0, Bool.true_and])
        clear Hv1 h0
        go_wp2_with fail
        go_roundw
        case rel => exact ⟨k + 1, by omega, by go_num, hb5, hV2⟩
        case measure => simp [intOf]; omega
    · obtain rfl : k = l.length := by omega
      have hV2 : V = true := by
        have := hv.out
        rw [List.drop_length, HL.out, List.drop_length, smK] at this
        exact this
        all_goals simp
      subst hV2
      clear hv HV
      go_wp2_with fail
      go_ret
      exact ⟨rfl, hbw⟩
end Go.Proofs.YtbiiempgefjkiaaDoor.Ar
