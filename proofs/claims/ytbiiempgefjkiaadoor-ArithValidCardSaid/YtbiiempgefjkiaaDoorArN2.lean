/- arith: Names: the walk. -/
import Derived.Test.YtbiiempgefjkiaaDoorArN1
import Derived.Test.YtbiiempgefjkiaaDoorArF
namespace Go.Proofs.YtbiiempgefjkiaaDoor.Ar
open Go.RowKit
set_option linter.unusedVariables false

set_option maxHeartbeats 8000000 in
set_option maxRecDepth 100000 in
theorem visit_c (B F G V h : Nat) : ∀ (N : Nat) (x : Ex) (A : Option Addr) (c : Nat) (acc : List ByteArray) (w : World), dep x ≤ N → KidsIn w B x.kids A → x.kids.length ≤ c → c ≤ maxLen → wfE x → NmAt B F G V h acc w → (nmE x acc).length ≤ 1000000 →
    Calls Tryd.prog 28 #[x.val A c, .pointer (some ⟨F, 0, none⟩), .pointer (some ⟨G, 0, none⟩), .pointer (some ⟨V, 0, none⟩)] w fun e w' => e = .returned (.tuple #[]) ∧ NmAt B F G V h (nmE x acc) w' ∧ Below B w w' ∧ NmK G h w w' ∧ w.heap.size ≤ w'.heap.size := by
  intro N
  induction N with
  | zero =>
    intro x A c acc w hN
    cases x; rw [dep] at hN; omega
  | succ N ih =>
  intro x A c acc w hN hK hlc hcm hwf hNm hlen
  have hwfk : wfK x.kids ∧ x.name.size ≤ maxLen := by cases x; exact ⟨hwf.2.2.2, hwf.2.2.1⟩
  have HDK := Lib.hid (fun y (hy : y ∈ x.kids) => (show dep y ≤ N by have := dep_kid hy; omega))
  have HWF := Lib.hid (wfK_at hwfk.1)
  have HIH := Lib.hid ih
  have HKK := Lib.hid hK
  have hnm : nmE x acc = nmK x.kids (if named x.op && !(nmHas acc x.name) then acc ++ [x.name] else acc) := by cases x; rw [nmE]; rfl
  have hns := hwfk.2
  obtain ⟨vf, vg, vv, vh⟩ := nmAt_lt hNm
  have hBw : B ≤ w.heap.size := Nat.le_trans hNm.bf (Nat.le_of_lt vf)
  unfold Ex.val
  clear ih hN hK hwf hwfk
  generalize hRR : nmE x acc = R at *
  generalize x.op = op, x.n = n, x.name = s, x.kids = l at *
  clear hRR
  have hka : ∀ j, j < w.heap.size → (w.alloc (.cells #[.int .i64 op, .int .i64 n, .string s, .slice A l.length c] 24)).heap[j]? = w.heap[j]? := fun j hj => Below.heap_alloc _ _ _ hj
  have hN0 := nmAt_keep hNm hka
  have hK0 : NmK G h w _ := nmK_keep hka
  have hB0 := (Below.refl B w).alloc hBw (.cells #[.int .i64 op, .int .i64 n, .string s, .slice A l.length c] 24)
  have hn0 := heap_alloc_new w (.cells #[.int .i64 op, .int .i64 n, .string s, .slice A l.length c] 24)
  have c0 : (w.alloc (.cells #[.int .i64 op, .int .i64 n, .string s, .slice A l.length c] 24)).cell? ⟨w.heap.size, 0, none⟩ = some (.int .i64 op) := by rw [Lib.cell_of_heap hn0]; rfl
  have c2 : (w.alloc (.cells #[.int .i64 op, .int .i64 n, .string s, .slice A l.length c] 24)).cell? ⟨w.heap.size, 2, none⟩ = some (.string s) := by rw [Lib.cell_of_heap hn0]; rfl
  have HBw := Lib.hid hBw
  have HNC := Lib.hid (fun W => named_c op W)
  have HRL := Lib.hid hlen
  unfold maxLen at hcm
  have hns' := hns
  unfold maxLen at hns'
  by_cases hnd : named op = true
  · have clook := mapN_look hN0.mp s hns
    have d0 : (w.alloc (.cells #[.int .i64 op, .int .i64 n, .string s, .slice A l.length c] 24)).cell? ⟨F, 0, none⟩ = some (.map (some h)) := by rw [Lib.cell_of_heap hN0.ff]; rfl
    by_cases hhas : nmHas acc s = true
    · have HR : Hid (R = nmK l acc) := Lib.hid (by rw [hnm, hnd, hhas]; rfl)
      have HS := Lib.hid (show NmAt B F G V h acc _ ∧ Below B w _ ∧ NmK G h w _ ∧ w.heap.size ≤ (w.alloc (.cells #[.int .i64 op, .int .i64 n, .string s, .slice A l.length c] 24)).heap.size from ⟨hN0, hB0, hK0, by simp⟩)
      have Hbx := Lib.hid hn0
      rw [hhas] at clook
      clear hnm hka hN0 hK0 hB0 hn0 hNm hlen hhas hns hBw
      go_enter Tryd.func28, Tryd.ntmps28
      go_wp2_with fail
      refine HNC.out _ |>.mono ?_
      rintro e w1 ⟨rfl, rfl⟩
      rw [hnd]
      clear HNC
      go_wp2_with fail
      clear clook d0 c0 c2 hnd
      generalize hW0 : w.alloc (.cells #[.int .i64 op, .int .i64 n, .string s, .slice A l.length c] 24) = w0 at *
      clear hW0
      have e3 : w0.cell? ⟨w.heap.size, 3, none⟩ = some (.slice A l.length c) := by rw [Lib.cell_of_heap Hbx.out]; rfl
      go_wp2_with fail
      go_loopw [28] (fun iv wr => ∃ k : Nat, k ≤ l.length ∧ iv = .int .i64 k ∧ Hid (∃ acck, R = nmK (l.drop k) acck ∧ NmAt B F G V h acck wr ∧ Below B w wr ∧ NmK G h w wr ∧ w.heap.size ≤ wr.heap.size)) (fun iv _ => l.length - (intOf iv).toNat)
      case atStart => exact ⟨0, by omega, by go_num, Lib.hid ⟨_, by rw [List.drop_zero]; exact HR.out, HS.out⟩⟩
      case round =>
        obtain ⟨k, hk, rfl, hh⟩ := hrel
        clear HR HS Hbx e3
        by_cases hlt : k < l.length
        · have i1 : (k : Int) < (l.length : Int) := by omega
          obtain ⟨acck, hRk, hNk, hBk, hKk, hsk⟩ := hh.out
          clear hh
          obtain ⟨b, off, A', c', rfl, hbl, c0, c1, c2, c3, hl', hc', hk'⟩ := kids_cells hlt (kidsIn_below HKK.out hBk (Nat.le_refl _))
          rw [List.drop_eq_getElem_cons hlt, nmK] at hRk
          have hd := HDK.out _ (List.getElem_mem hlt)
          have hwf := HWF.out _ (List.getElem_mem hlt)
          have hb3 := (Below.refl wr.heap.size wr).alloc (Nat.le_refl _) (.cells #[.int .i64 l[k].op, .int .i64 l[k].n, .string l[k].name, .slice A' l[k].kids.length c'] 24)
          have hka : ∀ j, j < wr.heap.size → (wr.alloc (.cells #[.int .i64 l[k].op, .int .i64 l[k].n, .string l[k].name, .slice A' l[k].kids.length c'] 24)).heap[j]? = wr.heap[j]? := fun j hj => Below.heap_alloc _ _ _ hj
          have hNa := nmAt_keep hNk hka
          have hKa : NmK G h w _ := nmK_trans hKk (nmK_keep hka)
          have hBa := hBk.alloc (Nat.le_trans HBw.out hsk) (.cells #[.int .i64 l[k].op, .int .i64 l[k].n, .string l[k].name, .slice A' l[k].kids.length c'] 24)
          have hle := nmK_le (l.drop (k + 1)) (nmE l[k] acck)
          rw [← hRk] at hle
          have HC := Lib.hid (HIH.out l[k] A' c' acck _ hd (kidsIn_below hk' (hb3.mono (Nat.le_trans HBw.out hsk)) (Nat.le_refl _)) hl' hc' hwf hNa (by have := HRL.out; omega))
          have hvl : V < wr.heap.size := (nmAt_lt hNk).2.2.1
          have cv : ∀ o, (wr.alloc o).cell? ⟨V, 0, none⟩ = some (.func (.func 28) #[] #[.pointer (some ⟨F, 0, none⟩), .pointer (some ⟨G, 0, none⟩), .pointer (some ⟨V, 0, none⟩)]) := fun o => by rw [Lib.cell_of_heap ((Below.heap_alloc _ _ _ hvl).trans hNk.fv)]; rfl
          have HF := Lib.hid (And.intro hRk (And.intro hBa (And.intro hKa hsk)))
          clear hRk hNk hBk hKk hNa hKa hBa hle hd hwf hl' hk' hb3 hka hvl hsk HIH HDK HWF HKK HBw
          generalize l[k] = y at *
          go_wp2_with fail
          refine HC.out.mono ?_
          rintro e w4 ⟨rfl, hN4, hB4, hK4, hs4⟩
          have HG := Lib.hid (show ∃ acck, R = nmK (l.drop (k + 1)) acck ∧ NmAt B F G V h acck w4 ∧ Below B w w4 ∧ NmK G h w w4 ∧ w.heap.size ≤ w4.heap.size from ⟨_, HF.out.1, hN4, HF.out.2.1.trans hB4, nmK_trans HF.out.2.2.1 hK4, by have := HF.out.2.2.2; simp at hs4; omega⟩)
          clear hN4 hB4 hK4 hs4 HF HC c0 c1 c2 c3 cv
          go_wp2_with fail
          go_roundw
          case rel => exact ⟨k + 1, by omega, by go_num, HG⟩
          case measure => simp [intOf]; omega
        · obtain rfl : k = l.length := by omega
          have hF : Hid (NmAt B F G V h R wr ∧ Below B w wr ∧ NmK G h w wr ∧ w.heap.size ≤ wr.heap.size) := Lib.hid (by
            obtain ⟨acck, h1, h2⟩ := hh.out
            rw [List.drop_length, nmK] at h1
            rw [h1]; exact h2)
          clear hh HIH HDK HWF HKK
          go_wp2_with fail
          go_end0
          exact ⟨rfl, hF.out⟩
    · have hhas : nmHas acc s = false := by simpa using hhas
      have HR : Hid (R = nmK l (acc ++ [s])) := Lib.hid (by rw [hnm, hnd, hhas]; rfl)
      have hle := nmK_le l (acc ++ [s])
      rw [← HR.out] at hle
      simp at hle
      have hBz : B ≤ (w.alloc (.cells #[.int .i64 op, .int .i64 n, .string s, .slice A l.length c] 24)).heap.size := by simp; omega
      obtain ⟨w1, hupd, hm1, hgr1⟩ := mapN_put hN0.mp s hns (by unfold maxLen; omega)
      obtain ⟨v, hv, hr⟩ := hN0.fg
      obtain ⟨k1, b1, n1, s1⟩ := nm_put (s := s) hN0 hgr1 hBz
      have ng : G ≠ h := fun e => by subst e; obtain ⟨_, _, e2⟩ := mapN_obj hN0.mp; rw [hv] at e2; cases e2
      have nb : w.heap.size ≠ h := by omega
      have hz1' : w.heap.size + 1 ≤ w1.heap.size := by simpa using s1
      have hG1 : w1.heap[G]? = some (.cells #[v] 35 (0, 0)) := (k1 G (by simp; omega) ng).trans hv
      have hX1 : w1.heap[w.heap.size]? = some (.cells #[.int .i64 op, .int .i64 n, .string s, .slice A l.length c] 24) := (k1 w.heap.size (by simp) nb).trans hn0
      have g0 : w1.cell? ⟨G, 0, none⟩ = some v := by rw [Lib.cell_of_heap hG1]; rfl
      have e2 : w1.cell? ⟨w.heap.size, 2, none⟩ = some (.string s) := by rw [Lib.cell_of_heap hX1]; rfl
      have hr1 : w1.ownsRow B 9 1 v acc.length (acc.map Value.string) := row_keep hr fun g hg => k1 g (hr.lt g hg).2 (fun e => by
        subst e
        obtain ⟨es, ck, hm⟩ := mapN_obj hN0.mp
        rcases hr.2 with ⟨rfl, _⟩ | ⟨g', cap, cur, rfl, _, hh, _⟩
        · cases hg
        · have : g' = g := by injection hg
          subst this
          rw [hm] at hh; cases hh)
      have hr2 : (w1.alloc (.cells #[.string s] 9)).ownsRow B 9 1 v acc.length (acc.map Value.string) := row_keep hr1 fun g hg => Below.heap_alloc _ _ _ (hr1.lt g hg).2
      obtain ⟨i0, hi, hzz0, hzz1, hzz2⟩ := info_parts strInfo
      have HADD := Lib.hid (fun (v' : Value) (w3 : World) (hown : w3.ownsRow B 9 1 v' (acc.length + 1) (acc.map Value.string ++ [.string s])) (hgrow : (w1.alloc (.cells #[.string s] 9)).grownBy w3 v.ownBlock) => nm_add hN0 hm1 hgr1 hBz hv hr rfl hown hgrow)
      have Hn0 := Lib.hid hn0
      have HGh := Lib.hid (And.intro vg vh)
      have HK0 := Lib.hid (And.intro hB0 hK0)
      obtain ⟨ao, n', cap, rfl⟩ : ∃ ao n' cap, v = .slice ao n' cap := by
        rcases hr.2 with ⟨hv, _⟩ | ⟨g, cap, cur, hv, _⟩
        · exact ⟨_, _, _, hv⟩
        · exact ⟨_, _, _, hv⟩
      rw [hhas] at clook
      clear hnm hka hN0 hK0 hB0 hn0 hNm hlen hhas hns hv hr k1 b1 n1 s1 hG1 hX1 hr1 hm1 hgr1 ng nb vf vg vv vh hBz hBw
      go_enter Tryd.func28, Tryd.ntmps28
      go_wp2_with fail
      refine HNC.out _ |>.mono ?_
      rintro e w1 ⟨rfl, rfl⟩
      rw [hnd]
      clear HNC
      go_wp2_with (at_builtin; refine wpList_append_own _ rfl _ _ 35 rfl B 9 i0 (.string ByteArray.empty) 1 16 Tryd.underlying35 hi hzz0 hzz1 hzz2 rfl (by decide) _ _ _ rfl hr2 ⟨w1.heap.size, 0, none⟩ 1 1 [.string s] rfl rfl ?c1 ?c2 ?c3 ?c4 ?c5 ?_)
      case c1 =>
        intro i u hi'
        match i, hi' with
        | 0, hi' => simp at hi'; subst hi'; simp [Addr.add]
      case c2 => intro u hu; simp at hu; subst hu; rfl
      case c3 => unfold maxLen; have := HRL.out; omega
      case c4 => have := HRL.out; omega
      case c5 => have := HBw.out; simp; omega
      intro v' w3 hown hgrow _
      obtain ⟨ao', n'', cap', rfl⟩ : ∃ ao n cap, v' = .slice ao n cap := by
        rcases hown.2 with ⟨hv, _⟩ | ⟨g, cap, cur, hv, _⟩
        · exact ⟨_, _, _, hv⟩
        · exact ⟨_, _, _, hv⟩
      obtain ⟨q1, q2, q3, q4, q5⟩ := HADD.out _ _ hown hgrow
      have f0 : w3.cell? ⟨G, 0, none⟩ = some (.slice ao n' cap) := by rw [Lib.cell_of_heap q5]; rfl
      have f1 : w3.frozen? ⟨G, 0, none⟩ = false := Lib.frozen_of_heap q5 0
      have hbx3 : (w3.setCell ⟨G, 0, none⟩ (.slice ao' n'' cap')).heap[w.heap.size]? = some (.cells #[.int .i64 op, .int .i64 n, .string s, .slice A l.length c] 24) := q3 w.heap.size _ Hn0.out (by have := HGh.out.1; omega) (by have := HGh.out.2; omega) (fun c fz e => by injection e with _ e; exact absurd e (by decide))
      have f3 : (w3.setCell ⟨G, 0, none⟩ (.slice ao' n'' cap')).cell? ⟨w.heap.size, 3, none⟩ = some (.slice A l.length c) := by rw [Lib.cell_of_heap hbx3]; rfl
      have f4 : w3.cell? ⟨w.heap.size, 3, none⟩ = some (.slice A l.length c) := by
        have h4 : w3.heap[w.heap.size]? = some (.cells #[.int .i64 op, .int .i64 n, .string s, .slice A l.length c] 24) := by rw [← hbx3, heap_setCell_other _ _ _ _ (show w.heap.size ≠ G by have := HGh.out.1; omega)]
        rw [Lib.cell_of_heap h4]; rfl
      have f5 : w.heap.size ≠ G := by have := HGh.out.1; omega
      clear hbx3
      have HQ := Lib.hid (And.intro q1 (And.intro q2 (And.intro q3 q4)))
      clear q1 q2 q3 q4 q5 hown hgrow HADD hr2 g0 e2 hupd d0 c0 c2 clook
      go_wp2_with fail
      generalize hW4 : w3.setCell ⟨G, 0, none⟩ (.slice ao' n'' cap') = w4 at *
      have HS := Lib.hid (show NmAt B F G V h (acc ++ [s]) w4 ∧ Below B w w4 ∧ NmK G h w w4 ∧ w.heap.size ≤ w4.heap.size from ⟨HQ.out.1, HK0.out.1.trans HQ.out.2.1, nmK_trans HK0.out.2 HQ.out.2.2.1, by have := HQ.out.2.2.2; simp at this; omega⟩)
      have Hbx := Lib.hid (HQ.out.2.2.1 w.heap.size _ Hn0.out (by have := HGh.out.1; omega) (by have := HGh.out.2; omega) (fun c fz e => by injection e with _ e; exact absurd e (by decide)))
      clear hW4 HQ HK0 Hn0 f0 f1 f3 f4 f5
      have e3 : w4.cell? ⟨w.heap.size, 3, none⟩ = some (.slice A l.length c) := by rw [Lib.cell_of_heap Hbx.out]; rfl
      go_wp2_with fail
      go_loopw [28] (fun iv wr => ∃ k : Nat, k ≤ l.length ∧ iv = .int .i64 k ∧ Hid (∃ acck, R = nmK (l.drop k) acck ∧ NmAt B F G V h acck wr ∧ Below B w wr ∧ NmK G h w wr ∧ w.heap.size ≤ wr.heap.size)) (fun iv _ => l.length - (intOf iv).toNat)
      case atStart => exact ⟨0, by omega, by go_num, Lib.hid ⟨_, by rw [List.drop_zero]; exact HR.out, HS.out⟩⟩
      case round =>
        obtain ⟨k, hk, rfl, hh⟩ := hrel
        clear HR HS Hbx e3
        by_cases hlt : k < l.length
        · have i1 : (k : Int) < (l.length : Int) := by omega
          obtain ⟨acck, hRk, hNk, hBk, hKk, hsk⟩ := hh.out
          clear hh
          obtain ⟨b, off, A', c', rfl, hbl, c0, c1, c2, c3, hl', hc', hk'⟩ := kids_cells hlt (kidsIn_below HKK.out hBk (Nat.le_refl _))
          rw [List.drop_eq_getElem_cons hlt, nmK] at hRk
          have hd := HDK.out _ (List.getElem_mem hlt)
          have hwf := HWF.out _ (List.getElem_mem hlt)
          have hb3 := (Below.refl wr.heap.size wr).alloc (Nat.le_refl _) (.cells #[.int .i64 l[k].op, .int .i64 l[k].n, .string l[k].name, .slice A' l[k].kids.length c'] 24)
          have hka : ∀ j, j < wr.heap.size → (wr.alloc (.cells #[.int .i64 l[k].op, .int .i64 l[k].n, .string l[k].name, .slice A' l[k].kids.length c'] 24)).heap[j]? = wr.heap[j]? := fun j hj => Below.heap_alloc _ _ _ hj
          have hNa := nmAt_keep hNk hka
          have hKa : NmK G h w _ := nmK_trans hKk (nmK_keep hka)
          have hBa := hBk.alloc (Nat.le_trans HBw.out hsk) (.cells #[.int .i64 l[k].op, .int .i64 l[k].n, .string l[k].name, .slice A' l[k].kids.length c'] 24)
          have hle := nmK_le (l.drop (k + 1)) (nmE l[k] acck)
          rw [← hRk] at hle
          have HC := Lib.hid (HIH.out l[k] A' c' acck _ hd (kidsIn_below hk' (hb3.mono (Nat.le_trans HBw.out hsk)) (Nat.le_refl _)) hl' hc' hwf hNa (by have := HRL.out; omega))
          have hvl : V < wr.heap.size := (nmAt_lt hNk).2.2.1
          have cv : ∀ o, (wr.alloc o).cell? ⟨V, 0, none⟩ = some (.func (.func 28) #[] #[.pointer (some ⟨F, 0, none⟩), .pointer (some ⟨G, 0, none⟩), .pointer (some ⟨V, 0, none⟩)]) := fun o => by rw [Lib.cell_of_heap ((Below.heap_alloc _ _ _ hvl).trans hNk.fv)]; rfl
          have HF := Lib.hid (And.intro hRk (And.intro hBa (And.intro hKa hsk)))
          clear hRk hNk hBk hKk hNa hKa hBa hle hd hwf hl' hk' hb3 hka hvl hsk HIH HDK HWF HKK HBw
          generalize l[k] = y at *
          go_wp2_with fail
          refine HC.out.mono ?_
          rintro e w4 ⟨rfl, hN4, hB4, hK4, hs4⟩
          have HG := Lib.hid (show ∃ acck, R = nmK (l.drop (k + 1)) acck ∧ NmAt B F G V h acck w4 ∧ Below B w w4 ∧ NmK G h w w4 ∧ w.heap.size ≤ w4.heap.size from ⟨_, HF.out.1, hN4, HF.out.2.1.trans hB4, nmK_trans HF.out.2.2.1 hK4, by have := HF.out.2.2.2; simp at hs4; omega⟩)
          clear hN4 hB4 hK4 hs4 HF HC c0 c1 c2 c3 cv
          go_wp2_with fail
          go_roundw
          case rel => exact ⟨k + 1, by omega, by go_num, HG⟩
          case measure => simp [intOf]; omega
        · obtain rfl : k = l.length := by omega
          have hF : Hid (NmAt B F G V h R wr ∧ Below B w wr ∧ NmK G h w wr ∧ w.heap.size ≤ wr.heap.size) := Lib.hid (by
            obtain ⟨acck, h1, h2⟩ := hh.out
            rw [List.drop_length, nmK] at h1
            rw [h1]; exact h2)
          clear hh HIH HDK HWF HKK
          go_wp2_with fail
          go_end0
          exact ⟨rfl, hF.out⟩
  · have hnd : named op = false := by simpa using hnd
    have HR : Hid (R = nmK l acc) := Lib.hid (by rw [hnm, hnd]; rfl)
    have HS := Lib.hid (show NmAt B F G V h acc _ ∧ Below B w _ ∧ NmK G h w _ ∧ w.heap.size ≤ (w.alloc (.cells #[.int .i64 op, .int .i64 n, .string s, .slice A l.length c] 24)).heap.size from ⟨hN0, hB0, hK0, by simp⟩)
    have Hbx := Lib.hid hn0
    clear hnm hka hN0 hK0 hB0 hn0 hNm hlen hns hBw
    go_enter Tryd.func28, Tryd.ntmps28
    go_wp2_with fail
    refine HNC.out _ |>.mono ?_
    rintro e w1 ⟨rfl, rfl⟩
    rw [hnd]
    clear HNC
    go_wp2_with fail
    clear c0 c2 hnd
    generalize hW0 : w.alloc (.cells #[.int .i64 op, .int .i64 n, .string s, .slice A l.length c] 24) = w0 at *
    clear hW0
    have e3 : w0.cell? ⟨w.heap.size, 3, none⟩ = some (.slice A l.length c) := by rw [Lib.cell_of_heap Hbx.out]; rfl
    go_wp2_with fail
    go_loopw [28] (fun iv wr => ∃ k : Nat, k ≤ l.length ∧ iv = .int .i64 k ∧ Hid (∃ acck, R = nmK (l.drop k) acck ∧ NmAt B F G V h acck wr ∧ Below B w wr ∧ NmK G h w wr ∧ w.heap.size ≤ wr.heap.size)) (fun iv _ => l.length - (intOf iv).toNat)
    case atStart => exact ⟨0, by omega, by go_num, Lib.hid ⟨_, by rw [List.drop_zero]; exact HR.out, HS.out⟩⟩
    case round =>
      obtain ⟨k, hk, rfl, hh⟩ := hrel
      clear HR HS Hbx e3
      by_cases hlt : k < l.length
      · have i1 : (k : Int) < (l.length : Int) := by omega
        obtain ⟨acck, hRk, hNk, hBk, hKk, hsk⟩ := hh.out
        clear hh
        obtain ⟨b, off, A', c', rfl, hbl, c0, c1, c2, c3, hl', hc', hk'⟩ := kids_cells hlt (kidsIn_below HKK.out hBk (Nat.le_refl _))
        rw [List.drop_eq_getElem_cons hlt, nmK] at hRk
        have hd := HDK.out _ (List.getElem_mem hlt)
        have hwf := HWF.out _ (List.getElem_mem hlt)
        have hb3 := (Below.refl wr.heap.size wr).alloc (Nat.le_refl _) (.cells #[.int .i64 l[k].op, .int .i64 l[k].n, .string l[k].name, .slice A' l[k].kids.length c'] 24)
        have hka : ∀ j, j < wr.heap.size → (wr.alloc (.cells #[.int .i64 l[k].op, .int .i64 l[k].n, .string l[k].name, .slice A' l[k].kids.length c'] 24)).heap[j]? = wr.heap[j]? := fun j hj => Below.heap_alloc _ _ _ hj
        have hNa := nmAt_keep hNk hka
        have hKa : NmK G h w _ := nmK_trans hKk (nmK_keep hka)
        have hBa := hBk.alloc (Nat.le_trans HBw.out hsk) (.cells #[.int .i64 l[k].op, .int .i64 l[k].n, .string l[k].name, .slice A' l[k].kids.length c'] 24)
        have hle := nmK_le (l.drop (k + 1)) (nmE l[k] acck)
        rw [← hRk] at hle
        have HC := Lib.hid (HIH.out l[k] A' c' acck _ hd (kidsIn_below hk' (hb3.mono (Nat.le_trans HBw.out hsk)) (Nat.le_refl _)) hl' hc' hwf hNa (by have := HRL.out; omega))
        have hvl : V < wr.heap.size := (nmAt_lt hNk).2.2.1
        have cv : ∀ o, (wr.alloc o).cell? ⟨V, 0, none⟩ = some (.func (.func 28) #[] #[.pointer (some ⟨F, 0, none⟩), .pointer (some ⟨G, 0, none⟩), .pointer (some ⟨V, 0, none⟩)]) := fun o => by rw [Lib.cell_of_heap ((Below.heap_alloc _ _ _ hvl).trans hNk.fv)]; rfl
        have HF := Lib.hid (And.intro hRk (And.intro hBa (And.intro hKa hsk)))
        clear hRk hNk hBk hKk hNa hKa hBa hle hd hwf hl' hk' hb3 hka hvl hsk HIH HDK HWF HKK HBw
        generalize l[k] = y at *
        go_wp2_with fail
        refine HC.out.mono ?_
        rintro e w4 ⟨rfl, hN4, hB4, hK4, hs4⟩
        have HG := Lib.hid (show ∃ acck, R = nmK (l.drop (k + 1)) acck ∧ NmAt B F G V h acck w4 ∧ Below B w w4 ∧ NmK G h w w4 ∧ w.heap.size ≤ w4.heap.size from ⟨_, HF.out.1, hN4, HF.out.2.1.trans hB4, nmK_trans HF.out.2.2.1 hK4, by have := HF.out.2.2.2; simp at hs4; omega⟩)
        clear hN4 hB4 hK4 hs4 HF HC c0 c1 c2 c3 cv
        go_wp2_with fail
        go_roundw
        case rel => exact ⟨k + 1, by omega, by go_num, HG⟩
        case measure => simp [intOf]; omega
      · obtain rfl : k = l.length := by omega
        have hF : Hid (NmAt B F G V h R wr ∧ Below B w wr ∧ NmK G h w wr ∧ w.heap.size ≤ wr.heap.size) := Lib.hid (by
          obtain ⟨acck, h1, h2⟩ := hh.out
          rw [List.drop_length, nmK] at h1
          rw [h1]; exact h2)
        clear hh HIH HDK HWF HKK
        go_wp2_with fail
        go_end0
        exact ⟨rfl, hF.out⟩
end Go.Proofs.YtbiiempgefjkiaaDoor.Ar
