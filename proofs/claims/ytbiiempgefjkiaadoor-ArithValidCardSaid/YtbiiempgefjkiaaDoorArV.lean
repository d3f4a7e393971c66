/- arith: validBelow, Valid, Same. -/
import Derived.Test.YtbiiempgefjkiaaDoorArG
namespace Go.Proofs.YtbiiempgefjkiaaDoor.Ar
open Go.RowKit
set_option linter.unusedVariables false

theorem depK_mem : ∀ {l : List Ex} {x : Ex}, x ∈ l → dep x ≤ depK l
  | y :: l, x, h => by
    rw [depK]
    rcases List.mem_cons.1 h with rfl | h
    · exact Nat.le_max_left _ _
    · exact Nat.le_trans (depK_mem h) (Nat.le_max_right _ _)
theorem dep_kid {x y : Ex} (h : y ∈ x.kids) : dep y + 1 ≤ dep x := by
  cases x with
  | mk op n s l => rw [dep]; have := depK_mem (l := l) h; omega
/-- The expressions at A, in blocks that were there. -/
def KidsIn (w : World) (B : Nat) (l : List Ex) (A : Option Addr) : Prop := KidsAt w (fun b => b < B) l A
theorem kidsIn_below {w w' : World} {B B' : Nat} {l : List Ex} {A : Option Addr} (h : KidsIn w B l A) (hb : Below B w w') (hB : B ≤ B') : KidsIn w' B' l A :=
  kids_keep (fun b hb' => by omega) (fun b o hb' => hb.cell (p := ⟨b, o, none⟩) hb') h
theorem kids_cells {w : World} {ok : Nat → Prop} {l : List Ex} {A : Option Addr} {i : Nat} (h : i < l.length) (k : KidsAt w ok l A) :
    ∃ b off A' c', A = some ⟨b, off, none⟩ ∧ ok b ∧ w.cell? ⟨b, off + i * 4, none⟩ = some (.int .i64 l[i].op) ∧ w.cell? ⟨b, off + i * 4 + 1, none⟩ = some (.int .i64 l[i].n) ∧ w.cell? ⟨b, off + i * 4 + 2, none⟩ = some (.string l[i].name) ∧
      w.cell? ⟨b, off + i * 4 + 3, none⟩ = some (.slice A' l[i].kids.length c') ∧ l[i].kids.length ≤ c' ∧ c' ≤ maxLen ∧ KidsAt w ok l[i].kids A' := by
  obtain ⟨b, off, e, hb, h1⟩ := kids_at h k
  obtain ⟨A', c', c0, c1, c2, c3, hl, hc, hk⟩ := one_cells h1
  exact ⟨b, off, A', c', e, hb, c0, c1, c2, c3, hl, hc, hk⟩
set_option maxHeartbeats 4000000 in
set_option maxRecDepth 100000 in
theorem validBelow_c : ∀ (N : Nat) (x : Ex) (A : Option Addr) (c lv : Nat) (w : World), dep x ≤ N → Env w → KidsIn w w.heap.size x.kids A → x.kids.length ≤ c → c ≤ maxLen → lv ≤ 32 →
    Calls Tryd.prog 26 #[x.val A c, .int .i64 lv] w fun e w' => e = .returned (.int .i64 (valE x lv : Nat)) ∧ Below w.heap.size w w' := by
  intro N
  induction N with
  | zero =>
    intro x A c lv w hN
    cases x with
    | mk op n s l => rw [dep] at hN; omega
  | succ N ih =>
  intro x A c lv w hN hE hK hlc hcm hlv
  have hdk : ∀ y ∈ x.kids, dep y ≤ N := fun y hy => by have := dep_kid hy; omega
  have HW := Lib.hid (fun W (h : Env W) => wellShaped_c x A c W h (by omega))
  have hval : valE x lv = if lv = 32 then 5 else if shaped x.op x.n x.name x.kids.length then (if x.name.size ≠ 0 ∧ nameB x.name = false then 10 else valK x.kids (lv + 1)) else 1 := by
    cases x; rw [valE]; rfl
  rw [hval]
  unfold Ex.val at *
  have HN := Lib.hid (name_ok x.name)
  have hes := env_size x.name
  generalize x.op = op, x.n = n, x.name = s, x.kids = l at *
  clear hval
  unfold maxLen at hcm
  have hb0 := (Below.refl w.heap.size w).alloc (Nat.le_refl _) (.cells #[.int .i64 op, .int .i64 n, .string s, .slice A l.length c] 24)
  have hn0 := heap_alloc_new w (.cells #[.int .i64 op, .int .i64 n, .string s, .slice A l.length c] 24)
  have hz0 : w.heap.size + 1 ≤ (w.alloc (.cells #[.int .i64 op, .int .i64 n, .string s, .slice A l.length c] 24)).heap.size := by simp
  by_cases h32 : lv = 32
  · rw [if_pos h32]
    subst h32
    clear hE hK HW HN ih hdk
    go_enter Tryd.func26, Tryd.ntmps26
    go_wp2_with fail
    go_ret
    exact ⟨rfl, hb0⟩
  rw [if_neg h32]
  have t0 : ((lv : Int) == 32) = false := by rw [beq_eq_false_iff_ne]; omega
  have hE0 := env_next hE hb0
  have HW2 := Lib.hid (HW.out _ hE0)
  have hl32 : lv < 32 := by omega
  clear HW h32
  generalize shaped op n s l.length = sh at *
  rcases sh with _ | _
  · clear hE hK HN ih hdk hE0
    go_enter Tryd.func26, Tryd.ntmps26
    go_wp2_with fail
    refine HW2.out.mono ?_
    rintro e w1 ⟨rfl, hb⟩
    go_wp2_with fail
    go_ret
    exact ⟨rfl, hb0.trans (hb.mono (by simp))⟩
  rw [if_pos rfl]
  have HIH := Lib.hid ih
  have HDK := Lib.hid hdk
  have HKK := Lib.hid hK
  have HEE := Lib.hid hE
  obtain ⟨V, hV⟩ : ∃ V, V = valK l (lv + 1) := ⟨_, rfl⟩
  rw [← hV]
  have HV := Lib.hid hV
  have HLV := Lib.hid (show ((lv : Int) + 1) = ((lv + 1 : Nat) : Int) by omega)
  clear ih hdk hK hE hE0 hV
  /- The loop over the operands, wherever it begins. -/
  by_cases hs : s.size = 0
  · have e1 : s.toList.isEmpty = true := by rw [hes, hs]; rfl
    have e2 : (!s.toList.isEmpty) = false := by rw [e1]; rfl
    rw [if_neg (by rintro ⟨h, _⟩; exact h hs)]
    clear hes hs
    go_enter Tryd.func26, Tryd.ntmps26
    go_wp2_with fail
    refine HW2.out.mono ?_
    rintro e w1 ⟨rfl, hb⟩
    have hn1 := (hb.block _ (by simp)).trans hn0
    have c2 : w1.cell? ⟨w.heap.size, 2, none⟩ = some (.string s) := by rw [Lib.cell_of_heap hn1]; rfl
    have c3 : w1.cell? ⟨w.heap.size, 3, none⟩ = some (.slice A l.length c) := by rw [Lib.cell_of_heap hn1]; rfl
    have Hb2 := Lib.hid (hb0.trans (hb.mono (by simp)))
    clear hn1 hb HW2 hb0 hn0
    go_wp2_with fail
    go_loopw [28] (fun iv wr => ∃ k : Nat, k ≤ l.length ∧ iv = .int .i64 k ∧ Below w.heap.size w wr ∧ Hid (V = valK (l.drop k) (lv + 1))) (fun iv _ => l.length - (intOf iv).toNat)
    case atStart => exact ⟨0, by omega, by go_num, Hb2.out, by rw [List.drop_zero]; exact HV⟩
    case round =>
      obtain ⟨k, hk, rfl, hb, hv⟩ := hrel
      have hwr := hb.size
      by_cases hlt : k < l.length
      · have i1 : (k : Int) < (l.length : Int) := by omega
        obtain ⟨b, off, A', c', rfl, hbl, c0, c1, c2, c3, hl', hc', hk'⟩ := kids_cells hlt (kidsIn_below HKK.out hb hwr)
        have hv1 := hv.out
        rw [List.drop_eq_getElem_cons hlt, valK] at hv1
        have hd := HDK.out _ (List.getElem_mem hlt)
        have hb2 := hb.alloc hwr (.cells #[.int .i64 l[k].op, .int .i64 l[k].n, .string l[k].name, .slice A' l[k].kids.length c'] 24)
        have hb3 := (Below.refl wr.heap.size wr).alloc (Nat.le_refl _) (.cells #[.int .i64 l[k].op, .int .i64 l[k].n, .string l[k].name, .slice A' l[k].kids.length c'] 24)
        have HC := HIH.out l[k] A' c' (lv + 1) _ hd (env_next HEE.out hb2) (kidsIn_below hk' hb3 hb3.size) hl' hc' (by omega)
        rw [← HLV.out] at HC
        have HC2 := Lib.hid HC
        have Hv1 := Lib.hid hv1
        clear HC hv1 hv hd hk' hl' HDK HIH HKK HEE HV Hb2
        generalize l[k] = y at *
        go_wp2_with fail
        refine HC2.out.mono ?_
        rintro e w4 ⟨rfl, hb4⟩
        have hb5 := hb2.trans (hb4.mono (by have := hb2.size; omega))
        clear hb4 hb2 hb3 c0 c1 c2 c3 HC2
        by_cases h0 : valE y (lv + 1) = 0
        · have hV2 : Hid (V = valK (l.drop (k + 1)) (lv + 1)) := Lib.hid (by rw [Hv1.out, if_pos h0])
          rw [h0]
          clear Hv1 h0
          go_wp2_with fail
          go_roundw
          case rel => exact ⟨k + 1, by omega, by go_num, hb5, hV2⟩
          case measure => simp [intOf]; omega
        · have hV2 : V = valE y (lv + 1) := by rw [Hv1.out, if_neg h0]
          have t1 : (((valE y (lv + 1) : Nat) : Int) != 0) = true := by rw [bne_iff_ne]; omega
          rw [← hV2] at t1 ⊢
          clear Hv1 h0 hV2
          go_wp2_with fail
          go_ret
          exact ⟨rfl, hb5⟩
      · obtain rfl : k = l.length := by omega
        have hV2 : V = 0 := by
          have := hv.out
          rw [List.drop_length] at this
          exact this
        subst hV2
        clear hv HV
        go_wp2_with fail
        go_ret
        exact ⟨rfl, hb⟩
  · have e1 : s.toList.isEmpty = false := by rw [hes, beq_eq_false_iff_ne]; exact hs
    have e2 : (!s.toList.isEmpty) = true := by rw [e1]; rfl
    generalize nameB s = nb at *
    clear hes
    rcases nb with _ | _
    · rw [if_pos ⟨hs, rfl⟩]
      clear hs
      go_enter Tryd.func26, Tryd.ntmps26
      go_wp2_with fail
      refine HW2.out.mono ?_
      rintro e w1 ⟨rfl, hb⟩
      have hn1 := (hb.block _ (by simp)).trans hn0
      have c2 : w1.cell? ⟨w.heap.size, 2, none⟩ = some (.string s) := by rw [Lib.cell_of_heap hn1]; rfl
      have Hb2 := Lib.hid (hb0.trans (hb.mono (by simp)))
      clear hn1 hb HW2 hb0 hn0
      go_wp2_with fail
      refine (HN.out _).mono ?_
      rintro e w2 ⟨rfl, hb2⟩
      have Hb3 := Lib.hid (Hb2.out.trans (hb2.mono Hb2.out.size))
      clear hb2 HN
      go_wp2_with fail
      go_ret
      exact ⟨rfl, Hb3.out⟩
    rw [if_neg (by simp)]
    clear hs
    go_enter Tryd.func26, Tryd.ntmps26
    go_wp2_with fail
    refine HW2.out.mono ?_
    rintro e w1 ⟨rfl, hb⟩
    have hn1 := (hb.block _ (by simp)).trans hn0
    have c2 : w1.cell? ⟨w.heap.size, 2, none⟩ = some (.string s) := by rw [Lib.cell_of_heap hn1]; rfl
    have Hb1 := Lib.hid (hb0.trans (hb.mono (by simp)))
    have Hz1 := Lib.hid (show w.heap.size + 1 ≤ w1.heap.size by have := hb.size; simp at this; omega)
    have Hn1 := Lib.hid hn1
    clear hn1 hb HW2 hb0 hn0
    go_wp2_with fail
    refine (HN.out _).mono ?_
    rintro e w2 ⟨rfl, hb2⟩
    have hn2 := (hb2.block _ (by have := Hz1.out; omega)).trans Hn1.out
    have c3 : w2.cell? ⟨w.heap.size, 3, none⟩ = some (.slice A l.length c) := by rw [Lib.cell_of_heap hn2]; rfl
    have Hb2 := Lib.hid (Hb1.out.trans (hb2.mono Hb1.out.size))
    clear hb2 HN hn2 c2 Hb1 Hz1 Hn1
    go_wp2_with fail
    go_loopw [28] (fun iv wr => ∃ k : Nat, k ≤ l.length ∧ iv = .int .i64 k ∧ Below w.heap.size w wr ∧ Hid (V = valK (l.drop k) (lv + 1))) (fun iv _ => l.length - (intOf iv).toNat)
    case atStart => exact ⟨0, by omega, by go_num, Hb2.out, by rw [List.drop_zero]; exact HV⟩
    case round =>
      obtain ⟨k, hk, rfl, hb, hv⟩ := hrel
      have hwr := hb.size
      by_cases hlt : k < l.length
      · have i1 : (k : Int) < (l.length : Int) := by omega
        obtain ⟨b, off, A', c', rfl, hbl, c0, c1, c2, c3, hl', hc', hk'⟩ := kids_cells hlt (kidsIn_below HKK.out hb hwr)
        have hv1 := hv.out
        rw [List.drop_eq_getElem_cons hlt, valK] at hv1
        have hd := HDK.out _ (List.getElem_mem hlt)
        have hb2 := hb.alloc hwr (.cells #[.int .i64 l[k].op, .int .i64 l[k].n, .string l[k].name, .slice A' l[k].kids.length c'] 24)
        have hb3 := (Below.refl wr.heap.size wr).alloc (Nat.le_refl _) (.cells #[.int .i64 l[k].op, .int .i64 l[k].n, .string l[k].name, .slice A' l[k].kids.length c'] 24)
        have HC := HIH.out l[k] A' c' (lv + 1) _ hd (env_next HEE.out hb2) (kidsIn_below hk' hb3 hb3.size) hl' hc' (by omega)
        rw [← HLV.out] at HC
        have HC2 := Lib.hid HC
        have Hv1 := Lib.hid hv1
        clear HC hv1 hv hd hk' hl' HDK HIH HKK HEE HV Hb2
        generalize l[k] = y at *
        go_wp2_with fail
        refine HC2.out.mono ?_
        rintro e w4 ⟨rfl, hb4⟩
        have hb5 := hb2.trans (hb4.mono (by have := hb2.size; omega))
        clear hb4 hb2 hb3 c0 c1 c2 c3 HC2
        by_cases h0 : valE y (lv + 1) = 0
        · have hV2 : Hid (V = valK (l.drop (k + 1)) (lv + 1)) := Lib.hid (by rw [Hv1.out, if_pos h0])
          rw [h0]
          clear Hv1 h0
          go_wp2_with fail
          go_roundw
          case rel => exact ⟨k + 1, by omega, by go_num, hb5, hV2⟩
          case measure => simp [intOf]; omega
        · have hV2 : V = valE y (lv + 1) := by rw [Hv1.out, if_neg h0]
          have t1 : (((valE y (lv + 1) : Nat) : Int) != 0) = true := by rw [bne_iff_ne]; omega
          rw [← hV2] at t1 ⊢
          clear Hv1 h0 hV2
          go_wp2_with fail
          go_ret
          exact ⟨rfl, hb5⟩
      · obtain rfl : k = l.length := by omega
        have hV2 : V = 0 := by
          have := hv.out
          rw [List.drop_length] at this
          exact this
        subst hV2
        clear hv HV
        go_wp2_with fail
        go_ret
        exact ⟨rfl, hb⟩
set_option maxHeartbeats 1000000 in
theorem Valid_c (x : Ex) (A : Option Addr) (c : Nat) (w : World) (hE : Env w) (hK : KidsIn w w.heap.size x.kids A) (hl : x.kids.length ≤ c) (hc : c ≤ maxLen) :
    Calls Tryd.prog 13 #[x.val A c] w fun e w' => e = .returned (.int .i64 (valE x 0 : Nat)) ∧ Below w.heap.size w w' := by
  have hb0 := (Below.refl w.heap.size w).alloc (Nat.le_refl _) (.cells #[.int .i64 x.op, .int .i64 x.n, .string x.name, .slice A x.kids.length c] 24)
  have HC := Lib.hid (validBelow_c (dep x) x A c 0 _ (Nat.le_refl _) (env_next hE hb0) (kidsIn_below hK hb0 hb0.size) hl hc (by omega))
  unfold Ex.val at *
  clear hE hK hl hc
  generalize x.op = op, x.n = n, x.name = s, x.kids.length = k, valE x 0 = V at *
  go_enter Tryd.func13, Tryd.ntmps13
  go_wp2_with fail
  refine HC.out.mono ?_
  rintro e w1 ⟨rfl, hb⟩
  go_wp2_with fail
  go_ret
  exact ⟨rfl, hb0.trans (hb.mono (by simp))⟩
end Go.Proofs.YtbiiempgefjkiaaDoor.Ar
