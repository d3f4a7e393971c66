/- lexer: All. -/
import Derived.Test.YtlenmkcafoiefaaDoorLxJ
import Derived.Deep.AppendLies
import Derived.BigQuiet
import Derived.WalkSmall
namespace Go.Proofs.YtlenmkcafoiefaaDoor
open Go.RowKit
set_option linter.unusedVariables false

def tkCells (l : List Tk) : List Value := l.flatMap fun t => [.int .i64 t.kind, .int .i64 t.pos, .int .i64 t.fin, .string t.text]
theorem tkCells_append (l m : List Tk) : tkCells (l ++ m) = tkCells l ++ tkCells m := by simp [tkCells]
theorem tkCells_length (l : List Tk) : (tkCells l).length = l.length * 4 := by
  induction l with
  | nil => rfl
  | cons p l ih => rw [tkCells, List.flatMap_cons, List.length_append]; unfold tkCells at ih; rw [ih]; simp; omega
theorem tkCells_get : ∀ (l : List Tk) (k : Nat) (h : k < l.length), (tkCells l)[k * 4]? = some (.int .i64 (l[k]'h).kind) ∧ (tkCells l)[k * 4 + 1]? = some (.int .i64 (l[k]'h).pos) ∧ (tkCells l)[k * 4 + 2]? = some (.int .i64 (l[k]'h).fin) ∧ (tkCells l)[k * 4 + 3]? = some (.string (l[k]'h).text)
  | [], k, h => by simp at h
  | c :: l, 0, h => ⟨rfl, rfl, rfl, rfl⟩
  | c :: l, k + 1, h => by
    have ih := tkCells_get l k (by simpa using h)
    have e : tkCells (c :: l) = .int .i64 c.kind :: .int .i64 c.pos :: .int .i64 c.fin :: .string c.text :: tkCells l := rfl
    rw [e, show (k + 1) * 4 = k * 4 + 1 + 1 + 1 + 1 from by omega, show k * 4 + 1 + 1 + 1 + 1 + 1 = (k * 4 + 1) + 1 + 1 + 1 + 1 from rfl, show k * 4 + 1 + 1 + 1 + 1 + 2 = (k * 4 + 2) + 1 + 1 + 1 + 1 from rfl, show k * 4 + 1 + 1 + 1 + 1 + 3 = (k * 4 + 3) + 1 + 1 + 1 + 1 from rfl]
    simp only [List.getElem?_cons_succ, List.getElem_cons_succ]
    exact ih
/-- A slice of fresh tokens. -/
def OwnT (w : World) (B : Nat) (v : Value) (l : List Tk) : Prop := w.ownsRow B 30 4 v l.length (tkCells l)
theorem row_kept2 {w w' : World} {B : Nat} {e : TypeId} {size n : Nat} {v : Value} {xs : List Value} (h : w.ownsRow B e size v n xs) (hk : ∀ k, k < w.heap.size → w'.heap[k]? = w.heap[k]?) : w'.ownsRow B e size v n xs := by
  refine ⟨h.1, ?_⟩
  rcases h.2 with h0 | ⟨g, cap, cur, rfl, hg, hh, r⟩
  · exact .inl h0
  · refine .inr ⟨g, cap, cur, rfl, hg, (hk g ?_).trans hh, r⟩
    rw [Array.getElem?_eq_some_iff] at hh
    exact hh.1
theorem tkInfo : (Tryd.prog.info? 30).map (fun i => (i.zero, i.size, i.bytes)) = some (some (.agg #[.int .i64 0, .int .i64 0, .int .i64 0, .string { data := #[] }]), 4, 40) := by kernel_rfl
theorem tk_info_parts {o : Option TypeInfo} {z : Value} {n b : Nat} (h : o.map (fun i => (i.zero, i.size, i.bytes)) = some (some z, n, b)) : ∃ i, o = some i ∧ i.zero = some z ∧ i.size = n ∧ i.bytes = b := by
  cases o with
  | none => cases h
  | some i => simp at h; exact ⟨i, rfl, h.1, h.2.1, h.2.2⟩
/-- All tokens from a place on, behind those that are there. -/
def allF : Nat → ByteArray → Nat → List Tk → List Tk × Nat × Nat
  | 0, _, _, _ => ([], 0, 0)
  | F + 1, s, a, acc => if (nextL s a).2 ≠ 0 then ([], (nextL s a).1.pos, (nextL s a).2) else if (nextL s a).1.kind = 5 then (acc ++ [(nextL s a).1], 0, 0) else allF F s (nextL s a).1.fin (acc ++ [(nextL s a).1])
def allL (s : ByteArray) : List Tk × Nat × Nat := allF (s.size + 1) s 0 []
theorem kindL_five {s : List UInt8} {p e : Nat} (h : kindL s p e ≠ 5) : e ≠ p := by
  intro h2
  apply h
  unfold kindL
  rw [if_pos h2]
theorem clamp_nat {k n : Nat} (h : k ≤ n) : clamp (k : Int) n = k := by
  unfold clamp
  rw [if_neg (by omega)]
  split <;> omega
theorem next_ok {s : ByteArray} {k : Nat} (hk : k ≤ s.size) (h : (nextL s k).2 = 0) : s.size ≤ 16384 ∧ (nextL s k).1.fin ≤ s.size ∧ k ≤ (nextL s k).1.pos ∧ (nextL s k).1.pos ≤ (nextL s k).1.fin ∧ ((nextL s k).1.kind ≠ 5 → (nextL s k).1.pos < (nextL s k).1.fin) := by
  unfold nextL at h ⊢
  by_cases h1 : 16384 < s.size
  · rw [if_pos h1] at h; simp at h
  rw [if_neg h1] at h ⊢
  have hp := skipL_le s.data.toList k
  have hp2 : k ≤ skipL s.data.toList k := by
    have := (skipF_le (s := s.data.toList) (s.data.toList.length + 1) _ (clamp_le (k : Int) s.data.toList.length)).2
    rw [clamp_nat (by rw [lenS]; exact hk)] at this
    unfold skipL
    rw [clamp_nat (by rw [lenS]; exact hk)]
    exact this
  generalize skipL s.data.toList k = p at *
  have hin := endL_in hp
  rcases he : endL s.data.toList p with ⟨e, x⟩
  rw [he] at h hin
  obtain ⟨i1, i2, i3⟩ := hin
  rw [lenS] at i1
  simp only at i1 i2
  rcases x with _ | x
  · have hpe := i2 rfl
    refine ⟨by omega, i1, hp2, hpe, fun h5 => ?_⟩
    have := kindL_five h5
    show p < e
    omega
  · simp at h
set_option maxHeartbeats 16000000 in
set_option maxRecDepth 100000 in
theorem All_c (s : ByteArray) (w : World) (hs : s.size ≤ 140737488355328) :
    Calls Tryd.prog 8 #[.string s] w fun e w' => ∃ v, e = .returned (.tuple #[v, .int .i64 ((allL s).2.1 : Nat), .int .i64 ((allL s).2.2 : Nat)]) ∧ OwnT w' w.heap.size v (allL s).1 ∧ Below w.heap.size w w' := by
  obtain ⟨i0, hi, hz0, hz1, hz2⟩ := tk_info_parts tkInfo
  have HR : Hid (∃ F, s.size - 0 < F ∧ allL s = allF F s 0 []) := Lib.hid ⟨s.size + 1, by omega, rfl⟩
  generalize allL s = R at *
  have Hnx := Lib.hid (fun (k : Nat) (W : World) (h : k ≤ s.size) => Next_c s k W hs (by omega))
  go_enter Tryd.func8, Tryd.ntmps8
  go_wp2_with fail
  go_loopw [5, 6] (fun lv iv wr => ∃ (k : Nat) (acc : List Tk), iv = .int .i64 k ∧ k ≤ s.size ∧ acc.length ≤ k ∧ Hid (OwnT wr w.heap.size lv acc) ∧ Below w.heap.size w wr ∧ Hid (∃ F, s.size - k < F ∧ R = allF F s k acc)) (fun _ iv _ => s.size - (intOf iv).toNat)
  case atStart => exact ⟨0, [], by go_num, by omega, by simp, Lib.hid ⟨rfl, .inl ⟨rfl, rfl⟩⟩, Below.refl _ _, HR⟩
  case round =>
    obtain ⟨k, acc, rfl, hk, hac, ho, hb, hx⟩ := hrel
    clear HR
    have hwr := hb.size
    have hnx := Hnx.out k wr hk
    have hok := next_ok (s := s) hk
    obtain ⟨F, hF, hx2⟩ := hx.out
    obtain ⟨F, rfl⟩ : ∃ G, F = G + 1 := ⟨F - 1, by omega⟩
    rw [allF] at hx2
    rcases hn : nextL s k with ⟨⟨qk, qp, qe, qt⟩, er⟩
    rw [hn] at hnx hx2 hok
    clear hn hx
    simp only at hx2 hok
    by_cases her : er = 0
    · subst her
      obtain ⟨hsz, he1, he2, he3, he4⟩ := hok rfl
      rw [if_neg (by simp)] at hx2
      have hnx2 : Calls Tryd.prog 10 #[.string s, .int .i64 k] wr fun e w' => e = .returned (.tuple #[.agg #[.int .i64 qk, .int .i64 qp, .int .i64 qe, .string qt], .int .i64 0]) ∧ Below wr.heap.size wr w' := hnx
      have Hnx2 := Lib.hid hnx2
      clear hnx hnx2 hok
      by_cases h5 : qk = 5
      · subst h5
        rw [if_pos rfl] at hx2
        have hx3 : Hid (R = (acc ++ [⟨5, qp, qe, qt⟩], 0, 0)) := Lib.hid hx2
        clear hx2
        go_wp2_with fail
        refine Hnx2.out.mono ?_
        rintro r w7 ⟨rfl, hb7⟩
        have hw7 := hb7.size
        have hb0 : Below w.heap.size w w7 := hb.trans (hb7.mono hwr)
        have hro7 : w7.ownsRow w.heap.size 30 4 u5 acc.length (tkCells acc) := row_kept2 ho.out (fun q hq => hb7.block q hq)
        have hrb : ∀ q, u5.ownBlock = some q → q < w7.heap.size := fun q hq => by have := (ho.out.lt q hq).2; omega
        have hr5 : ((w7.alloc (.cells #[.int .i64 5, .int .i64 qp, .int .i64 qe, .string qt] 30)).alloc (.cells #[.int .i64 5, .int .i64 qp, .int .i64 qe, .string qt] 30)).ownsRow w.heap.size 30 4 u5 acc.length (tkCells acc) := World.ownsRow.alloc (World.ownsRow.alloc hro7 _) _
        have hbw := hb0.size
        have hb5 := (hb0.alloc hbw (.cells #[.int .i64 5, .int .i64 qp, .int .i64 qe, .string qt] 30)).alloc (by simp; omega) (.cells #[.int .i64 5, .int .i64 qp, .int .i64 qe, .string qt] 30)
        have hnews := World.news_of_block (cs := #[.int .i64 5, .int .i64 qp, .int .i64 qe, .string qt]) (t := 30) (fr := (0, 0)) (heap_alloc_new (w7.alloc (.cells #[.int .i64 5, .int .i64 qp, .int .i64 qe, .string qt] 30)) (.cells #[.int .i64 5, .int .i64 qp, .int .i64 qe, .string qt] 30))
        rw [show (w7.alloc (.cells #[.int .i64 5, .int .i64 qp, .int .i64 qe, .string qt] 30)).heap.size = w7.heap.size + 1 from by simp] at hnews
        have hold : ((w7.alloc (.cells #[.int .i64 5, .int .i64 qp, .int .i64 qe, .string qt] 30)).alloc (.cells #[.int .i64 5, .int .i64 qp, .int .i64 qe, .string qt] 30)).heap[w7.heap.size]? = some (.cells #[.int .i64 5, .int .i64 qp, .int .i64 qe, .string qt] 30 (0, 0)) := by
          rw [Below.heap_alloc _ _ _ (by simp)]
          exact heap_alloc_new w7 _
        have Hb5 := Lib.hid hb5
        have Hold := Lib.hid hold
        have Hrb := Lib.hid hrb
        have Hm : Hid ((acc.length + 1) * 40 ≤ 140737488355328) := Lib.hid (by omega)
        clear hb5 hold hrb hb0 hbw
        go_wp2_with (at_builtin; refine wpList_append_own _ rfl _ _ 23 rfl w.heap.size 30 i0 _ 4 40 Tryd.underlying23 hi hz0 hz1 hz2 rfl (by decide) _ _ _ rfl hr5 ⟨w7.heap.size + 1, 0, none⟩ 1 1 [.int .i64 5, .int .i64 qp, .int .i64 qe, .string qt] rfl rfl hnews (by intro u hu; simp at hu; rcases hu with rfl | rfl | rfl | rfl <;> rfl) (by unfold maxLen; have := Hm.out; omega) Hm.out (by have := Hb5.out.size; exact this) ?_)
        intro v' w8 hown' hgrow _
        have hb8 : Below w.heap.size w w8 := Hb5.out.grown hgrow Hb5.out.size (fun q hq => (hr5.lt q hq).1)
        have hh8 : w8.heap[w7.heap.size]? = some (.cells #[.int .i64 5, .int .i64 qp, .int .i64 qe, .string qt] 30 (0, 0)) := by
          rw [hgrow.block _ (by simp; omega) (fun e => by have := Hrb.out _ e.symm; omega)]
          exact Hold.out
        have c0 : w8.cell? ⟨w7.heap.size, 0, none⟩ = some (.int .i64 5) := by rw [cell_of_row w8 _ 0 _ _ _ hh8]; rfl
        have c2 : w8.cell? ⟨w7.heap.size, 2, none⟩ = some (.int .i64 qe) := by rw [cell_of_row w8 _ 2 _ _ _ hh8]; rfl
        have Ho8 : Hid (OwnT w8 w.heap.size v' (acc ++ [⟨5, qp, qe, qt⟩])) := Lib.hid (by
          unfold OwnT
          rw [List.length_append, tkCells_append]
          exact hown')
        clear hown' hgrow hr5 Hb5 hnews Hold Hrb hh8 hro7
        go_wp2_with fail
        go_ret3
        exact ⟨_, by rw [hx3.out]; rfl, by rw [hx3.out]; exact Ho8.out, hb8⟩
      · have t5 : ((qk : Int) == 5) = false := by rw [beq_eq_false_iff_ne]; omega
        have t5' : (qk == 5) = false := by rw [beq_eq_false_iff_ne]; exact h5
        rw [if_neg h5] at hx2
        have hlt := he4 h5
        have hx3 : Hid (∃ F, s.size - qe < F ∧ R = allF F s qe (acc ++ [⟨qk, qp, qe, qt⟩])) := Lib.hid ⟨F, by omega, hx2⟩
        clear hx2 h5
        go_wp2_with fail
        refine Hnx2.out.mono ?_
        rintro r w7 ⟨rfl, hb7⟩
        have hw7 := hb7.size
        have hb0 : Below w.heap.size w w7 := hb.trans (hb7.mono hwr)
        have hro7 : w7.ownsRow w.heap.size 30 4 u5 acc.length (tkCells acc) := row_kept2 ho.out (fun q hq => hb7.block q hq)
        have hrb : ∀ q, u5.ownBlock = some q → q < w7.heap.size := fun q hq => by have := (ho.out.lt q hq).2; omega
        have hr5 : ((w7.alloc (.cells #[.int .i64 qk, .int .i64 qp, .int .i64 qe, .string qt] 30)).alloc (.cells #[.int .i64 qk, .int .i64 qp, .int .i64 qe, .string qt] 30)).ownsRow w.heap.size 30 4 u5 acc.length (tkCells acc) := World.ownsRow.alloc (World.ownsRow.alloc hro7 _) _
        have hbw := hb0.size
        have hb5 := (hb0.alloc hbw (.cells #[.int .i64 qk, .int .i64 qp, .int .i64 qe, .string qt] 30)).alloc (by simp; omega) (.cells #[.int .i64 qk, .int .i64 qp, .int .i64 qe, .string qt] 30)
        have hnews := World.news_of_block (cs := #[.int .i64 qk, .int .i64 qp, .int .i64 qe, .string qt]) (t := 30) (fr := (0, 0)) (heap_alloc_new (w7.alloc (.cells #[.int .i64 qk, .int .i64 qp, .int .i64 qe, .string qt] 30)) (.cells #[.int .i64 qk, .int .i64 qp, .int .i64 qe, .string qt] 30))
        rw [show (w7.alloc (.cells #[.int .i64 qk, .int .i64 qp, .int .i64 qe, .string qt] 30)).heap.size = w7.heap.size + 1 from by simp] at hnews
        have hold : ((w7.alloc (.cells #[.int .i64 qk, .int .i64 qp, .int .i64 qe, .string qt] 30)).alloc (.cells #[.int .i64 qk, .int .i64 qp, .int .i64 qe, .string qt] 30)).heap[w7.heap.size]? = some (.cells #[.int .i64 qk, .int .i64 qp, .int .i64 qe, .string qt] 30 (0, 0)) := by
          rw [Below.heap_alloc _ _ _ (by simp)]
          exact heap_alloc_new w7 _
        have Hb5 := Lib.hid hb5
        have Hold := Lib.hid hold
        have Hrb := Lib.hid hrb
        have Hm : Hid ((acc.length + 1) * 40 ≤ 140737488355328) := Lib.hid (by omega)
        clear hb5 hold hrb hb0 hbw
        go_wp2_with (at_builtin; refine wpList_append_own _ rfl _ _ 23 rfl w.heap.size 30 i0 _ 4 40 Tryd.underlying23 hi hz0 hz1 hz2 rfl (by decide) _ _ _ rfl hr5 ⟨w7.heap.size + 1, 0, none⟩ 1 1 [.int .i64 qk, .int .i64 qp, .int .i64 qe, .string qt] rfl rfl hnews (by intro u hu; simp at hu; rcases hu with rfl | rfl | rfl | rfl <;> rfl) (by unfold maxLen; have := Hm.out; omega) Hm.out (by have := Hb5.out.size; exact this) ?_)
        intro v' w8 hown' hgrow _
        have hb8 : Below w.heap.size w w8 := Hb5.out.grown hgrow Hb5.out.size (fun q hq => (hr5.lt q hq).1)
        have hh8 : w8.heap[w7.heap.size]? = some (.cells #[.int .i64 qk, .int .i64 qp, .int .i64 qe, .string qt] 30 (0, 0)) := by
          rw [hgrow.block _ (by simp; omega) (fun e => by have := Hrb.out _ e.symm; omega)]
          exact Hold.out
        have c0 : w8.cell? ⟨w7.heap.size, 0, none⟩ = some (.int .i64 qk) := by rw [cell_of_row w8 _ 0 _ _ _ hh8]; rfl
        have c2 : w8.cell? ⟨w7.heap.size, 2, none⟩ = some (.int .i64 qe) := by rw [cell_of_row w8 _ 2 _ _ _ hh8]; rfl
        have Ho8 : Hid (OwnT w8 w.heap.size v' (acc ++ [⟨qk, qp, qe, qt⟩])) := Lib.hid (by
          unfold OwnT
          rw [List.length_append, tkCells_append]
          exact hown')
        clear hown' hgrow hr5 Hb5 hnews Hold Hrb hh8 hro7
        go_wp2_with fail
        go_roundw
        case rel => exact ⟨qe, _, rfl, he1, by simp; omega, Ho8, hb8, hx3⟩
        case measure => simp [intOf]; omega
    · have hx3 : Hid (R = ([], qp, er)) := Lib.hid (by rw [if_pos her] at hx2; exact hx2)
      obtain ⟨E, hE⟩ : ∃ E : Int, E = (er : Int) := ⟨_, rfl⟩
      have tE : (E != 0) = true := by rw [bne_iff_ne]; omega
      have hnx2 : Calls Tryd.prog 10 #[.string s, .int .i64 k] wr fun e w' => e = .returned (.tuple #[.agg #[.int .i64 qk, .int .i64 qp, .int .i64 qe, .string qt], .int .i64 E]) ∧ Below wr.heap.size wr w' := by rw [hE]; exact hnx
      have Hnx2 := Lib.hid hnx2
      have HE := Lib.hid hE
      clear hnx hnx2 hok hx2 hE her
      go_wp2_with fail
      refine Hnx2.out.mono ?_
      rintro r w7 ⟨rfl, hb7⟩
      go_wp2_with fail
      go_quiet (fail)
      have hb9 : Below w.heap.size w w7 := hb.trans (hb7.mono hwr)
      have hb8 := hb9.alloc hb9.size (.cells #[.int .i64 qk, .int .i64 qp, .int .i64 qe, .string qt] 30)
      go_wp2_with fail
      go_ret3
      exact ⟨_, by rw [hx3.out, HE.out]; rfl, by rw [hx3.out]; exact ⟨rfl, .inl ⟨rfl, rfl⟩⟩, below_drewN hb8 _⟩
end Go.Proofs.YtlenmkcafoiefaaDoor
