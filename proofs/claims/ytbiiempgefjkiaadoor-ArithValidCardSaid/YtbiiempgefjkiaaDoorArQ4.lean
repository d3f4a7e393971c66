/- arith: scan. -/
import Derived.Test.YtbiiempgefjkiaaDoorArQ3
namespace Go.Proofs.YtbiiempgefjkiaaDoor.Ar
open Go.RowKit
set_option linter.unusedVariables false

def tkC (l : List Tok) : List Value := l.flatMap fun t => [.int .i64 t.k, .int .i64 t.p, .string t.t]
theorem tkC_append (l m : List Tok) : tkC (l ++ m) = tkC l ++ tkC m := by simp [tkC]
theorem tkC_length (l : List Tok) : (tkC l).length = l.length * 3 := by
  induction l with
  | nil => rfl
  | cons p l ih => rw [tkC, List.flatMap_cons, List.length_append]; unfold tkC at ih; rw [ih]; simp; omega
theorem tkC_get : ∀ (l : List Tok) (k : Nat) (h : k < l.length), (tkC l)[k * 3]? = some (.int .i64 (l[k]'h).k) ∧ (tkC l)[k * 3 + 1]? = some (.int .i64 (l[k]'h).p) ∧ (tkC l)[k * 3 + 2]? = some (.string (l[k]'h).t)
  | [], k, h => by simp at h
  | c :: l, 0, h => ⟨rfl, rfl, rfl⟩
  | c :: l, k + 1, h => by
    have ih := tkC_get l k (by simpa using h)
    have e : tkC (c :: l) = .int .i64 c.k :: .int .i64 c.p :: .string c.t :: tkC l := rfl
    rw [e, show (k + 1) * 3 = k * 3 + 1 + 1 + 1 from by omega, show k * 3 + 1 + 1 + 1 + 1 = (k * 3 + 1) + 1 + 1 + 1 from rfl, show k * 3 + 1 + 1 + 1 + 2 = (k * 3 + 2) + 1 + 1 + 1 from rfl]
    simp only [List.getElem?_cons_succ, List.getElem_cons_succ]
    exact ih
/-- A slice of fresh tokens. -/
def OwnTk (w : World) (B : Nat) (v : Value) (l : List Tok) : Prop := w.ownsRow B 77 3 v l.length (tkC l)
theorem row_keepA {w w' : World} {B : Nat} {e : TypeId} {size n : Nat} {v : Value} {xs : List Value} (h : w.ownsRow B e size v n xs) (hk : ∀ k, k < w.heap.size → w'.heap[k]? = w.heap[k]?) : w'.ownsRow B e size v n xs := by
  refine ⟨h.1, ?_⟩
  rcases h.2 with h0 | ⟨g, cap, cur, rfl, hg, hh, r⟩
  · exact .inl h0
  · refine .inr ⟨g, cap, cur, rfl, hg, (hk g ?_).trans hh, r⟩
    rw [Array.getElem?_eq_some_iff] at hh
    exact hh.1
theorem tokInfo : (Tryd.prog.info? 77).map (fun i => (i.zero, i.size, i.bytes)) = some (some (.agg #[.int .i64 0, .int .i64 0, .string { data := #[] }]), 3, 32) := by kernel_rfl
theorem info_partsA {o : Option TypeInfo} {z : Value} {n b : Nat} (h : o.map (fun i => (i.zero, i.size, i.bytes)) = some (some z, n, b)) : ∃ i, o = some i ∧ i.zero = some z ∧ i.size = n ∧ i.bytes = b := by
  cases o with
  | none => cases h
  | some i => simp at h; exact ⟨i, rfl, h.1, h.2.1, h.2.2⟩
theorem scanF_end (s : ByteArray) (F p : Nat) (h : s.size ≤ p) : scanF s F p = [⟨0, s.size, ⟨#[]⟩⟩] := by
  cases F with
  | zero => rfl
  | succ F => rw [scanF, if_neg (by omega)]
set_option maxHeartbeats 8000000 in
set_option maxRecDepth 100000 in
theorem scan_c (s : ByteArray) (w : World) (hE : Env w) (hs : s.size ≤ 4096) :
    Calls Tryd.prog 32 #[.string s] w fun e w' => ∃ v, e = .returned v ∧ OwnTk w' w.heap.size v (scanL s) ∧ Below w.heap.size w w' := by
  obtain ⟨i0, hi, hz0, hz1, hz2⟩ := info_partsA tokInfo
  have hsm : s.size ≤ maxLen := by unfold maxLen; omega
  have HSP := Lib.hid (fun (p : Nat) (W : World) (hp : p ≤ s.size) => skipSpace_c s p W hp hsm)
  have HFT := Lib.hid (fun (p : Nat) (W : World) (hp : p < s.size) (h : Below w.heap.size w W) => firstToken_c (s.extract p s.size) W (env_next hE h) (by rw [ByteArray.size_extract]; omega) (by rw [ByteArray.size_extract]; unfold maxLen; omega))
  have hsp0 := spc_le (s := s) (p := 0) (Nat.zero_le _)
  have HR : Hid (∃ F, s.size + 1 ≤ F + spc s 0 ∧ scanL s = [] ++ scanF s F (spc s 0)) := Lib.hid ⟨s.size + 1, by omega, rfl⟩
  generalize scanL s = R at *
  have HSP0 := Lib.hid (HSP.out 0 w (Nat.zero_le _))
  clear hsm hE
  go_enter Tryd.func32, Tryd.ntmps32
  go_wp2_with fail
  refine HSP0.out.mono ?_
  rintro e w1 ⟨rfl, rfl⟩
  clear HSP0
  generalize spc s 0 = p0 at *
  go_wp2_with fail
  go_loopw [3, 4] (fun lv iv wr => ∃ (p : Nat) (acc : List Tok), iv = .int .i64 p ∧ p ≤ s.size ∧ acc.length ≤ p ∧ Hid (OwnTk wr w.heap.size lv acc) ∧ Below w.heap.size w wr ∧ Hid (∃ F, s.size + 1 ≤ F + p ∧ R = acc ++ scanF s F p)) (fun _ iv _ => s.size - (intOf iv).toNat)
  case atStart => exact ⟨p0, [], rfl, hsp0, by simp, Lib.hid ⟨rfl, .inl ⟨rfl, rfl⟩⟩, Below.refl _ _, HR⟩
  case round =>
    obtain ⟨p, acc, rfl, hp, hac, ho, hb, hx⟩ := hrel
    clear HR
    have hwr := hb.size
    by_cases hlt : p < s.size
    · have j1 : (p : Int) < (s.size : Int) := by omega
      obtain ⟨F, hF, hx2⟩ := hx.out
      obtain ⟨G, rfl⟩ : ∃ G, F = G + 1 := ⟨F - 1, by omega⟩
      rw [scanF, if_pos hlt] at hx2
      have hft := HFT.out p wr hlt hb
      have hsz : 0 < (s.extract p s.size).size := by rw [ByteArray.size_extract]; omega
      obtain ⟨q1, q2, q3, q4⟩ := first_size hsz p
      have hval : (firstT (s.extract p s.size) 0).val = .agg #[.int .i64 (firstT (s.extract p s.size) p).k, .int .i64 0, .string (firstT (s.extract p s.size) p).t] := by
        unfold firstT Tok.val
        split
        · rfl
        · split <;> rfl
      rw [hval] at hft
      rw [ByteArray.size_extract] at q2
      generalize hT : firstT (s.extract p s.size) p = T at *
      obtain ⟨k, pp, t⟩ := T
      simp only at q1 q2 q3 hx2 hft
      subst q3
      have hnp : pp + t.size ≤ s.size := by omega
      have hsp1 := spc_le hnp
      have hsp2 := spc_ge s (pp + t.size)
      have HSPn := Lib.hid (fun W => HSP.out (pp + t.size) W hnp)
      have HQ : Hid (∃ F, s.size + 1 ≤ F + spc s (pp + t.size) ∧ R = (acc ++ [⟨k, pp, t⟩]) ++ scanF s F (spc s (pp + t.size))) := Lib.hid ⟨G, by omega, by rw [hx2, List.append_assoc]; rfl⟩
      have Hft := Lib.hid hft
      clear hx hx2 hft hT hval q4 HSP HFT
      go_wp2_with fail
      refine Hft.out.mono ?_
      rintro e w7 ⟨rfl, hb7⟩
      have hw7 := hb7.size
      have hb0 : Below w.heap.size w w7 := hb.trans (hb7.mono hwr)
      have hro7 : w7.ownsRow w.heap.size 77 3 u3 acc.length (tkC acc) := row_keepA ho.out (fun q hq => hb7.block q hq)
      have hrb : ∀ q, u3.ownBlock = some q → q < w7.heap.size := fun q hq => by have := (ho.out.lt q hq).2; omega
      have hr5 : ((w7.alloc (.cells #[.int .i64 k, .int .i64 pp, .string t] 77)).alloc (.cells #[.int .i64 k, .int .i64 pp, .string t] 77)).ownsRow w.heap.size 77 3 u3 acc.length (tkC acc) := World.ownsRow.alloc (World.ownsRow.alloc hro7 _) _
      have hbw := hb0.size
      have hb5 := (hb0.alloc hbw (.cells #[.int .i64 k, .int .i64 pp, .string t] 77)).alloc (by simp; omega) (.cells #[.int .i64 k, .int .i64 pp, .string t] 77)
      have hnews := World.news_of_block (cs := #[.int .i64 k, .int .i64 pp, .string t]) (t := 77) (fr := (0, 0)) (heap_alloc_new (w7.alloc (.cells #[.int .i64 k, .int .i64 pp, .string t] 77)) (.cells #[.int .i64 k, .int .i64 pp, .string t] 77))
      rw [show (w7.alloc (.cells #[.int .i64 k, .int .i64 pp, .string t] 77)).heap.size = w7.heap.size + 1 from by simp] at hnews
      have hold : ((w7.alloc (.cells #[.int .i64 k, .int .i64 pp, .string t] 77)).alloc (.cells #[.int .i64 k, .int .i64 pp, .string t] 77)).heap[w7.heap.size]? = some (.cells #[.int .i64 k, .int .i64 pp, .string t] 77 (0, 0)) := by
        rw [Below.heap_alloc _ _ _ (by simp)]
        exact heap_alloc_new w7 _
      have Hb5 := Lib.hid hb5
      have Hold := Lib.hid hold
      have Hrb := Lib.hid hrb
      have Hm : Hid ((acc.length + 1) * 32 ≤ 140737488355328) := Lib.hid (by omega)
      clear hb5 hold hrb hb0 hbw Hft
      go_wp2_with (at_builtin; refine wpList_append_own _ rfl _ _ 61 rfl w.heap.size 77 i0 _ 3 32 Tryd.underlying61 hi hz0 hz1 hz2 rfl (by decide) _ _ _ rfl hr5 ⟨w7.heap.size + 1, 0, none⟩ 1 1 [.int .i64 k, .int .i64 pp, .string t] rfl rfl hnews (by intro u hu; simp at hu; rcases hu with rfl | rfl | rfl <;> rfl) (by unfold maxLen; have := Hm.out; omega) (by have := Hm.out; omega) (by have := Hb5.out.size; simpa using this) ?_)
      intro v' w8 hown' hgrow _
      have hb8 : Below w.heap.size w w8 := Hb5.out.grown hgrow Hb5.out.size (fun q hq => (hr5.lt q hq).1)
      have hh8 : w8.heap[w7.heap.size]? = some (.cells #[.int .i64 k, .int .i64 pp, .string t] 77 (0, 0)) := by
        rw [hgrow.block _ (by simp; omega) (fun e => by have := Hrb.out _ e.symm; omega)]
        exact Hold.out
      have c2 : w8.cell? ⟨w7.heap.size, 2, none⟩ = some (.string t) := by rw [Lib.cell_of_heap hh8]; rfl
      have Ho8 : Hid (OwnTk w8 w.heap.size v' (acc ++ [⟨k, pp, t⟩])) := Lib.hid (by
        unfold OwnTk
        rw [List.length_append, tkC_append]
        exact hown')
      have HSPm := Lib.hid (HSPn.out w8)
      have hacl : (acc ++ [(⟨k, pp, t⟩ : Tok)]).length ≤ spc s (pp + t.size) := by simp; omega
      clear hown' hgrow hr5 Hb5 hnews Hold Hrb hh8 hro7 HSPn
      generalize spc s (pp + t.size) = np at *
      go_wp2_with fail
      refine HSPm.out.mono ?_
      rintro e w9 ⟨rfl, rfl⟩
      go_wp2_with fail
      go_roundw
      case rel => exact ⟨np, _, rfl, hsp1, hacl, Ho8, hb8, HQ⟩
      case measure => simp [intOf]; omega
    · obtain rfl : p = s.size := by omega
      have hR2 : R = acc ++ [⟨0, s.size, ⟨#[]⟩⟩] := by
        obtain ⟨F, hF, hx2⟩ := hx.out
        rw [hx2, scanF_end s F s.size (Nat.le_refl _)]
      subst hR2
      clear hx
      have hro7 : wr.ownsRow w.heap.size 77 3 u3 acc.length (tkC acc) := ho.out
      have hr5 : (wr.alloc (.cells #[.int .i64 0, .int .i64 s.size, .string ⟨#[]⟩] 77)).ownsRow w.heap.size 77 3 u3 acc.length (tkC acc) := World.ownsRow.alloc hro7 _
      have hb5 := hb.alloc hwr (.cells #[.int .i64 0, .int .i64 s.size, .string ⟨#[]⟩] 77)
      have hnews := World.news_of_block (cs := #[.int .i64 0, .int .i64 s.size, .string ⟨#[]⟩]) (t := 77) (fr := (0, 0)) (heap_alloc_new wr (.cells #[.int .i64 0, .int .i64 s.size, .string ⟨#[]⟩] 77))
      have Hb5 := Lib.hid hb5
      have Hm : Hid ((acc.length + 1) * 32 ≤ 140737488355328) := Lib.hid (by omega)
      clear hb5 HSP HFT
      go_wp2_with (at_builtin; refine wpList_append_own _ rfl _ _ 61 rfl w.heap.size 77 i0 _ 3 32 Tryd.underlying61 hi hz0 hz1 hz2 rfl (by decide) _ _ _ rfl hr5 ⟨wr.heap.size, 0, none⟩ 1 1 [.int .i64 0, .int .i64 s.size, .string ⟨#[]⟩] rfl rfl hnews (by intro u hu; simp at hu; rcases hu with rfl | rfl | rfl <;> rfl) (by unfold maxLen; have := Hm.out; omega) (by have := Hm.out; omega) (by have := Hb5.out.size; simpa using this) ?_)
      intro v' w8 hown' hgrow _
      have hb8 : Below w.heap.size w w8 := Hb5.out.grown hgrow Hb5.out.size (fun q hq => (hr5.lt q hq).1)
      have Ho8 : Hid (OwnTk w8 w.heap.size v' (acc ++ [⟨0, s.size, ⟨#[]⟩⟩])) := Lib.hid (by
        unfold OwnTk
        rw [List.length_append, tkC_append]
        exact hown')
      clear hown' hgrow hr5 Hb5 hnews hro7
      go_wp2_with fail
      go_ret
      exact ⟨_, rfl, Ho8.out, hb8⟩
end Go.Proofs.YtbiiempgefjkiaaDoor.Ar
