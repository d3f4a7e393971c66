/- pattern: bracketRuns. -/
import Derived.Test.YteppndkhmbhnkaaDoorPSuf
namespace Go.Proofs.YteppndkhmbhnkaaDoor
open Go.RowKit
set_option linter.unusedVariables false

def rnCells (rs : List Rn) : List Value := rs.flatMap fun r => [.string ⟨r.t.toArray⟩, .int .i64 r.c]
theorem rnCells_append (l m : List Rn) : rnCells (l ++ m) = rnCells l ++ rnCells m := by simp [rnCells]
theorem rnCells_length (l : List Rn) : (rnCells l).length = l.length * 2 := by
  induction l with
  | nil => rfl
  | cons p l ih => rw [rnCells, List.flatMap_cons, List.length_append]; unfold rnCells at ih; rw [ih]; simp; omega
theorem rnCells_get : ∀ (l : List Rn) (k : Nat) (h : k < l.length), (rnCells l)[k * 2]? = some (.string ⟨(l[k]'h).t.toArray⟩) ∧ (rnCells l)[k * 2 + 1]? = some (.int .i64 (l[k]'h).c)
  | [], k, h => by simp at h
  | c :: l, 0, h => ⟨rfl, rfl⟩
  | c :: l, k + 1, h => by
    have ih := rnCells_get l k (by simpa using h)
    have e : rnCells (c :: l) = .string ⟨c.t.toArray⟩ :: .int .i64 c.c :: rnCells l := rfl
    rw [e, show (k + 1) * 2 = k * 2 + 1 + 1 from by omega, show k * 2 + 1 + 1 + 1 = (k * 2 + 1) + 1 + 1 from rfl]
    simp only [List.getElem?_cons_succ, List.getElem_cons_succ]
    exact ih
/-- A slice of fresh runs. -/
def OwnR (w : World) (B : Nat) (v : Value) (rs : List Rn) : Prop := w.ownsRow B 66 2 v rs.length (rnCells rs)
theorem ownR_at {w : World} {B : Nat} {v : Value} {rs : List Rn} (h : OwnR w B v rs) : ∃ A c, v = .slice A rs.length c ∧ RunAt w w.heap.size A rs ∧ rs.length ≤ c ∧ c ≤ maxLen := by
  have h' := h
  rcases h.2 with ⟨rfl, h0⟩ | ⟨g, cap, cur, rfl, hg, hh, h2, h3, h4, h5⟩
  · exact ⟨none, 0, by rw [h0], .inl (List.length_eq_zero_iff.1 h0), by omega, by unfold maxLen; omega⟩
  · refine ⟨_, cap, rfl, .inr ⟨g, 0, rfl, lt_of_block hh, fun k hk => ?_⟩, h2, h3⟩
    rw [Nat.zero_add]
    have e1 := World.ownsRow.cellAt h' (k * 2) (by omega)
    have e2 := World.ownsRow.cellAt h' (k * 2 + 1) (by omega)
    rw [e1, e2]
    exact rnCells_get rs k hk
theorem ownR_kept {w w' : World} {B : Nat} {v : Value} {rs : List Rn} (h : OwnR w B v rs) (hk : ∀ k, k < w.heap.size → w'.heap[k]? = w.heap[k]?) : OwnR w' B v rs := row_kept h hk
theorem ownR_mono {w : World} {B B' : Nat} {v : Value} {rs : List Rn} (h : OwnR w B v rs) (hB : B' ≤ B) : OwnR w B' v rs := by
  refine ⟨h.1, ?_⟩
  rcases h.2 with h0 | ⟨g, cap, cur, rfl, hg, r⟩
  · exact .inl h0
  · exact .inr ⟨g, cap, cur, rfl, by omega, r⟩
theorem runInfo : (Tryd.prog.info? 66).map (fun i => (i.zero, i.size, i.bytes)) = some (some (.agg #[.string { data := #[] }, .int .i64 0]), 2, 24) := by kernel_rfl
theorem ownR_lit (w : World) (B : Nat) (hB : B ≤ w.heap.size) (s : List UInt8) (c : Int) : OwnR (w.alloc (.cells #[.string ⟨s.toArray⟩, .int .i64 c] 66)) B (.slice (some ⟨w.heap.size, 0, none⟩) 1 1) [⟨s, c⟩] :=
  ⟨rfl, .inr ⟨w.heap.size, 1, _, rfl, hB, heap_alloc_new w _, Nat.le_refl _, by unfold maxLen; show 1 ≤ _; omega, by simp, by simp [rnCells]⟩⟩

def spR (l : List (Nat × Nat)) : List Rn := l.flatMap fun p => [⟨[UInt8.ofNat p.1], 1⟩, ⟨[45], 0⟩, ⟨[UInt8.ofNat p.2], 1⟩]
def brR (x : It) : List Rn := [⟨[91], 0⟩] ++ (if x.neg = true then [⟨[33], 0⟩] else []) ++ spR (if x.set = [] then [(98, 97)] else x.set) ++ [⟨[93], 0⟩]

theorem oneByte_n (a : Nat) (h : a < 256) (w : World) : Calls Tryd.prog 87 #[.int .u8 (a : Nat)] w fun e w' => e = .returned (.string ⟨[UInt8.ofNat a].toArray⟩) ∧ Below w.heap.size w w' := by
  have := oneByte_c (UInt8.ofNat a) w
  rw [show (UInt8.ofNat a).toNat = a from by simp; omega] at this
  exact this
theorem spR_cons (a e : Nat) (l : List (Nat × Nat)) : spR ((a, e) :: l) = [⟨[UInt8.ofNat a], 1⟩, ⟨[45], 0⟩, ⟨[UInt8.ofNat e], 1⟩] ++ spR l := rfl
theorem spR_length (l : List (Nat × Nat)) : (spR l).length = 3 * l.length := by
  induction l with
  | nil => rfl
  | cons p l ih => obtain ⟨a, e⟩ := p; rw [spR_cons, List.length_append, ih]; simp; omega

set_option maxHeartbeats 8000000 in
set_option maxRecDepth 100000 in
theorem bracketRuns_pf (A : Option Addr) (c : Nat) (xk : Int) (xt : List UInt8) (xs : List (Nat × Nat)) (w : World) (hls : xs.length ≤ 1000000) (hne : xs ≠ []) (hs0 : Hid (SpAt w w.heap.size (.slice A xs.length c) xs)) (Hok : Hid (∀ p ∈ xs, p.1 < 256 ∧ p.2 < 256)) :
    Calls Tryd.prog 57 #[.agg #[.int .i64 xk, .string ⟨xt.toArray⟩, .bool false, .slice A xs.length c]] w fun e w' => ∃ v, e = .returned v ∧ OwnR w' w.heap.size v (brR ⟨xk, xt, false, xs⟩) ∧ Below w.heap.size w w' := by
  obtain ⟨i0, hi, hz0, hz1, hz2⟩ := info_parts runInfo
  have e0 : 0 < xs.length := List.length_pos_iff.2 hne
  have e1 : ((xs.length : Int) == 0) = false := by rw [beq_eq_false_iff_ne]; omega
  have e2 : (xs.length == 0) = false := by rw [beq_eq_false_iff_ne]; omega
  have HR : Hid (brR ⟨xk, xt, false, xs⟩ = [⟨[91], 0⟩] ++ (spR (xs.drop 0) ++ [⟨[93], 0⟩])) := Lib.hid (by unfold brR; simp [hne])
  generalize brR ⟨xk, xt, false, xs⟩ = R at *
  have mP : Below w.heap.size w (w.alloc (.cells #[.int .i64 xk, .string ⟨xt.toArray⟩, .bool false, .slice A xs.length c] 43)) := (Below.refl _ _).alloc (Nat.le_refl _) _
  have hszP : (w.alloc (.cells #[.int .i64 xk, .string ⟨xt.toArray⟩, .bool false, .slice A xs.length c] 43)).heap.size = w.heap.size + 1 := by simp
  have ho1 : OwnR ((w.alloc (.cells #[.int .i64 xk, .string ⟨xt.toArray⟩, .bool false, .slice A xs.length c] 43)).alloc (.cells #[.string { data := #[91] }, .int .i64 0] 66)) w.heap.size (.slice (some ⟨w.heap.size + 1, 0, none⟩) 1 1) [⟨[91], 0⟩] := by
    have := ownR_lit (w.alloc (.cells #[.int .i64 xk, .string ⟨xt.toArray⟩, .bool false, .slice A xs.length c] 43)) w.heap.size mP.size [91] 0
    rw [hszP] at this
    exact this
  have hb1 : Below w.heap.size w ((w.alloc (.cells #[.int .i64 xk, .string ⟨xt.toArray⟩, .bool false, .slice A xs.length c] 43)).alloc (.cells #[.string { data := #[91] }, .int .i64 0] 66)) := mP.alloc mP.size _
  have hsz1 : ((w.alloc (.cells #[.int .i64 xk, .string ⟨xt.toArray⟩, .bool false, .slice A xs.length c] 43)).alloc (.cells #[.string { data := #[91] }, .int .i64 0] 66)).heap.size = w.heap.size + 1 + 1 := by simp
  have HO := Lib.hid ho1; have HB := Lib.hid hb1
  clear mP hszP ho1 hb1 hsz1
  go_enter Tryd.func57, Tryd.ntmps57
  go_wp2_with fail
  go_loopw [3, 24] (fun lv iv wr => ∃ (k : Nat) (acc : List Rn), iv = .int .i64 k ∧ k ≤ xs.length ∧ acc.length ≤ 2 + 3 * k ∧ Hid (OwnR wr w.heap.size lv acc) ∧ Below w.heap.size w wr ∧ Hid (R = acc ++ (spR (xs.drop k) ++ [⟨[93], 0⟩]))) (fun _ iv _ => xs.length - (intOf iv).toNat)
  case atStart => exact ⟨0, [⟨[91], 0⟩], rfl, by omega, by simp, HO, HB.out, HR⟩
  case round =>
    obtain ⟨k, acc, rfl, hk, hac, ho, hb, hx⟩ := hrel
    clear HR HO HB
    have hwr := hb.size
    by_cases hlt : k < xs.length
    · have d1 : decide ((k : Int) < (xs.length : Int)) = true := decide_eq_true (by first | omega | (simp at hlt; omega))
      have d1' : decide (k < xs.length) = true := decide_eq_true (by first | omega | (simp at hlt; omega))
      obtain ⟨b, off, rfl, hbl, hcell⟩ : ∃ b off, A = some ⟨b, off, none⟩ ∧ b < w.heap.size ∧ ∀ k (h : k < xs.length), w.cell? ⟨b, off + k * 2, none⟩ = some (.int .u8 ((xs[k]'h).1 : Nat)) ∧ w.cell? ⟨b, off + k * 2 + 1, none⟩ = some (.int .u8 ((xs[k]'h).2 : Nat)) := by
        obtain ⟨A9, c9, e9, h9⟩ := hs0.out
        injection e9 with e9
        subst e9
        rcases h9 with rfl | h9
        · simp at hlt
        · exact h9
      have x0 := (hb.cell (p := ⟨b, off + k * 2, none⟩) hbl).trans (hcell k hlt).1
      have x1 := (hb.cell (p := ⟨b, off + k * 2 + 1, none⟩) hbl).trans (hcell k hlt).2
      clear hcell
      have hx2 := hx.out
      rw [List.drop_eq_getElem_cons hlt] at hx2
      have hq256 : ((xs)[k]'hlt).1 < 256 ∧ ((xs)[k]'hlt).2 < 256 := Hok.out _ (List.getElem_mem hlt)
      generalize (xs)[k]'hlt = q at *
      obtain ⟨a, e⟩ := q
      rw [spR_cons] at hx2
      simp only at x0 x1 hq256
      have Hx2 := Lib.hid hx2
      have hkI : (k : Int) < (xs.length : Int) := by first | omega | (simp at hlt; omega)
      have hq1 := hq256.1
      have hq2 := hq256.2
      clear hx hx2 hq256
      have hsp := heap_alloc_new wr (.cells #[.int .u8 a, .int .u8 e] 68)
      have hba := hb.alloc hwr (.cells #[.int .u8 a, .int .u8 e] 68)
      have hoa : OwnR (wr.alloc (.cells #[.int .u8 a, .int .u8 e] 68)) w.heap.size u3 acc := World.ownsRow.alloc ho.out _
      have Hsp := Lib.hid hsp; have Hba := Lib.hid hba; have Hoa := Lib.hid hoa
      clear hsp hba hoa
      go_wp2_with fail
      clear x0 x1
      generalize wr.alloc (.cells #[.int .u8 a, .int .u8 e] 68) = w3 at *
      have hl3 := lt_of_block Hsp.out
      have K4 : Hid (∀ W, Below w3.heap.size w3 W → W.cell? ⟨wr.heap.size, 0, none⟩ = some (.int .u8 a) ∧ W.cell? ⟨wr.heap.size, 1, none⟩ = some (.int .u8 e)) := Lib.hid (fun W hW => ⟨(hW.cell (p := ⟨wr.heap.size, 0, none⟩) hl3).trans (by rw [Lib.cell_of_heap Hsp.out]; rfl), (hW.cell (p := ⟨wr.heap.size, 1, none⟩) hl3).trans (by rw [Lib.cell_of_heap Hsp.out]; rfl)⟩)
      have KO : Hid (∀ W, Below w3.heap.size w3 W → OwnR W w.heap.size u3 acc) := Lib.hid (fun W hW => ownR_kept Hoa.out (fun k hk => hW.block k hk))
      have KB : Hid (∀ W, Below w3.heap.size w3 W → Below w.heap.size w W) := Lib.hid (fun W hW => Hba.out.trans (hW.mono Hba.out.size))
      have KN : Hid (u3.ownBlock ≠ some wr.heap.size) := Lib.hid (own_ne Hoa.out Hsp.out (by decide))
      have hz0' := (K4.out _ (Below.refl _ _).drew)
      clear Hsp Hoa Hba
      go_region_held3 (fun w' => w'.cell? ⟨wr.heap.size, 0, none⟩ = some (.int .u8 a) ∧ w'.cell? ⟨wr.heap.size, 1, none⟩ = some (.int .u8 e))
        (first
          | (exact K4.out _ (Below.refl _ _).drew)
          | (exact K4.out _ ((Below.refl _ _).drew.trans m4))
          | (exact K4.out _ (((Below.refl _ _).drew.trans m4).trans (m5.mono m4.size)))
          | (exact K4.out _ ((((Below.refl _ _).drew.trans m4).trans (m5.mono m4.size)).alloc (((Below.refl _ _).drew.trans m4).trans (m5.mono m4.size)).size _))
          | (go_split_ands; refine ⟨?_, ?_⟩ <;> (rw [hgrow.cell_far _ (Nat.lt_of_lt_of_le hl3 KBx.size) (Ne.symm KN.out)]; first | exact (K4.out _ KBx).1 | exact (K4.out _ KBx).2))
          | go_keep | assumption)
        ((first
          | (go_at_call 87; refine (oneByte_n a hq1 _).mono ?_; rintro e9 w4 ⟨rfl, m4⟩)
          | (go_at_call 87; refine (oneByte_n e hq2 _).mono ?_; rintro e9 w5 ⟨rfl, m5⟩; have KBx := ((((Below.refl w3.heap.size w3).drew.trans m4).trans (m5.mono m4.size)).alloc (((Below.refl w3.heap.size w3).drew.trans m4).trans (m5.mono m4.size)).size (.cells #[.string ⟨[UInt8.ofNat a].toArray⟩, .int .i64 1, .string { data := #[45] }, .int .i64 0, .string ⟨[UInt8.ofNat e].toArray⟩, .int .i64 1] 66)))
          | (refine step_append_lies _ (by rfl) _ _ _ (by rfl) w.heap.size 66 i0 _ 2 24 Tryd.underlying22 hi hz0 hz1 hz2 rfl (by omega) u3 acc.length (rnCells acc) (by rfl) (KO.out _ KBx) ⟨w5.heap.size, 0, none⟩ 3 3 [.string ⟨[UInt8.ofNat a].toArray⟩, .int .i64 1, .string { data := #[45] }, .int .i64 0, .string ⟨[UInt8.ofNat e].toArray⟩, .int .i64 1] (by rfl) (by rfl) (World.news_of_block (fr := (0, 0)) (heap_alloc_new w5 (.cells #[.string ⟨[UInt8.ofNat a].toArray⟩, .int .i64 1, .string { data := #[45] }, .int .i64 0, .string ⟨[UInt8.ofNat e].toArray⟩, .int .i64 1] 66))) (by intro u hu; simp at hu; rcases hu with rfl | rfl | rfl | rfl | rfl | rfl <;> rfl) (by omega) (by unfold maxLen; omega) (by omega) (KB.out _ KBx).size (w5.heap.size + 1) (by simp) ?_; intro gg cap w8 hown' hgrow hat hlt8)))
      have hb8 : Below w.heap.size w w8 := (KB.out _ KBx).grown hgrow (KB.out _ KBx).size (fun q hq => ((KO.out _ KBx).lt q hq).1)
      have Ho8 : Hid (OwnR w8 w.heap.size (.slice (some ⟨gg, 0, none⟩) (acc.length + 3) cap) (acc ++ [⟨[UInt8.ofNat a], 1⟩, ⟨[45], 0⟩, ⟨[UInt8.ofNat e], 1⟩])) := Lib.hid (by
        unfold OwnR
        rw [List.length_append, rnCells_append]
        exact hown')
      have Hx3 : Hid (R = (acc ++ [⟨[UInt8.ofNat a], 1⟩, ⟨[45], 0⟩, ⟨[UInt8.ofNat e], 1⟩]) ++ (spR (xs.drop (k + 1)) ++ [⟨[93], 0⟩])) := Lib.hid (by
        rw [Hx2.out]; simp only [List.append_assoc])
      clear hown' hgrow hat Hx2 m4 m5 KBx K4 KO KB KN
      go_wp2_with fail
      go_roundw
      case rel => exact ⟨k + 1, _, by go_num, by omega, by simp; omega, Ho8, hb8, Hx3⟩
      case measure => simp [intOf]; omega
    · have hke : k = xs.length := by omega
      have d1 : decide ((k : Int) < (xs.length : Int)) = false := decide_eq_false (by first | omega | (simp at hlt; omega))
      have d1' : decide (k < xs.length) = false := decide_eq_false (by first | omega | (simp at hlt; omega))
      have hx2 := hx.out
      rw [hke, List.drop_length] at hx2
      have Hx2 : Hid (R = acc ++ [⟨[93], 0⟩]) := Lib.hid hx2
      have hac2 : acc.length ≤ 3000002 := by first | omega | (simp at hke; omega)
      clear hx hx2 hke
      have hr5 : (wr.alloc (.cells #[.string { data := #[93] }, .int .i64 0] 66)).ownsRow w.heap.size 66 2 u3 acc.length (rnCells acc) := World.ownsRow.alloc ho.out _
      have hb5 := hb.alloc hwr (.cells #[.string { data := #[93] }, .int .i64 0] 66)
      have hnews := World.news_of_block (cs := #[.string { data := #[93] }, .int .i64 0]) (t := 66) (fr := (0, 0)) (heap_alloc_new wr (.cells #[.string { data := #[93] }, .int .i64 0] 66))
      have Hb5 := Lib.hid hb5
      clear hb5
      go_wp2_with (at_builtin; refine wpList_append_own _ rfl _ _ 22 rfl w.heap.size 66 i0 _ 2 24 Tryd.underlying22 hi hz0 hz1 hz2 rfl (by decide) _ _ _ rfl hr5 ⟨wr.heap.size, 0, none⟩ 1 1 [.string { data := #[93] }, .int .i64 0] rfl rfl hnews (by intro u hu; simp at hu; rcases hu with rfl | rfl <;> rfl) (by unfold maxLen; omega) (by omega) (by have := Hb5.out.size; exact this) ?_)
      intro v' w8 hown' hgrow _
      have hb8 : Below w.heap.size w w8 := Hb5.out.grown hgrow Hb5.out.size (fun q hq => (hr5.lt q hq).1)
      have Ho8 : Hid (OwnR w8 w.heap.size v' R) := Lib.hid (by
        rw [Hx2.out]
        unfold OwnR
        rw [List.length_append, rnCells_append]
        exact hown')
      clear hown' hgrow hr5 Hb5 hnews Hx2
      go_wp2_with fail
      go_ret
      exact ⟨_, rfl, Ho8.out, hb8⟩

set_option maxHeartbeats 8000000 in
set_option maxRecDepth 100000 in
theorem bracketRuns_pe (A : Option Addr) (c : Nat) (xk : Int) (xt : List UInt8) (w : World) :
    Calls Tryd.prog 57 #[.agg #[.int .i64 xk, .string ⟨xt.toArray⟩, .bool false, .slice A 0 c]] w fun e w' => ∃ v, e = .returned v ∧ OwnR w' w.heap.size v (brR ⟨xk, xt, false, []⟩) ∧ Below w.heap.size w w' := by
  obtain ⟨i0, hi, hz0, hz1, hz2⟩ := info_parts runInfo
  have HR : Hid (brR ⟨xk, xt, false, []⟩ = [⟨[91], 0⟩] ++ (spR (([(98, 97)] : List (Nat × Nat)).drop 0) ++ [⟨[93], 0⟩])) := Lib.hid (by unfold brR; simp)
  generalize brR ⟨xk, xt, false, []⟩ = R at *
  have mP : Below w.heap.size w (w.alloc (.cells #[.int .i64 xk, .string ⟨xt.toArray⟩, .bool false, .slice A 0 c] 43)) := (Below.refl _ _).alloc (Nat.le_refl _) _
  have hszP : (w.alloc (.cells #[.int .i64 xk, .string ⟨xt.toArray⟩, .bool false, .slice A 0 c] 43)).heap.size = w.heap.size + 1 := by simp
  have ho1 : OwnR ((w.alloc (.cells #[.int .i64 xk, .string ⟨xt.toArray⟩, .bool false, .slice A 0 c] 43)).alloc (.cells #[.string { data := #[91] }, .int .i64 0] 66)) w.heap.size (.slice (some ⟨w.heap.size + 1, 0, none⟩) 1 1) [⟨[91], 0⟩] := by
    have := ownR_lit (w.alloc (.cells #[.int .i64 xk, .string ⟨xt.toArray⟩, .bool false, .slice A 0 c] 43)) w.heap.size mP.size [91] 0
    rw [hszP] at this
    exact this
  have hb1 : Below w.heap.size w ((w.alloc (.cells #[.int .i64 xk, .string ⟨xt.toArray⟩, .bool false, .slice A 0 c] 43)).alloc (.cells #[.string { data := #[91] }, .int .i64 0] 66)) := mP.alloc mP.size _
  have hsz1 : ((w.alloc (.cells #[.int .i64 xk, .string ⟨xt.toArray⟩, .bool false, .slice A 0 c] 43)).alloc (.cells #[.string { data := #[91] }, .int .i64 0] 66)).heap.size = w.heap.size + 1 + 1 := by simp
  have ho2 : OwnR (((w.alloc (.cells #[.int .i64 xk, .string ⟨xt.toArray⟩, .bool false, .slice A 0 c] 43)).alloc (.cells #[.string { data := #[91] }, .int .i64 0] 66)).alloc (.cells #[.int .u8 98, .int .u8 97] 68)) w.heap.size (.slice (some ⟨w.heap.size + 1, 0, none⟩) 1 1) [⟨[91], 0⟩] := World.ownsRow.alloc ho1 _
  have hb2 : Below w.heap.size w (((w.alloc (.cells #[.int .i64 xk, .string ⟨xt.toArray⟩, .bool false, .slice A 0 c] 43)).alloc (.cells #[.string { data := #[91] }, .int .i64 0] 66)).alloc (.cells #[.int .u8 98, .int .u8 97] 68)) := hb1.alloc hb1.size _
  have hk2 : (((w.alloc (.cells #[.int .i64 xk, .string ⟨xt.toArray⟩, .bool false, .slice A 0 c] 43)).alloc (.cells #[.string { data := #[91] }, .int .i64 0] 66)).alloc (.cells #[.int .u8 98, .int .u8 97] 68)).heap[w.heap.size + 1 + 1]? = some (.cells #[.int .u8 98, .int .u8 97] 68 (0, 0)) := by
    have := heap_alloc_new ((w.alloc (.cells #[.int .i64 xk, .string ⟨xt.toArray⟩, .bool false, .slice A 0 c] 43)).alloc (.cells #[.string { data := #[91] }, .int .i64 0] 66)) (.cells #[.int .u8 98, .int .u8 97] 68)
    rw [hsz1] at this
    exact this
  have HO := Lib.hid ho2; have HB := Lib.hid hb2; have HK := Lib.hid hk2
  clear ho2 hb2 hk2
  clear mP hszP ho1 hb1 hsz1
  go_enter Tryd.func57, Tryd.ntmps57
  go_wp2_with fail
  go_loopw [3, 24] (fun lv iv wr => ∃ (k : Nat) (acc : List Rn), iv = .int .i64 k ∧ k ≤ ([(98, 97)] : List (Nat × Nat)).length ∧ acc.length ≤ 2 + 3 * k ∧ Hid (OwnR wr w.heap.size lv acc) ∧ Below w.heap.size w wr ∧ Hid (R = acc ++ (spR (([(98, 97)] : List (Nat × Nat)).drop k) ++ [⟨[93], 0⟩])) ∧ Hid (wr.heap[(w.heap.size + 1 + 1)]? = some (.cells #[.int .u8 98, .int .u8 97] 68 (0, 0)))) (fun _ iv _ => ([(98, 97)] : List (Nat × Nat)).length - (intOf iv).toNat)
  case atStart => exact ⟨0, [⟨[91], 0⟩], rfl, by omega, by simp, HO, HB.out, HR, HK⟩
  case round =>
    obtain ⟨k, acc, rfl, hk, hac, ho, hb, hx, hK⟩ := hrel
    clear HR HO HB HK
    have hwr := hb.size
    by_cases hlt : k < ([(98, 97)] : List (Nat × Nat)).length
    · have d1 : decide ((k : Int) < (1 : Int)) = true := decide_eq_true (by first | omega | (simp at hlt; omega))
      have d1' : decide (k < (1 : Nat)) = true := decide_eq_true (by first | omega | (simp at hlt; omega))
      have hx01 : ∀ j (h : j < 1), wr.cell? ⟨(w.heap.size + 1 + 1), j * 2, none⟩ = some (.int .u8 ((([(98, 97)] : List (Nat × Nat))[j]'h).1 : Nat)) ∧ wr.cell? ⟨(w.heap.size + 1 + 1), j * 2 + 1, none⟩ = some (.int .u8 ((([(98, 97)] : List (Nat × Nat))[j]'h).2 : Nat)) := by
        intro j h
        obtain rfl : j = 0 := by omega
        exact ⟨by rw [Lib.cell_of_heap hK.out]; rfl, by rw [Lib.cell_of_heap hK.out]; rfl⟩
      obtain ⟨x0, x1⟩ := hx01 k hlt
      have hx2 := hx.out
      rw [List.drop_eq_getElem_cons hlt] at hx2
      have hq256 : ((([(98, 97)] : List (Nat × Nat)))[k]'hlt).1 < 256 ∧ ((([(98, 97)] : List (Nat × Nat)))[k]'hlt).2 < 256 := by have hk0 : k = 0 := (by simp at hlt; omega); subst hk0; exact ⟨by show 98 < 256; omega, by show 97 < 256; omega⟩
      generalize (([(98, 97)] : List (Nat × Nat)))[k]'hlt = q at *
      obtain ⟨a, e⟩ := q
      rw [spR_cons] at hx2
      simp only at x0 x1 hq256
      have Hx2 := Lib.hid hx2
      have hkI : (k : Int) < (1 : Int) := by first | omega | (simp at hlt; omega)
      have hq1 := hq256.1
      have hq2 := hq256.2
      clear hx hx2 hq256
      have hsp := heap_alloc_new wr (.cells #[.int .u8 a, .int .u8 e] 68)
      have hba := hb.alloc hwr (.cells #[.int .u8 a, .int .u8 e] 68)
      have hoa : OwnR (wr.alloc (.cells #[.int .u8 a, .int .u8 e] 68)) w.heap.size u3 acc := World.ownsRow.alloc ho.out _
      have hKl := lt_of_block hK.out
      have hKa : (wr.alloc (.cells #[.int .u8 a, .int .u8 e] 68)).heap[(w.heap.size + 1 + 1)]? = some (.cells #[.int .u8 98, .int .u8 97] 68 (0, 0)) := by rw [Lib.alloc_old _ _ _ hKl]; exact hK.out
      have HKa := Lib.hid hKa
      clear hKa
      have Hsp := Lib.hid hsp; have Hba := Lib.hid hba; have Hoa := Lib.hid hoa
      clear hsp hba hoa
      go_wp2_with fail
      clear x0 x1
      generalize wr.alloc (.cells #[.int .u8 a, .int .u8 e] 68) = w3 at *
      have hl3 := lt_of_block Hsp.out
      have K4 : Hid (∀ W, Below w3.heap.size w3 W → W.cell? ⟨wr.heap.size, 0, none⟩ = some (.int .u8 a) ∧ W.cell? ⟨wr.heap.size, 1, none⟩ = some (.int .u8 e)) := Lib.hid (fun W hW => ⟨(hW.cell (p := ⟨wr.heap.size, 0, none⟩) hl3).trans (by rw [Lib.cell_of_heap Hsp.out]; rfl), (hW.cell (p := ⟨wr.heap.size, 1, none⟩) hl3).trans (by rw [Lib.cell_of_heap Hsp.out]; rfl)⟩)
      have KO : Hid (∀ W, Below w3.heap.size w3 W → OwnR W w.heap.size u3 acc) := Lib.hid (fun W hW => ownR_kept Hoa.out (fun k hk => hW.block k hk))
      have KB : Hid (∀ W, Below w3.heap.size w3 W → Below w.heap.size w W) := Lib.hid (fun W hW => Hba.out.trans (hW.mono Hba.out.size))
      have KN : Hid (u3.ownBlock ≠ some wr.heap.size) := Lib.hid (own_ne Hoa.out Hsp.out (by decide))
      have hz0' := (K4.out _ (Below.refl _ _).drew)
      clear Hsp Hoa Hba
      go_region_held3 (fun w' => w'.cell? ⟨wr.heap.size, 0, none⟩ = some (.int .u8 a) ∧ w'.cell? ⟨wr.heap.size, 1, none⟩ = some (.int .u8 e))
        (first
          | (exact K4.out _ (Below.refl _ _).drew)
          | (exact K4.out _ ((Below.refl _ _).drew.trans m4))
          | (exact K4.out _ (((Below.refl _ _).drew.trans m4).trans (m5.mono m4.size)))
          | (exact K4.out _ ((((Below.refl _ _).drew.trans m4).trans (m5.mono m4.size)).alloc (((Below.refl _ _).drew.trans m4).trans (m5.mono m4.size)).size _))
          | (go_split_ands; refine ⟨?_, ?_⟩ <;> (rw [hgrow.cell_far _ (Nat.lt_of_lt_of_le hl3 KBx.size) (Ne.symm KN.out)]; first | exact (K4.out _ KBx).1 | exact (K4.out _ KBx).2))
          | go_keep | assumption)
        ((first
          | (go_at_call 87; refine (oneByte_n a hq1 _).mono ?_; rintro e9 w4 ⟨rfl, m4⟩)
          | (go_at_call 87; refine (oneByte_n e hq2 _).mono ?_; rintro e9 w5 ⟨rfl, m5⟩; have KBx := ((((Below.refl w3.heap.size w3).drew.trans m4).trans (m5.mono m4.size)).alloc (((Below.refl w3.heap.size w3).drew.trans m4).trans (m5.mono m4.size)).size (.cells #[.string ⟨[UInt8.ofNat a].toArray⟩, .int .i64 1, .string { data := #[45] }, .int .i64 0, .string ⟨[UInt8.ofNat e].toArray⟩, .int .i64 1] 66)))
          | (refine step_append_lies _ (by rfl) _ _ _ (by rfl) w.heap.size 66 i0 _ 2 24 Tryd.underlying22 hi hz0 hz1 hz2 rfl (by omega) u3 acc.length (rnCells acc) (by rfl) (KO.out _ KBx) ⟨w5.heap.size, 0, none⟩ 3 3 [.string ⟨[UInt8.ofNat a].toArray⟩, .int .i64 1, .string { data := #[45] }, .int .i64 0, .string ⟨[UInt8.ofNat e].toArray⟩, .int .i64 1] (by rfl) (by rfl) (World.news_of_block (fr := (0, 0)) (heap_alloc_new w5 (.cells #[.string ⟨[UInt8.ofNat a].toArray⟩, .int .i64 1, .string { data := #[45] }, .int .i64 0, .string ⟨[UInt8.ofNat e].toArray⟩, .int .i64 1] 66))) (by intro u hu; simp at hu; rcases hu with rfl | rfl | rfl | rfl | rfl | rfl <;> rfl) (by omega) (by unfold maxLen; omega) (by omega) (KB.out _ KBx).size (w5.heap.size + 1) (by simp) ?_; intro gg cap w8 hown' hgrow hat hlt8)))
      have hb8 : Below w.heap.size w w8 := (KB.out _ KBx).grown hgrow (KB.out _ KBx).size (fun q hq => ((KO.out _ KBx).lt q hq).1)
      have Ho8 : Hid (OwnR w8 w.heap.size (.slice (some ⟨gg, 0, none⟩) (acc.length + 3) cap) (acc ++ [⟨[UInt8.ofNat a], 1⟩, ⟨[45], 0⟩, ⟨[UInt8.ofNat e], 1⟩])) := Lib.hid (by
        unfold OwnR
        rw [List.length_append, rnCells_append]
        exact hown')
      have Hx3 : Hid (R = (acc ++ [⟨[UInt8.ofNat a], 1⟩, ⟨[45], 0⟩, ⟨[UInt8.ofNat e], 1⟩]) ++ (spR (([(98, 97)] : List (Nat × Nat)).drop (k + 1)) ++ [⟨[93], 0⟩])) := Lib.hid (by
        rw [Hx2.out]; simp only [List.append_assoc])
      have HK8 : Hid (w8.heap[(w.heap.size + 1 + 1)]? = some (.cells #[.int .u8 98, .int .u8 97] 68 (0, 0))) := Lib.hid (by
        have hh := (KBx.block _ (lt_of_block HKa.out)).trans HKa.out
        rw [hgrow.block _ (lt_of_block hh) (Ne.symm (own_ne (KO.out _ KBx) hh (by decide)))]
        exact hh)
      clear hown' hgrow hat Hx2 m4 m5 KBx K4 KO KB KN
      go_wp2_with fail
      go_roundw
      case rel => exact ⟨k + 1, _, by go_num, by omega, by simp; omega, Ho8, hb8, Hx3, HK8⟩
      case measure => simp [intOf]; omega
    · have hke : k = ([(98, 97)] : List (Nat × Nat)).length := by omega
      have d1 : decide ((k : Int) < (1 : Int)) = false := decide_eq_false (by first | omega | (simp at hlt; omega))
      have d1' : decide (k < (1 : Nat)) = false := decide_eq_false (by first | omega | (simp at hlt; omega))
      have hx2 := hx.out
      rw [hke, List.drop_length] at hx2
      have Hx2 : Hid (R = acc ++ [⟨[93], 0⟩]) := Lib.hid hx2
      have hac2 : acc.length ≤ 3000002 := by first | omega | (simp at hke; omega)
      clear hx hx2 hke
      have hr5 : (wr.alloc (.cells #[.string { data := #[93] }, .int .i64 0] 66)).ownsRow w.heap.size 66 2 u3 acc.length (rnCells acc) := World.ownsRow.alloc ho.out _
      have hb5 := hb.alloc hwr (.cells #[.string { data := #[93] }, .int .i64 0] 66)
      have hnews := World.news_of_block (cs := #[.string { data := #[93] }, .int .i64 0]) (t := 66) (fr := (0, 0)) (heap_alloc_new wr (.cells #[.string { data := #[93] }, .int .i64 0] 66))
      have Hb5 := Lib.hid hb5
      clear hb5
      go_wp2_with (at_builtin; refine wpList_append_own _ rfl _ _ 22 rfl w.heap.size 66 i0 _ 2 24 Tryd.underlying22 hi hz0 hz1 hz2 rfl (by decide) _ _ _ rfl hr5 ⟨wr.heap.size, 0, none⟩ 1 1 [.string { data := #[93] }, .int .i64 0] rfl rfl hnews (by intro u hu; simp at hu; rcases hu with rfl | rfl <;> rfl) (by unfold maxLen; omega) (by omega) (by have := Hb5.out.size; exact this) ?_)
      intro v' w8 hown' hgrow _
      have hb8 : Below w.heap.size w w8 := Hb5.out.grown hgrow Hb5.out.size (fun q hq => (hr5.lt q hq).1)
      have Ho8 : Hid (OwnR w8 w.heap.size v' R) := Lib.hid (by
        rw [Hx2.out]
        unfold OwnR
        rw [List.length_append, rnCells_append]
        exact hown')
      clear hown' hgrow hr5 Hb5 hnews Hx2
      go_wp2_with fail
      go_ret
      exact ⟨_, rfl, Ho8.out, hb8⟩

set_option maxHeartbeats 8000000 in
set_option maxRecDepth 100000 in
theorem bracketRuns_nf (A : Option Addr) (c : Nat) (xk : Int) (xt : List UInt8) (xs : List (Nat × Nat)) (w : World) (hls : xs.length ≤ 1000000) (hne : xs ≠ []) (hs0 : Hid (SpAt w w.heap.size (.slice A xs.length c) xs)) (Hok : Hid (∀ p ∈ xs, p.1 < 256 ∧ p.2 < 256)) :
    Calls Tryd.prog 57 #[.agg #[.int .i64 xk, .string ⟨xt.toArray⟩, .bool true, .slice A xs.length c]] w fun e w' => ∃ v, e = .returned v ∧ OwnR w' w.heap.size v (brR ⟨xk, xt, true, xs⟩) ∧ Below w.heap.size w w' := by
  obtain ⟨i0, hi, hz0, hz1, hz2⟩ := info_parts runInfo
  have e0 : 0 < xs.length := List.length_pos_iff.2 hne
  have e1 : ((xs.length : Int) == 0) = false := by rw [beq_eq_false_iff_ne]; omega
  have e2 : (xs.length == 0) = false := by rw [beq_eq_false_iff_ne]; omega
  have HR : Hid (brR ⟨xk, xt, true, xs⟩ = [⟨[91], 0⟩, ⟨[33], 0⟩] ++ (spR (xs.drop 0) ++ [⟨[93], 0⟩])) := Lib.hid (by unfold brR; simp [hne])
  generalize brR ⟨xk, xt, true, xs⟩ = R at *
  have mP : Below w.heap.size w (w.alloc (.cells #[.int .i64 xk, .string ⟨xt.toArray⟩, .bool true, .slice A xs.length c] 43)) := (Below.refl _ _).alloc (Nat.le_refl _) _
  have hszP : (w.alloc (.cells #[.int .i64 xk, .string ⟨xt.toArray⟩, .bool true, .slice A xs.length c] 43)).heap.size = w.heap.size + 1 := by simp
  have ho1 : OwnR ((w.alloc (.cells #[.int .i64 xk, .string ⟨xt.toArray⟩, .bool true, .slice A xs.length c] 43)).alloc (.cells #[.string { data := #[91] }, .int .i64 0] 66)) w.heap.size (.slice (some ⟨w.heap.size + 1, 0, none⟩) 1 1) [⟨[91], 0⟩] := by
    have := ownR_lit (w.alloc (.cells #[.int .i64 xk, .string ⟨xt.toArray⟩, .bool true, .slice A xs.length c] 43)) w.heap.size mP.size [91] 0
    rw [hszP] at this
    exact this
  have hb1 : Below w.heap.size w ((w.alloc (.cells #[.int .i64 xk, .string ⟨xt.toArray⟩, .bool true, .slice A xs.length c] 43)).alloc (.cells #[.string { data := #[91] }, .int .i64 0] 66)) := mP.alloc mP.size _
  have hsz1 : ((w.alloc (.cells #[.int .i64 xk, .string ⟨xt.toArray⟩, .bool true, .slice A xs.length c] 43)).alloc (.cells #[.string { data := #[91] }, .int .i64 0] 66)).heap.size = w.heap.size + 1 + 1 := by simp
  have hoL : (((w.alloc (.cells #[.int .i64 xk, .string ⟨xt.toArray⟩, .bool true, .slice A xs.length c] 43)).alloc (.cells #[.string { data := #[91] }, .int .i64 0] 66)).alloc (.cells #[.string { data := #[33] }, .int .i64 0] 66)).ownsRow w.heap.size 66 2 (.slice (some ⟨w.heap.size + 1, 0, none⟩) 1 1) 1 (rnCells [⟨[91], 0⟩]) := World.ownsRow.alloc ho1 _
  have hbL : Below w.heap.size w (((w.alloc (.cells #[.int .i64 xk, .string ⟨xt.toArray⟩, .bool true, .slice A xs.length c] 43)).alloc (.cells #[.string { data := #[91] }, .int .i64 0] 66)).alloc (.cells #[.string { data := #[33] }, .int .i64 0] 66)) := hb1.alloc hb1.size _
  have hnews := World.news_of_block (cs := #[.string { data := #[33] }, .int .i64 0]) (t := 66) (fr := (0, 0)) (heap_alloc_new ((w.alloc (.cells #[.int .i64 xk, .string ⟨xt.toArray⟩, .bool true, .slice A xs.length c] 43)).alloc (.cells #[.string { data := #[91] }, .int .i64 0] 66)) (.cells #[.string { data := #[33] }, .int .i64 0] 66))
  rw [hsz1] at hnews
  have hP : (((w.alloc (.cells #[.int .i64 xk, .string ⟨xt.toArray⟩, .bool true, .slice A xs.length c] 43)).alloc (.cells #[.string { data := #[91] }, .int .i64 0] 66)).alloc (.cells #[.string { data := #[33] }, .int .i64 0] 66)).heap[w.heap.size]? = some (.cells #[.int .i64 xk, .string ⟨xt.toArray⟩, .bool true, .slice A xs.length c] 43 (0, 0)) := by
    rw [Lib.alloc_old _ _ _ (by omega), Lib.alloc_old _ _ _ (by omega)]
    exact heap_alloc_new w _
  have neP := own_ne hoL hP (by decide)
  have HoL := Lib.hid hoL; have HbL := Lib.hid hbL; have Hnews := Lib.hid hnews; have HP := Lib.hid hP
  clear mP hszP ho1 hb1 hsz1 hoL hbL hnews hP
  go_enter Tryd.func57, Tryd.ntmps57
  go_wp2_with (at_builtin; refine wpList_append_own _ rfl _ _ 22 rfl w.heap.size 66 i0 _ 2 24 Tryd.underlying22 hi hz0 hz1 hz2 rfl (by decide) _ _ _ rfl HoL.out ⟨w.heap.size + 1 + 1, 0, none⟩ 1 1 [.string { data := #[33] }, .int .i64 0] rfl rfl Hnews.out (by intro u hu; simp at hu; rcases hu with rfl | rfl <;> rfl) (by unfold maxLen; omega) (by omega) (by have := HbL.out.size; exact this) ?_)
  intro v' wA hown' hgrow _
  have hbA : Below w.heap.size w wA := HbL.out.grown hgrow HbL.out.size (fun q hq => (HoL.out.lt q hq).1)
  have HoA : OwnR wA w.heap.size v' [⟨[91], 0⟩, ⟨[33], 0⟩] := hown'
  have hPA : wA.heap[w.heap.size]? = some (.cells #[.int .i64 xk, .string ⟨xt.toArray⟩, .bool true, .slice A xs.length c] 43 (0, 0)) := by rw [hgrow.block _ (lt_of_block HP.out) (Ne.symm neP)]; exact HP.out
  have x3 : wA.cell? ⟨w.heap.size, 3, none⟩ = some (.slice A xs.length c) := by rw [Lib.cell_of_heap hPA]; rfl
  have HO := Lib.hid HoA; have HB := Lib.hid hbA
  clear hown' hgrow HoA hbA hPA HoL HbL Hnews HP neP
  go_wp2_with fail
  go_loopw [3, 24] (fun lv iv wr => ∃ (k : Nat) (acc : List Rn), iv = .int .i64 k ∧ k ≤ xs.length ∧ acc.length ≤ 2 + 3 * k ∧ Hid (OwnR wr w.heap.size lv acc) ∧ Below w.heap.size w wr ∧ Hid (R = acc ++ (spR (xs.drop k) ++ [⟨[93], 0⟩]))) (fun _ iv _ => xs.length - (intOf iv).toNat)
  case atStart => exact ⟨0, [⟨[91], 0⟩, ⟨[33], 0⟩], rfl, by omega, by simp, HO, HB.out, HR⟩
  case round =>
    obtain ⟨k, acc, rfl, hk, hac, ho, hb, hx⟩ := hrel
    clear HR HO HB x3
    have hwr := hb.size
    by_cases hlt : k < xs.length
    · have d1 : decide ((k : Int) < (xs.length : Int)) = true := decide_eq_true (by first | omega | (simp at hlt; omega))
      have d1' : decide (k < xs.length) = true := decide_eq_true (by first | omega | (simp at hlt; omega))
      obtain ⟨b, off, rfl, hbl, hcell⟩ : ∃ b off, A = some ⟨b, off, none⟩ ∧ b < w.heap.size ∧ ∀ k (h : k < xs.length), w.cell? ⟨b, off + k * 2, none⟩ = some (.int .u8 ((xs[k]'h).1 : Nat)) ∧ w.cell? ⟨b, off + k * 2 + 1, none⟩ = some (.int .u8 ((xs[k]'h).2 : Nat)) := by
        obtain ⟨A9, c9, e9, h9⟩ := hs0.out
        injection e9 with e9
        subst e9
        rcases h9 with rfl | h9
        · simp at hlt
        · exact h9
      have x0 := (hb.cell (p := ⟨b, off + k * 2, none⟩) hbl).trans (hcell k hlt).1
      have x1 := (hb.cell (p := ⟨b, off + k * 2 + 1, none⟩) hbl).trans (hcell k hlt).2
      clear hcell
      have hx2 := hx.out
      rw [List.drop_eq_getElem_cons hlt] at hx2
      have hq256 : ((xs)[k]'hlt).1 < 256 ∧ ((xs)[k]'hlt).2 < 256 := Hok.out _ (List.getElem_mem hlt)
      generalize (xs)[k]'hlt = q at *
      obtain ⟨a, e⟩ := q
      rw [spR_cons] at hx2
      simp only at x0 x1 hq256
      have Hx2 := Lib.hid hx2
      have hkI : (k : Int) < (xs.length : Int) := by first | omega | (simp at hlt; omega)
      have hq1 := hq256.1
      have hq2 := hq256.2
      clear hx hx2 hq256
      have hsp := heap_alloc_new wr (.cells #[.int .u8 a, .int .u8 e] 68)
      have hba := hb.alloc hwr (.cells #[.int .u8 a, .int .u8 e] 68)
      have hoa : OwnR (wr.alloc (.cells #[.int .u8 a, .int .u8 e] 68)) w.heap.size u3 acc := World.ownsRow.alloc ho.out _
      have Hsp := Lib.hid hsp; have Hba := Lib.hid hba; have Hoa := Lib.hid hoa
      clear hsp hba hoa
      go_wp2_with fail
      clear x0 x1
      generalize wr.alloc (.cells #[.int .u8 a, .int .u8 e] 68) = w3 at *
      have hl3 := lt_of_block Hsp.out
      have K4 : Hid (∀ W, Below w3.heap.size w3 W → W.cell? ⟨wr.heap.size, 0, none⟩ = some (.int .u8 a) ∧ W.cell? ⟨wr.heap.size, 1, none⟩ = some (.int .u8 e)) := Lib.hid (fun W hW => ⟨(hW.cell (p := ⟨wr.heap.size, 0, none⟩) hl3).trans (by rw [Lib.cell_of_heap Hsp.out]; rfl), (hW.cell (p := ⟨wr.heap.size, 1, none⟩) hl3).trans (by rw [Lib.cell_of_heap Hsp.out]; rfl)⟩)
      have KO : Hid (∀ W, Below w3.heap.size w3 W → OwnR W w.heap.size u3 acc) := Lib.hid (fun W hW => ownR_kept Hoa.out (fun k hk => hW.block k hk))
      have KB : Hid (∀ W, Below w3.heap.size w3 W → Below w.heap.size w W) := Lib.hid (fun W hW => Hba.out.trans (hW.mono Hba.out.size))
      have KN : Hid (u3.ownBlock ≠ some wr.heap.size) := Lib.hid (own_ne Hoa.out Hsp.out (by decide))
      have hz0' := (K4.out _ (Below.refl _ _).drew)
      clear Hsp Hoa Hba
      go_region_held3 (fun w' => w'.cell? ⟨wr.heap.size, 0, none⟩ = some (.int .u8 a) ∧ w'.cell? ⟨wr.heap.size, 1, none⟩ = some (.int .u8 e))
        (first
          | (exact K4.out _ (Below.refl _ _).drew)
          | (exact K4.out _ ((Below.refl _ _).drew.trans m4))
          | (exact K4.out _ (((Below.refl _ _).drew.trans m4).trans (m5.mono m4.size)))
          | (exact K4.out _ ((((Below.refl _ _).drew.trans m4).trans (m5.mono m4.size)).alloc (((Below.refl _ _).drew.trans m4).trans (m5.mono m4.size)).size _))
          | (go_split_ands; refine ⟨?_, ?_⟩ <;> (rw [hgrow.cell_far _ (Nat.lt_of_lt_of_le hl3 KBx.size) (Ne.symm KN.out)]; first | exact (K4.out _ KBx).1 | exact (K4.out _ KBx).2))
          | go_keep | assumption)
        ((first
          | (go_at_call 87; refine (oneByte_n a hq1 _).mono ?_; rintro e9 w4 ⟨rfl, m4⟩)
          | (go_at_call 87; refine (oneByte_n e hq2 _).mono ?_; rintro e9 w5 ⟨rfl, m5⟩; have KBx := ((((Below.refl w3.heap.size w3).drew.trans m4).trans (m5.mono m4.size)).alloc (((Below.refl w3.heap.size w3).drew.trans m4).trans (m5.mono m4.size)).size (.cells #[.string ⟨[UInt8.ofNat a].toArray⟩, .int .i64 1, .string { data := #[45] }, .int .i64 0, .string ⟨[UInt8.ofNat e].toArray⟩, .int .i64 1] 66)))
          | (refine step_append_lies _ (by rfl) _ _ _ (by rfl) w.heap.size 66 i0 _ 2 24 Tryd.underlying22 hi hz0 hz1 hz2 rfl (by omega) u3 acc.length (rnCells acc) (by rfl) (KO.out _ KBx) ⟨w5.heap.size, 0, none⟩ 3 3 [.string ⟨[UInt8.ofNat a].toArray⟩, .int .i64 1, .string { data := #[45] }, .int .i64 0, .string ⟨[UInt8.ofNat e].toArray⟩, .int .i64 1] (by rfl) (by rfl) (World.news_of_block (fr := (0, 0)) (heap_alloc_new w5 (.cells #[.string ⟨[UInt8.ofNat a].toArray⟩, .int .i64 1, .string { data := #[45] }, .int .i64 0, .string ⟨[UInt8.ofNat e].toArray⟩, .int .i64 1] 66))) (by intro u hu; simp at hu; rcases hu with rfl | rfl | rfl | rfl | rfl | rfl <;> rfl) (by omega) (by unfold maxLen; omega) (by omega) (KB.out _ KBx).size (w5.heap.size + 1) (by simp) ?_; intro gg cap w8 hown' hgrow hat hlt8)))
      have hb8 : Below w.heap.size w w8 := (KB.out _ KBx).grown hgrow (KB.out _ KBx).size (fun q hq => ((KO.out _ KBx).lt q hq).1)
      have Ho8 : Hid (OwnR w8 w.heap.size (.slice (some ⟨gg, 0, none⟩) (acc.length + 3) cap) (acc ++ [⟨[UInt8.ofNat a], 1⟩, ⟨[45], 0⟩, ⟨[UInt8.ofNat e], 1⟩])) := Lib.hid (by
        unfold OwnR
        rw [List.length_append, rnCells_append]
        exact hown')
      have Hx3 : Hid (R = (acc ++ [⟨[UInt8.ofNat a], 1⟩, ⟨[45], 0⟩, ⟨[UInt8.ofNat e], 1⟩]) ++ (spR (xs.drop (k + 1)) ++ [⟨[93], 0⟩])) := Lib.hid (by
        rw [Hx2.out]; simp only [List.append_assoc])
      clear hown' hgrow hat Hx2 m4 m5 KBx K4 KO KB KN
      go_wp2_with fail
      go_roundw
      case rel => exact ⟨k + 1, _, by go_num, by omega, by simp; omega, Ho8, hb8, Hx3⟩
      case measure => simp [intOf]; omega
    · have hke : k = xs.length := by omega
      have d1 : decide ((k : Int) < (xs.length : Int)) = false := decide_eq_false (by first | omega | (simp at hlt; omega))
      have d1' : decide (k < xs.length) = false := decide_eq_false (by first | omega | (simp at hlt; omega))
      have hx2 := hx.out
      rw [hke, List.drop_length] at hx2
      have Hx2 : Hid (R = acc ++ [⟨[93], 0⟩]) := Lib.hid hx2
      have hac2 : acc.length ≤ 3000002 := by first | omega | (simp at hke; omega)
      clear hx hx2 hke
      have hr5 : (wr.alloc (.cells #[.string { data := #[93] }, .int .i64 0] 66)).ownsRow w.heap.size 66 2 u3 acc.length (rnCells acc) := World.ownsRow.alloc ho.out _
      have hb5 := hb.alloc hwr (.cells #[.string { data := #[93] }, .int .i64 0] 66)
      have hnews := World.news_of_block (cs := #[.string { data := #[93] }, .int .i64 0]) (t := 66) (fr := (0, 0)) (heap_alloc_new wr (.cells #[.string { data := #[93] }, .int .i64 0] 66))
      have Hb5 := Lib.hid hb5
      clear hb5
      go_wp2_with (at_builtin; refine wpList_append_own _ rfl _ _ 22 rfl w.heap.size 66 i0 _ 2 24 Tryd.underlying22 hi hz0 hz1 hz2 rfl (by decide) _ _ _ rfl hr5 ⟨wr.heap.size, 0, none⟩ 1 1 [.string { data := #[93] }, .int .i64 0] rfl rfl hnews (by intro u hu; simp at hu; rcases hu with rfl | rfl <;> rfl) (by unfold maxLen; omega) (by omega) (by have := Hb5.out.size; exact this) ?_)
      intro v' w8 hown' hgrow _
      have hb8 : Below w.heap.size w w8 := Hb5.out.grown hgrow Hb5.out.size (fun q hq => (hr5.lt q hq).1)
      have Ho8 : Hid (OwnR w8 w.heap.size v' R) := Lib.hid (by
        rw [Hx2.out]
        unfold OwnR
        rw [List.length_append, rnCells_append]
        exact hown')
      clear hown' hgrow hr5 Hb5 hnews Hx2
      go_wp2_with fail
      go_ret
      exact ⟨_, rfl, Ho8.out, hb8⟩

set_option maxHeartbeats 8000000 in
set_option maxRecDepth 100000 in
theorem bracketRuns_ne (A : Option Addr) (c : Nat) (xk : Int) (xt : List UInt8) (w : World) :
    Calls Tryd.prog 57 #[.agg #[.int .i64 xk, .string ⟨xt.toArray⟩, .bool true, .slice A 0 c]] w fun e w' => ∃ v, e = .returned v ∧ OwnR w' w.heap.size v (brR ⟨xk, xt, true, []⟩) ∧ Below w.heap.size w w' := by
  obtain ⟨i0, hi, hz0, hz1, hz2⟩ := info_parts runInfo
  have HR : Hid (brR ⟨xk, xt, true, []⟩ = [⟨[91], 0⟩, ⟨[33], 0⟩] ++ (spR (([(98, 97)] : List (Nat × Nat)).drop 0) ++ [⟨[93], 0⟩])) := Lib.hid (by unfold brR; simp)
  generalize brR ⟨xk, xt, true, []⟩ = R at *
  have mP : Below w.heap.size w (w.alloc (.cells #[.int .i64 xk, .string ⟨xt.toArray⟩, .bool true, .slice A 0 c] 43)) := (Below.refl _ _).alloc (Nat.le_refl _) _
  have hszP : (w.alloc (.cells #[.int .i64 xk, .string ⟨xt.toArray⟩, .bool true, .slice A 0 c] 43)).heap.size = w.heap.size + 1 := by simp
  have ho1 : OwnR ((w.alloc (.cells #[.int .i64 xk, .string ⟨xt.toArray⟩, .bool true, .slice A 0 c] 43)).alloc (.cells #[.string { data := #[91] }, .int .i64 0] 66)) w.heap.size (.slice (some ⟨w.heap.size + 1, 0, none⟩) 1 1) [⟨[91], 0⟩] := by
    have := ownR_lit (w.alloc (.cells #[.int .i64 xk, .string ⟨xt.toArray⟩, .bool true, .slice A 0 c] 43)) w.heap.size mP.size [91] 0
    rw [hszP] at this
    exact this
  have hb1 : Below w.heap.size w ((w.alloc (.cells #[.int .i64 xk, .string ⟨xt.toArray⟩, .bool true, .slice A 0 c] 43)).alloc (.cells #[.string { data := #[91] }, .int .i64 0] 66)) := mP.alloc mP.size _
  have hsz1 : ((w.alloc (.cells #[.int .i64 xk, .string ⟨xt.toArray⟩, .bool true, .slice A 0 c] 43)).alloc (.cells #[.string { data := #[91] }, .int .i64 0] 66)).heap.size = w.heap.size + 1 + 1 := by simp
  have hoL : (((w.alloc (.cells #[.int .i64 xk, .string ⟨xt.toArray⟩, .bool true, .slice A 0 c] 43)).alloc (.cells #[.string { data := #[91] }, .int .i64 0] 66)).alloc (.cells #[.string { data := #[33] }, .int .i64 0] 66)).ownsRow w.heap.size 66 2 (.slice (some ⟨w.heap.size + 1, 0, none⟩) 1 1) 1 (rnCells [⟨[91], 0⟩]) := World.ownsRow.alloc ho1 _
  have hbL : Below w.heap.size w (((w.alloc (.cells #[.int .i64 xk, .string ⟨xt.toArray⟩, .bool true, .slice A 0 c] 43)).alloc (.cells #[.string { data := #[91] }, .int .i64 0] 66)).alloc (.cells #[.string { data := #[33] }, .int .i64 0] 66)) := hb1.alloc hb1.size _
  have hnews := World.news_of_block (cs := #[.string { data := #[33] }, .int .i64 0]) (t := 66) (fr := (0, 0)) (heap_alloc_new ((w.alloc (.cells #[.int .i64 xk, .string ⟨xt.toArray⟩, .bool true, .slice A 0 c] 43)).alloc (.cells #[.string { data := #[91] }, .int .i64 0] 66)) (.cells #[.string { data := #[33] }, .int .i64 0] 66))
  rw [hsz1] at hnews
  have hP : (((w.alloc (.cells #[.int .i64 xk, .string ⟨xt.toArray⟩, .bool true, .slice A 0 c] 43)).alloc (.cells #[.string { data := #[91] }, .int .i64 0] 66)).alloc (.cells #[.string { data := #[33] }, .int .i64 0] 66)).heap[w.heap.size]? = some (.cells #[.int .i64 xk, .string ⟨xt.toArray⟩, .bool true, .slice A 0 c] 43 (0, 0)) := by
    rw [Lib.alloc_old _ _ _ (by omega), Lib.alloc_old _ _ _ (by omega)]
    exact heap_alloc_new w _
  have neP := own_ne hoL hP (by decide)
  have HoL := Lib.hid hoL; have HbL := Lib.hid hbL; have Hnews := Lib.hid hnews; have HP := Lib.hid hP
  clear mP hszP ho1 hb1 hsz1 hoL hbL hnews hP
  go_enter Tryd.func57, Tryd.ntmps57
  go_wp2_with (at_builtin; refine wpList_append_own _ rfl _ _ 22 rfl w.heap.size 66 i0 _ 2 24 Tryd.underlying22 hi hz0 hz1 hz2 rfl (by decide) _ _ _ rfl HoL.out ⟨w.heap.size + 1 + 1, 0, none⟩ 1 1 [.string { data := #[33] }, .int .i64 0] rfl rfl Hnews.out (by intro u hu; simp at hu; rcases hu with rfl | rfl <;> rfl) (by unfold maxLen; omega) (by omega) (by have := HbL.out.size; exact this) ?_)
  intro v' wA hown' hgrow _
  have hbA : Below w.heap.size w wA := HbL.out.grown hgrow HbL.out.size (fun q hq => (HoL.out.lt q hq).1)
  have HoA : OwnR wA w.heap.size v' [⟨[91], 0⟩, ⟨[33], 0⟩] := hown'
  have hPA : wA.heap[w.heap.size]? = some (.cells #[.int .i64 xk, .string ⟨xt.toArray⟩, .bool true, .slice A 0 c] 43 (0, 0)) := by rw [hgrow.block _ (lt_of_block HP.out) (Ne.symm neP)]; exact HP.out
  have x3 : wA.cell? ⟨w.heap.size, 3, none⟩ = some (.slice A 0 c) := by rw [Lib.cell_of_heap hPA]; rfl
  have ho2 : OwnR (wA.alloc (.cells #[.int .u8 98, .int .u8 97] 68)) w.heap.size v' [⟨[91], 0⟩, ⟨[33], 0⟩] := World.ownsRow.alloc HoA _
  have hb2 : Below w.heap.size w (wA.alloc (.cells #[.int .u8 98, .int .u8 97] 68)) := hbA.alloc hbA.size _
  have hk2 := heap_alloc_new wA (.cells #[.int .u8 98, .int .u8 97] 68)
  have HO := Lib.hid ho2; have HB := Lib.hid hb2; have HK := Lib.hid hk2
  clear ho2 hb2 hk2
  clear hown' hgrow HoA hbA hPA HoL HbL Hnews HP neP
  go_wp2_with fail
  go_loopw [3, 24] (fun lv iv wr => ∃ (k : Nat) (acc : List Rn), iv = .int .i64 k ∧ k ≤ ([(98, 97)] : List (Nat × Nat)).length ∧ acc.length ≤ 2 + 3 * k ∧ Hid (OwnR wr w.heap.size lv acc) ∧ Below w.heap.size w wr ∧ Hid (R = acc ++ (spR (([(98, 97)] : List (Nat × Nat)).drop k) ++ [⟨[93], 0⟩])) ∧ Hid (wr.heap[wA.heap.size]? = some (.cells #[.int .u8 98, .int .u8 97] 68 (0, 0)))) (fun _ iv _ => ([(98, 97)] : List (Nat × Nat)).length - (intOf iv).toNat)
  case atStart => exact ⟨0, [⟨[91], 0⟩, ⟨[33], 0⟩], rfl, by omega, by simp, HO, HB.out, HR, HK⟩
  case round =>
    obtain ⟨k, acc, rfl, hk, hac, ho, hb, hx, hK⟩ := hrel
    clear HR HO HB x3 HK
    have hwr := hb.size
    by_cases hlt : k < ([(98, 97)] : List (Nat × Nat)).length
    · have d1 : decide ((k : Int) < (1 : Int)) = true := decide_eq_true (by first | omega | (simp at hlt; omega))
      have d1' : decide (k < (1 : Nat)) = true := decide_eq_true (by first | omega | (simp at hlt; omega))
      have hx01 : ∀ j (h : j < 1), wr.cell? ⟨wA.heap.size, j * 2, none⟩ = some (.int .u8 ((([(98, 97)] : List (Nat × Nat))[j]'h).1 : Nat)) ∧ wr.cell? ⟨wA.heap.size, j * 2 + 1, none⟩ = some (.int .u8 ((([(98, 97)] : List (Nat × Nat))[j]'h).2 : Nat)) := by
        intro j h
        obtain rfl : j = 0 := by omega
        exact ⟨by rw [Lib.cell_of_heap hK.out]; rfl, by rw [Lib.cell_of_heap hK.out]; rfl⟩
      obtain ⟨x0, x1⟩ := hx01 k hlt
      have hx2 := hx.out
      rw [List.drop_eq_getElem_cons hlt] at hx2
      have hq256 : ((([(98, 97)] : List (Nat × Nat)))[k]'hlt).1 < 256 ∧ ((([(98, 97)] : List (Nat × Nat)))[k]'hlt).2 < 256 := by have hk0 : k = 0 := (by simp at hlt; omega); subst hk0; exact ⟨by show 98 < 256; omega, by show 97 < 256; omega⟩
      generalize (([(98, 97)] : List (Nat × Nat)))[k]'hlt = q at *
      obtain ⟨a, e⟩ := q
      rw [spR_cons] at hx2
      simp only at x0 x1 hq256
      have Hx2 := Lib.hid hx2
      have hkI : (k : Int) < (1 : Int) := by first | omega | (simp at hlt; omega)
      have hq1 := hq256.1
      have hq2 := hq256.2
      clear hx hx2 hq256
      have hsp := heap_alloc_new wr (.cells #[.int .u8 a, .int .u8 e] 68)
      have hba := hb.alloc hwr (.cells #[.int .u8 a, .int .u8 e] 68)
      have hoa : OwnR (wr.alloc (.cells #[.int .u8 a, .int .u8 e] 68)) w.heap.size u3 acc := World.ownsRow.alloc ho.out _
      have hKl := lt_of_block hK.out
      have hKa : (wr.alloc (.cells #[.int .u8 a, .int .u8 e] 68)).heap[wA.heap.size]? = some (.cells #[.int .u8 98, .int .u8 97] 68 (0, 0)) := by rw [Lib.alloc_old _ _ _ hKl]; exact hK.out
      have HKa := Lib.hid hKa
      clear hKa
      have Hsp := Lib.hid hsp; have Hba := Lib.hid hba; have Hoa := Lib.hid hoa
      clear hsp hba hoa
      go_wp2_with fail
      clear x0 x1
      generalize wr.alloc (.cells #[.int .u8 a, .int .u8 e] 68) = w3 at *
      have hl3 := lt_of_block Hsp.out
      have K4 : Hid (∀ W, Below w3.heap.size w3 W → W.cell? ⟨wr.heap.size, 0, none⟩ = some (.int .u8 a) ∧ W.cell? ⟨wr.heap.size, 1, none⟩ = some (.int .u8 e)) := Lib.hid (fun W hW => ⟨(hW.cell (p := ⟨wr.heap.size, 0, none⟩) hl3).trans (by rw [Lib.cell_of_heap Hsp.out]; rfl), (hW.cell (p := ⟨wr.heap.size, 1, none⟩) hl3).trans (by rw [Lib.cell_of_heap Hsp.out]; rfl)⟩)
      have KO : Hid (∀ W, Below w3.heap.size w3 W → OwnR W w.heap.size u3 acc) := Lib.hid (fun W hW => ownR_kept Hoa.out (fun k hk => hW.block k hk))
      have KB : Hid (∀ W, Below w3.heap.size w3 W → Below w.heap.size w W) := Lib.hid (fun W hW => Hba.out.trans (hW.mono Hba.out.size))
      have KN : Hid (u3.ownBlock ≠ some wr.heap.size) := Lib.hid (own_ne Hoa.out Hsp.out (by decide))
      have hz0' := (K4.out _ (Below.refl _ _).drew)
      clear Hsp Hoa Hba
      go_region_held3 (fun w' => w'.cell? ⟨wr.heap.size, 0, none⟩ = some (.int .u8 a) ∧ w'.cell? ⟨wr.heap.size, 1, none⟩ = some (.int .u8 e))
        (first
          | (exact K4.out _ (Below.refl _ _).drew)
          | (exact K4.out _ ((Below.refl _ _).drew.trans m4))
          | (exact K4.out _ (((Below.refl _ _).drew.trans m4).trans (m5.mono m4.size)))
          | (exact K4.out _ ((((Below.refl _ _).drew.trans m4).trans (m5.mono m4.size)).alloc (((Below.refl _ _).drew.trans m4).trans (m5.mono m4.size)).size _))
          | (go_split_ands; refine ⟨?_, ?_⟩ <;> (rw [hgrow.cell_far _ (Nat.lt_of_lt_of_le hl3 KBx.size) (Ne.symm KN.out)]; first | exact (K4.out _ KBx).1 | exact (K4.out _ KBx).2))
          | go_keep | assumption)
        ((first
          | (go_at_call 87; refine (oneByte_n a hq1 _).mono ?_; rintro e9 w4 ⟨rfl, m4⟩)
          | (go_at_call 87; refine (oneByte_n e hq2 _).mono ?_; rintro e9 w5 ⟨rfl, m5⟩; have KBx := ((((Below.refl w3.heap.size w3).drew.trans m4).trans (m5.mono m4.size)).alloc (((Below.refl w3.heap.size w3).drew.trans m4).trans (m5.mono m4.size)).size (.cells #[.string ⟨[UInt8.ofNat a].toArray⟩, .int .i64 1, .string { data := #[45] }, .int .i64 0, .string ⟨[UInt8.ofNat e].toArray⟩, .int .i64 1] 66)))
          | (refine step_append_lies _ (by rfl) _ _ _ (by rfl) w.heap.size 66 i0 _ 2 24 Tryd.underlying22 hi hz0 hz1 hz2 rfl (by omega) u3 acc.length (rnCells acc) (by rfl) (KO.out _ KBx) ⟨w5.heap.size, 0, none⟩ 3 3 [.string ⟨[UInt8.ofNat a].toArray⟩, .int .i64 1, .string { data := #[45] }, .int .i64 0, .string ⟨[UInt8.ofNat e].toArray⟩, .int .i64 1] (by rfl) (by rfl) (World.news_of_block (fr := (0, 0)) (heap_alloc_new w5 (.cells #[.string ⟨[UInt8.ofNat a].toArray⟩, .int .i64 1, .string { data := #[45] }, .int .i64 0, .string ⟨[UInt8.ofNat e].toArray⟩, .int .i64 1] 66))) (by intro u hu; simp at hu; rcases hu with rfl | rfl | rfl | rfl | rfl | rfl <;> rfl) (by omega) (by unfold maxLen; omega) (by omega) (KB.out _ KBx).size (w5.heap.size + 1) (by simp) ?_; intro gg cap w8 hown' hgrow hat hlt8)))
      have hb8 : Below w.heap.size w w8 := (KB.out _ KBx).grown hgrow (KB.out _ KBx).size (fun q hq => ((KO.out _ KBx).lt q hq).1)
      have Ho8 : Hid (OwnR w8 w.heap.size (.slice (some ⟨gg, 0, none⟩) (acc.length + 3) cap) (acc ++ [⟨[UInt8.ofNat a], 1⟩, ⟨[45], 0⟩, ⟨[UInt8.ofNat e], 1⟩])) := Lib.hid (by
        unfold OwnR
        rw [List.length_append, rnCells_append]
        exact hown')
      have Hx3 : Hid (R = (acc ++ [⟨[UInt8.ofNat a], 1⟩, ⟨[45], 0⟩, ⟨[UInt8.ofNat e], 1⟩]) ++ (spR (([(98, 97)] : List (Nat × Nat)).drop (k + 1)) ++ [⟨[93], 0⟩])) := Lib.hid (by
        rw [Hx2.out]; simp only [List.append_assoc])
      have HK8 : Hid (w8.heap[wA.heap.size]? = some (.cells #[.int .u8 98, .int .u8 97] 68 (0, 0))) := Lib.hid (by
        have hh := (KBx.block _ (lt_of_block HKa.out)).trans HKa.out
        rw [hgrow.block _ (lt_of_block hh) (Ne.symm (own_ne (KO.out _ KBx) hh (by decide)))]
        exact hh)
      clear hown' hgrow hat Hx2 m4 m5 KBx K4 KO KB KN
      go_wp2_with fail
      go_roundw
      case rel => exact ⟨k + 1, _, by go_num, by omega, by simp; omega, Ho8, hb8, Hx3, HK8⟩
      case measure => simp [intOf]; omega
    · have hke : k = ([(98, 97)] : List (Nat × Nat)).length := by omega
      have d1 : decide ((k : Int) < (1 : Int)) = false := decide_eq_false (by first | omega | (simp at hlt; omega))
      have d1' : decide (k < (1 : Nat)) = false := decide_eq_false (by first | omega | (simp at hlt; omega))
      have hx2 := hx.out
      rw [hke, List.drop_length] at hx2
      have Hx2 : Hid (R = acc ++ [⟨[93], 0⟩]) := Lib.hid hx2
      have hac2 : acc.length ≤ 3000002 := by first | omega | (simp at hke; omega)
      clear hx hx2 hke
      have hr5 : (wr.alloc (.cells #[.string { data := #[93] }, .int .i64 0] 66)).ownsRow w.heap.size 66 2 u3 acc.length (rnCells acc) := World.ownsRow.alloc ho.out _
      have hb5 := hb.alloc hwr (.cells #[.string { data := #[93] }, .int .i64 0] 66)
      have hnews := World.news_of_block (cs := #[.string { data := #[93] }, .int .i64 0]) (t := 66) (fr := (0, 0)) (heap_alloc_new wr (.cells #[.string { data := #[93] }, .int .i64 0] 66))
      have Hb5 := Lib.hid hb5
      clear hb5
      go_wp2_with (at_builtin; refine wpList_append_own _ rfl _ _ 22 rfl w.heap.size 66 i0 _ 2 24 Tryd.underlying22 hi hz0 hz1 hz2 rfl (by decide) _ _ _ rfl hr5 ⟨wr.heap.size, 0, none⟩ 1 1 [.string { data := #[93] }, .int .i64 0] rfl rfl hnews (by intro u hu; simp at hu; rcases hu with rfl | rfl <;> rfl) (by unfold maxLen; omega) (by omega) (by have := Hb5.out.size; exact this) ?_)
      intro v' w8 hown' hgrow _
      have hb8 : Below w.heap.size w w8 := Hb5.out.grown hgrow Hb5.out.size (fun q hq => (hr5.lt q hq).1)
      have Ho8 : Hid (OwnR w8 w.heap.size v' R) := Lib.hid (by
        rw [Hx2.out]
        unfold OwnR
        rw [List.length_append, rnCells_append]
        exact hown')
      clear hown' hgrow hr5 Hb5 hnews Hx2
      go_wp2_with fail
      go_ret
      exact ⟨_, rfl, Ho8.out, hb8⟩

theorem bracketRuns_c (x : It) (sv : Value) (w : World) (hs : SpAt w w.heap.size sv x.set) (ho : ItOk x) :
    Calls Tryd.prog 57 #[.agg #[.int .i64 x.k, .string ⟨x.t.toArray⟩, .bool x.neg, sv]] w fun e w' => ∃ v, e = .returned v ∧ OwnR w' w.heap.size v (brR x) ∧ Below w.heap.size w w' := by
  have hs0 := hs
  obtain ⟨A, c, rfl, _⟩ := hs
  obtain ⟨xk, xt, xn, xs⟩ := x
  simp only at *
  by_cases he : xs = []
  · subst he
    rcases xn with _ | _
    · exact bracketRuns_pe A c xk xt w
    · exact bracketRuns_ne A c xk xt w
  · rcases xn with _ | _
    · exact bracketRuns_pf A c xk xt xs w ho.1.1 he (Lib.hid hs0) (Lib.hid ho.1.2)
    · exact bracketRuns_nf A c xk xt xs w ho.1.1 he (Lib.hid hs0) (Lib.hid ho.1.2)
end Go.Proofs.YteppndkhmbhnkaaDoor
