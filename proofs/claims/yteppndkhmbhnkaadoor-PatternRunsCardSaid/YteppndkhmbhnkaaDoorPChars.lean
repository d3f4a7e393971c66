/- pattern: characters. -/
import Derived.Test.YteppndkhmbhnkaaDoorPSpans
import Derived.Lib.ConvBytes
namespace Go.Proofs.YteppndkhmbhnkaaDoor
open Go.RowKit
set_option linter.unusedVariables false

/-- A run: its bytes, its class. -/
structure Rn where
  t : List UInt8
  c : Int
def runCh (r : Rn) : List Ch := if r.c = 0 ∨ r.c = 1 ∨ r.c = 2 then r.t.map (fun b => ⟨b, decide (r.c ≠ 1)⟩) else []
def charsOf (rs : List Rn) : List Ch := rs.flatMap runCh
def RunAt (w : World) (B : Nat) (A : Option Addr) (rs : List Rn) : Prop :=
  rs = [] ∨ ∃ b off, A = some ⟨b, off, none⟩ ∧ b < B ∧ ∀ k (h : k < rs.length), w.cell? ⟨b, off + k * 2, none⟩ = some (.string ⟨(rs[k]'h).t.toArray⟩) ∧ w.cell? ⟨b, off + k * 2 + 1, none⟩ = some (.int .i64 (rs[k]'h).c)
theorem runAt_below {w w' : World} {B B' : Nat} {A : Option Addr} {rs : List Rn} (h : RunAt w B A rs) (hb : Below B' w w') (hB : B ≤ B') : RunAt w' B A rs := by
  rcases h with rfl | ⟨b, off, rfl, hlt, hc⟩
  · exact .inl rfl
  · exact .inr ⟨b, off, rfl, hlt, fun k hk => ⟨(hb.cell (p := ⟨b, off + k * 2, none⟩) (by show b < B'; omega)).trans (hc k hk).1, (hb.cell (p := ⟨b, off + k * 2 + 1, none⟩) (by show b < B'; omega)).trans (hc k hk).2⟩⟩
theorem runAt_mono {w : World} {B B' : Nat} {A : Option Addr} {rs : List Rn} (h : RunAt w B A rs) (hB : B ≤ B') : RunAt w B' A rs := by
  rcases h with rfl | ⟨b, off, rfl, hlt, hc⟩
  · exact .inl rfl
  · exact .inr ⟨b, off, rfl, by omega, hc⟩

def chCells (cs : List Ch) : List Value := cs.flatMap fun c => [.int .u8 (c.b.toNat : Nat), .bool c.act]
theorem chCells_append (l m : List Ch) : chCells (l ++ m) = chCells l ++ chCells m := by simp [chCells]
theorem chCells_length (l : List Ch) : (chCells l).length = l.length * 2 := by
  induction l with
  | nil => rfl
  | cons p l ih => rw [chCells, List.flatMap_cons, List.length_append]; unfold chCells at ih; rw [ih]; simp; omega
theorem chCells_get : ∀ (l : List Ch) (k : Nat) (h : k < l.length), (chCells l)[k * 2]? = some (.int .u8 ((l[k]'h).b.toNat : Nat)) ∧ (chCells l)[k * 2 + 1]? = some (.bool (l[k]'h).act)
  | [], k, h => by simp at h
  | c :: l, 0, h => ⟨rfl, rfl⟩
  | c :: l, k + 1, h => by
    have ih := chCells_get l k (by simpa using h)
    have e : chCells (c :: l) = .int .u8 (c.b.toNat : Nat) :: .bool c.act :: chCells l := rfl
    rw [e, show (k + 1) * 2 = k * 2 + 1 + 1 from by omega, show k * 2 + 1 + 1 + 1 = (k * 2 + 1) + 1 + 1 from rfl]
    simp only [List.getElem?_cons_succ, List.getElem_cons_succ]
    exact ih
/-- A slice of fresh characters. -/
def OwnCh (w : World) (B : Nat) (v : Value) (cs : List Ch) : Prop := w.ownsRow B 108 2 v cs.length (chCells cs)
theorem ownCh_at {w : World} {B : Nat} {v : Value} {cs : List Ch} (h : OwnCh w B v cs) : ∃ A c, v = .slice A cs.length c ∧ ChAt w w.heap.size A cs ∧ cs.length ≤ c ∧ c ≤ maxLen := by
  have h' := h
  rcases h.2 with ⟨rfl, h0⟩ | ⟨g, cap, cur, rfl, hg, hh, h2, h3, h4, h5⟩
  · exact ⟨none, 0, by rw [h0], .inl (List.length_eq_zero_iff.1 h0), by omega, by unfold maxLen; omega⟩
  · refine ⟨_, cap, rfl, .inr ⟨g, 0, rfl, lt_of_block hh, fun k hk => ?_⟩, h2, h3⟩
    rw [Nat.zero_add]
    have e1 := World.ownsRow.cellAt h' (k * 2) (by omega)
    have e2 := World.ownsRow.cellAt h' (k * 2 + 1) (by omega)
    rw [e1, e2]
    exact chCells_get cs k hk
/-- A row and a block of another type are two. -/
theorem own_ne {w : World} {B : Nat} {e e' : TypeId} {size n D : Nat} {v : Value} {xs : List Value} {cs : Array Value} {fr : Nat × Nat} (h : w.ownsRow B e size v n xs) (hh : w.heap[D]? = some (.cells cs e' fr)) (hne : e' ≠ e) : v.ownBlock ≠ some D := by
  rcases h.2 with ⟨rfl, _⟩ | ⟨g, cap, cur, rfl, hg, h1, _⟩
  · simp [Value.ownBlock]
  · intro hq
    simp only [Value.ownBlock, Option.some.injEq] at hq
    subst hq
    rw [h1] at hh
    injection hh with hh
    injection hh with _ hh _
    exact hne hh.symm
theorem charInfo : (Tryd.prog.info? 108).map (fun i => (i.zero, i.size, i.bytes)) = some (some (.agg #[.int .u8 0, .bool false]), 2, 2) := by kernel_rfl

theorem ownCh_kept {w w' : World} {B : Nat} {v : Value} {cs : List Ch} (h : OwnCh w B v cs) (hk : ∀ k, k < w.heap.size → w'.heap[k]? = w.heap[k]?) : OwnCh w' B v cs := by
  refine ⟨h.1, ?_⟩
  rcases h.2 with h0 | ⟨g, cap, cur, rfl, hg, hh, r⟩
  · exact .inl h0
  · exact .inr ⟨g, cap, cur, rfl, hg, (hk g (lt_of_block hh)).trans hh, r⟩
theorem below_bytes {B : Nat} {w w2 : World} (h : Below B w w2) (hB : B ≤ w2.heap.size) (e : TypeId) (s : ByteArray) : Below B w (Lib.bytesWorld w2 e s) :=
  ⟨h.os, h.tape, h.output, by rw [Lib.bytesWorld_size]; have := h.size; omega, fun i hi => by rw [Lib.bytesWorld_at_old _ _ _ _ (by omega)]; exact h.block i hi⟩

set_option maxHeartbeats 16000000 in
set_option maxRecDepth 100000 in
theorem characters_c (A : Option Addr) (rs : List Rn) (c : Nat) (w : World) (hA : RunAt w w.heap.size A rs) (hn : rs.length ≤ 1000000) (hT : (charsOf rs).length ≤ 1000000) (hL : ∀ r ∈ rs, r.t.length ≤ 1000000) :
    Calls Tryd.prog 50 #[.slice A rs.length c] w fun e w' => ∃ v, e = .returned v ∧ OwnCh w' w.heap.size v (charsOf rs) ∧ Below w.heap.size w w' := by
  obtain ⟨i0, hi, hz0, hz1, hz2⟩ := info_parts charInfo
  have HR : Hid (charsOf rs = [] ++ charsOf (rs.drop 0)) := Lib.hid rfl
  generalize charsOf rs = R at *
  go_enter Tryd.func50, Tryd.ntmps50
  go_wp2_with fail
  go_loopw [3, 10] (fun lv iv wr => ∃ (k : Nat) (acc : List Ch), iv = .int .i64 k ∧ k ≤ rs.length ∧ OwnCh wr w.heap.size lv acc ∧ Below w.heap.size w wr ∧ Hid (R = acc ++ charsOf (rs.drop k))) (fun _ iv _ => rs.length - (intOf iv).toNat)
  case atStart => exact ⟨0, [], rfl, by omega, ⟨rfl, .inl ⟨rfl, rfl⟩⟩, Below.refl _ _, HR⟩
  case round =>
    obtain ⟨k, acc, rfl, hk, ho, hb, hx⟩ := hrel
    clear HR
    obtain ⟨wo, hwo⟩ : ∃ x, x = wr := ⟨_, rfl⟩
    subst hwo
    by_cases hlt : k < rs.length
    · have d1 : decide ((k : Int) < (rs.length : Int)) = true := decide_eq_true (by omega)
      have d1' : decide (k < rs.length) = true := decide_eq_true hlt
      obtain ⟨b, off, rfl, hbl, hcell⟩ : ∃ b off, A = some ⟨b, off, none⟩ ∧ b < w.heap.size ∧ ∀ k (h : k < rs.length), w.cell? ⟨b, off + k * 2, none⟩ = some (.string ⟨(rs[k]'h).t.toArray⟩) ∧ w.cell? ⟨b, off + k * 2 + 1, none⟩ = some (.int .i64 (rs[k]'h).c) := by
        rcases hA with rfl | h
        · simp at hlt
        · exact h
      have x0 := (hb.cell (p := ⟨b, off + k * 2, none⟩) hbl).trans (hcell k hlt).1
      have x1 := (hb.cell (p := ⟨b, off + k * 2 + 1, none⟩) hbl).trans (hcell k hlt).2
      have hlk := hL (rs[k]'hlt) (List.getElem_mem hlt)
      have hx2 := hx.out
      rw [List.drop_eq_getElem_cons hlt, charsOf, List.flatMap_cons] at hx2
      change R = acc ++ (runCh (rs[k]'hlt) ++ charsOf (rs.drop (k + 1))) at hx2
      have hks : (k : Int) < (rs.length : Int) := by omega
      clear hcell hx hA hL
      generalize rs[k]'hlt = r at *
      obtain ⟨t, cl⟩ := r
      have hwsz := hb.size
      simp only at x0 x1 hlk
      have Hx2 := Lib.hid hx2
      clear hx2
      by_cases hcl : cl = 0 ∨ cl = 1 ∨ cl = 2
      · rcases hcl with rfl | rfl | rfl
        · have hrun : Hid (R = acc ++ ((t.drop 0).map (fun b => (⟨b, true⟩ : Ch)) ++ charsOf (rs.drop (k + 1)))) := Lib.hid (by
            rw [Hx2.out]
            congr 1)
          have hcv : ∀ w, (convert 9 82 (.string ⟨t.toArray⟩)).run Tryd.prog w = .ok (.slice (some ⟨w.heap.size, 0, none⟩) t.length (grownCap w t.length 0 5)) (Lib.bytesWorld w 5 ⟨t.toArray⟩) := fun w => Lib.run_convert_string_bytes w _ _ _ _ Tryd.underlying9 Tryd.underlying82 Tryd.underlying5
          have ho2 : OwnCh (wo.alloc (.cells #[.string ⟨t.toArray⟩, .int .i64 0] 66)) w.heap.size u3 acc := World.ownsRow.alloc ho _
          have hb2 : Below w.heap.size w (wo.alloc (.cells #[.string ⟨t.toArray⟩, .int .i64 0] 66)) := hb.alloc hwsz _
          have hn2 := heap_alloc_new wo (.cells #[.string ⟨t.toArray⟩, .int .i64 0] 66)
          have Ho2 := Lib.hid ho2; have Hb2 := Lib.hid hb2; have Hn2 := Lib.hid hn2
          clear ho ho2 hb2 hn2 Hx2 hb
          have hsz2 : (wo.alloc (.cells #[.string ⟨t.toArray⟩, .int .i64 0] 66)).heap.size = wo.heap.size + 1 := by simp
          have Hsz2 := Lib.hid hsz2
          clear hsz2
          go_wp2_with fail
          have ho9 := ownCh_kept Ho2.out (fun k hk => Lib.bytesWorld_at_old (wo.alloc (.cells #[.string ⟨t.toArray⟩, .int .i64 0] 66)) 5 ⟨t.toArray⟩ k hk)
          have hb9 := below_bytes Hb2.out (by rw [Hsz2.out]; omega) 5 ⟨t.toArray⟩
          have hn9 := (Lib.bytesWorld_at_old (wo.alloc (.cells #[.string ⟨t.toArray⟩, .int .i64 0] 66)) 5 ⟨t.toArray⟩ wo.heap.size (by rw [Hsz2.out]; omega)).trans Hn2.out
          have hy9 := Lib.bytesWorld_at_new (wo.alloc (.cells #[.string ⟨t.toArray⟩, .int .i64 0] 66)) 5 ⟨t.toArray⟩
          have hc9 : ∀ j (h : j < t.length), (Lib.bytesCells (wo.alloc (.cells #[.string ⟨t.toArray⟩, .int .i64 0] 66)) 5 ⟨t.toArray⟩)[j]? = some (.int .u8 (t[j]'h).toNat) := by
            intro j hj
            simp [Lib.bytesCells, Array.getElem?_append, hj]
          rw [Hsz2.out] at hy9
          have hz9 : wo.heap.size + 1 < (Lib.bytesWorld (wo.alloc (.cells #[.string ⟨t.toArray⟩, .int .i64 0] 66)) 5 ⟨t.toArray⟩).heap.size := lt_of_block hy9
          generalize Lib.bytesCells (wo.alloc (.cells #[.string ⟨t.toArray⟩, .int .i64 0] 66)) 5 ⟨t.toArray⟩ = BC at *
          generalize Lib.bytesWorld (wo.alloc (.cells #[.string ⟨t.toArray⟩, .int .i64 0] 66)) 5 ⟨t.toArray⟩ = w9 at *
          generalize grownCap (wo.alloc (.cells #[.string ⟨t.toArray⟩, .int .i64 0] 66)) t.length 0 5 = GC at *
          have Hc9 := Lib.hid hc9
          have Hy9 := Lib.hid hy9; have Hn9 := Lib.hid hn9; have Ho9 := Lib.hid ho9
          clear hcv hc9 hy9 hn9 ho9 Ho2 Hb2 Hn2 x0 x1
          go_loopw [3, 24] (fun lv iv wq => ∃ (j : Nat) (ac2 : List Ch), iv = .int .i64 j ∧ j ≤ t.length ∧ Hid (OwnCh wq w.heap.size lv ac2) ∧ Below w.heap.size w wq ∧ Hid (R = ac2 ++ ((t.drop j).map (fun b => (⟨b, true⟩ : Ch)) ++ charsOf (rs.drop (k + 1)))) ∧ Hid (wq.heap[wo.heap.size]? = some (.cells #[.string ⟨t.toArray⟩, .int .i64 0] 66 (0, 0))) ∧ Hid (wq.heap[wo.heap.size + 1]? = some (.cells BC 5 (BC.size, BC.size + 1)))) (fun _ iv _ => t.length - (intOf iv).toNat)
          case atStart => exact ⟨0, acc, rfl, by omega, Ho9, hb9, hrun, Hn9, Hy9⟩
          case round =>
            obtain ⟨j, ac2, rfl, hj, hoq, hbq, hxq, hnq, hyq⟩ := hrel
            clear Ho9 hb9 hrun Hn9 Hy9 hz9
            by_cases hjt : j < t.length
            · have e1 : decide ((j : Int) < (t.length : Int)) = true := decide_eq_true (by omega)
              have e1' : decide (j < t.length) = true := decide_eq_true hjt
              have cj : wr.cell? ⟨wo.heap.size + 1, j, none⟩ = some (.int .u8 (t[j]'hjt).toNat) := by rw [Lib.cell_of_heap hyq.out]; exact Hc9.out j hjt
              have cc : wr.cell? ⟨wo.heap.size, 1, none⟩ = some (.int .i64 0) := by rw [Lib.cell_of_heap hnq.out]; rfl
              have hjI : (j : Int) < (t.length : Int) := by omega
              have hxn : Hid (R = (ac2 ++ [⟨t[j]'hjt, true⟩]) ++ ((t.drop (j + 1)).map (fun b => (⟨b, true⟩ : Ch)) ++ charsOf (rs.drop (k + 1)))) := Lib.hid (by
                rw [hxq.out, List.drop_eq_getElem_cons hjt, List.map_cons, List.append_assoc]
                rfl)
              have hal : ac2.length + 1 ≤ 1000000 := by
                have := congrArg List.length hxn.out
                rw [List.length_append, List.length_append] at this
                simp only [List.length_singleton] at this
                omega
              have hwq := hbq.size
              generalize t[j]'hjt = bj at *
              have hoa : (wr.alloc (.cells #[.int .u8 bj.toNat, .bool true] 108)).ownsRow w.heap.size 108 2 u3 ac2.length (chCells ac2) := World.ownsRow.alloc hoq.out _
              have hba : Below w.heap.size w (wr.alloc (.cells #[.int .u8 bj.toNat, .bool true] 108)) := hbq.alloc hwq _
              have hnr := lt_of_block hyq.out
              have ne1 := own_ne hoq.out hnq.out (by decide)
              have ne2 := own_ne hoq.out hyq.out (by decide)
              go_wp2_with (at_builtin; refine wpList_append_own _ rfl _ _ 69 rfl w.heap.size 108 i0 _ 2 2 Tryd.underlying69 hi hz0 hz1 hz2 rfl (by decide) _ _ _ rfl hoa ⟨wr.heap.size, 0, none⟩ 1 1 [.int .u8 bj.toNat, .bool true] rfl rfl (World.news_of_block (cs := #[.int .u8 bj.toNat, .bool true]) (t := 108) (fr := (0, 0)) (heap_alloc_new wr _)) (by intro u hu; simp at hu; rcases hu with rfl | rfl <;> rfl) (by unfold maxLen; omega) (by omega) (by simp; omega) ?_)
              intro v' w3 hown' hgrow _
              have hb3 : Below w.heap.size w w3 := hba.grown hgrow (by simp; omega) (fun q hq => (hoa.lt q hq).1)
              have Ho3 : Hid (OwnCh w3 w.heap.size v' (ac2 ++ [⟨bj, true⟩])) := Lib.hid (by
                unfold OwnCh
                rw [List.length_append, chCells_append]
                exact hown')
              have Hn3 : Hid (w3.heap[wo.heap.size]? = some (.cells #[.string ⟨t.toArray⟩, .int .i64 0] 66 (0, 0))) := Lib.hid (by
                rw [hgrow.block _ (by simp; omega) (Ne.symm ne1), Lib.alloc_old _ _ _ (by omega)]
                exact hnq.out)
              have Hy3 : Hid (w3.heap[wo.heap.size + 1]? = some (.cells BC 5 (BC.size, BC.size + 1))) := Lib.hid (by
                rw [hgrow.block _ (by simp; omega) (Ne.symm ne2), Lib.alloc_old _ _ _ (by omega)]
                exact hyq.out)
              clear hown' hgrow hoa hba hoq hxq hnq hyq cj cc ne1 ne2
              go_wp2_with fail
              go_roundw
              case rel => exact ⟨j + 1, _, by go_num, by omega, Ho3, hb3, hxn, Hn3, Hy3⟩
              case measure => simp [intOf]; omega
            · have e1 : decide ((j : Int) < (t.length : Int)) = false := decide_eq_false (by omega)
              have e1' : decide (j < t.length) = false := decide_eq_false hjt
              have hxe : Hid (R = ac2 ++ charsOf (rs.drop (k + 1))) := Lib.hid (by
                rw [hxq.out, List.drop_of_length_le (by omega)]
                rfl)
              clear hxq hnq hyq
              go_wp2_with fail
              go_roundw
              case rel => exact ⟨k + 1, ac2, by go_num, by omega, hoq.out, hbq, hxe⟩
              case measure => simp [intOf]; omega
        · have hrun : Hid (R = acc ++ ((t.drop 0).map (fun b => (⟨b, false⟩ : Ch)) ++ charsOf (rs.drop (k + 1)))) := Lib.hid (by
            rw [Hx2.out]
            congr 1)
          have hcv : ∀ w, (convert 9 82 (.string ⟨t.toArray⟩)).run Tryd.prog w = .ok (.slice (some ⟨w.heap.size, 0, none⟩) t.length (grownCap w t.length 0 5)) (Lib.bytesWorld w 5 ⟨t.toArray⟩) := fun w => Lib.run_convert_string_bytes w _ _ _ _ Tryd.underlying9 Tryd.underlying82 Tryd.underlying5
          have ho2 : OwnCh (wo.alloc (.cells #[.string ⟨t.toArray⟩, .int .i64 1] 66)) w.heap.size u3 acc := World.ownsRow.alloc ho _
          have hb2 : Below w.heap.size w (wo.alloc (.cells #[.string ⟨t.toArray⟩, .int .i64 1] 66)) := hb.alloc hwsz _
          have hn2 := heap_alloc_new wo (.cells #[.string ⟨t.toArray⟩, .int .i64 1] 66)
          have Ho2 := Lib.hid ho2; have Hb2 := Lib.hid hb2; have Hn2 := Lib.hid hn2
          clear ho ho2 hb2 hn2 Hx2 hb
          have hsz2 : (wo.alloc (.cells #[.string ⟨t.toArray⟩, .int .i64 1] 66)).heap.size = wo.heap.size + 1 := by simp
          have Hsz2 := Lib.hid hsz2
          clear hsz2
          go_wp2_with fail
          have ho9 := ownCh_kept Ho2.out (fun k hk => Lib.bytesWorld_at_old (wo.alloc (.cells #[.string ⟨t.toArray⟩, .int .i64 1] 66)) 5 ⟨t.toArray⟩ k hk)
          have hb9 := below_bytes Hb2.out (by rw [Hsz2.out]; omega) 5 ⟨t.toArray⟩
          have hn9 := (Lib.bytesWorld_at_old (wo.alloc (.cells #[.string ⟨t.toArray⟩, .int .i64 1] 66)) 5 ⟨t.toArray⟩ wo.heap.size (by rw [Hsz2.out]; omega)).trans Hn2.out
          have hy9 := Lib.bytesWorld_at_new (wo.alloc (.cells #[.string ⟨t.toArray⟩, .int .i64 1] 66)) 5 ⟨t.toArray⟩
          have hc9 : ∀ j (h : j < t.length), (Lib.bytesCells (wo.alloc (.cells #[.string ⟨t.toArray⟩, .int .i64 1] 66)) 5 ⟨t.toArray⟩)[j]? = some (.int .u8 (t[j]'h).toNat) := by
            intro j hj
            simp [Lib.bytesCells, Array.getElem?_append, hj]
          rw [Hsz2.out] at hy9
          have hz9 : wo.heap.size + 1 < (Lib.bytesWorld (wo.alloc (.cells #[.string ⟨t.toArray⟩, .int .i64 1] 66)) 5 ⟨t.toArray⟩).heap.size := lt_of_block hy9
          generalize Lib.bytesCells (wo.alloc (.cells #[.string ⟨t.toArray⟩, .int .i64 1] 66)) 5 ⟨t.toArray⟩ = BC at *
          generalize Lib.bytesWorld (wo.alloc (.cells #[.string ⟨t.toArray⟩, .int .i64 1] 66)) 5 ⟨t.toArray⟩ = w9 at *
          generalize grownCap (wo.alloc (.cells #[.string ⟨t.toArray⟩, .int .i64 1] 66)) t.length 0 5 = GC at *
          have Hc9 := Lib.hid hc9
          have Hy9 := Lib.hid hy9; have Hn9 := Lib.hid hn9; have Ho9 := Lib.hid ho9
          clear hcv hc9 hy9 hn9 ho9 Ho2 Hb2 Hn2 x0 x1
          go_loopw [3, 24] (fun lv iv wq => ∃ (j : Nat) (ac2 : List Ch), iv = .int .i64 j ∧ j ≤ t.length ∧ Hid (OwnCh wq w.heap.size lv ac2) ∧ Below w.heap.size w wq ∧ Hid (R = ac2 ++ ((t.drop j).map (fun b => (⟨b, false⟩ : Ch)) ++ charsOf (rs.drop (k + 1)))) ∧ Hid (wq.heap[wo.heap.size]? = some (.cells #[.string ⟨t.toArray⟩, .int .i64 1] 66 (0, 0))) ∧ Hid (wq.heap[wo.heap.size + 1]? = some (.cells BC 5 (BC.size, BC.size + 1)))) (fun _ iv _ => t.length - (intOf iv).toNat)
          case atStart => exact ⟨0, acc, rfl, by omega, Ho9, hb9, hrun, Hn9, Hy9⟩
          case round =>
            obtain ⟨j, ac2, rfl, hj, hoq, hbq, hxq, hnq, hyq⟩ := hrel
            clear Ho9 hb9 hrun Hn9 Hy9 hz9
            by_cases hjt : j < t.length
            · have e1 : decide ((j : Int) < (t.length : Int)) = true := decide_eq_true (by omega)
              have e1' : decide (j < t.length) = true := decide_eq_true hjt
              have cj : wr.cell? ⟨wo.heap.size + 1, j, none⟩ = some (.int .u8 (t[j]'hjt).toNat) := by rw [Lib.cell_of_heap hyq.out]; exact Hc9.out j hjt
              have cc : wr.cell? ⟨wo.heap.size, 1, none⟩ = some (.int .i64 1) := by rw [Lib.cell_of_heap hnq.out]; rfl
              have hjI : (j : Int) < (t.length : Int) := by omega
              have hxn : Hid (R = (ac2 ++ [⟨t[j]'hjt, false⟩]) ++ ((t.drop (j + 1)).map (fun b => (⟨b, false⟩ : Ch)) ++ charsOf (rs.drop (k + 1)))) := Lib.hid (by
                rw [hxq.out, List.drop_eq_getElem_cons hjt, List.map_cons, List.append_assoc]
                rfl)
              have hal : ac2.length + 1 ≤ 1000000 := by
                have := congrArg List.length hxn.out
                rw [List.length_append, List.length_append] at this
                simp only [List.length_singleton] at this
                omega
              have hwq := hbq.size
              generalize t[j]'hjt = bj at *
              have hoa : (wr.alloc (.cells #[.int .u8 bj.toNat, .bool false] 108)).ownsRow w.heap.size 108 2 u3 ac2.length (chCells ac2) := World.ownsRow.alloc hoq.out _
              have hba : Below w.heap.size w (wr.alloc (.cells #[.int .u8 bj.toNat, .bool false] 108)) := hbq.alloc hwq _
              have hnr := lt_of_block hyq.out
              have ne1 := own_ne hoq.out hnq.out (by decide)
              have ne2 := own_ne hoq.out hyq.out (by decide)
              go_wp2_with (at_builtin; refine wpList_append_own _ rfl _ _ 69 rfl w.heap.size 108 i0 _ 2 2 Tryd.underlying69 hi hz0 hz1 hz2 rfl (by decide) _ _ _ rfl hoa ⟨wr.heap.size, 0, none⟩ 1 1 [.int .u8 bj.toNat, .bool false] rfl rfl (World.news_of_block (cs := #[.int .u8 bj.toNat, .bool false]) (t := 108) (fr := (0, 0)) (heap_alloc_new wr _)) (by intro u hu; simp at hu; rcases hu with rfl | rfl <;> rfl) (by unfold maxLen; omega) (by omega) (by simp; omega) ?_)
              intro v' w3 hown' hgrow _
              have hb3 : Below w.heap.size w w3 := hba.grown hgrow (by simp; omega) (fun q hq => (hoa.lt q hq).1)
              have Ho3 : Hid (OwnCh w3 w.heap.size v' (ac2 ++ [⟨bj, false⟩])) := Lib.hid (by
                unfold OwnCh
                rw [List.length_append, chCells_append]
                exact hown')
              have Hn3 : Hid (w3.heap[wo.heap.size]? = some (.cells #[.string ⟨t.toArray⟩, .int .i64 1] 66 (0, 0))) := Lib.hid (by
                rw [hgrow.block _ (by simp; omega) (Ne.symm ne1), Lib.alloc_old _ _ _ (by omega)]
                exact hnq.out)
              have Hy3 : Hid (w3.heap[wo.heap.size + 1]? = some (.cells BC 5 (BC.size, BC.size + 1))) := Lib.hid (by
                rw [hgrow.block _ (by simp; omega) (Ne.symm ne2), Lib.alloc_old _ _ _ (by omega)]
                exact hyq.out)
              clear hown' hgrow hoa hba hoq hxq hnq hyq cj cc ne1 ne2
              go_wp2_with fail
              go_roundw
              case rel => exact ⟨j + 1, _, by go_num, by omega, Ho3, hb3, hxn, Hn3, Hy3⟩
              case measure => simp [intOf]; omega
            · have e1 : decide ((j : Int) < (t.length : Int)) = false := decide_eq_false (by omega)
              have e1' : decide (j < t.length) = false := decide_eq_false hjt
              have hxe : Hid (R = ac2 ++ charsOf (rs.drop (k + 1))) := Lib.hid (by
                rw [hxq.out, List.drop_of_length_le (by omega)]
                rfl)
              clear hxq hnq hyq
              go_wp2_with fail
              go_roundw
              case rel => exact ⟨k + 1, ac2, by go_num, by omega, hoq.out, hbq, hxe⟩
              case measure => simp [intOf]; omega
        · have hrun : Hid (R = acc ++ ((t.drop 0).map (fun b => (⟨b, true⟩ : Ch)) ++ charsOf (rs.drop (k + 1)))) := Lib.hid (by
            rw [Hx2.out]
            congr 1)
          have hcv : ∀ w, (convert 9 82 (.string ⟨t.toArray⟩)).run Tryd.prog w = .ok (.slice (some ⟨w.heap.size, 0, none⟩) t.length (grownCap w t.length 0 5)) (Lib.bytesWorld w 5 ⟨t.toArray⟩) := fun w => Lib.run_convert_string_bytes w _ _ _ _ Tryd.underlying9 Tryd.underlying82 Tryd.underlying5
          have ho2 : OwnCh (wo.alloc (.cells #[.string ⟨t.toArray⟩, .int .i64 2] 66)) w.heap.size u3 acc := World.ownsRow.alloc ho _
          have hb2 : Below w.heap.size w (wo.alloc (.cells #[.string ⟨t.toArray⟩, .int .i64 2] 66)) := hb.alloc hwsz _
          have hn2 := heap_alloc_new wo (.cells #[.string ⟨t.toArray⟩, .int .i64 2] 66)
          have Ho2 := Lib.hid ho2; have Hb2 := Lib.hid hb2; have Hn2 := Lib.hid hn2
          clear ho ho2 hb2 hn2 Hx2 hb
          have hsz2 : (wo.alloc (.cells #[.string ⟨t.toArray⟩, .int .i64 2] 66)).heap.size = wo.heap.size + 1 := by simp
          have Hsz2 := Lib.hid hsz2
          clear hsz2
          go_wp2_with fail
          have ho9 := ownCh_kept Ho2.out (fun k hk => Lib.bytesWorld_at_old (wo.alloc (.cells #[.string ⟨t.toArray⟩, .int .i64 2] 66)) 5 ⟨t.toArray⟩ k hk)
          have hb9 := below_bytes Hb2.out (by rw [Hsz2.out]; omega) 5 ⟨t.toArray⟩
          have hn9 := (Lib.bytesWorld_at_old (wo.alloc (.cells #[.string ⟨t.toArray⟩, .int .i64 2] 66)) 5 ⟨t.toArray⟩ wo.heap.size (by rw [Hsz2.out]; omega)).trans Hn2.out
          have hy9 := Lib.bytesWorld_at_new (wo.alloc (.cells #[.string ⟨t.toArray⟩, .int .i64 2] 66)) 5 ⟨t.toArray⟩
          have hc9 : ∀ j (h : j < t.length), (Lib.bytesCells (wo.alloc (.cells #[.string ⟨t.toArray⟩, .int .i64 2] 66)) 5 ⟨t.toArray⟩)[j]? = some (.int .u8 (t[j]'h).toNat) := by
            intro j hj
            simp [Lib.bytesCells, Array.getElem?_append, hj]
          rw [Hsz2.out] at hy9
          have hz9 : wo.heap.size + 1 < (Lib.bytesWorld (wo.alloc (.cells #[.string ⟨t.toArray⟩, .int .i64 2] 66)) 5 ⟨t.toArray⟩).heap.size := lt_of_block hy9
          generalize Lib.bytesCells (wo.alloc (.cells #[.string ⟨t.toArray⟩, .int .i64 2] 66)) 5 ⟨t.toArray⟩ = BC at *
          generalize Lib.bytesWorld (wo.alloc (.cells #[.string ⟨t.toArray⟩, .int .i64 2] 66)) 5 ⟨t.toArray⟩ = w9 at *
          generalize grownCap (wo.alloc (.cells #[.string ⟨t.toArray⟩, .int .i64 2] 66)) t.length 0 5 = GC at *
          have Hc9 := Lib.hid hc9
          have Hy9 := Lib.hid hy9; have Hn9 := Lib.hid hn9; have Ho9 := Lib.hid ho9
          clear hcv hc9 hy9 hn9 ho9 Ho2 Hb2 Hn2 x0 x1
          go_loopw [3, 24] (fun lv iv wq => ∃ (j : Nat) (ac2 : List Ch), iv = .int .i64 j ∧ j ≤ t.length ∧ Hid (OwnCh wq w.heap.size lv ac2) ∧ Below w.heap.size w wq ∧ Hid (R = ac2 ++ ((t.drop j).map (fun b => (⟨b, true⟩ : Ch)) ++ charsOf (rs.drop (k + 1)))) ∧ Hid (wq.heap[wo.heap.size]? = some (.cells #[.string ⟨t.toArray⟩, .int .i64 2] 66 (0, 0))) ∧ Hid (wq.heap[wo.heap.size + 1]? = some (.cells BC 5 (BC.size, BC.size + 1)))) (fun _ iv _ => t.length - (intOf iv).toNat)
          case atStart => exact ⟨0, acc, rfl, by omega, Ho9, hb9, hrun, Hn9, Hy9⟩
          case round =>
            obtain ⟨j, ac2, rfl, hj, hoq, hbq, hxq, hnq, hyq⟩ := hrel
            clear Ho9 hb9 hrun Hn9 Hy9 hz9
            by_cases hjt : j < t.length
            · have e1 : decide ((j : Int) < (t.length : Int)) = true := decide_eq_true (by omega)
              have e1' : decide (j < t.length) = true := decide_eq_true hjt
              have cj : wr.cell? ⟨wo.heap.size + 1, j, none⟩ = some (.int .u8 (t[j]'hjt).toNat) := by rw [Lib.cell_of_heap hyq.out]; exact Hc9.out j hjt
              have cc : wr.cell? ⟨wo.heap.size, 1, none⟩ = some (.int .i64 2) := by rw [Lib.cell_of_heap hnq.out]; rfl
              have hjI : (j : Int) < (t.length : Int) := by omega
              have hxn : Hid (R = (ac2 ++ [⟨t[j]'hjt, true⟩]) ++ ((t.drop (j + 1)).map (fun b => (⟨b, true⟩ : Ch)) ++ charsOf (rs.drop (k + 1)))) := Lib.hid (by
                rw [hxq.out, List.drop_eq_getElem_cons hjt, List.map_cons, List.append_assoc]
                rfl)
              have hal : ac2.length + 1 ≤ 1000000 := by
                have := congrArg List.length hxn.out
                rw [List.length_append, List.length_append] at this
                simp only [List.length_singleton] at this
                omega
              have hwq := hbq.size
              generalize t[j]'hjt = bj at *
              have hoa : (wr.alloc (.cells #[.int .u8 bj.toNat, .bool true] 108)).ownsRow w.heap.size 108 2 u3 ac2.length (chCells ac2) := World.ownsRow.alloc hoq.out _
              have hba : Below w.heap.size w (wr.alloc (.cells #[.int .u8 bj.toNat, .bool true] 108)) := hbq.alloc hwq _
              have hnr := lt_of_block hyq.out
              have ne1 := own_ne hoq.out hnq.out (by decide)
              have ne2 := own_ne hoq.out hyq.out (by decide)
              go_wp2_with (at_builtin; refine wpList_append_own _ rfl _ _ 69 rfl w.heap.size 108 i0 _ 2 2 Tryd.underlying69 hi hz0 hz1 hz2 rfl (by decide) _ _ _ rfl hoa ⟨wr.heap.size, 0, none⟩ 1 1 [.int .u8 bj.toNat, .bool true] rfl rfl (World.news_of_block (cs := #[.int .u8 bj.toNat, .bool true]) (t := 108) (fr := (0, 0)) (heap_alloc_new wr _)) (by intro u hu; simp at hu; rcases hu with rfl | rfl <;> rfl) (by unfold maxLen; omega) (by omega) (by simp; omega) ?_)
              intro v' w3 hown' hgrow _
              have hb3 : Below w.heap.size w w3 := hba.grown hgrow (by simp; omega) (fun q hq => (hoa.lt q hq).1)
              have Ho3 : Hid (OwnCh w3 w.heap.size v' (ac2 ++ [⟨bj, true⟩])) := Lib.hid (by
                unfold OwnCh
                rw [List.length_append, chCells_append]
                exact hown')
              have Hn3 : Hid (w3.heap[wo.heap.size]? = some (.cells #[.string ⟨t.toArray⟩, .int .i64 2] 66 (0, 0))) := Lib.hid (by
                rw [hgrow.block _ (by simp; omega) (Ne.symm ne1), Lib.alloc_old _ _ _ (by omega)]
                exact hnq.out)
              have Hy3 : Hid (w3.heap[wo.heap.size + 1]? = some (.cells BC 5 (BC.size, BC.size + 1))) := Lib.hid (by
                rw [hgrow.block _ (by simp; omega) (Ne.symm ne2), Lib.alloc_old _ _ _ (by omega)]
                exact hyq.out)
              clear hown' hgrow hoa hba hoq hxq hnq hyq cj cc ne1 ne2
              go_wp2_with fail
              go_roundw
              case rel => exact ⟨j + 1, _, by go_num, by omega, Ho3, hb3, hxn, Hn3, Hy3⟩
              case measure => simp [intOf]; omega
            · have e1 : decide ((j : Int) < (t.length : Int)) = false := decide_eq_false (by omega)
              have e1' : decide (j < t.length) = false := decide_eq_false hjt
              have hxe : Hid (R = ac2 ++ charsOf (rs.drop (k + 1))) := Lib.hid (by
                rw [hxq.out, List.drop_of_length_le (by omega)]
                rfl)
              clear hxq hnq hyq
              go_wp2_with fail
              go_roundw
              case rel => exact ⟨k + 1, ac2, by go_num, by omega, hoq.out, hbq, hxe⟩
              case measure => simp [intOf]; omega
      · have hq : Hid (R = acc ++ charsOf (rs.drop (k + 1))) := Lib.hid (by
          rw [Hx2.out, runCh, if_neg hcl, List.nil_append])
        have t1 : (cl == 0) = false := by rw [beq_eq_false_iff_ne]; exact fun h => hcl (.inl h)
        have t2 : (cl == 1) = false := by rw [beq_eq_false_iff_ne]; exact fun h => hcl (.inr (.inl h))
        have t3 : (cl == 2) = false := by rw [beq_eq_false_iff_ne]; exact fun h => hcl (.inr (.inr h))
        have ho2 : ∀ o, OwnCh (wo.alloc o) w.heap.size u3 acc := fun o => World.ownsRow.alloc ho o
        have Ho2 := Lib.hid ho2
        have hb2 : ∀ o, Below w.heap.size w (wo.alloc o) := fun o => hb.alloc hwsz o
        have Hb2 := Lib.hid hb2
        clear ho ho2 hb2 hcl Hx2 hb
        go_wp2_with fail
        go_roundw
        case rel => exact ⟨k + 1, acc, by go_num, by omega, Ho2.out _, Hb2.out _, hq⟩
        case measure => simp [intOf]; omega
    · have hkn : k = rs.length := by omega
      have d1 : decide ((k : Int) < (rs.length : Int)) = false := decide_eq_false (by omega)
      have d1' : decide (k < rs.length) = false := decide_eq_false hlt
      have hR : R = acc := by
        rw [hx.out, hkn, List.drop_length]
        simp [charsOf]
      subst hR
      clear hx hkn
      go_wp2_with fail
      go_ret
      exact ⟨_, rfl, ho, hb⟩
end Go.Proofs.YteppndkhmbhnkaaDoor
