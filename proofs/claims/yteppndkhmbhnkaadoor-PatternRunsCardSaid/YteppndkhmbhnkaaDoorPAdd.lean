/- pattern: oneByte, memberRanges, (byteSet).add. -/
import Derived.Test.YteppndkhmbhnkaaDoorPEnds
import Derived.Laws.IdiomStrings
namespace Go.Proofs.YteppndkhmbhnkaaDoor
open Go.RowKit
set_option linter.unusedVariables false

theorem conv1 (w : World) (b : UInt8) : (convert 82 9 (.slice (some ⟨w.heap.size, 0, none⟩) 1 1)).run Tryd.prog (w.alloc (.cells #[.int .u8 b.toNat] 5)) = .ok (.string ⟨#[b]⟩) (w.alloc (.cells #[.int .u8 b.toNat] 5)) := by
  refine run_convert_bytes_back _ _ _ 5 ⟨w.heap.size, 0, none⟩ 1 [b] Tryd.underlying82 Tryd.underlying5 Tryd.underlying9 ?_
  intro j hj
  have hj4 : j < 1 := hj
  rw [show (⟨w.heap.size, 0, none⟩ : Addr).add j = ⟨w.heap.size, j, none⟩ from by simp [Addr.add] <;> omega, World.cell?_alloc_mark]
  rcases j with _ | j
  · rfl
  · omega
theorem conv2 (w : World) (p q : UInt8) : (convert 82 9 (.slice (some ⟨w.heap.size, 0, none⟩) 2 2)).run Tryd.prog (w.alloc (.cells #[.int .u8 p.toNat, .int .u8 q.toNat] 5)).drew = .ok (.string ⟨#[p, q]⟩) (w.alloc (.cells #[.int .u8 p.toNat, .int .u8 q.toNat] 5)).drew := by
  refine run_convert_bytes_back _ _ _ 5 ⟨w.heap.size, 0, none⟩ 2 [p, q] Tryd.underlying82 Tryd.underlying5 Tryd.underlying9 ?_
  intro j hj
  have hj4 : j < 2 := hj
  rw [show (⟨w.heap.size, 0, none⟩ : Addr).add j = ⟨w.heap.size, j, none⟩ from by simp [Addr.add] <;> omega, World.cell?_drew, World.cell?_alloc_mark]
  rcases j with _ | _ | j
  · rfl
  · rfl
  · omega
theorem oneByte_c (b : UInt8) (w : World) : Calls Tryd.prog 87 #[.int .u8 b.toNat] w fun e w' => e = .returned (strB [b]) ∧ Below w.heap.size w w' := by
  have hcv := conv1 w b
  go_enter Tryd.func87, Tryd.ntmps87
  go_wp2_with fail
  go_ret
  exact ⟨rfl, (Below.refl _ _).alloc (Nat.le_refl _) _⟩

/-- The ranges of the member that consists of the characters. -/
def mranges (cs : List Ch) : List UInt8 := if classI cs < 8 then classR (classI cs) else
  match cs.head?, cs.getLast? with
  | some a, some b => [a.b, b.b]
  | _, _ => []
set_option maxHeartbeats 4000000 in
set_option maxRecDepth 100000 in
theorem memberRanges_c (A : Option Addr) (cs : List Ch) (c : Nat) (w : World) (hA : ChAt w w.heap.size A cs) (hc : cs.length ≤ 1000000) (hpos : 0 < cs.length) (hE : Env w w.heap.size) :
    Calls Tryd.prog 113 #[.slice A cs.length c] w fun e w' => e = .returned (strB (mranges cs)) ∧ Below w.heap.size w w' := by
  have hcls := Lib.hid (classOf_c A cs c w hA hc hE)
  by_cases h8 : classI cs < 8
  · have hm : mranges cs = classR (classI cs) := by unfold mranges; rw [if_pos h8]
    rw [hm]
    generalize hQ : classR (classI cs) = Q at *
    go_enter Tryd.func113, Tryd.ntmps113
    go_wp2_with fail
    refine hcls.out.mono ?_
    rintro e w1 ⟨⟨_, rfl⟩ | ⟨h, _⟩, m1⟩
    · rw [hQ]
      unfold strB
      clear hcls h8 hm hQ
      go_wp2_with fail
      go_ret
      exact ⟨rfl, m1.alloc m1.size _⟩
    · omega
  have hcl : ∀ e w1, ClsPost cs w e w1 → e = .returned (.tuple #[.agg #[.string { data := #[] }, .string { data := #[] }], .bool false]) ∧ Below w.heap.size w w1 := by
    rintro e w1 ⟨⟨h, _⟩ | ⟨_, rfl⟩, m1⟩
    · omega
    · exact ⟨rfl, m1⟩
  have Hcl := Lib.hid (hcls.out.mono hcl)
  clear hcl hcls
  obtain ⟨b, off, rfl, hbl, hcell⟩ : ∃ b off, A = some ⟨b, off, none⟩ ∧ b < w.heap.size ∧ ∀ k (h : k < cs.length), w.cell? ⟨b, off + k * 2, none⟩ = some (.int .u8 (cs[k]'h).b.toNat) ∧ w.cell? ⟨b, off + k * 2 + 1, none⟩ = some (.bool (cs[k]'h).act) := by
    rcases hA with rfl | h
    · simp at hpos
    · exact h
  have x0 := (hcell 0 hpos).1
  have x1 := (hcell (cs.length - 1) (by omega)).1
  have hm : mranges cs = [(cs[0]'hpos).b, (cs[cs.length - 1]'(by omega)).b] := by
    unfold mranges
    rw [if_neg h8, List.head?_eq_getElem?, List.getElem?_eq_getElem hpos, List.getLast?_eq_getElem?, List.getElem?_eq_getElem (by omega)]
  rw [hm]
  clear hm hcell hA h8
  generalize (cs[0]'hpos).b = p at *
  generalize (cs[cs.length - 1]'(by omega)).b = q at *
  change w.cell? ⟨b, off, none⟩ = _ at x0
  have i1 : IntKind.i64.wrap ((cs.length : Int) - 1) = (cs.length : Int) - 1 := IntWalk.i64_in _ (by omega)
  have i2 : (0 : Int) ≤ (cs.length : Int) - 1 := by omega
  have i2' : (1 : Int) ≤ (cs.length : Int) := by omega
  have i3 : ((cs.length : Int) - 1).toNat = cs.length - 1 := by omega
  have i4 : (cs.length : Int) - 1 < (cs.length : Int) := by omega
  have i5 : (0 : Int) < (cs.length : Int) := by omega
  go_enter Tryd.func113, Tryd.ntmps113
  go_wp2_with fail
  refine Hcl.out.mono ?_
  rintro e w1 ⟨rfl, m1⟩
  have m2 := m1.alloc m1.size (.cells #[.string { data := #[] }, .string { data := #[] }] 123)
  have y0 : ∀ o, (w1.alloc o).cell? ⟨b, off, none⟩ = some (.int .u8 p.toNat) := fun o => ((m1.alloc m1.size o).cell (p := ⟨b, off, none⟩) hbl).trans x0
  have y1 : ∀ o, (w1.alloc o).cell? ⟨b, off + (cs.length - 1) * 2, none⟩ = some (.int .u8 q.toNat) := fun o => ((m1.alloc m1.size o).cell (p := ⟨b, off + (cs.length - 1) * 2, none⟩) hbl).trans x1
  clear x0 x1 Hcl
  go_wp2_with fail
  have m2' := m2
  have z0 := y0 (.cells #[.string { data := #[] }, .string { data := #[] }] 123)
  have z1 := y1 (.cells #[.string { data := #[] }, .string { data := #[] }] 123)
  clear y0 y1 m2'
  generalize w1.alloc (.cells #[.string { data := #[] }, .string { data := #[] }] 123) = w2 at *
  have hcv := conv2 w2 p q
  go_region
  all_goals go_wp2_with fail
  all_goals go_ret
  all_goals exact ⟨rfl, (m2.alloc m2.size _).drew⟩

/-- Is a number in one of the ranges, which are given in pairs? -/
def inR : List UInt8 → Nat → Bool
  | a :: b :: r, j => (decide (a.toNat ≤ j) && decide (j ≤ b.toNat)) || inR r j
  | _, _ => false
/-- A set of bytes in a block of its own. -/
def SetAt (w : World) (g : Nat) (S : Nat → Bool) : Prop := g < w.heap.size ∧ ∀ j, j < 256 → w.cell? ⟨g, j, none⟩ = some (.bool (S j)) ∧ w.frozen? ⟨g, j, none⟩ = false
theorem setAt_below {w w' : World} {g B : Nat} {S : Nat → Bool} (h : SetAt w g S) (hb : Below B w w') (hg : g < B) : SetAt w' g S :=
  ⟨Nat.lt_of_lt_of_le h.1 hb.size, fun j hj => ⟨(hb.cell (p := ⟨g, j, none⟩) hg).trans (h.2 j hj).1, (hb.frozen (p := ⟨g, j, none⟩) hg).trans (h.2 j hj).2⟩⟩
theorem setAt_set {w : World} {g i : Nat} {S : Nat → Bool} (h : SetAt w g S) (hi : i < 256) : SetAt (w.setCell ⟨g, i, none⟩ (.bool true)) g (fun j => S j || j == i) := by
  refine ⟨by simpa using h.1, fun j hj => ⟨?_, by simpa using (h.2 j hj).2⟩⟩
  by_cases e : i = j
  · subst e
    rw [World.cell?_setCell_same _ _ _ (h.2 i hi).1]
    simp
  · rw [World.cell?_setCell_other _ _ _ _ (fun e1 => e (by injection e1)), (h.2 j hj).1]
    have : (j == i) = false := by rw [beq_eq_false_iff_ne]; exact fun h => e h.symm
    simp [this]
theorem setAt_ext {w : World} {g : Nat} {S S' : Nat → Bool} (h : SetAt w g S) (he : ∀ j, j < 256 → S j = S' j) : SetAt w g S' :=
  ⟨h.1, fun j hj => by rw [← he j hj]; exact h.2 j hj⟩

/-- The blocks but g are as they were. -/
structure ButG (g : Nat) (w w' : World) : Prop where
  bel : Below g w w'
  kept : ∀ k, k ≠ g → k < w.heap.size → w'.heap[k]? = w.heap[k]?
theorem ButG.refl (g : Nat) (w : World) : ButG g w w := ⟨Below.refl _ _, fun _ _ _ => rfl⟩
theorem ButG.trans {g : Nat} {a b c : World} (h : ButG g a b) (k : ButG g b c) : ButG g a c :=
  ⟨h.bel.trans k.bel, fun i hi hl => (k.kept i hi (by have := h.bel.size; omega)).trans (h.kept i hi hl)⟩
theorem ButG.set (g i : Nat) (w : World) (v : Value) : ButG g w (w.setCell ⟨g, i, none⟩ v) :=
  ⟨(Below.refl g w).setCell (p := ⟨g, i, none⟩) (Nat.le_refl _) v, fun k hk _ => Below.heap_setCell _ _ _ _ (by simpa using hk)⟩

theorem rng_step (s : Bool) (p i j : Nat) (hp : p ≤ i) : ((s || (decide (p ≤ j) && decide (j < i))) || (j == i)) = (s || (decide (p ≤ j) && decide (j < i + 1))) := by
  rw [Bool.eq_iff_iff]
  cases s <;> simp
  omega
theorem rng_end (s : Bool) (p i q j : Nat) (h1 : q < i) (h2 : i ≤ q + 1 ∨ i = p) : (s || (decide (p ≤ j) && decide (j < i))) = (s || (decide (p ≤ j) && decide (j ≤ q))) := by
  rw [Bool.eq_iff_iff]
  cases s <;> simp
  omega

set_option maxHeartbeats 8000000 in
set_option maxRecDepth 100000 in
theorem add_c (g : Nat) (S : Nat → Bool) (rs : List UInt8) (w : World) (hS : SetAt w g S) (hr : rs.length % 2 = 0) (hrl : rs.length ≤ 1000) :
    Calls Tryd.prog 112 #[.pointer (some ⟨g, 0, none⟩), strB rs] w fun e w' => e = .returned (.tuple #[]) ∧ SetAt w' g (fun j => S j || inR rs j) ∧ ButG g w w' := by
  unfold strB
  have hsz : (⟨rs.toArray⟩ : ByteArray).size = rs.length := rfl
  go_enter Tryd.func112, Tryd.ntmps112
  go_wp2_with fail
  go_loopw [4] (fun iv wr => ∃ (k : Nat) (S1 : Nat → Bool), iv = .int .i64 ((2 * k : Nat) : Int) ∧ 2 * k ≤ rs.length ∧ SetAt wr g S1 ∧ Hid (∀ j, j < 256 → (S1 j || inR (rs.drop (2 * k)) j) = (S j || inR rs j)) ∧ ButG g w wr) (fun iv _ => rs.length - (intOf iv).toNat)
  case atStart => exact ⟨0, S, rfl, by omega, hS, Lib.hid (fun j _ => rfl), ButG.refl _ _⟩
  case round =>
    obtain ⟨k, S1, rfl, hk, hs1, hx, hb⟩ := hrel
    clear hS
    by_cases hlt : 2 * k < rs.length
    · have hlt2 : 2 * k + 1 < rs.length := by omega
      have d1 : decide (((2 * k : Nat) : Int) < (rs.length : Int)) = true := decide_eq_true (by omega)
      have d1' : decide (2 * k < rs.length) = true := decide_eq_true hlt
      have hdr : rs.drop (2 * k) = rs[2 * k] :: rs[2 * k + 1] :: rs.drop (2 * (k + 1)) := by
        rw [List.drop_eq_getElem_cons hlt, List.drop_eq_getElem_cons hlt2, show 2 * (k + 1) = 2 * k + 1 + 1 from by omega]
      have hx2 := hx.out
      rw [hdr] at hx2
      have Hx2 := Lib.hid hx2
      clear hx hx2 hdr
      have ha : ((⟨rs.toArray⟩ : ByteArray)[2 * k]'hlt).toNat < 256 := UInt8.toNat_lt _
      have hb2 : ((⟨rs.toArray⟩ : ByteArray)[2 * k + 1]'hlt2).toNat < 256 := UInt8.toNat_lt _
      change Hid (∀ j, j < 256 → (S1 j || inR ((⟨rs.toArray⟩ : ByteArray)[2 * k]'hlt :: (⟨rs.toArray⟩ : ByteArray)[2 * k + 1]'hlt2 :: rs.drop (2 * (k + 1))) j) = (S j || inR rs j)) at Hx2
      have Hx3 : Hid (∀ j, j < 256 → (S1 j || (decide (((⟨rs.toArray⟩ : ByteArray)[2 * k]'hlt).toNat ≤ j) && decide (j ≤ ((⟨rs.toArray⟩ : ByteArray)[2 * k + 1]'hlt2).toNat)) || inR (rs.drop (2 * (k + 1))) j) = (S j || inR rs j)) := Lib.hid (fun j hj => by rw [← Hx2.out j hj, inR, Bool.or_assoc])
      clear Hx2
      obtain ⟨pn, hpn⟩ : ∃ pn, ((⟨rs.toArray⟩ : ByteArray)[2 * k]'hlt).toNat = pn := ⟨_, rfl⟩
      obtain ⟨qn, hqn⟩ : ∃ qn, ((⟨rs.toArray⟩ : ByteArray)[2 * k + 1]'hlt2).toNat = qn := ⟨_, rfl⟩
      rw [hpn] at ha
      rw [hqn] at hb2
      have Hx4 : Hid (∀ j, j < 256 → (S1 j || (decide (pn ≤ j) && decide (j ≤ qn)) || inR (rs.drop (2 * (k + 1))) j) = (S j || inR rs j)) := Lib.hid (by have := Hx3.out; rw [hpn, hqn] at this; exact this)
      clear Hx3
      go_wp2_with fail
      obtain ⟨wo, rfl⟩ : ∃ wo, wr = wo := ⟨_, rfl⟩
      go_loopw [5] (fun iv wq => ∃ (i : Nat) (S2 : Nat → Bool), iv = .int .i64 i ∧ pn ≤ i ∧ i ≤ 256 ∧ (i ≤ qn + 1 ∨ i = pn) ∧ SetAt wq g S2 ∧ Hid (∀ j, j < 256 → S2 j = (S1 j || (decide (pn ≤ j) && decide (j < i)))) ∧ ButG g wr wq) (fun iv _ => 256 - (intOf iv).toNat)
      case atStart =>
        refine ⟨pn, S1, ?_, by omega, by omega, .inr rfl, hs1, Lib.hid (fun j hj => ?_), ButG.refl _ _⟩
        · first | rfl | (rw [IntWalk.wrap64_in _ (by omega)]) | go_num
        · have : (decide (pn ≤ j) && decide (j < pn)) = false := by
            rw [Bool.eq_false_iff]; intro h; simp at h; omega
          rw [this, Bool.or_false]
      case round =>
        obtain ⟨i, S2, rfl, hi1, hi2, hi3, hs2, hy, hbq⟩ := hrel
        have hx20 := hqn
        by_cases hle : i ≤ qn
        · have e1 : decide ((i : Int) ≤ (qn : Int)) = true := decide_eq_true (by omega)
          have e1' : decide (i ≤ qn) = true := decide_eq_true hle
          obtain ⟨cx, fx⟩ := hs2.2 i (by omega)
          have hset := setAt_set hs2 (show i < 256 by omega)
          have hlti : (i : Int) < 256 := by omega
          have Hset := Lib.hid hset
          clear hset
          go_wp2_with fail
          go_roundw
          case rel => exact ⟨i + 1, _, by go_num, by omega, by omega, .inl (by omega), Hset.out, Lib.hid (fun j hj => by rw [hy.out j hj]; exact rng_step _ _ _ _ hi1), hbq.trans (ButG.set g i _ _)⟩
          case measure => simp [intOf]; omega
        · have e1 : decide ((i : Int) ≤ (qn : Int)) = false := decide_eq_false (by omega)
          have e1' : decide (i ≤ qn) = false := decide_eq_false hle
          have Hz : Hid (∀ j, j < 256 → (S2 j || inR (rs.drop (2 * (k + 1))) j) = (S j || inR rs j)) := Lib.hid (fun j hj => by rw [hy.out j hj, rng_end _ _ _ qn _ (by omega) hi3]; exact Hx4.out j hj)
          have hbz := hb.trans hbq
          clear hy Hx4 hbq
          go_wp2_with fail
          go_roundw
          case rel => exact ⟨k + 1, S2, by go_num, by omega, hs2, Hz, hbz⟩
          case measure => simp [intOf]; omega
    · have hke : 2 * k = rs.length := by omega
      have d1 : decide (((2 * k : Nat) : Int) < (rs.length : Int)) = false := decide_eq_false (by omega)
      have d1' : decide (2 * k < rs.length) = false := decide_eq_false hlt
      have hfin : SetAt wr g (fun j => S j || inR rs j) := setAt_ext hs1 (fun j hj => by
        have := hx.out j hj
        rw [hke, List.drop_length] at this
        rw [← this]
        simp [inR])
      clear hx hke
      go_wp2_with fail
      refine bodyPost_end (results_none rfl _ _ _) rfl ?_
      exact ⟨rfl, hfin, hb⟩
end Go.Proofs.YteppndkhmbhnkaaDoor
