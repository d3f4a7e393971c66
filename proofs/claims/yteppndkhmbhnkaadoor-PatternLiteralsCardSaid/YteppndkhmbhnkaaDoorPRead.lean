/- pattern: patterns in memory; isSpecial, isMinimal, isInvalid, contains, accepts. -/
import Derived.Test.YteppndkhmbhnkaaDoorPComp
namespace Go.Proofs.YteppndkhmbhnkaaDoor
open Go.RowKit
set_option linter.unusedVariables false

/-- The spans that a slice shows, in blocks below B. -/
def SpAt (w : World) (B : Nat) (v : Value) (l : List (Nat × Nat)) : Prop :=
  ∃ A c, v = .slice A l.length c ∧ (l = [] ∨ ∃ b off, A = some ⟨b, off, none⟩ ∧ b < B ∧ ∀ k (h : k < l.length), w.cell? ⟨b, off + k * 2, none⟩ = some (.int .u8 ((l[k]'h).1 : Nat)) ∧ w.cell? ⟨b, off + k * 2 + 1, none⟩ = some (.int .u8 ((l[k]'h).2 : Nat)))
theorem spAt_below {w w' : World} {B B' : Nat} {v : Value} {l : List (Nat × Nat)} (h : SpAt w B v l) (hb : Below B' w w') (hB : B ≤ B') : SpAt w' B v l := by
  obtain ⟨A, c, rfl, h⟩ := h
  refine ⟨A, c, rfl, ?_⟩
  rcases h with rfl | ⟨b, off, rfl, hlt, hc⟩
  · exact .inl rfl
  · exact .inr ⟨b, off, rfl, hlt, fun k hk => ⟨(hb.cell (p := ⟨b, off + k * 2, none⟩) (by show b < B'; omega)).trans (hc k hk).1, (hb.cell (p := ⟨b, off + k * 2 + 1, none⟩) (by show b < B'; omega)).trans (hc k hk).2⟩⟩
theorem spAt_mono {w : World} {B B' : Nat} {v : Value} {l : List (Nat × Nat)} (h : SpAt w B v l) (hB : B ≤ B') : SpAt w B' v l := by
  obtain ⟨A, c, rfl, h⟩ := h
  refine ⟨A, c, rfl, ?_⟩
  rcases h with rfl | ⟨b, off, rfl, hlt, hc⟩
  · exact .inl rfl
  · exact .inr ⟨b, off, rfl, by omega, hc⟩
/-- Are all bounds bytes? -/
def SpOk (l : List (Nat × Nat)) : Prop := l.length ≤ 1000000 ∧ ∀ p ∈ l, p.1 < 256 ∧ p.2 < 256
def ItOk (x : It) : Prop := SpOk x.set ∧ x.t.length ≤ 1000000
def PatAt (w : World) (B : Nat) (A : Option Addr) (is : List It) : Prop :=
  is = [] ∨ ∃ b off, A = some ⟨b, off, none⟩ ∧ b < B ∧ ∀ k (h : k < is.length), ∃ sv, w.cell? ⟨b, off + k * 4, none⟩ = some (.int .i64 (is[k]'h).k) ∧ w.cell? ⟨b, off + k * 4 + 1, none⟩ = some (.string ⟨(is[k]'h).t.toArray⟩) ∧ w.cell? ⟨b, off + k * 4 + 2, none⟩ = some (.bool (is[k]'h).neg) ∧ w.cell? ⟨b, off + k * 4 + 3, none⟩ = some sv ∧ SpAt w B sv (is[k]'h).set
theorem patAt_below {w w' : World} {B B' : Nat} {A : Option Addr} {is : List It} (h : PatAt w B A is) (hb : Below B' w w') (hB : B ≤ B') : PatAt w' B A is := by
  rcases h with rfl | ⟨b, off, rfl, hlt, hc⟩
  · exact .inl rfl
  · refine .inr ⟨b, off, rfl, hlt, fun k hk => ?_⟩
    obtain ⟨sv, h0, h1, h2, h3, h4⟩ := hc k hk
    have hl : b < B' := by omega
    exact ⟨sv, (hb.cell (p := ⟨b, off + k * 4, none⟩) hl).trans h0, (hb.cell (p := ⟨b, off + k * 4 + 1, none⟩) hl).trans h1, (hb.cell (p := ⟨b, off + k * 4 + 2, none⟩) hl).trans h2, (hb.cell (p := ⟨b, off + k * 4 + 3, none⟩) hl).trans h3, spAt_below h4 hb hB⟩
theorem patAt_mono {w : World} {B B' : Nat} {A : Option Addr} {is : List It} (h : PatAt w B A is) (hB : B ≤ B') : PatAt w B' A is := by
  rcases h with rfl | ⟨b, off, rfl, hlt, hc⟩
  · exact .inl rfl
  · refine .inr ⟨b, off, rfl, by omega, fun k hk => ?_⟩
    obtain ⟨sv, h0, h1, h2, h3, h4⟩ := hc k hk
    exact ⟨sv, h0, h1, h2, h3, spAt_mono h4 hB⟩
theorem spCells_get : ∀ (l : List (Nat × Nat)) (k : Nat) (h : k < l.length), (spCells l)[k * 2]? = some (.int .u8 ((l[k]'h).1 : Nat)) ∧ (spCells l)[k * 2 + 1]? = some (.int .u8 ((l[k]'h).2 : Nat))
  | [], k, h => by simp at h
  | c :: l, 0, h => ⟨rfl, rfl⟩
  | c :: l, k + 1, h => by
    have ih := spCells_get l k (by simpa using h)
    have e : spCells (c :: l) = .int .u8 (c.1 : Nat) :: .int .u8 (c.2 : Nat) :: spCells l := rfl
    rw [e, show (k + 1) * 2 = k * 2 + 1 + 1 from by omega, show k * 2 + 1 + 1 + 1 = (k * 2 + 1) + 1 + 1 from rfl]
    simp only [List.getElem?_cons_succ, List.getElem_cons_succ]
    exact ih
theorem ownSp_at {w : World} {B : Nat} {v : Value} {l : List (Nat × Nat)} (h : OwnSp w B v l) : SpAt w w.heap.size v l := by
  have h' := h
  rcases h.2 with ⟨rfl, h0⟩ | ⟨g, cap, cur, rfl, hg, hh, h2, h3, h4, h5⟩
  · exact ⟨none, 0, by rw [h0], .inl (List.length_eq_zero_iff.1 h0)⟩
  · refine ⟨_, cap, rfl, .inr ⟨g, 0, rfl, lt_of_block hh, fun k hk => ?_⟩⟩
    rw [Nat.zero_add]
    have e1 := World.ownsRow.cellAt h' (k * 2) (by omega)
    have e2 := World.ownsRow.cellAt h' (k * 2 + 1) (by omega)
    rw [e1, e2]
    exact spCells_get l k hk
theorem ownIt_at {w : World} {B : Nat} {v : Value} {is : List It} (h : OwnIt w B v is) : ∃ A c, v = .slice A is.length c ∧ PatAt w w.heap.size A is ∧ is.length ≤ c ∧ c ≤ maxLen := by
  obtain ⟨vs, hv, hrow, hs⟩ := h
  have h' := hrow
  rcases hrow.2 with ⟨rfl, h0⟩ | ⟨g, cap, cur, rfl, hg, hh, h2, h3, h4, h5⟩
  · exact ⟨none, 0, by rw [h0], .inl (List.length_eq_zero_iff.1 h0), by omega, by unfold maxLen; omega⟩
  · refine ⟨_, cap, rfl, .inr ⟨g, 0, rfl, lt_of_block hh, fun k hk => ?_⟩, h2, h3⟩
    have hk' : k < vs.length := by omega
    obtain ⟨q0, q1, q2, q3⟩ := itCells_get is vs k hk hk'
    simp only [Nat.zero_add]
    refine ⟨vs[k]'hk', ?_, ?_, ?_, ?_, ownSp_at (hs k hk hk')⟩
    · rw [World.ownsRow.cellAt h' (k * 4) (by omega)]; exact q0
    · rw [World.ownsRow.cellAt h' (k * 4 + 1) (by omega)]; exact q1
    · rw [World.ownsRow.cellAt h' (k * 4 + 2) (by omega)]; exact q2
    · rw [World.ownsRow.cellAt h' (k * 4 + 3) (by omega)]; exact q3

def itV (x : It) (sv : Value) : Value := .agg #[.int .i64 x.k, .string ⟨x.t.toArray⟩, .bool x.neg, sv]
def spec (x : It) : Bool := !(x.k == 1)
theorem isSpecial_c (x : It) (sv : Value) (w : World) (hs : SpAt w w.heap.size sv x.set) (ho : ItOk x) :
    Calls Tryd.prog 65 #[.agg #[.int .i64 x.k, .string ⟨x.t.toArray⟩, .bool x.neg, sv]] w fun e w' => e = .returned (.bool (spec x)) ∧ Below w.heap.size w w' := by
  obtain ⟨A, c, rfl, _⟩ := hs
  unfold spec
  have t : (x.k != 1) = !(x.k == 1) := rfl
  go_enter Tryd.func65, Tryd.ntmps65
  go_wp2_with fail
  go_ret
  exact ⟨rfl, (Below.refl _ _).alloc (Nat.le_refl _) _⟩

/-- Are the spans ascending, none touching the next, from m on? -/
def minL : Nat → List (Nat × Nat) → Bool
  | _, [] => true
  | m, (a, b) :: r => !(decide (a < m)) && !(decide (b < a)) && minL (b + 2) r
set_option maxHeartbeats 4000000 in
set_option maxRecDepth 100000 in
theorem isMinimal_c (sv : Value) (l : List (Nat × Nat)) (w : World) (hs : SpAt w w.heap.size sv l) (ho : SpOk l) :
    Calls Tryd.prog 118 #[sv] w fun e w' => e = .returned (.bool (minL 0 l)) ∧ Below w.heap.size w w' := by
  obtain ⟨A, c, rfl, hs⟩ := hs
  have hln := ho.1
  have HR : Hid (minL 0 l = minL 0 (l.drop 0)) := Lib.hid rfl
  generalize minL 0 l = R at *
  go_enter Tryd.func118, Tryd.ntmps118
  go_wp2_with fail
  go_loopw [3, 8] (fun mv iv wr => ∃ (k m : Nat), iv = .int .i64 k ∧ mv = .int .i64 m ∧ k ≤ l.length ∧ m ≤ 1000 ∧ Below w.heap.size w wr ∧ Hid (R = minL m (l.drop k))) (fun _ iv _ => l.length - (intOf iv).toNat)
  case atStart => exact ⟨0, 0, rfl, rfl, by omega, by omega, Below.refl _ _, HR⟩
  case round =>
    obtain ⟨k, m, rfl, rfl, hk, hm, hb, hx⟩ := hrel
    clear HR
    by_cases hlt : k < l.length
    · have d1 : decide ((k : Int) < (l.length : Int)) = true := decide_eq_true (by omega)
      have d1' : decide (k < l.length) = true := decide_eq_true hlt
      obtain ⟨b, off, rfl, hbl, hcell⟩ : ∃ b off, A = some ⟨b, off, none⟩ ∧ b < w.heap.size ∧ ∀ k (h : k < l.length), w.cell? ⟨b, off + k * 2, none⟩ = some (.int .u8 ((l[k]'h).1 : Nat)) ∧ w.cell? ⟨b, off + k * 2 + 1, none⟩ = some (.int .u8 ((l[k]'h).2 : Nat)) := by
        rcases hs with rfl | h
        · simp at hlt
        · exact h
      have x0 := (hb.cell (p := ⟨b, off + k * 2, none⟩) hbl).trans (hcell k hlt).1
      have x1 := (hb.cell (p := ⟨b, off + k * 2 + 1, none⟩) hbl).trans (hcell k hlt).2
      have hok := ho.2 (l[k]'hlt) (List.getElem_mem hlt)
      have hx2 := hx.out
      rw [List.drop_eq_getElem_cons hlt] at hx2
      generalize l[k]'hlt = q at *
      obtain ⟨a, e⟩ := q
      simp only [minL] at hok hx2 x0 x1
      have Hx2 := Lib.hid hx2
      have hkI : (k : Int) < (l.length : Int) := by omega
      have hwsz := hb.size
      have hba : ∀ o, Below w.heap.size w (wr.alloc o) := fun o => hb.alloc hwsz o
      have Hba := Lib.hid hba
      have hwa : IntKind.i64.wrap (a : Int) = (a : Int) := IntWalk.i64_in _ (by omega)
      have hwe : IntKind.i64.wrap (e : Int) = (e : Int) := IntWalk.i64_in _ (by omega)
      clear hx hx2 hcell hba
      by_cases hbad : a < m ∨ e < a
      · have hR : R = false := by
          rw [Hx2.out]
          rcases hbad with h | h
          · simp [h]
          · simp [h]
        subst hR
        have t1 : (decide ((a : Int) < (m : Int)) = true ∧ decide (a < m) = true) ∨ ((decide ((a : Int) < (m : Int)) = false ∧ decide (a < m) = false) ∧ decide ((e : Int) < (a : Int)) = true ∧ decide (e < a) = true) := by
          by_cases h : a < m
          · exact .inl ⟨decide_eq_true (by omega), decide_eq_true h⟩
          · exact .inr ⟨⟨decide_eq_false (by omega), decide_eq_false h⟩, decide_eq_true (by omega), decide_eq_true (by omega)⟩
        clear hbad Hx2
        rcases t1 with ⟨t1, t1'⟩ | ⟨⟨t1, t1'⟩, t2, t2'⟩
        all_goals
          go_wp2_with fail
          go_ret
          exact ⟨rfl, Hba.out _⟩
      · have hR : Hid (R = minL (e + 2) (l.drop (k + 1))) := Lib.hid (by
          rw [Hx2.out]
          have h1 : ¬ a < m := fun h => hbad (.inl h)
          have h2 : ¬ e < a := fun h => hbad (.inr h)
          simp [h1, h2])
        have t1 : decide ((a : Int) < (m : Int)) = false := decide_eq_false (by omega)
        have t1' : decide (a < m) = false := decide_eq_false (by omega)
        have t2 : decide ((e : Int) < (a : Int)) = false := decide_eq_false (by omega)
        have t2' : decide (e < a) = false := decide_eq_false (by omega)
        clear hbad Hx2
        go_wp2_with fail
        go_roundw
        case rel => exact ⟨k + 1, e + 2, by go_num, by go_num, by omega, by omega, Hba.out _, hR⟩
        case measure => simp [intOf]; omega
    · have hke : k = l.length := by omega
      have d1 : decide ((k : Int) < (l.length : Int)) = false := decide_eq_false (by omega)
      have d1' : decide (k < l.length) = false := decide_eq_false hlt
      have hR : R = true := by rw [hx.out, hke, List.drop_length]; rfl
      subst hR
      clear hx hke
      go_wp2_with fail
      go_ret
      exact ⟨rfl, hb⟩

/-- Is an item not valid? -/
def inv (x : It) : Bool :=
  if x.k = 1 then !(x.t.length == 1) || x.neg || decide (0 < x.set.length) else
  if x.k = 2 ∨ x.k = 3 then !(x.t.length == 0) || x.neg || decide (0 < x.set.length) else
  if x.k = 4 then !(x.t.length == 0) || !(minL 0 x.set) else true
end Go.Proofs.YteppndkhmbhnkaaDoor
