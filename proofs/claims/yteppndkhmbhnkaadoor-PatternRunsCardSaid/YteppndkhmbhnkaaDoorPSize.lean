/- pattern: memberSize. -/
import Derived.Test.YteppndkhmbhnkaaDoorPCls
namespace Go.Proofs.YteppndkhmbhnkaaDoor
open Go.RowKit
set_option linter.unusedVariables false

def isAt (cs : List Ch) (k : Nat) (x : UInt8) : Bool := match cs[k]? with | some c => chIs c x | none => false
/-- How many characters the member has that the characters begin with. -/
def msize (cs : List Ch) : Nat := if classI cs < 8 then 9 else if (decide (3 ≤ cs.length) && isAt cs 1 45 && !isAt cs 2 93) = true then 3 else 1
theorem msize_pos (cs : List Ch) : 1 ≤ msize cs := by
  unfold msize
  split
  · omega
  · split <;> omega
theorem msize_le (cs : List Ch) (h : cs ≠ []) : msize cs ≤ cs.length := by
  unfold msize
  split
  · rename_i h1
    have := begs_len (classI_begs h1)
    rw [classT_len _ h1] at this
    exact this
  · split
    · rename_i h2
      simp only [Bool.and_eq_true, decide_eq_true_eq] at h2
      exact h2.1.1
    · exact List.length_pos_iff.2 h

theorem isAt_get {cs : List Ch} {k : Nat} (h : k < cs.length) (x : UInt8) : isAt cs k x = chIs (cs[k]'h) x := by
  unfold isAt
  rw [List.getElem?_eq_getElem h]

/-- The contract of (char).is at a character of a slice, in whatever world behind W. -/
theorem isAt_c {W : World} {A : Option Addr} {cs : List Ch} (hA : ChAt W W.heap.size A cs) (k : Nat) (x : UInt8) (n : Int) (hn : n = x.toNat) (hk : k < cs.length) : ∀ w1, Below W.heap.size W w1 →
    Calls Tryd.prog 84 #[.agg #[.int .u8 (cs[k]'hk).b.toNat, .bool (cs[k]'hk).act], .int .u8 n] w1 fun e w' => e = .returned (.bool (isAt cs k x)) ∧ Below W.heap.size W w' ∧ Below w1.heap.size w1 w' := by
  intro w1 h1
  subst hn
  refine (is_c (cs[k]'hk) x w1).mono ?_
  rintro e w' ⟨rfl, m⟩
  exact ⟨by rw [isAt_get hk], h1.trans (m.mono h1.size), m⟩

set_option maxHeartbeats 8000000 in
set_option maxRecDepth 100000 in
theorem memberSize_c (A : Option Addr) (cs : List Ch) (c : Nat) (w : World) (hA : ChAt w w.heap.size A cs) (hc : cs.length ≤ 1000000) (hE : Env w w.heap.size) :
    Calls Tryd.prog 85 #[.slice A cs.length c] w fun e w' => e = .returned (.int .i64 (msize cs)) ∧ Below w.heap.size w w' := by
  have hcls := Lib.hid (classOf_c A cs c w hA hc hE)
  by_cases h8 : classI cs < 8
  · have hm : msize cs = 9 := by unfold msize; rw [if_pos h8]
    rw [hm]
    have h9 := classT_len _ h8
    have hsz : (⟨(classT (classI cs)).toArray⟩ : ByteArray).size = 9 := h9
    go_enter Tryd.func85, Tryd.ntmps85
    go_wp2_with fail
    refine hcls.out.mono ?_
    rintro e w1 ⟨⟨_, rfl⟩ | ⟨h, _⟩, m1⟩
    · unfold strB
      clear hcls h8 hm h9
      go_wp2_with fail
      go_ret
      exact ⟨rfl, m1.alloc m1.size _⟩
    · omega
  have hcl : ∀ e w1, ClsPost cs w e w1 → e = .returned (.tuple #[.agg #[.string { data := #[] }, .string { data := #[] }], .bool false]) ∧ Below w.heap.size w w1 := by
    rintro e w1 ⟨⟨h, _⟩ | ⟨_, rfl⟩, m1⟩
    · omega
    · exact ⟨rfl, m1⟩
  have Hcl := Lib.hid (hcls.out.mono hcl)
  clear hcl hcls
  by_cases h3 : cs.length < 3
  · have hm : msize cs = 1 := by
      unfold msize
      rw [if_neg h8, if_neg]
      simp only [Bool.and_eq_true, decide_eq_true_eq]
      omega
    rw [hm]
    have t1 : decide ((3 : Int) ≤ (cs.length : Int)) = false := decide_eq_false (by omega)
    clear hm
    go_enter Tryd.func85, Tryd.ntmps85
    go_wp2_with fail
    refine Hcl.out.mono ?_
    rintro e w1 ⟨rfl, m1⟩
    go_wp2_with fail
    go_ret
    exact ⟨rfl, m1.alloc m1.size _⟩
  have t1 : decide ((3 : Int) ≤ (cs.length : Int)) = true := decide_eq_true (by omega)
  have hcl3 : 3 ≤ cs.length := by omega
  obtain ⟨b, off, rfl, hbl, hcell⟩ : ∃ b off, A = some ⟨b, off, none⟩ ∧ b < w.heap.size ∧ ∀ k (h : k < cs.length), w.cell? ⟨b, off + k * 2, none⟩ = some (.int .u8 (cs[k]'h).b.toNat) ∧ w.cell? ⟨b, off + k * 2 + 1, none⟩ = some (.bool (cs[k]'h).act) := by
    rcases hA with rfl | h
    · simp at hcl3
    · exact h
  have i1 := Lib.hid (isAt_c hA 1 45 45 rfl (by omega))
  have i2 := Lib.hid (isAt_c hA 2 93 93 rfl (by omega))
  have x1 := hcell 1 (by omega)
  have x2 := hcell 2 (by omega)
  have hm : msize cs = if (isAt cs 1 45 && !isAt cs 2 93) = true then 3 else 1 := by
    unfold msize
    rw [if_neg h8]
    simp [hcl3]
  rw [hm]
  clear hm hcell hA h8
  generalize cs[1]'(by omega) = k1 at *
  generalize cs[2]'(by omega) = k2 at *
  generalize isAt cs 1 45 = Q1 at *
  generalize isAt cs 2 93 = Q2 at *
  obtain ⟨x1a, x1b⟩ := x1
  obtain ⟨x2a, x2b⟩ := x2
  change w.cell? ⟨b, off + 2, none⟩ = _ at x1a
  change w.cell? ⟨b, off + 3, none⟩ = _ at x1b
  change w.cell? ⟨b, off + 4, none⟩ = _ at x2a
  change w.cell? ⟨b, off + 5, none⟩ = _ at x2b
  have hcs : (1 : Int) < (cs.length : Int) := by omega
  have hcs2 : (2 : Int) < (cs.length : Int) := by omega
  go_enter Tryd.func85, Tryd.ntmps85
  go_wp2_with fail
  refine Hcl.out.mono ?_
  rintro e w1 ⟨rfl, m1⟩
  have m2 := m1.alloc m1.size (.cells #[.string { data := #[] }, .string { data := #[] }] 123)
  have y1 := (m2.cell (p := ⟨b, off + 2, none⟩) hbl).trans x1a
  have y2 := (m2.cell (p := ⟨b, off + 3, none⟩) hbl).trans x1b
  go_wp2_with fail
  with_reducible refine (i1.out _ m2).mono ?_
  rintro e w3 ⟨rfl, m3, _⟩
  clear i1 y1 y2
  rcases Q1 with _ | _
  · go_wp2_with fail
    go_ret
    exact ⟨rfl, m3⟩
  have y3 := (m3.cell (p := ⟨b, off + 4, none⟩) hbl).trans x2a
  have y4 := (m3.cell (p := ⟨b, off + 5, none⟩) hbl).trans x2b
  go_wp2_with fail
  with_reducible refine (i2.out _ m3).mono ?_
  rintro e w4 ⟨rfl, m4, _⟩
  clear i2 y3 y4
  rcases Q2 with _ | _
  · go_wp2_with fail
    go_ret
    exact ⟨rfl, m4⟩
  · go_wp2_with fail
    go_ret
    exact ⟨rfl, m4⟩
end Go.Proofs.YteppndkhmbhnkaaDoor
