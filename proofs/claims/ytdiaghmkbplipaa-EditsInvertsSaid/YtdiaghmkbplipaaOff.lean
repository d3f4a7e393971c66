/- The contract of edits.Offset. -/
import Derived.Test.YtdiaghmkbplipaaLines
namespace Go.Proofs.Ytdiaghmkbplipaa
open Go.RowKit

/-- Offset's two numbers: the rest of the lines, how many lines came before. -/
def offL (line col : Int) : List (Nat × Nat) → Nat → Int × Int
  | [], _ => (0, 2)
  | (a, b) :: r, c => if (c : Int) + 1 = line then (if 1 ≤ col ∧ col ≤ (b : Int) - a + 1 then ((a : Int) + col - 1, 0) else (0, 2)) else offL line col r (c + 1)

theorem offL_none (line col : Int) : ∀ (l : List (Nat × Nat)) (c : Nat), line ≤ c → offL line col l c = (0, 2)
  | [], _, _ => rfl
  | (a, b) :: r, c, h => by
    unfold offL
    rw [if_neg (by omega)]
    exact offL_none line col r (c + 1) (by omega)

structure OffCells (W : World) (g : Nat) (c line col at_ en : Int) : Prop where
  c0 : W.heap[g]? = some (.cells #[.int .i64 line] 3 (0, 0))
  c1 : W.heap[g + 1]? = some (.cells #[.int .i64 col] 3 (0, 0))
  c2 : W.heap[g + 2]? = some (.cells #[.int .i64 c] 3 (0, 0))
  c3 : W.heap[g + 3]? = some (.cells #[.int .i64 at_] 3 (0, 0))
  c4 : W.heap[g + 4]? = some (.cells #[.int .i64 en] 25 (0, 0))

set_option maxHeartbeats 1000000 in
theorem off1_c (a b : Nat) (g c : Nat) (line col : Int) (w : World) (hab : a ≤ b) (hb : b ≤ 17000) (hc : c ≤ 20000) (h1 : -9223372036854775808 ≤ line) (h2 : line ≤ 9223372036854775807) (h3 : -9223372036854775808 ≤ col) (h4 : col ≤ 9223372036854775807) (hw : OffCells w g c line col 0 2) :
    Calls Try.prog 26 #[.int .i64 a, .int .i64 b, .pointer (some ⟨g + 2, 0, none⟩), .pointer (some ⟨g, 0, none⟩), .pointer (some ⟨g + 1, 0, none⟩), .pointer (some ⟨g + 3, 0, none⟩), .pointer (some ⟨g + 4, 0, none⟩)] w
      fun e w' => e = .returned (.bool (decide ((c : Int) + 1 < line))) ∧ Below g w w' ∧
        OffCells w' g (c + 1 : Nat) line col (if (c : Int) + 1 = line ∧ 1 ≤ col ∧ col ≤ (b : Int) - a + 1 then (a : Int) + col - 1 else 0) (if (c : Int) + 1 = line ∧ 1 ≤ col ∧ col ≤ (b : Int) - a + 1 then 0 else 2) := by
  have d0 := cell_of_one hw.c0; have d1 := cell_of_one hw.c1; have d2 := cell_of_one hw.c2; have d3 := cell_of_one hw.c3; have d4 := cell_of_one hw.c4
  have f2 := free_of_one hw.c2; have f3 := free_of_one hw.c3; have f4 := free_of_one hw.c4
  have hst : ∀ v, OffCells (w.setCell ⟨g + 2, 0, none⟩ (.int .i64 v)) g v line col 0 2 := fun v => ⟨by rw [Below.heap_setCell _ _ _ _ (by simp)]; exact hw.c0, by rw [Below.heap_setCell _ _ _ _ (by simp)]; exact hw.c1, one_setCell hw.c2, by rw [Below.heap_setCell _ _ _ _ (by simp)]; exact hw.c3, by rw [Below.heap_setCell _ _ _ _ (by simp)]; exact hw.c4⟩
  have hst2 : ∀ v x, OffCells (((w.setCell ⟨g + 2, 0, none⟩ (.int .i64 v)).setCell ⟨g + 3, 0, none⟩ (.int .i64 x)).setCell ⟨g + 4, 0, none⟩ (.int .i64 0)) g v line col x 0 := fun v x => by
    have k := hst v
    refine ⟨?_, ?_, ?_, ?_, one_setCell (v := .int .i64 2) ?_⟩
    · rw [Below.heap_setCell _ _ _ _ (by simp), Below.heap_setCell _ _ _ _ (by simp)]; exact k.c0
    · rw [Below.heap_setCell _ _ _ _ (by simp), Below.heap_setCell _ _ _ _ (by simp)]; exact k.c1
    · rw [Below.heap_setCell _ _ _ _ (by simp), Below.heap_setCell _ _ _ _ (by simp)]; exact k.c2
    · rw [Below.heap_setCell _ _ _ _ (by simp)]; exact one_setCell k.c3
    · rw [Below.heap_setCell _ _ _ _ (by simp)]; exact k.c4
  have hb1 : ∀ v, Below g w (w.setCell ⟨g + 2, 0, none⟩ v) := fun v => (Below.refl g w).setCell (p := ⟨g + 2, 0, none⟩) (by simp) _
  have hb2 : ∀ v x y, Below g w (((w.setCell ⟨g + 2, 0, none⟩ v).setCell ⟨g + 3, 0, none⟩ x).setCell ⟨g + 4, 0, none⟩ y) := fun v x y => ((hb1 v).setCell (p := ⟨g + 3, 0, none⟩) (by simp) _).setCell (p := ⟨g + 4, 0, none⟩) (by simp) _
  have Hst := Lib.hid hst; have Hst2 := Lib.hid hst2; have Hb1 := Lib.hid hb1; have Hb2 := Lib.hid hb2
  clear hst hst2 hb1 hb2 hw
  by_cases q1 : (c : Int) + 1 = line
  · subst q1
    have t1 : ((c : Int) + 1 == (c : Int) + 1) = true := by simp
    by_cases q2 : 1 ≤ col
    · by_cases q3 : col ≤ (b : Int) - a + 1
      · rw [if_pos ⟨rfl, q2, q3⟩, if_pos ⟨rfl, q2, q3⟩]
        go_enter Try.func26, Try.ntmps26
        go_wp2
        go_ret
        exact ⟨by simp, Hb2.out _ _ _, by simpa using Hst2.out _ _⟩
      · rw [if_neg (by omega), if_neg (by omega)]
        go_enter Try.func26, Try.ntmps26
        go_wp2
        go_ret
        exact ⟨by simp, Hb1.out _, by simpa using Hst.out _⟩
    · rw [if_neg (by omega), if_neg (by omega)]
      go_enter Try.func26, Try.ntmps26
      go_wp2
      go_ret
      exact ⟨by simp, Hb1.out _, by simpa using Hst.out _⟩
  · rw [if_neg (by omega), if_neg (by omega)]
    have t1 : ((c : Int) + 1 == line) = false := by simp; omega
    have Hq := Lib.hid q1
    clear q1
    go_enter Try.func26, Try.ntmps26
    go_wp2
    go_ret
    exact ⟨by simp, Hb1.out _, by simpa using Hst.out _⟩

/-- What Offset's function keeps from line to line. -/
def OffR (w : World) (line col : Int) (res : Int × Int) (rest : List (Nat × Nat)) (W : World) : Prop :=
  ∃ c : Nat, OffCells W w.heap.size c line col 0 2 ∧ offL line col rest c = res ∧ c + rest.length ≤ 20000 ∧ (∀ x ∈ rest, x.1 ≤ x.2 ∧ x.2 ≤ 17000) ∧ Below w.heap.size w W

def OffD (w : World) (res : Int × Int) (W : World) : Prop :=
  W.cell? ⟨w.heap.size + 3, 0, none⟩ = some (.int .i64 res.1) ∧ W.cell? ⟨w.heap.size + 4, 0, none⟩ = some (.int .i64 res.2) ∧ Below w.heap.size w W

theorem offCells_new (w : World) (line col : Int) : OffCells (((((w.alloc (.cells #[.int .i64 line] 3)).alloc (.cells #[.int .i64 col] 3)).alloc (.cells #[.int .i64 0] 3)).alloc (.cells #[.int .i64 0] 3)).alloc (.cells #[.int .i64 2] 25)) w.heap.size 0 line col 0 2 := by
  refine ⟨?_, ?_, ?_, ?_, ?_⟩
  · rw [Lib.alloc_old _ _ _ (by simp <;> omega), Lib.alloc_old _ _ _ (by simp <;> omega), Lib.alloc_old _ _ _ (by simp <;> omega), Lib.alloc_old _ _ _ (by simp)]
    exact heap_alloc_new w _
  · rw [Lib.alloc_old _ _ _ (by simp <;> omega), Lib.alloc_old _ _ _ (by simp <;> omega), Lib.alloc_old _ _ _ (by simp)]
    have := heap_alloc_new (w.alloc (.cells #[.int .i64 line] 3)) (.cells #[.int .i64 col] 3)
    simpa using this
  · rw [Lib.alloc_old _ _ _ (by simp <;> omega), Lib.alloc_old _ _ _ (by simp)]
    have := heap_alloc_new ((w.alloc (.cells #[.int .i64 line] 3)).alloc (.cells #[.int .i64 col] 3)) (.cells #[.int .i64 0] 3)
    simpa using this
  · rw [Lib.alloc_old _ _ _ (by simp)]
    have := heap_alloc_new (((w.alloc (.cells #[.int .i64 line] 3)).alloc (.cells #[.int .i64 col] 3)).alloc (.cells #[.int .i64 0] 3)) (.cells #[.int .i64 0] 3)
    simpa using this
  · have := heap_alloc_new ((((w.alloc (.cells #[.int .i64 line] 3)).alloc (.cells #[.int .i64 col] 3)).alloc (.cells #[.int .i64 0] 3)).alloc (.cells #[.int .i64 0] 3)) (.cells #[.int .i64 2] 25)
    simpa using this

/-- Offset's result, as the reference has it: the number and the error's. -/
def offset (s : ByteArray) (line col : Int) : Int × Int := offL line col (spans s.data.toList 0 0) 0

set_option maxHeartbeats 1000000 in
theorem offset_c (s : ByteArray) (line col : Int) (w : World) (hs : s.size ≤ 17000) (h1 : -9223372036854775808 ≤ line) (h2 : line ≤ 9223372036854775807) (h3 : -9223372036854775808 ≤ col) (h4 : col ≤ 9223372036854775807) :
    Calls Try.prog 11 #[.string s, .int .i64 line, .int .i64 col] w fun e w' => e = .returned (.tuple #[.int .i64 (offset s line col).1, .int .i64 (offset s line col).2]) ∧ Below w.heap.size w w' := by
  have he : ∀ args W, (callFunc 26 args).run Try.prog W = .ok (.enter 26 args) W := fun _ _ => by go_simp
  have hsp := spans_length' s.data.toList 0 0
  have hok := spans_ok s.data.toList 0 0 (by omega)
  have hll : s.data.toList.length = s.size := by simp
  rw [hll] at hsp hok
  have key : ∀ W, OffR w line col (offset s line col) (spans s.data.toList 0 0) W →
      Calls Try.prog 24 #[.string s, .func (.func 26) #[] #[.pointer (some ⟨w.heap.size + 2, 0, none⟩), .pointer (some ⟨w.heap.size, 0, none⟩), .pointer (some ⟨w.heap.size + 1, 0, none⟩), .pointer (some ⟨w.heap.size + 3, 0, none⟩), .pointer (some ⟨w.heap.size + 4, 0, none⟩)]] W
        fun e w' => e = .returned (.tuple #[]) ∧ OffD w (offset s line col) w' := by
    intro W hW
    refine each_c _ _ _ (OffR w line col (offset s line col)) _ W hs he ?_ hW
    rintro a b rest W1 ⟨c, k1, k2, k3, k4, k5⟩
    have hab := k4 (a, b) (List.mem_cons_self)
    simp only [List.length_cons] at k3
    refine (off1_c a b w.heap.size c line col W1 hab.1 hab.2 (by omega) h1 h2 h3 h4 k1).mono ?_
    rintro e w' ⟨rfl, m1, m2⟩
    unfold offL at k2
    by_cases q1 : (c : Int) + 1 = line
    · rw [if_pos q1] at k2
      refine ⟨_, rfl, fun hh => by simp at hh; omega, fun _ => ?_⟩
      have e1 := cell_of_one m2.c3
      have e2 := cell_of_one m2.c4
      by_cases q2 : 1 ≤ col ∧ col ≤ (b : Int) - a + 1
      · rw [if_pos q2] at k2
        rw [if_pos ⟨q1, q2⟩] at e1 e2
        rw [← k2]
        exact ⟨e1, e2, k5.trans m1⟩
      · rw [if_neg q2] at k2
        rw [if_neg (fun h => q2 h.2)] at e1 e2
        rw [← k2]
        exact ⟨e1, e2, k5.trans m1⟩
    · rw [if_neg q1] at k2
      rw [if_neg (fun h => q1 h.1), if_neg (fun h => q1 h.1)] at m2
      refine ⟨_, rfl, fun _ => ⟨c + 1, m2, k2, by omega, fun x hx => k4 x (List.mem_cons_of_mem _ hx), k5.trans m1⟩, fun hh => ?_⟩
      have hz : offset s line col = (0, 2) := by
        rcases hh with hh | rfl
        · rw [← k2]
          exact offL_none line col rest (c + 1) (by simp at hh; omega)
        · rw [← k2]; rfl
      rw [hz]
      exact ⟨cell_of_one m2.c3, cell_of_one m2.c4, k5.trans m1⟩
  have hinit : OffR w line col (offset s line col) (spans s.data.toList 0 0) _ := ⟨0, offCells_new w line col, rfl, by omega, fun x hx => by have := hok x hx; omega, ((((((Below.refl _ w).alloc (Nat.le_refl _) _).alloc (by simp) _).alloc (by simp; omega) _).alloc (by simp; omega) _).alloc (by simp; omega) _)⟩
  have H := Lib.hid (key _ hinit)
  clear key hinit hsp hll hok
  go_enter Try.func11, Try.ntmps11
  go_wp2_with fail
  refine H.out.mono ?_
  rintro e w' ⟨rfl, c1, c2, hb⟩
  go_wp2
  go_quiet (fail)
  go_wp2
  go_ret2
  exact ⟨rfl, below_drewN hb _⟩
end Go.Proofs.Ytdiaghmkbplipaa
