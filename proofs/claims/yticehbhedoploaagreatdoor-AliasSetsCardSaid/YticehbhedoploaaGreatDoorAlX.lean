/- alias: which tokens put the next one in command position. -/
import Derived.Test.YticehbhedoploaaGreatDoorLxKo
import Derived.Test.YticehbhedoploaaGreatDoorAlE
import Derived.Test.YticehbhedoploaaGreatDoorAlV
namespace Go.Proofs.YticehbhedoploaaGreatDoor
open Go.RowKit
set_option linter.unusedVariables false

def sepL : List (List UInt8) := [[10], [59], [38], [38, 38], [124, 124], [124], [40]]
def sepB (s : ByteArray) : Bool := sepL.contains s.data.toList
def intL : List (List UInt8) := [[33], [123], [100, 111], [101, 108, 105, 102], [101, 108, 115, 101], [105, 102], [116, 104, 101, 110], [117, 110, 116, 105, 108], [119, 104, 105, 108, 101]]
def intB (s : ByteArray) : Bool := intL.contains s.data.toList
set_option maxHeartbeats 2000000 in
set_option maxRecDepth 100000 in
theorem separates_c (t : Tk) (w : World) : Calls Tryz.prog 113 #[t.val] w fun e w' => e = .returned (.bool (sepB t.text)) ∧ Below w.heap.size w w' := by
  show Calls Tryz.prog 113 #[.agg #[.int .i64 t.kind, .int .i64 t.pos, .int .i64 t.fin, .string t.text]] w _
  have hb := (Below.refl _ w).alloc (Nat.le_refl _) (.cells #[.int .i64 t.kind, .int .i64 t.pos, .int .i64 t.fin, .string t.text] 118)
  obtain ⟨k, p, f, s⟩ := t
  show Calls Tryz.prog 113 #[.agg #[.int .i64 k, .int .i64 p, .int .i64 f, .string s]] w fun e w' => e = .returned (.bool (sepB s)) ∧ Below w.heap.size w w'
  simp only at hb
  unfold sepB
  rw [← ByteArray.toList_eq]
  rcases hr : sepL.contains s.toList with _ | _
  · unfold sepL at hr
    simp only [List.contains_cons, List.contains_nil, Bool.or_eq_false_iff, Bool.or_false] at hr
    obtain ⟨t0, t1, t2, t3, t4, t5, t6⟩ := hr
    go_enter Tryz.func113, Tryz.ntmps113
    go_wp2_with fail
    go_ret
    exact ⟨rfl, hb⟩
  · unfold sepL at hr
    rw [List.contains_iff_mem] at hr
    simp only [List.mem_cons, List.not_mem_nil, or_false] at hr
    rcases hr with h | h | h | h | h | h | h
    · have t0 : (s.toList == [10]) = true := by rw [h]; rfl
      clear h
      go_enter Tryz.func113, Tryz.ntmps113
      go_wp2_with fail
      go_ret
      exact ⟨rfl, hb⟩
    · have t0 : (s.toList == [10]) = false := by rw [h]; rfl
      have t1 : (s.toList == [59]) = true := by rw [h]; rfl
      clear h
      go_enter Tryz.func113, Tryz.ntmps113
      go_wp2_with fail
      go_ret
      exact ⟨rfl, hb⟩
    · have t0 : (s.toList == [10]) = false := by rw [h]; rfl
      have t1 : (s.toList == [59]) = false := by rw [h]; rfl
      have t2 : (s.toList == [38]) = true := by rw [h]; rfl
      clear h
      go_enter Tryz.func113, Tryz.ntmps113
      go_wp2_with fail
      go_ret
      exact ⟨rfl, hb⟩
    · have t0 : (s.toList == [10]) = false := by rw [h]; rfl
      have t1 : (s.toList == [59]) = false := by rw [h]; rfl
      have t2 : (s.toList == [38]) = false := by rw [h]; rfl
      have t3 : (s.toList == [38, 38]) = true := by rw [h]; rfl
      clear h
      go_enter Tryz.func113, Tryz.ntmps113
      go_wp2_with fail
      go_ret
      exact ⟨rfl, hb⟩
    · have t0 : (s.toList == [10]) = false := by rw [h]; rfl
      have t1 : (s.toList == [59]) = false := by rw [h]; rfl
      have t2 : (s.toList == [38]) = false := by rw [h]; rfl
      have t3 : (s.toList == [38, 38]) = false := by rw [h]; rfl
      have t4 : (s.toList == [124, 124]) = true := by rw [h]; rfl
      clear h
      go_enter Tryz.func113, Tryz.ntmps113
      go_wp2_with fail
      go_ret
      exact ⟨rfl, hb⟩
    · have t0 : (s.toList == [10]) = false := by rw [h]; rfl
      have t1 : (s.toList == [59]) = false := by rw [h]; rfl
      have t2 : (s.toList == [38]) = false := by rw [h]; rfl
      have t3 : (s.toList == [38, 38]) = false := by rw [h]; rfl
      have t4 : (s.toList == [124, 124]) = false := by rw [h]; rfl
      have t5 : (s.toList == [124]) = true := by rw [h]; rfl
      clear h
      go_enter Tryz.func113, Tryz.ntmps113
      go_wp2_with fail
      go_ret
      exact ⟨rfl, hb⟩
    · have t0 : (s.toList == [10]) = false := by rw [h]; rfl
      have t1 : (s.toList == [59]) = false := by rw [h]; rfl
      have t2 : (s.toList == [38]) = false := by rw [h]; rfl
      have t3 : (s.toList == [38, 38]) = false := by rw [h]; rfl
      have t4 : (s.toList == [124, 124]) = false := by rw [h]; rfl
      have t5 : (s.toList == [124]) = false := by rw [h]; rfl
      have t6 : (s.toList == [40]) = true := by rw [h]; rfl
      clear h
      go_enter Tryz.func113, Tryz.ntmps113
      go_wp2_with fail
      go_ret
      exact ⟨rfl, hb⟩
set_option maxHeartbeats 2000000 in
set_option maxRecDepth 100000 in
theorem introduces_c (t : Tk) (w : World) : Calls Tryz.prog 114 #[t.val] w fun e w' => e = .returned (.bool (intB t.text)) ∧ Below w.heap.size w w' := by
  show Calls Tryz.prog 114 #[.agg #[.int .i64 t.kind, .int .i64 t.pos, .int .i64 t.fin, .string t.text]] w _
  have hb := (Below.refl _ w).alloc (Nat.le_refl _) (.cells #[.int .i64 t.kind, .int .i64 t.pos, .int .i64 t.fin, .string t.text] 118)
  obtain ⟨k, p, f, s⟩ := t
  show Calls Tryz.prog 114 #[.agg #[.int .i64 k, .int .i64 p, .int .i64 f, .string s]] w fun e w' => e = .returned (.bool (intB s)) ∧ Below w.heap.size w w'
  simp only at hb
  unfold intB
  rw [← ByteArray.toList_eq]
  rcases hr : intL.contains s.toList with _ | _
  · unfold intL at hr
    simp only [List.contains_cons, List.contains_nil, Bool.or_eq_false_iff, Bool.or_false] at hr
    obtain ⟨t0, t1, t2, t3, t4, t5, t6, t7, t8⟩ := hr
    go_enter Tryz.func114, Tryz.ntmps114
    go_wp2_with fail
    go_ret
    exact ⟨rfl, hb⟩
  · unfold intL at hr
    rw [List.contains_iff_mem] at hr
    simp only [List.mem_cons, List.not_mem_nil, or_false] at hr
    rcases hr with h | h | h | h | h | h | h | h | h
    · have t0 : (s.toList == [33]) = true := by rw [h]; rfl
      clear h
      go_enter Tryz.func114, Tryz.ntmps114
      go_wp2_with fail
      go_ret
      exact ⟨rfl, hb⟩
    · have t0 : (s.toList == [33]) = false := by rw [h]; rfl
      have t1 : (s.toList == [123]) = true := by rw [h]; rfl
      clear h
      go_enter Tryz.func114, Tryz.ntmps114
      go_wp2_with fail
      go_ret
      exact ⟨rfl, hb⟩
    · have t0 : (s.toList == [33]) = false := by rw [h]; rfl
      have t1 : (s.toList == [123]) = false := by rw [h]; rfl
      have t2 : (s.toList == [100, 111]) = true := by rw [h]; rfl
      clear h
      go_enter Tryz.func114, Tryz.ntmps114
      go_wp2_with fail
      go_ret
      exact ⟨rfl, hb⟩
    · have t0 : (s.toList == [33]) = false := by rw [h]; rfl
      have t1 : (s.toList == [123]) = false := by rw [h]; rfl
      have t2 : (s.toList == [100, 111]) = false := by rw [h]; rfl
      have t3 : (s.toList == [101, 108, 105, 102]) = true := by rw [h]; rfl
      clear h
      go_enter Tryz.func114, Tryz.ntmps114
      go_wp2_with fail
      go_ret
      exact ⟨rfl, hb⟩
    · have t0 : (s.toList == [33]) = false := by rw [h]; rfl
      have t1 : (s.toList == [123]) = false := by rw [h]; rfl
      have t2 : (s.toList == [100, 111]) = false := by rw [h]; rfl
      have t3 : (s.toList == [101, 108, 105, 102]) = false := by rw [h]; rfl
      have t4 : (s.toList == [101, 108, 115, 101]) = true := by rw [h]; rfl
      clear h
      go_enter Tryz.func114, Tryz.ntmps114
      go_wp2_with fail
      go_ret
      exact ⟨rfl, hb⟩
    · have t0 : (s.toList == [33]) = false := by rw [h]; rfl
      have t1 : (s.toList == [123]) = false := by rw [h]; rfl
      have t2 : (s.toList == [100, 111]) = false := by rw [h]; rfl
      have t3 : (s.toList == [101, 108, 105, 102]) = false := by rw [h]; rfl
      have t4 : (s.toList == [101, 108, 115, 101]) = false := by rw [h]; rfl
      have t5 : (s.toList == [105, 102]) = true := by rw [h]; rfl
      clear h
      go_enter Tryz.func114, Tryz.ntmps114
      go_wp2_with fail
      go_ret
      exact ⟨rfl, hb⟩
    · have t0 : (s.toList == [33]) = false := by rw [h]; rfl
      have t1 : (s.toList == [123]) = false := by rw [h]; rfl
      have t2 : (s.toList == [100, 111]) = false := by rw [h]; rfl
      have t3 : (s.toList == [101, 108, 105, 102]) = false := by rw [h]; rfl
      have t4 : (s.toList == [101, 108, 115, 101]) = false := by rw [h]; rfl
      have t5 : (s.toList == [105, 102]) = false := by rw [h]; rfl
      have t6 : (s.toList == [116, 104, 101, 110]) = true := by rw [h]; rfl
      clear h
      go_enter Tryz.func114, Tryz.ntmps114
      go_wp2_with fail
      go_ret
      exact ⟨rfl, hb⟩
    · have t0 : (s.toList == [33]) = false := by rw [h]; rfl
      have t1 : (s.toList == [123]) = false := by rw [h]; rfl
      have t2 : (s.toList == [100, 111]) = false := by rw [h]; rfl
      have t3 : (s.toList == [101, 108, 105, 102]) = false := by rw [h]; rfl
      have t4 : (s.toList == [101, 108, 115, 101]) = false := by rw [h]; rfl
      have t5 : (s.toList == [105, 102]) = false := by rw [h]; rfl
      have t6 : (s.toList == [116, 104, 101, 110]) = false := by rw [h]; rfl
      have t7 : (s.toList == [117, 110, 116, 105, 108]) = true := by rw [h]; rfl
      clear h
      go_enter Tryz.func114, Tryz.ntmps114
      go_wp2_with fail
      go_ret
      exact ⟨rfl, hb⟩
    · have t0 : (s.toList == [33]) = false := by rw [h]; rfl
      have t1 : (s.toList == [123]) = false := by rw [h]; rfl
      have t2 : (s.toList == [100, 111]) = false := by rw [h]; rfl
      have t3 : (s.toList == [101, 108, 105, 102]) = false := by rw [h]; rfl
      have t4 : (s.toList == [101, 108, 115, 101]) = false := by rw [h]; rfl
      have t5 : (s.toList == [105, 102]) = false := by rw [h]; rfl
      have t6 : (s.toList == [116, 104, 101, 110]) = false := by rw [h]; rfl
      have t7 : (s.toList == [117, 110, 116, 105, 108]) = false := by rw [h]; rfl
      have t8 : (s.toList == [119, 104, 105, 108, 101]) = true := by rw [h]; rfl
      clear h
      go_enter Tryz.func114, Tryz.ntmps114
      go_wp2_with fail
      go_ret
      exact ⟨rfl, hb⟩
def endsB (s : ByteArray) : Bool := if h : 0 < s.size then blankB (s[s.size - 1]'(by omega)) else false
theorem toList_empty0 {s : ByteArray} (h : s.size = 0) : s.toList.isEmpty = true := by
  rw [ByteArray.toList_eq, List.isEmpty_iff]
  exact List.eq_nil_of_length_eq_zero (by simpa using h)
theorem toList_some0 {s : ByteArray} (h : 0 < s.size) : s.toList.isEmpty = false := by
  rw [ByteArray.toList_eq, List.isEmpty_eq_false_iff]
  intro h2
  have h3 : s.data.toList.length = 0 := by rw [h2]; rfl
  have h4 : s.data.toList.length = s.size := by simp
  omega
set_option maxHeartbeats 2000000 in
set_option maxRecDepth 100000 in
theorem ends_c (s : ByteArray) (w : World) (hs : s.size ≤ 1000000000) : Calls Tryz.prog 111 #[.string s] w fun e w' => e = .returned (.bool (endsB s)) ∧ w = w' := by
  unfold endsB
  by_cases h : 0 < s.size
  · rw [dif_pos h]
    have hlt : s.size - 1 < s.size := by omega
    have he := toList_some0 h
    have HB := Lib.hid (fun W => blank_c (s[s.size - 1]'hlt) W)
    have w1 : IntKind.i64.wrap ((s.size : Int) - 1) = ((s.size - 1 : Nat) : Int) := by rw [IntKind.wrap_i64]; omega
    have w2 : (((s.size - 1 : Nat) : Int)).toNat = s.size - 1 := by omega
    have w3 : (0 : Int) ≤ ((s.size - 1 : Nat) : Int) := by omega
    have w4 : ((s.size - 1 : Nat) : Int) < (s.size : Int) := by omega
    have e2 : (s.toList == []) = false := by
      rw [beq_eq_false_iff_ne]
      intro h
      rw [h] at he
      simp at he
    generalize blankB (s[s.size - 1]'hlt) = q at *
    go_enter Tryz.func111, Tryz.ntmps111
    go_wp2_with fail
    refine (HB.out _).mono ?_
    rintro e w1 ⟨rfl, rfl⟩
    go_wp2_with fail
    go_ret
    exact ⟨rfl, rfl⟩
  · rw [dif_neg h]
    have he := toList_empty0 (s := s) (by omega)
    go_enter Tryz.func111, Tryz.ntmps111
    go_wp2_with fail
    go_ret
    exact ⟨rfl, rfl⟩
end Go.Proofs.YticehbhedoploaaGreatDoor
