/- lexer: the reference's operators and reserved words. -/
import Derived.Test.YticehbhedoploaaGreatDoorLxG
namespace Go.Proofs.YticehbhedoploaaGreatDoor
open Go.RowKit
set_option linter.unusedVariables false

set_option maxHeartbeats 16000000 in
set_option maxRecDepth 100000 in
theorem ROper_c (s : ByteArray) (w : World) : Calls Tryz.prog 161 #[.string s] w fun e w' => e = .returned (.bool (opS s.data.toList)) ∧ w = w' := by
  rw [← ByteArray.toList_eq]
  rcases hr : opS s.toList with _ | _
  · unfold opS opsL at hr
    simp only [List.contains_cons, List.contains_nil, Bool.or_eq_false_iff, Bool.or_false] at hr
    obtain ⟨t0, t1, t2, t3, t4, t5, t6, t7, t8, t9, t10, t11, t12, t13, t14, t15, t16, t17⟩ := hr
    go_enter Tryz.func161, Tryz.ntmps161
    go_wp2_with fail
    go_ret
    exact ⟨rfl, rfl⟩
  · unfold opS opsL at hr
    rw [List.contains_iff_mem] at hr
    simp only [List.mem_cons, List.not_mem_nil, or_false] at hr
    rcases hr with h | h | h | h | h | h | h | h | h | h | h | h | h | h | h | h | h | h
    · have t0 : (s.toList == [38, 38]) = true := by rw [h]; rfl
      clear h
      go_enter Tryz.func161, Tryz.ntmps161
      go_wp2_with fail
      go_ret
      exact ⟨rfl, rfl⟩
    · have t0 : (s.toList == [38, 38]) = false := by rw [h]; rfl
      have t1 : (s.toList == [124, 124]) = true := by rw [h]; rfl
      clear h
      go_enter Tryz.func161, Tryz.ntmps161
      go_wp2_with fail
      go_ret
      exact ⟨rfl, rfl⟩
    · have t0 : (s.toList == [38, 38]) = false := by rw [h]; rfl
      have t1 : (s.toList == [124, 124]) = false := by rw [h]; rfl
      have t2 : (s.toList == [59]) = true := by rw [h]; rfl
      clear h
      go_enter Tryz.func161, Tryz.ntmps161
      go_wp2_with fail
      go_ret
      exact ⟨rfl, rfl⟩
    · have t0 : (s.toList == [38, 38]) = false := by rw [h]; rfl
      have t1 : (s.toList == [124, 124]) = false := by rw [h]; rfl
      have t2 : (s.toList == [59]) = false := by rw [h]; rfl
      have t3 : (s.toList == [59, 59]) = true := by rw [h]; rfl
      clear h
      go_enter Tryz.func161, Tryz.ntmps161
      go_wp2_with fail
      go_ret
      exact ⟨rfl, rfl⟩
    · have t0 : (s.toList == [38, 38]) = false := by rw [h]; rfl
      have t1 : (s.toList == [124, 124]) = false := by rw [h]; rfl
      have t2 : (s.toList == [59]) = false := by rw [h]; rfl
      have t3 : (s.toList == [59, 59]) = false := by rw [h]; rfl
      have t4 : (s.toList == [38]) = true := by rw [h]; rfl
      clear h
      go_enter Tryz.func161, Tryz.ntmps161
      go_wp2_with fail
      go_ret
      exact ⟨rfl, rfl⟩
    · have t0 : (s.toList == [38, 38]) = false := by rw [h]; rfl
      have t1 : (s.toList == [124, 124]) = false := by rw [h]; rfl
      have t2 : (s.toList == [59]) = false := by rw [h]; rfl
      have t3 : (s.toList == [59, 59]) = false := by rw [h]; rfl
      have t4 : (s.toList == [38]) = false := by rw [h]; rfl
      have t5 : (s.toList == [124]) = true := by rw [h]; rfl
      clear h
      go_enter Tryz.func161, Tryz.ntmps161
      go_wp2_with fail
      go_ret
      exact ⟨rfl, rfl⟩
    · have t0 : (s.toList == [38, 38]) = false := by rw [h]; rfl
      have t1 : (s.toList == [124, 124]) = false := by rw [h]; rfl
      have t2 : (s.toList == [59]) = false := by rw [h]; rfl
      have t3 : (s.toList == [59, 59]) = false := by rw [h]; rfl
      have t4 : (s.toList == [38]) = false := by rw [h]; rfl
      have t5 : (s.toList == [124]) = false := by rw [h]; rfl
      have t6 : (s.toList == [40]) = true := by rw [h]; rfl
      clear h
      go_enter Tryz.func161, Tryz.ntmps161
      go_wp2_with fail
      go_ret
      exact ⟨rfl, rfl⟩
    · have t0 : (s.toList == [38, 38]) = false := by rw [h]; rfl
      have t1 : (s.toList == [124, 124]) = false := by rw [h]; rfl
      have t2 : (s.toList == [59]) = false := by rw [h]; rfl
      have t3 : (s.toList == [59, 59]) = false := by rw [h]; rfl
      have t4 : (s.toList == [38]) = false := by rw [h]; rfl
      have t5 : (s.toList == [124]) = false := by rw [h]; rfl
      have t6 : (s.toList == [40]) = false := by rw [h]; rfl
      have t7 : (s.toList == [41]) = true := by rw [h]; rfl
      clear h
      go_enter Tryz.func161, Tryz.ntmps161
      go_wp2_with fail
      go_ret
      exact ⟨rfl, rfl⟩
    · have t0 : (s.toList == [38, 38]) = false := by rw [h]; rfl
      have t1 : (s.toList == [124, 124]) = false := by rw [h]; rfl
      have t2 : (s.toList == [59]) = false := by rw [h]; rfl
      have t3 : (s.toList == [59, 59]) = false := by rw [h]; rfl
      have t4 : (s.toList == [38]) = false := by rw [h]; rfl
      have t5 : (s.toList == [124]) = false := by rw [h]; rfl
      have t6 : (s.toList == [40]) = false := by rw [h]; rfl
      have t7 : (s.toList == [41]) = false := by rw [h]; rfl
      have t8 : (s.toList == [60]) = true := by rw [h]; rfl
      clear h
      go_enter Tryz.func161, Tryz.ntmps161
      go_wp2_with fail
      go_ret
      exact ⟨rfl, rfl⟩
    · have t0 : (s.toList == [38, 38]) = false := by rw [h]; rfl
      have t1 : (s.toList == [124, 124]) = false := by rw [h]; rfl
      have t2 : (s.toList == [59]) = false := by rw [h]; rfl
      have t3 : (s.toList == [59, 59]) = false := by rw [h]; rfl
      have t4 : (s.toList == [38]) = false := by rw [h]; rfl
      have t5 : (s.toList == [124]) = false := by rw [h]; rfl
      have t6 : (s.toList == [40]) = false := by rw [h]; rfl
      have t7 : (s.toList == [41]) = false := by rw [h]; rfl
      have t8 : (s.toList == [60]) = false := by rw [h]; rfl
      have t9 : (s.toList == [62]) = true := by rw [h]; rfl
      clear h
      go_enter Tryz.func161, Tryz.ntmps161
      go_wp2_with fail
      go_ret
      exact ⟨rfl, rfl⟩
    · have t0 : (s.toList == [38, 38]) = false := by rw [h]; rfl
      have t1 : (s.toList == [124, 124]) = false := by rw [h]; rfl
      have t2 : (s.toList == [59]) = false := by rw [h]; rfl
      have t3 : (s.toList == [59, 59]) = false := by rw [h]; rfl
      have t4 : (s.toList == [38]) = false := by rw [h]; rfl
      have t5 : (s.toList == [124]) = false := by rw [h]; rfl
      have t6 : (s.toList == [40]) = false := by rw [h]; rfl
      have t7 : (s.toList == [41]) = false := by rw [h]; rfl
      have t8 : (s.toList == [60]) = false := by rw [h]; rfl
      have t9 : (s.toList == [62]) = false := by rw [h]; rfl
      have t10 : (s.toList == [60, 60]) = true := by rw [h]; rfl
      clear h
      go_enter Tryz.func161, Tryz.ntmps161
      go_wp2_with fail
      go_ret
      exact ⟨rfl, rfl⟩
    · have t0 : (s.toList == [38, 38]) = false := by rw [h]; rfl
      have t1 : (s.toList == [124, 124]) = false := by rw [h]; rfl
      have t2 : (s.toList == [59]) = false := by rw [h]; rfl
      have t3 : (s.toList == [59, 59]) = false := by rw [h]; rfl
      have t4 : (s.toList == [38]) = false := by rw [h]; rfl
      have t5 : (s.toList == [124]) = false := by rw [h]; rfl
      have t6 : (s.toList == [40]) = false := by rw [h]; rfl
      have t7 : (s.toList == [41]) = false := by rw [h]; rfl
      have t8 : (s.toList == [60]) = false := by rw [h]; rfl
      have t9 : (s.toList == [62]) = false := by rw [h]; rfl
      have t10 : (s.toList == [60, 60]) = false := by rw [h]; rfl
      have t11 : (s.toList == [60, 60, 45]) = true := by rw [h]; rfl
      clear h
      go_enter Tryz.func161, Tryz.ntmps161
      go_wp2_with fail
      go_ret
      exact ⟨rfl, rfl⟩
    · have t0 : (s.toList == [38, 38]) = false := by rw [h]; rfl
      have t1 : (s.toList == [124, 124]) = false := by rw [h]; rfl
      have t2 : (s.toList == [59]) = false := by rw [h]; rfl
      have t3 : (s.toList == [59, 59]) = false := by rw [h]; rfl
      have t4 : (s.toList == [38]) = false := by rw [h]; rfl
      have t5 : (s.toList == [124]) = false := by rw [h]; rfl
      have t6 : (s.toList == [40]) = false := by rw [h]; rfl
      have t7 : (s.toList == [41]) = false := by rw [h]; rfl
      have t8 : (s.toList == [60]) = false := by rw [h]; rfl
      have t9 : (s.toList == [62]) = false := by rw [h]; rfl
      have t10 : (s.toList == [60, 60]) = false := by rw [h]; rfl
      have t11 : (s.toList == [60, 60, 45]) = false := by rw [h]; rfl
      have t12 : (s.toList == [62, 62]) = true := by rw [h]; rfl
      clear h
      go_enter Tryz.func161, Tryz.ntmps161
      go_wp2_with fail
      go_ret
      exact ⟨rfl, rfl⟩
    · have t0 : (s.toList == [38, 38]) = false := by rw [h]; rfl
      have t1 : (s.toList == [124, 124]) = false := by rw [h]; rfl
      have t2 : (s.toList == [59]) = false := by rw [h]; rfl
      have t3 : (s.toList == [59, 59]) = false := by rw [h]; rfl
      have t4 : (s.toList == [38]) = false := by rw [h]; rfl
      have t5 : (s.toList == [124]) = false := by rw [h]; rfl
      have t6 : (s.toList == [40]) = false := by rw [h]; rfl
      have t7 : (s.toList == [41]) = false := by rw [h]; rfl
      have t8 : (s.toList == [60]) = false := by rw [h]; rfl
      have t9 : (s.toList == [62]) = false := by rw [h]; rfl
      have t10 : (s.toList == [60, 60]) = false := by rw [h]; rfl
      have t11 : (s.toList == [60, 60, 45]) = false := by rw [h]; rfl
      have t12 : (s.toList == [62, 62]) = false := by rw [h]; rfl
      have t13 : (s.toList == [60, 38]) = true := by rw [h]; rfl
      clear h
      go_enter Tryz.func161, Tryz.ntmps161
      go_wp2_with fail
      go_ret
      exact ⟨rfl, rfl⟩
    · have t0 : (s.toList == [38, 38]) = false := by rw [h]; rfl
      have t1 : (s.toList == [124, 124]) = false := by rw [h]; rfl
      have t2 : (s.toList == [59]) = false := by rw [h]; rfl
      have t3 : (s.toList == [59, 59]) = false := by rw [h]; rfl
      have t4 : (s.toList == [38]) = false := by rw [h]; rfl
      have t5 : (s.toList == [124]) = false := by rw [h]; rfl
      have t6 : (s.toList == [40]) = false := by rw [h]; rfl
      have t7 : (s.toList == [41]) = false := by rw [h]; rfl
      have t8 : (s.toList == [60]) = false := by rw [h]; rfl
      have t9 : (s.toList == [62]) = false := by rw [h]; rfl
      have t10 : (s.toList == [60, 60]) = false := by rw [h]; rfl
      have t11 : (s.toList == [60, 60, 45]) = false := by rw [h]; rfl
      have t12 : (s.toList == [62, 62]) = false := by rw [h]; rfl
      have t13 : (s.toList == [60, 38]) = false := by rw [h]; rfl
      have t14 : (s.toList == [62, 38]) = true := by rw [h]; rfl
      clear h
      go_enter Tryz.func161, Tryz.ntmps161
      go_wp2_with fail
      go_ret
      exact ⟨rfl, rfl⟩
    · have t0 : (s.toList == [38, 38]) = false := by rw [h]; rfl
      have t1 : (s.toList == [124, 124]) = false := by rw [h]; rfl
      have t2 : (s.toList == [59]) = false := by rw [h]; rfl
      have t3 : (s.toList == [59, 59]) = false := by rw [h]; rfl
      have t4 : (s.toList == [38]) = false := by rw [h]; rfl
      have t5 : (s.toList == [124]) = false := by rw [h]; rfl
      have t6 : (s.toList == [40]) = false := by rw [h]; rfl
      have t7 : (s.toList == [41]) = false := by rw [h]; rfl
      have t8 : (s.toList == [60]) = false := by rw [h]; rfl
      have t9 : (s.toList == [62]) = false := by rw [h]; rfl
      have t10 : (s.toList == [60, 60]) = false := by rw [h]; rfl
      have t11 : (s.toList == [60, 60, 45]) = false := by rw [h]; rfl
      have t12 : (s.toList == [62, 62]) = false := by rw [h]; rfl
      have t13 : (s.toList == [60, 38]) = false := by rw [h]; rfl
      have t14 : (s.toList == [62, 38]) = false := by rw [h]; rfl
      have t15 : (s.toList == [60, 62]) = true := by rw [h]; rfl
      clear h
      go_enter Tryz.func161, Tryz.ntmps161
      go_wp2_with fail
      go_ret
      exact ⟨rfl, rfl⟩
    · have t0 : (s.toList == [38, 38]) = false := by rw [h]; rfl
      have t1 : (s.toList == [124, 124]) = false := by rw [h]; rfl
      have t2 : (s.toList == [59]) = false := by rw [h]; rfl
      have t3 : (s.toList == [59, 59]) = false := by rw [h]; rfl
      have t4 : (s.toList == [38]) = false := by rw [h]; rfl
      have t5 : (s.toList == [124]) = false := by rw [h]; rfl
      have t6 : (s.toList == [40]) = false := by rw [h]; rfl
      have t7 : (s.toList == [41]) = false := by rw [h]; rfl
      have t8 : (s.toList == [60]) = false := by rw [h]; rfl
      have t9 : (s.toList == [62]) = false := by rw [h]; rfl
      have t10 : (s.toList == [60, 60]) = false := by rw [h]; rfl
      have t11 : (s.toList == [60, 60, 45]) = false := by rw [h]; rfl
      have t12 : (s.toList == [62, 62]) = false := by rw [h]; rfl
      have t13 : (s.toList == [60, 38]) = false := by rw [h]; rfl
      have t14 : (s.toList == [62, 38]) = false := by rw [h]; rfl
      have t15 : (s.toList == [60, 62]) = false := by rw [h]; rfl
      have t16 : (s.toList == [62, 124]) = true := by rw [h]; rfl
      clear h
      go_enter Tryz.func161, Tryz.ntmps161
      go_wp2_with fail
      go_ret
      exact ⟨rfl, rfl⟩
    · have t0 : (s.toList == [38, 38]) = false := by rw [h]; rfl
      have t1 : (s.toList == [124, 124]) = false := by rw [h]; rfl
      have t2 : (s.toList == [59]) = false := by rw [h]; rfl
      have t3 : (s.toList == [59, 59]) = false := by rw [h]; rfl
      have t4 : (s.toList == [38]) = false := by rw [h]; rfl
      have t5 : (s.toList == [124]) = false := by rw [h]; rfl
      have t6 : (s.toList == [40]) = false := by rw [h]; rfl
      have t7 : (s.toList == [41]) = false := by rw [h]; rfl
      have t8 : (s.toList == [60]) = false := by rw [h]; rfl
      have t9 : (s.toList == [62]) = false := by rw [h]; rfl
      have t10 : (s.toList == [60, 60]) = false := by rw [h]; rfl
      have t11 : (s.toList == [60, 60, 45]) = false := by rw [h]; rfl
      have t12 : (s.toList == [62, 62]) = false := by rw [h]; rfl
      have t13 : (s.toList == [60, 38]) = false := by rw [h]; rfl
      have t14 : (s.toList == [62, 38]) = false := by rw [h]; rfl
      have t15 : (s.toList == [60, 62]) = false := by rw [h]; rfl
      have t16 : (s.toList == [62, 124]) = false := by rw [h]; rfl
      have t17 : (s.toList == [10]) = true := by rw [h]; rfl
      clear h
      go_enter Tryz.func161, Tryz.ntmps161
      go_wp2_with fail
      go_ret
      exact ⟨rfl, rfl⟩
set_option maxHeartbeats 16000000 in
set_option maxRecDepth 100000 in
theorem RRese_c (s : ByteArray) (w : World) : Calls Tryz.prog 29 #[.string s] w fun e w' => e = .returned (.bool (resS s.data.toList)) ∧ w = w' := by
  rw [← ByteArray.toList_eq]
  rcases hr : resS s.toList with _ | _
  · unfold resS resL at hr
    simp only [List.contains_cons, List.contains_nil, Bool.or_eq_false_iff, Bool.or_false] at hr
    obtain ⟨t0, t1, t2, t3, t4, t5, t6, t7, t8, t9, t10, t11, t12, t13, t14, t15⟩ := hr
    go_enter Tryz.func29, Tryz.ntmps29
    go_wp2_with fail
    go_ret
    exact ⟨rfl, rfl⟩
  · unfold resS resL at hr
    rw [List.contains_iff_mem] at hr
    simp only [List.mem_cons, List.not_mem_nil, or_false] at hr
    rcases hr with h | h | h | h | h | h | h | h | h | h | h | h | h | h | h | h
    · have t0 : (s.toList == [33]) = true := by rw [h]; rfl
      clear h
      go_enter Tryz.func29, Tryz.ntmps29
      go_wp2_with fail
      go_ret
      exact ⟨rfl, rfl⟩
    · have t0 : (s.toList == [33]) = false := by rw [h]; rfl
      have t1 : (s.toList == [123]) = true := by rw [h]; rfl
      clear h
      go_enter Tryz.func29, Tryz.ntmps29
      go_wp2_with fail
      go_ret
      exact ⟨rfl, rfl⟩
    · have t0 : (s.toList == [33]) = false := by rw [h]; rfl
      have t1 : (s.toList == [123]) = false := by rw [h]; rfl
      have t2 : (s.toList == [125]) = true := by rw [h]; rfl
      clear h
      go_enter Tryz.func29, Tryz.ntmps29
      go_wp2_with fail
      go_ret
      exact ⟨rfl, rfl⟩
    · have t0 : (s.toList == [33]) = false := by rw [h]; rfl
      have t1 : (s.toList == [123]) = false := by rw [h]; rfl
      have t2 : (s.toList == [125]) = false := by rw [h]; rfl
      have t3 : (s.toList == [99, 97, 115, 101]) = true := by rw [h]; rfl
      clear h
      go_enter Tryz.func29, Tryz.ntmps29
      go_wp2_with fail
      go_ret
      exact ⟨rfl, rfl⟩
    · have t0 : (s.toList == [33]) = false := by rw [h]; rfl
      have t1 : (s.toList == [123]) = false := by rw [h]; rfl
      have t2 : (s.toList == [125]) = false := by rw [h]; rfl
      have t3 : (s.toList == [99, 97, 115, 101]) = false := by rw [h]; rfl
      have t4 : (s.toList == [100, 111]) = true := by rw [h]; rfl
      clear h
      go_enter Tryz.func29, Tryz.ntmps29
      go_wp2_with fail
      go_ret
      exact ⟨rfl, rfl⟩
    · have t0 : (s.toList == [33]) = false := by rw [h]; rfl
      have t1 : (s.toList == [123]) = false := by rw [h]; rfl
      have t2 : (s.toList == [125]) = false := by rw [h]; rfl
      have t3 : (s.toList == [99, 97, 115, 101]) = false := by rw [h]; rfl
      have t4 : (s.toList == [100, 111]) = false := by rw [h]; rfl
      have t5 : (s.toList == [100, 111, 110, 101]) = true := by rw [h]; rfl
      clear h
      go_enter Tryz.func29, Tryz.ntmps29
      go_wp2_with fail
      go_ret
      exact ⟨rfl, rfl⟩
    · have t0 : (s.toList == [33]) = false := by rw [h]; rfl
      have t1 : (s.toList == [123]) = false := by rw [h]; rfl
      have t2 : (s.toList == [125]) = false := by rw [h]; rfl
      have t3 : (s.toList == [99, 97, 115, 101]) = false := by rw [h]; rfl
      have t4 : (s.toList == [100, 111]) = false := by rw [h]; rfl
      have t5 : (s.toList == [100, 111, 110, 101]) = false := by rw [h]; rfl
      have t6 : (s.toList == [101, 108, 105, 102]) = true := by rw [h]; rfl
      clear h
      go_enter Tryz.func29, Tryz.ntmps29
      go_wp2_with fail
      go_ret
      exact ⟨rfl, rfl⟩
    · have t0 : (s.toList == [33]) = false := by rw [h]; rfl
      have t1 : (s.toList == [123]) = false := by rw [h]; rfl
      have t2 : (s.toList == [125]) = false := by rw [h]; rfl
      have t3 : (s.toList == [99, 97, 115, 101]) = false := by rw [h]; rfl
      have t4 : (s.toList == [100, 111]) = false := by rw [h]; rfl
      have t5 : (s.toList == [100, 111, 110, 101]) = false := by rw [h]; rfl
      have t6 : (s.toList == [101, 108, 105, 102]) = false := by rw [h]; rfl
      have t7 : (s.toList == [101, 108, 115, 101]) = true := by rw [h]; rfl
      clear h
      go_enter Tryz.func29, Tryz.ntmps29
      go_wp2_with fail
      go_ret
      exact ⟨rfl, rfl⟩
    · have t0 : (s.toList == [33]) = false := by rw [h]; rfl
      have t1 : (s.toList == [123]) = false := by rw [h]; rfl
      have t2 : (s.toList == [125]) = false := by rw [h]; rfl
      have t3 : (s.toList == [99, 97, 115, 101]) = false := by rw [h]; rfl
      have t4 : (s.toList == [100, 111]) = false := by rw [h]; rfl
      have t5 : (s.toList == [100, 111, 110, 101]) = false := by rw [h]; rfl
      have t6 : (s.toList == [101, 108, 105, 102]) = false := by rw [h]; rfl
      have t7 : (s.toList == [101, 108, 115, 101]) = false := by rw [h]; rfl
      have t8 : (s.toList == [101, 115, 97, 99]) = true := by rw [h]; rfl
      clear h
      go_enter Tryz.func29, Tryz.ntmps29
      go_wp2_with fail
      go_ret
      exact ⟨rfl, rfl⟩
    · have t0 : (s.toList == [33]) = false := by rw [h]; rfl
      have t1 : (s.toList == [123]) = false := by rw [h]; rfl
      have t2 : (s.toList == [125]) = false := by rw [h]; rfl
      have t3 : (s.toList == [99, 97, 115, 101]) = false := by rw [h]; rfl
      have t4 : (s.toList == [100, 111]) = false := by rw [h]; rfl
      have t5 : (s.toList == [100, 111, 110, 101]) = false := by rw [h]; rfl
      have t6 : (s.toList == [101, 108, 105, 102]) = false := by rw [h]; rfl
      have t7 : (s.toList == [101, 108, 115, 101]) = false := by rw [h]; rfl
      have t8 : (s.toList == [101, 115, 97, 99]) = false := by rw [h]; rfl
      have t9 : (s.toList == [102, 105]) = true := by rw [h]; rfl
      clear h
      go_enter Tryz.func29, Tryz.ntmps29
      go_wp2_with fail
      go_ret
      exact ⟨rfl, rfl⟩
    · have t0 : (s.toList == [33]) = false := by rw [h]; rfl
      have t1 : (s.toList == [123]) = false := by rw [h]; rfl
      have t2 : (s.toList == [125]) = false := by rw [h]; rfl
      have t3 : (s.toList == [99, 97, 115, 101]) = false := by rw [h]; rfl
      have t4 : (s.toList == [100, 111]) = false := by rw [h]; rfl
      have t5 : (s.toList == [100, 111, 110, 101]) = false := by rw [h]; rfl
      have t6 : (s.toList == [101, 108, 105, 102]) = false := by rw [h]; rfl
      have t7 : (s.toList == [101, 108, 115, 101]) = false := by rw [h]; rfl
      have t8 : (s.toList == [101, 115, 97, 99]) = false := by rw [h]; rfl
      have t9 : (s.toList == [102, 105]) = false := by rw [h]; rfl
      have t10 : (s.toList == [102, 111, 114]) = true := by rw [h]; rfl
      clear h
      go_enter Tryz.func29, Tryz.ntmps29
      go_wp2_with fail
      go_ret
      exact ⟨rfl, rfl⟩
    · have t0 : (s.toList == [33]) = false := by rw [h]; rfl
      have t1 : (s.toList == [123]) = false := by rw [h]; rfl
      have t2 : (s.toList == [125]) = false := by rw [h]; rfl
      have t3 : (s.toList == [99, 97, 115, 101]) = false := by rw [h]; rfl
      have t4 : (s.toList == [100, 111]) = false := by rw [h]; rfl
      have t5 : (s.toList == [100, 111, 110, 101]) = false := by rw [h]; rfl
      have t6 : (s.toList == [101, 108, 105, 102]) = false := by rw [h]; rfl
      have t7 : (s.toList == [101, 108, 115, 101]) = false := by rw [h]; rfl
      have t8 : (s.toList == [101, 115, 97, 99]) = false := by rw [h]; rfl
      have t9 : (s.toList == [102, 105]) = false := by rw [h]; rfl
      have t10 : (s.toList == [102, 111, 114]) = false := by rw [h]; rfl
      have t11 : (s.toList == [105, 102]) = true := by rw [h]; rfl
      clear h
      go_enter Tryz.func29, Tryz.ntmps29
      go_wp2_with fail
      go_ret
      exact ⟨rfl, rfl⟩
    · have t0 : (s.toList == [33]) = false := by rw [h]; rfl
      have t1 : (s.toList == [123]) = false := by rw [h]; rfl
      have t2 : (s.toList == [125]) = false := by rw [h]; rfl
      have t3 : (s.toList == [99, 97, 115, 101]) = false := by rw [h]; rfl
      have t4 : (s.toList == [100, 111]) = false := by rw [h]; rfl
      have t5 : (s.toList == [100, 111, 110, 101]) = false := by rw [h]; rfl
      have t6 : (s.toList == [101, 108, 105, 102]) = false := by rw [h]; rfl
      have t7 : (s.toList == [101, 108, 115, 101]) = false := by rw [h]; rfl
      have t8 : (s.toList == [101, 115, 97, 99]) = false := by rw [h]; rfl
      have t9 : (s.toList == [102, 105]) = false := by rw [h]; rfl
      have t10 : (s.toList == [102, 111, 114]) = false := by rw [h]; rfl
      have t11 : (s.toList == [105, 102]) = false := by rw [h]; rfl
      have t12 : (s.toList == [105, 110]) = true := by rw [h]; rfl
      clear h
      go_enter Tryz.func29, Tryz.ntmps29
      go_wp2_with fail
      go_ret
      exact ⟨rfl, rfl⟩
    · have t0 : (s.toList == [33]) = false := by rw [h]; rfl
      have t1 : (s.toList == [123]) = false := by rw [h]; rfl
      have t2 : (s.toList == [125]) = false := by rw [h]; rfl
      have t3 : (s.toList == [99, 97, 115, 101]) = false := by rw [h]; rfl
      have t4 : (s.toList == [100, 111]) = false := by rw [h]; rfl
      have t5 : (s.toList == [100, 111, 110, 101]) = false := by rw [h]; rfl
      have t6 : (s.toList == [101, 108, 105, 102]) = false := by rw [h]; rfl
      have t7 : (s.toList == [101, 108, 115, 101]) = false := by rw [h]; rfl
      have t8 : (s.toList == [101, 115, 97, 99]) = false := by rw [h]; rfl
      have t9 : (s.toList == [102, 105]) = false := by rw [h]; rfl
      have t10 : (s.toList == [102, 111, 114]) = false := by rw [h]; rfl
      have t11 : (s.toList == [105, 102]) = false := by rw [h]; rfl
      have t12 : (s.toList == [105, 110]) = false := by rw [h]; rfl
      have t13 : (s.toList == [116, 104, 101, 110]) = true := by rw [h]; rfl
      clear h
      go_enter Tryz.func29, Tryz.ntmps29
      go_wp2_with fail
      go_ret
      exact ⟨rfl, rfl⟩
    · have t0 : (s.toList == [33]) = false := by rw [h]; rfl
      have t1 : (s.toList == [123]) = false := by rw [h]; rfl
      have t2 : (s.toList == [125]) = false := by rw [h]; rfl
      have t3 : (s.toList == [99, 97, 115, 101]) = false := by rw [h]; rfl
      have t4 : (s.toList == [100, 111]) = false := by rw [h]; rfl
      have t5 : (s.toList == [100, 111, 110, 101]) = false := by rw [h]; rfl
      have t6 : (s.toList == [101, 108, 105, 102]) = false := by rw [h]; rfl
      have t7 : (s.toList == [101, 108, 115, 101]) = false := by rw [h]; rfl
      have t8 : (s.toList == [101, 115, 97, 99]) = false := by rw [h]; rfl
      have t9 : (s.toList == [102, 105]) = false := by rw [h]; rfl
      have t10 : (s.toList == [102, 111, 114]) = false := by rw [h]; rfl
      have t11 : (s.toList == [105, 102]) = false := by rw [h]; rfl
      have t12 : (s.toList == [105, 110]) = false := by rw [h]; rfl
      have t13 : (s.toList == [116, 104, 101, 110]) = false := by rw [h]; rfl
      have t14 : (s.toList == [117, 110, 116, 105, 108]) = true := by rw [h]; rfl
      clear h
      go_enter Tryz.func29, Tryz.ntmps29
      go_wp2_with fail
      go_ret
      exact ⟨rfl, rfl⟩
    · have t0 : (s.toList == [33]) = false := by rw [h]; rfl
      have t1 : (s.toList == [123]) = false := by rw [h]; rfl
      have t2 : (s.toList == [125]) = false := by rw [h]; rfl
      have t3 : (s.toList == [99, 97, 115, 101]) = false := by rw [h]; rfl
      have t4 : (s.toList == [100, 111]) = false := by rw [h]; rfl
      have t5 : (s.toList == [100, 111, 110, 101]) = false := by rw [h]; rfl
      have t6 : (s.toList == [101, 108, 105, 102]) = false := by rw [h]; rfl
      have t7 : (s.toList == [101, 108, 115, 101]) = false := by rw [h]; rfl
      have t8 : (s.toList == [101, 115, 97, 99]) = false := by rw [h]; rfl
      have t9 : (s.toList == [102, 105]) = false := by rw [h]; rfl
      have t10 : (s.toList == [102, 111, 114]) = false := by rw [h]; rfl
      have t11 : (s.toList == [105, 102]) = false := by rw [h]; rfl
      have t12 : (s.toList == [105, 110]) = false := by rw [h]; rfl
      have t13 : (s.toList == [116, 104, 101, 110]) = false := by rw [h]; rfl
      have t14 : (s.toList == [117, 110, 116, 105, 108]) = false := by rw [h]; rfl
      have t15 : (s.toList == [119, 104, 105, 108, 101]) = true := by rw [h]; rfl
      clear h
      go_enter Tryz.func29, Tryz.ntmps29
      go_wp2_with fail
      go_ret
      exact ⟨rfl, rfl⟩
end Go.Proofs.YticehbhedoploaaGreatDoor
