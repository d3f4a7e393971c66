/- pattern: Match, Special. -/
import Derived.Test.YteppndkhmbhnkaaDoorPPre
namespace Go.Proofs.YteppndkhmbhnkaaDoor
open Go.RowKit
set_option linter.unusedVariables false

def mtL (is : List It) (s : List UInt8) : Bool := (preL is s true).2 && ((preL is s true).1 == s.length)
set_option maxHeartbeats 4000000 in
set_option maxRecDepth 100000 in
theorem match_c (A : Option Addr) (is : List It) (c : Nat) (s : List UInt8) (w : World) (hp : PatAt w w.heap.size A is) (ho : ∀ x ∈ is, ItOk x) (hl : is.length ≤ 1000000) (hsl : s.length ≤ 1000000) :
    Calls Tryd.prog 23 #[.slice A is.length c, .string ⟨s.toArray⟩] w fun e w' => e = .returned (.bool (mtL is s)) ∧ Below w.heap.size w w' := by
  have hc := Lib.hid (prefix_c A is c s true w hp ho hl hsl)
  unfold mtL
  generalize preL is s true = R at *
  obtain ⟨n, f⟩ := R
  have hsz : (⟨s.toArray⟩ : ByteArray).size = s.length := by show s.toArray.size = _; simp
  have hq : (((n : Nat) : Int) == (s.length : Int)) = (n == s.length) := by
    by_cases h : n = s.length
    · rw [beq_iff_eq.2 (by omega : (n : Int) = (s.length : Int)), beq_iff_eq.2 h]
    · rw [beq_eq_false_iff_ne.2 (by omega : (n : Int) ≠ (s.length : Int)), beq_eq_false_iff_ne.2 h]
  clear hp ho
  simp only at hc ⊢
  rcases f with _ | _
  all_goals
    go_enter Tryd.func23, Tryd.ntmps23
    go_wp2_with fail
    refine hc.out.mono ?_
    rintro e w7 ⟨rfl, m7⟩
    go_wp2_with fail
    first | go_quiet (fail) | skip
    go_wp2_with fail
    go_ret
    exact ⟨by first | rfl | simp [hq], by first | assumption | exact below_drewN m7 _⟩

theorem compileL_len (rs : List Rn) : (compileL rs).length ≤ (charsOf rs).length := by have := compL_len (charsOf rs) 0; unfold compileL; omega
set_option maxHeartbeats 4000000 in
set_option maxRecDepth 100000 in
theorem special_c (A : Option Addr) (rs : List Rn) (c : Nat) (w : World) (hA : RunAt w w.heap.size A rs) (hn : rs.length ≤ 1000000) (hT : (charsOf rs).length ≤ 1000000) (hL : ∀ r ∈ rs, r.t.length ≤ 1000000) (hE : Env w w.heap.size) (ho : ∀ x ∈ compileL rs, ItOk x) :
    Calls Tryd.prog 31 #[.slice A rs.length c] w fun e w' => e = .returned (.bool ((compileL rs).any spec)) ∧ Below w.heap.size w w' := by
  have hc := Lib.hid (compile_c A rs c w hA hn hT hL hE)
  have hln := Lib.hid (Nat.le_trans (compileL_len rs) hT)
  have ho := Lib.hid ho
  generalize compileL rs = is at *
  clear hT hL hE hA
  go_enter Tryd.func31, Tryd.ntmps31
  go_wp2_with fail
  refine hc.out.mono ?_
  rintro e w7 ⟨v, rfl, hv, m7⟩
  obtain ⟨A5, c5, rfl, hA5, h5, h6⟩ := ownIt_at hv
  have hc2 := Lib.hid (containsFunc_s A5 is c5 w7 hA5 ho.out hln.out (fun x sv W h1 h2 => isSpecial_c x sv W h1 h2))
  clear hc hv hA5 ho hln
  go_wp2_with fail
  refine hc2.out.mono ?_
  rintro e w8 ⟨rfl, m8⟩
  have m9 := m7.trans (m8.mono m7.size)
  clear hc2 m8 m7
  go_wp2_with fail
  go_ret
  exact ⟨rfl, m9⟩
end Go.Proofs.YteppndkhmbhnkaaDoor
