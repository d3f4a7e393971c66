/- The contract of few. -/
import Derived.Test.YtdiaghmkbplipaaVal
namespace Go.Proofs.Ytdiaghmkbplipaa
open Go.RowKit

/-- A short text with a short list of edits. -/
def Few (s : ByteArray) (es : List Ed) : Prop := s.size ≤ 17000 ∧ es.length ≤ 300 ∧ ∀ e ∈ es, e.s.size ≤ 17000

set_option maxHeartbeats 1000000 in
theorem few_c (s : ByteArray) (A : Option Addr) (c : Nat) (es : List Ed) (w : World) (B : Bool) (hB : B = true ↔ Few s es) (hA : EdAt w w.heap.size A es) :
    Calls Try.prog 14 #[.string s, .slice A es.length c] w fun e w' => e = .returned (.bool B) ∧ w = w' := by
  have HB := Lib.hid hB
  clear hB
  by_cases q1 : 17000 < s.size
  · have hf : B = false := by
      rcases B with _ | _
      · rfl
      · have := (HB.out.1 rfl).1; omega
    subst hf
    have d1 : decide ((17000 : Int) < (s.size : Int)) = true := decide_eq_true (by omega)
    go_enter Try.func14, Try.ntmps14
    go_wp2_with fail
    go_ret
    exact ⟨rfl, rfl⟩
  by_cases q2 : 300 < es.length
  · have hf : B = false := by
      rcases B with _ | _
      · rfl
      · have := (HB.out.1 rfl).2.1; omega
    subst hf
    have d1 : decide ((17000 : Int) < (s.size : Int)) = false := decide_eq_false (by omega)
    have d2 : decide ((300 : Int) < (es.length : Int)) = true := decide_eq_true (by omega)
    go_enter Try.func14, Try.ntmps14
    go_wp2_with fail
    go_ret
    exact ⟨rfl, rfl⟩
  · have d1 : decide ((17000 : Int) < (s.size : Int)) = false := decide_eq_false (by omega)
    have d2 : decide ((300 : Int) < (es.length : Int)) = false := decide_eq_false (by omega)
    go_enter Try.func14, Try.ntmps14
    go_wp2_with fail
    go_loop [5] (fun iv => ∃ k : Nat, k ≤ es.length ∧ iv = .int .i64 k ∧ Hid (∀ i e, i < k → es[i]? = some e → e.s.size ≤ 17000)) (fun iv => es.length - (intOf iv).toNat)
    case atStart => exact ⟨0, by omega, rfl, Lib.hid (fun i e h => by omega)⟩
    case round =>
      obtain ⟨k, hk, rfl, hall⟩ := hrel
      by_cases hlt : k < es.length
      · obtain ⟨b, off, rfl, had, hcl⟩ := hA (by omega)
        obtain ⟨c0, c1, c2⟩ := hcl k es[k] (List.getElem?_eq_getElem hlt)
        clear hcl c0 c1
        have i1 : (k : Int) < (es.length : Int) := by omega
        by_cases hbig : 17000 < es[k].s.size
        · have hf : B = false := by
            rcases B with _ | _
            · rfl
            · have := (HB.out.1 rfl).2.2 _ (List.getElem_mem hlt); omega
          subst hf
          generalize es[k].s = x at *
          go_wp2_with fail
          go_ret
          exact ⟨rfl, rfl⟩
        · have hall' : Hid (∀ i e, i < k + 1 → es[i]? = some e → e.s.size ≤ 17000) := Lib.hid (fun i e h he => by
            by_cases hi : i < k
            · exact hall.out i e hi he
            · obtain rfl : i = k := by omega
              rw [List.getElem?_eq_getElem hlt] at he
              injection he with he
              subst he
              omega)
          generalize es[k].s = x at *
          go_wp2_with fail
          go_round
          case rel => exact ⟨k + 1, by omega, by go_num, hall'⟩
          case measure => simp [intOf]; omega
      · have hkk : k = es.length := by omega
        subst hkk
        have hf : B = true := HB.out.2 ⟨by omega, by omega, fun e he => by
          obtain ⟨i, hi, rfl⟩ := List.getElem_of_mem he
          exact hall.out i _ hi (List.getElem?_eq_getElem hi)⟩
        subst hf
        go_wp2_with fail
        go_ret
        exact ⟨rfl, rfl⟩

end Go.Proofs.Ytdiaghmkbplipaa
