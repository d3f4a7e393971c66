/- alias: AliasValids, AliasUnsets: the walks. -/
import Derived.Test.YticehbhedoploaaGreatDoorAlK2
import Derived.Test.YticehbhedoploaaGreatDoorAlR
namespace Go.Proofs.YticehbhedoploaaGreatDoor
open Go.RowKit
set_option linter.unusedVariables false

theorem few_small {l : List Al} (h : fewB l = true) : l.length ≤ 70 ∧ ∀ x ∈ l, x.n.size ≤ 10000 ∧ x.v.size ≤ 10000 := by
  unfold fewB at h
  rw [Bool.and_eq_true, decide_eq_true_iff, decide_eq_true_iff] at h
  exact ⟨h.1, fun x hx => by have := sumA_mem hx; omega⟩
set_option maxHeartbeats 2000000 in
set_option maxRecDepth 100000 in
theorem valids_walk (A : Option Addr) (c : Nat) (l : List Al) (W : World) (hA : AlAt W W.heap.size A l) (hz : ∀ x ∈ l, x.n.size ≤ 140737488355328 ∧ x.v.size ≤ 140737488355328) :
    Calls Tryz.prog 3 #[.slice A l.length c] W fun e w' => e = .returned (.bool true) ∧ Below W.heap.size W w' := by
  have HF := Lib.hid (few_c A l c W hA hz)
  have HA := Lib.hid (fun (V : World) (hb : Below W.heap.size W V) => alAt_mono (alAt_below hA hb (Nat.le_refl _)) hb.size)
  have HK := Lib.hid awake_c
  clear hA hz
  rcases hf : fewB l with _ | _
  · rw [hf] at HF
    clear hf
    go_enter Tryz.func3, Tryz.ntmps3
    go_wp2_with fail
    refine HF.out.mono ?_
    rintro e w1 ⟨rfl, hb1⟩
    go_wp2_with fail
    refine (HK.out w1).mono ?_
    rintro e w2 ⟨rfl, hb2⟩
    have hb3 := hb1.trans (hb2.mono hb1.size)
    go_wp2_with fail
    go_ret
    exact ⟨rfl, hb3⟩
  · rw [hf] at HF
    obtain ⟨h70, hsm⟩ := few_small hf
    have HV := Lib.hid (fun (V : World) (hb : Below W.heap.size W V) => Valid_c A l c V (HA.out V hb) (by omega))
    have HR := Lib.hid (fun (V : World) (hb : Below W.heap.size W V) => RValid_c A l c V (HA.out V hb) (by omega) (fun x hx => by have := (hsm x hx).1; omega))
    have he : (((valL l : Nat) : Int) == ((valL l : Nat) : Int)) = true := by simp
    generalize valL l = v at *
    clear hf hsm h70
    go_enter Tryz.func3, Tryz.ntmps3
    go_wp2_with fail
    refine HF.out.mono ?_
    rintro e w1 ⟨rfl, hb1⟩
    go_wp2_with fail
    refine (HV.out w1 hb1).mono ?_
    rintro e w2 ⟨rfl, hb2⟩
    have hb3 := hb1.trans (hb2.mono hb1.size)
    go_wp2_with fail
    refine (HR.out w2 hb3).mono ?_
    rintro e w4 ⟨rfl, hb4⟩
    have hb5 := hb3.trans (hb4.mono hb3.size)
    go_wp2_with fail
    refine (HK.out w4).mono ?_
    rintro e w6 ⟨rfl, hb6⟩
    have hb7 := hb5.trans (hb6.mono hb5.size)
    go_wp2_with fail
    go_ret
    exact ⟨rfl, hb7⟩
end Go.Proofs.YticehbhedoploaaGreatDoor
