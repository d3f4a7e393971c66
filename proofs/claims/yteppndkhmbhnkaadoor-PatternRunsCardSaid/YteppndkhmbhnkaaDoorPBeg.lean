/- pattern: beginsWith. -/
import Derived.Test.YteppndkhmbhnkaaDoorPCh
namespace Go.Proofs.YteppndkhmbhnkaaDoor
open Go.RowKit
set_option linter.unusedVariables false

/-- Do the characters begin with active bytes? -/
def begs : List Ch → List UInt8 → Bool
  | _, [] => true
  | [], _ :: _ => false
  | c :: cs, x :: s => chIs c x && begs cs s
theorem begs_nil (cs : List Ch) : begs cs [] = true := by cases cs <;> rfl
theorem begs_short : ∀ (cs : List Ch) (s : List UInt8), cs.length < s.length → begs cs s = false
  | _, [], h => by simp at h
  | [], _ :: _, _ => rfl
  | c :: cs, x :: s, h => by
    rw [begs, begs_short cs s (by simpa using h), Bool.and_false]
theorem begs_len {cs : List Ch} {s : List UInt8} (h : begs cs s = true) : s.length ≤ cs.length := by
  rcases Nat.lt_or_ge cs.length s.length with h1 | h1
  · rw [begs_short cs s h1] at h; cases h
  · exact h1

def strB (s : List UInt8) : Value := .string ⟨s.toArray⟩

set_option maxHeartbeats 4000000 in
set_option maxRecDepth 100000 in
theorem beginsWith_c (A : Option Addr) (cs : List Ch) (c : Nat) (s : List UInt8) (w : World) (hA : ChAt w w.heap.size A cs) (hc : cs.length ≤ 1000000) (hs : s.length ≤ 1000) :
    Calls Tryd.prog 145 #[.slice A cs.length c, strB s] w fun e w' => e = .returned (.bool (begs cs s)) ∧ Below w.heap.size w w' := by
  unfold strB
  have hsz : (⟨s.toArray⟩ : ByteArray).size = s.length := rfl
  by_cases hlt : cs.length < s.length
  · rw [begs_short cs s hlt]
    have t1 : decide ((cs.length : Int) < (s.length : Int)) = true := decide_eq_true (by omega)
    have t1' : decide (cs.length < s.length) = true := decide_eq_true hlt
    go_enter Tryd.func145, Tryd.ntmps145
    go_wp2_with fail
    go_ret
    exact ⟨rfl, Below.refl _ _⟩
  have t1 : decide ((cs.length : Int) < (s.length : Int)) = false := decide_eq_false (by omega)
  have t1' : decide (cs.length < s.length) = false := decide_eq_false hlt
  have HB : Hid (begs cs s = begs (cs.drop 0) (s.drop 0)) := Lib.hid rfl
  generalize begs cs s = R at *
  go_enter Tryd.func145, Tryd.ntmps145
  go_wp2_with fail
  go_loopw [13] (fun iv wr => ∃ k : Nat, iv = .int .i64 k ∧ k ≤ s.length ∧ Below w.heap.size w wr ∧ Hid (R = begs (cs.drop k) (s.drop k))) (fun iv _ => s.length - (intOf iv).toNat)
  case atStart => exact ⟨0, rfl, by omega, Below.refl _ _, HB⟩
  case round =>
    obtain ⟨k, rfl, hk, hb, hx⟩ := hrel
    clear HB
    by_cases hks : k < s.length
    · have d1 : decide ((k : Int) < (s.length : Int)) = true := decide_eq_true (by omega)
      have d1' : decide (k < s.length) = true := decide_eq_true hks
      have hkc : k < cs.length := by omega
      obtain ⟨b, off, rfl, hbl, hcell⟩ : ∃ b off, A = some ⟨b, off, none⟩ ∧ b < w.heap.size ∧ ∀ k (h : k < cs.length), w.cell? ⟨b, off + k * 2, none⟩ = some (.int .u8 (cs[k]'h).b.toNat) ∧ w.cell? ⟨b, off + k * 2 + 1, none⟩ = some (.bool (cs[k]'h).act) := by
        rcases hA with rfl | h
        · simp at hkc
        · exact h
      obtain ⟨x0, x1⟩ := hcell k hkc
      have y0 := (hb.cell (p := ⟨b, off + k * 2, none⟩) hbl).trans x0
      have y1 := (hb.cell (p := ⟨b, off + k * 2 + 1, none⟩) hbl).trans x1
      have hx2 := hx.out
      rw [List.drop_eq_getElem_cons hkc, List.drop_eq_getElem_cons hks, begs] at hx2
      have i1 : (0 : Int) ≤ (k : Int) ∧ (k : Int) < (cs.length : Int) := by omega
      have i2 : (k : Int) < (s.length : Int) := by omega
      have i3 : (k : Int).toNat = k := by omega
      have his : ∀ w1, Below w.heap.size w w1 → Calls Tryd.prog 84 #[.agg #[.int .u8 (cs[k]'hkc).b.toNat, .bool (cs[k]'hkc).act], .int .u8 (s[k]'hks).toNat] w1 fun e w' => e = .returned (.bool (chIs (cs[k]'hkc) (s[k]'hks))) ∧ Below w.heap.size w w' ∧
          (w'.cell? ⟨b, off + k * 2, none⟩ = some (.int .u8 (cs[k]'hkc).b.toNat) ∧ w'.cell? ⟨b, off + k * 2 + 1, none⟩ = some (.bool (cs[k]'hkc).act)) := by
        intro w1 h1
        refine (is_c (cs[k]'hkc) (s[k]'hks) w1).mono ?_
        rintro e w' ⟨rfl, m⟩
        have m' := h1.trans (m.mono h1.size)
        exact ⟨rfl, m', (m'.cell (p := ⟨b, off + k * 2, none⟩) hbl).trans x0, (m'.cell (p := ⟨b, off + k * 2 + 1, none⟩) hbl).trans x1⟩
      have His := Lib.hid his
      have Hx2 := Lib.hid hx2
      clear his hx2 x0 x1 hcell hx hA
      generalize chIs (cs[k]'hkc) (s[k]'hks) = Q at *
      generalize cs[k]'hkc = ck at *
      go_wp2_with fail
      go_region_held3 (fun w' => w'.cell? ⟨b, off + k * 2, none⟩ = some (.int .u8 ck.b.toNat) ∧ w'.cell? ⟨b, off + k * 2 + 1, none⟩ = some (.bool ck.act))
        (first | go_keep | assumption)
        ((go_at_call 84; refine (His.out _ (by first | assumption | exact hb.drew)).mono ?_; rintro e w7 ⟨rfl, m7, z0, z1⟩))
      rcases Q with _ | _
      · have hR : R = false := by rw [Hx2.out]; rfl
        subst hR
        clear His Hx2
        go_wp2_with fail
        go_ret
        exact ⟨rfl, m7⟩
      · have hR : Hid (R = begs (cs.drop (k + 1)) (s.drop (k + 1))) := Lib.hid (by rw [Hx2.out]; rfl)
        clear His Hx2
        go_wp2_with fail
        go_roundw
        case rel => exact ⟨k + 1, by go_num, by omega, m7, hR⟩
        case measure => simp [intOf]; omega
    · have hks0 : k = s.length := by omega
      have hR : R = true := by
        rw [hx.out, hks0, List.drop_length, begs_nil]
      subst hR
      have d1 : decide ((k : Int) < (s.length : Int)) = false := decide_eq_false (by omega)
      have d1' : decide (k < s.length) = false := decide_eq_false hks
      clear hx hks0
      go_wp2_with fail
      go_ret
      exact ⟨rfl, hb⟩
end Go.Proofs.YteppndkhmbhnkaaDoor
