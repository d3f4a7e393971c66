/- pattern: the reference's Small, Few. -/
import Derived.Test.YteppndkhmbhnkaaDoorPAwk
namespace Go.Proofs.YteppndkhmbhnkaaDoor
open Go.RowKit
set_option linter.unusedVariables false

def totL (rs : List Rn) : Nat := (rs.map fun r => r.t.length).sum
theorem totL_snoc {rs : List Rn} {k : Nat} (h : k < rs.length) : totL (rs.take (k + 1)) = totL (rs.take k) + (rs[k]'h).t.length := by
  unfold totL
  rw [List.take_add_one, List.getElem?_eq_getElem h, List.map_append, List.sum_append]
  rfl
set_option maxHeartbeats 4000000 in
theorem small_c (A : Option Addr) (rs : List Rn) (c : Nat) (w : World) (hA : RunAt w w.heap.size A rs) (hsz : ∀ r ∈ rs, r.t.length ≤ 140737488351232) (hc : rs.length ≤ maxLen) :
    Calls Tryd.prog 15 #[.slice A rs.length c, .int .i64 8, .int .i64 60] w fun e w' => w = w' ∧ (e = .returned (.bool false) ∨ e = .returned (.bool true) ∧ rs.length ≤ 8 ∧ totL rs ≤ 60) := by
  have hmx : maxLen = 9223372036854775807 := rfl
  go_enter Tryd.func15, Tryd.ntmps15
  go_wp2_with fail
  go_loop [7, 8] (fun nv iv => ∃ k n : Nat, nv = .int .i64 n ∧ iv = .int .i64 k ∧ k ≤ rs.length ∧ k ≤ 9 ∧ n ≤ 140737488351300 ∧ Hid (totL (rs.take k) = n)) (fun nv iv => rs.length - (intOf iv).toNat)
  case atStart => exact ⟨0, 0, rfl, rfl, by omega, by omega, by omega, Lib.hid rfl⟩
  case round =>
    obtain ⟨k, n, rfl, rfl, hk, hk9, hn, hx⟩ := hrel
    by_cases hlt : k < rs.length
    · have d1 : decide ((k : Int) < (rs.length : Int)) = true := decide_eq_true (by omega)
      have d1' : decide (k < rs.length) = true := decide_eq_true hlt
      by_cases h8 : k ≤ 8
      · have d2 : decide ((k : Int) ≤ 8) = true := decide_eq_true (by omega)
        have d2' : decide (k ≤ 8) = true := decide_eq_true h8
        by_cases h60 : n ≤ 60
        · have d3 : decide ((n : Int) ≤ 60) = true := decide_eq_true (by omega)
          have d3' : decide (n ≤ 60) = true := decide_eq_true h60
          obtain ⟨b, off, rfl, hbl, hcell⟩ : ∃ b off, A = some ⟨b, off, none⟩ ∧ b < w.heap.size ∧ ∀ k (h : k < rs.length), w.cell? ⟨b, off + k * 2, none⟩ = some (.string ⟨(rs[k]'h).t.toArray⟩) ∧ w.cell? ⟨b, off + k * 2 + 1, none⟩ = some (.int .i64 (rs[k]'h).c) := by
            rcases hA with rfl | h
            · simp at hlt
            · exact h
          have x0 := (hcell k hlt).1
          have x1 := (hcell k hlt).2
          have hlk := hsz (rs[k]'hlt) (List.getElem_mem hlt)
          have hsn := totL_snoc hlt
          rw [hx.out] at hsn
          have Hsn := Lib.hid hsn
          generalize rs[k]'hlt = r at *
          obtain ⟨t, cl⟩ := r
          simp only at hlk x0 x1
          have hz : (⟨t.toArray⟩ : ByteArray).size = t.length := by show t.toArray.size = _; simp
          generalize hbx : (⟨t.toArray⟩ : ByteArray) = bx at *
          have hzl : bx.size ≤ 140737488351232 := by omega
          have HS : Hid (totL (rs.take (k + 1)) = n + bx.size) := Lib.hid (by rw [Hsn.out, hz])
          clear hcell hsn Hsn hbx hz hx hA hsz hlk
          go_wp2_with fail
          go_round
          case rel => exact ⟨k + 1, n + bx.size, by go_num, by go_num, by omega, by omega, by omega, HS⟩
          case measure => simp [intOf]; omega
        · have d3 : decide ((n : Int) ≤ 60) = false := decide_eq_false (by omega)
          have d3' : decide (n ≤ 60) = false := decide_eq_false h60
          clear hx
          by_cases h9 : rs.length ≤ 8
          · have d4 : decide ((rs.length : Int) ≤ 8) = true := decide_eq_true (by omega)
            have d4' : decide (rs.length ≤ 8) = true := decide_eq_true h9
            go_wp2_with fail
            go_ret
            first | exact ⟨rfl, rfl⟩ | exact ⟨rfl, .inl rfl⟩
          · have d4 : decide ((rs.length : Int) ≤ 8) = false := decide_eq_false (by omega)
            have d4' : decide (rs.length ≤ 8) = false := decide_eq_false h9
            go_wp2_with fail
            go_ret
            first | exact ⟨rfl, rfl⟩ | exact ⟨rfl, .inl rfl⟩
      · have d2 : decide ((k : Int) ≤ 8) = false := decide_eq_false (by omega)
        have d2' : decide (k ≤ 8) = false := decide_eq_false h8
        have d4 : decide ((rs.length : Int) ≤ 8) = false := decide_eq_false (by omega)
        have d4' : decide (rs.length ≤ 8) = false := decide_eq_false (by omega)
        clear hx
        go_wp2_with fail
        go_ret
        first | exact ⟨rfl, rfl⟩ | exact ⟨rfl, .inl rfl⟩
    · have hkl : k = rs.length := by omega
      have d1 : decide ((k : Int) < (rs.length : Int)) = false := decide_eq_false (by omega)
      have d1' : decide (k < rs.length) = false := decide_eq_false hlt
      have hx2 := hx.out
      rw [hkl, List.take_length] at hx2
      have Hx2 := Lib.hid hx2
      clear hx hx2
      by_cases h8 : rs.length ≤ 8
      · have d4 : decide ((rs.length : Int) ≤ 8) = true := decide_eq_true (by omega)
        have d4' : decide (rs.length ≤ 8) = true := decide_eq_true h8
        by_cases h60 : n ≤ 60
        · have d3 : decide ((n : Int) ≤ 60) = true := decide_eq_true (by omega)
          have d3' : decide (n ≤ 60) = true := decide_eq_true h60
          go_wp2_with fail
          go_ret
          first | exact ⟨rfl, .inr ⟨rfl, h8, by rw [Hx2.out]; exact h60⟩⟩ | exact ⟨rfl, .inr ⟨rfl, by rw [Hx2.out]; exact h60⟩⟩
        · have d3 : decide ((n : Int) ≤ 60) = false := decide_eq_false (by omega)
          have d3' : decide (n ≤ 60) = false := decide_eq_false h60
          go_wp2_with fail
          go_ret
          first | exact ⟨rfl, rfl⟩ | exact ⟨rfl, .inl rfl⟩
      · have d4 : decide ((rs.length : Int) ≤ 8) = false := decide_eq_false (by omega)
        have d4' : decide (rs.length ≤ 8) = false := decide_eq_false h8
        go_wp2_with fail
        go_ret
        first | exact ⟨rfl, rfl⟩ | exact ⟨rfl, .inl rfl⟩

theorem chars_le (rs : List Rn) : (charsOf rs).length ≤ totL rs := by
  induction rs with
  | nil => exact Nat.le_refl _
  | cons r rs ih =>
    have e1 : charsOf (r :: rs) = runCh r ++ charsOf rs := by unfold charsOf; rw [List.flatMap_cons]
    have e2 : totL (r :: rs) = r.t.length + totL rs := by unfold totL; simp
    rw [e1, e2, List.length_append]
    have : (runCh r).length ≤ r.t.length := by
      unfold runCh
      split <;> simp
    omega
theorem tot_mem {rs : List Rn} {r : Rn} (h : r ∈ rs) : r.t.length ≤ totL rs := by
  induction rs with
  | nil => simp at h
  | cons a rs ih =>
    have e2 : totL (a :: rs) = a.t.length + totL rs := by unfold totL; simp
    rcases List.mem_cons.1 h with rfl | h
    · omega
    · have := ih h; omega

set_option maxHeartbeats 4000000 in
theorem few_c (m : Nat) (hm : m ≤ 100) (A : Option Addr) (is : List It) (c : Nat) (w : World) (hA : PatAt w w.heap.size A is) (hsz : ∀ x ∈ is, x.t.length ≤ maxLen ∧ x.set.length ≤ maxLen) (hc : is.length ≤ maxLen) :
    Calls Tryd.prog 20 #[.slice A is.length c, .int .i64 m] w fun e w' => w = w' ∧ (e = .returned (.bool false) ∨ e = .returned (.bool true) ∧ is.length ≤ m ∧ ∀ x ∈ is, x.set.length ≤ 40 ∧ x.t.length ≤ 40) := by
  have hmx : maxLen = 9223372036854775807 := rfl
  go_enter Tryd.func20, Tryd.ntmps20
  go_wp2_with fail
  go_loop [5] (fun iv => ∃ k : Nat, iv = .int .i64 k ∧ k ≤ is.length ∧ k ≤ m + 1 ∧ Hid (∀ i (h : i < is.length), i < k → (is[i]'h).set.length ≤ 40 ∧ (is[i]'h).t.length ≤ 40)) (fun iv => is.length - (intOf iv).toNat)
  case atStart => exact ⟨0, rfl, by omega, by omega, Lib.hid (fun i h h' => by omega)⟩
  case round =>
    obtain ⟨k, rfl, hk, hk9, hx⟩ := hrel
    by_cases hlt : k < is.length
    · have d1 : decide ((k : Int) < (is.length : Int)) = true := decide_eq_true (by omega)
      have d1' : decide (k < is.length) = true := decide_eq_true hlt
      by_cases h8 : k ≤ m
      · have d2 : decide ((k : Int) ≤ (m : Int)) = true := decide_eq_true (by omega)
        have d2' : decide (k ≤ m) = true := decide_eq_true h8
        obtain ⟨b, off, rfl, hbl, hcell⟩ : ∃ b off, A = some ⟨b, off, none⟩ ∧ b < w.heap.size ∧ ∀ k (h : k < is.length), ∃ sv, w.cell? ⟨b, off + k * 4, none⟩ = some (.int .i64 (is[k]'h).k) ∧ w.cell? ⟨b, off + k * 4 + 1, none⟩ = some (.string ⟨(is[k]'h).t.toArray⟩) ∧ w.cell? ⟨b, off + k * 4 + 2, none⟩ = some (.bool (is[k]'h).neg) ∧ w.cell? ⟨b, off + k * 4 + 3, none⟩ = some sv ∧ SpAt w w.heap.size sv (is[k]'h).set := by
          rcases hA with rfl | h
          · simp at hlt
          · exact h
        obtain ⟨sv, x0, x1, x2, x3, ys⟩ := hcell k hlt
        obtain ⟨A9, c9, rfl, _⟩ := ys
        have hs := hsz (is[k]'hlt) (List.getElem_mem hlt)
        have hnext : (is[k]'hlt).set.length ≤ 40 → (is[k]'hlt).t.length ≤ 40 → Hid (∀ i (h : i < is.length), i < k + 1 → (is[i]'h).set.length ≤ 40 ∧ (is[i]'h).t.length ≤ 40) := fun h1 h2 => Lib.hid (fun i h h' => by
          by_cases hik : i = k
          · subst hik; exact ⟨h1, h2⟩
          · exact hx.out i h (by omega))
        generalize is[k]'hlt = q at *
        obtain ⟨qk, qt, qn, qs⟩ := q
        simp only at hs hnext x0 x1 x2 x3
        have hz : (⟨qt.toArray⟩ : ByteArray).size = qt.length := by show qt.toArray.size = _; simp
        generalize hbx : (⟨qt.toArray⟩ : ByteArray) = bx at *
        clear hcell hx hA hsz hbx
        by_cases h40 : 40 < qs.length
        · have d3 : decide ((40 : Int) < (qs.length : Int)) = true := decide_eq_true (by omega)
          have d3' : decide (40 < qs.length) = true := decide_eq_true h40
          clear hnext
          go_wp2_with fail
          go_ret
          first | exact ⟨rfl, rfl⟩ | exact ⟨rfl, .inl rfl⟩
        · have d3 : decide ((40 : Int) < (qs.length : Int)) = false := decide_eq_false (by omega)
          have d3' : decide (40 < qs.length) = false := decide_eq_false h40
          by_cases h41 : 40 < bx.size
          · have d4 : decide ((40 : Int) < (bx.size : Int)) = true := decide_eq_true (by omega)
            have d4' : decide (40 < bx.size) = true := decide_eq_true h41
            clear hnext
            go_wp2_with fail
            go_ret
            first | exact ⟨rfl, rfl⟩ | exact ⟨rfl, .inl rfl⟩
          · have d4 : decide ((40 : Int) < (bx.size : Int)) = false := decide_eq_false (by omega)
            have d4' : decide (40 < bx.size) = false := decide_eq_false h41
            have hn := hnext (by omega) (by omega)
            clear hnext hs hz
            go_wp2_with fail
            go_round
            case rel => exact ⟨k + 1, by go_num, by omega, by omega, hn⟩
            case measure => simp [intOf]; omega
      · have d2 : decide ((k : Int) ≤ (m : Int)) = false := decide_eq_false (by omega)
        have d2' : decide (k ≤ m) = false := decide_eq_false h8
        have d4 : decide ((is.length : Int) ≤ (m : Int)) = false := decide_eq_false (by omega)
        have d4' : decide (is.length ≤ m) = false := decide_eq_false (by omega)
        clear hx
        go_wp2_with fail
        go_ret
        first | exact ⟨rfl, rfl⟩ | exact ⟨rfl, .inl rfl⟩
    · have hkl : k = is.length := by omega
      have d1 : decide ((k : Int) < (is.length : Int)) = false := decide_eq_false (by omega)
      have d1' : decide (k < is.length) = false := decide_eq_false hlt
      have hall : Hid (∀ x ∈ is, x.set.length ≤ 40 ∧ x.t.length ≤ 40) := Lib.hid (fun x hx2 => by
        obtain ⟨i, hi, rfl⟩ := List.getElem_of_mem hx2
        exact hx.out i hi (by omega))
      clear hx
      by_cases h8 : is.length ≤ m
      · have d4 : decide ((is.length : Int) ≤ (m : Int)) = true := decide_eq_true (by omega)
        have d4' : decide (is.length ≤ m) = true := decide_eq_true h8
        go_wp2_with fail
        go_ret
        first | exact ⟨rfl, .inr ⟨rfl, hall.out⟩⟩ | exact ⟨rfl, .inr ⟨rfl, h8, hall.out⟩⟩
      · have d4 : decide ((is.length : Int) ≤ (m : Int)) = false := decide_eq_false (by omega)
        have d4' : decide (is.length ≤ m) = false := decide_eq_false h8
        go_wp2_with fail
        go_ret
        first | exact ⟨rfl, rfl⟩ | exact ⟨rfl, .inl rfl⟩
end Go.Proofs.YteppndkhmbhnkaaDoor
