/- The contract of edits.Place. -/
import Derived.Test.YtdiaghmkbplipaaEach
import Derived.Deep.QuietTactic
import Derived.BigQuiet
import Derived.WalkSmall
import Derived.WalkLawsBesides
import Derived.Lib.Builder
namespace Go.Proofs.Ytdiaghmkbplipaa
open Go.RowKit

def lastOf : List (Nat × Nat) → Nat → Nat
  | [], st => st
  | (a, _) :: r, _ => lastOf r a

/-- Place's two numbers at an offset of the text. -/
def placeL (s : ByteArray) (at_ : Nat) : Nat := (spans (s.data.toList.take at_) 0 0).length
def placeC (s : ByteArray) (at_ : Nat) : Int := (at_ : Int) - (lastOf (spans (s.data.toList.take at_) 0 0) 0 : Nat) + 1
def clampAt (s : ByteArray) (at_ : Int) : Nat := (min (max at_ 0) (s.size : Int)).toNat

set_option maxHeartbeats 400000 in
theorem place1_c (a b : Nat) (g h : Nat) (n st : Nat) (w : World) (hn : n ≤ 20000) (hg : w.heap[g]? = some (.cells #[.int .i64 n] 3 (0, 0))) (hh : w.heap[h]? = some (.cells #[.int .i64 st] 3 (0, 0))) (hgh : g ≠ h) :
    Calls Try.prog 23 #[.int .i64 a, .int .i64 b, .pointer (some ⟨g, 0, none⟩), .pointer (some ⟨h, 0, none⟩)] w fun e w' => e = .returned (.bool true) ∧ w' = (w.setCell ⟨g, 0, none⟩ (.int .i64 (n + 1))).setCell ⟨h, 0, none⟩ (.int .i64 a) := by
  have c1 := cell_of_one hg
  have c2 := cell_of_one hh
  have f1 := free_of_one hg
  have f2 := free_of_one hh
  go_enter Try.func23, Try.ntmps23
  go_wp2
  go_ret
  exact ⟨rfl, rfl⟩

/-- What Place's function keeps from line to line. -/
def PlaceR (w : World) (g : Nat) (N S : Nat) (rest : List (Nat × Nat)) (W : World) : Prop :=
  ∃ n st : Nat, W.heap[g]? = some (.cells #[.int .i64 n] 3 (0, 0)) ∧ W.heap[g + 1]? = some (.cells #[.int .i64 st] 3 (0, 0)) ∧ n + rest.length = N ∧ lastOf rest st = S ∧ Below g w W

theorem spans_length : ∀ (l : List UInt8) (st p : Nat), (spans l st p).length ≤ l.length + 1
  | [], _, _ => by simp [spans]
  | c :: r, st, p => by
    rw [spans_cons]
    have h1 := spans_length r (p + 1) (p + 1)
    have h2 := spans_length r st (p + 1)
    split <;> simp <;> omega

theorem lastOf_le : ∀ (l : List UInt8) (st p d : Nat), st ≤ p → d ≤ p → lastOf (spans l st p) d ≤ p + l.length
  | [], st, p, d, h, _ => by simp [spans, lastOf]; omega
  | c :: r, st, p, d, h, hd => by
    rw [spans_cons]
    split
    · have := lastOf_le r (p + 1) (p + 1) st (by omega) (by omega)
      simp only [lastOf, List.length_cons]
      omega
    · have := lastOf_le r st (p + 1) d (by omega) (by omega)
      simp only [List.length_cons]
      omega

set_option maxHeartbeats 1000000 in
theorem place_c (s : ByteArray) (at_ : Int) (w : World) (hs : s.size ≤ 17000) (ha : -9223372036854775808 ≤ at_) (hb : at_ ≤ 9223372036854775807) :
    Calls Try.prog 9 #[.string s, .int .i64 at_] w fun e w' => e = .returned (.tuple #[.int .i64 (placeL s (clampAt s at_)), .int .i64 (placeC s (clampAt s at_))]) ∧ Below w.heap.size w w' := by
  have he : ∀ args W, (callFunc 23 args).run Try.prog W = .ok (.enter 23 args) W := fun _ _ => by go_simp
  have hlen : ∀ c, (s.extract 0 c).size ≤ 17000 := fun c => by simp; omega
  have hsp := spans_length ((s.data.toList.take (clampAt s at_))) 0 0
  have hcl : clampAt s at_ ≤ s.size := by unfold clampAt; omega
  have key : ∀ W, Below w.heap.size w W → W.heap[w.heap.size]? = some (.cells #[.int .i64 0] 3 (0, 0)) → W.heap[w.heap.size + 1]? = some (.cells #[.int .i64 0] 3 (0, 0)) →
      Calls Try.prog 24 #[.string (s.extract 0 (clampAt s at_)), .func (.func 23) #[] #[.pointer (some ⟨w.heap.size, 0, none⟩), .pointer (some ⟨w.heap.size + 1, 0, none⟩)]] W
        fun e w' => e = .returned (.tuple #[]) ∧ PlaceR w w.heap.size (placeL s (clampAt s at_)) (lastOf (spans (s.data.toList.take (clampAt s at_)) 0 0) 0) [] w' := by
    intro W hW h0 h1
    refine each_c _ _ _ (PlaceR w w.heap.size (placeL s (clampAt s at_)) (lastOf (spans (s.data.toList.take (clampAt s at_)) 0 0) 0)) _ W (hlen _) he ?_ ?_
    · rintro a b rest W1 ⟨n, st, k1, k2, k3, k4, k5⟩
      refine (place1_c a b w.heap.size (w.heap.size + 1) n st W1 ?_ k1 k2 (by omega)).mono ?_
      · unfold placeL at k3; simp at hsp k3; omega
      rintro e w' ⟨rfl, rfl⟩
      have hnext : PlaceR w w.heap.size (placeL s (clampAt s at_)) (lastOf (spans (s.data.toList.take (clampAt s at_)) 0 0) 0) rest ((W1.setCell ⟨w.heap.size, 0, none⟩ (.int .i64 (n + 1))).setCell ⟨w.heap.size + 1, 0, none⟩ (.int .i64 a)) := by
        refine ⟨n + 1, a, ?_, ?_, by simp at k3; omega, k4, (k5.setCell (p := ⟨_, 0, none⟩) (Nat.le_refl _) _).setCell (p := ⟨_, 0, none⟩) (by simp) _⟩
        · rw [Below.heap_setCell _ _ _ _ (by simp)]
          exact one_setCell k1
        · exact one_setCell (v := .int .i64 st) (by rw [Below.heap_setCell _ _ _ _ (by simp)]; exact k2)
      refine ⟨true, rfl, fun _ => hnext, fun hh => ?_⟩
      rcases hh with hh | rfl
      · cases hh
      · exact hnext
    · rw [Lib.extract_data]
      exact ⟨0, 0, h0, h1, by simp [placeL], by simp, hW⟩
  have hb1 : Below w.heap.size w ((w.alloc (.cells #[.int .i64 0] 3)).alloc (.cells #[.int .i64 0] 3)) := ((Below.refl _ w).alloc (Nat.le_refl _) _).alloc (by simp) _
  have H := Lib.hid (key _ hb1 (by rw [Lib.alloc_old _ _ _ (by simp)]; exact heap_alloc_new w _) (by have := heap_alloc_new (w.alloc (.cells #[.int .i64 0] 3)) (.cells #[.int .i64 0] 3); simpa using this))
  clear key hb1
  have hfin : ∀ (W : World), PlaceR w w.heap.size (placeL s (clampAt s at_)) (lastOf (spans (s.data.toList.take (clampAt s at_)) 0 0) 0) [] W → W.cell? ⟨w.heap.size, 0, none⟩ = some (.int .i64 (placeL s (clampAt s at_))) ∧ W.cell? ⟨w.heap.size + 1, 0, none⟩ = some (.int .i64 ((lastOf (spans (s.data.toList.take (clampAt s at_)) 0 0) 0 : Nat) : Int)) ∧ Below w.heap.size w W := by
    rintro W ⟨n, st, k1, k2, k3, k4, k5⟩
    simp at k3
    subst k3
    simp only [lastOf] at k4
    subst k4
    exact ⟨cell_of_one k1, cell_of_one k2, k5⟩
  have hlast : lastOf (spans (s.data.toList.take (clampAt s at_)) 0 0) 0 ≤ clampAt s at_ := by
    have := lastOf_le (s.data.toList.take (clampAt s at_)) 0 0 0 (by omega) (by omega)
    simp at this
    omega
  unfold placeC
  generalize placeL s (clampAt s at_) = N at *
  generalize lastOf (spans (s.data.toList.take (clampAt s at_)) 0 0) 0 = S at *
  clear hsp hlen
  have Hf := Lib.hid hfin
  clear hfin
  have hci : ((clampAt s at_ : Nat) : Int) = min (max at_ 0) (s.size : Int) := by unfold clampAt; omega
  have u1 : IntKind.i64.wrap (min (max at_ 0) (s.size : Int) - (S : Int)) = min (max at_ 0) (s.size : Int) - S := IntWalk.i64_in _ (by omega)
  have u2 : IntKind.i64.wrap (min (max at_ 0) (s.size : Int) - (S : Int) + 1) = min (max at_ 0) (s.size : Int) - S + 1 := IntWalk.i64_in _ (by omega)
  rw [hci]
  unfold clampAt at H
  clear hci hlast hcl
  go_enter Try.func9, Try.ntmps9
  go_wp2_with fail
  refine H.out.mono ?_
  rintro e w' ⟨rfl, hR⟩
  obtain ⟨c1, c2, hb2⟩ := Hf.out _ hR
  clear hR
  go_wp2
  go_quiet (fail)
  go_wp2
  go_ret2
  exact ⟨rfl, below_drewN hb2 _⟩
end Go.Proofs.Ytdiaghmkbplipaa
