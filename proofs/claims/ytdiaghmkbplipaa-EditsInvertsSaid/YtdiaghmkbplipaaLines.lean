/- The contract of edits.Lines. -/
import Derived.Test.YtdiaghmkbplipaaEach
import Derived.Deep.QuietTactic
import Derived.BigQuiet
import Derived.WalkSmall
import Derived.Lib.Builder
import Derived.Deep.AppendLies
import Derived.Deep.RegionLaw
import Derived.Deep.RegionHeld3
namespace Go.Proofs.Ytdiaghmkbplipaa
open Go.RowKit

theorem strInfo : (Try.prog.info? 9).map (fun i => (i.zero, i.size, i.bytes)) = some (some (.string ⟨#[]⟩), 1, 16) := by kernel_rfl

theorem own_ne {w : World} {base g n : Nat} {e t : TypeId} {size : Nat} {v : Value} {xs : List Value} {cs : Array Value} (h : w.ownsRow base e size v n xs) (hg : w.heap[g]? = some (.cells cs t (0, 0))) (hne : e ≠ t) : v.ownBlock ≠ some g := by
  rcases h.2 with ⟨rfl, _⟩ | ⟨g', cap, cur, rfl, _, hh, _⟩
  · simp [Value.ownBlock]
  · intro he
    have : g' = g := by simpa [Value.ownBlock] using he
    subst this
    rw [hh] at hg
    injection hg with hg
    injection hg with _ ht
    exact hne ht

set_option maxHeartbeats 1000000 in
theorem lines1_c (a b : Nat) (g h n base : Nat) (v : Value) (xs : List Value) (s : ByteArray) (w : World) (hg : w.heap[g]? = some (.cells #[v] 31 (0, 0))) (hh : w.heap[h]? = some (.cells #[.string s] 9 (0, 0)))
    (hab : a ≤ b) (hb : b ≤ s.size) (hn : n ≤ 20000) (hown : w.ownsRow base 9 1 v n xs) (hbase : base ≤ w.heap.size) (hgh : g ≠ h) (hvh : v.ownBlock ≠ some h) (B : Nat) (hB1 : B ≤ g) (hB2 : B ≤ base) :
    Calls Try.prog 28 #[.int .i64 a, .int .i64 b, .pointer (some ⟨g, 0, none⟩), .pointer (some ⟨h, 0, none⟩)] w fun e w' => e = .returned (.bool true) ∧
      ∃ gg cap, w'.heap[g]? = some (.cells #[.slice (some ⟨gg, 0, none⟩) (n + 1) cap] 31 (0, 0)) ∧ w'.ownsRow base 9 1 (.slice (some ⟨gg, 0, none⟩) (n + 1) cap) (n + 1) (xs ++ [.string (s.extract a b)]) ∧
        (v.ownBlock = some gg ∨ w.heap.size ≤ gg) ∧ w'.heap[h]? = w.heap[h]? ∧ w.heap.size ≤ w'.heap.size ∧ Below B w w' := by
  obtain ⟨i0, hi0, hz0, hz1, hz2⟩ := info_parts strInfo
  have c1 := cell_of_one hg
  have c2 := cell_of_one hh
  have f1 := free_of_one hg
  have lg := lt_of_block hg
  have lh := lt_of_block hh
  have hvg := own_ne hown hg (by decide)
  have i1 : (0 : Int) ≤ (a : Int) := by omega
  have i2 : (a : Int) ≤ (b : Int) := by omega
  have i3 : (b : Int) ≤ (s.size : Int) := by omega
  clear hab
  go_enter Try.func28, Try.ntmps28
  go_wp2_with fail
  go_region_law ((refine step_append_lies _ (by rfl) _ _ _ (by rfl) base 9 i0 _ 1 16 Try.underlying31 hi0 hz0 hz1 hz2 rfl (by omega) v n xs (by rfl) ((hown.alloc _).drew) ⟨w.heap.size, 0, none⟩ 1 1 [.string (s.extract a b)] (by rfl) (by rfl) (World.news_of_block (cs := #[.string (s.extract a b)]) (t := 9) (fr := (0, 0)) (heap_alloc_new w _)) (by simp [Value.oneCell']) (by omega) (by simp only [maxLen]; omega) (by omega) (by simp; omega) (w.heap.size + 1) (by simp) ?_; intro gg cap w1 hown1 hgrow hat hlt; have hg1 : w1.heap[g]? = some (.cells #[v] 31 (0, 0)) := (hgrow.block g (by simp; omega) (fun e => hvg e.symm)).trans ((Lib.alloc_old w _ g lg).trans hg); have d1 := cell_of_one hg1; have d2 := free_of_one hg1))
  all_goals
    go_wp2
    go_ret
    refine ⟨rfl, gg, cap, one_setCell hg1, ownsRow_setCell_other hown1 (own_ne hown1 hg1 (by decide)) _, ?_, ?_, ?_, ?_⟩
    · rcases hat with h' | h'
      · exact .inl h'
      · exact .inr (by omega)
    · rw [Below.heap_setCell _ _ _ _ (by simpa using fun e => hgh e.symm)]
      exact (hgrow.block h (by simp; omega) (fun e => hvh e.symm)).trans (Lib.alloc_old w _ h lh)
    · have := hgrow.size; simp at this ⊢; omega
    · exact ((((Below.refl B w).alloc (by omega) _).drew).grown hgrow (by simp; omega) (fun k hk => by have := (hown.lt k hk).1; omega)).setCell (p := ⟨g, 0, none⟩) hB1 _

theorem spans_ok : ∀ (l : List UInt8) (st p : Nat), st ≤ p → ∀ x ∈ spans l st p, x.1 ≤ x.2 ∧ x.2 ≤ p + l.length
  | [], st, p, h, x, hx => by simp [spans] at hx; subst hx; simp; omega
  | c :: r, st, p, h, x, hx => by
    rw [spans_cons] at hx
    split at hx
    · rcases List.mem_cons.1 hx with rfl | hx
      · simp; omega
      · have := spans_ok r (p + 1) (p + 1) (by omega) x hx
        simp only [List.length_cons]; omega
    · have := spans_ok r st (p + 1) (by omega) x hx
      simp only [List.length_cons]; omega
theorem spans_length' : ∀ (l : List UInt8) (st p : Nat), (spans l st p).length ≤ l.length + 1
  | [], _, _ => by simp [spans]
  | c :: r, st, p => by
    rw [spans_cons]
    have h1 := spans_length' r (p + 1) (p + 1)
    have h2 := spans_length' r st (p + 1)
    split <;> simp <;> omega

/-- The lines of a text, as values. -/
def lineVals (s : ByteArray) (l : List (Nat × Nat)) : List Value := l.map fun x => .string (s.extract x.1 x.2)

/-- What Lines' function keeps from line to line. -/
def LinesR (s : ByteArray) (w : World) (tot : List Value) (rest : List (Nat × Nat)) (W : World) : Prop :=
  ∃ (v : Value) (n : Nat) (xs : List Value), W.heap[w.heap.size + 1]? = some (.cells #[v] 31 (0, 0)) ∧ W.heap[w.heap.size]? = some (.cells #[.string s] 9 (0, 0)) ∧
    W.ownsRow (w.heap.size + 2) 9 1 v n xs ∧ xs.length = n ∧ xs ++ lineVals s rest = tot ∧ w.heap.size + 2 ≤ W.heap.size ∧ (∀ x ∈ rest, x.1 ≤ x.2 ∧ x.2 ≤ s.size) ∧ Below w.heap.size w W

set_option maxHeartbeats 1000000 in
theorem lines_c (s : ByteArray) (w : World) (hs : s.size ≤ 17000) :
    Calls Try.prog 13 #[.string s] w fun e w' => ∃ (v : Value), e = .returned v ∧
      w'.ownsRow (w.heap.size + 2) 9 1 v (lineVals s (spans s.data.toList 0 0)).length (lineVals s (spans s.data.toList 0 0)) ∧ Below w.heap.size w w' := by
  have he : ∀ args W, (callFunc 28 args).run Try.prog W = .ok (.enter 28 args) W := fun _ _ => by go_simp
  have hsp := spans_length' s.data.toList 0 0
  have hok := spans_ok s.data.toList 0 0 (by omega)
  have hll : s.data.toList.length = s.size := by simp
  rw [hll] at hsp hok
  have key : ∀ W, LinesR s w (lineVals s (spans s.data.toList 0 0)) (spans s.data.toList 0 0) W →
      Calls Try.prog 24 #[.string s, .func (.func 28) #[] #[.pointer (some ⟨w.heap.size + 1, 0, none⟩), .pointer (some ⟨w.heap.size, 0, none⟩)]] W
        fun e w' => e = .returned (.tuple #[]) ∧ LinesR s w (lineVals s (spans s.data.toList 0 0)) [] w' := by
    intro W hW
    refine each_c _ _ _ (LinesR s w (lineVals s (spans s.data.toList 0 0))) _ W hs he ?_ hW
    rintro a b rest W1 ⟨v, n, xs, k1, k2, k3, k4, k5, k6, k7, k8⟩
    have hab := k7 (a, b) (List.mem_cons_self)
    have hnl : n ≤ 20000 := by
      have := congrArg List.length k5
      simp only [List.length_append, lineVals, List.length_map, List.length_cons] at this
      omega
    refine (lines1_c a b (w.heap.size + 1) w.heap.size n (w.heap.size + 2) v xs s W1 k1 k2 hab.1 hab.2 hnl k3 k6 (by omega) (fun e => by have := (k3.lt _ e).1; omega) w.heap.size (by omega) (by omega)).mono ?_
    rintro e w' ⟨rfl, gg, cap, m1, m2, _, m4, m5, m6⟩
    have hnext : LinesR s w (lineVals s (spans s.data.toList 0 0)) rest w' :=
      ⟨_, n + 1, _, m1, m4.trans k2, m2, by simp [k4], by rw [← k5]; simp [lineVals], by omega, fun x hx => k7 x (List.mem_cons_of_mem _ hx), k8.trans m6⟩
    refine ⟨true, rfl, fun _ => hnext, fun hh => ?_⟩
    rcases hh with hh | rfl
    · cases hh
    · exact hnext
  have H := Lib.hid key
  clear key
  clear hsp hll
  go_enter Try.func13, Try.ntmps13
  go_wp2_with fail
  refine (H.out _ ?_).mono ?_
  · refine ⟨.slice none 0 0, 0, [], ?_, ?_, ⟨by simp, .inl ⟨rfl, rfl⟩⟩, rfl, by simp, by simp, by simpa using hok, ((Below.refl _ w).alloc (Nat.le_refl _) _).alloc (by simp) _⟩
    · have := heap_alloc_new (w.alloc (.cells #[.string s] 9)) (.cells #[.slice none 0 0] 31)
      simpa using this
    · rw [Lib.alloc_old _ _ _ (by simp)]
      exact heap_alloc_new w _
  rintro e w' ⟨rfl, v, n, xs, k1, k2, k3, k4, k5, _, _, k8⟩
  have c1 := cell_of_one k1
  clear hok
  go_wp2
  go_ret
  have k5' : xs = lineVals s (spans s.data.toList 0 0) := by simpa [lineVals] using k5
  subst k5'
  subst k4
  exact ⟨v, rfl, k3, k8⟩
end Go.Proofs.Ytdiaghmkbplipaa
