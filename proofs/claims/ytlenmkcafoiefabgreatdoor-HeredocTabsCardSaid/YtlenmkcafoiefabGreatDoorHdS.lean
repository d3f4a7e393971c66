/- heredoc: From and Strip. -/
import Derived.Test.YtlenmkcafoiefabGreatDoorHdI
import Derived.Test.YtlenmkcafoiefabGreatDoorBld
namespace Go.Proofs.YtlenmkcafoiefabGreatDoor
open Go.RowKit Go.Shelf
attribute [local go_sem] Oper.semAt_some
set_option linter.unusedVariables false

/-- A text without the tabs at the beginnings of its lines. -/
def stripB (l : List (Nat × ByteArray)) : List UInt8 := l.flatMap fun x => (tabL x.2).data.toList
def stripS (s : ByteArray) : ByteArray := ⟨(stripB (lnsL s 0)).toArray⟩
theorem stripB_snoc (l : List (Nat × ByteArray)) (x : Nat × ByteArray) : stripB (l ++ [x]) = stripB l ++ (tabL x.2).data.toList := by simp [stripB]
theorem others_keep {e : TypeId} {b : Nat} {W W' : World} (hs : W.heap.size ≤ W'.heap.size) (h : Lib.OthersKept e (some b) W W') (hb : ∃ c t f, W.heap[b]? = some (.cells c t f)) : KeepsOthers W W' := by
  refine ⟨hs, fun k o hk ho => h k o hk ?_ ?_⟩
  · intro e1
    cases e1
    obtain ⟨c, t, f, hc⟩ := hb
    rw [hc] at hk
    cases hk
    cases ho
  · intro c fz e1
    subst e1
    cases ho
theorem bld_own {T e : TypeId} {B b : Nat} {bs : List Value} {A C : World} {row : Option Nat} (h : Lib.IsBuilderF T e B b bs A) (hg : A.grownBy C row) (hr : ∀ r, row = some r → ∃ o : Obj, A.heap[r]? = some o ∧ o.isCells = false) : Lib.IsBuilderF T e B b bs C := by
  have key : ∀ p, Lib.BuilderAtF T e B b p bs A → Lib.BuilderAtF T e B b p bs C := by
    rintro p ⟨h1, v, h2, h3, h4⟩
    have hlt : b < A.heap.size := (Array.getElem?_eq_some_iff.1 h2).1
    have ne : ∀ k c t f, A.heap[k]? = some (.cells c t f) → some k ≠ row := by
      intro k c t f hk e1
      obtain ⟨o, ho, hc⟩ := hr k e1.symm
      rw [hk] at ho
      cases ho
      cases hc
    refine ⟨h1, v, (hg.block b hlt (ne _ _ _ _ h2)).trans h2, h3.kept hg ?_, h4⟩
    rcases h3.2 with ⟨rfl, _⟩ | ⟨g, cap, cur, fz, rfl, _, hh, _⟩
    · exact .inl rfl
    · exact .inr (ne _ _ _ _ hh)
  exact h.elim (fun x => .inl (key _ x)) (fun x => .inr (key _ x))
theorem blk_own {k : Nat} {c : Array Value} {t : TypeId} {f : Nat × Nat} {A C : World} {row : Option Nat} (h : A.heap[k]? = some (.cells c t f)) (hg : A.grownBy C row) (hr : ∀ r, row = some r → ∃ o : Obj, A.heap[r]? = some o ∧ o.isCells = false) : C.heap[k]? = some (.cells c t f) := by
  refine (hg.block k (Array.getElem?_eq_some_iff.1 h).1 ?_).trans h
  intro e1
  obtain ⟨o, ho, hc⟩ := hr k e1.symm
  rw [h] at ho
  cases ho
  cases hc
set_option maxHeartbeats 4000000 in
set_option maxRecDepth 100000 in
theorem From_c (s : ByteArray) (p : Nat) (w : World) : Calls Tryz.prog 37 #[.string s, .int .i64 p] w fun e w' => e = .returned (.func (.func 61) #[] #[.pointer (some ⟨w.heap.size + 1, 0, none⟩), .pointer (some ⟨w.heap.size, 0, none⟩)]) ∧ w' = (w.alloc (.cells #[.string s] 9)).alloc (.cells #[.int .i64 p] 3) := by
  go_enter Tryz.func37, Tryz.ntmps37
  go_wp2_with fail
  go_ret
  exact ⟨rfl, rfl⟩
set_option maxHeartbeats 8000000 in
set_option maxRecDepth 100000 in
theorem Strip_c (s : ByteArray) (w : World) (hs : s.size ≤ 1000000) : Calls Tryz.prog 21 #[.string s] w fun e w' => e = .returned (.string (stripS s)) ∧ Below w.heap.size w w' := by
  refine (callsIn_wide (n := 3)).1 ?_
  refine callsIn_of_wp_marks Tryz.func21 rfl trivial ?_ rfl
  simp only [Tryz.ntmps21, List.size_toArray, List.length_cons, List.length_nil, Nat.reduceAdd, Nat.reduceSub, Array.replicate_succ, Array.replicate_zero, List.push_toArray, List.append_toArray, List.nil_append, List.cons_append]
  gi_wp2_with (refine ⟨trivial, ?_⟩; gi_at_call 37; refine (callsIn_wide.2 (From_c s 0 _)).mono ?_; rintro e w7 ⟨rfl, rfl⟩)
  obtain ⟨W0, hW0⟩ : ∃ W0 : World, W0 = ((w.alloc (.cells #[.pointer none, .slice none 0 0] 52)).alloc (.cells #[.string s] 9)).alloc (.cells #[.int .i64 0] 3) := ⟨_, rfl⟩
  rw [← hW0]
  have hsz : W0.heap.size = w.heap.size + 3 := by rw [hW0]; simp
  have hB0 : Below w.heap.size w W0 := by rw [hW0]; exact (((Below.refl _ w).alloc (Nat.le_refl _) _).alloc (by simp) _).alloc (by simp; omega) _
  have hb0 : W0.heap[w.heap.size]? = some (.cells #[.pointer none, .slice none 0 0] 52 (0, 0)) := by
    rw [hW0, Below.heap_alloc _ _ _ (by simp; omega), Below.heap_alloc _ _ _ (by simp)]
    exact heap_alloc_new w _
  have hb1 : W0.heap[w.heap.size + 1]? = some (.cells #[.string s] 9 (0, 0)) := by
    rw [hW0, Below.heap_alloc _ _ _ (by simp)]
    have := heap_alloc_new (w.alloc (.cells #[.pointer none, .slice none 0 0] 52)) (.cells #[.string s] 9)
    rw [World.size_alloc] at this
    exact this
  have hb2 : W0.heap[w.heap.size + 2]? = some (.cells #[.int .i64 0] 3 (0, 0)) := by
    have := heap_alloc_new ((w.alloc (.cells #[.pointer none, .slice none 0 0] 52)).alloc (.cells #[.string s] 9)) (.cells #[.int .i64 0] 3)
    rw [World.size_alloc, World.size_alloc] at this
    rw [hW0]; exact this
  clear hW0
  have hlen := lnsF_len (s := s) (s.size + 1) 0
  rw [show lnsF (s.size + 1) s 0 = lnsL s 0 from rfl] at hlen
  refine wpIn_rangeFunc_ownF rfl (by omega) (gf := 61) (lb := #[.pointer (some ⟨w.heap.size + 1 + 1, 0, none⟩), .pointer (some ⟨w.heap.size + 1, 0, none⟩)]) rfl trivial (enters_of Tryz.func61 (by kernel_rfl) rfl)
    (from_stops _ (by omega) s 0 (by omega) (by omega) (w.heap.size + 1) (w.heap.size + 1 + 1) W0 (by omega) (by omega) (by rw [Lib.cell_of_heap hb1]; rfl) (by rw [Lib.cell_of_heap hb2]; rfl)) kpS_t (kpS_b (by omega)) (Below.refl _ _) (fun _ => rfl)
    (fun pre W => ((Lib.IsBuilderF 52 5 w.heap.size w.heap.size (Lib.byteCells (stripB (pre.map (·.1)))) W ∧ W.heap[w.heap.size + 1]? = some (.cells #[.string s] 9 (0, 0))) ∧ (stripB (pre.map (·.1))).length ≤ pre.length * s.size) ∧ Below w.heap.size w W)
    (fun _ _ _ => False)
    (OwnFrom.and ?own (ownFrom_below (Nat.le_refl _) (by omega)))
    (fun _ _ _ _ _ hs _ _ => hs)
    ⟨⟨⟨.inl ⟨Nat.le_refl _, _, hb0, World.ownsRowF_of ⟨rfl, .inl ⟨rfl, rfl⟩⟩, by simp [Value.ownBlock]⟩, hb1⟩, by simp [stripB]⟩, hB0⟩
    (fun x => { tmps := #[.string s, undef, .string ⟨#[]⟩, .pointer (some ⟨w.heap.size, 0, none⟩), undef, .string x.1.2, .string s, .func (.func 61) #[] #[.pointer (some ⟨w.heap.size + 1 + 1, 0, none⟩), .pointer (some ⟨w.heap.size + 1, 0, none⟩)], .int .i64 x.1.1, .string x.1.2, undef, undef, undef, undef], defers := [] }) ?assign ?body ?done ?stop
  case own => exact Own.from (fun s' A C row hs hg hr => ⟨⟨bld_own hs.1.1 hg hr, blk_own hs.1.2 hg hr⟩, hs.2⟩) _
  case assign =>
    intro l x W K hK
    gi_wp2
    exact hK
  case body =>
    rintro l pre x W ⟨⟨⟨hbld, hbx⟩, hln⟩, hB⟩ hN
    have htl : (tabL x.1.2).size ≤ s.size := by
      have h1 : ∀ l : List UInt8, (Lib.trimLeftB l 9).length ≤ l.length := fun l => (List.dropWhile_sublist _).length_le
      have h2 := h1 x.1.2.data.toList
      have h3 := x.2.2
      show (Lib.trimLeftB x.1.2.data.toList 9).length ≤ _
      rw [lenS] at h2
      omega
    have hbl : pre.length * s.size ≤ 1000000 * 1000000 := Nat.mul_le_mul (by omega) hs
    have hcl : (Lib.byteCells (stripB (pre.map (·.1)))).length + (tabL x.1.2).size ≤ 140737488355328 := by rw [Lib.byteCells_length]; omega
    have hwr := Lib.hid (writeString w.heap.size w.heap.size _ (tabL x.1.2) W hbld hcl hB.size)
    have hbb : ∃ c t f, W.heap[w.heap.size]? = some (.cells c t f) := by
      rcases hbld with ⟨_, v, h, _⟩ | ⟨_, v, h, _⟩ <;> exact ⟨_, _, _, h⟩
    have htb := Lib.hid (fun W => tabs_c x.1.2 W)
    have e2 : stripB ((pre ++ [x]).map (·.1)) = stripB (pre.map (·.1)) ++ (tabL x.1.2).data.toList := by rw [List.map_append]; exact stripB_snoc _ _
    have E2 := Lib.hid e2
    have Hln : Hid ((stripB ((pre ++ [x]).map (·.1))).length ≤ (pre ++ [x]).length * s.size) := Lib.hid (by
      rw [e2, List.length_append, List.length_append, Nat.add_mul]
      have : (tabL x.1.2).data.toList.length ≤ s.size := htl
      simp only [List.length_cons, List.length_nil, Nat.zero_add, Nat.one_mul]
      omega)
    clear e2 hbl hcl hln hbld
    gi_wp2_with (first
      | (refine ⟨trivial, ?_⟩; gi_at_call 39; refine (CallsIn.inRound l (callsIn_wide.2 (htb.out _))).mono ?_; rintro e w7 ⟨rfl, rfl⟩)
      | (refine ⟨trivial, ?_⟩; gi_at_call 38; refine (CallsIn.inRound l (callsIn_wide.2 hwr.out)).mono ?_; rintro e w8 ⟨rfl, g1, g2, g3⟩))
    have hb8 := g3 _ _ hbx (by simp) (by intro c fz h; cases h)
    refine ⟨others_keep (by have := g2.size; omega) g3 hbb, ?_, ⟨⟨⟨?_, hb8⟩, Hln.out⟩, hB.trans g2⟩⟩
    · intro _
      rw [Lib.cell_of_heap hb8]; rfl
    · rw [E2.out, Lib.byteCells_append]
      exact .inr g1
  case done =>
    rintro D ys W hD hSy ⟨⟨⟨hbld, hbx⟩, hln⟩, hB⟩ hK
    rw [hSy] at hbld
    have hst := Lib.hid (Tryz.Builder_String_any_k w.heap.size w.heap.size (stripB (lnsL s 0)) W hbld hB.size)
    rw [show (⟨(stripB (lnsL s 0)).toArray⟩ : ByteArray) = stripS s from rfl] at hst
    clear hbld hln
    gi_wp2_with (refine ⟨trivial, ?_⟩; gi_at_call 28; refine (callsIn_wide.2 hst.out).mono ?_; rintro e w9 ⟨rfl, g1, g2, g3⟩)
    have hK9 := g3 _ _ hK (by intro e1; cases e1; omega) (by intro c fz h; cases h)
    refine ⟨by simp, .inl ⟨_, _, rfl, run_takeDeferred hK9, ?_⟩⟩
    have hB9 := hB.trans g2
    exact ⟨_, results_tmp rfl _ _ _, rfl, hB9.trans (belowK_b (w := w) (Nat.le_refl _) w9 D _ _ (by omega) hK9 rfl rfl)⟩
  case stop =>
    rintro D c pre W _ _ h _
    exact h.elim
end Go.Proofs.YtlenmkcafoiefabGreatDoor
