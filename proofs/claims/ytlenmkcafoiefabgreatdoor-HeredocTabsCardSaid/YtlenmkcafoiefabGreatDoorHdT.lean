/- heredoc: the line that ends a here-document. -/
import Derived.Test.YtlenmkcafoiefabGreatDoorHdS
import Derived.Deep.RegionHeld3
import Derived.BigQuiet
import Derived.WalkSmall
namespace Go.Proofs.YtlenmkcafoiefabGreatDoor
open Go.RowKit Go.Shelf
attribute [local go_sem] Oper.semAt_some
set_option linter.unusedVariables false

/-- A line without its newline. -/
def chop (s : ByteArray) : ByteArray := if Lib.hasSuffix s.data.toList [10] = true then s.extract 0 (s.size - 1) else s
theorem chop_le (s : ByteArray) : (chop s).size ≤ s.size := by unfold chop; split <;> simp
theorem suf_pos {s : ByteArray} (h : Lib.hasSuffix s.data.toList [10] = true) : 1 ≤ s.size := by
  rcases Nat.eq_zero_or_pos s.size with h0 | h0
  · exfalso
    have : s.data.toList = [] := List.length_eq_zero_iff.1 (by rw [lenS]; exact h0)
    rw [this] at h
    revert h
    decide
  · exact h0
set_option maxHeartbeats 4000000 in
set_option maxRecDepth 100000 in
theorem chop_c0 (s : ByteArray) (w : World) (hs : s.size ≤ 140737488355328) : Calls Tryz.prog 65 #[.string s, .string ⟨#[10]⟩] w fun e w' => e = .returned (.string (chop s)) ∧ w = w' := by
  have h := Tryz.stringslite_HasSuffix s ⟨#[10]⟩ w (by omega)
  rw [show (⟨#[10]⟩ : ByteArray).data.toList = [10] from rfl] at h
  have hp := fun h => suf_pos (s := s) h
  unfold chop
  generalize Lib.hasSuffix s.data.toList [10] = R at *
  have H := Lib.hid h
  clear h
  rcases R with _ | _
  · rw [if_neg (by simp)]
    clear hp
    go_enter Tryz.func65, Tryz.ntmps65
    go_wp2_with fail
    refine H.out.mono ?_
    rintro e w7 ⟨rfl, rfl⟩
    go_wp2_with fail
    go_ret
    exact ⟨rfl, rfl⟩
  · rw [if_pos rfl]
    have h1 := hp rfl
    have b1 : (0 : Int) ≤ (s.size : Int) - 1 := by omega
    have b2 : (s.size : Int) - 1 ≤ (s.size : Int) := by omega
    have b3 : ((s.size : Int) - 1).toNat = s.size - 1 := by omega
    have b4 : IntKind.i64.wrap ((s.size : Int) - 1) = (s.size : Int) - 1 := IntWalk.i64_in _ (by omega)
    clear hp
    go_enter Tryz.func65, Tryz.ntmps65
    go_wp2_with fail
    refine H.out.mono ?_
    rintro e w7 ⟨rfl, rfl⟩
    go_wp2_with fail
    go_ret
    exact ⟨rfl, rfl⟩
set_option maxHeartbeats 4000000 in
set_option maxRecDepth 100000 in
theorem chop_c (s : ByteArray) (w : World) (hs : s.size ≤ 140737488355328) : Calls Tryz.prog 40 #[.string s, .string ⟨#[10]⟩] w fun e w' => e = .returned (.string (chop s)) ∧ w = w' := by
  have H := Lib.hid (chop_c0 s w hs)
  generalize chop s = r at *
  go_enter Tryz.func40, Tryz.ntmps40
  go_wp2_with fail
  refine H.out.mono ?_
  rintro e w7 ⟨rfl, rfl⟩
  go_wp2_with fail
  go_ret
  exact ⟨rfl, rfl⟩
/-- Whether a line ends a here-document. -/
def termB (x T : ByteArray) (b : Bool) : Bool := (chop (if b = true then tabL x else x)).toList == T.toList
theorem tabL_le (s : ByteArray) : (tabL s).size ≤ s.size := (List.dropWhile_sublist (· == 9) (l := s.data.toList)).length_le
theorem keeps_of_below {W W' : World} (h : Below W.heap.size W W') : KeepsOthers W W' := ⟨h.size, fun k o hk _ => (h.block k (Array.getElem?_eq_some_iff.1 hk).1).trans hk⟩
set_option maxHeartbeats 8000000 in
set_option maxRecDepth 100000 in
theorem term_c (x T : ByteArray) (b q : Bool) (w : World) (hs : x.size ≤ 140737488355328) : Calls Tryz.prog 68 #[.string x, .agg #[.string T, .bool b, .bool q]] w fun e w' => e = .returned (.bool (termB x T b)) ∧ Below w.heap.size w w' := by
  unfold termB
  rcases b with _ | _
  · rw [if_neg (by simp)]
    have H := Lib.hid (fun W => chop_c x W hs)
    generalize chop x = r at *
    have hb := (Below.refl w.heap.size w).alloc (Nat.le_refl _) (.cells #[.string T, .bool false, .bool q] 45)
    have hh := heap_alloc_new w (.cells #[.string T, .bool false, .bool q] 45)
    have x0 : (w.alloc (.cells #[.string T, .bool false, .bool q] 45)).cell? ⟨w.heap.size, 0, none⟩ = some (.string T) := by rw [cell_of_row _ _ 0 _ _ _ hh]; rfl
    have x1 : (w.alloc (.cells #[.string T, .bool false, .bool q] 45)).cell? ⟨w.heap.size, 1, none⟩ = some (.bool false) := by rw [cell_of_row _ _ 1 _ _ _ hh]; rfl
    have Hb := Lib.hid hb
    clear hb hh
    go_enter Tryz.func68, Tryz.ntmps68
    go_wp2_with fail
    go_region_held3 (fun w' => w'.cell? ⟨w.heap.size, 0, none⟩ = some (.string T))
      (first | go_keep | assumption)
      ((go_at_call 40; refine (H.out _).mono ?_; rintro r w7 ⟨rfl, rfl⟩))
    go_wp2_with fail
    go_ret
    exact ⟨rfl, below_drewN Hb.out _⟩
  · rw [if_pos rfl]
    have htl := tabL_le x
    have G := Lib.hid (fun W => tabs_c x W)
    have H := Lib.hid (fun W => chop_c (tabL x) W (by omega))
    generalize tabL x = y at *
    generalize chop y = r at *
    have hb := (Below.refl w.heap.size w).alloc (Nat.le_refl _) (.cells #[.string T, .bool true, .bool q] 45)
    have hh := heap_alloc_new w (.cells #[.string T, .bool true, .bool q] 45)
    have x0 : (w.alloc (.cells #[.string T, .bool true, .bool q] 45)).cell? ⟨w.heap.size, 0, none⟩ = some (.string T) := by rw [cell_of_row _ _ 0 _ _ _ hh]; rfl
    have x1 : (w.alloc (.cells #[.string T, .bool true, .bool q] 45)).cell? ⟨w.heap.size, 1, none⟩ = some (.bool true) := by rw [cell_of_row _ _ 1 _ _ _ hh]; rfl
    have Hb := Lib.hid hb
    clear hb hh
    go_enter Tryz.func68, Tryz.ntmps68
    go_wp2_with fail
    refine (G.out _).mono ?_
    rintro e w7 ⟨rfl, rfl⟩
    go_wp2_with fail
    go_region_held3 (fun w' => w'.cell? ⟨w.heap.size, 0, none⟩ = some (.string T))
      (first | go_keep | assumption)
      ((go_at_call 40; refine (H.out _).mono ?_; rintro r w7 ⟨rfl, rfl⟩))
    go_wp2_with fail
    go_ret
    exact ⟨rfl, below_drewN Hb.out _⟩
def termL (l : List (Nat × ByteArray)) (T : ByteArray) (b : Bool) : Option (Nat × ByteArray) := l.find? (fun x => termB x.2 T b)
theorem six_alloc (w : World) (o1 o2 o3 o4 o5 o6 : Obj) : ∀ W : World, W = (((((w.alloc o1).alloc o2).alloc o3).alloc o4).alloc o5).alloc o6 →
    W.heap.size = w.heap.size + 6 ∧ Below w.heap.size w W ∧ W.heap[w.heap.size]? = some o1 ∧ W.heap[w.heap.size + 1]? = some o2 ∧ W.heap[w.heap.size + 1 + 1]? = some o3 ∧ W.heap[w.heap.size + 1 + 1 + 1]? = some o4 ∧ W.heap[w.heap.size + 1 + 1 + 1 + 1]? = some o5 ∧ W.heap[w.heap.size + 1 + 1 + 1 + 1 + 1]? = some o6 := by
  rintro W rfl
  have n1 := heap_alloc_new w o1
  have n2 := heap_alloc_new (w.alloc o1) o2
  have n3 := heap_alloc_new ((w.alloc o1).alloc o2) o3
  have n4 := heap_alloc_new (((w.alloc o1).alloc o2).alloc o3) o4
  have n5 := heap_alloc_new ((((w.alloc o1).alloc o2).alloc o3).alloc o4) o5
  have n6 := heap_alloc_new (((((w.alloc o1).alloc o2).alloc o3).alloc o4).alloc o5) o6
  simp only [World.size_alloc] at n2 n3 n4 n5 n6
  refine ⟨by simp, ?_, ?_, ?_, ?_, ?_, ?_, n6⟩
  · exact ((((((Below.refl _ w).alloc (Nat.le_refl _) _).alloc (by simp) _).alloc (by simp <;> omega) _).alloc (by simp <;> omega) _).alloc (by simp <;> omega) _).alloc (by simp <;> omega) _
  · rw [Below.heap_alloc _ _ _ (by simp <;> omega), Below.heap_alloc _ _ _ (by simp <;> omega), Below.heap_alloc _ _ _ (by simp <;> omega), Below.heap_alloc _ _ _ (by simp <;> omega), Below.heap_alloc _ _ _ (by simp)]; exact n1
  · rw [Below.heap_alloc _ _ _ (by simp <;> omega), Below.heap_alloc _ _ _ (by simp <;> omega), Below.heap_alloc _ _ _ (by simp <;> omega), Below.heap_alloc _ _ _ (by simp)]; exact n2
  · rw [Below.heap_alloc _ _ _ (by simp <;> omega), Below.heap_alloc _ _ _ (by simp <;> omega), Below.heap_alloc _ _ _ (by simp)]; exact n3
  · rw [Below.heap_alloc _ _ _ (by simp <;> omega), Below.heap_alloc _ _ _ (by simp)]; exact n4
  · rw [Below.heap_alloc _ _ _ (by simp)]; exact n5
/-- What the loop's world holds: d, the three results, s. -/
structure TmSt (h : Nat) (s T : ByteArray) (b q : Bool) (F G : Int) (O : Bool) (W : World) : Prop where
  d0 : W.cell? ⟨h, 0, none⟩ = some (.string T)
  d1 : W.cell? ⟨h, 1, none⟩ = some (.bool b)
  d2 : W.cell? ⟨h, 2, none⟩ = some (.bool q)
  f : W.cell? ⟨h + 1, 0, none⟩ = some (.int .i64 F)
  ff : W.frozen? ⟨h + 1, 0, none⟩ = false
  g : W.cell? ⟨h + 1 + 1, 0, none⟩ = some (.int .i64 G)
  gf : W.frozen? ⟨h + 1 + 1, 0, none⟩ = false
  o : W.cell? ⟨h + 1 + 1 + 1, 0, none⟩ = some (.bool O)
  of : W.frozen? ⟨h + 1 + 1 + 1, 0, none⟩ = false
  sb : W.cell? ⟨h + 1 + 1 + 1 + 1, 0, none⟩ = some (.string s)
theorem TmSt.kept {h : Nat} {s T : ByteArray} {b q : Bool} {F G : Int} {O : Bool} {A B : World} {row : Option Nat} (hs : TmSt h s T b q F G O A) (hg : A.grownBy B row) (hr : ∀ r, row = some r → ∃ o : Obj, A.heap[r]? = some o ∧ o.isCells = false) : TmSt h s T b q F G O B :=
  ⟨cell_kept hs.d0 hg hr, cell_kept hs.d1 hg hr, cell_kept hs.d2 hg hr, cell_kept hs.f hg hr, (frozen_kept hs.f hg hr).trans hs.ff, cell_kept hs.g hg hr, (frozen_kept hs.g hg hr).trans hs.gf, cell_kept hs.o hg hr, (frozen_kept hs.o hg hr).trans hs.of, cell_kept hs.sb hg hr⟩
theorem TmSt.below {h : Nat} {s T : ByteArray} {b q : Bool} {F G : Int} {O : Bool} {A B : World} (hs : TmSt h s T b q F G O A) (hb : Below A.heap.size A B) : TmSt h s T b q F G O B := by
  have hg : ∀ {a : Addr} {v : Value}, A.cell? a = some v → a.block < A.heap.size := by
    intro a v h
    obtain ⟨o, ho, _⟩ := cells_of_cell h
    exact (Array.getElem?_eq_some_iff.1 ho).1
  have hf : ∀ {a : Addr} {v : Value}, A.cell? a = some v → B.frozen? a = A.frozen? a := fun h => World.frozen?_of_block (hb.block _ (hg h))
  exact ⟨(hb.cell (hg hs.d0)).trans hs.d0, (hb.cell (hg hs.d1)).trans hs.d1, (hb.cell (hg hs.d2)).trans hs.d2, (hb.cell (hg hs.f)).trans hs.f, (hf hs.f).trans hs.ff, (hb.cell (hg hs.g)).trans hs.g, (hf hs.g).trans hs.gf, (hb.cell (hg hs.o)).trans hs.o, (hf hs.o).trans hs.of, (hb.cell (hg hs.sb)).trans hs.sb⟩
theorem TmSt.put {h : Nat} {s T : ByteArray} {b q : Bool} {F G : Int} {O : Bool} {A : World} (hs : TmSt h s T b q F G O A) (F' G' : Int) (O' : Bool) :
    TmSt h s T b q F' G' O' (((A.setCell ⟨h + 1, 0, none⟩ (.int .i64 F')).setCell ⟨h + 1 + 1, 0, none⟩ (.int .i64 G')).setCell ⟨h + 1 + 1 + 1, 0, none⟩ (.bool O')) := by
  refine ⟨?_, ?_, ?_, ?_, ?_, ?_, ?_, ?_, ?_, ?_⟩
  · rw [World.cell?_setCell_far _ _ _ _ (by simp <;> omega), World.cell?_setCell_far _ _ _ _ (by simp <;> omega), World.cell?_setCell_far _ _ _ _ (by simp)]; exact hs.d0
  · rw [World.cell?_setCell_far _ _ _ _ (by simp <;> omega), World.cell?_setCell_far _ _ _ _ (by simp <;> omega), World.cell?_setCell_far _ _ _ _ (by simp)]; exact hs.d1
  · rw [World.cell?_setCell_far _ _ _ _ (by simp <;> omega), World.cell?_setCell_far _ _ _ _ (by simp <;> omega), World.cell?_setCell_far _ _ _ _ (by simp)]; exact hs.d2
  · rw [World.cell?_setCell_far _ _ _ _ (by simp <;> omega), World.cell?_setCell_far _ _ _ _ (by simp)]; exact World.cell?_setCell_same' _ _ _ (by rw [hs.f]; rfl)
  · rw [World.frozen?_setCell, World.frozen?_setCell, World.frozen?_setCell]; exact hs.ff
  · rw [World.cell?_setCell_far _ _ _ _ (by simp)]; exact World.cell?_setCell_same' _ _ _ (by rw [World.cell?_setCell_far _ _ _ _ (by simp), hs.g]; rfl)
  · rw [World.frozen?_setCell, World.frozen?_setCell, World.frozen?_setCell]; exact hs.gf
  · exact World.cell?_setCell_same' _ _ _ (by rw [World.cell?_setCell_far _ _ _ _ (by simp), World.cell?_setCell_far _ _ _ _ (by simp <;> omega), hs.o]; rfl)
  · rw [World.frozen?_setCell, World.frozen?_setCell, World.frozen?_setCell]; exact hs.of
  · rw [World.cell?_setCell_far _ _ _ _ (by simp), World.cell?_setCell_far _ _ _ _ (by simp <;> omega), World.cell?_setCell_far _ _ _ _ (by simp <;> omega)]; exact hs.sb
theorem termL_snoc_none {l : List (Nat × ByteArray)} {T : ByteArray} {b : Bool} {x : Nat × ByteArray} (h : termL l T b = none) (hx : termB x.2 T b = false) : termL (l ++ [x]) T b = none := by
  unfold termL at *; rw [List.find?_append, h]; simp [hx]
theorem termL_snoc_some {l : List (Nat × ByteArray)} {T : ByteArray} {b : Bool} {x : Nat × ByteArray} (h : termL l T b = none) (hx : termB x.2 T b = true) : termL (l ++ [x]) T b = some x := by
  unfold termL at *; rw [List.find?_append, h]; simp [hx]
theorem termL_pre {l m : List (Nat × ByteArray)} {T : ByteArray} {b : Bool} {x : Nat × ByteArray} (h : termL l T b = some x) (hp : l <+: m) : termL m T b = some x := by
  obtain ⟨r, rfl⟩ := hp
  unfold termL at *; rw [List.find?_append, h]; rfl
/-- What Terminator answers. -/
def termV (o : Option (Nat × ByteArray)) : Array Value := match o with | some x => #[.int .i64 x.1, .int .i64 ((x.1 : Int) + x.2.size), .bool true] | none => #[.int .i64 0, .int .i64 0, .bool false]
set_option maxHeartbeats 8000000 in
set_option maxRecDepth 100000 in
theorem Term_c (s T : ByteArray) (b q : Bool) (p : Nat) (w : World) (hs : s.size ≤ 1000000) (hp : p ≤ s.size) : Calls Tryz.prog 44 #[.string s, .int .i64 p, .agg #[.string T, .bool b, .bool q]] w fun e w' =>
    e = .returned (.tuple (termV (termL (lnsL s p) T b))) ∧ Below w.heap.size w w' := by
  refine (callsIn_wide (n := 3)).1 ?_
  refine callsIn_of_wp_marks Tryz.func44 rfl trivial ?_ rfl
  simp only [Tryz.ntmps44, List.size_toArray, List.length_cons, List.length_nil, Nat.reduceAdd, Nat.reduceSub, Array.replicate_succ, Array.replicate_zero, List.push_toArray, List.append_toArray, List.nil_append, List.cons_append]
  gi_wp2_with (refine ⟨trivial, ?_⟩; gi_at_call 37; refine (callsIn_wide.2 (From_c s p _)).mono ?_; rintro e w7 ⟨rfl, rfl⟩)
  obtain ⟨W0, hW0⟩ : ∃ W0 : World, W0 = (((((w.alloc (.cells #[.string T, .bool b, .bool q] 45)).alloc (.cells #[.int .i64 0] 3)).alloc (.cells #[.int .i64 0] 3)).alloc (.cells #[.bool false] 4)).alloc (.cells #[.string s] 9)).alloc (.cells #[.int .i64 p] 3) := ⟨_, rfl⟩
  rw [← hW0]
  obtain ⟨hsz, hB0, q1, q2, q3, q4, q5, q6⟩ := six_alloc w _ _ _ _ _ _ W0 hW0
  clear hW0
  have hst0 : TmSt w.heap.size s T b q 0 0 false W0 := ⟨by rw [Lib.cell_of_heap q1]; rfl, by rw [Lib.cell_of_heap q1]; rfl, by rw [Lib.cell_of_heap q1]; rfl, by rw [Lib.cell_of_heap q2]; rfl, Lib.frozen_of_heap q2 0, by rw [Lib.cell_of_heap q3]; rfl, Lib.frozen_of_heap q3 0, by rw [Lib.cell_of_heap q4]; rfl, Lib.frozen_of_heap q4 0, by rw [Lib.cell_of_heap q5]; rfl⟩
  refine wpIn_rangeFunc_ownF rfl (by omega) (gf := 61) (lb := #[.pointer (some ⟨w.heap.size + 1 + 1 + 1 + 1 + 1, 0, none⟩), .pointer (some ⟨w.heap.size + 1 + 1 + 1 + 1, 0, none⟩)]) rfl trivial (enters_of Tryz.func61 (by kernel_rfl) rfl)
    (from_stops _ (by omega) s p (by omega) hp (w.heap.size + 1 + 1 + 1 + 1) (w.heap.size + 1 + 1 + 1 + 1 + 1) W0 (by omega) (by omega) hst0.sb (by rw [Lib.cell_of_heap q6]; rfl)) kpS_t (kpS_b (by omega)) (Below.refl _ _) (fun _ => rfl)
    (fun pre W => (TmSt w.heap.size s T b q 0 0 false W ∧ termL (pre.map (·.1)) T b = none) ∧ Below w.heap.size w W)
    (fun c pre W => (c = .ret ∧ ∃ x : Nat × ByteArray, termL (pre.map (·.1)) T b = some x ∧ TmSt w.heap.size s T b q x.1 ((x.1 : Int) + x.2.size) true W) ∧ Below w.heap.size w W)
    (OwnFrom.and (Own.from (fun s' A C row hs hg hr => ⟨hs.1.kept hg hr, hs.2⟩) _) (ownFrom_below (Nat.le_refl _) (by omega)))
    (fun c => OwnFrom.and (Own.from (fun s' A C row hs hg hr => by obtain ⟨h1, x, h2, h3⟩ := hs; exact ⟨h1, x, h2, h3.kept hg hr⟩) _) (ownFrom_below (Nat.le_refl _) (by omega)))
    ⟨⟨hst0, rfl⟩, hB0⟩
    (fun x => { tmps := #[.string s, .int .i64 p, .agg #[.string T, .bool b, .bool q], undef, undef, .pointer (some ⟨w.heap.size, 0, none⟩), .pointer (some ⟨w.heap.size + 1, 0, none⟩), .pointer (some ⟨w.heap.size + 1 + 1, 0, none⟩), .pointer (some ⟨w.heap.size + 1 + 1 + 1, 0, none⟩), .int .i64 x.1.1, .string x.1.2, .string s, .int .i64 p, .func (.func 61) #[] #[.pointer (some ⟨w.heap.size + 1 + 1 + 1 + 1 + 1, 0, none⟩), .pointer (some ⟨w.heap.size + 1 + 1 + 1 + 1, 0, none⟩)], .int .i64 x.1.1, .string x.1.2, undef, undef, undef, undef, undef, undef, undef, undef], defers := [] }) ?assign ?body ?done ?stop
  case assign =>
    intro l x W K hK
    gi_wp2
    exact hK
  case body =>
    rintro l pre x W ⟨⟨hst, htn⟩, hB⟩ hN
    have hx1 := x.2.1
    have hx2 := x.2.2
    have htc := Lib.hid (fun W => term_c x.1.2 T b q W (by omega))
    have e0 : (pre ++ [x]).map (·.1) = pre.map (·.1) ++ [x.1] := by simp
    have y0 := hst.d0
    have y1 := hst.d1
    have y2 := hst.d2
    have Hst := Lib.hid hst
    clear hst hst0 q1 q2 q3 q4 q5 q6
    have Hnext : Hid (∀ v, termB x.1.2 T b = v → (v = false → termL ((pre ++ [x]).map (·.1)) T b = none) ∧ (v = true → termL ((pre ++ [x]).map (·.1)) T b = some x.1)) := Lib.hid (by
      rw [e0]
      rintro v rfl
      exact ⟨fun h => termL_snoc_none htn h, fun h => termL_snoc_some htn h⟩)
    generalize hv : termB x.1.2 T b = v at *
    have Hn := Lib.hid (Hnext.out v rfl)
    clear Hnext hv htn e0
    rcases v with _ | _
    · gi_wp2_with (first | (refine ⟨trivial, ?_⟩; gi_at_call 68; refine (CallsIn.inRound l (callsIn_wide.2 (htc.out _))).mono ?_; rintro e w7 ⟨rfl, m7⟩))
      have hst7 := Hst.out.below m7
      exact ⟨keeps_of_below m7, fun _ => hst7.sb, ⟨⟨hst7, Hn.out.1 trivial⟩, hB.trans (m7.mono hB.size)⟩⟩
    · have hlen : (0 : Int) ≤ (x.1.1 : Int) + x.1.2.size := by omega
      gi_wp2_with (first | (refine ⟨trivial, ?_⟩; gi_at_call 68; refine (CallsIn.inRound l (callsIn_wide.2 (htc.out _))).mono ?_; rintro e w7 ⟨rfl, m7⟩; obtain ⟨z1, z2, z10, z3, z4, z5, z6, z7, z8, z9⟩ := Hst.out.below m7))
      have hst7 := Hst.out.below m7
      have hput := hst7.put x.1.1 ((x.1.1 : Int) + x.1.2.size) true
      have hb7 := hB.trans (m7.mono hB.size)
      exact ⟨((keeps_of_below m7).trans (KeepsOthers.setCell _ _ _)).trans ((KeepsOthers.setCell _ _ _).trans (KeepsOthers.setCell _ _ _)), ⟨rfl, x.1, Hn.out.2 trivial, hput⟩, ((hb7.setCell (p := ⟨w.heap.size + 1, 0, none⟩) (by simp) _).setCell (p := ⟨w.heap.size + 1 + 1, 0, none⟩) (by simp <;> omega) _).setCell (p := ⟨w.heap.size + 1 + 1 + 1, 0, none⟩) (by simp <;> omega) _⟩
  case done =>
    rintro D ys W hD hSy ⟨⟨hst, htn⟩, hB⟩ hK
    rw [hSy] at htn
    have hput := hst.put 0 0 false
    obtain ⟨z1, z2, z10, z3, z4, z5, z6, z7, z8, z9⟩ := hst
    have hK' : (((W.setCell ⟨w.heap.size + 1, 0, none⟩ (.int .i64 0)).setCell ⟨w.heap.size + 1 + 1, 0, none⟩ (.int .i64 0)).setCell ⟨w.heap.size + 1 + 1 + 1, 0, none⟩ (.bool false)).heap[D]? = some (.deferred (some [])) := ((((KeepsOthers.setCell W _ _).trans (KeepsOthers.setCell _ _ _)).trans (KeepsOthers.setCell _ _ _))).same D _ hK rfl
    have hB' := ((hB.setCell (p := ⟨w.heap.size + 1, 0, none⟩) (by simp) (.int .i64 0)).setCell (p := ⟨w.heap.size + 1 + 1, 0, none⟩) (by simp <;> omega) (.int .i64 0)).setCell (p := ⟨w.heap.size + 1 + 1 + 1, 0, none⟩) (by simp <;> omega) (.bool false)
    gi_wp2
    refine ⟨by simp, .inl ⟨_, _, rfl, run_takeDeferred hK', ?_⟩⟩
    obtain ⟨c1, c2, c10, c3, c4, c5, c6, c7, c8, c9⟩ := hput.kept (grownBy_putObj' _ D (.deferred none)) (fun r e => by cases e; exact ⟨_, hK', rfl⟩)
    refine ⟨.tuple #[.int .i64 0, .int .i64 0, .bool false], ?_, by rw [htn]; rfl, hB'.trans (belowK_b (w := w) (Nat.le_refl _) _ D _ _ (by omega) hK' rfl rfl)⟩
    simp [results, Tryz.f44, go_sem, c3, c5, c7]
  case stop =>
    rintro D c pre W hD hpre ⟨⟨rfl, x, hx, hst⟩, hB⟩ hK
    have hx2 := termL_pre hx hpre
    gi_wp2
    refine ⟨by simp, .inl ⟨_, _, rfl, run_takeDeferred hK, ?_⟩⟩
    obtain ⟨c1, c2, c10, c3, c4, c5, c6, c7, c8, c9⟩ := hst.kept (grownBy_putObj' _ D (.deferred none)) (fun r e => by cases e; exact ⟨_, hK, rfl⟩)
    refine ⟨.tuple #[.int .i64 x.1, .int .i64 ((x.1 : Int) + x.2.size), .bool true], ?_, by rw [hx2]; rfl, hB.trans (belowK_b (w := w) (Nat.le_refl _) W D _ _ (by omega) hK rfl rfl)⟩
    simp [results, Tryz.f44, go_sem, c3, c5, c7]
end Go.Proofs.YtlenmkcafoiefabGreatDoor
