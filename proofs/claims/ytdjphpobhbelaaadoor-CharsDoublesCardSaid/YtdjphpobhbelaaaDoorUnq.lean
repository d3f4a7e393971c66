/- The contract of chars.Unquote. -/
import Derived.Test.YtdjphpobhbelaaaDoorBld
import Derived.Test.YtdjphpobhbelaaaDoorDec
import Derived.Test.YtdjphpobhbelaaaDoorPlain
namespace Go.Proofs.YtdjphpobhbelaaaDoor
open Go.RowKit

/-- What the function that drops bytes of the text needs: the builder in block g, the text in h, the place that is still to be copied in f. -/
structure DropSt (B g h f : Nat) (s : ByteArray) (acc : List UInt8) (fr : Nat) (W : World) : Prop where
  bld : Lib.IsBuilderF 41 5 g g (Lib.byteCells acc) W
  txt : W.heap[h]? = some (.cells #[.string s] 9 (0, 0))
  frm : W.heap[f]? = some (.cells #[.int .i64 fr] 3 (0, 0))
  ord : B ≤ g ∧ B ≤ h ∧ B ≤ f ∧ g ≠ h ∧ g ≠ f ∧ h ≠ f ∧ g ≤ W.heap.size

set_option maxHeartbeats 1000000 in
theorem drop_c {B g h f : Nat} {s : ByteArray} {acc : List UInt8} {fr : Nat} {W : World} (a b : Nat) (hS : DropSt B g h f s acc fr W) (h1 : fr ≤ a) (h2 : a ≤ s.size) (h3 : s.size ≤ 10000) (h4 : acc.length ≤ 100000) :
    Calls Tryd.prog 32 #[.int .i64 a, .int .i64 b, .pointer (some ⟨g, 0, none⟩), .pointer (some ⟨h, 0, none⟩), .pointer (some ⟨f, 0, none⟩)] W
      fun e W' => e = .returned (.tuple #[]) ∧ DropSt B g h f s (acc ++ (s.data.toList.drop fr).take (a - fr)) b W' ∧ Below B W W' ∧ (∀ (k : Nat) (t : ByteArray) (p : Nat), W.heap[k]? = some (Obj.stringIter t p) → W'.heap[k]? = some (Obj.stringIter t p)) := by
  obtain ⟨hI, ht, hf, o1, o2, o3, o4, o5, o6, o7⟩ := hS
  have c1 := cell_of_one ht
  have c2 := cell_of_one hf
  have i1 : (fr : Int) ≤ (a : Int) := by omega
  have i2 : (a : Int) ≤ (s.size : Int) := by omega
  have i0 : (0 : Int) ≤ (fr : Int) := by omega
  have hx : (s.extract fr a).size ≤ 10000 := by simp; omega
  go_enter Tryd.func32, Tryd.ntmps32
  go_wp2_with fail
  refine (writeString g g (Lib.byteCells acc) (s.extract fr a) W hI (by rw [Lib.byteCells_length]; omega) o7).mono ?_
  rintro e w1 ⟨rfl, m1, m2, m3⟩
  have ht1 : w1.heap[h]? = some (.cells #[.string s] 9 (0, 0)) := m3 _ _ ht (by simpa using fun e => o4 e.symm) (by intro c fz hh; simp at hh)
  have hf1 : w1.heap[f]? = some (.cells #[.int .i64 fr] 3 (0, 0)) := m3 _ _ hf (by simpa using fun e => o5 e.symm) (by intro c fz hh; simp at hh)
  have d2 := cell_of_one hf1
  have d3 := free_of_one hf1
  have hgl := m1.lt
  have hfl := lt_of_block hf1
  go_wp2_with fail
  go_end0
  have ex : Lib.byteCells acc ++ Lib.strCells (s.extract fr a) = Lib.byteCells (acc ++ (s.data.toList.drop fr).take (a - fr)) := by rw [Lib.byteCells_append, Lib.strCells_eq, Lib.extract_data]
  rw [ex] at m1
  refine ⟨rfl, ⟨Or.inr (bld_far m1 hf1 (by decide) (fun e => o5 e.symm)), ?_, one_setCell hf1, o1, o2, o3, o4, o5, o6, by simp; omega⟩, (m2.mono o1).setCell (p := ⟨f, 0, none⟩) o3 _, fun k t p hk => ?_⟩
  · rw [Below.heap_setCell _ _ _ _ (by simpa using o6)]
    exact ht1
  · have hkf : k ≠ f := by
      rintro rfl
      rw [hf] at hk
      simp at hk
    have hkg : k ≠ g := by
      rintro rfl
      have hbl : ∃ c, W.heap[k]? = some (.cells c 41 (0, 0)) := by
        rcases hI with ⟨_, v, hb, _⟩ | ⟨_, v, hb, _⟩
        · exact ⟨_, hb⟩
        · exact ⟨_, hb⟩
      obtain ⟨c, hc⟩ := hbl
      rw [hc] at hk
      simp at hk
    rw [Below.heap_setCell _ _ _ _ (by simpa using hkf)]
    exact m3 _ _ hk (by simpa using hkg) (by intro c fz hh; simp at hh)

def blankS : ByteArray := ⟨#[32, 9, 10, 38, 124, 59, 40, 41, 60, 62, 36, 96]⟩
def escS : ByteArray := ⟨#[36, 96, 34, 92]⟩
theorem blankS_ascii : Ascii blankS := by
  intro i h
  have h10 : i < 12 := h
  revert i
  decide
theorem escS_ascii : Ascii escS := by
  intro i h
  have h10 : i < 4 := h
  revert i
  decide
theorem among_high {s : ByteArray} (ha : Ascii s) {r : Nat} (h : 128 ≤ r) : among s r = false := by
  unfold among
  rw [decide_eq_false_iff_not]
  rintro ⟨i, hi, e⟩
  have := ha i hi
  omega

/-- May a byte stand for itself within the quote (0: none)? -/
def okU (q r : Nat) : Bool := if q = 39 then true else if q = 34 then decide (r ≠ 36 ∧ r ≠ 96) else !among blankS r
/-- The rune of a quote, or -1. -/
def qv (q : Nat) : Int := if q = 0 then -1 else q

def preU (xs : List UInt8) (x : Nat × List UInt8) : Nat × List UInt8 := if x.1 = 0 then (0, xs ++ x.2) else (x.1, [])
/-- What the rest of a quoted form represents, within the quote q, behind a backslash or not: the error's number, the bytes. -/
def uq (q : Nat) : Bool → List UInt8 → Nat × List UInt8
  | false, [] => if q = 0 then (0, []) else (7, [])
  | true, [] => (7, [])
  | true, c :: r => if c = 10 then uq q false r else if q = 0 ∨ among escS c.toNat = true then preU [c] (uq q false r) else preU [92, c] (uq q false r)
  | false, c :: r =>
    if c = 92 ∧ q ≠ 39 then uq q true r
    else if q ≠ 0 ∧ c.toNat = q then uq 0 false r
    else if q = 0 ∧ (c = 39 ∨ c = 34) then uq c.toNat false r
    else if okU q c.toNat = false then (6, [])
    else preU [c] (uq q false r)
termination_by _ l => l.length

theorem preU_preU (a b : List UInt8) (x : Nat × List UInt8) : preU a (preU b x) = preU (a ++ b) x := by
  unfold preU
  by_cases h : x.1 = 0 <;> simp [h]
theorem preU_nil (x : Nat × List UInt8) (h : x.1 = 0 ∨ x.2 = []) : preU [] x = x := by
  unfold preU
  obtain ⟨a, b⟩ := x
  by_cases h0 : a = 0
  · simp [h0]
  · rcases h with h | h
    · exact absurd h h0
    · simp only at h; subst h; simp [h0]
theorem okU_high {q r : Nat} (h : 128 ≤ r) : okU q r = true := by
  unfold okU
  split
  · rfl
  · split
    · exact decide_eq_true (by omega)
    · rw [among_high blankS_ascii h]; rfl
theorem uq_high {q : Nat} (hq : q = 0 ∨ q = 39 ∨ q = 34) (r : List UInt8) : ∀ hs : List UInt8, hs ≠ [] → (∀ c ∈ hs, 128 ≤ c.toNat) → uq q false (hs ++ r) = preU hs (uq q false r)
  | [], h, _ => absurd rfl h
  | c :: hs, _, h => by
    have hc := h c List.mem_cons_self
    have n92 : c ≠ 92 := by rintro rfl; revert hc; decide
    have n39 : c ≠ 39 := by rintro rfl; revert hc; decide
    have n34 : c ≠ 34 := by rintro rfl; revert hc; decide
    rw [List.cons_append, uq, if_neg (by simp [n92]), if_neg (by omega), if_neg (by simp [n39, n34]), if_neg (by rw [okU_high hc]; simp)]
    rcases hs with _ | ⟨d, hs⟩
    · rfl
    · rw [uq_high hq r (d :: hs) (by simp) (fun x hx => h x (List.mem_cons_of_mem _ hx)), preU_preU]
      rfl

set_option maxHeartbeats 1000000 in
theorem permitted_c (R q : Nat) (w : World) (hR : R ≤ 2147483647) (hq : q = 0 ∨ q = 39 ∨ q = 34) :
    Calls Tryd.prog 34 #[.int .i32 R, .int .i32 (qv q)] w fun e w' => e = .returned (.bool (okU q R)) ∧ Below w.heap.size w w' := by
  rcases hq with rfl | rfl | rfl
  · have hc := fun W => containsRune_c blankS R W (by decide) blankS_ascii hR
    have Hc := Lib.hid hc
    clear hc
    rw [show okU 0 R = !among blankS R from rfl, show qv 0 = -1 from rfl]
    go_enter Tryd.func34, Tryd.ntmps34
    go_wp2_with fail
    refine (Hc.out _).mono ?_
    rintro e w' ⟨rfl, hb⟩
    go_wp2_with fail
    go_ret
    exact ⟨rfl, hb⟩
  · rw [show okU 39 R = true from rfl, show qv 39 = 39 from rfl]
    go_enter Tryd.func34, Tryd.ntmps34
    go_wp2_with fail
    go_ret
    exact ⟨rfl, Below.refl _ _⟩
  · rw [show qv 34 = 34 from rfl]
    by_cases h1 : R = 36
    · subst h1
      rw [show okU 34 36 = false from rfl]
      go_enter Tryd.func34, Tryd.ntmps34
      go_wp2_with fail
      go_ret
      exact ⟨rfl, Below.refl _ _⟩
    · by_cases h2 : R = 96
      · subst h2
        rw [show okU 34 96 = false from rfl]
        go_enter Tryd.func34, Tryd.ntmps34
        go_wp2_with fail
        go_ret
        exact ⟨rfl, Below.refl _ _⟩
      · rw [show okU 34 R = true from decide_eq_true ⟨h1, h2⟩]
        have t1 : ((R : Int) != 36) = true := by rw [bne_iff_ne]; omega
        have t2 : ((R : Int) != 96) = true := by rw [bne_iff_ne]; omega
        clear h1 h2
        go_enter Tryd.func34, Tryd.ntmps34
        go_wp2_with fail
        go_ret
        exact ⟨rfl, Below.refl _ _⟩
end Go.Proofs.YtdjphpobhbelaaaDoor
