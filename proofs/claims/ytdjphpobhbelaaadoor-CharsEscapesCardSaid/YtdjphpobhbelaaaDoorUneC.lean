/- The contract of chars.Unescape. -/
import Derived.Test.YtdjphpobhbelaaaDoorTake
import Derived.Test.YtdjphpobhbelaaaDoorEscC
import Derived.Test.YtdjphpobhbelaaaDoorChM
namespace Go.Proofs.YtdjphpobhbelaaaDoor
open Go.RowKit

/-- The digit of a rune (-1: none). -/
def digR (r : Nat) : Int := if r < 128 then dig r.toUInt8 else -1

theorem hexS_ascii : Ascii hexS := by
  intro i h
  have h10 : i < 16 := h
  revert i
  decide

theorem index_c (r : Nat) (w : World) (h2 : r ≤ 2147483647) :
    Calls Tryd.prog 43 #[.string ⟨#[48, 49, 50, 51, 52, 53, 54, 55, 56, 57, 97, 98, 99, 100, 101, 102]⟩, .int .i32 r] w fun e w' => e = .returned (.int .i64 (digR r)) ∧ Below w.heap.size w w' := by
  unfold digR
  by_cases h1 : r < 128
  · rw [if_pos h1]
    have h := Tryd.strings_IndexRune_ascii hexS r w (by omega) (by omega)
    rw [Int.toNat_natCast] at h
    refine h.mono ?_
    rintro e w' ⟨rfl, rfl⟩
    exact ⟨rfl, Below.refl _ _⟩
  · rw [if_neg h1]
    exact indexRune_high hexS r w (by decide) hexS_ascii (by omega) h2

theorem dig_high {c : UInt8} (h : 128 ≤ c.toNat) : dig c = -1 := by
  have hr := dig_range c
  rcases Int.lt_or_le (dig c) 0 with h0 | h0
  · omega
  · have e := hx_dig h0
    have := (hx_range (dig c).toNat (by omega)).2
    rw [e] at this
    omega
theorem short_high {n : Int} (h : 128 ≤ n) : shortF n = (0, false) := by
  unfold shortF
  rw [if_neg (by omega), if_neg (by omega), if_neg (by omega)]
theorem short_u8 (n : Int) : ((shortF n).1.toNat.toUInt8.toNat : Int) = (shortF n).1 := by
  unfold shortF
  repeat' split
  all_goals rfl

theorem un1h (h : Nat) (l : List UInt8) : un 1 h l = un 1 0 l := by
  rcases l with _ | ⟨c, r⟩
  · rfl
  · rw [un1, un1]
theorem un2h (h : Nat) (l : List UInt8) : un 2 h l = un 2 0 l := by
  rcases l with _ | ⟨c, r⟩
  · rfl
  · rw [un2, un2]
theorem un0h (h : Nat) (l : List UInt8) : un 0 h l = un 0 0 l := by
  rcases l with _ | ⟨c, r⟩
  · rfl
  · rw [un0, un0]
theorem preU_err (a : List UInt8) : preU a (6, []) = (6, []) := rfl
theorem preU_shape (a : List UInt8) (x : Nat × List UInt8) : (preU a x).1 = 0 ∨ (preU a x).2 = [] := by
  unfold preU
  split
  · exact .inl rfl
  · exact .inr rfl
theorem un_shape : ∀ (l : List UInt8) (st h : Nat), (un st h l).1 = 0 ∨ (un st h l).2 = []
  | [], 0, _ => .inl rfl
  | [], _ + 1, _ => .inr rfl
  | c :: r, 0, h => by
    rw [un0]
    split
    · exact un_shape r 1 0
    · split
      · exact preU_shape _ _
      · exact .inr rfl
  | c :: r, 1, h => by
    rw [un1]
    split
    · exact un_shape r 2 0
    · split
      · exact preU_shape _ _
      · exact .inr rfl
  | c :: r, 2, h => by
    rw [un2]
    split
    · exact un_shape r 3 _
    · exact .inr rfl
  | c :: r, k + 3, h => by
    rw [un]
    split
    · exact .inr rfl
    · exact preU_shape _ _

/-- What is kept from rune to rune. -/
structure UneSt (s : ByteArray) (w : World) (st h pos : Nat) (sv : Int) (acc : List UInt8) (wr : World) : Prop where
  tk : TakeSt w.heap.size w.heap.size (w.heap.size + 1) acc sv wr
  it : wr.heap[w.heap.size + 2]? = some (.stringIter s pos)
  bl : Below w.heap.size w wr
  sz : w.heap.size + 2 < wr.heap.size
  po : pos ≤ s.size
  al : acc.length ≤ pos
  h16 : h < 16
  ss : st = 0 ∧ sv = -1 ∨ 1 ≤ st ∧ st ≤ 3 ∧ 0 ≤ sv ∧ sv = (pos : Int) - st
  eq : preU acc (un st h (s.data.toList.drop pos)) = un 0 0 s.data.toList

theorem une_start (s : ByteArray) (w : World) : UneSt s w 0 0 0 (-1) [] (((w.alloc (.cells #[.pointer none, .slice none 0 0] 41)).alloc (.cells #[.int .i64 (-1)] 3)).iter s 0) := by
  have h1 := Lib.fresh_isBuilder 41 5 w
  refine ⟨⟨((Lib.IsBuilderF.of h1).alloc _).alloc _, ?_, by omega, by omega, by omega, by simp [World.iter]; omega⟩, ?_, ?_, by simp [World.iter], by omega, by simp, by omega, .inl ⟨rfl, rfl⟩, ?_⟩
  · show (World.alloc _ _).heap[w.heap.size + 1]? = _
    rw [Lib.alloc_old _ _ _ (by simp <;> omega)]
    have := heap_alloc_new (w.alloc (.cells #[.pointer none, .slice none 0 0] 41)) (.cells #[.int .i64 (-1)] 3)
    simpa using this
  · have := World.iter_heap ((w.alloc (.cells #[.pointer none, .slice none 0 0] 41)).alloc (.cells #[.int .i64 (-1)] 3)) s 0
    simpa using this
  · exact (((Below.refl _ w).alloc (Nat.le_refl _) _).alloc (by simp) _).alloc (by simp; omega) _
  · rw [List.drop_zero]
    exact preU_nil _ (un_shape _ _ _)

theorem take_iter {g f k : Nat} {s : ByteArray} {p p' : Nat} {acc : List UInt8} {sv : Int} {B : Nat} {wr : World} (h : TakeSt B g f acc sv wr) (hit : wr.heap[k]? = some (.stringIter s p)) (hfk : f ≠ k) : TakeSt B g f acc sv (wr.iterAt k s p') := by
  obtain ⟨h1, h2, h3, h4, h5, h6⟩ := h
  refine ⟨h1.iterAt hit p', ?_, h3, h4, h5, by rw [Lib.iterAt_size]; exact h6⟩
  rw [Lib.iterAt_other _ _ _ _ _ hfk]
  exact h2
theorem take_below {B g f : Nat} {acc : List UInt8} {sv : Int} {W W' : World} (hS : TakeSt B g f acc sv W) (hb : Below W.heap.size W W') : TakeSt B g f acc sv W' := by
  obtain ⟨h1, h2, h3, h4, h5, h6⟩ := hS
  exact ⟨bld_below h1 hb, (hb.block _ (lt_of_block h2)).trans h2, h3, h4, h5, by have := hb.size; omega⟩
theorem take_set {B g f : Nat} {acc : List UInt8} {sv sv' : Int} {W : World} (hS : TakeSt B g f acc sv W) : TakeSt B g f acc sv' (W.setCell ⟨f, 0, none⟩ (.int .i64 sv')) := by
  obtain ⟨h1, h2, h3, h4, h5, h6⟩ := hS
  refine ⟨?_, one_setCell h2, h3, h4, h5, by simp; omega⟩
  rcases h1 with h | h
  · exact .inl (bld_far h h2 (by decide) (fun e => h5 e.symm))
  · exact .inr (bld_far h h2 (by decide) (fun e => h5 e.symm))
theorem take_c' {B g f : Nat} {acc : List UInt8} {st : Int} {W : World} (V : Int) (c : UInt8) (hV : V = c.toNat) (hS : TakeSt B g f acc st W) (h4 : acc.length ≤ 100000) :
    Calls Tryd.prog 41 #[.int .u8 V, .pointer (some ⟨g, 0, none⟩), .pointer (some ⟨f, 0, none⟩)] W
      fun e W' => e = .returned (.tuple #[]) ∧ TakeSt B g f (acc ++ [c]) (-1) W' ∧ Below B W W' ∧ (∀ (k : Nat) (t : ByteArray) (p : Nat), W.heap[k]? = some (Obj.stringIter t p) → W'.heap[k]? = some (Obj.stringIter t p)) := by
  subst hV
  exact take_c c hS h4
theorem needs_c' (N : Int) (n : Nat) (hN : N = n) (h : n ≤ 1000) (w : World) : Calls Tryd.prog 45 #[.int .i64 N] w fun e w' => e = .returned (.bool (needB n)) ∧ w = w' := by
  subst hN
  exact needs_c n h w
/-- The state behind a byte that was taken. -/
theorem une_took {s : ByteArray} {w wx w2 : World} {st h h0 pos' : Nat} {acc : List UInt8} {c d : UInt8} {r : List UInt8} (hst : TakeSt w.heap.size w.heap.size (w.heap.size + 1) (acc ++ [c]) (-1) w2) (hit : w2.heap[w.heap.size + 2]? = some (.stringIter s pos')) (hb : Below w.heap.size w wx) (hb2 : Below w.heap.size wx w2) (hsz : w.heap.size + 2 < wx.heap.size)
    (hp : pos' ≤ s.size) (hal : acc.length + 1 ≤ pos') (hd : s.data.toList.drop pos' = r) (he : preU acc (un st h (d :: r)) = un 0 0 s.data.toList) (hu : un st h (d :: r) = preU [c] (un 0 0 r)) (hh0 : h0 < 16) : UneSt s w 0 h0 pos' (-1) (acc ++ [c]) w2 :=
  ⟨hst, hit, hb.trans hb2, by have := hb2.size; omega, hp, by simpa using hal, hh0, .inl ⟨rfl, rfl⟩, by rw [hd, ← he, hu, preU_preU, un0h]⟩
end Go.Proofs.YtdjphpobhbelaaaDoor
