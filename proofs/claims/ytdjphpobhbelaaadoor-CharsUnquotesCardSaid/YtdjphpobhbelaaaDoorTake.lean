/- The contract of the closure of chars.Unescape that takes a byte. -/
import Derived.Test.YtdjphpobhbelaaaDoorBld2
import Derived.Test.YtdjphpobhbelaaaDoorUnq
namespace Go.Proofs.YtdjphpobhbelaaaDoor
open Go.RowKit

/-- What it needs: the builder in block g, the escape's beginning in f. -/
structure TakeSt (B g f : Nat) (acc : List UInt8) (st : Int) (W : World) : Prop where
  bld : Lib.IsBuilderF 41 5 g g (Lib.byteCells acc) W
  frm : W.heap[f]? = some (.cells #[.int .i64 st] 3 (0, 0))
  ord : B ≤ g ∧ B ≤ f ∧ g ≠ f ∧ g ≤ W.heap.size

theorem byteCells_one (c : UInt8) : Lib.byteCells [c] = [.int .u8 c.toNat] := rfl

set_option maxHeartbeats 1000000 in
theorem take_c {B g f : Nat} {acc : List UInt8} {st : Int} {W : World} (c : UInt8) (hS : TakeSt B g f acc st W) (h4 : acc.length ≤ 100000) :
    Calls Tryd.prog 41 #[.int .u8 c.toNat, .pointer (some ⟨g, 0, none⟩), .pointer (some ⟨f, 0, none⟩)] W
      fun e W' => e = .returned (.tuple #[]) ∧ TakeSt B g f (acc ++ [c]) (-1) W' ∧ Below B W W' ∧ (∀ (k : Nat) (t : ByteArray) (p : Nat), W.heap[k]? = some (Obj.stringIter t p) → W'.heap[k]? = some (Obj.stringIter t p)) := by
  obtain ⟨hI, hf, o1, o3, o5, o7⟩ := hS
  have c2 := cell_of_one hf
  go_enter Tryd.func41, Tryd.ntmps41
  go_wp2_with fail
  refine (writeByte g g (Lib.byteCells acc) _ W hI (by rw [Lib.byteCells_length]; omega) o7).mono ?_
  rintro e w1 ⟨rfl, m1, m2, m3⟩
  have hf1 : w1.heap[f]? = some (.cells #[.int .i64 st] 3 (0, 0)) := m3 _ _ hf (by simpa using fun e => o5 e.symm) (by intro c fz hh; simp at hh)
  have d2 := cell_of_one hf1
  have d3 := free_of_one hf1
  have hgl := m1.lt
  have hfl := lt_of_block hf1
  go_wp2_with fail
  go_end0
  have ex : Lib.byteCells acc ++ [.int .u8 c.toNat] = Lib.byteCells (acc ++ [c]) := by rw [Lib.byteCells_append]; rfl
  rw [ex] at m1
  refine ⟨rfl, ⟨Or.inr (bld_far m1 hf1 (by decide) (fun e => o5 e.symm)), one_setCell hf1, o1, o3, o5, by simp; omega⟩, (m2.mono o1).setCell (p := ⟨f, 0, none⟩) o3 _, fun k t p hk => ?_⟩
  have hkf : k ≠ f := by
    rintro rfl
    rw [hf] at hk
    simp at hk
  have hkg : k ≠ g := by
    rintro rfl
    have hbl : ∃ c, W.heap[k]? = some (.cells c 41 (0, 0)) := by
      rcases hI with ⟨_, v, hb, _⟩ | ⟨_, v, hb, _⟩
      · exact ⟨_, hb⟩
      · exact ⟨_, hb⟩
    obtain ⟨c, hc⟩ := hbl
    rw [hc] at hk
    simp at hk
  rw [Below.heap_setCell _ _ _ _ (by simpa using hkf)]
  exact m3 _ _ hk (by simpa using hkg) (by intro c fz hh; simp at hh)
end Go.Proofs.YtdjphpobhbelaaaDoor
