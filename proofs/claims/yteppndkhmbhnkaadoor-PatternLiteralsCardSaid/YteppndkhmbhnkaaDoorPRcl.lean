/- pattern: the reference's classes. -/
import Derived.Test.YteppndkhmbhnkaaDoorPRel
namespace Go.Proofs.YteppndkhmbhnkaaDoor
open Go.RowKit
set_option linter.unusedVariables false

def nameI (i : Nat) : List UInt8 := ((classT i).drop 2).take 5
theorem classT_name (i : Nat) (h : i < 8) : classT i = [91, 58] ++ nameI i ++ [58, 93] := by
  have : ∀ i, i < 8 → classT i = [91, 58] ++ nameI i ++ [58, 93] := by decide
  exact this i h
def allocs (w : World) (os : List Obj) : World := os.foldl World.alloc w
theorem allocs_old : ∀ (os : List Obj) (w : World) (k : Nat), k < w.heap.size → (allocs w os).heap[k]? = w.heap[k]?
  | [], w, k, h => rfl
  | o :: os, w, k, h => by
    have : allocs w (o :: os) = allocs (w.alloc o) os := rfl
    rw [this, allocs_old os (w.alloc o) k (by simp; omega), Below.heap_alloc w o k h]
theorem allocs_new : ∀ (os : List Obj) (w : World) (i : Nat), i < os.length → (allocs w os).heap[w.heap.size + i]? = os[i]?
  | [], w, i, h => by simp at h
  | o :: os, w, 0, h => by
    have : allocs w (o :: os) = allocs (w.alloc o) os := rfl
    rw [this, Nat.add_zero, allocs_old os (w.alloc o) _ (by simp), heap_alloc_new]
    rfl
  | o :: os, w, i + 1, h => by
    have : allocs w (o :: os) = allocs (w.alloc o) os := rfl
    have e : w.heap.size + (i + 1) = (w.alloc o).heap.size + i := by simp; omega
    rw [this, e, allocs_new os (w.alloc o) i (by simpa using h)]
    rfl
theorem allocs_size : ∀ (os : List Obj) (w : World), (allocs w os).heap.size = w.heap.size + os.length
  | [], w => rfl
  | o :: os, w => by
    have : allocs w (o :: os) = allocs (w.alloc o) os := rfl
    rw [this, allocs_size os (w.alloc o)]
    simp
    omega
theorem allocs_below : ∀ (os : List Obj) (B : Nat) (a w : World), Below B a w → B ≤ w.heap.size → Below B a (allocs w os)
  | [], B, a, w, h, _ => h
  | o :: os, B, a, w, h, hB => allocs_below os B a (w.alloc o) (h.alloc hB o) (by simp; omega)
def clsTbl (w : World) : Array Value := #[.string { data := #[97, 108, 112, 104, 97] }, .slice (some ⟨w.heap.size + 3, 0, none⟩) 2 2, .string { data := #[100, 105, 103, 105, 116] }, .slice (some ⟨w.heap.size + 4, 0, none⟩) 1 1, .string { data := #[97, 108, 110, 117, 109] }, .slice (some ⟨w.heap.size + 5, 0, none⟩) 3 3, .string { data := #[117, 112, 112, 101, 114] }, .slice (some ⟨w.heap.size + 6, 0, none⟩) 1 1, .string { data := #[108, 111, 119, 101, 114] }, .slice (some ⟨w.heap.size + 7, 0, none⟩) 1 1, .string { data := #[115, 112, 97, 99, 101] }, .slice (some ⟨w.heap.size + 8, 0, none⟩) 2 2, .string { data := #[98, 108, 97, 110, 107] }, .slice (some ⟨w.heap.size + 9, 0, none⟩) 2 2, .string { data := #[112, 117, 110, 99, 116] }, .slice (some ⟨w.heap.size + 10, 0, none⟩) 4 4]
def clsObjs (w : World) : List Obj := [.cells #[.int .u8 48, .int .u8 57] 68, .cells #[.int .u8 65, .int .u8 90] 68, .cells #[.int .u8 97, .int .u8 122] 68, .cells #[.int .u8 65, .int .u8 90, .int .u8 97, .int .u8 122] 68, .cells #[.int .u8 48, .int .u8 57] 68, .cells #[.int .u8 48, .int .u8 57, .int .u8 65, .int .u8 90, .int .u8 97, .int .u8 122] 68, .cells #[.int .u8 65, .int .u8 90] 68, .cells #[.int .u8 97, .int .u8 122] 68, .cells #[.int .u8 9, .int .u8 13, .int .u8 32, .int .u8 32] 68, .cells #[.int .u8 9, .int .u8 9, .int .u8 32, .int .u8 32] 68, .cells #[.int .u8 33, .int .u8 47, .int .u8 58, .int .u8 64, .int .u8 91, .int .u8 96, .int .u8 123, .int .u8 126] 68, .cells (clsTbl w) 134]
def ClsAt (w : World) (g : Nat) : Prop := g < w.heap.size ∧ ∀ i, i < 8 → w.cell? ⟨g, i * 2, none⟩ = some (.string ⟨(nameI i).toArray⟩) ∧ ∃ b c, w.cell? ⟨g, i * 2 + 1, none⟩ = some (.slice (some ⟨b, 0, none⟩) (prR (classR i)).length c) ∧ b < w.heap.size ∧ ∀ k (h : k < (prR (classR i)).length), w.cell? ⟨b, k * 2, none⟩ = some (.int .u8 (((prR (classR i))[k]'h).1 : Nat)) ∧ w.cell? ⟨b, k * 2 + 1, none⟩ = some (.int .u8 (((prR (classR i))[k]'h).2 : Nat))
set_option maxHeartbeats 16000000 in
set_option maxRecDepth 100000 in
theorem classes_c (w : World) :
    Calls Tryd.prog 115 #[] w fun e w' => ∃ g, e = .returned (.slice (some ⟨g, 0, none⟩) 8 8) ∧ ClsAt w' g ∧ Below w.heap.size w w' := by
  go_enter Tryd.func115, Tryd.ntmps115
  go_wp2_with fail
  have hW : ∀ i, i < 8 → (clsObjs w)[3 + i]? = some (.cells (spCells (prR (classR i))).toArray 68) := by
    intro i hi
    rcases i with _ | _ | _ | _ | _ | _ | _ | _ | i
    all_goals first | rfl | omega
  have hT : ∀ i, i < 8 → (clsTbl w)[i * 2]? = some (.string ⟨(nameI i).toArray⟩) ∧ (clsTbl w)[i * 2 + 1]? = some (.slice (some ⟨w.heap.size + (3 + i), 0, none⟩) (prR (classR i)).length (prR (classR i)).length) := by
    intro i hi
    rcases i with _ | _ | _ | _ | _ | _ | _ | _ | i
    all_goals first | exact ⟨rfl, rfl⟩ | omega
  have hb := allocs_below (clsObjs w) w.heap.size w w (Below.refl _ _) (Nat.le_refl _)
  have hn := fun i (hi : i < 12) => allocs_new (clsObjs w) w i hi
  have hs := allocs_size (clsObjs w) w
  have fin : ∃ g, (Ending.returned (.slice (some ⟨w.heap.size + 11, 0, none⟩) 8 8) : Ending) = .returned (.slice (some ⟨g, 0, none⟩) 8 8) ∧ ClsAt (allocs w (clsObjs w)) g ∧ Below w.heap.size w (allocs w (clsObjs w)) := by
    refine ⟨w.heap.size + 11, rfl, ⟨by rw [hs]; show _ < w.heap.size + 12; omega, fun i hi => ?_⟩, hb⟩
    have h11 : (allocs w (clsObjs w)).heap[w.heap.size + 11]? = some (.cells (clsTbl w) 134) := hn 11 (by omega)
    have h3 := (hn (3 + i) (by omega)).trans (hW i hi)
    obtain ⟨t0, t1⟩ := hT i hi
    refine ⟨(Lib.cell_of_heap h11 (i * 2)).trans t0, w.heap.size + (3 + i), _, (Lib.cell_of_heap h11 (i * 2 + 1)).trans t1, by rw [hs]; show _ < w.heap.size + 12; omega, fun k hk => ?_⟩
    obtain ⟨c0, c1⟩ := spCells_get (prR (classR i)) k hk
    refine ⟨(Lib.cell_of_heap h3 (k * 2)).trans ?_, (Lib.cell_of_heap h3 (k * 2 + 1)).trans ?_⟩
    · rw [← c0]; simp
    · rw [← c1]; simp
  clear hW hT hn hs hb
  go_ret
  exact fin
end Go.Proofs.YteppndkhmbhnkaaDoor
