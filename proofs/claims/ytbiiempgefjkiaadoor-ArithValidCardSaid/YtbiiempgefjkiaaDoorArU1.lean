/- arith: what the writer's methods leave behind; single. -/
import Derived.Test.YtbiiempgefjkiaaDoorArB
import Derived.Test.YtbiiempgefjkiaaDoorArV
import Derived.Test.YtbiiempgefjkiaaDoorArS2
import Derived.Test.YtbiiempgefjkiaaDoorArO
import Derived.Test.YtbiiempgefjkiaaDoorShelf
import Derived.Lib.ItoaNum
import Derived.Lib.AppendIntMem
namespace Go.Proofs.YtbiiempgefjkiaaDoor.Ar
open Go.RowKit
set_option linter.unusedVariables false

/-- The powers of ten. -/
def Tab (w : World) : Prop := Lib.TabIs Tryd.prog w "internal/strconv.uint64pow10" .u64 Lib.pow10Tab
theorem tab_lt {w : World} (h : Tab w) : 1 < w.heap.size := by
  unfold Tab Lib.TabIs World.var? at h
  rw [show Tryd.prog.globalNamed "internal/strconv.uint64pow10" = some 1 by kernel_rfl] at h
  simp only [Option.bind_some] at h
  by_cases hlt : 1 < w.heap.size
  · exact hlt
  · rw [Array.getElem?_eq_none (by omega)] at h
    cases h
theorem tab_below {w w' : World} {B : Nat} (h : Tab w) (hb : Below B w w') (hB : 1 < B) : Tab w' := by
  unfold Tab Lib.TabIs World.var? at *
  rw [show Tryd.prog.globalNamed "internal/strconv.uint64pow10" = some 1 by kernel_rfl] at *
  simp only [Option.bind_some] at *
  rw [hb.block _ hB]
  exact h
/-- The writer at X has written l. -/
def WrAt (B X : Nat) (l : List UInt8) (w : World) : Prop := ∃ p0 buf, WrC X p0 buf w ∧ (p0 = .pointer none ∨ p0 = .pointer (some ⟨X, 0, none⟩)) ∧ w.ownsRow B 5 1 buf (Lib.byteCells l).length (Lib.byteCells l)
theorem wrAt_lt {B X : Nat} {l : List UInt8} {w : World} (h : WrAt B X l w) : X < w.heap.size := by
  obtain ⟨p0, buf, hX, _⟩ := h
  unfold WrC at hX
  exact (Array.getElem?_eq_some_iff.1 hX).1
theorem wrAt_keep {B X : Nat} {l : List UInt8} {w w' : World} (h : WrAt B X l w) (hb : Below w.heap.size w w') : WrAt B X l w' := by
  have hX := wrAt_lt h
  obtain ⟨p0, buf, h1, h2, h3⟩ := h
  exact ⟨p0, buf, (hb.block _ hX).trans h1, h2, row_keep h3 fun g hg => hb.block _ (h3.lt g hg).2⟩
/-- What was written between two worlds. -/
structure ShP (B X : Nat) (l out : List UInt8) (w w' : World) : Prop where
  wr : WrAt B X (l ++ out) w'
  bel : Below B w w'
  oth : Lib.OthersKept 5 (some X) w w'
  size : w.heap.size ≤ w'.heap.size
theorem ShP.trans {B X : Nat} {l o1 o2 : List UInt8} {a b c : World} (h : ShP B X l o1 a b) (k : ShP B X (l ++ o1) o2 b c) : ShP B X l (o1 ++ o2) a c :=
  ⟨by rw [← List.append_assoc]; exact k.wr, h.bel.trans k.bel, h.oth.trans k.oth, Nat.le_trans h.size k.size⟩
theorem oth_below {w w' : World} {X : Nat} (hb : Below w.heap.size w w') : Lib.OthersKept 5 (some X) w w' := fun k o hk _ _ => (hb.block k (Array.getElem?_eq_some_iff.1 hk).1).trans hk
theorem ShP.of {B X : Nat} {l : List UInt8} {w w' : World} (h : WrAt B X l w) (hb : Below w.heap.size w w') (hB : B ≤ X) : ShP B X l [] w w' :=
  ⟨by rw [List.append_nil]; exact wrAt_keep h hb, hb.mono (by have := wrAt_lt h; omega), oth_below hb, hb.size⟩
theorem ShP.nil_trans {B X : Nat} {l o2 : List UInt8} {a b c : World} (h : ShP B X l [] a b) (k : ShP B X l o2 b c) : ShP B X l o2 a c := by
  have := h.trans (o2 := o2) (c := c) (by rw [List.append_nil]; exact k)
  exact this
theorem ShP.box {B X : Nat} {l out : List UInt8} {w w' : World} (h : ShP B X l out w w') {b : Nat} {cs : Array Value} {ty : TypeId} {fr : Nat × Nat} (hb : w.heap[b]? = some (.cells cs ty fr)) (hne : b ≠ X) (ht : ty ≠ 5) : w'.heap[b]? = some (.cells cs ty fr) :=
  h.oth b _ hb (fun e => hne (Option.some.inj e)) (fun c fz e => ht (by injection e))
theorem writeW (B X : Nat) (l : List UInt8) (s : ByteArray) (w : World) (h : WrAt B X l w) (hlen : l.length + s.size ≤ 140737488355328) (hB : B ≤ X) :
    Calls Tryd.prog 36 #[.pointer (some ⟨X, 0, none⟩), .string s] w fun e w' => e = .returned (.tuple #[.int .i64 s.size, .nilIface]) ∧ ShP B X l s.data.toList w w' := by
  have hX := wrAt_lt h
  obtain ⟨p0, buf, h1, h2, h3⟩ := h
  refine (writeE B X p0 buf (Lib.byteCells l) s w h1 h2 h3 (by unfold Lib.byteCells; rw [List.length_map]; exact hlen) hB).mono ?_
  rintro e w' ⟨v', rfl, q1, q2, q3, q4, hs⟩
  have hcs : Lib.byteCells l ++ Lib.strCells s = Lib.byteCells (l ++ s.data.toList) := by
    unfold Lib.byteCells Lib.strCells
    rw [List.map_append]
  rw [hcs] at q2
  exact ⟨rfl, ⟨_, v', q1, .inr rfl, q2⟩, q3, q4, hs⟩
set_option maxHeartbeats 1000000 in
theorem single_c (x : Ex) (A : Option Addr) (c : Nat) (w : World) (hT : Tab w) (h0 : -9223372036854775808 ≤ x.n) (h1 : x.n ≤ 9223372036854775807) :
    Calls Tryd.prog 53 #[x.val A c] w fun e w' => e = .returned (.string ⟨(if x.op == 2 then bytesOf x.name else decI x.n).toArray⟩) ∧ Below w.heap.size w w' := by
  unfold Ex.val
  generalize x.op = op, x.n = n, x.name = s, x.kids.length = k at *
  have hb0 := (Below.refl w.heap.size w).alloc (Nat.le_refl _) (.cells #[.int .i64 op, .int .i64 n, .string s, .slice A k c] 24)
  rcases h2 : (op == 2) with _ | _
  · have hd : decI n = Lib.itoa n := decI_eq n (by
      have : (10 : Nat) ^ 26 = 100000000000000000000000000 := by decide
      rw [this]; omega)
    have HI := Lib.hid (Tryd.strconv_Itoa n h0 h1 _ (tab_below hT hb0 (tab_lt hT)))
    rw [if_neg (by simp), hd]
    clear hT h0 h1 hd
    go_enter Tryd.func53, Tryd.ntmps53
    go_wp2_with fail
    refine HI.out.mono ?_
    rintro e w1 ⟨rfl, q, os, rfl⟩
    have hb1 := hb0.trans ((Lib.below_grow _ _ (Nat.le_refl _) q os).mono (by simp))
    clear HI
    go_wp2_with fail
    go_ret
    exact ⟨rfl, hb1⟩
  · rw [if_pos rfl]
    have e1 : (⟨(bytesOf s).toArray⟩ : ByteArray) = s := by unfold bytesOf; rfl
    rw [e1]
    clear hT e1
    go_enter Tryd.func53, Tryd.ntmps53
    go_wp2_with fail
    go_ret
    exact ⟨rfl, hb0⟩
end Go.Proofs.YtbiiempgefjkiaaDoor.Ar
