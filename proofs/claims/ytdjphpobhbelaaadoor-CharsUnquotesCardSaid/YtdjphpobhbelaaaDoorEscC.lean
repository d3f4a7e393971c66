/- The contract of chars.Escape. -/
import Derived.Test.YtdjphpobhbelaaaDoorUnq2
import Derived.Test.YtdjphpobhbelaaaDoorUneM
import Derived.Test.YtdjphpobhbelaaaDoorBld2
import Derived.Test.YtdjphpobhbelaaaDoorQuote
import Derived.Test.YtdjphpobhbelaaaDoorShelf
import Derived.Shelf.Strings.MapAny
namespace Go.Proofs.YtdjphpobhbelaaaDoor
open Go.RowKit

/-- A row of bytes that a conversion has made. -/
def BytesRow (w : World) (x : Nat) (row : Array Value) : Prop := w.heap[x]? = some (.cells row 5 (row.size, row.size + 1))

theorem row_apart {w : World} {B n x : Nat} {v : Value} {xs : List Value} {row : Array Value} (h : w.ownsRowF B 5 1 v n xs) (hx : BytesRow w x row) : v.ownBlock ≠ some x := by
  intro e
  rcases h.2 with ⟨rfl, _⟩ | ⟨g, cap, cur, fz, rfl, _, hh, h1, h2, _, h3, _⟩
  · simp [Value.ownBlock] at e
  · have : g = x := by simpa [Value.ownBlock] using e
    subst this
    rw [hx] at hh
    injection hh with hh
    injection hh with a1 a2 a3
    subst a1; subst a3
    simp only at h1
    omega

set_option maxHeartbeats 2000000 in
set_option maxRecDepth 100000 in
/-- WriteString, beside a row of bytes that a conversion has made. -/
theorem writeString_row (B b x : Nat) (row : Array Value) (bs : List Value) (s : ByteArray) (w : World) (h : Lib.IsBuilderF 41 5 B b bs w) (hx : BytesRow w x row) (hxb : x ≠ b) (hlen : bs.length + s.size ≤ 140737488355328) (hBw : B ≤ w.heap.size) :
    Calls Tryd.prog 33 #[.pointer (some ⟨b, 0, none⟩), .string s] w fun e w' => e = .returned (.tuple #[.int .i64 s.size, .nilIface]) ∧ (Lib.BuilderAtF 41 5 B b (.pointer (some ⟨b, 0, none⟩)) (bs ++ Lib.strCells s) w' ∧ Below B w w' ∧ Lib.OthersKept 5 (some b) w w' ∧ BytesRow w' x row) := by
  have hcc : Calls Tryd.prog 50 #[.pointer (some ⟨b, 0, none⟩)] w fun e w' => e = .returned (.tuple #[]) ∧ (Lib.BuilderAtF 41 5 B b (.pointer (some ⟨b, 0, none⟩)) bs w' ∧ Below B w w' ∧ Lib.OthersKept 5 (some b) w w' ∧ BytesRow w' x row) := by
    rcases h with h | h
    · refine (copyCheck_fresh b w h.cell0 h.shape h.frozen0).mono ?_
      rintro e w' ⟨rfl, rfl⟩
      exact ⟨rfl, h.used _, (Below.refl B w).setCell (p := ⟨b, 0, none⟩) h.1 _, (Lib.OthersKept.refl _ _ w).setCell ⟨b, 0, none⟩ rfl _, (Below.heap_setCell _ _ _ _ (by simpa using hxb)).trans hx⟩
    · refine (copyCheck_used b w h.cell0).mono ?_
      rintro e w' ⟨rfl, rfl⟩
      exact ⟨rfl, h, Below.refl B _, Lib.OthersKept.refl _ _ _, hx⟩
  obtain ⟨i0, hi, hz0, hz1, hz2⟩ := info_parts byteInfo
  go_enter Tryd.func33, Tryd.ntmps33
  go_wp2_with (go_at_call 50; refine hcc.mono ?_)
  rintro e w1 ⟨rfl, h1, hb1, hk1, hx1⟩
  obtain ⟨hB, v, hbk, hown, hne⟩ := h1
  have hap := row_apart hown hx1
  have c0 : w1.cell? ⟨b, 0, none⟩ = some (.pointer (some ⟨b, 0, none⟩)) := by rw [Lib.cell_of_heap hbk]; rfl
  have c1 : w1.cell? ⟨b, 1, none⟩ = some v := by rw [Lib.cell_of_heap hbk]; rfl
  go_wp2_with (at_builtin; refine Lib.wpList_append_own_stringF _ rfl _ _ 39 9 rfl B 5 i0 Tryd.underlying39 Tryd.underlying9 hi hz0 hz1 hz2 _ _ _ rfl hown s rfl ?c3 ?c4 ?c5 ?_)
  case c3 => unfold maxLen; omega
  case c4 => omega
  case c5 => have := hb1.size; omega
  intro v' w2 hown' hgrow _
  have hlt : b < w1.heap.size := by
    rcases Nat.lt_or_ge b w1.heap.size with h' | h'
    · exact h'
    · simp [Array.getElem?_eq_none h'] at hbk
  have hb2 : w2.heap[b]? = some (.cells #[.pointer (some ⟨b, 0, none⟩), v] 41 (0, 0)) := by
    rw [hgrow.block b hlt (fun e => hne e.symm)]
    exact hbk
  have hx2 : BytesRow w2 x row := (hgrow.block x (lt_of_block hx1) (fun e => hap e.symm)).trans hx1
  have d0 : w2.cell? ⟨b, 0, none⟩ = some (.pointer (some ⟨b, 0, none⟩)) := by rw [Lib.cell_of_heap hb2]; rfl
  have d1 : w2.cell? ⟨b, 1, none⟩ = some v := by rw [Lib.cell_of_heap hb2]; rfl
  have f1 : w2.frozen? ⟨b, 1, none⟩ = false := Lib.frozen_of_heap hb2 1
  obtain ⟨ao, n', cap, rfl⟩ : ∃ ao n' cap, v' = .slice ao n' cap := by
    rcases hown'.2 with ⟨hv, _⟩ | ⟨g, cap, cur, fz, hv, _⟩
    · exact ⟨_, _, _, hv⟩
    · exact ⟨_, _, _, hv⟩
  go_wp2
  go_ret2
  refine ⟨rfl, ?_, ?_, (hk1.grown hgrow (Lib.ownsRowF_kind hown)).setCell ⟨b, 1, none⟩ rfl _, (Below.heap_setCell _ _ _ _ (by simpa using hxb)).trans hx2⟩
  · exact Lib.BuilderAtF.put (T := 41) (e := 5) hB hb2 (bs' := bs ++ Lib.strCells s) (by simpa [Lib.strCells_length] using hown') (by decide)
  · exact (hb1.grown hgrow (by have := hb1.size; omega) (fun k hk => (hown.lt k hk).1)).setCell (p := ⟨b, 1, none⟩) hB _

/-- A string's bytes as a slice. -/
theorem bytes_of (t : ByteArray) : ∃ (cap : World → Nat) (nx : World → World), ∀ W, (convert 9 39 (.string t)).run Tryd.prog W = .ok (.slice (some ⟨W.heap.size, 0, none⟩) t.size (cap W)) (nx W) ∧ Below W.heap.size W (nx W) ∧ ∃ row, BytesRow (nx W) W.heap.size row ∧ ∀ k (h : k < t.size), row[k]? = some (.int .u8 (t[k]'h).toNat) := by
  refine ⟨_, _, fun W => ⟨run_bytes_of_string W 9 39 5 t Tryd.underlying9 Tryd.underlying39 Tryd.underlying5, ?_, _, heap_alloc_new _ _, fun k h => bytesRow_at t _ k h⟩⟩
  exact ((Below.refl _ W).drew).alloc (Nat.le_refl _) _

theorem bld_below {g : Nat} {bs : List Value} {W W' : World} (h : Lib.IsBuilderF 41 5 g g bs W) (hb : Below W.heap.size W W') : Lib.IsBuilderF 41 5 g g bs W' := by
  have key : ∀ p, Lib.BuilderAtF 41 5 g g p bs W → Lib.BuilderAtF 41 5 g g p bs W' := by
    rintro p ⟨k1, v, k2, k3, k4⟩
    refine ⟨k1, v, (hb.block _ (lt_of_block k2)).trans k2, ?_, k4⟩
    refine k3.kept (row := none) ⟨hb.os, hb.tape, hb.output, hb.size, fun i hi _ => hb.block i hi⟩ ?_
    rcases hv : v.ownBlock with _ | x
    · exact .inl rfl
    · exact .inr (by simp)
  rcases h with h | h
  · exact .inl (key _ h)
  · exact .inr (key _ h)

theorem escL_append (a b : List UInt8) : escL (a ++ b) = escL a ++ escL b := by simp [escL]
theorem escL_len : ∀ l : List UInt8, (escL l).length ≤ 4 * l.length
  | [] => Nat.le_refl _
  | c :: l => by
    have := escL_len l
    have h := escB_size c
    have e : (eL c).length = (escB c).size := rfl
    rw [escL_cons, List.length_append, List.length_cons]
    omega

/-- What is kept from rune to rune. -/
structure EscR (s : ByteArray) (w : World) (pos : Nat) (wr : World) : Prop where
  bld : Lib.IsBuilderF 41 5 w.heap.size w.heap.size (Lib.byteCells (escL (s.data.toList.take pos))) wr
  it : wr.heap[w.heap.size + 1]? = some (.stringIter s pos)
  bl : Below w.heap.size w wr
  sz : w.heap.size + 1 < wr.heap.size
  po : pos ≤ s.size

theorem esc_step {s : ByteArray} {w wx w1 : World} {p' : Nat} {acc' : List UInt8} (hit : wx.heap[w.heap.size + 1]? = some (.stringIter s p')) (hb : Below w.heap.size w wx) (m1 : Lib.BuilderAtF 41 5 w.heap.size w.heap.size (.pointer (some ⟨w.heap.size, 0, none⟩)) (Lib.byteCells acc') w1) (m2 : Below w.heap.size wx w1) (m3 : Lib.OthersKept 5 (some w.heap.size) wx w1)
    (e : acc' = escL (s.data.toList.take p')) (hsz : w.heap.size + 1 < wx.heap.size) (hp : p' ≤ s.size) : EscR s w p' w1 := by
  subst e
  exact ⟨.inr m1, m3 _ _ hit (by simp) (by intro c fz hh; simp at hh), hb.trans m2, by have := m2.size; omega, hp⟩

theorem esc_start (s : ByteArray) (w : World) : EscR s w 0 ((w.alloc (.cells #[.pointer none, .slice none 0 0] 41)).iter s 0) := by
  have h1 := Lib.fresh_isBuilder 41 5 w
  refine ⟨(Lib.IsBuilderF.of h1).alloc _, ?_, ?_, by simp [World.iter], by omega⟩
  · have := World.iter_heap (w.alloc (.cells #[.pointer none, .slice none 0 0] 41)) s 0
    simpa using this
  · exact (((Below.refl _ w).alloc (Nat.le_refl _) _).alloc (by simp) _)

theorem escB_hex (c : UInt8) (h : c.toNat < 32 ∨ 126 < c.toNat) (h1 : c ≠ 10) (h2 : c ≠ 9) : (hexE c.toNat (UInt8.toNat_lt c)).data.toList = eL c := by
  unfold eL escB
  rw [if_neg h1, if_neg h2, if_neg (by rintro rfl; revert h; decide), if_pos h]

end Go.Proofs.YtdjphpobhbelaaaDoor
