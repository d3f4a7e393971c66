/- The contract of edits.Apply. -/
import Derived.Test.YtdiaghmkbplipaaVal
import Derived.Test.YtdiaghmkbplipaaBld
import Derived.Test.YtdiaghmkbplipaaShelf
import Derived.WalkSmall
import Derived.Lib.IndexBytes
namespace Go.Proofs.Ytdiaghmkbplipaa
open Go.RowKit

/-- The edited text, from the place 'at' on. -/
def applL (l : List UInt8) : Nat → List Ed → List UInt8
  | at_, [] => l.drop at_
  | at_, e :: r => (l.drop at_).take (e.f.toNat - at_) ++ e.s.data.toList ++ applL l e.t.toNat r

theorem vloop_cons {n last size : Int} {e : Ed} {r : List Ed} (h : vloop n last size (e :: r) = 0) : 0 ≤ e.f ∧ e.f ≤ e.t ∧ e.t ≤ n ∧ last ≤ e.f ∧ vloop n e.t (size + e.grow) r = 0 := by
  unfold vloop at h
  split at h
  · omega
  · split at h
    · omega
    · exact ⟨by omega, by omega, by omega, by omega, h⟩

/-- What Apply gives. -/
def apply (s : ByteArray) (es : List Ed) : ByteArray := if valid s es = 0 then ⟨(applL s.data.toList 0 es).toArray⟩ else s

set_option maxHeartbeats 2000000 in
theorem apply_c (s : ByteArray) (A : Option Addr) (c : Nat) (es : List Ed) (w : World) (hs : s.size ≤ 17000) (he : EdOk es) (hA : EdAt w w.heap.size A es) :
    Calls Try.prog 15 #[.string s, .slice A es.length c] w fun e w' => e = .returned (.tuple #[.string (apply s es), .int .i64 (valid s es)]) ∧ Below w.heap.size w w' := by
  have hlen := he.1
  by_cases hv : valid s es = 0
  · have hap : apply s es = ⟨(applL s.data.toList 0 es).toArray⟩ := by simp [apply, hv]
    rw [hap]
    have hvl : ∃ size, vloop s.size 0 size es = 0 := by
      unfold valid at hv
      split at hv
      · omega
      · exact ⟨_, hv⟩
    have Hv := Lib.hid hv
    rw [hv]
    clear hv hap
    go_enter Try.func15, Try.ntmps15
    go_wp2_with fail
    refine (valid_c s A c es w hs he hA).mono ?_
    rintro e w1 ⟨rfl, hb1⟩
    rw [Hv.out]
    go_wp2_with fail
    have hsz1 := hb1.size
    go_loopw [8, 20] (fun la i wr => ∃ (k last : Nat) (acc : List UInt8), k ≤ es.length ∧ i = .int .i64 k ∧ la = .int .i64 last ∧ last ≤ s.size ∧ (∃ size, vloop s.size last size (es.drop k) = 0) ∧ acc ++ applL s.data.toList last (es.drop k) = applL s.data.toList 0 es ∧ acc.length ≤ 34000 * k ∧
        Lib.IsBuilderF 56 5 w1.heap.size w1.heap.size (Lib.byteCells acc) wr ∧ w1.heap.size < wr.heap.size ∧ Below w1.heap.size w1 wr) (fun _ i _ => es.length - (intOf i).toNat)
    case atStart =>
      exact ⟨0, 0, [], by omega, rfl, rfl, by omega, hvl, rfl, by simp, Lib.IsBuilderF.of (Lib.fresh_isBuilder _ _ w1), by simp, (Below.refl _ _).alloc (Nat.le_refl _) _⟩
    case round =>
      obtain ⟨k, last, acc, hk, rfl, rfl, hl, ⟨size, hvk⟩, hacc, hal, hI, hlt1, hb⟩ := hrel
      clear hvl
      by_cases hlt : k < es.length
      · obtain ⟨h1, h2, h3, h4, h5⟩ := ed_ok_at he hlt
        obtain ⟨b, off, rfl, had, hc⟩ := ((hA.below hb1).below (hb.mono hsz1)) (by omega)
        obtain ⟨c0, c1, c2⟩ := hc k es[k] (List.getElem?_eq_getElem hlt)
        rw [List.drop_eq_getElem_cons hlt] at hvk hacc
        clear hc
        generalize es[k] = e at *
        obtain ⟨f, t, x⟩ := e
        obtain ⟨g1, g2, g3, g4, g5⟩ := vloop_cons hvk
        simp only at g1 g2 g3 g4 c0 c1 c2 h1 h2 h3 h4 h5
        obtain ⟨f, rfl⟩ := Int.eq_ofNat_of_zero_le g1
        obtain ⟨t, rfl⟩ := Int.eq_ofNat_of_zero_le (show 0 ≤ t by omega)
        simp only [applL, Int.toNat_natCast] at hacc
        have Hacc := Lib.hid hacc
        have Hg5 := Lib.hid g5
        have Hvk := Lib.hid hvk
        clear hacc g5 hvk
        have i1 : (last : Int) ≤ f := by omega
        have i2 : (f : Int) ≤ s.size := by omega
        go_wp2_with fail
        have hx : (s.extract last f).size ≤ 17000 := by simp; omega
        refine (writeString w1.heap.size w1.heap.size (Lib.byteCells acc) (s.extract last f) _ (hI.alloc _) (by rw [Lib.byteCells_length]; omega) (by simp; omega)).mono ?_
        rintro e w2 ⟨rfl, m1, m2, m3⟩
        have hnew : w2.heap[wr.heap.size]? = some (.cells #[.int .i64 f, .int .i64 t, .string x] 47 (0, 0)) := m3 _ _ (heap_alloc_new wr _) (by simp; omega) (by intro c fz hh; simp at hh)
        have n0 : w2.cell? ⟨wr.heap.size, 0, none⟩ = some (.int .i64 f) := by rw [Lib.cell_of_heap hnew]; rfl
        have n1 : w2.cell? ⟨wr.heap.size, 1, none⟩ = some (.int .i64 t) := by rw [Lib.cell_of_heap hnew]; rfl
        have n2 : w2.cell? ⟨wr.heap.size, 2, none⟩ = some (.string x) := by rw [Lib.cell_of_heap hnew]; rfl
        have hsz2 := m2.size
        simp at hsz2
        go_wp2_with fail
        refine (writeString w1.heap.size w1.heap.size _ x _ (Or.inr m1) (by rw [List.length_append, Lib.byteCells_length, Lib.strCells_length]; omega) (by omega)).mono ?_
        rintro e w3 ⟨rfl, p1, p2, p3⟩
        have hnew3 : w3.heap[wr.heap.size]? = some (.cells #[.int .i64 f, .int .i64 t, .string x] 47 (0, 0)) := p3 _ _ hnew (by simp; omega) (by intro c fz hh; simp at hh)
        have q1 : w3.cell? ⟨wr.heap.size, 1, none⟩ = some (.int .i64 t) := by rw [Lib.cell_of_heap hnew3]; rfl
        have hsz3 := p2.size
        go_wp2
        go_roundw
        case rel =>
          refine ⟨k + 1, t, acc ++ (s.extract last f).data.toList ++ x.data.toList, by omega, by go_num, rfl, by omega, ⟨_, Hg5.out⟩, ?_, ?_, ?_, by omega, ((hb.alloc (by omega) _).trans m2).trans p2⟩
          · rw [← Hacc.out, Lib.extract_data]; simp [List.append_assoc]
          · have e1 : (s.extract last f).data.toList.length = (s.extract last f).size := by simp; omega
            have e2 : x.data.toList.length = x.size := by simp
            rw [List.length_append, List.length_append, e1, e2]
            omega
          · rw [Lib.byteCells_append, Lib.byteCells_append]; exact Or.inr p1
        case measure => simp [intOf]; omega
      · have hkk : k = es.length := by omega
        subst hkk
        rw [List.drop_length, applL] at hacc
        have Hacc := Lib.hid hacc
        clear hacc hvk
        go_wp2_with fail
        have hx : (s.extract last s.size).size ≤ 17000 := by simp; omega
        refine (writeString w1.heap.size w1.heap.size (Lib.byteCells acc) (s.extract last s.size) _ hI (by rw [Lib.byteCells_length]; omega) (by omega)).mono ?_
        rintro e w2 ⟨rfl, m1, m2, m3⟩
        have hsz2 := m2.size
        rw [Lib.strCells_eq, ← Lib.byteCells_append, Lib.extract_to_end, Hacc.out] at m1
        go_wp2_with fail
        refine (Try.Builder_String_any_k w1.heap.size w1.heap.size _ _ (Or.inr m1) (by omega)).mono ?_
        rintro e w3 ⟨rfl, _, p2, _⟩
        go_wp2
        go_ret2
        exact ⟨rfl, hb1.trans (((hb.trans m2).trans p2).mono hsz1)⟩
  · have hap : apply s es = s := by simp [apply, hv]
    rw [hap]
    have t1 : (valid s es != 0) = true := by simp [hv]
    clear hap hv
    go_enter Try.func15, Try.ntmps15
    go_wp2_with fail
    refine (valid_c s A c es w hs he hA).mono ?_
    rintro e w1 ⟨rfl, hb1⟩
    go_wp2
    go_ret2
    exact ⟨rfl, hb1⟩
end Go.Proofs.Ytdiaghmkbplipaa
