/- The contract of edits.Invert. -/
import Derived.Test.YtdiaghmkbplipaaShift
import Derived.Test.YtdiaghmkbplipaaLines
namespace Go.Proofs.Ytdiaghmkbplipaa
open Go.RowKit

/-- The edits that undo edits: the rest of them, by how much the text has grown so far. -/
def invL (s : ByteArray) : Int → List Ed → List Ed
  | _, [] => []
  | m, e :: r => ⟨e.f + m, e.f + m + e.s.size, s.extract e.f.toNat e.t.toNat⟩ :: invL s (m + e.grow) r

def cellsOf (es : List Ed) : List Value := es.flatMap fun e => [.int .i64 e.f, .int .i64 e.t, .string e.s]

theorem cellsOf_length (es : List Ed) : (cellsOf es).length = es.length * 3 := by
  induction es with
  | nil => rfl
  | cons e r ih => simp only [cellsOf, List.flatMap_cons, List.length_append, List.length_cons, List.length_nil] at ih ⊢; omega

theorem cellsOf_get : ∀ (es : List Ed) (i : Nat) (e : Ed), es[i]? = some e → (cellsOf es)[i * 3]? = some (.int .i64 e.f) ∧ (cellsOf es)[i * 3 + 1]? = some (.int .i64 e.t) ∧ (cellsOf es)[i * 3 + 2]? = some (.string e.s)
  | [], i, e, h => by simp at h
  | x :: r, 0, e, h => by simp at h; subst h; exact ⟨rfl, rfl, rfl⟩
  | x :: r, i + 1, e, h => by
    have := cellsOf_get r i e (by simpa using h)
    have hx : cellsOf (x :: r) = [.int .i64 x.f, .int .i64 x.t, .string x.s] ++ cellsOf r := rfl
    rw [hx, show (i + 1) * 3 = i * 3 + 3 from by omega]
    refine ⟨?_, ?_, ?_⟩ <;> (rw [List.getElem?_append_right (by simp)]; simp)
    · exact this.1
    · exact this.2.1
    · exact this.2.2

theorem invL_length (s : ByteArray) : ∀ (es : List Ed) (m : Int), (invL s m es).length = es.length
  | [], _ => rfl
  | e :: r, m => by simp [invL, invL_length s r]

theorem edAt_own {w : World} {base n : Nat} {v : Value} {es : List Ed} (h : w.ownsRow base 47 3 v n (cellsOf es)) (hn : n = es.length) : ∃ A c, v = .slice A es.length c ∧ EdAt w w.heap.size A es := by
  subst hn
  rcases h.2 with ⟨rfl, h0⟩ | ⟨g, cap, cur, rfl, _, hh, _⟩
  · refine ⟨none, 0, by rw [h0], fun hp => by omega⟩
  · refine ⟨_, _, rfl, fun hp => ⟨g, 0, rfl, lt_of_block hh, fun i e he => ?_⟩⟩
    obtain ⟨k0, k1, k2⟩ := cellsOf_get es i e he
    have c0 := h.cells (g := g) rfl _ _ k0
    have c1 := h.cells (g := g) rfl _ _ k1
    have c2 := h.cells (g := g) rfl _ _ k2
    rw [Go.WideShapes.add_plain] at c0 c1 c2
    exact ⟨c0, c1, c2⟩

theorem edInfo : (Try.prog.info? 47).map (fun i => (i.zero, i.size, i.bytes)) = some (some (.agg #[.int .i64 0, .int .i64 0, .string ⟨#[]⟩]), 3, 32) := by kernel_rfl

theorem ownsRow_below {w w' : World} {base e size n g cap : Nat} {xs : List Value} (h : w.ownsRow base e size (.slice (some ⟨g, 0, none⟩) n cap) n xs) (hb : Below w.heap.size w w') (_hg : g < w.heap.size) : w'.ownsRow base e size (.slice (some ⟨g, 0, none⟩) n cap) n xs := by
  refine h.kept (row := none) ⟨hb.os, hb.tape, hb.output, hb.size, fun i hi _ => hb.block i hi⟩ ?_
  exact .inr (by simp [Value.ownBlock])

theorem news_two (w : World) (o : Obj) (x y z : Value) (T : TypeId) : ∀ (j : Nat) (u : Value), [x, y, z][j]? = some u → ((w.alloc o).alloc (.cells #[x, y, z] T)).drew.cell? ((⟨w.heap.size + 1, 0, none⟩ : Addr).add j) = some u :=
  World.news_of_block (cs := #[x, y, z]) (t := T) (fr := (0, 0)) (by
    have h := heap_alloc_new (w.alloc o) (.cells #[x, y, z] T)
    show ((w.alloc o).alloc (.cells #[x, y, z] T)).heap[w.heap.size + 1]? = _
    simpa using h)

set_option maxHeartbeats 4000000 in
set_option maxRecDepth 100000 in
theorem invert_c (s : ByteArray) (A : Option Addr) (c : Nat) (es : List Ed) (w : World) (hs : s.size ≤ 17000) (he : EdOk es) (hA : EdAt w w.heap.size A es) (hv : valid s es = 0) :
    Calls Try.prog 18 #[.string s, .slice A es.length c] w fun e w' => ∃ v, e = .returned (.tuple #[v, .int .i64 0]) ∧ w'.ownsRow w.heap.size 47 3 v es.length (cellsOf (invL s 0 es)) ∧ Below w.heap.size w w' := by
  obtain ⟨i0, hi0, hz0, hz1, hz2⟩ := info_parts edInfo
  have hlen := he.1
  have hall := valid_all hv
  have Hv := Lib.hid hv
  clear hv
  go_enter Try.func18, Try.ntmps18
  go_wp2_with fail
  refine (valid_c s A c es w hs he hA).mono ?_
  rintro e w1 ⟨rfl, hb1⟩
  rw [Hv.out]
  have hsz1 := hb1.size
  go_wp2_with (at_make; refine wpList_make_own _ rfl _ _ 34 rfl w.heap.size 47 i0 _ 3 Try.underlying34 hi0 hz0 hz1 .i64 .i64 es.length es.length rfl rfl rfl (by rw [hz2]; omega) (by simp only [maxLen]; omega) hsz1 ?_; intro w2 hown2 hg2)
  have hb2 : Below w.heap.size w w2 := hb1.grown hg2 hsz1 (fun k hk => by cases hk)
  have hz2' := hb2.size
  go_loopw [7, 8, 23] (fun ov mv iv wr => ∃ (k : Nat) (m : Int) (xs : List Value) (vv : Value), k ≤ es.length ∧ ov = vv ∧ iv = .int .i64 k ∧ mv = .int .i64 m ∧ -17000 * k ≤ m ∧ m ≤ 17000 * k ∧ wr.ownsRow w.heap.size 47 3 vv k xs ∧ xs ++ cellsOf (invL s m (es.drop k)) = cellsOf (invL s 0 es) ∧ Below w.heap.size w wr) (fun _ _ iv _ => es.length - (intOf iv).toNat)
  case atStart => exact ⟨0, 0, [], _, by omega, rfl, rfl, rfl, by omega, by omega, hown2, rfl, hb2⟩
  case round =>
    obtain ⟨k, m, xs, ov, hk, hov, rfl, rfl, hm1, hm2, hown, hx, hb⟩ := hrel
    have hsz := hb.size
    obtain rfl : u7 = ov := hov
    by_cases hlt : k < es.length
    · obtain ⟨h1, h2, h3, h4, h5⟩ := ed_ok_at he hlt
      obtain ⟨v1, v2, v3⟩ := hall _ (List.getElem_mem hlt)
      obtain ⟨b, off, rfl, had, hc⟩ := (hA.below hb) (by omega)
      obtain ⟨c0, c1, c2⟩ := hc k es[k] (List.getElem?_eq_getElem hlt)
      rw [List.drop_eq_getElem_cons hlt] at hx
      clear hc
      generalize es[k] = e at *
      obtain ⟨f, t, x⟩ := e
      simp only at v1 v2 v3 c0 c1 c2 h1 h2 h3 h4 h5
      obtain ⟨f, rfl⟩ := Int.eq_ofNat_of_zero_le v1
      obtain ⟨t, rfl⟩ := Int.eq_ofNat_of_zero_le (show 0 ≤ t by omega)
      simp only [invL, Int.toNat_natCast] at hx
      have Hx := Lib.hid hx
      clear hx
      have i1 : (f : Int) ≤ t := by omega
      have i2 : (t : Int) ≤ s.size := by omega
      have i3 : (0 : Int) ≤ f := by omega
      have hown' := hown.alloc (.cells #[.int .i64 f, .int .i64 t, .string x] 47)
      have hnl : u7.ownBlock ≠ some wr.heap.size := fun e => by have := (hown.lt _ e).2; omega
      have u1 : IntKind.i64.wrap ((f : Int) + m) = (f : Int) + m := IntWalk.i64_in _ (by omega)
      have u2 : IntKind.i64.wrap ((f : Int) + m + (x.size : Int)) = (f : Int) + m + x.size := IntWalk.i64_in _ (by omega)
      go_wp2_with fail
      go_region_held3 (fun w' => w'.cell? ⟨wr.heap.size, 0, none⟩ = some (.int .i64 f) ∧ w'.cell? ⟨wr.heap.size, 1, none⟩ = some (.int .i64 t) ∧ w'.cell? ⟨wr.heap.size, 2, none⟩ = some (.string x))
        (first
          | go_keep
          | (go_split_ands
             refine ⟨?_, ?_, ?_⟩
             · (rw [hgrow.cell_far _ (by simp; omega) (Ne.symm hnl)]; assumption)
             · (rw [hgrow.cell_far _ (by simp; omega) (Ne.symm hnl)]; assumption)
             · (rw [hgrow.cell_far _ (by simp; omega) (Ne.symm hnl)]; assumption)))
        ((refine step_append_lies _ (by rfl) _ _ _ (by rfl) w.heap.size 47 i0 _ 3 32 Try.underlying34 hi0 hz0 hz1 hz2 rfl (by omega) u7 k xs (by rfl) ((hown'.alloc _).drew) ⟨wr.heap.size + 1, 0, none⟩ 1 1 [.int .i64 ((f : Int) + m), .int .i64 ((f : Int) + m + x.size), .string (s.extract f t)] (by rfl) (by rfl) (news_two wr _ _ _ _ _) (by simp [Value.oneCell']) (by omega) (by simp only [maxLen]; omega) (by omega) (by simp; omega) (wr.heap.size + 2) (by simp) ?_; intro gg cap w4 hown1 hgrow hat hlt4))
      have hS : w4.cell? ⟨wr.heap.size, 0, none⟩ = some (.int .i64 f) ∧ w4.cell? ⟨wr.heap.size, 1, none⟩ = some (.int .i64 t) ∧ w4.cell? ⟨wr.heap.size, 2, none⟩ = some (.string x) := by assumption
      obtain ⟨n0, n1, n2⟩ := hS
      have hb4 : Below w.heap.size w w4 := (((hb.alloc hsz _).alloc (by simp; omega) _).drew).grown hgrow (by simp; omega) (fun g hg => (hown.lt g hg).1)
      have hsz4 := hb4.size
      have G1 : -17000 ≤ (Ed.mk f t x).grow := by unfold Ed.grow; simp only; omega
      have G2 : (Ed.mk f t x).grow ≤ 17000 := by unfold Ed.grow; simp only; omega
      clear u1 u2 hgrow hat hown' hown
      go_wp2_with fail
      refine (growth_c ⟨f, t, x⟩ _ (by simp only; omega) (by simp only; omega) (by simp only; omega) (by simp only; omega)).mono ?_
      rintro e w5 ⟨rfl, hb5⟩
      have hown5 := ownsRow_below hown1 hb5 hlt4
      have hsz5 := hb5.size
      generalize (Ed.mk f t x).grow = G at *
      go_wp2_with fail
      go_roundw
      case rel => exact ⟨k + 1, m + G, _, _, by omega, rfl, by go_num, rfl, by omega, by omega, hown5, by rw [← Hx.out]; simp [cellsOf], hb4.trans (hb5.mono (by omega))⟩
      case measure => simp [intOf]; omega
    · have hkk : k = es.length := by omega
      subst hkk
      rw [List.drop_length, invL] at hx
      have hx' : xs = cellsOf (invL s 0 es) := by simpa [cellsOf] using hx
      have Hx := Lib.hid hx'
      clear hx hx'
      go_wp2_with fail
      go_ret2
      exact ⟨_, rfl, by rw [← Hx.out]; exact hown, hb⟩

theorem invert_no (s : ByteArray) (A : Option Addr) (c : Nat) (es : List Ed) (w : World) (hs : s.size ≤ 17000) (he : EdOk es) (hA : EdAt w w.heap.size A es) (hv : ¬ valid s es = 0) :
    Calls Try.prog 18 #[.string s, .slice A es.length c] w fun e w' => e = .returned (.tuple #[.slice none 0 0, .int .i64 (valid s es)]) ∧ Below w.heap.size w w' := by
  have t1 : (valid s es != 0) = true := by simp [hv]
  clear hv
  go_enter Try.func18, Try.ntmps18
  go_wp2_with fail
  refine (valid_c s A c es w hs he hA).mono ?_
  rintro e w1 ⟨rfl, hb1⟩
  go_wp2_with fail
  go_ret2
  exact ⟨rfl, hb1⟩
end Go.Proofs.Ytdiaghmkbplipaa
