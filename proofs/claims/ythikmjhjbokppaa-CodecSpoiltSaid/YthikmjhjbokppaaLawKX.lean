/- CodecSpoilt: for every input the law's call returns true: Open returns the error of a wrong checksum for a frame in which one byte of the payload or of the checksum has been changed. -/
import Derived.Test.YthikmjhjbokppaaLawKF
import Derived.StillTailTactics
namespace Go.Proofs.Ythikmjhjbokppaa.codecSpoilt
open Go.ChangeShapes Go.WideShapes Go.ChangeAt Go.RowKit
open codecFrames (open_at)
open Go.ChangeMaps (open_string shut_string)
set_option linter.unusedVariables false


theorem open_bytes' {H : Type} {enc : TypeId × Value → H} {W : World} {fuel : Nat} {v : Value} {x : DataW H × List MemPlace} (hf : DataW.trod enc Try.prog W 0 (fun _ => true) true fuel 22 [v] = some x) :
    ∃ (A : Option Addr) (c : Nat) (l : List UInt8), v = .slice A l.length c ∧ ByAt W W.heap.size A l ∧ l.length ≤ c ∧ c ≤ maxLen := by
  rcases Go.ChangeShapes.open_ints Try.underlying22 Try.underlying5 (by kernel_rfl) hf with ⟨h0, _⟩ | ⟨a, len, cap, zs, hcs, _, hl, hm, hzl, _, hc, hw⟩
  · simp only [List.cons.injEq, and_true] at h0
    exact ⟨none, 0, [], h0, .inl rfl, by simp, by simp [maxLen]⟩
  · simp only [List.cons.injEq, and_true] at hcs
    rw [if_pos rfl] at hzl
    have hlen : ((zs.take len).map fun z => z.toNat.toUInt8).length = len := by simp; omega
    refine ⟨some a, cap, (zs.take len).map fun z => z.toNat.toUInt8, by rw [hlen]; exact hcs, ?_, by omega, hm⟩
    by_cases hz : len = 0
    · subst hz; exact .inl (by simp)
    right
    have h0 := hc 0 (by omega)
    obtain ⟨b, off, spot⟩ := a
    have hspot : spot = none := by simpa [Addr.add] using World.cell?_spot h0
    subst hspot
    have hlt := World.block_lt_of_cell? W _ h0
    refine ⟨b, off, rfl, by simpa [Addr.add] using hlt, fun k hk => ?_⟩
    rw [hlen] at hk
    have h1 := hc k (by omega)
    have hk2 : k < zs.length := by omega
    have h2 := bounds_u8 (hw _ (List.getElem_mem hk2))
    rw [show (⟨b, off, none⟩ : Addr).add k = ⟨b, off + k, none⟩ from by simp [Addr.add], List.getD_eq_getElem?_getD, List.getElem?_eq_getElem hk2] at h1
    rw [h1]
    simp only [List.getElem_map, List.getElem_take, Option.getD_some]
    rw [u8_toNat (by omega)]
    congr 2
    omega

/-- n bytes that may be written. -/
def Buf (w : World) (g n : Nat) (l : List UInt8) : Prop := l.length = n ∧ g < w.heap.size ∧ (∀ k (h : k < l.length), w.cell? ⟨g, k, none⟩ = some (.int .u8 (l[k]'h).toNat)) ∧ ∀ k, w.frozen? ⟨g, k, none⟩ = false
theorem buf_set {w : World} {g n i : Nat} {l : List UInt8} (h : Buf w g n l) (hi : i < n) (y : UInt8) : Buf (w.setCell ⟨g, i, none⟩ (.int .u8 y.toNat)) g n (l.set i y) := by
  obtain ⟨h1, h2, h3, h4⟩ := h
  refine ⟨by simpa using h1, by simpa using h2, fun k hk => ?_, fun k => by simpa using h4 k⟩
  have hk' : k < l.length := by simpa using hk
  by_cases h : i = k
  · subst h
    rw [World.cell?_setCell_same _ _ _ (by rw [h3 i hk']), List.getElem_set_self]
  · rw [World.cell?_setCell_other _ _ _ _ (fun e => h (by injection e)), h3 k hk', List.getElem_set_ne h]
theorem buf_by {w : World} {g n : Nat} {l : List UInt8} (h : Buf w g n l) : ByAt w w.heap.size (some ⟨g, 0, none⟩) l :=
  .inr ⟨g, 0, rfl, h.2.1, fun k hk => by rw [Nat.zero_add]; exact h.2.2.1 k hk⟩
/-- The parameter, in a block of its own. -/
def Box (w : World) (B : Nat) (k a b : Int) (A : Option Addr) (n c : Nat) : Prop := w.cell? ⟨B, 0, none⟩ = some (.int .u8 k) ∧ w.cell? ⟨B, 1, none⟩ = some (.slice A n c) ∧ w.cell? ⟨B, 2, none⟩ = some (.int .u8 a) ∧ w.cell? ⟨B, 3, none⟩ = some (.int .u8 b)
theorem box_below {w w' : World} {B D : Nat} {k a b : Int} {A : Option Addr} {n c : Nat} (h : Box w B k a b A n c) (hb : Below D w w') (hD : B < D) : Box w' B k a b A n c :=
  ⟨(hb.cell (p := ⟨B, 0, none⟩) hD).trans h.1, (hb.cell (p := ⟨B, 1, none⟩) hD).trans h.2.1, (hb.cell (p := ⟨B, 2, none⟩) hD).trans h.2.2.1, (hb.cell (p := ⟨B, 3, none⟩) hD).trans h.2.2.2⟩

set_option maxHeartbeats 4000000 in
set_option maxRecDepth 100000 in
theorem walk (k : Int) (A : Option Addr) (l : List UInt8) (c : Nat) (a b : Int) (W : World) (hk : 0 ≤ k ∧ k ≤ 255) (hB : ByAt W W.heap.size A l) (hl : l.length ≤ c) (hm : c ≤ maxLen) (ha : 0 ≤ a ∧ a ≤ 255) (hb : 0 ≤ b ∧ b ≤ 255) :
    Calls Try.prog 6 #[.agg #[.int .u8 k, .slice A l.length c, .int .u8 a, .int .u8 b]] W fun e w' => e = .returned (.bool true) ∧ Below W.heap.size W w' := by
  have hbx : Below W.heap.size W (W.alloc (.cells #[.int .u8 k, .slice A l.length c, .int .u8 a, .int .u8 b] 47)) := (Below.refl _ W).alloc (Nat.le_refl _) _
  by_cases hs : 100 < l.length ∨ b = 0
  · have t2 : decide ((100 : Int) < (l.length : Int)) = true ∨ (decide ((100 : Int) < (l.length : Int)) = false ∧ (b == 0) = true) := by
      by_cases h : 100 < l.length
      · exact .inl (decide_eq_true (by omega))
      · exact .inr ⟨decide_eq_false (by omega), by rw [beq_iff_eq]; exact hs.resolve_left h⟩
    clear hs
    rcases t2 with t2 | ⟨t2, t3⟩
    all_goals
      go_enter Try.func6, Try.ntmps6
      go_wp2_with fail
      refine (awake_c _).mono ?_
      rintro e w' ⟨rfl, hb⟩
      go_wp2_with fail
      go_ret
      exact ⟨rfl, hbx.trans (hb.mono hbx.size)⟩
  have t2 : decide ((100 : Int) < (l.length : Int)) = false := decide_eq_false (by omega)
  have t3 : (b == 0) = false := by rw [beq_eq_false_iff_ne]; exact fun h => hs (.inr h)
  have hs1 : l.length ≤ 100 := by omega
  obtain ⟨k, rfl⟩ := Int.eq_ofNat_of_zero_le hk.1
  obtain ⟨an, rfl⟩ := Int.eq_ofNat_of_zero_le ha.1
  obtain ⟨bn, rfl⟩ := Int.eq_ofNat_of_zero_le hb.1
  have hbn : bn ≠ 0 := fun h => hs (.inr (by omega))
  have hk1 : k ≤ 255 := by omega
  obtain ⟨i0, hi, hz0, hz1, hz2⟩ := info_parts byteInfo
  have c1 := fun w hA hW => seal_c W.heap.size k A l c w hk1 hA hW (by omega)
  have hsp := fun i y h1 hi hy => openL_spoilt k.toUInt8 l i y (by omega) h1 hi hy
  have hlen := sealL_length k.toUInt8 l
  have hel := encI_len (n := l.length) (by omega) (by omega)
  generalize (encI l.length).length = el at *
  generalize sealL k.toUInt8 l = E at *
  have C1 := Lib.hid c1; have Hsp := Lib.hid hsp
  clear c1 hsp hs
  have hE4 : l.length + 4 ≤ E.length := by omega
  have hE5 : E.length ≤ 215 := by omega
  have hE6 : 1 + el + l.length + 4 ≤ E.length := by omega
  clear hlen
  have t4 : decide ((E.length : Int) < (l.length : Int) + 4) = false := decide_eq_false (by omega)
  have hbox : Box (W.alloc (.cells #[.int .u8 k, .slice A l.length c, .int .u8 an, .int .u8 bn] 47)) W.heap.size k an bn A l.length c := by
    refine ⟨?_, ?_, ?_, ?_⟩ <;> (rw [Lib.cell_of_heap (heap_alloc_new W _)]; rfl)
  go_enter Try.func6, Try.ntmps6
  go_wp2_with fail
  refine (C1.out _ (byAt_below hB hbx (Nat.le_refl _)) hbx.size).mono ?_
  rintro e w1 ⟨v1, rfl, o1, m1⟩
  have hwb : W.heap.size < (W.alloc (.cells #[.int .u8 k, .slice A l.length c, .int .u8 an, .int .u8 bn] 47)).heap.size := by simp
  have hbox1 := box_below hbox m1 hwb
  have m1' := hbx.trans (m1.mono hbx.size)
  obtain ⟨A1, k1, rfl, b1, hk11, hk12⟩ := own_by o1
  obtain ⟨bl, off, rfl, hbl, hc⟩ : ∃ b off, A1 = some ⟨b, off, none⟩ ∧ b < w1.heap.size ∧ ∀ k (h : k < E.length), w1.cell? ⟨b, off + k, none⟩ = some (.int .u8 (E[k]'h).toNat) := by
    rcases b1 with rfl | h
    · simp at hE4
    · exact h
  obtain ⟨x0, x1, x2, x3⟩ := hbox1
  clear C1 o1 b1 hbox
  have hmade : (w1.alloc (.cells #[] 5)).ownsRow w1.heap.size 5 1 (.slice (some ⟨w1.heap.size, 0, none⟩) 0 0) 0 [] := World.ownsRow_made w1 #[] 0 (Nat.le_refl _) (by unfold maxLen; omega) rfl
  go_wp2_with (at_builtin; refine wpList_append_own _ rfl _ _ 22 rfl w1.heap.size 5 i0 (.int .u8 0) 1 1 Try.underlying22 hi hz0 hz1 hz2 rfl (by decide) _ _ _ rfl hmade ⟨bl, off, none⟩ E.length k1 (Lib.byteCells E) rfl ?c0 ?c1 ?c2 ?c3 ?c4 ?c5 ?_)
  case c0 => rw [Lib.byteCells_length]; omega
  case c1 =>
    intro j u hj
    have hj' : j < E.length := by
      have := (List.getElem?_eq_some_iff.1 hj).1
      simpa [byteCells_map] using this
    rw [byteCells_map, List.getElem?_map, List.getElem?_eq_getElem hj'] at hj
    injection hj with hj
    rw [← hj, show (⟨bl, off, none⟩ : Addr).add j = ⟨bl, off + j, none⟩ from by simp [Addr.add]]
    exact (((Below.refl w1.heap.size w1).alloc (Nat.le_refl _) _).cell (p := ⟨bl, off + j, none⟩) (by assumption)).trans (hc j hj')
  case c2 =>
    intro u hu
    rw [byteCells_map] at hu
    obtain ⟨x, _, rfl⟩ := List.mem_map.1 hu
    rfl
  case c3 => unfold maxLen; omega
  case c4 => omega
  case c5 => simp
  intro v' w2 hown' hgrow _
  have hbl2 : Below w1.heap.size w1 w2 := ((Below.refl _ w1).alloc (Nat.le_refl _) _).grown hgrow (by simp) (fun k hk => (hmade.lt k hk).1)
  obtain ⟨g, cap, cur, rfl, hgB, hgh, hcap1, hcap2, _, htake⟩ : ∃ g cap cur, v' = .slice (some ⟨g, 0, none⟩) E.length cap ∧ w1.heap.size ≤ g ∧ w2.heap[g]? = some (.cells cur 5 (0, 0)) ∧ E.length ≤ cap ∧ cap ≤ maxLen ∧ cur.size = cap * 1 ∧ cur.toList.take (E.length * 1) = Lib.byteCells E := by
    rcases hown'.2 with ⟨_, h⟩ | h
    · omega
    · exact h
  have hbuf : Buf w2 g E.length E := by
    refine ⟨rfl, lt_of_block hgh, fun k hk => ?_, fun k => Lib.frozen_of_heap hgh k⟩
    have h6 : (cur.toList.take (E.length * 1))[k]? = (Lib.byteCells E)[k]? := by rw [htake]
    rw [List.getElem?_take, if_pos (by omega), byteCells_map, List.getElem?_map, List.getElem?_eq_getElem hk] at h6
    rw [Lib.cell_of_heap hgh]
    show cur[k]? = _
    rw [← Array.getElem?_toList, h6]
    rfl
  have hw1 : W.heap.size < w1.heap.size := by have := m1.size; simp at this; omega
  have Hbox2 := Lib.hid (box_below ⟨x0, x1, x2, x3⟩ hbl2 hw1)
  have m2' := m1'.trans (hbl2.mono m1'.size)
  have Hbuf := Lib.hid hbuf
  clear hbuf htake hgh hown' hgrow hmade hc hB x0 x1 x2 x3
  obtain ⟨x0, x1, x2, x3⟩ := Hbox2.out
  have hmod : an % (l.length + 4) < l.length + 4 := Nat.mod_lt _ (by omega)
  have p4 : (an : Int).tmod ((l.length : Int) + 4) = ((an % (l.length + 4) : Nat) : Int) := by
    rw [Int.tmod_eq_emod_of_nonneg (by omega)]
    simp
  generalize an % (l.length + 4) = M at *
  have him : E.length - 1 - M < E.length := by omega
  have cx : w2.cell? ⟨g, E.length - 1 - M, none⟩ = some (.int .u8 (E[E.length - 1 - M]'him).toNat) := Hbuf.out.2.2.1 _ him
  have fx : w2.frozen? ⟨g, E.length - 1 - M, none⟩ = false := Hbuf.out.2.2.2 _
  have p1 : IntKind.i64.wrap ((E.length : Int) - 1) = (E.length : Int) - 1 := IntWalk.i64_in _ (by omega)
  have p2 : IntKind.i64.wrap (an : Int) = (an : Int) := IntWalk.i64_in _ (by omega)
  have p3 : IntKind.i64.wrap ((l.length : Int) + 4) = (l.length : Int) + 4 := IntWalk.i64_in _ (by omega)
  have p5 : IntKind.i64.wrap (M : Int) = (M : Int) := IntWalk.i64_in _ (by omega)
  have p6 : IntKind.i64.wrap ((E.length : Int) - 1 - (M : Int)) = (E.length : Int) - 1 - (M : Int) := IntWalk.i64_in _ (by omega)
  have p7 : (0 : Int) ≤ (E.length : Int) - 1 - (M : Int) ∧ (E.length : Int) - 1 - (M : Int) < (E.length : Int) := by omega
  obtain ⟨p7, p7'⟩ := p7
  have p11 : (M : Int) ≤ (E.length : Int) - 1 := by omega
  have p8 : ((E.length : Int) - 1 - (M : Int)).toNat = E.length - 1 - M := by omega
  have p9 : ((l.length : Int) + 4 == 0) = false := by rw [beq_eq_false_iff_ne]; omega
  have p10 : ¬ ((l.length : Int) + 4 = 0) := by omega
  go_wp2_with fail
  go_still_tail 19, (by kernel_rfl)
  change wpList _ _ _ _ _ w2.drew
  have M3 := m2'.drew
  have cx3 : w2.drew.cell? ⟨g, E.length - 1 - M, none⟩ = some (.int .u8 (E[E.length - 1 - M]'him).toNat) := cx
  have fx3 : w2.drew.frozen? ⟨g, E.length - 1 - M, none⟩ = false := fx
  have hB3 : Buf w2.drew g E.length E := Hbuf.out
  clear cx fx Hbuf Hbox2 x0 x1 x2 x3 m2' hbl2
  generalize w2.drew = w3 at *
  have hx8 := UInt8.toNat_lt (E[E.length - 1 - M]'him)
  have hxlt : (E[E.length - 1 - M]'him).toNat ^^^ bn < 256 := Nat.xor_lt_two_pow (n := 8) hx8 (by omega)
  have hxor : bits .xor .u8 ((E[E.length - 1 - M]'him).toNat : Int) (bn : Int) = ((((E[E.length - 1 - M]'him).toNat ^^^ bn).toUInt8).toNat : Int) := by
    rw [u8_xor_nat _ _ hx8 (by omega), u8_toNat hxlt]
  have hne : ((E[E.length - 1 - M]'him).toNat ^^^ bn).toUInt8 ≠ E[E.length - 1 - M]'him := by
    intro h
    have h1 := congrArg UInt8.toNat h
    rw [u8_toNat hxlt] at h1
    have h2 : bn ^^^ (E[E.length - 1 - M]'him).toNat = 0 ^^^ (E[E.length - 1 - M]'him).toNat := by rw [Nat.xor_comm, h1, Nat.zero_xor]
    have h3 := xor_cancel h2
    omega
  have hop := Hsp.out (E.length - 1 - M) _ (by omega) him hne
  have hset := buf_set hB3 him ((E[E.length - 1 - M]'him).toNat ^^^ bn).toUInt8
  have hgW : W.heap.size ≤ g := by omega
  have Mset := M3.setCell (p := ⟨g, E.length - 1 - M, none⟩) hgW (.int .u8 ((E[E.length - 1 - M]'him).toNat ^^^ bn).toUInt8.toNat)
  have hopen := open_at (c := cap) (buf_by hset) (by rw [List.length_set]; omega) (by rw [List.length_set]; omega) hcap2 hop
  rw [List.length_set] at hopen
  have Hopen := Lib.hid hopen
  have Hxor := Lib.hid hxor
  have HM := Lib.hid Mset
  clear hopen hxor hset hop hne Hsp p1 p2 p3 p4 p5 p6 p8 p9 p10 hB3 Mset hxlt hx8
  go_wp2_with fail
  rw [Hxor.out]
  refine Hopen.out.mono ?_
  rintro e w5 ⟨A5, c5, rfl, b5, m5⟩
  have m5' := HM.out.trans (m5.mono HM.out.size)
  clear Hopen Hxor HM
  go_wp2_with fail
  refine (awake_c _).mono ?_
  rintro e w6 ⟨rfl, m6⟩
  go_wp2_with fail
  go_ret
  exact ⟨rfl, m5'.trans (m6.mono m5'.size)⟩

theorem open_change {H : Type} {enc : TypeId × Value → H} {W : World} {base : Nat} {r : Reach} {v : Value} {d : DataW H} {p : List MemPlace} (hv : Value.okWide Try.prog W r base 47 v) (h : DataW.Trod enc Try.prog W 0 (fun _ => true) true 47 v d p) :
    ∃ (k : Int) (A : Option Addr) (l : List UInt8) (c : Nat) (a b : Int), v = .agg #[.int .u8 k, .slice A l.length c, .int .u8 a, .int .u8 b] ∧ (0 ≤ k ∧ k ≤ 255) ∧ ByAt W W.heap.size A l ∧ l.length ≤ c ∧ c ≤ maxLen ∧ (0 ≤ a ∧ a ≤ 255) ∧ (0 ≤ b ∧ b ≤ 255) := by
  obtain ⟨v0, v1, v2, v3, y0, y1, y2, y3, n, rfl, _, _, t0, t1, t2, t3⟩ := Go.Joins.open_agg4 Try.underlying47 (by kernel_rfl) (by kernel_rfl) hv h
  obtain ⟨k, e0, _, w0⟩ := DataW.trod_int Try.underlying5 t0
  obtain ⟨A, c, l, rfl, hB, hl, hm⟩ := open_bytes' t1
  obtain ⟨a, e2, _, w2⟩ := DataW.trod_int Try.underlying5 t2
  obtain ⟨b, e3, _, w3⟩ := DataW.trod_int Try.underlying5 t3
  simp only [List.cons.injEq, and_true] at e0 e2 e3
  subst e0; subst e2; subst e3
  exact ⟨k, A, l, c, a, b, rfl, bounds_u8 w0, hB, hl, hm, bounds_u8 w2, bounds_u8 w3⟩

set_option maxRecDepth 100000 in
theorem lifted (os : Os) (started : os.Started) (H : Type) (enc : TypeId × Value → H) :
    ReturnsInHanded {} Try.checked os 6 .any (Rows.codecSpoiltSpec.pre6 enc Try.prog Try.f6 Rows.codecSpoiltRow.domain false) (Rows.codecSpoiltSpec.post enc Try.prog Try.f6 false true false false) := by
  refine returnsInHanded_of_change (C := Try.checked) own started (by kernel_rfl) Try.func6
    (ChangeSpec.witness6 (enc := enc) (C := Try.checked) false ⟨#[], #[.agg #[.int .u8 0, .slice none 0 0, .int .u8 0, .int .u8 0]], []⟩ 8 (by kernel_rfl) (by kernel_rfl) (by kernel_rfl) (by kernel_rfl)) ?_
  intro W base args ds gs before hval0 hW hcnd _
  have hval : ∀ (j : Nat) t v, Try.f6.params[j]? = some t → args[j]? = some v → Value.okWide Try.prog W .any base t v := hval0
  have hW' := hW
  obtain ⟨p, q, hA0, hV, rfl, hfz, hnd⟩ := hW
  have hA : DataW.TrodAll enc Try.prog W 0 (fun _ => true) true Try.f6.params.toList args.toList ds p := hA0
  have hA1 := hA
  rw [Try.params6] at hA hval
  obtain ⟨v0, vs0, d0, ds0, p0, q0, hargs, rfl, rfl, h0, r0⟩ := trodAll_cons hA
  obtain ⟨rfl, rfl, rfl⟩ := trodAll_nil r0
  obtain rfl : args = #[v0] := by cases args; simp_all
  obtain ⟨rfl, rfl⟩ := trodVars_none hV
  have hlt : ∀ x ∈ p0 ++ [], x.block < W.heap.size := fun x hx => hW'.lt x (List.mem_append_left _ hx)
  obtain ⟨k0, A0, l0, c0, a0, b0, rfl, hk0, hB0, hl0, hm0, ha0, hb0⟩ := open_change (hval 0 47 v0 rfl rfl) h0
  clear hA0 hval0
  refine (walk k0 A0 l0 c0 a0 b0 W hk0 hB0 hl0 hm0 ha0 hb0).mono fun e W' ⟨he, hg⟩ => ?_
  subst he
  exact ⟨_, rfl, _, [], _, [], _, [], hW', trodAll_cons_mk (shut_bool Try.underlying4 _) trodAll_mk0, trodAll_below laidOut hg _ _ _ _ (by
      rw [Try.params6]
      intro t ht
      obtain rfl := List.mem_singleton.1 ht
      · exact ⟨by kernel_rfl, of_decide_eq_true (by kernel_rfl)⟩) hlt hA1, rfl, hg.frame _, fun h => by cases h⟩

theorem over : Rows.codecSpoiltRow.holds Try.pinned (OpenSpec.ofChange Rows.codecSpoiltSpec) :=
  OpenClaim.holds_of_wide 6 Try.f6 rfl rfl rfl rfl rfl rfl rfl ⟨rfl, rfl, rfl, rfl, rfl⟩ rfl rfl rfl rfl rfl (by kernel_rfl) Try.func6 (by kernel_rfl)
    (of_decide_eq_true (by kernel_rfl)) (by unfold Func.isWrapper; first | (rw [if_pos (by decide +kernel)]; kernel_rfl) | (rw [if_neg (by decide +kernel)]; exact ⟨rfl, rfl⟩))
    (fun os started H enc _ => lifted os started H enc)

theorem proved : Rows.CodecSpoiltSaid :=
  over
end Go.Proofs.Ythikmjhjbokppaa.codecSpoilt
