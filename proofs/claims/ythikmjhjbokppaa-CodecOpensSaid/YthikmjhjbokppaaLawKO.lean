/- CodecOpens: for every input the law's call returns true: Open returns the specified result or error, both with its own and with a corrected checksum. -/
import Derived.Test.YthikmjhjbokppaaKArg
import Derived.Test.YthikmjhjbokppaaKROpen
namespace Go.Proofs.Ythikmjhjbokppaa.codecOpens
open Go.ChangeShapes Go.WideShapes Go.ChangeAt Go.RowKit
open Go.ChangeMaps (open_string shut_string)
set_option linter.unusedVariables false


/-- n bytes that may be written. -/
def Buf (w : World) (g n : Nat) (l : List UInt8) : Prop := l.length = n ∧ g < w.heap.size ∧ (∀ k (h : k < l.length), w.cell? ⟨g, k, none⟩ = some (.int .u8 (l[k]'h).toNat)) ∧ ∀ k, w.frozen? ⟨g, k, none⟩ = false
theorem buf_set {w : World} {g n i : Nat} {l : List UInt8} (h : Buf w g n l) (hi : i < n) (y : UInt8) : Buf (w.setCell ⟨g, i, none⟩ (.int .u8 y.toNat)) g n (l.set i y) := by
  obtain ⟨h1, h2, h3, h4⟩ := h
  refine ⟨by simpa using h1, by simpa using h2, fun k hk => ?_, fun k => by simpa using h4 k⟩
  have hk' : k < l.length := by simpa using hk
  by_cases h : i = k
  · subst h
    rw [World.cell?_setCell_same _ _ _ (by rw [h3 i hk']), List.getElem_set_self]
  · rw [World.cell?_setCell_other _ _ _ _ (fun e => h (by injection e)), h3 k hk', List.getElem_set_ne h]
theorem buf_by {w : World} {g n : Nat} {l : List UInt8} (h : Buf w g n l) : ByAt w w.heap.size (some ⟨g, 0, none⟩) l :=
  .inr ⟨g, 0, rfl, h.2.1, fun k hk => by rw [Nat.zero_add]; exact h.2.2.1 k hk⟩
theorem byte_ex (z : Int) : ∃ y : UInt8, z % 256 = (y.toNat : Int) := by
  refine ⟨(z % 256).toNat.toUInt8, ?_⟩
  rw [u8_toNat (by omega)]
  omega
/-- Both answers are the same. -/
theorem rest_of {A : Option Addr} {l : List UInt8} {c : Nat} (w : World) (hA : ByAt w w.heap.size A l) (hl : l.length ≤ 1000) (hc : l.length ≤ c) (hm : c ≤ maxLen) : ∃ (k p f : Nat) (d : List UInt8),
  (∀ w', Below w.heap.size w w' → Calls Try.prog 17 #[.slice A l.length c] w' fun e w2 => ∃ A2 c2, e = .returned (.tuple #[.int .i64 k, .slice A2 d.length c2, .int .i64 p, .int .i64 f]) ∧ ByAt w2 w2.heap.size A2 d ∧ Below w'.heap.size w' w2) ∧
  (∀ w', Below w.heap.size w w' → Calls Try.prog 19 #[.slice A l.length c] w' fun e w2 => ∃ A2 c2, e = .returned (.tuple #[.int .i64 k, .slice A2 d.length c2, .int .i64 p, .int .i64 f]) ∧ ByAt w2 w2.heap.size A2 d ∧ Below w'.heap.size w' w2) := by
  refine ⟨(openL l).1, (openL l).2.2.1, (openL l).2.2.2, (openL l).2.1, fun w' hw => ?_, fun w' hw => ?_⟩
  · refine (open_c A l c w' (byAt_mono (byAt_below hA hw (Nat.le_refl _)) hw.size) ⟨hc, hm⟩ (by omega)).mono ?_
    rintro e w2 ⟨v, rfl, o, m⟩
    obtain ⟨A2, c2, rfl, b2, _, _⟩ := own_by o
    exact ⟨A2, c2, rfl, b2, m⟩
  · refine (ropen_c A l c w' (byAt_mono (byAt_below hA hw (Nat.le_refl _)) hw.size) (by omega) hc hm).mono ?_
    rintro e w2 ⟨v, rfl, o, m⟩
    obtain ⟨A2, c2, rfl, b2, _, _⟩ := own_by o
    exact ⟨A2, c2, rfl, b2, m⟩

set_option maxHeartbeats 4000000 in
set_option maxRecDepth 100000 in
theorem walk (A : Option Addr) (l : List UInt8) (c : Nat) (b : Bool) (W : World) (hB : ByAt W W.heap.size A l) (hl : l.length ≤ c) (hm : c ≤ maxLen) :
    Calls Try.prog 5 #[.slice A l.length c, .bool b] W fun e w' => e = .returned (.bool true) ∧ Below W.heap.size W w' := by
  by_cases hs : 200 < l.length
  · have t1 : decide ((200 : Int) < (l.length : Int)) = true := decide_eq_true (by omega)
    go_enter Try.func5, Try.ntmps5
    go_wp2_with fail
    refine (awake_c _).mono ?_
    rintro e w' ⟨rfl, hb⟩
    go_wp2_with fail
    go_ret
    exact ⟨rfl, hb⟩
  have hs1 : l.length ≤ 200 := by omega
  have t1 : decide ((200 : Int) < (l.length : Int)) = false := decide_eq_false (by omega)
  have ma : Below W.heap.size W (W.alloc (.cells #[] 5)) := (Below.refl _ W).alloc (Nat.le_refl _) _
  by_cases hbm : b = true ∧ 4 ≤ l.length
  · obtain ⟨rfl, h4⟩ := hbm
    have t2 : decide ((4 : Int) ≤ (l.length : Int)) = true := decide_eq_true (by omega)
    obtain ⟨i0, hi, hz0, hz1, hz2⟩ := info_parts byteInfo
    obtain ⟨bl, off, rfl, _, hc⟩ : ∃ b off, A = some ⟨b, off, none⟩ ∧ b < W.heap.size ∧ ∀ k (h : k < l.length), W.cell? ⟨b, off + k, none⟩ = some (.int .u8 (l[k]'h).toNat) := by
      rcases hB with rfl | h
      · simp at h4
      · exact h
    have hmade : (W.alloc (.cells #[] 5)).ownsRow W.heap.size 5 1 (.slice (some ⟨W.heap.size, 0, none⟩) 0 0) 0 [] := World.ownsRow_made W #[] 0 (Nat.le_refl _) (by unfold maxLen; omega) rfl
    go_enter Try.func5, Try.ntmps5
    go_wp2_with (at_builtin; refine wpList_append_own _ rfl _ _ 22 rfl W.heap.size 5 i0 (.int .u8 0) 1 1 Try.underlying22 hi hz0 hz1 hz2 rfl (by decide) _ _ _ rfl hmade ⟨bl, off, none⟩ l.length c (Lib.byteCells l) rfl ?c0 ?c1 ?c2 ?c3 ?c4 ?c5 ?_)
    case c0 => rw [Lib.byteCells_length]; omega
    case c1 =>
      intro j u hj
      have hj' : j < l.length := by
        have := (List.getElem?_eq_some_iff.1 hj).1
        simpa [byteCells_map] using this
      rw [byteCells_map, List.getElem?_map, List.getElem?_eq_getElem hj'] at hj
      injection hj with hj
      rw [← hj, show (⟨bl, off, none⟩ : Addr).add j = ⟨bl, off + j, none⟩ from by simp [Addr.add]]
      exact (((Below.refl W.heap.size W).alloc (Nat.le_refl _) _).cell (p := ⟨bl, off + j, none⟩) (by assumption)).trans (hc j hj')
    case c2 =>
      intro u hu
      rw [byteCells_map] at hu
      obtain ⟨x, _, rfl⟩ := List.mem_map.1 hu
      rfl
    case c3 => unfold maxLen; omega
    case c4 => omega
    case c5 => simp
    intro v' w2 hown' hgrow _
    have hbl : Below W.heap.size W w2 := ((Below.refl _ W).alloc (Nat.le_refl _) _).grown hgrow (by simp) (fun k hk => (hmade.lt k hk).1)
    obtain ⟨g, cap, cur, rfl, hgB, hgh, hcap1, hcap2, _, htake⟩ : ∃ g cap cur, v' = .slice (some ⟨g, 0, none⟩) l.length cap ∧ W.heap.size ≤ g ∧ w2.heap[g]? = some (.cells cur 5 (0, 0)) ∧ l.length ≤ cap ∧ cap ≤ maxLen ∧ cur.size = cap * 1 ∧ cur.toList.take (l.length * 1) = Lib.byteCells l := by
      rcases hown'.2 with ⟨_, h⟩ | h
      · omega
      · exact h
    have hbuf : Buf w2 g l.length l := by
      refine ⟨rfl, lt_of_block hgh, fun k hk => ?_, fun k => Lib.frozen_of_heap hgh k⟩
      have h6 : (cur.toList.take (l.length * 1))[k]? = (Lib.byteCells l)[k]? := by rw [htake]
      rw [List.getElem?_take, if_pos (by omega), byteCells_map, List.getElem?_map, List.getElem?_eq_getElem hk] at h6
      rw [Lib.cell_of_heap hgh]
      show cur[k]? = _
      rw [← Array.getElem?_toList, h6]
      rfl
    have hsum := rsum_c w2.heap.size (some ⟨g, 0, none⟩) (l.take (l.length - 4)) cap w2 (byAt_take (buf_by hbuf) _) (by rw [List.length_take]; omega)
    rw [List.length_take, show min (l.length - 4) l.length = l.length - 4 from by omega] at hsum
    have hlt : crcSum (l.take (l.length - 4)) < 4294967296 := by unfold crcSum; omega
    generalize crcSum (l.take (l.length - 4)) = S at *
    have Hsum := Lib.hid hsum
    have Hbuf := Lib.hid hbuf
    clear hsum hbuf htake hgh hown' hgrow hmade hc hB
    go_wp2_with fail
    with_reducible refine Hsum.out.mono ?_
    rintro e w3 ⟨rfl, rfl⟩
    clear Hsum
    go_wp2_with fail
    go_loopw [7] (fun iv wr => ∃ (j : Nat) (m : List UInt8), j ≤ 4 ∧ iv = .int .i64 j ∧ Hid (Buf wr g l.length m) ∧ Below W.heap.size W wr) (fun iv _ => 4 - (intOf iv).toNat)
    case atStart => exact ⟨0, l, by omega, rfl, Hbuf, hbl⟩
    case round =>
      obtain ⟨j, m, hj, rfl, hbf, hb⟩ := hrel
      by_cases hlt4 : j < 4
      · have d1 : decide ((j : Int) < 4) = true := decide_eq_true (by omega)
        have d1' : decide (j < 4) = true := decide_eq_true hlt4
        have hix : l.length - 1 - j < l.length := by omega
        have cw : wr.cell? ⟨g, l.length - 1 - j, none⟩ = some (.int .u8 (m[l.length - 1 - j]'(by have := hbf.out.1; omega)).toNat) := hbf.out.2.2.1 _ (by have := hbf.out.1; omega)
        have fw : wr.frozen? ⟨g, l.length - 1 - j, none⟩ = false := hbf.out.2.2.2 _
        have g1 : (0 : Int) ≤ (l.length : Int) - 1 - (j : Int) ∧ (l.length : Int) - 1 - (j : Int) < (l.length : Int) := by omega
        have g2 : ((l.length : Int) - 1 - (j : Int)).toNat = l.length - 1 - j := by omega
        have g3 : (0 : Int) ≤ 8 * (j : Int) ∧ 8 * (j : Int) < 64 := by omega
        go_wp2_with fail
        obtain ⟨y, hy⟩ := byte_ex ((S : Int) / 2 ^ (8 * j))
        go_roundw
        case rel => exact ⟨j + 1, _, by omega, by go_num, Lib.hid (by rw [hy]; exact buf_set hbf.out hix y), hb.setCell (p := ⟨g, _, none⟩) hgB _⟩
        case measure => simp [intOf]; omega
      · have hj4 : j = 4 := by omega
        subst hj4
        have hml := hbf.out.1
        obtain ⟨k, p, f, d, c1, c2⟩ := rest_of wr (buf_by hbf.out) (by omega) (c := cap) (by omega) hcap2
        rw [hml] at c1 c2
        have C1 := Lib.hid c1
        have C2 := Lib.hid c2
        clear c1 c2 hml hbf Hbuf
        have e1 : ((k : Int) == (k : Int)) = true := by simp
        have e2 : ((p : Int) == (p : Int)) = true := by simp
        have e3 : ((f : Int) == (f : Int)) = true := by simp
        have e4 : (d == d) = true := by simp
        go_wp2_with fail
        refine (C1.out _ (Below.refl _ _)).mono ?_
        rintro e w4 ⟨A2, c2, rfl, b2, m4⟩
        go_wp2_with fail
        refine (C2.out _ m4).mono ?_
        rintro e w5 ⟨A3, c3, rfl, b3, m5⟩
        have m45 := m4.trans (m5.mono m4.size)
        have b25 := byAt_below b2 m5 (Nat.le_refl _)
        clear C1 C2
        go_wp2_with fail
        refine (sameBytes_c _ _ A2 A3 d d c2 c3 _ b25 b3).mono ?_
        rintro e w6 ⟨rfl, rfl⟩
        go_wp2_with fail
        refine (awake_c _).mono ?_
        rintro e w7 ⟨rfl, m7⟩
        go_wp2_with fail
        go_ret
        exact ⟨rfl, hb.trans ((m45.trans (m7.mono m45.size)).mono hb.size)⟩
  · have olit := own_lit W W.heap.size (Nat.le_refl _) [] #[] rfl (by simp)
    have hB1 := byAt_alloc hB (Nat.le_refl _) (.cells #[] 5)
    have hmg : b = false ∨ (b = true ∧ decide ((4 : Int) ≤ (l.length : Int)) = false) := by
      cases b
      · exact .inl rfl
      · right; refine ⟨rfl, decide_eq_false fun h => hbm ⟨rfl, by omega⟩⟩
    clear hbm
    rcases hmg with rfl | ⟨rfl, t2⟩
    all_goals
      go_enter Try.func5, Try.ntmps5
      go_wp2_with (at_builtin; refine wpList_app_by rfl _ _ rfl W.heap.size _ _ rfl olit W.heap.size A l c rfl hB1 (by simp; omega) ma.size ?_)
      intro v2 w2 o2 m2
      replace m2 := ma.trans m2
      change Own w2 W.heap.size v2 l at o2
      obtain ⟨Ax, cx, rfl, bx, hcx1, hcx2⟩ := own_by o2
      obtain ⟨k, p, f, d, c1, c2⟩ := rest_of w2 bx (by omega) hcx1 hcx2
      have C1 := Lib.hid c1
      have C2 := Lib.hid c2
      clear c1 c2 o2 bx olit hB1 hB
      have e1 : ((k : Int) == (k : Int)) = true := by simp
      have e2 : ((p : Int) == (p : Int)) = true := by simp
      have e3 : ((f : Int) == (f : Int)) = true := by simp
      have e4 : (d == d) = true := by simp
      go_wp2_with fail
      refine (C1.out _ (Below.refl _ _)).mono ?_
      rintro e w4 ⟨A2, c2, rfl, b2, m4⟩
      go_wp2_with fail
      refine (C2.out _ m4).mono ?_
      rintro e w5 ⟨A3, c3, rfl, b3, m5⟩
      have m45 := m4.trans (m5.mono m4.size)
      have b25 := byAt_below b2 m5 (Nat.le_refl _)
      clear C1 C2
      go_wp2_with fail
      refine (sameBytes_c _ _ A2 A3 d d c2 c3 _ b25 b3).mono ?_
      rintro e w6 ⟨rfl, rfl⟩
      go_wp2_with fail
      refine (awake_c _).mono ?_
      rintro e w7 ⟨rfl, m7⟩
      go_wp2_with fail
      go_ret
      exact ⟨rfl, m2.trans ((m45.trans (m7.mono m45.size)).mono m2.size)⟩

set_option maxRecDepth 100000 in
theorem lifted (os : Os) (started : os.Started) (H : Type) (enc : TypeId × Value → H) :
    ReturnsInHanded {} Try.checked os 5 .any (Rows.codecOpensSpec.pre6 enc Try.prog Try.f5 Rows.codecOpensRow.domain false) (Rows.codecOpensSpec.post enc Try.prog Try.f5 false true false false) := by
  refine returnsInHanded_of_change (C := Try.checked) own started (by kernel_rfl) Try.func5
    (ChangeSpec.witness6 (enc := enc) (C := Try.checked) false ⟨#[], #[.slice none 0 0, .bool false], []⟩ 8 (by kernel_rfl) (by kernel_rfl) (by kernel_rfl) (by kernel_rfl)) ?_
  intro W base args ds gs before hval0 hW hcnd _
  have hval : ∀ (j : Nat) t v, Try.f5.params[j]? = some t → args[j]? = some v → Value.okWide Try.prog W .any base t v := hval0
  have hW' := hW
  obtain ⟨p, q, hA0, hV, rfl, hfz, hnd⟩ := hW
  have hA : DataW.TrodAll enc Try.prog W 0 (fun _ => true) true Try.f5.params.toList args.toList ds p := hA0
  have hA1 := hA
  rw [Try.params5] at hA hval
  obtain ⟨v0, vs0, d0, ds0, p0, q0, hargs, rfl, rfl, h0, r0⟩ := trodAll_cons hA
  obtain ⟨v1, vs1, d1, ds1, p1, q1, rfl, rfl, rfl, h1, r1⟩ := trodAll_cons r0
  obtain ⟨rfl, rfl, rfl⟩ := trodAll_nil r1
  obtain rfl : args = #[v0, v1] := by cases args; simp_all
  obtain ⟨rfl, rfl⟩ := trodVars_none hV
  have hlt : ∀ x ∈ p0 ++ (p1 ++ []), x.block < W.heap.size := fun x hx => hW'.lt x (List.mem_append_left _ hx)
  obtain ⟨A0, c0, l0, rfl, hB0, hl0, hm0⟩ := open_bytes (hval 0 22 v0 rfl rfl) h0
  obtain ⟨a1, rfl, rfl, rfl⟩ := open_bool Try.underlying4 (hval 1 4 v1 rfl rfl) h1
  clear hA0 hval0
  refine (walk A0 l0 c0 a1 W hB0 hl0 hm0 ).mono fun e W' ⟨he, hg⟩ => ?_
  subst he
  exact ⟨_, rfl, _, [], _, [], _, [], hW', trodAll_cons_mk (shut_bool Try.underlying4 _) trodAll_mk0, trodAll_below laidOut hg _ _ _ _ (by
      rw [Try.params5]
      intro t ht
      simp only [List.mem_cons, List.mem_nil_iff, or_false] at ht
      rcases ht with rfl | rfl
      · exact ⟨by kernel_rfl, of_decide_eq_true (by kernel_rfl)⟩
      · exact ⟨by kernel_rfl, of_decide_eq_true (by kernel_rfl)⟩) hlt hA1, rfl, hg.frame _, fun h => by cases h⟩

theorem over : Rows.codecOpensRow.holds Try.pinned (OpenSpec.ofChange Rows.codecOpensSpec) :=
  OpenClaim.holds_of_wide 5 Try.f5 rfl rfl rfl rfl rfl rfl rfl ⟨rfl, rfl, rfl, rfl, rfl⟩ rfl rfl rfl rfl rfl (by kernel_rfl) Try.func5 (by kernel_rfl)
    (of_decide_eq_true (by kernel_rfl)) (by unfold Func.isWrapper; first | (rw [if_pos (by decide +kernel)]; kernel_rfl) | (rw [if_neg (by decide +kernel)]; exact ⟨rfl, rfl⟩))
    (fun os started H enc _ => lifted os started H enc)

theorem proved : Rows.CodecOpensSaid :=
  over

end Go.Proofs.Ythikmjhjbokppaa.codecOpens
