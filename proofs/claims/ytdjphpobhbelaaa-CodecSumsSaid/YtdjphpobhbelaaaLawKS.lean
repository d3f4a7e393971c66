/- CodecSums: for every input the law's call returns true: Sum returns the CRC-32C of every input, and changing one byte of the input changes the checksum. -/
import Derived.Test.YtdjphpobhbelaaaKArg
import Derived.Test.YtdjphpobhbelaaaKRef
namespace Go.Proofs.Ytdjphpobhbelaaa.codecSums
open Go.ChangeShapes Go.WideShapes Go.ChangeAt Go.RowKit
open Go.ChangeMaps (open_string shut_string)
set_option linter.unusedVariables false

theorem set_by {w : World} {B g cap i : Nat} {l : List UInt8} {cur : Array Value} (y : UInt8) (hg : w.heap[g]? = some (.cells cur 5 (0, 0))) (ht : cur.toList.take (l.length * 1) = Lib.byteCells l) (hi : i < l.length) :
    w.cell? ⟨g, i, none⟩ = some (.int .u8 (l[i]'hi).toNat) ∧ w.frozen? ⟨g, i, none⟩ = false ∧ ByAt (w.setCell ⟨g, i, none⟩ (.int .u8 y.toNat)) w.heap.size (some ⟨g, 0, none⟩) (l.set i y) := by
  have hcell : ∀ k (h : k < l.length), w.cell? ⟨g, k, none⟩ = some (.int .u8 (l[k]'h).toNat) := by
    intro k hk
    have h6 : (cur.toList.take (l.length * 1))[k]? = (Lib.byteCells l)[k]? := by rw [ht]
    rw [List.getElem?_take, if_pos (by omega), byteCells_map, List.getElem?_map, List.getElem?_eq_getElem hk] at h6
    rw [Lib.cell_of_heap hg]
    show cur[k]? = _
    rw [← Array.getElem?_toList, h6]
    rfl
  refine ⟨hcell i hi, Lib.frozen_of_heap hg i, .inr ⟨g, 0, rfl, lt_of_block hg, fun k hk => ?_⟩⟩
  rw [Nat.zero_add]
  have hk' : k < l.length := by simpa using hk
  by_cases h : i = k
  · subst h
    rw [World.cell?_setCell_same _ _ _ (by rw [hcell i hi]), List.getElem_set_self]
  · rw [World.cell?_setCell_other _ _ _ _ (fun e => h (by injection e)), hcell k hk', List.getElem_set_ne h]

set_option maxHeartbeats 4000000 in
set_option maxRecDepth 100000 in
theorem walk (A : Option Addr) (l : List UInt8) (c : Nat) (a b : Int) (W : World) (hB : ByAt W W.heap.size A l) (hl : l.length ≤ c) (hm : c ≤ maxLen) (ha : 0 ≤ a ∧ a ≤ 255) (hb : 0 ≤ b ∧ b ≤ 255) :
    Calls Try.prog 7 #[.slice A l.length c, .int .u8 a, .int .u8 b] W fun e w' => e = .returned (.bool true) ∧ Below W.heap.size W w' := by
  by_cases hs : 300 < l.length
  · have t1 : decide ((300 : Int) < (l.length : Int)) = true := decide_eq_true (by omega)
    go_enter Try.func7, Try.ntmps7
    go_wp2_with fail
    refine (awake_c _).mono ?_
    rintro e w' ⟨rfl, hb⟩
    go_wp2_with fail
    go_ret
    exact ⟨rfl, hb⟩
  have hs1 : l.length ≤ 300 := by omega
  have t1 : decide ((300 : Int) < (l.length : Int)) = false := decide_eq_false (by omega)
  have hS : crcSum l < 4294967296 := by unfold crcSum; omega
  have u1 : decide ((crcSum l : Int) < 0) = false := decide_eq_false (by omega)
  have u2 : decide ((4294967295 : Int) < (crcSum l : Int)) = false := decide_eq_false (by omega)
  have u2' : decide (4294967295 < crcSum l) = false := decide_eq_false (by omega)
  have c1 := fun w h => sum_c W.heap.size A l c w h (by omega)
  have c2 := fun w h => rsum_c W.heap.size A l c w h (by omega)
  have hset := crcSum_set l
  generalize hSg : crcSum l = S at *
  have C1 := Lib.hid c1; have C2 := Lib.hid c2; have Hset := Lib.hid hset
  clear c1 c2 hset hSg
  have e1 : ((S : Int) != (S : Int)) = false := by simp
  by_cases h0 : l = [] ∨ b = 0
  · have t2 : (((l.length : Int) == 0) = true) ∨ (((l.length : Int) == 0) = false ∧ (b == 0) = true) := by
      by_cases hz : l = []
      · left; subst hz; rfl
      · right
        refine ⟨?_, ?_⟩
        · rw [beq_eq_false_iff_ne]
          intro h
          exact hz (List.length_eq_zero_iff.1 (by omega))
        · rw [beq_iff_eq]; exact h0.resolve_left hz
    clear h0
    rcases t2 with t2 | ⟨t2, t3⟩
    all_goals
      go_enter Try.func7, Try.ntmps7
      go_wp2_with fail
      refine (C1.out _ hB).mono ?_
      rintro e w1 ⟨rfl, rfl⟩
      go_wp2_with fail
      refine (C2.out _ hB).mono ?_
      rintro e w1 ⟨rfl, rfl⟩
      go_wp2_with fail
      refine (awake_c _).mono ?_
      rintro e w' ⟨rfl, hb⟩
      go_wp2_with fail
      go_ret
      exact ⟨rfl, hb⟩
  have hl0 : 0 < l.length := by
    rcases Nat.eq_zero_or_pos l.length with h | h
    · exact absurd (.inl (List.length_eq_zero_iff.1 h)) h0
    · exact h
  have hb0 : b ≠ 0 := fun h => h0 (.inr h)
  have t2 : ((l.length : Int) == 0) = false := by rw [beq_eq_false_iff_ne]; omega
  have t3 : (b == 0) = false := by rw [beq_eq_false_iff_ne]; exact hb0
  clear h0
  obtain ⟨i0, hi, hz0, hz1, hz2⟩ := info_parts byteInfo
  obtain ⟨bl, off, rfl, _, hc⟩ : ∃ b off, A = some ⟨b, off, none⟩ ∧ b < W.heap.size ∧ ∀ k (h : k < l.length), W.cell? ⟨b, off + k, none⟩ = some (.int .u8 (l[k]'h).toNat) := by
    rcases hB with rfl | h
    · simp at hl0
    · exact h
  obtain ⟨an, rfl⟩ := Int.eq_ofNat_of_zero_le ha.1
  obtain ⟨bn, rfl⟩ := Int.eq_ofNat_of_zero_le hb.1
  go_enter Try.func7, Try.ntmps7
  go_wp2_with fail
  refine (C1.out _ hB).mono ?_
  rintro e w1 ⟨rfl, rfl⟩
  go_wp2_with fail
  refine (C2.out _ hB).mono ?_
  rintro e w1 ⟨rfl, rfl⟩
  have hmade : (W.alloc (.cells #[] 5)).ownsRow W.heap.size 5 1 (.slice (some ⟨W.heap.size, 0, none⟩) 0 0) 0 [] := World.ownsRow_made W #[] 0 (Nat.le_refl _) (by unfold maxLen; omega) rfl
  go_wp2_with (at_builtin; refine wpList_append_own _ rfl _ _ 22 rfl W.heap.size 5 i0 (.int .u8 0) 1 1 Try.underlying22 hi hz0 hz1 hz2 rfl (by decide) _ _ _ rfl hmade ⟨bl, off, none⟩ l.length c (Lib.byteCells l) rfl ?c0 ?c1 ?c2 ?c3 ?c4 ?c5 ?_)
  case c0 => rw [Lib.byteCells_length]; omega
  case c1 =>
    intro j u hj
    have hj' : j < l.length := by
      have := (List.getElem?_eq_some_iff.1 hj).1
      simpa [byteCells_map] using this
    rw [byteCells_map, List.getElem?_map, List.getElem?_eq_getElem hj'] at hj
    injection hj with hj
    rw [← hj, show (⟨bl, off, none⟩ : Addr).add j = ⟨bl, off + j, none⟩ from by simp [Addr.add]]
    exact (((Below.refl W.heap.size W).alloc (Nat.le_refl _) _).cell (p := ⟨bl, off + j, none⟩) (by assumption)).trans (hc j hj')
  case c2 =>
    intro u hu
    rw [byteCells_map] at hu
    obtain ⟨x, _, rfl⟩ := List.mem_map.1 hu
    rfl
  case c3 => unfold maxLen; omega
  case c4 => omega
  case c5 => simp
  intro v' w2 hown' hgrow _
  have hbl : Below W.heap.size W w2 := ((Below.refl _ W).alloc (Nat.le_refl _) _).grown hgrow (by simp) (fun k hk => (hmade.lt k hk).1)
  obtain ⟨g, cap, cur, rfl, hgB, hgh, hcap1, hcap2, _, htake⟩ : ∃ g cap cur, v' = .slice (some ⟨g, 0, none⟩) l.length cap ∧ W.heap.size ≤ g ∧ w2.heap[g]? = some (.cells cur 5 (0, 0)) ∧ l.length ≤ cap ∧ cap ≤ maxLen ∧ cur.size = cap * 1 ∧ cur.toList.take (l.length * 1) = Lib.byteCells l := by
    rcases hown'.2 with ⟨_, h⟩ | h
    · omega
    · exact h
  have him : an % l.length < l.length := Nat.mod_lt _ hl0
  have hnz : ¬ (l.length : Int) = 0 := by omega
  obtain ⟨q1, q2, q3⟩ := set_by (B := 0) (cap := cap) ((l[an % l.length]'him).toNat ^^^ bn).toUInt8 hgh htake him
  have g1 : 0 ≤ (an : Int) % (l.length : Int) ∧ (an : Int) % (l.length : Int) < (l.length : Int) := by omega
  have g2 : ((an : Int) % (l.length : Int)).toNat = an % l.length := by omega
  have hx8 := UInt8.toNat_lt (l[an % l.length]'him)
  have hxlt : (l[an % l.length]'him).toNat ^^^ bn < 256 := Nat.xor_lt_two_pow (n := 8) hx8 (by omega)
  have hxor : bits .xor .u8 ((l[an % l.length]'him).toNat : Int) (bn : Int) = ((((l[an % l.length]'him).toNat ^^^ bn).toUInt8).toNat : Int) := by
    rw [u8_xor_nat _ _ hx8 (by omega), u8_toNat hxlt]
  have hne : ((l[an % l.length]'him).toNat ^^^ bn).toUInt8 ≠ l[an % l.length]'him := by
    intro h
    have h1 := congrArg UInt8.toNat h
    rw [u8_toNat hxlt] at h1
    have h2 : bn ^^^ (l[an % l.length]'him).toNat = 0 ^^^ (l[an % l.length]'him).toNat := by rw [Nat.xor_comm, h1, Nat.zero_xor]
    have h3 := xor_cancel h2
    omega
  have hdiff := Hset.out (an % l.length) _ him hne
  have hsum := sum_c _ _ _ cap _ q3 (by rw [List.length_set]; omega)
  rw [List.length_set] at hsum
  generalize crcSum (l.set (an % l.length) ((l[an % l.length]'him).toNat ^^^ bn).toUInt8) = S2 at *
  have e2 : ((S2 : Int) != (S : Int)) = true := by rw [bne_iff_ne]; omega
  have Hsum := Lib.hid hsum
  have Hxor := Lib.hid hxor
  have hbl2 : ∀ v, Below W.heap.size W (w2.setCell ⟨g, an % l.length, none⟩ v) := fun v => hbl.setCell (p := ⟨g, an % l.length, none⟩) hgB v
  clear hsum hxor Hset hne
  go_wp2_with fail
  rw [Hxor.out]
  refine Hsum.out.mono ?_
  rintro e w3 ⟨rfl, rfl⟩
  go_wp2_with fail
  refine (awake_c _).mono ?_
  rintro e w4 ⟨rfl, m4⟩
  go_wp2_with fail
  go_ret
  exact ⟨rfl, (hbl2 _).trans (m4.mono (hbl2 _).size)⟩

set_option maxRecDepth 100000 in
theorem lifted (os : Os) (started : os.Started) (H : Type) (enc : TypeId × Value → H) :
    ReturnsInHanded {} Try.checked os 7 .any (Rows.codecSumsSpec.pre6 enc Try.prog Try.f7 Rows.codecSumsRow.domain false) (Rows.codecSumsSpec.post enc Try.prog Try.f7 false true false false) := by
  refine returnsInHanded_of_change (C := Try.checked) own started (by kernel_rfl) Try.func7
    (ChangeSpec.witness6 (enc := enc) (C := Try.checked) false ⟨#[], #[.slice none 0 0, .int .u8 0, .int .u8 0], []⟩ 8 (by kernel_rfl) (by kernel_rfl) (by kernel_rfl) (by kernel_rfl)) ?_
  intro W base args ds gs before hval0 hW hcnd _
  have hval : ∀ (j : Nat) t v, Try.f7.params[j]? = some t → args[j]? = some v → Value.okWide Try.prog W .any base t v := hval0
  have hW' := hW
  obtain ⟨p, q, hA0, hV, rfl, hfz, hnd⟩ := hW
  have hA : DataW.TrodAll enc Try.prog W 0 (fun _ => true) true Try.f7.params.toList args.toList ds p := hA0
  have hA1 := hA
  rw [Try.params7] at hA hval
  obtain ⟨v0, vs0, d0, ds0, p0, q0, hargs, rfl, rfl, h0, r0⟩ := trodAll_cons hA
  obtain ⟨v1, vs1, d1, ds1, p1, q1, rfl, rfl, rfl, h1, r1⟩ := trodAll_cons r0
  obtain ⟨v2, vs2, d2, ds2, p2, q2, rfl, rfl, rfl, h2, r2⟩ := trodAll_cons r1
  obtain ⟨rfl, rfl, rfl⟩ := trodAll_nil r2
  obtain rfl : args = #[v0, v1, v2] := by cases args; simp_all
  obtain ⟨rfl, rfl⟩ := trodVars_none hV
  have hlt : ∀ x ∈ p0 ++ (p1 ++ (p2 ++ [])), x.block < W.heap.size := fun x hx => hW'.lt x (List.mem_append_left _ hx)
  obtain ⟨A0, c0, l0, rfl, hB0, hl0, hm0⟩ := open_bytes (hval 0 22 v0 rfl rfl) h0
  obtain ⟨a1, rfl, rfl, rfl, w1⟩ := open_int Try.underlying5 (hval 1 5 v1 rfl rfl) h1
  obtain ⟨a2, rfl, rfl, rfl, w2⟩ := open_int Try.underlying5 (hval 2 5 v2 rfl rfl) h2
  clear hA0 hval0
  refine (walk A0 l0 c0 a1 a2 W hB0 hl0 hm0 (bounds_u8 w1) (bounds_u8 w2)).mono fun e W' ⟨he, hg⟩ => ?_
  subst he
  exact ⟨_, rfl, _, [], _, [], _, [], hW', trodAll_cons_mk (shut_bool Try.underlying4 _) trodAll_mk0, trodAll_below laidOut hg _ _ _ _ (by
      rw [Try.params7]
      intro t ht
      simp only [List.mem_cons, List.mem_nil_iff, or_false] at ht
      rcases ht with rfl | rfl | rfl
      · exact ⟨by kernel_rfl, of_decide_eq_true (by kernel_rfl)⟩
      · exact ⟨by kernel_rfl, of_decide_eq_true (by kernel_rfl)⟩
      · exact ⟨by kernel_rfl, of_decide_eq_true (by kernel_rfl)⟩) hlt hA1, rfl, hg.frame _, fun h => by cases h⟩

theorem over : Rows.codecSumsRow.holds Try.pinned (OpenSpec.ofChange Rows.codecSumsSpec) :=
  OpenClaim.holds_of_wide 7 Try.f7 rfl rfl rfl rfl rfl rfl rfl ⟨rfl, rfl, rfl, rfl, rfl⟩ rfl rfl rfl rfl rfl (by kernel_rfl) Try.func7 (by kernel_rfl)
    (of_decide_eq_true (by kernel_rfl)) (by unfold Func.isWrapper; first | (rw [if_pos (by decide +kernel)]; kernel_rfl) | (rw [if_neg (by decide +kernel)]; exact ⟨rfl, rfl⟩))
    (fun os started H enc _ => lifted os started H enc)

theorem proved : Rows.CodecSumsSaid :=
  over
end Go.Proofs.Ytdjphpobhbelaaa.codecSums
