/- CodecInts: for every input the law's call returns true: PutInt returns the canonical encoding of every integer; TakeInt decodes it whatever bytes follow, and returns the error of a truncated input for every proper prefix. -/
import Derived.Test.YtdjphpobhbelaaaKArg
import Derived.Test.YtdjphpobhbelaaaKRPut
namespace Go.Proofs.Ytdjphpobhbelaaa.codecInts
open Go.ChangeShapes Go.WideShapes Go.ChangeAt Go.RowKit
open Go.ChangeMaps (open_string shut_string)
set_option linter.unusedVariables false

set_option maxHeartbeats 4000000 in
set_option maxRecDepth 100000 in
theorem walk (n : Int) (A : Option Addr) (l : List UInt8) (c : Nat) (W : World) (hn : -9223372036854775808 ≤ n ∧ n ≤ 9223372036854775807) (hB : ByAt W W.heap.size A l) (hl : l.length ≤ c) (hm : c ≤ maxLen) :
    Calls Try.prog 3 #[.int .i64 n, .slice A l.length c] W fun e w' => e = .returned (.bool true) ∧ Below W.heap.size W w' := by
  by_cases hs : 40 < l.length
  · have t1 : decide ((40 : Int) < (l.length : Int)) = true := decide_eq_true (by omega)
    go_enter Try.func3, Try.ntmps3
    go_wp2_with fail
    refine (awake_c _).mono ?_
    rintro e w' ⟨rfl, hb⟩
    go_wp2_with fail
    go_ret
    exact ⟨rfl, hb⟩
  have hs1 : l.length ≤ 40 := by omega
  have t1 : decide ((40 : Int) < (l.length : Int)) = false := decide_eq_false (by omega)
  have hlen := encI_len hn.1 hn.2
  have htk := takeI_enc hn.1 hn.2 l
  have hsh : ∀ j, j < (encI n).length → takeI ((encI n).take j) = (0, 0, 28) := fun j hj => takeI_short hn.1 hn.2 hj
  have c1 := fun w => putInt_c n w hn.1 hn.2
  have c2 := fun w => rputInt_c n w hn.1 hn.2
  generalize encI n = E at *
  have C1 := Lib.hid c1; have C2 := Lib.hid c2; have Htk := Lib.hid htk; have Hsh := Lib.hid hsh
  clear c1 c2 htk hsh
  have ee : (E == E) = true := by simp
  have nn : (n != n) = false := by simp
  have el : ((E.length : Int) != (E.length : Int)) = false := by simp
  go_enter Try.func3, Try.ntmps3
  go_wp2_with fail
  refine (C1.out _).mono ?_
  rintro e w1 ⟨v1, rfl, o1, m1⟩
  obtain ⟨A1, k1, rfl, b1, hk1, hk2⟩ := own_by o1
  have hz1 := m1.size
  have olit := own_lit w1 w1.heap.size (Nat.le_refl _) [] #[] rfl (by simp)
  have b1a := byAt_alloc b1 (Nat.le_refl _) (.cells #[] 5)
  have ma : Below w1.heap.size w1 (w1.alloc (.cells #[] 5)) := (Below.refl _ w1).alloc (Nat.le_refl _) _
  go_wp2_with (at_builtin; refine wpList_app_by rfl _ _ rfl w1.heap.size _ _ rfl olit w1.heap.size A1 E k1 rfl b1a (by simp; omega) ma.size ?_)
  intro v2 w2 o2 m2
  change Own w2 w1.heap.size v2 E at o2
  replace m2 := ma.trans m2
  have bl2 := byAt_below hB (m1.trans (m2.mono hz1)) (Nat.le_refl _)
  go_wp2_with (at_builtin; refine wpList_app_by rfl _ _ rfl w1.heap.size _ _ rfl o2 W.heap.size A l c rfl bl2 (by omega) m2.size ?_)
  intro v3 w3 o3 m3
  replace m3 := m2.trans m3
  obtain ⟨A3, k3, rfl, b3, hk31, hk32⟩ := own_by o3
  have htake := takeInt_c A3 (E ++ l) k3 w3 b3 ⟨hk31, hk32⟩ (by rw [List.length_append]; omega)
  rw [Htk.out, List.length_append] at htake
  have Htake := Lib.hid htake
  clear htake b1a olit o2 o3 b3 Htk
  go_wp2_with fail
  refine Htake.out.mono ?_
  rintro e w4 ⟨rfl, m4⟩
  replace m4 := m3.trans (m4.mono m3.size)
  clear Htake
  go_wp2_with fail
  refine (C2.out _).mono ?_
  rintro e w5 ⟨v5, rfl, o5, m5⟩
  obtain ⟨A5, k5, rfl, b5, _, _⟩ := own_by o5
  replace m5 := m4.trans (m5.mono m4.size)
  have b15 := byAt_below b1 m5 (Nat.le_refl _)
  go_wp2_with fail
  refine (sameBytes_c _ _ _ _ E E _ _ _ b15 b5).mono ?_
  rintro e w6 ⟨rfl, rfl⟩
  have m6 := m1.trans (m5.mono hz1)
  clear b5 o5 m2 m3 m4
  go_wp2_with fail
  go_loopw [9] (fun iv wr => ∃ k : Nat, k ≤ E.length ∧ iv = .int .i64 k ∧ Below w1.heap.size w1 wr) (fun iv _ => E.length - (intOf iv).toNat)
  case atStart => exact ⟨0, by omega, rfl, m5⟩
  case round =>
    obtain ⟨k, hk, rfl, mr⟩ := hrel
    by_cases hlt : k < E.length
    · have d1 : decide ((k : Int) < (E.length : Int)) = true := decide_eq_true (by omega)
      have d2 : decide (k < E.length) = true := decide_eq_true hlt
      have i1 : (k : Int) ≤ (E.length : Int) := by omega
      have i2 : k ≤ k1 := by omega
      have hb := byAt_take (byAt_below b1 mr (Nat.le_refl _)) k
      have htake := takeInt_c A1 (E.take k) k1 wr (byAt_mono hb mr.size) ⟨by rw [List.length_take]; omega, hk2⟩ (by rw [List.length_take]; omega)
      rw [Hsh.out k hlt, List.length_take, show min k E.length = k from by omega] at htake
      have Htake := Lib.hid htake
      clear htake hb
      go_wp2_with fail
      refine Htake.out.mono ?_
      rintro e w7 ⟨rfl, m7⟩
      clear Htake
      go_wp2_with fail
      go_roundw
      case rel => exact ⟨k + 1, by omega, by go_num, mr.trans (m7.mono mr.size)⟩
      case measure => simp [intOf]; omega
    · have hke : k = E.length := by omega
      subst hke
      have d1 : decide ((E.length : Int) < (E.length : Int)) = false := decide_eq_false (by omega)
      go_wp2_with fail
      refine (awake_c _).mono ?_
      rintro e w8 ⟨rfl, m8⟩
      have m9 := m1.trans (mr.mono hz1)
      go_wp2_with fail
      go_ret
      exact ⟨rfl, m9.trans (m8.mono m9.size)⟩

set_option maxRecDepth 100000 in
theorem lifted (os : Os) (started : os.Started) (H : Type) (enc : TypeId × Value → H) :
    ReturnsInHanded {} Try.checked os 3 .any (Rows.codecIntsSpec.pre6 enc Try.prog Try.f3 Rows.codecIntsRow.domain false) (Rows.codecIntsSpec.post enc Try.prog Try.f3 false true false false) := by
  refine returnsInHanded_of_change (C := Try.checked) own started (by kernel_rfl) Try.func3
    (ChangeSpec.witness6 (enc := enc) (C := Try.checked) false ⟨#[], #[.int .i64 0, .slice none 0 0], []⟩ 8 (by kernel_rfl) (by kernel_rfl) (by kernel_rfl) (by kernel_rfl)) ?_
  intro W base args ds gs before hval0 hW hcnd _
  have hval : ∀ (j : Nat) t v, Try.f3.params[j]? = some t → args[j]? = some v → Value.okWide Try.prog W .any base t v := hval0
  have hW' := hW
  obtain ⟨p, q, hA0, hV, rfl, hfz, hnd⟩ := hW
  have hA : DataW.TrodAll enc Try.prog W 0 (fun _ => true) true Try.f3.params.toList args.toList ds p := hA0
  have hA1 := hA
  rw [Try.params3] at hA hval
  obtain ⟨v0, vs0, d0, ds0, p0, q0, hargs, rfl, rfl, h0, r0⟩ := trodAll_cons hA
  obtain ⟨v1, vs1, d1, ds1, p1, q1, rfl, rfl, rfl, h1, r1⟩ := trodAll_cons r0
  obtain ⟨rfl, rfl, rfl⟩ := trodAll_nil r1
  obtain rfl : args = #[v0, v1] := by cases args; simp_all
  obtain ⟨rfl, rfl⟩ := trodVars_none hV
  have hlt : ∀ x ∈ p0 ++ (p1 ++ []), x.block < W.heap.size := fun x hx => hW'.lt x (List.mem_append_left _ hx)
  obtain ⟨a0, rfl, rfl, rfl, w0⟩ := open_int Try.underlying3 (hval 0 3 v0 rfl rfl) h0
  obtain ⟨A1, c1, l1, rfl, hB1, hl1, hm1⟩ := open_bytes (hval 1 22 v1 rfl rfl) h1
  clear hA0 hval0
  refine (walk a0 A1 l1 c1 W (bounds_i64 w0) hB1 hl1 hm1).mono fun e W' ⟨he, hg⟩ => ?_
  subst he
  exact ⟨_, rfl, _, [], _, [], _, [], hW', trodAll_cons_mk (shut_bool Try.underlying4 _) trodAll_mk0, trodAll_below laidOut hg _ _ _ _ (by
      rw [Try.params3]
      intro t ht
      simp only [List.mem_cons, List.mem_nil_iff, or_false] at ht
      rcases ht with rfl | rfl
      · exact ⟨by kernel_rfl, of_decide_eq_true (by kernel_rfl)⟩
      · exact ⟨by kernel_rfl, of_decide_eq_true (by kernel_rfl)⟩) hlt hA1, rfl, hg.frame _, fun h => by cases h⟩

theorem over : Rows.codecIntsRow.holds Try.pinned (OpenSpec.ofChange Rows.codecIntsSpec) :=
  OpenClaim.holds_of_wide 3 Try.f3 rfl rfl rfl rfl rfl rfl rfl ⟨rfl, rfl, rfl, rfl, rfl⟩ rfl rfl rfl rfl rfl (by kernel_rfl) Try.func3 (by kernel_rfl)
    (of_decide_eq_true (by kernel_rfl)) (by unfold Func.isWrapper; first | (rw [if_pos (by decide +kernel)]; kernel_rfl) | (rw [if_neg (by decide +kernel)]; exact ⟨rfl, rfl⟩))
    (fun os started H enc _ => lifted os started H enc)

theorem proved : Rows.CodecIntsSaid :=
  over
end Go.Proofs.Ytdjphpobhbelaaa.codecInts
