/- CodecFrames: for every input the law's call returns true: Seal returns the frame for every kind and payload; Open decodes it whatever bytes follow, and returns the error of a truncated input for every proper prefix. -/
import Derived.Test.YthikmjhjbokppaaKArg
import Derived.Test.YthikmjhjbokppaaKROpen
import Derived.Test.YthikmjhjbokppaaKFrm
namespace Go.Proofs.Ythikmjhjbokppaa.codecFrames
open Go.ChangeShapes Go.WideShapes Go.ChangeAt Go.RowKit
open Go.ChangeMaps (open_string shut_string)
set_option linter.unusedVariables false


/-- What Open answers, as a contract whose slice is told. -/
theorem open_at {w : World} {A : Option Addr} {l : List UInt8} {c k p f : Nat} {d : List UInt8} (hA : ByAt w w.heap.size A l) (hl : l.length ≤ 1000) (hc : l.length ≤ c) (hm : c ≤ maxLen) (hx : openL l = (k, d, p, f)) :
    Calls Try.prog 17 #[.slice A l.length c] w fun e w2 => ∃ A2 c2, e = .returned (.tuple #[.int .i64 k, .slice A2 d.length c2, .int .i64 p, .int .i64 f]) ∧ ByAt w2 w2.heap.size A2 d ∧ Below w.heap.size w w2 := by
  refine (open_c A l c w hA ⟨hc, hm⟩ (by omega)).mono ?_
  rintro e w2 ⟨v, h1, o, m⟩
  rw [hx] at h1 o
  obtain ⟨A2, c2, rfl, b2, _, _⟩ := own_by o
  exact ⟨A2, c2, h1, b2, m⟩

set_option maxHeartbeats 4000000 in
set_option maxRecDepth 100000 in
theorem walk (n : Int) (A : Option Addr) (l : List UInt8) (c : Nat) (A' : Option Addr) (t : List UInt8) (c' : Nat) (W : World) (hn : -9223372036854775808 ≤ n ∧ n ≤ 9223372036854775807) (hB : ByAt W W.heap.size A l) (hl : l.length ≤ c) (hm : c ≤ maxLen) (hB' : ByAt W W.heap.size A' t) (hl' : t.length ≤ c') (hm' : c' ≤ maxLen) :
    Calls Try.prog 4 #[.int .i64 n, .slice A l.length c, .slice A' t.length c'] W fun e w' => e = .returned (.bool true) ∧ Below W.heap.size W w' := by
  by_cases hs : 100 < l.length ∨ 40 < t.length
  · have t2 : decide ((100 : Int) < (l.length : Int)) = true ∨ (decide ((100 : Int) < (l.length : Int)) = false ∧ decide ((40 : Int) < (t.length : Int)) = true) := by
      by_cases h : 100 < l.length
      · exact .inl (decide_eq_true (by omega))
      · exact .inr ⟨decide_eq_false (by omega), decide_eq_true (by omega)⟩
    clear hs
    rcases t2 with t2 | ⟨t2, t3⟩
    all_goals
      go_enter Try.func4, Try.ntmps4
      go_wp2_with fail
      refine (awake_c _).mono ?_
      rintro e w' ⟨rfl, hb⟩
      go_wp2_with fail
      go_ret
      exact ⟨rfl, hb⟩
  have t1 : decide ((100 : Int) < (l.length : Int)) = false := decide_eq_false (by omega)
  have t2 : decide ((40 : Int) < (t.length : Int)) = false := decide_eq_false (by omega)
  have hs1 : l.length ≤ 100 := by omega
  have hs2 : t.length ≤ 40 := by omega
  by_cases hk : n < 0 ∨ 255 < n
  · have t3 : decide (n < 0) = true ∨ (decide (n < 0) = false ∧ decide (255 < n) = true) := by
      by_cases h : n < 0
      · exact .inl (decide_eq_true h)
      · exact .inr ⟨decide_eq_false h, decide_eq_true (by omega)⟩
    rcases t3 with t3 | ⟨t3, t4⟩
    all_goals
      go_enter Try.func4, Try.ntmps4
      go_wp2_with fail
      refine (seal_none n A l c _ hk).mono ?_
      rintro e w1 ⟨rfl, rfl⟩
      go_wp2_with fail
      refine (rseal_none n A l c _ hk).mono ?_
      rintro e w1 ⟨rfl, rfl⟩
      go_wp2_with fail
      refine (sameBytes_c W.heap.size W.heap.size none none [] [] 0 0 _ (.inl rfl) (.inl rfl)).mono ?_
      rintro e w1 ⟨rfl, rfl⟩
      go_wp2_with fail
      refine (awake_c _).mono ?_
      rintro e w' ⟨rfl, hb⟩
      go_wp2_with fail
      go_ret
      exact ⟨rfl, hb⟩
  have t3 : decide (n < 0) = false := decide_eq_false (by omega)
  have t4 : decide (255 < n) = false := decide_eq_false (by omega)
  obtain ⟨k, rfl⟩ := Int.eq_ofNat_of_zero_le (show 0 ≤ n by omega)
  have hk1 : k ≤ 255 := by omega
  have t4' : decide (255 < k) = false := decide_eq_false (by omega)
  have hk8 := u8_toNat (show k < 256 by omega)
  have c1 := fun w hA hW => seal_c W.heap.size k A l c w hk1 hA hW (by omega)
  have c2 := fun w hA hW => rseal_c W.heap.size k A l c w hk1 hA hW (by omega)
  have hop := openL_seal k.toUInt8 l t (by omega)
  have hsh : ∀ j, j < (sealL k.toUInt8 l).length → openL ((sealL k.toUInt8 l).take j) = (0, [], 0, 28) := fun j hj => openL_short k.toUInt8 l j (by omega) hj
  have hlen : (sealL k.toUInt8 l).length ≤ 200 := by
    rw [sealL_length]
    have := encI_len (n := l.length) (by omega) (by omega)
    omega
  rw [hk8] at hop
  generalize sealL k.toUInt8 l = E at *
  have C1 := Lib.hid c1; have C2 := Lib.hid c2; have Hop := Lib.hid hop; have Hsh := Lib.hid hsh
  clear c1 c2 hop hsh hk hs hk8
  have ee : (E == E) = true := by simp
  have ll : (l == l) = true := by simp
  have kk : ((k : Int) != (k : Int)) = false := by simp
  have el : ((E.length : Int) != (E.length : Int)) = false := by simp
  go_enter Try.func4, Try.ntmps4
  go_wp2_with fail
  refine (C1.out _ hB (Nat.le_refl _)).mono ?_
  rintro e w1 ⟨v1, rfl, o1, m1⟩
  obtain ⟨A1, k1, rfl, b1, hk1, hk2⟩ := own_by o1
  have hz1 := m1.size
  go_wp2_with fail
  refine (C2.out _ (byAt_below hB m1 (Nat.le_refl _)) hz1).mono ?_
  rintro e w2 ⟨v2, rfl, o2, m2⟩
  obtain ⟨A2, k2, rfl, b2, _, _⟩ := own_by o2
  have hz2 := m2.size
  have m2' := m1.trans (m2.mono hz1)
  have b12 := byAt_mono (byAt_below b1 m2 (Nat.le_refl _)) hz2
  go_wp2_with fail
  refine (sameBytes_c _ _ _ _ E E _ _ _ b12 b2).mono ?_
  rintro e w3 ⟨rfl, rfl⟩
  clear b2 o2 C1 C2
  have olit := own_lit w2 w2.heap.size (Nat.le_refl _) [] #[] rfl (by simp)
  have b1a := byAt_alloc b12 (Nat.le_refl _) (.cells #[] 5)
  have ma : Below w2.heap.size w2 (w2.alloc (.cells #[] 5)) := (Below.refl _ w2).alloc (Nat.le_refl _) _
  go_wp2_with (at_builtin; refine wpList_app_by rfl _ _ rfl w2.heap.size _ _ rfl olit w2.heap.size A1 E k1 rfl b1a (by simp; omega) ma.size ?_)
  intro v3 w3 o3 m3
  change Own w3 w2.heap.size v3 E at o3
  replace m3 := ma.trans m3
  have m3' := m2'.trans (m3.mono m2'.size)
  have bt3 := byAt_below hB' m3' (Nat.le_refl _)
  go_wp2_with (at_builtin; refine wpList_app_by rfl _ _ rfl w2.heap.size _ _ rfl o3 W.heap.size A' t c' rfl bt3 (by omega) m3.size ?_)
  intro v4 w4 o4 m4
  replace m4 := m3.trans m4
  have m4' := m2'.trans (m4.mono m2'.size)
  obtain ⟨A4, k4, rfl, b4, hk41, hk42⟩ := own_by o4
  have hopen := open_at b4 (by rw [List.length_append]; omega) hk41 hk42 Hop.out
  rw [List.length_append] at hopen
  have Hopen := Lib.hid hopen
  clear hopen b1a olit o3 o4 b4 Hop
  go_wp2_with fail
  refine Hopen.out.mono ?_
  rintro e w5 ⟨A5, c5, rfl, b5, m5⟩
  have m5' := m4'.trans (m5.mono m4'.size)
  have bl5 := byAt_below hB m5' (Nat.le_refl _)
  clear Hopen
  go_wp2_with fail
  refine (sameBytes_c _ _ _ _ l l _ _ _ b5 bl5).mono ?_
  rintro e w6 ⟨rfl, rfl⟩
  have m15 := (m2.trans ((m4.trans (m5.mono m4.size)).mono hz2))
  have b15 := byAt_below b1 m15 (Nat.le_refl _)
  clear b5 bl5
  go_wp2_with fail
  go_loopw [12] (fun iv wr => ∃ j : Nat, j ≤ E.length ∧ iv = .int .i64 j ∧ Below w1.heap.size w1 wr) (fun iv _ => E.length - (intOf iv).toNat)
  case atStart => exact ⟨0, by omega, rfl, m15⟩
  case round =>
    obtain ⟨j, hj, rfl, mr⟩ := hrel
    by_cases hlt : j < E.length
    · have d1 : decide ((j : Int) < (E.length : Int)) = true := decide_eq_true (by omega)
      have d2 : decide (j < E.length) = true := decide_eq_true hlt
      have i1 : (j : Int) ≤ (E.length : Int) := by omega
      have i2 : j ≤ k1 := by omega
      have hb := byAt_take (byAt_below b1 mr (Nat.le_refl _)) j
      have htake := open_at (byAt_mono hb mr.size) (by rw [List.length_take]; omega) (c := k1) (by rw [List.length_take]; omega) hk2 (Hsh.out j hlt)
      rw [List.length_take, show min j E.length = j from by omega] at htake
      have Htake := Lib.hid htake
      clear htake hb
      go_wp2_with fail
      refine Htake.out.mono ?_
      rintro e w7 ⟨A7, c7, rfl, b7, m7⟩
      clear Htake
      go_wp2_with fail
      go_roundw
      case rel => exact ⟨j + 1, by omega, by go_num, mr.trans (m7.mono mr.size)⟩
      case measure => simp [intOf]; omega
    · have hke : j = E.length := by omega
      subst hke
      have d1 : decide ((E.length : Int) < (E.length : Int)) = false := decide_eq_false (by omega)
      go_wp2_with fail
      refine (awake_c _).mono ?_
      rintro e w8 ⟨rfl, m8⟩
      have m9 := m1.trans (mr.mono hz1)
      go_wp2_with fail
      go_ret
      exact ⟨rfl, m9.trans (m8.mono m9.size)⟩

set_option maxRecDepth 100000 in
theorem lifted (os : Os) (started : os.Started) (H : Type) (enc : TypeId × Value → H) :
    ReturnsInHanded {} Try.checked os 4 .any (Rows.codecFramesSpec.pre6 enc Try.prog Try.f4 Rows.codecFramesRow.domain false) (Rows.codecFramesSpec.post enc Try.prog Try.f4 false true false false) := by
  refine returnsInHanded_of_change (C := Try.checked) own started (by kernel_rfl) Try.func4
    (ChangeSpec.witness6 (enc := enc) (C := Try.checked) false ⟨#[], #[.int .i64 0, .slice none 0 0, .slice none 0 0], []⟩ 8 (by kernel_rfl) (by kernel_rfl) (by kernel_rfl) (by kernel_rfl)) ?_
  intro W base args ds gs before hval0 hW hcnd _
  have hval : ∀ (j : Nat) t v, Try.f4.params[j]? = some t → args[j]? = some v → Value.okWide Try.prog W .any base t v := hval0
  have hW' := hW
  obtain ⟨p, q, hA0, hV, rfl, hfz, hnd⟩ := hW
  have hA : DataW.TrodAll enc Try.prog W 0 (fun _ => true) true Try.f4.params.toList args.toList ds p := hA0
  have hA1 := hA
  rw [Try.params4] at hA hval
  obtain ⟨v0, vs0, d0, ds0, p0, q0, hargs, rfl, rfl, h0, r0⟩ := trodAll_cons hA
  obtain ⟨v1, vs1, d1, ds1, p1, q1, rfl, rfl, rfl, h1, r1⟩ := trodAll_cons r0
  obtain ⟨v2, vs2, d2, ds2, p2, q2, rfl, rfl, rfl, h2, r2⟩ := trodAll_cons r1
  obtain ⟨rfl, rfl, rfl⟩ := trodAll_nil r2
  obtain rfl : args = #[v0, v1, v2] := by cases args; simp_all
  obtain ⟨rfl, rfl⟩ := trodVars_none hV
  have hlt : ∀ x ∈ p0 ++ (p1 ++ (p2 ++ [])), x.block < W.heap.size := fun x hx => hW'.lt x (List.mem_append_left _ hx)
  obtain ⟨a0, rfl, rfl, rfl, w0⟩ := open_int Try.underlying3 (hval 0 3 v0 rfl rfl) h0
  obtain ⟨A1, c1, l1, rfl, hB1, hl1, hm1⟩ := open_bytes (hval 1 22 v1 rfl rfl) h1
  obtain ⟨A2, c2, l2, rfl, hB2, hl2, hm2⟩ := open_bytes (hval 2 22 v2 rfl rfl) h2
  clear hA0 hval0
  refine (walk a0 A1 l1 c1 A2 l2 c2 W (bounds_i64 w0) hB1 hl1 hm1 hB2 hl2 hm2).mono fun e W' ⟨he, hg⟩ => ?_
  subst he
  exact ⟨_, rfl, _, [], _, [], _, [], hW', trodAll_cons_mk (shut_bool Try.underlying4 _) trodAll_mk0, trodAll_below laidOut hg _ _ _ _ (by
      rw [Try.params4]
      intro t ht
      simp only [List.mem_cons, List.mem_nil_iff, or_false] at ht
      rcases ht with rfl | rfl | rfl
      · exact ⟨by kernel_rfl, of_decide_eq_true (by kernel_rfl)⟩
      · exact ⟨by kernel_rfl, of_decide_eq_true (by kernel_rfl)⟩
      · exact ⟨by kernel_rfl, of_decide_eq_true (by kernel_rfl)⟩) hlt hA1, rfl, hg.frame _, fun h => by cases h⟩

theorem over : Rows.codecFramesRow.holds Try.pinned (OpenSpec.ofChange Rows.codecFramesSpec) :=
  OpenClaim.holds_of_wide 4 Try.f4 rfl rfl rfl rfl rfl rfl rfl ⟨rfl, rfl, rfl, rfl, rfl⟩ rfl rfl rfl rfl rfl (by kernel_rfl) Try.func4 (by kernel_rfl)
    (of_decide_eq_true (by kernel_rfl)) (by unfold Func.isWrapper; first | (rw [if_pos (by decide +kernel)]; kernel_rfl) | (rw [if_neg (by decide +kernel)]; exact ⟨rfl, rfl⟩))
    (fun os started H enc _ => lifted os started H enc)

theorem proved : Rows.CodecFramesSaid :=
  over
end Go.Proofs.Ythikmjhjbokppaa.codecFrames
