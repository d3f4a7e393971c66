/- CodecTexts: for every input the law's call returns true: PutText and PutTexts return the specified encodings; the Take functions decode them whatever bytes follow, and return the error of a truncated input for every proper prefix. -/
import Derived.Test.YtdjphpobhbelaaaKRPuts
namespace Go.Proofs.Ytdjphpobhbelaaa.codecTexts
open Go.ChangeShapes Go.WideShapes Go.ChangeAt Go.RowKit
open Go.ChangeMaps (open_string shut_string)
set_option linter.unusedVariables false

theorem sby_mono {w : World} {B B' : Nat} {A : Option Addr} {ss : List (List UInt8)} (h : SByAt w B A ss) (hB : B ≤ B') : SByAt w B' A ss := by
  rcases h with rfl | ⟨b, off, rfl, hlt, hc⟩
  · exact .inl rfl
  · exact .inr ⟨b, off, rfl, by omega, hc⟩
theorem flat_len : ∀ ss : List (List UInt8), (∀ s ∈ ss, s.length ≤ 60) → (ss.flatMap encS).length ≤ 70 * ss.length
  | [], _ => Nat.zero_le _
  | s :: ss, h => by
    have h1 := flat_len ss (fun x hx => h x (List.mem_cons_of_mem _ hx))
    have h2 := h s List.mem_cons_self
    have h3 := encI_len (n := s.length) (by omega) (by omega)
    have h4 : (encS s).length = (encI s.length).length + s.length := by unfold encS; rw [List.length_append]
    rw [List.flatMap_cons, List.length_append, List.length_cons]
    omega

set_option maxHeartbeats 8000000 in
set_option maxRecDepth 100000 in
theorem walk (A : Option Addr) (ss : List (List UInt8)) (c : Nat) (A2 : Option Addr) (l : List UInt8) (c2 : Nat) (W : World) (hS : SByAt W W.heap.size A ss) (hsl : ss.length ≤ c) (hsm : c ≤ maxLen) (hsz : ∀ s ∈ ss, s.length ≤ maxLen) (hB : ByAt W W.heap.size A2 l) (hl : l.length ≤ c2) (hm : c2 ≤ maxLen) :
    Calls Try.prog 6 #[.slice A ss.length c, .slice A2 l.length c2] W fun e w' => e = .returned (.bool true) ∧ Below W.heap.size W w' := by
  have hsh := short_c A ss c W hS hsz
  have Hsh := Lib.hid hsh
  clear hsh hsz
  go_enter Try.func6, Try.ntmps6
  go_wp2_with fail
  refine Hsh.out.mono ?_
  rintro e w0 ⟨rfl, (rfl | ⟨rfl, h8, h60⟩)⟩
  · go_wp2_with fail
    refine (awake_c _).mono ?_
    rintro e w' ⟨rfl, hb⟩
    go_wp2_with fail
    go_ret
    exact ⟨rfl, hb⟩
  by_cases hs : 40 < l.length
  · have t1 : decide ((40 : Int) < (l.length : Int)) = true := decide_eq_true (by omega)
    have t1' : decide (40 < l.length) = true := decide_eq_true hs
    clear Hsh h60
    go_wp2_with fail
    refine (awake_c _).mono ?_
    rintro e w' ⟨rfl, hb⟩
    go_wp2_with fail
    go_ret
    exact ⟨rfl, hb⟩
  have hs1 : l.length ≤ 40 := by omega
  have t1 : decide ((40 : Int) < (l.length : Int)) = false := decide_eq_false (by omega)
  have t1' : decide (40 < l.length) = false := decide_eq_false hs
  have hElen : (encT ss).length ≤ 600 := by
    have h1 := flat_len ss h60
    have h2 := encI_len (n := ss.length) (by omega) (by omega)
    unfold encT
    rw [List.length_append]
    omega
  have hbig : ∀ s ∈ ss, s.length ≤ 9223372036854775807 := fun s hs => by have := h60 s hs; omega
  have hte := takeL_enc ss l hbig (by omega)
  have htp : ∀ j, j < (encT ss).length → takeL ((encT ss).take j) = ([], 0, 28) := fun j hj => takeL_short ss hbig (by omega) hj
  have c1 := fun w h => putTexts_c A ss c w h (by omega) (by omega)
  have c2' := fun w h => rputTexts_c A ss c w h (by omega) (by omega)
  generalize encT ss = E at *
  have C1 := Lib.hid c1; have C2 := Lib.hid c2'; have Hte := Lib.hid hte; have Htp := Lib.hid htp; have H60 := Lib.hid h60
  clear c1 c2' hte htp hbig h60 Hsh
  have el : ((E.length : Int) != (E.length : Int)) = false := by simp
  go_wp2_with fail
  refine (C1.out _ hS).mono ?_
  rintro e w1 ⟨v1, rfl, o1, m1⟩
  obtain ⟨A1, k1, rfl, b1, hk1, hk2⟩ := own_by o1
  have hz1 := m1.size
  have olit := own_lit w1 w1.heap.size (Nat.le_refl _) [] #[] rfl (by simp)
  have b1a := byAt_alloc b1 (Nat.le_refl _) (.cells #[] 5)
  have ma : Below w1.heap.size w1 (w1.alloc (.cells #[] 5)) := (Below.refl _ w1).alloc (Nat.le_refl _) _
  go_wp2_with (at_builtin; refine wpList_app_by rfl _ _ rfl w1.heap.size _ _ rfl olit w1.heap.size A1 E k1 rfl b1a (by simp; omega) ma.size ?_)
  intro v2 w2 o2 m2
  change Own w2 w1.heap.size v2 E at o2
  replace m2 := ma.trans m2
  have bl2 := byAt_below hB (m1.trans (m2.mono hz1)) (Nat.le_refl _)
  go_wp2_with (at_builtin; refine wpList_app_by rfl _ _ rfl w1.heap.size _ _ rfl o2 W.heap.size A2 l c2 rfl bl2 (by omega) m2.size ?_)
  intro v3 w3 o3 m3
  replace m3 := m2.trans m3
  obtain ⟨A3, k3, rfl, b3, hk31, hk32⟩ := own_by o3
  have htake := takeTexts_c A3 (E ++ l) k3 w3 b3 ⟨hk31, hk32⟩ (by rw [List.length_append]; omega)
  rw [Hte.out, List.length_append] at htake
  have Htake := Lib.hid htake
  clear htake b1a olit o2 o3 b3 Hte
  go_wp2_with fail
  refine Htake.out.mono ?_
  rintro e w4 ⟨v4, rfl, o4, m4⟩
  obtain ⟨A4, k4, rfl, s4, z5, z6⟩ := ownT_by o4
  replace m4 := m3.trans (m4.mono m3.size)
  clear Htake o4
  have hS4 := sby_mono (sby_below hS (m1.trans (m4.mono hz1)) (Nat.le_refl _)) (m1.trans (m4.mono hz1)).size
  go_wp2_with fail
  refine (C2.out _ hS4).mono ?_
  rintro e w5 ⟨v5, rfl, o5, m5⟩
  obtain ⟨A5, k5, rfl, b5, _, _⟩ := own_by o5
  have s45 := sby_mono (sby_below s4 m5 (Nat.le_refl _)) m5.size
  replace m5 := m4.trans (m5.mono m4.size)
  have b15 := byAt_below b1 m5 (Nat.le_refl _)
  go_wp2_with fail
  refine (sameBytes_c _ _ _ _ E E _ _ _ b15 b5).mono ?_
  rintro e w6 ⟨rfl, rfl⟩
  have ee : (E == E) = true := by simp
  have m6 := m1.trans (m5.mono hz1)
  have hS5 := sby_mono (sby_below hS m6 (Nat.le_refl _)) m6.size
  clear b5 o5 m2 m3 m4 C1 C2
  go_wp2_with fail
  refine (sameTexts_c A4 A ss k4 c w5 s45 hS5 (by omega)).mono ?_
  rintro e w7 ⟨rfl, m7⟩
  replace m7 := m5.trans (m7.mono m5.size)
  clear s45 s4 hS5 hS4
  go_wp2_with fail
  go_loopw [9] (fun iv wr => ∃ k : Nat, k ≤ E.length ∧ iv = .int .i64 k ∧ Below w1.heap.size w1 wr) (fun iv _ => E.length - (intOf iv).toNat)
  case atStart => exact ⟨0, by omega, rfl, m7⟩
  case round =>
    obtain ⟨k, hk, rfl, mr⟩ := hrel
    by_cases hlt : k < E.length
    · have d1 : decide ((k : Int) < (E.length : Int)) = true := decide_eq_true (by omega)
      have d2 : decide (k < E.length) = true := decide_eq_true hlt
      have i1 : (k : Int) ≤ (E.length : Int) := by omega
      have i2 : k ≤ k1 := by omega
      have hb := byAt_take (byAt_below b1 mr (Nat.le_refl _)) k
      have htake := takeTexts_c A1 (E.take k) k1 wr (byAt_mono hb mr.size) ⟨by rw [List.length_take]; omega, hk2⟩ (by rw [List.length_take]; omega)
      rw [Htp.out k hlt, List.length_take, show min k E.length = k from by omega] at htake
      have Htake := Lib.hid htake
      clear htake hb
      go_wp2_with fail
      refine Htake.out.mono ?_
      rintro e w7 ⟨v7, rfl, _, m7⟩
      clear Htake
      go_wp2_with fail
      go_roundw
      case rel => exact ⟨k + 1, by omega, by go_num, mr.trans (m7.mono mr.size)⟩
      case measure => simp [intOf]; omega
    · have hke : k = E.length := by omega
      subst hke
      have d1 : decide ((E.length : Int) < (E.length : Int)) = false := decide_eq_false (by omega)
      have mW := m1.trans (mr.mono hz1)
      clear Htp ee el b1 b15 m5 m6 m7
      obtain ⟨wo, rfl⟩ : ∃ wo, wo = wr := ⟨_, rfl⟩
      go_wp2_with fail
      go_loopw [13] (fun iv wr => ∃ k : Nat, k ≤ ss.length ∧ iv = .int .i64 k ∧ Below W.heap.size W wr) (fun iv _ => ss.length - (intOf iv).toNat)
      case atStart => exact ⟨0, by omega, rfl, mW⟩
      case round =>
        obtain ⟨j, hj, rfl, mr⟩ := hrel
        by_cases hlt : j < ss.length
        · have d3 : decide ((j : Int) < (ss.length : Int)) = true := decide_eq_true (by omega)
          have d4 : decide (j < ss.length) = true := decide_eq_true hlt
          obtain ⟨b, off, rfl, hbl, hcc⟩ : ∃ b off, A = some ⟨b, off, none⟩ ∧ b < W.heap.size ∧ ∀ k (h : k < ss.length), W.cell? ⟨b, off + k, none⟩ = some (strV (ss[k]'h)) := by
            rcases hS with rfl | h
            · simp at hlt
            · exact h
          have h60j := H60.out _ (List.getElem_mem hlt)
          have hcell : ∀ w', Below W.heap.size W w' → w'.cell? ⟨b, off + j, none⟩ = some (.string ⟨(ss[j]'hlt).toArray⟩) := fun w' h => (h.cell (p := ⟨b, off + j, none⟩) hbl).trans (hcc j hlt)
          have hput : ∀ w', Calls Try.prog 19 #[.string ⟨(ss[j]'hlt).toArray⟩] w' fun e w'' => ∃ v', e = .returned v' ∧ Own w'' w'.heap.size v' (encS (ss[j]'hlt)) ∧ Below w'.heap.size w' w'' := fun w' => by
            have h := putText_c ⟨(ss[j]'hlt).toArray⟩ w' (by show (ss[j]'hlt).toArray.size ≤ _; simp; omega)
            rw [show encI ((⟨(ss[j]'hlt).toArray⟩ : ByteArray).size : Int) ++ (⟨(ss[j]'hlt).toArray⟩ : ByteArray).data.toList = encS (ss[j]'hlt) from by
              have : (⟨(ss[j]'hlt).toArray⟩ : ByteArray).size = (ss[j]'hlt).length := by show (ss[j]'hlt).toArray.size = _; simp
              rw [this]; rfl] at h
            exact h
          have hrput := fun w' => rputText_c (ss[j]'hlt) w' (by omega)
          have htke := takeS_enc (ss[j]'hlt) l (by omega)
          have hEl : (encS (ss[j]'hlt)).length ≤ 100 := by
            have h3 := encI_len (n := (ss[j]'hlt).length) (by omega) (by omega)
            unfold encS
            rw [List.length_append]
            omega
          generalize ss[j]'hlt = x at *
          generalize encS x = F at *
          have Hput := Lib.hid hput; have Hrput := Lib.hid hrput; have Htke := Lib.hid htke; have Hcell := Lib.hid hcell
          clear hput hrput htke hcell hcc hS H60
          have hc0 := Hcell.out wr mr
          have xx : (x != x) = false := by simp
          have ff : (F == F) = true := by simp
          have fl : ((F.length : Int) != (F.length : Int)) = false := by simp
          go_wp2_with fail
          refine (Hput.out _).mono ?_
          rintro e w1 ⟨v1, rfl, o1, m1⟩
          obtain ⟨A1, k1, rfl, b1, hk1, hk2⟩ := own_by o1
          have hz1 := m1.size
          have mr1 := mr.trans (m1.mono mr.size)
          have olit := own_lit w1 w1.heap.size (Nat.le_refl _) [] #[] rfl (by simp)
          have b1a := byAt_alloc b1 (Nat.le_refl _) (.cells #[] 5)
          have ma : Below w1.heap.size w1 (w1.alloc (.cells #[] 5)) := (Below.refl _ w1).alloc (Nat.le_refl _) _
          go_wp2_with (at_builtin; refine wpList_app_by rfl _ _ rfl w1.heap.size _ _ rfl olit w1.heap.size A1 F k1 rfl b1a (by simp; omega) ma.size ?_)
          intro v2 w2 o2 m2
          change Own w2 w1.heap.size v2 F at o2
          replace m2 := ma.trans m2
          have bl2 := byAt_below hB (mr1.trans (m2.mono mr1.size)) (Nat.le_refl _)
          go_wp2_with (at_builtin; refine wpList_app_by rfl _ _ rfl w1.heap.size _ _ rfl o2 W.heap.size A2 l c2 rfl bl2 (by omega) m2.size ?_)
          intro v3 w3 o3 m3
          replace m3 := m2.trans m3
          obtain ⟨A3, k3, rfl, b3, hk31, hk32⟩ := own_by o3
          have htake := takeText_c A3 (F ++ l) k3 w3 b3 ⟨hk31, hk32⟩ (by rw [List.length_append]; omega)
          rw [Htke.out, List.length_append] at htake
          have Htake := Lib.hid htake
          clear htake b1a olit o2 o3 b3 Htke hc0
          go_wp2_with fail
          refine Htake.out.mono ?_
          rintro e w4 ⟨rfl, m4⟩
          replace m4 := m3.trans (m4.mono m3.size)
          clear Htake
          have mr4 := mr1.trans (m4.mono mr1.size)
          have hc4 := Hcell.out w4 mr4
          go_wp2_with fail
          refine (Hrput.out _).mono ?_
          rintro e w5 ⟨v5, rfl, o5, m5⟩
          obtain ⟨A5, k5, rfl, b5, _, _⟩ := own_by o5
          replace m5 := m4.trans (m5.mono m4.size)
          have b15 := byAt_below b1 m5 (Nat.le_refl _)
          have mr5 := mr1.trans (m5.mono mr1.size)
          have hc5 := Hcell.out w5 mr5
          clear hc4
          go_wp2_with fail
          refine (sameBytes_c _ _ _ _ F F _ _ _ b15 b5).mono ?_
          rintro e w6 ⟨rfl, rfl⟩
          clear b5 o5 b1 b15 m2 m3 m4
          go_wp2_with fail
          go_roundw
          case rel => exact ⟨j + 1, by omega, by go_num, mr5⟩
          case measure => simp [intOf]; omega
        · have hjs : j = ss.length := by omega
          subst hjs
          have d3 : decide ((ss.length : Int) < (ss.length : Int)) = false := decide_eq_false (by omega)
          go_wp2_with fail
          refine (awake_c _).mono ?_
          rintro e w8 ⟨rfl, m8⟩
          go_wp2_with fail
          go_ret
          exact ⟨rfl, mr.trans (m8.mono mr.size)⟩

set_option maxRecDepth 100000 in
theorem lifted (os : Os) (started : os.Started) (H : Type) (enc : TypeId × Value → H) :
    ReturnsInHanded {} Try.checked os 6 .any (Rows.codecTextsSpec.pre6 enc Try.prog Try.f6 Rows.codecTextsRow.domain false) (Rows.codecTextsSpec.post enc Try.prog Try.f6 false true false false) := by
  refine returnsInHanded_of_change (C := Try.checked) own started (by kernel_rfl) Try.func6
    (ChangeSpec.witness6 (enc := enc) (C := Try.checked) false ⟨#[], #[.slice none 0 0, .slice none 0 0], []⟩ 8 (by kernel_rfl) (by kernel_rfl) (by kernel_rfl) (by kernel_rfl)) ?_
  intro W base args ds gs before hval0 hW hcnd _
  have hval : ∀ (j : Nat) t v, Try.f6.params[j]? = some t → args[j]? = some v → Value.okWide Try.prog W .any base t v := hval0
  have hW' := hW
  obtain ⟨p, q, hA0, hV, rfl, hfz, hnd⟩ := hW
  have hA : DataW.TrodAll enc Try.prog W 0 (fun _ => true) true Try.f6.params.toList args.toList ds p := hA0
  have hA1 := hA
  rw [Try.params6] at hA hval
  obtain ⟨v0, vs0, d0, ds0, p0, q0, hargs, rfl, rfl, h0, r0⟩ := trodAll_cons hA
  obtain ⟨v1, vs1, d1, ds1, p1, q1, rfl, rfl, rfl, h1, r1⟩ := trodAll_cons r0
  obtain ⟨rfl, rfl, rfl⟩ := trodAll_nil r1
  obtain rfl : args = #[v0, v1] := by cases args; simp_all
  obtain ⟨rfl, rfl⟩ := trodVars_none hV
  have hlt : ∀ x ∈ p0 ++ (p1 ++ []), x.block < W.heap.size := fun x hx => hW'.lt x (List.mem_append_left _ hx)
  obtain ⟨A0, c0, l0, rfl, hB0, hl0, hm0, hz0⟩ := open_texts (hval 0 36 v0 rfl rfl) h0
  obtain ⟨A1, c1, l1, rfl, hB1, hl1, hm1⟩ := open_bytes (hval 1 22 v1 rfl rfl) h1
  clear hA0 hval0
  refine (walk A0 l0 c0 A1 l1 c1 W hB0 hl0 hm0 hz0 hB1 hl1 hm1).mono fun e W' ⟨he, hg⟩ => ?_
  subst he
  exact ⟨_, rfl, _, [], _, [], _, [], hW', trodAll_cons_mk (shut_bool Try.underlying4 _) trodAll_mk0, trodAll_below laidOut hg _ _ _ _ (by
      rw [Try.params6]
      intro t ht
      simp only [List.mem_cons, List.mem_nil_iff, or_false] at ht
      rcases ht with rfl | rfl
      · exact ⟨by kernel_rfl, of_decide_eq_true (by kernel_rfl)⟩
      · exact ⟨by kernel_rfl, of_decide_eq_true (by kernel_rfl)⟩) hlt hA1, rfl, hg.frame _, fun h => by cases h⟩

theorem over : Rows.codecTextsRow.holds Try.pinned (OpenSpec.ofChange Rows.codecTextsSpec) :=
  OpenClaim.holds_of_wide 6 Try.f6 rfl rfl rfl rfl rfl rfl rfl ⟨rfl, rfl, rfl, rfl, rfl⟩ rfl rfl rfl rfl rfl (by kernel_rfl) Try.func6 (by kernel_rfl)
    (of_decide_eq_true (by kernel_rfl)) (by unfold Func.isWrapper; first | (rw [if_pos (by decide +kernel)]; kernel_rfl) | (rw [if_neg (by decide +kernel)]; exact ⟨rfl, rfl⟩))
    (fun os started H enc _ => lifted os started H enc)

theorem proved : Rows.CodecTextsSaid :=
  over
end Go.Proofs.Ytdjphpobhbelaaa.codecTexts
