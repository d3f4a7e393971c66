/- lexer's reference: Expansion, expansion, Pass, Close; LexerCloses. -/
import Derived.Test.YteppndkhmbhnkaaDoorLxX
namespace Go.Proofs.YteppndkhmbhnkaaDoor
open Go.RowKit
set_option linter.unusedVariables false

/-- Does an expansion begin there? -/
def expB (s : List UInt8) (p : Nat) : Bool := (decide (p + 1 < s.length) && bt s p == 36) && (namB (bt s (p + 1)) || (digB (bt s (p + 1)) || speB (bt s (p + 1))) || bt s (p + 1) == 123 || bt s (p + 1) == 40)
set_option maxHeartbeats 8000000 in
set_option maxRecDepth 100000 in
theorem rExp_c (s : ByteArray) (p : Nat) (w : World) (hs : s.size ≤ 140737488355328) (hp : p < s.size) : Calls Tryd.prog 77 #[.string s, .int .i64 p] w fun e w' => e = .returned (.bool (expB s.data.toList p)) ∧ w = w' := by
  unfold expB
  rw [lenS]
  by_cases h1 : p + 1 < s.size
  · have d1 : decide ((s.size : Int) ≤ (p : Int) + 1) = false := decide_eq_false (by omega)
    have d1' : decide (s.size ≤ p + 1) = false := decide_eq_false (by omega)
    have i1 : (p : Int) + 1 < (s.size : Int) := by omega
    rw [decide_eq_true h1, btS hp, btS h1]
    rcases h2 : (s[p]'hp) == 36 with _ | _
    · have t2 : (((s[p]'hp).toNat : Int) != 36) = true := u8n h2 rfl
      clear h2
      go_enter Tryd.func77, Tryd.ntmps77
      go_wp2_with fail
      go_ret
      exact ⟨rfl, rfl⟩
    · have t2 : (((s[p]'hp).toNat : Int) != 36) = false := u8n h2 rfl
      have hw := Lib.hid (rword_c (s[p + 1]'h1) w)
      have hsp := Lib.hid (rspec_c (s[p + 1]'h1) w)
      generalize (digB (s[p + 1]'h1) || speB (s[p + 1]'h1)) = sp at *
      generalize namB (s[p + 1]'h1) = na at *
      clear h2
      rw [Bool.true_and, Bool.true_and]
      rcases na with _ | _
      · rcases sp with _ | _
        · rcases h3 : (s[p + 1]'h1) == 123 with _ | _
          · have t3 : (((s[p + 1]'h1).toNat : Int) == 123) = false := u8b h3 rfl
            rcases h4 : (s[p + 1]'h1) == 40 with _ | _
            all_goals
              first | have t4 : (((s[p + 1]'h1).toNat : Int) == 40) = false := u8b h4 rfl
                    | have t4 : (((s[p + 1]'h1).toNat : Int) == 40) = true := u8b h4 rfl
              clear h3 h4
              go_enter Tryd.func77, Tryd.ntmps77
              go_wp2_with fail
              refine hw.out.mono ?_
              rintro e w7 ⟨rfl, rfl⟩
              go_wp2_with fail
              refine hsp.out.mono ?_
              rintro e w7 ⟨rfl, rfl⟩
              go_wp2_with fail
              go_ret
              exact ⟨rfl, rfl⟩
          · have t3 : (((s[p + 1]'h1).toNat : Int) == 123) = true := u8b h3 rfl
            clear h3
            go_enter Tryd.func77, Tryd.ntmps77
            go_wp2_with fail
            refine hw.out.mono ?_
            rintro e w7 ⟨rfl, rfl⟩
            go_wp2_with fail
            refine hsp.out.mono ?_
            rintro e w7 ⟨rfl, rfl⟩
            go_wp2_with fail
            go_ret
            exact ⟨rfl, rfl⟩
        · go_enter Tryd.func77, Tryd.ntmps77
          go_wp2_with fail
          refine hw.out.mono ?_
          rintro e w7 ⟨rfl, rfl⟩
          go_wp2_with fail
          refine hsp.out.mono ?_
          rintro e w7 ⟨rfl, rfl⟩
          go_wp2_with fail
          go_ret
          exact ⟨by simp, rfl⟩
      · go_enter Tryd.func77, Tryd.ntmps77
        go_wp2_with fail
        refine hw.out.mono ?_
        rintro e w7 ⟨rfl, rfl⟩
        go_wp2_with fail
        go_ret
        exact ⟨by simp, rfl⟩
  · have d1 : decide ((s.size : Int) ≤ (p : Int) + 1) = true := decide_eq_true (by omega)
    have d1' : decide (s.size ≤ p + 1) = true := decide_eq_true (by omega)
    rw [decide_eq_false h1]
    go_enter Tryd.func77, Tryd.ntmps77
    go_wp2_with fail
    go_ret
    exact ⟨rfl, rfl⟩
theorem paramL_at {s : List UInt8} {k : Nat} (h : k < s.length) : paramL (s.drop k) = if digB (bt s k) = true ∨ speB (bt s k) = true then 1 else nameL (s.drop k) := by
  rw [List.drop_eq_getElem_cons h, bt_get h]
  rfl
theorem paramL_no {s : List UInt8} {p : Nat} (h36 : bt s p = 36) (h : expB s p = false) (F c : Nat) : expF F s p c = (p + 1, 0) := by
  unfold expB at h
  unfold expF
  by_cases hp : p + 1 < s.length
  · rw [decide_eq_true hp, h36] at h
    have hw : ((36 : UInt8) == 36) = true := rfl
    rw [hw, Bool.and_true, Bool.true_and] at h
    simp only [Bool.or_eq_false_iff] at h
    obtain ⟨⟨⟨h1, h2, h3⟩, h4⟩, h5⟩ := h
    rw [h4, h5, Bool.false_and]
    simp only [Bool.and_false]
    rw [if_neg (by simp), if_neg (by simp), if_neg (by simp), paramL_at hp, if_neg (by rw [h2, h3]; simp)]
    rw [List.drop_eq_getElem_cons hp]
    show (p + 1 + (if namB (s[p + 1]'hp) = true then nameL (s.drop (p + 1 + 1)) + 1 else 0), 0) = _
    rw [bt_get hp] at h1
    rw [h1, if_neg (by simp)]
  · have d2 : decide (p + 2 < s.length) = false := decide_eq_false (by omega)
    rw [decide_eq_false hp, d2, Bool.false_and, Bool.false_and, Bool.false_and]
    rw [if_neg (by simp), if_neg (by simp), if_neg (by simp), List.drop_of_length_le (by omega)]
    rfl
set_option maxHeartbeats 8000000 in
set_option maxRecDepth 100000 in
theorem rexpa_c (s : ByteArray) (a c : Nat) (w : World) (hs : s.size ≤ 140737488355328) (ha : a + 1 < s.size) (hc : c ≤ 2) (hsk : RPassOk s a) (F : Nat) (hF : 2 * (s.size - a) + 1 ≤ F) :
    Calls Tryd.prog 103 #[.string s, .int .i64 a, .int .i64 c] w (Gv w (expF F s.data.toList a c)) := by
  unfold expF
  have i1 : (a : Int) + 1 < (s.size : Int) := by omega
  rw [paramL_at (show a + 1 < s.data.toList.length from ha), lenS, decide_eq_true ha, btS ha, Bool.true_and, Bool.true_and]
  rcases h1 : (s[a + 1]'ha) == 123 with _ | _
  · have t1 : (((s[a + 1]'ha).toNat : Int) == 123) = false := u8b h1 rfl
    rw [if_neg (by simp)]
    rcases h2 : (s[a + 1]'ha) == 40 with _ | _
    · have t2 : (((s[a + 1]'ha).toNat : Int) == 40) = false := u8b h2 rfl
      rw [Bool.false_and, Bool.and_false, if_neg (by simp), if_neg (by simp)]
      have hsp := Lib.hid (rspec_c (s[a + 1]'ha) w)
      have hna := Lib.hid (rname_c s (a + 1) w hs (by omega))
      have hle := nameL_le (s.data.toList.drop (a + 1))
      rw [List.length_drop, lenS] at hle
      generalize nameL (s.data.toList.drop (a + 1)) = m at *
      generalize hd : digB (s[a + 1]'ha) = dg at *
      generalize he : speB (s[a + 1]'ha) = sp at *
      clear h1 h2 hsk hd he
      rcases hb : (dg || sp) with _ | _
      · rw [hb] at hsp
        rw [if_neg (by rw [Bool.or_eq_false_iff] at hb; rw [hb.1, hb.2]; simp)]
        clear hb
        go_enter Tryd.func103, Tryd.ntmps103
        go_wp2_with fail
        refine hsp.out.mono ?_
        rintro e w7 ⟨rfl, rfl⟩
        go_wp2_with fail
        refine hna.out.mono ?_
        rintro e w7 ⟨rfl, rfl⟩
        go_wp2_with fail
        go_ret2
        exact ⟨rfl, rfl⟩
      · rw [hb] at hsp
        rw [if_pos (by rw [Bool.or_eq_true] at hb; exact hb)]
        clear hb
        go_enter Tryd.func103, Tryd.ntmps103
        go_wp2_with fail
        refine hsp.out.mono ?_
        rintro e w7 ⟨rfl, rfl⟩
        go_wp2_with fail
        go_ret2
        exact ⟨rfl, rfl⟩
    · have t2 : (((s[a + 1]'ha).toNat : Int) == 40) = true := u8b h2 rfl
      rw [Bool.true_and]
      by_cases h3 : a + 2 < s.size
      · have d3 : decide ((a : Int) + 2 < (s.size : Int)) = true := decide_eq_true (by omega)
        have d3' : decide (a + 2 < s.size) = true := decide_eq_true h3
        have i3 : (a : Int) + 2 < (s.size : Int) := by omega
        rw [d3', btS h3, Bool.true_and]
        rcases h4 : (s[a + 2]'h3) == 40 with _ | _
        · have t4 : (((s[a + 2]'h3).toNat : Int) == 40) = false := u8b h4 rfl
          have Hc := Lib.hid (rcmd_c s a w hs (by omega) hsk F hF)
          rw [if_neg (by simp), if_pos rfl]
          generalize commF F s.data.toList a (a + 2) 0 true = r at *
          clear h1 h2 h4 hsk
          go_enter Tryd.func103, Tryd.ntmps103
          go_wp2_with fail
          refine Hc.out.mono ?_
          rintro e w7 ⟨rfl, rfl⟩
          go_wp2_with fail
          go_ret2
          exact ⟨rfl, rfl⟩
        · have t4 : (((s[a + 2]'h3).toNat : Int) == 40) = true := u8b h4 rfl
          have Hc := Lib.hid (rarth_c s a w hs (by omega) hsk F hF)
          rw [if_pos rfl]
          generalize arthF F s.data.toList a (a + 3) 0 = r at *
          clear h1 h2 h4 hsk
          go_enter Tryd.func103, Tryd.ntmps103
          go_wp2_with fail
          refine Hc.out.mono ?_
          rintro e w7 ⟨rfl, rfl⟩
          go_wp2_with fail
          go_ret2
          exact ⟨rfl, rfl⟩
      · have d3 : decide ((a : Int) + 2 < (s.size : Int)) = false := decide_eq_false (by omega)
        have d3' : decide (a + 2 < s.size) = false := decide_eq_false h3
        have Hc := Lib.hid (rcmd_c s a w hs (by omega) hsk F hF)
        rw [d3', Bool.false_and, if_neg (by simp), if_pos rfl]
        generalize commF F s.data.toList a (a + 2) 0 true = r at *
        clear h1 h2 hsk
        go_enter Tryd.func103, Tryd.ntmps103
        go_wp2_with fail
        refine Hc.out.mono ?_
        rintro e w7 ⟨rfl, rfl⟩
        go_wp2_with fail
        go_ret2
        exact ⟨rfl, rfl⟩
  · have t1 : (((s[a + 1]'ha).toNat : Int) == 123) = true := u8b h1 rfl
    have Hc := Lib.hid (rbrac_c s a c w hs (by omega) hc hsk F hF)
    rw [if_pos rfl]
    generalize bracF F s.data.toList c a (a + 2) = r at *
    clear h1 hsk
    go_enter Tryd.func103, Tryd.ntmps103
    go_wp2_with fail
    refine Hc.out.mono ?_
    rintro e w7 ⟨rfl, rfl⟩
    go_wp2_with fail
    go_ret2
    exact ⟨rfl, rfl⟩
theorem expB_lt {s : List UInt8} {p : Nat} (h : expB s p = true) : p + 1 < s.length ∧ bt s p = 36 := by
  unfold expB at h
  simp only [Bool.and_eq_true, decide_eq_true_eq, beq_iff_eq] at h
  exact h.1
set_option maxHeartbeats 8000000 in
set_option maxRecDepth 100000 in
theorem rpass_step (s : ByteArray) (a c : Nat) (w : World) (hs : s.size ≤ 140737488355328) (ha : a < s.size) (hc : c ≤ 2) (hsk : RPassOk s a) (F : Nat) (hF : 2 * (s.size - a) + 1 ≤ F) :
    Calls Tryd.prog 78 #[.string s, .int .i64 a, .int .i64 c] w (Gv w (passF (F + 1) s.data.toList a c)) := by
  by_cases q92 : bt s.data.toList a = 92
  · rw [passF_92 q92]
    rw [btS ha] at q92
    have t1 : (((s[a]'ha).toNat : Int) == 92) = true := by rw [q92]; rfl
    unfold escL
    rw [lenS]
    clear q92 hsk
    by_cases h : a + 1 = s.size
    · rw [if_pos h]
      have t2 : ((a : Int) + 1 == (s.size : Int)) = true := by rw [beq_iff_eq]; omega
      have t2' : (a + 1 == s.size) = true := by rw [beq_iff_eq]; exact h
      clear h
      go_enter Tryd.func78, Tryd.ntmps78
      go_wp2_with fail
      go_ret2
      exact ⟨rfl, rfl⟩
    · rw [if_neg h]
      have t2 : ((a : Int) + 1 == (s.size : Int)) = false := by rw [beq_eq_false_iff_ne]; omega
      have t2' : (a + 1 == s.size) = false := by rw [beq_eq_false_iff_ne]; exact h
      clear h
      go_enter Tryd.func78, Tryd.ntmps78
      go_wp2_with fail
      go_ret2
      exact ⟨rfl, rfl⟩
  have t92 : (((s[a]'ha).toNat : Int) == 92) = false := u8b (by rw [← btS ha]; exact beq_eq_false_iff_ne.2 q92) rfl
  by_cases q96 : bt s.data.toList a = 96
  · have Hc := Lib.hid (rback_c s a w hs ha)
    rw [passF_96 q96]
    generalize backF (s.data.toList.length + 1) s.data.toList a (a + 1) = r at *
    rw [btS ha] at q96
    have t1 : (((s[a]'ha).toNat : Int) == 96) = true := by rw [q96]; rfl
    clear hsk q92 q96
    go_enter Tryd.func78, Tryd.ntmps78
    go_wp2_with fail
    refine Hc.out.mono ?_
    rintro e w7 ⟨rfl, rfl⟩
    go_wp2_with fail
    go_ret2
    exact ⟨rfl, rfl⟩
  have t96 : (((s[a]'ha).toNat : Int) == 96) = false := u8b (by rw [← btS ha]; exact beq_eq_false_iff_ne.2 q96) rfl
  have hex := rExp_c s a w hs ha
  rcases hxb : expB s.data.toList a with _ | _
  rotate_left
  · rw [hxb] at hex
    have Hex := Lib.hid hex
    obtain ⟨hl, h36⟩ := expB_lt hxb
    rw [lenS] at hl
    have Hc := Lib.hid (rexpa_c s a c w hs hl hc hsk F hF)
    rw [passF_36 h36]
    generalize expF F s.data.toList a c = r at *
    clear hsk q92 q96 hex hxb h36
    go_enter Tryd.func78, Tryd.ntmps78
    go_wp2_with fail
    refine Hex.out.mono ?_
    rintro e w7 ⟨rfl, rfl⟩
    go_wp2_with fail
    refine Hc.out.mono ?_
    rintro e w7 ⟨rfl, rfl⟩
    go_wp2_with fail
    go_ret2
    exact ⟨rfl, rfl⟩
  rw [hxb] at hex
  have Hex := Lib.hid hex
  clear hex
  by_cases q39 : bt s.data.toList a = 39
  · by_cases hz : c = 0
    · subst hz
      have Hc := Lib.hid (rsing_c s a w hs ha)
      rw [passF_39 q39]
      generalize singL s.data.toList a = r at *
      rw [btS ha] at q39
      have t1 : (((s[a]'ha).toNat : Int) == 39) = true := by rw [q39]; rfl
      clear hsk q92 q96 q39 hxb
      go_enter Tryd.func78, Tryd.ntmps78
      go_wp2_with fail
      refine Hex.out.mono ?_
      rintro e w7 ⟨rfl, rfl⟩
      go_wp2_with fail
      refine Hc.out.mono ?_
      rintro e w7 ⟨rfl, rfl⟩
      go_wp2_with fail
      go_ret2
      exact ⟨rfl, rfl⟩
    · rw [passF_q (.inl q39) hz]
      have tz : ((c : Int) == 0) = false := by rw [beq_eq_false_iff_ne]; omega
      have tz' : (c == 0) = false := by rw [beq_eq_false_iff_ne]; exact hz
      rw [btS ha] at q39
      have t1 : (((s[a]'ha).toNat : Int) == 39) = true := by rw [q39]; rfl
      have t2 : (((s[a]'ha).toNat : Int) == 34) = false := by rw [q39]; rfl
      clear hsk q92 q96 q39 hxb
      go_enter Tryd.func78, Tryd.ntmps78
      go_wp2_with fail
      refine Hex.out.mono ?_
      rintro e w7 ⟨rfl, rfl⟩
      go_wp2_with fail
      go_ret2
      exact ⟨rfl, rfl⟩
  have t39 : (((s[a]'ha).toNat : Int) == 39) = false := u8b (by rw [← btS ha]; exact beq_eq_false_iff_ne.2 q39) rfl
  by_cases q34 : bt s.data.toList a = 34
  · by_cases hz : c = 0
    · subst hz
      have Hc := Lib.hid (rdbl_c s a w hs (by omega) hsk F hF)
      rw [passF_34 q34]
      generalize dblF F s.data.toList a (a + 1) = r at *
      rw [btS ha] at q34
      have t1 : (((s[a]'ha).toNat : Int) == 34) = true := by rw [q34]; rfl
      clear hsk q92 q96 q39 q34 hxb
      go_enter Tryd.func78, Tryd.ntmps78
      go_wp2_with fail
      refine Hex.out.mono ?_
      rintro e w7 ⟨rfl, rfl⟩
      go_wp2_with fail
      refine Hc.out.mono ?_
      rintro e w7 ⟨rfl, rfl⟩
      go_wp2_with fail
      go_ret2
      exact ⟨rfl, rfl⟩
    · rw [passF_q (.inr q34) hz]
      have tz : ((c : Int) == 0) = false := by rw [beq_eq_false_iff_ne]; omega
      have tz' : (c == 0) = false := by rw [beq_eq_false_iff_ne]; exact hz
      rw [btS ha] at q34
      have t1 : (((s[a]'ha).toNat : Int) == 34) = true := by rw [q34]; rfl
      clear hsk q92 q96 q39 q34 hxb
      go_enter Tryd.func78, Tryd.ntmps78
      go_wp2_with fail
      refine Hex.out.mono ?_
      rintro e w7 ⟨rfl, rfl⟩
      go_wp2_with fail
      go_ret2
      exact ⟨rfl, rfl⟩
  have t34 : (((s[a]'ha).toNat : Int) == 34) = false := u8b (by rw [← btS ha]; exact beq_eq_false_iff_ne.2 q34) rfl
  have hres : passF (F + 1) s.data.toList a c = (a + 1, 0) := by
    by_cases q36 : bt s.data.toList a = 36
    · rw [passF_36 q36]; exact paramL_no q36 hxb F c
    · exact passF_oth q92 q96 q36 q39 q34
  rw [hres]
  clear hsk q92 q96 q39 q34 hxb hres
  go_enter Tryd.func78, Tryd.ntmps78
  go_wp2_with fail
  refine Hex.out.mono ?_
  rintro e w7 ⟨rfl, rfl⟩
  go_wp2_with fail
  go_ret2
  exact ⟨rfl, rfl⟩
theorem rpass_all (s : ByteArray) (hs : s.size ≤ 140737488355328) : ∀ (N o : Nat), s.size - o ≤ N → RPassOk s o
  | 0, o, h => fun p c F w hop hp hc hF => by omega
  | N + 1, o, h => fun p c F w hop hp hc hF => by
    obtain ⟨F, rfl⟩ : ∃ G, F = G + 1 := ⟨F - 1, by omega⟩
    exact rpass_step s p c w hs hp hc (rpass_all s hs N p (by omega)) F (by omega)
theorem rpass_c (s : ByteArray) (p c : Nat) (w : World) (hs : s.size ≤ 140737488355328) (hp : p < s.size) (hc : c ≤ 2) :
    Calls Tryd.prog 78 #[.string s, .int .i64 p, .int .i64 c] w (Gv w (pasL s.data.toList p c)) := by
  unfold pasL
  rw [lenS]
  exact rpass_step s p c w hs hp hc (rpass_all s hs _ p (Nat.le_refl _)) _ (by omega)
theorem begB_exp {s : List UInt8} {p : Nat} (h1 : (bt s p == 92) = false) (h2 : (bt s p == 39) = false) (h3 : (bt s p == 34) = false) (h4 : (bt s p == 96) = false) : begB s p = expB s p := by
  unfold begB expB
  rw [h1, h2, h3, h4, if_neg (by simp)]
  rcases h5 : bt s p == 36 with _ | _
  · rw [if_neg (by simp), Bool.and_false, Bool.false_and]
  · rw [if_pos rfl, Bool.and_true]
    by_cases hp : p + 1 < s.length
    · rw [decide_eq_true hp, Bool.true_and, Bool.true_and, Bool.true_and, paramL_at hp]
      have hn : decide (0 < nameL (s.drop (p + 1))) = namB (bt s (p + 1)) := by
        rw [List.drop_eq_getElem_cons hp, bt_get hp]
        show decide (0 < (if namB (s[p + 1]'hp) = true then nameL (s.drop (p + 1 + 1)) + 1 else 0)) = _
        cases namB (s[p + 1]'hp) <;> simp
      cases hd : digB (bt s (p + 1)) <;> cases he : speB (bt s (p + 1)) <;> simp [hn] <;> cases namB (bt s (p + 1)) <;> cases (bt s (p + 1) == 123) <;> cases (bt s (p + 1) == 40) <;> simp
    · rw [decide_eq_false hp, List.drop_of_length_le (by omega)]
      rfl
set_option maxHeartbeats 8000000 in
set_option maxRecDepth 100000 in
theorem RClose_c (s : ByteArray) (a : Int) (w : World) (hs : s.size ≤ 140737488355328) (ha : -9223372036854775808 ≤ a ∧ a ≤ 9223372036854775807) :
    Calls Tryd.prog 43 #[.string s, .int .i64 a] w (Gv w (closL s.data.toList a)) := by
  unfold closL
  rw [lenS]
  obtain ⟨ha1, ha2⟩ := ha
  by_cases h1 : 16384 < s.size
  · rw [if_pos h1]
    have t1 : decide ((16384 : Int) < (s.size : Int)) = true := decide_eq_true (by omega)
    have t1' : decide (16384 < s.size) = true := decide_eq_true h1
    go_enter Tryd.func43, Tryd.ntmps43
    go_wp2_with fail
    go_ret2
    exact ⟨rfl, rfl⟩
  rw [if_neg h1]
  have t1 : decide ((16384 : Int) < (s.size : Int)) = false := decide_eq_false (by omega)
  have t1' : decide (16384 < s.size) = false := decide_eq_false h1
  by_cases h2 : a < 0
  · rw [if_pos (.inl h2)]
    have t2 : decide (a < (0 : Int)) = true := decide_eq_true h2
    go_enter Tryd.func43, Tryd.ntmps43
    go_wp2_with fail
    go_ret2
    exact ⟨rfl, rfl⟩
  have t2 : decide (a < (0 : Int)) = false := decide_eq_false h2
  by_cases h3 : (s.size : Int) ≤ a
  · rw [if_pos (.inr (.inl h3))]
    have t3 : decide ((s.size : Int) ≤ a) = true := decide_eq_true h3
    go_enter Tryd.func43, Tryd.ntmps43
    go_wp2_with fail
    go_ret2
    exact ⟨rfl, rfl⟩
  obtain ⟨p, rfl⟩ : ∃ p : Nat, a = p := ⟨a.toNat, by omega⟩
  rw [Int.toNat_natCast]
  have hp : p < s.size := by omega
  have t3 : decide ((s.size : Int) ≤ (p : Int)) = false := decide_eq_false h3
  have t3' : decide (s.size ≤ p) = false := decide_eq_false (by omega)
  have iI : (p : Int) < (s.size : Int) := by omega
  have Hc := Lib.hid (rpass_c s p 0 w hs hp (by omega))
  have hbe := begB_exp (s := s.data.toList) (p := p)
  have hbt : ∀ x, (bt s.data.toList p == x) = ((s[p]'hp) == x) := fun x => by rw [btS hp]
  rw [hbt, hbt, hbt, hbt] at hbe
  have hyes : ((s[p]'hp) == 92 || (s[p]'hp) == 39 || (s[p]'hp) == 34 || (s[p]'hp) == 96) = true → begB s.data.toList p = true := fun h => by
    unfold begB
    rw [hbt, hbt, hbt, hbt, if_pos h]
  have hE := rExp_c s p w hs hp
  generalize pasL s.data.toList p 0 = r at *
  clear h1 hbt
  rcases q1 : (s[p]'hp) == 92 with _ | _
  · have u1 : (((s[p]'hp).toNat : Int) != 92) = true := u8n q1 rfl
    rcases q2 : (s[p]'hp) == 39 with _ | _
    · have u2 : (((s[p]'hp).toNat : Int) != 39) = true := u8n q2 rfl
      rcases q3 : (s[p]'hp) == 34 with _ | _
      · have u3 : (((s[p]'hp).toNat : Int) != 34) = true := u8n q3 rfl
        rcases q4 : (s[p]'hp) == 96 with _ | _
        · have u4 : (((s[p]'hp).toNat : Int) != 96) = true := u8n q4 rfl
          rw [hbe q1 q2 q3 q4]
          rcases h4 : expB s.data.toList p with _ | _
          · rw [h4] at hE
            have HE := Lib.hid hE
            rw [if_pos (.inr (.inr rfl))]
            clear hE h4 q1 q2 q3 q4 hbe hyes
            go_enter Tryd.func43, Tryd.ntmps43
            go_wp2_with fail
            refine HE.out.mono ?_
            rintro e w7 ⟨rfl, rfl⟩
            go_wp2_with fail
            go_ret2
            exact ⟨rfl, rfl⟩
          · rw [h4] at hE
            have HE := Lib.hid hE
            rw [if_neg (by rintro (h | h | h); exact h2 h; exact h3 h; simp at h)]
            clear hE h4 q1 q2 q3 q4 hbe hyes
            go_enter Tryd.func43, Tryd.ntmps43
            go_wp2_with fail
            refine HE.out.mono ?_
            rintro e w7 ⟨rfl, rfl⟩
            go_wp2_with fail
            refine Hc.out.mono ?_
            rintro e w7 ⟨rfl, rfl⟩
            go_wp2_with fail
            go_ret2
            exact ⟨rfl, rfl⟩
        · have u4 : (((s[p]'hp).toNat : Int) != 96) = false := u8n q4 rfl
          rw [hyes (by rw [q4]; simp), if_neg (by rintro (h | h | h); exact h2 h; exact h3 h; simp at h)]
          clear hE q1 q2 q3 q4 hbe hyes
          go_enter Tryd.func43, Tryd.ntmps43
          go_wp2_with fail
          refine Hc.out.mono ?_
          rintro e w7 ⟨rfl, rfl⟩
          go_wp2_with fail
          go_ret2
          exact ⟨rfl, rfl⟩
      · have u3 : (((s[p]'hp).toNat : Int) != 34) = false := u8n q3 rfl
        rw [hyes (by rw [q3]; simp), if_neg (by rintro (h | h | h); exact h2 h; exact h3 h; simp at h)]
        clear hE q1 q2 q3 hbe hyes
        go_enter Tryd.func43, Tryd.ntmps43
        go_wp2_with fail
        refine Hc.out.mono ?_
        rintro e w7 ⟨rfl, rfl⟩
        go_wp2_with fail
        go_ret2
        exact ⟨rfl, rfl⟩
    · have u2 : (((s[p]'hp).toNat : Int) != 39) = false := u8n q2 rfl
      rw [hyes (by rw [q2]; simp), if_neg (by rintro (h | h | h); exact h2 h; exact h3 h; simp at h)]
      clear hE q1 q2 hbe hyes
      go_enter Tryd.func43, Tryd.ntmps43
      go_wp2_with fail
      refine Hc.out.mono ?_
      rintro e w7 ⟨rfl, rfl⟩
      go_wp2_with fail
      go_ret2
      exact ⟨rfl, rfl⟩
  · have u1 : (((s[p]'hp).toNat : Int) != 92) = false := u8n q1 rfl
    rw [hyes (by rw [q1]; simp), if_neg (by rintro (h | h | h); exact h2 h; exact h3 h; simp at h)]
    clear hE q1 hbe hyes
    go_enter Tryd.func43, Tryd.ntmps43
    go_wp2_with fail
    refine Hc.out.mono ?_
    rintro e w7 ⟨rfl, rfl⟩
    go_wp2_with fail
    go_ret2
    exact ⟨rfl, rfl⟩
set_option maxHeartbeats 8000000 in
set_option maxRecDepth 100000 in
theorem closes_walk (s : ByteArray) (a : Int) (w : World) (ha : -9223372036854775808 ≤ a ∧ a ≤ 9223372036854775807) :
    Calls Tryd.prog 12 #[.string s, .int .i64 a] w fun e w' => e = .returned (.bool true) ∧ Below w.heap.size w w' := by
  have haw := Lib.hid (fun W => awake_c W)
  by_cases hl : 2000 < s.size
  · have t1 : decide ((2000 : Int) < (s.size : Int)) = true := decide_eq_true (by omega)
    have t1' : decide (2000 < s.size) = true := decide_eq_true hl
    go_enter Tryd.func12, Tryd.ntmps12
    go_wp2_with fail
    refine (haw.out _).mono ?_
    rintro e w1 ⟨rfl, m1⟩
    go_wp2_with fail
    go_ret
    exact ⟨rfl, m1⟩
  have t1 : decide ((2000 : Int) < (s.size : Int)) = false := decide_eq_false (by omega)
  have t1' : decide (2000 < s.size) = false := decide_eq_false hl
  have h1 := Lib.hid (Close_c s a w (by omega) ha)
  have h2 := Lib.hid (RClose_c s a w (by omega) ha)
  generalize closL s.data.toList a = r at *
  obtain ⟨n, x⟩ := r
  have e1 : ((n : Int) == (n : Int)) = true := by rw [beq_iff_eq]
  have e2 : ((x : Int) == (x : Int)) = true := by rw [beq_iff_eq]
  clear hl
  go_enter Tryd.func12, Tryd.ntmps12
  go_wp2_with fail
  refine h1.out.mono ?_
  rintro e w1 ⟨rfl, rfl⟩
  go_wp2_with fail
  refine h2.out.mono ?_
  rintro e w1 ⟨rfl, rfl⟩
  go_wp2_with fail
  refine (haw.out _).mono ?_
  rintro e w1 ⟨rfl, m1⟩
  go_wp2_with fail
  go_ret
  exact ⟨rfl, m1⟩
end Go.Proofs.YteppndkhmbhnkaaDoor
