/- The contract of chars.Unescape: the walk. -/
import Derived.Test.YtdjphpobhbelaaaDoorUneC
namespace Go.Proofs.YtdjphpobhbelaaaDoor
open Go.RowKit

set_option maxHeartbeats 1000000 in
set_option maxRecDepth 100000 in
theorem unescape_c (s : ByteArray) (w : World) (hs : s.size ≤ 3000) :
    Calls Tryd.prog 22 #[.string s] w fun e w' => e = .returned (.tuple #[.string ⟨(un 0 0 s.data.toList).2.toArray⟩, .int .i64 (un 0 0 s.data.toList).1]) ∧ Below w.heap.size w w' := by
  have hll : s.data.toList.length = s.size := rfl
  have hst0 := une_start s w
  have Hst0 := Lib.hid hst0
  clear hst0
  generalize hRes : un 0 0 s.data.toList = Res
  have HRes := Lib.hid hRes
  clear hRes
  obtain ⟨rn, rl⟩ := Res
  go_enter Tryd.func22, Tryd.ntmps22
  go_wp2_with fail
  go_loopw [6] (fun hv wr => ∃ (st h pos : Nat) (sv : Int) (acc : List UInt8), hv = .int .i64 h ∧ UneSt s w st h pos sv acc wr) (fun _ wr => s.size - wr.iterPos (w.heap.size + 2))
  case atStart => exact ⟨0, 0, 0, -1, [], rfl, Hst0.out⟩
  case round =>
    obtain ⟨st, h, pos, sv, acc, rfl, hR⟩ := hrel
    clear Hst0
    by_cases hlt : pos < s.size
    · have hnx := next_at wr (w.heap.size + 2) s pos hR.it hlt
      have hit2 := Lib.iterAt_heap wr (w.heap.size + 2) s pos (pos + widthAt s pos) hR.it
      have hb2 := Lib.below_iterAt hR.bl (k := w.heap.size + 2) (by omega) s (pos + widthAt s pos)
      have htk := take_iter (p' := pos + widthAt s pos) hR.tk hR.it (by omega)
      have hsz2 : w.heap.size + 2 < (wr.iterAt (w.heap.size + 2) s (pos + widthAt s pos)).heap.size := by rw [Lib.iterAt_size]; exact hR.sz
      have hwp := width_pos hlt
      have hrs := rune_small s pos
      obtain ⟨c, hs', x1, x2, x3, x4, x5, x6⟩ := rune_split hlt
      have hip : wr.iterPos (w.heap.size + 2) = pos := by simp only [World.iterPos, hR.it]
      have Hip := Lib.hid hip
      have hcc : s[pos]'hlt = c := by
        have h1 : s.data.toList.drop pos = s.data.toList[pos]'(by rw [hll]; exact hlt) :: s.data.toList.drop (pos + 1) := List.drop_eq_getElem_cons _
        rw [x1] at h1
        injection h1 with h1 _
        exact h1.symm
      have hal := hR.al; have hh := hR.h16; have hss := hR.ss; have heq := hR.eq
      clear hR hip
      generalize runeAt s pos = R at *
      generalize widthAt s pos = wd at *
      generalize hX : wr.iterAt (w.heap.size + 2) s (pos + wd) = wx at *
      have HX := Lib.hid hX
      have hone : R < 128 → hs' = [] ∧ wd = 1 ∧ c.toNat = R := fun h => by
        have := (x5 h).2
        subst this
        exact ⟨rfl, by simpa using x2.symm, (x5 h).1.symm⟩
      have hdg : digR R = dig c := by
        unfold digR
        by_cases hr : R < 128
        · rw [if_pos hr]
          congr 1
          exact (UInt8.toNat_inj.1 (by rw [(x5 hr).1]; simp))
        · rw [if_neg hr, dig_high (x6 (by omega))]
      have hpr : prB R = prB c.toNat := by
        by_cases hr : R < 128
        · rw [(x5 hr).1]
        · have := x6 (by omega)
          unfold prB
          rw [decide_eq_false (by omega), decide_eq_false (by omega)]
      have hsh : shortF R = shortF c.toNat := by
        by_cases hr : R < 128
        · rw [(x5 hr).1]
        · have := x6 (by omega)
          rw [short_high (by omega), short_high (by omega)]
      have hcv : ∀ v : Nat, v < 128 → (R = v ↔ c.toNat = v) := fun v hv => by
        by_cases hr : R < 128
        · rw [(x5 hr).1]
        · have := x6 (by omega)
          omega
      have hix := fun W => index_c R W hrs
      have n1 : decide (pos < s.size) = true := decide_eq_true hlt
      rw [x1] at heq
      have Heq := Lib.hid heq; have X1 := Lib.hid x1; have X2 := Lib.hid x2; have Hone := Lib.hid hone; have Hcv := Lib.hid hcv; have Hdg := Lib.hid hdg; have Hpr := Lib.hid hpr; have Hsh := Lib.hid hsh; have Hcc := Lib.hid hcc; have Hb2 := Lib.hid hb2; have Hit := Lib.hid hit2; have Htk := Lib.hid htk; have Hix := Lib.hid hix
      clear heq x1 x2 x4 x5 x6 hone hcv hdg hpr hsh hcc hb2 hit2 htk hix hX
      have hcell := cell_of_one Htk.out.frm
      have hfz := free_of_one Htk.out.frm
      have hal5 : acc.length ≤ 100000 := by omega
      have h92c : (R = 92 → c = 92) ∧ (c = 92 → R = 92) := ⟨fun e => u8_of (v := 92) (by omega) ((Hcv.out 92 (by omega)).1 e), fun e => (Hcv.out 92 (by omega)).2 (by rw [e]; rfl)⟩
      have h120c : (R = 120 → c = 120) ∧ (c = 120 → R = 120) := ⟨fun e => u8_of (v := 120) (by omega) ((Hcv.out 120 (by omega)).1 e), fun e => (Hcv.out 120 (by omega)).2 (by rw [e]; rfl)⟩
      have H92 := Lib.hid h92c; have H120 := Lib.hid h120c
      clear h92c h120c
      rcases hss with ⟨rfl, rfl⟩ | ⟨s1, s2, s3, s4⟩
      · -- outside of an escape
        by_cases c1 : R = 92
        · subst c1
          obtain ⟨e1, e2, _⟩ := Hone.out (by omega)
          have e3 := H92.out.1 rfl
          subst e1; subst e2; subst e3
          have hn : UneSt s w 1 h (pos + 1) pos acc (wx.setCell ⟨w.heap.size + 1, 0, none⟩ (.int .i64 pos)) := by
            refine ⟨take_set Htk.out, ?_, Hb2.out.setCell (p := ⟨w.heap.size + 1, 0, none⟩) (by simp) _, by simp; omega, by omega, by omega, hh, .inr ⟨by omega, by omega, by omega, by omega⟩, ?_⟩
            · rw [Below.heap_setCell _ _ _ _ (by simp)]; exact Hit.out
            · have := Heq.out
              rw [un0, if_pos rfl] at this
              rw [← this, un1h]
              rfl
          go_wp2_with fail
          go_roundw
          case rel => exact ⟨1, h, pos + 1, pos, acc, rfl, hn⟩
          case measure => rw [Hip.out]; simp only [World.iterPos, hn.it]; omega
        · have t1 : ((R : Int) == 92) = false := by rw [beq_eq_false_iff_ne]; omega
          have n92 : ¬ c = 92 := fun e => c1 (H92.out.2 e)
          rcases hp : prB R with _ | _
          · have hq := Heq.out
            rw [un0, if_neg n92, if_neg (by rw [← Hpr.out, hp]; decide), preU_err, HRes.out] at hq
            injection hq with h1 h2
            subst h1; subst h2
            clear c1 n92
            go_wp2_with fail
            refine (printable_c _ _).mono ?_
            rintro e w1 ⟨rfl, rfl⟩
            rw [hp]
            go_wp2_with fail
            go_ret2
            exact ⟨rfl, Hb2.out⟩
          · have h4 := hp
            unfold prB at h4
            rw [decide_eq_true_iff] at h4
            obtain ⟨e1, e2, e3⟩ := Hone.out (by omega)
            subst e1; subst e2
            have Hp := Lib.hid hp
            have N92 := Lib.hid n92
            clear c1 n92 h4 hp
            go_wp2_with fail
            refine (printable_c _ _).mono ?_
            rintro e w1 ⟨rfl, rfl⟩
            rw [Hp.out]
            go_wp2_with fail
            rw [Hcc.out]
            refine (take_c' _ c rfl Htk.out hal5).mono ?_
            rintro e w2 ⟨rfl, m1, m2, m3⟩
            have hit3 := m3 _ _ _ Hit.out
            have hn := une_took m1 hit3 Hb2.out m2 hsz2 x3 (by omega) rfl Heq.out (by rw [un0, if_neg N92.out, if_pos (by rw [← Hpr.out]; exact Hp.out)]) hh
            clear m1 m2 m3
            go_wp2_with fail
            go_roundw
            case rel => exact ⟨0, h, pos + 1, -1, _, rfl, hn⟩
            case measure => rw [Hip.out]; simp only [World.iterPos, hit3]; omega
      · have t0 : decide (sv < 0) = false := decide_eq_false (by omega)
        have sb : sv ≤ 100000 := by omega
        obtain rfl | rfl | rfl : st = 1 ∨ st = 2 ∨ st = 3 := by omega
        · -- behind a backslash
          have ti : ((pos : Int) == sv + 1) = true := by rw [beq_iff_eq]; omega
          have hq := Heq.out
          rw [un1] at hq
          have Hq := Lib.hid hq
          clear hq s1 s2
          by_cases c1 : R = 120
          · subst c1
            obtain ⟨e1, e2, _⟩ := Hone.out (by omega)
            have e3 := H120.out.1 rfl
            subst e1; subst e2; subst e3
            have hn : UneSt s w 2 h (pos + 1) sv acc wx := by
              refine ⟨Htk.out, Hit.out, Hb2.out, hsz2, by omega, by omega, hh, .inr ⟨by omega, by omega, by omega, by omega⟩, ?_⟩
              have := Hq.out
              rw [if_pos rfl] at this
              rw [← this, un2h]
              rfl
            go_wp2_with fail
            go_roundw
            case rel => exact ⟨2, h, pos + 1, sv, acc, rfl, hn⟩
            case measure => rw [Hip.out]; simp only [World.iterPos, hn.it]; omega
          · have t1 : ((R : Int) == 120) = false := by rw [beq_eq_false_iff_ne]; omega
            have n120 : ¬ c = 120 := fun e => c1 (H120.out.2 e)
            rcases hp : (shortF R).2 with _ | _
            · have hq := Hq.out
              rw [if_neg n120, if_neg (by rw [← Hsh.out, hp]; decide), preU_err, HRes.out] at hq
              injection hq with h1 h2
              subst h1; subst h2
              clear c1 n120
              go_wp2_with fail
              refine (short_c _ _).mono ?_
              rintro e w1 ⟨rfl, rfl⟩
              rw [hp]
              go_wp2_with fail
              go_ret2
              exact ⟨rfl, Hb2.out⟩
            · have hr : R < 128 := by
                by_cases hr : R < 128
                · exact hr
                · rw [short_high (by omega)] at hp; exact absurd hp (by decide)
              obtain ⟨e1, e2, e3⟩ := Hone.out hr
              subst e1; subst e2
              have Hp := Lib.hid hp
              have N120 := Lib.hid n120
              clear c1 n120 hp
              go_wp2_with fail
              refine (short_c _ _).mono ?_
              rintro e w1 ⟨rfl, rfl⟩
              rw [Hp.out]
              go_wp2_with fail
              refine (take_c' _ (shortF R).1.toNat.toUInt8 (short_u8 _).symm Htk.out hal5).mono ?_
              rintro e w2 ⟨rfl, m1, m2, m3⟩
              have hit3 := m3 _ _ _ Hit.out
              have hn := une_took m1 hit3 Hb2.out m2 hsz2 x3 (by omega) rfl Heq.out (by rw [un1, if_neg N120.out, if_pos (by rw [← Hsh.out]; exact Hp.out), Hsh.out]) hh
              clear m1 m2 m3
              go_wp2_with fail
              go_roundw
              case rel => exact ⟨0, h, pos + 1, -1, _, rfl, hn⟩
              case measure => rw [Hip.out]; simp only [World.iterPos, hit3]; omega
        · -- behind the x
          have ti : ((pos : Int) == sv + 1) = false := by rw [beq_eq_false_iff_ne]; omega
          have tj : ((pos : Int) == sv + 2) = true := by rw [beq_iff_eq]; omega
          have hq := Heq.out
          rw [un2, ← Hdg.out] at hq
          have Hq := Lib.hid hq
          clear hq s1 s2
          have hdr : -1 ≤ digR R ∧ digR R < 16 := by rw [Hdg.out]; exact dig_range c
          go_wp2_with fail
          refine (Hix.out _).mono ?_
          rintro e w1 ⟨rfl, m0⟩
          have htk1 := take_below Htk.out m0
          have hit1 := (m0.block _ hsz2).trans Hit.out
          have hb1 : Below w.heap.size w w1 := Hb2.out.trans (m0.mono (by omega))
          have hsz1 : w.heap.size + 2 < w1.heap.size := by have := m0.size; omega
          rcases hp : highB (digR R) with _ | _
          · have hq := Hq.out
            rw [if_neg (by rw [hp]; decide), preU_err, HRes.out] at hq
            injection hq with h1 h2
            subst h1; subst h2
            go_wp2_with fail
            refine (high_c _ _).mono ?_
            rintro e w1 ⟨rfl, rfl⟩
            rw [hp]
            go_wp2_with fail
            go_ret2
            exact ⟨rfl, hb1⟩
          · have hd0 : 0 ≤ digR R := by
              rcases Int.lt_or_le (digR R) 0 with h0 | h0
              · rw [show digR R = -1 from by omega] at hp; exact absurd hp (by decide)
              · exact h0
            have hr : R < 128 := by
              by_cases hr : R < 128
              · exact hr
              · unfold digR at hd0; rw [if_neg hr] at hd0; exact absurd hd0 (by decide)
            obtain ⟨e1, e2, e3⟩ := Hone.out hr
            subst e1; subst e2
            obtain ⟨o, ho⟩ := Int.eq_ofNat_of_zero_le hd0
            have hn : UneSt s w 3 o (pos + 1) sv acc w1 := by
              refine ⟨htk1, hit1, hb1, hsz1, by omega, by omega, by omega, .inr ⟨by omega, by omega, by omega, by omega⟩, ?_⟩
              have := Hq.out
              rw [if_pos hp, ho, Int.toNat_natCast] at this
              rw [← this]
              rfl
            have Hp := Lib.hid hp
            have hpo : highB (o : Int) = true := by rw [← ho]; exact hp
            have Hpo := Lib.hid hpo
            clear hp hpo
            go_wp2_with fail
            refine (high_c _ _).mono ?_
            rintro e w1 ⟨rfl, rfl⟩
            first | rw [Hp.out] | rw [Hpo.out]
            go_wp2_with fail
            go_roundw
            case rel => exact ⟨3, o, pos + 1, sv, acc, by first | rfl | rw [ho], hn⟩
            case measure => rw [Hip.out]; simp only [World.iterPos, hit1]; omega
        · -- behind the first digit
          have ti : ((pos : Int) == sv + 1) = false := by rw [beq_eq_false_iff_ne]; omega
          have tj : ((pos : Int) == sv + 2) = false := by rw [beq_eq_false_iff_ne]; omega
          have hq := Heq.out
          rw [un3, ← Hdg.out] at hq
          have Hq := Lib.hid hq
          clear hq s1 s2
          have hdr : -1 ≤ digR R ∧ digR R < 16 := by rw [Hdg.out]; exact dig_range c
          go_wp2_with fail
          refine (Hix.out _).mono ?_
          rintro e w1 ⟨rfl, m0⟩
          have htk1 := take_below Htk.out m0
          have hit1 := (m0.block _ hsz2).trans Hit.out
          have hb1 : Below w.heap.size w w1 := Hb2.out.trans (m0.mono (by omega))
          have hsz1 : w.heap.size + 2 < w1.heap.size := by have := m0.size; omega
          by_cases hneg : digR R < 0
          · have tn : decide (digR R < 0) = true := decide_eq_true hneg
            have hq := Hq.out
            rw [if_pos (.inl hneg), preU_err, HRes.out] at hq
            injection hq with h1 h2
            subst h1; subst h2
            go_wp2_with fail
            go_ret2
            exact ⟨rfl, hb1⟩
          have tn : decide (digR R < 0) = false := decide_eq_false hneg
          have hr : R < 128 := by
            by_cases hr : R < 128
            · exact hr
            · unfold digR at hneg; rw [if_neg hr] at hneg; exact absurd (by decide) hneg
          obtain ⟨e1, e2, e3⟩ := Hone.out hr
          subst e1; subst e2
          have hd0 : 0 ≤ digR R := by omega
          obtain ⟨o, ho⟩ := Int.eq_ofNat_of_zero_le hd0
          have hdo := Hdg.out.symm
          rw [ho] at hdo hd0 hneg hdr tn
          have hq2 := Hq.out
          rw [ho] at hq2
          have Hq2 := Lib.hid hq2
          have Hdo := Lib.hid hdo
          rw [ho]
          clear ho Hdg Hq hq2 hdo Hix
          have hhi : 0 ≤ (h : Int) ∧ (h : Int) < 16 := by omega
          have g1 : 0 ≤ 16 * (h : Int) ∧ 16 * (h : Int) ≤ 240 := by omega
          have g2 : 0 ≤ 16 * (h : Int) + (o : Int) ∧ 16 * (h : Int) + (o : Int) ≤ 255 := by omega
          have hno : 16 * (h : Int) + (o : Int) = ((16 * h + o : Nat) : Int) := by omega
          have hw1 : IntKind.i64.wrap (16 * (h : Int) + (o : Int)) = 16 * (h : Int) + (o : Int) := IntWalk.i64_in _ (by omega)
          have hw2 : IntKind.u8.wrap (16 * (h : Int) + (o : Int)) = 16 * (h : Int) + (o : Int) := IntWalk.u8_in _ (by omega)
          rcases hp : needB ((16 * h + o : Nat) : Int) with _ | _
          · have hq := Hq2.out
            rw [if_pos (.inr (by rw [hno, hp])), preU_err, HRes.out] at hq
            injection hq with h1 h2
            subst h1; subst h2
            clear hno
            go_wp2_with fail
            refine (needs_c' _ (16 * h + o) ?_ (by omega) _).mono ?_
            · omega
            rintro e w1 ⟨rfl, rfl⟩
            rw [hp]
            go_wp2_with fail
            go_ret2
            exact ⟨rfl, hb1⟩
          · have Hp := Lib.hid hp
            have hcu : (16 * (h : Int) + (o : Int)).toNat.toUInt8.toNat = 16 * h + o := by
              rw [hno, Int.toNat_natCast]
              simp
              omega
            have Hno := Lib.hid hno
            have Hcu := Lib.hid hcu
            clear hp hno hcu
            go_wp2_with fail
            refine (needs_c' _ (16 * h + o) ?_ (by omega) _).mono ?_
            · omega
            rintro e w1 ⟨rfl, rfl⟩
            rw [Hp.out]
            go_wp2_with fail
            refine (take_c' _ (16 * (h : Int) + (o : Int)).toNat.toUInt8 ?_ htk1 hal5).mono ?_
            · rw [Hcu.out]; omega
            rintro e w2 ⟨rfl, m1, m2, m3⟩
            have hit3 := m3 _ _ _ hit1
            have hn := une_took m1 hit3 hb1 m2 hsz1 x3 (by omega) rfl Heq.out (by rw [un3, Hdo.out, if_neg (by rw [Hno.out, Hp.out]; simp only [Bool.true_eq_false, or_false]; omega)]) hh
            clear m1 m2 m3
            go_wp2_with fail
            go_roundw
            case rel => exact ⟨0, h, pos + 1, -1, _, rfl, hn⟩
            case measure => rw [Hip.out]; simp only [World.iterPos, hit3]; omega
    · have hnx := next_end wr (w.heap.size + 2) s pos hR.it hlt
      have hps : pos = s.size := by have := hR.po; omega
      subst hps
      have hal := hR.al; have heq := hR.eq; have hss := hR.ss; have htk := hR.tk; have hbl := hR.bl; have hsz := hR.sz
      clear hR
      rw [show s.data.toList.drop s.size = [] from List.drop_of_length_le (by omega), HRes.out] at heq
      have hcell := cell_of_one htk.frm
      have hbld := htk.bld
      have Heq := Lib.hid heq
      clear heq htk
      rcases hss with ⟨rfl, rfl⟩ | ⟨s1, s2, s3, s4⟩
      · have hq := Heq.out
        rw [show un 0 h [] = (0, []) from rfl, preU_ok, List.append_nil] at hq
        injection hq with h1 h2
        subst h1; subst h2
        go_wp2_with fail
        refine (Tryd.Builder_String_any_k w.heap.size w.heap.size _ wr hbld (by omega)).mono ?_
        rintro e w3 ⟨rfl, _, p2, _⟩
        go_wp2_with fail
        go_ret2
        exact ⟨rfl, hbl.trans p2⟩
      · obtain ⟨m, rfl⟩ : ∃ m, st = m + 1 := ⟨st - 1, by omega⟩
        have hq := Heq.out
        rw [show un (m + 1) h [] = (28, []) from rfl] at hq
        simp [preU] at hq
        obtain ⟨rfl, rfl⟩ := hq
        have t1 : decide (0 ≤ sv) = true := decide_eq_true s3
        go_wp2_with fail
        go_ret2
        exact ⟨rfl, hbl⟩
end Go.Proofs.YtdjphpobhbelaaaDoor
