/- pattern: lit, quoted, awake. -/
import Derived.Test.YteppndkhmbhnkaaDoorPEval
namespace Go.Proofs.YteppndkhmbhnkaaDoor
open Go.RowKit
set_option linter.unusedVariables false

theorem lit_c (s : List UInt8) (w : World) : Calls Tryd.prog 49 #[.string ⟨s.toArray⟩] w fun e w' => ∃ v, e = .returned v ∧ OwnR w' w.heap.size v [⟨s, 0⟩] ∧ Below w.heap.size w w' := by
  have ho := Lib.hid (ownR_lit w w.heap.size (Nat.le_refl _) s 0)
  go_enter Tryd.func49, Tryd.ntmps49
  go_wp2_with fail
  go_ret
  exact ⟨_, rfl, ho.out, (Below.refl _ _).alloc (Nat.le_refl _) _⟩
theorem quoted_c (s : List UInt8) (w : World) : Calls Tryd.prog 33 #[.string ⟨s.toArray⟩] w fun e w' => ∃ v, e = .returned v ∧ OwnR w' w.heap.size v [⟨s, 1⟩] ∧ Below w.heap.size w w' := by
  have ho := Lib.hid (ownR_lit w w.heap.size (Nat.le_refl _) s 1)
  go_enter Tryd.func33, Tryd.ntmps33
  go_wp2_with fail
  go_ret
  exact ⟨_, rfl, ho.out, (Below.refl _ _).alloc (Nat.le_refl _) _⟩
theorem compR_c {rs : List Rn} {B : Nat} {v : Value} {w : World} (is : List It) (n : Nat) (he : compileL rs = is) (hin : is.length = n) (h : OwnR w B v rs) (hn : rs.length ≤ 1000000) (hT : (charsOf rs).length ≤ 1000000) (hL : ∀ r ∈ rs, r.t.length ≤ 1000000) (hE : Env w w.heap.size) :
    Calls Tryd.prog 18 #[v] w fun e w' => ∃ A c, e = .returned (.slice A n c) ∧ PatAt w' w'.heap.size A is ∧ Below w.heap.size w w' := by
  subst he; subst hin
  obtain ⟨A, c, rfl, hr, _, _⟩ := ownR_at h
  refine (compile_c A rs c w hr hn hT hL hE).mono ?_
  rintro e w' ⟨v, rfl, ho, hb⟩
  obtain ⟨A2, c2, rfl, hp, _, _⟩ := ownIt_at ho
  exact ⟨A2, c2, rfl, hp, hb⟩
theorem specR_c {rs : List Rn} {B : Nat} {v : Value} {w : World} (h : OwnR w B v rs) (hn : rs.length ≤ 1000000) (hT : (charsOf rs).length ≤ 1000000) (hL : ∀ r ∈ rs, r.t.length ≤ 1000000) (hE : Env w w.heap.size) (ho : ∀ x ∈ compileL rs, ItOk x) :
    Calls Tryd.prog 31 #[v] w fun e w' => e = .returned (.bool ((compileL rs).any spec)) ∧ Below w.heap.size w w' := by
  obtain ⟨A, c, rfl, hr, _, _⟩ := ownR_at h
  exact special_c A rs c w hr hn hT hL hE ho
theorem okA : ∀ x ∈ pA, ItOk x := by intro x hx; simp [pA] at hx; rcases hx with rfl | rfl | rfl <;> refine ⟨⟨by simp, by simp⟩, by simp⟩
theorem okB : ∀ x ∈ pB, ItOk x := by intro x hx; simp [pB] at hx; rcases hx with rfl | rfl <;> refine ⟨⟨by simp, by simp⟩, by simp⟩
theorem okC : ∀ x ∈ pC, ItOk x := by intro x hx; simp [pC] at hx; rcases hx with rfl | rfl <;> refine ⟨⟨by simp, by simp⟩, by simp⟩
theorem okD : ∀ x ∈ pD, ItOk x := by intro x hx; simp [pD] at hx; rcases hx with rfl | rfl <;> refine ⟨⟨by simp, by simp⟩, by simp⟩
theorem ok5 : ∀ x ∈ compileL [⟨[91, 97, 93], 0⟩], ItOk x := by rw [ev5]; intro x hx; simp at hx; subst hx; refine ⟨⟨by simp, by simp⟩, by simp⟩
theorem ok6 : ∀ x ∈ compileL [⟨[91, 97], 0⟩], ItOk x := by rw [ev6]; intro x hx; simp at hx; rcases hx with rfl | rfl <;> refine ⟨⟨by simp, by simp⟩, by simp⟩
set_option maxHeartbeats 16000000 in
set_option maxRecDepth 100000 in
theorem awake_c (w : World) (hE : Env w w.heap.size) :
    Calls Tryd.prog 16 #[] w fun e w' => e = .returned (.bool true) ∧ Below w.heap.size w w' := by
  have HE : Hid (∀ W, Below w.heap.size w W → Env W W.heap.size) := Lib.hid (fun W hW => env_mono (env_below hE hW (Nat.le_refl _)) hW.size)
  clear hE
  go_enter Tryd.func16, Tryd.ntmps16
  go_wp2_with fail
  refine (lit_c [97, 42, 91, 33, 48, 45, 57, 93] _).mono ?_
  rintro e w1 ⟨v1, rfl, o1, m1⟩
  go_wp2_with fail
  refine (compR_c pA 3 ev1 rfl o1 (by simp) (by simp [charsOf, runCh]) (by simp) (HE.out _ m1)).mono ?_
  rintro e w2 ⟨A2, c2, rfl, p2, n2⟩
  have m2 := m1.trans (n2.mono m1.size)
  clear o1 n2 m1
  go_wp2_with fail
  refine (lit_c [97, 42] _).mono ?_
  rintro e w3 ⟨v3, rfl, o3, k3⟩
  have m3 := m2.trans (k3.mono m2.size)
  go_wp2_with fail
  refine (compR_c pB 2 ev2 rfl o3 (by simp) (by simp [charsOf, runCh]) (by simp) (HE.out _ m3)).mono ?_
  rintro e w4 ⟨A4, c4, rfl, p4, n4⟩
  have k4 := k3.trans (n4.mono k3.size)
  clear o3 n4 k3 m3
  have hpre := prefix_c A4 pB c4 [97, 98, 99] true w4 p4 okB (by decide) (by simp)
  rw [ev7, show pB.length = 2 from rfl] at hpre
  go_wp2_with fail
  refine hpre.mono ?_
  rintro e w5 ⟨rfl, n5⟩
  have k5 := k4.trans (n5.mono k4.size)
  clear hpre p4 n5 k4
  have m5 := m2.trans (k5.mono m2.size)
  go_wp2_with fail
  refine (lit_c [42, 99] _).mono ?_
  rintro e w6 ⟨v6, rfl, o6, n6⟩
  have k6 := k5.trans (n6.mono k5.size)
  have m6 := m2.trans (k6.mono m2.size)
  clear n6 m5 k5
  go_wp2_with fail
  refine (compR_c pC 2 ev3 rfl o6 (by simp) (by simp [charsOf, runCh]) (by simp) (HE.out _ m6)).mono ?_
  rintro e w7 ⟨A7, c7, rfl, p7, n7⟩
  have k7 := k6.trans (n7.mono k6.size)
  clear o6 n7 k6 m6
  obtain ⟨b7, off7, rfl⟩ : ∃ b off, A7 = some ⟨b, off, none⟩ := by
    rcases p7 with h | ⟨b, off, h, _⟩
    · cases h
    · exact ⟨b, off, h⟩
  have hsuf := suffix_c b7 off7 c7 pC [97, 98, 99] false w7 (by decide) p7 okC (by decide) (by simp)
  rw [ev8, show pC.length = 2 from rfl] at hsuf
  go_wp2_with fail
  refine hsuf.mono ?_
  rintro e w8 ⟨rfl, n8⟩
  have k8 := k7.trans (n8.mono k7.size)
  clear hsuf p7 n8 k7
  go_wp2_with fail
  refine (quoted_c [97, 42] _).mono ?_
  rintro e w9 ⟨v9, rfl, o9, n9⟩
  have k9 := k8.trans (n9.mono k8.size)
  have m9 := m2.trans (k9.mono m2.size)
  clear n9 k8
  go_wp2_with fail
  refine (compR_c pD 2 ev4 rfl o9 (by simp) (by simp [charsOf, runCh]) (by simp) (HE.out _ m9)).mono ?_
  rintro e wa ⟨Aa, ca, rfl, pa, na⟩
  have ka := k9.trans (na.mono k9.size)
  clear o9 na k9 m9
  have hlit := literal_c Aa pD ca wa pa okD (by decide)
  rw [ev9, show pD.length = 2 from rfl] at hlit
  go_wp2_with fail
  refine hlit.mono ?_
  rintro e wb ⟨rfl, nb⟩
  have kb := ka.trans (nb.mono ka.size)
  clear hlit pa nb ka
  have pb := patAt_mono (patAt_below p2 kb (Nat.le_refl _)) kb.size
  obtain ⟨bp, op, rfl, hlp, hcp⟩ : ∃ b off, A2 = some ⟨b, off, none⟩ ∧ b < wb.heap.size ∧ ∃ sv, wb.cell? ⟨b, off + 8, none⟩ = some (.int .i64 4) ∧ wb.cell? ⟨b, off + 8 + 1, none⟩ = some (.string ⟨#[]⟩) ∧ wb.cell? ⟨b, off + 8 + 2, none⟩ = some (.bool true) ∧ wb.cell? ⟨b, off + 8 + 3, none⟩ = some sv ∧ SpAt wb wb.heap.size sv [(48, 57)] := by
    rcases pb with h | ⟨b, off, h, hl, hc⟩
    · cases h
    · exact ⟨b, off, h, hl, hc 2 (by decide)⟩
  obtain ⟨sv, x0, x1, x2, x3, xs⟩ := hcp
  obtain ⟨As, cs, rfl, _⟩ := xs
  have P2 := Lib.hid p2
  clear p2 pb
  have hl3 : pA.length = 3 := rfl
  go_wp2_with fail
  clear x0 x1 x2 x3 hlp
  have hc1 := match_c (some ⟨bp, op, none⟩) pA c2 [97, 49, 98] wb (patAt_mono (patAt_below P2.out kb (Nat.le_refl _)) kb.size) okA (by decide) (by simp)
  rw [ev10, hl3] at hc1
  refine hc1.mono ?_
  rintro e wc ⟨rfl, nc⟩
  have kc := kb.trans (nc.mono kb.size)
  clear hc1 nc
  go_wp2_with fail
  have hc1 := match_c (some ⟨bp, op, none⟩) pA c2 [97, 49] wc (patAt_mono (patAt_below P2.out kc (Nat.le_refl _)) kc.size) okA (by decide) (by simp)
  rw [ev11, hl3] at hc1
  refine hc1.mono ?_
  rintro e wd ⟨rfl, nd⟩
  have kd := kc.trans (nd.mono kc.size)
  clear hc1 nd kb kc
  go_wp2_with fail
  refine (lit_c [91, 97, 93] _).mono ?_
  rintro e we ⟨ve, rfl, oe, ne⟩
  have ke := kd.trans (ne.mono kd.size)
  have me := m2.trans (ke.mono m2.size)
  clear ne kd
  have hs5 := specR_c oe (by simp) (by simp [charsOf, runCh]) (by simp) (HE.out _ me) ok5
  rw [ev5, show ([⟨4, [], false, [(97, 97)]⟩] : List It).any spec = true from rfl] at hs5
  go_wp2_with fail
  refine hs5.mono ?_
  rintro e wf ⟨rfl, nf⟩
  have kf := ke.trans (nf.mono ke.size)
  clear hs5 nf ke me oe
  go_wp2_with fail
  refine (lit_c [91, 97] _).mono ?_
  rintro e wg ⟨vg, rfl, og, ng⟩
  have kg := kf.trans (ng.mono kf.size)
  have mg := m2.trans (kg.mono m2.size)
  clear ng kf
  have hs5 := specR_c og (by simp) (by simp [charsOf, runCh]) (by simp) (HE.out _ mg) ok6
  rw [ev6, show ([⟨1, [91], false, []⟩, ⟨1, [97], false, []⟩] : List It).any spec = false from rfl] at hs5
  go_wp2_with fail
  refine hs5.mono ?_
  rintro e wh ⟨rfl, nh⟩
  have kh := kg.trans (nh.mono kg.size)
  clear hs5 nh kg mg og
  go_wp2_with fail
  have hru := runs_c (some ⟨bp, op, none⟩) pA c2 wh (patAt_mono (patAt_below P2.out kh (Nat.le_refl _)) kh.size) okA (by decide)
  rw [hl3] at hru
  refine hru.mono ?_
  rintro e wi ⟨vi, rfl, oi, ni⟩
  have ki := kh.trans (ni.mono kh.size)
  have mi := m2.trans (ki.mono m2.size)
  obtain ⟨Ai, ci, rfl, _, _, _⟩ := ownR_at oi
  rw [show (runsL pA).length = 8 from by kernel_rfl]
  clear hru ni kh oi ki
  go_wp2_with fail
  go_ret
  exact ⟨rfl, mi⟩
end Go.Proofs.YteppndkhmbhnkaaDoor
