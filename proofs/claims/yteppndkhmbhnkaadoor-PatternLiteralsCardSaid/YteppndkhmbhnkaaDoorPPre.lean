/- pattern: Prefix. -/
import Derived.Test.YteppndkhmbhnkaaDoorPVal
namespace Go.Proofs.YteppndkhmbhnkaaDoor
open Go.RowKit
set_option linter.unusedVariables false

structure PSt where
  pos : Nat
  nxt : Nat
  res : Int
  tak : Nat
  siz : Nat
  fnd : Bool
def stuckP (n : Nat) (q : PSt) : PSt × Bool :=
  if q.res < 0 ∨ q.tak = n then (q, true) else (⟨q.tak + 1, q.res.toNat, q.res, q.tak + 1, q.siz, q.fnd⟩, false)
def stepP (is : List It) (s : List UInt8) (lg : Bool) (q : PSt) : PSt × Bool :=
  match is.drop q.nxt with
  | x :: _ =>
    if x.k = 3 then (⟨q.pos, q.nxt + 1, (q.nxt + 1 : Nat), q.pos, q.siz, q.fnd⟩, false) else
    match s.drop q.pos with
    | c :: _ => if acc x c.toNat = true then (⟨q.pos + 1, q.nxt + 1, q.res, q.tak, q.siz, q.fnd⟩, false) else stuckP s.length q
    | [] => stuckP s.length q
  | [] => if lg = true then stuckP s.length ⟨q.pos, q.nxt, q.res, q.tak, q.pos, true⟩ else (⟨q.pos, q.nxt, q.res, q.tak, q.pos, true⟩, true)
def runP (is : List It) (s : List UInt8) (lg : Bool) : Nat → PSt → Nat × Bool
  | 0, _ => (0, false)
  | F + 1, q => match stepP is s lg q with
    | (q', true) => (q'.siz, q'.fnd)
    | (q', false) => runP is s lg F q'
def measP (m n : Nat) (res : Int) (tak nxt : Nat) : Nat := ((m : Int) - res).toNat * ((n + 1) * (m + 1)) + (n - tak) * (m + 1) + (m - nxt)
theorem measP_star {m n tak nxt pos : Nat} {res : Int} (h1 : res ≤ nxt) (h2 : nxt < m) : measP m n ((nxt + 1 : Nat) : Int) pos (nxt + 1) < measP m n res tak nxt := by
  unfold measP
  have e1 : ((m : Int) - ((nxt + 1 : Nat) : Int)).toNat = m - nxt - 1 := by omega
  have e2 : m - nxt - 1 + 1 ≤ ((m : Int) - res).toNat := by omega
  have e3 : (m - nxt - 1 + 1) * ((n + 1) * (m + 1)) ≤ ((m : Int) - res).toNat * ((n + 1) * (m + 1)) := Nat.mul_le_mul_right _ e2
  have e4 : (n - pos) * (m + 1) ≤ n * (m + 1) := Nat.mul_le_mul_right _ (by omega)
  have e5 : (n + 1) * (m + 1) = n * (m + 1) + (m + 1) := by rw [Nat.add_mul, Nat.one_mul]
  rw [Nat.add_mul, Nat.one_mul] at e3
  rw [e1]
  omega
theorem measP_acc {m n tak nxt : Nat} {res : Int} (h2 : nxt < m) : measP m n res tak (nxt + 1) < measP m n res tak nxt := by
  unfold measP; omega
theorem measP_back {m n tak nxt nx2 : Nat} {res : Int} (h : tak < n) : measP m n res (tak + 1) nx2 < measP m n res tak nxt := by
  unfold measP
  have e1 : n - tak = (n - (tak + 1)) + 1 := by omega
  have e2 : (n - tak) * (m + 1) = (n - (tak + 1)) * (m + 1) + (m + 1) := by rw [e1, Nat.add_mul, Nat.one_mul]
  omega
def preL (is : List It) (s : List UInt8) (lg : Bool) : Nat × Bool :=
  if is.any inv = true then (0, false) else runP is s lg (measP is.length s.length (-1) 0 0 + 1) ⟨0, 0, -1, 0, 0, false⟩
theorem inv_byte {x : It} (h : inv x = false) (h1 : x.k = 1) : x.t.length = 1 := by
  unfold inv at h
  rw [if_pos h1] at h
  simp at h
  exact h.1.1

set_option maxHeartbeats 16000000 in
set_option maxRecDepth 100000 in
theorem prefix_c (A : Option Addr) (is : List It) (c : Nat) (s : List UInt8) (lg : Bool) (w : World) (hp : PatAt w w.heap.size A is) (ho : ∀ x ∈ is, ItOk x) (hl : is.length ≤ 1000000) (hsl : s.length ≤ 1000000) :
    Calls Tryd.prog 25 #[.slice A is.length c, .string ⟨s.toArray⟩, .bool lg] w fun e w' => e = .returned (.tuple #[.int .i64 ((preL is s lg).1 : Nat), .bool (preL is s lg).2]) ∧ Below w.heap.size w w' := by
  have hval := Lib.hid (valid_c A is c w hp ho hl)
  have HP := Lib.hid hp
  have hsz : (⟨s.toArray⟩ : ByteArray).size = s.length := by show s.toArray.size = _; simp
  rcases hany : is.any inv with _ | _
  rotate_left
  · have hR : preL is s lg = (0, false) := by unfold preL; rw [if_pos hany]
    rw [hR]; rw [hany] at hval
    clear hp ho hany hR HP
    go_enter Tryd.func25, Tryd.ntmps25
    go_wp2_with fail
    go_step3
    go_wp2_with fail
    refine hval.out.mono ?_
    rintro e w7 ⟨rfl, m7⟩
    go_wp2_with fail
    try rw [Exit.noGoto_ret]
    exact bodyPost_ret (results_tmp2 rfl _ _ _) rfl ⟨rfl, m7⟩
  have HR : Hid (∃ F, preL is s lg = runP is s lg F ⟨0, 0, -1, 0, 0, false⟩ ∧ measP is.length s.length (-1) 0 0 < F) := Lib.hid ⟨_, by unfold preL; rw [if_neg (by rw [hany]; decide)], Nat.lt_succ_self _⟩
  rw [hany] at hval
  have Hinv : Hid (∀ x ∈ is, inv x = false) := Lib.hid (fun x hx => by
    rcases h : inv x with _ | _
    · rfl
    · exact absurd (List.any_eq_true.2 ⟨x, hx, h⟩) (by rw [hany]; decide))
  generalize preL is s lg = R at *
  clear hp hany
  go_enter Tryd.func25, Tryd.ntmps25
  go_wp2_with fail
  go_step3
  go_wp2_with fail
  refine hval.out.mono ?_
  rintro e w0 ⟨rfl, m0⟩
  clear hval
  go_wp2_with fail
  go_step3
  go_wp2_with fail
  go_loopw [8, 9, 10, 11, 12, 13] (fun sv fv av nv rv tv wr => ∃ (po nx : Nat) (res : Int) (tk sz : Nat) (fd : Bool), sv = .int .i64 sz ∧ fv = .bool fd ∧ av = .int .i64 po ∧ nv = .int .i64 nx ∧ rv = .int .i64 res ∧ tv = .int .i64 tk ∧ po ≤ s.length ∧ nx ≤ is.length ∧ res ≤ nx ∧ -1 ≤ res ∧ tk ≤ s.length ∧ sz ≤ s.length ∧ Below w.heap.size w wr ∧ Hid (∃ F, R = runP is s lg F ⟨po, nx, res, tk, sz, fd⟩ ∧ measP is.length s.length res tk nx < F)) (fun sv fv av nv rv tv _ => measP is.length s.length (intOf rv) (intOf tv).toNat (intOf nv).toNat)
  case atStart => exact ⟨0, 0, -1, 0, 0, false, rfl, rfl, rfl, rfl, rfl, rfl, by omega, by omega, by omega, by omega, by omega, by omega, m0, HR⟩
  case round =>
    obtain ⟨po, nx, res, tk, sz, fd, rfl, rfl, rfl, rfl, rfl, rfl, hpo, hnx, hres, hres1, htk, hsz1, hb, hF⟩ := hrel
    clear HR m0
    obtain ⟨F0, hx0, hF0⟩ := hF.out
    obtain ⟨F, rfl⟩ : ∃ F, F0 = F + 1 := ⟨F0 - 1, by omega⟩
    have hx1 : R = match stepP is s lg ⟨po, nx, res, tk, sz, fd⟩ with
      | (q', true) => (q'.siz, q'.fnd)
      | (q', false) => runP is s lg F q' := hx0
    have Hx1 := Lib.hid hx1
    have Hrel : Hid (res ≤ nx ∧ -1 ≤ res ∧ tk ≤ s.length ∧ measP is.length s.length res tk nx < F + 1) := Lib.hid ⟨hres, hres1, htk, hF0⟩
    have hwsz := hb.size
    clear hx0 hF0 hF hx1
    by_cases hlt : nx < is.length
    · have d1 : decide ((nx : Int) < (is.length : Int)) = true := decide_eq_true (by omega)
      have d1' : decide (nx < is.length) = true := decide_eq_true hlt
      have d2 : ((nx : Int) == (is.length : Int)) = false := by rw [beq_eq_false_iff_ne]; omega
      have d2' : (nx == is.length) = false := by rw [beq_eq_false_iff_ne]; omega
      obtain ⟨b, off, rfl, hbl, hcell⟩ : ∃ b off, A = some ⟨b, off, none⟩ ∧ b < w.heap.size ∧ ∀ k (h : k < is.length), ∃ sv, w.cell? ⟨b, off + k * 4, none⟩ = some (.int .i64 (is[k]'h).k) ∧ w.cell? ⟨b, off + k * 4 + 1, none⟩ = some (.string ⟨(is[k]'h).t.toArray⟩) ∧ w.cell? ⟨b, off + k * 4 + 2, none⟩ = some (.bool (is[k]'h).neg) ∧ w.cell? ⟨b, off + k * 4 + 3, none⟩ = some sv ∧ SpAt w w.heap.size sv (is[k]'h).set := by
        rcases HP.out with rfl | h
        · simp at hlt
        · exact h
      obtain ⟨sv, y0, y1, y2, y3, ys⟩ := hcell nx hlt
      have x0 := (hb.cell (p := ⟨b, off + nx * 4, none⟩) hbl).trans y0
      have hok := ho (is[nx]'hlt) (List.getElem_mem hlt)
      have hvb := fun h => inv_byte (Hinv.out (is[nx]'hlt) (List.getElem_mem hlt)) h
      have hdr := List.drop_eq_getElem_cons hlt
      have Hdr := Lib.hid hdr
      generalize is[nx]'hlt = q at *
      have hkI : (nx : Int) < (is.length : Int) := by omega
      have hba : ∀ o, Below w.heap.size w (wr.alloc o) := fun o => hb.alloc hwsz o
      have Hba := Lib.hid hba
      clear hcell hba hdr
      by_cases hk3 : q.k = 3
      · have k1 : (q.k == 3) = true := by rw [beq_iff_eq]; exact hk3
        have hR : Hid (∃ F', R = runP is s lg F' ⟨po, nx + 1, (nx + 1 : Nat), po, sz, fd⟩ ∧ measP is.length s.length (nx + 1 : Nat) po (nx + 1) < F') := Lib.hid (by
          refine ⟨F, ?_, ?_⟩
          · rw [Hx1.out]; unfold stepP; simp only [Hdr.out, hk3, if_true]
          · have := @measP_star is.length s.length tk nx po res Hrel.out.1 hlt; have := Hrel.out.2.2.2; omega)
        have Hm2 := Lib.hid (@measP_star is.length s.length tk nx po res Hrel.out.1 hlt)
        rw [hk3] at x0
        clear Hx1 Hrel Hdr y0 y1 y2 y3 ys hok hvb HP Hinv hk3
        go_wp2_with fail
        go_roundw
        case rel => exact ⟨po, nx + 1, (nx + 1 : Nat), po, sz, fd, by go_num, by rfl, by go_num, by go_num, by go_num, by go_num, by omega, by omega, by omega, by omega, by omega, by omega, by first | assumption | exact Hba.out _, hR⟩
        case measure => simp [intOf]; exact Hm2.out
      · have k1 : (q.k == 3) = false := by rw [beq_eq_false_iff_ne]; exact hk3
        by_cases hlp : po < s.length
        · have e1 : decide ((po : Int) < (s.length : Int)) = true := decide_eq_true (by omega)
          have e1' : decide (po < s.length) = true := decide_eq_true hlp
          have hds := List.drop_eq_getElem_cons hlp
          have hbx : ∀ h, (⟨s.toArray⟩ : ByteArray)[po]'h = s[po]'hlp := fun _ => rfl
          have x1 := (hb.cell (p := ⟨b, off + nx * 4 + 1, none⟩) hbl).trans y1
          have x2 := (hb.cell (p := ⟨b, off + nx * 4 + 2, none⟩) hbl).trans y2
          have x3 := (hb.cell (p := ⟨b, off + nx * 4 + 3, none⟩) hbl).trans y3
          have hcall : Hid (∀ W, Below w.heap.size w W → Calls Tryd.prog 60 #[.agg #[.int .i64 q.k, .string ⟨q.t.toArray⟩, .bool q.neg, sv], .int .u8 (s[po]'hlp).toNat] W fun e w' => e = .returned (.bool (acc q (s[po]'hlp).toNat)) ∧ w'.cell? ⟨b, off + nx * 4, none⟩ = some (.int .i64 q.k) ∧ w'.cell? ⟨b, off + nx * 4 + 1, none⟩ = some (.string ⟨q.t.toArray⟩) ∧ w'.cell? ⟨b, off + nx * 4 + 2, none⟩ = some (.bool q.neg) ∧ w'.cell? ⟨b, off + nx * 4 + 3, none⟩ = some sv ∧ Below w.heap.size w w') := by
            refine Lib.hid ?_
            intro W hW
            refine (accepts_c q sv _ W (spAt_mono (spAt_below ys hW (Nat.le_refl _)) hW.size) hok hvb (UInt8.toNat_lt _)).mono ?_
            rintro e w' ⟨rfl, hb⟩
            have hb9 := hW.trans (hb.mono hW.size)
            exact ⟨rfl, (hb9.cell (p := ⟨b, off + nx * 4, none⟩) hbl).trans y0, (hb9.cell (p := ⟨b, off + nx * 4 + 1, none⟩) hbl).trans y1, (hb9.cell (p := ⟨b, off + nx * 4 + 2, none⟩) hbl).trans y2, (hb9.cell (p := ⟨b, off + nx * 4 + 3, none⟩) hbl).trans y3, hb9⟩
          have Hds := Lib.hid hds
          have p1 : (0 : Int) ≤ (po : Int) ∧ (po : Int) < (s.length : Int) := by omega
          have p3 : (po : Int).toNat = po := by omega
          have Hx1' : Hid (R = match (if acc q (s[po]'hlp).toNat = true then ((⟨po + 1, nx + 1, res, tk, sz, fd⟩ : PSt), false) else stuckP s.length ⟨po, nx, res, tk, sz, fd⟩) with
            | (q', true) => (q'.siz, q'.fnd)
            | (q', false) => runP is s lg F q') := Lib.hid (by
              rw [Hx1.out]; unfold stepP; simp only [Hdr.out, hk3, if_false]
              rw [Hds.out])
          obtain ⟨qk, qt, qn, qs⟩ := q
          simp only at hcall x0 x1 x2 x3 k1
          generalize acc ⟨qk, qt, qn, qs⟩ (s[po]'hlp).toNat = ac at *
          clear Hx1 Hdr y0 y1 y2 y3 ys hok hvb HP Hinv hk3 hds Hds
          go_wp2_with fail
          go_region_held3 (fun w' => w'.cell? ⟨b, off + nx * 4, none⟩ = some (.int .i64 qk) ∧ w'.cell? ⟨b, off + nx * 4 + 1, none⟩ = some (.string ⟨qt.toArray⟩) ∧ w'.cell? ⟨b, off + nx * 4 + 2, none⟩ = some (.bool qn) ∧ w'.cell? ⟨b, off + nx * 4 + 3, none⟩ = some sv ∧ Below w.heap.size w w')
            (first | (exact ⟨by assumption, by assumption, by assumption, by assumption, by assumption⟩) | assumption | (exact ⟨x0, x1, x2, x3, hb.drew⟩))
            ((go_at_call 60; refine (hcall.out _ (by first | assumption | exact hb.drew)).mono ?_; rintro e w7 ⟨rfl, z0, z1, z2, z3, m7⟩))
          rcases ac with _ | _
          · have HX : Hid (R = match stuckP s.length ⟨po, nx, res, tk, sz, fd⟩ with
              | (q', true) => (q'.siz, q'.fnd)
              | (q', false) => runP is s lg F q') := Hx1'
            clear Hx1' hcall x0 x1 x2 x3 z0 z1 z2 z3
            by_cases hr : res < 0
            · have hR : R = (sz, fd) := by rw [HX.out]; unfold stuckP; rw [if_pos (Or.inl hr)]
              have r1 : decide (res < 0) = true := decide_eq_true hr
              subst hR
              clear HX Hrel
              go_wp2_with fail
              try rw [Exit.noGoto_ret]
              exact bodyPost_ret (results_tmp2 rfl _ _ _) rfl ⟨rfl, m7⟩
            · have r1 : decide (res < 0) = false := decide_eq_false hr
              by_cases ht : tk = s.length
              · have hR : R = (sz, fd) := by rw [HX.out]; unfold stuckP; rw [if_pos (Or.inr ht)]
                have r2 : ((tk : Int) == (s.length : Int)) = true := by rw [beq_iff_eq]; omega
                have r2' : (tk == s.length) = true := by rw [beq_iff_eq]; omega
                subst hR
                clear HX Hrel ht
                go_wp2_with fail
                try rw [Exit.noGoto_ret]
                exact bodyPost_ret (results_tmp2 rfl _ _ _) rfl ⟨rfl, m7⟩
              · have r2 : ((tk : Int) == (s.length : Int)) = false := by rw [beq_eq_false_iff_ne]; omega
                have r2' : (tk == s.length) = false := by rw [beq_eq_false_iff_ne]; omega
                obtain ⟨rn, rfl⟩ : ∃ rn : Nat, res = rn := ⟨res.toNat, by omega⟩
                have hR : Hid (∃ F', R = runP is s lg F' ⟨tk + 1, rn, rn, tk + 1, sz, fd⟩ ∧ measP is.length s.length rn (tk + 1) rn < F') := Lib.hid (by
                  refine ⟨F, ?_, ?_⟩
                  · rw [HX.out]; unfold stuckP; rw [if_neg (by simp only; omega)]; rfl
                  · have := @measP_back is.length s.length tk nx rn rn (by omega); have := Hrel.out.2.2.2; omega)
                have hm2 := @measP_back is.length s.length tk nx rn rn (by omega)
                have Hm2 := Lib.hid hm2
                have hq : Hid ((rn : Int) ≤ (rn : Int)) := Lib.hid (by omega)
                have Hrel2 := Hrel.out
                obtain ⟨q1, q2, q3, _⟩ := Hrel2
                clear HX Hrel hm2
                go_wp2_with fail
                go_roundw
                case rel => exact ⟨tk + 1, rn, rn, tk + 1, sz, fd, by go_num, by go_num, by go_num, by go_num, by go_num, by rfl, by omega, by omega, by omega, by omega, by omega, by omega, m7, hR⟩
                case measure => simp [intOf]; exact Hm2.out
          · have hR : Hid (∃ F', R = runP is s lg F' ⟨po + 1, nx + 1, res, tk, sz, fd⟩ ∧ measP is.length s.length res tk (nx + 1) < F') := Lib.hid (by
              refine ⟨F, Hx1'.out, ?_⟩
              have := @measP_acc is.length s.length tk nx res hlt; have := Hrel.out.2.2.2; omega)
            have Hm2 := Lib.hid (@measP_acc is.length s.length tk nx res hlt)
            clear Hx1' hcall x0 x1 x2 x3 z0 z1 z2 z3
            go_wp2_with fail
            go_roundw
            case rel => exact ⟨po + 1, nx + 1, res, tk, sz, fd, by go_num, by rfl, by go_num, by go_num, by go_num, by go_num, by omega, by omega, by omega, by omega, by omega, by omega, m7, hR⟩
            case measure => simp [intOf]; exact Hm2.out
        · have e1 : decide ((po : Int) < (s.length : Int)) = false := decide_eq_false (by omega)
          have e1' : decide (po < s.length) = false := decide_eq_false hlp
          have HX : Hid (R = match stuckP s.length ⟨po, nx, res, tk, sz, fd⟩ with
            | (q', true) => (q'.siz, q'.fnd)
            | (q', false) => runP is s lg F q') := Lib.hid (by
              rw [Hx1.out]; unfold stepP; simp only [Hdr.out, hk3, if_false]
              rw [List.drop_eq_nil_of_le (by omega)])
          clear Hx1 Hdr y0 y1 y2 y3 ys hok hvb HP Hinv hk3
          go_wp2_with fail
          go_quiet (fail)
          by_cases hr : res < 0
          · have hR : R = (sz, fd) := by rw [HX.out]; unfold stuckP; rw [if_pos (Or.inl hr)]
            have r1 : decide (res < 0) = true := decide_eq_true hr
            subst hR
            clear HX Hrel
            go_wp2_with fail
            try rw [Exit.noGoto_ret]
            exact bodyPost_ret (results_tmp2 rfl _ _ _) rfl ⟨rfl, (by first | assumption | exact below_drewN hb _)⟩
          · have r1 : decide (res < 0) = false := decide_eq_false hr
            by_cases ht : tk = s.length
            · have hR : R = (sz, fd) := by rw [HX.out]; unfold stuckP; rw [if_pos (Or.inr ht)]
              have r2 : ((tk : Int) == (s.length : Int)) = true := by rw [beq_iff_eq]; omega
              have r2' : (tk == s.length) = true := by rw [beq_iff_eq]; omega
              subst hR
              clear HX Hrel ht
              go_wp2_with fail
              try rw [Exit.noGoto_ret]
              exact bodyPost_ret (results_tmp2 rfl _ _ _) rfl ⟨rfl, (by first | assumption | exact below_drewN hb _)⟩
            · have r2 : ((tk : Int) == (s.length : Int)) = false := by rw [beq_eq_false_iff_ne]; omega
              have r2' : (tk == s.length) = false := by rw [beq_eq_false_iff_ne]; omega
              obtain ⟨rn, rfl⟩ : ∃ rn : Nat, res = rn := ⟨res.toNat, by omega⟩
              have hR : Hid (∃ F', R = runP is s lg F' ⟨tk + 1, rn, rn, tk + 1, sz, fd⟩ ∧ measP is.length s.length rn (tk + 1) rn < F') := Lib.hid (by
                refine ⟨F, ?_, ?_⟩
                · rw [HX.out]; unfold stuckP; rw [if_neg (by simp only; omega)]; rfl
                · have := @measP_back is.length s.length tk nx rn rn (by omega); have := Hrel.out.2.2.2; omega)
              have hm2 := @measP_back is.length s.length tk nx rn rn (by omega)
              have Hm2 := Lib.hid hm2
              have hq : Hid ((rn : Int) ≤ (rn : Int)) := Lib.hid (by omega)
              have Hrel2 := Hrel.out
              obtain ⟨q1, q2, q3, _⟩ := Hrel2
              clear HX Hrel hm2
              go_wp2_with fail
              go_roundw
              case rel => exact ⟨tk + 1, rn, rn, tk + 1, sz, fd, by go_num, by go_num, by go_num, by go_num, by go_num, by rfl, by omega, by omega, by omega, by omega, by omega, by omega, (by first | assumption | exact below_drewN hb _), hR⟩
              case measure => simp [intOf]; exact Hm2.out
    · have hke : nx = is.length := by omega
      have d1 : decide ((nx : Int) < (is.length : Int)) = false := decide_eq_false (by omega)
      have d1' : decide (nx < is.length) = false := decide_eq_false hlt
      have d2 : ((nx : Int) == (is.length : Int)) = true := by rw [beq_iff_eq]; omega
      have d2' : (nx == is.length) = true := by rw [beq_iff_eq]; omega
      have HX0 : Hid (R = match (if lg = true then stuckP s.length ⟨po, nx, res, tk, po, true⟩ else ((⟨po, nx, res, tk, po, true⟩ : PSt), true)) with
        | (q', true) => (q'.siz, q'.fnd)
        | (q', false) => runP is s lg F q') := Lib.hid (by
          rw [Hx1.out]; unfold stepP; simp only [List.drop_eq_nil_of_le (show is.length ≤ nx by omega)])
      clear Hx1 HP Hinv hke
      go_wp2_with fail
      go_quiet (fail)
      rcases lg with _ | _
      · have hR : R = (po, true) := HX0.out
        subst hR
        clear HX0 Hrel
        go_wp2_with fail
        try rw [Exit.noGoto_ret]
        exact bodyPost_ret (results_tmp2 rfl _ _ _) rfl ⟨rfl, by first | assumption | exact below_drewN hb _⟩
      · have HX : Hid (R = match stuckP s.length ⟨po, nx, res, tk, po, true⟩ with
          | (q', true) => (q'.siz, q'.fnd)
          | (q', false) => runP is s true F q') := HX0
        clear HX0
        by_cases hr : res < 0
        · have hR : R = (po, true) := by rw [HX.out]; unfold stuckP; rw [if_pos (Or.inl hr)]
          have r1 : decide (res < 0) = true := decide_eq_true hr
          subst hR
          clear HX Hrel
          go_wp2_with fail
          try rw [Exit.noGoto_ret]
          exact bodyPost_ret (results_tmp2 rfl _ _ _) rfl ⟨rfl, (by first | assumption | exact below_drewN hb _)⟩
        · have r1 : decide (res < 0) = false := decide_eq_false hr
          by_cases ht : tk = s.length
          · have hR : R = (po, true) := by rw [HX.out]; unfold stuckP; rw [if_pos (Or.inr ht)]
            have r2 : ((tk : Int) == (s.length : Int)) = true := by rw [beq_iff_eq]; omega
            have r2' : (tk == s.length) = true := by rw [beq_iff_eq]; omega
            subst hR
            clear HX Hrel ht
            go_wp2_with fail
            try rw [Exit.noGoto_ret]
            exact bodyPost_ret (results_tmp2 rfl _ _ _) rfl ⟨rfl, (by first | assumption | exact below_drewN hb _)⟩
          · have r2 : ((tk : Int) == (s.length : Int)) = false := by rw [beq_eq_false_iff_ne]; omega
            have r2' : (tk == s.length) = false := by rw [beq_eq_false_iff_ne]; omega
            obtain ⟨rn, rfl⟩ : ∃ rn : Nat, res = rn := ⟨res.toNat, by omega⟩
            have hR : Hid (∃ F', R = runP is s true F' ⟨tk + 1, rn, rn, tk + 1, po, true⟩ ∧ measP is.length s.length rn (tk + 1) rn < F') := Lib.hid (by
              refine ⟨F, ?_, ?_⟩
              · rw [HX.out]; unfold stuckP; rw [if_neg (by simp only; omega)]; rfl
              · have := @measP_back is.length s.length tk nx rn rn (by omega); have := Hrel.out.2.2.2; omega)
            have hm2 := @measP_back is.length s.length tk nx rn rn (by omega)
            have Hm2 := Lib.hid hm2
            have hq : Hid ((rn : Int) ≤ (rn : Int)) := Lib.hid (by omega)
            have Hrel2 := Hrel.out
            obtain ⟨q1, q2, q3, _⟩ := Hrel2
            clear HX Hrel hm2
            go_wp2_with fail
            go_roundw
            case rel => exact ⟨tk + 1, rn, rn, tk + 1, po, true, by go_num, by go_num, by go_num, by go_num, by go_num, by rfl, by omega, by omega, by omega, by omega, by omega, by omega, (by first | assumption | exact below_drewN hb _), hR⟩
            case measure => simp [intOf]; exact Hm2.out
end Go.Proofs.YteppndkhmbhnkaaDoor
