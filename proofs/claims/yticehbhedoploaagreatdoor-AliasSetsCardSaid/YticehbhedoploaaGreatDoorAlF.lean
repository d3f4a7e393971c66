/- alias: find. -/
import Derived.Test.YticehbhedoploaaGreatDoorAlV
import Derived.BigCall
import Derived.WalkLawsBesides
namespace Go.Proofs.YticehbhedoploaaGreatDoor
open Go.RowKit
set_option linter.unusedVariables false

def cmpI (a b : ByteArray) : Int := if ltB a b = true then -1 else if a = b then 0 else 1
theorem beq_self (a : ByteArray) : (a.toList == a.toList) = true := by simp
theorem bne_self (a : ByteArray) : (a.toList != a.toList) = false := by simp
set_option maxHeartbeats 1000000 in
set_option maxRecDepth 100000 in
theorem isNaN_c (a : ByteArray) (w : World) : Calls Tryz.prog 106 #[.string a] w fun e w' => e = .returned (.bool false) ∧ w = w' := by
  have t1 := beq_self a
  have t2 := bne_self a
  go_enter Tryz.func106, Tryz.ntmps106
  go_wp2_with fail
  go_ret
  exact ⟨rfl, rfl⟩
set_option maxHeartbeats 1000000 in
set_option maxRecDepth 100000 in
theorem Compare_c (a b : ByteArray) (w : World) : Calls Tryz.prog 69 #[.string a, .string b] w fun e w' => e = .returned (.int .i64 (cmpI a b)) ∧ w = w' := by
  unfold cmpI
  by_cases h1 : ltB a b = true
  · rw [if_pos h1]
    have b1 : Op.bytesLess a.toList b.toList = true := h1
    clear h1
    go_enter Tryz.func69, Tryz.ntmps69
    go_wp2_with (go_at_call 106; refine (isNaN_c _ _).mono ?_; rintro e w' ⟨rfl, rfl⟩)
    go_ret
    exact ⟨rfl, rfl⟩
  rw [if_neg h1]
  have b1 : Op.bytesLess a.toList b.toList = false := by
    have h : ltB a b = false := by simpa using h1
    exact h
  by_cases h2 : a = b
  · rw [if_pos h2]
    have b2 : (a.toList == b.toList) = true := by rw [h2]; simp
    clear h1 h2
    go_enter Tryz.func69, Tryz.ntmps69
    go_wp2_with (go_at_call 106; refine (isNaN_c _ _).mono ?_; rintro e w' ⟨rfl, rfl⟩)
    go_ret
    exact ⟨rfl, rfl⟩
  · rw [if_neg h2]
    have b2 : (a.toList == b.toList) = false := by
      rw [beq_eq_false_iff_ne]
      exact fun h => h2 (ba_ext h)
    clear h1 h2
    go_enter Tryz.func69, Tryz.ntmps69
    go_wp2_with (go_at_call 106; refine (isNaN_c _ _).mono ?_; rintro e w' ⟨rfl, rfl⟩)
    go_ret
    exact ⟨rfl, rfl⟩
set_option maxHeartbeats 1000000 in
set_option maxRecDepth 100000 in
theorem cmpFn_c (n v s : ByteArray) (w : World) : Calls Tryz.prog 68 #[.agg #[.string n, .string v], .string s] w fun e w' => e = .returned (.int .i64 (cmpI n s)) ∧ Below w.heap.size w w' := by
  have HC := Lib.hid (fun W => Compare_c n s W)
  generalize cmpI n s = R at *
  have hb := (Below.refl _ w).alloc (Nat.le_refl _) (.cells #[.string n, .string v] 47)
  go_enter Tryz.func68, Tryz.ntmps68
  go_wp2_with fail
  refine (HC.out _).mono ?_
  rintro e w1 ⟨rfl, rfl⟩
  go_wp2_with fail
  go_ret
  exact ⟨rfl, hb⟩
/-- The place p parts the names below s from the others. -/
def PlaceOk (l : List Al) (s : ByteArray) (p : Nat) : Prop := p ≤ l.length ∧ (∀ k (h : k < l.length), k < p → ltB (l[k]'h).n s = true) ∧ ∀ k (h : k < l.length), p ≤ k → ltB (l[k]'h).n s = false
theorem asc_get {l : List Al} (h : Asc l) {i j : Nat} (hi : i < j) (hj : j < l.length) : ltB (l[i]'(by omega)).n (l[j]'hj).n = true := List.pairwise_iff_getElem.1 h i j (by omega) hj hi
theorem has_at {l : List Al} {s : ByteArray} {p : Nat} (ha : Asc l) (hp : PlaceOk l s p) : hasL l s = true ↔ ∃ h : p < l.length, (l[p]'h).n = s := by
  obtain ⟨h1, h2, h3⟩ := hp
  unfold hasL
  rw [List.any_eq_true]
  constructor
  · rintro ⟨x, hx, he⟩
    obtain ⟨k, hk, rfl⟩ := List.getElem_of_mem hx
    have he := of_decide_eq_true he
    have hpk : p ≤ k := by
      rcases Nat.lt_or_ge k p with h | h
      · exact absurd he (ltB_ne (h2 k hk h))
      · exact h
    rcases Nat.lt_or_ge p k with h | h
    · have q := asc_get ha h hk
      rw [he, h3 p (by omega) (Nat.le_refl _)] at q
      exact absurd q (by decide)
    · obtain rfl : p = k := by omega
      exact ⟨hk, he⟩
  · rintro ⟨h, he⟩
    exact ⟨_, List.getElem_mem h, decide_eq_true he⟩
set_option maxHeartbeats 2000000 in
set_option maxRecDepth 100000 in
theorem search_c (A : Option Addr) (l : List Al) (c : Nat) (s : ByteArray) (w : World) (hA : AlAt w w.heap.size A l) (hl : l.length ≤ 1000000) (ha : Asc l) :
    Calls Tryz.prog 67 #[.slice A l.length c, .string s, .func (.func 68) #[] #[]] w fun e w' => ∃ p : Nat, e = .returned (.tuple #[.int .i64 p, .bool (hasL l s)]) ∧ PlaceOk l s p ∧ Below w.heap.size w w' := by
  have HF : Hid (∀ (W : World) (x : Al), Calls Tryz.prog 68 #[.agg #[.string x.n, .string x.v], .string s] W fun e w' => e = .returned (.int .i64 (cmpI x.n s)) ∧ Below W.heap.size W w') := Lib.hid (fun W x => cmpFn_c _ _ s W)
  have Ha := Lib.hid ha
  obtain ⟨F, HFF⟩ : ∃ F, Hid (F = hasL l s) := ⟨_, Lib.hid rfl⟩
  rw [← HFF.out]
  clear ha
  go_enter Tryz.func67, Tryz.ntmps67
  go_wp2_with fail
  go_loopw [9, 10] (fun s9 s10 wr => ∃ lo hi : Nat, s9 = .int .i64 lo ∧ s10 = .int .i64 hi ∧ lo ≤ hi ∧ hi ≤ l.length ∧ Below w.heap.size w wr ∧ Hid ((∀ k (h : k < l.length), k < lo → ltB (l[k]'h).n s = true) ∧ ∀ k (h : k < l.length), hi ≤ k → ltB (l[k]'h).n s = false)) (fun s9 s10 _ => (intOf s10).toNat - (intOf s9).toNat)
  case atStart => exact ⟨0, l.length, by go_num, rfl, by omega, by omega, Below.refl _ _, Lib.hid ⟨fun k h hk => by omega, fun k h hk => by omega⟩⟩
  case round =>
    obtain ⟨lo, hi, rfl, rfl, hlh, hin, hb, hI⟩ := hrel
    have hwr := hb.size
    by_cases hlt : lo < hi
    · have hmid : (lo + hi) / 2 < l.length := by omega
      obtain ⟨b, off, rfl, hbl, c0, c1⟩ := alAt_cells (alAt_below hA hb (Nat.le_refl _)) hmid
      have hup : ltB (l[(lo + hi) / 2]).n s = true → Hid ((∀ k (h : k < l.length), k < (lo + hi) / 2 + 1 → ltB (l[k]'h).n s = true) ∧ ∀ k (h : k < l.length), hi ≤ k → ltB (l[k]'h).n s = false) := fun hy => Lib.hid ⟨fun k h hk => by
        rcases Nat.lt_or_ge k ((lo + hi) / 2) with h' | h'
        · exact ltB_trans (asc_get Ha.out h' hmid) hy
        · obtain rfl : k = (lo + hi) / 2 := by omega
          exact hy, hI.out.2⟩
      have hdn : ltB (l[(lo + hi) / 2]).n s = false → Hid ((∀ k (h : k < l.length), k < lo → ltB (l[k]'h).n s = true) ∧ ∀ k (h : k < l.length), (lo + hi) / 2 ≤ k → ltB (l[k]'h).n s = false) := fun hy => Lib.hid ⟨hI.out.1, fun k h hk => by
        rcases Nat.lt_or_ge ((lo + hi) / 2) k with h' | h'
        · rcases e : ltB (l[k]).n s with _ | _
          · rfl
          · have := ltB_trans (asc_get Ha.out h' h) e
            rw [hy] at this
            exact absurd this (by decide)
        · obtain rfl : (lo + hi) / 2 = k := by omega
          exact hy⟩
      have hc := HF.out
      generalize l[(lo + hi) / 2] = x at *
      have Hup := Lib.hid hup; have Hdn := Lib.hid hdn
      clear hup hdn hA
      by_cases hyx : ltB x.n s = true
      · have hN := Hup.out hyx
        have hci : cmpI x.n s = -1 := by unfold cmpI; exact if_pos hyx
        go_wp2_with fail
        refine (hc _ x).mono ?_
        rintro e w7 ⟨rfl, hb7⟩
        rw [hci]
        go_wp2_with fail
        have hb8 := hb.trans (hb7.mono hwr)
        go_roundw
        case rel => exact ⟨(lo + hi) / 2 + 1, hi, by go_num, rfl, by omega, hin, hb8, hN⟩
        case measure => simp [intOf]; omega
      · have hN := Hdn.out (by simpa using hyx)
        obtain ⟨R, hR, hR0⟩ : ∃ R : Int, cmpI x.n s = R ∧ decide (R < 0) = false := by
          refine ⟨_, rfl, decide_eq_false ?_⟩
          unfold cmpI
          rw [if_neg hyx]
          split <;> decide
        go_wp2_with fail
        refine (hc _ x).mono ?_
        rintro e w7 ⟨rfl, hb7⟩
        rw [hR]
        go_wp2_with fail
        have hb8 := hb.trans (hb7.mono hwr)
        go_roundw
        case rel => exact ⟨lo, (lo + hi) / 2, rfl, by go_num, by omega, by omega, hb8, hN⟩
        case measure => simp [intOf]; omega
    · obtain rfl : lo = hi := by omega
      have hP : PlaceOk l s lo := ⟨hin, hI.out.1, hI.out.2⟩
      have hhas := has_at Ha.out hP
      have HP := Lib.hid hP
      clear hP hI
      by_cases hn : lo < l.length
      · obtain ⟨b, off, rfl, hbl, c0, c1⟩ := alAt_cells (alAt_below hA hb (Nat.le_refl _)) hn
        have d1 : decide ((lo : Int) < (l.length : Int)) = true := decide_eq_true (by omega)
        have hle := HP.out.2.2 lo hn (Nat.le_refl _)
        by_cases he : (l[lo]).n = s
        · have hh : hasL l s = true := hhas.2 ⟨hn, he⟩
          have hF := HFF.out.trans hh
          subst hF
          have hc := HF.out
          have hci : cmpI (l[lo]).n s = 0 := by unfold cmpI; rw [if_neg (by rw [hle]; decide), if_pos he]
          clear hhas hh
          generalize l[lo] = x at *
          clear hle he hA
          go_wp2_with fail
          refine (hc _ x).mono ?_
          rintro e w7 ⟨rfl, hb7⟩
          rw [hci]
          go_wp2_with fail
          go_ret2
          exact ⟨lo, rfl, HP.out, hb.trans (hb7.mono hwr)⟩
        · have hh : hasL l s = false := by
            rw [← Bool.not_eq_true]
            exact fun h => he (hhas.1 h).2
          have hF := HFF.out.trans hh
          subst hF
          have hc := HF.out
          have hci : cmpI (l[lo]).n s = 1 := by unfold cmpI; rw [if_neg (by rw [hle]; decide), if_neg he]
          clear hhas hh
          generalize l[lo] = x at *
          clear hle he hA
          go_wp2_with fail
          refine (hc _ x).mono ?_
          rintro e w7 ⟨rfl, hb7⟩
          rw [hci]
          go_wp2_with fail
          go_ret2
          exact ⟨lo, rfl, HP.out, hb.trans (hb7.mono hwr)⟩
      · have hh : hasL l s = false := by
          rw [← Bool.not_eq_true]
          exact fun h => hn (hhas.1 h).1
        have hF := HFF.out.trans hh
        subst hF
        have d1 : decide ((lo : Int) < (l.length : Int)) = false := decide_eq_false (by omega)
        clear hhas hh
        go_wp2_with fail
        go_ret2
        exact ⟨lo, rfl, HP.out, hb⟩
set_option maxHeartbeats 1000000 in
set_option maxRecDepth 100000 in
theorem find_c (A : Option Addr) (l : List Al) (c : Nat) (s : ByteArray) (w : World) (hA : AlAt w w.heap.size A l) (hl : l.length ≤ 1000000) (ha : Asc l) :
    Calls Tryz.prog 41 #[.slice A l.length c, .string s] w fun e w' => ∃ p : Nat, e = .returned (.tuple #[.int .i64 p, .bool (hasL l s)]) ∧ PlaceOk l s p ∧ Below w.heap.size w w' := by
  have HS := Lib.hid (search_c A l c s w hA hl ha)
  clear hA ha
  go_enter Tryz.func41, Tryz.ntmps41
  go_wp2_with fail
  refine HS.out.mono ?_
  rintro e w7 ⟨p, rfl, hp, hb⟩
  go_wp2_with fail
  go_ret2
  exact ⟨p, rfl, hp, hb⟩
end Go.Proofs.YticehbhedoploaaGreatDoor
