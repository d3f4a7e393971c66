/- alias: AliasList: the walk. -/
import Derived.Test.YticehbhedoploaaGreatDoorAlWv
import Derived.Test.YticehbhedoploaaGreatDoorAlLm
namespace Go.Proofs.YticehbhedoploaaGreatDoor
open Go.RowKit
set_option linter.unusedVariables false

/-- What is known when Set gave no error. -/
theorem setR_zero {l : List Al} {s v : ByteArray} (h : (setR l s v).2 = 0) : valL l = 0 ∧ nameB s = true ∧ v.size ≤ 4096 ∧ (withoutL l s).length < 64 ∧ (setR l s v).1 = setL l s v := by
  unfold setR at h ⊢
  split at h
  · rename_i h0
    rw [if_pos h0]
    split at h
    · simp at h
    rename_i h1
    split at h
    · simp at h
    rename_i h2
    split at h
    · simp at h
    rename_i h3
    rw [if_neg h1, if_neg h2, if_neg h3]
    exact ⟨h0, by simpa using h1, by omega, by omega, rfl⟩
  · rename_i h0
    exact absurd h h0
set_option maxHeartbeats 4000000 in
set_option maxRecDepth 100000 in
theorem list_walk (A : Option Addr) (c : Nat) (l : List Al) (s v : ByteArray) (W : World) (hA : AlAt W W.heap.size A l) (hn : A = none → l = [] ∧ c = 0) (hz : ∀ x ∈ l, x.n.size ≤ 140737488355328 ∧ x.v.size ≤ 140737488355328) :
    Calls Tryz.prog 9 #[.slice A l.length c, .string s, .string v] W fun e w' => e = .returned (.bool true) ∧ Below W.heap.size W w' := by
  have HF := Lib.hid (few_c A l c W hA hz)
  have HA := Lib.hid (fun (V : World) (hb : Below W.heap.size W V) => alAt_mono (alAt_below hA hb (Nat.le_refl _)) hb.size)
  have HA0 := Lib.hid hA
  have HK := Lib.hid awake_c
  have HN := Lib.hid hn
  clear hA hz hn
  by_cases hgo : ¬ (fewB l = true ∧ s.size ≤ 5000 ∧ v.size ≤ 5000)
  · rcases hf : fewB l with _ | _
    · rw [hf] at HF
      clear hf hgo
      go_enter Tryz.func9, Tryz.ntmps9
      go_wp2_with fail
      refine HF.out.mono ?_
      rintro e w1 ⟨rfl, hb1⟩
      go_wp2_with fail
      refine (HK.out w1).mono ?_
      rintro e w2 ⟨rfl, hb2⟩
      have hb3 := hb1.trans (hb2.mono hb1.size)
      go_wp2_with fail
      go_ret
      exact ⟨rfl, hb3⟩
    · rw [hf] at HF
      by_cases hs5 : s.size ≤ 5000
      · have hv5 : 5000 < v.size := by
          rcases Nat.lt_or_ge 5000 v.size with h | h
          · exact h
          · exact absurd ⟨hf, hs5, h⟩ hgo
        have d1 : decide ((5000 : Int) < (s.size : Int)) = false := decide_eq_false (by omega)
        have d2 : decide ((5000 : Int) < (v.size : Int)) = true := decide_eq_true (by omega)
        clear hf hgo
        go_enter Tryz.func9, Tryz.ntmps9
        go_wp2_with fail
        refine HF.out.mono ?_
        rintro e w1 ⟨rfl, hb1⟩
        go_wp2_with fail
        refine (HK.out w1).mono ?_
        rintro e w2 ⟨rfl, hb2⟩
        have hb3 := hb1.trans (hb2.mono hb1.size)
        go_wp2_with fail
        go_ret
        exact ⟨rfl, hb3⟩
      · have d1 : decide ((5000 : Int) < (s.size : Int)) = true := decide_eq_true (by omega)
        clear hf hgo
        go_enter Tryz.func9, Tryz.ntmps9
        go_wp2_with fail
        refine HF.out.mono ?_
        rintro e w1 ⟨rfl, hb1⟩
        go_wp2_with fail
        refine (HK.out w1).mono ?_
        rintro e w2 ⟨rfl, hb2⟩
        have hb3 := hb1.trans (hb2.mono hb1.size)
        go_wp2_with fail
        go_ret
        exact ⟨rfl, hb3⟩
  have hgo := Decidable.not_not.1 hgo
  obtain ⟨hf, hs5, hv5⟩ := hgo
  obtain ⟨h70, hsm⟩ := few_small hf
  rw [hf] at HF
  have HS := Lib.hid (fun (V : World) (hb : Below W.heap.size W V) => Set_c A l c s v V (HA.out V hb) HN.out (by omega))
  have d1 : decide ((5000 : Int) < (s.size : Int)) = false := decide_eq_false (by omega)
  have d2 : decide ((5000 : Int) < (v.size : Int)) = false := decide_eq_false (by omega)
  have hll : l.length ≤ 70 := h70
  clear hf hsm hs5 hv5
  by_cases h0 : (setR l s v).2 = 0
  · obtain ⟨z1, z2, z3, z4, z5⟩ := setR_zero h0
    obtain ⟨y1, y2, y3⟩ := valL_zero.1 z1
    have Hget := Lib.hid (set_get (s := s) (v := v) y3)
    have Hval := Lib.hid (set_valid z1 z2 z3 z4)
    have Hoth := Lib.hid (fun (x : Al) (hx : x ∈ l) (hn : x.n ≠ s) => set_other (v := v) y3 hx hn)
    have hun : unsetR (setL l s v) s = (withoutL l s, 0) := by
      unfold unsetR
      rw [if_pos Hval.out, if_pos (set_has y3), (set_without y3).1]
    have hlen := (set_without (s := s) (v := v) y3).2
    obtain ⟨wv, wg⟩ := without_valid (s := s) z1
    have hR : setR l s v = (setL l s v, 0) := by
      rw [← z5, ← h0]
    have HS0 : Hid (∀ V : World, Below W.heap.size W V → Calls Tryz.prog 19 #[.slice A l.length c, .string s, .string v] V fun e w' => ∃ A' c', e = .returned (.tuple #[.slice A' (setL l s v).length c', .int .i64 0]) ∧ AlAt w' w'.heap.size A' (setL l s v) ∧ (A' = none → setL l s v = [] ∧ c' = 0) ∧ Below V.heap.size V w') := Lib.hid (fun V hb => by
      have := HS.out V hb
      rw [hR] at this
      exact this)
    obtain ⟨m, hm⟩ : ∃ m, m = setL l s v := ⟨_, rfl⟩
    rw [← hm] at Hget Hval Hoth hun hlen HS0
    obtain ⟨r, hr⟩ : ∃ r, r = withoutL l s := ⟨_, rfl⟩
    rw [← hr] at hun hlen wv wg
    have hm65 : m.length ≤ 64 := by rw [hr] at hlen; omega
    have HGm := Lib.hid (fun (A' : Option Addr) (c' : Nat) (V : World) (hA' : AlAt V V.heap.size A' m) (t : ByteArray) => Get_c A' m c' t V hA' (by omega))
    have HVm : Hid (∀ (A' : Option Addr) (c' : Nat) (V : World) (hA' : AlAt V V.heap.size A' m), Calls Tryz.prog 17 #[.slice A' m.length c'] V fun e w' => e = .returned (.int .i64 0) ∧ Below V.heap.size V w') := Lib.hid (fun A' c' V hA' => by
      have := Valid_c A' m c' V hA' (by omega)
      rw [Hval.out] at this
      exact this)
    have HUm : Hid (∀ (A' : Option Addr) (c' : Nat) (V : World), AlAt V V.heap.size A' m → (A' = none → m = [] ∧ c' = 0) → Calls Tryz.prog 22 #[.slice A' m.length c', .string s] V fun e w' => ∃ A2 c2, e = .returned (.tuple #[.slice A2 r.length c2, .int .i64 0]) ∧ AlAt w' w'.heap.size A2 r ∧ Below V.heap.size V w') := Lib.hid (fun A' c' V hA' hn' => by
      have := Unset_c A' m c' s V hA' hn' (by omega)
      rw [hun] at this
      refine this.mono ?_
      rintro e w' ⟨A2, c2, rfl, q1, _, q2⟩
      exact ⟨A2, c2, rfl, q1, q2⟩)
    have HGr : Hid (∀ (A' : Option Addr) (c' : Nat) (V : World), AlAt V V.heap.size A' r → Calls Tryz.prog 24 #[.slice A' r.length c', .string s] V fun e w' => e = .returned (.tuple #[.string ⟨#[]⟩, .bool false]) ∧ Below V.heap.size V w') := Lib.hid (fun A' c' V hA' => by
      have := Get_c A' r c' s V hA' (by omega)
      rw [wg] at this
      exact this)
    have HVr : Hid (∀ (A' : Option Addr) (c' : Nat) (V : World), AlAt V V.heap.size A' r → Calls Tryz.prog 17 #[.slice A' r.length c'] V fun e w' => e = .returned (.int .i64 0) ∧ Below V.heap.size V w') := Lib.hid (fun A' c' V hA' => by
      have := Valid_c A' r c' V hA' (by omega)
      rw [wv] at this
      exact this)
    have wr : IntKind.i64.wrap ((m.length : Int) - 1) = (r.length : Int) := by rw [IntKind.wrap_i64]; omega
    have Hml := Lib.hid hm65
    clear z1 z2 z3 z4 z5 y1 y2 y3 hun hlen wv wg hR hm hr Hval HS h0 hm65
    go_enter Tryz.func9, Tryz.ntmps9
    go_wp2_with fail
    refine HF.out.mono ?_
    rintro e w1 ⟨rfl, hb1⟩
    go_wp2_with fail
    refine (HS0.out w1 hb1).mono ?_
    rintro e w2 ⟨A2, c2, rfl, hA2, hn2, hb2⟩
    have hb3 := hb1.trans (hb2.mono hb1.size)
    have HA2 := Lib.hid (fun (V : World) (hb : Below w2.heap.size w2 V) => alAt_mono (alAt_below hA2 hb (Nat.le_refl _)) hb.size)
    have Hg0 : Hid (Calls Tryz.prog 24 #[.slice A2 m.length c2, .string s] w2 fun e w' => e = .returned (.tuple #[.string v, .bool true]) ∧ Below w2.heap.size w2 w') := Lib.hid (by
      have := HGm.out A2 c2 w2 hA2 s
      rw [Hget.out] at this
      exact this)
    clear hA2
    go_wp2_with fail
    refine Hg0.out.mono ?_
    rintro e w4 ⟨rfl, hb4⟩
    have hb5 := hb3.trans (hb4.mono hb3.size)
    have e1 : (v.toList != v.toList) = false := by simp
    have e2 : (v.toList == v.toList) = true := by simp
    go_wp2_with fail
    refine (HVm.out A2 c2 w4 (HA2.out w4 hb4)).mono ?_
    rintro e w6 ⟨rfl, hb6⟩
    have hb46 := hb4.trans (hb6.mono hb4.size)
    have hb7 := hb3.trans (hb46.mono hb3.size)
    go_wp2_with fail
    go_loopw [11] (fun iv wr => ∃ k : Nat, k ≤ l.length ∧ iv = .int .i64 k ∧ Below w2.heap.size w2 wr) (fun iv _ => l.length - (intOf iv).toNat)
    case atStart => exact ⟨0, by omega, by go_num, hb46⟩
    case round =>
      obtain ⟨k, hk, rfl, hbr⟩ := hrel
      have hbW := hb3.trans (hbr.mono hb3.size)
      by_cases hlt : k < l.length
      · have i1 : (k : Int) < (l.length : Int) := by omega
        obtain ⟨b, off, rfl, hbl, q0, q1⟩ := alAt_cells (alAt_below HA0.out hbW (Nat.le_refl _)) hlt
        have hGx := HGm.out A2 c2 wr (HA2.out wr hbr) (l[k]).n
        have hox := Hoth.out (l[k]) (List.getElem_mem hlt)
        have hbl2 : b < W.heap.size := hbl
        generalize l[k] = x at *
        have HGx := Lib.hid hGx
        have Hox := Lib.hid hox
        clear hGx hox
        by_cases hxs : x.n = s
        · have t1 : (x.n.toList == s.toList) = true := by rw [hxs]; simp
          have t2 : (x.n.toList != s.toList) = false := by rw [hxs]; simp
          clear hxs
          go_wp2_with fail
          refine HGx.out.mono ?_
          rintro e w8 ⟨rfl, hb8⟩
          have hbr8 := hbr.trans (hb8.mono hbr.size)
          have hW8 := hb3.trans (hbr8.mono hb3.size)
          have p0 := (hb8.cell (p := ⟨b, off + k * 2, none⟩) (by show b < _; have := hbW.size; omega)).trans q0
          have p1 := (hb8.cell (p := ⟨b, off + k * 2 + 1, none⟩) (by show b < _; have := hbW.size; omega)).trans q1
          go_wp2_with fail
          go_roundw
          case rel => exact ⟨k + 1, by omega, by go_num, hbr8⟩
          case measure => simp [intOf] <;> omega
        · have t1 : (x.n.toList == s.toList) = false := by
            rw [beq_eq_false_iff_ne]
            exact fun h => hxs (ba_ext h)
          have t2 : (x.n.toList != s.toList) = true := by
            rw [bne_iff_ne]
            exact fun h => hxs (ba_ext h)
          have HGy : Hid (Calls Tryz.prog 24 #[.slice A2 m.length c2, .string x.n] wr fun e w' => e = .returned (.tuple #[.string x.v, .bool true]) ∧ Below wr.heap.size wr w') := Lib.hid (by
            have := HGx.out
            rw [Hox.out hxs] at this
            exact this)
          have t3 : (x.v.toList == x.v.toList) = true := by simp
          have t4 : (x.v.toList != x.v.toList) = false := by simp
          clear hxs HGx Hox
          go_wp2_with fail
          refine HGy.out.mono ?_
          rintro e w8 ⟨rfl, hb8⟩
          have hbr8 := hbr.trans (hb8.mono hbr.size)
          have p0 := (hb8.cell (p := ⟨b, off + k * 2, none⟩) (by show b < _; have := hbW.size; omega)).trans q0
          have p1 := (hb8.cell (p := ⟨b, off + k * 2 + 1, none⟩) (by show b < _; have := hbW.size; omega)).trans q1
          go_wp2_with fail
          go_roundw
          case rel => exact ⟨k + 1, by omega, by go_num, hbr8⟩
          case measure => simp [intOf] <;> omega
      · have hkk : k = l.length := by omega
        subst hkk
        have te : ((r.length : Int) == (r.length : Int)) = true := by simp
        go_wp2_with fail
        refine (HUm.out A2 c2 wr (HA2.out wr hbr) hn2).mono ?_
        rintro e w8 ⟨A8, c8, rfl, hA8, hb8⟩
        have hW8 := hbW.trans (hb8.mono hbW.size)
        go_wp2_with fail
        refine (HGr.out A8 c8 w8 hA8).mono ?_
        rintro e w9 ⟨rfl, hb9⟩
        have hW9 := hW8.trans (hb9.mono hW8.size)
        have hA9 : AlAt w9 w9.heap.size A8 r := alAt_mono (alAt_below hA8 hb9 (Nat.le_refl _)) hb9.size
        clear hA8
        go_wp2_with fail
        refine (HVr.out A8 c8 w9 hA9).mono ?_
        rintro e w10 ⟨rfl, hb10⟩
        have hW10 := hW9.trans (hb10.mono hW9.size)
        clear hA9
        go_wp2_with fail
        refine (HK.out w10).mono ?_
        rintro e w11 ⟨rfl, hb11⟩
        have hW11 := hW10.trans (hb11.mono hW10.size)
        go_wp2_with fail
        go_ret
        exact ⟨rfl, hW11⟩
  · obtain ⟨E, hE⟩ : ∃ E : Int, E = (((setR l s v).2 : Nat) : Int) := ⟨_, rfl⟩
    have tE : (E != 0) = true := by rw [hE, bne_iff_ne]; omega
    have HSE : Hid (∀ V : World, Below W.heap.size W V → Calls Tryz.prog 19 #[.slice A l.length c, .string s, .string v] V fun e w' => ∃ A' n' c', e = .returned (.tuple #[.slice A' n' c', .int .i64 E]) ∧ Below V.heap.size V w') := Lib.hid (fun V hb => by
      refine (HS.out V hb).mono ?_
      rintro e w' ⟨A', c', rfl, _, _, q⟩
      exact ⟨A', _, c', by rw [hE], q⟩)
    clear HS h0 hE
    go_enter Tryz.func9, Tryz.ntmps9
    go_wp2_with fail
    refine HF.out.mono ?_
    rintro e w1 ⟨rfl, hb1⟩
    go_wp2_with fail
    refine (HSE.out w1 hb1).mono ?_
    rintro e w2 ⟨A2, n2, c2, rfl, hb2⟩
    have hb3 := hb1.trans (hb2.mono hb1.size)
    go_wp2_with fail
    refine (HK.out w2).mono ?_
    rintro e w4 ⟨rfl, hb4⟩
    have hb5 := hb3.trans (hb4.mono hb3.size)
    go_wp2_with fail
    go_ret
    exact ⟨rfl, hb5⟩
end Go.Proofs.YticehbhedoploaaGreatDoor
