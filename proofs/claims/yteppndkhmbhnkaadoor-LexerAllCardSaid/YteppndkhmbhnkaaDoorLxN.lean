/- lexer's reference: Next. -/
import Derived.Test.YteppndkhmbhnkaaDoorLxZ
namespace Go.Proofs.YteppndkhmbhnkaaDoor
open Go.RowKit
set_option linter.unusedVariables false

theorem skipF_stop {s : List UInt8} : ∀ (F p : Nat), s.length - p < F → skipF F s p < s.length → blankB (bt s (skipF F s p)) = false
  | 0, p, h, _ => by omega
  | F + 1, p, h, hr => by
    by_cases hl : s.length ≤ p
    · rw [skipF_ge hl] at hr; omega
    rw [skipF_lt (by omega)] at hr ⊢
    by_cases h1 : blankB (bt s p) = true
    · rw [if_pos h1] at hr ⊢
      exact skipF_stop F (p + 1) (by omega) hr
    rw [if_neg h1] at hr ⊢
    by_cases h2 : (bt s p == 35) = true
    · rw [if_pos h2] at hr ⊢
      exact skipF_stop F _ (by have := commL_gt (show p < s.length by omega) h2; omega) hr
    rw [if_neg h2] at hr ⊢
    by_cases h3 : joinB s p = true
    · rw [if_pos h3] at hr ⊢
      exact skipF_stop F (p + 2) (by omega) hr
    rw [if_neg h3] at hr ⊢
    simpa using h1
theorem skipL_stop {s : List UInt8} {a : Int} (h : skipL s a < s.length) : blankB (bt s (skipL s a)) = false :=
  skipF_stop _ _ (by have := clamp_le a s.length; omega) h
theorem opS_len {l : List UInt8} (h : opS l = true) : l.length ≤ 3 := by
  unfold opS opsL at h
  rw [List.contains_iff_mem] at h
  simp only [List.mem_cons, List.not_mem_nil, or_false] at h
  rcases h with rfl | rfl | rfl | rfl | rfl | rfl | rfl | rfl | rfl | rfl | rfl | rfl | rfl | rfl | rfl | rfl | rfl | rfl <;> decide
theorem opS_ten {x : UInt8} {l : List UInt8} : opS (10 :: x :: l) = false := by
  rw [← Bool.not_eq_true]
  intro h
  unfold opS opsL at h
  rw [List.contains_iff_mem] at h
  simp at h
theorem opB_one {q : UInt8} (h : opB q = true) : opS [q] = true := by
  unfold opB at h
  rw [List.contains_iff_mem] at h
  simp only [List.mem_cons, List.not_mem_nil, or_false] at h
  rcases h with rfl | rfl | rfl | rfl | rfl | rfl | rfl <;> rfl
theorem opsF_zero {l : List UInt8} : ∀ (m : Nat), opsF l m = 0 → ∀ j, 1 ≤ j → j ≤ m → opS (l.take j) = false
  | 0, _, j, h1, h2 => by omega
  | m + 1, h, j, h1, h2 => by
    unfold opsF at h
    by_cases hb : opS (l.take (m + 1)) = true
    · rw [if_pos hb] at h; omega
    · rw [if_neg hb] at h
      by_cases e : j = m + 1
      · rw [e]; simpa using hb
      · exact opsF_zero m h j h1 (by omega)
theorem opsF_pos {l : List UInt8} : ∀ (m : Nat), 0 < opsF l m → opS (l.take (opsF l m)) = true
  | 0, h => by simp [opsF] at h
  | m + 1, h => by
    by_cases hb : opS (l.take (m + 1)) = true
    · have e : opsF l (m + 1) = m + 1 := by unfold opsF; rw [if_pos hb]
      rw [e]; exact hb
    · have e : opsF l (m + 1) = opsF l m := by rw [opsF, if_neg hb]
      rw [e] at h ⊢
      exact opsF_pos m h
theorem opsz_ten (r : List UInt8) : opsz (10 :: r) = 1 := by
  rcases r with _ | ⟨x, _ | ⟨y, r⟩⟩
  · rfl
  · show opsF [10, x] 2 = 1
    unfold opsF
    rw [if_neg (by show ¬ opS [10, x] = true; rw [opS_ten]; simp)]
    rfl
  · have e : min 3 (10 :: x :: y :: r).length = 3 := by simp only [List.length_cons]; omega
    unfold opsz
    rw [e]
    unfold opsF
    rw [if_neg (by show ¬ opS [10, x, y] = true; rw [opS_ten]; simp)]
    unfold opsF
    rw [if_neg (by show ¬ opS [10, x] = true; rw [opS_ten]; simp)]
    rfl
theorem drop_bt {s : List UInt8} {p : Nat} (h : p < s.length) : s.drop p = bt s p :: s.drop (p + 1) := by rw [bt_get h]; exact List.drop_eq_getElem_cons h
theorem opsz_none {s : List UInt8} {p : Nat} (h : opsz (s.drop p) = 0) {e : Nat} (hp : p < e) (he : e ≤ s.length) : opS ((s.drop p).take (e - p)) = false := by
  by_cases h3 : e - p ≤ 3
  · exact opsF_zero _ h (e - p) (by omega) (by rw [List.length_drop]; omega)
  · rw [← Bool.not_eq_true]
    intro hb
    have := opS_len hb
    rw [List.length_take, List.length_drop] at this
    omega
theorem wordF_gt {s : List UInt8} {F p e : Nat} (hp : p < s.length) (hb : borderB (bt s p) = false) (h : wordF (F + 1) s p = (e, 0)) : p < e := by
  rw [wordF_lt hp, hb, if_neg (by simp)] at h
  have hin := pasL_in (s := s) 0 hp
  rcases hq : pasL s p 0 with ⟨n, x⟩
  rw [hq] at hin h
  rcases x with _ | x
  · have h1 := hin.2.1 rfl
    have h2 := (wordF_in F n hin.1).2.1
    simp only at h h1
    rw [h] at h2
    have := h2 rfl
    simp only at this
    omega
  · simp at h
section
variable {s : ByteArray} {a : Int} {p : Nat}
theorem extract_nil (s : ByteArray) (p : Nat) : s.extract p p = ⟨#[]⟩ := by
  apply ByteArray.ext
  apply Array.toList_inj.1
  rw [Lib.extract_data]
  simp
theorem nextL_of (h1 : ¬ 16384 < s.size) (hp : skipL s.data.toList a = p) {e : Nat} (he : endL s.data.toList p = (e, 0)) : nextL s a = (⟨kindL s.data.toList p e, p, e, s.extract p e⟩, 0) := by
  unfold nextL
  rw [if_neg h1, hp, he]
theorem nextL_end (h1 : ¬ 16384 < s.size) (hp : skipL s.data.toList a = s.size) : nextL s a = (⟨5, s.size, s.size, ⟨#[]⟩⟩, 0) := by
  have he : endL s.data.toList s.size = (s.size, 0) := by
    unfold endL
    have : s.data.toList.drop s.size = [] := List.drop_of_length_le (by rw [lenS]; exact Nat.le_refl _)
    rw [this, if_neg (by decide)]
    exact wordF_ge (by rw [lenS]; exact Nat.le_refl _)
  rw [nextL_of h1 hp he, extract_nil]
  unfold kindL
  rw [if_pos rfl]
theorem nextL_nl (h1 : ¬ 16384 < s.size) (hp : skipL s.data.toList a = p) (hl : p < s.size) (hb : bt s.data.toList p = 10) : nextL s a = (⟨3, p, p + 1, ⟨#[10]⟩⟩, 0) := by
  have hd := drop_bt (show p < s.data.toList.length from hl)
  rw [hb] at hd
  have he : endL s.data.toList p = (p + 1, 0) := by
    unfold endL
    rw [hd, opsz_ten, if_pos (by decide)]
  have hx : (s.data.toList.drop p).take (p + 1 - p) = [10] := by rw [hd, Nat.add_sub_cancel_left]; rfl
  rw [nextL_of h1 hp he]
  have hk : kindL s.data.toList p (p + 1) = 3 := by
    unfold kindL
    rw [if_neg (by omega), hx, if_pos (by decide)]
  have hxe : s.extract p (p + 1) = ⟨#[10]⟩ := by
    apply ByteArray.ext
    apply Array.toList_inj.1
    rw [Lib.extract_data, hx]
  rw [hk, hxe]
theorem take_head {l : List UInt8} {q : UInt8} {r : List UInt8} (hd : l = q :: r) {n : Nat} (hn : 0 < n) (hq : q ≠ 10) : (l.take n == [10]) = false := by
  rw [hd, beq_eq_false_iff_ne]
  obtain ⟨m, rfl⟩ : ∃ m, n = m + 1 := ⟨n - 1, by omega⟩
  rw [List.take_succ_cons]
  intro h
  injection h with h _
  exact hq h
theorem nextL_op (h1 : ¬ 16384 < s.size) (hp : skipL s.data.toList a = p) (hl : p < s.size) (hb : bt s.data.toList p ≠ 10) (hz : 0 < opsz (s.data.toList.drop p)) : nextL s a = (⟨2, p, p + opsz (s.data.toList.drop p), s.extract p (p + opsz (s.data.toList.drop p))⟩, 0) := by
  have he : endL s.data.toList p = (p + opsz (s.data.toList.drop p), 0) := by
    unfold endL
    rw [if_pos hz]
  rw [nextL_of h1 hp he]
  have hk : kindL s.data.toList p (p + opsz (s.data.toList.drop p)) = 2 := by
    unfold kindL
    rw [if_neg (by omega), Nat.add_sub_cancel_left, take_head (drop_bt (show p < s.data.toList.length from hl)) hz hb, if_neg (by simp)]
    have : opS ((s.data.toList.drop p).take (opsz (s.data.toList.drop p))) = true := opsF_pos _ hz
    rw [if_pos this]
  rw [hk]
theorem nextL_word (h1 : ¬ 16384 < s.size) (hp : skipL s.data.toList a = p) (hl : p < s.size) (hb : bt s.data.toList p ≠ 10) (hz : opsz (s.data.toList.drop p) = 0) {e : Nat} (hw : wordF (s.data.toList.length + 1) s.data.toList p = (e, 0)) :
    p < e ∧ e ≤ s.size ∧ nextL s a = (⟨if (((s.data.toList.drop p).take (e - p)).all digB && (decide (e < s.data.toList.length) && (bt s.data.toList e == 60 || bt s.data.toList e == 62))) = true then 4 else 1, p, e, s.extract p e⟩, 0) := by
  have hbl := skipL_stop (s := s.data.toList) (a := a) (by rw [hp]; exact hl)
  rw [hp] at hbl
  have hbo : borderB (bt s.data.toList p) = false := by
    unfold borderB
    rw [hbl]
    rcases ho : opB (bt s.data.toList p) with _ | _
    · rw [beq_eq_false_iff_ne.2 hb]; rfl
    · have h2 := opB_one ho
      have h3 := opsz_none hz (e := p + 1) (by omega) (by rw [lenS]; omega)
      rw [drop_bt (show p < s.data.toList.length from hl), Nat.add_sub_cancel_left] at h3
      rw [show (bt s.data.toList p :: s.data.toList.drop (p + 1)).take 1 = [bt s.data.toList p] from rfl, h2] at h3
      cases h3
  have hpe := wordF_gt (show p < s.data.toList.length from hl) hbo hw
  have hle := (wordF_in (s := s.data.toList) (s.data.toList.length + 1) p (by rw [lenS]; omega)).1
  rw [hw, lenS] at hle
  have he : endL s.data.toList p = (e, 0) := by
    unfold endL
    rw [if_neg (by omega)]
    exact hw
  refine ⟨hpe, hle, ?_⟩
  rw [nextL_of h1 hp he]
  have hk : kindL s.data.toList p e = if (((s.data.toList.drop p).take (e - p)).all digB && (decide (e < s.data.toList.length) && (bt s.data.toList e == 60 || bt s.data.toList e == 62))) = true then 4 else 1 := by
    unfold kindL
    rw [if_neg (by omega), take_head (drop_bt (show p < s.data.toList.length from hl)) (by omega) hb, if_neg (by simp), opsz_none hz hpe (by rw [lenS]; exact hle), if_neg (by simp), Bool.and_comm]
  rw [hk]
theorem nextL_bad (h1 : ¬ 16384 < s.size) (hp : skipL s.data.toList a = p) (hz : opsz (s.data.toList.drop p) = 0) {e x : Nat} (hw : wordF (s.data.toList.length + 1) s.data.toList p = (e, x + 1)) : nextL s a = (⟨0, e, 0, ⟨#[]⟩⟩, x + 1) := by
  have he : endL s.data.toList p = (e, x + 1) := by
    unfold endL
    rw [if_neg (by omega)]
    exact hw
  unfold nextL
  rw [if_neg h1, hp, he]
end
theorem heap_old (w : World) (o o2 : Obj) : ((w.alloc o).alloc o2).heap[w.heap.size]? = some o := by
  rw [Below.heap_alloc _ _ _ (by simp)]
  exact heap_alloc_new w o
theorem rnext_res (t : Tk) {tmps : Array Value} {w : World} (g : Nat) (E : Value) (hp : tmps.getD 4 undef = .pointer (some ⟨g, 0, none⟩)) (h5 : tmps.getD 5 undef = E)
    (hg : w.heap[g]? = some (.cells #[.int .i64 t.kind, .int .i64 t.pos, .int .i64 t.fin, .string t.text] 54)) : (results Tryd.f45 tmps).run Tryd.prog w = .ok (.tuple #[t.val, E]) w := by
  rw [results_cell_tmp (p := 4) (u := 5) (ty := 54) rfl, hp, h5]
  have hl := run_loadVar_row (P := Tryd.prog) w g 54 54 _ _ _ hg Tryd.underlying54 rfl (by kernel_rfl)
  simp only [asAddr, Sem.run_pure, Result.andThen_ok]
  rw [hl]
  rfl
set_option maxHeartbeats 8000000 in
set_option maxRecDepth 100000 in
theorem RNext_c (s : ByteArray) (a : Int) (w : World) (hs : s.size ≤ 140737488355328) (ha : -9223372036854775808 ≤ a ∧ a ≤ 9223372036854775807) :
    Calls Tryd.prog 45 #[.string s, .int .i64 a] w fun e w' => e = .returned (.tuple #[(nextL s a).1.val, .int .i64 ((nextL s a).2 : Nat)]) ∧ Below w.heap.size w w' := by
  by_cases h1 : 16384 < s.size
  · rw [show nextL s a = (Tk.none, 3) from by unfold nextL; rw [if_pos h1]]
    have t1 : decide ((16384 : Int) < (s.size : Int)) = true := decide_eq_true (by omega)
    have t1' : decide (16384 < s.size) = true := decide_eq_true h1
    go_enter Tryd.func45, Tryd.ntmps45
    go_wp2_with fail
    exact bodyPost_ret (rnext_res ⟨0, 0, 0, ⟨#[]⟩⟩ _ _ rfl rfl (heap_new _ _)) rfl ⟨rfl, (Below.refl _ w).alloc (Nat.le_refl _) _⟩
  have t1 : decide ((16384 : Int) < (s.size : Int)) = false := decide_eq_false (by omega)
  have t1' : decide (16384 < s.size) = false := decide_eq_false h1
  have Hsk := Lib.hid (fun W => RSkip_c s a W hs ha)
  have hpl := skipL_le s.data.toList a
  rw [lenS] at hpl
  obtain ⟨p, hp⟩ : ∃ p, skipL s.data.toList a = p := ⟨_, rfl⟩
  rw [hp] at Hsk hpl
  by_cases h2 : p = s.size
  · rw [h2] at hp Hsk
    rw [nextL_end h1 hp]
    have t2 : ((s.size : Int) == (s.size : Int)) = true := by rw [beq_iff_eq]
    clear h1 h2 hp hpl
    go_enter Tryd.func45, Tryd.ntmps45
    go_wp2_with fail
    refine (Hsk.out _).mono ?_
    rintro r w7 ⟨rfl, rfl⟩
    go_wp2_with fail
    exact bodyPost_ret (rnext_res ⟨5, s.size, s.size, ⟨#[]⟩⟩ _ _ rfl rfl (heap_new _ _)) rfl ⟨rfl, (Below.refl _ w).alloc (Nat.le_refl _) _⟩
  have hl : p < s.size := by omega
  have t2 : ((p : Int) == (s.size : Int)) = false := by rw [beq_eq_false_iff_ne]; omega
  have t2' : (p == s.size) = false := by rw [beq_eq_false_iff_ne]; exact h2
  have iI : (p : Int) < (s.size : Int) := by omega
  by_cases h3 : bt s.data.toList p = 10
  · rw [nextL_nl h1 hp hl h3]
    rw [btS hl] at h3
    have t3 : (((s[p]'hl).toNat : Int) == 10) = true := by rw [h3]; rfl
    clear h1 h2 h3 hp
    go_enter Tryd.func45, Tryd.ntmps45
    go_wp2_with fail
    refine (Hsk.out _).mono ?_
    rintro r w7 ⟨rfl, rfl⟩
    go_wp2_with fail
    exact bodyPost_ret (rnext_res ⟨3, p, p + 1, ⟨#[10]⟩⟩ _ _ rfl rfl (heap_new _ _)) rfl ⟨rfl, (Below.refl _ w).alloc (Nat.le_refl _) _⟩
  have t3 : (((s[p]'hl).toNat : Int) == 10) = false := u8b (by rw [← btS hl]; exact beq_eq_false_iff_ne.2 h3) rfl
  have Hop := Lib.hid (fun W => rops_c s p W hs hpl)
  have hol := opsz_le (s.data.toList.drop p)
  rw [List.length_drop, lenS] at hol
  by_cases h4 : 0 < opsz (s.data.toList.drop p)
  · rw [nextL_op h1 hp hl h3 h4]
    generalize opsz (s.data.toList.drop p) = z at *
    have d4 : decide ((0 : Int) < (z : Int)) = true := decide_eq_true (by omega)
    have d4' : decide (0 < z) = true := decide_eq_true h4
    have i4 : (p : Int) ≤ (p : Int) + (z : Int) := by omega
    have i5 : (p : Int) + (z : Int) ≤ (s.size : Int) := by omega
    clear h1 h2 h3 hp
    go_enter Tryd.func45, Tryd.ntmps45
    go_wp2_with fail
    refine (Hsk.out _).mono ?_
    rintro r w7 ⟨rfl, rfl⟩
    go_wp2_with fail
    refine (Hop.out _).mono ?_
    rintro r w7 ⟨rfl, rfl⟩
    go_wp2_with fail
    exact bodyPost_ret (rnext_res ⟨2, p, p + z, s.extract p (p + z)⟩ _ _ rfl rfl (heap_new _ _)) rfl ⟨rfl, (Below.refl _ w).alloc (Nat.le_refl _) _⟩
  have hz : opsz (s.data.toList.drop p) = 0 := by omega
  have Hwo := Lib.hid (fun W => rword2_c s p W hs hpl)
  rcases hw : wordF (s.data.toList.length + 1) s.data.toList p with ⟨e, x⟩
  rw [hw] at Hwo
  rw [hz] at Hop
  rcases x with _ | x
  · obtain ⟨hpe, hle, hn⟩ := nextL_word h1 hp hl h3 hz hw
    rw [hn]
    have hdx : (s.extract p e).data.toList = (s.data.toList.drop p).take (e - p) := by rw [Lib.extract_data]
    have Hdg := Lib.hid (fun W => rdigs_c (s.extract p e) W (by simp; omega) (by simp; omega))
    rw [hdx] at Hdg
    have Hwo0 : Hid (∀ W, Calls Tryd.prog 82 #[.string s, .int .i64 p] W fun r w' => r = .returned (.tuple #[.int .i64 e, .int .i64 0]) ∧ W = w') := Lib.hid (fun W => Hwo.out W)
    generalize ((s.data.toList.drop p).take (e - p)).all digB = dg at *
    have b1 : (p : Int) ≤ (e : Int) := by omega
    have b2 : (e : Int) ≤ (s.size : Int) := by omega
    rw [lenS]
    clear h1 h2 h3 hp hn hdx hw Hwo hz h4 hol
    by_cases h5 : e < s.size
    · have d5 : decide ((e : Int) < (s.size : Int)) = true := decide_eq_true (by omega)
      have d5' : decide (e < s.size) = true := decide_eq_true h5
      have i5 : (e : Int) < (s.size : Int) := by omega
      rw [d5', btS h5, Bool.true_and]
      rcases dg with _ | _
      · rw [if_neg (by simp)]
        go_enter Tryd.func45, Tryd.ntmps45
        go_wp2_with fail
        refine (Hsk.out _).mono ?_
        rintro r w7 ⟨rfl, rfl⟩
        go_wp2_with fail
        refine (Hop.out _).mono ?_
        rintro r w7 ⟨rfl, rfl⟩
        go_wp2_with fail
        refine (Hwo0.out _).mono ?_
        rintro r w7 ⟨rfl, rfl⟩
        go_wp2_with fail
        refine (Hdg.out _).mono ?_
        rintro r w7 ⟨rfl, rfl⟩
        go_wp2_with fail
        exact bodyPost_ret (rnext_res ⟨1, p, e, s.extract p e⟩ _ _ rfl rfl (heap_old w _ _)) rfl ⟨rfl, ((Below.refl _ w).alloc (Nat.le_refl _) _).alloc (by simp) _⟩
      · rw [Bool.true_and]
        rcases h6 : (s[e]'h5) == 60 with _ | _
        · have t6 : (((s[e]'h5).toNat : Int) == 60) = false := u8b h6 rfl
          rcases h7 : (s[e]'h5) == 62 with _ | _
          · have t7 : (((s[e]'h5).toNat : Int) == 62) = false := u8b h7 rfl
            rw [if_neg (by simp)]
            clear h6 h7
            go_enter Tryd.func45, Tryd.ntmps45
            go_wp2_with fail
            refine (Hsk.out _).mono ?_
            rintro r w7 ⟨rfl, rfl⟩
            go_wp2_with fail
            refine (Hop.out _).mono ?_
            rintro r w7 ⟨rfl, rfl⟩
            go_wp2_with fail
            refine (Hwo0.out _).mono ?_
            rintro r w7 ⟨rfl, rfl⟩
            go_wp2_with fail
            refine (Hdg.out _).mono ?_
            rintro r w7 ⟨rfl, rfl⟩
            go_wp2_with fail
            exact bodyPost_ret (rnext_res ⟨1, p, e, s.extract p e⟩ _ _ rfl rfl (heap_old w _ _)) rfl ⟨rfl, ((Below.refl _ w).alloc (Nat.le_refl _) _).alloc (by simp) _⟩
          · have t7 : (((s[e]'h5).toNat : Int) == 62) = true := u8b h7 rfl
            rw [if_pos (by simp)]
            clear h6 h7
            go_enter Tryd.func45, Tryd.ntmps45
            go_wp2_with fail
            refine (Hsk.out _).mono ?_
            rintro r w7 ⟨rfl, rfl⟩
            go_wp2_with fail
            refine (Hop.out _).mono ?_
            rintro r w7 ⟨rfl, rfl⟩
            go_wp2_with fail
            refine (Hwo0.out _).mono ?_
            rintro r w7 ⟨rfl, rfl⟩
            go_wp2_with fail
            refine (Hdg.out _).mono ?_
            rintro r w7 ⟨rfl, rfl⟩
            go_wp2_with fail
            exact bodyPost_ret (rnext_res ⟨4, p, e, s.extract p e⟩ _ _ rfl rfl (heap_old w _ _)) rfl ⟨rfl, ((Below.refl _ w).alloc (Nat.le_refl _) _).alloc (by simp) _⟩
        · have t6 : (((s[e]'h5).toNat : Int) == 60) = true := u8b h6 rfl
          rw [if_pos (by simp)]
          clear h6
          go_enter Tryd.func45, Tryd.ntmps45
          go_wp2_with fail
          refine (Hsk.out _).mono ?_
          rintro r w7 ⟨rfl, rfl⟩
          go_wp2_with fail
          refine (Hop.out _).mono ?_
          rintro r w7 ⟨rfl, rfl⟩
          go_wp2_with fail
          refine (Hwo0.out _).mono ?_
          rintro r w7 ⟨rfl, rfl⟩
          go_wp2_with fail
          refine (Hdg.out _).mono ?_
          rintro r w7 ⟨rfl, rfl⟩
          go_wp2_with fail
          exact bodyPost_ret (rnext_res ⟨4, p, e, s.extract p e⟩ _ _ rfl rfl (heap_old w _ _)) rfl ⟨rfl, ((Below.refl _ w).alloc (Nat.le_refl _) _).alloc (by simp) _⟩
    · have d5 : decide ((e : Int) < (s.size : Int)) = false := decide_eq_false (by omega)
      have d5' : decide (e < s.size) = false := decide_eq_false h5
      rw [d5', Bool.false_and, Bool.and_false, if_neg (by simp)]
      rcases dg with _ | _
      · go_enter Tryd.func45, Tryd.ntmps45
        go_wp2_with fail
        refine (Hsk.out _).mono ?_
        rintro r w7 ⟨rfl, rfl⟩
        go_wp2_with fail
        refine (Hop.out _).mono ?_
        rintro r w7 ⟨rfl, rfl⟩
        go_wp2_with fail
        refine (Hwo0.out _).mono ?_
        rintro r w7 ⟨rfl, rfl⟩
        go_wp2_with fail
        refine (Hdg.out _).mono ?_
        rintro r w7 ⟨rfl, rfl⟩
        go_wp2_with fail
        exact bodyPost_ret (rnext_res ⟨1, p, e, s.extract p e⟩ _ _ rfl rfl (heap_old w _ _)) rfl ⟨rfl, ((Below.refl _ w).alloc (Nat.le_refl _) _).alloc (by simp) _⟩
      · go_enter Tryd.func45, Tryd.ntmps45
        go_wp2_with fail
        refine (Hsk.out _).mono ?_
        rintro r w7 ⟨rfl, rfl⟩
        go_wp2_with fail
        refine (Hop.out _).mono ?_
        rintro r w7 ⟨rfl, rfl⟩
        go_wp2_with fail
        refine (Hwo0.out _).mono ?_
        rintro r w7 ⟨rfl, rfl⟩
        go_wp2_with fail
        refine (Hdg.out _).mono ?_
        rintro r w7 ⟨rfl, rfl⟩
        go_wp2_with fail
        exact bodyPost_ret (rnext_res ⟨1, p, e, s.extract p e⟩ _ _ rfl rfl (heap_old w _ _)) rfl ⟨rfl, ((Below.refl _ w).alloc (Nat.le_refl _) _).alloc (by simp) _⟩
  · rw [nextL_bad h1 hp hz hw]
    obtain ⟨E, hE⟩ : ∃ E : Int, E = ((x + 1 : Nat) : Int) := ⟨_, rfl⟩
    have tE : (E != 0) = true := by rw [hE, bne_iff_ne]; omega
    have Hwo0 : Hid (∀ W, Calls Tryd.prog 82 #[.string s, .int .i64 p] W fun r w' => r = .returned (.tuple #[.int .i64 e, .int .i64 E]) ∧ W = w') := Lib.hid (fun W => by rw [hE]; exact Hwo.out W)
    have hx3 : Hid (E = ((x + 1 : Nat) : Int)) := Lib.hid hE
    clear h1 h2 h3 hp hw Hwo hz h4 hol hE
    go_enter Tryd.func45, Tryd.ntmps45
    go_wp2_with fail
    refine (Hsk.out _).mono ?_
    rintro r w7 ⟨rfl, rfl⟩
    go_wp2_with fail
    refine (Hop.out _).mono ?_
    rintro r w7 ⟨rfl, rfl⟩
    go_wp2_with fail
    refine (Hwo0.out _).mono ?_
    rintro r w7 ⟨rfl, rfl⟩
    go_wp2_with fail
    exact bodyPost_ret (rnext_res ⟨0, e, 0, ⟨#[]⟩⟩ _ _ rfl rfl (heap_new _ _)) rfl ⟨by rw [hx3.out]; rfl, (Below.refl _ w).alloc (Nat.le_refl _) _⟩
set_option maxHeartbeats 8000000 in
set_option maxRecDepth 100000 in
theorem nexts_walk (s : ByteArray) (a : Int) (w : World) (ha : -9223372036854775808 ≤ a ∧ a ≤ 9223372036854775807) :
    Calls Tryd.prog 13 #[.string s, .int .i64 a] w fun e w' => e = .returned (.bool true) ∧ Below w.heap.size w w' := by
  have haw := Lib.hid (fun W => awake_c W)
  by_cases hl : 2000 < s.size
  · have t1 : decide ((2000 : Int) < (s.size : Int)) = true := decide_eq_true (by omega)
    have t1' : decide (2000 < s.size) = true := decide_eq_true hl
    go_enter Tryd.func13, Tryd.ntmps13
    go_wp2_with fail
    refine (haw.out _).mono ?_
    rintro e w1 ⟨rfl, m1⟩
    go_wp2_with fail
    go_ret
    exact ⟨rfl, m1⟩
  have t1 : decide ((2000 : Int) < (s.size : Int)) = false := decide_eq_false (by omega)
  have t1' : decide (2000 < s.size) = false := decide_eq_false hl
  have h1 : Hid (∀ W, Calls Tryd.prog 44 #[.string s, .int .i64 a] W fun e w' => e = .returned (.tuple #[(nextL s a).1.val, .int .i64 ((nextL s a).2 : Nat)]) ∧ Below W.heap.size W w') := Lib.hid (fun W => Next_c s a W (by omega) ha)
  have h2 : Hid (∀ W, Calls Tryd.prog 45 #[.string s, .int .i64 a] W fun e w' => e = .returned (.tuple #[(nextL s a).1.val, .int .i64 ((nextL s a).2 : Nat)]) ∧ Below W.heap.size W w') := Lib.hid (fun W => RNext_c s a W (by omega) ha)
  generalize nextL s a = r at *
  obtain ⟨⟨k, p, e, t⟩, x⟩ := r
  have e1 : ((k : Int) == (k : Int)) = true := by rw [beq_iff_eq]
  have e2 : ((p : Int) == (p : Int)) = true := by rw [beq_iff_eq]
  have e3 : ((e : Int) == (e : Int)) = true := by rw [beq_iff_eq]
  have e4 : (t.toList == t.toList) = true := by rw [beq_iff_eq]
  have e5 : ((x : Int) == (x : Int)) = true := by rw [beq_iff_eq]
  unfold Tk.val at h1 h2
  simp only at h1 h2
  clear hl
  go_enter Tryd.func13, Tryd.ntmps13
  go_wp2_with fail
  refine (h1.out _).mono ?_
  rintro q w1 ⟨rfl, m1⟩
  go_wp2_with fail
  refine (h2.out _).mono ?_
  rintro q w2 ⟨rfl, n2⟩
  have hh : w2.heap[w1.heap.size]? = some (.cells #[.int .i64 k, .int .i64 p, .int .i64 e, .string t] 54 (0, 0)) := by
    rw [n2.block _ (by simp)]
    exact heap_alloc_new w1 _
  have hlt : w1.heap.size < w2.heap.size := by have := n2.size; simp at this; omega
  have m2 : Below w.heap.size w w2 := (m1.alloc m1.size _).trans (n2.mono (by have := m1.size; simp; omega))
  have m3 := m2.alloc m2.size (.cells #[.int .i64 k, .int .i64 p, .int .i64 e, .string t] 54)
  have hh2 : (w2.alloc (.cells #[.int .i64 k, .int .i64 p, .int .i64 e, .string t] 54)).heap[w1.heap.size]? = some (.cells #[.int .i64 k, .int .i64 p, .int .i64 e, .string t] 54 (0, 0)) := by
    rw [Below.heap_alloc _ _ _ hlt]; exact hh
  have x0 : (w2.alloc (.cells #[.int .i64 k, .int .i64 p, .int .i64 e, .string t] 54)).cell? ⟨w1.heap.size, 0, none⟩ = some (.int .i64 k) := by rw [cell_of_row _ _ 0 _ _ _ hh2]; rfl
  have x1 : (w2.alloc (.cells #[.int .i64 k, .int .i64 p, .int .i64 e, .string t] 54)).cell? ⟨w1.heap.size, 1, none⟩ = some (.int .i64 p) := by rw [cell_of_row _ _ 1 _ _ _ hh2]; rfl
  have x2 : (w2.alloc (.cells #[.int .i64 k, .int .i64 p, .int .i64 e, .string t] 54)).cell? ⟨w1.heap.size, 2, none⟩ = some (.int .i64 e) := by rw [cell_of_row _ _ 2 _ _ _ hh2]; rfl
  have x3 : (w2.alloc (.cells #[.int .i64 k, .int .i64 p, .int .i64 e, .string t] 54)).cell? ⟨w1.heap.size, 3, none⟩ = some (.string t) := by rw [cell_of_row _ _ 3 _ _ _ hh2]; rfl
  have M3 := Lib.hid m3
  clear hh hh2 m1 n2 m2 m3
  go_wp2_with fail
  refine (haw.out _).mono ?_
  rintro q w3 ⟨rfl, n3⟩
  have m4 := M3.out.trans (n3.mono M3.out.size)
  clear n3 x0 x1 x2 x3
  go_wp2_with fail
  go_ret
  exact ⟨rfl, m4⟩
end Go.Proofs.YteppndkhmbhnkaaDoor
