/- arith: wellShaped, validBelow, Valid, Same. -/
import Derived.Test.YtbiiempgefjkiaaDoorArF
import Derived.Test.YtbiiempgefjkiaaDoorCcCh
namespace Go.Proofs.YtbiiempgefjkiaaDoor.Ar
open Go.RowKit
set_option linter.unusedVariables false

/-- The box of an expression. -/
def exO (x : Ex) (A : Option Addr) (c : Nat) : Obj := .cells #[.int .i64 x.op, .int .i64 x.n, .string x.name, .slice A x.kids.length c] 24
theorem name_ok (s : ByteArray) (w : World) : Calls Tryd.prog 42 #[.string s] w fun e w' => e = .returned (.bool (nameB s)) ∧ Below w.heap.size w w' := by
  refine Cc.name_c s (nameB s) ?_ w
  unfold nameB Cc.NameP Cc.NameAt
  have hl : s.data.toList.length = s.size := by simp
  have hg : ∀ i (h : i < s.size), s[i] = s.data.toList[i]'(by omega) := fun i h => by rw [ByteArray.getElem_eq_getElem_data, ← Array.getElem_toList]
  have hg0 : ∀ b : UInt8, (Cc.letB b.toNat = true ∨ (b.toNat : Nat) = 95) ↔ ltrB b = true := fun b => by
    unfold Cc.letB ltrB
    simp only [decide_eq_true_iff]
    omega
  have hg1 : ∀ b : UInt8, Cc.digB b.toNat = true ↔ digB b = true := fun b => by
    unfold Cc.digB digB
    simp only [decide_eq_true_iff]
    omega
  rw [Bool.and_eq_true, decide_eq_true_iff]
  cases hs : s.data.toList with
  | nil =>
    rw [hs] at hl
    simp only [List.length_nil] at hl
    simp only [nameL]
    constructor
    · intro h; simp at h
    · intro h; omega
  | cons b r =>
    rw [hs] at hl
    simp only [List.length_cons] at hl
    simp only [nameL, Bool.and_eq_true, List.all_eq_true]
    constructor
    · rintro ⟨h1, h2, h3⟩
      refine ⟨by omega, h1, fun i hi => ?_⟩
      rcases i with _ | i
      · have e : s[0] = b := by rw [hg 0 hi]; simp [hs]
        rw [e]
        rcases (hg0 b).2 h2 with h | h
        · exact .inl h
        · exact .inr (.inl h)
      · have e : s[i + 1] = r[i]'(by omega) := by rw [hg (i + 1) hi]; simp [hs]
        rw [e]
        have := h3 _ (List.getElem_mem (l := r) (n := i) (by omega))
        unfold wrdB at this
        rw [Bool.or_eq_true] at this
        rcases this with h | h
        · rcases (hg0 _).2 h with h | h
          · exact .inl h
          · exact .inr (.inl h)
        · exact .inr (.inr ⟨by omega, (hg1 _).2 h⟩)
    · rintro ⟨h0, h1, h2⟩
      refine ⟨h1, ?_, fun c hc => ?_⟩
      · have := h2 0 h0
        have e : s[0] = b := by rw [hg 0 h0]; simp [hs]
        rw [e] at this
        rcases this with h | h | ⟨h, _⟩
        · exact (hg0 b).1 (.inl h)
        · exact (hg0 b).1 (.inr h)
        · exact absurd rfl h
      · obtain ⟨i, hi, rfl⟩ := List.getElem_of_mem hc
        have := h2 (i + 1) (by omega)
        have e : s[i + 1] = r[i] := by rw [hg (i + 1) (by omega)]; simp [hs]
        rw [e] at this
        unfold wrdB
        rw [Bool.or_eq_true]
        rcases this with h | h | ⟨_, h⟩
        · exact .inl ((hg0 _).1 (.inl h))
        · exact .inl ((hg0 _).1 (.inr h))
        · exact .inr ((hg1 _).1 h)

theorem below_drewN' {B : Nat} {w w' : World} (h : Below B w w') : ∀ n, Below B w (w'.drewN n)
  | 0 => h
  | n + 1 => by
    have := (below_drewN' h n).drew
    exact this
theorem env_size (s : ByteArray) : s.toList.isEmpty = (s.size == 0) := by
  rw [ByteArray.toList_eq, Bool.eq_iff_iff, List.isEmpty_iff, beq_iff_eq]
  constructor
  · intro h
    have : s.data.toList.length = 0 := by rw [h]; rfl
    simpa using this
  · intro h
    exact List.eq_nil_of_length_eq_zero (by simpa using h)
set_option maxHeartbeats 4000000 in
set_option maxRecDepth 100000 in
theorem wellShaped_c (x : Ex) (A : Option Addr) (c : Nat) (w : World) (hE : Env w) (hk : x.kids.length ≤ maxLen) :
    Calls Tryd.prog 41 #[x.val A c] w fun e w' => e = .returned (.bool (shaped x.op x.n x.name x.kids.length)) ∧ Below w.heap.size w w' := by
  unfold Ex.val
  unfold maxLen at hk
  generalize x.op = op, x.n = n, x.name = s, x.kids.length = k at *
  have hb0 := (Below.refl w.heap.size w).alloc (Nat.le_refl _) (.cells #[.int .i64 op, .int .i64 n, .string s, .slice A k c] 24)
  have hn0 := heap_alloc_new w (.cells #[.int .i64 op, .int .i64 n, .string s, .slice A k c] 24)
  have HA := Lib.hid (arity_c op _ (env_next hE hb0))
  have HS := Lib.hid (fun W (h : Below w.heap.size w W) => isAssigning_c n W (env_next hE h))
  have HN := Lib.hid (fun W => (named_c op W).mono fun e w' (h : _ ∧ W = w') => (⟨h.1, h.2.symm⟩ : e = .returned (.bool (named op)) ∧ w' = W))
  have hs0 := env_size s
  unfold shaped
  obtain ⟨SN, hSN⟩ : ∃ SN, SN = shapedN op n := ⟨_, rfl⟩
  rw [← hSN]
  have HSN := Lib.hid hSN
  clear hSN
  generalize arity op = R at *
  obtain ⟨a, ok⟩ := R
  generalize named op = nm at *
  generalize (s.size == 0) = em at *
  have hsn : (!s.toList.isEmpty) = !em := by rw [hs0]
  clear hE
  rcases ok with _ | _
  · simp only [Bool.false_and]
    go_enter Tryd.func41, Tryd.ntmps41
    go_wp2_with fail
    refine HA.out.mono ?_
    rintro e w1 ⟨rfl, hb⟩
    have hb2 := hb0.trans (hb.mono (by simp))
    clear HA HS HN
    go_wp2_with fail
    go_quiet (fail)
    go_wp2_with fail
    go_ret
    exact ⟨rfl, below_drewN' hb2 _⟩
  by_cases hka : k = a
  · have t1 : ((k : Int) != (a : Int)) = false := by rw [bne_eq_false_iff_eq]; omega
    have t2 : (k != a) = false := by rw [bne_eq_false_iff_eq]; omega
    have t3 : (k == a) = true := by rw [beq_iff_eq]; omega
    rw [t3]
    clear hka t3
    rcases hem : em with _ | _ <;> rcases hnm : nm with _ | _
    all_goals
      subst hem
      subst hnm
      go_enter Tryd.func41, Tryd.ntmps41
      go_wp2_with fail
      refine HA.out.mono ?_
      rintro e w1 ⟨rfl, hb⟩
      have hb2 := hb0.trans (hb.mono (by simp))
      have hn1 := (hb.block _ (by simp)).trans hn0
      have c0 : w1.cell? ⟨w.heap.size, 0, none⟩ = some (.int .i64 op) := by rw [Lib.cell_of_heap hn1]; rfl
      have c1 : w1.cell? ⟨w.heap.size, 1, none⟩ = some (.int .i64 n) := by rw [Lib.cell_of_heap hn1]; rfl
      have c2 : w1.cell? ⟨w.heap.size, 2, none⟩ = some (.string s) := by rw [Lib.cell_of_heap hn1]; rfl
      have c3 : w1.cell? ⟨w.heap.size, 3, none⟩ = some (.slice A k c) := by rw [Lib.cell_of_heap hn1]; rfl
      have Hb2 := Lib.hid hb2
      clear HA hn1 hb hb2 hb0 hn0
      go_wp2_with fail
      go_quiet ((go_at_call 29; exact Calls.quiet_of_same (HN.out _)))
      have Hb3 := Lib.hid (below_drewN' Hb2.out nq)
      have d0 : (w1.drewN nq).cell? ⟨w.heap.size, 0, none⟩ = some (.int .i64 op) := by rw [World.cell?_drewN]; exact c0
      have d1 : (w1.drewN nq).cell? ⟨w.heap.size, 1, none⟩ = some (.int .i64 n) := by rw [World.cell?_drewN]; exact c1
      have HS2 := Lib.hid (HS.out _ Hb3.out)
      clear Hb2 HS HN c0 c1 c2 c3
      generalize w1.drewN nq = w2 at *
      rcases h1 : (op == 1) with _ | _
      · rcases h2 : (op == 26) with _ | _
        · clear HS2
          go_wp2_with fail
          go_ret
          exact ⟨by simp [HSN.out, shapedN, h1, h2], Hb3.out⟩
        · first
          | (go_wp2_with fail
             go_ret
             exact ⟨by simp [HSN.out, shapedN, h1, h2], Hb3.out⟩)
          | (go_wp2_with fail
             refine HS2.out.mono ?_
             rintro e w3 ⟨rfl, hb3⟩
             go_wp2_with fail
             go_ret
             exact ⟨by simp [HSN.out, shapedN, h1, h2], Hb3.out.trans (hb3.mono Hb3.out.size)⟩)
      · clear HS2
        go_wp2_with fail
        go_ret
        exact ⟨by simp [HSN.out, shapedN, h1], Hb3.out⟩
  · have t1 : ((k : Int) != (a : Int)) = true := by rw [bne_iff_ne]; omega
    have t2 : (k != a) = true := by rw [bne_iff_ne]; omega
    have t3 : (k == a) = false := by rw [beq_eq_false_iff_ne]; omega
    rw [t3]
    simp only [Bool.false_and, Bool.and_false]
    clear hka t3
    go_enter Tryd.func41, Tryd.ntmps41
    go_wp2_with fail
    refine HA.out.mono ?_
    rintro e w1 ⟨rfl, hb⟩
    have hb2 := hb0.trans (hb.mono (by simp))
    have hn1 := (hb.block _ (by simp)).trans hn0
    have c3 : w1.cell? ⟨w.heap.size, 3, none⟩ = some (.slice A k c) := by rw [Lib.cell_of_heap hn1]; rfl
    clear HA HS HN hn1 hn0 hb0 hb
    go_wp2_with fail
    go_quiet (fail)
    go_wp2_with fail
    go_ret
    exact ⟨rfl, below_drewN' hb2 _⟩
end Go.Proofs.YtbiiempgefjkiaaDoor.Ar
