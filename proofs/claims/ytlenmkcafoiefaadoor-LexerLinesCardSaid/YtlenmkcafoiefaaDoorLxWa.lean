/- Tokens appended to fresh tokens; a slice of tokens without its last. -/
import Derived.Test.YtlenmkcafoiefaaDoorLxL3
import Derived.Test.YtlenmkcafoiefaaDoorLxQ
namespace Go.Proofs.YtlenmkcafoiefaaDoor
open Go.RowKit
set_option linter.unusedVariables false

theorem tkCells_one {l : List Tk} {u : Value} (h : u ∈ tkCells l) : u.oneCell' = true := by
  unfold tkCells at h
  rw [List.mem_flatMap] at h
  obtain ⟨t, _, h⟩ := h
  simp at h
  rcases h with rfl | rfl | rfl | rfl <;> rfl
theorem tkAt_last {w : World} {B : Nat} {A : Option Addr} {l : List Tk} (h : TkAt w B A l) : TkAt w B A l.dropLast := by
  rcases h with ⟨rfl, rfl⟩ | ⟨b, off, rfl, hb, hc⟩
  · exact .inl ⟨rfl, rfl⟩
  · refine .inr ⟨b, off, rfl, hb, fun j v hj => hc j v ?_⟩
    rcases List.eq_nil_or_concat l with rfl | ⟨l', x, rfl⟩
    · exact hj
    · rw [List.concat_eq_append, List.dropLast_concat] at hj
      rw [List.concat_eq_append, tkCells_append, List.getElem?_append_left (List.getElem?_eq_some_iff.1 hj).1]
      exact hj
/-- Tokens that a slice shows are appended to fresh tokens. -/
theorem wpList_appT {w : World} {ops : Array Oper} {rest : List Oper} {o : Oper} {a : Act} {Q : Exit → Act → World → Prop} (hgd : o.guard = none) (s x : Operand)
    (ho : o.op = .call { callee := .builtin .append, args := #[s, x], argTypes := #[23, 23] })
    (B : Nat) (v : Value) (l : List Tk) (hs : a.eval s = v) (hown : OwnT w B v l) (b off : Nat) (m : List Tk) (n c : Nat) (hn : n = m.length) (hx : a.eval x = .slice (some ⟨b, off, none⟩) n c) (hA : ∀ j v, (tkCells m)[j]? = some v → w.cell? ⟨b, off + j, none⟩ = some v)
    (hl : l.length + m.length ≤ 1000000) (hB : B ≤ w.heap.size)
    (h : ∀ v' w', OwnT w' B v' (l ++ m) → Below B w w' → w.grownBy w' v.ownBlock → wpList Tryd.prog ops Q rest (a.put o.dst v') w') : wpList Tryd.prog ops Q (o :: rest) a w := by
  subst hn
  obtain ⟨i0, hi, hz0, hz1, hz2⟩ := tk_info_parts tkInfo
  refine wpList_append_own (w := w) hgd s x 23 ho B 30 i0 _ 4 40 Tryd.underlying23 hi hz0 hz1 hz2 rfl (by decide) v l.length (tkCells l) hs hown ⟨b, off, none⟩ m.length c (tkCells m) hx (tkCells_length m) ?_ (fun u hu => tkCells_one hu) (by unfold maxLen; omega) (by omega) hB ?_
  · intro j u hj
    rw [show (⟨b, off, none⟩ : Addr).add j = ⟨b, off + j, none⟩ from by simp [Addr.add]]
    exact hA j u hj
  · intro v' w' hown' hg _
    refine h v' w' ?_ ((Below.refl B w).grown hg hB (fun k hk => (hown.lt k hk).1)) hg
    unfold OwnT
    rw [tkCells_append, List.length_append]
    exact hown'
theorem allF_len (s : ByteArray) : ∀ (F k : Nat) (acc : List Tk), k ≤ s.size → acc.length ≤ k → (allF F s k acc).1.length ≤ s.size + 1
  | 0, k, acc, _, _ => by simp [allF]
  | F + 1, k, acc, hk, ha => by
    rw [allF]
    split
    · simp
    split
    · simp; omega
    · rename_i h1 h2
      have h0 : (nextL s k).2 = 0 := by simpa using h1
      obtain ⟨_, i1, i2, _, i4⟩ := next_ok hk h0
      have := i4 h2
      exact allF_len s F _ _ i1 (by simp; omega)
theorem newT (w : World) (k p e : Nat) (x : ByteArray) (P E : Int) (hP : P = (p : Int)) (hE : E = (e : Int)) : ∀ j v, (tkCells [⟨k, p, e, x⟩])[j]? = some v → (w.alloc (.cells #[.int .i64 k, .int .i64 P, .int .i64 E, .string x] 30)).cell? ⟨w.heap.size, 0 + j, none⟩ = some v := by
  subst hP
  subst hE
  intro j v hj
  have h := World.news_of_block (cs := #[.int .i64 k, .int .i64 p, .int .i64 e, .string x]) (t := 30) (fr := (0, 0)) (heap_alloc_new w (.cells #[.int .i64 k, .int .i64 p, .int .i64 e, .string x] 30)) j v hj
  rw [show (⟨w.heap.size, 0, none⟩ : Addr).add j = ⟨w.heap.size, 0 + j, none⟩ from by simp [Addr.add]; intro h; exact h.symm] at h
  exact h
set_option maxHeartbeats 16000000 in
set_option maxRecDepth 100000 in
theorem RSame_c (A A2 : Option Addr) (l : List Tk) (c c2 : Nat) (w : World) (hA : TkAt w w.heap.size A l) (hA2 : TkAt w w.heap.size A2 l) (hl : l.length ≤ 1000000) :
    Calls Tryd.prog 12 #[.slice A l.length c, .slice A2 l.length c2] w fun e w' => e = .returned (.bool true) ∧ Below w.heap.size w w' := by
  have t0 : ((l.length : Int) != (l.length : Int)) = false := by rw [bne_eq_false_iff_eq]
  have HA := Lib.hid hA
  have HA2 := Lib.hid hA2
  clear hA hA2
  go_enter Tryd.func12, Tryd.ntmps12
  go_wp2_with fail
  go_loopw [5] (fun kv wr => ∃ k : Nat, kv = .int .i64 k ∧ k ≤ l.length ∧ Below w.heap.size w wr) (fun kv _ => l.length - (intOf kv).toNat)
  case atStart => exact ⟨0, by go_num, by omega, Below.refl _ _⟩
  case round =>
    obtain ⟨k, rfl, hk, hb⟩ := hrel
    by_cases hlt : k < l.length
    · have d1 : decide ((k : Int) < (l.length : Int)) = true := decide_eq_true (by omega)
      have d1' : decide (k < l.length) = true := decide_eq_true hlt
      have hkI : (k : Int) < (l.length : Int) := by omega
      obtain ⟨b, off, rfl, hbl, hc⟩ : ∃ b off, A = some ⟨b, off, none⟩ ∧ b < w.heap.size ∧ ∀ j v, (tkCells l)[j]? = some v → w.cell? ⟨b, off + j, none⟩ = some v := by
        rcases HA.out with ⟨_, h⟩ | h
        · rw [h] at hlt; simp at hlt
        · exact h
      obtain ⟨b2, off2, rfl, hbl2, hc2⟩ : ∃ b off, A2 = some ⟨b, off, none⟩ ∧ b < w.heap.size ∧ ∀ j v, (tkCells l)[j]? = some v → w.cell? ⟨b, off + j, none⟩ = some v := by
        rcases HA2.out with ⟨_, h⟩ | h
        · rw [h] at hlt; simp at hlt
        · exact h
      obtain ⟨g0, g1, g2, g3⟩ := tkCells_get l k hlt
      have x0 := (hb.cell (p := ⟨b, off + k * 4, none⟩) hbl).trans (hc _ _ g0)
      have x1 := (hb.cell (p := ⟨b, off + k * 4 + 1, none⟩) hbl).trans (hc _ _ g1)
      have x2 := (hb.cell (p := ⟨b, off + k * 4 + 2, none⟩) hbl).trans (hc _ _ g2)
      have x3 := (hb.cell (p := ⟨b, off + k * 4 + 3, none⟩) hbl).trans (hc _ _ g3)
      have y0 := (hb.cell (p := ⟨b2, off2 + k * 4, none⟩) hbl2).trans (hc2 _ _ g0)
      have y1 := (hb.cell (p := ⟨b2, off2 + k * 4 + 1, none⟩) hbl2).trans (hc2 _ _ g1)
      have y2 := (hb.cell (p := ⟨b2, off2 + k * 4 + 2, none⟩) hbl2).trans (hc2 _ _ g2)
      have y3 := (hb.cell (p := ⟨b2, off2 + k * 4 + 3, none⟩) hbl2).trans (hc2 _ _ g3)
      generalize l[k]'hlt = q at *
      obtain ⟨qk, qp, qe, qt⟩ := q
      simp only at x0 x1 x2 x3 y0 y1 y2 y3
      have e1 : ((qk : Int) == (qk : Int)) = true := by rw [beq_iff_eq]
      have e2 : ((qp : Int) == (qp : Int)) = true := by rw [beq_iff_eq]
      have e3 : ((qe : Int) == (qe : Int)) = true := by rw [beq_iff_eq]
      have e4 : (qt.toList == qt.toList) = true := by rw [beq_iff_eq]
      clear hc hc2 g0 g1 g2 g3
      go_wp2_with fail
      go_region
      go_wp2_with fail
      go_roundw
      case rel => exact ⟨k + 1, by go_num, by omega, below_drewN hb _⟩
      case measure => simp [intOf]; omega
    · have hks : k = l.length := by omega
      subst hks
      have d1 : decide ((l.length : Int) < (l.length : Int)) = false := decide_eq_false (by omega)
      go_wp2_with fail
      go_ret
      exact ⟨rfl, hb⟩
end Go.Proofs.YtlenmkcafoiefaaDoor
