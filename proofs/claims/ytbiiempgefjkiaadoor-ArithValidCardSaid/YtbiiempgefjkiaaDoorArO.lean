/- arith: arguments that are expressions. -/
import Derived.Test.YtbiiempgefjkiaaDoorArA
import Derived.Deep.Slices
import Derived.Deep.Fields
import Derived.Carry
namespace Go.Proofs.YtbiiempgefjkiaaDoor.Ar
open Go.ChangeShapes Go.WideShapes Go.Deep Go.RowKit
set_option linter.unusedVariables false

mutual
/-- Numbers are numbers of 64 bits, names are strings. -/
def wfE : Ex → Prop
  | .mk op n s l => (-9223372036854775808 ≤ op ∧ op ≤ 9223372036854775807) ∧ (-9223372036854775808 ≤ n ∧ n ≤ 9223372036854775807) ∧ s.size ≤ maxLen ∧ wfK l
def wfK : List Ex → Prop
  | [] => True
  | x :: r => wfE x ∧ wfK r
end
theorem wfK_of : ∀ {l : List Ex}, (∀ x ∈ l, wfE x) → wfK l
  | [], _ => trivial
  | x :: r, h => ⟨h x List.mem_cons_self, wfK_of fun y hy => h y (List.mem_cons_of_mem _ hy)⟩
theorem wfK_at : ∀ {l : List Ex}, wfK l → ∀ x ∈ l, wfE x
  | [], _, _, h => by simp at h
  | x :: r, h, y, hy => by
    rcases List.mem_cons.1 hy with rfl | hy
    · exact h.1
    · exact wfK_at h.2 y hy
theorem listOf {α : Type} {p : Nat → α → Prop} : ∀ (n : Nat), (∀ i, i < n → ∃ x, p i x) → ∃ l : List α, l.length = n ∧ ∀ i (h : i < l.length), p i l[i]
  | 0, _ => ⟨[], rfl, fun i h => by simp at h⟩
  | n + 1, h => by
    obtain ⟨l, hl, hp⟩ := listOf n fun i hi => h i (by omega)
    obtain ⟨x, hx⟩ := h n (by omega)
    refine ⟨l ++ [x], by simp [hl], fun i hi => ?_⟩
    rcases Nat.lt_or_ge i l.length with h1 | h1
    · rw [List.getElem_append_left h1]; exact hp i h1
    · obtain rfl : i = n := by simp at hi; omega
      simp only [List.getElem_append_right h1, hl, Nat.sub_self, List.getElem_cons_zero]
      exact hx
theorem add_pl (b off i : Nat) : (⟨b, off, none⟩ : Addr).add i = ⟨b, off + i, none⟩ := by
  unfold Addr.add
  split <;> simp_all
theorem i64_wf {n : Int} (h : (Lit.int .i64 n).wf = true) : -9223372036854775808 ≤ n ∧ n ≤ 9223372036854775807 := by
  have h1 : (IntKind.min .i64 ≤ n) ∧ (n ≤ IntKind.max .i64) := by simpa [Lit.wf] using h
  exact h1
section
variable {H : Type} {enc : TypeId × Value → H} {P : Program} {w : World} {base : Nat} {spare : Nat → Bool} {held : Bool}
structure ExTypes (P : Program) (tS tE tI tO tN : TypeId) (fs : Array Field) : Prop where
  s : P.underlying tS = some (.slice tE)
  e : P.underlying tE = some (.struct fs)
  i : P.underlying tI = some (.int .i64)
  o : P.underlying tO = some (.int .i64)
  n : P.underlying tN = some .string
  c : P.cellsOf tE = 4
  ci : P.cellsOf tI = 1
  co : P.cellsOf tO = 1
  cn : P.cellsOf tN = 1
  cs : P.cellsOf tS = 1
  f0 : ∃ f, fs[0]? = some f ∧ f.type = tO ∧ f.offset = 0
  f1 : ∃ f, fs[1]? = some f ∧ f.type = tI ∧ f.offset = 1
  f2 : ∃ f, fs[2]? = some f ∧ f.type = tN ∧ f.offset = 2
  f3 : ∃ f, fs[3]? = some f ∧ f.type = tS ∧ f.offset = 3
theorem take1 {α : Type} {l : List α} {k : Nat} {x : α} (h : (l.drop k).take 1 = [x]) : l[k]? = some x := by
  have h1 : ((l.drop k).take 1)[0]? = some x := by rw [h]; rfl
  rw [List.getElem?_take_of_lt (by omega), List.getElem?_drop] at h1
  simpa using h1
theorem open_one {tS tE tI tO tN : TypeId} {fs : Array Field} (T : ExTypes P tS tE tI tO tN fs) {n : Nat} {cs : List Value} {x : DataW H × List MemPlace} (h : DataW.trod enc P w base spare held n tE cs = some x) :
    ∃ (op m : Int) (s : ByteArray) (v : Value) (y : DataW H × List MemPlace) (k : Nat), n = k + 1 ∧ cs = [.int .i64 op, .int .i64 m, .string s, v] ∧ s.size ≤ maxLen ∧ DataW.trod enc P w base spare held k tS [v] = some y ∧
      (-9223372036854775808 ≤ op ∧ op ≤ 9223372036854775807) ∧ (-9223372036854775808 ≤ m ∧ m ≤ 9223372036854775807) := by
  obtain ⟨ys, k, hk, hx, hlen, hyl, hf⟩ := DataW.trod_struct T.e h
  obtain ⟨f0, a0, b0, o0⟩ := T.f0
  obtain ⟨f1, a1, b1, o1⟩ := T.f1
  obtain ⟨f2, a2, b2, o2⟩ := T.f2
  obtain ⟨f3, a3, b3, o3⟩ := T.f3
  have g0 := hf 0 f0 a0
  have g1 := hf 1 f1 a1
  have g2 := hf 2 f2 a2
  have g3 := hf 3 f3 a3
  rw [b0, o0, T.co] at g0
  rw [b1, o1, T.ci] at g1
  rw [b2, o2, T.cn] at g2
  rw [b3, o3, T.cs] at g3
  have h0 := (Array.getElem?_eq_some_iff.1 a0).1
  have h3 := (Array.getElem?_eq_some_iff.1 a3).1
  rw [List.getElem?_eq_getElem (by omega)] at g0 g1 g2 g3
  obtain ⟨op, e0, _, w0⟩ := DataW.trod_int T.o g0
  obtain ⟨m, e1, _, w1⟩ := DataW.trod_int T.i g1
  obtain ⟨s, e2, _, w2⟩ := DataW.trod_string T.n g2
  rw [T.c] at hlen
  obtain ⟨v0, v1, v2, v3, rfl⟩ : ∃ v0 v1 v2 v3, cs = [v0, v1, v2, v3] := by
    match cs, hlen with
    | [a, b, c, d], _ => exact ⟨a, b, c, d, rfl⟩
  have t0 := take1 e0
  have t1 := take1 e1
  have t2 := take1 e2
  simp at t0 t1 t2
  subst t0; subst t1; subst t2
  exact ⟨op, m, s, v3, _, k, hk, rfl, w2, g3, i64_wf w0, i64_wf w1⟩
theorem open_kids {tS tE tI tO tN : TypeId} {fs : Array Field} (T : ExTypes P tS tE tI tO tN fs) : ∀ (fuel : Nat) {v : Value} {x : DataW H × List MemPlace}, DataW.trod enc P w base spare held fuel tS [v] = some x →
    ∃ (A : Option Addr) (c : Nat) (l : List Ex), v = .slice A l.length c ∧ l.length ≤ c ∧ c ≤ maxLen ∧ KidsAt w (fun b => b < w.heap.size) l A ∧ wfK l := by
  intro fuel
  induction fuel using Nat.strongRecOn with
  | _ fuel ih =>
    intro v x h
    rcases DataW.trod_slice T.s h with h0 | ⟨a, len, cap, elems, rest, n, hn, hcs, _, _, hl, hm, hlen, hel, _⟩
    · have hv : v = .slice none 0 0 := by simpa using h0.1
      exact ⟨none, 0, [], hv, Nat.le_refl _, Nat.zero_le _, by simp [KidsAt], trivial⟩
    · have hv : v = .slice (some a) len cap := by simpa using hcs
      subst hv
      have key : ∀ i, i < len → ∃ e : Ex, (∃ A c, w.cell? (a.add (i * 4)) = some (.int .i64 e.op) ∧ w.cell? (a.add (i * 4 + 1)) = some (.int .i64 e.n) ∧ w.cell? (a.add (i * 4 + 2)) = some (.string e.name) ∧
          w.cell? (a.add (i * 4 + 3)) = some (.slice A e.kids.length c) ∧ e.kids.length ≤ c ∧ c ≤ maxLen ∧ KidsAt w (fun b => b < w.heap.size) e.kids A) ∧ wfE e := by
        intro i hi
        have h1 := hel i hi
        rw [List.getElem?_eq_getElem (by omega)] at h1
        obtain ⟨cs', hc, ht⟩ := Option.bind_eq_some_iff.1 h1
        rw [T.c] at hc
        obtain ⟨_, hcl, hat⟩ := World.cells?_some hc
        obtain ⟨op, m, s, v, y, k, hk, rfl, hs, hy, ho, hmm⟩ := open_one T ht
        obtain ⟨A, c, l, rfl, hlc, hcm, hka, hwf⟩ := ih k (by omega) hy
        have q0 := hat 0 (by omega)
        have q1 := hat 1 (by omega)
        have q2 := hat 2 (by omega)
        have q3 := hat 3 (by omega)
        rw [Go.Deep.add_add] at q0 q1 q2 q3
        simp only [Nat.add_zero, List.getElem?_cons_zero, List.getElem?_cons_succ] at q0 q1 q2 q3
        exact ⟨.mk op m s l, ⟨A, c, q0, q1, q2, q3, hlc, hcm, hka⟩, ho, hmm, hs, hwf⟩
      obtain ⟨es, he, hp⟩ := listOf len key
      subst he
      refine ⟨some a, cap, es, rfl, hl, hm, ?_, wfK_of fun y hy => ?_⟩
      · rcases es with _ | ⟨e0, es⟩
        · simp [KidsAt]
        · obtain ⟨⟨A0, c0, z0, _⟩, _⟩ := hp 0 (by simp)
          obtain ⟨b, off, spot⟩ := a
          have hspot : spot = none := by simpa [Addr.add] using World.cell?_spot z0
          subst hspot
          have hlt := World.block_lt_of_cell? w _ z0
          refine kids_mk (by simpa [Addr.add] using hlt) fun i hi => ?_
          obtain ⟨⟨A, c, z0, z1, z2, z3, hlc, hcm, hka⟩, _⟩ := hp i hi
          exact one_mk (by rw [add_pl] at z0; exact z0) (by rw [add_pl] at z1; exact z1) (by rw [add_pl] at z2; exact z2) (by rw [add_pl] at z3; exact z3) hlc hcm hka
      · obtain ⟨i, hi, rfl⟩ := List.getElem_of_mem hy
        exact (hp i hi).2
theorem open_ex {tS tE tI tO tN : TypeId} {fs : Array Field} (T : ExTypes P tS tE tI tO tN fs) {v : Value} {d : DataW H} {p : List MemPlace} {a b c e : Value} (hv : v = .agg #[a, b, c, e]) (h : DataW.Trod enc P w base spare held tE v d p) :
    ∃ (x : Ex), ExAt w (fun b => b < w.heap.size) x v ∧ wfE x := by
  obtain ⟨fuel, hf⟩ := h
  subst hv
  obtain ⟨op, m, s, v, y, k, hk, hcs, hs, hy, ho, hmm⟩ := open_one T hf
  obtain ⟨A, cc, l, rfl, hlc, hcm, hka, hwf⟩ := open_kids T k hy
  refine ⟨.mk op m s l, ⟨A, cc, ?_, hlc, hcm, hka⟩, ho, hmm, hs, hwf⟩
  have : [a, b, c, e] = [.int .i64 op, .int .i64 m, .string s, .slice A l.length cc] := by simpa [Value.cells] using hcs
  simp only [List.cons.injEq, and_true] at this
  obtain ⟨rfl, rfl, rfl, rfl⟩ := this
  rfl
end
end Go.Proofs.YtbiiempgefjkiaaDoor.Ar
