/- arith: expressions in memory. -/
import Derived.Test.YtbiiempgefjkiaaDoorArM
import Derived.Below
import Derived.WalkKit
namespace Go.Proofs.YtbiiempgefjkiaaDoor.Ar
open Go.RowKit
set_option linter.unusedVariables false

def Ex.val (A : Option Addr) (c : Nat) (x : Ex) : Value := .agg #[.int .i64 x.op, .int .i64 x.n, .string x.name, .slice A x.kids.length c]
mutual
/-- The expressions at A, in blocks that are ok. -/
def KidsAt (w : World) (ok : Nat → Prop) : List Ex → Option Addr → Prop
  | [], _ => True
  | x :: r, A => ∃ b off, A = some ⟨b, off, none⟩ ∧ ok b ∧ OneAt w ok x b off ∧ KidsAt w ok r (some ⟨b, off + 4, none⟩)
def OneAt (w : World) (ok : Nat → Prop) : Ex → Nat → Nat → Prop
  | .mk op n s l, b, off => ∃ A c, w.cell? ⟨b, off, none⟩ = some (.int .i64 op) ∧ w.cell? ⟨b, off + 1, none⟩ = some (.int .i64 n) ∧ w.cell? ⟨b, off + 2, none⟩ = some (.string s) ∧
    w.cell? ⟨b, off + 3, none⟩ = some (.slice A l.length c) ∧ l.length ≤ c ∧ c ≤ maxLen ∧ KidsAt w ok l A
end
/-- The value v shows the expression x. -/
def ExAt (w : World) (ok : Nat → Prop) (x : Ex) (v : Value) : Prop := ∃ A c, v = x.val A c ∧ x.kids.length ≤ c ∧ c ≤ maxLen ∧ KidsAt w ok x.kids A

mutual
theorem kids_keep {w w' : World} {ok ok' : Nat → Prop} (ho : ∀ b, ok b → ok' b) (h : ∀ b o, ok b → w'.cell? ⟨b, o, none⟩ = w.cell? ⟨b, o, none⟩) : ∀ {l : List Ex} {A : Option Addr}, KidsAt w ok l A → KidsAt w' ok' l A
  | [], _, _ => by simp [KidsAt]
  | x :: r, A, k => by
    simp only [KidsAt] at k ⊢
    obtain ⟨b, off, e, hb, h1, h2⟩ := k
    exact ⟨b, off, e, ho b hb, one_keep ho h hb h1, kids_keep ho h h2⟩
theorem one_keep {w w' : World} {ok ok' : Nat → Prop} (ho : ∀ b, ok b → ok' b) (h : ∀ b o, ok b → w'.cell? ⟨b, o, none⟩ = w.cell? ⟨b, o, none⟩) : ∀ {x : Ex} {b off : Nat}, ok b → OneAt w ok x b off → OneAt w' ok' x b off
  | .mk op n s l, b, off, hb, k => by
    simp only [OneAt] at k ⊢
    obtain ⟨A, c, c0, c1, c2, c3, hl, hc, hk⟩ := k
    exact ⟨A, c, (h b _ hb).trans c0, (h b _ hb).trans c1, (h b _ hb).trans c2, (h b _ hb).trans c3, hl, hc, kids_keep ho h hk⟩
end
theorem ex_keep {w w' : World} {ok ok' : Nat → Prop} (ho : ∀ b, ok b → ok' b) (h : ∀ b o, ok b → w'.cell? ⟨b, o, none⟩ = w.cell? ⟨b, o, none⟩) {x : Ex} {v : Value} (k : ExAt w ok x v) : ExAt w' ok' x v := by
  obtain ⟨A, c, e, hl, hc, hk⟩ := k
  exact ⟨A, c, e, hl, hc, kids_keep ho h hk⟩
theorem kids_at {w : World} {ok : Nat → Prop} : ∀ {l : List Ex} {A : Option Addr} {i : Nat} (h : i < l.length), KidsAt w ok l A → ∃ b off, A = some ⟨b, off, none⟩ ∧ ok b ∧ OneAt w ok l[i] b (off + i * 4)
  | x :: r, A, 0, _, k => by
    simp only [KidsAt] at k
    obtain ⟨b, off, e, hb, h1, _⟩ := k
    exact ⟨b, off, e, hb, by simpa using h1⟩
  | x :: r, A, i + 1, h, k => by
    simp only [KidsAt] at k
    obtain ⟨b, off, e, hb, _, h2⟩ := k
    obtain ⟨b', off', e', hb', h1⟩ := kids_at (i := i) (by simpa using h) h2
    injection e' with e'; injection e' with e1 e2; subst e1; subst e2
    exact ⟨b, off, e, hb, by rw [show off + (i + 1) * 4 = off + 4 + i * 4 from by omega]; exact h1⟩
theorem kids_mk {w : World} {ok : Nat → Prop} {b : Nat} (hb : ok b) : ∀ {l : List Ex} {off : Nat}, (∀ i (h : i < l.length), OneAt w ok l[i] b (off + i * 4)) → KidsAt w ok l (some ⟨b, off, none⟩)
  | [], _, _ => by simp [KidsAt]
  | x :: r, off, k => by
    simp only [KidsAt]
    refine ⟨b, off, rfl, hb, (by
      have h0 : OneAt w ok x b (off + 0 * 4) := k 0 (by simp)
      rwa [Nat.zero_mul, Nat.add_zero] at h0), kids_mk hb fun i h => ?_⟩
    have := k (i + 1) (by simpa using h)
    rw [show off + (i + 1) * 4 = off + 4 + i * 4 from by omega] at this
    exact this
/-- The cells of one expression. -/
theorem one_cells {w : World} {ok : Nat → Prop} {x : Ex} {b off : Nat} (k : OneAt w ok x b off) : ∃ A c, w.cell? ⟨b, off, none⟩ = some (.int .i64 x.op) ∧ w.cell? ⟨b, off + 1, none⟩ = some (.int .i64 x.n) ∧ w.cell? ⟨b, off + 2, none⟩ = some (.string x.name) ∧
    w.cell? ⟨b, off + 3, none⟩ = some (.slice A x.kids.length c) ∧ x.kids.length ≤ c ∧ c ≤ maxLen ∧ KidsAt w ok x.kids A := by
  cases x
  simpa [OneAt, Ex.op, Ex.n, Ex.name, Ex.kids] using k
theorem one_mk {w : World} {ok : Nat → Prop} {x : Ex} {b off : Nat} {A : Option Addr} {c : Nat} (c0 : w.cell? ⟨b, off, none⟩ = some (.int .i64 x.op)) (c1 : w.cell? ⟨b, off + 1, none⟩ = some (.int .i64 x.n)) (c2 : w.cell? ⟨b, off + 2, none⟩ = some (.string x.name))
    (c3 : w.cell? ⟨b, off + 3, none⟩ = some (.slice A x.kids.length c)) (hl : x.kids.length ≤ c) (hc : c ≤ maxLen) (hk : KidsAt w ok x.kids A) : OneAt w ok x b off := by
  cases x
  simp only [OneAt, Ex.op, Ex.n, Ex.name, Ex.kids] at *
  exact ⟨A, c, c0, c1, c2, c3, hl, hc, hk⟩
end Go.Proofs.YtbiiempgefjkiaaDoor.Ar
