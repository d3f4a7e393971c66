/- Plain functions of the edits of a text (what the walks compute), with no program. -/
import Derived.Below
import Derived.Lib.Strings
import Derived.Deep.Draws
namespace Go.Proofs.Ytdiaghmkbplipaa
open Go.RowKit

structure Ed where
  f : Int
  t : Int
  s : ByteArray

def Ed.grow (e : Ed) : Int := (e.s.size : Int) - (e.t - e.f)

/-- What Valid gives, with the rest of the list, the end of the last edit and the size so far. -/
def vloop (n : Int) : Int → Int → List Ed → Int
  | _, size, [] => if 16384 < size then 3 else 0
  | last, size, e :: r => if e.f < 0 ∨ e.t < e.f ∨ n < e.t then 2 else if e.f < last then 25 else vloop n e.t (size + e.grow) r

def valid (s : ByteArray) (es : List Ed) : Int := if 256 < es.length then 4 else vloop s.size 0 s.size es

/-- The edits in memory: three cells each. -/
def EdAt (w : World) (B : Nat) (A : Option Addr) (es : List Ed) : Prop :=
  0 < es.length → ∃ b off, A = some ⟨b, off, none⟩ ∧ b < B ∧ ∀ i e, es[i]? = some e →
    w.cell? ⟨b, off + i * 3, none⟩ = some (.int .i64 e.f) ∧ w.cell? ⟨b, off + i * 3 + 1, none⟩ = some (.int .i64 e.t) ∧ w.cell? ⟨b, off + i * 3 + 2, none⟩ = some (.string e.s)

/-- Every text of the list is short, every number is one of int's. -/
def EdOk (es : List Ed) : Prop := es.length ≤ 300 ∧ ∀ e ∈ es, e.s.size ≤ 17000 ∧ -9223372036854775808 ≤ e.f ∧ e.f ≤ 9223372036854775807 ∧ -9223372036854775808 ≤ e.t ∧ e.t ≤ 9223372036854775807

theorem block_of_add (a : Addr) (n : Nat) : (a.add n).block = a.block := by unfold Addr.add; split <;> rfl

theorem EdAt.keep {w w' : World} {B : Nat} {A : Option Addr} {es : List Ed} (h : EdAt w B A es) (hk : ∀ p : Addr, p.block < B → w'.cell? p = w.cell? p) : EdAt w' B A es := by
  intro hn
  obtain ⟨b, off, e, hb, hc⟩ := h hn
  refine ⟨b, off, e, hb, fun i x hx => ?_⟩
  obtain ⟨h1, h2, h3⟩ := hc i x hx
  refine ⟨?_, ?_, ?_⟩ <;> rw [hk _ hb] <;> assumption
theorem EdAt.below {w w' : World} {B : Nat} {A : Option Addr} {es : List Ed} (h : EdAt w B A es) (hb : Below B w w') : EdAt w' B A es := h.keep fun _ hp => hb.cell hp
theorem EdAt.drewN {w : World} {B : Nat} {A : Option Addr} {es : List Ed} (h : EdAt w B A es) (n : Nat) : EdAt (w.drewN n) B A es := h
theorem EdAt.more {w : World} {B B' : Nat} {A : Option Addr} {es : List Ed} (h : EdAt w B A es) (hB : B ≤ B') : EdAt w B' A es := by
  intro hn
  obtain ⟨b, off, e, hb, hc⟩ := h hn
  exact ⟨b, off, e, by omega, hc⟩
end Go.Proofs.Ytdiaghmkbplipaa
