/- arith: the writer's methods expr and bare. -/
import Derived.Test.YtbiiempgefjkiaaDoorArU1
import Derived.StillTailTactics
import Derived.Deep.RegionWith
namespace Go.Proofs.YtbiiempgefjkiaaDoor.Ar
open Go.RowKit
set_option linter.unusedVariables false

theorem lvOf_le (op : Int) : lvOf op ≤ 14 := by
  unfold lvOf
  split
  · omega
  · split
    · omega
    · split
      · omega
      · split
        · omega
        · split
          · rename_i h; have := (bin_range h).2.2.2.1; omega
          · omega
theorem ShP.nilw {B X : Nat} {l : List UInt8} {w w' : World} (h : ShP B X l [] w w') : WrAt B X l w' := by
  have := h.wr
  rwa [List.append_nil] at this
/-- What the writer's methods ask of the world. -/
structure ShE (B : Nat) (w : World) : Prop where
  env : Env w
  tab : Tab w
  g1 : 0 < B
  g2 : 1 < B
theorem ShE.below {B : Nat} {w w' : World} (h : ShE B w) (hb : Below B w w') : ShE B w' :=
  ⟨env_below h.env hb h.g1, tab_below h.tab hb h.g2, h.g1, h.g2⟩
def ExpOk (N : Nat) : Prop := ∀ (B X : Nat) (x : Ex) (A : Option Addr) (c lv k : Nat) (t : List UInt8) (w : World), dep x ≤ N → valE x k = 0 → wfE x → ShE B w → KidsIn w B x.kids A → x.kids.length ≤ c → c ≤ maxLen → WrAt B X t w → B ≤ X → t.length + (wrapS lv (x.op, bare x)).length ≤ 1000000000 → lv ≤ 100 →
  Calls Tryd.prog 22 #[.pointer (some ⟨X, 0, none⟩), x.val A c, .int .i64 lv] w fun e w' => e = .returned (.tuple #[]) ∧ ShP B X t (wrapS lv (x.op, bare x)) w w'
def BareOk (N : Nat) : Prop := ∀ (B X : Nat) (x : Ex) (A : Option Addr) (c k : Nat) (t : List UInt8) (w : World), dep x ≤ N → valE x k = 0 → wfE x → ShE B w → KidsIn w B x.kids A → x.kids.length ≤ c → c ≤ maxLen → WrAt B X t w → B ≤ X → t.length + (bare x).length ≤ 1000000000 →
  Calls Tryd.prog 35 #[.pointer (some ⟨X, 0, none⟩), x.val A c] w fun e w' => e = .returned (.tuple #[]) ∧ ShP B X t (bare x) w w'
set_option maxHeartbeats 4000000 in
set_option maxRecDepth 100000 in
theorem exp_step (N : Nat) (ih : BareOk N) : ExpOk N := by
  intro B X x A c lv k t w hN hv hwf hE hK hlc hcm hW hBX hlen hlv
  have hX := wrAt_lt hW
  have HB := Lib.hid (fun (t : List UInt8) (W : World) (h1 : Below B w W) (h2 : WrAt B X t W) (h3 : t.length + (bare x).length ≤ 1000000000) => ih B X x A c k t W hN hv hwf (hE.below h1) (kidsIn_below hK h1 (Nat.le_refl _)) hlc hcm h2 hBX h3)
  have hb0 := (Below.refl w.heap.size w).alloc (Nat.le_refl _) (.cells #[.int .i64 x.op, .int .i64 x.n, .string x.name, .slice A x.kids.length c] 24)
  have hn0 := heap_alloc_new w (.cells #[.int .i64 x.op, .int .i64 x.n, .string x.name, .slice A x.kids.length c] 24)
  have HL := Lib.hid (levelOf_c x A c _ (env_next hE.env hb0))
  have hs0 := ShP.of hW hb0 hBX
  unfold wrapS at hlen ⊢
  unfold Ex.val at *
  generalize bare x = bx at *
  simp only at hlen ⊢
  generalize x.op = op, x.n = n, x.name = s, x.kids.length = l at *
  have hlo : lvOf op ≤ 14 := lvOf_le op
  generalize lvOf op = lo at *
  by_cases h : lv ≤ lo
  · rw [if_pos h] at hlen ⊢
    have d1 : decide ((lv : Int) ≤ (lo : Int)) = true := decide_eq_true (by omega)
    have d1' : decide (lv ≤ lo) = true := decide_eq_true h
    have Hn0 := Lib.hid hn0
    have Hs0 := Lib.hid hs0
    clear hE hK hv hwf hN hn0 hs0
    go_enter Tryd.func22, Tryd.ntmps22
    go_wp2_with fail
    refine HL.out.mono ?_
    rintro e w1 ⟨rfl, hb1⟩
    have hs1 := Hs0.out.nil_trans (ShP.of Hs0.out.nilw hb1 hBX)
    have hn1 := (hb1.block _ (by simp)).trans Hn0.out
    have c0 : w1.cell? ⟨w.heap.size, 0, none⟩ = some (.int .i64 op) := by rw [Lib.cell_of_heap hn1]; rfl
    have c1 : w1.cell? ⟨w.heap.size, 1, none⟩ = some (.int .i64 n) := by rw [Lib.cell_of_heap hn1]; rfl
    have c2 : w1.cell? ⟨w.heap.size, 2, none⟩ = some (.string s) := by rw [Lib.cell_of_heap hn1]; rfl
    have c3 : w1.cell? ⟨w.heap.size, 3, none⟩ = some (.slice A l c) := by rw [Lib.cell_of_heap hn1]; rfl
    have HB1 := Lib.hid (HB.out t w1 hs1.bel hs1.nilw hlen)
    have Hs1 := Lib.hid hs1
    clear hb1 hn1 HL HB hs1
    go_wp2_with fail
    refine HB1.out.mono ?_
    rintro e w2 ⟨rfl, hs2⟩
    have Hf := Lib.hid (Hs1.out.nil_trans hs2)
    clear hs2
    go_wp2_with fail
    exact bodyPost_ret (v := .tuple #[]) (by simp [results, Tryd.results22, go_sem]) rfl ⟨rfl, Hf.out⟩
  · rw [if_neg h] at hlen ⊢
    have d1 : decide ((lv : Int) ≤ (lo : Int)) = false := decide_eq_false (by omega)
    have d1' : decide (lv ≤ lo) = false := decide_eq_false h
    simp only [List.length_cons, List.length_append, List.length_nil] at hlen
    have Hn0 := Lib.hid hn0
    have Hs0 := Lib.hid hs0
    have Hlen := Lib.hid hlen
    clear hE hK hv hwf hN hn0 hs0 hlen
    go_enter Tryd.func22, Tryd.ntmps22
    go_wp2_with fail
    refine HL.out.mono ?_
    rintro e w1 ⟨rfl, hb1⟩
    have hs1 := Hs0.out.nil_trans (ShP.of Hs0.out.nilw hb1 hBX)
    have Hn1 := Lib.hid ((hb1.block _ (by simp)).trans Hn0.out)
    have HW1 := Lib.hid (writeW B X t ⟨#[40]⟩ w1 hs1.nilw (by have := Hlen.out; show t.length + 1 ≤ _; omega) hBX)
    have Hs1 := Lib.hid hs1
    clear hb1 HL hs1 Hn0 Hs0
    go_wp2_with fail
    refine HW1.out.mono ?_
    rintro e w2 ⟨rfl, hs2⟩
    replace hs2 : ShP B X t [40] w1 w2 := hs2
    have hn2 := hs2.box Hn1.out (by omega) (by decide)
    have c0 : w2.cell? ⟨w.heap.size, 0, none⟩ = some (.int .i64 op) := by rw [Lib.cell_of_heap hn2]; rfl
    have c1 : w2.cell? ⟨w.heap.size, 1, none⟩ = some (.int .i64 n) := by rw [Lib.cell_of_heap hn2]; rfl
    have c2 : w2.cell? ⟨w.heap.size, 2, none⟩ = some (.string s) := by rw [Lib.cell_of_heap hn2]; rfl
    have c3 : w2.cell? ⟨w.heap.size, 3, none⟩ = some (.slice A l c) := by rw [Lib.cell_of_heap hn2]; rfl
    have hs12 := Hs1.out.nil_trans hs2
    have HB2 := Lib.hid (HB.out (t ++ [40]) w2 hs12.bel hs12.wr (by have := Hlen.out; simp; omega))
    have Hs2 := Lib.hid hs12
    clear hs2 hn2 HW1 HB hs12 Hs1 Hn1
    go_wp2_with fail
    refine HB2.out.mono ?_
    rintro e w3 ⟨rfl, hs3⟩
    have hs23 := Hs2.out.trans hs3
    have HW3 := Lib.hid (writeW B X (t ++ ([40] ++ bx)) ⟨#[41]⟩ w3 hs23.wr (by have := Hlen.out; show _ + 1 ≤ _; simp; omega) hBX)
    have Hs3 := Lib.hid hs23
    clear hs3 hs23 HB2 Hs2 c0 c1 c2 c3
    go_wp2_with fail
    refine HW3.out.mono ?_
    rintro e w4 ⟨rfl, hs4⟩
    have hf : ShP B X t (([40] ++ bx) ++ [41]) w w4 := Hs3.out.trans hs4
    have Hf := Lib.hid hf
    clear hs4 hf
    go_wp2_with fail
    go_end0
    exact ⟨rfl, by have := Hf.out; rw [List.append_assoc] at this; exact this⟩
def BareAt (N : Nat) (x : Ex) : Prop := ∀ (B X : Nat) (A : Option Addr) (c k : Nat) (t : List UInt8) (w : World), dep x ≤ N → valE x k = 0 → wfE x → ShE B w → KidsIn w B x.kids A → x.kids.length ≤ c → c ≤ maxLen → WrAt B X t w → B ≤ X → t.length + (bare x).length ≤ 1000000000 →
  Calls Tryd.prog 35 #[.pointer (some ⟨X, 0, none⟩), x.val A c] w fun e w' => e = .returned (.tuple #[]) ∧ ShP B X t (bare x) w w'
theorem kids_some {w : World} {B : Nat} {l : List Ex} {A : Option Addr} (h : 0 < l.length) (hK : KidsIn w B l A) : ∃ b off, A = some ⟨b, off, none⟩ ∧ b < B := by
  obtain ⟨b, off, A', c', e, hb, _⟩ := kids_cells h hK
  exact ⟨b, off, e, hb⟩
theorem kid_pack (N : Nat) (ih : ExpOk N) {B X : Nat} {l : List Ex} {b off k : Nat} {w : World} (i : Nat) (hi : i < l.length) (hd : dep l[i] ≤ N) (hv : valE l[i] k = 0) (hwf : wfE l[i]) (hE : ShE B w) (hK : KidsIn w B l (some ⟨b, off, none⟩)) (hBX : B ≤ X) :
    ∃ (y : Ex) (A' : Option Addr) (c' : Nat), (∀ W, Below B w W → W.cell? ⟨b, off + i * 4, none⟩ = some (.int .i64 y.op) ∧ W.cell? ⟨b, off + i * 4 + 1, none⟩ = some (.int .i64 y.n) ∧ W.cell? ⟨b, off + i * 4 + 2, none⟩ = some (.string y.name) ∧ W.cell? ⟨b, off + i * 4 + 3, none⟩ = some (.slice A' y.kids.length c')) ∧
      (∀ (lv : Nat) (t : List UInt8) (W : World), Below B w W → WrAt B X t W → t.length + (wrapS lv (kid (bareK l) i)).length ≤ 1000000000 → lv ≤ 100 →
        Calls Tryd.prog 22 #[.pointer (some ⟨X, 0, none⟩), .agg #[.int .i64 y.op, .int .i64 y.n, .string y.name, .slice A' y.kids.length c'], .int .i64 lv] W fun e w' => e = .returned (.tuple #[]) ∧ ShP B X t (wrapS lv (kid (bareK l) i)) W w') := by
  obtain ⟨b', off', A', c', e, hb, c0, c1, c2, c3, hl, hc, hk⟩ := kids_cells hi hK
  injection e with e
  injection e with e1 e2 e3
  subst e1 e2
  refine ⟨l[i], A', c', fun W h => ⟨(h.cell (p := ⟨b, _, none⟩) hb).trans c0, (h.cell (p := ⟨b, _, none⟩) hb).trans c1, (h.cell (p := ⟨b, _, none⟩) hb).trans c2, (h.cell (p := ⟨b, _, none⟩) hb).trans c3⟩, ?_⟩
  intro lv t W h1 h2 h3 h4
  rw [kid_at hi] at h3 ⊢
  exact ih B X l[i] A' c' lv k t W hd hv hwf (hE.below h1) (kidsIn_below hk h1 (Nat.le_refl _)) hl hc h2 hBX h3 h4
end Go.Proofs.YtbiiempgefjkiaaDoor.Ar
