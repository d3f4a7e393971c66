/- alias: what a token is replaced by. -/
import Derived.Test.YticehbhedoploaaGreatDoorAlZ
namespace Go.Proofs.YticehbhedoploaaGreatDoor
open Go.RowKit
set_option linter.unusedVariables false

set_option maxRecDepth 100000 in
theorem mapA_look {h n : Nat} {l : List ByteArray} {W : World} (H : MapA h n l W) (t : ByteArray) (ht : t.size ≤ maxLen) : (Instr.lookup 64 (.map (some h)) (.string t) false).run Tryz.prog W = .ok (.bool (actB l t)) W := by
  obtain ⟨D, ho, hD⟩ := H
  obtain ⟨v, ps, hr, hv⟩ := ho.lookup (Maps.string_keyed Tryz.underlying9) Tryz.underlying64 (z := .bool false) (by kernel_rfl) (plainElem_bool Tryz.underlying4 false) (Go.WideMaps.keyOf_string_mk Tryz.underlying9 ht)
  rw [hD t] at hv
  have hvb : v = .bool (actB l t) := by
    unfold plainElem at hv
    rw [Tryz.underlying4] at hv
    cases v <;> simp_all
  rw [hr, hvb]
def goesB (x : Ex) (t : Tk) : Bool := x.cmd && (decide (t.kind = 1) && !actB x.act t.text)
def subL (al : List Al) (x : Ex) (t : Tk) : ByteArray × Bool := if goesB x t = true then getL al t.text else (⟨#[]⟩, false)
def tokObj (t : Tk) : Obj := .cells #[.int .i64 t.kind, .int .i64 t.pos, .int .i64 t.fin, .string t.text] 118
set_option maxHeartbeats 4000000 in
set_option maxRecDepth 100000 in
theorem subst_c (B X h : Nat) (A : Option Addr) (c : Nat) (al : List Al) (x : Ex) (t : Tk) (w : World) (H : ExAt B X h (.slice A al.length c) x w) (hA : AlAt w B A al) (hl : al.length ≤ 1000000) (ht : t.text.size ≤ 1000000000) (hB : B ≤ w.heap.size) :
    Calls Tryz.prog 75 #[.pointer (some ⟨X, 0, none⟩), t.val] w fun e w' => e = .returned (.tuple #[.string (subL al x t).1, .bool (subL al x t).2]) ∧ Below w.heap.size w w' := by
  obtain ⟨p0, buf, vals, h1, h2, h3, h4, h5, h6, h7⟩ := H
  have hXw : X < w.heap.size := by unfold ExC at h1; rw [Array.getElem?_eq_some_iff] at h1; exact h1.1
  obtain ⟨W, hW⟩ : ∃ W, W = w.alloc (tokObj t) := ⟨_, rfl⟩
  have hbW : Below w.heap.size w W := by rw [hW]; exact (Below.refl _ w).alloc (Nat.le_refl _) _
  have h1W : ExC X p0 buf (.string x.rest) (.slice A al.length c) vals (.map (some h)) (.bool x.cmd) (.string ⟨#[]⟩) (.slice none 0 0) W := (hbW.block X hXw).trans h1
  have hmW : MapA h x.cnt x.act W := mapA_at h5 (fun es ck hm => hbW.block h (by rw [Array.getElem?_eq_some_iff] at hm; exact hm.1))
  have htW : W.heap[w.heap.size]? = some (tokObj t) := by rw [hW]; exact heap_alloc_new _ _
  have c3 : W.cell? ⟨X, 3, none⟩ = some (.slice A al.length c) := by rw [Lib.cell_of_heap h1W]; rfl
  have c5 : W.cell? ⟨X, 5, none⟩ = some (.map (some h)) := by rw [Lib.cell_of_heap h1W]; rfl
  have c6 : W.cell? ⟨X, 6, none⟩ = some (.bool x.cmd) := by rw [Lib.cell_of_heap h1W]; rfl
  have k0 : W.cell? ⟨w.heap.size, 0, none⟩ = some (.int .i64 t.kind) := by rw [cell_of_row W _ 0 _ _ _ htW]; rfl
  have k3 : W.cell? ⟨w.heap.size, 3, none⟩ = some (.string t.text) := by rw [cell_of_row W _ 3 _ _ _ htW]; rfl
  have hlk : ∀ n, (Instr.lookup 64 (.map (some h)) (.string t.text) false).run Tryz.prog (W.drewN n) = .ok (.bool (actB x.act t.text)) (W.drewN n) := fun n =>
    mapA_look (mapA_at hmW (fun _ _ _ => drewN_heap n W h)) t.text (by unfold maxLen; omega)
  have HG : Hid (∀ V : World, Below w.heap.size w V → Calls Tryz.prog 24 #[.slice A al.length c, .string t.text] V fun e w' => e = .returned (.tuple #[.string (getL al t.text).1, .bool (getL al t.text).2]) ∧ Below V.heap.size V w') := Lib.hid (fun V hV =>
    Get_c A al c t.text V (alAt_mono (alAt_below hA hV hB) (by have := hV.size; omega)) hl)
  unfold subL goesB
  have HXW : Hid (X < W.drew.drew.heap.size) := Lib.hid (by show X < W.heap.size; have := hbW.size; omega)
  have HTW : Hid (w.heap.size < W.drew.drew.heap.size) := Lib.hid (by show _ < W.heap.size; rw [Array.getElem?_eq_some_iff] at htW; exact htW.1)
  have hWe : w.alloc (.cells #[.int .i64 t.kind, .int .i64 t.pos, .int .i64 t.fin, .string t.text] 118) = W := hW.symm
  clear h1 h2 h3 h4 h5 h1W hmW htW hW hA
  show Calls Tryz.prog 75 #[.pointer (some ⟨X, 0, none⟩), .agg #[.int .i64 t.kind, .int .i64 t.pos, .int .i64 t.fin, .string t.text]] w _
  obtain ⟨cm, hcm⟩ : ∃ cm, cm = x.cmd := ⟨_, rfl⟩
  rw [← hcm] at c6 ⊢
  obtain ⟨ab, hab⟩ : ∃ ab, ab = actB x.act t.text := ⟨_, rfl⟩
  rw [← hab]
  rw [← hab] at hlk
  clear hcm hab
  rcases cm with _ | _
  · go_enter Tryz.func75, Tryz.ntmps75
    go_wp2_with fail
    go_quiet (fail)
    go_wp2_with fail
    go_ret2
    exact ⟨rfl, below_drewN hbW _⟩
  by_cases hk : t.kind = 1
  · have d1 : ((t.kind : Int) != 1) = false := by rw [bne_eq_false_iff_eq]; omega
    have d1' : ((t.kind : Int) == 1) = true := by rw [beq_iff_eq]; omega
    rw [decide_eq_true hk]
    clear hk
    rcases ab with _ | _
    · have hlk1 : (Instr.lookup 64 (.map (some h)) (.string t.text) false).run Tryz.prog W.drew = .ok (.bool false) W.drew := hlk 1
      clear hlk
      go_enter Tryz.func75, Tryz.ntmps75
      go_wp2_with fail
      go_region_held3 (fun V => V.cell? ⟨X, 5, none⟩ = some (.map (some h)) ∧ V.cell? ⟨X, 6, none⟩ = some (.bool true) ∧ V.cell? ⟨w.heap.size, 0, none⟩ = some (.int .i64 t.kind) ∧ V.cell? ⟨w.heap.size, 3, none⟩ = some (.string t.text) ∧ (Instr.lookup 64 (.map (some h)) (.string t.text) false).run Tryz.prog V = .ok (.bool false) V ∧ Below w.heap.size w V)
        (exact ⟨c5, c6, k0, k3, hlk1, hbW.drew⟩)
        (fail)
      go_wp2_with fail
      go_region_held3 (fun V => V.cell? ⟨X, 3, none⟩ = some (.slice A al.length c) ∧ V.cell? ⟨w.heap.size, 3, none⟩ = some (.string t.text) ∧ Below w.heap.size w V)
        (first | exact ⟨c3, k3, hbW.drew.drew⟩ | exact ⟨g3, g4, g5⟩)
        ((go_at_call 24; refine (HG.out _ (by first | assumption | exact hbW.drew.drew)).mono ?_; rintro e w7 ⟨rfl, hb7⟩; have g3 := (hb7.cell (p := ⟨X, 3, none⟩) HXW.out).trans c3; have g4 := (hb7.cell (p := ⟨w.heap.size, 3, none⟩) HTW.out).trans k3; have g5 := hbW.drew.drew.trans (hb7.mono (Nat.le_of_lt HTW.out))))
      go_wp2_with fail
      go_ret2
      exact ⟨rfl, g5⟩
    · have hlk1 : (Instr.lookup 64 (.map (some h)) (.string t.text) false).run Tryz.prog W.drew = .ok (.bool true) W.drew := hlk 1
      clear hlk
      go_enter Tryz.func75, Tryz.ntmps75
      go_wp2_with fail
      go_region_held3 (fun V => V.cell? ⟨X, 5, none⟩ = some (.map (some h)) ∧ V.cell? ⟨X, 6, none⟩ = some (.bool true) ∧ V.cell? ⟨w.heap.size, 0, none⟩ = some (.int .i64 t.kind) ∧ V.cell? ⟨w.heap.size, 3, none⟩ = some (.string t.text) ∧ (Instr.lookup 64 (.map (some h)) (.string t.text) false).run Tryz.prog V = .ok (.bool true) V ∧ Below w.heap.size w V)
        (exact ⟨c5, c6, k0, k3, hlk1, hbW.drew⟩)
        (fail)
      go_wp2_with fail
      go_ret2
      exact ⟨rfl, hbW.drew⟩
  · have d1 : ((t.kind : Int) != 1) = true := by rw [bne_iff_ne]; omega
    have d1' : ((t.kind : Int) == 1) = false := by rw [beq_eq_false_iff_ne]; omega
    rw [decide_eq_false hk]
    clear hk
    clear hlk
    go_enter Tryz.func75, Tryz.ntmps75
    go_wp2_with fail
    go_quiet (fail)
    go_wp2_with fail
    go_ret2
    exact ⟨rfl, below_drewN hbW _⟩
end Go.Proofs.YticehbhedoploaaGreatDoor
