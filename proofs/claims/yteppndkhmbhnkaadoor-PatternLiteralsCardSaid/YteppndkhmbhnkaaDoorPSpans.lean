/- pattern: (byteSet).spans. -/
import Derived.Test.YteppndkhmbhnkaaDoorPAdd
import Derived.Deep.QuietTactic
import Derived.BigQuiet
import Derived.Deep.AppendLies
namespace Go.Proofs.YteppndkhmbhnkaaDoor
open Go.RowKit
set_option linter.unusedVariables false

def setHi : List (Nat × Nat) → Nat → List (Nat × Nat)
  | [], _ => []
  | [(a, _)], h => [(a, h)]
  | p :: q :: r, h => p :: setHi (q :: r) h
theorem setHi_last (l : List (Nat × Nat)) (a b h : Nat) : setHi (l ++ [(a, b)]) h = l ++ [(a, h)] := by
  induction l with
  | nil => rfl
  | cons p l ih =>
    cases l with
    | nil => rfl
    | cons q r => rw [List.cons_append, List.cons_append, setHi]; rw [List.cons_append] at ih; rw [ih]; rfl
/-- The spans of the numbers below k. -/
def spL (S : Nat → Bool) : Nat → List (Nat × Nat)
  | 0 => []
  | k + 1 => if S k = false then spL S k else if (decide (0 < k) && S (k - 1)) = true then setHi (spL S k) k else spL S k ++ [(k, k)]
theorem spL_last (S : Nat → Bool) : ∀ (k : Nat), S k = true → ∃ l a, spL S (k + 1) = l ++ [(a, k)] ∧ a ≤ k
  | 0, h => ⟨[], 0, by rw [spL, if_neg (by rw [h]; simp), if_neg (by simp)]; rfl, Nat.le_refl _⟩
  | k + 1, h => by
    rw [spL, if_neg (by rw [h]; simp)]
    by_cases h1 : S k = true
    · obtain ⟨l, a, h2, h3⟩ := spL_last S k h1
      rw [if_pos (by simp [h1]), h2, setHi_last]
      exact ⟨l, a, rfl, by omega⟩
    · rw [if_neg (by simp [h1])]
      exact ⟨_, _, rfl, Nat.le_refl _⟩
theorem spL_len (S : Nat → Bool) : ∀ (k : Nat), (spL S k).length ≤ k
  | 0 => Nat.le_refl _
  | k + 1 => by
    have := spL_len S k
    rw [spL]
    split
    · omega
    · split
      · rename_i h1 h2
        simp only [Bool.and_eq_true, decide_eq_true_eq] at h2
        obtain ⟨l, a, h3, _⟩ := spL_last S (k - 1) h2.2
        rw [show k - 1 + 1 = k from by omega] at h3
        rw [h3, setHi_last]
        rw [h3] at this
        simp at this ⊢
        omega
      · simp; omega

def spCells (l : List (Nat × Nat)) : List Value := l.flatMap fun p => [.int .u8 (p.1 : Nat), .int .u8 (p.2 : Nat)]
theorem spCells_append (l m : List (Nat × Nat)) : spCells (l ++ m) = spCells l ++ spCells m := by simp [spCells]
theorem spCells_length (l : List (Nat × Nat)) : (spCells l).length = l.length * 2 := by
  induction l with
  | nil => rfl
  | cons p l ih => rw [spCells, List.flatMap_cons, List.length_append]; unfold spCells at ih; rw [ih]; simp; omega
theorem spCells_setHi (l : List (Nat × Nat)) (a b h : Nat) : (spCells (l ++ [(a, b)])).set (l.length * 2 + 1) (.int .u8 (h : Nat)) = spCells (l ++ [(a, h)]) := by
  rw [spCells_append, spCells_append, List.set_append_right _ _ (by rw [spCells_length]; omega), spCells_length, Nat.add_sub_cancel_left]
  rfl
/-- A slice of fresh spans. -/
def OwnSp (w : World) (B : Nat) (v : Value) (l : List (Nat × Nat)) : Prop := w.ownsRow B 68 2 v l.length (spCells l)
theorem spanInfo : (Tryd.prog.info? 68).map (fun i => (i.zero, i.size, i.bytes)) = some (some (.agg #[.int .u8 0, .int .u8 0]), 2, 2) := by kernel_rfl

set_option maxHeartbeats 8000000 in
set_option maxRecDepth 100000 in
theorem spans_c (g : Nat) (S : Nat → Bool) (w : World) (hS : SetAt w g S) :
    Calls Tryd.prog 114 #[.pointer (some ⟨g, 0, none⟩)] w fun e w' => ∃ v, e = .returned v ∧ OwnSp w' w.heap.size v (spL S 256) ∧ Below w.heap.size w w' := by
  obtain ⟨i0, hi, hz0, hz1, hz2⟩ := info_parts spanInfo
  go_enter Tryd.func114, Tryd.ntmps114
  go_wp2_with fail
  go_loopw [3, 8] (fun lv iv wr => ∃ (k : Nat), iv = .int .i64 k ∧ k ≤ 256 ∧ OwnSp wr w.heap.size lv (spL S k) ∧ Below w.heap.size w wr) (fun _ iv _ => 256 - (intOf iv).toNat)
  case atStart => exact ⟨0, rfl, by omega, ⟨rfl, .inl ⟨rfl, rfl⟩⟩, Below.refl _ _⟩
  case round =>
    obtain ⟨k, rfl, hk, ho, hb⟩ := hrel
    by_cases hlt : k < 256
    · have d1 : decide ((k : Int) < 256) = true := decide_eq_true (by omega)
      have d1' : decide (k < 256) = true := decide_eq_true hlt
      have hSr := setAt_below hS hb hS.1
      obtain ⟨ck, _⟩ := hSr.2 k hlt
      have i1 : 0 ≤ (k : Int) ∧ (k : Int) < 256 := by omega
      have i2 : (k : Int).toNat = k := by omega
      have hsp : spL S (k + 1) = if S k = false then spL S k else if (decide (0 < k) && S (k - 1)) = true then setHi (spL S k) k else spL S k ++ [(k, k)] := rfl
      have Hsp := Lib.hid hsp
      have HSr := Lib.hid hSr
      clear hsp hSr
      have hw8 : IntKind.u8.wrap (k : Int) = (k : Int) := IntWalk.u8_in _ (by omega)
      go_wp2_with fail
      go_region_held3 (fun w' => w'.cell? ⟨g, k, none⟩ = some (.bool (S k)) ∧ Below w.heap.size w w') (first | (exact ⟨ck, hb.drew⟩) | assumption | go_keep) (fail)
      have ho1 : OwnSp wr.drew w.heap.size u3 (spL S k) := World.ownsRow.drew ho
      have hb1 : Below w.heap.size w wr.drew := hb.drew
      have hS1 : SetAt wr.drew g S := ⟨HSr.out.1, fun j hj => HSr.out.2 j hj⟩
      clear ck HSr ho hb
      generalize wr.drew = w2 at *
      have hwsz := hb1.size
      rcases hSk : S k with _ | _
      · have hq : spL S (k + 1) = spL S k := by rw [Hsp.out, if_pos hSk]
        have Hq : Hid (OwnSp w2 w.heap.size u3 (spL S (k + 1))) := Lib.hid (by rw [hq]; exact ho1)
        clear hq ho1 hSk
        go_wp2_with fail
        go_roundw
        case rel => exact ⟨k + 1, by go_num, by omega, Hq.out, hb1⟩
        case measure => simp [intOf]; omega
      by_cases hpre : 0 < k ∧ S (k - 1) = true
      · obtain ⟨hk0, hSp⟩ := hpre
        have hq : spL S (k + 1) = setHi (spL S k) k := by rw [Hsp.out, if_neg (by rw [hSk]; simp), if_pos (by simp [hk0, hSp])]
        obtain ⟨l', a, hl, _⟩ := spL_last S (k - 1) hSp
        rw [show k - 1 + 1 = k from by omega] at hl
        rw [hl, setHi_last] at hq
        rw [hl] at ho1
        unfold OwnSp at ho1
        rw [List.length_append, List.length_singleton] at ho1
        have hlen := spL_len S k
        rw [hl, List.length_append, List.length_singleton] at hlen
        obtain ⟨g2, cap, rfl, hg2, hg2l⟩ := World.ownsRow.form ho1 (by omega)
        have hat := ho1.cellAt (l'.length * 2 + 1) (by omega)
        have hfr := ho1.frozenAt (l'.length * 2 + 1)
        have hst := (ho1.stored (l'.length * 2 + 1) (.int .u8 (k : Nat))).1
        rw [spCells_setHi] at hst
        have Hq : Hid (OwnSp (w2.setCell ⟨g2, l'.length * 2 + 1, none⟩ (.int .u8 (k : Nat))) w.heap.size (.slice (some ⟨g2, 0, none⟩) (l'.length + 1) cap) (spL S (k + 1))) := Lib.hid (by
          rw [hq]
          unfold OwnSp
          rw [List.length_append, List.length_singleton]
          exact hst)
        have hcx : w2.cell? ⟨g2, l'.length * 2 + 1, none⟩ = some (.int .u8 ((k - 1 : Nat) : Int)) := by
          rw [hat, spCells_append, List.getElem?_append_right (by rw [spCells_length]; omega), spCells_length, Nat.add_sub_cancel_left]
          rfl
        have cp := (hS1.2 (k - 1) (by omega)).1
        rw [hSp] at cp
        have t1 : decide ((0 : Int) < (k : Int)) = true := decide_eq_true (by omega)
        have t1' : decide (0 < k) = true := decide_eq_true hk0
        have j1 : (0 : Int) ≤ (k : Int) - 1 ∧ (k : Int) - 1 < 256 := by omega
        have j2 : ((k : Int) - 1).toNat = k - 1 := by omega
        have j3 : (0 : Int) < (l'.length : Int) + 1 := by omega
        have hbs := hb1.setCell (p := ⟨g2, l'.length * 2 + 1, none⟩) hg2 (.int .u8 (k : Nat))
        clear hst hat ho1 hq hl hS1
        go_wp2_with fail
        go_roundw
        case rel => exact ⟨k + 1, by go_num, by omega, Hq.out, hbs⟩
        case measure => simp [intOf]; omega
      · have hq : spL S (k + 1) = spL S k ++ [(k, k)] := by
          rw [Hsp.out, if_neg (by rw [hSk]; simp), if_neg]
          intro h
          simp only [Bool.and_eq_true, decide_eq_true_eq] at h
          exact hpre h
        have hlen := spL_len S k
        have hg : (decide ((0 : Int) < (k : Int)) = false ∧ decide (0 < k) = false) ∨ ((decide ((0 : Int) < (k : Int)) = true ∧ decide (0 < k) = true ∧ 0 < k) ∧ w2.cell? ⟨g, k - 1, none⟩ = some (.bool false)) := by
          by_cases h0 : 0 < k
          · right
            refine ⟨⟨decide_eq_true (by omega), decide_eq_true h0, h0⟩, ?_⟩
            rw [(hS1.2 (k - 1) (by omega)).1]
            rcases hh : S (k - 1) with _ | _
            · rfl
            · exact absurd ⟨h0, hh⟩ hpre
          · left; exact ⟨decide_eq_false (by omega), decide_eq_false h0⟩
        have hoa : (w2.alloc (.cells #[.int .u8 (k : Nat), .int .u8 (k : Nat)] 68)).ownsRow w.heap.size 68 2 u3 (spL S k).length (spCells (spL S k)) := World.ownsRow.alloc ho1 _
        have hba : Below w.heap.size w (w2.alloc (.cells #[.int .u8 (k : Nat), .int .u8 (k : Nat)] 68)) := hb1.alloc hwsz _
        have Hq := Lib.hid hq
        clear hq hpre hS1 hSk Hsp
        rcases hg with ⟨g1, g1'⟩ | ⟨⟨g1, g1', g2⟩, cp⟩
        all_goals
          first | have j1 : (0 : Int) ≤ (k : Int) - 1 ∧ (k : Int) - 1 < 256 := by omega
                | skip
          first | have j2 : ((k : Int) - 1).toNat = k - 1 := by omega
                | skip
          go_wp2_with (at_builtin; refine wpList_append_own _ rfl _ _ 41 rfl w.heap.size 68 i0 _ 2 2 Tryd.underlying41 hi hz0 hz1 hz2 rfl (by decide) _ _ _ rfl hoa ⟨w2.heap.size, 0, none⟩ 1 1 [.int .u8 (k : Nat), .int .u8 (k : Nat)] rfl rfl (World.news_of_block (cs := #[.int .u8 (k : Nat), .int .u8 (k : Nat)]) (t := 68) (fr := (0, 0)) (heap_alloc_new w2 _)) (by intro u hu; simp at hu; rcases hu with rfl | rfl <;> rfl) (by unfold maxLen; omega) (by omega) (by simp; omega) ?_)
          intro v' w3 hown' hgrow _
          have hb3 : Below w.heap.size w w3 := hba.grown hgrow (by simp; omega) (fun q hq => (hoa.lt q hq).1)
          have Ho3 : Hid (OwnSp w3 w.heap.size v' (spL S (k + 1))) := Lib.hid (by
            rw [Hq.out]
            unfold OwnSp
            rw [List.length_append, spCells_append]
            exact hown')
          clear hown' hgrow hoa hba Hq ho1
          go_wp2_with fail
          go_roundw
          case rel => exact ⟨k + 1, by go_num, by omega, Ho3.out, hb3⟩
          case measure => simp [intOf]; omega
    · have hk6 : k = 256 := by omega
      subst hk6
      have d1 : decide (((256 : Nat) : Int) < 256) = false := by decide
      go_wp2_with fail
      go_ret
      exact ⟨_, rfl, ho, hb⟩
end Go.Proofs.YteppndkhmbhnkaaDoor
