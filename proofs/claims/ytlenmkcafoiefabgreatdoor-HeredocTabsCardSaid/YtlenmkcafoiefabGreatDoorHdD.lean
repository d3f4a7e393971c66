/- heredoc: the lines that are taken. -/
import Derived.Test.YtlenmkcafoiefabGreatDoorHdT
import Derived.RangeFuncWrites
import Derived.Maps.OwnIn
import Derived.Maps.Views
import Derived.StringKeys
namespace Go.Proofs.YtlenmkcafoiefabGreatDoor
open Go.RowKit Go.Shelf
attribute [local go_sem] Oper.semAt_some
set_option linter.unusedVariables false

/-- The lines, without their newlines, that are t. -/
def tookB (l : List (Nat × ByteArray)) (t : ByteArray) : Bool := l.any fun x => decide (chop x.2 = t)
theorem tookB_snoc (l : List (Nat × ByteArray)) (x : Nat × ByteArray) (t : ByteArray) : tookB (l ++ [x]) t = (tookB l t || decide (chop x.2 = t)) := by simp [tookB]
/-- What the map holds. -/
def MapSt (h n : Nat) (l : List (Nat × ByteArray)) (W : World) : Prop :=
  ∃ D : DataW Unit, W.ownsMap Tryz.prog 9 (plainElem Tryz.prog 4) h n D ∧ ∀ t : ByteArray, D.atKey (.string t.data.toList) (.lit (.bool false)) = .lit (.bool (tookB l t))
theorem ba_inj {a b : ByteArray} (h : a.data.toList = b.data.toList) : a = b := by
  apply ByteArray.ext
  exact Array.toList_inj.1 h
theorem map_put {h n : Nat} {l : List (Nat × ByteArray)} {W : World} (hm : MapSt h n l W) (x : Nat × ByteArray) (hn : n < maxLen) (hx : (chop x.2).size ≤ maxLen) :
    ∃ w', (Instr.mapUpdate 48 (.map (some h)) (.string (chop x.2)) (.bool true)).run Tryz.prog W = .ok () w' ∧ MapSt h (n + 1) (l ++ [x]) w' ∧ W.grownBy w' (some h) := by
  obtain ⟨D, ho, hD⟩ := hm
  obtain ⟨w', hr, h1, h2⟩ := ho.update (Maps.string_keyed Tryz.underlying9) Tryz.underlying48 hn (Go.WideMaps.keyOf_string_mk Tryz.underlying9 hx) (plainElem_bool Tryz.underlying4 true)
  refine ⟨w', hr, ⟨_, h1, fun t => ?_⟩, h2⟩
  rw [tookB_snoc]
  by_cases e : chop x.2 = t
  · rw [← e, Maps.atKey_put_same ho.isMap (by trivial), decide_eq_true rfl, Bool.or_true]
  · rw [Maps.atKey_put_other (fun h => e (ba_inj (by simpa using h.symm))), hD, decide_eq_false e, Bool.or_false]
theorem map_own {h n B : Nat} {l : List (Nat × ByteArray)} {A C : World} {row : Option Nat} (hm : MapSt h n l A) (hg : A.grownBy C row) (hr : ∀ r, row = some r → B ≤ r ∧ ∃ o : Obj, A.heap[r]? = some o ∧ o.isCells = false) (hB : h < B) : MapSt h n l C := by
  obtain ⟨D, ho, hD⟩ := hm
  exact ⟨D, ho.kept hg (fun e => by have := (hr _ e.symm).1; omega), hD⟩
theorem four_alloc (w : World) (o1 o2 o3 o4 : Obj) : ∀ W : World, W = (((w.alloc o1).alloc o2).alloc o3).alloc o4 →
    W.heap.size = w.heap.size + 4 ∧ Below w.heap.size w W ∧ W.heap[w.heap.size]? = some o1 ∧ W.heap[w.heap.size + 1]? = some o2 ∧ W.heap[w.heap.size + 1 + 1]? = some o3 ∧ W.heap[w.heap.size + 1 + 1 + 1]? = some o4 := by
  rintro W rfl
  have n1 := heap_alloc_new w o1
  have n2 := heap_alloc_new (w.alloc o1) o2
  have n3 := heap_alloc_new ((w.alloc o1).alloc o2) o3
  have n4 := heap_alloc_new (((w.alloc o1).alloc o2).alloc o3) o4
  simp only [World.size_alloc] at n2 n3 n4
  refine ⟨by simp, ?_, ?_, ?_, ?_, n4⟩
  · exact ((((Below.refl _ w).alloc (Nat.le_refl _) _).alloc (by simp) _).alloc (by simp <;> omega) _).alloc (by simp <;> omega) _
  · rw [Below.heap_alloc _ _ _ (by simp <;> omega), Below.heap_alloc _ _ _ (by simp <;> omega), Below.heap_alloc _ _ _ (by simp)]; exact n1
  · rw [Below.heap_alloc _ _ _ (by simp <;> omega), Below.heap_alloc _ _ _ (by simp)]; exact n2
  · rw [Below.heap_alloc _ _ _ (by simp)]; exact n3
set_option maxRecDepth 100000 in
theorem map_look {h n : Nat} {l : List (Nat × ByteArray)} {W : World} (hm : MapSt h n l W) (t : ByteArray) (ht : t.size ≤ maxLen) : (Instr.lookup 48 (.map (some h)) (.string t) false).run Tryz.prog W = .ok (.bool (tookB l t)) W := by
  obtain ⟨D, ho, hD⟩ := hm
  obtain ⟨v, ps, hr, hv⟩ := ho.lookup (Maps.string_keyed Tryz.underlying9) Tryz.underlying48 (z := .bool false) (by kernel_rfl) (plainElem_bool Tryz.underlying4 false) (Go.WideMaps.keyOf_string_mk Tryz.underlying9 ht)
  rw [hD t] at hv
  have hvb : v = .bool (tookB l t) := by
    unfold plainElem at hv
    rw [Tryz.underlying4] at hv
    cases v <;> simp_all
  rw [hr, hvb]
theorem dec_eq (u : Nat) : Lib.decDigits u = if u < 10 then [UInt8.ofNat (48 + u)] else Lib.decDigits (u / 10) ++ [UInt8.ofNat (48 + u % 10)] := by
  rw [Lib.decDigits]
  split <;> rfl
theorem dec_ne (u : Nat) : Lib.decDigits u ≠ [] := by
  rw [dec_eq]; split <;> simp
theorem dig_inj {a b : Nat} (ha : a < 10) (hb : b < 10) (h : UInt8.ofNat (48 + a) = UInt8.ofNat (48 + b)) : a = b := by
  have := congrArg UInt8.toNat h
  simp at this
  omega
theorem dec_inj : ∀ u v : Nat, Lib.decDigits u = Lib.decDigits v → u = v := by
  intro u
  induction u using Nat.strongRecOn with
  | ind u ih =>
    intro v h
    rw [dec_eq u, dec_eq v] at h
    by_cases h1 : u < 10
    · by_cases h2 : v < 10
      · rw [if_pos h1, if_pos h2] at h
        exact dig_inj h1 h2 (by simpa using h)
      · rw [if_pos h1, if_neg h2] at h
        exfalso
        have := congrArg List.length h
        have hn := List.length_pos_iff.2 (dec_ne (v / 10))
        rw [List.length_append] at this
        simp only [List.length_cons, List.length_nil] at this
        omega
    · by_cases h2 : v < 10
      · rw [if_neg h1, if_pos h2] at h
        exfalso
        have := congrArg List.length h
        have hn := List.length_pos_iff.2 (dec_ne (u / 10))
        rw [List.length_append] at this
        simp only [List.length_cons, List.length_nil] at this
        omega
      · rw [if_neg h1, if_neg h2] at h
        obtain ⟨e1, e2⟩ := List.append_inj' h rfl
        have q1 := ih (u / 10) (by omega) _ e1
        have q2 := dig_inj (Nat.mod_lt u (by decide)) (Nat.mod_lt v (by decide)) (by simpa using e2)
        omega
/-- The candidates. -/
def cand : Nat → ByteArray
  | 0 => ⟨#[69, 79, 70]⟩
  | n + 1 => ⟨#[69, 79, 70]⟩ ++ ⟨(Lib.decDigits (n + 1)).toArray⟩
theorem cand_list (n : Nat) : (cand (n + 1)).data.toList = [69, 79, 70] ++ Lib.decDigits (n + 1) := by
  unfold cand
  exact (congrArg Array.toList (ByteArray.data_append ..)).trans ((Array.toList_append ..).trans (by simp))
theorem cand_inj {i j : Nat} (h : cand i = cand j) : i = j := by
  rcases i with _ | i <;> rcases j with _ | j
  · rfl
  · exfalso
    have := congrArg (fun x : ByteArray => x.data.toList) h
    simp only [cand_list] at this
    have h2 : ([69, 79, 70] : List UInt8) = [69, 79, 70] ++ Lib.decDigits (j + 1) := this
    have h3 := congrArg List.length h2
    have := List.length_pos_iff.2 (dec_ne (j + 1))
    rw [List.length_append] at h3
    simp only [List.length_cons, List.length_nil] at h3
    omega
  · exfalso
    have := congrArg (fun x : ByteArray => x.data.toList) h
    simp only [cand_list] at this
    have h2 : [69, 79, 70] ++ Lib.decDigits (i + 1) = ([69, 79, 70] : List UInt8) := this
    have h3 := congrArg List.length h2
    have := List.length_pos_iff.2 (dec_ne (i + 1))
    rw [List.length_append] at h3
    simp only [List.length_cons, List.length_nil] at h3
    omega
  · have := congrArg (fun x : ByteArray => x.data.toList) h
    simp only [cand_list] at this
    exact dec_inj _ _ (by simpa using this)
theorem pigeon {α : Type} [DecidableEq α] : ∀ (l m : List α), l.Nodup → (∀ x ∈ l, x ∈ m) → l.length ≤ m.length
  | [], m, _, _ => Nat.zero_le _
  | x :: l, m, hn, hs => by
    rw [List.nodup_cons] at hn
    have hx := hs x (by simp)
    have h1 := pigeon l (m.erase x) hn.2 (fun y hy => by
      refine (List.mem_erase_of_ne ?_).2 (hs y (by simp [hy]))
      rintro rfl
      exact hn.1 hy)
    rw [List.length_erase_of_mem hx] at h1
    have := List.length_pos_of_mem hx
    simp only [List.length_cons]
    omega
theorem took_mem {l : List (Nat × ByteArray)} {t : ByteArray} (h : tookB l t = true) : t ∈ l.map fun x => chop x.2 := by
  unfold tookB at h
  rw [List.any_eq_true] at h
  obtain ⟨x, hx, he⟩ := h
  exact List.mem_map.2 ⟨x, hx, of_decide_eq_true he⟩
theorem took_le {l : List (Nat × ByteArray)} {n : Nat} (h : ∀ i, i < n → tookB l (cand i) = true) : n ≤ l.length := by
  have h1 := pigeon ((List.range n).map cand) (l.map fun x => chop x.2) (by
    rw [List.Nodup, List.pairwise_map]
    exact List.nodup_range.imp (fun hne e => hne (cand_inj e))) (fun x hx => by
    obtain ⟨i, hi, rfl⟩ := List.mem_map.1 hx
    exact took_mem (h i (List.mem_range.1 hi)))
  simpa using h1
end Go.Proofs.YtlenmkcafoiefabGreatDoor
