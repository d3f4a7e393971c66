/- alias: the reference's Same, without, Unset, Set. -/
import Derived.Test.YticehbhedoploaaGreatDoorAlR
import Derived.Test.YticehbhedoploaaGreatDoorAlS
namespace Go.Proofs.YticehbhedoploaaGreatDoor
open Go.RowKit
set_option linter.unusedVariables false

theorem al_ext {x y : Al} (h1 : x.n = y.n) (h2 : x.v = y.v) : x = y := by
  cases x; cases y; simp_all
set_option maxHeartbeats 2000000 in
set_option maxRecDepth 100000 in
/-- Same of two equal lists. -/
theorem RSame_c (A1 A2 : Option Addr) (c1 c2 : Nat) (l : List Al) (w : World) (h1 : AlAt w w.heap.size A1 l) (h2 : AlAt w w.heap.size A2 l) (hl : l.length ≤ 1000000) :
    Calls Tryz.prog 21 #[.slice A1 l.length c1, .slice A2 l.length c2] w fun e w' => e = .returned (.bool true) ∧ Below w.heap.size w w' := by
  have d0 : ((l.length : Int) != (l.length : Int)) = false := by simp
  go_enter Tryz.func21, Tryz.ntmps21
  go_wp2_with fail
  go_loopw [5] (fun iv wr => ∃ k : Nat, k ≤ l.length ∧ iv = .int .i64 k ∧ Below w.heap.size w wr) (fun iv _ => l.length - (intOf iv).toNat)
  case atStart => exact ⟨0, by omega, by go_num, Below.refl _ _⟩
  case round =>
    obtain ⟨k, hk, rfl, hb⟩ := hrel
    have hwr := hb.size
    by_cases hlt : k < l.length
    · have i1 : (k : Int) < (l.length : Int) := by omega
      obtain ⟨b1, o1, rfl, hbl1, p0, p1⟩ := alAt_cells (alAt_below h1 hb (Nat.le_refl _)) hlt
      obtain ⟨b2, o2, rfl, hbl2, q0, q1⟩ := alAt_cells (alAt_below h2 hb (Nat.le_refl _)) hlt
      generalize l[k] = x at *
      have t1 : (x.n.toList == x.n.toList) = true := by simp
      have t2 : (x.v.toList == x.v.toList) = true := by simp
      clear h1 h2
      go_wp2_with fail
      go_quiet (fail)
      go_wp2_with fail
      go_roundw
      case rel => exact ⟨k + 1, by omega, by go_num, below_drewN hb _⟩
      case measure => simp [intOf] <;> omega
    · have hkk : k = l.length := by omega
      subst hkk
      go_wp2_with fail
      go_ret
      exact ⟨rfl, hb⟩
set_option maxHeartbeats 4000000 in
set_option maxRecDepth 100000 in
theorem without_c (A : Option Addr) (c : Nat) (l : List Al) (s : ByteArray) (w : World) (hA : AlAt w w.heap.size A l) (hl : l.length ≤ 1000000) :
    Calls Tryz.prog 44 #[.slice A l.length c, .string s] w fun e w' => ∃ v, e = .returned v ∧ OwnA w' w.heap.size v (withoutL l s) ∧ Below w.heap.size w w' := by
  obtain ⟨i0, hi, hz0, hz1, hz2⟩ := al_info_parts alInfo
  have HR : Hid (withoutL l s = [] ++ withoutL (l.drop 0) s) := Lib.hid rfl
  generalize withoutL l s = R at *
  go_enter Tryz.func44, Tryz.ntmps44
  go_wp2_with fail
  go_loopw [5, 6] (fun ov iv wr => ∃ (k : Nat) (acc : List Al), k ≤ l.length ∧ iv = .int .i64 k ∧ acc.length ≤ k ∧ Below w.heap.size w wr ∧ Hid (OwnA wr w.heap.size ov acc) ∧ Hid (R = acc ++ withoutL (l.drop k) s)) (fun _ iv _ => l.length - (intOf iv).toNat)
  case atStart => exact ⟨0, [], by omega, by go_num, by simp, Below.refl _ _, Lib.hid (own_nilA _ _), HR⟩
  case round =>
    obtain ⟨k, acc, hk, rfl, hac, hb, ho, hr⟩ := hrel
    have hwr := hb.size
    by_cases hlt : k < l.length
    · have i1 : (k : Int) < (l.length : Int) := by omega
      obtain ⟨b, off, rfl, hbl, c0, c1⟩ := alAt_cells (alAt_below hA hb (Nat.le_refl _)) hlt
      have hdr : l.drop k = l[k] :: l.drop (k + 1) := List.drop_eq_getElem_cons hlt
      have hr1 := hr.out
      rw [hdr] at hr1
      generalize l[k] = x at *
      clear hdr hr HR hA
      by_cases hxs : x.n = s
      · have hg : Hid (R = acc ++ withoutL (l.drop (k + 1)) s) := Lib.hid (by
          rw [hr1]; unfold withoutL; rw [List.filter_cons_of_neg (by simpa using hxs)])
        have t1 : (x.n.toList == s.toList) = true := by rw [hxs]; simp
        have t2 : (x.n.toList != s.toList) = false := by rw [hxs]; simp
        clear hr1 hxs
        go_wp2_with fail
        go_roundw
        case rel => exact ⟨k + 1, acc, by omega, by go_num, by omega, hb, ho, hg⟩
        case measure => simp [intOf] <;> omega
      · have hg : Hid (R = (acc ++ [x]) ++ withoutL (l.drop (k + 1)) s) := Lib.hid (by
          rw [hr1]; unfold withoutL; rw [List.filter_cons_of_pos (by simpa using hxs), List.append_assoc]; rfl)
        have t1 : (x.n.toList == s.toList) = false := by
          rw [beq_eq_false_iff_ne]
          exact fun h => hxs (ba_ext h)
        have t2 : (x.n.toList != s.toList) = true := by
          rw [bne_iff_ne]
          exact fun h => hxs (ba_ext h)
        have hro : (wr.alloc (.cells #[.string x.n, .string x.v] 47)).ownsRow w.heap.size 47 2 u5 acc.length (alCells acc) := World.ownsRow.alloc ho.out _
        have hnews := World.news_of_block (cs := #[.string x.n, .string x.v]) (t := 47) (fr := (0, 0)) (heap_alloc_new wr (.cells #[.string x.n, .string x.v] 47))
        have hb1 := hb.alloc hwr (.cells #[.string x.n, .string x.v] 47)
        have Hb1 := Lib.hid hb1
        clear hr1 hxs hb1
        go_wp2_with (at_builtin; refine wpList_append_own _ rfl _ _ 22 rfl w.heap.size 47 i0 _ 2 32 Tryz.underlying22 hi hz0 hz1 hz2 rfl (by decide) _ _ _ rfl hro ⟨wr.heap.size, 0, none⟩ 1 1 [.string x.n, .string x.v] rfl rfl hnews (by intro u hu; simp at hu; rcases hu with rfl | rfl <;> rfl) (by unfold maxLen; omega) (by omega) (by simp <;> omega) ?_)
        intro v' w8 hown' hgrow _
        have hb8 : Below w.heap.size w w8 := Hb1.out.grown hgrow Hb1.out.size (fun q hq => (hro.lt q hq).1)
        have Ho8 : Hid (OwnA w8 w.heap.size v' (acc ++ [x])) := Lib.hid (by
          unfold OwnA
          rw [List.length_append, alCells_append]
          exact hown')
        clear hown' hgrow hro hnews Hb1
        go_wp2_with fail
        go_roundw
        case rel => exact ⟨k + 1, acc ++ [x], by omega, by go_num, by simp; omega, hb8, Ho8, hg⟩
        case measure => simp [intOf] <;> omega
    · have hkk : k = l.length := by omega
      subst hkk
      have hR : R = acc := by
        rw [hr.out, List.drop_length]
        simp [withoutL]
      subst hR
      go_wp2_with fail
      go_ret
      exact ⟨_, rfl, ho.out, hb⟩
end Go.Proofs.YticehbhedoploaaGreatDoor
