/- The contracts of codec's appendText, PutInt, PutText, Sum, sumBytes, Seal. -/
import Derived.Test.YthikmjhjbokppaaKSum
import Derived.Deep.Upon
namespace Go.Proofs.Ythikmjhjbokppaa
open Go.RowKit
set_option linter.unusedVariables false

theorem byteCells_map (m : List UInt8) : Lib.byteCells m = m.map fun b => Value.int .u8 b.toNat := rfl
/-- Bytes appended to fresh bytes, whatever slice they come from. -/
theorem wpList_app_by {w : World} {ops : Array Oper} {rest : List Oper} {o : Oper} {a : Act} {Q : Exit → Act → World → Prop} (hgd : o.guard = none) (s x : Operand)
    (ho : o.op = .call { callee := .builtin .append, args := #[s, x], argTypes := #[22, 22] })
    (B : Nat) (v : Value) (l : List UInt8) (hs : a.eval s = v) (hown : Own w B v l) (B' : Nat) (A : Option Addr) (m : List UInt8) (c : Nat) (hx : a.eval x = .slice A m.length c) (hA : ByAt w B' A m)
    (hl : l.length + m.length ≤ 100000000) (hB : B ≤ w.heap.size)
    (h : ∀ v' w', Own w' B v' (l ++ m) → Below B w w' → wpList Try.prog ops Q rest (a.put o.dst v') w') : wpList Try.prog ops Q (o :: rest) a w := by
  obtain ⟨i0, hi, hz0, hz1, hz2⟩ := info_parts byteInfo
  rcases hA with rfl | ⟨b, off, rfl, _, hc⟩
  · obtain ⟨base, sLen, sCap, rfl, hle⟩ : ∃ base sLen sCap, v = .slice base sLen sCap ∧ sLen ≤ sCap := by
      rcases hown.2 with ⟨rfl, _⟩ | ⟨g, cap, cur, fz, rfl, _, _, _, h1, _⟩
      · exact ⟨_, _, _, rfl, Nat.le_refl _⟩
      · exact ⟨_, _, _, rfl, h1⟩
    refine wpList_plain hgd fun K hK => ?_
    have hsrc : ∃ hk : Try.prog.underlying 22 = some (.slice 5), Src Try.prog i0.size 22 (.slice A 0 c) 0 [] w := by
      refine ⟨Try.underlying22, ?_⟩
      rcases A with _ | ad
      · exact Src.ofNil w Try.underlying22 c
      · exact Src.ofSlice w Try.underlying22 ad 0 c [] (by simp) (fun j u hj => by simp at hj) (fun u hu => by simp at hu)
    have hrun := run_append_nothing (P := Try.prog) w 22 22 o.type 5 i0 Try.underlying22 hi base sLen sCap hle _ hsrc.2
    unfold Oper.wp execOp
    simp only [ho, resolve, invoke, builtin, Sem.run_bind, Sem.run_pure, Result.andThen_ok, List.map_toArray, List.map_cons, List.map_nil, hs, hx, List.length_nil, hrun]
    exact hK _ _ (h _ _ (by rw [List.append_nil]; exact hown) (Below.refl _ _))
  · refine wpList_append_ownF (w := w) hgd s x 22 ho B 5 i0 (.int .u8 0) 1 1 Try.underlying22 hi hz0 hz1 hz2 rfl (by decide) v l.length (Lib.byteCells l) hs hown ⟨b, off, none⟩ m.length c (Lib.byteCells m) hx (by rw [Lib.byteCells_length]; omega) ?_ ?_ (by unfold maxLen; omega) (by omega) hB ?_
    · intro j u hj
      have hj' : j < m.length := by
        have := (List.getElem?_eq_some_iff.1 hj).1
        simpa [byteCells_map] using this
      rw [byteCells_map, List.getElem?_map, List.getElem?_eq_getElem hj'] at hj
      injection hj with hj
      rw [← hj, show (⟨b, off, none⟩ : Addr).add j = ⟨b, off + j, none⟩ from by simp [Addr.add]]
      exact hc j hj'
    · intro u hu
      rw [byteCells_map] at hu
      obtain ⟨x, _, rfl⟩ := List.mem_map.1 hu
      rfl
    · intro v' w' hown' hg _
      refine h v' w' ?_ ((Below.refl B w).grown hg hB (fun k hk => (own_lt hown k hk).1))
      unfold Own
      rw [Lib.byteCells_append, List.length_append]
      exact hown'

set_option maxHeartbeats 1000000 in
theorem appendText_c (B : Nat) (v : Value) (l : List UInt8) (s : ByteArray) (w : World) (hs : s.size ≤ 1000000) (hl : l.length ≤ 1000000) (hB : B ≤ w.heap.size) (hv : Own w B v l) :
    Calls Try.prog 28 #[v, .string s] w fun e w' => ∃ v', e = .returned v' ∧ Own w' B v' (l ++ (encI s.size ++ s.data.toList)) ∧ Below B w w' := by
  obtain ⟨i0, hi, hz0, hz1, hz2⟩ := info_parts byteInfo
  have hlen := encI_len (n := s.size) (by omega) (by omega)
  go_enter Try.func28, Try.ntmps28
  go_wp2_with fail
  refine (appendNumber_c B v l s.size _ (by omega) (by omega) hl hB hv).mono ?_
  rintro e w1 ⟨v1, rfl, ho, hb⟩
  have hsz := hb.size
  go_wp2_with (at_builtin; refine Lib.wpList_append_own_stringF _ rfl _ _ 22 9 rfl B 5 i0 Try.underlying22 Try.underlying9 hi hz0 hz1 hz2 _ _ _ rfl ho s rfl ?c3 ?c4 ?c5 ?_)
  case c3 => unfold maxLen; rw [List.length_append]; omega
  case c4 => rw [List.length_append]; omega
  case c5 => omega
  intro v' w2 hown' hgrow _
  go_wp2_with fail
  go_ret
  refine ⟨v', rfl, ?_, hb.grown hgrow (by omega) (fun k hk => (own_lt ho k hk).1)⟩
  unfold Own
  rw [← List.append_assoc, Lib.byteCells_append, List.length_append, ← Lib.strCells_eq, List.length_append]
  exact hown'

theorem putInt_c (n : Int) (w : World) (h0 : -9223372036854775808 ≤ n) (h1 : n ≤ 9223372036854775807) :
    Calls Try.prog 12 #[.int .i64 n] w fun e w' => ∃ v', e = .returned v' ∧ Own w' w.heap.size v' (encI n) ∧ Below w.heap.size w w' := by
  go_enter Try.func12, Try.ntmps12
  go_wp2_with fail
  refine (appendNumber_c w.heap.size _ [] n _ h0 h1 (by simp) (Nat.le_refl _) (own_nil w _)).mono ?_
  rintro e w1 ⟨v1, rfl, ho, hb⟩
  go_wp2_with fail
  go_ret
  exact ⟨v1, rfl, ho, hb⟩
theorem putText_c (s : ByteArray) (w : World) (hs : s.size ≤ 1000000) :
    Calls Try.prog 13 #[.string s] w fun e w' => ∃ v', e = .returned v' ∧ Own w' w.heap.size v' (encI s.size ++ s.data.toList) ∧ Below w.heap.size w w' := by
  go_enter Try.func13, Try.ntmps13
  go_wp2_with fail
  refine (appendText_c w.heap.size _ [] s _ hs (by simp) (Nat.le_refl _) (own_nil w _)).mono ?_
  rintro e w1 ⟨v1, rfl, ho, hb⟩
  go_wp2_with fail
  go_ret
  exact ⟨v1, rfl, ho, hb⟩
theorem sum_c (B : Nat) (A : Option Addr) (l : List UInt8) (c : Nat) (w : World) (hA : ByAt w B A l) (hl : l.length ≤ 1000000) :
    Calls Try.prog 20 #[.slice A l.length c] w fun e w' => e = .returned (.int .i64 (crcSum l)) ∧ w = w' := by
  have hlt : crcSum l < 4294967296 := by unfold crcSum; omega
  have Hlt := Lib.hid hlt
  go_enter Try.func20, Try.ntmps20
  go_wp2_with fail
  refine (checksum_c B A l c _ hA hl).mono ?_
  rintro e w1 ⟨rfl, rfl⟩
  go_wp2_with fail
  go_ret
  exact ⟨rfl, rfl⟩
end Go.Proofs.Ythikmjhjbokppaa
