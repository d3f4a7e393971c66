/- heredoc: Read, of one delimiter. -/
import Derived.Test.YtlenmkcafoiefabGreatDoorHdT
namespace Go.Proofs.YtlenmkcafoiefabGreatDoor
open Go.RowKit
set_option linter.unusedVariables false

theorem lnsF_mem {s : ByteArray} : ∀ (F p : Nat) (x : Nat × ByteArray), x ∈ lnsF F s p → p ≤ x.1 ∧ x.1 + x.2.size ≤ s.size
  | 0, p, x, h => by simp [lnsF] at h
  | F + 1, p, x, h => by
    by_cases hl : s.size ≤ p
    · rw [lnsF_ge hl] at h; simp at h
    · obtain ⟨g1, g2⟩ := endN_gt (s := s.data.toList) (p := p) (by rw [lenS]; omega)
      rw [lenS] at g2
      rw [lnsF, if_neg hl] at h
      rcases List.mem_cons.1 h with rfl | h
      · exact ⟨Nat.le_refl _, by simp; omega⟩
      · have := lnsF_mem F _ x h
        omega
theorem termL_mem {l : List (Nat × ByteArray)} {T : ByteArray} {b : Bool} {x : Nat × ByteArray} (h : termL l T b = some x) : x ∈ l := List.mem_of_find?_eq_some h
theorem strInfo : (Tryz.prog.info? 9).map (fun i => (i.zero, i.size, i.bytes)) = some (some (.string ByteArray.empty), 1, 16) := by kernel_rfl
theorem str_info_parts {o : Option TypeInfo} {z : Value} {n b : Nat} (h : o.map (fun i => (i.zero, i.size, i.bytes)) = some (some z, n, b)) : ∃ i, o = some i ∧ i.zero = some z ∧ i.size = n ∧ i.bytes = b := by
  cases o with
  | none => cases h
  | some i => simp at h; exact ⟨i, rfl, h.1, h.2.1, h.2.2⟩
/-- The contents. -/
def contT (s : ByteArray) (p n : Nat) (b : Bool) : ByteArray := if b = true then stripS (s.extract p n) else s.extract p n
set_option maxHeartbeats 16000000 in
set_option maxRecDepth 100000 in
theorem Read_c (s T : ByteArray) (b q : Bool) (g p : Nat) (w : World) (hs : s.size ≤ 100000) (hp : p ≤ s.size) (hg : g < w.heap.size)
    (h0 : w.cell? ⟨g, 0, none⟩ = some (.string T)) (h1 : w.cell? ⟨g, 1, none⟩ = some (.bool b)) (h2 : w.cell? ⟨g, 2, none⟩ = some (.bool q)) (x : Nat × ByteArray) (hx : termL (lnsL s p) T b = some x) :
    Calls Tryz.prog 25 #[.string s, .int .i64 p, .slice (some ⟨g, 0, none⟩) 1 1] w fun e w' => (∃ v, e = .returned (.tuple #[v, .int .i64 ((x.1 : Int) + x.2.size), .int .i64 0]) ∧ w'.ownsRow w.heap.size 9 1 v 1 [.string (contT s p x.1 b)]) ∧ Below w.heap.size w w' := by
  obtain ⟨i0, hi, hz0, hz1, hz2⟩ := str_info_parts strInfo
  obtain ⟨m1, m2⟩ := lnsF_mem _ _ _ (termL_mem hx)
  have t1 : decide ((p : Int) < 0) = false := decide_eq_false (by omega)
  have t2 : decide ((s.size : Int) < (p : Int)) = false := decide_eq_false (by omega)
  have t2' : decide (s.size < p) = false := decide_eq_false (by omega)
  have HT := Lib.hid (fun W => Term_c s T b q p W (by omega) hp)
  rw [hx] at HT
  unfold termV at HT
  simp only at HT
  have b1 : (p : Int) ≤ (x.1 : Int) := by omega
  have b2 : (x.1 : Int) ≤ (s.size : Int) := by omega
  clear hx
  go_enter Tryz.func25, Tryz.ntmps25
  go_wp2_with fail
  go_loopw [1, 9, 26] (fun av cv iv wr => (av = .int .i64 p ∧ cv = .slice none 0 0 ∧ iv = .int .i64 0 ∨ av = .int .i64 ((x.1 : Int) + x.2.size) ∧ iv = .int .i64 1 ∧ Hid (wr.ownsRow w.heap.size 9 1 cv 1 [.string (contT s p x.1 b)])) ∧ Hid (Below w.heap.size w wr)) (fun _ _ iv _ => 1 - (intOf iv).toNat)
  case atStart => exact ⟨.inl ⟨rfl, rfl, by go_num⟩, Lib.hid (Below.refl _ _)⟩
  case round =>
    obtain ⟨(⟨rfl, rfl, rfl⟩ | ⟨rfl, rfl, ho⟩), hb⟩ := hrel
    · have y0 := (hb.out.cell (p := ⟨g, 0, none⟩) hg).trans h0
      have y1 := (hb.out.cell (p := ⟨g, 1, none⟩) hg).trans h1
      have y2 := (hb.out.cell (p := ⟨g, 2, none⟩) hg).trans h2
      go_wp2_with fail
      refine (HT.out _).mono ?_
      rintro e w2 ⟨rfl, n2⟩
      have hh := heap_alloc_new wr (.cells #[.string T, .bool b, .bool q] 45)
      have hb2 : Below w.heap.size w w2 := (hb.out.alloc hb.out.size _).trans (n2.mono (by simp <;> have := hb.out.size <;> omega))
      have z1 : w2.cell? ⟨wr.heap.size, 1, none⟩ = some (.bool b) := (n2.cell (p := ⟨wr.heap.size, 1, none⟩) (by simp)).trans (by rw [cell_of_row _ _ 1 _ _ _ hh]; rfl)
      have Hb2 := Lib.hid hb2
      have hw2 := hb2.size
      clear hb2 hh hb y0 y1 y2 h0 h1 h2
      have HS := Lib.hid (Strip_c (s.extract p x.1) w2 (by simp <;> omega))
      rcases b with _ | _
      · have ec := Lib.hid (show contT s p x.1 false = s.extract p x.1 from rfl)
        clear HS
        have Hb3 := Hb2
        have ho2a : (w2.alloc (.cells #[.string (s.extract p x.1)] 9)).ownsRow w.heap.size 9 1 (.slice none 0 0) 0 [] := World.ownsRow_nil _ _ _ _
        have hw3 := Hb3.out.size
        go_wp2_with (at_builtin; refine wpList_append_own _ rfl _ _ 41 rfl w.heap.size 9 i0 (.string ByteArray.empty) 1 16 Tryz.underlying41 hi hz0 hz1 hz2 rfl (by decide) _ _ _ rfl ho2a ⟨w2.heap.size, 0, none⟩ 1 1 [.string (s.extract p x.1)] rfl rfl ?c1 ?c2 ?c3 ?c4 ?c5 ?_)
        case c1 =>
          intro i u hi'
          match i, hi' with
          | 0, hi' => simp at hi'; subst hi'; simp [Addr.add]
        case c2 => intro u hu; simp at hu; subst hu; rfl
        case c3 => unfold maxLen; omega
        case c4 => omega
        case c5 => simp; omega
        intro v' w4 hown' hgrow _
        have hb4 := (Hb3.out.alloc Hb3.out.size _).grown hgrow (by simp; omega) (fun k e => by cases e)
        go_wp2_with fail
        go_roundw
        case rel => exact ⟨.inr ⟨rfl, rfl, Lib.hid (by rw [ec.out]; exact hown')⟩, Lib.hid hb4⟩
        case measure => simp [intOf]
      · have ec := Lib.hid (show contT s p x.1 true = stripS (s.extract p x.1) from rfl)
        generalize stripS (s.extract p x.1) = r at *
        go_wp2_with fail
        refine (HS.out).mono ?_
        rintro e w3 ⟨rfl, n3⟩
        have Hb3 := Lib.hid (Hb2.out.trans (n3.mono hw2))
        have ho2a : (w3.alloc (.cells #[.string r] 9)).ownsRow w.heap.size 9 1 (.slice none 0 0) 0 [] := World.ownsRow_nil _ _ _ _
        have hw3 := Hb3.out.size
        go_wp2_with (at_builtin; refine wpList_append_own _ rfl _ _ 41 rfl w.heap.size 9 i0 (.string ByteArray.empty) 1 16 Tryz.underlying41 hi hz0 hz1 hz2 rfl (by decide) _ _ _ rfl ho2a ⟨w3.heap.size, 0, none⟩ 1 1 [.string r] rfl rfl ?c1 ?c2 ?c3 ?c4 ?c5 ?_)
        case c1 =>
          intro i u hi'
          match i, hi' with
          | 0, hi' => simp at hi'; subst hi'; simp [Addr.add]
        case c2 => intro u hu; simp at hu; subst hu; rfl
        case c3 => unfold maxLen; omega
        case c4 => omega
        case c5 => simp; omega
        intro v' w4 hown' hgrow _
        have hb4 := (Hb3.out.alloc Hb3.out.size _).grown hgrow (by simp; omega) (fun k e => by cases e)
        go_wp2_with fail
        go_roundw
        case rel => exact ⟨.inr ⟨rfl, rfl, Lib.hid (by rw [ec.out]; exact hown')⟩, Lib.hid hb4⟩
        case measure => simp [intOf]
    · go_wp2_with fail
      go_ret3
      exact ⟨⟨_, rfl, ho.out⟩, hb.out⟩
end Go.Proofs.YtlenmkcafoiefabGreatDoor
