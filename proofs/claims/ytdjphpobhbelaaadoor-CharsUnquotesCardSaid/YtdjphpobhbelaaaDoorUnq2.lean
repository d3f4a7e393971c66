/- The contract of chars.Unquote. -/
import Derived.Test.YtdjphpobhbelaaaDoorUnq
import Derived.Test.YtdjphpobhbelaaaDoorShelf
namespace Go.Proofs.YtdjphpobhbelaaaDoor
open Go.RowKit

/-- The bytes of a rune, and what they say of it. -/
theorem rune_split {s : ByteArray} {p : Nat} (h : p < s.size) : ∃ (c : UInt8) (hs : List UInt8), s.data.toList.drop p = c :: (hs ++ s.data.toList.drop (p + widthAt s p)) ∧ hs.length + 1 = widthAt s p ∧ p + widthAt s p ≤ s.size ∧
    (∀ x ∈ hs, 128 ≤ x.toNat) ∧ (runeAt s p < 128 → runeAt s p = c.toNat ∧ hs = []) ∧ (128 ≤ runeAt s p → 128 ≤ c.toNat) := by
  have hl : s.data.toList.length = s.size := rfl
  have hw := width_pos h
  by_cases hr : runeAt s p < 128
  · obtain ⟨r1, r2⟩ := rune_ascii h hr
    refine ⟨s[p]'h, [], ?_, by rw [r2]; rfl, by omega, by simp, fun _ => ⟨r1, rfl⟩, fun h' => by omega⟩
    rw [r2, List.drop_eq_getElem_cons (show p < s.data.toList.length from h)]
    rfl
  · have hb := rune_high h (by omega)
    obtain ⟨k1, k2⟩ := high_bytes h hb
    refine ⟨s[p]'h, (s.data.toList.drop (p + 1)).take (widthAt s p - 1), ?_, ?_, k1, fun x hx => ?_, fun h' => absurd h' hr, fun _ => hb⟩
    · rw [List.drop_eq_getElem_cons (show p < s.data.toList.length from h)]
      have e : s.data.toList.drop (p + widthAt s p) = (s.data.toList.drop (p + 1)).drop (widthAt s p - 1) := by rw [List.drop_drop]; congr 1; omega
      rw [e, List.take_append_drop]
      rfl
    · rw [List.length_take, List.length_drop, hl]; omega
    · obtain ⟨i, hi, rfl⟩ := List.getElem_of_mem hx
      rw [List.length_take, List.length_drop, hl] at hi
      rw [List.getElem_take, List.getElem_drop]
      have := k2 (1 + i) (by omega) (by omega)
      have e : s[p + (1 + i)]'(by omega) = s.data.toList[p + 1 + i]'(by rw [hl]; omega) := by
        have : p + 1 + i = p + (1 + i) := by omega
        simp only [this]
        rfl
      rw [← e]
      exact this

/-- What a quoted form represents: the error's number, the bytes. -/
def unqL (l : List UInt8) : Nat × List UInt8 := preU [] (uq 0 false l)

/-- What is kept from rune to rune. -/
structure UnqR (s : ByteArray) (w : World) (q : Nat) (esc : Bool) (pos fr : Nat) (acc : List UInt8) (wr : World) : Prop where
  st : DropSt w.heap.size (w.heap.size + 1) w.heap.size (w.heap.size + 2) s acc fr wr
  it : wr.heap[w.heap.size + 3]? = some (.stringIter s pos)
  bl : Below w.heap.size w wr
  sz : w.heap.size + 3 < wr.heap.size
  qq : q = 0 ∨ q = 39 ∨ q = 34
  po : pos ≤ s.size
  fp : if esc = true then fr + 1 ≤ pos ∧ s.data.toList[pos - 1]? = some 92 else fr ≤ pos
  al : acc.length ≤ fr
  eq : preU (acc ++ (s.data.toList.drop fr).take ((if esc = true then pos - 1 else pos) - fr)) (uq q esc (s.data.toList.drop pos)) = unqL s.data.toList

theorem take_more (L : List UInt8) (fr p : Nat) (x r : List UInt8) (hfp : fr ≤ p) (h : L.drop p = x ++ r) : (L.drop fr).take (p + x.length - fr) = (L.drop fr).take (p - fr) ++ x := by
  have e : p + x.length - fr = (p - fr) + x.length := by omega
  rw [e, List.take_add, List.drop_drop, show fr + (p - fr) = p from by omega, h]
  simp

theorem iter_kept {w : World} {q pos fr : Nat} {esc : Bool} {s : ByteArray} {acc : List UInt8} {wr : World} (h : UnqR s w q esc pos fr acc wr) (p' : Nat) : DropSt w.heap.size (w.heap.size + 1) w.heap.size (w.heap.size + 2) s acc fr (wr.iterAt (w.heap.size + 3) s p') := by
  obtain ⟨hI, ht, hf, o1, o2, o3, o4, o5, o6, o7⟩ := h.st
  refine ⟨hI.iterAt h.it p', ?_, ?_, o1, o2, o3, o4, o5, o6, by rw [Lib.iterAt_size]; exact o7⟩
  · rw [Lib.iterAt_other _ _ _ _ _ (by omega)]; exact ht
  · rw [Lib.iterAt_other _ _ _ _ _ (by omega)]; exact hf

theorem preU_run {q : Nat} (hq : q = 0 ∨ q = 39 ∨ q = 34) (r : List UInt8) (hs xs : List UInt8) (h : ∀ c ∈ hs, 128 ≤ c.toNat) : preU xs (uq q false (hs ++ r)) = preU (xs ++ hs) (uq q false r) := by
  rcases hs with _ | ⟨d, t⟩
  · simp
  · rw [uq_high hq r (d :: t) (by simp) h, preU_preU]

theorem drop_c' {B g h f : Nat} {s : ByteArray} {acc : List UInt8} {fr : Nat} {W : World} (a b : Nat) (A' B' : Int) (hA : A' = a) (hB : B' = b) (hS : DropSt B g h f s acc fr W) (h1 : fr ≤ a) (h2 : a ≤ s.size) (h3 : s.size ≤ 10000) (h4 : acc.length ≤ 100000) :
    Calls Tryd.prog 32 #[.int .i64 A', .int .i64 B', .pointer (some ⟨g, 0, none⟩), .pointer (some ⟨h, 0, none⟩), .pointer (some ⟨f, 0, none⟩)] W
      fun e W' => e = .returned (.tuple #[]) ∧ DropSt B g h f s (acc ++ (s.data.toList.drop fr).take (a - fr)) b W' ∧ Below B W W' ∧ (∀ (k : Nat) (t : ByteArray) (p : Nat), W.heap[k]? = some (Obj.stringIter t p) → W'.heap[k]? = some (Obj.stringIter t p)) := by
  subst hA; subst hB
  exact drop_c a b hS h1 h2 h3 h4

/-- The state behind a call that drops bytes. -/
theorem unq_drop {s : ByteArray} {w wx w2 : World} {q fr a b pos' : Nat} {acc : List UInt8} (hst : DropSt w.heap.size (w.heap.size + 1) w.heap.size (w.heap.size + 2) s (acc ++ (s.data.toList.drop fr).take (a - fr)) b w2)
    (hit : w2.heap[w.heap.size + 3]? = some (.stringIter s pos')) (hb : Below w.heap.size w wx) (hb2 : Below w.heap.size wx w2) (hsz : w.heap.size + 3 < wx.heap.size) (hq : q = 0 ∨ q = 39 ∨ q = 34) (hp : pos' ≤ s.size) (hbp : b ≤ pos') (hal : acc.length ≤ fr) (hfa : fr ≤ a) (hab : a ≤ b)
    (heq : preU ((acc ++ (s.data.toList.drop fr).take (a - fr)) ++ (s.data.toList.drop b).take (pos' - b)) (uq q false (s.data.toList.drop pos')) = unqL s.data.toList) :
    UnqR s w q false pos' b (acc ++ (s.data.toList.drop fr).take (a - fr)) w2 := by
  refine ⟨hst, hit, hb.trans hb2, by have := hb2.size; omega, hq, hp, by simpa using hbp, ?_, by simpa using heq⟩
  rw [List.length_append, List.length_take]
  omega

theorem drop_below {B g h f : Nat} {s : ByteArray} {acc : List UInt8} {fr : Nat} {W W' : World} (hS : DropSt B g h f s acc fr W) (hb : Below W.heap.size W W') (_hg : B ≤ g) : DropSt B g h f s acc fr W' := by
  obtain ⟨hI, ht, hf, o1, o2, o3, o4, o5, o6, o7⟩ := hS
  refine ⟨?_, (hb.block _ (lt_of_block ht)).trans ht, (hb.block _ (lt_of_block hf)).trans hf, o1, o2, o3, o4, o5, o6, by have := hb.size; omega⟩
  have key : ∀ p, Lib.BuilderAtF 41 5 g g p (Lib.byteCells acc) W → Lib.BuilderAtF 41 5 g g p (Lib.byteCells acc) W' := by
    rintro p ⟨k1, v, k2, k3, k4⟩
    refine ⟨k1, v, (hb.block _ (lt_of_block k2)).trans k2, ?_, k4⟩
    refine k3.kept (row := none) ⟨hb.os, hb.tape, hb.output, hb.size, fun i hi _ => hb.block i hi⟩ ?_
    rcases hv : v.ownBlock with _ | x
    · exact .inl rfl
    · exact .inr (by simp)
  rcases hI with h | h
  · exact .inl (key _ h)
  · exact .inr (key _ h)

theorem u8_of {c : UInt8} {v : Nat} (hv : v < 256) (h : c.toNat = v) : c = v.toUInt8 := UInt8.toNat_inj.1 (by rw [h]; simp; omega)

theorem unq_start (s : ByteArray) (w : World) : UnqR s w 0 false 0 0 [] ((((w.alloc (.cells #[.string s] 9)).alloc (.cells #[.pointer none, .slice none 0 0] 41)).alloc (.cells #[.int .i64 0] 3)).iter s 0) := by
  have h1 := Lib.fresh_isBuilder 41 5 (w.alloc (.cells #[.string s] 9))
  have hz : (w.alloc (.cells #[.string s] 9)).heap.size = w.heap.size + 1 := by simp
  rw [hz] at h1
  refine ⟨⟨((Lib.IsBuilderF.of h1).alloc _).alloc _, ?_, ?_, by omega, by omega, by omega, by omega, by omega, by omega, by simp [World.iter] <;> omega⟩, ?_, ?_, by simp [World.iter], .inl rfl, by omega, by simp, by simp, ?_⟩
  · show (World.alloc _ _).heap[w.heap.size]? = _
    rw [Lib.alloc_old _ _ _ (by simp <;> omega), Lib.alloc_old _ _ _ (by simp <;> omega), Lib.alloc_old _ _ _ (by simp <;> omega)]
    exact heap_alloc_new w _
  · show (World.alloc _ _).heap[w.heap.size + 2]? = _
    rw [Lib.alloc_old _ _ _ (by simp <;> omega)]
    have := heap_alloc_new ((w.alloc (.cells #[.string s] 9)).alloc (.cells #[.pointer none, .slice none 0 0] 41)) (.cells #[.int .i64 0] 3)
    simpa using this
  · have := World.iter_heap (((w.alloc (.cells #[.string s] 9)).alloc (.cells #[.pointer none, .slice none 0 0] 41)).alloc (.cells #[.int .i64 0] 3)) s 0
    simpa using this
  · exact ((((Below.refl _ w).alloc (Nat.le_refl _) _).alloc (by simp) _).alloc (by simp; omega) _).alloc (by simp; omega) _
  · simp [unqL]

set_option maxHeartbeats 8000000 in
set_option maxRecDepth 100000 in
theorem unquote_c (s : ByteArray) (w : World) (hs : s.size ≤ 8100) :
    Calls Tryd.prog 19 #[.string s] w fun e w' => e = .returned (.tuple #[.string ⟨(unqL s.data.toList).2.toArray⟩, .int .i64 (unqL s.data.toList).1]) ∧ Below w.heap.size w w' := by
  have hll : s.data.toList.length = s.size := rfl
  generalize hRes : unqL s.data.toList = Res
  have HRes := Lib.hid hRes
  clear hRes
  obtain ⟨rn, rl⟩ := Res
  go_enter Tryd.func19, Tryd.ntmps19
  go_wp2_with fail
  go_loopw [5, 6] (fun qq ee wr => ∃ (q : Nat) (esc : Bool) (pos fr : Nat) (acc : List UInt8), qq = .int .i32 (qv q) ∧ ee = .bool esc ∧ UnqR s w q esc pos fr acc wr) (fun _ _ wr => s.size - wr.iterPos (w.heap.size + 3))
  case atStart =>
    refine ⟨0, false, 0, 0, [], rfl, rfl, ?_⟩
    exact unq_start s w
  case round =>
    obtain ⟨q, esc, pos, fr, acc, rfl, rfl, hR⟩ := hrel
    by_cases hlt : pos < s.size
    · have hnx := next_at wr (w.heap.size + 3) s pos hR.it hlt
      have hit2 := Lib.iterAt_heap wr (w.heap.size + 3) s pos (pos + widthAt s pos) hR.it
      have hb2 := Lib.below_iterAt hR.bl (k := w.heap.size + 3) (by omega) s (pos + widthAt s pos)
      have hst2 := iter_kept hR (pos + widthAt s pos)
      have hsz2 : w.heap.size + 3 < (wr.iterAt (w.heap.size + 3) s (pos + widthAt s pos)).heap.size := by rw [Lib.iterAt_size]; exact hR.sz
      have hwp := width_pos hlt
      have hrs := rune_small s pos
      obtain ⟨c, hs', x1, x2, x3, x4, x5, x6⟩ := rune_split hlt
      have hfp := hR.fp; have hal := hR.al; have heq := hR.eq; have hqq := hR.qq
      have hip : wr.iterPos (w.heap.size + 3) = pos := by simp only [World.iterPos, hR.it]
      have Hip := Lib.hid hip
      clear hR hip
      generalize runeAt s pos = R at *
      generalize widthAt s pos = wd at *
      generalize hX : wr.iterAt (w.heap.size + 3) s (pos + wd) = wx at *
      have HX := Lib.hid hX
      clear hX
      rw [x1] at heq
      have hcv : ∀ v : Nat, v < 128 → (R = v ↔ c.toNat = v) := fun v hv => by
        by_cases hr : R < 128
        · rw [(x5 hr).1]
        · have := x6 (by omega)
          omega
      have hone : R < 128 → hs' = [] ∧ wd = 1 := fun h => by
        have := (x5 h).2
        subst this
        exact ⟨rfl, by simpa using x2.symm⟩
      have hhs : hs' ≠ [] → 128 ≤ R := fun h => by
        by_cases hr : R < 128
        · exact absurd (x5 hr).2 h
        · omega
      have hqv1 : (qv q == -1) = decide (q = 0) := by
        rcases hqq with rfl | rfl | rfl <;> rfl
      have hqv2 : (qv q != 39) = decide (q ≠ 39) := by
        rcases hqq with rfl | rfl | rfl <;> rfl
      have hqv3 : ((R : Int) == qv q) = decide (q ≠ 0 ∧ R = q) := by
        rcases hqq with rfl | rfl | rfl
        · rw [beq_eq_false_iff_ne.2 (show (R : Int) ≠ qv 0 by unfold qv; rw [if_pos rfl]; omega)]; simp
        · rw [Bool.eq_iff_iff]; simp [qv]; omega
        · rw [Bool.eq_iff_iff]; simp [qv]; omega
      have hwid : (s.data.toList.drop pos).take wd = c :: hs' := by
        rw [x1, ← List.cons_append, ← x2]
        exact List.take_left' rfl
      have Hfp := Lib.hid hfp; have Heq := Lib.hid heq; have X1 := Lib.hid x1; have X2 := Lib.hid x2; have X4 := Lib.hid x4; have Hone := Lib.hid hone; have Hcv := Lib.hid hcv; have Hst := Lib.hid hst2; have Hqq := Lib.hid hqq; have Hwid := Lib.hid hwid; have Hhs := Lib.hid hhs; have Hb2 := Lib.hid hb2; have Hit := Lib.hid hit2
      clear hfp heq x1 x2 x4 x5 x6 hst2 hone hcv hqq hwid hhs hb2 hit2
      rcases esc with _ | _
      · -- no backslash ahead
        have hfr : fr ≤ pos := by simpa using Hfp.out
        have heq0 : preU (acc ++ (s.data.toList.drop fr).take (pos - fr)) (uq q false (c :: (hs' ++ s.data.toList.drop (pos + wd)))) = (rn, rl) := by rw [← HRes.out]; simpa using Heq.out
        have Heq0 := Lib.hid heq0
        clear heq0
        by_cases c1 : R = 92 ∧ q ≠ 39
        · obtain ⟨rfl, hq39⟩ := c1
          obtain ⟨e1, e2⟩ := Hone.out (by omega)
          have e3 : c = 92 := u8_of (v := 92) (by omega) ((Hcv.out 92 (by omega)).1 rfl)
          have t2 : (qv q != 39) = true := by rw [hqv2]; exact decide_eq_true hq39
          clear hqv1 hqv2 hqv3
          subst e1; subst e2; subst e3
          have hnew : UnqR s w q true (pos + 1) fr acc wx := by
            refine ⟨Hst.out, Hit.out, Hb2.out, hsz2, Hqq.out, by omega, ?_, hal, ?_⟩
            · rw [if_pos rfl]
              refine ⟨by omega, ?_⟩
              have h1 := X1.out
              rw [show pos + 1 - 1 = pos from rfl, ← List.head?_drop, h1]
              rfl
            · rw [HRes.out, ← Heq0.out, if_pos rfl, show pos + 1 - 1 = pos from rfl]
              congr 1
              simp [uq, hq39]
          clear hq39
          go_wp2_with fail
          go_roundw
          case rel => exact ⟨q, true, pos + 1, fr, acc, rfl, rfl, hnew⟩
          case measure => rw [Hip.out]; simp only [World.iterPos, Hit.out]; omega
        have n1 : ¬ (c = 92 ∧ q ≠ 39) := by
          rintro ⟨rfl, h⟩
          exact c1 ⟨(Hcv.out 92 (by omega)).2 rfl, h⟩
        by_cases c2 : q ≠ 0 ∧ R = q
        · obtain ⟨hq0, hRq⟩ := c2
          have hR128 : R < 128 := by rcases Hqq.out with h | h | h <;> omega
          obtain ⟨e1, e2⟩ := Hone.out hR128
          have e3 : c.toNat = q := by rw [← hRq]; exact (Hcv.out R hR128).1 rfl
          have t3 : ((R : Int) == qv q) = true := by rw [hqv3]; exact decide_eq_true ⟨hq0, hRq⟩
          have t1 : ((R : Int) == 92) = false := by rw [beq_eq_false_iff_ne]; rcases Hqq.out with h | h | h <;> omega
          have hqz : qv 0 = -1 := rfl
          clear hqv1 hqv2 hqv3
          subst e1; subst e2
          have N1 := Lib.hid n1; have E3 := Lib.hid e3
          clear c1 n1 e3 hRq
          go_wp2_with fail
          refine (drop_c' pos (pos + 1) _ _ (by omega) (by omega) Hst.out (by omega) (by omega) (by omega) (by omega)).mono ?_
          rintro e w2 ⟨rfl, m1, m2, m3⟩
          have hit3 := m3 _ _ _ Hit.out
          have hnew : UnqR s w 0 false (pos + 1) (pos + 1) (acc ++ (s.data.toList.drop fr).take (pos - fr)) w2 := by
            refine unq_drop m1 hit3 Hb2.out m2 hsz2 (.inl rfl) (by omega) (by omega) hal (by omega) (by omega) ?_
            rw [HRes.out, ← Heq0.out]
            rw [uq, if_neg N1.out, if_pos ⟨hq0, E3.out⟩]
            simp
          clear m1 m2 m3
          go_wp2_with fail
          go_roundw
          case rel => exact ⟨0, false, (pos + 1), (pos + 1), _, rfl, rfl, hnew⟩
          case measure => rw [Hip.out]; simp only [World.iterPos, hit3]; omega
        have n2 : ¬ (q ≠ 0 ∧ c.toNat = q) := by
          rintro ⟨h, h'⟩
          apply c2
          refine ⟨h, ?_⟩
          have : q < 128 := by rcases Hqq.out with h | h | h <;> omega
          exact (Hcv.out q this).2 h'
        have t1 : ((R : Int) == 92) = false ∨ (((R : Int) == 92) = true ∧ (qv q != 39) = false) := by
          by_cases h : R = 92
          · right
            exact ⟨by rw [h]; rfl, by rw [hqv2]; exact decide_eq_false (fun h' => c1 ⟨h, h'⟩)⟩
          · left
            rw [beq_eq_false_iff_ne]; omega
        have t3 : ((R : Int) == qv q) = false := by rw [hqv3]; exact decide_eq_false c2
        have T1 := Lib.hid t1
        have N1 := Lib.hid n1; have N2 := Lib.hid n2
        clear c1 c2 n1 n2 t1
        by_cases c3 : q = 0 ∧ (R = 39 ∨ R = 34)
        · obtain ⟨rfl, hR3⟩ := c3
          obtain ⟨e1, e2⟩ := Hone.out (by omega)
          have t1 : ((R : Int) == 92) = false := by rw [beq_eq_false_iff_ne]; omega
          have hqz : qv 0 = -1 := rfl
          have hqR : qv R = R := by unfold qv; rw [if_neg (by omega)]
          have e3 : c.toNat = R := by
            rcases hR3 with h | h
            · rw [h]; exact (Hcv.out 39 (by omega)).1 h
            · rw [h]; exact (Hcv.out 34 (by omega)).1 h
          have e4 : c = 39 ∨ c = 34 := by
            rcases hR3 with h | h
            · exact .inl (u8_of (v := 39) (by omega) (by omega))
            · exact .inr (u8_of (v := 34) (by omega) (by omega))
          clear hqv1 hqv2 hqv3
          subst e1; subst e2
          have E3 := Lib.hid e3; have E4 := Lib.hid e4; have HqR := Lib.hid hqR
          clear e3 e4 hqR
          rcases hR3 with hR3 | hR3
          · subst hR3
            go_wp2_with fail
            refine (drop_c' pos (pos + 1) _ _ (by omega) (by omega) Hst.out (by omega) (by omega) (by omega) (by omega)).mono ?_
            rintro e w2 ⟨rfl, m1, m2, m3⟩
            have hit3 := m3 _ _ _ Hit.out
            have hnew : UnqR s w 39 false (pos + 1) (pos + 1) (acc ++ (s.data.toList.drop fr).take (pos - fr)) w2 := by
              refine unq_drop m1 hit3 Hb2.out m2 hsz2 (.inr (.inl rfl)) (by omega) (by omega) hal (by omega) (by omega) ?_
              rw [HRes.out, ← Heq0.out]
              rw [uq, if_neg N1.out, if_neg N2.out, if_pos ⟨rfl, E4.out⟩, E3.out]
              simp
            clear m1 m2 m3
            go_wp2_with fail
            go_roundw
            case rel => exact ⟨39, false, (pos + 1), (pos + 1), _, rfl, rfl, hnew⟩
            case measure => rw [Hip.out]; simp only [World.iterPos, hit3]; omega
          · subst hR3
            go_wp2_with fail
            refine (drop_c' pos (pos + 1) _ _ (by omega) (by omega) Hst.out (by omega) (by omega) (by omega) (by omega)).mono ?_
            rintro e w2 ⟨rfl, m1, m2, m3⟩
            have hit3 := m3 _ _ _ Hit.out
            have hnew : UnqR s w 34 false (pos + 1) (pos + 1) (acc ++ (s.data.toList.drop fr).take (pos - fr)) w2 := by
              refine unq_drop m1 hit3 Hb2.out m2 hsz2 (.inr (.inr rfl)) (by omega) (by omega) hal (by omega) (by omega) ?_
              rw [HRes.out, ← Heq0.out]
              rw [uq, if_neg N1.out, if_neg N2.out, if_pos ⟨rfl, E4.out⟩, E3.out]
              simp
            clear m1 m2 m3
            go_wp2_with fail
            go_roundw
            case rel => exact ⟨34, false, (pos + 1), (pos + 1), _, rfl, rfl, hnew⟩
            case measure => rw [Hip.out]; simp only [World.iterPos, hit3]; omega
        · have t4 : (qv q == -1) = false ∨ ((qv q == -1) = true ∧ ((R : Int) == 39) = false ∧ ((R : Int) == 34) = false) := by
            by_cases h : q = 0
            · right
              refine ⟨by rw [hqv1]; exact decide_eq_true h, ?_, ?_⟩ <;> rw [beq_eq_false_iff_ne]
              · intro h'; exact c3 ⟨h, .inl (by omega)⟩
              · intro h'; exact c3 ⟨h, .inr (by omega)⟩
            · left
              rw [hqv1]; exact decide_eq_false h
          have n3 : ¬ (q = 0 ∧ (c = 39 ∨ c = 34)) := by
            rintro ⟨h, h'⟩
            apply c3
            refine ⟨h, ?_⟩
            rcases h' with h' | h'
            · exact .inl ((Hcv.out 39 (by omega)).2 (by rw [h']; rfl))
            · exact .inr ((Hcv.out 34 (by omega)).2 (by rw [h']; rfl))
          have hok : okU q R = okU q c.toNat := by
            by_cases hr : R < 128
            · rw [(Hcv.out R hr).1 rfl]
            · have h128 : 128 ≤ c.toNat := by
                by_cases hc : c.toNat < 128
                · have := (Hcv.out c.toNat hc).2 rfl; omega
                · omega
              rw [okU_high (show 128 ≤ R by omega), okU_high h128]
          have T4 := Lib.hid t4; have N3 := Lib.hid n3; have Hok := Lib.hid hok
          clear t4 n3 hok c3 hqv1 hqv2 hqv3
          have hpc := fun W => permitted_c R q W hrs Hqq.out
          have Hpc := Lib.hid hpc
          clear hpc
          rcases ho : okU q R with _ | _
          · have hres : (rn, rl) = (6, []) := by
              rw [← Heq0.out, uq, if_neg N1.out, if_neg N2.out, if_neg N3.out, if_pos (by rw [← Hok.out, ho])]
              simp [preU]
            injection hres with hr1 hr2
            subst hr1; subst hr2
            rcases T1.out with t1 | ⟨t1, t2⟩ <;> rcases T4.out with t4 | ⟨t4, t5, t6⟩
            all_goals
              go_wp2_with fail
              refine (Hpc.out _).mono ?_
              rintro e w2 ⟨rfl, m2⟩
              go_wp2_with fail
              go_ret2
              exact ⟨rfl, Hb2.out.trans (m2.mono (by omega))⟩
          · have hnew : ∀ w2, Below wx.heap.size wx w2 → UnqR s w q false (pos + wd) fr acc w2 := fun w2 m2 => by
              obtain ⟨hI, ht, hf, o1, o2, o3, o4, o5, o6, o7⟩ := Hst.out
              refine ⟨drop_below Hst.out m2 (by omega), (m2.block _ hsz2).trans Hit.out, Hb2.out.trans (m2.mono (by omega)), by have := m2.size; omega, Hqq.out, by omega, by simp; omega, hal, ?_⟩
              rw [HRes.out, ← Heq0.out]
              simp only [Bool.false_eq_true, if_false]
              rw [uq, if_neg N1.out, if_neg N2.out, if_neg N3.out, if_neg (by rw [← Hok.out, ho]; simp), preU_preU, preU_run Hqq.out _ _ _ X4.out]
              have htk := take_more s.data.toList fr pos (c :: hs') (s.data.toList.drop (pos + wd)) hfr X1.out
              rw [show pos + (c :: hs').length - fr = pos + wd - fr from by rw [List.length_cons, X2.out]] at htk
              rw [htk]
              simp
            have Hnew := Lib.hid hnew
            clear hnew
            rcases T1.out with t1 | ⟨t1, t2⟩ <;> rcases T4.out with t4 | ⟨t4, t5, t6⟩
            all_goals
              go_wp2_with fail
              refine (Hpc.out _).mono ?_
              rintro e w2 ⟨rfl, m2⟩
              have hn := Hnew.out w2 m2
              have hit3 := (m2.block _ hsz2).trans Hit.out
              go_wp2_with fail
              go_roundw
              case rel => exact ⟨q, false, pos + wd, fr, acc, rfl, rfl, hn⟩
              case measure => rw [Hip.out]; simp only [World.iterPos, hit3]; omega
      · -- behind a backslash
        have hfp := Hfp.out
        rw [if_pos rfl] at hfp
        obtain ⟨hfr, h92⟩ := hfp
        obtain ⟨p, rfl⟩ : ∃ p, pos = p + 1 := ⟨pos - 1, by omega⟩
        simp only [Nat.add_sub_cancel] at h92
        have heq0 : preU (acc ++ (s.data.toList.drop fr).take (p - fr)) (uq q true (c :: (hs' ++ s.data.toList.drop (p + 1 + wd)))) = (rn, rl) := by rw [← HRes.out]; simpa using Heq.out
        have Heq0 := Lib.hid heq0
        have hd92 : s.data.toList.drop p = [92] ++ s.data.toList.drop (p + 1) := by
          obtain ⟨h1, h2⟩ := List.getElem?_eq_some_iff.1 h92
          rw [List.drop_eq_getElem_cons h1, h2]
          rfl
        have Hd92 := Lib.hid hd92
        clear heq0 h92 hd92 hqv2 hqv3
        by_cases c1 : R = 10
        · subst c1
          obtain ⟨e1, e2⟩ := Hone.out (by omega)
          have e3 : c = 10 := u8_of (v := 10) (by omega) ((Hcv.out 10 (by omega)).1 rfl)
          subst e1; subst e2; subst e3
          clear hqv1
          go_wp2_with fail
          refine (drop_c' p (p + 2) _ _ (by omega) (by omega) Hst.out (by omega) (by omega) (by omega) (by omega)).mono ?_
          rintro e w2 ⟨rfl, m1, m2, m3⟩
          have hit3 := m3 _ _ _ Hit.out
          have hnew : UnqR s w q false (p + 1 + 1) (p + 2) (acc ++ (s.data.toList.drop fr).take (p - fr)) w2 := by
            refine unq_drop m1 hit3 Hb2.out m2 hsz2 Hqq.out (by omega) (by omega) hal (by omega) (by omega) ?_
            rw [HRes.out, ← Heq0.out]
            simp [uq]
          clear m1 m2 m3
          go_wp2_with fail
          go_roundw
          case rel => exact ⟨q, false, (p + 1 + 1), (p + 2), _, rfl, rfl, hnew⟩
          case measure => rw [Hip.out]; simp only [World.iterPos, hit3]; omega
        have t1 : ((R : Int) == 10) = false := by rw [beq_eq_false_iff_ne]; omega
        have n1 : ¬ c = 10 := by
          rintro rfl
          exact c1 ((Hcv.out 10 (by omega)).2 rfl)
        have N1 := Lib.hid n1
        clear c1 n1
        have ham : among escS R = among escS c.toNat := by
          by_cases hr : R < 128
          · rw [(Hcv.out R hr).1 rfl]
          · have h128 : 128 ≤ c.toNat := by
              by_cases hc : c.toNat < 128
              · have := (Hcv.out c.toNat hc).2 rfl; omega
              · omega
            rw [among_high escS_ascii (show 128 ≤ R by omega), among_high escS_ascii h128]
        have Ham := Lib.hid ham
        clear ham
        have hdr : ∀ b, preU ((acc ++ (s.data.toList.drop fr).take (p - fr)) ++ (s.data.toList.drop (p + 1)).take (p + 1 + wd - (p + 1))) (uq q false (s.data.toList.drop (p + 1 + wd))) = preU (acc ++ (s.data.toList.drop fr).take (p - fr)) (preU [c] (uq q false (hs' ++ s.data.toList.drop (p + 1 + wd)))) ∨ b = true := fun b => by
          left
          rw [preU_preU, preU_run Hqq.out _ _ _ X4.out, show p + 1 + wd - (p + 1) = wd from by omega, Hwid.out]
          simp
        have Hdr : Hid (preU ((acc ++ (s.data.toList.drop fr).take (p - fr)) ++ (s.data.toList.drop (p + 1)).take (p + 1 + wd - (p + 1))) (uq q false (s.data.toList.drop (p + 1 + wd))) = preU (acc ++ (s.data.toList.drop fr).take (p - fr)) (preU [c] (uq q false (hs' ++ s.data.toList.drop (p + 1 + wd))))) := Lib.hid (by
          rcases hdr false with h | h
          · exact h
          · cases h)
        clear hdr
        by_cases c2 : q = 0
        · have t2 : (qv q == -1) = true := by rw [hqv1]; exact decide_eq_true c2
          have C2 := Lib.hid c2
          clear hqv1 c2
          go_wp2_with fail
          refine (drop_c' p (p + 1) _ _ (by omega) (by omega) Hst.out (by omega) (by omega) (by omega) (by omega)).mono ?_
          rintro e w2 ⟨rfl, m1, m2, m3⟩
          have hit3 := m3 _ _ _ Hit.out
          have hnew : UnqR s w q false (p + 1 + wd) (p + 1) (acc ++ (s.data.toList.drop fr).take (p - fr)) w2 := by
            refine unq_drop m1 hit3 Hb2.out m2 hsz2 Hqq.out (by omega) (by omega) hal (by omega) (by omega) ?_
            rw [HRes.out, ← Heq0.out]
            rw [Hdr.out, uq, if_neg N1.out, if_pos (.inl C2.out)]
          clear m1 m2 m3
          go_wp2_with fail
          go_roundw
          case rel => exact ⟨q, false, (p + 1 + wd), (p + 1), _, rfl, rfl, hnew⟩
          case measure => rw [Hip.out]; simp only [World.iterPos, hit3]; omega
        have t2 : (qv q == -1) = false := by rw [hqv1]; exact decide_eq_false c2
        have C2 := Lib.hid c2
        clear hqv1 c2
        have hcr := fun W => containsRune_c escS R W (by decide) escS_ascii hrs
        have Hcr := Lib.hid hcr
        clear hcr
        go_wp2_with fail
        refine (Hcr.out _).mono ?_
        rintro e w1 ⟨rfl, m0⟩
        have hst1 := drop_below Hst.out m0 (by omega)
        have hit1 := (m0.block _ hsz2).trans Hit.out
        have hb1 : Below w.heap.size w w1 := Hb2.out.trans (m0.mono (by omega))
        have hsz1 : w.heap.size + 3 < w1.heap.size := by have := m0.size; omega
        have Hst1 := Lib.hid hst1; have Hit1 := Lib.hid hit1; have Hb1 := Lib.hid hb1
        clear hst1 hit1 hb1 m0
        rcases ha : among escS R with _ | _
        · have hnew : UnqR s w q false (p + 1 + wd) fr acc w1 := by
            refine ⟨Hst1.out, Hit1.out, Hb1.out, hsz1, Hqq.out, by omega, by simp; omega, hal, ?_⟩
            rw [HRes.out, ← Heq0.out]
            simp only [Bool.false_eq_true, if_false]
            rw [uq, if_neg N1.out, if_neg (by rw [← Ham.out, ha]; simp [C2.out]), preU_preU, preU_run Hqq.out _ _ _ X4.out]
            have htk := take_more s.data.toList fr p ((92 : UInt8) :: c :: hs') (s.data.toList.drop (p + 1 + wd)) (by omega) (by rw [Hd92.out, X1.out]; simp)
            have hln : p + ((92 : UInt8) :: c :: hs').length - fr = p + 1 + wd - fr := by
              have := X2.out
              simp only [List.length_cons]
              omega
            rw [hln] at htk
            rw [htk]
            simp
          go_wp2_with fail
          go_roundw
          case rel => exact ⟨q, false, p + 1 + wd, fr, acc, rfl, rfl, hnew⟩
          case measure => rw [Hip.out]; simp only [World.iterPos, Hit1.out]; omega
        · have Ha := Lib.hid ha
          clear ha
          go_wp2_with fail
          refine (drop_c' p (p + 1) _ _ (by omega) (by omega) Hst1.out (by omega) (by omega) (by omega) (by omega)).mono ?_
          rintro e w2 ⟨rfl, m1, m2, m3⟩
          have hit3 := m3 _ _ _ Hit1.out
          have hnew : UnqR s w q false (p + 1 + wd) (p + 1) (acc ++ (s.data.toList.drop fr).take (p - fr)) w2 := by
            refine unq_drop m1 hit3 Hb1.out m2 hsz1 Hqq.out (by omega) (by omega) hal (by omega) (by omega) ?_
            rw [HRes.out, ← Heq0.out]
            rw [Hdr.out, uq, if_neg N1.out, if_pos (.inr (by rw [← Ham.out]; exact Ha.out))]
          clear m1 m2 m3
          go_wp2_with fail
          go_roundw
          case rel => exact ⟨q, false, (p + 1 + wd), (p + 1), _, rfl, rfl, hnew⟩
          case measure => rw [Hip.out]; simp only [World.iterPos, hit3]; omega
    · have hnx := next_end wr (w.heap.size + 3) s pos hR.it hlt
      have hps : pos = s.size := by have := hR.po; omega
      subst hps
      have hfp := hR.fp; have hal := hR.al; have heq := hR.eq; have hqq := hR.qq; have hst := hR.st; have hbl := hR.bl; have hsz := hR.sz
      clear hR
      rw [show s.data.toList.drop s.size = [] from List.drop_of_length_le (by omega), HRes.out] at heq
      have Heq := Lib.hid heq
      clear heq
      rcases esc with _ | _
      · by_cases c2 : q = 0
        · subst c2
          have hqz : qv 0 = -1 := rfl
          have hfr : fr ≤ s.size := by simpa using hfp
          have h := Heq.out
          simp only [uq, if_true, preU, Bool.false_eq_true, if_false, List.append_nil] at h
          injection h with h1 h2
          subst h1
          obtain ⟨k1, k2, k3, k4, k5, k6, k7, k8, k9, k10⟩ := hst
          have hc1 := cell_of_one k2
          have hst' : DropSt w.heap.size (w.heap.size + 1) w.heap.size (w.heap.size + 2) s acc fr wr := ⟨k1, k2, k3, k4, k5, k6, k7, k8, k9, k10⟩
          have Hst := Lib.hid hst'
          have H2 := Lib.hid h2
          clear hst' k1 k2 k3 k4 k5 k6 k7 k8 k9 k10 h2 hfp
          go_wp2_with fail
          refine (drop_c' s.size s.size _ _ rfl rfl Hst.out hfr (by omega) (by omega) (by omega)).mono ?_
          rintro e w2 ⟨rfl, m1, m2, m3⟩
          have hbld := m1.bld
          rw [H2.out] at hbld
          clear m1 m3
          have hz2 := m2.size
          go_wp2_with fail
          refine (Tryd.Builder_String_any_k (w.heap.size + 1) (w.heap.size + 1) rl w2 hbld (by omega)).mono ?_
          rintro e w3 ⟨rfl, _, p2, _⟩
          go_wp2_with fail
          go_ret2
          exact ⟨rfl, (hbl.trans m2).trans (p2.mono (by omega))⟩
        · have t2 : (qv q != -1) = true := by
            rcases hqq with rfl | rfl | rfl
            · exact absurd rfl c2
            · rfl
            · rfl
          have h := Heq.out
          simp only [uq, if_neg c2, preU] at h
          simp at h
          obtain ⟨rfl, rfl⟩ := h
          clear c2
          go_wp2_with fail
          go_ret2
          exact ⟨rfl, hbl⟩
      · have h := Heq.out
        simp only [uq, preU] at h
        simp at h
        obtain ⟨rfl, rfl⟩ := h
        go_wp2_with fail
        go_ret2
        exact ⟨rfl, hbl⟩
end Go.Proofs.YtdjphpobhbelaaaDoor
