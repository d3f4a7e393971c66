/- strings.IndexRune and ContainsRune of a rune above ASCII in an ASCII string. -/
import Derived.Test.YticehbhedoploaaGreatDoorCcCh
import Derived.Test.YticehbhedoploaaGreatDoorShelf
import Derived.Lib.IndexLaws
import Derived.Lib.RuneBytes
import Derived.Laws.Runes
import Derived.Lib.IndexBytes
namespace Go.Proofs.YticehbhedoploaaGreatDoor.Cc
open Go.RowKit

def Ascii (s : ByteArray) : Prop := ∀ i (h : i < s.size), (s[i]'h).toNat < 128

theorem quiet_add_same {P : Program} {f : FuncId} {args : Array Value} {w : World} {a n : Nat} {v : Value}
    (h : Calls P f args (w.drewN (a + n)) fun e w' => e = .returned v ∧ w' = w.drewN (a + n)) :
    Calls P f args (w.drewN (a + n)) fun e w'' => e = .returned v ∧ ∃ m, w'' = w.drewN (a + m) :=
  h.mono fun _ _ ⟨he, hm⟩ => ⟨he, n, hm⟩

theorem valid_of {r : Int} (h : Lib.validRune r = true) : Utf8.valid r = true := by
  have := of_decide_eq_true h
  unfold Utf8.valid
  simp
  omega

theorem indexByte_high {s : ByteArray} (ha : Ascii s) (k : Nat) (c : UInt8) (hc : 128 ≤ c.toNat) : Lib.indexByte (s.data.toList.drop k) c = -1 := by
  have h1 := Lib.indexByte_ge (s.data.toList.drop k) c
  by_cases h : Lib.indexByte (s.data.toList.drop k) c < 0
  · omega
  · obtain ⟨o, ho⟩ := Int.eq_ofNat_of_zero_le (show 0 ≤ Lib.indexByte (s.data.toList.drop k) c by omega)
    have h2 := (Lib.indexByte_some ho).1
    rw [List.getElem?_drop] at h2
    obtain ⟨h3, h4⟩ := List.getElem?_eq_some_iff.1 h2
    have := ha (k + o) h3
    have e : s[k + o]'h3 = c := h4
    rw [e] at this
    omega

set_option maxHeartbeats 1000000 in
set_option maxRecDepth 100000 in
theorem indexRune_high (s : ByteArray) (r : Nat) (w : World) (hs : s.size ≤ 100) (ha : Ascii s) (h1 : 128 ≤ r) (h2 : r ≤ 2147483647) :
    Calls Tryz.prog 147 #[.string s, .int .i32 r] w fun e w' => e = .returned (.int .i64 (-1)) ∧ Below w.heap.size w w' := by
  have Ha := Lib.hid ha
  clear ha
  have d1 : decide ((0 : Int) ≤ (r : Int)) = true := decide_eq_true (by omega)
  have d2 : decide ((r : Int) < 128) = false := decide_eq_false (by omega)
  by_cases q1 : r = 65533
  · subst q1
    go_enter Tryz.func147, Tryz.ntmps147
    go_wp2_with fail
    go_loopw [] (fun wr => ∃ pos : Nat, pos ≤ s.size ∧ wr.heap[w.heap.size]? = some (.stringIter s pos) ∧ Below w.heap.size w wr) (fun wr => s.size - wr.iterPos w.heap.size)
    case atStart => exact ⟨0, by omega, World.iter_heap w s 0, (Below.refl _ w).alloc (Nat.le_refl _) _⟩
    case round =>
      obtain ⟨pos, hp, hit, hb⟩ := hrel
      by_cases hlt : pos < s.size
      · have hx := Ha.out pos hlt
        have hr : runeAt s pos = (s[pos]'hlt).toNat ∧ widthAt s pos = 1 := by unfold runeAt widthAt; rw [decode_ascii s pos hlt hx]; exact ⟨rfl, rfl⟩
        have hnx := next_at wr w.heap.size s pos hit hlt
        rw [hr.1, hr.2] at hnx
        have hit2 := Lib.iterAt_heap wr w.heap.size s pos (pos + 1) hit
        have hb2 := Lib.below_iterAt hb (k := w.heap.size) (Nat.le_refl _) s (pos + 1)
        have t1 : (((s[pos]'hlt).toNat : Int) == 65533) = false := by rw [beq_eq_false_iff_ne]; omega
        clear hr
        go_wp2_with fail
        go_roundw
        case rel => exact ⟨pos + 1, by omega, hit2, hb2⟩
        case measure => simp only [World.iterPos, hit2, hit]; omega
      · have hnx := next_end wr w.heap.size s pos hit hlt
        go_wp2_with fail
        go_ret
        exact ⟨rfl, hb⟩
  have t1 : ((r : Int) == 65533) = false := by rw [beq_eq_false_iff_ne]; omega
  clear q1
  go_enter Tryz.func147, Tryz.ntmps147
  go_wp2_with fail
  refine (Tryz.utf8_ValidRune _ _).mono ?_
  rintro e w' ⟨rfl, rfl⟩
  by_cases q2 : Lib.validRune (r : Int) = true
  · go_wp2_with fail
    obtain ⟨z1, z2, z3⟩ := encode_facts (r : Int) (valid_of q2) (by omega)
    generalize hE : Utf8.encode (r : Int) = E at *
    obtain ⟨l, hl⟩ : ∃ l : Nat, E.size = l + 1 := ⟨E.size - 1, by omega⟩
    have hl3 : l ≤ 3 := by omega
    have hlE : l < E.size := by omega
    have hb : 128 ≤ (E[l]'hlE).toNat := by
      have := z3 (by omega)
      simpa [hl] using this
    have g1' : (E.size : Int) = (l : Int) + 1 := by omega
    have hlI : (l : Int) < (E.size : Int) := by omega
    clear z1 z2 z3 hl
    go_step3
    go_wp2_with fail
    go_loop [9] (fun iv => iv = .int .i64 l) (fun _ => 0)
    case atStart => rfl
    case round =>
      obtain rfl := hrel
      clear g1'
      have hlI : (l : Int) < (E.size : Int) := by omega
      by_cases q3 : l < s.size
      · have hx := Ha.out l q3
        have i1 : (l : Int) < (s.size : Int) := by omega
        have t2 : (((s[l]'q3).toNat : Int) != ((E[l]'hlE).toNat : Int)) = true := by rw [bne_iff_ne]; omega
        have hix := indexByte_high Ha.out (l + 1) _ hb
        have htk : List.take (s.size - (l + 1)) (List.drop (l + 1) s.data.toList) = List.drop (l + 1) s.data.toList := List.take_of_length_le (by simp)
        go_wp2_with fail
        go_step3
        go_wp2_with fail
        go_quiet (fail)
        go_wp2_with fail
        go_quiet ((go_at_call 127; exact quiet_add_same (Tryz.strings_IndexByte _ _ _)))
        go_wp2_with fail
        exact bodyPost_ret (fn := Tryz.f147) (R := fun e w'_1 => e = Ending.returned (Value.int IntKind.i64 (-1)) ∧ Below w'.heap.size w' w'_1) (results_tmp rfl _ _ _) rfl ⟨rfl, below_drewN (Below.refl _ _) _⟩
      · go_wp2_with fail
        go_ret
        exact ⟨rfl, Below.refl _ _⟩
  · have q2' : Lib.validRune (r : Int) = false := by simpa using q2
    clear q2
    go_wp2_with fail
    go_ret
    exact ⟨rfl, Below.refl _ _⟩

/-- Is the rune one of the bytes of a string? -/
def among (s : ByteArray) (r : Nat) : Bool := decide (∃ i, ∃ h : i < s.size, (s[i]'h).toNat = r)

theorem among_index (s : ByteArray) (r : Nat) (hr : r < 128) : decide (0 ≤ Lib.indexByte s.data.toList r.toUInt8) = among s r := by
  have hru : r.toUInt8.toNat = r := by simp; omega
  unfold among
  congr 1
  apply propext
  constructor
  · intro h
    obtain ⟨o, ho⟩ := Int.eq_ofNat_of_zero_le h
    have h2 := (Lib.indexByte_some ho).1
    obtain ⟨h3, h4⟩ := List.getElem?_eq_some_iff.1 h2
    have e : s[o]'h3 = r.toUInt8 := h4
    exact ⟨o, h3, by rw [e, hru]⟩
  · rintro ⟨i, h, e⟩
    have h1 := Lib.indexByte_ge s.data.toList r.toUInt8
    by_cases hn : Lib.indexByte s.data.toList r.toUInt8 = -1
    · exfalso
      apply Lib.indexByte_none hn i
      rw [List.getElem?_eq_getElem (show i < s.data.toList.length from h)]
      have : s[i]'h = r.toUInt8 := UInt8.toNat_inj.1 (by rw [hru]; exact e)
      exact congrArg some this
    · omega

theorem containsRune_c (s : ByteArray) (r : Nat) (w : World) (hs : s.size ≤ 100) (ha : Ascii s) (h2 : r ≤ 2147483647) :
    Calls Tryz.prog 105 #[.string s, .int .i32 r] w fun e w' => e = .returned (.bool (among s r)) ∧ Below w.heap.size w w' := by
  by_cases h1 : r < 128
  · have h := Tryz.strings_ContainsRune_ascii s r w (by omega) (by omega)
    rw [Int.toNat_natCast, among_index s r h1] at h
    refine h.mono ?_
    rintro e w' ⟨rfl, rfl⟩
    exact ⟨rfl, Below.refl _ _⟩
  · have hf : among s r = false := by
      unfold among
      rw [decide_eq_false_iff_not]
      rintro ⟨i, h, e⟩
      have := ha i h
      omega
    rw [hf]
    go_enter Tryz.func105, Tryz.ntmps105
    go_wp2_with fail
    refine (indexRune_high s r w hs ha (by omega) h2).mono ?_
    rintro e w' ⟨rfl, hb⟩
    go_wp2_with fail
    go_ret
    exact ⟨rfl, hb⟩
end Go.Proofs.YticehbhedoploaaGreatDoor.Cc
