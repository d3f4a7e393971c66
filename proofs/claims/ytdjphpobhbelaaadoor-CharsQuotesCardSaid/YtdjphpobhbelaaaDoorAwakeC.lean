/- The examples of the chapter, by the contracts. -/
import Derived.Test.YtdjphpobhbelaaaDoorChM
import Derived.Test.YtdjphpobhbelaaaDoorEscD
import Derived.Test.YtdjphpobhbelaaaDoorUneD
import Derived.Test.YtdjphpobhbelaaaDoorRUnq3
namespace Go.Proofs.YtdjphpobhbelaaaDoor
open Go.RowKit

theorem Env.next {w w' : World} (h : Env w w.heap.size) (hb : Below w.heap.size w w') : Env w' w'.heap.size := by
  obtain ⟨⟨m, hm⟩, ht, h1, h2, h3⟩ := h
  have := hb.size
  exact ⟨⟨m, (hb.cell (p := ⟨2, 0, none⟩) h3).trans hm⟩, Utf8Tabs_below ht hb, by omega, by omega, by omega⟩
theorem Env.to {w w' : World} (h : Env w w.heap.size) (hb : Below w.heap.size w w') : Env w' w'.heap.size := h.next hb

theorem isBool (P : Prop) : ∃ F : Bool, F = true ↔ P := by
  classical exact ⟨decide P, decide_eq_true_iff⟩

theorem ex_name1 : true = true ↔ NameP ⟨#[95, 97, 49]⟩ := by
  simp only [true_iff]
  refine ⟨by decide, by decide, fun i h => ?_⟩
  have h3 : i < 3 := h
  rcases i with _ | _ | _ | i
  · exact .inr (.inl rfl)
  · exact .inl rfl
  · exact .inr (.inr ⟨by decide, rfl⟩)
  · omega
theorem ex_name2 : false = true ↔ NameP ⟨#[49, 97]⟩ := by
  simp only [Bool.false_eq_true, false_iff]
  intro h
  rcases h.2.2 0 (by decide) with h | h | h
  · exact absurd h (by decide)
  · exact absurd h (by decide)
  · exact absurd rfl h.1
theorem ex_digits : true = true ↔ DigP ⟨#[49, 50, 48]⟩ := by
  simp only [true_iff]
  refine ⟨by decide, ?_, fun i h => ?_, by decide⟩
  · rintro ⟨h, _⟩
    exact absurd h (by decide)
  · have h3 : i < 3 := h
    rcases i with _ | _ | _ | i
    · rfl
    · rfl
    · rfl
    · omega
theorem ex_plain : true = true ↔ PlainP ⟨#[97, 47, 98]⟩ := by
  simp only [true_iff]
  refine ⟨by decide, fun i h => ?_⟩
  have h3 : i < 3 := h
  rcases i with _ | _ | _ | i
  · exact .inl rfl
  · exact .inr (.inr (decide_eq_true ⟨3, by decide, rfl⟩))
  · exact .inl rfl
  · omega
theorem ex_quote : false = true ↔ PlainP ⟨#[105, 116, 39, 115]⟩ := by
  simp only [Bool.false_eq_true, false_iff]
  intro h
  have h2 := plB_of (h.2 2 (by decide))
  exact absurd h2 (by decide)
theorem ex_unq : unqL [97, 34, 98, 92, 36, 99, 34, 39, 100, 39] = (0, [97, 98, 36, 99, 100]) := by
  have e := unq_back
  unfold unqL
  rw [uq, if_neg (by decide), if_neg (by decide), if_neg (by decide), if_neg (by decide)]
  rw [uq, if_neg (by decide), if_neg (by decide), if_pos (by decide)]
  rw [uq, if_neg (by decide), if_neg (by decide), if_neg (by decide), if_neg (by decide)]
  rw [uq, if_pos (by decide), uq, if_neg (by decide), if_pos (.inr (decide_eq_true ⟨0, by decide, rfl⟩))]
  rw [uq, if_neg (by decide), if_neg (by decide), if_neg (by decide), if_neg (by decide)]
  rw [uq, if_neg (by decide), if_pos (by decide)]
  rw [uq, if_neg (by decide), if_neg (by decide), if_pos (by decide)]
  rw [uq, if_neg (by decide), if_neg (by decide), if_neg (by decide), if_neg (by decide)]
  rw [uq, if_neg (by decide), if_pos (by decide), uq]
  rfl

set_option maxHeartbeats 4000000 in
set_option maxRecDepth 100000 in
theorem awake_c (w : World) (hE : Env w w.heap.size) :
    Calls Tryd.prog 10 #[] w fun e w' => e = .returned (.bool true) ∧ Below w.heap.size w w' := by
  have HE := Lib.hid hE
  clear hE
  have c1 : ∀ W, Calls Tryd.prog 11 #[.string ⟨#[49, 50, 48]⟩] W fun e w' => e = .returned (.tuple #[.int .i64 120, .bool true]) ∧ Below W.heap.size W w' := fun W => digits_c ⟨#[49, 50, 48]⟩ true ex_digits W (by decide)
  have c2 : ∀ W, Calls Tryd.prog 19 #[.string ⟨#[97, 34, 98, 92, 36, 99, 34, 39, 100, 39]⟩] W fun e w' => e = .returned (.tuple #[.string ⟨#[97, 98, 36, 99, 100]⟩, .int .i64 0]) ∧ Below W.heap.size W w' := fun W => by
    have h := unquote_c ⟨#[97, 34, 98, 92, 36, 99, 34, 39, 100, 39]⟩ W (by decide)
    rw [show unqL (⟨#[97, 34, 98, 92, 36, 99, 34, 39, 100, 39]⟩ : ByteArray).data.toList = (0, [97, 98, 36, 99, 100]) from ex_unq] at h
    exact h
  have c3 : ∀ W, Calls Tryd.prog 22 #[.string ⟨#[92, 110, 92, 120, 48, 49]⟩] W fun e w' => e = .returned (.tuple #[.string ⟨#[10, 1]⟩, .int .i64 0]) ∧ Below W.heap.size W w' := fun W => by
    have h := unescape_c ⟨#[92, 110, 92, 120, 48, 49]⟩ W (by decide)
    rw [show un 0 0 (⟨#[92, 110, 92, 120, 48, 49]⟩ : ByteArray).data.toList = (0, [10, 1]) from un_escL [10, 1]] at h
    exact h
  have c4 : ∀ W, Calls Tryd.prog 13 #[.string ⟨#[95, 97, 49]⟩] W fun e w' => e = .returned (.bool true) ∧ Below W.heap.size W w' := fun W => name_c _ true ex_name1 W
  have c5 : ∀ W, Calls Tryd.prog 13 #[.string ⟨#[49, 97]⟩] W fun e w' => e = .returned (.bool false) ∧ Below W.heap.size W w' := fun W => name_c _ false ex_name2 W
  have c6 : ∀ W, Env W W.heap.size → Calls Tryd.prog 17 #[.string ⟨#[105, 116, 39, 115]⟩] W fun e w' => e = .returned (.string ⟨#[39, 105, 116, 39, 92, 39, 39, 115, 39]⟩) ∧ Below W.heap.size W w' := fun W hE => quote_c ⟨#[105, 116, 39, 115]⟩ false ex_quote W (by decide) hE
  have c7 : ∀ W, Calls Tryd.prog 15 #[.string ⟨#[97, 47, 98]⟩] W fun e w' => e = .returned (.bool true) ∧ Below W.heap.size W w' := fun W => plain_c _ true ex_plain W
  have c8 : ∀ W, Env W W.heap.size → Calls Tryd.prog 21 #[.string ⟨#[9]⟩] W fun e w' => e = .returned (.string ⟨#[92, 116]⟩) ∧ Below W.heap.size W w' := fun W hE => escape_c ⟨#[9]⟩ W (by decide) hE
  have C1 := Lib.hid c1; have C2 := Lib.hid c2; have C3 := Lib.hid c3; have C4 := Lib.hid c4; have C5 := Lib.hid c5; have C6 := Lib.hid c6; have C7 := Lib.hid c7; have C8 := Lib.hid c8
  clear c1 c2 c3 c4 c5 c6 c7 c8
  go_enter Tryd.func10, Tryd.ntmps10
  go_wp2_with fail
  refine (C1.out _).mono ?_
  rintro e w1 ⟨rfl, m1⟩
  go_wp2_with fail
  refine (C2.out _).mono ?_
  rintro e w2 ⟨rfl, m2⟩
  replace m2 := m1.trans (m2.mono m1.size)
  go_wp2_with fail
  refine (C3.out _).mono ?_
  rintro e w3 ⟨rfl, m3⟩
  replace m3 := m2.trans (m3.mono m2.size)
  go_wp2_with fail
  refine (C4.out _).mono ?_
  rintro e w4 ⟨rfl, m4⟩
  replace m4 := m3.trans (m4.mono m3.size)
  go_wp2_with fail
  refine (C5.out _).mono ?_
  rintro e w5 ⟨rfl, m5⟩
  replace m5 := m4.trans (m5.mono m4.size)
  go_wp2_with fail
  refine (C6.out _ (HE.out.next m5)).mono ?_
  rintro e w6 ⟨rfl, m6⟩
  replace m6 := m5.trans (m6.mono m5.size)
  go_wp2_with fail
  refine (C7.out _).mono ?_
  rintro e w7 ⟨rfl, m7⟩
  replace m7 := m6.trans (m7.mono m6.size)
  go_wp2_with fail
  refine (C8.out _ (HE.out.next m7)).mono ?_
  rintro e w8 ⟨rfl, m8⟩
  replace m8 := m7.trans (m8.mono m7.size)
  go_wp2_with fail
  go_ret
  exact ⟨rfl, m8⟩
end Go.Proofs.YtdjphpobhbelaaaDoor
