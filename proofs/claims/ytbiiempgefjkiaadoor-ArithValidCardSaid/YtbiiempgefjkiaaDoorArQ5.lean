/- arith: assignmentAt. -/
import Derived.Test.YtbiiempgefjkiaaDoorArQ2
import Derived.Test.YtbiiempgefjkiaaDoorArP
namespace Go.Proofs.YtbiiempgefjkiaaDoor.Ar
open Go.RowKit
set_option linter.unusedVariables false

theorem scan_len {t t1 : Tok} {r : List Tok} (h : GoodT (t :: t1 :: r)) : t1.t.size ≤ 100000 := by
  have h1 := h.2.2.2.2
  match r, h1 with
  | [], h1 => rw [h1.2.1]; exact Nat.zero_le _
  | _ :: _, h1 => exact h1.2.2.1
theorem suffix_end (s : ByteArray) : Lib.hasSuffix s.data.toList [61] = endEq s := by
  unfold Lib.hasSuffix endEq
  rw [Bool.eq_iff_iff, List.isSuffixOf_iff_suffix, beq_iff_eq]
  constructor
  · rintro ⟨t, ht⟩
    rw [← ht]; simp
  · intro h
    obtain ⟨l, hl⟩ := List.getLast?_eq_some_iff.1 h
    exact ⟨l, hl.symm⟩
theorem trim_end {s : ByteArray} (h : endEq s = true) : (⟨(Lib.trimSuffix s.data.toList [61]).toArray⟩ : ByteArray) = s.extract 0 (s.size - 1) := by
  apply ByteArray.ext
  apply Array.toList_inj.1
  unfold Lib.trimSuffix
  rw [suffix_end, if_pos h, ByteArray.data_extract, Array.toList_extract, List.extract_eq_take_drop]
  have hl : s.data.toList.length = s.size := by simp
  simp only [List.length_cons, List.length_nil, List.drop_zero, hl]
  rfl
set_option maxHeartbeats 2000000 in
theorem assignmentAt_c (t : ByteArray) (w : World) (hE : Env w) (ht : t.size ≤ 100000) :
    Calls Tryd.prog 65 #[.string t] w fun e w' => e = .returned (.tuple #[.int .i64 (asgAt t).1, .bool (asgAt t).2]) ∧ Below w.heap.size w w' := by
  have HC0 := Tryd.strings_CutSuffix t ⟨#[61]⟩ w (by omega)
  rw [show (⟨#[61]⟩ : ByteArray).data.toList = [61] from rfl, suffix_end] at HC0
  unfold asgAt
  rcases he : endEq t with _ | _
  · rw [he] at HC0
    rw [if_neg (by simp)]
    have HC := Lib.hid HC0
    clear HC0 hE
    go_enter Tryd.func65, Tryd.ntmps65
    go_wp2_with fail
    refine HC.out.mono ?_
    rintro e w1 ⟨rfl, rfl⟩
    go_wp2_with fail
    go_ret2
    exact ⟨rfl, Below.refl _ _⟩
  rw [he, trim_end he] at HC0
  rw [if_pos rfl]
  have hp : 0 < t.size := by
    rcases Nat.eq_zero_or_pos t.size with h | h
    · have e : t = ⟨#[]⟩ := ByteArray.ext (Array.eq_empty_of_size_eq_zero h)
      rw [e] at he; exact absurd he (by decide)
    · exact h
  have HB := Lib.hid (binaryAt_c (t.extract 0 (t.size - 1)) w hE)
  have hes := env_size (t.extract 0 (t.size - 1))
  have hsz : (t.extract 0 (t.size - 1)).size = t.size - 1 := by rw [ByteArray.size_extract]; omega
  rw [hsz] at hes
  generalize t.extract 0 (t.size - 1) = u at *
  have HC := Lib.hid HC0
  clear HC0 hE
  by_cases h1 : t.size = 1
  · rw [if_pos h1]
    have e1 : u.toList.isEmpty = true := by rw [hes, h1]; rfl
    have e2 : u.toList = [] := List.isEmpty_iff.1 e1
    clear hes HB hsz h1
    go_enter Tryd.func65, Tryd.ntmps65
    go_wp2_with fail
    refine HC.out.mono ?_
    rintro e w1 ⟨rfl, rfl⟩
    go_wp2_with fail
    go_ret2
    exact ⟨rfl, Below.refl _ _⟩
  · rw [if_neg h1]
    have e1 : u.toList.isEmpty = false := by rw [hes, beq_eq_false_iff_ne]; omega
    clear hes hsz h1
    generalize binAt u = R at *
    obtain ⟨⟨tx, o, lv, ag⟩, rr⟩ := R
    unfold bnV at HB
    go_enter Tryd.func65, Tryd.ntmps65
    go_wp2_with fail
    refine HC.out.mono ?_
    rintro e w1 ⟨rfl, rfl⟩
    go_wp2_with fail
    refine HB.out.mono ?_
    rintro e w2 ⟨rfl, hb⟩
    have hb2 := hb.alloc hb.size (.cells #[.string tx, .int .i64 o, .int .i64 lv, .bool ag] 82)
    clear HB HC
    go_wp2_with fail
    go_quiet (fail)
    go_wp2_with fail
    go_ret2
    exact ⟨rfl, below_drewN' hb2 _⟩
end Go.Proofs.YtbiiempgefjkiaaDoor.Ar
