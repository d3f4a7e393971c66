/- The contracts of chars.Quote and of the reference's Quote. -/
import Derived.Test.YtdjphpobhbelaaaDoorRCh2
import Derived.Lib.Replace
import Derived.Lib.SplitLaws
namespace Go.Proofs.YtdjphpobhbelaaaDoor
open Go.RowKit

/-- What the calls of this package need of the library's variables: the greatest length of a fast search, the tables of UTF-8. -/
structure Env (w : World) (B : Nat) : Prop where
  mx : ∃ m, w.cell? ⟨2, 0, none⟩ = some (.int .i64 m)
  tb : Lib.Utf8Tabs 0 1 w
  lt : 0 < B ∧ 1 < B ∧ 2 < B

theorem replaceK_one (c : UInt8) (new : List UInt8) : ∀ s : List UInt8, Lib.replaceK [c] new (s.count c) s = s.flatMap fun b => if b = c then new else [b]
  | [] => rfl
  | b :: l => by
    by_cases h : b = c
    · subst h
      have hi : Lib.index (b :: l) [b] = ((0 : Nat) : Int) := by rw [Lib.index_one]; unfold Lib.indexByte; simp
      rw [List.count_cons_self, Lib.replaceK_hit [b] new _ _ 0 hi]
      simp [replaceK_one b new l]
    · rw [List.count_cons_of_ne h, List.flatMap_cons, if_neg h, ← replaceK_one c new l]
      rcases hk : l.count c with _ | k
      · rfl
      · obtain ⟨i, hi⟩ := Lib.index_of_count (s := l) (old := [c]) (by rw [Lib.count_one, hk]; omega)
        have hi' : Lib.index (b :: l) [c] = ((i + 1 : Nat) : Int) := by
          rw [Lib.index_one] at hi ⊢
          unfold Lib.indexByte
          rw [if_neg (by simpa using h), hi, if_neg (by simp)]
          omega
        rw [Lib.replaceK_hit [c] new k _ (i + 1) hi', Lib.replaceK_hit [c] new k _ i hi]
        simp

def quoteB (c : UInt8) : List UInt8 := if c = 39 then [39, 92, 39, 39] else [c]
/-- The quoted form. -/
def quoteF (F : Bool) (s : ByteArray) : ByteArray := if F = true then s else ⟨([39] ++ s.data.toList.flatMap quoteB ++ [39]).toArray⟩

theorem replaceAll_one (s : ByteArray) : Lib.replaceAll s.data.toList [39] [39, 92, 39, 39] = s.data.toList.flatMap quoteB := by
  unfold Lib.replaceAll Lib.replace Lib.replaceNum
  rw [if_neg (by decide), if_pos (by omega), Lib.count_one, replaceK_one]
  rfl

theorem flat_len : ∀ l : List UInt8, (l.flatMap quoteB).length ≤ 4 * l.length
  | [] => by simp
  | b :: l => by
    have := flat_len l
    rw [List.flatMap_cons, List.length_append, List.length_cons]
    have : (quoteB b).length ≤ 4 := by unfold quoteB; split <;> simp
    omega
theorem flat_size (s : ByteArray) : (⟨(s.data.toList.flatMap quoteB).toArray⟩ : ByteArray).size ≤ 4 * s.size := by
  have h := flat_len s.data.toList
  have e : s.data.toList.length = s.size := rfl
  rw [e] at h
  exact h

theorem quote_c (s : ByteArray) (F : Bool) (hF : F = true ↔ PlainP s) (w : World) (hs : s.size ≤ 1000) (hE : Env w w.heap.size) :
    Calls Tryd.prog 17 #[.string s] w fun e w' => e = .returned (.string (quoteF F s)) ∧ Below w.heap.size w w' := by
  have hP := plain_c s F hF w
  have HP := Lib.hid hP
  clear hP hF
  rcases F with _ | _
  · go_enter Tryd.func17, Tryd.ntmps17
    go_wp2_with fail
    refine HP.out.mono ?_
    rintro e w1 ⟨rfl, hb1⟩
    obtain ⟨m, hm⟩ := hE.mx
    have hm1 : w1.cell? ⟨2, 0, none⟩ = some (.int .i64 m) := (hb1.cell (p := ⟨2, 0, none⟩) hE.lt.2.2).trans hm
    go_wp2_with fail
    refine (Tryd.strings_ReplaceAll s ⟨#[39]⟩ ⟨#[39, 92, 39, 39]⟩ m w1 (by omega) hm1 (by decide) ?_).mono ?_
    · have hc := Lib.countB_mul_le ⟨#[39]⟩ (by decide) s.size s (Nat.le_refl _)
      have h1 : (⟨#[39]⟩ : ByteArray).size = 1 := rfl
      rw [h1, Nat.mul_one] at hc
      have h4 : (⟨#[39, 92, 39, 39]⟩ : ByteArray).size = 4 := rfl
      rw [h4]
      omega
    rintro e w2 ⟨rfl, hb2⟩
    have hr : (⟨(Lib.replaceAll s.data.toList [39] [39, 92, 39, 39]).toArray⟩ : ByteArray) = ⟨(s.data.toList.flatMap quoteB).toArray⟩ := by rw [replaceAll_one]
    have hq := flat_size s
    generalize hQ : (⟨(s.data.toList.flatMap quoteB).toArray⟩ : ByteArray) = Q at *
    have HQ := Lib.hid hQ
    clear hQ
    have h39 : (⟨#[39]⟩ : ByteArray).size = 1 := rfl
    rw [show (Value.string ⟨(Lib.replaceAll s.data.toList (⟨#[39]⟩ : ByteArray).data.toList (⟨#[39, 92, 39, 39]⟩ : ByteArray).data.toList).toArray⟩) = Value.string Q from congrArg Value.string hr]
    clear hr
    go_wp2_with fail
    go_ret
    refine ⟨?_, hb1.trans (hb2.mono hb1.size)⟩
    have e1 : (⟨#[39]⟩ : ByteArray) ++ Q ++ ⟨#[39]⟩ = quoteF false s := by
      rw [← HQ.out]
      apply Go.WideShapes.bytes_inj
      simp [quoteF]
    rw [← e1]
    rfl
  · go_enter Tryd.func17, Tryd.ntmps17
    go_wp2_with fail
    refine HP.out.mono ?_
    rintro e w1 ⟨rfl, hb1⟩
    go_wp2_with fail
    go_ret
    exact ⟨rfl, hb1⟩
end Go.Proofs.YtdjphpobhbelaaaDoor
