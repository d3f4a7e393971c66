/- lexer: the kinds of tokens, Next. -/
import Derived.Test.YticehbhedoploaaGreatDoorLxH
import Derived.Deep.RegionHeld3
namespace Go.Proofs.YticehbhedoploaaGreatDoor
open Go.RowKit
set_option linter.unusedVariables false

theorem digs_b : ∀ n, n < 256 → ([48, 49, 50, 51, 52, 53, 54, 55, 56, 57] : List UInt8).contains (UInt8.ofNat n) = digB (UInt8.ofNat n) := by decide +kernel
theorem digs_c (x : UInt8) : ([48, 49, 50, 51, 52, 53, 54, 55, 56, 57] : List UInt8).contains x = digB x := by
  have := digs_b x.toNat x.toNat_lt
  rw [UInt8.ofNat_toNat] at this
  exact this
theorem dropW_nil (p : UInt8 → Bool) : ∀ l : List UInt8, (l.dropWhile p).isEmpty = l.all p
  | [] => rfl
  | x :: r => by
    rw [List.dropWhile_cons, List.all_cons]
    rcases h : p x with _ | _
    · rfl
    · rw [if_pos rfl, Bool.true_and]; exact dropW_nil p r
theorem dropW_all (p : UInt8 → Bool) (l : List UInt8) (h : ((l.reverse.dropWhile p).reverse.dropWhile p).isEmpty = true) : l.all p = true := by
  rw [dropW_nil, List.all_reverse] at h
  have h2 : (l.reverse.dropWhile p).isEmpty = true := by
    rcases hd : l.reverse.dropWhile p with _ | ⟨x, r⟩
    · rfl
    · have := List.head?_dropWhile_not p l.reverse
      rw [hd] at this h
      simp at this h
      rw [this] at h
      simp at h
  rw [dropW_nil, List.all_reverse] at h2
  exact h2
theorem trim_nil (l : List UInt8) : (Lib.trimS l [48, 49, 50, 51, 52, 53, 54, 55, 56, 57]).isEmpty = l.all digB := by
  unfold Lib.trimS Lib.trimLeftS Lib.trimRightS
  have e : (([48, 49, 50, 51, 52, 53, 54, 55, 56, 57] : List UInt8).contains ·) = digB := funext digs_c
  rw [e, Bool.eq_iff_iff]
  constructor
  · exact dropW_all digB l
  · intro h
    have h2 : l.reverse.dropWhile digB = [] := by rw [← List.isEmpty_iff, dropW_nil, List.all_reverse]; exact h
    rw [h2]; rfl
theorem trim_c (x : ByteArray) (w : World) (hx : x.size ≤ 140737488355328) : ∃ X : ByteArray, X.toList.isEmpty = x.data.toList.all digB ∧ Calls Tryz.prog 156 #[.string x, .string ⟨#[48, 49, 50, 51, 52, 53, 54, 55, 56, 57]⟩] w fun e w' => e = .returned (.string X) ∧ Below w.heap.size w w' := by
  refine ⟨⟨(Lib.trimS x.data.toList [48, 49, 50, 51, 52, 53, 54, 55, 56, 57]).toArray⟩, ?_, Any.strings_Trim_laid Tryz.lays160 (by kernel_rfl) x ⟨#[48, 49, 50, 51, 52, 53, 54, 55, 56, 57]⟩ w (by omega) (by decide) (ascii_of_all (by decide))⟩
  rw [ByteArray.toList_eq]
  exact trim_nil _
/-- The kind of the text between two places. -/
def kindL (s : List UInt8) (p e : Nat) : Nat :=
  if e = p then 5 else if ((s.drop p).take (e - p) == [10]) = true then 3 else if opS ((s.drop p).take (e - p)) = true then 2 else
  if (decide (e < s.length) && (bt s e == 60 || bt s e == 62)) && ((s.drop p).take (e - p)).all digB then 4 else 1
set_option maxHeartbeats 8000000 in
set_option maxRecDepth 100000 in
theorem kind_c (s : ByteArray) (p e : Nat) (w : World) (hs : s.size ≤ 140737488355328) (hpe : p ≤ e) (he : e ≤ s.size) :
    Calls Tryz.prog 110 #[.string s, .int .i64 p, .int .i64 e] w fun r w' => r = .returned (.int .i64 (kindL s.data.toList p e : Nat)) ∧ Below w.heap.size w w' := by
  unfold kindL
  obtain ⟨x, hx⟩ : ∃ x : ByteArray, x = s.extract p e := ⟨_, rfl⟩
  have hxd : x.data.toList = (s.data.toList.drop p).take (e - p) := by rw [hx, Lib.extract_data]
  have hxs : x.size = e - p := by rw [← lenS x, hxd, List.length_take, List.length_drop, lenS]; omega
  rw [← hxd]
  have hop := Oper_c x w
  obtain ⟨X, hX, htr⟩ := trim_c x w (by omega)
  rw [hx] at htr
  have hopx : opS (s.extract p e).data.toList = opS x.data.toList := by rw [hx]
  rw [hx, hopx] at hop
  have Htr := Lib.hid htr
  have i1 : (p : Int) ≤ (e : Int) := by omega
  have i2 : (e : Int) ≤ (s.size : Int) := by omega
  by_cases h0 : e = p
  · rw [if_pos h0]
    have hz : x.data.toList = [] := List.eq_nil_of_length_eq_zero (by rw [lenS]; omega)
    have e1 : (s.extract p e).toList.isEmpty = true := by rw [← hx, ByteArray.toList_eq, hz]; rfl
    have e2 : ((s.extract p e).toList == []) = true := by rw [← hx, ByteArray.toList_eq, hz]; rfl
    clear hx hxd hxs hop htr h0 hz hX hopx
    go_enter Tryz.func110, Tryz.ntmps110
    go_wp2_with fail
    go_ret
    exact ⟨rfl, Below.refl _ _⟩
  rw [if_neg h0]
  have hnz : x.data.toList ≠ [] := fun h => by have := lenS x; rw [h] at this; simp at this; omega
  have e1 : (s.extract p e).toList.isEmpty = false := by rw [← hx, ByteArray.toList_eq]; exact List.isEmpty_eq_false_iff.2 hnz
  have e2 : ((s.extract p e).toList == []) = false := by rw [← hx, ByteArray.toList_eq]; exact beq_eq_false_iff_ne.2 hnz
  have e3 : ((s.extract p e).toList == [10]) = (x.data.toList == [10]) := by rw [← hx, ByteArray.toList_eq]
  clear hnz h0 hxs hxd hx htr hopx
  rcases h1 : (x.data.toList == [10]) with _ | _
  · rw [h1] at e3
    rw [if_neg (by simp)]
    rcases h2 : opS x.data.toList with _ | _
    · rw [h2] at hop
      have Hop := Lib.hid hop
      rw [if_neg (by simp)]
      by_cases h3 : e < s.size
      · have d1 : decide ((e : Int) < (s.size : Int)) = true := decide_eq_true (by omega)
        have d1' : decide (e < s.size) = true := decide_eq_true h3
        rw [lenS, d1', btS h3]
        rcases hall : x.data.toList.all digB with _ | _
        · rw [hall] at hX
          have e4 : (X.toList == []) = false := by rw [beq_eq_false_iff_ne]; exact List.isEmpty_eq_false_iff.1 hX
          rcases h5 : (s[e]'h3) == 60 with _ | _
          · have t5 : (((s[e]'h3).toNat : Int) == 60) = false := u8b h5 rfl
            rcases h6 : (s[e]'h3) == 62 with _ | _
            · have t6 : (((s[e]'h3).toNat : Int) == 62) = false := u8b h6 rfl
              rw [if_neg (by simp)]
              clear h1 h2 hop h5 h6 hall
              go_enter Tryz.func110, Tryz.ntmps110
              go_wp2_with fail
              refine Hop.out.mono ?_
              rintro e w7 ⟨rfl, rfl⟩
              go_wp2_with fail
              go_ret
              exact ⟨rfl, Below.refl _ _⟩
            · have t6 : (((s[e]'h3).toNat : Int) == 62) = true := u8b h6 rfl
              rw [if_neg (by simp)]
              clear h1 h2 hop h5 h6 hall
              go_enter Tryz.func110, Tryz.ntmps110
              go_wp2_with fail
              refine Hop.out.mono ?_
              rintro e w7 ⟨rfl, rfl⟩
              go_wp2_with fail
              refine Htr.out.mono ?_
              rintro e w7 ⟨rfl, hb⟩
              go_wp2_with fail
              go_ret
              exact ⟨rfl, hb⟩
          · have t5 : (((s[e]'h3).toNat : Int) == 60) = true := u8b h5 rfl
            rw [if_neg (by simp)]
            clear h1 h2 hop h5 hall
            go_enter Tryz.func110, Tryz.ntmps110
            go_wp2_with fail
            refine Hop.out.mono ?_
            rintro e w7 ⟨rfl, rfl⟩
            go_wp2_with fail
            refine Htr.out.mono ?_
            rintro e w7 ⟨rfl, hb⟩
            go_wp2_with fail
            go_ret
            exact ⟨rfl, hb⟩
        · rw [hall] at hX
          have e4 : (X.toList == []) = true := by rw [beq_iff_eq]; exact List.isEmpty_iff.1 hX
          rcases h5 : (s[e]'h3) == 60 with _ | _
          · have t5 : (((s[e]'h3).toNat : Int) == 60) = false := u8b h5 rfl
            rcases h6 : (s[e]'h3) == 62 with _ | _
            · have t6 : (((s[e]'h3).toNat : Int) == 62) = false := u8b h6 rfl
              rw [if_neg (by simp)]
              clear h1 h2 hop h5 h6 hall
              go_enter Tryz.func110, Tryz.ntmps110
              go_wp2_with fail
              refine Hop.out.mono ?_
              rintro e w7 ⟨rfl, rfl⟩
              go_wp2_with fail
              go_ret
              exact ⟨rfl, Below.refl _ _⟩
            · have t6 : (((s[e]'h3).toNat : Int) == 62) = true := u8b h6 rfl
              rw [if_pos (by simp)]
              clear h1 h2 hop h5 h6 hall
              go_enter Tryz.func110, Tryz.ntmps110
              go_wp2_with fail
              refine Hop.out.mono ?_
              rintro e w7 ⟨rfl, rfl⟩
              go_wp2_with fail
              refine Htr.out.mono ?_
              rintro e w7 ⟨rfl, hb⟩
              go_wp2_with fail
              go_ret
              exact ⟨rfl, hb⟩
          · have t5 : (((s[e]'h3).toNat : Int) == 60) = true := u8b h5 rfl
            rw [if_pos (by simp)]
            clear h1 h2 hop h5 hall
            go_enter Tryz.func110, Tryz.ntmps110
            go_wp2_with fail
            refine Hop.out.mono ?_
            rintro e w7 ⟨rfl, rfl⟩
            go_wp2_with fail
            refine Htr.out.mono ?_
            rintro e w7 ⟨rfl, hb⟩
            go_wp2_with fail
            go_ret
            exact ⟨rfl, hb⟩
      · have d1 : decide ((e : Int) < (s.size : Int)) = false := decide_eq_false (by omega)
        have d1' : decide (e < s.size) = false := decide_eq_false h3
        rw [lenS, d1', if_neg (by simp)]
        clear h1 h2 hop hX
        go_enter Tryz.func110, Tryz.ntmps110
        go_wp2_with fail
        refine Hop.out.mono ?_
        rintro e w7 ⟨rfl, rfl⟩
        go_wp2_with fail
        go_ret
        exact ⟨rfl, Below.refl _ _⟩
    · rw [h2] at hop
      have Hop := Lib.hid hop
      rw [if_pos rfl]
      clear h1 h2 hop hX
      go_enter Tryz.func110, Tryz.ntmps110
      go_wp2_with fail
      refine Hop.out.mono ?_
      rintro e w7 ⟨rfl, rfl⟩
      go_wp2_with fail
      go_ret
      exact ⟨rfl, Below.refl _ _⟩
  · rw [h1] at e3
    rw [if_pos rfl]
    clear h1 hop hX
    go_enter Tryz.func110, Tryz.ntmps110
    go_wp2_with fail
    go_ret
    exact ⟨rfl, Below.refl _ _⟩
end Go.Proofs.YticehbhedoploaaGreatDoor
