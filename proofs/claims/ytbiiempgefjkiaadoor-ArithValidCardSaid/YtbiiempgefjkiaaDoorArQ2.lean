/- arith: symbolSize. -/
import Derived.Test.YtbiiempgefjkiaaDoorArQ
import Derived.Test.YtbiiempgefjkiaaDoorShelf
namespace Go.Proofs.YtbiiempgefjkiaaDoor.Ar
open Go.RowKit
set_option linter.unusedVariables false

theorem bn_size : ∀ k (h : k < 18), (binL[k]'h).t.size ≤ 2 := by
  have h : ∀ b ∈ binL, b.t.size ≤ 2 := by decide
  exact fun k hk => h _ (List.getElem_mem hk)
set_option maxHeartbeats 4000000 in
set_option maxRecDepth 100000 in
theorem symbolSize_c (s : ByteArray) (w : World) (hE : Env w) :
    Calls Tryd.prog 63 #[.string s] w fun e w' => e = .returned (.int .i64 (symN s : Nat)) ∧ Below w.heap.size w w' := by
  obtain ⟨R, hR⟩ : ∃ R, R = symN s := ⟨_, rfl⟩
  rw [← hR]
  have HR := Lib.hid (show R = symL s (binL.drop 0) 1 by rw [hR, List.drop_zero]; rfl)
  clear hR
  obtain ⟨ty0, fr0, hg⟩ := hE
  have HG := Lib.hid hg
  clear hg
  have HC := Lib.hid (fun p W => Tryd.strings_CutPrefix s p W)
  have HH := Lib.hid (fun r W => Tryd.strings_HasPrefix r ⟨#[61]⟩ W)
  go_enter Tryd.func63, Tryd.ntmps63
  go_wp2_with (refine wpList_load_row rfl 93 _ rfl 0 rfl ty0 tabA fr0 _ HG.out Tryd.underlying93 rfl (by kernel_rfl) ?_)
  go_loopw [3, 10] (fun mv iv wr => ∃ k m : Nat, mv = .int .i64 m ∧ iv = .int .i64 k ∧ k ≤ 18 ∧ m ≤ 3 ∧ Below w.heap.size w wr ∧ Hid (R = symL s (binL.drop k) m)) (fun _ iv _ => 18 - (intOf iv).toNat)
  case atStart => exact ⟨0, 1, rfl, rfl, by omega, by omega, Below.refl _ _, HR⟩
  case round =>
    obtain ⟨k, m, rfl, rfl, hk, hm, hb, hx⟩ := hrel
    have hwr := hb.size
    by_cases h8 : k < 18
    · have i1 : (k : Int) < 18 := by omega
      have hix := tab_index k h8 wr
      have hxx := hx.out
      rw [List.drop_eq_getElem_cons h8, symL] at hxx
      have hbs := bn_size k h8
      have Hxx := Lib.hid hxx
      generalize binL[k] = b at *
      have hb2 := hb.alloc hwr (.cells #[.string b.t, .int .i64 b.op, .int .i64 b.lv, .bool b.as] 82)
      clear hx hxx HG HR
      unfold bnV at hix
      unfold symOne at Hxx
      rcases hpre : b.t.data.toList.isPrefixOf s.data.toList with _ | _
      · have HQ : Hid (R = symL s (binL.drop (k + 1)) m) := Lib.hid (by
          have := Hxx.out
          rw [hpre, if_neg (by simp), Nat.max_eq_left (Nat.zero_le _)] at this
          exact this)
        have HC2 := Lib.hid (HC.out b.t (wr.alloc (.cells #[.string b.t, .int .i64 b.op, .int .i64 b.lv, .bool b.as] 82)))
        unfold Lib.hasPrefix Lib.trimPrefix Lib.hasPrefix at HC2
        rw [hpre] at HC2
        clear Hxx hpre HC HH
        go_wp2_with fail
        refine HC2.out.mono ?_
        rintro e w2 ⟨rfl, rfl⟩
        go_wp2_with fail
        go_roundw
        case rel => exact ⟨k + 1, m, rfl, by go_num, by omega, hm, hb2, HQ⟩
        case measure => simp [intOf]; omega
      · have HC2 := Lib.hid (HC.out b.t (wr.alloc (.cells #[.string b.t, .int .i64 b.op, .int .i64 b.lv, .bool b.as] 82)))
        unfold Lib.hasPrefix Lib.trimPrefix Lib.hasPrefix at HC2
        rw [hpre, if_pos rfl] at HC2
        have HH2 := Lib.hid (HH.out ⟨(s.data.toList.drop b.t.data.toList.length).toArray⟩ (wr.alloc (.cells #[.string b.t, .int .i64 b.op, .int .i64 b.lv, .bool b.as] 82)))
        have hx3 := Hxx.out
        rw [hpre, if_pos rfl] at hx3
        rw [← len_toList b.t] at hx3
        unfold Lib.hasPrefix at HH2
        clear Hxx hpre HC HH
        rcases has : b.as with _ | _
        · rw [has] at hb2 hix hx3 HC2
          have HQ : Hid (R = symL s (binL.drop (k + 1)) (max m b.t.size)) := Lib.hid (by rw [hx3]; simp)
          clear hx3 HH2 has
          go_wp2_with fail
          refine HC2.out.mono ?_
          rintro e w2 ⟨rfl, rfl⟩
          go_wp2_with fail
          go_roundw
          case rel => exact ⟨k + 1, max m b.t.size, (by first | rfl | go_num | (congr 1; omega)), by go_num, by omega, by omega, hb2, HQ⟩
          case measure => simp [intOf]; omega
        · rw [has] at hb2 hix hx3 HC2 HH2
          rcases hq : ([61] : List UInt8).isPrefixOf (s.data.toList.drop b.t.data.toList.length) with _ | _
          · have HQ : Hid (R = symL s (binL.drop (k + 1)) (max m b.t.size)) := Lib.hid (by rw [hx3, ← len_toList b.t, hq]; simp)
            have HH3 := HH2.out
            simp only [hq] at HH3
            have HH4 := Lib.hid HH3
            clear hx3 HH2 has hq HH3
            go_wp2_with fail
            refine HC2.out.mono ?_
            rintro e w2 ⟨rfl, rfl⟩
            go_wp2_with fail
            refine HH4.out.mono ?_
            rintro e w2 ⟨rfl, rfl⟩
            go_wp2_with fail
            go_roundw
            case rel => exact ⟨k + 1, max m b.t.size, (by first | rfl | go_num | (congr 1; omega)), by go_num, by omega, by omega, hb2, HQ⟩
            case measure => simp [intOf]; omega
          · have HQ : Hid (R = symL s (binL.drop (k + 1)) (max m (b.t.size + 1))) := Lib.hid (by rw [hx3, ← len_toList b.t, hq]; simp)
            have HH3 := HH2.out
            simp only [hq] at HH3
            have HH4 := Lib.hid HH3
            clear hx3 HH2 has hq HH3
            go_wp2_with fail
            refine HC2.out.mono ?_
            rintro e w2 ⟨rfl, rfl⟩
            go_wp2_with fail
            refine HH4.out.mono ?_
            rintro e w2 ⟨rfl, rfl⟩
            go_wp2_with fail
            go_roundw
            case rel => exact ⟨k + 1, max m (b.t.size + 1), (by first | rfl | go_num | (congr 1; omega)), by go_num, by omega, by omega, hb2, HQ⟩
            case measure => simp [intOf]; omega
    · obtain rfl : k = 18 := by omega
      have hR2 : R = m := hx.out
      subst hR2
      clear hx HR
      go_wp2_with fail
      go_ret
      exact ⟨rfl, hb⟩
end Go.Proofs.YtbiiempgefjkiaaDoor.Ar
