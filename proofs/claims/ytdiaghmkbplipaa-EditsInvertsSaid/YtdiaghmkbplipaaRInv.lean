/- The contract of the reference's Invert, and that inverted edits restore the text. -/
import Derived.Test.YtdiaghmkbplipaaInv
import Derived.Test.YtdiaghmkbplipaaRVal
namespace Go.Proofs.Ytdiaghmkbplipaa
open Go.RowKit

set_option maxHeartbeats 4000000 in
set_option maxRecDepth 100000 in
theorem rinvert_c (s : ByteArray) (A : Option Addr) (c : Nat) (es : List Ed) (w : World) (hs : s.size ≤ 17000) (he : EdOk es) (hA : EdAt w w.heap.size A es) (hv : valid s es = 0) :
    Calls Try.prog 19 #[.string s, .slice A es.length c] w fun e w' => ∃ v, e = .returned (.tuple #[v, .int .i64 0]) ∧ w'.ownsRow w.heap.size 47 3 v es.length (cellsOf (invL s 0 es)) ∧ Below w.heap.size w w' := by
  obtain ⟨i0, hi0, hz0, hz1, hz2⟩ := info_parts edInfo
  have hlen := he.1
  have hall := valid_all hv
  have Hv := Lib.hid hv
  clear hv
  go_enter Try.func19, Try.ntmps19
  go_wp2_with fail
  refine (rvalid_c s A c es w hs he hA).mono ?_
  rintro e w1 ⟨rfl, hb1⟩
  rw [Hv.out]
  have hsz1 := hb1.size
  go_wp2_with fail
  go_loopw [7, 8, 9] (fun ov mv iv wr => ∃ (k : Nat) (m : Int) (xs : List Value) (vv : Value), k ≤ es.length ∧ ov = vv ∧ iv = .int .i64 k ∧ mv = .int .i64 m ∧ -17000 * k ≤ m ∧ m ≤ 17000 * k ∧ wr.ownsRow w.heap.size 47 3 vv k xs ∧ xs ++ cellsOf (invL s m (es.drop k)) = cellsOf (invL s 0 es) ∧ Below w.heap.size w wr) (fun _ _ iv _ => es.length - (intOf iv).toNat)
  case atStart => exact ⟨0, 0, [], _, by omega, rfl, rfl, rfl, by omega, by omega, ⟨by simp, .inl ⟨rfl, rfl⟩⟩, rfl, hb1⟩
  case round =>
    obtain ⟨k, m, xs, ov, hk, hov, rfl, rfl, hm1, hm2, hown, hx, hb⟩ := hrel
    have hsz := hb.size
    obtain rfl : u7 = ov := hov
    by_cases hlt : k < es.length
    · obtain ⟨h1, h2, h3, h4, h5⟩ := ed_ok_at he hlt
      obtain ⟨v1, v2, v3⟩ := hall _ (List.getElem_mem hlt)
      obtain ⟨b, off, rfl, had, hc⟩ := (hA.below hb) (by omega)
      obtain ⟨c0, c1, c2⟩ := hc k es[k] (List.getElem?_eq_getElem hlt)
      rw [List.drop_eq_getElem_cons hlt] at hx
      clear hc
      generalize es[k] = e at *
      obtain ⟨f, t, x⟩ := e
      simp only at v1 v2 v3 c0 c1 c2 h1 h2 h3 h4 h5
      obtain ⟨f, rfl⟩ := Int.eq_ofNat_of_zero_le v1
      obtain ⟨t, rfl⟩ := Int.eq_ofNat_of_zero_le (show 0 ≤ t by omega)
      simp only [invL, Int.toNat_natCast] at hx
      have Hx := Lib.hid hx
      clear hx
      have i0' : (k : Int) < es.length := by omega
      have i1 : (f : Int) ≤ t := by omega
      have i2 : (t : Int) ≤ s.size := by omega
      have i3 : (0 : Int) ≤ f := by omega
      have hnl : u7.ownBlock ≠ some b := fun e => by have := (hown.lt _ e).1; omega
      have hbl : b < wr.heap.size := by omega
      have u1 : IntKind.i64.wrap ((f : Int) + m) = (f : Int) + m := IntWalk.i64_in _ (by omega)
      have u2 : IntKind.i64.wrap ((f : Int) + m + (x.size : Int)) = (f : Int) + m + x.size := IntWalk.i64_in _ (by omega)
      go_wp2_with fail
      go_region_held3 (fun w' => w'.cell? ⟨b, off + k * 3, none⟩ = some (.int .i64 f) ∧ w'.cell? ⟨b, off + k * 3 + 1, none⟩ = some (.int .i64 t) ∧ w'.cell? ⟨b, off + k * 3 + 2, none⟩ = some (.string x))
        (first
          | go_keep
          | (go_split_ands
             refine ⟨?_, ?_, ?_⟩
             · (rw [hgrow.cell_far _ (by simp; omega) (Ne.symm hnl)]; assumption)
             · (rw [hgrow.cell_far _ (by simp; omega) (Ne.symm hnl)]; assumption)
             · (rw [hgrow.cell_far _ (by simp; omega) (Ne.symm hnl)]; assumption)))
        ((refine step_append_lies _ (by rfl) _ _ _ (by rfl) w.heap.size 47 i0 _ 3 32 Try.underlying34 hi0 hz0 hz1 hz2 rfl (by omega) u7 k xs (by rfl) ((hown.alloc _).drew) ⟨wr.heap.size, 0, none⟩ 1 1 [.int .i64 ((f : Int) + m), .int .i64 ((f : Int) + m + x.size), .string (s.extract f t)] (by rfl) (by rfl) (World.news_of_block (cs := #[.int .i64 ((f : Int) + m), .int .i64 ((f : Int) + m + x.size), .string (s.extract f t)]) (t := 47) (fr := (0, 0)) (heap_alloc_new wr _)) (by simp [Value.oneCell']) (by omega) (by simp only [maxLen]; omega) (by omega) (by simp; omega) (wr.heap.size + 1) (by simp) ?_; intro gg cap w4 hown1 hgrow hat hlt4))
      have hS : w4.cell? ⟨b, off + k * 3, none⟩ = some (.int .i64 f) ∧ w4.cell? ⟨b, off + k * 3 + 1, none⟩ = some (.int .i64 t) ∧ w4.cell? ⟨b, off + k * 3 + 2, none⟩ = some (.string x) := by assumption
      obtain ⟨n0, n1, n2⟩ := hS
      have hb4 : Below w.heap.size w w4 := ((hb.alloc hsz _).drew).grown hgrow (by simp; omega) (fun g hg => (hown.lt g hg).1)
      have hsz4 := hb4.size
      have G1 : -17000 ≤ (Ed.mk f t x).grow := by unfold Ed.grow; simp only; omega
      have G2 : (Ed.mk f t x).grow ≤ 17000 := by unfold Ed.grow; simp only; omega
      have hG : (Ed.mk f t x).grow = (x.size : Int) - ((t : Int) - f) := rfl
      clear u1 u2 hgrow hat hown c0 c1 c2
      have u3 : IntKind.i64.wrap (m + (x.size : Int)) = m + x.size := IntWalk.i64_in _ (by omega)
      have u4 : IntKind.i64.wrap ((t : Int) - f) = (t : Int) - f := IntWalk.i64_in _ (by omega)
      have u5 : IntKind.i64.wrap (m + (x.size : Int) - ((t : Int) - f)) = m + x.size - ((t : Int) - f) := IntWalk.i64_in _ (by omega)
      have HG := Lib.hid hG
      clear hG
      generalize (Ed.mk f t x).grow = G at *
      go_wp2_with fail
      go_quiet (fail)
      clear u3 u4 u5
      go_wp2_with fail
      go_roundw
      case rel => exact ⟨k + 1, m + G, _, _, by omega, rfl, by go_num, by rw [HG.out]; go_num, by omega, by omega, hown1, by rw [← Hx.out]; simp [cellsOf], below_drewN hb4 _⟩
      case measure => simp [intOf]; omega
    · have hkk : k = es.length := by omega
      subst hkk
      rw [List.drop_length, invL] at hx
      have hx' : xs = cellsOf (invL s 0 es) := by simpa [cellsOf] using hx
      have Hx := Lib.hid hx'
      clear hx hx'
      go_wp2_with fail
      go_ret2
      exact ⟨_, rfl, by rw [← Hx.out]; exact hown, hb⟩

theorem rinvert_no (s : ByteArray) (A : Option Addr) (c : Nat) (es : List Ed) (w : World) (hs : s.size ≤ 17000) (he : EdOk es) (hA : EdAt w w.heap.size A es) (hv : ¬ valid s es = 0) :
    Calls Try.prog 19 #[.string s, .slice A es.length c] w fun e w' => e = .returned (.tuple #[.slice none 0 0, .int .i64 (valid s es)]) ∧ Below w.heap.size w w' := by
  have t1 : (valid s es != 0) = true := by simp [hv]
  clear hv
  go_enter Try.func19, Try.ntmps19
  go_wp2_with fail
  refine (rvalid_c s A c es w hs he hA).mono ?_
  rintro e w1 ⟨rfl, hb1⟩
  go_wp2_with fail
  go_ret2
  exact ⟨rfl, hb1⟩
end Go.Proofs.Ytdiaghmkbplipaa
