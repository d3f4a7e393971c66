/- words: the end of a list of two parts. -/
import Derived.Test.YtlenmkcafoiefabGreatDoorHwB
namespace Go.Proofs.YtlenmkcafoiefabGreatDoor
open Go.RowKit
set_option linter.unusedVariables false

set_option maxHeartbeats 16000000 in
set_option maxRecDepth 100000 in
/-- One part, and behind it the text of one byte. -/
theorem finish_two (L B : Nat) (v : Value) (xs : List Value) (g cap : Nat) (b : UInt8) (w : World) (hL : w.heap[L]? = some (lstO v (.slice (some ⟨g, 0, none⟩) 1 cap))) (hv : w.ownsRow B 66 5 v 1 xs) (hu : w.cell? ⟨g, 0, none⟩ = some (.int .u8 b.toNat)) (hB : B ≤ w.heap.size) :
    Calls Tryz.prog 158 #[.pointer (some ⟨L, 0, none⟩)] w fun e w' => (∃ A c, e = .returned (.slice A 2 c)) ∧ Below B w w' := by
  obtain ⟨i0, hi, hz0, hz1, hz2⟩ := infoP partInfo
  obtain ⟨c0, c1, c2, c3⟩ := lst_cells hL
  have hcv : (convert 50 9 (.slice (some ⟨g, 0, none⟩) 1 cap)).run Tryz.prog w.drew = .ok (.string ⟨#[b]⟩) w.drew := run_convert_bytes_back w.drew _ _ 5 ⟨g, 0, none⟩ cap [b] Tryz.underlying50 Tryz.underlying5 Tryz.underlying9 (fun j hj => by
    have : j = 0 := by simpa using hj
    subst this
    exact hu)
  obtain ⟨p, pc, rfl⟩ : ∃ p pc, v = .slice (some ⟨p, 0, none⟩) 1 pc := by
    rcases hv.2 with ⟨_, h⟩ | ⟨p, pc, cur, rfl, _⟩
    · omega
    · exact ⟨p, pc, rfl⟩
  have hN := World.news_of_block (cs := #[.int .i64 1, .string ⟨#[b]⟩, .int .i64 0, .bool false, .slice none 0 0]) (t := 66) (fr := (0, 0)) (heap_alloc_new w.drew (.cells #[.int .i64 1, .string ⟨#[b]⟩, .int .i64 0, .bool false, .slice none 0 0] 66))
  have HN : Hid (∀ j u, (partC 1 ⟨#[b]⟩)[j]? = some u → (w.drew.alloc (.cells #[.int .i64 1, .string ⟨#[b]⟩, .int .i64 0, .bool false, .slice none 0 0] 66)).cell? ((⟨w.heap.size, 0, none⟩ : Addr).add j) = some u) := Lib.hid hN
  have HV : Hid ((w.drew.alloc (.cells #[.int .i64 1, .string ⟨#[b]⟩, .int .i64 0, .bool false, .slice none 0 0] 66)).ownsRow B 66 5 (.slice (some ⟨p, 0, none⟩) 1 pc) 1 xs) := Lib.hid (World.ownsRow.alloc hv.drew _)
  have HB : Hid (Below B w (w.drew.alloc (.cells #[.int .i64 1, .string ⟨#[b]⟩, .int .i64 0, .bool false, .slice none 0 0] 66))) := Lib.hid ((Below.refl _ _).drew.alloc hB _)
  have hlt := (Array.getElem?_eq_some_iff.1 hL).1
  have n1 : L ≠ w.heap.size := by omega
  have n2 : w.heap.size ≠ L := by omega
  obtain ⟨c0', c1', _, _⟩ := lst_cells ((Below.heap_alloc w (.cells #[.int .i64 1, .string ⟨#[b]⟩, .int .i64 0, .bool false, .slice none 0 0] 66) L hlt).trans hL)
  clear hN hv
  go_enter Tryz.func158, Tryz.ntmps158
  go_wp2_with fail
  go_region_law ((refine step_append_lies _ (by rfl) _ _ _ (by rfl) B 66 i0 _ 5 64 Tryz.underlying62 hi hz0 hz1 hz2 rfl (by omega) (.slice (some ⟨p, 0, none⟩) 1 pc) 1 xs (by rfl) HV.out ⟨w.heap.size, 0, none⟩ 1 1 (partC 1 ⟨#[b]⟩) (by rfl) (by rfl) HN.out (by intro u hu; simp [partC] at hu; rcases hu with rfl | rfl | rfl | rfl | rfl <;> rfl) (by omega) (by unfold maxLen; omega) (by omega) (Nat.le_trans hB HB.out.size) (w.heap.size + 1) (by simp) ?_; intro gg cap9 w9 hown9 hgrow9 hat9 hlt9))
  all_goals
    go_wp2_with fail
    go_ret
    exact ⟨⟨_, _, rfl⟩, HB.out.grown hgrow9 (Nat.le_trans hB HB.out.size) (fun q hq => (HV.out.lt q hq).1)⟩
end Go.Proofs.YtlenmkcafoiefabGreatDoor
