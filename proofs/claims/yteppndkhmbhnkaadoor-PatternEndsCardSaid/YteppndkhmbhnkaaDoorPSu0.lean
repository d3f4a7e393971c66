/- pattern: Suffix of any pattern, the empty one among them. -/
import Derived.Test.YteppndkhmbhnkaaDoorPSuf
import Derived.Test.YteppndkhmbhnkaaDoorPSml
namespace Go.Proofs.YteppndkhmbhnkaaDoor
open Go.RowKit
set_option linter.unusedVariables false

set_option maxHeartbeats 4000000 in
set_option maxRecDepth 100000 in
theorem cloneE_c (ad : Addr) (c : Nat) (w : World) :
    Calls Tryd.prog 61 #[.slice (some ad) 0 c] w fun e w' => ∃ X c', e = .returned (.slice X 0 c') ∧ Below w.heap.size w w' := by
  obtain ⟨i0, hi, hz0, hz1, hz2⟩ := info_parts patInfo
  have hq : (binOp BinOp.eql 26 (.slice (some ad) 0 c) (.slice none 0 0)).run Tryd.prog w = .ok (.bool false) w := by kernel_rfl
  have ho := own_empty w
  have hwb : Below w.heap.size w (w.alloc (.cells #[] 43)) := (Below.refl _ _).alloc (Nat.le_refl _) _
  have hwsz : w.heap.size ≤ (w.alloc (.cells #[] 43)).heap.size := hwb.size
  have Ho := Lib.hid ho; have Hwb := Lib.hid hwb
  clear ho hwb
  go_enter Tryd.func61, Tryd.ntmps61
  go_wp2_with (at_builtin; refine wpList_append_own _ rfl _ _ 26 rfl w.heap.size 43 i0 _ 4 56 Tryd.underlying26 hi hz0 hz1 hz2 rfl (by decide) _ _ _ rfl Ho.out ad 0 c [] rfl rfl (by intro j u hu; simp at hu) (by intro u hu; simp at hu) (by decide) (by decide) hwsz ?_)
  intro v' w8 hown' hgrow hnil
  have hb8 : Below w.heap.size w w8 := Hwb.out.grown hgrow hwsz (fun q hq => by
    have := (Ho.out.lt q hq).1; exact this)
  obtain ⟨X, c', rfl⟩ : ∃ X c', v' = .slice X 0 c' := by
    rcases hown'.2 with ⟨h, _⟩ | ⟨g, cap, cur, h, _⟩
    · exact ⟨_, _, h⟩
    · exact ⟨_, _, h⟩
  clear hown' hgrow hnil Ho Hwb
  go_wp2_with fail
  go_ret
  exact ⟨X, c', rfl, hb8⟩
set_option maxHeartbeats 4000000 in
set_option maxRecDepth 100000 in
theorem reverseE_c (X : Option Addr) (c : Nat) (w : World) :
    Calls Tryd.prog 62 #[.slice X 0 c] w fun e w' => e = .returned (.tuple #[]) ∧ w = w' := by
  go_enter Tryd.func62, Tryd.ntmps62
  go_wp2_with fail
  go_loopw [2, 3] (fun iv jv wr => iv = .int .i64 0 ∧ jv = .int .i64 (-1) ∧ w = wr) (fun _ _ _ => 0)
  case atStart => exact ⟨rfl, rfl, rfl⟩
  case round =>
    obtain ⟨rfl, rfl, rfl⟩ := hrel
    have d1 : decide ((0 : Int) < (-1 : Int)) = false := by decide
    go_wp2_with fail
    exact bodyPost_end (results_none rfl _ _ _) rfl ⟨rfl, rfl⟩
set_option maxHeartbeats 8000000 in
set_option maxRecDepth 100000 in
theorem suffixE_c (A : Option Addr) (c : Nat) (s : List UInt8) (lg : Bool) (w : World) (hsl : s.length ≤ 1000000)
    (hcl0 : Calls Tryd.prog 61 #[.slice A 0 c] w fun e w' => ∃ X c', e = .returned (.slice X 0 c') ∧ Below w.heap.size w w') :
    Calls Tryd.prog 27 #[.slice A 0 c, .string ⟨s.toArray⟩, .bool lg] w fun e w' => e = .returned (.tuple #[.int .i64 ((sufL [] s lg).1 : Nat), .bool (sufL [] s lg).2]) ∧ Below w.heap.size w w' := by
  have hcl := Lib.hid hcl0
  have hcv : ∀ w, (convert 9 82 (.string ⟨s.toArray⟩)).run Tryd.prog w = .ok (.slice (some ⟨w.heap.size, 0, none⟩) s.length (grownCap w s.length 0 5)) (Lib.bytesWorld w 5 ⟨s.toArray⟩) := fun w => Lib.run_convert_string_bytes w _ _ _ _ Tryd.underlying9 Tryd.underlying82 Tryd.underlying5
  clear hcl0
  go_enter Tryd.func27, Tryd.ntmps27
  go_wp2_with fail
  refine hcl.out.mono ?_
  rintro e w1 ⟨X, c1, rfl, hb1⟩
  clear hcl
  go_wp2_with fail
  have hB2 := rowB_bytes w1 s
  have hb2 := below_bytes hb1 hb1.size 5 ⟨s.toArray⟩
  clear hcv
  generalize grownCap w1 s.length 0 5 = c2 at *
  generalize Lib.bytesWorld w1 5 ⟨s.toArray⟩ = w2 at *
  refine (reverseE_c X c1 w2).mono ?_
  rintro e w3 ⟨rfl, rfl⟩
  have hB3' := Lib.hid hB2
  clear hB2
  go_wp2_with fail
  refine (reverseB_c w1.heap.size s.length c2 _ w2 hB3'.out hsl).mono ?_
  rintro e w4 ⟨rfl, hB4, hG4⟩
  have hb4 := hb2.trans (hG4.bel.mono hb1.size)
  have hcv4 : ∀ cap, (convert 82 9 (.slice (some ⟨w1.heap.size, 0, none⟩) s.length cap)).run Tryd.prog w4 = .ok (.string ⟨s.reverse.toArray⟩) w4 := fun cap => conv_rowB hB4
  have hpre := prefix_c X [] c1 s.reverse lg w4 (.inl rfl) (by simp) (by simp) (by simpa using hsl)
  have Hpre : Hid (Calls Tryd.prog 25 #[.slice X 0 c1, .string ⟨s.reverse.toArray⟩, .bool lg] w4 fun e w' => e = .returned (.tuple #[.int .i64 ((sufL [] s lg).1 : Nat), .bool (sufL [] s lg).2]) ∧ Below w4.heap.size w4 w') := Lib.hid hpre
  clear hpre hG4 hB4 hB3'
  go_wp2_with fail
  refine Hpre.out.mono ?_
  rintro e w5 ⟨rfl, m5⟩
  have hfin := hb4.trans (m5.mono hb4.size)
  clear Hpre
  go_wp2_with fail
  exact bodyPost_ret (results_tmp2 rfl _ _ _) rfl ⟨rfl, hfin⟩
theorem suffixA_c (A : Option Addr) (c : Nat) (is : List It) (s : List UInt8) (lg : Bool) (w : World) (hp : PatAt w w.heap.size A is) (ho : ∀ x ∈ is, ItOk x) (hl : is.length ≤ 1000000) (hsl : s.length ≤ 1000000) :
    Calls Tryd.prog 27 #[.slice A is.length c, .string ⟨s.toArray⟩, .bool lg] w fun e w' => e = .returned (.tuple #[.int .i64 ((sufL is s lg).1 : Nat), .bool (sufL is s lg).2]) ∧ Below w.heap.size w w' := by
  by_cases hne : is = []
  · subst hne
    rcases A with _ | ad
    · exact suffixE_c none c s lg w hsl ((cloneNil_c c w).mono (fun e w' ⟨h1, h2⟩ => ⟨none, 0, h1, by subst h2; exact Below.refl _ _⟩))
    · exact suffixE_c (some ad) c s lg w hsl (cloneE_c ad c w)
  · obtain ⟨b, off, rfl⟩ : ∃ b off, A = some ⟨b, off, none⟩ := by
      rcases hp with h | ⟨b, off, h, _⟩
      · exact absurd h hne
      · exact ⟨b, off, h⟩
    exact suffix_c b off c is s lg w hne hp ho hl hsl
end Go.Proofs.YteppndkhmbhnkaaDoor
