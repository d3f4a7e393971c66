/- The contracts of the reference's hex and escape. -/
import Derived.Test.YtdjphpobhbelaaaDoorEsc
import Derived.Test.YtdjphpobhbelaaaDoorRUnq2
namespace Go.Proofs.YtdjphpobhbelaaaDoor
open Go.RowKit

theorem rhex_c (n : Nat) (h : n < 16) (w : World) : Calls Tryd.prog 60 #[.int .i64 n] w fun e w' => e = .returned (.string (hexS.extract n (n + 1))) ∧ w = w' := by
  have i1 : (n : Int) + 1 ≤ 16 := by omega
  have i2 : (n : Int) ≤ (n : Int) + 1 := by omega
  have i3 : n < 16 := h
  have i4 : (0 : Int) ≤ (n : Int) := by omega
  have i5 : (n : Int) < 16 := by omega
  go_enter Tryd.func60, Tryd.ntmps60
  go_wp2_with fail
  go_ret
  exact ⟨rfl, rfl⟩

/-- The escape of a byte. -/
def escB (c : UInt8) : ByteArray :=
  if c = 10 then ⟨#[92, 110]⟩ else if c = 9 then ⟨#[92, 116]⟩ else if c = 92 then ⟨#[92, 92]⟩
  else if c.toNat < 32 ∨ 126 < c.toNat then hexE c.toNat (UInt8.toNat_lt c) else ⟨#[c]⟩

theorem conv1 (w : World) (q : UInt8) : (convert 39 9 (.slice (some ⟨w.heap.size, 0, none⟩) 1 1)).run Tryd.prog (w.alloc (.cells #[.int .u8 q.toNat] 5)) = .ok (.string ⟨#[q]⟩) (w.alloc (.cells #[.int .u8 q.toNat] 5)) := by
  refine run_convert_bytes_back _ _ _ 5 ⟨w.heap.size, 0, none⟩ 1 [q] Tryd.underlying39 Tryd.underlying5 Tryd.underlying9 ?_
  intro j hj
  have hj4 : j < 1 := hj
  rw [show (⟨w.heap.size, 0, none⟩ : Addr).add j = ⟨w.heap.size, j, none⟩ from by simp [Addr.add] <;> omega, World.cell?_alloc_mark]
  rcases j with _ | j
  · rfl
  · omega

theorem hexE_cat (b : Nat) (h : b < 256) : (⟨#[92, 120]⟩ : ByteArray) ++ hexS.extract (b / 16) (b / 16 + 1) ++ hexS.extract (b % 16) (b % 16 + 1) = hexE b h := by
  have e1 := ext_one (s := hexS) (k := b / 16) (by show b / 16 < 16; omega)
  have e2 := ext_one (s := hexS) (k := b % 16) (by show b % 16 < 16; omega)
  apply ByteArray.ext
  apply Array.ext'
  show ((⟨#[92, 120]⟩ : ByteArray) ++ hexS.extract (b / 16) (b / 16 + 1) ++ hexS.extract (b % 16) (b % 16 + 1)).data.toList = _
  rw [show ((⟨#[92, 120]⟩ : ByteArray) ++ hexS.extract (b / 16) (b / 16 + 1) ++ hexS.extract (b % 16) (b % 16 + 1)).data.toList = [92, 120] ++ (hexS.extract (b / 16) (b / 16 + 1)).data.toList ++ (hexS.extract (b % 16) (b % 16 + 1)).data.toList from by simp, e1, e2]
  rfl

set_option maxHeartbeats 2000000 in
theorem rescape_c (c : UInt8) (w : World) : Calls Tryd.prog 46 #[.int .u8 c.toNat] w fun e w' => e = .returned (.string (escB c)) ∧ Below w.heap.size w w' := by
  have hc := UInt8.toNat_lt c
  by_cases h1 : c = 10
  · subst h1
    rw [show escB 10 = ⟨#[92, 110]⟩ from rfl, show ((10 : UInt8).toNat : Int) = 10 from rfl]
    go_enter Tryd.func46, Tryd.ntmps46
    go_wp2_with fail
    go_ret
    exact ⟨rfl, Below.refl _ _⟩
  have n1 : c.toNat ≠ 10 := fun h => h1 (u8_of (v := 10) (by omega) h)
  have t1 : ((c.toNat : Int) == 10) = false := ne_test (v := 10) n1
  by_cases h2 : c = 9
  · subst h2
    rw [show escB 9 = ⟨#[92, 116]⟩ from rfl, show ((9 : UInt8).toNat : Int) = 9 from rfl]
    clear t1 n1 h1
    go_enter Tryd.func46, Tryd.ntmps46
    go_wp2_with fail
    go_ret
    exact ⟨rfl, Below.refl _ _⟩
  have n2 : c.toNat ≠ 9 := fun h => h2 (u8_of (v := 9) (by omega) h)
  have t2 : ((c.toNat : Int) == 9) = false := ne_test (v := 9) n2
  by_cases h3 : c = 92
  · subst h3
    rw [show escB 92 = ⟨#[92, 92]⟩ from rfl, show ((92 : UInt8).toNat : Int) = 92 from rfl]
    clear t1 n1 h1 t2 n2 h2
    go_enter Tryd.func46, Tryd.ntmps46
    go_wp2_with fail
    go_ret
    exact ⟨rfl, Below.refl _ _⟩
  have n3 : c.toNat ≠ 92 := fun h => h3 (u8_of (v := 92) (by omega) h)
  have t3 : ((c.toNat : Int) == 92) = false := ne_test (v := 92) n3
  by_cases h4 : c.toNat < 32 ∨ 126 < c.toNat
  · have he : escB c = (⟨#[92, 120]⟩ : ByteArray) ++ hexS.extract (c.toNat / 16) (c.toNat / 16 + 1) ++ hexS.extract (c.toNat % 16) (c.toNat % 16 + 1) := by
      rw [hexE_cat _ hc, escB, if_neg h1, if_neg h2, if_neg h3, if_pos h4]
    have z1 : (hexS.extract (c.toNat / 16) (c.toNat / 16 + 1)).size ≤ 1 := by simp; omega
    have z2 : (hexS.extract (c.toNat % 16) (c.toNat % 16 + 1)).size ≤ 1 := by simp; omega
    have q1 : ∀ W, Calls Tryd.prog 60 #[.int .i64 ((c.toNat : Int) / 16)] W fun e w' => e = .returned (.string (hexS.extract (c.toNat / 16) (c.toNat / 16 + 1))) ∧ W = w' := fun W => by
      have := rhex_c (c.toNat / 16) (by omega) W
      rw [show ((c.toNat / 16 : Nat) : Int) = (c.toNat : Int) / 16 from by omega] at this
      exact this
    have q2 : ∀ W, Calls Tryd.prog 60 #[.int .i64 ((c.toNat : Int) % 16)] W fun e w' => e = .returned (.string (hexS.extract (c.toNat % 16) (c.toNat % 16 + 1))) ∧ W = w' := fun W => by
      have := rhex_c (c.toNat % 16) (by omega) W
      rw [show ((c.toNat % 16 : Nat) : Int) = (c.toNat : Int) % 16 from by omega] at this
      exact this
    have Q1 := Lib.hid q1
    have Q2 := Lib.hid q2
    clear q1 q2
    rw [he]
    clear h1 h2 h3 n1 n2 n3 he
    by_cases h5 : c.toNat < 32
    · have d1 : decide ((c.toNat : Int) < 32) = true := decide_eq_true (by omega)
      clear h4 h5
      go_enter Tryd.func46, Tryd.ntmps46
      go_wp2_with fail
      refine (Q1.out _).mono ?_
      rintro e w' ⟨rfl, rfl⟩
      go_wp2_with fail
      refine (Q2.out _).mono ?_
      rintro e w' ⟨rfl, rfl⟩
      go_wp2_with fail
      go_ret
      exact ⟨rfl, Below.refl _ _⟩
    · have d1 : decide ((c.toNat : Int) < 32) = false := decide_eq_false (by omega)
      have d2 : decide ((126 : Int) < (c.toNat : Int)) = true := decide_eq_true (by omega)
      clear h4 h5
      go_enter Tryd.func46, Tryd.ntmps46
      go_wp2_with fail
      refine (Q1.out _).mono ?_
      rintro e w' ⟨rfl, rfl⟩
      go_wp2_with fail
      refine (Q2.out _).mono ?_
      rintro e w' ⟨rfl, rfl⟩
      go_wp2_with fail
      go_ret
      exact ⟨rfl, Below.refl _ _⟩
  · have he : escB c = ⟨#[c]⟩ := by rw [escB, if_neg h1, if_neg h2, if_neg h3, if_neg h4]
    have d1 : decide ((c.toNat : Int) < 32) = false := decide_eq_false (by omega)
    have d2 : decide ((126 : Int) < (c.toNat : Int)) = false := decide_eq_false (by omega)
    have hcv := conv1 w c
    rw [he]
    clear h1 h2 h3 n1 n2 n3 he h4
    go_enter Tryd.func46, Tryd.ntmps46
    go_wp2_with fail
    go_ret
    exact ⟨rfl, (Below.refl _ _).alloc (Nat.le_refl _) _⟩
end Go.Proofs.YtdjphpobhbelaaaDoor
