/- LexerQuoted's walk. -/
import Derived.Test.YtlenmkcafoiefaaDoorLxP2
import Derived.Test.YtlenmkcafoiefaaDoorLxQ
namespace Go.Proofs.YtlenmkcafoiefaaDoor
open Go.RowKit
set_option linter.unusedVariables false

theorem quoL_len (s : ByteArray) : (quoL s).size ≤ 4 * s.size + 2 := by
  have hf : ∀ l : List UInt8, (l.flatMap quoB).length ≤ 4 * l.length := by
    intro l
    induction l with
    | nil => simp
    | cons c l ih =>
      rw [List.flatMap_cons, List.length_append, List.length_cons]
      have : (quoB c).length ≤ 4 := by unfold quoB; split <;> simp
      omega
  unfold quoL
  split
  · omega
  · rw [← lenS]
    have := hf s.data.toList
    rw [lenS] at this
    simp only [List.length_append, List.length_cons, List.length_nil]
    omega
set_option maxHeartbeats 16000000 in
set_option maxRecDepth 100000 in
theorem quoted_walk (s : ByteArray) (w : World) :
    Calls Tryd.prog 6 #[.string s] w fun e w' => e = .returned (.bool true) ∧ Below w.heap.size w w' := by
  have haw := Lib.hid (fun W => awake_c W)
  by_cases hl : 500 < s.size
  · have t1 : decide ((500 : Int) < (s.size : Int)) = true := decide_eq_true (by omega)
    have t1' : decide (500 < s.size) = true := decide_eq_true hl
    go_enter Tryd.func6, Tryd.ntmps6
    go_wp2_with fail
    refine (haw.out _).mono ?_
    rintro e w1 ⟨rfl, m1⟩
    go_wp2_with fail
    go_ret
    exact ⟨rfl, m1⟩
  have t1 : decide ((500 : Int) < (s.size : Int)) = false := decide_eq_false (by omega)
  have t1' : decide (500 < s.size) = false := decide_eq_false hl
  have h1 := Lib.hid (fun W => rquote_c s W (by omega))
  have hql := quoL_len s
  have hqs : (quoL s).size ≤ 2002 := by omega
  have hS : ((⟨#[32, 32]⟩ : ByteArray) ++ quoL s ++ ⟨#[32, 120]⟩).data.toList = 32 :: 32 :: ((quoL s).data.toList ++ [32, 120]) := by simp
  have hsz : ((⟨#[32, 32]⟩ : ByteArray) ++ quoL s ++ ⟨#[32, 120]⟩).size ≤ 16384 := by
    rw [← lenS, hS]
    simp only [List.length_append, List.length_cons, List.length_nil, lenS]
    omega
  have hn := quoted_next hS hsz
  have h2 : Hid (∀ W, Calls Tryd.prog 10 #[.string ((⟨#[32, 32]⟩ : ByteArray) ++ quoL s ++ ⟨#[32, 120]⟩), .int .i64 0] W fun e w' => e = .returned (.tuple #[.agg #[.int .i64 1, .int .i64 2, .int .i64 ((2 + (quoL s).size : Nat) : Int), .string (quoL s)], .int .i64 0]) ∧ Below W.heap.size W w') := Lib.hid (fun W => by
    have := Next_c ((⟨#[32, 32]⟩ : ByteArray) ++ quoL s ++ ⟨#[32, 120]⟩) 0 W (by omega) (by decide)
    rw [hn] at this
    exact this)
  clear hn hsz hS hl hql
  generalize quoL s = q at *
  have e3 : (((2 + q.size : Nat) : Int) == 2 + (q.size : Int)) = true := by rw [beq_iff_eq]; omega
  have e3' : ((2 + q.size : Nat) == 2 + q.size) = true := by rw [beq_iff_eq]
  have e4 : (q.toList == q.toList) = true := by rw [beq_iff_eq]
  go_enter Tryd.func6, Tryd.ntmps6
  go_wp2_with fail
  refine (h1.out _).mono ?_
  rintro r w0 ⟨rfl, rfl⟩
  go_wp2_with fail
  refine (h2.out _).mono ?_
  rintro r w1 ⟨rfl, m1⟩
  have m3 := m1.alloc m1.size (.cells #[.int .i64 1, .int .i64 2, .int .i64 ((2 + q.size : Nat) : Int), .string q] 30)
  have hh2 : (w1.alloc (.cells #[.int .i64 1, .int .i64 2, .int .i64 ((2 + q.size : Nat) : Int), .string q] 30)).heap[w1.heap.size]? = some (.cells #[.int .i64 1, .int .i64 2, .int .i64 ((2 + q.size : Nat) : Int), .string q] 30 (0, 0)) := heap_alloc_new w1 _
  have x0 : (w1.alloc (.cells #[.int .i64 1, .int .i64 2, .int .i64 ((2 + q.size : Nat) : Int), .string q] 30)).cell? ⟨w1.heap.size, 0, none⟩ = some (.int .i64 1) := by rw [cell_of_row _ _ 0 _ _ _ hh2]; rfl
  have x1 : (w1.alloc (.cells #[.int .i64 1, .int .i64 2, .int .i64 ((2 + q.size : Nat) : Int), .string q] 30)).cell? ⟨w1.heap.size, 1, none⟩ = some (.int .i64 2) := by rw [cell_of_row _ _ 1 _ _ _ hh2]; rfl
  have x2 : (w1.alloc (.cells #[.int .i64 1, .int .i64 2, .int .i64 ((2 + q.size : Nat) : Int), .string q] 30)).cell? ⟨w1.heap.size, 2, none⟩ = some (.int .i64 ((2 + q.size : Nat) : Int)) := by rw [cell_of_row _ _ 2 _ _ _ hh2]; rfl
  have x3 : (w1.alloc (.cells #[.int .i64 1, .int .i64 2, .int .i64 ((2 + q.size : Nat) : Int), .string q] 30)).cell? ⟨w1.heap.size, 3, none⟩ = some (.string q) := by rw [cell_of_row _ _ 3 _ _ _ hh2]; rfl
  have M3 := Lib.hid m3
  clear hh2 m1 m3
  go_wp2_with fail
  refine (haw.out _).mono ?_
  rintro r w3 ⟨rfl, n3⟩
  have m4 := M3.out.trans (n3.mono M3.out.size)
  clear n3 x0 x1 x2 x3
  go_wp2_with fail
  go_ret
  exact ⟨rfl, m4⟩
end Go.Proofs.YtlenmkcafoiefaaDoor
