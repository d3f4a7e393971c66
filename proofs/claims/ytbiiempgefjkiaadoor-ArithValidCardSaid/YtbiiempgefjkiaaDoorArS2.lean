/- arith: what a valid expression's operator says of its level and its operands. -/
import Derived.Test.YtbiiempgefjkiaaDoorArS
import Derived.Test.YtbiiempgefjkiaaDoorArT
namespace Go.Proofs.YtbiiempgefjkiaaDoor.Ar
set_option linter.unusedVariables false

theorem bin_some {op : Int} (h : (binOf op).2 = true) : (binOf op).1 ∈ binL ∧ ((binOf op).1.op : Int) = op := by
  unfold binOf at *
  rcases hf : findOp binL op with _ | b
  · rw [hf] at h; simp at h
  · have h1 := List.mem_of_find?_eq_some hf
    have h2 := List.find?_some hf
    exact ⟨h1, by simpa using h2⟩
theorem bin_range {op : Int} (h : (binOf op).2 = true) : 7 ≤ op ∧ op ≤ 24 ∧ 3 ≤ (binOf op).1.lv ∧ (binOf op).1.lv ≤ 12 ∧ (binOf op).1.t.size ≤ 2 ∧ 1 ≤ (binOf op).1.t.size := by
  obtain ⟨h1, h2⟩ := bin_some h
  have hall : ∀ b ∈ binL, 7 ≤ b.op ∧ b.op ≤ 24 ∧ 3 ≤ b.lv ∧ b.lv ≤ 12 ∧ b.t.size ≤ 2 ∧ 1 ≤ b.t.size := by decide
  obtain ⟨a, b, c, d, e, f⟩ := hall _ h1
  exact ⟨by omega, by omega, c, d, e, f⟩
theorem bin_size (op : Int) : (binOf op).1.t.size ≤ 2 := by
  rcases h : (binOf op).2 with _ | _
  · unfold binOf at *
    rcases hf : findOp binL op with _ | b
    · decide
    · rw [hf] at h; simp at h
  · exact (bin_range h).2.2.2.2.1
/-- The operators: which level, how many operands. -/
inductive LvCase (op : Int) : Prop where
  | num : op = 1 → LvCase op
  | var : op = 2 → LvCase op
  | set : op = 26 → LvCase op
  | cond : op = 25 → LvCase op
  | bin : (binOf op).2 = true → lvOf op = (binOf op).1.lv → arity op = (2, true) → LvCase op
  | una : lvOf op = 13 → op ≠ 1 → op ≠ 2 → arity op = (1, true) → LvCase op
theorem lv_case {op : Int} (h : (arity op).2 = true) : LvCase op := by
  by_cases h1 : op = 1
  · exact .num h1
  by_cases h2 : op = 2
  · exact .var h2
  by_cases h3 : op = 26
  · exact .set h3
  by_cases h4 : op = 25
  · exact .cond h4
  have b1 : (op == 1) = false := by simpa using h1
  have b2 : (op == 2) = false := by simpa using h2
  have b3 : (op == 26) = false := by simpa using h3
  have b4 : (op == 25) = false := by simpa using h4
  rcases hb : (binOf op).2 with _ | _
  · unfold arity at h
    rw [b1, b2, b3, b4, hb] at h
    refine .una (by unfold lvOf; rw [b1, b2, b3, b4, hb]; rfl) h1 h2 ?_
    unfold arity
    rw [b1, b2, b3, b4, hb]
    rcases h5 : (op == 3) with _ | _ <;> rcases h6 : (op == 4) with _ | _ <;> rcases h7 : (op == 5) with _ | _ <;> rcases h8 : (op == 6) with _ | _ <;> simp_all
  · obtain ⟨r1, r2, _⟩ := bin_range hb
    have c3 : (op == 3) = false := by rw [beq_eq_false_iff_ne]; omega
    have c4 : (op == 4) = false := by rw [beq_eq_false_iff_ne]; omega
    have c5 : (op == 5) = false := by rw [beq_eq_false_iff_ne]; omega
    have c6 : (op == 6) = false := by rw [beq_eq_false_iff_ne]; omega
    refine .bin hb (by unfold lvOf; rw [b1, b2, b3, b4, hb]; rfl) ?_
    unfold arity
    rw [b1, b2, b3, b4, c3, c4, c5, c6, hb]; rfl
theorem val_ok {x : Ex} {lv : Nat} (h : valE x lv = 0) : lv ≠ 32 ∧ shaped x.op x.n x.name x.kids.length = true ∧ (x.name.size = 0 ∨ nameB x.name = true) ∧ valK x.kids (lv + 1) = 0 := by
  cases x with
  | mk op n s l =>
    rw [valE] at h
    simp only [Ex.op, Ex.n, Ex.name, Ex.kids]
    split at h
    · simp at h
    · split at h
      · split at h
        · simp at h
        · rename_i h1 h2 h3
          refine ⟨h1, h2, ?_, h⟩
          by_cases h4 : s.size = 0
          · exact .inl h4
          · right
            cases h5 : nameB s
            · exact absurd ⟨h4, h5⟩ h3
            · rfl
      · simp at h
theorem valK_mem : ∀ {l : List Ex} {lv : Nat}, valK l lv = 0 → ∀ y ∈ l, valE y lv = 0
  | x :: r, lv, h, y, hy => by
    rw [valK] at h
    split at h
    · rename_i h1
      rcases List.mem_cons.1 hy with rfl | hy
      · exact h1
      · exact valK_mem h y hy
    · rename_i h1; exact absurd h h1
theorem shaped_kids {op n : Int} {s : ByteArray} {k : Nat} (h : shaped op n s k = true) : (arity op).2 = true ∧ k = (arity op).1 ∧ ((!(s.size == 0)) = named op) ∧ shapedN op n = true := by
  unfold shaped at h
  simp only [Bool.and_eq_true, beq_iff_eq] at h
  exact ⟨h.1.1.1, h.1.1.2, h.1.2, h.2⟩
theorem name_size {s : ByteArray} (h : nameB s = true) : s.size ≤ 32 := by
  unfold nameB at h
  rw [Bool.and_eq_true, decide_eq_true_iff] at h
  exact h.1
theorem kid_at {l : List Ex} {i : Nat} (h : i < l.length) : kid (bareK l) i = (l[i].op, bare l[i]) := by
  have hb : ∀ (l : List Ex) (i : Nat) (h : i < l.length), (bareK l)[i]? = some (l[i].op, bare l[i]) := by
    intro l
    induction l with
    | nil => intro i h; simp at h
    | cons x r ih =>
      intro i h
      cases i with
      | zero => simp [bareK]
      | succ i => simpa [bareK] using ih i (by simpa using h)
  unfold kid
  rw [List.getD_eq_getElem?_getD, hb l i h]
  rfl
end Go.Proofs.YtbiiempgefjkiaaDoor.Ar
