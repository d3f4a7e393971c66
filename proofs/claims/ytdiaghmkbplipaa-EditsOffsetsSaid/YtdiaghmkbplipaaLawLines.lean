/- EditsLines: for every string the law's call returns true: the lines hold no newline, and joined by newlines they are the string. -/
import Derived.Test.YtdiaghmkbplipaaPost
import Derived.Test.YtdiaghmkbplipaaAwake
namespace Go.Proofs.Ytdiaghmkbplipaa.editsLines
open Go.ChangeShapes Go.WideShapes Go.ChangeAt Go.RowKit
open Go.ChangeMaps (open_string shut_string)
set_option linter.unusedVariables false

theorem spans_facts (L : List UInt8) : ∀ (l : List UInt8) (st p : Nat), L.drop p = l → p ≤ L.length → st ≤ p → (∀ j, st ≤ j → j < p → L[j]? ≠ some 10) →
    (∃ b r, spans l st p = (st, b) :: r) ∧ (∀ (k : Nat) (x y : Nat × Nat), (spans l st p)[k]? = some x → (spans l st p)[k + 1]? = some y → y.1 = x.2 + 1 ∧ L[x.2]? = some 10) ∧
    (∀ x, (spans l st p).getLast? = some x → x.2 = L.length) ∧ (∀ x ∈ spans l st p, ∀ j, x.1 ≤ j → j < x.2 → L[j]? ≠ some 10)
  | [], st, p, hl, hp, hst, hno => by
    have : p = L.length := by
      have := congrArg List.length hl
      simp at this
      omega
    subst this
    refine ⟨⟨_, _, rfl⟩, fun k x y h1 h2 => by simp [spans] at h2, fun x hx => by simp [spans] at hx; subst hx; rfl, fun x hx j h1 h2 => by simp [spans] at hx; subst hx; exact hno j h1 h2⟩
  | c :: r, st, p, hl, hp, hst, hno => by
    have hlt : p < L.length := by
      have := congrArg List.length hl
      simp at this
      omega
    have hc : L[p]? = some c := by rw [← List.head?_drop, hl]; rfl
    have hr : L.drop (p + 1) = r := by rw [← List.tail_drop, hl]; rfl
    rw [spans_cons]
    by_cases h10 : c = 10
    · subst h10
      rw [if_pos rfl]
      obtain ⟨⟨b, r', e⟩, f2, f3, f4⟩ := spans_facts L r (p + 1) (p + 1) hr (by omega) (by omega) (fun j h1 h2 => by omega)
      refine ⟨⟨_, _, rfl⟩, fun k x y h1 h2 => ?_, fun x hx => ?_, fun x hx j h1 h2 => ?_⟩
      · rcases k with _ | k
        · rw [List.getElem?_cons_zero] at h1
          rw [List.getElem?_cons_succ, e, List.getElem?_cons_zero] at h2
          injection h1 with h1; injection h2 with h2
          subst h1; subst h2
          exact ⟨rfl, hc⟩
        · exact f2 k x y (by simpa using h1) (by simpa using h2)
      · rw [e] at hx
        rw [List.getLast?_cons_cons, ← e] at hx
        exact f3 x hx
      · rcases List.mem_cons.1 hx with rfl | hx
        · exact hno j h1 h2
        · exact f4 x hx j h1 h2
    · rw [if_neg h10]
      exact spans_facts L r st (p + 1) hr (by omega) (by omega) (fun j h1 h2 => by
        by_cases e : j = p
        · subst e; rw [hc]; simpa using h10
        · exact hno j h1 (by omega))

/-- The text that the law has joined before line k. -/
def joined (s : ByteArray) (sp : List (Nat × Nat)) (k : Nat) : ByteArray := if k = 0 then ⟨#[]⟩ else s.extract 0 (sp.getD (k - 1) (0, 0)).2

theorem joined_zero (s : ByteArray) (sp : List (Nat × Nat)) : joined s sp 0 = ⟨#[]⟩ := rfl

theorem ext_join (s : ByteArray) (a b : Nat) (h : a ≤ b) (hb : b ≤ s.size) : s.extract 0 a ++ s.extract a b = s.extract 0 b := by
  apply bytes_inj
  simp [Nat.max_eq_right h]

theorem ext_nl (s : ByteArray) (a : Nat) (h : s.data.toList[a]? = some 10) : s.extract 0 a ++ (⟨#[10]⟩ : ByteArray) = s.extract 0 (a + 1) := by
  obtain ⟨h1, h2⟩ := List.getElem?_eq_some_iff.1 h
  apply bytes_inj
  simp
  rw [List.take_succ_eq_append_getElem h1, h2]

theorem own_cell {w : World} {base e g n cap k : Nat} {xs : List Value} {u : Value} (h : w.ownsRow base e 1 (.slice (some ⟨g, 0, none⟩) n cap) n xs) (hx : xs[k]? = some u) : w.cell? ⟨g, k, none⟩ = some u := by
  rw [← h.cells (g := g) rfl k u hx]
  unfold Addr.add
  split
  · rename_i hk; subst hk; rfl
  · simp

/-- The lines' bounds by their places. -/
structure Ix (s : ByteArray) (n : Nat) (A B : Nat → Nat) : Prop where
  pos : 0 < n
  small : n ≤ s.size + 1
  zero : A 0 = 0
  ord : ∀ k, k < n → A k ≤ B k ∧ B k ≤ s.size
  next : ∀ k, k + 1 < n → A (k + 1) = B k + 1 ∧ s.data.toList[B k]? = some 10
  last : B (n - 1) = s.size
  no10 : ∀ k, k < n → ∀ j, A k ≤ j → j < B k → s.data.toList[j]? ≠ some 10

theorem ix (s : ByteArray) : Ix s (spans s.data.toList 0 0).length (fun k => ((spans s.data.toList 0 0).getD k (0, 0)).1) (fun k => ((spans s.data.toList 0 0).getD k (0, 0)).2) := by
  obtain ⟨⟨b0, r0, e0⟩, f2, f3, f4⟩ := spans_facts s.data.toList s.data.toList 0 0 rfl (by omega) (by omega) (fun j h1 h2 => by omega)
  have hlen := spans_length' s.data.toList 0 0
  have hok := spans_ok s.data.toList 0 0 (by omega)
  have hlL : s.data.toList.length = s.size := by simp
  rw [hlL] at hlen hok f3
  generalize spans s.data.toList 0 0 = sp at *
  have hpos : 0 < sp.length := by rw [e0]; simp
  have hg : ∀ k (h : k < sp.length), sp.getD k (0, 0) = sp[k] := fun k h => by simp [List.getD, List.getElem?_eq_getElem h]
  refine ⟨hpos, hlen, by rw [e0]; rfl, fun k h => ?_, fun k h => ?_, ?_, fun k h j h1 h2 => ?_⟩
  · simp only [hg k h]
    have := hok _ (List.getElem_mem h)
    omega
  · simp only [hg k (by omega), hg (k + 1) h]
    exact f2 k _ _ (List.getElem?_eq_getElem (by omega)) (List.getElem?_eq_getElem h)
  · simp only [hg (sp.length - 1) (by omega)]
    exact f3 _ (by rw [List.getLast?_eq_getElem?, List.getElem?_eq_getElem (by omega)])
  · simp only [hg k h] at h1 h2
    exact f4 _ (List.getElem_mem h) j h1 h2

/-- The text that is joined before line k. -/
def jn (s : ByteArray) (B : Nat → Nat) (k : Nat) : ByteArray := if k = 0 then ⟨#[]⟩ else s.extract 0 (B (k - 1))
theorem jn_first {s : ByteArray} {n : Nat} {A B : Nat → Nat} (h : Ix s n A B) : (⟨#[]⟩ : ByteArray) ++ s.extract (A 0) (B 0) = jn s B 1 := by
  rw [h.zero]
  apply bytes_inj
  simp [jn]
theorem jn_next {s : ByteArray} {n k : Nat} {A B : Nat → Nat} (h : Ix s n A B) (hk : k + 1 < n) : jn s B (k + 1) ++ (⟨#[10]⟩ : ByteArray) ++ s.extract (A (k + 1)) (B (k + 1)) = jn s B (k + 2) := by
  obtain ⟨h1, h2⟩ := h.next k hk
  obtain ⟨h3, h4⟩ := h.ord (k + 1) hk
  simp only [jn, Nat.add_one_ne_zero, if_false, Nat.add_sub_cancel, show k + 2 - 1 = k + 1 from rfl]
  rw [ext_nl s _ h2, ← h1, ext_join s _ _ h3 h4]
theorem jn_last {s : ByteArray} {n : Nat} {A B : Nat → Nat} (h : Ix s n A B) : jn s B n = s := by
  have := h.pos
  unfold jn
  rw [if_neg (by omega), h.last]
  apply bytes_inj
  simp
theorem jn_size {s : ByteArray} {n k : Nat} {A B : Nat → Nat} (h : Ix s n A B) (hk : k ≤ n) : (jn s B k).size ≤ s.size := by
  unfold jn
  split
  · exact Nat.zero_le _
  · simp; omega
theorem line_byte {s : ByteArray} {n k j : Nat} {A B : Nat → Nat} (h : Ix s n A B) (hk : k < n) (hj : j < (s.extract (A k) (B k)).size) : ((((s.extract (A k) (B k))[j]).toNat : Int) == 10) = false := by
  obtain ⟨h3, h4⟩ := h.ord k hk
  have hz : (s.extract (A k) (B k)).size = B k - A k := by simp; omega
  have hx : (s.extract (A k) (B k)).data.toList[j]? = some ((s.extract (A k) (B k))[j]) := by
    rw [List.getElem?_eq_getElem (show j < (s.extract (A k) (B k)).data.toList.length from hj)]; rfl
  rw [Lib.extract_data, List.getElem?_take_of_lt (by omega), List.getElem?_drop] at hx
  have hne := h.no10 k hk (A k + j) (by omega) (by omega)
  rw [beq_eq_false_iff_ne]
  intro he
  apply hne
  rw [hx]
  congr 1
  exact UInt8.toNat_inj.1 (by simp; omega)

theorem lines_ix (s : ByteArray) (w : World) (hs : s.size ≤ 17000) :
    Calls Try.prog 13 #[.string s] w fun e w' => ∃ (n : Nat) (A B : Nat → Nat) (g cap : Nat), e = .returned (.slice (some ⟨g, 0, none⟩) n cap) ∧ Ix s n A B ∧ n ≤ cap ∧
      (∀ k, k < n → w'.cell? ⟨g, k, none⟩ = some (.string (s.extract (A k) (B k)))) ∧ Below w.heap.size w w' := by
  refine (lines_c s w hs).mono ?_
  rintro e w' ⟨v, rfl, hown, hb⟩
  have hl : (lineVals s (spans s.data.toList 0 0)).length = (spans s.data.toList 0 0).length := by simp [lineVals]
  rw [hl] at hown
  have hix := ix s
  rcases hown.2 with ⟨_, h0⟩ | ⟨g, cap, cur, rfl, _, _, hc, _⟩
  · have := hix.pos; omega
  · refine ⟨_, _, _, g, cap, rfl, hix, hc, fun k hk => ?_, hb⟩
    exact own_cell hown (by simp [lineVals, List.getD, List.getElem?_eq_getElem hk])

set_option maxHeartbeats 2000000 in
theorem walk (a0 : ByteArray) (w0 : a0.size ≤ maxLen) (w : World) :
    Calls Try.prog 5 #[.string a0] w fun e w' => e = .returned (.bool true) ∧ Below w.heap.size w w' := by
  unfold maxLen at w0
  by_cases h5 : 5000 < a0.size
  · go_enter Try.func5, Try.ntmps5
    go_wp2_with fail
    refine (awake_c w).mono ?_
    rintro e w' ⟨rfl, hb⟩
    go_wp2
    go_ret
    exact ⟨rfl, hb⟩
  · go_enter Try.func5, Try.ntmps5
    go_wp2_with fail
    refine (lines_ix a0 w (by omega)).mono ?_
    rintro e w1 ⟨n, A, B, g, cap, rfl, hix, hcap, hcell, hb1⟩
    have hn := hix.small
    have hp := hix.pos
    have Hcell := Lib.hid hcell
    clear hcell
    go_wp2_with fail
    go_loop [4, 5] (fun t i => ∃ k : Nat, k ≤ n ∧ i = .int .i64 k ∧ t = .string (jn a0 B k)) (fun _ i => n - (intOf i).toNat)
    case atStart => exact ⟨0, by omega, rfl, rfl⟩
    case round =>
      obtain ⟨k, hk, rfl, rfl⟩ := hrel
      have hjs := jn_size hix hk
      by_cases hlt : k < n
      · have hord := hix.ord k hlt
        have hc := Hcell.out k hlt
        have hno := Lib.hid (fun j hj => line_byte (j := j) hix hlt hj)
        have hsz : (a0.extract (A k) (B k)).size ≤ 5000 := by simp; omega
        have i1 : (k : Int) < (n : Int) := by omega
        by_cases h0 : k = 0
        · subst h0
          have hj := Lib.hid (jn_first hix)
          generalize hE : a0.extract (A 0) (B 0) = E at *
          have hE' := Lib.hid hE
          clear hE
          rw [show jn a0 B 0 = ⟨#[]⟩ from rfl]
          go_wp2_with fail
          go_loop [6] (fun jv => ∃ j : Nat, j ≤ E.size ∧ jv = .int .i64 j) (fun jv => E.size - (intOf jv).toNat)
          case atStart => exact ⟨0, by omega, rfl⟩
          case round =>
            obtain ⟨j, hj1, rfl⟩ := hrel
            by_cases hje : j < E.size
            · have t1 := hno.out j hje
              have i2 : (j : Int) < (E.size : Int) := by omega
              go_wp2_with fail
              go_round
              case rel => exact ⟨j + 1, by omega, by go_num⟩
              case measure => simp [intOf]; omega
            · go_wp2_with fail
              go_round
              case rel => exact ⟨1, by omega, by go_num, by rw [← hj.out]⟩
              case measure => simp [intOf]; omega
        · obtain ⟨k, rfl⟩ : ∃ x, k = x + 1 := ⟨k - 1, by omega⟩
          clear h0
          have hj := Lib.hid (jn_next hix hlt)
          generalize hE : a0.extract (A (k + 1)) (B (k + 1)) = E at *
          have hE' := Lib.hid hE
          clear hE
          have hsz2 : (jn a0 B (k + 1)).size ≤ 5000 := by omega
          generalize jn a0 B (k + 1) = T at *
          go_wp2_with fail
          go_loop [6] (fun jv => ∃ j : Nat, j ≤ E.size ∧ jv = .int .i64 j) (fun jv => E.size - (intOf jv).toNat)
          case atStart => exact ⟨0, by omega, rfl⟩
          case round =>
            obtain ⟨j, hj1, rfl⟩ := hrel
            by_cases hje : j < E.size
            · have t1 := hno.out j hje
              have i2 : (j : Int) < (E.size : Int) := by omega
              go_wp2_with fail
              go_round
              case rel => exact ⟨j + 1, by omega, by go_num⟩
              case measure => simp [intOf]; omega
            · go_wp2_with fail
              go_round
              case rel => exact ⟨k + 2, by omega, by go_num, by rw [← hj.out]⟩
              case measure => simp [intOf]; omega
      · have hkn : k = n := by omega
        subst hkn
        rw [jn_last hix]
        go_wp2_with fail
        refine (awake_c w1).mono ?_
        rintro e w' ⟨rfl, hb⟩
        go_wp2
        go_ret
        exact ⟨rfl, hb1.trans (hb.mono hb1.size)⟩

set_option maxRecDepth 100000 in
theorem lifted (os : Os) (started : os.Started) (H : Type) (enc : TypeId × Value → H) :
    ReturnsInHanded {} Try.checked os 5 .any (Rows.editsLinesSpec.pre6 enc Try.prog Try.f5 Rows.editsLinesRow.domain false) (Rows.editsLinesSpec.post enc Try.prog Try.f5 false true false false) := by
  refine returnsInHanded_of_change (C := Try.checked) own started (by kernel_rfl) Try.func5
    (ChangeSpec.witness6 (enc := enc) (C := Try.checked) false ⟨#[], #[.string ByteArray.empty], []⟩ 8 (by kernel_rfl) (by kernel_rfl) (by kernel_rfl) (by kernel_rfl)) ?_
  intro W base args ds gs before hval0 hW hcnd _
  have hval : ∀ (j : Nat) t v, Try.f5.params[j]? = some t → args[j]? = some v → Value.okWide Try.prog W .any base t v := hval0
  have hW' := hW
  obtain ⟨p, q, hA0, hV, rfl, hfz, hnd⟩ := hW
  have hA : DataW.TrodAll enc Try.prog W 0 (fun _ => true) true Try.f5.params.toList args.toList ds p := hA0
  rw [Try.params5] at hA hval
  obtain ⟨v0, vs0, d0, ds0, p0, q0, hargs, rfl, rfl, h0, r0⟩ := trodAll_cons hA
  obtain ⟨rfl, rfl, rfl⟩ := trodAll_nil r0
  obtain rfl : args = #[v0] := by cases args; simp_all
  obtain ⟨rfl, rfl⟩ := trodVars_none hV
  obtain ⟨a0, rfl, rfl, rfl, w0⟩ := open_string Try.underlying9 (hval 0 9 v0 rfl rfl) h0
  clear hA0 hval0
  simp only [List.append_nil] at hW'
  refine (walk a0 w0 W).mono fun e W' ⟨he, hg⟩ => ?_
  subst he
  exact ⟨_, rfl, post_below (pa := []) (pv := []) hW' (fun _ _ _ => (trodAll_cons_mk (shut_bool Try.underlying4 _) trodAll_mk0)) (fun sp _ => (trodAll_cons_mk (shut_string Try.underlying9 w0) trodAll_mk0)) (fun _ _ => rfl) rfl
    hg (ok_one (by kernel_rfl) rfl (okWide_bool_mk Try.underlying4 _))⟩

theorem over : Rows.editsLinesRow.holds Try.pinned (OpenSpec.ofChange Rows.editsLinesSpec) :=
  OpenClaim.holds_of_wide 5 Try.f5 rfl rfl rfl rfl rfl rfl rfl ⟨rfl, rfl, rfl, rfl, rfl⟩ rfl rfl rfl rfl rfl (by kernel_rfl) Try.func5 (by kernel_rfl)
    (of_decide_eq_true (by kernel_rfl)) (by unfold Func.isWrapper; first | (rw [if_pos (by decide +kernel)]; kernel_rfl) | (rw [if_neg (by decide +kernel)]; exact ⟨rfl, rfl⟩))
    (fun os started H enc _ => lifted os started H enc)

theorem proved : Rows.EditsLinesSaid :=
  over
#print axioms proved
end Go.Proofs.Ytdiaghmkbplipaa.editsLines
