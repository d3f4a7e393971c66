/- pattern: what a match is, and that Prefix finds it. -/
import Derived.Test.YteppndkhmbhnkaaDoorPJr
namespace Go.Proofs.YteppndkhmbhnkaaDoor
open Go.RowKit
set_option linter.unusedVariables false

/-- Items match the bytes of s from p on, up to n. -/
def Mp (s : List UInt8) : List It → Nat → Nat → Prop
  | [], p, n => p = n ∧ n ≤ s.length
  | x :: r, p, n => if x.k = 3 then ∃ q, p ≤ q ∧ Mp s r q n else ∃ c, s[p]? = some c ∧ acc x c.toNat = true ∧ Mp s r (p + 1) n
theorem mp_nil (s : List UInt8) (p n : Nat) : Mp s [] p n ↔ p = n ∧ n ≤ s.length := Iff.rfl
theorem mp_star {s : List UInt8} {x : It} {r : List It} {p n : Nat} (h : x.k = 3) : Mp s (x :: r) p n ↔ ∃ q, p ≤ q ∧ Mp s r q n := by
  rw [Mp, if_pos h]
theorem mp_one {s : List UInt8} {x : It} {r : List It} {p n : Nat} (h : x.k ≠ 3) : Mp s (x :: r) p n ↔ ∃ c, s[p]? = some c ∧ acc x c.toNat = true ∧ Mp s r (p + 1) n := by
  rw [Mp, if_neg h]
theorem mp_le {s : List UInt8} : ∀ {is : List It} {p n : Nat}, Mp s is p n → p ≤ n ∧ n ≤ s.length
  | [], p, n, h => ⟨Nat.le_of_eq h.1, h.2⟩
  | x :: r, p, n, h => by
    by_cases hk : x.k = 3
    · obtain ⟨q, h1, h2⟩ := (mp_star hk).1 h
      have := mp_le h2
      omega
    · obtain ⟨c, h1, h2, h3⟩ := (mp_one hk).1 h
      have := mp_le h3
      omega
theorem mp_append {s : List UInt8} (b : List It) : ∀ (a : List It) (p n : Nat), Mp s (a ++ b) p n ↔ ∃ q, Mp s a p q ∧ Mp s b q n
  | [], p, n => by
    constructor
    · intro h
      have := mp_le h
      exact ⟨p, ⟨rfl, by omega⟩, h⟩
    · rintro ⟨q, ⟨rfl, _⟩, h⟩
      exact h
  | x :: r, p, n => by
    rw [List.cons_append]
    by_cases hk : x.k = 3
    · rw [mp_star hk]
      constructor
      · rintro ⟨q, h1, h2⟩
        obtain ⟨t, h3, h4⟩ := (mp_append b r q n).1 h2
        exact ⟨t, (mp_star hk).2 ⟨q, h1, h3⟩, h4⟩
      · rintro ⟨t, h3, h4⟩
        obtain ⟨q, h1, h2⟩ := (mp_star hk).1 h3
        exact ⟨q, h1, (mp_append b r q n).2 ⟨t, h2, h4⟩⟩
    · rw [mp_one hk]
      constructor
      · rintro ⟨c, h1, h2, h3⟩
        obtain ⟨t, h4, h5⟩ := (mp_append b r (p + 1) n).1 h3
        exact ⟨t, (mp_one hk).2 ⟨c, h1, h2, h4⟩, h5⟩
      · rintro ⟨t, h4, h5⟩
        obtain ⟨c, h1, h2, h3⟩ := (mp_one hk).1 h4
        exact ⟨c, h1, h2, (mp_append b r (p + 1) n).2 ⟨t, h3, h5⟩⟩
/-- Items without a star have one length. -/
theorem mp_plain {s : List UInt8} : ∀ (is : List It) (p n : Nat), (∀ x ∈ is, x.k ≠ 3) → Mp s is p n → n = p + is.length
  | [], p, n, _, h => by rw [← h.1]; rfl
  | x :: r, p, n, hx, h => by
    obtain ⟨c, _, _, h3⟩ := (mp_one (hx x List.mem_cons_self)).1 h
    have := mp_plain r (p + 1) n (fun y hy => hx y (List.mem_cons_of_mem _ hy)) h3
    rw [List.length_cons]
    omega

/-- What the search knows: r0 and t0 are where the items behind the last star begin, and the bytes for them. -/
def bas (q : PSt) : Nat := q.res.toNat
def frm (q : PSt) : Nat := if q.res < 0 then 0 else q.tak
structure Know (is : List It) (s : List UInt8) (lg : Bool) (q : PSt) : Prop where
  bnd : InvP is.length s.length q
  res1 : -1 ≤ q.res
  bn : bas q ≤ q.nxt
  po : q.pos = frm q + (q.nxt - bas q)
  pln : ∀ i x, bas q ≤ i → i < q.nxt → is[i]? = some x → x.k ≠ 3
  eqv : ∀ n, Mp s (is.drop (bas q)) (frm q) n ↔ Mp s (is.drop q.nxt) q.pos n
  snd : ∀ t n, frm q ≤ t → (q.res < 0 → t = 0) → Mp s (is.drop (bas q)) t n → Mp s is 0 n
  cpl : ∀ n, Mp s is 0 n → (q.fnd = true ∧ n ≤ q.siz) ∨ ∃ t, frm q ≤ t ∧ (q.res < 0 → t = 0) ∧ Mp s (is.drop (bas q)) t n
  fn : q.fnd = true → Mp s is 0 q.siz ∧ lg = true ∧ (∀ x ∈ is.drop (bas q), x.k ≠ 3) ∧ q.siz < frm q + (is.drop (bas q)).length
  fz : q.fnd = false → q.siz = 0
/-- What comes out. -/
def Good (is : List It) (s : List UInt8) (lg : Bool) (R : Nat × Bool) : Prop :=
  (R.2 = true → Mp s is 0 R.1 ∧ ∀ n, Mp s is 0 n → if lg = true then n ≤ R.1 else R.1 ≤ n) ∧ (R.2 = false → R.1 = 0 ∧ ∀ n, ¬ Mp s is 0 n)
theorem know_init (is : List It) (s : List UInt8) (lg : Bool) : Know is s lg ⟨0, 0, -1, 0, 0, false⟩ := by
  refine ⟨⟨by simp only; omega, Nat.zero_le _, Nat.zero_le _, Nat.zero_le _⟩, by simp, by simp [bas], by simp [frm, bas], ?_, ?_, ?_, ?_, ?_, ?_⟩
  · intro i x h1 h2; simp at h2
  · intro n; simp [bas, frm]
  · intro t n h1 h2 h3
    have := h2 (by simp)
    subst this
    simpa [bas] using h3
  · intro n h
    exact .inr ⟨0, by simp [frm], fun _ => rfl, by simpa [bas] using h⟩
  · intro h; simp at h
  · intro _; rfl
/-- Stuck: nothing more comes of the present place but what is already known. -/
theorem know_stuck {is : List It} {s : List UInt8} {lg : Bool} {q : PSt} (hb : InvP is.length s.length q) (hr1 : -1 ≤ q.res) (hbl : bas q ≤ is.length)
    (snd : ∀ t n, frm q ≤ t → (q.res < 0 → t = 0) → Mp s (is.drop (bas q)) t n → Mp s is 0 n)
    (cpl : ∀ n, Mp s is 0 n → (q.fnd = true ∧ n ≤ q.siz) ∨ ∃ t, frm q < t ∧ (q.res < 0 → t = 0) ∧ Mp s (is.drop (bas q)) t n)
    (fn : q.fnd = true → Mp s is 0 q.siz ∧ lg = true ∧ (∀ x ∈ is.drop (bas q), x.k ≠ 3) ∧ q.siz ≤ frm q + (is.drop (bas q)).length)
    (fz : q.fnd = false → q.siz = 0) :
    (∀ q', stuckP s.length q = (q', true) → Good is s lg (q'.siz, q'.fnd)) ∧ (∀ q', stuckP s.length q = (q', false) → Know is s lg q') := by
  unfold stuckP
  by_cases hc : q.res < 0 ∨ q.tak = s.length
  · rw [if_pos hc]
    refine ⟨fun q' e => ?_, fun q' e => by simp at e⟩
    simp only [Prod.mk.injEq, and_true] at e
    subst e
    have hall : ∀ n, Mp s is 0 n → q.fnd = true ∧ n ≤ q.siz := by
      intro n hn
      rcases cpl n hn with h | ⟨t, h1, h2, h3⟩
      · exact h
      · exfalso
        have h4 := mp_le h3
        rcases hc with hc | hc
        · have := h2 hc; omega
        · unfold frm at h1
          split at h1
          · rename_i hc2
            have := h2 hc2; omega
          · omega
    constructor
    · intro hf
      simp only at hf
      obtain ⟨g1, g2, _⟩ := fn hf
      refine ⟨g1, fun n hn => ?_⟩
      rw [if_pos g2]
      exact (hall n hn).2
    · intro hf
      simp only at hf
      refine ⟨fz hf, fun n hn => ?_⟩
      have := (hall n hn).1
      rw [hf] at this
      simp at this
  · rw [if_neg hc]
    refine ⟨fun q' e => by simp at e, fun q' e => ?_⟩
    simp only [Prod.mk.injEq, and_true] at e
    subst e
    obtain ⟨b1, b2, b3, b4⟩ := hb
    have hr : 0 ≤ q.res := by omega
    have hfq : frm q = q.tak := by unfold frm; rw [if_neg (by omega)]
    have hbq : (bas q : Int) = q.res := by unfold bas; omega
    have hf : frm ⟨q.tak + 1, q.res.toNat, q.res, q.tak + 1, q.siz, q.fnd⟩ = q.tak + 1 := by unfold frm; rw [if_neg (by simp only; omega)]
    have hbs : bas ⟨q.tak + 1, q.res.toNat, q.res, q.tak + 1, q.siz, q.fnd⟩ = bas q := rfl
    have hlt : q.tak < s.length := by omega
    refine ⟨⟨by simp only; omega, by simp only; omega, by simp only; omega, by simp only; omega⟩, hr1, by rw [hbs]; exact Nat.le_refl _, ?_, ?_, ?_, ?_, ?_, ?_, fz⟩
    · rw [hf, hbs]; show q.tak + 1 = _; simp [bas]
    · intro i x h1 h2; rw [hbs] at h1; unfold bas at h1; simp only at h2; omega
    · intro n; rw [hf, hbs]; exact Iff.rfl
    · intro t n h1 h2 h3
      rw [hf] at h1
      exact snd t n (by omega) (fun h => by omega) h3
    · intro n hn
      rcases cpl n hn with h | ⟨t, h1, h2, h3⟩
      · exact .inl h
      · exact .inr ⟨t, by rw [hf]; omega, h2, h3⟩
    · intro h
      obtain ⟨g1, g2, g3, g4⟩ := fn h
      refine ⟨g1, g2, g3, ?_⟩
      rw [hf, hbs]
      rw [hfq] at g4
      show q.siz < _
      omega
theorem drop_cons {α : Type} {l : List α} {n : Nat} {x : α} {r : List α} (h : l.drop n = x :: r) : l[n]? = some x ∧ l.drop (n + 1) = r ∧ n < l.length := by
  have hn : n < l.length := by
    have := congrArg List.length h
    rw [List.length_drop, List.length_cons] at this
    omega
  rw [List.drop_eq_getElem_cons hn] at h
  injection h with h1 h2
  exact ⟨by rw [List.getElem?_eq_getElem hn, h1], h2, hn⟩
/-- A step. -/
theorem know_step {is : List It} {s : List UInt8} {lg : Bool} {q : PSt} (h : Know is s lg q) :
    (∀ q', stepP is s lg q = (q', true) → Good is s lg (q'.siz, q'.fnd)) ∧ (∀ q', stepP is s lg q = (q', false) → Know is s lg q') := by
  obtain ⟨b1, b2, b3, b4⟩ := h.bnd
  have hbl : bas q ≤ is.length := Nat.le_trans h.bn b2
  -- mismatch here: what is behind the last star matches nothing from frm q on
  have stuck : (∀ n, ¬ Mp s (is.drop q.nxt) q.pos n) → (∀ q', stuckP s.length q = (q', true) → Good is s lg (q'.siz, q'.fnd)) ∧ (∀ q', stuckP s.length q = (q', false) → Know is s lg q') := by
    intro hno
    refine know_stuck h.bnd h.res1 hbl h.snd ?_ (fun hf => ?_) h.fz
    · intro n hn
      rcases h.cpl n hn with g | ⟨t, g1, g2, g3⟩
      · exact .inl g
      · refine .inr ⟨t, ?_, g2, g3⟩
        rcases Nat.lt_or_ge (frm q) t with g | g
        · exact g
        · exfalso
          have e : t = frm q := by omega
          subst e
          exact hno n ((h.eqv n).1 g3)
    · obtain ⟨g1, g2, g3, g4⟩ := h.fn hf
      exact ⟨g1, g2, g3, by omega⟩
  unfold stepP
  split
  · rename_i x r hd
    obtain ⟨hx, hdr, hlt⟩ := drop_cons hd
    by_cases hk : x.k = 3
    · rw [if_pos hk]
      refine ⟨fun q' e => by simp at e, fun q' e => ?_⟩
      simp only [Prod.mk.injEq, and_true] at e
      subst e
      have hf : frm ⟨q.pos, q.nxt + 1, ((q.nxt + 1 : Nat) : Int), q.pos, q.siz, q.fnd⟩ = q.pos := by unfold frm; rw [if_neg (by simp only; omega)]
      have hbs : bas ⟨q.pos, q.nxt + 1, ((q.nxt + 1 : Nat) : Int), q.pos, q.siz, q.fnd⟩ = q.nxt + 1 := by unfold bas; simp only; omega
      have hnf : q.fnd = false := by
        rcases hq : q.fnd with _ | _
        · rfl
        · exfalso
          obtain ⟨_, _, g3, _⟩ := h.fn hq
          refine g3 x ?_ hk
          rw [List.mem_iff_getElem?]
          refine ⟨q.nxt - bas q, ?_⟩
          rw [List.getElem?_drop, show bas q + (q.nxt - bas q) = q.nxt from by have := h.bn; omega]
          exact hx
      have hsplit : is.drop (bas q) = (is.drop (bas q)).take (q.nxt - bas q) ++ x :: is.drop (q.nxt + 1) := by
        conv => lhs; rw [← List.take_append_drop (q.nxt - bas q) (is.drop (bas q))]
        rw [List.drop_drop, show bas q + (q.nxt - bas q) = q.nxt from by have := h.bn; omega, hd, hdr]
      refine ⟨⟨by simp only; omega, by simp only; omega, b4, b4⟩, by simp only; omega, by rw [hbs]; exact Nat.le_refl _, ?_, ?_, ?_, ?_, ?_, ?_, fun _ => h.fz hnf⟩
      · rw [hf, hbs]; show q.pos = q.pos + (q.nxt + 1 - (q.nxt + 1)); omega
      · intro i y h1 h2; rw [hbs] at h1; simp only at h2; omega
      · intro n; rw [hf, hbs]
      · intro t n g1 g2 g3
        rw [hf] at g1
        rw [hbs] at g3
        refine h.snd (frm q) n (Nat.le_refl _) (fun hr => by unfold frm; rw [if_pos hr]) ?_
        rw [h.eqv n, hd]
        exact (mp_star hk).2 ⟨t, g1, by rw [← hdr]; exact g3⟩
      · intro n hn
        rcases h.cpl n hn with g | ⟨t, g1, g2, g3⟩
        · rw [hnf] at g; simp at g
        · refine .inr ?_
          rw [hf, hbs]
          rw [hsplit, mp_append] at g3
          obtain ⟨u, g4, g5⟩ := g3
          obtain ⟨v, g6, g7⟩ := (mp_star hk).1 g5
          have hu := mp_plain _ _ _ (fun y hy => by
            obtain ⟨i, hi⟩ := List.mem_iff_getElem?.1 hy
            have hil : i < q.nxt - bas q := by
              rcases Nat.lt_or_ge i (q.nxt - bas q) with hq | hq
              · exact hq
              · rw [List.getElem?_take, if_neg (by omega)] at hi; simp at hi
            rw [List.getElem?_take_of_lt hil, List.getElem?_drop] at hi
            exact h.pln (bas q + i) y (by omega) (by omega) hi) g4
          rw [List.length_take, List.length_drop] at hu
          refine ⟨v, ?_, fun hr => by simp only at hr; omega, g7⟩
          have := h.po
          have := h.bn
          omega
      · intro hf2; simp only at hf2; rw [hnf] at hf2; simp at hf2
    · rw [if_neg hk]
      split
      · rename_i c r2 hd2
        obtain ⟨hc, hdc, hlc⟩ := drop_cons hd2
        by_cases ha : acc x c.toNat = true
        · rw [if_pos ha]
          refine ⟨fun q' e => by simp at e, fun q' e => ?_⟩
          simp only [Prod.mk.injEq, and_true] at e
          subst e
          have hf : frm ⟨q.pos + 1, q.nxt + 1, q.res, q.tak, q.siz, q.fnd⟩ = frm q := rfl
          have hbs : bas ⟨q.pos + 1, q.nxt + 1, q.res, q.tak, q.siz, q.fnd⟩ = bas q := rfl
          refine ⟨⟨by simp only; omega, by simp only; omega, b3, by simp only; omega⟩, h.res1, ?_, ?_, ?_, ?_, h.snd, h.cpl, h.fn, h.fz⟩
          · rw [hbs]; have := h.bn; simp only; omega
          · rw [hbs, hf]; have := h.po; have := h.bn; simp only; omega
          · intro i y g1 g2 g3
            rw [hbs] at g1
            simp only at g2
            by_cases e : i = q.nxt
            · subst e; rw [hx] at g3; injection g3 with g3; subst g3; exact hk
            · exact h.pln i y g1 (by omega) g3
          · intro n
            rw [hbs, hf, h.eqv n, hd, mp_one hk]
            show _ ↔ Mp s (is.drop (q.nxt + 1)) (q.pos + 1) n
            rw [hdr]
            constructor
            · rintro ⟨c', g1, g2, g3⟩; exact g3
            · intro g; exact ⟨c, hc, ha, g⟩
        · rw [if_neg ha]
          refine stuck fun n hn => ?_
          rw [hd, mp_one hk] at hn
          obtain ⟨c', g1, g2, _⟩ := hn
          rw [hc] at g1
          injection g1 with g1
          subst g1
          exact ha g2
      · rename_i hd2
        refine stuck fun n hn => ?_
        rw [hd, mp_one hk] at hn
        obtain ⟨c', g1, _⟩ := hn
        have : s.length ≤ q.pos := by
          have := congrArg List.length hd2
          rw [List.length_drop] at this
          simp at this
          omega
        rw [List.getElem?_eq_none this] at g1
        simp at g1
  · rename_i hd
    have hne : q.nxt = is.length := by
      have := congrArg List.length hd
      rw [List.length_drop] at this
      simp at this
      omega
    have hhere : ∀ n, Mp s (is.drop (bas q)) (frm q) n ↔ q.pos = n := by
      intro n
      rw [h.eqv n, hd, mp_nil]
      constructor
      · exact fun g => g.1
      · intro g; subst g; exact ⟨rfl, b4⟩
    have hpl : ∀ y ∈ is.drop (bas q), y.k ≠ 3 := by
      intro y hy
      obtain ⟨i, hi⟩ := List.mem_iff_getElem?.1 hy
      rw [List.getElem?_drop] at hi
      have hil : bas q + i < is.length := by
        rcases Nat.lt_or_ge (bas q + i) is.length with g | g
        · exact g
        · rw [List.getElem?_eq_none g] at hi; simp at hi
      exact h.pln (bas q + i) y (by omega) (by omega) hi
    have hpo : q.pos = frm q + (is.drop (bas q)).length := by rw [List.length_drop, h.po, hne]
    have hin : Mp s is 0 q.pos := h.snd (frm q) q.pos (Nat.le_refl _) (fun hr => by unfold frm; rw [if_pos hr]) ((hhere _).2 rfl)
    have hge : ∀ n, Mp s is 0 n → (q.fnd = true ∧ n ≤ q.siz) ∨ ∃ t, frm q ≤ t ∧ (q.res < 0 → t = 0) ∧ Mp s (is.drop (bas q)) t n ∧ n = t + (is.drop (bas q)).length := by
      intro n hn
      rcases h.cpl n hn with g | ⟨t, g1, g2, g3⟩
      · exact .inl g
      · exact .inr ⟨t, g1, g2, g3, mp_plain _ _ _ hpl g3⟩
    rcases lg with _ | _
    · simp only [Bool.false_eq_true, if_false]
      refine ⟨fun q' e => ?_, fun q' e => by simp at e⟩
      simp only [Prod.mk.injEq, and_true] at e
      subst e
      refine ⟨fun _ => ⟨hin, fun n hn => ?_⟩, fun hf => by simp at hf⟩
      simp only [Bool.false_eq_true, if_false]
      rcases hge n hn with g | ⟨t, g1, g2, g3, g4⟩
      · have := (h.fn g.1).2.1; simp at this
      · omega
    · simp only [if_true]
      refine know_stuck (q := ⟨q.pos, q.nxt, q.res, q.tak, q.pos, true⟩) ⟨b1, b2, b3, b4⟩ h.res1 hbl h.snd ?_ ?_ (fun hf => by simp at hf)
      · intro n hn
        rcases hge n hn with g | ⟨t, g1, g2, g3, g4⟩
        · refine .inl ⟨rfl, ?_⟩
          have := (h.fn g.1).2.2.2
          simp only
          omega
        · rcases Nat.lt_or_ge (frm q) t with g | g
          · exact .inr ⟨t, g, g2, g3⟩
          · refine .inl ⟨rfl, ?_⟩
            simp only
            omega
      · intro _
        exact ⟨hin, rfl, hpl, by show q.pos ≤ _; exact Nat.le_of_eq hpo⟩
theorem know_run {is : List It} {s : List UInt8} {lg : Bool} : ∀ (F : Nat) (q : PSt), Know is s lg q → measP is.length s.length q.res q.tak q.nxt < F → Good is s lg (runP is s lg F q) := by
  intro F
  induction F with
  | zero => intro q _ h; omega
  | succ F ih =>
    intro q hk hm
    unfold runP
    obtain ⟨g1, g2⟩ := know_step hk
    rcases hs : stepP is s lg q with ⟨q', b⟩
    rcases b with _ | _
    · have hd := step_dec hk.bnd hs
      exact ih q' (g2 q' hs) (by omega)
    · exact g1 q' hs
theorem preL_good (is : List It) (s : List UInt8) (lg : Bool) (hv : is.any inv = false) : Good is s lg (preL is s lg) := by
  unfold preL
  rw [if_neg (by rw [hv]; simp)]
  exact know_run _ _ (know_init is s lg) (by simp)
theorem good_unique {is : List It} {s : List UInt8} {lg : Bool} {R R' : Nat × Bool} (h : Good is s lg R) (h' : Good is s lg R') : R = R' := by
  obtain ⟨n, b⟩ := R
  obtain ⟨n', b'⟩ := R'
  rcases b with _ | _ <;> rcases b' with _ | _
  · have h1 := (h.2 rfl).1; have h2 := (h'.2 rfl).1; simp only at h1 h2; rw [h1, h2]
  · exact absurd (h'.1 rfl).1 ((h.2 rfl).2 _)
  · exact absurd (h.1 rfl).1 ((h'.2 rfl).2 _)
  · obtain ⟨a1, a2⟩ := h.1 rfl
    obtain ⟨c1, c2⟩ := h'.1 rfl
    have e1 := a2 _ c1
    have e2 := c2 _ a1
    simp only at e1 e2
    have : n = n' := by
      rcases lg with _ | _
      · simp at e1 e2; omega
      · simp at e1 e2; omega
    rw [this]
theorem mtL_iff (is : List It) (s : List UInt8) (hv : is.any inv = false) : mtL is s = true ↔ Mp s is 0 s.length := by
  have h := preL_good is s true hv
  unfold mtL
  rw [Bool.and_eq_true, beq_iff_eq]
  constructor
  · rintro ⟨h1, h2⟩
    rw [← h2]
    exact (h.1 h1).1
  · intro hm
    have h1 : (preL is s true).2 = true := by
      rcases hb : (preL is s true).2 with _ | _
      · exact absurd hm ((h.2 hb).2 _)
      · rfl
    refine ⟨h1, ?_⟩
    have h2 := (h.1 h1).2 _ hm
    have h3 := (mp_le (h.1 h1).1).2
    rw [if_pos rfl] at h2
    omega
end Go.Proofs.YteppndkhmbhnkaaDoor
