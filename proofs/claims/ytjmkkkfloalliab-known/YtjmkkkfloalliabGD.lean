import Derived.Test.YtjmkkkfloalliabGC
-- a reader of what is left of a pattern: leaves
namespace Go.Proofs.Ytjmkkkfloalliab.Q
set_option linter.unusedVariables false

def dnext : List UInt8 → Int
  | [] => -1
  | c :: _ => (c.toNat : Int)
def dany (r : List UInt8) : Option (Nat × List UInt8) := if dnext r = -1 then none else some ((dnext r).toNat, r.tail)
def dnum (r : List UInt8) : Option (Nat × List UInt8) :=
  if isDigit (dnext r) = false then none
  else if isDigit (dnext r.tail) = true then some (10 * ((dnext r).toNat - 48) + ((dnext r.tail).toNat - 48), r.tail.tail)
  else some ((dnext r).toNat - 48, r.tail)
/-- high, endless -/
def dbounds1 (n : Nat) (r : List UInt8) : Option (Nat × Bool × List UInt8) :=
  if dnext r = 44 then
    if isDigit (dnext r.tail) = true then
      match dnum r.tail with
      | none => none
      | some (m, r2) => some (m, false, r2)
    else some (n, true, r.tail)
  else some (n, false, r)
/-- low, high, endless, back -/
def dbounds (r : List UInt8) : Option (Nat × Nat × Bool × Bool × List UInt8) :=
  match dnum r with
  | none => none
  | some (n, r1) =>
    match dbounds1 n r1 with
    | none => none
    | some (h, e, r2) => if dnext r2 = 125 then some (n, h, e, decide (h < n), r2.tail) else none
def dmb (r : List UInt8) : Option (Nat × List UInt8) :=
  if dnext r = 92 then dany r.tail else if dnext r = 93 ∨ dnext r = 45 then none else dany r
def dmember (ins : List Bool) (r : List UInt8) : Option (List Bool × Bool × List UInt8) :=
  match dmb r with
  | none => none
  | some (a, r1) =>
    if dnext r1 = 45 then
      match dmb r1.tail with
      | none => none
      | some (b, r2) => some (setRange ins a b, decide (b < a), r2)
    else some (setRange ins a a, false, r1)
def dmembers : Nat → List Bool → Bool → List UInt8 → Option (List Bool × Bool × List UInt8)
  | 0, _, _, _ => none
  | f + 1, ins, b, r => if dnext r = 93 then some (ins, b, r.tail) else
    match dmember ins r with
    | none => none
    | some (i2, b2, r2) => dmembers f i2 (b || b2) r2
def dcls1 (r : List UInt8) : Option (List Bool × Bool × List UInt8) :=
  match dmember ins0 r with
  | none => none
  | some (i, b, r1) => dmembers (r1.length + 1) i b r1
def dcls (r : List UInt8) : Option (List Bool × Bool × List UInt8) :=
  if dnext r.tail = 94 then
    match dcls1 r.tail.tail with
    | none => none
    | some (i, b, r1) => some (turn i, b, r1)
  else dcls1 r.tail
def dleaf (r : List UInt8) : Option (List Bool × Bool × List UInt8) :=
  if stops (dnext r) = true then none
  else if dnext r = 91 then dcls r
  else if dnext r = 46 then some (turn ins0, false, r.tail)
  else if dnext r = 92 then
    match dany r.tail with
    | none => none
    | some (c, r2) => some (ins0.set c true, false, r2)
  else some (ins0.set (dnext r).toNat true, false, r.tail)
/-- low, high, endless, back -/
def drep (r : List UInt8) : Option (Nat × Nat × Bool × Bool × List UInt8) :=
  if dnext r = 42 then some (0, 0, true, false, r.tail)
  else if dnext r = 43 then some (1, 0, true, false, r.tail)
  else if dnext r = 63 then some (0, 1, false, false, r.tail)
  else dbounds r.tail

/-- σ stands ahead of r -/
structure Rs (s : List UInt8) (σ : Rd) (r : List UInt8) : Prop where
  wrong : σ.wrong = false
  le : σ.at_ ≤ s.length
  rest : s.drop σ.at_ = r
variable {s r : List UInt8} {σ : Rd}
theorem Rs.next (h : Rs s σ r) : next s σ = dnext r := by
  have h1 := h.wrong
  have h2 := h.le
  unfold Q.next
  rw [← h.rest]
  rcases Nat.lt_or_ge σ.at_ s.length with g | g
  · rw [if_neg (by rintro (e | e); · rw [h1] at e; cases e
                   · omega), List.drop_eq_getElem_cons g]
    simp [dnext, List.getD_eq_getElem?_getD, List.getElem?_eq_getElem g]
  · rw [if_pos (.inr g), List.drop_eq_nil_of_le g]
    rfl
theorem Rs.fwd (h : Rs s σ r) (g : dnext r ≠ -1) : Rs s (fwd σ) r.tail := by
  have h2 : σ.at_ < s.length := by
    rcases Nat.lt_or_ge σ.at_ s.length with k | k
    · exact k
    · have := h.rest
      rw [List.drop_eq_nil_of_le k] at this
      rw [← this] at g
      exact absurd rfl g
  exact ⟨h.wrong, h2, by show s.drop (σ.at_ + 1) = _; rw [← h.rest, List.tail_drop]⟩
theorem Rs.len (h : Rs s σ r) : left s σ = r.length := by
  unfold left
  rw [if_neg (by rw [h.wrong]; decide), ← h.rest, List.length_drop]
theorem next_wrong (h : σ.wrong = true) : next s σ = -1 := by unfold next; rw [if_pos (.inl h)]
theorem Rs.any (h : Rs s σ r) : (dany r = none → (anyByte s σ).2.wrong = true) ∧ ∀ n r2, dany r = some (n, r2) → ∃ k, anyByte s σ = (n, { σ with at_ := k }) ∧ Rs s { σ with at_ := k } r2 := by
  unfold dany anyByte
  rw [h.next]
  by_cases g : dnext r = -1
  · rw [if_pos g, if_pos g]
    exact ⟨fun _ => rfl, fun n r2 e => by cases e⟩
  · rw [if_neg g, if_neg g]
    refine ⟨fun e => (by cases e), fun n r2 e => ?_⟩
    cases e
    exact ⟨_, rfl, h.fwd g⟩
theorem digit_next {c : Int} (h : isDigit c = true) : c ≠ -1 := by
  have := isDigit_ne h
  omega
theorem Rs.num (h : Rs s σ r) : (dnum r = none → (number s σ).2.wrong = true) ∧ ∀ n r2, dnum r = some (n, r2) → ∃ k, number s σ = (n, { σ with at_ := k }) ∧ Rs s { σ with at_ := k } r2 := by
  unfold dnum number
  rw [h.next]
  by_cases g : isDigit (dnext r) = false
  · rw [if_pos g, if_pos g]
    exact ⟨fun _ => rfl, fun n r2 e => by cases e⟩
  · rw [if_neg g, if_neg g]
    have h2 := h.fwd (digit_next (by simpa using g))
    rw [h2.next]
    by_cases g2 : isDigit (dnext r.tail) = true
    · rw [if_pos g2, if_pos g2]
      refine ⟨fun e => (by cases e), fun n r2 e => ?_⟩
      cases e
      exact ⟨_, rfl, h2.fwd (digit_next g2)⟩
    · rw [if_neg g2, if_neg g2]
      refine ⟨fun e => (by cases e), fun n r2 e => ?_⟩
      cases e
      exact ⟨_, rfl, h2⟩
theorem number_wrong (h : σ.wrong = true) : (number s σ).2.wrong = true := (number_on σ).wrong h
theorem bounds1_of {n : Nat} {τ : Rd} (h : number s σ = (n, τ)) (hτ : Rs s τ r) : (dbounds1 n r = none → (bounds1 s σ).2.2.wrong = true) ∧ ∀ m e r2, dbounds1 n r = some (m, e, r2) → ∃ k, bounds1 s σ = (m, e, { τ with at_ := k }) ∧ Rs s { τ with at_ := k } r2 := by
  unfold dbounds1 bounds1
  rw [h]
  simp only
  rw [hτ.next]
  by_cases g : dnext r = 44
  · rw [if_pos g, if_pos g]
    have h2 := hτ.fwd (by rw [g]; decide)
    rw [h2.next]
    by_cases g2 : isDigit (dnext r.tail) = true
    · rw [if_pos g2, if_pos g2]
      cases e : dnum r.tail with
      | none =>
        exact ⟨fun _ => h2.num.1 e, fun m e r2 x => by cases x⟩
      | some x =>
        obtain ⟨m, r2⟩ := x
        obtain ⟨k, e1, e2⟩ := h2.num.2 m r2 e
        refine ⟨fun x => (by cases x), fun m' e' r2' x => ?_⟩
        cases x
        rw [e1]
        exact ⟨k, rfl, e2⟩
    · rw [if_neg g2, if_neg g2]
      refine ⟨fun x => (by cases x), fun m' e' r2' x => ?_⟩
      cases x
      exact ⟨_, rfl, h2⟩
  · rw [if_neg g, if_neg g]
    refine ⟨fun x => (by cases x), fun m' e' r2' x => ?_⟩
    cases x
    exact ⟨_, rfl, hτ⟩
theorem need_wrong {c : Int} (hc : c ≠ -1) (h : σ.wrong = true) : (need s c σ).wrong = true := (need_on c hc σ).wrong h
theorem Rs.back (h : Rs s σ r) (b : Bool) : Rs s { σ with back := b } r := ⟨h.wrong, h.le, h.rest⟩
theorem Rs.bounds (h : Rs s σ r) (p : Part) : (dbounds r = none → (bounds s p σ).2.wrong = true) ∧ ∀ lo hi e b r2, dbounds r = some (lo, hi, e, b, r2) → ∃ k, Q.bounds s p σ = ({ p with low := lo, high := hi, endless := p.endless || e }, { σ with at_ := k, back := σ.back || b }) ∧ Rs s { σ with at_ := k, back := σ.back || b } r2 := by
  unfold dbounds
  cases e1 : dnum r with
  | none =>
    refine ⟨fun _ => ?_, fun _ _ _ _ _ x => by cases x⟩
    have hw := h.num.1 e1
    unfold Q.bounds
    refine need_wrong (by decide) ?_
    show (bounds1 s σ).2.2.wrong = true
    unfold bounds1
    rw [next_wrong hw, if_neg (by decide)]
    exact hw
  | some x =>
    obtain ⟨n, r1⟩ := x
    obtain ⟨k1, q1, q2⟩ := h.num.2 n r1 e1
    have B := bounds1_of q1 q2
    cases e2 : dbounds1 n r1 with
    | none =>
      simp only
      rw [e2]
      refine ⟨fun _ => ?_, fun _ _ _ _ _ x => by cases x⟩
      exact need_wrong (by decide) (B.1 e2)
    | some x =>
      obtain ⟨m, e, r2⟩ := x
      obtain ⟨k2, q3, q4⟩ := B.2 m e r2 e2
      simp only
      rw [e2]
      simp only
      have q5 := q4.back (σ.back || decide (m < n))
      unfold Q.bounds
      rw [q3, q1]
      simp only
      unfold need
      rw [q5.next]
      by_cases g : dnext r2 = 125
      · rw [if_pos g, if_pos g]
        refine ⟨fun x => (by cases x), fun _ _ _ _ _ x => ?_⟩
        cases x
        exact ⟨_, rfl, q5.fwd (by rw [g]; decide)⟩
      · rw [if_neg g, if_neg g]
        exact ⟨fun _ => rfl, fun _ _ _ _ _ x => by cases x⟩
theorem Rs.mb (h : Rs s σ r) : (dmb r = none → (memberByte s σ).2.wrong = true) ∧ ∀ n r2, dmb r = some (n, r2) → ∃ k, memberByte s σ = (n, { σ with at_ := k }) ∧ Rs s { σ with at_ := k } r2 := by
  unfold dmb memberByte
  rw [h.next]
  by_cases g : dnext r = 92
  · rw [if_pos g, if_pos g]
    have h2 := h.fwd (by rw [g]; decide)
    exact h2.any
  · rw [if_neg g, if_neg g]
    by_cases g2 : dnext r = 93 ∨ dnext r = 45
    · rw [if_pos g2, if_pos g2]
      exact ⟨fun _ => (anyByte_on _).wrong rfl, fun _ _ x => by cases x⟩
    · rw [if_neg g2, if_neg g2]
      exact h.any
theorem Rs.member (h : Rs s σ r) (ins : List Bool) : (dmember ins r = none → (member s ins σ).2.wrong = true) ∧ ∀ i b r2, dmember ins r = some (i, b, r2) → ∃ k, Q.member s ins σ = (i, { σ with at_ := k, back := σ.back || b }) ∧ Rs s { σ with at_ := k, back := σ.back || b } r2 := by
  unfold dmember
  cases e1 : dmb r with
  | none =>
    refine ⟨fun _ => ?_, fun _ _ _ x => by cases x⟩
    have hw := h.mb.1 e1
    unfold Q.member member1
    rw [next_wrong hw, if_neg (by decide)]
    exact hw
  | some x =>
    obtain ⟨a, r1⟩ := x
    obtain ⟨k1, q1, q2⟩ := h.mb.2 a r1 e1
    simp only
    unfold Q.member member1
    rw [q1]
    simp only
    rw [q2.next]
    by_cases g : dnext r1 = 45
    · rw [if_pos g, if_pos g]
      have q3 := q2.fwd (by rw [g]; decide)
      cases e2 : dmb r1.tail with
      | none => exact ⟨fun _ => q3.mb.1 e2, fun _ _ _ x => by cases x⟩
      | some x =>
        obtain ⟨b, r2⟩ := x
        obtain ⟨k3, q4, q5⟩ := q3.mb.2 b r2 e2
        refine ⟨fun x => (by cases x), fun _ _ _ x => ?_⟩
        cases x
        rw [q4]
        exact ⟨k3, rfl, q5.back _⟩
    · rw [if_neg g, if_neg g]
      refine ⟨fun x => (by cases x), fun _ _ _ x => ?_⟩
      cases x
      refine ⟨k1, ?_, q2.back _⟩
      simp
theorem dmb_len {r r2 : List UInt8} {n : Nat} (h : dmb r = some (n, r2)) : r2.length < r.length := by
  unfold dmb dany at h
  cases r with
  | nil => simp [dnext] at h
  | cons c r =>
    split at h
    · split at h
      · cases h
      · cases h; simp; omega
    · split at h
      · cases h
      · split at h
        · cases h
        · cases h; simp
theorem dmember_len {r r2 : List UInt8} {ins i : List Bool} {b : Bool} (h : dmember ins r = some (i, b, r2)) : r2.length < r.length := by
  unfold dmember at h
  split at h
  · cases h
  · next a r1 e =>
    have := dmb_len e
    split at h
    · split at h
      · cases h
      · next b r3 e2 =>
        have := dmb_len e2
        cases h
        simp at this; omega
    · cases h; exact this
theorem Rs.members : ∀ (f : Nat) (ins : List Bool) (b : Bool) (r : List UInt8) (σ : Rd), Rs s σ r → r.length < f →
    (dmembers f ins b r = none → (members s f ins { σ with back := σ.back || b }).2.wrong = true) ∧ ∀ i b2 r2, dmembers f ins b r = some (i, b2, r2) → ∃ k, Q.members s f ins { σ with back := σ.back || b } = (i, { σ with at_ := k, back := σ.back || b2 }) ∧ Rs s { σ with at_ := k, back := σ.back || b2 } r2
  | 0, _, _, _, _, _, hl => by omega
  | f + 1, ins, b, r, σ, h, hl => by
    have h0 := h.back (σ.back || b)
    unfold dmembers Q.members
    rw [if_neg (show ¬ ({ σ with back := σ.back || b } : Rd).wrong = true by rw [h0.wrong]; decide), h0.next]
    by_cases g : dnext r = 93
    · rw [if_pos g, if_pos g]
      refine ⟨fun x => (by cases x), fun _ _ _ x => ?_⟩
      cases x
      exact ⟨_, rfl, h0.fwd (by rw [g]; decide)⟩
    · rw [if_neg g, if_neg g]
      have M := h0.member ins
      cases e : dmember ins r with
      | none => exact ⟨fun _ => (members_on f _ _).wrong (M.1 e), fun _ _ _ x => by cases x⟩
      | some x =>
        obtain ⟨i2, b2, r2⟩ := x
        obtain ⟨k, q1, q2⟩ := M.2 i2 b2 r2 e
        simp only at q1 q2
        rw [q1]
        simp only
        have hl2 := dmember_len e
        have q3 : Rs s { σ with at_ := k } r2 := ⟨q2.wrong, q2.le, q2.rest⟩
        have I := Rs.members f i2 (b || b2) r2 _ q3 (by omega)
        simp only [Bool.or_assoc] at I ⊢
        exact I
theorem Rs.cls1 (h : Rs s σ r) (F : Nat) (hF : r.length < F) : (dcls1 r = none → (Q.members s F (Q.member s ins0 σ).1 (Q.member s ins0 σ).2).2.wrong = true) ∧ ∀ i b r2, dcls1 r = some (i, b, r2) → ∃ k, Q.members s F (Q.member s ins0 σ).1 (Q.member s ins0 σ).2 = (i, { σ with at_ := k, back := σ.back || b }) ∧ Rs s { σ with at_ := k, back := σ.back || b } r2 := by
  unfold dcls1
  have M := h.member ins0
  cases e : dmember ins0 r with
  | none => exact ⟨fun _ => (members_on _ _ _).wrong (M.1 e), fun _ _ _ x => by cases x⟩
  | some x =>
    obtain ⟨i, b, r1⟩ := x
    obtain ⟨k, q1, q2⟩ := M.2 i b r1 e
    simp only
    rw [q1]
    simp only
    have hl := dmember_len e
    have q3 : Rs s { σ with at_ := k } r1 := ⟨q2.wrong, q2.le, q2.rest⟩
    have I := Rs.members (r1.length + 1) i b r1 _ q3 (by omega)
    rw [members_more F (r1.length + 1) i _ (.inr (by rw [q2.len]; omega)) (.inr (by rw [q2.len]; omega)) (by omega) (by omega)]
    exact I
theorem Rs.cls (h : Rs s σ r) (hn : dnext r ≠ -1) : (dcls r = none → (cls s ins0 σ).2.wrong = true) ∧ ∀ i b r2, dcls r = some (i, b, r2) → ∃ k, Q.cls s ins0 σ = (i, { σ with at_ := k, back := σ.back || b }) ∧ Rs s { σ with at_ := k, back := σ.back || b } r2 := by
  have h1 := h.fwd hn
  have hl : r.length ≤ s.length := by rw [← h.rest]; simp
  unfold dcls Q.cls
  rw [h1.next]
  by_cases g : dnext r.tail = 94
  · rw [if_pos g, if_pos g]
    have h2 := h1.fwd (by rw [g]; decide)
    have C := h2.cls1 (s.length + 1) (by simp; omega)
    cases e : dcls1 r.tail.tail with
    | none => exact ⟨fun _ => C.1 e, fun _ _ _ x => by cases x⟩
    | some x =>
      obtain ⟨i, b, r1⟩ := x
      obtain ⟨k, q1, q2⟩ := C.2 i b r1 e
      refine ⟨fun x => (by cases x), fun _ _ _ x => ?_⟩
      cases x
      rw [q1]
      exact ⟨k, rfl, q2⟩
  · rw [if_neg g, if_neg g]
    exact h1.cls1 (s.length + 1) (by simp; omega)
theorem Rs.leaf (h : Rs s σ r) : (dleaf r = none → (leaf s σ).2.wrong = true) ∧ ∀ i b r2, dleaf r = some (i, b, r2) → ∃ k, Q.leaf s σ = ({ Q.mk 1 0 0 with ins := i }, { σ with at_ := k, back := σ.back || b }) ∧ Rs s { σ with at_ := k, back := σ.back || b } r2 := by
  have nob : ∀ τ : Rd, ({ τ with back := τ.back || false } : Rd) = τ := fun τ => by simp
  unfold dleaf Q.leaf
  rw [h.next]
  by_cases g : stops (dnext r) = true
  · rw [if_pos g, if_pos g]
    exact ⟨fun _ => rfl, fun _ _ _ x => by cases x⟩
  rw [if_neg g, if_neg g]
  have hn := stops_none (by simpa using g)
  by_cases g1 : dnext r = 91
  · rw [if_pos g1, if_pos g1]
    have C := h.cls hn
    refine ⟨C.1, fun i b r2 x => ?_⟩
    obtain ⟨k, q1, q2⟩ := C.2 i b r2 x
    rw [q1]
    exact ⟨k, rfl, q2⟩
  rw [if_neg g1, if_neg g1]
  by_cases g2 : dnext r = 46
  · rw [if_pos g2, if_pos g2]
    refine ⟨fun x => (by cases x), fun _ _ _ x => ?_⟩
    cases x
    refine ⟨σ.at_ + 1, ?_, (h.fwd hn).back _⟩
    simp [Q.fwd]
  rw [if_neg g2, if_neg g2]
  by_cases g3 : dnext r = 92
  · rw [if_pos g3, if_pos g3]
    have h2 := (h.fwd hn).any
    cases e : dany r.tail with
    | none => exact ⟨fun _ => h2.1 e, fun _ _ _ x => by cases x⟩
    | some x =>
      obtain ⟨c, r2⟩ := x
      obtain ⟨k, q1, q2⟩ := h2.2 c r2 e
      refine ⟨fun x => (by cases x), fun _ _ _ x => ?_⟩
      cases x
      rw [q1]
      refine ⟨k, ?_, q2.back _⟩
      simp [Q.fwd]
  rw [if_neg g3, if_neg g3]
  refine ⟨fun x => (by cases x), fun _ _ _ x => ?_⟩
  cases x
  refine ⟨σ.at_ + 1, ?_, (h.fwd hn).back _⟩
  simp [Q.fwd]
theorem Rs.rep (h : Rs s σ r) (n : Nat) (hr : isRep (dnext r) = true) : (drep r = none → (repPart s n σ).2.wrong = true) ∧ ∀ lo hi e b r2, drep r = some (lo, hi, e, b, r2) → ∃ k, repPart s n σ = ({ Q.mk 4 n 0 with low := lo, high := hi, endless := e }, { σ with at_ := k, back := σ.back || b }) ∧ Rs s { σ with at_ := k, back := σ.back || b } r2 := by
  have hn : dnext r ≠ -1 := by intro e; rw [e] at hr; cases hr
  have h1 := h.fwd hn
  unfold drep repPart
  rw [h.next]
  by_cases g1 : dnext r = 42
  · rw [if_pos g1, if_pos g1]
    refine ⟨fun x => (by cases x), fun _ _ _ _ _ x => ?_⟩
    cases x
    refine ⟨σ.at_ + 1, ?_, h1.back _⟩
    simp [Q.fwd, Q.mk]
  rw [if_neg g1, if_neg g1]
  by_cases g2 : dnext r = 43
  · rw [if_pos g2, if_pos g2]
    refine ⟨fun x => (by cases x), fun _ _ _ _ _ x => ?_⟩
    cases x
    refine ⟨σ.at_ + 1, ?_, h1.back _⟩
    simp [Q.fwd, Q.mk]
  rw [if_neg g2, if_neg g2]
  by_cases g3 : dnext r = 63
  · rw [if_pos g3, if_pos g3]
    refine ⟨fun x => (by cases x), fun _ _ _ _ _ x => ?_⟩
    cases x
    refine ⟨σ.at_ + 1, ?_, h1.back _⟩
    simp [Q.fwd, Q.mk]
  rw [if_neg g3, if_neg g3]
  have B := h1.bounds (Q.mk 4 n 0)
  refine ⟨B.1, fun lo hi e b r2 x => ?_⟩
  obtain ⟨k, q1, q2⟩ := B.2 lo hi e b r2 x
  refine ⟨k, ?_, q2⟩
  rw [q1]
  simp [Q.fwd, Q.mk]
end Go.Proofs.Ytjmkkkfloalliab.Q
