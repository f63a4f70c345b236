-- the program's own reader of patterns, as plain mathematics
namespace Go.Proofs.Ytjmkkkfloalliab.Q
set_option linter.unusedVariables false

/-- a part of a pattern -/
structure Part where
  kind : Nat
  ins : List Bool
  left : Nat
  right : Nat
  low : Nat
  high : Nat
  endless : Bool
  some : Bool
  empty : Bool
  places : Nat

def ins0 : List Bool := List.replicate 256 false
theorem ins0_len : ins0.length = 256 := List.length_replicate
def mk (kind left right : Nat) : Part := ⟨kind, ins0, left, right, 0, 0, false, false, false, 0⟩
def p0 : Part := mk 0 0 0
def Part.copies (p : Part) : Nat := if p.endless then p.low + 1 else p.high
def at_ (ps : List Part) (i : Nat) : Part := ps.getD i p0
def anyIn (l : List Bool) : Bool := l.any id

/-- with what follows from its parts -/
def known (ps : List Part) (p : Part) : Part :=
  if p.kind = 0 then { p with some := true, empty := true }
  else if p.kind = 1 then { p with some := p.some || anyIn p.ins, places := 1 }
  else if p.kind = 2 then { p with some := (at_ ps p.left).some && (at_ ps p.right).some, empty := (at_ ps p.left).empty && (at_ ps p.right).empty, places := (at_ ps p.left).places + (at_ ps p.right).places }
  else if p.kind = 3 then { p with some := (at_ ps p.left).some || (at_ ps p.right).some, empty := (at_ ps p.left).empty || (at_ ps p.right).empty, places := (at_ ps p.left).places + (at_ ps p.right).places }
  else { p with some := (at_ ps p.left).some || decide (p.low = 0), empty := (at_ ps p.left).empty || decide (p.low = 0), places := (at_ ps p.left).places * p.copies }
def cut (p : Part) : Part :=
  { p with places := if p.some = false then 0 else if 48 < p.places then 49 else p.places }
def fill (ps : List Part) (p : Part) : Part := cut (known ps p)

/-- how far the reading is -/
structure Rd where
  at_ : Nat
  wrong : Bool
  back : Bool
  depth : Nat
  deepest : Nat
  parts : List Part

def add (p : Part) (σ : Rd) : Nat × Rd := (σ.parts.length, { σ with parts := σ.parts ++ [fill σ.parts p] })

variable (s : List UInt8)
def next (σ : Rd) : Int := if σ.wrong = true ∨ s.length ≤ σ.at_ then -1 else ((s.getD σ.at_ 0).toNat : Int)
def fwd (σ : Rd) : Rd := { σ with at_ := σ.at_ + 1 }
def take (c : Int) (σ : Rd) : Rd := if next s σ = c then fwd σ else σ
def need (c : Int) (σ : Rd) : Rd := if next s σ = c then fwd σ else { σ with wrong := true }
def anyByte (σ : Rd) : Nat × Rd := if next s σ = -1 then (0, { σ with wrong := true }) else ((next s σ).toNat, fwd σ)
def isDigit (c : Int) : Bool := decide (48 ≤ c) && decide (c ≤ 57)
def number (σ : Rd) : Nat × Rd :=
  if isDigit (next s σ) = false then (0, { σ with wrong := true })
  else if isDigit (next s (fwd σ)) = true then (10 * ((next s σ).toNat - 48) + ((next s (fwd σ)).toNat - 48), fwd (fwd σ))
  else ((next s σ).toNat - 48, fwd σ)
/-- low, high, endless -/
def bounds1 (σ : Rd) : Nat × Bool × Rd :=
  if next s (number s σ).2 = 44 then
    if isDigit (next s (fwd (number s σ).2)) = true then ((number s (fwd (number s σ).2)).1, false, (number s (fwd (number s σ).2)).2)
    else ((number s σ).1, true, fwd (number s σ).2)
  else ((number s σ).1, false, (number s σ).2)
def bounds (p : Part) (σ : Rd) : Part × Rd :=
  ({ p with low := (number s σ).1, high := (bounds1 s σ).1, endless := p.endless || (bounds1 s σ).2.1 },
   need s 125 { (bounds1 s σ).2.2 with back := (bounds1 s σ).2.2.back || decide ((bounds1 s σ).1 < (number s σ).1) })
def memberByte (σ : Rd) : Nat × Rd :=
  if next s σ = 92 then anyByte s (fwd σ)
  else anyByte s (if next s σ = 93 ∨ next s σ = 45 then { σ with wrong := true } else σ)
def setRange (ins : List Bool) (a b : Nat) : List Bool := (List.range 256).map fun c => ins.getD c false || (decide (a ≤ c) && decide (c ≤ b))
/-- from, to -/
def member1 (σ : Rd) : Nat × Nat × Rd :=
  if next s (memberByte s σ).2 = 45 then ((memberByte s σ).1, (memberByte s (fwd (memberByte s σ).2)).1, (memberByte s (fwd (memberByte s σ).2)).2)
  else ((memberByte s σ).1, (memberByte s σ).1, (memberByte s σ).2)
def member (ins : List Bool) (σ : Rd) : List Bool × Rd :=
  (setRange ins (member1 s σ).1 (member1 s σ).2.1, { (member1 s σ).2.2 with back := (member1 s σ).2.2.back || decide ((member1 s σ).2.1 < (member1 s σ).1) })
/-- the members behind the first, with the bracket that closes them -/
def members : Nat → List Bool → Rd → List Bool × Rd
  | 0, ins, σ => (ins, σ)
  | f + 1, ins, σ => if σ.wrong = true then (ins, σ) else if next s σ = 93 then (ins, fwd σ) else members f (member s ins σ).1 (member s ins σ).2
def turn (ins : List Bool) : List Bool := ins.map (!·)
def cls (ins : List Bool) (σ : Rd) : List Bool × Rd :=
  if next s (fwd σ) = 94 then
    (turn (members s (s.length + 1) (member s ins (fwd (fwd σ))).1 (member s ins (fwd (fwd σ))).2).1, (members s (s.length + 1) (member s ins (fwd (fwd σ))).1 (member s ins (fwd (fwd σ))).2).2)
  else members s (s.length + 1) (member s ins (fwd σ)).1 (member s ins (fwd σ)).2

def stops (c : Int) : Bool := c == -1 || c == 41 || c == 124 || c == 42 || c == 43 || c == 63 || c == 123 || c == 125 || c == 93
def isRep (c : Int) : Bool := c == 42 || c == 43 || c == 63 || c == 123
def ends (c : Int) : Bool := c == -1 || c == 124 || c == 41
def repPart (n : Nat) (σ : Rd) : Part × Rd :=
  if next s σ = 42 then ({ mk 4 n 0 with endless := true }, fwd σ)
  else if next s σ = 43 then ({ mk 4 n 0 with low := 1, endless := true }, fwd σ)
  else if next s σ = 63 then ({ mk 4 n 0 with high := 1 }, fwd σ)
  else bounds s (mk 4 n 0) (fwd σ)
def opened (σ : Rd) : Rd := { fwd σ with depth := σ.depth + 1, deepest := if σ.deepest < σ.depth + 1 then σ.depth + 1 else σ.deepest }
def closed (σ : Rd) : Rd := need s 41 { σ with depth := σ.depth - 1 }
/-- a term that is no bracket -/
def leaf (σ : Rd) : Part × Rd :=
  if stops (next s σ) = true then (mk 1 0 0, { σ with wrong := true })
  else if next s σ = 91 then ({ mk 1 0 0 with ins := (cls s ins0 σ).1 }, (cls s ins0 σ).2)
  else if next s σ = 46 then ({ mk 1 0 0 with ins := turn ins0 }, fwd σ)
  else if next s σ = 92 then ({ mk 1 0 0 with ins := ins0.set (anyByte s (fwd σ)).1 true }, (anyByte s (fwd σ)).2)
  else ({ mk 1 0 0 with ins := ins0.set (next s σ).toNat true }, fwd σ)

abbrev Job : Type := Unit ⊕ Nat ⊕ Unit ⊕ Nat ⊕ Unit ⊕ Nat ⊕ Unit
abbrev Job.alt : Job := .inl ()
abbrev Job.altL (n : Nat) : Job := .inr (.inl n)
abbrev Job.seq : Job := .inr (.inr (.inl ()))
abbrev Job.seqL (n : Nat) : Job := .inr (.inr (.inr (.inl n)))
abbrev Job.rep : Job := .inr (.inr (.inr (.inr (.inl ()))))
abbrev Job.repL (n : Nat) : Job := .inr (.inr (.inr (.inr (.inr (.inl n)))))
abbrev Job.term : Job := .inr (.inr (.inr (.inr (.inr (.inr ())))))
def Job.rank : Job → Nat
  | .inl () => 6
  | .inr (.inl _) => 1
  | .inr (.inr (.inl ())) => 5
  | .inr (.inr (.inr (.inl _))) => 4
  | .inr (.inr (.inr (.inr (.inl ())))) => 3
  | .inr (.inr (.inr (.inr (.inr (.inl _))))) => 1
  | .inr (.inr (.inr (.inr (.inr (.inr ()))))) => 1

def go : Nat → Job → Rd → Nat × Rd
  | 0, _, σ => (0, σ)
  | f + 1, .inl (), σ => go f (.altL (go f .seq σ).1) (go f .seq σ).2
  | f + 1, .inr (.inl n), σ => if next s σ = 124 then
      go f (.altL (add (mk 3 n (go f .seq (fwd σ)).1) (go f .seq (fwd σ)).2).1) (add (mk 3 n (go f .seq (fwd σ)).1) (go f .seq (fwd σ)).2).2
    else (n, σ)
  | f + 1, .inr (.inr (.inl ())), σ => go f (.seqL (add (mk 0 0 0) σ).1) (add (mk 0 0 0) σ).2
  | f + 1, .inr (.inr (.inr (.inl n))), σ => if ends (next s σ) = true then (n, σ) else
      go f (.seqL (add (mk 2 n (go f .rep σ).1) (go f .rep σ).2).1) (add (mk 2 n (go f .rep σ).1) (go f .rep σ).2).2
  | f + 1, .inr (.inr (.inr (.inr (.inl ())))), σ => go f (.repL (go f .term σ).1) (go f .term σ).2
  | f + 1, .inr (.inr (.inr (.inr (.inr (.inl n))))), σ => if isRep (next s σ) = true then
      go f (.repL (add (repPart s n σ).1 (repPart s n σ).2).1) (add (repPart s n σ).1 (repPart s n σ).2).2
    else (n, σ)
  | f + 1, .inr (.inr (.inr (.inr (.inr (.inr ()))))), σ => if next s σ = 40 then ((go f .alt (opened σ)).1, closed s (go f .alt (opened σ)).2)
    else add (leaf s σ).1 (leaf s σ).2

def left (σ : Rd) : Nat := if σ.wrong = true then 0 else s.length - σ.at_

/-- where σ2 can come from σ1 by reading on -/
structure On (σ1 σ2 : Rd) : Prop where
  at_ : σ1.at_ ≤ σ2.at_
  len : σ1.at_ ≤ s.length → σ2.at_ ≤ s.length
  wrong : σ1.wrong = true → σ2.wrong = true
  back : σ1.back = true → σ2.back = true

theorem On.refl (σ : Rd) : On s σ σ := ⟨Nat.le_refl _, id, id, id⟩
variable {s}
theorem On.trans {a b c : Rd} (h : On s a b) (g : On s b c) : On s a c := ⟨Nat.le_trans h.at_ g.at_, fun x => g.len (h.len x), fun x => g.wrong (h.wrong x), fun x => g.back (h.back x)⟩
theorem On.left {a b : Rd} (h : On s a b) : left s b ≤ left s a := by
  unfold Q.left
  have := h.at_
  cases hw : a.wrong with
  | true => rw [h.wrong hw]; simp
  | false => split <;> simp <;> omega

theorem next_lt {σ : Rd} (h : next s σ ≠ -1) : σ.wrong = false ∧ σ.at_ < s.length ∧ next s σ = ((s.getD σ.at_ 0).toNat : Int) := by
  unfold next at h ⊢
  split
  · next h2 => rw [if_pos h2] at h; exact absurd rfl h
  · next h2 =>
    refine ⟨?_, ?_, rfl⟩
    · cases hw : σ.wrong with
      | true => exact absurd (.inl hw) h2
      | false => rfl
    · rcases Nat.lt_or_ge σ.at_ s.length with h3 | h3
      · exact h3
      · exact absurd (.inr h3) h2
theorem next_range (σ : Rd) : -1 ≤ next s σ ∧ next s σ ≤ 255 := by
  unfold next
  split
  · omega
  · have := (s.getD σ.at_ 0).toNat_lt
    omega
theorem fwd_on {σ : Rd} (h : next s σ ≠ -1) : On s σ (fwd σ) := ⟨by simp [fwd], fun _ => by have := (next_lt h).2.1; simp [fwd]; omega, id, id⟩
theorem fwd_left {σ : Rd} (h : next s σ ≠ -1) : left s (fwd σ) < left s σ := by
  obtain ⟨h1, h2, _⟩ := next_lt h
  unfold left fwd
  simp only [h1, Bool.false_eq_true, if_false]
  omega
theorem wrong_on (σ : Rd) : On s σ { σ with wrong := true } := ⟨Nat.le_refl _, id, fun _ => rfl, id⟩
theorem wrong_left {σ : Rd} (h : next s σ ≠ -1) : left s { σ with wrong := true } < left s σ := by
  obtain ⟨h1, h2, _⟩ := next_lt h
  unfold left
  simp only [h1, Bool.false_eq_true, if_false, if_true]
  omega
theorem take_on (c : Int) (hc : c ≠ -1) (σ : Rd) : On s σ (take s c σ) := by
  unfold take
  split
  · next h => exact fwd_on (by rw [h]; exact hc)
  · exact On.refl s σ
theorem need_on (c : Int) (hc : c ≠ -1) (σ : Rd) : On s σ (need s c σ) := by
  unfold need
  split
  · next h => exact fwd_on (by rw [h]; exact hc)
  · exact wrong_on σ
theorem anyByte_on (σ : Rd) : On s σ (anyByte s σ).2 := by
  unfold anyByte
  split
  · exact wrong_on σ
  · next h => exact fwd_on h
theorem anyByte_lt (σ : Rd) : (anyByte s σ).1 < 256 := by
  unfold anyByte
  have := next_range (s := s) σ
  split
  · simp
  · simp; omega
theorem isDigit_ne {c : Int} (h : isDigit c = true) : 48 ≤ c ∧ c ≤ 57 := by
  unfold isDigit at h
  simpa using h
theorem number_on (σ : Rd) : On s σ (number s σ).2 := by
  unfold number
  split
  · exact wrong_on σ
  · next h =>
    have h1 := isDigit_ne (by simpa using h)
    have o1 : On s σ (fwd σ) := fwd_on (by omega)
    split
    · next h2 =>
      have h3 := isDigit_ne h2
      exact o1.trans (fwd_on (by omega))
    · exact o1
theorem number_le (σ : Rd) : (number s σ).1 ≤ 99 := by
  unfold number
  split
  · simp
  · next h =>
    have h1 := isDigit_ne (by simpa using h)
    split
    · next h2 =>
      have h3 := isDigit_ne h2
      simp only
      omega
    · simp only; omega
theorem bounds1_on (σ : Rd) : On s σ (bounds1 s σ).2.2 := by
  unfold bounds1
  have o1 := number_on (s := s) σ
  split
  · next h =>
    have o2 := o1.trans (fwd_on (s := s) (σ := (number s σ).2) (by omega))
    split
    · exact o2.trans (number_on _)
    · exact o2
  · exact o1
theorem bounds1_le (σ : Rd) : (bounds1 s σ).1 ≤ 99 := by
  unfold bounds1
  split
  · split
    · exact number_le _
    · exact number_le _
  · exact number_le _
theorem bounds_on (p : Part) (σ : Rd) : On s σ (bounds s p σ).2 := by
  unfold bounds
  have o1 := bounds1_on (s := s) σ
  refine o1.trans (On.trans ?_ (need_on 125 (by decide) _))
  exact ⟨Nat.le_refl _, id, id, fun h => by simp [h]⟩
theorem memberByte_on (σ : Rd) : On s σ (memberByte s σ).2 := by
  unfold memberByte
  split
  · next h => exact (fwd_on (by rw [h]; decide)).trans (anyByte_on _)
  · split
    · exact (wrong_on σ).trans (anyByte_on _)
    · exact anyByte_on _
theorem memberByte_lt (σ : Rd) : (memberByte s σ).1 < 256 := by
  unfold memberByte
  split
  · exact anyByte_lt _
  · exact anyByte_lt _
/-- it goes on, or is wrong -/
def Adv (s : List UInt8) (a b : Rd) : Prop := b.wrong = true ∨ left s b < left s a
theorem Adv.on {a b c : Rd} (h : Adv s a b) (g : On s b c) : Adv s a c := by
  rcases h with h | h
  · exact .inl (g.wrong h)
  · exact .inr (Nat.lt_of_le_of_lt g.left h)
theorem On.adv {a b c : Rd} (h : On s a b) (g : Adv s b c) : Adv s a c := by
  rcases g with g | g
  · exact .inl g
  · exact .inr (Nat.lt_of_lt_of_le g h.left)
theorem anyByte_adv (σ : Rd) : Adv s σ (anyByte s σ).2 := by
  unfold anyByte
  split
  · exact .inl rfl
  · next h => exact .inr (fwd_left h)
theorem memberByte_adv (σ : Rd) : Adv s σ (memberByte s σ).2 := by
  unfold memberByte
  split
  · next h => exact (fwd_on (by rw [h]; decide)).adv (anyByte_adv _)
  · split
    · exact (wrong_on σ).adv (anyByte_adv _)
    · exact anyByte_adv _
theorem member1_on (σ : Rd) : On s (memberByte s σ).2 (member1 s σ).2.2 := by
  unfold member1
  split
  · next h => exact (fwd_on (by rw [h]; decide)).trans (memberByte_on _)
  · exact On.refl s _
theorem member1_lt (σ : Rd) : (member1 s σ).1 < 256 ∧ (member1 s σ).2.1 < 256 := by
  unfold member1
  split
  · exact ⟨memberByte_lt _, memberByte_lt _⟩
  · exact ⟨memberByte_lt _, memberByte_lt _⟩
theorem back_on (σ : Rd) (b : Bool) : On s σ { σ with back := σ.back || b } := ⟨Nat.le_refl _, id, id, fun h => by simp [h]⟩
theorem member_on (ins : List Bool) (σ : Rd) : On s σ (member s ins σ).2 := ((memberByte_on σ).trans (member1_on σ)).trans (back_on _ _)
theorem member_adv (ins : List Bool) (σ : Rd) : Adv s σ (member s ins σ).2 := ((memberByte_adv σ).on (member1_on σ)).on (back_on _ _)
theorem setRange_len (ins : List Bool) (a b : Nat) : (setRange ins a b).length = 256 := by simp [setRange]
theorem member_len (ins : List Bool) (σ : Rd) : (member s ins σ).1.length = 256 := setRange_len _ _ _
theorem members_on : ∀ (f : Nat) (ins : List Bool) (σ : Rd), On s σ (members s f ins σ).2
  | 0, _, σ => On.refl s σ
  | f + 1, ins, σ => by
    unfold members
    split
    · exact On.refl s σ
    · split
      · next h => exact fwd_on (by rw [h]; decide)
      · exact (member_on ins σ).trans (members_on f _ _)
theorem members_len : ∀ (f : Nat) (ins : List Bool) (σ : Rd), ins.length = 256 → (members s f ins σ).1.length = 256
  | 0, _, σ, h => h
  | f + 1, ins, σ, h => by
    unfold members
    split
    · exact h
    · split
      · exact h
      · exact members_len f _ _ (member_len _ _)
/-- more fuel changes nothing -/
theorem members_more : ∀ (f g : Nat) (ins : List Bool) (σ : Rd), (σ.wrong = true ∨ left s σ < f) → (σ.wrong = true ∨ left s σ < g) → 0 < f → 0 < g → members s f ins σ = members s g ins σ
  | 0, _, _, _, _, _, h, _ => by omega
  | f + 1, 0, _, _, _, _, _, h => by omega
  | f + 1, g + 1, ins, σ, hf, hg, _, _ => by
    unfold members
    cases hw : σ.wrong with
    | true => simp
    | false =>
      simp only [Bool.false_eq_true, if_false]
      rw [hw] at hf hg
      simp only [Bool.false_eq_true, false_or] at hf hg
      by_cases h9 : next s σ = 93
      · rw [if_pos h9, if_pos h9]
      · rw [if_neg h9, if_neg h9]
        cases f with
        | zero =>
          cases hw2 : (member s ins σ).2.wrong with
          | true =>
            cases g with
            | zero => rfl
            | succ g => unfold members; simp [hw2]
          | false =>
            rcases member_adv ins σ with h | h
            · rw [hw2] at h; cases h
            · omega
        | succ f =>
          cases g with
          | zero =>
            cases hw2 : (member s ins σ).2.wrong with
            | true => unfold members; simp [hw2]
            | false =>
              rcases member_adv ins σ with h | h
              · rw [hw2] at h; cases h
              · omega
          | succ g =>
            refine members_more (f + 1) (g + 1) _ _ ?_ ?_ (by omega) (by omega)
            · rcases member_adv ins σ with h | h
              · exact .inl h
              · exact .inr (by omega)
            · rcases member_adv ins σ with h | h
              · exact .inl h
              · exact .inr (by omega)
theorem turn_len (ins : List Bool) (h : ins.length = 256) : (turn ins).length = 256 := by simp [turn, h]
theorem cls_on {σ : Rd} (h : next s σ ≠ -1) (ins : List Bool) : On s (fwd σ) (cls s ins σ).2 := by
  unfold cls
  split
  · next h2 => exact ((fwd_on (by rw [h2]; decide)).trans (member_on _ _)).trans (members_on _ _ _)
  · exact (member_on _ _).trans (members_on _ _ _)
theorem cls_len (σ : Rd) (ins : List Bool) : (cls s ins σ).1.length = 256 := by
  unfold cls
  split
  · exact turn_len _ (members_len _ _ _ (member_len _ _))
  · exact members_len _ _ _ (member_len _ _)

/-! parts -/
structure PartOk (i : Nat) (p : Part) : Prop where
  kind : p.kind ≤ 4
  ins : p.ins.length = 256
  left : 2 ≤ p.kind → p.left < i
  right : p.kind = 2 ∨ p.kind = 3 → p.right < i
  low : p.low ≤ 99
  high : p.high ≤ 99
  places : p.places ≤ 49
  zero : p.kind = 0 → p.places = 0
def PartsOk (ps : List Part) : Prop := ∀ i p, ps[i]? = some p → PartOk i p ∧ fill ps p = p
theorem PartsOk.get {ps : List Part} (h : PartsOk ps) (i : Nat) (hi : i < ps.length) : PartOk i (Q.at_ ps i) ∧ fill ps (Q.at_ ps i) = Q.at_ ps i := by
  refine h i _ ?_
  unfold Q.at_
  rw [List.getD_eq_getElem?_getD, List.getElem?_eq_getElem hi]; rfl
theorem PartOk.cut {i : Nat} {p q : Part} (h : PartOk i p) (h1 : q.kind = p.kind) (h2 : q.ins = p.ins) (h3 : q.left = p.left) (h4 : q.right = p.right) (h5 : q.low = p.low) (h6 : q.high = p.high) (h7 : p.kind = 0 → q.places = 0) : PartOk i (cut q) := by
  refine ⟨by simp only [Q.cut]; rw [h1]; exact h.kind, by simp only [Q.cut]; rw [h2]; exact h.ins, by simp only [Q.cut]; rw [h1, h3]; exact h.left, by simp only [Q.cut]; rw [h1, h4]; exact h.right, by simp only [Q.cut]; rw [h5]; exact h.low, by simp only [Q.cut]; rw [h6]; exact h.high, ?_, ?_⟩
  · simp only [Q.cut]
    split
    · omega
    · split <;> omega
  · simp only [Q.cut]
    intro h0
    rw [h1] at h0
    rw [h7 h0]
    split <;> simp
theorem PartOk.fill {i : Nat} {p : Part} (ps : List Part) (h : PartOk i p) : PartOk i (fill ps p) := by
  unfold Q.fill known
  split
  · exact h.cut rfl rfl rfl rfl rfl rfl h.zero
  · next h0 =>
    split
    · exact h.cut rfl rfl rfl rfl rfl rfl (fun e => absurd e h0)
    · split
      · exact h.cut rfl rfl rfl rfl rfl rfl (fun e => absurd e h0)
      · split
        · exact h.cut rfl rfl rfl rfl rfl rfl (fun e => absurd e h0)
        · exact h.cut rfl rfl rfl rfl rfl rfl (fun e => absurd e h0)
theorem at_app (ps l : List Part) (i : Nat) (h : i < ps.length) : Q.at_ (ps ++ l) i = Q.at_ ps i := by
  unfold Q.at_
  rw [List.getD_eq_getElem?_getD, List.getD_eq_getElem?_getD, List.getElem?_append_left h]
theorem fill_app {i : Nat} {p : Part} (ps l : List Part) (h : PartOk i p) (hi : i ≤ ps.length) : fill (ps ++ l) p = fill ps p := by
  unfold fill known
  by_cases h0 : p.kind = 0
  · rw [if_pos h0, if_pos h0]
  rw [if_neg h0, if_neg h0]
  by_cases h1 : p.kind = 1
  · rw [if_pos h1, if_pos h1]
  rw [if_neg h1, if_neg h1]
  have hl := h.left (by omega)
  rw [at_app ps l p.left (by omega)]
  by_cases h2 : p.kind = 2
  · have hr := h.right (.inl h2)
    rw [if_pos h2, if_pos h2, at_app ps l p.right (by omega)]
  rw [if_neg h2, if_neg h2]
  by_cases h3 : p.kind = 3
  · have hr := h.right (.inr h3)
    rw [if_pos h3, if_pos h3, at_app ps l p.right (by omega)]
  rw [if_neg h3, if_neg h3]
theorem known_cut {ps : List Part} {p : Part} (h0 : p.kind = 0 → p.places = 0) : cut (known ps (cut (known ps p))) = cut (known ps p) := by
  by_cases e0 : p.kind = 0
  · have := h0 e0
    simp [known, cut, e0, this]
  by_cases e1 : p.kind = 1
  · simp [known, cut, e1]
  by_cases e2 : p.kind = 2
  · simp [known, cut, e2]
  by_cases e3 : p.kind = 3
  · simp [known, cut, e3]
  simp [known, cut, e0, e1, e2, e3, Part.copies]
theorem PartsOk.add {σ : Rd} {p : Part} (h : PartsOk σ.parts) (hp : PartOk σ.parts.length p) : PartsOk (add p σ).2.parts := by
  intro i q hq
  simp only [Q.add] at hq ⊢
  rcases Nat.lt_or_ge i σ.parts.length with h1 | h1
  · rw [List.getElem?_append_left h1] at hq
    obtain ⟨g1, g2⟩ := h i q hq
    exact ⟨g1, by rw [fill_app _ _ g1 (by omega)]; exact g2⟩
  · rw [List.getElem?_append_right h1] at hq
    have : i = σ.parts.length := by
      rcases Nat.lt_or_ge (i - σ.parts.length) 1 with h2 | h2
      · omega
      · rw [List.getElem?_eq_none (by simpa using h2)] at hq; cases hq
    subst this
    simp only [Nat.sub_self, List.getElem?_cons_zero, Option.some.injEq] at hq
    subst hq
    refine ⟨hp.fill _, ?_⟩
    rw [fill_app _ _ (hp.fill _) (Nat.le_refl _)]
    exact known_cut hp.zero
theorem mk_ok (i kind left right : Nat) (h1 : kind ≤ 4) (h2 : 2 ≤ kind → left < i) (h3 : kind = 2 ∨ kind = 3 → right < i) : PartOk i (mk kind left right) := ⟨h1, ins0_len, h2, h3, Nat.zero_le _, Nat.zero_le _, Nat.zero_le _, fun _ => rfl⟩
theorem repPart_ok (n : Nat) (σ : Rd) (i : Nat) (hn : n < i) : PartOk i (repPart s n σ).1 := by
  have h0 : PartOk i (mk 4 n 0) := mk_ok i 4 n 0 (by omega) (fun _ => hn) (fun h => by omega)
  unfold repPart
  split
  · exact ⟨h0.kind, h0.ins, h0.left, h0.right, h0.low, h0.high, h0.places, h0.zero⟩
  · split
    · exact ⟨h0.kind, h0.ins, h0.left, h0.right, by simp, h0.high, h0.places, h0.zero⟩
    · split
      · exact ⟨h0.kind, h0.ins, h0.left, h0.right, h0.low, by simp, h0.places, h0.zero⟩
      · exact ⟨h0.kind, h0.ins, h0.left, h0.right, number_le _, bounds1_le _, h0.places, h0.zero⟩
theorem repPart_on (n : Nat) (σ : Rd) (h : isRep (next s σ) = true) : On s (fwd σ) (repPart s n σ).2 ∧ next s σ ≠ -1 := by
  refine ⟨?_, ?_⟩
  · unfold repPart
    split
    · exact On.refl s _
    · split
      · exact On.refl s _
      · split
        · exact On.refl s _
        · exact bounds_on _ _
  · intro e
    rw [e] at h
    cases h
theorem leaf_ok (σ : Rd) (i : Nat) : PartOk i (leaf s σ).1 := by
  have h0 : PartOk i (mk 1 0 0) := mk_ok i 1 0 0 (by omega) (fun h => by omega) (fun h => by omega)
  have key : ∀ l : List Bool, l.length = 256 → PartOk i { mk 1 0 0 with ins := l } := fun l hl => ⟨h0.kind, hl, h0.left, h0.right, h0.low, h0.high, h0.places, h0.zero⟩
  unfold leaf
  split
  · exact h0
  · split
    · exact key _ (cls_len _ _)
    · split
      · exact key _ (turn_len _ ins0_len)
      · split
        · exact key _ (by rw [List.length_set]; exact ins0_len)
        · exact key _ (by rw [List.length_set]; exact ins0_len)
theorem stops_none {c : Int} (h : stops c = false) : c ≠ -1 := by
  intro e
  subst e
  cases h
theorem leaf_on (σ : Rd) : On s σ (leaf s σ).2 := by
  unfold leaf
  split
  · exact wrong_on σ
  · next h =>
    have hn := stops_none (by simpa using h)
    split
    · exact (fwd_on hn).trans (cls_on hn _)
    · split
      · exact fwd_on hn
      · split
        · exact (fwd_on hn).trans (anyByte_on _)
        · exact fwd_on hn
theorem leaf_adv (σ : Rd) (hn : next s σ ≠ -1) : left s (leaf s σ).2 < left s σ := by
  unfold leaf
  split
  · exact wrong_left hn
  · split
    · exact Nat.lt_of_le_of_lt (cls_on hn _).left (fwd_left hn)
    · split
      · exact fwd_left hn
      · split
        · exact Nat.lt_of_le_of_lt (anyByte_on _).left (fwd_left hn)
        · exact fwd_left hn

/-! the parts of σ are only touched by 'add' -/
theorem fwd_parts (σ : Rd) : (fwd σ).parts = σ.parts := rfl
theorem need_parts (c : Int) (σ : Rd) : (need s c σ).parts = σ.parts := by unfold need; split <;> rfl
theorem anyByte_parts (σ : Rd) : (anyByte s σ).2.parts = σ.parts := by unfold anyByte; split <;> rfl
theorem number_parts (σ : Rd) : (number s σ).2.parts = σ.parts := by
  unfold number
  split
  · rfl
  · split <;> rfl
theorem bounds1_parts (σ : Rd) : (bounds1 s σ).2.2.parts = σ.parts := by
  unfold bounds1
  split
  · split
    · rw [number_parts, fwd_parts, number_parts]
    · rw [fwd_parts, number_parts]
  · exact number_parts σ
theorem bounds_parts (p : Part) (σ : Rd) : (bounds s p σ).2.parts = σ.parts := by
  unfold bounds
  rw [need_parts]
  exact bounds1_parts σ
theorem memberByte_parts (σ : Rd) : (memberByte s σ).2.parts = σ.parts := by
  unfold memberByte
  split
  · rw [anyByte_parts, fwd_parts]
  · rw [anyByte_parts]; split <;> rfl
theorem member_parts (ins : List Bool) (σ : Rd) : (member s ins σ).2.parts = σ.parts := by
  unfold member member1
  simp only
  split
  · simp only; rw [memberByte_parts, fwd_parts, memberByte_parts]
  · simp only; rw [memberByte_parts]
theorem members_parts : ∀ (f : Nat) (ins : List Bool) (σ : Rd), (members s f ins σ).2.parts = σ.parts
  | 0, _, _ => rfl
  | f + 1, ins, σ => by
    unfold members
    split
    · rfl
    · split
      · rfl
      · rw [members_parts f, member_parts]
theorem cls_parts (ins : List Bool) (σ : Rd) : (cls s ins σ).2.parts = σ.parts := by
  unfold cls
  split
  · simp only; rw [members_parts, member_parts]; rfl
  · rw [members_parts, member_parts]; rfl
theorem leaf_parts (σ : Rd) : (leaf s σ).2.parts = σ.parts := by
  unfold leaf
  split
  · rfl
  · split
    · exact cls_parts _ _
    · split
      · rfl
      · split
        · exact anyByte_parts _
        · rfl
theorem repPart_parts (n : Nat) (σ : Rd) : (repPart s n σ).2.parts = σ.parts := by
  unfold repPart
  split
  · rfl
  · split
    · rfl
    · split
      · rfl
      · exact bounds_parts _ _
theorem closed_parts (σ : Rd) : (closed s σ).parts = σ.parts := need_parts _ _

/-- what every job keeps -/
structure Good (σ : Rd) (x : Nat × Rd) : Prop where
  on : On s σ x.2
  ok : PartsOk x.2.parts
  grow : ∃ l, x.2.parts = σ.parts ++ l
  lt : x.1 < x.2.parts.length
def Job.ok (σ : Rd) : Job → Prop
  | .inl () => True
  | .inr (.inl n) => n < σ.parts.length
  | .inr (.inr (.inl ())) => True
  | .inr (.inr (.inr (.inl n))) => n < σ.parts.length
  | .inr (.inr (.inr (.inr (.inl ())))) => True
  | .inr (.inr (.inr (.inr (.inr (.inl n))))) => n < σ.parts.length
  | .inr (.inr (.inr (.inr (.inr (.inr ()))))) => True
def Job.adv (j : Job) (σ : Rd) (x : Nat × Rd) : Prop :=
  match j with
  | .inl () => True
  | .inr (.inl _) => True
  | .inr (.inr (.inl ())) => True
  | .inr (.inr (.inr (.inl _))) => True
  | .inr (.inr (.inr (.inr (.inl ())))) => next s σ ≠ -1 → left s x.2 < left s σ
  | .inr (.inr (.inr (.inr (.inr (.inl _))))) => True
  | .inr (.inr (.inr (.inr (.inr (.inr ()))))) => next s σ ≠ -1 → left s x.2 < left s σ
theorem add_on (p : Part) (σ : Rd) : On s σ (add p σ).2 := ⟨Nat.le_refl _, id, id, id⟩
theorem add_left (p : Part) (σ : Rd) : left s (add p σ).2 = left s σ := rfl
theorem Good.len {σ : Rd} {x : Nat × Rd} (h : Good (s := s) σ x) : σ.parts.length ≤ x.2.parts.length := by
  obtain ⟨l, e⟩ := h.grow
  rw [e]; simp
theorem good_add {σ : Rd} {p : Part} (h : PartsOk σ.parts) (hp : PartOk σ.parts.length p) : Good (s := s) σ (add p σ) :=
  ⟨add_on p σ, h.add hp, ⟨_, rfl⟩, by simp [add]⟩
theorem Good.trans {σ τ : Rd} {n : Nat} {x : Nat × Rd} (h : Good (s := s) σ (n, τ)) (g : Good (s := s) τ x) : Good (s := s) σ x := by
  obtain ⟨l, e⟩ := h.grow
  obtain ⟨l2, e2⟩ := g.grow
  simp only at e
  exact ⟨h.on.trans g.on, g.ok, ⟨l ++ l2, by rw [e2, e, List.append_assoc]⟩, g.lt⟩
theorem Good.pre {σ τ : Rd} {x : Nat × Rd} (h : On s σ τ) (hp : τ.parts = σ.parts) (g : Good (s := s) τ x) : Good (s := s) σ x :=
  ⟨h.trans g.on, g.ok, by rw [← hp]; exact g.grow, g.lt⟩
theorem opened_on {σ : Rd} (h : next s σ ≠ -1) : On s σ (opened σ) := ⟨by simp [opened, fwd], fun _ => by have := (next_lt h).2.1; simp [opened, fwd]; omega, id, id⟩
theorem opened_left {σ : Rd} (h : next s σ ≠ -1) : left s (opened σ) < left s σ := fwd_left h
theorem closed_on (σ : Rd) : On s σ (closed s σ) := On.trans (b := { σ with depth := σ.depth - 1 }) ⟨Nat.le_refl _, id, id, id⟩ (need_on 41 (by decide) _)
theorem Job.rank_pos : ∀ j : Job, 0 < j.rank
  | .inl () => by decide
  | .inr (.inl _) => by simp only [Job.rank]; omega
  | .inr (.inr (.inl ())) => by decide
  | .inr (.inr (.inr (.inl _))) => by simp only [Job.rank]; omega
  | .inr (.inr (.inr (.inr (.inl ())))) => by decide
  | .inr (.inr (.inr (.inr (.inr (.inl _))))) => by simp only [Job.rank]; omega
  | .inr (.inr (.inr (.inr (.inr (.inr ()))))) => by decide
theorem go_good : ∀ (f : Nat) (j : Job) (σ : Rd), 8 * left s σ + j.rank ≤ f → PartsOk σ.parts → j.ok σ → Good (s := s) σ (go s f j σ) ∧ j.adv (s := s) σ (go s f j σ)
  | 0, j, _, h, _, _ => by have := Job.rank_pos j; omega
  | f + 1, .inl (), σ, h, hp, _ => by
    simp only [Job.rank] at h
    have g1 := (go_good f .seq σ (by simp only [Job.rank]; omega) hp trivial).1
    have hl := g1.on.left
    exact ⟨Good.trans (n := (go s f .seq σ).1) g1 (go_good f (.altL _) _ (by simp only [Job.rank]; omega) g1.ok g1.lt).1, trivial⟩
  | f + 1, .inr (.inl n), σ, h, hp, hn => by
    simp only [Job.rank] at h
    refine ⟨?_, trivial⟩
    unfold go
    split
    · next h2 =>
      have hne : next s σ ≠ -1 := by rw [h2]; decide
      have hl := fwd_left hne
      have g1 := (go_good f .seq (fwd σ) (by simp only [Job.rank]; omega) hp trivial).1
      have hn2 : n < (go s f .seq (fwd σ)).2.parts.length := Nat.lt_of_lt_of_le hn g1.len
      have g2 : Good (s := s) _ (add (mk 3 n (go s f .seq (fwd σ)).1) (go s f .seq (fwd σ)).2) := good_add g1.ok (mk_ok _ _ _ _ (by omega) (fun _ => hn2) (fun _ => g1.lt))
      have h3 := (g1.on.trans g2.on).left
      refine Good.pre (fwd_on hne) rfl (Good.trans (n := 0) (τ := (go s f .seq (fwd σ)).2) ⟨g1.on, g1.ok, g1.grow, Nat.lt_of_le_of_lt (Nat.zero_le _) g1.lt⟩ (Good.trans (n := 0) (τ := (add (mk 3 n (go s f .seq (fwd σ)).1) (go s f .seq (fwd σ)).2).2) ⟨g2.on, g2.ok, g2.grow, Nat.lt_of_le_of_lt (Nat.zero_le _) g2.lt⟩ (go_good f (.altL _) _ (by simp only [Job.rank]; omega) g2.ok g2.lt).1))
    · exact ⟨On.refl s σ, hp, ⟨[], by simp⟩, hn⟩
  | f + 1, .inr (.inr (.inl ())), σ, h, hp, _ => by
    simp only [Job.rank] at h
    refine ⟨?_, trivial⟩
    unfold go
    have g2 : Good (s := s) σ (add (mk 0 0 0) σ) := good_add hp (mk_ok _ _ _ _ (by omega) (fun h => by omega) (fun h => by omega))
    have h3 := add_left (s := s) (mk 0 0 0) σ
    exact Good.trans (n := 0) (τ := (add (mk 0 0 0) σ).2) ⟨g2.on, g2.ok, g2.grow, Nat.lt_of_le_of_lt (Nat.zero_le _) g2.lt⟩ (go_good f (.seqL _) _ (by simp only [Job.rank]; omega) g2.ok g2.lt).1
  | f + 1, .inr (.inr (.inr (.inl n))), σ, h, hp, hn => by
    simp only [Job.rank] at h
    refine ⟨?_, trivial⟩
    unfold go
    split
    · exact ⟨On.refl s σ, hp, ⟨[], by simp⟩, hn⟩
    · next h2 =>
      have hne : next s σ ≠ -1 := by intro e; rw [e] at h2; exact h2 rfl
      obtain ⟨g1, a1⟩ := go_good f .rep σ (by simp only [Job.rank]; omega) hp trivial
      have hl := a1 hne
      have hn2 : n < (go s f .rep σ).2.parts.length := Nat.lt_of_lt_of_le hn g1.len
      have g2 : Good (s := s) _ (add (mk 2 n (go s f .rep σ).1) (go s f .rep σ).2) := good_add g1.ok (mk_ok _ _ _ _ (by omega) (fun _ => hn2) (fun _ => g1.lt))
      have h3 := g2.on.left
      exact Good.trans (n := 0) (τ := (go s f .rep σ).2) ⟨g1.on, g1.ok, g1.grow, Nat.lt_of_le_of_lt (Nat.zero_le _) g1.lt⟩ (Good.trans (n := 0) (τ := (add (mk 2 n (go s f .rep σ).1) (go s f .rep σ).2).2) ⟨g2.on, g2.ok, g2.grow, Nat.lt_of_le_of_lt (Nat.zero_le _) g2.lt⟩ (go_good f (.seqL _) _ (by simp only [Job.rank]; omega) g2.ok g2.lt).1)
  | f + 1, .inr (.inr (.inr (.inr (.inl ())))), σ, h, hp, _ => by
    simp only [Job.rank] at h
    obtain ⟨g1, a1⟩ := go_good f .term σ (by simp only [Job.rank]; omega) hp trivial
    have hl := g1.on.left
    have g2 := (go_good f (.repL (go s f .term σ).1) (go s f .term σ).2 (by simp only [Job.rank]; omega) g1.ok g1.lt).1
    refine ⟨Good.trans (n := (go s f .term σ).1) g1 g2, fun hne => ?_⟩
    exact Nat.lt_of_le_of_lt g2.on.left (a1 hne)
  | f + 1, .inr (.inr (.inr (.inr (.inr (.inl n))))), σ, h, hp, hn => by
    simp only [Job.rank] at h
    refine ⟨?_, trivial⟩
    unfold go
    split
    · next h2 =>
      obtain ⟨o1, hne⟩ := repPart_on n σ h2
      have hl := fwd_left hne
      have hpp : (repPart s n σ).2.parts = σ.parts := repPart_parts n σ
      have g2 : Good (s := s) _ (add (repPart s n σ).1 (repPart s n σ).2) := good_add (by rw [hpp]; exact hp) (repPart_ok _ _ _ (by rw [hpp]; exact hn))
      have h3 := (o1.trans g2.on).left
      exact Good.pre ((fwd_on hne).trans o1) hpp (Good.trans (n := 0) (τ := (add (repPart s n σ).1 (repPart s n σ).2).2) ⟨g2.on, g2.ok, g2.grow, Nat.lt_of_le_of_lt (Nat.zero_le _) g2.lt⟩ (go_good f (.repL _) _ (by simp only [Job.rank]; omega) g2.ok g2.lt).1)
    · exact ⟨On.refl s σ, hp, ⟨[], by simp⟩, hn⟩
  | f + 1, .inr (.inr (.inr (.inr (.inr (.inr ()))))), σ, h, hp, _ => by
    simp only [Job.rank] at h
    unfold go
    split
    · next h2 =>
      have hne : next s σ ≠ -1 := by rw [h2]; decide
      have hl := opened_left hne
      have g1 := (go_good f .alt (opened σ) (by simp only [Job.rank]; omega) hp trivial).1
      refine ⟨Good.pre (opened_on hne) rfl ⟨g1.on.trans (closed_on _), by rw [closed_parts]; exact g1.ok, by rw [closed_parts]; exact g1.grow, by rw [closed_parts]; exact g1.lt⟩, fun _ => ?_⟩
      exact Nat.lt_of_le_of_lt (g1.on.trans (closed_on _)).left hl
    · have g2 : Good (s := s) _ (add (leaf s σ).1 (leaf s σ).2) := good_add (by rw [leaf_parts]; exact hp) (leaf_ok _ _)
      exact ⟨Good.pre (leaf_on σ) (leaf_parts σ) g2, fun hne => leaf_adv σ hne⟩
end Go.Proofs.Ytjmkkkfloalliab.Q
