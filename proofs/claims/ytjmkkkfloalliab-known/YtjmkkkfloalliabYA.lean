import Derived.Test.YtjmkkkfloalliabY0
-- the program's writing out of a pattern, as plain mathematics
namespace Go.Proofs.Ytjmkkkfloalliab.Q
set_option linter.unusedVariables false

/-- a pattern written out -/
structure Pat where
  size : Nat
  ahead : List Nat
  takes : List Nat
  begins : Nat
structure Span where
  first : Nat
  last : Nat
  empty : Bool

/-- the list of n values -/
def tab (n : Nat) (g : Nat → Nat) : List Nat := (List.range n).map g
theorem tab_len (n : Nat) (g : Nat → Nat) : (tab n g).length = n := by simp [tab]
theorem tab_at (n : Nat) (g : Nat → Nat) (i : Nat) (h : i < n) : (tab n g).getD i 0 = g i := by
  rw [List.getD_eq_getElem?_getD]
  simp [tab, List.getElem?_map, List.getElem?_range h]
theorem tab_eq (n : Nat) (l : List Nat) (h : l.length = n) : tab n (fun i => l.getD i 0) = l := by
  apply List.ext_getElem?
  intro i
  rcases Nat.lt_or_ge i n with hi | hi
  · simp [tab, List.getElem?_map, List.getElem?_range hi, List.getD_eq_getElem?_getD, List.getElem?_eq_getElem (show i < l.length by omega)]
  · rw [List.getElem?_eq_none (by simpa [tab] using hi), List.getElem?_eq_none (by omega)]
theorem tab_set (n : Nat) (g : Nat → Nat) (i v : Nat) : (tab n g).set i v = tab n (fun j => if j = i then v else g j) := by
  apply List.ext_getElem?
  intro j
  rw [List.getElem?_set]
  rcases Nat.lt_or_ge j n with hj | hj
  · by_cases h : i = j
    · subst h
      simp [tab, hj]
    · rw [if_neg h]
      have : ¬ j = i := fun e => h e.symm
      simp [tab, List.getElem?_map, List.getElem?_range hj, this]
  · rw [List.getElem?_eq_none (show (tab n fun j => if j = i then v else g j).length ≤ j by rw [tab_len]; exact hj)]
    split
    · rw [if_neg (by rw [tab_len]; omega)]
    · rw [List.getElem?_eq_none (by rw [tab_len]; exact hj)]
theorem tab_congr (n : Nat) (g h : Nat → Nat) (e : ∀ i, i < n → g i = h i) : tab n g = tab n h := by
  unfold tab
  apply List.map_congr_left
  intro i hi
  exact e i (List.mem_range.1 hi)

/-- the first k places are linked -/
def linkTo (k : Nat) (from_ to_ : Nat) (p : Pat) : Pat :=
  { p with ahead := tab 49 fun i => if i < k ∧ to_.testBit i = true then p.ahead.getD i 0 ||| from_ else p.ahead.getD i 0 }
def link (from_ to_ : Nat) (p : Pat) : Pat := linkTo p.size from_ to_ p
def takeTo (k : Nat) (ins : List Bool) (place : Nat) (p : Pat) : Pat :=
  { p with takes := tab 256 fun i => if i < k ∧ ins.getD i false = true then p.takes.getD i 0 ||| place else p.takes.getD i 0 }
def layByte (ins : List Bool) (p : Pat) : Span × Pat :=
  (⟨2 ^ p.size, 2 ^ p.size, false⟩, { takeTo 256 ins (2 ^ p.size) p with size := p.size + 1 })
def join (a b : Span) (p : Pat) : Span × Pat :=
  (⟨if a.empty = true then a.first ||| b.first else a.first, if b.empty = true then b.last ||| a.last else b.last, a.empty && b.empty⟩, link a.last b.first p)
def either (a b : Span) : Span := ⟨a.first ||| b.first, a.last ||| b.last, a.empty || b.empty⟩
/-- copies number k to the last -/
def copies (rec : Pat → Span × Pat) (low : Nat) (endless : Bool) (n : Nat) : Nat → Span → Pat → Span × Pat
  | 0, all, p => (all, p)
  | d + 1, all, p =>
    let one : Span := { (rec p).1 with empty := decide (low < n - d) || (rec p).1.empty }
    let q : Pat := if endless = true ∧ d = 0 then link one.last one.first (rec p).2 else (rec p).2
    copies rec low endless n d (join all one q).1 (join all one q).2
def lay (ps : List Part) : Nat → Nat → Pat → Span × Pat
  | 0, _, p => (⟨0, 0, false⟩, p)
  | f + 1, n, p =>
    if (at_ ps n).places = 0 then (⟨0, 0, (at_ ps n).empty⟩, p)
    else if (at_ ps n).kind = 2 then
      join (lay ps f (at_ ps n).left p).1 (lay ps f (at_ ps n).right (lay ps f (at_ ps n).left p).2).1 (lay ps f (at_ ps n).right (lay ps f (at_ ps n).left p).2).2
    else if (at_ ps n).kind = 3 then
      (either (lay ps f (at_ ps n).left p).1 (lay ps f (at_ ps n).right (lay ps f (at_ ps n).left p).2).1, (lay ps f (at_ ps n).right (lay ps f (at_ ps n).left p).2).2)
    else if (at_ ps n).kind = 4 then copies (lay ps f (at_ ps n).left) (at_ ps n).low (at_ ps n).endless (at_ ps n).copies (at_ ps n).copies ⟨0, 0, true⟩ p
    else layByte (at_ ps n).ins p
def pat0 : Pat := ⟨1, List.replicate 49 0, List.replicate 256 0, 0⟩
def newPattern (ps : List Part) (top : Nat) : Pat :=
  { (lay ps (top + 1) top pat0).2 with begins := (lay ps (top + 1) top pat0).1.first, ahead := (lay ps (top + 1) top pat0).2.ahead.set 0 (lay ps (top + 1) top pat0).1.last }

/-- as it must be at every time -/
structure PatOk (p : Pat) : Prop where
  size : p.size ≤ 49
  pos : 1 ≤ p.size
  alen : p.ahead.length = 49
  tlen : p.takes.length = 256
  a : ∀ i, p.ahead.getD i 0 < 2 ^ p.size
  t : ∀ i, p.takes.getD i 0 < 2 ^ p.size
  b : p.begins < 2 ^ p.size
def SpanOk (p : Pat) (a : Span) : Prop := a.first < 2 ^ p.size ∧ a.last < 2 ^ p.size
theorem pow_le {a b : Nat} (h : a ≤ b) : 2 ^ a ≤ 2 ^ b := Nat.pow_le_pow_right (by decide) h
theorem SpanOk.mono {p q : Pat} {a : Span} (h : SpanOk p a) (hs : p.size ≤ q.size) : SpanOk q a :=
  ⟨Nat.lt_of_lt_of_le h.1 (pow_le hs), Nat.lt_of_lt_of_le h.2 (pow_le hs)⟩
theorem getD_tab (n : Nat) (g : Nat → Nat) (i : Nat) : (tab n g).getD i 0 = if i < n then g i else 0 := by
  split
  · next h => exact tab_at n g i h
  · next h => rw [List.getD_eq_getElem?_getD, List.getElem?_eq_none (by rw [tab_len]; omega)]; rfl
theorem linkTo_ok {p : Pat} (k from_ to_ : Nat) (h : PatOk p) (hf : from_ < 2 ^ p.size) : PatOk (linkTo k from_ to_ p) := by
  refine ⟨h.size, h.pos, tab_len _ _, h.tlen, fun i => ?_, h.t, h.b⟩
  simp only [linkTo]
  rw [getD_tab]
  have hp : 0 < 2 ^ p.size := Nat.pow_pos (by decide)
  split
  · split
    · exact Nat.or_lt_two_pow (h.a i) hf
    · exact h.a i
  · exact hp
theorem link_ok {p : Pat} (from_ to_ : Nat) (h : PatOk p) (hf : from_ < 2 ^ p.size) : PatOk (link from_ to_ p) := linkTo_ok _ _ _ h hf
theorem link_size (from_ to_ : Nat) (p : Pat) : (link from_ to_ p).size = p.size := rfl
theorem layByte_ok {p : Pat} (ins : List Bool) (h : PatOk p) (hs : p.size < 49) : PatOk (layByte ins p).2 ∧ SpanOk (layByte ins p).2 (layByte ins p).1 ∧ (layByte ins p).2.size = p.size + 1 := by
  have h1 : 2 ^ p.size < 2 ^ (p.size + 1) := Nat.pow_lt_pow_right (by decide) (by omega)
  have hp : 0 < 2 ^ p.size := Nat.pow_pos (by decide)
  refine ⟨⟨?_, ?_, h.alen, tab_len _ _, fun i => ?_, fun i => ?_, ?_⟩, ⟨h1, h1⟩, rfl⟩
  · show p.size + 1 ≤ 49; omega
  · show 1 ≤ p.size + 1; omega
  · exact Nat.lt_trans (h.a i) h1
  · simp only [layByte, takeTo]
    rw [getD_tab]
    split
    · split
      · exact Nat.or_lt_two_pow (Nat.lt_trans (h.t i) h1) h1
      · exact Nat.lt_trans (h.t i) h1
    · omega
  · exact Nat.lt_trans h.b h1
theorem join_ok {p : Pat} {a b : Span} (h : PatOk p) (ha : SpanOk p a) (hb : SpanOk p b) : PatOk (join a b p).2 ∧ SpanOk (join a b p).2 (join a b p).1 ∧ (join a b p).2.size = p.size := by
  refine ⟨link_ok _ _ h ha.2, ⟨?_, ?_⟩, rfl⟩
  · simp only [join, link_size]
    split
    · exact Nat.or_lt_two_pow ha.1 hb.1
    · exact ha.1
  · simp only [join, link_size]
    split
    · exact Nat.or_lt_two_pow hb.2 ha.2
    · exact hb.2
theorem either_ok {p : Pat} {a b : Span} (ha : SpanOk p a) (hb : SpanOk p b) : SpanOk p (either a b) := ⟨Nat.or_lt_two_pow ha.1 hb.1, Nat.or_lt_two_pow ha.2 hb.2⟩
/-- what a writing out of m places does -/
def Lays (m : Nat) (rec : Pat → Span × Pat) : Prop := ∀ p, PatOk p → p.size + m ≤ 49 → PatOk (rec p).2 ∧ SpanOk (rec p).2 (rec p).1 ∧ (rec p).2.size = p.size + m
theorem copies_ok {m : Nat} {rec : Pat → Span × Pat} (hr : Lays m rec) (low : Nat) (endless : Bool) (n : Nat) : ∀ (d : Nat) (all : Span) (p : Pat), PatOk p → SpanOk p all → p.size + m * d ≤ 49 →
    PatOk (copies rec low endless n d all p).2 ∧ SpanOk (copies rec low endless n d all p).2 (copies rec low endless n d all p).1 ∧ (copies rec low endless n d all p).2.size = p.size + m * d
  | 0, all, p, h, ha, hs => ⟨h, ha, by simp [copies]⟩
  | d + 1, all, p, h, ha, hs => by
    have e : m * (d + 1) = m + m * d := by rw [Nat.mul_succ]; omega
    obtain ⟨h1, h2, h3⟩ := hr p h (by omega)
    unfold copies
    simp only
    have key : ∀ q : Pat, PatOk q → q.size = (rec p).2.size → ∀ one : Span, SpanOk q one →
        PatOk (copies rec low endless n d (join all one q).1 (join all one q).2).2 ∧ SpanOk (copies rec low endless n d (join all one q).1 (join all one q).2).2 (copies rec low endless n d (join all one q).1 (join all one q).2).1 ∧
        (copies rec low endless n d (join all one q).1 (join all one q).2).2.size = p.size + m * (d + 1) := by
      intro q hq hqs one ho
      obtain ⟨j1, j2, j3⟩ := join_ok hq (ha.mono (by omega)) ho
      obtain ⟨g1, g2, g3⟩ := copies_ok hr low endless n d _ _ j1 j2 (by omega)
      exact ⟨g1, g2, by omega⟩
    refine key _ ?_ ?_ _ ?_
    · split
      · exact link_ok _ _ h1 h2.2
      · exact h1
    · split
      · rfl
      · rfl
    · split
      · exact h2
      · exact h2
theorem lay_ok {ps : List Part} (hps : PartsOk ps) : ∀ (f n : Nat), n < f → n < ps.length → Lays (at_ ps n).places (lay ps f n)
  | 0, _, h, _ => by omega
  | f + 1, n, hf, hn => by
    intro p h hs
    obtain ⟨k, e⟩ := hps.get n hn
    unfold lay
    by_cases h0 : (at_ ps n).places = 0
    · rw [if_pos h0]
      have hp : 0 < 2 ^ p.size := Nat.pow_pos (by decide)
      exact ⟨h, ⟨hp, hp⟩, by rw [h0]; rfl⟩
    rw [if_neg h0]
    have hz : ¬ (at_ ps n).kind = 0 := fun e => h0 (k.zero e)
    have hpl : (at_ ps n).places ≤ 48 := by have := h.pos; omega
    by_cases h2 : (at_ ps n).kind = 2
    · rw [if_pos h2]
      have ep : (at_ ps n).places = (at_ ps (at_ ps n).left).places + (at_ ps (at_ ps n).right).places := by
        have e2 := congrArg Part.places e
        simp only [fill, known, cut, h2] at e2
        simp at e2
        split at e2
        · omega
        · split at e2 <;> omega
      have hl := k.left (by omega)
      have hr := k.right (.inl h2)
      obtain ⟨a1, a2, a3⟩ := lay_ok hps f (at_ ps n).left (by omega) (by omega) p h (by omega)
      obtain ⟨b1, b2, b3⟩ := lay_ok hps f (at_ ps n).right (by omega) (by omega) _ a1 (by omega)
      obtain ⟨j1, j2, j3⟩ := join_ok b1 (a2.mono (by omega)) b2
      exact ⟨j1, j2, by omega⟩
    rw [if_neg h2]
    by_cases h3 : (at_ ps n).kind = 3
    · rw [if_pos h3]
      have ep : (at_ ps n).places = (at_ ps (at_ ps n).left).places + (at_ ps (at_ ps n).right).places := by
        have e2 := congrArg Part.places e
        simp only [fill, known, cut, h3] at e2
        simp at e2
        split at e2
        · omega
        · split at e2 <;> omega
      have hl := k.left (by omega)
      have hr := k.right (.inr h3)
      obtain ⟨a1, a2, a3⟩ := lay_ok hps f (at_ ps n).left (by omega) (by omega) p h (by omega)
      obtain ⟨b1, b2, b3⟩ := lay_ok hps f (at_ ps n).right (by omega) (by omega) _ a1 (by omega)
      exact ⟨b1, either_ok (SpanOk.mono a2 (by show (lay ps f (at_ ps n).left p).2.size ≤ (lay ps f (at_ ps n).right (lay ps f (at_ ps n).left p).2).2.size; omega)) b2, by show (lay ps f (at_ ps n).right (lay ps f (at_ ps n).left p).2).2.size = _; omega⟩
    rw [if_neg h3]
    by_cases h4 : (at_ ps n).kind = 4
    · rw [if_pos h4]
      have ep : (at_ ps n).places = (at_ ps (at_ ps n).left).places * (at_ ps n).copies := by
        have e2 := congrArg Part.places e
        simp only [fill, known, cut, h4] at e2
        simp at e2
        split at e2
        · omega
        · split at e2 <;> omega
      have hl := k.left (by omega)
      have hp : 0 < 2 ^ p.size := Nat.pow_pos (by decide)
      have := copies_ok (lay_ok hps f (at_ ps n).left (by omega) (by omega)) (at_ ps n).low (at_ ps n).endless (at_ ps n).copies (at_ ps n).copies ⟨0, 0, true⟩ p h ⟨hp, hp⟩ (by omega)
      rw [← ep] at this
      exact this
    rw [if_neg h4]
    have hk := k.kind
    have h1 : (at_ ps n).kind = 1 := by omega
    have ep : (at_ ps n).places = 1 := by
      have e2 := congrArg Part.places e
      simp only [fill, known, cut, h1] at e2
      simp at e2
      split at e2
      · omega
      · omega
    rw [ep]
    exact layByte_ok _ h (by omega)
theorem pat0_ok : PatOk pat0 := by
  refine ⟨by simp [pat0], by simp [pat0], List.length_replicate, List.length_replicate, fun i => ?_, fun i => ?_, by simp [pat0]⟩
  · simp only [pat0]
    rw [List.getD_eq_getElem?_getD, List.getElem?_replicate]
    split <;> simp
  · simp only [pat0]
    rw [List.getD_eq_getElem?_getD, List.getElem?_replicate]
    split <;> simp
theorem newPattern_ok {ps : List Part} (hps : PartsOk ps) (top : Nat) (ht : top < ps.length) (hp : (at_ ps top).places ≤ 48) : PatOk (newPattern ps top) ∧ (newPattern ps top).size = (at_ ps top).places + 1 := by
  obtain ⟨a1, a2, a3⟩ := lay_ok hps (top + 1) top (by omega) ht pat0 pat0_ok (by simp [pat0]; omega)
  refine ⟨⟨a1.size, a1.pos, by simp only [newPattern]; rw [List.length_set]; exact a1.alen, a1.tlen, fun i => ?_, a1.t, a2.1⟩, by simp only [newPattern]; rw [a3]; simp [pat0]; omega⟩
  simp only [newPattern]
  rw [List.getD_eq_getElem?_getD, List.getElem?_set]
  split
  · split
    · exact a2.2
    · exact Nat.pow_pos (by decide)
  · rw [← List.getD_eq_getElem?_getD]; exact a1.a i

/-- the places ahead, of the first k -/
def aheadTo (p : Pat) (s : Nat) : Nat → Nat
  | 0 => 0
  | k + 1 => if s.testBit k = true then aheadTo p s k ||| p.ahead.getD k 0 else aheadTo p s k
def aheadOf (p : Pat) (s c : Nat) : Nat := aheadTo p s p.size &&& p.takes.getD c 0
theorem aheadTo_lt {p : Pat} (h : PatOk p) (s : Nat) : ∀ k, aheadTo p s k < 2 ^ p.size
  | 0 => Nat.pow_pos (by decide)
  | k + 1 => by
    unfold aheadTo
    split
    · exact Nat.or_lt_two_pow (aheadTo_lt h s k) (h.a k)
    · exact aheadTo_lt h s k
theorem aheadOf_lt {p : Pat} (h : PatOk p) (s c : Nat) : aheadOf p s c < 2 ^ p.size := Nat.and_lt_two_pow _ (h.t c)
theorem lt64 {p : Pat} (h : PatOk p) {x : Nat} (hx : x < 2 ^ p.size) : x < 2 ^ 49 := Nat.lt_of_lt_of_le hx (pow_le h.size)
end Go.Proofs.Ytjmkkkfloalliab.Q
