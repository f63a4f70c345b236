import Derived.Test.YtjmkkkfloalliabFH
-- what a pattern that is written out takes: paths from place to place
namespace Go.Proofs.Ytjmkkkfloalliab.Q
set_option linter.unusedVariables false

abbrev Lang : Type := List UInt8 → Prop
def Cat (A B : Lang) : Lang := fun u => ∃ x y, u = x ++ y ∧ A x ∧ B y
def Pow (A : Lang) : Nat → Lang
  | 0 => fun u => u = []
  | k + 1 => Cat A (Pow A k)
theorem pow_one {A : Lang} {u : List UInt8} : Pow A 1 u ↔ A u := by
  constructor
  · rintro ⟨x, y, rfl, h, g⟩
    have g2 : y = [] := g
    subst g2
    simpa using h
  · intro h
    exact ⟨u, [], by simp, h, rfl⟩
theorem pow_add {A : Lang} : ∀ {a b : Nat} {u : List UInt8}, Pow A (a + b) u ↔ Cat (Pow A a) (Pow A b) u
  | 0, b, u => by
    rw [Nat.zero_add]
    constructor
    · intro h
      exact ⟨[], u, rfl, rfl, h⟩
    · rintro ⟨x, y, rfl, h, g⟩
      have h2 : x = [] := h
      subst h2
      exact g
  | a + 1, b, u => by
    rw [show a + 1 + b = (a + b) + 1 by omega]
    constructor
    · rintro ⟨x, y, rfl, h, g⟩
      obtain ⟨x2, y2, rfl, h2, g2⟩ := pow_add.1 g
      exact ⟨x ++ x2, y2, by simp, ⟨x, x2, rfl, h, h2⟩, g2⟩
    · rintro ⟨x, y, rfl, ⟨x2, y2, rfl, h2, g2⟩, g⟩
      exact ⟨x2, y2 ++ y, by simp, h2, pow_add.2 ⟨y2, y, rfl, g2, g⟩⟩
theorem pow_nil {A : Lang} (h : A []) : ∀ k, Pow A k []
  | 0 => rfl
  | k + 1 => ⟨[], [], rfl, h, pow_nil h k⟩

/-- a path that reads u, from place i to place j -/
def Path (E : Nat → Nat → Prop) (T : Nat → UInt8 → Prop) : List UInt8 → Nat → Nat → Prop
  | [], _, _ => False
  | c :: u, i, j => T i c ∧ ((u = [] ∧ i = j) ∨ ∃ k, E i k ∧ Path E T u k j)
section
variable {E E' : Nat → Nat → Prop} {T T' : Nat → UInt8 → Prop}
theorem path_congr (S : Nat → Prop) (hE : ∀ i, S i → ∀ k, E i k ↔ E' i k) (hT : ∀ i, S i → ∀ c, T i c ↔ T' i c) (hc : ∀ i, S i → ∀ k, E i k → S k) : ∀ u i j, S i → (Path E T u i j ↔ Path E' T' u i j)
  | [], i, j, _ => Iff.rfl
  | c :: u, i, j, hi => by
    unfold Path
    rw [hT i hi c]
    refine and_congr_right fun _ => or_congr Iff.rfl ⟨?_, ?_⟩
    · rintro ⟨k, h, g⟩
      exact ⟨k, (hE i hi k).1 h, (path_congr S hE hT hc u k j (hc i hi k h)).1 g⟩
    · rintro ⟨k, h, g⟩
      have h2 := (hE i hi k).2 h
      exact ⟨k, h2, (path_congr S hE hT hc u k j (hc i hi k h2)).2 g⟩
theorem path_stay (S : Nat → Prop) (hc : ∀ i, S i → ∀ k, E i k → S k) : ∀ u i j, S i → Path E T u i j → S j
  | [], i, j, _, h => h.elim
  | c :: u, i, j, hi, ⟨_, h⟩ => by
    rcases h with ⟨_, e⟩ | ⟨k, h, g⟩
    · rw [← e]; exact hi
    · exact path_stay S hc u k j (hc i hi k h) g
theorem path_link (A B : Nat → Prop) : ∀ u i j, Path (fun i k => E i k ∨ (A i ∧ B k)) T u i j ↔ Path E T u i j ∨ ∃ x y k l, u = x ++ y ∧ Path E T x i k ∧ A k ∧ B l ∧ Path (fun i k => E i k ∨ (A i ∧ B k)) T y l j
  | [], i, j => by
    constructor
    · intro h; exact h.elim
    · rintro (h | ⟨x, y, k, l, h, g, _⟩)
      · exact h.elim
      · have : x = [] := by
          cases x with
          | nil => rfl
          | cons a b => cases h
        subst this
        exact g.elim
  | c :: u, i, j => by
    constructor
    · rintro ⟨h, ⟨e, e2⟩ | ⟨k, h2 | ⟨h2, h3⟩, g⟩⟩
      · exact .inl ⟨h, .inl ⟨e, e2⟩⟩
      · rcases (path_link A B u k j).1 g with g | ⟨x, y, k2, l, rfl, g1, g2⟩
        · exact .inl ⟨h, .inr ⟨k, h2, g⟩⟩
        · exact .inr ⟨c :: x, y, k2, l, rfl, ⟨h, .inr ⟨k, h2, g1⟩⟩, g2⟩
      · exact .inr ⟨[c], u, i, k, rfl, ⟨h, .inl ⟨rfl, rfl⟩⟩, h2, h3, g⟩
    · rintro (⟨h, ⟨e, e2⟩ | ⟨k, h2, g⟩⟩ | ⟨x, y, k, l, e, g, g2⟩)
      · exact ⟨h, .inl ⟨e, e2⟩⟩
      · exact ⟨h, .inr ⟨k, .inl h2, (path_link A B u k j).2 (.inl g)⟩⟩
      · cases x with
        | nil => exact g.elim
        | cons a x =>
          simp only [List.cons_append, List.cons.injEq] at e
          obtain ⟨rfl, rfl⟩ := e
          obtain ⟨h, ⟨e, e2⟩ | ⟨k2, h2, g3⟩⟩ := g
          · subst e; subst e2
            exact ⟨h, .inr ⟨l, .inr ⟨g2.1, g2.2.1⟩, g2.2.2⟩⟩
          · exact ⟨h, .inr ⟨k2, .inl h2, (path_link A B _ k2 j).2 (.inr ⟨x, y, k, l, rfl, g3, g2⟩)⟩⟩
/-- from a place that is come to, on -/
theorem path_swap : ∀ (u w : List UInt8) (j i k : Nat), Path E T u j i → Path E T w i k → ∃ v, Path E T (v ++ w) j k
  | [], _, _, _, _, h, _ => h.elim
  | c :: u, w, j, i, k, ⟨h1, h2⟩, g => by
    rcases h2 with ⟨_, rfl⟩ | ⟨k', h3, h4⟩
    · exact ⟨[], g⟩
    · obtain ⟨v, hv⟩ := path_swap u w k' i k h4 g
      refine ⟨c :: v, h1, .inr ⟨k', h3, hv⟩⟩
theorem path_tail : ∀ (v w : List UInt8) (j k : Nat), w ≠ [] → Path E T (v ++ w) j k → ∃ i, Path E T w i k
  | [], w, j, k, _, h => ⟨j, h⟩
  | c :: v, w, j, k, hw, ⟨h1, h2⟩ => by
    rcases h2 with ⟨e, _⟩ | ⟨k', h3, h4⟩
    · exact absurd (List.append_eq_nil_iff.1 e).2 hw
    · exact path_tail v w k' k hw h4
theorem path_cat (u w : List UInt8) : ∀ (j i l k : Nat), Path E T u j i → E i l → Path E T w l k → Path E T (u ++ w) j k := by
  induction u with
  | nil => intro j i l k h; exact h.elim
  | cons c u ih =>
    rintro j i l k ⟨h1, h2⟩ he g
    rcases h2 with ⟨rfl, rfl⟩ | ⟨k', h3, h4⟩
    · exact ⟨h1, .inr ⟨l, he, g⟩⟩
    · exact ⟨h1, .inr ⟨k', h3, ih k' i l k h4 he g⟩⟩
theorem path_mono (hE : ∀ i k, E i k → E' i k) : ∀ (u : List UInt8) (i j : Nat), Path E T u i j → Path E' T u i j
  | [], _, _, h => h.elim
  | c :: u, i, j, ⟨h1, h2⟩ => by
    rcases h2 with h2 | ⟨k, h3, h4⟩
    · exact ⟨h1, .inl h2⟩
    · exact ⟨h1, .inr ⟨k, hE i k h3, path_mono hE u k j h4⟩⟩
theorem path_ne {u : List UInt8} {i j : Nat} (h : Path E T u i j) : u ≠ [] := by
  cases u with
  | nil => exact h.elim
  | cons c u => exact List.cons_ne_nil _ _
end

/-- k may stand behind i -/
def Ed (q : Pat) (i k : Nat) : Prop := (q.ahead.getD k 0).testBit i = true
def Tk (q : Pat) (i : Nat) (c : UInt8) : Prop := (q.takes.getD c.toNat 0).testBit i = true
def Fresh (q : Pat) : Prop := ∀ k, q.size ≤ k → q.ahead.getD k 0 = 0
/-- q is p with places behind -/
structure Ext (p q : Pat) : Prop where
  size : p.size ≤ q.size
  ah : ∀ k, k < p.size → q.ahead.getD k 0 = p.ahead.getD k 0
  tk : ∀ c i, i < p.size → (q.takes.getD c 0).testBit i = (p.takes.getD c 0).testBit i
  new : ∀ k, p.size ≤ k → ∀ i, Ed q i k → p.size ≤ i
  fresh : Fresh q
/-- the places from lo on, from the first ones to the last, take A -/
structure Frag (lo : Nat) (q : Pat) (a : Span) (A : Lang) : Prop where
  fst : ∀ i, a.first.testBit i = true → lo ≤ i ∧ i < q.size
  lst : ∀ i, a.last.testBit i = true → lo ≤ i ∧ i < q.size
  emp : a.empty = true ↔ A []
  words : ∀ u, u ≠ [] → (A u ↔ ∃ i j, a.first.testBit i = true ∧ a.last.testBit j = true ∧ Path (Ed q) (Tk q) u i j)
theorem bit_lt {x n i : Nat} (h : x < 2 ^ n) (g : x.testBit i = true) : i < n := by
  rcases Nat.lt_or_ge i n with k | k
  · exact k
  · rw [Nat.testBit_lt_two_pow (Nat.lt_of_lt_of_le h (pow_le k))] at g
    cases g
theorem PatOk.ed {p : Pat} (h : PatOk p) {i k : Nat} (g : Ed p i k) : i < p.size := bit_lt (h.a k) g
theorem PatOk.tk {p : Pat} (h : PatOk p) {i : Nat} {c : UInt8} (g : Tk p i c) : i < p.size := bit_lt (h.t _) g
theorem Fresh.ed {p : Pat} (h : Fresh p) {i k : Nat} (g : Ed p i k) : k < p.size := by
  rcases Nat.lt_or_ge k p.size with c | c
  · exact c
  · unfold Ed at g
    rw [h k c, Nat.zero_testBit] at g
    cases g
theorem Ext.refl {p : Pat} (h : Fresh p) : Ext p p := ⟨Nat.le_refl _, fun _ _ => rfl, fun _ _ _ => rfl, fun k hk i g => absurd (h.ed g) (by omega), h⟩
theorem Ext.trans {p q r : Pat} (h : Ext p q) (g : Ext q r) : Ext p r := by
  refine ⟨Nat.le_trans h.size g.size, fun k hk => ?_, fun c i hi => ?_, fun k hk i e => ?_, g.fresh⟩
  · rw [g.ah k (Nat.lt_of_lt_of_le hk h.size), h.ah k hk]
  · rw [g.tk c i (Nat.lt_of_lt_of_le hi h.size), h.tk c i hi]
  · rcases Nat.lt_or_ge k q.size with c | c
    · refine h.new k hk i ?_
      unfold Ed at e ⊢
      rw [g.ah k c] at e
      exact e
    · exact Nat.le_trans h.size (g.new k c i e)
theorem Ext.path {p q : Pat} (h : Ext p q) (hp : Fresh p) (u : List UInt8) (i j : Nat) (hi : i < p.size) : Path (Ed p) (Tk p) u i j ↔ Path (Ed q) (Tk q) u i j := by
  refine path_congr (fun i => i < p.size) (fun i hi k => ?_) (fun i hi c => ?_) (fun i hi k g => hp.ed g) u i j hi
  · constructor
    · intro g
      have := hp.ed g
      unfold Ed at g ⊢
      rw [h.ah k this]; exact g
    · intro g
      rcases Nat.lt_or_ge k p.size with c | c
      · unfold Ed at g ⊢
        rw [h.ah k c] at g; exact g
      · have := h.new k c i g
        omega
  · unfold Tk
    rw [h.tk _ i hi]
theorem Frag.ext {lo : Nat} {p q : Pat} {a : Span} {A : Lang} (h : Frag lo p a A) (g : Ext p q) (hp : Fresh p) : Frag lo q a A := by
  refine ⟨fun i k => ⟨(h.fst i k).1, Nat.lt_of_lt_of_le (h.fst i k).2 g.size⟩, fun i k => ⟨(h.lst i k).1, Nat.lt_of_lt_of_le (h.lst i k).2 g.size⟩, h.emp, fun u hu => ?_⟩
  rw [h.words u hu]
  constructor
  · rintro ⟨i, j, a1, a2, a3⟩
    exact ⟨i, j, a1, a2, (g.path hp u i j (h.fst i a1).2).1 a3⟩
  · rintro ⟨i, j, a1, a2, a3⟩
    exact ⟨i, j, a1, a2, (g.path hp u i j (h.fst i a1).2).2 a3⟩
theorem Frag.iff {lo : Nat} {p : Pat} {a : Span} {A B : Lang} (h : Frag lo p a A) (e : ∀ u, A u ↔ B u) : Frag lo p a B :=
  ⟨h.fst, h.lst, h.emp.trans (e []), fun u hu => (e u).symm.trans (h.words u hu)⟩
theorem Frag.opt {lo : Nat} {p : Pat} {a : Span} {A : Lang} (h : Frag lo p a A) (b : Bool) : Frag lo p { a with empty := b || a.empty } (fun u => A u ∨ (b = true ∧ u = [])) := by
  refine ⟨h.fst, h.lst, ?_, fun u hu => ?_⟩
  · simp only [Bool.or_eq_true, h.emp]
    constructor
    · rintro (e | e)
      · exact .inr ⟨e, trivial⟩
      · exact .inl e
    · rintro (e | ⟨e, _⟩)
      · exact .inr e
      · exact .inl e
  · rw [← h.words u hu]
    constructor
    · rintro (e | ⟨_, e⟩)
      · exact e
      · exact absurd e hu
    · exact .inl
/-- every place is come to -/
def Rch (lo : Nat) (q : Pat) (a : Span) : Prop := ∀ i, lo ≤ i → i < q.size → ∃ u j, a.first.testBit j = true ∧ Path (Ed q) (Tk q) u j i
/-! link -/
theorem link_ed {q : Pat} {x y : Nat} (hq : PatOk q) (hy : ∀ k, y.testBit k = true → k < q.size) (i k : Nat) : Ed (link x y q) i k ↔ (Ed q i k ∨ (x.testBit i = true ∧ y.testBit k = true)) := by
  unfold Ed link linkTo
  simp only
  rw [getD_tab]
  have hs := hq.size
  by_cases hk : k < 49
  · rw [if_pos hk]
    by_cases h : y.testBit k = true
    · rw [if_pos ⟨hy k h, h⟩, Nat.testBit_or, Bool.or_eq_true, h]
      simp
    · rw [if_neg (fun g => h g.2)]
      simp [h]
  · rw [if_neg hk, Nat.zero_testBit]
    have h1 : q.ahead.getD k 0 = 0 := by
      rw [List.getD_eq_getElem?_getD, List.getElem?_eq_none (by rw [hq.alen]; omega)]; rfl
    rw [h1, Nat.zero_testBit]
    constructor
    · intro h; cases h
    · rintro (h | ⟨_, h⟩)
      · cases h
      · have := hy k h; omega
theorem link_tk {q : Pat} {x y : Nat} (i : Nat) (c : UInt8) : Tk (link x y q) i c ↔ Tk q i c := Iff.rfl
theorem link_ext {p q : Pat} {x y : Nat} (h : Ext p q) (hq : PatOk q) (hx : ∀ i, x.testBit i = true → p.size ≤ i) (hy : ∀ k, y.testBit k = true → p.size ≤ k ∧ k < q.size) : Ext p (link x y q) := by
  have key : ∀ k, y.testBit k = false → (link x y q).ahead.getD k 0 = q.ahead.getD k 0 := by
    intro k hk
    unfold link linkTo
    simp only
    rw [getD_tab]
    split
    · rw [if_neg (fun g => by rw [hk] at g; cases g.2)]
    · rw [List.getD_eq_getElem?_getD, List.getElem?_eq_none (by rw [hq.alen]; omega)]; rfl
  have no : ∀ k, ¬ (p.size ≤ k ∧ k < q.size) → y.testBit k = false := by
    intro k hk
    cases e : y.testBit k with
    | false => rfl
    | true => exact absurd (hy k e) hk
  refine ⟨h.size, fun k hk => ?_, h.tk, fun k hk i e => ?_, fun k hk => ?_⟩
  · rw [key k (no k (by omega))]; exact h.ah k hk
  · rcases (link_ed hq (fun k g => (hy k g).2) i k).1 e with e | ⟨e, _⟩
    · exact h.new k hk i e
    · exact hx i e
  · rw [key k (no k (by have : q.size ≤ k := hk; omega))]; exact h.fresh k hk
theorem join_first (a b : Span) (p : Pat) (i : Nat) : (join a b p).1.first.testBit i = true ↔ (a.first.testBit i = true ∨ (a.empty = true ∧ b.first.testBit i = true)) := by
  unfold join
  simp only
  cases a.empty <;> simp [Nat.testBit_or]
theorem join_last (a b : Span) (p : Pat) (i : Nat) : (join a b p).1.last.testBit i = true ↔ (b.last.testBit i = true ∨ (b.empty = true ∧ a.last.testBit i = true)) := by
  unfold join
  simp only
  cases b.empty <;> simp [Nat.testBit_or]

/-- one behind the other -/
theorem frag_join {p q r : Pat} {a b : Span} {A B : Lang} {lo : Nat} (hq : PatOk q) (hr : PatOk r) (fq : Fresh q) (hlo : lo ≤ q.size) (e2 : Ext q r) (ha : Frag lo q a A) (hb : Frag q.size r b B) :
    Frag lo (join a b r).2 (join a b r).1 (Cat A B) := by
  have ha2 := ha.ext e2 fq
  have hed : ∀ i k, Ed (join a b r).2 i k ↔ (Ed r i k ∨ (a.last.testBit i = true ∧ b.first.testBit k = true)) := link_ed hr (fun k g => (hb.fst k g).2)
  have hpath : ∀ u i j, Path (Ed (join a b r).2) (Tk (join a b r).2) u i j ↔ Path (fun i k => Ed r i k ∨ (a.last.testBit i = true ∧ b.first.testBit k = true)) (Tk r) u i j :=
    fun u i j => path_congr (fun _ => True) (fun i _ k => hed i k) (fun i _ c => Iff.rfl) (fun _ _ _ _ => trivial) u i j trivial
  -- from the later places one never comes back
  have up : ∀ i, q.size ≤ i → ∀ k, Ed r i k → q.size ≤ k := by
    intro i hi k g
    rcases Nat.lt_or_ge k q.size with c | c
    · unfold Ed at g
      rw [e2.ah k c] at g
      have := hq.ed (i := i) (k := k) g
      omega
    · exact c
  have down : ∀ i, i < q.size → ∀ k, Ed r i k → k < q.size := by
    intro i hi k g
    rcases Nat.lt_or_ge k q.size with c | c
    · exact c
    · have := e2.new k c i g
      omega
  have late : ∀ u i j, q.size ≤ i → (Path (fun i k => Ed r i k ∨ (a.last.testBit i = true ∧ b.first.testBit k = true)) (Tk r) u i j ↔ Path (Ed r) (Tk r) u i j) := by
    intro u i j hi
    constructor
    · intro h
      rcases (path_link _ _ u i j).1 h with h | ⟨x, y, k, l, _, g, g2, _⟩
      · exact h
      · have := path_stay (fun i => q.size ≤ i) up x i k hi g
        have := (ha.lst k g2).2
        omega
    · intro h
      exact (path_link _ _ u i j).2 (.inl h)
  have hsz : (join a b r).2.size = r.size := rfl
  refine ⟨fun i h => ?_, fun i h => ?_, ?_, fun u hu => ?_⟩
  · rw [hsz]
    rcases (join_first a b r i).1 h with h | ⟨_, h⟩
    · exact ha2.fst i h
    · exact ⟨Nat.le_trans hlo (hb.fst i h).1, (hb.fst i h).2⟩
  · rw [hsz]
    rcases (join_last a b r i).1 h with h | ⟨_, h⟩
    · exact ⟨Nat.le_trans hlo (hb.lst i h).1, (hb.lst i h).2⟩
    · exact ha2.lst i h
  · show (a.empty && b.empty) = true ↔ _
    rw [Bool.and_eq_true, ha.emp, hb.emp]
    constructor
    · rintro ⟨h, g⟩; exact ⟨[], [], rfl, h, g⟩
    · rintro ⟨x, y, e, h, g⟩
      have := List.append_eq_nil_iff.1 e.symm
      rw [this.1] at h
      rw [this.2] at g
      exact ⟨h, g⟩
  · constructor
    · rintro ⟨x, y, rfl, h, g⟩
      by_cases hx : x = []
      · subst hx
        have hy : y ≠ [] := by simpa using hu
        obtain ⟨i, j, g1, g2, g3⟩ := (hb.words y hy).1 g
        exact ⟨i, j, (join_first a b r i).2 (.inr ⟨ha.emp.2 h, g1⟩), (join_last a b r j).2 (.inl g2), (hpath _ _ _).2 ((late _ i j (hb.fst i g1).1).2 g3)⟩
      · obtain ⟨i, j, h1, h2, h3⟩ := (ha2.words x hx).1 h
        by_cases hy : y = []
        · subst hy
          refine ⟨i, j, (join_first a b r i).2 (.inl h1), (join_last a b r j).2 (.inr ⟨hb.emp.2 g, h2⟩), (hpath _ _ _).2 ((path_link _ _ _ i j).2 (.inl ?_))⟩
          simpa using h3
        · obtain ⟨k, l, g1, g2, g3⟩ := (hb.words y hy).1 g
          exact ⟨i, l, (join_first a b r i).2 (.inl h1), (join_last a b r l).2 (.inl g2), (hpath _ _ _).2 ((path_link _ _ _ i l).2 (.inr ⟨x, y, j, k, rfl, h3, h2, g1, (late _ k l (hb.fst k g1).1).2 g3⟩))⟩
    · rintro ⟨i, j, h1, h2, h3⟩
      have h3 := (hpath _ _ _).1 h3
      rcases (join_first a b r i).1 h1 with h1 | ⟨he, h1⟩
      · rcases (path_link _ _ u i j).1 h3 with h3 | ⟨x, y, k, l, rfl, g1, g2, g3, g4⟩
        · have hj := path_stay (fun i => i < q.size) down u i j (ha.fst i h1).2 h3
          rcases (join_last a b r j).1 h2 with h2 | ⟨he, h2⟩
          · have := (hb.lst j h2).1
            have hj2 : j < q.size := hj
            omega
          · exact ⟨u, [], by simp, (ha2.words u hu).2 ⟨i, j, h1, h2, h3⟩, hb.emp.1 he⟩
        · have g4 := (late y l j (hb.fst l g3).1).1 g4
          have hj : q.size ≤ j := path_stay (fun i => q.size ≤ i) up y l j (hb.fst l g3).1 g4
          rcases (join_last a b r j).1 h2 with h2 | ⟨he, h2⟩
          · exact ⟨x, y, rfl, (ha2.words x (path_ne g1)).2 ⟨i, k, h1, g2, g1⟩, (hb.words y (path_ne g4)).2 ⟨l, j, g3, h2, g4⟩⟩
          · have := (ha.lst j h2).2
            omega
      · have h3 := (late u i j (hb.fst i h1).1).1 h3
        have hj : q.size ≤ j := path_stay (fun i => q.size ≤ i) up u i j (hb.fst i h1).1 h3
        rcases (join_last a b r j).1 h2 with h2 | ⟨_, h2⟩
        · exact ⟨[], u, rfl, ha.emp.1 he, (hb.words u hu).2 ⟨i, j, h1, h2, h3⟩⟩
        · have := (ha.lst j h2).2
          omega
/-- one or the other -/
theorem frag_either {q r : Pat} {a b : Span} {A B : Lang} {lo : Nat} (hq : PatOk q) (fq : Fresh q) (hlo : lo ≤ q.size) (e2 : Ext q r) (ha : Frag lo q a A) (hb : Frag q.size r b B) :
    Frag lo r (either a b) (fun u => A u ∨ B u) := by
  have ha2 := ha.ext e2 fq
  have up : ∀ i, q.size ≤ i → ∀ k, Ed r i k → q.size ≤ k := by
    intro i hi k g
    rcases Nat.lt_or_ge k q.size with c | c
    · unfold Ed at g
      rw [e2.ah k c] at g
      have := hq.ed (i := i) (k := k) g
      omega
    · exact c
  have down : ∀ i, i < q.size → ∀ k, Ed r i k → k < q.size := by
    intro i hi k g
    rcases Nat.lt_or_ge k q.size with c | c
    · exact c
    · have := e2.new k c i g
      omega
  have f1 : ∀ i, (either a b).first.testBit i = true ↔ (a.first.testBit i = true ∨ b.first.testBit i = true) := fun i => by simp [either, Nat.testBit_or]
  have f2 : ∀ i, (either a b).last.testBit i = true ↔ (a.last.testBit i = true ∨ b.last.testBit i = true) := fun i => by simp [either, Nat.testBit_or]
  refine ⟨fun i h => ?_, fun i h => ?_, ?_, fun u hu => ?_⟩
  · rcases (f1 i).1 h with h | h
    · exact ha2.fst i h
    · exact ⟨Nat.le_trans hlo (hb.fst i h).1, (hb.fst i h).2⟩
  · rcases (f2 i).1 h with h | h
    · exact ha2.lst i h
    · exact ⟨Nat.le_trans hlo (hb.lst i h).1, (hb.lst i h).2⟩
  · show (a.empty || b.empty) = true ↔ _
    rw [Bool.or_eq_true, ha.emp, hb.emp]
  · rw [ha2.words u hu, hb.words u hu]
    constructor
    · rintro (⟨i, j, h1, h2, h3⟩ | ⟨i, j, h1, h2, h3⟩)
      · exact ⟨i, j, (f1 i).2 (.inl h1), (f2 j).2 (.inl h2), h3⟩
      · exact ⟨i, j, (f1 i).2 (.inr h1), (f2 j).2 (.inr h2), h3⟩
    · rintro ⟨i, j, h1, h2, h3⟩
      rcases (f1 i).1 h1 with h1 | h1
      · have hj : j < q.size := path_stay (fun i => i < q.size) down u i j (ha.fst i h1).2 h3
        rcases (f2 j).1 h2 with h2 | h2
        · exact .inl ⟨i, j, h1, h2, h3⟩
        · have := (hb.lst j h2).1
          omega
      · have hj : q.size ≤ j := path_stay (fun i => q.size ≤ i) up u i j (hb.fst i h1).1 h3
        rcases (f2 j).1 h2 with h2 | h2
        · have := (ha.lst j h2).2
          omega
        · exact .inr ⟨i, j, h1, h2, h3⟩
/-- once or more often -/
theorem frag_loop {q : Pat} {a : Span} {A : Lang} {lo : Nat} (hq : PatOk q) (ha : Frag lo q a A) :
    Frag lo (link a.last a.first q) a (fun u => (u = [] ∧ A []) ∨ (u ≠ [] ∧ ∃ m, 1 ≤ m ∧ Pow A m u)) := by
  have hed : ∀ i k, Ed (link a.last a.first q) i k ↔ (Ed q i k ∨ (a.last.testBit i = true ∧ a.first.testBit k = true)) := link_ed hq (fun k g => (ha.fst k g).2)
  have hpath : ∀ u i j, Path (Ed (link a.last a.first q)) (Tk (link a.last a.first q)) u i j ↔ Path (fun i k => Ed q i k ∨ (a.last.testBit i = true ∧ a.first.testBit k = true)) (Tk q) u i j :=
    fun u i j => path_congr (fun _ => True) (fun i _ k => hed i k) (fun i _ c => Iff.rfl) (fun _ _ _ _ => trivial) u i j trivial
  refine ⟨ha.fst, ha.lst, ?_, fun u hu => ?_⟩
  · rw [ha.emp]
    constructor
    · intro h; exact .inl ⟨rfl, h⟩
    · rintro (⟨_, h⟩ | ⟨h, _⟩)
      · exact h
      · exact absurd rfl h
  · have there : ∀ m v, v ≠ [] → Pow A m v → ∃ i j, a.first.testBit i = true ∧ a.last.testBit j = true ∧ Path (fun i k => Ed q i k ∨ (a.last.testBit i = true ∧ a.first.testBit k = true)) (Tk q) v i j := by
      intro m
      induction m with
      | zero => intro v hv h; exact absurd h hv
      | succ m ih =>
        rintro v hv ⟨x, y, rfl, h, g⟩
        by_cases hx : x = []
        · subst hx
          exact ih y (by simpa using hv) g
        · obtain ⟨i, j, h1, h2, h3⟩ := (ha.words x hx).1 h
          by_cases hy : y = []
          · subst hy
            exact ⟨i, j, h1, h2, (path_link _ _ _ i j).2 (.inl (by simpa using h3))⟩
          · obtain ⟨k, l, g1, g2, g3⟩ := ih y hy g
            exact ⟨i, l, h1, g2, (path_link _ _ _ i l).2 (.inr ⟨x, y, j, k, rfl, h3, h2, g1, g3⟩)⟩
    have back : ∀ n v, v.length ≤ n → ∀ i j, a.first.testBit i = true → a.last.testBit j = true → Path (fun i k => Ed q i k ∨ (a.last.testBit i = true ∧ a.first.testBit k = true)) (Tk q) v i j → ∃ m, 1 ≤ m ∧ Pow A m v := by
      intro n
      induction n with
      | zero =>
        intro v hv i j _ _ h
        exact absurd (List.length_eq_zero_iff.1 (by omega)) (path_ne h)
      | succ n ih =>
        intro v hv i j h1 h2 h3
        rcases (path_link _ _ v i j).1 h3 with h3 | ⟨x, y, k, l, rfl, g1, g2, g3, g4⟩
        · exact ⟨1, Nat.le_refl _, pow_one.2 ((ha.words v (path_ne h3)).2 ⟨i, j, h1, h2, h3⟩)⟩
        · have hx := path_ne g1
          have hl : 0 < x.length := List.length_pos_iff.2 hx
          obtain ⟨m, _, hm⟩ := ih y (by simp at hv; omega) l j g3 h2 g4
          exact ⟨m + 1, by omega, x, y, rfl, (ha.words x hx).2 ⟨i, k, h1, g2, g1⟩, hm⟩
    constructor
    · rintro (⟨h, _⟩ | ⟨_, m, _, h⟩)
      · exact absurd h hu
      · obtain ⟨i, j, h1, h2, h3⟩ := there m u hu h
        exact ⟨i, j, h1, h2, (hpath _ _ _).2 h3⟩
    · rintro ⟨i, j, h1, h2, h3⟩
      exact .inr ⟨hu, back u.length u (Nat.le_refl _) i j h1 h2 ((hpath _ _ _).1 h3)⟩
theorem ext_path {p q : Pat} (h : Ext p q) (hp : Fresh p) {u : List UInt8} {i j : Nat} (hi : i < p.size) (g : Path (Ed p) (Tk p) u i j) : Path (Ed q) (Tk q) u i j := (h.path hp u i j hi).1 g
theorem rch_join {q r : Pat} {a b : Span} {A B : Lang} {lo : Nat} (hr : PatOk r) (fq : Fresh q) (e2 : Ext q r) (ha : Frag lo q a A) (hb : Frag q.size r b B) (ra : Rch lo q a) (rb : Rch q.size r b) (hA : ∃ u, A u) : Rch lo (join a b r).2 (join a b r).1 := by
  have hed : ∀ i k, Ed (join a b r).2 i k ↔ (Ed r i k ∨ (a.last.testBit i = true ∧ b.first.testBit k = true)) := link_ed hr (fun k g => (hb.fst k g).2)
  have up : ∀ u i j, Path (Ed r) (Tk r) u i j → Path (Ed (join a b r).2) (Tk (join a b r).2) u i j := fun u i j h => path_mono (T := Tk r) (fun i k g => (hed i k).2 (.inl g)) u i j h
  intro i h1 h2
  have h2 : i < r.size := h2
  rcases Nat.lt_or_ge i q.size with g | g
  · obtain ⟨u, j, hj, hp⟩ := ra i h1 g
    exact ⟨u, j, (join_first a b r j).2 (.inl hj), up _ _ _ (ext_path e2 fq (ha.fst j hj).2 hp)⟩
  · obtain ⟨u, j, hj, hp⟩ := rb i g h2
    by_cases he : a.empty = true
    · exact ⟨u, j, (join_first a b r j).2 (.inr ⟨he, hj⟩), up _ _ _ hp⟩
    · obtain ⟨v, hv⟩ := hA
      have hv0 : v ≠ [] := fun e => he (ha.emp.2 (by rw [← e]; exact hv))
      obtain ⟨i1, j1, g1, g2, g3⟩ := (ha.words v hv0).1 hv
      refine ⟨v ++ u, i1, (join_first a b r i1).2 (.inl g1), path_cat v u i1 j1 j i (up _ _ _ (ext_path e2 fq (ha.fst i1 g1).2 g3)) ((hed j1 j).2 (.inr ⟨g2, hj⟩)) (up _ _ _ hp)⟩
theorem rch_either {q r : Pat} {a b : Span} {A : Lang} {lo : Nat} (fq : Fresh q) (e2 : Ext q r) (ha : Frag lo q a A) (ra : Rch lo q a) (rb : Rch q.size r b) : Rch lo r (either a b) := by
  have f1 : ∀ i, (either a b).first.testBit i = true ↔ (a.first.testBit i = true ∨ b.first.testBit i = true) := fun i => by simp [either, Nat.testBit_or]
  intro i h1 h2
  rcases Nat.lt_or_ge i q.size with g | g
  · obtain ⟨u, j, hj, hp⟩ := ra i h1 g
    exact ⟨u, j, (f1 j).2 (.inl hj), ext_path e2 fq (ha.fst j hj).2 hp⟩
  · obtain ⟨u, j, hj, hp⟩ := rb i g h2
    exact ⟨u, j, (f1 j).2 (.inr hj), hp⟩
theorem rch_loop {q : Pat} {a : Span} {A : Lang} {lo : Nat} (hq : PatOk q) (ha : Frag lo q a A) (ra : Rch lo q a) : Rch lo (link a.last a.first q) a := by
  have hed : ∀ i k, Ed (link a.last a.first q) i k ↔ (Ed q i k ∨ (a.last.testBit i = true ∧ a.first.testBit k = true)) := link_ed hq (fun k g => (ha.fst k g).2)
  intro i h1 h2
  obtain ⟨u, j, hj, hp⟩ := ra i h1 h2
  exact ⟨u, j, hj, path_mono (T := Tk q) (fun i k g => (hed i k).2 (.inl g)) u j i hp⟩
end Go.Proofs.Ytjmkkkfloalliab.Q
