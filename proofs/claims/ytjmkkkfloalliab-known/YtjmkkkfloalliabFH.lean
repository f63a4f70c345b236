import Derived.Test.YtjmkkkfloalliabFD
-- the empty text is never found; places rise
namespace Go.Proofs.Ytjmkkkfloalliab.Q
set_option linter.unusedVariables false

def Even (a : Span) : Prop := a.first.testBit 0 = false ∧ a.last.testBit 0 = false
theorem even_or {x y : Nat} (h : x.testBit 0 = false) (g : y.testBit 0 = false) : (x ||| y).testBit 0 = false := by rw [Nat.testBit_or, h, g]; rfl
theorem join_even {a b : Span} {p : Pat} (ha : Even a) (hb : Even b) : Even (join a b p).1 := by
  refine ⟨?_, ?_⟩
  · simp only [join]
    split
    · exact even_or ha.1 hb.1
    · exact ha.1
  · simp only [join]
    split
    · exact even_or hb.2 ha.2
    · exact hb.2
def EvenAll (rec : Pat → Span × Pat) : Prop := ∀ p, 1 ≤ p.size → Even (rec p).1 ∧ 1 ≤ (rec p).2.size
theorem copies_even {rec : Pat → Span × Pat} (hr : EvenAll rec) (low : Nat) (endless : Bool) (n : Nat) : ∀ (d : Nat) (all : Span) (p : Pat), Even all → 1 ≤ p.size → Even (copies rec low endless n d all p).1 ∧ 1 ≤ (copies rec low endless n d all p).2.size
  | 0, all, p, ha, hp => ⟨ha, hp⟩
  | d + 1, all, p, ha, hp => by
    obtain ⟨h1, h2⟩ := hr p hp
    unfold copies
    simp only
    refine copies_even hr low endless n d _ _ (join_even ha h1) ?_
    simp only [join, link_size]
    split
    · exact h2
    · exact h2
theorem lay_even (ps : List Part) : ∀ f n, EvenAll (lay ps f n)
  | 0, n => fun p hp => ⟨⟨by simp [lay], by simp [lay]⟩, hp⟩
  | f + 1, n => fun p hp => by
    unfold lay
    split
    · exact ⟨⟨Nat.zero_testBit 0, Nat.zero_testBit 0⟩, hp⟩
    · split
      · obtain ⟨a1, a2⟩ := lay_even ps f (at_ ps n).left p hp
        obtain ⟨b1, b2⟩ := lay_even ps f (at_ ps n).right _ a2
        exact ⟨join_even a1 b1, b2⟩
      · split
        · obtain ⟨a1, a2⟩ := lay_even ps f (at_ ps n).left p hp
          obtain ⟨b1, b2⟩ := lay_even ps f (at_ ps n).right _ a2
          exact ⟨⟨even_or a1.1 b1.1, even_or a1.2 b1.2⟩, b2⟩
        · split
          · exact copies_even (lay_even ps f _) _ _ _ _ _ _ ⟨Nat.zero_testBit 0, Nat.zero_testBit 0⟩ hp
          · have hz : (2 ^ p.size).testBit 0 = false := by rw [Nat.testBit_two_pow]; simp; omega
            exact ⟨⟨hz, hz⟩, by show 1 ≤ p.size + 1; omega⟩
theorem parse_even {s : List UInt8} {P : Pat} (h : parse s = .ok P) : acc P [] = false := by
  have key : P.begins.testBit 0 = false := by
    unfold parse at h
    split at h
    · cases h
    · split at h
      · cases h
      · split at h
        · cases h
        · split at h
          · cases h
          · cases h
            exact (lay_even _ _ _ pat0 (Nat.le_refl _)).1.1
  unfold acc
  have e : pl P [] &&& P.begins = 0 := by
    show 1 &&& P.begins = 0
    rw [Nat.and_comm, Nat.and_one_is_mod]
    rw [Nat.testBit_zero] at key
    have : ¬ P.begins % 2 = 1 := by simpa using key
    omega
  rw [e]; rfl
theorem hits_lt {t : List UInt8} {P : Pat} (h : acc P [] = false) : ∀ p, p ∈ hits t P → p < t.length := by
  intro p hp
  obtain ⟨h1, h2⟩ := List.mem_filter.1 hp
  have h1 := List.mem_range.1 h1
  rcases Nat.lt_or_ge p t.length with g | g
  · exact g
  · exfalso
    obtain ⟨u, a, b⟩ := (hit_iff t P p).1 h2
    rw [List.drop_of_length_le g] at a
    obtain ⟨y, e⟩ := (M.pre_iff u []).1 a
    rw [(List.append_eq_nil_iff.1 e.symm).1, h] at b
    cases b
theorem hits_rise (t : List UInt8) (P : Pat) : (hits t P).Pairwise (· < ·) := List.Pairwise.filter _ List.pairwise_lt_range
theorem hits_at {t : List UInt8} {P : Pat} {i : Nat} (hi : i < (hits t P).length) : (hits t P).getD i 0 ∈ hits t P := by
  rw [List.getD_eq_getElem?_getD, List.getElem?_eq_getElem hi]
  exact List.getElem_mem hi
theorem hits_step {t : List UInt8} {P : Pat} {i : Nat} (hi : i + 1 < (hits t P).length) : (hits t P).getD i 0 < (hits t P).getD (i + 1) 0 := by
  rw [List.getD_eq_getElem?_getD, List.getD_eq_getElem?_getD, List.getElem?_eq_getElem hi, List.getElem?_eq_getElem (by omega)]
  exact (List.pairwise_iff_getElem.1 (hits_rise t P)) i (i + 1) _ _ (by omega)
theorem mem_hits {t : List UInt8} {P : Pat} {p : Nat} : p ∈ hits t P ↔ p ≤ t.length ∧ ∃ u, M.pre u (t.drop p) = true ∧ acc P u = true := by
  unfold hits
  rw [List.mem_filter, hit_iff, List.mem_range]
  constructor
  · rintro ⟨a, b⟩; exact ⟨by omega, b⟩
  · rintro ⟨a, b⟩; exact ⟨by omega, b⟩
/-- lists that rise are known by their members -/
theorem rise_ext : ∀ {l m : List Nat}, l.Pairwise (· < ·) → m.Pairwise (· < ·) → (∀ x, x ∈ l ↔ x ∈ m) → l = m
  | [], [], _, _, _ => rfl
  | [], y :: m, _, _, h => absurd ((h y).2 List.mem_cons_self) (by simp)
  | x :: l, [], _, _, h => absurd ((h x).1 List.mem_cons_self) (by simp)
  | x :: l, y :: m, hl, hm, h => by
    have hl' := List.pairwise_cons.1 hl
    have hm' := List.pairwise_cons.1 hm
    have e : x = y := by
      rcases List.mem_cons.1 ((h x).1 List.mem_cons_self) with e | e
      · exact e
      · rcases List.mem_cons.1 ((h y).2 List.mem_cons_self) with e2 | e2
        · exact e2.symm
        · have := hl'.1 y e2
          have := hm'.1 x e
          omega
    subst e
    congr 1
    refine rise_ext hl'.2 hm'.2 (fun z => ⟨fun hz => ?_, fun hz => ?_⟩)
    · rcases List.mem_cons.1 ((h z).1 (List.mem_cons_of_mem _ hz)) with e | e
      · subst e; exact absurd (hl'.1 z hz) (by omega)
      · exact e
    · rcases List.mem_cons.1 ((h z).2 (List.mem_cons_of_mem _ hz)) with e | e
      · subst e; exact absurd (hm'.1 z hz) (by omega)
      · exact e
end Go.Proofs.Ytjmkkkfloalliab.Q
