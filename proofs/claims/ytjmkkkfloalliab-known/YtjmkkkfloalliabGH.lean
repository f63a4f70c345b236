import Derived.Test.YtjmkkkfloalliabGG
-- where patterns begin, by what they stand for; two rising lists laid together
namespace Go.Proofs.Ytjmkkkfloalliab.Q
set_option linter.unusedVariables false

/-- a text that A takes, not empty, begins at p -/
def At (t : List UInt8) (A : Lang) (p : Nat) : Prop := ∃ u, M.pre u (t.drop p) = true ∧ u ≠ [] ∧ A u
theorem mem_at {t : List UInt8} {P : Pat} {A : Lang} (h : ∀ u, acc P u = true ↔ (u ≠ [] ∧ A u)) {p : Nat} : p ∈ hits t P ↔ p ≤ t.length ∧ At t A p := by
  rw [mem_hits]
  refine and_congr_right fun _ => ?_
  constructor
  · rintro ⟨u, a, b⟩
    exact ⟨u, a, (h u).1 b⟩
  · rintro ⟨u, a, b⟩
    exact ⟨u, a, (h u).2 b⟩
theorem At.lt {t : List UInt8} {A : Lang} {p : Nat} (h : At t A p) : p < t.length := by
  obtain ⟨u, a, b, _⟩ := h
  rcases Nat.lt_or_ge p t.length with g | g
  · exact g
  · rw [List.drop_of_length_le g] at a
    obtain ⟨y, e⟩ := (M.pre_iff u []).1 a
    exact absurd (List.append_eq_nil_iff.1 e.symm).1 b
theorem hits_of {t : List UInt8} {P P' : Pat} {A B : Lang} (h : ∀ u, acc P u = true ↔ (u ≠ [] ∧ A u)) (h' : ∀ u, acc P' u = true ↔ (u ≠ [] ∧ B u)) (g : ∀ p, At t A p ↔ At t B p) : hits t P = hits t P' := by
  refine rise_ext (hits_rise t P) (hits_rise t P') fun p => ?_
  rw [mem_at h, mem_at h', g p]
theorem pow_first {A : Lang} : ∀ {k : Nat} {u : List UInt8}, Pow A k u → u ≠ [] → ∃ x y, u = x ++ y ∧ x ≠ [] ∧ A x
  | 0, u, h, g => absurd h g
  | k + 1, u, ⟨x, y, e, h1, h2⟩, g => by
    by_cases hx : x = []
    · subst hx
      have e2 : u = y := e
      subst e2
      exact pow_first h2 g
    · exact ⟨x, y, e, hx, h1⟩
theorem pre_more {u x y v : List UInt8} (h : M.pre u v = true) (e : u = x ++ y) : M.pre x v = true := by
  obtain ⟨z, e2⟩ := (M.pre_iff u v).1 h
  exact (M.pre_iff x v).2 ⟨y ++ z, by rw [e2, e, List.append_assoc]⟩
theorem at_rep {t : List UInt8} {A : Lang} {lo hi : Nat} {e : Bool} {p : Nat} (h : At t (fun u => ∃ k, lo ≤ k ∧ (e = true ∨ k ≤ hi) ∧ Pow A k u) p) : At t A p := by
  obtain ⟨u, a, b, k, _, _, c⟩ := h
  obtain ⟨x, y, e, hx, hA⟩ := pow_first c b
  exact ⟨x, pre_more a e, hx, hA⟩
theorem rep_at {t : List UInt8} {A : Lang} {lo hi : Nat} {e : Bool} {p : Nat} (h1 : lo ≤ 1) (h2 : e = true ∨ 1 ≤ hi) (h : At t A p) : At t (fun u => ∃ k, lo ≤ k ∧ (e = true ∨ k ≤ hi) ∧ Pow A k u) p := by
  obtain ⟨u, a, b, c⟩ := h
  exact ⟨u, a, b, 1, h1, h2, pow_one.2 c⟩
theorem hits_nil {t : List UInt8} {P : Pat} {A : Lang} (h : ∀ u, acc P u = true ↔ (u ≠ [] ∧ A u)) (g : ∀ u, A u → u = []) : hits t P = [] := by
  cases e : hits t P with
  | nil => rfl
  | cons p l =>
    have : p ∈ hits t P := by rw [e]; exact List.mem_cons_self
    obtain ⟨_, u, _, a, b⟩ := (mem_at h).1 this
    exact absurd (g u b) a

/-- k of a and m of b have been laid into l -/
structure Mg (a b : List Nat) (k m : Nat) (l : List Nat) : Prop where
  len : l.length ≤ k + m
  rise : l.Pairwise (· < ·)
  mem : ∀ x, x ∈ l ↔ ((∃ i, i < k ∧ x = a.getD i 0) ∨ ∃ j, j < m ∧ x = b.getD j 0)
  lt : ∀ x, x ∈ l → (∀ i, k ≤ i → i < a.length → x < a.getD i 0) ∧ ∀ j, m ≤ j → j < b.length → x < b.getD j 0
variable {a b : List Nat} {k m : Nat} {l : List Nat}
theorem Mg.zero : Mg a b 0 0 [] := ⟨by simp, List.Pairwise.nil, fun x => by simp, fun x h => by simp at h⟩
theorem pairwise_snoc {l : List Nat} {y : Nat} (h : l.Pairwise (· < ·)) (g : ∀ x, x ∈ l → x < y) : (l ++ [y]).Pairwise (· < ·) := by
  rw [List.pairwise_append]
  exact ⟨h, by simp, fun x hx z hz => by simp at hz; subst hz; exact g x hx⟩
def Rise (a : List Nat) : Prop := ∀ i j, i < j → j < a.length → a.getD i 0 < a.getD j 0
theorem Mg.stepA (h : Mg a b k m l) (ha : Rise a) (hb : Rise b) (hk : k < a.length) (g : m = b.length ∨ a.getD k 0 < b.getD m 0) : Mg a b (k + 1) m (l ++ [a.getD k 0]) := by
  refine ⟨by have := h.len; simp; omega, pairwise_snoc h.rise fun x hx => (h.lt x hx).1 k (Nat.le_refl _) hk, fun x => ?_, fun x hx => ?_⟩
  · rw [List.mem_append, h.mem, List.mem_singleton]
    constructor
    · rintro ((⟨i, h1, h2⟩ | h1) | h1)
      · exact .inl ⟨i, by omega, h2⟩
      · exact .inr h1
      · exact .inl ⟨k, by omega, h1⟩
    · rintro (⟨i, h1, h2⟩ | h1)
      · rcases Nat.lt_or_ge i k with g | g
        · exact .inl (.inl ⟨i, g, h2⟩)
        · have : i = k := by omega
          subst this
          exact .inr h2
      · exact .inl (.inr h1)
  · rcases List.mem_append.1 hx with hx | hx
    · exact ⟨fun i h1 h2 => (h.lt x hx).1 i (by omega) h2, (h.lt x hx).2⟩
    · have hx := List.mem_singleton.1 hx
      subst hx
      refine ⟨fun i h1 h2 => ha k i (by omega) h2, fun j h1 h2 => ?_⟩
      rcases g with g | g
      · omega
      · rcases Nat.eq_or_lt_of_le h1 with e | e
        · subst e; exact g
        · exact Nat.lt_trans g (hb m j e h2)
theorem Mg.swap (h : Mg a b k m l) : Mg b a m k l := ⟨by have := h.len; omega, h.rise, fun x => by rw [h.mem x, or_comm], fun x hx => ⟨(h.lt x hx).2, (h.lt x hx).1⟩⟩
theorem Mg.stepB (h : Mg a b k m l) (ha : Rise a) (hb : Rise b) (hm : m < b.length) (g : k = a.length ∨ b.getD m 0 < a.getD k 0) : Mg a b k (m + 1) (l ++ [b.getD m 0]) := (h.swap.stepA hb ha hm g).swap
theorem Mg.stepC (h : Mg a b k m l) (ha : Rise a) (hb : Rise b) (hk : k < a.length) (hm : m < b.length) (g : a.getD k 0 = b.getD m 0) : Mg a b (k + 1) (m + 1) (l ++ [a.getD k 0]) := by
  refine ⟨by have := h.len; simp; omega, pairwise_snoc h.rise fun x hx => (h.lt x hx).1 k (Nat.le_refl _) hk, fun x => ?_, fun x hx => ?_⟩
  · rw [List.mem_append, h.mem, List.mem_singleton]
    constructor
    · rintro ((⟨i, h1, h2⟩ | ⟨j, h1, h2⟩) | h1)
      · exact .inl ⟨i, by omega, h2⟩
      · exact .inr ⟨j, by omega, h2⟩
      · exact .inl ⟨k, by omega, h1⟩
    · rintro (⟨i, h1, h2⟩ | ⟨j, h1, h2⟩)
      · rcases Nat.lt_or_ge i k with g2 | g2
        · exact .inl (.inl ⟨i, g2, h2⟩)
        · have : i = k := by omega
          subst this
          exact .inr h2
      · rcases Nat.lt_or_ge j m with g2 | g2
        · exact .inl (.inr ⟨j, g2, h2⟩)
        · have : j = m := by omega
          subst this
          exact .inr (by rw [h2, g])
  · rcases List.mem_append.1 hx with hx | hx
    · exact ⟨fun i h1 h2 => (h.lt x hx).1 i (by omega) h2, fun j h1 h2 => (h.lt x hx).2 j (by omega) h2⟩
    · have hx := List.mem_singleton.1 hx
      subst hx
      exact ⟨fun i h1 h2 => ha k i (by omega) h2, fun j h1 h2 => by rw [g]; exact hb m j (by omega) h2⟩
theorem mem_getD {a : List Nat} {x : Nat} : x ∈ a ↔ ∃ i, i < a.length ∧ x = a.getD i 0 := by
  constructor
  · intro h
    obtain ⟨i, hi, e⟩ := List.getElem_of_mem h
    exact ⟨i, hi, by rw [List.getD_eq_getElem?_getD, List.getElem?_eq_getElem hi]; exact e.symm⟩
  · rintro ⟨i, hi, e⟩
    rw [e, List.getD_eq_getElem?_getD, List.getElem?_eq_getElem hi]
    exact List.getElem_mem hi
theorem Mg.done (h : Mg a b a.length b.length l) {H : List Nat} (hr : H.Pairwise (· < ·)) (hm : ∀ x, x ∈ H ↔ (x ∈ a ∨ x ∈ b)) : l = H := by
  refine rise_ext h.rise hr fun x => ?_
  rw [h.mem x, hm x, mem_getD, mem_getD]
theorem rise_of {a : List Nat} (h : a.Pairwise (· < ·)) : Rise a := by
  intro i j hij hj
  rw [List.getD_eq_getElem?_getD, List.getD_eq_getElem?_getD, List.getElem?_eq_getElem hj, List.getElem?_eq_getElem (by omega)]
  exact (List.pairwise_iff_getElem.1 h) i j _ _ hij
end Go.Proofs.Ytjmkkkfloalliab.Q
