import Derived.Test.YtjmkkkfloalliabGA
-- copies; a byte; the pattern made
namespace Go.Proofs.Ytjmkkkfloalliab.Q
set_option linter.unusedVariables false

/-- as often as the first k copies say -/
def Rep (A : Lang) (low k : Nat) : Lang := fun u => ∃ m, min low k ≤ m ∧ m ≤ k ∧ Pow A m u
theorem rep_step (A : Lang) (low k : Nat) (u : List UInt8) : Cat (Rep A low k) (fun u => A u ∨ (decide (low < k + 1) = true ∧ u = [])) u ↔ Rep A low (k + 1) u := by
  constructor
  · rintro ⟨x, y, rfl, ⟨m, h1, h2, h3⟩, h | ⟨h, rfl⟩⟩
    · exact ⟨m + 1, by omega, by omega, pow_add.2 ⟨x, y, rfl, h3, pow_one.2 h⟩⟩
    · have := of_decide_eq_true h
      exact ⟨m, by omega, by omega, by simpa using h3⟩
  · rintro ⟨m, h1, h2, h3⟩
    by_cases hm : m = k + 1
    · subst hm
      obtain ⟨x, y, rfl, g1, g2⟩ := pow_add.1 h3
      exact ⟨x, y, rfl, ⟨k, by omega, by omega, g1⟩, .inl (pow_one.1 g2)⟩
    · exact ⟨u, [], by simp, ⟨m, by omega, by omega, h3⟩, .inr ⟨decide_eq_true (by omega), rfl⟩⟩
theorem rep_loop (A : Lang) (low : Nat) (u : List UInt8) : Cat (Rep A low low) (fun u => ((u = [] ∧ A []) ∨ (u ≠ [] ∧ ∃ m, 1 ≤ m ∧ Pow A m u)) ∨ (decide (low < low + 1) = true ∧ u = [])) u ↔ ∃ m, low ≤ m ∧ Pow A m u := by
  constructor
  · rintro ⟨x, y, rfl, ⟨m, h1, h2, h3⟩, (⟨rfl, _⟩ | ⟨_, n, h4, h5⟩) | ⟨_, rfl⟩⟩
    · exact ⟨m, by omega, by simpa using h3⟩
    · exact ⟨m + n, by omega, pow_add.2 ⟨x, y, rfl, h3, h5⟩⟩
    · exact ⟨m, by omega, by simpa using h3⟩
  · rintro ⟨m, h1, h2⟩
    obtain ⟨n, rfl⟩ : ∃ n, m = low + n := ⟨m - low, by omega⟩
    obtain ⟨x, y, rfl, g1, g2⟩ := pow_add.1 h2
    refine ⟨x, y, rfl, ⟨low, by omega, by omega, g1⟩, ?_⟩
    by_cases hy : y = []
    · exact .inr ⟨decide_eq_true (by omega), hy⟩
    · refine .inl (.inr ⟨hy, n, ?_, g2⟩)
      rcases Nat.eq_zero_or_pos n with e | e
      · subst e; exact absurd g2 hy
      · exact e

/-- what is laid takes A -/
def LayL (m : Nat) (rec : Pat → Span × Pat) (A : Lang) : Prop := ∀ p, PatOk p → Fresh p → p.size + m ≤ 49 → Ext p (rec p).2 ∧ Frag p.size (rec p).2 (rec p).1 A ∧ Rch p.size (rec p).2 (rec p).1
theorem frag_eps {p : Pat} (lo : Nat) : Frag lo p ⟨0, 0, true⟩ (fun u => u = []) := by
  refine ⟨fun i h => ?_, fun i h => ?_, by simp, fun u hu => ?_⟩
  · simp at h
  · simp at h
  · simp [hu]
theorem frag_none {p : Pat} (lo : Nat) (e : Bool) (A : Lang) (h : ∀ u, A u ↔ (u = [] ∧ e = true)) : Frag lo p ⟨0, 0, e⟩ A := by
  refine ⟨fun i h => ?_, fun i h => ?_, by simp [h], fun u hu => ?_⟩
  · simp at h
  · simp at h
  · simp [h, hu]
theorem SpanOk.of {lo : Nat} {p : Pat} {a : Span} {A : Lang} (h : Frag lo p a A) (hp : PatOk p) (g : SpanOk p a) : SpanOk p a := g
/-- one more copy -/
theorem copies_frag {m : Nat} {rec : Pat → Span × Pat} {A : Lang} (hr : Lays m rec) (hl : LayL m rec A) (low : Nat) (endless : Bool) (n : Nat) (he : endless = true → n = low + 1) (hA : ∃ u, A u) (p0 : Pat) :
    ∀ (d : Nat) (all : Span) (p : Pat), d ≤ n → PatOk p → SpanOk p all → Ext p0 p → p.size + m * d ≤ 49 → (0 < d ∨ endless = false) → Frag p0.size p all (Rep A low (n - d)) → Rch p0.size p all →
      Ext p0 (copies rec low endless n d all p).2 ∧ Frag p0.size (copies rec low endless n d all p).2 (copies rec low endless n d all p).1 (fun u => if endless = true then ∃ m, low ≤ m ∧ Pow A m u else Rep A low n u) ∧ Rch p0.size (copies rec low endless n d all p).2 (copies rec low endless n d all p).1
  | 0, all, p, _, hp, hs, e0, hz, hd, hf, hR => by
    have h0 : endless = false := by rcases hd with h | h; · omega
                                    · exact h
    refine ⟨e0, hf.iff fun u => ?_, hR⟩
    rw [h0]; simp
  | d + 1, all, p, hdn, hp, hs, e0, hz, hd, hf, hR => by
    have hmul : m * (d + 1) = m * d + m := Nat.mul_succ m d
    obtain ⟨r1, r2, r3⟩ := hr p hp (by omega)
    obtain ⟨x1, x2, x3⟩ := hl p hp e0.fresh (by omega)
    have hAll : ∃ u, Rep A low (n - (d + 1)) u := by
      obtain ⟨u, hu⟩ := hA
      have key : ∀ m, ∃ v, Pow A m v := by
        intro m
        induction m with
        | zero => exact ⟨[], rfl⟩
        | succ m ih =>
          obtain ⟨v, hv⟩ := ih
          exact ⟨u ++ v, u, v, rfl, hu, hv⟩
      obtain ⟨v, hv⟩ := key (n - (d + 1))
      exact ⟨v, n - (d + 1), by omega, Nat.le_refl _, hv⟩
    have e1 : Ext p0 (rec p).2 := e0.trans x1
    have hlo : p0.size ≤ p.size := e0.size
    have hk : n - (d + 1) + 1 = n - d := by omega
    have hone := x2.opt (decide (low < n - d))
    by_cases hend : endless = true ∧ d = 0
    · obtain ⟨hen, hd0⟩ := hend
      subst hd0
      have hn := he hen
      have L1 := frag_loop r1 x2
      have hlink : PatOk (link (rec p).1.last (rec p).1.first (rec p).2) := link_ok _ _ r1 r2.2
      have eL : Ext p (link (rec p).1.last (rec p).1.first (rec p).2) := link_ext x1 r1 (fun i h => (x2.lst i h).1) (fun k h => x2.fst k h)
      have L2 := L1.opt (decide (low < n - 0))
      have J := frag_join (p := p) hp hlink e0.fresh hlo eL hf L2
      have JR := rch_join (a := all) (b := { (rec p).1 with empty := decide (low < n - 0) || (rec p).1.empty }) hlink e0.fresh eL hf L2 hR (rch_loop r1 x2 x3) hAll
      unfold copies
      simp only [if_pos (show endless = true ∧ True from ⟨hen, trivial⟩)]
      unfold copies
      refine ⟨?_, J.iff fun u => ?_, JR⟩
      · refine link_ext (e0.trans eL) hlink (fun i h => (hf.lst i h).1) (fun k h => ?_)
        have := x2.fst k h
        exact ⟨by omega, this.2⟩
      · rw [if_pos hen]
        have e3 : n - (0 + 1) = low := by omega
        have e4 : n - 0 = low + 1 := by omega
        rw [e3, e4]
        exact rep_loop A low u
    · have hd2 : 0 < d ∨ endless = false := by
        cases endless with
        | false => exact .inr rfl
        | true => exact .inl (by rcases Nat.eq_zero_or_pos d with e | e; · exact absurd ⟨rfl, e⟩ hend
                                 · exact e)
      have J := frag_join (p := p) hp r1 e0.fresh hlo x1 hf hone
      have JR := rch_join (a := all) (b := { (rec p).1 with empty := decide (low < n - d) || (rec p).1.empty }) r1 e0.fresh x1 hf hone hR x3 hAll
      obtain ⟨j1, j2, j3⟩ := join_ok (p := (rec p).2) (a := all) (b := { (rec p).1 with empty := decide (low < n - d) || (rec p).1.empty }) r1 (hs.mono x1.size) r2
      unfold copies
      simp only [if_neg hend]
      refine copies_frag hr hl low endless n he hA p0 d _ _ (by omega) j1 j2 ?_ (by rw [j3, r3]; omega) hd2 (J.iff fun u => ?_) JR
      · refine link_ext e1 r1 (fun i h => (hf.lst i h).1) (fun k h => ?_)
        have := x2.fst k h
        exact ⟨by omega, this.2⟩
      · rw [← hk]
        exact rep_step A low (n - (d + 1)) u
/-- a byte -/
theorem layByte_frag (ins : List Bool) (hi : ins.length = 256) (hany : ∃ c : UInt8, ins.getD c.toNat false = true) : LayL 1 (layByte ins) (fun u => ∃ c : UInt8, u = [c] ∧ ins.getD c.toNat false = true) := by
  intro p hp fp hs
  have tk : ∀ (c : Nat) (i : Nat), ((layByte ins p).2.takes.getD c 0).testBit i = ((p.takes.getD c 0).testBit i || (ins.getD c false && decide (i = p.size))) := by
    intro c i
    show ((tab 256 fun i => if i < 256 ∧ ins.getD i false = true then p.takes.getD i 0 ||| 2 ^ p.size else p.takes.getD i 0).getD c 0).testBit i = _
    rw [getD_tab]
    by_cases hc : c < 256
    · rw [if_pos hc]
      by_cases hin : ins.getD c false = true
      · rw [if_pos ⟨hc, hin⟩, Nat.testBit_or, Nat.testBit_two_pow, hin]
        congr 1
        simp [eq_comm]
      · rw [if_neg (fun g => hin g.2), Bool.eq_false_iff.2 hin]
        simp
    · rw [if_neg hc]
      rw [List.getD_eq_getElem?_getD, List.getD_eq_getElem?_getD, List.getElem?_eq_none (by rw [hp.tlen]; omega), List.getElem?_eq_none (by rw [hi]; omega)]
      simp
  have sz : (layByte ins p).2.size = p.size + 1 := rfl
  refine ⟨⟨by rw [sz]; omega, fun k _ => rfl, fun c i h => ?_, fun k hk i g => ?_, fun k hk => fp k (by rw [sz] at hk; omega)⟩, ⟨fun i h => ?_, fun i h => ?_, ?_, fun u hu => ?_⟩, fun i g1 g2 => ?_⟩
  · rw [tk, decide_eq_false (by omega)]; simp
  · have := fp.ed (i := i) (k := k) g
    omega
  · have h2 : (2 ^ p.size).testBit i = true := h
    rw [Nat.testBit_two_pow] at h2
    have := of_decide_eq_true h2
    rw [sz]; omega
  · have h2 : (2 ^ p.size).testBit i = true := h
    rw [Nat.testBit_two_pow] at h2
    have := of_decide_eq_true h2
    rw [sz]; omega
  · show false = true ↔ _
    simp
  · have bit : ∀ i, (2 ^ p.size).testBit i = true ↔ p.size = i := fun i => by rw [Nat.testBit_two_pow]; simp
    have no : ∀ k, ¬ Ed (layByte ins p).2 p.size k := by
      intro k g
      have := hp.ed (i := p.size) (k := k) g
      omega
    have hz : ∀ c : UInt8, Tk (layByte ins p).2 p.size c ↔ ins.getD c.toNat false = true := by
      intro c
      unfold Tk
      rw [tk, decide_eq_true rfl]
      have : (p.takes.getD c.toNat 0).testBit p.size = false := by
        cases e : (p.takes.getD c.toNat 0).testBit p.size with
        | false => rfl
        | true => exact absurd (bit_lt (hp.t _) e) (by omega)
      rw [this]; simp
    constructor
    · rintro ⟨c, rfl, h⟩
      exact ⟨p.size, p.size, (bit _).2 rfl, (bit _).2 rfl, (hz c).2 h, .inl ⟨rfl, rfl⟩⟩
    · rintro ⟨i, j, h1, h2, h3⟩
      have h1 := (bit i).1 h1
      subst h1
      cases u with
      | nil => exact absurd rfl hu
      | cons c u =>
        obtain ⟨g1, ⟨rfl, _⟩ | ⟨k, g2, _⟩⟩ := h3
        · exact ⟨c, rfl, (hz c).1 g1⟩
        · exact absurd g2 (no k)
  · obtain rfl : i = p.size := by rw [sz] at g2; omega
    obtain ⟨c, hc⟩ := hany
    refine ⟨[c], p.size, by show (2 ^ p.size).testBit p.size = true; rw [Nat.testBit_two_pow]; simp, ?_, .inl ⟨rfl, rfl⟩⟩
    unfold Tk
    rw [tk, decide_eq_true rfl, hc]
    simp

/-! the pattern made -/
theorem aheadTo_bit (p : Pat) (s i : Nat) : ∀ k, (aheadTo p s k).testBit i = true ↔ ∃ j, j < k ∧ s.testBit j = true ∧ (p.ahead.getD j 0).testBit i = true
  | 0 => by simp [aheadTo]
  | k + 1 => by
    unfold aheadTo
    split
    · next h =>
      rw [Nat.testBit_or, Bool.or_eq_true, aheadTo_bit p s i k]
      constructor
      · rintro (⟨j, a, b⟩ | g)
        · exact ⟨j, by omega, b⟩
        · exact ⟨k, by omega, h, g⟩
      · rintro ⟨j, a, b, c⟩
        rcases Nat.lt_or_ge j k with g | g
        · exact .inl ⟨j, g, b, c⟩
        · have : j = k := by omega
          subst this
          exact .inr c
    · next h =>
      rw [aheadTo_bit p s i k]
      constructor
      · rintro ⟨j, a, b⟩
        exact ⟨j, by omega, b⟩
      · rintro ⟨j, a, b, c⟩
        rcases Nat.lt_or_ge j k with g | g
        · exact ⟨j, g, b, c⟩
        · have : j = k := by omega
          subst this
          exact absurd b h
theorem set0_getD (l : List Nat) (x k : Nat) (h : 0 < l.length) : (l.set 0 x).getD k 0 = if k = 0 then x else l.getD k 0 := by
  cases l with
  | nil => simp at h
  | cons a l =>
    cases k with
    | zero => simp
    | succ k => simp
theorem pl_paths {q : Pat} {a : Span} {A : Lang} (hq : PatOk q) (h1 : Fresh q) (h0 : ∀ c, (q.takes.getD c 0).testBit 0 = false) (x : Nat) :
    ∀ u : List UInt8, u ≠ [] → ∀ i, (pl { q with begins := x, ahead := q.ahead.set 0 a.last } u).testBit i = true ↔ ∃ j, a.last.testBit j = true ∧ Path (Ed q) (Tk q) u i j := by
  intro u
  induction u with
  | nil => intro h; exact absurd rfl h
  | cons c u ih =>
    intro _ i
    unfold pl aheadOf
    rw [Nat.testBit_and, Bool.and_eq_true, aheadTo_bit]
    have hl : 0 < q.ahead.length := by rw [hq.alen]; decide
    simp only [set0_getD _ _ _ hl]
    cases u with
    | nil =>
      simp only [pl]
      constructor
      · rintro ⟨⟨j, a1, a2, a3⟩, a4⟩
        have hj : j = 0 := by
          rw [show (1 : Nat) = 2 ^ 0 from rfl, Nat.testBit_two_pow] at a2
          simpa [eq_comm] using a2
        subst hj
        exact ⟨i, by simpa using a3, a4, .inl ⟨rfl, rfl⟩⟩
      · rintro ⟨j, a1, a2, ⟨_, rfl⟩ | ⟨k, _, a3⟩⟩
        · exact ⟨⟨0, hq.pos, by simp, by simpa using a1⟩, a2⟩
        · exact a3.elim
    | cons d v =>
      have ih := ih (List.cons_ne_nil _ _)
      constructor
      · rintro ⟨⟨k, a1, a2, a3⟩, a4⟩
        obtain ⟨j, b1, b2⟩ := (ih k).1 a2
        have hk : k ≠ 0 := by
          intro e
          subst e
          have : Tk q 0 d := b2.1
          unfold Tk at this
          rw [h0] at this
          cases this
        rw [if_neg hk] at a3
        exact ⟨j, b1, a4, .inr ⟨k, a3, b2⟩⟩
      · rintro ⟨j, a1, a2, ⟨e, _⟩ | ⟨k, a3, a4⟩⟩
        · cases e
        · have hk : k ≠ 0 := by
            intro e
            subst e
            have : Tk q 0 d := a4.1
            unfold Tk at this
            rw [h0] at this
            cases this
          refine ⟨⟨k, h1.ed a3, (ih k).2 ⟨j, a1, a4⟩, ?_⟩, a2⟩
          rw [if_neg hk]
          exact a3
theorem begins_acc {p q : Pat} {a : Span} {A : Lang} (hq : PatOk q) (sa : SpanOk q a) (h1 : Fresh q) (h0 : ∀ c, (q.takes.getD c 0).testBit 0 = false) (h : Frag 1 q a A) (u : List UInt8) (hu : u ≠ []) :
    acc { q with begins := a.first, ahead := q.ahead.set 0 a.last } u = true ↔ A u := by
  have key := pl_paths (a := a) (A := A) hq h1 h0 a.first
  rw [h.words u hu]
  unfold acc
  rw [bne_iff_ne]
  constructor
  · intro g
    obtain ⟨i, hi⟩ := Nat.exists_testBit_of_ne_zero g
    rw [Nat.testBit_and, Bool.and_eq_true] at hi
    obtain ⟨j, b1, b2⟩ := (key u hu i).1 hi.1
    exact ⟨i, j, hi.2, b1, b2⟩
  · rintro ⟨i, j, g1, g2, g3⟩ e
    have : (pl { q with begins := a.first, ahead := q.ahead.set 0 a.last } u &&& a.first).testBit i = true := by
      rw [Nat.testBit_and, Bool.and_eq_true]
      exact ⟨(key u hu i).2 ⟨j, g2, g3⟩, g1⟩
    have e2 : pl { q with begins := a.first, ahead := q.ahead.set 0 a.last } u &&& a.first = 0 := e
    rw [e2, Nat.zero_testBit] at this
    cases this
/-- where a word's end leads, something leads to it -/
theorem pl_tail_iff {q : Pat} {a : Span} {A : Lang} (hq : PatOk q) (h1 : Fresh q) (h0 : ∀ c, (q.takes.getD c 0).testBit 0 = false) (h : Frag 1 q a A) (hr : Rch 1 q a) (w : List UInt8) (hw : w ≠ []) :
    pl { q with begins := a.first, ahead := q.ahead.set 0 a.last } w ≠ 0 ↔ ∃ v, A (v ++ w) := by
  have key := pl_paths (a := a) (A := A) hq h1 h0 a.first w hw
  constructor
  · intro g
    obtain ⟨i, hi⟩ := Nat.exists_testBit_of_ne_zero g
    obtain ⟨k, hk, hp⟩ := (key i).1 hi
    have hi0 : 1 ≤ i ∧ i < q.size := by
      cases w with
      | nil => exact absurd rfl hw
      | cons c w =>
        have ht : Tk q i c := hp.1
        refine ⟨?_, hq.tk ht⟩
        rcases Nat.eq_zero_or_pos i with e | e
        · subst e
          unfold Tk at ht
          rw [h0] at ht
          cases ht
        · exact e
    obtain ⟨u, j, hj, hu⟩ := hr i hi0.1 hi0.2
    obtain ⟨v, hv⟩ := path_swap u w j i k hu hp
    exact ⟨v, (h.words _ (path_ne hv)).2 ⟨j, k, hj, hk, hv⟩⟩
  · rintro ⟨v, hv⟩ e
    obtain ⟨j, k, hj, hk, hp⟩ := (h.words _ (by simp [hw])).1 hv
    obtain ⟨i, hi⟩ := path_tail v w j k hw hp
    have := (key i).2 ⟨k, hk, hi⟩
    rw [e, Nat.zero_testBit] at this
    cases this
end Go.Proofs.Ytjmkkkfloalliab.Q
