import Derived.Test.YtjmkkkfloalliabGF
-- the patterns that are asked of
namespace Go.Proofs.Ytjmkkkfloalliab.Q
set_option linter.unusedVariables false

theorem cutP_le (s : Bool) (n : Nat) : cutP s n ≤ n := by
  unfold cutP
  split
  · omega
  · split <;> omega
/-- it is a pattern, or too long or large -/
theorem parse_of {s : List UInt8} {d : Den} {m : Nat} (h : dgo (8 * s.length + 6) .alt s = some (d, [], false, m)) :
    (∃ E, parse s = .error (E, 0) ∧ (E = 1 ∨ E = 5)) ∨ ∃ P, parse s = .ok P ∧ ∀ u, acc P u = true ↔ (u ≠ [] ∧ d.lang u) := by
  obtain ⟨h1, h2, _⟩ := parse_den s
  by_cases hl : 40 < s.length
  · exact .inl ⟨1, h1 hl, .inl rfl⟩
  · obtain ⟨_, h4, h5⟩ := h2 (by omega) d false m h
    by_cases g : 6 < m ∨ 48 < d.places
    · exact .inl ⟨5, h4 rfl g, .inr rfl⟩
    · exact .inr (h5 rfl (by omega) (by omega))
theorem parse_small {s : List UInt8} {d : Den} {m : Nat} (h : dgo (8 * s.length + 6) .alt s = some (d, [], false, m)) (hl : s.length ≤ 40) (hm : m ≤ 6) (hp : d.places ≤ 48) : ∃ P, parse s = .ok P ∧ ∀ u, acc P u = true ↔ (u ≠ [] ∧ d.lang u) := by
  obtain ⟨h1, h2, _⟩ := parse_den s
  exact (h2 hl d false m h).2.2 rfl hm hp

section
variable {g : Nat} {r r1 r2 : List UInt8} {d d0 d1 d2 : Den} {b b1 b2 : Bool} {m m1 m2 : Nat}
theorem seqL_end (h : ends (dnext r) = true) : dgo (g + 1) (.seqL d) r = some (d, r, false, 0) := by
  unfold dgo; rw [if_pos h]
theorem seqL_step (h : ends (dnext r) = false) (h1 : dgo g .rep r = some (d1, r1, b1, m1)) (h2 : dgo g (.seqL (dCat d0 d1)) r1 = some (d2, r2, b2, m2)) : dgo (g + 1) (.seqL d0) r = some (d2, r2, b1 || b2, max m1 m2) := by
  unfold dgo
  rw [if_neg (by rw [h]; decide)]
  exact after_eq h1 h2
theorem repL_end (h : isRep (dnext r) = false) : dgo (g + 1) (.repL d) r = some (d, r, false, 0) := by
  unfold dgo; rw [if_neg (by rw [h]; decide)]
theorem repL_one {lo hi : Nat} {e : Bool} (h : isRep (dnext r) = true) (h1 : drep r = some (lo, hi, e, b, r1)) (h2 : isRep (dnext r1) = false) : dgo (g + 2) (.repL d) r = some (dRep d lo hi e, r1, b, 0) := by
  unfold dgo
  rw [if_pos h, h1]
  simp only
  rw [after_eq rfl (repL_end (g := g) h2)]
  simp
theorem rep_plain (h : dgo (g + 1) .term r = some (d1, r1, b1, m1)) (h2 : isRep (dnext r1) = false) : dgo (g + 2) .rep r = some (d1, r1, b1, m1) := by
  have := after_eq (k := fun d r1 => dgo (g + 1) (.repL d) r1) h (repL_end (g := g) h2)
  unfold dgo
  rw [this]
  simp
theorem rep_with {lo hi : Nat} {e : Bool} (h : dgo (g + 2) .term r = some (d1, r1, b1, m1)) (h1 : isRep (dnext r1) = true) (h2 : drep r1 = some (lo, hi, e, b, r2)) (h3 : isRep (dnext r2) = false) : dgo (g + 3) .rep r = some (dRep d1 lo hi e, r2, b1 || b, m1) := by
  have := after_eq (k := fun d r1 => dgo (g + 2) (.repL d) r1) h (repL_one (g := g) (d := d1) h1 h2 h3)
  unfold dgo
  rw [this]
  simp
theorem top_seq (h : dgo (g + 1) (.seqL dEps) r = some (d, [], b, m)) : dgo (g + 3) .alt r = some (d, [], b, m) := by
  have h2 : dgo (g + 2) .seq r = some (d, [], b, m) := h
  have := after_eq (k := fun d r1 => dgo (g + 2) (.altL d) r1) h2 (show dgo (g + 2) (.altL d) [] = some (d, [], false, 0) by unfold dgo; rw [if_neg (by decide)])
  unfold dgo
  rw [this]
  simp
end
variable {x : List UInt8} {d : Den} {m : Nat} (h : dgo (8 * x.length + 6) .alt x = some (d, [], false, m))
include h
/-- in brackets, with a sign behind -/
theorem br_rep {T : List UInt8} {lo hi : Nat} {e : Bool} (hT : isRep (dnext T) = true) (hd : drep T = some (lo, hi, e, false, [])) :
    ∃ d' m', dgo (8 * (40 :: (x ++ (41 :: T))).length + 6) .alt (40 :: (x ++ (41 :: T))) = some (d', [], false, m') ∧ ∀ u, d'.lang u ↔ ∃ k, lo ≤ k ∧ (e = true ∨ k ≤ hi) ∧ Pow d.lang k u := by
  have t1 := dgo_br (rest := T) h
  have t2 := rep_with (g := 8 * x.length + 6) (dgo_more t1 (by omega)) hT hd (by rfl)
  have t3 := seqL_step (g := 8 * x.length + 9) (d0 := dEps) (by rfl) t2 (seqL_end (g := 8 * x.length + 8) (by rfl))
  have t4 := top_seq (g := 8 * x.length + 9) t3
  refine ⟨_, _, dgo_more t4 (by simp; omega), fun u => ?_⟩
  constructor
  · rintro ⟨a, c, rfl, ha, hc⟩
    have ha2 : a = [] := ha
    subst ha2
    exact hc
  · intro hc
    exact ⟨[], u, rfl, rfl, hc⟩
/-- in brackets -/
theorem br_only : ∃ d' m', dgo (8 * (40 :: (x ++ [41])).length + 6) .alt (40 :: (x ++ [41])) = some (d', [], false, m') ∧ ∀ u, d'.lang u ↔ d.lang u := by
  have t1 := dgo_br (rest := []) h
  have t2 := rep_plain (g := 8 * x.length + 6) t1 (by rfl)
  have t3 := seqL_step (g := 8 * x.length + 8) (d0 := dEps) (by rfl) t2 (seqL_end (g := 8 * x.length + 7) (by rfl))
  have t4 := top_seq (g := 8 * x.length + 8) t3
  refine ⟨_, _, dgo_more t4 (by simp; omega), fun u => ?_⟩
  constructor
  · rintro ⟨a, c, rfl, ha, hc⟩
    have ha2 : a = [] := ha
    subst ha2
    exact hc
  · intro hc
    exact ⟨[], u, rfl, rfl, hc⟩
omit h in
theorem any_lang (c : UInt8) : (turn ins0).getD c.toNat false = true := by
  have hc := c.toNat_lt
  unfold turn ins0
  rw [List.getD_eq_getElem?_getD, List.getElem?_map, List.getElem?_replicate, if_pos hc]
  rfl
/-- in brackets, with any byte behind -/
theorem br_dot : ∃ d' m', dgo (8 * (40 :: (x ++ [41, 46])).length + 6) .alt (40 :: (x ++ [41, 46])) = some (d', [], false, m') ∧ ∀ u, d'.lang u ↔ ∃ v c, u = v ++ [c] ∧ d.lang v := by
  have t1 := dgo_br (rest := [46]) h
  have t2 := rep_plain (g := 8 * x.length + 6) t1 (by rfl)
  have q1 : dgo (8 * x.length + 6 + 1) .term [46] = some (dByte (turn ins0), [], false, 0) := rfl
  have q2 := rep_plain q1 (by rfl)
  have t3 := seqL_step (g := 8 * x.length + 8) (d0 := dCat dEps d) (by rfl) q2 (seqL_end (g := 8 * x.length + 7) (by rfl))
  have t5 := seqL_step (g := 8 * x.length + 9) (d0 := dEps) (by rfl) (dgo_more t2 (by omega)) t3
  have t4 := top_seq (g := 8 * x.length + 9) t5
  refine ⟨_, _, dgo_more t4 (by simp; omega), fun u => ?_⟩
  constructor
  · rintro ⟨a, c, rfl, ⟨a2, c2, rfl, ha, hc⟩, ⟨z, rfl, _⟩⟩
    have ha2 : a2 = [] := ha
    subst ha2
    exact ⟨c2, z, rfl, hc⟩
  · rintro ⟨v, c, rfl, hv⟩
    exact ⟨v, [c], rfl, ⟨[], v, rfl, rfl, hv⟩, ⟨c, rfl, any_lang c⟩⟩
/-- with nothing ahead -/
theorem br_ahead : ∃ d' m', dgo (8 * (40 :: 41 :: 40 :: (x ++ [41])).length + 6) .alt (40 :: 41 :: 40 :: (x ++ [41])) = some (d', [], false, m') ∧ ∀ u, d'.lang u ↔ d.lang u := by
  have q1 : dgo (8 * x.length + 6 + 1) .term (40 :: 41 :: 40 :: (x ++ [41])) = some (dEps, 40 :: (x ++ [41]), false, 1) := rfl
  have q2 := rep_plain q1 (by rfl)
  have t1 := dgo_br (rest := []) h
  have t2 := rep_plain (g := 8 * x.length + 6) t1 (by rfl)
  have t3 := seqL_step (g := 8 * x.length + 8) (d0 := dCat dEps dEps) (by rfl) t2 (seqL_end (g := 8 * x.length + 7) (by rfl))
  have t5 := seqL_step (g := 8 * x.length + 9) (d0 := dEps) (by rfl) (dgo_more q2 (by omega)) t3
  have t4 := top_seq (g := 8 * x.length + 9) t5
  refine ⟨_, _, dgo_more t4 (by simp; omega), fun u => ?_⟩
  constructor
  · rintro ⟨a, c, rfl, ⟨a2, c2, rfl, ha, hb⟩, hc⟩
    have ha2 : a2 = [] := ha
    have hb2 : c2 = [] := hb
    subst ha2; subst hb2
    exact hc
  · intro hc
    exact ⟨[], u, rfl, ⟨[], [], rfl, rfl, rfl⟩, hc⟩
/-- with nothing behind -/
theorem br_behind : ∃ d' m', dgo (8 * (40 :: (x ++ [41, 40, 41])).length + 6) .alt (40 :: (x ++ [41, 40, 41])) = some (d', [], false, m') ∧ ∀ u, d'.lang u ↔ d.lang u := by
  have t1 := dgo_br (rest := [40, 41]) h
  have t2 := rep_plain (g := 8 * x.length + 6) t1 (by rfl)
  have q1 : dgo (8 * x.length + 6 + 1) .term [40, 41] = some (dEps, [], false, 1) := rfl
  have q2 := rep_plain q1 (by rfl)
  have t3 := seqL_step (g := 8 * x.length + 8) (d0 := dCat dEps d) (by rfl) q2 (seqL_end (g := 8 * x.length + 7) (by rfl))
  have t5 := seqL_step (g := 8 * x.length + 9) (d0 := dEps) (by rfl) (dgo_more t2 (by omega)) t3
  have t4 := top_seq (g := 8 * x.length + 9) t5
  refine ⟨_, _, dgo_more t4 (by simp; omega), fun u => ?_⟩
  constructor
  · rintro ⟨a, c, rfl, ⟨a2, c2, rfl, ha, hb⟩, hc⟩
    have ha2 : a2 = [] := ha
    have hc2 : c = [] := hc
    subst ha2; subst hc2
    simpa using hb
  · intro hc
    exact ⟨u, [], by simp, ⟨[], u, rfl, rfl, hc⟩, rfl⟩
/-- or nothing -/
theorem or_none : ∃ d' m', dgo (8 * (x ++ [124]).length + 6) .alt (x ++ [124]) = some (d', [], false, m') ∧ ∀ u, d'.lang u ↔ (d.lang u ∨ u = []) := by
  have q1 : dgo 8 (.altL d) [124] = some (dAlt d dEps, [], false, 0) := rfl
  have t1 := alt_app (post := [124]) (by rfl) h q1
  refine ⟨_, _, dgo_more t1 (by simp; omega), fun u => Iff.rfl⟩
/-- or nothing, in brackets -/
theorem or_none_br : ∃ d' m', dgo (8 * (40 :: (x ++ [124, 40, 41, 41])).length + 6) .alt (40 :: (x ++ [124, 40, 41, 41])) = some (d', [], false, m') ∧ ∀ u, d'.lang u ↔ (d.lang u ∨ u = []) := by
  have q1 : dgo 16 (.altL d) [124, 40, 41, 41] = some (dAlt d (dCat dEps dEps), [41], false, 1) := rfl
  have t1 := alt_app (post := [124, 40, 41, 41]) (by rfl) h q1
  have t2 : dgo (8 * x.length + 6 + 16 + 1) .term (40 :: (x ++ [124, 40, 41, 41])) = some (dAlt d (dCat dEps dEps), [], false, max m 1 + 1) := by
    unfold dgo
    rw [if_pos (by rfl)]
    show (match dgo (8 * x.length + 6 + 16) .alt (x ++ [124, 40, 41, 41]) with | none => none | some (d, r1, b, m) => _) = _
    rw [t1]
    rfl
  have t3 := rep_plain t2 (by rfl)
  have t4 := seqL_step (g := 8 * x.length + 6 + 16 + 2) (d0 := dEps) (by rfl) t3 (seqL_end (g := 8 * x.length + 6 + 16 + 1) (by rfl))
  have t5 := top_seq t4
  refine ⟨_, _, dgo_more t5 (by simp; omega), fun u => ?_⟩
  constructor
  · rintro ⟨a, c, rfl, ha, hc | ⟨a2, c2, rfl, hb, hc⟩⟩
    · have ha2 : a = [] := ha
      subst ha2
      exact .inl hc
    · have ha2 : a = [] := ha
      have hb2 : a2 = [] := hb
      have hc2 : c2 = [] := hc
      subst ha2; subst hb2; subst hc2
      exact .inr rfl
  · rintro (hc | rfl)
    · exact ⟨[], u, rfl, rfl, .inl hc⟩
    · exact ⟨[], [], rfl, rfl, .inr ⟨[], [], rfl, rfl, rfl⟩⟩
omit h in
theorem none_lang (c : UInt8) : ¬ (turn (setRange ins0 0 255)).getD c.toNat false = true := by
  have hc := c.toNat_lt
  unfold turn setRange
  rw [List.getD_eq_getElem?_getD, List.getElem?_map, List.getElem?_map, List.getElem?_range hc]
  simp
  intro _
  omega
/-- or what no byte is -/
theorem or_no_byte : ∃ d' m', dgo (8 * (x ++ [124, 91, 94, 0, 45, 255, 93]).length + 6) .alt (x ++ [124, 91, 94, 0, 45, 255, 93]) = some (d', [], false, m') ∧ ∀ u, d'.lang u ↔ d.lang u := by
  have q1 : dgo 16 (.altL d) [124, 91, 94, 0, 45, 255, 93] = some (dAlt d (dCat dEps (dByte (turn (setRange ins0 0 255)))), [], false, 0) := rfl
  have t1 := alt_app (post := [124, 91, 94, 0, 45, 255, 93]) (by rfl) h q1
  refine ⟨_, _, dgo_more t1 (by simp; omega), fun u => ?_⟩
  constructor
  · rintro (hc | ⟨a, c, _, _, z, _, hz⟩)
    · exact hc
    · exact absurd hz (none_lang z)
  · intro hc
    exact .inl hc
/-- or another pattern -/
theorem or_other {y : List UInt8} {dy : Den} {my : Nat} (hy : dgo (8 * y.length + 6) .alt y = some (dy, [], false, my)) :
    ∃ d' m', dgo (8 * (x ++ 124 :: y).length + 6) .alt (x ++ 124 :: y) = some (d', [], false, m') ∧ ∀ u, d'.lang u ↔ (d.lang u ∨ dy.lang u) := by
  obtain ⟨d1, r1, b1, m1, d2, r2, b2, m2, e1, e2, e3⟩ := after_inv (x := dgo (8 * y.length + 5) .seq y) (k := fun d r1 => dgo (8 * y.length + 5) (.altL d) r1) hy
  simp only [Prod.mk.injEq] at e3
  obtain ⟨rfl, rfl, e4, rfl⟩ := e3
  have e5 := Bool.or_eq_false_iff.1 e4.symm
  obtain ⟨d5, q1, q2⟩ := altL_with d _ d1 (dAlt d d1) r1 dy [] b2 m2 (fun u => Iff.rfl) e2
  have q3 : dgo (8 * y.length + 6) (.altL d) (124 :: y) = some (d5, [], b1 || b2, max m1 m2) := by
    unfold dgo
    rw [if_pos (by rfl)]
    exact after_eq e1 q1
  have t1 := alt_app (post := 124 :: y) (by rfl) h q3
  rw [e5.1, e5.2] at t1
  refine ⟨_, _, dgo_more t1 (by simp; omega), q2⟩
end Go.Proofs.Ytjmkkkfloalliab.Q
