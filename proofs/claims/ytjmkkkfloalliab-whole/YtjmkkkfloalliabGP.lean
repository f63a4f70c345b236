import Derived.Test.YtjmkkkfloalliabGG
-- texts, each byte standing for itself
namespace Go.Proofs.Ytjmkkkfloalliab.Q
set_option linter.unusedVariables false

def quo : List UInt8 → List UInt8
  | [] => []
  | c :: s => 92 :: c :: quo s
theorem quo_len : ∀ s, (quo s).length = 2 * s.length
  | [] => rfl
  | c :: s => by simp only [quo, List.length_cons, quo_len s]; omega
theorem quo_app : ∀ s t, quo (s ++ t) = quo s ++ quo t
  | [], t => rfl
  | c :: s, t => by simp only [List.cons_append, quo, quo_app s t]
def dOne (c : UInt8) : Den := dByte (ins0.set c.toNat true)
def catAll (d : Den) : List UInt8 → Den
  | [] => d
  | c :: s => catAll (dCat d (dOne c)) s
theorem one_lang (c : UInt8) (u : List UInt8) : (dOne c).lang u ↔ u = [c] := by
  have key : ∀ x : UInt8, (ins0.set c.toNat true).getD x.toNat false = true ↔ x = c := by
    intro x
    have hc := c.toNat_lt
    have hx := x.toNat_lt
    rw [List.getD_eq_getElem?_getD, List.getElem?_set]
    by_cases e : c.toNat = x.toNat
    · rw [if_pos e, if_pos (by rw [ins0_len]; omega)]
      exact ⟨fun _ => (UInt8.toNat_inj.1 e).symm, fun _ => rfl⟩
    · rw [if_neg e]
      unfold ins0
      rw [List.getElem?_replicate, if_pos hx]
      constructor
      · intro h; cases h
      · intro h; exact absurd (by rw [h]) e
  constructor
  · rintro ⟨x, rfl, h⟩
    rw [(key x).1 h]
  · rintro rfl
    exact ⟨c, rfl, (key c).2 rfl⟩
theorem all_lang : ∀ (s : List UInt8) (d : Den) (u : List UInt8), (catAll d s).lang u ↔ ∃ x, u = x ++ s ∧ d.lang x
  | [], d, u => by simp [catAll]
  | c :: s, d, u => by
    unfold catAll
    rw [all_lang s]
    constructor
    · rintro ⟨x, rfl, y, z, rfl, h1, h2⟩
      rw [one_lang] at h2
      subst h2
      exact ⟨y, by simp, h1⟩
    · rintro ⟨x, rfl, h⟩
      exact ⟨x ++ [c], by simp, x, [c], rfl, h, (one_lang c _).2 rfl⟩
theorem cat_places (a b : Den) : (dCat a b).places ≤ a.places + b.places := cutP_le _ _
theorem byte_places (l : List Bool) : (dByte l).places ≤ 1 := cutP_le _ _
theorem all_places : ∀ (s : List UInt8) (d : Den), (catAll d s).places ≤ d.places + s.length
  | [], d => Nat.le_refl _
  | c :: s, d => by
    have h1 := all_places s (dCat d (dOne c))
    have h2 := cat_places d (dOne c)
    have h3 : (dOne c).places ≤ 1 := byte_places _
    simp only [catAll, List.length_cons]
    omega
theorem term_esc (g : Nat) (c : UInt8) (r : List UInt8) : dgo (g + 1) .term (92 :: c :: r) = some (dOne c, r, false, 0) := by
  have h : dany (c :: r) = some (c.toNat, r) := by
    unfold dany
    rw [if_neg (by simp only [dnext]; omega)]
    rfl
  have h2 : dleaf (92 :: c :: r) = some (ins0.set c.toNat true, false, r) := by
    unfold dleaf
    have e : dnext (92 :: c :: r) = 92 := rfl
    rw [e, if_neg (by decide), if_neg (by decide), if_neg (by decide), if_pos rfl, show (92 :: c :: r).tail = c :: r from rfl, h]
  have e : dnext (92 :: c :: r) = 92 := rfl
  unfold dgo
  rw [e, if_neg (by decide), h2]
  rfl
theorem seqL_quo : ∀ (s : List UInt8) (g : Nat) (d0 : Den) (rest : List UInt8) (d : Den) (r : List UInt8) (m : Nat), isRep (dnext rest) = false → dgo (g + 3) (.seqL (catAll d0 s)) rest = some (d, r, false, m) → dgo (g + 3 + s.length) (.seqL d0) (quo s ++ rest) = some (d, r, false, m)
  | [], g, d0, rest, d, r, m, _, h => h
  | c :: s, g, d0, rest, d, r, m, hr, h => by
    have h1 := seqL_quo s g (dCat d0 (dOne c)) rest d r m hr h
    have h2 := term_esc (g + s.length + 1) c (quo s ++ rest)
    have h3 : isRep (dnext (quo s ++ rest)) = false := by
      cases s with
      | nil => exact hr
      | cons a s => rfl
    have h4 := rep_plain h2 h3
    have h5 := seqL_step (g := g + s.length + 1 + 2) (d0 := d0) (r := 92 :: c :: (quo s ++ rest)) (by rfl) h4 (by rw [show g + s.length + 1 + 2 = g + 3 + s.length by omega]; exact h1)
    rw [show g + 3 + (c :: s).length = g + s.length + 1 + 2 + 1 by simp; omega]
    show dgo _ _ (92 :: c :: (quo s ++ rest)) = _
    simpa using h5
/-- the text itself -/
theorem quo_parse (s : List UInt8) (hs : s.length ≤ 20) : ∃ P, parse (quo s) = .ok P ∧ ∀ u, acc P u = true ↔ (u ≠ [] ∧ u = s) := by
  have h1 := seqL_quo s 0 dEps [] _ _ _ (by rfl) (seqL_end (g := 2) (d := catAll dEps s) (r := []) (by rfl))
  rw [List.append_nil, show 0 + 3 + s.length = s.length + 2 + 1 by omega] at h1
  have h2 := top_seq h1
  have h3 := all_places s dEps
  have h4 : dEps.places = 0 := rfl
  obtain ⟨P, e1, e2⟩ := parse_small (dgo_more h2 (show s.length + 2 + 3 ≤ 8 * (quo s).length + 6 by rw [quo_len]; omega)) (by rw [quo_len]; omega) (by omega) (by omega)
  refine ⟨P, e1, fun u => ?_⟩
  rw [e2 u, all_lang]
  refine and_congr_right fun _ => ?_
  constructor
  · rintro ⟨x, e, hx⟩
    have hx2 : x = [] := hx
    subst hx2
    exact e
  · intro e
    exact ⟨[], e, rfl⟩
/-- the text itself, between two bytes and any two bytes -/
theorem whole_parse (s : List UInt8) (hs : s.length ≤ 15) : ∃ P, parse (46 :: 98 :: (quo s ++ [99, 46])) = .ok P ∧ ∀ u, acc P u = true ↔ (u ≠ [] ∧ ∃ x y, u = x :: 98 :: (s ++ [99, y])) := by
  have q1 : dgo 6 (.seqL (catAll (dCat (dCat dEps (dByte (turn ins0))) (dOne 98)) s)) [99, 46] = some (dCat (dCat (catAll (dCat (dCat dEps (dByte (turn ins0))) (dOne 98)) s) (dOne 99)) (dByte (turn ins0)), [], false, 0) := rfl
  have h1 := seqL_quo s 3 (dCat (dCat dEps (dByte (turn ins0))) (dOne 98)) [99, 46] _ _ _ (by rfl) q1
  have t1 : dgo (s.length + 4 + 1) .term (98 :: (quo s ++ [99, 46])) = some (dOne 98, quo s ++ [99, 46], false, 0) := rfl
  have n1 : isRep (dnext (quo s ++ [99, 46])) = false := by
    cases s with
    | nil => rfl
    | cons a s => rfl
  have t2 := rep_plain t1 n1
  have t3 := seqL_step (g := s.length + 4 + 2) (d0 := dCat dEps (dByte (turn ins0))) (r := 98 :: (quo s ++ [99, 46])) (by rfl) t2 (by rw [show s.length + 4 + 2 = 3 + 3 + s.length by omega]; exact h1)
  have u1 : dgo (s.length + 5 + 1) .term (46 :: 98 :: (quo s ++ [99, 46])) = some (dByte (turn ins0), 98 :: (quo s ++ [99, 46]), false, 0) := rfl
  have u2 := rep_plain u1 (by rfl)
  have u3 := seqL_step (g := s.length + 5 + 2) (d0 := dEps) (r := 46 :: 98 :: (quo s ++ [99, 46])) (by rfl) u2 t3
  have h2 := top_seq u3
  have p1 := all_places s (dCat (dCat dEps (dByte (turn ins0))) (dOne 98))
  have p2 := cat_places (dCat dEps (dByte (turn ins0))) (dOne 98)
  have p3 := cat_places dEps (dByte (turn ins0))
  have p4 := byte_places (turn ins0)
  have p5 : (dOne 98).places ≤ 1 := byte_places _
  have p6 : (dOne 99).places ≤ 1 := byte_places _
  have p7 := cat_places (catAll (dCat (dCat dEps (dByte (turn ins0))) (dOne 98)) s) (dOne 99)
  have p8 := cat_places (dCat (catAll (dCat (dCat dEps (dByte (turn ins0))) (dOne 98)) s) (dOne 99)) (dByte (turn ins0))
  have p9 : dEps.places = 0 := rfl
  have hl : (46 :: 98 :: (quo s ++ [99, 46])).length = 2 * s.length + 4 := by simp [quo_len]
  obtain ⟨P, e1, e2⟩ := parse_small (dgo_more h2 (show s.length + 5 + 2 + 3 ≤ 8 * (46 :: 98 :: (quo s ++ [99, 46])).length + 6 by rw [hl]; omega)) (by rw [hl]; omega) (by omega) (by omega)
  refine ⟨P, e1, fun u => ?_⟩
  rw [e2 u]
  refine and_congr_right fun _ => ?_
  constructor
  · rintro ⟨v, z, rfl, ⟨v2, z2, rfl, h3, h4⟩, ⟨y, rfl, _⟩⟩
    rw [one_lang] at h4
    subst h4
    obtain ⟨x, rfl, x2, z3, rfl, ⟨x3, z4, rfl, h5, ⟨c, rfl, _⟩⟩, h6⟩ := (all_lang s _ _).1 h3
    rw [one_lang] at h6
    subst h6
    have h7 : x3 = [] := h5
    subst h7
    exact ⟨c, y, by simp⟩
  · rintro ⟨x, y, rfl⟩
    refine ⟨x :: 98 :: (s ++ [99]), [y], by simp, ⟨x :: 98 :: s, [99], by simp, ?_, (one_lang 99 _).2 rfl⟩, ⟨y, rfl, any_lang y⟩⟩
    exact (all_lang s _ _).2 ⟨[x, 98], by simp, [x], [98], rfl, ⟨[], [x], rfl, rfl, ⟨x, rfl, any_lang x⟩⟩, (one_lang 98 _).2 rfl⟩
end Go.Proofs.Ytjmkkkfloalliab.Q
