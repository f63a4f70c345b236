import Derived.Test.YtjmkkkfloalliabGE
-- patterns put together
namespace Go.Proofs.Ytjmkkkfloalliab.Q
set_option linter.unusedVariables false

theorem after_eq {x : Out} {k : Den → List UInt8 → Out} {d d2 : Den} {r r2 : List UInt8} {b b2 : Bool} {m m2 : Nat} (h : x = some (d, r, b, m)) (g : k d r = some (d2, r2, b2, m2)) : after x k = some (d2, r2, b || b2, max m m2) := by
  subst h
  unfold after
  simp only
  rw [g]
theorem after_inv {x : Out} {k : Den → List UInt8 → Out} {y : Den × List UInt8 × Bool × Nat} (h : after x k = some y) : ∃ d r b m d2 r2 b2 m2, x = some (d, r, b, m) ∧ k d r = some (d2, r2, b2, m2) ∧ y = (d2, r2, b || b2, max m m2) := by
  unfold after at h
  split at h
  · cases h
  · next d r b m =>
    split at h
    · cases h
    · next d2 r2 b2 m2 e =>
      cases h
      exact ⟨d, r, b, m, d2, r2, b2, m2, rfl, e, rfl⟩
theorem dgo_mono : ∀ (f : Nat) (j : DJob) (r : List UInt8) (y : Den × List UInt8 × Bool × Nat), dgo f j r = some y → dgo (f + 1) j r = some y
  | 0, _, _, _, h => by cases h
  | f + 1, .inl (), r, y, h => by
    obtain ⟨d, r1, b, m, d2, r2, b2, m2, h1, h2, rfl⟩ := after_inv h
    exact after_eq (dgo_mono f _ _ _ h1) (dgo_mono f _ _ _ h2)
  | f + 1, .inr (.inl d), r, y, h => by
    unfold dgo at h ⊢
    split
    · next g =>
      rw [if_pos g] at h
      obtain ⟨d, r1, b, m, d2, r2, b2, m2, h1, h2, rfl⟩ := after_inv h
      exact after_eq (dgo_mono f _ _ _ h1) (dgo_mono f _ _ _ h2)
    · next g => rw [if_neg g] at h; exact h
  | f + 1, .inr (.inr (.inl ())), r, y, h => dgo_mono f _ _ _ h
  | f + 1, .inr (.inr (.inr (.inl d))), r, y, h => by
    unfold dgo at h ⊢
    split
    · next g => rw [if_pos g] at h; exact h
    · next g =>
      rw [if_neg g] at h
      obtain ⟨d, r1, b, m, d2, r2, b2, m2, h1, h2, rfl⟩ := after_inv h
      exact after_eq (dgo_mono f _ _ _ h1) (dgo_mono f _ _ _ h2)
  | f + 1, .inr (.inr (.inr (.inr (.inl ())))), r, y, h => by
    obtain ⟨d, r1, b, m, d2, r2, b2, m2, h1, h2, rfl⟩ := after_inv h
    exact after_eq (dgo_mono f _ _ _ h1) (dgo_mono f _ _ _ h2)
  | f + 1, .inr (.inr (.inr (.inr (.inr (.inl d))))), r, y, h => by
    unfold dgo at h ⊢
    split
    · next g =>
      rw [if_pos g] at h
      split
      · next e => rw [e] at h; cases h
      · next lo hi en b r1 e =>
        rw [e] at h
        obtain ⟨d, r1, b, m, d2, r2, b2, m2, h1, h2, rfl⟩ := after_inv h
        exact after_eq h1 (dgo_mono f _ _ _ h2)
    · next g => rw [if_neg g] at h; exact h
  | f + 1, .inr (.inr (.inr (.inr (.inr (.inr ()))))), r, y, h => by
    unfold dgo at h ⊢
    split
    · next g =>
      rw [if_pos g] at h
      split at h
      · cases h
      · next d r1 b m e =>
        rw [dgo_mono f _ _ _ e]
        exact h
    · next g => rw [if_neg g] at h; exact h
theorem dgo_more {f g : Nat} {j : DJob} {r : List UInt8} {y : Den × List UInt8 × Bool × Nat} (h : dgo f j r = some y) (hg : f ≤ g) : dgo g j r = some y := by
  obtain ⟨k, rfl⟩ : ∃ k, g = f + k := ⟨g - f, by omega⟩
  clear hg
  induction k with
  | zero => exact h
  | succ k ih => exact dgo_mono _ _ _ _ ih

/-! with something behind -/
variable {post : List UInt8} (hp : ends (dnext post) = true)
theorem stop_cases {c : Int} (h : ends c = true) : c = -1 ∨ c = 124 ∨ c = 41 := by
  unfold ends at h
  simp only [Bool.or_eq_true, beq_iff_eq] at h
  omega
theorem dn_app {r : List UInt8} (h : dnext r ≠ -1) : dnext (r ++ post) = dnext r ∧ (r ++ post).tail = r.tail ++ post := by
  cases r with
  | nil => exact absurd rfl h
  | cons a r => exact ⟨rfl, rfl⟩
include hp
theorem dn_or (r : List UInt8) : (dnext (r ++ post) = dnext r ∧ (dnext r ≠ -1 → (r ++ post).tail = r.tail ++ post)) ∨ (r = [] ∧ dnext r = -1 ∧ (dnext (r ++ post) = 124 ∨ dnext (r ++ post) = 41)) := by
  cases r with
  | nil =>
    rcases stop_cases hp with e | e
    · exact .inl ⟨e, fun h => absurd rfl h⟩
    · exact .inr ⟨rfl, rfl, e⟩
  | cons a r => exact .inl ⟨rfl, fun _ => rfl⟩
theorem digit_app (r : List UInt8) : isDigit (dnext (r ++ post)) = isDigit (dnext r) := by
  rcases dn_or hp r with ⟨e, _⟩ | ⟨_, e, g⟩
  · rw [e]
  · rw [e]
    rcases g with g | g <;> rw [g] <;> rfl
theorem eq_app (r : List UInt8) (c : Int) (h1 : c ≠ -1) (h2 : c ≠ 124) (h3 : c ≠ 41) : dnext (r ++ post) = c ↔ dnext r = c := by
  rcases dn_or hp r with ⟨e, _⟩ | ⟨_, e, g⟩
  · rw [e]
  · rw [e]; omega
omit hp in
theorem dany_app {r r2 : List UInt8} {n : Nat} (h : dany r = some (n, r2)) : dany (r ++ post) = some (n, r2 ++ post) := by
  unfold dany at h ⊢
  split at h
  · cases h
  · next g =>
    cases h
    obtain ⟨e1, e2⟩ := dn_app (post := post) g
    rw [e1, if_neg g, e2]
theorem dnum_app {r r2 : List UInt8} {n : Nat} (h : dnum r = some (n, r2)) : dnum (r ++ post) = some (n, r2 ++ post) := by
  unfold dnum at h ⊢
  rw [digit_app hp]
  split at h
  · cases h
  · next g =>
    have hd : isDigit (dnext r) = true := by simpa using g
    obtain ⟨e1, e2⟩ := dn_app (post := post) (digit_next hd)
    rw [if_neg g, e1, e2, digit_app hp]
    split at h
    · next g2 =>
      obtain ⟨e3, e4⟩ := dn_app (post := post) (digit_next g2)
      cases h
      rw [if_pos g2, e3, e4]
    · next g2 =>
      cases h
      rw [if_neg g2]
theorem dbounds1_app {r r2 : List UInt8} {n h : Nat} {e : Bool} (g : dbounds1 n r = some (h, e, r2)) : dbounds1 n (r ++ post) = some (h, e, r2 ++ post) := by
  unfold dbounds1 at g ⊢
  by_cases g1 : dnext r = 44
  · rw [if_pos g1] at g
    rw [if_pos ((eq_app hp r 44 (by decide) (by decide) (by decide)).2 g1)]
    obtain ⟨e1, e2⟩ := dn_app (post := post) (r := r) (by rw [g1]; decide)
    rw [e2, digit_app hp]
    split at g
    · next g2 =>
      rw [if_pos g2]
      split at g
      · cases g
      · next m r3 e3 =>
        cases g
        rw [dnum_app hp e3]
    · next g2 =>
      cases g
      rw [if_neg g2]
  · rw [if_neg g1] at g
    rw [if_neg (fun x => g1 ((eq_app hp r 44 (by decide) (by decide) (by decide)).1 x))]
    cases g
    rfl
theorem dbounds_app {r r2 : List UInt8} {lo hi : Nat} {e b : Bool} (g : dbounds r = some (lo, hi, e, b, r2)) : dbounds (r ++ post) = some (lo, hi, e, b, r2 ++ post) := by
  unfold dbounds at g ⊢
  split at g
  · cases g
  · next n r1 e1 =>
    rw [dnum_app hp e1]
    simp only
    split at g
    · cases g
    · next h en r3 e2 =>
      rw [dbounds1_app hp e2]
      simp only
      split at g
      · next g3 =>
        cases g
        obtain ⟨e4, e5⟩ := dn_app (post := post) (r := r3) (by rw [g3]; decide)
        rw [e4, if_pos g3, e5]
      · cases g
omit hp in
theorem dmb_app {r r2 : List UInt8} {n : Nat} (h : dmb r = some (n, r2)) : dmb (r ++ post) = some (n, r2 ++ post) := by
  unfold dmb at h ⊢
  have hn : dnext r ≠ -1 := by
    intro e
    rw [e] at h
    simp [dany, e] at h
  obtain ⟨e1, e2⟩ := dn_app (post := post) hn
  rw [e1, e2]
  split at h
  · next g => rw [if_pos g]; exact dany_app h
  · next g =>
    rw [if_neg g]
    split at h
    · cases h
    · next g2 => rw [if_neg g2]; exact dany_app h
theorem dmember_app {r r2 : List UInt8} {ins i : List Bool} {b : Bool} (h : dmember ins r = some (i, b, r2)) : dmember ins (r ++ post) = some (i, b, r2 ++ post) := by
  unfold dmember at h ⊢
  split at h
  · cases h
  · next a r1 e1 =>
    rw [dmb_app e1]
    simp only
    by_cases g : dnext r1 = 45
    · rw [if_pos g] at h
      obtain ⟨e4, e5⟩ := dn_app (post := post) (r := r1) (by rw [g]; decide)
      rw [e4, if_pos g, e5]
      split at h
      · cases h
      · next b2 r3 e2 =>
        cases h
        rw [dmb_app e2]
    · rw [if_neg g] at h
      rw [if_neg (fun x => g ((eq_app hp r1 45 (by decide) (by decide) (by decide)).1 x))]
      cases h
      rfl
theorem dmembers_app : ∀ (f : Nat) (ins : List Bool) (b : Bool) (r : List UInt8) (i : List Bool) (b2 : Bool) (r2 : List UInt8) (k : Nat), dmembers f ins b r = some (i, b2, r2) → dmembers (f + k) ins b (r ++ post) = some (i, b2, r2 ++ post)
  | 0, _, _, _, _, _, _, _, h => by cases h
  | f + 1, ins, b, r, i, b2, r2, k, h => by
    rw [show f + 1 + k = (f + k) + 1 by omega]
    unfold dmembers at h ⊢
    by_cases g : dnext r = 93
    · rw [if_pos g] at h
      cases h
      obtain ⟨e4, e5⟩ := dn_app (post := post) (r := r) (by rw [g]; decide)
      rw [e4, if_pos g, e5]
    · rw [if_neg g] at h
      rw [if_neg (fun x => g ((eq_app hp r 93 (by decide) (by decide) (by decide)).1 x))]
      split at h
      · cases h
      · next i3 b3 r3 e =>
        rw [dmember_app hp e]
        exact dmembers_app f _ _ _ _ _ _ k h
theorem dcls1_app {r r2 : List UInt8} {i : List Bool} {b : Bool} (h : dcls1 r = some (i, b, r2)) : dcls1 (r ++ post) = some (i, b, r2 ++ post) := by
  unfold dcls1 at h ⊢
  split at h
  · cases h
  · next i1 b1 r1 e1 =>
    rw [dmember_app hp e1]
    simp only
    rw [show (r1 ++ post).length + 1 = r1.length + 1 + post.length by simp; omega]
    exact dmembers_app hp _ _ _ _ _ _ _ _ h
omit hp in
theorem dmember_ne {ins : List Bool} {r : List UInt8} {y : List Bool × Bool × List UInt8} (h : dmember ins r = some y) : dnext r ≠ -1 := by
  intro e
  have : dmb r = none := by unfold dmb; rw [if_neg (by rw [e]; decide), if_neg (by rw [e]; decide)]; unfold dany; rw [if_pos e]
  unfold dmember at h
  rw [this] at h
  cases h
theorem dcls_app {r r2 : List UInt8} {i : List Bool} {b : Bool} (hn : dnext r ≠ -1) (h : dcls r = some (i, b, r2)) : dcls (r ++ post) = some (i, b, r2 ++ post) := by
  unfold dcls at h ⊢
  obtain ⟨e4, e5⟩ := dn_app (post := post) hn
  rw [e5]
  by_cases g : dnext r.tail = 94
  · rw [if_pos g] at h
    obtain ⟨e6, e7⟩ := dn_app (post := post) (r := r.tail) (by rw [g]; decide)
    rw [e6, if_pos g, e7]
    split at h
    · cases h
    · next i1 b1 r1 e1 =>
      cases h
      rw [dcls1_app hp e1]
  · rw [if_neg g] at h
    rw [if_neg (fun x => g ((eq_app hp r.tail 94 (by decide) (by decide) (by decide)).1 x))]
    exact dcls1_app hp h
theorem dleaf_app {r r2 : List UInt8} {i : List Bool} {b : Bool} (h : dleaf r = some (i, b, r2)) : dleaf (r ++ post) = some (i, b, r2 ++ post) := by
  unfold dleaf at h ⊢
  by_cases g : stops (dnext r) = true
  · rw [if_pos g] at h; cases h
  rw [if_neg g] at h
  have hn := stops_none (by simpa using g)
  obtain ⟨e4, e5⟩ := dn_app (post := post) hn
  rw [e4, if_neg g, e5]
  by_cases g1 : dnext r = 91
  · rw [if_pos g1] at h ⊢
    exact dcls_app hp hn h
  rw [if_neg g1] at h ⊢
  by_cases g2 : dnext r = 46
  · rw [if_pos g2] at h ⊢
    cases h
    rfl
  rw [if_neg g2] at h ⊢
  by_cases g3 : dnext r = 92
  · rw [if_pos g3] at h ⊢
    split at h
    · cases h
    · next c r3 e =>
      cases h
      rw [dany_app e]
  rw [if_neg g3] at h ⊢
  cases h
  rfl
theorem drep_app {r r2 : List UInt8} {lo hi : Nat} {e b : Bool} (hn : dnext r ≠ -1) (g : drep r = some (lo, hi, e, b, r2)) : drep (r ++ post) = some (lo, hi, e, b, r2 ++ post) := by
  unfold drep at g ⊢
  obtain ⟨e4, e5⟩ := dn_app (post := post) hn
  rw [e4, e5]
  by_cases g1 : dnext r = 42
  · rw [if_pos g1] at g ⊢
    cases g; rfl
  rw [if_neg g1] at g ⊢
  by_cases g2 : dnext r = 43
  · rw [if_pos g2] at g ⊢
    cases g; rfl
  rw [if_neg g2] at g ⊢
  by_cases g3 : dnext r = 63
  · rw [if_pos g3] at g ⊢
    cases g; rfl
  rw [if_neg g3] at g ⊢
  exact dbounds_app hp g
/-- may it be read on, with post behind? -/
def DJob.may (post r : List UInt8) : DJob → Prop
  | .inl () => r ≠ [] ∨ dnext post ≠ 124
  | .inr (.inl _) => r ≠ [] ∨ dnext post ≠ 124
  | _ => True
omit hp in
theorem rep_ne {c : Int} (h : isRep c = true) : c ≠ -1 := by intro e; rw [e] at h; cases h
theorem dgo_app : ∀ (f : Nat) (j : DJob) (r : List UInt8) (d : Den) (r1 : List UInt8) (b : Bool) (m : Nat), dgo f j r = some (d, r1, b, m) → j.may post r1 → dgo f j (r ++ post) = some (d, r1 ++ post, b, m)
  | 0, _, _, _, _, _, _, h, _ => by cases h
  | f + 1, .inl (), r, d, r1, b, m, h, hm => by
    obtain ⟨d1, r2, b1, m1, d2, r3, b2, m2, h1, h2, e⟩ := after_inv h
    cases e
    exact after_eq (dgo_app f _ _ _ _ _ _ h1 trivial) (dgo_app f _ _ _ _ _ _ h2 hm)
  | f + 1, .inr (.inl d0), r, d, r1, b, m, h, hm => by
    unfold dgo at h ⊢
    by_cases g : dnext r = 124
    · rw [if_pos g] at h
      obtain ⟨e4, e5⟩ := dn_app (post := post) (r := r) (by rw [g]; decide)
      rw [e4, if_pos g, e5]
      obtain ⟨d1, r2, b1, m1, d2, r3, b2, m2, h1, h2, e⟩ := after_inv h
      cases e
      exact after_eq (dgo_app f _ _ _ _ _ _ h1 trivial) (dgo_app f _ _ _ _ _ _ h2 hm)
    · rw [if_neg g] at h
      cases h
      rw [if_neg]
      intro x
      rcases hm with hm | hm
      · cases r with
        | nil => exact hm rfl
        | cons a r => exact g x
      · cases r with
        | nil => exact hm x
        | cons a r => exact g x
  | f + 1, .inr (.inr (.inl ())), r, d, r1, b, m, h, hm => dgo_app f _ _ _ _ _ _ h trivial
  | f + 1, .inr (.inr (.inr (.inl d0))), r, d, r1, b, m, h, hm => by
    unfold dgo at h ⊢
    by_cases g : ends (dnext r) = true
    · rw [if_pos g] at h
      cases h
      rw [if_pos]
      cases r with
      | nil => exact hp
      | cons a r => exact g
    · rw [if_neg g] at h
      have hn : dnext r ≠ -1 := by intro e; rw [e] at g; exact g rfl
      obtain ⟨e4, e5⟩ := dn_app (post := post) hn
      rw [e4, if_neg g]
      obtain ⟨d1, r2, b1, m1, d2, r3, b2, m2, h1, h2, e⟩ := after_inv h
      cases e
      exact after_eq (dgo_app f _ _ _ _ _ _ h1 trivial) (dgo_app f _ _ _ _ _ _ h2 trivial)
  | f + 1, .inr (.inr (.inr (.inr (.inl ())))), r, d, r1, b, m, h, hm => by
    obtain ⟨d1, r2, b1, m1, d2, r3, b2, m2, h1, h2, e⟩ := after_inv h
    cases e
    exact after_eq (dgo_app f _ _ _ _ _ _ h1 trivial) (dgo_app f _ _ _ _ _ _ h2 trivial)
  | f + 1, .inr (.inr (.inr (.inr (.inr (.inl d0))))), r, d, r1, b, m, h, hm => by
    unfold dgo at h ⊢
    by_cases g : isRep (dnext r) = true
    · rw [if_pos g] at h
      obtain ⟨e4, e5⟩ := dn_app (post := post) (rep_ne g)
      rw [e4, if_pos g]
      split at h
      · cases h
      · next lo hi en b3 r4 e =>
        rw [drep_app hp (rep_ne g) e]
        simp only
        obtain ⟨d1, r2, b1, m1, d2, r3, b2, m2, h1, h2, e⟩ := after_inv h
        cases e
        cases h1
        exact after_eq rfl (dgo_app f _ _ _ _ _ _ h2 trivial)
    · rw [if_neg g] at h
      cases h
      rw [if_neg]
      cases r with
      | nil =>
        intro x
        rcases stop_cases hp with e | e | e <;> rw [List.nil_append, e] at x <;> cases x
      | cons a r => exact g
  | f + 1, .inr (.inr (.inr (.inr (.inr (.inr ()))))), r, d, r1, b, m, h, hm => by
    unfold dgo at h ⊢
    by_cases g : dnext r = 40
    · rw [if_pos g] at h
      obtain ⟨e4, e5⟩ := dn_app (post := post) (r := r) (by rw [g]; decide)
      rw [e4, if_pos g, e5]
      split at h
      · cases h
      · next d1 r2 b1 m1 e =>
        split at h
        · next g2 =>
          cases h
          have hr2 : r2 ≠ [] := by intro x; rw [x] at g2; cases g2
          rw [dgo_app f _ _ _ _ _ _ e (.inl hr2)]
          simp only
          obtain ⟨e6, e7⟩ := dn_app (post := post) (r := r2) (by rw [g2]; decide)
          rw [e6, if_pos g2, e7]
        · cases h
    · rw [if_neg g] at h
      split at h
      · cases h
      · next ins b1 r2 e =>
        cases h
        have hn : dnext r ≠ -1 := by
          intro x
          unfold dleaf at e
          rw [x, if_pos (by rfl)] at e
          cases e
        obtain ⟨e4, e5⟩ := dn_app (post := post) hn
        rw [e4, if_neg g, dleaf_app hp e]
omit hp in
/-- in brackets -/
theorem dgo_br {f : Nat} {x rest : List UInt8} {d : Den} {m : Nat} (h : dgo f .alt x = some (d, [], false, m)) : dgo (f + 1) .term (40 :: (x ++ (41 :: rest))) = some (d, rest, false, m + 1) := by
  have := dgo_app (post := 41 :: rest) (by rfl) f .alt x d [] false m h (.inr (by show ((41 : Nat) : Int) ≠ 124; decide))
  unfold dgo
  rw [if_pos (by rfl)]
  show (match dgo f .alt (x ++ (41 :: rest)) with | none => none | some (d, r1, b, m) => _) = _
  rw [this]
  rfl
theorem altL_app : ∀ (f g : Nat) (d0 : Den) (r : List UInt8) (d : Den) (b : Bool) (m : Nat) (d2 : Den) (r2 : List UInt8) (b2 : Bool) (m2 : Nat), dgo f (.altL d0) r = some (d, [], b, m) → dgo g (.altL d) post = some (d2, r2, b2, m2) → dgo (f + g) (.altL d0) (r ++ post) = some (d2, r2, b || b2, max m m2)
  | 0, _, _, _, _, _, _, _, _, _, _, h, _ => by cases h
  | f + 1, g, d0, r, d, b, m, d2, r2, b2, m2, h, h' => by
    rw [show f + 1 + g = (f + g) + 1 by omega]
    unfold dgo at h
    by_cases c : dnext r = 124
    · rw [if_pos c] at h
      obtain ⟨e4, e5⟩ := dn_app (post := post) (r := r) (by rw [c]; decide)
      obtain ⟨d3, r3, b3, m3, d4, r4, b4, m4, h1, h2, e⟩ := after_inv h
      cases e
      have a1 := dgo_more (dgo_app hp f _ _ _ _ _ _ h1 trivial) (Nat.le_add_right f g)
      have a2 := altL_app f g _ r3 _ _ _ _ _ _ _ h2 h'
      unfold dgo
      rw [e4, if_pos c, e5]
      rw [after_eq a1 a2]
      simp only [Bool.or_assoc, Option.some.injEq, Prod.mk.injEq, true_and]
      omega
    · rw [if_neg c] at h
      cases h
      rw [List.nil_append]
      refine (dgo_more h' (by omega)).trans ?_
      simp
/-- one pattern, and then more behind a line -/
theorem alt_app {f g : Nat} {x : List UInt8} {d : Den} {b : Bool} {m : Nat} {d2 : Den} {r2 : List UInt8} {b2 : Bool} {m2 : Nat} (h : dgo f .alt x = some (d, [], b, m)) (h' : dgo g (.altL d) post = some (d2, r2, b2, m2)) : dgo (f + g) .alt (x ++ post) = some (d2, r2, b || b2, max m m2) := by
  cases f with
  | zero => cases h
  | succ f =>
    rw [show f + 1 + g = (f + g) + 1 by omega]
    obtain ⟨d3, r3, b3, m3, d4, r4, b4, m4, h1, h2, e⟩ := after_inv h
    cases e
    have a1 := dgo_more (dgo_app hp f _ _ _ _ _ _ h1 trivial) (Nat.le_add_right f g)
    have a2 := altL_app hp f g _ r3 _ _ _ _ _ _ _ h2 h'
    unfold dgo
    rw [after_eq a1 a2]
    simp only [Bool.or_assoc, Option.some.injEq, Prod.mk.injEq, true_and]
    omega
omit hp in
/-- it matters not with what it was begun -/
theorem altL_with (x : Den) : ∀ (f : Nat) (y y2 : Den) (r : List UInt8) (d : Den) (r1 : List UInt8) (b : Bool) (m : Nat), (∀ u, y2.lang u ↔ (x.lang u ∨ y.lang u)) → dgo f (.altL y) r = some (d, r1, b, m) → ∃ d2, dgo f (.altL y2) r = some (d2, r1, b, m) ∧ ∀ u, d2.lang u ↔ (x.lang u ∨ d.lang u)
  | 0, _, _, _, _, _, _, _, _, h => by cases h
  | f + 1, y, y2, r, d, r1, b, m, hy, h => by
    unfold dgo at h ⊢
    by_cases c : dnext r = 124
    · rw [if_pos c] at h ⊢
      obtain ⟨d3, r3, b3, m3, d4, r4, b4, m4, h1, h2, e⟩ := after_inv h
      cases e
      obtain ⟨d5, e5, e6⟩ := altL_with x f (dAlt y d3) (dAlt y2 d3) r3 d r1 b4 m4 (fun u => by
        show (y2.lang u ∨ d3.lang u) ↔ (x.lang u ∨ (y.lang u ∨ d3.lang u))
        rw [hy u, or_assoc]) h2
      exact ⟨d5, after_eq h1 e5, e6⟩
    · rw [if_neg c] at h ⊢
      cases h
      exact ⟨y2, rfl, hy⟩
end Go.Proofs.Ytjmkkkfloalliab.Q
