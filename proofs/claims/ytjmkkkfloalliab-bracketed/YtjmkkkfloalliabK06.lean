import Derived.Test.YtjmkkkfloalliabK05
import Derived.Test.YtjmkkkfloalliabK01
import Derived.Deep.RegionHeld
import Derived.Deep.CutBlock
namespace Go.Proofs.Ytjmkkkfloalliab.Q
set_option linter.unusedVariables false

theorem after_eq {x : Out} {k : Den → List UInt8 → Out} {d d2 : Den} {r r2 : List UInt8} {b b2 : Bool} {m m2 : Nat} (h : x = some (d, r, b, m)) (g : k d r = some (d2, r2, b2, m2)) : after x k = some (d2, r2, b || b2, max m m2) := by
  subst h
  unfold after
  simp only
  rw [g]
theorem after_inv {x : Out} {k : Den → List UInt8 → Out} {y : Den × List UInt8 × Bool × Nat} (h : after x k = some y) : ∃ d r b m d2 r2 b2 m2, x = some (d, r, b, m) ∧ k d r = some (d2, r2, b2, m2) ∧ y = (d2, r2, b || b2, max m m2) := by
  unfold after at h
  split at h
  · cases h
  · next d r b m =>
    split at h
    · cases h
    · next d2 r2 b2 m2 e =>
      cases h
      exact ⟨d, r, b, m, d2, r2, b2, m2, rfl, e, rfl⟩
theorem dgo_mono : ∀ (f : Nat) (j : DJob) (r : List UInt8) (y : Den × List UInt8 × Bool × Nat), dgo f j r = some y → dgo (f + 1) j r = some y
  | 0, _, _, _, h => by cases h
  | f + 1, .inl (), r, y, h => by
    obtain ⟨d, r1, b, m, d2, r2, b2, m2, h1, h2, rfl⟩ := after_inv h
    exact after_eq (dgo_mono f _ _ _ h1) (dgo_mono f _ _ _ h2)
  | f + 1, .inr (.inl d), r, y, h => by
    unfold dgo at h ⊢
    split
    · next g =>
      rw [if_pos g] at h
      obtain ⟨d, r1, b, m, d2, r2, b2, m2, h1, h2, rfl⟩ := after_inv h
      exact after_eq (dgo_mono f _ _ _ h1) (dgo_mono f _ _ _ h2)
    · next g => rw [if_neg g] at h; exact h
  | f + 1, .inr (.inr (.inl ())), r, y, h => dgo_mono f _ _ _ h
  | f + 1, .inr (.inr (.inr (.inl d))), r, y, h => by
    unfold dgo at h ⊢
    split
    · next g => rw [if_pos g] at h; exact h
    · next g =>
      rw [if_neg g] at h
      obtain ⟨d, r1, b, m, d2, r2, b2, m2, h1, h2, rfl⟩ := after_inv h
      exact after_eq (dgo_mono f _ _ _ h1) (dgo_mono f _ _ _ h2)
  | f + 1, .inr (.inr (.inr (.inr (.inl ())))), r, y, h => by
    obtain ⟨d, r1, b, m, d2, r2, b2, m2, h1, h2, rfl⟩ := after_inv h
    exact after_eq (dgo_mono f _ _ _ h1) (dgo_mono f _ _ _ h2)
  | f + 1, .inr (.inr (.inr (.inr (.inr (.inl d))))), r, y, h => by
    unfold dgo at h ⊢
    split
    · next g =>
      rw [if_pos g] at h
      split
      · next e => rw [e] at h; cases h
      · next lo hi en b r1 e =>
        rw [e] at h
        obtain ⟨d, r1, b, m, d2, r2, b2, m2, h1, h2, rfl⟩ := after_inv h
        exact after_eq h1 (dgo_mono f _ _ _ h2)
    · next g => rw [if_neg g] at h; exact h
  | f + 1, .inr (.inr (.inr (.inr (.inr (.inr ()))))), r, y, h => by
    unfold dgo at h ⊢
    split
    · next g =>
      rw [if_pos g] at h
      split at h
      · cases h
      · next d r1 b m e =>
        rw [dgo_mono f _ _ _ e]
        exact h
    · next g => rw [if_neg g] at h; exact h
theorem dgo_more {f g : Nat} {j : DJob} {r : List UInt8} {y : Den × List UInt8 × Bool × Nat} (h : dgo f j r = some y) (hg : f ≤ g) : dgo g j r = some y := by
  obtain ⟨k, rfl⟩ : ∃ k, g = f + k := ⟨g - f, by omega⟩
  clear hg
  induction k with
  | zero => exact h
  | succ k ih => exact dgo_mono _ _ _ _ ih

/-! with something behind -/
variable {post : List UInt8}
theorem stop_cases {c : Int} (h : ends c = true) : c = -1 ∨ c = 124 ∨ c = 41 := by
  unfold ends at h
  simp only [Bool.or_eq_true, beq_iff_eq] at h
  omega
theorem dn_app {r : List UInt8} (h : dnext r ≠ -1) : dnext (r ++ post) = dnext r ∧ (r ++ post).tail = r.tail ++ post := by
  cases r with
  | nil => exact absurd rfl h
  | cons a r => exact ⟨rfl, rfl⟩
theorem dn_or (hp : ends (dnext post) = true) (r : List UInt8) : (dnext (r ++ post) = dnext r ∧ (dnext r ≠ -1 → (r ++ post).tail = r.tail ++ post)) ∨ (r = [] ∧ dnext r = -1 ∧ (dnext (r ++ post) = 124 ∨ dnext (r ++ post) = 41)) := by
  cases r with
  | nil =>
    rcases stop_cases hp with e | e
    · exact .inl ⟨e, fun h => absurd rfl h⟩
    · exact .inr ⟨rfl, rfl, e⟩
  | cons a r => exact .inl ⟨rfl, fun _ => rfl⟩
theorem digit_app (hp : ends (dnext post) = true) (r : List UInt8) : isDigit (dnext (r ++ post)) = isDigit (dnext r) := by
  rcases dn_or hp r with ⟨e, _⟩ | ⟨_, e, g⟩
  · rw [e]
  · rw [e]
    rcases g with g | g <;> rw [g] <;> rfl
theorem eq_app (hp : ends (dnext post) = true) (r : List UInt8) (c : Int) (h1 : c ≠ -1) (h2 : c ≠ 124) (h3 : c ≠ 41) : dnext (r ++ post) = c ↔ dnext r = c := by
  rcases dn_or hp r with ⟨e, _⟩ | ⟨_, e, g⟩
  · rw [e]
  · rw [e]; omega
theorem dany_app {r r2 : List UInt8} {n : Nat} (h : dany r = some (n, r2)) : dany (r ++ post) = some (n, r2 ++ post) := by
  unfold dany at h ⊢
  split at h
  · cases h
  · next g =>
    cases h
    obtain ⟨e1, e2⟩ := dn_app (post := post) g
    rw [e1, if_neg g, e2]
theorem dnum_app (hp : ends (dnext post) = true) {r r2 : List UInt8} {n : Nat} (h : dnum r = some (n, r2)) : dnum (r ++ post) = some (n, r2 ++ post) := by
  unfold dnum at h ⊢
  rw [digit_app hp]
  split at h
  · cases h
  · next g =>
    have hd : isDigit (dnext r) = true := by simpa using g
    obtain ⟨e1, e2⟩ := dn_app (post := post) (digit_next hd)
    rw [if_neg g, e1, e2, digit_app hp]
    split at h
    · next g2 =>
      obtain ⟨e3, e4⟩ := dn_app (post := post) (digit_next g2)
      cases h
      rw [if_pos g2, e3, e4]
    · next g2 =>
      cases h
      rw [if_neg g2]
theorem dbounds1_app (hp : ends (dnext post) = true) {r r2 : List UInt8} {n h : Nat} {e : Bool} (g : dbounds1 n r = some (h, e, r2)) : dbounds1 n (r ++ post) = some (h, e, r2 ++ post) := by
  unfold dbounds1 at g ⊢
  by_cases g1 : dnext r = 44
  · rw [if_pos g1] at g
    rw [if_pos ((eq_app hp r 44 (by decide) (by decide) (by decide)).2 g1)]
    obtain ⟨e1, e2⟩ := dn_app (post := post) (r := r) (by rw [g1]; decide)
    rw [e2, digit_app hp]
    split at g
    · next g2 =>
      rw [if_pos g2]
      split at g
      · cases g
      · next m r3 e3 =>
        cases g
        rw [dnum_app hp e3]
    · next g2 =>
      cases g
      rw [if_neg g2]
  · rw [if_neg g1] at g
    rw [if_neg (fun x => g1 ((eq_app hp r 44 (by decide) (by decide) (by decide)).1 x))]
    cases g
    rfl
theorem dbounds_app (hp : ends (dnext post) = true) {r r2 : List UInt8} {lo hi : Nat} {e b : Bool} (g : dbounds r = some (lo, hi, e, b, r2)) : dbounds (r ++ post) = some (lo, hi, e, b, r2 ++ post) := by
  unfold dbounds at g ⊢
  split at g
  · cases g
  · next n r1 e1 =>
    rw [dnum_app hp e1]
    simp only
    split at g
    · cases g
    · next h en r3 e2 =>
      rw [dbounds1_app hp e2]
      simp only
      split at g
      · next g3 =>
        cases g
        obtain ⟨e4, e5⟩ := dn_app (post := post) (r := r3) (by rw [g3]; decide)
        rw [e4, if_pos g3, e5]
      · cases g
theorem dmb_app {r r2 : List UInt8} {n : Nat} (h : dmb r = some (n, r2)) : dmb (r ++ post) = some (n, r2 ++ post) := by
  unfold dmb at h ⊢
  have hn : dnext r ≠ -1 := by
    intro e
    rw [e] at h
    simp [dany, e] at h
  obtain ⟨e1, e2⟩ := dn_app (post := post) hn
  rw [e1, e2]
  split at h
  · next g => rw [if_pos g]; exact dany_app h
  · next g =>
    rw [if_neg g]
    split at h
    · cases h
    · next g2 => rw [if_neg g2]; exact dany_app h
theorem dmember_app (hp : ends (dnext post) = true) {r r2 : List UInt8} {ins i : List Bool} {b : Bool} (h : dmember ins r = some (i, b, r2)) : dmember ins (r ++ post) = some (i, b, r2 ++ post) := by
  unfold dmember at h ⊢
  split at h
  · cases h
  · next a r1 e1 =>
    rw [dmb_app e1]
    simp only
    by_cases g : dnext r1 = 45
    · rw [if_pos g] at h
      obtain ⟨e4, e5⟩ := dn_app (post := post) (r := r1) (by rw [g]; decide)
      rw [e4, if_pos g, e5]
      split at h
      · cases h
      · next b2 r3 e2 =>
        cases h
        rw [dmb_app e2]
    · rw [if_neg g] at h
      rw [if_neg (fun x => g ((eq_app hp r1 45 (by decide) (by decide) (by decide)).1 x))]
      cases h
      rfl
theorem dmembers_app (hp : ends (dnext post) = true) : ∀ (f : Nat) (ins : List Bool) (b : Bool) (r : List UInt8) (i : List Bool) (b2 : Bool) (r2 : List UInt8) (k : Nat), dmembers f ins b r = some (i, b2, r2) → dmembers (f + k) ins b (r ++ post) = some (i, b2, r2 ++ post)
  | 0, _, _, _, _, _, _, _, h => by cases h
  | f + 1, ins, b, r, i, b2, r2, k, h => by
    rw [show f + 1 + k = (f + k) + 1 by omega]
    unfold dmembers at h ⊢
    by_cases g : dnext r = 93
    · rw [if_pos g] at h
      cases h
      obtain ⟨e4, e5⟩ := dn_app (post := post) (r := r) (by rw [g]; decide)
      rw [e4, if_pos g, e5]
    · rw [if_neg g] at h
      rw [if_neg (fun x => g ((eq_app hp r 93 (by decide) (by decide) (by decide)).1 x))]
      split at h
      · cases h
      · next i3 b3 r3 e =>
        rw [dmember_app hp e]
        exact dmembers_app hp f _ _ _ _ _ _ k h
theorem dcls1_app (hp : ends (dnext post) = true) {r r2 : List UInt8} {i : List Bool} {b : Bool} (h : dcls1 r = some (i, b, r2)) : dcls1 (r ++ post) = some (i, b, r2 ++ post) := by
  unfold dcls1 at h ⊢
  split at h
  · cases h
  · next i1 b1 r1 e1 =>
    rw [dmember_app hp e1]
    simp only
    rw [show (r1 ++ post).length + 1 = r1.length + 1 + post.length by simp; omega]
    exact dmembers_app hp _ _ _ _ _ _ _ _ h
theorem dmember_ne {ins : List Bool} {r : List UInt8} {y : List Bool × Bool × List UInt8} (h : dmember ins r = some y) : dnext r ≠ -1 := by
  intro e
  have : dmb r = none := by unfold dmb; rw [if_neg (by rw [e]; decide), if_neg (by rw [e]; decide)]; unfold dany; rw [if_pos e]
  unfold dmember at h
  rw [this] at h
  cases h
theorem dcls_app (hp : ends (dnext post) = true) {r r2 : List UInt8} {i : List Bool} {b : Bool} (hn : dnext r ≠ -1) (h : dcls r = some (i, b, r2)) : dcls (r ++ post) = some (i, b, r2 ++ post) := by
  unfold dcls at h ⊢
  obtain ⟨e4, e5⟩ := dn_app (post := post) hn
  rw [e5]
  by_cases g : dnext r.tail = 94
  · rw [if_pos g] at h
    obtain ⟨e6, e7⟩ := dn_app (post := post) (r := r.tail) (by rw [g]; decide)
    rw [e6, if_pos g, e7]
    split at h
    · cases h
    · next i1 b1 r1 e1 =>
      cases h
      rw [dcls1_app hp e1]
  · rw [if_neg g] at h
    rw [if_neg (fun x => g ((eq_app hp r.tail 94 (by decide) (by decide) (by decide)).1 x))]
    exact dcls1_app hp h
theorem dleaf_app (hp : ends (dnext post) = true) {r r2 : List UInt8} {i : List Bool} {b : Bool} (h : dleaf r = some (i, b, r2)) : dleaf (r ++ post) = some (i, b, r2 ++ post) := by
  unfold dleaf at h ⊢
  by_cases g : stops (dnext r) = true
  · rw [if_pos g] at h; cases h
  rw [if_neg g] at h
  have hn := stops_none (by simpa using g)
  obtain ⟨e4, e5⟩ := dn_app (post := post) hn
  rw [e4, if_neg g, e5]
  by_cases g1 : dnext r = 91
  · rw [if_pos g1] at h ⊢
    exact dcls_app hp hn h
  rw [if_neg g1] at h ⊢
  by_cases g2 : dnext r = 46
  · rw [if_pos g2] at h ⊢
    cases h
    rfl
  rw [if_neg g2] at h ⊢
  by_cases g3 : dnext r = 92
  · rw [if_pos g3] at h ⊢
    split at h
    · cases h
    · next c r3 e =>
      cases h
      rw [dany_app e]
  rw [if_neg g3] at h ⊢
  cases h
  rfl
theorem drep_app (hp : ends (dnext post) = true) {r r2 : List UInt8} {lo hi : Nat} {e b : Bool} (hn : dnext r ≠ -1) (g : drep r = some (lo, hi, e, b, r2)) : drep (r ++ post) = some (lo, hi, e, b, r2 ++ post) := by
  unfold drep at g ⊢
  obtain ⟨e4, e5⟩ := dn_app (post := post) hn
  rw [e4, e5]
  by_cases g1 : dnext r = 42
  · rw [if_pos g1] at g ⊢
    cases g; rfl
  rw [if_neg g1] at g ⊢
  by_cases g2 : dnext r = 43
  · rw [if_pos g2] at g ⊢
    cases g; rfl
  rw [if_neg g2] at g ⊢
  by_cases g3 : dnext r = 63
  · rw [if_pos g3] at g ⊢
    cases g; rfl
  rw [if_neg g3] at g ⊢
  exact dbounds_app hp g
/-- may it be read on, with post behind? -/
def DJob.may (post r : List UInt8) : DJob → Prop
  | .inl () => r ≠ [] ∨ dnext post ≠ 124
  | .inr (.inl _) => r ≠ [] ∨ dnext post ≠ 124
  | _ => True
theorem rep_ne {c : Int} (h : isRep c = true) : c ≠ -1 := by intro e; rw [e] at h; cases h
theorem dgo_app (hp : ends (dnext post) = true) : ∀ (f : Nat) (j : DJob) (r : List UInt8) (d : Den) (r1 : List UInt8) (b : Bool) (m : Nat), dgo f j r = some (d, r1, b, m) → j.may post r1 → dgo f j (r ++ post) = some (d, r1 ++ post, b, m)
  | 0, _, _, _, _, _, _, h, _ => by cases h
  | f + 1, .inl (), r, d, r1, b, m, h, hm => by
    obtain ⟨d1, r2, b1, m1, d2, r3, b2, m2, h1, h2, e⟩ := after_inv h
    cases e
    exact after_eq (dgo_app hp f _ _ _ _ _ _ h1 trivial) (dgo_app hp f _ _ _ _ _ _ h2 hm)
  | f + 1, .inr (.inl d0), r, d, r1, b, m, h, hm => by
    unfold dgo at h ⊢
    by_cases g : dnext r = 124
    · rw [if_pos g] at h
      obtain ⟨e4, e5⟩ := dn_app (post := post) (r := r) (by rw [g]; decide)
      rw [e4, if_pos g, e5]
      obtain ⟨d1, r2, b1, m1, d2, r3, b2, m2, h1, h2, e⟩ := after_inv h
      cases e
      exact after_eq (dgo_app hp f _ _ _ _ _ _ h1 trivial) (dgo_app hp f _ _ _ _ _ _ h2 hm)
    · rw [if_neg g] at h
      cases h
      rw [if_neg]
      intro x
      rcases hm with hm | hm
      · cases r with
        | nil => exact hm rfl
        | cons a r => exact g x
      · cases r with
        | nil => exact hm x
        | cons a r => exact g x
  | f + 1, .inr (.inr (.inl ())), r, d, r1, b, m, h, hm => dgo_app hp f _ _ _ _ _ _ h trivial
  | f + 1, .inr (.inr (.inr (.inl d0))), r, d, r1, b, m, h, hm => by
    unfold dgo at h ⊢
    by_cases g : ends (dnext r) = true
    · rw [if_pos g] at h
      cases h
      rw [if_pos]
      cases r with
      | nil => exact hp
      | cons a r => exact g
    · rw [if_neg g] at h
      have hn : dnext r ≠ -1 := by intro e; rw [e] at g; exact g rfl
      obtain ⟨e4, e5⟩ := dn_app (post := post) hn
      rw [e4, if_neg g]
      obtain ⟨d1, r2, b1, m1, d2, r3, b2, m2, h1, h2, e⟩ := after_inv h
      cases e
      exact after_eq (dgo_app hp f _ _ _ _ _ _ h1 trivial) (dgo_app hp f _ _ _ _ _ _ h2 trivial)
  | f + 1, .inr (.inr (.inr (.inr (.inl ())))), r, d, r1, b, m, h, hm => by
    obtain ⟨d1, r2, b1, m1, d2, r3, b2, m2, h1, h2, e⟩ := after_inv h
    cases e
    exact after_eq (dgo_app hp f _ _ _ _ _ _ h1 trivial) (dgo_app hp f _ _ _ _ _ _ h2 trivial)
  | f + 1, .inr (.inr (.inr (.inr (.inr (.inl d0))))), r, d, r1, b, m, h, hm => by
    unfold dgo at h ⊢
    by_cases g : isRep (dnext r) = true
    · rw [if_pos g] at h
      obtain ⟨e4, e5⟩ := dn_app (post := post) (rep_ne g)
      rw [e4, if_pos g]
      split at h
      · cases h
      · next lo hi en b3 r4 e =>
        rw [drep_app hp (rep_ne g) e]
        simp only
        obtain ⟨d1, r2, b1, m1, d2, r3, b2, m2, h1, h2, e⟩ := after_inv h
        cases e
        cases h1
        exact after_eq rfl (dgo_app hp f _ _ _ _ _ _ h2 trivial)
    · rw [if_neg g] at h
      cases h
      rw [if_neg]
      cases r with
      | nil =>
        intro x
        rcases stop_cases hp with e | e | e <;> rw [List.nil_append, e] at x <;> cases x
      | cons a r => exact g
  | f + 1, .inr (.inr (.inr (.inr (.inr (.inr ()))))), r, d, r1, b, m, h, hm => by
    unfold dgo at h ⊢
    by_cases g : dnext r = 40
    · rw [if_pos g] at h
      obtain ⟨e4, e5⟩ := dn_app (post := post) (r := r) (by rw [g]; decide)
      rw [e4, if_pos g, e5]
      split at h
      · cases h
      · next d1 r2 b1 m1 e =>
        split at h
        · next g2 =>
          cases h
          have hr2 : r2 ≠ [] := by intro x; rw [x] at g2; cases g2
          rw [dgo_app hp f _ _ _ _ _ _ e (.inl hr2)]
          simp only
          obtain ⟨e6, e7⟩ := dn_app (post := post) (r := r2) (by rw [g2]; decide)
          rw [e6, if_pos g2, e7]
        · cases h
    · rw [if_neg g] at h
      split at h
      · cases h
      · next ins b1 r2 e =>
        cases h
        have hn : dnext r ≠ -1 := by
          intro x
          unfold dleaf at e
          rw [x, if_pos (by rfl)] at e
          cases e
        obtain ⟨e4, e5⟩ := dn_app (post := post) hn
        rw [e4, if_neg g, dleaf_app hp e]
/-- in brackets -/
theorem dgo_br {f : Nat} {x rest : List UInt8} {d : Den} {m : Nat} (h : dgo f .alt x = some (d, [], false, m)) : dgo (f + 1) .term (40 :: (x ++ (41 :: rest))) = some (d, rest, false, m + 1) := by
  have := dgo_app (post := 41 :: rest) (by rfl) f .alt x d [] false m h (.inr (by show ((41 : Nat) : Int) ≠ 124; decide))
  unfold dgo
  rw [if_pos (by rfl)]
  show (match dgo f .alt (x ++ (41 :: rest)) with | none => none | some (d, r1, b, m) => _) = _
  rw [this]
  rfl
theorem altL_app (hp : ends (dnext post) = true) : ∀ (f g : Nat) (d0 : Den) (r : List UInt8) (d : Den) (b : Bool) (m : Nat) (d2 : Den) (r2 : List UInt8) (b2 : Bool) (m2 : Nat), dgo f (.altL d0) r = some (d, [], b, m) → dgo g (.altL d) post = some (d2, r2, b2, m2) → dgo (f + g) (.altL d0) (r ++ post) = some (d2, r2, b || b2, max m m2)
  | 0, _, _, _, _, _, _, _, _, _, _, h, _ => by cases h
  | f + 1, g, d0, r, d, b, m, d2, r2, b2, m2, h, h' => by
    rw [show f + 1 + g = (f + g) + 1 by omega]
    unfold dgo at h
    by_cases c : dnext r = 124
    · rw [if_pos c] at h
      obtain ⟨e4, e5⟩ := dn_app (post := post) (r := r) (by rw [c]; decide)
      obtain ⟨d3, r3, b3, m3, d4, r4, b4, m4, h1, h2, e⟩ := after_inv h
      cases e
      have a1 := dgo_more (dgo_app hp f _ _ _ _ _ _ h1 trivial) (Nat.le_add_right f g)
      have a2 := altL_app hp f g _ r3 _ _ _ _ _ _ _ h2 h'
      unfold dgo
      rw [e4, if_pos c, e5]
      rw [after_eq a1 a2]
      simp only [Bool.or_assoc, Option.some.injEq, Prod.mk.injEq, true_and]
      omega
    · rw [if_neg c] at h
      cases h
      rw [List.nil_append]
      refine (dgo_more h' (by omega)).trans ?_
      simp
/-- one pattern, and then more behind a line -/
theorem alt_app (hp : ends (dnext post) = true) {f g : Nat} {x : List UInt8} {d : Den} {b : Bool} {m : Nat} {d2 : Den} {r2 : List UInt8} {b2 : Bool} {m2 : Nat} (h : dgo f .alt x = some (d, [], b, m)) (h' : dgo g (.altL d) post = some (d2, r2, b2, m2)) : dgo (f + g) .alt (x ++ post) = some (d2, r2, b || b2, max m m2) := by
  cases f with
  | zero => cases h
  | succ f =>
    rw [show f + 1 + g = (f + g) + 1 by omega]
    obtain ⟨d3, r3, b3, m3, d4, r4, b4, m4, h1, h2, e⟩ := after_inv h
    cases e
    have a1 := dgo_more (dgo_app hp f _ _ _ _ _ _ h1 trivial) (Nat.le_add_right f g)
    have a2 := altL_app hp f g _ r3 _ _ _ _ _ _ _ h2 h'
    unfold dgo
    rw [after_eq a1 a2]
    simp only [Bool.or_assoc, Option.some.injEq, Prod.mk.injEq, true_and]
    omega
/-- it matters not with what it was begun -/
theorem altL_with (x : Den) : ∀ (f : Nat) (y y2 : Den) (r : List UInt8) (d : Den) (r1 : List UInt8) (b : Bool) (m : Nat), (∀ u, y2.lang u ↔ (x.lang u ∨ y.lang u)) → dgo f (.altL y) r = some (d, r1, b, m) → ∃ d2, dgo f (.altL y2) r = some (d2, r1, b, m) ∧ ∀ u, d2.lang u ↔ (x.lang u ∨ d.lang u)
  | 0, _, _, _, _, _, _, _, _, h => by cases h
  | f + 1, y, y2, r, d, r1, b, m, hy, h => by
    unfold dgo at h ⊢
    by_cases c : dnext r = 124
    · rw [if_pos c] at h ⊢
      obtain ⟨d3, r3, b3, m3, d4, r4, b4, m4, h1, h2, e⟩ := after_inv h
      cases e
      obtain ⟨d5, e5, e6⟩ := altL_with x f (dAlt y d3) (dAlt y2 d3) r3 d r1 b4 m4 (fun u => by
        show (y2.lang u ∨ d3.lang u) ↔ (x.lang u ∨ (y.lang u ∨ d3.lang u))
        rw [hy u, or_assoc]) h2
      exact ⟨d5, after_eq h1 e5, e6⟩
    · rw [if_neg c] at h ⊢
      cases h
      exact ⟨y2, rfl, hy⟩
end Go.Proofs.Ytjmkkkfloalliab.Q

namespace Go.Proofs.Ytjmkkkfloalliab.Q
set_option linter.unusedVariables false

theorem cutP_le (s : Bool) (n : Nat) : cutP s n ≤ n := by
  unfold cutP
  split
  · omega
  · split <;> omega
/-- it is a pattern, or too long or large -/
theorem parse_of {s : List UInt8} {d : Den} {m : Nat} (h : dgo (8 * s.length + 6) .alt s = some (d, [], false, m)) :
    (∃ E, parse s = .error (E, 0) ∧ (E = 1 ∨ E = 5)) ∨ ∃ P, parse s = .ok P ∧ ∀ u, acc P u = true ↔ (u ≠ [] ∧ d.lang u) := by
  obtain ⟨h1, h2, _⟩ := parse_den s
  by_cases hl : 40 < s.length
  · exact .inl ⟨1, h1 hl, .inl rfl⟩
  · obtain ⟨_, h4, h5⟩ := h2 (by omega) d false m h
    by_cases g : 6 < m ∨ 48 < d.places
    · exact .inl ⟨5, h4 rfl g, .inr rfl⟩
    · exact .inr (h5 rfl (by omega) (by omega))
theorem parse_small {s : List UInt8} {d : Den} {m : Nat} (h : dgo (8 * s.length + 6) .alt s = some (d, [], false, m)) (hl : s.length ≤ 40) (hm : m ≤ 6) (hp : d.places ≤ 48) : ∃ P, parse s = .ok P ∧ ∀ u, acc P u = true ↔ (u ≠ [] ∧ d.lang u) := by
  obtain ⟨h1, h2, _⟩ := parse_den s
  exact (h2 hl d false m h).2.2 rfl hm hp

section
variable {g : Nat} {r r1 r2 : List UInt8} {d d0 d1 d2 : Den} {b b1 b2 : Bool} {m m1 m2 : Nat}
theorem seqL_end (h : ends (dnext r) = true) : dgo (g + 1) (.seqL d) r = some (d, r, false, 0) := by
  unfold dgo; rw [if_pos h]
theorem seqL_step (h : ends (dnext r) = false) (h1 : dgo g .rep r = some (d1, r1, b1, m1)) (h2 : dgo g (.seqL (dCat d0 d1)) r1 = some (d2, r2, b2, m2)) : dgo (g + 1) (.seqL d0) r = some (d2, r2, b1 || b2, max m1 m2) := by
  unfold dgo
  rw [if_neg (by rw [h]; decide)]
  exact after_eq h1 h2
theorem repL_end (h : isRep (dnext r) = false) : dgo (g + 1) (.repL d) r = some (d, r, false, 0) := by
  unfold dgo; rw [if_neg (by rw [h]; decide)]
theorem repL_one {lo hi : Nat} {e : Bool} (h : isRep (dnext r) = true) (h1 : drep r = some (lo, hi, e, b, r1)) (h2 : isRep (dnext r1) = false) : dgo (g + 2) (.repL d) r = some (dRep d lo hi e, r1, b, 0) := by
  unfold dgo
  rw [if_pos h, h1]
  simp only
  rw [after_eq rfl (repL_end (g := g) h2)]
  simp
theorem rep_plain (h : dgo (g + 1) .term r = some (d1, r1, b1, m1)) (h2 : isRep (dnext r1) = false) : dgo (g + 2) .rep r = some (d1, r1, b1, m1) := by
  have := after_eq (k := fun d r1 => dgo (g + 1) (.repL d) r1) h (repL_end (g := g) h2)
  unfold dgo
  rw [this]
  simp
theorem rep_with {lo hi : Nat} {e : Bool} (h : dgo (g + 2) .term r = some (d1, r1, b1, m1)) (h1 : isRep (dnext r1) = true) (h2 : drep r1 = some (lo, hi, e, b, r2)) (h3 : isRep (dnext r2) = false) : dgo (g + 3) .rep r = some (dRep d1 lo hi e, r2, b1 || b, m1) := by
  have := after_eq (k := fun d r1 => dgo (g + 2) (.repL d) r1) h (repL_one (g := g) (d := d1) h1 h2 h3)
  unfold dgo
  rw [this]
  simp
theorem top_seq (h : dgo (g + 1) (.seqL dEps) r = some (d, [], b, m)) : dgo (g + 3) .alt r = some (d, [], b, m) := by
  have h2 : dgo (g + 2) .seq r = some (d, [], b, m) := h
  have := after_eq (k := fun d r1 => dgo (g + 2) (.altL d) r1) h2 (show dgo (g + 2) (.altL d) [] = some (d, [], false, 0) by unfold dgo; rw [if_neg (by decide)])
  unfold dgo
  rw [this]
  simp
end
variable {x : List UInt8} {d : Den} {m : Nat}
/-- in brackets, with a sign behind -/
theorem br_rep (h : dgo (8 * x.length + 6) .alt x = some (d, [], false, m)) {T : List UInt8} {lo hi : Nat} {e : Bool} (hT : isRep (dnext T) = true) (hd : drep T = some (lo, hi, e, false, [])) :
    ∃ d' m', dgo (8 * (40 :: (x ++ (41 :: T))).length + 6) .alt (40 :: (x ++ (41 :: T))) = some (d', [], false, m') ∧ ∀ u, d'.lang u ↔ ∃ k, lo ≤ k ∧ (e = true ∨ k ≤ hi) ∧ Pow d.lang k u := by
  have t1 := dgo_br (rest := T) h
  have t2 := rep_with (g := 8 * x.length + 6) (dgo_more t1 (by omega)) hT hd (by rfl)
  have t3 := seqL_step (g := 8 * x.length + 9) (d0 := dEps) (by rfl) t2 (seqL_end (g := 8 * x.length + 8) (by rfl))
  have t4 := top_seq (g := 8 * x.length + 9) t3
  refine ⟨_, _, dgo_more t4 (by simp; omega), fun u => ?_⟩
  constructor
  · rintro ⟨a, c, rfl, ha, hc⟩
    have ha2 : a = [] := ha
    subst ha2
    exact hc
  · intro hc
    exact ⟨[], u, rfl, rfl, hc⟩
/-- in brackets -/
theorem br_only (h : dgo (8 * x.length + 6) .alt x = some (d, [], false, m)) : ∃ d' m', dgo (8 * (40 :: (x ++ [41])).length + 6) .alt (40 :: (x ++ [41])) = some (d', [], false, m') ∧ ∀ u, d'.lang u ↔ d.lang u := by
  have t1 := dgo_br (rest := []) h
  have t2 := rep_plain (g := 8 * x.length + 6) t1 (by rfl)
  have t3 := seqL_step (g := 8 * x.length + 8) (d0 := dEps) (by rfl) t2 (seqL_end (g := 8 * x.length + 7) (by rfl))
  have t4 := top_seq (g := 8 * x.length + 8) t3
  refine ⟨_, _, dgo_more t4 (by simp; omega), fun u => ?_⟩
  constructor
  · rintro ⟨a, c, rfl, ha, hc⟩
    have ha2 : a = [] := ha
    subst ha2
    exact hc
  · intro hc
    exact ⟨[], u, rfl, rfl, hc⟩
theorem any_lang (c : UInt8) : (turn ins0).getD c.toNat false = true := by
  have hc := c.toNat_lt
  unfold turn ins0
  rw [List.getD_eq_getElem?_getD, List.getElem?_map, List.getElem?_replicate, if_pos hc]
  rfl
/-- in brackets, with any byte behind -/
theorem br_dot (h : dgo (8 * x.length + 6) .alt x = some (d, [], false, m)) : ∃ d' m', dgo (8 * (40 :: (x ++ [41, 46])).length + 6) .alt (40 :: (x ++ [41, 46])) = some (d', [], false, m') ∧ ∀ u, d'.lang u ↔ ∃ v c, u = v ++ [c] ∧ d.lang v := by
  have t1 := dgo_br (rest := [46]) h
  have t2 := rep_plain (g := 8 * x.length + 6) t1 (by rfl)
  have q1 : dgo (8 * x.length + 6 + 1) .term [46] = some (dByte (turn ins0), [], false, 0) := rfl
  have q2 := rep_plain q1 (by rfl)
  have t3 := seqL_step (g := 8 * x.length + 8) (d0 := dCat dEps d) (by rfl) q2 (seqL_end (g := 8 * x.length + 7) (by rfl))
  have t5 := seqL_step (g := 8 * x.length + 9) (d0 := dEps) (by rfl) (dgo_more t2 (by omega)) t3
  have t4 := top_seq (g := 8 * x.length + 9) t5
  refine ⟨_, _, dgo_more t4 (by simp; omega), fun u => ?_⟩
  constructor
  · rintro ⟨a, c, rfl, ⟨a2, c2, rfl, ha, hc⟩, ⟨z, rfl, _⟩⟩
    have ha2 : a2 = [] := ha
    subst ha2
    exact ⟨c2, z, rfl, hc⟩
  · rintro ⟨v, c, rfl, hv⟩
    exact ⟨v, [c], rfl, ⟨[], v, rfl, rfl, hv⟩, ⟨c, rfl, any_lang c⟩⟩
/-- with nothing ahead -/
theorem br_ahead (h : dgo (8 * x.length + 6) .alt x = some (d, [], false, m)) : ∃ d' m', dgo (8 * (40 :: 41 :: 40 :: (x ++ [41])).length + 6) .alt (40 :: 41 :: 40 :: (x ++ [41])) = some (d', [], false, m') ∧ ∀ u, d'.lang u ↔ d.lang u := by
  have q1 : dgo (8 * x.length + 6 + 1) .term (40 :: 41 :: 40 :: (x ++ [41])) = some (dEps, 40 :: (x ++ [41]), false, 1) := rfl
  have q2 := rep_plain q1 (by rfl)
  have t1 := dgo_br (rest := []) h
  have t2 := rep_plain (g := 8 * x.length + 6) t1 (by rfl)
  have t3 := seqL_step (g := 8 * x.length + 8) (d0 := dCat dEps dEps) (by rfl) t2 (seqL_end (g := 8 * x.length + 7) (by rfl))
  have t5 := seqL_step (g := 8 * x.length + 9) (d0 := dEps) (by rfl) (dgo_more q2 (by omega)) t3
  have t4 := top_seq (g := 8 * x.length + 9) t5
  refine ⟨_, _, dgo_more t4 (by simp; omega), fun u => ?_⟩
  constructor
  · rintro ⟨a, c, rfl, ⟨a2, c2, rfl, ha, hb⟩, hc⟩
    have ha2 : a2 = [] := ha
    have hb2 : c2 = [] := hb
    subst ha2; subst hb2
    exact hc
  · intro hc
    exact ⟨[], u, rfl, ⟨[], [], rfl, rfl, rfl⟩, hc⟩
/-- with nothing behind -/
theorem br_behind (h : dgo (8 * x.length + 6) .alt x = some (d, [], false, m)) : ∃ d' m', dgo (8 * (40 :: (x ++ [41, 40, 41])).length + 6) .alt (40 :: (x ++ [41, 40, 41])) = some (d', [], false, m') ∧ ∀ u, d'.lang u ↔ d.lang u := by
  have t1 := dgo_br (rest := [40, 41]) h
  have t2 := rep_plain (g := 8 * x.length + 6) t1 (by rfl)
  have q1 : dgo (8 * x.length + 6 + 1) .term [40, 41] = some (dEps, [], false, 1) := rfl
  have q2 := rep_plain q1 (by rfl)
  have t3 := seqL_step (g := 8 * x.length + 8) (d0 := dCat dEps d) (by rfl) q2 (seqL_end (g := 8 * x.length + 7) (by rfl))
  have t5 := seqL_step (g := 8 * x.length + 9) (d0 := dEps) (by rfl) (dgo_more t2 (by omega)) t3
  have t4 := top_seq (g := 8 * x.length + 9) t5
  refine ⟨_, _, dgo_more t4 (by simp; omega), fun u => ?_⟩
  constructor
  · rintro ⟨a, c, rfl, ⟨a2, c2, rfl, ha, hb⟩, hc⟩
    have ha2 : a2 = [] := ha
    have hc2 : c = [] := hc
    subst ha2; subst hc2
    simpa using hb
  · intro hc
    exact ⟨u, [], by simp, ⟨[], u, rfl, rfl, hc⟩, rfl⟩
/-- or nothing -/
theorem or_none (h : dgo (8 * x.length + 6) .alt x = some (d, [], false, m)) : ∃ d' m', dgo (8 * (x ++ [124]).length + 6) .alt (x ++ [124]) = some (d', [], false, m') ∧ ∀ u, d'.lang u ↔ (d.lang u ∨ u = []) := by
  have q1 : dgo 8 (.altL d) [124] = some (dAlt d dEps, [], false, 0) := rfl
  have t1 := alt_app (post := [124]) (by rfl) h q1
  refine ⟨_, _, dgo_more t1 (by simp; omega), fun u => Iff.rfl⟩
/-- or nothing, in brackets -/
theorem or_none_br (h : dgo (8 * x.length + 6) .alt x = some (d, [], false, m)) : ∃ d' m', dgo (8 * (40 :: (x ++ [124, 40, 41, 41])).length + 6) .alt (40 :: (x ++ [124, 40, 41, 41])) = some (d', [], false, m') ∧ ∀ u, d'.lang u ↔ (d.lang u ∨ u = []) := by
  have q1 : dgo 16 (.altL d) [124, 40, 41, 41] = some (dAlt d (dCat dEps dEps), [41], false, 1) := rfl
  have t1 := alt_app (post := [124, 40, 41, 41]) (by rfl) h q1
  have t2 : dgo (8 * x.length + 6 + 16 + 1) .term (40 :: (x ++ [124, 40, 41, 41])) = some (dAlt d (dCat dEps dEps), [], false, max m 1 + 1) := by
    unfold dgo
    rw [if_pos (by rfl)]
    show (match dgo (8 * x.length + 6 + 16) .alt (x ++ [124, 40, 41, 41]) with | none => none | some (d, r1, b, m) => _) = _
    rw [t1]
    rfl
  have t3 := rep_plain t2 (by rfl)
  have t4 := seqL_step (g := 8 * x.length + 6 + 16 + 2) (d0 := dEps) (by rfl) t3 (seqL_end (g := 8 * x.length + 6 + 16 + 1) (by rfl))
  have t5 := top_seq t4
  refine ⟨_, _, dgo_more t5 (by simp; omega), fun u => ?_⟩
  constructor
  · rintro ⟨a, c, rfl, ha, hc | ⟨a2, c2, rfl, hb, hc⟩⟩
    · have ha2 : a = [] := ha
      subst ha2
      exact .inl hc
    · have ha2 : a = [] := ha
      have hb2 : a2 = [] := hb
      have hc2 : c2 = [] := hc
      subst ha2; subst hb2; subst hc2
      exact .inr rfl
  · rintro (hc | rfl)
    · exact ⟨[], u, rfl, rfl, .inl hc⟩
    · exact ⟨[], [], rfl, rfl, .inr ⟨[], [], rfl, rfl, rfl⟩⟩
theorem none_lang (c : UInt8) : ¬ (turn (setRange ins0 0 255)).getD c.toNat false = true := by
  have hc := c.toNat_lt
  unfold turn setRange
  rw [List.getD_eq_getElem?_getD, List.getElem?_map, List.getElem?_map, List.getElem?_range hc]
  simp
  intro _
  omega
/-- or what no byte is -/
theorem or_no_byte (h : dgo (8 * x.length + 6) .alt x = some (d, [], false, m)) : ∃ d' m', dgo (8 * (x ++ [124, 91, 94, 0, 45, 255, 93]).length + 6) .alt (x ++ [124, 91, 94, 0, 45, 255, 93]) = some (d', [], false, m') ∧ ∀ u, d'.lang u ↔ d.lang u := by
  have q1 : dgo 16 (.altL d) [124, 91, 94, 0, 45, 255, 93] = some (dAlt d (dCat dEps (dByte (turn (setRange ins0 0 255)))), [], false, 0) := rfl
  have t1 := alt_app (post := [124, 91, 94, 0, 45, 255, 93]) (by rfl) h q1
  refine ⟨_, _, dgo_more t1 (by simp; omega), fun u => ?_⟩
  constructor
  · rintro (hc | ⟨a, c, _, _, z, _, hz⟩)
    · exact hc
    · exact absurd hz (none_lang z)
  · intro hc
    exact .inl hc
/-- or another pattern -/
theorem or_other (h : dgo (8 * x.length + 6) .alt x = some (d, [], false, m)) {y : List UInt8} {dy : Den} {my : Nat} (hy : dgo (8 * y.length + 6) .alt y = some (dy, [], false, my)) :
    ∃ d' m', dgo (8 * (x ++ 124 :: y).length + 6) .alt (x ++ 124 :: y) = some (d', [], false, m') ∧ ∀ u, d'.lang u ↔ (d.lang u ∨ dy.lang u) := by
  obtain ⟨d1, r1, b1, m1, d2, r2, b2, m2, e1, e2, e3⟩ := after_inv (x := dgo (8 * y.length + 5) .seq y) (k := fun d r1 => dgo (8 * y.length + 5) (.altL d) r1) hy
  simp only [Prod.mk.injEq] at e3
  obtain ⟨rfl, rfl, e4, rfl⟩ := e3
  have e5 := Bool.or_eq_false_iff.1 e4.symm
  obtain ⟨d5, q1, q2⟩ := altL_with d _ d1 (dAlt d d1) r1 dy [] b2 m2 (fun u => Iff.rfl) e2
  have q3 : dgo (8 * y.length + 6) (.altL d) (124 :: y) = some (d5, [], b1 || b2, max m1 m2) := by
    unfold dgo
    rw [if_pos (by rfl)]
    exact after_eq e1 q1
  have t1 := alt_app (post := 124 :: y) (by rfl) h q3
  rw [e5.1, e5.2] at t1
  refine ⟨_, _, dgo_more t1 (by simp; omega), q2⟩
end Go.Proofs.Ytjmkkkfloalliab.Q

namespace Go.Proofs.Ytjmkkkfloalliab.Q
set_option linter.unusedVariables false

/-- a text that A takes, not empty, begins at p -/
def At (t : List UInt8) (A : Lang) (p : Nat) : Prop := ∃ u, M.pre u (t.drop p) = true ∧ u ≠ [] ∧ A u
theorem mem_at {t : List UInt8} {P : Pat} {A : Lang} (h : ∀ u, acc P u = true ↔ (u ≠ [] ∧ A u)) {p : Nat} : p ∈ hits t P ↔ p ≤ t.length ∧ At t A p := by
  rw [mem_hits]
  refine and_congr_right fun _ => ?_
  constructor
  · rintro ⟨u, a, b⟩
    exact ⟨u, a, (h u).1 b⟩
  · rintro ⟨u, a, b⟩
    exact ⟨u, a, (h u).2 b⟩
theorem At.lt {t : List UInt8} {A : Lang} {p : Nat} (h : At t A p) : p < t.length := by
  obtain ⟨u, a, b, _⟩ := h
  rcases Nat.lt_or_ge p t.length with g | g
  · exact g
  · rw [List.drop_of_length_le g] at a
    obtain ⟨y, e⟩ := (M.pre_iff u []).1 a
    exact absurd (List.append_eq_nil_iff.1 e.symm).1 b
theorem hits_of {t : List UInt8} {P P' : Pat} {A B : Lang} (h : ∀ u, acc P u = true ↔ (u ≠ [] ∧ A u)) (h' : ∀ u, acc P' u = true ↔ (u ≠ [] ∧ B u)) (g : ∀ p, At t A p ↔ At t B p) : hits t P = hits t P' := by
  refine rise_ext (hits_rise t P) (hits_rise t P') fun p => ?_
  rw [mem_at h, mem_at h', g p]
theorem pow_first {A : Lang} : ∀ {k : Nat} {u : List UInt8}, Pow A k u → u ≠ [] → ∃ x y, u = x ++ y ∧ x ≠ [] ∧ A x
  | 0, u, h, g => absurd h g
  | k + 1, u, ⟨x, y, e, h1, h2⟩, g => by
    by_cases hx : x = []
    · subst hx
      have e2 : u = y := e
      subst e2
      exact pow_first h2 g
    · exact ⟨x, y, e, hx, h1⟩
theorem pre_more {u x y v : List UInt8} (h : M.pre u v = true) (e : u = x ++ y) : M.pre x v = true := by
  obtain ⟨z, e2⟩ := (M.pre_iff u v).1 h
  exact (M.pre_iff x v).2 ⟨y ++ z, by rw [e2, e, List.append_assoc]⟩
theorem at_rep {t : List UInt8} {A : Lang} {lo hi : Nat} {e : Bool} {p : Nat} (h : At t (fun u => ∃ k, lo ≤ k ∧ (e = true ∨ k ≤ hi) ∧ Pow A k u) p) : At t A p := by
  obtain ⟨u, a, b, k, _, _, c⟩ := h
  obtain ⟨x, y, e, hx, hA⟩ := pow_first c b
  exact ⟨x, pre_more a e, hx, hA⟩
theorem rep_at {t : List UInt8} {A : Lang} {lo hi : Nat} {e : Bool} {p : Nat} (h1 : lo ≤ 1) (h2 : e = true ∨ 1 ≤ hi) (h : At t A p) : At t (fun u => ∃ k, lo ≤ k ∧ (e = true ∨ k ≤ hi) ∧ Pow A k u) p := by
  obtain ⟨u, a, b, c⟩ := h
  exact ⟨u, a, b, 1, h1, h2, pow_one.2 c⟩
theorem hits_nil {t : List UInt8} {P : Pat} {A : Lang} (h : ∀ u, acc P u = true ↔ (u ≠ [] ∧ A u)) (g : ∀ u, A u → u = []) : hits t P = [] := by
  cases e : hits t P with
  | nil => rfl
  | cons p l =>
    have : p ∈ hits t P := by rw [e]; exact List.mem_cons_self
    obtain ⟨_, u, _, a, b⟩ := (mem_at h).1 this
    exact absurd (g u b) a

/-- k of a and m of b have been laid into l -/
structure Mg (a b : List Nat) (k m : Nat) (l : List Nat) : Prop where
  len : l.length ≤ k + m
  rise : l.Pairwise (· < ·)
  mem : ∀ x, x ∈ l ↔ ((∃ i, i < k ∧ x = a.getD i 0) ∨ ∃ j, j < m ∧ x = b.getD j 0)
  lt : ∀ x, x ∈ l → (∀ i, k ≤ i → i < a.length → x < a.getD i 0) ∧ ∀ j, m ≤ j → j < b.length → x < b.getD j 0
variable {a b : List Nat} {k m : Nat} {l : List Nat}
theorem Mg.zero : Mg a b 0 0 [] := ⟨by simp, List.Pairwise.nil, fun x => by simp, fun x h => by simp at h⟩
theorem pairwise_snoc {l : List Nat} {y : Nat} (h : l.Pairwise (· < ·)) (g : ∀ x, x ∈ l → x < y) : (l ++ [y]).Pairwise (· < ·) := by
  rw [List.pairwise_append]
  exact ⟨h, by simp, fun x hx z hz => by simp at hz; subst hz; exact g x hx⟩
def Rise (a : List Nat) : Prop := ∀ i j, i < j → j < a.length → a.getD i 0 < a.getD j 0
theorem Mg.stepA (h : Mg a b k m l) (ha : Rise a) (hb : Rise b) (hk : k < a.length) (g : m = b.length ∨ a.getD k 0 < b.getD m 0) : Mg a b (k + 1) m (l ++ [a.getD k 0]) := by
  refine ⟨by have := h.len; simp; omega, pairwise_snoc h.rise fun x hx => (h.lt x hx).1 k (Nat.le_refl _) hk, fun x => ?_, fun x hx => ?_⟩
  · rw [List.mem_append, h.mem, List.mem_singleton]
    constructor
    · rintro ((⟨i, h1, h2⟩ | h1) | h1)
      · exact .inl ⟨i, by omega, h2⟩
      · exact .inr h1
      · exact .inl ⟨k, by omega, h1⟩
    · rintro (⟨i, h1, h2⟩ | h1)
      · rcases Nat.lt_or_ge i k with g | g
        · exact .inl (.inl ⟨i, g, h2⟩)
        · have : i = k := by omega
          subst this
          exact .inr h2
      · exact .inl (.inr h1)
  · rcases List.mem_append.1 hx with hx | hx
    · exact ⟨fun i h1 h2 => (h.lt x hx).1 i (by omega) h2, (h.lt x hx).2⟩
    · have hx := List.mem_singleton.1 hx
      subst hx
      refine ⟨fun i h1 h2 => ha k i (by omega) h2, fun j h1 h2 => ?_⟩
      rcases g with g | g
      · omega
      · rcases Nat.eq_or_lt_of_le h1 with e | e
        · subst e; exact g
        · exact Nat.lt_trans g (hb m j e h2)
theorem Mg.swap (h : Mg a b k m l) : Mg b a m k l := ⟨by have := h.len; omega, h.rise, fun x => by rw [h.mem x, or_comm], fun x hx => ⟨(h.lt x hx).2, (h.lt x hx).1⟩⟩
theorem Mg.stepB (h : Mg a b k m l) (ha : Rise a) (hb : Rise b) (hm : m < b.length) (g : k = a.length ∨ b.getD m 0 < a.getD k 0) : Mg a b k (m + 1) (l ++ [b.getD m 0]) := (h.swap.stepA hb ha hm g).swap
theorem Mg.stepC (h : Mg a b k m l) (ha : Rise a) (hb : Rise b) (hk : k < a.length) (hm : m < b.length) (g : a.getD k 0 = b.getD m 0) : Mg a b (k + 1) (m + 1) (l ++ [a.getD k 0]) := by
  refine ⟨by have := h.len; simp; omega, pairwise_snoc h.rise fun x hx => (h.lt x hx).1 k (Nat.le_refl _) hk, fun x => ?_, fun x hx => ?_⟩
  · rw [List.mem_append, h.mem, List.mem_singleton]
    constructor
    · rintro ((⟨i, h1, h2⟩ | ⟨j, h1, h2⟩) | h1)
      · exact .inl ⟨i, by omega, h2⟩
      · exact .inr ⟨j, by omega, h2⟩
      · exact .inl ⟨k, by omega, h1⟩
    · rintro (⟨i, h1, h2⟩ | ⟨j, h1, h2⟩)
      · rcases Nat.lt_or_ge i k with g2 | g2
        · exact .inl (.inl ⟨i, g2, h2⟩)
        · have : i = k := by omega
          subst this
          exact .inr h2
      · rcases Nat.lt_or_ge j m with g2 | g2
        · exact .inl (.inr ⟨j, g2, h2⟩)
        · have : j = m := by omega
          subst this
          exact .inr (by rw [h2, g])
  · rcases List.mem_append.1 hx with hx | hx
    · exact ⟨fun i h1 h2 => (h.lt x hx).1 i (by omega) h2, fun j h1 h2 => (h.lt x hx).2 j (by omega) h2⟩
    · have hx := List.mem_singleton.1 hx
      subst hx
      exact ⟨fun i h1 h2 => ha k i (by omega) h2, fun j h1 h2 => by rw [g]; exact hb m j (by omega) h2⟩
theorem mem_getD {a : List Nat} {x : Nat} : x ∈ a ↔ ∃ i, i < a.length ∧ x = a.getD i 0 := by
  constructor
  · intro h
    obtain ⟨i, hi, e⟩ := List.getElem_of_mem h
    exact ⟨i, hi, by rw [List.getD_eq_getElem?_getD, List.getElem?_eq_getElem hi]; exact e.symm⟩
  · rintro ⟨i, hi, e⟩
    rw [e, List.getD_eq_getElem?_getD, List.getElem?_eq_getElem hi]
    exact List.getElem_mem hi
theorem Mg.done (h : Mg a b a.length b.length l) {H : List Nat} (hr : H.Pairwise (· < ·)) (hm : ∀ x, x ∈ H ↔ (x ∈ a ∨ x ∈ b)) : l = H := by
  refine rise_ext h.rise hr fun x => ?_
  rw [h.mem x, hm x, mem_getD, mem_getD]
theorem rise_of {a : List Nat} (h : a.Pairwise (· < ·)) : Rise a := by
  intro i j hij hj
  rw [List.getD_eq_getElem?_getD, List.getD_eq_getElem?_getD, List.getElem?_eq_getElem hj, List.getElem?_eq_getElem (by omega)]
  exact (List.pairwise_iff_getElem.1 h) i j _ _ hij
end Go.Proofs.Ytjmkkkfloalliab.Q

namespace Go.Proofs.Ytjmkkkfloalliab
set_option linter.unusedVariables false
open Go.RowKit

theorem sli_own {w : World} {B : Nat} {v : Value} {l : List Nat} (h : w.ownsRow B 3 1 v l.length (ints (natI l))) : SlI w v l := by
  by_cases hn : v = .slice none 0 0
  · subst hn
    have : l.length = 0 := by
      obtain ⟨_, ⟨_, e⟩ | ⟨g, cap, cur, e, _⟩⟩ := h
      · omega
      · cases e
    obtain rfl := List.length_eq_zero_iff.1 this
    exact SlI.nil w
  · obtain ⟨g, cap, rfl, hg, hrow⟩ := own_open h hn
    cases l with
    | nil => exact .inl ⟨rfl, _, _, rfl⟩
    | cons x y =>
      refine .inr ⟨by simp, g, cap, rfl, hrow.lt, fun i hi => ?_⟩
      have hrow2 : IRow w g cap (natI (x :: y)) := by
        unfold IRow
        rw [natI_len]
        exact hrow
      rw [hrow2.cell i (by rw [natI_len]; exact hi), natI_at]
theorem own_drewN {w : World} {base : Nat} {e : TypeId} {size : Nat} {v : Value} {n : Nat} {xs : List Value} (h : w.ownsRow base e size v n xs) (k : Nat) : (w.drewN k).ownsRow base e size v n xs := h
theorem cell_new (w : World) (n : Nat) (x : Value) (T : TypeId) : ((w.drewN n).alloc (.cells #[x] T)).cell? ⟨w.heap.size, 0, none⟩ = some x := by
  have h : ∀ w' : World, (w'.alloc (.cells #[x] T)).cell? ⟨w'.heap.size, 0, none⟩ = some x := fun w' => by simp
  exact h (w.drewN n)
theorem sli_cells {w : World} {g n m : Nat} {l : List Nat} (h : SlI w (.slice (some ⟨g, 0, none⟩) n m) l) (i : Nat) (hi : i < l.length) : g < w.heap.size ∧ w.cell? ⟨g, i, none⟩ = some (.int .i64 ((l.getD i 0 : Nat) : Int)) := by
  rcases h with ⟨rfl, _⟩ | ⟨_, b, cap, e, hb, hc⟩
  · simp at hi
  · cases e
    exact ⟨hb, hc i hi⟩

set_option maxRecDepth 100000 in
set_option maxHeartbeats 3200000 in
theorem union_any (w : World) (ga gb : Nat) (a b H : List Nat) (hA : SlI w (.slice (some ⟨ga, 0, none⟩) a.length a.length) a) (hB : SlI w (.slice (some ⟨gb, 0, none⟩) b.length b.length) b) (la : a.length ≤ 1000) (lb : b.length ≤ 1000) (ra : a.Pairwise (· < ·)) (rb : b.Pairwise (· < ·)) (rH : H.Pairwise (· < ·)) (hH : ∀ x, x ∈ H ↔ (x ∈ a ∨ x ∈ b)) (ba : ∀ i, i < a.length → a.getD i 0 ≤ 1000) (bb : ∀ i, i < b.length → b.getD i 0 ≤ 1000) :
    Calls Try.prog 36 #[.slice (some ⟨ga, 0, none⟩) a.length a.length, .slice (some ⟨gb, 0, none⟩) b.length b.length] w fun e w' => ∃ v, e = .returned v ∧ SlI w' v H ∧ Below w.heap.size w w' := by
  have HA : Hid (∀ i, i < a.length → ga < w.heap.size ∧ w.cell? ⟨ga, i, none⟩ = some (.int .i64 ((a.getD i 0 : Nat) : Int))) := fun i hi => sli_cells hA i hi
  have HB : Hid (∀ i, i < b.length → gb < w.heap.size ∧ w.cell? ⟨gb, i, none⟩ = some (.int .i64 ((b.getD i 0 : Nat) : Int))) := fun i hi => sli_cells hB i hi
  have RA : Hid (Q.Rise a) := Q.rise_of ra
  have RB : Hid (Q.Rise b) := Q.rise_of rb
  have HDN : Hid (∀ l, Q.Mg a b a.length b.length l → l = H) := fun l h => h.done rH hH
  have BA := hid ba
  have BB := hid bb
  clear hA hB ra rb rH hH ba bb
  obtain ⟨i0, hi, hz0, hz1, hz2⟩ := info_int
  go_enter Try.func36, Try.ntmps36
  go_wp2_with fail
  go_loopw [5, 6, 7] (fun v i j wr => ∃ (k m : Nat) (l : List Nat), i = .int .i64 k ∧ j = .int .i64 m ∧ k ≤ a.length ∧ m ≤ b.length ∧ Q.Mg a b k m l ∧ wr.ownsRow w.heap.size 3 1 v l.length (ints (natI l)) ∧ Below w.heap.size w wr) (fun _ i j _ => (a.length - (intOf i).toNat) + (b.length - (intOf j).toNat))
  case atStart => exact ⟨0, 0, [], rfl, rfl, by omega, by omega, Q.Mg.zero, World.ownsRow_nil _ _ _ _, Below.refl _ _⟩
  case round =>
    obtain ⟨k, m, l, rfl, rfl, hk, hm, hM, hown, hB⟩ := hrel
    have hll := hM.len
    have HM := hid hM
    clear hM
    have k0 : (0 : Int) ≤ (k : Int) := by omega
    have m0 : (0 : Int) ≤ (m : Int) := by omega
    rcases Nat.lt_or_ge k a.length with hk1 | hk1
    · obtain ⟨hga, hca⟩ := HA.out k hk1
      have ca : wr.cell? ⟨ga, k, none⟩ = some (.int .i64 ((a.getD k 0 : Nat) : Int)) := (hB.cell hga).trans hca
      have k1 : (k : Int) < (a.length : Int) := by omega
      have bx := BA.out k hk1
      clear hca
      rcases Nat.lt_or_ge m b.length with hm1 | hm1
      · obtain ⟨hgb, hcb⟩ := HB.out m hm1
        have cb : wr.cell? ⟨gb, m, none⟩ = some (.int .i64 ((b.getD m 0 : Nat) : Int)) := (hB.cell hgb).trans hcb
        have m1 : (m : Int) < (b.length : Int) := by omega
        have by_ := BB.out m hm1
        have q1 : ((m : Int) == (b.length : Int)) = false := by simp; omega
        have q1' : decide ((m : Int) = (b.length : Int)) = false := decide_eq_false (by omega)
        clear hcb
        rcases Nat.lt_trichotomy (a.getD k 0) (b.getD m 0) with hc | hc | hc
        · have HST := hid (HM.out.stepA RA.out RB.out hk1 (.inr hc))
          have q2 : decide (((a.getD k 0 : Nat) : Int) < ((b.getD m 0 : Nat) : Int)) = true := decide_eq_true (by omega)
          clear HM hc
          obtain ⟨xi, hxi⟩ : ∃ z : Int, z = ((a.getD k 0 : Nat) : Int) := ⟨_, rfl⟩
          (try rw [← hxi] at ca)
          (try rw [← hxi] at cb)
          (try rw [← hxi] at q2)
          (try rw [← hxi] at q3)
          have HXI := hid hxi
          clear hxi
          generalize a.getD k 0 = x at *
          obtain ⟨yi, hyi⟩ : ∃ z : Int, z = ((b.getD m 0 : Nat) : Int) := ⟨_, rfl⟩
          (try rw [← hyi] at ca)
          (try rw [← hyi] at cb)
          (try rw [← hyi] at q2)
          (try rw [← hyi] at q3)
          have HYI := hid hyi
          clear hyi
          generalize b.getD m 0 = y at *
          go_wp2_with fail
          go_quiet (fail)
          go_wp2_with ((at_builtin; refine wpList_append_own _ rfl _ _ 40 rfl w.heap.size 3 i0 (.int .i64 0) 1 8 Try.underlying40 hi hz0 hz1 hz2 rfl (by decide) _ _ _ rfl ((own_drewN hown _).alloc _) ⟨wr.heap.size, 0, none⟩ 1 1 [.int .i64 xi] rfl rfl ?c1 ?c2 ?c3 ?c4 ?c5 ?_))
          case c1 =>
            intro j u hj
            match j, hj with
            | 0, hj => simp at hj; subst hj; simp [Addr.add]; exact cell_new _ _ _ _
          case c2 => intro u hu; simp at hu; subst hu; rfl
          case c3 => unfold maxLen; omega
          case c4 => omega
          case c5 => have := hB.size; simp; omega
          · intro v' w1 hown' hgrow hnil
            have hb1 : Below w.heap.size w w1 := below_grown ((below_drewN hB _).alloc hB.size _) hgrow (by have := hB.size; simp; omega) ((own_drewN hown _).alloc _) (Nat.le_refl _)
            have hown2 : w1.ownsRow w.heap.size 3 1 v' (l ++ [x]).length (ints (natI (l ++ [x]))) := by
              rw [List.length_append]
              have e2 : ints (natI (l ++ [x])) = ints (natI l) ++ [.int .i64 xi] := by rw [HXI.out]; simp [ints, natI]
              rw [e2]
              exact hown'
            clear hnil hown' hgrow hB hown
            go_wp2
            go_roundw
            case rel => exact ⟨k + 1, m, l ++ [x], by go_num, by go_num, by omega, by omega, HST.out, hown2, hb1⟩
            case measure => simp [intOf]; omega
        · have HST := hid (HM.out.stepC RA.out RB.out hk1 hm1 hc)
          have q2 : decide (((a.getD k 0 : Nat) : Int) < ((b.getD m 0 : Nat) : Int)) = false := decide_eq_false (by omega)
          have q3 : decide (((b.getD m 0 : Nat) : Int) < ((a.getD k 0 : Nat) : Int)) = false := decide_eq_false (by omega)
          have q4 : ((k : Int) == (a.length : Int)) = false := by simp; omega
          have q4' : decide ((k : Int) = (a.length : Int)) = false := decide_eq_false (by omega)
          clear HM hc
          obtain ⟨xi, hxi⟩ : ∃ z : Int, z = ((a.getD k 0 : Nat) : Int) := ⟨_, rfl⟩
          (try rw [← hxi] at ca)
          (try rw [← hxi] at cb)
          (try rw [← hxi] at q2)
          (try rw [← hxi] at q3)
          have HXI := hid hxi
          clear hxi
          generalize a.getD k 0 = x at *
          obtain ⟨yi, hyi⟩ : ∃ z : Int, z = ((b.getD m 0 : Nat) : Int) := ⟨_, rfl⟩
          (try rw [← hyi] at ca)
          (try rw [← hyi] at cb)
          (try rw [← hyi] at q2)
          (try rw [← hyi] at q3)
          have HYI := hid hyi
          clear hyi
          generalize b.getD m 0 = y at *
          go_wp2_with fail
          go_quiet (fail)
          go_wp2_with fail
          go_quiet (fail)
          go_wp2_with ((at_builtin; refine wpList_append_own _ rfl _ _ 40 rfl w.heap.size 3 i0 (.int .i64 0) 1 8 Try.underlying40 hi hz0 hz1 hz2 rfl (by decide) _ _ _ rfl ((own_drewN hown _).alloc _) ⟨wr.heap.size, 0, none⟩ 1 1 [.int .i64 xi] rfl rfl ?c1 ?c2 ?c3 ?c4 ?c5 ?_))
          case c1 =>
            intro j u hj
            match j, hj with
            | 0, hj => simp at hj; subst hj; simp [Addr.add]; exact cell_new _ _ _ _
          case c2 => intro u hu; simp at hu; subst hu; rfl
          case c3 => unfold maxLen; omega
          case c4 => omega
          case c5 => have := hB.size; simp; omega
          · intro v' w1 hown' hgrow hnil
            have hb1 : Below w.heap.size w w1 := below_grown ((below_drewN hB _).alloc hB.size _) hgrow (by have := hB.size; simp; omega) ((own_drewN hown _).alloc _) (Nat.le_refl _)
            have hown2 : w1.ownsRow w.heap.size 3 1 v' (l ++ [x]).length (ints (natI (l ++ [x]))) := by
              rw [List.length_append]
              have e2 : ints (natI (l ++ [x])) = ints (natI l) ++ [.int .i64 xi] := by rw [HXI.out]; simp [ints, natI]
              rw [e2]
              exact hown'
            clear hnil hown' hgrow hB hown
            go_wp2
            go_roundw
            case rel => exact ⟨k + 1, m + 1, l ++ [x], by go_num, by go_num, by omega, by omega, HST.out, hown2, hb1⟩
            case measure => simp [intOf]; omega
        · have HST := hid (HM.out.stepB RA.out RB.out hm1 (.inr hc))
          have q2 : decide (((a.getD k 0 : Nat) : Int) < ((b.getD m 0 : Nat) : Int)) = false := decide_eq_false (by omega)
          have q3 : decide (((b.getD m 0 : Nat) : Int) < ((a.getD k 0 : Nat) : Int)) = true := decide_eq_true (by omega)
          have q4 : ((k : Int) == (a.length : Int)) = false := by simp; omega
          have q4' : decide ((k : Int) = (a.length : Int)) = false := decide_eq_false (by omega)
          clear HM hc
          obtain ⟨yi, hyi⟩ : ∃ z : Int, z = ((a.getD k 0 : Nat) : Int) := ⟨_, rfl⟩
          (try rw [← hyi] at ca)
          (try rw [← hyi] at cb)
          (try rw [← hyi] at q2)
          (try rw [← hyi] at q3)
          have HYI := hid hyi
          clear hyi
          generalize a.getD k 0 = y at *
          obtain ⟨xi, hxi⟩ : ∃ z : Int, z = ((b.getD m 0 : Nat) : Int) := ⟨_, rfl⟩
          (try rw [← hxi] at ca)
          (try rw [← hxi] at cb)
          (try rw [← hxi] at q2)
          (try rw [← hxi] at q3)
          have HXI := hid hxi
          clear hxi
          generalize b.getD m 0 = x at *
          go_wp2_with fail
          go_quiet (fail)
          go_wp2_with fail
          go_quiet (fail)
          go_wp2_with ((at_builtin; refine wpList_append_own _ rfl _ _ 40 rfl w.heap.size 3 i0 (.int .i64 0) 1 8 Try.underlying40 hi hz0 hz1 hz2 rfl (by decide) _ _ _ rfl ((own_drewN hown _).alloc _) ⟨wr.heap.size, 0, none⟩ 1 1 [.int .i64 xi] rfl rfl ?c1 ?c2 ?c3 ?c4 ?c5 ?_))
          case c1 =>
            intro j u hj
            match j, hj with
            | 0, hj => simp at hj; subst hj; simp [Addr.add]; exact cell_new _ _ _ _
          case c2 => intro u hu; simp at hu; subst hu; rfl
          case c3 => unfold maxLen; omega
          case c4 => omega
          case c5 => have := hB.size; simp; omega
          · intro v' w1 hown' hgrow hnil
            have hb1 : Below w.heap.size w w1 := below_grown ((below_drewN hB _).alloc hB.size _) hgrow (by have := hB.size; simp; omega) ((own_drewN hown _).alloc _) (Nat.le_refl _)
            have hown2 : w1.ownsRow w.heap.size 3 1 v' (l ++ [x]).length (ints (natI (l ++ [x]))) := by
              rw [List.length_append]
              have e2 : ints (natI (l ++ [x])) = ints (natI l) ++ [.int .i64 xi] := by rw [HXI.out]; simp [ints, natI]
              rw [e2]
              exact hown'
            clear hnil hown' hgrow hB hown
            go_wp2
            go_roundw
            case rel => exact ⟨k, m + 1, l ++ [x], by go_num, by go_num, by omega, by omega, HST.out, hown2, hb1⟩
            case measure => simp [intOf]; omega
      · obtain rfl : m = b.length := by omega
        have HST := hid (HM.out.stepA RA.out RB.out hk1 (.inl rfl))
        have q1 : ((b.length : Int) == (b.length : Int)) = true := by simp
        have q1' : decide ((b.length : Int) = (b.length : Int)) = true := by simp
        clear HM
        obtain ⟨xi, hxi⟩ : ∃ z : Int, z = ((a.getD k 0 : Nat) : Int) := ⟨_, rfl⟩
        (try rw [← hxi] at ca)
        (try rw [← hxi] at cb)
        (try rw [← hxi] at q2)
        (try rw [← hxi] at q3)
        have HXI := hid hxi
        clear hxi
        generalize a.getD k 0 = x at *
        go_wp2_with fail
        go_quiet (fail)
        go_wp2_with ((at_builtin; refine wpList_append_own _ rfl _ _ 40 rfl w.heap.size 3 i0 (.int .i64 0) 1 8 Try.underlying40 hi hz0 hz1 hz2 rfl (by decide) _ _ _ rfl ((own_drewN hown _).alloc _) ⟨wr.heap.size, 0, none⟩ 1 1 [.int .i64 xi] rfl rfl ?c1 ?c2 ?c3 ?c4 ?c5 ?_))
        case c1 =>
          intro j u hj
          match j, hj with
          | 0, hj => simp at hj; subst hj; simp [Addr.add]; exact cell_new _ _ _ _
        case c2 => intro u hu; simp at hu; subst hu; rfl
        case c3 => unfold maxLen; omega
        case c4 => omega
        case c5 => have := hB.size; simp; omega
        · intro v' w1 hown' hgrow hnil
          have hb1 : Below w.heap.size w w1 := below_grown ((below_drewN hB _).alloc hB.size _) hgrow (by have := hB.size; simp; omega) ((own_drewN hown _).alloc _) (Nat.le_refl _)
          have hown2 : w1.ownsRow w.heap.size 3 1 v' (l ++ [x]).length (ints (natI (l ++ [x]))) := by
            rw [List.length_append]
            have e2 : ints (natI (l ++ [x])) = ints (natI l) ++ [.int .i64 xi] := by rw [HXI.out]; simp [ints, natI]
            rw [e2]
            exact hown'
          clear hnil hown' hgrow hB hown
          go_wp2
          go_roundw
          case rel => exact ⟨k + 1, b.length, l ++ [x], by go_num, by go_num, by omega, by omega, HST.out, hown2, hb1⟩
          case measure => simp [intOf]; omega
    · obtain rfl : k = a.length := by omega
      rcases Nat.lt_or_ge m b.length with hm1 | hm1
      · obtain ⟨hgb, hcb⟩ := HB.out m hm1
        have cb : wr.cell? ⟨gb, m, none⟩ = some (.int .i64 ((b.getD m 0 : Nat) : Int)) := (hB.cell hgb).trans hcb
        have m1 : (m : Int) < (b.length : Int) := by omega
        have by_ := BB.out m hm1
        have HST := hid (HM.out.stepB RA.out RB.out hm1 (.inl rfl))
        have q1 : ((m : Int) == (b.length : Int)) = false := by simp; omega
        have q1' : decide ((m : Int) = (b.length : Int)) = false := decide_eq_false (by omega)
        have q2 : decide ((a.length : Int) < (a.length : Int)) = false := decide_eq_false (by omega)
        have q4 : ((a.length : Int) == (a.length : Int)) = true := by simp
        have q4' : decide ((a.length : Int) = (a.length : Int)) = true := by simp
        clear HM hcb
        obtain ⟨xi, hxi⟩ : ∃ z : Int, z = ((b.getD m 0 : Nat) : Int) := ⟨_, rfl⟩
        (try rw [← hxi] at ca)
        (try rw [← hxi] at cb)
        (try rw [← hxi] at q2)
        (try rw [← hxi] at q3)
        have HXI := hid hxi
        clear hxi
        generalize b.getD m 0 = x at *
        go_wp2_with fail
        go_quiet (fail)
        go_wp2_with fail
        go_quiet (fail)
        go_wp2_with ((at_builtin; refine wpList_append_own _ rfl _ _ 40 rfl w.heap.size 3 i0 (.int .i64 0) 1 8 Try.underlying40 hi hz0 hz1 hz2 rfl (by decide) _ _ _ rfl ((own_drewN hown _).alloc _) ⟨wr.heap.size, 0, none⟩ 1 1 [.int .i64 xi] rfl rfl ?c1 ?c2 ?c3 ?c4 ?c5 ?_))
        case c1 =>
          intro j u hj
          match j, hj with
          | 0, hj => simp at hj; subst hj; simp [Addr.add]; exact cell_new _ _ _ _
        case c2 => intro u hu; simp at hu; subst hu; rfl
        case c3 => unfold maxLen; omega
        case c4 => omega
        case c5 => have := hB.size; simp; omega
        · intro v' w1 hown' hgrow hnil
          have hb1 : Below w.heap.size w w1 := below_grown ((below_drewN hB _).alloc hB.size _) hgrow (by have := hB.size; simp; omega) ((own_drewN hown _).alloc _) (Nat.le_refl _)
          have hown2 : w1.ownsRow w.heap.size 3 1 v' (l ++ [x]).length (ints (natI (l ++ [x]))) := by
            rw [List.length_append]
            have e2 : ints (natI (l ++ [x])) = ints (natI l) ++ [.int .i64 xi] := by rw [HXI.out]; simp [ints, natI]
            rw [e2]
            exact hown'
          clear hnil hown' hgrow hB hown
          go_wp2
          go_roundw
          case rel => exact ⟨a.length, m + 1, l ++ [x], by go_num, by go_num, by omega, by omega, HST.out, hown2, hb1⟩
          case measure => simp [intOf]; omega
      · obtain rfl : m = b.length := by omega
        have hS := sli_own hown
        rw [HDN.out l HM.out] at hS
        go_wp2
        go_ret
        exact ⟨_, rfl, hS, hB⟩
end Go.Proofs.Ytjmkkkfloalliab

namespace Go.Proofs.Ytjmkkkfloalliab
set_option linter.unusedVariables false
open Go.RowKit

theorem L_app (a b : ByteArray) : L (a ++ b) = L a ++ L b := by simp [L]
theorem L_len (a : ByteArray) : (L a).length = a.size := size_len a
/-- what stands for the pattern -/
theorem pat_den {s : List UInt8} {P : Q.Pat} (h : Q.parse s = .ok P) : ∃ d m, Q.dgo (8 * s.length + 6) .alt s = some (d, [], false, m) ∧ s.length ≤ 40 ∧ ∀ u, Q.acc P u = true ↔ (u ≠ [] ∧ d.lang u) := by
  obtain ⟨d, m, h1, h2, h3, h4, h5, h6⟩ := (Q.parse_den s).2.2 P h
  exact ⟨d, m, h1, h2, h6.1⟩
/-- a pattern, or too long or large -/
def Fits (q : ByteArray) (A : Q.Lang) : Prop := (∃ E, Q.parse (L q) = .error (E, 0) ∧ (E = 1 ∨ E = 5)) ∨ ∃ P, Q.parse (L q) = .ok P ∧ ∀ u, Q.acc P u = true ↔ (u ≠ [] ∧ A u)
theorem fits_of {q : ByteArray} {s : List UInt8} {A : Q.Lang} (e : L q = s) (h : ∃ d m, Q.dgo (8 * s.length + 6) .alt s = some (d, [], false, m) ∧ ∀ u, d.lang u ↔ A u) : Fits q A := by
  obtain ⟨d, m, h1, h2⟩ := h
  unfold Fits
  rw [e]
  rcases Q.parse_of h1 with h3 | ⟨P, h3, h4⟩
  · exact .inl h3
  · exact .inr ⟨P, h3, fun u => by rw [h4 u, h2 u]⟩
/-- what find answers of it -/
def Found (w' : World) (t : List UInt8) (q : ByteArray) (A : Q.Lang) (v : Value) (E : Nat) : Prop :=
  (E = 0 ∧ ∃ P g, Q.parse (L q) = .ok P ∧ (∀ u, Q.acc P u = true ↔ (u ≠ [] ∧ A u)) ∧ v = .slice (some ⟨g, 0, none⟩) (Q.hits t P).length (Q.hits t P).length ∧ SlI w' (.slice (some ⟨g, 0, none⟩) (Q.hits t P).length (Q.hits t P).length) (Q.hits t P)) ∨ ((E = 1 ∨ E = 5) ∧ v = .slice none 0 0)
theorem find_of {w : World} {b rate : Nat} {t : List UInt8} {a : ByteArray} (h : IdxOf w b rate t a) (q : ByteArray) (hq : q.size ≤ maxLen) (A : Q.Lang) (hA : Fits q A) :
    Calls Try.prog 22 #[.pointer (some ⟨b, 0, none⟩), .string q] w fun e w' => ∃ v E, e = .returned (.tuple #[v, .int .i64 ((E : Nat) : Int)]) ∧ Hid (Found w' t q A v E) ∧ Below w.heap.size w w' := by
  rcases hA with ⟨E, h1, h2⟩ | ⟨P, h1, h2⟩
  · refine (find_err h q hq E 0 h1).mono ?_
    rintro e w' ⟨rfl, hB⟩
    exact ⟨_, E, rfl, .inr ⟨h2, rfl⟩, hB⟩
  · refine (find_ok h q hq P h1).mono ?_
    rintro e w' ⟨g, rfl, _, hS, hB⟩
    exact ⟨_, 0, rfl, .inl ⟨rfl, P, g, h1, h2, rfl, hS⟩, hB⟩

theorem hits_small {t : List UInt8} {P : Q.Pat} (ht : t.length ≤ 200) : ∀ i, i < (Q.hits t P).length → (Q.hits t P).getD i 0 ≤ 1000 := fun i hi => by
  have h1 := (Q.mem_hits.1 (Q.hits_at (t := t) hi)).1
  omega
set_option maxRecDepth 100000 in
set_option maxHeartbeats 800000 in
theorem within_yes (w : World) (ga gb : Nat) (a b : List Nat) (hA : SlI w (.slice (some ⟨ga, 0, none⟩) a.length a.length) a) (hB : SlI w (.slice (some ⟨gb, 0, none⟩) b.length b.length) b) (la : a.length ≤ 1000) (lb : b.length ≤ 1000) (ra : a.Pairwise (· < ·)) (rb : b.Pairwise (· < ·)) (hin : ∀ x, x ∈ a → x ∈ b) (ba : ∀ i, i < a.length → a.getD i 0 ≤ 1000) (bb : ∀ i, i < b.length → b.getD i 0 ≤ 1000) :
    Calls Try.prog 25 #[.slice (some ⟨ga, 0, none⟩) a.length a.length, .slice (some ⟨gb, 0, none⟩) b.length b.length] w fun e w' => e = .returned (.bool true) ∧ Below w.heap.size w w' := by
  have HU := hid (union_any w ga gb a b b hA hB la lb ra rb rb (fun x => ⟨.inr, fun h => h.elim (hin x) id⟩) ba bb)
  have HB := hid hB
  clear hA hB hin ba bb
  go_enter Try.func25, Try.ntmps25
  go_wp2_with fail
  refine HU.out.mono ?_
  rintro e w2 ⟨v, rfl, hS, hB2⟩
  go_wp2_with fail
  refine (same_yes _ _ b w2 hS (HB.out.below hB2 (Nat.le_refl _)) lb).mono ?_
  rintro e w3 ⟨rfl, hB3⟩
  go_wp2
  go_ret
  exact ⟨rfl, hB2.trans (hB3.mono hB2.size)⟩
end Go.Proofs.Ytjmkkkfloalliab

