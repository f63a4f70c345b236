import Derived.Test.YtjmkkkfloalliabGD
-- a reader of what is left of a pattern: what it stands for
namespace Go.Proofs.Ytjmkkkfloalliab.Q
set_option linter.unusedVariables false

/-- what was read: what it stands for, what is left, whether bounds go back, how deep -/
abbrev Out : Type := Option (Den × List UInt8 × Bool × Nat)
def after (x : Out) (k : Den → List UInt8 → Out) : Out :=
  match x with
  | none => none
  | some (d, r, b, m) =>
    match k d r with
    | none => none
    | some (d2, r2, b2, m2) => some (d2, r2, b || b2, max m m2)
abbrev DJob : Type := Unit ⊕ Den ⊕ Unit ⊕ Den ⊕ Unit ⊕ Den ⊕ Unit
abbrev DJob.alt : DJob := .inl ()
abbrev DJob.altL (n : Den) : DJob := .inr (.inl n)
abbrev DJob.seq : DJob := .inr (.inr (.inl ()))
abbrev DJob.seqL (n : Den) : DJob := .inr (.inr (.inr (.inl n)))
abbrev DJob.rep : DJob := .inr (.inr (.inr (.inr (.inl ()))))
abbrev DJob.repL (n : Den) : DJob := .inr (.inr (.inr (.inr (.inr (.inl n)))))
abbrev DJob.term : DJob := .inr (.inr (.inr (.inr (.inr (.inr ())))))
def dgo : Nat → DJob → List UInt8 → Out
  | 0, _, _ => none
  | f + 1, .inl (), r => after (dgo f .seq r) (fun d r1 => dgo f (.altL d) r1)
  | f + 1, .inr (.inl d), r => if dnext r = 124 then after (dgo f .seq r.tail) (fun d2 r1 => dgo f (.altL (dAlt d d2)) r1) else some (d, r, false, 0)
  | f + 1, .inr (.inr (.inl ())), r => dgo f (.seqL dEps) r
  | f + 1, .inr (.inr (.inr (.inl d))), r => if ends (dnext r) = true then some (d, r, false, 0) else after (dgo f .rep r) (fun d2 r1 => dgo f (.seqL (dCat d d2)) r1)
  | f + 1, .inr (.inr (.inr (.inr (.inl ())))), r => after (dgo f .term r) (fun d r1 => dgo f (.repL d) r1)
  | f + 1, .inr (.inr (.inr (.inr (.inr (.inl d))))), r => if isRep (dnext r) = true then
      match drep r with
      | none => none
      | some (lo, hi, e, b, r1) => after (some (dRep d lo hi e, r1, b, 0)) (fun d r => dgo f (.repL d) r)
    else some (d, r, false, 0)
  | f + 1, .inr (.inr (.inr (.inr (.inr (.inr ()))))), r => if dnext r = 40 then
      match dgo f .alt r.tail with
      | none => none
      | some (d, r1, b, m) => if dnext r1 = 41 then some (d, r1.tail, b, m + 1) else none
    else
      match dleaf r with
      | none => none
      | some (ins, b, r1) => some (dByte ins, r1, b, 0)

structure Ends (s : List UInt8) (σ : Rd) (x : Nat × Rd) (d : Den) (r : List UInt8) (b : Bool) (m : Nat) : Prop where
  rs : Rs s x.2 r
  back : x.2.back = (σ.back || b)
  depth : x.2.depth = σ.depth
  deepest : x.2.deepest = max σ.deepest (σ.depth + m)
  spec : x.2.back = false → Spec x.2.parts x.1 d
def Corr (s : List UInt8) (σ : Rd) (x : Nat × Rd) (o : Out) : Prop := (o = none → x.2.wrong = true) ∧ ∀ d r b m, o = some (d, r, b, m) → Ends s σ x d r b m
variable {s : List UInt8}
theorem Corr.none {σ : Rd} {x : Nat × Rd} (h : x.2.wrong = true) : Corr s σ x none := ⟨fun _ => h, fun _ _ _ _ e => by cases e⟩
theorem Corr.some {σ : Rd} {x : Nat × Rd} {d : Den} {r : List UInt8} {b : Bool} {m : Nat} (h : Ends s σ x d r b m) : Corr s σ x (some (d, r, b, m)) :=
  ⟨fun e => (by cases e), fun _ _ _ _ e => (by cases e; exact h)⟩
theorem Corr.of {σ τ : Rd} {x : Nat × Rd} {o : Out} (h : Corr s σ x o) (h1 : τ.back = σ.back) (h2 : τ.depth = σ.depth) (h3 : τ.deepest = σ.deepest) : Corr s τ x o := by
  refine ⟨h.1, fun d r b m e => ?_⟩
  have g := h.2 d r b m e
  exact ⟨g.rs, by rw [h1]; exact g.back, by rw [h2]; exact g.depth, by rw [h2, h3]; exact g.deepest, g.spec⟩
theorem corr_after {σ : Rd} {x1 x2 : Nat × Rd} {o : Out} {k : Den → List UInt8 → Out} (h1 : Corr s σ x1 o) (h2 : ∀ d r b m, o = some (d, r, b, m) → Corr s x1.2 x2 (k d r)) (hw : x1.2.wrong = true → x2.2.wrong = true) : Corr s σ x2 (after o k) := by
  unfold after
  cases o with
  | none => exact Corr.none (hw (h1.1 rfl))
  | some y =>
    obtain ⟨d, r, b, m⟩ := y
    have e1 := h1.2 d r b m rfl
    have c2 := h2 d r b m rfl
    simp only
    cases e : k d r with
    | none => exact Corr.none (c2.1 e)
    | some y =>
      obtain ⟨d2, r2, b2, m2⟩ := y
      have e2 := c2.2 d2 r2 b2 m2 e
      refine Corr.some ⟨e2.rs, ?_, ?_, ?_, e2.spec⟩
      · rw [e2.back, e1.back, Bool.or_assoc]
      · rw [e2.depth, e1.depth]
      · rw [e2.deepest, e1.deepest, e1.depth]; omega
def Pay (σ : Rd) (n : Nat) (d : Den) : Prop := n < σ.parts.length ∧ (σ.back = false → Spec σ.parts n d)
structure Rdy (s : List UInt8) (σ : Rd) (r : List UInt8) : Prop where
  rs : Rs s σ r
  ok : PartsOk σ.parts
  deep : σ.depth ≤ σ.deepest
theorem Ends.rdy {σ : Rd} {x : Nat × Rd} {d : Den} {r : List UInt8} {b : Bool} {m : Nat} (h : Ends s σ x d r b m) (ok : PartsOk x.2.parts) : Rdy s x.2 r := ⟨h.rs, ok, by rw [h.depth, h.deepest]; omega⟩
theorem Rdy.add {σ : Rd} {r : List UInt8} {p : Part} (h : Rdy s σ r) (hp : PartOk σ.parts.length p) : Rdy s (add p σ).2 r := ⟨⟨h.rs.wrong, h.rs.le, h.rs.rest⟩, h.ok.add hp, h.deep⟩
theorem Rdy.fwd {σ : Rd} {r : List UInt8} (h : Rdy s σ r) (g : dnext r ≠ -1) : Rdy s (fwd σ) r.tail := ⟨h.rs.fwd g, h.ok, h.deep⟩
theorem corr_go : ∀ f : Nat,
    (∀ σ r, 8 * r.length + 6 ≤ f → Rdy s σ r → Corr s σ (go s f .alt σ) (dgo f .alt r)) ∧
    (∀ σ r n d, 8 * r.length + 1 ≤ f → Rdy s σ r → Pay σ n d → Corr s σ (go s f (.altL n) σ) (dgo f (.altL d) r)) ∧
    (∀ σ r, 8 * r.length + 5 ≤ f → Rdy s σ r → Corr s σ (go s f .seq σ) (dgo f .seq r)) ∧
    (∀ σ r n d, 8 * r.length + 4 ≤ f → Rdy s σ r → Pay σ n d → Corr s σ (go s f (.seqL n) σ) (dgo f (.seqL d) r)) ∧
    (∀ σ r, 8 * r.length + 3 ≤ f → Rdy s σ r → Corr s σ (go s f .rep σ) (dgo f .rep r)) ∧
    (∀ σ r n d, 8 * r.length + 1 ≤ f → Rdy s σ r → Pay σ n d → Corr s σ (go s f (.repL n) σ) (dgo f (.repL d) r)) ∧
    (∀ σ r, 8 * r.length + 1 ≤ f → Rdy s σ r → Corr s σ (go s f .term σ) (dgo f .term r))
  | 0 => ⟨fun _ _ h => by omega, fun _ _ _ _ h => by omega, fun _ _ h => by omega, fun _ _ _ _ h => by omega, fun _ _ h => by omega, fun _ _ _ _ h => by omega, fun _ _ h => by omega⟩
  | f + 1 => by
    obtain ⟨iAlt, iAltL, iSeq, iSeqL, iRep, iRepL, iTerm⟩ := corr_go f
    have gd : ∀ (j : Job) (σ : Rd) (r : List UInt8), Rdy s σ r → 8 * r.length + j.rank ≤ f → j.ok σ → Good (s := s) σ (go s f j σ) ∧ j.adv (s := s) σ (go s f j σ) := fun j σ r h hf ho => go_good f j σ (by rw [h.rs.len]; exact hf) h.ok ho
    have lens : ∀ {σ τ : Rd} {r r2 : List UInt8}, Rs s σ r → Rs s τ r2 → On s σ τ → r2.length ≤ r.length := fun h1 h2 o => by rw [← h1.len, ← h2.len]; exact o.left
    refine ⟨?_, ?_, ?_, ?_, ?_, ?_, ?_⟩
    · -- alt
      intro σ r hf h
      have g1 := (gd .seq σ r h (by simp only [Job.rank]; omega) trivial).1
      have c1 := iSeq σ r (by omega) h
      have hl1 := g1.on.left
      rw [h.rs.len] at hl1
      unfold go dgo
      refine corr_after c1 (fun d r1 b m e => ?_) (fun hw => (go_good f (.altL _) _ (by simp only [Job.rank]; omega) g1.ok g1.lt).1.on.wrong hw)
      have e1 := c1.2 d r1 b m e
      have hl := lens h.rs e1.rs g1.on
      exact iAltL _ r1 _ d (by omega) (e1.rdy g1.ok) ⟨g1.lt, e1.spec⟩
    · -- altL
      intro σ r n d hf h hp
      unfold go dgo
      rw [h.rs.next]
      by_cases g : dnext r = 124
      · rw [if_pos g, if_pos g]
        have hne : dnext r ≠ -1 := by rw [g]; decide
        have h1 := h.fwd hne
        have hrl : r.tail.length + 1 = r.length := by
          cases r with
          | nil => exact absurd rfl hne
          | cons a r => rfl
        have g1 := (gd .seq _ _ h1 (by simp only [Job.rank]; omega) trivial).1
        have c1 := iSeq _ _ (by omega) h1
        have hl1 := g1.on.left
        rw [h1.rs.len] at hl1
        have hn2 : n < (go s f .seq (fwd σ)).2.parts.length := Nat.lt_of_lt_of_le hp.1 g1.len
        have hpo : PartOk (go s f .seq (fwd σ)).2.parts.length (mk 3 n (go s f .seq (fwd σ)).1) := mk_ok _ _ _ _ (by omega) (fun _ => hn2) (fun _ => g1.lt)
        have c1' : Corr s σ (go s f .seq (fwd σ)) (dgo f .seq r.tail) := c1.of rfl rfl rfl
        refine corr_after c1' (fun d2 r1 b m e => ?_) (fun hw => (go_good f (.altL _) _ (by simp only [Job.rank]; have : left s (add (mk 3 n (go s f .seq (fwd σ)).1) (go s f .seq (fwd σ)).2).2 = left s (go s f .seq (fwd σ)).2 := rfl; omega) (g1.ok.add hpo) (by simp [Q.add, Job.ok])).1.on.wrong hw)
        have e1 := c1.2 d2 r1 b m e
        have hl := lens h1.rs e1.rs g1.on
        refine Corr.of (iAltL _ r1 _ (dAlt d d2) (by omega) ((e1.rdy g1.ok).add hpo) ⟨by simp [Q.add], fun hb => ?_⟩) rfl rfl rfl
        have hb1 : (go s f .seq (fwd σ)).2.back = false := hb
        have hb0 : σ.back = false := by
          have := e1.back
          rw [hb1] at this
          exact (Bool.or_eq_false_iff.1 this.symm).1
        obtain ⟨l, hg⟩ := g1.grow
        have s1 := (hp.2 hb0).app h.ok l
        have hg2 : (go s f .seq (fwd σ)).2.parts = σ.parts ++ l := hg
        rw [← hg2] at s1
        exact spec_alt g1.ok s1 (e1.spec hb1)
      · rw [if_neg g, if_neg g]
        exact Corr.some ⟨h.rs, by simp, rfl, by have := h.deep; show σ.deepest = _; omega, hp.2⟩
    · -- seq
      intro σ r hf h
      unfold go dgo
      have hpo : PartOk σ.parts.length (mk 0 0 0) := mk_ok _ _ _ _ (by omega) (fun h => by omega) (fun h => by omega)
      exact Corr.of (iSeqL _ r _ dEps (by omega) (h.add hpo) ⟨by simp [Q.add], fun _ => spec_eps h.ok⟩) rfl rfl rfl
    · -- seqL
      intro σ r n d hf h hp
      unfold go dgo
      rw [h.rs.next]
      by_cases g : ends (dnext r) = true
      · rw [if_pos g, if_pos g]
        exact Corr.some ⟨h.rs, by simp, rfl, by have := h.deep; show σ.deepest = _; omega, hp.2⟩
      · rw [if_neg g, if_neg g]
        have hne : dnext r ≠ -1 := by intro e; rw [e] at g; exact g rfl
        obtain ⟨g1, a1⟩ := gd .rep σ r h (by simp only [Job.rank]; omega) trivial
        have c1 := iRep σ r (by omega) h
        have hl1 : left s (go s f .rep σ).2 < left s σ := a1 (by rw [h.rs.next]; exact hne)
        have hl0 := h.rs.len
        have hn2 : n < (go s f .rep σ).2.parts.length := Nat.lt_of_lt_of_le hp.1 g1.len
        have hpo : PartOk (go s f .rep σ).2.parts.length (mk 2 n (go s f .rep σ).1) := mk_ok _ _ _ _ (by omega) (fun _ => hn2) (fun _ => g1.lt)
        refine corr_after c1 (fun d2 r1 b m e => ?_) (fun hw => (go_good f (.seqL _) _ (by simp only [Job.rank]; have : left s (add (mk 2 n (go s f .rep σ).1) (go s f .rep σ).2).2 = left s (go s f .rep σ).2 := rfl; omega) (g1.ok.add hpo) (by simp [Q.add, Job.ok])).1.on.wrong hw)
        have e1 := c1.2 d2 r1 b m e
        have hl := e1.rs.len
        refine Corr.of (iSeqL _ r1 _ (dCat d d2) (by omega) ((e1.rdy g1.ok).add hpo) ⟨by simp [Q.add], fun hb => ?_⟩) rfl rfl rfl
        have hb1 : (go s f .rep σ).2.back = false := hb
        have hb0 : σ.back = false := by
          have := e1.back
          rw [hb1] at this
          exact (Bool.or_eq_false_iff.1 this.symm).1
        obtain ⟨l, hg⟩ := g1.grow
        have s1 := (hp.2 hb0).app h.ok l
        rw [← hg] at s1
        exact spec_cat g1.ok s1 (e1.spec hb1)
    · -- rep
      intro σ r hf h
      have g1 := (gd .term σ r h (by simp only [Job.rank]; omega) trivial).1
      have c1 := iTerm σ r (by omega) h
      have hl1 := g1.on.left
      rw [h.rs.len] at hl1
      unfold go dgo
      refine corr_after c1 (fun d r1 b m e => ?_) (fun hw => (go_good f (.repL _) _ (by simp only [Job.rank]; omega) g1.ok g1.lt).1.on.wrong hw)
      have e1 := c1.2 d r1 b m e
      have hl := lens h.rs e1.rs g1.on
      exact iRepL _ r1 _ d (by omega) (e1.rdy g1.ok) ⟨g1.lt, e1.spec⟩
    · -- repL
      intro σ r n d hf h hp
      unfold go dgo
      rw [h.rs.next]
      by_cases g : isRep (dnext r) = true
      · rw [if_pos g, if_pos g]
        obtain ⟨o1, hne⟩ := repPart_on (s := s) n σ (by rw [h.rs.next]; exact g)
        have hl1 := o1.left
        have hl2 := fwd_left hne
        have hl0 := h.rs.len
        have hpp : (repPart s n σ).2.parts = σ.parts := repPart_parts n σ
        have hpo : PartOk (repPart s n σ).2.parts.length (repPart s n σ).1 := repPart_ok _ _ _ (by rw [hpp]; exact hp.1)
        have hok : PartsOk (repPart s n σ).2.parts := by rw [hpp]; exact h.ok
        have hadd : left s (add (repPart s n σ).1 (repPart s n σ).2).2 = left s (repPart s n σ).2 := rfl
        have R := h.rs.rep n g
        have hwr : (repPart s n σ).2.wrong = true → (go s f (.repL (add (repPart s n σ).1 (repPart s n σ).2).1) (add (repPart s n σ).1 (repPart s n σ).2).2).2.wrong = true :=
          fun hw => (go_good f (.repL _) _ (by simp only [Job.rank]; omega) (hok.add hpo) (by simp [Q.add, Job.ok])).1.on.wrong hw
        cases e : drep r with
        | none => exact Corr.none (hwr (R.1 e))
        | some y =>
          obtain ⟨lo, hi, en, b, r1⟩ := y
          obtain ⟨k, q1, q2⟩ := R.2 lo hi en b r1 e
          simp only
          have hlen : r1.length < r.length := by
            rw [q1] at hl1
            have h5 := q2.len
            have h6 : left s { σ with at_ := k, back := σ.back || b } ≤ left s (fwd σ) := hl1
            omega
          have hbk : b = false → en = true ∨ lo ≤ hi := by
            intro hb
            unfold drep at e
            split at e
            · cases e; exact .inl rfl
            · split at e
              · cases e; exact .inl rfl
              · split at e
                · cases e; exact .inr (by omega)
                · unfold dbounds at e
                  split at e
                  · cases e
                  · split at e
                    · cases e
                    · split at e
                      · cases e
                        exact .inr (by have := of_decide_eq_false hb; omega)
                      · cases e
          have key : Ends s σ (add (repPart s n σ).1 (repPart s n σ).2) (dRep d lo hi en) r1 b 0 := by
            have hok2 := hok
            rw [q1] at hok2 ⊢
            refine ⟨⟨q2.wrong, q2.le, q2.rest⟩, rfl, rfl, by have := h.deep; show σ.deepest = _; omega, fun hb => ?_⟩
            have hb2 := Bool.or_eq_false_iff.1 (show (σ.back || b) = false from hb)
            exact spec_rep (ps := σ.parts) (q := { mk 4 n 0 with low := lo, high := hi, endless := en }) h.ok rfl (hp.2 hb2.1) (hbk hb2.2)
          refine corr_after (Corr.some key) (fun d' r' b' m' e' => ?_) hwr
          cases e'
          refine iRepL _ r1 _ _ (by omega) (key.rdy (hok.add hpo)) ⟨by simp [Q.add], key.spec⟩
      · rw [if_neg g, if_neg g]
        exact Corr.some ⟨h.rs, by simp, rfl, by have := h.deep; show σ.deepest = _; omega, hp.2⟩
    · -- term
      intro σ r hf h
      unfold go dgo
      rw [h.rs.next]
      by_cases g : dnext r = 40
      · rw [if_pos g, if_pos g]
        have hne : dnext r ≠ -1 := by rw [g]; decide
        have hrl : r.tail.length + 1 = r.length := by
          cases r with
          | nil => exact absurd rfl hne
          | cons a r => rfl
        have h1 := h.rs.fwd hne
        have hO : Rdy s (opened σ) r.tail := ⟨⟨h1.wrong, h1.le, h1.rest⟩, h.ok, by simp only [opened]; split <;> omega⟩
        have g1 := (gd .alt _ _ hO (by simp only [Job.rank]; omega) trivial).1
        have c1 := iAlt _ _ (by omega) hO
        cases e : dgo f .alt r.tail with
        | none => exact Corr.none ((closed_on _).wrong (c1.1 e))
        | some y =>
          obtain ⟨d, r1, b, m⟩ := y
          have e1 := c1.2 d r1 b m e
          simp only
          have hd2 : Rs s { (go s f .alt (opened σ)).2 with depth := (go s f .alt (opened σ)).2.depth - 1 } r1 := ⟨e1.rs.wrong, e1.rs.le, e1.rs.rest⟩
          unfold closed need
          rw [hd2.next]
          by_cases g2 : dnext r1 = 41
          · rw [if_pos g2, if_pos g2]
            refine Corr.some ⟨hd2.fwd (by rw [g2]; decide), e1.back, ?_, ?_, e1.spec⟩
            · show (go s f .alt (opened σ)).2.depth - 1 = σ.depth
              rw [e1.depth]
              show σ.depth + 1 - 1 = σ.depth
              omega
            · show (go s f .alt (opened σ)).2.deepest = _
              rw [e1.deepest]
              simp only [opened]
              have := h.deep
              split <;> omega
          · rw [if_neg g2, if_neg g2]
            exact Corr.none rfl
      · rw [if_neg g, if_neg g]
        have Lf := h.rs.leaf
        cases e : dleaf r with
        | none => exact Corr.none (Lf.1 e)
        | some y =>
          obtain ⟨ins, b, r1⟩ := y
          obtain ⟨k, q1, q2⟩ := Lf.2 ins b r1 e
          have hlf := leaf_ok (s := s) σ 0
          rw [q1] at hlf ⊢
          refine Corr.some ⟨⟨q2.wrong, q2.le, q2.rest⟩, rfl, rfl, by have := h.deep; show σ.deepest = _; omega, fun _ => ?_⟩
          exact spec_byte (ps := σ.parts) h.ok (q := { mk 1 0 0 with ins := ins }) rfl rfl rfl hlf.ins

/-- what a pattern is, or why it is none, by what it stands for -/
theorem parse_den (s : List UInt8) :
    (40 < s.length → parse s = .error (1, 0)) ∧
    (s.length ≤ 40 → ∀ d b m, dgo (8 * s.length + 6) .alt s = some (d, [], b, m) →
      (b = true → parse s = .error (4, 0)) ∧
      (b = false → (6 < m ∨ 48 < d.places) → parse s = .error (5, 0)) ∧
      (b = false → m ≤ 6 → d.places ≤ 48 → ∃ P, parse s = .ok P ∧ ∀ u, acc P u = true ↔ (u ≠ [] ∧ d.lang u))) ∧
    (∀ P, parse s = .ok P → ∃ d m, dgo (8 * s.length + 6) .alt s = some (d, [], false, m) ∧ s.length ≤ 40 ∧ m ≤ 6 ∧ d.places ≤ 48 ∧ Fine d ∧ (∀ u, acc P u = true ↔ (u ≠ [] ∧ d.lang u)) ∧ ∀ u, u ≠ [] → (pl P u ≠ 0 ↔ ∃ v, d.lang (v ++ u))) := by
  have hr : Rdy s rd0 s := ⟨⟨rfl, Nat.zero_le _, rfl⟩, fun i p h => by simp [rd0] at h, Nat.le_refl _⟩
  have C : Corr s rd0 (top s) (dgo (8 * s.length + 6) .alt s) := (corr_go (s := s) (8 * s.length + 6)).1 rd0 s (Nat.le_refl _) hr
  have G := top_good s
  have accOk : ∀ d P, parse s = .ok P → P = newPattern (whole s).2.parts (whole s).1 → Spec (top s).2.parts (top s).1 d → d.places ≤ 48 → ∀ u, acc P u = true ↔ (u ≠ [] ∧ d.lang u) := by
    intro d P hP e sp hp u
    by_cases hu : u = []
    · subst hu
      rw [parse_even hP]
      simp
    · subst e
      have := (spec_acc G.ok sp hp u hu).1
      exact ⟨fun h => ⟨hu, this.1 h⟩, fun h => this.2 h.2⟩
  refine ⟨fun h => by unfold parse; rw [if_pos h], fun hl d b m e => ?_, fun P hP => ?_⟩
  · have E := C.2 d [] b m e
    have hw : (whole s).2.wrong = false := by
      show ((top s).2.wrong || decide ((top s).2.at_ < s.length)) = false
      rw [E.rs.wrong, Bool.false_or]
      apply decide_eq_false
      intro hlt
      have := congrArg List.length E.rs.rest
      simp at this
      omega
    have hb : (whole s).2.back = b := by
      have := E.back
      show (top s).2.back = b
      simpa [rd0] using this
    have hd : (whole s).2.deepest = m := by
      have := E.deepest
      show (top s).2.deepest = m
      rw [this]
      simp [rd0]
    have hP0 : parse s = if (whole s).2.back = true then .error (4, 0) else if 6 < (whole s).2.deepest ∨ 48 < (at_ (whole s).2.parts (whole s).1).places then .error (5, 0) else .ok (newPattern (whole s).2.parts (whole s).1) := by
      conv => lhs; unfold parse
      rw [if_neg (by omega), if_neg (by rw [hw]; decide)]
    refine ⟨fun hbt => by rw [hP0, if_pos (by rw [hb]; exact hbt)], fun hbf h => ?_, fun hbf h1 h2 => ?_⟩
    · have sp := E.spec (by rw [← hbf]; exact hb)
      have hpl : (at_ (whole s).2.parts (whole s).1).places = d.places := sp.pla
      rw [hP0, if_neg (by rw [hb, hbf]; decide), if_pos (by rw [hd, hpl]; exact h)]
    · have sp := E.spec (by rw [← hbf]; exact hb)
      have hpl : (at_ (whole s).2.parts (whole s).1).places = d.places := sp.pla
      have hok : parse s = .ok (newPattern (whole s).2.parts (whole s).1) := by rw [hP0, if_neg (by rw [hb, hbf]; decide), if_neg (by rw [hd, hpl]; omega)]
      exact ⟨_, hok, accOk d _ hok rfl sp h2⟩
  · have hP2 := hP
    unfold parse at hP
    split at hP
    · cases hP
    · next h1 =>
      split at hP
      · cases hP
      · next h2 =>
        split at hP
        · cases hP
        · next h3 =>
          split at hP
          · cases hP
          · next h4 =>
            cases hP
            cases e : dgo (8 * s.length + 6) .alt s with
            | none =>
              have hw : (whole s).2.wrong = true := by
                show ((top s).2.wrong || decide ((top s).2.at_ < s.length)) = true
                rw [C.1 e]; rfl
              exact absurd hw h2
            | some y =>
              obtain ⟨d, r, b, m⟩ := y
              have E := C.2 d r b m e
              have hr0 : r = [] := by
                have hnl : ¬ (top s).2.at_ < s.length := by
                  intro hlt
                  apply h2
                  show ((top s).2.wrong || decide ((top s).2.at_ < s.length)) = true
                  rw [decide_eq_true hlt, Bool.or_true]
                rw [← E.rs.rest]
                exact List.drop_eq_nil_of_le (by omega)
              subst hr0
              have hbf : (top s).2.back = false := by
                have h3' : ¬ (top s).2.back = true := h3
                simpa using h3'
              have hb : b = false := by
                have := E.back
                rw [hbf] at this
                simpa [rd0] using this.symm
              subst hb
              have sp := E.spec hbf
              have hd : (whole s).2.deepest = m := by
                have := E.deepest
                show (top s).2.deepest = m
                rw [this]
                simp [rd0]
              have hpl : (at_ (whole s).2.parts (whole s).1).places = d.places := sp.pla
              rw [hd, hpl] at h4
              exact ⟨d, m, rfl, by omega, by omega, by omega, sp.fine, accOk d _ hP2 rfl sp (by omega), fun u hu => (spec_acc G.ok sp (by omega) u hu).2⟩
end Go.Proofs.Ytjmkkkfloalliab.Q
