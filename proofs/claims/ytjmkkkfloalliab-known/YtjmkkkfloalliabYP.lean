import Derived.Test.YtjmkkkfloalliabY0
namespace Go.Proofs.Ytjmkkkfloalliab.Q
set_option linter.unusedVariables false
variable {s : List UInt8}

/-- how many parts there can be -/
def phi (s : List UInt8) (σ : Rd) : Nat := σ.parts.length + 4 * left s σ
theorem phi_add (p : Part) (σ : Rd) : phi s (add p σ).2 = phi s σ + 1 := by
  have := add_left (s := s) p σ
  unfold phi
  rw [this]
  simp [add]
  omega
theorem phi_on {σ τ : Rd} (h : On s σ τ) (hp : τ.parts = σ.parts) : phi s τ ≤ phi s σ := by
  have := h.left
  unfold phi
  rw [hp]
  omega
theorem phi_fwd {σ : Rd} (h : next s σ ≠ -1) : phi s (fwd σ) + 4 ≤ phi s σ := by
  have := fwd_left h
  unfold phi
  rw [fwd_parts]
  omega
def Job.cost : Job → Nat
  | .inl () => 4
  | .inr (.inl _) => 3
  | .inr (.inr (.inl ())) => 4
  | .inr (.inr (.inr (.inl _))) => 3
  | .inr (.inr (.inr (.inr (.inl ())))) => 0
  | .inr (.inr (.inr (.inr (.inr (.inl _))))) => 3
  | .inr (.inr (.inr (.inr (.inr (.inr ()))))) => 0
def Job.needs (s : List UInt8) (σ : Rd) : Job → Prop
  | .inl () => True
  | .inr (.inl _) => True
  | .inr (.inr (.inl ())) => True
  | .inr (.inr (.inr (.inl _))) => True
  | .inr (.inr (.inr (.inr (.inl ())))) => next s σ ≠ -1
  | .inr (.inr (.inr (.inr (.inr (.inl _))))) => True
  | .inr (.inr (.inr (.inr (.inr (.inr ()))))) => next s σ ≠ -1
theorem phi_leaf {σ : Rd} (hn : next s σ ≠ -1) : phi s (leaf s σ).2 + 4 ≤ phi s σ := by
  have := leaf_adv σ hn
  unfold phi
  rw [leaf_parts]
  omega
theorem go_phi : ∀ (f : Nat) (j : Job) (σ : Rd), 8 * left s σ + j.rank ≤ f → PartsOk σ.parts → j.ok σ → j.needs s σ → phi s (go s f j σ).2 + 3 ≤ phi s σ + j.cost
  | 0, j, _, h, _, _, _ => by have := Job.rank_pos j; omega
  | f + 1, .inl (), σ, h, hp, _, _ => by
    simp only [Job.rank] at h
    have g1 := (go_good (s := s) f .seq σ (by simp only [Job.rank]; omega) hp trivial).1
    have hl := g1.on.left
    have e1 := go_phi f .seq σ (by simp only [Job.rank]; omega) hp trivial trivial
    have e2 := go_phi f (.altL (go s f .seq σ).1) (go s f .seq σ).2 (by simp only [Job.rank]; omega) g1.ok g1.lt trivial
    simp only [Job.cost] at e1 e2 ⊢
    unfold go
    omega
  | f + 1, .inr (.inl n), σ, h, hp, hn, _ => by
    simp only [Job.rank] at h
    unfold go
    split
    · next h2 =>
      have hne : next s σ ≠ -1 := by rw [h2]; decide
      have hl := fwd_left hne
      have hf := phi_fwd hne
      have g1 := (go_good (s := s) f .seq (fwd σ) (by simp only [Job.rank]; omega) hp trivial).1
      have e1 := go_phi f .seq (fwd σ) (by simp only [Job.rank]; omega) hp trivial trivial
      have hn2 : n < (go s f .seq (fwd σ)).2.parts.length := Nat.lt_of_lt_of_le hn g1.len
      have g2 : Good (s := s) _ (add (mk 3 n (go s f .seq (fwd σ)).1) (go s f .seq (fwd σ)).2) := good_add g1.ok (mk_ok _ _ _ _ (by omega) (fun _ => hn2) (fun _ => g1.lt))
      have h3 := (g1.on.trans g2.on).left
      have e2 := phi_add (s := s) (mk 3 n (go s f .seq (fwd σ)).1) (go s f .seq (fwd σ)).2
      have e3 := go_phi f (.altL (add (mk 3 n (go s f .seq (fwd σ)).1) (go s f .seq (fwd σ)).2).1) _ (by simp only [Job.rank]; omega) g2.ok g2.lt trivial
      simp only [Job.cost] at e1 e3 ⊢
      omega
    · simp only [Job.cost]; omega
  | f + 1, .inr (.inr (.inl ())), σ, h, hp, _, _ => by
    simp only [Job.rank] at h
    unfold go
    have g2 : Good (s := s) σ (add (mk 0 0 0) σ) := good_add hp (mk_ok _ _ _ _ (by omega) (fun h => by omega) (fun h => by omega))
    have h3 := add_left (s := s) (mk 0 0 0) σ
    have e2 := phi_add (s := s) (mk 0 0 0) σ
    have e3 := go_phi f (.seqL (add (mk 0 0 0) σ).1) _ (by simp only [Job.rank]; omega) g2.ok g2.lt trivial
    simp only [Job.cost] at e3 ⊢
    omega
  | f + 1, .inr (.inr (.inr (.inl n))), σ, h, hp, hn, _ => by
    simp only [Job.rank] at h
    unfold go
    split
    · simp only [Job.cost]; omega
    · next h2 =>
      have hne : next s σ ≠ -1 := by intro e; rw [e] at h2; exact h2 rfl
      obtain ⟨g1, a1⟩ := go_good (s := s) f .rep σ (by simp only [Job.rank]; omega) hp trivial
      have hl := a1 hne
      have e1 := go_phi f .rep σ (by simp only [Job.rank]; omega) hp trivial hne
      have hn2 : n < (go s f .rep σ).2.parts.length := Nat.lt_of_lt_of_le hn g1.len
      have g2 : Good (s := s) _ (add (mk 2 n (go s f .rep σ).1) (go s f .rep σ).2) := good_add g1.ok (mk_ok _ _ _ _ (by omega) (fun _ => hn2) (fun _ => g1.lt))
      have h3 := g2.on.left
      have e2 := phi_add (s := s) (mk 2 n (go s f .rep σ).1) (go s f .rep σ).2
      have e3 := go_phi f (.seqL (add (mk 2 n (go s f .rep σ).1) (go s f .rep σ).2).1) _ (by simp only [Job.rank]; omega) g2.ok g2.lt trivial
      simp only [Job.cost] at e1 e3 ⊢
      omega
  | f + 1, .inr (.inr (.inr (.inr (.inl ())))), σ, h, hp, _, hne => by
    simp only [Job.rank] at h
    obtain ⟨g1, a1⟩ := go_good (s := s) f .term σ (by simp only [Job.rank]; omega) hp trivial
    have hl := g1.on.left
    have e1 := go_phi f .term σ (by simp only [Job.rank]; omega) hp trivial hne
    have e2 := go_phi f (.repL (go s f .term σ).1) (go s f .term σ).2 (by simp only [Job.rank]; omega) g1.ok g1.lt trivial
    simp only [Job.cost] at e1 e2 ⊢
    unfold go
    omega
  | f + 1, .inr (.inr (.inr (.inr (.inr (.inl n))))), σ, h, hp, hn, _ => by
    simp only [Job.rank] at h
    unfold go
    split
    · next h2 =>
      obtain ⟨o1, hne⟩ := repPart_on n σ h2
      have hl := fwd_left hne
      have hf := phi_fwd hne
      have hpp : (repPart s n σ).2.parts = σ.parts := repPart_parts n σ
      have hq := phi_on o1 (by rw [hpp, fwd_parts])
      have g2 : Good (s := s) _ (add (repPart s n σ).1 (repPart s n σ).2) := good_add (by rw [hpp]; exact hp) (repPart_ok _ _ _ (by rw [hpp]; exact hn))
      have h3 := (o1.trans g2.on).left
      have e2 := phi_add (s := s) (repPart s n σ).1 (repPart s n σ).2
      have e3 := go_phi f (.repL (add (repPart s n σ).1 (repPart s n σ).2).1) _ (by simp only [Job.rank]; omega) g2.ok g2.lt trivial
      simp only [Job.cost] at e3 ⊢
      omega
    · simp only [Job.cost]; omega
  | f + 1, .inr (.inr (.inr (.inr (.inr (.inr ()))))), σ, h, hp, _, hne => by
    simp only [Job.rank] at h
    unfold go
    split
    · next h2 =>
      have hl := opened_left hne
      have ho : phi s (opened σ) + 4 ≤ phi s σ := by
        unfold phi
        show σ.parts.length + _ + 4 ≤ _
        omega
      have g1 := (go_good (s := s) f .alt (opened σ) (by simp only [Job.rank]; omega) hp trivial).1
      have e1 := go_phi f .alt (opened σ) (by simp only [Job.rank]; omega) hp trivial trivial
      have e2 := phi_on (closed_on (s := s) (go s f .alt (opened σ)).2) (closed_parts _)
      simp only [Job.cost] at e1 ⊢
      omega
    · have e1 := phi_leaf hne
      have e2 := phi_add (s := s) (leaf s σ).1 (leaf s σ).2
      simp only [Job.cost]
      omega
end Go.Proofs.Ytjmkkkfloalliab.Q
