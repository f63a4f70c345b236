import Derived.Test.YtjmkkkfloalliabFB
-- how many words there are; when the walk ends
namespace Go.Proofs.Ytjmkkkfloalliab.Q
set_option linter.unusedVariables false
open M (LF sl pre lo num row ahead)

/-- the words in x, the empty one apart -/
def subs : List UInt8 → List (List UInt8)
  | [] => []
  | c :: x => (List.range (x.length + 1)).map (fun l => (c :: x).take (l + 1)) ++ subs x
theorem subs_len : ∀ x : List UInt8, 2 * (subs x).length = x.length * (x.length + 1)
  | [] => rfl
  | c :: x => by
    have := subs_len x
    simp only [subs, List.length_append, List.length_map, List.length_range, List.length_cons]
    have e1 : (x.length + 1) * (x.length + 1 + 1) = x.length * (x.length + 1) + 2 * (x.length + 1) := by rw [Nat.mul_comm (x.length + 1), ← Nat.add_mul]
    omega
theorem subs_mem : ∀ (t : List UInt8) (p : Nat) (u : List UInt8), u ≠ [] → pre u (t.drop p) = true → u ∈ subs t
  | [], p, u, hu, h => by
    rw [List.drop_nil] at h
    obtain ⟨y, e⟩ := (M.pre_iff u []).1 h
    exact absurd (List.append_eq_nil_iff.1 e.symm).1 hu
  | c :: x, 0, u, hu, h => by
    obtain ⟨y, e⟩ := (M.pre_iff u _).1 h
    rw [List.drop_zero] at e
    refine List.mem_append_left _ (List.mem_map.2 ⟨u.length - 1, List.mem_range.2 ?_, ?_⟩)
    · have := congrArg List.length e
      simp at this
      cases u with
      | nil => exact absurd rfl hu
      | cons d v => simp at this ⊢; omega
    · have : u.length - 1 + 1 = u.length := by cases u with
        | nil => exact absurd rfl hu
        | cons d v => simp
      rw [this, e, List.take_left]
  | c :: x, p + 1, u, hu, h => List.mem_append_right _ (subs_mem x p u hu h)
theorem nodup_le {α : Type} [DecidableEq α] : ∀ (l l' : List α), l.Nodup → (∀ x, x ∈ l → x ∈ l') → l.length ≤ l'.length
  | [], l', _, _ => by simp
  | x :: l, l', hn, hs => by
    have hn' := List.nodup_cons.1 hn
    have hx : x ∈ l' := hs x List.mem_cons_self
    have ih := nodup_le l (l'.erase x) hn'.2 (fun y hy => (List.mem_erase_of_ne (fun e => hn'.1 (by rw [← e]; exact hy))).2 (hs y (List.mem_cons_of_mem _ hy)))
    rw [List.length_erase_of_mem hx] at ih
    have := List.length_pos_of_mem hx
    simp
    omega
/-- how many words a text can have -/
def most (n : Nat) : Nat := n * (n + 1) / 2 + 1
variable {t : List UInt8} {P : Pat}
theorem Inv.few {w : Wk} {f : Nat → List UInt8} {k : Nat} {seen : UInt8 → Prop} (h : Inv t P w f k seen) : w.list.length ≤ most t.length := by
  have h1 := nodup_le ((List.range w.list.length).map f) ([] :: subs t) ?_ ?_
  · have h2 := subs_len t
    simp at h1
    unfold most
    omega
  · rw [List.nodup_iff_pairwise_ne, List.pairwise_map]
    have := List.nodup_range (n := w.list.length)
    rw [List.nodup_iff_pairwise_ne] at this
    exact this.imp_of_mem (fun {a b} ha hb hne e => hne (h.inj a b (List.mem_range.1 ha) (List.mem_range.1 hb) e))
  · intro x hx
    obtain ⟨j, hj, rfl⟩ := List.mem_map.1 hx
    have hl := (h.st j (List.mem_range.1 hj)).2
    by_cases e : f j = []
    · rw [e]; exact List.mem_cons_self
    · obtain ⟨p, _, g⟩ := M.pos_num hl.1
      exact List.mem_cons_of_mem _ (subs_mem t p _ e g)

variable (t P) (memo : Bool)
/-- the walk when k are dealt with, whatever it may cost -/
def wks : Nat → Wk
  | 0 => wk0 (ahead t) memo
  | k + 1 => if k < (wks k).list.length then goOn (ahead t) (row t 0) P memo (stAt (wks k).list k) (wks k) else wks k
variable {t P memo}
theorem wks_inv : ∀ k, (∃ f, Inv t P (wks t P memo k) f k (fun _ => False)) ∨ (wks t P memo k).list.length < k ∧ wks t P memo k = wks t P memo (k - 1)
  | 0 => .inl ⟨_, Inv.start memo⟩
  | k + 1 => by
    by_cases h : k < (wks t P memo k).list.length
    · rcases wks_inv k with ⟨f, g⟩ | ⟨g, _⟩
      · obtain ⟨f', _, g'⟩ := g.on memo h
        refine .inl ⟨f', ?_⟩
        rw [wks, if_pos h]
        exact g'
      · omega
    · refine .inr ?_
      rw [wks, if_neg h]
      exact ⟨by omega, rfl⟩
theorem wks_step (k : Nat) : (wks t P memo k).list.length ≤ (wks t P memo (k + 1)).list.length := by
  rw [wks]
  split
  · exact (goTo_len _ _ _).1
  · exact Nat.le_refl _
theorem wks_mono (i : Nat) : ∀ d, (wks t P memo i).list.length ≤ (wks t P memo (i + d)).list.length
  | 0 => Nat.le_refl _
  | d + 1 => Nat.le_trans (wks_mono i d) (wks_step (i + d))
theorem wks_stop {i : Nat} (h : (wks t P memo i).list.length ≤ i) : ∀ d, wks t P memo (i + d) = wks t P memo i
  | 0 => rfl
  | d + 1 => by
    have ih := wks_stop h d
    show wks t P memo (i + d + 1) = _
    rw [wks, ih, if_neg (by omega)]
theorem wks_few : ∀ k, (wks t P memo k).list.length ≤ most t.length
  | 0 => (Inv.start (P := P) memo).few
  | k + 1 => by
    rcases wks_inv (t := t) (P := P) (memo := memo) (k + 1) with ⟨f, g⟩ | ⟨_, g⟩
    · exact g.few
    · rw [g]; exact wks_few k
theorem wks_one (k : Nat) : 1 ≤ (wks t P memo k).list.length := by
  have h0 : 1 ≤ (wks t P memo 0).list.length := by
    obtain ⟨j, a, _⟩ := (Inv.start (t := t) (P := P) memo).top
    exact Nat.lt_of_le_of_lt (Nat.zero_le _) a
  have := wks_mono (t := t) (P := P) (memo := memo) 0 k
  rw [Nat.zero_add] at this
  omega
/-- the walk to its end -/
def full (t : List UInt8) (P : Pat) (memo : Bool) : Wk := wks t P memo (most t.length)
/-- how many steps it wants -/
def steps (t : List UInt8) (P : Pat) (memo : Bool) : Nat := (full t P memo).list.length
theorem steps_le : steps t P memo ≤ most t.length := wks_few _
theorem steps_pos : 1 ≤ steps t P memo := wks_one _
theorem full_stop {i : Nat} (h : (wks t P memo i).list.length ≤ i) : wks t P memo i = full t P memo := by
  have h2 : (wks t P memo (most t.length)).list.length ≤ most t.length := wks_few _
  unfold full
  rcases Nat.le_total i (most t.length) with g | g
  · obtain ⟨d, e⟩ := Nat.exists_eq_add_of_le g
    rw [e, wks_stop h d]
  · obtain ⟨d, e⟩ := Nat.exists_eq_add_of_le g
    rw [e, wks_stop h2 d]
theorem steps_ge (i : Nat) : (wks t P memo i).list.length ≤ steps t P memo := by
  have h2 : (wks t P memo (most t.length)).list.length ≤ most t.length := wks_few _
  unfold steps full
  rcases Nat.le_total i (most t.length) with g | g
  · obtain ⟨d, e⟩ := Nat.exists_eq_add_of_le g
    rw [e]; exact wks_mono i d
  · obtain ⟨d, e⟩ := Nat.exists_eq_add_of_le g
    rw [e, wks_stop h2 d]
    exact Nat.le_refl _
/-- with a budget -/
theorem run_wks (b : Nat) : ∀ (f k : Nat), b + 1 ≤ k + f → (∀ i, i < k → i < (wks t P memo i).list.length ∧ (wks t P memo i).list.length ≤ b) →
    ∃ j, run (ahead t) (row t 0) P memo b f k (wks t P memo k) = wks t P memo j ∧ ¬ (j < (wks t P memo j).list.length ∧ (wks t P memo j).list.length ≤ b)
  | 0, k, hf, hk => by
    refine ⟨k, rfl, fun h => ?_⟩
    omega
  | f + 1, k, hf, hk => by
    unfold run
    split
    · next h =>
      have e : wks t P memo (k + 1) = goOn (ahead t) (row t 0) P memo (stAt (wks t P memo k).list k) (wks t P memo k) := by rw [wks, if_pos h.1]
      rw [← e]
      refine run_wks b f (k + 1) (by omega) (fun i hi => ?_)
      rcases Nat.lt_or_ge i k with g | g
      · exact hk i g
      · have : i = k := by omega
        subst this
        exact h
    · next h => exact ⟨k, rfl, h⟩
theorem runAll_yes {b : Nat} (h : steps t P memo ≤ b) : runAll (ahead t) (row t 0) P memo b = full t P memo := by
  obtain ⟨j, e, g⟩ := run_wks (t := t) (P := P) (memo := memo) b (b + 1) 0 (by omega) (fun i hi => by omega)
  have e2 : runAll (ahead t) (row t 0) P memo b = wks t P memo j := e
  rw [e2]
  have := steps_ge (t := t) (P := P) (memo := memo) j
  exact full_stop (Nat.le_of_not_lt fun k => g ⟨k, by omega⟩)
theorem runAll_no {b : Nat} (h : b < steps t P memo) : b < (runAll (ahead t) (row t 0) P memo b).list.length := by
  obtain ⟨j, e, g⟩ := run_wks (t := t) (P := P) (memo := memo) b (b + 1) 0 (by omega) (fun i hi => by omega)
  have e2 : runAll (ahead t) (row t 0) P memo b = wks t P memo j := e
  rw [e2]
  rcases Nat.lt_or_ge b (wks t P memo j).list.length with k | k
  · exact k
  · exfalso
    have h3 : (wks t P memo j).list.length ≤ j := Nat.le_of_not_lt fun k2 => g ⟨k2, k⟩
    have := full_stop h3
    unfold steps at h
    rw [this] at k
    omega
theorem full_inv : ∃ f, Inv t P (full t P memo) f (steps t P memo) (fun _ => False) := by
  have key : ∀ k, (wks t P memo k).list.length ≤ k → ∃ f i, (wks t P memo k).list.length ≤ i ∧ Inv t P (wks t P memo k) f i (fun _ => False) := by
    intro k
    induction k with
    | zero => intro h; exact ⟨_, 0, h, Inv.start memo⟩
    | succ k ih =>
      intro h
      rcases wks_inv (t := t) (P := P) (memo := memo) (k + 1) with ⟨f, g⟩ | ⟨g1, g2⟩
      · exact ⟨f, k + 1, h, g⟩
      · rw [g2] at g1 ⊢
        exact ih (by simp at g1; omega)
  obtain ⟨f, i, hi, g⟩ := key (most t.length) (wks_few _)
  have g' : Inv t P (full t P memo) f i (fun _ => False) := g
  refine ⟨f, g'.st, g'.inj, fun j c u hj e => ?_, fun j c hj hc hl => g'.closed j c hj (.inl ?_) hl, g'.top, g'.chain⟩
  · obtain ⟨m, a, b, d⟩ := g'.from_ j c u hj e
    exact ⟨m, a, b, .inl a⟩
  · have : (full t P memo).list.length ≤ i := hi
    omega
end Go.Proofs.Ytjmkkkfloalliab.Q
