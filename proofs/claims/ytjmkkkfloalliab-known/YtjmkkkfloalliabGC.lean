import Derived.Test.YtjmkkkfloalliabGB
-- what a part stands for
namespace Go.Proofs.Ytjmkkkfloalliab.Q
set_option linter.unusedVariables false

structure Den where
  lang : Lang
  some : Bool
  empty : Bool
  places : Nat
def cutP (s : Bool) (n : Nat) : Nat := if s = false then 0 else if 48 < n then 49 else n
def dEps : Den := ⟨fun u => u = [], true, true, 0⟩
def dByte (ins : List Bool) : Den := ⟨fun u => ∃ c : UInt8, u = [c] ∧ ins.getD c.toNat false = true, anyIn ins, false, cutP (anyIn ins) 1⟩
def dCat (a b : Den) : Den := ⟨Cat a.lang b.lang, a.some && b.some, a.empty && b.empty, cutP (a.some && b.some) (a.places + b.places)⟩
def dAlt (a b : Den) : Den := ⟨fun u => a.lang u ∨ b.lang u, a.some || b.some, a.empty || b.empty, cutP (a.some || b.some) (a.places + b.places)⟩
def dRep (a : Den) (low high : Nat) (endless : Bool) : Den :=
  ⟨fun u => ∃ m, low ≤ m ∧ (endless = true ∨ m ≤ high) ∧ Pow a.lang m u, a.some || decide (low = 0), a.empty || decide (low = 0), cutP (a.some || decide (low = 0)) (a.places * (if endless then low + 1 else high))⟩
structure Fine (d : Den) : Prop where
  emp : d.empty = true ↔ d.lang []
  som : d.some = false → ∀ u, ¬ d.lang u
  pla : d.places = 0 → ∀ u, d.lang u → u = []
  inh : d.some = true → ∃ u, d.lang u
theorem cutP_zero {s : Bool} {n : Nat} (h : cutP s n = 0) : s = false ∨ (s = true ∧ n = 0) := by
  unfold cutP at h
  cases s with
  | false => exact .inl rfl
  | true =>
    right
    rw [if_neg (by decide)] at h
    split at h
    · omega
    · exact ⟨rfl, h⟩
theorem cutP_some {s : Bool} {n : Nat} (h : cutP s n ≠ 0) (h2 : cutP s n ≤ 48) : s = true ∧ cutP s n = n := by
  unfold cutP at h h2 ⊢
  cases s with
  | false => exact absurd rfl h
  | true =>
    refine ⟨rfl, ?_⟩
    rw [if_neg (by decide)] at h h2 ⊢
    split
    · next g => rw [if_pos g] at h2; omega
    · rfl
theorem fine_eps : Fine dEps := ⟨by simp [dEps], fun h => (by cases h), fun _ u h => h, fun _ => ⟨[], rfl⟩⟩
theorem any_byte {ins : List Bool} (hi : ins.length = 256) (h : anyIn ins = true) : ∃ c : UInt8, ins.getD c.toNat false = true := by
  obtain ⟨b, hb, e⟩ := List.any_eq_true.1 h
  have e2 : b = true := e
  subst e2
  obtain ⟨i, hi2, he⟩ := List.getElem_of_mem hb
  refine ⟨UInt8.ofNat i, ?_⟩
  have hn : (UInt8.ofNat i).toNat = i := by rw [UInt8.toNat_ofNat']; exact Nat.mod_eq_of_lt (by omega)
  rw [hn, List.getD_eq_getElem?_getD, List.getElem?_eq_getElem hi2, he]
  rfl
theorem fine_byte (ins : List Bool) (hi : ins.length = 256) : Fine (dByte ins) := by
  have key : anyIn ins = false → ∀ u, ¬ (dByte ins).lang u := by
    rintro h u ⟨c, rfl, g⟩
    rw [List.getD_eq_getElem?_getD] at g
    cases e : ins[c.toNat]? with
    | none => rw [e] at g; cases g
    | some b =>
      rw [e] at g
      have g2 : b = true := g
      subst g2
      have := List.any_eq_false.1 h true (List.mem_of_getElem? e)
      simp at this
  refine ⟨by simp [dByte], key, fun h u g => ?_, fun h => ?_⟩
  · rcases cutP_zero h with h | ⟨_, h⟩
    · exact absurd g (key h u)
    · cases h
  · obtain ⟨c, hc⟩ := any_byte hi h
    exact ⟨[c], c, rfl, hc⟩
theorem fine_cat {a b : Den} (ha : Fine a) (hb : Fine b) : Fine (dCat a b) := by
  have key : (a.some && b.some) = false → ∀ u, ¬ (dCat a b).lang u := by
    rintro h u ⟨x, y, rfl, g1, g2⟩
    rw [Bool.and_eq_false_iff] at h
    rcases h with h | h
    · exact ha.som h x g1
    · exact hb.som h y g2
  refine ⟨?_, key, fun h u g => ?_, fun h => ?_⟩
  · show (a.empty && b.empty) = true ↔ _
    rw [Bool.and_eq_true, ha.emp, hb.emp]
    constructor
    · rintro ⟨h, g⟩; exact ⟨[], [], rfl, h, g⟩
    · rintro ⟨x, y, e, h, g⟩
      have := List.append_eq_nil_iff.1 e.symm
      rw [this.1] at h
      rw [this.2] at g
      exact ⟨h, g⟩
  · rcases cutP_zero h with h | ⟨_, h⟩
    · exact absurd g (key h u)
    · obtain ⟨x, y, rfl, g1, g2⟩ := g
      rw [ha.pla (by omega) x g1, hb.pla (by omega) y g2]
      rfl
  · obtain ⟨h1, h2⟩ := Bool.and_eq_true_iff.1 (show (a.some && b.some) = true from h)
    obtain ⟨x, hx⟩ := ha.inh h1
    obtain ⟨y, hy⟩ := hb.inh h2
    exact ⟨x ++ y, x, y, rfl, hx, hy⟩
theorem fine_alt {a b : Den} (ha : Fine a) (hb : Fine b) : Fine (dAlt a b) := by
  have key : (a.some || b.some) = false → ∀ u, ¬ (dAlt a b).lang u := by
    intro h u g
    rw [Bool.or_eq_false_iff] at h
    rcases g with g | g
    · exact ha.som h.1 u g
    · exact hb.som h.2 u g
  refine ⟨?_, key, fun h u g => ?_, fun h => ?_⟩
  · show (a.empty || b.empty) = true ↔ _
    rw [Bool.or_eq_true, ha.emp, hb.emp]
    exact Iff.rfl
  · rcases cutP_zero h with h | ⟨_, h⟩
    · exact absurd g (key h u)
    · rcases g with g | g
      · exact ha.pla (by omega) u g
      · exact hb.pla (by omega) u g
  · rcases Bool.or_eq_true_iff.1 (show (a.some || b.some) = true from h) with h1 | h1
    · obtain ⟨x, hx⟩ := ha.inh h1
      exact ⟨x, .inl hx⟩
    · obtain ⟨x, hx⟩ := hb.inh h1
      exact ⟨x, .inr hx⟩
theorem pow_small {A : Lang} (h : ∀ u, A u → u = []) : ∀ m u, Pow A m u → u = []
  | 0, u, g => g
  | m + 1, u, ⟨x, y, e, g1, g2⟩ => by rw [e, h x g1, pow_small h m y g2]; rfl
theorem fine_rep {a : Den} {low high : Nat} {endless : Bool} (ha : Fine a) (hb : endless = true ∨ low ≤ high) : Fine (dRep a low high endless) := by
  have key : (a.some || decide (low = 0)) = false → ∀ u, ¬ (dRep a low high endless).lang u := by
    rintro h u ⟨m, g1, g2, g3⟩
    rw [Bool.or_eq_false_iff] at h
    have h2 := of_decide_eq_false h.2
    obtain ⟨n, rfl⟩ : ∃ n, m = n + 1 := ⟨m - 1, by omega⟩
    obtain ⟨x, y, _, g, _⟩ := g3
    exact ha.som h.1 x g
  refine ⟨?_, key, fun h u g => ?_, fun h => ?_⟩
  · show (a.empty || decide (low = 0)) = true ↔ _
    rw [Bool.or_eq_true, ha.emp, decide_eq_true_eq]
    constructor
    · rintro (h | h)
      · exact ⟨low, Nat.le_refl _, hb, pow_nil h low⟩
      · exact ⟨0, by omega, .inr (Nat.zero_le _), rfl⟩
    · rintro ⟨m, g1, g2, g3⟩
      cases m with
      | zero => right; omega
      | succ m =>
        left
        obtain ⟨x, y, e, g, _⟩ := g3
        rw [(List.append_eq_nil_iff.1 e.symm).1] at g
        exact g
  · rcases cutP_zero h with h | ⟨_, h⟩
    · exact absurd g (key h u)
    · obtain ⟨m, g1, g2, g3⟩ := g
      rcases Nat.mul_eq_zero.1 h with h | h
      · exact pow_small (ha.pla h) m u g3
      · cases endless with
        | true => simp at h
        | false =>
          have hh : high = 0 := by simpa using h
          have hm : m = 0 := by
            rcases g2 with g2 | g2
            · cases g2
            · omega
          subst hm
          exact g3
  · rcases Bool.or_eq_true_iff.1 (show (a.some || decide (low = 0)) = true from h) with h1 | h1
    · obtain ⟨x, hx⟩ := ha.inh h1
      have pw : ∀ m, ∃ v, Pow a.lang m v := by
        intro m
        induction m with
        | zero => exact ⟨[], rfl⟩
        | succ m ih =>
          obtain ⟨v, hv⟩ := ih
          exact ⟨x ++ v, x, v, rfl, hx, hv⟩
      obtain ⟨v, hv⟩ := pw low
      exact ⟨v, low, Nat.le_refl _, hb, hv⟩
    · have := of_decide_eq_true h1
      exact ⟨[], 0, by omega, .inr (Nat.zero_le _), rfl⟩

theorem at_new (ps : List Part) (x : Part) : at_ (ps ++ [x]) ps.length = x := by
  unfold at_
  rw [List.getD_eq_getElem?_getD, List.getElem?_append_right (Nat.le_refl _)]
  simp
section
variable {ps : List Part} {f n : Nat} {p : Pat}
theorem lay_none (h0 : (at_ ps n).places = 0) : lay ps (f + 1) n p = (⟨0, 0, (at_ ps n).empty⟩, p) := by unfold lay; rw [if_pos h0]
theorem lay_two (h0 : (at_ ps n).places ≠ 0) (h2 : (at_ ps n).kind = 2) : lay ps (f + 1) n p = join (lay ps f (at_ ps n).left p).1 (lay ps f (at_ ps n).right (lay ps f (at_ ps n).left p).2).1 (lay ps f (at_ ps n).right (lay ps f (at_ ps n).left p).2).2 := by
  conv => lhs; unfold lay
  rw [if_neg h0, if_pos h2]
theorem lay_three (h0 : (at_ ps n).places ≠ 0) (h2 : (at_ ps n).kind = 3) : lay ps (f + 1) n p = (either (lay ps f (at_ ps n).left p).1 (lay ps f (at_ ps n).right (lay ps f (at_ ps n).left p).2).1, (lay ps f (at_ ps n).right (lay ps f (at_ ps n).left p).2).2) := by
  conv => lhs; unfold lay
  rw [if_neg h0, if_neg (by omega), if_pos h2]
theorem lay_four (h0 : (at_ ps n).places ≠ 0) (h2 : (at_ ps n).kind = 4) : lay ps (f + 1) n p = copies (lay ps f (at_ ps n).left) (at_ ps n).low (at_ ps n).endless (at_ ps n).copies (at_ ps n).copies ⟨0, 0, true⟩ p := by
  conv => lhs; unfold lay
  rw [if_neg h0, if_neg (by omega), if_neg (by omega), if_pos h2]
theorem lay_byte (h0 : (at_ ps n).places ≠ 0) (h2 : (at_ ps n).kind = 1) : lay ps (f + 1) n p = layByte (at_ ps n).ins p := by
  conv => lhs; unfold lay
  rw [if_neg h0, if_neg (by omega), if_neg (by omega), if_neg (by omega)]
end
theorem lay_app {ps : List Part} (hps : PartsOk ps) (l : List Part) : ∀ f n, n < ps.length → lay (ps ++ l) f n = lay ps f n
  | 0, n, _ => rfl
  | f + 1, n, hn => by
    funext p
    have k := (hps.get n hn).1
    unfold lay
    rw [at_app ps l n hn]
    by_cases h0 : (at_ ps n).places = 0
    · rw [if_pos h0, if_pos h0]
    rw [if_neg h0, if_neg h0]
    by_cases h2 : (at_ ps n).kind = 2
    · have hl := k.left (by omega)
      have hr := k.right (.inl h2)
      rw [if_pos h2, if_pos h2, lay_app hps l f _ (by omega), lay_app hps l f _ (by omega)]
    rw [if_neg h2, if_neg h2]
    by_cases h3 : (at_ ps n).kind = 3
    · have hl := k.left (by omega)
      have hr := k.right (.inr h3)
      rw [if_pos h3, if_pos h3, lay_app hps l f _ (by omega), lay_app hps l f _ (by omega)]
    rw [if_neg h3, if_neg h3]
    by_cases h4 : (at_ ps n).kind = 4
    · have hl := k.left (by omega)
      rw [if_pos h4, if_pos h4, lay_app hps l f _ (by omega)]
    rw [if_neg h4, if_neg h4]

/-- part n stands for d -/
structure Spec (ps : List Part) (n : Nat) (d : Den) : Prop where
  lt : n < ps.length
  som : (at_ ps n).some = d.some
  emp : (at_ ps n).empty = d.empty
  pla : (at_ ps n).places = d.places
  fine : Fine d
  lay : ∀ f, n < f → LayL d.places (lay ps f n) d.lang
theorem Spec.app {ps : List Part} {n : Nat} {d : Den} (h : Spec ps n d) (hps : PartsOk ps) (l : List Part) : Spec (ps ++ l) n d := by
  have e := at_app ps l n h.lt
  refine ⟨by simp; have := h.lt; omega, by rw [e]; exact h.som, by rw [e]; exact h.emp, by rw [e]; exact h.pla, h.fine, fun f hf => ?_⟩
  rw [lay_app hps l f n h.lt]
  exact h.lay f hf
theorem layL_zero {d : Den} {rec : Pat → Span × Pat} (hf : Fine d) (h0 : d.places = 0) (h : ∀ p, rec p = (⟨0, 0, d.empty⟩, p)) : LayL d.places rec d.lang := by
  intro p hp fp _
  rw [h p]
  refine ⟨Ext.refl fp, frag_none _ _ _ fun u => ?_, fun i g1 g2 => absurd g2 (by show ¬ i < p.size; omega)⟩
  rw [hf.emp]
  constructor
  · intro g
    have := hf.pla h0 u g
    subst this
    exact ⟨rfl, g⟩
  · rintro ⟨rfl, g⟩
    exact g
theorem spec_eps {ps : List Part} (hps : PartsOk ps) : Spec (ps ++ [fill ps (mk 0 0 0)]) ps.length dEps := by
  refine ⟨by simp, by rw [at_new]; rfl, by rw [at_new]; rfl, by rw [at_new]; rfl, fine_eps, fun f hf => ?_⟩
  obtain ⟨f, rfl⟩ : ∃ g, f = g + 1 := ⟨f - 1, by omega⟩
  refine layL_zero fine_eps rfl fun p => ?_
  rw [lay_none (by rw [at_new]; rfl), at_new]
  rfl
theorem spec_byte {ps : List Part} (hps : PartsOk ps) {q : Part} (hk : q.kind = 1) (hs : q.some = false) (he : q.empty = false) (hi : q.ins.length = 256) : Spec (ps ++ [fill ps q]) ps.length (dByte q.ins) := by
  have e : fill ps q = { q with some := anyIn q.ins, places := cutP (anyIn q.ins) 1 } := by
    unfold fill known
    rw [if_neg (by omega), if_pos hk]
    simp [cut, cutP, hs]
  refine ⟨by simp, by rw [at_new, e]; rfl, by rw [at_new, e]; exact he, by rw [at_new, e]; rfl, fine_byte _ hi, fun f hf => ?_⟩
  obtain ⟨f, rfl⟩ : ∃ g, f = g + 1 := ⟨f - 1, by omega⟩
  by_cases h0 : (dByte q.ins).places = 0
  · refine layL_zero (fine_byte _ hi) h0 fun p => ?_
    rw [lay_none (by rw [at_new, e]; exact h0), at_new, e]
    show (Span.mk 0 0 q.empty, p) = _
    rw [he]
    rfl
  · intro p hp fp hz
    have hpl : (dByte q.ins).places ≤ 48 := by have := hp.pos; omega
    obtain ⟨c1, c2⟩ := cutP_some h0 hpl
    rw [lay_byte (by rw [at_new, e]; exact h0) (by rw [at_new, e]; exact hk), at_new, e]
    refine layByte_frag q.ins hi (any_byte hi c1) p hp fp ?_
    have : (dByte q.ins).places = 1 := c2
    omega
section
variable {ps : List Part} (hps : PartsOk ps)
include hps
theorem spec_cat {a b : Nat} {d1 d2 : Den} (ha : Spec ps a d1) (hb : Spec ps b d2) : Spec (ps ++ [fill ps (mk 2 a b)]) ps.length (dCat d1 d2) := by
  have e : fill ps (mk 2 a b) = { mk 2 a b with some := d1.some && d2.some, empty := d1.empty && d2.empty, places := cutP (d1.some && d2.some) (d1.places + d2.places) } := by
    rw [← ha.som, ← hb.som, ← ha.emp, ← hb.emp, ← ha.pla, ← hb.pla]; rfl
  have hF := fine_cat ha.fine hb.fine
  refine ⟨by simp, by rw [at_new, e]; rfl, by rw [at_new, e]; rfl, by rw [at_new, e]; rfl, hF, fun f hf => ?_⟩
  obtain ⟨f, rfl⟩ : ∃ g, f = g + 1 := ⟨f - 1, by omega⟩
  by_cases h0 : (dCat d1 d2).places = 0
  · refine layL_zero hF h0 fun p => ?_
    rw [lay_none (by rw [at_new, e]; exact h0), at_new, e]
    rfl
  · intro p hp fp hz
    have hpl : (dCat d1 d2).places ≤ 48 := by have := hp.pos; omega
    obtain ⟨c1, c2⟩ := cutP_some h0 hpl
    have c3 : (dCat d1 d2).places = d1.places + d2.places := c2
    rw [lay_two (by rw [at_new, e]; exact h0) (by rw [at_new, e]; rfl)]
    have hal := ha.lt
    have hbl := hb.lt
    have el : (at_ (ps ++ [fill ps (mk 2 a b)]) ps.length).left = a := by rw [at_new]; rfl
    have er : (at_ (ps ++ [fill ps (mk 2 a b)]) ps.length).right = b := by rw [at_new]; rfl
    rw [el, er]
    rw [lay_app hps _ f a hal, lay_app hps _ f b hbl]
    obtain ⟨a1, a2, a3⟩ := lay_ok hps f a (by omega) hal p hp (by rw [ha.pla]; omega)
    obtain ⟨b1, b2, b3⟩ := lay_ok hps f b (by omega) hbl _ a1 (by rw [hb.pla]; have := ha.pla; omega)
    obtain ⟨x1, x2, x3⟩ := ha.lay f (by omega) p hp fp (by omega)
    obtain ⟨y1, y2, y3⟩ := hb.lay f (by omega) _ a1 x1.fresh (by have := ha.pla; omega)
    refine ⟨?_, frag_join (p := p) a1 b1 x1.fresh x1.size y1 x2 y2, rch_join b1 x1.fresh y1 x2 y2 x3 y3 (ha.fine.inh (Bool.and_eq_true_iff.1 c1).1)⟩
    refine link_ext (x1.trans y1) b1 (fun i h => (x2.lst i h).1) (fun k h => ?_)
    have := y2.fst k h
    have := x1.size
    omega
theorem spec_alt {a b : Nat} {d1 d2 : Den} (ha : Spec ps a d1) (hb : Spec ps b d2) : Spec (ps ++ [fill ps (mk 3 a b)]) ps.length (dAlt d1 d2) := by
  have e : fill ps (mk 3 a b) = { mk 3 a b with some := d1.some || d2.some, empty := d1.empty || d2.empty, places := cutP (d1.some || d2.some) (d1.places + d2.places) } := by
    rw [← ha.som, ← hb.som, ← ha.emp, ← hb.emp, ← ha.pla, ← hb.pla]; rfl
  have hF := fine_alt ha.fine hb.fine
  refine ⟨by simp, by rw [at_new, e]; rfl, by rw [at_new, e]; rfl, by rw [at_new, e]; rfl, hF, fun f hf => ?_⟩
  obtain ⟨f, rfl⟩ : ∃ g, f = g + 1 := ⟨f - 1, by omega⟩
  by_cases h0 : (dAlt d1 d2).places = 0
  · refine layL_zero hF h0 fun p => ?_
    rw [lay_none (by rw [at_new, e]; exact h0), at_new, e]
    rfl
  · intro p hp fp hz
    have hpl : (dAlt d1 d2).places ≤ 48 := by have := hp.pos; omega
    obtain ⟨c1, c2⟩ := cutP_some h0 hpl
    have c3 : (dAlt d1 d2).places = d1.places + d2.places := c2
    rw [lay_three (by rw [at_new, e]; exact h0) (by rw [at_new, e]; rfl)]
    have hal := ha.lt
    have hbl := hb.lt
    have el : (at_ (ps ++ [fill ps (mk 3 a b)]) ps.length).left = a := by rw [at_new]; rfl
    have er : (at_ (ps ++ [fill ps (mk 3 a b)]) ps.length).right = b := by rw [at_new]; rfl
    rw [el, er]
    rw [lay_app hps _ f a hal, lay_app hps _ f b hbl]
    obtain ⟨a1, a2, a3⟩ := lay_ok hps f a (by omega) hal p hp (by rw [ha.pla]; omega)
    obtain ⟨x1, x2, x3⟩ := ha.lay f (by omega) p hp fp (by omega)
    obtain ⟨y1, y2, y3⟩ := hb.lay f (by omega) _ a1 x1.fresh (by have := ha.pla; omega)
    exact ⟨x1.trans y1, frag_either a1 x1.fresh x1.size y1 x2 y2, rch_either x1.fresh y1 x2 x3 y3⟩
theorem spec_rep {q : Part} {d : Den} (hk : q.kind = 4) (ha : Spec ps q.left d) (hb : q.endless = true ∨ q.low ≤ q.high) : Spec (ps ++ [fill ps q]) ps.length (dRep d q.low q.high q.endless) := by
  have e : fill ps q = { q with some := d.some || decide (q.low = 0), empty := d.empty || decide (q.low = 0), places := cutP (d.some || decide (q.low = 0)) (d.places * (if q.endless then q.low + 1 else q.high)) } := by
    rw [← ha.som, ← ha.emp, ← ha.pla]
    unfold fill known
    rw [if_neg (by omega), if_neg (by omega), if_neg (by omega), if_neg (by omega)]
    rfl
  have hF := fine_rep (low := q.low) (high := q.high) (endless := q.endless) ha.fine hb
  refine ⟨by simp, by rw [at_new, e]; rfl, by rw [at_new, e]; rfl, by rw [at_new, e]; rfl, hF, fun f hf => ?_⟩
  obtain ⟨f, rfl⟩ : ∃ g, f = g + 1 := ⟨f - 1, by omega⟩
  by_cases h0 : (dRep d q.low q.high q.endless).places = 0
  · refine layL_zero hF h0 fun p => ?_
    rw [lay_none (by rw [at_new, e]; exact h0), at_new, e]
    rfl
  · intro p hp fp hz
    have hpl : (dRep d q.low q.high q.endless).places ≤ 48 := by have := hp.pos; omega
    obtain ⟨c1, c2⟩ := cutP_some h0 hpl
    have c3 : (dRep d q.low q.high q.endless).places = d.places * (if q.endless then q.low + 1 else q.high) := c2
    have c4 : (if q.endless = true then q.low + 1 else q.high) ≠ 0 := by
      intro e
      rw [e, Nat.mul_zero] at c3
      exact h0 c3
    have hal := ha.lt
    rw [lay_four (by rw [at_new, e]; exact h0) (by rw [at_new, e]; exact hk)]
    have el : (at_ (ps ++ [fill ps q]) ps.length).left = q.left := by rw [at_new, e]
    have e5 : (at_ (ps ++ [fill ps q]) ps.length).low = q.low := by rw [at_new, e]
    have e6 : (at_ (ps ++ [fill ps q]) ps.length).endless = q.endless := by rw [at_new, e]
    have hc : (at_ (ps ++ [fill ps q]) ps.length).copies = (if q.endless then q.low + 1 else q.high) := by rw [at_new, e]; rfl
    rw [el, e5, e6, hc, lay_app hps _ f q.left hal]
    generalize hn : (if q.endless = true then q.low + 1 else q.high) = n at *
    have hpos : 0 < 2 ^ p.size := Nat.pow_pos (by decide)
    have hL := lay_ok hps f q.left (by omega) hal
    rw [ha.pla] at hL
    have hin : ∃ u, d.lang u := by
      cases hsm : d.some with
      | true => exact ha.fine.inh hsm
      | false =>
        exfalso
        have h5 := ha.pla
        have h6 : d.places = 0 := by
          have h7 := (hps.get q.left hal).2
          have h8 := congrArg Part.places h7
          have h9 := congrArg Part.some h7
          rw [ha.som, hsm] at h9
          rw [← ha.pla, ← h8]
          show (if (known ps (at_ ps q.left)).some = false then 0 else _) = 0
          exact if_pos h9
        rw [h6, Nat.zero_mul] at c3
        exact h0 c3
    obtain ⟨x1, x2, x3⟩ := copies_frag hL (ha.lay f (by omega)) q.low q.endless n (fun h => by rw [h] at hn; simpa using hn.symm) hin p n ⟨0, 0, true⟩ p (Nat.le_refl _) hp ⟨hpos, hpos⟩ (Ext.refl fp) (by omega) (.inl (by omega)) ((frag_eps p.size).iff fun u => by
      rw [Nat.sub_self]
      constructor
      · intro h; exact ⟨0, by omega, by omega, h⟩
      · rintro ⟨m, _, h2, h3⟩
        have : m = 0 := by omega
        subst this
        exact h3) (fun i g1 g2 => absurd g2 (by omega))
    refine ⟨x1, x2.iff fun u => ?_, x3⟩
    cases he : q.endless with
    | true =>
      simp only [if_true]
      show _ ↔ ∃ m, _ ∧ _ ∧ _
      simp
    | false =>
      have hnh : n = q.high := by rw [he] at hn; simpa using hn.symm
      have hlh : q.low ≤ q.high := by rcases hb with h | h; · rw [he] at h; cases h
                                      · exact h
      simp only [Bool.false_eq_true, if_false]
      show Rep d.lang q.low n u ↔ ∃ m, _ ∧ _ ∧ _
      constructor
      · rintro ⟨m, h1, h2, h3⟩
        exact ⟨m, by omega, .inr (by omega), h3⟩
      · rintro ⟨m, h1, h2 | h2, h3⟩
        · cases h2
        · exact ⟨m, by omega, by omega, h3⟩
end
theorem spec_acc {ps : List Part} {top : Nat} {d : Den} (hps : PartsOk ps) (h : Spec ps top d) (hp : d.places ≤ 48) (u : List UInt8) (hu : u ≠ []) : (acc (newPattern ps top) u = true ↔ d.lang u) ∧ (pl (newPattern ps top) u ≠ 0 ↔ ∃ v, d.lang (v ++ u)) := by
  have f0 : Fresh pat0 := by
    intro k hk
    show (List.replicate 49 0).getD k 0 = 0
    rw [List.getD_eq_getElem?_getD, List.getElem?_replicate]
    split <;> rfl
  have hz : pat0.size + d.places ≤ 49 := by show 1 + _ ≤ 49; omega
  obtain ⟨a1, a2, a3⟩ := lay_ok hps (top + 1) top (by omega) h.lt pat0 pat0_ok (by rw [h.pla]; exact hz)
  obtain ⟨x1, x2, x3⟩ := h.lay (top + 1) (by omega) pat0 pat0_ok f0 hz
  have hz0 : ∀ c, ((lay ps (top + 1) top pat0).2.takes.getD c 0).testBit 0 = false := by
    intro c
    rw [x1.tk c 0 (by decide)]
    show ((List.replicate 256 0).getD c 0).testBit 0 = false
    rw [List.getD_eq_getElem?_getD, List.getElem?_replicate]
    split <;> simp
  exact ⟨begins_acc (p := pat0) a1 a2 x1.fresh hz0 x2 u hu, pl_tail_iff a1 x1.fresh hz0 x2 x3 u hu⟩
end Go.Proofs.Ytjmkkkfloalliab.Q
