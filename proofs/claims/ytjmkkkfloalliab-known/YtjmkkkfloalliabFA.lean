import Derived.Test.YtjmkkkfloalliabYB
-- the stretch of a word: its rows are next to each other; and those of a longer word follow from them
namespace Go.Proofs.Ytjmkkkfloalliab.M
set_option linter.unusedVariables false

/-- does x begin with u? -/
def pre : List UInt8 → List UInt8 → Bool
  | [], _ => true
  | _ :: _, [] => false
  | c :: u, d :: x => c == d && pre u x
theorem pre_nil (x : List UInt8) : pre [] x = true := by cases x <;> rfl
theorem pre_self : ∀ u : List UInt8, pre u u = true
  | [] => rfl
  | c :: u => by simp [pre, pre_self u]
theorem pre_app : ∀ u x : List UInt8, pre u (u ++ x) = true
  | [], x => pre_nil x
  | c :: u, x => by simp [pre, pre_app u x]
theorem pre_iff : ∀ u x : List UInt8, pre u x = true ↔ ∃ y, x = u ++ y
  | [], x => by simp [pre_nil]
  | c :: u, [] => by simp [pre]
  | c :: u, d :: x => by
    simp only [pre, Bool.and_eq_true, beq_iff_eq, pre_iff u x, List.cons_append, List.cons.injEq]
    constructor
    · rintro ⟨rfl, y, rfl⟩
      exact ⟨y, rfl, rfl⟩
    · rintro ⟨y, rfl, rfl⟩
      exact ⟨rfl, y, rfl⟩
theorem pre_not_lt : ∀ u x : List UInt8, pre u x = true → blt x u = false
  | [], x, _ => blt_nil x
  | c :: u, [], h => by simp [pre] at h
  | c :: u, d :: x, h => by
    simp only [pre, Bool.and_eq_true, beq_iff_eq] at h
    obtain ⟨rfl, h⟩ := h
    simp [blt, pre_not_lt u x h]
theorem lt_pre : ∀ u x y : List UInt8, pre u x = true → blt y u = true → blt y x = true
  | [], x, y, _, h => by simp [blt_nil] at h
  | c :: u, [], y, h, _ => by simp [pre] at h
  | c :: u, d :: x, [], h, _ => rfl
  | c :: u, d :: x, e :: y, h, g => by
    simp only [pre, Bool.and_eq_true, beq_iff_eq] at h
    obtain ⟨rfl, h⟩ := h
    simp only [blt, Bool.or_eq_true, Bool.and_eq_true, decide_eq_true_eq, beq_iff_eq] at g ⊢
    rcases g with g | ⟨rfl, g⟩
    · exact .inl g
    · exact .inr ⟨rfl, lt_pre u x y h g⟩
theorem pre_lt : ∀ u x y : List UInt8, pre u x = true → blt y x = true → blt y u = true ∨ pre u y = true
  | [], x, y, _, h => .inr (pre_nil y)
  | c :: u, [], y, h, _ => by simp [pre] at h
  | c :: u, d :: x, [], h, _ => .inl rfl
  | c :: u, d :: x, e :: y, h, g => by
    simp only [pre, Bool.and_eq_true, beq_iff_eq] at h
    obtain ⟨rfl, h⟩ := h
    simp only [pre, blt, Bool.or_eq_true, Bool.and_eq_true, decide_eq_true_eq, beq_iff_eq] at g ⊢
    rcases g with g | ⟨rfl, g⟩
    · exact .inl (.inl g)
    · rcases pre_lt u x y h g with k | k
      · exact .inl (.inr ⟨rfl, k⟩)
      · exact .inr ⟨rfl, k⟩
theorem not_pre_lt : ∀ u x y : List UInt8, pre u x = false → blt x u = false → pre u y = true → blt y x = true
  | [], x, y, h, _, _ => by simp [pre_nil] at h
  | c :: u, [], y, _, h, _ => by simp [blt] at h
  | c :: u, d :: x, [], _, _, h => by simp [pre] at h
  | c :: u, d :: x, e :: y, h, g, k => by
    simp only [pre, Bool.and_eq_true, beq_iff_eq] at k
    obtain ⟨rfl, k⟩ := k
    simp only [pre, blt, Bool.or_eq_false_iff, Bool.and_eq_false_iff, decide_eq_false_iff_not, beq_eq_false_iff_ne] at h g
    simp only [blt, Bool.or_eq_true, Bool.and_eq_true, decide_eq_true_eq, beq_iff_eq]
    by_cases e : c = d
    · subst e
      right
      refine ⟨rfl, not_pre_lt u x y ?_ ?_ k⟩
      · rcases h with h | h
        · exact absurd rfl h
        · exact h
      · rcases g.2 with g | g
        · exact absurd rfl g
        · exact g
    · left
      have h1 : ¬ d.toNat < c.toNat := by simpa [UInt8.lt_iff_toNat_lt] using g.1
      rw [UInt8.lt_iff_toNat_lt]
      have : c.toNat ≠ d.toNat := fun e2 => e (UInt8.toNat_inj.1 e2)
      omega

/-- how many suffixes stand ahead of u; how many begin with it -/
def lo (t u : List UInt8) : Nat := (List.range (t.length + 1)).countP (fun q => blt (t.drop q) u)
def num (t u : List UInt8) : Nat := (List.range (t.length + 1)).countP (fun q => pre u (t.drop q))
theorem lo_nil (t : List UInt8) : lo t [] = 0 := by
  unfold lo
  rw [List.countP_eq_zero]
  intro q _
  rw [blt_nil]; simp
theorem num_nil (t : List UInt8) : num t [] = t.length + 1 := by
  unfold num
  rw [show (fun q => pre [] (t.drop q)) = fun _ => true from funext fun q => pre_nil _, List.countP_true, List.length_range]
theorem lo_num (t u : List UInt8) : lo t u + num t u = (List.range (t.length + 1)).countP (fun q => blt (t.drop q) u || pre u (t.drop q)) := by
  unfold lo num
  rw [countP_or]
  intro q _ h
  cases e : pre u (t.drop q) with
  | false => rfl
  | true => rw [pre_not_lt _ _ e] at h; cases h
theorem hi_le (t u : List UInt8) : lo t u + num t u ≤ t.length + 1 := by
  rw [lo_num]
  refine Nat.le_trans List.countP_le_length ?_
  simp
theorem num_pos {t u : List UInt8} {p : Nat} (hp : p ≤ t.length) (h : pre u (t.drop p) = true) : 0 < num t u :=
  List.countP_pos_iff.2 ⟨p, List.mem_range.2 (by omega), h⟩
theorem pos_num {t u : List UInt8} (h : 0 < num t u) : ∃ p, p ≤ t.length ∧ pre u (t.drop p) = true := by
  obtain ⟨p, hp, h⟩ := List.countP_pos_iff.1 h
  exact ⟨p, by have := List.mem_range.1 hp; omega, h⟩
/-- the rows of u are those from lo to before lo + num -/
theorem in_rows (t u : List UInt8) (p : Nat) (hp : p ≤ t.length) : (lo t u ≤ row t p ∧ row t p < lo t u + num t u) ↔ pre u (t.drop p) = true := by
  constructor
  · intro ⟨h1, h2⟩
    cases e : pre u (t.drop p) with
    | true => rfl
    | false =>
      exfalso
      cases g : blt (t.drop p) u with
      | true =>
        have : row t p < lo t u := countP_lt_of _ _ _ (fun x _ hx => blt_trans _ _ _ hx g) ⟨p, List.mem_range.2 (by omega), g, blt_irrefl _⟩
        omega
      | false =>
        have hne : t.drop p ≠ u := fun k => by rw [k, pre_self] at e; cases e
        have hlt := blt_total _ _ hne g
        have : lo t u + num t u ≤ row t p := by
          rw [lo_num]
          refine countP_le_of _ _ _ (fun x _ hx => ?_)
          rw [Bool.or_eq_true] at hx
          rcases hx with hx | hx
          · exact blt_trans _ _ _ hx hlt
          · exact not_pre_lt _ _ _ e g hx
        omega
  · intro h
    refine ⟨countP_le_of _ _ _ (fun x _ hx => lt_pre _ _ _ h hx), ?_⟩
    rw [lo_num]
    refine countP_lt_of _ _ _ (fun x _ hx => ?_) ⟨p, List.mem_range.2 (by omega), by rw [h]; simp, blt_irrefl _⟩
    rw [Bool.or_eq_true]
    exact pre_lt _ _ _ h hx
theorem row_surj (t : List UInt8) (r : Nat) (hr : r ≤ t.length) : ∃ p, p ≤ t.length ∧ row t p = r := by
  have hp : ((List.range (t.length + 1)).map (row t)).Perm (List.range (t.length + 1)) := by
    refine perm_of _ _ ?_ ?_ (by simp)
    · rw [List.nodup_iff_pairwise_ne, List.pairwise_map]
      have := List.nodup_range (n := t.length + 1)
      rw [List.nodup_iff_pairwise_ne] at this
      exact this.imp_of_mem (fun {a b} ha hb hne e => hne (row_inj t a b (by have := List.mem_range.1 ha; omega) (by have := List.mem_range.1 hb; omega) e))
    · intro x hx
      obtain ⟨p, hp, rfl⟩ := List.mem_map.1 hx
      have := row_le t p (by have := List.mem_range.1 hp; omega)
      exact List.mem_range.2 (by omega)
  have := hp.symm.subset (List.mem_range.2 (show r < t.length + 1 by omega))
  obtain ⟨p, hp, e⟩ := List.mem_map.1 this
  exact ⟨p, by have := List.mem_range.1 hp; omega, e⟩
/-- the first row of a word that is there is a row of it -/
theorem row_lo {t u : List UInt8} (h : 0 < num t u) : ∃ p, p ≤ t.length ∧ row t p = lo t u ∧ pre u (t.drop p) = true := by
  have := hi_le t u
  obtain ⟨p, hp, e⟩ := row_surj t (lo t u) (by omega)
  exact ⟨p, hp, e, (in_rows t u p hp).1 (by omega)⟩
theorem row_hi {t u : List UInt8} (h : 0 < num t u) : ∃ p, p ≤ t.length ∧ row t p + 1 = lo t u + num t u ∧ pre u (t.drop p) = true := by
  have := hi_le t u
  obtain ⟨p, hp, e⟩ := row_surj t (lo t u + num t u - 1) (by omega)
  exact ⟨p, hp, by omega, (in_rows t u p hp).1 (by omega)⟩
/-- words that stand at the same places have the same rows -/
theorem same_rows {t u v : List UInt8} (hu : 0 < num t u) (h : ∀ p, p ≤ t.length → pre u (t.drop p) = pre v (t.drop p)) : lo t u = lo t v ∧ num t u = num t v := by
  have hn : num t u = num t v := countP_congr_of _ _ _ (fun q hq => h q (by have := List.mem_range.1 hq; omega))
  refine ⟨?_, hn⟩
  obtain ⟨p, hp, e, k⟩ := row_lo hu
  obtain ⟨q, hq, e2, k2⟩ := row_lo (t := t) (u := v) (by omega)
  have h1 := (in_rows t v p hp).2 (by rw [← h p hp]; exact k)
  have h2 := (in_rows t u q hq).2 (by rw [h q hq]; exact k2)
  omega
/-- and the other way round -/
theorem rows_same {t u v : List UInt8} (h1 : lo t u = lo t v) (h2 : num t u = num t v) (p : Nat) (hp : p ≤ t.length) : pre u (t.drop p) = pre v (t.drop p) := by
  rw [Bool.eq_iff_iff, ← in_rows t u p hp, ← in_rows t v p hp, h1, h2]
theorem drop_at (t : List UInt8) (q : Nat) (hq : q < t.length) : t.drop q = t.getD q 0 :: t.drop (q + 1) := by
  rw [List.drop_eq_getElem_cons hq]
  simp [List.getElem?_eq_getElem hq]
theorem pre_at (t u : List UInt8) (c : UInt8) (p : Nat) (hp : p ≤ t.length) : pre (c :: u) (t.drop p) = true ↔ p < t.length ∧ t.getD p 0 = c ∧ pre u (t.drop (p + 1)) = true := by
  rcases Nat.lt_or_ge p t.length with h | h
  · rw [drop_at t p h]
    simp only [pre, Bool.and_eq_true, beq_iff_eq]
    constructor
    · rintro ⟨e, g⟩; exact ⟨h, e.symm, g⟩
    · rintro ⟨_, e, g⟩; exact ⟨e.symm, g⟩
  · rw [List.drop_of_length_le h]
    simp only [pre]
    constructor
    · intro e; cases e
    · rintro ⟨e, _⟩; omega
theorem same_longer {t u v : List UInt8} (c : UInt8) (h1 : lo t u = lo t v) (h2 : num t u = num t v) (h : 0 < num t (c :: u)) : lo t (c :: u) = lo t (c :: v) ∧ num t (c :: u) = num t (c :: v) := by
  refine same_rows h (fun p hp => ?_)
  rw [Bool.eq_iff_iff, pre_at t u c p hp, pre_at t v c p hp]
  constructor
  · rintro ⟨a, b, d⟩
    exact ⟨a, b, by rw [← rows_same h1 h2 (p + 1) (by omega)]; exact d⟩
  · rintro ⟨a, b, d⟩
    exact ⟨a, b, by rw [rows_same h1 h2 (p + 1) (by omega)]; exact d⟩
theorem num_tail {t u : List UInt8} {c : UInt8} (h : 0 < num t (c :: u)) : 0 < num t u := by
  obtain ⟨p, hp, g⟩ := pos_num h
  obtain ⟨g1, _, g2⟩ := (pre_at t u c p hp).1 g
  exact num_pos (p := p + 1) (by omega) g2

/-! slots -/
theorem sl_le_iff (h l r : Nat) (hr : r ≠ h) : sl h l ≤ sl h r ↔ l ≤ r := by unfold sl; split <;> split <;> omega
theorem sl_lt_iff' (h l r : Nat) (hr : r ≠ h) : sl h r < sl h l ↔ r < l := by
  have := sl_le_iff h l r hr
  omega
theorem sig_surj (t : List UInt8) (k : Nat) (hk : k < t.length) : ∃ i, i < t.length ∧ sig t i = k := by
  have := (sig_perm t).symm.subset (List.mem_range.2 hk)
  obtain ⟨p, hp, e⟩ := List.mem_map.1 this
  exact ⟨p, List.mem_range.1 hp, e⟩
theorem sig_in (t u : List UInt8) (i : Nat) (hi : i < t.length) : (sl (row t 0) (lo t u) ≤ sig t i ∧ sig t i < sl (row t 0) (lo t u + num t u)) ↔ pre u (t.drop (i + 1)) = true := by
  unfold sig
  rw [sl_le_iff _ _ _ (row_ne_whole t i hi), sl_lt_iff' _ _ _ (row_ne_whole t i hi)]
  exact in_rows t u (i + 1) (by omega)
theorem cntIn_eq (a : List UInt8) (i k : Nat) (c : UInt8) (hik : i ≤ k) (hk : k ≤ a.length) : Q.cntIn a i k c = (List.range a.length).countP (fun j => a.getD j 0 == c && (decide (i ≤ j) && decide (j < k))) := by
  have h1 := Q.take_cnt a i k hik c
  rw [countP_getD _ a k hk, countP_getD _ a i (by omega), ← countP_range_le _ a.length k hk, ← countP_range_le _ a.length i (by omega)] at h1
  have h2 : (List.range a.length).countP (fun j => (a.getD j 0 == c && decide (j < i)) || (a.getD j 0 == c && (decide (i ≤ j) && decide (j < k)))) = (List.range a.length).countP (fun j => a.getD j 0 == c && decide (j < k)) := by
    refine countP_congr_of _ _ _ (fun x _ => ?_)
    cases a.getD x 0 == c with
    | false => rfl
    | true =>
      simp only [Bool.true_and]
      rw [Bool.eq_iff_iff]
      simp
      omega
  rw [countP_or] at h2
  · omega
  · intro x _ hx
    simp only [Bool.and_eq_true, decide_eq_true_eq] at hx
    have : decide (i ≤ x) = false := by simp; omega
    rw [this]
    simp
/-- how often a byte stands ahead of a word -/
theorem cnt_num (t u : List UInt8) (c : UInt8) : Q.cntIn (ahead t) (sl (row t 0) (lo t u)) (sl (row t 0) (lo t u + num t u)) c = num t (c :: u) := by
  have hh := row_le t 0 (by omega)
  have hl := hi_le t u
  rw [cntIn_eq _ _ _ _ (Q.sl_mono _ _ _ (by omega)) (by rw [ahead_length]; exact Q.sl_le _ _ _ hh hl), ahead_length, ← (sig_perm t).countP_eq, List.countP_map]
  have e : num t (c :: u) = (List.range t.length).countP (fun q => pre (c :: u) (t.drop q)) := by
    unfold num
    rw [List.range_succ, List.countP_append, List.countP_singleton, List.drop_length]
    simp [pre]
  rw [e]
  refine countP_congr_of _ _ _ (fun q hq => ?_)
  have hq' : q < t.length := List.mem_range.1 hq
  show (((ahead t).getD (sig t q) 0 == c) && (decide (sl (row t 0) (lo t u) ≤ sig t q) && decide (sig t q < sl (row t 0) (lo t u + num t u)))) = _
  rw [ahead_at t q hq', Bool.eq_iff_iff, pre_at t u c q (by omega), ← sig_in t u q hq']
  simp only [Bool.and_eq_true, beq_iff_eq, decide_eq_true_eq]
  constructor
  · rintro ⟨a, b, d⟩; exact ⟨hq', a, b, d⟩
  · rintro ⟨_, a, b, d⟩; exact ⟨a, b, d⟩
/-- the byte in a slot of u stands ahead of u -/
theorem slot_num (t u : List UInt8) (k : Nat) (h1 : sl (row t 0) (lo t u) ≤ k) (h2 : k < sl (row t 0) (lo t u + num t u)) : 0 < num t ((ahead t).getD k 0 :: u) := by
  have hk : k < t.length := Nat.lt_of_lt_of_le h2 (Q.sl_le _ _ _ (row_le t 0 (by omega)) (hi_le t u))
  obtain ⟨i, hi, rfl⟩ := sig_surj t k hk
  rw [ahead_at t i hi]
  exact num_pos (p := i) (by omega) ((pre_at t u _ i (by omega)).2 ⟨hi, rfl, (sig_in t u i hi).1 ⟨h1, h2⟩⟩)
theorem num_slot (t u : List UInt8) (c : UInt8) (h : 0 < num t (c :: u)) : ∃ k, sl (row t 0) (lo t u) ≤ k ∧ k < sl (row t 0) (lo t u + num t u) ∧ (ahead t).getD k 0 = c := by
  obtain ⟨p, hp, g⟩ := pos_num h
  obtain ⟨g1, g2, g3⟩ := (pre_at t u c p hp).1 g
  have := (sig_in t u p g1).2 g3
  exact ⟨sig t p, this.1, this.2, by rw [ahead_at t p g1]; exact g2⟩
/-- the first slot of a byte leads to the longer word's first row -/
theorem LF_lo (t u : List UInt8) (k : Nat) (h1 : sl (row t 0) (lo t u) ≤ k) (h2 : k < sl (row t 0) (lo t u + num t u)) (h0 : Q.cntIn (ahead t) (sl (row t 0) (lo t u)) k ((ahead t).getD k 0) = 0) :
    LF (ahead t) k = lo t ((ahead t).getD k 0 :: u) := by
  have hpos := slot_num t u k h1 h2
  have hk : k < t.length := Nat.lt_of_lt_of_le h2 (Q.sl_le _ _ _ (row_le t 0 (by omega)) (hi_le t u))
  obtain ⟨i, hi, rfl⟩ := sig_surj t k hk
  rw [LF_row t i hi]
  rw [ahead_at t i hi] at hpos h0 ⊢
  have hpre : pre (t.getD i 0 :: u) (t.drop i) = true := (pre_at t u _ i (by omega)).2 ⟨hi, rfl, (sig_in t u i hi).1 ⟨h1, h2⟩⟩
  have hin := (in_rows t _ i (by omega)).2 hpre
  obtain ⟨p, hp, e, g⟩ := row_lo hpos
  obtain ⟨g1, g2, g3⟩ := (pre_at t u _ p hp).1 g
  rcases Nat.lt_or_ge (row t p) (row t i) with hlt | hge
  · exfalso
    have hb := (row_lt_iff t p i hp (by omega)).1 hlt
    rw [drop_at t p g1, drop_at t i hi, g2, blt_cons] at hb
    simp only [Bool.or_eq_true, Bool.and_eq_true, decide_eq_true_eq, beq_iff_eq] at hb
    have hb2 : blt (t.drop (p + 1)) (t.drop (i + 1)) = true := by
      rcases hb with hb | hb
      · exact absurd hb (UInt8.lt_irrefl _)
      · exact hb.2
    have hr := (row_lt_iff t (p + 1) (i + 1) (by omega) (by omega)).2 hb2
    have hs : sig t p < sig t i := (sl_lt_iff _ _ _ (row_ne_whole t p g1) (row_ne_whole t i hi)).2 hr
    have hs2 := ((sig_in t u p g1).2 g3).1
    rw [cntIn_eq _ _ _ _ h1 (by rw [ahead_length]; omega), List.countP_eq_zero] at h0
    refine h0 (sig t p) (List.mem_range.2 (by rw [ahead_length]; omega)) ?_
    rw [ahead_at t p g1, g2]
    simp [hs, hs2]
  · omega
end Go.Proofs.Ytjmkkkfloalliab.M
