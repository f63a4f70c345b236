import Derived.Test.YtjmkkkfloalliabFA
-- the walk goes through words
namespace Go.Proofs.Ytjmkkkfloalliab.Q
set_option linter.unusedVariables false
open M (LF sl pre lo num row ahead)

/-- the places behind which u has been read, from the end -/
def pl (P : Pat) : List UInt8 → Nat
  | [] => 1
  | c :: u => aheadOf P (pl P u) c.toNat
theorem aheadTo_zero (P : Pat) : ∀ k, aheadTo P 0 k = 0
  | 0 => rfl
  | k + 1 => by simp [aheadTo, aheadTo_zero P k]
theorem pl_tail {P : Pat} {c : UInt8} {u : List UInt8} (h : pl P (c :: u) ≠ 0) : pl P u ≠ 0 := fun e => h (by
  show aheadOf P (pl P u) c.toNat = 0
  rw [e]
  unfold aheadOf
  rw [aheadTo_zero]
  simp)
variable (t : List UInt8) (P : Pat)
def Live (u : List UInt8) : Prop := 0 < num t u ∧ pl P u ≠ 0
theorem Live.tail {c : UInt8} {u : List UInt8} (h : Live t P (c :: u)) : Live t P u := ⟨M.num_tail h.1, pl_tail h.2⟩
def IsSt (s : St) (u : List UInt8) : Prop := s.low = lo t u ∧ s.high = lo t u + num t u ∧ s.places = pl P u
/-- the list, and where its chains lead -/
structure Chain (w : Wk) : Prop where
  new : ∀ r, w.newest.getD r 0 = 0 ∨ (w.newest.getD r 0 ≤ w.list.length ∧ (stAt w.list (w.newest.getD r 0 - 1)).low = r)
  twin : ∀ j, j < w.list.length → (stAt w.list j).twin = 0 ∨ ((stAt w.list j).twin ≤ j ∧ (stAt w.list ((stAt w.list j).twin - 1)).low = (stAt w.list j).low)
theorem Chain.put {w : Wk} (s : St) (h : Chain w) : Chain (Q.put w s) := by
  have key : ∀ j, j < w.list.length → stAt (Q.put w s).list j = stAt w.list j := fun j hj => stAt_app _ _ _ hj
  have hlen : (Q.put w s).list.length = w.list.length + 1 := by simp [Q.put]
  have hnew : stAt (Q.put w s).list w.list.length = { s with twin := w.newest.getD s.low 0 } := stAt_new _ _
  refine ⟨fun r => ?_, fun j hj => ?_⟩
  · show (w.newest.set s.low (w.list.length + 1)).getD r 0 = 0 ∨ _
    rw [show (Q.put w s).newest = w.newest.set s.low (w.list.length + 1) from rfl, hlen]
    rw [List.getD_eq_getElem?_getD, List.getElem?_set]
    split
    · next e =>
      split
      · right
        simp only [Option.getD_some, Nat.add_sub_cancel]
        rw [hnew]
        exact ⟨Nat.le_refl _, e⟩
      · left; rfl
    · rw [← List.getD_eq_getElem?_getD]
      rcases h.new r with g | ⟨g1, g2⟩
      · exact .inl g
      · by_cases hz : w.newest.getD r 0 = 0
        · exact .inl hz
        · right
          rw [key _ (by omega)]
          exact ⟨by omega, g2⟩
  · rw [hlen] at hj
    rcases Nat.lt_or_ge j w.list.length with g | g
    · rw [key j g]
      rcases h.twin j g with k | ⟨k1, k2⟩
      · exact .inl k
      · right
        rw [key _ (by omega)]
        exact ⟨k1, k2⟩
    · have : j = w.list.length := by omega
      subst this
      rw [hnew]
      rcases h.new s.low with k | ⟨k1, k2⟩
      · exact .inl k
      · by_cases hz : w.newest.getD s.low 0 = 0
        · exact .inl hz
        · right
          simp only
          rw [key _ (by omega)]
          exact ⟨k1, k2⟩
theorem hasF_some {w : Wk} (h : Chain w) (s : St) : ∀ (f k : Nat), k ≤ w.list.length → (k = 0 ∨ (stAt w.list (k - 1)).low = s.low) → hasF w.list s f k = true →
    ∃ j, j < w.list.length ∧ (stAt w.list j).low = s.low ∧ (stAt w.list j).high = s.high ∧ (stAt w.list j).places = s.places
  | 0, _, _, _, e => by simp [hasF] at e
  | f + 1, k, hk, hl, e => by
    unfold hasF at e
    by_cases hz : k = 0
    · rw [if_pos hz] at e; cases e
    · rw [if_neg hz] at e
      have hl2 : (stAt w.list (k - 1)).low = s.low := by
        rcases hl with hl | hl
        · exact absurd hl hz
        · exact hl
      split at e
      · next g => exact ⟨k - 1, by omega, hl2, g.1, g.2⟩
      · rcases h.twin (k - 1) (by omega) with g | ⟨g1, g2⟩
        · exact hasF_some h s f _ (by omega) (.inl g) e
        · exact hasF_some h s f _ (by omega) (.inr (by rw [g2, hl2])) e
theorem has_some {w : Wk} (h : Chain w) (s : St) (e : has w s = true) : ∃ j, j < w.list.length ∧ (stAt w.list j).low = s.low ∧ (stAt w.list j).high = s.high ∧ (stAt w.list j).places = s.places := by
  rcases h.new s.low with g | ⟨g1, g2⟩
  · exact hasF_some h s _ _ (by omega) (.inl g) e
  · exact hasF_some h s _ _ (by omega) (.inr g2) e

/-- where the walk is: f the words of the list; the first k are dealt with, and of the next those bytes that are seen -/
structure Inv (w : Wk) (f : Nat → List UInt8) (k : Nat) (seen : UInt8 → Prop) : Prop where
  st : ∀ j, j < w.list.length → IsSt t P (stAt w.list j) (f j) ∧ Live t P (f j)
  inj : ∀ i j, i < w.list.length → j < w.list.length → f i = f j → i = j
  from_ : ∀ j c u, j < w.list.length → f j = c :: u → ∃ i, i < w.list.length ∧ f i = u ∧ (i < k ∨ (i = k ∧ seen c))
  closed : ∀ i c, i < w.list.length → (i < k ∨ (i = k ∧ seen c)) → Live t P (c :: f i) → ∃ j, j < w.list.length ∧ IsSt t P (stAt w.list j) (c :: f i)
  top : ∃ j, j < w.list.length ∧ f j = []
  chain : Chain w
variable {t P}
theorem Inv.mono {w : Wk} {f : Nat → List UInt8} {k : Nat} {seen seen' : UInt8 → Prop} (h : Inv t P w f k seen) (h1 : ∀ c, seen c → seen' c) (h2 : ∀ c, seen' c → seen c ∨ ¬ Live t P (c :: f k) ∨ ∃ j, j < w.list.length ∧ IsSt t P (stAt w.list j) (c :: f k)) : Inv t P w f k seen' := by
  refine ⟨h.st, h.inj, fun j c u hj e => ?_, fun i c hi hc hl => ?_, h.top, h.chain⟩
  · obtain ⟨i, a, b, d⟩ := h.from_ j c u hj e
    refine ⟨i, a, b, ?_⟩
    rcases d with d | ⟨d1, d2⟩
    · exact .inl d
    · exact .inr ⟨d1, h1 c d2⟩
  · rcases hc with hc | ⟨rfl, hc⟩
    · exact h.closed i c hi (.inl hc) hl
    · rcases h2 c hc with g | g | g
      · exact h.closed i c hi (.inr ⟨rfl, g⟩) hl
      · exact absurd hl g
      · exact g
/-- a new word -/
theorem Inv.put {w : Wk} {f : Nat → List UInt8} {k : Nat} {seen : UInt8 → Prop} (h : Inv t P w f k seen) (hk : k < w.list.length) (c : UInt8) (hc : ¬ seen c) (hl : Live t P (c :: f k)) (s : St) (hs : IsSt t P s (c :: f k)) :
    Inv t P (Q.put w s) (fun j => if j = w.list.length then c :: f k else f j) k (fun d => seen d ∨ d = c) := by
  have key : ∀ j, j < w.list.length → stAt (Q.put w s).list j = stAt w.list j := fun j hj => stAt_app _ _ _ hj
  have hlen : (Q.put w s).list.length = w.list.length + 1 := by simp [Q.put]
  have hnew : stAt (Q.put w s).list w.list.length = { s with twin := w.newest.getD s.low 0 } := stAt_new _ _
  have hst : IsSt t P (stAt (Q.put w s).list w.list.length) (c :: f k) := by rw [hnew]; exact hs
  have hfk : (if k = w.list.length then c :: f k else f k) = f k := if_neg (by omega)
  have hout : ∀ j, j < w.list.length → f j ≠ c :: f k := fun j hj e => by
    obtain ⟨i, a, b, d⟩ := h.from_ j c (f k) hj e
    have := h.inj i k a hk b
    rcases d with d | ⟨_, d⟩
    · omega
    · exact hc d
  refine ⟨fun j hj => ?_, fun i j hi hj e => ?_, fun j d u hj e => ?_, fun i d hi hd hld => ?_, ?_, h.chain.put s⟩
  · rw [hlen] at hj
    rcases Nat.lt_or_ge j w.list.length with g | g
    · rw [key j g, if_neg (by omega)]
      exact h.st j g
    · have : j = w.list.length := by omega
      subst this
      rw [if_pos rfl]
      exact ⟨hst, hl⟩
  · rw [hlen] at hi hj
    by_cases h1 : i = w.list.length
    · by_cases h2 : j = w.list.length
      · omega
      · rw [if_pos h1, if_neg h2] at e
        exact absurd e.symm (hout j (by omega))
    · by_cases h2 : j = w.list.length
      · rw [if_neg h1, if_pos h2] at e
        exact absurd e (hout i (by omega))
      · rw [if_neg h1, if_neg h2] at e
        exact h.inj i j (by omega) (by omega) e
  · rw [hlen] at hj ⊢
    by_cases h1 : j = w.list.length
    · rw [if_pos h1] at e
      cases e
      exact ⟨k, by omega, hfk, .inr ⟨rfl, .inr rfl⟩⟩
    · rw [if_neg h1] at e
      obtain ⟨i, a, b, d⟩ := h.from_ j _ u (by omega) e
      refine ⟨i, by omega, by rw [if_neg (by omega)]; exact b, ?_⟩
      rcases d with d | ⟨d1, d2⟩
      · exact .inl d
      · exact .inr ⟨d1, .inl d2⟩
  · rw [hlen] at hi ⊢
    have hi2 : i < w.list.length := by rcases hd with g | ⟨g, _⟩ <;> omega
    simp only [if_neg (show ¬ i = w.list.length by omega)] at hld ⊢
    have old : (i < k ∨ (i = k ∧ seen d)) → ∃ j, j < w.list.length + 1 ∧ IsSt t P (stAt (Q.put w s).list j) (d :: f i) := fun g => by
      obtain ⟨j, a, b⟩ := h.closed i d hi2 g hld
      exact ⟨j, by omega, by rw [key j a]; exact b⟩
    rcases hd with g | ⟨g1, g2⟩
    · exact old (.inl g)
    · rcases g2 with g2 | g2
      · exact old (.inr ⟨g1, g2⟩)
      · subst g2; subst g1
        exact ⟨w.list.length, by omega, hst⟩
  · obtain ⟨j, a, b⟩ := h.top
    exact ⟨j, by omega, by rw [if_neg (by omega)]; exact b⟩

def seenTo (t u : List UInt8) (x : Nat) (c : UInt8) : Prop := ∃ k, sl (row t 0) (lo t u) ≤ k ∧ k < x ∧ (ahead t).getD k 0 = c
theorem cnt_seen (t u : List UInt8) (x : Nat) (c : UInt8) (h1 : sl (row t 0) (lo t u) ≤ x) (h2 : x ≤ t.length) : cntIn (ahead t) (sl (row t 0) (lo t u)) x c = 0 ↔ ¬ seenTo t u x c := by
  rw [M.cntIn_eq _ _ _ _ h1 (by rw [M.ahead_length]; exact h2), List.countP_eq_zero]
  constructor
  · rintro h ⟨k, a, b, d⟩
    refine h k (List.mem_range.2 (by rw [M.ahead_length]; omega)) ?_
    rw [d]; simp [a, b]
  · intro h k _ e
    simp only [Bool.and_eq_true, beq_iff_eq, decide_eq_true_eq] at e
    exact h ⟨k, e.2.1, e.2.2, e.1⟩
/-- a slot -/
theorem Inv.one {w : Wk} {f : Nat → List UInt8} {k : Nat} (memo : Bool) (s : St) (x : Nat) (h : Inv t P w f k (seenTo t (f k) x)) (hk : k < w.list.length) (hs : IsSt t P s (f k))
    (h1 : sl (row t 0) s.low ≤ x) (h2 : x < sl (row t 0) s.high) :
    ∃ f', f' k = f k ∧ w.list.length ≤ (oneOn (ahead t) (row t 0) P memo s x w).list.length ∧ Inv t P (oneOn (ahead t) (row t 0) P memo s x w) f' k (seenTo t (f k) (x + 1)) := by
  rw [hs.1] at h1
  rw [hs.2.1] at h2
  have hx : x < t.length := Nat.lt_of_lt_of_le h2 (Q.sl_le _ _ _ (M.row_le t 0 (by omega)) (M.hi_le t _))
  have hpos := M.slot_num t (f k) x h1 h2
  have hstep : ∀ c, seenTo t (f k) (x + 1) c ↔ seenTo t (f k) x c ∨ c = (ahead t).getD x 0 := fun c => by
    constructor
    · rintro ⟨y, a, b, d⟩
      rcases Nat.lt_or_ge y x with g | g
      · exact .inl ⟨y, a, g, d⟩
      · have : y = x := by omega
        subst this
        exact .inr d.symm
    · rintro (⟨y, a, b, d⟩ | e)
      · exact ⟨y, a, by omega, d⟩
      · exact ⟨x, h1, by omega, e.symm⟩
  have hlen := (oneOn_len (a := ahead t) (h := row t 0) (P := P) (memo := memo) s x w).1
  unfold oneOn at hlen ⊢
  rw [hs.1, hs.2.1, hs.2.2] at hlen ⊢
  have hpl : aheadOf P (pl P (f k)) ((ahead t).getD x 0).toNat = pl P ((ahead t).getD x 0 :: f k) := rfl
  rw [hpl] at hlen ⊢
  by_cases hc : cntIn (ahead t) (sl (row t 0) (lo t (f k))) x ((ahead t).getD x 0) = 0
  · by_cases hz : pl P ((ahead t).getD x 0 :: f k) ≠ 0
    · rw [if_pos ⟨hc, hz⟩] at hlen ⊢
      rw [M.LF_lo t (f k) x h1 h2 hc, M.cnt_num] at hlen ⊢
      have hns := (cnt_seen t (f k) x _ h1 (by omega)).1 hc
      have hS : IsSt t P ⟨lo t ((ahead t).getD x 0 :: f k), lo t ((ahead t).getD x 0 :: f k) + num t ((ahead t).getD x 0 :: f k), pl P ((ahead t).getD x 0 :: f k), 0⟩ ((ahead t).getD x 0 :: f k) := ⟨rfl, rfl, rfl⟩
      generalize (⟨lo t ((ahead t).getD x 0 :: f k), lo t ((ahead t).getD x 0 :: f k) + num t ((ahead t).getD x 0 :: f k), pl P ((ahead t).getD x 0 :: f k), 0⟩ : St) = S at hS hlen ⊢
      unfold addS at hlen ⊢
      split at hlen
      · next hm =>
        rw [if_pos hm]
        obtain ⟨j, a, b1, b2, b3⟩ := has_some h.chain S hm.2
        refine ⟨f, rfl, hlen, h.mono (fun c hcc => (hstep c).2 (.inl hcc)) (fun c hcc => ?_)⟩
        rcases (hstep c).1 hcc with g | g
        · exact .inl g
        · subst g
          exact .inr (.inr ⟨j, a, by rw [b1]; exact hS.1, by rw [b2]; exact hS.2.1, by rw [b3]; exact hS.2.2⟩)
      · next hm =>
        rw [if_neg hm]
        have hput := h.put hk ((ahead t).getD x 0) hns ⟨hpos, hz⟩ S hS
        refine ⟨fun j => if j = w.list.length then (ahead t).getD x 0 :: f k else f j, if_neg (by omega), hlen, ?_⟩
        · have e : (fun d => seenTo t (f k) x d ∨ d = (ahead t).getD x 0) = seenTo t (f k) (x + 1) := funext fun d => propext (hstep d).symm
          rw [← e]
          exact hput
    · rw [if_neg (fun g => hz g.2)] at hlen ⊢
      refine ⟨f, rfl, hlen, h.mono (fun c hcc => (hstep c).2 (.inl hcc)) (fun c hcc => ?_)⟩
      rcases (hstep c).1 hcc with g | g
      · exact .inl g
      · subst g
        exact .inr (.inl fun hl => hz hl.2)
  · rw [if_neg (fun g => hc g.1)] at hlen ⊢
    have hsn : seenTo t (f k) x ((ahead t).getD x 0) := Classical.byContradiction fun g => hc ((cnt_seen t (f k) x _ h1 (by omega)).2 g)
    refine ⟨f, rfl, hlen, h.mono (fun c hcc => (hstep c).2 (.inl hcc)) (fun c hcc => ?_)⟩
    rcases (hstep c).1 hcc with g | g
    · exact .inl g
    · subst g
      exact .inl hsn
theorem Inv.to {w : Wk} {f : Nat → List UInt8} {k : Nat} (memo : Bool) (s : St) (h : Inv t P w f k (fun _ => False)) (hk : k < w.list.length) (hs : IsSt t P s (f k)) : ∀ d, sl (row t 0) s.low + d ≤ sl (row t 0) s.high →
    ∃ f', f' k = f k ∧ w.list.length ≤ (goTo (ahead t) (row t 0) P memo s w d).list.length ∧ Inv t P (goTo (ahead t) (row t 0) P memo s w d) f' k (seenTo t (f k) (sl (row t 0) s.low + d))
  | 0, _ => by
    refine ⟨f, rfl, Nat.le_refl _, h.mono (fun c hc => hc.elim) (fun c hc => ?_)⟩
    obtain ⟨y, a, b, _⟩ := hc
    rw [hs.1] at b
    omega
  | d + 1, hd => by
    obtain ⟨f1, e1, l1, i1⟩ := Inv.to memo s h hk hs d (by omega)
    rw [← e1] at i1 hs
    obtain ⟨f2, e2, l2, i2⟩ := i1.one memo s _ (by omega) hs (by omega) (by omega)
    refine ⟨f2, by rw [e2, e1], Nat.le_trans l1 l2, ?_⟩
    rw [e1] at i2
    exact i2
theorem Inv.on {w : Wk} {f : Nat → List UInt8} {k : Nat} (memo : Bool) (h : Inv t P w f k (fun _ => False)) (hk : k < w.list.length) :
    ∃ f', w.list.length ≤ (goOn (ahead t) (row t 0) P memo (stAt w.list k) w).list.length ∧ Inv t P (goOn (ahead t) (row t 0) P memo (stAt w.list k) w) f' (k + 1) (fun _ => False) := by
  obtain ⟨hs, hl⟩ := h.st k hk
  have hle : sl (row t 0) (stAt w.list k).low ≤ sl (row t 0) (stAt w.list k).high := sl_mono _ _ _ (by rw [hs.1, hs.2.1]; omega)
  obtain ⟨f', e, l, i⟩ := h.to memo (stAt w.list k) hk hs (sl (row t 0) (stAt w.list k).high - sl (row t 0) (stAt w.list k).low) (by omega)
  refine ⟨f', l, i.st, i.inj, fun j c u hj e2 => ?_, fun j c hj hc hlc => ?_, i.top, i.chain⟩
  · obtain ⟨m, a, b, d⟩ := i.from_ j c u hj e2
    exact ⟨m, a, b, .inl (by rcases d with d | ⟨d, _⟩ <;> omega)⟩
  · rcases hc with hc | ⟨_, hc⟩
    · rcases Nat.lt_or_ge j k with g | g
      · exact i.closed j c hj (.inl g) hlc
      · have : j = k := by omega
        subst this
        refine i.closed j c hj (.inr ⟨rfl, ?_⟩) hlc
        rw [e] at hlc
        obtain ⟨y, a, b, d⟩ := M.num_slot t (f j) c hlc.1
        exact ⟨y, a, by rw [hs.2.1]; omega, d⟩
    · exact hc.elim
theorem Inv.start (memo : Bool) : Inv t P (wk0 (ahead t) memo) (fun _ => []) 0 (fun _ => False) := by
  have e : wk0 (ahead t) memo = Q.put ⟨[], List.replicate ((ahead t).length + 1) 0⟩ ⟨0, (ahead t).length + 1, 1, 0⟩ := by
    unfold wk0 addS
    rw [if_neg]
    rintro ⟨_, g⟩
    unfold has at g
    have : (List.replicate ((ahead t).length + 1) 0).getD 0 0 = 0 := by simp [List.replicate_succ]
    simp only [this] at g
    simp [hasF] at g
  have hl : (wk0 (ahead t) memo).list.length = 1 := by rw [e]; rfl
  have hch : Chain (wk0 (ahead t) memo) := by
    rw [e]
    refine Chain.put _ ⟨fun r => .inl ?_, fun j hj => by simp at hj⟩
    rw [List.getD_eq_getElem?_getD, List.getElem?_replicate]
    split <;> rfl
  have hst : stAt (wk0 (ahead t) memo).list 0 = ⟨0, (ahead t).length + 1, 1, (List.replicate ((ahead t).length + 1) 0).getD 0 0⟩ := by rw [e]; rfl
  refine ⟨fun j hj => ?_, fun i j hi hj _ => by omega, fun j c u hj e => (by cases e), fun i c hi hc _ => absurd hc (by simp), ⟨0, by omega, rfl⟩, hch⟩
  have : j = 0 := by omega
  subst this
  rw [hst]
  refine ⟨⟨(M.lo_nil t).symm, ?_, rfl⟩, ?_, ?_⟩
  · rw [M.lo_nil, M.num_nil, M.ahead_length]
    show t.length + 1 = _
    omega
  · rw [M.num_nil]; omega
  · show (1 : Nat) ≠ 0
    decide
/-- at the end all words are there -/
theorem Inv.all {w : Wk} {f : Nat → List UInt8} {k : Nat} (h : Inv t P w f k (fun _ => False)) (hk : w.list.length ≤ k) : ∀ u, Live t P u → ∃ j, j < w.list.length ∧ IsSt t P (stAt w.list j) u
  | [], _ => by
    obtain ⟨j, a, b⟩ := h.top
    exact ⟨j, a, by rw [← b]; exact (h.st j a).1⟩
  | c :: u, hl => by
    obtain ⟨j, a, b⟩ := Inv.all h hk u (Live.tail t P hl)
    have g := (h.st j a).1
    have e1 : lo t u = lo t (f j) := by rw [← b.1, ← g.1]
    have e2 : num t u = num t (f j) := by have := b.2.1; have := g.2.1; omega
    have e3 : pl P u = pl P (f j) := by rw [← b.2.2, ← g.2.2]
    obtain ⟨m1, m2⟩ := M.same_longer c e1 e2 hl.1
    have e4 : pl P (c :: u) = pl P (c :: f j) := by show aheadOf _ _ _ = aheadOf _ _ _; rw [e3]
    obtain ⟨i, i1, i2⟩ := h.closed j c a (.inl (by omega)) ⟨by rw [← m2]; exact hl.1, by rw [← e4]; exact hl.2⟩
    exact ⟨i, i1, by rw [i2.1, m1], by rw [i2.2.1, m1, m2], by rw [i2.2.2, e4]⟩
end Go.Proofs.Ytjmkkkfloalliab.Q
