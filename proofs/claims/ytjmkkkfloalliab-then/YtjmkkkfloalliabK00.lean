namespace Go.Proofs.Ytjmkkkfloalliab.M
set_option linter.unusedVariables false

def blt : List UInt8 → List UInt8 → Bool
  | _, [] => false
  | [], _ :: _ => true
  | a :: x, b :: y => a < b || (a == b && blt x y)

theorem blt_nil (x : List UInt8) : blt x [] = false := by cases x <;> rfl
theorem blt_cons (a b : UInt8) (x y : List UInt8) : blt (a :: x) (b :: y) = (a < b || (a == b && blt x y)) := rfl

theorem blt_irrefl : ∀ x : List UInt8, blt x x = false
  | [] => rfl
  | a :: x => by simp [blt, blt_irrefl x]

theorem blt_total : ∀ x y : List UInt8, x ≠ y → blt x y = false → blt y x = true
  | [], [], h, _ => absurd rfl h
  | [], _ :: _, _, h => by simp [blt] at h
  | _ :: _, [], _, _ => rfl
  | a :: x, b :: y, h, hf => by
    simp only [blt, Bool.or_eq_false_iff, Bool.and_eq_false_iff, decide_eq_false_iff_not, beq_eq_false_iff_ne] at hf
    simp only [blt, Bool.or_eq_true, Bool.and_eq_true, decide_eq_true_eq, beq_iff_eq]
    have hf1 : ¬ a.toNat < b.toNat := by simpa [UInt8.lt_iff_toNat_lt] using hf.1
    by_cases e : a = b
    · subst e
      right
      refine ⟨rfl, blt_total x y (fun e => h (by rw [e])) ?_⟩
      rcases hf.2 with h2 | h2
      · exact absurd rfl h2
      · exact h2
    · left
      rw [UInt8.lt_iff_toNat_lt]
      have : a.toNat ≠ b.toNat := fun e2 => e (UInt8.toNat_inj.1 e2)
      omega

theorem blt_trans : ∀ x y z : List UInt8, blt x y = true → blt y z = true → blt x z = true
  | _, [], _, h, _ => by simp [blt_nil] at h
  | _, _ :: _, [], _, h => by simp [blt_nil] at h
  | [], _ :: _, _ :: _, _, _ => rfl
  | a :: x, b :: y, c :: z, h1, h2 => by
    simp only [blt, Bool.or_eq_true, Bool.and_eq_true, decide_eq_true_eq, beq_iff_eq, UInt8.lt_iff_toNat_lt] at h1 h2 ⊢
    rcases h1 with h1 | ⟨rfl, h1⟩
    · rcases h2 with h2 | ⟨rfl, h2⟩
      · left; omega
      · left; exact h1
    · rcases h2 with h2 | ⟨rfl, h2⟩
      · left; exact h2
      · right; exact ⟨rfl, blt_trans x y z h1 h2⟩

theorem blt_asymm (x y : List UInt8) (h : blt x y = true) : blt y x = false := by
  cases e : blt y x with
  | false => rfl
  | true => have := blt_trans x y x h e; rw [blt_irrefl] at this; cases this

/-! counting -/
theorem countP_le_of {α : Type} (P Q : α → Bool) : ∀ l : List α, (∀ x, x ∈ l → P x = true → Q x = true) → l.countP P ≤ l.countP Q
  | [], _ => by simp
  | x :: l, h => by
    have ih := countP_le_of P Q l (fun y hy => h y (List.mem_cons_of_mem _ hy))
    simp only [List.countP_cons]
    cases hp : P x with
    | false => simp; omega
    | true => simp [h x List.mem_cons_self hp]; omega

theorem countP_lt_of {α : Type} (P Q : α → Bool) : ∀ l : List α, (∀ x, x ∈ l → P x = true → Q x = true) → (∃ x, x ∈ l ∧ Q x = true ∧ P x = false) → l.countP P < l.countP Q
  | [], _, ⟨x, hx, _⟩ => by simp at hx
  | x :: l, h, ⟨y, hy, hq, hp⟩ => by
    have hl := countP_le_of P Q l (fun y hy => h y (List.mem_cons_of_mem _ hy))
    simp only [List.countP_cons]
    rcases List.mem_cons.1 hy with e | e
    · subst e; simp [hq, hp]; omega
    · have ih := countP_lt_of P Q l (fun y hy => h y (List.mem_cons_of_mem _ hy)) ⟨y, e, hq, hp⟩
      cases hpx : P x with
      | false => simp; omega
      | true => simp [h x List.mem_cons_self hpx]; omega

theorem countP_or {α : Type} (P Q : α → Bool) : ∀ l : List α, (∀ x, x ∈ l → P x = true → Q x = false) → l.countP (fun x => P x || Q x) = l.countP P + l.countP Q
  | [], _ => by simp
  | x :: l, h => by
    have ih := countP_or P Q l (fun y hy => h y (List.mem_cons_of_mem _ hy))
    simp only [List.countP_cons, ih]
    cases hp : P x with
    | false => simp; omega
    | true => simp [h x List.mem_cons_self hp]; omega

theorem countP_congr_of {α : Type} (P Q : α → Bool) : ∀ l : List α, (∀ x, x ∈ l → P x = Q x) → l.countP P = l.countP Q
  | [], _ => by simp
  | x :: l, h => by
    have ih := countP_congr_of P Q l (fun y hy => h y (List.mem_cons_of_mem _ hy))
    simp only [List.countP_cons, ih, h x List.mem_cons_self]

theorem perm_of : ∀ (l l' : List Nat), l.Nodup → (∀ x, x ∈ l → x ∈ l') → l'.length ≤ l.length → l.Perm l'
  | [], l', _, _, hl => by
    have : l' = [] := List.length_eq_zero_iff.1 (by simpa using hl)
    subst this; exact List.Perm.refl _
  | x :: l, l', hn, hs, hl => by
    have hx : x ∈ l' := hs x List.mem_cons_self
    have hn' := List.nodup_cons.1 hn
    refine List.Perm.trans (List.Perm.cons x (perm_of l (l'.erase x) hn'.2 (fun y hy => ?_) ?_)) (List.perm_cons_erase hx).symm
    · exact (List.mem_erase_of_ne (fun e => hn'.1 (by rw [← e]; exact hy))).2 (hs y (List.mem_cons_of_mem _ hy))
    · rw [List.length_erase_of_mem hx]; simp at hl; omega

theorem countP_range_le (P : Nat → Bool) (n k : Nat) (h : k ≤ n) : (List.range n).countP (fun j => P j && decide (j < k)) = (List.range k).countP P := by
  obtain ⟨d, rfl⟩ : ∃ d, n = k + d := ⟨n - k, by omega⟩
  clear h
  induction d with
  | zero =>
    exact countP_congr_of _ _ _ (fun x hx => by have h : x < k := List.mem_range.1 hx; simp [h])
  | succ d ih =>
    rw [← Nat.add_assoc, List.range_succ, List.countP_append, ih]
    simp

/-! rows -/
def row (t : List UInt8) (p : Nat) : Nat := (List.range (t.length + 1)).countP (fun q => blt (t.drop q) (t.drop p))

theorem drop_ne (t : List UInt8) (p q : Nat) (hp : p ≤ t.length) (hq : q ≤ t.length) (h : p ≠ q) : t.drop p ≠ t.drop q := by
  intro e
  have := congrArg List.length e
  simp at this
  omega

theorem row_lt_of (t : List UInt8) (p q : Nat) (hp : p ≤ t.length) (h : blt (t.drop p) (t.drop q) = true) : row t p < row t q := by
  refine countP_lt_of _ _ _ (fun x _ hx => blt_trans _ _ _ hx h) ⟨p, List.mem_range.2 (by omega), h, blt_irrefl _⟩

theorem row_inj (t : List UInt8) (p q : Nat) (hp : p ≤ t.length) (hq : q ≤ t.length) (h : row t p = row t q) : p = q := by
  rcases Nat.decEq p q with hne | he
  · cases hb : blt (t.drop p) (t.drop q) with
    | true => have := row_lt_of t p q hp hb; omega
    | false =>
      have := row_lt_of t q p hq (blt_total _ _ (drop_ne t p q hp hq hne) hb); omega
  · exact he

theorem row_lt_iff (t : List UInt8) (p q : Nat) (hp : p ≤ t.length) (hq : q ≤ t.length) : row t p < row t q ↔ blt (t.drop p) (t.drop q) = true := by
  refine ⟨fun h => ?_, row_lt_of t p q hp⟩
  cases hb : blt (t.drop p) (t.drop q) with
  | true => rfl
  | false =>
    have hne : p ≠ q := fun e => by subst e; omega
    have := row_lt_of t q p hq (blt_total _ _ (drop_ne t p q hp hq hne) hb); omega

theorem row_le (t : List UInt8) (p : Nat) (hp : p ≤ t.length) : row t p ≤ t.length := by
  have h : row t p < (List.range (t.length + 1)).countP (fun _ => true) :=
    countP_lt_of _ _ _ (fun _ _ _ => rfl) ⟨p, List.mem_range.2 (by omega), rfl, blt_irrefl _⟩
  rw [List.countP_true, List.length_range] at h
  omega

theorem row_end (t : List UInt8) : row t t.length = 0 := by
  unfold row
  rw [List.countP_eq_zero]
  intro q _
  rw [List.drop_length, blt_nil]; simp

/-! slots -/
def sl (h r : Nat) : Nat := if h < r then r - 1 else r

theorem sl_lt (h r n : Nat) (hh : h ≤ n) (hr : r ≤ n) (hne : r ≠ h) : sl h r < n := by unfold sl; split <;> omega
theorem sl_lt_iff (h r s : Nat) (hr : r ≠ h) (hs : s ≠ h) : sl h r < sl h s ↔ r < s := by unfold sl; split <;> split <;> omega
theorem sl_inj (h r s : Nat) (hr : r ≠ h) (hs : s ≠ h) (e : sl h r = sl h s) : r = s := by unfold sl at e; split at e <;> split at e <;> omega

/-- where the byte ahead of the suffix p + 1 (it stands at p) lies -/
def sig (t : List UInt8) (p : Nat) : Nat := sl (row t 0) (row t (p + 1))

theorem row_ne_whole (t : List UInt8) (p : Nat) (hp : p < t.length) : row t (p + 1) ≠ row t 0 := fun e => by
  have := row_inj t (p + 1) 0 (by omega) (by omega) e; omega

theorem sig_lt (t : List UInt8) (p : Nat) (hp : p < t.length) : sig t p < t.length :=
  sl_lt _ _ _ (row_le t 0 (by omega)) (row_le t (p + 1) (by omega)) (row_ne_whole t p hp)

theorem sig_inj (t : List UInt8) (p q : Nat) (hp : p < t.length) (hq : q < t.length) (e : sig t p = sig t q) : p = q := by
  have := sl_inj _ _ _ (row_ne_whole t p hp) (row_ne_whole t q hq) e
  have := row_inj t (p + 1) (q + 1) (by omega) (by omega) this
  omega

theorem sig_perm (t : List UInt8) : ((List.range t.length).map (sig t)).Perm (List.range t.length) := by
  refine perm_of _ _ ?_ ?_ (by simp)
  · rw [List.nodup_iff_pairwise_ne, List.pairwise_map]
    have := List.nodup_range (n := t.length)
    rw [List.nodup_iff_pairwise_ne] at this
    exact this.imp_of_mem (fun {a b} ha hb hne e => hne (sig_inj t a b (List.mem_range.1 ha) (List.mem_range.1 hb) e))
  · intro x hx
    obtain ⟨p, hp, rfl⟩ := List.mem_map.1 hx
    exact List.mem_range.2 (sig_lt t p (List.mem_range.1 hp))

/-! the bytes ahead -/
def aheadTo (t : List UInt8) : Nat → List UInt8
  | 0 => List.replicate t.length 0
  | k + 1 => (aheadTo t k).set (sig t k) (t.getD k 0)

def ahead (t : List UInt8) : List UInt8 := aheadTo t t.length

theorem aheadTo_length (t : List UInt8) : ∀ k, (aheadTo t k).length = t.length
  | 0 => by simp [aheadTo]
  | k + 1 => by simp [aheadTo, aheadTo_length t k]

theorem ahead_length (t : List UInt8) : (ahead t).length = t.length := aheadTo_length t _

theorem aheadTo_at (t : List UInt8) : ∀ k, k ≤ t.length → ∀ i, i < k → (aheadTo t k).getD (sig t i) 0 = t.getD i 0
  | 0, _, i, hi => by omega
  | k + 1, hk, i, hi => by
    rw [aheadTo, List.getD_eq_getElem?_getD]
    rcases Nat.lt_or_ge i k with h | h
    · rw [List.getElem?_set_ne (fun e => by have := sig_inj t k i (by omega) (by omega) e; omega), ← List.getD_eq_getElem?_getD]
      exact aheadTo_at t k (by omega) i h
    · have : i = k := by omega
      subst this
      rw [List.getElem?_set_self (by rw [aheadTo_length]; exact sig_lt t i (by omega))]
      rfl

theorem ahead_at (t : List UInt8) (i : Nat) (hi : i < t.length) : (ahead t).getD (sig t i) 0 = t.getD i 0 := aheadTo_at t _ (Nat.le_refl _) i hi

/-! longer rows -/
def LF (a : List UInt8) (k : Nat) : Nat := 1 + a.countP (fun c => c < a.getD k 0) + (a.take k).countP (fun c => c == a.getD k 0)

theorem countP_getD (P : UInt8 → Bool) (a : List UInt8) (k : Nat) (hk : k ≤ a.length) : (a.take k).countP P = (List.range k).countP (fun j => P (a.getD j 0)) := by
  have : a.take k = (List.range k).map (fun j => a.getD j 0) := by
    apply List.ext_getElem
    · simp; omega
    · intro i h1 h2
      simp at h1 h2 ⊢
      rw [List.getElem?_eq_getElem (by omega)]; rfl
  rw [this, List.countP_map]
  rfl

theorem LF_eq (a : List UInt8) (k : Nat) (hk : k ≤ a.length) :
    LF a k = 1 + (List.range a.length).countP (fun j => decide (a.getD j 0 < a.getD k 0) || (a.getD j 0 == a.getD k 0 && decide (j < k))) := by
  have e1 : a.countP (fun c => c < a.getD k 0) = (List.range a.length).countP (fun j => decide (a.getD j 0 < a.getD k 0)) := by
    have := countP_getD (fun c => decide (c < a.getD k 0)) a a.length (Nat.le_refl _)
    rw [List.take_length] at this
    exact this
  have e2 : (a.take k).countP (fun c => c == a.getD k 0) = (List.range a.length).countP (fun j => a.getD j 0 == a.getD k 0 && decide (j < k)) := by
    rw [countP_getD _ a k hk, countP_range_le (fun j => a.getD j 0 == a.getD k 0) a.length k hk]
  rw [LF, e1, e2, countP_or]
  · omega
  · intro x _ hx
    have h : a.getD x 0 < a.getD k 0 := by simpa using hx
    have : a.getD x 0 ≠ a.getD k 0 := fun e => by rw [e] at h; exact absurd h (UInt8.lt_irrefl _)
    rw [beq_eq_false_iff_ne.2 this, Bool.false_and]

theorem LF_le (a : List UInt8) (k : Nat) (hk : k < a.length) : LF a k ≤ a.length := by
  rw [LF_eq a k (by omega)]
  have : (List.range a.length).countP (fun j => decide (a.getD j 0 < a.getD k 0) || (a.getD j 0 == a.getD k 0 && decide (j < k))) < (List.range a.length).countP (fun _ => true) :=
    countP_lt_of _ _ _ (fun _ _ _ => rfl) ⟨k, List.mem_range.2 hk, rfl, by simp [UInt8.lt_irrefl]⟩
  rw [List.countP_true, List.length_range] at this
  omega

theorem LF_row (t : List UInt8) (i : Nat) (hi : i < t.length) : LF (ahead t) (sig t i) = row t i := by
  have hal := ahead_length t
  rw [LF_eq _ _ (by have := sig_lt t i hi; omega), hal]
  have h0 : ∀ q, q < t.length → t.drop q = t.getD q 0 :: t.drop (q + 1) := by
    intro q hq
    rw [List.drop_eq_getElem_cons hq]
    simp [List.getElem?_eq_getElem hq]
  unfold row
  rw [List.range_succ, List.countP_append]
  have e1 : [t.length].countP (fun q => blt (t.drop q) (t.drop i)) = 1 := by
    rw [List.countP_singleton]
    rw [List.drop_length, h0 i hi]
    simp [blt]
  rw [e1, Nat.add_comm]
  congr 1
  rw [← (sig_perm t).countP_eq, List.countP_map]
  refine countP_congr_of _ _ _ (fun q hq => ?_)
  have hq' : q < t.length := List.mem_range.1 hq
  simp only [Function.comp]
  rw [ahead_at t q hq', ahead_at t i hi, h0 q hq', h0 i hi, blt_cons]
  congr 2
  have := sl_lt_iff (row t 0) (row t (q + 1)) (row t (i + 1)) (row_ne_whole t q hq') (row_ne_whole t i hi)
  have h2 := row_lt_iff t (q + 1) (i + 1) (by omega) (by omega)
  rw [Bool.eq_iff_iff, ← h2, ← this, decide_eq_true_iff]
  exact Iff.rfl

/-! the rows that bytes ahead lead to -/
def stp (a : List UInt8) (h : Nat) : Nat → Option Nat
  | 0 => some 0
  | j + 1 => (stp a h j).bind fun r => if r = h then none else some (LF a (sl h r))

def rowsOf (a : List UInt8) (h : Nat) : List Nat := (List.range (a.length + 1)).map fun p => (stp a h (a.length - p)).getD 0

def textOf (a : List UInt8) (h : Nat) : List UInt8 := (List.range a.length).map fun p => if (rowsOf a h).getD (p + 1) 0 = h then 0 else a.getD (sl h ((rowsOf a h).getD (p + 1) 0)) 0

theorem stp_le (a : List UInt8) (h : Nat) (hh : h ≤ a.length) : ∀ j r, stp a h j = some r → r ≤ a.length
  | 0, r, e => by simp [stp] at e; omega
  | j + 1, r, e => by
    rw [stp] at e
    cases hs : stp a h j with
    | none => rw [hs] at e; cases e
    | some s =>
      rw [hs] at e
      simp only [Option.bind_some] at e
      split at e
      · cases e
      · next hne =>
        simp at e
        rw [← e]
        exact LF_le _ _ (sl_lt h s a.length hh (stp_le a h hh j s hs) hne)

theorem rowsOf_length (a : List UInt8) (h : Nat) : (rowsOf a h).length = a.length + 1 := by simp [rowsOf]

theorem rowsOf_at (a : List UInt8) (h p : Nat) (hp : p ≤ a.length) : (rowsOf a h).getD p 0 = (stp a h (a.length - p)).getD 0 := by
  unfold rowsOf
  rw [List.getD_eq_getElem?_getD, List.getElem?_map, List.getElem?_range (by omega)]
  rfl

theorem rowsOf_le (a : List UInt8) (h : Nat) (hh : h ≤ a.length) (p : Nat) (hp : p ≤ a.length) : (rowsOf a h).getD p 0 ≤ a.length := by
  rw [rowsOf_at a h p hp]
  cases e : stp a h (a.length - p) with
  | none => simp
  | some r => exact stp_le a h hh _ r e

theorem stp_row (t : List UInt8) : ∀ j, j ≤ t.length → stp (ahead t) (row t 0) j = some (row t (t.length - j))
  | 0, _ => by simp [stp, row_end]
  | j + 1, hj => by
    rw [stp, stp_row t j (by omega)]
    simp only [Option.bind_some]
    have e : t.length - j = (t.length - (j + 1)) + 1 := by omega
    have hlt : t.length - (j + 1) < t.length := by omega
    rw [e, if_neg (row_ne_whole t _ hlt)]
    exact congrArg some (LF_row t _ hlt)

theorem rowsOf_ahead (t : List UInt8) : rowsOf (ahead t) (row t 0) = (List.range (t.length + 1)).map (row t) := by
  unfold rowsOf
  rw [ahead_length]
  refine List.map_congr_left (fun p hp => ?_)
  have : p ≤ t.length := by have := List.mem_range.1 hp; omega
  rw [stp_row t _ (by omega)]
  show row t (t.length - (t.length - p)) = _
  congr 1
  omega

theorem textOf_ahead (t : List UInt8) : textOf (ahead t) (row t 0) = t := by
  unfold textOf
  apply List.ext_getElem
  · simp [ahead_length]
  · intro i h1 h2
    have e : (rowsOf (ahead t) (row t 0)).getD (i + 1) 0 = row t (i + 1) := by
      rw [rowsOf_ahead, List.getD_eq_getElem?_getD, List.getElem?_map, List.getElem?_range (by omega)]
      rfl
    rw [List.getElem_map, List.getElem_range, e, if_neg (row_ne_whole t i h2)]
    have := ahead_at t i h2
    unfold sig at this
    rw [this]
    simp [List.getElem?_eq_getElem h2]

theorem textOf_length (a : List UInt8) (h : Nat) : (textOf a h).length = a.length := by simp [textOf]
end Go.Proofs.Ytjmkkkfloalliab.M

namespace Go.Proofs.Ytjmkkkfloalliab.M
set_option linter.unusedVariables false

def cnt (a : List UInt8) (c : Nat) : Nat := a.countP (fun x => x.toNat == c)
def bel (a : List UInt8) (c : Nat) : Nat := a.countP (fun x => decide (x.toNat < c))

theorem cnt_le (a : List UInt8) (c : Nat) : cnt a c ≤ a.length := List.countP_le_length
theorem bel_le (a : List UInt8) (c : Nat) : bel a c ≤ a.length := List.countP_le_length
theorem bel_zero (a : List UInt8) : bel a 0 = 0 := by unfold bel; rw [List.countP_eq_zero]; simp
theorem bel_succ (a : List UInt8) (c : Nat) : bel a (c + 1) = bel a c + cnt a c := by
  unfold bel cnt
  rw [← countP_or]
  · refine countP_congr_of _ _ _ (fun x _ => ?_)
    rw [Bool.eq_iff_iff]; simp; omega
  · intro x _ h
    simp at h ⊢; omega
theorem cnt_take (a : List UInt8) (k : Nat) (hk : k < a.length) (c : Nat) : cnt (a.take (k + 1)) c = cnt (a.take k) c + if (a.getD k 0).toNat = c then 1 else 0 := by
  unfold cnt
  rw [List.take_succ_eq_append_getElem hk, List.countP_append, List.countP_singleton]
  have : a.getD k 0 = a[k] := by rw [List.getD_eq_getElem?_getD, List.getElem?_eq_getElem hk]; rfl
  rw [this]
  simp

/-- 256 numbers, one a byte -/
def tab (f : Nat → Nat) : List Int := (List.range 256).map fun c => (f c : Int)
theorem tab_length (f : Nat → Nat) : (tab f).length = 256 := by unfold tab; rw [List.length_map, List.length_range]
theorem tab_at (f : Nat → Nat) (c : Nat) (hc : c < 256) : (tab f).getD c 0 = (f c : Int) := by
  unfold tab
  rw [List.getD_eq_getElem?_getD, List.getElem?_map, List.getElem?_range hc]; rfl
theorem tab_set (f g : Nat → Nat) (c v : Nat) (hv : g c = v) (h : ∀ d, d < 256 → d ≠ c → g d = f d) : (tab f).set c (v : Int) = tab g := by
  apply List.ext_getElem
  · simp [tab_length]
  · intro i h1 h2
    have hi : i < 256 := by rw [tab_length] at h2; exact h2
    rw [List.getElem_set]
    by_cases e : c = i
    · subst e
      simp only [if_true]
      simp [tab, hv]
    · rw [if_neg e]
      simp [tab, h i hi (Ne.symm e)]

def c1 (a : List UInt8) (k c : Nat) : Nat := cnt (a.take k) c
def c2 (a : List UInt8) (k c : Nat) : Nat := if c < k then 1 + bel a c else cnt a c
def c3 (a : List UInt8) (k c : Nat) : Nat := 1 + bel a c + cnt (a.take k) c

theorem c1_zero (a : List UInt8) : tab (c1 a 0) = List.replicate 256 0 := by
  rw [List.eq_replicate_iff]
  refine ⟨tab_length _, fun b hb => ?_⟩
  unfold tab at hb
  obtain ⟨c, _, rfl⟩ := List.mem_map.1 hb
  simp [c1, cnt]
theorem c1_step (a : List UInt8) (k : Nat) (hk : k < a.length) :
    (tab (c1 a k)).set (a.getD k 0).toNat (((c1 a k (a.getD k 0).toNat : Nat) : Int) + 1) = tab (c1 a (k + 1)) := by
  refine tab_set _ _ _ (c1 a k (a.getD k 0).toNat + 1) ?_ ?_
  · unfold c1; rw [cnt_take a k hk]; simp
  · intro d _ hd
    unfold c1; rw [cnt_take a k hk, if_neg (fun e => hd e.symm)]; rfl
theorem c1_all (a : List UInt8) : tab (c1 a a.length) = tab (c2 a 0) := by
  unfold tab
  refine List.map_congr_left (fun c _ => ?_)
  simp [c1, c2]
theorem c2_step (a : List UInt8) (c : Nat) : (tab (c2 a c)).set c (((1 + bel a c : Nat) : Int)) = tab (c2 a (c + 1)) := by
  refine tab_set _ _ _ (1 + bel a c) ?_ ?_
  · unfold c2; rw [if_pos (by omega)]
  · intro d _ hd
    unfold c2
    by_cases h : d < c
    · rw [if_pos h, if_pos (by omega)]
    · rw [if_neg h, if_neg (by omega)]
theorem c2_at (a : List UInt8) (c : Nat) : c2 a c c = cnt a c := by unfold c2; rw [if_neg (by omega)]
theorem c2_all (a : List UInt8) : tab (c2 a 256) = tab (c3 a 0) := by
  unfold tab
  refine List.map_congr_left (fun c hc => ?_)
  have := List.mem_range.1 hc
  simp [c2, c3, this, cnt]
theorem c3_step (a : List UInt8) (k : Nat) (hk : k < a.length) :
    (tab (c3 a k)).set (a.getD k 0).toNat (((c3 a k (a.getD k 0).toNat : Nat) : Int) + 1) = tab (c3 a (k + 1)) := by
  refine tab_set _ _ _ (c3 a k (a.getD k 0).toNat + 1) ?_ ?_
  · unfold c3; rw [cnt_take a k hk, if_pos rfl]; omega
  · intro d _ hd
    unfold c3; rw [cnt_take a k hk, if_neg (fun e => hd e.symm)]; rfl
theorem c3_LF (a : List UInt8) (k : Nat) : c3 a k (a.getD k 0).toNat = LF a k := by
  unfold c3 LF bel cnt
  congr 1
  refine countP_congr_of _ _ _ (fun x _ => ?_)
  rw [Bool.eq_iff_iff]
  simp only [beq_iff_eq]
  exact UInt8.toNat_inj
theorem c1_le (a : List UInt8) (k c : Nat) : c1 a k c ≤ a.length := Nat.le_trans (cnt_le _ _) (List.length_take_le' _ _)
theorem c3_le (a : List UInt8) (k c : Nat) : c3 a k c ≤ 1 + a.length + a.length := by
  have h1 := bel_le a c
  have h2 : cnt (a.take k) c ≤ a.length := Nat.le_trans (cnt_le _ _) (List.length_take_le' _ _)
  unfold c3; omega

/-- the longer rows of the first k slots -/
def lonTo (a : List UInt8) (k : Nat) : List Int := (List.range a.length).map fun j => if j < k then (LF a j : Int) else 0
def lonL (a : List UInt8) : List Int := (List.range a.length).map fun j => (LF a j : Int)
theorem lonTo_zero (a : List UInt8) : lonTo a 0 = List.replicate a.length 0 := by
  unfold lonTo
  rw [List.eq_replicate_iff]
  simp
theorem lonTo_length (a : List UInt8) (k : Nat) : (lonTo a k).length = a.length := by simp [lonTo]
theorem lonTo_set (a : List UInt8) (k : Nat) : (lonTo a k).set k (LF a k : Int) = lonTo a (k + 1) := by
  apply List.ext_getElem
  · simp [lonTo]
  · intro i h1 h2
    simp [lonTo, List.getElem_set]
    by_cases e : k = i
    · subst e; simp
    · rw [if_neg e]
      by_cases h : i < k
      · rw [if_pos h, if_pos (by omega)]
      · rw [if_neg h, if_neg (by omega)]
theorem lonTo_all (a : List UInt8) : lonTo a a.length = lonL a := by
  unfold lonTo lonL
  refine List.map_congr_left (fun i hi => ?_)
  rw [if_pos (List.mem_range.1 hi)]
theorem lonL_at (a : List UInt8) (p : Nat) (hp : p < a.length) : (lonL a).getD p 0 = (LF a p : Int) := by
  unfold lonL
  rw [List.getD_eq_getElem?_getD, List.getElem?_map, List.getElem?_range hp]
  rfl
theorem lonL_length (a : List UInt8) : (lonL a).length = a.length := by simp [lonL]
end Go.Proofs.Ytjmkkkfloalliab.M

namespace Go.Proofs.Ytjmkkkfloalliab.M
set_option linter.unusedVariables false
/-- the rows from place q on, as the walk from the end lays them; the others 0 -/
def rp (a : List UInt8) (h q : Nat) : List Int := (List.range (a.length + 1)).map fun p => if q ≤ p then (((rowsOf a h).getD p 0 : Nat) : Int) else 0
def rowsI (a : List UInt8) (h : Nat) : List Int := (rowsOf a h).map fun (r : Nat) => (r : Int)
theorem rowsI_length (a : List UInt8) (h : Nat) : (rowsI a h).length = a.length + 1 := by simp [rowsI, rowsOf_length]
theorem rowsI_at (a : List UInt8) (h p : Nat) : (rowsI a h).getD p 0 = (((rowsOf a h).getD p 0 : Nat) : Int) := by
  unfold rowsI
  rw [List.getD_eq_getElem?_getD, List.getD_eq_getElem?_getD, List.getElem?_map]
  cases (rowsOf a h)[p]? <;> rfl
theorem rp_length (a : List UInt8) (h q : Nat) : (rp a h q).length = a.length + 1 := by simp [rp]
theorem rowsOf_end (a : List UInt8) (h : Nat) : (rowsOf a h).getD a.length 0 = 0 := by
  rw [rowsOf_at a h _ (Nat.le_refl _)]; simp [stp]
theorem rp_start (a : List UInt8) (h : Nat) : rp a h a.length = List.replicate (a.length + 1) 0 := by
  rw [List.eq_replicate_iff]
  refine ⟨rp_length _ _ _, fun b hb => ?_⟩
  obtain ⟨p, hp, rfl⟩ := List.mem_map.1 hb
  have hp' := List.mem_range.1 hp
  by_cases e : a.length ≤ p
  · have : p = a.length := by omega
    subst this
    rw [if_pos (Nat.le_refl _), rowsOf_end]; rfl
  · rw [if_neg e]
theorem rp_at (a : List UInt8) (h q : Nat) (hq : q ≤ a.length) : (rp a h q).getD q 0 = (((rowsOf a h).getD q 0 : Nat) : Int) := by
  unfold rp
  rw [List.getD_eq_getElem?_getD, List.getElem?_map, List.getElem?_range (by omega)]
  simp
theorem rp_set (a : List UInt8) (h q : Nat) : (rp a h (q + 1)).set q (((rowsOf a h).getD q 0 : Nat) : Int) = rp a h q := by
  apply List.ext_getElem
  · simp [rp]
  · intro i h1 h2
    simp only [rp, List.getElem_set, List.getElem_map, List.getElem_range]
    by_cases e : q = i
    · subst e; simp
    · rw [if_neg e]
      by_cases h : q + 1 ≤ i
      · rw [if_pos h, if_pos (by omega)]
      · rw [if_neg h, if_neg (by omega)]
theorem rp_zero (a : List UInt8) (h : Nat) : rp a h 0 = rowsI a h := by
  apply List.ext_getElem
  · simp [rp_length, rowsI_length]
  · intro i h1 h2
    have hi : i < (rowsOf a h).length := by rw [rowsOf_length]; rw [rp_length] at h1; exact h1
    simp [rp, rowsI, List.getElem?_eq_getElem hi]
theorem stp_none (a : List UInt8) (h j : Nat) (e : stp a h j = some h) : ∀ d, stp a h (j + d + 1) = none
  | 0 => by show (stp a h (j + 0 + 1)) = none; rw [stp]; show (stp a h j).bind _ = none; rw [e]; simp
  | d + 1 => by show stp a h (j + d + 1 + 1) = none; rw [stp, stp_none a h j e d]; rfl
/-- the walk has met the row of the whole text: the places ahead are left at 0 -/
theorem rp_stop (a : List UInt8) (h q : Nat) (hq : q ≤ a.length) (e : stp a h (a.length - q) = some h) : rp a h q = rowsI a h := by
  rw [← rp_zero]
  unfold rp
  refine List.map_congr_left (fun p hp => ?_)
  have hp' := List.mem_range.1 hp
  by_cases hqp : q ≤ p
  · rw [if_pos hqp, if_pos (by omega)]
  · rw [if_neg hqp, if_pos (by omega), rowsOf_at a h p (by omega)]
    have := stp_none a h (a.length - q) e (q - p - 1)
    rw [show a.length - q + (q - p - 1) + 1 = a.length - p from by omega] at this
    rw [this]; rfl
theorem stp_next (a : List UInt8) (h q r : Nat) (hq : q + 1 ≤ a.length) (e : stp a h (a.length - (q + 1)) = some r) (hne : r ≠ h) : stp a h (a.length - q) = some (LF a (sl h r)) := by
  rw [show a.length - q = (a.length - (q + 1)) + 1 from by omega, stp, e]
  simp [hne]
theorem rowsOf_some (a : List UInt8) (h q r : Nat) (hq : q ≤ a.length) (e : stp a h (a.length - q) = some r) : (rowsOf a h).getD q 0 = r := by
  rw [rowsOf_at a h q hq, e]; rfl

/-- the text's first k bytes -/
def txTo (a : List UInt8) (h k : Nat) : List UInt8 := (List.range a.length).map fun p => if p < k then (textOf a h).getD p 0 else 0
theorem txTo_zero (a : List UInt8) (h : Nat) : txTo a h 0 = List.replicate a.length 0 := by
  rw [List.eq_replicate_iff]; simp [txTo]
theorem txTo_length (a : List UInt8) (h k : Nat) : (txTo a h k).length = a.length := by simp [txTo]
theorem txTo_set (a : List UInt8) (h k : Nat) : (txTo a h k).set k ((textOf a h).getD k 0) = txTo a h (k + 1) := by
  apply List.ext_getElem
  · simp [txTo]
  · intro i h1 h2
    simp only [txTo, List.getElem_set, List.getElem_map, List.getElem_range]
    by_cases e : k = i
    · subst e; simp
    · rw [if_neg e]
      by_cases h : i < k
      · rw [if_pos h, if_pos (by omega)]
      · rw [if_neg h, if_neg (by omega)]
theorem txTo_all (a : List UInt8) (h : Nat) : txTo a h a.length = textOf a h := by
  apply List.ext_getElem
  · simp [txTo_length, textOf_length]
  · intro i h1 h2
    have : i < a.length := by rw [txTo_length] at h1; exact h1
    simp [txTo, this, List.getElem?_eq_getElem h2]
theorem textOf_at (a : List UInt8) (h p : Nat) (hp : p < a.length) : (textOf a h).getD p 0 = if (rowsOf a h).getD (p + 1) 0 = h then 0 else a.getD (sl h ((rowsOf a h).getD (p + 1) 0)) 0 := by
  unfold textOf
  rw [List.getD_eq_getElem?_getD, List.getElem?_map, List.getElem?_range hp]; rfl
theorem txTo_skip (a : List UInt8) (h k : Nat) (hk : k < a.length) (e : (textOf a h).getD k 0 = 0) : txTo a h k = txTo a h (k + 1) := by
  unfold txTo
  refine List.map_congr_left (fun p _ => ?_)
  by_cases h1 : p < k
  · rw [if_pos h1, if_pos (by omega)]
  · by_cases h2 : p = k
    · subst h2; rw [if_neg h1, if_pos (by omega), e]
    · rw [if_neg h1, if_neg (by omega)]
end Go.Proofs.Ytjmkkkfloalliab.M

namespace Go.Proofs.Ytjmkkkfloalliab.Q
set_option linter.unusedVariables false

/-- a part of a pattern -/
structure Part where
  kind : Nat
  ins : List Bool
  left : Nat
  right : Nat
  low : Nat
  high : Nat
  endless : Bool
  some : Bool
  empty : Bool
  places : Nat

def ins0 : List Bool := List.replicate 256 false
theorem ins0_len : ins0.length = 256 := List.length_replicate
def mk (kind left right : Nat) : Part := ⟨kind, ins0, left, right, 0, 0, false, false, false, 0⟩
def p0 : Part := mk 0 0 0
def Part.copies (p : Part) : Nat := if p.endless then p.low + 1 else p.high
def at_ (ps : List Part) (i : Nat) : Part := ps.getD i p0
def anyIn (l : List Bool) : Bool := l.any id

/-- with what follows from its parts -/
def known (ps : List Part) (p : Part) : Part :=
  if p.kind = 0 then { p with some := true, empty := true }
  else if p.kind = 1 then { p with some := p.some || anyIn p.ins, places := 1 }
  else if p.kind = 2 then { p with some := (at_ ps p.left).some && (at_ ps p.right).some, empty := (at_ ps p.left).empty && (at_ ps p.right).empty, places := (at_ ps p.left).places + (at_ ps p.right).places }
  else if p.kind = 3 then { p with some := (at_ ps p.left).some || (at_ ps p.right).some, empty := (at_ ps p.left).empty || (at_ ps p.right).empty, places := (at_ ps p.left).places + (at_ ps p.right).places }
  else { p with some := (at_ ps p.left).some || decide (p.low = 0), empty := (at_ ps p.left).empty || decide (p.low = 0), places := (at_ ps p.left).places * p.copies }
def cut (p : Part) : Part :=
  { p with places := if p.some = false then 0 else if 48 < p.places then 49 else p.places }
def fill (ps : List Part) (p : Part) : Part := cut (known ps p)

/-- how far the reading is -/
structure Rd where
  at_ : Nat
  wrong : Bool
  back : Bool
  depth : Nat
  deepest : Nat
  parts : List Part

def add (p : Part) (σ : Rd) : Nat × Rd := (σ.parts.length, { σ with parts := σ.parts ++ [fill σ.parts p] })

variable (s : List UInt8)
def next (σ : Rd) : Int := if σ.wrong = true ∨ s.length ≤ σ.at_ then -1 else ((s.getD σ.at_ 0).toNat : Int)
def fwd (σ : Rd) : Rd := { σ with at_ := σ.at_ + 1 }
def take (c : Int) (σ : Rd) : Rd := if next s σ = c then fwd σ else σ
def need (c : Int) (σ : Rd) : Rd := if next s σ = c then fwd σ else { σ with wrong := true }
def anyByte (σ : Rd) : Nat × Rd := if next s σ = -1 then (0, { σ with wrong := true }) else ((next s σ).toNat, fwd σ)
def isDigit (c : Int) : Bool := decide (48 ≤ c) && decide (c ≤ 57)
def number (σ : Rd) : Nat × Rd :=
  if isDigit (next s σ) = false then (0, { σ with wrong := true })
  else if isDigit (next s (fwd σ)) = true then (10 * ((next s σ).toNat - 48) + ((next s (fwd σ)).toNat - 48), fwd (fwd σ))
  else ((next s σ).toNat - 48, fwd σ)
/-- low, high, endless -/
def bounds1 (σ : Rd) : Nat × Bool × Rd :=
  if next s (number s σ).2 = 44 then
    if isDigit (next s (fwd (number s σ).2)) = true then ((number s (fwd (number s σ).2)).1, false, (number s (fwd (number s σ).2)).2)
    else ((number s σ).1, true, fwd (number s σ).2)
  else ((number s σ).1, false, (number s σ).2)
def bounds (p : Part) (σ : Rd) : Part × Rd :=
  ({ p with low := (number s σ).1, high := (bounds1 s σ).1, endless := p.endless || (bounds1 s σ).2.1 },
   need s 125 { (bounds1 s σ).2.2 with back := (bounds1 s σ).2.2.back || decide ((bounds1 s σ).1 < (number s σ).1) })
def memberByte (σ : Rd) : Nat × Rd :=
  if next s σ = 92 then anyByte s (fwd σ)
  else anyByte s (if next s σ = 93 ∨ next s σ = 45 then { σ with wrong := true } else σ)
def setRange (ins : List Bool) (a b : Nat) : List Bool := (List.range 256).map fun c => ins.getD c false || (decide (a ≤ c) && decide (c ≤ b))
/-- from, to -/
def member1 (σ : Rd) : Nat × Nat × Rd :=
  if next s (memberByte s σ).2 = 45 then ((memberByte s σ).1, (memberByte s (fwd (memberByte s σ).2)).1, (memberByte s (fwd (memberByte s σ).2)).2)
  else ((memberByte s σ).1, (memberByte s σ).1, (memberByte s σ).2)
def member (ins : List Bool) (σ : Rd) : List Bool × Rd :=
  (setRange ins (member1 s σ).1 (member1 s σ).2.1, { (member1 s σ).2.2 with back := (member1 s σ).2.2.back || decide ((member1 s σ).2.1 < (member1 s σ).1) })
/-- the members behind the first, with the bracket that closes them -/
def members : Nat → List Bool → Rd → List Bool × Rd
  | 0, ins, σ => (ins, σ)
  | f + 1, ins, σ => if σ.wrong = true then (ins, σ) else if next s σ = 93 then (ins, fwd σ) else members f (member s ins σ).1 (member s ins σ).2
def turn (ins : List Bool) : List Bool := ins.map (!·)
def cls (ins : List Bool) (σ : Rd) : List Bool × Rd :=
  if next s (fwd σ) = 94 then
    (turn (members s (s.length + 1) (member s ins (fwd (fwd σ))).1 (member s ins (fwd (fwd σ))).2).1, (members s (s.length + 1) (member s ins (fwd (fwd σ))).1 (member s ins (fwd (fwd σ))).2).2)
  else members s (s.length + 1) (member s ins (fwd σ)).1 (member s ins (fwd σ)).2

def stops (c : Int) : Bool := c == -1 || c == 41 || c == 124 || c == 42 || c == 43 || c == 63 || c == 123 || c == 125 || c == 93
def isRep (c : Int) : Bool := c == 42 || c == 43 || c == 63 || c == 123
def ends (c : Int) : Bool := c == -1 || c == 124 || c == 41
def repPart (n : Nat) (σ : Rd) : Part × Rd :=
  if next s σ = 42 then ({ mk 4 n 0 with endless := true }, fwd σ)
  else if next s σ = 43 then ({ mk 4 n 0 with low := 1, endless := true }, fwd σ)
  else if next s σ = 63 then ({ mk 4 n 0 with high := 1 }, fwd σ)
  else bounds s (mk 4 n 0) (fwd σ)
def opened (σ : Rd) : Rd := { fwd σ with depth := σ.depth + 1, deepest := if σ.deepest < σ.depth + 1 then σ.depth + 1 else σ.deepest }
def closed (σ : Rd) : Rd := need s 41 { σ with depth := σ.depth - 1 }
/-- a term that is no bracket -/
def leaf (σ : Rd) : Part × Rd :=
  if stops (next s σ) = true then (mk 1 0 0, { σ with wrong := true })
  else if next s σ = 91 then ({ mk 1 0 0 with ins := (cls s ins0 σ).1 }, (cls s ins0 σ).2)
  else if next s σ = 46 then ({ mk 1 0 0 with ins := turn ins0 }, fwd σ)
  else if next s σ = 92 then ({ mk 1 0 0 with ins := ins0.set (anyByte s (fwd σ)).1 true }, (anyByte s (fwd σ)).2)
  else ({ mk 1 0 0 with ins := ins0.set (next s σ).toNat true }, fwd σ)

abbrev Job : Type := Unit ⊕ Nat ⊕ Unit ⊕ Nat ⊕ Unit ⊕ Nat ⊕ Unit
abbrev Job.alt : Job := .inl ()
abbrev Job.altL (n : Nat) : Job := .inr (.inl n)
abbrev Job.seq : Job := .inr (.inr (.inl ()))
abbrev Job.seqL (n : Nat) : Job := .inr (.inr (.inr (.inl n)))
abbrev Job.rep : Job := .inr (.inr (.inr (.inr (.inl ()))))
abbrev Job.repL (n : Nat) : Job := .inr (.inr (.inr (.inr (.inr (.inl n)))))
abbrev Job.term : Job := .inr (.inr (.inr (.inr (.inr (.inr ())))))
def Job.rank : Job → Nat
  | .inl () => 6
  | .inr (.inl _) => 1
  | .inr (.inr (.inl ())) => 5
  | .inr (.inr (.inr (.inl _))) => 4
  | .inr (.inr (.inr (.inr (.inl ())))) => 3
  | .inr (.inr (.inr (.inr (.inr (.inl _))))) => 1
  | .inr (.inr (.inr (.inr (.inr (.inr ()))))) => 1

def go : Nat → Job → Rd → Nat × Rd
  | 0, _, σ => (0, σ)
  | f + 1, .inl (), σ => go f (.altL (go f .seq σ).1) (go f .seq σ).2
  | f + 1, .inr (.inl n), σ => if next s σ = 124 then
      go f (.altL (add (mk 3 n (go f .seq (fwd σ)).1) (go f .seq (fwd σ)).2).1) (add (mk 3 n (go f .seq (fwd σ)).1) (go f .seq (fwd σ)).2).2
    else (n, σ)
  | f + 1, .inr (.inr (.inl ())), σ => go f (.seqL (add (mk 0 0 0) σ).1) (add (mk 0 0 0) σ).2
  | f + 1, .inr (.inr (.inr (.inl n))), σ => if ends (next s σ) = true then (n, σ) else
      go f (.seqL (add (mk 2 n (go f .rep σ).1) (go f .rep σ).2).1) (add (mk 2 n (go f .rep σ).1) (go f .rep σ).2).2
  | f + 1, .inr (.inr (.inr (.inr (.inl ())))), σ => go f (.repL (go f .term σ).1) (go f .term σ).2
  | f + 1, .inr (.inr (.inr (.inr (.inr (.inl n))))), σ => if isRep (next s σ) = true then
      go f (.repL (add (repPart s n σ).1 (repPart s n σ).2).1) (add (repPart s n σ).1 (repPart s n σ).2).2
    else (n, σ)
  | f + 1, .inr (.inr (.inr (.inr (.inr (.inr ()))))), σ => if next s σ = 40 then ((go f .alt (opened σ)).1, closed s (go f .alt (opened σ)).2)
    else add (leaf s σ).1 (leaf s σ).2

def left (σ : Rd) : Nat := if σ.wrong = true then 0 else s.length - σ.at_

/-- where σ2 can come from σ1 by reading on -/
structure On (σ1 σ2 : Rd) : Prop where
  at_ : σ1.at_ ≤ σ2.at_
  len : σ1.at_ ≤ s.length → σ2.at_ ≤ s.length
  wrong : σ1.wrong = true → σ2.wrong = true
  back : σ1.back = true → σ2.back = true

theorem On.refl (σ : Rd) : On s σ σ := ⟨Nat.le_refl _, id, id, id⟩
variable {s}
theorem On.trans {a b c : Rd} (h : On s a b) (g : On s b c) : On s a c := ⟨Nat.le_trans h.at_ g.at_, fun x => g.len (h.len x), fun x => g.wrong (h.wrong x), fun x => g.back (h.back x)⟩
theorem On.left {a b : Rd} (h : On s a b) : left s b ≤ left s a := by
  unfold Q.left
  have := h.at_
  cases hw : a.wrong with
  | true => rw [h.wrong hw]; simp
  | false => split <;> simp <;> omega

theorem next_lt {σ : Rd} (h : next s σ ≠ -1) : σ.wrong = false ∧ σ.at_ < s.length ∧ next s σ = ((s.getD σ.at_ 0).toNat : Int) := by
  unfold next at h ⊢
  split
  · next h2 => rw [if_pos h2] at h; exact absurd rfl h
  · next h2 =>
    refine ⟨?_, ?_, rfl⟩
    · cases hw : σ.wrong with
      | true => exact absurd (.inl hw) h2
      | false => rfl
    · rcases Nat.lt_or_ge σ.at_ s.length with h3 | h3
      · exact h3
      · exact absurd (.inr h3) h2
theorem next_range (σ : Rd) : -1 ≤ next s σ ∧ next s σ ≤ 255 := by
  unfold next
  split
  · omega
  · have := (s.getD σ.at_ 0).toNat_lt
    omega
theorem fwd_on {σ : Rd} (h : next s σ ≠ -1) : On s σ (fwd σ) := ⟨by simp [fwd], fun _ => by have := (next_lt h).2.1; simp [fwd]; omega, id, id⟩
theorem fwd_left {σ : Rd} (h : next s σ ≠ -1) : left s (fwd σ) < left s σ := by
  obtain ⟨h1, h2, _⟩ := next_lt h
  unfold left fwd
  simp only [h1, Bool.false_eq_true, if_false]
  omega
theorem wrong_on (σ : Rd) : On s σ { σ with wrong := true } := ⟨Nat.le_refl _, id, fun _ => rfl, id⟩
theorem wrong_left {σ : Rd} (h : next s σ ≠ -1) : left s { σ with wrong := true } < left s σ := by
  obtain ⟨h1, h2, _⟩ := next_lt h
  unfold left
  simp only [h1, Bool.false_eq_true, if_false, if_true]
  omega
theorem take_on (c : Int) (hc : c ≠ -1) (σ : Rd) : On s σ (take s c σ) := by
  unfold take
  split
  · next h => exact fwd_on (by rw [h]; exact hc)
  · exact On.refl s σ
theorem need_on (c : Int) (hc : c ≠ -1) (σ : Rd) : On s σ (need s c σ) := by
  unfold need
  split
  · next h => exact fwd_on (by rw [h]; exact hc)
  · exact wrong_on σ
theorem anyByte_on (σ : Rd) : On s σ (anyByte s σ).2 := by
  unfold anyByte
  split
  · exact wrong_on σ
  · next h => exact fwd_on h
theorem anyByte_lt (σ : Rd) : (anyByte s σ).1 < 256 := by
  unfold anyByte
  have := next_range (s := s) σ
  split
  · simp
  · simp; omega
theorem isDigit_ne {c : Int} (h : isDigit c = true) : 48 ≤ c ∧ c ≤ 57 := by
  unfold isDigit at h
  simpa using h
theorem number_on (σ : Rd) : On s σ (number s σ).2 := by
  unfold number
  split
  · exact wrong_on σ
  · next h =>
    have h1 := isDigit_ne (by simpa using h)
    have o1 : On s σ (fwd σ) := fwd_on (by omega)
    split
    · next h2 =>
      have h3 := isDigit_ne h2
      exact o1.trans (fwd_on (by omega))
    · exact o1
theorem number_le (σ : Rd) : (number s σ).1 ≤ 99 := by
  unfold number
  split
  · simp
  · next h =>
    have h1 := isDigit_ne (by simpa using h)
    split
    · next h2 =>
      have h3 := isDigit_ne h2
      simp only
      omega
    · simp only; omega
theorem bounds1_on (σ : Rd) : On s σ (bounds1 s σ).2.2 := by
  unfold bounds1
  have o1 := number_on (s := s) σ
  split
  · next h =>
    have o2 := o1.trans (fwd_on (s := s) (σ := (number s σ).2) (by omega))
    split
    · exact o2.trans (number_on _)
    · exact o2
  · exact o1
theorem bounds1_le (σ : Rd) : (bounds1 s σ).1 ≤ 99 := by
  unfold bounds1
  split
  · split
    · exact number_le _
    · exact number_le _
  · exact number_le _
theorem bounds_on (p : Part) (σ : Rd) : On s σ (bounds s p σ).2 := by
  unfold bounds
  have o1 := bounds1_on (s := s) σ
  refine o1.trans (On.trans ?_ (need_on 125 (by decide) _))
  exact ⟨Nat.le_refl _, id, id, fun h => by simp [h]⟩
theorem memberByte_on (σ : Rd) : On s σ (memberByte s σ).2 := by
  unfold memberByte
  split
  · next h => exact (fwd_on (by rw [h]; decide)).trans (anyByte_on _)
  · split
    · exact (wrong_on σ).trans (anyByte_on _)
    · exact anyByte_on _
theorem memberByte_lt (σ : Rd) : (memberByte s σ).1 < 256 := by
  unfold memberByte
  split
  · exact anyByte_lt _
  · exact anyByte_lt _
/-- it goes on, or is wrong -/
def Adv (s : List UInt8) (a b : Rd) : Prop := b.wrong = true ∨ left s b < left s a
theorem Adv.on {a b c : Rd} (h : Adv s a b) (g : On s b c) : Adv s a c := by
  rcases h with h | h
  · exact .inl (g.wrong h)
  · exact .inr (Nat.lt_of_le_of_lt g.left h)
theorem On.adv {a b c : Rd} (h : On s a b) (g : Adv s b c) : Adv s a c := by
  rcases g with g | g
  · exact .inl g
  · exact .inr (Nat.lt_of_lt_of_le g h.left)
theorem anyByte_adv (σ : Rd) : Adv s σ (anyByte s σ).2 := by
  unfold anyByte
  split
  · exact .inl rfl
  · next h => exact .inr (fwd_left h)
theorem memberByte_adv (σ : Rd) : Adv s σ (memberByte s σ).2 := by
  unfold memberByte
  split
  · next h => exact (fwd_on (by rw [h]; decide)).adv (anyByte_adv _)
  · split
    · exact (wrong_on σ).adv (anyByte_adv _)
    · exact anyByte_adv _
theorem member1_on (σ : Rd) : On s (memberByte s σ).2 (member1 s σ).2.2 := by
  unfold member1
  split
  · next h => exact (fwd_on (by rw [h]; decide)).trans (memberByte_on _)
  · exact On.refl s _
theorem member1_lt (σ : Rd) : (member1 s σ).1 < 256 ∧ (member1 s σ).2.1 < 256 := by
  unfold member1
  split
  · exact ⟨memberByte_lt _, memberByte_lt _⟩
  · exact ⟨memberByte_lt _, memberByte_lt _⟩
theorem back_on (σ : Rd) (b : Bool) : On s σ { σ with back := σ.back || b } := ⟨Nat.le_refl _, id, id, fun h => by simp [h]⟩
theorem member_on (ins : List Bool) (σ : Rd) : On s σ (member s ins σ).2 := ((memberByte_on σ).trans (member1_on σ)).trans (back_on _ _)
theorem member_adv (ins : List Bool) (σ : Rd) : Adv s σ (member s ins σ).2 := ((memberByte_adv σ).on (member1_on σ)).on (back_on _ _)
theorem setRange_len (ins : List Bool) (a b : Nat) : (setRange ins a b).length = 256 := by simp [setRange]
theorem member_len (ins : List Bool) (σ : Rd) : (member s ins σ).1.length = 256 := setRange_len _ _ _
theorem members_on : ∀ (f : Nat) (ins : List Bool) (σ : Rd), On s σ (members s f ins σ).2
  | 0, _, σ => On.refl s σ
  | f + 1, ins, σ => by
    unfold members
    split
    · exact On.refl s σ
    · split
      · next h => exact fwd_on (by rw [h]; decide)
      · exact (member_on ins σ).trans (members_on f _ _)
theorem members_len : ∀ (f : Nat) (ins : List Bool) (σ : Rd), ins.length = 256 → (members s f ins σ).1.length = 256
  | 0, _, σ, h => h
  | f + 1, ins, σ, h => by
    unfold members
    split
    · exact h
    · split
      · exact h
      · exact members_len f _ _ (member_len _ _)
/-- more fuel changes nothing -/
theorem members_more : ∀ (f g : Nat) (ins : List Bool) (σ : Rd), (σ.wrong = true ∨ left s σ < f) → (σ.wrong = true ∨ left s σ < g) → 0 < f → 0 < g → members s f ins σ = members s g ins σ
  | 0, _, _, _, _, _, h, _ => by omega
  | f + 1, 0, _, _, _, _, _, h => by omega
  | f + 1, g + 1, ins, σ, hf, hg, _, _ => by
    unfold members
    cases hw : σ.wrong with
    | true => simp
    | false =>
      simp only [Bool.false_eq_true, if_false]
      rw [hw] at hf hg
      simp only [Bool.false_eq_true, false_or] at hf hg
      by_cases h9 : next s σ = 93
      · rw [if_pos h9, if_pos h9]
      · rw [if_neg h9, if_neg h9]
        cases f with
        | zero =>
          cases hw2 : (member s ins σ).2.wrong with
          | true =>
            cases g with
            | zero => rfl
            | succ g => unfold members; simp [hw2]
          | false =>
            rcases member_adv ins σ with h | h
            · rw [hw2] at h; cases h
            · omega
        | succ f =>
          cases g with
          | zero =>
            cases hw2 : (member s ins σ).2.wrong with
            | true => unfold members; simp [hw2]
            | false =>
              rcases member_adv ins σ with h | h
              · rw [hw2] at h; cases h
              · omega
          | succ g =>
            refine members_more (f + 1) (g + 1) _ _ ?_ ?_ (by omega) (by omega)
            · rcases member_adv ins σ with h | h
              · exact .inl h
              · exact .inr (by omega)
            · rcases member_adv ins σ with h | h
              · exact .inl h
              · exact .inr (by omega)
theorem turn_len (ins : List Bool) (h : ins.length = 256) : (turn ins).length = 256 := by simp [turn, h]
theorem cls_on {σ : Rd} (h : next s σ ≠ -1) (ins : List Bool) : On s (fwd σ) (cls s ins σ).2 := by
  unfold cls
  split
  · next h2 => exact ((fwd_on (by rw [h2]; decide)).trans (member_on _ _)).trans (members_on _ _ _)
  · exact (member_on _ _).trans (members_on _ _ _)
theorem cls_len (σ : Rd) (ins : List Bool) : (cls s ins σ).1.length = 256 := by
  unfold cls
  split
  · exact turn_len _ (members_len _ _ _ (member_len _ _))
  · exact members_len _ _ _ (member_len _ _)

/-! parts -/
structure PartOk (i : Nat) (p : Part) : Prop where
  kind : p.kind ≤ 4
  ins : p.ins.length = 256
  left : 2 ≤ p.kind → p.left < i
  right : p.kind = 2 ∨ p.kind = 3 → p.right < i
  low : p.low ≤ 99
  high : p.high ≤ 99
  places : p.places ≤ 49
  zero : p.kind = 0 → p.places = 0
def PartsOk (ps : List Part) : Prop := ∀ i p, ps[i]? = some p → PartOk i p ∧ fill ps p = p
theorem PartsOk.get {ps : List Part} (h : PartsOk ps) (i : Nat) (hi : i < ps.length) : PartOk i (Q.at_ ps i) ∧ fill ps (Q.at_ ps i) = Q.at_ ps i := by
  refine h i _ ?_
  unfold Q.at_
  rw [List.getD_eq_getElem?_getD, List.getElem?_eq_getElem hi]; rfl
theorem PartOk.cut {i : Nat} {p q : Part} (h : PartOk i p) (h1 : q.kind = p.kind) (h2 : q.ins = p.ins) (h3 : q.left = p.left) (h4 : q.right = p.right) (h5 : q.low = p.low) (h6 : q.high = p.high) (h7 : p.kind = 0 → q.places = 0) : PartOk i (cut q) := by
  refine ⟨by simp only [Q.cut]; rw [h1]; exact h.kind, by simp only [Q.cut]; rw [h2]; exact h.ins, by simp only [Q.cut]; rw [h1, h3]; exact h.left, by simp only [Q.cut]; rw [h1, h4]; exact h.right, by simp only [Q.cut]; rw [h5]; exact h.low, by simp only [Q.cut]; rw [h6]; exact h.high, ?_, ?_⟩
  · simp only [Q.cut]
    split
    · omega
    · split <;> omega
  · simp only [Q.cut]
    intro h0
    rw [h1] at h0
    rw [h7 h0]
    split <;> simp
theorem PartOk.fill {i : Nat} {p : Part} (ps : List Part) (h : PartOk i p) : PartOk i (fill ps p) := by
  unfold Q.fill known
  split
  · exact h.cut rfl rfl rfl rfl rfl rfl h.zero
  · next h0 =>
    split
    · exact h.cut rfl rfl rfl rfl rfl rfl (fun e => absurd e h0)
    · split
      · exact h.cut rfl rfl rfl rfl rfl rfl (fun e => absurd e h0)
      · split
        · exact h.cut rfl rfl rfl rfl rfl rfl (fun e => absurd e h0)
        · exact h.cut rfl rfl rfl rfl rfl rfl (fun e => absurd e h0)
theorem at_app (ps l : List Part) (i : Nat) (h : i < ps.length) : Q.at_ (ps ++ l) i = Q.at_ ps i := by
  unfold Q.at_
  rw [List.getD_eq_getElem?_getD, List.getD_eq_getElem?_getD, List.getElem?_append_left h]
theorem fill_app {i : Nat} {p : Part} (ps l : List Part) (h : PartOk i p) (hi : i ≤ ps.length) : fill (ps ++ l) p = fill ps p := by
  unfold fill known
  by_cases h0 : p.kind = 0
  · rw [if_pos h0, if_pos h0]
  rw [if_neg h0, if_neg h0]
  by_cases h1 : p.kind = 1
  · rw [if_pos h1, if_pos h1]
  rw [if_neg h1, if_neg h1]
  have hl := h.left (by omega)
  rw [at_app ps l p.left (by omega)]
  by_cases h2 : p.kind = 2
  · have hr := h.right (.inl h2)
    rw [if_pos h2, if_pos h2, at_app ps l p.right (by omega)]
  rw [if_neg h2, if_neg h2]
  by_cases h3 : p.kind = 3
  · have hr := h.right (.inr h3)
    rw [if_pos h3, if_pos h3, at_app ps l p.right (by omega)]
  rw [if_neg h3, if_neg h3]
theorem known_cut {ps : List Part} {p : Part} (h0 : p.kind = 0 → p.places = 0) : cut (known ps (cut (known ps p))) = cut (known ps p) := by
  by_cases e0 : p.kind = 0
  · have := h0 e0
    simp [known, cut, e0, this]
  by_cases e1 : p.kind = 1
  · simp [known, cut, e1]
  by_cases e2 : p.kind = 2
  · simp [known, cut, e2]
  by_cases e3 : p.kind = 3
  · simp [known, cut, e3]
  simp [known, cut, e0, e1, e2, e3, Part.copies]
theorem PartsOk.add {σ : Rd} {p : Part} (h : PartsOk σ.parts) (hp : PartOk σ.parts.length p) : PartsOk (add p σ).2.parts := by
  intro i q hq
  simp only [Q.add] at hq ⊢
  rcases Nat.lt_or_ge i σ.parts.length with h1 | h1
  · rw [List.getElem?_append_left h1] at hq
    obtain ⟨g1, g2⟩ := h i q hq
    exact ⟨g1, by rw [fill_app _ _ g1 (by omega)]; exact g2⟩
  · rw [List.getElem?_append_right h1] at hq
    have : i = σ.parts.length := by
      rcases Nat.lt_or_ge (i - σ.parts.length) 1 with h2 | h2
      · omega
      · rw [List.getElem?_eq_none (by simpa using h2)] at hq; cases hq
    subst this
    simp only [Nat.sub_self, List.getElem?_cons_zero, Option.some.injEq] at hq
    subst hq
    refine ⟨hp.fill _, ?_⟩
    rw [fill_app _ _ (hp.fill _) (Nat.le_refl _)]
    exact known_cut hp.zero
theorem mk_ok (i kind left right : Nat) (h1 : kind ≤ 4) (h2 : 2 ≤ kind → left < i) (h3 : kind = 2 ∨ kind = 3 → right < i) : PartOk i (mk kind left right) := ⟨h1, ins0_len, h2, h3, Nat.zero_le _, Nat.zero_le _, Nat.zero_le _, fun _ => rfl⟩
theorem repPart_ok (n : Nat) (σ : Rd) (i : Nat) (hn : n < i) : PartOk i (repPart s n σ).1 := by
  have h0 : PartOk i (mk 4 n 0) := mk_ok i 4 n 0 (by omega) (fun _ => hn) (fun h => by omega)
  unfold repPart
  split
  · exact ⟨h0.kind, h0.ins, h0.left, h0.right, h0.low, h0.high, h0.places, h0.zero⟩
  · split
    · exact ⟨h0.kind, h0.ins, h0.left, h0.right, by simp, h0.high, h0.places, h0.zero⟩
    · split
      · exact ⟨h0.kind, h0.ins, h0.left, h0.right, h0.low, by simp, h0.places, h0.zero⟩
      · exact ⟨h0.kind, h0.ins, h0.left, h0.right, number_le _, bounds1_le _, h0.places, h0.zero⟩
theorem repPart_on (n : Nat) (σ : Rd) (h : isRep (next s σ) = true) : On s (fwd σ) (repPart s n σ).2 ∧ next s σ ≠ -1 := by
  refine ⟨?_, ?_⟩
  · unfold repPart
    split
    · exact On.refl s _
    · split
      · exact On.refl s _
      · split
        · exact On.refl s _
        · exact bounds_on _ _
  · intro e
    rw [e] at h
    cases h
theorem leaf_ok (σ : Rd) (i : Nat) : PartOk i (leaf s σ).1 := by
  have h0 : PartOk i (mk 1 0 0) := mk_ok i 1 0 0 (by omega) (fun h => by omega) (fun h => by omega)
  have key : ∀ l : List Bool, l.length = 256 → PartOk i { mk 1 0 0 with ins := l } := fun l hl => ⟨h0.kind, hl, h0.left, h0.right, h0.low, h0.high, h0.places, h0.zero⟩
  unfold leaf
  split
  · exact h0
  · split
    · exact key _ (cls_len _ _)
    · split
      · exact key _ (turn_len _ ins0_len)
      · split
        · exact key _ (by rw [List.length_set]; exact ins0_len)
        · exact key _ (by rw [List.length_set]; exact ins0_len)
theorem stops_none {c : Int} (h : stops c = false) : c ≠ -1 := by
  intro e
  subst e
  cases h
theorem leaf_on (σ : Rd) : On s σ (leaf s σ).2 := by
  unfold leaf
  split
  · exact wrong_on σ
  · next h =>
    have hn := stops_none (by simpa using h)
    split
    · exact (fwd_on hn).trans (cls_on hn _)
    · split
      · exact fwd_on hn
      · split
        · exact (fwd_on hn).trans (anyByte_on _)
        · exact fwd_on hn
theorem leaf_adv (σ : Rd) (hn : next s σ ≠ -1) : left s (leaf s σ).2 < left s σ := by
  unfold leaf
  split
  · exact wrong_left hn
  · split
    · exact Nat.lt_of_le_of_lt (cls_on hn _).left (fwd_left hn)
    · split
      · exact fwd_left hn
      · split
        · exact Nat.lt_of_le_of_lt (anyByte_on _).left (fwd_left hn)
        · exact fwd_left hn

/-! the parts of σ are only touched by 'add' -/
theorem fwd_parts (σ : Rd) : (fwd σ).parts = σ.parts := rfl
theorem need_parts (c : Int) (σ : Rd) : (need s c σ).parts = σ.parts := by unfold need; split <;> rfl
theorem anyByte_parts (σ : Rd) : (anyByte s σ).2.parts = σ.parts := by unfold anyByte; split <;> rfl
theorem number_parts (σ : Rd) : (number s σ).2.parts = σ.parts := by
  unfold number
  split
  · rfl
  · split <;> rfl
theorem bounds1_parts (σ : Rd) : (bounds1 s σ).2.2.parts = σ.parts := by
  unfold bounds1
  split
  · split
    · rw [number_parts, fwd_parts, number_parts]
    · rw [fwd_parts, number_parts]
  · exact number_parts σ
theorem bounds_parts (p : Part) (σ : Rd) : (bounds s p σ).2.parts = σ.parts := by
  unfold bounds
  rw [need_parts]
  exact bounds1_parts σ
theorem memberByte_parts (σ : Rd) : (memberByte s σ).2.parts = σ.parts := by
  unfold memberByte
  split
  · rw [anyByte_parts, fwd_parts]
  · rw [anyByte_parts]; split <;> rfl
theorem member_parts (ins : List Bool) (σ : Rd) : (member s ins σ).2.parts = σ.parts := by
  unfold member member1
  simp only
  split
  · simp only; rw [memberByte_parts, fwd_parts, memberByte_parts]
  · simp only; rw [memberByte_parts]
theorem members_parts : ∀ (f : Nat) (ins : List Bool) (σ : Rd), (members s f ins σ).2.parts = σ.parts
  | 0, _, _ => rfl
  | f + 1, ins, σ => by
    unfold members
    split
    · rfl
    · split
      · rfl
      · rw [members_parts f, member_parts]
theorem cls_parts (ins : List Bool) (σ : Rd) : (cls s ins σ).2.parts = σ.parts := by
  unfold cls
  split
  · simp only; rw [members_parts, member_parts]; rfl
  · rw [members_parts, member_parts]; rfl
theorem leaf_parts (σ : Rd) : (leaf s σ).2.parts = σ.parts := by
  unfold leaf
  split
  · rfl
  · split
    · exact cls_parts _ _
    · split
      · rfl
      · split
        · exact anyByte_parts _
        · rfl
theorem repPart_parts (n : Nat) (σ : Rd) : (repPart s n σ).2.parts = σ.parts := by
  unfold repPart
  split
  · rfl
  · split
    · rfl
    · split
      · rfl
      · exact bounds_parts _ _
theorem closed_parts (σ : Rd) : (closed s σ).parts = σ.parts := need_parts _ _

/-- what every job keeps -/
structure Good (σ : Rd) (x : Nat × Rd) : Prop where
  on : On s σ x.2
  ok : PartsOk x.2.parts
  grow : ∃ l, x.2.parts = σ.parts ++ l
  lt : x.1 < x.2.parts.length
def Job.ok (σ : Rd) : Job → Prop
  | .inl () => True
  | .inr (.inl n) => n < σ.parts.length
  | .inr (.inr (.inl ())) => True
  | .inr (.inr (.inr (.inl n))) => n < σ.parts.length
  | .inr (.inr (.inr (.inr (.inl ())))) => True
  | .inr (.inr (.inr (.inr (.inr (.inl n))))) => n < σ.parts.length
  | .inr (.inr (.inr (.inr (.inr (.inr ()))))) => True
def Job.adv (j : Job) (σ : Rd) (x : Nat × Rd) : Prop :=
  match j with
  | .inl () => True
  | .inr (.inl _) => True
  | .inr (.inr (.inl ())) => True
  | .inr (.inr (.inr (.inl _))) => True
  | .inr (.inr (.inr (.inr (.inl ())))) => next s σ ≠ -1 → left s x.2 < left s σ
  | .inr (.inr (.inr (.inr (.inr (.inl _))))) => True
  | .inr (.inr (.inr (.inr (.inr (.inr ()))))) => next s σ ≠ -1 → left s x.2 < left s σ
theorem add_on (p : Part) (σ : Rd) : On s σ (add p σ).2 := ⟨Nat.le_refl _, id, id, id⟩
theorem add_left (p : Part) (σ : Rd) : left s (add p σ).2 = left s σ := rfl
theorem Good.len {σ : Rd} {x : Nat × Rd} (h : Good (s := s) σ x) : σ.parts.length ≤ x.2.parts.length := by
  obtain ⟨l, e⟩ := h.grow
  rw [e]; simp
theorem good_add {σ : Rd} {p : Part} (h : PartsOk σ.parts) (hp : PartOk σ.parts.length p) : Good (s := s) σ (add p σ) :=
  ⟨add_on p σ, h.add hp, ⟨_, rfl⟩, by simp [add]⟩
theorem Good.trans {σ τ : Rd} {n : Nat} {x : Nat × Rd} (h : Good (s := s) σ (n, τ)) (g : Good (s := s) τ x) : Good (s := s) σ x := by
  obtain ⟨l, e⟩ := h.grow
  obtain ⟨l2, e2⟩ := g.grow
  simp only at e
  exact ⟨h.on.trans g.on, g.ok, ⟨l ++ l2, by rw [e2, e, List.append_assoc]⟩, g.lt⟩
theorem Good.pre {σ τ : Rd} {x : Nat × Rd} (h : On s σ τ) (hp : τ.parts = σ.parts) (g : Good (s := s) τ x) : Good (s := s) σ x :=
  ⟨h.trans g.on, g.ok, by rw [← hp]; exact g.grow, g.lt⟩
theorem opened_on {σ : Rd} (h : next s σ ≠ -1) : On s σ (opened σ) := ⟨by simp [opened, fwd], fun _ => by have := (next_lt h).2.1; simp [opened, fwd]; omega, id, id⟩
theorem opened_left {σ : Rd} (h : next s σ ≠ -1) : left s (opened σ) < left s σ := fwd_left h
theorem closed_on (σ : Rd) : On s σ (closed s σ) := On.trans (b := { σ with depth := σ.depth - 1 }) ⟨Nat.le_refl _, id, id, id⟩ (need_on 41 (by decide) _)
theorem Job.rank_pos : ∀ j : Job, 0 < j.rank
  | .inl () => by decide
  | .inr (.inl _) => by simp only [Job.rank]; omega
  | .inr (.inr (.inl ())) => by decide
  | .inr (.inr (.inr (.inl _))) => by simp only [Job.rank]; omega
  | .inr (.inr (.inr (.inr (.inl ())))) => by decide
  | .inr (.inr (.inr (.inr (.inr (.inl _))))) => by simp only [Job.rank]; omega
  | .inr (.inr (.inr (.inr (.inr (.inr ()))))) => by decide
theorem go_good : ∀ (f : Nat) (j : Job) (σ : Rd), 8 * left s σ + j.rank ≤ f → PartsOk σ.parts → j.ok σ → Good (s := s) σ (go s f j σ) ∧ j.adv (s := s) σ (go s f j σ)
  | 0, j, _, h, _, _ => by have := Job.rank_pos j; omega
  | f + 1, .inl (), σ, h, hp, _ => by
    simp only [Job.rank] at h
    have g1 := (go_good f .seq σ (by simp only [Job.rank]; omega) hp trivial).1
    have hl := g1.on.left
    exact ⟨Good.trans (n := (go s f .seq σ).1) g1 (go_good f (.altL _) _ (by simp only [Job.rank]; omega) g1.ok g1.lt).1, trivial⟩
  | f + 1, .inr (.inl n), σ, h, hp, hn => by
    simp only [Job.rank] at h
    refine ⟨?_, trivial⟩
    unfold go
    split
    · next h2 =>
      have hne : next s σ ≠ -1 := by rw [h2]; decide
      have hl := fwd_left hne
      have g1 := (go_good f .seq (fwd σ) (by simp only [Job.rank]; omega) hp trivial).1
      have hn2 : n < (go s f .seq (fwd σ)).2.parts.length := Nat.lt_of_lt_of_le hn g1.len
      have g2 : Good (s := s) _ (add (mk 3 n (go s f .seq (fwd σ)).1) (go s f .seq (fwd σ)).2) := good_add g1.ok (mk_ok _ _ _ _ (by omega) (fun _ => hn2) (fun _ => g1.lt))
      have h3 := (g1.on.trans g2.on).left
      refine Good.pre (fwd_on hne) rfl (Good.trans (n := 0) (τ := (go s f .seq (fwd σ)).2) ⟨g1.on, g1.ok, g1.grow, Nat.lt_of_le_of_lt (Nat.zero_le _) g1.lt⟩ (Good.trans (n := 0) (τ := (add (mk 3 n (go s f .seq (fwd σ)).1) (go s f .seq (fwd σ)).2).2) ⟨g2.on, g2.ok, g2.grow, Nat.lt_of_le_of_lt (Nat.zero_le _) g2.lt⟩ (go_good f (.altL _) _ (by simp only [Job.rank]; omega) g2.ok g2.lt).1))
    · exact ⟨On.refl s σ, hp, ⟨[], by simp⟩, hn⟩
  | f + 1, .inr (.inr (.inl ())), σ, h, hp, _ => by
    simp only [Job.rank] at h
    refine ⟨?_, trivial⟩
    unfold go
    have g2 : Good (s := s) σ (add (mk 0 0 0) σ) := good_add hp (mk_ok _ _ _ _ (by omega) (fun h => by omega) (fun h => by omega))
    have h3 := add_left (s := s) (mk 0 0 0) σ
    exact Good.trans (n := 0) (τ := (add (mk 0 0 0) σ).2) ⟨g2.on, g2.ok, g2.grow, Nat.lt_of_le_of_lt (Nat.zero_le _) g2.lt⟩ (go_good f (.seqL _) _ (by simp only [Job.rank]; omega) g2.ok g2.lt).1
  | f + 1, .inr (.inr (.inr (.inl n))), σ, h, hp, hn => by
    simp only [Job.rank] at h
    refine ⟨?_, trivial⟩
    unfold go
    split
    · exact ⟨On.refl s σ, hp, ⟨[], by simp⟩, hn⟩
    · next h2 =>
      have hne : next s σ ≠ -1 := by intro e; rw [e] at h2; exact h2 rfl
      obtain ⟨g1, a1⟩ := go_good f .rep σ (by simp only [Job.rank]; omega) hp trivial
      have hl := a1 hne
      have hn2 : n < (go s f .rep σ).2.parts.length := Nat.lt_of_lt_of_le hn g1.len
      have g2 : Good (s := s) _ (add (mk 2 n (go s f .rep σ).1) (go s f .rep σ).2) := good_add g1.ok (mk_ok _ _ _ _ (by omega) (fun _ => hn2) (fun _ => g1.lt))
      have h3 := g2.on.left
      exact Good.trans (n := 0) (τ := (go s f .rep σ).2) ⟨g1.on, g1.ok, g1.grow, Nat.lt_of_le_of_lt (Nat.zero_le _) g1.lt⟩ (Good.trans (n := 0) (τ := (add (mk 2 n (go s f .rep σ).1) (go s f .rep σ).2).2) ⟨g2.on, g2.ok, g2.grow, Nat.lt_of_le_of_lt (Nat.zero_le _) g2.lt⟩ (go_good f (.seqL _) _ (by simp only [Job.rank]; omega) g2.ok g2.lt).1)
  | f + 1, .inr (.inr (.inr (.inr (.inl ())))), σ, h, hp, _ => by
    simp only [Job.rank] at h
    obtain ⟨g1, a1⟩ := go_good f .term σ (by simp only [Job.rank]; omega) hp trivial
    have hl := g1.on.left
    have g2 := (go_good f (.repL (go s f .term σ).1) (go s f .term σ).2 (by simp only [Job.rank]; omega) g1.ok g1.lt).1
    refine ⟨Good.trans (n := (go s f .term σ).1) g1 g2, fun hne => ?_⟩
    exact Nat.lt_of_le_of_lt g2.on.left (a1 hne)
  | f + 1, .inr (.inr (.inr (.inr (.inr (.inl n))))), σ, h, hp, hn => by
    simp only [Job.rank] at h
    refine ⟨?_, trivial⟩
    unfold go
    split
    · next h2 =>
      obtain ⟨o1, hne⟩ := repPart_on n σ h2
      have hl := fwd_left hne
      have hpp : (repPart s n σ).2.parts = σ.parts := repPart_parts n σ
      have g2 : Good (s := s) _ (add (repPart s n σ).1 (repPart s n σ).2) := good_add (by rw [hpp]; exact hp) (repPart_ok _ _ _ (by rw [hpp]; exact hn))
      have h3 := (o1.trans g2.on).left
      exact Good.pre ((fwd_on hne).trans o1) hpp (Good.trans (n := 0) (τ := (add (repPart s n σ).1 (repPart s n σ).2).2) ⟨g2.on, g2.ok, g2.grow, Nat.lt_of_le_of_lt (Nat.zero_le _) g2.lt⟩ (go_good f (.repL _) _ (by simp only [Job.rank]; omega) g2.ok g2.lt).1)
    · exact ⟨On.refl s σ, hp, ⟨[], by simp⟩, hn⟩
  | f + 1, .inr (.inr (.inr (.inr (.inr (.inr ()))))), σ, h, hp, _ => by
    simp only [Job.rank] at h
    unfold go
    split
    · next h2 =>
      have hne : next s σ ≠ -1 := by rw [h2]; decide
      have hl := opened_left hne
      have g1 := (go_good f .alt (opened σ) (by simp only [Job.rank]; omega) hp trivial).1
      refine ⟨Good.pre (opened_on hne) rfl ⟨g1.on.trans (closed_on _), by rw [closed_parts]; exact g1.ok, by rw [closed_parts]; exact g1.grow, by rw [closed_parts]; exact g1.lt⟩, fun _ => ?_⟩
      exact Nat.lt_of_le_of_lt (g1.on.trans (closed_on _)).left hl
    · have g2 : Good (s := s) _ (add (leaf s σ).1 (leaf s σ).2) := good_add (by rw [leaf_parts]; exact hp) (leaf_ok _ _)
      exact ⟨Good.pre (leaf_on σ) (leaf_parts σ) g2, fun hne => leaf_adv σ hne⟩
end Go.Proofs.Ytjmkkkfloalliab.Q

namespace Go.Proofs.Ytjmkkkfloalliab.Q
set_option linter.unusedVariables false

/-- a pattern written out -/
structure Pat where
  size : Nat
  ahead : List Nat
  takes : List Nat
  begins : Nat
structure Span where
  first : Nat
  last : Nat
  empty : Bool

/-- the list of n values -/
def tab (n : Nat) (g : Nat → Nat) : List Nat := (List.range n).map g
theorem tab_len (n : Nat) (g : Nat → Nat) : (tab n g).length = n := by simp [tab]
theorem tab_at (n : Nat) (g : Nat → Nat) (i : Nat) (h : i < n) : (tab n g).getD i 0 = g i := by
  rw [List.getD_eq_getElem?_getD]
  simp [tab, List.getElem?_map, List.getElem?_range h]
theorem tab_eq (n : Nat) (l : List Nat) (h : l.length = n) : tab n (fun i => l.getD i 0) = l := by
  apply List.ext_getElem?
  intro i
  rcases Nat.lt_or_ge i n with hi | hi
  · simp [tab, List.getElem?_map, List.getElem?_range hi, List.getD_eq_getElem?_getD, List.getElem?_eq_getElem (show i < l.length by omega)]
  · rw [List.getElem?_eq_none (by simpa [tab] using hi), List.getElem?_eq_none (by omega)]
theorem tab_set (n : Nat) (g : Nat → Nat) (i v : Nat) : (tab n g).set i v = tab n (fun j => if j = i then v else g j) := by
  apply List.ext_getElem?
  intro j
  rw [List.getElem?_set]
  rcases Nat.lt_or_ge j n with hj | hj
  · by_cases h : i = j
    · subst h
      simp [tab, hj]
    · rw [if_neg h]
      have : ¬ j = i := fun e => h e.symm
      simp [tab, List.getElem?_map, List.getElem?_range hj, this]
  · rw [List.getElem?_eq_none (show (tab n fun j => if j = i then v else g j).length ≤ j by rw [tab_len]; exact hj)]
    split
    · rw [if_neg (by rw [tab_len]; omega)]
    · rw [List.getElem?_eq_none (by rw [tab_len]; exact hj)]
theorem tab_congr (n : Nat) (g h : Nat → Nat) (e : ∀ i, i < n → g i = h i) : tab n g = tab n h := by
  unfold tab
  apply List.map_congr_left
  intro i hi
  exact e i (List.mem_range.1 hi)

/-- the first k places are linked -/
def linkTo (k : Nat) (from_ to_ : Nat) (p : Pat) : Pat :=
  { p with ahead := tab 49 fun i => if i < k ∧ to_.testBit i = true then p.ahead.getD i 0 ||| from_ else p.ahead.getD i 0 }
def link (from_ to_ : Nat) (p : Pat) : Pat := linkTo p.size from_ to_ p
def takeTo (k : Nat) (ins : List Bool) (place : Nat) (p : Pat) : Pat :=
  { p with takes := tab 256 fun i => if i < k ∧ ins.getD i false = true then p.takes.getD i 0 ||| place else p.takes.getD i 0 }
def layByte (ins : List Bool) (p : Pat) : Span × Pat :=
  (⟨2 ^ p.size, 2 ^ p.size, false⟩, { takeTo 256 ins (2 ^ p.size) p with size := p.size + 1 })
def join (a b : Span) (p : Pat) : Span × Pat :=
  (⟨if a.empty = true then a.first ||| b.first else a.first, if b.empty = true then b.last ||| a.last else b.last, a.empty && b.empty⟩, link a.last b.first p)
def either (a b : Span) : Span := ⟨a.first ||| b.first, a.last ||| b.last, a.empty || b.empty⟩
/-- copies number k to the last -/
def copies (rec : Pat → Span × Pat) (low : Nat) (endless : Bool) (n : Nat) : Nat → Span → Pat → Span × Pat
  | 0, all, p => (all, p)
  | d + 1, all, p =>
    let one : Span := { (rec p).1 with empty := decide (low < n - d) || (rec p).1.empty }
    let q : Pat := if endless = true ∧ d = 0 then link one.last one.first (rec p).2 else (rec p).2
    copies rec low endless n d (join all one q).1 (join all one q).2
def lay (ps : List Part) : Nat → Nat → Pat → Span × Pat
  | 0, _, p => (⟨0, 0, false⟩, p)
  | f + 1, n, p =>
    if (at_ ps n).places = 0 then (⟨0, 0, (at_ ps n).empty⟩, p)
    else if (at_ ps n).kind = 2 then
      join (lay ps f (at_ ps n).left p).1 (lay ps f (at_ ps n).right (lay ps f (at_ ps n).left p).2).1 (lay ps f (at_ ps n).right (lay ps f (at_ ps n).left p).2).2
    else if (at_ ps n).kind = 3 then
      (either (lay ps f (at_ ps n).left p).1 (lay ps f (at_ ps n).right (lay ps f (at_ ps n).left p).2).1, (lay ps f (at_ ps n).right (lay ps f (at_ ps n).left p).2).2)
    else if (at_ ps n).kind = 4 then copies (lay ps f (at_ ps n).left) (at_ ps n).low (at_ ps n).endless (at_ ps n).copies (at_ ps n).copies ⟨0, 0, true⟩ p
    else layByte (at_ ps n).ins p
def pat0 : Pat := ⟨1, List.replicate 49 0, List.replicate 256 0, 0⟩
def newPattern (ps : List Part) (top : Nat) : Pat :=
  { (lay ps (top + 1) top pat0).2 with begins := (lay ps (top + 1) top pat0).1.first, ahead := (lay ps (top + 1) top pat0).2.ahead.set 0 (lay ps (top + 1) top pat0).1.last }

/-- as it must be at every time -/
structure PatOk (p : Pat) : Prop where
  size : p.size ≤ 49
  pos : 1 ≤ p.size
  alen : p.ahead.length = 49
  tlen : p.takes.length = 256
  a : ∀ i, p.ahead.getD i 0 < 2 ^ p.size
  t : ∀ i, p.takes.getD i 0 < 2 ^ p.size
  b : p.begins < 2 ^ p.size
def SpanOk (p : Pat) (a : Span) : Prop := a.first < 2 ^ p.size ∧ a.last < 2 ^ p.size
theorem pow_le {a b : Nat} (h : a ≤ b) : 2 ^ a ≤ 2 ^ b := Nat.pow_le_pow_right (by decide) h
theorem SpanOk.mono {p q : Pat} {a : Span} (h : SpanOk p a) (hs : p.size ≤ q.size) : SpanOk q a :=
  ⟨Nat.lt_of_lt_of_le h.1 (pow_le hs), Nat.lt_of_lt_of_le h.2 (pow_le hs)⟩
theorem getD_tab (n : Nat) (g : Nat → Nat) (i : Nat) : (tab n g).getD i 0 = if i < n then g i else 0 := by
  split
  · next h => exact tab_at n g i h
  · next h => rw [List.getD_eq_getElem?_getD, List.getElem?_eq_none (by rw [tab_len]; omega)]; rfl
theorem linkTo_ok {p : Pat} (k from_ to_ : Nat) (h : PatOk p) (hf : from_ < 2 ^ p.size) : PatOk (linkTo k from_ to_ p) := by
  refine ⟨h.size, h.pos, tab_len _ _, h.tlen, fun i => ?_, h.t, h.b⟩
  simp only [linkTo]
  rw [getD_tab]
  have hp : 0 < 2 ^ p.size := Nat.pow_pos (by decide)
  split
  · split
    · exact Nat.or_lt_two_pow (h.a i) hf
    · exact h.a i
  · exact hp
theorem link_ok {p : Pat} (from_ to_ : Nat) (h : PatOk p) (hf : from_ < 2 ^ p.size) : PatOk (link from_ to_ p) := linkTo_ok _ _ _ h hf
theorem link_size (from_ to_ : Nat) (p : Pat) : (link from_ to_ p).size = p.size := rfl
theorem layByte_ok {p : Pat} (ins : List Bool) (h : PatOk p) (hs : p.size < 49) : PatOk (layByte ins p).2 ∧ SpanOk (layByte ins p).2 (layByte ins p).1 ∧ (layByte ins p).2.size = p.size + 1 := by
  have h1 : 2 ^ p.size < 2 ^ (p.size + 1) := Nat.pow_lt_pow_right (by decide) (by omega)
  have hp : 0 < 2 ^ p.size := Nat.pow_pos (by decide)
  refine ⟨⟨?_, ?_, h.alen, tab_len _ _, fun i => ?_, fun i => ?_, ?_⟩, ⟨h1, h1⟩, rfl⟩
  · show p.size + 1 ≤ 49; omega
  · show 1 ≤ p.size + 1; omega
  · exact Nat.lt_trans (h.a i) h1
  · simp only [layByte, takeTo]
    rw [getD_tab]
    split
    · split
      · exact Nat.or_lt_two_pow (Nat.lt_trans (h.t i) h1) h1
      · exact Nat.lt_trans (h.t i) h1
    · omega
  · exact Nat.lt_trans h.b h1
theorem join_ok {p : Pat} {a b : Span} (h : PatOk p) (ha : SpanOk p a) (hb : SpanOk p b) : PatOk (join a b p).2 ∧ SpanOk (join a b p).2 (join a b p).1 ∧ (join a b p).2.size = p.size := by
  refine ⟨link_ok _ _ h ha.2, ⟨?_, ?_⟩, rfl⟩
  · simp only [join, link_size]
    split
    · exact Nat.or_lt_two_pow ha.1 hb.1
    · exact ha.1
  · simp only [join, link_size]
    split
    · exact Nat.or_lt_two_pow hb.2 ha.2
    · exact hb.2
theorem either_ok {p : Pat} {a b : Span} (ha : SpanOk p a) (hb : SpanOk p b) : SpanOk p (either a b) := ⟨Nat.or_lt_two_pow ha.1 hb.1, Nat.or_lt_two_pow ha.2 hb.2⟩
/-- what a writing out of m places does -/
def Lays (m : Nat) (rec : Pat → Span × Pat) : Prop := ∀ p, PatOk p → p.size + m ≤ 49 → PatOk (rec p).2 ∧ SpanOk (rec p).2 (rec p).1 ∧ (rec p).2.size = p.size + m
theorem copies_ok {m : Nat} {rec : Pat → Span × Pat} (hr : Lays m rec) (low : Nat) (endless : Bool) (n : Nat) : ∀ (d : Nat) (all : Span) (p : Pat), PatOk p → SpanOk p all → p.size + m * d ≤ 49 →
    PatOk (copies rec low endless n d all p).2 ∧ SpanOk (copies rec low endless n d all p).2 (copies rec low endless n d all p).1 ∧ (copies rec low endless n d all p).2.size = p.size + m * d
  | 0, all, p, h, ha, hs => ⟨h, ha, by simp [copies]⟩
  | d + 1, all, p, h, ha, hs => by
    have e : m * (d + 1) = m + m * d := by rw [Nat.mul_succ]; omega
    obtain ⟨h1, h2, h3⟩ := hr p h (by omega)
    unfold copies
    simp only
    have key : ∀ q : Pat, PatOk q → q.size = (rec p).2.size → ∀ one : Span, SpanOk q one →
        PatOk (copies rec low endless n d (join all one q).1 (join all one q).2).2 ∧ SpanOk (copies rec low endless n d (join all one q).1 (join all one q).2).2 (copies rec low endless n d (join all one q).1 (join all one q).2).1 ∧
        (copies rec low endless n d (join all one q).1 (join all one q).2).2.size = p.size + m * (d + 1) := by
      intro q hq hqs one ho
      obtain ⟨j1, j2, j3⟩ := join_ok hq (ha.mono (by omega)) ho
      obtain ⟨g1, g2, g3⟩ := copies_ok hr low endless n d _ _ j1 j2 (by omega)
      exact ⟨g1, g2, by omega⟩
    refine key _ ?_ ?_ _ ?_
    · split
      · exact link_ok _ _ h1 h2.2
      · exact h1
    · split
      · rfl
      · rfl
    · split
      · exact h2
      · exact h2
theorem lay_ok {ps : List Part} (hps : PartsOk ps) : ∀ (f n : Nat), n < f → n < ps.length → Lays (at_ ps n).places (lay ps f n)
  | 0, _, h, _ => by omega
  | f + 1, n, hf, hn => by
    intro p h hs
    obtain ⟨k, e⟩ := hps.get n hn
    unfold lay
    by_cases h0 : (at_ ps n).places = 0
    · rw [if_pos h0]
      have hp : 0 < 2 ^ p.size := Nat.pow_pos (by decide)
      exact ⟨h, ⟨hp, hp⟩, by rw [h0]; rfl⟩
    rw [if_neg h0]
    have hz : ¬ (at_ ps n).kind = 0 := fun e => h0 (k.zero e)
    have hpl : (at_ ps n).places ≤ 48 := by have := h.pos; omega
    by_cases h2 : (at_ ps n).kind = 2
    · rw [if_pos h2]
      have ep : (at_ ps n).places = (at_ ps (at_ ps n).left).places + (at_ ps (at_ ps n).right).places := by
        have e2 := congrArg Part.places e
        simp only [fill, known, cut, h2] at e2
        simp at e2
        split at e2
        · omega
        · split at e2 <;> omega
      have hl := k.left (by omega)
      have hr := k.right (.inl h2)
      obtain ⟨a1, a2, a3⟩ := lay_ok hps f (at_ ps n).left (by omega) (by omega) p h (by omega)
      obtain ⟨b1, b2, b3⟩ := lay_ok hps f (at_ ps n).right (by omega) (by omega) _ a1 (by omega)
      obtain ⟨j1, j2, j3⟩ := join_ok b1 (a2.mono (by omega)) b2
      exact ⟨j1, j2, by omega⟩
    rw [if_neg h2]
    by_cases h3 : (at_ ps n).kind = 3
    · rw [if_pos h3]
      have ep : (at_ ps n).places = (at_ ps (at_ ps n).left).places + (at_ ps (at_ ps n).right).places := by
        have e2 := congrArg Part.places e
        simp only [fill, known, cut, h3] at e2
        simp at e2
        split at e2
        · omega
        · split at e2 <;> omega
      have hl := k.left (by omega)
      have hr := k.right (.inr h3)
      obtain ⟨a1, a2, a3⟩ := lay_ok hps f (at_ ps n).left (by omega) (by omega) p h (by omega)
      obtain ⟨b1, b2, b3⟩ := lay_ok hps f (at_ ps n).right (by omega) (by omega) _ a1 (by omega)
      exact ⟨b1, either_ok (SpanOk.mono a2 (by show (lay ps f (at_ ps n).left p).2.size ≤ (lay ps f (at_ ps n).right (lay ps f (at_ ps n).left p).2).2.size; omega)) b2, by show (lay ps f (at_ ps n).right (lay ps f (at_ ps n).left p).2).2.size = _; omega⟩
    rw [if_neg h3]
    by_cases h4 : (at_ ps n).kind = 4
    · rw [if_pos h4]
      have ep : (at_ ps n).places = (at_ ps (at_ ps n).left).places * (at_ ps n).copies := by
        have e2 := congrArg Part.places e
        simp only [fill, known, cut, h4] at e2
        simp at e2
        split at e2
        · omega
        · split at e2 <;> omega
      have hl := k.left (by omega)
      have hp : 0 < 2 ^ p.size := Nat.pow_pos (by decide)
      have := copies_ok (lay_ok hps f (at_ ps n).left (by omega) (by omega)) (at_ ps n).low (at_ ps n).endless (at_ ps n).copies (at_ ps n).copies ⟨0, 0, true⟩ p h ⟨hp, hp⟩ (by omega)
      rw [← ep] at this
      exact this
    rw [if_neg h4]
    have hk := k.kind
    have h1 : (at_ ps n).kind = 1 := by omega
    have ep : (at_ ps n).places = 1 := by
      have e2 := congrArg Part.places e
      simp only [fill, known, cut, h1] at e2
      simp at e2
      split at e2
      · omega
      · omega
    rw [ep]
    exact layByte_ok _ h (by omega)
theorem pat0_ok : PatOk pat0 := by
  refine ⟨by simp [pat0], by simp [pat0], List.length_replicate, List.length_replicate, fun i => ?_, fun i => ?_, by simp [pat0]⟩
  · simp only [pat0]
    rw [List.getD_eq_getElem?_getD, List.getElem?_replicate]
    split <;> simp
  · simp only [pat0]
    rw [List.getD_eq_getElem?_getD, List.getElem?_replicate]
    split <;> simp
theorem newPattern_ok {ps : List Part} (hps : PartsOk ps) (top : Nat) (ht : top < ps.length) (hp : (at_ ps top).places ≤ 48) : PatOk (newPattern ps top) ∧ (newPattern ps top).size = (at_ ps top).places + 1 := by
  obtain ⟨a1, a2, a3⟩ := lay_ok hps (top + 1) top (by omega) ht pat0 pat0_ok (by simp [pat0]; omega)
  refine ⟨⟨a1.size, a1.pos, by simp only [newPattern]; rw [List.length_set]; exact a1.alen, a1.tlen, fun i => ?_, a1.t, a2.1⟩, by simp only [newPattern]; rw [a3]; simp [pat0]; omega⟩
  simp only [newPattern]
  rw [List.getD_eq_getElem?_getD, List.getElem?_set]
  split
  · split
    · exact a2.2
    · exact Nat.pow_pos (by decide)
  · rw [← List.getD_eq_getElem?_getD]; exact a1.a i

/-- the places ahead, of the first k -/
def aheadTo (p : Pat) (s : Nat) : Nat → Nat
  | 0 => 0
  | k + 1 => if s.testBit k = true then aheadTo p s k ||| p.ahead.getD k 0 else aheadTo p s k
def aheadOf (p : Pat) (s c : Nat) : Nat := aheadTo p s p.size &&& p.takes.getD c 0
theorem aheadTo_lt {p : Pat} (h : PatOk p) (s : Nat) : ∀ k, aheadTo p s k < 2 ^ p.size
  | 0 => Nat.pow_pos (by decide)
  | k + 1 => by
    unfold aheadTo
    split
    · exact Nat.or_lt_two_pow (aheadTo_lt h s k) (h.a k)
    · exact aheadTo_lt h s k
theorem aheadOf_lt {p : Pat} (h : PatOk p) (s c : Nat) : aheadOf p s c < 2 ^ p.size := Nat.and_lt_two_pow _ (h.t c)
theorem lt64 {p : Pat} (h : PatOk p) {x : Nat} (hx : x < 2 ^ p.size) : x < 2 ^ 49 := Nat.lt_of_lt_of_le hx (pow_le h.size)
end Go.Proofs.Ytjmkkkfloalliab.Q

namespace Go.Proofs.Ytjmkkkfloalliab.Q
set_option linter.unusedVariables false
variable {s : List UInt8}

/-- how many parts there can be -/
def phi (s : List UInt8) (σ : Rd) : Nat := σ.parts.length + 4 * left s σ
theorem phi_add (p : Part) (σ : Rd) : phi s (add p σ).2 = phi s σ + 1 := by
  have := add_left (s := s) p σ
  unfold phi
  rw [this]
  simp [add]
  omega
theorem phi_on {σ τ : Rd} (h : On s σ τ) (hp : τ.parts = σ.parts) : phi s τ ≤ phi s σ := by
  have := h.left
  unfold phi
  rw [hp]
  omega
theorem phi_fwd {σ : Rd} (h : next s σ ≠ -1) : phi s (fwd σ) + 4 ≤ phi s σ := by
  have := fwd_left h
  unfold phi
  rw [fwd_parts]
  omega
def Job.cost : Job → Nat
  | .inl () => 4
  | .inr (.inl _) => 3
  | .inr (.inr (.inl ())) => 4
  | .inr (.inr (.inr (.inl _))) => 3
  | .inr (.inr (.inr (.inr (.inl ())))) => 0
  | .inr (.inr (.inr (.inr (.inr (.inl _))))) => 3
  | .inr (.inr (.inr (.inr (.inr (.inr ()))))) => 0
def Job.needs (s : List UInt8) (σ : Rd) : Job → Prop
  | .inl () => True
  | .inr (.inl _) => True
  | .inr (.inr (.inl ())) => True
  | .inr (.inr (.inr (.inl _))) => True
  | .inr (.inr (.inr (.inr (.inl ())))) => next s σ ≠ -1
  | .inr (.inr (.inr (.inr (.inr (.inl _))))) => True
  | .inr (.inr (.inr (.inr (.inr (.inr ()))))) => next s σ ≠ -1
theorem phi_leaf {σ : Rd} (hn : next s σ ≠ -1) : phi s (leaf s σ).2 + 4 ≤ phi s σ := by
  have := leaf_adv σ hn
  unfold phi
  rw [leaf_parts]
  omega
theorem go_phi : ∀ (f : Nat) (j : Job) (σ : Rd), 8 * left s σ + j.rank ≤ f → PartsOk σ.parts → j.ok σ → j.needs s σ → phi s (go s f j σ).2 + 3 ≤ phi s σ + j.cost
  | 0, j, _, h, _, _, _ => by have := Job.rank_pos j; omega
  | f + 1, .inl (), σ, h, hp, _, _ => by
    simp only [Job.rank] at h
    have g1 := (go_good (s := s) f .seq σ (by simp only [Job.rank]; omega) hp trivial).1
    have hl := g1.on.left
    have e1 := go_phi f .seq σ (by simp only [Job.rank]; omega) hp trivial trivial
    have e2 := go_phi f (.altL (go s f .seq σ).1) (go s f .seq σ).2 (by simp only [Job.rank]; omega) g1.ok g1.lt trivial
    simp only [Job.cost] at e1 e2 ⊢
    unfold go
    omega
  | f + 1, .inr (.inl n), σ, h, hp, hn, _ => by
    simp only [Job.rank] at h
    unfold go
    split
    · next h2 =>
      have hne : next s σ ≠ -1 := by rw [h2]; decide
      have hl := fwd_left hne
      have hf := phi_fwd hne
      have g1 := (go_good (s := s) f .seq (fwd σ) (by simp only [Job.rank]; omega) hp trivial).1
      have e1 := go_phi f .seq (fwd σ) (by simp only [Job.rank]; omega) hp trivial trivial
      have hn2 : n < (go s f .seq (fwd σ)).2.parts.length := Nat.lt_of_lt_of_le hn g1.len
      have g2 : Good (s := s) _ (add (mk 3 n (go s f .seq (fwd σ)).1) (go s f .seq (fwd σ)).2) := good_add g1.ok (mk_ok _ _ _ _ (by omega) (fun _ => hn2) (fun _ => g1.lt))
      have h3 := (g1.on.trans g2.on).left
      have e2 := phi_add (s := s) (mk 3 n (go s f .seq (fwd σ)).1) (go s f .seq (fwd σ)).2
      have e3 := go_phi f (.altL (add (mk 3 n (go s f .seq (fwd σ)).1) (go s f .seq (fwd σ)).2).1) _ (by simp only [Job.rank]; omega) g2.ok g2.lt trivial
      simp only [Job.cost] at e1 e3 ⊢
      omega
    · simp only [Job.cost]; omega
  | f + 1, .inr (.inr (.inl ())), σ, h, hp, _, _ => by
    simp only [Job.rank] at h
    unfold go
    have g2 : Good (s := s) σ (add (mk 0 0 0) σ) := good_add hp (mk_ok _ _ _ _ (by omega) (fun h => by omega) (fun h => by omega))
    have h3 := add_left (s := s) (mk 0 0 0) σ
    have e2 := phi_add (s := s) (mk 0 0 0) σ
    have e3 := go_phi f (.seqL (add (mk 0 0 0) σ).1) _ (by simp only [Job.rank]; omega) g2.ok g2.lt trivial
    simp only [Job.cost] at e3 ⊢
    omega
  | f + 1, .inr (.inr (.inr (.inl n))), σ, h, hp, hn, _ => by
    simp only [Job.rank] at h
    unfold go
    split
    · simp only [Job.cost]; omega
    · next h2 =>
      have hne : next s σ ≠ -1 := by intro e; rw [e] at h2; exact h2 rfl
      obtain ⟨g1, a1⟩ := go_good (s := s) f .rep σ (by simp only [Job.rank]; omega) hp trivial
      have hl := a1 hne
      have e1 := go_phi f .rep σ (by simp only [Job.rank]; omega) hp trivial hne
      have hn2 : n < (go s f .rep σ).2.parts.length := Nat.lt_of_lt_of_le hn g1.len
      have g2 : Good (s := s) _ (add (mk 2 n (go s f .rep σ).1) (go s f .rep σ).2) := good_add g1.ok (mk_ok _ _ _ _ (by omega) (fun _ => hn2) (fun _ => g1.lt))
      have h3 := g2.on.left
      have e2 := phi_add (s := s) (mk 2 n (go s f .rep σ).1) (go s f .rep σ).2
      have e3 := go_phi f (.seqL (add (mk 2 n (go s f .rep σ).1) (go s f .rep σ).2).1) _ (by simp only [Job.rank]; omega) g2.ok g2.lt trivial
      simp only [Job.cost] at e1 e3 ⊢
      omega
  | f + 1, .inr (.inr (.inr (.inr (.inl ())))), σ, h, hp, _, hne => by
    simp only [Job.rank] at h
    obtain ⟨g1, a1⟩ := go_good (s := s) f .term σ (by simp only [Job.rank]; omega) hp trivial
    have hl := g1.on.left
    have e1 := go_phi f .term σ (by simp only [Job.rank]; omega) hp trivial hne
    have e2 := go_phi f (.repL (go s f .term σ).1) (go s f .term σ).2 (by simp only [Job.rank]; omega) g1.ok g1.lt trivial
    simp only [Job.cost] at e1 e2 ⊢
    unfold go
    omega
  | f + 1, .inr (.inr (.inr (.inr (.inr (.inl n))))), σ, h, hp, hn, _ => by
    simp only [Job.rank] at h
    unfold go
    split
    · next h2 =>
      obtain ⟨o1, hne⟩ := repPart_on n σ h2
      have hl := fwd_left hne
      have hf := phi_fwd hne
      have hpp : (repPart s n σ).2.parts = σ.parts := repPart_parts n σ
      have hq := phi_on o1 (by rw [hpp, fwd_parts])
      have g2 : Good (s := s) _ (add (repPart s n σ).1 (repPart s n σ).2) := good_add (by rw [hpp]; exact hp) (repPart_ok _ _ _ (by rw [hpp]; exact hn))
      have h3 := (o1.trans g2.on).left
      have e2 := phi_add (s := s) (repPart s n σ).1 (repPart s n σ).2
      have e3 := go_phi f (.repL (add (repPart s n σ).1 (repPart s n σ).2).1) _ (by simp only [Job.rank]; omega) g2.ok g2.lt trivial
      simp only [Job.cost] at e3 ⊢
      omega
    · simp only [Job.cost]; omega
  | f + 1, .inr (.inr (.inr (.inr (.inr (.inr ()))))), σ, h, hp, _, hne => by
    simp only [Job.rank] at h
    unfold go
    split
    · next h2 =>
      have hl := opened_left hne
      have ho : phi s (opened σ) + 4 ≤ phi s σ := by
        unfold phi
        show σ.parts.length + _ + 4 ≤ _
        omega
      have g1 := (go_good (s := s) f .alt (opened σ) (by simp only [Job.rank]; omega) hp trivial).1
      have e1 := go_phi f .alt (opened σ) (by simp only [Job.rank]; omega) hp trivial trivial
      have e2 := phi_on (closed_on (s := s) (go s f .alt (opened σ)).2) (closed_parts _)
      simp only [Job.cost] at e1 ⊢
      omega
    · have e1 := phi_leaf hne
      have e2 := phi_add (s := s) (leaf s σ).1 (leaf s σ).2
      simp only [Job.cost]
      omega
end Go.Proofs.Ytjmkkkfloalliab.Q

namespace Go.Proofs.Ytjmkkkfloalliab.Q
set_option linter.unusedVariables false
open M (LF sl)

structure St where
  low : Nat
  high : Nat
  places : Nat
  twin : Nat
structure Wk where
  list : List St
  newest : List Nat
def st0 : St := ⟨0, 0, 0, 0⟩
def stAt (l : List St) (k : Nat) : St := l.getD k st0

/-- is it among those that begin at the same row? -/
def hasF (l : List St) (s : St) : Nat → Nat → Bool
  | 0, _ => false
  | f + 1, k => if k = 0 then false else if (stAt l (k - 1)).high = s.high ∧ (stAt l (k - 1)).places = s.places then true else hasF l s f (stAt l (k - 1)).twin
def has (w : Wk) (s : St) : Bool := hasF w.list s (w.newest.getD s.low 0 + 1) (w.newest.getD s.low 0)
def put (w : Wk) (s : St) : Wk := ⟨w.list ++ [{ s with twin := w.newest.getD s.low 0 }], w.newest.set s.low (w.list.length + 1)⟩
def addS (memo : Bool) (w : Wk) (s : St) : Wk := if memo = true ∧ has w s = true then w else put w s

/-- how often byte c stands in a from i to before k -/
def cntIn (a : List UInt8) (i k : Nat) (c : UInt8) : Nat := ((a.take k).drop i).countP (fun x => x == c)
variable (a : List UInt8) (h : Nat) (P : Pat) (memo : Bool)
/-- the step at slot k -/
def oneOn (s : St) (k : Nat) (w : Wk) : Wk :=
  if cntIn a (sl h s.low) k (a.getD k 0) = 0 ∧ aheadOf P s.places (a.getD k 0).toNat ≠ 0 then
    addS memo w ⟨LF a k, LF a k + cntIn a (sl h s.low) (sl h s.high) (a.getD k 0), aheadOf P s.places (a.getD k 0).toNat, 0⟩
  else w
/-- the first d slots -/
def goTo (s : St) (w : Wk) : Nat → Wk
  | 0 => w
  | d + 1 => oneOn a h P memo s (sl h s.low + d) (goTo s w d)
def goOn (s : St) (w : Wk) : Wk := goTo a h P memo s w (sl h s.high - sl h s.low)
def run (budget : Nat) : Nat → Nat → Wk → Wk
  | 0, _, w => w
  | f + 1, k, w => if k < w.list.length ∧ w.list.length ≤ budget then run budget f (k + 1) (goOn a h P memo (stAt w.list k) w) else w
def wk0 : Wk := addS memo ⟨[], List.replicate (a.length + 1) 0⟩ ⟨0, a.length + 1, 1, 0⟩
def runAll (budget : Nat) : Wk := run a h P memo budget (budget + 1) 0 (wk0 a memo)

variable {a h P memo}
structure StOk (n : Nat) (s : St) : Prop where
  le : s.low ≤ s.high
  high : s.high ≤ n + 1
  places : s.places < 2 ^ 49
structure WkOk (n : Nat) (w : Wk) : Prop where
  len : w.newest.length = n + 1
  new : ∀ r, w.newest.getD r 0 ≤ w.list.length
  st : ∀ k, k < w.list.length → StOk n (stAt w.list k) ∧ (stAt w.list k).twin ≤ k
theorem stAt_app (l m : List St) (k : Nat) (hk : k < l.length) : stAt (l ++ m) k = stAt l k := by
  unfold stAt
  rw [List.getD_eq_getElem?_getD, List.getD_eq_getElem?_getD, List.getElem?_append_left hk]
theorem stAt_new (l : List St) (s : St) : stAt (l ++ [s]) l.length = s := by
  unfold stAt
  rw [List.getD_eq_getElem?_getD]
  simp
theorem put_ok {n : Nat} {w : Wk} {s : St} (h : WkOk n w) (hs : StOk n s) : WkOk n (put w s) := by
  refine ⟨by simp [put, h.len], fun r => ?_, fun k hk => ?_⟩
  · simp only [put, List.length_append, List.length_singleton]
    rw [List.getD_eq_getElem?_getD, List.getElem?_set]
    split
    · split <;> simp
    · have := h.new r
      rw [List.getD_eq_getElem?_getD] at this
      omega
  · simp only [put, List.length_append, List.length_singleton] at hk ⊢
    rcases Nat.lt_or_ge k w.list.length with h1 | h1
    · rw [stAt_app _ _ _ h1]
      exact h.st k h1
    · have : k = w.list.length := by omega
      subst this
      rw [stAt_new]
      exact ⟨⟨hs.le, hs.high, hs.places⟩, h.new _⟩
theorem addS_ok {n : Nat} {w : Wk} {s : St} (memo : Bool) (h : WkOk n w) (hs : StOk n s) : WkOk n (addS memo w s) := by
  unfold addS
  split
  · exact h
  · exact put_ok h hs
theorem addS_len (memo : Bool) (w : Wk) (s : St) : w.list.length ≤ (addS memo w s).list.length ∧ (addS memo w s).list.length ≤ w.list.length + 1 := by
  unfold addS
  split
  · omega
  · simp [put]
theorem cntIn_le (a : List UInt8) (i k : Nat) (c : UInt8) : cntIn a i k c ≤ a.length := by
  unfold cntIn
  refine Nat.le_trans List.countP_le_length ?_
  simp
  omega
theorem cntIn_self (a : List UInt8) (i : Nat) (c : UInt8) : cntIn a i i c = 0 := by
  unfold cntIn
  rw [List.drop_of_length_le (by simp; omega)]
  rfl
theorem take_cnt (a : List UInt8) (i k : Nat) (hik : i ≤ k) (c : UInt8) : (a.take k).countP (fun x => x == c) = (a.take i).countP (fun x => x == c) + cntIn a i k c := by
  unfold cntIn
  conv => lhs; rw [← List.take_append_drop i (a.take k)]
  rw [List.countP_append, List.take_take, Nat.min_eq_left hik]
theorem cntIn_step (a : List UInt8) (i k : Nat) (hik : i ≤ k) (hk : k < a.length) (c : UInt8) : cntIn a i (k + 1) c = cntIn a i k c + if a.getD k 0 = c then 1 else 0 := by
  have h1 := take_cnt a i k hik c
  have h2 := take_cnt a i (k + 1) (by omega) c
  have h3 : (a.take (k + 1)).countP (fun x => x == c) = (a.take k).countP (fun x => x == c) + if a.getD k 0 = c then 1 else 0 := by
    rw [List.take_succ_eq_append_getElem hk, List.countP_append]
    have : a.getD k 0 = a[k] := by rw [List.getD_eq_getElem?_getD, List.getElem?_eq_getElem hk]; rfl
    rw [this]
    by_cases e : a[k] = c
    · simp [e]
    · simp [e]
  omega
/-- the rows that are gone on to are there -/
theorem LF_room (a : List UInt8) (i j k : Nat) (hik : i ≤ k) (hkj : k < j) (hj : j ≤ a.length) (h0 : cntIn a i k (a.getD k 0) = 0) : LF a k + cntIn a i j (a.getD k 0) ≤ a.length + 1 := by
  unfold LF
  have h1 := take_cnt a i k hik (a.getD k 0)
  have h2 := take_cnt a i j (by omega) (a.getD k 0)
  have h3 : (a.take j).countP (fun x => x == a.getD k 0) ≤ a.countP (fun x => x == a.getD k 0) := List.Sublist.countP_le (List.take_sublist _ _)
  have h4 : a.countP (fun c => c < a.getD k 0) + a.countP (fun x => x == a.getD k 0) ≤ a.length := by
    rw [← M.countP_or (fun c => decide (c < a.getD k 0)) (fun x => x == a.getD k 0) a (fun x _ hx => ?_)]
    · exact List.countP_le_length
    · simp only [decide_eq_true_eq] at hx
      rw [beq_eq_false_iff_ne]
      intro e
      subst e
      exact absurd hx (by simp)
  omega
theorem sl_le (h r n : Nat) (hh : h ≤ n) (hr : r ≤ n + 1) : sl h r ≤ n := by unfold sl; split <;> omega
theorem sl_mono (h r s : Nat) (hrs : r ≤ s) : sl h r ≤ sl h s := by unfold sl; split <;> split <;> omega
theorem oneOn_ok {w : Wk} {s : St} (hP : PatOk P) (hh : h ≤ a.length) (hw : WkOk a.length w) (hs : StOk a.length s) (k : Nat) (h1 : sl h s.low ≤ k) (h2 : k < sl h s.high) : WkOk a.length (oneOn a h P memo s k w) := by
  unfold oneOn
  split
  · next hc =>
    refine addS_ok memo hw ⟨by simp, ?_, lt64 hP (aheadOf_lt hP _ _)⟩
    exact LF_room a _ _ k h1 h2 (sl_le _ _ _ hh hs.high) hc.1
  · exact hw
theorem goTo_ok {w : Wk} {s : St} (hP : PatOk P) (hh : h ≤ a.length) (hw : WkOk a.length w) (hs : StOk a.length s) : ∀ d, sl h s.low + d ≤ sl h s.high → WkOk a.length (goTo a h P memo s w d)
  | 0, _ => hw
  | d + 1, hd => oneOn_ok hP hh (goTo_ok hP hh hw hs d (by omega)) hs _ (by omega) (by omega)
theorem goOn_ok {w : Wk} {s : St} (hP : PatOk P) (hh : h ≤ a.length) (hw : WkOk a.length w) (hs : StOk a.length s) : WkOk a.length (goOn a h P memo s w) :=
  goTo_ok hP hh hw hs _ (by have := sl_mono h s.low s.high hs.le; omega)
theorem oneOn_len (s : St) (k : Nat) (w : Wk) : w.list.length ≤ (oneOn a h P memo s k w).list.length ∧ (oneOn a h P memo s k w).list.length ≤ w.list.length + 1 := by
  unfold oneOn
  split
  · exact addS_len _ _ _
  · omega
theorem goTo_len (s : St) (w : Wk) : ∀ d, w.list.length ≤ (goTo a h P memo s w d).list.length ∧ (goTo a h P memo s w d).list.length ≤ w.list.length + d
  | 0 => by simp [goTo]
  | d + 1 => by
    have h1 := goTo_len s w d
    have h2 := oneOn_len (a := a) (h := h) (P := P) (memo := memo) s (sl h s.low + d) (goTo a h P memo s w d)
    simp only [goTo]
    omega
theorem run_ok (hP : PatOk P) (hh : h ≤ a.length) (budget : Nat) : ∀ (f k : Nat) (w : Wk), WkOk a.length w → WkOk a.length (run a h P memo budget f k w)
  | 0, _, _, hw => hw
  | f + 1, k, w, hw => by
    unfold run
    split
    · next hc => exact run_ok hP hh budget f _ _ (goOn_ok hP hh hw (hw.st k hc.1).1)
    · exact hw
theorem wk0_ok (hp : True) : WkOk a.length (wk0 a memo) := by
  refine addS_ok memo ⟨List.length_replicate, fun r => ?_, fun k hk => by simp at hk⟩ ⟨by simp, by simp, by show 1 < 2 ^ 49; decide⟩
  rw [List.getD_eq_getElem?_getD, List.getElem?_replicate]
  split <;> simp

/-- the rows that are marked behind the first k stretches -/
def mark (P : Pat) (l : List St) : Nat → Nat → Bool
  | 0, _ => false
  | k + 1, r => mark P l k r || ((stAt l k).places &&& P.begins != 0 && (decide ((stAt l k).low ≤ r) && decide (r < (stAt l k).high)))
def marks (P : Pat) (l : List St) (n k : Nat) : List Bool := (List.range (n + 1)).map (mark P l k)
/-- the places of the marked rows, among the first k -/
def placed (m : List Bool) (rows : List Nat) (k : Nat) : List Nat := (List.range k).filter fun p => m.getD (rows.getD p 0) false
end Go.Proofs.Ytjmkkkfloalliab.Q

namespace Go.Proofs.Ytjmkkkfloalliab.M
set_option linter.unusedVariables false

/-- does x begin with u? -/
def pre : List UInt8 → List UInt8 → Bool
  | [], _ => true
  | _ :: _, [] => false
  | c :: u, d :: x => c == d && pre u x
theorem pre_nil (x : List UInt8) : pre [] x = true := by cases x <;> rfl
theorem pre_self : ∀ u : List UInt8, pre u u = true
  | [] => rfl
  | c :: u => by simp [pre, pre_self u]
theorem pre_app : ∀ u x : List UInt8, pre u (u ++ x) = true
  | [], x => pre_nil x
  | c :: u, x => by simp [pre, pre_app u x]
theorem pre_iff : ∀ u x : List UInt8, pre u x = true ↔ ∃ y, x = u ++ y
  | [], x => by simp [pre_nil]
  | c :: u, [] => by simp [pre]
  | c :: u, d :: x => by
    simp only [pre, Bool.and_eq_true, beq_iff_eq, pre_iff u x, List.cons_append, List.cons.injEq]
    constructor
    · rintro ⟨rfl, y, rfl⟩
      exact ⟨y, rfl, rfl⟩
    · rintro ⟨y, rfl, rfl⟩
      exact ⟨rfl, y, rfl⟩
theorem pre_not_lt : ∀ u x : List UInt8, pre u x = true → blt x u = false
  | [], x, _ => blt_nil x
  | c :: u, [], h => by simp [pre] at h
  | c :: u, d :: x, h => by
    simp only [pre, Bool.and_eq_true, beq_iff_eq] at h
    obtain ⟨rfl, h⟩ := h
    simp [blt, pre_not_lt u x h]
theorem lt_pre : ∀ u x y : List UInt8, pre u x = true → blt y u = true → blt y x = true
  | [], x, y, _, h => by simp [blt_nil] at h
  | c :: u, [], y, h, _ => by simp [pre] at h
  | c :: u, d :: x, [], h, _ => rfl
  | c :: u, d :: x, e :: y, h, g => by
    simp only [pre, Bool.and_eq_true, beq_iff_eq] at h
    obtain ⟨rfl, h⟩ := h
    simp only [blt, Bool.or_eq_true, Bool.and_eq_true, decide_eq_true_eq, beq_iff_eq] at g ⊢
    rcases g with g | ⟨rfl, g⟩
    · exact .inl g
    · exact .inr ⟨rfl, lt_pre u x y h g⟩
theorem pre_lt : ∀ u x y : List UInt8, pre u x = true → blt y x = true → blt y u = true ∨ pre u y = true
  | [], x, y, _, h => .inr (pre_nil y)
  | c :: u, [], y, h, _ => by simp [pre] at h
  | c :: u, d :: x, [], h, _ => .inl rfl
  | c :: u, d :: x, e :: y, h, g => by
    simp only [pre, Bool.and_eq_true, beq_iff_eq] at h
    obtain ⟨rfl, h⟩ := h
    simp only [pre, blt, Bool.or_eq_true, Bool.and_eq_true, decide_eq_true_eq, beq_iff_eq] at g ⊢
    rcases g with g | ⟨rfl, g⟩
    · exact .inl (.inl g)
    · rcases pre_lt u x y h g with k | k
      · exact .inl (.inr ⟨rfl, k⟩)
      · exact .inr ⟨rfl, k⟩
theorem not_pre_lt : ∀ u x y : List UInt8, pre u x = false → blt x u = false → pre u y = true → blt y x = true
  | [], x, y, h, _, _ => by simp [pre_nil] at h
  | c :: u, [], y, _, h, _ => by simp [blt] at h
  | c :: u, d :: x, [], _, _, h => by simp [pre] at h
  | c :: u, d :: x, e :: y, h, g, k => by
    simp only [pre, Bool.and_eq_true, beq_iff_eq] at k
    obtain ⟨rfl, k⟩ := k
    simp only [pre, blt, Bool.or_eq_false_iff, Bool.and_eq_false_iff, decide_eq_false_iff_not, beq_eq_false_iff_ne] at h g
    simp only [blt, Bool.or_eq_true, Bool.and_eq_true, decide_eq_true_eq, beq_iff_eq]
    by_cases e : c = d
    · subst e
      right
      refine ⟨rfl, not_pre_lt u x y ?_ ?_ k⟩
      · rcases h with h | h
        · exact absurd rfl h
        · exact h
      · rcases g.2 with g | g
        · exact absurd rfl g
        · exact g
    · left
      have h1 : ¬ d.toNat < c.toNat := by simpa [UInt8.lt_iff_toNat_lt] using g.1
      rw [UInt8.lt_iff_toNat_lt]
      have : c.toNat ≠ d.toNat := fun e2 => e (UInt8.toNat_inj.1 e2)
      omega

/-- how many suffixes stand ahead of u; how many begin with it -/
def lo (t u : List UInt8) : Nat := (List.range (t.length + 1)).countP (fun q => blt (t.drop q) u)
def num (t u : List UInt8) : Nat := (List.range (t.length + 1)).countP (fun q => pre u (t.drop q))
theorem lo_nil (t : List UInt8) : lo t [] = 0 := by
  unfold lo
  rw [List.countP_eq_zero]
  intro q _
  rw [blt_nil]; simp
theorem num_nil (t : List UInt8) : num t [] = t.length + 1 := by
  unfold num
  rw [show (fun q => pre [] (t.drop q)) = fun _ => true from funext fun q => pre_nil _, List.countP_true, List.length_range]
theorem lo_num (t u : List UInt8) : lo t u + num t u = (List.range (t.length + 1)).countP (fun q => blt (t.drop q) u || pre u (t.drop q)) := by
  unfold lo num
  rw [countP_or]
  intro q _ h
  cases e : pre u (t.drop q) with
  | false => rfl
  | true => rw [pre_not_lt _ _ e] at h; cases h
theorem hi_le (t u : List UInt8) : lo t u + num t u ≤ t.length + 1 := by
  rw [lo_num]
  refine Nat.le_trans List.countP_le_length ?_
  simp
theorem num_pos {t u : List UInt8} {p : Nat} (hp : p ≤ t.length) (h : pre u (t.drop p) = true) : 0 < num t u :=
  List.countP_pos_iff.2 ⟨p, List.mem_range.2 (by omega), h⟩
theorem pos_num {t u : List UInt8} (h : 0 < num t u) : ∃ p, p ≤ t.length ∧ pre u (t.drop p) = true := by
  obtain ⟨p, hp, h⟩ := List.countP_pos_iff.1 h
  exact ⟨p, by have := List.mem_range.1 hp; omega, h⟩
/-- the rows of u are those from lo to before lo + num -/
theorem in_rows (t u : List UInt8) (p : Nat) (hp : p ≤ t.length) : (lo t u ≤ row t p ∧ row t p < lo t u + num t u) ↔ pre u (t.drop p) = true := by
  constructor
  · intro ⟨h1, h2⟩
    cases e : pre u (t.drop p) with
    | true => rfl
    | false =>
      exfalso
      cases g : blt (t.drop p) u with
      | true =>
        have : row t p < lo t u := countP_lt_of _ _ _ (fun x _ hx => blt_trans _ _ _ hx g) ⟨p, List.mem_range.2 (by omega), g, blt_irrefl _⟩
        omega
      | false =>
        have hne : t.drop p ≠ u := fun k => by rw [k, pre_self] at e; cases e
        have hlt := blt_total _ _ hne g
        have : lo t u + num t u ≤ row t p := by
          rw [lo_num]
          refine countP_le_of _ _ _ (fun x _ hx => ?_)
          rw [Bool.or_eq_true] at hx
          rcases hx with hx | hx
          · exact blt_trans _ _ _ hx hlt
          · exact not_pre_lt _ _ _ e g hx
        omega
  · intro h
    refine ⟨countP_le_of _ _ _ (fun x _ hx => lt_pre _ _ _ h hx), ?_⟩
    rw [lo_num]
    refine countP_lt_of _ _ _ (fun x _ hx => ?_) ⟨p, List.mem_range.2 (by omega), by rw [h]; simp, blt_irrefl _⟩
    rw [Bool.or_eq_true]
    exact pre_lt _ _ _ h hx
theorem row_surj (t : List UInt8) (r : Nat) (hr : r ≤ t.length) : ∃ p, p ≤ t.length ∧ row t p = r := by
  have hp : ((List.range (t.length + 1)).map (row t)).Perm (List.range (t.length + 1)) := by
    refine perm_of _ _ ?_ ?_ (by simp)
    · rw [List.nodup_iff_pairwise_ne, List.pairwise_map]
      have := List.nodup_range (n := t.length + 1)
      rw [List.nodup_iff_pairwise_ne] at this
      exact this.imp_of_mem (fun {a b} ha hb hne e => hne (row_inj t a b (by have := List.mem_range.1 ha; omega) (by have := List.mem_range.1 hb; omega) e))
    · intro x hx
      obtain ⟨p, hp, rfl⟩ := List.mem_map.1 hx
      have := row_le t p (by have := List.mem_range.1 hp; omega)
      exact List.mem_range.2 (by omega)
  have := hp.symm.subset (List.mem_range.2 (show r < t.length + 1 by omega))
  obtain ⟨p, hp, e⟩ := List.mem_map.1 this
  exact ⟨p, by have := List.mem_range.1 hp; omega, e⟩
/-- the first row of a word that is there is a row of it -/
theorem row_lo {t u : List UInt8} (h : 0 < num t u) : ∃ p, p ≤ t.length ∧ row t p = lo t u ∧ pre u (t.drop p) = true := by
  have := hi_le t u
  obtain ⟨p, hp, e⟩ := row_surj t (lo t u) (by omega)
  exact ⟨p, hp, e, (in_rows t u p hp).1 (by omega)⟩
theorem row_hi {t u : List UInt8} (h : 0 < num t u) : ∃ p, p ≤ t.length ∧ row t p + 1 = lo t u + num t u ∧ pre u (t.drop p) = true := by
  have := hi_le t u
  obtain ⟨p, hp, e⟩ := row_surj t (lo t u + num t u - 1) (by omega)
  exact ⟨p, hp, by omega, (in_rows t u p hp).1 (by omega)⟩
/-- words that stand at the same places have the same rows -/
theorem same_rows {t u v : List UInt8} (hu : 0 < num t u) (h : ∀ p, p ≤ t.length → pre u (t.drop p) = pre v (t.drop p)) : lo t u = lo t v ∧ num t u = num t v := by
  have hn : num t u = num t v := countP_congr_of _ _ _ (fun q hq => h q (by have := List.mem_range.1 hq; omega))
  refine ⟨?_, hn⟩
  obtain ⟨p, hp, e, k⟩ := row_lo hu
  obtain ⟨q, hq, e2, k2⟩ := row_lo (t := t) (u := v) (by omega)
  have h1 := (in_rows t v p hp).2 (by rw [← h p hp]; exact k)
  have h2 := (in_rows t u q hq).2 (by rw [h q hq]; exact k2)
  omega
/-- and the other way round -/
theorem rows_same {t u v : List UInt8} (h1 : lo t u = lo t v) (h2 : num t u = num t v) (p : Nat) (hp : p ≤ t.length) : pre u (t.drop p) = pre v (t.drop p) := by
  rw [Bool.eq_iff_iff, ← in_rows t u p hp, ← in_rows t v p hp, h1, h2]
theorem drop_at (t : List UInt8) (q : Nat) (hq : q < t.length) : t.drop q = t.getD q 0 :: t.drop (q + 1) := by
  rw [List.drop_eq_getElem_cons hq]
  simp [List.getElem?_eq_getElem hq]
theorem pre_at (t u : List UInt8) (c : UInt8) (p : Nat) (hp : p ≤ t.length) : pre (c :: u) (t.drop p) = true ↔ p < t.length ∧ t.getD p 0 = c ∧ pre u (t.drop (p + 1)) = true := by
  rcases Nat.lt_or_ge p t.length with h | h
  · rw [drop_at t p h]
    simp only [pre, Bool.and_eq_true, beq_iff_eq]
    constructor
    · rintro ⟨e, g⟩; exact ⟨h, e.symm, g⟩
    · rintro ⟨_, e, g⟩; exact ⟨e.symm, g⟩
  · rw [List.drop_of_length_le h]
    simp only [pre]
    constructor
    · intro e; cases e
    · rintro ⟨e, _⟩; omega
theorem same_longer {t u v : List UInt8} (c : UInt8) (h1 : lo t u = lo t v) (h2 : num t u = num t v) (h : 0 < num t (c :: u)) : lo t (c :: u) = lo t (c :: v) ∧ num t (c :: u) = num t (c :: v) := by
  refine same_rows h (fun p hp => ?_)
  rw [Bool.eq_iff_iff, pre_at t u c p hp, pre_at t v c p hp]
  constructor
  · rintro ⟨a, b, d⟩
    exact ⟨a, b, by rw [← rows_same h1 h2 (p + 1) (by omega)]; exact d⟩
  · rintro ⟨a, b, d⟩
    exact ⟨a, b, by rw [rows_same h1 h2 (p + 1) (by omega)]; exact d⟩
theorem num_tail {t u : List UInt8} {c : UInt8} (h : 0 < num t (c :: u)) : 0 < num t u := by
  obtain ⟨p, hp, g⟩ := pos_num h
  obtain ⟨g1, _, g2⟩ := (pre_at t u c p hp).1 g
  exact num_pos (p := p + 1) (by omega) g2

/-! slots -/
theorem sl_le_iff (h l r : Nat) (hr : r ≠ h) : sl h l ≤ sl h r ↔ l ≤ r := by unfold sl; split <;> split <;> omega
theorem sl_lt_iff' (h l r : Nat) (hr : r ≠ h) : sl h r < sl h l ↔ r < l := by
  have := sl_le_iff h l r hr
  omega
theorem sig_surj (t : List UInt8) (k : Nat) (hk : k < t.length) : ∃ i, i < t.length ∧ sig t i = k := by
  have := (sig_perm t).symm.subset (List.mem_range.2 hk)
  obtain ⟨p, hp, e⟩ := List.mem_map.1 this
  exact ⟨p, List.mem_range.1 hp, e⟩
theorem sig_in (t u : List UInt8) (i : Nat) (hi : i < t.length) : (sl (row t 0) (lo t u) ≤ sig t i ∧ sig t i < sl (row t 0) (lo t u + num t u)) ↔ pre u (t.drop (i + 1)) = true := by
  unfold sig
  rw [sl_le_iff _ _ _ (row_ne_whole t i hi), sl_lt_iff' _ _ _ (row_ne_whole t i hi)]
  exact in_rows t u (i + 1) (by omega)
theorem cntIn_eq (a : List UInt8) (i k : Nat) (c : UInt8) (hik : i ≤ k) (hk : k ≤ a.length) : Q.cntIn a i k c = (List.range a.length).countP (fun j => a.getD j 0 == c && (decide (i ≤ j) && decide (j < k))) := by
  have h1 := Q.take_cnt a i k hik c
  rw [countP_getD _ a k hk, countP_getD _ a i (by omega), ← countP_range_le _ a.length k hk, ← countP_range_le _ a.length i (by omega)] at h1
  have h2 : (List.range a.length).countP (fun j => (a.getD j 0 == c && decide (j < i)) || (a.getD j 0 == c && (decide (i ≤ j) && decide (j < k)))) = (List.range a.length).countP (fun j => a.getD j 0 == c && decide (j < k)) := by
    refine countP_congr_of _ _ _ (fun x _ => ?_)
    cases a.getD x 0 == c with
    | false => rfl
    | true =>
      simp only [Bool.true_and]
      rw [Bool.eq_iff_iff]
      simp
      omega
  rw [countP_or] at h2
  · omega
  · intro x _ hx
    simp only [Bool.and_eq_true, decide_eq_true_eq] at hx
    have : decide (i ≤ x) = false := by simp; omega
    rw [this]
    simp
/-- how often a byte stands ahead of a word -/
theorem cnt_num (t u : List UInt8) (c : UInt8) : Q.cntIn (ahead t) (sl (row t 0) (lo t u)) (sl (row t 0) (lo t u + num t u)) c = num t (c :: u) := by
  have hh := row_le t 0 (by omega)
  have hl := hi_le t u
  rw [cntIn_eq _ _ _ _ (Q.sl_mono _ _ _ (by omega)) (by rw [ahead_length]; exact Q.sl_le _ _ _ hh hl), ahead_length, ← (sig_perm t).countP_eq, List.countP_map]
  have e : num t (c :: u) = (List.range t.length).countP (fun q => pre (c :: u) (t.drop q)) := by
    unfold num
    rw [List.range_succ, List.countP_append, List.countP_singleton, List.drop_length]
    simp [pre]
  rw [e]
  refine countP_congr_of _ _ _ (fun q hq => ?_)
  have hq' : q < t.length := List.mem_range.1 hq
  show (((ahead t).getD (sig t q) 0 == c) && (decide (sl (row t 0) (lo t u) ≤ sig t q) && decide (sig t q < sl (row t 0) (lo t u + num t u)))) = _
  rw [ahead_at t q hq', Bool.eq_iff_iff, pre_at t u c q (by omega), ← sig_in t u q hq']
  simp only [Bool.and_eq_true, beq_iff_eq, decide_eq_true_eq]
  constructor
  · rintro ⟨a, b, d⟩; exact ⟨hq', a, b, d⟩
  · rintro ⟨_, a, b, d⟩; exact ⟨a, b, d⟩
/-- the byte in a slot of u stands ahead of u -/
theorem slot_num (t u : List UInt8) (k : Nat) (h1 : sl (row t 0) (lo t u) ≤ k) (h2 : k < sl (row t 0) (lo t u + num t u)) : 0 < num t ((ahead t).getD k 0 :: u) := by
  have hk : k < t.length := Nat.lt_of_lt_of_le h2 (Q.sl_le _ _ _ (row_le t 0 (by omega)) (hi_le t u))
  obtain ⟨i, hi, rfl⟩ := sig_surj t k hk
  rw [ahead_at t i hi]
  exact num_pos (p := i) (by omega) ((pre_at t u _ i (by omega)).2 ⟨hi, rfl, (sig_in t u i hi).1 ⟨h1, h2⟩⟩)
theorem num_slot (t u : List UInt8) (c : UInt8) (h : 0 < num t (c :: u)) : ∃ k, sl (row t 0) (lo t u) ≤ k ∧ k < sl (row t 0) (lo t u + num t u) ∧ (ahead t).getD k 0 = c := by
  obtain ⟨p, hp, g⟩ := pos_num h
  obtain ⟨g1, g2, g3⟩ := (pre_at t u c p hp).1 g
  have := (sig_in t u p g1).2 g3
  exact ⟨sig t p, this.1, this.2, by rw [ahead_at t p g1]; exact g2⟩
/-- the first slot of a byte leads to the longer word's first row -/
theorem LF_lo (t u : List UInt8) (k : Nat) (h1 : sl (row t 0) (lo t u) ≤ k) (h2 : k < sl (row t 0) (lo t u + num t u)) (h0 : Q.cntIn (ahead t) (sl (row t 0) (lo t u)) k ((ahead t).getD k 0) = 0) :
    LF (ahead t) k = lo t ((ahead t).getD k 0 :: u) := by
  have hpos := slot_num t u k h1 h2
  have hk : k < t.length := Nat.lt_of_lt_of_le h2 (Q.sl_le _ _ _ (row_le t 0 (by omega)) (hi_le t u))
  obtain ⟨i, hi, rfl⟩ := sig_surj t k hk
  rw [LF_row t i hi]
  rw [ahead_at t i hi] at hpos h0 ⊢
  have hpre : pre (t.getD i 0 :: u) (t.drop i) = true := (pre_at t u _ i (by omega)).2 ⟨hi, rfl, (sig_in t u i hi).1 ⟨h1, h2⟩⟩
  have hin := (in_rows t _ i (by omega)).2 hpre
  obtain ⟨p, hp, e, g⟩ := row_lo hpos
  obtain ⟨g1, g2, g3⟩ := (pre_at t u _ p hp).1 g
  rcases Nat.lt_or_ge (row t p) (row t i) with hlt | hge
  · exfalso
    have hb := (row_lt_iff t p i hp (by omega)).1 hlt
    rw [drop_at t p g1, drop_at t i hi, g2, blt_cons] at hb
    simp only [Bool.or_eq_true, Bool.and_eq_true, decide_eq_true_eq, beq_iff_eq] at hb
    have hb2 : blt (t.drop (p + 1)) (t.drop (i + 1)) = true := by
      rcases hb with hb | hb
      · exact absurd hb (UInt8.lt_irrefl _)
      · exact hb.2
    have hr := (row_lt_iff t (p + 1) (i + 1) (by omega) (by omega)).2 hb2
    have hs : sig t p < sig t i := (sl_lt_iff _ _ _ (row_ne_whole t p g1) (row_ne_whole t i hi)).2 hr
    have hs2 := ((sig_in t u p g1).2 g3).1
    rw [cntIn_eq _ _ _ _ h1 (by rw [ahead_length]; omega), List.countP_eq_zero] at h0
    refine h0 (sig t p) (List.mem_range.2 (by rw [ahead_length]; omega)) ?_
    rw [ahead_at t p g1, g2]
    simp [hs, hs2]
  · omega
end Go.Proofs.Ytjmkkkfloalliab.M

namespace Go.Proofs.Ytjmkkkfloalliab.Q
set_option linter.unusedVariables false
open M (LF sl pre lo num row ahead)

/-- the places behind which u has been read, from the end -/
def pl (P : Pat) : List UInt8 → Nat
  | [] => 1
  | c :: u => aheadOf P (pl P u) c.toNat
theorem aheadTo_zero (P : Pat) : ∀ k, aheadTo P 0 k = 0
  | 0 => rfl
  | k + 1 => by simp [aheadTo, aheadTo_zero P k]
theorem pl_tail {P : Pat} {c : UInt8} {u : List UInt8} (h : pl P (c :: u) ≠ 0) : pl P u ≠ 0 := fun e => h (by
  show aheadOf P (pl P u) c.toNat = 0
  rw [e]
  unfold aheadOf
  rw [aheadTo_zero]
  simp)
variable (t : List UInt8) (P : Pat)
def Live (u : List UInt8) : Prop := 0 < num t u ∧ pl P u ≠ 0
theorem Live.tail {c : UInt8} {u : List UInt8} (h : Live t P (c :: u)) : Live t P u := ⟨M.num_tail h.1, pl_tail h.2⟩
def IsSt (s : St) (u : List UInt8) : Prop := s.low = lo t u ∧ s.high = lo t u + num t u ∧ s.places = pl P u
/-- the list, and where its chains lead -/
structure Chain (w : Wk) : Prop where
  new : ∀ r, w.newest.getD r 0 = 0 ∨ (w.newest.getD r 0 ≤ w.list.length ∧ (stAt w.list (w.newest.getD r 0 - 1)).low = r)
  twin : ∀ j, j < w.list.length → (stAt w.list j).twin = 0 ∨ ((stAt w.list j).twin ≤ j ∧ (stAt w.list ((stAt w.list j).twin - 1)).low = (stAt w.list j).low)
theorem Chain.put {w : Wk} (s : St) (h : Chain w) : Chain (Q.put w s) := by
  have key : ∀ j, j < w.list.length → stAt (Q.put w s).list j = stAt w.list j := fun j hj => stAt_app _ _ _ hj
  have hlen : (Q.put w s).list.length = w.list.length + 1 := by simp [Q.put]
  have hnew : stAt (Q.put w s).list w.list.length = { s with twin := w.newest.getD s.low 0 } := stAt_new _ _
  refine ⟨fun r => ?_, fun j hj => ?_⟩
  · show (w.newest.set s.low (w.list.length + 1)).getD r 0 = 0 ∨ _
    rw [show (Q.put w s).newest = w.newest.set s.low (w.list.length + 1) from rfl, hlen]
    rw [List.getD_eq_getElem?_getD, List.getElem?_set]
    split
    · next e =>
      split
      · right
        simp only [Option.getD_some, Nat.add_sub_cancel]
        rw [hnew]
        exact ⟨Nat.le_refl _, e⟩
      · left; rfl
    · rw [← List.getD_eq_getElem?_getD]
      rcases h.new r with g | ⟨g1, g2⟩
      · exact .inl g
      · by_cases hz : w.newest.getD r 0 = 0
        · exact .inl hz
        · right
          rw [key _ (by omega)]
          exact ⟨by omega, g2⟩
  · rw [hlen] at hj
    rcases Nat.lt_or_ge j w.list.length with g | g
    · rw [key j g]
      rcases h.twin j g with k | ⟨k1, k2⟩
      · exact .inl k
      · right
        rw [key _ (by omega)]
        exact ⟨k1, k2⟩
    · have : j = w.list.length := by omega
      subst this
      rw [hnew]
      rcases h.new s.low with k | ⟨k1, k2⟩
      · exact .inl k
      · by_cases hz : w.newest.getD s.low 0 = 0
        · exact .inl hz
        · right
          simp only
          rw [key _ (by omega)]
          exact ⟨k1, k2⟩
theorem hasF_some {w : Wk} (h : Chain w) (s : St) : ∀ (f k : Nat), k ≤ w.list.length → (k = 0 ∨ (stAt w.list (k - 1)).low = s.low) → hasF w.list s f k = true →
    ∃ j, j < w.list.length ∧ (stAt w.list j).low = s.low ∧ (stAt w.list j).high = s.high ∧ (stAt w.list j).places = s.places
  | 0, _, _, _, e => by simp [hasF] at e
  | f + 1, k, hk, hl, e => by
    unfold hasF at e
    by_cases hz : k = 0
    · rw [if_pos hz] at e; cases e
    · rw [if_neg hz] at e
      have hl2 : (stAt w.list (k - 1)).low = s.low := by
        rcases hl with hl | hl
        · exact absurd hl hz
        · exact hl
      split at e
      · next g => exact ⟨k - 1, by omega, hl2, g.1, g.2⟩
      · rcases h.twin (k - 1) (by omega) with g | ⟨g1, g2⟩
        · exact hasF_some h s f _ (by omega) (.inl g) e
        · exact hasF_some h s f _ (by omega) (.inr (by rw [g2, hl2])) e
theorem has_some {w : Wk} (h : Chain w) (s : St) (e : has w s = true) : ∃ j, j < w.list.length ∧ (stAt w.list j).low = s.low ∧ (stAt w.list j).high = s.high ∧ (stAt w.list j).places = s.places := by
  rcases h.new s.low with g | ⟨g1, g2⟩
  · exact hasF_some h s _ _ (by omega) (.inl g) e
  · exact hasF_some h s _ _ (by omega) (.inr g2) e

/-- where the walk is: f the words of the list; the first k are dealt with, and of the next those bytes that are seen -/
structure Inv (w : Wk) (f : Nat → List UInt8) (k : Nat) (seen : UInt8 → Prop) : Prop where
  st : ∀ j, j < w.list.length → IsSt t P (stAt w.list j) (f j) ∧ Live t P (f j)
  inj : ∀ i j, i < w.list.length → j < w.list.length → f i = f j → i = j
  from_ : ∀ j c u, j < w.list.length → f j = c :: u → ∃ i, i < w.list.length ∧ f i = u ∧ (i < k ∨ (i = k ∧ seen c))
  closed : ∀ i c, i < w.list.length → (i < k ∨ (i = k ∧ seen c)) → Live t P (c :: f i) → ∃ j, j < w.list.length ∧ IsSt t P (stAt w.list j) (c :: f i)
  top : ∃ j, j < w.list.length ∧ f j = []
  chain : Chain w
variable {t P}
theorem Inv.mono {w : Wk} {f : Nat → List UInt8} {k : Nat} {seen seen' : UInt8 → Prop} (h : Inv t P w f k seen) (h1 : ∀ c, seen c → seen' c) (h2 : ∀ c, seen' c → seen c ∨ ¬ Live t P (c :: f k) ∨ ∃ j, j < w.list.length ∧ IsSt t P (stAt w.list j) (c :: f k)) : Inv t P w f k seen' := by
  refine ⟨h.st, h.inj, fun j c u hj e => ?_, fun i c hi hc hl => ?_, h.top, h.chain⟩
  · obtain ⟨i, a, b, d⟩ := h.from_ j c u hj e
    refine ⟨i, a, b, ?_⟩
    rcases d with d | ⟨d1, d2⟩
    · exact .inl d
    · exact .inr ⟨d1, h1 c d2⟩
  · rcases hc with hc | ⟨rfl, hc⟩
    · exact h.closed i c hi (.inl hc) hl
    · rcases h2 c hc with g | g | g
      · exact h.closed i c hi (.inr ⟨rfl, g⟩) hl
      · exact absurd hl g
      · exact g
/-- a new word -/
theorem Inv.put {w : Wk} {f : Nat → List UInt8} {k : Nat} {seen : UInt8 → Prop} (h : Inv t P w f k seen) (hk : k < w.list.length) (c : UInt8) (hc : ¬ seen c) (hl : Live t P (c :: f k)) (s : St) (hs : IsSt t P s (c :: f k)) :
    Inv t P (Q.put w s) (fun j => if j = w.list.length then c :: f k else f j) k (fun d => seen d ∨ d = c) := by
  have key : ∀ j, j < w.list.length → stAt (Q.put w s).list j = stAt w.list j := fun j hj => stAt_app _ _ _ hj
  have hlen : (Q.put w s).list.length = w.list.length + 1 := by simp [Q.put]
  have hnew : stAt (Q.put w s).list w.list.length = { s with twin := w.newest.getD s.low 0 } := stAt_new _ _
  have hst : IsSt t P (stAt (Q.put w s).list w.list.length) (c :: f k) := by rw [hnew]; exact hs
  have hfk : (if k = w.list.length then c :: f k else f k) = f k := if_neg (by omega)
  have hout : ∀ j, j < w.list.length → f j ≠ c :: f k := fun j hj e => by
    obtain ⟨i, a, b, d⟩ := h.from_ j c (f k) hj e
    have := h.inj i k a hk b
    rcases d with d | ⟨_, d⟩
    · omega
    · exact hc d
  refine ⟨fun j hj => ?_, fun i j hi hj e => ?_, fun j d u hj e => ?_, fun i d hi hd hld => ?_, ?_, h.chain.put s⟩
  · rw [hlen] at hj
    rcases Nat.lt_or_ge j w.list.length with g | g
    · rw [key j g, if_neg (by omega)]
      exact h.st j g
    · have : j = w.list.length := by omega
      subst this
      rw [if_pos rfl]
      exact ⟨hst, hl⟩
  · rw [hlen] at hi hj
    by_cases h1 : i = w.list.length
    · by_cases h2 : j = w.list.length
      · omega
      · rw [if_pos h1, if_neg h2] at e
        exact absurd e.symm (hout j (by omega))
    · by_cases h2 : j = w.list.length
      · rw [if_neg h1, if_pos h2] at e
        exact absurd e (hout i (by omega))
      · rw [if_neg h1, if_neg h2] at e
        exact h.inj i j (by omega) (by omega) e
  · rw [hlen] at hj ⊢
    by_cases h1 : j = w.list.length
    · rw [if_pos h1] at e
      cases e
      exact ⟨k, by omega, hfk, .inr ⟨rfl, .inr rfl⟩⟩
    · rw [if_neg h1] at e
      obtain ⟨i, a, b, d⟩ := h.from_ j _ u (by omega) e
      refine ⟨i, by omega, by rw [if_neg (by omega)]; exact b, ?_⟩
      rcases d with d | ⟨d1, d2⟩
      · exact .inl d
      · exact .inr ⟨d1, .inl d2⟩
  · rw [hlen] at hi ⊢
    have hi2 : i < w.list.length := by rcases hd with g | ⟨g, _⟩ <;> omega
    simp only [if_neg (show ¬ i = w.list.length by omega)] at hld ⊢
    have old : (i < k ∨ (i = k ∧ seen d)) → ∃ j, j < w.list.length + 1 ∧ IsSt t P (stAt (Q.put w s).list j) (d :: f i) := fun g => by
      obtain ⟨j, a, b⟩ := h.closed i d hi2 g hld
      exact ⟨j, by omega, by rw [key j a]; exact b⟩
    rcases hd with g | ⟨g1, g2⟩
    · exact old (.inl g)
    · rcases g2 with g2 | g2
      · exact old (.inr ⟨g1, g2⟩)
      · subst g2; subst g1
        exact ⟨w.list.length, by omega, hst⟩
  · obtain ⟨j, a, b⟩ := h.top
    exact ⟨j, by omega, by rw [if_neg (by omega)]; exact b⟩

def seenTo (t u : List UInt8) (x : Nat) (c : UInt8) : Prop := ∃ k, sl (row t 0) (lo t u) ≤ k ∧ k < x ∧ (ahead t).getD k 0 = c
theorem cnt_seen (t u : List UInt8) (x : Nat) (c : UInt8) (h1 : sl (row t 0) (lo t u) ≤ x) (h2 : x ≤ t.length) : cntIn (ahead t) (sl (row t 0) (lo t u)) x c = 0 ↔ ¬ seenTo t u x c := by
  rw [M.cntIn_eq _ _ _ _ h1 (by rw [M.ahead_length]; exact h2), List.countP_eq_zero]
  constructor
  · rintro h ⟨k, a, b, d⟩
    refine h k (List.mem_range.2 (by rw [M.ahead_length]; omega)) ?_
    rw [d]; simp [a, b]
  · intro h k _ e
    simp only [Bool.and_eq_true, beq_iff_eq, decide_eq_true_eq] at e
    exact h ⟨k, e.2.1, e.2.2, e.1⟩
/-- a slot -/
theorem Inv.one {w : Wk} {f : Nat → List UInt8} {k : Nat} (memo : Bool) (s : St) (x : Nat) (h : Inv t P w f k (seenTo t (f k) x)) (hk : k < w.list.length) (hs : IsSt t P s (f k))
    (h1 : sl (row t 0) s.low ≤ x) (h2 : x < sl (row t 0) s.high) :
    ∃ f', f' k = f k ∧ w.list.length ≤ (oneOn (ahead t) (row t 0) P memo s x w).list.length ∧ Inv t P (oneOn (ahead t) (row t 0) P memo s x w) f' k (seenTo t (f k) (x + 1)) := by
  rw [hs.1] at h1
  rw [hs.2.1] at h2
  have hx : x < t.length := Nat.lt_of_lt_of_le h2 (Q.sl_le _ _ _ (M.row_le t 0 (by omega)) (M.hi_le t _))
  have hpos := M.slot_num t (f k) x h1 h2
  have hstep : ∀ c, seenTo t (f k) (x + 1) c ↔ seenTo t (f k) x c ∨ c = (ahead t).getD x 0 := fun c => by
    constructor
    · rintro ⟨y, a, b, d⟩
      rcases Nat.lt_or_ge y x with g | g
      · exact .inl ⟨y, a, g, d⟩
      · have : y = x := by omega
        subst this
        exact .inr d.symm
    · rintro (⟨y, a, b, d⟩ | e)
      · exact ⟨y, a, by omega, d⟩
      · exact ⟨x, h1, by omega, e.symm⟩
  have hlen := (oneOn_len (a := ahead t) (h := row t 0) (P := P) (memo := memo) s x w).1
  unfold oneOn at hlen ⊢
  rw [hs.1, hs.2.1, hs.2.2] at hlen ⊢
  have hpl : aheadOf P (pl P (f k)) ((ahead t).getD x 0).toNat = pl P ((ahead t).getD x 0 :: f k) := rfl
  rw [hpl] at hlen ⊢
  by_cases hc : cntIn (ahead t) (sl (row t 0) (lo t (f k))) x ((ahead t).getD x 0) = 0
  · by_cases hz : pl P ((ahead t).getD x 0 :: f k) ≠ 0
    · rw [if_pos ⟨hc, hz⟩] at hlen ⊢
      rw [M.LF_lo t (f k) x h1 h2 hc, M.cnt_num] at hlen ⊢
      have hns := (cnt_seen t (f k) x _ h1 (by omega)).1 hc
      have hS : IsSt t P ⟨lo t ((ahead t).getD x 0 :: f k), lo t ((ahead t).getD x 0 :: f k) + num t ((ahead t).getD x 0 :: f k), pl P ((ahead t).getD x 0 :: f k), 0⟩ ((ahead t).getD x 0 :: f k) := ⟨rfl, rfl, rfl⟩
      generalize (⟨lo t ((ahead t).getD x 0 :: f k), lo t ((ahead t).getD x 0 :: f k) + num t ((ahead t).getD x 0 :: f k), pl P ((ahead t).getD x 0 :: f k), 0⟩ : St) = S at hS hlen ⊢
      unfold addS at hlen ⊢
      split at hlen
      · next hm =>
        rw [if_pos hm]
        obtain ⟨j, a, b1, b2, b3⟩ := has_some h.chain S hm.2
        refine ⟨f, rfl, hlen, h.mono (fun c hcc => (hstep c).2 (.inl hcc)) (fun c hcc => ?_)⟩
        rcases (hstep c).1 hcc with g | g
        · exact .inl g
        · subst g
          exact .inr (.inr ⟨j, a, by rw [b1]; exact hS.1, by rw [b2]; exact hS.2.1, by rw [b3]; exact hS.2.2⟩)
      · next hm =>
        rw [if_neg hm]
        have hput := h.put hk ((ahead t).getD x 0) hns ⟨hpos, hz⟩ S hS
        refine ⟨fun j => if j = w.list.length then (ahead t).getD x 0 :: f k else f j, if_neg (by omega), hlen, ?_⟩
        · have e : (fun d => seenTo t (f k) x d ∨ d = (ahead t).getD x 0) = seenTo t (f k) (x + 1) := funext fun d => propext (hstep d).symm
          rw [← e]
          exact hput
    · rw [if_neg (fun g => hz g.2)] at hlen ⊢
      refine ⟨f, rfl, hlen, h.mono (fun c hcc => (hstep c).2 (.inl hcc)) (fun c hcc => ?_)⟩
      rcases (hstep c).1 hcc with g | g
      · exact .inl g
      · subst g
        exact .inr (.inl fun hl => hz hl.2)
  · rw [if_neg (fun g => hc g.1)] at hlen ⊢
    have hsn : seenTo t (f k) x ((ahead t).getD x 0) := Classical.byContradiction fun g => hc ((cnt_seen t (f k) x _ h1 (by omega)).2 g)
    refine ⟨f, rfl, hlen, h.mono (fun c hcc => (hstep c).2 (.inl hcc)) (fun c hcc => ?_)⟩
    rcases (hstep c).1 hcc with g | g
    · exact .inl g
    · subst g
      exact .inl hsn
theorem Inv.to {w : Wk} {f : Nat → List UInt8} {k : Nat} (memo : Bool) (s : St) (h : Inv t P w f k (fun _ => False)) (hk : k < w.list.length) (hs : IsSt t P s (f k)) : ∀ d, sl (row t 0) s.low + d ≤ sl (row t 0) s.high →
    ∃ f', f' k = f k ∧ w.list.length ≤ (goTo (ahead t) (row t 0) P memo s w d).list.length ∧ Inv t P (goTo (ahead t) (row t 0) P memo s w d) f' k (seenTo t (f k) (sl (row t 0) s.low + d))
  | 0, _ => by
    refine ⟨f, rfl, Nat.le_refl _, h.mono (fun c hc => hc.elim) (fun c hc => ?_)⟩
    obtain ⟨y, a, b, _⟩ := hc
    rw [hs.1] at b
    omega
  | d + 1, hd => by
    obtain ⟨f1, e1, l1, i1⟩ := Inv.to memo s h hk hs d (by omega)
    rw [← e1] at i1 hs
    obtain ⟨f2, e2, l2, i2⟩ := i1.one memo s _ (by omega) hs (by omega) (by omega)
    refine ⟨f2, by rw [e2, e1], Nat.le_trans l1 l2, ?_⟩
    rw [e1] at i2
    exact i2
theorem Inv.on {w : Wk} {f : Nat → List UInt8} {k : Nat} (memo : Bool) (h : Inv t P w f k (fun _ => False)) (hk : k < w.list.length) :
    ∃ f', w.list.length ≤ (goOn (ahead t) (row t 0) P memo (stAt w.list k) w).list.length ∧ Inv t P (goOn (ahead t) (row t 0) P memo (stAt w.list k) w) f' (k + 1) (fun _ => False) := by
  obtain ⟨hs, hl⟩ := h.st k hk
  have hle : sl (row t 0) (stAt w.list k).low ≤ sl (row t 0) (stAt w.list k).high := sl_mono _ _ _ (by rw [hs.1, hs.2.1]; omega)
  obtain ⟨f', e, l, i⟩ := h.to memo (stAt w.list k) hk hs (sl (row t 0) (stAt w.list k).high - sl (row t 0) (stAt w.list k).low) (by omega)
  refine ⟨f', l, i.st, i.inj, fun j c u hj e2 => ?_, fun j c hj hc hlc => ?_, i.top, i.chain⟩
  · obtain ⟨m, a, b, d⟩ := i.from_ j c u hj e2
    exact ⟨m, a, b, .inl (by rcases d with d | ⟨d, _⟩ <;> omega)⟩
  · rcases hc with hc | ⟨_, hc⟩
    · rcases Nat.lt_or_ge j k with g | g
      · exact i.closed j c hj (.inl g) hlc
      · have : j = k := by omega
        subst this
        refine i.closed j c hj (.inr ⟨rfl, ?_⟩) hlc
        rw [e] at hlc
        obtain ⟨y, a, b, d⟩ := M.num_slot t (f j) c hlc.1
        exact ⟨y, a, by rw [hs.2.1]; omega, d⟩
    · exact hc.elim
theorem Inv.start (memo : Bool) : Inv t P (wk0 (ahead t) memo) (fun _ => []) 0 (fun _ => False) := by
  have e : wk0 (ahead t) memo = Q.put ⟨[], List.replicate ((ahead t).length + 1) 0⟩ ⟨0, (ahead t).length + 1, 1, 0⟩ := by
    unfold wk0 addS
    rw [if_neg]
    rintro ⟨_, g⟩
    unfold has at g
    have : (List.replicate ((ahead t).length + 1) 0).getD 0 0 = 0 := by simp [List.replicate_succ]
    simp only [this] at g
    simp [hasF] at g
  have hl : (wk0 (ahead t) memo).list.length = 1 := by rw [e]; rfl
  have hch : Chain (wk0 (ahead t) memo) := by
    rw [e]
    refine Chain.put _ ⟨fun r => .inl ?_, fun j hj => by simp at hj⟩
    rw [List.getD_eq_getElem?_getD, List.getElem?_replicate]
    split <;> rfl
  have hst : stAt (wk0 (ahead t) memo).list 0 = ⟨0, (ahead t).length + 1, 1, (List.replicate ((ahead t).length + 1) 0).getD 0 0⟩ := by rw [e]; rfl
  refine ⟨fun j hj => ?_, fun i j hi hj _ => by omega, fun j c u hj e => (by cases e), fun i c hi hc _ => absurd hc (by simp), ⟨0, by omega, rfl⟩, hch⟩
  have : j = 0 := by omega
  subst this
  rw [hst]
  refine ⟨⟨(M.lo_nil t).symm, ?_, rfl⟩, ?_, ?_⟩
  · rw [M.lo_nil, M.num_nil, M.ahead_length]
    show t.length + 1 = _
    omega
  · rw [M.num_nil]; omega
  · show (1 : Nat) ≠ 0
    decide
/-- at the end all words are there -/
theorem Inv.all {w : Wk} {f : Nat → List UInt8} {k : Nat} (h : Inv t P w f k (fun _ => False)) (hk : w.list.length ≤ k) : ∀ u, Live t P u → ∃ j, j < w.list.length ∧ IsSt t P (stAt w.list j) u
  | [], _ => by
    obtain ⟨j, a, b⟩ := h.top
    exact ⟨j, a, by rw [← b]; exact (h.st j a).1⟩
  | c :: u, hl => by
    obtain ⟨j, a, b⟩ := Inv.all h hk u (Live.tail t P hl)
    have g := (h.st j a).1
    have e1 : lo t u = lo t (f j) := by rw [← b.1, ← g.1]
    have e2 : num t u = num t (f j) := by have := b.2.1; have := g.2.1; omega
    have e3 : pl P u = pl P (f j) := by rw [← b.2.2, ← g.2.2]
    obtain ⟨m1, m2⟩ := M.same_longer c e1 e2 hl.1
    have e4 : pl P (c :: u) = pl P (c :: f j) := by show aheadOf _ _ _ = aheadOf _ _ _; rw [e3]
    obtain ⟨i, i1, i2⟩ := h.closed j c a (.inl (by omega)) ⟨by rw [← m2]; exact hl.1, by rw [← e4]; exact hl.2⟩
    exact ⟨i, i1, by rw [i2.1, m1], by rw [i2.2.1, m1, m2], by rw [i2.2.2, e4]⟩
end Go.Proofs.Ytjmkkkfloalliab.Q

namespace Go.Proofs.Ytjmkkkfloalliab.Q
set_option linter.unusedVariables false
open M (LF sl pre lo num row ahead)

/-- the words in x, the empty one apart -/
def subs : List UInt8 → List (List UInt8)
  | [] => []
  | c :: x => (List.range (x.length + 1)).map (fun l => (c :: x).take (l + 1)) ++ subs x
theorem subs_len : ∀ x : List UInt8, 2 * (subs x).length = x.length * (x.length + 1)
  | [] => rfl
  | c :: x => by
    have := subs_len x
    simp only [subs, List.length_append, List.length_map, List.length_range, List.length_cons]
    have e1 : (x.length + 1) * (x.length + 1 + 1) = x.length * (x.length + 1) + 2 * (x.length + 1) := by rw [Nat.mul_comm (x.length + 1), ← Nat.add_mul]
    omega
theorem subs_mem : ∀ (t : List UInt8) (p : Nat) (u : List UInt8), u ≠ [] → pre u (t.drop p) = true → u ∈ subs t
  | [], p, u, hu, h => by
    rw [List.drop_nil] at h
    obtain ⟨y, e⟩ := (M.pre_iff u []).1 h
    exact absurd (List.append_eq_nil_iff.1 e.symm).1 hu
  | c :: x, 0, u, hu, h => by
    obtain ⟨y, e⟩ := (M.pre_iff u _).1 h
    rw [List.drop_zero] at e
    refine List.mem_append_left _ (List.mem_map.2 ⟨u.length - 1, List.mem_range.2 ?_, ?_⟩)
    · have := congrArg List.length e
      simp at this
      cases u with
      | nil => exact absurd rfl hu
      | cons d v => simp at this ⊢; omega
    · have : u.length - 1 + 1 = u.length := by cases u with
        | nil => exact absurd rfl hu
        | cons d v => simp
      rw [this, e, List.take_left]
  | c :: x, p + 1, u, hu, h => List.mem_append_right _ (subs_mem x p u hu h)
theorem nodup_le {α : Type} [DecidableEq α] : ∀ (l l' : List α), l.Nodup → (∀ x, x ∈ l → x ∈ l') → l.length ≤ l'.length
  | [], l', _, _ => by simp
  | x :: l, l', hn, hs => by
    have hn' := List.nodup_cons.1 hn
    have hx : x ∈ l' := hs x List.mem_cons_self
    have ih := nodup_le l (l'.erase x) hn'.2 (fun y hy => (List.mem_erase_of_ne (fun e => hn'.1 (by rw [← e]; exact hy))).2 (hs y (List.mem_cons_of_mem _ hy)))
    rw [List.length_erase_of_mem hx] at ih
    have := List.length_pos_of_mem hx
    simp
    omega
/-- how many words a text can have -/
def most (n : Nat) : Nat := n * (n + 1) / 2 + 1
variable {t : List UInt8} {P : Pat}
theorem Inv.few {w : Wk} {f : Nat → List UInt8} {k : Nat} {seen : UInt8 → Prop} (h : Inv t P w f k seen) : w.list.length ≤ most t.length := by
  have h1 := nodup_le ((List.range w.list.length).map f) ([] :: subs t) ?_ ?_
  · have h2 := subs_len t
    simp at h1
    unfold most
    omega
  · rw [List.nodup_iff_pairwise_ne, List.pairwise_map]
    have := List.nodup_range (n := w.list.length)
    rw [List.nodup_iff_pairwise_ne] at this
    exact this.imp_of_mem (fun {a b} ha hb hne e => hne (h.inj a b (List.mem_range.1 ha) (List.mem_range.1 hb) e))
  · intro x hx
    obtain ⟨j, hj, rfl⟩ := List.mem_map.1 hx
    have hl := (h.st j (List.mem_range.1 hj)).2
    by_cases e : f j = []
    · rw [e]; exact List.mem_cons_self
    · obtain ⟨p, _, g⟩ := M.pos_num hl.1
      exact List.mem_cons_of_mem _ (subs_mem t p _ e g)

variable (t P) (memo : Bool)
/-- the walk when k are dealt with, whatever it may cost -/
def wks : Nat → Wk
  | 0 => wk0 (ahead t) memo
  | k + 1 => if k < (wks k).list.length then goOn (ahead t) (row t 0) P memo (stAt (wks k).list k) (wks k) else wks k
variable {t P memo}
theorem wks_inv : ∀ k, (∃ f, Inv t P (wks t P memo k) f k (fun _ => False)) ∨ (wks t P memo k).list.length < k ∧ wks t P memo k = wks t P memo (k - 1)
  | 0 => .inl ⟨_, Inv.start memo⟩
  | k + 1 => by
    by_cases h : k < (wks t P memo k).list.length
    · rcases wks_inv k with ⟨f, g⟩ | ⟨g, _⟩
      · obtain ⟨f', _, g'⟩ := g.on memo h
        refine .inl ⟨f', ?_⟩
        rw [wks, if_pos h]
        exact g'
      · omega
    · refine .inr ?_
      rw [wks, if_neg h]
      exact ⟨by omega, rfl⟩
theorem wks_step (k : Nat) : (wks t P memo k).list.length ≤ (wks t P memo (k + 1)).list.length := by
  rw [wks]
  split
  · exact (goTo_len _ _ _).1
  · exact Nat.le_refl _
theorem wks_mono (i : Nat) : ∀ d, (wks t P memo i).list.length ≤ (wks t P memo (i + d)).list.length
  | 0 => Nat.le_refl _
  | d + 1 => Nat.le_trans (wks_mono i d) (wks_step (i + d))
theorem wks_stop {i : Nat} (h : (wks t P memo i).list.length ≤ i) : ∀ d, wks t P memo (i + d) = wks t P memo i
  | 0 => rfl
  | d + 1 => by
    have ih := wks_stop h d
    show wks t P memo (i + d + 1) = _
    rw [wks, ih, if_neg (by omega)]
theorem wks_few : ∀ k, (wks t P memo k).list.length ≤ most t.length
  | 0 => (Inv.start (P := P) memo).few
  | k + 1 => by
    rcases wks_inv (t := t) (P := P) (memo := memo) (k + 1) with ⟨f, g⟩ | ⟨_, g⟩
    · exact g.few
    · rw [g]; exact wks_few k
theorem wks_one (k : Nat) : 1 ≤ (wks t P memo k).list.length := by
  have h0 : 1 ≤ (wks t P memo 0).list.length := by
    obtain ⟨j, a, _⟩ := (Inv.start (t := t) (P := P) memo).top
    exact Nat.lt_of_le_of_lt (Nat.zero_le _) a
  have := wks_mono (t := t) (P := P) (memo := memo) 0 k
  rw [Nat.zero_add] at this
  omega
/-- the walk to its end -/
def full (t : List UInt8) (P : Pat) (memo : Bool) : Wk := wks t P memo (most t.length)
/-- how many steps it wants -/
def steps (t : List UInt8) (P : Pat) (memo : Bool) : Nat := (full t P memo).list.length
theorem steps_le : steps t P memo ≤ most t.length := wks_few _
theorem steps_pos : 1 ≤ steps t P memo := wks_one _
theorem full_stop {i : Nat} (h : (wks t P memo i).list.length ≤ i) : wks t P memo i = full t P memo := by
  have h2 : (wks t P memo (most t.length)).list.length ≤ most t.length := wks_few _
  unfold full
  rcases Nat.le_total i (most t.length) with g | g
  · obtain ⟨d, e⟩ := Nat.exists_eq_add_of_le g
    rw [e, wks_stop h d]
  · obtain ⟨d, e⟩ := Nat.exists_eq_add_of_le g
    rw [e, wks_stop h2 d]
theorem steps_ge (i : Nat) : (wks t P memo i).list.length ≤ steps t P memo := by
  have h2 : (wks t P memo (most t.length)).list.length ≤ most t.length := wks_few _
  unfold steps full
  rcases Nat.le_total i (most t.length) with g | g
  · obtain ⟨d, e⟩ := Nat.exists_eq_add_of_le g
    rw [e]; exact wks_mono i d
  · obtain ⟨d, e⟩ := Nat.exists_eq_add_of_le g
    rw [e, wks_stop h2 d]
    exact Nat.le_refl _
/-- with a budget -/
theorem run_wks (b : Nat) : ∀ (f k : Nat), b + 1 ≤ k + f → (∀ i, i < k → i < (wks t P memo i).list.length ∧ (wks t P memo i).list.length ≤ b) →
    ∃ j, run (ahead t) (row t 0) P memo b f k (wks t P memo k) = wks t P memo j ∧ ¬ (j < (wks t P memo j).list.length ∧ (wks t P memo j).list.length ≤ b)
  | 0, k, hf, hk => by
    refine ⟨k, rfl, fun h => ?_⟩
    omega
  | f + 1, k, hf, hk => by
    unfold run
    split
    · next h =>
      have e : wks t P memo (k + 1) = goOn (ahead t) (row t 0) P memo (stAt (wks t P memo k).list k) (wks t P memo k) := by rw [wks, if_pos h.1]
      rw [← e]
      refine run_wks b f (k + 1) (by omega) (fun i hi => ?_)
      rcases Nat.lt_or_ge i k with g | g
      · exact hk i g
      · have : i = k := by omega
        subst this
        exact h
    · next h => exact ⟨k, rfl, h⟩
theorem runAll_yes {b : Nat} (h : steps t P memo ≤ b) : runAll (ahead t) (row t 0) P memo b = full t P memo := by
  obtain ⟨j, e, g⟩ := run_wks (t := t) (P := P) (memo := memo) b (b + 1) 0 (by omega) (fun i hi => by omega)
  have e2 : runAll (ahead t) (row t 0) P memo b = wks t P memo j := e
  rw [e2]
  have := steps_ge (t := t) (P := P) (memo := memo) j
  exact full_stop (Nat.le_of_not_lt fun k => g ⟨k, by omega⟩)
theorem runAll_no {b : Nat} (h : b < steps t P memo) : b < (runAll (ahead t) (row t 0) P memo b).list.length := by
  obtain ⟨j, e, g⟩ := run_wks (t := t) (P := P) (memo := memo) b (b + 1) 0 (by omega) (fun i hi => by omega)
  have e2 : runAll (ahead t) (row t 0) P memo b = wks t P memo j := e
  rw [e2]
  rcases Nat.lt_or_ge b (wks t P memo j).list.length with k | k
  · exact k
  · exfalso
    have h3 : (wks t P memo j).list.length ≤ j := Nat.le_of_not_lt fun k2 => g ⟨k2, k⟩
    have := full_stop h3
    unfold steps at h
    rw [this] at k
    omega
theorem full_inv : ∃ f, Inv t P (full t P memo) f (steps t P memo) (fun _ => False) := by
  have key : ∀ k, (wks t P memo k).list.length ≤ k → ∃ f i, (wks t P memo k).list.length ≤ i ∧ Inv t P (wks t P memo k) f i (fun _ => False) := by
    intro k
    induction k with
    | zero => intro h; exact ⟨_, 0, h, Inv.start memo⟩
    | succ k ih =>
      intro h
      rcases wks_inv (t := t) (P := P) (memo := memo) (k + 1) with ⟨f, g⟩ | ⟨g1, g2⟩
      · exact ⟨f, k + 1, h, g⟩
      · rw [g2] at g1 ⊢
        exact ih (by simp at g1; omega)
  obtain ⟨f, i, hi, g⟩ := key (most t.length) (wks_few _)
  have g' : Inv t P (full t P memo) f i (fun _ => False) := g
  refine ⟨f, g'.st, g'.inj, fun j c u hj e => ?_, fun j c hj hc hl => g'.closed j c hj (.inl ?_) hl, g'.top, g'.chain⟩
  · obtain ⟨m, a, b, d⟩ := g'.from_ j c u hj e
    exact ⟨m, a, b, .inl a⟩
  · have : (full t P memo).list.length ≤ i := hi
    omega
end Go.Proofs.Ytjmkkkfloalliab.Q

