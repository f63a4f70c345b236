-- plain mathematics of the rows of a text: nothing of the dump
namespace Go.Proofs.Ytjmkkkfloalliab.M
set_option linter.unusedVariables false

def blt : List UInt8 → List UInt8 → Bool
  | _, [] => false
  | [], _ :: _ => true
  | a :: x, b :: y => a < b || (a == b && blt x y)

theorem blt_nil (x : List UInt8) : blt x [] = false := by cases x <;> rfl
theorem blt_cons (a b : UInt8) (x y : List UInt8) : blt (a :: x) (b :: y) = (a < b || (a == b && blt x y)) := rfl

theorem blt_irrefl : ∀ x : List UInt8, blt x x = false
  | [] => rfl
  | a :: x => by simp [blt, blt_irrefl x]

theorem blt_total : ∀ x y : List UInt8, x ≠ y → blt x y = false → blt y x = true
  | [], [], h, _ => absurd rfl h
  | [], _ :: _, _, h => by simp [blt] at h
  | _ :: _, [], _, _ => rfl
  | a :: x, b :: y, h, hf => by
    simp only [blt, Bool.or_eq_false_iff, Bool.and_eq_false_iff, decide_eq_false_iff_not, beq_eq_false_iff_ne] at hf
    simp only [blt, Bool.or_eq_true, Bool.and_eq_true, decide_eq_true_eq, beq_iff_eq]
    have hf1 : ¬ a.toNat < b.toNat := by simpa [UInt8.lt_iff_toNat_lt] using hf.1
    by_cases e : a = b
    · subst e
      right
      refine ⟨rfl, blt_total x y (fun e => h (by rw [e])) ?_⟩
      rcases hf.2 with h2 | h2
      · exact absurd rfl h2
      · exact h2
    · left
      rw [UInt8.lt_iff_toNat_lt]
      have : a.toNat ≠ b.toNat := fun e2 => e (UInt8.toNat_inj.1 e2)
      omega

theorem blt_trans : ∀ x y z : List UInt8, blt x y = true → blt y z = true → blt x z = true
  | _, [], _, h, _ => by simp [blt_nil] at h
  | _, _ :: _, [], _, h => by simp [blt_nil] at h
  | [], _ :: _, _ :: _, _, _ => rfl
  | a :: x, b :: y, c :: z, h1, h2 => by
    simp only [blt, Bool.or_eq_true, Bool.and_eq_true, decide_eq_true_eq, beq_iff_eq, UInt8.lt_iff_toNat_lt] at h1 h2 ⊢
    rcases h1 with h1 | ⟨rfl, h1⟩
    · rcases h2 with h2 | ⟨rfl, h2⟩
      · left; omega
      · left; exact h1
    · rcases h2 with h2 | ⟨rfl, h2⟩
      · left; exact h2
      · right; exact ⟨rfl, blt_trans x y z h1 h2⟩

theorem blt_asymm (x y : List UInt8) (h : blt x y = true) : blt y x = false := by
  cases e : blt y x with
  | false => rfl
  | true => have := blt_trans x y x h e; rw [blt_irrefl] at this; cases this

/-! counting -/
theorem countP_le_of {α : Type} (P Q : α → Bool) : ∀ l : List α, (∀ x, x ∈ l → P x = true → Q x = true) → l.countP P ≤ l.countP Q
  | [], _ => by simp
  | x :: l, h => by
    have ih := countP_le_of P Q l (fun y hy => h y (List.mem_cons_of_mem _ hy))
    simp only [List.countP_cons]
    cases hp : P x with
    | false => simp; omega
    | true => simp [h x List.mem_cons_self hp]; omega

theorem countP_lt_of {α : Type} (P Q : α → Bool) : ∀ l : List α, (∀ x, x ∈ l → P x = true → Q x = true) → (∃ x, x ∈ l ∧ Q x = true ∧ P x = false) → l.countP P < l.countP Q
  | [], _, ⟨x, hx, _⟩ => by simp at hx
  | x :: l, h, ⟨y, hy, hq, hp⟩ => by
    have hl := countP_le_of P Q l (fun y hy => h y (List.mem_cons_of_mem _ hy))
    simp only [List.countP_cons]
    rcases List.mem_cons.1 hy with e | e
    · subst e; simp [hq, hp]; omega
    · have ih := countP_lt_of P Q l (fun y hy => h y (List.mem_cons_of_mem _ hy)) ⟨y, e, hq, hp⟩
      cases hpx : P x with
      | false => simp; omega
      | true => simp [h x List.mem_cons_self hpx]; omega

theorem countP_or {α : Type} (P Q : α → Bool) : ∀ l : List α, (∀ x, x ∈ l → P x = true → Q x = false) → l.countP (fun x => P x || Q x) = l.countP P + l.countP Q
  | [], _ => by simp
  | x :: l, h => by
    have ih := countP_or P Q l (fun y hy => h y (List.mem_cons_of_mem _ hy))
    simp only [List.countP_cons, ih]
    cases hp : P x with
    | false => simp; omega
    | true => simp [h x List.mem_cons_self hp]; omega

theorem countP_congr_of {α : Type} (P Q : α → Bool) : ∀ l : List α, (∀ x, x ∈ l → P x = Q x) → l.countP P = l.countP Q
  | [], _ => by simp
  | x :: l, h => by
    have ih := countP_congr_of P Q l (fun y hy => h y (List.mem_cons_of_mem _ hy))
    simp only [List.countP_cons, ih, h x List.mem_cons_self]

theorem perm_of : ∀ (l l' : List Nat), l.Nodup → (∀ x, x ∈ l → x ∈ l') → l'.length ≤ l.length → l.Perm l'
  | [], l', _, _, hl => by
    have : l' = [] := List.length_eq_zero_iff.1 (by simpa using hl)
    subst this; exact List.Perm.refl _
  | x :: l, l', hn, hs, hl => by
    have hx : x ∈ l' := hs x List.mem_cons_self
    have hn' := List.nodup_cons.1 hn
    refine List.Perm.trans (List.Perm.cons x (perm_of l (l'.erase x) hn'.2 (fun y hy => ?_) ?_)) (List.perm_cons_erase hx).symm
    · exact (List.mem_erase_of_ne (fun e => hn'.1 (by rw [← e]; exact hy))).2 (hs y (List.mem_cons_of_mem _ hy))
    · rw [List.length_erase_of_mem hx]; simp at hl; omega

theorem countP_range_le (P : Nat → Bool) (n k : Nat) (h : k ≤ n) : (List.range n).countP (fun j => P j && decide (j < k)) = (List.range k).countP P := by
  obtain ⟨d, rfl⟩ : ∃ d, n = k + d := ⟨n - k, by omega⟩
  clear h
  induction d with
  | zero =>
    exact countP_congr_of _ _ _ (fun x hx => by have h : x < k := List.mem_range.1 hx; simp [h])
  | succ d ih =>
    rw [← Nat.add_assoc, List.range_succ, List.countP_append, ih]
    simp

/-! rows -/
def row (t : List UInt8) (p : Nat) : Nat := (List.range (t.length + 1)).countP (fun q => blt (t.drop q) (t.drop p))

theorem drop_ne (t : List UInt8) (p q : Nat) (hp : p ≤ t.length) (hq : q ≤ t.length) (h : p ≠ q) : t.drop p ≠ t.drop q := by
  intro e
  have := congrArg List.length e
  simp at this
  omega

theorem row_lt_of (t : List UInt8) (p q : Nat) (hp : p ≤ t.length) (h : blt (t.drop p) (t.drop q) = true) : row t p < row t q := by
  refine countP_lt_of _ _ _ (fun x _ hx => blt_trans _ _ _ hx h) ⟨p, List.mem_range.2 (by omega), h, blt_irrefl _⟩

theorem row_inj (t : List UInt8) (p q : Nat) (hp : p ≤ t.length) (hq : q ≤ t.length) (h : row t p = row t q) : p = q := by
  rcases Nat.decEq p q with hne | he
  · cases hb : blt (t.drop p) (t.drop q) with
    | true => have := row_lt_of t p q hp hb; omega
    | false =>
      have := row_lt_of t q p hq (blt_total _ _ (drop_ne t p q hp hq hne) hb); omega
  · exact he

theorem row_lt_iff (t : List UInt8) (p q : Nat) (hp : p ≤ t.length) (hq : q ≤ t.length) : row t p < row t q ↔ blt (t.drop p) (t.drop q) = true := by
  refine ⟨fun h => ?_, row_lt_of t p q hp⟩
  cases hb : blt (t.drop p) (t.drop q) with
  | true => rfl
  | false =>
    have hne : p ≠ q := fun e => by subst e; omega
    have := row_lt_of t q p hq (blt_total _ _ (drop_ne t p q hp hq hne) hb); omega

theorem row_le (t : List UInt8) (p : Nat) (hp : p ≤ t.length) : row t p ≤ t.length := by
  have h : row t p < (List.range (t.length + 1)).countP (fun _ => true) :=
    countP_lt_of _ _ _ (fun _ _ _ => rfl) ⟨p, List.mem_range.2 (by omega), rfl, blt_irrefl _⟩
  rw [List.countP_true, List.length_range] at h
  omega

theorem row_end (t : List UInt8) : row t t.length = 0 := by
  unfold row
  rw [List.countP_eq_zero]
  intro q _
  rw [List.drop_length, blt_nil]; simp

/-! slots -/
def sl (h r : Nat) : Nat := if h < r then r - 1 else r

theorem sl_lt (h r n : Nat) (hh : h ≤ n) (hr : r ≤ n) (hne : r ≠ h) : sl h r < n := by unfold sl; split <;> omega
theorem sl_lt_iff (h r s : Nat) (hr : r ≠ h) (hs : s ≠ h) : sl h r < sl h s ↔ r < s := by unfold sl; split <;> split <;> omega
theorem sl_inj (h r s : Nat) (hr : r ≠ h) (hs : s ≠ h) (e : sl h r = sl h s) : r = s := by unfold sl at e; split at e <;> split at e <;> omega

/-- where the byte ahead of the suffix p + 1 (it stands at p) lies -/
def sig (t : List UInt8) (p : Nat) : Nat := sl (row t 0) (row t (p + 1))

theorem row_ne_whole (t : List UInt8) (p : Nat) (hp : p < t.length) : row t (p + 1) ≠ row t 0 := fun e => by
  have := row_inj t (p + 1) 0 (by omega) (by omega) e; omega

theorem sig_lt (t : List UInt8) (p : Nat) (hp : p < t.length) : sig t p < t.length :=
  sl_lt _ _ _ (row_le t 0 (by omega)) (row_le t (p + 1) (by omega)) (row_ne_whole t p hp)

theorem sig_inj (t : List UInt8) (p q : Nat) (hp : p < t.length) (hq : q < t.length) (e : sig t p = sig t q) : p = q := by
  have := sl_inj _ _ _ (row_ne_whole t p hp) (row_ne_whole t q hq) e
  have := row_inj t (p + 1) (q + 1) (by omega) (by omega) this
  omega

theorem sig_perm (t : List UInt8) : ((List.range t.length).map (sig t)).Perm (List.range t.length) := by
  refine perm_of _ _ ?_ ?_ (by simp)
  · rw [List.nodup_iff_pairwise_ne, List.pairwise_map]
    have := List.nodup_range (n := t.length)
    rw [List.nodup_iff_pairwise_ne] at this
    exact this.imp_of_mem (fun {a b} ha hb hne e => hne (sig_inj t a b (List.mem_range.1 ha) (List.mem_range.1 hb) e))
  · intro x hx
    obtain ⟨p, hp, rfl⟩ := List.mem_map.1 hx
    exact List.mem_range.2 (sig_lt t p (List.mem_range.1 hp))

/-! the bytes ahead -/
def aheadTo (t : List UInt8) : Nat → List UInt8
  | 0 => List.replicate t.length 0
  | k + 1 => (aheadTo t k).set (sig t k) (t.getD k 0)

def ahead (t : List UInt8) : List UInt8 := aheadTo t t.length

theorem aheadTo_length (t : List UInt8) : ∀ k, (aheadTo t k).length = t.length
  | 0 => by simp [aheadTo]
  | k + 1 => by simp [aheadTo, aheadTo_length t k]

theorem ahead_length (t : List UInt8) : (ahead t).length = t.length := aheadTo_length t _

theorem aheadTo_at (t : List UInt8) : ∀ k, k ≤ t.length → ∀ i, i < k → (aheadTo t k).getD (sig t i) 0 = t.getD i 0
  | 0, _, i, hi => by omega
  | k + 1, hk, i, hi => by
    rw [aheadTo, List.getD_eq_getElem?_getD]
    rcases Nat.lt_or_ge i k with h | h
    · rw [List.getElem?_set_ne (fun e => by have := sig_inj t k i (by omega) (by omega) e; omega), ← List.getD_eq_getElem?_getD]
      exact aheadTo_at t k (by omega) i h
    · have : i = k := by omega
      subst this
      rw [List.getElem?_set_self (by rw [aheadTo_length]; exact sig_lt t i (by omega))]
      rfl

theorem ahead_at (t : List UInt8) (i : Nat) (hi : i < t.length) : (ahead t).getD (sig t i) 0 = t.getD i 0 := aheadTo_at t _ (Nat.le_refl _) i hi

/-! longer rows -/
def LF (a : List UInt8) (k : Nat) : Nat := 1 + a.countP (fun c => c < a.getD k 0) + (a.take k).countP (fun c => c == a.getD k 0)

theorem countP_getD (P : UInt8 → Bool) (a : List UInt8) (k : Nat) (hk : k ≤ a.length) : (a.take k).countP P = (List.range k).countP (fun j => P (a.getD j 0)) := by
  have : a.take k = (List.range k).map (fun j => a.getD j 0) := by
    apply List.ext_getElem
    · simp; omega
    · intro i h1 h2
      simp at h1 h2 ⊢
      rw [List.getElem?_eq_getElem (by omega)]; rfl
  rw [this, List.countP_map]
  rfl

theorem LF_eq (a : List UInt8) (k : Nat) (hk : k ≤ a.length) :
    LF a k = 1 + (List.range a.length).countP (fun j => decide (a.getD j 0 < a.getD k 0) || (a.getD j 0 == a.getD k 0 && decide (j < k))) := by
  have e1 : a.countP (fun c => c < a.getD k 0) = (List.range a.length).countP (fun j => decide (a.getD j 0 < a.getD k 0)) := by
    have := countP_getD (fun c => decide (c < a.getD k 0)) a a.length (Nat.le_refl _)
    rw [List.take_length] at this
    exact this
  have e2 : (a.take k).countP (fun c => c == a.getD k 0) = (List.range a.length).countP (fun j => a.getD j 0 == a.getD k 0 && decide (j < k)) := by
    rw [countP_getD _ a k hk, countP_range_le (fun j => a.getD j 0 == a.getD k 0) a.length k hk]
  rw [LF, e1, e2, countP_or]
  · omega
  · intro x _ hx
    have h : a.getD x 0 < a.getD k 0 := by simpa using hx
    have : a.getD x 0 ≠ a.getD k 0 := fun e => by rw [e] at h; exact absurd h (UInt8.lt_irrefl _)
    rw [beq_eq_false_iff_ne.2 this, Bool.false_and]

theorem LF_le (a : List UInt8) (k : Nat) (hk : k < a.length) : LF a k ≤ a.length := by
  rw [LF_eq a k (by omega)]
  have : (List.range a.length).countP (fun j => decide (a.getD j 0 < a.getD k 0) || (a.getD j 0 == a.getD k 0 && decide (j < k))) < (List.range a.length).countP (fun _ => true) :=
    countP_lt_of _ _ _ (fun _ _ _ => rfl) ⟨k, List.mem_range.2 hk, rfl, by simp [UInt8.lt_irrefl]⟩
  rw [List.countP_true, List.length_range] at this
  omega

theorem LF_row (t : List UInt8) (i : Nat) (hi : i < t.length) : LF (ahead t) (sig t i) = row t i := by
  have hal := ahead_length t
  rw [LF_eq _ _ (by have := sig_lt t i hi; omega), hal]
  have h0 : ∀ q, q < t.length → t.drop q = t.getD q 0 :: t.drop (q + 1) := by
    intro q hq
    rw [List.drop_eq_getElem_cons hq]
    simp [List.getElem?_eq_getElem hq]
  unfold row
  rw [List.range_succ, List.countP_append]
  have e1 : [t.length].countP (fun q => blt (t.drop q) (t.drop i)) = 1 := by
    rw [List.countP_singleton]
    rw [List.drop_length, h0 i hi]
    simp [blt]
  rw [e1, Nat.add_comm]
  congr 1
  rw [← (sig_perm t).countP_eq, List.countP_map]
  refine countP_congr_of _ _ _ (fun q hq => ?_)
  have hq' : q < t.length := List.mem_range.1 hq
  simp only [Function.comp]
  rw [ahead_at t q hq', ahead_at t i hi, h0 q hq', h0 i hi, blt_cons]
  congr 2
  have := sl_lt_iff (row t 0) (row t (q + 1)) (row t (i + 1)) (row_ne_whole t q hq') (row_ne_whole t i hi)
  have h2 := row_lt_iff t (q + 1) (i + 1) (by omega) (by omega)
  rw [Bool.eq_iff_iff, ← h2, ← this, decide_eq_true_iff]
  exact Iff.rfl

/-! the rows that bytes ahead lead to -/
def stp (a : List UInt8) (h : Nat) : Nat → Option Nat
  | 0 => some 0
  | j + 1 => (stp a h j).bind fun r => if r = h then none else some (LF a (sl h r))

def rowsOf (a : List UInt8) (h : Nat) : List Nat := (List.range (a.length + 1)).map fun p => (stp a h (a.length - p)).getD 0

def textOf (a : List UInt8) (h : Nat) : List UInt8 := (List.range a.length).map fun p => if (rowsOf a h).getD (p + 1) 0 = h then 0 else a.getD (sl h ((rowsOf a h).getD (p + 1) 0)) 0

theorem stp_le (a : List UInt8) (h : Nat) (hh : h ≤ a.length) : ∀ j r, stp a h j = some r → r ≤ a.length
  | 0, r, e => by simp [stp] at e; omega
  | j + 1, r, e => by
    rw [stp] at e
    cases hs : stp a h j with
    | none => rw [hs] at e; cases e
    | some s =>
      rw [hs] at e
      simp only [Option.bind_some] at e
      split at e
      · cases e
      · next hne =>
        simp at e
        rw [← e]
        exact LF_le _ _ (sl_lt h s a.length hh (stp_le a h hh j s hs) hne)

theorem rowsOf_length (a : List UInt8) (h : Nat) : (rowsOf a h).length = a.length + 1 := by simp [rowsOf]

theorem rowsOf_at (a : List UInt8) (h p : Nat) (hp : p ≤ a.length) : (rowsOf a h).getD p 0 = (stp a h (a.length - p)).getD 0 := by
  unfold rowsOf
  rw [List.getD_eq_getElem?_getD, List.getElem?_map, List.getElem?_range (by omega)]
  rfl

theorem rowsOf_le (a : List UInt8) (h : Nat) (hh : h ≤ a.length) (p : Nat) (hp : p ≤ a.length) : (rowsOf a h).getD p 0 ≤ a.length := by
  rw [rowsOf_at a h p hp]
  cases e : stp a h (a.length - p) with
  | none => simp
  | some r => exact stp_le a h hh _ r e

theorem stp_row (t : List UInt8) : ∀ j, j ≤ t.length → stp (ahead t) (row t 0) j = some (row t (t.length - j))
  | 0, _ => by simp [stp, row_end]
  | j + 1, hj => by
    rw [stp, stp_row t j (by omega)]
    simp only [Option.bind_some]
    have e : t.length - j = (t.length - (j + 1)) + 1 := by omega
    have hlt : t.length - (j + 1) < t.length := by omega
    rw [e, if_neg (row_ne_whole t _ hlt)]
    exact congrArg some (LF_row t _ hlt)

theorem rowsOf_ahead (t : List UInt8) : rowsOf (ahead t) (row t 0) = (List.range (t.length + 1)).map (row t) := by
  unfold rowsOf
  rw [ahead_length]
  refine List.map_congr_left (fun p hp => ?_)
  have : p ≤ t.length := by have := List.mem_range.1 hp; omega
  rw [stp_row t _ (by omega)]
  show row t (t.length - (t.length - p)) = _
  congr 1
  omega

theorem textOf_ahead (t : List UInt8) : textOf (ahead t) (row t 0) = t := by
  unfold textOf
  apply List.ext_getElem
  · simp [ahead_length]
  · intro i h1 h2
    have e : (rowsOf (ahead t) (row t 0)).getD (i + 1) 0 = row t (i + 1) := by
      rw [rowsOf_ahead, List.getD_eq_getElem?_getD, List.getElem?_map, List.getElem?_range (by omega)]
      rfl
    rw [List.getElem_map, List.getElem_range, e, if_neg (row_ne_whole t i h2)]
    have := ahead_at t i h2
    unfold sig at this
    rw [this]
    simp [List.getElem?_eq_getElem h2]

theorem textOf_length (a : List UInt8) (h : Nat) : (textOf a h).length = a.length := by simp [textOf]
end Go.Proofs.Ytjmkkkfloalliab.M
