import Derived.Test.YtjmkkkfloalliabYA
import Derived.Test.YtjmkkkfloalliabM3
-- the program's walk through an index, as plain mathematics
namespace Go.Proofs.Ytjmkkkfloalliab.Q
set_option linter.unusedVariables false
open M (LF sl)

structure St where
  low : Nat
  high : Nat
  places : Nat
  twin : Nat
structure Wk where
  list : List St
  newest : List Nat
def st0 : St := ⟨0, 0, 0, 0⟩
def stAt (l : List St) (k : Nat) : St := l.getD k st0

/-- is it among those that begin at the same row? -/
def hasF (l : List St) (s : St) : Nat → Nat → Bool
  | 0, _ => false
  | f + 1, k => if k = 0 then false else if (stAt l (k - 1)).high = s.high ∧ (stAt l (k - 1)).places = s.places then true else hasF l s f (stAt l (k - 1)).twin
def has (w : Wk) (s : St) : Bool := hasF w.list s (w.newest.getD s.low 0 + 1) (w.newest.getD s.low 0)
def put (w : Wk) (s : St) : Wk := ⟨w.list ++ [{ s with twin := w.newest.getD s.low 0 }], w.newest.set s.low (w.list.length + 1)⟩
def addS (memo : Bool) (w : Wk) (s : St) : Wk := if memo = true ∧ has w s = true then w else put w s

/-- how often byte c stands in a from i to before k -/
def cntIn (a : List UInt8) (i k : Nat) (c : UInt8) : Nat := ((a.take k).drop i).countP (fun x => x == c)
variable (a : List UInt8) (h : Nat) (P : Pat) (memo : Bool)
/-- the step at slot k -/
def oneOn (s : St) (k : Nat) (w : Wk) : Wk :=
  if cntIn a (sl h s.low) k (a.getD k 0) = 0 ∧ aheadOf P s.places (a.getD k 0).toNat ≠ 0 then
    addS memo w ⟨LF a k, LF a k + cntIn a (sl h s.low) (sl h s.high) (a.getD k 0), aheadOf P s.places (a.getD k 0).toNat, 0⟩
  else w
/-- the first d slots -/
def goTo (s : St) (w : Wk) : Nat → Wk
  | 0 => w
  | d + 1 => oneOn a h P memo s (sl h s.low + d) (goTo s w d)
def goOn (s : St) (w : Wk) : Wk := goTo a h P memo s w (sl h s.high - sl h s.low)
def run (budget : Nat) : Nat → Nat → Wk → Wk
  | 0, _, w => w
  | f + 1, k, w => if k < w.list.length ∧ w.list.length ≤ budget then run budget f (k + 1) (goOn a h P memo (stAt w.list k) w) else w
def wk0 : Wk := addS memo ⟨[], List.replicate (a.length + 1) 0⟩ ⟨0, a.length + 1, 1, 0⟩
def runAll (budget : Nat) : Wk := run a h P memo budget (budget + 1) 0 (wk0 a memo)

variable {a h P memo}
structure StOk (n : Nat) (s : St) : Prop where
  le : s.low ≤ s.high
  high : s.high ≤ n + 1
  places : s.places < 2 ^ 49
structure WkOk (n : Nat) (w : Wk) : Prop where
  len : w.newest.length = n + 1
  new : ∀ r, w.newest.getD r 0 ≤ w.list.length
  st : ∀ k, k < w.list.length → StOk n (stAt w.list k) ∧ (stAt w.list k).twin ≤ k
theorem stAt_app (l m : List St) (k : Nat) (hk : k < l.length) : stAt (l ++ m) k = stAt l k := by
  unfold stAt
  rw [List.getD_eq_getElem?_getD, List.getD_eq_getElem?_getD, List.getElem?_append_left hk]
theorem stAt_new (l : List St) (s : St) : stAt (l ++ [s]) l.length = s := by
  unfold stAt
  rw [List.getD_eq_getElem?_getD]
  simp
theorem put_ok {n : Nat} {w : Wk} {s : St} (h : WkOk n w) (hs : StOk n s) : WkOk n (put w s) := by
  refine ⟨by simp [put, h.len], fun r => ?_, fun k hk => ?_⟩
  · simp only [put, List.length_append, List.length_singleton]
    rw [List.getD_eq_getElem?_getD, List.getElem?_set]
    split
    · split <;> simp
    · have := h.new r
      rw [List.getD_eq_getElem?_getD] at this
      omega
  · simp only [put, List.length_append, List.length_singleton] at hk ⊢
    rcases Nat.lt_or_ge k w.list.length with h1 | h1
    · rw [stAt_app _ _ _ h1]
      exact h.st k h1
    · have : k = w.list.length := by omega
      subst this
      rw [stAt_new]
      exact ⟨⟨hs.le, hs.high, hs.places⟩, h.new _⟩
theorem addS_ok {n : Nat} {w : Wk} {s : St} (memo : Bool) (h : WkOk n w) (hs : StOk n s) : WkOk n (addS memo w s) := by
  unfold addS
  split
  · exact h
  · exact put_ok h hs
theorem addS_len (memo : Bool) (w : Wk) (s : St) : w.list.length ≤ (addS memo w s).list.length ∧ (addS memo w s).list.length ≤ w.list.length + 1 := by
  unfold addS
  split
  · omega
  · simp [put]
theorem cntIn_le (a : List UInt8) (i k : Nat) (c : UInt8) : cntIn a i k c ≤ a.length := by
  unfold cntIn
  refine Nat.le_trans List.countP_le_length ?_
  simp
  omega
theorem cntIn_self (a : List UInt8) (i : Nat) (c : UInt8) : cntIn a i i c = 0 := by
  unfold cntIn
  rw [List.drop_of_length_le (by simp; omega)]
  rfl
theorem take_cnt (a : List UInt8) (i k : Nat) (hik : i ≤ k) (c : UInt8) : (a.take k).countP (fun x => x == c) = (a.take i).countP (fun x => x == c) + cntIn a i k c := by
  unfold cntIn
  conv => lhs; rw [← List.take_append_drop i (a.take k)]
  rw [List.countP_append, List.take_take, Nat.min_eq_left hik]
theorem cntIn_step (a : List UInt8) (i k : Nat) (hik : i ≤ k) (hk : k < a.length) (c : UInt8) : cntIn a i (k + 1) c = cntIn a i k c + if a.getD k 0 = c then 1 else 0 := by
  have h1 := take_cnt a i k hik c
  have h2 := take_cnt a i (k + 1) (by omega) c
  have h3 : (a.take (k + 1)).countP (fun x => x == c) = (a.take k).countP (fun x => x == c) + if a.getD k 0 = c then 1 else 0 := by
    rw [List.take_succ_eq_append_getElem hk, List.countP_append]
    have : a.getD k 0 = a[k] := by rw [List.getD_eq_getElem?_getD, List.getElem?_eq_getElem hk]; rfl
    rw [this]
    by_cases e : a[k] = c
    · simp [e]
    · simp [e]
  omega
/-- the rows that are gone on to are there -/
theorem LF_room (a : List UInt8) (i j k : Nat) (hik : i ≤ k) (hkj : k < j) (hj : j ≤ a.length) (h0 : cntIn a i k (a.getD k 0) = 0) : LF a k + cntIn a i j (a.getD k 0) ≤ a.length + 1 := by
  unfold LF
  have h1 := take_cnt a i k hik (a.getD k 0)
  have h2 := take_cnt a i j (by omega) (a.getD k 0)
  have h3 : (a.take j).countP (fun x => x == a.getD k 0) ≤ a.countP (fun x => x == a.getD k 0) := List.Sublist.countP_le (List.take_sublist _ _)
  have h4 : a.countP (fun c => c < a.getD k 0) + a.countP (fun x => x == a.getD k 0) ≤ a.length := by
    rw [← M.countP_or (fun c => decide (c < a.getD k 0)) (fun x => x == a.getD k 0) a (fun x _ hx => ?_)]
    · exact List.countP_le_length
    · simp only [decide_eq_true_eq] at hx
      rw [beq_eq_false_iff_ne]
      intro e
      subst e
      exact absurd hx (by simp)
  omega
theorem sl_le (h r n : Nat) (hh : h ≤ n) (hr : r ≤ n + 1) : sl h r ≤ n := by unfold sl; split <;> omega
theorem sl_mono (h r s : Nat) (hrs : r ≤ s) : sl h r ≤ sl h s := by unfold sl; split <;> split <;> omega
theorem oneOn_ok {w : Wk} {s : St} (hP : PatOk P) (hh : h ≤ a.length) (hw : WkOk a.length w) (hs : StOk a.length s) (k : Nat) (h1 : sl h s.low ≤ k) (h2 : k < sl h s.high) : WkOk a.length (oneOn a h P memo s k w) := by
  unfold oneOn
  split
  · next hc =>
    refine addS_ok memo hw ⟨by simp, ?_, lt64 hP (aheadOf_lt hP _ _)⟩
    exact LF_room a _ _ k h1 h2 (sl_le _ _ _ hh hs.high) hc.1
  · exact hw
theorem goTo_ok {w : Wk} {s : St} (hP : PatOk P) (hh : h ≤ a.length) (hw : WkOk a.length w) (hs : StOk a.length s) : ∀ d, sl h s.low + d ≤ sl h s.high → WkOk a.length (goTo a h P memo s w d)
  | 0, _ => hw
  | d + 1, hd => oneOn_ok hP hh (goTo_ok hP hh hw hs d (by omega)) hs _ (by omega) (by omega)
theorem goOn_ok {w : Wk} {s : St} (hP : PatOk P) (hh : h ≤ a.length) (hw : WkOk a.length w) (hs : StOk a.length s) : WkOk a.length (goOn a h P memo s w) :=
  goTo_ok hP hh hw hs _ (by have := sl_mono h s.low s.high hs.le; omega)
theorem oneOn_len (s : St) (k : Nat) (w : Wk) : w.list.length ≤ (oneOn a h P memo s k w).list.length ∧ (oneOn a h P memo s k w).list.length ≤ w.list.length + 1 := by
  unfold oneOn
  split
  · exact addS_len _ _ _
  · omega
theorem goTo_len (s : St) (w : Wk) : ∀ d, w.list.length ≤ (goTo a h P memo s w d).list.length ∧ (goTo a h P memo s w d).list.length ≤ w.list.length + d
  | 0 => by simp [goTo]
  | d + 1 => by
    have h1 := goTo_len s w d
    have h2 := oneOn_len (a := a) (h := h) (P := P) (memo := memo) s (sl h s.low + d) (goTo a h P memo s w d)
    simp only [goTo]
    omega
theorem run_ok (hP : PatOk P) (hh : h ≤ a.length) (budget : Nat) : ∀ (f k : Nat) (w : Wk), WkOk a.length w → WkOk a.length (run a h P memo budget f k w)
  | 0, _, _, hw => hw
  | f + 1, k, w, hw => by
    unfold run
    split
    · next hc => exact run_ok hP hh budget f _ _ (goOn_ok hP hh hw (hw.st k hc.1).1)
    · exact hw
theorem wk0_ok (hp : True) : WkOk a.length (wk0 a memo) := by
  refine addS_ok memo ⟨List.length_replicate, fun r => ?_, fun k hk => by simp at hk⟩ ⟨by simp, by simp, by show 1 < 2 ^ 49; decide⟩
  rw [List.getD_eq_getElem?_getD, List.getElem?_replicate]
  split <;> simp

/-- the rows that are marked behind the first k stretches -/
def mark (P : Pat) (l : List St) : Nat → Nat → Bool
  | 0, _ => false
  | k + 1, r => mark P l k r || ((stAt l k).places &&& P.begins != 0 && (decide ((stAt l k).low ≤ r) && decide (r < (stAt l k).high)))
def marks (P : Pat) (l : List St) (n k : Nat) : List Bool := (List.range (n + 1)).map (mark P l k)
/-- the places of the marked rows, among the first k -/
def placed (m : List Bool) (rows : List Nat) (k : Nat) : List Nat := (List.range k).filter fun p => m.getD (rows.getD p 0) false
end Go.Proofs.Ytjmkkkfloalliab.Q
