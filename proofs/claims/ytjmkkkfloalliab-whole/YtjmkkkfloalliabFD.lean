import Derived.Test.YtjmkkkfloalliabFC
import Derived.Test.YtjmkkkfloalliabZA
-- what Search answers, without an index
namespace Go.Proofs.Ytjmkkkfloalliab
set_option linter.unusedVariables false

namespace Q
/-- does P take u, which is not empty? -/
def acc (P : Pat) (u : List UInt8) : Bool := pl P u &&& P.begins != 0
/-- where texts that P takes begin -/
def hit (t : List UInt8) (P : Pat) (p : Nat) : Bool := (List.range (t.length + 1)).any fun l => acc P ((t.drop p).take l)
def hits (t : List UInt8) (P : Pat) : List Nat := (List.range (t.length + 1)).filter (hit t P)
theorem hit_iff (t : List UInt8) (P : Pat) (p : Nat) : hit t P p = true ↔ ∃ u, M.pre u (t.drop p) = true ∧ acc P u = true := by
  unfold hit
  rw [List.any_eq_true]
  constructor
  · rintro ⟨l, _, h⟩
    exact ⟨_, (M.pre_iff _ _).2 ⟨(t.drop p).drop l, (List.take_append_drop l _).symm⟩, h⟩
  · rintro ⟨u, h, g⟩
    obtain ⟨y, e⟩ := (M.pre_iff _ _).1 h
    refine ⟨u.length, List.mem_range.2 ?_, ?_⟩
    · have := congrArg List.length e
      simp at this
      omega
    · rw [e, List.take_left]; exact g
theorem mark_iff (P : Pat) (l : List St) (r : Nat) : ∀ k, mark P l k r = true ↔ ∃ j, j < k ∧ ((stAt l j).places &&& P.begins) ≠ 0 ∧ (stAt l j).low ≤ r ∧ r < (stAt l j).high
  | 0 => by simp [mark]
  | k + 1 => by
    simp only [mark, Bool.or_eq_true, Bool.and_eq_true, decide_eq_true_eq, bne_iff_ne, mark_iff P l r k]
    constructor
    · rintro (⟨j, a, b⟩ | ⟨b, d⟩)
      · exact ⟨j, by omega, b⟩
      · exact ⟨k, by omega, b, d⟩
    · rintro ⟨j, a, b⟩
      rcases Nat.lt_or_ge j k with g | g
      · exact .inl ⟨j, g, b⟩
      · have : j = k := by omega
        subst this
        exact .inr b
theorem mark_hit (t : List UInt8) (P : Pat) (memo : Bool) (p : Nat) (hp : p ≤ t.length) : mark P (full t P memo).list (full t P memo).list.length (M.row t p) = hit t P p := by
  obtain ⟨f, h⟩ := full_inv (t := t) (P := P) (memo := memo)
  rw [Bool.eq_iff_iff, mark_iff, hit_iff]
  constructor
  · rintro ⟨j, a, b, d⟩
    obtain ⟨g, _⟩ := h.st j a
    refine ⟨f j, (M.in_rows t _ p hp).1 ?_, ?_⟩
    · rw [← g.2.1, ← g.1]; exact d
    · unfold acc
      rw [← g.2.2]
      simpa using b
  · rintro ⟨u, a, b⟩
    have hb : (pl P u &&& P.begins) ≠ 0 := by simpa [acc] using b
    have hl : Live t P u := ⟨M.num_pos hp a, fun e => hb (by rw [e]; simp)⟩
    obtain ⟨j, j1, j2⟩ := h.all (by unfold steps; exact Nat.le_refl _) u hl
    refine ⟨j, j1, by rw [j2.2.2]; exact hb, ?_⟩
    rw [j2.1, j2.2.1]
    exact (M.in_rows t u p hp).2 a
theorem row_perm (t : List UInt8) : ((List.range (t.length + 1)).map (M.row t)).Perm (List.range (t.length + 1)) := by
  refine M.perm_of _ _ ?_ ?_ (by simp)
  · rw [List.nodup_iff_pairwise_ne, List.pairwise_map]
    have := List.nodup_range (n := t.length + 1)
    rw [List.nodup_iff_pairwise_ne] at this
    exact this.imp_of_mem (fun {a b} ha hb hne e => hne (M.row_inj t a b (by have := List.mem_range.1 ha; omega) (by have := List.mem_range.1 hb; omega) e))
  · intro x hx
    obtain ⟨p, hp, rfl⟩ := List.mem_map.1 hx
    have := M.row_le t p (by have := List.mem_range.1 hp; omega)
    exact List.mem_range.2 (by omega)
theorem found_hits (t : List UInt8) (P : Pat) (memo : Bool) : found P (M.ahead t) (M.row t 0) (full t P memo) = hits t P := by
  have hal := M.ahead_length t
  have hmk : ∀ r, r ≤ t.length → (marks P (full t P memo).list t.length (full t P memo).list.length).getD r false = mark P (full t P memo).list (full t P memo).list.length r := fun r hr => by
    unfold marks
    rw [List.getD_eq_getElem?_getD, List.getElem?_map, List.getElem?_range (by omega)]
    rfl
  have hrw : ∀ p, p ≤ t.length → (M.rowsOf (M.ahead t) (M.row t 0)).getD p 0 = M.row t p := fun p hp => by
    rw [M.rowsOf_ahead, List.getD_eq_getElem?_getD, List.getElem?_map, List.getElem?_range (by omega)]
    rfl
  have hpl : placed (marks P (full t P memo).list t.length (full t P memo).list.length) (M.rowsOf (M.ahead t) (M.row t 0)) (t.length + 1) = hits t P := by
    unfold placed hits
    refine List.filter_congr (fun p hp => ?_)
    have hp' : p ≤ t.length := by have := List.mem_range.1 hp; omega
    rw [hrw p hp', hmk _ (M.row_le t p hp'), mark_hit t P memo p hp']
  have hc : cntT (marks P (full t P memo).list t.length (full t P memo).list.length) (t.length + 1) = (hits t P).length := by
    unfold cntT hits
    rw [List.take_of_length_le (by simp [marks]), ← List.countP_eq_length_filter]
    unfold marks
    rw [List.countP_map, ← (row_perm t).countP_eq, List.countP_map]
    refine M.countP_congr_of _ _ _ (fun p hp => ?_)
    exact mark_hit t P memo p (by have := List.mem_range.1 hp; omega)
  unfold found laidTo
  rw [hal, hpl, hc, List.take_length, Nat.sub_self]
  simp
/-- Search, of the index of t -/
theorem search_eq (t pat : List UInt8) (budget : Nat) (memo : Bool) (hb : budget ≤ 1048576) : search (M.ahead t) (M.row t 0) pat budget memo =
    match parse pat with
    | .error e => .error e
    | .ok P => if steps t P memo ≤ budget then .ok (hits t P) else .error (6, 0) := by
  unfold search
  rw [if_neg (by omega)]
  cases parse pat with
  | error e => rfl
  | ok P =>
    simp only [Int.toNat_natCast]
    by_cases h : steps t P memo ≤ budget
    · rw [runAll_yes h, if_pos h, found_hits, if_pos (show (full t P memo).list.length ≤ budget from h)]
    · rw [if_neg h, if_neg]
      have := runAll_no (t := t) (P := P) (memo := memo) (b := budget) (by omega)
      omega
theorem most_le {n : Nat} (h : n ≤ 200) : most n ≤ 20101 := by
  unfold most
  have : n * (n + 1) ≤ 200 * 201 := Nat.mul_le_mul h (by omega)
  omega
/-- with steps enough -/
theorem search_enough (t pat : List UInt8) (budget : Nat) (memo : Bool) (h : t.length ≤ 200) (h1 : most t.length ≤ budget) (hb : budget ≤ 1048576) : search (M.ahead t) (M.row t 0) pat budget memo =
    match parse pat with
    | .error e => .error e
    | .ok P => .ok (hits t P) := by
  rw [search_eq t pat budget memo hb]
  cases parse pat with
  | error e => rfl
  | ok P => exact if_pos (Nat.le_trans steps_le h1)
end Q
end Go.Proofs.Ytjmkkkfloalliab
