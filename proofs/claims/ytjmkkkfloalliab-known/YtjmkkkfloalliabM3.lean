import Derived.Test.YtjmkkkfloalliabM2
namespace Go.Proofs.Ytjmkkkfloalliab.M
set_option linter.unusedVariables false
/-- the rows from place q on, as the walk from the end lays them; the others 0 -/
def rp (a : List UInt8) (h q : Nat) : List Int := (List.range (a.length + 1)).map fun p => if q ≤ p then (((rowsOf a h).getD p 0 : Nat) : Int) else 0
def rowsI (a : List UInt8) (h : Nat) : List Int := (rowsOf a h).map fun (r : Nat) => (r : Int)
theorem rowsI_length (a : List UInt8) (h : Nat) : (rowsI a h).length = a.length + 1 := by simp [rowsI, rowsOf_length]
theorem rowsI_at (a : List UInt8) (h p : Nat) : (rowsI a h).getD p 0 = (((rowsOf a h).getD p 0 : Nat) : Int) := by
  unfold rowsI
  rw [List.getD_eq_getElem?_getD, List.getD_eq_getElem?_getD, List.getElem?_map]
  cases (rowsOf a h)[p]? <;> rfl
theorem rp_length (a : List UInt8) (h q : Nat) : (rp a h q).length = a.length + 1 := by simp [rp]
theorem rowsOf_end (a : List UInt8) (h : Nat) : (rowsOf a h).getD a.length 0 = 0 := by
  rw [rowsOf_at a h _ (Nat.le_refl _)]; simp [stp]
theorem rp_start (a : List UInt8) (h : Nat) : rp a h a.length = List.replicate (a.length + 1) 0 := by
  rw [List.eq_replicate_iff]
  refine ⟨rp_length _ _ _, fun b hb => ?_⟩
  obtain ⟨p, hp, rfl⟩ := List.mem_map.1 hb
  have hp' := List.mem_range.1 hp
  by_cases e : a.length ≤ p
  · have : p = a.length := by omega
    subst this
    rw [if_pos (Nat.le_refl _), rowsOf_end]; rfl
  · rw [if_neg e]
theorem rp_at (a : List UInt8) (h q : Nat) (hq : q ≤ a.length) : (rp a h q).getD q 0 = (((rowsOf a h).getD q 0 : Nat) : Int) := by
  unfold rp
  rw [List.getD_eq_getElem?_getD, List.getElem?_map, List.getElem?_range (by omega)]
  simp
theorem rp_set (a : List UInt8) (h q : Nat) : (rp a h (q + 1)).set q (((rowsOf a h).getD q 0 : Nat) : Int) = rp a h q := by
  apply List.ext_getElem
  · simp [rp]
  · intro i h1 h2
    simp only [rp, List.getElem_set, List.getElem_map, List.getElem_range]
    by_cases e : q = i
    · subst e; simp
    · rw [if_neg e]
      by_cases h : q + 1 ≤ i
      · rw [if_pos h, if_pos (by omega)]
      · rw [if_neg h, if_neg (by omega)]
theorem rp_zero (a : List UInt8) (h : Nat) : rp a h 0 = rowsI a h := by
  apply List.ext_getElem
  · simp [rp_length, rowsI_length]
  · intro i h1 h2
    have hi : i < (rowsOf a h).length := by rw [rowsOf_length]; rw [rp_length] at h1; exact h1
    simp [rp, rowsI, List.getElem?_eq_getElem hi]
theorem stp_none (a : List UInt8) (h j : Nat) (e : stp a h j = some h) : ∀ d, stp a h (j + d + 1) = none
  | 0 => by show (stp a h (j + 0 + 1)) = none; rw [stp]; show (stp a h j).bind _ = none; rw [e]; simp
  | d + 1 => by show stp a h (j + d + 1 + 1) = none; rw [stp, stp_none a h j e d]; rfl
/-- the walk has met the row of the whole text: the places ahead are left at 0 -/
theorem rp_stop (a : List UInt8) (h q : Nat) (hq : q ≤ a.length) (e : stp a h (a.length - q) = some h) : rp a h q = rowsI a h := by
  rw [← rp_zero]
  unfold rp
  refine List.map_congr_left (fun p hp => ?_)
  have hp' := List.mem_range.1 hp
  by_cases hqp : q ≤ p
  · rw [if_pos hqp, if_pos (by omega)]
  · rw [if_neg hqp, if_pos (by omega), rowsOf_at a h p (by omega)]
    have := stp_none a h (a.length - q) e (q - p - 1)
    rw [show a.length - q + (q - p - 1) + 1 = a.length - p from by omega] at this
    rw [this]; rfl
theorem stp_next (a : List UInt8) (h q r : Nat) (hq : q + 1 ≤ a.length) (e : stp a h (a.length - (q + 1)) = some r) (hne : r ≠ h) : stp a h (a.length - q) = some (LF a (sl h r)) := by
  rw [show a.length - q = (a.length - (q + 1)) + 1 from by omega, stp, e]
  simp [hne]
theorem rowsOf_some (a : List UInt8) (h q r : Nat) (hq : q ≤ a.length) (e : stp a h (a.length - q) = some r) : (rowsOf a h).getD q 0 = r := by
  rw [rowsOf_at a h q hq, e]; rfl

/-- the text's first k bytes -/
def txTo (a : List UInt8) (h k : Nat) : List UInt8 := (List.range a.length).map fun p => if p < k then (textOf a h).getD p 0 else 0
theorem txTo_zero (a : List UInt8) (h : Nat) : txTo a h 0 = List.replicate a.length 0 := by
  rw [List.eq_replicate_iff]; simp [txTo]
theorem txTo_length (a : List UInt8) (h k : Nat) : (txTo a h k).length = a.length := by simp [txTo]
theorem txTo_set (a : List UInt8) (h k : Nat) : (txTo a h k).set k ((textOf a h).getD k 0) = txTo a h (k + 1) := by
  apply List.ext_getElem
  · simp [txTo]
  · intro i h1 h2
    simp only [txTo, List.getElem_set, List.getElem_map, List.getElem_range]
    by_cases e : k = i
    · subst e; simp
    · rw [if_neg e]
      by_cases h : i < k
      · rw [if_pos h, if_pos (by omega)]
      · rw [if_neg h, if_neg (by omega)]
theorem txTo_all (a : List UInt8) (h : Nat) : txTo a h a.length = textOf a h := by
  apply List.ext_getElem
  · simp [txTo_length, textOf_length]
  · intro i h1 h2
    have : i < a.length := by rw [txTo_length] at h1; exact h1
    simp [txTo, this, List.getElem?_eq_getElem h2]
theorem textOf_at (a : List UInt8) (h p : Nat) (hp : p < a.length) : (textOf a h).getD p 0 = if (rowsOf a h).getD (p + 1) 0 = h then 0 else a.getD (sl h ((rowsOf a h).getD (p + 1) 0)) 0 := by
  unfold textOf
  rw [List.getD_eq_getElem?_getD, List.getElem?_map, List.getElem?_range hp]; rfl
theorem txTo_skip (a : List UInt8) (h k : Nat) (hk : k < a.length) (e : (textOf a h).getD k 0 = 0) : txTo a h k = txTo a h (k + 1) := by
  unfold txTo
  refine List.map_congr_left (fun p _ => ?_)
  by_cases h1 : p < k
  · rw [if_pos h1, if_pos (by omega)]
  · by_cases h2 : p = k
    · subst h2; rw [if_neg h1, if_pos (by omega), e]
    · rw [if_neg h1, if_neg (by omega)]
end Go.Proofs.Ytjmkkkfloalliab.M
