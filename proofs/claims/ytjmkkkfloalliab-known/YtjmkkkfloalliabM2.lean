import Derived.Test.YtjmkkkfloalliabM1
-- the counts of longerRows, as plain mathematics
namespace Go.Proofs.Ytjmkkkfloalliab.M
set_option linter.unusedVariables false

def cnt (a : List UInt8) (c : Nat) : Nat := a.countP (fun x => x.toNat == c)
def bel (a : List UInt8) (c : Nat) : Nat := a.countP (fun x => decide (x.toNat < c))

theorem cnt_le (a : List UInt8) (c : Nat) : cnt a c ≤ a.length := List.countP_le_length
theorem bel_le (a : List UInt8) (c : Nat) : bel a c ≤ a.length := List.countP_le_length
theorem bel_zero (a : List UInt8) : bel a 0 = 0 := by unfold bel; rw [List.countP_eq_zero]; simp
theorem bel_succ (a : List UInt8) (c : Nat) : bel a (c + 1) = bel a c + cnt a c := by
  unfold bel cnt
  rw [← countP_or]
  · refine countP_congr_of _ _ _ (fun x _ => ?_)
    rw [Bool.eq_iff_iff]; simp; omega
  · intro x _ h
    simp at h ⊢; omega
theorem cnt_take (a : List UInt8) (k : Nat) (hk : k < a.length) (c : Nat) : cnt (a.take (k + 1)) c = cnt (a.take k) c + if (a.getD k 0).toNat = c then 1 else 0 := by
  unfold cnt
  rw [List.take_succ_eq_append_getElem hk, List.countP_append, List.countP_singleton]
  have : a.getD k 0 = a[k] := by rw [List.getD_eq_getElem?_getD, List.getElem?_eq_getElem hk]; rfl
  rw [this]
  simp

/-- 256 numbers, one a byte -/
def tab (f : Nat → Nat) : List Int := (List.range 256).map fun c => (f c : Int)
theorem tab_length (f : Nat → Nat) : (tab f).length = 256 := by unfold tab; rw [List.length_map, List.length_range]
theorem tab_at (f : Nat → Nat) (c : Nat) (hc : c < 256) : (tab f).getD c 0 = (f c : Int) := by
  unfold tab
  rw [List.getD_eq_getElem?_getD, List.getElem?_map, List.getElem?_range hc]; rfl
theorem tab_set (f g : Nat → Nat) (c v : Nat) (hv : g c = v) (h : ∀ d, d < 256 → d ≠ c → g d = f d) : (tab f).set c (v : Int) = tab g := by
  apply List.ext_getElem
  · simp [tab_length]
  · intro i h1 h2
    have hi : i < 256 := by rw [tab_length] at h2; exact h2
    rw [List.getElem_set]
    by_cases e : c = i
    · subst e
      simp only [if_true]
      simp [tab, hv]
    · rw [if_neg e]
      simp [tab, h i hi (Ne.symm e)]

def c1 (a : List UInt8) (k c : Nat) : Nat := cnt (a.take k) c
def c2 (a : List UInt8) (k c : Nat) : Nat := if c < k then 1 + bel a c else cnt a c
def c3 (a : List UInt8) (k c : Nat) : Nat := 1 + bel a c + cnt (a.take k) c

theorem c1_zero (a : List UInt8) : tab (c1 a 0) = List.replicate 256 0 := by
  rw [List.eq_replicate_iff]
  refine ⟨tab_length _, fun b hb => ?_⟩
  unfold tab at hb
  obtain ⟨c, _, rfl⟩ := List.mem_map.1 hb
  simp [c1, cnt]
theorem c1_step (a : List UInt8) (k : Nat) (hk : k < a.length) :
    (tab (c1 a k)).set (a.getD k 0).toNat (((c1 a k (a.getD k 0).toNat : Nat) : Int) + 1) = tab (c1 a (k + 1)) := by
  refine tab_set _ _ _ (c1 a k (a.getD k 0).toNat + 1) ?_ ?_
  · unfold c1; rw [cnt_take a k hk]; simp
  · intro d _ hd
    unfold c1; rw [cnt_take a k hk, if_neg (fun e => hd e.symm)]; rfl
theorem c1_all (a : List UInt8) : tab (c1 a a.length) = tab (c2 a 0) := by
  unfold tab
  refine List.map_congr_left (fun c _ => ?_)
  simp [c1, c2]
theorem c2_step (a : List UInt8) (c : Nat) : (tab (c2 a c)).set c (((1 + bel a c : Nat) : Int)) = tab (c2 a (c + 1)) := by
  refine tab_set _ _ _ (1 + bel a c) ?_ ?_
  · unfold c2; rw [if_pos (by omega)]
  · intro d _ hd
    unfold c2
    by_cases h : d < c
    · rw [if_pos h, if_pos (by omega)]
    · rw [if_neg h, if_neg (by omega)]
theorem c2_at (a : List UInt8) (c : Nat) : c2 a c c = cnt a c := by unfold c2; rw [if_neg (by omega)]
theorem c2_all (a : List UInt8) : tab (c2 a 256) = tab (c3 a 0) := by
  unfold tab
  refine List.map_congr_left (fun c hc => ?_)
  have := List.mem_range.1 hc
  simp [c2, c3, this, cnt]
theorem c3_step (a : List UInt8) (k : Nat) (hk : k < a.length) :
    (tab (c3 a k)).set (a.getD k 0).toNat (((c3 a k (a.getD k 0).toNat : Nat) : Int) + 1) = tab (c3 a (k + 1)) := by
  refine tab_set _ _ _ (c3 a k (a.getD k 0).toNat + 1) ?_ ?_
  · unfold c3; rw [cnt_take a k hk, if_pos rfl]; omega
  · intro d _ hd
    unfold c3; rw [cnt_take a k hk, if_neg (fun e => hd e.symm)]; rfl
theorem c3_LF (a : List UInt8) (k : Nat) : c3 a k (a.getD k 0).toNat = LF a k := by
  unfold c3 LF bel cnt
  congr 1
  refine countP_congr_of _ _ _ (fun x _ => ?_)
  rw [Bool.eq_iff_iff]
  simp only [beq_iff_eq]
  exact UInt8.toNat_inj
theorem c1_le (a : List UInt8) (k c : Nat) : c1 a k c ≤ a.length := Nat.le_trans (cnt_le _ _) (List.length_take_le' _ _)
theorem c3_le (a : List UInt8) (k c : Nat) : c3 a k c ≤ 1 + a.length + a.length := by
  have h1 := bel_le a c
  have h2 : cnt (a.take k) c ≤ a.length := Nat.le_trans (cnt_le _ _) (List.length_take_le' _ _)
  unfold c3; omega

/-- the longer rows of the first k slots -/
def lonTo (a : List UInt8) (k : Nat) : List Int := (List.range a.length).map fun j => if j < k then (LF a j : Int) else 0
def lonL (a : List UInt8) : List Int := (List.range a.length).map fun j => (LF a j : Int)
theorem lonTo_zero (a : List UInt8) : lonTo a 0 = List.replicate a.length 0 := by
  unfold lonTo
  rw [List.eq_replicate_iff]
  simp
theorem lonTo_length (a : List UInt8) (k : Nat) : (lonTo a k).length = a.length := by simp [lonTo]
theorem lonTo_set (a : List UInt8) (k : Nat) : (lonTo a k).set k (LF a k : Int) = lonTo a (k + 1) := by
  apply List.ext_getElem
  · simp [lonTo]
  · intro i h1 h2
    simp [lonTo, List.getElem_set]
    by_cases e : k = i
    · subst e; simp
    · rw [if_neg e]
      by_cases h : i < k
      · rw [if_pos h, if_pos (by omega)]
      · rw [if_neg h, if_neg (by omega)]
theorem lonTo_all (a : List UInt8) : lonTo a a.length = lonL a := by
  unfold lonTo lonL
  refine List.map_congr_left (fun i hi => ?_)
  rw [if_pos (List.mem_range.1 hi)]
theorem lonL_at (a : List UInt8) (p : Nat) (hp : p < a.length) : (lonL a).getD p 0 = (LF a p : Int) := by
  unfold lonL
  rw [List.getD_eq_getElem?_getD, List.getElem?_map, List.getElem?_range hp]
  rfl
theorem lonL_length (a : List UInt8) : (lonL a).length = a.length := by simp [lonL]
end Go.Proofs.Ytjmkkkfloalliab.M
