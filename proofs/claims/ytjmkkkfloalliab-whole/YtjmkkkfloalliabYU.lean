import Derived.Test.YtjmkkkfloalliabYT
-- the walk: what was found
namespace Go.Proofs.Ytjmkkkfloalliab
set_option linter.unusedVariables false
open Go.RowKit

def bools (l : List Bool) : List Value := l.map Value.bool
/-- a row of marks -/
def Marks (w : World) (b : Nat) (l : List Bool) : Prop := Blk w b (bools l)
theorem Marks.cell {w : World} {b : Nat} {l : List Bool} (h : Marks w b l) (i : Nat) (hi : i < l.length) : w.cell? ⟨b, i, none⟩ = some (.bool (l.getD i false)) := by
  rw [Blk.cell h i (by simpa [bools] using hi)]
  simp [bools, List.getElem?_eq_getElem hi]
theorem Marks.set {w : World} {b : Nat} {l : List Bool} (h : Marks w b l) (i : Nat) (v : Bool) : Marks (w.setCell ⟨b, i, none⟩ (.bool v)) b (l.set i v) := by
  have := Blk.set h i (.bool v)
  unfold Marks bools
  rw [List.map_set]
  exact this
/-- rows from low to before r are marked, too -/
def plus (l : List Bool) (low r : Nat) : List Bool := (List.range l.length).map fun i => l.getD i false || (decide (low ≤ i) && decide (i < r))
theorem plus_len (l : List Bool) (low r : Nat) : (plus l low r).length = l.length := by simp [plus]
theorem plus_self (l : List Bool) (low : Nat) : plus l low low = l := by
  apply List.ext_getElem?
  intro j
  rcases Nat.lt_or_ge j l.length with hj | hj
  · have : (decide (low ≤ j) && decide (j < low)) = false := by simp
    simp [plus, hj, this]
  · rw [List.getElem?_eq_none (by rw [plus_len]; exact hj), List.getElem?_eq_none hj]
theorem plus_step (l : List Bool) (low r : Nat) (h : low ≤ r) (hr : r < l.length) : (plus l low r).set r true = plus l low (r + 1) := by
  apply List.ext_getElem?
  intro j
  rw [List.getElem?_set]
  rcases Nat.lt_or_ge j l.length with hj | hj
  · by_cases e : r = j
    · subst e
      simp [plus, hj, h]
    · rw [if_neg e]
      simp only [plus, List.getElem?_map, List.getElem?_range hj, Option.map_some]
      by_cases h2 : j < r
      · simp [h2, show j < r + 1 by omega]
      · simp [h2, show ¬ j < r + 1 by omega]
  · rw [List.getElem?_eq_none (show (plus l low (r + 1)).length ≤ j by rw [plus_len]; exact hj), if_neg (by omega), List.getElem?_eq_none (by rw [plus_len]; exact hj)]
theorem marks_len (P : Q.Pat) (l : List Q.St) (n k : Nat) : (Q.marks P l n k).length = n + 1 := by simp [Q.marks]
theorem marks_zero (P : Q.Pat) (l : List Q.St) (n : Nat) : Q.marks P l n 0 = List.replicate (n + 1) false := by
  rw [List.eq_replicate_iff]
  refine ⟨marks_len _ _ _ _, fun b hb => ?_⟩
  unfold Q.marks at hb
  obtain ⟨c, _, rfl⟩ := List.mem_map.1 hb
  rfl
theorem marks_at (P : Q.Pat) (l : List Q.St) (n k i : Nat) (hi : i < n + 1) : (Q.marks P l n k).getD i false = Q.mark P l k i := by
  unfold Q.marks
  rw [List.getD_eq_getElem?_getD, List.getElem?_map, List.getElem?_range hi]
  rfl
theorem marks_step (P : Q.Pat) (l : List Q.St) (n k : Nat) : Q.marks P l n (k + 1) = if ((Q.stAt l k).places &&& P.begins != 0) = true then plus (Q.marks P l n k) (Q.stAt l k).low (Q.stAt l k).high else Q.marks P l n k := by
  split
  · next h =>
    unfold plus
    rw [marks_len]
    conv => lhs; unfold Q.marks
    apply List.map_congr_left
    intro i hi
    rw [marks_at _ _ _ _ _ (List.mem_range.1 hi)]
    conv => lhs; unfold Q.mark
    rw [h, Bool.true_and]
  · next h =>
    unfold Q.marks
    apply List.map_congr_left
    intro i hi
    conv => lhs; unfold Q.mark
    have : ((Q.stAt l k).places &&& P.begins != 0) = false := by simpa using h
    rw [this, Bool.false_and, Bool.or_false]
/-- how many of the first r are marked -/
def cntT (l : List Bool) (r : Nat) : Nat := (l.take r).countP id
theorem cntT_succ (l : List Bool) (r : Nat) (h : r < l.length) : cntT l (r + 1) = cntT l r + if l.getD r false = true then 1 else 0 := by
  unfold cntT
  rw [List.take_succ_eq_append_getElem h, List.countP_append, List.getD_eq_getElem?_getD, List.getElem?_eq_getElem h]
  simp
theorem cntT_le (l : List Bool) (r : Nat) : cntT l r ≤ l.length := Nat.le_trans List.countP_le_length (List.length_take_le' _ _)
/-- what is laid out behind the first p places -/
def laidTo (m : List Bool) (rows : List Nat) (c p : Nat) : List Nat := (Q.placed m rows p).take c ++ List.replicate (c - (Q.placed m rows p).length) 0
theorem placed_succ (m : List Bool) (rows : List Nat) (p : Nat) : Q.placed m rows (p + 1) = Q.placed m rows p ++ if m.getD (rows.getD p 0) false = true then [p] else [] := by
  unfold Q.placed
  rw [List.range_succ, List.filter_append]
  congr 1
  simp only [List.filter_cons, List.filter_nil]
theorem laidTo_zero (m : List Bool) (rows : List Nat) (c : Nat) : laidTo m rows c 0 = List.replicate c 0 := by
  unfold laidTo Q.placed
  simp
theorem laidTo_len (m : List Bool) (rows : List Nat) (c p : Nat) : (laidTo m rows c p).length = c := by
  unfold laidTo
  simp
  omega
theorem laidTo_skip (m : List Bool) (rows : List Nat) (c p : Nat) (h : m.getD (rows.getD p 0) false = false ∨ c ≤ (Q.placed m rows p).length) : laidTo m rows c (p + 1) = laidTo m rows c p ∧ min (Q.placed m rows (p + 1)).length c = min (Q.placed m rows p).length c := by
  unfold laidTo
  rw [placed_succ]
  by_cases hm : m.getD (rows.getD p 0) false = true
  · rcases h with h | h
    · rw [hm] at h; cases h
    · rw [if_pos hm]
      refine ⟨?_, ?_⟩
      · rw [List.take_append_of_le_length h, List.length_append]
        congr 2
        simp
        omega
      · rw [List.length_append]; simp; omega
  · rw [if_neg hm, List.append_nil]
    exact ⟨rfl, rfl⟩
theorem laidTo_set (m : List Bool) (rows : List Nat) (c p : Nat) (hm : m.getD (rows.getD p 0) false = true) (hc : (Q.placed m rows p).length < c) : (laidTo m rows c p).set (Q.placed m rows p).length p = laidTo m rows c (p + 1) ∧ (Q.placed m rows (p + 1)).length = (Q.placed m rows p).length + 1 := by
  unfold laidTo
  rw [placed_succ, if_pos hm]
  refine ⟨?_, by simp⟩
  rw [List.take_of_length_le (by omega), List.take_of_length_le (by simp; omega), List.set_append_right _ _ (Nat.le_refl _), Nat.sub_self, List.length_append]
  have : c - (Q.placed m rows p).length = (c - ((Q.placed m rows p).length + [p].length)) + 1 := by simp; omega
  rw [this, List.replicate_succ, List.set_cons_zero, List.append_assoc]
  rfl

theorem make_bools (l : Int) (n : Nat) (hl : l = n) (hn : n ≤ 1000000000) (w : World) :
    Sem.run Try.prog (Instr.makeSlice 100 (.int .i64 l) (.int .i64 l)) w = .ok (.slice (some ⟨w.heap.size, 0, none⟩) n n) (w.alloc (.cells (zeroRow (.bool false) n) 4)) := by
  obtain ⟨i, hi, h0, h1, h2⟩ := info_parts (show (Try.prog.info? 4).map (fun i => (i.zero, i.size, i.bytes)) = some (some (.bool false), 1, 1) by kernel_rfl)
  exact run_make_row 100 4 i (.bool false) Try.underlying100 hi h0 h1 rfl (by omega) l n hl hn w
theorem Marks.new (w : World) (n : Nat) (T : TypeId) : Marks (w.alloc (.cells (zeroRow (.bool false) n) T)) w.heap.size (List.replicate n false) := by
  have := Blk.new w (zeroRow (.bool false) n) T
  rw [zeroRow_toList] at this
  unfold Marks bools
  rw [List.map_replicate]
  exact this
end Go.Proofs.Ytjmkkkfloalliab
