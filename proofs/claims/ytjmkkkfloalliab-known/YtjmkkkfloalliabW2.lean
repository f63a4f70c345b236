import Derived.Test.YtjmkkkfloalliabL2
import Derived.Laws.AppendOwn
-- memory: a row that has grown, or may grow: its first n elements are known
namespace Go.Proofs.Ytjmkkkfloalliab
set_option linter.unusedVariables false
open Go.RowKit

/-- Block g is a row of cap elements of type e ('size' cells each), not frozen; the cells of its first n elements are xs. -/
def RowAt (w : World) (g cap : Nat) (e : TypeId) (size n : Nat) (xs : List Value) : Prop :=
  ∃ cur, w.heap[g]? = some (.cells cur e (0, 0)) ∧ n ≤ cap ∧ cap ≤ maxLen ∧ cur.size = cap * size ∧ cur.toList.take (n * size) = xs ∧ xs.length = n * size

theorem RowAt.own {w : World} {g cap : Nat} {e : TypeId} {size n : Nat} {xs : List Value} (h : RowAt w g cap e size n xs) {base : Nat} (hb : base ≤ g) :
    w.ownsRow base e size (.slice (some ⟨g, 0, none⟩) n cap) n xs := by
  obtain ⟨cur, h1, h2, h3, h4, h5, h6⟩ := h
  exact ⟨h6, .inr ⟨g, cap, cur, rfl, hb, h1, h2, h3, h4, h5⟩⟩

theorem own_open {w : World} {base : Nat} {e : TypeId} {size : Nat} {v : Value} {n : Nat} {xs : List Value} (h : w.ownsRow base e size v n xs) (hn : v ≠ .slice none 0 0) :
    ∃ g cap, v = .slice (some ⟨g, 0, none⟩) n cap ∧ base ≤ g ∧ RowAt w g cap e size n xs := by
  obtain ⟨h0, h | ⟨g, cap, cur, rfl, hb, h1, h2, h3, h4, h5⟩⟩ := h
  · exact absurd h.1 hn
  · exact ⟨g, cap, rfl, hb, cur, h1, h2, h3, h4, h5, h0⟩

theorem RowAt.lt {w : World} {g cap : Nat} {e : TypeId} {size n : Nat} {xs : List Value} (h : RowAt w g cap e size n xs) : g < w.heap.size := by
  obtain ⟨cur, h1, _⟩ := h
  exact (Array.getElem?_eq_some_iff.1 h1).1

theorem RowAt.length {w : World} {g cap : Nat} {e : TypeId} {size n : Nat} {xs : List Value} (h : RowAt w g cap e size n xs) : xs.length = n * size := by
  obtain ⟨cur, _, _, _, _, _, h6⟩ := h
  exact h6
theorem RowAt.le {w : World} {g cap : Nat} {e : TypeId} {size n : Nat} {xs : List Value} (h : RowAt w g cap e size n xs) : n ≤ cap := by
  obtain ⟨cur, _, h2, _⟩ := h
  exact h2

theorem RowAt.cell? {w : World} {g cap : Nat} {e : TypeId} {size n : Nat} {xs : List Value} (h : RowAt w g cap e size n xs) (i : Nat) (hi : i < xs.length) : w.cell? ⟨g, i, none⟩ = xs[i]? := by
  obtain ⟨cur, h1, h2, h3, h4, h5, h6⟩ := h
  simp only [World.cell?, h1]
  have hin : i < n * size := by rw [← h6]; exact hi
  have : xs[i]? = (cur.toList.take (n * size))[i]? := by rw [h5]
  rw [this, List.getElem?_take, if_pos hin]
  simp

theorem RowAt.frozen {w : World} {g cap : Nat} {e : TypeId} {size n : Nat} {xs : List Value} (h : RowAt w g cap e size n xs) (i : Nat) : w.frozen? ⟨g, i, none⟩ = false := by
  obtain ⟨cur, h1, _⟩ := h
  simp [World.frozen?, h1]

theorem RowAt.of_heap {w w' : World} {g cap : Nat} {e : TypeId} {size n : Nat} {xs : List Value} (h : RowAt w g cap e size n xs) (eq : w'.heap[g]? = w.heap[g]?) : RowAt w' g cap e size n xs := by
  obtain ⟨cur, h1, h2⟩ := h
  exact ⟨cur, eq.trans h1, h2⟩
theorem RowAt.below {B : Nat} {w w' : World} {g cap : Nat} {e : TypeId} {size n : Nat} {xs : List Value} (h : RowAt w g cap e size n xs) (hb : Below B w w') (hB : g < B) : RowAt w' g cap e size n xs := h.of_heap (hb.block g hB)
theorem RowAt.drew {w : World} {g cap : Nat} {e : TypeId} {size n : Nat} {xs : List Value} (h : RowAt w g cap e size n xs) : RowAt w.drew g cap e size n xs := h
theorem RowAt.drewN {w : World} {g cap : Nat} {e : TypeId} {size n : Nat} {xs : List Value} (h : RowAt w g cap e size n xs) (k : Nat) : RowAt (w.drewN k) g cap e size n xs := h
theorem RowAt.alloc {w : World} {g cap : Nat} {e : TypeId} {size n : Nat} {xs : List Value} (h : RowAt w g cap e size n xs) (o : Obj) : RowAt (w.alloc o) g cap e size n xs :=
  h.of_heap (Below.heap_alloc w o g h.lt)
theorem RowAt.other {w : World} {g cap : Nat} {e : TypeId} {size n : Nat} {xs : List Value} (h : RowAt w g cap e size n xs) {a : Addr} (hne : a.block ≠ g) (v : Value) : RowAt (w.setCell a v) g cap e size n xs :=
  h.of_heap (Below.heap_setCell w a v g (fun e => hne e.symm))

theorem RowAt.set {w : World} {g cap : Nat} {e : TypeId} {size n : Nat} {xs : List Value} (h : RowAt w g cap e size n xs) (i : Nat) (v : Value) : RowAt (w.setCell ⟨g, i, none⟩ v) g cap e size n (xs.set i v) := by
  obtain ⟨cur, h1, h2, h3, h4, h5, h6⟩ := h
  refine ⟨cur.setIfInBounds i v, ?_, h2, h3, by simpa using h4, ?_, by simpa using h6⟩
  · simp only [World.setCell, Array.getElem?_modify, if_true, h1, Option.map_some]
    simp
  · rw [Array.toList_setIfInBounds, List.take_set, h5]

/-- whole numbers -/
def ints (xs : List Int) : List Value := xs.map (Value.int .i64)
theorem ints_length (xs : List Int) : (ints xs).length = xs.length := by simp [ints]
theorem ints_set (xs : List Int) (i : Nat) (v : Int) : (ints xs).set i (.int .i64 v) = ints (xs.set i v) := by simp [ints, List.map_set]
theorem ints_app (xs ys : List Int) : ints xs ++ ints ys = ints (xs ++ ys) := by simp [ints]

/-- a row of ints -/
def IRow (w : World) (g cap : Nat) (xs : List Int) : Prop := RowAt w g cap 3 1 xs.length (ints xs)
theorem IRow.cell {w : World} {g cap : Nat} {xs : List Int} (h : IRow w g cap xs) (i : Nat) (hi : i < xs.length) : w.cell? ⟨g, i, none⟩ = some (.int .i64 (xs.getD i 0)) := by
  rw [RowAt.cell? h i (by rw [ints_length]; exact hi)]
  simp [ints, List.getElem?_eq_getElem hi]
theorem IRow.set {w : World} {g cap : Nat} {xs : List Int} (h : IRow w g cap xs) (i : Nat) (v : Int) : IRow (w.setCell ⟨g, i, none⟩ (.int .i64 v)) g cap (xs.set i v) := by
  have := RowAt.set h i (.int .i64 v)
  rw [ints_set] at this
  unfold IRow
  rw [List.length_set]
  exact this

theorem IRow.of_nums {w : World} {b n : Nat} {xs : List Int} (h : w.heap[b]? = some (.cells (ints xs).toArray 3 (0, 0))) (hn : xs.length = n) (hm : n ≤ 1000000000) : IRow w b n xs := by
  refine ⟨(ints xs).toArray, h, by omega, by unfold maxLen; omega, by simp [ints_length, hn], ?_, by rw [ints_length, Nat.mul_one]⟩
  rw [Nat.mul_one, List.take_of_length_le (by simp [ints])]

/-- what 'append' and a store of the call's own leave, below B -/
theorem below_grown {B : Nat} {a w w' : World} {v : Value} (h : Below B a w) (hg : w.grownBy w' v.ownBlock) (hB : B ≤ w.heap.size) {base : Nat} {e : TypeId} {size n : Nat} {xs : List Value} (ho : w.ownsRow base e size v n xs) (hb : B ≤ base) : Below B a w' := by
  refine h.grown hg hB (fun k hk => ?_)
  obtain ⟨_, ⟨rfl, _⟩ | ⟨g, cap, cur, rfl, hbg, _⟩⟩ := ho
  · cases hk
  · cases hk; exact Nat.le_trans hb hbg
end Go.Proofs.Ytjmkkkfloalliab
