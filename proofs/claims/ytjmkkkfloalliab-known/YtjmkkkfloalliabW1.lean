import Derived.WalkKit
import Derived.Laws.BytesArg
import Derived.Laws.MakeOwn
import Derived.Deep.Draws
-- memory: a block that holds just these cells
namespace Go.Proofs.Ytjmkkkfloalliab
set_option linter.unusedVariables false
open Go.RowKit

/-- Block b holds just the cells vs, none of them frozen. -/
def Blk (w : World) (b : Nat) (vs : List Value) : Prop := ∃ T, w.heap[b]? = some (.cells vs.toArray T (0, 0))

theorem Blk.lt {w : World} {b : Nat} {vs : List Value} (h : Blk w b vs) : b < w.heap.size := by
  obtain ⟨T, h⟩ := h
  exact (Array.getElem?_eq_some_iff.1 h).1

theorem Blk.cell {w : World} {b : Nat} {vs : List Value} (h : Blk w b vs) (i : Nat) (hi : i < vs.length) : w.cell? ⟨b, i, none⟩ = some vs[i] := by
  obtain ⟨T, h⟩ := h
  simp [World.cell?, h, hi]

theorem Blk.cell? {w : World} {b : Nat} {vs : List Value} (h : Blk w b vs) (i : Nat) : w.cell? ⟨b, i, none⟩ = vs[i]? := by
  obtain ⟨T, h⟩ := h
  simp [World.cell?, h]

theorem Blk.frozen {w : World} {b : Nat} {vs : List Value} (h : Blk w b vs) (i : Nat) : w.frozen? ⟨b, i, none⟩ = false := by
  obtain ⟨T, h⟩ := h
  simp [World.frozen?, h]

theorem Blk.of_heap {w w' : World} {b : Nat} {vs : List Value} (h : Blk w b vs) (e : w'.heap[b]? = w.heap[b]?) : Blk w' b vs := by
  obtain ⟨T, h⟩ := h
  exact ⟨T, e.trans h⟩

theorem Blk.below {B : Nat} {w w' : World} {b : Nat} {vs : List Value} (h : Blk w b vs) (hb : Below B w w') (hB : b < B) : Blk w' b vs := h.of_heap (hb.block b hB)

theorem Blk.drew {w : World} {b : Nat} {vs : List Value} (h : Blk w b vs) : Blk w.drew b vs := h
theorem Blk.drewN {w : World} {b : Nat} {vs : List Value} (h : Blk w b vs) (n : Nat) : Blk (w.drewN n) b vs := h

theorem Blk.alloc {w : World} {b : Nat} {vs : List Value} (h : Blk w b vs) (o : Obj) : Blk (w.alloc o) b vs :=
  h.of_heap (Below.heap_alloc w o b h.lt)

theorem Blk.new (w : World) (c : Array Value) (T : TypeId) : Blk (w.alloc (.cells c T)) w.heap.size c.toList := by
  refine ⟨T, ?_⟩
  show (w.heap.push _)[w.heap.size]? = _
  simp

theorem Blk.other {w : World} {b : Nat} {vs : List Value} (h : Blk w b vs) {a : Addr} (hne : a.block ≠ b) (v : Value) : Blk (w.setCell a v) b vs :=
  h.of_heap (Below.heap_setCell w a v b (fun e => hne e.symm))

theorem Blk.set {w : World} {b : Nat} {vs : List Value} (h : Blk w b vs) (i : Nat) (v : Value) : Blk (w.setCell ⟨b, i, none⟩ v) b (vs.set i v) := by
  obtain ⟨T, h⟩ := h
  refine ⟨T, ?_⟩
  have hlt : b < w.heap.size := (Array.getElem?_eq_some_iff.1 h).1
  simp only [World.setCell, Array.getElem?_modify, if_true, h, Option.map_some]
  simp

/-- What a block of whole numbers holds. -/
def Nums (k : IntKind) (w : World) (b : Nat) (xs : List Int) : Prop := Blk w b (xs.map (Value.int k))

theorem Nums.cell {k : IntKind} {w : World} {b : Nat} {xs : List Int} (h : Nums k w b xs) (i : Nat) (hi : i < xs.length) : w.cell? ⟨b, i, none⟩ = some (.int k (xs.getD i 0)) := by
  rw [Blk.cell h i (by simpa using hi)]
  simp [List.getElem?_eq_getElem hi]

theorem Nums.set {k : IntKind} {w : World} {b : Nat} {xs : List Int} (h : Nums k w b xs) (i : Nat) (v : Int) : Nums k (w.setCell ⟨b, i, none⟩ (.int k v)) b (xs.set i v) := by
  have := Blk.set h i (.int k v)
  unfold Nums
  rw [List.map_set]
  exact this

theorem below_drewN {B : Nat} {a w : World} (h : Below B a w) (n : Nat) : Below B a (w.drewN n) := ⟨h.os, h.tape, h.output, h.size, h.block⟩

theorem bcell {B : Nat} {W w1 : World} (hb : Below B W w1) : (∀ b o, b < B → w1.cell? ⟨b, o, none⟩ = W.cell? ⟨b, o, none⟩) ∧ (∀ b o, b < B → w1.frozen? ⟨b, o, none⟩ = W.frozen? ⟨b, o, none⟩) :=
  ⟨fun b o h => hb.cell (p := ⟨b, o, none⟩) h, fun b o h => hb.frozen (p := ⟨b, o, none⟩) h⟩

theorem ret_int {k : IntKind} {a b : Int} (h : a = b) : Ending.returned (.int k a) = .returned (.int k b) := by rw [h]
theorem ret_str {a b : ByteArray} (h : a.data.toList = b.data.toList) : Ending.returned (.string a) = .returned (.string b) := by
  have : a = b := by cases a; cases b; simp_all
  rw [this]
theorem bytes_eq {a b : ByteArray} (h : a.data.toList = b.data.toList) : a = b := by cases a; cases b; simp_all

/-- A row of n zeros, as 'make' lays it. -/
def zeroRow (z : Value) (n : Nat) : Array Value := (List.replicate n z).toArray
theorem zeroRow_toList (z : Value) (n : Nat) : (zeroRow z n).toList = List.replicate n z := rfl
theorem madeCells_one (z : Value) (n : Nat) : madeCells #[z] n = zeroRow z n := by
  apply Array.ext
  · simp [size_madeCells, zeroRow]
  · intro i h1 h2
    simp [madeCells, zeroRow, Nat.mod_one]

theorem run_make_row {P : Program} (t e : TypeId) (i : TypeInfo) (z : Value) (ht : P.underlying t = some (.slice e)) (hi : P.info? e = some i) (hz : i.zero = some z) (hs : i.size = 1) (hc : z.cells = #[z])
    (hb : i.bytes ≤ 4096) (l : Int) (n : Nat) (hl : l = n) (hn : n ≤ 1000000000) (w : World) :
    Sem.run P (Instr.makeSlice t (.int .i64 l) (.int .i64 l)) w = .ok (.slice (some ⟨w.heap.size, 0, none⟩) n n) (w.alloc (.cells (zeroRow z n) e)) := by
  subst hl
  have h : (i.bytes : Int) * (n : Int) ≤ 281474976710656 := by
    have : i.bytes * n ≤ 4096 * 1000000000 := Nat.mul_le_mul hb hn
    have h2 : ((i.bytes * n : Nat) : Int) ≤ 281474976710656 := by omega
    rwa [Int.natCast_mul] at h2
  have := run_make (P := P) w t e i z ht hi hz .i64 .i64 n n (by omega) (Int.le_refl _) h (by omega)
  rw [hs, hc, Nat.mul_one, madeCells_one] at this
  simpa using this

theorem Nums.new (k : IntKind) (w : World) (n : Nat) (T : TypeId) : Nums k (w.alloc (.cells (zeroRow (.int k 0) n) T)) w.heap.size (List.replicate n 0) := by
  have := Blk.new w (zeroRow (.int k 0) n) T
  rw [zeroRow_toList] at this
  unfold Nums
  rw [List.map_replicate]
  exact this
end Go.Proofs.Ytjmkkkfloalliab
