import Derived.Test.YtjmkkkfloalliabW2
-- memory: which blocks have stayed; a block of a known type
namespace Go.Proofs.Ytjmkkkfloalliab
set_option linter.unusedVariables false
open Go.RowKit

/-- w' is w with new blocks; of what was there only the blocks of S may have turned -/
structure Keep (S : List Nat) (w w' : World) : Prop where
  os : w'.os = w.os
  tape : w'.tape = w.tape
  output : w'.output = w.output
  size : w.heap.size ≤ w'.heap.size
  block : ∀ k, k < w.heap.size → k ∉ S → w'.heap[k]? = w.heap[k]?
theorem Keep.refl (S : List Nat) (w : World) : Keep S w w := ⟨rfl, rfl, rfl, Nat.le_refl _, fun _ _ _ => rfl⟩
theorem Keep.trans {S : List Nat} {a b c : World} (h : Keep S a b) (k : Keep S b c) : Keep S a c :=
  ⟨k.os.trans h.os, k.tape.trans h.tape, k.output.trans h.output, Nat.le_trans h.size k.size, fun i hi hs => (k.block i (Nat.lt_of_lt_of_le hi h.size) hs).trans (h.block i hi hs)⟩
theorem Keep.of_below {S : List Nat} {B : Nat} {w w' : World} (h : Below B w w') (hB : w.heap.size ≤ B) : Keep S w w' :=
  ⟨h.os, h.tape, h.output, h.size, fun k hk _ => h.block k (Nat.lt_of_lt_of_le hk hB)⟩
theorem Keep.to_below {S : List Nat} {B : Nat} {w w' : World} (h : Keep S w w') (hS : ∀ k, k ∈ S → B ≤ k) (hB : B ≤ w.heap.size) : Below B w w' :=
  ⟨h.os, h.tape, h.output, h.size, fun k hk => h.block k (Nat.lt_of_lt_of_le hk hB) (fun hm => by have := hS k hm; omega)⟩
theorem Keep.drewN {S : List Nat} {a w : World} (h : Keep S a w) (n : Nat) : Keep S a (w.drewN n) := ⟨h.os, h.tape, h.output, h.size, h.block⟩
theorem Keep.alloc {S : List Nat} {a w : World} (h : Keep S a w) (o : Obj) : Keep S a (w.alloc o) :=
  h.trans ⟨rfl, rfl, rfl, by simp, fun k hk _ => Below.heap_alloc _ _ _ hk⟩
theorem Keep.setCell {S : List Nat} {a w : World} (h : Keep S a w) {p : Addr} (hp : p.block ∈ S) (u : Value) : Keep S a (w.setCell p u) :=
  h.trans ⟨rfl, rfl, rfl, by simp [World.setCell], fun k hk hs => Below.heap_setCell _ _ _ _ (fun e => hs (by rw [e]; exact hp))⟩
theorem Keep.drew {S : List Nat} {a w : World} (h : Keep S a w) : Keep S a w.drew := ⟨h.os, h.tape, h.output, h.size, h.block⟩
theorem Keep.setNew {S : List Nat} {a w : World} (h : Keep S a w) {p : Addr} (hp : a.heap.size ≤ p.block) (u : Value) : Keep S a (w.setCell p u) :=
  ⟨h.os, h.tape, h.output, by simp [World.setCell]; exact h.size, fun k hk hs => (Below.heap_setCell _ _ _ _ (by omega)).trans (h.block k hk hs)⟩
theorem Keep.mono {S S' : List Nat} {w w' : World} (h : Keep S w w') (hs : ∀ k, k ∈ S → k ∈ S') : Keep S' w w' :=
  ⟨h.os, h.tape, h.output, h.size, fun k hk hk2 => h.block k hk (fun hm => hk2 (hs k hm))⟩

/-- a block of a known type -/
def BlkT (w : World) (b : Nat) (T : TypeId) (vs : List Value) : Prop := w.heap[b]? = some (.cells vs.toArray T (0, 0))
theorem BlkT.blk {w : World} {b : Nat} {T : TypeId} {vs : List Value} (h : BlkT w b T vs) : Blk w b vs := ⟨T, h⟩
theorem BlkT.lt {w : World} {b : Nat} {T : TypeId} {vs : List Value} (h : BlkT w b T vs) : b < w.heap.size := h.blk.lt
theorem BlkT.cell {w : World} {b : Nat} {T : TypeId} {vs : List Value} (h : BlkT w b T vs) (i : Nat) : w.cell? ⟨b, i, none⟩ = vs[i]? := h.blk.cell? i
theorem BlkT.frozen {w : World} {b : Nat} {T : TypeId} {vs : List Value} (h : BlkT w b T vs) (i : Nat) : w.frozen? ⟨b, i, none⟩ = false := h.blk.frozen i
theorem BlkT.new (w : World) (c : Array Value) (T : TypeId) : BlkT (w.alloc (.cells c T)) w.heap.size T c.toList := by
  show (w.heap.push _)[w.heap.size]? = _
  simp
theorem BlkT.set {w : World} {b : Nat} {T : TypeId} {vs : List Value} (h : BlkT w b T vs) (i : Nat) (v : Value) : BlkT (w.setCell ⟨b, i, none⟩ v) b T (vs.set i v) := by
  unfold BlkT at *
  simp only [World.setCell, Array.getElem?_modify, if_true, h, Option.map_some]
  simp
theorem BlkT.ne {w : World} {b b' : Nat} {T T' : TypeId} {vs vs' : List Value} (h : BlkT w b T vs) (h' : BlkT w b' T' vs') (hT : T ≠ T') : b ≠ b' := by
  intro e
  subst e
  unfold BlkT at *
  rw [h] at h'
  cases h'
  exact hT rfl
theorem BlkT.keep {S : List Nat} {w w' : World} {b : Nat} {T : TypeId} {vs : List Value} (h : BlkT w b T vs) (k : Keep S w w') (hb : b ∉ S) : BlkT w' b T vs := (k.block b h.lt hb).trans h
theorem BlkT.other {w : World} {b : Nat} {T : TypeId} {vs : List Value} (h : BlkT w b T vs) {a : Addr} (hne : a.block ≠ b) (v : Value) : BlkT (w.setCell a v) b T vs :=
  (Below.heap_setCell w a v b (fun e => hne e.symm)).trans h
theorem BlkT.alloc {w : World} {b : Nat} {T : TypeId} {vs : List Value} (h : BlkT w b T vs) (o : Obj) : BlkT (w.alloc o) b T vs := (Below.heap_alloc w o b h.lt).trans h

theorem Keep.grown {S : List Nat} {a w w' : World} {row : Option Nat} (h : Keep S a w) (hg : w.grownBy w' row) (hr : ∀ k, row = some k → a.heap.size ≤ k) : Keep S a w' :=
  ⟨hg.os.trans h.os, hg.tape.trans h.tape, hg.output.trans h.output, Nat.le_trans h.size hg.size, fun k hk hs => (hg.block k (Nat.lt_of_lt_of_le hk h.size) (fun e => by have := hr k e.symm; omega)).trans (h.block k hk hs)⟩

theorem add_plain (g o j : Nat) : (⟨g, o, none⟩ : Addr).add j = ⟨g, o + j, none⟩ := by unfold Addr.add; split <;> simp_all
theorem RowAt.one (w : World) (p : Value) (T : TypeId) : RowAt (w.alloc (.cells #[p] T)) w.heap.size 1 T 1 1 [p] :=
  ⟨#[p], BlkT.new w #[p] T, Nat.le_refl _, by decide, rfl, rfl, rfl⟩
end Go.Proofs.Ytjmkkkfloalliab
