import Derived.Test.YtjmkkkfloalliabYH
import Derived.Test.YtjmkkkfloalliabYP
-- the reader with its tree: a term that is no bracket
namespace Go.Proofs.Ytjmkkkfloalliab
set_option linter.unusedVariables false
open Go.RowKit

theorem own_keep {S : List Nat} {w w' : World} {B n size : Nat} {e : TypeId} {v : Value} {xs : List Value} (h : w.ownsRow B e size v n xs) (k : Keep S w w') (hS : ∀ b, v.ownBlock = some b → b ∉ S) : w'.ownsRow B e size v n xs := by
  obtain ⟨h1, h | ⟨g, cap, cur, rfl, hb, hg, h2⟩⟩ := h
  · exact ⟨h1, .inl h⟩
  · exact ⟨h1, .inr ⟨g, cap, cur, rfl, hb, (k.block g (Array.getElem?_eq_some_iff.1 hg).1 (hS g rfl)).trans hg, h2⟩⟩
theorem own_lt {w : World} {B n size : Nat} {e : TypeId} {v : Value} {xs : List Value} (h : w.ownsRow B e size v n xs) : ∀ b, v.ownBlock = some b → b < w.heap.size := by
  intro b hb
  obtain ⟨_, ⟨rfl, _⟩ | ⟨g, cap, cur, rfl, _, hg, _⟩⟩ := h
  · cases hb
  · cases hb
    exact (Array.getElem?_eq_some_iff.1 hg).1

/-- the reader with its parts -/
structure Rt (w : World) (B br : Nat) (pat : ByteArray) (σ : Q.Rd) (v : Value) : Prop where
  rd : RdT w br pat σ v
  own : w.ownsRow B 90 265 v σ.parts.length (allCells σ.parts)
  ne : v.ownBlock ≠ some br
theorem allCells_snoc (ps : List Q.Part) (p : Q.Part) : allCells (ps ++ [p]) = allCells ps ++ partCells p := by
  unfold allCells
  rw [List.flatMap_append]
  simp
theorem Rt.keep {w w' : World} {B br : Nat} {pat : ByteArray} {σ τ : Q.Rd} {v : Value} {S : List Nat} (h : Rt w B br pat σ v) (k : Keep S w w') (hS : ∀ b, v.ownBlock = some b → b ∉ S) (hp : τ.parts = σ.parts) (hr : RdT w' br pat τ v) : Rt w' B br pat τ v :=
  ⟨hr, by rw [hp]; exact own_keep h.own k hS, h.ne⟩
theorem Rt.lt {w : World} {B br : Nat} {pat : ByteArray} {σ : Q.Rd} {v : Value} (h : Rt w B br pat σ v) : br < w.heap.size := BlkT.lt h.rd
theorem Rt.alloc {w : World} {B br : Nat} {pat : ByteArray} {σ : Q.Rd} {v : Value} (h : Rt w B br pat σ v) (o : Obj) : Rt (w.alloc o) B br pat σ v := ⟨BlkT.alloc h.rd o, h.own.alloc o, h.ne⟩
theorem Rt.drewN {w : World} {B br : Nat} {pat : ByteArray} {σ : Q.Rd} {v : Value} (h : Rt w B br pat σ v) (n : Nat) : Rt (w.drewN n) B br pat σ v := ⟨h.rd, h.own, h.ne⟩
theorem Rt.drew {w : World} {B br : Nat} {pat : ByteArray} {σ : Q.Rd} {v : Value} (h : Rt w B br pat σ v) : Rt w.drew B br pat σ v := ⟨h.rd, h.own, h.ne⟩

theorem radd_any (B br : Nat) (pat : ByteArray) (σ : Q.Rd) (p : Q.Part) (v : Value) (w : World) (hR : Rt w B br pat σ v) (hB : B ≤ br) (hn : σ.parts.length ≤ 10000) (hps : Q.PartsOk σ.parts) (hp : Q.PartOk σ.parts.length p) :
    Calls Try.prog 79 #[.pointer (some ⟨br, 6, none⟩), .agg (partCells p).toArray] w fun e w' => e = .returned (.int .i64 ((Q.add p σ).1 : Nat)) ∧ (∃ v', Rt w' B br pat (Q.add p σ).2 v') ∧ Below B w w' := by
  have hlt := hR.lt
  refine (add_any br 6 B _ _ σ.parts p v w hR.rd rfl hR.own hR.ne (by omega) hB hn hps hp).mono ?_
  rintro e w' ⟨rfl, v', h1, h2, h3, h4⟩
  refine ⟨rfl, ⟨v', h1, ?_, h3⟩, h4⟩
  show w'.ownsRow B _ 265 v' (σ.parts ++ [Q.fill σ.parts p]).length (allCells (σ.parts ++ [Q.fill σ.parts p]))
  rw [allCells_snoc, List.length_append]
  exact h2

/-! struct literals -/
def natB : Value → Bool
  | .int .i64 n => decide (0 ≤ n)
  | _ => false
def natOf : Value → Nat
  | .int .i64 n => n.toNat
  | _ => 0
theorem natB_i (n : Int) : natB (.int .i64 n) = decide (0 ≤ n) := rfl
theorem natOf_i (n : Int) : natOf (.int .i64 n) = n.toNat := rfl
theorem natB_n (n : Nat) : natB (.int .i64 (n : Int)) = true := by simp [natB]
theorem natOf_n (n : Nat) : natOf (.int .i64 (n : Int)) = n := by simp [natOf]
def cellsI (k l r : Int) : List Value := .int .i64 k :: (Q.ins0.map Value.bool ++ [.int .i64 l, .int .i64 r, .int .i64 0, .int .i64 0, .bool false, .bool false, .bool false, .int .i64 0])
theorem cellsI_mk (k l r : Nat) : cellsI k l r = partCells (Q.mk k l r) := rfl
theorem built1 (k : Int) : Try.prog.built 90 [(0, .int .i64 k)] = some (cellsI k 0 0).toArray := by kernel_rfl
theorem built2 (k l : Int) : Try.prog.built 90 [(0, .int .i64 k), (2, .int .i64 l)] = some (cellsI k l 0).toArray := by kernel_rfl
theorem built3 (k l r : Int) : Try.prog.built 90 [(0, .int .i64 k), (2, .int .i64 l), (3, .int .i64 r)] = some (cellsI k l r).toArray := by kernel_rfl
end Go.Proofs.Ytjmkkkfloalliab
