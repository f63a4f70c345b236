import Derived.Test.YtjmkkkfloalliabGI
import Derived.Deep.RegionHeld
import Derived.Deep.CutBlock
-- within; find of a pattern put together
namespace Go.Proofs.Ytjmkkkfloalliab
set_option linter.unusedVariables false
open Go.RowKit

theorem L_app (a b : ByteArray) : L (a ++ b) = L a ++ L b := by simp [L]
theorem L_len (a : ByteArray) : (L a).length = a.size := size_len a
/-- what stands for the pattern -/
theorem pat_den {s : List UInt8} {P : Q.Pat} (h : Q.parse s = .ok P) : ∃ d m, Q.dgo (8 * s.length + 6) .alt s = some (d, [], false, m) ∧ s.length ≤ 40 ∧ ∀ u, Q.acc P u = true ↔ (u ≠ [] ∧ d.lang u) := by
  obtain ⟨d, m, h1, h2, h3, h4, h5, h6⟩ := (Q.parse_den s).2.2 P h
  exact ⟨d, m, h1, h2, h6.1⟩
/-- a pattern, or too long or large -/
def Fits (q : ByteArray) (A : Q.Lang) : Prop := (∃ E, Q.parse (L q) = .error (E, 0) ∧ (E = 1 ∨ E = 5)) ∨ ∃ P, Q.parse (L q) = .ok P ∧ ∀ u, Q.acc P u = true ↔ (u ≠ [] ∧ A u)
theorem fits_of {q : ByteArray} {s : List UInt8} {A : Q.Lang} (e : L q = s) (h : ∃ d m, Q.dgo (8 * s.length + 6) .alt s = some (d, [], false, m) ∧ ∀ u, d.lang u ↔ A u) : Fits q A := by
  obtain ⟨d, m, h1, h2⟩ := h
  unfold Fits
  rw [e]
  rcases Q.parse_of h1 with h3 | ⟨P, h3, h4⟩
  · exact .inl h3
  · exact .inr ⟨P, h3, fun u => by rw [h4 u, h2 u]⟩
/-- what find answers of it -/
def Found (w' : World) (t : List UInt8) (q : ByteArray) (A : Q.Lang) (v : Value) (E : Nat) : Prop :=
  (E = 0 ∧ ∃ P g, Q.parse (L q) = .ok P ∧ (∀ u, Q.acc P u = true ↔ (u ≠ [] ∧ A u)) ∧ v = .slice (some ⟨g, 0, none⟩) (Q.hits t P).length (Q.hits t P).length ∧ SlI w' (.slice (some ⟨g, 0, none⟩) (Q.hits t P).length (Q.hits t P).length) (Q.hits t P)) ∨ ((E = 1 ∨ E = 5) ∧ v = .slice none 0 0)
theorem find_of {w : World} {b rate : Nat} {t : List UInt8} {a : ByteArray} (h : IdxOf w b rate t a) (q : ByteArray) (hq : q.size ≤ maxLen) (A : Q.Lang) (hA : Fits q A) :
    Calls Try.prog 22 #[.pointer (some ⟨b, 0, none⟩), .string q] w fun e w' => ∃ v E, e = .returned (.tuple #[v, .int .i64 ((E : Nat) : Int)]) ∧ Hid (Found w' t q A v E) ∧ Below w.heap.size w w' := by
  rcases hA with ⟨E, h1, h2⟩ | ⟨P, h1, h2⟩
  · refine (find_err h q hq E 0 h1).mono ?_
    rintro e w' ⟨rfl, hB⟩
    exact ⟨_, E, rfl, .inr ⟨h2, rfl⟩, hB⟩
  · refine (find_ok h q hq P h1).mono ?_
    rintro e w' ⟨g, rfl, _, hS, hB⟩
    exact ⟨_, 0, rfl, .inl ⟨rfl, P, g, h1, h2, rfl, hS⟩, hB⟩

theorem hits_small {t : List UInt8} {P : Q.Pat} (ht : t.length ≤ 200) : ∀ i, i < (Q.hits t P).length → (Q.hits t P).getD i 0 ≤ 1000 := fun i hi => by
  have h1 := (Q.mem_hits.1 (Q.hits_at (t := t) hi)).1
  omega
set_option maxRecDepth 100000 in
set_option maxHeartbeats 800000 in
theorem within_yes (w : World) (ga gb : Nat) (a b : List Nat) (hA : SlI w (.slice (some ⟨ga, 0, none⟩) a.length a.length) a) (hB : SlI w (.slice (some ⟨gb, 0, none⟩) b.length b.length) b) (la : a.length ≤ 1000) (lb : b.length ≤ 1000) (ra : a.Pairwise (· < ·)) (rb : b.Pairwise (· < ·)) (hin : ∀ x, x ∈ a → x ∈ b) (ba : ∀ i, i < a.length → a.getD i 0 ≤ 1000) (bb : ∀ i, i < b.length → b.getD i 0 ≤ 1000) :
    Calls Try.prog 25 #[.slice (some ⟨ga, 0, none⟩) a.length a.length, .slice (some ⟨gb, 0, none⟩) b.length b.length] w fun e w' => e = .returned (.bool true) ∧ Below w.heap.size w w' := by
  have HU := hid (union_any w ga gb a b b hA hB la lb ra rb rb (fun x => ⟨.inr, fun h => h.elim (hin x) id⟩) ba bb)
  have HB := hid hB
  clear hA hB hin ba bb
  go_enter Try.func25, Try.ntmps25
  go_wp2_with fail
  refine HU.out.mono ?_
  rintro e w2 ⟨v, rfl, hS, hB2⟩
  go_wp2_with fail
  refine (same_yes _ _ b w2 hS (HB.out.below hB2 (Nat.le_refl _)) lb).mono ?_
  rintro e w3 ⟨rfl, hB3⟩
  go_wp2
  go_ret
  exact ⟨rfl, hB2.trans (hB3.mono hB2.size)⟩
end Go.Proofs.Ytjmkkkfloalliab
