import Derived.Test.YtjmkkkfloalliabGJ
-- Bracketed
namespace Go.Proofs.Ytjmkkkfloalliab
set_option linter.unusedVariables false
open Go.RowKit

namespace Q
theorem at_or_nil {t : List UInt8} {A : Lang} {p : Nat} : At t (fun u => A u ∨ u = []) p ↔ At t A p := by
  constructor
  · rintro ⟨u, h1, h2, h3 | h3⟩
    · exact ⟨u, h1, h2, h3⟩
    · exact absurd h3 h2
  · rintro ⟨u, h1, h2, h3⟩
    exact ⟨u, h1, h2, .inl h3⟩
end Q
/-- the ways in which the pattern is written -/
def ways (pat : ByteArray) : Nat → ByteArray
  | 0 => ⟨#[40]⟩ ++ pat ++ ⟨#[41]⟩
  | 1 => ⟨#[40, 41, 40]⟩ ++ pat ++ ⟨#[41]⟩
  | 2 => ⟨#[40]⟩ ++ pat ++ ⟨#[41, 40, 41]⟩
  | 3 => pat ++ ⟨#[124]⟩
  | 4 => ⟨#[40]⟩ ++ pat ++ ⟨#[124, 40, 41, 41]⟩
  | _ => pat ++ ⟨#[124, 91, 94, 0, 45, 255, 93]⟩
theorem ways_fit {pat : ByteArray} {d : Q.Den} {m : Nat} (h : Q.dgo (8 * (L pat).length + 6) .alt (L pat) = some (d, [], false, m)) (k : Nat) : ∃ A, Fits (ways pat k) A ∧ ∀ t p, Q.At t A p ↔ Q.At t d.lang p := by
  match k with
  | 0 => exact ⟨d.lang, fits_of (s := 40 :: (L pat ++ [41])) (by show L (⟨#[40]⟩ ++ pat ++ ⟨#[41]⟩) = _; rw [L_app, L_app]; rfl) (Q.br_only h), fun _ _ => Iff.rfl⟩
  | 1 => exact ⟨d.lang, fits_of (s := 40 :: 41 :: 40 :: (L pat ++ [41])) (by show L (⟨#[40, 41, 40]⟩ ++ pat ++ ⟨#[41]⟩) = _; rw [L_app, L_app]; rfl) (Q.br_ahead h), fun _ _ => Iff.rfl⟩
  | 2 => exact ⟨d.lang, fits_of (s := 40 :: (L pat ++ [41, 40, 41])) (by show L (⟨#[40]⟩ ++ pat ++ ⟨#[41, 40, 41]⟩) = _; rw [L_app, L_app]; rfl) (Q.br_behind h), fun _ _ => Iff.rfl⟩
  | 3 => exact ⟨fun u => d.lang u ∨ u = [], fits_of (s := L pat ++ [124]) (by show L (pat ++ ⟨#[124]⟩) = _; rw [L_app]) (Q.or_none h), fun _ _ => Q.at_or_nil⟩
  | 4 => exact ⟨fun u => d.lang u ∨ u = [], fits_of (s := 40 :: (L pat ++ [124, 40, 41, 41])) (by show L (⟨#[40]⟩ ++ pat ++ ⟨#[124, 40, 41, 41]⟩) = _; rw [L_app, L_app]; rfl) (Q.or_none_br h), fun _ _ => Q.at_or_nil⟩
  | k + 5 => exact ⟨d.lang, fits_of (s := L pat ++ [124, 91, 94, 0, 45, 255, 93]) (by show L (pat ++ ⟨#[124, 91, 94, 0, 45, 255, 93]⟩) = _; rw [L_app]) (Q.or_no_byte h), fun _ _ => Iff.rfl⟩
theorem ways_size {pat : ByteArray} (h : pat.size ≤ 40) (k : Nat) : (ways pat k).size ≤ maxLen := by
  have e : ∀ a b : ByteArray, (a ++ b).size = a.size + b.size := fun a b => ByteArray.size_append
  unfold maxLen
  match k with
  | 0 => show (⟨#[40]⟩ ++ pat ++ ⟨#[41]⟩ : ByteArray).size ≤ _; rw [e, e]; show 1 + pat.size + 1 ≤ _; omega
  | 1 => show (⟨#[40, 41, 40]⟩ ++ pat ++ ⟨#[41]⟩ : ByteArray).size ≤ _; rw [e, e]; show 3 + pat.size + 1 ≤ _; omega
  | 2 => show (⟨#[40]⟩ ++ pat ++ ⟨#[41, 40, 41]⟩ : ByteArray).size ≤ _; rw [e, e]; show 1 + pat.size + 3 ≤ _; omega
  | 3 => show (pat ++ ⟨#[124]⟩ : ByteArray).size ≤ _; rw [e]; show pat.size + 1 ≤ _; omega
  | 4 => show (⟨#[40]⟩ ++ pat ++ ⟨#[124, 40, 41, 41]⟩ : ByteArray).size ≤ _; rw [e, e]; show 1 + pat.size + 4 ≤ _; omega
  | k + 5 => show (pat ++ ⟨#[124, 91, 94, 0, 45, 255, 93]⟩ : ByteArray).size ≤ _; rw [e]; show pat.size + 7 ≤ _; omega
end Go.Proofs.Ytjmkkkfloalliab
