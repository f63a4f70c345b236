import Derived.Test.YtjmkkkfloalliabFE
import Derived.Test.YtjmkkkfloalliabFD
-- Search, find, laid of an index of a text
namespace Go.Proofs.Ytjmkkkfloalliab
set_option linter.unusedVariables false
open Go.RowKit

theorem Q.hits_len (t : List UInt8) (P : Q.Pat) (h : t.length ≤ 200) : (Q.hits t P).length ≤ 1000 := by
  unfold Q.hits
  refine Nat.le_trans (List.length_filter_le _ _) ?_
  simp
  omega
theorem L_def (a : ByteArray) : L a = a.data.toList := rfl
/-- what Search answers, with steps enough -/
theorem search_ok {w : World} {b rate : Nat} {t : List UInt8} {a : ByteArray} (h : IdxOf w b rate t a) (pat : ByteArray) (budget : Nat) (memo : Bool) (hp : pat.size ≤ maxLen) (P : Q.Pat) (hP : Q.parse (L pat) = .ok P) (hb : Q.steps t P memo ≤ budget) (hb2 : budget ≤ 1048576) :
    Calls Try.prog 24 #[.pointer (some ⟨b, 0, none⟩), .string pat, .int .i64 (budget : Int), .bool memo] w fun e w' => ∃ g, e = .returned (.tuple #[.slice (some ⟨g, 0, none⟩) (Q.hits t P).length (Q.hits t P).length, .agg #[.int .i64 0, .int .i64 0]]) ∧ w.heap.size ≤ g ∧ SlI w' (.slice (some ⟨g, 0, none⟩) (Q.hits t P).length (Q.hits t P).length) (Q.hits t P) ∧ Below w.heap.size w w' := by
  have hs := h.size
  have hl := h.len
  refine (Search_any b rate (M.row t 0) a pat budget memo w h.idx (by omega) h.row hp).mono ?_
  rintro e w' ⟨he, hB⟩
  rw [L_def a, h.ah, Q.search_eq t (L pat) budget memo hb2, hP] at he
  simp only [if_pos hb] at he
  obtain ⟨g, e1, e2, e3⟩ := he
  exact ⟨g, e1, e2, SlI.nums e3, hB⟩
theorem search_no {w : World} {b rate : Nat} {t : List UInt8} {a : ByteArray} (h : IdxOf w b rate t a) (pat : ByteArray) (budget : Nat) (memo : Bool) (hp : pat.size ≤ maxLen) (P : Q.Pat) (hP : Q.parse (L pat) = .ok P) (hb : budget < Q.steps t P memo) (hb2 : budget ≤ 1048576) :
    Calls Try.prog 24 #[.pointer (some ⟨b, 0, none⟩), .string pat, .int .i64 (budget : Int), .bool memo] w fun e w' => e = .returned (.tuple #[.slice none 0 0, .agg #[.int .i64 6, .int .i64 0]]) ∧ Below w.heap.size w w' := by
  have hs := h.size
  have hl := h.len
  refine (Search_any b rate (M.row t 0) a pat budget memo w h.idx (by omega) h.row hp).mono ?_
  rintro e w' ⟨he, hB⟩
  rw [L_def a, h.ah, Q.search_eq t (L pat) budget memo hb2, hP] at he
  simp only [if_neg (Nat.not_le.2 hb)] at he
  exact ⟨he, hB⟩
theorem search_err {w : World} {b rate : Nat} {t : List UInt8} {a : ByteArray} (h : IdxOf w b rate t a) (pat : ByteArray) (budget : Nat) (memo : Bool) (hp : pat.size ≤ maxLen) (E At : Nat) (hP : Q.parse (L pat) = .error (E, At)) (hb2 : budget ≤ 1048576) :
    Calls Try.prog 24 #[.pointer (some ⟨b, 0, none⟩), .string pat, .int .i64 (budget : Int), .bool memo] w fun e w' => e = .returned (.tuple #[.slice none 0 0, .agg #[.int .i64 (E : Int), .int .i64 (At : Int)]]) ∧ Below w.heap.size w w' := by
  have hs := h.size
  have hl := h.len
  refine (Search_any b rate (M.row t 0) a pat budget memo w h.idx (by omega) h.row hp).mono ?_
  rintro e w' ⟨he, hB⟩
  rw [L_def a, h.ah, Q.search_eq t (L pat) budget memo hb2, hP] at he
  exact ⟨he, hB⟩
theorem Q.enough_le {t : List UInt8} {P : Q.Pat} {memo : Bool} (h : t.length ≤ 200) : Q.steps t P memo ≤ 524288 :=
  Nat.le_trans Q.steps_le (Nat.le_trans (Q.most_le h) (by decide))
/-- find -/
theorem find_ok {w : World} {b rate : Nat} {t : List UInt8} {a : ByteArray} (h : IdxOf w b rate t a) (pat : ByteArray) (hp : pat.size ≤ maxLen) (P : Q.Pat) (hP : Q.parse (L pat) = .ok P) :
    Calls Try.prog 22 #[.pointer (some ⟨b, 0, none⟩), .string pat] w fun e w' => ∃ g, e = .returned (.tuple #[.slice (some ⟨g, 0, none⟩) (Q.hits t P).length (Q.hits t P).length, .int .i64 0]) ∧ w.heap.size ≤ g ∧ SlI w' (.slice (some ⟨g, 0, none⟩) (Q.hits t P).length (Q.hits t P).length) (Q.hits t P) ∧ Below w.heap.size w w' := by
  have hs := h.size
  have hl := h.len
  refine (find_any b rate (M.row t 0) a pat w h.idx (by omega) h.row hp).mono ?_
  rintro e w' ⟨he, hB⟩
  rw [L_def a, h.ah, show (524288 : Int) = ((524288 : Nat) : Int) from rfl, Q.search_eq t (L pat) 524288 true (by decide), hP] at he
  simp only [if_pos (Q.enough_le hl)] at he
  obtain ⟨g, e1, e2, e3⟩ := he
  exact ⟨g, e1, e2, SlI.nums e3, hB⟩
theorem find_err {w : World} {b rate : Nat} {t : List UInt8} {a : ByteArray} (h : IdxOf w b rate t a) (pat : ByteArray) (hp : pat.size ≤ maxLen) (E At : Nat) (hP : Q.parse (L pat) = .error (E, At)) :
    Calls Try.prog 22 #[.pointer (some ⟨b, 0, none⟩), .string pat] w fun e w' => e = .returned (.tuple #[.slice none 0 0, .int .i64 (E : Int)]) ∧ Below w.heap.size w w' := by
  have hs := h.size
  have hl := h.len
  refine (find_any b rate (M.row t 0) a pat w h.idx (by omega) h.row hp).mono ?_
  rintro e w' ⟨he, hB⟩
  rw [L_def a, h.ah, show (524288 : Int) = ((524288 : Nat) : Int) from rfl, Q.search_eq t (L pat) 524288 true (by decide), hP] at he
  exact ⟨he, hB⟩
/-- the desk: what it has of its pattern -/
theorem laid_p (t pat : ByteArray) (rate : Int) (w : World) (ht : t.size ≤ maxLen) (hpm : pat.size ≤ maxLen) (r0 : -9223372036854775808 ≤ rate) (r1 : rate ≤ 9223372036854775807) :
    Calls Try.prog 10 #[.string t, .int .i64 rate, .string pat] w fun e w' => ∃ (bd bx r : Nat) (t' pat' a : ByteArray) (hv : Bool), e = .returned (.pointer (some ⟨bd, 0, none⟩)) ∧ t'.size ≤ 200 ∧
      Dsk w' bd bx r t' pat' hv ∧ IdxOf w' bx r t'.data.toList a ∧ w.heap.size ≤ bd ∧ w.heap.size ≤ bx ∧ Below w.heap.size w w' ∧ Hid (t'.data.toList = t.data.toList.take 200) ∧
      Hid (hv = true → pat' = pat ∧ ∃ P, Q.parse (L pat) = .ok P) := by
  refine (laid_any t pat rate w ht hpm r0 r1).mono ?_
  rintro e w' ⟨bd, bx, r, t', pat', a, hv, rfl, h1, h2, h3, hD, hI, ha, g1, g2, hB, k1, k2⟩
  refine ⟨bd, bx, r, t', pat', a, hv, rfl, h3, hD, ⟨hI, ha, by rw [size_len]; exact h3, h1, h2⟩, g1, g2, hB, k1, fun hv1 => ?_⟩
  rcases k2.out with ⟨_, e1, l, e2⟩ | ⟨e1, _⟩
  · refine ⟨e1, ?_⟩
    cases hp : Q.parse (L pat) with
    | ok P => exact ⟨P, rfl⟩
    | error x =>
      rw [L_def a, ha, show (524288 : Int) = ((524288 : Nat) : Int) from rfl, Q.search_eq _ (L pat) 524288 true (by decide), hp] at e2
      cases e2
  · rw [e1] at hv1; cases hv1
end Go.Proofs.Ytjmkkkfloalliab
