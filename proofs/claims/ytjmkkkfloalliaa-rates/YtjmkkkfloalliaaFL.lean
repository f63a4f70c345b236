import Derived.Test.YtjmkkkfloalliaaFG
-- Count, Exists
namespace Go.Proofs.Ytjmkkkfloalliaa
set_option linter.unusedVariables false
open Go.RowKit

set_option maxRecDepth 100000 in
set_option maxHeartbeats 800000 in
theorem count_ok {w : World} {b rate : Nat} {t : List UInt8} {a : ByteArray} (h : IdxOf w b rate t a) (pat : ByteArray) (budget : Nat) (hp : pat.size ≤ maxLen) (P : Q.Pat) (hP : Q.parse (L pat) = .ok P) (hb : Q.steps t P true ≤ budget) (hb2 : budget ≤ 1048576) :
    Calls Try.prog 36 #[.pointer (some ⟨b, 0, none⟩), .string pat, .int .i64 (budget : Int)] w fun e w' => e = .returned (.tuple #[.int .i64 ((Q.hits t P).length : Nat), .agg #[.int .i64 0, .int .i64 0]]) ∧ Below w.heap.size w w' := by
  have hI : IdxOf (w.alloc (.cells #[.int .i64 0, .int .i64 0] 59)) b rate t a := h.below ((Below.refl _ w).alloc (Nat.le_refl _) _) h.lt
  have HS := hid (search_ok hI pat budget true hp P hP hb hb2)
  have hb0 := h.lt
  clear h hI hP hb
  generalize (Q.hits t P) = H at *
  go_enter Try.func36, Try.ntmps36
  go_wp2_with fail
  refine HS.out.mono ?_
  rintro e w1 ⟨g, rfl, hg, hS, hB⟩
  clear HS hS
  have hz := hB.size
  simp at hz hg
  have HF : Hid (BlkT w1 w.heap.size 59 [.int .i64 0, .int .i64 0]) := (hB.block _ (by simp)).trans (BlkT.new w _ _)
  have HB : Hid (Below w.heap.size w w1) := ((Below.refl _ w).alloc (Nat.le_refl _) _).trans (hB.mono (by simp))
  have f0 := HF.out.cell 0; have f1 := HF.out.cell 1; have ff := HF.out.frozen
  simp only [List.getElem?_cons_zero, List.getElem?_cons_succ] at f0 f1
  have n1 : w.heap.size ≠ w1.heap.size := by omega
  have n2 : w.heap.size < w1.heap.size := by omega
  clear hB
  go_wp2_with fail
  go_region
  all_goals
    go_wp2
    exact bodyPost_ret (v := .tuple #[.int .i64 (H.length : Nat), .agg #[.int .i64 0, .int .i64 0]]) (by simp [results, Try.results36, go_sem, *]) rfl ⟨rfl, (((HB.out.setCell (Nat.le_refl _) _).setCell (Nat.le_refl _) _).alloc (by simp [World.setCell]; omega) _).drew⟩

set_option maxRecDepth 100000 in
set_option maxHeartbeats 800000 in
theorem exists_ok {w : World} {b rate : Nat} {t : List UInt8} {a : ByteArray} (h : IdxOf w b rate t a) (pat : ByteArray) (budget : Nat) (hp : pat.size ≤ maxLen) (P : Q.Pat) (hP : Q.parse (L pat) = .ok P) (hb : Q.steps t P true ≤ budget) (hb2 : budget ≤ 1048576) :
    Calls Try.prog 37 #[.pointer (some ⟨b, 0, none⟩), .string pat, .int .i64 (budget : Int)] w fun e w' => e = .returned (.tuple #[.bool (decide (((Q.hits t P).length : Int) > 0)), .agg #[.int .i64 0, .int .i64 0]]) ∧ Below w.heap.size w w' := by
  have hI : IdxOf (w.alloc (.cells #[.int .i64 0, .int .i64 0] 59)) b rate t a := h.below ((Below.refl _ w).alloc (Nat.le_refl _) _) h.lt
  have HS := hid (search_ok hI pat budget true hp P hP hb hb2)
  have hb0 := h.lt
  clear h hI hP hb
  generalize (Q.hits t P) = H at *
  go_enter Try.func37, Try.ntmps37
  go_wp2_with fail
  refine HS.out.mono ?_
  rintro e w1 ⟨g, rfl, hg, hS, hB⟩
  clear HS hS
  have hz := hB.size
  simp at hz hg
  have HF : Hid (BlkT w1 w.heap.size 59 [.int .i64 0, .int .i64 0]) := (hB.block _ (by simp)).trans (BlkT.new w _ _)
  have HB : Hid (Below w.heap.size w w1) := ((Below.refl _ w).alloc (Nat.le_refl _) _).trans (hB.mono (by simp))
  have f0 := HF.out.cell 0; have f1 := HF.out.cell 1; have ff := HF.out.frozen
  simp only [List.getElem?_cons_zero, List.getElem?_cons_succ] at f0 f1
  have n1 : w.heap.size ≠ w1.heap.size := by omega
  have n2 : w.heap.size < w1.heap.size := by omega
  clear hB
  go_wp2_with fail
  go_region
  all_goals
    go_wp2
    exact bodyPost_ret (v := .tuple #[.bool (decide ((H.length : Int) > 0)), .agg #[.int .i64 0, .int .i64 0]]) (by simp [results, Try.results37, go_sem, *]) rfl ⟨rfl, (((HB.out.setCell (Nat.le_refl _) _).setCell (Nat.le_refl _) _).alloc (by simp [World.setCell]; omega) _).drew⟩
end Go.Proofs.Ytjmkkkfloalliaa
