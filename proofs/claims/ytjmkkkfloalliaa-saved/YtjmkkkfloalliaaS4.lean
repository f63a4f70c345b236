import Derived.Test.YtjmkkkfloalliaaS5
namespace Go.Proofs.Ytjmkkkfloalliaa
set_option linter.unusedVariables false
open Go.RowKit

theorem laid_of (t pat : ByteArray) (rate : Int) (w : World) (ht : t.size ≤ maxLen) (hpm : pat.size ≤ maxLen) (r0 : -9223372036854775808 ≤ rate) (r1 : rate ≤ 9223372036854775807) :
    Calls Try.prog 22 #[.string t, .int .i64 rate, .string pat] w fun e w' => ∃ (bd bx r : Nat) (t' pat' a : ByteArray) (hv : Bool), e = .returned (.pointer (some ⟨bd, 0, none⟩)) ∧
      Dsk w' bd bx r t' pat' hv ∧ IdxOf w' bx r t'.data.toList a ∧ w.heap.size ≤ bd ∧ w.heap.size ≤ bx ∧ Below w.heap.size w w' := by
  refine (laid_any t pat rate w ht hpm r0 r1).mono ?_
  rintro e w' ⟨bd, bx, r, t', pat', a, hv, rfl, h1, h2, h3, hD, hI, ha, g1, g2, hB, _, _⟩
  exact ⟨bd, bx, r, t', pat', a, hv, rfl, hD, ⟨hI, ha, by rw [size_len]; exact h3, h1, h2⟩, g1, g2, hB⟩

set_option maxRecDepth 100000 in
set_option maxHeartbeats 400000 in
theorem walk_Saved (a0 : ByteArray) (a1 : Int) (a2 : ByteArray) (a3 : ByteArray) (a4 : Int) (a5 : Int) (w0 : a0.size ≤ maxLen) (w1 : (Lit.int .i64 a1).wf = true) (w2 : a2.size ≤ maxLen) (_ : a3.size ≤ maxLen) (_ : (Lit.int .i64 a4).wf = true) (_ : (Lit.int .i64 a5).wf = true) (w : World) :
    Calls Try.prog 13 #[.string a0, .int .i64 a1, .string a2, .string a3, .int .i64 a4, .int .i64 a5] w fun e w' => e = .returned (.bool true) ∧ Below w.heap.size w w' := by
  obtain ⟨b1, b2⟩ := wf_bounds w1
  go_enter Try.func13, Try.ntmps13
  go_wp2_with fail
  refine (laid_of a0 a2 a1 _ w0 w2 b1 b2).mono ?_
  rintro e w' ⟨bd, bx, r, t', pat', a, hv, rfl, hD, hI, g1, g2, hB⟩
  go_wp2_with fail
  refine (dsaved_any _ bd bx r t' pat' a hv hD hI).mono ?_
  rintro e w5 ⟨rfl, hB2⟩
  go_wp2
  go_ret
  exact ⟨rfl, hB.trans (hB2.mono hB.size)⟩
end Go.Proofs.Ytjmkkkfloalliaa
