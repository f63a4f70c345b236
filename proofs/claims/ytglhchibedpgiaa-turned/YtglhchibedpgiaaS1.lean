import Derived.Test.YtglhchibedpgiaaL9
import Derived.OpenShut
namespace Go.Proofs.Ytglhchibedpgiaa
set_option linter.unusedVariables false
open Go.RowKit

theorem wf_bounds {c : Int} (h : (Lit.int .i64 c).wf = true) : -9223372036854775808 ≤ c ∧ c ≤ 9223372036854775807 := by
  exact bounds_i64 h

set_option maxHeartbeats 400000 in
theorem pick_any (c n : Int) (w : World) (h0 : -9223372036854775808 ≤ c) (h1 : c ≤ 9223372036854775807) (n0 : 1 ≤ n) (n1 : n ≤ 1000000) :
    Calls Try.prog 20 #[.int .i64 c, .int .i64 n] w fun e w' => (∃ r : Nat, e = .returned (.int .i64 r) ∧ (r : Int) < n) ∧ w' = w := by
  have key : ∀ d : Int, 0 ≤ d → ∃ r : Nat, d % n = (r : Int) ∧ (r : Int) < n := fun d hd => ⟨(d % n).toNat, by have := Int.emod_nonneg d (show n ≠ 0 by omega); omega, by have := Int.emod_nonneg d (show n ≠ 0 by omega); have := Int.emod_lt_of_pos d (show 0 < n by omega); omega⟩
  by_cases h : c < 0
  · obtain ⟨r, hr, hl⟩ := key (-(c + 1)) (by omega)
    have HR : Hid _ := hr
    clear hr key
    go_enter Try.func20, Try.ntmps20
    go_wp2
    go_ret
    exact ⟨⟨r, ret_int (by rw [← Int.neg_tmod, Int.tmod_eq_emod_of_nonneg (by omega)]; exact HR.out), hl⟩, rfl⟩
  · obtain ⟨r, hr, hl⟩ := key c (by omega)
    have HR : Hid _ := hr
    clear hr key
    go_enter Try.func20, Try.ntmps20
    go_wp2
    go_ret
    exact ⟨⟨r, ret_int (HR.out), hl⟩, rfl⟩

set_option maxHeartbeats 400000 in
theorem clipped_any (s : ByteArray) (n : Nat) (w : World) (hs : s.size ≤ maxLen) (hn : n ≤ 1000) :
    Calls Try.prog 19 #[.string s, .int .i64 n] w fun e w' => ∃ r : ByteArray, e = .returned (.string r) ∧ r.size ≤ n ∧ Hid (r.data.toList = s.data.toList.take n) ∧ w' = w := by
  unfold maxLen at hs
  by_cases h : n < s.size
  · go_enter Try.func19, Try.ntmps19
    go_wp2
    go_ret
    refine ⟨_, rfl, ?_, ?_, rfl⟩
    · rw [ByteArray.size_extract]; omega
    · show _ = _
      rw [Lib.extract_data]; simp
  · go_enter Try.func19, Try.ntmps19
    go_wp2
    go_ret
    refine ⟨_, rfl, by omega, ?_, rfl⟩
    show _ = _
    rw [List.take_of_length_le (by rw [size_len]; omega)]

set_option maxHeartbeats 400000 in
theorem search_any (p : Value) (pat : ByteArray) (n : Int) (m : Bool) (w : World) :
    Calls Try.prog 24 #[p, .string pat, .int .i64 n, .bool m] w fun e w' => e = .returned (.tuple #[.slice none 0 0, .agg #[.int .i64 0, .int .i64 0]]) ∧ Below w.heap.size w w' := by
  go_enter Try.func24, Try.ntmps24
  go_wp2
  exact bodyPost_ret (v := .tuple #[.slice none 0 0, .agg #[.int .i64 0, .int .i64 0]]) (by simp [results, Try.results24, go_sem]) rfl ⟨rfl, by first | exact (Below.refl _ _).alloc (Nat.le_refl _) _ | exact (((Below.refl _ _).alloc (Nat.le_refl _) _).setCell (by simp) _).setCell (by simp) _⟩

set_option maxHeartbeats 400000 in
theorem find_any (p : Value) (pat : ByteArray) (w : World) :
    Calls Try.prog 23 #[p, .string pat] w fun e w' => e = .returned (.tuple #[.slice none 0 0, .int .i64 0]) ∧ Below w.heap.size w w' := by
  go_enter Try.func23, Try.ntmps23
  go_wp2_with fail
  refine (search_any _ _ _ _ _).mono ?_
  rintro e w1 ⟨rfl, hb⟩
  go_wp2
  go_quiet (fail)
  go_wp2
  go_ret2
  exact ⟨rfl, below_drewN (hb.alloc hb.size _) _⟩
end Go.Proofs.Ytglhchibedpgiaa
