import Derived.Test.YtjmkkkfloalliabL9
import Derived.Test.YtjmkkkfloalliabZA
import Derived.OpenShut
namespace Go.Proofs.Ytjmkkkfloalliab
set_option linter.unusedVariables false
open Go.RowKit

theorem wf_bounds {c : Int} (h : (Lit.int .i64 c).wf = true) : -9223372036854775808 ≤ c ∧ c ≤ 9223372036854775807 := by
  exact bounds_i64 h

set_option maxHeartbeats 400000 in
theorem pick_any (c n : Int) (w : World) (h0 : -9223372036854775808 ≤ c) (h1 : c ≤ 9223372036854775807) (n0 : 1 ≤ n) (n1 : n ≤ 1000000) :
    Calls Try.prog 19 #[.int .i64 c, .int .i64 n] w fun e w' => (∃ r : Nat, e = .returned (.int .i64 r) ∧ (r : Int) < n) ∧ w' = w := by
  have key : ∀ d : Int, 0 ≤ d → ∃ r : Nat, d % n = (r : Int) ∧ (r : Int) < n := fun d hd => ⟨(d % n).toNat, by have := Int.emod_nonneg d (show n ≠ 0 by omega); omega, by have := Int.emod_nonneg d (show n ≠ 0 by omega); have := Int.emod_lt_of_pos d (show 0 < n by omega); omega⟩
  by_cases h : c < 0
  · obtain ⟨r, hr, hl⟩ := key (-(c + 1)) (by omega)
    have HR : Hid _ := hr
    clear hr key
    go_enter Try.func19, Try.ntmps19
    go_wp2
    go_ret
    exact ⟨⟨r, ret_int (by rw [← Int.neg_tmod, Int.tmod_eq_emod_of_nonneg (by omega)]; exact HR.out), hl⟩, rfl⟩
  · obtain ⟨r, hr, hl⟩ := key c (by omega)
    have HR : Hid _ := hr
    clear hr key
    go_enter Try.func19, Try.ntmps19
    go_wp2
    go_ret
    exact ⟨⟨r, ret_int (HR.out), hl⟩, rfl⟩

set_option maxHeartbeats 400000 in
theorem clipped_any (s : ByteArray) (n : Nat) (w : World) (hs : s.size ≤ maxLen) (hn : n ≤ 1000) :
    Calls Try.prog 18 #[.string s, .int .i64 n] w fun e w' => ∃ r : ByteArray, e = .returned (.string r) ∧ r.size ≤ n ∧ Hid (r.data.toList = s.data.toList.take n) ∧ w' = w := by
  unfold maxLen at hs
  by_cases h : n < s.size
  · go_enter Try.func18, Try.ntmps18
    go_wp2
    go_ret
    refine ⟨_, rfl, ?_, ?_, rfl⟩
    · rw [ByteArray.size_extract]; omega
    · show _ = _
      rw [Lib.extract_data]; simp
  · go_enter Try.func18, Try.ntmps18
    go_wp2
    go_ret
    refine ⟨_, rfl, by omega, ?_, rfl⟩
    show _ = _
    rw [List.take_of_length_le (by rw [size_len]; omega)]

/-- what 'find' answers -/
def FindPost (B : Nat) (r : Except (Nat × Nat) (List Nat)) (e : Ending) (w' : World) : Prop :=
  match r with
  | .error (E, _) => e = .returned (.tuple #[.slice none 0 0, .int .i64 (E : Int)])
  | .ok l => ∃ b, e = .returned (.tuple #[.slice (some ⟨b, 0, none⟩) l.length l.length, .int .i64 0]) ∧ B ≤ b ∧ Nums .i64 w' b (natI l)

set_option maxHeartbeats 400000 in
theorem find_any (bi rate h : Nat) (a pat : ByteArray) (w : World) (hI : Idx w bi rate h a) (ha : a.size ≤ 1000) (hh : h ≤ a.size) (hp : pat.size ≤ maxLen) :
    Calls Try.prog 22 #[.pointer (some ⟨bi, 0, none⟩), .string pat] w fun e w' => FindPost w.heap.size (Q.search (L a) h (L pat) 524288 true) e w' ∧ Below w.heap.size w w' := by
  have HS := hid (Search_any bi rate h a pat 524288 true w hI ha hh hp)
  clear hI
  generalize Q.search (L a) h (L pat) 524288 true = R at *
  cases R with
  | error ea =>
    obtain ⟨E, At⟩ := ea
    have HS2 : Hid (Calls Try.prog 24 #[.pointer (some ⟨bi, 0, none⟩), .string pat, .int .i64 524288, .bool true] w fun e w' => e = .returned (.tuple #[.slice none 0 0, .agg #[.int .i64 (E : Int), .int .i64 (At : Int)]]) ∧ Below w.heap.size w w') := HS.out
    clear HS
    go_enter Try.func22, Try.ntmps22
    go_wp2_with fail
    refine HS2.out.mono ?_
    rintro e w1 ⟨rfl, hb⟩
    go_wp2
    go_quiet (fail)
    go_wp2
    go_ret2
    exact ⟨rfl, below_drewN (hb.alloc hb.size _) _⟩
  | ok l =>
    have HS2 : Hid (Calls Try.prog 24 #[.pointer (some ⟨bi, 0, none⟩), .string pat, .int .i64 524288, .bool true] w fun e w' => (∃ b, e = .returned (.tuple #[.slice (some ⟨b, 0, none⟩) l.length l.length, .agg #[.int .i64 0, .int .i64 0]]) ∧ w.heap.size ≤ b ∧ Nums .i64 w' b (natI l)) ∧ Below w.heap.size w w') := HS.out
    clear HS
    go_enter Try.func22, Try.ntmps22
    go_wp2_with fail
    refine HS2.out.mono ?_
    rintro e w1 ⟨⟨b, rfl, hb1, hN⟩, hb⟩
    go_wp2
    go_quiet (fail)
    go_wp2
    go_ret2
    exact ⟨⟨b, rfl, hb1, Blk.drewN (Blk.alloc hN _) _⟩, below_drewN (hb.alloc hb.size _) _⟩
end Go.Proofs.Ytjmkkkfloalliab
