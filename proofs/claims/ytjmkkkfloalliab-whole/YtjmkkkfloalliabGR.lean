import Derived.Test.YtjmkkkfloalliabGQ
-- Whole
namespace Go.Proofs.Ytjmkkkfloalliab
set_option linter.unusedVariables false
open Go.RowKit

theorem Q.whole_hits (s : List UInt8) {P : Q.Pat} (h : ∀ u, Q.acc P u = true ↔ (u ≠ [] ∧ ∃ x y, u = x :: 98 :: (s ++ [99, y]))) : Q.hits (97 :: 98 :: (s ++ [99, 100])) P = [0] := by
  refine Q.rise_ext (Q.hits_rise _ P) (by simp) fun p => ?_
  rw [Q.mem_at (A := fun u => ∃ x y, u = x :: 98 :: (s ++ [99, y])) h, List.mem_singleton]
  constructor
  · rintro ⟨_, u, h1, _, x, y, rfl⟩
    obtain ⟨z, e⟩ := (M.pre_iff _ _).1 h1
    have := congrArg List.length e
    simp at this
    omega
  · rintro rfl
    exact ⟨Nat.zero_le _, 97 :: 98 :: (s ++ [99, 100]), (M.pre_iff _ _).2 ⟨[], by simp⟩, by simp, 97, 100, rfl⟩

set_option maxRecDepth 100000 in
set_option maxHeartbeats 1600000 in
theorem whole_says (w : World) (bd bx rate : Nat) (s t pat : ByteArray) (hv : Bool) (hD : Dsk w bd bx rate t pat hv) (hr1 : 1 ≤ rate) (hr2 : rate ≤ 32) (hs : s.size ≤ maxLen) :
    Calls Try.prog 14 #[.pointer (some ⟨bd, 0, none⟩), .string s] w fun e w' => e = .returned (.bool true) ∧ Below w.heap.size w w' := by
  have d2 := hD.c2
  have hbd := Blk.lt hD
  go_enter Try.func14, Try.ntmps14
  go_wp2_with fail
  refine (clipped_any s 15 _ hs (by decide)).mono ?_
  rintro e w' ⟨r, rfl, hr, _, rfl⟩
  obtain ⟨t2, ht2⟩ : ∃ q : ByteArray, q = ⟨#[97, 98]⟩ ++ r ++ ⟨#[99, 100]⟩ := ⟨_, rfl⟩
  have hz2 : t2.size ≤ 200 := by rw [ht2, ByteArray.size_append, ByteArray.size_append]; show 2 + r.size + 2 ≤ 200; omega
  have HL2 : Hid (t2.data.toList = 97 :: 98 :: (L r ++ [99, 100])) := by
    show L t2 = _
    rw [ht2, L_app, L_app]; rfl
  have HT2 := hid ht2
  clear ht2
  go_wp2_with fail
  rw [← HT2.out]
  refine (build_of t2 rate _ hz2 hr1 hr2).mono ?_
  rintro e w2 ⟨by_, ay, rfl, _, hY2, hB2⟩
  have HY2 := hid hY2
  clear hY2
  go_wp2_with fail
  refine (quoted_any r _ (by omega)).mono ?_
  rintro e w3 ⟨p, rfl, HPL, hpz, hB3⟩
  obtain ⟨P, hP1, hP2⟩ := Q.whole_parse (L r) (by rw [L_len]; exact hr)
  obtain ⟨q, hq⟩ : ∃ q : ByteArray, q = ⟨#[46, 98]⟩ ++ p ++ ⟨#[99, 46]⟩ := ⟨_, rfl⟩
  have hqz : q.size ≤ maxLen := by rw [hq, ByteArray.size_append, ByteArray.size_append]; show 2 + p.size + 2 ≤ maxLen; unfold maxLen; omega
  have HPQ : Hid (Q.parse (L q) = .ok P) := by
    show _ = _
    rw [hq, L_app, L_app, HPL.out]
    exact hP1
  have HH : Hid (Q.hits t2.data.toList P = [0]) := by
    show _ = _
    rw [HL2.out]
    exact Q.whole_hits (L r) hP2
  have HQ := hid hq
  have HX3 := hid (HY2.out.below hB3 HY2.out.lt)
  clear hq hP1 hP2
  go_wp2_with fail
  rw [← HQ.out]
  refine (find_ok HX3.out q hqz P HPQ.out).mono ?_
  rintro e w4 ⟨gl, rfl, _, hS4, hB4⟩
  have hBB4 := (hB2.trans (hB3.mono hB2.size)).trans (hB4.mono (Nat.le_trans hB2.size hB3.size))
  rw [HH.out] at hS4 ⊢
  have hc := (sli_cells hS4 0 (by decide)).2
  have hc2 : w4.cell? ⟨gl, 0, none⟩ = some (.int .i64 0) := hc
  clear hS4 HX3 HPQ HH hc
  go_wp2
  go_ret
  exact ⟨rfl, hBB4⟩

set_option maxRecDepth 100000 in
set_option maxHeartbeats 400000 in
theorem walk_Whole (a0 : ByteArray) (a1 : Int) (a2 : ByteArray) (a3 : ByteArray) (a4 : Int) (a5 : Int) (w0 : a0.size ≤ maxLen) (w1 : (Lit.int .i64 a1).wf = true) (w2 : a2.size ≤ maxLen) (w3 : a3.size ≤ maxLen) (_ : (Lit.int .i64 a4).wf = true) (_ : (Lit.int .i64 a5).wf = true) (w : World) :
    Calls Try.prog 6 #[.string a0, .int .i64 a1, .string a2, .string a3, .int .i64 a4, .int .i64 a5] w fun e w' => e = .returned (.bool true) ∧ Below w.heap.size w w' := by
  obtain ⟨b1, b2⟩ := wf_bounds w1
  go_enter Try.func6, Try.ntmps6
  go_wp2_with fail
  refine (laid_p a0 a2 a1 _ w0 w2 b1 b2).mono ?_
  rintro e w' ⟨bd, bx, r, t', pat', a, hv, rfl, _, hD, hI, g1, g2, hB, _, HV⟩
  have hr1 := hI.r1
  have hr2 := hI.r2
  clear HV hI
  go_wp2_with fail
  refine (whole_says _ bd bx r a3 t' pat' hv hD hr1 hr2 w3).mono ?_
  rintro e w5 ⟨rfl, hB2⟩
  go_wp2
  go_ret
  exact ⟨rfl, hB.trans (hB2.mono hB.size)⟩
end Go.Proofs.Ytjmkkkfloalliab
