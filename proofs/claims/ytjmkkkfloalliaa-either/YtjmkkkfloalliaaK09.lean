import Derived.Test.YtjmkkkfloalliaaK06
namespace Go.Proofs.Ytjmkkkfloalliaa
set_option linter.unusedVariables false
open Go.RowKit

namespace Q
theorem at_or {t : List UInt8} {A B : Lang} {p : Nat} : At t (fun u => A u ∨ B u) p ↔ (At t A p ∨ At t B p) := by
  constructor
  · rintro ⟨u, h1, h2, h3 | h3⟩
    · exact .inl ⟨u, h1, h2, h3⟩
    · exact .inr ⟨u, h1, h2, h3⟩
  · rintro (⟨u, h1, h2, h3⟩ | ⟨u, h1, h2, h3⟩)
    · exact ⟨u, h1, h2, .inl h3⟩
    · exact ⟨u, h1, h2, .inr h3⟩
theorem mem_or {t : List UInt8} {P P2 P3 : Pat} {A B : Lang} (h : ∀ u, acc P u = true ↔ (u ≠ [] ∧ A u)) (h2 : ∀ u, acc P2 u = true ↔ (u ≠ [] ∧ B u)) (h3 : ∀ u, acc P3 u = true ↔ (u ≠ [] ∧ (A u ∨ B u))) (x : Nat) : x ∈ hits t P3 ↔ (x ∈ hits t P ∨ x ∈ hits t P2) := by
  rw [mem_at h, mem_at h2, mem_at (A := fun u => A u ∨ B u) h3, at_or]
  constructor
  · rintro ⟨g, k | k⟩
    · exact .inl ⟨g, k⟩
    · exact .inr ⟨g, k⟩
  · rintro (⟨g, k⟩ | ⟨g, k⟩)
    · exact ⟨g, .inl k⟩
    · exact ⟨g, .inr k⟩
end Q

set_option maxRecDepth 100000 in
set_option maxHeartbeats 1600000 in
theorem either_any (w : World) (bd bx rate : Nat) (s t pat a : ByteArray) (P : Q.Pat) (hD : Dsk w bd bx rate t pat true) (hI : IdxOf w bx rate t.data.toList a) (hp : pat.size ≤ maxLen) (hs : s.size ≤ maxLen) (hP : Q.parse (L pat) = .ok P) :
    Calls Try.prog 24 #[.pointer (some ⟨bd, 0, none⟩), .string s] w fun e w' => e = .returned (.bool true) ∧ Below w.heap.size w w' := by
  have hbd := Blk.lt hD
  have d0 := hD.c0
  cases hps : Q.parse (L s) with
  | error x =>
    obtain ⟨E, At⟩ := x
    have hE := Q.parse_err hps
    have HC := hid (search_err hI s 524288 true hs E At hps (by decide))
    have hq : (((E : Nat) : Int) != 0) = true := by simp; omega
    clear hps hD hI hP
    go_enter Try.func24, Try.ntmps24
    go_wp2_with fail
    refine HC.out.mono ?_
    rintro e w2 ⟨rfl, hB⟩
    go_wp2
    go_ret
    exact ⟨rfl, hB.alloc hB.size _⟩
  | ok P2 =>
    obtain ⟨d, m, hd1, hd2, hd3⟩ := pat_den hP
    obtain ⟨dy, my, hy1, hy2, hy3⟩ := pat_den hps
    have HP := hid hP
    have HP2 := hid hps
    have HPA : Hid (∀ u, Q.acc P u = true ↔ (u ≠ [] ∧ d.lang u)) := hd3
    have HPB : Hid (∀ u, Q.acc P2 u = true ↔ (u ≠ [] ∧ dy.lang u)) := hy3
    have HTL : Hid (t.data.toList.length ≤ 200) := hI.len
    have hpz : pat.size ≤ 40 := by rw [← L_len]; exact hd2
    have hsz : s.size ≤ 40 := by rw [← L_len]; exact hy2
    obtain ⟨q, hq⟩ : ∃ q : ByteArray, q = pat ++ ⟨#[124]⟩ ++ s := ⟨_, rfl⟩
    have hqs : q.size ≤ maxLen := by rw [hq, ByteArray.size_append, ByteArray.size_append]; show pat.size + 1 + s.size ≤ maxLen; unfold maxLen; omega
    have hF : Fits q (fun u => d.lang u ∨ dy.lang u) := fits_of (s := L pat ++ 124 :: L s) (by rw [hq, L_app, L_app, List.append_assoc]; rfl) (Q.or_other hd1 hy1)
    have HF := hid hF
    have HQ := hid hq
    have HC := hid (search_ok hI s 524288 true hs P2 hps (Q.enough_le hI.len) (by decide))
    have HD := hid hD
    have HI := hid hI
    clear hP hd1 hd2 hd3 hF hq hps hy1 hy2 hy3 hD hI
    go_enter Try.func24, Try.ntmps24
    go_wp2_with fail
    refine HC.out.mono ?_
    rintro e w1 ⟨g1, rfl, _, _, hB1⟩
    have hBa := hB1.alloc hB1.size (.cells #[.int .i64 0, .int .i64 0] 59)
    go_upto_region 4 with fail
    generalize w1.alloc (.cells #[.int .i64 0, .int .i64 0] 59) = w2 at *
    clear hB1 HC d0
    have hD2 : Dsk w2 bd bx rate t pat true := Blk.below HD.out hBa hbd
    have hX2 := HI.out.below hBa HI.out.lt
    have hX2d : IdxOf w2.drew bx rate t.data.toList a := ⟨hX2.idx, hX2.ah, hX2.len, hX2.r1, hX2.r2⟩
    clear hbd
    have d0 := hD2.c0; have d3 := hD2.c3
    have hbd := Blk.lt hD2
    go_region_held (fun w' => w'.cell? ⟨bd, 0, none⟩ = some (.pointer (some ⟨bx, 0, none⟩)) ∧ w'.cell? ⟨bd, 3, none⟩ = some (.string pat))
      (first | (exact ⟨(hB3.cell hbd).trans d0, (hB3.cell hbd).trans d3⟩) | go_keep)
      ((go_at_call 44; refine (find_ok hX2d pat hp P HP.out).mono ?_; rintro e w3 ⟨ga, rfl, _, hS3, hB3⟩))
    rename_i hHeld; clear hHeld
    have hD3 : Dsk w3 bd bx rate t pat true := Blk.below (Blk.drew hD2) hB3 hbd
    have hX3 := hX2d.below hB3 hX2.lt
    have hBB3 : Below w.heap.size w w3 := hBa.drew.trans (hB3.mono hBa.size)
    clear hD2 hX2 hX2d hB3 hBa d0 d3 hbd
    have d0 := hD3.c0
    have hbd := Blk.lt hD3
    go_wp2_with fail
    refine (find_ok hX3 s hs P2 HP2.out).mono ?_
    rintro e w4 ⟨gb, rfl, _, hS4, hB4⟩
    have hD4 : Dsk w4 bd bx rate t pat true := Blk.below hD3 hB4 hbd
    have hX4 := hX3.below hB4 hX3.lt
    have hX4d : IdxOf w4.drew bx rate t.data.toList a := ⟨hX4.idx, hX4.ah, hX4.len, hX4.r1, hX4.r2⟩
    have hBB4 : Below w.heap.size w w4 := hBB3.trans (hB4.mono hBB3.size)
    have hS34 := hS3.below hB4 (Nat.le_refl _)
    clear hD3 hX3 hB4 hBB3 hS3 d0 hbd
    have d0 := hD4.c0; have d3 := hD4.c3
    have hbd := Blk.lt hD4
    go_wp2_with fail
    go_region_held (fun w' => w'.cell? ⟨bd, 0, none⟩ = some (.pointer (some ⟨bx, 0, none⟩)) ∧ w'.cell? ⟨bd, 3, none⟩ = some (.string pat))
      (first | (exact ⟨(hB5.cell hbd).trans d0, (hB5.cell hbd).trans d3⟩) | go_keep)
      ((go_at_call 44; rw [← HQ.out]; refine (find_of hX4d q hqs _ HF.out).mono ?_; rintro e w5 ⟨v5, E5, rfl, HR5, hB5⟩))
    rename_i hHeld; clear hHeld
    have hBB5 : Below w.heap.size w w5 := hBB4.drew.trans (hB5.mono hBB4.size)
    have hSa := SlI.below (w := w4.drew) hS34 hB5 (Nat.le_refl _)
    have hSb := SlI.below (w := w4.drew) hS4 hB5 (Nat.le_refl _)
    clear hD4 hX4 hX4d hB5 hBB4 hS34 hS4 d0 d3 hbd HF
    rcases HR5.out with ⟨rfl, P3, g5, hP3, hA3, rfl, hT5⟩ | ⟨hE | hE, rfl⟩
    · have hl1 : (Q.hits t.data.toList P).length ≤ 1000 := Q.hits_len _ _ HTL.out
      have hl2 : (Q.hits t.data.toList P2).length ≤ 1000 := Q.hits_len _ _ HTL.out
      have hl3 : (Q.hits t.data.toList P3).length ≤ 1000 := Q.hits_len _ _ HTL.out
      have HU := hid (union_any w5 ga gb _ _ (Q.hits t.data.toList P3) hSa hSb hl1 hl2 (Q.hits_rise _ _) (Q.hits_rise _ _) (Q.hits_rise _ _) (Q.mem_or HPA.out HPB.out hA3) (hits_small HTL.out) (hits_small HTL.out))
      have HT5 := hid hT5
      clear hSa hSb hT5 hA3 hP3 HR5 HPA HPB HP HP2
      go_wp2_with fail
      refine HU.out.mono ?_
      rintro e w6 ⟨v6, rfl, hS6, hB6⟩
      go_wp2_with fail
      refine (same_yes _ _ _ w6 (HT5.out.below hB6 (Nat.le_refl _)) hS6 hl3).mono ?_
      rintro e w7 ⟨rfl, hB7⟩
      go_wp2
      go_ret
      exact ⟨rfl, (hBB5.trans (hB6.mono hBB5.size)).trans (hB7.mono (Nat.le_trans hBB5.size hB6.size))⟩
    · subst hE
      clear HR5
      go_wp2
      go_ret
      exact ⟨rfl, hBB5⟩
    · subst hE
      clear HR5
      go_wp2
      go_ret
      exact ⟨rfl, hBB5⟩

set_option maxRecDepth 100000 in
set_option maxHeartbeats 400000 in
theorem walk_Either (a0 : ByteArray) (a1 : Int) (a2 : ByteArray) (a3 : ByteArray) (a4 : Int) (a5 : Int) (w0 : a0.size ≤ maxLen) (w1 : (Lit.int .i64 a1).wf = true) (w2 : a2.size ≤ maxLen) (w3 : a3.size ≤ maxLen) (_ : (Lit.int .i64 a4).wf = true) (_ : (Lit.int .i64 a5).wf = true) (w : World) :
    Calls Try.prog 10 #[.string a0, .int .i64 a1, .string a2, .string a3, .int .i64 a4, .int .i64 a5] w fun e w' => e = .returned (.bool true) ∧ Below w.heap.size w w' := by
  obtain ⟨b1, b2⟩ := wf_bounds w1
  go_enter Try.func10, Try.ntmps10
  go_wp2_with fail
  refine (laid_p a0 a2 a1 _ w0 w2 b1 b2).mono ?_
  rintro e w' ⟨bd, bx, r, t', pat', a, hv, rfl, _, hD, hI, g1, g2, hB, _, HV⟩
  have d4 := hD.c4
  cases hv with
  | false =>
    go_wp2
    go_ret
    exact ⟨rfl, hB⟩
  | true =>
    obtain ⟨hpe, P, hP⟩ := HV.out rfl
    subst hpe
    clear HV
    go_wp2_with fail
    refine (either_any _ bd bx r a3 t' pat' a P hD hI w2 w3 hP).mono ?_
    rintro e w5 ⟨rfl, hB2⟩
    go_wp2
    go_ret
    exact ⟨rfl, hB.trans (hB2.mono hB.size)⟩
end Go.Proofs.Ytjmkkkfloalliaa

