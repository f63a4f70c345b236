import Derived.Test.YtjmkkkfloalliabFG
import Derived.Test.YtjmkkkfloalliabFH
import Derived.Deep.RegionHeld
import Derived.Deep.CutBlock
-- Budget
namespace Go.Proofs.Ytjmkkkfloalliab
set_option linter.unusedVariables false
open Go.RowKit

theorem nil_eq (w : World) : Sem.run Try.prog (binOp BinOp.eql 40 (.slice none 0 0) (.slice none 0 0)) w = Result.ok (.bool true) w := by kernel_rfl
theorem blk_below {w w' : World} {B b : Nat} {T : TypeId} {vs : List Value} (h : BlkT w b T vs) (k : Below B w w') (hb : b < B) : BlkT w' b T vs := (k.block b hb).trans h
theorem search_arg {w : World} {b rate : Nat} {t : List UInt8} {a : ByteArray} (h : IdxOf w b rate t a) (pat : ByteArray) (memo : Bool) (hp : pat.size ≤ maxLen) :
    Calls Try.prog 24 #[.pointer (some ⟨b, 0, none⟩), .string pat, .int .i64 (-1), .bool memo] w fun e w' => e = .returned (.tuple #[.slice none 0 0, .agg #[.int .i64 2, .int .i64 0]]) ∧ Below w.heap.size w w' := by
  have hs := h.size
  have hl := h.len
  refine (Search_any b rate (M.row t 0) a pat (-1) memo w h.idx (by omega) h.row hp).mono ?_
  rintro e w' ⟨he, hB⟩
  unfold Q.search at he
  rw [if_pos (by decide)] at he
  exact ⟨he, hB⟩

set_option maxRecDepth 100000 in
set_option maxHeartbeats 4000000 in
theorem budget_any (w : World) (bd bx rate : Nat) (t pat a : ByteArray) (A : Int) (P : Q.Pat) (hD : Dsk w bd bx rate t pat true) (hI : IdxOf w bx rate t.data.toList a) (hp : pat.size ≤ maxLen) (hP : Q.parse (L pat) = .ok P) (r0 : -9223372036854775808 ≤ A) (r1 : A ≤ 9223372036854775807) :
    Calls Try.prog 12 #[.pointer (some ⟨bd, 0, none⟩), .int .i64 A] w fun e w' => e = .returned (.bool true) ∧ Below w.heap.size w w' := by
  have HP := hid hP
  have hts : t.size ≤ 200 := by rw [← size_len]; exact hI.len
  have HSZ : Hid (t.data.toList.length = t.size) := size_len t
  obtain ⟨m, hm, hm2⟩ : ∃ m : Nat, (t.size : Int) * ((t.size : Int) + 1) = (m : Int) ∧ m = t.size * (t.size + 1) := ⟨t.size * (t.size + 1), by simp, rfl⟩
  have hm3 : m ≤ 40200 := by rw [hm2]; exact Nat.mul_le_mul hts (by omega : t.size + 1 ≤ 201)
  have hmost : Q.most t.data.toList.length = m / 2 + 1 := by rw [HSZ.out, hm2]; rfl
  have HMO := hid hmost
  have HW1 : Hid (IntKind.i64.wrap (IntKind.i64.wrap ((IntKind.i64.wrap ((t.size : Int) * IntKind.i64.wrap ((t.size : Int) + 1))).tdiv 2) + 1) = ((m / 2 + 1 : Nat) : Int)) := by
    show _ = _
    rw [IntWalk.i64_in ((t.size : Int) + 1) (by omega), hm, IntWalk.i64_in (m : Int) (by omega), IntWalk.i64_quo (m : Int) 2 (by omega), IntWalk.i64_in _ (by omega)]
    omega
  obtain ⟨q, hq⟩ : ∃ q, q = m / 2 := ⟨_, rfl⟩
  have HD2 : Hid ((m : Int) / 2 = (q : Int)) := by show _ = _; omega
  have HD3 : Hid (Int.tdiv (m : Int) 2 = (q : Int)) := by show _ = _; rw [Int.tdiv_eq_ediv_of_nonneg (by omega)]; omega
  have hh : q ≤ 20100 := by omega
  have HM : Hid ((t.size : Int) * ((t.size : Int) + 1) = (m : Int)) := hm
  rw [← hq] at HW1 HMO
  clear hP hm2 hmost hm hq
  have HH : Hid (∀ w', Below w.heap.size w w' → Calls Try.prog 24 #[.pointer (some ⟨bx, 0, none⟩), .string pat, .int .i64 ((q + 1 : Nat) : Int), .bool false] w' fun e w'' => ∃ g, e = .returned (.tuple #[.slice (some ⟨g, 0, none⟩) (Q.hits t.data.toList P).length (Q.hits t.data.toList P).length, .agg #[.int .i64 0, .int .i64 0]]) ∧ w'.heap.size ≤ g ∧ SlI w'' (.slice (some ⟨g, 0, none⟩) (Q.hits t.data.toList P).length (Q.hits t.data.toList P).length) (Q.hits t.data.toList P) ∧ Below w'.heap.size w' w'') :=
    fun w' h => search_ok (hI.below h hI.lt) pat (q + 1) false hp P HP.out (by rw [← HMO.out]; exact Q.steps_le) (by omega)
  have d0 := hD.c0; have d1 := hD.c1; have d3 := hD.c3
  have hbd := Blk.lt hD
  have nb1 : w.heap.size ≠ bd := by omega
  have nb2 : bd ≠ w.heap.size := by omega
  have hHlen := Q.hits_len t.data.toList P hI.len
  generalize hHe : Q.hits t.data.toList P = H at *
  have HHE : Hid (Q.hits t.data.toList P = H) := hHe
  clear hHe
  go_enter Try.func12, Try.ntmps12
  go_upto_region 2 with fail
  go_cut [6, 7] from 24 (fun sS sP wc => ∃ g bf, sS = .slice (some ⟨g, 0, none⟩) H.length H.length ∧ sP = .pointer (some ⟨bf, 0, none⟩) ∧ BlkT wc bf 45 [.int .i64 0, .int .i64 0] ∧ SlI wc (.slice (some ⟨g, 0, none⟩) H.length H.length) H ∧ Below w.heap.size w wc)
  case first =>
    go_region_held (fun w' => w'.cell? ⟨bd, 0, none⟩ = some (.pointer (some ⟨bx, 0, none⟩)) ∧ w'.cell? ⟨bd, 3, none⟩ = some (.string pat))
      (first | (exact ⟨(hB.cell hbd).trans d0, (hB.cell hbd).trans d3⟩) | (exact ⟨(hB.cell hbd1).trans ((World.cell?_alloc_lt _ _ _ hbd).trans d0), (hB.cell hbd1).trans ((World.cell?_alloc_lt _ _ _ hbd).trans d3)⟩) | go_keep)
      ((go_at_call 24; rw [HW1.out]; refine (HH.out _ (by first | exact (Below.refl _ _) | exact (Below.refl _ _).drew | exact ((Below.refl _ _).alloc (Nat.le_refl _) _).drew)).mono ?_; rintro e w5 ⟨g, rfl, hg, hS, hB⟩; have hz5 : w.heap.size ≤ w5.heap.size := (by have := hB.size; simp at this; omega); have nb3 : w5.heap.size ≠ bd := (by omega); have nb4 : bd ≠ w5.heap.size := (by omega); try (have hF : BlkT w5 w.heap.size 45 [.int .i64 0, .int .i64 0] := (hB.block w.heap.size (by simp)).trans (BlkT.new w _ _); have f0 := hF.cell 0; have f1 := hF.cell 1; have ff := hF.frozen; simp only [List.getElem?_cons_zero, List.getElem?_cons_succ] at f0 f1; have hbd1 : bd < (w.alloc (.cells #[.int .i64 0, .int .i64 0] 45)).drew.heap.size := by simp; omega)))
    · go_wp2_with fail
      go_meet
      case rel => exact ⟨g, w5.heap.size, rfl, rfl, BlkT.new w5 _ _, hS.below ((Below.refl _ w5).alloc (Nat.le_refl _) _) (Nat.le_refl _), (Below.refl _ w).drew.trans (hB.alloc hB.size _)⟩
    · go_wp2_with fail
      go_meet
      case rel =>
        have hg2 : w.heap.size ≠ g := by simp at hg; omega
        have hB' : Below w.heap.size (w.alloc (.cells #[.int .i64 0, .int .i64 0] 45)).drew w5 := hB.mono (by show w.heap.size ≤ (World.alloc _ _).heap.size; simp)
        exact ⟨g, w.heap.size, rfl, rfl, (hF.set 0 _).set 1 _, (hS.set hg2 _).set hg2 _, (((Below.refl _ w).alloc (Nat.le_refl _) _).drew.trans ((hB'.setCell (Nat.le_refl _) _).setCell (Nat.le_refl _) _))⟩
  case rest =>
    obtain ⟨gl, bf, rfl, rfl, hF, hSl, hBc⟩ := hcut
    have hD2 : Dsk wc bd bx rate t pat true := Blk.below hD hBc hbd
    have hX2 := hI.below hBc hI.lt
    have f0 := hF.cell 0
    simp only [List.getElem?_cons_zero] at f0
    have hbw : bd < wc.heap.size := Blk.lt hD2
    clear HH HW1 d0 d1 d3 nb1 nb2 hbd hI hD
    have d0 := hD2.c0; have d3 := hD2.c3
    have hm := HM.out; have hdiv2 := HD2.out; have hdiv3 := HD3.out
    go_wp2_with fail
    clear hm hdiv2 hdiv3
    refine (pick_any A ((q : Int) + 2) _ r0 r1 (by omega) (by omega)).mono ?_
    rintro e w2 ⟨⟨b, rfl, hb⟩, hw2⟩
    obtain rfl : wc = w2 := hw2.symm
    obtain ⟨w2, hw_w2⟩ : ∃ x, x = wc := ⟨_, rfl⟩
    subst hw_w2
    go_upto_region 6 with fail
    have hq1 : b ≤ q + 1 := by omega
    obtain ⟨mm, hmm⟩ : ∃ mm, mm = (bits BinOp.and IntKind.i64 A 1 == (1 : Int)) := ⟨_, rfl⟩
    have HMM := hid hmm
    clear hmm
    by_cases hst : Q.steps t.data.toList P mm ≤ b
    · have HC6 : Hid (∀ w', Below w2.heap.size w2 w' → Calls Try.prog 24 #[.pointer (some ⟨bx, 0, none⟩), .string pat, .int .i64 ((b : Nat) : Int), .bool mm] w' fun e w'' => ∃ g, e = .returned (.tuple #[.slice (some ⟨g, 0, none⟩) H.length H.length, .agg #[.int .i64 0, .int .i64 0]]) ∧ w'.heap.size ≤ g ∧ SlI w'' (.slice (some ⟨g, 0, none⟩) H.length H.length) H ∧ Below w'.heap.size w' w'') := by
        intro w' h
        rw [← HHE.out]
        exact search_ok (hX2.below h hX2.lt) pat b mm hp P HP.out hst (by omega)
      have nb1 : w2.heap.size ≠ bd := by omega
      have nb2 : bd ≠ w2.heap.size := by omega
      go_cut [9, 10] from 53 (fun sS sP wc => ∃ g bf, sS = .slice (some ⟨g, 0, none⟩) H.length H.length ∧ sP = .pointer (some ⟨bf, 0, none⟩) ∧ BlkT wc bf 45 [.int .i64 0, .int .i64 0] ∧ SlI wc (.slice (some ⟨g, 0, none⟩) H.length H.length) H ∧ Below w2.heap.size w2 wc)
      case first =>
        go_region_held (fun w' => w'.cell? ⟨bd, 0, none⟩ = some (.pointer (some ⟨bx, 0, none⟩)) ∧ w'.cell? ⟨bd, 3, none⟩ = some (.string pat))
          (first | (exact ⟨(hB.cell hbw).trans d0, (hB.cell hbw).trans d3⟩) | (exact ⟨(World.cell?_alloc_lt _ _ _ hb5).trans ((hB.cell hbw).trans d0), (World.cell?_alloc_lt _ _ _ hb5).trans ((hB.cell hbw).trans d3)⟩) | (exact ⟨(hB.cell hbd1).trans ((World.cell?_alloc_lt _ _ _ hbw).trans d0), (hB.cell hbd1).trans ((World.cell?_alloc_lt _ _ _ hbw).trans d3)⟩) | go_keep)
          ((go_at_call 24; rw [← HMM.out]; refine (HC6.out _ (by first | exact (Below.refl _ _) | exact (Below.refl _ _).drew | exact ((Below.refl _ _).alloc (Nat.le_refl _) _).drew)).mono ?_; rintro e w5 ⟨g, rfl, hg, hS, hB⟩; have hz5 : w2.heap.size ≤ w5.heap.size := (by have := hB.size; simp at this; omega); have hb5 : bd < w5.heap.size := (by omega); have nb3 : w5.heap.size ≠ bd := (by omega); have nb4 : bd ≠ w5.heap.size := (by omega); try (have hF : BlkT w5 w2.heap.size 45 [.int .i64 0, .int .i64 0] := (hB.block w2.heap.size (by simp)).trans (BlkT.new w2 _ _); have f0 := hF.cell 0; have f1 := hF.cell 1; have ff := hF.frozen; simp only [List.getElem?_cons_zero, List.getElem?_cons_succ] at f0 f1; have hbd1 : bd < (w2.alloc (.cells #[.int .i64 0, .int .i64 0] 45)).drew.heap.size := by simp; omega)))
        · go_wp2_with fail
          go_meet
          case rel => exact ⟨g, w5.heap.size, rfl, rfl, BlkT.new w5 _ _, hS.below ((Below.refl _ w5).alloc (Nat.le_refl _) _) (Nat.le_refl _), (Below.refl _ w2).drew.trans (hB.alloc hB.size _)⟩
        · go_wp2_with fail
          go_meet
          case rel =>
            have hg2 : w2.heap.size ≠ g := by simp at hg; omega
            have hB' : Below w2.heap.size (w2.alloc (.cells #[.int .i64 0, .int .i64 0] 45)).drew w5 := hB.mono (by show w2.heap.size ≤ (World.alloc _ _).heap.size; simp)
            exact ⟨g, w2.heap.size, rfl, rfl, (hF.set 0 _).set 1 _, (hS.set hg2 _).set hg2 _, (((Below.refl _ w2).alloc (Nat.le_refl _) _).drew.trans ((hB'.setCell (Nat.le_refl _) _).setCell (Nat.le_refl _) _))⟩
      case rest =>
        obtain ⟨gm, bg, rfl, rfl, hG, hSm, hB3⟩ := hcut
        obtain ⟨w3, hw_w3⟩ : ∃ x, x = wc := ⟨_, rfl⟩
        subst hw_w3
        have hD3 : Dsk w3 bd bx rate t pat true := Blk.below hD2 hB3 hbw
        have hX3 := hX2.below hB3 hX2.lt
        have hSl3 := hSl.below hB3 (Nat.le_refl _)
        have hBw3 := hBc.trans (hB3.mono hBc.size)
        have g0 := hG.cell 0
        simp only [List.getElem?_cons_zero] at g0
        clear d0 d3 nb1 nb2 hD2 hX2 HC6 hSl hF f0 hBc hbw hB3
        have hbw : bd < w3.heap.size := Blk.lt hD3
        have d0 := hD3.c0; have d3 := hD3.c3
        have HC9 : Hid (∀ w', Below w3.heap.size w3 w' → Calls Try.prog 24 #[.pointer (some ⟨bx, 0, none⟩), .string pat, .int .i64 ((b + 1 : Nat) : Int), .bool mm] w' fun e w'' => ∃ g, e = .returned (.tuple #[.slice (some ⟨g, 0, none⟩) H.length H.length, .agg #[.int .i64 0, .int .i64 0]]) ∧ w'.heap.size ≤ g ∧ SlI w'' (.slice (some ⟨g, 0, none⟩) H.length H.length) H ∧ Below w'.heap.size w' w'') := by
          intro w' h
          rw [← HHE.out]
          exact search_ok (hX3.below h hX3.lt) pat (b + 1) mm hp P HP.out (by omega) (by omega)
        have HW9 : Hid (IntKind.i64.wrap ((b : Int) + 1) = ((b + 1 : Nat) : Int)) := by
          show _ = _
          rw [IntWalk.i64_in _ (by omega)]
          omega
        go_upto_region 9 with fail
        have nb1 : w3.heap.size ≠ bd := by omega
        have nb2 : bd ≠ w3.heap.size := by omega
        go_cut [11, 12] from 74 (fun sS sP wc => ∃ g bf, sS = .slice (some ⟨g, 0, none⟩) H.length H.length ∧ sP = .pointer (some ⟨bf, 0, none⟩) ∧ BlkT wc bf 45 [.int .i64 0, .int .i64 0] ∧ SlI wc (.slice (some ⟨g, 0, none⟩) H.length H.length) H ∧ Below w3.heap.size w3 wc)
        case first =>
          go_region_held (fun w' => w'.cell? ⟨bd, 0, none⟩ = some (.pointer (some ⟨bx, 0, none⟩)) ∧ w'.cell? ⟨bd, 3, none⟩ = some (.string pat))
            (first | (exact ⟨(hB.cell hbw).trans d0, (hB.cell hbw).trans d3⟩) | (exact ⟨(World.cell?_alloc_lt _ _ _ hb5).trans ((hB.cell hbw).trans d0), (World.cell?_alloc_lt _ _ _ hb5).trans ((hB.cell hbw).trans d3)⟩) | (exact ⟨(hB.cell hbd1).trans ((World.cell?_alloc_lt _ _ _ hbw).trans d0), (hB.cell hbd1).trans ((World.cell?_alloc_lt _ _ _ hbw).trans d3)⟩) | go_keep)
            ((go_at_call 24; rw [← HMM.out, HW9.out]; refine (HC9.out _ (by first | exact (Below.refl _ _) | exact (Below.refl _ _).drew | exact ((Below.refl _ _).alloc (Nat.le_refl _) _).drew)).mono ?_; rintro e w5 ⟨g, rfl, hg, hS, hB⟩; have hz5 : w3.heap.size ≤ w5.heap.size := (by have := hB.size; simp at this; omega); have hb5 : bd < w5.heap.size := (by omega); have nb3 : w5.heap.size ≠ bd := (by omega); have nb4 : bd ≠ w5.heap.size := (by omega); try (have hF : BlkT w5 w3.heap.size 45 [.int .i64 0, .int .i64 0] := (hB.block w3.heap.size (by simp)).trans (BlkT.new w3 _ _); have f0 := hF.cell 0; have f1 := hF.cell 1; have ff := hF.frozen; simp only [List.getElem?_cons_zero, List.getElem?_cons_succ] at f0 f1; have hbd1 : bd < (w3.alloc (.cells #[.int .i64 0, .int .i64 0] 45)).drew.heap.size := by simp; omega)))
          · go_wp2_with fail
            go_meet
            case rel => exact ⟨g, w5.heap.size, rfl, rfl, BlkT.new w5 _ _, hS.below ((Below.refl _ w5).alloc (Nat.le_refl _) _) (Nat.le_refl _), (Below.refl _ w3).drew.trans (hB.alloc hB.size _)⟩
          · go_wp2_with fail
            go_meet
            case rel =>
              have hg2 : w3.heap.size ≠ g := by simp at hg; omega
              have hB' : Below w3.heap.size (w3.alloc (.cells #[.int .i64 0, .int .i64 0] 45)).drew w5 := hB.mono (by show w3.heap.size ≤ (World.alloc _ _).heap.size; simp)
              exact ⟨g, w3.heap.size, rfl, rfl, (hF.set 0 _).set 1 _, (hS.set hg2 _).set hg2 _, (((Below.refl _ w3).alloc (Nat.le_refl _) _).drew.trans ((hB'.setCell (Nat.le_refl _) _).setCell (Nat.le_refl _) _))⟩
        case rest =>
          obtain ⟨gk, bh, rfl, rfl, hHf, hSk, hB4⟩ := hcut
          obtain ⟨w4, hw_w4⟩ : ∃ x, x = wc := ⟨_, rfl⟩
          subst hw_w4
          have hD4 : Dsk w4 bd bx rate t pat true := Blk.below hD3 hB4 hbw
          have hX4 := hX3.below hB4 hX3.lt
          have hSl4 := hSl3.below hB4 (Nat.le_refl _)
          have hSm4 := hSm.below hB4 (Nat.le_refl _)
          have hG4 := blk_below hG hB4 (BlkT.lt hG)
          have hBw4 := hBw3.trans (hB4.mono hBw3.size)
          clear d0 d3 nb1 nb2 hD3 hX3 HC9 HW9 hSl3 hSm hG g0 hBw3 hbw hB4
          have hbw : bd < w4.heap.size := Blk.lt hD4
          have d0 := hD4.c0; have d3 := hD4.c3
          have HC10 : Hid (∀ w', Below w4.heap.size w4 w' → Calls Try.prog 24 #[.pointer (some ⟨bx, 0, none⟩), .string pat, .int .i64 0, .bool true] w' fun e w'' => e = .returned (.tuple #[.slice none 0 0, .agg #[.int .i64 6, .int .i64 0]]) ∧ Below w'.heap.size w' w'') :=
            fun w' h => search_no (hX4.below h hX4.lt) pat 0 true hp P HP.out Q.steps_pos (by omega)
          go_upto_region 10 with fail
          have nb1 : w4.heap.size ≠ bd := by omega
          have nb2 : bd ≠ w4.heap.size := by omega
          go_cut [13, 14] from 91 (fun sS sP wc => ∃ bf, sS = .slice none 0 0 ∧ sP = .pointer (some ⟨bf, 0, none⟩) ∧ BlkT wc bf 45 [.int .i64 6, .int .i64 0] ∧ Below w4.heap.size w4 wc)
          case first =>
            go_region_held (fun w' => w'.cell? ⟨bd, 0, none⟩ = some (.pointer (some ⟨bx, 0, none⟩)) ∧ w'.cell? ⟨bd, 3, none⟩ = some (.string pat))
              (first | (exact ⟨(hB.cell hbw).trans d0, (hB.cell hbw).trans d3⟩) | (exact ⟨(World.cell?_alloc_lt _ _ _ hb5).trans ((hB.cell hbw).trans d0), (World.cell?_alloc_lt _ _ _ hb5).trans ((hB.cell hbw).trans d3)⟩) | (exact ⟨(hB.cell hbd1).trans ((World.cell?_alloc_lt _ _ _ hbw).trans d0), (hB.cell hbd1).trans ((World.cell?_alloc_lt _ _ _ hbw).trans d3)⟩) | go_keep)
              ((go_at_call 24; refine (HC10.out _ (by first | exact (Below.refl _ _) | exact (Below.refl _ _).drew | exact ((Below.refl _ _).alloc (Nat.le_refl _) _).drew)).mono ?_; rintro e w5 ⟨rfl, hB⟩; have hz5 : w4.heap.size ≤ w5.heap.size := (by have := hB.size; simp at this; omega); have hb5 : bd < w5.heap.size := (by omega); have nb3 : w5.heap.size ≠ bd := (by omega); have nb4 : bd ≠ w5.heap.size := (by omega); try (have hF : BlkT w5 w4.heap.size 45 [.int .i64 0, .int .i64 0] := (hB.block w4.heap.size (by simp)).trans (BlkT.new w4 _ _); have f0 := hF.cell 0; have f1 := hF.cell 1; have ff := hF.frozen; simp only [List.getElem?_cons_zero, List.getElem?_cons_succ] at f0 f1; have hbd1 : bd < (w4.alloc (.cells #[.int .i64 0, .int .i64 0] 45)).drew.heap.size := by simp; omega)))
            · go_wp2_with fail
              go_meet
              case rel => exact ⟨w5.heap.size, rfl, rfl, BlkT.new w5 _ _, (Below.refl _ w4).drew.trans (hB.alloc hB.size _)⟩
            · go_wp2_with fail
              go_meet
              case rel =>
                have hB' : Below w4.heap.size (w4.alloc (.cells #[.int .i64 0, .int .i64 0] 45)).drew w5 := hB.mono (by show w4.heap.size ≤ (World.alloc _ _).heap.size; simp)
                exact ⟨w4.heap.size, rfl, rfl, (hF.set 0 _).set 1 _, (((Below.refl _ w4).alloc (Nat.le_refl _) _).drew.trans ((hB'.setCell (Nat.le_refl _) _).setCell (Nat.le_refl _) _))⟩
          case rest =>
            obtain ⟨bz, rfl, rfl, hZ, hB5⟩ := hcut
            obtain ⟨w6, hw_w6⟩ : ∃ x, x = wc := ⟨_, rfl⟩
            subst hw_w6
            have hD6 : Dsk w6 bd bx rate t pat true := Blk.below hD4 hB5 hbw
            have hX6 := hX4.below hB5 hX4.lt
            have hSl6 := hSl4.below hB5 (Nat.le_refl _)
            have hSm6 := hSm4.below hB5 (Nat.le_refl _)
            have hSk6 := hSk.below hB5 (Nat.le_refl _)
            have hG6 := blk_below hG4 hB5 (BlkT.lt hG4)
            have hH6 := blk_below hHf hB5 (BlkT.lt hHf)
            have hBw6 := hBw4.trans (hB5.mono hBw4.size)
            clear d0 d3 nb1 nb2 hD4 hX4 HC10 hSl4 hSm4 hSk hG4 hHf hBw4 hbw hB5
            have hbw : bd < w6.heap.size := Blk.lt hD6
            have d0 := hD6.c0; have d3 := hD6.c3
            have HC11 : Hid (∀ w', Below w6.heap.size w6 w' → Calls Try.prog 24 #[.pointer (some ⟨bx, 0, none⟩), .string pat, .int .i64 (-1), .bool true] w' fun e w'' => e = .returned (.tuple #[.slice none 0 0, .agg #[.int .i64 2, .int .i64 0]]) ∧ Below w'.heap.size w' w'') :=
              fun w' h => search_arg (hX6.below h hX6.lt) pat true hp
            go_upto_region 11 with fail
            have nb1 : w6.heap.size ≠ bd := by omega
            have nb2 : bd ≠ w6.heap.size := by omega
            go_cut [15, 16] from 103 (fun sS sP wc => ∃ bf, sS = .slice none 0 0 ∧ sP = .pointer (some ⟨bf, 0, none⟩) ∧ BlkT wc bf 45 [.int .i64 2, .int .i64 0] ∧ Below w6.heap.size w6 wc)
            case first =>
              go_region_held (fun w' => w'.cell? ⟨bd, 0, none⟩ = some (.pointer (some ⟨bx, 0, none⟩)) ∧ w'.cell? ⟨bd, 3, none⟩ = some (.string pat))
                (first | (exact ⟨(hB.cell hbw).trans d0, (hB.cell hbw).trans d3⟩) | (exact ⟨(World.cell?_alloc_lt _ _ _ hb5).trans ((hB.cell hbw).trans d0), (World.cell?_alloc_lt _ _ _ hb5).trans ((hB.cell hbw).trans d3)⟩) | (exact ⟨(hB.cell hbd1).trans ((World.cell?_alloc_lt _ _ _ hbw).trans d0), (hB.cell hbd1).trans ((World.cell?_alloc_lt _ _ _ hbw).trans d3)⟩) | go_keep)
                ((go_at_call 24; refine (HC11.out _ (by first | exact (Below.refl _ _) | exact (Below.refl _ _).drew | exact ((Below.refl _ _).alloc (Nat.le_refl _) _).drew)).mono ?_; rintro e w5 ⟨rfl, hB⟩; have hz5 : w6.heap.size ≤ w5.heap.size := (by have := hB.size; simp at this; omega); have hb5 : bd < w5.heap.size := (by omega); have nb3 : w5.heap.size ≠ bd := (by omega); have nb4 : bd ≠ w5.heap.size := (by omega); try (have hF : BlkT w5 w6.heap.size 45 [.int .i64 0, .int .i64 0] := (hB.block w6.heap.size (by simp)).trans (BlkT.new w6 _ _); have f0 := hF.cell 0; have f1 := hF.cell 1; have ff := hF.frozen; simp only [List.getElem?_cons_zero, List.getElem?_cons_succ] at f0 f1; have hbd1 : bd < (w6.alloc (.cells #[.int .i64 0, .int .i64 0] 45)).drew.heap.size := by simp; omega)))
              · go_wp2_with fail
                go_meet
                case rel => exact ⟨w5.heap.size, rfl, rfl, BlkT.new w5 _ _, (Below.refl _ w6).drew.trans (hB.alloc hB.size _)⟩
              · go_wp2_with fail
                go_meet
                case rel =>
                  have hB' : Below w6.heap.size (w6.alloc (.cells #[.int .i64 0, .int .i64 0] 45)).drew w5 := hB.mono (by show w6.heap.size ≤ (World.alloc _ _).heap.size; simp)
                  exact ⟨w6.heap.size, rfl, rfl, (hF.set 0 _).set 1 _, (((Below.refl _ w6).alloc (Nat.le_refl _) _).drew.trans ((hB'.setCell (Nat.le_refl _) _).setCell (Nat.le_refl _) _))⟩
            case rest =>
              obtain ⟨by_, rfl, rfl, hY, hB7⟩ := hcut
              obtain ⟨w7, hw_w7⟩ : ∃ x, x = wc := ⟨_, rfl⟩
              subst hw_w7
              have hSl7 := hSl6.below hB7 (Nat.le_refl _)
              have hSm7 := hSm6.below hB7 (Nat.le_refl _)
              have hSk7 := hSk6.below hB7 (Nat.le_refl _)
              have hG7 := blk_below hG6 hB7 (BlkT.lt hG6)
              have hH7 := blk_below hH6 hB7 (BlkT.lt hH6)
              have hZ7 := blk_below hZ hB7 (BlkT.lt hZ)
              have hBw7 := hBw6.trans (hB7.mono hBw6.size)
              clear d0 d3 nb1 nb2 hD6 hX6 HC11 hSl6 hSm6 hSk6 hG6 hH6 hZ hBw6 hbw hB7
              go_wp2_with fail
              refine (same_yes _ _ H w7 hSl7 hSm7 hHlen).mono ?_
              rintro e w8 ⟨rfl, hB8⟩
              go_wp2_with fail
              refine (same_yes _ _ H w8 (hSl7.below hB8 (Nat.le_refl _)) (hSk7.below hB8 (Nat.le_refl _)) hHlen).mono ?_
              rintro e w9 ⟨rfl, hB9⟩
              have hG9 := blk_below (blk_below hG7 hB8 (BlkT.lt hG7)) hB9 (Nat.lt_of_lt_of_le (BlkT.lt hG7) hB8.size)
              have hH9 := blk_below (blk_below hH7 hB8 (BlkT.lt hH7)) hB9 (Nat.lt_of_lt_of_le (BlkT.lt hH7) hB8.size)
              have hZ9 := blk_below (blk_below hZ7 hB8 (BlkT.lt hZ7)) hB9 (Nat.lt_of_lt_of_le (BlkT.lt hZ7) hB8.size)
              have hY9 := blk_below (blk_below hY hB8 (BlkT.lt hY)) hB9 (Nat.lt_of_lt_of_le (BlkT.lt hY) hB8.size)
              have c1 := hG9.cell 0; have c2 := hH9.cell 0; have c3 := hZ9.cell 0; have c4 := hY9.cell 0
              simp only [List.getElem?_cons_zero] at c1 c2 c3 c4
              go_wp2
              go_ret
              exact ⟨rfl, (hBw7.trans (hB8.mono hBw7.size)).trans (hB9.mono (Nat.le_trans hBw7.size hB8.size))⟩
    · have HC6 : Hid (∀ w', Below w2.heap.size w2 w' → Calls Try.prog 24 #[.pointer (some ⟨bx, 0, none⟩), .string pat, .int .i64 ((b : Nat) : Int), .bool mm] w' fun e w'' => e = .returned (.tuple #[.slice none 0 0, .agg #[.int .i64 6, .int .i64 0]]) ∧ Below w'.heap.size w' w'') :=
        fun w' h => search_no (hX2.below h hX2.lt) pat b mm hp P HP.out (by omega) (by omega)
      have nb1 : w2.heap.size ≠ bd := by omega
      have nb2 : bd ≠ w2.heap.size := by omega
      go_cut [9, 10] from 53 (fun sS sP wc => ∃ bf, sS = .slice none 0 0 ∧ sP = .pointer (some ⟨bf, 0, none⟩) ∧ BlkT wc bf 45 [.int .i64 6, .int .i64 0] ∧ Below w2.heap.size w2 wc)
      case first =>
        go_region_held (fun w' => w'.cell? ⟨bd, 0, none⟩ = some (.pointer (some ⟨bx, 0, none⟩)) ∧ w'.cell? ⟨bd, 3, none⟩ = some (.string pat))
          (first | (exact ⟨(hB.cell hbw).trans d0, (hB.cell hbw).trans d3⟩) | (exact ⟨(World.cell?_alloc_lt _ _ _ hb5).trans ((hB.cell hbw).trans d0), (World.cell?_alloc_lt _ _ _ hb5).trans ((hB.cell hbw).trans d3)⟩) | (exact ⟨(hB.cell hbd1).trans ((World.cell?_alloc_lt _ _ _ hbw).trans d0), (hB.cell hbd1).trans ((World.cell?_alloc_lt _ _ _ hbw).trans d3)⟩) | go_keep)
          ((go_at_call 24; rw [← HMM.out]; refine (HC6.out _ (by first | exact (Below.refl _ _) | exact (Below.refl _ _).drew | exact ((Below.refl _ _).alloc (Nat.le_refl _) _).drew)).mono ?_; rintro e w5 ⟨rfl, hB⟩; have hz5 : w2.heap.size ≤ w5.heap.size := (by have := hB.size; simp at this; omega); have hb5 : bd < w5.heap.size := (by omega); have nb3 : w5.heap.size ≠ bd := (by omega); have nb4 : bd ≠ w5.heap.size := (by omega); try (have hF : BlkT w5 w2.heap.size 45 [.int .i64 0, .int .i64 0] := (hB.block w2.heap.size (by simp)).trans (BlkT.new w2 _ _); have f0 := hF.cell 0; have f1 := hF.cell 1; have ff := hF.frozen; simp only [List.getElem?_cons_zero, List.getElem?_cons_succ] at f0 f1; have hbd1 : bd < (w2.alloc (.cells #[.int .i64 0, .int .i64 0] 45)).drew.heap.size := by simp; omega)))
        · go_wp2_with fail
          go_meet
          case rel => exact ⟨w5.heap.size, rfl, rfl, BlkT.new w5 _ _, (Below.refl _ w2).drew.trans (hB.alloc hB.size _)⟩
        · go_wp2_with fail
          go_meet
          case rel =>
            have hB' : Below w2.heap.size (w2.alloc (.cells #[.int .i64 0, .int .i64 0] 45)).drew w5 := hB.mono (by show w2.heap.size ≤ (World.alloc _ _).heap.size; simp)
            exact ⟨w2.heap.size, rfl, rfl, (hF.set 0 _).set 1 _, (((Below.refl _ w2).alloc (Nat.le_refl _) _).drew.trans ((hB'.setCell (Nat.le_refl _) _).setCell (Nat.le_refl _) _))⟩
      case rest =>
        obtain ⟨bg, rfl, rfl, hG, hB3⟩ := hcut
        have g0 := hG.cell 0
        simp only [List.getElem?_cons_zero] at g0
        clear HC6
        have hnil := nil_eq wc
        go_wp2
        go_ret
        exact ⟨rfl, hBc.trans (hB3.mono hBc.size)⟩

set_option maxRecDepth 100000 in
set_option maxHeartbeats 400000 in
theorem walk_Budget (a0 : ByteArray) (a1 : Int) (a2 : ByteArray) (a3 : ByteArray) (a4 : Int) (a5 : Int) (w0 : a0.size ≤ maxLen) (w1 : (Lit.int .i64 a1).wf = true) (w2 : a2.size ≤ maxLen) (w3 : a3.size ≤ maxLen) (w4 : (Lit.int .i64 a4).wf = true) (_ : (Lit.int .i64 a5).wf = true) (w : World) :
    Calls Try.prog 4 #[.string a0, .int .i64 a1, .string a2, .string a3, .int .i64 a4, .int .i64 a5] w fun e w' => e = .returned (.bool true) ∧ Below w.heap.size w w' := by
  obtain ⟨b1, b2⟩ := wf_bounds w1
  obtain ⟨b3, b4⟩ := wf_bounds w4
  go_enter Try.func4, Try.ntmps4
  go_wp2_with fail
  refine (laid_p a0 a2 a1 _ w0 w2 b1 b2).mono ?_
  rintro e w' ⟨bd, bx, r, t', pat', a, hv, rfl, _, hD, hI, g1, g2, hB, _, HV⟩
  have d4 := hD.c4
  cases hv with
  | false =>
    go_wp2
    go_ret
    exact ⟨rfl, hB⟩
  | true =>
    obtain ⟨hpe, P, hP⟩ := HV.out rfl
    subst hpe
    clear HV
    go_wp2_with fail
    refine (budget_any _ bd bx r t' pat' a a4 P hD hI w2 hP b3 b4).mono ?_
    rintro e w5 ⟨rfl, hB2⟩
    go_wp2
    go_ret
    exact ⟨rfl, hB.trans (hB2.mono hB.size)⟩
end Go.Proofs.Ytjmkkkfloalliab
