import Derived.Test.YtjmkkkfloalliaaK05
import Derived.Deep.RegionHeld
import Derived.Deep.CutBlock
namespace Go.Proofs.Ytjmkkkfloalliaa
set_option linter.unusedVariables false
open Go.RowKit

set_option maxRecDepth 100000 in
set_option maxHeartbeats 800000 in
theorem count_ok {w : World} {b rate : Nat} {t : List UInt8} {a : ByteArray} (h : IdxOf w b rate t a) (pat : ByteArray) (budget : Nat) (hp : pat.size ≤ maxLen) (P : Q.Pat) (hP : Q.parse (L pat) = .ok P) (hb : Q.steps t P true ≤ budget) (hb2 : budget ≤ 1048576) :
    Calls Try.prog 36 #[.pointer (some ⟨b, 0, none⟩), .string pat, .int .i64 (budget : Int)] w fun e w' => e = .returned (.tuple #[.int .i64 ((Q.hits t P).length : Nat), .agg #[.int .i64 0, .int .i64 0]]) ∧ Below w.heap.size w w' := by
  have hI : IdxOf (w.alloc (.cells #[.int .i64 0, .int .i64 0] 59)) b rate t a := h.below ((Below.refl _ w).alloc (Nat.le_refl _) _) h.lt
  have HS := hid (search_ok hI pat budget true hp P hP hb hb2)
  have hb0 := h.lt
  clear h hI hP hb
  generalize (Q.hits t P) = H at *
  go_enter Try.func36, Try.ntmps36
  go_wp2_with fail
  refine HS.out.mono ?_
  rintro e w1 ⟨g, rfl, hg, hS, hB⟩
  clear HS hS
  have hz := hB.size
  simp at hz hg
  have HF : Hid (BlkT w1 w.heap.size 59 [.int .i64 0, .int .i64 0]) := (hB.block _ (by simp)).trans (BlkT.new w _ _)
  have HB : Hid (Below w.heap.size w w1) := ((Below.refl _ w).alloc (Nat.le_refl _) _).trans (hB.mono (by simp))
  have f0 := HF.out.cell 0; have f1 := HF.out.cell 1; have ff := HF.out.frozen
  simp only [List.getElem?_cons_zero, List.getElem?_cons_succ] at f0 f1
  have n1 : w.heap.size ≠ w1.heap.size := by omega
  have n2 : w.heap.size < w1.heap.size := by omega
  clear hB
  go_wp2_with fail
  go_region
  all_goals
    go_wp2
    exact bodyPost_ret (v := .tuple #[.int .i64 (H.length : Nat), .agg #[.int .i64 0, .int .i64 0]]) (by simp [results, Try.results36, go_sem, *]) rfl ⟨rfl, (((HB.out.setCell (Nat.le_refl _) _).setCell (Nat.le_refl _) _).alloc (by simp [World.setCell]; omega) _).drew⟩

set_option maxRecDepth 100000 in
set_option maxHeartbeats 800000 in
theorem exists_ok {w : World} {b rate : Nat} {t : List UInt8} {a : ByteArray} (h : IdxOf w b rate t a) (pat : ByteArray) (budget : Nat) (hp : pat.size ≤ maxLen) (P : Q.Pat) (hP : Q.parse (L pat) = .ok P) (hb : Q.steps t P true ≤ budget) (hb2 : budget ≤ 1048576) :
    Calls Try.prog 37 #[.pointer (some ⟨b, 0, none⟩), .string pat, .int .i64 (budget : Int)] w fun e w' => e = .returned (.tuple #[.bool (decide (((Q.hits t P).length : Int) > 0)), .agg #[.int .i64 0, .int .i64 0]]) ∧ Below w.heap.size w w' := by
  have hI : IdxOf (w.alloc (.cells #[.int .i64 0, .int .i64 0] 59)) b rate t a := h.below ((Below.refl _ w).alloc (Nat.le_refl _) _) h.lt
  have HS := hid (search_ok hI pat budget true hp P hP hb hb2)
  have hb0 := h.lt
  clear h hI hP hb
  generalize (Q.hits t P) = H at *
  go_enter Try.func37, Try.ntmps37
  go_wp2_with fail
  refine HS.out.mono ?_
  rintro e w1 ⟨g, rfl, hg, hS, hB⟩
  clear HS hS
  have hz := hB.size
  simp at hz hg
  have HF : Hid (BlkT w1 w.heap.size 59 [.int .i64 0, .int .i64 0]) := (hB.block _ (by simp)).trans (BlkT.new w _ _)
  have HB : Hid (Below w.heap.size w w1) := ((Below.refl _ w).alloc (Nat.le_refl _) _).trans (hB.mono (by simp))
  have f0 := HF.out.cell 0; have f1 := HF.out.cell 1; have ff := HF.out.frozen
  simp only [List.getElem?_cons_zero, List.getElem?_cons_succ] at f0 f1
  have n1 : w.heap.size ≠ w1.heap.size := by omega
  have n2 : w.heap.size < w1.heap.size := by omega
  clear hB
  go_wp2_with fail
  go_region
  all_goals
    go_wp2
    exact bodyPost_ret (v := .tuple #[.bool (decide ((H.length : Int) > 0)), .agg #[.int .i64 0, .int .i64 0]]) (by simp [results, Try.results37, go_sem, *]) rfl ⟨rfl, (((HB.out.setCell (Nat.le_refl _) _).setCell (Nat.le_refl _) _).alloc (by simp [World.setCell]; omega) _).drew⟩
end Go.Proofs.Ytjmkkkfloalliaa

namespace Go.Proofs.Ytjmkkkfloalliaa
set_option linter.unusedVariables false
open Go.RowKit

set_option maxRecDepth 100000 in
set_option maxHeartbeats 800000 in
theorem rises_yes (va : Value) (l : List Nat) (n : Nat) (w : World) (hl : SlI w va l) (h0 : l.length ≤ 1000) (hn : n ≤ 1000) (hlt : ∀ i, i < l.length → l.getD i 0 < n) (hr : ∀ i, i + 1 < l.length → l.getD i 0 < l.getD (i + 1) 0) :
    Calls Try.prog 49 #[va, .int .i64 n] w fun e w' => e = .returned (.bool true) ∧ Below w.heap.size w w' := by
  by_cases hz : l.length = 0
  · obtain ⟨p, cap, rfl⟩ := hl.form
    obtain rfl := List.length_eq_zero_iff.1 hz
    clear hlt hr hl
    go_enter Try.func49, Try.ntmps49
    go_wp2
    go_loopw [5] (fun i wr => i = .int .i64 0 ∧ wr = w) (fun i _ => 0)
    case atStart => exact ⟨rfl, rfl⟩
    case round =>
      obtain ⟨rfl, rfl⟩ := hrel
      go_wp2
      go_ret
      exact ⟨rfl, Below.refl _ _⟩
  · obtain ⟨ba, cap, rfl, ca⟩ := hl.at_ (by omega)
    have HCA := hid ca
    have HLT := hid hlt
    have HR := hid hr
    clear ca hl hlt hr hz
    go_enter Try.func49, Try.ntmps49
    go_wp2
    go_loopw [5] (fun i wr => ∃ k : Nat, k ≤ l.length ∧ i = .int .i64 k ∧ ∃ q, wr = w.drewN q) (fun i _ => l.length - (intOf i).toNat)
    case atStart => exact ⟨0, by omega, rfl, 0, rfl⟩
    case round =>
      obtain ⟨k, hk, rfl, q, rfl⟩ := hrel
      rcases Nat.lt_or_ge k l.length with hlt | hge
      · have c1 : w.cell? ⟨ba, k, none⟩ = some (.int .i64 ((l.getD k 0 : Nat) : Int)) := HCA.out k hlt
        have g1 := HLT.out k hlt
        have i0 : (0 : Int) ≤ (k : Int) := by omega
        have i1 : (k : Int) < (l.length : Int) := by omega
        have t1 : decide (((l.getD k 0 : Nat) : Int) < 0) = false := by simp
        have t2 : decide (((l.getD k 0 : Nat) : Int) ≥ (n : Int)) = false := decide_eq_false (by omega)
        have t2' : decide ((n : Int) ≤ ((l.getD k 0 : Nat) : Int)) = false := decide_eq_false (by omega)
        rcases Nat.eq_zero_or_pos k with rfl | hpos
        · generalize ((l.getD 0 0 : Nat) : Int) = x at *
          go_wp2
          go_quiet (fail)
          go_wp2
          go_roundw
          case rel => exact ⟨1, by omega, by go_num, _, rfl⟩
          case measure => simp [intOf]; omega
        · obtain ⟨j, rfl⟩ : ∃ j, k = j + 1 := ⟨k - 1, by omega⟩
          have c2 : w.cell? ⟨ba, j, none⟩ = some (.int .i64 ((l.getD j 0 : Nat) : Int)) := HCA.out j (by omega)
          have g2 := HR.out j hlt
          have t3 : decide (((l.getD (j + 1) 0 : Nat) : Int) ≤ ((l.getD j 0 : Nat) : Int)) = false := decide_eq_false (by omega)
          have t4 : decide ((((j + 1 : Nat)) : Int) > 0) = true := decide_eq_true (by omega)
          have t4' : decide ((0 : Int) < ((j + 1 : Nat) : Int)) = true := decide_eq_true (by omega)
          have ee : (((j + 1 : Nat) : Int) - 1) = (j : Int) := by omega
          have j0 : (0 : Int) ≤ (j : Int) := by omega
          have j1 : (j : Int) < (l.length : Int) := by omega
          generalize ((l.getD (j + 1) 0 : Nat) : Int) = x at *
          generalize ((l.getD j 0 : Nat) : Int) = y at *
          go_wp2
          go_quiet (fail)
          go_wp2
          go_roundw
          case rel => exact ⟨j + 2, by omega, by go_num, _, rfl⟩
          case measure => simp [intOf]; omega
      · have hkn : k = l.length := by omega
        subst hkn
        go_wp2
        go_ret
        exact ⟨rfl, below_drewN (Below.refl _ _) _⟩
end Go.Proofs.Ytjmkkkfloalliaa

namespace Go.Proofs.Ytjmkkkfloalliaa
set_option linter.unusedVariables false
open Go.RowKit

theorem IdxOf.drew {w : World} {b rate : Nat} {t : List UInt8} {a : ByteArray} (h : IdxOf w b rate t a) : IdxOf w.drew b rate t a := ⟨h.idx, h.ah, h.len, h.r1, h.r2⟩
theorem SlI.drew {w : World} {v : Value} {l : List Nat} (h : SlI w v l) : SlI w.drew v l := h

set_option maxRecDepth 100000 in
set_option maxHeartbeats 1600000 in
theorem rated_any (w : World) (bd bx rate : Nat) (t pat a : ByteArray) (A : Int) (P : Q.Pat) (hD : Dsk w bd bx rate t pat true) (hI : IdxOf w bx rate t.data.toList a) (hp : pat.size ≤ maxLen) (hP : Q.parse (L pat) = .ok P) (r0 : -9223372036854775808 ≤ A) (r1 : A ≤ 9223372036854775807) :
    Calls Try.prog 26 #[.pointer (some ⟨bd, 0, none⟩), .int .i64 A] w fun e w' => e = .returned (.bool true) ∧ Below w.heap.size w w' := by
  have HP := hid hP
  have hts : t.size ≤ 200 := by rw [← size_len]; exact hI.len
  have HLT : Hid (∀ i, i < (Q.hits t.data.toList P).length → (Q.hits t.data.toList P).getD i 0 < t.size) := fun i hi => by
    have := Q.hits_lt (Q.parse_even hP) _ (Q.hits_at (t := t.data.toList) hi)
    rw [size_len] at this
    exact this
  have HRS : Hid (∀ i, i + 1 < (Q.hits t.data.toList P).length → (Q.hits t.data.toList P).getD i 0 < (Q.hits t.data.toList P).getD (i + 1) 0) := fun i hi => Q.hits_step hi
  have hHL : (Q.hits t.data.toList P).length ≤ 1000 := Q.hits_len _ _ hI.len
  have HSZ : Hid (t.data.toList.length = t.size) := size_len t
  clear hP
  go_enter Try.func26, Try.ntmps26
  go_wp2_with fail
  refine (pick_any A 32 _ r0 r1 (by omega) (by omega)).mono ?_
  rintro e w1 ⟨⟨r, rfl, hr⟩, hw1⟩
  obtain rfl : w = w1 := hw1.symm
  obtain ⟨R, HR, hR1, hR2⟩ : ∃ R : Nat, Hid ((1 : Int) + (r : Int) = (R : Int)) ∧ 1 ≤ R ∧ R ≤ 32 := ⟨r + 1, by show _ = _; omega, by omega, by omega⟩
  have d1 := hD.c1
  go_wp2_with fail
  rw [HR.out]
  refine (build_of t R _ hts hR1 hR2).mono ?_
  rintro e w2 ⟨by_, ay, rfl, hby, hY2, hB2⟩
  have hD2 : Dsk w2 bd bx rate t pat true := Blk.below hD hB2 (Blk.lt hD)
  have hX2 := hI.below hB2 hI.lt
  clear hD hI d1 HR hr
  have d0 := hD2.c0; have d3 := hD2.c3
  go_wp2_with fail
  have hbd := Blk.lt hD2
  go_region_held (fun w' => w'.cell? ⟨bd, 0, none⟩ = some (.pointer (some ⟨bx, 0, none⟩)) ∧ w'.cell? ⟨bd, 3, none⟩ = some (.string pat))
    (first | (exact ⟨(hB3.cell hbd).trans d0, (hB3.cell hbd).trans d3⟩) | go_keep)
    ((go_at_call 44; refine (find_ok hX2.drew pat hp P HP.out).mono ?_; rintro e w3 ⟨gl, rfl, hgl, hS3, hB3⟩))
  rename_i hHeld; clear hHeld
  have hB13 : Below w.heap.size w w3 := hB2.drew.trans (hB3.mono hB2.size)
  have hD3 : Dsk w3 bd bx rate t pat true := Blk.below (Blk.drew hD2) hB3 hbd
  have hX3 := hX2.drew.below hB3 hX2.lt
  have hY3 := hY2.drew.below hB3 hY2.lt
  clear hD2 hX2 hY2 hB2 hB3 d0 d3 hbd hgl
  have d3 := hD3.c3
  go_wp2_with fail
  refine (find_ok hY3 pat hp P HP.out).mono ?_
  rintro e w4 ⟨gm, rfl, hgm, hS4, hB4⟩
  have hD4 : Dsk w4 bd bx rate t pat true := Blk.below hD3 hB4 (Blk.lt hD3)
  have hX4 := hX3.below hB4 hX3.lt
  have hY4 := hY3.below hB4 hY3.lt
  have hS34 := hS3.below hB4 (Nat.le_refl _)
  have hB14 : Below w.heap.size w w4 := hB13.trans (hB4.mono hB13.size)
  clear hD3 hX3 hY3 hB13 hB4 hS3 d3 hgm
  have HH : Hid (∀ w', Below w4.heap.size w4 w' → Calls Try.prog 33 #[.pointer (some ⟨bx, 0, none⟩), .string pat, .int .i64 524288, .bool false] w' fun e w'' => ∃ g, e = .returned (.tuple #[.slice (some ⟨g, 0, none⟩) (Q.hits t.data.toList P).length (Q.hits t.data.toList P).length, .agg #[.int .i64 0, .int .i64 0]]) ∧ w'.heap.size ≤ g ∧ SlI w'' (.slice (some ⟨g, 0, none⟩) (Q.hits t.data.toList P).length (Q.hits t.data.toList P).length) (Q.hits t.data.toList P) ∧ Below w'.heap.size w' w'') :=
    fun w' h => search_ok (hX4.below h hX4.lt) pat 524288 false hp P HP.out (Q.enough_le hX4.len) (by decide)
  have HD4 : Hid (Dsk w4 bd bx rate t pat true) := hD4
  have HX4 : Hid (IdxOf w4 bx rate t.data.toList a) := hX4
  have HY4 : Hid (IdxOf w4 by_ R t.data.toList ay) := hY4
  have HS34 : Hid (SlI w4 (.slice (some ⟨gl, 0, none⟩) (Q.hits t.data.toList P).length (Q.hits t.data.toList P).length) (Q.hits t.data.toList P)) := hS34
  have HS4 : Hid (SlI w4 (.slice (some ⟨gm, 0, none⟩) (Q.hits t.data.toList P).length (Q.hits t.data.toList P).length) (Q.hits t.data.toList P)) := hS4
  have HB14 : Hid (Below w.heap.size w w4) := hB14
  have d0 := hD4.c0; have d3 := hD4.c3
  have hbd := Blk.lt hD4
  clear hX4 hY4 hS34 hS4 hB14 hD4
  generalize hHe : Q.hits t.data.toList P = H at *
  have HHE : Hid (Q.hits t.data.toList P = H) := hHe
  clear hHe
  have nb1 : w4.heap.size ≠ bd := by omega
  have nb2 : bd ≠ w4.heap.size := by omega
  go_upto_region 7 with fail
  go_cut [12, 13] from 57 (fun s12 s13 wc => ∃ g bf, s12 = .slice (some ⟨g, 0, none⟩) H.length H.length ∧ s13 = .pointer (some ⟨bf, 0, none⟩) ∧ BlkT wc bf 59 [.int .i64 0, .int .i64 0] ∧ SlI wc (.slice (some ⟨g, 0, none⟩) H.length H.length) H ∧ Below w4.heap.size w4 wc)
  case first =>
    go_region_held (fun w' => w'.cell? ⟨bd, 0, none⟩ = some (.pointer (some ⟨bx, 0, none⟩)) ∧ w'.cell? ⟨bd, 3, none⟩ = some (.string pat))
      (first | (exact ⟨(hB.cell hbd).trans d0, (hB.cell hbd).trans d3⟩) | (exact ⟨(hB.cell hbd1).trans ((World.cell?_alloc_lt _ _ _ hbd).trans d0), (hB.cell hbd1).trans ((World.cell?_alloc_lt _ _ _ hbd).trans d3)⟩) | go_keep)
      ((go_at_call 33; refine (HH.out _ (by first | exact (Below.refl _ _) | exact (Below.refl _ _).drew | exact ((Below.refl _ _).alloc (Nat.le_refl _) _).drew)).mono ?_; rintro e w5 ⟨g, rfl, hg, hS, hB⟩; have hz5 : w4.heap.size ≤ w5.heap.size := (by have := hB.size; simp at this; omega); have nb3 : w5.heap.size ≠ bd := (by omega); have nb4 : bd ≠ w5.heap.size := (by omega); try (have hF : BlkT w5 w4.heap.size 59 [.int .i64 0, .int .i64 0] := (hB.block w4.heap.size (by simp)).trans (BlkT.new w4 _ _); have f0 := hF.cell 0; have f1 := hF.cell 1; have ff := hF.frozen; simp only [List.getElem?_cons_zero, List.getElem?_cons_succ] at f0 f1; have hbd1 : bd < (w4.alloc (.cells #[.int .i64 0, .int .i64 0] 59)).drew.heap.size := by simp; omega)))
    · go_wp2_with fail
      go_meet
      case rel => exact ⟨g, w5.heap.size, rfl, rfl, BlkT.new w5 _ _, hS.below ((Below.refl _ w5).alloc (Nat.le_refl _) _) (Nat.le_refl _), (Below.refl _ w4).drew.trans (hB.alloc hB.size _)⟩
    · go_wp2_with fail
      go_meet
      case rel =>
        have hg2 : w4.heap.size ≠ g := by simp at hg; omega
        have hB' : Below w4.heap.size (w4.alloc (.cells #[.int .i64 0, .int .i64 0] 59)).drew w5 := hB.mono (by show w4.heap.size ≤ (World.alloc _ _).heap.size; simp)
        exact ⟨g, w4.heap.size, rfl, rfl, (hF.set 0 _).set 1 _, (hS.set hg2 _).set hg2 _, (((Below.refl _ w4).alloc (Nat.le_refl _) _).drew.trans ((hB'.setCell (Nat.le_refl _) _).setCell (Nat.le_refl _) _))⟩
  case rest =>
    obtain ⟨gn, bf, rfl, rfl, hF, hSn, hBc⟩ := hcut
    have hD5 : Dsk wc bd bx rate t pat true := Blk.below HD4.out hBc hbd
    have hY5 := HY4.out.below hBc HY4.out.lt
    have hSl := HS34.out.below hBc (Nat.le_refl _)
    have hSm := HS4.out.below hBc (Nat.le_refl _)
    have hB5 : Below w.heap.size w wc := HB14.out.trans (hBc.mono HB14.out.size)
    have f0 := hF.cell 0
    simp only [List.getElem?_cons_zero] at f0
    clear HH HD4 HX4 HY4 HS34 HS4 HB14 d0 d3 nb1 nb2 hbd hBc
    go_wp2_with fail
    refine (same_yes _ _ H _ hSl hSm hHL).mono ?_
    rintro e w6 ⟨rfl, hB6⟩
    have hD6 : Dsk w6 bd bx rate t pat true := Blk.below hD5 hB6 (Blk.lt hD5)
    have hY6 := hY5.below hB6 hY5.lt
    have hSl6 := hSl.below hB6 (Nat.le_refl _)
    have hSn6 := hSn.below hB6 (Nat.le_refl _)
    have hBB6 := hB5.trans (hB6.mono hB5.size)
    clear hD5 hY5 hSl hSm hSn hB6 hB5 f0 hF
    go_wp2_with fail
    refine (same_yes _ _ H _ hSl6 hSn6 hHL).mono ?_
    rintro e w7 ⟨rfl, hB7⟩
    have hD7 : Dsk w7 bd bx rate t pat true := Blk.below hD6 hB7 (Blk.lt hD6)
    have hY7 := hY6.below hB7 hY6.lt
    have hSl7 := hSl6.below hB7 (Nat.le_refl _)
    have hBB7 := hBB6.trans (hB7.mono hBB6.size)
    clear hD6 hY6 hSl6 hSn6 hB7 hBB6
    have d1 := hD7.c1
    go_wp2_with fail
    refine (rises_yes _ H t.size _ hSl7 hHL (by omega) HLT.out HRS.out).mono ?_
    rintro e w8 ⟨rfl, hB8⟩
    have hD8 : Dsk w8 bd bx rate t pat true := Blk.below hD7 hB8 (Blk.lt hD7)
    have hY8 := hY7.below hB8 hY7.lt
    have hBB8 := hBB7.trans (hB8.mono hBB7.size)
    clear hD7 hY7 hSl7 hB8 hBB7 d1
    have d3 := hD8.c3
    go_wp2_with fail
    have HC := hid (count_ok hY8 pat 524288 hp P HP.out (Q.enough_le hY8.len) (by decide))
    rw [HHE.out] at HC
    refine HC.out.mono ?_
    rintro e w9 ⟨rfl, hB9⟩
    have hD9 : Dsk w9 bd bx rate t pat true := Blk.below hD8 hB9 (Blk.lt hD8)
    have hY9 := hY8.below hB9 hY8.lt
    have hBB9 := hBB8.trans (hB9.mono hBB8.size)
    clear HC hD8 hY8 hB9 hBB8 d3
    have d3 := hD9.c3
    have nb := Blk.lt hD9
    go_upto_region 14 with fail
    have hA : Below w9.heap.size w9 (w9.alloc (.cells #[.int .i64 0, .int .i64 0] 59)) := (Below.refl _ w9).alloc (Nat.le_refl _) _
    have hF1 : BlkT (w9.alloc (.cells #[.int .i64 0, .int .i64 0] 59)) w9.heap.size 59 [.int .i64 0, .int .i64 0] := BlkT.new w9 _ _
    have hD10 : Dsk (w9.alloc (.cells #[.int .i64 0, .int .i64 0] 59)) bd bx rate t pat true := Blk.below hD9 hA nb
    have hY10 := hY9.below hA hY9.lt
    have hB10 := hBB9.trans (hA.mono hBB9.size)
    clear hD9 hY9 hBB9 hA d3
    generalize w9.alloc (.cells #[.int .i64 0, .int .i64 0] 59) = w10 at *
    have d3 := hD10.c3
    go_wp2_with fail
    have HC := hid (exists_ok hY10 pat 524288 hp P HP.out (Q.enough_le hY10.len) (by decide))
    rw [HHE.out] at HC
    refine HC.out.mono ?_
    rintro e w11 ⟨rfl, hB11⟩
    have hF2 : BlkT w11 w9.heap.size 59 [.int .i64 0, .int .i64 0] := (hB11.block _ hF1.lt).trans hF1
    have hD11 : Dsk w11 bd bx rate t pat true := Blk.below hD10 hB11 (Blk.lt hD10)
    have hY11 := hY10.below hB11 hY10.lt
    have hBB11 := hB10.trans (hB11.mono hB10.size)
    clear HC hD10 hY10 hB11 hB10 d3 hF1
    go_upto_region 15 with fail
    have hA : Below w11.heap.size w11 (w11.alloc (.cells #[.int .i64 0, .int .i64 0] 59)) := (Below.refl _ w11).alloc (Nat.le_refl _) _
    have hF3 : BlkT (w11.alloc (.cells #[.int .i64 0, .int .i64 0] 59)) w11.heap.size 59 [.int .i64 0, .int .i64 0] := BlkT.new w11 _ _
    have hF4 : BlkT (w11.alloc (.cells #[.int .i64 0, .int .i64 0] 59)) w9.heap.size 59 [.int .i64 0, .int .i64 0] := (hA.block _ hF2.lt).trans hF2
    have hD12 : Dsk (w11.alloc (.cells #[.int .i64 0, .int .i64 0] 59)) bd bx rate t pat true := Blk.below hD11 hA (Blk.lt hD11)
    have hY12 := hY11.below hA hY11.lt
    have hB12 := hBB11.trans (hA.mono hBB11.size)
    clear hD11 hY11 hBB11 hA hF2
    generalize w11.alloc (.cells #[.int .i64 0, .int .i64 0] 59) = w12 at *
    have d1 := hD12.c1
    go_wp2_with fail
    refine (extract_of hY12 0 t.size (by omega) (by rw [HSZ.out]; exact Nat.le_refl _)).mono ?_
    rintro e w13 ⟨s6, rfl, hs6, hB13⟩
    obtain rfl : s6 = t := by
      refine bytes_eq ?_
      rw [hs6.out, List.drop_zero, Nat.sub_zero, ← HSZ.out, List.take_length]
    have hF5 : BlkT w13 w11.heap.size 59 [.int .i64 0, .int .i64 0] := (hB13.block _ hF3.lt).trans hF3
    have hF6 : BlkT w13 w9.heap.size 59 [.int .i64 0, .int .i64 0] := (hB13.block _ hF4.lt).trans hF4
    have hD13 : Dsk w13 bd bx rate s6 pat true := Blk.below hD12 hB13 (Blk.lt hD12)
    have hB14 := hB12.trans (hB13.mono hB12.size)
    clear hD12 hY12 hB13 hB12 hF3 hF4 d1 hs6
    have d1 := hD13.c1
    have f0 := hF5.cell 0
    have f1 := hF6.cell 0
    simp only [List.getElem?_cons_zero] at f0 f1
    by_cases hpos : (H.length : Int) > 0
    · have hd : decide ((H.length : Int) > 0) = true := decide_eq_true hpos
      have hd2 : decide (0 < (H.length : Int)) = true := decide_eq_true hpos
      clear hpos
      go_wp2
      go_ret
      exact ⟨rfl, hB14⟩
    · have hd : decide ((H.length : Int) > 0) = false := decide_eq_false hpos
      have hd2 : decide (0 < (H.length : Int)) = false := decide_eq_false hpos
      clear hpos
      go_wp2
      go_ret
      exact ⟨rfl, hB14⟩

set_option maxRecDepth 100000 in
set_option maxHeartbeats 400000 in
theorem walk_Rates (a0 : ByteArray) (a1 : Int) (a2 : ByteArray) (a3 : ByteArray) (a4 : Int) (a5 : Int) (w0 : a0.size ≤ maxLen) (w1 : (Lit.int .i64 a1).wf = true) (w2 : a2.size ≤ maxLen) (_ : a3.size ≤ maxLen) (w4 : (Lit.int .i64 a4).wf = true) (_ : (Lit.int .i64 a5).wf = true) (w : World) :
    Calls Try.prog 12 #[.string a0, .int .i64 a1, .string a2, .string a3, .int .i64 a4, .int .i64 a5] w fun e w' => e = .returned (.bool true) ∧ Below w.heap.size w w' := by
  obtain ⟨b1, b2⟩ := wf_bounds w1
  obtain ⟨b3, b4⟩ := wf_bounds w4
  go_enter Try.func12, Try.ntmps12
  go_wp2_with fail
  refine (laid_p a0 a2 a1 _ w0 w2 b1 b2).mono ?_
  rintro e w' ⟨bd, bx, r, t', pat', a, hv, rfl, _, hD, hI, g1, g2, hB, _, HV⟩
  have d4 := hD.c4
  cases hv with
  | false =>
    go_wp2
    go_ret
    exact ⟨rfl, hB⟩
  | true =>
    obtain ⟨hpe, P, hP⟩ := HV.out rfl
    subst hpe
    clear HV
    go_wp2_with fail
    refine (rated_any _ bd bx r t' pat' a a4 P hD hI w2 hP b3 b4).mono ?_
    rintro e w5 ⟨rfl, hB2⟩
    go_wp2
    go_ret
    exact ⟨rfl, hB.trans (hB2.mono hB.size)⟩
end Go.Proofs.Ytjmkkkfloalliaa

