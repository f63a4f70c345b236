import Derived.Test.YtjmkkkfloalliabK06
import Derived.BigRegion
namespace Go.Proofs.Ytjmkkkfloalliab
set_option linter.unusedVariables false
open Go.RowKit

namespace Q
theorem at_or_nil {t : List UInt8} {A : Lang} {p : Nat} : At t (fun u => A u ∨ u = []) p ↔ At t A p := by
  constructor
  · rintro ⟨u, h1, h2, h3 | h3⟩
    · exact ⟨u, h1, h2, h3⟩
    · exact absurd h3 h2
  · rintro ⟨u, h1, h2, h3⟩
    exact ⟨u, h1, h2, .inl h3⟩
end Q
/-- the ways in which the pattern is written -/
def ways (pat : ByteArray) : Nat → ByteArray
  | 0 => ⟨#[40]⟩ ++ pat ++ ⟨#[41]⟩
  | 1 => ⟨#[40, 41, 40]⟩ ++ pat ++ ⟨#[41]⟩
  | 2 => ⟨#[40]⟩ ++ pat ++ ⟨#[41, 40, 41]⟩
  | 3 => pat ++ ⟨#[124]⟩
  | 4 => ⟨#[40]⟩ ++ pat ++ ⟨#[124, 40, 41, 41]⟩
  | _ => pat ++ ⟨#[124, 91, 94, 0, 45, 255, 93]⟩
theorem ways_fit {pat : ByteArray} {d : Q.Den} {m : Nat} (h : Q.dgo (8 * (L pat).length + 6) .alt (L pat) = some (d, [], false, m)) (k : Nat) : ∃ A, Fits (ways pat k) A ∧ ∀ t p, Q.At t A p ↔ Q.At t d.lang p := by
  match k with
  | 0 => exact ⟨d.lang, fits_of (s := 40 :: (L pat ++ [41])) (by show L (⟨#[40]⟩ ++ pat ++ ⟨#[41]⟩) = _; rw [L_app, L_app]; rfl) (Q.br_only h), fun _ _ => Iff.rfl⟩
  | 1 => exact ⟨d.lang, fits_of (s := 40 :: 41 :: 40 :: (L pat ++ [41])) (by show L (⟨#[40, 41, 40]⟩ ++ pat ++ ⟨#[41]⟩) = _; rw [L_app, L_app]; rfl) (Q.br_ahead h), fun _ _ => Iff.rfl⟩
  | 2 => exact ⟨d.lang, fits_of (s := 40 :: (L pat ++ [41, 40, 41])) (by show L (⟨#[40]⟩ ++ pat ++ ⟨#[41, 40, 41]⟩) = _; rw [L_app, L_app]; rfl) (Q.br_behind h), fun _ _ => Iff.rfl⟩
  | 3 => exact ⟨fun u => d.lang u ∨ u = [], fits_of (s := L pat ++ [124]) (by show L (pat ++ ⟨#[124]⟩) = _; rw [L_app]) (Q.or_none h), fun _ _ => Q.at_or_nil⟩
  | 4 => exact ⟨fun u => d.lang u ∨ u = [], fits_of (s := 40 :: (L pat ++ [124, 40, 41, 41])) (by show L (⟨#[40]⟩ ++ pat ++ ⟨#[124, 40, 41, 41]⟩) = _; rw [L_app, L_app]; rfl) (Q.or_none_br h), fun _ _ => Q.at_or_nil⟩
  | k + 5 => exact ⟨d.lang, fits_of (s := L pat ++ [124, 91, 94, 0, 45, 255, 93]) (by show L (pat ++ ⟨#[124, 91, 94, 0, 45, 255, 93]⟩) = _; rw [L_app]) (Q.or_no_byte h), fun _ _ => Iff.rfl⟩
theorem ways_size {pat : ByteArray} (h : pat.size ≤ 40) (k : Nat) : (ways pat k).size ≤ maxLen := by
  have e : ∀ a b : ByteArray, (a ++ b).size = a.size + b.size := fun a b => ByteArray.size_append
  unfold maxLen
  match k with
  | 0 => show (⟨#[40]⟩ ++ pat ++ ⟨#[41]⟩ : ByteArray).size ≤ _; rw [e, e]; show 1 + pat.size + 1 ≤ _; omega
  | 1 => show (⟨#[40, 41, 40]⟩ ++ pat ++ ⟨#[41]⟩ : ByteArray).size ≤ _; rw [e, e]; show 3 + pat.size + 1 ≤ _; omega
  | 2 => show (⟨#[40]⟩ ++ pat ++ ⟨#[41, 40, 41]⟩ : ByteArray).size ≤ _; rw [e, e]; show 1 + pat.size + 3 ≤ _; omega
  | 3 => show (pat ++ ⟨#[124]⟩ : ByteArray).size ≤ _; rw [e]; show pat.size + 1 ≤ _; omega
  | 4 => show (⟨#[40]⟩ ++ pat ++ ⟨#[124, 40, 41, 41]⟩ : ByteArray).size ≤ _; rw [e, e]; show 1 + pat.size + 4 ≤ _; omega
  | k + 5 => show (pat ++ ⟨#[124, 91, 94, 0, 45, 255, 93]⟩ : ByteArray).size ≤ _; rw [e]; show pat.size + 7 ≤ _; omega
end Go.Proofs.Ytjmkkkfloalliab

namespace Go.Proofs.Ytjmkkkfloalliab
set_option linter.unusedVariables false
open Go.RowKit
set_option maxRecDepth 100000 in
set_option maxHeartbeats 0 in
theorem bracketed_any (w : World) (bd bx rate : Nat) (t pat a : ByteArray) (P : Q.Pat) (hD : Dsk w bd bx rate t pat true) (hI : IdxOf w bx rate t.data.toList a) (hp : pat.size ≤ maxLen) (hP : Q.parse (L pat) = .ok P) :
    Calls Try.prog 15 #[.pointer (some ⟨bd, 0, none⟩)] w fun e w' => e = .returned (.bool true) ∧ Below w.heap.size w w' := by
  obtain ⟨d, m, hd1, hd2, hd3⟩ := pat_den hP
  have HP := hid hP
  have HPA : Hid (∀ u, Q.acc P u = true ↔ (u ≠ [] ∧ d.lang u)) := hd3
  have hts : t.size ≤ 200 := by rw [← size_len]; exact hI.len
  have HSZ : Hid (t.data.toList.length = t.size) := size_len t
  have hps : pat.size ≤ 40 := by rw [← L_len]; exact hd2
  have HWF : Hid (∀ k, ∃ A, Fits (ways pat k) A ∧ ∀ t p, Q.At t A p ↔ Q.At t d.lang p) := ways_fit hd1
  have HWS : Hid (∀ k, (ways pat k).size ≤ maxLen) := ways_size hps
  have hl1 : (Q.hits t.data.toList P).length ≤ 1000 := Q.hits_len _ _ hI.len
  clear hP hd1 hd2 hd3
  have d0 := hD.c0; have d3 := hD.c3
  have hbd := Blk.lt hD
  have hIw : IdxOf w.drew bx rate t.data.toList a := ⟨hI.idx, hI.ah, hI.len, hI.r1, hI.r2⟩
  go_enter Try.func15, Try.ntmps15
  go_wp2_with fail
  go_region_held (fun w' => w'.cell? ⟨bd, 0, none⟩ = some (.pointer (some ⟨bx, 0, none⟩)) ∧ w'.cell? ⟨bd, 3, none⟩ = some (.string pat))
    (first | (exact ⟨(hB2.cell hbd).trans d0, (hB2.cell hbd).trans d3⟩) | go_keep)
    ((go_at_call 22; refine (find_ok hIw pat hp P HP.out).mono ?_; rintro e w2 ⟨gl, rfl, hgl, hS2, hB2⟩))
  rename_i hHeld; clear hHeld
  have hD2 : Dsk w2 bd bx rate t pat true := Blk.below (Blk.drew hD) hB2 hbd
  have hX2 := hIw.below hB2 hI.lt
  have hBB2 : Below w.heap.size w w2 := (Below.refl _ w).drew.trans hB2
  clear hD hI d0 d3 hB2 hbd hIw hgl
  have d3 := hD2.c3
  have hbd := Blk.lt hD2
  have nb1 : w2.heap.size ≠ bd := by omega
  have nb2 : bd ≠ w2.heap.size := by omega
  go_upto_region 2 with fail
  go_cut [5] from 23 (fun v wc => ∃ g, v = .slice (some ⟨g, 0, none⟩) 6 6 ∧ w2.heap.size ≤ g ∧ g < wc.heap.size ∧ (∀ k, k < 6 → wc.cell? ⟨g, k, none⟩ = some (.string (ways pat k))) ∧ Below w2.heap.size w2 wc)
  case first =>
    go_region
    go_wp2_with fail
    go_meet
    case rel =>
      refine ⟨w2.heap.size, rfl, Nat.le_refl _, by simp, fun k hk => ?_, ((Below.refl _ w2).alloc (Nat.le_refl _) _).drew⟩
      match k, hk with
      | 0, _ => exact (BlkT.new w2 _ _).cell 0
      | 1, _ => exact (BlkT.new w2 _ _).cell 1
      | 2, _ => exact (BlkT.new w2 _ _).cell 2
      | 3, _ => exact (BlkT.new w2 _ _).cell 3
      | 4, _ => exact (BlkT.new w2 _ _).cell 4
      | 5, _ => exact (BlkT.new w2 _ _).cell 5
  case rest =>
    obtain ⟨gw, rfl, hgw, hgw2, hcells, hB3⟩ := hcut
    obtain ⟨w3, hw3⟩ : ∃ x, x = wc := ⟨_, rfl⟩
    subst hw3
    have HC := hid hcells
    have HD3 : Hid (Dsk w3 bd bx rate t pat true) := Blk.below hD2 hB3 hbd
    have HX3 := hid (hX2.below hB3 hX2.lt)
    have HS3 := hid (hS2.below hB3 (Nat.le_refl _))
    have HBB3 : Hid (Below w.heap.size w w3) := hBB2.trans (hB3.mono hBB2.size)
    have hbd3 := Nat.lt_of_lt_of_le hbd hB3.size
    clear hcells hD2 hX2 hS2 hBB2 hB3 d3 nb1 nb2 hbd hgw HP
    go_wp2_with fail
    go_loopw [6] (fun i wr => ∃ k : Nat, k ≤ 6 ∧ i = .int .i64 k ∧ Below w3.heap.size w3 wr) (fun i _ => 6 - (intOf i).toNat)
    case atStart => exact ⟨0, by omega, rfl, Below.refl _ _⟩
    case round =>
      obtain ⟨k, hk, rfl, hB⟩ := hrel
      rcases Nat.lt_or_ge k 6 with hlt | hge
      · have c0 : wr.cell? ⟨bd, 0, none⟩ = some (.pointer (some ⟨bx, 0, none⟩)) := (hB.cell hbd3).trans HD3.out.c0
        have cw : wr.cell? ⟨gw, k, none⟩ = some (.string (ways pat k)) := (hB.cell hgw2).trans (HC.out k hlt)
        obtain ⟨A, hA1, hA2⟩ := HWF.out k
        have hqs := HWS.out k
        have hXr := HX3.out.below hB HX3.out.lt
        have hXd : IdxOf wr.drew bx rate t.data.toList a := ⟨hXr.idx, hXr.ah, hXr.len, hXr.r1, hXr.r2⟩
        have hbr := Nat.lt_of_lt_of_le hbd3 hB.size
        have hgr := Nat.lt_of_lt_of_le hgw2 hB.size
        have hSr := HS3.out.below hB (Nat.le_refl _)
        have HA2 := hid hA2
        have HSR := hid hSr
        generalize ways pat k = q at *
        have HFi := hid (find_of hXd q hqs A hA1)
        have k0 : (0 : Int) ≤ (k : Int) := by omega
        have k1 : (k : Int) < 6 := by omega
        clear hA1 hA2 hXr hXd hSr
        go_wp2_with fail
        go_region_held (fun w' => w'.cell? ⟨bd, 0, none⟩ = some (.pointer (some ⟨bx, 0, none⟩)) ∧ w'.cell? ⟨gw, k, none⟩ = some (.string q))
          (first | (exact ⟨(hB4.cell hbr).trans c0, (hB4.cell hgr).trans cw⟩) | go_keep)
          ((go_at_call 22; refine HFi.out.mono ?_; rintro e w4 ⟨v4, E4, rfl, HR4, hB4⟩))
        rename_i hHeld; clear hHeld
        have hBB4 : Below w3.heap.size w3 w4 := hB.drew.trans (hB4.mono hB.size)
        have hS4 := SlI.below (w := wr.drew) HSR.out hB4 (Nat.le_refl _)
        rcases HR4.out with ⟨rfl, P', g4, hP', hA', rfl, hT4⟩ | ⟨hE, rfl⟩
        · have he : Q.hits t.data.toList P' = Q.hits t.data.toList P := Q.hits_of hA' HPA.out fun p => HA2.out _ p
          have HW : Hid (Calls Try.prog 23 #[.slice (some ⟨gl, 0, none⟩) (Q.hits t.data.toList P).length (Q.hits t.data.toList P).length, .slice (some ⟨g4, 0, none⟩) (Q.hits t.data.toList P').length (Q.hits t.data.toList P').length] w4 fun e w' => e = .returned (.bool true) ∧ Below w4.heap.size w4 w') := by
            rw [he] at hT4 ⊢
            exact same_yes _ _ _ w4 hS4 hT4 hl1
          clear he hT4 hS4 hA' hP' HR4 HSR HFi HA2 c0 cw
          go_wp2_with fail
          refine HW.out.mono ?_
          rintro e w5 ⟨rfl, hB5⟩
          go_wp2
          go_roundw
          case rel => exact ⟨k + 1, by omega, by go_num, hBB4.trans (hB5.mono hBB4.size)⟩
          case measure => simp [intOf]; omega
        · have HW := hid (same_any _ _ _ [] w4 hS4 (SlI.nil w4) hl1 (by simp))
          generalize decide (Q.hits t.data.toList P = []) = bb at HW
          clear hS4 HR4 HSR HFi HA2 c0 cw
          rcases hE with hE | hE
          · subst hE
            go_wp2_with fail
            refine HW.out.mono ?_
            rintro e w5 ⟨rfl, hB5⟩
            go_wp2
            go_roundw
            case rel => exact ⟨k + 1, by omega, by go_num, hBB4.trans (hB5.mono hBB4.size)⟩
            case measure => simp [intOf]; omega
          · subst hE
            go_wp2_with fail
            refine HW.out.mono ?_
            rintro e w5 ⟨rfl, hB5⟩
            go_wp2
            go_roundw
            case rel => exact ⟨k + 1, by omega, by go_num, hBB4.trans (hB5.mono hBB4.size)⟩
            case measure => simp [intOf]; omega
      · obtain rfl : k = 6 := by omega
        go_wp2
        go_ret
        exact ⟨rfl, HBB3.out.trans (hB.mono HBB3.out.size)⟩

set_option maxRecDepth 100000 in
set_option maxHeartbeats 400000 in
theorem walk_Bracketed (a0 : ByteArray) (a1 : Int) (a2 : ByteArray) (a3 : ByteArray) (a4 : Int) (a5 : Int) (w0 : a0.size ≤ maxLen) (w1 : (Lit.int .i64 a1).wf = true) (w2 : a2.size ≤ maxLen) (w3 : a3.size ≤ maxLen) (_ : (Lit.int .i64 a4).wf = true) (_ : (Lit.int .i64 a5).wf = true) (w : World) :
    Calls Try.prog 7 #[.string a0, .int .i64 a1, .string a2, .string a3, .int .i64 a4, .int .i64 a5] w fun e w' => e = .returned (.bool true) ∧ Below w.heap.size w w' := by
  obtain ⟨b1, b2⟩ := wf_bounds w1
  go_enter Try.func7, Try.ntmps7
  go_wp2_with fail
  refine (laid_p a0 a2 a1 _ w0 w2 b1 b2).mono ?_
  rintro e w' ⟨bd, bx, r, t', pat', a, hv, rfl, _, hD, hI, g1, g2, hB, _, HV⟩
  have d4 := hD.c4
  cases hv with
  | false =>
    go_wp2
    go_ret
    exact ⟨rfl, hB⟩
  | true =>
    obtain ⟨hpe, P, hP⟩ := HV.out rfl
    subst hpe
    clear HV
    go_wp2_with fail
    refine (bracketed_any _ bd bx r t' pat' a P hD hI w2 hP).mono ?_
    rintro e w5 ⟨rfl, hB2⟩
    go_wp2
    go_ret
    exact ⟨rfl, hB.trans (hB2.mono hB.size)⟩
end Go.Proofs.Ytjmkkkfloalliab

