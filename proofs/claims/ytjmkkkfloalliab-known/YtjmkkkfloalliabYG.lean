import Derived.Test.YtjmkkkfloalliabYF
-- bounds, copies
namespace Go.Proofs.Ytjmkkkfloalliab
set_option linter.unusedVariables false
open Go.RowKit

theorem Keep.of_l {a b : Nat} {w w' : World} (h : Keep [a] w w') : Keep [a, b] w w' := h.two
set_option maxRecDepth 10000 in
set_option maxHeartbeats 1600000 in
theorem bounds_any (br bp : Nat) (pat : ByteArray) (σ : Q.Rd) (v : Value) (p : Q.Part) (w : World) (hR : RdT w br pat σ v) (hP : PtT w bp p) (hs : pat.size ≤ 1000) (ha : σ.at_ ≤ pat.size) (he : p.endless = false) :
    Calls Try.prog 107 #[.pointer (some ⟨br, 0, none⟩), .pointer (some ⟨bp, 0, none⟩)] w fun e w' => e = .returned (.tuple #[]) ∧ RdT w' br pat (Q.bounds (L pat) p σ).2 v ∧ PtT w' bp (Q.bounds (L pat) p σ).1 ∧ Keep [br, bp] w w' := by
  have HL : Hid ((L pat).length = pat.size) := size_len pat
  have hne := hP.ne hR
  have HR : Hid (RdT w br pat σ v) := hR
  have HP : Hid (PtT w bp p) := hP
  clear hR hP
  have o1 := (Q.number_on (s := L pat) σ).len (by rw [HL.out]; exact ha)
  rw [HL.out] at o1
  have o2 := (Q.bounds1_on (s := L pat) σ).len (by rw [HL.out]; exact ha)
  rw [HL.out] at o2
  have HN : Hid ((Q.number (L pat) σ).1 ≤ 99) := Q.number_le σ
  have hn1 := HN.out
  have hn2 := Q.bounds1_le (s := L pat) σ
  have HBE : Hid (Q.bounds (L pat) p σ = ({ p with low := (Q.number (L pat) σ).1, high := (Q.bounds1 (L pat) σ).1, endless := (Q.bounds1 (L pat) σ).2.1 }, Q.need (L pat) 125 { (Q.bounds1 (L pat) σ).2.2 with back := (Q.bounds1 (L pat) σ).2.2.back || decide ((Q.bounds1 (L pat) σ).1 < (Q.number (L pat) σ).1) })) := by
    show _ = _; unfold Q.bounds; rw [he, Bool.false_or]
  rw [HBE.out]
  clear HBE
  go_enter Try.func107, Try.ntmps107
  go_upto_if 18 with (first
    | (go_at_call 119; refine (number_any br pat σ v w HR.out hs ha).mono ?_; rintro e w1 ⟨rfl, hR1, hK1⟩; have hP1 := HP.out.keep hK1 (by simpa using hne); have hf1 := hP1.frozen; obtain ⟨_, _, d2, d3, _⟩ := hP1.cells)
    | (go_at_call 78; refine (take_any br pat _ v 44 _ ((hR1.other (a := ⟨bp, 259, none⟩) (by simpa using hne) _).other (a := ⟨bp, 260, none⟩) (by simpa using hne) _) hs o1).mono ?_; rintro e w2 ⟨rfl, hR2, hK2⟩))
  have hP2 : PtT w2 bp { p with low := (Q.number (L pat) σ).1, high := (Q.number (L pat) σ).1 } := PtT.keep ((hP1.low _).high _) hK2 (by simpa using hne)
  have hKK : Keep [br, bp] w w2 := ((hK1.two.setCell (by simp) _).setCell (by simp) _).trans hK2.two
  clear d2 d3 hf1 hP1 hR1 hK1 hK2
  go_cut [] from 17 (fun wc => RdT wc br pat (Q.bounds1 (L pat) σ).2.2 v ∧ PtT wc bp { p with low := (Q.number (L pat) σ).1, high := (Q.bounds1 (L pat) σ).1, endless := (Q.bounds1 (L pat) σ).2.1 } ∧ Keep [br, bp] w wc)
  case first =>
    by_cases h : Q.next (L pat) (Q.number (L pat) σ).2 = 44
    · have hq : (Q.next (L pat) (Q.number (L pat) σ).2 == 44) = true := by simp [h]
      have HT : Hid (Q.take (L pat) 44 (Q.number (L pat) σ).2 = Q.fwd (Q.number (L pat) σ).2) := by show _ = _; unfold Q.take; rw [if_pos h]
      have o3 := (Q.fwd_on (s := L pat) (σ := (Q.number (L pat) σ).2) (by rw [h]; decide)).len (by rw [HL.out]; exact o1)
      rw [HL.out] at o3
      rw [HT.out] at hR2
      rw [hq]
      cases hd : Q.isDigit (Q.next (L pat) (Q.fwd (Q.number (L pat) σ).2)) with
      | true =>
        have HE : Hid (Q.bounds1 (L pat) σ = ((Q.number (L pat) (Q.fwd (Q.number (L pat) σ).2)).1, false, (Q.number (L pat) (Q.fwd (Q.number (L pat) σ).2)).2)) := by show _ = _; unfold Q.bounds1; rw [if_pos h, if_pos hd]
        clear h
        go_wp2_with (first
          | (go_at_call 91; refine (next_any br pat _ v _ hR2 hs o3).mono ?_; rintro e w3 ⟨rfl, q, rfl⟩)
          | (go_at_call 120; refine (isDigit_any _ _).mono ?_; rintro e w4 ⟨rfl, rfl⟩; rw [hd])
          | (go_at_call 119; refine (number_any br pat _ v _ (RdT.drewN hR2 q) hs o3).mono ?_; rintro e w5 ⟨rfl, hR5, hK5⟩; have hP5 := (hP2.drewN q).keep hK5 (by simpa using hne); have hf5 := hP5.frozen; obtain ⟨_, _, d2, d3, _⟩ := hP5.cells))
        go_meet
        case rel =>
          rw [HE.out]
          refine ⟨hR5.other (by simpa using hne) _, ?_, ((hKK.drewN q).trans hK5.two).setCell (by simp) _⟩
          have := hP5.high (Q.number (L pat) (Q.fwd (Q.number (L pat) σ).2)).1
          simp only [he] at this ⊢
          exact this
      | false =>
        have HE : Hid (Q.bounds1 (L pat) σ = ((Q.number (L pat) σ).1, true, Q.fwd (Q.number (L pat) σ).2)) := by show _ = _; unfold Q.bounds1; rw [if_pos h, if_neg (by rw [hd]; decide)]
        have hf5 := hP2.frozen
        obtain ⟨_, _, _, _, d4, _⟩ := hP2.cells
        clear h
        go_wp2_with (first
          | (go_at_call 91; refine (next_any br pat _ v _ hR2 hs o3).mono ?_; rintro e w3 ⟨rfl, q, rfl⟩)
          | (go_at_call 120; refine (isDigit_any _ _).mono ?_; rintro e w4 ⟨rfl, rfl⟩; rw [hd]))
        go_meet
        case rel =>
          rw [HE.out]
          refine ⟨(hR2.drewN q).other (by simpa using hne) _, ?_, (hKK.drewN q).setCell (by simp) _⟩
          exact (hP2.drewN q).endless true
    · have hq : (Q.next (L pat) (Q.number (L pat) σ).2 == 44) = false := by simp [h]
      have HT : Hid (Q.take (L pat) 44 (Q.number (L pat) σ).2 = (Q.number (L pat) σ).2) := by show _ = _; unfold Q.take; rw [if_neg h]
      have HE : Hid (Q.bounds1 (L pat) σ = ((Q.number (L pat) σ).1, false, (Q.number (L pat) σ).2)) := by show _ = _; unfold Q.bounds1; rw [if_neg h]
      rw [HT.out] at hR2
      rw [hq]
      clear h
      go_wp2
      go_meet
      case rel =>
        rw [HE.out]
        refine ⟨hR2, ?_, hKK⟩
        rw [← he]
        exact hP2
  case rest =>
    clear hR2 hP2 hKK
    obtain ⟨hRc, hPc, hKc⟩ := hcut
    obtain ⟨_, _, d2, d3, _⟩ := hPc.cells
    have f3 := BlkT.frozen hRc 3
    obtain ⟨_, _, _, c3, _⟩ := hRc.cells
    by_cases h : (Q.bounds1 (L pat) σ).1 < (Q.number (L pat) σ).1
    · have hd : decide ((Q.bounds1 (L pat) σ).1 < (Q.number (L pat) σ).1) = true := by simp [h]
      have HB : Hid (((Q.bounds1 (L pat) σ).2.2.back || decide ((Q.bounds1 (L pat) σ).1 < (Q.number (L pat) σ).1)) = true) := by show _ = _; rw [hd, Bool.or_true]
      have HRb : ∀ q, Hid (RdT ((wc.drewN q).setCell ⟨br, 3, none⟩ (.bool true)) br pat { (Q.bounds1 (L pat) σ).2.2 with back := (Q.bounds1 (L pat) σ).2.2.back || decide ((Q.bounds1 (L pat) σ).1 < (Q.number (L pat) σ).1) } v) := fun q => by
        show RdT _ _ _ _ _
        rw [HB.out]
        exact (hRc.drewN q).back
      clear hd HB
      go_wp2_with fail
      go_quiet (fail)
      go_wp2_with (go_at_call 121; refine (need_any br pat _ v 125 _ (HRb _).out hs o2).mono ?_; rintro e w6 ⟨rfl, hR6, hK6⟩)
      go_end0
      exact ⟨rfl, hR6, PtT.keep ((hPc.drewN _).other (by simpa using Ne.symm hne) _) hK6 (by simpa using hne), ((hKc.drewN _).setCell (by simp) _).trans hK6.two⟩
    · have hd : decide ((Q.bounds1 (L pat) σ).1 < (Q.number (L pat) σ).1) = false := by simp; omega
      have HB : Hid (((Q.bounds1 (L pat) σ).2.2.back || decide ((Q.bounds1 (L pat) σ).1 < (Q.number (L pat) σ).1)) = (Q.bounds1 (L pat) σ).2.2.back) := by show _ = _; rw [hd, Bool.or_false]
      have HRb : ∀ q, Hid (RdT (wc.drewN q) br pat { (Q.bounds1 (L pat) σ).2.2 with back := (Q.bounds1 (L pat) σ).2.2.back || decide ((Q.bounds1 (L pat) σ).1 < (Q.number (L pat) σ).1) } v) := fun q => by
        show RdT _ _ _ _ _
        rw [HB.out]
        exact hRc.drewN q
      clear hd HB
      go_wp2_with fail
      go_quiet (fail)
      go_wp2_with (go_at_call 121; refine (need_any br pat _ v 125 _ (HRb _).out hs o2).mono ?_; rintro e w6 ⟨rfl, hR6, hK6⟩)
      go_end0
      exact ⟨rfl, hR6, PtT.keep (hPc.drewN _) hK6 (by simpa using hne), (hKc.drewN _).trans hK6.two⟩

set_option maxRecDepth 10000 in
set_option maxHeartbeats 1600000 in
theorem copies_any (bp : Nat) (p : Q.Part) (w : World) (hP : PtT w bp p) (hl : p.low ≤ 99) :
    Calls Try.prog 93 #[.pointer (some ⟨bp, 0, none⟩)] w fun e w' => e = .returned (.int .i64 (p.copies : Nat)) ∧ w' = w := by
  obtain ⟨_, _, d2, d3, d4, _⟩ := hP.cells
  clear hP
  cases he : p.endless with
  | true =>
    have HE : Hid (p.copies = p.low + 1) := by show _ = _; unfold Q.Part.copies; rw [he]; rfl
    rw [he] at d4
    rw [HE.out]
    go_enter Try.func93, Try.ntmps93
    go_wp2
    go_ret
    exact ⟨rfl, rfl⟩
  | false =>
    have HE : Hid (p.copies = p.high) := by show _ = _; unfold Q.Part.copies; rw [he]; rfl
    rw [he] at d4
    rw [HE.out]
    go_enter Try.func93, Try.ntmps93
    go_wp2
    go_ret
    exact ⟨rfl, rfl⟩
end Go.Proofs.Ytjmkkkfloalliab
