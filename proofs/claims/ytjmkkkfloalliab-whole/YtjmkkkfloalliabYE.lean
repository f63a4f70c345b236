import Derived.Test.YtjmkkkfloalliabYD
-- bounds, members, classes: what writes into a part
namespace Go.Proofs.Ytjmkkkfloalliab
set_option linter.unusedVariables false
open Go.RowKit

theorem Keep.two {a b : Nat} {w w' : World} (h : Keep [a] w w') : Keep [a, b] w w' := h.mono (by simp)
theorem Keep.two' {a b : Nat} {w w' : World} (h : Keep [a] w w') : Keep [b, a] w w' := h.mono (by simp)

def turnTo (ins : List Bool) (k : Nat) : List Bool := (List.range 256).map fun i => if i < k then !ins.getD i false else ins.getD i false
theorem turnTo_len (ins : List Bool) (k : Nat) : (turnTo ins k).length = 256 := by simp [turnTo]
theorem turnTo_at (ins : List Bool) (k : Nat) (hk : k < 256) : (turnTo ins k).getD k false = ins.getD k false := by
  unfold turnTo
  rw [List.getD_eq_getElem?_getD]
  simp [hk]
theorem turnTo_zero (ins : List Bool) (h : ins.length = 256) : turnTo ins 0 = ins := by
  apply List.ext_getElem?
  intro j
  rcases Nat.lt_or_ge j 256 with hj | hj
  · simp [turnTo, hj, List.getElem?_eq_getElem (show j < ins.length by omega)]
  · rw [List.getElem?_eq_none (by rw [turnTo_len]; exact hj), List.getElem?_eq_none (by omega)]
theorem turnTo_all (ins : List Bool) (h : ins.length = 256) : turnTo ins 256 = Q.turn ins := by
  apply List.ext_getElem?
  intro j
  rcases Nat.lt_or_ge j 256 with hj | hj
  · simp [turnTo, Q.turn, hj, List.getElem?_eq_getElem (show j < ins.length by omega)]
  · rw [List.getElem?_eq_none (by rw [turnTo_len]; exact hj), List.getElem?_eq_none (by rw [Q.turn_len _ h]; exact hj)]
theorem turnTo_step (ins : List Bool) (k : Nat) (hk : k < 256) : (turnTo ins k).set k (!ins.getD k false) = turnTo ins (k + 1) := by
  unfold turnTo
  apply List.ext_getElem?
  intro j
  rw [List.getElem?_set]
  rcases Nat.lt_or_ge j 256 with hj | hj
  · by_cases e : k = j
    · subst e
      simp [hk]
    · rw [if_neg e]
      simp only [List.getElem?_map, List.getElem?_range hj, Option.map_some]
      by_cases h : j < k
      · simp [h, show j < k + 1 by omega]
      · simp [h, show ¬ j < k + 1 by omega]
  · rw [List.getElem?_eq_none (show ((List.range 256).map fun i => if i < k + 1 then !ins.getD i false else ins.getD i false).length ≤ j by simpa using hj)]
    rw [if_neg (by omega), List.getElem?_eq_none (by simpa using hj)]

set_option maxRecDepth 10000 in
set_option maxHeartbeats 1600000 in
theorem turn_any (bp : Nat) (p : Q.Part) (w : World) (hP : PtT w bp p) :
    Calls Try.prog 117 #[.pointer (some ⟨bp, 0, none⟩)] w fun e w' => e = .returned (.tuple #[]) ∧ PtT w' bp { p with ins := Q.turn p.ins } ∧ Keep [bp] w w' := by
  have HP : Hid (PtT w bp { p with ins := turnTo p.ins 0 }) := by
    show PtT _ _ _
    rw [turnTo_zero p.ins hP.1]
    exact hP
  have HZ : Hid (turnTo p.ins 256 = Q.turn p.ins) := turnTo_all p.ins hP.1
  clear hP
  go_enter Try.func117, Try.ntmps117
  go_wp2
  go_loopw [3] (fun i wr => ∃ k : Nat, k ≤ 256 ∧ i = .int .i64 k ∧ PtT wr bp { p with ins := turnTo p.ins k } ∧ Keep [bp] w wr) (fun i _ => 256 - (intOf i).toNat)
  case atStart => exact ⟨0, by omega, rfl, HP.out, Keep.refl _ _⟩
  case round =>
    obtain ⟨k, hk, rfl, hP, hK⟩ := hrel
    by_cases hlt : k < 256
    · have hc := hP.cellI k hlt
      have hf := hP.frozen (1 + k)
      have HI : Hid (PtT (wr.setCell ⟨bp, 1 + k, none⟩ (.bool (!p.ins.getD k false))) bp { p with ins := turnTo p.ins (k + 1) }) := by
        have := hP.ins k hlt (!p.ins.getD k false)
        rw [turnTo_step p.ins k hlt] at this
        exact this
      rw [turnTo_at p.ins k hlt] at hc
      generalize p.ins.getD k false = b at hc HI
      have HK : Hid (Keep [bp] w wr) := hK
      clear hK hP
      have h0 : (0 : Int) ≤ (k : Int) := by omega
      have h1 : (k : Int) < 256 := by omega
      go_wp2_with fail
      go_region
      all_goals go_wp2
      all_goals go_roundw
      all_goals first
        | (case rel => exact ⟨k + 1, by omega, by go_num, HI.out, (HK.out.setCell (by simp) _).drew⟩)
        | (case measure => simp [intOf]; omega)
        | skip
    · obtain rfl : k = 256 := by omega
      rw [HZ.out] at hP
      go_wp2
      go_end0
      exact ⟨rfl, hP, hK⟩

/-- the bytes from a to before c are set -/
theorem setRange_step (ins : List Bool) (a c : Nat) (hac : a ≤ c) (hc : c < 256) : ((List.range 256).map fun i => ins.getD i false || (decide (a ≤ i) && decide (i < c))).set c true = ((List.range 256).map fun i => ins.getD i false || (decide (a ≤ i) && decide (i < c + 1))) := by
  apply List.ext_getElem?
  intro j
  rw [List.getElem?_set]
  rcases Nat.lt_or_ge j 256 with hj | hj
  · by_cases e : c = j
    · subst e
      simp [hc, hac]
    · rw [if_neg e]
      simp only [List.getElem?_map, List.getElem?_range hj, Option.map_some]
      by_cases h : j < c
      · simp [h, show j < c + 1 by omega]
      · simp [h, show ¬ j < c + 1 by omega]
  · rw [List.getElem?_eq_none (show ((List.range 256).map fun i => ins.getD i false || (decide (a ≤ i) && decide (i < c + 1))).length ≤ j by simpa using hj)]
    rw [if_neg (by omega), List.getElem?_eq_none (by simpa using hj)]
def rangeTo (ins : List Bool) (a c : Nat) : List Bool := (List.range 256).map fun i => ins.getD i false || (decide (a ≤ i) && decide (i < c))
theorem rangeTo_len (ins : List Bool) (a c : Nat) : (rangeTo ins a c).length = 256 := by simp [rangeTo]
theorem rangeTo_self (ins : List Bool) (a : Nat) (h : ins.length = 256) : rangeTo ins a a = ins := by
  apply List.ext_getElem?
  intro j
  rcases Nat.lt_or_ge j 256 with hj | hj
  · have : (decide (a ≤ j) && decide (j < a)) = false := by simp
    simp [rangeTo, hj, List.getElem?_eq_getElem (show j < ins.length by omega), this]
  · rw [List.getElem?_eq_none (by rw [rangeTo_len]; exact hj), List.getElem?_eq_none (by omega)]
theorem rangeTo_end (ins : List Bool) (a b c : Nat) (h : ins.length = 256) (hac : a ≤ c) (hc : ¬ c ≤ b) (hcb : c ≤ b + 1 ∨ c = a) : rangeTo ins a c = Q.setRange ins a b := by
  unfold rangeTo Q.setRange
  apply List.map_congr_left
  intro i hi
  congr 1
  rcases hcb with e | e
  · have : c = b + 1 := by omega
    subst this
    congr 1
    simp; omega
  · subst e
    rw [Bool.eq_iff_iff]
    simp
    omega

set_option maxRecDepth 10000 in
set_option maxHeartbeats 1600000 in
theorem member_any (br bp : Nat) (pat : ByteArray) (σ : Q.Rd) (v : Value) (p : Q.Part) (w : World) (hR : RdT w br pat σ v) (hP : PtT w bp p) (hs : pat.size ≤ 1000) (ha : σ.at_ ≤ pat.size) :
    Calls Try.prog 123 #[.pointer (some ⟨br, 0, none⟩), .pointer (some ⟨bp, 0, none⟩)] w fun e w' => e = .returned (.tuple #[]) ∧ RdT w' br pat (Q.member (L pat) p.ins σ).2 v ∧ PtT w' bp { p with ins := (Q.member (L pat) p.ins σ).1 } ∧ Keep [br, bp] w w' := by
  have HL : Hid ((L pat).length = pat.size) := size_len pat
  have hne := hP.ne hR
  have HR : Hid (RdT w br pat σ v) := hR
  have HP : Hid (PtT w bp p) := hP
  have hl := hP.1
  have HLEN : Hid (p.ins.length = 256) := hl
  clear hR hP hl
  have o1 := (Q.memberByte_on (s := L pat) σ).len (by rw [HL.out]; exact ha)
  rw [HL.out] at o1
  have hm := Q.member1_lt (s := L pat) σ
  have HM : Hid ((Q.member1 (L pat) σ).1 = (Q.memberByte (L pat) σ).1) := by show _ = _; unfold Q.member1; split <;> rfl
  have hm1 : (Q.memberByte (L pat) σ).1 < 256 := by rw [← HM.out]; exact hm.1
  have hm2 := hm.2
  have HME : Hid ((Q.member (L pat) p.ins σ) = (Q.setRange p.ins (Q.memberByte (L pat) σ).1 (Q.member1 (L pat) σ).2.1, { (Q.member1 (L pat) σ).2.2 with back := (Q.member1 (L pat) σ).2.2.back || decide ((Q.member1 (L pat) σ).2.1 < (Q.memberByte (L pat) σ).1) })) := by
    show _ = _; unfold Q.member; rw [HM.out]
  rw [HME.out]
  clear hm HM HME
  go_enter Try.func123, Try.ntmps123
  go_upto_if 11 with (first
    | (go_at_call 124; refine (memberByte_any br pat σ v w HR.out hs ha).mono ?_; rintro e w1 ⟨rfl, hR1, hK1⟩)
    | (go_at_call 78; refine (take_any br pat _ v 45 _ hR1 hs o1).mono ?_; rintro e w2 ⟨rfl, hR2, hK2⟩))
  go_cut [5] from 10 (fun s5 wc => s5 = .int .i64 ((Q.member1 (L pat) σ).2.1 : Int) ∧ RdT wc br pat (Q.member1 (L pat) σ).2.2 v ∧ Keep [br] w wc)
  case first =>
    by_cases h : Q.next (L pat) (Q.memberByte (L pat) σ).2 = 45
    · have hq : (Q.next (L pat) (Q.memberByte (L pat) σ).2 == 45) = true := by simp [h]
      have HT : Hid (Q.take (L pat) 45 (Q.memberByte (L pat) σ).2 = Q.fwd (Q.memberByte (L pat) σ).2) := by show _ = _; unfold Q.take; rw [if_pos h]
      have HE : Hid (Q.member1 (L pat) σ = ((Q.memberByte (L pat) σ).1, (Q.memberByte (L pat) (Q.fwd (Q.memberByte (L pat) σ).2)).1, (Q.memberByte (L pat) (Q.fwd (Q.memberByte (L pat) σ).2)).2)) := by show _ = _; unfold Q.member1; rw [if_pos h]
      have o2 := (Q.fwd_on (s := L pat) (σ := (Q.memberByte (L pat) σ).2) (by rw [h]; decide)).len (by rw [HL.out]; exact o1)
      rw [HL.out] at o2
      rw [HT.out] at hR2
      clear h
      rw [hq]
      go_wp2_with (go_at_call 124; refine (memberByte_any br pat _ v _ hR2 hs o2).mono ?_; rintro e w3 ⟨rfl, hR3, hK3⟩)
      go_meet
      case rel =>
        rw [HE.out]
        exact ⟨rfl, hR3, (hK1.trans hK2).trans hK3⟩
    · have hq : (Q.next (L pat) (Q.memberByte (L pat) σ).2 == 45) = false := by simp [h]
      have HT : Hid (Q.take (L pat) 45 (Q.memberByte (L pat) σ).2 = (Q.memberByte (L pat) σ).2) := by show _ = _; unfold Q.take; rw [if_neg h]
      have HE : Hid (Q.member1 (L pat) σ = ((Q.memberByte (L pat) σ).1, (Q.memberByte (L pat) σ).1, (Q.memberByte (L pat) σ).2)) := by show _ = _; unfold Q.member1; rw [if_neg h]
      rw [HT.out] at hR2
      clear h
      rw [hq]
      go_wp2
      go_meet
      case rel =>
        rw [HE.out]
        exact ⟨rfl, hR2, hK1.trans hK2⟩
  case rest =>
    clear hR1 hR2 hK1 hK2 w1 w2
    obtain ⟨rfl, hRc, hKc⟩ := hcut
    go_upto_if 16 with fail
    go_cut [] from 14 (fun wd => RdT wd br pat { (Q.member1 (L pat) σ).2.2 with back := (Q.member1 (L pat) σ).2.2.back || decide ((Q.member1 (L pat) σ).2.1 < (Q.memberByte (L pat) σ).1) } v ∧ Keep [br] w wd)
    case first =>
      have f3 := BlkT.frozen hRc 3
      obtain ⟨_, _, _, c3, _⟩ := hRc.cells
      by_cases h : (Q.member1 (L pat) σ).2.1 < (Q.memberByte (L pat) σ).1
      · have hd : decide ((Q.member1 (L pat) σ).2.1 < (Q.memberByte (L pat) σ).1) = true := by simp [h]
        go_wp2
        go_meet
        case rel =>
          rw [hd, Bool.or_true]
          exact ⟨hRc.back, hKc.setCell (by simp) _⟩
      · have hd : decide ((Q.member1 (L pat) σ).2.1 < (Q.memberByte (L pat) σ).1) = false := by simp; omega
        go_wp2
        go_meet
        case rel =>
          rw [hd, Bool.or_false]
          exact ⟨hRc, hKc⟩
    case rest =>
      clear hRc hKc
      obtain ⟨hRd, hKd⟩ := hcut
      have hPd := HP.out.keep hKd (by simpa using hne)
      go_wp2
      go_loopw [6] (fun i wr => ∃ k : Nat, (Q.memberByte (L pat) σ).1 ≤ k ∧ (k ≤ (Q.member1 (L pat) σ).2.1 + 1 ∨ k = (Q.memberByte (L pat) σ).1) ∧ i = .int .i64 k ∧ PtT wr bp { p with ins := rangeTo p.ins (Q.memberByte (L pat) σ).1 k } ∧ Keep [bp] wc wr) (fun i _ => 257 - (intOf i).toNat)
      case atStart => exact ⟨_, Nat.le_refl _, .inr rfl, rfl, by rw [rangeTo_self _ _ HLEN.out]; exact hPd, Keep.refl _ _⟩
      case round =>
        obtain ⟨k, hk1, hk2, rfl, hPk, hKk⟩ := hrel
        by_cases hlt : k ≤ (Q.member1 (L pat) σ).2.1
        · have hc := hPk.cellI k (by omega)
          have hf := hPk.frozen (1 + k)
          have HI : Hid (PtT (wr.setCell ⟨bp, 1 + k, none⟩ (.bool true)) bp { p with ins := rangeTo p.ins (Q.memberByte (L pat) σ).1 (k + 1) }) := by
            have := hPk.ins k (by omega) true
            unfold rangeTo at this
            rw [setRange_step p.ins _ k hk1 (by omega)] at this
            exact this
          have h1 : (k : Int) < 256 := by omega
          go_wp2
          go_roundw
          case rel => exact ⟨k + 1, by omega, .inl (by omega), by go_num, HI.out, hKk.setCell (by simp) _⟩
          case measure => simp [intOf]; omega
        · rw [rangeTo_end p.ins _ _ k HLEN.out hk1 hlt hk2] at hPk
          go_wp2
          go_end0
          exact ⟨rfl, hRd.keep hKk (by simpa using Ne.symm hne), hPk, hKd.two.trans hKk.two'⟩
end Go.Proofs.Ytjmkkkfloalliab
