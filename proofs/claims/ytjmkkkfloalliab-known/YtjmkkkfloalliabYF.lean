import Derived.Test.YtjmkkkfloalliabYE
-- classes, bounds, copies
namespace Go.Proofs.Ytjmkkkfloalliab
set_option linter.unusedVariables false
open Go.RowKit

theorem Q.members_wrong (s : List UInt8) : ∀ (f : Nat) (ins : List Bool) (σ : Q.Rd), σ.wrong = true → Q.members s f ins σ = (ins, σ)
  | 0, _, _, _ => rfl
  | f + 1, ins, σ, h => by unfold Q.members; rw [if_pos h]
def Q.turnIf (b : Bool) (l : List Bool) : List Bool := if b = true then Q.turn l else l
theorem Q.cls_eq (s : List UInt8) (ins : List Bool) (σ : Q.Rd) (X : List Bool × Q.Rd) (hX : Q.members s (s.length + 1) (Q.member s ins (Q.take s 94 (Q.fwd σ))).1 (Q.member s ins (Q.take s 94 (Q.fwd σ))).2 = X) :
    Q.cls s ins σ = (Q.turnIf (Q.next s (Q.fwd σ) == 94) X.1, X.2) := by
  subst hX
  unfold Q.cls Q.take Q.turnIf
  by_cases h : Q.next s (Q.fwd σ) = 94
  · simp [h]
  · simp [h]
theorem Q.left_le (s : List UInt8) (σ : Q.Rd) : Q.left s σ ≤ s.length := by
  unfold Q.left
  split <;> omega

set_option maxRecDepth 10000 in
set_option maxHeartbeats 1600000 in
theorem class_any' (br bp : Nat) (pat : ByteArray) (σ : Q.Rd) (v : Value) (p : Q.Part) (w : World) (hR : RdT w br pat σ v) (hP : PtT w bp p) (hs : pat.size ≤ 1000) (ha : σ.at_ < pat.size) :
    Calls Try.prog 116 #[.pointer (some ⟨br, 0, none⟩), .pointer (some ⟨bp, 0, none⟩)] w fun e w' => e = .returned (.tuple #[]) ∧ RdT w' br pat (Q.cls (L pat) p.ins σ).2 v ∧ PtT w' bp { p with ins := (Q.cls (L pat) p.ins σ).1 } ∧ Keep [br, bp] w w' := by
  have HL : Hid ((L pat).length = pat.size) := size_len pat
  have hne := hP.ne hR
  obtain ⟨_, c1, _⟩ := hR.cells
  have f1 := BlkT.frozen hR 1
  have HF : Hid (RdT (w.setCell ⟨br, 1, none⟩ (.int .i64 ((σ.at_ : Int) + 1))) br pat (Q.fwd σ) v) := RdT.fwd hR (σ.at_ + 1) rfl
  have HP : Hid (PtT (w.setCell ⟨br, 1, none⟩ (.int .i64 ((σ.at_ : Int) + 1))) bp p) := hP.other (by simpa using Ne.symm hne) _
  have ha1 : (Q.fwd σ).at_ ≤ pat.size := ha
  have ha2 : (Q.take (L pat) 94 (Q.fwd σ)).at_ ≤ pat.size := by
    have := (Q.take_on (s := L pat) 94 (by decide) (Q.fwd σ)).len (by rw [HL.out]; exact ha1)
    rw [HL.out] at this
    exact this
  have HLEN : Hid (p.ins.length = 256) := hP.1
  obtain ⟨X, hX⟩ : ∃ X, Q.members (L pat) ((L pat).length + 1) (Q.member (L pat) p.ins (Q.take (L pat) 94 (Q.fwd σ))).1 (Q.member (L pat) p.ins (Q.take (L pat) 94 (Q.fwd σ))).2 = X := ⟨_, rfl⟩
  obtain ⟨b, hb⟩ : ∃ b, (Q.next (L pat) (Q.fwd σ) == 94) = b := ⟨_, rfl⟩
  rw [Q.cls_eq (L pat) p.ins σ X hX, hb]
  have HB : Hid ((Q.next (L pat) (Q.fwd σ) == 94) = b) := hb
  have HX0 : Hid (Q.members (L pat) ((L pat).length + 1) (Q.member (L pat) p.ins (Q.take (L pat) 94 (Q.fwd σ))).1 (Q.member (L pat) p.ins (Q.take (L pat) 94 (Q.fwd σ))).2 = X) := hX
  clear hR hP hb hX
  go_enter Try.func116, Try.ntmps116
  go_wp2_with (first
    | (go_at_call 78; refine (take_any br pat _ v 94 _ HF.out hs ha1).mono ?_; rintro e w1 ⟨rfl, hR1, hK1⟩; rw [HB.out]; have hP1 := HP.out.keep hK1 (by simpa using hne))
    | (go_at_call 123; refine (member_any br bp pat _ v p _ hR1 hP1 hs ha2).mono ?_; rintro e w2 ⟨rfl, hR2, hP2, hK2⟩))
  have hK : Keep [br, bp] w w2 := (((Keep.refl [br] w).setCell (by simp) _).trans hK1).two.trans hK2
  have ha3 := (Q.member_on (s := L pat) p.ins (Q.take (L pat) 94 (Q.fwd σ))).len (by rw [HL.out]; exact ha2)
  rw [HL.out] at ha3
  clear hK1 hK2 hR1 hP1 HF HP c1 f1
  go_loopg [] (pat.size + 1) (fun k wr => ∃ (τ : Q.Rd) (ins : List Bool), τ.at_ ≤ pat.size ∧ (τ.wrong = true ∨ Q.left (L pat) τ < k) ∧ RdT wr br pat τ v ∧ PtT wr bp { p with ins := ins } ∧ Keep [br, bp] w wr ∧
    Hid (Q.members (L pat) k ins τ = X))
  case atStart => exact ⟨_, _, ha3, .inr (by have := Q.left_le (L pat) (Q.member (L pat) p.ins (Q.take (L pat) 94 (Q.fwd σ))).2; rw [HL.out] at this; omega), hR2, hP2, hK, by show _ = _; rw [← HL.out]; exact HX0.out⟩
  case round =>
    clear hR2 hP2 hK ha3
    obtain ⟨τ, ins, hat, hmu, hRt, hPt, hKt, HM⟩ := hrel
    cases hw : τ.wrong with
    | true =>
      have HX : Hid (Q.members (L pat) gk ins τ = (ins, τ)) := Q.members_wrong _ _ _ _ hw
      obtain ⟨_, _, c2, _⟩ := hRt.cells
      rw [hw] at c2
      have hPx := hPt
      cases b with
      | true =>
        go_wp2_with (first
          | fail
          | (go_at_call 117; refine (turn_any bp _ _ hPx).mono ?_; rintro e w4 ⟨rfl, hP4, hK4⟩))
        go_end0
        refine ⟨rfl, ?_, ?_, (hKt).trans hK4.two'⟩
        · rw [← HM.out, HX.out]; exact (hRt).keep hK4 (by simpa using Ne.symm hne)
        · show PtT _ _ { p with ins := Q.turn X.1 }; rw [← HM.out, HX.out]; exact hP4
      | false =>
        go_wp2_with (first
          | fail
          | fail)
        go_end0
        refine ⟨rfl, ?_, ?_, hKt⟩
        · rw [← HM.out, HX.out]; exact hRt
        · show PtT _ _ { p with ins := X.1 }; rw [← HM.out, HX.out]; exact hPx
    | false =>
      obtain ⟨_, _, c2, _⟩ := hRt.cells
      rw [hw] at c2
      rw [hw] at hmu
      simp only [Bool.false_eq_true, false_or] at hmu
      obtain ⟨k, rfl⟩ : ∃ k, gk = k + 1 := ⟨gk - 1, by omega⟩
      by_cases h9 : Q.next (L pat) τ = 93
      · have hq : (Q.next (L pat) τ == 93) = true := by simp [h9]
        have HX : Hid (Q.members (L pat) (k + 1) ins τ = (ins, Q.fwd τ)) := by show _ = _; unfold Q.members; rw [if_neg (by rw [hw]; decide), if_pos h9]
        have HT : Hid (Q.take (L pat) 93 τ = Q.fwd τ) := by show _ = _; unfold Q.take; rw [if_pos h9]
        clear h9
        cases b with
        | true =>
          go_wp2_with (first
            | (go_at_call 78; refine (take_any br pat _ v 93 _ hRt hs hat).mono ?_; rintro e w3 ⟨rfl, hR3, hK3⟩; rw [HT.out] at hR3; rw [hq]; have hPx := hPt.keep hK3 (by simpa using hne))
            | (go_at_call 117; refine (turn_any bp _ _ hPx).mono ?_; rintro e w4 ⟨rfl, hP4, hK4⟩))
          go_end0
          refine ⟨rfl, ?_, ?_, ((hKt.trans hK3.two)).trans hK4.two'⟩
          · rw [← HM.out, HX.out]; exact (hR3).keep hK4 (by simpa using Ne.symm hne)
          · show PtT _ _ { p with ins := Q.turn X.1 }; rw [← HM.out, HX.out]; exact hP4
        | false =>
          go_wp2_with (first
            | (go_at_call 78; refine (take_any br pat _ v 93 _ hRt hs hat).mono ?_; rintro e w3 ⟨rfl, hR3, hK3⟩; rw [HT.out] at hR3; rw [hq]; have hPx := hPt.keep hK3 (by simpa using hne))
            | fail)
          go_end0
          refine ⟨rfl, ?_, ?_, (hKt.trans hK3.two)⟩
          · rw [← HM.out, HX.out]; exact hR3
          · show PtT _ _ { p with ins := X.1 }; rw [← HM.out, HX.out]; exact hPx
      · have hq : (Q.next (L pat) τ == 93) = false := by simp [h9]
        have HX : Hid (Q.members (L pat) (k + 1) ins τ = Q.members (L pat) k (Q.member (L pat) ins τ).1 (Q.member (L pat) ins τ).2) := by
          show _ = _
          conv => lhs; unfold Q.members
          rw [if_neg (by rw [hw]; decide), if_neg h9]
        have HT : Hid (Q.take (L pat) 93 τ = τ) := by show _ = _; unfold Q.take; rw [if_neg h9]
        have HA : Hid _ := Q.member_adv (s := L pat) ins τ
        have ho := (Q.member_on (s := L pat) ins τ).len (by rw [HL.out]; exact hat)
        rw [HL.out] at ho
        clear h9
        go_wp2_with (first
          | (go_at_call 78; refine (take_any br pat _ v 93 _ hRt hs hat).mono ?_; rintro e w3 ⟨rfl, hR3, hK3⟩; rw [HT.out] at hR3; rw [hq]; have hP3 := hPt.keep hK3 (by simpa using hne))
          | (go_at_call 123; refine (member_any br bp pat _ v _ _ hR3 hP3 hs hat).mono ?_; rintro e w4 ⟨rfl, hR4, hP4, hK4⟩))
        go_roundg k
        case measure => omega
        case rel =>
          refine ⟨_, _, ho, ?_, hR4, hP4, (hKt.trans hK3.two).trans hK4, ?_⟩
          · rcases HA.out with h | h
            · exact .inl h
            · exact .inr (by omega)
          · show _ = _
            rw [← HM.out, HX.out]
end Go.Proofs.Ytjmkkkfloalliab
