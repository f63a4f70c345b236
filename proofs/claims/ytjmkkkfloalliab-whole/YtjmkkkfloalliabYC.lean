import Derived.Test.YtjmkkkfloalliabL4
import Derived.Test.YtjmkkkfloalliabW3
import Derived.Test.YtjmkkkfloalliabYA
import Derived.Deep.Cut
-- the program's reader in memory; its leaves
namespace Go.Proofs.Ytjmkkkfloalliab
set_option linter.unusedVariables false
open Go.RowKit

abbrev L (s : ByteArray) : List UInt8 := s.data.toList

/-- the reader in memory; v: the parts -/
def RdT (w : World) (br : Nat) (pat : ByteArray) (σ : Q.Rd) (v : Value) : Prop :=
  BlkT w br 87 [.string pat, .int .i64 (σ.at_ : Int), .bool σ.wrong, .bool σ.back, .int .i64 (σ.depth : Int), .int .i64 (σ.deepest : Int), v]
theorem RdT.cells {w : World} {br : Nat} {pat : ByteArray} {σ : Q.Rd} {v : Value} (h : RdT w br pat σ v) :
    w.cell? ⟨br, 0, none⟩ = some (.string pat) ∧ w.cell? ⟨br, 1, none⟩ = some (.int .i64 (σ.at_ : Int)) ∧ w.cell? ⟨br, 2, none⟩ = some (.bool σ.wrong) ∧ w.cell? ⟨br, 3, none⟩ = some (.bool σ.back) ∧
    w.cell? ⟨br, 4, none⟩ = some (.int .i64 (σ.depth : Int)) ∧ w.cell? ⟨br, 5, none⟩ = some (.int .i64 (σ.deepest : Int)) ∧ w.cell? ⟨br, 6, none⟩ = some v :=
  ⟨h.cell 0, h.cell 1, h.cell 2, h.cell 3, h.cell 4, h.cell 5, h.cell 6⟩
theorem RdT.keep {S : List Nat} {w w' : World} {br : Nat} {pat : ByteArray} {σ : Q.Rd} {v : Value} (h : RdT w br pat σ v) (k : Keep S w w') (hb : br ∉ S) : RdT w' br pat σ v := BlkT.keep h k hb
theorem RdT.drewN {w : World} {br : Nat} {pat : ByteArray} {σ : Q.Rd} {v : Value} (h : RdT w br pat σ v) (n : Nat) : RdT (w.drewN n) br pat σ v := h
theorem RdT.fwd {w : World} {br : Nat} {pat : ByteArray} {σ : Q.Rd} {v : Value} (h : RdT w br pat σ v) (k : Nat) (hk : k = σ.at_ + 1) : RdT (w.setCell ⟨br, 1, none⟩ (.int .i64 (k : Int))) br pat (Q.fwd σ) v := by
  subst hk
  exact BlkT.set h 1 _
theorem RdT.wrong {w : World} {br : Nat} {pat : ByteArray} {σ : Q.Rd} {v : Value} (h : RdT w br pat σ v) : RdT (w.setCell ⟨br, 2, none⟩ (.bool true)) br pat { σ with wrong := true } v := BlkT.set h 2 _
theorem RdT.back {w : World} {br : Nat} {pat : ByteArray} {σ : Q.Rd} {v : Value} (h : RdT w br pat σ v) : RdT (w.setCell ⟨br, 3, none⟩ (.bool true)) br pat { σ with back := true } v := BlkT.set h 3 _

set_option maxRecDepth 10000 in
set_option maxHeartbeats 800000 in
theorem next_any (br : Nat) (pat : ByteArray) (σ : Q.Rd) (v : Value) (w : World) (hR : RdT w br pat σ v) (hs : pat.size ≤ 1000) (ha : σ.at_ ≤ pat.size) :
    Calls Try.prog 91 #[.pointer (some ⟨br, 0, none⟩)] w fun e w' => e = .returned (.int .i64 (Q.next (L pat) σ)) ∧ ∃ q, w' = w.drewN q := by
  have HL : Hid ((L pat).length = pat.size) := size_len pat
  obtain ⟨c0, c1, c2, c3, c4, c5, c6⟩ := hR.cells
  clear c3 c4 c5 c6
  cases hw : σ.wrong with
  | true =>
    have HE : Hid (Q.next (L pat) σ = -1) := by show _ = _; unfold Q.next; rw [if_pos (.inl hw)]
    rw [HE.out]
    rw [hw] at c2
    clear hR hw
    go_enter Try.func91, Try.ntmps91
    go_wp2
    go_quiet (fail)
    go_wp2
    go_ret
    exact ⟨rfl, _, rfl⟩
  | false =>
    rw [hw] at c2
    by_cases hlt : σ.at_ < pat.size
    · have hd : decide ((pat.size : Int) ≤ (σ.at_ : Int)) = false := by simp; omega
      have HE : Hid (Q.next (L pat) σ = ((pat[σ.at_]).toNat : Int)) := by
        show _ = _
        unfold Q.next
        rw [if_neg (by rw [hw, HL.out]; simp; omega), ← byte_at pat _ hlt]
      have hb := getD_lt (L pat) σ.at_
      rw [← byte_at pat _ hlt] at hb
      rw [HE.out]
      clear hR hw
      go_enter Try.func91, Try.ntmps91
      go_wp2
      go_quiet (fail)
      go_wp2
      go_quiet (fail)
      go_wp2
      go_ret
      exact ⟨rfl, _, by first | rfl | (rw [World.drewN_drewN])⟩
    · have hd : decide ((pat.size : Int) ≤ (σ.at_ : Int)) = true := by simp; omega
      have HE : Hid (Q.next (L pat) σ = -1) := by show _ = _; unfold Q.next; rw [if_pos (.inr (by rw [HL.out]; omega))]
      rw [HE.out]
      clear hR hw
      go_enter Try.func91, Try.ntmps91
      go_wp2
      go_quiet (fail)
      go_wp2
      go_ret
      exact ⟨rfl, _, rfl⟩

set_option maxRecDepth 10000 in
set_option maxHeartbeats 800000 in
theorem take_any (br : Nat) (pat : ByteArray) (σ : Q.Rd) (v : Value) (c : Int) (w : World) (hR : RdT w br pat σ v) (hs : pat.size ≤ 1000) (ha : σ.at_ ≤ pat.size) :
    Calls Try.prog 78 #[.pointer (some ⟨br, 0, none⟩), .int .i64 c] w fun e w' => e = .returned (.bool (Q.next (L pat) σ == c)) ∧ RdT w' br pat (Q.take (L pat) c σ) v ∧ Keep [br] w w' := by
  obtain ⟨c0, c1, c2, c3, c4, c5, c6⟩ := hR.cells
  have f1 := BlkT.frozen hR 1
  clear c0 c2 c3 c4 c5 c6
  have HR : Hid (RdT w br pat σ v) := hR
  have HN := fun w => next_any br pat σ v w
  clear hR
  by_cases h : Q.next (L pat) σ = c
  · have hq : (Q.next (L pat) σ == c) = true := by simp [h]
    have HE : Hid (Q.take (L pat) c σ = Q.fwd σ) := by show _ = _; unfold Q.take; rw [if_pos h]
    rw [HE.out, hq]
    go_enter Try.func78, Try.ntmps78
    go_wp2_with (go_at_call 91; refine (next_any br pat σ v _ HR.out hs ha).mono ?_; rintro e w1 ⟨rfl, q, rfl⟩)
    go_ret
    exact ⟨rfl, RdT.fwd (HR.out.drewN q) (σ.at_ + 1) rfl, ((Keep.refl [br] w).drewN q).setCell (by simp) _⟩
  · have hq : (Q.next (L pat) σ == c) = false := by simp [h]
    have HE : Hid (Q.take (L pat) c σ = σ) := by show _ = _; unfold Q.take; rw [if_neg h]
    rw [HE.out, hq]
    clear h
    go_enter Try.func78, Try.ntmps78
    go_wp2_with (go_at_call 91; refine (next_any br pat σ v _ HR.out hs ha).mono ?_; rintro e w1 ⟨rfl, q, rfl⟩)
    go_ret
    exact ⟨rfl, HR.out.drewN q, (Keep.refl [br] w).drewN q⟩

set_option maxRecDepth 10000 in
set_option maxHeartbeats 800000 in
theorem need_any (br : Nat) (pat : ByteArray) (σ : Q.Rd) (v : Value) (c : Int) (w : World) (hR : RdT w br pat σ v) (hs : pat.size ≤ 1000) (ha : σ.at_ ≤ pat.size) :
    Calls Try.prog 121 #[.pointer (some ⟨br, 0, none⟩), .int .i64 c] w fun e w' => e = .returned (.tuple #[]) ∧ RdT w' br pat (Q.need (L pat) c σ) v ∧ Keep [br] w w' := by
  have HR : Hid (RdT w br pat σ v) := hR
  clear hR
  by_cases h : Q.next (L pat) σ = c
  · have hq : (Q.next (L pat) σ == c) = true := by simp [h]
    have HE : Hid (Q.need (L pat) c σ = Q.take (L pat) c σ) := by show _ = _; unfold Q.need Q.take; rw [if_pos h, if_pos h]
    rw [HE.out]
    clear h
    go_enter Try.func121, Try.ntmps121
    go_wp2_with (go_at_call 78; refine (take_any br pat σ v c _ HR.out hs ha).mono ?_; rintro e w1 ⟨rfl, hR1, hK1⟩)
    go_end0
    exact ⟨rfl, hR1, hK1⟩
  · have hq : (Q.next (L pat) σ == c) = false := by simp [h]
    have HE : Hid (Q.need (L pat) c σ = { σ with wrong := true }) := by show _ = _; unfold Q.need; rw [if_neg h]
    have HT : Hid (Q.take (L pat) c σ = σ) := by show _ = _; unfold Q.take; rw [if_neg h]
    rw [HE.out]
    clear h
    go_enter Try.func121, Try.ntmps121
    go_wp2_with (go_at_call 78; refine (take_any br pat σ v c _ HR.out hs ha).mono ?_; rintro e w1 ⟨rfl, hR1, hK1⟩; rw [HT.out] at hR1; have f2 := BlkT.frozen hR1 2; obtain ⟨_, _, c2, _⟩ := hR1.cells)
    go_end0
    exact ⟨rfl, hR1.wrong, hK1.setCell (by simp) _⟩

set_option maxRecDepth 10000 in
set_option maxHeartbeats 800000 in
theorem anyByte_any (br : Nat) (pat : ByteArray) (σ : Q.Rd) (v : Value) (w : World) (hR : RdT w br pat σ v) (hs : pat.size ≤ 1000) (ha : σ.at_ ≤ pat.size) :
    Calls Try.prog 118 #[.pointer (some ⟨br, 0, none⟩)] w fun e w' => e = .returned (.int .i64 ((Q.anyByte (L pat) σ).1 : Nat)) ∧ RdT w' br pat (Q.anyByte (L pat) σ).2 v ∧ Keep [br] w w' := by
  obtain ⟨c0, c1, c2, c3, c4, c5, c6⟩ := hR.cells
  have f1 := BlkT.frozen hR 1
  have f2 := BlkT.frozen hR 2
  clear c0 c3 c4 c5 c6
  have HR : Hid (RdT w br pat σ v) := hR
  clear hR
  have hr := Q.next_range (s := L pat) σ
  by_cases h : Q.next (L pat) σ = -1
  · have HE : Hid (Q.anyByte (L pat) σ = (0, { σ with wrong := true })) := by show _ = _; unfold Q.anyByte; rw [if_pos h]
    rw [HE.out]
    go_enter Try.func118, Try.ntmps118
    go_wp2_with (go_at_call 91; refine (next_any br pat σ v _ HR.out hs ha).mono ?_; rintro e w1 ⟨rfl, q, rfl⟩)
    go_ret
    exact ⟨rfl, RdT.wrong (HR.out.drewN q), ((Keep.refl [br] w).drewN q).setCell (by simp) _⟩
  · have hq : (Q.next (L pat) σ == -1) = false := by simp [h]
    have HE : Hid (Q.anyByte (L pat) σ = ((Q.next (L pat) σ).toNat, Q.fwd σ)) := by show _ = _; unfold Q.anyByte; rw [if_neg h]
    have HN : Hid (((Q.next (L pat) σ).toNat : Int) = Q.next (L pat) σ) := by show _ = _; omega
    rw [HE.out]
    clear h
    go_enter Try.func118, Try.ntmps118
    go_wp2_with (go_at_call 91; refine (next_any br pat σ v _ HR.out hs ha).mono ?_; rintro e w1 ⟨rfl, q, rfl⟩)
    go_ret
    exact ⟨ret_int HN.out.symm, RdT.fwd (HR.out.drewN q) (σ.at_ + 1) rfl, ((Keep.refl [br] w).drewN q).setCell (by simp) _⟩

set_option maxRecDepth 10000 in
set_option maxHeartbeats 800000 in
theorem isDigit_any (c : Int) (w : World) :
    Calls Try.prog 120 #[.int .i64 c] w fun e w' => e = .returned (.bool (Q.isDigit c)) ∧ w' = w := by
  by_cases h1 : 48 ≤ c
  · have d1 : decide (48 ≤ c) = true := by simp [h1]
    have HE : Hid (Q.isDigit c = decide (c ≤ 57)) := by show _ = _; unfold Q.isDigit; rw [d1]; rfl
    rw [HE.out]
    go_enter Try.func120, Try.ntmps120
    go_wp2
    go_ret
    exact ⟨rfl, rfl⟩
  · have d1 : decide (48 ≤ c) = false := by simp; omega
    have HE : Hid (Q.isDigit c = false) := by show _ = _; unfold Q.isDigit; rw [d1]; rfl
    rw [HE.out]
    go_enter Try.func120, Try.ntmps120
    go_wp2
    go_ret
    exact ⟨rfl, rfl⟩
end Go.Proofs.Ytjmkkkfloalliab
