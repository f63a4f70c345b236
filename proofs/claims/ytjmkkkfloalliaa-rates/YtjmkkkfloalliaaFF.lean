import Derived.Test.YtjmkkkfloalliaaFG
import Derived.Test.YtjmkkkfloalliaaFL
-- rises; Count, Exists of an index of a text
namespace Go.Proofs.Ytjmkkkfloalliaa
set_option linter.unusedVariables false
open Go.RowKit

set_option maxRecDepth 100000 in
set_option maxHeartbeats 800000 in
theorem rises_yes (va : Value) (l : List Nat) (n : Nat) (w : World) (hl : SlI w va l) (h0 : l.length ≤ 1000) (hn : n ≤ 1000) (hlt : ∀ i, i < l.length → l.getD i 0 < n) (hr : ∀ i, i + 1 < l.length → l.getD i 0 < l.getD (i + 1) 0) :
    Calls Try.prog 49 #[va, .int .i64 n] w fun e w' => e = .returned (.bool true) ∧ Below w.heap.size w w' := by
  by_cases hz : l.length = 0
  · obtain ⟨p, cap, rfl⟩ := hl.form
    obtain rfl := List.length_eq_zero_iff.1 hz
    clear hlt hr hl
    go_enter Try.func49, Try.ntmps49
    go_wp2
    go_loopw [5] (fun i wr => i = .int .i64 0 ∧ wr = w) (fun i _ => 0)
    case atStart => exact ⟨rfl, rfl⟩
    case round =>
      obtain ⟨rfl, rfl⟩ := hrel
      go_wp2
      go_ret
      exact ⟨rfl, Below.refl _ _⟩
  · obtain ⟨ba, cap, rfl, ca⟩ := hl.at_ (by omega)
    have HCA := hid ca
    have HLT := hid hlt
    have HR := hid hr
    clear ca hl hlt hr hz
    go_enter Try.func49, Try.ntmps49
    go_wp2
    go_loopw [5] (fun i wr => ∃ k : Nat, k ≤ l.length ∧ i = .int .i64 k ∧ ∃ q, wr = w.drewN q) (fun i _ => l.length - (intOf i).toNat)
    case atStart => exact ⟨0, by omega, rfl, 0, rfl⟩
    case round =>
      obtain ⟨k, hk, rfl, q, rfl⟩ := hrel
      rcases Nat.lt_or_ge k l.length with hlt | hge
      · have c1 : w.cell? ⟨ba, k, none⟩ = some (.int .i64 ((l.getD k 0 : Nat) : Int)) := HCA.out k hlt
        have g1 := HLT.out k hlt
        have i0 : (0 : Int) ≤ (k : Int) := by omega
        have i1 : (k : Int) < (l.length : Int) := by omega
        have t1 : decide (((l.getD k 0 : Nat) : Int) < 0) = false := by simp
        have t2 : decide (((l.getD k 0 : Nat) : Int) ≥ (n : Int)) = false := decide_eq_false (by omega)
        have t2' : decide ((n : Int) ≤ ((l.getD k 0 : Nat) : Int)) = false := decide_eq_false (by omega)
        rcases Nat.eq_zero_or_pos k with rfl | hpos
        · generalize ((l.getD 0 0 : Nat) : Int) = x at *
          go_wp2
          go_quiet (fail)
          go_wp2
          go_roundw
          case rel => exact ⟨1, by omega, by go_num, _, rfl⟩
          case measure => simp [intOf]; omega
        · obtain ⟨j, rfl⟩ : ∃ j, k = j + 1 := ⟨k - 1, by omega⟩
          have c2 : w.cell? ⟨ba, j, none⟩ = some (.int .i64 ((l.getD j 0 : Nat) : Int)) := HCA.out j (by omega)
          have g2 := HR.out j hlt
          have t3 : decide (((l.getD (j + 1) 0 : Nat) : Int) ≤ ((l.getD j 0 : Nat) : Int)) = false := decide_eq_false (by omega)
          have t4 : decide ((((j + 1 : Nat)) : Int) > 0) = true := decide_eq_true (by omega)
          have t4' : decide ((0 : Int) < ((j + 1 : Nat) : Int)) = true := decide_eq_true (by omega)
          have ee : (((j + 1 : Nat) : Int) - 1) = (j : Int) := by omega
          have j0 : (0 : Int) ≤ (j : Int) := by omega
          have j1 : (j : Int) < (l.length : Int) := by omega
          generalize ((l.getD (j + 1) 0 : Nat) : Int) = x at *
          generalize ((l.getD j 0 : Nat) : Int) = y at *
          go_wp2
          go_quiet (fail)
          go_wp2
          go_roundw
          case rel => exact ⟨j + 2, by omega, by go_num, _, rfl⟩
          case measure => simp [intOf]; omega
      · have hkn : k = l.length := by omega
        subst hkn
        go_wp2
        go_ret
        exact ⟨rfl, below_drewN (Below.refl _ _) _⟩
end Go.Proofs.Ytjmkkkfloalliaa
