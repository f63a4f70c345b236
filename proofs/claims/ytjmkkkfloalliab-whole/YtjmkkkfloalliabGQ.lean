import Derived.Test.YtjmkkkfloalliabGJ
import Derived.Test.YtjmkkkfloalliabGP
-- quoted
namespace Go.Proofs.Ytjmkkkfloalliab
set_option linter.unusedVariables false
open Go.RowKit

set_option maxRecDepth 100000 in
set_option maxHeartbeats 1600000 in
theorem quoted_any (s : ByteArray) (w : World) (hs : s.size ≤ 100) :
    Calls Try.prog 26 #[.string s] w fun e w' => ∃ p : ByteArray, e = .returned (.string p) ∧ Hid (L p = Q.quo (L s)) ∧ p.size ≤ 200 ∧ Below w.heap.size w w' := by
  have HLS : Hid ((L s).length = s.size) := L_len s
  go_enter Try.func26, Try.ntmps26
  go_wp2_with fail
  go_loopw [3, 4] (fun v i wr => ∃ (k : Nat) (o : ByteArray), k ≤ s.size ∧ i = .int .i64 k ∧ v = .string o ∧ Hid (L o = Q.quo ((L s).take k)) ∧ o.size ≤ 2 * k ∧ wr = w) (fun _ i _ => s.size - (intOf i).toNat)
  case atStart => exact ⟨0, ⟨#[]⟩, by omega, rfl, rfl, rfl, by decide, rfl⟩
  case round =>
    obtain ⟨k, o, hk, rfl, rfl, HO, ho, rfl⟩ := hrel
    rcases Nat.lt_or_ge k s.size with hlt | hge
    · have k0 : (0 : Int) ≤ (k : Int) := by omega
      have k1 : (k : Int) < (s.size : Int) := by omega
      obtain ⟨tq, HTQ, hzq, hsl⟩ : ∃ tq : ByteArray, Hid (L tq = [(L s).getD k 0]) ∧ tq.size = 1 ∧ ∀ W, Sem.run Try.prog (Instr.slice 9 (.string s) (some (.int .i64 (k : Int))) (some (.int .i64 ((k : Int) + 1))) none) W = .ok (.string tq) W := by
        refine ⟨s.extract k (k + 1), ?_, ?_, ?_⟩
        · show (s.extract k (k + 1)).data.toList = [s.data.toList.getD k 0]
          have hl : k < s.data.toList.length := by have := HLS.out; unfold L at this; rw [this]; exact hlt
          rw [Lib.extract_data, show k + 1 - k = 1 from by omega, List.drop_eq_getElem_cons hl, List.take_succ_cons, List.take_zero, List.getD_eq_getElem?_getD, List.getElem?_eq_getElem hl]
          rfl
        · rw [ByteArray.size_extract]; omega
        · intro W
          have := run_slice_string (P := Try.prog) W 9 s .i64 .i64 (k : Int) ((k : Int) + 1) Try.underlying9 (by omega) (by omega) (by omega)
          rw [show ((k : Int) + 1).toNat = k + 1 from by omega, Int.toNat_natCast] at this
          exact this
      have HO2 : Hid (L (o ++ ⟨#[92]⟩ ++ tq) = Q.quo ((L s).take (k + 1))) := by
        show _ = _
        have hl : k < (L s).length := by rw [HLS.out]; exact hlt
        rw [L_app, L_app, HO.out, HTQ.out, List.take_succ_eq_append_getElem hl, Q.quo_app, List.append_assoc, List.getD_eq_getElem?_getD, List.getElem?_eq_getElem hl]
        rfl
      have hz2 : (o ++ ⟨#[92]⟩ ++ tq).size ≤ 2 * (k + 1) := by
        rw [ByteArray.size_append, ByteArray.size_append, hzq]
        show o.size + 1 + 1 ≤ _
        omega
      clear HO HTQ
      go_wp2
      go_roundw
      case rel => exact ⟨k + 1, _, by omega, by go_num, rfl, HO2, hz2, trivial⟩
      case measure => simp [intOf]; omega
    · obtain rfl : k = s.size := by omega
      have HO2 : Hid (L o = Q.quo (L s)) := by
        show _ = _
        rw [HO.out, List.take_of_length_le (by rw [HLS.out]; exact Nat.le_refl _)]
      go_wp2
      go_ret
      exact ⟨o, rfl, HO2, by omega, Below.refl _ _⟩
end Go.Proofs.Ytjmkkkfloalliab
