import Derived.Test.YtjmkkkfloalliabKA
import Derived.Test.YtjmkkkfloalliabGJ
-- lot
namespace Go.Proofs.Ytjmkkkfloalliab
set_option linter.unusedVariables false
open Go.RowKit

def cellsK (x : Kn) : List Value := [.string x.1, .string x.2.1, .string x.2.2.1, .int .i64 (x.2.2.2.1 : Int), .int .i64 (x.2.2.2.2 : Int)]
theorem flat_at : ∀ (l : List Kn) (b j : Nat), j < 5 → b < l.length → ((l.map cellsK).flatten)[b * 5 + j]? = (cellsK (l.getD b kn0))[j]?
  | [], b, j, _, hb => by simp at hb
  | x :: l, 0, j, hj, _ => by
    rw [List.map_cons, List.flatten_cons, List.getElem?_append_left (by show 0 * 5 + j < 5; omega)]
    simp
  | x :: l, b + 1, j, hj, hb => by
    rw [List.map_cons, List.flatten_cons, List.getElem?_append_right (by show 5 ≤ (b + 1) * 5 + j; omega), show (b + 1) * 5 + j - (cellsK x).length = b * 5 + j by show (b + 1) * 5 + j - 5 = b * 5 + j; omega]
    have := flat_at l b j hj (by simpa using hb)
    rw [this]
    simp

theorem wp_run {P : Program} {o : Oper} {a : Act} {w : World} {K : Act → World → Prop} {Q' : Exit → Act → World → Prop} (r : Result Next) (h : (execOp a.eval o).run P w = r) (g : o.upon P a K Q' r) : o.wp P a w K Q' := by
  unfold Oper.wp
  rw [h]
  exact g
set_option maxRecDepth 100000 in
set_option maxHeartbeats 3200000 in
theorem lot_any (w : World) :
    Calls Try.prog 27 #[] w fun e w' => ∃ g, e = .returned (.slice (some ⟨g, 0, none⟩) 35 35) ∧ w.heap.size ≤ g ∧ g < w'.heap.size ∧ (∀ b j, b < 35 → j < 5 → w'.cell? ⟨g, b * 5 + j, none⟩ = (cellsK (knAt b))[j]?) ∧ Below w.heap.size w w' := by
  go_enter Try.func27, Try.ntmps27
  go_wp2_with fail
  refine wp_run (.ok (.value (.slice (some ⟨w.heap.size, 0, none⟩) 35 35)) (w.alloc (.cells (kn.map cellsK).flatten.toArray 53))) ?_ ?_
  · kernel_rfl
  · generalize hW : w.alloc (.cells (kn.map cellsK).flatten.toArray 53) = W at *
    have HW := hid hW
    clear hW
    go_wp2
    go_ret
    refine ⟨w.heap.size, rfl, Nat.le_refl _, ?_, fun b j hb hj => ?_, ?_⟩
    · rw [← HW.out]; simp
    · rw [← HW.out]
      have h : (w.alloc (.cells (kn.map cellsK).flatten.toArray 53)).cell? ⟨w.heap.size, b * 5 + j, none⟩ = ((kn.map cellsK).flatten)[b * 5 + j]? := (BlkT.new w (kn.map cellsK).flatten.toArray 53).cell (b * 5 + j)
      rw [flat_at kn b j hj hb] at h
      exact h
    · rw [← HW.out]
      exact (Below.refl _ w).alloc (Nat.le_refl _) _
end Go.Proofs.Ytjmkkkfloalliab
