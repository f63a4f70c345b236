import Derived.Test.YtjmkkkfloalliabYC
import Derived.Deep.RegionHeld3
-- numbers, members, classes
namespace Go.Proofs.Ytjmkkkfloalliab
set_option linter.unusedVariables false
open Go.RowKit

/-- the cells of a part -/
def partCells (p : Q.Part) : List Value :=
  .int .i64 (p.kind : Int) :: (p.ins.map Value.bool ++ [.int .i64 (p.left : Int), .int .i64 (p.right : Int), .int .i64 (p.low : Int), .int .i64 (p.high : Int), .bool p.endless, .bool p.some, .bool p.empty, .int .i64 (p.places : Int)])
theorem partCells_len {p : Q.Part} (h : p.ins.length = 256) : (partCells p).length = 265 := by
  simp [partCells, h]
/-- a part in memory -/
def PtT (w : World) (bp : Nat) (p : Q.Part) : Prop := p.ins.length = 256 ∧ BlkT w bp 90 (partCells p)
theorem pc_tail {p : Q.Part} (h : p.ins.length = 256) (i : Nat) : (partCells p)[257 + i]? = ([.int .i64 (p.left : Int), .int .i64 (p.right : Int), .int .i64 (p.low : Int), .int .i64 (p.high : Int), .bool p.endless, .bool p.some, .bool p.empty, .int .i64 (p.places : Int)] : List Value)[i]? := by
  unfold partCells
  rw [show 257 + i = (256 + i) + 1 by omega, List.getElem?_cons_succ, List.getElem?_append_right (by rw [List.length_map, h]; omega)]
  rw [List.length_map, h, show 256 + i - 256 = i by omega]
theorem pc_ins {p : Q.Part} (h : p.ins.length = 256) (i : Nat) (hi : i < 256) : (partCells p)[1 + i]? = some (.bool (p.ins.getD i false)) := by
  unfold partCells
  rw [show 1 + i = i + 1 by omega, List.getElem?_cons_succ, List.getElem?_append_left (by rw [List.length_map, h]; omega), List.getElem?_map]
  rw [List.getD_eq_getElem?_getD, List.getElem?_eq_getElem (by omega)]; rfl
theorem set_tail {p : Q.Part} (h : p.ins.length = 256) (i : Nat) (v : Value) : (partCells p).set (257 + i) v = .int .i64 (p.kind : Int) :: (p.ins.map Value.bool ++ ([.int .i64 (p.left : Int), .int .i64 (p.right : Int), .int .i64 (p.low : Int), .int .i64 (p.high : Int), .bool p.endless, .bool p.some, .bool p.empty, .int .i64 (p.places : Int)] : List Value).set i v) := by
  unfold partCells
  rw [show 257 + i = (256 + i) + 1 by omega, List.set_cons_succ, List.set_append_right (256 + i) v (by rw [List.length_map, h]; omega), List.length_map, h, show 256 + i - 256 = i by omega]
theorem PtT.cell0 {w : World} {bp : Nat} {p : Q.Part} (h : PtT w bp p) : w.cell? ⟨bp, 0, none⟩ = some (.int .i64 (p.kind : Int)) := h.2.cell 0
theorem PtT.cellI {w : World} {bp : Nat} {p : Q.Part} (h : PtT w bp p) (i : Nat) (hi : i < 256) : w.cell? ⟨bp, 1 + i, none⟩ = some (.bool (p.ins.getD i false)) := (h.2.cell (1 + i)).trans (pc_ins h.1 i hi)
theorem PtT.cells {w : World} {bp : Nat} {p : Q.Part} (h : PtT w bp p) :
    w.cell? ⟨bp, 257, none⟩ = some (.int .i64 (p.left : Int)) ∧ w.cell? ⟨bp, 258, none⟩ = some (.int .i64 (p.right : Int)) ∧ w.cell? ⟨bp, 259, none⟩ = some (.int .i64 (p.low : Int)) ∧ w.cell? ⟨bp, 260, none⟩ = some (.int .i64 (p.high : Int)) ∧
    w.cell? ⟨bp, 261, none⟩ = some (.bool p.endless) ∧ w.cell? ⟨bp, 262, none⟩ = some (.bool p.some) ∧ w.cell? ⟨bp, 263, none⟩ = some (.bool p.empty) ∧ w.cell? ⟨bp, 264, none⟩ = some (.int .i64 (p.places : Int)) :=
  ⟨(h.2.cell 257).trans (pc_tail h.1 0), (h.2.cell 258).trans (pc_tail h.1 1), (h.2.cell 259).trans (pc_tail h.1 2), (h.2.cell 260).trans (pc_tail h.1 3), (h.2.cell 261).trans (pc_tail h.1 4), (h.2.cell 262).trans (pc_tail h.1 5), (h.2.cell 263).trans (pc_tail h.1 6), (h.2.cell 264).trans (pc_tail h.1 7)⟩
theorem PtT.frozen {w : World} {bp : Nat} {p : Q.Part} (h : PtT w bp p) (i : Nat) : w.frozen? ⟨bp, i, none⟩ = false := h.2.frozen i
theorem PtT.keep {S : List Nat} {w w' : World} {bp : Nat} {p : Q.Part} (h : PtT w bp p) (k : Keep S w w') (hb : bp ∉ S) : PtT w' bp p := ⟨h.1, BlkT.keep h.2 k hb⟩
theorem PtT.drewN {w : World} {bp : Nat} {p : Q.Part} (h : PtT w bp p) (n : Nat) : PtT (w.drewN n) bp p := h
theorem PtT.other {w : World} {bp : Nat} {p : Q.Part} (h : PtT w bp p) {a : Addr} (hne : a.block ≠ bp) (v : Value) : PtT (w.setCell a v) bp p := ⟨h.1, BlkT.other h.2 hne v⟩
theorem RdT.other {w : World} {br : Nat} {pat : ByteArray} {σ : Q.Rd} {v : Value} (h : RdT w br pat σ v) {a : Addr} (hne : a.block ≠ br) (x : Value) : RdT (w.setCell a x) br pat σ v := BlkT.other h hne x
theorem PtT.low {w : World} {bp : Nat} {p : Q.Part} (h : PtT w bp p) (n : Nat) : PtT (w.setCell ⟨bp, 259, none⟩ (.int .i64 (n : Int))) bp { p with low := n } :=
  ⟨h.1, by have := BlkT.set h.2 259 (.int .i64 (n : Int)); rw [set_tail h.1 2] at this; exact this⟩
theorem PtT.high {w : World} {bp : Nat} {p : Q.Part} (h : PtT w bp p) (n : Nat) : PtT (w.setCell ⟨bp, 260, none⟩ (.int .i64 (n : Int))) bp { p with high := n } :=
  ⟨h.1, by have := BlkT.set h.2 260 (.int .i64 (n : Int)); rw [set_tail h.1 3] at this; exact this⟩
theorem PtT.endless {w : World} {bp : Nat} {p : Q.Part} (h : PtT w bp p) (b : Bool) : PtT (w.setCell ⟨bp, 261, none⟩ (.bool b)) bp { p with endless := b } :=
  ⟨h.1, by have := BlkT.set h.2 261 (.bool b); rw [set_tail h.1 4] at this; exact this⟩
theorem PtT.some {w : World} {bp : Nat} {p : Q.Part} (h : PtT w bp p) (b : Bool) : PtT (w.setCell ⟨bp, 262, none⟩ (.bool b)) bp { p with some := b } :=
  ⟨h.1, by have := BlkT.set h.2 262 (.bool b); rw [set_tail h.1 5] at this; exact this⟩
theorem PtT.empty {w : World} {bp : Nat} {p : Q.Part} (h : PtT w bp p) (b : Bool) : PtT (w.setCell ⟨bp, 263, none⟩ (.bool b)) bp { p with empty := b } :=
  ⟨h.1, by have := BlkT.set h.2 263 (.bool b); rw [set_tail h.1 6] at this; exact this⟩
theorem PtT.places {w : World} {bp : Nat} {p : Q.Part} (h : PtT w bp p) (n : Nat) : PtT (w.setCell ⟨bp, 264, none⟩ (.int .i64 (n : Int))) bp { p with places := n } :=
  ⟨h.1, by have := BlkT.set h.2 264 (.int .i64 (n : Int)); rw [set_tail h.1 7] at this; exact this⟩
theorem PtT.ins {w : World} {bp : Nat} {p : Q.Part} (h : PtT w bp p) (i : Nat) (hi : i < 256) (b : Bool) : PtT (w.setCell ⟨bp, 1 + i, none⟩ (.bool b)) bp { p with ins := p.ins.set i b } := by
  refine ⟨by simp [h.1], ?_⟩
  have := BlkT.set h.2 (1 + i) (.bool b)
  have e : (partCells p).set (1 + i) (.bool b) = partCells { p with ins := p.ins.set i b } := by
    unfold partCells
    rw [show 1 + i = i + 1 by omega, List.set_cons_succ, List.set_append_left i _ (by rw [List.length_map, h.1]; exact hi)]
    simp [List.map_set]
  rw [e] at this
  exact this
theorem PtT.ne {w : World} {bp br : Nat} {p : Q.Part} {pat : ByteArray} {σ : Q.Rd} {v : Value} (h : PtT w bp p) (hR : RdT w br pat σ v) : bp ≠ br := BlkT.ne h.2 hR (by decide)

set_option maxRecDepth 10000 in
set_option maxHeartbeats 800000 in
theorem number_any (br : Nat) (pat : ByteArray) (σ : Q.Rd) (v : Value) (w : World) (hR : RdT w br pat σ v) (hs : pat.size ≤ 1000) (ha : σ.at_ ≤ pat.size) :
    Calls Try.prog 119 #[.pointer (some ⟨br, 0, none⟩)] w fun e w' => e = .returned (.int .i64 ((Q.number (L pat) σ).1 : Nat)) ∧ RdT w' br pat (Q.number (L pat) σ).2 v ∧ Keep [br] w w' := by
  have HL : Hid ((L pat).length = pat.size) := size_len pat
  obtain ⟨c0, c1, c2, c3, c4, c5, c6⟩ := hR.cells
  have f1 := BlkT.frozen hR 1
  have f2 := BlkT.frozen hR 2
  clear c0 c3 c4 c5 c6
  have HR : Hid (RdT w br pat σ v) := hR
  clear hR
  have hr := Q.next_range (s := L pat) σ
  cases hd : Q.isDigit (Q.next (L pat) σ) with
  | false =>
    have HE : Hid (Q.number (L pat) σ = (0, { σ with wrong := true })) := by show _ = _; unfold Q.number; rw [if_pos hd]
    rw [HE.out]
    go_enter Try.func119, Try.ntmps119
    go_wp2_with (first | (go_at_call 91; refine (next_any br pat σ v _ HR.out hs ha).mono ?_; rintro e w1 ⟨rfl, q, rfl⟩) | (go_at_call 120; refine (isDigit_any _ _).mono ?_; rintro e w2 ⟨rfl, rfl⟩; rw [hd]))
    go_ret
    exact ⟨rfl, RdT.wrong (HR.out.drewN q), ((Keep.refl [br] w).drewN q).setCell (by simp) _⟩
  | true =>
    have h1 := Q.isDigit_ne hd
    have hne : Q.next (L pat) σ ≠ -1 := by omega
    have ha2 : (Q.fwd σ).at_ ≤ pat.size := by have := (Q.next_lt hne).2.1; rw [HL.out] at this; show σ.at_ + 1 ≤ _; omega
    have HF : ∀ q, Hid (RdT ((w.drewN q).setCell ⟨br, 1, none⟩ (.int .i64 ((σ.at_ : Int) + 1))) br pat (Q.fwd σ) v) := fun q => RdT.fwd (HR.out.drewN q) (σ.at_ + 1) rfl
    have hr2 := Q.next_range (s := L pat) (Q.fwd σ)
    clear hne
    cases hd2 : Q.isDigit (Q.next (L pat) (Q.fwd σ)) with
    | true =>
      have h2 := Q.isDigit_ne hd2
      have HE : Hid (Q.number (L pat) σ = (10 * ((Q.next (L pat) σ).toNat - 48) + ((Q.next (L pat) (Q.fwd σ)).toNat - 48), Q.fwd (Q.fwd σ))) := by
        show _ = _; unfold Q.number; rw [if_neg (by rw [hd]; decide), if_pos hd2]
      rw [HE.out]
      go_enter Try.func119, Try.ntmps119
      go_wp2_with (first
        | (go_at_call 91; refine (next_any br pat σ v w HR.out hs ha).mono ?_; rintro e w1 ⟨rfl, q, rfl⟩)
        | (go_at_call 91; refine (next_any br pat (Q.fwd σ) v _ (HF _).out hs ha2).mono ?_; rintro e w1 ⟨rfl, q2, rfl⟩)
        | (go_at_call 120; refine (isDigit_any _ _).mono ?_; rintro e w2 ⟨rfl, rfl⟩; first | rw [hd] | rw [hd2]))
      go_ret
      refine ⟨ret_int (by omega), ?_, ?_⟩
      · exact RdT.fwd (σ := Q.fwd σ) ((HF q).out.drewN q2) (σ.at_ + 1 + 1) rfl
      · exact ((((Keep.refl [br] w).drewN q).setCell (by simp) _).drewN q2).setCell (by simp) _
    | false =>
      have HE : Hid (Q.number (L pat) σ = ((Q.next (L pat) σ).toNat - 48, Q.fwd σ)) := by
        show _ = _; unfold Q.number; rw [if_neg (by rw [hd]; decide), if_neg (by rw [hd2]; decide)]
      rw [HE.out]
      go_enter Try.func119, Try.ntmps119
      go_wp2_with (first
        | (go_at_call 91; refine (next_any br pat σ v w HR.out hs ha).mono ?_; rintro e w1 ⟨rfl, q, rfl⟩)
        | (go_at_call 91; refine (next_any br pat (Q.fwd σ) v _ (HF _).out hs ha2).mono ?_; rintro e w1 ⟨rfl, q2, rfl⟩)
        | (go_at_call 120; refine (isDigit_any _ _).mono ?_; rintro e w2 ⟨rfl, rfl⟩; first | rw [hd] | rw [hd2]))
      go_ret
      refine ⟨ret_int (by omega), ?_, ?_⟩
      · exact (HF q).out.drewN q2
      · exact (((Keep.refl [br] w).drewN q).setCell (by simp) _).drewN q2

set_option maxRecDepth 10000 in
set_option maxHeartbeats 800000 in
theorem memberByte_any (br : Nat) (pat : ByteArray) (σ : Q.Rd) (v : Value) (w : World) (hR : RdT w br pat σ v) (hs : pat.size ≤ 1000) (ha : σ.at_ ≤ pat.size) :
    Calls Try.prog 124 #[.pointer (some ⟨br, 0, none⟩)] w fun e w' => e = .returned (.int .i64 ((Q.memberByte (L pat) σ).1 : Nat)) ∧ RdT w' br pat (Q.memberByte (L pat) σ).2 v ∧ Keep [br] w w' := by
  have HL : Hid ((L pat).length = pat.size) := size_len pat
  have HR : Hid (RdT w br pat σ v) := hR
  clear hR
  by_cases h : Q.next (L pat) σ = 92
  · have hq : (Q.next (L pat) σ == 92) = true := by simp [h]
    have HE : Hid (Q.memberByte (L pat) σ = Q.anyByte (L pat) (Q.fwd σ)) := by show _ = _; unfold Q.memberByte; rw [if_pos h]
    have HT : Hid (Q.take (L pat) 92 σ = Q.fwd σ) := by show _ = _; unfold Q.take; rw [if_pos h]
    have ha2 : (Q.fwd σ).at_ ≤ pat.size := by have := (Q.next_lt (s := L pat) (σ := σ) (by rw [h]; decide)).2.1; rw [HL.out] at this; show σ.at_ + 1 ≤ _; omega
    rw [HE.out]
    clear h
    go_enter Try.func124, Try.ntmps124
    go_wp2_with (first
      | (go_at_call 78; refine (take_any br pat σ v 92 _ HR.out hs ha).mono ?_; rintro e w1 ⟨rfl, hR1, hK1⟩; rw [HT.out] at hR1; rw [hq])
      | (go_at_call 118; refine (anyByte_any br pat (Q.fwd σ) v _ hR1 hs ha2).mono ?_; rintro e w2 ⟨rfl, hR2, hK2⟩))
    go_ret
    exact ⟨rfl, hR2, hK1.trans hK2⟩
  · have hq : (Q.next (L pat) σ == 92) = false := by simp [h]
    have HT : Hid (Q.take (L pat) 92 σ = σ) := by show _ = _; unfold Q.take; rw [if_neg h]
    by_cases h2 : Q.next (L pat) σ = 93 ∨ Q.next (L pat) σ = 45
    · have HE : Hid (Q.memberByte (L pat) σ = Q.anyByte (L pat) { σ with wrong := true }) := by show _ = _; unfold Q.memberByte; rw [if_neg h, if_pos h2]
      rw [HE.out]
      clear h
      rcases h2 with h2 | h2
      · have hq2 : (Q.next (L pat) σ == 93) = true := by simp [h2]
        clear h2
        go_enter Try.func124, Try.ntmps124
        go_wp2_with (first
          | (go_at_call 78; refine (take_any br pat σ v 92 _ HR.out hs ha).mono ?_; rintro e w1 ⟨rfl, hR1, hK1⟩; rw [HT.out] at hR1; rw [hq]; have f2 := BlkT.frozen hR1 2; obtain ⟨_, _, c2, _⟩ := hR1.cells)
          | (go_at_call 91; refine (next_any br pat σ v _ hR1 hs ha).mono ?_; rintro e w2 ⟨rfl, q, rfl⟩)
          | (go_at_call 118; refine (anyByte_any br pat { σ with wrong := true } v _ (RdT.wrong (RdT.drewN hR1 q)) hs ha).mono ?_; rintro e w3 ⟨rfl, hR2, hK2⟩))
        go_ret
        exact ⟨rfl, hR2, ((hK1.drewN q).setCell (by simp) _).trans hK2⟩
      · have hq2 : (Q.next (L pat) σ == 93) = false := by simp [h2]
        have hq3 : (Q.next (L pat) σ == 45) = true := by simp [h2]
        clear h2
        go_enter Try.func124, Try.ntmps124
        go_wp2_with (first
          | (go_at_call 78; refine (take_any br pat σ v 92 _ HR.out hs ha).mono ?_; rintro e w1 ⟨rfl, hR1, hK1⟩; rw [HT.out] at hR1; rw [hq]; have f2 := BlkT.frozen hR1 2; obtain ⟨_, _, c2, _⟩ := hR1.cells)
          | (go_at_call 91; refine (next_any br pat σ v _ hR1 hs ha).mono ?_; rintro e w2 ⟨rfl, q, rfl⟩)
          | (go_at_call 118; refine (anyByte_any br pat { σ with wrong := true } v _ (RdT.wrong (RdT.drewN hR1 q)) hs ha).mono ?_; rintro e w3 ⟨rfl, hR2, hK2⟩))
        go_ret
        exact ⟨rfl, hR2, ((hK1.drewN q).setCell (by simp) _).trans hK2⟩
    · have HE : Hid (Q.memberByte (L pat) σ = Q.anyByte (L pat) σ) := by show _ = _; unfold Q.memberByte; rw [if_neg h, if_neg h2]
      have hq2 : (Q.next (L pat) σ == 93) = false := by simp; exact fun e => h2 (.inl e)
      have hq3 : (Q.next (L pat) σ == 45) = false := by simp; exact fun e => h2 (.inr e)
      rw [HE.out]
      clear h h2
      go_enter Try.func124, Try.ntmps124
      go_wp2_with (first
        | (go_at_call 78; refine (take_any br pat σ v 92 _ HR.out hs ha).mono ?_; rintro e w1 ⟨rfl, hR1, hK1⟩; rw [HT.out] at hR1; rw [hq])
        | (go_at_call 91; refine (next_any br pat σ v _ hR1 hs ha).mono ?_; rintro e w2 ⟨rfl, q, rfl⟩)
        | (go_at_call 118; refine (anyByte_any br pat σ v _ (RdT.drewN hR1 q) hs ha).mono ?_; rintro e w3 ⟨rfl, hR2, hK2⟩))
      go_ret
      exact ⟨rfl, hR2, (hK1.drewN q).trans hK2⟩
end Go.Proofs.Ytjmkkkfloalliab
