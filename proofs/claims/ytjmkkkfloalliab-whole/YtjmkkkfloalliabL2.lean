import Derived.Test.YtjmkkkfloalliabL1
namespace Go.Proofs.Ytjmkkkfloalliab
set_option linter.unusedVariables false
open Go.RowKit

theorem info_of {P : Program} {e : TypeId} {z : Value} {a b : Nat} (h : (P.info? e).map (fun i => (i.zero, i.size, i.bytes)) = some (some z, a, b)) : ∃ i : TypeInfo, P.info? e = some i ∧ i.zero = some z ∧ i.size = a ∧ i.bytes = b := by
  cases hi : P.info? e with
  | none => rw [hi] at h; cases h
  | some i =>
    rw [hi] at h
    simp only [Option.map_some, Option.some.injEq, Prod.mk.injEq] at h
    exact ⟨i, rfl, h.1, h.2.1, h.2.2⟩
theorem info_int : ∃ i : TypeInfo, Try.prog.info? 3 = some i ∧ i.zero = some (.int .i64 0) ∧ i.size = 1 ∧ i.bytes = 8 := info_of (by kernel_rfl)
theorem info_byte : ∃ i : TypeInfo, Try.prog.info? 5 = some i ∧ i.zero = some (.int .u8 0) ∧ i.size = 1 ∧ i.bytes = 1 := info_of (by kernel_rfl)

theorem make_ints (l : Int) (n : Nat) (hl : l = n) (hn : n ≤ 1000000000) (w : World) :
    Sem.run Try.prog (Instr.makeSlice 40 (.int .i64 l) (.int .i64 l)) w = .ok (.slice (some ⟨w.heap.size, 0, none⟩) n n) (w.alloc (.cells (zeroRow (.int .i64 0) n) 3)) := by
  obtain ⟨i, h1, h2, h3, h4⟩ := info_int
  exact run_make_row 40 3 i (.int .i64 0) Try.underlying40 h1 h2 h3 rfl (by omega) l n hl hn w

theorem make_bytes (l : Int) (n : Nat) (hl : l = n) (hn : n ≤ 1000000000) (w : World) :
    Sem.run Try.prog (Instr.makeSlice 75 (.int .i64 l) (.int .i64 l)) w = .ok (.slice (some ⟨w.heap.size, 0, none⟩) n n) (w.alloc (.cells (zeroRow (.int .u8 0) n) 5)) := by
  obtain ⟨i, h1, h2, h3, h4⟩ := info_byte
  exact run_make_row 75 5 i (.int .u8 0) Try.underlying75 h1 h2 h3 rfl (by omega) l n hl hn w

/-- the rows of the first k places, the others 0 -/
def rowsTo (t : List UInt8) (k : Nat) : List Int := (List.range (t.length + 1)).map fun i => if i < k then (M.row t i : Int) else 0
def rowsL (t : List UInt8) : List Int := (List.range (t.length + 1)).map fun i => (M.row t i : Int)
theorem rowsTo_zero (t : List UInt8) : rowsTo t 0 = List.replicate (t.length + 1) 0 := by
  unfold rowsTo
  rw [List.eq_replicate_iff]
  simp
theorem rowsTo_length (t : List UInt8) (k : Nat) : (rowsTo t k).length = t.length + 1 := by simp [rowsTo]
theorem rowsTo_set (t : List UInt8) (k : Nat) (hk : k ≤ t.length) : (rowsTo t k).set k (M.row t k : Int) = rowsTo t (k + 1) := by
  apply List.ext_getElem
  · simp [rowsTo]
  · intro i h1 h2
    simp [rowsTo, List.getElem_set]
    by_cases e : k = i
    · subst e; simp
    · rw [if_neg e]
      by_cases h : i < k
      · rw [if_pos h, if_pos (by omega)]
      · rw [if_neg h, if_neg (by omega)]
theorem rowsTo_all (t : List UInt8) : rowsTo t (t.length + 1) = rowsL t := by
  unfold rowsTo rowsL
  refine List.map_congr_left (fun i hi => ?_)
  rw [if_pos (List.mem_range.1 hi)]
theorem rowsL_at (t : List UInt8) (p : Nat) (hp : p ≤ t.length) : (rowsL t).getD p 0 = (M.row t p : Int) := by
  unfold rowsL
  rw [List.getD_eq_getElem?_getD, List.getElem?_map, List.getElem?_range (by omega)]
  rfl
theorem rowsL_length (t : List UInt8) : (rowsL t).length = t.length + 1 := by simp [rowsL]

theorem size_len (t : ByteArray) : t.data.toList.length = t.size := Array.length_toList

set_option maxRecDepth 100000 in
set_option maxHeartbeats 400000 in
theorem sortedRows_any (t : ByteArray) (w : World) (h0 : t.size ≤ 1000) :
    Calls Try.prog 47 #[.string t] w fun e w' => e = .returned (.slice (some ⟨w.heap.size, 0, none⟩) (t.size + 1) (t.size + 1)) ∧ Nums .i64 w' w.heap.size (rowsL t.data.toList) ∧ Below w.heap.size w w' := by
  have hm := make_ints ((t.size : Int) + 1) (t.size + 1) (by omega) (by omega)
  have hl := size_len t
  have HL : Hid (t.data.toList.length = t.size) := hl
  clear hl
  have h2 : (0 : Int) ≤ (t.size : Int) := by omega
  go_enter Try.func47, Try.ntmps47
  go_wp2
  clear hm
  go_loopw [11] (fun i wr => ∃ k : Nat, k ≤ t.size + 1 ∧ i = .int .i64 k ∧ Nums .i64 wr w.heap.size (rowsTo t.data.toList k) ∧ Below w.heap.size w wr) (fun i _ => t.size + 1 - (intOf i).toNat)
  case atStart =>
    refine ⟨0, by omega, rfl, ?_, (Below.refl _ _).alloc (Nat.le_refl _) _⟩
    rw [rowsTo_zero, HL.out]
    exact Nums.new _ _ _ _
  case round =>
    obtain ⟨k, hk, rfl, hn, hb⟩ := hrel
    by_cases hlt : k < t.size + 1
    · have hc := hn.cell k (by rw [rowsTo_length, HL.out]; exact hlt)
      have hf := Blk.frozen hn k
      go_wp2_with (go_at_call 63; refine (countBelow_any _ _ _ h0 (by omega)).mono ?_; rintro e w' ⟨rfl, q, rfl⟩)
      go_roundw
      case rel =>
        refine ⟨k + 1, by omega, by go_num, ?_, ?_⟩
        · rw [← rowsTo_set _ _ (by rw [HL.out]; omega)]
          exact Nums.set (k := .i64) (w := wr.drewN q) hn k _
        · exact (below_drewN hb q).setCell (Nat.le_refl _) _
      case measure => simp [intOf]; omega
    · have hk2 : k = t.size + 1 := by omega
      subst hk2
      go_wp2
      go_ret
      refine ⟨rfl, ?_, hb⟩
      rw [← rowsTo_all, HL.out]
      exact hn
end Go.Proofs.Ytjmkkkfloalliab
