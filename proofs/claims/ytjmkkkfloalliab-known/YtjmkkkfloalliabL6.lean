import Derived.Test.YtjmkkkfloalliabL5
namespace Go.Proofs.Ytjmkkkfloalliab
set_option linter.unusedVariables false
open Go.RowKit

set_option maxRecDepth 100000 in
set_option maxHeartbeats 800000 in
theorem text_any (a : ByteArray) (bi rate h : Nat) (w : World) (h0 : a.size ≤ 1000) (hh : h ≤ a.size) (hI : Idx w bi rate h a) :
    Calls Try.prog 70 #[.pointer (some ⟨bi, 0, none⟩)] w fun e w' => e = .returned (.string ⟨(M.textOf a.data.toList h).toArray⟩) ∧ Below w.heap.size w w' := by
  have HL : Hid (a.data.toList.length = a.size) := size_len a
  have hm := make_bytes (a.size : Int) a.size rfl (by omega)
  have hbi := Blk.lt hI
  go_enter Try.func70, Try.ntmps70
  go_wp2_with (go_at_call 54; refine (rows_any a bi rate h _ h0 hh hI).mono ?_; rintro e w1 ⟨br, rfl, hbr, hrow, hb1⟩; have i2' := Idx.c2 (Blk.below hI hb1 hbi))
  clear hm i2'
  have hs1 := hb1.size
  have hll := hrow.lt
  go_loopw [18] (fun i wr => ∃ k : Nat, k ≤ a.size ∧ i = .int .i64 k ∧ Nums .i64 wr br (M.rowsI a.data.toList h) ∧ Nums .u8 wr w1.heap.size (nums (M.txTo a.data.toList h k)) ∧ Below w.heap.size w wr) (fun i _ => a.size - (intOf i).toNat)
  case atStart =>
    refine ⟨0, by omega, rfl, Blk.alloc hrow _, ?_, hb1.alloc hs1 _⟩
    rw [M.txTo_zero, nums_replicate, HL.out]
    exact Nums.new _ _ _ _
  case round =>
    obtain ⟨k, hk, rfl, hr, ht, hb⟩ := hrel
    have HI : Idx wr bi rate h a := Blk.below hI hb hbi
    have i1 := HI.c1
    have i2 := HI.c2
    by_cases hlt : k < a.size
    · have hc := hr.cell (k + 1) (by rw [M.rowsI_length, HL.out]; omega)
      rw [M.rowsI_at] at hc
      have hle := M.rowsOf_le a.data.toList h (by rw [HL.out]; exact hh) (k + 1) (by rw [HL.out]; omega)
      rw [HL.out] at hle
      have HT : Hid (_) := M.textOf_at a.data.toList h k (by rw [HL.out]; exact hlt)
      generalize (M.rowsOf a.data.toList h).getD (k + 1) 0 = r at hc hle HT
      by_cases hrh : r = h
      · subst hrh
        have HT2 : Hid ((M.textOf a.data.toList r).getD k 0 = 0) := by have := HT.out; rw [if_pos rfl] at this; exact this
        clear HT
        go_wp2
        go_roundw
        case rel =>
          refine ⟨k + 1, by omega, by go_num, hr, ?_, hb⟩
          rw [← M.txTo_skip _ _ _ (by rw [HL.out]; exact hlt) HT2.out]
          exact ht
        case measure => simp [intOf]; omega
      · have hne : ((r : Int) != (h : Int)) = true := by rw [bne_iff_ne]; omega
        have hsl : M.sl h r < a.size := M.sl_lt h r a.size hh hle hrh
        have HT2 : Hid ((M.textOf a.data.toList h).getD k 0 = a.data.toList.getD (M.sl h r) 0) := by have := HT.out; rw [if_neg hrh] at this; exact this
        clear HT
        have htc := ht.cell k (by rw [nums_length, M.txTo_length, HL.out]; exact hlt)
        have hfz := Blk.frozen ht k
        go_wp2_with (go_at_call 48; refine (slot_nat _ _ _ (by omega)).mono ?_; rintro e w' ⟨rfl, rfl⟩)
        go_roundw
        case rel =>
          refine ⟨k + 1, by omega, by go_num, Blk.other hr (by simp; omega) _, ?_, hb.setCell (by simp; omega) _⟩
          rw [← M.txTo_set, HT2.out, ← nums_set, ← byte_at a _ hsl]
          exact ht.set _ _
        case measure => simp [intOf]; omega
    · have hk2 : k = a.size := by omega
      subst hk2
      have hrs := run_str (W := wr) (b := w1.heap.size) (l := M.txTo a.data.toList h a.size) a.size ht
      rw [M.txTo_length, HL.out] at hrs
      go_wp2
      go_ret
      refine ⟨?_, hb⟩
      rw [← M.txTo_all, HL.out]
      rfl

theorem text_str (a : ByteArray) (bi rate h : Nat) (w : World) (h0 : a.size ≤ 1000) (hh : h ≤ a.size) (hI : Idx w bi rate h a) :
    Calls Try.prog 70 #[.pointer (some ⟨bi, 0, none⟩)] w fun e w' => ∃ tx : ByteArray, e = .returned (.string tx) ∧ Hid (tx.data.toList = M.textOf a.data.toList h) ∧ tx.size ≤ a.size ∧ a.size ≤ tx.size ∧ Below w.heap.size w w' := by
  refine (text_any a bi rate h w h0 hh hI).mono ?_
  rintro e w' ⟨rfl, hb⟩
  have e1 : (ByteArray.mk (M.textOf a.data.toList h).toArray).size = a.size := by
    rw [← size_len, ← size_len]; exact M.textOf_length _ _
  exact ⟨_, rfl, rfl, Nat.le_of_eq e1, Nat.le_of_eq e1.symm, hb⟩

set_option maxHeartbeats 400000 in
theorem len_any (a : ByteArray) (bi rate h : Nat) (w : World) (hI : Idx w bi rate h a) :
    Calls Try.prog 21 #[.pointer (some ⟨bi, 0, none⟩)] w fun e w' => e = .returned (.int .i64 a.size) ∧ w' = w := by
  have i2 := hI.c2
  go_enter Try.func21, Try.ntmps21
  go_wp2
  go_ret
  exact ⟨rfl, rfl⟩

set_option maxHeartbeats 400000 in
theorem rate_any (a : ByteArray) (bi rate h : Nat) (w : World) (hI : Idx w bi rate h a) :
    Calls Try.prog 45 #[.pointer (some ⟨bi, 0, none⟩)] w fun e w' => e = .returned (.int .i64 rate) ∧ w' = w := by
  have i0 := hI.c0
  go_enter Try.func45, Try.ntmps45
  go_wp2
  go_ret
  exact ⟨rfl, rfl⟩

/-- Extract: a stretch that is none. -/
theorem extract_no (a : ByteArray) (bi rate h : Nat) (from_ to_ : Int) (w : World) (hI : Idx w bi rate h a) (hno : from_ < 0 ∨ to_ < from_ ∨ (a.size : Int) < to_) :
    Calls Try.prog 60 #[.pointer (some ⟨bi, 0, none⟩), .int .i64 from_, .int .i64 to_] w fun e w' => e = .returned (.tuple #[.string ByteArray.empty, .int .i64 2]) ∧ Below w.heap.size w w' := by
  by_cases h1 : from_ < 0
  · go_enter Try.func60, Try.ntmps60
    go_wp2
    go_ret2
    exact ⟨rfl, Below.refl _ _⟩
  · by_cases h2 : to_ < from_
    · go_enter Try.func60, Try.ntmps60
      go_wp2
      go_ret2
      exact ⟨rfl, Below.refl _ _⟩
    · have h3 : (a.size : Int) < to_ := by omega
      go_enter Try.func60, Try.ntmps60
      go_wp2_with (go_at_call 21; refine (len_any a bi rate h _ hI).mono ?_; rintro e w' ⟨rfl, rfl⟩)
      go_ret2
      exact ⟨rfl, Below.refl _ _⟩

set_option maxRecDepth 100000 in
set_option maxHeartbeats 400000 in
/-- Extract: a stretch of the text. -/
theorem extract_yes (a : ByteArray) (bi rate h : Nat) (i j : Nat) (w : World) (h0 : a.size ≤ 1000) (hh : h ≤ a.size) (hI : Idx w bi rate h a) (hij : i ≤ j) (hj : j ≤ a.size) :
    Calls Try.prog 60 #[.pointer (some ⟨bi, 0, none⟩), .int .i64 i, .int .i64 j] w fun e w' => ∃ s : ByteArray, e = .returned (.tuple #[.string s, .int .i64 0]) ∧ Hid (s.data.toList = ((M.textOf a.data.toList h).drop i).take (j - i)) ∧ Below w.heap.size w w' := by
  by_cases he : i = j
  · subst he
    go_enter Try.func60, Try.ntmps60
    go_wp2_with (go_at_call 21; refine (len_any a bi rate h _ hI).mono ?_; rintro e w' ⟨rfl, rfl⟩)
    go_ret2
    refine ⟨ByteArray.empty, rfl, ?_, Below.refl _ _⟩
    show _ = _
    rw [Nat.sub_self, List.take_zero]
    rfl
  · have hne : ((i : Int) == (j : Int)) = false := by simp; omega
    have hi0 : (0 : Int) ≤ (i : Int) := by omega
    have hij2 : (i : Int) ≤ (j : Int) := by omega
    go_enter Try.func60, Try.ntmps60
    go_wp2_with (first
      | (go_at_call 21; refine (len_any a bi rate h _ hI).mono ?_; rintro e w' ⟨rfl, rfl⟩)
      | (go_at_call 70; (refine (text_str a bi rate h _ h0 hh hI).mono ?_; rintro e w1 ⟨tx, rfl, htx, ht1, ht2, hb⟩; have ht3 : j ≤ tx.size := Nat.le_trans hj ht2; have ht4 : (j : Int) ≤ (tx.size : Int) := Int.ofNat_le.2 ht3)))
    go_ret2
    refine ⟨_, rfl, ?_, hb⟩
    show _ = _
    rw [Lib.extract_data, htx.out]
end Go.Proofs.Ytjmkkkfloalliab
