import Derived.Test.YtjmkkkfloalliabL2
namespace Go.Proofs.Ytjmkkkfloalliab
set_option linter.unusedVariables false
open Go.RowKit

/-- the sum of the first k bytes, as Save reckons it -/
def sumTo (s : List UInt8) : Nat → Nat
  | 0 => 0
  | k + 1 => (sumTo s k + (k + 1) * ((s.getD k 0).toNat + 1)) % 65521
def sumL (s : List UInt8) : Nat := sumTo s s.length
theorem sumTo_lt (s : List UInt8) : ∀ k, sumTo s k < 65521
  | 0 => by simp [sumTo]
  | k + 1 => by unfold sumTo; exact Nat.mod_lt _ (by omega)
theorem getD_lt (l : List UInt8) (k : Nat) : (l.getD k 0).toNat ≤ 255 := by have := (l.getD k 0).toNat_lt; omega

theorem byte_at (s : ByteArray) (k : Nat) (h : k < s.size) : s[k] = s.data.toList.getD k 0 := by
  have h2 : k < s.data.size := h
  show s.data[k] = _
  rw [List.getD_eq_getElem?_getD, Array.getElem?_toList, Array.getElem?_eq_getElem h2]; rfl

set_option maxRecDepth 100000 in
set_option maxHeartbeats 400000 in
theorem checkSum_any (s : ByteArray) (w : World) (h0 : s.size ≤ 100000) :
    Calls Try.prog 74 #[.string s] w fun e w' => e = .returned (.int .i64 (sumL s.data.toList : Nat)) ∧ w' = w := by
  go_enter Try.func74, Try.ntmps74
  go_wp2
  go_loop [3, 4] (fun n i => ∃ k : Nat, k ≤ s.size ∧ i = .int .i64 k ∧ n = .int .i64 (sumTo s.data.toList k : Nat)) (fun _ i => s.size - (intOf i).toNat)
  case atStart => exact ⟨0, by omega, rfl, rfl⟩
  case round =>
    obtain ⟨k, hk, rfl, rfl⟩ := hrel
    have h1 := sumTo_lt s.data.toList k
    by_cases hlt : k < s.size
    · have hb := getD_lt s.data.toList k
      rw [← byte_at s k hlt] at hb
      have HB : Hid (s[k] = s.data.toList.getD k 0) := byte_at s k hlt
      have m0 : (0 : Int) ≤ ((k : Int) + 1) * ((s[k].toNat : Int) + 1) := Int.mul_nonneg (by omega) (by omega)
      have m1 : ((k : Int) + 1) * ((s[k].toNat : Int) + 1) ≤ 100000 * 256 := Int.mul_le_mul (by omega) (by omega) (by omega) (by omega)
      go_wp2
      go_round
      case rel =>
        refine ⟨k + 1, by omega, by go_num, ?_⟩
        rw [sumTo, ← HB.out]
        simp
      case measure => simp [intOf]; omega
    · have hk2 : k = s.size := by omega
      subst hk2
      go_wp2
      go_ret
      exact ⟨by unfold sumL; rw [size_len]; rfl, rfl⟩

/-- an index in memory: the rate, the row of the whole text, the bytes ahead -/
def Idx (w : World) (b : Nat) (rate whole : Nat) (a : ByteArray) : Prop := Blk w b [.int .i64 rate, .int .i64 whole, .string a]

/-- the list of numbers that bytes are -/
def nums (l : List UInt8) : List Int := l.map fun c => (c.toNat : Int)
theorem nums_length (l : List UInt8) : (nums l).length = l.length := by simp [nums]
theorem nums_set (l : List UInt8) (i : Nat) (c : UInt8) : (nums l).set i (c.toNat : Int) = nums (l.set i c) := by simp [nums, List.map_set]
theorem nums_str (l : List UInt8) : (strOfNums (nums l)).data.toList = l := by
  rw [strOfNums_data, nums, List.map_map]
  have : ((fun n : Int => UInt8.ofNat n.toNat) ∘ fun c : UInt8 => (c.toNat : Int)) = id := by
    funext c; simp
  rw [this, List.map_id]
theorem nums_replicate (n : Nat) : nums (List.replicate n 0) = List.replicate n 0 := by simp [nums]

theorem run_str {W : World} {b : Nat} {l : List UInt8} (cap : Nat) (h : Nums .u8 W b (nums l)) :
    Sem.run Try.prog (convert 75 9 (.slice (some ⟨b, 0, none⟩) l.length cap)) W = .ok (.string ⟨l.toArray⟩) W := by
  have := run_convert_bytes_arg (P := Try.prog) W 75 5 Try.underlying75 Try.underlying5 b 0 l.length cap (nums l) (nums_length l) (fun i hi => by
    rw [Nat.zero_add]; exact h.cell i (by rw [nums_length]; exact hi)) 9 Try.underlying9
  have e : strOfNums (nums l) = ⟨l.toArray⟩ := bytes_eq (by rw [nums_str])
  rw [e] at this
  exact this

set_option maxRecDepth 100000 in
set_option maxHeartbeats 400000 in
theorem newIndex_any (t : ByteArray) (rate : Nat) (w : World) (h0 : t.size ≤ 1000) :
    Calls Try.prog 31 #[.string t, .int .i64 rate] w fun e w' => ∃ b, e = .returned (.pointer (some ⟨b, 0, none⟩)) ∧ w.heap.size ≤ b ∧ Idx w' b rate (M.row t.data.toList 0) ⟨(M.ahead t.data.toList).toArray⟩ ∧ Below w.heap.size w w' := by
  have hm := make_bytes (t.size : Int) t.size rfl (by omega)
  have HL : Hid (t.data.toList.length = t.size) := size_len t
  go_enter Try.func31, Try.ntmps31
  go_wp2_with (go_at_call 47; refine (sortedRows_any _ _ h0).mono ?_; rintro e w1 ⟨rfl, hn, hb⟩; have hc0 := hn.cell 0 (by rw [rowsL_length]; omega); rw [rowsL_at _ _ (by omega)] at hc0)
  clear hm hc0
  have hs1 := hb.size
  go_loopw [8] (fun i wr => ∃ k : Nat, k ≤ t.size ∧ i = .int .i64 ((k : Int) + 1) ∧ Nums .i64 wr w.heap.size (rowsL t.data.toList) ∧ Nums .u8 wr w1.heap.size (nums (M.aheadTo t.data.toList k)) ∧ Below w.heap.size w wr) (fun i _ => t.size + 1 - (intOf i).toNat)
  case atStart =>
    refine ⟨0, by omega, rfl, Blk.alloc hn _, ?_, hb.alloc hs1 _⟩
    show Nums _ _ _ (nums (List.replicate _ 0))
    rw [HL.out, nums_replicate]
    exact Nums.new _ _ _ _
  case round =>
    obtain ⟨k, hk, rfl, hr, ha, hbw⟩ := hrel
    have hlt0 := hn.lt
    have hwl := M.row_le t.data.toList 0 (by omega)
    rw [HL.out] at hwl
    by_cases hlt : k < t.size
    · have hrl := M.row_le t.data.toList (k + 1) (by rw [HL.out]; omega)
      rw [HL.out] at hrl
      have hc := hr.cell (k + 1) (by rw [rowsL_length, HL.out]; omega)
      rw [rowsL_at _ _ (by rw [HL.out]; omega)] at hc
      have hsg : M.sl (M.row t.data.toList 0) (M.row t.data.toList (k + 1)) < t.size := by
        have := M.sig_lt t.data.toList k (by rw [HL.out]; exact hlt)
        rw [HL.out] at this
        exact this
      have ha1 := ha.cell (M.sl (M.row t.data.toList 0) (M.row t.data.toList (k + 1))) (by rw [nums_length, M.aheadTo_length, HL.out]; exact hsg)
      have hf1 := Blk.frozen ha (M.sl (M.row t.data.toList 0) (M.row t.data.toList (k + 1)))
      go_wp2_with (go_at_call 48; refine (slot_nat _ _ _ (by omega)).mono ?_; rintro e w' ⟨rfl, rfl⟩)
      have e1 : M.aheadTo t.data.toList (k + 1) = (M.aheadTo t.data.toList k).set (M.sl (M.row t.data.toList 0) (M.row t.data.toList (k + 1))) (t.data.toList.getD k 0) := rfl
      go_roundw
      case rel =>
        refine ⟨k + 1, by omega, by go_num, Blk.other hr (by simp; omega) _, ?_, hbw.setCell (by simp; omega) _⟩
        rw [e1, ← nums_set, ← byte_at t k hlt]
        exact ha.set _ _
      case measure => simp [intOf]; omega
    · have hk2 : k = t.size := by omega
      subst hk2
      have hrs := run_str (W := wr) (b := w1.heap.size) (l := M.aheadTo t.data.toList t.size) t.size ha
      rw [M.aheadTo_length, HL.out] at hrs
      go_wp2
      go_ret
      refine ⟨wr.heap.size, rfl, Nat.le_trans hs1 (by have := Blk.lt ha; omega), ?_, hbw.alloc hbw.size _⟩
      have e1 : M.ahead t.data.toList = M.aheadTo t.data.toList t.size := by unfold M.ahead; rw [HL.out]
      rw [e1]
      exact Blk.new _ _ _
end Go.Proofs.Ytjmkkkfloalliab
