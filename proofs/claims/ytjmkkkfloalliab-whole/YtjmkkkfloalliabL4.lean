import Derived.Test.YtjmkkkfloalliabL3
import Derived.Test.YtjmkkkfloalliabM2
namespace Go.Proofs.Ytjmkkkfloalliab
set_option linter.unusedVariables false
open Go.RowKit

theorem zero91 : Try.zeroCells93.toList = List.replicate 256 (Value.int .i64 0) := by kernel_rfl

set_option maxRecDepth 100000 in
set_option maxHeartbeats 800000 in
theorem longerRows_any (a : ByteArray) (w : World) (h0 : a.size ≤ 1000) :
    Calls Try.prog 33 #[.string a] w fun e w' => ∃ b, e = .returned (.slice (some ⟨b, 0, none⟩) a.size a.size) ∧ w.heap.size ≤ b ∧ Nums .i64 w' b (M.lonL a.data.toList) ∧ Below w.heap.size w w' := by
  have HL : Hid (a.data.toList.length = a.size) := size_len a
  go_enter Try.func33, Try.ntmps33
  go_wp2
  go_loopw [4] (fun i wr => ∃ k : Nat, k ≤ a.size ∧ i = .int .i64 k ∧ Nums .i64 wr w.heap.size (M.tab (M.c1 a.data.toList k)) ∧ Below w.heap.size w wr) (fun i _ => a.size - (intOf i).toNat)
  case atStart =>
    refine ⟨0, by omega, rfl, ?_, (Below.refl _ _).alloc (Nat.le_refl _) _⟩
    rw [M.c1_zero]
    unfold Nums
    rw [List.map_replicate, ← zero91]
    exact Blk.new _ _ _
  case round =>
    obtain ⟨k, hk, rfl, hn, hb⟩ := hrel
    by_cases hlt : k < a.size
    · have hby := getD_lt a.data.toList k
      have hc := hn.cell (a.data.toList.getD k 0).toNat (by rw [M.tab_length]; omega)
      rw [M.tab_at _ _ (by omega)] at hc
      have hcl := M.c1_le a.data.toList k (a.data.toList.getD k 0).toNat
      rw [HL.out] at hcl
      have hf := Blk.frozen hn (a.data.toList.getD k 0).toNat
      have HB : Hid (a[k] = a.data.toList.getD k 0) := byte_at a k hlt
      rw [← byte_at a k hlt] at hby hc hf hcl
      go_wp2
      go_roundw
      case rel =>
        refine ⟨k + 1, by omega, by go_num, ?_, hb.setCell (Nat.le_refl _) _⟩
        rw [← M.c1_step _ _ (by rw [HL.out]; exact hlt), ← HB.out]
        exact hn.set _ _
      case measure => simp [intOf]; omega
    · have hk2 : k = a.size := by omega
      subst hk2
      rw [← HL.out, M.c1_all] at hn
      go_wp2
      clear hk hlt
      go_loopw [5, 6] (fun r i wr => ∃ c : Nat, c ≤ 256 ∧ i = .int .i64 c ∧ r = .int .i64 ((1 + M.bel a.data.toList c : Nat) : Int) ∧ Nums .i64 wr w.heap.size (M.tab (M.c2 a.data.toList c)) ∧ Below w.heap.size w wr) (fun _ i _ => 256 - (intOf i).toNat)
      case atStart => exact ⟨0, by omega, rfl, by rw [M.bel_zero]; rfl, hn, hb⟩
      case round =>
        clear hn hb
        obtain ⟨c, hc256, rfl, rfl, hn, hb⟩ := hrel
        have hbl := M.bel_le a.data.toList c
        have hcl := M.cnt_le a.data.toList c
        rw [HL.out] at hbl hcl
        by_cases hlt : c < 256
        · have hc := hn.cell c (by rw [M.tab_length]; exact hlt)
          rw [M.tab_at _ _ hlt, M.c2_at] at hc
          have hf := Blk.frozen hn c
          go_wp2
          go_roundw
          case rel =>
            refine ⟨c + 1, by omega, by go_num, by rw [M.bel_succ]; go_num, ?_, hb.setCell (Nat.le_refl _) _⟩
            rw [← M.c2_step]
            exact hn.set _ _
          case measure => simp [intOf]; omega
        · have hk2 : c = 256 := by omega
          subst hk2
          rw [M.c2_all] at hn
          have hm := make_ints (a.size : Int) a.size rfl (by omega)
          have hz := hn.lt
          clear hbl hcl hc256 hlt
          obtain ⟨w2, hw2⟩ : ∃ x, x = wr := ⟨wr, rfl⟩
          subst hw2
          go_wp2
          clear hm
          go_loopw [42] (fun i w3 => ∃ k : Nat, k ≤ a.size ∧ i = .int .i64 k ∧ Nums .i64 w3 w.heap.size (M.tab (M.c3 a.data.toList k)) ∧ Nums .i64 w3 w2.heap.size (M.lonTo a.data.toList k) ∧ Below w.heap.size w w3) (fun i _ => a.size - (intOf i).toNat)
          case atStart =>
            refine ⟨0, by omega, rfl, Blk.alloc hn _, ?_, hb.alloc (by omega) _⟩
            rw [M.lonTo_zero, HL.out]
            exact Nums.new _ _ _ _
          case round =>
            clear hn hb
            obtain ⟨k, hk, rfl, hn, hl, hb⟩ := hrel
            by_cases hlt : k < a.size
            · have hby := getD_lt a.data.toList k
              have hc := hn.cell (a.data.toList.getD k 0).toNat (by rw [M.tab_length]; omega)
              rw [M.tab_at _ _ (by omega)] at hc
              have hcl := M.c3_le a.data.toList k (a.data.toList.getD k 0).toNat
              rw [HL.out] at hcl
              have hf := Blk.frozen hn (a.data.toList.getD k 0).toNat
              have hcl2 := hl.cell k (by rw [M.lonTo_length, HL.out]; exact hlt)
              have hfl := Blk.frozen hl k
              have HLF : Hid (M.LF a.data.toList k = M.c3 a.data.toList k (a.data.toList.getD k 0).toNat) := (M.c3_LF _ _).symm
              have HB : Hid (a[k] = a.data.toList.getD k 0) := byte_at a k hlt
              have hne : w2.heap.size ≠ w.heap.size := by omega
              rw [← byte_at a k hlt] at hby hc hf hcl
              go_wp2
              go_roundw
              case rel =>
                refine ⟨k + 1, by omega, by go_num, ?_, ?_, (hb.setCell (by simp; omega) _).setCell (Nat.le_refl _) _⟩
                · rw [← M.c3_step _ _ (by rw [HL.out]; exact hlt), ← HB.out]
                  exact Nums.set (Blk.other hn (by simp; omega) _) _ _
                · rw [← M.lonTo_set, HLF.out, ← HB.out]
                  exact Blk.other (Nums.set hl _ _) (by simp; omega) _
              case measure => simp [intOf]; omega
            · have hk2 : k = a.size := by omega
              subst hk2
              go_wp2
              go_ret
              refine ⟨_, rfl, by omega, ?_, hb⟩
              rw [← M.lonTo_all, HL.out]
              exact hl
end Go.Proofs.Ytjmkkkfloalliab
