import Derived.Test.YtjmkkkfloalliabL6
import Derived.BigRegion
namespace Go.Proofs.Ytjmkkkfloalliab
set_option linter.unusedVariables false
open Go.RowKit

def samp (rows : List Nat) (rate k : Nat) : List UInt8 := (List.range k).flatMap fun j => two (rows.getD (j * rate) 0)
def mark : List UInt8 := [102, 109, 105, 49]
def saveHead (a : List UInt8) (h rate : Nat) : List UInt8 := mark ++ two a.length ++ [UInt8.ofNat rate] ++ two h ++ a
def saveBody (a : List UInt8) (h rate : Nat) : List UInt8 := saveHead a h rate ++ samp (M.rowsOf a h) rate (a.length / rate + 1)
def saveL (a : List UInt8) (h rate : Nat) : List UInt8 := saveBody a h rate ++ two (sumL (saveBody a h rate))

theorem u16_str (v : Nat) (w : World) (h1 : v ≤ 65535) :
    Calls Try.prog 73 #[.int .i64 v] w fun e w' => ∃ s : ByteArray, e = .returned (.string s) ∧ Hid (s.data.toList = two v) ∧ s.size = 2 ∧ Below w.heap.size w w' :=
  (u16_any v w h1).mono fun _ _ ⟨he, hb⟩ => ⟨_, he, rfl, rfl, hb⟩

theorem app_list (x y : ByteArray) : (x ++ y).data.toList = x.data.toList ++ y.data.toList := by
  rw [ByteArray.data_append, Array.toList_append]
theorem samp_succ (rows : List Nat) (rate k : Nat) : samp rows rate (k + 1) = samp rows rate k ++ two (rows.getD (k * rate) 0) := by
  unfold samp
  rw [List.range_succ, List.flatMap_append]
  simp
theorem last_k (n rate k : Nat) (hr : 1 ≤ rate) (h1 : k * rate < n + 1 + rate) (h2 : n + 1 ≤ k * rate) : k = n / rate + 1 := by
  match k with
  | 0 => omega
  | k + 1 =>
    have h3 : k * rate + rate < n + 1 + rate := by rw [← Nat.succ_mul]; exact h1
    have h4 : n < (k + 1) * rate := by omega
    rw [Nat.div_eq_of_lt_le (by omega) h4]
theorem k_le (rate k : Nat) (hr : 1 ≤ rate) : k ≤ k * rate := Nat.le_mul_of_pos_right k hr
theorem sumL_lt (s : List UInt8) : sumL s ≤ 65535 := by have := sumTo_lt s s.length; unfold sumL; omega

set_option maxRecDepth 100000 in
set_option maxHeartbeats 800000 in
theorem save_any (a : ByteArray) (bi rate h : Nat) (w : World) (h0 : a.size ≤ 1000) (hh : h ≤ a.size) (hr1 : 1 ≤ rate) (hr2 : rate ≤ 255) (hI : Idx w bi rate h a) :
    Calls Try.prog 61 #[.pointer (some ⟨bi, 0, none⟩)] w fun e w' => ∃ s : ByteArray, e = .returned (.string s) ∧ Hid (s.data.toList = saveL a.data.toList h rate) ∧ Below w.heap.size w w' := by
  have HL : Hid (a.data.toList.length = a.size) := size_len a
  have hbi := Blk.lt hI
  have i0 := hI.c0
  have i1 := hI.c1
  have i2 := hI.c2
  go_enter Try.func61, Try.ntmps61
  go_wp2_with (fail)
  refine (u16_str _ _ (by omega)).mono ?_
  rintro e w1 ⟨s1, rfl, hs1, hz1, hb1⟩
  have j1 := Idx.c1 (Blk.below hI hb1 hbi)
  clear i0 i1 i2
  go_wp2_with (fail)
  refine (u16_str _ _ (by omega)).mono ?_
  rintro e w2 ⟨s2, rfl, hs2, hz2, hb2⟩
  have hI2 : Idx w2 bi rate h a := Blk.below (Blk.below hI hb1 hbi) hb2 (Nat.lt_of_lt_of_le hbi hb1.size)
  have hbi2 : bi < w2.heap.size := Blk.lt hI2
  have j0 := hI2.c0
  have j2 := hI2.c2
  clear j1
  go_wp2_with (fail)
  obtain ⟨r1, HR1, hzr, hcv⟩ : ∃ r1 : ByteArray, Hid (r1.data.toList = [UInt8.ofNat rate]) ∧ r1.size = 1 ∧ Sem.run Try.prog (convert 75 9 (.slice (some ⟨w2.heap.size, 0, none⟩) 1 1)) ((w2.alloc (.cells #[.int .u8 rate] 5)).drew) = .ok (.string r1) ((w2.alloc (.cells #[.int .u8 rate] 5)).drew) := by
    refine ⟨strOfNums [(rate : Int)], rfl, rfl, ?_⟩
    refine run_convert_bytes_arg ((w2.alloc (.cells #[.int .u8 rate] 5)).drew) 75 5 Try.underlying75 Try.underlying5 w2.heap.size 0 1 1 [(rate : Int)] rfl ?_ 9 Try.underlying9
    intro i hi
    rw [(Blk.drew (Blk.new w2 #[.int .u8 rate] 5)).cell? (0 + i)]
    match i, hi with
    | 0, _ => rfl
  go_region
  have hI3 : Idx ((w2.alloc (.cells #[.int .u8 rate] 5)).drew) bi rate h a := Blk.drew (Blk.alloc hI2 _)
  have hb3 : Below w.heap.size w ((w2.alloc (.cells #[.int .u8 rate] 5)).drew) := ((hb1.trans (hb2.mono hb1.size)).alloc (Nat.le_trans hb1.size hb2.size) _).drew
  clear hcv j0 j2 hI2
  generalize (w2.alloc (.cells #[.int .u8 rate] 5)).drew = w3 at *
  obtain ⟨sh, HSH, hshz, hsh⟩ : ∃ sh : ByteArray, Hid (sh.data.toList = saveHead a.data.toList h rate) ∧ sh.size ≤ 1020 ∧ ({ data := #[102, 109, 105, 49] } ++ s1 ++ r1 ++ s2 ++ a : ByteArray) = sh := by
    refine ⟨_, ?_, ?_, rfl⟩
    · show _ = _
      rw [app_list, app_list, app_list, app_list, hs1.out, hs2.out, HR1.out]
      unfold saveHead
      rw [HL.out]
      rfl
    · rw [ByteArray.size_append, ByteArray.size_append, ByteArray.size_append, ByteArray.size_append, hz1, hz2, hzr]
      have : (ByteArray.mk #[102, 109, 105, 49]).size = 4 := rfl
      omega
  rw [hsh]
  clear hsh
  go_wp2_with fail
  refine (rows_any a bi rate h _ h0 hh hI3).mono ?_
  rintro e w4 ⟨br, rfl, hbr, hrow, hb4⟩
  have hs3 := hb3.size
  have hb5 : Below w.heap.size w w4 := hb3.trans (hb4.mono hs3)
  have hI5 : Idx w4 bi rate h a := Blk.below hI3 hb4 (Nat.lt_of_lt_of_le hbi hs3)
  have hbrl := hrow.lt
  go_wp2_with fail
  go_loopw [5, 7] (fun s i wr => ∃ (k p : Nat) (sk : ByteArray), i = .int .i64 p ∧ s = .string sk ∧ Hid (p = k * rate) ∧ p < a.size + 1 + rate ∧ k ≤ p ∧ Hid (sk.data.toList = saveHead a.data.toList h rate ++ samp (M.rowsOf a.data.toList h) rate k) ∧ sk.size ≤ 1020 + 2 * k ∧ Nums .i64 wr br (M.rowsI a.data.toList h) ∧ Idx wr bi rate h a ∧ Below w.heap.size w wr) (fun _ i _ => a.size + 1 - (intOf i).toNat)
  case atStart =>
    refine ⟨0, 0, sh, rfl, rfl, ?_, by omega, by omega, ?_, by omega, hrow, hI5, hb5⟩
    · show _ = _
      rw [Nat.zero_mul]
    · show _ = _
      rw [HSH.out]
      simp [samp]
  case round =>
    obtain ⟨k, p, sk, rfl, rfl, hpk, hp, hkp, hsk, hskz, hr, hi, hb⟩ := hrel
    by_cases hlt : p < a.size + 1
    · have hc := hr.cell p (by rw [M.rowsI_length, HL.out]; exact hlt)
      rw [M.rowsI_at] at hc
      have hle := M.rowsOf_le a.data.toList h (by rw [HL.out]; exact hh) p (by rw [HL.out]; omega)
      rw [HL.out] at hle
      have HRR : Hid (samp (M.rowsOf a.data.toList h) rate (k + 1) = samp (M.rowsOf a.data.toList h) rate k ++ two ((M.rowsOf a.data.toList h).getD p 0)) := by
        show _ = _
        rw [samp_succ, ← hpk.out]
      generalize (M.rowsOf a.data.toList h).getD p 0 = r at hc hle HRR
      go_wp2_with fail
      refine (u16_str _ _ (by omega)).mono ?_
      rintro e w6 ⟨s6, rfl, hs6, hz6, hb6⟩
      have hbw := hb.size
      have hi6 : Idx w6 bi rate h a := Blk.below hi hb6 (Nat.lt_of_lt_of_le hbi hbw)
      have j0 := hi6.c0
      have hr6 := Blk.below hr hb6 (Blk.lt hr)
      go_wp2
      go_roundw
      case rel =>
        refine ⟨k + 1, p + rate, sk ++ s6, by go_num, rfl, ?_, by omega, by omega, ?_, ?_, hr6, hi6, hb.trans (hb6.mono hbw)⟩
        · show _ = _
          rw [Nat.succ_mul, hpk.out]
        · show _ = _
          rw [app_list, hsk.out, hs6.out, HRR.out, List.append_assoc]
        · rw [ByteArray.size_append, hz6]; omega
      case measure => simp [intOf]; omega
    · have HK : Hid (k = a.size / rate + 1) := last_k a.size rate k hr1 (by rw [← hpk.out]; exact hp) (by rw [← hpk.out]; omega)
      go_wp2_with fail
      refine (checkSum_any _ _ (by omega)).mono ?_
      rintro e w6 ⟨rfl, rfl⟩
      have hsl := sumL_lt sk.data.toList
      go_wp2_with fail
      refine (u16_str _ _ hsl).mono ?_
      rintro e w7 ⟨s7, rfl, hs7, hz7, hb7⟩
      go_wp2
      go_ret
      refine ⟨_, rfl, ?_, hb.trans (hb7.mono hb.size)⟩
      show _ = _
      rw [app_list, hs7.out, hsk.out, HK.out]
      unfold saveL saveBody
      rw [HL.out]
end Go.Proofs.Ytjmkkkfloalliab
