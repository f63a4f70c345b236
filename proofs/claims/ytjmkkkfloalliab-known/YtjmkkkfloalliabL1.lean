import Derived.Test.YtjmkkkfloalliabRows
import Derived.Test.YtjmkkkfloalliabW1
import Derived.Test.YtjmkkkfloalliabM1
import Derived.WalkKit
import Derived.Lib.Strings
import Derived.BigQuiet
import Derived.Deep.QuietTactic
namespace Go.Proofs.Ytjmkkkfloalliab
set_option linter.unusedVariables false
open Go.RowKit

set_option maxHeartbeats 400000 in
theorem slot_any (r h : Int) (w : World) (h0 : 0 ≤ r) (h1 : r ≤ 100000) :
    Calls Try.prog 48 #[.int .i64 r, .int .i64 h] w fun e w' => e = .returned (.int .i64 (if h < r then r - 1 else r)) ∧ w' = w := by
  by_cases hlt : h < r
  · go_enter Try.func48, Try.ntmps48
    go_wp2
    go_ret
    exact ⟨rfl, rfl⟩
  · go_enter Try.func48, Try.ntmps48
    go_wp2
    go_ret
    exact ⟨rfl, rfl⟩

theorem sl_int (r h : Nat) : (if (h : Int) < (r : Int) then (r : Int) - 1 else (r : Int)) = ((M.sl h r : Nat) : Int) := by
  unfold M.sl
  by_cases hlt : h < r
  · rw [if_pos (by omega), if_pos hlt]; omega
  · rw [if_neg (by omega), if_neg hlt]

theorem slot_nat (r h : Nat) (w : World) (h1 : r ≤ 100000) :
    Calls Try.prog 48 #[.int .i64 r, .int .i64 h] w fun e w' => e = .returned (.int .i64 (M.sl h r : Nat)) ∧ w' = w := by
  have := slot_any r h w (by omega) (by omega)
  rw [sl_int] at this
  exact this

set_option maxHeartbeats 400000 in
theorem readU16_any (a b : Int) (w : World) (a0 : 0 ≤ a) (a1 : a ≤ 255) (b0 : 0 ≤ b) (b1 : b ≤ 255) :
    Calls Try.prog 68 #[.int .u8 a, .int .u8 b] w fun e w' => e = .returned (.int .i64 (a * 256 + b)) ∧ w' = w := by
  go_enter Try.func68, Try.ntmps68
  go_wp2
  go_ret
  exact ⟨rfl, rfl⟩

set_option maxHeartbeats 400000 in
theorem savedSize_any (n r : Int) (w : World) (h0 : 0 ≤ n) (h1 : n ≤ 100000) (h2 : 1 ≤ r) (h3 : r ≤ 1000) :
    Calls Try.prog 69 #[.int .i64 n, .int .i64 r] w fun e w' => e = .returned (.int .i64 (9 + n + 2 * (n / r + 1) + 2)) ∧ w' = w := by
  have hq : 0 ≤ n / r := Int.ediv_nonneg h0 (by omega)
  have hq2 : n / r ≤ 100000 := Int.le_trans (Int.ediv_le_self r h0) h1
  go_enter Try.func69, Try.ntmps69
  go_wp2
  go_ret
  exact ⟨rfl, rfl⟩

/-- the two bytes of a number -/
def two (v : Nat) : List UInt8 := [UInt8.ofNat (v / 256), UInt8.ofNat (v % 256)]

set_option maxRecDepth 100000 in
set_option maxHeartbeats 400000 in
theorem u16_any (v : Nat) (w : World) (h1 : v ≤ 65535) :
    Calls Try.prog 73 #[.int .i64 v] w fun e w' => e = .returned (.string ⟨(two v).toArray⟩) ∧ Below w.heap.size w w' := by
  have hr : Sem.run Try.prog (convert 75 9 (.slice (some ⟨w.heap.size, 0, none⟩) 2 2)) (w.alloc (.cells #[.int .u8 ((v : Int) / 256), .int .u8 ((v : Int) % 256)] 5)) = .ok (.string (strOfNums [(v : Int) / 256, (v : Int) % 256])) (w.alloc (.cells #[.int .u8 ((v : Int) / 256), .int .u8 ((v : Int) % 256)] 5)) := by
    refine run_convert_bytes_arg (w.alloc (.cells #[.int .u8 ((v : Int) / 256), .int .u8 ((v : Int) % 256)] 5)) 75 5 Try.underlying75 Try.underlying5 w.heap.size 0 2 2 [(v : Int) / 256, (v : Int) % 256] rfl ?_ 9 Try.underlying9
    intro i hi
    rw [(Blk.new w #[.int .u8 ((v : Int) / 256), .int .u8 ((v : Int) % 256)] 5).cell? (0 + i)]
    match i, hi with
    | 0, _ => rfl
    | 1, _ => rfl
  go_enter Try.func73, Try.ntmps73
  go_wp2
  go_ret
  refine ⟨ret_str ?_, (Below.refl _ _).alloc (Nat.le_refl _) _⟩
  simp only [strOfNums, two, List.map_cons, List.map_nil]
  rw [show ((v : Int) / 256).toNat = v / 256 from by omega, show ((v : Int) % 256).toNat = v % 256 from by omega]

theorem bytesLess_eq : ∀ x y : List UInt8, Op.bytesLess x y = M.blt x y
  | [], [] => rfl
  | _ :: _, [] => rfl
  | [], _ :: _ => rfl
  | a :: x, b :: y => by simp [Op.bytesLess, M.blt, bytesLess_eq x y]

theorem extract_toList (t : ByteArray) (k : Nat) : (t.extract k t.size).toList = t.data.toList.drop k := by
  rw [Lib.toList_data, Lib.extract_data, List.take_of_length_le]
  rw [List.length_drop, Array.length_toList]; exact Nat.le_refl _

/-- how many of the first k suffixes stand ahead of p's -/
def cntTo (t : List UInt8) (p k : Nat) : Nat := (List.range k).countP (fun q => M.blt (t.drop q) (t.drop p))
theorem cntTo_succ (t : List UInt8) (p k : Nat) : cntTo t p (k + 1) = cntTo t p k + if M.blt (t.drop k) (t.drop p) = true then 1 else 0 := by
  unfold cntTo
  rw [List.range_succ, List.countP_append, List.countP_singleton]
theorem cntTo_le (t : List UInt8) (p k : Nat) : cntTo t p k ≤ k := by
  have := List.countP_le_length (p := fun q => M.blt (t.drop q) (t.drop p)) (l := List.range k)
  simpa [cntTo] using this

set_option maxRecDepth 100000 in
set_option maxHeartbeats 400000 in
theorem countBelow_any (t : ByteArray) (p : Nat) (w : World) (h0 : t.size ≤ 1000) (h1 : p ≤ t.size) :
    Calls Try.prog 63 #[.string t, .int .i64 p] w fun e w' => e = .returned (.int .i64 (M.row t.data.toList p : Nat)) ∧ ∃ q, w' = w.drewN q := by
  have hrow : M.row t.data.toList p = cntTo t.data.toList p (t.size + 1) := rfl
  rw [hrow]
  clear hrow
  go_enter Try.func63, Try.ntmps63
  go_wp2
  go_loopw [5, 6] (fun n i wr => ∃ k : Nat, k ≤ t.size + 1 ∧ i = .int .i64 k ∧ n = .int .i64 (cntTo t.data.toList p k : Nat) ∧ ∃ q, wr = w.drewN q) (fun _ i _ => t.size + 1 - (intOf i).toNat)
  case atStart => exact ⟨0, by omega, rfl, rfl, 0, rfl⟩
  case round =>
    obtain ⟨k, hk, rfl, rfl, q, rfl⟩ := hrel
    have hc := cntTo_le t.data.toList p k
    have HS : Hid (cntTo t.data.toList p (k + 1) = cntTo t.data.toList p k + if M.blt (t.data.toList.drop k) (t.data.toList.drop p) = true then 1 else 0) := cntTo_succ _ _ _
    have HE : Hid (Op.bytesLess (t.extract k t.size).toList (t.extract p t.size).toList = M.blt (t.data.toList.drop k) (t.data.toList.drop p)) := by
      show _ = _
      rw [extract_toList, extract_toList, bytesLess_eq]
    by_cases hlt : k ≤ t.size
    · go_wp2
      go_quiet (fail)
      rw [HE.out]
      cases hb : M.blt (t.data.toList.drop k) (t.data.toList.drop p) with
      | true =>
        have HB := HS.out
        rw [hb] at HB
        have HS2 : Hid (cntTo t.data.toList p (k + 1) = cntTo t.data.toList p k + 1) := HB
        clear HB HS HE hb
        go_wp2
        go_roundw
        case rel => exact ⟨k + 1, by omega, by go_num, by rw [HS2.out]; go_num, _, rfl⟩
        case measure => simp [intOf]; omega
      | false =>
        have HB := HS.out
        rw [hb] at HB
        have HS2 : Hid (cntTo t.data.toList p (k + 1) = cntTo t.data.toList p k) := HB
        clear HB HS HE hb
        go_wp2
        go_roundw
        case rel => exact ⟨k + 1, by omega, by go_num, by rw [HS2.out], _, rfl⟩
        case measure => simp [intOf]; omega
    · have hk2 : k = t.size + 1 := by omega
      subst hk2
      clear HS HE
      go_wp2
      go_ret
      exact ⟨rfl, _, rfl⟩
end Go.Proofs.Ytjmkkkfloalliab
