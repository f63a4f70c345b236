import Derived.Test.YtjmkkkfloalliabRows
import Derived.Test.YtjmkkkfloalliabK00
import Derived.WalkKit
import Derived.Laws.BytesArg
import Derived.Laws.MakeOwn
import Derived.Deep.Draws
import Derived.Lib.Strings
import Derived.BigQuiet
import Derived.Deep.QuietTactic
import Derived.BigRegion
import Derived.Laws.AppendOwn
import Derived.Deep.Cut
import Derived.Deep.RegionHeld3
namespace Go.Proofs.Ytjmkkkfloalliab
set_option linter.unusedVariables false
open Go.RowKit

/-- Block b holds just the cells vs, none of them frozen. -/
def Blk (w : World) (b : Nat) (vs : List Value) : Prop := ∃ T, w.heap[b]? = some (.cells vs.toArray T (0, 0))

theorem Blk.lt {w : World} {b : Nat} {vs : List Value} (h : Blk w b vs) : b < w.heap.size := by
  obtain ⟨T, h⟩ := h
  exact (Array.getElem?_eq_some_iff.1 h).1

theorem Blk.cell {w : World} {b : Nat} {vs : List Value} (h : Blk w b vs) (i : Nat) (hi : i < vs.length) : w.cell? ⟨b, i, none⟩ = some vs[i] := by
  obtain ⟨T, h⟩ := h
  simp [World.cell?, h, hi]

theorem Blk.cell? {w : World} {b : Nat} {vs : List Value} (h : Blk w b vs) (i : Nat) : w.cell? ⟨b, i, none⟩ = vs[i]? := by
  obtain ⟨T, h⟩ := h
  simp [World.cell?, h]

theorem Blk.frozen {w : World} {b : Nat} {vs : List Value} (h : Blk w b vs) (i : Nat) : w.frozen? ⟨b, i, none⟩ = false := by
  obtain ⟨T, h⟩ := h
  simp [World.frozen?, h]

theorem Blk.of_heap {w w' : World} {b : Nat} {vs : List Value} (h : Blk w b vs) (e : w'.heap[b]? = w.heap[b]?) : Blk w' b vs := by
  obtain ⟨T, h⟩ := h
  exact ⟨T, e.trans h⟩

theorem Blk.below {B : Nat} {w w' : World} {b : Nat} {vs : List Value} (h : Blk w b vs) (hb : Below B w w') (hB : b < B) : Blk w' b vs := h.of_heap (hb.block b hB)

theorem Blk.drew {w : World} {b : Nat} {vs : List Value} (h : Blk w b vs) : Blk w.drew b vs := h
theorem Blk.drewN {w : World} {b : Nat} {vs : List Value} (h : Blk w b vs) (n : Nat) : Blk (w.drewN n) b vs := h

theorem Blk.alloc {w : World} {b : Nat} {vs : List Value} (h : Blk w b vs) (o : Obj) : Blk (w.alloc o) b vs :=
  h.of_heap (Below.heap_alloc w o b h.lt)

theorem Blk.new (w : World) (c : Array Value) (T : TypeId) : Blk (w.alloc (.cells c T)) w.heap.size c.toList := by
  refine ⟨T, ?_⟩
  show (w.heap.push _)[w.heap.size]? = _
  simp

theorem Blk.other {w : World} {b : Nat} {vs : List Value} (h : Blk w b vs) {a : Addr} (hne : a.block ≠ b) (v : Value) : Blk (w.setCell a v) b vs :=
  h.of_heap (Below.heap_setCell w a v b (fun e => hne e.symm))

theorem Blk.set {w : World} {b : Nat} {vs : List Value} (h : Blk w b vs) (i : Nat) (v : Value) : Blk (w.setCell ⟨b, i, none⟩ v) b (vs.set i v) := by
  obtain ⟨T, h⟩ := h
  refine ⟨T, ?_⟩
  have hlt : b < w.heap.size := (Array.getElem?_eq_some_iff.1 h).1
  simp only [World.setCell, Array.getElem?_modify, if_true, h, Option.map_some]
  simp

/-- What a block of whole numbers holds. -/
def Nums (k : IntKind) (w : World) (b : Nat) (xs : List Int) : Prop := Blk w b (xs.map (Value.int k))

theorem Nums.cell {k : IntKind} {w : World} {b : Nat} {xs : List Int} (h : Nums k w b xs) (i : Nat) (hi : i < xs.length) : w.cell? ⟨b, i, none⟩ = some (.int k (xs.getD i 0)) := by
  rw [Blk.cell h i (by simpa using hi)]
  simp [List.getElem?_eq_getElem hi]

theorem Nums.set {k : IntKind} {w : World} {b : Nat} {xs : List Int} (h : Nums k w b xs) (i : Nat) (v : Int) : Nums k (w.setCell ⟨b, i, none⟩ (.int k v)) b (xs.set i v) := by
  have := Blk.set h i (.int k v)
  unfold Nums
  rw [List.map_set]
  exact this

theorem below_drewN {B : Nat} {a w : World} (h : Below B a w) (n : Nat) : Below B a (w.drewN n) := ⟨h.os, h.tape, h.output, h.size, h.block⟩

theorem bcell {B : Nat} {W w1 : World} (hb : Below B W w1) : (∀ b o, b < B → w1.cell? ⟨b, o, none⟩ = W.cell? ⟨b, o, none⟩) ∧ (∀ b o, b < B → w1.frozen? ⟨b, o, none⟩ = W.frozen? ⟨b, o, none⟩) :=
  ⟨fun b o h => hb.cell (p := ⟨b, o, none⟩) h, fun b o h => hb.frozen (p := ⟨b, o, none⟩) h⟩

theorem ret_int {k : IntKind} {a b : Int} (h : a = b) : Ending.returned (.int k a) = .returned (.int k b) := by rw [h]
theorem ret_str {a b : ByteArray} (h : a.data.toList = b.data.toList) : Ending.returned (.string a) = .returned (.string b) := by
  have : a = b := by cases a; cases b; simp_all
  rw [this]
theorem bytes_eq {a b : ByteArray} (h : a.data.toList = b.data.toList) : a = b := by cases a; cases b; simp_all

/-- A row of n zeros, as 'make' lays it. -/
def zeroRow (z : Value) (n : Nat) : Array Value := (List.replicate n z).toArray
theorem zeroRow_toList (z : Value) (n : Nat) : (zeroRow z n).toList = List.replicate n z := rfl
theorem madeCells_one (z : Value) (n : Nat) : madeCells #[z] n = zeroRow z n := by
  apply Array.ext
  · simp [size_madeCells, zeroRow]
  · intro i h1 h2
    simp [madeCells, zeroRow, Nat.mod_one]

theorem run_make_row {P : Program} (t e : TypeId) (i : TypeInfo) (z : Value) (ht : P.underlying t = some (.slice e)) (hi : P.info? e = some i) (hz : i.zero = some z) (hs : i.size = 1) (hc : z.cells = #[z])
    (hb : i.bytes ≤ 4096) (l : Int) (n : Nat) (hl : l = n) (hn : n ≤ 1000000000) (w : World) :
    Sem.run P (Instr.makeSlice t (.int .i64 l) (.int .i64 l)) w = .ok (.slice (some ⟨w.heap.size, 0, none⟩) n n) (w.alloc (.cells (zeroRow z n) e)) := by
  subst hl
  have h : (i.bytes : Int) * (n : Int) ≤ 281474976710656 := by
    have : i.bytes * n ≤ 4096 * 1000000000 := Nat.mul_le_mul hb hn
    have h2 : ((i.bytes * n : Nat) : Int) ≤ 281474976710656 := by omega
    rwa [Int.natCast_mul] at h2
  have := run_make (P := P) w t e i z ht hi hz .i64 .i64 n n (by omega) (Int.le_refl _) h (by omega)
  rw [hs, hc, Nat.mul_one, madeCells_one] at this
  simpa using this

theorem Nums.new (k : IntKind) (w : World) (n : Nat) (T : TypeId) : Nums k (w.alloc (.cells (zeroRow (.int k 0) n) T)) w.heap.size (List.replicate n 0) := by
  have := Blk.new w (zeroRow (.int k 0) n) T
  rw [zeroRow_toList] at this
  unfold Nums
  rw [List.map_replicate]
  exact this
end Go.Proofs.Ytjmkkkfloalliab

namespace Go.Proofs.Ytjmkkkfloalliab
set_option linter.unusedVariables false
open Go.RowKit

set_option maxHeartbeats 400000 in
theorem slot_any (r h : Int) (w : World) (h0 : 0 ≤ r) (h1 : r ≤ 100000) :
    Calls Try.prog 48 #[.int .i64 r, .int .i64 h] w fun e w' => e = .returned (.int .i64 (if h < r then r - 1 else r)) ∧ w' = w := by
  by_cases hlt : h < r
  · go_enter Try.func48, Try.ntmps48
    go_wp2
    go_ret
    exact ⟨rfl, rfl⟩
  · go_enter Try.func48, Try.ntmps48
    go_wp2
    go_ret
    exact ⟨rfl, rfl⟩

theorem sl_int (r h : Nat) : (if (h : Int) < (r : Int) then (r : Int) - 1 else (r : Int)) = ((M.sl h r : Nat) : Int) := by
  unfold M.sl
  by_cases hlt : h < r
  · rw [if_pos (by omega), if_pos hlt]; omega
  · rw [if_neg (by omega), if_neg hlt]

theorem slot_nat (r h : Nat) (w : World) (h1 : r ≤ 100000) :
    Calls Try.prog 48 #[.int .i64 r, .int .i64 h] w fun e w' => e = .returned (.int .i64 (M.sl h r : Nat)) ∧ w' = w := by
  have := slot_any r h w (by omega) (by omega)
  rw [sl_int] at this
  exact this

set_option maxHeartbeats 400000 in
theorem readU16_any (a b : Int) (w : World) (a0 : 0 ≤ a) (a1 : a ≤ 255) (b0 : 0 ≤ b) (b1 : b ≤ 255) :
    Calls Try.prog 68 #[.int .u8 a, .int .u8 b] w fun e w' => e = .returned (.int .i64 (a * 256 + b)) ∧ w' = w := by
  go_enter Try.func68, Try.ntmps68
  go_wp2
  go_ret
  exact ⟨rfl, rfl⟩

set_option maxHeartbeats 400000 in
theorem savedSize_any (n r : Int) (w : World) (h0 : 0 ≤ n) (h1 : n ≤ 100000) (h2 : 1 ≤ r) (h3 : r ≤ 1000) :
    Calls Try.prog 69 #[.int .i64 n, .int .i64 r] w fun e w' => e = .returned (.int .i64 (9 + n + 2 * (n / r + 1) + 2)) ∧ w' = w := by
  have hq : 0 ≤ n / r := Int.ediv_nonneg h0 (by omega)
  have hq2 : n / r ≤ 100000 := Int.le_trans (Int.ediv_le_self r h0) h1
  go_enter Try.func69, Try.ntmps69
  go_wp2
  go_ret
  exact ⟨rfl, rfl⟩

/-- the two bytes of a number -/
def two (v : Nat) : List UInt8 := [UInt8.ofNat (v / 256), UInt8.ofNat (v % 256)]

set_option maxRecDepth 100000 in
set_option maxHeartbeats 400000 in
theorem u16_any (v : Nat) (w : World) (h1 : v ≤ 65535) :
    Calls Try.prog 73 #[.int .i64 v] w fun e w' => e = .returned (.string ⟨(two v).toArray⟩) ∧ Below w.heap.size w w' := by
  have hr : Sem.run Try.prog (convert 75 9 (.slice (some ⟨w.heap.size, 0, none⟩) 2 2)) (w.alloc (.cells #[.int .u8 ((v : Int) / 256), .int .u8 ((v : Int) % 256)] 5)) = .ok (.string (strOfNums [(v : Int) / 256, (v : Int) % 256])) (w.alloc (.cells #[.int .u8 ((v : Int) / 256), .int .u8 ((v : Int) % 256)] 5)) := by
    refine run_convert_bytes_arg (w.alloc (.cells #[.int .u8 ((v : Int) / 256), .int .u8 ((v : Int) % 256)] 5)) 75 5 Try.underlying75 Try.underlying5 w.heap.size 0 2 2 [(v : Int) / 256, (v : Int) % 256] rfl ?_ 9 Try.underlying9
    intro i hi
    rw [(Blk.new w #[.int .u8 ((v : Int) / 256), .int .u8 ((v : Int) % 256)] 5).cell? (0 + i)]
    match i, hi with
    | 0, _ => rfl
    | 1, _ => rfl
  go_enter Try.func73, Try.ntmps73
  go_wp2
  go_ret
  refine ⟨ret_str ?_, (Below.refl _ _).alloc (Nat.le_refl _) _⟩
  simp only [strOfNums, two, List.map_cons, List.map_nil]
  rw [show ((v : Int) / 256).toNat = v / 256 from by omega, show ((v : Int) % 256).toNat = v % 256 from by omega]

theorem bytesLess_eq : ∀ x y : List UInt8, Op.bytesLess x y = M.blt x y
  | [], [] => rfl
  | _ :: _, [] => rfl
  | [], _ :: _ => rfl
  | a :: x, b :: y => by simp [Op.bytesLess, M.blt, bytesLess_eq x y]

theorem extract_toList (t : ByteArray) (k : Nat) : (t.extract k t.size).toList = t.data.toList.drop k := by
  rw [Lib.toList_data, Lib.extract_data, List.take_of_length_le]
  rw [List.length_drop, Array.length_toList]; exact Nat.le_refl _

/-- how many of the first k suffixes stand ahead of p's -/
def cntTo (t : List UInt8) (p k : Nat) : Nat := (List.range k).countP (fun q => M.blt (t.drop q) (t.drop p))
theorem cntTo_succ (t : List UInt8) (p k : Nat) : cntTo t p (k + 1) = cntTo t p k + if M.blt (t.drop k) (t.drop p) = true then 1 else 0 := by
  unfold cntTo
  rw [List.range_succ, List.countP_append, List.countP_singleton]
theorem cntTo_le (t : List UInt8) (p k : Nat) : cntTo t p k ≤ k := by
  have := List.countP_le_length (p := fun q => M.blt (t.drop q) (t.drop p)) (l := List.range k)
  simpa [cntTo] using this

set_option maxRecDepth 100000 in
set_option maxHeartbeats 400000 in
theorem countBelow_any (t : ByteArray) (p : Nat) (w : World) (h0 : t.size ≤ 1000) (h1 : p ≤ t.size) :
    Calls Try.prog 63 #[.string t, .int .i64 p] w fun e w' => e = .returned (.int .i64 (M.row t.data.toList p : Nat)) ∧ ∃ q, w' = w.drewN q := by
  have hrow : M.row t.data.toList p = cntTo t.data.toList p (t.size + 1) := rfl
  rw [hrow]
  clear hrow
  go_enter Try.func63, Try.ntmps63
  go_wp2
  go_loopw [5, 6] (fun n i wr => ∃ k : Nat, k ≤ t.size + 1 ∧ i = .int .i64 k ∧ n = .int .i64 (cntTo t.data.toList p k : Nat) ∧ ∃ q, wr = w.drewN q) (fun _ i _ => t.size + 1 - (intOf i).toNat)
  case atStart => exact ⟨0, by omega, rfl, rfl, 0, rfl⟩
  case round =>
    obtain ⟨k, hk, rfl, rfl, q, rfl⟩ := hrel
    have hc := cntTo_le t.data.toList p k
    have HS : Hid (cntTo t.data.toList p (k + 1) = cntTo t.data.toList p k + if M.blt (t.data.toList.drop k) (t.data.toList.drop p) = true then 1 else 0) := cntTo_succ _ _ _
    have HE : Hid (Op.bytesLess (t.extract k t.size).toList (t.extract p t.size).toList = M.blt (t.data.toList.drop k) (t.data.toList.drop p)) := by
      show _ = _
      rw [extract_toList, extract_toList, bytesLess_eq]
    by_cases hlt : k ≤ t.size
    · go_wp2
      go_quiet (fail)
      rw [HE.out]
      cases hb : M.blt (t.data.toList.drop k) (t.data.toList.drop p) with
      | true =>
        have HB := HS.out
        rw [hb] at HB
        have HS2 : Hid (cntTo t.data.toList p (k + 1) = cntTo t.data.toList p k + 1) := HB
        clear HB HS HE hb
        go_wp2
        go_roundw
        case rel => exact ⟨k + 1, by omega, by go_num, by rw [HS2.out]; go_num, _, rfl⟩
        case measure => simp [intOf]; omega
      | false =>
        have HB := HS.out
        rw [hb] at HB
        have HS2 : Hid (cntTo t.data.toList p (k + 1) = cntTo t.data.toList p k) := HB
        clear HB HS HE hb
        go_wp2
        go_roundw
        case rel => exact ⟨k + 1, by omega, by go_num, by rw [HS2.out], _, rfl⟩
        case measure => simp [intOf]; omega
    · have hk2 : k = t.size + 1 := by omega
      subst hk2
      clear HS HE
      go_wp2
      go_ret
      exact ⟨rfl, _, rfl⟩
end Go.Proofs.Ytjmkkkfloalliab

namespace Go.Proofs.Ytjmkkkfloalliab
set_option linter.unusedVariables false
open Go.RowKit

theorem info_of {P : Program} {e : TypeId} {z : Value} {a b : Nat} (h : (P.info? e).map (fun i => (i.zero, i.size, i.bytes)) = some (some z, a, b)) : ∃ i : TypeInfo, P.info? e = some i ∧ i.zero = some z ∧ i.size = a ∧ i.bytes = b := by
  cases hi : P.info? e with
  | none => rw [hi] at h; cases h
  | some i =>
    rw [hi] at h
    simp only [Option.map_some, Option.some.injEq, Prod.mk.injEq] at h
    exact ⟨i, rfl, h.1, h.2.1, h.2.2⟩
theorem info_int : ∃ i : TypeInfo, Try.prog.info? 3 = some i ∧ i.zero = some (.int .i64 0) ∧ i.size = 1 ∧ i.bytes = 8 := info_of (by kernel_rfl)
theorem info_byte : ∃ i : TypeInfo, Try.prog.info? 5 = some i ∧ i.zero = some (.int .u8 0) ∧ i.size = 1 ∧ i.bytes = 1 := info_of (by kernel_rfl)

theorem make_ints (l : Int) (n : Nat) (hl : l = n) (hn : n ≤ 1000000000) (w : World) :
    Sem.run Try.prog (Instr.makeSlice 40 (.int .i64 l) (.int .i64 l)) w = .ok (.slice (some ⟨w.heap.size, 0, none⟩) n n) (w.alloc (.cells (zeroRow (.int .i64 0) n) 3)) := by
  obtain ⟨i, h1, h2, h3, h4⟩ := info_int
  exact run_make_row 40 3 i (.int .i64 0) Try.underlying40 h1 h2 h3 rfl (by omega) l n hl hn w

theorem make_bytes (l : Int) (n : Nat) (hl : l = n) (hn : n ≤ 1000000000) (w : World) :
    Sem.run Try.prog (Instr.makeSlice 75 (.int .i64 l) (.int .i64 l)) w = .ok (.slice (some ⟨w.heap.size, 0, none⟩) n n) (w.alloc (.cells (zeroRow (.int .u8 0) n) 5)) := by
  obtain ⟨i, h1, h2, h3, h4⟩ := info_byte
  exact run_make_row 75 5 i (.int .u8 0) Try.underlying75 h1 h2 h3 rfl (by omega) l n hl hn w

/-- the rows of the first k places, the others 0 -/
def rowsTo (t : List UInt8) (k : Nat) : List Int := (List.range (t.length + 1)).map fun i => if i < k then (M.row t i : Int) else 0
def rowsL (t : List UInt8) : List Int := (List.range (t.length + 1)).map fun i => (M.row t i : Int)
theorem rowsTo_zero (t : List UInt8) : rowsTo t 0 = List.replicate (t.length + 1) 0 := by
  unfold rowsTo
  rw [List.eq_replicate_iff]
  simp
theorem rowsTo_length (t : List UInt8) (k : Nat) : (rowsTo t k).length = t.length + 1 := by simp [rowsTo]
theorem rowsTo_set (t : List UInt8) (k : Nat) (hk : k ≤ t.length) : (rowsTo t k).set k (M.row t k : Int) = rowsTo t (k + 1) := by
  apply List.ext_getElem
  · simp [rowsTo]
  · intro i h1 h2
    simp [rowsTo, List.getElem_set]
    by_cases e : k = i
    · subst e; simp
    · rw [if_neg e]
      by_cases h : i < k
      · rw [if_pos h, if_pos (by omega)]
      · rw [if_neg h, if_neg (by omega)]
theorem rowsTo_all (t : List UInt8) : rowsTo t (t.length + 1) = rowsL t := by
  unfold rowsTo rowsL
  refine List.map_congr_left (fun i hi => ?_)
  rw [if_pos (List.mem_range.1 hi)]
theorem rowsL_at (t : List UInt8) (p : Nat) (hp : p ≤ t.length) : (rowsL t).getD p 0 = (M.row t p : Int) := by
  unfold rowsL
  rw [List.getD_eq_getElem?_getD, List.getElem?_map, List.getElem?_range (by omega)]
  rfl
theorem rowsL_length (t : List UInt8) : (rowsL t).length = t.length + 1 := by simp [rowsL]

theorem size_len (t : ByteArray) : t.data.toList.length = t.size := Array.length_toList

set_option maxRecDepth 100000 in
set_option maxHeartbeats 400000 in
theorem sortedRows_any (t : ByteArray) (w : World) (h0 : t.size ≤ 1000) :
    Calls Try.prog 47 #[.string t] w fun e w' => e = .returned (.slice (some ⟨w.heap.size, 0, none⟩) (t.size + 1) (t.size + 1)) ∧ Nums .i64 w' w.heap.size (rowsL t.data.toList) ∧ Below w.heap.size w w' := by
  have hm := make_ints ((t.size : Int) + 1) (t.size + 1) (by omega) (by omega)
  have hl := size_len t
  have HL : Hid (t.data.toList.length = t.size) := hl
  clear hl
  have h2 : (0 : Int) ≤ (t.size : Int) := by omega
  go_enter Try.func47, Try.ntmps47
  go_wp2
  clear hm
  go_loopw [11] (fun i wr => ∃ k : Nat, k ≤ t.size + 1 ∧ i = .int .i64 k ∧ Nums .i64 wr w.heap.size (rowsTo t.data.toList k) ∧ Below w.heap.size w wr) (fun i _ => t.size + 1 - (intOf i).toNat)
  case atStart =>
    refine ⟨0, by omega, rfl, ?_, (Below.refl _ _).alloc (Nat.le_refl _) _⟩
    rw [rowsTo_zero, HL.out]
    exact Nums.new _ _ _ _
  case round =>
    obtain ⟨k, hk, rfl, hn, hb⟩ := hrel
    by_cases hlt : k < t.size + 1
    · have hc := hn.cell k (by rw [rowsTo_length, HL.out]; exact hlt)
      have hf := Blk.frozen hn k
      go_wp2_with (go_at_call 63; refine (countBelow_any _ _ _ h0 (by omega)).mono ?_; rintro e w' ⟨rfl, q, rfl⟩)
      go_roundw
      case rel =>
        refine ⟨k + 1, by omega, by go_num, ?_, ?_⟩
        · rw [← rowsTo_set _ _ (by rw [HL.out]; omega)]
          exact Nums.set (k := .i64) (w := wr.drewN q) hn k _
        · exact (below_drewN hb q).setCell (Nat.le_refl _) _
      case measure => simp [intOf]; omega
    · have hk2 : k = t.size + 1 := by omega
      subst hk2
      go_wp2
      go_ret
      refine ⟨rfl, ?_, hb⟩
      rw [← rowsTo_all, HL.out]
      exact hn
end Go.Proofs.Ytjmkkkfloalliab

namespace Go.Proofs.Ytjmkkkfloalliab
set_option linter.unusedVariables false
open Go.RowKit

/-- the sum of the first k bytes, as Save reckons it -/
def sumTo (s : List UInt8) : Nat → Nat
  | 0 => 0
  | k + 1 => (sumTo s k + (k + 1) * ((s.getD k 0).toNat + 1)) % 65521
def sumL (s : List UInt8) : Nat := sumTo s s.length
theorem sumTo_lt (s : List UInt8) : ∀ k, sumTo s k < 65521
  | 0 => by simp [sumTo]
  | k + 1 => by unfold sumTo; exact Nat.mod_lt _ (by omega)
theorem getD_lt (l : List UInt8) (k : Nat) : (l.getD k 0).toNat ≤ 255 := by have := (l.getD k 0).toNat_lt; omega

theorem byte_at (s : ByteArray) (k : Nat) (h : k < s.size) : s[k] = s.data.toList.getD k 0 := by
  have h2 : k < s.data.size := h
  show s.data[k] = _
  rw [List.getD_eq_getElem?_getD, Array.getElem?_toList, Array.getElem?_eq_getElem h2]; rfl

set_option maxRecDepth 100000 in
set_option maxHeartbeats 400000 in
theorem checkSum_any (s : ByteArray) (w : World) (h0 : s.size ≤ 100000) :
    Calls Try.prog 74 #[.string s] w fun e w' => e = .returned (.int .i64 (sumL s.data.toList : Nat)) ∧ w' = w := by
  go_enter Try.func74, Try.ntmps74
  go_wp2
  go_loop [3, 4] (fun n i => ∃ k : Nat, k ≤ s.size ∧ i = .int .i64 k ∧ n = .int .i64 (sumTo s.data.toList k : Nat)) (fun _ i => s.size - (intOf i).toNat)
  case atStart => exact ⟨0, by omega, rfl, rfl⟩
  case round =>
    obtain ⟨k, hk, rfl, rfl⟩ := hrel
    have h1 := sumTo_lt s.data.toList k
    by_cases hlt : k < s.size
    · have hb := getD_lt s.data.toList k
      rw [← byte_at s k hlt] at hb
      have HB : Hid (s[k] = s.data.toList.getD k 0) := byte_at s k hlt
      have m0 : (0 : Int) ≤ ((k : Int) + 1) * ((s[k].toNat : Int) + 1) := Int.mul_nonneg (by omega) (by omega)
      have m1 : ((k : Int) + 1) * ((s[k].toNat : Int) + 1) ≤ 100000 * 256 := Int.mul_le_mul (by omega) (by omega) (by omega) (by omega)
      go_wp2
      go_round
      case rel =>
        refine ⟨k + 1, by omega, by go_num, ?_⟩
        rw [sumTo, ← HB.out]
        simp
      case measure => simp [intOf]; omega
    · have hk2 : k = s.size := by omega
      subst hk2
      go_wp2
      go_ret
      exact ⟨by unfold sumL; rw [size_len]; rfl, rfl⟩

/-- an index in memory: the rate, the row of the whole text, the bytes ahead -/
def Idx (w : World) (b : Nat) (rate whole : Nat) (a : ByteArray) : Prop := Blk w b [.int .i64 rate, .int .i64 whole, .string a]

/-- the list of numbers that bytes are -/
def nums (l : List UInt8) : List Int := l.map fun c => (c.toNat : Int)
theorem nums_length (l : List UInt8) : (nums l).length = l.length := by simp [nums]
theorem nums_set (l : List UInt8) (i : Nat) (c : UInt8) : (nums l).set i (c.toNat : Int) = nums (l.set i c) := by simp [nums, List.map_set]
theorem nums_str (l : List UInt8) : (strOfNums (nums l)).data.toList = l := by
  rw [strOfNums_data, nums, List.map_map]
  have : ((fun n : Int => UInt8.ofNat n.toNat) ∘ fun c : UInt8 => (c.toNat : Int)) = id := by
    funext c; simp
  rw [this, List.map_id]
theorem nums_replicate (n : Nat) : nums (List.replicate n 0) = List.replicate n 0 := by simp [nums]

theorem run_str {W : World} {b : Nat} {l : List UInt8} (cap : Nat) (h : Nums .u8 W b (nums l)) :
    Sem.run Try.prog (convert 75 9 (.slice (some ⟨b, 0, none⟩) l.length cap)) W = .ok (.string ⟨l.toArray⟩) W := by
  have := run_convert_bytes_arg (P := Try.prog) W 75 5 Try.underlying75 Try.underlying5 b 0 l.length cap (nums l) (nums_length l) (fun i hi => by
    rw [Nat.zero_add]; exact h.cell i (by rw [nums_length]; exact hi)) 9 Try.underlying9
  have e : strOfNums (nums l) = ⟨l.toArray⟩ := bytes_eq (by rw [nums_str])
  rw [e] at this
  exact this

set_option maxRecDepth 100000 in
set_option maxHeartbeats 400000 in
theorem newIndex_any (t : ByteArray) (rate : Nat) (w : World) (h0 : t.size ≤ 1000) :
    Calls Try.prog 31 #[.string t, .int .i64 rate] w fun e w' => ∃ b, e = .returned (.pointer (some ⟨b, 0, none⟩)) ∧ w.heap.size ≤ b ∧ Idx w' b rate (M.row t.data.toList 0) ⟨(M.ahead t.data.toList).toArray⟩ ∧ Below w.heap.size w w' := by
  have hm := make_bytes (t.size : Int) t.size rfl (by omega)
  have HL : Hid (t.data.toList.length = t.size) := size_len t
  go_enter Try.func31, Try.ntmps31
  go_wp2_with (go_at_call 47; refine (sortedRows_any _ _ h0).mono ?_; rintro e w1 ⟨rfl, hn, hb⟩; have hc0 := hn.cell 0 (by rw [rowsL_length]; omega); rw [rowsL_at _ _ (by omega)] at hc0)
  clear hm hc0
  have hs1 := hb.size
  go_loopw [8] (fun i wr => ∃ k : Nat, k ≤ t.size ∧ i = .int .i64 ((k : Int) + 1) ∧ Nums .i64 wr w.heap.size (rowsL t.data.toList) ∧ Nums .u8 wr w1.heap.size (nums (M.aheadTo t.data.toList k)) ∧ Below w.heap.size w wr) (fun i _ => t.size + 1 - (intOf i).toNat)
  case atStart =>
    refine ⟨0, by omega, rfl, Blk.alloc hn _, ?_, hb.alloc hs1 _⟩
    show Nums _ _ _ (nums (List.replicate _ 0))
    rw [HL.out, nums_replicate]
    exact Nums.new _ _ _ _
  case round =>
    obtain ⟨k, hk, rfl, hr, ha, hbw⟩ := hrel
    have hlt0 := hn.lt
    have hwl := M.row_le t.data.toList 0 (by omega)
    rw [HL.out] at hwl
    by_cases hlt : k < t.size
    · have hrl := M.row_le t.data.toList (k + 1) (by rw [HL.out]; omega)
      rw [HL.out] at hrl
      have hc := hr.cell (k + 1) (by rw [rowsL_length, HL.out]; omega)
      rw [rowsL_at _ _ (by rw [HL.out]; omega)] at hc
      have hsg : M.sl (M.row t.data.toList 0) (M.row t.data.toList (k + 1)) < t.size := by
        have := M.sig_lt t.data.toList k (by rw [HL.out]; exact hlt)
        rw [HL.out] at this
        exact this
      have ha1 := ha.cell (M.sl (M.row t.data.toList 0) (M.row t.data.toList (k + 1))) (by rw [nums_length, M.aheadTo_length, HL.out]; exact hsg)
      have hf1 := Blk.frozen ha (M.sl (M.row t.data.toList 0) (M.row t.data.toList (k + 1)))
      go_wp2_with (go_at_call 48; refine (slot_nat _ _ _ (by omega)).mono ?_; rintro e w' ⟨rfl, rfl⟩)
      have e1 : M.aheadTo t.data.toList (k + 1) = (M.aheadTo t.data.toList k).set (M.sl (M.row t.data.toList 0) (M.row t.data.toList (k + 1))) (t.data.toList.getD k 0) := rfl
      go_roundw
      case rel =>
        refine ⟨k + 1, by omega, by go_num, Blk.other hr (by simp; omega) _, ?_, hbw.setCell (by simp; omega) _⟩
        rw [e1, ← nums_set, ← byte_at t k hlt]
        exact ha.set _ _
      case measure => simp [intOf]; omega
    · have hk2 : k = t.size := by omega
      subst hk2
      have hrs := run_str (W := wr) (b := w1.heap.size) (l := M.aheadTo t.data.toList t.size) t.size ha
      rw [M.aheadTo_length, HL.out] at hrs
      go_wp2
      go_ret
      refine ⟨wr.heap.size, rfl, Nat.le_trans hs1 (by have := Blk.lt ha; omega), ?_, hbw.alloc hbw.size _⟩
      have e1 : M.ahead t.data.toList = M.aheadTo t.data.toList t.size := by unfold M.ahead; rw [HL.out]
      rw [e1]
      exact Blk.new _ _ _
end Go.Proofs.Ytjmkkkfloalliab

namespace Go.Proofs.Ytjmkkkfloalliab
set_option linter.unusedVariables false
open Go.RowKit

theorem zero91 : Try.zeroCells93.toList = List.replicate 256 (Value.int .i64 0) := by kernel_rfl

set_option maxRecDepth 100000 in
set_option maxHeartbeats 800000 in
theorem longerRows_any (a : ByteArray) (w : World) (h0 : a.size ≤ 1000) :
    Calls Try.prog 33 #[.string a] w fun e w' => ∃ b, e = .returned (.slice (some ⟨b, 0, none⟩) a.size a.size) ∧ w.heap.size ≤ b ∧ Nums .i64 w' b (M.lonL a.data.toList) ∧ Below w.heap.size w w' := by
  have HL : Hid (a.data.toList.length = a.size) := size_len a
  go_enter Try.func33, Try.ntmps33
  go_wp2
  go_loopw [4] (fun i wr => ∃ k : Nat, k ≤ a.size ∧ i = .int .i64 k ∧ Nums .i64 wr w.heap.size (M.tab (M.c1 a.data.toList k)) ∧ Below w.heap.size w wr) (fun i _ => a.size - (intOf i).toNat)
  case atStart =>
    refine ⟨0, by omega, rfl, ?_, (Below.refl _ _).alloc (Nat.le_refl _) _⟩
    rw [M.c1_zero]
    unfold Nums
    rw [List.map_replicate, ← zero91]
    exact Blk.new _ _ _
  case round =>
    obtain ⟨k, hk, rfl, hn, hb⟩ := hrel
    by_cases hlt : k < a.size
    · have hby := getD_lt a.data.toList k
      have hc := hn.cell (a.data.toList.getD k 0).toNat (by rw [M.tab_length]; omega)
      rw [M.tab_at _ _ (by omega)] at hc
      have hcl := M.c1_le a.data.toList k (a.data.toList.getD k 0).toNat
      rw [HL.out] at hcl
      have hf := Blk.frozen hn (a.data.toList.getD k 0).toNat
      have HB : Hid (a[k] = a.data.toList.getD k 0) := byte_at a k hlt
      rw [← byte_at a k hlt] at hby hc hf hcl
      go_wp2
      go_roundw
      case rel =>
        refine ⟨k + 1, by omega, by go_num, ?_, hb.setCell (Nat.le_refl _) _⟩
        rw [← M.c1_step _ _ (by rw [HL.out]; exact hlt), ← HB.out]
        exact hn.set _ _
      case measure => simp [intOf]; omega
    · have hk2 : k = a.size := by omega
      subst hk2
      rw [← HL.out, M.c1_all] at hn
      go_wp2
      clear hk hlt
      go_loopw [5, 6] (fun r i wr => ∃ c : Nat, c ≤ 256 ∧ i = .int .i64 c ∧ r = .int .i64 ((1 + M.bel a.data.toList c : Nat) : Int) ∧ Nums .i64 wr w.heap.size (M.tab (M.c2 a.data.toList c)) ∧ Below w.heap.size w wr) (fun _ i _ => 256 - (intOf i).toNat)
      case atStart => exact ⟨0, by omega, rfl, by rw [M.bel_zero]; rfl, hn, hb⟩
      case round =>
        clear hn hb
        obtain ⟨c, hc256, rfl, rfl, hn, hb⟩ := hrel
        have hbl := M.bel_le a.data.toList c
        have hcl := M.cnt_le a.data.toList c
        rw [HL.out] at hbl hcl
        by_cases hlt : c < 256
        · have hc := hn.cell c (by rw [M.tab_length]; exact hlt)
          rw [M.tab_at _ _ hlt, M.c2_at] at hc
          have hf := Blk.frozen hn c
          go_wp2
          go_roundw
          case rel =>
            refine ⟨c + 1, by omega, by go_num, by rw [M.bel_succ]; go_num, ?_, hb.setCell (Nat.le_refl _) _⟩
            rw [← M.c2_step]
            exact hn.set _ _
          case measure => simp [intOf]; omega
        · have hk2 : c = 256 := by omega
          subst hk2
          rw [M.c2_all] at hn
          have hm := make_ints (a.size : Int) a.size rfl (by omega)
          have hz := hn.lt
          clear hbl hcl hc256 hlt
          obtain ⟨w2, hw2⟩ : ∃ x, x = wr := ⟨wr, rfl⟩
          subst hw2
          go_wp2
          clear hm
          go_loopw [42] (fun i w3 => ∃ k : Nat, k ≤ a.size ∧ i = .int .i64 k ∧ Nums .i64 w3 w.heap.size (M.tab (M.c3 a.data.toList k)) ∧ Nums .i64 w3 w2.heap.size (M.lonTo a.data.toList k) ∧ Below w.heap.size w w3) (fun i _ => a.size - (intOf i).toNat)
          case atStart =>
            refine ⟨0, by omega, rfl, Blk.alloc hn _, ?_, hb.alloc (by omega) _⟩
            rw [M.lonTo_zero, HL.out]
            exact Nums.new _ _ _ _
          case round =>
            clear hn hb
            obtain ⟨k, hk, rfl, hn, hl, hb⟩ := hrel
            by_cases hlt : k < a.size
            · have hby := getD_lt a.data.toList k
              have hc := hn.cell (a.data.toList.getD k 0).toNat (by rw [M.tab_length]; omega)
              rw [M.tab_at _ _ (by omega)] at hc
              have hcl := M.c3_le a.data.toList k (a.data.toList.getD k 0).toNat
              rw [HL.out] at hcl
              have hf := Blk.frozen hn (a.data.toList.getD k 0).toNat
              have hcl2 := hl.cell k (by rw [M.lonTo_length, HL.out]; exact hlt)
              have hfl := Blk.frozen hl k
              have HLF : Hid (M.LF a.data.toList k = M.c3 a.data.toList k (a.data.toList.getD k 0).toNat) := (M.c3_LF _ _).symm
              have HB : Hid (a[k] = a.data.toList.getD k 0) := byte_at a k hlt
              have hne : w2.heap.size ≠ w.heap.size := by omega
              rw [← byte_at a k hlt] at hby hc hf hcl
              go_wp2
              go_roundw
              case rel =>
                refine ⟨k + 1, by omega, by go_num, ?_, ?_, (hb.setCell (by simp; omega) _).setCell (Nat.le_refl _) _⟩
                · rw [← M.c3_step _ _ (by rw [HL.out]; exact hlt), ← HB.out]
                  exact Nums.set (Blk.other hn (by simp; omega) _) _ _
                · rw [← M.lonTo_set, HLF.out, ← HB.out]
                  exact Blk.other (Nums.set hl _ _) (by simp; omega) _
              case measure => simp [intOf]; omega
            · have hk2 : k = a.size := by omega
              subst hk2
              go_wp2
              go_ret
              refine ⟨_, rfl, by omega, ?_, hb⟩
              rw [← M.lonTo_all, HL.out]
              exact hl
end Go.Proofs.Ytjmkkkfloalliab

namespace Go.Proofs.Ytjmkkkfloalliab
set_option linter.unusedVariables false
open Go.RowKit

theorem Idx.c0 {w : World} {b rate whole : Nat} {a : ByteArray} (h : Idx w b rate whole a) : w.cell? ⟨b, 0, none⟩ = some (.int .i64 rate) := Blk.cell? h 0
theorem Idx.c1 {w : World} {b rate whole : Nat} {a : ByteArray} (h : Idx w b rate whole a) : w.cell? ⟨b, 1, none⟩ = some (.int .i64 whole) := Blk.cell? h 1
theorem Idx.c2 {w : World} {b rate whole : Nat} {a : ByteArray} (h : Idx w b rate whole a) : w.cell? ⟨b, 2, none⟩ = some (.string a) := Blk.cell? h 2

set_option maxRecDepth 100000 in
set_option maxHeartbeats 800000 in
theorem rows_any (a : ByteArray) (bi rate h : Nat) (w : World) (h0 : a.size ≤ 1000) (hh : h ≤ a.size) (hI : Idx w bi rate h a) :
    Calls Try.prog 54 #[.pointer (some ⟨bi, 0, none⟩)] w fun e w' => ∃ b, e = .returned (.slice (some ⟨b, 0, none⟩) (a.size + 1) (a.size + 1)) ∧ w.heap.size ≤ b ∧ Nums .i64 w' b (M.rowsI a.data.toList h) ∧ Below w.heap.size w w' := by
  have HL : Hid (a.data.toList.length = a.size) := size_len a
  have hm := make_ints ((a.size : Int) + 1) (a.size + 1) (by omega) (by omega)
  have i2 := hI.c2
  have hbi := Blk.lt hI
  go_enter Try.func54, Try.ntmps54
  go_wp2_with (go_at_call 33; refine (longerRows_any _ _ h0).mono ?_; rintro e w1 ⟨bl, rfl, hbl, hlon, hb1⟩; have i2' := Idx.c2 (Blk.below hI hb1 hbi); have hbi1 : bi < w1.heap.size := Blk.lt (Blk.below hI hb1 hbi))
  clear hm i2 i2'
  have hs1 := hb1.size
  have hll := hlon.lt
  go_loopw [5] (fun i wr => ∃ q r : Nat, q ≤ a.size ∧ i = .int .i64 q ∧ Hid (M.stp a.data.toList h (a.size - q) = some r) ∧ Nums .i64 wr w1.heap.size (M.rp a.data.toList h q) ∧ Nums .i64 wr bl (M.lonL a.data.toList) ∧ Below w.heap.size w wr) (fun i _ => (intOf i).toNat)
  case atStart =>
    refine ⟨a.size, 0, Nat.le_refl _, rfl, ?_, ?_, Blk.alloc hlon _, hb1.alloc hs1 _⟩
    · show _ = _
      rw [Nat.sub_self]; rfl
    · rw [← HL.out, M.rp_start, HL.out]
      exact Nums.new _ _ _ _
  case round =>
    obtain ⟨q, r, hq, rfl, hst, hr, hl, hb⟩ := hrel
    have HI : Idx wr bi rate h a := Blk.below hI hb hbi
    have i1 := HI.c1
    have i2 := HI.c2
    have hrq := hr.cell q (by rw [M.rp_length, HL.out]; omega)
    have hrr := M.rowsOf_some a.data.toList h q r (by rw [HL.out]; exact hq) (by rw [HL.out]; exact hst.out)
    rw [M.rp_at _ _ _ (by rw [HL.out]; exact hq), hrr] at hrq
    have hrle := M.rowsOf_le a.data.toList h (by rw [HL.out]; exact hh) q (by rw [HL.out]; exact hq)
    rw [hrr, HL.out] at hrle
    clear hrr
    by_cases hq0 : q = 0
    · subst hq0
      go_wp2
      go_quiet (fail)
      go_wp2
      go_ret
      refine ⟨_, rfl, hs1, ?_, below_drewN hb _⟩
      rw [← M.rp_zero]
      exact hr
    · have hq1 : 0 < q := by omega
      have hq2 : q < a.size + 1 := by omega
      by_cases hrh : r = h
      · subst hrh
        go_wp2
        go_quiet (fail)
        go_wp2
        go_ret
        refine ⟨_, rfl, hs1, ?_, below_drewN hb _⟩
        rw [← M.rp_stop _ _ q (by rw [HL.out]; exact hq) (by rw [HL.out]; exact hst.out)]
        exact hr
      · have hne : ((r : Int) != (h : Int)) = true := by rw [bne_iff_ne]; omega
        obtain ⟨p, rfl⟩ : ∃ p, q = p + 1 := ⟨q - 1, by omega⟩
        have hpa : p < a.size := by omega
        have hpi : (p : Int) < (a.size : Int) := by omega
        have hp0 : (0 : Int) ≤ (p : Int) + 1 := by omega
        have hpj : (p : Int) + 1 < (a.size : Int) + 1 := by omega
        have hsl : M.sl h r < a.size := M.sl_lt h r a.size hh hrle hrh
        have hlc := hl.cell (M.sl h r) (by rw [M.lonL_length, HL.out]; exact hsl)
        rw [M.lonL_at _ _ (by rw [HL.out]; exact hsl)] at hlc
        have HN : Hid (M.stp a.data.toList h (a.size - p) = some (M.LF a.data.toList (M.sl h r))) := by
          have := M.stp_next a.data.toList h p r (by rw [HL.out]; exact hq) (by rw [HL.out]; exact hst.out) hrh
          rw [HL.out] at this
          exact this
        have HR : Hid ((M.rowsOf a.data.toList h).getD p 0 = M.LF a.data.toList (M.sl h r)) := by
          refine M.rowsOf_some _ _ _ _ (by rw [HL.out]; omega) ?_
          rw [HL.out]; exact HN.out
        have hp1 := hr.cell p (by rw [M.rp_length, HL.out]; omega)
        have hpf := Blk.frozen hr p
        go_wp2
        go_quiet (fail)
        go_wp2
        have i1' : (wr.drewN nq).cell? ⟨bi, 1, none⟩ = some (.int .i64 h) := i1
        have i2' : (wr.drewN nq).cell? ⟨bi, 2, none⟩ = some (.string a) := i2
        have hrq' : (wr.drewN nq).cell? ⟨w1.heap.size, p + 1, none⟩ = some (.int .i64 r) := hrq
        have hlc' : (wr.drewN nq).cell? ⟨bl, M.sl h r, none⟩ = some (.int .i64 (M.LF a.data.toList (M.sl h r))) := hlc
        have hp1' : (wr.drewN nq).cell? ⟨w1.heap.size, p, none⟩ = some (.int .i64 ((M.rp a.data.toList h (p + 1)).getD p 0)) := hp1
        have hpf' : (wr.drewN nq).frozen? ⟨w1.heap.size, p, none⟩ = false := hpf
        have hr' : Nums .i64 (wr.drewN nq) w1.heap.size (M.rp a.data.toList h (p + 1)) := hr
        have hl' : Nums .i64 (wr.drewN nq) bl (M.lonL a.data.toList) := hl
        have hb' : Below w.heap.size w (wr.drewN nq) := below_drewN hb nq
        clear i1 i2 hrq hlc hp1 hpf hr hl hb HI hne
        generalize wr.drewN nq = w4 at *
        go_quiet ((go_at_call 48; exact Calls.quiet_of_same (slot_nat _ _ _ (by omega))))
        go_wp2
        go_roundw
        case rel =>
          refine ⟨p, _, by omega, rfl, HN, ?_, Blk.other (Blk.drewN hl' _) (by simp; omega) _, (below_drewN hb' _).setCell (by simp; omega) _⟩
          rw [← M.rp_set, HR.out]
          exact Nums.set (Blk.drewN hr' _) _ _
        case measure => simp [intOf]
end Go.Proofs.Ytjmkkkfloalliab

namespace Go.Proofs.Ytjmkkkfloalliab
set_option linter.unusedVariables false
open Go.RowKit

set_option maxRecDepth 100000 in
set_option maxHeartbeats 800000 in
theorem text_any (a : ByteArray) (bi rate h : Nat) (w : World) (h0 : a.size ≤ 1000) (hh : h ≤ a.size) (hI : Idx w bi rate h a) :
    Calls Try.prog 70 #[.pointer (some ⟨bi, 0, none⟩)] w fun e w' => e = .returned (.string ⟨(M.textOf a.data.toList h).toArray⟩) ∧ Below w.heap.size w w' := by
  have HL : Hid (a.data.toList.length = a.size) := size_len a
  have hm := make_bytes (a.size : Int) a.size rfl (by omega)
  have hbi := Blk.lt hI
  go_enter Try.func70, Try.ntmps70
  go_wp2_with (go_at_call 54; refine (rows_any a bi rate h _ h0 hh hI).mono ?_; rintro e w1 ⟨br, rfl, hbr, hrow, hb1⟩; have i2' := Idx.c2 (Blk.below hI hb1 hbi))
  clear hm i2'
  have hs1 := hb1.size
  have hll := hrow.lt
  go_loopw [18] (fun i wr => ∃ k : Nat, k ≤ a.size ∧ i = .int .i64 k ∧ Nums .i64 wr br (M.rowsI a.data.toList h) ∧ Nums .u8 wr w1.heap.size (nums (M.txTo a.data.toList h k)) ∧ Below w.heap.size w wr) (fun i _ => a.size - (intOf i).toNat)
  case atStart =>
    refine ⟨0, by omega, rfl, Blk.alloc hrow _, ?_, hb1.alloc hs1 _⟩
    rw [M.txTo_zero, nums_replicate, HL.out]
    exact Nums.new _ _ _ _
  case round =>
    obtain ⟨k, hk, rfl, hr, ht, hb⟩ := hrel
    have HI : Idx wr bi rate h a := Blk.below hI hb hbi
    have i1 := HI.c1
    have i2 := HI.c2
    by_cases hlt : k < a.size
    · have hc := hr.cell (k + 1) (by rw [M.rowsI_length, HL.out]; omega)
      rw [M.rowsI_at] at hc
      have hle := M.rowsOf_le a.data.toList h (by rw [HL.out]; exact hh) (k + 1) (by rw [HL.out]; omega)
      rw [HL.out] at hle
      have HT : Hid (_) := M.textOf_at a.data.toList h k (by rw [HL.out]; exact hlt)
      generalize (M.rowsOf a.data.toList h).getD (k + 1) 0 = r at hc hle HT
      by_cases hrh : r = h
      · subst hrh
        have HT2 : Hid ((M.textOf a.data.toList r).getD k 0 = 0) := by have := HT.out; rw [if_pos rfl] at this; exact this
        clear HT
        go_wp2
        go_roundw
        case rel =>
          refine ⟨k + 1, by omega, by go_num, hr, ?_, hb⟩
          rw [← M.txTo_skip _ _ _ (by rw [HL.out]; exact hlt) HT2.out]
          exact ht
        case measure => simp [intOf]; omega
      · have hne : ((r : Int) != (h : Int)) = true := by rw [bne_iff_ne]; omega
        have hsl : M.sl h r < a.size := M.sl_lt h r a.size hh hle hrh
        have HT2 : Hid ((M.textOf a.data.toList h).getD k 0 = a.data.toList.getD (M.sl h r) 0) := by have := HT.out; rw [if_neg hrh] at this; exact this
        clear HT
        have htc := ht.cell k (by rw [nums_length, M.txTo_length, HL.out]; exact hlt)
        have hfz := Blk.frozen ht k
        go_wp2_with (go_at_call 48; refine (slot_nat _ _ _ (by omega)).mono ?_; rintro e w' ⟨rfl, rfl⟩)
        go_roundw
        case rel =>
          refine ⟨k + 1, by omega, by go_num, Blk.other hr (by simp; omega) _, ?_, hb.setCell (by simp; omega) _⟩
          rw [← M.txTo_set, HT2.out, ← nums_set, ← byte_at a _ hsl]
          exact ht.set _ _
        case measure => simp [intOf]; omega
    · have hk2 : k = a.size := by omega
      subst hk2
      have hrs := run_str (W := wr) (b := w1.heap.size) (l := M.txTo a.data.toList h a.size) a.size ht
      rw [M.txTo_length, HL.out] at hrs
      go_wp2
      go_ret
      refine ⟨?_, hb⟩
      rw [← M.txTo_all, HL.out]
      rfl

theorem text_str (a : ByteArray) (bi rate h : Nat) (w : World) (h0 : a.size ≤ 1000) (hh : h ≤ a.size) (hI : Idx w bi rate h a) :
    Calls Try.prog 70 #[.pointer (some ⟨bi, 0, none⟩)] w fun e w' => ∃ tx : ByteArray, e = .returned (.string tx) ∧ Hid (tx.data.toList = M.textOf a.data.toList h) ∧ tx.size ≤ a.size ∧ a.size ≤ tx.size ∧ Below w.heap.size w w' := by
  refine (text_any a bi rate h w h0 hh hI).mono ?_
  rintro e w' ⟨rfl, hb⟩
  have e1 : (ByteArray.mk (M.textOf a.data.toList h).toArray).size = a.size := by
    rw [← size_len, ← size_len]; exact M.textOf_length _ _
  exact ⟨_, rfl, rfl, Nat.le_of_eq e1, Nat.le_of_eq e1.symm, hb⟩

set_option maxHeartbeats 400000 in
theorem len_any (a : ByteArray) (bi rate h : Nat) (w : World) (hI : Idx w bi rate h a) :
    Calls Try.prog 21 #[.pointer (some ⟨bi, 0, none⟩)] w fun e w' => e = .returned (.int .i64 a.size) ∧ w' = w := by
  have i2 := hI.c2
  go_enter Try.func21, Try.ntmps21
  go_wp2
  go_ret
  exact ⟨rfl, rfl⟩

set_option maxHeartbeats 400000 in
theorem rate_any (a : ByteArray) (bi rate h : Nat) (w : World) (hI : Idx w bi rate h a) :
    Calls Try.prog 45 #[.pointer (some ⟨bi, 0, none⟩)] w fun e w' => e = .returned (.int .i64 rate) ∧ w' = w := by
  have i0 := hI.c0
  go_enter Try.func45, Try.ntmps45
  go_wp2
  go_ret
  exact ⟨rfl, rfl⟩

/-- Extract: a stretch that is none. -/
theorem extract_no (a : ByteArray) (bi rate h : Nat) (from_ to_ : Int) (w : World) (hI : Idx w bi rate h a) (hno : from_ < 0 ∨ to_ < from_ ∨ (a.size : Int) < to_) :
    Calls Try.prog 60 #[.pointer (some ⟨bi, 0, none⟩), .int .i64 from_, .int .i64 to_] w fun e w' => e = .returned (.tuple #[.string ByteArray.empty, .int .i64 2]) ∧ Below w.heap.size w w' := by
  by_cases h1 : from_ < 0
  · go_enter Try.func60, Try.ntmps60
    go_wp2
    go_ret2
    exact ⟨rfl, Below.refl _ _⟩
  · by_cases h2 : to_ < from_
    · go_enter Try.func60, Try.ntmps60
      go_wp2
      go_ret2
      exact ⟨rfl, Below.refl _ _⟩
    · have h3 : (a.size : Int) < to_ := by omega
      go_enter Try.func60, Try.ntmps60
      go_wp2_with (go_at_call 21; refine (len_any a bi rate h _ hI).mono ?_; rintro e w' ⟨rfl, rfl⟩)
      go_ret2
      exact ⟨rfl, Below.refl _ _⟩

set_option maxRecDepth 100000 in
set_option maxHeartbeats 400000 in
/-- Extract: a stretch of the text. -/
theorem extract_yes (a : ByteArray) (bi rate h : Nat) (i j : Nat) (w : World) (h0 : a.size ≤ 1000) (hh : h ≤ a.size) (hI : Idx w bi rate h a) (hij : i ≤ j) (hj : j ≤ a.size) :
    Calls Try.prog 60 #[.pointer (some ⟨bi, 0, none⟩), .int .i64 i, .int .i64 j] w fun e w' => ∃ s : ByteArray, e = .returned (.tuple #[.string s, .int .i64 0]) ∧ Hid (s.data.toList = ((M.textOf a.data.toList h).drop i).take (j - i)) ∧ Below w.heap.size w w' := by
  by_cases he : i = j
  · subst he
    go_enter Try.func60, Try.ntmps60
    go_wp2_with (go_at_call 21; refine (len_any a bi rate h _ hI).mono ?_; rintro e w' ⟨rfl, rfl⟩)
    go_ret2
    refine ⟨ByteArray.empty, rfl, ?_, Below.refl _ _⟩
    show _ = _
    rw [Nat.sub_self, List.take_zero]
    rfl
  · have hne : ((i : Int) == (j : Int)) = false := by simp; omega
    have hi0 : (0 : Int) ≤ (i : Int) := by omega
    have hij2 : (i : Int) ≤ (j : Int) := by omega
    go_enter Try.func60, Try.ntmps60
    go_wp2_with (first
      | (go_at_call 21; refine (len_any a bi rate h _ hI).mono ?_; rintro e w' ⟨rfl, rfl⟩)
      | (go_at_call 70; (refine (text_str a bi rate h _ h0 hh hI).mono ?_; rintro e w1 ⟨tx, rfl, htx, ht1, ht2, hb⟩; have ht3 : j ≤ tx.size := Nat.le_trans hj ht2; have ht4 : (j : Int) ≤ (tx.size : Int) := Int.ofNat_le.2 ht3)))
    go_ret2
    refine ⟨_, rfl, ?_, hb⟩
    show _ = _
    rw [Lib.extract_data, htx.out]
end Go.Proofs.Ytjmkkkfloalliab

namespace Go.Proofs.Ytjmkkkfloalliab
set_option linter.unusedVariables false
open Go.RowKit

def samp (rows : List Nat) (rate k : Nat) : List UInt8 := (List.range k).flatMap fun j => two (rows.getD (j * rate) 0)
def mark : List UInt8 := [102, 109, 105, 49]
def saveHead (a : List UInt8) (h rate : Nat) : List UInt8 := mark ++ two a.length ++ [UInt8.ofNat rate] ++ two h ++ a
def saveBody (a : List UInt8) (h rate : Nat) : List UInt8 := saveHead a h rate ++ samp (M.rowsOf a h) rate (a.length / rate + 1)
def saveL (a : List UInt8) (h rate : Nat) : List UInt8 := saveBody a h rate ++ two (sumL (saveBody a h rate))

theorem u16_str (v : Nat) (w : World) (h1 : v ≤ 65535) :
    Calls Try.prog 73 #[.int .i64 v] w fun e w' => ∃ s : ByteArray, e = .returned (.string s) ∧ Hid (s.data.toList = two v) ∧ s.size = 2 ∧ Below w.heap.size w w' :=
  (u16_any v w h1).mono fun _ _ ⟨he, hb⟩ => ⟨_, he, rfl, rfl, hb⟩

theorem app_list (x y : ByteArray) : (x ++ y).data.toList = x.data.toList ++ y.data.toList := by
  rw [ByteArray.data_append, Array.toList_append]
theorem samp_succ (rows : List Nat) (rate k : Nat) : samp rows rate (k + 1) = samp rows rate k ++ two (rows.getD (k * rate) 0) := by
  unfold samp
  rw [List.range_succ, List.flatMap_append]
  simp
theorem last_k (n rate k : Nat) (hr : 1 ≤ rate) (h1 : k * rate < n + 1 + rate) (h2 : n + 1 ≤ k * rate) : k = n / rate + 1 := by
  match k with
  | 0 => omega
  | k + 1 =>
    have h3 : k * rate + rate < n + 1 + rate := by rw [← Nat.succ_mul]; exact h1
    have h4 : n < (k + 1) * rate := by omega
    rw [Nat.div_eq_of_lt_le (by omega) h4]
theorem k_le (rate k : Nat) (hr : 1 ≤ rate) : k ≤ k * rate := Nat.le_mul_of_pos_right k hr
theorem sumL_lt (s : List UInt8) : sumL s ≤ 65535 := by have := sumTo_lt s s.length; unfold sumL; omega

set_option maxRecDepth 100000 in
set_option maxHeartbeats 800000 in
theorem save_any (a : ByteArray) (bi rate h : Nat) (w : World) (h0 : a.size ≤ 1000) (hh : h ≤ a.size) (hr1 : 1 ≤ rate) (hr2 : rate ≤ 255) (hI : Idx w bi rate h a) :
    Calls Try.prog 61 #[.pointer (some ⟨bi, 0, none⟩)] w fun e w' => ∃ s : ByteArray, e = .returned (.string s) ∧ Hid (s.data.toList = saveL a.data.toList h rate) ∧ Below w.heap.size w w' := by
  have HL : Hid (a.data.toList.length = a.size) := size_len a
  have hbi := Blk.lt hI
  have i0 := hI.c0
  have i1 := hI.c1
  have i2 := hI.c2
  go_enter Try.func61, Try.ntmps61
  go_wp2_with (fail)
  refine (u16_str _ _ (by omega)).mono ?_
  rintro e w1 ⟨s1, rfl, hs1, hz1, hb1⟩
  have j1 := Idx.c1 (Blk.below hI hb1 hbi)
  clear i0 i1 i2
  go_wp2_with (fail)
  refine (u16_str _ _ (by omega)).mono ?_
  rintro e w2 ⟨s2, rfl, hs2, hz2, hb2⟩
  have hI2 : Idx w2 bi rate h a := Blk.below (Blk.below hI hb1 hbi) hb2 (Nat.lt_of_lt_of_le hbi hb1.size)
  have hbi2 : bi < w2.heap.size := Blk.lt hI2
  have j0 := hI2.c0
  have j2 := hI2.c2
  clear j1
  go_wp2_with (fail)
  obtain ⟨r1, HR1, hzr, hcv⟩ : ∃ r1 : ByteArray, Hid (r1.data.toList = [UInt8.ofNat rate]) ∧ r1.size = 1 ∧ Sem.run Try.prog (convert 75 9 (.slice (some ⟨w2.heap.size, 0, none⟩) 1 1)) ((w2.alloc (.cells #[.int .u8 rate] 5)).drew) = .ok (.string r1) ((w2.alloc (.cells #[.int .u8 rate] 5)).drew) := by
    refine ⟨strOfNums [(rate : Int)], rfl, rfl, ?_⟩
    refine run_convert_bytes_arg ((w2.alloc (.cells #[.int .u8 rate] 5)).drew) 75 5 Try.underlying75 Try.underlying5 w2.heap.size 0 1 1 [(rate : Int)] rfl ?_ 9 Try.underlying9
    intro i hi
    rw [(Blk.drew (Blk.new w2 #[.int .u8 rate] 5)).cell? (0 + i)]
    match i, hi with
    | 0, _ => rfl
  go_region
  have hI3 : Idx ((w2.alloc (.cells #[.int .u8 rate] 5)).drew) bi rate h a := Blk.drew (Blk.alloc hI2 _)
  have hb3 : Below w.heap.size w ((w2.alloc (.cells #[.int .u8 rate] 5)).drew) := ((hb1.trans (hb2.mono hb1.size)).alloc (Nat.le_trans hb1.size hb2.size) _).drew
  clear hcv j0 j2 hI2
  generalize (w2.alloc (.cells #[.int .u8 rate] 5)).drew = w3 at *
  obtain ⟨sh, HSH, hshz, hsh⟩ : ∃ sh : ByteArray, Hid (sh.data.toList = saveHead a.data.toList h rate) ∧ sh.size ≤ 1020 ∧ ({ data := #[102, 109, 105, 49] } ++ s1 ++ r1 ++ s2 ++ a : ByteArray) = sh := by
    refine ⟨_, ?_, ?_, rfl⟩
    · show _ = _
      rw [app_list, app_list, app_list, app_list, hs1.out, hs2.out, HR1.out]
      unfold saveHead
      rw [HL.out]
      rfl
    · rw [ByteArray.size_append, ByteArray.size_append, ByteArray.size_append, ByteArray.size_append, hz1, hz2, hzr]
      have : (ByteArray.mk #[102, 109, 105, 49]).size = 4 := rfl
      omega
  rw [hsh]
  clear hsh
  go_wp2_with fail
  refine (rows_any a bi rate h _ h0 hh hI3).mono ?_
  rintro e w4 ⟨br, rfl, hbr, hrow, hb4⟩
  have hs3 := hb3.size
  have hb5 : Below w.heap.size w w4 := hb3.trans (hb4.mono hs3)
  have hI5 : Idx w4 bi rate h a := Blk.below hI3 hb4 (Nat.lt_of_lt_of_le hbi hs3)
  have hbrl := hrow.lt
  go_wp2_with fail
  go_loopw [5, 7] (fun s i wr => ∃ (k p : Nat) (sk : ByteArray), i = .int .i64 p ∧ s = .string sk ∧ Hid (p = k * rate) ∧ p < a.size + 1 + rate ∧ k ≤ p ∧ Hid (sk.data.toList = saveHead a.data.toList h rate ++ samp (M.rowsOf a.data.toList h) rate k) ∧ sk.size ≤ 1020 + 2 * k ∧ Nums .i64 wr br (M.rowsI a.data.toList h) ∧ Idx wr bi rate h a ∧ Below w.heap.size w wr) (fun _ i _ => a.size + 1 - (intOf i).toNat)
  case atStart =>
    refine ⟨0, 0, sh, rfl, rfl, ?_, by omega, by omega, ?_, by omega, hrow, hI5, hb5⟩
    · show _ = _
      rw [Nat.zero_mul]
    · show _ = _
      rw [HSH.out]
      simp [samp]
  case round =>
    obtain ⟨k, p, sk, rfl, rfl, hpk, hp, hkp, hsk, hskz, hr, hi, hb⟩ := hrel
    by_cases hlt : p < a.size + 1
    · have hc := hr.cell p (by rw [M.rowsI_length, HL.out]; exact hlt)
      rw [M.rowsI_at] at hc
      have hle := M.rowsOf_le a.data.toList h (by rw [HL.out]; exact hh) p (by rw [HL.out]; omega)
      rw [HL.out] at hle
      have HRR : Hid (samp (M.rowsOf a.data.toList h) rate (k + 1) = samp (M.rowsOf a.data.toList h) rate k ++ two ((M.rowsOf a.data.toList h).getD p 0)) := by
        show _ = _
        rw [samp_succ, ← hpk.out]
      generalize (M.rowsOf a.data.toList h).getD p 0 = r at hc hle HRR
      go_wp2_with fail
      refine (u16_str _ _ (by omega)).mono ?_
      rintro e w6 ⟨s6, rfl, hs6, hz6, hb6⟩
      have hbw := hb.size
      have hi6 : Idx w6 bi rate h a := Blk.below hi hb6 (Nat.lt_of_lt_of_le hbi hbw)
      have j0 := hi6.c0
      have hr6 := Blk.below hr hb6 (Blk.lt hr)
      go_wp2
      go_roundw
      case rel =>
        refine ⟨k + 1, p + rate, sk ++ s6, by go_num, rfl, ?_, by omega, by omega, ?_, ?_, hr6, hi6, hb.trans (hb6.mono hbw)⟩
        · show _ = _
          rw [Nat.succ_mul, hpk.out]
        · show _ = _
          rw [app_list, hsk.out, hs6.out, HRR.out, List.append_assoc]
        · rw [ByteArray.size_append, hz6]; omega
      case measure => simp [intOf]; omega
    · have HK : Hid (k = a.size / rate + 1) := last_k a.size rate k hr1 (by rw [← hpk.out]; exact hp) (by rw [← hpk.out]; omega)
      go_wp2_with fail
      refine (checkSum_any _ _ (by omega)).mono ?_
      rintro e w6 ⟨rfl, rfl⟩
      have hsl := sumL_lt sk.data.toList
      go_wp2_with fail
      refine (u16_str _ _ hsl).mono ?_
      rintro e w7 ⟨s7, rfl, hs7, hz7, hb7⟩
      go_wp2
      go_ret
      refine ⟨_, rfl, ?_, hb.trans (hb7.mono hb.size)⟩
      show _ = _
      rw [app_list, hs7.out, hsk.out, HK.out]
      unfold saveL saveBody
      rw [HL.out]
end Go.Proofs.Ytjmkkkfloalliab

namespace Go.Proofs.Ytjmkkkfloalliab
set_option linter.unusedVariables false
open Go.RowKit

/-- s is what the index of a text with a rate is saved as -/
def LoadOk (s t : List UInt8) (rate : Nat) : Prop := t.length ≤ 200 ∧ 1 ≤ rate ∧ rate ≤ 32 ∧ s = saveL (M.ahead t) (M.row t 0) rate

theorem samp_length (rows : List Nat) (rate : Nat) : ∀ k, (samp rows rate k).length = 2 * k
  | 0 => by simp [samp]
  | k + 1 => by rw [samp_succ, List.length_append, samp_length rows rate k]; simp [two]; omega

theorem saveL_length (a : List UInt8) (h rate : Nat) : (saveL a h rate).length = 9 + a.length + 2 * (a.length / rate + 1) + 2 := by
  unfold saveL saveBody saveHead
  simp only [List.length_append, samp_length]
  simp [mark, two]

theorem saveL_eq (a : List UInt8) (h rate : Nat) : ∃ r, saveL a h rate = 102 :: 109 :: 105 :: 49 :: UInt8.ofNat (a.length / 256) :: UInt8.ofNat (a.length % 256) :: UInt8.ofNat rate :: UInt8.ofNat (h / 256) :: UInt8.ofNat (h % 256) :: (a ++ r) := by
  refine ⟨samp (M.rowsOf a h) rate (a.length / rate + 1) ++ two (sumL (saveBody a h rate)), ?_⟩
  conv => lhs; unfold saveL
  conv => lhs; arg 1; unfold saveBody saveHead
  simp [mark, two]

theorem ofNat_toNat (n : Nat) (h : n < 256) : (UInt8.ofNat n).toNat = n := by
  rw [UInt8.toNat_ofNat']; omega

theorem saveL_fields (a : List UInt8) (h rate : Nat) (ha : a.length ≤ 1000) (hh : h ≤ 1000) (hr : rate ≤ 255) :
    ((saveL a h rate).getD 4 0).toNat * 256 + ((saveL a h rate).getD 5 0).toNat = a.length ∧ ((saveL a h rate).getD 6 0).toNat = rate ∧
    ((saveL a h rate).getD 7 0).toNat * 256 + ((saveL a h rate).getD 8 0).toNat = h ∧ ((saveL a h rate).drop 9).take a.length = a := by
  obtain ⟨r, e⟩ := saveL_eq a h rate
  rw [e]
  refine ⟨?_, ?_, ?_, ?_⟩
  · show (UInt8.ofNat (a.length / 256)).toNat * 256 + (UInt8.ofNat (a.length % 256)).toNat = _
    rw [ofNat_toNat _ (by omega), ofNat_toNat _ (by omega)]; omega
  · show (UInt8.ofNat rate).toNat = _
    rw [ofNat_toNat _ (by omega)]
  · show (UInt8.ofNat (h / 256)).toNat * 256 + (UInt8.ofNat (h % 256)).toNat = _
    rw [ofNat_toNat _ (by omega), ofNat_toNat _ (by omega)]; omega
  · show (a ++ r).take a.length = a
    rw [List.take_left']; rfl

theorem row0_le (t : List UInt8) : M.row t 0 ≤ t.length := M.row_le t 0 (by omega)

/-- what is saved tells its text and rate -/
theorem LoadOk.fields {s t : List UInt8} {rate : Nat} (H : LoadOk s t rate) :
    (s.getD 4 0).toNat * 256 + (s.getD 5 0).toNat = t.length ∧ (s.getD 6 0).toNat = rate ∧ (s.getD 7 0).toNat * 256 + (s.getD 8 0).toNat = M.row t 0 ∧
    (s.drop 9).take t.length = M.ahead t ∧ s.length = 9 + t.length + 2 * (t.length / rate + 1) + 2 := by
  obtain ⟨h1, h2, h3, rfl⟩ := H
  have hl := M.ahead_length t
  have hr := row0_le t
  obtain ⟨f1, f2, f3, f4⟩ := saveL_fields (M.ahead t) (M.row t 0) rate (by omega) (by omega) (by omega)
  have f5 := saveL_length (M.ahead t) (M.row t 0) rate
  rw [hl] at f1 f4 f5
  exact ⟨f1, f2, f3, f4, f5⟩

theorem LoadOk.text {s t : List UInt8} {rate n h : Nat} (H : LoadOk s t rate) (hn : (s.getD 4 0).toNat * 256 + (s.getD 5 0).toNat = n) (hh : (s.getD 7 0).toNat * 256 + (s.getD 8 0).toNat = h) :
    M.textOf ((s.drop 9).take n) h = t := by
  obtain ⟨f1, f2, f3, f4, f5⟩ := H.fields
  rw [f1] at hn; rw [f3] at hh; subst hn; subst hh
  rw [f4]
  exact M.textOf_ahead t

theorem LoadOk.uniq {s t t' : List UInt8} {rate rate' : Nat} (H : LoadOk s t rate) (H' : LoadOk s t' rate') : t = t' ∧ rate = rate' := by
  obtain ⟨f1, f2, f3, f4, f5⟩ := H.fields
  obtain ⟨g1, g2, g3, g4, g5⟩ := H'.fields
  exact ⟨(H.text rfl rfl).symm.trans (H'.text rfl rfl), f2.symm.trans g2⟩

set_option maxRecDepth 100000 in
set_option maxHeartbeats 400000 in
theorem build_yes (t : ByteArray) (rate : Nat) (w : World) (h0 : t.size ≤ 200) (h1 : 1 ≤ rate) (h2 : rate ≤ 32) :
    Calls Try.prog 20 #[.string t, .int .i64 rate] w fun e w' => ∃ b a, e = .returned (.tuple #[.pointer (some ⟨b, 0, none⟩), .int .i64 0]) ∧ w.heap.size ≤ b ∧ Idx w' b rate (M.row t.data.toList 0) a ∧ Hid (a.data.toList = M.ahead t.data.toList) ∧ Below w.heap.size w w' := by
  go_enter Try.func20, Try.ntmps20
  go_wp2_with fail
  refine (newIndex_any t rate _ (by omega)).mono ?_
  rintro e w1 ⟨b, rfl, hb, hI, hB⟩
  go_wp2
  go_ret2
  exact ⟨b, _, rfl, hb, hI, rfl, hB⟩

set_option maxHeartbeats 400000 in
theorem build_long (t : ByteArray) (rate : Int) (w : World) (h0 : 200 < t.size) (h1 : t.size ≤ maxLen) :
    Calls Try.prog 20 #[.string t, .int .i64 rate] w fun e w' => e = .returned (.tuple #[.pointer none, .int .i64 1]) ∧ w' = w := by
  unfold maxLen at h1
  have h2 : (200 : Int) < (t.size : Int) := by omega
  go_enter Try.func20, Try.ntmps20
  go_wp2
  go_ret2
  exact ⟨rfl, rfl⟩

set_option maxHeartbeats 400000 in
theorem build_arg (t : ByteArray) (rate : Int) (w : World) (h0 : t.size ≤ 200) (h1 : rate < 1 ∨ 32 < rate) :
    Calls Try.prog 20 #[.string t, .int .i64 rate] w fun e w' => e = .returned (.tuple #[.pointer none, .int .i64 2]) ∧ w' = w := by
  by_cases h : rate < 1
  · go_enter Try.func20, Try.ntmps20
    go_wp2
    go_ret2
    exact ⟨rfl, rfl⟩
  · have h3 : 32 < rate := by omega
    go_enter Try.func20, Try.ntmps20
    go_wp2
    go_ret2
    exact ⟨rfl, rfl⟩
end Go.Proofs.Ytjmkkkfloalliab

namespace Go.Proofs.Ytjmkkkfloalliab
set_option linter.unusedVariables false
open Go.RowKit

set_option maxHeartbeats 400000 in
theorem load_short (s : ByteArray) (w : World) (h0 : s.size < 9) :
    Calls Try.prog 55 #[.string s] w fun e w' => e = .returned (.tuple #[.pointer none, .int .i64 7]) ∧ Below w.heap.size w w' := by
  go_enter Try.func55, Try.ntmps55
  go_wp2
  go_ret2
  exact ⟨rfl, Below.refl _ _⟩

theorem load_no1 {s : List UInt8} {n rate h : Nat} (hn : (s.getD 4 0).toNat * 256 + (s.getD 5 0).toNat = n) (hrt : (s.getD 6 0).toNat = rate) (hh : (s.getD 7 0).toNat * 256 + (s.getD 8 0).toNat = h)
    (hno : 200 < n ∨ rate < 1 ∨ 32 < rate ∨ n < h ∨ s.length ≠ 9 + n + 2 * (n / rate + 1) + 2) : ¬ ∃ t r, LoadOk s t r := by
  rintro ⟨t, r, H⟩
  obtain ⟨f1, f2, f3, f4, f5⟩ := H.fields
  rw [f1] at hn; rw [f2] at hrt; rw [f3] at hh
  subst hn; subst hrt; subst hh
  have := row0_le t
  obtain ⟨g1, g2, g3, g4⟩ := H
  omega

theorem load_no2 {s : List UInt8} {n rate h : Nat} (hn : (s.getD 4 0).toNat * 256 + (s.getD 5 0).toNat = n) (hrt : (s.getD 6 0).toNat = rate) (hh : (s.getD 7 0).toNat * 256 + (s.getD 8 0).toNat = h)
    (hno : saveL (M.ahead (M.textOf ((s.drop 9).take n) h)) (M.row (M.textOf ((s.drop 9).take n) h) 0) rate ≠ s) : ¬ ∃ t r, LoadOk s t r := by
  rintro ⟨t, r, H⟩
  rw [H.text hn hh] at hno
  have f2 := H.fields.2.1
  rw [hrt] at f2
  subst f2
  exact hno H.2.2.2.symm

/-- What Load answers: none; or the index of just that text and rate. -/
def LoadPost (s : ByteArray) (w : World) (e : Ending) (w' : World) : Prop :=
  Below w.heap.size w w' ∧ ((e = .returned (.tuple #[.pointer none, .int .i64 7]) ∧ ¬ ∃ t r, LoadOk s.data.toList t r) ∨
    ∃ (t : List UInt8) (rate b : Nat) (a : ByteArray), LoadOk s.data.toList t rate ∧ e = .returned (.tuple #[.pointer (some ⟨b, 0, none⟩), .int .i64 0]) ∧ w.heap.size ≤ b ∧ Idx w' b rate (M.row t 0) a ∧ a.data.toList = M.ahead t)

set_option maxRecDepth 100000 in
set_option maxHeartbeats 1600000 in
theorem load_big (s : ByteArray) (w : World) (h0 : 9 ≤ s.size) (h1 : s.size ≤ maxLen) :
    Calls Try.prog 55 #[.string s] w fun e w' => LoadPost s w e w' := by
  unfold maxLen at h1
  obtain ⟨n, hn⟩ : ∃ n, (s.data.toList.getD 4 0).toNat * 256 + (s.data.toList.getD 5 0).toNat = n := ⟨_, rfl⟩
  obtain ⟨rate, hrt⟩ : ∃ n, (s.data.toList.getD 6 0).toNat = n := ⟨_, rfl⟩
  obtain ⟨h, hh⟩ : ∃ n, (s.data.toList.getD 7 0).toNat * 256 + (s.data.toList.getD 8 0).toNat = n := ⟨_, rfl⟩
  have N1 : Hid (_) := @load_no1 s.data.toList n rate h hn hrt hh
  have N2 : Hid (_) := @load_no2 s.data.toList n rate h hn hrt hh
  have YS : Hid (n ≤ 200 → 1 ≤ rate → rate ≤ 32 → saveL (M.ahead (M.textOf ((s.data.toList.drop 9).take n) h)) (M.row (M.textOf ((s.data.toList.drop 9).take n) h) 0) rate = s.data.toList → LoadOk s.data.toList (M.textOf ((s.data.toList.drop 9).take n) h) rate) := by
    intro a1 a2 a3 a4
    refine ⟨?_, a2, a3, a4.symm⟩
    rw [M.textOf_length]
    exact Nat.le_trans (List.length_take_le _ _) a1
  rw [← byte_at s 4 (by omega), ← byte_at s 5 (by omega)] at hn
  rw [← byte_at s 7 (by omega), ← byte_at s 8 (by omega)] at hh
  rw [← byte_at s 6 (by omega)] at hrt
  have b4 := (s[4]'(by omega)).toNat_lt
  have b5 := (s[5]'(by omega)).toNat_lt
  have b6 := (s[6]'(by omega)).toNat_lt
  have b7 := (s[7]'(by omega)).toNat_lt
  have b8 := (s[8]'(by omega)).toNat_lt
  have HN : Hid ((s[4].toNat : Int) * (256 : Int) + (s[5].toNat : Int) = (n : Int)) := by show _ = _; omega
  have HH : Hid ((s[7].toNat : Int) * (256 : Int) + (s[8].toNat : Int) = (h : Int)) := by show _ = _; omega
  have HR : Hid ((s[6].toNat : Int) = (rate : Int)) := by show _ = _; omega
  have hnl : n ≤ 65535 := by omega
  have hhl : h ≤ 65535 := by omega
  have hrl : rate ≤ 255 := by omega
  have i4 : (4 : Int) < (s.size : Int) := by omega
  have i5 : (5 : Int) < (s.size : Int) := by omega
  have i6 : (6 : Int) < (s.size : Int) := by omega
  have i7 : (7 : Int) < (s.size : Int) := by omega
  have i8 : (8 : Int) < (s.size : Int) := by omega
  clear hn hh hrt
  go_enter Try.func55, Try.ntmps55
  go_wp2_with fail
  go_quiet ((go_at_call 68; exact Calls.quiet_of_same (readU16_any _ _ _ (by omega) (by omega) (by omega) (by omega))))
  go_wp2_with fail
  rw [HN.out, HR.out]
  have hb1 := below_drewN (Below.refl w.heap.size w) nq
  generalize w.drewN nq = w1 at hb1 ⊢
  go_quiet ((go_at_call 68; exact Calls.quiet_of_same (readU16_any _ _ _ (by omega) (by omega) (by omega) (by omega))))
  rw [HH.out]
  have hb2 := below_drewN hb1 nq
  generalize w1.drewN nq = w2 at hb2 ⊢
  clear b4 b5 b6 b7 b8 HN HH HR hb1
  by_cases c1 : 200 < n
  · go_wp2
    go_ret2
    exact ⟨hb2, .inl ⟨rfl, N1.out (by omega)⟩⟩
  by_cases c2 : rate < 1
  · go_wp2
    go_ret2
    exact ⟨hb2, .inl ⟨rfl, N1.out (by omega)⟩⟩
  by_cases c3 : 32 < rate
  · go_wp2
    go_ret2
    exact ⟨hb2, .inl ⟨rfl, N1.out (by omega)⟩⟩
  by_cases c4 : n < h
  · go_wp2
    go_ret2
    exact ⟨hb2, .inl ⟨rfl, N1.out (by omega)⟩⟩
  have r1 : 1 ≤ rate := by omega
  have r2 : rate ≤ 32 := by omega
  have n2 : n ≤ 200 := by omega
  have h2 : h ≤ n := by omega
  go_wp2_with fail
  refine (savedSize_any _ _ _ (by omega) (by omega) (by omega) (by omega)).mono ?_
  rintro e w3 ⟨rfl, rfl⟩
  have HQ : Hid ((9 : Int) + (n : Int) + 2 * ((n : Int) / (rate : Int) + 1) + 2 = ((9 + n + 2 * (n / rate + 1) + 2 : Nat) : Int)) := by
    show _ = _
    rw [← Int.natCast_ediv]; omega
  rw [HQ.out]
  have HZ : Hid (s.data.toList.length = s.size) := size_len s
  by_cases c5 : s.size = 9 + n + 2 * (n / rate + 1) + 2
  · have q1 : ((s.size : Int) != ((9 + n + 2 * (n / rate + 1) + 2 : Nat) : Int)) = false := by rw [bne_eq_false_iff_eq, c5]
    have hle : 9 + n ≤ s.size := by omega
    have hlei : (9 : Int) + (n : Int) ≤ (s.size : Int) := by omega
    clear c5
    obtain ⟨a, HA, ha1, ha2, hsl⟩ : ∃ a : ByteArray, Hid (a.data.toList = (s.data.toList.drop 9).take n) ∧ a.size ≤ n ∧ n ≤ a.size ∧ ∀ W, Sem.run Try.prog (Instr.slice 9 (.string s) (some (.int .i64 9)) (some (.int .i64 (9 + (n : Int)))) none) W = .ok (.string a) W := by
      refine ⟨s.extract 9 (9 + n), ?_, ?_, ?_, ?_⟩
      · show _ = _
        rw [Lib.extract_data]
        congr 1
        omega
      · rw [ByteArray.size_extract]; omega
      · rw [ByteArray.size_extract]; omega
      · intro W
        have := run_slice_string (P := Try.prog) W 9 s .i64 .i64 9 (9 + (n : Int)) Try.underlying9 (by omega) (by omega) (by omega)
        rw [show ((9 : Int) + (n : Int)).toNat = 9 + n from by omega] at this
        exact this
    have h3 : h ≤ a.size := by omega
    have a3 : a.size ≤ 1000 := by omega
    go_wp2_with fail
    have hI : Idx (w3.alloc (.cells #[.int .i64 rate, .int .i64 h, .string a] 65)) w3.heap.size rate h a := Blk.new _ _ _
    refine (text_str a w3.heap.size rate h _ a3 h3 hI).mono ?_
    rintro e w4 ⟨tx, rfl, htx, ht1, ht2, hb4⟩
    have hb5 := (hb2.alloc hb2.size (.cells #[.int .i64 rate, .int .i64 h, .string a] 65)).trans (hb4.mono (by simp; have := hb2.size; omega))
    clear hsl hI hb4 hb2
    go_wp2_with fail
    refine (newIndex_any tx rate _ (by omega)).mono ?_
    rintro e w5 ⟨b, rfl, hbb, hI5, hb6⟩
    have hb7 := hb5.trans (hb6.mono hb5.size)
    have hbl : w.heap.size ≤ b := Nat.le_trans hb5.size hbb
    obtain ⟨ah, HAH⟩ : ∃ x : ByteArray, x = ⟨(M.ahead tx.data.toList).toArray⟩ := ⟨_, rfl⟩
    rw [← HAH] at hI5
    have HAH2 : Hid (ah.data.toList = M.ahead tx.data.toList) := by show _ = _; rw [HAH]
    clear HAH hb5 hb6
    have hat : ah.size ≤ tx.size := by rw [← size_len, HAH2.out, M.ahead_length, size_len]; exact Nat.le_refl _
    have hta : tx.size ≤ ah.size := by rw [← size_len ah, HAH2.out, M.ahead_length, size_len]; exact Nat.le_refl _
    have hrl0 : M.row tx.data.toList 0 ≤ ah.size := by have := row0_le tx.data.toList; rw [size_len] at this; omega
    go_wp2_with fail
    refine (save_any ah b rate (M.row tx.data.toList 0) _ (by omega) hrl0 (by omega) (by omega) hI5).mono ?_
    rintro e w6 ⟨sv, rfl, hsv, hb8⟩
    have hI6 : Idx w6 b rate (M.row tx.data.toList 0) ah := Blk.below hI5 hb8 (Blk.lt hI5)
    have hb9 := hb7.trans (hb8.mono hb7.size)
    clear hb7 hb8 hI5
    have HSV : Hid (sv.data.toList = saveL (M.ahead (M.textOf ((s.data.toList.drop 9).take n) h)) (M.row (M.textOf ((s.data.toList.drop 9).take n) h) 0) rate) := by
      show _ = _
      rw [hsv.out, HAH2.out, htx.out, HA.out]
    by_cases c6 : sv.data.toList = s.data.toList
    · have q2 : (sv.toList == s.toList) = true := by rw [Lib.toList_data, Lib.toList_data, beq_iff_eq]; exact c6
      have Y := YS.out n2 r1 r2 (by rw [← HSV.out]; exact c6)
      have HT : Hid (M.textOf ((s.data.toList.drop 9).take n) h = tx.data.toList) := by show _ = _; rw [htx.out, HA.out]
      rw [HT.out] at Y
      have HY : Hid _ := Y
      clear c6 Y
      go_wp2
      go_ret2
      exact ⟨hb9, .inr ⟨tx.data.toList, rate, b, ah, HY.out, rfl, hbl, hI6, HAH2.out⟩⟩
    · have q2 : (sv.toList == s.toList) = false := by rw [Lib.toList_data, Lib.toList_data, beq_eq_false_iff_ne]; exact c6
      have Nn := N2.out (by rw [← HSV.out]; exact c6)
      have HNn : Hid _ := Nn
      clear Nn c6
      go_wp2
      go_ret2
      exact ⟨hb9, .inl ⟨rfl, HNn.out⟩⟩
  · have q1 : ((s.size : Int) != ((9 + n + 2 * (n / rate + 1) + 2 : Nat) : Int)) = true := by rw [bne_iff_ne]; intro e; exact c5 (Int.ofNat.inj e)
    go_wp2
    go_ret2
    exact ⟨hb2, .inl ⟨rfl, N1.out (by rw [HZ.out]; omega)⟩⟩

theorem load_any (s : ByteArray) (w : World) (h1 : s.size ≤ maxLen) : Calls Try.prog 55 #[.string s] w fun e w' => LoadPost s w e w' := by
  rcases Nat.lt_or_ge s.size 9 with h | h
  · refine (load_short s w h).mono ?_
    rintro e w' ⟨rfl, hb⟩
    refine ⟨hb, .inl ⟨rfl, ?_⟩⟩
    rintro ⟨t, r, H⟩
    have := H.fields.2.2.2.2
    rw [size_len] at this
    omega
  · exact load_big s w h h1
end Go.Proofs.Ytjmkkkfloalliab

namespace Go.Proofs.Ytjmkkkfloalliab
set_option linter.unusedVariables false
open Go.RowKit

/-- Block g is a row of cap elements of type e ('size' cells each), not frozen; the cells of its first n elements are xs. -/
def RowAt (w : World) (g cap : Nat) (e : TypeId) (size n : Nat) (xs : List Value) : Prop :=
  ∃ cur, w.heap[g]? = some (.cells cur e (0, 0)) ∧ n ≤ cap ∧ cap ≤ maxLen ∧ cur.size = cap * size ∧ cur.toList.take (n * size) = xs ∧ xs.length = n * size

theorem RowAt.own {w : World} {g cap : Nat} {e : TypeId} {size n : Nat} {xs : List Value} (h : RowAt w g cap e size n xs) {base : Nat} (hb : base ≤ g) :
    w.ownsRow base e size (.slice (some ⟨g, 0, none⟩) n cap) n xs := by
  obtain ⟨cur, h1, h2, h3, h4, h5, h6⟩ := h
  exact ⟨h6, .inr ⟨g, cap, cur, rfl, hb, h1, h2, h3, h4, h5⟩⟩

theorem own_open {w : World} {base : Nat} {e : TypeId} {size : Nat} {v : Value} {n : Nat} {xs : List Value} (h : w.ownsRow base e size v n xs) (hn : v ≠ .slice none 0 0) :
    ∃ g cap, v = .slice (some ⟨g, 0, none⟩) n cap ∧ base ≤ g ∧ RowAt w g cap e size n xs := by
  obtain ⟨h0, h | ⟨g, cap, cur, rfl, hb, h1, h2, h3, h4, h5⟩⟩ := h
  · exact absurd h.1 hn
  · exact ⟨g, cap, rfl, hb, cur, h1, h2, h3, h4, h5, h0⟩

theorem RowAt.lt {w : World} {g cap : Nat} {e : TypeId} {size n : Nat} {xs : List Value} (h : RowAt w g cap e size n xs) : g < w.heap.size := by
  obtain ⟨cur, h1, _⟩ := h
  exact (Array.getElem?_eq_some_iff.1 h1).1

theorem RowAt.length {w : World} {g cap : Nat} {e : TypeId} {size n : Nat} {xs : List Value} (h : RowAt w g cap e size n xs) : xs.length = n * size := by
  obtain ⟨cur, _, _, _, _, _, h6⟩ := h
  exact h6
theorem RowAt.le {w : World} {g cap : Nat} {e : TypeId} {size n : Nat} {xs : List Value} (h : RowAt w g cap e size n xs) : n ≤ cap := by
  obtain ⟨cur, _, h2, _⟩ := h
  exact h2

theorem RowAt.cell? {w : World} {g cap : Nat} {e : TypeId} {size n : Nat} {xs : List Value} (h : RowAt w g cap e size n xs) (i : Nat) (hi : i < xs.length) : w.cell? ⟨g, i, none⟩ = xs[i]? := by
  obtain ⟨cur, h1, h2, h3, h4, h5, h6⟩ := h
  simp only [World.cell?, h1]
  have hin : i < n * size := by rw [← h6]; exact hi
  have : xs[i]? = (cur.toList.take (n * size))[i]? := by rw [h5]
  rw [this, List.getElem?_take, if_pos hin]
  simp

theorem RowAt.frozen {w : World} {g cap : Nat} {e : TypeId} {size n : Nat} {xs : List Value} (h : RowAt w g cap e size n xs) (i : Nat) : w.frozen? ⟨g, i, none⟩ = false := by
  obtain ⟨cur, h1, _⟩ := h
  simp [World.frozen?, h1]

theorem RowAt.of_heap {w w' : World} {g cap : Nat} {e : TypeId} {size n : Nat} {xs : List Value} (h : RowAt w g cap e size n xs) (eq : w'.heap[g]? = w.heap[g]?) : RowAt w' g cap e size n xs := by
  obtain ⟨cur, h1, h2⟩ := h
  exact ⟨cur, eq.trans h1, h2⟩
theorem RowAt.below {B : Nat} {w w' : World} {g cap : Nat} {e : TypeId} {size n : Nat} {xs : List Value} (h : RowAt w g cap e size n xs) (hb : Below B w w') (hB : g < B) : RowAt w' g cap e size n xs := h.of_heap (hb.block g hB)
theorem RowAt.drew {w : World} {g cap : Nat} {e : TypeId} {size n : Nat} {xs : List Value} (h : RowAt w g cap e size n xs) : RowAt w.drew g cap e size n xs := h
theorem RowAt.drewN {w : World} {g cap : Nat} {e : TypeId} {size n : Nat} {xs : List Value} (h : RowAt w g cap e size n xs) (k : Nat) : RowAt (w.drewN k) g cap e size n xs := h
theorem RowAt.alloc {w : World} {g cap : Nat} {e : TypeId} {size n : Nat} {xs : List Value} (h : RowAt w g cap e size n xs) (o : Obj) : RowAt (w.alloc o) g cap e size n xs :=
  h.of_heap (Below.heap_alloc w o g h.lt)
theorem RowAt.other {w : World} {g cap : Nat} {e : TypeId} {size n : Nat} {xs : List Value} (h : RowAt w g cap e size n xs) {a : Addr} (hne : a.block ≠ g) (v : Value) : RowAt (w.setCell a v) g cap e size n xs :=
  h.of_heap (Below.heap_setCell w a v g (fun e => hne e.symm))

theorem RowAt.set {w : World} {g cap : Nat} {e : TypeId} {size n : Nat} {xs : List Value} (h : RowAt w g cap e size n xs) (i : Nat) (v : Value) : RowAt (w.setCell ⟨g, i, none⟩ v) g cap e size n (xs.set i v) := by
  obtain ⟨cur, h1, h2, h3, h4, h5, h6⟩ := h
  refine ⟨cur.setIfInBounds i v, ?_, h2, h3, by simpa using h4, ?_, by simpa using h6⟩
  · simp only [World.setCell, Array.getElem?_modify, if_true, h1, Option.map_some]
    simp
  · rw [Array.toList_setIfInBounds, List.take_set, h5]

/-- whole numbers -/
def ints (xs : List Int) : List Value := xs.map (Value.int .i64)
theorem ints_length (xs : List Int) : (ints xs).length = xs.length := by simp [ints]
theorem ints_set (xs : List Int) (i : Nat) (v : Int) : (ints xs).set i (.int .i64 v) = ints (xs.set i v) := by simp [ints, List.map_set]
theorem ints_app (xs ys : List Int) : ints xs ++ ints ys = ints (xs ++ ys) := by simp [ints]

/-- a row of ints -/
def IRow (w : World) (g cap : Nat) (xs : List Int) : Prop := RowAt w g cap 3 1 xs.length (ints xs)
theorem IRow.cell {w : World} {g cap : Nat} {xs : List Int} (h : IRow w g cap xs) (i : Nat) (hi : i < xs.length) : w.cell? ⟨g, i, none⟩ = some (.int .i64 (xs.getD i 0)) := by
  rw [RowAt.cell? h i (by rw [ints_length]; exact hi)]
  simp [ints, List.getElem?_eq_getElem hi]
theorem IRow.set {w : World} {g cap : Nat} {xs : List Int} (h : IRow w g cap xs) (i : Nat) (v : Int) : IRow (w.setCell ⟨g, i, none⟩ (.int .i64 v)) g cap (xs.set i v) := by
  have := RowAt.set h i (.int .i64 v)
  rw [ints_set] at this
  unfold IRow
  rw [List.length_set]
  exact this

theorem IRow.of_nums {w : World} {b n : Nat} {xs : List Int} (h : w.heap[b]? = some (.cells (ints xs).toArray 3 (0, 0))) (hn : xs.length = n) (hm : n ≤ 1000000000) : IRow w b n xs := by
  refine ⟨(ints xs).toArray, h, by omega, by unfold maxLen; omega, by simp [ints_length, hn], ?_, by rw [ints_length, Nat.mul_one]⟩
  rw [Nat.mul_one, List.take_of_length_le (by simp [ints])]

/-- what 'append' and a store of the call's own leave, below B -/
theorem below_grown {B : Nat} {a w w' : World} {v : Value} (h : Below B a w) (hg : w.grownBy w' v.ownBlock) (hB : B ≤ w.heap.size) {base : Nat} {e : TypeId} {size n : Nat} {xs : List Value} (ho : w.ownsRow base e size v n xs) (hb : B ≤ base) : Below B a w' := by
  refine h.grown hg hB (fun k hk => ?_)
  obtain ⟨_, ⟨rfl, _⟩ | ⟨g, cap, cur, rfl, hbg, _⟩⟩ := ho
  · cases hk
  · cases hk; exact Nat.le_trans hb hbg
end Go.Proofs.Ytjmkkkfloalliab

namespace Go.Proofs.Ytjmkkkfloalliab
set_option linter.unusedVariables false
open Go.RowKit

/-- w' is w with new blocks; of what was there only the blocks of S may have turned -/
structure Keep (S : List Nat) (w w' : World) : Prop where
  os : w'.os = w.os
  tape : w'.tape = w.tape
  output : w'.output = w.output
  size : w.heap.size ≤ w'.heap.size
  block : ∀ k, k < w.heap.size → k ∉ S → w'.heap[k]? = w.heap[k]?
theorem Keep.refl (S : List Nat) (w : World) : Keep S w w := ⟨rfl, rfl, rfl, Nat.le_refl _, fun _ _ _ => rfl⟩
theorem Keep.trans {S : List Nat} {a b c : World} (h : Keep S a b) (k : Keep S b c) : Keep S a c :=
  ⟨k.os.trans h.os, k.tape.trans h.tape, k.output.trans h.output, Nat.le_trans h.size k.size, fun i hi hs => (k.block i (Nat.lt_of_lt_of_le hi h.size) hs).trans (h.block i hi hs)⟩
theorem Keep.of_below {S : List Nat} {B : Nat} {w w' : World} (h : Below B w w') (hB : w.heap.size ≤ B) : Keep S w w' :=
  ⟨h.os, h.tape, h.output, h.size, fun k hk _ => h.block k (Nat.lt_of_lt_of_le hk hB)⟩
theorem Keep.to_below {S : List Nat} {B : Nat} {w w' : World} (h : Keep S w w') (hS : ∀ k, k ∈ S → B ≤ k) (hB : B ≤ w.heap.size) : Below B w w' :=
  ⟨h.os, h.tape, h.output, h.size, fun k hk => h.block k (Nat.lt_of_lt_of_le hk hB) (fun hm => by have := hS k hm; omega)⟩
theorem Keep.drewN {S : List Nat} {a w : World} (h : Keep S a w) (n : Nat) : Keep S a (w.drewN n) := ⟨h.os, h.tape, h.output, h.size, h.block⟩
theorem Keep.alloc {S : List Nat} {a w : World} (h : Keep S a w) (o : Obj) : Keep S a (w.alloc o) :=
  h.trans ⟨rfl, rfl, rfl, by simp, fun k hk _ => Below.heap_alloc _ _ _ hk⟩
theorem Keep.setCell {S : List Nat} {a w : World} (h : Keep S a w) {p : Addr} (hp : p.block ∈ S) (u : Value) : Keep S a (w.setCell p u) :=
  h.trans ⟨rfl, rfl, rfl, by simp [World.setCell], fun k hk hs => Below.heap_setCell _ _ _ _ (fun e => hs (by rw [e]; exact hp))⟩
theorem Keep.drew {S : List Nat} {a w : World} (h : Keep S a w) : Keep S a w.drew := ⟨h.os, h.tape, h.output, h.size, h.block⟩
theorem Keep.setNew {S : List Nat} {a w : World} (h : Keep S a w) {p : Addr} (hp : a.heap.size ≤ p.block) (u : Value) : Keep S a (w.setCell p u) :=
  ⟨h.os, h.tape, h.output, by simp [World.setCell]; exact h.size, fun k hk hs => (Below.heap_setCell _ _ _ _ (by omega)).trans (h.block k hk hs)⟩
theorem Keep.mono {S S' : List Nat} {w w' : World} (h : Keep S w w') (hs : ∀ k, k ∈ S → k ∈ S') : Keep S' w w' :=
  ⟨h.os, h.tape, h.output, h.size, fun k hk hk2 => h.block k hk (fun hm => hk2 (hs k hm))⟩

/-- a block of a known type -/
def BlkT (w : World) (b : Nat) (T : TypeId) (vs : List Value) : Prop := w.heap[b]? = some (.cells vs.toArray T (0, 0))
theorem BlkT.blk {w : World} {b : Nat} {T : TypeId} {vs : List Value} (h : BlkT w b T vs) : Blk w b vs := ⟨T, h⟩
theorem BlkT.lt {w : World} {b : Nat} {T : TypeId} {vs : List Value} (h : BlkT w b T vs) : b < w.heap.size := h.blk.lt
theorem BlkT.cell {w : World} {b : Nat} {T : TypeId} {vs : List Value} (h : BlkT w b T vs) (i : Nat) : w.cell? ⟨b, i, none⟩ = vs[i]? := h.blk.cell? i
theorem BlkT.frozen {w : World} {b : Nat} {T : TypeId} {vs : List Value} (h : BlkT w b T vs) (i : Nat) : w.frozen? ⟨b, i, none⟩ = false := h.blk.frozen i
theorem BlkT.new (w : World) (c : Array Value) (T : TypeId) : BlkT (w.alloc (.cells c T)) w.heap.size T c.toList := by
  show (w.heap.push _)[w.heap.size]? = _
  simp
theorem BlkT.set {w : World} {b : Nat} {T : TypeId} {vs : List Value} (h : BlkT w b T vs) (i : Nat) (v : Value) : BlkT (w.setCell ⟨b, i, none⟩ v) b T (vs.set i v) := by
  unfold BlkT at *
  simp only [World.setCell, Array.getElem?_modify, if_true, h, Option.map_some]
  simp
theorem BlkT.ne {w : World} {b b' : Nat} {T T' : TypeId} {vs vs' : List Value} (h : BlkT w b T vs) (h' : BlkT w b' T' vs') (hT : T ≠ T') : b ≠ b' := by
  intro e
  subst e
  unfold BlkT at *
  rw [h] at h'
  cases h'
  exact hT rfl
theorem BlkT.keep {S : List Nat} {w w' : World} {b : Nat} {T : TypeId} {vs : List Value} (h : BlkT w b T vs) (k : Keep S w w') (hb : b ∉ S) : BlkT w' b T vs := (k.block b h.lt hb).trans h
theorem BlkT.other {w : World} {b : Nat} {T : TypeId} {vs : List Value} (h : BlkT w b T vs) {a : Addr} (hne : a.block ≠ b) (v : Value) : BlkT (w.setCell a v) b T vs :=
  (Below.heap_setCell w a v b (fun e => hne e.symm)).trans h
theorem BlkT.alloc {w : World} {b : Nat} {T : TypeId} {vs : List Value} (h : BlkT w b T vs) (o : Obj) : BlkT (w.alloc o) b T vs := (Below.heap_alloc w o b h.lt).trans h

theorem Keep.grown {S : List Nat} {a w w' : World} {row : Option Nat} (h : Keep S a w) (hg : w.grownBy w' row) (hr : ∀ k, row = some k → a.heap.size ≤ k) : Keep S a w' :=
  ⟨hg.os.trans h.os, hg.tape.trans h.tape, hg.output.trans h.output, Nat.le_trans h.size hg.size, fun k hk hs => (hg.block k (Nat.lt_of_lt_of_le hk h.size) (fun e => by have := hr k e.symm; omega)).trans (h.block k hk hs)⟩

theorem add_plain (g o j : Nat) : (⟨g, o, none⟩ : Addr).add j = ⟨g, o + j, none⟩ := by unfold Addr.add; split <;> simp_all
theorem RowAt.one (w : World) (p : Value) (T : TypeId) : RowAt (w.alloc (.cells #[p] T)) w.heap.size 1 T 1 1 [p] :=
  ⟨#[p], BlkT.new w #[p] T, Nat.le_refl _, by decide, rfl, rfl, rfl⟩
end Go.Proofs.Ytjmkkkfloalliab

namespace Go.Proofs.Ytjmkkkfloalliab
set_option linter.unusedVariables false
open Go.RowKit

abbrev L (s : ByteArray) : List UInt8 := s.data.toList

/-- the reader in memory; v: the parts -/
def RdT (w : World) (br : Nat) (pat : ByteArray) (σ : Q.Rd) (v : Value) : Prop :=
  BlkT w br 87 [.string pat, .int .i64 (σ.at_ : Int), .bool σ.wrong, .bool σ.back, .int .i64 (σ.depth : Int), .int .i64 (σ.deepest : Int), v]
theorem RdT.cells {w : World} {br : Nat} {pat : ByteArray} {σ : Q.Rd} {v : Value} (h : RdT w br pat σ v) :
    w.cell? ⟨br, 0, none⟩ = some (.string pat) ∧ w.cell? ⟨br, 1, none⟩ = some (.int .i64 (σ.at_ : Int)) ∧ w.cell? ⟨br, 2, none⟩ = some (.bool σ.wrong) ∧ w.cell? ⟨br, 3, none⟩ = some (.bool σ.back) ∧
    w.cell? ⟨br, 4, none⟩ = some (.int .i64 (σ.depth : Int)) ∧ w.cell? ⟨br, 5, none⟩ = some (.int .i64 (σ.deepest : Int)) ∧ w.cell? ⟨br, 6, none⟩ = some v :=
  ⟨h.cell 0, h.cell 1, h.cell 2, h.cell 3, h.cell 4, h.cell 5, h.cell 6⟩
theorem RdT.keep {S : List Nat} {w w' : World} {br : Nat} {pat : ByteArray} {σ : Q.Rd} {v : Value} (h : RdT w br pat σ v) (k : Keep S w w') (hb : br ∉ S) : RdT w' br pat σ v := BlkT.keep h k hb
theorem RdT.drewN {w : World} {br : Nat} {pat : ByteArray} {σ : Q.Rd} {v : Value} (h : RdT w br pat σ v) (n : Nat) : RdT (w.drewN n) br pat σ v := h
theorem RdT.fwd {w : World} {br : Nat} {pat : ByteArray} {σ : Q.Rd} {v : Value} (h : RdT w br pat σ v) (k : Nat) (hk : k = σ.at_ + 1) : RdT (w.setCell ⟨br, 1, none⟩ (.int .i64 (k : Int))) br pat (Q.fwd σ) v := by
  subst hk
  exact BlkT.set h 1 _
theorem RdT.wrong {w : World} {br : Nat} {pat : ByteArray} {σ : Q.Rd} {v : Value} (h : RdT w br pat σ v) : RdT (w.setCell ⟨br, 2, none⟩ (.bool true)) br pat { σ with wrong := true } v := BlkT.set h 2 _
theorem RdT.back {w : World} {br : Nat} {pat : ByteArray} {σ : Q.Rd} {v : Value} (h : RdT w br pat σ v) : RdT (w.setCell ⟨br, 3, none⟩ (.bool true)) br pat { σ with back := true } v := BlkT.set h 3 _

set_option maxRecDepth 10000 in
set_option maxHeartbeats 800000 in
theorem next_any (br : Nat) (pat : ByteArray) (σ : Q.Rd) (v : Value) (w : World) (hR : RdT w br pat σ v) (hs : pat.size ≤ 1000) (ha : σ.at_ ≤ pat.size) :
    Calls Try.prog 91 #[.pointer (some ⟨br, 0, none⟩)] w fun e w' => e = .returned (.int .i64 (Q.next (L pat) σ)) ∧ ∃ q, w' = w.drewN q := by
  have HL : Hid ((L pat).length = pat.size) := size_len pat
  obtain ⟨c0, c1, c2, c3, c4, c5, c6⟩ := hR.cells
  clear c3 c4 c5 c6
  cases hw : σ.wrong with
  | true =>
    have HE : Hid (Q.next (L pat) σ = -1) := by show _ = _; unfold Q.next; rw [if_pos (.inl hw)]
    rw [HE.out]
    rw [hw] at c2
    clear hR hw
    go_enter Try.func91, Try.ntmps91
    go_wp2
    go_quiet (fail)
    go_wp2
    go_ret
    exact ⟨rfl, _, rfl⟩
  | false =>
    rw [hw] at c2
    by_cases hlt : σ.at_ < pat.size
    · have hd : decide ((pat.size : Int) ≤ (σ.at_ : Int)) = false := by simp; omega
      have HE : Hid (Q.next (L pat) σ = ((pat[σ.at_]).toNat : Int)) := by
        show _ = _
        unfold Q.next
        rw [if_neg (by rw [hw, HL.out]; simp; omega), ← byte_at pat _ hlt]
      have hb := getD_lt (L pat) σ.at_
      rw [← byte_at pat _ hlt] at hb
      rw [HE.out]
      clear hR hw
      go_enter Try.func91, Try.ntmps91
      go_wp2
      go_quiet (fail)
      go_wp2
      go_quiet (fail)
      go_wp2
      go_ret
      exact ⟨rfl, _, by first | rfl | (rw [World.drewN_drewN])⟩
    · have hd : decide ((pat.size : Int) ≤ (σ.at_ : Int)) = true := by simp; omega
      have HE : Hid (Q.next (L pat) σ = -1) := by show _ = _; unfold Q.next; rw [if_pos (.inr (by rw [HL.out]; omega))]
      rw [HE.out]
      clear hR hw
      go_enter Try.func91, Try.ntmps91
      go_wp2
      go_quiet (fail)
      go_wp2
      go_ret
      exact ⟨rfl, _, rfl⟩

set_option maxRecDepth 10000 in
set_option maxHeartbeats 800000 in
theorem take_any (br : Nat) (pat : ByteArray) (σ : Q.Rd) (v : Value) (c : Int) (w : World) (hR : RdT w br pat σ v) (hs : pat.size ≤ 1000) (ha : σ.at_ ≤ pat.size) :
    Calls Try.prog 78 #[.pointer (some ⟨br, 0, none⟩), .int .i64 c] w fun e w' => e = .returned (.bool (Q.next (L pat) σ == c)) ∧ RdT w' br pat (Q.take (L pat) c σ) v ∧ Keep [br] w w' := by
  obtain ⟨c0, c1, c2, c3, c4, c5, c6⟩ := hR.cells
  have f1 := BlkT.frozen hR 1
  clear c0 c2 c3 c4 c5 c6
  have HR : Hid (RdT w br pat σ v) := hR
  have HN := fun w => next_any br pat σ v w
  clear hR
  by_cases h : Q.next (L pat) σ = c
  · have hq : (Q.next (L pat) σ == c) = true := by simp [h]
    have HE : Hid (Q.take (L pat) c σ = Q.fwd σ) := by show _ = _; unfold Q.take; rw [if_pos h]
    rw [HE.out, hq]
    go_enter Try.func78, Try.ntmps78
    go_wp2_with (go_at_call 91; refine (next_any br pat σ v _ HR.out hs ha).mono ?_; rintro e w1 ⟨rfl, q, rfl⟩)
    go_ret
    exact ⟨rfl, RdT.fwd (HR.out.drewN q) (σ.at_ + 1) rfl, ((Keep.refl [br] w).drewN q).setCell (by simp) _⟩
  · have hq : (Q.next (L pat) σ == c) = false := by simp [h]
    have HE : Hid (Q.take (L pat) c σ = σ) := by show _ = _; unfold Q.take; rw [if_neg h]
    rw [HE.out, hq]
    clear h
    go_enter Try.func78, Try.ntmps78
    go_wp2_with (go_at_call 91; refine (next_any br pat σ v _ HR.out hs ha).mono ?_; rintro e w1 ⟨rfl, q, rfl⟩)
    go_ret
    exact ⟨rfl, HR.out.drewN q, (Keep.refl [br] w).drewN q⟩

set_option maxRecDepth 10000 in
set_option maxHeartbeats 800000 in
theorem need_any (br : Nat) (pat : ByteArray) (σ : Q.Rd) (v : Value) (c : Int) (w : World) (hR : RdT w br pat σ v) (hs : pat.size ≤ 1000) (ha : σ.at_ ≤ pat.size) :
    Calls Try.prog 121 #[.pointer (some ⟨br, 0, none⟩), .int .i64 c] w fun e w' => e = .returned (.tuple #[]) ∧ RdT w' br pat (Q.need (L pat) c σ) v ∧ Keep [br] w w' := by
  have HR : Hid (RdT w br pat σ v) := hR
  clear hR
  by_cases h : Q.next (L pat) σ = c
  · have hq : (Q.next (L pat) σ == c) = true := by simp [h]
    have HE : Hid (Q.need (L pat) c σ = Q.take (L pat) c σ) := by show _ = _; unfold Q.need Q.take; rw [if_pos h, if_pos h]
    rw [HE.out]
    clear h
    go_enter Try.func121, Try.ntmps121
    go_wp2_with (go_at_call 78; refine (take_any br pat σ v c _ HR.out hs ha).mono ?_; rintro e w1 ⟨rfl, hR1, hK1⟩)
    go_end0
    exact ⟨rfl, hR1, hK1⟩
  · have hq : (Q.next (L pat) σ == c) = false := by simp [h]
    have HE : Hid (Q.need (L pat) c σ = { σ with wrong := true }) := by show _ = _; unfold Q.need; rw [if_neg h]
    have HT : Hid (Q.take (L pat) c σ = σ) := by show _ = _; unfold Q.take; rw [if_neg h]
    rw [HE.out]
    clear h
    go_enter Try.func121, Try.ntmps121
    go_wp2_with (go_at_call 78; refine (take_any br pat σ v c _ HR.out hs ha).mono ?_; rintro e w1 ⟨rfl, hR1, hK1⟩; rw [HT.out] at hR1; have f2 := BlkT.frozen hR1 2; obtain ⟨_, _, c2, _⟩ := hR1.cells)
    go_end0
    exact ⟨rfl, hR1.wrong, hK1.setCell (by simp) _⟩

set_option maxRecDepth 10000 in
set_option maxHeartbeats 800000 in
theorem anyByte_any (br : Nat) (pat : ByteArray) (σ : Q.Rd) (v : Value) (w : World) (hR : RdT w br pat σ v) (hs : pat.size ≤ 1000) (ha : σ.at_ ≤ pat.size) :
    Calls Try.prog 118 #[.pointer (some ⟨br, 0, none⟩)] w fun e w' => e = .returned (.int .i64 ((Q.anyByte (L pat) σ).1 : Nat)) ∧ RdT w' br pat (Q.anyByte (L pat) σ).2 v ∧ Keep [br] w w' := by
  obtain ⟨c0, c1, c2, c3, c4, c5, c6⟩ := hR.cells
  have f1 := BlkT.frozen hR 1
  have f2 := BlkT.frozen hR 2
  clear c0 c3 c4 c5 c6
  have HR : Hid (RdT w br pat σ v) := hR
  clear hR
  have hr := Q.next_range (s := L pat) σ
  by_cases h : Q.next (L pat) σ = -1
  · have HE : Hid (Q.anyByte (L pat) σ = (0, { σ with wrong := true })) := by show _ = _; unfold Q.anyByte; rw [if_pos h]
    rw [HE.out]
    go_enter Try.func118, Try.ntmps118
    go_wp2_with (go_at_call 91; refine (next_any br pat σ v _ HR.out hs ha).mono ?_; rintro e w1 ⟨rfl, q, rfl⟩)
    go_ret
    exact ⟨rfl, RdT.wrong (HR.out.drewN q), ((Keep.refl [br] w).drewN q).setCell (by simp) _⟩
  · have hq : (Q.next (L pat) σ == -1) = false := by simp [h]
    have HE : Hid (Q.anyByte (L pat) σ = ((Q.next (L pat) σ).toNat, Q.fwd σ)) := by show _ = _; unfold Q.anyByte; rw [if_neg h]
    have HN : Hid (((Q.next (L pat) σ).toNat : Int) = Q.next (L pat) σ) := by show _ = _; omega
    rw [HE.out]
    clear h
    go_enter Try.func118, Try.ntmps118
    go_wp2_with (go_at_call 91; refine (next_any br pat σ v _ HR.out hs ha).mono ?_; rintro e w1 ⟨rfl, q, rfl⟩)
    go_ret
    exact ⟨ret_int HN.out.symm, RdT.fwd (HR.out.drewN q) (σ.at_ + 1) rfl, ((Keep.refl [br] w).drewN q).setCell (by simp) _⟩

set_option maxRecDepth 10000 in
set_option maxHeartbeats 800000 in
theorem isDigit_any (c : Int) (w : World) :
    Calls Try.prog 120 #[.int .i64 c] w fun e w' => e = .returned (.bool (Q.isDigit c)) ∧ w' = w := by
  by_cases h1 : 48 ≤ c
  · have d1 : decide (48 ≤ c) = true := by simp [h1]
    have HE : Hid (Q.isDigit c = decide (c ≤ 57)) := by show _ = _; unfold Q.isDigit; rw [d1]; rfl
    rw [HE.out]
    go_enter Try.func120, Try.ntmps120
    go_wp2
    go_ret
    exact ⟨rfl, rfl⟩
  · have d1 : decide (48 ≤ c) = false := by simp; omega
    have HE : Hid (Q.isDigit c = false) := by show _ = _; unfold Q.isDigit; rw [d1]; rfl
    rw [HE.out]
    go_enter Try.func120, Try.ntmps120
    go_wp2
    go_ret
    exact ⟨rfl, rfl⟩
end Go.Proofs.Ytjmkkkfloalliab

namespace Go.Proofs.Ytjmkkkfloalliab
set_option linter.unusedVariables false
open Go.RowKit

/-- the cells of a part -/
def partCells (p : Q.Part) : List Value :=
  .int .i64 (p.kind : Int) :: (p.ins.map Value.bool ++ [.int .i64 (p.left : Int), .int .i64 (p.right : Int), .int .i64 (p.low : Int), .int .i64 (p.high : Int), .bool p.endless, .bool p.some, .bool p.empty, .int .i64 (p.places : Int)])
theorem partCells_len {p : Q.Part} (h : p.ins.length = 256) : (partCells p).length = 265 := by
  simp [partCells, h]
/-- a part in memory -/
def PtT (w : World) (bp : Nat) (p : Q.Part) : Prop := p.ins.length = 256 ∧ BlkT w bp 90 (partCells p)
theorem pc_tail {p : Q.Part} (h : p.ins.length = 256) (i : Nat) : (partCells p)[257 + i]? = ([.int .i64 (p.left : Int), .int .i64 (p.right : Int), .int .i64 (p.low : Int), .int .i64 (p.high : Int), .bool p.endless, .bool p.some, .bool p.empty, .int .i64 (p.places : Int)] : List Value)[i]? := by
  unfold partCells
  rw [show 257 + i = (256 + i) + 1 by omega, List.getElem?_cons_succ, List.getElem?_append_right (by rw [List.length_map, h]; omega)]
  rw [List.length_map, h, show 256 + i - 256 = i by omega]
theorem pc_ins {p : Q.Part} (h : p.ins.length = 256) (i : Nat) (hi : i < 256) : (partCells p)[1 + i]? = some (.bool (p.ins.getD i false)) := by
  unfold partCells
  rw [show 1 + i = i + 1 by omega, List.getElem?_cons_succ, List.getElem?_append_left (by rw [List.length_map, h]; omega), List.getElem?_map]
  rw [List.getD_eq_getElem?_getD, List.getElem?_eq_getElem (by omega)]; rfl
theorem set_tail {p : Q.Part} (h : p.ins.length = 256) (i : Nat) (v : Value) : (partCells p).set (257 + i) v = .int .i64 (p.kind : Int) :: (p.ins.map Value.bool ++ ([.int .i64 (p.left : Int), .int .i64 (p.right : Int), .int .i64 (p.low : Int), .int .i64 (p.high : Int), .bool p.endless, .bool p.some, .bool p.empty, .int .i64 (p.places : Int)] : List Value).set i v) := by
  unfold partCells
  rw [show 257 + i = (256 + i) + 1 by omega, List.set_cons_succ, List.set_append_right (256 + i) v (by rw [List.length_map, h]; omega), List.length_map, h, show 256 + i - 256 = i by omega]
theorem PtT.cell0 {w : World} {bp : Nat} {p : Q.Part} (h : PtT w bp p) : w.cell? ⟨bp, 0, none⟩ = some (.int .i64 (p.kind : Int)) := h.2.cell 0
theorem PtT.cellI {w : World} {bp : Nat} {p : Q.Part} (h : PtT w bp p) (i : Nat) (hi : i < 256) : w.cell? ⟨bp, 1 + i, none⟩ = some (.bool (p.ins.getD i false)) := (h.2.cell (1 + i)).trans (pc_ins h.1 i hi)
theorem PtT.cells {w : World} {bp : Nat} {p : Q.Part} (h : PtT w bp p) :
    w.cell? ⟨bp, 257, none⟩ = some (.int .i64 (p.left : Int)) ∧ w.cell? ⟨bp, 258, none⟩ = some (.int .i64 (p.right : Int)) ∧ w.cell? ⟨bp, 259, none⟩ = some (.int .i64 (p.low : Int)) ∧ w.cell? ⟨bp, 260, none⟩ = some (.int .i64 (p.high : Int)) ∧
    w.cell? ⟨bp, 261, none⟩ = some (.bool p.endless) ∧ w.cell? ⟨bp, 262, none⟩ = some (.bool p.some) ∧ w.cell? ⟨bp, 263, none⟩ = some (.bool p.empty) ∧ w.cell? ⟨bp, 264, none⟩ = some (.int .i64 (p.places : Int)) :=
  ⟨(h.2.cell 257).trans (pc_tail h.1 0), (h.2.cell 258).trans (pc_tail h.1 1), (h.2.cell 259).trans (pc_tail h.1 2), (h.2.cell 260).trans (pc_tail h.1 3), (h.2.cell 261).trans (pc_tail h.1 4), (h.2.cell 262).trans (pc_tail h.1 5), (h.2.cell 263).trans (pc_tail h.1 6), (h.2.cell 264).trans (pc_tail h.1 7)⟩
theorem PtT.frozen {w : World} {bp : Nat} {p : Q.Part} (h : PtT w bp p) (i : Nat) : w.frozen? ⟨bp, i, none⟩ = false := h.2.frozen i
theorem PtT.keep {S : List Nat} {w w' : World} {bp : Nat} {p : Q.Part} (h : PtT w bp p) (k : Keep S w w') (hb : bp ∉ S) : PtT w' bp p := ⟨h.1, BlkT.keep h.2 k hb⟩
theorem PtT.drewN {w : World} {bp : Nat} {p : Q.Part} (h : PtT w bp p) (n : Nat) : PtT (w.drewN n) bp p := h
theorem PtT.other {w : World} {bp : Nat} {p : Q.Part} (h : PtT w bp p) {a : Addr} (hne : a.block ≠ bp) (v : Value) : PtT (w.setCell a v) bp p := ⟨h.1, BlkT.other h.2 hne v⟩
theorem RdT.other {w : World} {br : Nat} {pat : ByteArray} {σ : Q.Rd} {v : Value} (h : RdT w br pat σ v) {a : Addr} (hne : a.block ≠ br) (x : Value) : RdT (w.setCell a x) br pat σ v := BlkT.other h hne x
theorem PtT.low {w : World} {bp : Nat} {p : Q.Part} (h : PtT w bp p) (n : Nat) : PtT (w.setCell ⟨bp, 259, none⟩ (.int .i64 (n : Int))) bp { p with low := n } :=
  ⟨h.1, by have := BlkT.set h.2 259 (.int .i64 (n : Int)); rw [set_tail h.1 2] at this; exact this⟩
theorem PtT.high {w : World} {bp : Nat} {p : Q.Part} (h : PtT w bp p) (n : Nat) : PtT (w.setCell ⟨bp, 260, none⟩ (.int .i64 (n : Int))) bp { p with high := n } :=
  ⟨h.1, by have := BlkT.set h.2 260 (.int .i64 (n : Int)); rw [set_tail h.1 3] at this; exact this⟩
theorem PtT.endless {w : World} {bp : Nat} {p : Q.Part} (h : PtT w bp p) (b : Bool) : PtT (w.setCell ⟨bp, 261, none⟩ (.bool b)) bp { p with endless := b } :=
  ⟨h.1, by have := BlkT.set h.2 261 (.bool b); rw [set_tail h.1 4] at this; exact this⟩
theorem PtT.some {w : World} {bp : Nat} {p : Q.Part} (h : PtT w bp p) (b : Bool) : PtT (w.setCell ⟨bp, 262, none⟩ (.bool b)) bp { p with some := b } :=
  ⟨h.1, by have := BlkT.set h.2 262 (.bool b); rw [set_tail h.1 5] at this; exact this⟩
theorem PtT.empty {w : World} {bp : Nat} {p : Q.Part} (h : PtT w bp p) (b : Bool) : PtT (w.setCell ⟨bp, 263, none⟩ (.bool b)) bp { p with empty := b } :=
  ⟨h.1, by have := BlkT.set h.2 263 (.bool b); rw [set_tail h.1 6] at this; exact this⟩
theorem PtT.places {w : World} {bp : Nat} {p : Q.Part} (h : PtT w bp p) (n : Nat) : PtT (w.setCell ⟨bp, 264, none⟩ (.int .i64 (n : Int))) bp { p with places := n } :=
  ⟨h.1, by have := BlkT.set h.2 264 (.int .i64 (n : Int)); rw [set_tail h.1 7] at this; exact this⟩
theorem PtT.ins {w : World} {bp : Nat} {p : Q.Part} (h : PtT w bp p) (i : Nat) (hi : i < 256) (b : Bool) : PtT (w.setCell ⟨bp, 1 + i, none⟩ (.bool b)) bp { p with ins := p.ins.set i b } := by
  refine ⟨by simp [h.1], ?_⟩
  have := BlkT.set h.2 (1 + i) (.bool b)
  have e : (partCells p).set (1 + i) (.bool b) = partCells { p with ins := p.ins.set i b } := by
    unfold partCells
    rw [show 1 + i = i + 1 by omega, List.set_cons_succ, List.set_append_left i _ (by rw [List.length_map, h.1]; exact hi)]
    simp [List.map_set]
  rw [e] at this
  exact this
theorem PtT.ne {w : World} {bp br : Nat} {p : Q.Part} {pat : ByteArray} {σ : Q.Rd} {v : Value} (h : PtT w bp p) (hR : RdT w br pat σ v) : bp ≠ br := BlkT.ne h.2 hR (by decide)

set_option maxRecDepth 10000 in
set_option maxHeartbeats 800000 in
theorem number_any (br : Nat) (pat : ByteArray) (σ : Q.Rd) (v : Value) (w : World) (hR : RdT w br pat σ v) (hs : pat.size ≤ 1000) (ha : σ.at_ ≤ pat.size) :
    Calls Try.prog 119 #[.pointer (some ⟨br, 0, none⟩)] w fun e w' => e = .returned (.int .i64 ((Q.number (L pat) σ).1 : Nat)) ∧ RdT w' br pat (Q.number (L pat) σ).2 v ∧ Keep [br] w w' := by
  have HL : Hid ((L pat).length = pat.size) := size_len pat
  obtain ⟨c0, c1, c2, c3, c4, c5, c6⟩ := hR.cells
  have f1 := BlkT.frozen hR 1
  have f2 := BlkT.frozen hR 2
  clear c0 c3 c4 c5 c6
  have HR : Hid (RdT w br pat σ v) := hR
  clear hR
  have hr := Q.next_range (s := L pat) σ
  cases hd : Q.isDigit (Q.next (L pat) σ) with
  | false =>
    have HE : Hid (Q.number (L pat) σ = (0, { σ with wrong := true })) := by show _ = _; unfold Q.number; rw [if_pos hd]
    rw [HE.out]
    go_enter Try.func119, Try.ntmps119
    go_wp2_with (first | (go_at_call 91; refine (next_any br pat σ v _ HR.out hs ha).mono ?_; rintro e w1 ⟨rfl, q, rfl⟩) | (go_at_call 120; refine (isDigit_any _ _).mono ?_; rintro e w2 ⟨rfl, rfl⟩; rw [hd]))
    go_ret
    exact ⟨rfl, RdT.wrong (HR.out.drewN q), ((Keep.refl [br] w).drewN q).setCell (by simp) _⟩
  | true =>
    have h1 := Q.isDigit_ne hd
    have hne : Q.next (L pat) σ ≠ -1 := by omega
    have ha2 : (Q.fwd σ).at_ ≤ pat.size := by have := (Q.next_lt hne).2.1; rw [HL.out] at this; show σ.at_ + 1 ≤ _; omega
    have HF : ∀ q, Hid (RdT ((w.drewN q).setCell ⟨br, 1, none⟩ (.int .i64 ((σ.at_ : Int) + 1))) br pat (Q.fwd σ) v) := fun q => RdT.fwd (HR.out.drewN q) (σ.at_ + 1) rfl
    have hr2 := Q.next_range (s := L pat) (Q.fwd σ)
    clear hne
    cases hd2 : Q.isDigit (Q.next (L pat) (Q.fwd σ)) with
    | true =>
      have h2 := Q.isDigit_ne hd2
      have HE : Hid (Q.number (L pat) σ = (10 * ((Q.next (L pat) σ).toNat - 48) + ((Q.next (L pat) (Q.fwd σ)).toNat - 48), Q.fwd (Q.fwd σ))) := by
        show _ = _; unfold Q.number; rw [if_neg (by rw [hd]; decide), if_pos hd2]
      rw [HE.out]
      go_enter Try.func119, Try.ntmps119
      go_wp2_with (first
        | (go_at_call 91; refine (next_any br pat σ v w HR.out hs ha).mono ?_; rintro e w1 ⟨rfl, q, rfl⟩)
        | (go_at_call 91; refine (next_any br pat (Q.fwd σ) v _ (HF _).out hs ha2).mono ?_; rintro e w1 ⟨rfl, q2, rfl⟩)
        | (go_at_call 120; refine (isDigit_any _ _).mono ?_; rintro e w2 ⟨rfl, rfl⟩; first | rw [hd] | rw [hd2]))
      go_ret
      refine ⟨ret_int (by omega), ?_, ?_⟩
      · exact RdT.fwd (σ := Q.fwd σ) ((HF q).out.drewN q2) (σ.at_ + 1 + 1) rfl
      · exact ((((Keep.refl [br] w).drewN q).setCell (by simp) _).drewN q2).setCell (by simp) _
    | false =>
      have HE : Hid (Q.number (L pat) σ = ((Q.next (L pat) σ).toNat - 48, Q.fwd σ)) := by
        show _ = _; unfold Q.number; rw [if_neg (by rw [hd]; decide), if_neg (by rw [hd2]; decide)]
      rw [HE.out]
      go_enter Try.func119, Try.ntmps119
      go_wp2_with (first
        | (go_at_call 91; refine (next_any br pat σ v w HR.out hs ha).mono ?_; rintro e w1 ⟨rfl, q, rfl⟩)
        | (go_at_call 91; refine (next_any br pat (Q.fwd σ) v _ (HF _).out hs ha2).mono ?_; rintro e w1 ⟨rfl, q2, rfl⟩)
        | (go_at_call 120; refine (isDigit_any _ _).mono ?_; rintro e w2 ⟨rfl, rfl⟩; first | rw [hd] | rw [hd2]))
      go_ret
      refine ⟨ret_int (by omega), ?_, ?_⟩
      · exact (HF q).out.drewN q2
      · exact (((Keep.refl [br] w).drewN q).setCell (by simp) _).drewN q2

set_option maxRecDepth 10000 in
set_option maxHeartbeats 800000 in
theorem memberByte_any (br : Nat) (pat : ByteArray) (σ : Q.Rd) (v : Value) (w : World) (hR : RdT w br pat σ v) (hs : pat.size ≤ 1000) (ha : σ.at_ ≤ pat.size) :
    Calls Try.prog 124 #[.pointer (some ⟨br, 0, none⟩)] w fun e w' => e = .returned (.int .i64 ((Q.memberByte (L pat) σ).1 : Nat)) ∧ RdT w' br pat (Q.memberByte (L pat) σ).2 v ∧ Keep [br] w w' := by
  have HL : Hid ((L pat).length = pat.size) := size_len pat
  have HR : Hid (RdT w br pat σ v) := hR
  clear hR
  by_cases h : Q.next (L pat) σ = 92
  · have hq : (Q.next (L pat) σ == 92) = true := by simp [h]
    have HE : Hid (Q.memberByte (L pat) σ = Q.anyByte (L pat) (Q.fwd σ)) := by show _ = _; unfold Q.memberByte; rw [if_pos h]
    have HT : Hid (Q.take (L pat) 92 σ = Q.fwd σ) := by show _ = _; unfold Q.take; rw [if_pos h]
    have ha2 : (Q.fwd σ).at_ ≤ pat.size := by have := (Q.next_lt (s := L pat) (σ := σ) (by rw [h]; decide)).2.1; rw [HL.out] at this; show σ.at_ + 1 ≤ _; omega
    rw [HE.out]
    clear h
    go_enter Try.func124, Try.ntmps124
    go_wp2_with (first
      | (go_at_call 78; refine (take_any br pat σ v 92 _ HR.out hs ha).mono ?_; rintro e w1 ⟨rfl, hR1, hK1⟩; rw [HT.out] at hR1; rw [hq])
      | (go_at_call 118; refine (anyByte_any br pat (Q.fwd σ) v _ hR1 hs ha2).mono ?_; rintro e w2 ⟨rfl, hR2, hK2⟩))
    go_ret
    exact ⟨rfl, hR2, hK1.trans hK2⟩
  · have hq : (Q.next (L pat) σ == 92) = false := by simp [h]
    have HT : Hid (Q.take (L pat) 92 σ = σ) := by show _ = _; unfold Q.take; rw [if_neg h]
    by_cases h2 : Q.next (L pat) σ = 93 ∨ Q.next (L pat) σ = 45
    · have HE : Hid (Q.memberByte (L pat) σ = Q.anyByte (L pat) { σ with wrong := true }) := by show _ = _; unfold Q.memberByte; rw [if_neg h, if_pos h2]
      rw [HE.out]
      clear h
      rcases h2 with h2 | h2
      · have hq2 : (Q.next (L pat) σ == 93) = true := by simp [h2]
        clear h2
        go_enter Try.func124, Try.ntmps124
        go_wp2_with (first
          | (go_at_call 78; refine (take_any br pat σ v 92 _ HR.out hs ha).mono ?_; rintro e w1 ⟨rfl, hR1, hK1⟩; rw [HT.out] at hR1; rw [hq]; have f2 := BlkT.frozen hR1 2; obtain ⟨_, _, c2, _⟩ := hR1.cells)
          | (go_at_call 91; refine (next_any br pat σ v _ hR1 hs ha).mono ?_; rintro e w2 ⟨rfl, q, rfl⟩)
          | (go_at_call 118; refine (anyByte_any br pat { σ with wrong := true } v _ (RdT.wrong (RdT.drewN hR1 q)) hs ha).mono ?_; rintro e w3 ⟨rfl, hR2, hK2⟩))
        go_ret
        exact ⟨rfl, hR2, ((hK1.drewN q).setCell (by simp) _).trans hK2⟩
      · have hq2 : (Q.next (L pat) σ == 93) = false := by simp [h2]
        have hq3 : (Q.next (L pat) σ == 45) = true := by simp [h2]
        clear h2
        go_enter Try.func124, Try.ntmps124
        go_wp2_with (first
          | (go_at_call 78; refine (take_any br pat σ v 92 _ HR.out hs ha).mono ?_; rintro e w1 ⟨rfl, hR1, hK1⟩; rw [HT.out] at hR1; rw [hq]; have f2 := BlkT.frozen hR1 2; obtain ⟨_, _, c2, _⟩ := hR1.cells)
          | (go_at_call 91; refine (next_any br pat σ v _ hR1 hs ha).mono ?_; rintro e w2 ⟨rfl, q, rfl⟩)
          | (go_at_call 118; refine (anyByte_any br pat { σ with wrong := true } v _ (RdT.wrong (RdT.drewN hR1 q)) hs ha).mono ?_; rintro e w3 ⟨rfl, hR2, hK2⟩))
        go_ret
        exact ⟨rfl, hR2, ((hK1.drewN q).setCell (by simp) _).trans hK2⟩
    · have HE : Hid (Q.memberByte (L pat) σ = Q.anyByte (L pat) σ) := by show _ = _; unfold Q.memberByte; rw [if_neg h, if_neg h2]
      have hq2 : (Q.next (L pat) σ == 93) = false := by simp; exact fun e => h2 (.inl e)
      have hq3 : (Q.next (L pat) σ == 45) = false := by simp; exact fun e => h2 (.inr e)
      rw [HE.out]
      clear h h2
      go_enter Try.func124, Try.ntmps124
      go_wp2_with (first
        | (go_at_call 78; refine (take_any br pat σ v 92 _ HR.out hs ha).mono ?_; rintro e w1 ⟨rfl, hR1, hK1⟩; rw [HT.out] at hR1; rw [hq])
        | (go_at_call 91; refine (next_any br pat σ v _ hR1 hs ha).mono ?_; rintro e w2 ⟨rfl, q, rfl⟩)
        | (go_at_call 118; refine (anyByte_any br pat σ v _ (RdT.drewN hR1 q) hs ha).mono ?_; rintro e w3 ⟨rfl, hR2, hK2⟩))
      go_ret
      exact ⟨rfl, hR2, (hK1.drewN q).trans hK2⟩
end Go.Proofs.Ytjmkkkfloalliab

namespace Go.Proofs.Ytjmkkkfloalliab
set_option linter.unusedVariables false
open Go.RowKit

theorem Keep.two {a b : Nat} {w w' : World} (h : Keep [a] w w') : Keep [a, b] w w' := h.mono (by simp)
theorem Keep.two' {a b : Nat} {w w' : World} (h : Keep [a] w w') : Keep [b, a] w w' := h.mono (by simp)

def turnTo (ins : List Bool) (k : Nat) : List Bool := (List.range 256).map fun i => if i < k then !ins.getD i false else ins.getD i false
theorem turnTo_len (ins : List Bool) (k : Nat) : (turnTo ins k).length = 256 := by simp [turnTo]
theorem turnTo_at (ins : List Bool) (k : Nat) (hk : k < 256) : (turnTo ins k).getD k false = ins.getD k false := by
  unfold turnTo
  rw [List.getD_eq_getElem?_getD]
  simp [hk]
theorem turnTo_zero (ins : List Bool) (h : ins.length = 256) : turnTo ins 0 = ins := by
  apply List.ext_getElem?
  intro j
  rcases Nat.lt_or_ge j 256 with hj | hj
  · simp [turnTo, hj, List.getElem?_eq_getElem (show j < ins.length by omega)]
  · rw [List.getElem?_eq_none (by rw [turnTo_len]; exact hj), List.getElem?_eq_none (by omega)]
theorem turnTo_all (ins : List Bool) (h : ins.length = 256) : turnTo ins 256 = Q.turn ins := by
  apply List.ext_getElem?
  intro j
  rcases Nat.lt_or_ge j 256 with hj | hj
  · simp [turnTo, Q.turn, hj, List.getElem?_eq_getElem (show j < ins.length by omega)]
  · rw [List.getElem?_eq_none (by rw [turnTo_len]; exact hj), List.getElem?_eq_none (by rw [Q.turn_len _ h]; exact hj)]
theorem turnTo_step (ins : List Bool) (k : Nat) (hk : k < 256) : (turnTo ins k).set k (!ins.getD k false) = turnTo ins (k + 1) := by
  unfold turnTo
  apply List.ext_getElem?
  intro j
  rw [List.getElem?_set]
  rcases Nat.lt_or_ge j 256 with hj | hj
  · by_cases e : k = j
    · subst e
      simp [hk]
    · rw [if_neg e]
      simp only [List.getElem?_map, List.getElem?_range hj, Option.map_some]
      by_cases h : j < k
      · simp [h, show j < k + 1 by omega]
      · simp [h, show ¬ j < k + 1 by omega]
  · rw [List.getElem?_eq_none (show ((List.range 256).map fun i => if i < k + 1 then !ins.getD i false else ins.getD i false).length ≤ j by simpa using hj)]
    rw [if_neg (by omega), List.getElem?_eq_none (by simpa using hj)]

set_option maxRecDepth 10000 in
set_option maxHeartbeats 1600000 in
theorem turn_any (bp : Nat) (p : Q.Part) (w : World) (hP : PtT w bp p) :
    Calls Try.prog 117 #[.pointer (some ⟨bp, 0, none⟩)] w fun e w' => e = .returned (.tuple #[]) ∧ PtT w' bp { p with ins := Q.turn p.ins } ∧ Keep [bp] w w' := by
  have HP : Hid (PtT w bp { p with ins := turnTo p.ins 0 }) := by
    show PtT _ _ _
    rw [turnTo_zero p.ins hP.1]
    exact hP
  have HZ : Hid (turnTo p.ins 256 = Q.turn p.ins) := turnTo_all p.ins hP.1
  clear hP
  go_enter Try.func117, Try.ntmps117
  go_wp2
  go_loopw [3] (fun i wr => ∃ k : Nat, k ≤ 256 ∧ i = .int .i64 k ∧ PtT wr bp { p with ins := turnTo p.ins k } ∧ Keep [bp] w wr) (fun i _ => 256 - (intOf i).toNat)
  case atStart => exact ⟨0, by omega, rfl, HP.out, Keep.refl _ _⟩
  case round =>
    obtain ⟨k, hk, rfl, hP, hK⟩ := hrel
    by_cases hlt : k < 256
    · have hc := hP.cellI k hlt
      have hf := hP.frozen (1 + k)
      have HI : Hid (PtT (wr.setCell ⟨bp, 1 + k, none⟩ (.bool (!p.ins.getD k false))) bp { p with ins := turnTo p.ins (k + 1) }) := by
        have := hP.ins k hlt (!p.ins.getD k false)
        rw [turnTo_step p.ins k hlt] at this
        exact this
      rw [turnTo_at p.ins k hlt] at hc
      generalize p.ins.getD k false = b at hc HI
      have HK : Hid (Keep [bp] w wr) := hK
      clear hK hP
      have h0 : (0 : Int) ≤ (k : Int) := by omega
      have h1 : (k : Int) < 256 := by omega
      go_wp2_with fail
      go_region
      all_goals go_wp2
      all_goals go_roundw
      all_goals first
        | (case rel => exact ⟨k + 1, by omega, by go_num, HI.out, (HK.out.setCell (by simp) _).drew⟩)
        | (case measure => simp [intOf]; omega)
        | skip
    · obtain rfl : k = 256 := by omega
      rw [HZ.out] at hP
      go_wp2
      go_end0
      exact ⟨rfl, hP, hK⟩

/-- the bytes from a to before c are set -/
theorem setRange_step (ins : List Bool) (a c : Nat) (hac : a ≤ c) (hc : c < 256) : ((List.range 256).map fun i => ins.getD i false || (decide (a ≤ i) && decide (i < c))).set c true = ((List.range 256).map fun i => ins.getD i false || (decide (a ≤ i) && decide (i < c + 1))) := by
  apply List.ext_getElem?
  intro j
  rw [List.getElem?_set]
  rcases Nat.lt_or_ge j 256 with hj | hj
  · by_cases e : c = j
    · subst e
      simp [hc, hac]
    · rw [if_neg e]
      simp only [List.getElem?_map, List.getElem?_range hj, Option.map_some]
      by_cases h : j < c
      · simp [h, show j < c + 1 by omega]
      · simp [h, show ¬ j < c + 1 by omega]
  · rw [List.getElem?_eq_none (show ((List.range 256).map fun i => ins.getD i false || (decide (a ≤ i) && decide (i < c + 1))).length ≤ j by simpa using hj)]
    rw [if_neg (by omega), List.getElem?_eq_none (by simpa using hj)]
def rangeTo (ins : List Bool) (a c : Nat) : List Bool := (List.range 256).map fun i => ins.getD i false || (decide (a ≤ i) && decide (i < c))
theorem rangeTo_len (ins : List Bool) (a c : Nat) : (rangeTo ins a c).length = 256 := by simp [rangeTo]
theorem rangeTo_self (ins : List Bool) (a : Nat) (h : ins.length = 256) : rangeTo ins a a = ins := by
  apply List.ext_getElem?
  intro j
  rcases Nat.lt_or_ge j 256 with hj | hj
  · have : (decide (a ≤ j) && decide (j < a)) = false := by simp
    simp [rangeTo, hj, List.getElem?_eq_getElem (show j < ins.length by omega), this]
  · rw [List.getElem?_eq_none (by rw [rangeTo_len]; exact hj), List.getElem?_eq_none (by omega)]
theorem rangeTo_end (ins : List Bool) (a b c : Nat) (h : ins.length = 256) (hac : a ≤ c) (hc : ¬ c ≤ b) (hcb : c ≤ b + 1 ∨ c = a) : rangeTo ins a c = Q.setRange ins a b := by
  unfold rangeTo Q.setRange
  apply List.map_congr_left
  intro i hi
  congr 1
  rcases hcb with e | e
  · have : c = b + 1 := by omega
    subst this
    congr 1
    simp; omega
  · subst e
    rw [Bool.eq_iff_iff]
    simp
    omega

set_option maxRecDepth 10000 in
set_option maxHeartbeats 1600000 in
theorem member_any (br bp : Nat) (pat : ByteArray) (σ : Q.Rd) (v : Value) (p : Q.Part) (w : World) (hR : RdT w br pat σ v) (hP : PtT w bp p) (hs : pat.size ≤ 1000) (ha : σ.at_ ≤ pat.size) :
    Calls Try.prog 123 #[.pointer (some ⟨br, 0, none⟩), .pointer (some ⟨bp, 0, none⟩)] w fun e w' => e = .returned (.tuple #[]) ∧ RdT w' br pat (Q.member (L pat) p.ins σ).2 v ∧ PtT w' bp { p with ins := (Q.member (L pat) p.ins σ).1 } ∧ Keep [br, bp] w w' := by
  have HL : Hid ((L pat).length = pat.size) := size_len pat
  have hne := hP.ne hR
  have HR : Hid (RdT w br pat σ v) := hR
  have HP : Hid (PtT w bp p) := hP
  have hl := hP.1
  have HLEN : Hid (p.ins.length = 256) := hl
  clear hR hP hl
  have o1 := (Q.memberByte_on (s := L pat) σ).len (by rw [HL.out]; exact ha)
  rw [HL.out] at o1
  have hm := Q.member1_lt (s := L pat) σ
  have HM : Hid ((Q.member1 (L pat) σ).1 = (Q.memberByte (L pat) σ).1) := by show _ = _; unfold Q.member1; split <;> rfl
  have hm1 : (Q.memberByte (L pat) σ).1 < 256 := by rw [← HM.out]; exact hm.1
  have hm2 := hm.2
  have HME : Hid ((Q.member (L pat) p.ins σ) = (Q.setRange p.ins (Q.memberByte (L pat) σ).1 (Q.member1 (L pat) σ).2.1, { (Q.member1 (L pat) σ).2.2 with back := (Q.member1 (L pat) σ).2.2.back || decide ((Q.member1 (L pat) σ).2.1 < (Q.memberByte (L pat) σ).1) })) := by
    show _ = _; unfold Q.member; rw [HM.out]
  rw [HME.out]
  clear hm HM HME
  go_enter Try.func123, Try.ntmps123
  go_upto_if 11 with (first
    | (go_at_call 124; refine (memberByte_any br pat σ v w HR.out hs ha).mono ?_; rintro e w1 ⟨rfl, hR1, hK1⟩)
    | (go_at_call 78; refine (take_any br pat _ v 45 _ hR1 hs o1).mono ?_; rintro e w2 ⟨rfl, hR2, hK2⟩))
  go_cut [5] from 10 (fun s5 wc => s5 = .int .i64 ((Q.member1 (L pat) σ).2.1 : Int) ∧ RdT wc br pat (Q.member1 (L pat) σ).2.2 v ∧ Keep [br] w wc)
  case first =>
    by_cases h : Q.next (L pat) (Q.memberByte (L pat) σ).2 = 45
    · have hq : (Q.next (L pat) (Q.memberByte (L pat) σ).2 == 45) = true := by simp [h]
      have HT : Hid (Q.take (L pat) 45 (Q.memberByte (L pat) σ).2 = Q.fwd (Q.memberByte (L pat) σ).2) := by show _ = _; unfold Q.take; rw [if_pos h]
      have HE : Hid (Q.member1 (L pat) σ = ((Q.memberByte (L pat) σ).1, (Q.memberByte (L pat) (Q.fwd (Q.memberByte (L pat) σ).2)).1, (Q.memberByte (L pat) (Q.fwd (Q.memberByte (L pat) σ).2)).2)) := by show _ = _; unfold Q.member1; rw [if_pos h]
      have o2 := (Q.fwd_on (s := L pat) (σ := (Q.memberByte (L pat) σ).2) (by rw [h]; decide)).len (by rw [HL.out]; exact o1)
      rw [HL.out] at o2
      rw [HT.out] at hR2
      clear h
      rw [hq]
      go_wp2_with (go_at_call 124; refine (memberByte_any br pat _ v _ hR2 hs o2).mono ?_; rintro e w3 ⟨rfl, hR3, hK3⟩)
      go_meet
      case rel =>
        rw [HE.out]
        exact ⟨rfl, hR3, (hK1.trans hK2).trans hK3⟩
    · have hq : (Q.next (L pat) (Q.memberByte (L pat) σ).2 == 45) = false := by simp [h]
      have HT : Hid (Q.take (L pat) 45 (Q.memberByte (L pat) σ).2 = (Q.memberByte (L pat) σ).2) := by show _ = _; unfold Q.take; rw [if_neg h]
      have HE : Hid (Q.member1 (L pat) σ = ((Q.memberByte (L pat) σ).1, (Q.memberByte (L pat) σ).1, (Q.memberByte (L pat) σ).2)) := by show _ = _; unfold Q.member1; rw [if_neg h]
      rw [HT.out] at hR2
      clear h
      rw [hq]
      go_wp2
      go_meet
      case rel =>
        rw [HE.out]
        exact ⟨rfl, hR2, hK1.trans hK2⟩
  case rest =>
    clear hR1 hR2 hK1 hK2 w1 w2
    obtain ⟨rfl, hRc, hKc⟩ := hcut
    go_upto_if 16 with fail
    go_cut [] from 14 (fun wd => RdT wd br pat { (Q.member1 (L pat) σ).2.2 with back := (Q.member1 (L pat) σ).2.2.back || decide ((Q.member1 (L pat) σ).2.1 < (Q.memberByte (L pat) σ).1) } v ∧ Keep [br] w wd)
    case first =>
      have f3 := BlkT.frozen hRc 3
      obtain ⟨_, _, _, c3, _⟩ := hRc.cells
      by_cases h : (Q.member1 (L pat) σ).2.1 < (Q.memberByte (L pat) σ).1
      · have hd : decide ((Q.member1 (L pat) σ).2.1 < (Q.memberByte (L pat) σ).1) = true := by simp [h]
        go_wp2
        go_meet
        case rel =>
          rw [hd, Bool.or_true]
          exact ⟨hRc.back, hKc.setCell (by simp) _⟩
      · have hd : decide ((Q.member1 (L pat) σ).2.1 < (Q.memberByte (L pat) σ).1) = false := by simp; omega
        go_wp2
        go_meet
        case rel =>
          rw [hd, Bool.or_false]
          exact ⟨hRc, hKc⟩
    case rest =>
      clear hRc hKc
      obtain ⟨hRd, hKd⟩ := hcut
      have hPd := HP.out.keep hKd (by simpa using hne)
      go_wp2
      go_loopw [6] (fun i wr => ∃ k : Nat, (Q.memberByte (L pat) σ).1 ≤ k ∧ (k ≤ (Q.member1 (L pat) σ).2.1 + 1 ∨ k = (Q.memberByte (L pat) σ).1) ∧ i = .int .i64 k ∧ PtT wr bp { p with ins := rangeTo p.ins (Q.memberByte (L pat) σ).1 k } ∧ Keep [bp] wc wr) (fun i _ => 257 - (intOf i).toNat)
      case atStart => exact ⟨_, Nat.le_refl _, .inr rfl, rfl, by rw [rangeTo_self _ _ HLEN.out]; exact hPd, Keep.refl _ _⟩
      case round =>
        obtain ⟨k, hk1, hk2, rfl, hPk, hKk⟩ := hrel
        by_cases hlt : k ≤ (Q.member1 (L pat) σ).2.1
        · have hc := hPk.cellI k (by omega)
          have hf := hPk.frozen (1 + k)
          have HI : Hid (PtT (wr.setCell ⟨bp, 1 + k, none⟩ (.bool true)) bp { p with ins := rangeTo p.ins (Q.memberByte (L pat) σ).1 (k + 1) }) := by
            have := hPk.ins k (by omega) true
            unfold rangeTo at this
            rw [setRange_step p.ins _ k hk1 (by omega)] at this
            exact this
          have h1 : (k : Int) < 256 := by omega
          go_wp2
          go_roundw
          case rel => exact ⟨k + 1, by omega, .inl (by omega), by go_num, HI.out, hKk.setCell (by simp) _⟩
          case measure => simp [intOf]; omega
        · rw [rangeTo_end p.ins _ _ k HLEN.out hk1 hlt hk2] at hPk
          go_wp2
          go_end0
          exact ⟨rfl, hRd.keep hKk (by simpa using Ne.symm hne), hPk, hKd.two.trans hKk.two'⟩
end Go.Proofs.Ytjmkkkfloalliab

namespace Go.Proofs.Ytjmkkkfloalliab
set_option linter.unusedVariables false
open Go.RowKit

theorem Q.members_wrong (s : List UInt8) : ∀ (f : Nat) (ins : List Bool) (σ : Q.Rd), σ.wrong = true → Q.members s f ins σ = (ins, σ)
  | 0, _, _, _ => rfl
  | f + 1, ins, σ, h => by unfold Q.members; rw [if_pos h]
def Q.turnIf (b : Bool) (l : List Bool) : List Bool := if b = true then Q.turn l else l
theorem Q.cls_eq (s : List UInt8) (ins : List Bool) (σ : Q.Rd) (X : List Bool × Q.Rd) (hX : Q.members s (s.length + 1) (Q.member s ins (Q.take s 94 (Q.fwd σ))).1 (Q.member s ins (Q.take s 94 (Q.fwd σ))).2 = X) :
    Q.cls s ins σ = (Q.turnIf (Q.next s (Q.fwd σ) == 94) X.1, X.2) := by
  subst hX
  unfold Q.cls Q.take Q.turnIf
  by_cases h : Q.next s (Q.fwd σ) = 94
  · simp [h]
  · simp [h]
theorem Q.left_le (s : List UInt8) (σ : Q.Rd) : Q.left s σ ≤ s.length := by
  unfold Q.left
  split <;> omega

set_option maxRecDepth 10000 in
set_option maxHeartbeats 1600000 in
theorem class_any' (br bp : Nat) (pat : ByteArray) (σ : Q.Rd) (v : Value) (p : Q.Part) (w : World) (hR : RdT w br pat σ v) (hP : PtT w bp p) (hs : pat.size ≤ 1000) (ha : σ.at_ < pat.size) :
    Calls Try.prog 116 #[.pointer (some ⟨br, 0, none⟩), .pointer (some ⟨bp, 0, none⟩)] w fun e w' => e = .returned (.tuple #[]) ∧ RdT w' br pat (Q.cls (L pat) p.ins σ).2 v ∧ PtT w' bp { p with ins := (Q.cls (L pat) p.ins σ).1 } ∧ Keep [br, bp] w w' := by
  have HL : Hid ((L pat).length = pat.size) := size_len pat
  have hne := hP.ne hR
  obtain ⟨_, c1, _⟩ := hR.cells
  have f1 := BlkT.frozen hR 1
  have HF : Hid (RdT (w.setCell ⟨br, 1, none⟩ (.int .i64 ((σ.at_ : Int) + 1))) br pat (Q.fwd σ) v) := RdT.fwd hR (σ.at_ + 1) rfl
  have HP : Hid (PtT (w.setCell ⟨br, 1, none⟩ (.int .i64 ((σ.at_ : Int) + 1))) bp p) := hP.other (by simpa using Ne.symm hne) _
  have ha1 : (Q.fwd σ).at_ ≤ pat.size := ha
  have ha2 : (Q.take (L pat) 94 (Q.fwd σ)).at_ ≤ pat.size := by
    have := (Q.take_on (s := L pat) 94 (by decide) (Q.fwd σ)).len (by rw [HL.out]; exact ha1)
    rw [HL.out] at this
    exact this
  have HLEN : Hid (p.ins.length = 256) := hP.1
  obtain ⟨X, hX⟩ : ∃ X, Q.members (L pat) ((L pat).length + 1) (Q.member (L pat) p.ins (Q.take (L pat) 94 (Q.fwd σ))).1 (Q.member (L pat) p.ins (Q.take (L pat) 94 (Q.fwd σ))).2 = X := ⟨_, rfl⟩
  obtain ⟨b, hb⟩ : ∃ b, (Q.next (L pat) (Q.fwd σ) == 94) = b := ⟨_, rfl⟩
  rw [Q.cls_eq (L pat) p.ins σ X hX, hb]
  have HB : Hid ((Q.next (L pat) (Q.fwd σ) == 94) = b) := hb
  have HX0 : Hid (Q.members (L pat) ((L pat).length + 1) (Q.member (L pat) p.ins (Q.take (L pat) 94 (Q.fwd σ))).1 (Q.member (L pat) p.ins (Q.take (L pat) 94 (Q.fwd σ))).2 = X) := hX
  clear hR hP hb hX
  go_enter Try.func116, Try.ntmps116
  go_wp2_with (first
    | (go_at_call 78; refine (take_any br pat _ v 94 _ HF.out hs ha1).mono ?_; rintro e w1 ⟨rfl, hR1, hK1⟩; rw [HB.out]; have hP1 := HP.out.keep hK1 (by simpa using hne))
    | (go_at_call 123; refine (member_any br bp pat _ v p _ hR1 hP1 hs ha2).mono ?_; rintro e w2 ⟨rfl, hR2, hP2, hK2⟩))
  have hK : Keep [br, bp] w w2 := (((Keep.refl [br] w).setCell (by simp) _).trans hK1).two.trans hK2
  have ha3 := (Q.member_on (s := L pat) p.ins (Q.take (L pat) 94 (Q.fwd σ))).len (by rw [HL.out]; exact ha2)
  rw [HL.out] at ha3
  clear hK1 hK2 hR1 hP1 HF HP c1 f1
  go_loopg [] (pat.size + 1) (fun k wr => ∃ (τ : Q.Rd) (ins : List Bool), τ.at_ ≤ pat.size ∧ (τ.wrong = true ∨ Q.left (L pat) τ < k) ∧ RdT wr br pat τ v ∧ PtT wr bp { p with ins := ins } ∧ Keep [br, bp] w wr ∧
    Hid (Q.members (L pat) k ins τ = X))
  case atStart => exact ⟨_, _, ha3, .inr (by have := Q.left_le (L pat) (Q.member (L pat) p.ins (Q.take (L pat) 94 (Q.fwd σ))).2; rw [HL.out] at this; omega), hR2, hP2, hK, by show _ = _; rw [← HL.out]; exact HX0.out⟩
  case round =>
    clear hR2 hP2 hK ha3
    obtain ⟨τ, ins, hat, hmu, hRt, hPt, hKt, HM⟩ := hrel
    cases hw : τ.wrong with
    | true =>
      have HX : Hid (Q.members (L pat) gk ins τ = (ins, τ)) := Q.members_wrong _ _ _ _ hw
      obtain ⟨_, _, c2, _⟩ := hRt.cells
      rw [hw] at c2
      have hPx := hPt
      cases b with
      | true =>
        go_wp2_with (first
          | fail
          | (go_at_call 117; refine (turn_any bp _ _ hPx).mono ?_; rintro e w4 ⟨rfl, hP4, hK4⟩))
        go_end0
        refine ⟨rfl, ?_, ?_, (hKt).trans hK4.two'⟩
        · rw [← HM.out, HX.out]; exact (hRt).keep hK4 (by simpa using Ne.symm hne)
        · show PtT _ _ { p with ins := Q.turn X.1 }; rw [← HM.out, HX.out]; exact hP4
      | false =>
        go_wp2_with (first
          | fail
          | fail)
        go_end0
        refine ⟨rfl, ?_, ?_, hKt⟩
        · rw [← HM.out, HX.out]; exact hRt
        · show PtT _ _ { p with ins := X.1 }; rw [← HM.out, HX.out]; exact hPx
    | false =>
      obtain ⟨_, _, c2, _⟩ := hRt.cells
      rw [hw] at c2
      rw [hw] at hmu
      simp only [Bool.false_eq_true, false_or] at hmu
      obtain ⟨k, rfl⟩ : ∃ k, gk = k + 1 := ⟨gk - 1, by omega⟩
      by_cases h9 : Q.next (L pat) τ = 93
      · have hq : (Q.next (L pat) τ == 93) = true := by simp [h9]
        have HX : Hid (Q.members (L pat) (k + 1) ins τ = (ins, Q.fwd τ)) := by show _ = _; unfold Q.members; rw [if_neg (by rw [hw]; decide), if_pos h9]
        have HT : Hid (Q.take (L pat) 93 τ = Q.fwd τ) := by show _ = _; unfold Q.take; rw [if_pos h9]
        clear h9
        cases b with
        | true =>
          go_wp2_with (first
            | (go_at_call 78; refine (take_any br pat _ v 93 _ hRt hs hat).mono ?_; rintro e w3 ⟨rfl, hR3, hK3⟩; rw [HT.out] at hR3; rw [hq]; have hPx := hPt.keep hK3 (by simpa using hne))
            | (go_at_call 117; refine (turn_any bp _ _ hPx).mono ?_; rintro e w4 ⟨rfl, hP4, hK4⟩))
          go_end0
          refine ⟨rfl, ?_, ?_, ((hKt.trans hK3.two)).trans hK4.two'⟩
          · rw [← HM.out, HX.out]; exact (hR3).keep hK4 (by simpa using Ne.symm hne)
          · show PtT _ _ { p with ins := Q.turn X.1 }; rw [← HM.out, HX.out]; exact hP4
        | false =>
          go_wp2_with (first
            | (go_at_call 78; refine (take_any br pat _ v 93 _ hRt hs hat).mono ?_; rintro e w3 ⟨rfl, hR3, hK3⟩; rw [HT.out] at hR3; rw [hq]; have hPx := hPt.keep hK3 (by simpa using hne))
            | fail)
          go_end0
          refine ⟨rfl, ?_, ?_, (hKt.trans hK3.two)⟩
          · rw [← HM.out, HX.out]; exact hR3
          · show PtT _ _ { p with ins := X.1 }; rw [← HM.out, HX.out]; exact hPx
      · have hq : (Q.next (L pat) τ == 93) = false := by simp [h9]
        have HX : Hid (Q.members (L pat) (k + 1) ins τ = Q.members (L pat) k (Q.member (L pat) ins τ).1 (Q.member (L pat) ins τ).2) := by
          show _ = _
          conv => lhs; unfold Q.members
          rw [if_neg (by rw [hw]; decide), if_neg h9]
        have HT : Hid (Q.take (L pat) 93 τ = τ) := by show _ = _; unfold Q.take; rw [if_neg h9]
        have HA : Hid _ := Q.member_adv (s := L pat) ins τ
        have ho := (Q.member_on (s := L pat) ins τ).len (by rw [HL.out]; exact hat)
        rw [HL.out] at ho
        clear h9
        go_wp2_with (first
          | (go_at_call 78; refine (take_any br pat _ v 93 _ hRt hs hat).mono ?_; rintro e w3 ⟨rfl, hR3, hK3⟩; rw [HT.out] at hR3; rw [hq]; have hP3 := hPt.keep hK3 (by simpa using hne))
          | (go_at_call 123; refine (member_any br bp pat _ v _ _ hR3 hP3 hs hat).mono ?_; rintro e w4 ⟨rfl, hR4, hP4, hK4⟩))
        go_roundg k
        case measure => omega
        case rel =>
          refine ⟨_, _, ho, ?_, hR4, hP4, (hKt.trans hK3.two).trans hK4, ?_⟩
          · rcases HA.out with h | h
            · exact .inl h
            · exact .inr (by omega)
          · show _ = _
            rw [← HM.out, HX.out]
end Go.Proofs.Ytjmkkkfloalliab

namespace Go.Proofs.Ytjmkkkfloalliab
set_option linter.unusedVariables false
open Go.RowKit

theorem Keep.of_l {a b : Nat} {w w' : World} (h : Keep [a] w w') : Keep [a, b] w w' := h.two
set_option maxRecDepth 10000 in
set_option maxHeartbeats 1600000 in
theorem bounds_any (br bp : Nat) (pat : ByteArray) (σ : Q.Rd) (v : Value) (p : Q.Part) (w : World) (hR : RdT w br pat σ v) (hP : PtT w bp p) (hs : pat.size ≤ 1000) (ha : σ.at_ ≤ pat.size) (he : p.endless = false) :
    Calls Try.prog 107 #[.pointer (some ⟨br, 0, none⟩), .pointer (some ⟨bp, 0, none⟩)] w fun e w' => e = .returned (.tuple #[]) ∧ RdT w' br pat (Q.bounds (L pat) p σ).2 v ∧ PtT w' bp (Q.bounds (L pat) p σ).1 ∧ Keep [br, bp] w w' := by
  have HL : Hid ((L pat).length = pat.size) := size_len pat
  have hne := hP.ne hR
  have HR : Hid (RdT w br pat σ v) := hR
  have HP : Hid (PtT w bp p) := hP
  clear hR hP
  have o1 := (Q.number_on (s := L pat) σ).len (by rw [HL.out]; exact ha)
  rw [HL.out] at o1
  have o2 := (Q.bounds1_on (s := L pat) σ).len (by rw [HL.out]; exact ha)
  rw [HL.out] at o2
  have HN : Hid ((Q.number (L pat) σ).1 ≤ 99) := Q.number_le σ
  have hn1 := HN.out
  have hn2 := Q.bounds1_le (s := L pat) σ
  have HBE : Hid (Q.bounds (L pat) p σ = ({ p with low := (Q.number (L pat) σ).1, high := (Q.bounds1 (L pat) σ).1, endless := (Q.bounds1 (L pat) σ).2.1 }, Q.need (L pat) 125 { (Q.bounds1 (L pat) σ).2.2 with back := (Q.bounds1 (L pat) σ).2.2.back || decide ((Q.bounds1 (L pat) σ).1 < (Q.number (L pat) σ).1) })) := by
    show _ = _; unfold Q.bounds; rw [he, Bool.false_or]
  rw [HBE.out]
  clear HBE
  go_enter Try.func107, Try.ntmps107
  go_upto_if 18 with (first
    | (go_at_call 119; refine (number_any br pat σ v w HR.out hs ha).mono ?_; rintro e w1 ⟨rfl, hR1, hK1⟩; have hP1 := HP.out.keep hK1 (by simpa using hne); have hf1 := hP1.frozen; obtain ⟨_, _, d2, d3, _⟩ := hP1.cells)
    | (go_at_call 78; refine (take_any br pat _ v 44 _ ((hR1.other (a := ⟨bp, 259, none⟩) (by simpa using hne) _).other (a := ⟨bp, 260, none⟩) (by simpa using hne) _) hs o1).mono ?_; rintro e w2 ⟨rfl, hR2, hK2⟩))
  have hP2 : PtT w2 bp { p with low := (Q.number (L pat) σ).1, high := (Q.number (L pat) σ).1 } := PtT.keep ((hP1.low _).high _) hK2 (by simpa using hne)
  have hKK : Keep [br, bp] w w2 := ((hK1.two.setCell (by simp) _).setCell (by simp) _).trans hK2.two
  clear d2 d3 hf1 hP1 hR1 hK1 hK2
  go_cut [] from 17 (fun wc => RdT wc br pat (Q.bounds1 (L pat) σ).2.2 v ∧ PtT wc bp { p with low := (Q.number (L pat) σ).1, high := (Q.bounds1 (L pat) σ).1, endless := (Q.bounds1 (L pat) σ).2.1 } ∧ Keep [br, bp] w wc)
  case first =>
    by_cases h : Q.next (L pat) (Q.number (L pat) σ).2 = 44
    · have hq : (Q.next (L pat) (Q.number (L pat) σ).2 == 44) = true := by simp [h]
      have HT : Hid (Q.take (L pat) 44 (Q.number (L pat) σ).2 = Q.fwd (Q.number (L pat) σ).2) := by show _ = _; unfold Q.take; rw [if_pos h]
      have o3 := (Q.fwd_on (s := L pat) (σ := (Q.number (L pat) σ).2) (by rw [h]; decide)).len (by rw [HL.out]; exact o1)
      rw [HL.out] at o3
      rw [HT.out] at hR2
      rw [hq]
      cases hd : Q.isDigit (Q.next (L pat) (Q.fwd (Q.number (L pat) σ).2)) with
      | true =>
        have HE : Hid (Q.bounds1 (L pat) σ = ((Q.number (L pat) (Q.fwd (Q.number (L pat) σ).2)).1, false, (Q.number (L pat) (Q.fwd (Q.number (L pat) σ).2)).2)) := by show _ = _; unfold Q.bounds1; rw [if_pos h, if_pos hd]
        clear h
        go_wp2_with (first
          | (go_at_call 91; refine (next_any br pat _ v _ hR2 hs o3).mono ?_; rintro e w3 ⟨rfl, q, rfl⟩)
          | (go_at_call 120; refine (isDigit_any _ _).mono ?_; rintro e w4 ⟨rfl, rfl⟩; rw [hd])
          | (go_at_call 119; refine (number_any br pat _ v _ (RdT.drewN hR2 q) hs o3).mono ?_; rintro e w5 ⟨rfl, hR5, hK5⟩; have hP5 := (hP2.drewN q).keep hK5 (by simpa using hne); have hf5 := hP5.frozen; obtain ⟨_, _, d2, d3, _⟩ := hP5.cells))
        go_meet
        case rel =>
          rw [HE.out]
          refine ⟨hR5.other (by simpa using hne) _, ?_, ((hKK.drewN q).trans hK5.two).setCell (by simp) _⟩
          have := hP5.high (Q.number (L pat) (Q.fwd (Q.number (L pat) σ).2)).1
          simp only [he] at this ⊢
          exact this
      | false =>
        have HE : Hid (Q.bounds1 (L pat) σ = ((Q.number (L pat) σ).1, true, Q.fwd (Q.number (L pat) σ).2)) := by show _ = _; unfold Q.bounds1; rw [if_pos h, if_neg (by rw [hd]; decide)]
        have hf5 := hP2.frozen
        obtain ⟨_, _, _, _, d4, _⟩ := hP2.cells
        clear h
        go_wp2_with (first
          | (go_at_call 91; refine (next_any br pat _ v _ hR2 hs o3).mono ?_; rintro e w3 ⟨rfl, q, rfl⟩)
          | (go_at_call 120; refine (isDigit_any _ _).mono ?_; rintro e w4 ⟨rfl, rfl⟩; rw [hd]))
        go_meet
        case rel =>
          rw [HE.out]
          refine ⟨(hR2.drewN q).other (by simpa using hne) _, ?_, (hKK.drewN q).setCell (by simp) _⟩
          exact (hP2.drewN q).endless true
    · have hq : (Q.next (L pat) (Q.number (L pat) σ).2 == 44) = false := by simp [h]
      have HT : Hid (Q.take (L pat) 44 (Q.number (L pat) σ).2 = (Q.number (L pat) σ).2) := by show _ = _; unfold Q.take; rw [if_neg h]
      have HE : Hid (Q.bounds1 (L pat) σ = ((Q.number (L pat) σ).1, false, (Q.number (L pat) σ).2)) := by show _ = _; unfold Q.bounds1; rw [if_neg h]
      rw [HT.out] at hR2
      rw [hq]
      clear h
      go_wp2
      go_meet
      case rel =>
        rw [HE.out]
        refine ⟨hR2, ?_, hKK⟩
        rw [← he]
        exact hP2
  case rest =>
    clear hR2 hP2 hKK
    obtain ⟨hRc, hPc, hKc⟩ := hcut
    obtain ⟨_, _, d2, d3, _⟩ := hPc.cells
    have f3 := BlkT.frozen hRc 3
    obtain ⟨_, _, _, c3, _⟩ := hRc.cells
    by_cases h : (Q.bounds1 (L pat) σ).1 < (Q.number (L pat) σ).1
    · have hd : decide ((Q.bounds1 (L pat) σ).1 < (Q.number (L pat) σ).1) = true := by simp [h]
      have HB : Hid (((Q.bounds1 (L pat) σ).2.2.back || decide ((Q.bounds1 (L pat) σ).1 < (Q.number (L pat) σ).1)) = true) := by show _ = _; rw [hd, Bool.or_true]
      have HRb : ∀ q, Hid (RdT ((wc.drewN q).setCell ⟨br, 3, none⟩ (.bool true)) br pat { (Q.bounds1 (L pat) σ).2.2 with back := (Q.bounds1 (L pat) σ).2.2.back || decide ((Q.bounds1 (L pat) σ).1 < (Q.number (L pat) σ).1) } v) := fun q => by
        show RdT _ _ _ _ _
        rw [HB.out]
        exact (hRc.drewN q).back
      clear hd HB
      go_wp2_with fail
      go_quiet (fail)
      go_wp2_with (go_at_call 121; refine (need_any br pat _ v 125 _ (HRb _).out hs o2).mono ?_; rintro e w6 ⟨rfl, hR6, hK6⟩)
      go_end0
      exact ⟨rfl, hR6, PtT.keep ((hPc.drewN _).other (by simpa using Ne.symm hne) _) hK6 (by simpa using hne), ((hKc.drewN _).setCell (by simp) _).trans hK6.two⟩
    · have hd : decide ((Q.bounds1 (L pat) σ).1 < (Q.number (L pat) σ).1) = false := by simp; omega
      have HB : Hid (((Q.bounds1 (L pat) σ).2.2.back || decide ((Q.bounds1 (L pat) σ).1 < (Q.number (L pat) σ).1)) = (Q.bounds1 (L pat) σ).2.2.back) := by show _ = _; rw [hd, Bool.or_false]
      have HRb : ∀ q, Hid (RdT (wc.drewN q) br pat { (Q.bounds1 (L pat) σ).2.2 with back := (Q.bounds1 (L pat) σ).2.2.back || decide ((Q.bounds1 (L pat) σ).1 < (Q.number (L pat) σ).1) } v) := fun q => by
        show RdT _ _ _ _ _
        rw [HB.out]
        exact hRc.drewN q
      clear hd HB
      go_wp2_with fail
      go_quiet (fail)
      go_wp2_with (go_at_call 121; refine (need_any br pat _ v 125 _ (HRb _).out hs o2).mono ?_; rintro e w6 ⟨rfl, hR6, hK6⟩)
      go_end0
      exact ⟨rfl, hR6, PtT.keep (hPc.drewN _) hK6 (by simpa using hne), (hKc.drewN _).trans hK6.two⟩

set_option maxRecDepth 10000 in
set_option maxHeartbeats 1600000 in
theorem copies_any (bp : Nat) (p : Q.Part) (w : World) (hP : PtT w bp p) (hl : p.low ≤ 99) :
    Calls Try.prog 93 #[.pointer (some ⟨bp, 0, none⟩)] w fun e w' => e = .returned (.int .i64 (p.copies : Nat)) ∧ w' = w := by
  obtain ⟨_, _, d2, d3, d4, _⟩ := hP.cells
  clear hP
  cases he : p.endless with
  | true =>
    have HE : Hid (p.copies = p.low + 1) := by show _ = _; unfold Q.Part.copies; rw [he]; rfl
    rw [he] at d4
    rw [HE.out]
    go_enter Try.func93, Try.ntmps93
    go_wp2
    go_ret
    exact ⟨rfl, rfl⟩
  | false =>
    have HE : Hid (p.copies = p.high) := by show _ = _; unfold Q.Part.copies; rw [he]; rfl
    rw [he] at d4
    rw [HE.out]
    go_enter Try.func93, Try.ntmps93
    go_wp2
    go_ret
    exact ⟨rfl, rfl⟩
end Go.Proofs.Ytjmkkkfloalliab

