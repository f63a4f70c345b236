import Derived.Test.YtjmkkkfloalliaaS4
import Derived.Lib.ConvBytes
namespace Go.Proofs.Ytjmkkkfloalliaa
set_option linter.unusedVariables false
open Go.RowKit

/-- A block whose first cells are these bytes, none of those frozen. -/
def Byts (w : World) (b : Nat) (l : List UInt8) : Prop := (∀ i, i < l.length → w.cell? ⟨b, i, none⟩ = some (.int .u8 ((l.getD i 0).toNat : Int))) ∧ (∀ i, i < l.length → w.frozen? ⟨b, i, none⟩ = false)

theorem Byts.of_bytesWorld (w : World) (e : TypeId) (s : ByteArray) : Byts (Lib.bytesWorld w e s) w.heap.size s.data.toList := by
  refine ⟨fun i hi => ?_, fun i hi => ?_⟩
  · rw [size_len] at hi
    exact Lib.bytesWorld_cell w e s i hi
  · rw [size_len] at hi
    have hsz : s.size ≤ (Lib.bytesCells w e s).size := by
      have : (Lib.bytesCells w e s).size = s.data.size + (grownCap w s.size 0 e - s.size) := by
        unfold Lib.bytesCells
        rw [Array.size_append, Array.size_map, Array.size_replicate]
      rw [this]
      exact Nat.le_add_right _ _
    unfold World.frozen?
    rw [Lib.bytesWorld_at_new]
    simp
    omega
theorem below_bytesWorld {B : Nat} {a w : World} (h : Below B a w) (hB : B ≤ w.heap.size) (e : TypeId) (s : ByteArray) : Below B a (Lib.bytesWorld w e s) := by
  refine h.trans ⟨rfl, rfl, rfl, ?_, fun k hk => Lib.bytesWorld_at_old w e s k (by omega)⟩
  rw [Lib.bytesWorld_size]; omega

theorem Byts.set {w : World} {b : Nat} {l : List UInt8} (h : Byts w b l) (k : Nat) (hk : k < l.length) (c : UInt8) : Byts (w.setCell ⟨b, k, none⟩ (.int .u8 (c.toNat : Int))) b (l.set k c) := by
  refine ⟨fun i hi => ?_, fun i hi => ?_⟩
  · rw [List.length_set] at hi
    by_cases e : i = k
    · subst e
      rw [List.getD_eq_getElem?_getD, List.getElem?_set_self hk]
      have := h.1 i hi
      exact World.cell?_setCell_same _ _ _ this
    · rw [List.getD_eq_getElem?_getD, List.getElem?_set_ne (fun e2 => e e2.symm), ← List.getD_eq_getElem?_getD, ← h.1 i hi]
      exact World.cell?_setCell_other _ _ _ _ (fun e2 => e (by cases e2; rfl))
  · rw [List.length_set] at hi
    rw [World.frozen?_setCell]
    exact h.2 i hi

theorem Byts.drew {w : World} {b : Nat} {l : List UInt8} (h : Byts w b l) : Byts w.drew b l := h
theorem Byts.below {B : Nat} {w w' : World} {b : Nat} {l : List UInt8} (h : Byts w b l) (hb : Below B w w') (hB : b < B) : Byts w' b l :=
  ⟨fun i hi => (hb.cell (p := ⟨b, i, none⟩) hB).trans (h.1 i hi), fun i hi => (hb.frozen (p := ⟨b, i, none⟩) hB).trans (h.2 i hi)⟩

theorem Byts.str {W : World} {b : Nat} {l : List UInt8} (cap : Nat) (h : Byts W b l) :
    Sem.run Try.prog (convert 81 9 (.slice (some ⟨b, 0, none⟩) l.length cap)) W = .ok (.string ⟨l.toArray⟩) W := by
  have := run_convert_bytes_arg (P := Try.prog) W 81 5 Try.underlying81 Try.underlying5 b 0 l.length cap (nums l) (nums_length l) (fun i hi => by
    rw [Nat.zero_add, h.1 i hi, nums, List.getD_eq_getElem?_getD, List.getD_eq_getElem?_getD, List.getElem?_map, List.getElem?_eq_getElem hi]
    rfl) 9 Try.underlying9
  have e : strOfNums (nums l) = ⟨l.toArray⟩ := bytes_eq (by rw [nums_str])
  rw [e] at this
  exact this

theorem xor_u8 (a b : Nat) (ha : a < 256) (hb : b < 256) : bits .xor .u8 (a : Int) (b : Int) = ((a ^^^ b : Nat) : Int) := by
  have hx : a ^^^ b < 2 ^ 8 := Nat.xor_lt_two_pow ha hb
  have ha' : a % 2 ^ IntKind.u8.bits = a := Nat.mod_eq_of_lt ha
  have hb' : b % 2 ^ IntKind.u8.bits = b := Nat.mod_eq_of_lt hb
  simp only [bits, BitVec.ofInt_natCast, BitVec.toNat_xor, BitVec.toNat_ofNat, ha', hb']
  rw [IntKind.wrap_u8]
  show ((a ^^^ b : Nat) : Int) % 256 = _
  omega

theorem turn_byte (c : UInt8) (z : Nat) (hz : (z : Int) < 255) : ∃ d : UInt8, bits .xor .u8 (c.toNat : Int) (IntKind.u8.wrap (IntKind.i64.wrap (1 + (z : Int)))) = (d.toNat : Int) ∧ d ≠ c := by
  have h1 : IntKind.i64.wrap (1 + (z : Int)) = ((1 + z : Nat) : Int) := by rw [IntKind.wrap_i64]; omega
  have h2 : IntKind.u8.wrap ((1 + z : Nat) : Int) = ((1 + z : Nat) : Int) := by rw [IntKind.wrap_u8]; omega
  have hc := c.toNat_lt
  have hx : c.toNat ^^^ (1 + z) < 2 ^ 8 := Nat.xor_lt_two_pow hc (by omega)
  refine ⟨UInt8.ofNat (c.toNat ^^^ (1 + z)), ?_, ?_⟩
  · rw [h1, h2, xor_u8 _ _ (by omega) (by omega), ofNat_toNat _ hx]
  · intro e
    have e2 := congrArg UInt8.toNat e
    rw [ofNat_toNat _ hx] at e2
    have e3 : c.toNat ^^^ (c.toNat ^^^ (1 + z)) = 0 := by rw [e2, Nat.xor_self]
    rw [← Nat.xor_assoc, Nat.xor_self, Nat.zero_xor] at e3
    omega

theorem set_ne (l : List UInt8) (k : Nat) (hk : k < l.length) (d : UInt8) (h : d ≠ l.getD k 0) : l.set k d ≠ l := by
  intro e
  apply h
  conv => rhs; rw [← e]
  rw [List.getD_eq_getElem?_getD, List.getElem?_set_self hk]; rfl

set_option maxRecDepth 100000 in
set_option maxHeartbeats 1600000 in
theorem dturned_any (w : World) (bd bx rate : Nat) (t pat a : ByteArray) (hv : Bool) (x y : Int) (hD : Dsk w bd bx rate t pat hv) (hI : IdxOf w bx rate t.data.toList a)
    (x0 : -9223372036854775808 ≤ x) (x1 : x ≤ 9223372036854775807) (y0 : -9223372036854775808 ≤ y) (y1 : y ≤ 9223372036854775807) :
    Calls Try.prog 28 #[.pointer (some ⟨bd, 0, none⟩), .int .i64 x, .int .i64 y] w fun e w' => e = .returned (.bool true) ∧ Below w.heap.size w w' := by
  have hbd := Blk.lt hD
  have d0 := hD.c0
  have kc := fun (W : World) (s : ByteArray) => Lib.run_convert_string_bytes (P := Try.prog) W 9 81 5 s Try.underlying9 Try.underlying81 Try.underlying5
  go_enter Try.func28, Try.ntmps28
  go_wp2_with fail
  refine (save_of hI).mono ?_
  rintro e w1 ⟨s1, rfl, hs1, hz1, hp1, hB1⟩
  have hD1 : Dsk w1 bd bx rate t pat hv := Blk.below hD hB1 hbd
  clear hD hI d0
  have hb := Byts.of_bytesWorld w1 5 s1
  have hB2 := below_bytesWorld hB1 hB1.size 5 s1
  have hD2 : Dsk (Lib.bytesWorld w1 5 s1) bd bx rate t pat hv := Blk.of_heap hD1 (Lib.bytesWorld_at_old w1 5 s1 bd (Blk.lt hD1))
  go_wp2_with fail
  clear kc
  refine (pick_any _ _ _ x0 x1 (by omega) (by omega)).mono ?_
  rintro e w2 ⟨⟨k, rfl, hk⟩, rfl⟩
  generalize Lib.bytesWorld w1 5 s1 = w2 at hb hB2 hD2 ⊢
  generalize hgc : grownCap w1 s1.size 0 5 = cap
  clear hgc
  have hbn : bd ≠ w1.heap.size := by have := Blk.lt hD1; omega
  clear hD1
  have HZ : Hid (s1.data.toList.length = s1.size) := size_len s1
  have hkl : k < s1.size := by omega
  have c1 := hb.1 k (by rw [HZ.out]; exact hkl)
  have f1 := hb.2 k (by rw [HZ.out]; exact hkl)
  go_wp2_with fail
  go_region_with ((go_at_call 42; refine (pick_any _ _ _ y0 y1 (by omega) (by omega)).mono ?_; rintro e w3 ⟨⟨z, rfl, hz⟩, rfl⟩))
  all_goals
    have HC : Hid (s1.data[k] = s1.data.toList.getD k 0) := byte_at s1 k hkl
    obtain ⟨d, HDe, hdn⟩ := turn_byte (s1.data.toList.getD k 0) z hz
    rw [HC.out, HDe]
    clear HDe
    have hb3 := Byts.drew (hb.set k (by rw [HZ.out]; exact hkl) d)
    have hB3 := (hB2.setCell (p := ⟨w1.heap.size, k, none⟩) hB1.size (.int .u8 (d.toNat : Int))).drew
    have hD3 : Dsk ((w2.setCell ⟨w1.heap.size, k, none⟩ (.int .u8 (d.toNat : Int))).drew) bd bx rate t pat hv := Blk.drew (Blk.other hD2 (fun e => hbn e.symm) _)
    have hbz : w1.heap.size < ((w2.setCell ⟨w1.heap.size, k, none⟩ (.int .u8 (d.toNat : Int))).drew).heap.size := by simp; exact World.block_lt_of_cell? _ _ c1
    clear c1 f1 hB2 hD2 hb
    generalize (w2.setCell ⟨w1.heap.size, k, none⟩ (.int .u8 (d.toNat : Int))).drew = w4 at hb3 hB3 hD3 hbz ⊢
    obtain ⟨l, HLs⟩ : ∃ l, l = s1.data.toList.set k d := ⟨_, rfl⟩
    rw [← HLs] at hb3
    have hll : l.length = s1.size := by rw [HLs, List.length_set, HZ.out]
    have hne : Hid (l ≠ s1.data.toList) := by rw [HLs]; exact set_ne _ _ (by rw [HZ.out]; exact hkl) _ hdn
    clear HLs HC hdn
    obtain ⟨sL, HSL⟩ : ∃ sL : ByteArray, sL = ⟨l.toArray⟩ := ⟨_, rfl⟩
    have HSD : Hid (sL.data.toList = l) := by show _ = _; rw [HSL]
    have HST : Hid (∀ W, Byts W w1.heap.size l → Sem.run Try.prog (convert 81 9 (.slice (some ⟨w1.heap.size, 0, none⟩) s1.size cap)) W = .ok (.string sL) W) := by
      intro W hW
      have := Byts.str cap hW
      rw [hll, ← HSL] at this
      exact this
    have hsz : sL.size ≤ 700 := by rw [← size_len, HSD.out, hll]; exact hz1
    clear HSL hll
    have hst := HST.out _ hb3
    go_wp2_with fail
    clear hst
    refine (load_any sL _ (by unfold maxLen; omega)).mono ?_
    rintro e w5 ⟨hB5, ⟨rfl, hno⟩ | ⟨t', r', b', a', hok, rfl, hbb, hI', ha'⟩⟩
    · clear hno
      go_wp2
      go_ret
      exact ⟨rfl, hB3.trans (hB5.mono hB3.size)⟩
    · have hX : IdxOf w5 b' r' t' a' := ⟨hI', ha', hok.1, hok.2.1, hok.2.2.1⟩
      have HOK : Hid (LoadOk sL.data.toList t' r') := hok
      have hB6 := hB3.trans (hB5.mono hB3.size)
      have hD5 : Dsk w5 bd bx rate t pat hv := Blk.below hD3 hB5 (Blk.lt hD3)
      have hb5 := hb3.below hB5 hbz
      have hz5 : w1.heap.size < w5.heap.size := Nat.lt_of_lt_of_le hbz hB5.size
      clear hI' ha' hok hB3 hB5 hD3 hb3 hbz
      go_wp2_with fail
      refine (save_of hX).mono ?_
      rintro e w6 ⟨s6, rfl, hs6, _, _, hB7⟩
      obtain rfl : sL = s6 := by
        refine bytes_eq ?_
        rw [HOK.out.2.2.2, hs6.out.2.2.2]
      have hX6 := hX.below hB7 hX.lt
      have hB8 := hB6.trans (hB7.mono hB6.size)
      have hD6 : Dsk w6 bd bx rate t pat hv := Blk.below hD5 hB7 (Blk.lt hD5)
      have hb6 := hb5.below hB7 hz5
      have hz6 : w1.heap.size < w6.heap.size := Nat.lt_of_lt_of_le hz5 hB7.size
      clear hX hB6 hB7 hD5 hb5 hz5 hs6
      go_wp2_with fail
      refine (len_of hX6).mono ?_
      rintro e w7 ⟨rfl, rfl⟩
      go_wp2_with fail
      refine (extract_of hX6 0 t'.length (by omega) (Nat.le_refl _)).mono ?_
      rintro e w8 ⟨s8, rfl, hs8, hB9⟩
      have HS8 : Hid (s8.data.toList = t') := by show _ = _; rw [hs8.out, List.drop_zero, Nat.sub_zero, List.take_length]
      have hX8 := hX6.below hB9 hX6.lt
      have hB10 := hB8.trans (hB9.mono hB8.size)
      have hD8 : Dsk w8 bd bx rate t pat hv := Blk.below hD6 hB9 (Blk.lt hD6)
      have hb8 := hb6.below hB9 hz6
      have hz8 : w1.heap.size < w8.heap.size := Nat.lt_of_lt_of_le hz6 hB9.size
      clear hX6 hB8 hB9 hD6 hb6 hz6 hs8
      go_wp2_with fail
      refine (rate_of hX8).mono ?_
      rintro e w9 ⟨rfl, rfl⟩
      go_wp2_with fail
      refine (build_of s8 r' _ (by rw [← size_len, HS8.out]; exact hX8.len) hX8.r1 hX8.r2).mono ?_
      rintro e w10 ⟨b10, a10, rfl, hb10, hX10, hB11⟩
      have hB12 := hB10.trans (hB11.mono hB10.size)
      have hD10 : Dsk w10 bd bx rate t pat hv := Blk.below hD8 hB11 (Blk.lt hD8)
      have hb10' := hb8.below hB11 hz8
      have hz10 : w1.heap.size < w10.heap.size := Nat.lt_of_lt_of_le hz8 hB11.size
      clear hX8 hB10 hB11 hD8 hb8 hz8 hb10
      go_wp2_with fail
      refine (save_of hX10).mono ?_
      rintro e w11 ⟨s11, rfl, hs11, _, _, hB13⟩
      obtain rfl : sL = s11 := by
        refine bytes_eq ?_
        rw [HOK.out.2.2.2, hs11.out.2.2.2, HS8.out]
      have hB14 := hB12.trans (hB13.mono hB12.size)
      have hD11 : Dsk w11 bd bx rate t pat hv := Blk.below hD10 hB13 (Blk.lt hD10)
      have hst := HST.out _ (hb10'.below hB13 hz10)
      have e1 := hD11.c1
      have e2 := hD11.c2
      clear hX10 hB12 hB13 hD10 hb10' hz10 hs11 HST
      have hq : (!(s8.toList == t.toList)) = true ∨ ((r' : Int) != (rate : Int)) = true := by
        by_cases h1 : s8.toList = t.toList
        · right
          rw [bne_iff_ne]
          intro h2
          rw [Lib.toList_data, Lib.toList_data, HS8.out] at h1
          have h3 : r' = rate := by omega
          have h4 := HOK.out.2.2.2
          rw [h1, h3, ← hs1.out.2.2.2, HSD.out] at h4
          exact hne.out h4
        · left
          rw [beq_eq_false_iff_ne.2 h1]; rfl
      by_cases h1 : (s8.toList == t.toList) = true
      · have h2 : ((r' : Int) != (rate : Int)) = true := by
          rcases hq with h | h
          · rw [h1] at h; cases h
          · exact h
        clear hq
        go_wp2
        go_ret
        exact ⟨rfl, hB14⟩
      · have h2 : (s8.toList == t.toList) = false := by simpa using h1
        clear hq h1
        go_wp2
        go_ret
        exact ⟨rfl, hB14⟩
end Go.Proofs.Ytjmkkkfloalliaa
