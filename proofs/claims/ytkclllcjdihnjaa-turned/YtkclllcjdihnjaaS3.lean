import Derived.Test.YtkclllcjdihnjaaS2
namespace Go.Proofs.Ytkclllcjdihnjaa
set_option linter.unusedVariables false
open Go.RowKit

theorem saved_ab : saveL (M.ahead [97, 98]) (M.row [97, 98] 0) 1 = [102, 109, 105, 49, 0, 2, 1, 0, 1, 98, 97, 0, 1, 0, 2, 0, 0, 12, 30] := by decide +kernel

/-- an index of a text: what the calls need of it -/
structure IdxOf (w : World) (b rate : Nat) (t : List UInt8) (a : ByteArray) : Prop where
  idx : Idx w b rate (M.row t 0) a
  ah : a.data.toList = M.ahead t
  len : t.length ≤ 200
  r1 : 1 ≤ rate
  r2 : rate ≤ 32

theorem IdxOf.size {w : World} {b rate : Nat} {t : List UInt8} {a : ByteArray} (h : IdxOf w b rate t a) : a.size = t.length := by
  rw [← size_len, h.ah, M.ahead_length]
theorem IdxOf.below {B : Nat} {w w' : World} {b rate : Nat} {t : List UInt8} {a : ByteArray} (h : IdxOf w b rate t a) (hb : Below B w w') (hB : b < B) : IdxOf w' b rate t a :=
  ⟨Blk.below h.idx hb hB, h.ah, h.len, h.r1, h.r2⟩
theorem IdxOf.lt {w : World} {b rate : Nat} {t : List UInt8} {a : ByteArray} (h : IdxOf w b rate t a) : b < w.heap.size := Blk.lt h.idx
theorem IdxOf.row {w : World} {b rate : Nat} {t : List UInt8} {a : ByteArray} (h : IdxOf w b rate t a) : M.row t 0 ≤ a.size := by rw [h.size]; exact row0_le t

theorem save_of {w : World} {b rate : Nat} {t : List UInt8} {a : ByteArray} (h : IdxOf w b rate t a) :
    Calls Try.prog 39 #[.pointer (some ⟨b, 0, none⟩)] w fun e w' => ∃ s : ByteArray, e = .returned (.string s) ∧ Hid (LoadOk s.data.toList t rate) ∧ s.size ≤ 700 ∧ 0 < s.size ∧ Below w.heap.size w w' := by
  have hs := h.size
  have hl := h.len
  refine (save_any a b rate (M.row t 0) w (by omega) h.row h.r1 (by have := h.r2; omega) h.idx).mono ?_
  rintro e w' ⟨s, rfl, hsv, hb⟩
  have hok : LoadOk s.data.toList t rate := ⟨h.len, h.r1, h.r2, by rw [hsv.out, h.ah]⟩
  have hlen := hok.fields.2.2.2.2
  rw [size_len] at hlen
  have : t.length / rate ≤ t.length := Nat.div_le_self _ _
  exact ⟨s, rfl, hok, by omega, by omega, hb⟩

theorem extract_of {w : World} {b rate : Nat} {t : List UInt8} {a : ByteArray} (h : IdxOf w b rate t a) (i j : Nat) (hij : i ≤ j) (hj : j ≤ t.length) :
    Calls Try.prog 38 #[.pointer (some ⟨b, 0, none⟩), .int .i64 i, .int .i64 j] w fun e w' => ∃ s : ByteArray, e = .returned (.tuple #[.string s, .int .i64 0]) ∧ Hid (s.data.toList = (t.drop i).take (j - i)) ∧ Below w.heap.size w w' := by
  have hs := h.size
  have hl := h.len
  refine (extract_yes a b rate (M.row t 0) i j w (by omega) h.row h.idx hij (by omega)).mono ?_
  rintro e w' ⟨s, rfl, hsv, hb⟩
  refine ⟨s, rfl, ?_, hb⟩
  show _ = _
  rw [hsv.out, h.ah, M.textOf_ahead]

theorem build_of (t : ByteArray) (rate : Nat) (w : World) (h0 : t.size ≤ 200) (h1 : 1 ≤ rate) (h2 : rate ≤ 32) :
    Calls Try.prog 32 #[.string t, .int .i64 rate] w fun e w' => ∃ b a, e = .returned (.tuple #[.pointer (some ⟨b, 0, none⟩), .int .i64 0]) ∧ w.heap.size ≤ b ∧ IdxOf w' b rate t.data.toList a ∧ Below w.heap.size w w' := by
  refine (build_yes t rate w h0 h1 h2).mono ?_
  rintro e w' ⟨b, a, rfl, hb, hI, HA, hB⟩
  exact ⟨b, a, rfl, hb, ⟨hI, HA.out, by rw [size_len]; exact h0, h1, h2⟩, hB⟩

theorem len_of {w : World} {b rate : Nat} {t : List UInt8} {a : ByteArray} (h : IdxOf w b rate t a) :
    Calls Try.prog 43 #[.pointer (some ⟨b, 0, none⟩)] w fun e w' => e = .returned (.int .i64 t.length) ∧ w' = w := by
  have := len_any a b rate (M.row t 0) w h.idx
  rw [h.size] at this
  exact this

theorem rate_of {w : World} {b rate : Nat} {t : List UInt8} {a : ByteArray} (h : IdxOf w b rate t a) :
    Calls Try.prog 50 #[.pointer (some ⟨b, 0, none⟩)] w fun e w' => e = .returned (.int .i64 rate) ∧ w' = w := rate_any a b rate (M.row t 0) w h.idx

theorem load_of (s : ByteArray) (w : World) (t : List UInt8) (rate : Nat) (hs : s.size ≤ maxLen) (h : LoadOk s.data.toList t rate) :
    Calls Try.prog 30 #[.string s] w fun e w' => ∃ b a, e = .returned (.tuple #[.pointer (some ⟨b, 0, none⟩), .int .i64 0]) ∧ w.heap.size ≤ b ∧ IdxOf w' b rate t a ∧ Below w.heap.size w w' := by
  refine (load_any s w hs).mono ?_
  rintro e w' ⟨hB, h1 | h1⟩
  · exact absurd ⟨t, rate, h⟩ h1.2
  · obtain ⟨t', rate', b, a, hok, he, hb, hI, ha⟩ := h1
    obtain ⟨rfl, rfl⟩ := h.uniq hok
    exact ⟨b, a, he, hb, ⟨hI, ha, h.1, h.2.1, h.2.2.1⟩, hB⟩

set_option maxRecDepth 100000 in
set_option maxHeartbeats 1600000 in
theorem dsaved_any (w : World) (bd bx rate : Nat) (t pat a : ByteArray) (hv : Bool) (hD : Dsk w bd bx rate t pat hv) (hI : IdxOf w bx rate t.data.toList a) :
    Calls Try.prog 27 #[.pointer (some ⟨bd, 0, none⟩)] w fun e w' => e = .returned (.bool true) ∧ Below w.heap.size w w' := by
  have hbd := Blk.lt hD
  have hbx := hI.lt
  go_enter Try.func27, Try.ntmps27
  go_wp2_with fail
  refine (build_of _ 1 _ (by decide) (by decide) (by decide)).mono ?_
  rintro e w1 ⟨b1, a1, rfl, hb1, hI1, hB1⟩
  have hD1 : Dsk w1 bd bx rate t pat hv := Blk.below hD hB1 hbd
  have hX1 := hI.below hB1 hbx
  clear hD hI
  go_wp2_with fail
  refine (save_of hI1).mono ?_
  rintro e w2 ⟨s2, rfl, hs2, hz2, _, hB2⟩
  obtain rfl : s2 = ⟨#[102, 109, 105, 49, 0, 2, 1, 0, 1, 98, 97, 0, 1, 0, 2, 0, 0, 12, 30]⟩ := by
    refine bytes_eq ?_
    rw [hs2.out.2.2.2]
    exact saved_ab
  have hB12 := hB1.trans (hB2.mono hB1.size)
  have hD2 : Dsk w2 bd bx rate t pat hv := Blk.below hD1 hB2 (Blk.lt hD1)
  have hX2 := hX1.below hB2 hX1.lt
  clear hD1 hX1 hI1 hs2 hz2 hB1 hB2
  have d0 := hD2.c0
  go_wp2_with fail
  refine (save_of hX2).mono ?_
  rintro e w3 ⟨s3, rfl, hs3, hz3, _, hB3⟩
  have hB13 := hB12.trans (hB3.mono hB12.size)
  have hD3 : Dsk w3 bd bx rate t pat hv := Blk.below hD2 hB3 (Blk.lt hD2)
  clear hD2 hX2 hB3 hB12 d0
  go_wp2_with fail
  refine (load_of s3 _ _ _ (by unfold maxLen; omega) hs3.out).mono ?_
  rintro e w4 ⟨by_, ay, rfl, hb4, hY4, hB4⟩
  have hB14 := hB13.trans (hB4.mono hB13.size)
  have hD4 : Dsk w4 bd bx rate t pat hv := Blk.below hD3 hB4 (Blk.lt hD3)
  clear hD3 hB4 hB13
  go_wp2_with fail
  refine (save_of hY4).mono ?_
  rintro e w5 ⟨s5, rfl, hs5, hz5, _, hB5⟩
  obtain rfl : s3 = s5 := by
    refine bytes_eq ?_
    rw [hs3.out.2.2.2, hs5.out.2.2.2]
  have hB15 := hB14.trans (hB5.mono hB14.size)
  have hD5 : Dsk w5 bd bx rate t pat hv := Blk.below hD4 hB5 (Blk.lt hD4)
  have hY5 := hY4.below hB5 hY4.lt
  clear hD4 hB5 hB14 hY4 hs5
  have d1 := hD5.c1
  have HZ : Hid (t.data.toList.length = t.size) := size_len t
  go_wp2_with fail
  refine (extract_of hY5 0 t.size (by omega) (by rw [HZ.out]; exact Nat.le_refl _)).mono ?_
  rintro e w6 ⟨s6, rfl, hs6, hB6⟩
  obtain rfl : s6 = t := by
    refine bytes_eq ?_
    rw [hs6.out, List.drop_zero, Nat.sub_zero, ← HZ.out, List.take_length]
  have hB16 := hB15.trans (hB6.mono hB15.size)
  have hD6 : Dsk w6 bd bx rate s6 pat hv := Blk.below hD5 hB6 (Blk.lt hD5)
  have hY6 := hY5.below hB6 hY5.lt
  clear hD5 hB6 hB15 hY5 hs6 d1
  go_wp2_with fail
  refine (len_of hY6).mono ?_
  rintro e w7 ⟨rfl, rfl⟩
  rw [HZ.out]
  go_wp2_with fail
  refine (rate_of hY6).mono ?_
  rintro e w8 ⟨rfl, rfl⟩
  have d1 := hD6.c1
  have d2 := hD6.c2
  go_wp2
  go_ret
  exact ⟨rfl, hB16⟩
end Go.Proofs.Ytkclllcjdihnjaa
