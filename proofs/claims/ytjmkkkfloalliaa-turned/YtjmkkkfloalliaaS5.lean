import Derived.Test.YtjmkkkfloalliaaS3
namespace Go.Proofs.Ytjmkkkfloalliaa
set_option linter.unusedVariables false
open Go.RowKit

theorem saved_ab : saveL (M.ahead [97, 98]) (M.row [97, 98] 0) 1 = [102, 109, 105, 49, 0, 2, 1, 0, 1, 98, 97, 0, 1, 0, 2, 0, 0, 12, 30] := by decide +kernel

set_option maxRecDepth 100000 in
set_option maxHeartbeats 1600000 in
theorem dsaved_any (w : World) (bd bx rate : Nat) (t pat a : ByteArray) (hv : Bool) (hD : Dsk w bd bx rate t pat hv) (hI : IdxOf w bx rate t.data.toList a) :
    Calls Try.prog 27 #[.pointer (some ⟨bd, 0, none⟩)] w fun e w' => e = .returned (.bool true) ∧ Below w.heap.size w w' := by
  have hbd := Blk.lt hD
  have hbx := hI.lt
  go_enter Try.func27, Try.ntmps27
  go_wp2_with fail
  refine (build_of _ 1 _ (by decide) (by decide) (by decide)).mono ?_
  rintro e w1 ⟨b1, a1, rfl, hb1, hI1, hB1⟩
  have hD1 : Dsk w1 bd bx rate t pat hv := Blk.below hD hB1 hbd
  have hX1 := hI.below hB1 hbx
  clear hD hI
  go_wp2_with fail
  refine (save_of hI1).mono ?_
  rintro e w2 ⟨s2, rfl, hs2, hz2, _, hB2⟩
  obtain rfl : s2 = ⟨#[102, 109, 105, 49, 0, 2, 1, 0, 1, 98, 97, 0, 1, 0, 2, 0, 0, 12, 30]⟩ := by
    refine bytes_eq ?_
    rw [hs2.out.2.2.2]
    exact saved_ab
  have hB12 := hB1.trans (hB2.mono hB1.size)
  have hD2 : Dsk w2 bd bx rate t pat hv := Blk.below hD1 hB2 (Blk.lt hD1)
  have hX2 := hX1.below hB2 hX1.lt
  clear hD1 hX1 hI1 hs2 hz2 hB1 hB2
  have d0 := hD2.c0
  go_wp2_with fail
  refine (save_of hX2).mono ?_
  rintro e w3 ⟨s3, rfl, hs3, hz3, _, hB3⟩
  have hB13 := hB12.trans (hB3.mono hB12.size)
  have hD3 : Dsk w3 bd bx rate t pat hv := Blk.below hD2 hB3 (Blk.lt hD2)
  clear hD2 hX2 hB3 hB12 d0
  go_wp2_with fail
  refine (load_of s3 _ _ _ (by unfold maxLen; omega) hs3.out).mono ?_
  rintro e w4 ⟨by_, ay, rfl, hb4, hY4, hB4⟩
  have hB14 := hB13.trans (hB4.mono hB13.size)
  have hD4 : Dsk w4 bd bx rate t pat hv := Blk.below hD3 hB4 (Blk.lt hD3)
  clear hD3 hB4 hB13
  go_wp2_with fail
  refine (save_of hY4).mono ?_
  rintro e w5 ⟨s5, rfl, hs5, hz5, _, hB5⟩
  obtain rfl : s3 = s5 := by
    refine bytes_eq ?_
    rw [hs3.out.2.2.2, hs5.out.2.2.2]
  have hB15 := hB14.trans (hB5.mono hB14.size)
  have hD5 : Dsk w5 bd bx rate t pat hv := Blk.below hD4 hB5 (Blk.lt hD4)
  have hY5 := hY4.below hB5 hY4.lt
  clear hD4 hB5 hB14 hY4 hs5
  have d1 := hD5.c1
  have HZ : Hid (t.data.toList.length = t.size) := size_len t
  go_wp2_with fail
  refine (extract_of hY5 0 t.size (by omega) (by rw [HZ.out]; exact Nat.le_refl _)).mono ?_
  rintro e w6 ⟨s6, rfl, hs6, hB6⟩
  obtain rfl : s6 = t := by
    refine bytes_eq ?_
    rw [hs6.out, List.drop_zero, Nat.sub_zero, ← HZ.out, List.take_length]
  have hB16 := hB15.trans (hB6.mono hB15.size)
  have hD6 : Dsk w6 bd bx rate s6 pat hv := Blk.below hD5 hB6 (Blk.lt hD5)
  have hY6 := hY5.below hB6 hY5.lt
  clear hD5 hB6 hB15 hY5 hs6 d1
  go_wp2_with fail
  refine (len_of hY6).mono ?_
  rintro e w7 ⟨rfl, rfl⟩
  rw [HZ.out]
  go_wp2_with fail
  refine (rate_of hY6).mono ?_
  rintro e w8 ⟨rfl, rfl⟩
  have d1 := hD6.c1
  have d2 := hD6.c2
  go_wp2
  go_ret
  exact ⟨rfl, hB16⟩
end Go.Proofs.Ytjmkkkfloalliaa
