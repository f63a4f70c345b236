import Derived.Test.YtjmkkkfloalliabS1
import Derived.Deep.RegionHeld
namespace Go.Proofs.Ytjmkkkfloalliab
set_option linter.unusedVariables false
open Go.RowKit

/-- a desk in memory -/
def Dsk (w : World) (bd bx rate : Nat) (t pat : ByteArray) (hv : Bool) : Prop := Blk w bd [.pointer (some ⟨bx, 0, none⟩), .string t, .int .i64 rate, .string pat, .bool hv]
theorem Dsk.c0 {w : World} {bd bx rate : Nat} {t pat : ByteArray} {hv : Bool} (h : Dsk w bd bx rate t pat hv) : w.cell? ⟨bd, 0, none⟩ = some (.pointer (some ⟨bx, 0, none⟩)) := Blk.cell? h 0
theorem Dsk.c1 {w : World} {bd bx rate : Nat} {t pat : ByteArray} {hv : Bool} (h : Dsk w bd bx rate t pat hv) : w.cell? ⟨bd, 1, none⟩ = some (.string t) := Blk.cell? h 1
theorem Dsk.c2 {w : World} {bd bx rate : Nat} {t pat : ByteArray} {hv : Bool} (h : Dsk w bd bx rate t pat hv) : w.cell? ⟨bd, 2, none⟩ = some (.int .i64 rate) := Blk.cell? h 2
theorem Dsk.c3 {w : World} {bd bx rate : Nat} {t pat : ByteArray} {hv : Bool} (h : Dsk w bd bx rate t pat hv) : w.cell? ⟨bd, 3, none⟩ = some (.string pat) := Blk.cell? h 3
theorem Dsk.c4 {w : World} {bd bx rate : Nat} {t pat : ByteArray} {hv : Bool} (h : Dsk w bd bx rate t pat hv) : w.cell? ⟨bd, 4, none⟩ = some (.bool hv) := Blk.cell? h 4

theorem Q.search_err {a : List UInt8} {h : Nat} {pat : List UInt8} {budget : Int} {memo : Bool} {E At : Nat} (hs : Q.search a h pat budget memo = .error (E, At)) : E ≠ 0 := by
  unfold Q.search at hs
  split at hs
  · cases hs; decide
  · split at hs
    · next e hp => cases hs; exact Q.parse_err hp
    · split at hs
      · cases hs
      · cases hs; decide
set_option maxRecDepth 100000 in
set_option maxHeartbeats 1600000 in
theorem laid_any (t pat : ByteArray) (rate : Int) (w : World) (ht : t.size ≤ maxLen) (hpm : pat.size ≤ maxLen) (r0 : -9223372036854775808 ≤ rate) (r1 : rate ≤ 9223372036854775807) :
    Calls Try.prog 10 #[.string t, .int .i64 rate, .string pat] w fun e w' => ∃ (bd bx r : Nat) (t' pat' a : ByteArray) (hv : Bool), e = .returned (.pointer (some ⟨bd, 0, none⟩)) ∧ 1 ≤ r ∧ r ≤ 32 ∧ t'.size ≤ 200 ∧
      Dsk w' bd bx r t' pat' hv ∧ Idx w' bx r (M.row t'.data.toList 0) a ∧ a.data.toList = M.ahead t'.data.toList ∧ w.heap.size ≤ bd ∧ w.heap.size ≤ bx ∧ Below w.heap.size w w' ∧ Hid (t'.data.toList = t.data.toList.take 200) ∧
      Hid ((hv = true ∧ pat' = pat ∧ ∃ l, Q.search (L a) (M.row t'.data.toList 0) (L pat) 524288 true = .ok l) ∨ (hv = false ∧ ∃ e, Q.search (L a) (M.row t'.data.toList 0) (L pat) 524288 true = .error e)) := by
  go_enter Try.func10, Try.ntmps10
  go_wp2_with fail
  refine (clipped_any t 200 _ ht (by omega)).mono ?_
  rintro e w1 ⟨t1, rfl, ht1, HT1, rfl⟩
  go_wp2_with fail
  refine (pick_any rate 32 _ r0 r1 (by omega) (by omega)).mono ?_
  rintro e w1 ⟨⟨r, rfl, hr⟩, rfl⟩
  go_wp2_with fail
  obtain ⟨R, HR, hR1, hR2⟩ : ∃ R : Nat, Hid ((1 : Int) + (r : Int) = (R : Int)) ∧ 1 ≤ R ∧ R ≤ 32 := ⟨r + 1, by show _ = _; omega, by omega, by omega⟩
  rw [HR.out]
  have hD : Blk (w.alloc (.cells #[.pointer none, .string t1, .int .i64 R, .string ⟨#[]⟩, .bool false] 26)) w.heap.size [.pointer none, .string t1, .int .i64 R, .string ⟨#[]⟩, .bool false] := Blk.new _ _ _
  have hB : Below w.heap.size w (w.alloc (.cells #[.pointer none, .string t1, .int .i64 R, .string ⟨#[]⟩, .bool false] 26)) := (Below.refl _ _).alloc (Nat.le_refl _) _
  clear hr HR
  generalize w.alloc (.cells #[.pointer none, .string t1, .int .i64 R, .string ⟨#[]⟩, .bool false] 26) = wA at hD hB ⊢
  have d1 : wA.cell? ⟨w.heap.size, 1, none⟩ = some (.string t1) := Blk.cell? hD 1
  have d2 : wA.cell? ⟨w.heap.size, 2, none⟩ = some (.int .i64 R) := Blk.cell? hD 2
  have hbd : w.heap.size < wA.heap.size := Blk.lt hD
  go_region_held (fun w' => w'.cell? ⟨w.heap.size, 1, none⟩ = some (.string t1) ∧ w'.cell? ⟨w.heap.size, 2, none⟩ = some (.int .i64 R))
    (first | (exact ⟨(hB2.cell hbd).trans d1, (hB2.cell hbd).trans d2⟩) | go_keep)
    ((go_at_call 20; refine (build_yes _ _ _ ht1 hR1 hR2).mono ?_; rintro e w2 ⟨b, a, rfl, hb, hI, HA, hB2⟩))
  rename_i hHeld; clear hHeld
  have hB3 : Below w.heap.size w w2 := hB.drew.trans (hB2.mono hB.size)
  have hD2 := Blk.below (Blk.drew hD) hB2 hbd
  have hbb : w.heap.size < b := Nat.lt_of_lt_of_le hbd hb
  have hsz : a.size = t1.size := by rw [← size_len, HA.out, M.ahead_length, size_len]
  clear d1 d2 hD hB hB2 hb
  have d1 : w2.cell? ⟨w.heap.size, 1, none⟩ = some (.string t1) := Blk.cell? hD2 1
  have d0 : w2.cell? ⟨w.heap.size, 0, none⟩ = some (.pointer none) := Blk.cell? hD2 0
  have f0 := Blk.frozen hD2 0
  have hq : ((a.size : Int) != (t1.size : Int)) = false := by rw [hsz]; simp
  have HSZ : Hid _ := hsz
  clear hsz
  go_wp2_with fail
  refine (len_any a b R _ _ hI).mono ?_
  rintro e w3 ⟨rfl, rfl⟩
  go_wp2_with fail
  have hD3 := Blk.set hD2 0 (.pointer (some ⟨b, 0, none⟩))
  have hI3 : Idx (w3.setCell ⟨w.heap.size, 0, none⟩ (.pointer (some ⟨b, 0, none⟩))) b R (M.row t1.data.toList 0) a := Blk.other hI (by simp; omega) _
  have hB4 := hB3.setCell (p := ⟨w.heap.size, 0, none⟩) (Nat.le_refl _) (.pointer (some ⟨b, 0, none⟩))
  clear d0 d1 f0 hD2 hI hB3 hq
  generalize w3.setCell ⟨w.heap.size, 0, none⟩ (.pointer (some ⟨b, 0, none⟩)) = wB at hD3 hI3 hB4 ⊢
  have hal : a.size = t1.size := HSZ.out
  have hrow : M.row t1.data.toList 0 ≤ a.size := by
    have := M.row_le t1.data.toList 0 (Nat.zero_le _)
    rw [size_len] at this
    omega
  have HFA := hid (find_any b R (M.row t1.data.toList 0) a pat wB hI3 (by omega) hrow hpm)
  cases hsr : Q.search (L a) (M.row t1.data.toList 0) (L pat) 524288 true with
  | ok l =>
    rw [hsr] at HFA
    have HFA2 : Hid (Calls Try.prog 22 #[.pointer (some ⟨b, 0, none⟩), .string pat] wB fun e w' => (∃ b, e = .returned (.tuple #[.slice (some ⟨b, 0, none⟩) l.length l.length, .int .i64 0]) ∧ wB.heap.size ≤ b ∧ Nums .i64 w' b (natI l)) ∧ Below wB.heap.size wB w') := HFA.out
    clear HFA
    have HSR := hid hsr
    refine HFA2.out.mono ?_
    rintro e w4 ⟨⟨bl, rfl, _, _⟩, hB5⟩
    have hD4 := Blk.below hD3 hB5 (Blk.lt hD3)
    have hI4 : Idx w4 b R (M.row t1.data.toList 0) a := Blk.below hI3 hB5 (Blk.lt hI3)
    have hB6 := hB4.trans (hB5.mono hB4.size)
    have d3 : w4.cell? ⟨w.heap.size, 3, none⟩ = some (.string ⟨#[]⟩) := Blk.cell? hD4 3
    have d4 : w4.cell? ⟨w.heap.size, 4, none⟩ = some (.bool false) := Blk.cell? hD4 4
    have f3 := Blk.frozen hD4 3
    have f4 := Blk.frozen hD4 4
    clear hD3 hI3 hB4 hB5 hsr
    go_wp2
    go_ret
    exact ⟨w.heap.size, b, R, t1, pat, a, true, rfl, hR1, hR2, ht1, Blk.set (Blk.set hD4 3 _) 4 _, Blk.other (Blk.other hI4 (by simp; omega) _) (by simp; omega) _, HA.out, Nat.le_refl _, by omega, (hB6.setCell (Nat.le_refl _) _).setCell (Nat.le_refl _) _, HT1, .inl ⟨rfl, rfl, l, HSR.out⟩⟩
  | error ea =>
    obtain ⟨E, At⟩ := ea
    rw [hsr] at HFA
    have HFA2 : Hid (Calls Try.prog 22 #[.pointer (some ⟨b, 0, none⟩), .string pat] wB fun e w' => e = .returned (.tuple #[.slice none 0 0, .int .i64 (E : Int)]) ∧ Below wB.heap.size wB w') := HFA.out
    clear HFA
    have hE0 : E ≠ 0 := Q.search_err hsr
    have hEq : ((E : Int) == 0) = false := by simp; omega
    have HSR := hid hsr
    refine HFA2.out.mono ?_
    rintro e w4 ⟨rfl, hB5⟩
    have hD4 := Blk.below hD3 hB5 (Blk.lt hD3)
    have hI4 : Idx w4 b R (M.row t1.data.toList 0) a := Blk.below hI3 hB5 (Blk.lt hI3)
    have hB6 := hB4.trans (hB5.mono hB4.size)
    clear hD3 hI3 hB4 hB5 hsr
    go_wp2
    go_ret
    exact ⟨w.heap.size, b, R, t1, ⟨#[]⟩, a, false, rfl, hR1, hR2, ht1, hD4, hI4, HA.out, Nat.le_refl _, by omega, hB6, HT1, .inr ⟨rfl, _, HSR.out⟩⟩
end Go.Proofs.Ytjmkkkfloalliab
