import Derived.Test.YtjmkkkfloalliaaK04
import Derived.Test.YtjmkkkfloalliaaK00
import Derived.Deep.RegionHeld
namespace Go.Proofs.Ytjmkkkfloalliaa
set_option linter.unusedVariables false
open Go.RowKit

/-- a desk in memory -/
def Dsk (w : World) (bd bx rate : Nat) (t pat : ByteArray) (hv : Bool) : Prop := Blk w bd [.pointer (some ⟨bx, 0, none⟩), .string t, .int .i64 rate, .string pat, .bool hv]
theorem Dsk.c0 {w : World} {bd bx rate : Nat} {t pat : ByteArray} {hv : Bool} (h : Dsk w bd bx rate t pat hv) : w.cell? ⟨bd, 0, none⟩ = some (.pointer (some ⟨bx, 0, none⟩)) := Blk.cell? h 0
theorem Dsk.c1 {w : World} {bd bx rate : Nat} {t pat : ByteArray} {hv : Bool} (h : Dsk w bd bx rate t pat hv) : w.cell? ⟨bd, 1, none⟩ = some (.string t) := Blk.cell? h 1
theorem Dsk.c2 {w : World} {bd bx rate : Nat} {t pat : ByteArray} {hv : Bool} (h : Dsk w bd bx rate t pat hv) : w.cell? ⟨bd, 2, none⟩ = some (.int .i64 rate) := Blk.cell? h 2
theorem Dsk.c3 {w : World} {bd bx rate : Nat} {t pat : ByteArray} {hv : Bool} (h : Dsk w bd bx rate t pat hv) : w.cell? ⟨bd, 3, none⟩ = some (.string pat) := Blk.cell? h 3
theorem Dsk.c4 {w : World} {bd bx rate : Nat} {t pat : ByteArray} {hv : Bool} (h : Dsk w bd bx rate t pat hv) : w.cell? ⟨bd, 4, none⟩ = some (.bool hv) := Blk.cell? h 4

theorem Q.search_err {a : List UInt8} {h : Nat} {pat : List UInt8} {budget : Int} {memo : Bool} {E At : Nat} (hs : Q.search a h pat budget memo = .error (E, At)) : E ≠ 0 := by
  unfold Q.search at hs
  split at hs
  · cases hs; decide
  · split at hs
    · next e hp => cases hs; exact Q.parse_err hp
    · split at hs
      · cases hs
      · cases hs; decide
set_option maxRecDepth 100000 in
set_option maxHeartbeats 1600000 in
theorem laid_any (t pat : ByteArray) (rate : Int) (w : World) (ht : t.size ≤ maxLen) (hpm : pat.size ≤ maxLen) (r0 : -9223372036854775808 ≤ rate) (r1 : rate ≤ 9223372036854775807) :
    Calls Try.prog 22 #[.string t, .int .i64 rate, .string pat] w fun e w' => ∃ (bd bx r : Nat) (t' pat' a : ByteArray) (hv : Bool), e = .returned (.pointer (some ⟨bd, 0, none⟩)) ∧ 1 ≤ r ∧ r ≤ 32 ∧ t'.size ≤ 200 ∧
      Dsk w' bd bx r t' pat' hv ∧ Idx w' bx r (M.row t'.data.toList 0) a ∧ a.data.toList = M.ahead t'.data.toList ∧ w.heap.size ≤ bd ∧ w.heap.size ≤ bx ∧ Below w.heap.size w w' ∧ Hid (t'.data.toList = t.data.toList.take 200) ∧
      Hid ((hv = true ∧ pat' = pat ∧ ∃ l, Q.search (L a) (M.row t'.data.toList 0) (L pat) 524288 true = .ok l) ∨ (hv = false ∧ ∃ e, Q.search (L a) (M.row t'.data.toList 0) (L pat) 524288 true = .error e)) := by
  go_enter Try.func22, Try.ntmps22
  go_wp2_with fail
  refine (clipped_any t 200 _ ht (by omega)).mono ?_
  rintro e w1 ⟨t1, rfl, ht1, HT1, rfl⟩
  go_wp2_with fail
  refine (pick_any rate 32 _ r0 r1 (by omega) (by omega)).mono ?_
  rintro e w1 ⟨⟨r, rfl, hr⟩, rfl⟩
  go_wp2_with fail
  obtain ⟨R, HR, hR1, hR2⟩ : ∃ R : Nat, Hid ((1 : Int) + (r : Int) = (R : Int)) ∧ 1 ≤ R ∧ R ≤ 32 := ⟨r + 1, by show _ = _; omega, by omega, by omega⟩
  rw [HR.out]
  have hD : Blk (w.alloc (.cells #[.pointer none, .string t1, .int .i64 R, .string ⟨#[]⟩, .bool false] 45)) w.heap.size [.pointer none, .string t1, .int .i64 R, .string ⟨#[]⟩, .bool false] := Blk.new _ _ _
  have hB : Below w.heap.size w (w.alloc (.cells #[.pointer none, .string t1, .int .i64 R, .string ⟨#[]⟩, .bool false] 45)) := (Below.refl _ _).alloc (Nat.le_refl _) _
  clear hr HR
  generalize w.alloc (.cells #[.pointer none, .string t1, .int .i64 R, .string ⟨#[]⟩, .bool false] 45) = wA at hD hB ⊢
  have d1 : wA.cell? ⟨w.heap.size, 1, none⟩ = some (.string t1) := Blk.cell? hD 1
  have d2 : wA.cell? ⟨w.heap.size, 2, none⟩ = some (.int .i64 R) := Blk.cell? hD 2
  have hbd : w.heap.size < wA.heap.size := Blk.lt hD
  go_region_held (fun w' => w'.cell? ⟨w.heap.size, 1, none⟩ = some (.string t1) ∧ w'.cell? ⟨w.heap.size, 2, none⟩ = some (.int .i64 R))
    (first | (exact ⟨(hB2.cell hbd).trans d1, (hB2.cell hbd).trans d2⟩) | go_keep)
    ((go_at_call 32; refine (build_yes _ _ _ ht1 hR1 hR2).mono ?_; rintro e w2 ⟨b, a, rfl, hb, hI, HA, hB2⟩))
  rename_i hHeld; clear hHeld
  have hB3 : Below w.heap.size w w2 := hB.drew.trans (hB2.mono hB.size)
  have hD2 := Blk.below (Blk.drew hD) hB2 hbd
  have hbb : w.heap.size < b := Nat.lt_of_lt_of_le hbd hb
  have hsz : a.size = t1.size := by rw [← size_len, HA.out, M.ahead_length, size_len]
  clear d1 d2 hD hB hB2 hb
  have d1 : w2.cell? ⟨w.heap.size, 1, none⟩ = some (.string t1) := Blk.cell? hD2 1
  have d0 : w2.cell? ⟨w.heap.size, 0, none⟩ = some (.pointer none) := Blk.cell? hD2 0
  have f0 := Blk.frozen hD2 0
  have hq : ((a.size : Int) != (t1.size : Int)) = false := by rw [hsz]; simp
  have HSZ : Hid _ := hsz
  clear hsz
  go_wp2_with fail
  refine (len_any a b R _ _ hI).mono ?_
  rintro e w3 ⟨rfl, rfl⟩
  go_wp2_with fail
  have hD3 := Blk.set hD2 0 (.pointer (some ⟨b, 0, none⟩))
  have hI3 : Idx (w3.setCell ⟨w.heap.size, 0, none⟩ (.pointer (some ⟨b, 0, none⟩))) b R (M.row t1.data.toList 0) a := Blk.other hI (by simp; omega) _
  have hB4 := hB3.setCell (p := ⟨w.heap.size, 0, none⟩) (Nat.le_refl _) (.pointer (some ⟨b, 0, none⟩))
  clear d0 d1 f0 hD2 hI hB3 hq
  generalize w3.setCell ⟨w.heap.size, 0, none⟩ (.pointer (some ⟨b, 0, none⟩)) = wB at hD3 hI3 hB4 ⊢
  have hal : a.size = t1.size := HSZ.out
  have hrow : M.row t1.data.toList 0 ≤ a.size := by
    have := M.row_le t1.data.toList 0 (Nat.zero_le _)
    rw [size_len] at this
    omega
  have HFA := hid (find_any b R (M.row t1.data.toList 0) a pat wB hI3 (by omega) hrow hpm)
  cases hsr : Q.search (L a) (M.row t1.data.toList 0) (L pat) 524288 true with
  | ok l =>
    rw [hsr] at HFA
    have HFA2 : Hid (Calls Try.prog 44 #[.pointer (some ⟨b, 0, none⟩), .string pat] wB fun e w' => (∃ b, e = .returned (.tuple #[.slice (some ⟨b, 0, none⟩) l.length l.length, .int .i64 0]) ∧ wB.heap.size ≤ b ∧ Nums .i64 w' b (natI l)) ∧ Below wB.heap.size wB w') := HFA.out
    clear HFA
    have HSR := hid hsr
    refine HFA2.out.mono ?_
    rintro e w4 ⟨⟨bl, rfl, _, _⟩, hB5⟩
    have hD4 := Blk.below hD3 hB5 (Blk.lt hD3)
    have hI4 : Idx w4 b R (M.row t1.data.toList 0) a := Blk.below hI3 hB5 (Blk.lt hI3)
    have hB6 := hB4.trans (hB5.mono hB4.size)
    have d3 : w4.cell? ⟨w.heap.size, 3, none⟩ = some (.string ⟨#[]⟩) := Blk.cell? hD4 3
    have d4 : w4.cell? ⟨w.heap.size, 4, none⟩ = some (.bool false) := Blk.cell? hD4 4
    have f3 := Blk.frozen hD4 3
    have f4 := Blk.frozen hD4 4
    clear hD3 hI3 hB4 hB5 hsr
    go_wp2
    go_ret
    exact ⟨w.heap.size, b, R, t1, pat, a, true, rfl, hR1, hR2, ht1, Blk.set (Blk.set hD4 3 _) 4 _, Blk.other (Blk.other hI4 (by simp; omega) _) (by simp; omega) _, HA.out, Nat.le_refl _, by omega, (hB6.setCell (Nat.le_refl _) _).setCell (Nat.le_refl _) _, HT1, .inl ⟨rfl, rfl, l, HSR.out⟩⟩
  | error ea =>
    obtain ⟨E, At⟩ := ea
    rw [hsr] at HFA
    have HFA2 : Hid (Calls Try.prog 44 #[.pointer (some ⟨b, 0, none⟩), .string pat] wB fun e w' => e = .returned (.tuple #[.slice none 0 0, .int .i64 (E : Int)]) ∧ Below wB.heap.size wB w') := HFA.out
    clear HFA
    have hE0 : E ≠ 0 := Q.search_err hsr
    have hEq : ((E : Int) == 0) = false := by simp; omega
    have HSR := hid hsr
    refine HFA2.out.mono ?_
    rintro e w4 ⟨rfl, hB5⟩
    have hD4 := Blk.below hD3 hB5 (Blk.lt hD3)
    have hI4 : Idx w4 b R (M.row t1.data.toList 0) a := Blk.below hI3 hB5 (Blk.lt hI3)
    have hB6 := hB4.trans (hB5.mono hB4.size)
    clear hD3 hI3 hB4 hB5 hsr
    go_wp2
    go_ret
    exact ⟨w.heap.size, b, R, t1, ⟨#[]⟩, a, false, rfl, hR1, hR2, ht1, hD4, hI4, HA.out, Nat.le_refl _, by omega, hB6, HT1, .inr ⟨rfl, _, HSR.out⟩⟩
end Go.Proofs.Ytjmkkkfloalliaa

namespace Go.Proofs.Ytjmkkkfloalliaa
set_option linter.unusedVariables false
open Go.RowKit

/-- an index of a text: what the calls need of it -/
structure IdxOf (w : World) (b rate : Nat) (t : List UInt8) (a : ByteArray) : Prop where
  idx : Idx w b rate (M.row t 0) a
  ah : a.data.toList = M.ahead t
  len : t.length ≤ 200
  r1 : 1 ≤ rate
  r2 : rate ≤ 32

theorem IdxOf.size {w : World} {b rate : Nat} {t : List UInt8} {a : ByteArray} (h : IdxOf w b rate t a) : a.size = t.length := by
  rw [← size_len, h.ah, M.ahead_length]
theorem IdxOf.below {B : Nat} {w w' : World} {b rate : Nat} {t : List UInt8} {a : ByteArray} (h : IdxOf w b rate t a) (hb : Below B w w') (hB : b < B) : IdxOf w' b rate t a :=
  ⟨Blk.below h.idx hb hB, h.ah, h.len, h.r1, h.r2⟩
theorem IdxOf.lt {w : World} {b rate : Nat} {t : List UInt8} {a : ByteArray} (h : IdxOf w b rate t a) : b < w.heap.size := Blk.lt h.idx
theorem IdxOf.row {w : World} {b rate : Nat} {t : List UInt8} {a : ByteArray} (h : IdxOf w b rate t a) : M.row t 0 ≤ a.size := by rw [h.size]; exact row0_le t

theorem save_of {w : World} {b rate : Nat} {t : List UInt8} {a : ByteArray} (h : IdxOf w b rate t a) :
    Calls Try.prog 39 #[.pointer (some ⟨b, 0, none⟩)] w fun e w' => ∃ s : ByteArray, e = .returned (.string s) ∧ Hid (LoadOk s.data.toList t rate) ∧ s.size ≤ 700 ∧ 0 < s.size ∧ Below w.heap.size w w' := by
  have hs := h.size
  have hl := h.len
  refine (save_any a b rate (M.row t 0) w (by omega) h.row h.r1 (by have := h.r2; omega) h.idx).mono ?_
  rintro e w' ⟨s, rfl, hsv, hb⟩
  have hok : LoadOk s.data.toList t rate := ⟨h.len, h.r1, h.r2, by rw [hsv.out, h.ah]⟩
  have hlen := hok.fields.2.2.2.2
  rw [size_len] at hlen
  have : t.length / rate ≤ t.length := Nat.div_le_self _ _
  exact ⟨s, rfl, hok, by omega, by omega, hb⟩

theorem extract_of {w : World} {b rate : Nat} {t : List UInt8} {a : ByteArray} (h : IdxOf w b rate t a) (i j : Nat) (hij : i ≤ j) (hj : j ≤ t.length) :
    Calls Try.prog 38 #[.pointer (some ⟨b, 0, none⟩), .int .i64 i, .int .i64 j] w fun e w' => ∃ s : ByteArray, e = .returned (.tuple #[.string s, .int .i64 0]) ∧ Hid (s.data.toList = (t.drop i).take (j - i)) ∧ Below w.heap.size w w' := by
  have hs := h.size
  have hl := h.len
  refine (extract_yes a b rate (M.row t 0) i j w (by omega) h.row h.idx hij (by omega)).mono ?_
  rintro e w' ⟨s, rfl, hsv, hb⟩
  refine ⟨s, rfl, ?_, hb⟩
  show _ = _
  rw [hsv.out, h.ah, M.textOf_ahead]

theorem build_of (t : ByteArray) (rate : Nat) (w : World) (h0 : t.size ≤ 200) (h1 : 1 ≤ rate) (h2 : rate ≤ 32) :
    Calls Try.prog 32 #[.string t, .int .i64 rate] w fun e w' => ∃ b a, e = .returned (.tuple #[.pointer (some ⟨b, 0, none⟩), .int .i64 0]) ∧ w.heap.size ≤ b ∧ IdxOf w' b rate t.data.toList a ∧ Below w.heap.size w w' := by
  refine (build_yes t rate w h0 h1 h2).mono ?_
  rintro e w' ⟨b, a, rfl, hb, hI, HA, hB⟩
  exact ⟨b, a, rfl, hb, ⟨hI, HA.out, by rw [size_len]; exact h0, h1, h2⟩, hB⟩

theorem len_of {w : World} {b rate : Nat} {t : List UInt8} {a : ByteArray} (h : IdxOf w b rate t a) :
    Calls Try.prog 43 #[.pointer (some ⟨b, 0, none⟩)] w fun e w' => e = .returned (.int .i64 t.length) ∧ w' = w := by
  have := len_any a b rate (M.row t 0) w h.idx
  rw [h.size] at this
  exact this

theorem rate_of {w : World} {b rate : Nat} {t : List UInt8} {a : ByteArray} (h : IdxOf w b rate t a) :
    Calls Try.prog 50 #[.pointer (some ⟨b, 0, none⟩)] w fun e w' => e = .returned (.int .i64 rate) ∧ w' = w := rate_any a b rate (M.row t 0) w h.idx

theorem load_of (s : ByteArray) (w : World) (t : List UInt8) (rate : Nat) (hs : s.size ≤ maxLen) (h : LoadOk s.data.toList t rate) :
    Calls Try.prog 30 #[.string s] w fun e w' => ∃ b a, e = .returned (.tuple #[.pointer (some ⟨b, 0, none⟩), .int .i64 0]) ∧ w.heap.size ≤ b ∧ IdxOf w' b rate t a ∧ Below w.heap.size w w' := by
  refine (load_any s w hs).mono ?_
  rintro e w' ⟨hB, h1 | h1⟩
  · exact absurd ⟨t, rate, h⟩ h1.2
  · obtain ⟨t', rate', b, a, hok, he, hb, hI, ha⟩ := h1
    obtain ⟨rfl, rfl⟩ := h.uniq hok
    exact ⟨b, a, he, hb, ⟨hI, ha, h.1, h.2.1, h.2.2.1⟩, hB⟩
end Go.Proofs.Ytjmkkkfloalliaa

namespace Go.Proofs.Ytjmkkkfloalliaa
set_option linter.unusedVariables false
open Go.RowKit

/-- a slice that holds the numbers l -/
def SlI (w : World) (v : Value) (l : List Nat) : Prop :=
  (l = [] ∧ ∃ p cap, v = .slice p 0 cap) ∨ (l ≠ [] ∧ ∃ b cap, v = .slice (some ⟨b, 0, none⟩) l.length cap ∧ b < w.heap.size ∧ ∀ i, i < l.length → w.cell? ⟨b, i, none⟩ = some (.int .i64 ((l.getD i 0 : Nat) : Int)))
theorem SlI.nil (w : World) : SlI w (.slice none 0 0) [] := .inl ⟨rfl, _, _, rfl⟩
theorem SlI.nums {w : World} {b : Nat} {l : List Nat} (h : Nums .i64 w b (natI l)) : SlI w (.slice (some ⟨b, 0, none⟩) l.length l.length) l := by
  cases l with
  | nil => exact .inl ⟨rfl, _, _, rfl⟩
  | cons x y =>
    refine .inr ⟨by simp, b, _, rfl, Blk.lt h, fun i hi => ?_⟩
    rw [h.cell i (by rw [natI_len]; exact hi), natI_at]
theorem SlI.below {B : Nat} {w w' : World} {v : Value} {l : List Nat} (h : SlI w v l) (hB : Below B w w') (hz : w.heap.size ≤ B) : SlI w' v l := by
  rcases h with h | ⟨h, b, cap, e, hb, hc⟩
  · exact .inl h
  · refine .inr ⟨h, b, cap, e, Nat.lt_of_lt_of_le hb hB.size, fun i hi => (hB.cell (show b < B by omega)).trans (hc i hi)⟩
/-- its parts -/
theorem SlI.form {w : World} {v : Value} {l : List Nat} (h : SlI w v l) : ∃ p cap, v = .slice p l.length cap := by
  rcases h with ⟨rfl, p, cap, e⟩ | ⟨_, b, cap, e, _⟩
  · exact ⟨p, cap, e⟩
  · exact ⟨_, cap, e⟩
theorem SlI.at_ {w : World} {v : Value} {l : List Nat} (h : SlI w v l) (hl : 0 < l.length) : ∃ b cap, v = .slice (some ⟨b, 0, none⟩) l.length cap ∧ ∀ i, i < l.length → w.cell? ⟨b, i, none⟩ = some (.int .i64 ((l.getD i 0 : Nat) : Int)) := by
  rcases h with ⟨rfl, _⟩ | ⟨_, b, cap, e, _, g⟩
  · simp at hl
  · exact ⟨b, cap, e, g⟩
theorem ne_at {l m : List Nat} (h : l.length = m.length) (hn : l ≠ m) : ∃ i, i < l.length ∧ l.getD i 0 ≠ m.getD i 0 := by
  refine Classical.byContradiction fun h2 => hn (List.ext_getElem h fun i h3 h4 => ?_)
  refine Classical.byContradiction fun h5 => h2 ⟨i, h3, ?_⟩
  simpa [List.getD_eq_getElem?_getD, List.getElem?_eq_getElem h3, List.getElem?_eq_getElem h4] using h5
theorem decide_cast (a b : Nat) : ((a : Int) != (b : Int)) = !decide (a = b) := by
  by_cases h : a = b
  · subst h; simp
  · have : ((a : Int) != (b : Int)) = true := by simp; omega
    rw [this]; simp [h]

set_option maxRecDepth 100000 in
set_option maxHeartbeats 800000 in
theorem same_any (va vb : Value) (l m : List Nat) (w : World) (hl : SlI w va l) (hm : SlI w vb m) (h0 : l.length ≤ 1000) (h1 : m.length ≤ 1000) :
    Calls Try.prog 46 #[va, vb] w fun e w' => e = .returned (.bool (decide (l = m))) ∧ Below w.heap.size w w' := by
  by_cases hlen : l.length = m.length
  · by_cases hz : l.length = 0
    · obtain ⟨p, cap, rfl⟩ := hl.form
      obtain ⟨q, cap2, rfl⟩ := hm.form
      have hz2 : m.length = 0 := by omega
      obtain rfl := List.length_eq_zero_iff.1 hz
      obtain rfl := List.length_eq_zero_iff.1 hz2
      go_enter Try.func46, Try.ntmps46
      go_wp2
      go_loopw [5] (fun i wr => i = .int .i64 0 ∧ wr = w) (fun i _ => 0)
      case atStart => exact ⟨rfl, rfl⟩
      case round =>
        obtain ⟨rfl, rfl⟩ := hrel
        go_wp2
        go_ret
        exact ⟨rfl, Below.refl _ _⟩
    · obtain ⟨ba, cap, rfl, ca⟩ := hl.at_ (by omega)
      obtain ⟨bb, cap2, rfl, cb⟩ := hm.at_ (by omega)
      rw [hlen] at ca h0 ⊢
      have HCA := hid ca
      have HCB := hid cb
      have HNE : Hid (l ≠ m → ∃ i, i < l.length ∧ l.getD i 0 ≠ m.getD i 0) := fun h => ne_at hlen h
      have HLN := hid hlen
      obtain ⟨n, hn⟩ : ∃ n, n = m.length := ⟨_, rfl⟩
      rw [← hn] at HCA HCB h0 ⊢
      have HN := hid hn
      clear ca cb hl hm hz hlen hn h1
      go_enter Try.func46, Try.ntmps46
      go_wp2
      go_loopw [5] (fun i wr => ∃ k : Nat, k ≤ n ∧ i = .int .i64 k ∧ Hid (∀ j, j < k → l.getD j 0 = m.getD j 0) ∧ ∃ q, wr = w.drewN q) (fun i _ => n - (intOf i).toNat)
      case atStart => exact ⟨0, by omega, rfl, fun j hj => absurd hj (by omega), 0, rfl⟩
      case round =>
        obtain ⟨k, hk, rfl, HK, q, rfl⟩ := hrel
        rcases Nat.lt_or_ge k n with hlt | hge
        · have c1 : w.cell? ⟨ba, k, none⟩ = some (.int .i64 ((l.getD k 0 : Nat) : Int)) := HCA.out k hlt
          have c2 : w.cell? ⟨bb, k, none⟩ = some (.int .i64 ((m.getD k 0 : Nat) : Int)) := HCB.out k hlt
          have i0 : (0 : Int) ≤ (k : Int) := by omega
          have i1 : (k : Int) < (n : Int) := by omega
          by_cases he : l.getD k 0 = m.getD k 0
          · have HE : Hid (l.getD k 0 = m.getD k 0) := he
            have hq : (((l.getD k 0 : Nat) : Int) != ((m.getD k 0 : Nat) : Int)) = false := by rw [he]; simp
            clear he
            generalize ((l.getD k 0 : Nat) : Int) = x at *
            generalize ((m.getD k 0 : Nat) : Int) = y at *
            go_wp2
            go_quiet (fail)
            go_wp2
            go_roundw
            case rel =>
              refine ⟨k + 1, by omega, by go_num, fun j hj => ?_, _, rfl⟩
              rcases Nat.lt_or_ge j k with g | g
              · exact HK.out j g
              · have : j = k := by omega
                subst this
                exact HE.out
            case measure => simp [intOf]; omega
          · have HE : Hid (l ≠ m) := fun e => he (by rw [e])
            have hq : (((l.getD k 0 : Nat) : Int) != ((m.getD k 0 : Nat) : Int)) = true := by rw [decide_cast, decide_eq_false he]; rfl
            clear he
            generalize ((l.getD k 0 : Nat) : Int) = x at *
            generalize ((m.getD k 0 : Nat) : Int) = y at *
            go_wp2
            go_quiet (fail)
            go_wp2
            go_ret
            exact ⟨ret_b (by simp [HE.out]), below_drewN (below_drewN (Below.refl _ _) _) _⟩
        · have hkn : k = n := by omega
          subst hkn
          go_wp2
          go_ret
          refine ⟨ret_b (Eq.symm (decide_eq_true (Classical.byContradiction fun h => ?_))), below_drewN (Below.refl _ _) _⟩
          obtain ⟨i, a, b⟩ := HNE.out h
          rw [HLN.out] at a
          exact b (HK.out i (by rw [HN.out]; exact a))
  · obtain ⟨p, cap, rfl⟩ := hl.form
    obtain ⟨q, cap2, rfl⟩ := hm.form
    have hne : l ≠ m := fun e => hlen (by rw [e])
    have hq : ((l.length : Int) != (m.length : Int)) = true := by simp; omega
    have HNE : Hid (l ≠ m) := hne
    clear hl hm hne hlen
    go_enter Try.func46, Try.ntmps46
    go_wp2
    go_ret
    exact ⟨ret_b (by simp [HNE.out]), Below.refl _ _⟩
theorem SlI.set {w : World} {g n m : Nat} {l : List Nat} (h : SlI w (.slice (some ⟨g, 0, none⟩) n m) l) {p : Addr} (hne : p.block ≠ g) (x : Value) : SlI (w.setCell p x) (.slice (some ⟨g, 0, none⟩) n m) l := by
  rcases h with h | ⟨h, b, cap, e, hb, hc⟩
  · exact .inl h
  · cases e
    refine .inr ⟨h, g, m, rfl, by simpa [World.setCell] using hb, fun i hi => ?_⟩
    rw [World.cell?_of_block (w := w) (Below.heap_setCell w p x g (fun e => hne e.symm))]
    exact hc i hi
theorem same_yes (va vb : Value) (l : List Nat) (w : World) (hl : SlI w va l) (hm : SlI w vb l) (h0 : l.length ≤ 1000) :
    Calls Try.prog 46 #[va, vb] w fun e w' => e = .returned (.bool true) ∧ Below w.heap.size w w' := by
  have := same_any va vb l l w hl hm h0 h0
  simpa using this
end Go.Proofs.Ytjmkkkfloalliaa

namespace Go.Proofs.Ytjmkkkfloalliaa
set_option linter.unusedVariables false

namespace Q
/-- does P take u, which is not empty? -/
def acc (P : Pat) (u : List UInt8) : Bool := pl P u &&& P.begins != 0
/-- where texts that P takes begin -/
def hit (t : List UInt8) (P : Pat) (p : Nat) : Bool := (List.range (t.length + 1)).any fun l => acc P ((t.drop p).take l)
def hits (t : List UInt8) (P : Pat) : List Nat := (List.range (t.length + 1)).filter (hit t P)
theorem hit_iff (t : List UInt8) (P : Pat) (p : Nat) : hit t P p = true ↔ ∃ u, M.pre u (t.drop p) = true ∧ acc P u = true := by
  unfold hit
  rw [List.any_eq_true]
  constructor
  · rintro ⟨l, _, h⟩
    exact ⟨_, (M.pre_iff _ _).2 ⟨(t.drop p).drop l, (List.take_append_drop l _).symm⟩, h⟩
  · rintro ⟨u, h, g⟩
    obtain ⟨y, e⟩ := (M.pre_iff _ _).1 h
    refine ⟨u.length, List.mem_range.2 ?_, ?_⟩
    · have := congrArg List.length e
      simp at this
      omega
    · rw [e, List.take_left]; exact g
theorem mark_iff (P : Pat) (l : List St) (r : Nat) : ∀ k, mark P l k r = true ↔ ∃ j, j < k ∧ ((stAt l j).places &&& P.begins) ≠ 0 ∧ (stAt l j).low ≤ r ∧ r < (stAt l j).high
  | 0 => by simp [mark]
  | k + 1 => by
    simp only [mark, Bool.or_eq_true, Bool.and_eq_true, decide_eq_true_eq, bne_iff_ne, mark_iff P l r k]
    constructor
    · rintro (⟨j, a, b⟩ | ⟨b, d⟩)
      · exact ⟨j, by omega, b⟩
      · exact ⟨k, by omega, b, d⟩
    · rintro ⟨j, a, b⟩
      rcases Nat.lt_or_ge j k with g | g
      · exact .inl ⟨j, g, b⟩
      · have : j = k := by omega
        subst this
        exact .inr b
theorem mark_hit (t : List UInt8) (P : Pat) (memo : Bool) (p : Nat) (hp : p ≤ t.length) : mark P (full t P memo).list (full t P memo).list.length (M.row t p) = hit t P p := by
  obtain ⟨f, h⟩ := full_inv (t := t) (P := P) (memo := memo)
  rw [Bool.eq_iff_iff, mark_iff, hit_iff]
  constructor
  · rintro ⟨j, a, b, d⟩
    obtain ⟨g, _⟩ := h.st j a
    refine ⟨f j, (M.in_rows t _ p hp).1 ?_, ?_⟩
    · rw [← g.2.1, ← g.1]; exact d
    · unfold acc
      rw [← g.2.2]
      simpa using b
  · rintro ⟨u, a, b⟩
    have hb : (pl P u &&& P.begins) ≠ 0 := by simpa [acc] using b
    have hl : Live t P u := ⟨M.num_pos hp a, fun e => hb (by rw [e]; simp)⟩
    obtain ⟨j, j1, j2⟩ := h.all (by unfold steps; exact Nat.le_refl _) u hl
    refine ⟨j, j1, by rw [j2.2.2]; exact hb, ?_⟩
    rw [j2.1, j2.2.1]
    exact (M.in_rows t u p hp).2 a
theorem row_perm (t : List UInt8) : ((List.range (t.length + 1)).map (M.row t)).Perm (List.range (t.length + 1)) := by
  refine M.perm_of _ _ ?_ ?_ (by simp)
  · rw [List.nodup_iff_pairwise_ne, List.pairwise_map]
    have := List.nodup_range (n := t.length + 1)
    rw [List.nodup_iff_pairwise_ne] at this
    exact this.imp_of_mem (fun {a b} ha hb hne e => hne (M.row_inj t a b (by have := List.mem_range.1 ha; omega) (by have := List.mem_range.1 hb; omega) e))
  · intro x hx
    obtain ⟨p, hp, rfl⟩ := List.mem_map.1 hx
    have := M.row_le t p (by have := List.mem_range.1 hp; omega)
    exact List.mem_range.2 (by omega)
theorem found_hits (t : List UInt8) (P : Pat) (memo : Bool) : found P (M.ahead t) (M.row t 0) (full t P memo) = hits t P := by
  have hal := M.ahead_length t
  have hmk : ∀ r, r ≤ t.length → (marks P (full t P memo).list t.length (full t P memo).list.length).getD r false = mark P (full t P memo).list (full t P memo).list.length r := fun r hr => by
    unfold marks
    rw [List.getD_eq_getElem?_getD, List.getElem?_map, List.getElem?_range (by omega)]
    rfl
  have hrw : ∀ p, p ≤ t.length → (M.rowsOf (M.ahead t) (M.row t 0)).getD p 0 = M.row t p := fun p hp => by
    rw [M.rowsOf_ahead, List.getD_eq_getElem?_getD, List.getElem?_map, List.getElem?_range (by omega)]
    rfl
  have hpl : placed (marks P (full t P memo).list t.length (full t P memo).list.length) (M.rowsOf (M.ahead t) (M.row t 0)) (t.length + 1) = hits t P := by
    unfold placed hits
    refine List.filter_congr (fun p hp => ?_)
    have hp' : p ≤ t.length := by have := List.mem_range.1 hp; omega
    rw [hrw p hp', hmk _ (M.row_le t p hp'), mark_hit t P memo p hp']
  have hc : cntT (marks P (full t P memo).list t.length (full t P memo).list.length) (t.length + 1) = (hits t P).length := by
    unfold cntT hits
    rw [List.take_of_length_le (by simp [marks]), ← List.countP_eq_length_filter]
    unfold marks
    rw [List.countP_map, ← (row_perm t).countP_eq, List.countP_map]
    refine M.countP_congr_of _ _ _ (fun p hp => ?_)
    exact mark_hit t P memo p (by have := List.mem_range.1 hp; omega)
  unfold found laidTo
  rw [hal, hpl, hc, List.take_length, Nat.sub_self]
  simp
/-- Search, of the index of t -/
theorem search_eq (t pat : List UInt8) (budget : Nat) (memo : Bool) (hb : budget ≤ 1048576) : search (M.ahead t) (M.row t 0) pat budget memo =
    match parse pat with
    | .error e => .error e
    | .ok P => if steps t P memo ≤ budget then .ok (hits t P) else .error (6, 0) := by
  unfold search
  rw [if_neg (by omega)]
  cases parse pat with
  | error e => rfl
  | ok P =>
    simp only [Int.toNat_natCast]
    by_cases h : steps t P memo ≤ budget
    · rw [runAll_yes h, if_pos h, found_hits, if_pos (show (full t P memo).list.length ≤ budget from h)]
    · rw [if_neg h, if_neg]
      have := runAll_no (t := t) (P := P) (memo := memo) (b := budget) (by omega)
      omega
theorem most_le {n : Nat} (h : n ≤ 200) : most n ≤ 20101 := by
  unfold most
  have : n * (n + 1) ≤ 200 * 201 := Nat.mul_le_mul h (by omega)
  omega
/-- with steps enough -/
theorem search_enough (t pat : List UInt8) (budget : Nat) (memo : Bool) (h : t.length ≤ 200) (h1 : most t.length ≤ budget) (hb : budget ≤ 1048576) : search (M.ahead t) (M.row t 0) pat budget memo =
    match parse pat with
    | .error e => .error e
    | .ok P => .ok (hits t P) := by
  rw [search_eq t pat budget memo hb]
  cases parse pat with
  | error e => rfl
  | ok P => exact if_pos (Nat.le_trans steps_le h1)
end Q
end Go.Proofs.Ytjmkkkfloalliaa

namespace Go.Proofs.Ytjmkkkfloalliaa
set_option linter.unusedVariables false
open Go.RowKit

theorem Q.hits_len (t : List UInt8) (P : Q.Pat) (h : t.length ≤ 200) : (Q.hits t P).length ≤ 1000 := by
  unfold Q.hits
  refine Nat.le_trans (List.length_filter_le _ _) ?_
  simp
  omega
theorem L_def (a : ByteArray) : L a = a.data.toList := rfl
/-- what Search answers, with steps enough -/
theorem search_ok {w : World} {b rate : Nat} {t : List UInt8} {a : ByteArray} (h : IdxOf w b rate t a) (pat : ByteArray) (budget : Nat) (memo : Bool) (hp : pat.size ≤ maxLen) (P : Q.Pat) (hP : Q.parse (L pat) = .ok P) (hb : Q.steps t P memo ≤ budget) (hb2 : budget ≤ 1048576) :
    Calls Try.prog 33 #[.pointer (some ⟨b, 0, none⟩), .string pat, .int .i64 (budget : Int), .bool memo] w fun e w' => ∃ g, e = .returned (.tuple #[.slice (some ⟨g, 0, none⟩) (Q.hits t P).length (Q.hits t P).length, .agg #[.int .i64 0, .int .i64 0]]) ∧ w.heap.size ≤ g ∧ SlI w' (.slice (some ⟨g, 0, none⟩) (Q.hits t P).length (Q.hits t P).length) (Q.hits t P) ∧ Below w.heap.size w w' := by
  have hs := h.size
  have hl := h.len
  refine (Search_any b rate (M.row t 0) a pat budget memo w h.idx (by omega) h.row hp).mono ?_
  rintro e w' ⟨he, hB⟩
  rw [L_def a, h.ah, Q.search_eq t (L pat) budget memo hb2, hP] at he
  simp only [if_pos hb] at he
  obtain ⟨g, e1, e2, e3⟩ := he
  exact ⟨g, e1, e2, SlI.nums e3, hB⟩
theorem search_no {w : World} {b rate : Nat} {t : List UInt8} {a : ByteArray} (h : IdxOf w b rate t a) (pat : ByteArray) (budget : Nat) (memo : Bool) (hp : pat.size ≤ maxLen) (P : Q.Pat) (hP : Q.parse (L pat) = .ok P) (hb : budget < Q.steps t P memo) (hb2 : budget ≤ 1048576) :
    Calls Try.prog 33 #[.pointer (some ⟨b, 0, none⟩), .string pat, .int .i64 (budget : Int), .bool memo] w fun e w' => e = .returned (.tuple #[.slice none 0 0, .agg #[.int .i64 6, .int .i64 0]]) ∧ Below w.heap.size w w' := by
  have hs := h.size
  have hl := h.len
  refine (Search_any b rate (M.row t 0) a pat budget memo w h.idx (by omega) h.row hp).mono ?_
  rintro e w' ⟨he, hB⟩
  rw [L_def a, h.ah, Q.search_eq t (L pat) budget memo hb2, hP] at he
  simp only [if_neg (Nat.not_le.2 hb)] at he
  exact ⟨he, hB⟩
theorem search_err {w : World} {b rate : Nat} {t : List UInt8} {a : ByteArray} (h : IdxOf w b rate t a) (pat : ByteArray) (budget : Nat) (memo : Bool) (hp : pat.size ≤ maxLen) (E At : Nat) (hP : Q.parse (L pat) = .error (E, At)) (hb2 : budget ≤ 1048576) :
    Calls Try.prog 33 #[.pointer (some ⟨b, 0, none⟩), .string pat, .int .i64 (budget : Int), .bool memo] w fun e w' => e = .returned (.tuple #[.slice none 0 0, .agg #[.int .i64 (E : Int), .int .i64 (At : Int)]]) ∧ Below w.heap.size w w' := by
  have hs := h.size
  have hl := h.len
  refine (Search_any b rate (M.row t 0) a pat budget memo w h.idx (by omega) h.row hp).mono ?_
  rintro e w' ⟨he, hB⟩
  rw [L_def a, h.ah, Q.search_eq t (L pat) budget memo hb2, hP] at he
  exact ⟨he, hB⟩
theorem Q.enough_le {t : List UInt8} {P : Q.Pat} {memo : Bool} (h : t.length ≤ 200) : Q.steps t P memo ≤ 524288 :=
  Nat.le_trans Q.steps_le (Nat.le_trans (Q.most_le h) (by decide))
/-- find -/
theorem find_ok {w : World} {b rate : Nat} {t : List UInt8} {a : ByteArray} (h : IdxOf w b rate t a) (pat : ByteArray) (hp : pat.size ≤ maxLen) (P : Q.Pat) (hP : Q.parse (L pat) = .ok P) :
    Calls Try.prog 44 #[.pointer (some ⟨b, 0, none⟩), .string pat] w fun e w' => ∃ g, e = .returned (.tuple #[.slice (some ⟨g, 0, none⟩) (Q.hits t P).length (Q.hits t P).length, .int .i64 0]) ∧ w.heap.size ≤ g ∧ SlI w' (.slice (some ⟨g, 0, none⟩) (Q.hits t P).length (Q.hits t P).length) (Q.hits t P) ∧ Below w.heap.size w w' := by
  have hs := h.size
  have hl := h.len
  refine (find_any b rate (M.row t 0) a pat w h.idx (by omega) h.row hp).mono ?_
  rintro e w' ⟨he, hB⟩
  rw [L_def a, h.ah, show (524288 : Int) = ((524288 : Nat) : Int) from rfl, Q.search_eq t (L pat) 524288 true (by decide), hP] at he
  simp only [if_pos (Q.enough_le hl)] at he
  obtain ⟨g, e1, e2, e3⟩ := he
  exact ⟨g, e1, e2, SlI.nums e3, hB⟩
theorem find_err {w : World} {b rate : Nat} {t : List UInt8} {a : ByteArray} (h : IdxOf w b rate t a) (pat : ByteArray) (hp : pat.size ≤ maxLen) (E At : Nat) (hP : Q.parse (L pat) = .error (E, At)) :
    Calls Try.prog 44 #[.pointer (some ⟨b, 0, none⟩), .string pat] w fun e w' => e = .returned (.tuple #[.slice none 0 0, .int .i64 (E : Int)]) ∧ Below w.heap.size w w' := by
  have hs := h.size
  have hl := h.len
  refine (find_any b rate (M.row t 0) a pat w h.idx (by omega) h.row hp).mono ?_
  rintro e w' ⟨he, hB⟩
  rw [L_def a, h.ah, show (524288 : Int) = ((524288 : Nat) : Int) from rfl, Q.search_eq t (L pat) 524288 true (by decide), hP] at he
  exact ⟨he, hB⟩
/-- the desk: what it has of its pattern -/
theorem laid_p (t pat : ByteArray) (rate : Int) (w : World) (ht : t.size ≤ maxLen) (hpm : pat.size ≤ maxLen) (r0 : -9223372036854775808 ≤ rate) (r1 : rate ≤ 9223372036854775807) :
    Calls Try.prog 22 #[.string t, .int .i64 rate, .string pat] w fun e w' => ∃ (bd bx r : Nat) (t' pat' a : ByteArray) (hv : Bool), e = .returned (.pointer (some ⟨bd, 0, none⟩)) ∧ t'.size ≤ 200 ∧
      Dsk w' bd bx r t' pat' hv ∧ IdxOf w' bx r t'.data.toList a ∧ w.heap.size ≤ bd ∧ w.heap.size ≤ bx ∧ Below w.heap.size w w' ∧ Hid (t'.data.toList = t.data.toList.take 200) ∧
      Hid (hv = true → pat' = pat ∧ ∃ P, Q.parse (L pat) = .ok P) := by
  refine (laid_any t pat rate w ht hpm r0 r1).mono ?_
  rintro e w' ⟨bd, bx, r, t', pat', a, hv, rfl, h1, h2, h3, hD, hI, ha, g1, g2, hB, k1, k2⟩
  refine ⟨bd, bx, r, t', pat', a, hv, rfl, h3, hD, ⟨hI, ha, by rw [size_len]; exact h3, h1, h2⟩, g1, g2, hB, k1, fun hv1 => ?_⟩
  rcases k2.out with ⟨_, e1, l, e2⟩ | ⟨e1, _⟩
  · refine ⟨e1, ?_⟩
    cases hp : Q.parse (L pat) with
    | ok P => exact ⟨P, rfl⟩
    | error x =>
      rw [L_def a, ha, show (524288 : Int) = ((524288 : Nat) : Int) from rfl, Q.search_eq _ (L pat) 524288 true (by decide), hp] at e2
      cases e2
  · rw [e1] at hv1; cases hv1
end Go.Proofs.Ytjmkkkfloalliaa

namespace Go.Proofs.Ytjmkkkfloalliaa.Q
set_option linter.unusedVariables false

def Even (a : Span) : Prop := a.first.testBit 0 = false ∧ a.last.testBit 0 = false
theorem even_or {x y : Nat} (h : x.testBit 0 = false) (g : y.testBit 0 = false) : (x ||| y).testBit 0 = false := by rw [Nat.testBit_or, h, g]; rfl
theorem join_even {a b : Span} {p : Pat} (ha : Even a) (hb : Even b) : Even (join a b p).1 := by
  refine ⟨?_, ?_⟩
  · simp only [join]
    split
    · exact even_or ha.1 hb.1
    · exact ha.1
  · simp only [join]
    split
    · exact even_or hb.2 ha.2
    · exact hb.2
def EvenAll (rec : Pat → Span × Pat) : Prop := ∀ p, 1 ≤ p.size → Even (rec p).1 ∧ 1 ≤ (rec p).2.size
theorem copies_even {rec : Pat → Span × Pat} (hr : EvenAll rec) (low : Nat) (endless : Bool) (n : Nat) : ∀ (d : Nat) (all : Span) (p : Pat), Even all → 1 ≤ p.size → Even (copies rec low endless n d all p).1 ∧ 1 ≤ (copies rec low endless n d all p).2.size
  | 0, all, p, ha, hp => ⟨ha, hp⟩
  | d + 1, all, p, ha, hp => by
    obtain ⟨h1, h2⟩ := hr p hp
    unfold copies
    simp only
    refine copies_even hr low endless n d _ _ (join_even ha h1) ?_
    simp only [join, link_size]
    split
    · exact h2
    · exact h2
theorem lay_even (ps : List Part) : ∀ f n, EvenAll (lay ps f n)
  | 0, n => fun p hp => ⟨⟨by simp [lay], by simp [lay]⟩, hp⟩
  | f + 1, n => fun p hp => by
    unfold lay
    split
    · exact ⟨⟨Nat.zero_testBit 0, Nat.zero_testBit 0⟩, hp⟩
    · split
      · obtain ⟨a1, a2⟩ := lay_even ps f (at_ ps n).left p hp
        obtain ⟨b1, b2⟩ := lay_even ps f (at_ ps n).right _ a2
        exact ⟨join_even a1 b1, b2⟩
      · split
        · obtain ⟨a1, a2⟩ := lay_even ps f (at_ ps n).left p hp
          obtain ⟨b1, b2⟩ := lay_even ps f (at_ ps n).right _ a2
          exact ⟨⟨even_or a1.1 b1.1, even_or a1.2 b1.2⟩, b2⟩
        · split
          · exact copies_even (lay_even ps f _) _ _ _ _ _ _ ⟨Nat.zero_testBit 0, Nat.zero_testBit 0⟩ hp
          · have hz : (2 ^ p.size).testBit 0 = false := by rw [Nat.testBit_two_pow]; simp; omega
            exact ⟨⟨hz, hz⟩, by show 1 ≤ p.size + 1; omega⟩
theorem parse_even {s : List UInt8} {P : Pat} (h : parse s = .ok P) : acc P [] = false := by
  have key : P.begins.testBit 0 = false := by
    unfold parse at h
    split at h
    · cases h
    · split at h
      · cases h
      · split at h
        · cases h
        · split at h
          · cases h
          · cases h
            exact (lay_even _ _ _ pat0 (Nat.le_refl _)).1.1
  unfold acc
  have e : pl P [] &&& P.begins = 0 := by
    show 1 &&& P.begins = 0
    rw [Nat.and_comm, Nat.and_one_is_mod]
    rw [Nat.testBit_zero] at key
    have : ¬ P.begins % 2 = 1 := by simpa using key
    omega
  rw [e]; rfl
theorem hits_lt {t : List UInt8} {P : Pat} (h : acc P [] = false) : ∀ p, p ∈ hits t P → p < t.length := by
  intro p hp
  obtain ⟨h1, h2⟩ := List.mem_filter.1 hp
  have h1 := List.mem_range.1 h1
  rcases Nat.lt_or_ge p t.length with g | g
  · exact g
  · exfalso
    obtain ⟨u, a, b⟩ := (hit_iff t P p).1 h2
    rw [List.drop_of_length_le g] at a
    obtain ⟨y, e⟩ := (M.pre_iff u []).1 a
    rw [(List.append_eq_nil_iff.1 e.symm).1, h] at b
    cases b
theorem hits_rise (t : List UInt8) (P : Pat) : (hits t P).Pairwise (· < ·) := List.Pairwise.filter _ List.pairwise_lt_range
theorem hits_at {t : List UInt8} {P : Pat} {i : Nat} (hi : i < (hits t P).length) : (hits t P).getD i 0 ∈ hits t P := by
  rw [List.getD_eq_getElem?_getD, List.getElem?_eq_getElem hi]
  exact List.getElem_mem hi
theorem hits_step {t : List UInt8} {P : Pat} {i : Nat} (hi : i + 1 < (hits t P).length) : (hits t P).getD i 0 < (hits t P).getD (i + 1) 0 := by
  rw [List.getD_eq_getElem?_getD, List.getD_eq_getElem?_getD, List.getElem?_eq_getElem hi, List.getElem?_eq_getElem (by omega)]
  exact (List.pairwise_iff_getElem.1 (hits_rise t P)) i (i + 1) _ _ (by omega)
theorem mem_hits {t : List UInt8} {P : Pat} {p : Nat} : p ∈ hits t P ↔ p ≤ t.length ∧ ∃ u, M.pre u (t.drop p) = true ∧ acc P u = true := by
  unfold hits
  rw [List.mem_filter, hit_iff, List.mem_range]
  constructor
  · rintro ⟨a, b⟩; exact ⟨by omega, b⟩
  · rintro ⟨a, b⟩; exact ⟨by omega, b⟩
/-- lists that rise are known by their members -/
theorem rise_ext : ∀ {l m : List Nat}, l.Pairwise (· < ·) → m.Pairwise (· < ·) → (∀ x, x ∈ l ↔ x ∈ m) → l = m
  | [], [], _, _, _ => rfl
  | [], y :: m, _, _, h => absurd ((h y).2 List.mem_cons_self) (by simp)
  | x :: l, [], _, _, h => absurd ((h x).1 List.mem_cons_self) (by simp)
  | x :: l, y :: m, hl, hm, h => by
    have hl' := List.pairwise_cons.1 hl
    have hm' := List.pairwise_cons.1 hm
    have e : x = y := by
      rcases List.mem_cons.1 ((h x).1 List.mem_cons_self) with e | e
      · exact e
      · rcases List.mem_cons.1 ((h y).2 List.mem_cons_self) with e2 | e2
        · exact e2.symm
        · have := hl'.1 y e2
          have := hm'.1 x e
          omega
    subst e
    congr 1
    refine rise_ext hl'.2 hm'.2 (fun z => ⟨fun hz => ?_, fun hz => ?_⟩)
    · rcases List.mem_cons.1 ((h z).1 (List.mem_cons_of_mem _ hz)) with e | e
      · subst e; exact absurd (hl'.1 z hz) (by omega)
      · exact e
    · rcases List.mem_cons.1 ((h z).2 (List.mem_cons_of_mem _ hz)) with e | e
      · subst e; exact absurd (hm'.1 z hz) (by omega)
      · exact e
end Go.Proofs.Ytjmkkkfloalliaa.Q

namespace Go.Proofs.Ytjmkkkfloalliaa.Q
set_option linter.unusedVariables false

abbrev Lang : Type := List UInt8 → Prop
def Cat (A B : Lang) : Lang := fun u => ∃ x y, u = x ++ y ∧ A x ∧ B y
def Pow (A : Lang) : Nat → Lang
  | 0 => fun u => u = []
  | k + 1 => Cat A (Pow A k)
theorem pow_one {A : Lang} {u : List UInt8} : Pow A 1 u ↔ A u := by
  constructor
  · rintro ⟨x, y, rfl, h, g⟩
    have g2 : y = [] := g
    subst g2
    simpa using h
  · intro h
    exact ⟨u, [], by simp, h, rfl⟩
theorem pow_add {A : Lang} : ∀ {a b : Nat} {u : List UInt8}, Pow A (a + b) u ↔ Cat (Pow A a) (Pow A b) u
  | 0, b, u => by
    rw [Nat.zero_add]
    constructor
    · intro h
      exact ⟨[], u, rfl, rfl, h⟩
    · rintro ⟨x, y, rfl, h, g⟩
      have h2 : x = [] := h
      subst h2
      exact g
  | a + 1, b, u => by
    rw [show a + 1 + b = (a + b) + 1 by omega]
    constructor
    · rintro ⟨x, y, rfl, h, g⟩
      obtain ⟨x2, y2, rfl, h2, g2⟩ := pow_add.1 g
      exact ⟨x ++ x2, y2, by simp, ⟨x, x2, rfl, h, h2⟩, g2⟩
    · rintro ⟨x, y, rfl, ⟨x2, y2, rfl, h2, g2⟩, g⟩
      exact ⟨x2, y2 ++ y, by simp, h2, pow_add.2 ⟨y2, y, rfl, g2, g⟩⟩
theorem pow_nil {A : Lang} (h : A []) : ∀ k, Pow A k []
  | 0 => rfl
  | k + 1 => ⟨[], [], rfl, h, pow_nil h k⟩

/-- a path that reads u, from place i to place j -/
def Path (E : Nat → Nat → Prop) (T : Nat → UInt8 → Prop) : List UInt8 → Nat → Nat → Prop
  | [], _, _ => False
  | c :: u, i, j => T i c ∧ ((u = [] ∧ i = j) ∨ ∃ k, E i k ∧ Path E T u k j)
section
variable {E E' : Nat → Nat → Prop} {T T' : Nat → UInt8 → Prop}
theorem path_congr (S : Nat → Prop) (hE : ∀ i, S i → ∀ k, E i k ↔ E' i k) (hT : ∀ i, S i → ∀ c, T i c ↔ T' i c) (hc : ∀ i, S i → ∀ k, E i k → S k) : ∀ u i j, S i → (Path E T u i j ↔ Path E' T' u i j)
  | [], i, j, _ => Iff.rfl
  | c :: u, i, j, hi => by
    unfold Path
    rw [hT i hi c]
    refine and_congr_right fun _ => or_congr Iff.rfl ⟨?_, ?_⟩
    · rintro ⟨k, h, g⟩
      exact ⟨k, (hE i hi k).1 h, (path_congr S hE hT hc u k j (hc i hi k h)).1 g⟩
    · rintro ⟨k, h, g⟩
      have h2 := (hE i hi k).2 h
      exact ⟨k, h2, (path_congr S hE hT hc u k j (hc i hi k h2)).2 g⟩
theorem path_stay (S : Nat → Prop) (hc : ∀ i, S i → ∀ k, E i k → S k) : ∀ u i j, S i → Path E T u i j → S j
  | [], i, j, _, h => h.elim
  | c :: u, i, j, hi, ⟨_, h⟩ => by
    rcases h with ⟨_, e⟩ | ⟨k, h, g⟩
    · rw [← e]; exact hi
    · exact path_stay S hc u k j (hc i hi k h) g
theorem path_link (A B : Nat → Prop) : ∀ u i j, Path (fun i k => E i k ∨ (A i ∧ B k)) T u i j ↔ Path E T u i j ∨ ∃ x y k l, u = x ++ y ∧ Path E T x i k ∧ A k ∧ B l ∧ Path (fun i k => E i k ∨ (A i ∧ B k)) T y l j
  | [], i, j => by
    constructor
    · intro h; exact h.elim
    · rintro (h | ⟨x, y, k, l, h, g, _⟩)
      · exact h.elim
      · have : x = [] := by
          cases x with
          | nil => rfl
          | cons a b => cases h
        subst this
        exact g.elim
  | c :: u, i, j => by
    constructor
    · rintro ⟨h, ⟨e, e2⟩ | ⟨k, h2 | ⟨h2, h3⟩, g⟩⟩
      · exact .inl ⟨h, .inl ⟨e, e2⟩⟩
      · rcases (path_link A B u k j).1 g with g | ⟨x, y, k2, l, rfl, g1, g2⟩
        · exact .inl ⟨h, .inr ⟨k, h2, g⟩⟩
        · exact .inr ⟨c :: x, y, k2, l, rfl, ⟨h, .inr ⟨k, h2, g1⟩⟩, g2⟩
      · exact .inr ⟨[c], u, i, k, rfl, ⟨h, .inl ⟨rfl, rfl⟩⟩, h2, h3, g⟩
    · rintro (⟨h, ⟨e, e2⟩ | ⟨k, h2, g⟩⟩ | ⟨x, y, k, l, e, g, g2⟩)
      · exact ⟨h, .inl ⟨e, e2⟩⟩
      · exact ⟨h, .inr ⟨k, .inl h2, (path_link A B u k j).2 (.inl g)⟩⟩
      · cases x with
        | nil => exact g.elim
        | cons a x =>
          simp only [List.cons_append, List.cons.injEq] at e
          obtain ⟨rfl, rfl⟩ := e
          obtain ⟨h, ⟨e, e2⟩ | ⟨k2, h2, g3⟩⟩ := g
          · subst e; subst e2
            exact ⟨h, .inr ⟨l, .inr ⟨g2.1, g2.2.1⟩, g2.2.2⟩⟩
          · exact ⟨h, .inr ⟨k2, .inl h2, (path_link A B _ k2 j).2 (.inr ⟨x, y, k, l, rfl, g3, g2⟩)⟩⟩
/-- from a place that is come to, on -/
theorem path_swap : ∀ (u w : List UInt8) (j i k : Nat), Path E T u j i → Path E T w i k → ∃ v, Path E T (v ++ w) j k
  | [], _, _, _, _, h, _ => h.elim
  | c :: u, w, j, i, k, ⟨h1, h2⟩, g => by
    rcases h2 with ⟨_, rfl⟩ | ⟨k', h3, h4⟩
    · exact ⟨[], g⟩
    · obtain ⟨v, hv⟩ := path_swap u w k' i k h4 g
      refine ⟨c :: v, h1, .inr ⟨k', h3, hv⟩⟩
theorem path_tail : ∀ (v w : List UInt8) (j k : Nat), w ≠ [] → Path E T (v ++ w) j k → ∃ i, Path E T w i k
  | [], w, j, k, _, h => ⟨j, h⟩
  | c :: v, w, j, k, hw, ⟨h1, h2⟩ => by
    rcases h2 with ⟨e, _⟩ | ⟨k', h3, h4⟩
    · exact absurd (List.append_eq_nil_iff.1 e).2 hw
    · exact path_tail v w k' k hw h4
theorem path_cat (u w : List UInt8) : ∀ (j i l k : Nat), Path E T u j i → E i l → Path E T w l k → Path E T (u ++ w) j k := by
  induction u with
  | nil => intro j i l k h; exact h.elim
  | cons c u ih =>
    rintro j i l k ⟨h1, h2⟩ he g
    rcases h2 with ⟨rfl, rfl⟩ | ⟨k', h3, h4⟩
    · exact ⟨h1, .inr ⟨l, he, g⟩⟩
    · exact ⟨h1, .inr ⟨k', h3, ih k' i l k h4 he g⟩⟩
theorem path_mono (hE : ∀ i k, E i k → E' i k) : ∀ (u : List UInt8) (i j : Nat), Path E T u i j → Path E' T u i j
  | [], _, _, h => h.elim
  | c :: u, i, j, ⟨h1, h2⟩ => by
    rcases h2 with h2 | ⟨k, h3, h4⟩
    · exact ⟨h1, .inl h2⟩
    · exact ⟨h1, .inr ⟨k, hE i k h3, path_mono hE u k j h4⟩⟩
theorem path_ne {u : List UInt8} {i j : Nat} (h : Path E T u i j) : u ≠ [] := by
  cases u with
  | nil => exact h.elim
  | cons c u => exact List.cons_ne_nil _ _
end

/-- k may stand behind i -/
def Ed (q : Pat) (i k : Nat) : Prop := (q.ahead.getD k 0).testBit i = true
def Tk (q : Pat) (i : Nat) (c : UInt8) : Prop := (q.takes.getD c.toNat 0).testBit i = true
def Fresh (q : Pat) : Prop := ∀ k, q.size ≤ k → q.ahead.getD k 0 = 0
/-- q is p with places behind -/
structure Ext (p q : Pat) : Prop where
  size : p.size ≤ q.size
  ah : ∀ k, k < p.size → q.ahead.getD k 0 = p.ahead.getD k 0
  tk : ∀ c i, i < p.size → (q.takes.getD c 0).testBit i = (p.takes.getD c 0).testBit i
  new : ∀ k, p.size ≤ k → ∀ i, Ed q i k → p.size ≤ i
  fresh : Fresh q
/-- the places from lo on, from the first ones to the last, take A -/
structure Frag (lo : Nat) (q : Pat) (a : Span) (A : Lang) : Prop where
  fst : ∀ i, a.first.testBit i = true → lo ≤ i ∧ i < q.size
  lst : ∀ i, a.last.testBit i = true → lo ≤ i ∧ i < q.size
  emp : a.empty = true ↔ A []
  words : ∀ u, u ≠ [] → (A u ↔ ∃ i j, a.first.testBit i = true ∧ a.last.testBit j = true ∧ Path (Ed q) (Tk q) u i j)
theorem bit_lt {x n i : Nat} (h : x < 2 ^ n) (g : x.testBit i = true) : i < n := by
  rcases Nat.lt_or_ge i n with k | k
  · exact k
  · rw [Nat.testBit_lt_two_pow (Nat.lt_of_lt_of_le h (pow_le k))] at g
    cases g
theorem PatOk.ed {p : Pat} (h : PatOk p) {i k : Nat} (g : Ed p i k) : i < p.size := bit_lt (h.a k) g
theorem PatOk.tk {p : Pat} (h : PatOk p) {i : Nat} {c : UInt8} (g : Tk p i c) : i < p.size := bit_lt (h.t _) g
theorem Fresh.ed {p : Pat} (h : Fresh p) {i k : Nat} (g : Ed p i k) : k < p.size := by
  rcases Nat.lt_or_ge k p.size with c | c
  · exact c
  · unfold Ed at g
    rw [h k c, Nat.zero_testBit] at g
    cases g
theorem Ext.refl {p : Pat} (h : Fresh p) : Ext p p := ⟨Nat.le_refl _, fun _ _ => rfl, fun _ _ _ => rfl, fun k hk i g => absurd (h.ed g) (by omega), h⟩
theorem Ext.trans {p q r : Pat} (h : Ext p q) (g : Ext q r) : Ext p r := by
  refine ⟨Nat.le_trans h.size g.size, fun k hk => ?_, fun c i hi => ?_, fun k hk i e => ?_, g.fresh⟩
  · rw [g.ah k (Nat.lt_of_lt_of_le hk h.size), h.ah k hk]
  · rw [g.tk c i (Nat.lt_of_lt_of_le hi h.size), h.tk c i hi]
  · rcases Nat.lt_or_ge k q.size with c | c
    · refine h.new k hk i ?_
      unfold Ed at e ⊢
      rw [g.ah k c] at e
      exact e
    · exact Nat.le_trans h.size (g.new k c i e)
theorem Ext.path {p q : Pat} (h : Ext p q) (hp : Fresh p) (u : List UInt8) (i j : Nat) (hi : i < p.size) : Path (Ed p) (Tk p) u i j ↔ Path (Ed q) (Tk q) u i j := by
  refine path_congr (fun i => i < p.size) (fun i hi k => ?_) (fun i hi c => ?_) (fun i hi k g => hp.ed g) u i j hi
  · constructor
    · intro g
      have := hp.ed g
      unfold Ed at g ⊢
      rw [h.ah k this]; exact g
    · intro g
      rcases Nat.lt_or_ge k p.size with c | c
      · unfold Ed at g ⊢
        rw [h.ah k c] at g; exact g
      · have := h.new k c i g
        omega
  · unfold Tk
    rw [h.tk _ i hi]
theorem Frag.ext {lo : Nat} {p q : Pat} {a : Span} {A : Lang} (h : Frag lo p a A) (g : Ext p q) (hp : Fresh p) : Frag lo q a A := by
  refine ⟨fun i k => ⟨(h.fst i k).1, Nat.lt_of_lt_of_le (h.fst i k).2 g.size⟩, fun i k => ⟨(h.lst i k).1, Nat.lt_of_lt_of_le (h.lst i k).2 g.size⟩, h.emp, fun u hu => ?_⟩
  rw [h.words u hu]
  constructor
  · rintro ⟨i, j, a1, a2, a3⟩
    exact ⟨i, j, a1, a2, (g.path hp u i j (h.fst i a1).2).1 a3⟩
  · rintro ⟨i, j, a1, a2, a3⟩
    exact ⟨i, j, a1, a2, (g.path hp u i j (h.fst i a1).2).2 a3⟩
theorem Frag.iff {lo : Nat} {p : Pat} {a : Span} {A B : Lang} (h : Frag lo p a A) (e : ∀ u, A u ↔ B u) : Frag lo p a B :=
  ⟨h.fst, h.lst, h.emp.trans (e []), fun u hu => (e u).symm.trans (h.words u hu)⟩
theorem Frag.opt {lo : Nat} {p : Pat} {a : Span} {A : Lang} (h : Frag lo p a A) (b : Bool) : Frag lo p { a with empty := b || a.empty } (fun u => A u ∨ (b = true ∧ u = [])) := by
  refine ⟨h.fst, h.lst, ?_, fun u hu => ?_⟩
  · simp only [Bool.or_eq_true, h.emp]
    constructor
    · rintro (e | e)
      · exact .inr ⟨e, trivial⟩
      · exact .inl e
    · rintro (e | ⟨e, _⟩)
      · exact .inr e
      · exact .inl e
  · rw [← h.words u hu]
    constructor
    · rintro (e | ⟨_, e⟩)
      · exact e
      · exact absurd e hu
    · exact .inl
/-- every place is come to -/
def Rch (lo : Nat) (q : Pat) (a : Span) : Prop := ∀ i, lo ≤ i → i < q.size → ∃ u j, a.first.testBit j = true ∧ Path (Ed q) (Tk q) u j i
/-! link -/
theorem link_ed {q : Pat} {x y : Nat} (hq : PatOk q) (hy : ∀ k, y.testBit k = true → k < q.size) (i k : Nat) : Ed (link x y q) i k ↔ (Ed q i k ∨ (x.testBit i = true ∧ y.testBit k = true)) := by
  unfold Ed link linkTo
  simp only
  rw [getD_tab]
  have hs := hq.size
  by_cases hk : k < 49
  · rw [if_pos hk]
    by_cases h : y.testBit k = true
    · rw [if_pos ⟨hy k h, h⟩, Nat.testBit_or, Bool.or_eq_true, h]
      simp
    · rw [if_neg (fun g => h g.2)]
      simp [h]
  · rw [if_neg hk, Nat.zero_testBit]
    have h1 : q.ahead.getD k 0 = 0 := by
      rw [List.getD_eq_getElem?_getD, List.getElem?_eq_none (by rw [hq.alen]; omega)]; rfl
    rw [h1, Nat.zero_testBit]
    constructor
    · intro h; cases h
    · rintro (h | ⟨_, h⟩)
      · cases h
      · have := hy k h; omega
theorem link_tk {q : Pat} {x y : Nat} (i : Nat) (c : UInt8) : Tk (link x y q) i c ↔ Tk q i c := Iff.rfl
theorem link_ext {p q : Pat} {x y : Nat} (h : Ext p q) (hq : PatOk q) (hx : ∀ i, x.testBit i = true → p.size ≤ i) (hy : ∀ k, y.testBit k = true → p.size ≤ k ∧ k < q.size) : Ext p (link x y q) := by
  have key : ∀ k, y.testBit k = false → (link x y q).ahead.getD k 0 = q.ahead.getD k 0 := by
    intro k hk
    unfold link linkTo
    simp only
    rw [getD_tab]
    split
    · rw [if_neg (fun g => by rw [hk] at g; cases g.2)]
    · rw [List.getD_eq_getElem?_getD, List.getElem?_eq_none (by rw [hq.alen]; omega)]; rfl
  have no : ∀ k, ¬ (p.size ≤ k ∧ k < q.size) → y.testBit k = false := by
    intro k hk
    cases e : y.testBit k with
    | false => rfl
    | true => exact absurd (hy k e) hk
  refine ⟨h.size, fun k hk => ?_, h.tk, fun k hk i e => ?_, fun k hk => ?_⟩
  · rw [key k (no k (by omega))]; exact h.ah k hk
  · rcases (link_ed hq (fun k g => (hy k g).2) i k).1 e with e | ⟨e, _⟩
    · exact h.new k hk i e
    · exact hx i e
  · rw [key k (no k (by have : q.size ≤ k := hk; omega))]; exact h.fresh k hk
theorem join_first (a b : Span) (p : Pat) (i : Nat) : (join a b p).1.first.testBit i = true ↔ (a.first.testBit i = true ∨ (a.empty = true ∧ b.first.testBit i = true)) := by
  unfold join
  simp only
  cases a.empty <;> simp [Nat.testBit_or]
theorem join_last (a b : Span) (p : Pat) (i : Nat) : (join a b p).1.last.testBit i = true ↔ (b.last.testBit i = true ∨ (b.empty = true ∧ a.last.testBit i = true)) := by
  unfold join
  simp only
  cases b.empty <;> simp [Nat.testBit_or]

/-- one behind the other -/
theorem frag_join {p q r : Pat} {a b : Span} {A B : Lang} {lo : Nat} (hq : PatOk q) (hr : PatOk r) (fq : Fresh q) (hlo : lo ≤ q.size) (e2 : Ext q r) (ha : Frag lo q a A) (hb : Frag q.size r b B) :
    Frag lo (join a b r).2 (join a b r).1 (Cat A B) := by
  have ha2 := ha.ext e2 fq
  have hed : ∀ i k, Ed (join a b r).2 i k ↔ (Ed r i k ∨ (a.last.testBit i = true ∧ b.first.testBit k = true)) := link_ed hr (fun k g => (hb.fst k g).2)
  have hpath : ∀ u i j, Path (Ed (join a b r).2) (Tk (join a b r).2) u i j ↔ Path (fun i k => Ed r i k ∨ (a.last.testBit i = true ∧ b.first.testBit k = true)) (Tk r) u i j :=
    fun u i j => path_congr (fun _ => True) (fun i _ k => hed i k) (fun i _ c => Iff.rfl) (fun _ _ _ _ => trivial) u i j trivial
  -- from the later places one never comes back
  have up : ∀ i, q.size ≤ i → ∀ k, Ed r i k → q.size ≤ k := by
    intro i hi k g
    rcases Nat.lt_or_ge k q.size with c | c
    · unfold Ed at g
      rw [e2.ah k c] at g
      have := hq.ed (i := i) (k := k) g
      omega
    · exact c
  have down : ∀ i, i < q.size → ∀ k, Ed r i k → k < q.size := by
    intro i hi k g
    rcases Nat.lt_or_ge k q.size with c | c
    · exact c
    · have := e2.new k c i g
      omega
  have late : ∀ u i j, q.size ≤ i → (Path (fun i k => Ed r i k ∨ (a.last.testBit i = true ∧ b.first.testBit k = true)) (Tk r) u i j ↔ Path (Ed r) (Tk r) u i j) := by
    intro u i j hi
    constructor
    · intro h
      rcases (path_link _ _ u i j).1 h with h | ⟨x, y, k, l, _, g, g2, _⟩
      · exact h
      · have := path_stay (fun i => q.size ≤ i) up x i k hi g
        have := (ha.lst k g2).2
        omega
    · intro h
      exact (path_link _ _ u i j).2 (.inl h)
  have hsz : (join a b r).2.size = r.size := rfl
  refine ⟨fun i h => ?_, fun i h => ?_, ?_, fun u hu => ?_⟩
  · rw [hsz]
    rcases (join_first a b r i).1 h with h | ⟨_, h⟩
    · exact ha2.fst i h
    · exact ⟨Nat.le_trans hlo (hb.fst i h).1, (hb.fst i h).2⟩
  · rw [hsz]
    rcases (join_last a b r i).1 h with h | ⟨_, h⟩
    · exact ⟨Nat.le_trans hlo (hb.lst i h).1, (hb.lst i h).2⟩
    · exact ha2.lst i h
  · show (a.empty && b.empty) = true ↔ _
    rw [Bool.and_eq_true, ha.emp, hb.emp]
    constructor
    · rintro ⟨h, g⟩; exact ⟨[], [], rfl, h, g⟩
    · rintro ⟨x, y, e, h, g⟩
      have := List.append_eq_nil_iff.1 e.symm
      rw [this.1] at h
      rw [this.2] at g
      exact ⟨h, g⟩
  · constructor
    · rintro ⟨x, y, rfl, h, g⟩
      by_cases hx : x = []
      · subst hx
        have hy : y ≠ [] := by simpa using hu
        obtain ⟨i, j, g1, g2, g3⟩ := (hb.words y hy).1 g
        exact ⟨i, j, (join_first a b r i).2 (.inr ⟨ha.emp.2 h, g1⟩), (join_last a b r j).2 (.inl g2), (hpath _ _ _).2 ((late _ i j (hb.fst i g1).1).2 g3)⟩
      · obtain ⟨i, j, h1, h2, h3⟩ := (ha2.words x hx).1 h
        by_cases hy : y = []
        · subst hy
          refine ⟨i, j, (join_first a b r i).2 (.inl h1), (join_last a b r j).2 (.inr ⟨hb.emp.2 g, h2⟩), (hpath _ _ _).2 ((path_link _ _ _ i j).2 (.inl ?_))⟩
          simpa using h3
        · obtain ⟨k, l, g1, g2, g3⟩ := (hb.words y hy).1 g
          exact ⟨i, l, (join_first a b r i).2 (.inl h1), (join_last a b r l).2 (.inl g2), (hpath _ _ _).2 ((path_link _ _ _ i l).2 (.inr ⟨x, y, j, k, rfl, h3, h2, g1, (late _ k l (hb.fst k g1).1).2 g3⟩))⟩
    · rintro ⟨i, j, h1, h2, h3⟩
      have h3 := (hpath _ _ _).1 h3
      rcases (join_first a b r i).1 h1 with h1 | ⟨he, h1⟩
      · rcases (path_link _ _ u i j).1 h3 with h3 | ⟨x, y, k, l, rfl, g1, g2, g3, g4⟩
        · have hj := path_stay (fun i => i < q.size) down u i j (ha.fst i h1).2 h3
          rcases (join_last a b r j).1 h2 with h2 | ⟨he, h2⟩
          · have := (hb.lst j h2).1
            have hj2 : j < q.size := hj
            omega
          · exact ⟨u, [], by simp, (ha2.words u hu).2 ⟨i, j, h1, h2, h3⟩, hb.emp.1 he⟩
        · have g4 := (late y l j (hb.fst l g3).1).1 g4
          have hj : q.size ≤ j := path_stay (fun i => q.size ≤ i) up y l j (hb.fst l g3).1 g4
          rcases (join_last a b r j).1 h2 with h2 | ⟨he, h2⟩
          · exact ⟨x, y, rfl, (ha2.words x (path_ne g1)).2 ⟨i, k, h1, g2, g1⟩, (hb.words y (path_ne g4)).2 ⟨l, j, g3, h2, g4⟩⟩
          · have := (ha.lst j h2).2
            omega
      · have h3 := (late u i j (hb.fst i h1).1).1 h3
        have hj : q.size ≤ j := path_stay (fun i => q.size ≤ i) up u i j (hb.fst i h1).1 h3
        rcases (join_last a b r j).1 h2 with h2 | ⟨_, h2⟩
        · exact ⟨[], u, rfl, ha.emp.1 he, (hb.words u hu).2 ⟨i, j, h1, h2, h3⟩⟩
        · have := (ha.lst j h2).2
          omega
/-- one or the other -/
theorem frag_either {q r : Pat} {a b : Span} {A B : Lang} {lo : Nat} (hq : PatOk q) (fq : Fresh q) (hlo : lo ≤ q.size) (e2 : Ext q r) (ha : Frag lo q a A) (hb : Frag q.size r b B) :
    Frag lo r (either a b) (fun u => A u ∨ B u) := by
  have ha2 := ha.ext e2 fq
  have up : ∀ i, q.size ≤ i → ∀ k, Ed r i k → q.size ≤ k := by
    intro i hi k g
    rcases Nat.lt_or_ge k q.size with c | c
    · unfold Ed at g
      rw [e2.ah k c] at g
      have := hq.ed (i := i) (k := k) g
      omega
    · exact c
  have down : ∀ i, i < q.size → ∀ k, Ed r i k → k < q.size := by
    intro i hi k g
    rcases Nat.lt_or_ge k q.size with c | c
    · exact c
    · have := e2.new k c i g
      omega
  have f1 : ∀ i, (either a b).first.testBit i = true ↔ (a.first.testBit i = true ∨ b.first.testBit i = true) := fun i => by simp [either, Nat.testBit_or]
  have f2 : ∀ i, (either a b).last.testBit i = true ↔ (a.last.testBit i = true ∨ b.last.testBit i = true) := fun i => by simp [either, Nat.testBit_or]
  refine ⟨fun i h => ?_, fun i h => ?_, ?_, fun u hu => ?_⟩
  · rcases (f1 i).1 h with h | h
    · exact ha2.fst i h
    · exact ⟨Nat.le_trans hlo (hb.fst i h).1, (hb.fst i h).2⟩
  · rcases (f2 i).1 h with h | h
    · exact ha2.lst i h
    · exact ⟨Nat.le_trans hlo (hb.lst i h).1, (hb.lst i h).2⟩
  · show (a.empty || b.empty) = true ↔ _
    rw [Bool.or_eq_true, ha.emp, hb.emp]
  · rw [ha2.words u hu, hb.words u hu]
    constructor
    · rintro (⟨i, j, h1, h2, h3⟩ | ⟨i, j, h1, h2, h3⟩)
      · exact ⟨i, j, (f1 i).2 (.inl h1), (f2 j).2 (.inl h2), h3⟩
      · exact ⟨i, j, (f1 i).2 (.inr h1), (f2 j).2 (.inr h2), h3⟩
    · rintro ⟨i, j, h1, h2, h3⟩
      rcases (f1 i).1 h1 with h1 | h1
      · have hj : j < q.size := path_stay (fun i => i < q.size) down u i j (ha.fst i h1).2 h3
        rcases (f2 j).1 h2 with h2 | h2
        · exact .inl ⟨i, j, h1, h2, h3⟩
        · have := (hb.lst j h2).1
          omega
      · have hj : q.size ≤ j := path_stay (fun i => q.size ≤ i) up u i j (hb.fst i h1).1 h3
        rcases (f2 j).1 h2 with h2 | h2
        · have := (ha.lst j h2).2
          omega
        · exact .inr ⟨i, j, h1, h2, h3⟩
/-- once or more often -/
theorem frag_loop {q : Pat} {a : Span} {A : Lang} {lo : Nat} (hq : PatOk q) (ha : Frag lo q a A) :
    Frag lo (link a.last a.first q) a (fun u => (u = [] ∧ A []) ∨ (u ≠ [] ∧ ∃ m, 1 ≤ m ∧ Pow A m u)) := by
  have hed : ∀ i k, Ed (link a.last a.first q) i k ↔ (Ed q i k ∨ (a.last.testBit i = true ∧ a.first.testBit k = true)) := link_ed hq (fun k g => (ha.fst k g).2)
  have hpath : ∀ u i j, Path (Ed (link a.last a.first q)) (Tk (link a.last a.first q)) u i j ↔ Path (fun i k => Ed q i k ∨ (a.last.testBit i = true ∧ a.first.testBit k = true)) (Tk q) u i j :=
    fun u i j => path_congr (fun _ => True) (fun i _ k => hed i k) (fun i _ c => Iff.rfl) (fun _ _ _ _ => trivial) u i j trivial
  refine ⟨ha.fst, ha.lst, ?_, fun u hu => ?_⟩
  · rw [ha.emp]
    constructor
    · intro h; exact .inl ⟨rfl, h⟩
    · rintro (⟨_, h⟩ | ⟨h, _⟩)
      · exact h
      · exact absurd rfl h
  · have there : ∀ m v, v ≠ [] → Pow A m v → ∃ i j, a.first.testBit i = true ∧ a.last.testBit j = true ∧ Path (fun i k => Ed q i k ∨ (a.last.testBit i = true ∧ a.first.testBit k = true)) (Tk q) v i j := by
      intro m
      induction m with
      | zero => intro v hv h; exact absurd h hv
      | succ m ih =>
        rintro v hv ⟨x, y, rfl, h, g⟩
        by_cases hx : x = []
        · subst hx
          exact ih y (by simpa using hv) g
        · obtain ⟨i, j, h1, h2, h3⟩ := (ha.words x hx).1 h
          by_cases hy : y = []
          · subst hy
            exact ⟨i, j, h1, h2, (path_link _ _ _ i j).2 (.inl (by simpa using h3))⟩
          · obtain ⟨k, l, g1, g2, g3⟩ := ih y hy g
            exact ⟨i, l, h1, g2, (path_link _ _ _ i l).2 (.inr ⟨x, y, j, k, rfl, h3, h2, g1, g3⟩)⟩
    have back : ∀ n v, v.length ≤ n → ∀ i j, a.first.testBit i = true → a.last.testBit j = true → Path (fun i k => Ed q i k ∨ (a.last.testBit i = true ∧ a.first.testBit k = true)) (Tk q) v i j → ∃ m, 1 ≤ m ∧ Pow A m v := by
      intro n
      induction n with
      | zero =>
        intro v hv i j _ _ h
        exact absurd (List.length_eq_zero_iff.1 (by omega)) (path_ne h)
      | succ n ih =>
        intro v hv i j h1 h2 h3
        rcases (path_link _ _ v i j).1 h3 with h3 | ⟨x, y, k, l, rfl, g1, g2, g3, g4⟩
        · exact ⟨1, Nat.le_refl _, pow_one.2 ((ha.words v (path_ne h3)).2 ⟨i, j, h1, h2, h3⟩)⟩
        · have hx := path_ne g1
          have hl : 0 < x.length := List.length_pos_iff.2 hx
          obtain ⟨m, _, hm⟩ := ih y (by simp at hv; omega) l j g3 h2 g4
          exact ⟨m + 1, by omega, x, y, rfl, (ha.words x hx).2 ⟨i, k, h1, g2, g1⟩, hm⟩
    constructor
    · rintro (⟨h, _⟩ | ⟨_, m, _, h⟩)
      · exact absurd h hu
      · obtain ⟨i, j, h1, h2, h3⟩ := there m u hu h
        exact ⟨i, j, h1, h2, (hpath _ _ _).2 h3⟩
    · rintro ⟨i, j, h1, h2, h3⟩
      exact .inr ⟨hu, back u.length u (Nat.le_refl _) i j h1 h2 ((hpath _ _ _).1 h3)⟩
theorem ext_path {p q : Pat} (h : Ext p q) (hp : Fresh p) {u : List UInt8} {i j : Nat} (hi : i < p.size) (g : Path (Ed p) (Tk p) u i j) : Path (Ed q) (Tk q) u i j := (h.path hp u i j hi).1 g
theorem rch_join {q r : Pat} {a b : Span} {A B : Lang} {lo : Nat} (hr : PatOk r) (fq : Fresh q) (e2 : Ext q r) (ha : Frag lo q a A) (hb : Frag q.size r b B) (ra : Rch lo q a) (rb : Rch q.size r b) (hA : ∃ u, A u) : Rch lo (join a b r).2 (join a b r).1 := by
  have hed : ∀ i k, Ed (join a b r).2 i k ↔ (Ed r i k ∨ (a.last.testBit i = true ∧ b.first.testBit k = true)) := link_ed hr (fun k g => (hb.fst k g).2)
  have up : ∀ u i j, Path (Ed r) (Tk r) u i j → Path (Ed (join a b r).2) (Tk (join a b r).2) u i j := fun u i j h => path_mono (T := Tk r) (fun i k g => (hed i k).2 (.inl g)) u i j h
  intro i h1 h2
  have h2 : i < r.size := h2
  rcases Nat.lt_or_ge i q.size with g | g
  · obtain ⟨u, j, hj, hp⟩ := ra i h1 g
    exact ⟨u, j, (join_first a b r j).2 (.inl hj), up _ _ _ (ext_path e2 fq (ha.fst j hj).2 hp)⟩
  · obtain ⟨u, j, hj, hp⟩ := rb i g h2
    by_cases he : a.empty = true
    · exact ⟨u, j, (join_first a b r j).2 (.inr ⟨he, hj⟩), up _ _ _ hp⟩
    · obtain ⟨v, hv⟩ := hA
      have hv0 : v ≠ [] := fun e => he (ha.emp.2 (by rw [← e]; exact hv))
      obtain ⟨i1, j1, g1, g2, g3⟩ := (ha.words v hv0).1 hv
      refine ⟨v ++ u, i1, (join_first a b r i1).2 (.inl g1), path_cat v u i1 j1 j i (up _ _ _ (ext_path e2 fq (ha.fst i1 g1).2 g3)) ((hed j1 j).2 (.inr ⟨g2, hj⟩)) (up _ _ _ hp)⟩
theorem rch_either {q r : Pat} {a b : Span} {A : Lang} {lo : Nat} (fq : Fresh q) (e2 : Ext q r) (ha : Frag lo q a A) (ra : Rch lo q a) (rb : Rch q.size r b) : Rch lo r (either a b) := by
  have f1 : ∀ i, (either a b).first.testBit i = true ↔ (a.first.testBit i = true ∨ b.first.testBit i = true) := fun i => by simp [either, Nat.testBit_or]
  intro i h1 h2
  rcases Nat.lt_or_ge i q.size with g | g
  · obtain ⟨u, j, hj, hp⟩ := ra i h1 g
    exact ⟨u, j, (f1 j).2 (.inl hj), ext_path e2 fq (ha.fst j hj).2 hp⟩
  · obtain ⟨u, j, hj, hp⟩ := rb i g h2
    exact ⟨u, j, (f1 j).2 (.inr hj), hp⟩
theorem rch_loop {q : Pat} {a : Span} {A : Lang} {lo : Nat} (hq : PatOk q) (ha : Frag lo q a A) (ra : Rch lo q a) : Rch lo (link a.last a.first q) a := by
  have hed : ∀ i k, Ed (link a.last a.first q) i k ↔ (Ed q i k ∨ (a.last.testBit i = true ∧ a.first.testBit k = true)) := link_ed hq (fun k g => (ha.fst k g).2)
  intro i h1 h2
  obtain ⟨u, j, hj, hp⟩ := ra i h1 h2
  exact ⟨u, j, hj, path_mono (T := Tk q) (fun i k g => (hed i k).2 (.inl g)) u j i hp⟩
end Go.Proofs.Ytjmkkkfloalliaa.Q

namespace Go.Proofs.Ytjmkkkfloalliaa.Q
set_option linter.unusedVariables false

/-- as often as the first k copies say -/
def Rep (A : Lang) (low k : Nat) : Lang := fun u => ∃ m, min low k ≤ m ∧ m ≤ k ∧ Pow A m u
theorem rep_step (A : Lang) (low k : Nat) (u : List UInt8) : Cat (Rep A low k) (fun u => A u ∨ (decide (low < k + 1) = true ∧ u = [])) u ↔ Rep A low (k + 1) u := by
  constructor
  · rintro ⟨x, y, rfl, ⟨m, h1, h2, h3⟩, h | ⟨h, rfl⟩⟩
    · exact ⟨m + 1, by omega, by omega, pow_add.2 ⟨x, y, rfl, h3, pow_one.2 h⟩⟩
    · have := of_decide_eq_true h
      exact ⟨m, by omega, by omega, by simpa using h3⟩
  · rintro ⟨m, h1, h2, h3⟩
    by_cases hm : m = k + 1
    · subst hm
      obtain ⟨x, y, rfl, g1, g2⟩ := pow_add.1 h3
      exact ⟨x, y, rfl, ⟨k, by omega, by omega, g1⟩, .inl (pow_one.1 g2)⟩
    · exact ⟨u, [], by simp, ⟨m, by omega, by omega, h3⟩, .inr ⟨decide_eq_true (by omega), rfl⟩⟩
theorem rep_loop (A : Lang) (low : Nat) (u : List UInt8) : Cat (Rep A low low) (fun u => ((u = [] ∧ A []) ∨ (u ≠ [] ∧ ∃ m, 1 ≤ m ∧ Pow A m u)) ∨ (decide (low < low + 1) = true ∧ u = [])) u ↔ ∃ m, low ≤ m ∧ Pow A m u := by
  constructor
  · rintro ⟨x, y, rfl, ⟨m, h1, h2, h3⟩, (⟨rfl, _⟩ | ⟨_, n, h4, h5⟩) | ⟨_, rfl⟩⟩
    · exact ⟨m, by omega, by simpa using h3⟩
    · exact ⟨m + n, by omega, pow_add.2 ⟨x, y, rfl, h3, h5⟩⟩
    · exact ⟨m, by omega, by simpa using h3⟩
  · rintro ⟨m, h1, h2⟩
    obtain ⟨n, rfl⟩ : ∃ n, m = low + n := ⟨m - low, by omega⟩
    obtain ⟨x, y, rfl, g1, g2⟩ := pow_add.1 h2
    refine ⟨x, y, rfl, ⟨low, by omega, by omega, g1⟩, ?_⟩
    by_cases hy : y = []
    · exact .inr ⟨decide_eq_true (by omega), hy⟩
    · refine .inl (.inr ⟨hy, n, ?_, g2⟩)
      rcases Nat.eq_zero_or_pos n with e | e
      · subst e; exact absurd g2 hy
      · exact e

/-- what is laid takes A -/
def LayL (m : Nat) (rec : Pat → Span × Pat) (A : Lang) : Prop := ∀ p, PatOk p → Fresh p → p.size + m ≤ 49 → Ext p (rec p).2 ∧ Frag p.size (rec p).2 (rec p).1 A ∧ Rch p.size (rec p).2 (rec p).1
theorem frag_eps {p : Pat} (lo : Nat) : Frag lo p ⟨0, 0, true⟩ (fun u => u = []) := by
  refine ⟨fun i h => ?_, fun i h => ?_, by simp, fun u hu => ?_⟩
  · simp at h
  · simp at h
  · simp [hu]
theorem frag_none {p : Pat} (lo : Nat) (e : Bool) (A : Lang) (h : ∀ u, A u ↔ (u = [] ∧ e = true)) : Frag lo p ⟨0, 0, e⟩ A := by
  refine ⟨fun i h => ?_, fun i h => ?_, by simp [h], fun u hu => ?_⟩
  · simp at h
  · simp at h
  · simp [h, hu]
theorem SpanOk.of {lo : Nat} {p : Pat} {a : Span} {A : Lang} (h : Frag lo p a A) (hp : PatOk p) (g : SpanOk p a) : SpanOk p a := g
/-- one more copy -/
theorem copies_frag {m : Nat} {rec : Pat → Span × Pat} {A : Lang} (hr : Lays m rec) (hl : LayL m rec A) (low : Nat) (endless : Bool) (n : Nat) (he : endless = true → n = low + 1) (hA : ∃ u, A u) (p0 : Pat) :
    ∀ (d : Nat) (all : Span) (p : Pat), d ≤ n → PatOk p → SpanOk p all → Ext p0 p → p.size + m * d ≤ 49 → (0 < d ∨ endless = false) → Frag p0.size p all (Rep A low (n - d)) → Rch p0.size p all →
      Ext p0 (copies rec low endless n d all p).2 ∧ Frag p0.size (copies rec low endless n d all p).2 (copies rec low endless n d all p).1 (fun u => if endless = true then ∃ m, low ≤ m ∧ Pow A m u else Rep A low n u) ∧ Rch p0.size (copies rec low endless n d all p).2 (copies rec low endless n d all p).1
  | 0, all, p, _, hp, hs, e0, hz, hd, hf, hR => by
    have h0 : endless = false := by rcases hd with h | h; (· omega); exact h
    refine ⟨e0, hf.iff fun u => ?_, hR⟩
    rw [h0]; simp
  | d + 1, all, p, hdn, hp, hs, e0, hz, hd, hf, hR => by
    have hmul : m * (d + 1) = m * d + m := Nat.mul_succ m d
    obtain ⟨r1, r2, r3⟩ := hr p hp (by omega)
    obtain ⟨x1, x2, x3⟩ := hl p hp e0.fresh (by omega)
    have hAll : ∃ u, Rep A low (n - (d + 1)) u := by
      obtain ⟨u, hu⟩ := hA
      have key : ∀ m, ∃ v, Pow A m v := by
        intro m
        induction m with
        | zero => exact ⟨[], rfl⟩
        | succ m ih =>
          obtain ⟨v, hv⟩ := ih
          exact ⟨u ++ v, u, v, rfl, hu, hv⟩
      obtain ⟨v, hv⟩ := key (n - (d + 1))
      exact ⟨v, n - (d + 1), by omega, Nat.le_refl _, hv⟩
    have e1 : Ext p0 (rec p).2 := e0.trans x1
    have hlo : p0.size ≤ p.size := e0.size
    have hk : n - (d + 1) + 1 = n - d := by omega
    have hone := x2.opt (decide (low < n - d))
    by_cases hend : endless = true ∧ d = 0
    · obtain ⟨hen, hd0⟩ := hend
      subst hd0
      have hn := he hen
      have L1 := frag_loop r1 x2
      have hlink : PatOk (link (rec p).1.last (rec p).1.first (rec p).2) := link_ok _ _ r1 r2.2
      have eL : Ext p (link (rec p).1.last (rec p).1.first (rec p).2) := link_ext x1 r1 (fun i h => (x2.lst i h).1) (fun k h => x2.fst k h)
      have L2 := L1.opt (decide (low < n - 0))
      have J := frag_join (p := p) hp hlink e0.fresh hlo eL hf L2
      have JR := rch_join (a := all) (b := { (rec p).1 with empty := decide (low < n - 0) || (rec p).1.empty }) hlink e0.fresh eL hf L2 hR (rch_loop r1 x2 x3) hAll
      unfold copies
      simp only [if_pos (show endless = true ∧ True from ⟨hen, trivial⟩)]
      unfold copies
      refine ⟨?_, J.iff fun u => ?_, JR⟩
      · refine link_ext (e0.trans eL) hlink (fun i h => (hf.lst i h).1) (fun k h => ?_)
        have := x2.fst k h
        exact ⟨by omega, this.2⟩
      · rw [if_pos hen]
        have e3 : n - (0 + 1) = low := by omega
        have e4 : n - 0 = low + 1 := by omega
        rw [e3, e4]
        exact rep_loop A low u
    · have hd2 : 0 < d ∨ endless = false := by
        cases endless with
        | false => exact .inr rfl
        | true => exact .inl (by rcases Nat.eq_zero_or_pos d with e | e; (· exact absurd ⟨rfl, e⟩ hend); exact e)
      have J := frag_join (p := p) hp r1 e0.fresh hlo x1 hf hone
      have JR := rch_join (a := all) (b := { (rec p).1 with empty := decide (low < n - d) || (rec p).1.empty }) r1 e0.fresh x1 hf hone hR x3 hAll
      obtain ⟨j1, j2, j3⟩ := join_ok (p := (rec p).2) (a := all) (b := { (rec p).1 with empty := decide (low < n - d) || (rec p).1.empty }) r1 (hs.mono x1.size) r2
      unfold copies
      simp only [if_neg hend]
      refine copies_frag hr hl low endless n he hA p0 d _ _ (by omega) j1 j2 ?_ (by rw [j3, r3]; omega) hd2 (J.iff fun u => ?_) JR
      · refine link_ext e1 r1 (fun i h => (hf.lst i h).1) (fun k h => ?_)
        have := x2.fst k h
        exact ⟨by omega, this.2⟩
      · rw [← hk]
        exact rep_step A low (n - (d + 1)) u
/-- a byte -/
theorem layByte_frag (ins : List Bool) (hi : ins.length = 256) (hany : ∃ c : UInt8, ins.getD c.toNat false = true) : LayL 1 (layByte ins) (fun u => ∃ c : UInt8, u = [c] ∧ ins.getD c.toNat false = true) := by
  intro p hp fp hs
  have tk : ∀ (c : Nat) (i : Nat), ((layByte ins p).2.takes.getD c 0).testBit i = ((p.takes.getD c 0).testBit i || (ins.getD c false && decide (i = p.size))) := by
    intro c i
    show ((tab 256 fun i => if i < 256 ∧ ins.getD i false = true then p.takes.getD i 0 ||| 2 ^ p.size else p.takes.getD i 0).getD c 0).testBit i = _
    rw [getD_tab]
    by_cases hc : c < 256
    · rw [if_pos hc]
      by_cases hin : ins.getD c false = true
      · rw [if_pos ⟨hc, hin⟩, Nat.testBit_or, Nat.testBit_two_pow, hin]
        congr 1
        simp [eq_comm]
      · rw [if_neg (fun g => hin g.2), Bool.eq_false_iff.2 hin]
        simp
    · rw [if_neg hc]
      rw [List.getD_eq_getElem?_getD, List.getD_eq_getElem?_getD, List.getElem?_eq_none (by rw [hp.tlen]; omega), List.getElem?_eq_none (by rw [hi]; omega)]
      simp
  have sz : (layByte ins p).2.size = p.size + 1 := rfl
  refine ⟨⟨by rw [sz]; omega, fun k _ => rfl, fun c i h => ?_, fun k hk i g => ?_, fun k hk => fp k (by rw [sz] at hk; omega)⟩, ⟨fun i h => ?_, fun i h => ?_, ?_, fun u hu => ?_⟩, fun i g1 g2 => ?_⟩
  · rw [tk, decide_eq_false (by omega)]; simp
  · have := fp.ed (i := i) (k := k) g
    omega
  · have h2 : (2 ^ p.size).testBit i = true := h
    rw [Nat.testBit_two_pow] at h2
    have := of_decide_eq_true h2
    rw [sz]; omega
  · have h2 : (2 ^ p.size).testBit i = true := h
    rw [Nat.testBit_two_pow] at h2
    have := of_decide_eq_true h2
    rw [sz]; omega
  · show false = true ↔ _
    simp
  · have bit : ∀ i, (2 ^ p.size).testBit i = true ↔ p.size = i := fun i => by rw [Nat.testBit_two_pow]; simp
    have no : ∀ k, ¬ Ed (layByte ins p).2 p.size k := by
      intro k g
      have := hp.ed (i := p.size) (k := k) g
      omega
    have hz : ∀ c : UInt8, Tk (layByte ins p).2 p.size c ↔ ins.getD c.toNat false = true := by
      intro c
      unfold Tk
      rw [tk, decide_eq_true rfl]
      have : (p.takes.getD c.toNat 0).testBit p.size = false := by
        cases e : (p.takes.getD c.toNat 0).testBit p.size with
        | false => rfl
        | true => exact absurd (bit_lt (hp.t _) e) (by omega)
      rw [this]; simp
    constructor
    · rintro ⟨c, rfl, h⟩
      exact ⟨p.size, p.size, (bit _).2 rfl, (bit _).2 rfl, (hz c).2 h, .inl ⟨rfl, rfl⟩⟩
    · rintro ⟨i, j, h1, h2, h3⟩
      have h1 := (bit i).1 h1
      subst h1
      cases u with
      | nil => exact absurd rfl hu
      | cons c u =>
        obtain ⟨g1, ⟨rfl, _⟩ | ⟨k, g2, _⟩⟩ := h3
        · exact ⟨c, rfl, (hz c).1 g1⟩
        · exact absurd g2 (no k)
  · obtain rfl : i = p.size := by rw [sz] at g2; omega
    obtain ⟨c, hc⟩ := hany
    refine ⟨[c], p.size, by show (2 ^ p.size).testBit p.size = true; rw [Nat.testBit_two_pow]; simp, ?_, .inl ⟨rfl, rfl⟩⟩
    unfold Tk
    rw [tk, decide_eq_true rfl, hc]
    simp

/-! the pattern made -/
theorem aheadTo_bit (p : Pat) (s i : Nat) : ∀ k, (aheadTo p s k).testBit i = true ↔ ∃ j, j < k ∧ s.testBit j = true ∧ (p.ahead.getD j 0).testBit i = true
  | 0 => by simp [aheadTo]
  | k + 1 => by
    unfold aheadTo
    split
    · next h =>
      rw [Nat.testBit_or, Bool.or_eq_true, aheadTo_bit p s i k]
      constructor
      · rintro (⟨j, a, b⟩ | g)
        · exact ⟨j, by omega, b⟩
        · exact ⟨k, by omega, h, g⟩
      · rintro ⟨j, a, b, c⟩
        rcases Nat.lt_or_ge j k with g | g
        · exact .inl ⟨j, g, b, c⟩
        · have : j = k := by omega
          subst this
          exact .inr c
    · next h =>
      rw [aheadTo_bit p s i k]
      constructor
      · rintro ⟨j, a, b⟩
        exact ⟨j, by omega, b⟩
      · rintro ⟨j, a, b, c⟩
        rcases Nat.lt_or_ge j k with g | g
        · exact ⟨j, g, b, c⟩
        · have : j = k := by omega
          subst this
          exact absurd b h
theorem set0_getD (l : List Nat) (x k : Nat) (h : 0 < l.length) : (l.set 0 x).getD k 0 = if k = 0 then x else l.getD k 0 := by
  cases l with
  | nil => simp at h
  | cons a l =>
    cases k with
    | zero => simp
    | succ k => simp
theorem pl_paths {q : Pat} {a : Span} {A : Lang} (hq : PatOk q) (h1 : Fresh q) (h0 : ∀ c, (q.takes.getD c 0).testBit 0 = false) (x : Nat) :
    ∀ u : List UInt8, u ≠ [] → ∀ i, (pl { q with begins := x, ahead := q.ahead.set 0 a.last } u).testBit i = true ↔ ∃ j, a.last.testBit j = true ∧ Path (Ed q) (Tk q) u i j := by
  intro u
  induction u with
  | nil => intro h; exact absurd rfl h
  | cons c u ih =>
    intro _ i
    unfold pl aheadOf
    rw [Nat.testBit_and, Bool.and_eq_true, aheadTo_bit]
    have hl : 0 < q.ahead.length := by rw [hq.alen]; decide
    simp only [set0_getD _ _ _ hl]
    cases u with
    | nil =>
      simp only [pl]
      constructor
      · rintro ⟨⟨j, a1, a2, a3⟩, a4⟩
        have hj : j = 0 := by
          rw [show (1 : Nat) = 2 ^ 0 from rfl, Nat.testBit_two_pow] at a2
          simpa [eq_comm] using a2
        subst hj
        exact ⟨i, by simpa using a3, a4, .inl ⟨rfl, rfl⟩⟩
      · rintro ⟨j, a1, a2, ⟨_, rfl⟩ | ⟨k, _, a3⟩⟩
        · exact ⟨⟨0, hq.pos, by simp, by simpa using a1⟩, a2⟩
        · exact a3.elim
    | cons d v =>
      have ih := ih (List.cons_ne_nil _ _)
      constructor
      · rintro ⟨⟨k, a1, a2, a3⟩, a4⟩
        obtain ⟨j, b1, b2⟩ := (ih k).1 a2
        have hk : k ≠ 0 := by
          intro e
          subst e
          have : Tk q 0 d := b2.1
          unfold Tk at this
          rw [h0] at this
          cases this
        rw [if_neg hk] at a3
        exact ⟨j, b1, a4, .inr ⟨k, a3, b2⟩⟩
      · rintro ⟨j, a1, a2, ⟨e, _⟩ | ⟨k, a3, a4⟩⟩
        · cases e
        · have hk : k ≠ 0 := by
            intro e
            subst e
            have : Tk q 0 d := a4.1
            unfold Tk at this
            rw [h0] at this
            cases this
          refine ⟨⟨k, h1.ed a3, (ih k).2 ⟨j, a1, a4⟩, ?_⟩, a2⟩
          rw [if_neg hk]
          exact a3
theorem begins_acc {p q : Pat} {a : Span} {A : Lang} (hq : PatOk q) (sa : SpanOk q a) (h1 : Fresh q) (h0 : ∀ c, (q.takes.getD c 0).testBit 0 = false) (h : Frag 1 q a A) (u : List UInt8) (hu : u ≠ []) :
    acc { q with begins := a.first, ahead := q.ahead.set 0 a.last } u = true ↔ A u := by
  have key := pl_paths (a := a) (A := A) hq h1 h0 a.first
  rw [h.words u hu]
  unfold acc
  rw [bne_iff_ne]
  constructor
  · intro g
    obtain ⟨i, hi⟩ := Nat.exists_testBit_of_ne_zero g
    rw [Nat.testBit_and, Bool.and_eq_true] at hi
    obtain ⟨j, b1, b2⟩ := (key u hu i).1 hi.1
    exact ⟨i, j, hi.2, b1, b2⟩
  · rintro ⟨i, j, g1, g2, g3⟩ e
    have : (pl { q with begins := a.first, ahead := q.ahead.set 0 a.last } u &&& a.first).testBit i = true := by
      rw [Nat.testBit_and, Bool.and_eq_true]
      exact ⟨(key u hu i).2 ⟨j, g2, g3⟩, g1⟩
    have e2 : pl { q with begins := a.first, ahead := q.ahead.set 0 a.last } u &&& a.first = 0 := e
    rw [e2, Nat.zero_testBit] at this
    cases this
/-- where a word's end leads, something leads to it -/
theorem pl_tail_iff {q : Pat} {a : Span} {A : Lang} (hq : PatOk q) (h1 : Fresh q) (h0 : ∀ c, (q.takes.getD c 0).testBit 0 = false) (h : Frag 1 q a A) (hr : Rch 1 q a) (w : List UInt8) (hw : w ≠ []) :
    pl { q with begins := a.first, ahead := q.ahead.set 0 a.last } w ≠ 0 ↔ ∃ v, A (v ++ w) := by
  have key := pl_paths (a := a) (A := A) hq h1 h0 a.first w hw
  constructor
  · intro g
    obtain ⟨i, hi⟩ := Nat.exists_testBit_of_ne_zero g
    obtain ⟨k, hk, hp⟩ := (key i).1 hi
    have hi0 : 1 ≤ i ∧ i < q.size := by
      cases w with
      | nil => exact absurd rfl hw
      | cons c w =>
        have ht : Tk q i c := hp.1
        refine ⟨?_, hq.tk ht⟩
        rcases Nat.eq_zero_or_pos i with e | e
        · subst e
          unfold Tk at ht
          rw [h0] at ht
          cases ht
        · exact e
    obtain ⟨u, j, hj, hu⟩ := hr i hi0.1 hi0.2
    obtain ⟨v, hv⟩ := path_swap u w j i k hu hp
    exact ⟨v, (h.words _ (path_ne hv)).2 ⟨j, k, hj, hk, hv⟩⟩
  · rintro ⟨v, hv⟩ e
    obtain ⟨j, k, hj, hk, hp⟩ := (h.words _ (by simp [hw])).1 hv
    obtain ⟨i, hi⟩ := path_tail v w j k hw hp
    have := (key i).2 ⟨k, hk, hi⟩
    rw [e, Nat.zero_testBit] at this
    cases this
end Go.Proofs.Ytjmkkkfloalliaa.Q

namespace Go.Proofs.Ytjmkkkfloalliaa.Q
set_option linter.unusedVariables false

structure Den where
  lang : Lang
  some : Bool
  empty : Bool
  places : Nat
def cutP (s : Bool) (n : Nat) : Nat := if s = false then 0 else if 48 < n then 49 else n
def dEps : Den := ⟨fun u => u = [], true, true, 0⟩
def dByte (ins : List Bool) : Den := ⟨fun u => ∃ c : UInt8, u = [c] ∧ ins.getD c.toNat false = true, anyIn ins, false, cutP (anyIn ins) 1⟩
def dCat (a b : Den) : Den := ⟨Cat a.lang b.lang, a.some && b.some, a.empty && b.empty, cutP (a.some && b.some) (a.places + b.places)⟩
def dAlt (a b : Den) : Den := ⟨fun u => a.lang u ∨ b.lang u, a.some || b.some, a.empty || b.empty, cutP (a.some || b.some) (a.places + b.places)⟩
def dRep (a : Den) (low high : Nat) (endless : Bool) : Den :=
  ⟨fun u => ∃ m, low ≤ m ∧ (endless = true ∨ m ≤ high) ∧ Pow a.lang m u, a.some || decide (low = 0), a.empty || decide (low = 0), cutP (a.some || decide (low = 0)) (a.places * (if endless then low + 1 else high))⟩
structure Fine (d : Den) : Prop where
  emp : d.empty = true ↔ d.lang []
  som : d.some = false → ∀ u, ¬ d.lang u
  pla : d.places = 0 → ∀ u, d.lang u → u = []
  inh : d.some = true → ∃ u, d.lang u
theorem cutP_zero {s : Bool} {n : Nat} (h : cutP s n = 0) : s = false ∨ (s = true ∧ n = 0) := by
  unfold cutP at h
  cases s with
  | false => exact .inl rfl
  | true =>
    right
    rw [if_neg (by decide)] at h
    split at h
    · omega
    · exact ⟨rfl, h⟩
theorem cutP_some {s : Bool} {n : Nat} (h : cutP s n ≠ 0) (h2 : cutP s n ≤ 48) : s = true ∧ cutP s n = n := by
  unfold cutP at h h2 ⊢
  cases s with
  | false => exact absurd rfl h
  | true =>
    refine ⟨rfl, ?_⟩
    rw [if_neg (by decide)] at h h2 ⊢
    split
    · next g => rw [if_pos g] at h2; omega
    · rfl
theorem fine_eps : Fine dEps := ⟨by simp [dEps], fun h => (by cases h), fun _ u h => h, fun _ => ⟨[], rfl⟩⟩
theorem any_byte {ins : List Bool} (hi : ins.length = 256) (h : anyIn ins = true) : ∃ c : UInt8, ins.getD c.toNat false = true := by
  obtain ⟨b, hb, e⟩ := List.any_eq_true.1 h
  have e2 : b = true := e
  subst e2
  obtain ⟨i, hi2, he⟩ := List.getElem_of_mem hb
  refine ⟨UInt8.ofNat i, ?_⟩
  have hn : (UInt8.ofNat i).toNat = i := by rw [UInt8.toNat_ofNat']; exact Nat.mod_eq_of_lt (by omega)
  rw [hn, List.getD_eq_getElem?_getD, List.getElem?_eq_getElem hi2, he]
  rfl
theorem fine_byte (ins : List Bool) (hi : ins.length = 256) : Fine (dByte ins) := by
  have key : anyIn ins = false → ∀ u, ¬ (dByte ins).lang u := by
    rintro h u ⟨c, rfl, g⟩
    rw [List.getD_eq_getElem?_getD] at g
    cases e : ins[c.toNat]? with
    | none => rw [e] at g; cases g
    | some b =>
      rw [e] at g
      have g2 : b = true := g
      subst g2
      have := List.any_eq_false.1 h true (List.mem_of_getElem? e)
      simp at this
  refine ⟨by simp [dByte], key, fun h u g => ?_, fun h => ?_⟩
  · rcases cutP_zero h with h | ⟨_, h⟩
    · exact absurd g (key h u)
    · cases h
  · obtain ⟨c, hc⟩ := any_byte hi h
    exact ⟨[c], c, rfl, hc⟩
theorem fine_cat {a b : Den} (ha : Fine a) (hb : Fine b) : Fine (dCat a b) := by
  have key : (a.some && b.some) = false → ∀ u, ¬ (dCat a b).lang u := by
    rintro h u ⟨x, y, rfl, g1, g2⟩
    rw [Bool.and_eq_false_iff] at h
    rcases h with h | h
    · exact ha.som h x g1
    · exact hb.som h y g2
  refine ⟨?_, key, fun h u g => ?_, fun h => ?_⟩
  · show (a.empty && b.empty) = true ↔ _
    rw [Bool.and_eq_true, ha.emp, hb.emp]
    constructor
    · rintro ⟨h, g⟩; exact ⟨[], [], rfl, h, g⟩
    · rintro ⟨x, y, e, h, g⟩
      have := List.append_eq_nil_iff.1 e.symm
      rw [this.1] at h
      rw [this.2] at g
      exact ⟨h, g⟩
  · rcases cutP_zero h with h | ⟨_, h⟩
    · exact absurd g (key h u)
    · obtain ⟨x, y, rfl, g1, g2⟩ := g
      rw [ha.pla (by omega) x g1, hb.pla (by omega) y g2]
      rfl
  · obtain ⟨h1, h2⟩ := Bool.and_eq_true_iff.1 (show (a.some && b.some) = true from h)
    obtain ⟨x, hx⟩ := ha.inh h1
    obtain ⟨y, hy⟩ := hb.inh h2
    exact ⟨x ++ y, x, y, rfl, hx, hy⟩
theorem fine_alt {a b : Den} (ha : Fine a) (hb : Fine b) : Fine (dAlt a b) := by
  have key : (a.some || b.some) = false → ∀ u, ¬ (dAlt a b).lang u := by
    intro h u g
    rw [Bool.or_eq_false_iff] at h
    rcases g with g | g
    · exact ha.som h.1 u g
    · exact hb.som h.2 u g
  refine ⟨?_, key, fun h u g => ?_, fun h => ?_⟩
  · show (a.empty || b.empty) = true ↔ _
    rw [Bool.or_eq_true, ha.emp, hb.emp]
    exact Iff.rfl
  · rcases cutP_zero h with h | ⟨_, h⟩
    · exact absurd g (key h u)
    · rcases g with g | g
      · exact ha.pla (by omega) u g
      · exact hb.pla (by omega) u g
  · rcases Bool.or_eq_true_iff.1 (show (a.some || b.some) = true from h) with h1 | h1
    · obtain ⟨x, hx⟩ := ha.inh h1
      exact ⟨x, .inl hx⟩
    · obtain ⟨x, hx⟩ := hb.inh h1
      exact ⟨x, .inr hx⟩
theorem pow_small {A : Lang} (h : ∀ u, A u → u = []) : ∀ m u, Pow A m u → u = []
  | 0, u, g => g
  | m + 1, u, ⟨x, y, e, g1, g2⟩ => by rw [e, h x g1, pow_small h m y g2]; rfl
theorem fine_rep {a : Den} {low high : Nat} {endless : Bool} (ha : Fine a) (hb : endless = true ∨ low ≤ high) : Fine (dRep a low high endless) := by
  have key : (a.some || decide (low = 0)) = false → ∀ u, ¬ (dRep a low high endless).lang u := by
    rintro h u ⟨m, g1, g2, g3⟩
    rw [Bool.or_eq_false_iff] at h
    have h2 := of_decide_eq_false h.2
    obtain ⟨n, rfl⟩ : ∃ n, m = n + 1 := ⟨m - 1, by omega⟩
    obtain ⟨x, y, _, g, _⟩ := g3
    exact ha.som h.1 x g
  refine ⟨?_, key, fun h u g => ?_, fun h => ?_⟩
  · show (a.empty || decide (low = 0)) = true ↔ _
    rw [Bool.or_eq_true, ha.emp, decide_eq_true_eq]
    constructor
    · rintro (h | h)
      · exact ⟨low, Nat.le_refl _, hb, pow_nil h low⟩
      · exact ⟨0, by omega, .inr (Nat.zero_le _), rfl⟩
    · rintro ⟨m, g1, g2, g3⟩
      cases m with
      | zero => right; omega
      | succ m =>
        left
        obtain ⟨x, y, e, g, _⟩ := g3
        rw [(List.append_eq_nil_iff.1 e.symm).1] at g
        exact g
  · rcases cutP_zero h with h | ⟨_, h⟩
    · exact absurd g (key h u)
    · obtain ⟨m, g1, g2, g3⟩ := g
      rcases Nat.mul_eq_zero.1 h with h | h
      · exact pow_small (ha.pla h) m u g3
      · cases endless with
        | true => simp at h
        | false =>
          have hh : high = 0 := by simpa using h
          have hm : m = 0 := by
            rcases g2 with g2 | g2
            · cases g2
            · omega
          subst hm
          exact g3
  · rcases Bool.or_eq_true_iff.1 (show (a.some || decide (low = 0)) = true from h) with h1 | h1
    · obtain ⟨x, hx⟩ := ha.inh h1
      have pw : ∀ m, ∃ v, Pow a.lang m v := by
        intro m
        induction m with
        | zero => exact ⟨[], rfl⟩
        | succ m ih =>
          obtain ⟨v, hv⟩ := ih
          exact ⟨x ++ v, x, v, rfl, hx, hv⟩
      obtain ⟨v, hv⟩ := pw low
      exact ⟨v, low, Nat.le_refl _, hb, hv⟩
    · have := of_decide_eq_true h1
      exact ⟨[], 0, by omega, .inr (Nat.zero_le _), rfl⟩

theorem at_new (ps : List Part) (x : Part) : at_ (ps ++ [x]) ps.length = x := by
  unfold at_
  rw [List.getD_eq_getElem?_getD, List.getElem?_append_right (Nat.le_refl _)]
  simp
section
variable {ps : List Part} {f n : Nat} {p : Pat}
theorem lay_none (h0 : (at_ ps n).places = 0) : lay ps (f + 1) n p = (⟨0, 0, (at_ ps n).empty⟩, p) := by unfold lay; rw [if_pos h0]
theorem lay_two (h0 : (at_ ps n).places ≠ 0) (h2 : (at_ ps n).kind = 2) : lay ps (f + 1) n p = join (lay ps f (at_ ps n).left p).1 (lay ps f (at_ ps n).right (lay ps f (at_ ps n).left p).2).1 (lay ps f (at_ ps n).right (lay ps f (at_ ps n).left p).2).2 := by
  conv => lhs; unfold lay
  rw [if_neg h0, if_pos h2]
theorem lay_three (h0 : (at_ ps n).places ≠ 0) (h2 : (at_ ps n).kind = 3) : lay ps (f + 1) n p = (either (lay ps f (at_ ps n).left p).1 (lay ps f (at_ ps n).right (lay ps f (at_ ps n).left p).2).1, (lay ps f (at_ ps n).right (lay ps f (at_ ps n).left p).2).2) := by
  conv => lhs; unfold lay
  rw [if_neg h0, if_neg (by omega), if_pos h2]
theorem lay_four (h0 : (at_ ps n).places ≠ 0) (h2 : (at_ ps n).kind = 4) : lay ps (f + 1) n p = copies (lay ps f (at_ ps n).left) (at_ ps n).low (at_ ps n).endless (at_ ps n).copies (at_ ps n).copies ⟨0, 0, true⟩ p := by
  conv => lhs; unfold lay
  rw [if_neg h0, if_neg (by omega), if_neg (by omega), if_pos h2]
theorem lay_byte (h0 : (at_ ps n).places ≠ 0) (h2 : (at_ ps n).kind = 1) : lay ps (f + 1) n p = layByte (at_ ps n).ins p := by
  conv => lhs; unfold lay
  rw [if_neg h0, if_neg (by omega), if_neg (by omega), if_neg (by omega)]
end
theorem lay_app {ps : List Part} (hps : PartsOk ps) (l : List Part) : ∀ f n, n < ps.length → lay (ps ++ l) f n = lay ps f n
  | 0, n, _ => rfl
  | f + 1, n, hn => by
    funext p
    have k := (hps.get n hn).1
    unfold lay
    rw [at_app ps l n hn]
    by_cases h0 : (at_ ps n).places = 0
    · rw [if_pos h0, if_pos h0]
    rw [if_neg h0, if_neg h0]
    by_cases h2 : (at_ ps n).kind = 2
    · have hl := k.left (by omega)
      have hr := k.right (.inl h2)
      rw [if_pos h2, if_pos h2, lay_app hps l f _ (by omega), lay_app hps l f _ (by omega)]
    rw [if_neg h2, if_neg h2]
    by_cases h3 : (at_ ps n).kind = 3
    · have hl := k.left (by omega)
      have hr := k.right (.inr h3)
      rw [if_pos h3, if_pos h3, lay_app hps l f _ (by omega), lay_app hps l f _ (by omega)]
    rw [if_neg h3, if_neg h3]
    by_cases h4 : (at_ ps n).kind = 4
    · have hl := k.left (by omega)
      rw [if_pos h4, if_pos h4, lay_app hps l f _ (by omega)]
    rw [if_neg h4, if_neg h4]

/-- part n stands for d -/
structure Spec (ps : List Part) (n : Nat) (d : Den) : Prop where
  lt : n < ps.length
  som : (at_ ps n).some = d.some
  emp : (at_ ps n).empty = d.empty
  pla : (at_ ps n).places = d.places
  fine : Fine d
  lay : ∀ f, n < f → LayL d.places (lay ps f n) d.lang
theorem Spec.app {ps : List Part} {n : Nat} {d : Den} (h : Spec ps n d) (hps : PartsOk ps) (l : List Part) : Spec (ps ++ l) n d := by
  have e := at_app ps l n h.lt
  refine ⟨by simp; have := h.lt; omega, by rw [e]; exact h.som, by rw [e]; exact h.emp, by rw [e]; exact h.pla, h.fine, fun f hf => ?_⟩
  rw [lay_app hps l f n h.lt]
  exact h.lay f hf
theorem layL_zero {d : Den} {rec : Pat → Span × Pat} (hf : Fine d) (h0 : d.places = 0) (h : ∀ p, rec p = (⟨0, 0, d.empty⟩, p)) : LayL d.places rec d.lang := by
  intro p hp fp _
  rw [h p]
  refine ⟨Ext.refl fp, frag_none _ _ _ fun u => ?_, fun i g1 g2 => absurd g2 (by show ¬ i < p.size; omega)⟩
  rw [hf.emp]
  constructor
  · intro g
    have := hf.pla h0 u g
    subst this
    exact ⟨rfl, g⟩
  · rintro ⟨rfl, g⟩
    exact g
theorem spec_eps {ps : List Part} (hps : PartsOk ps) : Spec (ps ++ [fill ps (mk 0 0 0)]) ps.length dEps := by
  refine ⟨by simp, by rw [at_new]; rfl, by rw [at_new]; rfl, by rw [at_new]; rfl, fine_eps, fun f hf => ?_⟩
  obtain ⟨f, rfl⟩ : ∃ g, f = g + 1 := ⟨f - 1, by omega⟩
  refine layL_zero fine_eps rfl fun p => ?_
  rw [lay_none (by rw [at_new]; rfl), at_new]
  rfl
theorem spec_byte {ps : List Part} (hps : PartsOk ps) {q : Part} (hk : q.kind = 1) (hs : q.some = false) (he : q.empty = false) (hi : q.ins.length = 256) : Spec (ps ++ [fill ps q]) ps.length (dByte q.ins) := by
  have e : fill ps q = { q with some := anyIn q.ins, places := cutP (anyIn q.ins) 1 } := by
    unfold fill known
    rw [if_neg (by omega), if_pos hk]
    simp [cut, cutP, hs]
  refine ⟨by simp, by rw [at_new, e]; rfl, by rw [at_new, e]; exact he, by rw [at_new, e]; rfl, fine_byte _ hi, fun f hf => ?_⟩
  obtain ⟨f, rfl⟩ : ∃ g, f = g + 1 := ⟨f - 1, by omega⟩
  by_cases h0 : (dByte q.ins).places = 0
  · refine layL_zero (fine_byte _ hi) h0 fun p => ?_
    rw [lay_none (by rw [at_new, e]; exact h0), at_new, e]
    show (Span.mk 0 0 q.empty, p) = _
    rw [he]
    rfl
  · intro p hp fp hz
    have hpl : (dByte q.ins).places ≤ 48 := by have := hp.pos; omega
    obtain ⟨c1, c2⟩ := cutP_some h0 hpl
    rw [lay_byte (by rw [at_new, e]; exact h0) (by rw [at_new, e]; exact hk), at_new, e]
    refine layByte_frag q.ins hi (any_byte hi c1) p hp fp ?_
    have : (dByte q.ins).places = 1 := c2
    omega
section
variable {ps : List Part}
theorem spec_cat (hps : PartsOk ps) {a b : Nat} {d1 d2 : Den} (ha : Spec ps a d1) (hb : Spec ps b d2) : Spec (ps ++ [fill ps (mk 2 a b)]) ps.length (dCat d1 d2) := by
  have e : fill ps (mk 2 a b) = { mk 2 a b with some := d1.some && d2.some, empty := d1.empty && d2.empty, places := cutP (d1.some && d2.some) (d1.places + d2.places) } := by
    rw [← ha.som, ← hb.som, ← ha.emp, ← hb.emp, ← ha.pla, ← hb.pla]; rfl
  have hF := fine_cat ha.fine hb.fine
  refine ⟨by simp, by rw [at_new, e]; rfl, by rw [at_new, e]; rfl, by rw [at_new, e]; rfl, hF, fun f hf => ?_⟩
  obtain ⟨f, rfl⟩ : ∃ g, f = g + 1 := ⟨f - 1, by omega⟩
  by_cases h0 : (dCat d1 d2).places = 0
  · refine layL_zero hF h0 fun p => ?_
    rw [lay_none (by rw [at_new, e]; exact h0), at_new, e]
    rfl
  · intro p hp fp hz
    have hpl : (dCat d1 d2).places ≤ 48 := by have := hp.pos; omega
    obtain ⟨c1, c2⟩ := cutP_some h0 hpl
    have c3 : (dCat d1 d2).places = d1.places + d2.places := c2
    rw [lay_two (by rw [at_new, e]; exact h0) (by rw [at_new, e]; rfl)]
    have hal := ha.lt
    have hbl := hb.lt
    have el : (at_ (ps ++ [fill ps (mk 2 a b)]) ps.length).left = a := by rw [at_new]; rfl
    have er : (at_ (ps ++ [fill ps (mk 2 a b)]) ps.length).right = b := by rw [at_new]; rfl
    rw [el, er]
    rw [lay_app hps _ f a hal, lay_app hps _ f b hbl]
    obtain ⟨a1, a2, a3⟩ := lay_ok hps f a (by omega) hal p hp (by rw [ha.pla]; omega)
    obtain ⟨b1, b2, b3⟩ := lay_ok hps f b (by omega) hbl _ a1 (by rw [hb.pla]; have := ha.pla; omega)
    obtain ⟨x1, x2, x3⟩ := ha.lay f (by omega) p hp fp (by omega)
    obtain ⟨y1, y2, y3⟩ := hb.lay f (by omega) _ a1 x1.fresh (by have := ha.pla; omega)
    refine ⟨?_, frag_join (p := p) a1 b1 x1.fresh x1.size y1 x2 y2, rch_join b1 x1.fresh y1 x2 y2 x3 y3 (ha.fine.inh (Bool.and_eq_true_iff.1 c1).1)⟩
    refine link_ext (x1.trans y1) b1 (fun i h => (x2.lst i h).1) (fun k h => ?_)
    have := y2.fst k h
    have := x1.size
    omega
theorem spec_alt (hps : PartsOk ps) {a b : Nat} {d1 d2 : Den} (ha : Spec ps a d1) (hb : Spec ps b d2) : Spec (ps ++ [fill ps (mk 3 a b)]) ps.length (dAlt d1 d2) := by
  have e : fill ps (mk 3 a b) = { mk 3 a b with some := d1.some || d2.some, empty := d1.empty || d2.empty, places := cutP (d1.some || d2.some) (d1.places + d2.places) } := by
    rw [← ha.som, ← hb.som, ← ha.emp, ← hb.emp, ← ha.pla, ← hb.pla]; rfl
  have hF := fine_alt ha.fine hb.fine
  refine ⟨by simp, by rw [at_new, e]; rfl, by rw [at_new, e]; rfl, by rw [at_new, e]; rfl, hF, fun f hf => ?_⟩
  obtain ⟨f, rfl⟩ : ∃ g, f = g + 1 := ⟨f - 1, by omega⟩
  by_cases h0 : (dAlt d1 d2).places = 0
  · refine layL_zero hF h0 fun p => ?_
    rw [lay_none (by rw [at_new, e]; exact h0), at_new, e]
    rfl
  · intro p hp fp hz
    have hpl : (dAlt d1 d2).places ≤ 48 := by have := hp.pos; omega
    obtain ⟨c1, c2⟩ := cutP_some h0 hpl
    have c3 : (dAlt d1 d2).places = d1.places + d2.places := c2
    rw [lay_three (by rw [at_new, e]; exact h0) (by rw [at_new, e]; rfl)]
    have hal := ha.lt
    have hbl := hb.lt
    have el : (at_ (ps ++ [fill ps (mk 3 a b)]) ps.length).left = a := by rw [at_new]; rfl
    have er : (at_ (ps ++ [fill ps (mk 3 a b)]) ps.length).right = b := by rw [at_new]; rfl
    rw [el, er]
    rw [lay_app hps _ f a hal, lay_app hps _ f b hbl]
    obtain ⟨a1, a2, a3⟩ := lay_ok hps f a (by omega) hal p hp (by rw [ha.pla]; omega)
    obtain ⟨x1, x2, x3⟩ := ha.lay f (by omega) p hp fp (by omega)
    obtain ⟨y1, y2, y3⟩ := hb.lay f (by omega) _ a1 x1.fresh (by have := ha.pla; omega)
    exact ⟨x1.trans y1, frag_either a1 x1.fresh x1.size y1 x2 y2, rch_either x1.fresh y1 x2 x3 y3⟩
theorem spec_rep (hps : PartsOk ps) {q : Part} {d : Den} (hk : q.kind = 4) (ha : Spec ps q.left d) (hb : q.endless = true ∨ q.low ≤ q.high) : Spec (ps ++ [fill ps q]) ps.length (dRep d q.low q.high q.endless) := by
  have e : fill ps q = { q with some := d.some || decide (q.low = 0), empty := d.empty || decide (q.low = 0), places := cutP (d.some || decide (q.low = 0)) (d.places * (if q.endless then q.low + 1 else q.high)) } := by
    rw [← ha.som, ← ha.emp, ← ha.pla]
    unfold fill known
    rw [if_neg (by omega), if_neg (by omega), if_neg (by omega), if_neg (by omega)]
    rfl
  have hF := fine_rep (low := q.low) (high := q.high) (endless := q.endless) ha.fine hb
  refine ⟨by simp, by rw [at_new, e]; rfl, by rw [at_new, e]; rfl, by rw [at_new, e]; rfl, hF, fun f hf => ?_⟩
  obtain ⟨f, rfl⟩ : ∃ g, f = g + 1 := ⟨f - 1, by omega⟩
  by_cases h0 : (dRep d q.low q.high q.endless).places = 0
  · refine layL_zero hF h0 fun p => ?_
    rw [lay_none (by rw [at_new, e]; exact h0), at_new, e]
    rfl
  · intro p hp fp hz
    have hpl : (dRep d q.low q.high q.endless).places ≤ 48 := by have := hp.pos; omega
    obtain ⟨c1, c2⟩ := cutP_some h0 hpl
    have c3 : (dRep d q.low q.high q.endless).places = d.places * (if q.endless then q.low + 1 else q.high) := c2
    have c4 : (if q.endless = true then q.low + 1 else q.high) ≠ 0 := by
      intro e
      rw [e, Nat.mul_zero] at c3
      exact h0 c3
    have hal := ha.lt
    rw [lay_four (by rw [at_new, e]; exact h0) (by rw [at_new, e]; exact hk)]
    have el : (at_ (ps ++ [fill ps q]) ps.length).left = q.left := by rw [at_new, e]
    have e5 : (at_ (ps ++ [fill ps q]) ps.length).low = q.low := by rw [at_new, e]
    have e6 : (at_ (ps ++ [fill ps q]) ps.length).endless = q.endless := by rw [at_new, e]
    have hc : (at_ (ps ++ [fill ps q]) ps.length).copies = (if q.endless then q.low + 1 else q.high) := by rw [at_new, e]; rfl
    rw [el, e5, e6, hc, lay_app hps _ f q.left hal]
    generalize hn : (if q.endless = true then q.low + 1 else q.high) = n at *
    have hpos : 0 < 2 ^ p.size := Nat.pow_pos (by decide)
    have hL := lay_ok hps f q.left (by omega) hal
    rw [ha.pla] at hL
    have hin : ∃ u, d.lang u := by
      cases hsm : d.some with
      | true => exact ha.fine.inh hsm
      | false =>
        exfalso
        have h5 := ha.pla
        have h6 : d.places = 0 := by
          have h7 := (hps.get q.left hal).2
          have h8 := congrArg Part.places h7
          have h9 := congrArg Part.some h7
          rw [ha.som, hsm] at h9
          rw [← ha.pla, ← h8]
          show (if (known ps (at_ ps q.left)).some = false then 0 else _) = 0
          exact if_pos h9
        rw [h6, Nat.zero_mul] at c3
        exact h0 c3
    obtain ⟨x1, x2, x3⟩ := copies_frag hL (ha.lay f (by omega)) q.low q.endless n (fun h => by rw [h] at hn; simpa using hn.symm) hin p n ⟨0, 0, true⟩ p (Nat.le_refl _) hp ⟨hpos, hpos⟩ (Ext.refl fp) (by omega) (.inl (by omega)) ((frag_eps p.size).iff fun u => by
      rw [Nat.sub_self]
      constructor
      · intro h; exact ⟨0, by omega, by omega, h⟩
      · rintro ⟨m, _, h2, h3⟩
        have : m = 0 := by omega
        subst this
        exact h3) (fun i g1 g2 => absurd g2 (by omega))
    refine ⟨x1, x2.iff fun u => ?_, x3⟩
    cases he : q.endless with
    | true =>
      simp only [if_true]
      show _ ↔ ∃ m, _ ∧ _ ∧ _
      simp
    | false =>
      have hnh : n = q.high := by rw [he] at hn; simpa using hn.symm
      have hlh : q.low ≤ q.high := by rcases hb with h | h; (· rw [he] at h; cases h); exact h
      simp only [Bool.false_eq_true, if_false]
      show Rep d.lang q.low n u ↔ ∃ m, _ ∧ _ ∧ _
      constructor
      · rintro ⟨m, h1, h2, h3⟩
        exact ⟨m, by omega, .inr (by omega), h3⟩
      · rintro ⟨m, h1, h2 | h2, h3⟩
        · cases h2
        · exact ⟨m, by omega, by omega, h3⟩
end
theorem spec_acc {ps : List Part} {top : Nat} {d : Den} (hps : PartsOk ps) (h : Spec ps top d) (hp : d.places ≤ 48) (u : List UInt8) (hu : u ≠ []) : (acc (newPattern ps top) u = true ↔ d.lang u) ∧ (pl (newPattern ps top) u ≠ 0 ↔ ∃ v, d.lang (v ++ u)) := by
  have f0 : Fresh pat0 := by
    intro k hk
    show (List.replicate 49 0).getD k 0 = 0
    rw [List.getD_eq_getElem?_getD, List.getElem?_replicate]
    split <;> rfl
  have hz : pat0.size + d.places ≤ 49 := by show 1 + _ ≤ 49; omega
  obtain ⟨a1, a2, a3⟩ := lay_ok hps (top + 1) top (by omega) h.lt pat0 pat0_ok (by rw [h.pla]; exact hz)
  obtain ⟨x1, x2, x3⟩ := h.lay (top + 1) (by omega) pat0 pat0_ok f0 hz
  have hz0 : ∀ c, ((lay ps (top + 1) top pat0).2.takes.getD c 0).testBit 0 = false := by
    intro c
    rw [x1.tk c 0 (by decide)]
    show ((List.replicate 256 0).getD c 0).testBit 0 = false
    rw [List.getD_eq_getElem?_getD, List.getElem?_replicate]
    split <;> simp
  exact ⟨begins_acc (p := pat0) a1 a2 x1.fresh hz0 x2 u hu, pl_tail_iff a1 x1.fresh hz0 x2 x3 u hu⟩
end Go.Proofs.Ytjmkkkfloalliaa.Q

namespace Go.Proofs.Ytjmkkkfloalliaa.Q
set_option linter.unusedVariables false

def dnext : List UInt8 → Int
  | [] => -1
  | c :: _ => (c.toNat : Int)
def dany (r : List UInt8) : Option (Nat × List UInt8) := if dnext r = -1 then none else some ((dnext r).toNat, r.tail)
def dnum (r : List UInt8) : Option (Nat × List UInt8) :=
  if isDigit (dnext r) = false then none
  else if isDigit (dnext r.tail) = true then some (10 * ((dnext r).toNat - 48) + ((dnext r.tail).toNat - 48), r.tail.tail)
  else some ((dnext r).toNat - 48, r.tail)
/-- high, endless -/
def dbounds1 (n : Nat) (r : List UInt8) : Option (Nat × Bool × List UInt8) :=
  if dnext r = 44 then
    if isDigit (dnext r.tail) = true then
      match dnum r.tail with
      | none => none
      | some (m, r2) => some (m, false, r2)
    else some (n, true, r.tail)
  else some (n, false, r)
/-- low, high, endless, back -/
def dbounds (r : List UInt8) : Option (Nat × Nat × Bool × Bool × List UInt8) :=
  match dnum r with
  | none => none
  | some (n, r1) =>
    match dbounds1 n r1 with
    | none => none
    | some (h, e, r2) => if dnext r2 = 125 then some (n, h, e, decide (h < n), r2.tail) else none
def dmb (r : List UInt8) : Option (Nat × List UInt8) :=
  if dnext r = 92 then dany r.tail else if dnext r = 93 ∨ dnext r = 45 then none else dany r
def dmember (ins : List Bool) (r : List UInt8) : Option (List Bool × Bool × List UInt8) :=
  match dmb r with
  | none => none
  | some (a, r1) =>
    if dnext r1 = 45 then
      match dmb r1.tail with
      | none => none
      | some (b, r2) => some (setRange ins a b, decide (b < a), r2)
    else some (setRange ins a a, false, r1)
def dmembers : Nat → List Bool → Bool → List UInt8 → Option (List Bool × Bool × List UInt8)
  | 0, _, _, _ => none
  | f + 1, ins, b, r => if dnext r = 93 then some (ins, b, r.tail) else
    match dmember ins r with
    | none => none
    | some (i2, b2, r2) => dmembers f i2 (b || b2) r2
def dcls1 (r : List UInt8) : Option (List Bool × Bool × List UInt8) :=
  match dmember ins0 r with
  | none => none
  | some (i, b, r1) => dmembers (r1.length + 1) i b r1
def dcls (r : List UInt8) : Option (List Bool × Bool × List UInt8) :=
  if dnext r.tail = 94 then
    match dcls1 r.tail.tail with
    | none => none
    | some (i, b, r1) => some (turn i, b, r1)
  else dcls1 r.tail
def dleaf (r : List UInt8) : Option (List Bool × Bool × List UInt8) :=
  if stops (dnext r) = true then none
  else if dnext r = 91 then dcls r
  else if dnext r = 46 then some (turn ins0, false, r.tail)
  else if dnext r = 92 then
    match dany r.tail with
    | none => none
    | some (c, r2) => some (ins0.set c true, false, r2)
  else some (ins0.set (dnext r).toNat true, false, r.tail)
/-- low, high, endless, back -/
def drep (r : List UInt8) : Option (Nat × Nat × Bool × Bool × List UInt8) :=
  if dnext r = 42 then some (0, 0, true, false, r.tail)
  else if dnext r = 43 then some (1, 0, true, false, r.tail)
  else if dnext r = 63 then some (0, 1, false, false, r.tail)
  else dbounds r.tail

/-- σ stands ahead of r -/
structure Rs (s : List UInt8) (σ : Rd) (r : List UInt8) : Prop where
  wrong : σ.wrong = false
  le : σ.at_ ≤ s.length
  rest : s.drop σ.at_ = r
variable {s r : List UInt8} {σ : Rd}
theorem Rs.next (h : Rs s σ r) : next s σ = dnext r := by
  have h1 := h.wrong
  have h2 := h.le
  unfold Q.next
  rw [← h.rest]
  rcases Nat.lt_or_ge σ.at_ s.length with g | g
  · rw [if_neg (by rintro (e | e); (· rw [h1] at e; cases e); omega), List.drop_eq_getElem_cons g]
    simp [dnext, List.getD_eq_getElem?_getD, List.getElem?_eq_getElem g]
  · rw [if_pos (.inr g), List.drop_eq_nil_of_le g]
    rfl
theorem Rs.fwd (h : Rs s σ r) (g : dnext r ≠ -1) : Rs s (fwd σ) r.tail := by
  have h2 : σ.at_ < s.length := by
    rcases Nat.lt_or_ge σ.at_ s.length with k | k
    · exact k
    · have := h.rest
      rw [List.drop_eq_nil_of_le k] at this
      rw [← this] at g
      exact absurd rfl g
  exact ⟨h.wrong, h2, by show s.drop (σ.at_ + 1) = _; rw [← h.rest, List.tail_drop]⟩
theorem Rs.len (h : Rs s σ r) : left s σ = r.length := by
  unfold left
  rw [if_neg (by rw [h.wrong]; decide), ← h.rest, List.length_drop]
theorem next_wrong (h : σ.wrong = true) : next s σ = -1 := by unfold next; rw [if_pos (.inl h)]
theorem Rs.any (h : Rs s σ r) : (dany r = none → (anyByte s σ).2.wrong = true) ∧ ∀ n r2, dany r = some (n, r2) → ∃ k, anyByte s σ = (n, { σ with at_ := k }) ∧ Rs s { σ with at_ := k } r2 := by
  unfold dany anyByte
  rw [h.next]
  by_cases g : dnext r = -1
  · rw [if_pos g, if_pos g]
    exact ⟨fun _ => rfl, fun n r2 e => by cases e⟩
  · rw [if_neg g, if_neg g]
    refine ⟨fun e => (by cases e), fun n r2 e => ?_⟩
    cases e
    exact ⟨_, rfl, h.fwd g⟩
theorem digit_next {c : Int} (h : isDigit c = true) : c ≠ -1 := by
  have := isDigit_ne h
  omega
theorem Rs.num (h : Rs s σ r) : (dnum r = none → (number s σ).2.wrong = true) ∧ ∀ n r2, dnum r = some (n, r2) → ∃ k, number s σ = (n, { σ with at_ := k }) ∧ Rs s { σ with at_ := k } r2 := by
  unfold dnum number
  rw [h.next]
  by_cases g : isDigit (dnext r) = false
  · rw [if_pos g, if_pos g]
    exact ⟨fun _ => rfl, fun n r2 e => by cases e⟩
  · rw [if_neg g, if_neg g]
    have h2 := h.fwd (digit_next (by simpa using g))
    rw [h2.next]
    by_cases g2 : isDigit (dnext r.tail) = true
    · rw [if_pos g2, if_pos g2]
      refine ⟨fun e => (by cases e), fun n r2 e => ?_⟩
      cases e
      exact ⟨_, rfl, h2.fwd (digit_next g2)⟩
    · rw [if_neg g2, if_neg g2]
      refine ⟨fun e => (by cases e), fun n r2 e => ?_⟩
      cases e
      exact ⟨_, rfl, h2⟩
theorem number_wrong (h : σ.wrong = true) : (number s σ).2.wrong = true := (number_on σ).wrong h
theorem bounds1_of {n : Nat} {τ : Rd} (h : number s σ = (n, τ)) (hτ : Rs s τ r) : (dbounds1 n r = none → (bounds1 s σ).2.2.wrong = true) ∧ ∀ m e r2, dbounds1 n r = some (m, e, r2) → ∃ k, bounds1 s σ = (m, e, { τ with at_ := k }) ∧ Rs s { τ with at_ := k } r2 := by
  unfold dbounds1 bounds1
  rw [h]
  simp only
  rw [hτ.next]
  by_cases g : dnext r = 44
  · rw [if_pos g, if_pos g]
    have h2 := hτ.fwd (by rw [g]; decide)
    rw [h2.next]
    by_cases g2 : isDigit (dnext r.tail) = true
    · rw [if_pos g2, if_pos g2]
      cases e : dnum r.tail with
      | none =>
        exact ⟨fun _ => h2.num.1 e, fun m e r2 x => by cases x⟩
      | some x =>
        obtain ⟨m, r2⟩ := x
        obtain ⟨k, e1, e2⟩ := h2.num.2 m r2 e
        refine ⟨fun x => (by cases x), fun m' e' r2' x => ?_⟩
        cases x
        rw [e1]
        exact ⟨k, rfl, e2⟩
    · rw [if_neg g2, if_neg g2]
      refine ⟨fun x => (by cases x), fun m' e' r2' x => ?_⟩
      cases x
      exact ⟨_, rfl, h2⟩
  · rw [if_neg g, if_neg g]
    refine ⟨fun x => (by cases x), fun m' e' r2' x => ?_⟩
    cases x
    exact ⟨_, rfl, hτ⟩
theorem need_wrong {c : Int} (hc : c ≠ -1) (h : σ.wrong = true) : (need s c σ).wrong = true := (need_on c hc σ).wrong h
theorem Rs.back (h : Rs s σ r) (b : Bool) : Rs s { σ with back := b } r := ⟨h.wrong, h.le, h.rest⟩
theorem Rs.bounds (h : Rs s σ r) (p : Part) : (dbounds r = none → (bounds s p σ).2.wrong = true) ∧ ∀ lo hi e b r2, dbounds r = some (lo, hi, e, b, r2) → ∃ k, Q.bounds s p σ = ({ p with low := lo, high := hi, endless := p.endless || e }, { σ with at_ := k, back := σ.back || b }) ∧ Rs s { σ with at_ := k, back := σ.back || b } r2 := by
  unfold dbounds
  cases e1 : dnum r with
  | none =>
    refine ⟨fun _ => ?_, fun _ _ _ _ _ x => by cases x⟩
    have hw := h.num.1 e1
    unfold Q.bounds
    refine need_wrong (by decide) ?_
    show (bounds1 s σ).2.2.wrong = true
    unfold bounds1
    rw [next_wrong hw, if_neg (by decide)]
    exact hw
  | some x =>
    obtain ⟨n, r1⟩ := x
    obtain ⟨k1, q1, q2⟩ := h.num.2 n r1 e1
    have B := bounds1_of q1 q2
    cases e2 : dbounds1 n r1 with
    | none =>
      simp only
      rw [e2]
      refine ⟨fun _ => ?_, fun _ _ _ _ _ x => by cases x⟩
      exact need_wrong (by decide) (B.1 e2)
    | some x =>
      obtain ⟨m, e, r2⟩ := x
      obtain ⟨k2, q3, q4⟩ := B.2 m e r2 e2
      simp only
      rw [e2]
      simp only
      have q5 := q4.back (σ.back || decide (m < n))
      unfold Q.bounds
      rw [q3, q1]
      simp only
      unfold need
      rw [q5.next]
      by_cases g : dnext r2 = 125
      · rw [if_pos g, if_pos g]
        refine ⟨fun x => (by cases x), fun _ _ _ _ _ x => ?_⟩
        cases x
        exact ⟨_, rfl, q5.fwd (by rw [g]; decide)⟩
      · rw [if_neg g, if_neg g]
        exact ⟨fun _ => rfl, fun _ _ _ _ _ x => by cases x⟩
theorem Rs.mb (h : Rs s σ r) : (dmb r = none → (memberByte s σ).2.wrong = true) ∧ ∀ n r2, dmb r = some (n, r2) → ∃ k, memberByte s σ = (n, { σ with at_ := k }) ∧ Rs s { σ with at_ := k } r2 := by
  unfold dmb memberByte
  rw [h.next]
  by_cases g : dnext r = 92
  · rw [if_pos g, if_pos g]
    have h2 := h.fwd (by rw [g]; decide)
    exact h2.any
  · rw [if_neg g, if_neg g]
    by_cases g2 : dnext r = 93 ∨ dnext r = 45
    · rw [if_pos g2, if_pos g2]
      exact ⟨fun _ => (anyByte_on _).wrong rfl, fun _ _ x => by cases x⟩
    · rw [if_neg g2, if_neg g2]
      exact h.any
theorem Rs.member (h : Rs s σ r) (ins : List Bool) : (dmember ins r = none → (member s ins σ).2.wrong = true) ∧ ∀ i b r2, dmember ins r = some (i, b, r2) → ∃ k, Q.member s ins σ = (i, { σ with at_ := k, back := σ.back || b }) ∧ Rs s { σ with at_ := k, back := σ.back || b } r2 := by
  unfold dmember
  cases e1 : dmb r with
  | none =>
    refine ⟨fun _ => ?_, fun _ _ _ x => by cases x⟩
    have hw := h.mb.1 e1
    unfold Q.member member1
    rw [next_wrong hw, if_neg (by decide)]
    exact hw
  | some x =>
    obtain ⟨a, r1⟩ := x
    obtain ⟨k1, q1, q2⟩ := h.mb.2 a r1 e1
    simp only
    unfold Q.member member1
    rw [q1]
    simp only
    rw [q2.next]
    by_cases g : dnext r1 = 45
    · rw [if_pos g, if_pos g]
      have q3 := q2.fwd (by rw [g]; decide)
      cases e2 : dmb r1.tail with
      | none => exact ⟨fun _ => q3.mb.1 e2, fun _ _ _ x => by cases x⟩
      | some x =>
        obtain ⟨b, r2⟩ := x
        obtain ⟨k3, q4, q5⟩ := q3.mb.2 b r2 e2
        refine ⟨fun x => (by cases x), fun _ _ _ x => ?_⟩
        cases x
        rw [q4]
        exact ⟨k3, rfl, q5.back _⟩
    · rw [if_neg g, if_neg g]
      refine ⟨fun x => (by cases x), fun _ _ _ x => ?_⟩
      cases x
      refine ⟨k1, ?_, q2.back _⟩
      simp
theorem dmb_len {r r2 : List UInt8} {n : Nat} (h : dmb r = some (n, r2)) : r2.length < r.length := by
  unfold dmb dany at h
  cases r with
  | nil => simp [dnext] at h
  | cons c r =>
    split at h
    · split at h
      · cases h
      · cases h; simp; omega
    · split at h
      · cases h
      · split at h
        · cases h
        · cases h; simp
theorem dmember_len {r r2 : List UInt8} {ins i : List Bool} {b : Bool} (h : dmember ins r = some (i, b, r2)) : r2.length < r.length := by
  unfold dmember at h
  split at h
  · cases h
  · next a r1 e =>
    have := dmb_len e
    split at h
    · split at h
      · cases h
      · next b r3 e2 =>
        have := dmb_len e2
        cases h
        simp at this; omega
    · cases h; exact this
theorem Rs.members : ∀ (f : Nat) (ins : List Bool) (b : Bool) (r : List UInt8) (σ : Rd), Rs s σ r → r.length < f →
    (dmembers f ins b r = none → (members s f ins { σ with back := σ.back || b }).2.wrong = true) ∧ ∀ i b2 r2, dmembers f ins b r = some (i, b2, r2) → ∃ k, Q.members s f ins { σ with back := σ.back || b } = (i, { σ with at_ := k, back := σ.back || b2 }) ∧ Rs s { σ with at_ := k, back := σ.back || b2 } r2
  | 0, _, _, _, _, _, hl => by omega
  | f + 1, ins, b, r, σ, h, hl => by
    have h0 := h.back (σ.back || b)
    unfold dmembers Q.members
    rw [if_neg (show ¬ ({ σ with back := σ.back || b } : Rd).wrong = true by rw [h0.wrong]; decide), h0.next]
    by_cases g : dnext r = 93
    · rw [if_pos g, if_pos g]
      refine ⟨fun x => (by cases x), fun _ _ _ x => ?_⟩
      cases x
      exact ⟨_, rfl, h0.fwd (by rw [g]; decide)⟩
    · rw [if_neg g, if_neg g]
      have M := h0.member ins
      cases e : dmember ins r with
      | none => exact ⟨fun _ => (members_on f _ _).wrong (M.1 e), fun _ _ _ x => by cases x⟩
      | some x =>
        obtain ⟨i2, b2, r2⟩ := x
        obtain ⟨k, q1, q2⟩ := M.2 i2 b2 r2 e
        simp only at q1 q2
        rw [q1]
        simp only
        have hl2 := dmember_len e
        have q3 : Rs s { σ with at_ := k } r2 := ⟨q2.wrong, q2.le, q2.rest⟩
        have I := Rs.members f i2 (b || b2) r2 _ q3 (by omega)
        simp only [Bool.or_assoc] at I ⊢
        exact I
theorem Rs.cls1 (h : Rs s σ r) (F : Nat) (hF : r.length < F) : (dcls1 r = none → (Q.members s F (Q.member s ins0 σ).1 (Q.member s ins0 σ).2).2.wrong = true) ∧ ∀ i b r2, dcls1 r = some (i, b, r2) → ∃ k, Q.members s F (Q.member s ins0 σ).1 (Q.member s ins0 σ).2 = (i, { σ with at_ := k, back := σ.back || b }) ∧ Rs s { σ with at_ := k, back := σ.back || b } r2 := by
  unfold dcls1
  have M := h.member ins0
  cases e : dmember ins0 r with
  | none => exact ⟨fun _ => (members_on _ _ _).wrong (M.1 e), fun _ _ _ x => by cases x⟩
  | some x =>
    obtain ⟨i, b, r1⟩ := x
    obtain ⟨k, q1, q2⟩ := M.2 i b r1 e
    simp only
    rw [q1]
    simp only
    have hl := dmember_len e
    have q3 : Rs s { σ with at_ := k } r1 := ⟨q2.wrong, q2.le, q2.rest⟩
    have I := Rs.members (r1.length + 1) i b r1 _ q3 (by omega)
    rw [members_more F (r1.length + 1) i _ (.inr (by rw [q2.len]; omega)) (.inr (by rw [q2.len]; omega)) (by omega) (by omega)]
    exact I
theorem Rs.cls (h : Rs s σ r) (hn : dnext r ≠ -1) : (dcls r = none → (cls s ins0 σ).2.wrong = true) ∧ ∀ i b r2, dcls r = some (i, b, r2) → ∃ k, Q.cls s ins0 σ = (i, { σ with at_ := k, back := σ.back || b }) ∧ Rs s { σ with at_ := k, back := σ.back || b } r2 := by
  have h1 := h.fwd hn
  have hl : r.length ≤ s.length := by rw [← h.rest]; simp
  unfold dcls Q.cls
  rw [h1.next]
  by_cases g : dnext r.tail = 94
  · rw [if_pos g, if_pos g]
    have h2 := h1.fwd (by rw [g]; decide)
    have C := h2.cls1 (s.length + 1) (by simp; omega)
    cases e : dcls1 r.tail.tail with
    | none => exact ⟨fun _ => C.1 e, fun _ _ _ x => by cases x⟩
    | some x =>
      obtain ⟨i, b, r1⟩ := x
      obtain ⟨k, q1, q2⟩ := C.2 i b r1 e
      refine ⟨fun x => (by cases x), fun _ _ _ x => ?_⟩
      cases x
      rw [q1]
      exact ⟨k, rfl, q2⟩
  · rw [if_neg g, if_neg g]
    exact h1.cls1 (s.length + 1) (by simp; omega)
theorem Rs.leaf (h : Rs s σ r) : (dleaf r = none → (leaf s σ).2.wrong = true) ∧ ∀ i b r2, dleaf r = some (i, b, r2) → ∃ k, Q.leaf s σ = ({ Q.mk 1 0 0 with ins := i }, { σ with at_ := k, back := σ.back || b }) ∧ Rs s { σ with at_ := k, back := σ.back || b } r2 := by
  have nob : ∀ τ : Rd, ({ τ with back := τ.back || false } : Rd) = τ := fun τ => by simp
  unfold dleaf Q.leaf
  rw [h.next]
  by_cases g : stops (dnext r) = true
  · rw [if_pos g, if_pos g]
    exact ⟨fun _ => rfl, fun _ _ _ x => by cases x⟩
  rw [if_neg g, if_neg g]
  have hn := stops_none (by simpa using g)
  by_cases g1 : dnext r = 91
  · rw [if_pos g1, if_pos g1]
    have C := h.cls hn
    refine ⟨C.1, fun i b r2 x => ?_⟩
    obtain ⟨k, q1, q2⟩ := C.2 i b r2 x
    rw [q1]
    exact ⟨k, rfl, q2⟩
  rw [if_neg g1, if_neg g1]
  by_cases g2 : dnext r = 46
  · rw [if_pos g2, if_pos g2]
    refine ⟨fun x => (by cases x), fun _ _ _ x => ?_⟩
    cases x
    refine ⟨σ.at_ + 1, ?_, (h.fwd hn).back _⟩
    simp [Q.fwd]
  rw [if_neg g2, if_neg g2]
  by_cases g3 : dnext r = 92
  · rw [if_pos g3, if_pos g3]
    have h2 := (h.fwd hn).any
    cases e : dany r.tail with
    | none => exact ⟨fun _ => h2.1 e, fun _ _ _ x => by cases x⟩
    | some x =>
      obtain ⟨c, r2⟩ := x
      obtain ⟨k, q1, q2⟩ := h2.2 c r2 e
      refine ⟨fun x => (by cases x), fun _ _ _ x => ?_⟩
      cases x
      rw [q1]
      refine ⟨k, ?_, q2.back _⟩
      simp [Q.fwd]
  rw [if_neg g3, if_neg g3]
  refine ⟨fun x => (by cases x), fun _ _ _ x => ?_⟩
  cases x
  refine ⟨σ.at_ + 1, ?_, (h.fwd hn).back _⟩
  simp [Q.fwd]
theorem Rs.rep (h : Rs s σ r) (n : Nat) (hr : isRep (dnext r) = true) : (drep r = none → (repPart s n σ).2.wrong = true) ∧ ∀ lo hi e b r2, drep r = some (lo, hi, e, b, r2) → ∃ k, repPart s n σ = ({ Q.mk 4 n 0 with low := lo, high := hi, endless := e }, { σ with at_ := k, back := σ.back || b }) ∧ Rs s { σ with at_ := k, back := σ.back || b } r2 := by
  have hn : dnext r ≠ -1 := by intro e; rw [e] at hr; cases hr
  have h1 := h.fwd hn
  unfold drep repPart
  rw [h.next]
  by_cases g1 : dnext r = 42
  · rw [if_pos g1, if_pos g1]
    refine ⟨fun x => (by cases x), fun _ _ _ _ _ x => ?_⟩
    cases x
    refine ⟨σ.at_ + 1, ?_, h1.back _⟩
    simp [Q.fwd, Q.mk]
  rw [if_neg g1, if_neg g1]
  by_cases g2 : dnext r = 43
  · rw [if_pos g2, if_pos g2]
    refine ⟨fun x => (by cases x), fun _ _ _ _ _ x => ?_⟩
    cases x
    refine ⟨σ.at_ + 1, ?_, h1.back _⟩
    simp [Q.fwd, Q.mk]
  rw [if_neg g2, if_neg g2]
  by_cases g3 : dnext r = 63
  · rw [if_pos g3, if_pos g3]
    refine ⟨fun x => (by cases x), fun _ _ _ _ _ x => ?_⟩
    cases x
    refine ⟨σ.at_ + 1, ?_, h1.back _⟩
    simp [Q.fwd, Q.mk]
  rw [if_neg g3, if_neg g3]
  have B := h1.bounds (Q.mk 4 n 0)
  refine ⟨B.1, fun lo hi e b r2 x => ?_⟩
  obtain ⟨k, q1, q2⟩ := B.2 lo hi e b r2 x
  refine ⟨k, ?_, q2⟩
  rw [q1]
  simp [Q.fwd, Q.mk]
end Go.Proofs.Ytjmkkkfloalliaa.Q

namespace Go.Proofs.Ytjmkkkfloalliaa.Q
set_option linter.unusedVariables false

/-- what was read: what it stands for, what is left, whether bounds go back, how deep -/
abbrev Out : Type := Option (Den × List UInt8 × Bool × Nat)
def after (x : Out) (k : Den → List UInt8 → Out) : Out :=
  match x with
  | none => none
  | some (d, r, b, m) =>
    match k d r with
    | none => none
    | some (d2, r2, b2, m2) => some (d2, r2, b || b2, max m m2)
abbrev DJob : Type := Unit ⊕ Den ⊕ Unit ⊕ Den ⊕ Unit ⊕ Den ⊕ Unit
abbrev DJob.alt : DJob := .inl ()
abbrev DJob.altL (n : Den) : DJob := .inr (.inl n)
abbrev DJob.seq : DJob := .inr (.inr (.inl ()))
abbrev DJob.seqL (n : Den) : DJob := .inr (.inr (.inr (.inl n)))
abbrev DJob.rep : DJob := .inr (.inr (.inr (.inr (.inl ()))))
abbrev DJob.repL (n : Den) : DJob := .inr (.inr (.inr (.inr (.inr (.inl n)))))
abbrev DJob.term : DJob := .inr (.inr (.inr (.inr (.inr (.inr ())))))
def dgo : Nat → DJob → List UInt8 → Out
  | 0, _, _ => none
  | f + 1, .inl (), r => after (dgo f .seq r) (fun d r1 => dgo f (.altL d) r1)
  | f + 1, .inr (.inl d), r => if dnext r = 124 then after (dgo f .seq r.tail) (fun d2 r1 => dgo f (.altL (dAlt d d2)) r1) else some (d, r, false, 0)
  | f + 1, .inr (.inr (.inl ())), r => dgo f (.seqL dEps) r
  | f + 1, .inr (.inr (.inr (.inl d))), r => if ends (dnext r) = true then some (d, r, false, 0) else after (dgo f .rep r) (fun d2 r1 => dgo f (.seqL (dCat d d2)) r1)
  | f + 1, .inr (.inr (.inr (.inr (.inl ())))), r => after (dgo f .term r) (fun d r1 => dgo f (.repL d) r1)
  | f + 1, .inr (.inr (.inr (.inr (.inr (.inl d))))), r => if isRep (dnext r) = true then
      match drep r with
      | none => none
      | some (lo, hi, e, b, r1) => after (some (dRep d lo hi e, r1, b, 0)) (fun d r => dgo f (.repL d) r)
    else some (d, r, false, 0)
  | f + 1, .inr (.inr (.inr (.inr (.inr (.inr ()))))), r => if dnext r = 40 then
      match dgo f .alt r.tail with
      | none => none
      | some (d, r1, b, m) => if dnext r1 = 41 then some (d, r1.tail, b, m + 1) else none
    else
      match dleaf r with
      | none => none
      | some (ins, b, r1) => some (dByte ins, r1, b, 0)

structure Ends (s : List UInt8) (σ : Rd) (x : Nat × Rd) (d : Den) (r : List UInt8) (b : Bool) (m : Nat) : Prop where
  rs : Rs s x.2 r
  back : x.2.back = (σ.back || b)
  depth : x.2.depth = σ.depth
  deepest : x.2.deepest = max σ.deepest (σ.depth + m)
  spec : x.2.back = false → Spec x.2.parts x.1 d
def Corr (s : List UInt8) (σ : Rd) (x : Nat × Rd) (o : Out) : Prop := (o = none → x.2.wrong = true) ∧ ∀ d r b m, o = some (d, r, b, m) → Ends s σ x d r b m
variable {s : List UInt8}
theorem Corr.none {σ : Rd} {x : Nat × Rd} (h : x.2.wrong = true) : Corr s σ x none := ⟨fun _ => h, fun _ _ _ _ e => by cases e⟩
theorem Corr.some {σ : Rd} {x : Nat × Rd} {d : Den} {r : List UInt8} {b : Bool} {m : Nat} (h : Ends s σ x d r b m) : Corr s σ x (some (d, r, b, m)) :=
  ⟨fun e => (by cases e), fun _ _ _ _ e => (by cases e; exact h)⟩
theorem Corr.of {σ τ : Rd} {x : Nat × Rd} {o : Out} (h : Corr s σ x o) (h1 : τ.back = σ.back) (h2 : τ.depth = σ.depth) (h3 : τ.deepest = σ.deepest) : Corr s τ x o := by
  refine ⟨h.1, fun d r b m e => ?_⟩
  have g := h.2 d r b m e
  exact ⟨g.rs, by rw [h1]; exact g.back, by rw [h2]; exact g.depth, by rw [h2, h3]; exact g.deepest, g.spec⟩
theorem corr_after {σ : Rd} {x1 x2 : Nat × Rd} {o : Out} {k : Den → List UInt8 → Out} (h1 : Corr s σ x1 o) (h2 : ∀ d r b m, o = some (d, r, b, m) → Corr s x1.2 x2 (k d r)) (hw : x1.2.wrong = true → x2.2.wrong = true) : Corr s σ x2 (after o k) := by
  unfold after
  cases o with
  | none => exact Corr.none (hw (h1.1 rfl))
  | some y =>
    obtain ⟨d, r, b, m⟩ := y
    have e1 := h1.2 d r b m rfl
    have c2 := h2 d r b m rfl
    simp only
    cases e : k d r with
    | none => exact Corr.none (c2.1 e)
    | some y =>
      obtain ⟨d2, r2, b2, m2⟩ := y
      have e2 := c2.2 d2 r2 b2 m2 e
      refine Corr.some ⟨e2.rs, ?_, ?_, ?_, e2.spec⟩
      · rw [e2.back, e1.back, Bool.or_assoc]
      · rw [e2.depth, e1.depth]
      · rw [e2.deepest, e1.deepest, e1.depth]; omega
def Pay (σ : Rd) (n : Nat) (d : Den) : Prop := n < σ.parts.length ∧ (σ.back = false → Spec σ.parts n d)
structure Rdy (s : List UInt8) (σ : Rd) (r : List UInt8) : Prop where
  rs : Rs s σ r
  ok : PartsOk σ.parts
  deep : σ.depth ≤ σ.deepest
theorem Ends.rdy {σ : Rd} {x : Nat × Rd} {d : Den} {r : List UInt8} {b : Bool} {m : Nat} (h : Ends s σ x d r b m) (ok : PartsOk x.2.parts) : Rdy s x.2 r := ⟨h.rs, ok, by rw [h.depth, h.deepest]; omega⟩
theorem Rdy.add {σ : Rd} {r : List UInt8} {p : Part} (h : Rdy s σ r) (hp : PartOk σ.parts.length p) : Rdy s (add p σ).2 r := ⟨⟨h.rs.wrong, h.rs.le, h.rs.rest⟩, h.ok.add hp, h.deep⟩
theorem Rdy.fwd {σ : Rd} {r : List UInt8} (h : Rdy s σ r) (g : dnext r ≠ -1) : Rdy s (fwd σ) r.tail := ⟨h.rs.fwd g, h.ok, h.deep⟩
theorem corr_go : ∀ f : Nat,
    (∀ σ r, 8 * r.length + 6 ≤ f → Rdy s σ r → Corr s σ (go s f .alt σ) (dgo f .alt r)) ∧
    (∀ σ r n d, 8 * r.length + 1 ≤ f → Rdy s σ r → Pay σ n d → Corr s σ (go s f (.altL n) σ) (dgo f (.altL d) r)) ∧
    (∀ σ r, 8 * r.length + 5 ≤ f → Rdy s σ r → Corr s σ (go s f .seq σ) (dgo f .seq r)) ∧
    (∀ σ r n d, 8 * r.length + 4 ≤ f → Rdy s σ r → Pay σ n d → Corr s σ (go s f (.seqL n) σ) (dgo f (.seqL d) r)) ∧
    (∀ σ r, 8 * r.length + 3 ≤ f → Rdy s σ r → Corr s σ (go s f .rep σ) (dgo f .rep r)) ∧
    (∀ σ r n d, 8 * r.length + 1 ≤ f → Rdy s σ r → Pay σ n d → Corr s σ (go s f (.repL n) σ) (dgo f (.repL d) r)) ∧
    (∀ σ r, 8 * r.length + 1 ≤ f → Rdy s σ r → Corr s σ (go s f .term σ) (dgo f .term r))
  | 0 => ⟨fun _ _ h => by omega, fun _ _ _ _ h => by omega, fun _ _ h => by omega, fun _ _ _ _ h => by omega, fun _ _ h => by omega, fun _ _ _ _ h => by omega, fun _ _ h => by omega⟩
  | f + 1 => by
    obtain ⟨iAlt, iAltL, iSeq, iSeqL, iRep, iRepL, iTerm⟩ := corr_go f
    have gd : ∀ (j : Job) (σ : Rd) (r : List UInt8), Rdy s σ r → 8 * r.length + j.rank ≤ f → j.ok σ → Good (s := s) σ (go s f j σ) ∧ j.adv (s := s) σ (go s f j σ) := fun j σ r h hf ho => go_good f j σ (by rw [h.rs.len]; exact hf) h.ok ho
    have lens : ∀ {σ τ : Rd} {r r2 : List UInt8}, Rs s σ r → Rs s τ r2 → On s σ τ → r2.length ≤ r.length := fun h1 h2 o => by rw [← h1.len, ← h2.len]; exact o.left
    refine ⟨?_, ?_, ?_, ?_, ?_, ?_, ?_⟩
    · -- alt
      intro σ r hf h
      have g1 := (gd .seq σ r h (by simp only [Job.rank]; omega) trivial).1
      have c1 := iSeq σ r (by omega) h
      have hl1 := g1.on.left
      rw [h.rs.len] at hl1
      unfold go dgo
      refine corr_after c1 (fun d r1 b m e => ?_) (fun hw => (go_good f (.altL _) _ (by simp only [Job.rank]; omega) g1.ok g1.lt).1.on.wrong hw)
      have e1 := c1.2 d r1 b m e
      have hl := lens h.rs e1.rs g1.on
      exact iAltL _ r1 _ d (by omega) (e1.rdy g1.ok) ⟨g1.lt, e1.spec⟩
    · -- altL
      intro σ r n d hf h hp
      unfold go dgo
      rw [h.rs.next]
      by_cases g : dnext r = 124
      · rw [if_pos g, if_pos g]
        have hne : dnext r ≠ -1 := by rw [g]; decide
        have h1 := h.fwd hne
        have hrl : r.tail.length + 1 = r.length := by
          cases r with
          | nil => exact absurd rfl hne
          | cons a r => rfl
        have g1 := (gd .seq _ _ h1 (by simp only [Job.rank]; omega) trivial).1
        have c1 := iSeq _ _ (by omega) h1
        have hl1 := g1.on.left
        rw [h1.rs.len] at hl1
        have hn2 : n < (go s f .seq (fwd σ)).2.parts.length := Nat.lt_of_lt_of_le hp.1 g1.len
        have hpo : PartOk (go s f .seq (fwd σ)).2.parts.length (mk 3 n (go s f .seq (fwd σ)).1) := mk_ok _ _ _ _ (by omega) (fun _ => hn2) (fun _ => g1.lt)
        have c1' : Corr s σ (go s f .seq (fwd σ)) (dgo f .seq r.tail) := c1.of rfl rfl rfl
        refine corr_after c1' (fun d2 r1 b m e => ?_) (fun hw => (go_good f (.altL _) _ (by simp only [Job.rank]; have : left s (add (mk 3 n (go s f .seq (fwd σ)).1) (go s f .seq (fwd σ)).2).2 = left s (go s f .seq (fwd σ)).2 := rfl; omega) (g1.ok.add hpo) (by simp [Q.add, Job.ok])).1.on.wrong hw)
        have e1 := c1.2 d2 r1 b m e
        have hl := lens h1.rs e1.rs g1.on
        refine Corr.of (iAltL _ r1 _ (dAlt d d2) (by omega) ((e1.rdy g1.ok).add hpo) ⟨by simp [Q.add], fun hb => ?_⟩) rfl rfl rfl
        have hb1 : (go s f .seq (fwd σ)).2.back = false := hb
        have hb0 : σ.back = false := by
          have := e1.back
          rw [hb1] at this
          exact (Bool.or_eq_false_iff.1 this.symm).1
        obtain ⟨l, hg⟩ := g1.grow
        have s1 := (hp.2 hb0).app h.ok l
        have hg2 : (go s f .seq (fwd σ)).2.parts = σ.parts ++ l := hg
        rw [← hg2] at s1
        exact spec_alt g1.ok s1 (e1.spec hb1)
      · rw [if_neg g, if_neg g]
        exact Corr.some ⟨h.rs, by simp, rfl, by have := h.deep; show σ.deepest = _; omega, hp.2⟩
    · -- seq
      intro σ r hf h
      unfold go dgo
      have hpo : PartOk σ.parts.length (mk 0 0 0) := mk_ok _ _ _ _ (by omega) (fun h => by omega) (fun h => by omega)
      exact Corr.of (iSeqL _ r _ dEps (by omega) (h.add hpo) ⟨by simp [Q.add], fun _ => spec_eps h.ok⟩) rfl rfl rfl
    · -- seqL
      intro σ r n d hf h hp
      unfold go dgo
      rw [h.rs.next]
      by_cases g : ends (dnext r) = true
      · rw [if_pos g, if_pos g]
        exact Corr.some ⟨h.rs, by simp, rfl, by have := h.deep; show σ.deepest = _; omega, hp.2⟩
      · rw [if_neg g, if_neg g]
        have hne : dnext r ≠ -1 := by intro e; rw [e] at g; exact g rfl
        obtain ⟨g1, a1⟩ := gd .rep σ r h (by simp only [Job.rank]; omega) trivial
        have c1 := iRep σ r (by omega) h
        have hl1 : left s (go s f .rep σ).2 < left s σ := a1 (by rw [h.rs.next]; exact hne)
        have hl0 := h.rs.len
        have hn2 : n < (go s f .rep σ).2.parts.length := Nat.lt_of_lt_of_le hp.1 g1.len
        have hpo : PartOk (go s f .rep σ).2.parts.length (mk 2 n (go s f .rep σ).1) := mk_ok _ _ _ _ (by omega) (fun _ => hn2) (fun _ => g1.lt)
        refine corr_after c1 (fun d2 r1 b m e => ?_) (fun hw => (go_good f (.seqL _) _ (by simp only [Job.rank]; have : left s (add (mk 2 n (go s f .rep σ).1) (go s f .rep σ).2).2 = left s (go s f .rep σ).2 := rfl; omega) (g1.ok.add hpo) (by simp [Q.add, Job.ok])).1.on.wrong hw)
        have e1 := c1.2 d2 r1 b m e
        have hl := e1.rs.len
        refine Corr.of (iSeqL _ r1 _ (dCat d d2) (by omega) ((e1.rdy g1.ok).add hpo) ⟨by simp [Q.add], fun hb => ?_⟩) rfl rfl rfl
        have hb1 : (go s f .rep σ).2.back = false := hb
        have hb0 : σ.back = false := by
          have := e1.back
          rw [hb1] at this
          exact (Bool.or_eq_false_iff.1 this.symm).1
        obtain ⟨l, hg⟩ := g1.grow
        have s1 := (hp.2 hb0).app h.ok l
        rw [← hg] at s1
        exact spec_cat g1.ok s1 (e1.spec hb1)
    · -- rep
      intro σ r hf h
      have g1 := (gd .term σ r h (by simp only [Job.rank]; omega) trivial).1
      have c1 := iTerm σ r (by omega) h
      have hl1 := g1.on.left
      rw [h.rs.len] at hl1
      unfold go dgo
      refine corr_after c1 (fun d r1 b m e => ?_) (fun hw => (go_good f (.repL _) _ (by simp only [Job.rank]; omega) g1.ok g1.lt).1.on.wrong hw)
      have e1 := c1.2 d r1 b m e
      have hl := lens h.rs e1.rs g1.on
      exact iRepL _ r1 _ d (by omega) (e1.rdy g1.ok) ⟨g1.lt, e1.spec⟩
    · -- repL
      intro σ r n d hf h hp
      unfold go dgo
      rw [h.rs.next]
      by_cases g : isRep (dnext r) = true
      · rw [if_pos g, if_pos g]
        obtain ⟨o1, hne⟩ := repPart_on (s := s) n σ (by rw [h.rs.next]; exact g)
        have hl1 := o1.left
        have hl2 := fwd_left hne
        have hl0 := h.rs.len
        have hpp : (repPart s n σ).2.parts = σ.parts := repPart_parts n σ
        have hpo : PartOk (repPart s n σ).2.parts.length (repPart s n σ).1 := repPart_ok _ _ _ (by rw [hpp]; exact hp.1)
        have hok : PartsOk (repPart s n σ).2.parts := by rw [hpp]; exact h.ok
        have hadd : left s (add (repPart s n σ).1 (repPart s n σ).2).2 = left s (repPart s n σ).2 := rfl
        have R := h.rs.rep n g
        have hwr : (repPart s n σ).2.wrong = true → (go s f (.repL (add (repPart s n σ).1 (repPart s n σ).2).1) (add (repPart s n σ).1 (repPart s n σ).2).2).2.wrong = true :=
          fun hw => (go_good f (.repL _) _ (by simp only [Job.rank]; omega) (hok.add hpo) (by simp [Q.add, Job.ok])).1.on.wrong hw
        cases e : drep r with
        | none => exact Corr.none (hwr (R.1 e))
        | some y =>
          obtain ⟨lo, hi, en, b, r1⟩ := y
          obtain ⟨k, q1, q2⟩ := R.2 lo hi en b r1 e
          simp only
          have hlen : r1.length < r.length := by
            rw [q1] at hl1
            have h5 := q2.len
            have h6 : left s { σ with at_ := k, back := σ.back || b } ≤ left s (fwd σ) := hl1
            omega
          have hbk : b = false → en = true ∨ lo ≤ hi := by
            intro hb
            unfold drep at e
            split at e
            · cases e; exact .inl rfl
            · split at e
              · cases e; exact .inl rfl
              · split at e
                · cases e; exact .inr (by omega)
                · unfold dbounds at e
                  split at e
                  · cases e
                  · split at e
                    · cases e
                    · split at e
                      · cases e
                        exact .inr (by have := of_decide_eq_false hb; omega)
                      · cases e
          have key : Ends s σ (add (repPart s n σ).1 (repPart s n σ).2) (dRep d lo hi en) r1 b 0 := by
            have hok2 := hok
            rw [q1] at hok2 ⊢
            refine ⟨⟨q2.wrong, q2.le, q2.rest⟩, rfl, rfl, by have := h.deep; show σ.deepest = _; omega, fun hb => ?_⟩
            have hb2 := Bool.or_eq_false_iff.1 (show (σ.back || b) = false from hb)
            exact spec_rep (ps := σ.parts) (q := { mk 4 n 0 with low := lo, high := hi, endless := en }) h.ok rfl (hp.2 hb2.1) (hbk hb2.2)
          refine corr_after (Corr.some key) (fun d' r' b' m' e' => ?_) hwr
          cases e'
          refine iRepL _ r1 _ _ (by omega) (key.rdy (hok.add hpo)) ⟨by simp [Q.add], key.spec⟩
      · rw [if_neg g, if_neg g]
        exact Corr.some ⟨h.rs, by simp, rfl, by have := h.deep; show σ.deepest = _; omega, hp.2⟩
    · -- term
      intro σ r hf h
      unfold go dgo
      rw [h.rs.next]
      by_cases g : dnext r = 40
      · rw [if_pos g, if_pos g]
        have hne : dnext r ≠ -1 := by rw [g]; decide
        have hrl : r.tail.length + 1 = r.length := by
          cases r with
          | nil => exact absurd rfl hne
          | cons a r => rfl
        have h1 := h.rs.fwd hne
        have hO : Rdy s (opened σ) r.tail := ⟨⟨h1.wrong, h1.le, h1.rest⟩, h.ok, by simp only [opened]; split <;> omega⟩
        have g1 := (gd .alt _ _ hO (by simp only [Job.rank]; omega) trivial).1
        have c1 := iAlt _ _ (by omega) hO
        cases e : dgo f .alt r.tail with
        | none => exact Corr.none ((closed_on _).wrong (c1.1 e))
        | some y =>
          obtain ⟨d, r1, b, m⟩ := y
          have e1 := c1.2 d r1 b m e
          simp only
          have hd2 : Rs s { (go s f .alt (opened σ)).2 with depth := (go s f .alt (opened σ)).2.depth - 1 } r1 := ⟨e1.rs.wrong, e1.rs.le, e1.rs.rest⟩
          unfold closed need
          rw [hd2.next]
          by_cases g2 : dnext r1 = 41
          · rw [if_pos g2, if_pos g2]
            refine Corr.some ⟨hd2.fwd (by rw [g2]; decide), e1.back, ?_, ?_, e1.spec⟩
            · show (go s f .alt (opened σ)).2.depth - 1 = σ.depth
              rw [e1.depth]
              show σ.depth + 1 - 1 = σ.depth
              omega
            · show (go s f .alt (opened σ)).2.deepest = _
              rw [e1.deepest]
              simp only [opened]
              have := h.deep
              split <;> omega
          · rw [if_neg g2, if_neg g2]
            exact Corr.none rfl
      · rw [if_neg g, if_neg g]
        have Lf := h.rs.leaf
        cases e : dleaf r with
        | none => exact Corr.none (Lf.1 e)
        | some y =>
          obtain ⟨ins, b, r1⟩ := y
          obtain ⟨k, q1, q2⟩ := Lf.2 ins b r1 e
          have hlf := leaf_ok (s := s) σ 0
          rw [q1] at hlf ⊢
          refine Corr.some ⟨⟨q2.wrong, q2.le, q2.rest⟩, rfl, rfl, by have := h.deep; show σ.deepest = _; omega, fun _ => ?_⟩
          exact spec_byte (ps := σ.parts) h.ok (q := { mk 1 0 0 with ins := ins }) rfl rfl rfl hlf.ins

/-- what a pattern is, or why it is none, by what it stands for -/
theorem parse_den (s : List UInt8) :
    (40 < s.length → parse s = .error (1, 0)) ∧
    (s.length ≤ 40 → ∀ d b m, dgo (8 * s.length + 6) .alt s = some (d, [], b, m) →
      (b = true → parse s = .error (4, 0)) ∧
      (b = false → (6 < m ∨ 48 < d.places) → parse s = .error (5, 0)) ∧
      (b = false → m ≤ 6 → d.places ≤ 48 → ∃ P, parse s = .ok P ∧ ∀ u, acc P u = true ↔ (u ≠ [] ∧ d.lang u))) ∧
    (∀ P, parse s = .ok P → ∃ d m, dgo (8 * s.length + 6) .alt s = some (d, [], false, m) ∧ s.length ≤ 40 ∧ m ≤ 6 ∧ d.places ≤ 48 ∧ Fine d ∧ (∀ u, acc P u = true ↔ (u ≠ [] ∧ d.lang u)) ∧ ∀ u, u ≠ [] → (pl P u ≠ 0 ↔ ∃ v, d.lang (v ++ u))) := by
  have hr : Rdy s rd0 s := ⟨⟨rfl, Nat.zero_le _, rfl⟩, fun i p h => by simp [rd0] at h, Nat.le_refl _⟩
  have C : Corr s rd0 (top s) (dgo (8 * s.length + 6) .alt s) := (corr_go (s := s) (8 * s.length + 6)).1 rd0 s (Nat.le_refl _) hr
  have G := top_good s
  have accOk : ∀ d P, parse s = .ok P → P = newPattern (whole s).2.parts (whole s).1 → Spec (top s).2.parts (top s).1 d → d.places ≤ 48 → ∀ u, acc P u = true ↔ (u ≠ [] ∧ d.lang u) := by
    intro d P hP e sp hp u
    by_cases hu : u = []
    · subst hu
      rw [parse_even hP]
      simp
    · subst e
      have := (spec_acc G.ok sp hp u hu).1
      exact ⟨fun h => ⟨hu, this.1 h⟩, fun h => this.2 h.2⟩
  refine ⟨fun h => by unfold parse; rw [if_pos h], fun hl d b m e => ?_, fun P hP => ?_⟩
  · have E := C.2 d [] b m e
    have hw : (whole s).2.wrong = false := by
      show ((top s).2.wrong || decide ((top s).2.at_ < s.length)) = false
      rw [E.rs.wrong, Bool.false_or]
      apply decide_eq_false
      intro hlt
      have := congrArg List.length E.rs.rest
      simp at this
      omega
    have hb : (whole s).2.back = b := by
      have := E.back
      show (top s).2.back = b
      simpa [rd0] using this
    have hd : (whole s).2.deepest = m := by
      have := E.deepest
      show (top s).2.deepest = m
      rw [this]
      simp [rd0]
    have hP0 : parse s = if (whole s).2.back = true then .error (4, 0) else if 6 < (whole s).2.deepest ∨ 48 < (at_ (whole s).2.parts (whole s).1).places then .error (5, 0) else .ok (newPattern (whole s).2.parts (whole s).1) := by
      conv => lhs; unfold parse
      rw [if_neg (by omega), if_neg (by rw [hw]; decide)]
    refine ⟨fun hbt => by rw [hP0, if_pos (by rw [hb]; exact hbt)], fun hbf h => ?_, fun hbf h1 h2 => ?_⟩
    · have sp := E.spec (by rw [← hbf]; exact hb)
      have hpl : (at_ (whole s).2.parts (whole s).1).places = d.places := sp.pla
      rw [hP0, if_neg (by rw [hb, hbf]; decide), if_pos (by rw [hd, hpl]; exact h)]
    · have sp := E.spec (by rw [← hbf]; exact hb)
      have hpl : (at_ (whole s).2.parts (whole s).1).places = d.places := sp.pla
      have hok : parse s = .ok (newPattern (whole s).2.parts (whole s).1) := by rw [hP0, if_neg (by rw [hb, hbf]; decide), if_neg (by rw [hd, hpl]; omega)]
      exact ⟨_, hok, accOk d _ hok rfl sp h2⟩
  · have hP2 := hP
    unfold parse at hP
    split at hP
    · cases hP
    · next h1 =>
      split at hP
      · cases hP
      · next h2 =>
        split at hP
        · cases hP
        · next h3 =>
          split at hP
          · cases hP
          · next h4 =>
            cases hP
            cases e : dgo (8 * s.length + 6) .alt s with
            | none =>
              have hw : (whole s).2.wrong = true := by
                show ((top s).2.wrong || decide ((top s).2.at_ < s.length)) = true
                rw [C.1 e]; rfl
              exact absurd hw h2
            | some y =>
              obtain ⟨d, r, b, m⟩ := y
              have E := C.2 d r b m e
              have hr0 : r = [] := by
                have hnl : ¬ (top s).2.at_ < s.length := by
                  intro hlt
                  apply h2
                  show ((top s).2.wrong || decide ((top s).2.at_ < s.length)) = true
                  rw [decide_eq_true hlt, Bool.or_true]
                rw [← E.rs.rest]
                exact List.drop_eq_nil_of_le (by omega)
              subst hr0
              have hbf : (top s).2.back = false := by
                have h3' : ¬ (top s).2.back = true := h3
                simpa using h3'
              have hb : b = false := by
                have := E.back
                rw [hbf] at this
                simpa [rd0] using this.symm
              subst hb
              have sp := E.spec hbf
              have hd : (whole s).2.deepest = m := by
                have := E.deepest
                show (top s).2.deepest = m
                rw [this]
                simp [rd0]
              have hpl : (at_ (whole s).2.parts (whole s).1).places = d.places := sp.pla
              rw [hd, hpl] at h4
              exact ⟨d, m, rfl, by omega, by omega, by omega, sp.fine, accOk d _ hP2 rfl sp (by omega), fun u hu => (spec_acc G.ok sp (by omega) u hu).2⟩
end Go.Proofs.Ytjmkkkfloalliaa.Q

