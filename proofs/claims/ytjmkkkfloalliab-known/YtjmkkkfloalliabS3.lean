import Derived.Test.YtjmkkkfloalliabS2
namespace Go.Proofs.Ytjmkkkfloalliab
set_option linter.unusedVariables false
open Go.RowKit

/-- an index of a text: what the calls need of it -/
structure IdxOf (w : World) (b rate : Nat) (t : List UInt8) (a : ByteArray) : Prop where
  idx : Idx w b rate (M.row t 0) a
  ah : a.data.toList = M.ahead t
  len : t.length ≤ 200
  r1 : 1 ≤ rate
  r2 : rate ≤ 32

theorem IdxOf.size {w : World} {b rate : Nat} {t : List UInt8} {a : ByteArray} (h : IdxOf w b rate t a) : a.size = t.length := by
  rw [← size_len, h.ah, M.ahead_length]
theorem IdxOf.below {B : Nat} {w w' : World} {b rate : Nat} {t : List UInt8} {a : ByteArray} (h : IdxOf w b rate t a) (hb : Below B w w') (hB : b < B) : IdxOf w' b rate t a :=
  ⟨Blk.below h.idx hb hB, h.ah, h.len, h.r1, h.r2⟩
theorem IdxOf.lt {w : World} {b rate : Nat} {t : List UInt8} {a : ByteArray} (h : IdxOf w b rate t a) : b < w.heap.size := Blk.lt h.idx
theorem IdxOf.row {w : World} {b rate : Nat} {t : List UInt8} {a : ByteArray} (h : IdxOf w b rate t a) : M.row t 0 ≤ a.size := by rw [h.size]; exact row0_le t

theorem save_of {w : World} {b rate : Nat} {t : List UInt8} {a : ByteArray} (h : IdxOf w b rate t a) :
    Calls Try.prog 61 #[.pointer (some ⟨b, 0, none⟩)] w fun e w' => ∃ s : ByteArray, e = .returned (.string s) ∧ Hid (LoadOk s.data.toList t rate) ∧ s.size ≤ 700 ∧ 0 < s.size ∧ Below w.heap.size w w' := by
  have hs := h.size
  have hl := h.len
  refine (save_any a b rate (M.row t 0) w (by omega) h.row h.r1 (by have := h.r2; omega) h.idx).mono ?_
  rintro e w' ⟨s, rfl, hsv, hb⟩
  have hok : LoadOk s.data.toList t rate := ⟨h.len, h.r1, h.r2, by rw [hsv.out, h.ah]⟩
  have hlen := hok.fields.2.2.2.2
  rw [size_len] at hlen
  have : t.length / rate ≤ t.length := Nat.div_le_self _ _
  exact ⟨s, rfl, hok, by omega, by omega, hb⟩

theorem extract_of {w : World} {b rate : Nat} {t : List UInt8} {a : ByteArray} (h : IdxOf w b rate t a) (i j : Nat) (hij : i ≤ j) (hj : j ≤ t.length) :
    Calls Try.prog 60 #[.pointer (some ⟨b, 0, none⟩), .int .i64 i, .int .i64 j] w fun e w' => ∃ s : ByteArray, e = .returned (.tuple #[.string s, .int .i64 0]) ∧ Hid (s.data.toList = (t.drop i).take (j - i)) ∧ Below w.heap.size w w' := by
  have hs := h.size
  have hl := h.len
  refine (extract_yes a b rate (M.row t 0) i j w (by omega) h.row h.idx hij (by omega)).mono ?_
  rintro e w' ⟨s, rfl, hsv, hb⟩
  refine ⟨s, rfl, ?_, hb⟩
  show _ = _
  rw [hsv.out, h.ah, M.textOf_ahead]

theorem build_of (t : ByteArray) (rate : Nat) (w : World) (h0 : t.size ≤ 200) (h1 : 1 ≤ rate) (h2 : rate ≤ 32) :
    Calls Try.prog 20 #[.string t, .int .i64 rate] w fun e w' => ∃ b a, e = .returned (.tuple #[.pointer (some ⟨b, 0, none⟩), .int .i64 0]) ∧ w.heap.size ≤ b ∧ IdxOf w' b rate t.data.toList a ∧ Below w.heap.size w w' := by
  refine (build_yes t rate w h0 h1 h2).mono ?_
  rintro e w' ⟨b, a, rfl, hb, hI, HA, hB⟩
  exact ⟨b, a, rfl, hb, ⟨hI, HA.out, by rw [size_len]; exact h0, h1, h2⟩, hB⟩

theorem len_of {w : World} {b rate : Nat} {t : List UInt8} {a : ByteArray} (h : IdxOf w b rate t a) :
    Calls Try.prog 21 #[.pointer (some ⟨b, 0, none⟩)] w fun e w' => e = .returned (.int .i64 t.length) ∧ w' = w := by
  have := len_any a b rate (M.row t 0) w h.idx
  rw [h.size] at this
  exact this

theorem rate_of {w : World} {b rate : Nat} {t : List UInt8} {a : ByteArray} (h : IdxOf w b rate t a) :
    Calls Try.prog 45 #[.pointer (some ⟨b, 0, none⟩)] w fun e w' => e = .returned (.int .i64 rate) ∧ w' = w := rate_any a b rate (M.row t 0) w h.idx

theorem load_of (s : ByteArray) (w : World) (t : List UInt8) (rate : Nat) (hs : s.size ≤ maxLen) (h : LoadOk s.data.toList t rate) :
    Calls Try.prog 55 #[.string s] w fun e w' => ∃ b a, e = .returned (.tuple #[.pointer (some ⟨b, 0, none⟩), .int .i64 0]) ∧ w.heap.size ≤ b ∧ IdxOf w' b rate t a ∧ Below w.heap.size w w' := by
  refine (load_any s w hs).mono ?_
  rintro e w' ⟨hB, h1 | h1⟩
  · exact absurd ⟨t, rate, h⟩ h1.2
  · obtain ⟨t', rate', b, a, hok, he, hb, hI, ha⟩ := h1
    obtain ⟨rfl, rfl⟩ := h.uniq hok
    exact ⟨b, a, he, hb, ⟨hI, ha, h.1, h.2.1, h.2.2.1⟩, hB⟩
end Go.Proofs.Ytjmkkkfloalliab
