import Derived.Test.YtjmkkkfloalliabL7
namespace Go.Proofs.Ytjmkkkfloalliab
set_option linter.unusedVariables false
open Go.RowKit

/-- s is what the index of a text with a rate is saved as -/
def LoadOk (s t : List UInt8) (rate : Nat) : Prop := t.length ≤ 200 ∧ 1 ≤ rate ∧ rate ≤ 32 ∧ s = saveL (M.ahead t) (M.row t 0) rate

theorem samp_length (rows : List Nat) (rate : Nat) : ∀ k, (samp rows rate k).length = 2 * k
  | 0 => by simp [samp]
  | k + 1 => by rw [samp_succ, List.length_append, samp_length rows rate k]; simp [two]; omega

theorem saveL_length (a : List UInt8) (h rate : Nat) : (saveL a h rate).length = 9 + a.length + 2 * (a.length / rate + 1) + 2 := by
  unfold saveL saveBody saveHead
  simp only [List.length_append, samp_length]
  simp [mark, two]

theorem saveL_eq (a : List UInt8) (h rate : Nat) : ∃ r, saveL a h rate = 102 :: 109 :: 105 :: 49 :: UInt8.ofNat (a.length / 256) :: UInt8.ofNat (a.length % 256) :: UInt8.ofNat rate :: UInt8.ofNat (h / 256) :: UInt8.ofNat (h % 256) :: (a ++ r) := by
  refine ⟨samp (M.rowsOf a h) rate (a.length / rate + 1) ++ two (sumL (saveBody a h rate)), ?_⟩
  conv => lhs; unfold saveL
  conv => lhs; arg 1; unfold saveBody saveHead
  simp [mark, two]

theorem ofNat_toNat (n : Nat) (h : n < 256) : (UInt8.ofNat n).toNat = n := by
  rw [UInt8.toNat_ofNat']; omega

theorem saveL_fields (a : List UInt8) (h rate : Nat) (ha : a.length ≤ 1000) (hh : h ≤ 1000) (hr : rate ≤ 255) :
    ((saveL a h rate).getD 4 0).toNat * 256 + ((saveL a h rate).getD 5 0).toNat = a.length ∧ ((saveL a h rate).getD 6 0).toNat = rate ∧
    ((saveL a h rate).getD 7 0).toNat * 256 + ((saveL a h rate).getD 8 0).toNat = h ∧ ((saveL a h rate).drop 9).take a.length = a := by
  obtain ⟨r, e⟩ := saveL_eq a h rate
  rw [e]
  refine ⟨?_, ?_, ?_, ?_⟩
  · show (UInt8.ofNat (a.length / 256)).toNat * 256 + (UInt8.ofNat (a.length % 256)).toNat = _
    rw [ofNat_toNat _ (by omega), ofNat_toNat _ (by omega)]; omega
  · show (UInt8.ofNat rate).toNat = _
    rw [ofNat_toNat _ (by omega)]
  · show (UInt8.ofNat (h / 256)).toNat * 256 + (UInt8.ofNat (h % 256)).toNat = _
    rw [ofNat_toNat _ (by omega), ofNat_toNat _ (by omega)]; omega
  · show (a ++ r).take a.length = a
    rw [List.take_left']; rfl

theorem row0_le (t : List UInt8) : M.row t 0 ≤ t.length := M.row_le t 0 (by omega)

/-- what is saved tells its text and rate -/
theorem LoadOk.fields {s t : List UInt8} {rate : Nat} (H : LoadOk s t rate) :
    (s.getD 4 0).toNat * 256 + (s.getD 5 0).toNat = t.length ∧ (s.getD 6 0).toNat = rate ∧ (s.getD 7 0).toNat * 256 + (s.getD 8 0).toNat = M.row t 0 ∧
    (s.drop 9).take t.length = M.ahead t ∧ s.length = 9 + t.length + 2 * (t.length / rate + 1) + 2 := by
  obtain ⟨h1, h2, h3, rfl⟩ := H
  have hl := M.ahead_length t
  have hr := row0_le t
  obtain ⟨f1, f2, f3, f4⟩ := saveL_fields (M.ahead t) (M.row t 0) rate (by omega) (by omega) (by omega)
  have f5 := saveL_length (M.ahead t) (M.row t 0) rate
  rw [hl] at f1 f4 f5
  exact ⟨f1, f2, f3, f4, f5⟩

theorem LoadOk.text {s t : List UInt8} {rate n h : Nat} (H : LoadOk s t rate) (hn : (s.getD 4 0).toNat * 256 + (s.getD 5 0).toNat = n) (hh : (s.getD 7 0).toNat * 256 + (s.getD 8 0).toNat = h) :
    M.textOf ((s.drop 9).take n) h = t := by
  obtain ⟨f1, f2, f3, f4, f5⟩ := H.fields
  rw [f1] at hn; rw [f3] at hh; subst hn; subst hh
  rw [f4]
  exact M.textOf_ahead t

theorem LoadOk.uniq {s t t' : List UInt8} {rate rate' : Nat} (H : LoadOk s t rate) (H' : LoadOk s t' rate') : t = t' ∧ rate = rate' := by
  obtain ⟨f1, f2, f3, f4, f5⟩ := H.fields
  obtain ⟨g1, g2, g3, g4, g5⟩ := H'.fields
  exact ⟨(H.text rfl rfl).symm.trans (H'.text rfl rfl), f2.symm.trans g2⟩

set_option maxRecDepth 100000 in
set_option maxHeartbeats 400000 in
theorem build_yes (t : ByteArray) (rate : Nat) (w : World) (h0 : t.size ≤ 200) (h1 : 1 ≤ rate) (h2 : rate ≤ 32) :
    Calls Try.prog 20 #[.string t, .int .i64 rate] w fun e w' => ∃ b a, e = .returned (.tuple #[.pointer (some ⟨b, 0, none⟩), .int .i64 0]) ∧ w.heap.size ≤ b ∧ Idx w' b rate (M.row t.data.toList 0) a ∧ Hid (a.data.toList = M.ahead t.data.toList) ∧ Below w.heap.size w w' := by
  go_enter Try.func20, Try.ntmps20
  go_wp2_with fail
  refine (newIndex_any t rate _ (by omega)).mono ?_
  rintro e w1 ⟨b, rfl, hb, hI, hB⟩
  go_wp2
  go_ret2
  exact ⟨b, _, rfl, hb, hI, rfl, hB⟩

set_option maxHeartbeats 400000 in
theorem build_long (t : ByteArray) (rate : Int) (w : World) (h0 : 200 < t.size) (h1 : t.size ≤ maxLen) :
    Calls Try.prog 20 #[.string t, .int .i64 rate] w fun e w' => e = .returned (.tuple #[.pointer none, .int .i64 1]) ∧ w' = w := by
  unfold maxLen at h1
  have h2 : (200 : Int) < (t.size : Int) := by omega
  go_enter Try.func20, Try.ntmps20
  go_wp2
  go_ret2
  exact ⟨rfl, rfl⟩

set_option maxHeartbeats 400000 in
theorem build_arg (t : ByteArray) (rate : Int) (w : World) (h0 : t.size ≤ 200) (h1 : rate < 1 ∨ 32 < rate) :
    Calls Try.prog 20 #[.string t, .int .i64 rate] w fun e w' => e = .returned (.tuple #[.pointer none, .int .i64 2]) ∧ w' = w := by
  by_cases h : rate < 1
  · go_enter Try.func20, Try.ntmps20
    go_wp2
    go_ret2
    exact ⟨rfl, rfl⟩
  · have h3 : 32 < rate := by omega
    go_enter Try.func20, Try.ntmps20
    go_wp2
    go_ret2
    exact ⟨rfl, rfl⟩
end Go.Proofs.Ytjmkkkfloalliab
