import Derived.Test.YtjmkkkfloalliabL8
namespace Go.Proofs.Ytjmkkkfloalliab
set_option linter.unusedVariables false
open Go.RowKit

set_option maxHeartbeats 400000 in
theorem load_short (s : ByteArray) (w : World) (h0 : s.size < 9) :
    Calls Try.prog 55 #[.string s] w fun e w' => e = .returned (.tuple #[.pointer none, .int .i64 7]) ∧ Below w.heap.size w w' := by
  go_enter Try.func55, Try.ntmps55
  go_wp2
  go_ret2
  exact ⟨rfl, Below.refl _ _⟩

theorem load_no1 {s : List UInt8} {n rate h : Nat} (hn : (s.getD 4 0).toNat * 256 + (s.getD 5 0).toNat = n) (hrt : (s.getD 6 0).toNat = rate) (hh : (s.getD 7 0).toNat * 256 + (s.getD 8 0).toNat = h)
    (hno : 200 < n ∨ rate < 1 ∨ 32 < rate ∨ n < h ∨ s.length ≠ 9 + n + 2 * (n / rate + 1) + 2) : ¬ ∃ t r, LoadOk s t r := by
  rintro ⟨t, r, H⟩
  obtain ⟨f1, f2, f3, f4, f5⟩ := H.fields
  rw [f1] at hn; rw [f2] at hrt; rw [f3] at hh
  subst hn; subst hrt; subst hh
  have := row0_le t
  obtain ⟨g1, g2, g3, g4⟩ := H
  omega

theorem load_no2 {s : List UInt8} {n rate h : Nat} (hn : (s.getD 4 0).toNat * 256 + (s.getD 5 0).toNat = n) (hrt : (s.getD 6 0).toNat = rate) (hh : (s.getD 7 0).toNat * 256 + (s.getD 8 0).toNat = h)
    (hno : saveL (M.ahead (M.textOf ((s.drop 9).take n) h)) (M.row (M.textOf ((s.drop 9).take n) h) 0) rate ≠ s) : ¬ ∃ t r, LoadOk s t r := by
  rintro ⟨t, r, H⟩
  rw [H.text hn hh] at hno
  have f2 := H.fields.2.1
  rw [hrt] at f2
  subst f2
  exact hno H.2.2.2.symm

/-- What Load answers: none; or the index of just that text and rate. -/
def LoadPost (s : ByteArray) (w : World) (e : Ending) (w' : World) : Prop :=
  Below w.heap.size w w' ∧ ((e = .returned (.tuple #[.pointer none, .int .i64 7]) ∧ ¬ ∃ t r, LoadOk s.data.toList t r) ∨
    ∃ (t : List UInt8) (rate b : Nat) (a : ByteArray), LoadOk s.data.toList t rate ∧ e = .returned (.tuple #[.pointer (some ⟨b, 0, none⟩), .int .i64 0]) ∧ w.heap.size ≤ b ∧ Idx w' b rate (M.row t 0) a ∧ a.data.toList = M.ahead t)

set_option maxRecDepth 100000 in
set_option maxHeartbeats 1600000 in
theorem load_big (s : ByteArray) (w : World) (h0 : 9 ≤ s.size) (h1 : s.size ≤ maxLen) :
    Calls Try.prog 55 #[.string s] w fun e w' => LoadPost s w e w' := by
  unfold maxLen at h1
  obtain ⟨n, hn⟩ : ∃ n, (s.data.toList.getD 4 0).toNat * 256 + (s.data.toList.getD 5 0).toNat = n := ⟨_, rfl⟩
  obtain ⟨rate, hrt⟩ : ∃ n, (s.data.toList.getD 6 0).toNat = n := ⟨_, rfl⟩
  obtain ⟨h, hh⟩ : ∃ n, (s.data.toList.getD 7 0).toNat * 256 + (s.data.toList.getD 8 0).toNat = n := ⟨_, rfl⟩
  have N1 : Hid (_) := @load_no1 s.data.toList n rate h hn hrt hh
  have N2 : Hid (_) := @load_no2 s.data.toList n rate h hn hrt hh
  have YS : Hid (n ≤ 200 → 1 ≤ rate → rate ≤ 32 → saveL (M.ahead (M.textOf ((s.data.toList.drop 9).take n) h)) (M.row (M.textOf ((s.data.toList.drop 9).take n) h) 0) rate = s.data.toList → LoadOk s.data.toList (M.textOf ((s.data.toList.drop 9).take n) h) rate) := by
    intro a1 a2 a3 a4
    refine ⟨?_, a2, a3, a4.symm⟩
    rw [M.textOf_length]
    exact Nat.le_trans (List.length_take_le _ _) a1
  rw [← byte_at s 4 (by omega), ← byte_at s 5 (by omega)] at hn
  rw [← byte_at s 7 (by omega), ← byte_at s 8 (by omega)] at hh
  rw [← byte_at s 6 (by omega)] at hrt
  have b4 := (s[4]'(by omega)).toNat_lt
  have b5 := (s[5]'(by omega)).toNat_lt
  have b6 := (s[6]'(by omega)).toNat_lt
  have b7 := (s[7]'(by omega)).toNat_lt
  have b8 := (s[8]'(by omega)).toNat_lt
  have HN : Hid ((s[4].toNat : Int) * (256 : Int) + (s[5].toNat : Int) = (n : Int)) := by show _ = _; omega
  have HH : Hid ((s[7].toNat : Int) * (256 : Int) + (s[8].toNat : Int) = (h : Int)) := by show _ = _; omega
  have HR : Hid ((s[6].toNat : Int) = (rate : Int)) := by show _ = _; omega
  have hnl : n ≤ 65535 := by omega
  have hhl : h ≤ 65535 := by omega
  have hrl : rate ≤ 255 := by omega
  have i4 : (4 : Int) < (s.size : Int) := by omega
  have i5 : (5 : Int) < (s.size : Int) := by omega
  have i6 : (6 : Int) < (s.size : Int) := by omega
  have i7 : (7 : Int) < (s.size : Int) := by omega
  have i8 : (8 : Int) < (s.size : Int) := by omega
  clear hn hh hrt
  go_enter Try.func55, Try.ntmps55
  go_wp2_with fail
  go_quiet ((go_at_call 68; exact Calls.quiet_of_same (readU16_any _ _ _ (by omega) (by omega) (by omega) (by omega))))
  go_wp2_with fail
  rw [HN.out, HR.out]
  have hb1 := below_drewN (Below.refl w.heap.size w) nq
  generalize w.drewN nq = w1 at hb1 ⊢
  go_quiet ((go_at_call 68; exact Calls.quiet_of_same (readU16_any _ _ _ (by omega) (by omega) (by omega) (by omega))))
  rw [HH.out]
  have hb2 := below_drewN hb1 nq
  generalize w1.drewN nq = w2 at hb2 ⊢
  clear b4 b5 b6 b7 b8 HN HH HR hb1
  by_cases c1 : 200 < n
  · go_wp2
    go_ret2
    exact ⟨hb2, .inl ⟨rfl, N1.out (by omega)⟩⟩
  by_cases c2 : rate < 1
  · go_wp2
    go_ret2
    exact ⟨hb2, .inl ⟨rfl, N1.out (by omega)⟩⟩
  by_cases c3 : 32 < rate
  · go_wp2
    go_ret2
    exact ⟨hb2, .inl ⟨rfl, N1.out (by omega)⟩⟩
  by_cases c4 : n < h
  · go_wp2
    go_ret2
    exact ⟨hb2, .inl ⟨rfl, N1.out (by omega)⟩⟩
  have r1 : 1 ≤ rate := by omega
  have r2 : rate ≤ 32 := by omega
  have n2 : n ≤ 200 := by omega
  have h2 : h ≤ n := by omega
  go_wp2_with fail
  refine (savedSize_any _ _ _ (by omega) (by omega) (by omega) (by omega)).mono ?_
  rintro e w3 ⟨rfl, rfl⟩
  have HQ : Hid ((9 : Int) + (n : Int) + 2 * ((n : Int) / (rate : Int) + 1) + 2 = ((9 + n + 2 * (n / rate + 1) + 2 : Nat) : Int)) := by
    show _ = _
    rw [← Int.natCast_ediv]; omega
  rw [HQ.out]
  have HZ : Hid (s.data.toList.length = s.size) := size_len s
  by_cases c5 : s.size = 9 + n + 2 * (n / rate + 1) + 2
  · have q1 : ((s.size : Int) != ((9 + n + 2 * (n / rate + 1) + 2 : Nat) : Int)) = false := by rw [bne_eq_false_iff_eq, c5]
    have hle : 9 + n ≤ s.size := by omega
    have hlei : (9 : Int) + (n : Int) ≤ (s.size : Int) := by omega
    clear c5
    obtain ⟨a, HA, ha1, ha2, hsl⟩ : ∃ a : ByteArray, Hid (a.data.toList = (s.data.toList.drop 9).take n) ∧ a.size ≤ n ∧ n ≤ a.size ∧ ∀ W, Sem.run Try.prog (Instr.slice 9 (.string s) (some (.int .i64 9)) (some (.int .i64 (9 + (n : Int)))) none) W = .ok (.string a) W := by
      refine ⟨s.extract 9 (9 + n), ?_, ?_, ?_, ?_⟩
      · show _ = _
        rw [Lib.extract_data]
        congr 1
        omega
      · rw [ByteArray.size_extract]; omega
      · rw [ByteArray.size_extract]; omega
      · intro W
        have := run_slice_string (P := Try.prog) W 9 s .i64 .i64 9 (9 + (n : Int)) Try.underlying9 (by omega) (by omega) (by omega)
        rw [show ((9 : Int) + (n : Int)).toNat = 9 + n from by omega] at this
        exact this
    have h3 : h ≤ a.size := by omega
    have a3 : a.size ≤ 1000 := by omega
    go_wp2_with fail
    have hI : Idx (w3.alloc (.cells #[.int .i64 rate, .int .i64 h, .string a] 65)) w3.heap.size rate h a := Blk.new _ _ _
    refine (text_str a w3.heap.size rate h _ a3 h3 hI).mono ?_
    rintro e w4 ⟨tx, rfl, htx, ht1, ht2, hb4⟩
    have hb5 := (hb2.alloc hb2.size (.cells #[.int .i64 rate, .int .i64 h, .string a] 65)).trans (hb4.mono (by simp; have := hb2.size; omega))
    clear hsl hI hb4 hb2
    go_wp2_with fail
    refine (newIndex_any tx rate _ (by omega)).mono ?_
    rintro e w5 ⟨b, rfl, hbb, hI5, hb6⟩
    have hb7 := hb5.trans (hb6.mono hb5.size)
    have hbl : w.heap.size ≤ b := Nat.le_trans hb5.size hbb
    obtain ⟨ah, HAH⟩ : ∃ x : ByteArray, x = ⟨(M.ahead tx.data.toList).toArray⟩ := ⟨_, rfl⟩
    rw [← HAH] at hI5
    have HAH2 : Hid (ah.data.toList = M.ahead tx.data.toList) := by show _ = _; rw [HAH]
    clear HAH hb5 hb6
    have hat : ah.size ≤ tx.size := by rw [← size_len, HAH2.out, M.ahead_length, size_len]; exact Nat.le_refl _
    have hta : tx.size ≤ ah.size := by rw [← size_len ah, HAH2.out, M.ahead_length, size_len]; exact Nat.le_refl _
    have hrl0 : M.row tx.data.toList 0 ≤ ah.size := by have := row0_le tx.data.toList; rw [size_len] at this; omega
    go_wp2_with fail
    refine (save_any ah b rate (M.row tx.data.toList 0) _ (by omega) hrl0 (by omega) (by omega) hI5).mono ?_
    rintro e w6 ⟨sv, rfl, hsv, hb8⟩
    have hI6 : Idx w6 b rate (M.row tx.data.toList 0) ah := Blk.below hI5 hb8 (Blk.lt hI5)
    have hb9 := hb7.trans (hb8.mono hb7.size)
    clear hb7 hb8 hI5
    have HSV : Hid (sv.data.toList = saveL (M.ahead (M.textOf ((s.data.toList.drop 9).take n) h)) (M.row (M.textOf ((s.data.toList.drop 9).take n) h) 0) rate) := by
      show _ = _
      rw [hsv.out, HAH2.out, htx.out, HA.out]
    by_cases c6 : sv.data.toList = s.data.toList
    · have q2 : (sv.toList == s.toList) = true := by rw [Lib.toList_data, Lib.toList_data, beq_iff_eq]; exact c6
      have Y := YS.out n2 r1 r2 (by rw [← HSV.out]; exact c6)
      have HT : Hid (M.textOf ((s.data.toList.drop 9).take n) h = tx.data.toList) := by show _ = _; rw [htx.out, HA.out]
      rw [HT.out] at Y
      have HY : Hid _ := Y
      clear c6 Y
      go_wp2
      go_ret2
      exact ⟨hb9, .inr ⟨tx.data.toList, rate, b, ah, HY.out, rfl, hbl, hI6, HAH2.out⟩⟩
    · have q2 : (sv.toList == s.toList) = false := by rw [Lib.toList_data, Lib.toList_data, beq_eq_false_iff_ne]; exact c6
      have Nn := N2.out (by rw [← HSV.out]; exact c6)
      have HNn : Hid _ := Nn
      clear Nn c6
      go_wp2
      go_ret2
      exact ⟨hb9, .inl ⟨rfl, HNn.out⟩⟩
  · have q1 : ((s.size : Int) != ((9 + n + 2 * (n / rate + 1) + 2 : Nat) : Int)) = true := by rw [bne_iff_ne]; intro e; exact c5 (Int.ofNat.inj e)
    go_wp2
    go_ret2
    exact ⟨hb2, .inl ⟨rfl, N1.out (by rw [HZ.out]; omega)⟩⟩

theorem load_any (s : ByteArray) (w : World) (h1 : s.size ≤ maxLen) : Calls Try.prog 55 #[.string s] w fun e w' => LoadPost s w e w' := by
  rcases Nat.lt_or_ge s.size 9 with h | h
  · refine (load_short s w h).mono ?_
    rintro e w' ⟨rfl, hb⟩
    refine ⟨hb, .inl ⟨rfl, ?_⟩⟩
    rintro ⟨t, r, H⟩
    have := H.fields.2.2.2.2
    rw [size_len] at this
    omega
  · exact load_big s w h h1
end Go.Proofs.Ytjmkkkfloalliab
