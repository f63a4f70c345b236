import Derived.Test.YtjmkkkfloalliabYU
-- the walk: what was found
namespace Go.Proofs.Ytjmkkkfloalliab
set_option linter.unusedVariables false
open Go.RowKit

theorem hid' {p : Prop} (h : p) : Hid p := h
/-- what is found -/
def Q.found (P : Q.Pat) (a : List UInt8) (h : Nat) (k : Q.Wk) : List Nat :=
  laidTo (Q.marks P k.list a.length k.list.length) (M.rowsOf a h) (cntT (Q.marks P k.list a.length k.list.length) (a.length + 1)) (a.length + 1)
def foundLen (P : Q.Pat) (a : List UInt8) (k : Q.Wk) : Nat := cntT (Q.marks P k.list a.length k.list.length) (a.length + 1)

set_option maxRecDepth 10000 in
set_option maxHeartbeats 3200000 in
theorem found_any (x : Wh) (k : Q.Wk) (v : Value) (rate h : Nat) (a : ByteArray) (P : Q.Pat) (w : World) (hW : WkT w x k v) (hE : WE w x rate h a P) :
    Calls Try.prog 35 #[.pointer (some ⟨x.bw, 0, none⟩)] w fun e w' => ∃ b, e = .returned (.slice (some ⟨b, 0, none⟩) (foundLen P (L a) k) (foundLen P (L a) k)) ∧ w.heap.size ≤ b ∧ Nums .i64 w' b (natI (Q.found P (L a) h k)) ∧ Below w.heap.size w w' := by
  have HL : Hid ((L a).length = a.size) := size_len a
  obtain ⟨c0, c1, c2, c3, c4, c5⟩ := hW.cells
  have d2 := hE.idx.c2
  have hn := hE.n
  have hsz := hE.sz
  have hbw := hW.blk.lt
  have hBw := hW.bw
  have hbi : x.bi < w.heap.size := by have := hE.bi; omega
  have HW := hid' hW
  have HE := hid' hE
  obtain ⟨lv, cv, hvv⟩ : ∃ a c, v = .slice a k.list.length c := by
    obtain ⟨_, ⟨e1, e2⟩ | ⟨g, cap, cur, e1, _⟩⟩ := hW.own
    · exact ⟨none, 0, by rw [e1, e2]⟩
    · exact ⟨_, cap, e1⟩
  have hm := make_bools ((a.size : Int) + 1) (a.size + 1) (by omega) (by omega)
  have hlen := hW.len
  have c4b := c4
  rw [hvv] at c4b
  clear hW hE c4
  go_enter Try.func35, Try.ntmps35
  go_wp2
  have HM0 : Hid (Marks (w.alloc (.cells (zeroRow (.bool false) (a.size + 1)) 4)) w.heap.size (Q.marks P k.list a.size 0)) := by
    show Marks _ _ _
    rw [marks_zero]
    exact Marks.new w _ _
  have HK0 := hid' ((Keep.refl [] w).alloc (.cells (zeroRow (.bool false) (a.size + 1)) 4))
  generalize w.alloc (.cells (zeroRow (.bool false) (a.size + 1)) 4) = w0 at *
  clear hm c0 c1 c2 c3 c5 c4b d2
  go_loopw [28] (fun i wr => ∃ j : Nat, j ≤ k.list.length ∧ i = .int .i64 j ∧ Marks wr w.heap.size (Q.marks P k.list a.size j) ∧ Keep [] w wr) (fun i _ => k.list.length - (intOf i).toNat)
  case atStart => exact ⟨0, by omega, rfl, HM0.out, HK0.out⟩
  case round =>
    obtain ⟨j, hj, rfl, hMj, hKj⟩ := hrel
    have hWj := HW.out.keep0 hKj
    have hEj := HE.out.below (hKj.to_below (B := x.B) (by simp) (by omega))
    obtain ⟨c0, c1, c2, c3, c4, c5⟩ := hWj.cells
    by_cases hlt : j < k.list.length
    · obtain ⟨g, cap, hv2, hcap, r0, r1, r2, r3, hg⟩ := hWj.row j hlt
      obtain ⟨hst, _⟩ := hWj.ok.st j hlt
      have hsl := hst.le
      have hsh := hst.high
      have hsp := hst.places
      rw [hv2] at c4
      have HST := hid' (marks_step P k.list a.size j)
      have HMj := hid' hMj
      have HKj := hid' hKj
      have HEj := hid' hEj
      have hbwj := hWj.blk.lt
      have nbw : x.bw ≠ wr.heap.size := by omega
      have ng : g ≠ wr.heap.size := by omega
      have i0 : (0 : Int) ≤ (j : Int) := by omega
      have i1 : (j : Int) < (k.list.length : Int) := by omega
      have hml := marks_len P k.list a.size j
      generalize Q.stAt k.list j = st at *
      generalize Q.marks P k.list a.size j = mj at *
      have HBG : Hid (∀ q o, Calls Try.prog 53 #[.pointer (some ⟨x.bp, 0, none⟩), .int .u64 (st.places : Int)] ((wr.alloc o).drewN q) fun e w' => e = .returned (.bool (st.places &&& P.begins != 0)) ∧ w' = ((wr.alloc o).drewN q)) := fun q o => Begins_any x.bp P st.places _ ((HEj.out.pat.alloc o).drewN q) hsp
      clear hMj hKj hWj hEj hst
      go_wp2_with fail
      go_quiet ((go_at_call 53; exact Calls.quiet_of_same (HBG.out _ _)))
      have HBS : Hid (BlkT ((wr.alloc (.cells #[.int .i64 (st.low : Int), .int .i64 (st.high : Int), .int .u64 (st.places : Int), .int .i64 (st.twin : Int)] 99)).drewN nq) wr.heap.size 99 (stC st)) := BlkT.new wr _ _
      have HMS : Hid (Marks ((wr.alloc (.cells #[.int .i64 (st.low : Int), .int .i64 (st.high : Int), .int .u64 (st.places : Int), .int .i64 (st.twin : Int)] 99)).drewN nq) w.heap.size mj) := Blk.drewN (Blk.alloc HMj.out _) nq
      have HKS := hid' ((HKj.out.alloc (.cells #[.int .i64 (st.low : Int), .int .i64 (st.high : Int), .int .u64 (st.places : Int), .int .i64 (st.twin : Int)] 99)).drewN nq)
      have hzw : w.heap.size < wr.heap.size := Blk.lt HMj.out
      generalize hws : (wr.alloc (.cells #[.int .i64 (st.low : Int), .int .i64 (st.high : Int), .int .u64 (st.places : Int), .int .i64 (st.twin : Int)] 99)).drewN nq = ws at *
      clear hws c0 c1 c2 c3 c4 c5 r0 r1 r2 r3 HBG HMj HKj
      cases hbg : (st.places &&& P.begins != 0) with
      | false =>
        have HMN : Hid (Marks ws w.heap.size (Q.marks P k.list a.size (j + 1))) := by show Marks _ _ _; rw [HST.out, if_neg (by rw [hbg]; decide)]; exact HMS.out
        clear HST
        go_wp2
        go_roundw
        case rel => exact ⟨j + 1, by omega, by go_num, HMN.out, HKS.out⟩
        case measure => simp [intOf]; omega
      | true =>
        have HMN : Hid (Q.marks P k.list a.size (j + 1) = plus mj st.low st.high) := by show _ = _; rw [HST.out, if_pos hbg]
        clear HST
        have b0 := HBS.out.cell 0
        simp only [stC, List.getElem?_cons_zero] at b0
        have hbs : w.heap.size ≠ wr.heap.size := by omega
        go_wp2
        go_loopw [6] (fun i wi => ∃ r : Nat, st.low ≤ r ∧ r ≤ st.high ∧ i = .int .i64 r ∧ Marks wi w.heap.size (plus mj st.low r) ∧ Keep [w.heap.size] ws wi) (fun i _ => st.high - (intOf i).toNat)
        case atStart => exact ⟨st.low, Nat.le_refl _, hsl, rfl, by rw [plus_self]; exact HMS.out, Keep.refl _ _⟩
        case round =>
          clear b0
          obtain ⟨r, hr1, hr2, rfl, hMr, hKr⟩ := hrel
          have hBr := HBS.out.keep hKr (by simpa using Ne.symm hbs)
          have b1 := hBr.cell 1
          simp only [stC, List.getElem?_cons_zero, List.getElem?_cons_succ] at b1
          by_cases hlt2 : r < st.high
          · have hrl : r < mj.length := by rw [hml]; omega
            have hc := hMr.cell r (by rw [plus_len]; exact hrl)
            have hf := Blk.frozen hMr r
            have HN := hid' (plus_step mj st.low r hr1 hrl)
            have HMr := hid' hMr
            have HKr := hid' hKr
            have hri : (r : Int) < ((a.size + 1 : Nat) : Int) := by omega
            clear hMr hKr hBr
            go_wp2
            go_roundw
            case rel => exact ⟨r + 1, by omega, by omega, by go_num, by rw [← HN.out]; exact HMr.out.set _ _, HKr.out.setCell (by simp) _⟩
            case measure => simp [intOf]; omega
          · obtain rfl : r = st.high := by omega
            have HMF : Hid (Marks wr w.heap.size (Q.marks P k.list a.size (j + 1))) := by show Marks _ _ _; rw [HMN.out]; exact hMr
            have HKF := hid' (HKS.out.trans2 hKr (by simp))
            clear hMr hKr hBr
            go_wp2
            go_roundw
            case rel => exact ⟨j + 1, by omega, by go_num, HMF.out, HKF.out⟩
            case measure => simp [intOf]; omega
    · obtain rfl : j = k.list.length := by omega
      have hMl : (Q.marks P k.list a.size k.list.length).length = a.size + 1 := marks_len _ _ _ _
      have HFD : Hid (Q.found P (L a) h k = laidTo (Q.marks P k.list a.size k.list.length) (M.rowsOf (L a) h) (cntT (Q.marks P k.list a.size k.list.length) (a.size + 1)) (a.size + 1)) := by show _ = _; unfold Q.found; rw [HL.out]
      have HFL : Hid (foundLen P (L a) k = cntT (Q.marks P k.list a.size k.list.length) (a.size + 1)) := by show _ = _; unfold foundLen; rw [HL.out]
      have HMj := hid' hMj
      have HKj := hid' hKj
      clear hMj hKj hWj hEj c0 c1 c2 c3 c4 c5 hj hlt
      generalize Q.marks P k.list a.size k.list.length = mk at *
      go_wp2
      go_loop [7, 59] (fun c i => ∃ r : Nat, r ≤ a.size + 1 ∧ i = .int .i64 r ∧ c = .int .i64 ((cntT mk r : Nat) : Int)) (fun _ i => a.size + 1 - (intOf i).toNat)
      case atStart => exact ⟨0, by omega, rfl, rfl⟩
      case round =>
        obtain ⟨r, hr, rfl, rfl⟩ := hrel
        have hcl := cntT_le mk r
        by_cases hlt3 : r < a.size + 1
        · have hc := HMj.out.cell r (by omega)
          have HS := hid' (cntT_succ mk r (by omega))
          have hri : (r : Int) < ((a.size + 1 : Nat) : Int) := by omega
          cases hb : mk.getD r false with
          | true =>
            rw [hb] at hc
            have HS2 : Hid (cntT mk (r + 1) = cntT mk r + 1) := by show _ = _; rw [HS.out, if_pos hb]
            go_wp2
            go_round
            case rel => exact ⟨r + 1, by omega, by go_num, by rw [HS2.out]; go_num⟩
            case measure => simp [intOf]; omega
          | false =>
            rw [hb] at hc
            have HS2 : Hid (cntT mk (r + 1) = cntT mk r) := by show _ = _; rw [HS.out, if_neg (by rw [hb]; decide)]; rfl
            go_wp2
            go_round
            case rel => exact ⟨r + 1, by omega, by go_num, by rw [HS2.out]⟩
            case measure => simp [intOf]; omega
        · obtain rfl : r = a.size + 1 := by omega
          obtain ⟨C, hCe⟩ : ∃ C, C = cntT mk (a.size + 1) := ⟨_, rfl⟩
          rw [← hCe] at hcl HFD HFL ⊢
          have hmi := make_ints (C : Int) C rfl (by omega)
          have HWj := hid' (HW.out.keep0 HKj.out)
          have HEj := hid' (HE.out.below (HKj.out.to_below (B := x.B) (by simp) (by omega)))
          have hszr : w.heap.size < wr.heap.size := Blk.lt HMj.out
          obtain ⟨c0, _⟩ := HWj.out.cells
          have hbwr : x.bw < wr.heap.size := by omega
          have hbir : x.bi < wr.heap.size := by omega
          have HIX : Hid (∀ o, Idx (wr.alloc o) x.bi rate h a) := fun o => Blk.alloc HEj.out.idx o
          have hh : h ≤ a.size := HEj.out.hh
          clear hCe
          go_wp2_with (go_at_call 54; refine (rows_any a x.bi rate h _ hsz hh (HIX.out _)).mono ?_; rintro e w6 ⟨br, rfl, hbr, hNr, hB6⟩)
          have hz6 : wr.heap.size + 1 ≤ w6.heap.size := by have := hB6.size; simpa using this
          have hbr2 : wr.heap.size + 1 ≤ br := by simpa using hbr
          have HM6 : Hid (Marks w6 w.heap.size mk) := Blk.below (Blk.alloc HMj.out _) hB6 (by simp; omega)
          have HL6 : Hid (Nums .i64 w6 wr.heap.size (natI (laidTo mk (M.rowsOf (L a) h) C 0))) := by
            show Nums _ _ _ _
            rw [laidTo_zero]
            have := Blk.below (Nums.new .i64 wr C 3) hB6 (by simp)
            unfold Nums natI
            rw [List.map_replicate]
            exact this
          have HB7 : Hid (Below w.heap.size w w6) := ((HKj.out.to_below (B := w.heap.size) (by simp) (Nat.le_refl _)).alloc (by omega) _).trans (hB6.mono (by simp; omega))
          have HN6 := hid' hNr
          clear hmi hNr hB6 c0 HIX
          go_loopw [7, 78] (fun c i w7 => ∃ r : Nat, r ≤ a.size + 1 ∧ i = .int .i64 r ∧ c = .int .i64 ((min (Q.placed mk (M.rowsOf (L a) h) r).length C : Nat) : Int) ∧ Nums .i64 w7 wr.heap.size (natI (laidTo mk (M.rowsOf (L a) h) C r)) ∧ Keep [wr.heap.size] w6 w7) (fun _ i _ => a.size + 1 - (intOf i).toNat)
          case atStart => exact ⟨0, by omega, rfl, by simp [Q.placed], HL6.out, Keep.refl _ _⟩
          case round =>
            obtain ⟨r, hr, rfl, rfl, hLr, hKr⟩ := hrel
            have hMr : Marks _ w.heap.size mk := Blk.of_heap HM6.out (hKr.block _ (Blk.lt HM6.out) (by simp; omega))
            have hNr : Nums .i64 _ br (M.rowsI (L a) h) := Blk.of_heap HN6.out (hKr.block _ (Blk.lt HN6.out) (by simp; omega))
            by_cases hlt4 : r < a.size + 1
            · have hrv := M.rowsOf_le (L a) h (by rw [HL.out]; exact hh) r (by rw [HL.out]; omega)
              rw [HL.out] at hrv
              have hcr := hNr.cell r (by rw [M.rowsI_length, HL.out]; exact hlt4)
              rw [M.rowsI_at] at hcr
              have hcm := hMr.cell ((M.rowsOf (L a) h).getD r 0) (by omega)
              have HSK := hid' (laidTo_skip mk (M.rowsOf (L a) h) C r)
              have HSE := hid' (laidTo_set mk (M.rowsOf (L a) h) C r)
              have HLr := hid' hLr
              have HKr := hid' hKr
              have hri : (r : Int) < ((a.size + 1 : Nat) : Int) := by omega
              have hfl := Blk.frozen hLr
              have hll := laidTo_len mk (M.rowsOf (L a) h) C r
              have HCL := hid' (fun i (hi : i < C) => hLr.cell i (by rw [natI_len, hll]; exact hi))
              clear hLr hKr hMr hNr
              generalize hRV : (M.rowsOf (L a) h).getD r 0 = RV at *
              have hrvi : (RV : Int) < ((a.size + 1 : Nat) : Int) := by omega
              generalize hPLe : (Q.placed mk (M.rowsOf (L a) h) r).length = PL at *
              cases hb : mk.getD RV false with
              | false =>
                rw [hb] at hcm
                obtain ⟨e1, e2⟩ := HSK.out (.inl hb)
                have HE1 := hid' e1
                have HE2 := hid' e2
                clear e1 e2 HSK HSE HCL
                go_wp2
                go_roundw
                case rel => exact ⟨r + 1, by omega, by go_num, by rw [HE2.out], by rw [HE1.out]; exact HLr.out, HKr.out⟩
                case measure => simp [intOf]; omega
              | true =>
                rw [hb] at hcm
                by_cases hc : PL < C
                · obtain ⟨e1, e2⟩ := HSE.out hb hc
                  have HE1 := hid' e1
                  have HE2 := hid' e2
                  have hmin : min PL C = PL := by omega
                  have hcc := HCL.out PL hc
                  have hd : decide ((PL : Int) < (C : Int)) = true := by simp; omega
                  have hpc : (PL : Int) < (C : Int) := by omega
                  rw [hmin]
                  clear e1 e2 HSK HSE HCL
                  go_wp2
                  go_roundw
                  case rel => exact ⟨r + 1, by omega, by go_num, by rw [HE2.out, show min (PL + 1) C = PL + 1 by omega]; go_num, by rw [← HE1.out, ← natI_set]; exact HLr.out.set _ _, HKr.out.setCell (by simp) _⟩
                  case measure => simp [intOf]; omega
                · obtain ⟨e1, e2⟩ := HSK.out (.inr (by omega))
                  have HE1 := hid' e1
                  have HE2 := hid' e2
                  have hmin : min PL C = C := by omega
                  rw [hmin]
                  rw [hmin] at HE2
                  clear e1 e2 HSK HSE HCL
                  go_wp2
                  go_roundw
                  case rel => exact ⟨r + 1, by omega, by go_num, by rw [HE2.out], by rw [HE1.out]; exact HLr.out, HKr.out⟩
                  case measure => simp [intOf]; omega
            · obtain rfl : r = a.size + 1 := by omega
              have HLr := hid' hLr
              have HKr := hid' hKr
              clear hLr hKr hMr hNr
              go_wp2
              go_ret
              exact ⟨_, by rw [HFL.out]; rfl, by omega, by rw [HFD.out]; exact HLr.out, HB7.out.trans (HKr.out.to_below (by simp; omega) (by omega))⟩
end Go.Proofs.Ytjmkkkfloalliab
