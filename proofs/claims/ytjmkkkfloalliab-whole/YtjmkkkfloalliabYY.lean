import Derived.Test.YtjmkkkfloalliabYX
-- the walk: going on
namespace Go.Proofs.Ytjmkkkfloalliab
set_option linter.unusedVariables false
open Go.RowKit

/-- what a walk goes through -/
structure WE (w : World) (x : Wh) (rate h : Nat) (a : ByteArray) (P : Q.Pat) : Prop where
  idx : Idx w x.bi rate h a
  pat : PaT w x.bp P
  lon : Nums .i64 w x.bl (M.lonL (L a))
  bi : x.bi < x.B
  bp : x.bp < x.B
  bl : x.bl < x.B
  n : x.n = a.size
  hh : h ≤ a.size
  sz : a.size ≤ 1000
theorem WE.below {w w' : World} {x : Wh} {rate h : Nat} {a : ByteArray} {P : Q.Pat} (e : WE w x rate h a P) (b : Below x.B w w') : WE w' x rate h a P :=
  ⟨Blk.below e.idx b e.bi, ⟨e.pat.ok, (b.block _ e.bp).trans e.pat.blk⟩, Blk.below e.lon b e.bl, e.bi, e.bp, e.bl, e.n, e.hh, e.sz⟩
theorem Keep.belowS {w w' : World} {x : Wh} {k : Q.Wk} {v : Value} (h : Keep (turnS x v) w w') (hW : WkT w x k v) : Below x.B w w' := by
  refine h.to_below (fun b hb => ?_) (by have := hW.bw; have := hW.blk.lt; omega)
  rcases mem_turnS.1 hb with rfl | rfl | e
  · exact hW.bw
  · exact hW.bn
  · exact (own_lt' hW.own b e).2

/-- counts of the bytes from slot i to before k -/
def cI (a : List UInt8) (i k c : Nat) : Nat := Q.cntIn a i k (UInt8.ofNat c)
theorem cI_at (a : List UInt8) (i k : Nat) (c : UInt8) : cI a i k c.toNat = Q.cntIn a i k c := by unfold cI; simp
theorem cI_zero (a : List UInt8) (i : Nat) : M.tab (cI a i i) = List.replicate 256 0 := by
  rw [List.eq_replicate_iff]
  refine ⟨M.tab_length _, fun b hb => ?_⟩
  unfold M.tab at hb
  obtain ⟨c, _, rfl⟩ := List.mem_map.1 hb
  unfold cI
  rw [Q.cntIn_self]
  rfl
theorem cI_step (a : List UInt8) (i k : Nat) (hik : i ≤ k) (hk : k < a.length) : (M.tab (cI a i k)).set (a.getD k 0).toNat ((cI a i k (a.getD k 0).toNat + 1 : Nat) : Int) = M.tab (cI a i (k + 1)) := by
  refine M.tab_set _ _ _ _ ?_ ?_
  · rw [cI_at, cI_at, Q.cntIn_step a i k hik hk, if_pos rfl]
  · intro d hd hne
    unfold cI
    rw [Q.cntIn_step a i k hik hk, if_neg]
    · rfl
    · intro e
      apply hne
      rw [e]
      simp
      omega
/-- what is left of the counts at slot k -/
def cL (a : List UInt8) (i j k c : Nat) : Nat := if cI a i k c = 0 then cI a i j c else 0
theorem cL_start (a : List UInt8) (i j : Nat) : M.tab (cL a i j i) = M.tab (cI a i j) := by
  unfold M.tab
  apply List.map_congr_left
  intro c _
  unfold cL cI
  rw [Q.cntIn_self, if_pos rfl]
theorem cL_skip (a : List UInt8) (i j k : Nat) (hik : i ≤ k) (hk : k < a.length) (h : cI a i k (a.getD k 0).toNat ≠ 0) : M.tab (cL a i j (k + 1)) = M.tab (cL a i j k) := by
  unfold M.tab
  apply List.map_congr_left
  intro c hc
  have hc2 := List.mem_range.1 hc
  unfold cL
  by_cases e : c = (a.getD k 0).toNat
  · subst e
    have : cI a i (k + 1) (a.getD k 0).toNat ≠ 0 := by rw [cI_at, Q.cntIn_step a i k hik hk]; rw [cI_at] at h; omega
    rw [if_neg h, if_neg this]
  · have : cI a i (k + 1) c = cI a i k c := by
      unfold cI
      rw [Q.cntIn_step a i k hik hk, if_neg]
      · rfl
      · intro e2
        apply e
        rw [e2]
        simp
        omega
    rw [this]
theorem cL_step (a : List UInt8) (i j k : Nat) (hik : i ≤ k) (hk : k < a.length) : (M.tab (cL a i j k)).set (a.getD k 0).toNat ((0 : Nat) : Int) = M.tab (cL a i j (k + 1)) := by
  refine M.tab_set _ _ _ _ ?_ ?_
  · unfold cL
    rw [if_neg (by rw [cI_at, Q.cntIn_step a i k hik hk, if_pos rfl]; omega)]
  · intro d hd hne
    unfold cL
    have : cI a i (k + 1) d = cI a i k d := by
      unfold cI
      rw [Q.cntIn_step a i k hik hk, if_neg]
      · rfl
      · intro e2
        apply hne
        rw [e2]
        simp
        omega
    rw [this]

theorem built119 (l h p : Int) : Try.prog.built 99 [(0, .int .i64 l), (1, .int .i64 h), (2, .int .u64 p)] = some #[.int .i64 l, .int .i64 h, .int .u64 p, .int .i64 0] := by kernel_rfl

set_option maxRecDepth 10000 in
set_option maxHeartbeats 3200000 in
theorem goOn_any (x : Wh) (k : Q.Wk) (v : Value) (s : Q.St) (rate h : Nat) (a : ByteArray) (P : Q.Pat) (w : World) (hW : WkT w x k v) (hE : WE w x rate h a P) (hs : Q.StOk x.n s) (hlen : k.list.length + x.n ≤ 90000000) :
    Calls Try.prog 52 #[.pointer (some ⟨x.bw, 0, none⟩), .agg (stC s).toArray] w fun e w' => e = .returned (.tuple #[]) ∧ ∃ v', WkT w' x (Q.goOn (L a) h P x.memo s k) v' ∧ Below x.B w w' := by
  have HL : Hid ((L a).length = a.size) := size_len a
  have hbw := hW.blk.lt
  have hbn := Blk.lt hW.new
  have hBw := hW.bw
  have hBn := hW.bn
  obtain ⟨c0, c1, c2, c3, c4, c5⟩ := hW.cells
  have d1 := hE.idx.c1
  have d2 := hE.idx.c2
  have hbi := hE.bi
  have hbp := hE.bp
  have hbl := hE.bl
  have hbi2 : x.bi < w.heap.size := by omega
  have hbp2 : x.bp < w.heap.size := by omega
  have hbl2 : x.bl < w.heap.size := by omega
  have hn := hE.n
  have hh := hE.hh
  have hsz := hE.sz
  have HW : Hid (WkT w x k v) := hW
  have HE : Hid (WE w x rate h a P) := hE
  have hsl := hs.le
  have hsh := hs.high
  have hsp := hs.places
  have hto := Q.sl_le h s.high a.size hh (by omega)
  have hft := Q.sl_mono h s.low s.high hsl
  clear hW hE
  unfold stC
  have hl5 : s.low ≤ 100000 := by omega
  have hh5 : s.high ≤ 100000 := by omega
  go_enter Try.func52, Try.ntmps52
  go_wp2
  go_quiet ((go_at_call 48; exact Calls.quiet_of_same (slot_nat _ _ _ hl5)))
  have HK1 : Hid (Keep [] w ((w.alloc (.cells #[.int .i64 (s.low : Int), .int .i64 (s.high : Int), .int .u64 (s.places : Int), .int .i64 (s.twin : Int)] 99)).drewN nq)) := ((Keep.refl [] w).alloc _).drewN nq
  have HB1 : Hid (BlkT ((w.alloc (.cells #[.int .i64 (s.low : Int), .int .i64 (s.high : Int), .int .u64 (s.places : Int), .int .i64 (s.twin : Int)] 99)).drewN nq) w.heap.size 99 (stC s)) := BlkT.new w _ _
  generalize (w.alloc (.cells #[.int .i64 (s.low : Int), .int .i64 (s.high : Int), .int .u64 (s.places : Int), .int .i64 (s.twin : Int)] 99)).drewN nq = w1 at *
  clear c0 c1 c2 c3 c4 c5 d1 d2
  have hW1 := HW.out.keep0 HK1.out
  have hE1 := HE.out.below (HK1.out.to_below (by simp) (by omega))
  obtain ⟨c0, c1, c2, c3, c4, c5⟩ := hW1.cells
  have d1 := hE1.idx.c1
  have b0 := HB1.out.cell 0; have b1 := HB1.out.cell 1; have b2 := HB1.out.cell 2
  simp only [stC, List.getElem?_cons_zero, List.getElem?_cons_succ] at b0 b1 b2
  clear hW1 hE1
  go_wp2
  go_quiet ((go_at_call 48; exact Calls.quiet_of_same (slot_nat _ _ _ hh5)))
  have HK2 : Hid (Keep [] w ((w1.drewN nq).alloc (.cells Try.zeroCells93 93))) := (HK1.out.drewN nq).alloc _
  have HB2 : Hid (BlkT ((w1.drewN nq).alloc (.cells Try.zeroCells93 93)) w.heap.size 99 (stC s)) := BlkT.alloc (show BlkT (w1.drewN nq) _ _ _ from HB1.out) _
  have HC2 : Hid (Nums .i64 ((w1.drewN nq).alloc (.cells Try.zeroCells93 93)) w1.heap.size (List.replicate 256 0)) := by
    show Nums _ _ _ _
    unfold Nums
    rw [List.map_replicate, ← zero91]
    exact Blk.new _ _ _
  have hs1 := HK1.out.size
  have hs1b := HB1.out.lt
  clear c0 c1 c2 c3 c4 c5 d1 b0 b1 b2
  go_wp2
  generalize hNe : (w1.drewN nq).alloc (.cells Try.zeroCells93 93) = w2 at *
  clear hNe
  have hs2 : w1.heap.size < w2.heap.size := Blk.lt HC2.out
  have nbc1 : w1.heap.size ≠ w.heap.size := by omega
  have HGO : Hid (Q.goOn (L a) h P x.memo s k = Q.goTo (L a) h P x.memo s k (M.sl h s.high - M.sl h s.low)) := rfl
  generalize hfr : M.sl h s.low = fr at HGO hft ⊢
  generalize hto_ : M.sl h s.high = to_ at HGO hft hto ⊢
  have HFR : Hid (M.sl h s.low = fr) := hfr
  have HTO : Hid (M.sl h s.high = to_) := hto_
  clear hfr hto_
  go_loopw [7] (fun i wr => ∃ j : Nat, fr ≤ j ∧ j ≤ to_ ∧ i = .int .i64 j ∧ Nums .i64 wr w1.heap.size (M.tab (cI (L a) fr j)) ∧ Keep [w1.heap.size] w2 wr) (fun i _ => to_ - (intOf i).toNat)
  case atStart => exact ⟨fr, Nat.le_refl _, hft, rfl, by rw [cI_zero]; exact HC2.out, Keep.refl _ _⟩
  case round =>
    obtain ⟨j, hj1, hj2, rfl, hNj, hKj⟩ := hrel
    have hKw : Keep [] w wr := HK2.out.trans2 hKj (by simp; omega)
    have hWr := HW.out.keep0 hKw
    have hEr := HE.out.below (hKw.to_below (by simp) (by omega))
    obtain ⟨c0, c1, c2, c3, c4, c5⟩ := hWr.cells
    have d2 := hEr.idx.c2
    by_cases hlt : j < to_
    · have hja : j < a.size := by omega
      have hby := getD_lt (L a) j
      have hc := hNj.cell ((L a).getD j 0).toNat (by rw [M.tab_length]; omega)
      rw [M.tab_at _ _ (by omega)] at hc
      have hcl : cI (L a) fr j ((L a).getD j 0).toNat ≤ 1000 := by rw [cI_at]; have := Q.cntIn_le (L a) fr j ((L a).getD j 0); rw [HL.out] at this; omega
      have hfz := Blk.frozen hNj ((L a).getD j 0).toNat
      have HST : Hid _ := cI_step (L a) fr j hj1 (by rw [HL.out]; exact hja)
      have HBY : Hid (a[j] = (L a).getD j 0) := byte_at a j hja
      rw [← byte_at a j hja] at hby hc hfz hcl HST
      have HNj : Hid (Nums .i64 wr w1.heap.size (M.tab (cI (L a) fr j))) := hNj
      have HKj : Hid (Keep [w1.heap.size] w2 wr) := hKj
      clear hNj hKj hKw hWr hEr
      go_wp2
      go_roundw
      case rel =>
        refine ⟨j + 1, by omega, by omega, by go_num, ?_, HKj.out.setCell (by simp) _⟩
        rw [← HST.out]
        exact HNj.out.set _ _
      case measure => simp [intOf]; omega
    · obtain rfl : j = to_ := by omega
      have HNj : Hid (Nums .i64 wr w1.heap.size (M.tab (cL (L a) fr j fr))) := by show Nums _ _ _ _; rw [cL_start]; exact hNj
      have HKw : Hid (Keep [] w wr) := hKw
      have HBr : Hid (BlkT wr w.heap.size 99 (stC s)) := HB2.out.keep hKj (by simp; omega)
      have hszr := hKj.size
      clear hNj hKj hKw hWr hEr c0 c1 c2 c3 c4 c5 d2 hj1 hj2 hlt
      go_wp2
      generalize hwr3 : wr = w3 at *
      clear hwr3
      go_loopw [9] (fun i wr => ∃ (m : Nat) (vv : Value), fr ≤ m ∧ m ≤ j ∧ i = .int .i64 (m : Int) ∧ WkT wr x (Q.goTo (L a) h P x.memo s k (m - fr)) vv ∧ Keep (turnS x v) w wr ∧ (∀ b, vv.ownBlock = some b → v.ownBlock = some b ∨ w3.heap.size ≤ b) ∧
        Nums .i64 wr w1.heap.size (M.tab (cL (L a) fr j m)) ∧ BlkT wr w.heap.size 99 (stC s) ∧ w3.heap.size ≤ wr.heap.size) (fun i _ => j - (intOf i).toNat)
      case atStart => exact ⟨fr, v, Nat.le_refl _, hft, rfl, by rw [Nat.sub_self]; exact HW.out.keep0 HKw.out, HKw.out.mono (by simp), fun b hb => .inl hb, HNj.out, HBr.out, Nat.le_refl _⟩
      case round =>
        clear HNj HBr
        obtain ⟨m, vv, hd0, hd, rfl, hWr, hKr, hvv, hNr, hBr, hs4⟩ := hrel
        have hBx := hKr.belowS HW.out
        have hEr := HE.out.below hBx
        obtain ⟨c0, c1, c2, c3, c4, c5⟩ := hWr.cells
        have d2 := hEr.idx.c2
        by_cases hlt : m < j
        · have hja : m < a.size := by omega
          have hby := getD_lt (L a) (m)
          have hc := hNr.cell ((L a).getD (m) 0).toNat (by rw [M.tab_length]; omega)
          rw [M.tab_at _ _ (by omega)] at hc
          have hfz := Blk.frozen hNr ((L a).getD (m) 0).toNat
          have HBY : Hid (a[m] = (L a).getD (m) 0) := byte_at a (m) hja
          have hkl : m < (L a).length := by rw [HL.out]; exact hja
          have HNr : Hid (Nums .i64 wr w1.heap.size (M.tab (cL (L a) fr j (m)))) := hNr
          have HWr : Hid (WkT wr x (Q.goTo (L a) h P x.memo s k (m - fr)) vv) := hWr
          have HKr : Hid (Keep (turnS x v) w wr) := hKr
          have HVV : Hid (∀ b, vv.ownBlock = some b → v.ownBlock = some b ∨ w3.heap.size ≤ b) := hvv
          have HBr : Hid (BlkT wr w.heap.size 99 (stC s)) := hBr
          have HEr : Hid (WE wr x rate h a P) := hEr
          have hgl := (Q.goTo_len (a := L a) (h := h) (P := P) (memo := x.memo) s k (m - fr)).2
          have HG1 : Hid (Q.goTo (L a) h P x.memo s k (m + 1 - fr) = Q.oneOn (L a) h P x.memo s (m) (Q.goTo (L a) h P x.memo s k (m - fr))) := by
            show _ = _
            have e : Q.goTo (L a) h P x.memo s k ((m - fr) + 1) = Q.oneOn (L a) h P x.memo s (M.sl h s.low + (m - fr)) (Q.goTo (L a) h P x.memo s k (m - fr)) := rfl
            rw [show m + 1 - fr = (m - fr) + 1 by omega, e, HFR.out, show fr + (m - fr) = m by omega]
          have hcle : cI (L a) fr j ((L a).getD (m) 0).toNat ≤ 1000 := by rw [cI_at]; have := Q.cntIn_le (L a) fr j ((L a).getD (m) 0); rw [HL.out] at this; omega
          by_cases hz : cI (L a) fr (m) ((L a).getD (m) 0).toNat = 0
          · have hcv : cL (L a) fr j (m) ((L a).getD (m) 0).toNat = cI (L a) fr j ((L a).getD (m) 0).toNat := by unfold cL; rw [if_pos hz]
            rw [hcv] at hc
            have hpos : 0 < cI (L a) fr j ((L a).getD (m) 0).toNat := by
              rw [cI_at]
              have e1 := Q.take_cnt (L a) fr j (by omega) ((L a).getD (m) 0)
              have e2 := Q.take_cnt (L a) fr (m + 1) (by omega) ((L a).getD (m) 0)
              have e3 := Q.cntIn_step (L a) fr (m) (by omega) hkl ((L a).getD (m) 0)
              rw [if_pos rfl] at e3
              have e4 : ((L a).take (m + 1)).countP (fun y => y == (L a).getD (m) 0) ≤ ((L a).take j).countP (fun y => y == (L a).getD (m) 0) := by
                refine List.Sublist.countP_le ?_
                have : (L a).take (m + 1) = ((L a).take j).take (m + 1) := by rw [List.take_take, Nat.min_eq_left (by omega)]
                rw [this]
                exact List.take_sublist _ _
              omega
            have HST : Hid _ := cL_step (L a) fr j (m) (by omega) hkl
            have HZ : Hid (Q.cntIn (L a) fr (m) ((L a).getD (m) 0) = 0) := by show _ = _; rw [← cI_at]; exact hz
            have HSZ : Hid (cI (L a) fr j ((L a).getD (m) 0).toNat = Q.cntIn (L a) fr j ((L a).getD (m) 0)) := cI_at _ _ _ _
            have hroom := Q.LF_room (L a) fr j (m) (by omega) hlt (by rw [HL.out]; omega) HZ.out
            rw [HL.out, ← HSZ.out] at hroom
            have hahl := Q.aheadOf_lt HEr.out.pat.ok s.places ((L a).getD m 0).toNat
            have HONE : Hid (Q.oneOn (L a) h P x.memo s m (Q.goTo (L a) h P x.memo s k (m - fr)) = if Q.aheadOf P s.places ((L a).getD m 0).toNat ≠ 0 then Q.addS x.memo (Q.goTo (L a) h P x.memo s k (m - fr)) ⟨M.LF (L a) m, M.LF (L a) m + cI (L a) fr j ((L a).getD m 0).toNat, Q.aheadOf P s.places ((L a).getD m 0).toNat, 0⟩ else Q.goTo (L a) h P x.memo s k (m - fr)) := by
              show _ = _
              unfold Q.oneOn
              rw [HFR.out, HTO.out, HSZ.out, HZ.out]
              simp
            have hlo := HEr.out.lon.cell m (by rw [M.lonL_length]; exact hkl)
            rw [M.lonL_at _ _ hkl] at hlo
            have b2 := hBr.cell 2
            simp only [stC, List.getElem?_cons_zero, List.getElem?_cons_succ] at b2
            have hlfle : M.LF (L a) m ≤ a.size := by have := M.LF_le (L a) m hkl; rw [HL.out] at this; exact this
            rw [← byte_at a m hja] at hby hc hfz hcle hpos HST HSZ hroom hahl HONE
            have HPT : Hid (PaT wr x.bp P) := hEr.pat
            have hal : m < x.n := by omega
            have h256 : (a[m].toNat : Int) < 256 := by omega
            have hnew : ∀ u, PaT (wr.setCell ⟨w1.heap.size, a[m].toNat, none⟩ u) x.bp P := fun u => HPT.out.other (by simp; omega) u
            have HNEW : Hid (∀ u, PaT (wr.setCell ⟨w1.heap.size, a[m].toNat, none⟩ u) x.bp P) := hnew
            have n1 : w1.heap.size ≠ x.bw := by omega
            have n2 : w1.heap.size ≠ x.bl := by omega
            have n3 : w1.heap.size ≠ w.heap.size := by omega
            generalize hSZ : cI (L a) fr j a[m].toNat = SZ at *
            generalize hPL : Q.aheadOf P s.places a[m].toNat = PL at *
            have hPL49 : PL < 2 ^ 49 := Q.lt64 HPT.out.ok hahl
            have hnzS : ((SZ : Int) == 0) = false := by simp; omega
            clear hnew hNr hWr hKr hvv hBr hEr hz hahl
            go_wp2_with fail
            have hKs : Keep [w1.heap.size] wr (wr.setCell ⟨w1.heap.size, a[m].toNat, none⟩ (.int .i64 0)) := (Keep.refl _ _).setCell (by simp) _
            have own1 : ∀ b, vv.ownBlock = some b → b ∉ [w1.heap.size] := fun b hb hm => by
              have e := List.mem_singleton.1 hm
              subst e
              rcases HVV.out _ hb with h | h
              · have := (own_lt' HW.out.own _ h).1; omega
              · omega
            have hW4 := HWr.out.keep hKs (by simp; omega) (by simp; omega) own1
            have hE4 := HEr.out.below (hKs.to_below (B := x.B) (by simp; omega) (by omega))
            have hB4 := HBr.out.keep hKs (by simp; omega)
            have hN4 : Nums .i64 (wr.setCell ⟨w1.heap.size, a[m].toNat, none⟩ (.int .i64 0)) w1.heap.size (M.tab (cL (L a) fr j (m + 1))) := by
              rw [← HST.out]
              exact HNr.out.set _ _
            have hK4 : Keep (turnS x v) w (wr.setCell ⟨w1.heap.size, a[m].toNat, none⟩ (.int .i64 0)) := HKr.out.setNew (by simp; omega) _
            have hs5 : wr.heap.size ≤ (wr.setCell ⟨w1.heap.size, a[m].toNat, none⟩ (.int .i64 0)).heap.size := by simp
            clear hKs own1 c0 c1 c2 c3 c4 c5 d2 hc hfz hlo b2 HNEW HPT HNr HWr HKr HBr HEr HST
            generalize wr.setCell ⟨w1.heap.size, a[m].toNat, none⟩ (.int .i64 0) = w4 at *
            obtain ⟨c0, c1, c2, c3, c4, c5⟩ := hW4.cells
            have b2 := hB4.cell 2
            simp only [stC, List.getElem?_cons_zero, List.getElem?_cons_succ] at b2
            have hlo := hE4.lon.cell m (by rw [M.lonL_length]; exact hkl)
            rw [M.lonL_at _ _ hkl] at hlo
            have HP4 : Hid (PaT w4 x.bp P) := hE4.pat
            have HAH : Hid (∀ q, Calls Try.prog 67 #[.pointer (some ⟨x.bp, 0, none⟩), .int .u64 (s.places : Int), .int .u8 (a[m].toNat : Int)] (w4.drewN q) fun e w' => e = .returned (.int .u64 ((PL : Nat) : Int)) ∧ w' = (w4.drewN q)) := fun q => by
              rw [← hPL]
              exact Ahead_any x.bp P s.places a[m] _ (HP4.out.drewN q) hsp
            have HW4 : Hid (WkT w4 x (Q.goTo (L a) h P x.memo s k (m - fr)) vv) := hW4
            have HB4 : Hid (BlkT w4 w.heap.size 99 (stC s)) := hB4
            have HN4 : Hid (Nums .i64 w4 w1.heap.size (M.tab (cL (L a) fr j (m + 1)))) := hN4
            have HK4 : Hid (Keep (turnS x v) w w4) := hK4
            clear hW4 hB4 hN4 hK4 hE4 HBY HSZ HZ
            go_quiet ((go_at_call 67; exact Calls.quiet_of_same (HAH.out _)))
            by_cases hpl : PL = 0
            · have HO1 : Hid (Q.goTo (L a) h P x.memo s k (m + 1 - fr) = Q.goTo (L a) h P x.memo s k (m - fr)) := by show _ = _; rw [HG1.out, HONE.out, if_neg (by simp [hpl])]
              have hp0 : ((PL : Int) != 0) = false := by rw [hpl]; rfl
              go_wp2
              go_roundw
              case rel => exact ⟨m + 1, vv, by omega, by omega, by go_num, by rw [HO1.out]; exact HW4.out.keep0 ((Keep.refl [] w4).drewN _), HK4.out.drewN _, HVV.out, HN4.out, HB4.out, by show w3.heap.size ≤ w4.heap.size; omega⟩
              case measure => simp [intOf]; omega
            · have HO1 : Hid (Q.goTo (L a) h P x.memo s k (m + 1 - fr) = Q.addS x.memo (Q.goTo (L a) h P x.memo s k (m - fr)) ⟨M.LF (L a) m, M.LF (L a) m + SZ, PL, 0⟩) := by show _ = _; rw [HG1.out, HONE.out, if_pos (by simp [hpl])]
              have hp0 : ((PL : Int) != 0) = true := by simp; omega
              have HWq : ∀ q, Hid (WkT (w4.drewN q) x (Q.goTo (L a) h P x.memo s k (m - fr)) vv) := fun q => HW4.out.keep0 ((Keep.refl [] w4).drewN q)
              have HSO : Hid (Q.StOk x.n ⟨M.LF (L a) m, M.LF (L a) m + SZ, PL, 0⟩) := ⟨by show M.LF (L a) m ≤ M.LF (L a) m + SZ; omega, by show M.LF (L a) m + SZ ≤ x.n + 1; omega, hPL49⟩
              have hlen3 : (Q.goTo (L a) h P x.memo s k (m - fr)).list.length + 1 ≤ 100000000 := by omega
              have hlow3 : M.LF (L a) m ≤ x.n := by omega
              have i1 : (m : Int) < (x.n : Int) := by omega
              go_wp2_with (go_at_call 51; refine (wadd_any x _ vv ⟨M.LF (L a) m, M.LF (L a) m + SZ, PL, 0⟩ _ (HWq _).out HSO.out hlow3 (by omega) hlen3).mono ?_; rintro e w6 ⟨rfl, v6, hW6, hK6, hv6⟩)
              go_roundw
              case rel =>
                have bcN : w1.heap.size ∉ turnS x vv := fun hm => by
                  rcases mem_turnS.1 hm with e | e | e
                  · omega
                  · omega
                  · rcases HVV.out _ e with h | h
                    · have := (own_lt' HW.out.own _ h).1; omega
                    · omega
                have bsN : w.heap.size ∉ turnS x vv := fun hm => by
                  rcases mem_turnS.1 hm with e | e | e
                  · omega
                  · omega
                  · rcases HVV.out _ e with h | h
                    · have := (own_lt' HW.out.own _ h).1; omega
                    · omega
                have hsz6 : w4.heap.size ≤ w6.heap.size := hK6.size
                refine ⟨m + 1, v6, by omega, by omega, by go_num, by rw [HO1.out]; exact hW6, (HK4.out.drewN _).trans2 hK6 (fun b hb hnb => ?_), fun b hb => ?_, Blk.of_heap HN4.out (hK6.block _ (by show w1.heap.size < w4.heap.size; omega) bcN), BlkT.keep (show BlkT (w4.drewN _) _ _ _ from HB4.out) hK6 bsN, by omega⟩
                · rcases mem_turnS.1 hb with e | e | e
                  · exact absurd (mem_turnS.2 (.inl e)) hnb
                  · exact absurd (mem_turnS.2 (.inr (.inl e))) hnb
                  · rcases HVV.out _ e with h | h
                    · exact absurd (mem_turnS.2 (.inr (.inr h))) hnb
                    · omega
                · rcases hv6 b hb with h | h
                  · exact HVV.out b h
                  · exact .inr (by have h7 : w4.heap.size ≤ b := h; omega)
              case measure => simp [intOf]; omega
          · have hcv : cL (L a) fr j m ((L a).getD m 0).toNat = 0 := by unfold cL; rw [if_neg hz]
            rw [hcv] at hc
            have HSK := cL_skip (L a) fr j m hd0 hkl hz
            have HO1 : Hid (Q.goTo (L a) h P x.memo s k (m + 1 - fr) = Q.goTo (L a) h P x.memo s k (m - fr)) := by
              show _ = _
              rw [HG1.out]
              unfold Q.oneOn
              rw [HFR.out, if_neg (fun hh => hz (by rw [cI_at]; exact hh.1))]
            rw [← byte_at a m hja] at hby hc hfz
            have h256 : (a[m].toNat : Int) < 256 := by omega
            have HSKh : Hid (M.tab (cL (L a) fr j (m + 1)) = M.tab (cL (L a) fr j m)) := HSK
            clear hNr hWr hKr hvv hBr hEr hz HSK hcle hcv HG1
            go_wp2
            go_roundw
            case rel => exact ⟨m + 1, vv, by omega, by omega, by go_num, by rw [HO1.out]; exact HWr.out, HKr.out, HVV.out, by rw [HSKh.out]; exact HNr.out, HBr.out, hs4⟩
            case measure => simp [intOf]; omega
        · obtain rfl : m = j := by omega
          go_wp2
          go_end0
          exact ⟨rfl, vv, by rw [HGO.out]; exact hWr, hBx⟩
end Go.Proofs.Ytjmkkkfloalliab
