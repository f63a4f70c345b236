import Derived.Test.YtjmkkkfloalliabYR
-- a pattern is written out: parts
namespace Go.Proofs.Ytjmkkkfloalliab
set_option linter.unusedVariables false
open Go.RowKit
attribute [local go_sem ↓] zero_part

theorem hid {p : Prop} (h : p) : Hid p := h
theorem wpl_newb {ops : Array Oper} {rest : List Oper} {op : Oper} {a : Act} {w : World} {QQ : Exit → Act → World → Prop} (b : Nat) (hgd : op.guard = none) (x y : Operand) (ho : op.op = .store 90 x y) (hx : a.eval x = .pointer (some ⟨b, 0, none⟩)) (hb : b = w.heap.size)
    (p : Q.Part) (hl : p.ins.length = 256) (hy : a.eval y = .agg (partCells p).toArray) (h : wpList Try.prog ops QQ rest (a.put op.dst undef) (w.alloc (.cells (partCells p).toArray 90))) :
    wpList Try.prog ops QQ (op :: rest) a (w.alloc (.cells (partCells zeroPart).toArray 90)) := by
  subst hb
  exact wpl_new hgd x y ho hx p hl hy h
theorem PtT.range {w : World} {b : Nat} {p : Q.Part} (h : PtT w b p) : w.rangeAt b 0 (partCells p) := fun j x hx => by rw [Nat.zero_add, h.2.cell j]; exact hx

set_option maxRecDepth 10000 in
set_option maxHeartbeats 6400000 in
theorem lay_step (f : Nat) (hlay : LayD f) : LayD (f + 1) := by
  intro bp bt ot g cap ps n p w hP hT hps h1 h2 hn hf hsz
  have hlt := hP.blk.lt
  obtain ⟨kok, kfill⟩ := hps.get n hn
  have hi := kok.ins
  have ct1 : (w.alloc (.cells #[.int .u64 0, .int .u64 0, .bool false] 121)).cell? ⟨bt, ot, none⟩ = some (.slice (some ⟨g, 0, none⟩) ps.length cap) := by rw [World.cell?_alloc_lt _ _ _ hT.lb]; exact hT.ct
  have HRG : Hid ((w.alloc (.cells #[.int .u64 0, .int .u64 0, .bool false] 121)).rangeAt g (n * 265) (partCells (Q.at_ ps n))) := World.rangeAt_alloc (hT.rg n hn) _
  have HIS : Hid ((Try.prog.info? 90).map (·.size) = some (partCells (Q.at_ ps n)).length) := by show _ = _; rw [Try.size110, partCells_len hi]
  have i0 : (0 : Int) ≤ (n : Int) := by omega
  have i1 : (n : Int) < (ps.length : Int) := by omega
  have HP : Hid (PaT w bp p) := hP
  have HT : Hid (TE w bt ot g cap ps) := hT
  have HLAY : Hid (LayD f) := hlay
  have HPS : Hid (Q.PartsOk ps) := hps
  have hbl := hT.lb
  have hgl := hT.lg
  have hct := hT.ct
  have HPT : Hid (PtT ((w.alloc (.cells #[.int .u64 0, .int .u64 0, .bool false] 121)).alloc (.cells (partCells (Q.at_ ps n)).toArray 90)) (w.heap.size + 1) (Q.at_ ps n)) := by
    show PtT _ _ _
    have := PtT.new (w.alloc (.cells #[.int .u64 0, .int .u64 0, .bool false] 121)) hi
    simpa using this
  have HRS : Hid (BlkT ((w.alloc (.cells #[.int .u64 0, .int .u64 0, .bool false] 121)).alloc (.cells (partCells (Q.at_ ps n)).toArray 90)) w.heap.size 121 [.int .u64 0, .int .u64 0, .bool false]) := (BlkT.new w _ _).alloc _
  have HK1 : Hid (Keep [] w ((w.alloc (.cells #[.int .u64 0, .int .u64 0, .bool false] 121)).alloc (.cells (partCells (Q.at_ ps n)).toArray 90))) := ((Keep.refl [] w).alloc _).alloc _
  have HLE : Hid (∀ m, m < ps.length → m < f → Q.Lays (Q.at_ ps m).places (Q.lay ps f m)) := fun m a b => Q.lay_ok hps f m b a
  obtain ⟨X, hX⟩ : ∃ X, Q.lay ps (f + 1) n p = X := ⟨_, rfl⟩
  rw [hX]
  have HX : Hid (Q.lay ps (f + 1) n p = X) := hX
  clear hlay hps hP hT hX
  go_enter Try.func65, Try.ntmps65
  go_upto_region 2 with (first
    | (refine wpList_load_mid (by rfl) 90 _ (by rfl) g (n * 265) (by rfl) (partCells (Q.at_ ps n)) _ HRG.out Try.underlying90 rfl HIS.out ?_)
    | (refine wpl_newb (w.heap.size + 1) (by rfl) _ _ (by rfl) (by rfl) (by simp) (Q.at_ ps n) hi (by rfl) ?_))
  clear HRG HIS ct1
  generalize (w.alloc (.cells #[.int .u64 0, .int .u64 0, .bool false] 121)).alloc (.cells (partCells (Q.at_ ps n)).toArray 90) = w1 at *
  have z1 : w.heap.size + 1 < w1.heap.size := HPT.out.2.lt
  have HP1 : Hid (PaT w1 bp p) := HP.out.keep HK1.out (by simp)
  have HT1 : Hid (TE w1 bt ot g cap ps) := HT.out.keep HK1.out (by simp) (by simp)
  generalize hthe : Q.at_ ps n = tt at *
  obtain ⟨c0, c1, c2, c3, c4, c5, c6, c7⟩ := HPT.out.cells
  have ck := HPT.out.cell0
  have r0 := HRS.out.cell 0; have r1 := HRS.out.cell 1; have r2 := HRS.out.cell 2
  have rf := HRS.out.frozen
  simp only [List.getElem?_cons_zero, List.getElem?_cons_succ] at r0 r1 r2
  have hkk := kok.kind
  have HK1b : Hid (Keep [bp] w w1) := HK1.out.mono (by simp)
  by_cases hp0 : tt.places = 0
  · have HE : Hid (X = (⟨0, 0, tt.empty⟩, p)) := by
      have hXo := HX.out
      unfold Q.lay at hXo
      rw [hthe, if_pos hp0] at hXo
      exact hXo.symm
    rw [hp0] at c7
    go_wp2
    exact bodyPost_ret (v := .agg #[.int .u64 0, .int .u64 0, .bool tt.empty]) (by simp [results, Try.results65, go_sem, *]) rfl ⟨by rw [HE.out]; rfl, by rw [HE.out]; exact ((HP1.out.other (by simp; omega) _).other (by simp; omega) _).other (by simp; omega) _, ((HK1b.out.setNew (by simp) _).setNew (by simp) _).setNew (by simp) _⟩
  have hq0 : ((tt.places : Int) == 0) = false := by simp; omega
  have hzk : ¬ tt.kind = 0 := fun e => hp0 (kok.zero e)
  have hpl48 : tt.places ≤ 48 := by have := HP.out.ok.pos; omega
  by_cases hk1 : tt.kind = 1
  · have HE : Hid (X = Q.layByte tt.ins p) := by
      have hXo := HX.out
      unfold Q.lay at hXo
      rw [hthe, if_neg hp0, if_neg (by omega), if_neg (by omega), if_neg (by omega)] at hXo
      exact hXo.symm
    have hps1 : p.size < 49 := by omega
    rw [hk1] at ck
    have HRG1 : Hid (w1.rangeAt (w.heap.size + 1) 0 (partCells tt)) := HPT.out.range
    have HIS1 : Hid ((Try.prog.info? 90).map (·.size) = some (partCells tt).length) := by show _ = _; rw [Try.size110, partCells_len hi]
    have HLB := layByte_any bp p tt w1 HP1.out hi hps1
    generalize hJe : Q.layByte tt.ins p = J at *
    obtain ⟨⟨jf, jl, je⟩, jp⟩ := J
    unfold spanV at HLB
    simp only at HLB
    have HLBH : Hid (Calls Try.prog 82 #[.pointer (some ⟨bp, 0, none⟩), .agg (partCells tt).toArray] w1 fun e w' => e = .returned (.agg #[.int .u64 (jf : Int), .int .u64 (jl : Int), .bool je]) ∧ PaT w' bp jp ∧ Keep [bp] w1 w') := HLB
    clear HLB
    go_wp2_with (first
      | (refine wpList_load_mid (by rfl) 90 _ (by rfl) (w.heap.size + 1) 0 (by rfl) (partCells tt) _ HRG1.out Try.underlying90 rfl HIS1.out ?_)
      | (go_at_call 82; refine HLBH.out.mono ?_; rintro e w2 ⟨rfl, hP2, hK2⟩; have R2 := HRS.out.keep hK2 (by simp; omega); have x0 := R2.cell 0; have x1 := R2.cell 1; have x2 := R2.cell 2; have xf := R2.frozen; simp only [List.getElem?_cons_zero, List.getElem?_cons_succ] at x0 x1 x2))
    exact bodyPost_ret (v := .agg #[.int .u64 (jf : Int), .int .u64 (jl : Int), .bool je]) (by simp [results, Try.results65, go_sem, *]) rfl ⟨by rw [HE.out]; rfl, by rw [HE.out]; exact ((hP2.other (by simp; omega) _).other (by simp; omega) _).other (by simp; omega) _, (((HK1b.out.trans hK2).setNew (by simp) _).setNew (by simp) _).setNew (by simp) _⟩
  by_cases hk4 : tt.kind = 4
  · have HE : Hid (X = Q.copies (Q.lay ps f tt.left) tt.low tt.endless tt.copies tt.copies ⟨0, 0, true⟩ p) := by
      have hXo := HX.out
      unfold Q.lay at hXo
      rw [hthe, if_neg hp0, if_neg (by omega), if_neg (by omega), if_pos hk4] at hXo
      exact hXo.symm
    have hleft := kok.left (by omega)
    have epl : tt.places = (Q.at_ ps tt.left).places * tt.copies := by
      have e2 := congrArg Q.Part.places kfill
      simp only [Q.fill, Q.known, Q.cut, hk4] at e2
      simp at e2
      split at e2
      · omega
      · split at e2 <;> omega
    rw [hk4] at ck
    have HRG1 : Hid (w1.rangeAt (w.heap.size + 1) 0 (partCells tt)) := HPT.out.range
    have HIS1 : Hid ((Try.prog.info? 90).map (·.size) = some (partCells tt).length) := by show _ = _; rw [Try.size110, partCells_len hi]
    have HLB := layCopies_any f HLAY.out bp bt ot g cap ps tt p w1 HP1.out HT1.out HPS.out h1 h2 (by omega) (by omega) hi kok.low kok.high (by rw [← epl]; exact hsz)
    generalize hJe : Q.copies (Q.lay ps f tt.left) tt.low tt.endless tt.copies tt.copies ⟨0, 0, true⟩ p = J at *
    obtain ⟨⟨jf, jl, je⟩, jp⟩ := J
    unfold spanV at HLB
    simp only at HLB
    have HLBH : Hid (Calls Try.prog 81 #[.pointer (some ⟨bp, 0, none⟩), .pointer (some ⟨bt, ot, none⟩), .agg (partCells tt).toArray] w1 fun e w' => e = .returned (.agg #[.int .u64 (jf : Int), .int .u64 (jl : Int), .bool je]) ∧ PaT w' bp jp ∧ Keep [bp] w1 w') := HLB
    clear HLB epl
    go_wp2_with (first
      | (refine wpList_load_mid (by rfl) 90 _ (by rfl) (w.heap.size + 1) 0 (by rfl) (partCells tt) _ HRG1.out Try.underlying90 rfl HIS1.out ?_)
      | (go_at_call 81; refine HLBH.out.mono ?_; rintro e w2 ⟨rfl, hP2, hK2⟩; have R2 := HRS.out.keep hK2 (by simp; omega); have x0 := R2.cell 0; have x1 := R2.cell 1; have x2 := R2.cell 2; have xf := R2.frozen; simp only [List.getElem?_cons_zero, List.getElem?_cons_succ] at x0 x1 x2))
    exact bodyPost_ret (v := .agg #[.int .u64 (jf : Int), .int .u64 (jl : Int), .bool je]) (by simp [results, Try.results65, go_sem, *]) rfl ⟨by rw [HE.out]; rfl, by rw [HE.out]; exact ((hP2.other (by simp; omega) _).other (by simp; omega) _).other (by simp; omega) _, (((HK1b.out.trans hK2).setNew (by simp) _).setNew (by simp) _).setNew (by simp) _⟩
  -- two parts
  have hk23 : tt.kind = 2 ∨ tt.kind = 3 := by omega
  have hleft := kok.left (by omega)
  have hright := kok.right hk23
  have epl : tt.places = (Q.at_ ps tt.left).places + (Q.at_ ps tt.right).places := by
    have e2 := congrArg Q.Part.places kfill
    rcases hk23 with h | h <;>
    · simp only [Q.fill, Q.known, Q.cut, h] at e2
      simp at e2
      split at e2
      · omega
      · split at e2 <;> omega
  have HL1 := HLAY.out bp bt ot g cap ps tt.left p w1 HP1.out HT1.out HPS.out h1 h2 (by omega) (by omega) (by omega)
  obtain ⟨ok1, sp1, sz1⟩ := HLE.out tt.left (by omega) (by omega) p HP1.out.ok (by omega)
  have HX2 : Hid (X = if tt.kind = 2 then Q.join (Q.lay ps f tt.left p).1 (Q.lay ps f tt.right (Q.lay ps f tt.left p).2).1 (Q.lay ps f tt.right (Q.lay ps f tt.left p).2).2 else (Q.either (Q.lay ps f tt.left p).1 (Q.lay ps f tt.right (Q.lay ps f tt.left p).2).1, (Q.lay ps f tt.right (Q.lay ps f tt.left p).2).2)) := by
    have hXo := HX.out
    unfold Q.lay at hXo
    rw [hthe, if_neg hp0] at hXo
    rcases hk23 with h | h
    · rw [if_pos h] at hXo
      show _ = _
      rw [if_pos h]
      exact hXo.symm
    · rw [if_neg (by omega), if_pos h] at hXo
      show _ = _
      rw [if_neg (by omega)]
      exact hXo.symm
  generalize hYe : Q.lay ps f tt.left p = Y at *
  obtain ⟨⟨yf, yl, ye⟩, yp⟩ := Y
  simp only at HL1 ok1 sp1 sz1 HX2
  unfold spanV at HL1
  have HL1H : Hid (Calls Try.prog 65 #[.pointer (some ⟨bp, 0, none⟩), .pointer (some ⟨bt, ot, none⟩), .int .i64 (tt.left : Int)] w1 fun e w' => e = .returned (.agg #[.int .u64 (yf : Int), .int .u64 (yl : Int), .bool ye]) ∧ PaT w' bp yp ∧ Keep [bp] w1 w') := HL1
  obtain ⟨ok2, sp2, sz2⟩ := HLE.out tt.right (by omega) (by omega) yp ok1 (by omega)
  have HLR : Hid (∀ wz, PaT wz bp yp → TE wz bt ot g cap ps → Calls Try.prog 65 #[.pointer (some ⟨bp, 0, none⟩), .pointer (some ⟨bt, ot, none⟩), .int .i64 (tt.right : Int)] wz fun e w' => e = .returned (spanV (Q.lay ps f tt.right yp).1) ∧ PaT w' bp (Q.lay ps f tt.right yp).2 ∧ Keep [bp] wz w') := fun wz a b => HLAY.out bp bt ot g cap ps tt.right yp wz a b HPS.out h1 h2 (by omega) (by omega) (by omega)
  generalize hZe : Q.lay ps f tt.right yp = Z at *
  obtain ⟨⟨zf, zl, ze⟩, zp⟩ := Z
  simp only at HLR ok2 sp2 sz2 HX2
  unfold spanV at HLR
  have hspy : Q.SpanOk zp ⟨yf, yl, ye⟩ := sp1.mono (by omega)
  clear HL1 epl HX
  rcases hk23 with hk | hk
  · have HE0 : Hid (X = Q.join ⟨yf, yl, ye⟩ ⟨zf, zl, ze⟩ zp) := by show _ = _; rw [HX2.out, if_pos hk]
    have HJ : Hid (∀ wz, PaT wz bp zp → Calls Try.prog 80 #[.pointer (some ⟨bp, 0, none⟩), spanV ⟨yf, yl, ye⟩, spanV ⟨zf, zl, ze⟩] wz fun e w' => e = .returned (spanV (Q.join ⟨yf, yl, ye⟩ ⟨zf, zl, ze⟩ zp).1) ∧ PaT w' bp (Q.join ⟨yf, yl, ye⟩ ⟨zf, zl, ze⟩ zp).2 ∧ Keep [bp] wz w') := fun wz a => pjoin_any bp zp _ _ wz a hspy sp2
    generalize hJe : Q.join ⟨yf, yl, ye⟩ ⟨zf, zl, ze⟩ zp = J at *
    obtain ⟨⟨jf, jl, je⟩, jp⟩ := J
    unfold spanV at HJ
    simp only at HJ
    have HE : Hid (X = (⟨jf, jl, je⟩, jp)) := HE0
    rw [hk] at ck
    clear HX2 HE0
    go_upto_region 7 with (go_at_call 65; refine HL1H.out.mono ?_; rintro e w2 ⟨rfl, hP2, hK2⟩)
    have T2 := HPT.out.keep hK2 (by simp; omega)
    have E2 := HT1.out.keep hK2 (by simpa using Ne.symm h2) (by simpa using Ne.symm h1)
    have R2 := HRS.out.keep hK2 (by simp; omega)
    have zz2 : w1.heap.size ≤ w2.heap.size := hK2.size
    have PW3 := hP2.alloc (.cells #[.int .u64 (yf : Int), .int .u64 (yl : Int), .bool ye] 121)
    have EW3 := E2.keep ((Keep.refl [] w2).alloc (.cells #[.int .u64 (yf : Int), .int .u64 (yl : Int), .bool ye] 121)) (by simp) (by simp)
    have BL3 : BlkT (w2.alloc (.cells #[.int .u64 (yf : Int), .int .u64 (yl : Int), .bool ye] 121)) w2.heap.size 121 [.int .u64 (yf : Int), .int .u64 (yl : Int), .bool ye] := BlkT.new w2 _ _
    have R3 := R2.alloc (.cells #[.int .u64 (yf : Int), .int .u64 (yl : Int), .bool ye] 121)
    have T3 := T2.alloc (.cells #[.int .u64 (yf : Int), .int .u64 (yl : Int), .bool ye] 121)
    have K3 := (HK1b.out.trans hK2).alloc (.cells #[.int .u64 (yf : Int), .int .u64 (yl : Int), .bool ye] 121)
    have m2 : w.heap.size + 1 < w2.heap.size := by omega
    clear hP2 hK2 T2 E2 R2 HL1H
    generalize hbl2 : w2.heap.size = b2 at *
    generalize w2.alloc (.cells #[.int .u64 (yf : Int), .int .u64 (yl : Int), .bool ye] 121) = w3 at *
    clear hbl2
    have u1 := T3.cells.2.1
    have HLRH := hid (HLR.out w3 PW3 EW3)
    have HB3 := hid BL3
    have HR3 := hid R3
    have HK3 := hid K3
    have zb3 := BL3.lt
    clear BL3 R3 K3 T3 PW3 EW3 HLR
    go_upto_region 8 with (go_at_call 65; refine HLRH.out.mono ?_; rintro e w4 ⟨rfl, hP4, hK4⟩)
    have zz4 : w3.heap.size ≤ w4.heap.size := hK4.size
    have PW5 := hP4.alloc (.cells #[.int .u64 (zf : Int), .int .u64 (zl : Int), .bool ze] 121)
    have BL5 := (HB3.out.keep hK4 (by simp; omega)).alloc (.cells #[.int .u64 (zf : Int), .int .u64 (zl : Int), .bool ze] 121)
    have BR5 : BlkT (w4.alloc (.cells #[.int .u64 (zf : Int), .int .u64 (zl : Int), .bool ze] 121)) w4.heap.size 121 [.int .u64 (zf : Int), .int .u64 (zl : Int), .bool ze] := BlkT.new w4 _ _
    have R5 := (HR3.out.keep hK4 (by simp; omega)).alloc (.cells #[.int .u64 (zf : Int), .int .u64 (zl : Int), .bool ze] 121)
    have K5 := (HK3.out.trans hK4).alloc (.cells #[.int .u64 (zf : Int), .int .u64 (zl : Int), .bool ze] 121)
    clear hP4 hK4 HLRH HB3 HR3 HK3
    generalize hbl4 : w4.heap.size = b4 at *
    generalize w4.alloc (.cells #[.int .u64 (zf : Int), .int .u64 (zl : Int), .bool ze] 121) = w5 at *
    clear hbl4
    have l0 := BL5.cell 0; have l1 := BL5.cell 1; have l2 := BL5.cell 2
    have n0 := BR5.cell 0; have n1 := BR5.cell 1; have n2 := BR5.cell 2
    simp only [List.getElem?_cons_zero, List.getElem?_cons_succ] at l0 l1 l2 n0 n1 n2
    have HJ5 := hid (HJ.out w5 PW5)
    have HR5 := hid R5
    have HK5 := hid K5
    have zb5 := R5.lt
    clear R5 K5 PW5 BL5 BR5 HJ
    go_wp2_with (go_at_call 80; refine HJ5.out.mono ?_; rintro e w6 ⟨rfl, hP6, hK6⟩; have R6 := HR5.out.keep hK6 (by simp; omega); have x0 := R6.cell 0; have x1 := R6.cell 1; have x2 := R6.cell 2; have xf := R6.frozen; simp only [List.getElem?_cons_zero, List.getElem?_cons_succ] at x0 x1 x2)
    exact bodyPost_ret (v := .agg #[.int .u64 (jf : Int), .int .u64 (jl : Int), .bool je]) (by simp [results, Try.results65, go_sem, *]) rfl ⟨by rw [HE.out]; rfl, by rw [HE.out]; exact ((hP6.other (by simp; omega) _).other (by simp; omega) _).other (by simp; omega) _, (((HK5.out.trans hK6).setNew (by simp) _).setNew (by simp) _).setNew (by simp) _⟩
  · have HE0 : Hid (X = (Q.either ⟨yf, yl, ye⟩ ⟨zf, zl, ze⟩, zp)) := by show _ = _; rw [HX2.out, if_neg (by omega)]
    rw [hk] at ck
    obtain ⟨O1, hO1e⟩ : ∃ O, O = yf ||| zf := ⟨_, rfl⟩
    obtain ⟨O2, hO2e⟩ : ∃ O, O = yl ||| zl := ⟨_, rfl⟩
    have hO1 : bits .or .u64 (yf : Int) (zf : Int) = (O1 : Int) := by rw [hO1e]; exact or_u (Q.lt64 ok1 sp1.1) (Q.lt64 ok2 sp2.1)
    have hO2 : bits .or .u64 (yl : Int) (zl : Int) = (O2 : Int) := by rw [hO2e]; exact or_u (Q.lt64 ok1 sp1.2) (Q.lt64 ok2 sp2.2)
    have HE1 : Hid (X = (⟨O1, O2, ye || ze⟩, zp)) := by show _ = _; rw [HE0.out]; unfold Q.either; rw [hO1e, hO2e]
    clear HX2 HE0 hO1e hO2e
    go_upto_region 11 with (go_at_call 65; refine HL1H.out.mono ?_; rintro e w2 ⟨rfl, hP2, hK2⟩)
    have T2 := HPT.out.keep hK2 (by simp; omega)
    have E2 := HT1.out.keep hK2 (by simpa using Ne.symm h2) (by simpa using Ne.symm h1)
    have R2 := HRS.out.keep hK2 (by simp; omega)
    have zz2 : w1.heap.size ≤ w2.heap.size := hK2.size
    have PW3 := hP2.alloc (.cells #[.int .u64 (yf : Int), .int .u64 (yl : Int), .bool ye] 121)
    have EW3 := E2.keep ((Keep.refl [] w2).alloc (.cells #[.int .u64 (yf : Int), .int .u64 (yl : Int), .bool ye] 121)) (by simp) (by simp)
    have BL3 : BlkT (w2.alloc (.cells #[.int .u64 (yf : Int), .int .u64 (yl : Int), .bool ye] 121)) w2.heap.size 121 [.int .u64 (yf : Int), .int .u64 (yl : Int), .bool ye] := BlkT.new w2 _ _
    have R3 := R2.alloc (.cells #[.int .u64 (yf : Int), .int .u64 (yl : Int), .bool ye] 121)
    have T3 := T2.alloc (.cells #[.int .u64 (yf : Int), .int .u64 (yl : Int), .bool ye] 121)
    have K3 := (HK1b.out.trans hK2).alloc (.cells #[.int .u64 (yf : Int), .int .u64 (yl : Int), .bool ye] 121)
    have m2 : w.heap.size + 1 < w2.heap.size := by omega
    clear hP2 hK2 T2 E2 R2 HL1H
    generalize hbl2 : w2.heap.size = b2 at *
    generalize w2.alloc (.cells #[.int .u64 (yf : Int), .int .u64 (yl : Int), .bool ye] 121) = w3 at *
    clear hbl2
    have u1 := T3.cells.2.1
    have HLRH := hid (HLR.out w3 PW3 EW3)
    have HB3 := hid BL3
    have HR3 := hid R3
    have HK3 := hid K3
    have zb3 := BL3.lt
    clear BL3 R3 K3 T3 PW3 EW3 HLR
    go_upto_region 12 with (go_at_call 65; refine HLRH.out.mono ?_; rintro e w4 ⟨rfl, hP4, hK4⟩)
    have zz4 : w3.heap.size ≤ w4.heap.size := hK4.size
    have PW5 := hP4.alloc (.cells #[.int .u64 (zf : Int), .int .u64 (zl : Int), .bool ze] 121)
    have BL5 := (HB3.out.keep hK4 (by simp; omega)).alloc (.cells #[.int .u64 (zf : Int), .int .u64 (zl : Int), .bool ze] 121)
    have BR5 : BlkT (w4.alloc (.cells #[.int .u64 (zf : Int), .int .u64 (zl : Int), .bool ze] 121)) w4.heap.size 121 [.int .u64 (zf : Int), .int .u64 (zl : Int), .bool ze] := BlkT.new w4 _ _
    have R5 := (HR3.out.keep hK4 (by simp; omega)).alloc (.cells #[.int .u64 (zf : Int), .int .u64 (zl : Int), .bool ze] 121)
    have K5 := (HK3.out.trans hK4).alloc (.cells #[.int .u64 (zf : Int), .int .u64 (zl : Int), .bool ze] 121)
    clear hP4 hK4 HLRH HB3 HR3 HK3
    generalize hbl4 : w4.heap.size = b4 at *
    generalize w4.alloc (.cells #[.int .u64 (zf : Int), .int .u64 (zl : Int), .bool ze] 121) = w5 at *
    clear hbl4
    have l0 := BL5.cell 0; have l1 := BL5.cell 1; have l2 := BL5.cell 2
    have n0 := BR5.cell 0; have n1 := BR5.cell 1; have n2 := BR5.cell 2
    simp only [List.getElem?_cons_zero, List.getElem?_cons_succ] at l0 l1 l2 n0 n1 n2
    have x0 := R5.cell 0; have x1 := R5.cell 1; have x2 := R5.cell 2; have xf := R5.frozen
    simp only [List.getElem?_cons_zero, List.getElem?_cons_succ] at x0 x1 x2
    have HP5 := hid PW5
    have HK5 := hid K5
    clear R5 K5 PW5 BL5 BR5
    cases ye with
    | true =>
      have HE : Hid (X = (⟨O1, O2, true⟩, zp)) := HE1.out
      go_wp2
      exact bodyPost_ret (v := .agg #[.int .u64 (O1 : Int), .int .u64 (O2 : Int), .bool true]) (by simp [results, Try.results65, go_sem, *]) rfl ⟨by rw [HE.out]; rfl, by rw [HE.out]; exact ((HP5.out.other (by simp; omega) _).other (by simp; omega) _).other (by simp; omega) _, ((HK5.out.setNew (by simp) _).setNew (by simp) _).setNew (by simp) _⟩
    | false =>
      have HE : Hid (X = (⟨O1, O2, ze⟩, zp)) := HE1.out
      go_wp2
      exact bodyPost_ret (v := .agg #[.int .u64 (O1 : Int), .int .u64 (O2 : Int), .bool ze]) (by simp [results, Try.results65, go_sem, *]) rfl ⟨by rw [HE.out]; rfl, by rw [HE.out]; exact ((HP5.out.other (by simp; omega) _).other (by simp; omega) _).other (by simp; omega) _, ((HK5.out.setNew (by simp) _).setNew (by simp) _).setNew (by simp) _⟩
end Go.Proofs.Ytjmkkkfloalliab
