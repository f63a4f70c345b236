import Derived.Test.YtjmkkkfloalliabK03
import Derived.Test.YtjmkkkfloalliabK02
import Derived.Test.YtjmkkkfloalliabK00
import Derived.Test.YtjmkkkfloalliabK01
import Derived.Deep.AppendLies
import Derived.Deep.RegionLaw
import Derived.Deep.CutBlock
import Derived.OpenShut
namespace Go.Proofs.Ytjmkkkfloalliab
set_option linter.unusedVariables false
open Go.RowKit
attribute [local go_sem ↓] zero_part

theorem hid {p : Prop} (h : p) : Hid p := h
theorem wpl_newb {ops : Array Oper} {rest : List Oper} {op : Oper} {a : Act} {w : World} {QQ : Exit → Act → World → Prop} (b : Nat) (hgd : op.guard = none) (x y : Operand) (ho : op.op = .store 90 x y) (hx : a.eval x = .pointer (some ⟨b, 0, none⟩)) (hb : b = w.heap.size)
    (p : Q.Part) (hl : p.ins.length = 256) (hy : a.eval y = .agg (partCells p).toArray) (h : wpList Try.prog ops QQ rest (a.put op.dst undef) (w.alloc (.cells (partCells p).toArray 90))) :
    wpList Try.prog ops QQ (op :: rest) a (w.alloc (.cells (partCells zeroPart).toArray 90)) := by
  subst hb
  exact wpl_new hgd x y ho hx p hl hy h
theorem PtT.range {w : World} {b : Nat} {p : Q.Part} (h : PtT w b p) : w.rangeAt b 0 (partCells p) := fun j x hx => by rw [Nat.zero_add, h.2.cell j]; exact hx

set_option maxRecDepth 10000 in
set_option maxHeartbeats 6400000 in
theorem lay_step (f : Nat) (hlay : LayD f) : LayD (f + 1) := by
  intro bp bt ot g cap ps n p w hP hT hps h1 h2 hn hf hsz
  have hlt := hP.blk.lt
  obtain ⟨kok, kfill⟩ := hps.get n hn
  have hi := kok.ins
  have ct1 : (w.alloc (.cells #[.int .u64 0, .int .u64 0, .bool false] 121)).cell? ⟨bt, ot, none⟩ = some (.slice (some ⟨g, 0, none⟩) ps.length cap) := by rw [World.cell?_alloc_lt _ _ _ hT.lb]; exact hT.ct
  have HRG : Hid ((w.alloc (.cells #[.int .u64 0, .int .u64 0, .bool false] 121)).rangeAt g (n * 265) (partCells (Q.at_ ps n))) := World.rangeAt_alloc (hT.rg n hn) _
  have HIS : Hid ((Try.prog.info? 90).map (·.size) = some (partCells (Q.at_ ps n)).length) := by show _ = _; rw [Try.size110, partCells_len hi]
  have i0 : (0 : Int) ≤ (n : Int) := by omega
  have i1 : (n : Int) < (ps.length : Int) := by omega
  have HP : Hid (PaT w bp p) := hP
  have HT : Hid (TE w bt ot g cap ps) := hT
  have HLAY : Hid (LayD f) := hlay
  have HPS : Hid (Q.PartsOk ps) := hps
  have hbl := hT.lb
  have hgl := hT.lg
  have hct := hT.ct
  have HPT : Hid (PtT ((w.alloc (.cells #[.int .u64 0, .int .u64 0, .bool false] 121)).alloc (.cells (partCells (Q.at_ ps n)).toArray 90)) (w.heap.size + 1) (Q.at_ ps n)) := by
    show PtT _ _ _
    have := PtT.new (w.alloc (.cells #[.int .u64 0, .int .u64 0, .bool false] 121)) hi
    simpa using this
  have HRS : Hid (BlkT ((w.alloc (.cells #[.int .u64 0, .int .u64 0, .bool false] 121)).alloc (.cells (partCells (Q.at_ ps n)).toArray 90)) w.heap.size 121 [.int .u64 0, .int .u64 0, .bool false]) := (BlkT.new w _ _).alloc _
  have HK1 : Hid (Keep [] w ((w.alloc (.cells #[.int .u64 0, .int .u64 0, .bool false] 121)).alloc (.cells (partCells (Q.at_ ps n)).toArray 90))) := ((Keep.refl [] w).alloc _).alloc _
  have HLE : Hid (∀ m, m < ps.length → m < f → Q.Lays (Q.at_ ps m).places (Q.lay ps f m)) := fun m a b => Q.lay_ok hps f m b a
  obtain ⟨X, hX⟩ : ∃ X, Q.lay ps (f + 1) n p = X := ⟨_, rfl⟩
  rw [hX]
  have HX : Hid (Q.lay ps (f + 1) n p = X) := hX
  clear hlay hps hP hT hX
  go_enter Try.func65, Try.ntmps65
  go_upto_region 2 with (first
    | (refine wpList_load_mid (by rfl) 90 _ (by rfl) g (n * 265) (by rfl) (partCells (Q.at_ ps n)) _ HRG.out Try.underlying90 rfl HIS.out ?_)
    | (refine wpl_newb (w.heap.size + 1) (by rfl) _ _ (by rfl) (by rfl) (by simp) (Q.at_ ps n) hi (by rfl) ?_))
  clear HRG HIS ct1
  generalize (w.alloc (.cells #[.int .u64 0, .int .u64 0, .bool false] 121)).alloc (.cells (partCells (Q.at_ ps n)).toArray 90) = w1 at *
  have z1 : w.heap.size + 1 < w1.heap.size := HPT.out.2.lt
  have HP1 : Hid (PaT w1 bp p) := HP.out.keep HK1.out (by simp)
  have HT1 : Hid (TE w1 bt ot g cap ps) := HT.out.keep HK1.out (by simp) (by simp)
  generalize hthe : Q.at_ ps n = tt at *
  obtain ⟨c0, c1, c2, c3, c4, c5, c6, c7⟩ := HPT.out.cells
  have ck := HPT.out.cell0
  have r0 := HRS.out.cell 0; have r1 := HRS.out.cell 1; have r2 := HRS.out.cell 2
  have rf := HRS.out.frozen
  simp only [List.getElem?_cons_zero, List.getElem?_cons_succ] at r0 r1 r2
  have hkk := kok.kind
  have HK1b : Hid (Keep [bp] w w1) := HK1.out.mono (by simp)
  by_cases hp0 : tt.places = 0
  · have HE : Hid (X = (⟨0, 0, tt.empty⟩, p)) := by
      have hXo := HX.out
      unfold Q.lay at hXo
      rw [hthe, if_pos hp0] at hXo
      exact hXo.symm
    rw [hp0] at c7
    go_wp2
    exact bodyPost_ret (v := .agg #[.int .u64 0, .int .u64 0, .bool tt.empty]) (by simp [results, Try.results65, go_sem, *]) rfl ⟨by rw [HE.out]; rfl, by rw [HE.out]; exact ((HP1.out.other (by simp; omega) _).other (by simp; omega) _).other (by simp; omega) _, ((HK1b.out.setNew (by simp) _).setNew (by simp) _).setNew (by simp) _⟩
  have hq0 : ((tt.places : Int) == 0) = false := by simp; omega
  have hzk : ¬ tt.kind = 0 := fun e => hp0 (kok.zero e)
  have hpl48 : tt.places ≤ 48 := by have := HP.out.ok.pos; omega
  by_cases hk1 : tt.kind = 1
  · have HE : Hid (X = Q.layByte tt.ins p) := by
      have hXo := HX.out
      unfold Q.lay at hXo
      rw [hthe, if_neg hp0, if_neg (by omega), if_neg (by omega), if_neg (by omega)] at hXo
      exact hXo.symm
    have hps1 : p.size < 49 := by omega
    rw [hk1] at ck
    have HRG1 : Hid (w1.rangeAt (w.heap.size + 1) 0 (partCells tt)) := HPT.out.range
    have HIS1 : Hid ((Try.prog.info? 90).map (·.size) = some (partCells tt).length) := by show _ = _; rw [Try.size110, partCells_len hi]
    have HLB := layByte_any bp p tt w1 HP1.out hi hps1
    generalize hJe : Q.layByte tt.ins p = J at *
    obtain ⟨⟨jf, jl, je⟩, jp⟩ := J
    unfold spanV at HLB
    simp only at HLB
    have HLBH : Hid (Calls Try.prog 82 #[.pointer (some ⟨bp, 0, none⟩), .agg (partCells tt).toArray] w1 fun e w' => e = .returned (.agg #[.int .u64 (jf : Int), .int .u64 (jl : Int), .bool je]) ∧ PaT w' bp jp ∧ Keep [bp] w1 w') := HLB
    clear HLB
    go_wp2_with (first
      | (refine wpList_load_mid (by rfl) 90 _ (by rfl) (w.heap.size + 1) 0 (by rfl) (partCells tt) _ HRG1.out Try.underlying90 rfl HIS1.out ?_)
      | (go_at_call 82; refine HLBH.out.mono ?_; rintro e w2 ⟨rfl, hP2, hK2⟩; have R2 := HRS.out.keep hK2 (by simp; omega); have x0 := R2.cell 0; have x1 := R2.cell 1; have x2 := R2.cell 2; have xf := R2.frozen; simp only [List.getElem?_cons_zero, List.getElem?_cons_succ] at x0 x1 x2))
    exact bodyPost_ret (v := .agg #[.int .u64 (jf : Int), .int .u64 (jl : Int), .bool je]) (by simp [results, Try.results65, go_sem, *]) rfl ⟨by rw [HE.out]; rfl, by rw [HE.out]; exact ((hP2.other (by simp; omega) _).other (by simp; omega) _).other (by simp; omega) _, (((HK1b.out.trans hK2).setNew (by simp) _).setNew (by simp) _).setNew (by simp) _⟩
  by_cases hk4 : tt.kind = 4
  · have HE : Hid (X = Q.copies (Q.lay ps f tt.left) tt.low tt.endless tt.copies tt.copies ⟨0, 0, true⟩ p) := by
      have hXo := HX.out
      unfold Q.lay at hXo
      rw [hthe, if_neg hp0, if_neg (by omega), if_neg (by omega), if_pos hk4] at hXo
      exact hXo.symm
    have hleft := kok.left (by omega)
    have epl : tt.places = (Q.at_ ps tt.left).places * tt.copies := by
      have e2 := congrArg Q.Part.places kfill
      simp only [Q.fill, Q.known, Q.cut, hk4] at e2
      simp at e2
      split at e2
      · omega
      · split at e2 <;> omega
    rw [hk4] at ck
    have HRG1 : Hid (w1.rangeAt (w.heap.size + 1) 0 (partCells tt)) := HPT.out.range
    have HIS1 : Hid ((Try.prog.info? 90).map (·.size) = some (partCells tt).length) := by show _ = _; rw [Try.size110, partCells_len hi]
    have HLB := layCopies_any f HLAY.out bp bt ot g cap ps tt p w1 HP1.out HT1.out HPS.out h1 h2 (by omega) (by omega) hi kok.low kok.high (by rw [← epl]; exact hsz)
    generalize hJe : Q.copies (Q.lay ps f tt.left) tt.low tt.endless tt.copies tt.copies ⟨0, 0, true⟩ p = J at *
    obtain ⟨⟨jf, jl, je⟩, jp⟩ := J
    unfold spanV at HLB
    simp only at HLB
    have HLBH : Hid (Calls Try.prog 81 #[.pointer (some ⟨bp, 0, none⟩), .pointer (some ⟨bt, ot, none⟩), .agg (partCells tt).toArray] w1 fun e w' => e = .returned (.agg #[.int .u64 (jf : Int), .int .u64 (jl : Int), .bool je]) ∧ PaT w' bp jp ∧ Keep [bp] w1 w') := HLB
    clear HLB epl
    go_wp2_with (first
      | (refine wpList_load_mid (by rfl) 90 _ (by rfl) (w.heap.size + 1) 0 (by rfl) (partCells tt) _ HRG1.out Try.underlying90 rfl HIS1.out ?_)
      | (go_at_call 81; refine HLBH.out.mono ?_; rintro e w2 ⟨rfl, hP2, hK2⟩; have R2 := HRS.out.keep hK2 (by simp; omega); have x0 := R2.cell 0; have x1 := R2.cell 1; have x2 := R2.cell 2; have xf := R2.frozen; simp only [List.getElem?_cons_zero, List.getElem?_cons_succ] at x0 x1 x2))
    exact bodyPost_ret (v := .agg #[.int .u64 (jf : Int), .int .u64 (jl : Int), .bool je]) (by simp [results, Try.results65, go_sem, *]) rfl ⟨by rw [HE.out]; rfl, by rw [HE.out]; exact ((hP2.other (by simp; omega) _).other (by simp; omega) _).other (by simp; omega) _, (((HK1b.out.trans hK2).setNew (by simp) _).setNew (by simp) _).setNew (by simp) _⟩
  -- two parts
  have hk23 : tt.kind = 2 ∨ tt.kind = 3 := by omega
  have hleft := kok.left (by omega)
  have hright := kok.right hk23
  have epl : tt.places = (Q.at_ ps tt.left).places + (Q.at_ ps tt.right).places := by
    have e2 := congrArg Q.Part.places kfill
    rcases hk23 with h | h <;>
    · simp only [Q.fill, Q.known, Q.cut, h] at e2
      simp at e2
      split at e2
      · omega
      · split at e2 <;> omega
  have HL1 := HLAY.out bp bt ot g cap ps tt.left p w1 HP1.out HT1.out HPS.out h1 h2 (by omega) (by omega) (by omega)
  obtain ⟨ok1, sp1, sz1⟩ := HLE.out tt.left (by omega) (by omega) p HP1.out.ok (by omega)
  have HX2 : Hid (X = if tt.kind = 2 then Q.join (Q.lay ps f tt.left p).1 (Q.lay ps f tt.right (Q.lay ps f tt.left p).2).1 (Q.lay ps f tt.right (Q.lay ps f tt.left p).2).2 else (Q.either (Q.lay ps f tt.left p).1 (Q.lay ps f tt.right (Q.lay ps f tt.left p).2).1, (Q.lay ps f tt.right (Q.lay ps f tt.left p).2).2)) := by
    have hXo := HX.out
    unfold Q.lay at hXo
    rw [hthe, if_neg hp0] at hXo
    rcases hk23 with h | h
    · rw [if_pos h] at hXo
      show _ = _
      rw [if_pos h]
      exact hXo.symm
    · rw [if_neg (by omega), if_pos h] at hXo
      show _ = _
      rw [if_neg (by omega)]
      exact hXo.symm
  generalize hYe : Q.lay ps f tt.left p = Y at *
  obtain ⟨⟨yf, yl, ye⟩, yp⟩ := Y
  simp only at HL1 ok1 sp1 sz1 HX2
  unfold spanV at HL1
  have HL1H : Hid (Calls Try.prog 65 #[.pointer (some ⟨bp, 0, none⟩), .pointer (some ⟨bt, ot, none⟩), .int .i64 (tt.left : Int)] w1 fun e w' => e = .returned (.agg #[.int .u64 (yf : Int), .int .u64 (yl : Int), .bool ye]) ∧ PaT w' bp yp ∧ Keep [bp] w1 w') := HL1
  obtain ⟨ok2, sp2, sz2⟩ := HLE.out tt.right (by omega) (by omega) yp ok1 (by omega)
  have HLR : Hid (∀ wz, PaT wz bp yp → TE wz bt ot g cap ps → Calls Try.prog 65 #[.pointer (some ⟨bp, 0, none⟩), .pointer (some ⟨bt, ot, none⟩), .int .i64 (tt.right : Int)] wz fun e w' => e = .returned (spanV (Q.lay ps f tt.right yp).1) ∧ PaT w' bp (Q.lay ps f tt.right yp).2 ∧ Keep [bp] wz w') := fun wz a b => HLAY.out bp bt ot g cap ps tt.right yp wz a b HPS.out h1 h2 (by omega) (by omega) (by omega)
  generalize hZe : Q.lay ps f tt.right yp = Z at *
  obtain ⟨⟨zf, zl, ze⟩, zp⟩ := Z
  simp only at HLR ok2 sp2 sz2 HX2
  unfold spanV at HLR
  have hspy : Q.SpanOk zp ⟨yf, yl, ye⟩ := sp1.mono (by omega)
  clear HL1 epl HX
  rcases hk23 with hk | hk
  · have HE0 : Hid (X = Q.join ⟨yf, yl, ye⟩ ⟨zf, zl, ze⟩ zp) := by show _ = _; rw [HX2.out, if_pos hk]
    have HJ : Hid (∀ wz, PaT wz bp zp → Calls Try.prog 80 #[.pointer (some ⟨bp, 0, none⟩), spanV ⟨yf, yl, ye⟩, spanV ⟨zf, zl, ze⟩] wz fun e w' => e = .returned (spanV (Q.join ⟨yf, yl, ye⟩ ⟨zf, zl, ze⟩ zp).1) ∧ PaT w' bp (Q.join ⟨yf, yl, ye⟩ ⟨zf, zl, ze⟩ zp).2 ∧ Keep [bp] wz w') := fun wz a => pjoin_any bp zp _ _ wz a hspy sp2
    generalize hJe : Q.join ⟨yf, yl, ye⟩ ⟨zf, zl, ze⟩ zp = J at *
    obtain ⟨⟨jf, jl, je⟩, jp⟩ := J
    unfold spanV at HJ
    simp only at HJ
    have HE : Hid (X = (⟨jf, jl, je⟩, jp)) := HE0
    rw [hk] at ck
    clear HX2 HE0
    go_upto_region 7 with (go_at_call 65; refine HL1H.out.mono ?_; rintro e w2 ⟨rfl, hP2, hK2⟩)
    have T2 := HPT.out.keep hK2 (by simp; omega)
    have E2 := HT1.out.keep hK2 (by simpa using Ne.symm h2) (by simpa using Ne.symm h1)
    have R2 := HRS.out.keep hK2 (by simp; omega)
    have zz2 : w1.heap.size ≤ w2.heap.size := hK2.size
    have PW3 := hP2.alloc (.cells #[.int .u64 (yf : Int), .int .u64 (yl : Int), .bool ye] 121)
    have EW3 := E2.keep ((Keep.refl [] w2).alloc (.cells #[.int .u64 (yf : Int), .int .u64 (yl : Int), .bool ye] 121)) (by simp) (by simp)
    have BL3 : BlkT (w2.alloc (.cells #[.int .u64 (yf : Int), .int .u64 (yl : Int), .bool ye] 121)) w2.heap.size 121 [.int .u64 (yf : Int), .int .u64 (yl : Int), .bool ye] := BlkT.new w2 _ _
    have R3 := R2.alloc (.cells #[.int .u64 (yf : Int), .int .u64 (yl : Int), .bool ye] 121)
    have T3 := T2.alloc (.cells #[.int .u64 (yf : Int), .int .u64 (yl : Int), .bool ye] 121)
    have K3 := (HK1b.out.trans hK2).alloc (.cells #[.int .u64 (yf : Int), .int .u64 (yl : Int), .bool ye] 121)
    have m2 : w.heap.size + 1 < w2.heap.size := by omega
    clear hP2 hK2 T2 E2 R2 HL1H
    generalize hbl2 : w2.heap.size = b2 at *
    generalize w2.alloc (.cells #[.int .u64 (yf : Int), .int .u64 (yl : Int), .bool ye] 121) = w3 at *
    clear hbl2
    have u1 := T3.cells.2.1
    have HLRH := hid (HLR.out w3 PW3 EW3)
    have HB3 := hid BL3
    have HR3 := hid R3
    have HK3 := hid K3
    have zb3 := BL3.lt
    clear BL3 R3 K3 T3 PW3 EW3 HLR
    go_upto_region 8 with (go_at_call 65; refine HLRH.out.mono ?_; rintro e w4 ⟨rfl, hP4, hK4⟩)
    have zz4 : w3.heap.size ≤ w4.heap.size := hK4.size
    have PW5 := hP4.alloc (.cells #[.int .u64 (zf : Int), .int .u64 (zl : Int), .bool ze] 121)
    have BL5 := (HB3.out.keep hK4 (by simp; omega)).alloc (.cells #[.int .u64 (zf : Int), .int .u64 (zl : Int), .bool ze] 121)
    have BR5 : BlkT (w4.alloc (.cells #[.int .u64 (zf : Int), .int .u64 (zl : Int), .bool ze] 121)) w4.heap.size 121 [.int .u64 (zf : Int), .int .u64 (zl : Int), .bool ze] := BlkT.new w4 _ _
    have R5 := (HR3.out.keep hK4 (by simp; omega)).alloc (.cells #[.int .u64 (zf : Int), .int .u64 (zl : Int), .bool ze] 121)
    have K5 := (HK3.out.trans hK4).alloc (.cells #[.int .u64 (zf : Int), .int .u64 (zl : Int), .bool ze] 121)
    clear hP4 hK4 HLRH HB3 HR3 HK3
    generalize hbl4 : w4.heap.size = b4 at *
    generalize w4.alloc (.cells #[.int .u64 (zf : Int), .int .u64 (zl : Int), .bool ze] 121) = w5 at *
    clear hbl4
    have l0 := BL5.cell 0; have l1 := BL5.cell 1; have l2 := BL5.cell 2
    have n0 := BR5.cell 0; have n1 := BR5.cell 1; have n2 := BR5.cell 2
    simp only [List.getElem?_cons_zero, List.getElem?_cons_succ] at l0 l1 l2 n0 n1 n2
    have HJ5 := hid (HJ.out w5 PW5)
    have HR5 := hid R5
    have HK5 := hid K5
    have zb5 := R5.lt
    clear R5 K5 PW5 BL5 BR5 HJ
    go_wp2_with (go_at_call 80; refine HJ5.out.mono ?_; rintro e w6 ⟨rfl, hP6, hK6⟩; have R6 := HR5.out.keep hK6 (by simp; omega); have x0 := R6.cell 0; have x1 := R6.cell 1; have x2 := R6.cell 2; have xf := R6.frozen; simp only [List.getElem?_cons_zero, List.getElem?_cons_succ] at x0 x1 x2)
    exact bodyPost_ret (v := .agg #[.int .u64 (jf : Int), .int .u64 (jl : Int), .bool je]) (by simp [results, Try.results65, go_sem, *]) rfl ⟨by rw [HE.out]; rfl, by rw [HE.out]; exact ((hP6.other (by simp; omega) _).other (by simp; omega) _).other (by simp; omega) _, (((HK5.out.trans hK6).setNew (by simp) _).setNew (by simp) _).setNew (by simp) _⟩
  · have HE0 : Hid (X = (Q.either ⟨yf, yl, ye⟩ ⟨zf, zl, ze⟩, zp)) := by show _ = _; rw [HX2.out, if_neg (by omega)]
    rw [hk] at ck
    obtain ⟨O1, hO1e⟩ : ∃ O, O = yf ||| zf := ⟨_, rfl⟩
    obtain ⟨O2, hO2e⟩ : ∃ O, O = yl ||| zl := ⟨_, rfl⟩
    have hO1 : bits .or .u64 (yf : Int) (zf : Int) = (O1 : Int) := by rw [hO1e]; exact or_u (Q.lt64 ok1 sp1.1) (Q.lt64 ok2 sp2.1)
    have hO2 : bits .or .u64 (yl : Int) (zl : Int) = (O2 : Int) := by rw [hO2e]; exact or_u (Q.lt64 ok1 sp1.2) (Q.lt64 ok2 sp2.2)
    have HE1 : Hid (X = (⟨O1, O2, ye || ze⟩, zp)) := by show _ = _; rw [HE0.out]; unfold Q.either; rw [hO1e, hO2e]
    clear HX2 HE0 hO1e hO2e
    go_upto_region 11 with (go_at_call 65; refine HL1H.out.mono ?_; rintro e w2 ⟨rfl, hP2, hK2⟩)
    have T2 := HPT.out.keep hK2 (by simp; omega)
    have E2 := HT1.out.keep hK2 (by simpa using Ne.symm h2) (by simpa using Ne.symm h1)
    have R2 := HRS.out.keep hK2 (by simp; omega)
    have zz2 : w1.heap.size ≤ w2.heap.size := hK2.size
    have PW3 := hP2.alloc (.cells #[.int .u64 (yf : Int), .int .u64 (yl : Int), .bool ye] 121)
    have EW3 := E2.keep ((Keep.refl [] w2).alloc (.cells #[.int .u64 (yf : Int), .int .u64 (yl : Int), .bool ye] 121)) (by simp) (by simp)
    have BL3 : BlkT (w2.alloc (.cells #[.int .u64 (yf : Int), .int .u64 (yl : Int), .bool ye] 121)) w2.heap.size 121 [.int .u64 (yf : Int), .int .u64 (yl : Int), .bool ye] := BlkT.new w2 _ _
    have R3 := R2.alloc (.cells #[.int .u64 (yf : Int), .int .u64 (yl : Int), .bool ye] 121)
    have T3 := T2.alloc (.cells #[.int .u64 (yf : Int), .int .u64 (yl : Int), .bool ye] 121)
    have K3 := (HK1b.out.trans hK2).alloc (.cells #[.int .u64 (yf : Int), .int .u64 (yl : Int), .bool ye] 121)
    have m2 : w.heap.size + 1 < w2.heap.size := by omega
    clear hP2 hK2 T2 E2 R2 HL1H
    generalize hbl2 : w2.heap.size = b2 at *
    generalize w2.alloc (.cells #[.int .u64 (yf : Int), .int .u64 (yl : Int), .bool ye] 121) = w3 at *
    clear hbl2
    have u1 := T3.cells.2.1
    have HLRH := hid (HLR.out w3 PW3 EW3)
    have HB3 := hid BL3
    have HR3 := hid R3
    have HK3 := hid K3
    have zb3 := BL3.lt
    clear BL3 R3 K3 T3 PW3 EW3 HLR
    go_upto_region 12 with (go_at_call 65; refine HLRH.out.mono ?_; rintro e w4 ⟨rfl, hP4, hK4⟩)
    have zz4 : w3.heap.size ≤ w4.heap.size := hK4.size
    have PW5 := hP4.alloc (.cells #[.int .u64 (zf : Int), .int .u64 (zl : Int), .bool ze] 121)
    have BL5 := (HB3.out.keep hK4 (by simp; omega)).alloc (.cells #[.int .u64 (zf : Int), .int .u64 (zl : Int), .bool ze] 121)
    have BR5 : BlkT (w4.alloc (.cells #[.int .u64 (zf : Int), .int .u64 (zl : Int), .bool ze] 121)) w4.heap.size 121 [.int .u64 (zf : Int), .int .u64 (zl : Int), .bool ze] := BlkT.new w4 _ _
    have R5 := (HR3.out.keep hK4 (by simp; omega)).alloc (.cells #[.int .u64 (zf : Int), .int .u64 (zl : Int), .bool ze] 121)
    have K5 := (HK3.out.trans hK4).alloc (.cells #[.int .u64 (zf : Int), .int .u64 (zl : Int), .bool ze] 121)
    clear hP4 hK4 HLRH HB3 HR3 HK3
    generalize hbl4 : w4.heap.size = b4 at *
    generalize w4.alloc (.cells #[.int .u64 (zf : Int), .int .u64 (zl : Int), .bool ze] 121) = w5 at *
    clear hbl4
    have l0 := BL5.cell 0; have l1 := BL5.cell 1; have l2 := BL5.cell 2
    have n0 := BR5.cell 0; have n1 := BR5.cell 1; have n2 := BR5.cell 2
    simp only [List.getElem?_cons_zero, List.getElem?_cons_succ] at l0 l1 l2 n0 n1 n2
    have x0 := R5.cell 0; have x1 := R5.cell 1; have x2 := R5.cell 2; have xf := R5.frozen
    simp only [List.getElem?_cons_zero, List.getElem?_cons_succ] at x0 x1 x2
    have HP5 := hid PW5
    have HK5 := hid K5
    clear R5 K5 PW5 BL5 BR5
    cases ye with
    | true =>
      have HE : Hid (X = (⟨O1, O2, true⟩, zp)) := HE1.out
      go_wp2
      exact bodyPost_ret (v := .agg #[.int .u64 (O1 : Int), .int .u64 (O2 : Int), .bool true]) (by simp [results, Try.results65, go_sem, *]) rfl ⟨by rw [HE.out]; rfl, by rw [HE.out]; exact ((HP5.out.other (by simp; omega) _).other (by simp; omega) _).other (by simp; omega) _, ((HK5.out.setNew (by simp) _).setNew (by simp) _).setNew (by simp) _⟩
    | false =>
      have HE : Hid (X = (⟨O1, O2, ze⟩, zp)) := HE1.out
      go_wp2
      exact bodyPost_ret (v := .agg #[.int .u64 (O1 : Int), .int .u64 (O2 : Int), .bool ze]) (by simp [results, Try.results65, go_sem, *]) rfl ⟨by rw [HE.out]; rfl, by rw [HE.out]; exact ((HP5.out.other (by simp; omega) _).other (by simp; omega) _).other (by simp; omega) _, ((HK5.out.setNew (by simp) _).setNew (by simp) _).setNew (by simp) _⟩
end Go.Proofs.Ytjmkkkfloalliab

namespace Go.Proofs.Ytjmkkkfloalliab
set_option linter.unusedVariables false
open Go.RowKit

theorem lay_all : ∀ f, LayD f
  | 0 => fun bp bt ot g cap ps n p w _ _ _ _ _ _ h => absurd h (Nat.not_lt_zero _)
  | f + 1 => lay_step f (lay_all f)
theorem pat0_cells : (Try.zeroCells119.setIfInBounds 0 (.int .i64 1)) = (patCells Q.pat0).toArray := by kernel_rfl

set_option maxRecDepth 10000 in
set_option maxHeartbeats 3200000 in
theorem newPattern_any (bt ot g cap : Nat) (ps : List Q.Part) (top : Nat) (w : World) (hT : TE w bt ot g cap ps) (hps : Q.PartsOk ps) (ht : top < ps.length) (hpl : (Q.at_ ps top).places ≤ 48) :
    Calls Try.prog 50 #[.pointer (some ⟨bt, ot, none⟩), .int .i64 (top : Int)] w fun e w' => e = .returned (.pointer (some ⟨w.heap.size, 0, none⟩)) ∧ PaT w' w.heap.size (Q.newPattern ps top) ∧ Keep [] w w' := by
  have hlb := hT.lb
  have hlg := hT.lg
  have HP0 : Hid (PaT (w.alloc (.cells (Try.zeroCells119.setIfInBounds 0 (.int .i64 1)) 119)) w.heap.size Q.pat0) := by
    show PaT _ _ _
    rw [pat0_cells]
    exact ⟨Q.pat0_ok, BlkT.new w _ _⟩
  have HT0 : Hid (TE (w.alloc (.cells (Try.zeroCells119.setIfInBounds 0 (.int .i64 1)) 119)) bt ot g cap ps) := hT.keep ((Keep.refl [] w).alloc _) (by simp) (by simp)
  have HK0 : Hid (Keep [] w (w.alloc (.cells (Try.zeroCells119.setIfInBounds 0 (.int .i64 1)) 119))) := (Keep.refl [] w).alloc _
  have hz0 : (w.alloc (.cells (Try.zeroCells119.setIfInBounds 0 (.int .i64 1)) 119)).heap.size = w.heap.size + 1 := by simp
  have HNO : Hid (Q.PatOk (Q.newPattern ps top)) := (Q.newPattern_ok hps top ht hpl).1
  obtain ⟨a1, a2, a3⟩ := Q.lay_ok hps (top + 1) top (by omega) ht Q.pat0 Q.pat0_ok (by show 1 + _ ≤ 49; omega)
  have HPS : Hid (Q.PartsOk ps) := hps
  have HNE : Hid (Q.newPattern ps top = { (Q.lay ps (top + 1) top Q.pat0).2 with begins := (Q.lay ps (top + 1) top Q.pat0).1.first, ahead := (Q.lay ps (top + 1) top Q.pat0).2.ahead.set 0 (Q.lay ps (top + 1) top Q.pat0).1.last }) := rfl
  have hpls : Q.pat0.size + (Q.at_ ps top).places ≤ 49 := by show 1 + _ ≤ 49; omega
  clear hT hps
  go_enter Try.func50, Try.ntmps50
  go_upto_region 2 with fail
  generalize w.alloc (.cells (Try.zeroCells119.setIfInBounds 0 (.int .i64 1)) 119) = w0 at *
  have HCA := lay_all (top + 1) w.heap.size bt ot g cap ps top Q.pat0 w0 HP0.out HT0.out HPS.out (by omega) (by omega) ht (by omega) hpls
  generalize hYe : Q.lay ps (top + 1) top Q.pat0 = Y at *
  obtain ⟨⟨yf, yl, ye⟩, yp⟩ := Y
  unfold spanV at HCA
  simp only at HCA a1 a2 a3 HNE
  have HCAH := hid HCA
  clear HCA
  go_upto_region 3 with (go_at_call 65; refine HCAH.out.mono ?_; rintro e w2 ⟨rfl, hP2, hK2⟩)
  have PW := hP2.alloc (.cells #[.int .u64 (yf : Int), .int .u64 (yl : Int), .bool ye] 121)
  have BW : BlkT (w2.alloc (.cells #[.int .u64 (yf : Int), .int .u64 (yl : Int), .bool ye] 121)) w2.heap.size 121 [.int .u64 (yf : Int), .int .u64 (yl : Int), .bool ye] := BlkT.new w2 _ _
  have KW := (HK0.out.trans2 hK2 (by simp)).alloc (.cells #[.int .u64 (yf : Int), .int .u64 (yl : Int), .bool ye] 121)
  have zw : w.heap.size < w2.heap.size := by have := hK2.size; omega
  clear hP2 hK2 HCAH HP0 HT0 HK0
  generalize hb2 : w2.heap.size = b2 at *
  generalize w2.alloc (.cells #[.int .u64 (yf : Int), .int .u64 (yl : Int), .bool ye] 121) = w3 at *
  clear hb2
  have l0 := BW.cell 0; have l1 := BW.cell 1
  simp only [List.getElem?_cons_zero, List.getElem?_cons_succ] at l0 l1
  have fz := PW.fz
  have cb := PW.cb
  have ca := PW.ca 0 (by omega)
  have OK1 : Q.PatOk { yp with begins := yf } := ⟨a1.size, a1.pos, a1.alen, a1.tlen, a1.a, a1.t, a2.1⟩
  have HPF : Hid (PaT ((w3.setCell ⟨w.heap.size, 306, none⟩ (.int .u64 (yf : Int))).setCell ⟨w.heap.size, 1 + 0, none⟩ (.int .u64 (yl : Int))) w.heap.size (Q.newPattern ps top)) := (PW.setB yf OK1 rfl).setA 0 yl (by omega) HNO.out (by rw [HNE.out])
  have HKF : Hid (Keep [] w ((w3.setCell ⟨w.heap.size, 306, none⟩ (.int .u64 (yf : Int))).setCell ⟨w.heap.size, 1 + 0, none⟩ (.int .u64 (yl : Int)))) := (KW.setNew (by simp) _).setNew (by simp) _
  have nb2 : b2 ≠ w.heap.size := by omega
  clear KW BW PW
  go_wp2_with fail
  go_region
  all_goals
    go_wp2
    go_ret
    exact ⟨rfl, HPF.out.drew, HKF.out.drew⟩

/-- what a pattern is, or why it is none: the fault and its place -/
def Q.parse (s : List UInt8) : Except (Nat × Nat) Q.Pat :=
  if 40 < s.length then .error (1, 0)
  else if (Q.whole s).2.wrong = true then .error (3, (Q.whole s).2.at_ + 1)
  else if (Q.whole s).2.back = true then .error (4, 0)
  else if 6 < (Q.whole s).2.deepest ∨ 48 < (Q.at_ (Q.whole s).2.parts (Q.whole s).1).places then .error (5, 0)
  else .ok (Q.newPattern (Q.whole s).2.parts (Q.whole s).1)
def ParsePost (B : Nat) (r : Except (Nat × Nat) Q.Pat) (e : Ending) (w' : World) : Prop :=
  match r with
  | .error (E, At) => e = .returned (.tuple #[.pointer none, .agg #[.int .i64 (E : Int), .int .i64 (At : Int)]])
  | .ok P => ∃ b, e = .returned (.tuple #[.pointer (some ⟨b, 0, none⟩), .agg #[.int .i64 0, .int .i64 0]]) ∧ B ≤ b ∧ PaT w' b P
theorem Rt.te {w : World} {B br : Nat} {pat : ByteArray} {σ : Q.Rd} {v : Value} (h : Rt w B br pat σ v) (hps : Q.PartsOk σ.parts) (hne : σ.parts ≠ []) : ∃ g cap, v = .slice (some ⟨g, 0, none⟩) σ.parts.length cap ∧ TE w br 6 g cap σ.parts := by
  obtain ⟨g, cap, hv, _, hg, hr⟩ := parts_open h.own hps hne
  exact ⟨g, cap, hv, by rw [← hv]; exact h.rd.cells.2.2.2.2.2.2, hr, h.lt, hg⟩
theorem TE.places {w : World} {bt ot g cap : Nat} {ps : List Q.Part} (h : TE w bt ot g cap ps) (hps : Q.PartsOk ps) (i : Nat) (hi : i < ps.length) : w.cell? ⟨g, i * 265 + 264, none⟩ = some (.int .i64 ((Q.at_ ps i).places : Int)) :=
  h.rg i hi 264 _ (pc_tail (hps.get i hi).1.ins 7)

set_option maxRecDepth 10000 in
set_option maxHeartbeats 3200000 in
theorem Parse_any (s : ByteArray) (w : World) (hs : s.size ≤ maxLen) :
    Calls Try.prog 32 #[.string s] w fun e w' => ParsePost w.heap.size (Q.parse (L s)) e w' ∧ Below w.heap.size w w' := by
  unfold maxLen at hs
  have HL : Hid ((L s).length = s.size) := size_len s
  by_cases hlong : 40 < s.size
  · have HE : Hid (Q.parse (L s) = .error (1, 0)) := by show _ = _; unfold Q.parse; rw [if_pos (by rw [HL.out]; exact hlong)]
    rw [HE.out]
    go_enter Try.func32, Try.ntmps32
    go_wp2
    exact bodyPost_ret (v := .tuple #[.pointer none, .agg #[.int .i64 1, .int .i64 0]]) (by simp [results, Try.results32, go_sem, *]) rfl ⟨rfl, by first | exact (((Below.refl _ _).alloc (Nat.le_refl _) _).setCell (by simp) _).setCell (by simp) _ | exact (Below.refl _ _).alloc (Nat.le_refl _) _⟩
  have hs1000 : s.size ≤ 1000 := by omega
  have HR0 : Hid (Rt ((w.alloc (.cells #[.int .i64 0, .int .i64 0] 45)).alloc (.cells #[.string s, .int .i64 0, .bool false, .bool false, .int .i64 0, .int .i64 0, .slice none 0 0] 87)) (w.heap.size + 1) (w.heap.size + 1) s Q.rd0 (.slice none 0 0)) := by
    refine ⟨?_, ⟨rfl, .inl ⟨rfl, rfl⟩⟩, fun e => by cases e⟩
    have := BlkT.new (w.alloc (.cells #[.int .i64 0, .int .i64 0] 45)) #[.string s, .int .i64 0, .bool false, .bool false, .int .i64 0, .int .i64 0, .slice none 0 0] 87
    simp only [World.size_alloc] at this
    exact this
  have HF0 : Hid (BlkT ((w.alloc (.cells #[.int .i64 0, .int .i64 0] 45)).alloc (.cells #[.string s, .int .i64 0, .bool false, .bool false, .int .i64 0, .int .i64 0, .slice none 0 0] 87)) w.heap.size 45 [.int .i64 0, .int .i64 0]) := (BlkT.new w _ _).alloc _
  have HB0 : Hid (Below w.heap.size w ((w.alloc (.cells #[.int .i64 0, .int .i64 0] 45)).alloc (.cells #[.string s, .int .i64 0, .bool false, .bool false, .int .i64 0, .int .i64 0, .slice none 0 0] 87))) := ((Below.refl _ _).alloc (Nat.le_refl _) _).alloc (by simp) _
  have HG := Q.top_good (L s)
  have HPS : Hid (Q.PartsOk (Q.whole (L s)).2.parts) := HG.ok
  have hlt : (Q.whole (L s)).1 < (Q.whole (L s)).2.parts.length := HG.lt
  have hat : (Q.whole (L s)).2.at_ ≤ s.size := by have := HG.on.len (Nat.zero_le _); rw [HL.out] at this; exact this
  clear HG
  have HQ : Hid (Q.parse (L s) = if (Q.whole (L s)).2.wrong = true then .error (3, (Q.whole (L s)).2.at_ + 1)
      else if (Q.whole (L s)).2.back = true then .error (4, 0)
      else if 6 < (Q.whole (L s)).2.deepest ∨ 48 < (Q.at_ (Q.whole (L s)).2.parts (Q.whole (L s)).1).places then .error (5, 0)
      else .ok (Q.newPattern (Q.whole (L s)).2.parts (Q.whole (L s)).1)) := by show _ = _; conv => lhs; unfold Q.parse; rw [if_neg (by rw [HL.out]; exact hlong)]
  obtain ⟨R, hRe⟩ : ∃ R, Q.parse (L s) = R := ⟨_, rfl⟩
  rw [hRe] at HQ ⊢
  clear hRe
  have HWA : Hid (Calls Try.prog 49 #[.pointer (some ⟨w.heap.size + 1, 0, none⟩)] ((w.alloc (.cells #[.int .i64 0, .int .i64 0] 45)).alloc (.cells #[.string s, .int .i64 0, .bool false, .bool false, .int .i64 0, .int .i64 0, .slice none 0 0] 87)) fun e w' => e = .returned (.int .i64 ((Q.whole (L s)).1 : Nat)) ∧ (∃ v', Rt w' (w.heap.size + 1) (w.heap.size + 1) s (Q.whole (L s)).2 v') ∧ Below (w.heap.size + 1) ((w.alloc (.cells #[.int .i64 0, .int .i64 0] 45)).alloc (.cells #[.string s, .int .i64 0, .bool false, .bool false, .int .i64 0, .int .i64 0, .slice none 0 0] 87)) w') := whole_any (w.heap.size + 1) (w.heap.size + 1) s _ _ HR0.out (Nat.le_refl _) hs1000
  generalize hWe : Q.whole (L s) = W at *
  obtain ⟨top, σ⟩ := W
  simp only at HWA HPS hlt hat HQ
  have hpl49 := (HPS.out.get top hlt).1.places
  go_enter Try.func32, Try.ntmps32
  go_upto_region 5 with (go_at_call 49; refine HWA.out.mono ?_; rintro e w2 ⟨rfl, ⟨v2, hR2⟩, hB2⟩)
  have hF2 : BlkT w2 w.heap.size 45 [.int .i64 0, .int .i64 0] := (hB2.block w.heap.size (by omega)).trans HF0.out
  have hBw : Below w.heap.size w w2 := HB0.out.trans (hB2.mono (by omega))
  obtain ⟨g, cap, hv, hTE⟩ := hR2.te HPS.out (by intro e; rw [e] at hlt; simp at hlt)
  have hplc := hTE.places HPS.out top hlt
  obtain ⟨r0, r1, r2, r3, r4, r5, r6⟩ := hR2.rd.cells
  rw [hv] at r6
  have f0 := hF2.cell 0; have f1 := hF2.cell 1; have ff := hF2.frozen
  simp only [List.getElem?_cons_zero, List.getElem?_cons_succ] at f0 f1
  have HTE := hid hTE
  have HBW := hid hBw
  have HF2 := hid hF2
  have i0 : (0 : Int) ≤ (top : Int) := by omega
  have i1 : (top : Int) < (σ.parts.length : Int) := by omega
  have hz2 := hF2.lt
  clear HWA HR0 HF0 HB0 hTE hBw hF2 hB2 hR2 hlong
  cases hwr : σ.wrong with
  | true =>
    rw [hwr] at r2
    have HE : Hid (R = .error (3, σ.at_ + 1)) := by show _ = _; rw [HQ.out, if_pos hwr]
    go_wp2_with fail
    go_region
    all_goals
      go_wp2
      exact bodyPost_ret (v := .tuple #[.pointer none, .agg #[.int .i64 3, .int .i64 ((σ.at_ : Int) + 1)]]) (by simp [results, Try.results32, go_sem, *]) rfl ⟨by rw [HE.out]; rfl, below_drew ((HBW.out.setCell (by simp) _).setCell (by simp) _)⟩
  | false =>
    rw [hwr] at r2
    have hnw : ¬ σ.wrong = true := by rw [hwr]; decide
    cases hbk : σ.back with
    | true =>
      rw [hbk] at r3
      have HE : Hid (R = .error (4, 0)) := by show _ = _; rw [HQ.out, if_neg hnw, if_pos hbk]
      go_wp2
      exact bodyPost_ret (v := .tuple #[.pointer none, .agg #[.int .i64 4, .int .i64 0]]) (by simp [results, Try.results32, go_sem, *]) rfl ⟨by rw [HE.out]; rfl, (HBW.out.setCell (by simp) _).setCell (by simp) _⟩
    | false =>
      rw [hbk] at r3
      have hnb : ¬ σ.back = true := by rw [hbk]; decide
      by_cases h6 : 6 < σ.deepest
      · have HE : Hid (R = .error (5, 0)) := by show _ = _; rw [HQ.out, if_neg hnw, if_neg hnb, if_pos (.inl h6)]
        have hd6 : decide ((6 : Int) < (σ.deepest : Int)) = true := by simp; omega
        go_wp2
        exact bodyPost_ret (v := .tuple #[.pointer none, .agg #[.int .i64 5, .int .i64 0]]) (by simp [results, Try.results32, go_sem, *]) rfl ⟨by rw [HE.out]; rfl, (HBW.out.setCell (by simp) _).setCell (by simp) _⟩
      · have hd6 : decide ((6 : Int) < (σ.deepest : Int)) = false := by simp; omega
        by_cases h48 : 48 < (Q.at_ σ.parts top).places
        · have HE : Hid (R = .error (5, 0)) := by show _ = _; rw [HQ.out, if_neg hnw, if_neg hnb, if_pos (.inr h48)]
          have hd48 : decide ((48 : Int) < ((Q.at_ σ.parts top).places : Int)) = true := by simp; omega
          go_wp2
          exact bodyPost_ret (v := .tuple #[.pointer none, .agg #[.int .i64 5, .int .i64 0]]) (by simp [results, Try.results32, go_sem, *]) rfl ⟨by rw [HE.out]; rfl, (HBW.out.setCell (by simp) _).setCell (by simp) _⟩
        · have HE : Hid (R = .ok (Q.newPattern σ.parts top)) := by show _ = _; rw [HQ.out, if_neg hnw, if_neg hnb, if_neg (by omega)]
          have hd48 : decide ((48 : Int) < ((Q.at_ σ.parts top).places : Int)) = false := by simp; omega
          have hpl48 : (Q.at_ σ.parts top).places ≤ 48 := by omega
          have HNP := hid (newPattern_any (w.heap.size + 1) 6 g cap σ.parts top w2 HTE.out HPS.out hlt hpl48)
          go_wp2_with (go_at_call 50; refine HNP.out.mono ?_; rintro e w3 ⟨rfl, hP3, hK3⟩; have hF3 := HF2.out.keep hK3 (by simp); have x0 := hF3.cell 0; have x1 := hF3.cell 1; have xf := hF3.frozen; simp only [List.getElem?_cons_zero, List.getElem?_cons_succ] at x0 x1)
          exact bodyPost_ret (v := .tuple #[.pointer (some ⟨w2.heap.size, 0, none⟩), .agg #[.int .i64 0, .int .i64 0]]) (by simp [results, Try.results32, go_sem, *]) rfl ⟨by rw [HE.out]; exact ⟨w2.heap.size, rfl, by omega, (hP3.other (by simp; omega) _).other (by simp; omega) _⟩, ((HBW.out.trans (hK3.to_below (by simp) (by omega))).setCell (by simp) _).setCell (by simp) _⟩
end Go.Proofs.Ytjmkkkfloalliab

namespace Go.Proofs.Ytjmkkkfloalliab
set_option linter.unusedVariables false
open Go.RowKit

theorem ret_b {a b : Bool} (h : a = b) : Ending.returned (.bool a) = .returned (.bool b) := by rw [h]
def stC (s : Q.St) : List Value := [.int .i64 (s.low : Int), .int .i64 (s.high : Int), .int .u64 (s.places : Int), .int .i64 (s.twin : Int)]
def stCells (l : List Q.St) : List Value := l.flatMap stC
theorem stCells_len : ∀ l : List Q.St, (stCells l).length = l.length * 4
  | [] => rfl
  | s :: l => by
    unfold stCells
    rw [List.flatMap_cons, List.length_append]
    have := stCells_len l
    unfold stCells at this
    rw [this, List.length_cons]
    simp [stC]
    omega
theorem stCells_at : ∀ (l : List Q.St) (i j : Nat), i < l.length → j < 4 → (stCells l)[i * 4 + j]? = (stC (Q.stAt l i))[j]?
  | [], i, _, h, _ => by simp at h
  | s :: l, 0, j, _, hj => by
    unfold stCells
    rw [List.flatMap_cons, List.getElem?_append_left (by simp [stC]; omega), Nat.zero_mul, Nat.zero_add]
    rfl
  | s :: l, i + 1, j, hi, hj => by
    unfold stCells
    rw [List.flatMap_cons, List.getElem?_append_right (by simp [stC]; omega)]
    have := stCells_at l i j (by simpa using hi) hj
    unfold stCells at this
    rw [show (i + 1) * 4 + j - (stC s).length = i * 4 + j by simp [stC]; omega, this]
    rfl
theorem stCells_snoc (l : List Q.St) (s : Q.St) : stCells (l ++ [s]) = stCells l ++ stC s := by
  unfold stCells
  rw [List.flatMap_append]
  simp
def natI (l : List Nat) : List Int := l.map fun (n : Nat) => (n : Int)
theorem natI_at (l : List Nat) (i : Nat) : (natI l).getD i 0 = ((l.getD i 0 : Nat) : Int) := by
  unfold natI
  rw [List.getD_eq_getElem?_getD, List.getElem?_map, List.getD_eq_getElem?_getD]
  cases l[i]? <;> rfl
theorem natI_len (l : List Nat) : (natI l).length = l.length := by simp [natI]
theorem natI_set (l : List Nat) (i v : Nat) : (natI l).set i (v : Int) = natI (l.set i v) := by simp [natI, List.map_set]

/-- where a walk's things lie -/
structure Wh where
  B : Nat
  bw : Nat
  bi : Nat
  bp : Nat
  bl : Nat
  bn : Nat
  n : Nat
  memo : Bool
/-- the walk in memory -/
structure WkT (w : World) (x : Wh) (k : Q.Wk) (v : Value) : Prop where
  blk : BlkT w x.bw 72 [.pointer (some ⟨x.bi, 0, none⟩), .pointer (some ⟨x.bp, 0, none⟩), .bool x.memo, .slice (some ⟨x.bl, 0, none⟩) x.n x.n, v, .slice (some ⟨x.bn, 0, none⟩) (x.n + 1) (x.n + 1)]
  own : w.ownsRow x.B 99 4 v k.list.length (stCells k.list)
  new : Nums .i64 w x.bn (natI k.newest)
  ok : Q.WkOk x.n k
  len : k.list.length ≤ 100000000
  nw : v.ownBlock ≠ some x.bw
  nn : v.ownBlock ≠ some x.bn
  wn : x.bw ≠ x.bn
  bw : x.B ≤ x.bw
  bn : x.B ≤ x.bn
theorem WkT.cells {w : World} {x : Wh} {k : Q.Wk} {v : Value} (h : WkT w x k v) :
    w.cell? ⟨x.bw, 0, none⟩ = some (.pointer (some ⟨x.bi, 0, none⟩)) ∧ w.cell? ⟨x.bw, 1, none⟩ = some (.pointer (some ⟨x.bp, 0, none⟩)) ∧ w.cell? ⟨x.bw, 2, none⟩ = some (.bool x.memo) ∧
    w.cell? ⟨x.bw, 3, none⟩ = some (.slice (some ⟨x.bl, 0, none⟩) x.n x.n) ∧ w.cell? ⟨x.bw, 4, none⟩ = some v ∧ w.cell? ⟨x.bw, 5, none⟩ = some (.slice (some ⟨x.bn, 0, none⟩) (x.n + 1) (x.n + 1)) :=
  ⟨h.blk.cell 0, h.blk.cell 1, h.blk.cell 2, h.blk.cell 3, h.blk.cell 4, h.blk.cell 5⟩
theorem own_keep' {S : List Nat} {w w' : World} {B n size : Nat} {e : TypeId} {v : Value} {xs : List Value} (h : w.ownsRow B e size v n xs) (k : Keep S w w') (hS : ∀ b, v.ownBlock = some b → b ∉ S) : w'.ownsRow B e size v n xs := by
  obtain ⟨h1, h | ⟨g, cap, cur, rfl, hb, hg, h2⟩⟩ := h
  · exact ⟨h1, .inl h⟩
  · exact ⟨h1, .inr ⟨g, cap, cur, rfl, hb, (k.block g (Array.getElem?_eq_some_iff.1 hg).1 (hS g rfl)).trans hg, h2⟩⟩
theorem own_lt' {w : World} {B n size : Nat} {e : TypeId} {v : Value} {xs : List Value} (h : w.ownsRow B e size v n xs) : ∀ b, v.ownBlock = some b → b < w.heap.size ∧ B ≤ b := by
  intro b hb
  obtain ⟨_, ⟨rfl, _⟩ | ⟨g, cap, cur, rfl, hB, hg, _⟩⟩ := h
  · cases hb
  · cases hb
    exact ⟨(Array.getElem?_eq_some_iff.1 hg).1, hB⟩
theorem WkT.keep {S : List Nat} {w w' : World} {x : Wh} {k : Q.Wk} {v : Value} (h : WkT w x k v) (kk : Keep S w w') (h1 : x.bw ∉ S) (h2 : x.bn ∉ S) (h3 : ∀ b, v.ownBlock = some b → b ∉ S) : WkT w' x k v :=
  ⟨h.blk.keep kk h1, own_keep' h.own kk h3, h.new.of_heap (kk.block _ (Blk.lt h.new) h2), h.ok, h.len, h.nw, h.nn, h.wn, h.bw, h.bn⟩
theorem WkT.keep0 {w w' : World} {x : Wh} {k : Q.Wk} {v : Value} (h : WkT w x k v) (kk : Keep [] w w') : WkT w' x k v := h.keep kk (by simp) (by simp) (by simp)
/-- the list's row -/
theorem WkT.row {w : World} {x : Wh} {k : Q.Wk} {v : Value} (h : WkT w x k v) (i : Nat) (hi : i < k.list.length) : ∃ g cap, v = .slice (some ⟨g, 0, none⟩) k.list.length cap ∧ k.list.length ≤ cap ∧
    w.cell? ⟨g, i * 4, none⟩ = some (.int .i64 ((Q.stAt k.list i).low : Int)) ∧ w.cell? ⟨g, i * 4 + 1, none⟩ = some (.int .i64 ((Q.stAt k.list i).high : Int)) ∧
    w.cell? ⟨g, i * 4 + 2, none⟩ = some (.int .u64 ((Q.stAt k.list i).places : Int)) ∧ w.cell? ⟨g, i * 4 + 3, none⟩ = some (.int .i64 ((Q.stAt k.list i).twin : Int)) ∧ g < w.heap.size := by
  obtain ⟨g, cap, hv, hb, hr⟩ := own_open h.own (fun e => by
    subst e
    obtain ⟨_, h | ⟨g, cap, cur, h, _⟩⟩ := h.own
    · omega
    · cases h)
  have hl := stCells_len k.list
  refine ⟨g, cap, hv, hr.le, ?_, ?_, ?_, ?_, hr.lt⟩
  · rw [show i * 4 = i * 4 + 0 by omega, hr.cell? (i * 4 + 0) (by omega), stCells_at k.list i 0 hi (by omega)]; rfl
  · rw [hr.cell? (i * 4 + 1) (by omega), stCells_at k.list i 1 hi (by omega)]; rfl
  · rw [hr.cell? (i * 4 + 2) (by omega), stCells_at k.list i 2 hi (by omega)]; rfl
  · rw [hr.cell? (i * 4 + 3) (by omega), stCells_at k.list i 3 hi (by omega)]; rfl

set_option maxRecDepth 10000 in
set_option maxHeartbeats 1600000 in
theorem has_any (x : Wh) (k : Q.Wk) (v : Value) (s : Q.St) (w : World) (hW : WkT w x k v) (hs : s.low ≤ x.n) (hn : x.n ≤ 1000) :
    Calls Try.prog 66 #[.pointer (some ⟨x.bw, 0, none⟩), .agg (stC s).toArray] w fun e w' => e = .returned (.bool (Q.has k s)) ∧ Keep [] w w' := by
  have hbw := hW.blk.lt
  have hbn := Blk.lt hW.new
  obtain ⟨c0, c1, c2, c3, c4, c5⟩ := hW.cells
  have hnw := hW.new.cell s.low (by rw [natI_len, hW.ok.len]; omega)
  rw [natI_at] at hnw
  have hnl := hW.ok.new s.low
  have hlen := hW.len
  obtain ⟨R, hRe⟩ : ∃ R, R = Q.has k s := ⟨_, rfl⟩
  rw [← hRe]
  have HR : Hid (R = Q.hasF k.list s (k.newest.getD s.low 0 + 1) (k.newest.getD s.low 0)) := hRe
  have HW : Hid (WkT w x k v) := hW
  have h0 : (0 : Int) ≤ (s.low : Int) := by omega
  have h1 : (s.low : Int) < ((x.n + 1 : Nat) : Int) := by omega
  generalize k.newest.getD s.low 0 = N at *
  clear hRe hW
  unfold stC
  go_enter Try.func66, Try.ntmps66
  go_wp2
  go_quiet (fail)
  go_wp2
  have HB0 : Hid (BlkT ((w.alloc (.cells #[.int .i64 (s.low : Int), .int .i64 (s.high : Int), .int .u64 (s.places : Int), .int .i64 (s.twin : Int)] 99)).drewN nq) w.heap.size 99 (stC s)) := BlkT.new w _ _
  have HK0 : Hid (Keep [] w ((w.alloc (.cells #[.int .i64 (s.low : Int), .int .i64 (s.high : Int), .int .u64 (s.places : Int), .int .i64 (s.twin : Int)] 99)).drewN nq)) := ((Keep.refl [] w).alloc _).drewN nq
  go_loopg [5] (N + 1) (fun f i wr => ∃ m : Nat, i = .int .i64 m ∧ m ≤ k.list.length ∧ m < f ∧ Hid (R = Q.hasF k.list s f m) ∧ Keep [] w wr ∧ BlkT wr w.heap.size 99 (stC s))
  case atStart => exact ⟨N, rfl, hnl, by omega, HR, HK0.out, HB0.out⟩
  case round =>
    clear HR HB0 HK0 hnw hnl c0 c1 c2 c3 c4 c5
    obtain ⟨m, rfl, hm, hmf, HR, hK, hB⟩ := hrel
    obtain ⟨f, rfl⟩ : ∃ f, gk = f + 1 := ⟨gk - 1, by omega⟩
    have hW := HW.out.keep0 hK
    obtain ⟨_, _, _, _, c4, _⟩ := hW.cells
    rcases Nat.eq_zero_or_pos m with rfl | hpos
    · have HE : Hid (R = false) := by have := HR.out; unfold Q.hasF at this; rw [if_pos rfl] at this; exact this
      go_wp2
      go_ret
      exact ⟨ret_b HE.out.symm, hK⟩
    · obtain ⟨j, rfl⟩ : ∃ j, m = j + 1 := ⟨m - 1, by omega⟩
      obtain ⟨g, cap, rfl, hcap, r0, r1, r2, r3, hg⟩ := hW.row j (by omega)
      have htw := (hW.ok.st j (by omega)).2
      have b1 := hB.cell 1; have b2 := hB.cell 2
      simp only [stC, List.getElem?_cons_zero, List.getElem?_cons_succ] at b1 b2
      have hz := hB.lt
      have hbwr : x.bw < wr.heap.size := Nat.lt_of_lt_of_le hbw hK.size
      have nbw : x.bw ≠ wr.heap.size := by omega
      have HU : Hid (Q.hasF k.list s (f + 1) (j + 1) = if (Q.stAt k.list j).high = s.high ∧ (Q.stAt k.list j).places = s.places then true else Q.hasF k.list s f (Q.stAt k.list j).twin) := by
        show _ = _
        conv => lhs; unfold Q.hasF
        rw [if_neg (by omega)]
        rfl
      have HKn : Hid (Keep [] w wr) := hK
      have HBn : Hid (BlkT wr w.heap.size 99 (stC s)) := hB
      have i0 : (0 : Int) ≤ (j : Int) := by omega
      have i1 : (j : Int) < (k.list.length : Int) := by omega
      have nz : w.heap.size ≠ wr.heap.size := by omega
      have ng : g ≠ wr.heap.size := by omega
      clear hK hB hW
      generalize Q.stAt k.list j = o at *
      have ee : ((j : Int) + 1 - 1) = (j : Int) := by omega
      by_cases e1 : o.high = s.high
      · have q1 : ((o.high : Int) == (s.high : Int)) = true := by simp [e1]
        by_cases e2 : o.places = s.places
        · have q2 : ((o.places : Int) == (s.places : Int)) = true := by simp [e2]
          have HE : Hid (R = true) := by have := HR.out; rw [HU.out, if_pos ⟨e1, e2⟩] at this; exact this
          clear e1 e2
          go_wp2
          go_ret
          exact ⟨ret_b HE.out.symm, HKn.out.alloc _⟩
        · have q2 : ((o.places : Int) == (s.places : Int)) = false := by simp; omega
          have HE : Hid (R = Q.hasF k.list s f o.twin) := by have := HR.out; rw [HU.out, if_neg (fun h => e2 h.2)] at this; exact this
          clear e1 e2
          go_wp2
          go_roundg f
          case measure => omega
          case rel => exact ⟨o.twin, rfl, by omega, by omega, HE, HKn.out.alloc _, HBn.out.alloc _⟩
      · have q1 : ((o.high : Int) == (s.high : Int)) = false := by simp; omega
        have HE : Hid (R = Q.hasF k.list s f o.twin) := by have := HR.out; rw [HU.out, if_neg (fun h => e1 h.1)] at this; exact this
        clear e1
        go_wp2
        go_roundg f
        case measure => omega
        case rel => exact ⟨o.twin, rfl, by omega, by omega, HE, HKn.out.alloc _, HBn.out.alloc _⟩
end Go.Proofs.Ytjmkkkfloalliab

namespace Go.Proofs.Ytjmkkkfloalliab
set_option linter.unusedVariables false
open Go.RowKit

theorem Try.info119 : (Try.prog.info? 99).map (fun i => (i.zero, i.size, i.bytes)) = some (some (.agg #[.int .i64 0, .int .i64 0, .int .u64 0, .int .i64 0]), 4, 32) := by kernel_rfl
/-- the blocks that 'add' may turn -/
def turnS (x : Wh) (v : Value) : List Nat := x.bw :: x.bn :: v.ownBlock.toList
theorem mem_turnS {x : Wh} {v : Value} {b : Nat} : b ∈ turnS x v ↔ b = x.bw ∨ b = x.bn ∨ v.ownBlock = some b := by
  unfold turnS
  simp [Option.mem_toList]
theorem stC_one (s : Q.St) : ∀ v ∈ stC s, v.oneCell' = true := by
  intro v hv
  simp only [stC, List.mem_cons, List.not_mem_nil, or_false] at hv
  rcases hv with rfl | rfl | rfl | rfl <;> rfl

/-- behind the append -/
theorem put_world {x : Wh} {k : Q.Wk} {v : Value} {s : Q.St} {w wd w1 : World} {X : Obj} {gg cap : Nat} (hWd : WkT wd x k v) (hKd : Keep [] w wd) (hbw : x.bw < w.heap.size) (hbn : x.bn < w.heap.size) (hlb : ∀ b, v.ownBlock = some b → b < w.heap.size)
    (hSd : BlkT wd w.heap.size 99 (stC s)) (hgrow : (wd.alloc X).drew.grownBy w1 v.ownBlock) (hat : v.ownBlock = some gg ∨ gg = wd.heap.size + 1)
    (hown1 : w1.ownsRow x.B 99 4 (.slice (some ⟨gg, 0, none⟩) (k.list.length + 1) cap) (k.list.length + 1) (stCells k.list ++ stC s)) :
    BlkT (w1.setCell ⟨x.bw, 4, none⟩ (.slice (some ⟨gg, 0, none⟩) (k.list.length + 1) cap)) x.bw 72 [.pointer (some ⟨x.bi, 0, none⟩), .pointer (some ⟨x.bp, 0, none⟩), .bool x.memo, .slice (some ⟨x.bl, 0, none⟩) x.n x.n, .slice (some ⟨gg, 0, none⟩) (k.list.length + 1) cap, .slice (some ⟨x.bn, 0, none⟩) (x.n + 1) (x.n + 1)] ∧
    (w1.setCell ⟨x.bw, 4, none⟩ (.slice (some ⟨gg, 0, none⟩) (k.list.length + 1) cap)).ownsRow x.B 99 4 (.slice (some ⟨gg, 0, none⟩) (k.list.length + 1) cap) (k.list.length + 1) (stCells k.list ++ stC s) ∧
    Nums .i64 (w1.setCell ⟨x.bw, 4, none⟩ (.slice (some ⟨gg, 0, none⟩) (k.list.length + 1) cap)) x.bn (natI k.newest) ∧
    BlkT (w1.setCell ⟨x.bw, 4, none⟩ (.slice (some ⟨gg, 0, none⟩) (k.list.length + 1) cap)) w.heap.size 99 (stC s) ∧
    Keep (turnS x v) w (w1.setCell ⟨x.bw, 4, none⟩ (.slice (some ⟨gg, 0, none⟩) (k.list.length + 1) cap)) ∧ gg ≠ x.bw ∧ gg ≠ x.bn := by
  have hsz := hKd.size
  have hz := hSd.lt
  have hge : gg ≠ x.bw := by
    rcases hat with h | h
    · exact fun e => hWd.nw (by rw [h, e])
    · omega
  have hgn : gg ≠ x.bn := by
    rcases hat with h | h
    · exact fun e => hWd.nn (by rw [h, e])
    · omega
  have blk : ∀ b, b < wd.heap.size → v.ownBlock ≠ some b → w1.heap[b]? = wd.heap[b]? := fun b hb hv =>
    (hgrow.block b (by show b < (wd.alloc X).heap.size; simp; omega) (Ne.symm hv)).trans (Below.heap_alloc wd X b hb)
  have set : ∀ b, b ≠ x.bw → (w1.setCell ⟨x.bw, 4, none⟩ (.slice (some ⟨gg, 0, none⟩) (k.list.length + 1) cap)).heap[b]? = w1.heap[b]? := fun b hb => Below.heap_setCell _ _ _ _ hb
  refine ⟨?_, ?_, ?_, ?_, ?_, hge, hgn⟩
  · have h1 : BlkT w1 x.bw _ _ := (blk x.bw (by omega) hWd.nw).trans hWd.blk
    exact h1.set 4 _
  · obtain ⟨h1, ⟨h, _⟩ | ⟨g', cap', cur, hv, hb, hg, h2⟩⟩ := hown1
    · cases h
    · cases hv
      exact ⟨h1, .inr ⟨gg, cap, cur, rfl, hb, (set gg hge).trans hg, h2⟩⟩
  · exact Blk.of_heap hWd.new ((set x.bn (Ne.symm hWd.wn)).trans (blk x.bn (by omega) hWd.nn))
  · exact (set w.heap.size (by omega)).trans ((blk w.heap.size hz (fun e => absurd (hlb _ e) (Nat.lt_irrefl _))).trans hSd)
  · refine ⟨hgrow.os.trans hKd.os, hgrow.tape.trans hKd.tape, hgrow.output.trans hKd.output, ?_, fun b hb hs => ?_⟩
    · have := hgrow.size
      have h3 : (wd.alloc X).drew.heap.size = wd.heap.size + 1 := by show (wd.alloc X).heap.size = _; simp
      simp [World.setCell]
      omega
    · have hs2 := fun h => hs (mem_turnS.2 h)
      rw [set b (fun e => hs2 (.inl e)), blk b (by omega) (fun e => hs2 (.inr (.inr e)))]
      exact hKd.block b hb (by simp)

set_option maxRecDepth 10000 in
set_option maxHeartbeats 3200000 in
theorem wadd_any (x : Wh) (k : Q.Wk) (v : Value) (s : Q.St) (w : World) (hW : WkT w x k v) (hs : Q.StOk x.n s) (hl : s.low ≤ x.n) (hn : x.n ≤ 1000) (hlen : k.list.length + 1 ≤ 100000000) :
    Calls Try.prog 51 #[.pointer (some ⟨x.bw, 0, none⟩), .agg (stC s).toArray] w fun e w' => e = .returned (.tuple #[]) ∧ ∃ v', WkT w' x (Q.addS x.memo k s) v' ∧ Keep (turnS x v) w w' ∧ ∀ b, v'.ownBlock = some b → v.ownBlock = some b ∨ w.heap.size ≤ b := by
  have hbw := hW.blk.lt
  have hbn := Blk.lt hW.new
  obtain ⟨c0, c1, c2, c3, c4, c5⟩ := hW.cells
  have hnw := hW.new.cell s.low (by rw [natI_len, hW.ok.len]; omega)
  rw [natI_at] at hnw
  have hfw := hW.blk.frozen
  have hfn := Blk.frozen hW.new
  have hwn := hW.wn
  have HWT : Hid (WkT w x k v) := hW
  have hlen2 := hW.len
  have h0 : (0 : Int) ≤ (s.low : Int) := by omega
  have h1 : (s.low : Int) < ((x.n + 1 : Nat) : Int) := by omega
  obtain ⟨i0, hi0, hz0, hz1, hz2⟩ := info_parts Try.info119
  have HO : Hid (w.ownsRow x.B 99 4 v k.list.length (stCells k.list)) := hW.own
  have HNW : Hid (v.ownBlock ≠ some x.bw) := hW.nw
  have HNN : Hid (v.ownBlock ≠ some x.bn) := hW.nn
  have hBw : x.B ≤ x.bw := hW.bw
  have HLB : Hid (∀ b, v.ownBlock = some b → b < w.heap.size ∧ x.B ≤ b) := own_lt' hW.own
  generalize hNe : k.newest.getD s.low 0 = N at *
  have HNe : Hid (k.newest.getD s.low 0 = N) := hNe
  clear hNe hW
  unfold stC
  go_enter Try.func51, Try.ntmps51
  go_upto_region 1 with fail
  obtain ⟨w0, hw0⟩ : ∃ w0, w0 = w.alloc (.cells #[.int .i64 (s.low : Int), .int .i64 (s.high : Int), .int .u64 (s.places : Int), .int .i64 (s.twin : Int)] 99) := ⟨_, rfl⟩
  have HK0 : Hid (Keep [] w w0) := by rw [hw0]; exact (Keep.refl [] w).alloc _
  have HB0 : Hid (BlkT w0 w.heap.size 99 (stC s)) := by rw [hw0]; exact BlkT.new w _ _
  rw [← hw0]
  clear hw0
  go_cut [12] from 4 (fun s12 wc => s12 = .bool (x.memo && Q.has k s) ∧ Keep [] w wc ∧ BlkT wc w.heap.size 99 (stC s))
  case first =>
    have hW0 := HWT.out.keep0 HK0.out
    obtain ⟨_, _, c2, _⟩ := hW0.cells
    have b0 := HB0.out.cell 0; have b1 := HB0.out.cell 1; have b2 := HB0.out.cell 2; have b3 := HB0.out.cell 3
    simp only [stC, List.getElem?_cons_zero, List.getElem?_cons_succ] at b0 b1 b2 b3
    cases hm : x.memo with
    | false =>
      rw [hm] at c2
      go_wp2
      go_meet
      case rel => exact ⟨by rw [hm]; rfl, HK0.out, HB0.out⟩
    | true =>
      rw [hm] at c2
      go_wp2_with (go_at_call 66; refine (has_any x k v s _ hW0 hl hn).mono ?_; rintro e w1 ⟨rfl, hK1⟩)
      go_meet
      case rel => exact ⟨by rw [hm]; rfl, HK0.out.trans hK1, HB0.out.keep hK1 (by simp)⟩
  case rest =>
    clear HK0 HB0 w0
    obtain ⟨rfl, hKc, hBc⟩ := hcut
    have HADD : Hid (Q.addS x.memo k s = if (x.memo && Q.has k s) = true then k else Q.put k s) := by
      show _ = _
      unfold Q.addS
      simp only [Bool.and_eq_true]
    cases hb : (x.memo && Q.has k s) with
    | true =>
      rw [hb] at HADD
      go_wp2
      exact bodyPost_ret (v := .tuple #[]) (by simp [results, Try.results51, go_sem]) rfl ⟨rfl, v, by rw [HADD.out, if_pos (by simp)]; exact HWT.out.keep0 hKc, hKc.mono (by simp), fun b h => .inl h⟩
    | false =>
      rw [hb] at HADD
      have HA2 : Hid (Q.addS x.memo k s = Q.put k s) := by show _ = _; rw [HADD.out, if_neg (by decide)]
      have HWc : Hid (WkT wc x k v) := HWT.out.keep0 hKc
      have hsz := hKc.size
      obtain ⟨_, _, _, _, c4, c5⟩ := HWc.out.cells
      have hnw := HWc.out.new.cell s.low (by rw [natI_len, HWc.out.ok.len]; omega)
      rw [natI_at, HNe.out] at hnw
      have b0 := hBc.cell 0; have b1 := hBc.cell 1; have b2 := hBc.cell 2; have b3 := hBc.cell 3
      have bf := hBc.frozen
      simp only [stC, List.getElem?_cons_zero, List.getElem?_cons_succ] at b0 b1 b2 b3
      have HS : Hid (BlkT (wc.setCell ⟨w.heap.size, 3, none⟩ (.int .i64 (N : Int))) w.heap.size 99 (stC { s with twin := N })) := BlkT.set hBc 3 _
      have HK2 : Hid (Keep [] w (wc.setCell ⟨w.heap.size, 3, none⟩ (.int .i64 (N : Int)))) := ⟨hKc.os, hKc.tape, hKc.output, by simp [World.setCell]; exact hKc.size, fun k hk hs => (Below.heap_setCell _ _ _ _ (by simp; omega)).trans (hKc.block k hk hs)⟩
      have nbs : w.heap.size ≠ x.bw := by omega
      have nbn : w.heap.size ≠ x.bn := by omega
      clear hKc hBc HADD
      go_wp2_with fail
      go_region
      have hWd : WkT (wc.setCell ⟨w.heap.size, 3, none⟩ (.int .i64 (N : Int))).drew x k v := HWT.out.keep0 HK2.out.drew
      have hSd : BlkT (wc.setCell ⟨w.heap.size, 3, none⟩ (.int .i64 (N : Int))).drew w.heap.size 99 (stC { s with twin := N }) := HS.out
      have hKd : Keep [] w (wc.setCell ⟨w.heap.size, 3, none⟩ (.int .i64 (N : Int))).drew := HK2.out.drew
      clear HS HK2 HWc c4 c5 hnw b0 b1 b2 b3 bf
      generalize (wc.setCell ⟨w.heap.size, 3, none⟩ (.int .i64 (N : Int))).drew = wd at *
      clear hsz
      have hsz := hKd.size
      obtain ⟨_, _, _, _, c4, c5⟩ := hWd.cells
      have b0 := hSd.cell 0; have b1 := hSd.cell 1; have b2 := hSd.cell 2; have b3 := hSd.cell 3
      simp only [stC, List.getElem?_cons_zero, List.getElem?_cons_succ] at b0 b1 b2 b3
      have hfw := hWd.blk.frozen
      have zlt := hSd.lt
      have n1 : x.bw < wd.heap.size := by omega
      have n2 : x.bn < wd.heap.size := by omega
      have n3 : x.bw ≠ wd.heap.size := by omega
      have n4 : w.heap.size ≠ wd.heap.size := by omega
      have HO2 : Hid (wd.ownsRow x.B 99 4 v k.list.length (stCells k.list)) := hWd.own
      have hBB : x.B ≤ wd.heap.size := by omega
      have HML : Hid (k.list.length + 1 ≤ maxLen) := by show _ ≤ _; unfold maxLen; omega
      obtain ⟨X, hXe⟩ : ∃ X : Obj, X = .cells #[.int .i64 (s.low : Int), .int .i64 (s.high : Int), .int .u64 (s.places : Int), .int .i64 (N : Int)] 99 := ⟨_, rfl⟩
      have HC1 : Hid ((wd.alloc X).drew.cell? ⟨x.bw, 4, none⟩ = some v) := by
        show (wd.alloc X).cell? _ = _
        rw [World.cell?_alloc_lt _ _ _ n1]
        exact c4
      have HF1 : Hid ((wd.alloc X).drew.frozen? ⟨x.bw, 4, none⟩ = false) := by
        show (wd.alloc X).frozen? _ = _
        rw [World.frozen?_alloc_past _ _ _ n1]
        exact hfw 4
      rw [hXe] at HC1 HF1
      clear hXe X
      go_wp2_with fail
      go_region_law
        ((refine step_append_lies _ (by rfl) _ _ _ (by rfl) x.B 99 i0 _ 4 32 Try.underlying70 hi0 hz0 hz1 hz2 rfl (by omega) v k.list.length (stCells k.list) (by rfl) ((HO2.out.alloc _).drew)
            ⟨wd.heap.size, 0, none⟩ 1 1 (stC { s with twin := N }) (by rfl) (by rfl) (World.news_of_block (cs := (stC { s with twin := N }).toArray) (t := 99) (fr := (0, 0)) (heap_alloc_new wd _)) (stC_one _)
            (by omega) HML.out (by omega) (by simp; omega) (wd.heap.size + 1) (by simp) ?_; intro gg cap w1 hown1 hgrow hat hlt; have hcw1 : w1.cell? ⟨x.bw, 4, none⟩ = some v := (hgrow.cell_far _ (by simp; omega) (Ne.symm HNW.out)).trans HC1.out; have hfw1 : w1.frozen? ⟨x.bw, 4, none⟩ = false := (hgrow.frozen_far _ (by simp; omega) (Ne.symm HNW.out)).trans HF1.out))
      all_goals
        obtain ⟨p1, p2, p3, p4, p5, p6, p7⟩ := put_world hWd hKd hbw hbn (fun b h => (HLB.out b h).1) hSd hgrow hat hown1
        clear hcw1 hfw1 hgrow hown1 hlt HC1 HF1 HO2
        generalize w1.setCell ⟨x.bw, 4, none⟩ (.slice (some ⟨gg, 0, none⟩) (k.list.length + 1) cap) = w2 at *
        have d4 := p1.cell 4; have d5 := p1.cell 5
        have e0 := p4.cell 0
        have f0 := Blk.frozen p3 s.low
        have e1 := p3.cell s.low (by rw [natI_len, hWd.ok.len]; omega)
        simp only [stC, List.getElem?_cons_zero, List.getElem?_cons_succ] at d4 d5 e0
        have HP1 : Hid (BlkT w2 x.bw 72 [.pointer (some ⟨x.bi, 0, none⟩), .pointer (some ⟨x.bp, 0, none⟩), .bool x.memo, .slice (some ⟨x.bl, 0, none⟩) x.n x.n, .slice (some ⟨gg, 0, none⟩) (k.list.length + 1) cap, .slice (some ⟨x.bn, 0, none⟩) (x.n + 1) (x.n + 1)]) := p1
        have HP2 : Hid (w2.ownsRow x.B 99 4 (.slice (some ⟨gg, 0, none⟩) (k.list.length + 1) cap) (k.list.length + 1) (stCells k.list ++ stC { s with twin := N })) := p2
        have HP3 : Hid (Nums .i64 w2 x.bn (natI k.newest)) := p3
        have HP5 : Hid (Keep (turnS x v) w w2) := p5
        have HOK : Hid (Q.WkOk x.n k) := hWd.ok
        have hbn2 : x.B ≤ x.bn := hWd.bn
        clear p1 p2 p3 p4 p5 hWd hKd hSd c4 c5 b0 b1 b2 b3 hfw
        go_wp2_with fail
        go_region
        all_goals
          go_wp2
          go_end0
          refine ⟨rfl, .slice (some ⟨gg, 0, none⟩) (k.list.length + 1) cap, ?_, ?_, ?_⟩
          · rw [HA2.out]
            refine ⟨HP1.out.other (by simpa using Ne.symm hwn) _, ?_, ?_, Q.put_ok HOK.out hs, by simp [Q.put]; omega, fun e => p6 (by cases e; rfl), fun e => p7 (by cases e; rfl), hwn, hBw, hbn2⟩
            · show World.ownsRow _ _ _ _ _ (k.list ++ [_]).length (stCells (k.list ++ [_]))
              rw [stCells_snoc, List.length_append, HNe.out]
              exact own_keep' HP2.out (S := [x.bn]) (((Keep.refl [x.bn] w2).setCell (by simp) _).drew) (fun b e => by cases e; simpa using p7)
            · have := Nums.set HP3.out s.low (((k.list.length + 1 : Nat)) : Int)
              rw [natI_set] at this
              exact this
          · exact (HP5.out.setCell (mem_turnS.2 (.inr (.inl rfl))) _).drew
          · intro b e
            cases e
            rcases hat with h | h
            · exact .inl h
            · exact .inr (by show w.heap.size ≤ gg; omega)
end Go.Proofs.Ytjmkkkfloalliab

namespace Go.Proofs.Ytjmkkkfloalliab
set_option linter.unusedVariables false
open Go.RowKit

/-- what a walk goes through -/
structure WE (w : World) (x : Wh) (rate h : Nat) (a : ByteArray) (P : Q.Pat) : Prop where
  idx : Idx w x.bi rate h a
  pat : PaT w x.bp P
  lon : Nums .i64 w x.bl (M.lonL (L a))
  bi : x.bi < x.B
  bp : x.bp < x.B
  bl : x.bl < x.B
  n : x.n = a.size
  hh : h ≤ a.size
  sz : a.size ≤ 1000
theorem WE.below {w w' : World} {x : Wh} {rate h : Nat} {a : ByteArray} {P : Q.Pat} (e : WE w x rate h a P) (b : Below x.B w w') : WE w' x rate h a P :=
  ⟨Blk.below e.idx b e.bi, ⟨e.pat.ok, (b.block _ e.bp).trans e.pat.blk⟩, Blk.below e.lon b e.bl, e.bi, e.bp, e.bl, e.n, e.hh, e.sz⟩
theorem Keep.belowS {w w' : World} {x : Wh} {k : Q.Wk} {v : Value} (h : Keep (turnS x v) w w') (hW : WkT w x k v) : Below x.B w w' := by
  refine h.to_below (fun b hb => ?_) (by have := hW.bw; have := hW.blk.lt; omega)
  rcases mem_turnS.1 hb with rfl | rfl | e
  · exact hW.bw
  · exact hW.bn
  · exact (own_lt' hW.own b e).2

/-- counts of the bytes from slot i to before k -/
def cI (a : List UInt8) (i k c : Nat) : Nat := Q.cntIn a i k (UInt8.ofNat c)
theorem cI_at (a : List UInt8) (i k : Nat) (c : UInt8) : cI a i k c.toNat = Q.cntIn a i k c := by unfold cI; simp
theorem cI_zero (a : List UInt8) (i : Nat) : M.tab (cI a i i) = List.replicate 256 0 := by
  rw [List.eq_replicate_iff]
  refine ⟨M.tab_length _, fun b hb => ?_⟩
  unfold M.tab at hb
  obtain ⟨c, _, rfl⟩ := List.mem_map.1 hb
  unfold cI
  rw [Q.cntIn_self]
  rfl
theorem cI_step (a : List UInt8) (i k : Nat) (hik : i ≤ k) (hk : k < a.length) : (M.tab (cI a i k)).set (a.getD k 0).toNat ((cI a i k (a.getD k 0).toNat + 1 : Nat) : Int) = M.tab (cI a i (k + 1)) := by
  refine M.tab_set _ _ _ _ ?_ ?_
  · rw [cI_at, cI_at, Q.cntIn_step a i k hik hk, if_pos rfl]
  · intro d hd hne
    unfold cI
    rw [Q.cntIn_step a i k hik hk, if_neg]
    · rfl
    · intro e
      apply hne
      rw [e]
      simp
      omega
/-- what is left of the counts at slot k -/
def cL (a : List UInt8) (i j k c : Nat) : Nat := if cI a i k c = 0 then cI a i j c else 0
theorem cL_start (a : List UInt8) (i j : Nat) : M.tab (cL a i j i) = M.tab (cI a i j) := by
  unfold M.tab
  apply List.map_congr_left
  intro c _
  unfold cL cI
  rw [Q.cntIn_self, if_pos rfl]
theorem cL_skip (a : List UInt8) (i j k : Nat) (hik : i ≤ k) (hk : k < a.length) (h : cI a i k (a.getD k 0).toNat ≠ 0) : M.tab (cL a i j (k + 1)) = M.tab (cL a i j k) := by
  unfold M.tab
  apply List.map_congr_left
  intro c hc
  have hc2 := List.mem_range.1 hc
  unfold cL
  by_cases e : c = (a.getD k 0).toNat
  · subst e
    have : cI a i (k + 1) (a.getD k 0).toNat ≠ 0 := by rw [cI_at, Q.cntIn_step a i k hik hk]; rw [cI_at] at h; omega
    rw [if_neg h, if_neg this]
  · have : cI a i (k + 1) c = cI a i k c := by
      unfold cI
      rw [Q.cntIn_step a i k hik hk, if_neg]
      · rfl
      · intro e2
        apply e
        rw [e2]
        simp
        omega
    rw [this]
theorem cL_step (a : List UInt8) (i j k : Nat) (hik : i ≤ k) (hk : k < a.length) : (M.tab (cL a i j k)).set (a.getD k 0).toNat ((0 : Nat) : Int) = M.tab (cL a i j (k + 1)) := by
  refine M.tab_set _ _ _ _ ?_ ?_
  · unfold cL
    rw [if_neg (by rw [cI_at, Q.cntIn_step a i k hik hk, if_pos rfl]; omega)]
  · intro d hd hne
    unfold cL
    have : cI a i (k + 1) d = cI a i k d := by
      unfold cI
      rw [Q.cntIn_step a i k hik hk, if_neg]
      · rfl
      · intro e2
        apply hne
        rw [e2]
        simp
        omega
    rw [this]

theorem built119 (l h p : Int) : Try.prog.built 99 [(0, .int .i64 l), (1, .int .i64 h), (2, .int .u64 p)] = some #[.int .i64 l, .int .i64 h, .int .u64 p, .int .i64 0] := by kernel_rfl

set_option maxRecDepth 10000 in
set_option maxHeartbeats 3200000 in
theorem goOn_any (x : Wh) (k : Q.Wk) (v : Value) (s : Q.St) (rate h : Nat) (a : ByteArray) (P : Q.Pat) (w : World) (hW : WkT w x k v) (hE : WE w x rate h a P) (hs : Q.StOk x.n s) (hlen : k.list.length + x.n ≤ 90000000) :
    Calls Try.prog 52 #[.pointer (some ⟨x.bw, 0, none⟩), .agg (stC s).toArray] w fun e w' => e = .returned (.tuple #[]) ∧ ∃ v', WkT w' x (Q.goOn (L a) h P x.memo s k) v' ∧ Below x.B w w' := by
  have HL : Hid ((L a).length = a.size) := size_len a
  have hbw := hW.blk.lt
  have hbn := Blk.lt hW.new
  have hBw := hW.bw
  have hBn := hW.bn
  obtain ⟨c0, c1, c2, c3, c4, c5⟩ := hW.cells
  have d1 := hE.idx.c1
  have d2 := hE.idx.c2
  have hbi := hE.bi
  have hbp := hE.bp
  have hbl := hE.bl
  have hbi2 : x.bi < w.heap.size := by omega
  have hbp2 : x.bp < w.heap.size := by omega
  have hbl2 : x.bl < w.heap.size := by omega
  have hn := hE.n
  have hh := hE.hh
  have hsz := hE.sz
  have HW : Hid (WkT w x k v) := hW
  have HE : Hid (WE w x rate h a P) := hE
  have hsl := hs.le
  have hsh := hs.high
  have hsp := hs.places
  have hto := Q.sl_le h s.high a.size hh (by omega)
  have hft := Q.sl_mono h s.low s.high hsl
  clear hW hE
  unfold stC
  have hl5 : s.low ≤ 100000 := by omega
  have hh5 : s.high ≤ 100000 := by omega
  go_enter Try.func52, Try.ntmps52
  go_wp2
  go_quiet ((go_at_call 48; exact Calls.quiet_of_same (slot_nat _ _ _ hl5)))
  have HK1 : Hid (Keep [] w ((w.alloc (.cells #[.int .i64 (s.low : Int), .int .i64 (s.high : Int), .int .u64 (s.places : Int), .int .i64 (s.twin : Int)] 99)).drewN nq)) := ((Keep.refl [] w).alloc _).drewN nq
  have HB1 : Hid (BlkT ((w.alloc (.cells #[.int .i64 (s.low : Int), .int .i64 (s.high : Int), .int .u64 (s.places : Int), .int .i64 (s.twin : Int)] 99)).drewN nq) w.heap.size 99 (stC s)) := BlkT.new w _ _
  generalize (w.alloc (.cells #[.int .i64 (s.low : Int), .int .i64 (s.high : Int), .int .u64 (s.places : Int), .int .i64 (s.twin : Int)] 99)).drewN nq = w1 at *
  clear c0 c1 c2 c3 c4 c5 d1 d2
  have hW1 := HW.out.keep0 HK1.out
  have hE1 := HE.out.below (HK1.out.to_below (by simp) (by omega))
  obtain ⟨c0, c1, c2, c3, c4, c5⟩ := hW1.cells
  have d1 := hE1.idx.c1
  have b0 := HB1.out.cell 0; have b1 := HB1.out.cell 1; have b2 := HB1.out.cell 2
  simp only [stC, List.getElem?_cons_zero, List.getElem?_cons_succ] at b0 b1 b2
  clear hW1 hE1
  go_wp2
  go_quiet ((go_at_call 48; exact Calls.quiet_of_same (slot_nat _ _ _ hh5)))
  have HK2 : Hid (Keep [] w ((w1.drewN nq).alloc (.cells Try.zeroCells93 93))) := (HK1.out.drewN nq).alloc _
  have HB2 : Hid (BlkT ((w1.drewN nq).alloc (.cells Try.zeroCells93 93)) w.heap.size 99 (stC s)) := BlkT.alloc (show BlkT (w1.drewN nq) _ _ _ from HB1.out) _
  have HC2 : Hid (Nums .i64 ((w1.drewN nq).alloc (.cells Try.zeroCells93 93)) w1.heap.size (List.replicate 256 0)) := by
    show Nums _ _ _ _
    unfold Nums
    rw [List.map_replicate, ← zero91]
    exact Blk.new _ _ _
  have hs1 := HK1.out.size
  have hs1b := HB1.out.lt
  clear c0 c1 c2 c3 c4 c5 d1 b0 b1 b2
  go_wp2
  generalize hNe : (w1.drewN nq).alloc (.cells Try.zeroCells93 93) = w2 at *
  clear hNe
  have hs2 : w1.heap.size < w2.heap.size := Blk.lt HC2.out
  have nbc1 : w1.heap.size ≠ w.heap.size := by omega
  have HGO : Hid (Q.goOn (L a) h P x.memo s k = Q.goTo (L a) h P x.memo s k (M.sl h s.high - M.sl h s.low)) := rfl
  generalize hfr : M.sl h s.low = fr at HGO hft ⊢
  generalize hto_ : M.sl h s.high = to_ at HGO hft hto ⊢
  have HFR : Hid (M.sl h s.low = fr) := hfr
  have HTO : Hid (M.sl h s.high = to_) := hto_
  clear hfr hto_
  go_loopw [7] (fun i wr => ∃ j : Nat, fr ≤ j ∧ j ≤ to_ ∧ i = .int .i64 j ∧ Nums .i64 wr w1.heap.size (M.tab (cI (L a) fr j)) ∧ Keep [w1.heap.size] w2 wr) (fun i _ => to_ - (intOf i).toNat)
  case atStart => exact ⟨fr, Nat.le_refl _, hft, rfl, by rw [cI_zero]; exact HC2.out, Keep.refl _ _⟩
  case round =>
    obtain ⟨j, hj1, hj2, rfl, hNj, hKj⟩ := hrel
    have hKw : Keep [] w wr := HK2.out.trans2 hKj (by simp; omega)
    have hWr := HW.out.keep0 hKw
    have hEr := HE.out.below (hKw.to_below (by simp) (by omega))
    obtain ⟨c0, c1, c2, c3, c4, c5⟩ := hWr.cells
    have d2 := hEr.idx.c2
    by_cases hlt : j < to_
    · have hja : j < a.size := by omega
      have hby := getD_lt (L a) j
      have hc := hNj.cell ((L a).getD j 0).toNat (by rw [M.tab_length]; omega)
      rw [M.tab_at _ _ (by omega)] at hc
      have hcl : cI (L a) fr j ((L a).getD j 0).toNat ≤ 1000 := by rw [cI_at]; have := Q.cntIn_le (L a) fr j ((L a).getD j 0); rw [HL.out] at this; omega
      have hfz := Blk.frozen hNj ((L a).getD j 0).toNat
      have HST : Hid _ := cI_step (L a) fr j hj1 (by rw [HL.out]; exact hja)
      have HBY : Hid (a[j] = (L a).getD j 0) := byte_at a j hja
      rw [← byte_at a j hja] at hby hc hfz hcl HST
      have HNj : Hid (Nums .i64 wr w1.heap.size (M.tab (cI (L a) fr j))) := hNj
      have HKj : Hid (Keep [w1.heap.size] w2 wr) := hKj
      clear hNj hKj hKw hWr hEr
      go_wp2
      go_roundw
      case rel =>
        refine ⟨j + 1, by omega, by omega, by go_num, ?_, HKj.out.setCell (by simp) _⟩
        rw [← HST.out]
        exact HNj.out.set _ _
      case measure => simp [intOf]; omega
    · obtain rfl : j = to_ := by omega
      have HNj : Hid (Nums .i64 wr w1.heap.size (M.tab (cL (L a) fr j fr))) := by show Nums _ _ _ _; rw [cL_start]; exact hNj
      have HKw : Hid (Keep [] w wr) := hKw
      have HBr : Hid (BlkT wr w.heap.size 99 (stC s)) := HB2.out.keep hKj (by simp; omega)
      have hszr := hKj.size
      clear hNj hKj hKw hWr hEr c0 c1 c2 c3 c4 c5 d2 hj1 hj2 hlt
      go_wp2
      generalize hwr3 : wr = w3 at *
      clear hwr3
      go_loopw [9] (fun i wr => ∃ (m : Nat) (vv : Value), fr ≤ m ∧ m ≤ j ∧ i = .int .i64 (m : Int) ∧ WkT wr x (Q.goTo (L a) h P x.memo s k (m - fr)) vv ∧ Keep (turnS x v) w wr ∧ (∀ b, vv.ownBlock = some b → v.ownBlock = some b ∨ w3.heap.size ≤ b) ∧
        Nums .i64 wr w1.heap.size (M.tab (cL (L a) fr j m)) ∧ BlkT wr w.heap.size 99 (stC s) ∧ w3.heap.size ≤ wr.heap.size) (fun i _ => j - (intOf i).toNat)
      case atStart => exact ⟨fr, v, Nat.le_refl _, hft, rfl, by rw [Nat.sub_self]; exact HW.out.keep0 HKw.out, HKw.out.mono (by simp), fun b hb => .inl hb, HNj.out, HBr.out, Nat.le_refl _⟩
      case round =>
        clear HNj HBr
        obtain ⟨m, vv, hd0, hd, rfl, hWr, hKr, hvv, hNr, hBr, hs4⟩ := hrel
        have hBx := hKr.belowS HW.out
        have hEr := HE.out.below hBx
        obtain ⟨c0, c1, c2, c3, c4, c5⟩ := hWr.cells
        have d2 := hEr.idx.c2
        by_cases hlt : m < j
        · have hja : m < a.size := by omega
          have hby := getD_lt (L a) (m)
          have hc := hNr.cell ((L a).getD (m) 0).toNat (by rw [M.tab_length]; omega)
          rw [M.tab_at _ _ (by omega)] at hc
          have hfz := Blk.frozen hNr ((L a).getD (m) 0).toNat
          have HBY : Hid (a[m] = (L a).getD (m) 0) := byte_at a (m) hja
          have hkl : m < (L a).length := by rw [HL.out]; exact hja
          have HNr : Hid (Nums .i64 wr w1.heap.size (M.tab (cL (L a) fr j (m)))) := hNr
          have HWr : Hid (WkT wr x (Q.goTo (L a) h P x.memo s k (m - fr)) vv) := hWr
          have HKr : Hid (Keep (turnS x v) w wr) := hKr
          have HVV : Hid (∀ b, vv.ownBlock = some b → v.ownBlock = some b ∨ w3.heap.size ≤ b) := hvv
          have HBr : Hid (BlkT wr w.heap.size 99 (stC s)) := hBr
          have HEr : Hid (WE wr x rate h a P) := hEr
          have hgl := (Q.goTo_len (a := L a) (h := h) (P := P) (memo := x.memo) s k (m - fr)).2
          have HG1 : Hid (Q.goTo (L a) h P x.memo s k (m + 1 - fr) = Q.oneOn (L a) h P x.memo s (m) (Q.goTo (L a) h P x.memo s k (m - fr))) := by
            show _ = _
            have e : Q.goTo (L a) h P x.memo s k ((m - fr) + 1) = Q.oneOn (L a) h P x.memo s (M.sl h s.low + (m - fr)) (Q.goTo (L a) h P x.memo s k (m - fr)) := rfl
            rw [show m + 1 - fr = (m - fr) + 1 by omega, e, HFR.out, show fr + (m - fr) = m by omega]
          have hcle : cI (L a) fr j ((L a).getD (m) 0).toNat ≤ 1000 := by rw [cI_at]; have := Q.cntIn_le (L a) fr j ((L a).getD (m) 0); rw [HL.out] at this; omega
          by_cases hz : cI (L a) fr (m) ((L a).getD (m) 0).toNat = 0
          · have hcv : cL (L a) fr j (m) ((L a).getD (m) 0).toNat = cI (L a) fr j ((L a).getD (m) 0).toNat := by unfold cL; rw [if_pos hz]
            rw [hcv] at hc
            have hpos : 0 < cI (L a) fr j ((L a).getD (m) 0).toNat := by
              rw [cI_at]
              have e1 := Q.take_cnt (L a) fr j (by omega) ((L a).getD (m) 0)
              have e2 := Q.take_cnt (L a) fr (m + 1) (by omega) ((L a).getD (m) 0)
              have e3 := Q.cntIn_step (L a) fr (m) (by omega) hkl ((L a).getD (m) 0)
              rw [if_pos rfl] at e3
              have e4 : ((L a).take (m + 1)).countP (fun y => y == (L a).getD (m) 0) ≤ ((L a).take j).countP (fun y => y == (L a).getD (m) 0) := by
                refine List.Sublist.countP_le ?_
                have : (L a).take (m + 1) = ((L a).take j).take (m + 1) := by rw [List.take_take, Nat.min_eq_left (by omega)]
                rw [this]
                exact List.take_sublist _ _
              omega
            have HST : Hid _ := cL_step (L a) fr j (m) (by omega) hkl
            have HZ : Hid (Q.cntIn (L a) fr (m) ((L a).getD (m) 0) = 0) := by show _ = _; rw [← cI_at]; exact hz
            have HSZ : Hid (cI (L a) fr j ((L a).getD (m) 0).toNat = Q.cntIn (L a) fr j ((L a).getD (m) 0)) := cI_at _ _ _ _
            have hroom := Q.LF_room (L a) fr j (m) (by omega) hlt (by rw [HL.out]; omega) HZ.out
            rw [HL.out, ← HSZ.out] at hroom
            have hahl := Q.aheadOf_lt HEr.out.pat.ok s.places ((L a).getD m 0).toNat
            have HONE : Hid (Q.oneOn (L a) h P x.memo s m (Q.goTo (L a) h P x.memo s k (m - fr)) = if Q.aheadOf P s.places ((L a).getD m 0).toNat ≠ 0 then Q.addS x.memo (Q.goTo (L a) h P x.memo s k (m - fr)) ⟨M.LF (L a) m, M.LF (L a) m + cI (L a) fr j ((L a).getD m 0).toNat, Q.aheadOf P s.places ((L a).getD m 0).toNat, 0⟩ else Q.goTo (L a) h P x.memo s k (m - fr)) := by
              show _ = _
              unfold Q.oneOn
              rw [HFR.out, HTO.out, HSZ.out, HZ.out]
              simp
            have hlo := HEr.out.lon.cell m (by rw [M.lonL_length]; exact hkl)
            rw [M.lonL_at _ _ hkl] at hlo
            have b2 := hBr.cell 2
            simp only [stC, List.getElem?_cons_zero, List.getElem?_cons_succ] at b2
            have hlfle : M.LF (L a) m ≤ a.size := by have := M.LF_le (L a) m hkl; rw [HL.out] at this; exact this
            rw [← byte_at a m hja] at hby hc hfz hcle hpos HST HSZ hroom hahl HONE
            have HPT : Hid (PaT wr x.bp P) := hEr.pat
            have hal : m < x.n := by omega
            have h256 : (a[m].toNat : Int) < 256 := by omega
            have hnew : ∀ u, PaT (wr.setCell ⟨w1.heap.size, a[m].toNat, none⟩ u) x.bp P := fun u => HPT.out.other (by simp; omega) u
            have HNEW : Hid (∀ u, PaT (wr.setCell ⟨w1.heap.size, a[m].toNat, none⟩ u) x.bp P) := hnew
            have n1 : w1.heap.size ≠ x.bw := by omega
            have n2 : w1.heap.size ≠ x.bl := by omega
            have n3 : w1.heap.size ≠ w.heap.size := by omega
            generalize hSZ : cI (L a) fr j a[m].toNat = SZ at *
            generalize hPL : Q.aheadOf P s.places a[m].toNat = PL at *
            have hPL49 : PL < 2 ^ 49 := Q.lt64 HPT.out.ok hahl
            have hnzS : ((SZ : Int) == 0) = false := by simp; omega
            clear hnew hNr hWr hKr hvv hBr hEr hz hahl
            go_wp2_with fail
            have hKs : Keep [w1.heap.size] wr (wr.setCell ⟨w1.heap.size, a[m].toNat, none⟩ (.int .i64 0)) := (Keep.refl _ _).setCell (by simp) _
            have own1 : ∀ b, vv.ownBlock = some b → b ∉ [w1.heap.size] := fun b hb hm => by
              have e := List.mem_singleton.1 hm
              subst e
              rcases HVV.out _ hb with h | h
              · have := (own_lt' HW.out.own _ h).1; omega
              · omega
            have hW4 := HWr.out.keep hKs (by simp; omega) (by simp; omega) own1
            have hE4 := HEr.out.below (hKs.to_below (B := x.B) (by simp; omega) (by omega))
            have hB4 := HBr.out.keep hKs (by simp; omega)
            have hN4 : Nums .i64 (wr.setCell ⟨w1.heap.size, a[m].toNat, none⟩ (.int .i64 0)) w1.heap.size (M.tab (cL (L a) fr j (m + 1))) := by
              rw [← HST.out]
              exact HNr.out.set _ _
            have hK4 : Keep (turnS x v) w (wr.setCell ⟨w1.heap.size, a[m].toNat, none⟩ (.int .i64 0)) := HKr.out.setNew (by simp; omega) _
            have hs5 : wr.heap.size ≤ (wr.setCell ⟨w1.heap.size, a[m].toNat, none⟩ (.int .i64 0)).heap.size := by simp
            clear hKs own1 c0 c1 c2 c3 c4 c5 d2 hc hfz hlo b2 HNEW HPT HNr HWr HKr HBr HEr HST
            generalize wr.setCell ⟨w1.heap.size, a[m].toNat, none⟩ (.int .i64 0) = w4 at *
            obtain ⟨c0, c1, c2, c3, c4, c5⟩ := hW4.cells
            have b2 := hB4.cell 2
            simp only [stC, List.getElem?_cons_zero, List.getElem?_cons_succ] at b2
            have hlo := hE4.lon.cell m (by rw [M.lonL_length]; exact hkl)
            rw [M.lonL_at _ _ hkl] at hlo
            have HP4 : Hid (PaT w4 x.bp P) := hE4.pat
            have HAH : Hid (∀ q, Calls Try.prog 67 #[.pointer (some ⟨x.bp, 0, none⟩), .int .u64 (s.places : Int), .int .u8 (a[m].toNat : Int)] (w4.drewN q) fun e w' => e = .returned (.int .u64 ((PL : Nat) : Int)) ∧ w' = (w4.drewN q)) := fun q => by
              rw [← hPL]
              exact Ahead_any x.bp P s.places a[m] _ (HP4.out.drewN q) hsp
            have HW4 : Hid (WkT w4 x (Q.goTo (L a) h P x.memo s k (m - fr)) vv) := hW4
            have HB4 : Hid (BlkT w4 w.heap.size 99 (stC s)) := hB4
            have HN4 : Hid (Nums .i64 w4 w1.heap.size (M.tab (cL (L a) fr j (m + 1)))) := hN4
            have HK4 : Hid (Keep (turnS x v) w w4) := hK4
            clear hW4 hB4 hN4 hK4 hE4 HBY HSZ HZ
            go_quiet ((go_at_call 67; exact Calls.quiet_of_same (HAH.out _)))
            by_cases hpl : PL = 0
            · have HO1 : Hid (Q.goTo (L a) h P x.memo s k (m + 1 - fr) = Q.goTo (L a) h P x.memo s k (m - fr)) := by show _ = _; rw [HG1.out, HONE.out, if_neg (by simp [hpl])]
              have hp0 : ((PL : Int) != 0) = false := by rw [hpl]; rfl
              go_wp2
              go_roundw
              case rel => exact ⟨m + 1, vv, by omega, by omega, by go_num, by rw [HO1.out]; exact HW4.out.keep0 ((Keep.refl [] w4).drewN _), HK4.out.drewN _, HVV.out, HN4.out, HB4.out, by show w3.heap.size ≤ w4.heap.size; omega⟩
              case measure => simp [intOf]; omega
            · have HO1 : Hid (Q.goTo (L a) h P x.memo s k (m + 1 - fr) = Q.addS x.memo (Q.goTo (L a) h P x.memo s k (m - fr)) ⟨M.LF (L a) m, M.LF (L a) m + SZ, PL, 0⟩) := by show _ = _; rw [HG1.out, HONE.out, if_pos (by simp [hpl])]
              have hp0 : ((PL : Int) != 0) = true := by simp; omega
              have HWq : ∀ q, Hid (WkT (w4.drewN q) x (Q.goTo (L a) h P x.memo s k (m - fr)) vv) := fun q => HW4.out.keep0 ((Keep.refl [] w4).drewN q)
              have HSO : Hid (Q.StOk x.n ⟨M.LF (L a) m, M.LF (L a) m + SZ, PL, 0⟩) := ⟨by show M.LF (L a) m ≤ M.LF (L a) m + SZ; omega, by show M.LF (L a) m + SZ ≤ x.n + 1; omega, hPL49⟩
              have hlen3 : (Q.goTo (L a) h P x.memo s k (m - fr)).list.length + 1 ≤ 100000000 := by omega
              have hlow3 : M.LF (L a) m ≤ x.n := by omega
              have i1 : (m : Int) < (x.n : Int) := by omega
              go_wp2_with (go_at_call 51; refine (wadd_any x _ vv ⟨M.LF (L a) m, M.LF (L a) m + SZ, PL, 0⟩ _ (HWq _).out HSO.out hlow3 (by omega) hlen3).mono ?_; rintro e w6 ⟨rfl, v6, hW6, hK6, hv6⟩)
              go_roundw
              case rel =>
                have bcN : w1.heap.size ∉ turnS x vv := fun hm => by
                  rcases mem_turnS.1 hm with e | e | e
                  · omega
                  · omega
                  · rcases HVV.out _ e with h | h
                    · have := (own_lt' HW.out.own _ h).1; omega
                    · omega
                have bsN : w.heap.size ∉ turnS x vv := fun hm => by
                  rcases mem_turnS.1 hm with e | e | e
                  · omega
                  · omega
                  · rcases HVV.out _ e with h | h
                    · have := (own_lt' HW.out.own _ h).1; omega
                    · omega
                have hsz6 : w4.heap.size ≤ w6.heap.size := hK6.size
                refine ⟨m + 1, v6, by omega, by omega, by go_num, by rw [HO1.out]; exact hW6, (HK4.out.drewN _).trans2 hK6 (fun b hb hnb => ?_), fun b hb => ?_, Blk.of_heap HN4.out (hK6.block _ (by show w1.heap.size < w4.heap.size; omega) bcN), BlkT.keep (show BlkT (w4.drewN _) _ _ _ from HB4.out) hK6 bsN, by omega⟩
                · rcases mem_turnS.1 hb with e | e | e
                  · exact absurd (mem_turnS.2 (.inl e)) hnb
                  · exact absurd (mem_turnS.2 (.inr (.inl e))) hnb
                  · rcases HVV.out _ e with h | h
                    · exact absurd (mem_turnS.2 (.inr (.inr h))) hnb
                    · omega
                · rcases hv6 b hb with h | h
                  · exact HVV.out b h
                  · exact .inr (by have h7 : w4.heap.size ≤ b := h; omega)
              case measure => simp [intOf]; omega
          · have hcv : cL (L a) fr j m ((L a).getD m 0).toNat = 0 := by unfold cL; rw [if_neg hz]
            rw [hcv] at hc
            have HSK := cL_skip (L a) fr j m hd0 hkl hz
            have HO1 : Hid (Q.goTo (L a) h P x.memo s k (m + 1 - fr) = Q.goTo (L a) h P x.memo s k (m - fr)) := by
              show _ = _
              rw [HG1.out]
              unfold Q.oneOn
              rw [HFR.out, if_neg (fun hh => hz (by rw [cI_at]; exact hh.1))]
            rw [← byte_at a m hja] at hby hc hfz
            have h256 : (a[m].toNat : Int) < 256 := by omega
            have HSKh : Hid (M.tab (cL (L a) fr j (m + 1)) = M.tab (cL (L a) fr j m)) := HSK
            clear hNr hWr hKr hvv hBr hEr hz HSK hcle hcv HG1
            go_wp2
            go_roundw
            case rel => exact ⟨m + 1, vv, by omega, by omega, by go_num, by rw [HO1.out]; exact HWr.out, HKr.out, HVV.out, by rw [HSKh.out]; exact HNr.out, HBr.out, hs4⟩
            case measure => simp [intOf]; omega
        · obtain rfl : m = j := by omega
          go_wp2
          go_end0
          exact ⟨rfl, vv, by rw [HGO.out]; exact hWr, hBx⟩
end Go.Proofs.Ytjmkkkfloalliab

namespace Go.Proofs.Ytjmkkkfloalliab
set_option linter.unusedVariables false
open Go.RowKit

theorem goOn_len (a : List UInt8) (h : Nat) (P : Q.Pat) (memo : Bool) (s : Q.St) (w : Q.Wk) (hh : h ≤ a.length) (hs : s.high ≤ a.length + 1) : (Q.goOn a h P memo s w).list.length ≤ w.list.length + a.length := by
  have := (Q.goTo_len (a := a) (h := h) (P := P) (memo := memo) s w (M.sl h s.high - M.sl h s.low)).2
  have h2 := Q.sl_le h s.high a.length hh hs
  unfold Q.goOn
  omega

set_option maxRecDepth 10000 in
set_option maxHeartbeats 3200000 in
theorem run_any (x : Wh) (v : Value) (rate h : Nat) (a : ByteArray) (P : Q.Pat) (budget : Nat) (w : World) (hW : WkT w x ⟨[], List.replicate (a.size + 1) 0⟩ v) (hE : WE w x rate h a P) (hb : budget ≤ 1048576) :
    Calls Try.prog 34 #[.pointer (some ⟨x.bw, 0, none⟩), .int .i64 (budget : Int)] w fun e w' => e = .returned (.bool (decide ((Q.runAll (L a) h P x.memo budget).list.length ≤ budget))) ∧ (∃ v', WkT w' x (Q.runAll (L a) h P x.memo budget) v') ∧ Below x.B w w' := by
  have HL : Hid ((L a).length = a.size) := size_len a
  obtain ⟨c0, c1, c2, c3, c4, c5⟩ := hW.cells
  have d2 := hE.idx.c2
  have hn := hE.n
  have hsz := hE.sz
  have hbw := hW.blk.lt
  have hBw := hW.bw
  have hbi : x.bi < w.heap.size := by have := hE.bi; omega
  have HW : Hid (WkT w x ⟨[], List.replicate (a.size + 1) 0⟩ v) := hW
  have HE : Hid (WE w x rate h a P) := hE
  have HSO : Hid (Q.StOk x.n ⟨0, a.size + 1, 1, 0⟩) := ⟨Nat.zero_le _, by rw [hn]; exact Nat.le_refl _, by show 1 < 2 ^ 49; decide⟩
  have HW0 : Hid (Q.addS x.memo ⟨[], List.replicate (a.size + 1) 0⟩ ⟨0, a.size + 1, 1, 0⟩ = Q.wk0 (L a) x.memo) := by show _ = _; unfold Q.wk0; rw [HL.out]
  obtain ⟨X, hX⟩ : ∃ X, Q.runAll (L a) h P x.memo budget = X := ⟨_, rfl⟩
  rw [hX]
  have HX : Hid (Q.run (L a) h P x.memo budget (budget + 1) 0 (Q.wk0 (L a) x.memo) = X) := hX
  have hx0 : x.n ≤ 1000 := by omega
  have hlen0 : ([] : List Q.St).length + 1 ≤ 100000000 := by decide
  clear hW hE hX
  go_enter Try.func34, Try.ntmps34
  go_wp2_with (go_at_call 51; refine (wadd_any x _ v ⟨0, a.size + 1, 1, 0⟩ _ HW.out HSO.out (Nat.zero_le _) hx0 hlen0).mono ?_; rintro e w1 ⟨rfl, v1, hW1, hK1, hv1⟩)
  have hB1 := hK1.belowS HW.out
  rw [HW0.out] at hW1
  have hwl : (Q.wk0 (L a) x.memo).list.length ≤ 1 := by
    unfold Q.wk0
    exact (Q.addS_len _ _ _).2
  clear c0 c1 c2 c3 c4 c5 d2 hK1 hv1
  go_loopg [6] (budget + 1) (fun f i wr => ∃ (j : Nat) (K : Q.Wk) (vv : Value), i = .int .i64 j ∧ j + f = budget + 1 ∧ WkT wr x K vv ∧ K.list.length ≤ budget + 1 + x.n ∧ Hid (Q.run (L a) h P x.memo budget f j K = X) ∧ Below x.B w wr)
  case atStart => exact ⟨0, _, v1, rfl, by omega, hW1, by omega, HX, hB1⟩
  case round =>
    clear hW1 hB1 HX hwl
    obtain ⟨j, K, vv, rfl, hjf, hWr, hKl, HXr, hBr⟩ := hrel
    have hEr := HE.out.below hBr
    obtain ⟨c0, c1, c2, c3, c4, c5⟩ := hWr.cells
    obtain ⟨lv, cv, hvv⟩ : ∃ a c, vv = .slice a K.list.length c := by
      obtain ⟨_, ⟨e1, e2⟩ | ⟨g, cap, cur, e1, _⟩⟩ := hWr.own
      · exact ⟨none, 0, by rw [e1, e2]⟩
      · exact ⟨_, cap, e1⟩
    by_cases h1 : j < K.list.length
    · by_cases h2 : K.list.length ≤ budget
      · obtain ⟨f1, rfl⟩ : ∃ f1, gk = f1 + 1 := ⟨gk - 1, by omega⟩
        have HX1 : Hid (Q.run (L a) h P x.memo budget f1 (j + 1) (Q.goOn (L a) h P x.memo (Q.stAt K.list j) K) = X) := by
          have := HXr.out
          unfold Q.run at this
          rw [if_pos ⟨h1, h2⟩] at this
          exact this
        obtain ⟨g, cap, hv2, hcap, r0, r1, r2, r3, hg⟩ := hWr.row j h1
        have hst := (hWr.ok.st j h1).1
        have HGO := goOn_any x K vv (Q.stAt K.list j) rate h a P
        have hgl := goOn_len (L a) h P x.memo (Q.stAt K.list j) K (by rw [HL.out]; exact hEr.hh) (by rw [HL.out, ← hn]; exact hst.high)
        rw [HL.out] at hgl
        subst hv2
        have hd1 : decide ((j : Int) < (K.list.length : Int)) = true := by simp; omega
        have hd2 : decide ((K.list.length : Int) ≤ (budget : Int)) = true := by simp; omega
        have HWr : Hid (WkT wr x K (.slice (some ⟨g, 0, none⟩) K.list.length cap)) := hWr
        have HEr : Hid (WE wr x rate h a P) := hEr
        have HST : Hid (Q.StOk x.n (Q.stAt K.list j)) := hst
        have HCA : Hid (∀ wz, Keep [] wr wz → Calls Try.prog 52 #[.pointer (some ⟨x.bw, 0, none⟩), .agg (stC (Q.stAt K.list j)).toArray] wz fun e w' => e = .returned (.tuple #[]) ∧ ∃ v', WkT w' x (Q.goOn (L a) h P x.memo (Q.stAt K.list j) K) v' ∧ Below x.B wz w') := fun wz hk =>
          HGO wz (HWr.out.keep0 hk) (HEr.out.below (hk.to_below (by simp) (by have := HWr.out.blk.lt; omega))) HST.out (by omega)
        have hbwr := HWr.out.blk.lt
        have nbw : x.bw ≠ wr.heap.size := by omega
        have ng : g ≠ wr.heap.size := by omega
        clear hWr hEr hst HGO
        generalize Q.stAt K.list j = st at *
        unfold stC at HCA
        go_wp2_with (go_at_call 52; refine (HCA.out _ ((Keep.refl [] wr).alloc _)).mono ?_; rintro e w5 ⟨rfl, v5, hW5, hB5⟩)
        go_roundg f1
        case measure => omega
        case rel => exact ⟨j + 1, _, v5, by go_num, by omega, hW5, by omega, HX1, (hBr.alloc (by omega) _).trans hB5⟩
      · have HXE : Hid (X = K) := by
          have := HXr.out
          cases gk with
          | zero => exact this.symm
          | succ f1 =>
            unfold Q.run at this
            rw [if_neg (fun hh => h2 hh.2)] at this
            exact this.symm
        subst hvv
        have hd1 : decide ((j : Int) < (K.list.length : Int)) = true := by simp; omega
        have hd2 : decide ((K.list.length : Int) ≤ (budget : Int)) = false := by simp; omega
        have hd3 : decide (K.list.length ≤ budget) = false := by simp; omega
        go_wp2
        go_ret
        exact ⟨by rw [HXE.out, hd3]; rfl, ⟨_, by rw [HXE.out]; exact hWr⟩, hBr⟩
    · have HXE : Hid (X = K) := by
        have := HXr.out
        cases gk with
        | zero => exact this.symm
        | succ f1 =>
          unfold Q.run at this
          rw [if_neg (fun hh => h1 hh.1)] at this
          exact this.symm
      subst hvv
      have hd1 : decide ((j : Int) < (K.list.length : Int)) = false := by simp; omega
      go_wp2
      go_ret
      exact ⟨ret_b (by rw [HXE.out]), ⟨_, by rw [HXE.out]; exact hWr⟩, hBr⟩
end Go.Proofs.Ytjmkkkfloalliab

namespace Go.Proofs.Ytjmkkkfloalliab
set_option linter.unusedVariables false
open Go.RowKit

def bools (l : List Bool) : List Value := l.map Value.bool
/-- a row of marks -/
def Marks (w : World) (b : Nat) (l : List Bool) : Prop := Blk w b (bools l)
theorem Marks.cell {w : World} {b : Nat} {l : List Bool} (h : Marks w b l) (i : Nat) (hi : i < l.length) : w.cell? ⟨b, i, none⟩ = some (.bool (l.getD i false)) := by
  rw [Blk.cell h i (by simpa [bools] using hi)]
  simp [bools, List.getElem?_eq_getElem hi]
theorem Marks.set {w : World} {b : Nat} {l : List Bool} (h : Marks w b l) (i : Nat) (v : Bool) : Marks (w.setCell ⟨b, i, none⟩ (.bool v)) b (l.set i v) := by
  have := Blk.set h i (.bool v)
  unfold Marks bools
  rw [List.map_set]
  exact this
/-- rows from low to before r are marked, too -/
def plus (l : List Bool) (low r : Nat) : List Bool := (List.range l.length).map fun i => l.getD i false || (decide (low ≤ i) && decide (i < r))
theorem plus_len (l : List Bool) (low r : Nat) : (plus l low r).length = l.length := by simp [plus]
theorem plus_self (l : List Bool) (low : Nat) : plus l low low = l := by
  apply List.ext_getElem?
  intro j
  rcases Nat.lt_or_ge j l.length with hj | hj
  · have : (decide (low ≤ j) && decide (j < low)) = false := by simp
    simp [plus, hj, this]
  · rw [List.getElem?_eq_none (by rw [plus_len]; exact hj), List.getElem?_eq_none hj]
theorem plus_step (l : List Bool) (low r : Nat) (h : low ≤ r) (hr : r < l.length) : (plus l low r).set r true = plus l low (r + 1) := by
  apply List.ext_getElem?
  intro j
  rw [List.getElem?_set]
  rcases Nat.lt_or_ge j l.length with hj | hj
  · by_cases e : r = j
    · subst e
      simp [plus, hj, h]
    · rw [if_neg e]
      simp only [plus, List.getElem?_map, List.getElem?_range hj, Option.map_some]
      by_cases h2 : j < r
      · simp [h2, show j < r + 1 by omega]
      · simp [h2, show ¬ j < r + 1 by omega]
  · rw [List.getElem?_eq_none (show (plus l low (r + 1)).length ≤ j by rw [plus_len]; exact hj), if_neg (by omega), List.getElem?_eq_none (by rw [plus_len]; exact hj)]
theorem marks_len (P : Q.Pat) (l : List Q.St) (n k : Nat) : (Q.marks P l n k).length = n + 1 := by simp [Q.marks]
theorem marks_zero (P : Q.Pat) (l : List Q.St) (n : Nat) : Q.marks P l n 0 = List.replicate (n + 1) false := by
  rw [List.eq_replicate_iff]
  refine ⟨marks_len _ _ _ _, fun b hb => ?_⟩
  unfold Q.marks at hb
  obtain ⟨c, _, rfl⟩ := List.mem_map.1 hb
  rfl
theorem marks_at (P : Q.Pat) (l : List Q.St) (n k i : Nat) (hi : i < n + 1) : (Q.marks P l n k).getD i false = Q.mark P l k i := by
  unfold Q.marks
  rw [List.getD_eq_getElem?_getD, List.getElem?_map, List.getElem?_range hi]
  rfl
theorem marks_step (P : Q.Pat) (l : List Q.St) (n k : Nat) : Q.marks P l n (k + 1) = if ((Q.stAt l k).places &&& P.begins != 0) = true then plus (Q.marks P l n k) (Q.stAt l k).low (Q.stAt l k).high else Q.marks P l n k := by
  split
  · next h =>
    unfold plus
    rw [marks_len]
    conv => lhs; unfold Q.marks
    apply List.map_congr_left
    intro i hi
    rw [marks_at _ _ _ _ _ (List.mem_range.1 hi)]
    conv => lhs; unfold Q.mark
    rw [h, Bool.true_and]
  · next h =>
    unfold Q.marks
    apply List.map_congr_left
    intro i hi
    conv => lhs; unfold Q.mark
    have : ((Q.stAt l k).places &&& P.begins != 0) = false := by simpa using h
    rw [this, Bool.false_and, Bool.or_false]
/-- how many of the first r are marked -/
def cntT (l : List Bool) (r : Nat) : Nat := (l.take r).countP id
theorem cntT_succ (l : List Bool) (r : Nat) (h : r < l.length) : cntT l (r + 1) = cntT l r + if l.getD r false = true then 1 else 0 := by
  unfold cntT
  rw [List.take_succ_eq_append_getElem h, List.countP_append, List.getD_eq_getElem?_getD, List.getElem?_eq_getElem h]
  simp
theorem cntT_le (l : List Bool) (r : Nat) : cntT l r ≤ l.length := Nat.le_trans List.countP_le_length (List.length_take_le' _ _)
/-- what is laid out behind the first p places -/
def laidTo (m : List Bool) (rows : List Nat) (c p : Nat) : List Nat := (Q.placed m rows p).take c ++ List.replicate (c - (Q.placed m rows p).length) 0
theorem placed_succ (m : List Bool) (rows : List Nat) (p : Nat) : Q.placed m rows (p + 1) = Q.placed m rows p ++ if m.getD (rows.getD p 0) false = true then [p] else [] := by
  unfold Q.placed
  rw [List.range_succ, List.filter_append]
  congr 1
  simp only [List.filter_cons, List.filter_nil]
theorem laidTo_zero (m : List Bool) (rows : List Nat) (c : Nat) : laidTo m rows c 0 = List.replicate c 0 := by
  unfold laidTo Q.placed
  simp
theorem laidTo_len (m : List Bool) (rows : List Nat) (c p : Nat) : (laidTo m rows c p).length = c := by
  unfold laidTo
  simp
  omega
theorem laidTo_skip (m : List Bool) (rows : List Nat) (c p : Nat) (h : m.getD (rows.getD p 0) false = false ∨ c ≤ (Q.placed m rows p).length) : laidTo m rows c (p + 1) = laidTo m rows c p ∧ min (Q.placed m rows (p + 1)).length c = min (Q.placed m rows p).length c := by
  unfold laidTo
  rw [placed_succ]
  by_cases hm : m.getD (rows.getD p 0) false = true
  · rcases h with h | h
    · rw [hm] at h; cases h
    · rw [if_pos hm]
      refine ⟨?_, ?_⟩
      · rw [List.take_append_of_le_length h, List.length_append]
        congr 2
        simp
        omega
      · rw [List.length_append]; simp; omega
  · rw [if_neg hm, List.append_nil]
    exact ⟨rfl, rfl⟩
theorem laidTo_set (m : List Bool) (rows : List Nat) (c p : Nat) (hm : m.getD (rows.getD p 0) false = true) (hc : (Q.placed m rows p).length < c) : (laidTo m rows c p).set (Q.placed m rows p).length p = laidTo m rows c (p + 1) ∧ (Q.placed m rows (p + 1)).length = (Q.placed m rows p).length + 1 := by
  unfold laidTo
  rw [placed_succ, if_pos hm]
  refine ⟨?_, by simp⟩
  rw [List.take_of_length_le (by omega), List.take_of_length_le (by simp; omega), List.set_append_right _ _ (Nat.le_refl _), Nat.sub_self, List.length_append]
  have : c - (Q.placed m rows p).length = (c - ((Q.placed m rows p).length + [p].length)) + 1 := by simp; omega
  rw [this, List.replicate_succ, List.set_cons_zero, List.append_assoc]
  rfl

theorem make_bools (l : Int) (n : Nat) (hl : l = n) (hn : n ≤ 1000000000) (w : World) :
    Sem.run Try.prog (Instr.makeSlice 100 (.int .i64 l) (.int .i64 l)) w = .ok (.slice (some ⟨w.heap.size, 0, none⟩) n n) (w.alloc (.cells (zeroRow (.bool false) n) 4)) := by
  obtain ⟨i, hi, h0, h1, h2⟩ := info_parts (show (Try.prog.info? 4).map (fun i => (i.zero, i.size, i.bytes)) = some (some (.bool false), 1, 1) by kernel_rfl)
  exact run_make_row 100 4 i (.bool false) Try.underlying100 hi h0 h1 rfl (by omega) l n hl hn w
theorem Marks.new (w : World) (n : Nat) (T : TypeId) : Marks (w.alloc (.cells (zeroRow (.bool false) n) T)) w.heap.size (List.replicate n false) := by
  have := Blk.new w (zeroRow (.bool false) n) T
  rw [zeroRow_toList] at this
  unfold Marks bools
  rw [List.map_replicate]
  exact this
end Go.Proofs.Ytjmkkkfloalliab

namespace Go.Proofs.Ytjmkkkfloalliab
set_option linter.unusedVariables false
open Go.RowKit

theorem hid' {p : Prop} (h : p) : Hid p := h
/-- what is found -/
def Q.found (P : Q.Pat) (a : List UInt8) (h : Nat) (k : Q.Wk) : List Nat :=
  laidTo (Q.marks P k.list a.length k.list.length) (M.rowsOf a h) (cntT (Q.marks P k.list a.length k.list.length) (a.length + 1)) (a.length + 1)
def foundLen (P : Q.Pat) (a : List UInt8) (k : Q.Wk) : Nat := cntT (Q.marks P k.list a.length k.list.length) (a.length + 1)

set_option maxRecDepth 10000 in
set_option maxHeartbeats 3200000 in
theorem found_any (x : Wh) (k : Q.Wk) (v : Value) (rate h : Nat) (a : ByteArray) (P : Q.Pat) (w : World) (hW : WkT w x k v) (hE : WE w x rate h a P) :
    Calls Try.prog 35 #[.pointer (some ⟨x.bw, 0, none⟩)] w fun e w' => ∃ b, e = .returned (.slice (some ⟨b, 0, none⟩) (foundLen P (L a) k) (foundLen P (L a) k)) ∧ w.heap.size ≤ b ∧ Nums .i64 w' b (natI (Q.found P (L a) h k)) ∧ Below w.heap.size w w' := by
  have HL : Hid ((L a).length = a.size) := size_len a
  obtain ⟨c0, c1, c2, c3, c4, c5⟩ := hW.cells
  have d2 := hE.idx.c2
  have hn := hE.n
  have hsz := hE.sz
  have hbw := hW.blk.lt
  have hBw := hW.bw
  have hbi : x.bi < w.heap.size := by have := hE.bi; omega
  have HW := hid' hW
  have HE := hid' hE
  obtain ⟨lv, cv, hvv⟩ : ∃ a c, v = .slice a k.list.length c := by
    obtain ⟨_, ⟨e1, e2⟩ | ⟨g, cap, cur, e1, _⟩⟩ := hW.own
    · exact ⟨none, 0, by rw [e1, e2]⟩
    · exact ⟨_, cap, e1⟩
  have hm := make_bools ((a.size : Int) + 1) (a.size + 1) (by omega) (by omega)
  have hlen := hW.len
  have c4b := c4
  rw [hvv] at c4b
  clear hW hE c4
  go_enter Try.func35, Try.ntmps35
  go_wp2
  have HM0 : Hid (Marks (w.alloc (.cells (zeroRow (.bool false) (a.size + 1)) 4)) w.heap.size (Q.marks P k.list a.size 0)) := by
    show Marks _ _ _
    rw [marks_zero]
    exact Marks.new w _ _
  have HK0 := hid' ((Keep.refl [] w).alloc (.cells (zeroRow (.bool false) (a.size + 1)) 4))
  generalize w.alloc (.cells (zeroRow (.bool false) (a.size + 1)) 4) = w0 at *
  clear hm c0 c1 c2 c3 c5 c4b d2
  go_loopw [28] (fun i wr => ∃ j : Nat, j ≤ k.list.length ∧ i = .int .i64 j ∧ Marks wr w.heap.size (Q.marks P k.list a.size j) ∧ Keep [] w wr) (fun i _ => k.list.length - (intOf i).toNat)
  case atStart => exact ⟨0, by omega, rfl, HM0.out, HK0.out⟩
  case round =>
    obtain ⟨j, hj, rfl, hMj, hKj⟩ := hrel
    have hWj := HW.out.keep0 hKj
    have hEj := HE.out.below (hKj.to_below (B := x.B) (by simp) (by omega))
    obtain ⟨c0, c1, c2, c3, c4, c5⟩ := hWj.cells
    by_cases hlt : j < k.list.length
    · obtain ⟨g, cap, hv2, hcap, r0, r1, r2, r3, hg⟩ := hWj.row j hlt
      obtain ⟨hst, _⟩ := hWj.ok.st j hlt
      have hsl := hst.le
      have hsh := hst.high
      have hsp := hst.places
      rw [hv2] at c4
      have HST := hid' (marks_step P k.list a.size j)
      have HMj := hid' hMj
      have HKj := hid' hKj
      have HEj := hid' hEj
      have hbwj := hWj.blk.lt
      have nbw : x.bw ≠ wr.heap.size := by omega
      have ng : g ≠ wr.heap.size := by omega
      have i0 : (0 : Int) ≤ (j : Int) := by omega
      have i1 : (j : Int) < (k.list.length : Int) := by omega
      have hml := marks_len P k.list a.size j
      generalize Q.stAt k.list j = st at *
      generalize Q.marks P k.list a.size j = mj at *
      have HBG : Hid (∀ q o, Calls Try.prog 53 #[.pointer (some ⟨x.bp, 0, none⟩), .int .u64 (st.places : Int)] ((wr.alloc o).drewN q) fun e w' => e = .returned (.bool (st.places &&& P.begins != 0)) ∧ w' = ((wr.alloc o).drewN q)) := fun q o => Begins_any x.bp P st.places _ ((HEj.out.pat.alloc o).drewN q) hsp
      clear hMj hKj hWj hEj hst
      go_wp2_with fail
      go_quiet ((go_at_call 53; exact Calls.quiet_of_same (HBG.out _ _)))
      have HBS : Hid (BlkT ((wr.alloc (.cells #[.int .i64 (st.low : Int), .int .i64 (st.high : Int), .int .u64 (st.places : Int), .int .i64 (st.twin : Int)] 99)).drewN nq) wr.heap.size 99 (stC st)) := BlkT.new wr _ _
      have HMS : Hid (Marks ((wr.alloc (.cells #[.int .i64 (st.low : Int), .int .i64 (st.high : Int), .int .u64 (st.places : Int), .int .i64 (st.twin : Int)] 99)).drewN nq) w.heap.size mj) := Blk.drewN (Blk.alloc HMj.out _) nq
      have HKS := hid' ((HKj.out.alloc (.cells #[.int .i64 (st.low : Int), .int .i64 (st.high : Int), .int .u64 (st.places : Int), .int .i64 (st.twin : Int)] 99)).drewN nq)
      have hzw : w.heap.size < wr.heap.size := Blk.lt HMj.out
      generalize hws : (wr.alloc (.cells #[.int .i64 (st.low : Int), .int .i64 (st.high : Int), .int .u64 (st.places : Int), .int .i64 (st.twin : Int)] 99)).drewN nq = ws at *
      clear hws c0 c1 c2 c3 c4 c5 r0 r1 r2 r3 HBG HMj HKj
      cases hbg : (st.places &&& P.begins != 0) with
      | false =>
        have HMN : Hid (Marks ws w.heap.size (Q.marks P k.list a.size (j + 1))) := by show Marks _ _ _; rw [HST.out, if_neg (by rw [hbg]; decide)]; exact HMS.out
        clear HST
        go_wp2
        go_roundw
        case rel => exact ⟨j + 1, by omega, by go_num, HMN.out, HKS.out⟩
        case measure => simp [intOf]; omega
      | true =>
        have HMN : Hid (Q.marks P k.list a.size (j + 1) = plus mj st.low st.high) := by show _ = _; rw [HST.out, if_pos hbg]
        clear HST
        have b0 := HBS.out.cell 0
        simp only [stC, List.getElem?_cons_zero] at b0
        have hbs : w.heap.size ≠ wr.heap.size := by omega
        go_wp2
        go_loopw [6] (fun i wi => ∃ r : Nat, st.low ≤ r ∧ r ≤ st.high ∧ i = .int .i64 r ∧ Marks wi w.heap.size (plus mj st.low r) ∧ Keep [w.heap.size] ws wi) (fun i _ => st.high - (intOf i).toNat)
        case atStart => exact ⟨st.low, Nat.le_refl _, hsl, rfl, by rw [plus_self]; exact HMS.out, Keep.refl _ _⟩
        case round =>
          clear b0
          obtain ⟨r, hr1, hr2, rfl, hMr, hKr⟩ := hrel
          have hBr := HBS.out.keep hKr (by simpa using Ne.symm hbs)
          have b1 := hBr.cell 1
          simp only [stC, List.getElem?_cons_zero, List.getElem?_cons_succ] at b1
          by_cases hlt2 : r < st.high
          · have hrl : r < mj.length := by rw [hml]; omega
            have hc := hMr.cell r (by rw [plus_len]; exact hrl)
            have hf := Blk.frozen hMr r
            have HN := hid' (plus_step mj st.low r hr1 hrl)
            have HMr := hid' hMr
            have HKr := hid' hKr
            have hri : (r : Int) < ((a.size + 1 : Nat) : Int) := by omega
            clear hMr hKr hBr
            go_wp2
            go_roundw
            case rel => exact ⟨r + 1, by omega, by omega, by go_num, by rw [← HN.out]; exact HMr.out.set _ _, HKr.out.setCell (by simp) _⟩
            case measure => simp [intOf]; omega
          · obtain rfl : r = st.high := by omega
            have HMF : Hid (Marks wr w.heap.size (Q.marks P k.list a.size (j + 1))) := by show Marks _ _ _; rw [HMN.out]; exact hMr
            have HKF := hid' (HKS.out.trans2 hKr (by simp))
            clear hMr hKr hBr
            go_wp2
            go_roundw
            case rel => exact ⟨j + 1, by omega, by go_num, HMF.out, HKF.out⟩
            case measure => simp [intOf]; omega
    · obtain rfl : j = k.list.length := by omega
      have hMl : (Q.marks P k.list a.size k.list.length).length = a.size + 1 := marks_len _ _ _ _
      have HFD : Hid (Q.found P (L a) h k = laidTo (Q.marks P k.list a.size k.list.length) (M.rowsOf (L a) h) (cntT (Q.marks P k.list a.size k.list.length) (a.size + 1)) (a.size + 1)) := by show _ = _; unfold Q.found; rw [HL.out]
      have HFL : Hid (foundLen P (L a) k = cntT (Q.marks P k.list a.size k.list.length) (a.size + 1)) := by show _ = _; unfold foundLen; rw [HL.out]
      have HMj := hid' hMj
      have HKj := hid' hKj
      clear hMj hKj hWj hEj c0 c1 c2 c3 c4 c5 hj hlt
      generalize Q.marks P k.list a.size k.list.length = mk at *
      go_wp2
      go_loop [7, 59] (fun c i => ∃ r : Nat, r ≤ a.size + 1 ∧ i = .int .i64 r ∧ c = .int .i64 ((cntT mk r : Nat) : Int)) (fun _ i => a.size + 1 - (intOf i).toNat)
      case atStart => exact ⟨0, by omega, rfl, rfl⟩
      case round =>
        obtain ⟨r, hr, rfl, rfl⟩ := hrel
        have hcl := cntT_le mk r
        by_cases hlt3 : r < a.size + 1
        · have hc := HMj.out.cell r (by omega)
          have HS := hid' (cntT_succ mk r (by omega))
          have hri : (r : Int) < ((a.size + 1 : Nat) : Int) := by omega
          cases hb : mk.getD r false with
          | true =>
            rw [hb] at hc
            have HS2 : Hid (cntT mk (r + 1) = cntT mk r + 1) := by show _ = _; rw [HS.out, if_pos hb]
            go_wp2
            go_round
            case rel => exact ⟨r + 1, by omega, by go_num, by rw [HS2.out]; go_num⟩
            case measure => simp [intOf]; omega
          | false =>
            rw [hb] at hc
            have HS2 : Hid (cntT mk (r + 1) = cntT mk r) := by show _ = _; rw [HS.out, if_neg (by rw [hb]; decide)]; rfl
            go_wp2
            go_round
            case rel => exact ⟨r + 1, by omega, by go_num, by rw [HS2.out]⟩
            case measure => simp [intOf]; omega
        · obtain rfl : r = a.size + 1 := by omega
          obtain ⟨C, hCe⟩ : ∃ C, C = cntT mk (a.size + 1) := ⟨_, rfl⟩
          rw [← hCe] at hcl HFD HFL ⊢
          have hmi := make_ints (C : Int) C rfl (by omega)
          have HWj := hid' (HW.out.keep0 HKj.out)
          have HEj := hid' (HE.out.below (HKj.out.to_below (B := x.B) (by simp) (by omega)))
          have hszr : w.heap.size < wr.heap.size := Blk.lt HMj.out
          obtain ⟨c0, _⟩ := HWj.out.cells
          have hbwr : x.bw < wr.heap.size := by omega
          have hbir : x.bi < wr.heap.size := by omega
          have HIX : Hid (∀ o, Idx (wr.alloc o) x.bi rate h a) := fun o => Blk.alloc HEj.out.idx o
          have hh : h ≤ a.size := HEj.out.hh
          clear hCe
          go_wp2_with (go_at_call 54; refine (rows_any a x.bi rate h _ hsz hh (HIX.out _)).mono ?_; rintro e w6 ⟨br, rfl, hbr, hNr, hB6⟩)
          have hz6 : wr.heap.size + 1 ≤ w6.heap.size := by have := hB6.size; simpa using this
          have hbr2 : wr.heap.size + 1 ≤ br := by simpa using hbr
          have HM6 : Hid (Marks w6 w.heap.size mk) := Blk.below (Blk.alloc HMj.out _) hB6 (by simp; omega)
          have HL6 : Hid (Nums .i64 w6 wr.heap.size (natI (laidTo mk (M.rowsOf (L a) h) C 0))) := by
            show Nums _ _ _ _
            rw [laidTo_zero]
            have := Blk.below (Nums.new .i64 wr C 3) hB6 (by simp)
            unfold Nums natI
            rw [List.map_replicate]
            exact this
          have HB7 : Hid (Below w.heap.size w w6) := ((HKj.out.to_below (B := w.heap.size) (by simp) (Nat.le_refl _)).alloc (by omega) _).trans (hB6.mono (by simp; omega))
          have HN6 := hid' hNr
          clear hmi hNr hB6 c0 HIX
          go_loopw [7, 78] (fun c i w7 => ∃ r : Nat, r ≤ a.size + 1 ∧ i = .int .i64 r ∧ c = .int .i64 ((min (Q.placed mk (M.rowsOf (L a) h) r).length C : Nat) : Int) ∧ Nums .i64 w7 wr.heap.size (natI (laidTo mk (M.rowsOf (L a) h) C r)) ∧ Keep [wr.heap.size] w6 w7) (fun _ i _ => a.size + 1 - (intOf i).toNat)
          case atStart => exact ⟨0, by omega, rfl, by simp [Q.placed], HL6.out, Keep.refl _ _⟩
          case round =>
            obtain ⟨r, hr, rfl, rfl, hLr, hKr⟩ := hrel
            have hMr : Marks _ w.heap.size mk := Blk.of_heap HM6.out (hKr.block _ (Blk.lt HM6.out) (by simp; omega))
            have hNr : Nums .i64 _ br (M.rowsI (L a) h) := Blk.of_heap HN6.out (hKr.block _ (Blk.lt HN6.out) (by simp; omega))
            by_cases hlt4 : r < a.size + 1
            · have hrv := M.rowsOf_le (L a) h (by rw [HL.out]; exact hh) r (by rw [HL.out]; omega)
              rw [HL.out] at hrv
              have hcr := hNr.cell r (by rw [M.rowsI_length, HL.out]; exact hlt4)
              rw [M.rowsI_at] at hcr
              have hcm := hMr.cell ((M.rowsOf (L a) h).getD r 0) (by omega)
              have HSK := hid' (laidTo_skip mk (M.rowsOf (L a) h) C r)
              have HSE := hid' (laidTo_set mk (M.rowsOf (L a) h) C r)
              have HLr := hid' hLr
              have HKr := hid' hKr
              have hri : (r : Int) < ((a.size + 1 : Nat) : Int) := by omega
              have hfl := Blk.frozen hLr
              have hll := laidTo_len mk (M.rowsOf (L a) h) C r
              have HCL := hid' (fun i (hi : i < C) => hLr.cell i (by rw [natI_len, hll]; exact hi))
              clear hLr hKr hMr hNr
              generalize hRV : (M.rowsOf (L a) h).getD r 0 = RV at *
              have hrvi : (RV : Int) < ((a.size + 1 : Nat) : Int) := by omega
              generalize hPLe : (Q.placed mk (M.rowsOf (L a) h) r).length = PL at *
              cases hb : mk.getD RV false with
              | false =>
                rw [hb] at hcm
                obtain ⟨e1, e2⟩ := HSK.out (.inl hb)
                have HE1 := hid' e1
                have HE2 := hid' e2
                clear e1 e2 HSK HSE HCL
                go_wp2
                go_roundw
                case rel => exact ⟨r + 1, by omega, by go_num, by rw [HE2.out], by rw [HE1.out]; exact HLr.out, HKr.out⟩
                case measure => simp [intOf]; omega
              | true =>
                rw [hb] at hcm
                by_cases hc : PL < C
                · obtain ⟨e1, e2⟩ := HSE.out hb hc
                  have HE1 := hid' e1
                  have HE2 := hid' e2
                  have hmin : min PL C = PL := by omega
                  have hcc := HCL.out PL hc
                  have hd : decide ((PL : Int) < (C : Int)) = true := by simp; omega
                  have hpc : (PL : Int) < (C : Int) := by omega
                  rw [hmin]
                  clear e1 e2 HSK HSE HCL
                  go_wp2
                  go_roundw
                  case rel => exact ⟨r + 1, by omega, by go_num, by rw [HE2.out, show min (PL + 1) C = PL + 1 by omega]; go_num, by rw [← HE1.out, ← natI_set]; exact HLr.out.set _ _, HKr.out.setCell (by simp) _⟩
                  case measure => simp [intOf]; omega
                · obtain ⟨e1, e2⟩ := HSK.out (.inr (by omega))
                  have HE1 := hid' e1
                  have HE2 := hid' e2
                  have hmin : min PL C = C := by omega
                  rw [hmin]
                  rw [hmin] at HE2
                  clear e1 e2 HSK HSE HCL
                  go_wp2
                  go_roundw
                  case rel => exact ⟨r + 1, by omega, by go_num, by rw [HE2.out], by rw [HE1.out]; exact HLr.out, HKr.out⟩
                  case measure => simp [intOf]; omega
            · obtain rfl : r = a.size + 1 := by omega
              have HLr := hid' hLr
              have HKr := hid' hKr
              clear hLr hKr hMr hNr
              go_wp2
              go_ret
              exact ⟨_, by rw [HFL.out]; rfl, by omega, by rw [HFD.out]; exact HLr.out, HB7.out.trans (HKr.out.to_below (by simp; omega) (by omega))⟩
end Go.Proofs.Ytjmkkkfloalliab

namespace Go.Proofs.Ytjmkkkfloalliab
set_option linter.unusedVariables false
open Go.RowKit

/-- what Search answers, of an index of bytes a with the whole text's row h -/
def Q.search (a : List UInt8) (h : Nat) (pat : List UInt8) (budget : Int) (memo : Bool) : Except (Nat × Nat) (List Nat) :=
  if budget < 0 ∨ 1048576 < budget then .error (2, 0)
  else match Q.parse pat with
    | .error e => .error e
    | .ok P => if (Q.runAll a h P memo budget.toNat).list.length ≤ budget.toNat then .ok (Q.found P a h (Q.runAll a h P memo budget.toNat)) else .error (6, 0)
def SearchPost (B : Nat) (r : Except (Nat × Nat) (List Nat)) (e : Ending) (w' : World) : Prop :=
  match r with
  | .error (E, At) => e = .returned (.tuple #[.slice none 0 0, .agg #[.int .i64 (E : Int), .int .i64 (At : Int)]])
  | .ok l => ∃ b, e = .returned (.tuple #[.slice (some ⟨b, 0, none⟩) l.length l.length, .agg #[.int .i64 0, .int .i64 0]]) ∧ B ≤ b ∧ Nums .i64 w' b (natI l)
theorem Q.parse_err {s : List UInt8} {E At : Nat} (h : Q.parse s = .error (E, At)) : E ≠ 0 := by
  unfold Q.parse at h
  split at h
  · cases h; decide
  · split at h
    · cases h; decide
    · split at h
      · cases h; decide
      · split at h
        · cases h; decide
        · cases h
theorem Q.parse_ok {s : List UInt8} {P : Q.Pat} (h : Q.parse s = .ok P) : Q.PatOk P := by
  unfold Q.parse at h
  split at h
  · cases h
  · split at h
    · cases h
    · split at h
      · cases h
      · split at h
        · cases h
        · next hx =>
          cases h
          exact (Q.newPattern_ok (ps := (Q.whole s).2.parts) (Q.top_good s).ok _ (Q.top_good s).lt (by show (Q.at_ (Q.whole s).2.parts (Q.whole s).1).places ≤ 48; omega)).1
theorem found_length (P : Q.Pat) (a : List UInt8) (h : Nat) (k : Q.Wk) : (Q.found P a h k).length = foundLen P a k := laidTo_len _ _ _ _

set_option maxRecDepth 10000 in
set_option maxHeartbeats 3200000 in
theorem Search_any (bi rate h : Nat) (a pat : ByteArray) (budget : Int) (memo : Bool) (w : World) (hI : Idx w bi rate h a) (ha : a.size ≤ 1000) (hh : h ≤ a.size) (hp : pat.size ≤ maxLen) :
    Calls Try.prog 24 #[.pointer (some ⟨bi, 0, none⟩), .string pat, .int .i64 budget, .bool memo] w fun e w' => SearchPost w.heap.size (Q.search (L a) h (L pat) budget memo) e w' ∧ Below w.heap.size w w' := by
  have HI := hid hI
  have hbi := Blk.lt hI
  obtain ⟨R, hRe⟩ : ∃ R, Q.search (L a) h (L pat) budget memo = R := ⟨_, rfl⟩
  rw [hRe]
  have HR := hid hRe
  clear hRe hI
  by_cases hb0 : budget < 0
  · have HE : Hid (R = .error (2, 0)) := by show _ = _; rw [← HR.out]; unfold Q.search; rw [if_pos (.inl hb0)]
    have hd : decide (budget < 0) = true := by simp [hb0]
    go_enter Try.func24, Try.ntmps24
    go_wp2
    exact bodyPost_ret (v := .tuple #[.slice none 0 0, .agg #[.int .i64 2, .int .i64 0]]) (by simp [results, Try.results24, go_sem, *]) rfl ⟨by rw [HE.out]; rfl, by first | exact (((Below.refl _ _).alloc (Nat.le_refl _) _).setCell (by simp) _).setCell (by simp) _ | exact (Below.refl _ _).alloc (Nat.le_refl _) _⟩
  have hd0 : decide (budget < 0) = false := by simp; omega
  by_cases hb1 : 1048576 < budget
  · have HE : Hid (R = .error (2, 0)) := by show _ = _; rw [← HR.out]; unfold Q.search; rw [if_pos (.inr hb1)]
    have hd : decide (1048576 < budget) = true := by simp [hb1]
    go_enter Try.func24, Try.ntmps24
    go_wp2
    exact bodyPost_ret (v := .tuple #[.slice none 0 0, .agg #[.int .i64 2, .int .i64 0]]) (by simp [results, Try.results24, go_sem, *]) rfl ⟨by rw [HE.out]; rfl, by first | exact (((Below.refl _ _).alloc (Nat.le_refl _) _).setCell (by simp) _).setCell (by simp) _ | exact (Below.refl _ _).alloc (Nat.le_refl _) _⟩
  have hd1 : decide (1048576 < budget) = false := by simp; omega
  obtain ⟨bg, hbg⟩ : ∃ bg : Nat, budget = (bg : Int) := ⟨budget.toNat, by omega⟩
  subst hbg
  have hbgl : bg ≤ 1048576 := by omega
  have HRR : Hid (R = match Q.parse (L pat) with
    | .error e => .error e
    | .ok P => if (Q.runAll (L a) h P memo bg).list.length ≤ bg then .ok (Q.found P (L a) h (Q.runAll (L a) h P memo bg)) else .error (6, 0)) := by
    show _ = _
    rw [← HR.out]
    unfold Q.search
    rw [if_neg (by omega), Int.toNat_natCast]
  clear HR hb0 hb1
  have HF0 : Hid (BlkT (w.alloc (.cells #[.int .i64 0, .int .i64 0] 45)) w.heap.size 45 [.int .i64 0, .int .i64 0]) := BlkT.new w _ _
  have HB0 := hid ((Below.refl w.heap.size w).alloc (Nat.le_refl _) (.cells #[.int .i64 0, .int .i64 0] 45))
  have hz0 : (w.alloc (.cells #[.int .i64 0, .int .i64 0] 45)).heap.size = w.heap.size + 1 := by simp
  have HPA := hid (Parse_any pat (w.alloc (.cells #[.int .i64 0, .int .i64 0] 45)) hp)
  go_enter Try.func24, Try.ntmps24
  go_upto_region 3 with fail
  generalize w.alloc (.cells #[.int .i64 0, .int .i64 0] 45) = w0 at *
  cases hpa : Q.parse (L pat) with
  | error ea =>
    obtain ⟨E, At⟩ := ea
    have hE0 := Q.parse_err hpa
    rw [hpa] at HPA HRR
    have HE : Hid (R = .error (E, At)) := HRR.out
    have hq : ((E : Int) != 0) = true := by simp; omega
    have HPA2 : Hid (Calls Try.prog 32 #[.string pat] w0 fun e w' => e = .returned (.tuple #[.pointer none, .agg #[.int .i64 (E : Int), .int .i64 (At : Int)]]) ∧ Below w0.heap.size w0 w') := HPA.out
    clear HPA HRR
    go_wp2_with (go_at_call 32; refine HPA2.out.mono ?_; rintro e w2 ⟨rfl, hB2⟩; have hF2 : BlkT w2 w.heap.size 45 [.int .i64 0, .int .i64 0] := (hB2.block _ (by omega)).trans HF0.out; have f0 := hF2.cell 0; have f1 := hF2.cell 1; have ff := hF2.frozen; simp only [List.getElem?_cons_zero, List.getElem?_cons_succ] at f0 f1; have hz2 := hF2.lt)
    go_region
    all_goals
      go_wp2
      exact bodyPost_ret (v := .tuple #[.slice none 0 0, .agg #[.int .i64 (E : Int), .int .i64 (At : Int)]]) (by simp [results, Try.results24, go_sem, *]) rfl ⟨by rw [HE.out]; rfl, by
        have hBw : Below w.heap.size w w2 := HB0.out.trans (hB2.mono (by omega))
        first
          | exact below_drew (((hBw.setCell (by simp) _).setCell (by simp) _).alloc (by simp; omega) _)
          | exact ((below_drew (hBw.alloc (by omega) _)).setCell (by simp) _).setCell (by simp) _
          | exact (((hBw.setCell (by simp) _).setCell (by simp) _).alloc (by simp; omega) _)⟩
  | ok P =>
    have hPok := Q.parse_ok hpa
    rw [hpa] at HPA HRR
    simp only at HRR
    have HPA2 : Hid (Calls Try.prog 32 #[.string pat] w0 fun e w' => (∃ b, e = .returned (.tuple #[.pointer (some ⟨b, 0, none⟩), .agg #[.int .i64 0, .int .i64 0]]) ∧ w0.heap.size ≤ b ∧ PaT w' b P) ∧ Below w0.heap.size w0 w') := HPA.out
    clear HPA
    go_upto_region 8 with (go_at_call 32; refine HPA2.out.mono ?_; rintro e w2 ⟨⟨bp, rfl, hbp, hP2⟩, hB2⟩)
    have hBw2 : Below w.heap.size w w2 := HB0.out.trans (hB2.mono (by omega))
    have hF2 : BlkT w2 w.heap.size 45 [.int .i64 0, .int .i64 0] := (hB2.block _ (by omega)).trans HF0.out
    have hz2 := hF2.lt
    have hI2 : Idx w2 bi rate h a := Blk.below HI.out hBw2 hbi
    have BW3 := hBw2.alloc (by omega) (.cells #[.int .i64 0, .int .i64 0] 45)
    have FW3 := hF2.alloc (.cells #[.int .i64 0, .int .i64 0] 45)
    have IW3 : Idx (w2.alloc (.cells #[.int .i64 0, .int .i64 0] 45)) bi rate h a := Blk.alloc hI2 _
    have PW3 := hP2.alloc (.cells #[.int .i64 0, .int .i64 0] 45)
    clear hBw2 hF2 hI2 hP2 hB2 HPA2 HF0 HB0
    generalize w2.alloc (.cells #[.int .i64 0, .int .i64 0] 45) = w3 at *
    have d2 := IW3.c2
    have HLO := hid (longerRows_any a w3 ha)
    have HBW := hid BW3
    have HFW := hid FW3
    have HIW := hid IW3
    have HPW := hid PW3
    have hz3 := PW3.blk.lt
    have hz3f := FW3.lt
    clear BW3 FW3 IW3 PW3
    go_upto_region 9 with (go_at_call 33; refine HLO.out.mono ?_; rintro e w5 ⟨bl, rfl, hbl, hN5, hB5⟩)
    have hs5 := hB5.size
    have HB5 : Hid (Below w.heap.size w w5) := HBW.out.trans (hB5.mono (by omega))
    have HF5 : Hid (BlkT w5 w.heap.size 45 [.int .i64 0, .int .i64 0]) := (hB5.block _ hz3f).trans HFW.out
    have HI5 : Hid (Idx w5 bi rate h a) := Blk.below HIW.out hB5 (by omega)
    have HP5 : Hid (PaT w5 bp P) := ⟨HPW.out.ok, (hB5.block _ hz3).trans HPW.out.blk⟩
    have HN5 := hid hN5
    have hzl := Blk.lt hN5
    have d5 := HI5.out.c2
    have hmi := make_ints ((a.size : Int) + 1) (a.size + 1) (by omega) (by omega)
    clear hN5 hB5 HLO HBW HFW HIW HPW d2
    go_upto_region 10 with fail
    have HWK : Hid (WkT ((w5.alloc (.cells (zeroRow (.int .i64 0) (a.size + 1)) 3)).alloc (.cells #[.pointer (some ⟨bi, 0, none⟩), .pointer (some ⟨bp, 0, none⟩), .bool memo, .slice (some ⟨bl, 0, none⟩) a.size a.size, .slice none 0 0, .slice (some ⟨w5.heap.size, 0, none⟩) (a.size + 1) (a.size + 1)] 72)) ⟨w5.heap.size, w5.heap.size + 1, bi, bp, bl, w5.heap.size, a.size, memo⟩ ⟨[], List.replicate (a.size + 1) 0⟩ (.slice none 0 0)) := by
      refine ⟨?_, ⟨rfl, .inl ⟨rfl, rfl⟩⟩, ?_, ?_, by simp, (fun e => by cases e), (fun e => by cases e), by simp, by simp, by simp⟩
      · have := BlkT.new (w5.alloc (.cells (zeroRow (.int .i64 0) (a.size + 1)) 3)) #[.pointer (some ⟨bi, 0, none⟩), .pointer (some ⟨bp, 0, none⟩), .bool memo, .slice (some ⟨bl, 0, none⟩) a.size a.size, .slice none 0 0, .slice (some ⟨w5.heap.size, 0, none⟩) (a.size + 1) (a.size + 1)] 72
        simp only [World.size_alloc] at this
        exact this
      · have := Blk.alloc (Nums.new .i64 w5 (a.size + 1) 3) (.cells #[.pointer (some ⟨bi, 0, none⟩), .pointer (some ⟨bp, 0, none⟩), .bool memo, .slice (some ⟨bl, 0, none⟩) a.size a.size, .slice none 0 0, .slice (some ⟨w5.heap.size, 0, none⟩) (a.size + 1) (a.size + 1)] 72)
        unfold Nums natI
        rw [List.map_replicate]
        exact this
      · refine ⟨List.length_replicate, fun r => ?_, fun k hk => by simp at hk⟩
        rw [List.getD_eq_getElem?_getD, List.getElem?_replicate]
        split <;> simp
    have HK7 := hid (((Keep.refl [] w5).alloc (.cells (zeroRow (.int .i64 0) (a.size + 1)) 3)).alloc (.cells #[.pointer (some ⟨bi, 0, none⟩), .pointer (some ⟨bp, 0, none⟩), .bool memo, .slice (some ⟨bl, 0, none⟩) a.size a.size, .slice none 0 0, .slice (some ⟨w5.heap.size, 0, none⟩) (a.size + 1) (a.size + 1)] 72))
    clear hmi d5
    generalize ((w5.alloc (.cells (zeroRow (.int .i64 0) (a.size + 1)) 3)).alloc (.cells #[.pointer (some ⟨bi, 0, none⟩), .pointer (some ⟨bp, 0, none⟩), .bool memo, .slice (some ⟨bl, 0, none⟩) a.size a.size, .slice none 0 0, .slice (some ⟨w5.heap.size, 0, none⟩) (a.size + 1) (a.size + 1)] 72)) = w7 at *
    have hB7 : Below w5.heap.size w5 w7 := HK7.out.to_below (by simp) (Nat.le_refl _)
    have HWE : Hid (WE w7 ⟨w5.heap.size, w5.heap.size + 1, bi, bp, bl, w5.heap.size, a.size, memo⟩ rate h a P) :=
      ⟨Blk.below HI5.out hB7 (show bi < w5.heap.size by omega), ⟨HP5.out.ok, (hB7.block _ (show bp < w5.heap.size by omega)).trans HP5.out.blk⟩, Blk.below HN5.out hB7 hzl, by show bi < w5.heap.size; omega, by show bp < w5.heap.size; omega, hzl, rfl, hh, ha⟩
    have HF7 : Hid (BlkT w7 w.heap.size 45 [.int .i64 0, .int .i64 0]) := HF5.out.keep HK7.out (by simp)
    have HB7 : Hid (Below w.heap.size w w7) := HB5.out.trans (hB7.mono (by omega))
    have HRU := hid (run_any ⟨w5.heap.size, w5.heap.size + 1, bi, bp, bl, w5.heap.size, a.size, memo⟩ _ rate h a P bg w7 HWK.out HWE.out hbgl)
    clear HI5 HP5 HN5 HB5 HF5 HK7
    go_upto_region 11 with (go_at_call 34; refine HRU.out.mono ?_; rintro e w8 ⟨rfl, ⟨v8, hW8⟩, hB8⟩)
    have HE8 := hid (HWE.out.below hB8)
    have HW8 := hid hW8
    have HF8 : Hid (BlkT w8 w.heap.size 45 [.int .i64 0, .int .i64 0]) := (hB8.block _ (by show w.heap.size < w5.heap.size; omega)).trans HF7.out
    have HB8 : Hid (Below w.heap.size w w8) := HB7.out.trans (hB8.mono (by show w.heap.size ≤ w5.heap.size; omega))
    have f0 := HF8.out.cell 0; have f1 := HF8.out.cell 1; have ff := HF8.out.frozen
    simp only [List.getElem?_cons_zero, List.getElem?_cons_succ] at f0 f1
    have hz8 := HB8.out.size
    clear hW8 hB8 HRU HWK HWE HF7 HB7
    generalize Q.runAll (L a) h P memo bg = K at *
    by_cases hdone : K.list.length ≤ bg
    · have hdd : decide (K.list.length ≤ bg) = true := by simp [hdone]
      have HE : Hid (R = .ok (Q.found P (L a) h K)) := by show _ = _; rw [HRR.out, if_pos hdone]
      have HFO := hid (found_any _ K v8 rate h a P w8 HW8.out HE8.out)
      rw [hdd]
      go_wp2_with (go_at_call 35; refine HFO.out.mono ?_; rintro e w9 ⟨b9, rfl, hb9, hN9, hB9⟩; have hF9 : BlkT w9 w.heap.size 45 [.int .i64 0, .int .i64 0] := (hB9.block _ (HF8.out.lt)).trans HF8.out; have g0 := hF9.cell 0; have g1 := hF9.cell 1; have gf := hF9.frozen; simp only [List.getElem?_cons_zero, List.getElem?_cons_succ] at g0 g1)
      exact bodyPost_ret (v := .tuple #[.slice (some ⟨b9, 0, none⟩) (foundLen P (L a) K) (foundLen P (L a) K), .agg #[.int .i64 0, .int .i64 0]]) (by simp [results, Try.results24, go_sem, *]) rfl ⟨by rw [HE.out]; exact ⟨b9, by rw [found_length], by omega, Blk.other (Blk.other hN9 (by simp; have := HF8.out.lt; omega) _) (by simp; have := HF8.out.lt; omega) _⟩, ((HB8.out.trans (hB9.mono hz8)).setCell (by simp) _).setCell (by simp) _⟩
    · have hdd : decide (K.list.length ≤ bg) = false := by simp; omega
      have HE : Hid (R = .error (6, 0)) := by show _ = _; rw [HRR.out, if_neg hdone]
      rw [hdd]
      go_wp2
      exact bodyPost_ret (v := .tuple #[.slice none 0 0, .agg #[.int .i64 6, .int .i64 0]]) (by simp [results, Try.results24, go_sem, *]) rfl ⟨by rw [HE.out]; rfl, (HB8.out.setCell (by simp) _).setCell (by simp) _⟩
end Go.Proofs.Ytjmkkkfloalliab

namespace Go.Proofs.Ytjmkkkfloalliab
set_option linter.unusedVariables false
open Go.RowKit

theorem wf_bounds {c : Int} (h : (Lit.int .i64 c).wf = true) : -9223372036854775808 ≤ c ∧ c ≤ 9223372036854775807 := by
  exact bounds_i64 h

set_option maxHeartbeats 400000 in
theorem pick_any (c n : Int) (w : World) (h0 : -9223372036854775808 ≤ c) (h1 : c ≤ 9223372036854775807) (n0 : 1 ≤ n) (n1 : n ≤ 1000000) :
    Calls Try.prog 19 #[.int .i64 c, .int .i64 n] w fun e w' => (∃ r : Nat, e = .returned (.int .i64 r) ∧ (r : Int) < n) ∧ w' = w := by
  have key : ∀ d : Int, 0 ≤ d → ∃ r : Nat, d % n = (r : Int) ∧ (r : Int) < n := fun d hd => ⟨(d % n).toNat, by have := Int.emod_nonneg d (show n ≠ 0 by omega); omega, by have := Int.emod_nonneg d (show n ≠ 0 by omega); have := Int.emod_lt_of_pos d (show 0 < n by omega); omega⟩
  by_cases h : c < 0
  · obtain ⟨r, hr, hl⟩ := key (-(c + 1)) (by omega)
    have HR : Hid _ := hr
    clear hr key
    go_enter Try.func19, Try.ntmps19
    go_wp2
    go_ret
    exact ⟨⟨r, ret_int (by rw [← Int.neg_tmod, Int.tmod_eq_emod_of_nonneg (by omega)]; exact HR.out), hl⟩, rfl⟩
  · obtain ⟨r, hr, hl⟩ := key c (by omega)
    have HR : Hid _ := hr
    clear hr key
    go_enter Try.func19, Try.ntmps19
    go_wp2
    go_ret
    exact ⟨⟨r, ret_int (HR.out), hl⟩, rfl⟩

set_option maxHeartbeats 400000 in
theorem clipped_any (s : ByteArray) (n : Nat) (w : World) (hs : s.size ≤ maxLen) (hn : n ≤ 1000) :
    Calls Try.prog 18 #[.string s, .int .i64 n] w fun e w' => ∃ r : ByteArray, e = .returned (.string r) ∧ r.size ≤ n ∧ Hid (r.data.toList = s.data.toList.take n) ∧ w' = w := by
  unfold maxLen at hs
  by_cases h : n < s.size
  · go_enter Try.func18, Try.ntmps18
    go_wp2
    go_ret
    refine ⟨_, rfl, ?_, ?_, rfl⟩
    · rw [ByteArray.size_extract]; omega
    · show _ = _
      rw [Lib.extract_data]; simp
  · go_enter Try.func18, Try.ntmps18
    go_wp2
    go_ret
    refine ⟨_, rfl, by omega, ?_, rfl⟩
    show _ = _
    rw [List.take_of_length_le (by rw [size_len]; omega)]

/-- what 'find' answers -/
def FindPost (B : Nat) (r : Except (Nat × Nat) (List Nat)) (e : Ending) (w' : World) : Prop :=
  match r with
  | .error (E, _) => e = .returned (.tuple #[.slice none 0 0, .int .i64 (E : Int)])
  | .ok l => ∃ b, e = .returned (.tuple #[.slice (some ⟨b, 0, none⟩) l.length l.length, .int .i64 0]) ∧ B ≤ b ∧ Nums .i64 w' b (natI l)

set_option maxHeartbeats 400000 in
theorem find_any (bi rate h : Nat) (a pat : ByteArray) (w : World) (hI : Idx w bi rate h a) (ha : a.size ≤ 1000) (hh : h ≤ a.size) (hp : pat.size ≤ maxLen) :
    Calls Try.prog 22 #[.pointer (some ⟨bi, 0, none⟩), .string pat] w fun e w' => FindPost w.heap.size (Q.search (L a) h (L pat) 524288 true) e w' ∧ Below w.heap.size w w' := by
  have HS := hid (Search_any bi rate h a pat 524288 true w hI ha hh hp)
  clear hI
  generalize Q.search (L a) h (L pat) 524288 true = R at *
  cases R with
  | error ea =>
    obtain ⟨E, At⟩ := ea
    have HS2 : Hid (Calls Try.prog 24 #[.pointer (some ⟨bi, 0, none⟩), .string pat, .int .i64 524288, .bool true] w fun e w' => e = .returned (.tuple #[.slice none 0 0, .agg #[.int .i64 (E : Int), .int .i64 (At : Int)]]) ∧ Below w.heap.size w w') := HS.out
    clear HS
    go_enter Try.func22, Try.ntmps22
    go_wp2_with fail
    refine HS2.out.mono ?_
    rintro e w1 ⟨rfl, hb⟩
    go_wp2
    go_quiet (fail)
    go_wp2
    go_ret2
    exact ⟨rfl, below_drewN (hb.alloc hb.size _) _⟩
  | ok l =>
    have HS2 : Hid (Calls Try.prog 24 #[.pointer (some ⟨bi, 0, none⟩), .string pat, .int .i64 524288, .bool true] w fun e w' => (∃ b, e = .returned (.tuple #[.slice (some ⟨b, 0, none⟩) l.length l.length, .agg #[.int .i64 0, .int .i64 0]]) ∧ w.heap.size ≤ b ∧ Nums .i64 w' b (natI l)) ∧ Below w.heap.size w w') := HS.out
    clear HS
    go_enter Try.func22, Try.ntmps22
    go_wp2_with fail
    refine HS2.out.mono ?_
    rintro e w1 ⟨⟨b, rfl, hb1, hN⟩, hb⟩
    go_wp2
    go_quiet (fail)
    go_wp2
    go_ret2
    exact ⟨⟨b, rfl, hb1, Blk.drewN (Blk.alloc hN _) _⟩, below_drewN (hb.alloc hb.size _) _⟩
end Go.Proofs.Ytjmkkkfloalliab

