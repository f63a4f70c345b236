import Derived.Test.YtjmkkkfloalliabYQ
-- a pattern is written out: copies, parts
namespace Go.Proofs.Ytjmkkkfloalliab
set_option linter.unusedVariables false
open Go.RowKit

/-- a tree of parts in memory -/
structure TE (w : World) (bt ot g cap : Nat) (ps : List Q.Part) : Prop where
  ct : w.cell? ⟨bt, ot, none⟩ = some (.slice (some ⟨g, 0, none⟩) ps.length cap)
  rg : ∀ i, i < ps.length → w.rangeAt g (i * 265) (partCells (Q.at_ ps i))
  lb : bt < w.heap.size
  lg : g < w.heap.size
theorem cell_keep {S : List Nat} {w w' : World} {a : Addr} (k : Keep S w w') (hl : a.block < w.heap.size) (hS : a.block ∉ S) : w'.cell? a = w.cell? a := World.cell?_of_block (k.block a.block hl hS)
theorem TE.keep {S : List Nat} {w w' : World} {bt ot g cap : Nat} {ps : List Q.Part} (h : TE w bt ot g cap ps) (k : Keep S w w') (h1 : bt ∉ S) (h2 : g ∉ S) : TE w' bt ot g cap ps :=
  ⟨(cell_keep k h.lb h1).trans h.ct, fun i hi j x hx => (cell_keep k h.lg h2).trans (h.rg i hi j x hx), Nat.lt_of_lt_of_le h.lb k.size, Nat.lt_of_lt_of_le h.lg k.size⟩
def spanC (a : Q.Span) : List Value := [.int .u64 (a.first : Int), .int .u64 (a.last : Int), .bool a.empty]

/-- what 'lay' does -/
def LayD (f : Nat) : Prop := ∀ (bp bt ot g cap : Nat) (ps : List Q.Part) (n : Nat) (p : Q.Pat) (w : World), PaT w bp p → TE w bt ot g cap ps → Q.PartsOk ps → bp ≠ g → bp ≠ bt → n < ps.length → n < f → p.size + (Q.at_ ps n).places ≤ 49 →
  Calls Try.prog 65 #[.pointer (some ⟨bp, 0, none⟩), .pointer (some ⟨bt, ot, none⟩), .int .i64 (n : Int)] w fun e w' => e = .returned (spanV (Q.lay ps f n p).1) ∧ PaT w' bp (Q.lay ps f n p).2 ∧ Keep [bp] w w'

set_option maxRecDepth 10000 in
set_option maxHeartbeats 3200000 in
theorem layCopies_any (f : Nat) (hlay : LayD f) (bp bt ot g cap : Nat) (ps : List Q.Part) (t : Q.Part) (p : Q.Pat) (w : World) (hP : PaT w bp p) (hT : TE w bt ot g cap ps) (hps : Q.PartsOk ps) (h1 : bp ≠ g) (h2 : bp ≠ bt) (hn : t.left < ps.length) (hf : t.left < f) (hi : t.ins.length = 256) (hlow : t.low ≤ 99) (hhigh : t.high ≤ 99)
    (hsz : p.size + (Q.at_ ps t.left).places * t.copies ≤ 49) :
    Calls Try.prog 81 #[.pointer (some ⟨bp, 0, none⟩), .pointer (some ⟨bt, ot, none⟩), .agg (partCells t).toArray] w fun e w' =>
      e = .returned (spanV (Q.copies (Q.lay ps f t.left) t.low t.endless t.copies t.copies ⟨0, 0, true⟩ p).1) ∧ PaT w' bp (Q.copies (Q.lay ps f t.left) t.low t.endless t.copies t.copies ⟨0, 0, true⟩ p).2 ∧ Keep [bp] w w' := by
  have hlt := hP.blk.lt
  have hco : t.copies ≤ 100 := by unfold Q.Part.copies; split <;> omega
  obtain ⟨X, hX⟩ : ∃ X, Q.copies (Q.lay ps f t.left) t.low t.endless t.copies t.copies ⟨0, 0, true⟩ p = X := ⟨_, rfl⟩
  rw [hX]
  have HX : Hid (Q.copies (Q.lay ps f t.left) t.low t.endless t.copies t.copies ⟨0, 0, true⟩ p = X) := hX
  have HP : Hid (PaT w bp p) := hP
  have HT : Hid (TE w bt ot g cap ps) := hT
  have HLAYS : Hid (Q.Lays (Q.at_ ps t.left).places (Q.lay ps f t.left)) := Q.lay_ok hps f t.left hf hn
  have HLAY : Hid (LayD f) := hlay
  have HPS : Hid (Q.PartsOk ps) := hps
  have HPT : Hid (PtT ((w.alloc (.cells (partCells t).toArray 90)).alloc (.cells #[.int .u64 0, .int .u64 0, .bool false] 121)) w.heap.size t) := (PtT.new w hi).alloc _
  have HRS : Hid (BlkT ((w.alloc (.cells (partCells t).toArray 90)).alloc (.cells #[.int .u64 0, .int .u64 0, .bool false] 121)) (w.heap.size + 1) 121 [.int .u64 0, .int .u64 0, .bool false]) := by
    show BlkT _ _ _ _
    have := BlkT.new (w.alloc (.cells (partCells t).toArray 90)) #[.int .u64 0, .int .u64 0, .bool false] 121
    simpa using this
  have HKW : Hid (Keep [] w ((w.alloc (.cells (partCells t).toArray 90)).alloc (.cells #[.int .u64 0, .int .u64 0, .bool false] 121))) := ((Keep.refl [] w).alloc _).alloc _
  have hsz0 : ((w.alloc (.cells (partCells t).toArray 90)).alloc (.cells #[.int .u64 0, .int .u64 0, .bool false] 121)).heap.size = w.heap.size + 2 := by simp
  clear hX hlay hP hT
  unfold spanV
  go_enter Try.func81, Try.ntmps81
  go_wp2_with (go_at_call 93; refine (copies_any w.heap.size t _ HPT.out hlow).mono ?_; rintro e w9 ⟨rfl, rfl⟩)
  have HA3 : Hid (BlkT (((w.alloc (.cells (partCells t).toArray 90)).alloc (.cells #[.int .u64 0, .int .u64 0, .bool false] 121)).alloc (.cells #[.int .u64 0, .int .u64 0, .bool true] 121)) (w.heap.size + 2) 121 (spanC ⟨0, 0, true⟩)) := by
    show BlkT _ _ _ _
    have := BlkT.new ((w.alloc (.cells (partCells t).toArray 90)).alloc (.cells #[.int .u64 0, .int .u64 0, .bool false] 121)) #[.int .u64 0, .int .u64 0, .bool true] 121
    rw [hsz0] at this
    exact this
  have HT3 := HPT.out.alloc (.cells #[.int .u64 0, .int .u64 0, .bool true] 121)
  have HR3 := HRS.out.alloc (.cells #[.int .u64 0, .int .u64 0, .bool true] 121)
  have HK3 := HKW.out.alloc (.cells #[.int .u64 0, .int .u64 0, .bool true] 121)
  generalize (((w.alloc (.cells (partCells t).toArray 90)).alloc (.cells #[.int .u64 0, .int .u64 0, .bool false] 121)).alloc (.cells #[.int .u64 0, .int .u64 0, .bool true] 121)) = w3 at *
  clear HPT HRS HKW hsz0
  have z3 : w.heap.size + 2 < w3.heap.size := HA3.out.lt
  have HT3H : Hid (PtT w3 w.heap.size t) := HT3
  have HR3H : Hid (BlkT w3 (w.heap.size + 1) 121 [.int .u64 0, .int .u64 0, .bool false]) := HR3
  have HK3H : Hid (Keep [] w w3) := HK3
  clear HT3 HR3 HK3
  go_loopw [9] (fun i wr => ∃ (kk : Nat) (all : Q.Span) (p' : Q.Pat), i = .int .i64 kk ∧ 1 ≤ kk ∧ kk ≤ t.copies + 1 ∧ PaT wr bp p' ∧ BlkT wr (w.heap.size + 2) 121 (spanC all) ∧ Q.SpanOk p' all ∧ p'.size + (Q.at_ ps t.left).places * (t.copies + 1 - kk) ≤ 49 ∧
    Hid (Q.copies (Q.lay ps f t.left) t.low t.endless t.copies (t.copies + 1 - kk) all p' = X) ∧ Keep [bp, w.heap.size + 2] w3 wr) (fun i _ => 200 - (intOf i).toNat)
  case atStart =>
    have hp0 : 0 < 2 ^ p.size := Nat.pow_pos (by decide)
    exact ⟨1, ⟨0, 0, true⟩, p, rfl, Nat.le_refl _, by omega, HP.out.keep HK3H.out (by simp), HA3.out, ⟨hp0, hp0⟩, by rw [Nat.add_sub_cancel]; exact hsz, by show _ = _; rw [Nat.add_sub_cancel]; exact HX.out, Keep.refl _ _⟩
  case round =>
    obtain ⟨kk, all, p', rfl, hk1, hk2, hPk, hAk, hSk, hzk, HXk, hKk⟩ := hrel
    have hTk := HT3H.out.keep hKk (by simp; omega)
    have hTE : TE wr bt ot g cap ps := (HT.out.keep HK3H.out (by simp) (by simp)).keep hKk (by have := HT.out.lb; simp; omega) (by have := HT.out.lg; simp; omega)
    have hsk := hKk.size
    obtain ⟨t0, _, t2, _, t4, _⟩ := hTk.cells
    by_cases hle : kk ≤ t.copies
    · obtain ⟨d, hd⟩ : ∃ d, t.copies + 1 - kk = d + 1 := ⟨t.copies - kk, by omega⟩
      rw [hd] at hzk HXk
      have hzk2 : p'.size + (Q.at_ ps t.left).places + (Q.at_ ps t.left).places * d ≤ 49 := by rw [Nat.mul_succ] at hzk; omega
      obtain ⟨l1, l2, l3⟩ := HLAYS.out p' hPk.ok (by omega)
      have HCA : Hid (Calls Try.prog 65 #[.pointer (some ⟨bp, 0, none⟩), .pointer (some ⟨bt, ot, none⟩), .int .i64 (t.left : Int)] wr fun e w' => e = .returned (spanV (Q.lay ps f t.left p').1) ∧ PaT w' bp (Q.lay ps f t.left p').2 ∧ Keep [bp] wr w') := HLAY.out bp bt ot g cap ps t.left p' wr hPk hTE HPS.out h1 h2 hn hf (by omega)
      have HTk : Hid (PtT wr w.heap.size t) := hTk
      have HAk : Hid (BlkT wr (w.heap.size + 2) 121 (spanC all)) := hAk
      have HKk : Hid (Keep [bp, w.heap.size + 2] w3 wr) := hKk
      have HUN : Hid (∀ (one : Q.Span) (q : Q.Pat), one = { (Q.lay ps f t.left p').1 with empty := decide (t.low < kk) || (Q.lay ps f t.left p').1.empty } → q = (if t.endless = true ∧ d = 0 then Q.link one.last one.first (Q.lay ps f t.left p').2 else (Q.lay ps f t.left p').2) → Q.copies (Q.lay ps f t.left) t.low t.endless t.copies d (Q.join all one q).1 (Q.join all one q).2 = X) := by
        intro one q ho hq
        rw [← HXk.out]
        conv => rhs; unfold Q.copies
        simp only
        have e1 : t.copies - d = kk := by omega
        rw [e1]
        subst ho
        subst hq
        rfl
      clear hTk hAk hKk hTE hPk HXk
      generalize hYe : Q.lay ps f t.left p' = Y at *
      obtain ⟨⟨yf, yl, ye⟩, yp⟩ := Y
      simp only at HCA HUN l1 l2 l3
      unfold spanV at HCA
      go_upto_if 26 with (go_at_call 65; refine HCA.out.mono ?_; rintro e w4 ⟨rfl, hP4, hK4⟩; have hT4 := HTk.out.keep hK4 (by simp; omega); obtain ⟨_, _, u2, _, u4, _⟩ := hT4.cells; have z4 : w.heap.size < w4.heap.size := by (have := hK4.size; omega))
      have hB5 : BlkT (w4.alloc (.cells #[.int .u64 (yf : Int), .int .u64 (yl : Int), .bool ye] 121)) w4.heap.size 121 [.int .u64 (yf : Int), .int .u64 (yl : Int), .bool ye] := BlkT.new w4 _ _
      have hP5 : PaT (w4.alloc (.cells #[.int .u64 (yf : Int), .int .u64 (yl : Int), .bool ye] 121)) bp yp := hP4.alloc _
      have hT5 : PtT (w4.alloc (.cells #[.int .u64 (yf : Int), .int .u64 (yl : Int), .bool ye] 121)) w.heap.size t := hT4.alloc _
      have hA5 : BlkT (w4.alloc (.cells #[.int .u64 (yf : Int), .int .u64 (yl : Int), .bool ye] 121)) (w.heap.size + 2) 121 (spanC all) := (HAk.out.keep hK4 (by simp; omega)).alloc _
      have hK5 : Keep [bp, w.heap.size + 2] w3 (w4.alloc (.cells #[.int .u64 (yf : Int), .int .u64 (yl : Int), .bool ye] 121)) := (HKk.out.trans hK4.two).alloc _
      have z5 : w3.heap.size ≤ w4.heap.size := Nat.le_trans hsk hK4.size
      have z6 : (w4.alloc (.cells #[.int .u64 (yf : Int), .int .u64 (yl : Int), .bool ye] 121)).heap.size = w4.heap.size + 1 := by simp
      clear hP4 hT4 hK4 u2 u4 t0 t2 t4 HTk HAk HKk HCA z4
      generalize w4.alloc (.cells #[.int .u64 (yf : Int), .int .u64 (yl : Int), .bool ye] 121) = w5 at *
      obtain ⟨bo, hbo⟩ : ∃ bo, w4.heap.size = bo := ⟨_, rfl⟩
      rw [hbo] at hB5 z5 z6 ⊢
      clear hbo
      go_cut [] from 18 to 44 (fun wc => BlkT wc bo 121 [.int .u64 (yf : Int), .int .u64 (yl : Int), .bool (decide (t.low < kk) || ye)] ∧ Keep [bo] w5 wc)
      case first =>
        have o2 := hB5.cell 2
        have of_ := hB5.frozen
        simp only [List.getElem?_cons_zero, List.getElem?_cons_succ] at o2
        by_cases hlk : t.low < kk
        · have hdk : decide (t.low < kk) = true := by simp [hlk]
          go_wp2
          go_meet
          case rel =>
            rw [hdk, Bool.true_or]
            exact ⟨hB5.set 2 _, (Keep.refl _ _).setCell (by simp) _⟩
        · have hdk : decide (t.low < kk) = false := by simp; omega
          go_wp2
          go_meet
          case rel =>
            rw [hdk, Bool.false_or]
            exact ⟨hB5, Keep.refl _ _⟩
      case rest =>
        obtain ⟨hB6, hK6⟩ := hcut
        have hP6 := hP5.keep hK6 (by simp; omega)
        have hT6 := hT5.keep hK6 (by simp; omega)
        have hA6 := hA5.keep hK6 (by simp; omega)
        have hK7 : Keep [bp, w.heap.size + 2] w3 wc := hK5.trans2 hK6 (by simp; omega)
        have z7 : bo < wc.heap.size := hB6.lt
        clear hB5 hP5 hT5 hA5 hK5 hK6
        obtain ⟨_, _, _, _, u4, _⟩ := hT6.cells
        have o0 := hB6.cell 0; have o1 := hB6.cell 1; have o2 := hB6.cell 2
        simp only [List.getElem?_cons_zero, List.getElem?_cons_succ] at o0 o1 o2
        obtain ⟨ee, hee⟩ : ∃ ee, (decide (t.low < kk) || ye) = ee := ⟨_, rfl⟩
        rw [hee] at hB6 o2
        obtain ⟨q, hq⟩ : ∃ q, q = (if t.endless = true ∧ d = 0 then Q.link yl yf yp else yp) := ⟨_, rfl⟩
        have HU2 : Hid (Q.copies (Q.lay ps f t.left) t.low t.endless t.copies d (Q.join all ⟨yf, yl, ee⟩ q).1 (Q.join all ⟨yf, yl, ee⟩ q).2 = X) := HUN.out ⟨yf, yl, ee⟩ q (by rw [← hee]) hq
        have hqok : Q.PatOk q ∧ q.size = yp.size := by
          rw [hq]
          split
          · exact ⟨Q.link_ok _ _ l1 l2.2, rfl⟩
          · exact ⟨l1, rfl⟩
        have hyl := l2.2
        have hyf := Q.lt64 l1 l2.1
        have HP6 : Hid (PaT wc bp yp) := hP6
        simp only at hyl hyf
        obtain ⟨bb, hbb⟩ : ∃ bb, bb = (t.endless && decide (kk = t.copies)) := ⟨_, rfl⟩
        obtain ⟨wE, hwE⟩ : ∃ wE, wE = wc := ⟨_, rfl⟩
        have HWE : Hid (wE = wc) := hwE
        clear hwE
        go_upto_region 9 with fail
        go_cut [34] from 18 to 44 (fun s34 wz => s34 = .bool bb ∧ wz = wE)
        case first =>
          cases he : t.endless with
          | false =>
            rw [he] at u4
            go_wp2
            go_meet
            case rel => exact ⟨by rw [hbb, he]; rfl, HWE.out.symm⟩
          | true =>
            rw [he] at u4
            by_cases hkc : kk = t.copies
            · have qk : ((kk : Int) == (t.copies : Int)) = true := by simp [hkc]
              have hb2 : bb = true := by rw [hbb, he]; simp [hkc]
              clear hbb hkc
              go_wp2
              go_meet
              case rel => exact ⟨by rw [hb2], HWE.out.symm⟩
            · have qk : ((kk : Int) == (t.copies : Int)) = false := by simp; omega
              have hb2 : bb = false := by rw [hbb, he]; simp [hkc]
              clear hbb hkc
              go_wp2
              go_meet
              case rel => exact ⟨by rw [hb2], HWE.out.symm⟩
        case rest =>
        obtain ⟨rfl, rfl⟩ := hcut
        have hEE := HWE.out
        subst hEE
        clear HWE
        go_upto_if 34 with fail
        go_cut [] from 18 to 44 (fun wd => PaT wd bp q ∧ Keep [bp] wc wd)
        case first =>
          cases hb3 : bb with
          | false =>
            have hq2 : q = yp := by
              rw [hq, if_neg]
              rintro ⟨h, h'⟩
              rw [hb3, h] at hbb
              have : kk = t.copies := by omega
              simp [this] at hbb
            clear hq hbb
            go_wp2
            go_meet
            case rel => exact ⟨by rw [hq2]; exact HP6.out, Keep.refl _ _⟩
          | true =>
            have hq2 : q = Q.link yl yf yp := by
              rw [hb3] at hbb
              have := hbb.symm
              simp only [Bool.and_eq_true, decide_eq_true_eq] at this
              rw [hq, if_pos ⟨this.1, by omega⟩]
            clear hq hbb
            go_wp2_with (go_at_call 94; refine (link_any bp yp yl yf _ HP6.out hyl hyf).mono ?_; rintro e w8 ⟨rfl, hP8, hK8⟩)
            go_meet
            case rel => exact ⟨by rw [hq2]; exact hP8, hK8⟩
        case rest =>
          obtain ⟨hP8, hK8⟩ := hcut
          have A9 := hA6.keep hK8 (by simp; omega)
          have B9 := hB6.keep hK8 (by simp; omega)
          have hK9 : Keep [bp, w.heap.size + 2] w3 wc := hK7.trans hK8.two
          have a0 := A9.cell 0; have a1 := A9.cell 1; have a2 := A9.cell 2
          have b0 := B9.cell 0; have b1 := B9.cell 1; have b2 := B9.cell 2
          simp only [spanC, List.getElem?_cons_zero, List.getElem?_cons_succ] at a0 a1 a2 b0 b1 b2
          have hSq : Q.SpanOk q all := hSk.mono (by rw [hqok.2, l3]; omega)
          have hSo : Q.SpanOk q ⟨yf, yl, ee⟩ := ⟨by rw [hqok.2]; exact l2.1, by rw [hqok.2]; exact l2.2⟩
          have HJ := pjoin_any bp q all ⟨yf, yl, ee⟩ wc hP8 hSq hSo
          obtain ⟨j1, j2, j3⟩ := Q.join_ok hqok.1 hSq hSo
          generalize hJe : Q.join all ⟨yf, yl, ee⟩ q = J at *
          obtain ⟨⟨jf, jl, je⟩, jp⟩ := J
          unfold spanV at HJ
          simp only at HJ j1 j2 j3
          have HJH : Hid (Calls Try.prog 80 #[.pointer (some ⟨bp, 0, none⟩), .agg #[.int .u64 (all.first : Int), .int .u64 (all.last : Int), .bool all.empty], .agg #[.int .u64 (yf : Int), .int .u64 (yl : Int), .bool ee]] wc fun e w' => e = .returned (.agg #[.int .u64 (jf : Int), .int .u64 (jl : Int), .bool je]) ∧ PaT w' bp jp ∧ Keep [bp] wc w') := HJ
          have HK9 : Hid (Keep [bp, w.heap.size + 2] w3 wc) := hK9
          have HA9 : Hid (BlkT wc (w.heap.size + 2) 121 (spanC all)) := A9
          have z9 := A9.lt
          have hjs : jp.size = p'.size + (Q.at_ ps t.left).places := by rw [j3, hqok.2, l3]
          clear HJ hK9 A9 B9 hP6 hT6 hA6 hK7 hB6 hP8 hK8 o0 o1 o2 u4 HP6
          go_wp2_with (go_at_call 80; refine HJH.out.mono ?_; rintro e w10 ⟨rfl, hP10, hK10⟩; have A10 := HA9.out.keep hK10 (by simp; omega); have x0 := A10.cell 0; have x1 := A10.cell 1; have x2 := A10.cell 2; have xf := A10.frozen; simp only [spanC, List.getElem?_cons_zero, List.getElem?_cons_succ] at x0 x1 x2)
          go_roundw
          case rel =>
            refine ⟨kk + 1, ⟨jf, jl, je⟩, jp, by go_num, by omega, by omega, ((hP10.other (by simp; omega) _).other (by simp; omega) _).other (by simp; omega) _, ((A10.set 0 _).set 1 _).set 2 _, j2, ?_, ?_, ((HK9.out.trans hK10.two).setCell (by simp) _ |>.setCell (by simp) _).setCell (by simp) _⟩
            · rw [show t.copies + 1 - (kk + 1) = d by omega, hjs]; omega
            · show _ = _
              rw [show t.copies + 1 - (kk + 1) = d by omega]
              exact HU2.out
          case measure => simp [intOf]; omega
    · have hend : kk = t.copies + 1 := by omega
      have HXE : Hid (X = (all, p')) := by
        have := HXk.out
        rw [hend, Nat.sub_self] at this
        exact this.symm
      have hR9 := HR3H.out.keep hKk (by simp; omega)
      have a0 := hAk.cell 0; have a1 := hAk.cell 1; have a2 := hAk.cell 2
      have r0 := hR9.cell 0; have r1 := hR9.cell 1; have r2 := hR9.cell 2
      have rf := hR9.frozen
      simp only [spanC, List.getElem?_cons_zero, List.getElem?_cons_succ] at a0 a1 a2 r0 r1 r2
      have HPk : Hid (PaT wr bp p') := hPk
      have HKk : Hid (Keep [bp] w wr) := (HK3H.out.mono (by simp)).trans2 (S := [bp]) hKk (by simp)
      obtain ⟨af, al, ae⟩ := all
      simp only at a0 a1 a2
      clear hPk hAk hKk hTk hTE hR9 t0 t2 t4 HXk
      go_wp2
      exact bodyPost_ret (v := .agg #[.int .u64 (af : Int), .int .u64 (al : Int), .bool ae]) (by simp [results, Try.results81, go_sem, *]) rfl ⟨by rw [HXE.out], by rw [HXE.out]; exact ((HPk.out.other (by simp; omega) _).other (by simp; omega) _).other (by simp; omega) _, ((HKk.out.setNew (by simp) _).setNew (by simp) _).setNew (by simp) _⟩
end Go.Proofs.Ytjmkkkfloalliab
