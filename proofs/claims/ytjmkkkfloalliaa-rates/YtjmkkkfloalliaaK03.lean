import Derived.Test.YtjmkkkfloalliaaK02
namespace Go.Proofs.Ytjmkkkfloalliaa
set_option linter.unusedVariables false
open Go.RowKit

theorem thereB_new0 {w : World} {q : Q.Part} (T : TypeId) (hq : q.ins.length = 256) : thereB (w.alloc (.cells (partCells q).toArray T)) w.heap.size 0 = true := thereB_new T hq
attribute [local go_sem ↓] exec_load_part zero_part
attribute [local go_sem] plainB_p blkB_p offB_p cellsB_a aggB_a okB_part thereB_new thereB_new0 natB_n natOf_n natB_0 natB_1 natB_2 natB_3 natB_4 natOf_0 natOf_1 natOf_2 natOf_3 natOf_4
attribute [local simp] rdAt_drew rdAt_alloc rdAt_sc cell_sc rdAt_set

theorem set1 : (partCells zeroPart).set 0 (.int .i64 1) = partCells (Q.mk 1 0 0) := by kernel_rfl
theorem set4 (n : Nat) : ((partCells zeroPart).set 0 (.int .i64 4)).set 257 (.int .i64 (n : Int)) = partCells (Q.mk 4 n 0) := by kernel_rfl
theorem wpl_new {ops : Array Oper} {rest : List Oper} {op : Oper} {a : Act} {w : World} {QQ : Exit → Act → World → Prop} (hgd : op.guard = none) (x y : Operand) (ho : op.op = .store 110 x y) (hx : a.eval x = .pointer (some ⟨w.heap.size, 0, none⟩))
    (p : Q.Part) (hl : p.ins.length = 256) (hy : a.eval y = .agg (partCells p).toArray) (h : wpList Try.prog ops QQ rest (a.put op.dst undef) (w.alloc (.cells (partCells p).toArray 110))) :
    wpList Try.prog ops QQ (op :: rest) a (w.alloc (.cells (partCells zeroPart).toArray 110)) := by
  refine wpList_store_mid hgd _ x y ho w.heap.size 0 (partCells p).toArray hx hy ?_ ?_ (all_oneCell_toArray (pc_one p)) ?_
  · intro j hj
    have hj2 : j < 265 := by simpa [partCells_len hl] using hj
    have hB : BlkT (w.alloc (.cells (partCells zeroPart).toArray 110)) w.heap.size 110 (partCells zeroPart) := BlkT.new w _ _
    rw [hB.frozen, hB.cell, List.getElem?_eq_getElem (by rw [partCells_len zero_len]; omega)]
    exact ⟨rfl, rfl⟩
  · rw [Try.size110]; simp [partCells_len hl]
  · rw [List.toList_toArray, new_part hl zero_len]
    exact h
theorem wpl_new1 {ops : Array Oper} {rest : List Oper} {op : Oper} {a : Act} {w : World} {QQ : Exit → Act → World → Prop} (hgd : op.guard = none) (x y : Operand) (ho : op.op = .store 110 x y) (hx : a.eval x = .pointer (some ⟨w.heap.size, 0, none⟩))
    (hy : a.eval y = .agg ((partCells zeroPart).set 0 (.int .i64 1)).toArray) (h : wpList Try.prog ops QQ rest (a.put op.dst undef) (w.alloc (.cells (partCells (Q.mk 1 0 0)).toArray 110))) :
    wpList Try.prog ops QQ (op :: rest) a (w.alloc (.cells (partCells zeroPart).toArray 110)) :=
  wpl_new hgd x y ho hx _ Q.ins0_len (by rw [hy, set1]) h
theorem wpl_new4 {ops : Array Oper} {rest : List Oper} {op : Oper} {a : Act} {w : World} {QQ : Exit → Act → World → Prop} (hgd : op.guard = none) (x y : Operand) (ho : op.op = .store 110 x y) (hx : a.eval x = .pointer (some ⟨w.heap.size, 0, none⟩))
    (n : Nat) (hy : a.eval y = .agg (((partCells zeroPart).set 0 (.int .i64 4)).set 257 (.int .i64 (n : Int))).toArray) (h : wpList Try.prog ops QQ rest (a.put op.dst undef) (w.alloc (.cells (partCells (Q.mk 4 n 0)).toArray 110))) :
    wpList Try.prog ops QQ (op :: rest) a (w.alloc (.cells (partCells zeroPart).toArray 110)) :=
  wpl_new hgd x y ho hx _ Q.ins0_len (by rw [hy, set4]) h
theorem mk_len (k l r : Nat) : (Q.mk k l r).ins.length = 256 := Q.ins0_len

set_option maxRecDepth 10000 in
set_option maxHeartbeats 3200000 in
theorem rep_step (f : Nat) (hterm : ∀ g, g < f → Does 120 g .term 9004) : Does 116 f .rep 9004 := by
  intro B br pat σ v w hR hB hs hC hf hne0
  have HL : Hid ((L pat).length = pat.size) := size_len pat
  obtain ⟨g0, rfl⟩ : ∃ g, f = g + 1 := ⟨f - 1, by simp only [Q.Job.rank] at hf; omega⟩
  simp only [Q.Job.rank] at hf
  have HR : Hid (Rt w B br pat σ v) := hR
  have HC : Hid (Cd pat σ 9004) := hC
  obtain ⟨hC1, hG1, _⟩ := Cd.go (f := g0) (j := .term) (m' := 9001) hC (by simp only [Q.Job.rank]; omega) trivial hne0 (by simp only [Q.Job.cost]; omega)
  have hl1 := hG1.on.left
  have HG : Hid (Q.go (L pat) (g0 + 1) .rep σ = Q.go (L pat) g0 (.repL (Q.go (L pat) g0 .term σ).1) (Q.go (L pat) g0 .term σ).2) := rfl
  rw [HG.out]
  obtain ⟨X, hX⟩ : ∃ X, Q.go (L pat) g0 (.repL (Q.go (L pat) g0 .term σ).1) (Q.go (L pat) g0 .term σ).2 = X := ⟨_, rfl⟩
  rw [hX]
  have HX : Hid (Q.go (L pat) g0 (.repL (Q.go (L pat) g0 .term σ).1) (Q.go (L pat) g0 .term σ).2 = X) := hX
  have HTERM : Hid (Does 120 g0 .term 9004) := hterm g0 (by omega)
  have hfu0 : 8 * Q.left (L pat) σ + Q.Job.rank .term ≤ g0 := by simp only [Q.Job.rank]; omega
  have hlt1 := hG1.lt
  have HNE0 : Hid (Q.Job.needs (L pat) σ .term) := hne0
  have hat1 := hC1.at_
  clear hX hR hC HG hG1 hne0 hterm
  go_enter Try.func116, Try.ntmps116
  go_wp2_with (first
    | (go_at_call 120; refine (HTERM.out B br pat σ v _ HR.out hB hs HC.out hfu0 HNE0.out).mono ?_; rintro e w1 ⟨rfl, ⟨v1, hR1⟩, hB1⟩)
    | (go_at_call 115; refine (next_any br pat _ v1 _ hR1.rd hs hat1).mono ?_; rintro e w2 ⟨rfl, q, rfl⟩))
  go_loopg [3, 4] g0 (fun f i3 i4 wr => ∃ (n : Nat) (τ : Q.Rd) (vv : Value), i3 = .int .i64 n ∧ i4 = .int .i64 (Q.next (L pat) τ) ∧ Rt wr B br pat τ vv ∧ Cd pat τ 9001 ∧ 8 * Q.left (L pat) τ + 1 ≤ f ∧ n < τ.parts.length ∧ Hid (Q.go (L pat) f (.repL n) τ = X) ∧ Below B w wr ∧ f ≤ g0)
  case atStart => exact ⟨_, _, v1, rfl, rfl, hR1.drewN q, hC1, by omega, hlt1, HX, below_drewN hB1 q, Nat.le_refl _⟩
  case round =>
    clear hR1 hB1 hC1 HX HTERM hlt1 hl1
    obtain ⟨n, τ, vv, rfl, rfl, hR1, hC1, hfu, hnl, HX, hB1, hle⟩ := hrel
    obtain ⟨f1, rfl⟩ : ∃ f1, gk = f1 + 1 := ⟨gk - 1, by omega⟩
    cases hrp : Q.isRep (Q.next (L pat) τ) with
    | false =>
      have HE : Hid (X = (n, τ)) := by
        have := HX.out
        unfold Q.go at this
        rw [if_neg (by rw [hrp]; decide)] at this
        exact this.symm
      unfold Q.isRep at hrp
      simp only [Bool.or_eq_false_iff] at hrp
      obtain ⟨⟨⟨q1, q2⟩, q3⟩, q4⟩ := hrp
      go_wp2
      go_ret
      exact ⟨by rw [HE.out]; rfl, ⟨vv, by rw [HE.out]; exact hR1⟩, hB1⟩
    | true =>
      have HGE : Hid (Q.go (L pat) f1 (.repL (Q.add (Q.repPart (L pat) n τ).1 (Q.repPart (L pat) n τ).2).1) (Q.add (Q.repPart (L pat) n τ).1 (Q.repPart (L pat) n τ).2).2 = X) := by
        have := HX.out
        unfold Q.go at this
        rw [if_pos hrp] at this
        exact this
      obtain ⟨o1, hne⟩ := Q.repPart_on n τ hrp
      have hfl := Q.fwd_left hne
      have hfp := Q.phi_fwd hne
      have hpp : (Q.repPart (L pat) n τ).2.parts = τ.parts := Q.repPart_parts n τ
      have hq := Q.phi_on o1 (by rw [hpp, Q.fwd_parts])
      have hat2 : (Q.fwd τ).at_ ≤ pat.size := by have := (Q.fwd_on (s := L pat) hne).len (by rw [HL.out]; exact hC1.at_); rw [HL.out] at this; exact this
      have hl2 := o1.left
      have hC2 : Cd pat (Q.repPart (L pat) n τ).2 8997 := ⟨by have := o1.len (by rw [HL.out]; exact hat2); rw [HL.out] at this; exact this, by rw [hpp]; exact hC1.ok, by have := hC1.phi; omega, by rw [Q.repPart_depth]; have := hC1.dep; omega⟩
      have HPK : Hid (Q.PartOk (Q.repPart (L pat) n τ).2.parts.length (Q.repPart (L pat) n τ).1) := Q.repPart_ok _ _ _ (by rw [hpp]; exact hnl)
      have hC3 := hC2.add HPK.out
      have hlen2 := hC2.len
      have HRP : Hid (Q.isRep (Q.next (L pat) τ) = true) := hrp
      have hmk := mk_len 4 n 0
      have hz0 := zero_len
      have hblt := hR1.lt
      have c1 := hR1.rd.cells.2.1
      have f1' := BlkT.frozen hR1.rd 1
      have nbb : br ≠ wr.heap.size := by omega
      clear HX hne
      have hat := hC1.at_
      have HP0 : Hid (PtT ((wr.setCell ⟨br, 1, none⟩ (.int .i64 ((τ.at_ : Int) + 1))).alloc (.cells (partCells (Q.mk 4 n 0)).toArray 110)) wr.heap.size (Q.mk 4 n 0)) := by
        show PtT _ _ _
        have := PtT.new (wr.setCell ⟨br, 1, none⟩ (.int .i64 ((τ.at_ : Int) + 1))) hmk
        simpa using this
      have HR0 : Hid (RdT ((wr.setCell ⟨br, 1, none⟩ (.int .i64 ((τ.at_ : Int) + 1))).alloc (.cells (partCells (Q.mk 4 n 0)).toArray 110)) br pat (Q.fwd τ) vv) := BlkT.alloc (RdT.fwd hR1.rd (τ.at_ + 1) rfl) _
      have HK0 : Hid (Keep [br] wr ((wr.setCell ⟨br, 1, none⟩ (.int .i64 ((τ.at_ : Int) + 1))).alloc (.cells (partCells (Q.mk 4 n 0)).toArray 110))) := ((Keep.refl [br] wr).setCell (by simp) _).alloc _
      have HOWN : Hid (∀ b, vv.ownBlock = some b → b ∉ [br]) := fun b h hm => hR1.ne (by rw [h, List.mem_singleton.1 hm])
      have hrr : Q.next (L pat) τ = 42 ∨ Q.next (L pat) τ = 43 ∨ Q.next (L pat) τ = 63 ∨ Q.next (L pat) τ = 123 := by
        unfold Q.isRep at hrp
        simp only [Bool.or_eq_true, beq_iff_eq] at hrp
        omega
      clear hrp
      rcases hrr with hc | hc | hc | hc
      · have HRE : Hid (Q.repPart (L pat) n τ = ({ Q.mk 4 n 0 with endless := true }, Q.fwd τ)) := by show _ = _; unfold Q.repPart; rw [if_pos hc]
        rw [hc]
        go_upto_block 2 with (refine wpl_new4 (by rfl) _ _ (by rfl) (by rfl) _ (by rfl) ?_)
        generalize (wr.setCell ⟨br, 1, none⟩ (.int .i64 ((τ.at_ : Int) + 1))).alloc (.cells (partCells (Q.mk 4 n 0)).toArray 110) = W0 at *
        have pf := HP0.out.frozen
        obtain ⟨_, _, d2, d3, d4, _⟩ := HP0.out.cells
        go_upto_region 17 with fail
        have hPW : PtT (W0.setCell ⟨wr.heap.size, 261, none⟩ (.bool true)) wr.heap.size (Q.repPart (L pat) n τ).1 := by rw [HRE.out]; exact HP0.out.endless true
        have hRW : RdT (W0.setCell ⟨wr.heap.size, 261, none⟩ (.bool true)) br pat (Q.repPart (L pat) n τ).2 vv := by rw [HRE.out]; exact HR0.out.other (by simpa using Ne.symm nbb) _
        have hKW : Keep [br] wr (W0.setCell ⟨wr.heap.size, 261, none⟩ (.bool true)) := HK0.out.setNew (by simp) _
        have hrd : rdAt (W0.setCell ⟨wr.heap.size, 261, none⟩ (.bool true)) wr.heap.size 0 = some (partCells (Q.repPart (L pat) n τ).1).toArray := rdAt_of (fun j x hx => by rw [Nat.zero_add, hPW.2.cell j]; exact hx) hPW.1
        have hRtW : Rt (W0.setCell ⟨wr.heap.size, 261, none⟩ (.bool true)) B br pat (Q.repPart (L pat) n τ).2 vv := hR1.keep (τ := (Q.repPart (L pat) n τ).2) hKW HOWN.out hpp hRW
        have hBW : Below B wr (W0.setCell ⟨wr.heap.size, 261, none⟩ (.bool true)) := hKW.to_below (by simpa using hB) (by omega)
        have hlw := hPW.2.lt
        clear hPW hRW hKW
        generalize (W0.setCell ⟨wr.heap.size, 261, none⟩ (.bool true)) = W1 at *
        go_region_law (go_simp; refine (radd_any B br pat _ (Q.repPart (L pat) n τ).1 vv _ hRtW.drew hB (by omega) hC2.ok HPK.out).mono ?_; rintro e w3 ⟨rfl, ⟨v3, hR3⟩, hB3⟩)
        go_wp2_with (go_at_call 115; refine (next_any br pat _ v3 _ hR3.rd hs hC3.at_).mono ?_; rintro e w4 ⟨rfl, q4, rfl⟩)
        go_roundg f1
        case measure => omega
        case rel => exact ⟨_, _, v3, rfl, rfl, hR3.drewN q4, hC3.mono (by omega), by rw [Q.add_left]; omega, by simp [Q.add], HGE, below_drewN ((hB1.trans (below_drew hBW)).trans hB3) q4, by omega⟩
      · have HRE : Hid (Q.repPart (L pat) n τ = ({ Q.mk 4 n 0 with low := 1, endless := true }, Q.fwd τ)) := by show _ = _; unfold Q.repPart; rw [if_neg (by rw [hc]; decide), if_pos hc]
        rw [hc]
        go_upto_block 2 with (refine wpl_new4 (by rfl) _ _ (by rfl) (by rfl) _ (by rfl) ?_)
        generalize (wr.setCell ⟨br, 1, none⟩ (.int .i64 ((τ.at_ : Int) + 1))).alloc (.cells (partCells (Q.mk 4 n 0)).toArray 110) = W0 at *
        have pf := HP0.out.frozen
        obtain ⟨_, _, d2, d3, d4, _⟩ := HP0.out.cells
        go_upto_region 17 with fail
        have hPW : PtT ((W0.setCell ⟨wr.heap.size, 259, none⟩ (.int .i64 1)).setCell ⟨wr.heap.size, 261, none⟩ (.bool true)) wr.heap.size (Q.repPart (L pat) n τ).1 := by rw [HRE.out]; exact (HP0.out.low 1).endless true
        have hRW : RdT ((W0.setCell ⟨wr.heap.size, 259, none⟩ (.int .i64 1)).setCell ⟨wr.heap.size, 261, none⟩ (.bool true)) br pat (Q.repPart (L pat) n τ).2 vv := by rw [HRE.out]; exact (HR0.out.other (by simpa using Ne.symm nbb) _).other (by simpa using Ne.symm nbb) _
        have hKW : Keep [br] wr ((W0.setCell ⟨wr.heap.size, 259, none⟩ (.int .i64 1)).setCell ⟨wr.heap.size, 261, none⟩ (.bool true)) := (HK0.out.setNew (by simp) _).setNew (by simp) _
        have hrd : rdAt ((W0.setCell ⟨wr.heap.size, 259, none⟩ (.int .i64 1)).setCell ⟨wr.heap.size, 261, none⟩ (.bool true)) wr.heap.size 0 = some (partCells (Q.repPart (L pat) n τ).1).toArray := rdAt_of (fun j x hx => by rw [Nat.zero_add, hPW.2.cell j]; exact hx) hPW.1
        have hRtW : Rt ((W0.setCell ⟨wr.heap.size, 259, none⟩ (.int .i64 1)).setCell ⟨wr.heap.size, 261, none⟩ (.bool true)) B br pat (Q.repPart (L pat) n τ).2 vv := hR1.keep (τ := (Q.repPart (L pat) n τ).2) hKW HOWN.out hpp hRW
        have hBW : Below B wr ((W0.setCell ⟨wr.heap.size, 259, none⟩ (.int .i64 1)).setCell ⟨wr.heap.size, 261, none⟩ (.bool true)) := hKW.to_below (by simpa using hB) (by omega)
        have hlw := hPW.2.lt
        clear hPW hRW hKW
        generalize ((W0.setCell ⟨wr.heap.size, 259, none⟩ (.int .i64 1)).setCell ⟨wr.heap.size, 261, none⟩ (.bool true)) = W1 at *
        go_region_law (go_simp; refine (radd_any B br pat _ (Q.repPart (L pat) n τ).1 vv _ hRtW.drew hB (by omega) hC2.ok HPK.out).mono ?_; rintro e w3 ⟨rfl, ⟨v3, hR3⟩, hB3⟩)
        go_wp2_with (go_at_call 115; refine (next_any br pat _ v3 _ hR3.rd hs hC3.at_).mono ?_; rintro e w4 ⟨rfl, q4, rfl⟩)
        go_roundg f1
        case measure => omega
        case rel => exact ⟨_, _, v3, rfl, rfl, hR3.drewN q4, hC3.mono (by omega), by rw [Q.add_left]; omega, by simp [Q.add], HGE, below_drewN ((hB1.trans (below_drew hBW)).trans hB3) q4, by omega⟩
      · have HRE : Hid (Q.repPart (L pat) n τ = ({ Q.mk 4 n 0 with high := 1 }, Q.fwd τ)) := by show _ = _; unfold Q.repPart; rw [if_neg (by rw [hc]; decide), if_neg (by rw [hc]; decide), if_pos hc]
        rw [hc]
        go_upto_block 2 with (refine wpl_new4 (by rfl) _ _ (by rfl) (by rfl) _ (by rfl) ?_)
        generalize (wr.setCell ⟨br, 1, none⟩ (.int .i64 ((τ.at_ : Int) + 1))).alloc (.cells (partCells (Q.mk 4 n 0)).toArray 110) = W0 at *
        have pf := HP0.out.frozen
        obtain ⟨_, _, d2, d3, d4, _⟩ := HP0.out.cells
        go_upto_region 17 with fail
        have hPW : PtT (W0.setCell ⟨wr.heap.size, 260, none⟩ (.int .i64 1)) wr.heap.size (Q.repPart (L pat) n τ).1 := by rw [HRE.out]; exact HP0.out.high 1
        have hRW : RdT (W0.setCell ⟨wr.heap.size, 260, none⟩ (.int .i64 1)) br pat (Q.repPart (L pat) n τ).2 vv := by rw [HRE.out]; exact HR0.out.other (by simpa using Ne.symm nbb) _
        have hKW : Keep [br] wr (W0.setCell ⟨wr.heap.size, 260, none⟩ (.int .i64 1)) := HK0.out.setNew (by simp) _
        have hrd : rdAt (W0.setCell ⟨wr.heap.size, 260, none⟩ (.int .i64 1)) wr.heap.size 0 = some (partCells (Q.repPart (L pat) n τ).1).toArray := rdAt_of (fun j x hx => by rw [Nat.zero_add, hPW.2.cell j]; exact hx) hPW.1
        have hRtW : Rt (W0.setCell ⟨wr.heap.size, 260, none⟩ (.int .i64 1)) B br pat (Q.repPart (L pat) n τ).2 vv := hR1.keep (τ := (Q.repPart (L pat) n τ).2) hKW HOWN.out hpp hRW
        have hBW : Below B wr (W0.setCell ⟨wr.heap.size, 260, none⟩ (.int .i64 1)) := hKW.to_below (by simpa using hB) (by omega)
        have hlw := hPW.2.lt
        clear hPW hRW hKW
        generalize (W0.setCell ⟨wr.heap.size, 260, none⟩ (.int .i64 1)) = W1 at *
        go_region_law (go_simp; refine (radd_any B br pat _ (Q.repPart (L pat) n τ).1 vv _ hRtW.drew hB (by omega) hC2.ok HPK.out).mono ?_; rintro e w3 ⟨rfl, ⟨v3, hR3⟩, hB3⟩)
        go_wp2_with (go_at_call 115; refine (next_any br pat _ v3 _ hR3.rd hs hC3.at_).mono ?_; rintro e w4 ⟨rfl, q4, rfl⟩)
        go_roundg f1
        case measure => omega
        case rel => exact ⟨_, _, v3, rfl, rfl, hR3.drewN q4, hC3.mono (by omega), by rw [Q.add_left]; omega, by simp [Q.add], HGE, below_drewN ((hB1.trans (below_drew hBW)).trans hB3) q4, by omega⟩
      · have HRE : Hid (Q.repPart (L pat) n τ = Q.bounds (L pat) (Q.mk 4 n 0) (Q.fwd τ)) := by show _ = _; unfold Q.repPart; rw [if_neg (by rw [hc]; decide), if_neg (by rw [hc]; decide), if_neg (by rw [hc]; decide)]
        rw [hc]
        go_upto_block 2 with (refine wpl_new4 (by rfl) _ _ (by rfl) (by rfl) _ (by rfl) ?_)
        generalize (wr.setCell ⟨br, 1, none⟩ (.int .i64 ((τ.at_ : Int) + 1))).alloc (.cells (partCells (Q.mk 4 n 0)).toArray 110) = W0 at *
        have pf := HP0.out.frozen
        obtain ⟨_, _, d2, d3, d4, _⟩ := HP0.out.cells
        go_upto_region 17 with (go_at_call 121; refine (bounds_any br wr.heap.size pat (Q.fwd τ) vv (Q.mk 4 n 0) _ HR0.out HP0.out hs hat2 rfl).mono ?_; rintro e w5 ⟨rfl, hR5, hP5, hK5⟩)
        have hPW : PtT w5 wr.heap.size (Q.repPart (L pat) n τ).1 := by rw [HRE.out]; exact hP5
        have hRW : RdT w5 br pat (Q.repPart (L pat) n τ).2 vv := by rw [HRE.out]; exact hR5
        have hKW : Keep [br] wr w5 := HK0.out.trans2 hK5 (by simp)
        have hrd : rdAt w5 wr.heap.size 0 = some (partCells (Q.repPart (L pat) n τ).1).toArray := rdAt_of (fun j x hx => by rw [Nat.zero_add, hPW.2.cell j]; exact hx) hPW.1
        have hRtW : Rt w5 B br pat (Q.repPart (L pat) n τ).2 vv := hR1.keep (τ := (Q.repPart (L pat) n τ).2) hKW HOWN.out hpp hRW
        have hBW : Below B wr w5 := hKW.to_below (by simpa using hB) (by omega)
        have hlw := hPW.2.lt
        clear hPW hRW hKW
        go_region_law (go_simp; refine (radd_any B br pat _ (Q.repPart (L pat) n τ).1 vv _ hRtW.drew hB (by omega) hC2.ok HPK.out).mono ?_; rintro e w3 ⟨rfl, ⟨v3, hR3⟩, hB3⟩)
        go_wp2_with (go_at_call 115; refine (next_any br pat _ v3 _ hR3.rd hs hC3.at_).mono ?_; rintro e w4 ⟨rfl, q4, rfl⟩)
        go_roundg f1
        case measure => omega
        case rel => exact ⟨_, _, v3, rfl, rfl, hR3.drewN q4, hC3.mono (by omega), by rw [Q.add_left]; omega, by simp [Q.add], HGE, below_drewN ((hB1.trans (below_drew hBW)).trans hB3) q4, by omega⟩
end Go.Proofs.Ytjmkkkfloalliaa

namespace Go.Proofs.Ytjmkkkfloalliaa
set_option linter.unusedVariables false
open Go.RowKit

attribute [local go_sem ↓] exec_load_part zero_part
attribute [local go_sem] plainB_p blkB_p offB_p cellsB_a aggB_a okB_part thereB_new thereB_new0 natB_n natOf_n
attribute [local simp] rdAt_drew rdAt_alloc rdAt_sc cell_sc rdAt_set

theorem RdT.depth {w : World} {br : Nat} {pat : ByteArray} {σ : Q.Rd} {v : Value} (h : RdT w br pat σ v) (k : Nat) : RdT (w.setCell ⟨br, 4, none⟩ (.int .i64 (k : Int))) br pat { σ with depth := k } v := BlkT.set h 4 _
theorem RdT.deepest {w : World} {br : Nat} {pat : ByteArray} {σ : Q.Rd} {v : Value} (h : RdT w br pat σ v) (k : Nat) : RdT (w.setCell ⟨br, 5, none⟩ (.int .i64 (k : Int))) br pat { σ with deepest := k } v := BlkT.set h 5 _
theorem Rt.set {w w' : World} {B br : Nat} {pat : ByteArray} {σ τ : Q.Rd} {v : Value} (h : Rt w B br pat σ v) (k : Keep [br] w w') (hp : τ.parts = σ.parts) (hr : RdT w' br pat τ v) : Rt w' B br pat τ v :=
  h.keep k (fun b e hm => h.ne (by rw [e, List.mem_singleton.1 hm])) hp hr

set_option maxRecDepth 10000 in
set_option maxHeartbeats 1600000 in
theorem brk_any (f : Nat) (halt : Does 86 f .alt 9000) (B br : Nat) (pat : ByteArray) (σ : Q.Rd) (v : Value) (w : World) (hR : Rt w B br pat σ v) (hB : B ≤ br) (hs : pat.size ≤ 1000) (hC : Cd pat σ 9004) (hf : 8 * Q.left (L pat) σ ≤ f + 2) (hne : Q.next (L pat) σ ≠ -1) :
    Calls Try.prog 122 #[.pointer (some ⟨br, 0, none⟩)] w fun e w' => e = .returned (.int .i64 ((Q.go (L pat) f .alt (Q.opened σ)).1 : Nat)) ∧ (∃ v', Rt w' B br pat (Q.closed (L pat) (Q.go (L pat) f .alt (Q.opened σ)).2) v') ∧ Below B w w' := by
  have HL : Hid ((L pat).length = pat.size) := size_len pat
  have hlt := hR.lt
  obtain ⟨c0, c1, c2, c3, c4, c5, c6⟩ := hR.rd.cells
  have fz := BlkT.frozen hR.rd
  have hat := hC.at_
  have hdep := hC.dep
  have hol := Q.opened_left hne
  have hop : Q.phi (L pat) (Q.opened σ) + 4 ≤ Q.phi (L pat) σ := by
    unfold Q.phi
    show σ.parts.length + _ + 4 ≤ _
    omega
  have hoat : (Q.opened σ).at_ ≤ pat.size := by have := (Q.opened_on (s := L pat) hne).len (by rw [HL.out]; exact hat); rw [HL.out] at this; exact this
  have hCo : Cd pat (Q.opened σ) 9000 := ⟨hoat, hC.ok, by have := hC.phi; omega, by show σ.depth + 1 + _ ≤ _; omega⟩
  have hfo : 8 * Q.left (L pat) (Q.opened σ) + Q.Job.rank .alt ≤ f := by simp only [Q.Job.rank]; omega
  obtain ⟨hC2, hG2, _⟩ := Cd.go (f := f) (j := .alt) (m' := 9001) hCo hfo trivial trivial (by simp only [Q.Job.cost]; omega)
  have hd2 : (Q.go (L pat) f .alt (Q.opened σ)).2.depth = σ.depth + 1 := Q.go_depth _ _ _ _
  have hat2 := hC2.at_
  have HALT : Hid (Does 86 f .alt 9000) := halt
  have HR : Hid (Rt w B br pat σ v) := hR
  have HCo : Hid (Cd pat (Q.opened σ) 9000) := hCo
  have hfoH : Hid (8 * Q.left (L pat) (Q.opened σ) + Q.Job.rank .alt ≤ f) := hfo
  have hdep1 : σ.depth ≤ 1000 := by omega
  clear hR hC hCo hfo hC2 hG2 hol hop hne
  -- the state that 'alternatives' is called in
  have HOP : ∀ q, Hid (Rt ((((w.setCell ⟨br, 1, none⟩ (.int .i64 ((σ.at_ : Int) + 1))).setCell ⟨br, 4, none⟩ (.int .i64 ((σ.depth : Int) + 1))).drewN q)) B br pat { Q.fwd σ with depth := σ.depth + 1 } v) := fun q => by
    have hk : Keep [br] w ((w.setCell ⟨br, 1, none⟩ (.int .i64 ((σ.at_ : Int) + 1))).setCell ⟨br, 4, none⟩ (.int .i64 ((σ.depth : Int) + 1))) := ((Keep.refl [br] w).setCell (by simp) _).setCell (by simp) _
    refine Rt.drewN (Rt.set (τ := { Q.fwd σ with depth := σ.depth + 1 }) HR.out hk rfl ?_) q
    exact RdT.depth (RdT.fwd HR.out.rd (σ.at_ + 1) rfl) (σ.depth + 1)
  have HKO : ∀ q, Hid (Below B w ((((w.setCell ⟨br, 1, none⟩ (.int .i64 ((σ.at_ : Int) + 1))).setCell ⟨br, 4, none⟩ (.int .i64 ((σ.depth : Int) + 1))).drewN q))) := fun q => below_drewN ((((Below.refl B w).setCell (by simpa using hB) _)).setCell (by simpa using hB) _) q
  by_cases hdd : σ.deepest < σ.depth + 1
  · have hdi : decide ((σ.deepest : Int) < (σ.depth : Int) + 1) = true := by simp; omega
    have HOPE : Hid (Q.opened σ = { Q.fwd σ with depth := σ.depth + 1, deepest := σ.depth + 1 }) := by show _ = _; unfold Q.opened; rw [if_pos hdd]
    go_enter Try.func122, Try.ntmps122
    go_wp2_with fail
    go_quiet (fail)
    have hR3 : Rt ((((w.setCell ⟨br, 1, none⟩ (.int .i64 ((σ.at_ : Int) + 1))).setCell ⟨br, 4, none⟩ (.int .i64 ((σ.depth : Int) + 1))).drewN nq).setCell ⟨br, 5, none⟩ (.int .i64 ((σ.depth : Int) + 1))) B br pat (Q.opened σ) v := by
      rw [HOPE.out]
      exact Rt.set (HOP nq).out ((Keep.refl [br] _).setCell (by simp) _) rfl (RdT.deepest (HOP nq).out.rd (σ.depth + 1))
    have hB3 : Below B w ((((w.setCell ⟨br, 1, none⟩ (.int .i64 ((σ.at_ : Int) + 1))).setCell ⟨br, 4, none⟩ (.int .i64 ((σ.depth : Int) + 1))).drewN nq).setCell ⟨br, 5, none⟩ (.int .i64 ((σ.depth : Int) + 1))) := (HKO nq).out.setCell (by simpa using hB) _
    have HR3 : Hid (Rt ((((w.setCell ⟨br, 1, none⟩ (.int .i64 ((σ.at_ : Int) + 1))).setCell ⟨br, 4, none⟩ (.int .i64 ((σ.depth : Int) + 1))).drewN nq).setCell ⟨br, 5, none⟩ (.int .i64 ((σ.depth : Int) + 1))) B br pat (Q.opened σ) v) := hR3
    clear hR3
    go_wp2_with (first
      | (go_at_call 86; refine (HALT.out B br pat (Q.opened σ) v _ HR3.out hB hs HCo.out hfoH.out trivial).mono ?_; rintro e w4 ⟨rfl, ⟨v4, hR4⟩, hB4⟩; have g4 := hR4.rd.cells.2.2.2.2.1; rw [hd2] at g4; have fz4 := BlkT.frozen hR4.rd; have hR5 := Rt.set (τ := { (Q.go (L pat) f .alt (Q.opened σ)).2 with depth := (Q.go (L pat) f .alt (Q.opened σ)).2.depth - 1 }) hR4 ((Keep.refl [br] w4).setCell (p := ⟨br, 4, none⟩) (by simp) (.int .i64 (σ.depth : Int))) rfl (by rw [hd2]; exact RdT.depth hR4.rd σ.depth))
      | (go_at_call 128; refine (need_any br pat _ v4 41 _ hR5.rd hs hat2).mono ?_; rintro e w6 ⟨rfl, hR6, hK6⟩))
    go_ret
    exact ⟨rfl, ⟨v4, Rt.set hR5 hK6 (Q.need_parts _ _) hR6⟩, ((hB3.trans hB4).setCell (by simpa using hB) _).trans (hK6.to_below (by simpa using hB) (by have := hR5.lt; omega))⟩
  · have hdi : decide ((σ.deepest : Int) < (σ.depth : Int) + 1) = false := by simp; omega
    have HOPE : Hid (Q.opened σ = { Q.fwd σ with depth := σ.depth + 1 }) := by show _ = _; unfold Q.opened; rw [if_neg hdd]; rfl
    go_enter Try.func122, Try.ntmps122
    go_wp2_with fail
    go_quiet (fail)
    have HR3 : Hid (Rt (((w.setCell ⟨br, 1, none⟩ (.int .i64 ((σ.at_ : Int) + 1))).setCell ⟨br, 4, none⟩ (.int .i64 ((σ.depth : Int) + 1))).drewN nq) B br pat (Q.opened σ) v) := by
      show Rt _ _ _ _ _ _
      rw [HOPE.out]
      exact (HOP nq).out
    have hB3 := (HKO nq).out
    go_wp2_with (first
      | (go_at_call 86; refine (HALT.out B br pat (Q.opened σ) v _ HR3.out hB hs HCo.out hfoH.out trivial).mono ?_; rintro e w4 ⟨rfl, ⟨v4, hR4⟩, hB4⟩; have g4 := hR4.rd.cells.2.2.2.2.1; rw [hd2] at g4; have fz4 := BlkT.frozen hR4.rd; have hR5 := Rt.set (τ := { (Q.go (L pat) f .alt (Q.opened σ)).2 with depth := (Q.go (L pat) f .alt (Q.opened σ)).2.depth - 1 }) hR4 ((Keep.refl [br] w4).setCell (p := ⟨br, 4, none⟩) (by simp) (.int .i64 (σ.depth : Int))) rfl (by rw [hd2]; exact RdT.depth hR4.rd σ.depth))
      | (go_at_call 128; refine (need_any br pat _ v4 41 _ hR5.rd hs hat2).mono ?_; rintro e w6 ⟨rfl, hR6, hK6⟩))
    go_ret
    exact ⟨rfl, ⟨v4, Rt.set hR5 hK6 (Q.need_parts _ _) hR6⟩, ((hB3.trans hB4).setCell (by simpa using hB) _).trans (hK6.to_below (by simpa using hB) (by have := hR5.lt; omega))⟩

theorem Q.stops_ne {c : Int} (h : Q.stops c = false) : (c == -1) = false ∧ (c == 41) = false ∧ (c == 124) = false ∧ (c == 42) = false ∧ (c == 43) = false ∧ (c == 63) = false ∧ (c == 123) = false ∧ (c == 125) = false ∧ (c == 93) = false := by
  unfold Q.stops at h
  simp only [Bool.or_eq_false_iff] at h
  obtain ⟨⟨⟨⟨⟨⟨⟨⟨h1, h2⟩, h3⟩, h4⟩, h5⟩, h6⟩, h7⟩, h8⟩, h9⟩ := h
  exact ⟨h1, h2, h3, h4, h5, h6, h7, h8, h9⟩
theorem Q.stops_eq {c : Int} (h : Q.stops c = true) : c = -1 ∨ c = 41 ∨ c = 124 ∨ c = 42 ∨ c = 43 ∨ c = 63 ∨ c = 123 ∨ c = 125 ∨ c = 93 := by
  unfold Q.stops at h
  simp only [Bool.or_eq_true, beq_iff_eq] at h
  omega

set_option maxRecDepth 10000 in
set_option maxHeartbeats 6400000 in
theorem term_step (f : Nat) (halt : ∀ g, g < f → Does 86 g .alt 9000) : Does 120 f .term 9004 := by
  intro B br pat σ v w hR hB hs hC hf hne
  have HL : Hid ((L pat).length = pat.size) := size_len pat
  obtain ⟨g0, rfl⟩ : ∃ g, f = g + 1 := ⟨f - 1, by simp only [Q.Job.rank] at hf; omega⟩
  simp only [Q.Job.rank] at hf
  have hlt := hR.lt
  have HR : Hid (Rt w B br pat σ v) := hR
  have HC : Hid (Cd pat σ 9004) := hC
  have HNE : Hid (Q.next (L pat) σ ≠ -1) := hne
  have hmk := mk_len 1 0 0
  have hz0 := zero_len
  have hat := hC.at_
  have HK0 : Hid (Keep [br] w (w.alloc (.cells (partCells (Q.mk 1 0 0)).toArray 110))) := (Keep.refl [br] w).alloc _
  have HP0 : Hid (PtT (w.alloc (.cells (partCells (Q.mk 1 0 0)).toArray 110)) w.heap.size (Q.mk 1 0 0)) := PtT.new w hmk
  have HR0 : Hid (Rt (w.alloc (.cells (partCells (Q.mk 1 0 0)).toArray 110)) B br pat σ v) := hR.alloc _
  by_cases h40 : Q.next (L pat) σ = 40
  · have HG : Hid (Q.go (L pat) (g0 + 1) .term σ = ((Q.go (L pat) g0 .alt (Q.opened σ)).1, Q.closed (L pat) (Q.go (L pat) g0 .alt (Q.opened σ)).2)) := by show _ = _; conv => lhs; unfold Q.go; rw [if_pos h40]
    rw [HG.out]
    have HALT : Hid (Does 86 g0 .alt 9000) := halt g0 (by omega)
    have HBB : ∀ q, Hid (Below B w ((w.alloc (.cells (partCells (Q.mk 1 0 0)).toArray 110)).drewN q)) := fun q => below_drewN ((Below.refl B w).alloc (by omega) _) q
    clear hR hC hne halt
    go_enter Try.func120, Try.ntmps120
    go_wp2_with (first
      | (refine wpl_new1 (by rfl) _ _ (by rfl) (by rfl) (by rfl) ?_)
      | (go_at_call 115; refine (next_any br pat σ v _ HR0.out.rd hs hat).mono ?_; rintro e w1 ⟨rfl, q, rfl⟩; rw [h40])
      | (go_at_call 122; refine (brk_any g0 HALT.out B br pat σ v _ (HR0.out.drewN q) hB hs HC.out (by omega) HNE.out).mono ?_; rintro e w2 ⟨rfl, ⟨v2, hR2⟩, hB2⟩))
    go_ret
    exact ⟨rfl, ⟨v2, hR2⟩, (HBB q).out.trans hB2⟩
  · have HG : Hid (Q.go (L pat) (g0 + 1) .term σ = Q.add (Q.leaf (L pat) σ).1 (Q.leaf (L pat) σ).2) := by show _ = _; conv => lhs; unfold Q.go; rw [if_neg h40]
    rw [HG.out]
    have hpp : (Q.leaf (L pat) σ).2.parts = σ.parts := Q.leaf_parts σ
    have hlen : (Q.leaf (L pat) σ).2.parts.length ≤ 10000 := by rw [hpp]; have := hC.len; omega
    have HOK2 : Hid (Q.PartsOk (Q.leaf (L pat) σ).2.parts) := by show Q.PartsOk _; rw [hpp]; exact hC.ok
    have HPK : Hid (Q.PartOk (Q.leaf (L pat) σ).2.parts.length (Q.leaf (L pat) σ).1) := Q.leaf_ok _ _
    have hnr := Q.next_range (s := L pat) σ
    have hafw : (Q.fwd σ).at_ ≤ pat.size := by have := (Q.fwd_on (s := L pat) hne).len (by rw [HL.out]; exact hat); rw [HL.out] at this; exact this
    have halt2 : σ.at_ < pat.size := hafw
    have q40 : (Q.next (L pat) σ == 40) = false := by simp [h40]
    clear hR hC hne halt h40 HG
    go_enter Try.func120, Try.ntmps120
    go_upto_block 0 with (first
      | (refine wpl_new1 (by rfl) _ _ (by rfl) (by rfl) (by rfl) ?_)
      | (go_at_call 115; refine (next_any br pat σ v _ HR0.out.rd hs hat).mono ?_; rintro e w1 ⟨rfl, q, rfl⟩))
    have HK1 : Hid (Keep [br] w ((w.alloc (.cells (partCells (Q.mk 1 0 0)).toArray 110)).drewN q)) := HK0.out.drewN q
    have HP1 : Hid (PtT ((w.alloc (.cells (partCells (Q.mk 1 0 0)).toArray 110)).drewN q) w.heap.size (Q.mk 1 0 0)) := HP0.out
    have HR1 : Hid (RdT ((w.alloc (.cells (partCells (Q.mk 1 0 0)).toArray 110)).drewN q) br pat σ v) := HR0.out.rd
    clear HK0 HP0 HR0
    generalize (w.alloc (.cells (partCells (Q.mk 1 0 0)).toArray 110)).drewN q = w1 at *
    have nbb : w.heap.size ≠ br := by omega
    go_cut [] from 4 (fun wc => RdT wc br pat (Q.leaf (L pat) σ).2 v ∧ PtT wc w.heap.size (Q.leaf (L pat) σ).1 ∧ Keep [br] w wc)
    case first =>
      have pf := HP1.out.frozen
      have rf := BlkT.frozen HR1.out
      obtain ⟨_, r1, r2, _⟩ := HR1.out.cells
      cases hst : Q.stops (Q.next (L pat) σ) with
      | true =>
        have HE : Hid (Q.leaf (L pat) σ = (Q.mk 1 0 0, { σ with wrong := true })) := by show _ = _; unfold Q.leaf; rw [if_pos hst]
        have HD : Hid (RdT (w1.setCell ⟨br, 2, none⟩ (.bool true)) br pat (Q.leaf (L pat) σ).2 v ∧ PtT (w1.setCell ⟨br, 2, none⟩ (.bool true)) w.heap.size (Q.leaf (L pat) σ).1 ∧ Keep [br] w (w1.setCell ⟨br, 2, none⟩ (.bool true))) := by
          show _ ∧ _
          rw [HE.out]
          exact ⟨HR1.out.wrong, HP1.out.other (by simpa using Ne.symm nbb) _, HK1.out.setCell (by simp) _⟩
        have hcs := Q.stops_eq hst
        clear hst q40
        rcases hcs with hc | hc | hc | hc | hc | hc | hc | hc | hc <;>
        · rw [hc]
          go_wp2
          go_meet
          case rel => exact HD.out
      | false =>
        obtain ⟨s1, s2, s3, s4, s5, s6, s7, s8, s9⟩ := Q.stops_ne hst
        have HF : Hid (RdT (w1.setCell ⟨br, 1, none⟩ (.int .i64 ((σ.at_ : Int) + 1))) br pat (Q.fwd σ) v) := RdT.fwd HR1.out (σ.at_ + 1) rfl
        have HPF : Hid (PtT (w1.setCell ⟨br, 1, none⟩ (.int .i64 ((σ.at_ : Int) + 1))) w.heap.size (Q.mk 1 0 0)) := HP1.out.other (by simpa using Ne.symm nbb) _
        have HKF : Hid (Keep [br] w (w1.setCell ⟨br, 1, none⟩ (.int .i64 ((σ.at_ : Int) + 1)))) := HK1.out.setCell (by simp) _
        by_cases h91 : Q.next (L pat) σ = 91
        · have HE : Hid (Q.leaf (L pat) σ = ({ Q.mk 1 0 0 with ins := (Q.cls (L pat) Q.ins0 σ).1 }, (Q.cls (L pat) Q.ins0 σ).2)) := by show _ = _; unfold Q.leaf; rw [if_neg (by rw [hst]; decide), if_pos h91]
          clear hst s1 s2 s3 s4 s5 s6 s7 s8 s9 q40
          rw [h91]
          go_wp2_with (go_at_call 123; refine (class_any' br w.heap.size pat σ v (Q.mk 1 0 0) _ HR1.out HP1.out hs halt2).mono ?_; rintro e w2 ⟨rfl, hR2, hP2, hK2⟩)
          go_meet
          case rel =>
            rw [HE.out]
            exact ⟨hR2, hP2, HK1.out.trans2 hK2 (by simp)⟩
        by_cases h46 : Q.next (L pat) σ = 46
        · have HE : Hid (Q.leaf (L pat) σ = ({ Q.mk 1 0 0 with ins := Q.turn Q.ins0 }, Q.fwd σ)) := by show _ = _; unfold Q.leaf; rw [if_neg (by rw [hst]; decide), if_neg h91, if_pos h46]
          clear hst s1 s2 s3 s4 s5 s6 s7 s8 s9 q40 h91
          rw [h46]
          go_wp2_with (go_at_call 124; refine (turn_any w.heap.size (Q.mk 1 0 0) _ HPF.out).mono ?_; rintro e w2 ⟨rfl, hP2, hK2⟩)
          go_meet
          case rel =>
            rw [HE.out]
            exact ⟨HF.out.keep hK2 (by simpa using Ne.symm nbb), hP2, HKF.out.trans2 hK2 (by simp)⟩
        by_cases h92 : Q.next (L pat) σ = 92
        · have HE : Hid (Q.leaf (L pat) σ = ({ Q.mk 1 0 0 with ins := Q.ins0.set (Q.anyByte (L pat) (Q.fwd σ)).1 true }, (Q.anyByte (L pat) (Q.fwd σ)).2)) := by show _ = _; unfold Q.leaf; rw [if_neg (by rw [hst]; decide), if_neg h91, if_neg h46, if_pos h92]
          have hab := Q.anyByte_lt (s := L pat) (Q.fwd σ)
          have habi : ((Q.anyByte (L pat) (Q.fwd σ)).1 : Int) < 256 := by omega
          clear hst s1 s2 s3 s4 s5 s6 s7 s8 s9 q40 h91 h46
          rw [h92]
          go_wp2_with (go_at_call 125; refine (anyByte_any br pat _ v _ HF.out hs hafw).mono ?_; rintro e w2 ⟨rfl, hR2, hK2⟩; have hP2 := HPF.out.keep hK2 (by simpa using nbb); have hc2 := hP2.cellI _ hab; have pf2 := hP2.frozen)
          go_meet
          case rel =>
            rw [HE.out]
            exact ⟨hR2.other (by simpa using nbb) _, hP2.ins _ hab true, (HKF.out.trans hK2).setNew (by simp) _⟩
        · have HE : Hid (Q.leaf (L pat) σ = ({ Q.mk 1 0 0 with ins := Q.ins0.set (Q.next (L pat) σ).toNat true }, Q.fwd σ)) := by show _ = _; unfold Q.leaf; rw [if_neg (by rw [hst]; decide), if_neg h91, if_neg h46, if_neg h92]
          have q91 : (Q.next (L pat) σ == 91) = false := by simp [h91]
          have q46 : (Q.next (L pat) σ == 46) = false := by simp [h46]
          have q92 : (Q.next (L pat) σ == 92) = false := by simp [h92]
          obtain ⟨cn, hcn⟩ : ∃ cn : Nat, Q.next (L pat) σ = (cn : Int) := ⟨(Q.next (L pat) σ).toNat, by have := hnr.1; have : Q.next (L pat) σ ≠ -1 := HNE.out; omega⟩
          have hcl : cn < 256 := by have := hnr.2; omega
          have hci : (cn : Int) < 256 := by omega
          have HCN : Hid ((Q.next (L pat) σ).toNat = cn) := by show _ = _; rw [hcn]; simp
          have hc2 := HPF.out.cellI cn hcl
          have pf2 := HPF.out.frozen
          rw [hcn] at s1 s2 s3 s4 s5 s6 s7 s8 s9 q40 q91 q46 q92
          rw [hcn]
          clear hst h91 h46 h92 hcn hnr
          go_wp2
          go_meet
          case rel =>
            rw [HE.out, HCN.out]
            exact ⟨HF.out.other (by simpa using nbb) _, HPF.out.ins cn hcl true, HKF.out.setNew (by simp) _⟩
    case rest =>
      clear HR1 HP1 HK1
      obtain ⟨hRW, hPW, hKW⟩ := hcut
      have hrd : rdAt wc w.heap.size 0 = some (partCells (Q.leaf (L pat) σ).1).toArray := rdAt_of (fun j x hx => by rw [Nat.zero_add, hPW.2.cell j]; exact hx) hPW.1
      have hRtW : Rt wc B br pat (Q.leaf (L pat) σ).2 v := Rt.set HR.out hKW hpp hRW
      have hBW : Below B w wc := hKW.to_below (by simpa using hB) (by omega)
      clear hPW hRW hKW
      go_wp2_with fail
      go_region_law (go_simp; refine (radd_any B br pat _ (Q.leaf (L pat) σ).1 v _ hRtW.drew hB hlen HOK2.out HPK.out).mono ?_; rintro e w3 ⟨rfl, ⟨v3, hR3⟩, hB3⟩)
      go_wp2
      go_ret
      exact ⟨rfl, ⟨v3, hR3⟩, (below_drew hBW).trans hB3⟩
end Go.Proofs.Ytjmkkkfloalliaa

namespace Go.Proofs.Ytjmkkkfloalliaa
set_option linter.unusedVariables false
open Go.RowKit

theorem reader_all (f : Nat) : Does 86 f .alt 9000 ∧ Does 101 f .seq 9000 ∧ Does 116 f .rep 9004 ∧ Does 120 f .term 9004 := by
  induction f using Nat.strongRecOn with
  | _ f ih => exact ⟨alt_step f (fun g hg => (ih g hg).2.1), seq_step f (fun g hg => (ih g hg).2.2.1), rep_step f (fun g hg => (ih g hg).2.2.2), term_step f (fun g hg => (ih g hg).1)⟩

def Q.rd0 : Q.Rd := ⟨0, false, false, 0, 0, []⟩
def Q.top (s : List UInt8) : Nat × Q.Rd := Q.go s (8 * s.length + 6) .alt Q.rd0
/-- the whole of a pattern read -/
def Q.whole (s : List UInt8) : Nat × Q.Rd := ((Q.top s).1, { (Q.top s).2 with wrong := (Q.top s).2.wrong || decide ((Q.top s).2.at_ < s.length) })
theorem Q.top_good (s : List UInt8) : Q.Good (s := s) Q.rd0 (Q.top s) :=
  (Q.go_good (s := s) _ .alt Q.rd0 (by simp only [Q.Job.rank]; have : Q.left s Q.rd0 = s.length := rfl; omega) (fun i p h => by simp [Q.rd0] at h) trivial).1

set_option maxRecDepth 10000 in
set_option maxHeartbeats 1600000 in
theorem whole_any (B br : Nat) (pat : ByteArray) (v : Value) (w : World) (hR : Rt w B br pat Q.rd0 v) (hB : B ≤ br) (hs : pat.size ≤ 1000) :
    Calls Try.prog 73 #[.pointer (some ⟨br, 0, none⟩)] w fun e w' => e = .returned (.int .i64 ((Q.whole (L pat)).1 : Nat)) ∧ (∃ v', Rt w' B br pat (Q.whole (L pat)).2 v') ∧ Below B w w' := by
  have HL : Hid ((L pat).length = pat.size) := size_len pat
  have HALT := (reader_all (8 * (L pat).length + 6)).1
  have hleft : Q.left (L pat) Q.rd0 = pat.size := size_len pat
  have hC : Cd pat Q.rd0 9000 := ⟨Nat.zero_le _, fun i p h => by simp [Q.rd0] at h, by unfold Q.phi; rw [hleft]; show 0 + 4 * pat.size ≤ 9000; omega, by rw [hleft]; show 0 + pat.size ≤ 1000; omega⟩
  have hf : 8 * Q.left (L pat) Q.rd0 + Q.Job.rank .alt ≤ 8 * (L pat).length + 6 := by rw [hleft, HL.out]; simp only [Q.Job.rank]; omega
  have HCALL := HALT B br pat Q.rd0 v w hR hB hs hC hf trivial
  have hat : (Q.top (L pat)).2.at_ ≤ pat.size := by have := (Q.top_good (L pat)).on.len (Nat.zero_le _); rw [HL.out] at this; exact this
  have HCA : Hid (Calls Try.prog 86 #[.pointer (some ⟨br, 0, none⟩)] w fun e w' => e = .returned (.int .i64 ((Q.top (L pat)).1 : Nat)) ∧ (∃ v', Rt w' B br pat (Q.top (L pat)).2 v') ∧ Below B w w') := HCALL
  clear HALT HCALL hC hf hleft hR
  by_cases hlt : (Q.top (L pat)).2.at_ < pat.size
  · have hd : decide (((Q.top (L pat)).2.at_ : Int) < (pat.size : Int)) = true := by simp; omega
    have HW : Hid (Q.whole (L pat) = ((Q.top (L pat)).1, { (Q.top (L pat)).2 with wrong := true })) := by
      show _ = _
      unfold Q.whole
      have : decide ((Q.top (L pat)).2.at_ < (L pat).length) = true := by rw [HL.out]; simp [hlt]
      rw [this, Bool.or_true]
    rw [HW.out]
    go_enter Try.func73, Try.ntmps73
    go_wp2_with (go_at_call 86; refine HCA.out.mono ?_; rintro e w1 ⟨rfl, ⟨v1, hR1⟩, hB1⟩; obtain ⟨r0, r1, r2, _⟩ := hR1.rd.cells; have rf := BlkT.frozen hR1.rd)
    go_quiet (fail)
    go_wp2
    go_ret
    exact ⟨rfl, ⟨v1, Rt.set (hR1.drewN nq) ((Keep.refl [br] _).setCell (by simp) _) rfl (RdT.wrong (hR1.rd.drewN nq))⟩, (below_drewN hB1 nq).setCell (by simpa using hB) _⟩
  · have hd : decide (((Q.top (L pat)).2.at_ : Int) < (pat.size : Int)) = false := by simp; omega
    have HW : Hid (Q.whole (L pat) = Q.top (L pat)) := by
      show _ = _
      unfold Q.whole
      have : decide ((Q.top (L pat)).2.at_ < (L pat).length) = false := by rw [HL.out]; simp; omega
      rw [this, Bool.or_false]
    rw [HW.out]
    go_enter Try.func73, Try.ntmps73
    go_wp2_with (go_at_call 86; refine HCA.out.mono ?_; rintro e w1 ⟨rfl, ⟨v1, hR1⟩, hB1⟩; obtain ⟨r0, r1, r2, _⟩ := hR1.rd.cells)
    go_quiet (fail)
    go_wp2
    go_ret
    exact ⟨rfl, ⟨v1, hR1.drewN nq⟩, below_drewN hB1 nq⟩

theorem Q.takeTo_zero {p : Q.Pat} (h : Q.PatOk p) (ins : List Bool) (pl : Nat) : Q.takeTo 0 ins pl p = p := by
  unfold Q.takeTo
  have : (Q.tab 256 fun i => if i < 0 ∧ ins.getD i false = true then p.takes.getD i 0 ||| pl else p.takes.getD i 0) = p.takes := by
    rw [← Q.tab_eq 256 p.takes h.tlen]
    apply Q.tab_congr
    intro i hi
    rw [if_neg (by omega), Q.tab_eq 256 p.takes h.tlen]
  rw [this]
theorem Q.takeTo_skip {p : Q.Pat} (k : Nat) (ins : List Bool) (pl : Nat) (hb : ins.getD k false = false) : Q.takeTo (k + 1) ins pl p = Q.takeTo k ins pl p := by
  unfold Q.takeTo
  congr 1
  apply Q.tab_congr
  intro i hi
  by_cases h : i < k ∧ ins.getD i false = true
  · rw [if_pos h, if_pos ⟨by omega, h.2⟩]
  · rw [if_neg h]
    split
    · next h2 =>
      have : i = k := by
        rcases Nat.lt_or_ge i k with h3 | h3
        · exact absurd ⟨h3, h2.2⟩ h
        · omega
      subst this
      rw [hb] at h2
      cases h2.2
    · rfl
theorem Q.takeTo_step {p : Q.Pat} (k : Nat) (ins : List Bool) (pl : Nat) (hk : k < 256) (hb : ins.getD k false = true) : Q.takeTo (k + 1) ins pl p = { Q.takeTo k ins pl p with takes := (Q.takeTo k ins pl p).takes.set k (p.takes.getD k 0 ||| pl) } := by
  unfold Q.takeTo
  simp only
  rw [Q.tab_set]
  congr 1
  apply Q.tab_congr
  intro i hi
  by_cases e : i = k
  · subst e
    rw [if_pos ⟨by omega, hb⟩, if_pos rfl]
  · rw [if_neg e]
    by_cases h : i < k ∧ ins.getD i false = true
    · rw [if_pos h, if_pos ⟨by omega, h.2⟩]
    · rw [if_neg h, if_neg (by intro h2; exact h ⟨by omega, h2.2⟩)]
theorem Q.takeTo_at {p : Q.Pat} (k : Nat) (ins : List Bool) (pl : Nat) (hk : k < 256) : (Q.takeTo k ins pl p).takes.getD k 0 = p.takes.getD k 0 := by
  unfold Q.takeTo
  simp only
  rw [Q.tab_at _ _ _ hk, if_neg (by omega)]
theorem Q.takeTo_ok {p : Q.Pat} (k : Nat) (ins : List Bool) (pl : Nat) (h : Q.PatOk p) (hf : pl < 2 ^ p.size) : Q.PatOk (Q.takeTo k ins pl p) := by
  refine ⟨h.size, h.pos, h.alen, Q.tab_len _ _, h.a, fun i => ?_, h.b⟩
  simp only [Q.takeTo]
  rw [Q.getD_tab]
  have hp : 0 < 2 ^ p.size := Nat.pow_pos (by decide)
  split
  · split
    · exact Nat.or_lt_two_pow (h.t i) hf
    · exact h.t i
  · exact hp

/-- one place more -/
def Q.grow (p : Q.Pat) : Q.Pat := { p with size := p.size + 1 }
theorem Q.grow_ok {p : Q.Pat} (h : Q.PatOk p) (hs : p.size < 49) : Q.PatOk (Q.grow p) := by
  have h1 : 2 ^ p.size < 2 ^ (p.size + 1) := Nat.pow_lt_pow_right (by decide) (by omega)
  exact ⟨hs, by show 1 ≤ p.size + 1; omega, h.alen, h.tlen, fun i => Nat.lt_trans (h.a i) h1, fun i => Nat.lt_trans (h.t i) h1, Nat.lt_trans h.b h1⟩

set_option maxRecDepth 10000 in
set_option maxHeartbeats 1600000 in
theorem layByte_any (bp : Nat) (p : Q.Pat) (t : Q.Part) (w : World) (hP : PaT w bp p) (hl : t.ins.length = 256) (hs : p.size < 49) :
    Calls Try.prog 106 #[.pointer (some ⟨bp, 0, none⟩), .agg (partCells t).toArray] w fun e w' => e = .returned (spanV (Q.layByte t.ins p).1) ∧ PaT w' bp (Q.layByte t.ins p).2 ∧ Keep [bp] w w' := by
  have hlt := hP.blk.lt
  obtain ⟨pl, hple⟩ : ∃ pl, pl = 2 ^ p.size := ⟨_, rfl⟩
  have HPL : Hid (pl = 2 ^ p.size) := hple
  have HOK : Hid (Q.PatOk (Q.grow p)) := Q.grow_ok hP.ok hs
  have hpl : pl < 2 ^ (Q.grow p).size := by rw [hple]; exact Nat.pow_lt_pow_right (by decide) (by show p.size < p.size + 1; omega)
  have hpl49 : pl < 2 ^ 49 := Q.lt64 HOK.out hpl
  have HE : Hid (Q.layByte t.ins p = (⟨pl, pl, false⟩, Q.takeTo 256 t.ins pl (Q.grow p))) := by show _ = _; unfold Q.layByte; rw [hple]; rfl
  rw [HE.out]
  have c0 := hP.c0
  have fz := hP.fz
  have HPW : Hid (PaT (((w.setCell ⟨bp, 0, none⟩ (.int .i64 ((p.size : Int) + 1))).alloc (.cells (partCells t).toArray 110)).alloc (.cells #[.int .u64 0, .int .u64 0, .bool false] 144)) bp (Q.grow p)) := ((hP.setS (p.size + 1) HOK.out rfl).alloc _).alloc _
  have HTW : Hid (PtT (((w.setCell ⟨bp, 0, none⟩ (.int .i64 ((p.size : Int) + 1))).alloc (.cells (partCells t).toArray 110)).alloc (.cells #[.int .u64 0, .int .u64 0, .bool false] 144)) w.heap.size t) := by
    show PtT _ _ _
    have := (PtT.new (w.setCell ⟨bp, 0, none⟩ (.int .i64 ((p.size : Int) + 1))) hl).alloc (.cells #[.int .u64 0, .int .u64 0, .bool false] 144)
    simpa using this
  have HSW : Hid (BlkT (((w.setCell ⟨bp, 0, none⟩ (.int .i64 ((p.size : Int) + 1))).alloc (.cells (partCells t).toArray 110)).alloc (.cells #[.int .u64 0, .int .u64 0, .bool false] 144)) (w.heap.size + 1) 144 [.int .u64 0, .int .u64 0, .bool false]) := by
    show BlkT _ _ _ _
    have := BlkT.new ((w.setCell ⟨bp, 0, none⟩ (.int .i64 ((p.size : Int) + 1))).alloc (.cells (partCells t).toArray 110)) #[.int .u64 0, .int .u64 0, .bool false] 144
    simpa using this
  have HKW : Hid (Keep [bp] w (((w.setCell ⟨bp, 0, none⟩ (.int .i64 ((p.size : Int) + 1))).alloc (.cells (partCells t).toArray 110)).alloc (.cells #[.int .u64 0, .int .u64 0, .bool false] 144))) := (((Keep.refl [bp] w).setCell (by simp) _).alloc _).alloc _
  clear HE hple hP
  unfold spanV
  go_enter Try.func106, Try.ntmps106
  go_wp2_with (go_at_call 107; refine (bit_any p.size pl _ (by omega) HPL).mono ?_; rintro e w1 ⟨rfl, rfl⟩)
  clear c0 fz
  generalize ((w.setCell ⟨bp, 0, none⟩ (.int .i64 ((p.size : Int) + 1))).alloc (.cells (partCells t).toArray 110)).alloc (.cells #[.int .u64 0, .int .u64 0, .bool false] 144) = w0 at *
  have HT0 : Hid (Q.takeTo 0 t.ins pl (Q.grow p) = Q.grow p) := Q.takeTo_zero HOK.out _ _
  go_loopw [19] (fun i wr => ∃ k : Nat, k ≤ 256 ∧ i = .int .i64 k ∧ PaT wr bp (Q.takeTo k t.ins pl (Q.grow p)) ∧ Keep [bp] w0 wr) (fun i _ => 256 - (intOf i).toNat)
  case atStart => exact ⟨0, by omega, rfl, by rw [HT0.out]; exact HPW.out, Keep.refl _ _⟩
  case round =>
    obtain ⟨k, hk, rfl, hPk, hKk⟩ := hrel
    have hTk := HTW.out.keep hKk (by simp; omega)
    by_cases hlt2 : k < 256
    · have hc := hTk.cellI k hlt2
      have hks : (k : Int) < 256 := by omega
      have HKk : Hid (Keep [bp] w0 wr) := hKk
      cases hb : t.ins.getD k false with
      | false =>
        rw [hb] at hc
        have HPk : Hid (PaT wr bp (Q.takeTo k t.ins pl (Q.grow p))) := hPk
        clear hPk hTk hKk
        go_wp2
        go_roundw
        case rel => exact ⟨k + 1, by omega, by go_num, by rw [Q.takeTo_skip _ _ _ hb]; exact HPk.out, HKk.out⟩
        case measure => simp [intOf]; omega
      | true =>
        rw [hb] at hc
        have ct := hPk.ct k hlt2
        rw [Q.takeTo_at _ _ _ hlt2] at ct
        have fz := hPk.fz
        have hX : (Q.grow p).takes.getD k 0 < 2 ^ 49 := Q.lt64 HOK.out (HOK.out.t k)
        obtain ⟨O, hOe⟩ : ∃ O, O = (Q.grow p).takes.getD k 0 ||| pl := ⟨_, rfl⟩
        have hO : bits .or .u64 (((Q.grow p).takes.getD k 0 : Nat) : Int) (pl : Int) = (O : Int) := by rw [hOe]; exact or_u hX hpl49
        have HN : Hid (PaT (wr.setCell ⟨bp, 50 + k, none⟩ (.int .u64 (O : Int))) bp (Q.takeTo (k + 1) t.ins pl (Q.grow p))) := by
          refine hPk.setT k O hlt2 (Q.takeTo_ok _ _ _ HOK.out hpl) ?_
          rw [Q.takeTo_step k _ _ hlt2 hb, hOe]
        generalize (Q.grow p).takes.getD k 0 = X at *
        clear hOe hPk hTk hKk
        go_wp2_with fail
        go_region
        all_goals go_wp2
        all_goals go_roundw
        all_goals first
          | (case rel => exact ⟨k + 1, by omega, by go_num, HN.out.drew, (HKk.out.setCell (by simp) _).drew⟩)
          | (case measure => simp [intOf]; omega)
          | skip
    · obtain rfl : k = 256 := by omega
      have hSk := HSW.out.keep hKk (by simp; omega)
      have s0 := hSk.cell 0; have s1 := hSk.cell 1; have s2 := hSk.cell 2
      have sf := hSk.frozen
      simp only [List.getElem?_cons_zero, List.getElem?_cons_succ] at s0 s1 s2
      have HPk : Hid (PaT wr bp (Q.takeTo 256 t.ins pl (Q.grow p))) := hPk
      have HKk : Hid (Keep [bp] w wr) := HKW.out.trans hKk
      clear hPk hTk hKk hSk
      go_wp2
      exact bodyPost_ret (v := .agg #[.int .u64 (pl : Int), .int .u64 (pl : Int), .bool false]) (by simp [results, Try.results106, go_sem, *]) rfl ⟨rfl, ((HPk.out.other (by simp; omega) _).other (by simp; omega) _).other (by simp; omega) _, ((HKk.out.setNew (by simp) _).setNew (by simp) _).setNew (by simp) _⟩
end Go.Proofs.Ytjmkkkfloalliaa

namespace Go.Proofs.Ytjmkkkfloalliaa
set_option linter.unusedVariables false
open Go.RowKit

/-- a tree of parts in memory -/
structure TE (w : World) (bt ot g cap : Nat) (ps : List Q.Part) : Prop where
  ct : w.cell? ⟨bt, ot, none⟩ = some (.slice (some ⟨g, 0, none⟩) ps.length cap)
  rg : ∀ i, i < ps.length → w.rangeAt g (i * 265) (partCells (Q.at_ ps i))
  lb : bt < w.heap.size
  lg : g < w.heap.size
theorem cell_keep {S : List Nat} {w w' : World} {a : Addr} (k : Keep S w w') (hl : a.block < w.heap.size) (hS : a.block ∉ S) : w'.cell? a = w.cell? a := World.cell?_of_block (k.block a.block hl hS)
theorem TE.keep {S : List Nat} {w w' : World} {bt ot g cap : Nat} {ps : List Q.Part} (h : TE w bt ot g cap ps) (k : Keep S w w') (h1 : bt ∉ S) (h2 : g ∉ S) : TE w' bt ot g cap ps :=
  ⟨(cell_keep k h.lb h1).trans h.ct, fun i hi j x hx => (cell_keep k h.lg h2).trans (h.rg i hi j x hx), Nat.lt_of_lt_of_le h.lb k.size, Nat.lt_of_lt_of_le h.lg k.size⟩
def spanC (a : Q.Span) : List Value := [.int .u64 (a.first : Int), .int .u64 (a.last : Int), .bool a.empty]

/-- what 'lay' does -/
def LayD (f : Nat) : Prop := ∀ (bp bt ot g cap : Nat) (ps : List Q.Part) (n : Nat) (p : Q.Pat) (w : World), PaT w bp p → TE w bt ot g cap ps → Q.PartsOk ps → bp ≠ g → bp ≠ bt → n < ps.length → n < f → p.size + (Q.at_ ps n).places ≤ 49 →
  Calls Try.prog 87 #[.pointer (some ⟨bp, 0, none⟩), .pointer (some ⟨bt, ot, none⟩), .int .i64 (n : Int)] w fun e w' => e = .returned (spanV (Q.lay ps f n p).1) ∧ PaT w' bp (Q.lay ps f n p).2 ∧ Keep [bp] w w'

set_option maxRecDepth 10000 in
set_option maxHeartbeats 3200000 in
theorem layCopies_any (f : Nat) (hlay : LayD f) (bp bt ot g cap : Nat) (ps : List Q.Part) (t : Q.Part) (p : Q.Pat) (w : World) (hP : PaT w bp p) (hT : TE w bt ot g cap ps) (hps : Q.PartsOk ps) (h1 : bp ≠ g) (h2 : bp ≠ bt) (hn : t.left < ps.length) (hf : t.left < f) (hi : t.ins.length = 256) (hlow : t.low ≤ 99) (hhigh : t.high ≤ 99)
    (hsz : p.size + (Q.at_ ps t.left).places * t.copies ≤ 49) :
    Calls Try.prog 105 #[.pointer (some ⟨bp, 0, none⟩), .pointer (some ⟨bt, ot, none⟩), .agg (partCells t).toArray] w fun e w' =>
      e = .returned (spanV (Q.copies (Q.lay ps f t.left) t.low t.endless t.copies t.copies ⟨0, 0, true⟩ p).1) ∧ PaT w' bp (Q.copies (Q.lay ps f t.left) t.low t.endless t.copies t.copies ⟨0, 0, true⟩ p).2 ∧ Keep [bp] w w' := by
  have hlt := hP.blk.lt
  have hco : t.copies ≤ 100 := by unfold Q.Part.copies; split <;> omega
  obtain ⟨X, hX⟩ : ∃ X, Q.copies (Q.lay ps f t.left) t.low t.endless t.copies t.copies ⟨0, 0, true⟩ p = X := ⟨_, rfl⟩
  rw [hX]
  have HX : Hid (Q.copies (Q.lay ps f t.left) t.low t.endless t.copies t.copies ⟨0, 0, true⟩ p = X) := hX
  have HP : Hid (PaT w bp p) := hP
  have HT : Hid (TE w bt ot g cap ps) := hT
  have HLAYS : Hid (Q.Lays (Q.at_ ps t.left).places (Q.lay ps f t.left)) := Q.lay_ok hps f t.left hf hn
  have HLAY : Hid (LayD f) := hlay
  have HPS : Hid (Q.PartsOk ps) := hps
  have HPT : Hid (PtT ((w.alloc (.cells (partCells t).toArray 110)).alloc (.cells #[.int .u64 0, .int .u64 0, .bool false] 144)) w.heap.size t) := (PtT.new w hi).alloc _
  have HRS : Hid (BlkT ((w.alloc (.cells (partCells t).toArray 110)).alloc (.cells #[.int .u64 0, .int .u64 0, .bool false] 144)) (w.heap.size + 1) 144 [.int .u64 0, .int .u64 0, .bool false]) := by
    show BlkT _ _ _ _
    have := BlkT.new (w.alloc (.cells (partCells t).toArray 110)) #[.int .u64 0, .int .u64 0, .bool false] 144
    simpa using this
  have HKW : Hid (Keep [] w ((w.alloc (.cells (partCells t).toArray 110)).alloc (.cells #[.int .u64 0, .int .u64 0, .bool false] 144))) := ((Keep.refl [] w).alloc _).alloc _
  have hsz0 : ((w.alloc (.cells (partCells t).toArray 110)).alloc (.cells #[.int .u64 0, .int .u64 0, .bool false] 144)).heap.size = w.heap.size + 2 := by simp
  clear hX hlay hP hT
  unfold spanV
  go_enter Try.func105, Try.ntmps105
  go_wp2_with (go_at_call 117; refine (copies_any w.heap.size t _ HPT.out hlow).mono ?_; rintro e w9 ⟨rfl, rfl⟩)
  have HA3 : Hid (BlkT (((w.alloc (.cells (partCells t).toArray 110)).alloc (.cells #[.int .u64 0, .int .u64 0, .bool false] 144)).alloc (.cells #[.int .u64 0, .int .u64 0, .bool true] 144)) (w.heap.size + 2) 144 (spanC ⟨0, 0, true⟩)) := by
    show BlkT _ _ _ _
    have := BlkT.new ((w.alloc (.cells (partCells t).toArray 110)).alloc (.cells #[.int .u64 0, .int .u64 0, .bool false] 144)) #[.int .u64 0, .int .u64 0, .bool true] 144
    rw [hsz0] at this
    exact this
  have HT3 := HPT.out.alloc (.cells #[.int .u64 0, .int .u64 0, .bool true] 144)
  have HR3 := HRS.out.alloc (.cells #[.int .u64 0, .int .u64 0, .bool true] 144)
  have HK3 := HKW.out.alloc (.cells #[.int .u64 0, .int .u64 0, .bool true] 144)
  generalize (((w.alloc (.cells (partCells t).toArray 110)).alloc (.cells #[.int .u64 0, .int .u64 0, .bool false] 144)).alloc (.cells #[.int .u64 0, .int .u64 0, .bool true] 144)) = w3 at *
  clear HPT HRS HKW hsz0
  have z3 : w.heap.size + 2 < w3.heap.size := HA3.out.lt
  have HT3H : Hid (PtT w3 w.heap.size t) := HT3
  have HR3H : Hid (BlkT w3 (w.heap.size + 1) 144 [.int .u64 0, .int .u64 0, .bool false]) := HR3
  have HK3H : Hid (Keep [] w w3) := HK3
  clear HT3 HR3 HK3
  go_loopw [9] (fun i wr => ∃ (kk : Nat) (all : Q.Span) (p' : Q.Pat), i = .int .i64 kk ∧ 1 ≤ kk ∧ kk ≤ t.copies + 1 ∧ PaT wr bp p' ∧ BlkT wr (w.heap.size + 2) 144 (spanC all) ∧ Q.SpanOk p' all ∧ p'.size + (Q.at_ ps t.left).places * (t.copies + 1 - kk) ≤ 49 ∧
    Hid (Q.copies (Q.lay ps f t.left) t.low t.endless t.copies (t.copies + 1 - kk) all p' = X) ∧ Keep [bp, w.heap.size + 2] w3 wr) (fun i _ => 200 - (intOf i).toNat)
  case atStart =>
    have hp0 : 0 < 2 ^ p.size := Nat.pow_pos (by decide)
    exact ⟨1, ⟨0, 0, true⟩, p, rfl, Nat.le_refl _, by omega, HP.out.keep HK3H.out (by simp), HA3.out, ⟨hp0, hp0⟩, by rw [Nat.add_sub_cancel]; exact hsz, by show _ = _; rw [Nat.add_sub_cancel]; exact HX.out, Keep.refl _ _⟩
  case round =>
    obtain ⟨kk, all, p', rfl, hk1, hk2, hPk, hAk, hSk, hzk, HXk, hKk⟩ := hrel
    have hTk := HT3H.out.keep hKk (by simp; omega)
    have hTE : TE wr bt ot g cap ps := (HT.out.keep HK3H.out (by simp) (by simp)).keep hKk (by have := HT.out.lb; simp; omega) (by have := HT.out.lg; simp; omega)
    have hsk := hKk.size
    obtain ⟨t0, _, t2, _, t4, _⟩ := hTk.cells
    by_cases hle : kk ≤ t.copies
    · obtain ⟨d, hd⟩ : ∃ d, t.copies + 1 - kk = d + 1 := ⟨t.copies - kk, by omega⟩
      rw [hd] at hzk HXk
      have hzk2 : p'.size + (Q.at_ ps t.left).places + (Q.at_ ps t.left).places * d ≤ 49 := by rw [Nat.mul_succ] at hzk; omega
      obtain ⟨l1, l2, l3⟩ := HLAYS.out p' hPk.ok (by omega)
      have HCA : Hid (Calls Try.prog 87 #[.pointer (some ⟨bp, 0, none⟩), .pointer (some ⟨bt, ot, none⟩), .int .i64 (t.left : Int)] wr fun e w' => e = .returned (spanV (Q.lay ps f t.left p').1) ∧ PaT w' bp (Q.lay ps f t.left p').2 ∧ Keep [bp] wr w') := HLAY.out bp bt ot g cap ps t.left p' wr hPk hTE HPS.out h1 h2 hn hf (by omega)
      have HTk : Hid (PtT wr w.heap.size t) := hTk
      have HAk : Hid (BlkT wr (w.heap.size + 2) 144 (spanC all)) := hAk
      have HKk : Hid (Keep [bp, w.heap.size + 2] w3 wr) := hKk
      have HUN : Hid (∀ (one : Q.Span) (q : Q.Pat), one = { (Q.lay ps f t.left p').1 with empty := decide (t.low < kk) || (Q.lay ps f t.left p').1.empty } → q = (if t.endless = true ∧ d = 0 then Q.link one.last one.first (Q.lay ps f t.left p').2 else (Q.lay ps f t.left p').2) → Q.copies (Q.lay ps f t.left) t.low t.endless t.copies d (Q.join all one q).1 (Q.join all one q).2 = X) := by
        intro one q ho hq
        rw [← HXk.out]
        conv => rhs; unfold Q.copies
        simp only
        have e1 : t.copies - d = kk := by omega
        rw [e1]
        subst ho
        subst hq
        rfl
      clear hTk hAk hKk hTE hPk HXk
      generalize hYe : Q.lay ps f t.left p' = Y at *
      obtain ⟨⟨yf, yl, ye⟩, yp⟩ := Y
      simp only at HCA HUN l1 l2 l3
      unfold spanV at HCA
      go_upto_if 26 with (go_at_call 87; refine HCA.out.mono ?_; rintro e w4 ⟨rfl, hP4, hK4⟩; have hT4 := HTk.out.keep hK4 (by simp; omega); obtain ⟨_, _, u2, _, u4, _⟩ := hT4.cells; have z4 : w.heap.size < w4.heap.size := by (have := hK4.size; omega))
      have hB5 : BlkT (w4.alloc (.cells #[.int .u64 (yf : Int), .int .u64 (yl : Int), .bool ye] 144)) w4.heap.size 144 [.int .u64 (yf : Int), .int .u64 (yl : Int), .bool ye] := BlkT.new w4 _ _
      have hP5 : PaT (w4.alloc (.cells #[.int .u64 (yf : Int), .int .u64 (yl : Int), .bool ye] 144)) bp yp := hP4.alloc _
      have hT5 : PtT (w4.alloc (.cells #[.int .u64 (yf : Int), .int .u64 (yl : Int), .bool ye] 144)) w.heap.size t := hT4.alloc _
      have hA5 : BlkT (w4.alloc (.cells #[.int .u64 (yf : Int), .int .u64 (yl : Int), .bool ye] 144)) (w.heap.size + 2) 144 (spanC all) := (HAk.out.keep hK4 (by simp; omega)).alloc _
      have hK5 : Keep [bp, w.heap.size + 2] w3 (w4.alloc (.cells #[.int .u64 (yf : Int), .int .u64 (yl : Int), .bool ye] 144)) := (HKk.out.trans hK4.two).alloc _
      have z5 : w3.heap.size ≤ w4.heap.size := Nat.le_trans hsk hK4.size
      have z6 : (w4.alloc (.cells #[.int .u64 (yf : Int), .int .u64 (yl : Int), .bool ye] 144)).heap.size = w4.heap.size + 1 := by simp
      clear hP4 hT4 hK4 u2 u4 t0 t2 t4 HTk HAk HKk HCA z4
      generalize w4.alloc (.cells #[.int .u64 (yf : Int), .int .u64 (yl : Int), .bool ye] 144) = w5 at *
      obtain ⟨bo, hbo⟩ : ∃ bo, w4.heap.size = bo := ⟨_, rfl⟩
      rw [hbo] at hB5 z5 z6 ⊢
      clear hbo
      go_cut [] from 18 to 44 (fun wc => BlkT wc bo 144 [.int .u64 (yf : Int), .int .u64 (yl : Int), .bool (decide (t.low < kk) || ye)] ∧ Keep [bo] w5 wc)
      case first =>
        have o2 := hB5.cell 2
        have of_ := hB5.frozen
        simp only [List.getElem?_cons_zero, List.getElem?_cons_succ] at o2
        by_cases hlk : t.low < kk
        · have hdk : decide (t.low < kk) = true := by simp [hlk]
          go_wp2
          go_meet
          case rel =>
            rw [hdk, Bool.true_or]
            exact ⟨hB5.set 2 _, (Keep.refl _ _).setCell (by simp) _⟩
        · have hdk : decide (t.low < kk) = false := by simp; omega
          go_wp2
          go_meet
          case rel =>
            rw [hdk, Bool.false_or]
            exact ⟨hB5, Keep.refl _ _⟩
      case rest =>
        obtain ⟨hB6, hK6⟩ := hcut
        have hP6 := hP5.keep hK6 (by simp; omega)
        have hT6 := hT5.keep hK6 (by simp; omega)
        have hA6 := hA5.keep hK6 (by simp; omega)
        have hK7 : Keep [bp, w.heap.size + 2] w3 wc := hK5.trans2 hK6 (by simp; omega)
        have z7 : bo < wc.heap.size := hB6.lt
        clear hB5 hP5 hT5 hA5 hK5 hK6
        obtain ⟨_, _, _, _, u4, _⟩ := hT6.cells
        have o0 := hB6.cell 0; have o1 := hB6.cell 1; have o2 := hB6.cell 2
        simp only [List.getElem?_cons_zero, List.getElem?_cons_succ] at o0 o1 o2
        obtain ⟨ee, hee⟩ : ∃ ee, (decide (t.low < kk) || ye) = ee := ⟨_, rfl⟩
        rw [hee] at hB6 o2
        obtain ⟨q, hq⟩ : ∃ q, q = (if t.endless = true ∧ d = 0 then Q.link yl yf yp else yp) := ⟨_, rfl⟩
        have HU2 : Hid (Q.copies (Q.lay ps f t.left) t.low t.endless t.copies d (Q.join all ⟨yf, yl, ee⟩ q).1 (Q.join all ⟨yf, yl, ee⟩ q).2 = X) := HUN.out ⟨yf, yl, ee⟩ q (by rw [← hee]) hq
        have hqok : Q.PatOk q ∧ q.size = yp.size := by
          rw [hq]
          split
          · exact ⟨Q.link_ok _ _ l1 l2.2, rfl⟩
          · exact ⟨l1, rfl⟩
        have hyl := l2.2
        have hyf := Q.lt64 l1 l2.1
        have HP6 : Hid (PaT wc bp yp) := hP6
        simp only at hyl hyf
        obtain ⟨bb, hbb⟩ : ∃ bb, bb = (t.endless && decide (kk = t.copies)) := ⟨_, rfl⟩
        obtain ⟨wE, hwE⟩ : ∃ wE, wE = wc := ⟨_, rfl⟩
        have HWE : Hid (wE = wc) := hwE
        clear hwE
        go_upto_region 9 with fail
        go_cut [34] from 18 to 44 (fun s34 wz => s34 = .bool bb ∧ wz = wE)
        case first =>
          cases he : t.endless with
          | false =>
            rw [he] at u4
            go_wp2
            go_meet
            case rel => exact ⟨by rw [hbb, he]; rfl, HWE.out.symm⟩
          | true =>
            rw [he] at u4
            by_cases hkc : kk = t.copies
            · have qk : ((kk : Int) == (t.copies : Int)) = true := by simp [hkc]
              have hb2 : bb = true := by rw [hbb, he]; simp [hkc]
              clear hbb hkc
              go_wp2
              go_meet
              case rel => exact ⟨by rw [hb2], HWE.out.symm⟩
            · have qk : ((kk : Int) == (t.copies : Int)) = false := by simp; omega
              have hb2 : bb = false := by rw [hbb, he]; simp [hkc]
              clear hbb hkc
              go_wp2
              go_meet
              case rel => exact ⟨by rw [hb2], HWE.out.symm⟩
        case rest =>
        obtain ⟨rfl, rfl⟩ := hcut
        have hEE := HWE.out
        subst hEE
        clear HWE
        go_upto_if 34 with fail
        go_cut [] from 18 to 44 (fun wd => PaT wd bp q ∧ Keep [bp] wc wd)
        case first =>
          cases hb3 : bb with
          | false =>
            have hq2 : q = yp := by
              rw [hq, if_neg]
              rintro ⟨h, h'⟩
              rw [hb3, h] at hbb
              have : kk = t.copies := by omega
              simp [this] at hbb
            clear hq hbb
            go_wp2
            go_meet
            case rel => exact ⟨by rw [hq2]; exact HP6.out, Keep.refl _ _⟩
          | true =>
            have hq2 : q = Q.link yl yf yp := by
              rw [hb3] at hbb
              have := hbb.symm
              simp only [Bool.and_eq_true, decide_eq_true_eq] at this
              rw [hq, if_pos ⟨this.1, by omega⟩]
            clear hq hbb
            go_wp2_with (go_at_call 118; refine (link_any bp yp yl yf _ HP6.out hyl hyf).mono ?_; rintro e w8 ⟨rfl, hP8, hK8⟩)
            go_meet
            case rel => exact ⟨by rw [hq2]; exact hP8, hK8⟩
        case rest =>
          obtain ⟨hP8, hK8⟩ := hcut
          have A9 := hA6.keep hK8 (by simp; omega)
          have B9 := hB6.keep hK8 (by simp; omega)
          have hK9 : Keep [bp, w.heap.size + 2] w3 wc := hK7.trans hK8.two
          have a0 := A9.cell 0; have a1 := A9.cell 1; have a2 := A9.cell 2
          have b0 := B9.cell 0; have b1 := B9.cell 1; have b2 := B9.cell 2
          simp only [spanC, List.getElem?_cons_zero, List.getElem?_cons_succ] at a0 a1 a2 b0 b1 b2
          have hSq : Q.SpanOk q all := hSk.mono (by rw [hqok.2, l3]; omega)
          have hSo : Q.SpanOk q ⟨yf, yl, ee⟩ := ⟨by rw [hqok.2]; exact l2.1, by rw [hqok.2]; exact l2.2⟩
          have HJ := pjoin_any bp q all ⟨yf, yl, ee⟩ wc hP8 hSq hSo
          obtain ⟨j1, j2, j3⟩ := Q.join_ok hqok.1 hSq hSo
          generalize hJe : Q.join all ⟨yf, yl, ee⟩ q = J at *
          obtain ⟨⟨jf, jl, je⟩, jp⟩ := J
          unfold spanV at HJ
          simp only at HJ j1 j2 j3
          have HJH : Hid (Calls Try.prog 104 #[.pointer (some ⟨bp, 0, none⟩), .agg #[.int .u64 (all.first : Int), .int .u64 (all.last : Int), .bool all.empty], .agg #[.int .u64 (yf : Int), .int .u64 (yl : Int), .bool ee]] wc fun e w' => e = .returned (.agg #[.int .u64 (jf : Int), .int .u64 (jl : Int), .bool je]) ∧ PaT w' bp jp ∧ Keep [bp] wc w') := HJ
          have HK9 : Hid (Keep [bp, w.heap.size + 2] w3 wc) := hK9
          have HA9 : Hid (BlkT wc (w.heap.size + 2) 144 (spanC all)) := A9
          have z9 := A9.lt
          have hjs : jp.size = p'.size + (Q.at_ ps t.left).places := by rw [j3, hqok.2, l3]
          clear HJ hK9 A9 B9 hP6 hT6 hA6 hK7 hB6 hP8 hK8 o0 o1 o2 u4 HP6
          go_wp2_with (go_at_call 104; refine HJH.out.mono ?_; rintro e w10 ⟨rfl, hP10, hK10⟩; have A10 := HA9.out.keep hK10 (by simp; omega); have x0 := A10.cell 0; have x1 := A10.cell 1; have x2 := A10.cell 2; have xf := A10.frozen; simp only [spanC, List.getElem?_cons_zero, List.getElem?_cons_succ] at x0 x1 x2)
          go_roundw
          case rel =>
            refine ⟨kk + 1, ⟨jf, jl, je⟩, jp, by go_num, by omega, by omega, ((hP10.other (by simp; omega) _).other (by simp; omega) _).other (by simp; omega) _, ((A10.set 0 _).set 1 _).set 2 _, j2, ?_, ?_, ((HK9.out.trans hK10.two).setCell (by simp) _ |>.setCell (by simp) _).setCell (by simp) _⟩
            · rw [show t.copies + 1 - (kk + 1) = d by omega, hjs]; omega
            · show _ = _
              rw [show t.copies + 1 - (kk + 1) = d by omega]
              exact HU2.out
          case measure => simp [intOf]; omega
    · have hend : kk = t.copies + 1 := by omega
      have HXE : Hid (X = (all, p')) := by
        have := HXk.out
        rw [hend, Nat.sub_self] at this
        exact this.symm
      have hR9 := HR3H.out.keep hKk (by simp; omega)
      have a0 := hAk.cell 0; have a1 := hAk.cell 1; have a2 := hAk.cell 2
      have r0 := hR9.cell 0; have r1 := hR9.cell 1; have r2 := hR9.cell 2
      have rf := hR9.frozen
      simp only [spanC, List.getElem?_cons_zero, List.getElem?_cons_succ] at a0 a1 a2 r0 r1 r2
      have HPk : Hid (PaT wr bp p') := hPk
      have HKk : Hid (Keep [bp] w wr) := (HK3H.out.mono (by simp)).trans2 (S := [bp]) hKk (by simp)
      obtain ⟨af, al, ae⟩ := all
      simp only at a0 a1 a2
      clear hPk hAk hKk hTk hTE hR9 t0 t2 t4 HXk
      go_wp2
      exact bodyPost_ret (v := .agg #[.int .u64 (af : Int), .int .u64 (al : Int), .bool ae]) (by simp [results, Try.results105, go_sem, *]) rfl ⟨by rw [HXE.out], by rw [HXE.out]; exact ((HPk.out.other (by simp; omega) _).other (by simp; omega) _).other (by simp; omega) _, ((HKk.out.setNew (by simp) _).setNew (by simp) _).setNew (by simp) _⟩
end Go.Proofs.Ytjmkkkfloalliaa

