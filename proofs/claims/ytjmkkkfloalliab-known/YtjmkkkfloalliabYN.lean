import Derived.Test.YtjmkkkfloalliabYM
import Derived.Test.YtjmkkkfloalliabYK
-- the reader: repetitions
namespace Go.Proofs.Ytjmkkkfloalliab
set_option linter.unusedVariables false
open Go.RowKit

theorem thereB_new0 {w : World} {q : Q.Part} (T : TypeId) (hq : q.ins.length = 256) : thereB (w.alloc (.cells (partCells q).toArray T)) w.heap.size 0 = true := thereB_new T hq
attribute [local go_sem ↓] exec_load_part zero_part
attribute [local go_sem] plainB_p blkB_p offB_p cellsB_a aggB_a okB_part thereB_new thereB_new0 natB_n natOf_n natB_0 natB_1 natB_2 natB_3 natB_4 natOf_0 natOf_1 natOf_2 natOf_3 natOf_4
attribute [local simp] rdAt_drew rdAt_alloc rdAt_sc cell_sc rdAt_set

theorem set1 : (partCells zeroPart).set 0 (.int .i64 1) = partCells (Q.mk 1 0 0) := by kernel_rfl
theorem set4 (n : Nat) : ((partCells zeroPart).set 0 (.int .i64 4)).set 257 (.int .i64 (n : Int)) = partCells (Q.mk 4 n 0) := by kernel_rfl
theorem wpl_new {ops : Array Oper} {rest : List Oper} {op : Oper} {a : Act} {w : World} {QQ : Exit → Act → World → Prop} (hgd : op.guard = none) (x y : Operand) (ho : op.op = .store 90 x y) (hx : a.eval x = .pointer (some ⟨w.heap.size, 0, none⟩))
    (p : Q.Part) (hl : p.ins.length = 256) (hy : a.eval y = .agg (partCells p).toArray) (h : wpList Try.prog ops QQ rest (a.put op.dst undef) (w.alloc (.cells (partCells p).toArray 90))) :
    wpList Try.prog ops QQ (op :: rest) a (w.alloc (.cells (partCells zeroPart).toArray 90)) := by
  refine wpList_store_mid hgd _ x y ho w.heap.size 0 (partCells p).toArray hx hy ?_ ?_ (all_oneCell_toArray (pc_one p)) ?_
  · intro j hj
    have hj2 : j < 265 := by simpa [partCells_len hl] using hj
    have hB : BlkT (w.alloc (.cells (partCells zeroPart).toArray 90)) w.heap.size 90 (partCells zeroPart) := BlkT.new w _ _
    rw [hB.frozen, hB.cell, List.getElem?_eq_getElem (by rw [partCells_len zero_len]; omega)]
    exact ⟨rfl, rfl⟩
  · rw [Try.size110]; simp [partCells_len hl]
  · rw [List.toList_toArray, new_part hl zero_len]
    exact h
theorem wpl_new1 {ops : Array Oper} {rest : List Oper} {op : Oper} {a : Act} {w : World} {QQ : Exit → Act → World → Prop} (hgd : op.guard = none) (x y : Operand) (ho : op.op = .store 90 x y) (hx : a.eval x = .pointer (some ⟨w.heap.size, 0, none⟩))
    (hy : a.eval y = .agg ((partCells zeroPart).set 0 (.int .i64 1)).toArray) (h : wpList Try.prog ops QQ rest (a.put op.dst undef) (w.alloc (.cells (partCells (Q.mk 1 0 0)).toArray 90))) :
    wpList Try.prog ops QQ (op :: rest) a (w.alloc (.cells (partCells zeroPart).toArray 90)) :=
  wpl_new hgd x y ho hx _ Q.ins0_len (by rw [hy, set1]) h
theorem wpl_new4 {ops : Array Oper} {rest : List Oper} {op : Oper} {a : Act} {w : World} {QQ : Exit → Act → World → Prop} (hgd : op.guard = none) (x y : Operand) (ho : op.op = .store 90 x y) (hx : a.eval x = .pointer (some ⟨w.heap.size, 0, none⟩))
    (n : Nat) (hy : a.eval y = .agg (((partCells zeroPart).set 0 (.int .i64 4)).set 257 (.int .i64 (n : Int))).toArray) (h : wpList Try.prog ops QQ rest (a.put op.dst undef) (w.alloc (.cells (partCells (Q.mk 4 n 0)).toArray 90))) :
    wpList Try.prog ops QQ (op :: rest) a (w.alloc (.cells (partCells zeroPart).toArray 90)) :=
  wpl_new hgd x y ho hx _ Q.ins0_len (by rw [hy, set4]) h
theorem mk_len (k l r : Nat) : (Q.mk k l r).ins.length = 256 := Q.ins0_len

set_option maxRecDepth 10000 in
set_option maxHeartbeats 3200000 in
theorem rep_step (f : Nat) (hterm : ∀ g, g < f → Does 106 g .term 9004) : Does 92 f .rep 9004 := by
  intro B br pat σ v w hR hB hs hC hf hne0
  have HL : Hid ((L pat).length = pat.size) := size_len pat
  obtain ⟨g0, rfl⟩ : ∃ g, f = g + 1 := ⟨f - 1, by simp only [Q.Job.rank] at hf; omega⟩
  simp only [Q.Job.rank] at hf
  have HR : Hid (Rt w B br pat σ v) := hR
  have HC : Hid (Cd pat σ 9004) := hC
  obtain ⟨hC1, hG1, _⟩ := Cd.go (f := g0) (j := .term) (m' := 9001) hC (by simp only [Q.Job.rank]; omega) trivial hne0 (by simp only [Q.Job.cost]; omega)
  have hl1 := hG1.on.left
  have HG : Hid (Q.go (L pat) (g0 + 1) .rep σ = Q.go (L pat) g0 (.repL (Q.go (L pat) g0 .term σ).1) (Q.go (L pat) g0 .term σ).2) := rfl
  rw [HG.out]
  obtain ⟨X, hX⟩ : ∃ X, Q.go (L pat) g0 (.repL (Q.go (L pat) g0 .term σ).1) (Q.go (L pat) g0 .term σ).2 = X := ⟨_, rfl⟩
  rw [hX]
  have HX : Hid (Q.go (L pat) g0 (.repL (Q.go (L pat) g0 .term σ).1) (Q.go (L pat) g0 .term σ).2 = X) := hX
  have HTERM : Hid (Does 106 g0 .term 9004) := hterm g0 (by omega)
  have hfu0 : 8 * Q.left (L pat) σ + Q.Job.rank .term ≤ g0 := by simp only [Q.Job.rank]; omega
  have hlt1 := hG1.lt
  have HNE0 : Hid (Q.Job.needs (L pat) σ .term) := hne0
  have hat1 := hC1.at_
  clear hX hR hC HG hG1 hne0 hterm
  go_enter Try.func92, Try.ntmps92
  go_wp2_with (first
    | (go_at_call 106; refine (HTERM.out B br pat σ v _ HR.out hB hs HC.out hfu0 HNE0.out).mono ?_; rintro e w1 ⟨rfl, ⟨v1, hR1⟩, hB1⟩)
    | (go_at_call 91; refine (next_any br pat _ v1 _ hR1.rd hs hat1).mono ?_; rintro e w2 ⟨rfl, q, rfl⟩))
  go_loopg [3, 4] g0 (fun f i3 i4 wr => ∃ (n : Nat) (τ : Q.Rd) (vv : Value), i3 = .int .i64 n ∧ i4 = .int .i64 (Q.next (L pat) τ) ∧ Rt wr B br pat τ vv ∧ Cd pat τ 9001 ∧ 8 * Q.left (L pat) τ + 1 ≤ f ∧ n < τ.parts.length ∧ Hid (Q.go (L pat) f (.repL n) τ = X) ∧ Below B w wr ∧ f ≤ g0)
  case atStart => exact ⟨_, _, v1, rfl, rfl, hR1.drewN q, hC1, by omega, hlt1, HX, below_drewN hB1 q, Nat.le_refl _⟩
  case round =>
    clear hR1 hB1 hC1 HX HTERM hlt1 hl1
    obtain ⟨n, τ, vv, rfl, rfl, hR1, hC1, hfu, hnl, HX, hB1, hle⟩ := hrel
    obtain ⟨f1, rfl⟩ : ∃ f1, gk = f1 + 1 := ⟨gk - 1, by omega⟩
    cases hrp : Q.isRep (Q.next (L pat) τ) with
    | false =>
      have HE : Hid (X = (n, τ)) := by
        have := HX.out
        unfold Q.go at this
        rw [if_neg (by rw [hrp]; decide)] at this
        exact this.symm
      unfold Q.isRep at hrp
      simp only [Bool.or_eq_false_iff] at hrp
      obtain ⟨⟨⟨q1, q2⟩, q3⟩, q4⟩ := hrp
      go_wp2
      go_ret
      exact ⟨by rw [HE.out]; rfl, ⟨vv, by rw [HE.out]; exact hR1⟩, hB1⟩
    | true =>
      have HGE : Hid (Q.go (L pat) f1 (.repL (Q.add (Q.repPart (L pat) n τ).1 (Q.repPart (L pat) n τ).2).1) (Q.add (Q.repPart (L pat) n τ).1 (Q.repPart (L pat) n τ).2).2 = X) := by
        have := HX.out
        unfold Q.go at this
        rw [if_pos hrp] at this
        exact this
      obtain ⟨o1, hne⟩ := Q.repPart_on n τ hrp
      have hfl := Q.fwd_left hne
      have hfp := Q.phi_fwd hne
      have hpp : (Q.repPart (L pat) n τ).2.parts = τ.parts := Q.repPart_parts n τ
      have hq := Q.phi_on o1 (by rw [hpp, Q.fwd_parts])
      have hat2 : (Q.fwd τ).at_ ≤ pat.size := by have := (Q.fwd_on (s := L pat) hne).len (by rw [HL.out]; exact hC1.at_); rw [HL.out] at this; exact this
      have hl2 := o1.left
      have hC2 : Cd pat (Q.repPart (L pat) n τ).2 8997 := ⟨by have := o1.len (by rw [HL.out]; exact hat2); rw [HL.out] at this; exact this, by rw [hpp]; exact hC1.ok, by have := hC1.phi; omega, by rw [Q.repPart_depth]; have := hC1.dep; omega⟩
      have HPK : Hid (Q.PartOk (Q.repPart (L pat) n τ).2.parts.length (Q.repPart (L pat) n τ).1) := Q.repPart_ok _ _ _ (by rw [hpp]; exact hnl)
      have hC3 := hC2.add HPK.out
      have hlen2 := hC2.len
      have HRP : Hid (Q.isRep (Q.next (L pat) τ) = true) := hrp
      have hmk := mk_len 4 n 0
      have hz0 := zero_len
      have hblt := hR1.lt
      have c1 := hR1.rd.cells.2.1
      have f1' := BlkT.frozen hR1.rd 1
      have nbb : br ≠ wr.heap.size := by omega
      clear HX hne
      have hat := hC1.at_
      have HP0 : Hid (PtT ((wr.setCell ⟨br, 1, none⟩ (.int .i64 ((τ.at_ : Int) + 1))).alloc (.cells (partCells (Q.mk 4 n 0)).toArray 90)) wr.heap.size (Q.mk 4 n 0)) := by
        show PtT _ _ _
        have := PtT.new (wr.setCell ⟨br, 1, none⟩ (.int .i64 ((τ.at_ : Int) + 1))) hmk
        simpa using this
      have HR0 : Hid (RdT ((wr.setCell ⟨br, 1, none⟩ (.int .i64 ((τ.at_ : Int) + 1))).alloc (.cells (partCells (Q.mk 4 n 0)).toArray 90)) br pat (Q.fwd τ) vv) := BlkT.alloc (RdT.fwd hR1.rd (τ.at_ + 1) rfl) _
      have HK0 : Hid (Keep [br] wr ((wr.setCell ⟨br, 1, none⟩ (.int .i64 ((τ.at_ : Int) + 1))).alloc (.cells (partCells (Q.mk 4 n 0)).toArray 90))) := ((Keep.refl [br] wr).setCell (by simp) _).alloc _
      have HOWN : Hid (∀ b, vv.ownBlock = some b → b ∉ [br]) := fun b h hm => hR1.ne (by rw [h, List.mem_singleton.1 hm])
      have hrr : Q.next (L pat) τ = 42 ∨ Q.next (L pat) τ = 43 ∨ Q.next (L pat) τ = 63 ∨ Q.next (L pat) τ = 123 := by
        unfold Q.isRep at hrp
        simp only [Bool.or_eq_true, beq_iff_eq] at hrp
        omega
      clear hrp
      rcases hrr with hc | hc | hc | hc
      · have HRE : Hid (Q.repPart (L pat) n τ = ({ Q.mk 4 n 0 with endless := true }, Q.fwd τ)) := by show _ = _; unfold Q.repPart; rw [if_pos hc]
        rw [hc]
        go_upto_block 2 with (refine wpl_new4 (by rfl) _ _ (by rfl) (by rfl) _ (by rfl) ?_)
        generalize (wr.setCell ⟨br, 1, none⟩ (.int .i64 ((τ.at_ : Int) + 1))).alloc (.cells (partCells (Q.mk 4 n 0)).toArray 90) = W0 at *
        have pf := HP0.out.frozen
        obtain ⟨_, _, d2, d3, d4, _⟩ := HP0.out.cells
        go_upto_region 17 with fail
        have hPW : PtT (W0.setCell ⟨wr.heap.size, 261, none⟩ (.bool true)) wr.heap.size (Q.repPart (L pat) n τ).1 := by rw [HRE.out]; exact HP0.out.endless true
        have hRW : RdT (W0.setCell ⟨wr.heap.size, 261, none⟩ (.bool true)) br pat (Q.repPart (L pat) n τ).2 vv := by rw [HRE.out]; exact HR0.out.other (by simpa using Ne.symm nbb) _
        have hKW : Keep [br] wr (W0.setCell ⟨wr.heap.size, 261, none⟩ (.bool true)) := HK0.out.setNew (by simp) _
        have hrd : rdAt (W0.setCell ⟨wr.heap.size, 261, none⟩ (.bool true)) wr.heap.size 0 = some (partCells (Q.repPart (L pat) n τ).1).toArray := rdAt_of (fun j x hx => by rw [Nat.zero_add, hPW.2.cell j]; exact hx) hPW.1
        have hRtW : Rt (W0.setCell ⟨wr.heap.size, 261, none⟩ (.bool true)) B br pat (Q.repPart (L pat) n τ).2 vv := hR1.keep (τ := (Q.repPart (L pat) n τ).2) hKW HOWN.out hpp hRW
        have hBW : Below B wr (W0.setCell ⟨wr.heap.size, 261, none⟩ (.bool true)) := hKW.to_below (by simpa using hB) (by omega)
        have hlw := hPW.2.lt
        clear hPW hRW hKW
        generalize (W0.setCell ⟨wr.heap.size, 261, none⟩ (.bool true)) = W1 at *
        go_region_law (go_simp; refine (radd_any B br pat _ (Q.repPart (L pat) n τ).1 vv _ hRtW.drew hB (by omega) hC2.ok HPK.out).mono ?_; rintro e w3 ⟨rfl, ⟨v3, hR3⟩, hB3⟩)
        go_wp2_with (go_at_call 91; refine (next_any br pat _ v3 _ hR3.rd hs hC3.at_).mono ?_; rintro e w4 ⟨rfl, q4, rfl⟩)
        go_roundg f1
        case measure => omega
        case rel => exact ⟨_, _, v3, rfl, rfl, hR3.drewN q4, hC3.mono (by omega), by rw [Q.add_left]; omega, by simp [Q.add], HGE, below_drewN ((hB1.trans (below_drew hBW)).trans hB3) q4, by omega⟩
      · have HRE : Hid (Q.repPart (L pat) n τ = ({ Q.mk 4 n 0 with low := 1, endless := true }, Q.fwd τ)) := by show _ = _; unfold Q.repPart; rw [if_neg (by rw [hc]; decide), if_pos hc]
        rw [hc]
        go_upto_block 2 with (refine wpl_new4 (by rfl) _ _ (by rfl) (by rfl) _ (by rfl) ?_)
        generalize (wr.setCell ⟨br, 1, none⟩ (.int .i64 ((τ.at_ : Int) + 1))).alloc (.cells (partCells (Q.mk 4 n 0)).toArray 90) = W0 at *
        have pf := HP0.out.frozen
        obtain ⟨_, _, d2, d3, d4, _⟩ := HP0.out.cells
        go_upto_region 17 with fail
        have hPW : PtT ((W0.setCell ⟨wr.heap.size, 259, none⟩ (.int .i64 1)).setCell ⟨wr.heap.size, 261, none⟩ (.bool true)) wr.heap.size (Q.repPart (L pat) n τ).1 := by rw [HRE.out]; exact (HP0.out.low 1).endless true
        have hRW : RdT ((W0.setCell ⟨wr.heap.size, 259, none⟩ (.int .i64 1)).setCell ⟨wr.heap.size, 261, none⟩ (.bool true)) br pat (Q.repPart (L pat) n τ).2 vv := by rw [HRE.out]; exact (HR0.out.other (by simpa using Ne.symm nbb) _).other (by simpa using Ne.symm nbb) _
        have hKW : Keep [br] wr ((W0.setCell ⟨wr.heap.size, 259, none⟩ (.int .i64 1)).setCell ⟨wr.heap.size, 261, none⟩ (.bool true)) := (HK0.out.setNew (by simp) _).setNew (by simp) _
        have hrd : rdAt ((W0.setCell ⟨wr.heap.size, 259, none⟩ (.int .i64 1)).setCell ⟨wr.heap.size, 261, none⟩ (.bool true)) wr.heap.size 0 = some (partCells (Q.repPart (L pat) n τ).1).toArray := rdAt_of (fun j x hx => by rw [Nat.zero_add, hPW.2.cell j]; exact hx) hPW.1
        have hRtW : Rt ((W0.setCell ⟨wr.heap.size, 259, none⟩ (.int .i64 1)).setCell ⟨wr.heap.size, 261, none⟩ (.bool true)) B br pat (Q.repPart (L pat) n τ).2 vv := hR1.keep (τ := (Q.repPart (L pat) n τ).2) hKW HOWN.out hpp hRW
        have hBW : Below B wr ((W0.setCell ⟨wr.heap.size, 259, none⟩ (.int .i64 1)).setCell ⟨wr.heap.size, 261, none⟩ (.bool true)) := hKW.to_below (by simpa using hB) (by omega)
        have hlw := hPW.2.lt
        clear hPW hRW hKW
        generalize ((W0.setCell ⟨wr.heap.size, 259, none⟩ (.int .i64 1)).setCell ⟨wr.heap.size, 261, none⟩ (.bool true)) = W1 at *
        go_region_law (go_simp; refine (radd_any B br pat _ (Q.repPart (L pat) n τ).1 vv _ hRtW.drew hB (by omega) hC2.ok HPK.out).mono ?_; rintro e w3 ⟨rfl, ⟨v3, hR3⟩, hB3⟩)
        go_wp2_with (go_at_call 91; refine (next_any br pat _ v3 _ hR3.rd hs hC3.at_).mono ?_; rintro e w4 ⟨rfl, q4, rfl⟩)
        go_roundg f1
        case measure => omega
        case rel => exact ⟨_, _, v3, rfl, rfl, hR3.drewN q4, hC3.mono (by omega), by rw [Q.add_left]; omega, by simp [Q.add], HGE, below_drewN ((hB1.trans (below_drew hBW)).trans hB3) q4, by omega⟩
      · have HRE : Hid (Q.repPart (L pat) n τ = ({ Q.mk 4 n 0 with high := 1 }, Q.fwd τ)) := by show _ = _; unfold Q.repPart; rw [if_neg (by rw [hc]; decide), if_neg (by rw [hc]; decide), if_pos hc]
        rw [hc]
        go_upto_block 2 with (refine wpl_new4 (by rfl) _ _ (by rfl) (by rfl) _ (by rfl) ?_)
        generalize (wr.setCell ⟨br, 1, none⟩ (.int .i64 ((τ.at_ : Int) + 1))).alloc (.cells (partCells (Q.mk 4 n 0)).toArray 90) = W0 at *
        have pf := HP0.out.frozen
        obtain ⟨_, _, d2, d3, d4, _⟩ := HP0.out.cells
        go_upto_region 17 with fail
        have hPW : PtT (W0.setCell ⟨wr.heap.size, 260, none⟩ (.int .i64 1)) wr.heap.size (Q.repPart (L pat) n τ).1 := by rw [HRE.out]; exact HP0.out.high 1
        have hRW : RdT (W0.setCell ⟨wr.heap.size, 260, none⟩ (.int .i64 1)) br pat (Q.repPart (L pat) n τ).2 vv := by rw [HRE.out]; exact HR0.out.other (by simpa using Ne.symm nbb) _
        have hKW : Keep [br] wr (W0.setCell ⟨wr.heap.size, 260, none⟩ (.int .i64 1)) := HK0.out.setNew (by simp) _
        have hrd : rdAt (W0.setCell ⟨wr.heap.size, 260, none⟩ (.int .i64 1)) wr.heap.size 0 = some (partCells (Q.repPart (L pat) n τ).1).toArray := rdAt_of (fun j x hx => by rw [Nat.zero_add, hPW.2.cell j]; exact hx) hPW.1
        have hRtW : Rt (W0.setCell ⟨wr.heap.size, 260, none⟩ (.int .i64 1)) B br pat (Q.repPart (L pat) n τ).2 vv := hR1.keep (τ := (Q.repPart (L pat) n τ).2) hKW HOWN.out hpp hRW
        have hBW : Below B wr (W0.setCell ⟨wr.heap.size, 260, none⟩ (.int .i64 1)) := hKW.to_below (by simpa using hB) (by omega)
        have hlw := hPW.2.lt
        clear hPW hRW hKW
        generalize (W0.setCell ⟨wr.heap.size, 260, none⟩ (.int .i64 1)) = W1 at *
        go_region_law (go_simp; refine (radd_any B br pat _ (Q.repPart (L pat) n τ).1 vv _ hRtW.drew hB (by omega) hC2.ok HPK.out).mono ?_; rintro e w3 ⟨rfl, ⟨v3, hR3⟩, hB3⟩)
        go_wp2_with (go_at_call 91; refine (next_any br pat _ v3 _ hR3.rd hs hC3.at_).mono ?_; rintro e w4 ⟨rfl, q4, rfl⟩)
        go_roundg f1
        case measure => omega
        case rel => exact ⟨_, _, v3, rfl, rfl, hR3.drewN q4, hC3.mono (by omega), by rw [Q.add_left]; omega, by simp [Q.add], HGE, below_drewN ((hB1.trans (below_drew hBW)).trans hB3) q4, by omega⟩
      · have HRE : Hid (Q.repPart (L pat) n τ = Q.bounds (L pat) (Q.mk 4 n 0) (Q.fwd τ)) := by show _ = _; unfold Q.repPart; rw [if_neg (by rw [hc]; decide), if_neg (by rw [hc]; decide), if_neg (by rw [hc]; decide)]
        rw [hc]
        go_upto_block 2 with (refine wpl_new4 (by rfl) _ _ (by rfl) (by rfl) _ (by rfl) ?_)
        generalize (wr.setCell ⟨br, 1, none⟩ (.int .i64 ((τ.at_ : Int) + 1))).alloc (.cells (partCells (Q.mk 4 n 0)).toArray 90) = W0 at *
        have pf := HP0.out.frozen
        obtain ⟨_, _, d2, d3, d4, _⟩ := HP0.out.cells
        go_upto_region 17 with (go_at_call 107; refine (bounds_any br wr.heap.size pat (Q.fwd τ) vv (Q.mk 4 n 0) _ HR0.out HP0.out hs hat2 rfl).mono ?_; rintro e w5 ⟨rfl, hR5, hP5, hK5⟩)
        have hPW : PtT w5 wr.heap.size (Q.repPart (L pat) n τ).1 := by rw [HRE.out]; exact hP5
        have hRW : RdT w5 br pat (Q.repPart (L pat) n τ).2 vv := by rw [HRE.out]; exact hR5
        have hKW : Keep [br] wr w5 := HK0.out.trans2 hK5 (by simp)
        have hrd : rdAt w5 wr.heap.size 0 = some (partCells (Q.repPart (L pat) n τ).1).toArray := rdAt_of (fun j x hx => by rw [Nat.zero_add, hPW.2.cell j]; exact hx) hPW.1
        have hRtW : Rt w5 B br pat (Q.repPart (L pat) n τ).2 vv := hR1.keep (τ := (Q.repPart (L pat) n τ).2) hKW HOWN.out hpp hRW
        have hBW : Below B wr w5 := hKW.to_below (by simpa using hB) (by omega)
        have hlw := hPW.2.lt
        clear hPW hRW hKW
        go_region_law (go_simp; refine (radd_any B br pat _ (Q.repPart (L pat) n τ).1 vv _ hRtW.drew hB (by omega) hC2.ok HPK.out).mono ?_; rintro e w3 ⟨rfl, ⟨v3, hR3⟩, hB3⟩)
        go_wp2_with (go_at_call 91; refine (next_any br pat _ v3 _ hR3.rd hs hC3.at_).mono ?_; rintro e w4 ⟨rfl, q4, rfl⟩)
        go_roundg f1
        case measure => omega
        case rel => exact ⟨_, _, v3, rfl, rfl, hR3.drewN q4, hC3.mono (by omega), by rw [Q.add_left]; omega, by simp [Q.add], HGE, below_drewN ((hB1.trans (below_drew hBW)).trans hB3) q4, by omega⟩
end Go.Proofs.Ytjmkkkfloalliab
