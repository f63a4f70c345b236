import Derived.Test.YtjmkkkfloalliabYS
-- a pattern is made; Parse
namespace Go.Proofs.Ytjmkkkfloalliab
set_option linter.unusedVariables false
open Go.RowKit

theorem lay_all : ∀ f, LayD f
  | 0 => fun bp bt ot g cap ps n p w _ _ _ _ _ _ h => absurd h (Nat.not_lt_zero _)
  | f + 1 => lay_step f (lay_all f)
theorem pat0_cells : (Try.zeroCells119.setIfInBounds 0 (.int .i64 1)) = (patCells Q.pat0).toArray := by kernel_rfl

set_option maxRecDepth 10000 in
set_option maxHeartbeats 3200000 in
theorem newPattern_any (bt ot g cap : Nat) (ps : List Q.Part) (top : Nat) (w : World) (hT : TE w bt ot g cap ps) (hps : Q.PartsOk ps) (ht : top < ps.length) (hpl : (Q.at_ ps top).places ≤ 48) :
    Calls Try.prog 50 #[.pointer (some ⟨bt, ot, none⟩), .int .i64 (top : Int)] w fun e w' => e = .returned (.pointer (some ⟨w.heap.size, 0, none⟩)) ∧ PaT w' w.heap.size (Q.newPattern ps top) ∧ Keep [] w w' := by
  have hlb := hT.lb
  have hlg := hT.lg
  have HP0 : Hid (PaT (w.alloc (.cells (Try.zeroCells119.setIfInBounds 0 (.int .i64 1)) 119)) w.heap.size Q.pat0) := by
    show PaT _ _ _
    rw [pat0_cells]
    exact ⟨Q.pat0_ok, BlkT.new w _ _⟩
  have HT0 : Hid (TE (w.alloc (.cells (Try.zeroCells119.setIfInBounds 0 (.int .i64 1)) 119)) bt ot g cap ps) := hT.keep ((Keep.refl [] w).alloc _) (by simp) (by simp)
  have HK0 : Hid (Keep [] w (w.alloc (.cells (Try.zeroCells119.setIfInBounds 0 (.int .i64 1)) 119))) := (Keep.refl [] w).alloc _
  have hz0 : (w.alloc (.cells (Try.zeroCells119.setIfInBounds 0 (.int .i64 1)) 119)).heap.size = w.heap.size + 1 := by simp
  have HNO : Hid (Q.PatOk (Q.newPattern ps top)) := (Q.newPattern_ok hps top ht hpl).1
  obtain ⟨a1, a2, a3⟩ := Q.lay_ok hps (top + 1) top (by omega) ht Q.pat0 Q.pat0_ok (by show 1 + _ ≤ 49; omega)
  have HPS : Hid (Q.PartsOk ps) := hps
  have HNE : Hid (Q.newPattern ps top = { (Q.lay ps (top + 1) top Q.pat0).2 with begins := (Q.lay ps (top + 1) top Q.pat0).1.first, ahead := (Q.lay ps (top + 1) top Q.pat0).2.ahead.set 0 (Q.lay ps (top + 1) top Q.pat0).1.last }) := rfl
  have hpls : Q.pat0.size + (Q.at_ ps top).places ≤ 49 := by show 1 + _ ≤ 49; omega
  clear hT hps
  go_enter Try.func50, Try.ntmps50
  go_upto_region 2 with fail
  generalize w.alloc (.cells (Try.zeroCells119.setIfInBounds 0 (.int .i64 1)) 119) = w0 at *
  have HCA := lay_all (top + 1) w.heap.size bt ot g cap ps top Q.pat0 w0 HP0.out HT0.out HPS.out (by omega) (by omega) ht (by omega) hpls
  generalize hYe : Q.lay ps (top + 1) top Q.pat0 = Y at *
  obtain ⟨⟨yf, yl, ye⟩, yp⟩ := Y
  unfold spanV at HCA
  simp only at HCA a1 a2 a3 HNE
  have HCAH := hid HCA
  clear HCA
  go_upto_region 3 with (go_at_call 65; refine HCAH.out.mono ?_; rintro e w2 ⟨rfl, hP2, hK2⟩)
  have PW := hP2.alloc (.cells #[.int .u64 (yf : Int), .int .u64 (yl : Int), .bool ye] 121)
  have BW : BlkT (w2.alloc (.cells #[.int .u64 (yf : Int), .int .u64 (yl : Int), .bool ye] 121)) w2.heap.size 121 [.int .u64 (yf : Int), .int .u64 (yl : Int), .bool ye] := BlkT.new w2 _ _
  have KW := (HK0.out.trans2 hK2 (by simp)).alloc (.cells #[.int .u64 (yf : Int), .int .u64 (yl : Int), .bool ye] 121)
  have zw : w.heap.size < w2.heap.size := by have := hK2.size; omega
  clear hP2 hK2 HCAH HP0 HT0 HK0
  generalize hb2 : w2.heap.size = b2 at *
  generalize w2.alloc (.cells #[.int .u64 (yf : Int), .int .u64 (yl : Int), .bool ye] 121) = w3 at *
  clear hb2
  have l0 := BW.cell 0; have l1 := BW.cell 1
  simp only [List.getElem?_cons_zero, List.getElem?_cons_succ] at l0 l1
  have fz := PW.fz
  have cb := PW.cb
  have ca := PW.ca 0 (by omega)
  have OK1 : Q.PatOk { yp with begins := yf } := ⟨a1.size, a1.pos, a1.alen, a1.tlen, a1.a, a1.t, a2.1⟩
  have HPF : Hid (PaT ((w3.setCell ⟨w.heap.size, 306, none⟩ (.int .u64 (yf : Int))).setCell ⟨w.heap.size, 1 + 0, none⟩ (.int .u64 (yl : Int))) w.heap.size (Q.newPattern ps top)) := (PW.setB yf OK1 rfl).setA 0 yl (by omega) HNO.out (by rw [HNE.out])
  have HKF : Hid (Keep [] w ((w3.setCell ⟨w.heap.size, 306, none⟩ (.int .u64 (yf : Int))).setCell ⟨w.heap.size, 1 + 0, none⟩ (.int .u64 (yl : Int)))) := (KW.setNew (by simp) _).setNew (by simp) _
  have nb2 : b2 ≠ w.heap.size := by omega
  clear KW BW PW
  go_wp2_with fail
  go_region
  all_goals
    go_wp2
    go_ret
    exact ⟨rfl, HPF.out.drew, HKF.out.drew⟩

/-- what a pattern is, or why it is none: the fault and its place -/
def Q.parse (s : List UInt8) : Except (Nat × Nat) Q.Pat :=
  if 40 < s.length then .error (1, 0)
  else if (Q.whole s).2.wrong = true then .error (3, (Q.whole s).2.at_ + 1)
  else if (Q.whole s).2.back = true then .error (4, 0)
  else if 6 < (Q.whole s).2.deepest ∨ 48 < (Q.at_ (Q.whole s).2.parts (Q.whole s).1).places then .error (5, 0)
  else .ok (Q.newPattern (Q.whole s).2.parts (Q.whole s).1)
def ParsePost (B : Nat) (r : Except (Nat × Nat) Q.Pat) (e : Ending) (w' : World) : Prop :=
  match r with
  | .error (E, At) => e = .returned (.tuple #[.pointer none, .agg #[.int .i64 (E : Int), .int .i64 (At : Int)]])
  | .ok P => ∃ b, e = .returned (.tuple #[.pointer (some ⟨b, 0, none⟩), .agg #[.int .i64 0, .int .i64 0]]) ∧ B ≤ b ∧ PaT w' b P
theorem Rt.te {w : World} {B br : Nat} {pat : ByteArray} {σ : Q.Rd} {v : Value} (h : Rt w B br pat σ v) (hps : Q.PartsOk σ.parts) (hne : σ.parts ≠ []) : ∃ g cap, v = .slice (some ⟨g, 0, none⟩) σ.parts.length cap ∧ TE w br 6 g cap σ.parts := by
  obtain ⟨g, cap, hv, _, hg, hr⟩ := parts_open h.own hps hne
  exact ⟨g, cap, hv, by rw [← hv]; exact h.rd.cells.2.2.2.2.2.2, hr, h.lt, hg⟩
theorem TE.places {w : World} {bt ot g cap : Nat} {ps : List Q.Part} (h : TE w bt ot g cap ps) (hps : Q.PartsOk ps) (i : Nat) (hi : i < ps.length) : w.cell? ⟨g, i * 265 + 264, none⟩ = some (.int .i64 ((Q.at_ ps i).places : Int)) :=
  h.rg i hi 264 _ (pc_tail (hps.get i hi).1.ins 7)

set_option maxRecDepth 10000 in
set_option maxHeartbeats 3200000 in
theorem Parse_any (s : ByteArray) (w : World) (hs : s.size ≤ maxLen) :
    Calls Try.prog 32 #[.string s] w fun e w' => ParsePost w.heap.size (Q.parse (L s)) e w' ∧ Below w.heap.size w w' := by
  unfold maxLen at hs
  have HL : Hid ((L s).length = s.size) := size_len s
  by_cases hlong : 40 < s.size
  · have HE : Hid (Q.parse (L s) = .error (1, 0)) := by show _ = _; unfold Q.parse; rw [if_pos (by rw [HL.out]; exact hlong)]
    rw [HE.out]
    go_enter Try.func32, Try.ntmps32
    go_wp2
    exact bodyPost_ret (v := .tuple #[.pointer none, .agg #[.int .i64 1, .int .i64 0]]) (by simp [results, Try.results32, go_sem, *]) rfl ⟨rfl, by first | exact (((Below.refl _ _).alloc (Nat.le_refl _) _).setCell (by simp) _).setCell (by simp) _ | exact (Below.refl _ _).alloc (Nat.le_refl _) _⟩
  have hs1000 : s.size ≤ 1000 := by omega
  have HR0 : Hid (Rt ((w.alloc (.cells #[.int .i64 0, .int .i64 0] 45)).alloc (.cells #[.string s, .int .i64 0, .bool false, .bool false, .int .i64 0, .int .i64 0, .slice none 0 0] 87)) (w.heap.size + 1) (w.heap.size + 1) s Q.rd0 (.slice none 0 0)) := by
    refine ⟨?_, ⟨rfl, .inl ⟨rfl, rfl⟩⟩, fun e => by cases e⟩
    have := BlkT.new (w.alloc (.cells #[.int .i64 0, .int .i64 0] 45)) #[.string s, .int .i64 0, .bool false, .bool false, .int .i64 0, .int .i64 0, .slice none 0 0] 87
    simp only [World.size_alloc] at this
    exact this
  have HF0 : Hid (BlkT ((w.alloc (.cells #[.int .i64 0, .int .i64 0] 45)).alloc (.cells #[.string s, .int .i64 0, .bool false, .bool false, .int .i64 0, .int .i64 0, .slice none 0 0] 87)) w.heap.size 45 [.int .i64 0, .int .i64 0]) := (BlkT.new w _ _).alloc _
  have HB0 : Hid (Below w.heap.size w ((w.alloc (.cells #[.int .i64 0, .int .i64 0] 45)).alloc (.cells #[.string s, .int .i64 0, .bool false, .bool false, .int .i64 0, .int .i64 0, .slice none 0 0] 87))) := ((Below.refl _ _).alloc (Nat.le_refl _) _).alloc (by simp) _
  have HG := Q.top_good (L s)
  have HPS : Hid (Q.PartsOk (Q.whole (L s)).2.parts) := HG.ok
  have hlt : (Q.whole (L s)).1 < (Q.whole (L s)).2.parts.length := HG.lt
  have hat : (Q.whole (L s)).2.at_ ≤ s.size := by have := HG.on.len (Nat.zero_le _); rw [HL.out] at this; exact this
  clear HG
  have HQ : Hid (Q.parse (L s) = if (Q.whole (L s)).2.wrong = true then .error (3, (Q.whole (L s)).2.at_ + 1)
      else if (Q.whole (L s)).2.back = true then .error (4, 0)
      else if 6 < (Q.whole (L s)).2.deepest ∨ 48 < (Q.at_ (Q.whole (L s)).2.parts (Q.whole (L s)).1).places then .error (5, 0)
      else .ok (Q.newPattern (Q.whole (L s)).2.parts (Q.whole (L s)).1)) := by show _ = _; conv => lhs; unfold Q.parse; rw [if_neg (by rw [HL.out]; exact hlong)]
  obtain ⟨R, hRe⟩ : ∃ R, Q.parse (L s) = R := ⟨_, rfl⟩
  rw [hRe] at HQ ⊢
  clear hRe
  have HWA : Hid (Calls Try.prog 49 #[.pointer (some ⟨w.heap.size + 1, 0, none⟩)] ((w.alloc (.cells #[.int .i64 0, .int .i64 0] 45)).alloc (.cells #[.string s, .int .i64 0, .bool false, .bool false, .int .i64 0, .int .i64 0, .slice none 0 0] 87)) fun e w' => e = .returned (.int .i64 ((Q.whole (L s)).1 : Nat)) ∧ (∃ v', Rt w' (w.heap.size + 1) (w.heap.size + 1) s (Q.whole (L s)).2 v') ∧ Below (w.heap.size + 1) ((w.alloc (.cells #[.int .i64 0, .int .i64 0] 45)).alloc (.cells #[.string s, .int .i64 0, .bool false, .bool false, .int .i64 0, .int .i64 0, .slice none 0 0] 87)) w') := whole_any (w.heap.size + 1) (w.heap.size + 1) s _ _ HR0.out (Nat.le_refl _) hs1000
  generalize hWe : Q.whole (L s) = W at *
  obtain ⟨top, σ⟩ := W
  simp only at HWA HPS hlt hat HQ
  have hpl49 := (HPS.out.get top hlt).1.places
  go_enter Try.func32, Try.ntmps32
  go_upto_region 5 with (go_at_call 49; refine HWA.out.mono ?_; rintro e w2 ⟨rfl, ⟨v2, hR2⟩, hB2⟩)
  have hF2 : BlkT w2 w.heap.size 45 [.int .i64 0, .int .i64 0] := (hB2.block w.heap.size (by omega)).trans HF0.out
  have hBw : Below w.heap.size w w2 := HB0.out.trans (hB2.mono (by omega))
  obtain ⟨g, cap, hv, hTE⟩ := hR2.te HPS.out (by intro e; rw [e] at hlt; simp at hlt)
  have hplc := hTE.places HPS.out top hlt
  obtain ⟨r0, r1, r2, r3, r4, r5, r6⟩ := hR2.rd.cells
  rw [hv] at r6
  have f0 := hF2.cell 0; have f1 := hF2.cell 1; have ff := hF2.frozen
  simp only [List.getElem?_cons_zero, List.getElem?_cons_succ] at f0 f1
  have HTE := hid hTE
  have HBW := hid hBw
  have HF2 := hid hF2
  have i0 : (0 : Int) ≤ (top : Int) := by omega
  have i1 : (top : Int) < (σ.parts.length : Int) := by omega
  have hz2 := hF2.lt
  clear HWA HR0 HF0 HB0 hTE hBw hF2 hB2 hR2 hlong
  cases hwr : σ.wrong with
  | true =>
    rw [hwr] at r2
    have HE : Hid (R = .error (3, σ.at_ + 1)) := by show _ = _; rw [HQ.out, if_pos hwr]
    go_wp2_with fail
    go_region
    all_goals
      go_wp2
      exact bodyPost_ret (v := .tuple #[.pointer none, .agg #[.int .i64 3, .int .i64 ((σ.at_ : Int) + 1)]]) (by simp [results, Try.results32, go_sem, *]) rfl ⟨by rw [HE.out]; rfl, below_drew ((HBW.out.setCell (by simp) _).setCell (by simp) _)⟩
  | false =>
    rw [hwr] at r2
    have hnw : ¬ σ.wrong = true := by rw [hwr]; decide
    cases hbk : σ.back with
    | true =>
      rw [hbk] at r3
      have HE : Hid (R = .error (4, 0)) := by show _ = _; rw [HQ.out, if_neg hnw, if_pos hbk]
      go_wp2
      exact bodyPost_ret (v := .tuple #[.pointer none, .agg #[.int .i64 4, .int .i64 0]]) (by simp [results, Try.results32, go_sem, *]) rfl ⟨by rw [HE.out]; rfl, (HBW.out.setCell (by simp) _).setCell (by simp) _⟩
    | false =>
      rw [hbk] at r3
      have hnb : ¬ σ.back = true := by rw [hbk]; decide
      by_cases h6 : 6 < σ.deepest
      · have HE : Hid (R = .error (5, 0)) := by show _ = _; rw [HQ.out, if_neg hnw, if_neg hnb, if_pos (.inl h6)]
        have hd6 : decide ((6 : Int) < (σ.deepest : Int)) = true := by simp; omega
        go_wp2
        exact bodyPost_ret (v := .tuple #[.pointer none, .agg #[.int .i64 5, .int .i64 0]]) (by simp [results, Try.results32, go_sem, *]) rfl ⟨by rw [HE.out]; rfl, (HBW.out.setCell (by simp) _).setCell (by simp) _⟩
      · have hd6 : decide ((6 : Int) < (σ.deepest : Int)) = false := by simp; omega
        by_cases h48 : 48 < (Q.at_ σ.parts top).places
        · have HE : Hid (R = .error (5, 0)) := by show _ = _; rw [HQ.out, if_neg hnw, if_neg hnb, if_pos (.inr h48)]
          have hd48 : decide ((48 : Int) < ((Q.at_ σ.parts top).places : Int)) = true := by simp; omega
          go_wp2
          exact bodyPost_ret (v := .tuple #[.pointer none, .agg #[.int .i64 5, .int .i64 0]]) (by simp [results, Try.results32, go_sem, *]) rfl ⟨by rw [HE.out]; rfl, (HBW.out.setCell (by simp) _).setCell (by simp) _⟩
        · have HE : Hid (R = .ok (Q.newPattern σ.parts top)) := by show _ = _; rw [HQ.out, if_neg hnw, if_neg hnb, if_neg (by omega)]
          have hd48 : decide ((48 : Int) < ((Q.at_ σ.parts top).places : Int)) = false := by simp; omega
          have hpl48 : (Q.at_ σ.parts top).places ≤ 48 := by omega
          have HNP := hid (newPattern_any (w.heap.size + 1) 6 g cap σ.parts top w2 HTE.out HPS.out hlt hpl48)
          go_wp2_with (go_at_call 50; refine HNP.out.mono ?_; rintro e w3 ⟨rfl, hP3, hK3⟩; have hF3 := HF2.out.keep hK3 (by simp); have x0 := hF3.cell 0; have x1 := hF3.cell 1; have xf := hF3.frozen; simp only [List.getElem?_cons_zero, List.getElem?_cons_succ] at x0 x1)
          exact bodyPost_ret (v := .tuple #[.pointer (some ⟨w2.heap.size, 0, none⟩), .agg #[.int .i64 0, .int .i64 0]]) (by simp [results, Try.results32, go_sem, *]) rfl ⟨by rw [HE.out]; exact ⟨w2.heap.size, rfl, by omega, (hP3.other (by simp; omega) _).other (by simp; omega) _⟩, ((HBW.out.trans (hK3.to_below (by simp) (by omega))).setCell (by simp) _).setCell (by simp) _⟩
end Go.Proofs.Ytjmkkkfloalliab
