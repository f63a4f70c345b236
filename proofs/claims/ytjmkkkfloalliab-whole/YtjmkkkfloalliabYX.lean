import Derived.Test.YtjmkkkfloalliabYW
import Derived.Deep.AppendLies
import Derived.Deep.RegionLaw
import Derived.Deep.CutBlock
-- the walk: a stretch is laid into the list
namespace Go.Proofs.Ytjmkkkfloalliab
set_option linter.unusedVariables false
open Go.RowKit

theorem Try.info119 : (Try.prog.info? 99).map (fun i => (i.zero, i.size, i.bytes)) = some (some (.agg #[.int .i64 0, .int .i64 0, .int .u64 0, .int .i64 0]), 4, 32) := by kernel_rfl
/-- the blocks that 'add' may turn -/
def turnS (x : Wh) (v : Value) : List Nat := x.bw :: x.bn :: v.ownBlock.toList
theorem mem_turnS {x : Wh} {v : Value} {b : Nat} : b ∈ turnS x v ↔ b = x.bw ∨ b = x.bn ∨ v.ownBlock = some b := by
  unfold turnS
  simp [Option.mem_toList]
theorem stC_one (s : Q.St) : ∀ v ∈ stC s, v.oneCell' = true := by
  intro v hv
  simp only [stC, List.mem_cons, List.not_mem_nil, or_false] at hv
  rcases hv with rfl | rfl | rfl | rfl <;> rfl

/-- behind the append -/
theorem put_world {x : Wh} {k : Q.Wk} {v : Value} {s : Q.St} {w wd w1 : World} {X : Obj} {gg cap : Nat} (hWd : WkT wd x k v) (hKd : Keep [] w wd) (hbw : x.bw < w.heap.size) (hbn : x.bn < w.heap.size) (hlb : ∀ b, v.ownBlock = some b → b < w.heap.size)
    (hSd : BlkT wd w.heap.size 99 (stC s)) (hgrow : (wd.alloc X).drew.grownBy w1 v.ownBlock) (hat : v.ownBlock = some gg ∨ gg = wd.heap.size + 1)
    (hown1 : w1.ownsRow x.B 99 4 (.slice (some ⟨gg, 0, none⟩) (k.list.length + 1) cap) (k.list.length + 1) (stCells k.list ++ stC s)) :
    BlkT (w1.setCell ⟨x.bw, 4, none⟩ (.slice (some ⟨gg, 0, none⟩) (k.list.length + 1) cap)) x.bw 72 [.pointer (some ⟨x.bi, 0, none⟩), .pointer (some ⟨x.bp, 0, none⟩), .bool x.memo, .slice (some ⟨x.bl, 0, none⟩) x.n x.n, .slice (some ⟨gg, 0, none⟩) (k.list.length + 1) cap, .slice (some ⟨x.bn, 0, none⟩) (x.n + 1) (x.n + 1)] ∧
    (w1.setCell ⟨x.bw, 4, none⟩ (.slice (some ⟨gg, 0, none⟩) (k.list.length + 1) cap)).ownsRow x.B 99 4 (.slice (some ⟨gg, 0, none⟩) (k.list.length + 1) cap) (k.list.length + 1) (stCells k.list ++ stC s) ∧
    Nums .i64 (w1.setCell ⟨x.bw, 4, none⟩ (.slice (some ⟨gg, 0, none⟩) (k.list.length + 1) cap)) x.bn (natI k.newest) ∧
    BlkT (w1.setCell ⟨x.bw, 4, none⟩ (.slice (some ⟨gg, 0, none⟩) (k.list.length + 1) cap)) w.heap.size 99 (stC s) ∧
    Keep (turnS x v) w (w1.setCell ⟨x.bw, 4, none⟩ (.slice (some ⟨gg, 0, none⟩) (k.list.length + 1) cap)) ∧ gg ≠ x.bw ∧ gg ≠ x.bn := by
  have hsz := hKd.size
  have hz := hSd.lt
  have hge : gg ≠ x.bw := by
    rcases hat with h | h
    · exact fun e => hWd.nw (by rw [h, e])
    · omega
  have hgn : gg ≠ x.bn := by
    rcases hat with h | h
    · exact fun e => hWd.nn (by rw [h, e])
    · omega
  have blk : ∀ b, b < wd.heap.size → v.ownBlock ≠ some b → w1.heap[b]? = wd.heap[b]? := fun b hb hv =>
    (hgrow.block b (by show b < (wd.alloc X).heap.size; simp; omega) (Ne.symm hv)).trans (Below.heap_alloc wd X b hb)
  have set : ∀ b, b ≠ x.bw → (w1.setCell ⟨x.bw, 4, none⟩ (.slice (some ⟨gg, 0, none⟩) (k.list.length + 1) cap)).heap[b]? = w1.heap[b]? := fun b hb => Below.heap_setCell _ _ _ _ hb
  refine ⟨?_, ?_, ?_, ?_, ?_, hge, hgn⟩
  · have h1 : BlkT w1 x.bw _ _ := (blk x.bw (by omega) hWd.nw).trans hWd.blk
    exact h1.set 4 _
  · obtain ⟨h1, ⟨h, _⟩ | ⟨g', cap', cur, hv, hb, hg, h2⟩⟩ := hown1
    · cases h
    · cases hv
      exact ⟨h1, .inr ⟨gg, cap, cur, rfl, hb, (set gg hge).trans hg, h2⟩⟩
  · exact Blk.of_heap hWd.new ((set x.bn (Ne.symm hWd.wn)).trans (blk x.bn (by omega) hWd.nn))
  · exact (set w.heap.size (by omega)).trans ((blk w.heap.size hz (fun e => absurd (hlb _ e) (Nat.lt_irrefl _))).trans hSd)
  · refine ⟨hgrow.os.trans hKd.os, hgrow.tape.trans hKd.tape, hgrow.output.trans hKd.output, ?_, fun b hb hs => ?_⟩
    · have := hgrow.size
      have h3 : (wd.alloc X).drew.heap.size = wd.heap.size + 1 := by show (wd.alloc X).heap.size = _; simp
      simp [World.setCell]
      omega
    · have hs2 := fun h => hs (mem_turnS.2 h)
      rw [set b (fun e => hs2 (.inl e)), blk b (by omega) (fun e => hs2 (.inr (.inr e)))]
      exact hKd.block b hb (by simp)

set_option maxRecDepth 10000 in
set_option maxHeartbeats 3200000 in
theorem wadd_any (x : Wh) (k : Q.Wk) (v : Value) (s : Q.St) (w : World) (hW : WkT w x k v) (hs : Q.StOk x.n s) (hl : s.low ≤ x.n) (hn : x.n ≤ 1000) (hlen : k.list.length + 1 ≤ 100000000) :
    Calls Try.prog 51 #[.pointer (some ⟨x.bw, 0, none⟩), .agg (stC s).toArray] w fun e w' => e = .returned (.tuple #[]) ∧ ∃ v', WkT w' x (Q.addS x.memo k s) v' ∧ Keep (turnS x v) w w' ∧ ∀ b, v'.ownBlock = some b → v.ownBlock = some b ∨ w.heap.size ≤ b := by
  have hbw := hW.blk.lt
  have hbn := Blk.lt hW.new
  obtain ⟨c0, c1, c2, c3, c4, c5⟩ := hW.cells
  have hnw := hW.new.cell s.low (by rw [natI_len, hW.ok.len]; omega)
  rw [natI_at] at hnw
  have hfw := hW.blk.frozen
  have hfn := Blk.frozen hW.new
  have hwn := hW.wn
  have HWT : Hid (WkT w x k v) := hW
  have hlen2 := hW.len
  have h0 : (0 : Int) ≤ (s.low : Int) := by omega
  have h1 : (s.low : Int) < ((x.n + 1 : Nat) : Int) := by omega
  obtain ⟨i0, hi0, hz0, hz1, hz2⟩ := info_parts Try.info119
  have HO : Hid (w.ownsRow x.B 99 4 v k.list.length (stCells k.list)) := hW.own
  have HNW : Hid (v.ownBlock ≠ some x.bw) := hW.nw
  have HNN : Hid (v.ownBlock ≠ some x.bn) := hW.nn
  have hBw : x.B ≤ x.bw := hW.bw
  have HLB : Hid (∀ b, v.ownBlock = some b → b < w.heap.size ∧ x.B ≤ b) := own_lt' hW.own
  generalize hNe : k.newest.getD s.low 0 = N at *
  have HNe : Hid (k.newest.getD s.low 0 = N) := hNe
  clear hNe hW
  unfold stC
  go_enter Try.func51, Try.ntmps51
  go_upto_region 1 with fail
  obtain ⟨w0, hw0⟩ : ∃ w0, w0 = w.alloc (.cells #[.int .i64 (s.low : Int), .int .i64 (s.high : Int), .int .u64 (s.places : Int), .int .i64 (s.twin : Int)] 99) := ⟨_, rfl⟩
  have HK0 : Hid (Keep [] w w0) := by rw [hw0]; exact (Keep.refl [] w).alloc _
  have HB0 : Hid (BlkT w0 w.heap.size 99 (stC s)) := by rw [hw0]; exact BlkT.new w _ _
  rw [← hw0]
  clear hw0
  go_cut [12] from 4 (fun s12 wc => s12 = .bool (x.memo && Q.has k s) ∧ Keep [] w wc ∧ BlkT wc w.heap.size 99 (stC s))
  case first =>
    have hW0 := HWT.out.keep0 HK0.out
    obtain ⟨_, _, c2, _⟩ := hW0.cells
    have b0 := HB0.out.cell 0; have b1 := HB0.out.cell 1; have b2 := HB0.out.cell 2; have b3 := HB0.out.cell 3
    simp only [stC, List.getElem?_cons_zero, List.getElem?_cons_succ] at b0 b1 b2 b3
    cases hm : x.memo with
    | false =>
      rw [hm] at c2
      go_wp2
      go_meet
      case rel => exact ⟨by rw [hm]; rfl, HK0.out, HB0.out⟩
    | true =>
      rw [hm] at c2
      go_wp2_with (go_at_call 66; refine (has_any x k v s _ hW0 hl hn).mono ?_; rintro e w1 ⟨rfl, hK1⟩)
      go_meet
      case rel => exact ⟨by rw [hm]; rfl, HK0.out.trans hK1, HB0.out.keep hK1 (by simp)⟩
  case rest =>
    clear HK0 HB0 w0
    obtain ⟨rfl, hKc, hBc⟩ := hcut
    have HADD : Hid (Q.addS x.memo k s = if (x.memo && Q.has k s) = true then k else Q.put k s) := by
      show _ = _
      unfold Q.addS
      simp only [Bool.and_eq_true]
    cases hb : (x.memo && Q.has k s) with
    | true =>
      rw [hb] at HADD
      go_wp2
      exact bodyPost_ret (v := .tuple #[]) (by simp [results, Try.results51, go_sem]) rfl ⟨rfl, v, by rw [HADD.out, if_pos (by simp)]; exact HWT.out.keep0 hKc, hKc.mono (by simp), fun b h => .inl h⟩
    | false =>
      rw [hb] at HADD
      have HA2 : Hid (Q.addS x.memo k s = Q.put k s) := by show _ = _; rw [HADD.out, if_neg (by decide)]
      have HWc : Hid (WkT wc x k v) := HWT.out.keep0 hKc
      have hsz := hKc.size
      obtain ⟨_, _, _, _, c4, c5⟩ := HWc.out.cells
      have hnw := HWc.out.new.cell s.low (by rw [natI_len, HWc.out.ok.len]; omega)
      rw [natI_at, HNe.out] at hnw
      have b0 := hBc.cell 0; have b1 := hBc.cell 1; have b2 := hBc.cell 2; have b3 := hBc.cell 3
      have bf := hBc.frozen
      simp only [stC, List.getElem?_cons_zero, List.getElem?_cons_succ] at b0 b1 b2 b3
      have HS : Hid (BlkT (wc.setCell ⟨w.heap.size, 3, none⟩ (.int .i64 (N : Int))) w.heap.size 99 (stC { s with twin := N })) := BlkT.set hBc 3 _
      have HK2 : Hid (Keep [] w (wc.setCell ⟨w.heap.size, 3, none⟩ (.int .i64 (N : Int)))) := ⟨hKc.os, hKc.tape, hKc.output, by simp [World.setCell]; exact hKc.size, fun k hk hs => (Below.heap_setCell _ _ _ _ (by simp; omega)).trans (hKc.block k hk hs)⟩
      have nbs : w.heap.size ≠ x.bw := by omega
      have nbn : w.heap.size ≠ x.bn := by omega
      clear hKc hBc HADD
      go_wp2_with fail
      go_region
      have hWd : WkT (wc.setCell ⟨w.heap.size, 3, none⟩ (.int .i64 (N : Int))).drew x k v := HWT.out.keep0 HK2.out.drew
      have hSd : BlkT (wc.setCell ⟨w.heap.size, 3, none⟩ (.int .i64 (N : Int))).drew w.heap.size 99 (stC { s with twin := N }) := HS.out
      have hKd : Keep [] w (wc.setCell ⟨w.heap.size, 3, none⟩ (.int .i64 (N : Int))).drew := HK2.out.drew
      clear HS HK2 HWc c4 c5 hnw b0 b1 b2 b3 bf
      generalize (wc.setCell ⟨w.heap.size, 3, none⟩ (.int .i64 (N : Int))).drew = wd at *
      clear hsz
      have hsz := hKd.size
      obtain ⟨_, _, _, _, c4, c5⟩ := hWd.cells
      have b0 := hSd.cell 0; have b1 := hSd.cell 1; have b2 := hSd.cell 2; have b3 := hSd.cell 3
      simp only [stC, List.getElem?_cons_zero, List.getElem?_cons_succ] at b0 b1 b2 b3
      have hfw := hWd.blk.frozen
      have zlt := hSd.lt
      have n1 : x.bw < wd.heap.size := by omega
      have n2 : x.bn < wd.heap.size := by omega
      have n3 : x.bw ≠ wd.heap.size := by omega
      have n4 : w.heap.size ≠ wd.heap.size := by omega
      have HO2 : Hid (wd.ownsRow x.B 99 4 v k.list.length (stCells k.list)) := hWd.own
      have hBB : x.B ≤ wd.heap.size := by omega
      have HML : Hid (k.list.length + 1 ≤ maxLen) := by show _ ≤ _; unfold maxLen; omega
      obtain ⟨X, hXe⟩ : ∃ X : Obj, X = .cells #[.int .i64 (s.low : Int), .int .i64 (s.high : Int), .int .u64 (s.places : Int), .int .i64 (N : Int)] 99 := ⟨_, rfl⟩
      have HC1 : Hid ((wd.alloc X).drew.cell? ⟨x.bw, 4, none⟩ = some v) := by
        show (wd.alloc X).cell? _ = _
        rw [World.cell?_alloc_lt _ _ _ n1]
        exact c4
      have HF1 : Hid ((wd.alloc X).drew.frozen? ⟨x.bw, 4, none⟩ = false) := by
        show (wd.alloc X).frozen? _ = _
        rw [World.frozen?_alloc_past _ _ _ n1]
        exact hfw 4
      rw [hXe] at HC1 HF1
      clear hXe X
      go_wp2_with fail
      go_region_law
        ((refine step_append_lies _ (by rfl) _ _ _ (by rfl) x.B 99 i0 _ 4 32 Try.underlying70 hi0 hz0 hz1 hz2 rfl (by omega) v k.list.length (stCells k.list) (by rfl) ((HO2.out.alloc _).drew)
            ⟨wd.heap.size, 0, none⟩ 1 1 (stC { s with twin := N }) (by rfl) (by rfl) (World.news_of_block (cs := (stC { s with twin := N }).toArray) (t := 99) (fr := (0, 0)) (heap_alloc_new wd _)) (stC_one _)
            (by omega) HML.out (by omega) (by simp; omega) (wd.heap.size + 1) (by simp) ?_; intro gg cap w1 hown1 hgrow hat hlt; have hcw1 : w1.cell? ⟨x.bw, 4, none⟩ = some v := (hgrow.cell_far _ (by simp; omega) (Ne.symm HNW.out)).trans HC1.out; have hfw1 : w1.frozen? ⟨x.bw, 4, none⟩ = false := (hgrow.frozen_far _ (by simp; omega) (Ne.symm HNW.out)).trans HF1.out))
      all_goals
        obtain ⟨p1, p2, p3, p4, p5, p6, p7⟩ := put_world hWd hKd hbw hbn (fun b h => (HLB.out b h).1) hSd hgrow hat hown1
        clear hcw1 hfw1 hgrow hown1 hlt HC1 HF1 HO2
        generalize w1.setCell ⟨x.bw, 4, none⟩ (.slice (some ⟨gg, 0, none⟩) (k.list.length + 1) cap) = w2 at *
        have d4 := p1.cell 4; have d5 := p1.cell 5
        have e0 := p4.cell 0
        have f0 := Blk.frozen p3 s.low
        have e1 := p3.cell s.low (by rw [natI_len, hWd.ok.len]; omega)
        simp only [stC, List.getElem?_cons_zero, List.getElem?_cons_succ] at d4 d5 e0
        have HP1 : Hid (BlkT w2 x.bw 72 [.pointer (some ⟨x.bi, 0, none⟩), .pointer (some ⟨x.bp, 0, none⟩), .bool x.memo, .slice (some ⟨x.bl, 0, none⟩) x.n x.n, .slice (some ⟨gg, 0, none⟩) (k.list.length + 1) cap, .slice (some ⟨x.bn, 0, none⟩) (x.n + 1) (x.n + 1)]) := p1
        have HP2 : Hid (w2.ownsRow x.B 99 4 (.slice (some ⟨gg, 0, none⟩) (k.list.length + 1) cap) (k.list.length + 1) (stCells k.list ++ stC { s with twin := N })) := p2
        have HP3 : Hid (Nums .i64 w2 x.bn (natI k.newest)) := p3
        have HP5 : Hid (Keep (turnS x v) w w2) := p5
        have HOK : Hid (Q.WkOk x.n k) := hWd.ok
        have hbn2 : x.B ≤ x.bn := hWd.bn
        clear p1 p2 p3 p4 p5 hWd hKd hSd c4 c5 b0 b1 b2 b3 hfw
        go_wp2_with fail
        go_region
        all_goals
          go_wp2
          go_end0
          refine ⟨rfl, .slice (some ⟨gg, 0, none⟩) (k.list.length + 1) cap, ?_, ?_, ?_⟩
          · rw [HA2.out]
            refine ⟨HP1.out.other (by simpa using Ne.symm hwn) _, ?_, ?_, Q.put_ok HOK.out hs, by simp [Q.put]; omega, fun e => p6 (by cases e; rfl), fun e => p7 (by cases e; rfl), hwn, hBw, hbn2⟩
            · show World.ownsRow _ _ _ _ _ (k.list ++ [_]).length (stCells (k.list ++ [_]))
              rw [stCells_snoc, List.length_append, HNe.out]
              exact own_keep' HP2.out (S := [x.bn]) (((Keep.refl [x.bn] w2).setCell (by simp) _).drew) (fun b e => by cases e; simpa using p7)
            · have := Nums.set HP3.out s.low (((k.list.length + 1 : Nat)) : Int)
              rw [natI_set] at this
              exact this
          · exact (HP5.out.setCell (mem_turnS.2 (.inr (.inl rfl))) _).drew
          · intro b e
            cases e
            rcases hat with h | h
            · exact .inl h
            · exact .inr (by show w.heap.size ≤ gg; omega)
end Go.Proofs.Ytjmkkkfloalliab
