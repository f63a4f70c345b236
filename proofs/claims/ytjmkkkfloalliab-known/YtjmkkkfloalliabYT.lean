import Derived.Test.YtjmkkkfloalliabYY
-- the walk: run
namespace Go.Proofs.Ytjmkkkfloalliab
set_option linter.unusedVariables false
open Go.RowKit

theorem goOn_len (a : List UInt8) (h : Nat) (P : Q.Pat) (memo : Bool) (s : Q.St) (w : Q.Wk) (hh : h ≤ a.length) (hs : s.high ≤ a.length + 1) : (Q.goOn a h P memo s w).list.length ≤ w.list.length + a.length := by
  have := (Q.goTo_len (a := a) (h := h) (P := P) (memo := memo) s w (M.sl h s.high - M.sl h s.low)).2
  have h2 := Q.sl_le h s.high a.length hh hs
  unfold Q.goOn
  omega

set_option maxRecDepth 10000 in
set_option maxHeartbeats 3200000 in
theorem run_any (x : Wh) (v : Value) (rate h : Nat) (a : ByteArray) (P : Q.Pat) (budget : Nat) (w : World) (hW : WkT w x ⟨[], List.replicate (a.size + 1) 0⟩ v) (hE : WE w x rate h a P) (hb : budget ≤ 1048576) :
    Calls Try.prog 34 #[.pointer (some ⟨x.bw, 0, none⟩), .int .i64 (budget : Int)] w fun e w' => e = .returned (.bool (decide ((Q.runAll (L a) h P x.memo budget).list.length ≤ budget))) ∧ (∃ v', WkT w' x (Q.runAll (L a) h P x.memo budget) v') ∧ Below x.B w w' := by
  have HL : Hid ((L a).length = a.size) := size_len a
  obtain ⟨c0, c1, c2, c3, c4, c5⟩ := hW.cells
  have d2 := hE.idx.c2
  have hn := hE.n
  have hsz := hE.sz
  have hbw := hW.blk.lt
  have hBw := hW.bw
  have hbi : x.bi < w.heap.size := by have := hE.bi; omega
  have HW : Hid (WkT w x ⟨[], List.replicate (a.size + 1) 0⟩ v) := hW
  have HE : Hid (WE w x rate h a P) := hE
  have HSO : Hid (Q.StOk x.n ⟨0, a.size + 1, 1, 0⟩) := ⟨Nat.zero_le _, by rw [hn]; exact Nat.le_refl _, by show 1 < 2 ^ 49; decide⟩
  have HW0 : Hid (Q.addS x.memo ⟨[], List.replicate (a.size + 1) 0⟩ ⟨0, a.size + 1, 1, 0⟩ = Q.wk0 (L a) x.memo) := by show _ = _; unfold Q.wk0; rw [HL.out]
  obtain ⟨X, hX⟩ : ∃ X, Q.runAll (L a) h P x.memo budget = X := ⟨_, rfl⟩
  rw [hX]
  have HX : Hid (Q.run (L a) h P x.memo budget (budget + 1) 0 (Q.wk0 (L a) x.memo) = X) := hX
  have hx0 : x.n ≤ 1000 := by omega
  have hlen0 : ([] : List Q.St).length + 1 ≤ 100000000 := by decide
  clear hW hE hX
  go_enter Try.func34, Try.ntmps34
  go_wp2_with (go_at_call 51; refine (wadd_any x _ v ⟨0, a.size + 1, 1, 0⟩ _ HW.out HSO.out (Nat.zero_le _) hx0 hlen0).mono ?_; rintro e w1 ⟨rfl, v1, hW1, hK1, hv1⟩)
  have hB1 := hK1.belowS HW.out
  rw [HW0.out] at hW1
  have hwl : (Q.wk0 (L a) x.memo).list.length ≤ 1 := by
    unfold Q.wk0
    exact (Q.addS_len _ _ _).2
  clear c0 c1 c2 c3 c4 c5 d2 hK1 hv1
  go_loopg [6] (budget + 1) (fun f i wr => ∃ (j : Nat) (K : Q.Wk) (vv : Value), i = .int .i64 j ∧ j + f = budget + 1 ∧ WkT wr x K vv ∧ K.list.length ≤ budget + 1 + x.n ∧ Hid (Q.run (L a) h P x.memo budget f j K = X) ∧ Below x.B w wr)
  case atStart => exact ⟨0, _, v1, rfl, by omega, hW1, by omega, HX, hB1⟩
  case round =>
    clear hW1 hB1 HX hwl
    obtain ⟨j, K, vv, rfl, hjf, hWr, hKl, HXr, hBr⟩ := hrel
    have hEr := HE.out.below hBr
    obtain ⟨c0, c1, c2, c3, c4, c5⟩ := hWr.cells
    obtain ⟨lv, cv, hvv⟩ : ∃ a c, vv = .slice a K.list.length c := by
      obtain ⟨_, ⟨e1, e2⟩ | ⟨g, cap, cur, e1, _⟩⟩ := hWr.own
      · exact ⟨none, 0, by rw [e1, e2]⟩
      · exact ⟨_, cap, e1⟩
    by_cases h1 : j < K.list.length
    · by_cases h2 : K.list.length ≤ budget
      · obtain ⟨f1, rfl⟩ : ∃ f1, gk = f1 + 1 := ⟨gk - 1, by omega⟩
        have HX1 : Hid (Q.run (L a) h P x.memo budget f1 (j + 1) (Q.goOn (L a) h P x.memo (Q.stAt K.list j) K) = X) := by
          have := HXr.out
          unfold Q.run at this
          rw [if_pos ⟨h1, h2⟩] at this
          exact this
        obtain ⟨g, cap, hv2, hcap, r0, r1, r2, r3, hg⟩ := hWr.row j h1
        have hst := (hWr.ok.st j h1).1
        have HGO := goOn_any x K vv (Q.stAt K.list j) rate h a P
        have hgl := goOn_len (L a) h P x.memo (Q.stAt K.list j) K (by rw [HL.out]; exact hEr.hh) (by rw [HL.out, ← hn]; exact hst.high)
        rw [HL.out] at hgl
        subst hv2
        have hd1 : decide ((j : Int) < (K.list.length : Int)) = true := by simp; omega
        have hd2 : decide ((K.list.length : Int) ≤ (budget : Int)) = true := by simp; omega
        have HWr : Hid (WkT wr x K (.slice (some ⟨g, 0, none⟩) K.list.length cap)) := hWr
        have HEr : Hid (WE wr x rate h a P) := hEr
        have HST : Hid (Q.StOk x.n (Q.stAt K.list j)) := hst
        have HCA : Hid (∀ wz, Keep [] wr wz → Calls Try.prog 52 #[.pointer (some ⟨x.bw, 0, none⟩), .agg (stC (Q.stAt K.list j)).toArray] wz fun e w' => e = .returned (.tuple #[]) ∧ ∃ v', WkT w' x (Q.goOn (L a) h P x.memo (Q.stAt K.list j) K) v' ∧ Below x.B wz w') := fun wz hk =>
          HGO wz (HWr.out.keep0 hk) (HEr.out.below (hk.to_below (by simp) (by have := HWr.out.blk.lt; omega))) HST.out (by omega)
        have hbwr := HWr.out.blk.lt
        have nbw : x.bw ≠ wr.heap.size := by omega
        have ng : g ≠ wr.heap.size := by omega
        clear hWr hEr hst HGO
        generalize Q.stAt K.list j = st at *
        unfold stC at HCA
        go_wp2_with (go_at_call 52; refine (HCA.out _ ((Keep.refl [] wr).alloc _)).mono ?_; rintro e w5 ⟨rfl, v5, hW5, hB5⟩)
        go_roundg f1
        case measure => omega
        case rel => exact ⟨j + 1, _, v5, by go_num, by omega, hW5, by omega, HX1, (hBr.alloc (by omega) _).trans hB5⟩
      · have HXE : Hid (X = K) := by
          have := HXr.out
          cases gk with
          | zero => exact this.symm
          | succ f1 =>
            unfold Q.run at this
            rw [if_neg (fun hh => h2 hh.2)] at this
            exact this.symm
        subst hvv
        have hd1 : decide ((j : Int) < (K.list.length : Int)) = true := by simp; omega
        have hd2 : decide ((K.list.length : Int) ≤ (budget : Int)) = false := by simp; omega
        have hd3 : decide (K.list.length ≤ budget) = false := by simp; omega
        go_wp2
        go_ret
        exact ⟨by rw [HXE.out, hd3]; rfl, ⟨_, by rw [HXE.out]; exact hWr⟩, hBr⟩
    · have HXE : Hid (X = K) := by
        have := HXr.out
        cases gk with
        | zero => exact this.symm
        | succ f1 =>
          unfold Q.run at this
          rw [if_neg (fun hh => h1 hh.1)] at this
          exact this.symm
      subst hvv
      have hd1 : decide ((j : Int) < (K.list.length : Int)) = false := by simp; omega
      go_wp2
      go_ret
      exact ⟨ret_b (by rw [HXE.out]), ⟨_, by rw [HXE.out]; exact hWr⟩, hBr⟩
end Go.Proofs.Ytjmkkkfloalliab
