import Derived.Test.YtjmkkkfloalliabL4
import Derived.Test.YtjmkkkfloalliabM3
namespace Go.Proofs.Ytjmkkkfloalliab
set_option linter.unusedVariables false
open Go.RowKit

theorem Idx.c0 {w : World} {b rate whole : Nat} {a : ByteArray} (h : Idx w b rate whole a) : w.cell? ⟨b, 0, none⟩ = some (.int .i64 rate) := Blk.cell? h 0
theorem Idx.c1 {w : World} {b rate whole : Nat} {a : ByteArray} (h : Idx w b rate whole a) : w.cell? ⟨b, 1, none⟩ = some (.int .i64 whole) := Blk.cell? h 1
theorem Idx.c2 {w : World} {b rate whole : Nat} {a : ByteArray} (h : Idx w b rate whole a) : w.cell? ⟨b, 2, none⟩ = some (.string a) := Blk.cell? h 2

set_option maxRecDepth 100000 in
set_option maxHeartbeats 800000 in
theorem rows_any (a : ByteArray) (bi rate h : Nat) (w : World) (h0 : a.size ≤ 1000) (hh : h ≤ a.size) (hI : Idx w bi rate h a) :
    Calls Try.prog 54 #[.pointer (some ⟨bi, 0, none⟩)] w fun e w' => ∃ b, e = .returned (.slice (some ⟨b, 0, none⟩) (a.size + 1) (a.size + 1)) ∧ w.heap.size ≤ b ∧ Nums .i64 w' b (M.rowsI a.data.toList h) ∧ Below w.heap.size w w' := by
  have HL : Hid (a.data.toList.length = a.size) := size_len a
  have hm := make_ints ((a.size : Int) + 1) (a.size + 1) (by omega) (by omega)
  have i2 := hI.c2
  have hbi := Blk.lt hI
  go_enter Try.func54, Try.ntmps54
  go_wp2_with (go_at_call 33; refine (longerRows_any _ _ h0).mono ?_; rintro e w1 ⟨bl, rfl, hbl, hlon, hb1⟩; have i2' := Idx.c2 (Blk.below hI hb1 hbi); have hbi1 : bi < w1.heap.size := Blk.lt (Blk.below hI hb1 hbi))
  clear hm i2 i2'
  have hs1 := hb1.size
  have hll := hlon.lt
  go_loopw [5] (fun i wr => ∃ q r : Nat, q ≤ a.size ∧ i = .int .i64 q ∧ Hid (M.stp a.data.toList h (a.size - q) = some r) ∧ Nums .i64 wr w1.heap.size (M.rp a.data.toList h q) ∧ Nums .i64 wr bl (M.lonL a.data.toList) ∧ Below w.heap.size w wr) (fun i _ => (intOf i).toNat)
  case atStart =>
    refine ⟨a.size, 0, Nat.le_refl _, rfl, ?_, ?_, Blk.alloc hlon _, hb1.alloc hs1 _⟩
    · show _ = _
      rw [Nat.sub_self]; rfl
    · rw [← HL.out, M.rp_start, HL.out]
      exact Nums.new _ _ _ _
  case round =>
    obtain ⟨q, r, hq, rfl, hst, hr, hl, hb⟩ := hrel
    have HI : Idx wr bi rate h a := Blk.below hI hb hbi
    have i1 := HI.c1
    have i2 := HI.c2
    have hrq := hr.cell q (by rw [M.rp_length, HL.out]; omega)
    have hrr := M.rowsOf_some a.data.toList h q r (by rw [HL.out]; exact hq) (by rw [HL.out]; exact hst.out)
    rw [M.rp_at _ _ _ (by rw [HL.out]; exact hq), hrr] at hrq
    have hrle := M.rowsOf_le a.data.toList h (by rw [HL.out]; exact hh) q (by rw [HL.out]; exact hq)
    rw [hrr, HL.out] at hrle
    clear hrr
    by_cases hq0 : q = 0
    · subst hq0
      go_wp2
      go_quiet (fail)
      go_wp2
      go_ret
      refine ⟨_, rfl, hs1, ?_, below_drewN hb _⟩
      rw [← M.rp_zero]
      exact hr
    · have hq1 : 0 < q := by omega
      have hq2 : q < a.size + 1 := by omega
      by_cases hrh : r = h
      · subst hrh
        go_wp2
        go_quiet (fail)
        go_wp2
        go_ret
        refine ⟨_, rfl, hs1, ?_, below_drewN hb _⟩
        rw [← M.rp_stop _ _ q (by rw [HL.out]; exact hq) (by rw [HL.out]; exact hst.out)]
        exact hr
      · have hne : ((r : Int) != (h : Int)) = true := by rw [bne_iff_ne]; omega
        obtain ⟨p, rfl⟩ : ∃ p, q = p + 1 := ⟨q - 1, by omega⟩
        have hpa : p < a.size := by omega
        have hpi : (p : Int) < (a.size : Int) := by omega
        have hp0 : (0 : Int) ≤ (p : Int) + 1 := by omega
        have hpj : (p : Int) + 1 < (a.size : Int) + 1 := by omega
        have hsl : M.sl h r < a.size := M.sl_lt h r a.size hh hrle hrh
        have hlc := hl.cell (M.sl h r) (by rw [M.lonL_length, HL.out]; exact hsl)
        rw [M.lonL_at _ _ (by rw [HL.out]; exact hsl)] at hlc
        have HN : Hid (M.stp a.data.toList h (a.size - p) = some (M.LF a.data.toList (M.sl h r))) := by
          have := M.stp_next a.data.toList h p r (by rw [HL.out]; exact hq) (by rw [HL.out]; exact hst.out) hrh
          rw [HL.out] at this
          exact this
        have HR : Hid ((M.rowsOf a.data.toList h).getD p 0 = M.LF a.data.toList (M.sl h r)) := by
          refine M.rowsOf_some _ _ _ _ (by rw [HL.out]; omega) ?_
          rw [HL.out]; exact HN.out
        have hp1 := hr.cell p (by rw [M.rp_length, HL.out]; omega)
        have hpf := Blk.frozen hr p
        go_wp2
        go_quiet (fail)
        go_wp2
        have i1' : (wr.drewN nq).cell? ⟨bi, 1, none⟩ = some (.int .i64 h) := i1
        have i2' : (wr.drewN nq).cell? ⟨bi, 2, none⟩ = some (.string a) := i2
        have hrq' : (wr.drewN nq).cell? ⟨w1.heap.size, p + 1, none⟩ = some (.int .i64 r) := hrq
        have hlc' : (wr.drewN nq).cell? ⟨bl, M.sl h r, none⟩ = some (.int .i64 (M.LF a.data.toList (M.sl h r))) := hlc
        have hp1' : (wr.drewN nq).cell? ⟨w1.heap.size, p, none⟩ = some (.int .i64 ((M.rp a.data.toList h (p + 1)).getD p 0)) := hp1
        have hpf' : (wr.drewN nq).frozen? ⟨w1.heap.size, p, none⟩ = false := hpf
        have hr' : Nums .i64 (wr.drewN nq) w1.heap.size (M.rp a.data.toList h (p + 1)) := hr
        have hl' : Nums .i64 (wr.drewN nq) bl (M.lonL a.data.toList) := hl
        have hb' : Below w.heap.size w (wr.drewN nq) := below_drewN hb nq
        clear i1 i2 hrq hlc hp1 hpf hr hl hb HI hne
        generalize wr.drewN nq = w4 at *
        go_quiet ((go_at_call 48; exact Calls.quiet_of_same (slot_nat _ _ _ (by omega))))
        go_wp2
        go_roundw
        case rel =>
          refine ⟨p, _, by omega, rfl, HN, ?_, Blk.other (Blk.drewN hl' _) (by simp; omega) _, (below_drewN hb' _).setCell (by simp; omega) _⟩
          rw [← M.rp_set, HR.out]
          exact Nums.set (Blk.drewN hr' _) _ _
        case measure => simp [intOf]
end Go.Proofs.Ytjmkkkfloalliab
