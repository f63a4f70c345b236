import Derived.Test.YtjmkkkfloalliabYO
-- the whole reader; a byte's place
namespace Go.Proofs.Ytjmkkkfloalliab
set_option linter.unusedVariables false
open Go.RowKit

theorem reader_all (f : Nat) : Does 64 f .alt 9000 ∧ Does 77 f .seq 9000 ∧ Does 92 f .rep 9004 ∧ Does 106 f .term 9004 := by
  induction f using Nat.strongRecOn with
  | _ f ih => exact ⟨alt_step f (fun g hg => (ih g hg).2.1), seq_step f (fun g hg => (ih g hg).2.2.1), rep_step f (fun g hg => (ih g hg).2.2.2), term_step f (fun g hg => (ih g hg).1)⟩

def Q.rd0 : Q.Rd := ⟨0, false, false, 0, 0, []⟩
def Q.top (s : List UInt8) : Nat × Q.Rd := Q.go s (8 * s.length + 6) .alt Q.rd0
/-- the whole of a pattern read -/
def Q.whole (s : List UInt8) : Nat × Q.Rd := ((Q.top s).1, { (Q.top s).2 with wrong := (Q.top s).2.wrong || decide ((Q.top s).2.at_ < s.length) })
theorem Q.top_good (s : List UInt8) : Q.Good (s := s) Q.rd0 (Q.top s) :=
  (Q.go_good (s := s) _ .alt Q.rd0 (by simp only [Q.Job.rank]; have : Q.left s Q.rd0 = s.length := rfl; omega) (fun i p h => by simp [Q.rd0] at h) trivial).1

set_option maxRecDepth 10000 in
set_option maxHeartbeats 1600000 in
theorem whole_any (B br : Nat) (pat : ByteArray) (v : Value) (w : World) (hR : Rt w B br pat Q.rd0 v) (hB : B ≤ br) (hs : pat.size ≤ 1000) :
    Calls Try.prog 49 #[.pointer (some ⟨br, 0, none⟩)] w fun e w' => e = .returned (.int .i64 ((Q.whole (L pat)).1 : Nat)) ∧ (∃ v', Rt w' B br pat (Q.whole (L pat)).2 v') ∧ Below B w w' := by
  have HL : Hid ((L pat).length = pat.size) := size_len pat
  have HALT := (reader_all (8 * (L pat).length + 6)).1
  have hleft : Q.left (L pat) Q.rd0 = pat.size := size_len pat
  have hC : Cd pat Q.rd0 9000 := ⟨Nat.zero_le _, fun i p h => by simp [Q.rd0] at h, by unfold Q.phi; rw [hleft]; show 0 + 4 * pat.size ≤ 9000; omega, by rw [hleft]; show 0 + pat.size ≤ 1000; omega⟩
  have hf : 8 * Q.left (L pat) Q.rd0 + Q.Job.rank .alt ≤ 8 * (L pat).length + 6 := by rw [hleft, HL.out]; simp only [Q.Job.rank]; omega
  have HCALL := HALT B br pat Q.rd0 v w hR hB hs hC hf trivial
  have hat : (Q.top (L pat)).2.at_ ≤ pat.size := by have := (Q.top_good (L pat)).on.len (Nat.zero_le _); rw [HL.out] at this; exact this
  have HCA : Hid (Calls Try.prog 64 #[.pointer (some ⟨br, 0, none⟩)] w fun e w' => e = .returned (.int .i64 ((Q.top (L pat)).1 : Nat)) ∧ (∃ v', Rt w' B br pat (Q.top (L pat)).2 v') ∧ Below B w w') := HCALL
  clear HALT HCALL hC hf hleft hR
  by_cases hlt : (Q.top (L pat)).2.at_ < pat.size
  · have hd : decide (((Q.top (L pat)).2.at_ : Int) < (pat.size : Int)) = true := by simp; omega
    have HW : Hid (Q.whole (L pat) = ((Q.top (L pat)).1, { (Q.top (L pat)).2 with wrong := true })) := by
      show _ = _
      unfold Q.whole
      have : decide ((Q.top (L pat)).2.at_ < (L pat).length) = true := by rw [HL.out]; simp [hlt]
      rw [this, Bool.or_true]
    rw [HW.out]
    go_enter Try.func49, Try.ntmps49
    go_wp2_with (go_at_call 64; refine HCA.out.mono ?_; rintro e w1 ⟨rfl, ⟨v1, hR1⟩, hB1⟩; obtain ⟨r0, r1, r2, _⟩ := hR1.rd.cells; have rf := BlkT.frozen hR1.rd)
    go_quiet (fail)
    go_wp2
    go_ret
    exact ⟨rfl, ⟨v1, Rt.set (hR1.drewN nq) ((Keep.refl [br] _).setCell (by simp) _) rfl (RdT.wrong (hR1.rd.drewN nq))⟩, (below_drewN hB1 nq).setCell (by simpa using hB) _⟩
  · have hd : decide (((Q.top (L pat)).2.at_ : Int) < (pat.size : Int)) = false := by simp; omega
    have HW : Hid (Q.whole (L pat) = Q.top (L pat)) := by
      show _ = _
      unfold Q.whole
      have : decide ((Q.top (L pat)).2.at_ < (L pat).length) = false := by rw [HL.out]; simp; omega
      rw [this, Bool.or_false]
    rw [HW.out]
    go_enter Try.func49, Try.ntmps49
    go_wp2_with (go_at_call 64; refine HCA.out.mono ?_; rintro e w1 ⟨rfl, ⟨v1, hR1⟩, hB1⟩; obtain ⟨r0, r1, r2, _⟩ := hR1.rd.cells)
    go_quiet (fail)
    go_wp2
    go_ret
    exact ⟨rfl, ⟨v1, hR1.drewN nq⟩, below_drewN hB1 nq⟩

theorem Q.takeTo_zero {p : Q.Pat} (h : Q.PatOk p) (ins : List Bool) (pl : Nat) : Q.takeTo 0 ins pl p = p := by
  unfold Q.takeTo
  have : (Q.tab 256 fun i => if i < 0 ∧ ins.getD i false = true then p.takes.getD i 0 ||| pl else p.takes.getD i 0) = p.takes := by
    rw [← Q.tab_eq 256 p.takes h.tlen]
    apply Q.tab_congr
    intro i hi
    rw [if_neg (by omega), Q.tab_eq 256 p.takes h.tlen]
  rw [this]
theorem Q.takeTo_skip {p : Q.Pat} (k : Nat) (ins : List Bool) (pl : Nat) (hb : ins.getD k false = false) : Q.takeTo (k + 1) ins pl p = Q.takeTo k ins pl p := by
  unfold Q.takeTo
  congr 1
  apply Q.tab_congr
  intro i hi
  by_cases h : i < k ∧ ins.getD i false = true
  · rw [if_pos h, if_pos ⟨by omega, h.2⟩]
  · rw [if_neg h]
    split
    · next h2 =>
      have : i = k := by
        rcases Nat.lt_or_ge i k with h3 | h3
        · exact absurd ⟨h3, h2.2⟩ h
        · omega
      subst this
      rw [hb] at h2
      cases h2.2
    · rfl
theorem Q.takeTo_step {p : Q.Pat} (k : Nat) (ins : List Bool) (pl : Nat) (hk : k < 256) (hb : ins.getD k false = true) : Q.takeTo (k + 1) ins pl p = { Q.takeTo k ins pl p with takes := (Q.takeTo k ins pl p).takes.set k (p.takes.getD k 0 ||| pl) } := by
  unfold Q.takeTo
  simp only
  rw [Q.tab_set]
  congr 1
  apply Q.tab_congr
  intro i hi
  by_cases e : i = k
  · subst e
    rw [if_pos ⟨by omega, hb⟩, if_pos rfl]
  · rw [if_neg e]
    by_cases h : i < k ∧ ins.getD i false = true
    · rw [if_pos h, if_pos ⟨by omega, h.2⟩]
    · rw [if_neg h, if_neg (by intro h2; exact h ⟨by omega, h2.2⟩)]
theorem Q.takeTo_at {p : Q.Pat} (k : Nat) (ins : List Bool) (pl : Nat) (hk : k < 256) : (Q.takeTo k ins pl p).takes.getD k 0 = p.takes.getD k 0 := by
  unfold Q.takeTo
  simp only
  rw [Q.tab_at _ _ _ hk, if_neg (by omega)]
theorem Q.takeTo_ok {p : Q.Pat} (k : Nat) (ins : List Bool) (pl : Nat) (h : Q.PatOk p) (hf : pl < 2 ^ p.size) : Q.PatOk (Q.takeTo k ins pl p) := by
  refine ⟨h.size, h.pos, h.alen, Q.tab_len _ _, h.a, fun i => ?_, h.b⟩
  simp only [Q.takeTo]
  rw [Q.getD_tab]
  have hp : 0 < 2 ^ p.size := Nat.pow_pos (by decide)
  split
  · split
    · exact Nat.or_lt_two_pow (h.t i) hf
    · exact h.t i
  · exact hp

/-- one place more -/
def Q.grow (p : Q.Pat) : Q.Pat := { p with size := p.size + 1 }
theorem Q.grow_ok {p : Q.Pat} (h : Q.PatOk p) (hs : p.size < 49) : Q.PatOk (Q.grow p) := by
  have h1 : 2 ^ p.size < 2 ^ (p.size + 1) := Nat.pow_lt_pow_right (by decide) (by omega)
  exact ⟨hs, by show 1 ≤ p.size + 1; omega, h.alen, h.tlen, fun i => Nat.lt_trans (h.a i) h1, fun i => Nat.lt_trans (h.t i) h1, Nat.lt_trans h.b h1⟩

set_option maxRecDepth 10000 in
set_option maxHeartbeats 1600000 in
theorem layByte_any (bp : Nat) (p : Q.Pat) (t : Q.Part) (w : World) (hP : PaT w bp p) (hl : t.ins.length = 256) (hs : p.size < 49) :
    Calls Try.prog 82 #[.pointer (some ⟨bp, 0, none⟩), .agg (partCells t).toArray] w fun e w' => e = .returned (spanV (Q.layByte t.ins p).1) ∧ PaT w' bp (Q.layByte t.ins p).2 ∧ Keep [bp] w w' := by
  have hlt := hP.blk.lt
  obtain ⟨pl, hple⟩ : ∃ pl, pl = 2 ^ p.size := ⟨_, rfl⟩
  have HPL : Hid (pl = 2 ^ p.size) := hple
  have HOK : Hid (Q.PatOk (Q.grow p)) := Q.grow_ok hP.ok hs
  have hpl : pl < 2 ^ (Q.grow p).size := by rw [hple]; exact Nat.pow_lt_pow_right (by decide) (by show p.size < p.size + 1; omega)
  have hpl49 : pl < 2 ^ 49 := Q.lt64 HOK.out hpl
  have HE : Hid (Q.layByte t.ins p = (⟨pl, pl, false⟩, Q.takeTo 256 t.ins pl (Q.grow p))) := by show _ = _; unfold Q.layByte; rw [hple]; rfl
  rw [HE.out]
  have c0 := hP.c0
  have fz := hP.fz
  have HPW : Hid (PaT (((w.setCell ⟨bp, 0, none⟩ (.int .i64 ((p.size : Int) + 1))).alloc (.cells (partCells t).toArray 90)).alloc (.cells #[.int .u64 0, .int .u64 0, .bool false] 121)) bp (Q.grow p)) := ((hP.setS (p.size + 1) HOK.out rfl).alloc _).alloc _
  have HTW : Hid (PtT (((w.setCell ⟨bp, 0, none⟩ (.int .i64 ((p.size : Int) + 1))).alloc (.cells (partCells t).toArray 90)).alloc (.cells #[.int .u64 0, .int .u64 0, .bool false] 121)) w.heap.size t) := by
    show PtT _ _ _
    have := (PtT.new (w.setCell ⟨bp, 0, none⟩ (.int .i64 ((p.size : Int) + 1))) hl).alloc (.cells #[.int .u64 0, .int .u64 0, .bool false] 121)
    simpa using this
  have HSW : Hid (BlkT (((w.setCell ⟨bp, 0, none⟩ (.int .i64 ((p.size : Int) + 1))).alloc (.cells (partCells t).toArray 90)).alloc (.cells #[.int .u64 0, .int .u64 0, .bool false] 121)) (w.heap.size + 1) 121 [.int .u64 0, .int .u64 0, .bool false]) := by
    show BlkT _ _ _ _
    have := BlkT.new ((w.setCell ⟨bp, 0, none⟩ (.int .i64 ((p.size : Int) + 1))).alloc (.cells (partCells t).toArray 90)) #[.int .u64 0, .int .u64 0, .bool false] 121
    simpa using this
  have HKW : Hid (Keep [bp] w (((w.setCell ⟨bp, 0, none⟩ (.int .i64 ((p.size : Int) + 1))).alloc (.cells (partCells t).toArray 90)).alloc (.cells #[.int .u64 0, .int .u64 0, .bool false] 121))) := (((Keep.refl [bp] w).setCell (by simp) _).alloc _).alloc _
  clear HE hple hP
  unfold spanV
  go_enter Try.func82, Try.ntmps82
  go_wp2_with (go_at_call 83; refine (bit_any p.size pl _ (by omega) HPL).mono ?_; rintro e w1 ⟨rfl, rfl⟩)
  clear c0 fz
  generalize ((w.setCell ⟨bp, 0, none⟩ (.int .i64 ((p.size : Int) + 1))).alloc (.cells (partCells t).toArray 90)).alloc (.cells #[.int .u64 0, .int .u64 0, .bool false] 121) = w0 at *
  have HT0 : Hid (Q.takeTo 0 t.ins pl (Q.grow p) = Q.grow p) := Q.takeTo_zero HOK.out _ _
  go_loopw [19] (fun i wr => ∃ k : Nat, k ≤ 256 ∧ i = .int .i64 k ∧ PaT wr bp (Q.takeTo k t.ins pl (Q.grow p)) ∧ Keep [bp] w0 wr) (fun i _ => 256 - (intOf i).toNat)
  case atStart => exact ⟨0, by omega, rfl, by rw [HT0.out]; exact HPW.out, Keep.refl _ _⟩
  case round =>
    obtain ⟨k, hk, rfl, hPk, hKk⟩ := hrel
    have hTk := HTW.out.keep hKk (by simp; omega)
    by_cases hlt2 : k < 256
    · have hc := hTk.cellI k hlt2
      have hks : (k : Int) < 256 := by omega
      have HKk : Hid (Keep [bp] w0 wr) := hKk
      cases hb : t.ins.getD k false with
      | false =>
        rw [hb] at hc
        have HPk : Hid (PaT wr bp (Q.takeTo k t.ins pl (Q.grow p))) := hPk
        clear hPk hTk hKk
        go_wp2
        go_roundw
        case rel => exact ⟨k + 1, by omega, by go_num, by rw [Q.takeTo_skip _ _ _ hb]; exact HPk.out, HKk.out⟩
        case measure => simp [intOf]; omega
      | true =>
        rw [hb] at hc
        have ct := hPk.ct k hlt2
        rw [Q.takeTo_at _ _ _ hlt2] at ct
        have fz := hPk.fz
        have hX : (Q.grow p).takes.getD k 0 < 2 ^ 49 := Q.lt64 HOK.out (HOK.out.t k)
        obtain ⟨O, hOe⟩ : ∃ O, O = (Q.grow p).takes.getD k 0 ||| pl := ⟨_, rfl⟩
        have hO : bits .or .u64 (((Q.grow p).takes.getD k 0 : Nat) : Int) (pl : Int) = (O : Int) := by rw [hOe]; exact or_u hX hpl49
        have HN : Hid (PaT (wr.setCell ⟨bp, 50 + k, none⟩ (.int .u64 (O : Int))) bp (Q.takeTo (k + 1) t.ins pl (Q.grow p))) := by
          refine hPk.setT k O hlt2 (Q.takeTo_ok _ _ _ HOK.out hpl) ?_
          rw [Q.takeTo_step k _ _ hlt2 hb, hOe]
        generalize (Q.grow p).takes.getD k 0 = X at *
        clear hOe hPk hTk hKk
        go_wp2_with fail
        go_region
        all_goals go_wp2
        all_goals go_roundw
        all_goals first
          | (case rel => exact ⟨k + 1, by omega, by go_num, HN.out.drew, (HKk.out.setCell (by simp) _).drew⟩)
          | (case measure => simp [intOf]; omega)
          | skip
    · obtain rfl : k = 256 := by omega
      have hSk := HSW.out.keep hKk (by simp; omega)
      have s0 := hSk.cell 0; have s1 := hSk.cell 1; have s2 := hSk.cell 2
      have sf := hSk.frozen
      simp only [List.getElem?_cons_zero, List.getElem?_cons_succ] at s0 s1 s2
      have HPk : Hid (PaT wr bp (Q.takeTo 256 t.ins pl (Q.grow p))) := hPk
      have HKk : Hid (Keep [bp] w wr) := HKW.out.trans hKk
      clear hPk hTk hKk hSk
      go_wp2
      exact bodyPost_ret (v := .agg #[.int .u64 (pl : Int), .int .u64 (pl : Int), .bool false]) (by simp [results, Try.results82, go_sem, *]) rfl ⟨rfl, ((HPk.out.other (by simp; omega) _).other (by simp; omega) _).other (by simp; omega) _, ((HKk.out.setNew (by simp) _).setNew (by simp) _).setNew (by simp) _⟩
end Go.Proofs.Ytjmkkkfloalliab
