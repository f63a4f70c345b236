import Derived.Test.YtjmkkkfloalliabYN
-- the reader: brackets, terms
namespace Go.Proofs.Ytjmkkkfloalliab
set_option linter.unusedVariables false
open Go.RowKit

attribute [local go_sem ↓] exec_load_part zero_part
attribute [local go_sem] plainB_p blkB_p offB_p cellsB_a aggB_a okB_part thereB_new thereB_new0 natB_n natOf_n
attribute [local simp] rdAt_drew rdAt_alloc rdAt_sc cell_sc rdAt_set

theorem RdT.depth {w : World} {br : Nat} {pat : ByteArray} {σ : Q.Rd} {v : Value} (h : RdT w br pat σ v) (k : Nat) : RdT (w.setCell ⟨br, 4, none⟩ (.int .i64 (k : Int))) br pat { σ with depth := k } v := BlkT.set h 4 _
theorem RdT.deepest {w : World} {br : Nat} {pat : ByteArray} {σ : Q.Rd} {v : Value} (h : RdT w br pat σ v) (k : Nat) : RdT (w.setCell ⟨br, 5, none⟩ (.int .i64 (k : Int))) br pat { σ with deepest := k } v := BlkT.set h 5 _
theorem Rt.set {w w' : World} {B br : Nat} {pat : ByteArray} {σ τ : Q.Rd} {v : Value} (h : Rt w B br pat σ v) (k : Keep [br] w w') (hp : τ.parts = σ.parts) (hr : RdT w' br pat τ v) : Rt w' B br pat τ v :=
  h.keep k (fun b e hm => h.ne (by rw [e, List.mem_singleton.1 hm])) hp hr

set_option maxRecDepth 10000 in
set_option maxHeartbeats 1600000 in
theorem brk_any (f : Nat) (halt : Does 64 f .alt 9000) (B br : Nat) (pat : ByteArray) (σ : Q.Rd) (v : Value) (w : World) (hR : Rt w B br pat σ v) (hB : B ≤ br) (hs : pat.size ≤ 1000) (hC : Cd pat σ 9004) (hf : 8 * Q.left (L pat) σ ≤ f + 2) (hne : Q.next (L pat) σ ≠ -1) :
    Calls Try.prog 115 #[.pointer (some ⟨br, 0, none⟩)] w fun e w' => e = .returned (.int .i64 ((Q.go (L pat) f .alt (Q.opened σ)).1 : Nat)) ∧ (∃ v', Rt w' B br pat (Q.closed (L pat) (Q.go (L pat) f .alt (Q.opened σ)).2) v') ∧ Below B w w' := by
  have HL : Hid ((L pat).length = pat.size) := size_len pat
  have hlt := hR.lt
  obtain ⟨c0, c1, c2, c3, c4, c5, c6⟩ := hR.rd.cells
  have fz := BlkT.frozen hR.rd
  have hat := hC.at_
  have hdep := hC.dep
  have hol := Q.opened_left hne
  have hop : Q.phi (L pat) (Q.opened σ) + 4 ≤ Q.phi (L pat) σ := by
    unfold Q.phi
    show σ.parts.length + _ + 4 ≤ _
    omega
  have hoat : (Q.opened σ).at_ ≤ pat.size := by have := (Q.opened_on (s := L pat) hne).len (by rw [HL.out]; exact hat); rw [HL.out] at this; exact this
  have hCo : Cd pat (Q.opened σ) 9000 := ⟨hoat, hC.ok, by have := hC.phi; omega, by show σ.depth + 1 + _ ≤ _; omega⟩
  have hfo : 8 * Q.left (L pat) (Q.opened σ) + Q.Job.rank .alt ≤ f := by simp only [Q.Job.rank]; omega
  obtain ⟨hC2, hG2, _⟩ := Cd.go (f := f) (j := .alt) (m' := 9001) hCo hfo trivial trivial (by simp only [Q.Job.cost]; omega)
  have hd2 : (Q.go (L pat) f .alt (Q.opened σ)).2.depth = σ.depth + 1 := Q.go_depth _ _ _ _
  have hat2 := hC2.at_
  have HALT : Hid (Does 64 f .alt 9000) := halt
  have HR : Hid (Rt w B br pat σ v) := hR
  have HCo : Hid (Cd pat (Q.opened σ) 9000) := hCo
  have hfoH : Hid (8 * Q.left (L pat) (Q.opened σ) + Q.Job.rank .alt ≤ f) := hfo
  have hdep1 : σ.depth ≤ 1000 := by omega
  clear hR hC hCo hfo hC2 hG2 hol hop hne
  -- the state that 'alternatives' is called in
  have HOP : ∀ q, Hid (Rt ((((w.setCell ⟨br, 1, none⟩ (.int .i64 ((σ.at_ : Int) + 1))).setCell ⟨br, 4, none⟩ (.int .i64 ((σ.depth : Int) + 1))).drewN q)) B br pat { Q.fwd σ with depth := σ.depth + 1 } v) := fun q => by
    have hk : Keep [br] w ((w.setCell ⟨br, 1, none⟩ (.int .i64 ((σ.at_ : Int) + 1))).setCell ⟨br, 4, none⟩ (.int .i64 ((σ.depth : Int) + 1))) := ((Keep.refl [br] w).setCell (by simp) _).setCell (by simp) _
    refine Rt.drewN (Rt.set (τ := { Q.fwd σ with depth := σ.depth + 1 }) HR.out hk rfl ?_) q
    exact RdT.depth (RdT.fwd HR.out.rd (σ.at_ + 1) rfl) (σ.depth + 1)
  have HKO : ∀ q, Hid (Below B w ((((w.setCell ⟨br, 1, none⟩ (.int .i64 ((σ.at_ : Int) + 1))).setCell ⟨br, 4, none⟩ (.int .i64 ((σ.depth : Int) + 1))).drewN q))) := fun q => below_drewN ((((Below.refl B w).setCell (by simpa using hB) _)).setCell (by simpa using hB) _) q
  by_cases hdd : σ.deepest < σ.depth + 1
  · have hdi : decide ((σ.deepest : Int) < (σ.depth : Int) + 1) = true := by simp; omega
    have HOPE : Hid (Q.opened σ = { Q.fwd σ with depth := σ.depth + 1, deepest := σ.depth + 1 }) := by show _ = _; unfold Q.opened; rw [if_pos hdd]
    go_enter Try.func115, Try.ntmps115
    go_wp2_with fail
    go_quiet (fail)
    have hR3 : Rt ((((w.setCell ⟨br, 1, none⟩ (.int .i64 ((σ.at_ : Int) + 1))).setCell ⟨br, 4, none⟩ (.int .i64 ((σ.depth : Int) + 1))).drewN nq).setCell ⟨br, 5, none⟩ (.int .i64 ((σ.depth : Int) + 1))) B br pat (Q.opened σ) v := by
      rw [HOPE.out]
      exact Rt.set (HOP nq).out ((Keep.refl [br] _).setCell (by simp) _) rfl (RdT.deepest (HOP nq).out.rd (σ.depth + 1))
    have hB3 : Below B w ((((w.setCell ⟨br, 1, none⟩ (.int .i64 ((σ.at_ : Int) + 1))).setCell ⟨br, 4, none⟩ (.int .i64 ((σ.depth : Int) + 1))).drewN nq).setCell ⟨br, 5, none⟩ (.int .i64 ((σ.depth : Int) + 1))) := (HKO nq).out.setCell (by simpa using hB) _
    have HR3 : Hid (Rt ((((w.setCell ⟨br, 1, none⟩ (.int .i64 ((σ.at_ : Int) + 1))).setCell ⟨br, 4, none⟩ (.int .i64 ((σ.depth : Int) + 1))).drewN nq).setCell ⟨br, 5, none⟩ (.int .i64 ((σ.depth : Int) + 1))) B br pat (Q.opened σ) v) := hR3
    clear hR3
    go_wp2_with (first
      | (go_at_call 64; refine (HALT.out B br pat (Q.opened σ) v _ HR3.out hB hs HCo.out hfoH.out trivial).mono ?_; rintro e w4 ⟨rfl, ⟨v4, hR4⟩, hB4⟩; have g4 := hR4.rd.cells.2.2.2.2.1; rw [hd2] at g4; have fz4 := BlkT.frozen hR4.rd; have hR5 := Rt.set (τ := { (Q.go (L pat) f .alt (Q.opened σ)).2 with depth := (Q.go (L pat) f .alt (Q.opened σ)).2.depth - 1 }) hR4 ((Keep.refl [br] w4).setCell (p := ⟨br, 4, none⟩) (by simp) (.int .i64 (σ.depth : Int))) rfl (by rw [hd2]; exact RdT.depth hR4.rd σ.depth))
      | (go_at_call 121; refine (need_any br pat _ v4 41 _ hR5.rd hs hat2).mono ?_; rintro e w6 ⟨rfl, hR6, hK6⟩))
    go_ret
    exact ⟨rfl, ⟨v4, Rt.set hR5 hK6 (Q.need_parts _ _) hR6⟩, ((hB3.trans hB4).setCell (by simpa using hB) _).trans (hK6.to_below (by simpa using hB) (by have := hR5.lt; omega))⟩
  · have hdi : decide ((σ.deepest : Int) < (σ.depth : Int) + 1) = false := by simp; omega
    have HOPE : Hid (Q.opened σ = { Q.fwd σ with depth := σ.depth + 1 }) := by show _ = _; unfold Q.opened; rw [if_neg hdd]; rfl
    go_enter Try.func115, Try.ntmps115
    go_wp2_with fail
    go_quiet (fail)
    have HR3 : Hid (Rt (((w.setCell ⟨br, 1, none⟩ (.int .i64 ((σ.at_ : Int) + 1))).setCell ⟨br, 4, none⟩ (.int .i64 ((σ.depth : Int) + 1))).drewN nq) B br pat (Q.opened σ) v) := by
      show Rt _ _ _ _ _ _
      rw [HOPE.out]
      exact (HOP nq).out
    have hB3 := (HKO nq).out
    go_wp2_with (first
      | (go_at_call 64; refine (HALT.out B br pat (Q.opened σ) v _ HR3.out hB hs HCo.out hfoH.out trivial).mono ?_; rintro e w4 ⟨rfl, ⟨v4, hR4⟩, hB4⟩; have g4 := hR4.rd.cells.2.2.2.2.1; rw [hd2] at g4; have fz4 := BlkT.frozen hR4.rd; have hR5 := Rt.set (τ := { (Q.go (L pat) f .alt (Q.opened σ)).2 with depth := (Q.go (L pat) f .alt (Q.opened σ)).2.depth - 1 }) hR4 ((Keep.refl [br] w4).setCell (p := ⟨br, 4, none⟩) (by simp) (.int .i64 (σ.depth : Int))) rfl (by rw [hd2]; exact RdT.depth hR4.rd σ.depth))
      | (go_at_call 121; refine (need_any br pat _ v4 41 _ hR5.rd hs hat2).mono ?_; rintro e w6 ⟨rfl, hR6, hK6⟩))
    go_ret
    exact ⟨rfl, ⟨v4, Rt.set hR5 hK6 (Q.need_parts _ _) hR6⟩, ((hB3.trans hB4).setCell (by simpa using hB) _).trans (hK6.to_below (by simpa using hB) (by have := hR5.lt; omega))⟩

theorem Q.stops_ne {c : Int} (h : Q.stops c = false) : (c == -1) = false ∧ (c == 41) = false ∧ (c == 124) = false ∧ (c == 42) = false ∧ (c == 43) = false ∧ (c == 63) = false ∧ (c == 123) = false ∧ (c == 125) = false ∧ (c == 93) = false := by
  unfold Q.stops at h
  simp only [Bool.or_eq_false_iff] at h
  obtain ⟨⟨⟨⟨⟨⟨⟨⟨h1, h2⟩, h3⟩, h4⟩, h5⟩, h6⟩, h7⟩, h8⟩, h9⟩ := h
  exact ⟨h1, h2, h3, h4, h5, h6, h7, h8, h9⟩
theorem Q.stops_eq {c : Int} (h : Q.stops c = true) : c = -1 ∨ c = 41 ∨ c = 124 ∨ c = 42 ∨ c = 43 ∨ c = 63 ∨ c = 123 ∨ c = 125 ∨ c = 93 := by
  unfold Q.stops at h
  simp only [Bool.or_eq_true, beq_iff_eq] at h
  omega

set_option maxRecDepth 10000 in
set_option maxHeartbeats 6400000 in
theorem term_step (f : Nat) (halt : ∀ g, g < f → Does 64 g .alt 9000) : Does 106 f .term 9004 := by
  intro B br pat σ v w hR hB hs hC hf hne
  have HL : Hid ((L pat).length = pat.size) := size_len pat
  obtain ⟨g0, rfl⟩ : ∃ g, f = g + 1 := ⟨f - 1, by simp only [Q.Job.rank] at hf; omega⟩
  simp only [Q.Job.rank] at hf
  have hlt := hR.lt
  have HR : Hid (Rt w B br pat σ v) := hR
  have HC : Hid (Cd pat σ 9004) := hC
  have HNE : Hid (Q.next (L pat) σ ≠ -1) := hne
  have hmk := mk_len 1 0 0
  have hz0 := zero_len
  have hat := hC.at_
  have HK0 : Hid (Keep [br] w (w.alloc (.cells (partCells (Q.mk 1 0 0)).toArray 90))) := (Keep.refl [br] w).alloc _
  have HP0 : Hid (PtT (w.alloc (.cells (partCells (Q.mk 1 0 0)).toArray 90)) w.heap.size (Q.mk 1 0 0)) := PtT.new w hmk
  have HR0 : Hid (Rt (w.alloc (.cells (partCells (Q.mk 1 0 0)).toArray 90)) B br pat σ v) := hR.alloc _
  by_cases h40 : Q.next (L pat) σ = 40
  · have HG : Hid (Q.go (L pat) (g0 + 1) .term σ = ((Q.go (L pat) g0 .alt (Q.opened σ)).1, Q.closed (L pat) (Q.go (L pat) g0 .alt (Q.opened σ)).2)) := by show _ = _; conv => lhs; unfold Q.go; rw [if_pos h40]
    rw [HG.out]
    have HALT : Hid (Does 64 g0 .alt 9000) := halt g0 (by omega)
    have HBB : ∀ q, Hid (Below B w ((w.alloc (.cells (partCells (Q.mk 1 0 0)).toArray 90)).drewN q)) := fun q => below_drewN ((Below.refl B w).alloc (by omega) _) q
    clear hR hC hne halt
    go_enter Try.func106, Try.ntmps106
    go_wp2_with (first
      | (refine wpl_new1 (by rfl) _ _ (by rfl) (by rfl) (by rfl) ?_)
      | (go_at_call 91; refine (next_any br pat σ v _ HR0.out.rd hs hat).mono ?_; rintro e w1 ⟨rfl, q, rfl⟩; rw [h40])
      | (go_at_call 115; refine (brk_any g0 HALT.out B br pat σ v _ (HR0.out.drewN q) hB hs HC.out (by omega) HNE.out).mono ?_; rintro e w2 ⟨rfl, ⟨v2, hR2⟩, hB2⟩))
    go_ret
    exact ⟨rfl, ⟨v2, hR2⟩, (HBB q).out.trans hB2⟩
  · have HG : Hid (Q.go (L pat) (g0 + 1) .term σ = Q.add (Q.leaf (L pat) σ).1 (Q.leaf (L pat) σ).2) := by show _ = _; conv => lhs; unfold Q.go; rw [if_neg h40]
    rw [HG.out]
    have hpp : (Q.leaf (L pat) σ).2.parts = σ.parts := Q.leaf_parts σ
    have hlen : (Q.leaf (L pat) σ).2.parts.length ≤ 10000 := by rw [hpp]; have := hC.len; omega
    have HOK2 : Hid (Q.PartsOk (Q.leaf (L pat) σ).2.parts) := by show Q.PartsOk _; rw [hpp]; exact hC.ok
    have HPK : Hid (Q.PartOk (Q.leaf (L pat) σ).2.parts.length (Q.leaf (L pat) σ).1) := Q.leaf_ok _ _
    have hnr := Q.next_range (s := L pat) σ
    have hafw : (Q.fwd σ).at_ ≤ pat.size := by have := (Q.fwd_on (s := L pat) hne).len (by rw [HL.out]; exact hat); rw [HL.out] at this; exact this
    have halt2 : σ.at_ < pat.size := hafw
    have q40 : (Q.next (L pat) σ == 40) = false := by simp [h40]
    clear hR hC hne halt h40 HG
    go_enter Try.func106, Try.ntmps106
    go_upto_block 0 with (first
      | (refine wpl_new1 (by rfl) _ _ (by rfl) (by rfl) (by rfl) ?_)
      | (go_at_call 91; refine (next_any br pat σ v _ HR0.out.rd hs hat).mono ?_; rintro e w1 ⟨rfl, q, rfl⟩))
    have HK1 : Hid (Keep [br] w ((w.alloc (.cells (partCells (Q.mk 1 0 0)).toArray 90)).drewN q)) := HK0.out.drewN q
    have HP1 : Hid (PtT ((w.alloc (.cells (partCells (Q.mk 1 0 0)).toArray 90)).drewN q) w.heap.size (Q.mk 1 0 0)) := HP0.out
    have HR1 : Hid (RdT ((w.alloc (.cells (partCells (Q.mk 1 0 0)).toArray 90)).drewN q) br pat σ v) := HR0.out.rd
    clear HK0 HP0 HR0
    generalize (w.alloc (.cells (partCells (Q.mk 1 0 0)).toArray 90)).drewN q = w1 at *
    have nbb : w.heap.size ≠ br := by omega
    go_cut [] from 4 (fun wc => RdT wc br pat (Q.leaf (L pat) σ).2 v ∧ PtT wc w.heap.size (Q.leaf (L pat) σ).1 ∧ Keep [br] w wc)
    case first =>
      have pf := HP1.out.frozen
      have rf := BlkT.frozen HR1.out
      obtain ⟨_, r1, r2, _⟩ := HR1.out.cells
      cases hst : Q.stops (Q.next (L pat) σ) with
      | true =>
        have HE : Hid (Q.leaf (L pat) σ = (Q.mk 1 0 0, { σ with wrong := true })) := by show _ = _; unfold Q.leaf; rw [if_pos hst]
        have HD : Hid (RdT (w1.setCell ⟨br, 2, none⟩ (.bool true)) br pat (Q.leaf (L pat) σ).2 v ∧ PtT (w1.setCell ⟨br, 2, none⟩ (.bool true)) w.heap.size (Q.leaf (L pat) σ).1 ∧ Keep [br] w (w1.setCell ⟨br, 2, none⟩ (.bool true))) := by
          show _ ∧ _
          rw [HE.out]
          exact ⟨HR1.out.wrong, HP1.out.other (by simpa using Ne.symm nbb) _, HK1.out.setCell (by simp) _⟩
        have hcs := Q.stops_eq hst
        clear hst q40
        rcases hcs with hc | hc | hc | hc | hc | hc | hc | hc | hc <;>
        · rw [hc]
          go_wp2
          go_meet
          case rel => exact HD.out
      | false =>
        obtain ⟨s1, s2, s3, s4, s5, s6, s7, s8, s9⟩ := Q.stops_ne hst
        have HF : Hid (RdT (w1.setCell ⟨br, 1, none⟩ (.int .i64 ((σ.at_ : Int) + 1))) br pat (Q.fwd σ) v) := RdT.fwd HR1.out (σ.at_ + 1) rfl
        have HPF : Hid (PtT (w1.setCell ⟨br, 1, none⟩ (.int .i64 ((σ.at_ : Int) + 1))) w.heap.size (Q.mk 1 0 0)) := HP1.out.other (by simpa using Ne.symm nbb) _
        have HKF : Hid (Keep [br] w (w1.setCell ⟨br, 1, none⟩ (.int .i64 ((σ.at_ : Int) + 1)))) := HK1.out.setCell (by simp) _
        by_cases h91 : Q.next (L pat) σ = 91
        · have HE : Hid (Q.leaf (L pat) σ = ({ Q.mk 1 0 0 with ins := (Q.cls (L pat) Q.ins0 σ).1 }, (Q.cls (L pat) Q.ins0 σ).2)) := by show _ = _; unfold Q.leaf; rw [if_neg (by rw [hst]; decide), if_pos h91]
          clear hst s1 s2 s3 s4 s5 s6 s7 s8 s9 q40
          rw [h91]
          go_wp2_with (go_at_call 116; refine (class_any' br w.heap.size pat σ v (Q.mk 1 0 0) _ HR1.out HP1.out hs halt2).mono ?_; rintro e w2 ⟨rfl, hR2, hP2, hK2⟩)
          go_meet
          case rel =>
            rw [HE.out]
            exact ⟨hR2, hP2, HK1.out.trans2 hK2 (by simp)⟩
        by_cases h46 : Q.next (L pat) σ = 46
        · have HE : Hid (Q.leaf (L pat) σ = ({ Q.mk 1 0 0 with ins := Q.turn Q.ins0 }, Q.fwd σ)) := by show _ = _; unfold Q.leaf; rw [if_neg (by rw [hst]; decide), if_neg h91, if_pos h46]
          clear hst s1 s2 s3 s4 s5 s6 s7 s8 s9 q40 h91
          rw [h46]
          go_wp2_with (go_at_call 117; refine (turn_any w.heap.size (Q.mk 1 0 0) _ HPF.out).mono ?_; rintro e w2 ⟨rfl, hP2, hK2⟩)
          go_meet
          case rel =>
            rw [HE.out]
            exact ⟨HF.out.keep hK2 (by simpa using Ne.symm nbb), hP2, HKF.out.trans2 hK2 (by simp)⟩
        by_cases h92 : Q.next (L pat) σ = 92
        · have HE : Hid (Q.leaf (L pat) σ = ({ Q.mk 1 0 0 with ins := Q.ins0.set (Q.anyByte (L pat) (Q.fwd σ)).1 true }, (Q.anyByte (L pat) (Q.fwd σ)).2)) := by show _ = _; unfold Q.leaf; rw [if_neg (by rw [hst]; decide), if_neg h91, if_neg h46, if_pos h92]
          have hab := Q.anyByte_lt (s := L pat) (Q.fwd σ)
          have habi : ((Q.anyByte (L pat) (Q.fwd σ)).1 : Int) < 256 := by omega
          clear hst s1 s2 s3 s4 s5 s6 s7 s8 s9 q40 h91 h46
          rw [h92]
          go_wp2_with (go_at_call 118; refine (anyByte_any br pat _ v _ HF.out hs hafw).mono ?_; rintro e w2 ⟨rfl, hR2, hK2⟩; have hP2 := HPF.out.keep hK2 (by simpa using nbb); have hc2 := hP2.cellI _ hab; have pf2 := hP2.frozen)
          go_meet
          case rel =>
            rw [HE.out]
            exact ⟨hR2.other (by simpa using nbb) _, hP2.ins _ hab true, (HKF.out.trans hK2).setNew (by simp) _⟩
        · have HE : Hid (Q.leaf (L pat) σ = ({ Q.mk 1 0 0 with ins := Q.ins0.set (Q.next (L pat) σ).toNat true }, Q.fwd σ)) := by show _ = _; unfold Q.leaf; rw [if_neg (by rw [hst]; decide), if_neg h91, if_neg h46, if_neg h92]
          have q91 : (Q.next (L pat) σ == 91) = false := by simp [h91]
          have q46 : (Q.next (L pat) σ == 46) = false := by simp [h46]
          have q92 : (Q.next (L pat) σ == 92) = false := by simp [h92]
          obtain ⟨cn, hcn⟩ : ∃ cn : Nat, Q.next (L pat) σ = (cn : Int) := ⟨(Q.next (L pat) σ).toNat, by have := hnr.1; have : Q.next (L pat) σ ≠ -1 := HNE.out; omega⟩
          have hcl : cn < 256 := by have := hnr.2; omega
          have hci : (cn : Int) < 256 := by omega
          have HCN : Hid ((Q.next (L pat) σ).toNat = cn) := by show _ = _; rw [hcn]; simp
          have hc2 := HPF.out.cellI cn hcl
          have pf2 := HPF.out.frozen
          rw [hcn] at s1 s2 s3 s4 s5 s6 s7 s8 s9 q40 q91 q46 q92
          rw [hcn]
          clear hst h91 h46 h92 hcn hnr
          go_wp2
          go_meet
          case rel =>
            rw [HE.out, HCN.out]
            exact ⟨HF.out.other (by simpa using nbb) _, HPF.out.ins cn hcl true, HKF.out.setNew (by simp) _⟩
    case rest =>
      clear HR1 HP1 HK1
      obtain ⟨hRW, hPW, hKW⟩ := hcut
      have hrd : rdAt wc w.heap.size 0 = some (partCells (Q.leaf (L pat) σ).1).toArray := rdAt_of (fun j x hx => by rw [Nat.zero_add, hPW.2.cell j]; exact hx) hPW.1
      have hRtW : Rt wc B br pat (Q.leaf (L pat) σ).2 v := Rt.set HR.out hKW hpp hRW
      have hBW : Below B w wc := hKW.to_below (by simpa using hB) (by omega)
      clear hPW hRW hKW
      go_wp2_with fail
      go_region_law (go_simp; refine (radd_any B br pat _ (Q.leaf (L pat) σ).1 v _ hRtW.drew hB hlen HOK2.out HPK.out).mono ?_; rintro e w3 ⟨rfl, ⟨v3, hR3⟩, hB3⟩)
      go_wp2
      go_ret
      exact ⟨rfl, ⟨v3, hR3⟩, (below_drew hBW).trans hB3⟩
end Go.Proofs.Ytjmkkkfloalliab
