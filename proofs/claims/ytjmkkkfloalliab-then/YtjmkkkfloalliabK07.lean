import Derived.Test.YtjmkkkfloalliabK06
namespace Go.Proofs.Ytjmkkkfloalliab
set_option linter.unusedVariables false
open Go.RowKit

namespace Q
def Dot (A : Lang) : Lang := fun u => ∃ v c, u = v ++ [c] ∧ A v
theorem dot_all {t : List UInt8} {P : Pat} {A : Lang} (h : ∀ u, acc P u = true ↔ (u ≠ [] ∧ Dot A u)) (hA : A []) : (hits t P).length = t.length := by
  have : hits t P = List.range t.length := by
    refine rise_ext (hits_rise t P) List.pairwise_lt_range fun p => ?_
    rw [mem_at h, List.mem_range]
    constructor
    · exact fun g => g.2.lt
    · intro g
      refine ⟨by omega, [t[p]], ?_, by simp, [], t[p], rfl, hA⟩
      rw [M.pre_iff]
      exact ⟨t.drop (p + 1), by rw [List.drop_eq_getElem_cons g]; rfl⟩
  rw [this]; simp
theorem dot_two {t : List UInt8} {A : Lang} {p : Nat} (hA : ¬ A []) (h : At t (Dot A) p) : At t A p ∧ p + 1 < t.length := by
  obtain ⟨u, h1, h2, v, c, rfl, h3⟩ := h
  have hv : v ≠ [] := by intro e; subst e; exact hA h3
  refine ⟨⟨v, pre_more h1 rfl, hv, h3⟩, ?_⟩
  obtain ⟨y, e⟩ := (M.pre_iff _ _).1 h1
  have := congrArg List.length e
  have hl : 0 < v.length := List.length_pos_iff.2 hv
  simp at this
  omega
theorem dot_in {t : List UInt8} {P P' : Pat} {A : Lang} (h : ∀ u, acc P u = true ↔ (u ≠ [] ∧ A u)) (h' : ∀ u, acc P' u = true ↔ (u ≠ [] ∧ Dot A u)) (hA : ¬ A []) : ∀ x, x ∈ hits t P' → x ∈ hits t P ∧ x + 1 < t.length := by
  intro x hx
  obtain ⟨h1, h2⟩ := (mem_at h').1 hx
  obtain ⟨h3, h4⟩ := dot_two hA h2
  exact ⟨(mem_at h).2 ⟨h1, h3⟩, h4⟩
theorem dot_one {P' : Pat} {A : Lang} {c : UInt8} (h' : ∀ u, acc P' u = true ↔ (u ≠ [] ∧ Dot A u)) (hA : ¬ A []) : hits [c] P' = [] := by
  cases e : hits [c] P' with
  | nil => rfl
  | cons p l =>
    have : p ∈ hits [c] P' := by rw [e]; exact List.mem_cons_self
    have := (dot_two hA ((mem_at h').1 this).2).2
    simp at this
end Q

set_option maxRecDepth 100000 in
set_option maxHeartbeats 1600000 in
theorem then_any (w : World) (bd bx rate : Nat) (t pat a : ByteArray) (P : Q.Pat) (hD : Dsk w bd bx rate t pat true) (hI : IdxOf w bx rate t.data.toList a) (hp : pat.size ≤ maxLen) (hP : Q.parse (L pat) = .ok P) :
    Calls Try.prog 13 #[.pointer (some ⟨bd, 0, none⟩)] w fun e w' => e = .returned (.bool true) ∧ Below w.heap.size w w' := by
  obtain ⟨d, m, hd1, hd2, hd3⟩ := pat_den hP
  have HP := hid hP
  have HPA : Hid (∀ u, Q.acc P u = true ↔ (u ≠ [] ∧ d.lang u)) := hd3
  have hts : t.size ≤ 200 := by rw [← size_len]; exact hI.len
  have HSZ : Hid (t.data.toList.length = t.size) := size_len t
  have hps : pat.size ≤ 40 := by rw [← L_len]; exact hd2
  obtain ⟨q, hq⟩ : ∃ q : ByteArray, q = ⟨#[40]⟩ ++ pat ++ ⟨#[41, 46]⟩ := ⟨_, rfl⟩
  have hqs : q.size ≤ maxLen := by rw [hq, ByteArray.size_append, ByteArray.size_append]; show 1 + pat.size + 2 ≤ maxLen; unfold maxLen; omega
  have hF : Fits q (Q.Dot d.lang) := fits_of (s := 40 :: (L pat ++ [41, 46])) (by rw [hq, L_app, L_app]; rfl) (Q.br_dot hd1)
  have HF := hid hF
  have HQ := hid hq
  clear hP hd1 hd2 hd3 hF hq
  have d0 := hD.c0; have d3 := hD.c3
  have hbd := Blk.lt hD
  have hIw : IdxOf w.drew bx rate t.data.toList a := ⟨hI.idx, hI.ah, hI.len, hI.r1, hI.r2⟩
  go_enter Try.func13, Try.ntmps13
  go_wp2_with fail
  go_region_held (fun w' => w'.cell? ⟨bd, 0, none⟩ = some (.pointer (some ⟨bx, 0, none⟩)) ∧ w'.cell? ⟨bd, 3, none⟩ = some (.string pat))
    (first | (exact ⟨(hB2.cell hbd).trans d0, (hB2.cell hbd).trans d3⟩) | go_keep)
    ((go_at_call 22; refine (find_ok hIw pat hp P HP.out).mono ?_; rintro e w2 ⟨gl, rfl, hgl, hS2, hB2⟩))
  rename_i hHeld; clear hHeld
  have hD2 : Dsk w2 bd bx rate t pat true := Blk.below (Blk.drew hD) hB2 hbd
  have hX2 := hIw.below hB2 hI.lt
  have hBB2 : Below w.heap.size w w2 := (Below.refl _ w).drew.trans hB2
  have hX2d : IdxOf w2.drew bx rate t.data.toList a := ⟨hX2.idx, hX2.ah, hX2.len, hX2.r1, hX2.r2⟩
  clear hD hI d0 d3 hB2 hbd hIw hgl
  have d0 := hD2.c0; have d3 := hD2.c3
  have hbd := Blk.lt hD2
  go_wp2_with fail
  go_region_held (fun w' => w'.cell? ⟨bd, 0, none⟩ = some (.pointer (some ⟨bx, 0, none⟩)) ∧ w'.cell? ⟨bd, 3, none⟩ = some (.string pat))
    (first | (exact ⟨(hB3.cell hbd).trans d0, (hB3.cell hbd).trans d3⟩) | go_keep)
    ((go_at_call 22; rw [← HQ.out]; refine (find_of hX2d q hqs _ HF.out).mono ?_; rintro e w3 ⟨v3, E3, rfl, HR3, hB3⟩))
  rename_i hHeld; clear hHeld
  have hD3 : Dsk w3 bd bx rate t pat true := Blk.below (Blk.drew hD2) hB3 hbd
  have hBB3 : Below w.heap.size w w3 := hBB2.drew.trans (hB3.mono hBB2.size)
  have hS3 := SlI.below (w := w2.drew) hS2 hB3 (Nat.le_refl _)
  clear hD2 hX2 hX2d hB3 hBB2 d0 d3 hbd hS2 HF
  rcases HR3.out with ⟨rfl, P', g3, hP', hA', rfl, hT3⟩ | ⟨hE | hE, rfl⟩
  · have HA' := hid hA'
    have HP' := hid hP'
    have HT3 := hid hT3
    have HS3 := hid hS3
    clear HR3 hA' hP' hT3 hS3
    have HZ : Hid (∀ w', Calls Try.prog 20 #[.string ⟨#[122]⟩, .int .i64 1] w' fun e w'' => ∃ b a, e = .returned (.tuple #[.pointer (some ⟨b, 0, none⟩), .int .i64 0]) ∧ w'.heap.size ≤ b ∧ IdxOf w'' b 1 [122] a ∧ Below w'.heap.size w' w'') := fun w' => build_of ⟨#[122]⟩ 1 w' (by decide) (by decide) (by decide)
    have hl1 : (Q.hits t.data.toList P').length ≤ 1000 := Q.hits_len _ _ (by rw [HSZ.out]; exact hts)
    have hl2 : (Q.hits t.data.toList P).length ≤ 1000 := Q.hits_len _ _ (by rw [HSZ.out]; exact hts)
    have d1 := hD3.c1; have d3 := hD3.c3
    have hbd := Blk.lt hD3
    go_wp2_with fail
    refine (HZ.out _).mono ?_
    rintro e w4 ⟨by_, ay, rfl, hby, hY4, hB4⟩
    have d1 := (hB4.cell hbd).trans d1; have d3 := (hB4.cell hbd).trans d3
    have hbd4 := Nat.lt_of_lt_of_le hbd hB4.size
    have HY4 := hid hY4
    clear hY4 HZ
    go_wp2_with fail
    rw [← HQ.out]
    refine (find_ok HY4.out q hqs P' HP'.out).mono ?_
    rintro e w5 ⟨gz, rfl, _, _, hB5⟩
    have d1 := (hB5.cell hbd4).trans d1
    have hBB5 : Below w.heap.size w w5 := (hBB3.trans (hB4.mono hBB3.size)).trans (hB5.mono (Nat.le_trans hBB3.size hB4.size))
    have HS5 : Hid _ := hid ((HS3.out.below hB4 (Nat.le_refl _)).below hB5 (Nat.le_refl _))
    have HT5 : Hid _ := hid ((HT3.out.below hB4 (Nat.le_refl _)).below hB5 (Nat.le_refl _))
    have hfz := hD3.frozen 1
    clear HS3 HT3 hB4 hB5 hbd hbd4 HY4 hBB3 hby
    by_cases hA : d.lang []
    · have h1 : (Q.hits [122] P').length = 1 := Q.dot_all HA'.out hA
      have h2 : (Q.hits t.data.toList P').length = t.size := by rw [Q.dot_all HA'.out hA, HSZ.out]
      rw [h1]
      rw [h2]
      clear HA' HPA HP HP' HS5 HT5 hl1 hl2 h1 h2
      go_wp2
      go_ret
      exact ⟨rfl, hBB5⟩
    · have h1 : (Q.hits [122] P').length = 0 := by rw [Q.dot_one HA'.out hA]; rfl
      have HIN : Hid (∀ x, x ∈ Q.hits t.data.toList P' → x ∈ Q.hits t.data.toList P ∧ x + 1 < t.data.toList.length) := Q.dot_in HPA.out HA'.out hA
      have HW : Hid (∀ k, Calls Try.prog 25 #[.slice (some ⟨g3, 0, none⟩) (Q.hits t.data.toList P').length (Q.hits t.data.toList P').length, .slice (some ⟨gl, 0, none⟩) (Q.hits t.data.toList P).length (Q.hits t.data.toList P).length] (w5.drewN k) fun e w' => e = .returned (.bool true) ∧ Below w5.heap.size (w5.drewN k) w') := fun k => (within_yes (w5.drewN k) g3 gl _ _ HT5.out HS5.out hl1 hl2 (Q.hits_rise _ _) (Q.hits_rise _ _) (fun x hx => (HIN.out x hx).1) (hits_small (by rw [HSZ.out]; exact hts)) (hits_small (by rw [HSZ.out]; exact hts)))
      have HLT : Hid (∀ i, i < (Q.hits t.data.toList P').length → (Q.hits t.data.toList P').getD i 0 + 1 < t.size ∧ w5.cell? ⟨g3, i, none⟩ = some (.int .i64 (((Q.hits t.data.toList P').getD i 0 : Nat) : Int))) := fun i hi => ⟨by
        have := (HIN.out _ (Q.hits_at hi)).2
        rw [HSZ.out] at this
        exact this, (sli_cells HT5.out i hi).2⟩
      rw [h1]
      clear HA' HPA HP HP' HS5 HT5 HIN h1 HQ
      generalize Q.hits t.data.toList P' = H' at *
      generalize Q.hits t.data.toList P = H at *
      rcases Nat.eq_zero_or_pos H'.length with h0 | h0
      · have HW0 : Hid (∀ k, Calls Try.prog 25 #[.slice (some ⟨g3, 0, none⟩) 0 0, .slice (some ⟨gl, 0, none⟩) H.length H.length] (w5.drewN k) fun e w' => e = .returned (.bool true) ∧ Below w5.heap.size (w5.drewN k) w') := by
          have h := HW.out
          rw [h0] at h
          exact h
        rw [h0]
        clear HW HLT
        go_wp2_with fail
        go_quiet (fail)
        go_wp2_with fail
        refine (HW0.out _).mono ?_
        rintro e w6 ⟨rfl, hB6⟩
        go_wp2
        go_ret
        exact ⟨rfl, (below_drewN hBB5 _).trans (hB6.mono hBB5.size)⟩
      · obtain ⟨n, hn⟩ : ∃ n, H'.length = n + 1 := ⟨H'.length - 1, by omega⟩
        obtain ⟨hx, hc⟩ := HLT.out n (by omega)
        have q0 : ((H'.length : Int) == 0) = false := beq_eq_false_iff_ne.2 (by omega)
        have q0' : decide ((H'.length : Int) = 0) = false := decide_eq_false (by omega)
        have ee : ((H'.length : Int) - 1) = (n : Int) := by omega
        have n0 : (0 : Int) ≤ (n : Int) := by omega
        have n1 : (n : Int) < (H'.length : Int) := by omega
        have q1 : decide (((H'.getD n 0 : Nat) : Int) < (t.size : Int) - 1) = true := decide_eq_true (by omega)
        have hts1 : 1 ≤ t.size := by omega
        clear hn HLT hx
        generalize ((H'.getD n 0 : Nat) : Int) = x at *
        go_wp2_with fail
        go_quiet (fail)
        go_wp2_with fail
        refine (HW.out _).mono ?_
        rintro e w6 ⟨rfl, hB6⟩
        go_wp2
        go_ret
        exact ⟨rfl, (below_drewN hBB5 _).trans (hB6.mono hBB5.size)⟩
  · subst hE
    go_wp2
    go_ret
    exact ⟨rfl, hBB3⟩
  · subst hE
    go_wp2
    go_ret
    exact ⟨rfl, hBB3⟩

set_option maxRecDepth 100000 in
set_option maxHeartbeats 400000 in
theorem walk_Then (a0 : ByteArray) (a1 : Int) (a2 : ByteArray) (a3 : ByteArray) (a4 : Int) (a5 : Int) (w0 : a0.size ≤ maxLen) (w1 : (Lit.int .i64 a1).wf = true) (w2 : a2.size ≤ maxLen) (w3 : a3.size ≤ maxLen) (_ : (Lit.int .i64 a4).wf = true) (_ : (Lit.int .i64 a5).wf = true) (w : World) :
    Calls Try.prog 5 #[.string a0, .int .i64 a1, .string a2, .string a3, .int .i64 a4, .int .i64 a5] w fun e w' => e = .returned (.bool true) ∧ Below w.heap.size w w' := by
  obtain ⟨b1, b2⟩ := wf_bounds w1
  go_enter Try.func5, Try.ntmps5
  go_wp2_with fail
  refine (laid_p a0 a2 a1 _ w0 w2 b1 b2).mono ?_
  rintro e w' ⟨bd, bx, r, t', pat', a, hv, rfl, _, hD, hI, g1, g2, hB, _, HV⟩
  have d4 := hD.c4
  cases hv with
  | false =>
    go_wp2
    go_ret
    exact ⟨rfl, hB⟩
  | true =>
    obtain ⟨hpe, P, hP⟩ := HV.out rfl
    subst hpe
    clear HV
    go_wp2_with fail
    refine (then_any _ bd bx r t' pat' a P hD hI w2 hP).mono ?_
    rintro e w5 ⟨rfl, hB2⟩
    go_wp2
    go_ret
    exact ⟨rfl, hB.trans (hB2.mono hB.size)⟩
end Go.Proofs.Ytjmkkkfloalliab

