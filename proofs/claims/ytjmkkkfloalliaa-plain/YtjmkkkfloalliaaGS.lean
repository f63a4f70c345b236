import Derived.Test.YtjmkkkfloalliaaGQ
-- Plain
namespace Go.Proofs.Ytjmkkkfloalliaa
set_option linter.unusedVariables false
open Go.RowKit

/-- where s stands in t, of the first k places -/
def stands (t s : List UInt8) (k : Nat) : List Nat := (List.range k).filter fun p => decide ((t.drop p).take s.length = s)
theorem stands_step (t s : List UInt8) (k : Nat) : stands t s (k + 1) = stands t s k ++ if (t.drop k).take s.length = s then [k] else [] := by
  unfold stands
  rw [List.range_succ, List.filter_append]
  congr 1
  by_cases h : (t.drop k).take s.length = s
  · rw [if_pos h]; simp [h]
  · rw [if_neg h]; simp [h]
theorem stands_len (t s : List UInt8) (k : Nat) : (stands t s k).length ≤ k := by
  unfold stands
  refine Nat.le_trans (List.length_filter_le _ _) ?_
  simp
theorem Q.plain_hits (t s : List UInt8) {P : Q.Pat} (h : ∀ u, Q.acc P u = true ↔ (u ≠ [] ∧ u = s)) (hs : s ≠ []) (k : Nat) (hk : t.length < k + s.length) : stands t s k = Q.hits t P := by
  have hl : 0 < s.length := List.length_pos_iff.2 hs
  refine Q.rise_ext (List.Pairwise.filter _ List.pairwise_lt_range) (Q.hits_rise t P) fun p => ?_
  show p ∈ (List.range k).filter _ ↔ _
  rw [Q.mem_at (A := fun u => u = s) h, List.mem_filter, List.mem_range]
  constructor
  · rintro ⟨_, h2⟩
    have h2 := of_decide_eq_true h2
    have hp : p < t.length := by
      rcases Nat.lt_or_ge p t.length with g | g
      · exact g
      · rw [List.drop_of_length_le g] at h2
        simp at h2
        exact absurd h2 hs
    have h3 : t.drop p = s ++ (t.drop p).drop s.length := by
      have h4 := (List.take_append_drop s.length (t.drop p)).symm
      rw [h2] at h4
      exact h4
    exact ⟨by omega, s, (M.pre_iff _ _).2 ⟨_, h3⟩, hs, rfl⟩
  · rintro ⟨_, u, h1, _, rfl⟩
    obtain ⟨y, e⟩ := (M.pre_iff _ _).1 h1
    have h3 : (t.drop p).take u.length = u := by rw [e, List.take_left]
    refine ⟨?_, decide_eq_true h3⟩
    have := congrArg List.length h3
    simp at this
    omega
theorem Q.plain_none (t : List UInt8) {P : Q.Pat} (h : ∀ u, Q.acc P u = true ↔ (u ≠ [] ∧ u = [])) : Q.hits t P = [] :=
  Q.hits_nil (A := fun u => u = []) h fun u hu => hu

set_option maxRecDepth 100000 in
set_option maxHeartbeats 1600000 in
theorem plain_any (w : World) (bd bx rate : Nat) (s t pat a : ByteArray) (hv : Bool) (hD : Dsk w bd bx rate t pat hv) (hI : IdxOf w bx rate t.data.toList a) (hs : s.size ≤ maxLen) :
    Calls Try.prog 23 #[.pointer (some ⟨bd, 0, none⟩), .string s] w fun e w' => e = .returned (.bool true) ∧ Below w.heap.size w w' := by
  have hts : t.size ≤ 200 := by rw [← size_len]; exact hI.len
  have HSZ : Hid (t.data.toList.length = t.size) := size_len t
  have hbd := Blk.lt hD
  have HD := hid hD
  have HI := hid hI
  obtain ⟨i0, hi, hz0, hz1, hz2⟩ := info_int
  clear hD hI
  go_enter Try.func23, Try.ntmps23
  go_wp2_with fail
  refine (clipped_any s 20 _ hs (by decide)).mono ?_
  rintro e w' ⟨r, rfl, hr, _, hw'⟩
  obtain rfl : w = w' := hw'.symm
  go_wp2_with fail
  refine (quoted_any r _ (by omega)).mono ?_
  rintro e w3 ⟨p, rfl, HPL, hpz, hB3⟩
  obtain ⟨P, hP1, hP2⟩ := Q.quo_parse (L r) (by rw [L_len]; exact hr)
  have HP1 : Hid (Q.parse (L p) = .ok P) := by show _ = _; rw [HPL.out]; exact hP1
  have HP2 := hid hP2
  have HX3 := hid (HI.out.below hB3 HI.out.lt)
  have hD3 : Dsk w3 bd bx rate t pat hv := Blk.below HD.out hB3 hbd
  have d0 := hD3.c0
  have hpm : p.size ≤ maxLen := by unfold maxLen; omega
  clear hP1 hP2
  go_wp2_with fail
  refine (find_ok HX3.out p hpm P HP1.out).mono ?_
  rintro e w4 ⟨gl, rfl, _, hS4, hB4⟩
  have hD4 : Dsk w4 bd bx rate t pat hv := Blk.below hD3 hB4 (Blk.lt hD3)
  have HD1 := hid hD4.c1
  have hbd4 := Blk.lt hD4
  have hBB4 : Below w.heap.size w w4 := hB3.trans (hB4.mono hB3.size)
  have HBB4 := hid hBB4
  have HS4 := hid hS4
  have hl1 : (Q.hits t.data.toList P).length ≤ 1000 := Q.hits_len _ _ (by rw [HSZ.out]; exact hts)
  clear hD3 hD4 hB3 hB4 hS4 hBB4 HX3 d0 HP1 HI HD
  rcases Nat.eq_zero_or_pos r.size with h0 | h0
  · have hr0 : L r = [] := List.length_eq_zero_iff.1 (by rw [L_len]; exact h0)
    have hne : r.toList.isEmpty = true := by
      rw [Lib.toList_data]
      show (L r).isEmpty = true
      rw [hr0]; rfl
    have hh : Q.hits t.data.toList P = [] := Q.plain_none t.data.toList (fun u => by rw [HP2.out u, hr0])
    have HS5 : Hid (SlI w4 (.slice (some ⟨gl, 0, none⟩) 0 0) []) := by
      have h := HS4.out
      rw [hh] at h
      exact h
    rw [hh]
    clear HS4 hh hr0 HP2 hl1 h0
    go_wp2_with fail
    go_loopw [8, 9] (fun v i wr => v = .slice none 0 0 ∧ i = .int .i64 0 ∧ wr = w4) (fun _ _ _ => 0)
    case atStart => exact ⟨rfl, rfl, rfl⟩
    case round =>
      obtain ⟨rfl, rfl, hwr⟩ := hrel
      obtain rfl : w4 = wr := hwr.symm
      have d1 := HD1.out
      have HW := hid (same_yes _ _ [] w4 HS5.out (SlI.nil w4) (by simp))
      by_cases hc : r.size ≤ t.size
      · have q1 : decide ((r.size : Int) ≤ (t.size : Int)) = true := decide_eq_true (by omega)
        go_wp2_with fail
        refine HW.out.mono ?_
        rintro e w5 ⟨rfl, hB5⟩
        go_wp2
        go_ret
        exact ⟨rfl, HBB4.out.trans (hB5.mono HBB4.out.size)⟩
      · have q1 : decide ((r.size : Int) ≤ (t.size : Int)) = false := decide_eq_false (by omega)
        go_wp2_with fail
        refine HW.out.mono ?_
        rintro e w5 ⟨rfl, hB5⟩
        go_wp2
        go_ret
        exact ⟨rfl, HBB4.out.trans (hB5.mono HBB4.out.size)⟩
  · have hr0 : L r ≠ [] := by
      intro e
      have := L_len r
      rw [e] at this
      simp at this
      omega
    have hne : r.toList.isEmpty = false := by
      rw [Lib.toList_data]
      cases e : r.data.toList with
      | nil => exact absurd e hr0
      | cons a b => rfl
    have HPH : Hid (∀ k, t.size < k + r.size → stands (L t) (L r) k = Q.hits t.data.toList P) := fun k hk => Q.plain_hits (L t) (L r) HP2.out hr0 k (by rw [L_len, L_len]; exact hk)
    clear HP2 hr0
    go_wp2_with fail
    go_loopw [8, 9] (fun v i wr => ∃ k : Nat, k ≤ t.size + 1 ∧ i = .int .i64 k ∧ wr.ownsRow w4.heap.size 3 1 v (stands (L t) (L r) k).length (ints (natI (stands (L t) (L r) k))) ∧ Below w4.heap.size w4 wr) (fun _ i _ => t.size + 1 - (intOf i).toNat)
    case atStart => exact ⟨0, by omega, rfl, World.ownsRow_nil _ _ _ _, Below.refl _ _⟩
    case round =>
      obtain ⟨k, hk, rfl, hown, hB⟩ := hrel
      have d1 := (hB.cell hbd4).trans HD1.out
      rcases Nat.lt_or_ge t.size (k + r.size) with hge | hle
      · have q1 : decide ((k : Int) + (r.size : Int) ≤ (t.size : Int)) = false := decide_eq_false (by omega)
        have hS5 := sli_own hown
        rw [HPH.out k hge] at hS5
        have HW := hid (same_yes _ _ _ wr (HS4.out.below hB (Nat.le_refl _)) hS5 hl1)
        clear hS5 hown
        go_wp2_with fail
        refine HW.out.mono ?_
        rintro e w5 ⟨rfl, hB5⟩
        go_wp2
        go_ret
        exact ⟨rfl, (HBB4.out.trans (hB.mono HBB4.out.size)).trans (hB5.mono (Nat.le_trans HBB4.out.size hB.size))⟩
      · have q1 : decide ((k : Int) + (r.size : Int) ≤ (t.size : Int)) = true := decide_eq_true (by omega)
        have k0 : (0 : Int) ≤ (k : Int) := by omega
        have hsl0 := stands_len (L t) (L r) k
        have HST := hid (stands_step (L t) (L r) k)
        obtain ⟨tq, HTQ, hsl⟩ : ∃ tq : ByteArray, Hid (L tq = ((L t).drop k).take (L r).length) ∧ ∀ W, Sem.run Try.prog (Instr.slice 9 (.string t) (some (.int .i64 (k : Int))) (some (.int .i64 ((k : Int) + (r.size : Int)))) none) W = .ok (.string tq) W := by
          refine ⟨t.extract k (k + r.size), ?_, ?_⟩
          · show (t.extract k (k + r.size)).data.toList = (t.data.toList.drop k).take (L r).length
            rw [Lib.extract_data, L_len, show k + r.size - k = r.size from by omega]
          · intro W
            have := run_slice_string (P := Try.prog) W 9 t .i64 .i64 (k : Int) ((k : Int) + (r.size : Int)) Try.underlying9 (by omega) (by omega) (by omega)
            rw [show ((k : Int) + (r.size : Int)).toNat = k + r.size from by omega, Int.toNat_natCast] at this
            exact this
        rw [← HTQ.out] at HST
        clear HTQ
        by_cases he : L tq = L r
        · have HST2 : Hid (stands (L t) (L r) (k + 1) = stands (L t) (L r) k ++ [k]) := by show _ = _; rw [HST.out, if_pos he]
          have q2 : (tq.toList == r.toList) = true := by rw [Lib.toList_data, Lib.toList_data, beq_iff_eq]; exact he
          clear HST he
          go_wp2_with ((at_builtin; refine wpList_append_own _ rfl _ _ 57 rfl w4.heap.size 3 i0 (.int .i64 0) 1 8 Try.underlying57 hi hz0 hz1 hz2 rfl (by decide) _ _ _ rfl (hown.alloc _) ⟨wr.heap.size, 0, none⟩ 1 1 [.int .i64 (k : Int)] rfl rfl ?c1 ?c2 ?c3 ?c4 ?c5 ?_))
          case c1 =>
            intro j u hj
            match j, hj with
            | 0, hj => simp at hj; subst hj; simp [Addr.add]
          case c2 => intro u hu; simp at hu; subst hu; rfl
          case c3 => unfold maxLen; omega
          case c4 => omega
          case c5 => have := hB.size; simp; omega
          · intro v' w1 hown' hgrow hnil
            have hb1 : Below w4.heap.size w4 w1 := below_grown (hB.alloc hB.size _) hgrow (by have := hB.size; simp; omega) (hown.alloc _) (Nat.le_refl _)
            have hown2 : w1.ownsRow w4.heap.size 3 1 v' (stands (L t) (L r) (k + 1)).length (ints (natI (stands (L t) (L r) (k + 1)))) := by
              rw [HST2.out, List.length_append]
              have e2 : ints (natI (stands (L t) (L r) k ++ [k])) = ints (natI (stands (L t) (L r) k)) ++ [.int .i64 (k : Int)] := by simp [ints, natI]
              rw [e2]
              exact hown'
            clear hnil hown' hgrow hB hown
            go_wp2
            go_roundw
            case rel => exact ⟨k + 1, by omega, by go_num, hown2, hb1⟩
            case measure => simp [intOf]; omega
        · have HST2 : Hid (stands (L t) (L r) (k + 1) = stands (L t) (L r) k) := by show _ = _; rw [HST.out, if_neg he, List.append_nil]
          have q2 : (tq.toList == r.toList) = false := by rw [Lib.toList_data, Lib.toList_data, beq_eq_false_iff_ne]; exact he
          clear HST he
          go_wp2
          go_roundw
          case rel => exact ⟨k + 1, by omega, by go_num, by rw [HST2.out]; exact hown, hB⟩
          case measure => simp [intOf]; omega

set_option maxRecDepth 100000 in
set_option maxHeartbeats 400000 in
theorem walk_Plain (a0 : ByteArray) (a1 : Int) (a2 : ByteArray) (a3 : ByteArray) (a4 : Int) (a5 : Int) (w0 : a0.size ≤ maxLen) (w1 : (Lit.int .i64 a1).wf = true) (w2 : a2.size ≤ maxLen) (w3 : a3.size ≤ maxLen) (_ : (Lit.int .i64 a4).wf = true) (_ : (Lit.int .i64 a5).wf = true) (w : World) :
    Calls Try.prog 9 #[.string a0, .int .i64 a1, .string a2, .string a3, .int .i64 a4, .int .i64 a5] w fun e w' => e = .returned (.bool true) ∧ Below w.heap.size w w' := by
  obtain ⟨b1, b2⟩ := wf_bounds w1
  go_enter Try.func9, Try.ntmps9
  go_wp2_with fail
  refine (laid_p a0 a2 a1 _ w0 w2 b1 b2).mono ?_
  rintro e w' ⟨bd, bx, r, t', pat', a, hv, rfl, _, hD, hI, g1, g2, hB, _, HV⟩
  clear HV
  go_wp2_with fail
  refine (plain_any _ bd bx r a3 t' pat' a hv hD hI w3).mono ?_
  rintro e w5 ⟨rfl, hB2⟩
  go_wp2
  go_ret
  exact ⟨rfl, hB.trans (hB2.mono hB.size)⟩
end Go.Proofs.Ytjmkkkfloalliaa
