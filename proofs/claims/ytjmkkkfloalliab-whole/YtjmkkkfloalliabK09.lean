import Derived.Test.YtjmkkkfloalliabK06
namespace Go.Proofs.Ytjmkkkfloalliab.Q
set_option linter.unusedVariables false

def quo : List UInt8 → List UInt8
  | [] => []
  | c :: s => 92 :: c :: quo s
theorem quo_len : ∀ s, (quo s).length = 2 * s.length
  | [] => rfl
  | c :: s => by simp only [quo, List.length_cons, quo_len s]; omega
theorem quo_app : ∀ s t, quo (s ++ t) = quo s ++ quo t
  | [], t => rfl
  | c :: s, t => by simp only [List.cons_append, quo, quo_app s t]
def dOne (c : UInt8) : Den := dByte (ins0.set c.toNat true)
def catAll (d : Den) : List UInt8 → Den
  | [] => d
  | c :: s => catAll (dCat d (dOne c)) s
theorem one_lang (c : UInt8) (u : List UInt8) : (dOne c).lang u ↔ u = [c] := by
  have key : ∀ x : UInt8, (ins0.set c.toNat true).getD x.toNat false = true ↔ x = c := by
    intro x
    have hc := c.toNat_lt
    have hx := x.toNat_lt
    rw [List.getD_eq_getElem?_getD, List.getElem?_set]
    by_cases e : c.toNat = x.toNat
    · rw [if_pos e, if_pos (by rw [ins0_len]; omega)]
      exact ⟨fun _ => (UInt8.toNat_inj.1 e).symm, fun _ => rfl⟩
    · rw [if_neg e]
      unfold ins0
      rw [List.getElem?_replicate, if_pos hx]
      constructor
      · intro h; cases h
      · intro h; exact absurd (by rw [h]) e
  constructor
  · rintro ⟨x, rfl, h⟩
    rw [(key x).1 h]
  · rintro rfl
    exact ⟨c, rfl, (key c).2 rfl⟩
theorem all_lang : ∀ (s : List UInt8) (d : Den) (u : List UInt8), (catAll d s).lang u ↔ ∃ x, u = x ++ s ∧ d.lang x
  | [], d, u => by simp [catAll]
  | c :: s, d, u => by
    unfold catAll
    rw [all_lang s]
    constructor
    · rintro ⟨x, rfl, y, z, rfl, h1, h2⟩
      rw [one_lang] at h2
      subst h2
      exact ⟨y, by simp, h1⟩
    · rintro ⟨x, rfl, h⟩
      exact ⟨x ++ [c], by simp, x, [c], rfl, h, (one_lang c _).2 rfl⟩
theorem cat_places (a b : Den) : (dCat a b).places ≤ a.places + b.places := cutP_le _ _
theorem byte_places (l : List Bool) : (dByte l).places ≤ 1 := cutP_le _ _
theorem all_places : ∀ (s : List UInt8) (d : Den), (catAll d s).places ≤ d.places + s.length
  | [], d => Nat.le_refl _
  | c :: s, d => by
    have h1 := all_places s (dCat d (dOne c))
    have h2 := cat_places d (dOne c)
    have h3 : (dOne c).places ≤ 1 := byte_places _
    simp only [catAll, List.length_cons]
    omega
theorem term_esc (g : Nat) (c : UInt8) (r : List UInt8) : dgo (g + 1) .term (92 :: c :: r) = some (dOne c, r, false, 0) := by
  have h : dany (c :: r) = some (c.toNat, r) := by
    unfold dany
    rw [if_neg (by simp only [dnext]; omega)]
    rfl
  have h2 : dleaf (92 :: c :: r) = some (ins0.set c.toNat true, false, r) := by
    unfold dleaf
    have e : dnext (92 :: c :: r) = 92 := rfl
    rw [e, if_neg (by decide), if_neg (by decide), if_neg (by decide), if_pos rfl, show (92 :: c :: r).tail = c :: r from rfl, h]
  have e : dnext (92 :: c :: r) = 92 := rfl
  unfold dgo
  rw [e, if_neg (by decide), h2]
  rfl
theorem seqL_quo : ∀ (s : List UInt8) (g : Nat) (d0 : Den) (rest : List UInt8) (d : Den) (r : List UInt8) (m : Nat), isRep (dnext rest) = false → dgo (g + 3) (.seqL (catAll d0 s)) rest = some (d, r, false, m) → dgo (g + 3 + s.length) (.seqL d0) (quo s ++ rest) = some (d, r, false, m)
  | [], g, d0, rest, d, r, m, _, h => h
  | c :: s, g, d0, rest, d, r, m, hr, h => by
    have h1 := seqL_quo s g (dCat d0 (dOne c)) rest d r m hr h
    have h2 := term_esc (g + s.length + 1) c (quo s ++ rest)
    have h3 : isRep (dnext (quo s ++ rest)) = false := by
      cases s with
      | nil => exact hr
      | cons a s => rfl
    have h4 := rep_plain h2 h3
    have h5 := seqL_step (g := g + s.length + 1 + 2) (d0 := d0) (r := 92 :: c :: (quo s ++ rest)) (by rfl) h4 (by rw [show g + s.length + 1 + 2 = g + 3 + s.length by omega]; exact h1)
    rw [show g + 3 + (c :: s).length = g + s.length + 1 + 2 + 1 by simp; omega]
    show dgo _ _ (92 :: c :: (quo s ++ rest)) = _
    simpa using h5
/-- the text itself -/
theorem quo_parse (s : List UInt8) (hs : s.length ≤ 20) : ∃ P, parse (quo s) = .ok P ∧ ∀ u, acc P u = true ↔ (u ≠ [] ∧ u = s) := by
  have h1 := seqL_quo s 0 dEps [] _ _ _ (by rfl) (seqL_end (g := 2) (d := catAll dEps s) (r := []) (by rfl))
  rw [List.append_nil, show 0 + 3 + s.length = s.length + 2 + 1 by omega] at h1
  have h2 := top_seq h1
  have h3 := all_places s dEps
  have h4 : dEps.places = 0 := rfl
  obtain ⟨P, e1, e2⟩ := parse_small (dgo_more h2 (show s.length + 2 + 3 ≤ 8 * (quo s).length + 6 by rw [quo_len]; omega)) (by rw [quo_len]; omega) (by omega) (by omega)
  refine ⟨P, e1, fun u => ?_⟩
  rw [e2 u, all_lang]
  refine and_congr_right fun _ => ?_
  constructor
  · rintro ⟨x, e, hx⟩
    have hx2 : x = [] := hx
    subst hx2
    exact e
  · intro e
    exact ⟨[], e, rfl⟩
/-- the text itself, between two bytes and any two bytes -/
theorem whole_parse (s : List UInt8) (hs : s.length ≤ 15) : ∃ P, parse (46 :: 98 :: (quo s ++ [99, 46])) = .ok P ∧ ∀ u, acc P u = true ↔ (u ≠ [] ∧ ∃ x y, u = x :: 98 :: (s ++ [99, y])) := by
  have q1 : dgo 6 (.seqL (catAll (dCat (dCat dEps (dByte (turn ins0))) (dOne 98)) s)) [99, 46] = some (dCat (dCat (catAll (dCat (dCat dEps (dByte (turn ins0))) (dOne 98)) s) (dOne 99)) (dByte (turn ins0)), [], false, 0) := rfl
  have h1 := seqL_quo s 3 (dCat (dCat dEps (dByte (turn ins0))) (dOne 98)) [99, 46] _ _ _ (by rfl) q1
  have t1 : dgo (s.length + 4 + 1) .term (98 :: (quo s ++ [99, 46])) = some (dOne 98, quo s ++ [99, 46], false, 0) := rfl
  have n1 : isRep (dnext (quo s ++ [99, 46])) = false := by
    cases s with
    | nil => rfl
    | cons a s => rfl
  have t2 := rep_plain t1 n1
  have t3 := seqL_step (g := s.length + 4 + 2) (d0 := dCat dEps (dByte (turn ins0))) (r := 98 :: (quo s ++ [99, 46])) (by rfl) t2 (by rw [show s.length + 4 + 2 = 3 + 3 + s.length by omega]; exact h1)
  have u1 : dgo (s.length + 5 + 1) .term (46 :: 98 :: (quo s ++ [99, 46])) = some (dByte (turn ins0), 98 :: (quo s ++ [99, 46]), false, 0) := rfl
  have u2 := rep_plain u1 (by rfl)
  have u3 := seqL_step (g := s.length + 5 + 2) (d0 := dEps) (r := 46 :: 98 :: (quo s ++ [99, 46])) (by rfl) u2 t3
  have h2 := top_seq u3
  have p1 := all_places s (dCat (dCat dEps (dByte (turn ins0))) (dOne 98))
  have p2 := cat_places (dCat dEps (dByte (turn ins0))) (dOne 98)
  have p3 := cat_places dEps (dByte (turn ins0))
  have p4 := byte_places (turn ins0)
  have p5 : (dOne 98).places ≤ 1 := byte_places _
  have p6 : (dOne 99).places ≤ 1 := byte_places _
  have p7 := cat_places (catAll (dCat (dCat dEps (dByte (turn ins0))) (dOne 98)) s) (dOne 99)
  have p8 := cat_places (dCat (catAll (dCat (dCat dEps (dByte (turn ins0))) (dOne 98)) s) (dOne 99)) (dByte (turn ins0))
  have p9 : dEps.places = 0 := rfl
  have hl : (46 :: 98 :: (quo s ++ [99, 46])).length = 2 * s.length + 4 := by simp [quo_len]
  obtain ⟨P, e1, e2⟩ := parse_small (dgo_more h2 (show s.length + 5 + 2 + 3 ≤ 8 * (46 :: 98 :: (quo s ++ [99, 46])).length + 6 by rw [hl]; omega)) (by rw [hl]; omega) (by omega) (by omega)
  refine ⟨P, e1, fun u => ?_⟩
  rw [e2 u]
  refine and_congr_right fun _ => ?_
  constructor
  · rintro ⟨v, z, rfl, ⟨v2, z2, rfl, h3, h4⟩, ⟨y, rfl, _⟩⟩
    rw [one_lang] at h4
    subst h4
    obtain ⟨x, rfl, x2, z3, rfl, ⟨x3, z4, rfl, h5, ⟨c, rfl, _⟩⟩, h6⟩ := (all_lang s _ _).1 h3
    rw [one_lang] at h6
    subst h6
    have h7 : x3 = [] := h5
    subst h7
    exact ⟨c, y, by simp⟩
  · rintro ⟨x, y, rfl⟩
    refine ⟨x :: 98 :: (s ++ [99]), [y], by simp, ⟨x :: 98 :: s, [99], by simp, ?_, (one_lang 99 _).2 rfl⟩, ⟨y, rfl, any_lang y⟩⟩
    exact (all_lang s _ _).2 ⟨[x, 98], by simp, [x], [98], rfl, ⟨[], [x], rfl, rfl, ⟨x, rfl, any_lang x⟩⟩, (one_lang 98 _).2 rfl⟩
end Go.Proofs.Ytjmkkkfloalliab.Q

namespace Go.Proofs.Ytjmkkkfloalliab
set_option linter.unusedVariables false
open Go.RowKit

set_option maxRecDepth 100000 in
set_option maxHeartbeats 1600000 in
theorem quoted_any (s : ByteArray) (w : World) (hs : s.size ≤ 100) :
    Calls Try.prog 26 #[.string s] w fun e w' => ∃ p : ByteArray, e = .returned (.string p) ∧ Hid (L p = Q.quo (L s)) ∧ p.size ≤ 200 ∧ Below w.heap.size w w' := by
  have HLS : Hid ((L s).length = s.size) := L_len s
  go_enter Try.func26, Try.ntmps26
  go_wp2_with fail
  go_loopw [3, 4] (fun v i wr => ∃ (k : Nat) (o : ByteArray), k ≤ s.size ∧ i = .int .i64 k ∧ v = .string o ∧ Hid (L o = Q.quo ((L s).take k)) ∧ o.size ≤ 2 * k ∧ wr = w) (fun _ i _ => s.size - (intOf i).toNat)
  case atStart => exact ⟨0, ⟨#[]⟩, by omega, rfl, rfl, rfl, by decide, rfl⟩
  case round =>
    obtain ⟨k, o, hk, rfl, rfl, HO, ho, rfl⟩ := hrel
    rcases Nat.lt_or_ge k s.size with hlt | hge
    · have k0 : (0 : Int) ≤ (k : Int) := by omega
      have k1 : (k : Int) < (s.size : Int) := by omega
      obtain ⟨tq, HTQ, hzq, hsl⟩ : ∃ tq : ByteArray, Hid (L tq = [(L s).getD k 0]) ∧ tq.size = 1 ∧ ∀ W, Sem.run Try.prog (Instr.slice 9 (.string s) (some (.int .i64 (k : Int))) (some (.int .i64 ((k : Int) + 1))) none) W = .ok (.string tq) W := by
        refine ⟨s.extract k (k + 1), ?_, ?_, ?_⟩
        · show (s.extract k (k + 1)).data.toList = [s.data.toList.getD k 0]
          have hl : k < s.data.toList.length := by have := HLS.out; unfold L at this; rw [this]; exact hlt
          rw [Lib.extract_data, show k + 1 - k = 1 from by omega, List.drop_eq_getElem_cons hl, List.take_succ_cons, List.take_zero, List.getD_eq_getElem?_getD, List.getElem?_eq_getElem hl]
          rfl
        · rw [ByteArray.size_extract]; omega
        · intro W
          have := run_slice_string (P := Try.prog) W 9 s .i64 .i64 (k : Int) ((k : Int) + 1) Try.underlying9 (by omega) (by omega) (by omega)
          rw [show ((k : Int) + 1).toNat = k + 1 from by omega, Int.toNat_natCast] at this
          exact this
      have HO2 : Hid (L (o ++ ⟨#[92]⟩ ++ tq) = Q.quo ((L s).take (k + 1))) := by
        show _ = _
        have hl : k < (L s).length := by rw [HLS.out]; exact hlt
        rw [L_app, L_app, HO.out, HTQ.out, List.take_succ_eq_append_getElem hl, Q.quo_app, List.append_assoc, List.getD_eq_getElem?_getD, List.getElem?_eq_getElem hl]
        rfl
      have hz2 : (o ++ ⟨#[92]⟩ ++ tq).size ≤ 2 * (k + 1) := by
        rw [ByteArray.size_append, ByteArray.size_append, hzq]
        show o.size + 1 + 1 ≤ _
        omega
      clear HO HTQ
      go_wp2
      go_roundw
      case rel => exact ⟨k + 1, _, by omega, by go_num, rfl, HO2, hz2, trivial⟩
      case measure => simp [intOf]; omega
    · obtain rfl : k = s.size := by omega
      have HO2 : Hid (L o = Q.quo (L s)) := by
        show _ = _
        rw [HO.out, List.take_of_length_le (by rw [HLS.out]; exact Nat.le_refl _)]
      go_wp2
      go_ret
      exact ⟨o, rfl, HO2, by omega, Below.refl _ _⟩
end Go.Proofs.Ytjmkkkfloalliab

namespace Go.Proofs.Ytjmkkkfloalliab
set_option linter.unusedVariables false
open Go.RowKit

theorem Q.whole_hits (s : List UInt8) {P : Q.Pat} (h : ∀ u, Q.acc P u = true ↔ (u ≠ [] ∧ ∃ x y, u = x :: 98 :: (s ++ [99, y]))) : Q.hits (97 :: 98 :: (s ++ [99, 100])) P = [0] := by
  refine Q.rise_ext (Q.hits_rise _ P) (by simp) fun p => ?_
  rw [Q.mem_at (A := fun u => ∃ x y, u = x :: 98 :: (s ++ [99, y])) h, List.mem_singleton]
  constructor
  · rintro ⟨_, u, h1, _, x, y, rfl⟩
    obtain ⟨z, e⟩ := (M.pre_iff _ _).1 h1
    have := congrArg List.length e
    simp at this
    omega
  · rintro rfl
    exact ⟨Nat.zero_le _, 97 :: 98 :: (s ++ [99, 100]), (M.pre_iff _ _).2 ⟨[], by simp⟩, by simp, 97, 100, rfl⟩

set_option maxRecDepth 100000 in
set_option maxHeartbeats 1600000 in
theorem whole_says (w : World) (bd bx rate : Nat) (s t pat : ByteArray) (hv : Bool) (hD : Dsk w bd bx rate t pat hv) (hr1 : 1 ≤ rate) (hr2 : rate ≤ 32) (hs : s.size ≤ maxLen) :
    Calls Try.prog 14 #[.pointer (some ⟨bd, 0, none⟩), .string s] w fun e w' => e = .returned (.bool true) ∧ Below w.heap.size w w' := by
  have d2 := hD.c2
  have hbd := Blk.lt hD
  go_enter Try.func14, Try.ntmps14
  go_wp2_with fail
  refine (clipped_any s 15 _ hs (by decide)).mono ?_
  rintro e w' ⟨r, rfl, hr, _, rfl⟩
  obtain ⟨t2, ht2⟩ : ∃ q : ByteArray, q = ⟨#[97, 98]⟩ ++ r ++ ⟨#[99, 100]⟩ := ⟨_, rfl⟩
  have hz2 : t2.size ≤ 200 := by rw [ht2, ByteArray.size_append, ByteArray.size_append]; show 2 + r.size + 2 ≤ 200; omega
  have HL2 : Hid (t2.data.toList = 97 :: 98 :: (L r ++ [99, 100])) := by
    show L t2 = _
    rw [ht2, L_app, L_app]; rfl
  have HT2 := hid ht2
  clear ht2
  go_wp2_with fail
  rw [← HT2.out]
  refine (build_of t2 rate _ hz2 hr1 hr2).mono ?_
  rintro e w2 ⟨by_, ay, rfl, _, hY2, hB2⟩
  have HY2 := hid hY2
  clear hY2
  go_wp2_with fail
  refine (quoted_any r _ (by omega)).mono ?_
  rintro e w3 ⟨p, rfl, HPL, hpz, hB3⟩
  obtain ⟨P, hP1, hP2⟩ := Q.whole_parse (L r) (by rw [L_len]; exact hr)
  obtain ⟨q, hq⟩ : ∃ q : ByteArray, q = ⟨#[46, 98]⟩ ++ p ++ ⟨#[99, 46]⟩ := ⟨_, rfl⟩
  have hqz : q.size ≤ maxLen := by rw [hq, ByteArray.size_append, ByteArray.size_append]; show 2 + p.size + 2 ≤ maxLen; unfold maxLen; omega
  have HPQ : Hid (Q.parse (L q) = .ok P) := by
    show _ = _
    rw [hq, L_app, L_app, HPL.out]
    exact hP1
  have HH : Hid (Q.hits t2.data.toList P = [0]) := by
    show _ = _
    rw [HL2.out]
    exact Q.whole_hits (L r) hP2
  have HQ := hid hq
  have HX3 := hid (HY2.out.below hB3 HY2.out.lt)
  clear hq hP1 hP2
  go_wp2_with fail
  rw [← HQ.out]
  refine (find_ok HX3.out q hqz P HPQ.out).mono ?_
  rintro e w4 ⟨gl, rfl, _, hS4, hB4⟩
  have hBB4 := (hB2.trans (hB3.mono hB2.size)).trans (hB4.mono (Nat.le_trans hB2.size hB3.size))
  rw [HH.out] at hS4 ⊢
  have hc := (sli_cells hS4 0 (by decide)).2
  have hc2 : w4.cell? ⟨gl, 0, none⟩ = some (.int .i64 0) := hc
  clear hS4 HX3 HPQ HH hc
  go_wp2
  go_ret
  exact ⟨rfl, hBB4⟩

set_option maxRecDepth 100000 in
set_option maxHeartbeats 400000 in
theorem walk_Whole (a0 : ByteArray) (a1 : Int) (a2 : ByteArray) (a3 : ByteArray) (a4 : Int) (a5 : Int) (w0 : a0.size ≤ maxLen) (w1 : (Lit.int .i64 a1).wf = true) (w2 : a2.size ≤ maxLen) (w3 : a3.size ≤ maxLen) (_ : (Lit.int .i64 a4).wf = true) (_ : (Lit.int .i64 a5).wf = true) (w : World) :
    Calls Try.prog 6 #[.string a0, .int .i64 a1, .string a2, .string a3, .int .i64 a4, .int .i64 a5] w fun e w' => e = .returned (.bool true) ∧ Below w.heap.size w w' := by
  obtain ⟨b1, b2⟩ := wf_bounds w1
  go_enter Try.func6, Try.ntmps6
  go_wp2_with fail
  refine (laid_p a0 a2 a1 _ w0 w2 b1 b2).mono ?_
  rintro e w' ⟨bd, bx, r, t', pat', a, hv, rfl, _, hD, hI, g1, g2, hB, _, HV⟩
  have hr1 := hI.r1
  have hr2 := hI.r2
  clear HV hI
  go_wp2_with fail
  refine (whole_says _ bd bx r a3 t' pat' hv hD hr1 hr2 w3).mono ?_
  rintro e w5 ⟨rfl, hB2⟩
  go_wp2
  go_ret
  exact ⟨rfl, hB.trans (hB2.mono hB.size)⟩
end Go.Proofs.Ytjmkkkfloalliab

