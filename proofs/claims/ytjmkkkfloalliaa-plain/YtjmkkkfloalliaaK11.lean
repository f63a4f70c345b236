import Derived.Test.YtjmkkkfloalliaaK06
namespace Go.Proofs.Ytjmkkkfloalliaa.Q
set_option linter.unusedVariables false

def quo : List UInt8 → List UInt8
  | [] => []
  | c :: s => 92 :: c :: quo s
theorem quo_len : ∀ s, (quo s).length = 2 * s.length
  | [] => rfl
  | c :: s => by simp only [quo, List.length_cons, quo_len s]; omega
theorem quo_app : ∀ s t, quo (s ++ t) = quo s ++ quo t
  | [], t => rfl
  | c :: s, t => by simp only [List.cons_append, quo, quo_app s t]
def dOne (c : UInt8) : Den := dByte (ins0.set c.toNat true)
def catAll (d : Den) : List UInt8 → Den
  | [] => d
  | c :: s => catAll (dCat d (dOne c)) s
theorem one_lang (c : UInt8) (u : List UInt8) : (dOne c).lang u ↔ u = [c] := by
  have key : ∀ x : UInt8, (ins0.set c.toNat true).getD x.toNat false = true ↔ x = c := by
    intro x
    have hc := c.toNat_lt
    have hx := x.toNat_lt
    rw [List.getD_eq_getElem?_getD, List.getElem?_set]
    by_cases e : c.toNat = x.toNat
    · rw [if_pos e, if_pos (by rw [ins0_len]; omega)]
      exact ⟨fun _ => (UInt8.toNat_inj.1 e).symm, fun _ => rfl⟩
    · rw [if_neg e]
      unfold ins0
      rw [List.getElem?_replicate, if_pos hx]
      constructor
      · intro h; cases h
      · intro h; exact absurd (by rw [h]) e
  constructor
  · rintro ⟨x, rfl, h⟩
    rw [(key x).1 h]
  · rintro rfl
    exact ⟨c, rfl, (key c).2 rfl⟩
theorem all_lang : ∀ (s : List UInt8) (d : Den) (u : List UInt8), (catAll d s).lang u ↔ ∃ x, u = x ++ s ∧ d.lang x
  | [], d, u => by simp [catAll]
  | c :: s, d, u => by
    unfold catAll
    rw [all_lang s]
    constructor
    · rintro ⟨x, rfl, y, z, rfl, h1, h2⟩
      rw [one_lang] at h2
      subst h2
      exact ⟨y, by simp, h1⟩
    · rintro ⟨x, rfl, h⟩
      exact ⟨x ++ [c], by simp, x, [c], rfl, h, (one_lang c _).2 rfl⟩
theorem cat_places (a b : Den) : (dCat a b).places ≤ a.places + b.places := cutP_le _ _
theorem byte_places (l : List Bool) : (dByte l).places ≤ 1 := cutP_le _ _
theorem all_places : ∀ (s : List UInt8) (d : Den), (catAll d s).places ≤ d.places + s.length
  | [], d => Nat.le_refl _
  | c :: s, d => by
    have h1 := all_places s (dCat d (dOne c))
    have h2 := cat_places d (dOne c)
    have h3 : (dOne c).places ≤ 1 := byte_places _
    simp only [catAll, List.length_cons]
    omega
theorem term_esc (g : Nat) (c : UInt8) (r : List UInt8) : dgo (g + 1) .term (92 :: c :: r) = some (dOne c, r, false, 0) := by
  have h : dany (c :: r) = some (c.toNat, r) := by
    unfold dany
    rw [if_neg (by simp only [dnext]; omega)]
    rfl
  have h2 : dleaf (92 :: c :: r) = some (ins0.set c.toNat true, false, r) := by
    unfold dleaf
    have e : dnext (92 :: c :: r) = 92 := rfl
    rw [e, if_neg (by decide), if_neg (by decide), if_neg (by decide), if_pos rfl, show (92 :: c :: r).tail = c :: r from rfl, h]
  have e : dnext (92 :: c :: r) = 92 := rfl
  unfold dgo
  rw [e, if_neg (by decide), h2]
  rfl
theorem seqL_quo : ∀ (s : List UInt8) (g : Nat) (d0 : Den) (rest : List UInt8) (d : Den) (r : List UInt8) (m : Nat), isRep (dnext rest) = false → dgo (g + 3) (.seqL (catAll d0 s)) rest = some (d, r, false, m) → dgo (g + 3 + s.length) (.seqL d0) (quo s ++ rest) = some (d, r, false, m)
  | [], g, d0, rest, d, r, m, _, h => h
  | c :: s, g, d0, rest, d, r, m, hr, h => by
    have h1 := seqL_quo s g (dCat d0 (dOne c)) rest d r m hr h
    have h2 := term_esc (g + s.length + 1) c (quo s ++ rest)
    have h3 : isRep (dnext (quo s ++ rest)) = false := by
      cases s with
      | nil => exact hr
      | cons a s => rfl
    have h4 := rep_plain h2 h3
    have h5 := seqL_step (g := g + s.length + 1 + 2) (d0 := d0) (r := 92 :: c :: (quo s ++ rest)) (by rfl) h4 (by rw [show g + s.length + 1 + 2 = g + 3 + s.length by omega]; exact h1)
    rw [show g + 3 + (c :: s).length = g + s.length + 1 + 2 + 1 by simp; omega]
    show dgo _ _ (92 :: c :: (quo s ++ rest)) = _
    simpa using h5
/-- the text itself -/
theorem quo_parse (s : List UInt8) (hs : s.length ≤ 20) : ∃ P, parse (quo s) = .ok P ∧ ∀ u, acc P u = true ↔ (u ≠ [] ∧ u = s) := by
  have h1 := seqL_quo s 0 dEps [] _ _ _ (by rfl) (seqL_end (g := 2) (d := catAll dEps s) (r := []) (by rfl))
  rw [List.append_nil, show 0 + 3 + s.length = s.length + 2 + 1 by omega] at h1
  have h2 := top_seq h1
  have h3 := all_places s dEps
  have h4 : dEps.places = 0 := rfl
  obtain ⟨P, e1, e2⟩ := parse_small (dgo_more h2 (show s.length + 2 + 3 ≤ 8 * (quo s).length + 6 by rw [quo_len]; omega)) (by rw [quo_len]; omega) (by omega) (by omega)
  refine ⟨P, e1, fun u => ?_⟩
  rw [e2 u, all_lang]
  refine and_congr_right fun _ => ?_
  constructor
  · rintro ⟨x, e, hx⟩
    have hx2 : x = [] := hx
    subst hx2
    exact e
  · intro e
    exact ⟨[], e, rfl⟩
/-- the text itself, between two bytes and any two bytes -/
theorem whole_parse (s : List UInt8) (hs : s.length ≤ 15) : ∃ P, parse (46 :: 98 :: (quo s ++ [99, 46])) = .ok P ∧ ∀ u, acc P u = true ↔ (u ≠ [] ∧ ∃ x y, u = x :: 98 :: (s ++ [99, y])) := by
  have q1 : dgo 6 (.seqL (catAll (dCat (dCat dEps (dByte (turn ins0))) (dOne 98)) s)) [99, 46] = some (dCat (dCat (catAll (dCat (dCat dEps (dByte (turn ins0))) (dOne 98)) s) (dOne 99)) (dByte (turn ins0)), [], false, 0) := rfl
  have h1 := seqL_quo s 3 (dCat (dCat dEps (dByte (turn ins0))) (dOne 98)) [99, 46] _ _ _ (by rfl) q1
  have t1 : dgo (s.length + 4 + 1) .term (98 :: (quo s ++ [99, 46])) = some (dOne 98, quo s ++ [99, 46], false, 0) := rfl
  have n1 : isRep (dnext (quo s ++ [99, 46])) = false := by
    cases s with
    | nil => rfl
    | cons a s => rfl
  have t2 := rep_plain t1 n1
  have t3 := seqL_step (g := s.length + 4 + 2) (d0 := dCat dEps (dByte (turn ins0))) (r := 98 :: (quo s ++ [99, 46])) (by rfl) t2 (by rw [show s.length + 4 + 2 = 3 + 3 + s.length by omega]; exact h1)
  have u1 : dgo (s.length + 5 + 1) .term (46 :: 98 :: (quo s ++ [99, 46])) = some (dByte (turn ins0), 98 :: (quo s ++ [99, 46]), false, 0) := rfl
  have u2 := rep_plain u1 (by rfl)
  have u3 := seqL_step (g := s.length + 5 + 2) (d0 := dEps) (r := 46 :: 98 :: (quo s ++ [99, 46])) (by rfl) u2 t3
  have h2 := top_seq u3
  have p1 := all_places s (dCat (dCat dEps (dByte (turn ins0))) (dOne 98))
  have p2 := cat_places (dCat dEps (dByte (turn ins0))) (dOne 98)
  have p3 := cat_places dEps (dByte (turn ins0))
  have p4 := byte_places (turn ins0)
  have p5 : (dOne 98).places ≤ 1 := byte_places _
  have p6 : (dOne 99).places ≤ 1 := byte_places _
  have p7 := cat_places (catAll (dCat (dCat dEps (dByte (turn ins0))) (dOne 98)) s) (dOne 99)
  have p8 := cat_places (dCat (catAll (dCat (dCat dEps (dByte (turn ins0))) (dOne 98)) s) (dOne 99)) (dByte (turn ins0))
  have p9 : dEps.places = 0 := rfl
  have hl : (46 :: 98 :: (quo s ++ [99, 46])).length = 2 * s.length + 4 := by simp [quo_len]
  obtain ⟨P, e1, e2⟩ := parse_small (dgo_more h2 (show s.length + 5 + 2 + 3 ≤ 8 * (46 :: 98 :: (quo s ++ [99, 46])).length + 6 by rw [hl]; omega)) (by rw [hl]; omega) (by omega) (by omega)
  refine ⟨P, e1, fun u => ?_⟩
  rw [e2 u]
  refine and_congr_right fun _ => ?_
  constructor
  · rintro ⟨v, z, rfl, ⟨v2, z2, rfl, h3, h4⟩, ⟨y, rfl, _⟩⟩
    rw [one_lang] at h4
    subst h4
    obtain ⟨x, rfl, x2, z3, rfl, ⟨x3, z4, rfl, h5, ⟨c, rfl, _⟩⟩, h6⟩ := (all_lang s _ _).1 h3
    rw [one_lang] at h6
    subst h6
    have h7 : x3 = [] := h5
    subst h7
    exact ⟨c, y, by simp⟩
  · rintro ⟨x, y, rfl⟩
    refine ⟨x :: 98 :: (s ++ [99]), [y], by simp, ⟨x :: 98 :: s, [99], by simp, ?_, (one_lang 99 _).2 rfl⟩, ⟨y, rfl, any_lang y⟩⟩
    exact (all_lang s _ _).2 ⟨[x, 98], by simp, [x], [98], rfl, ⟨[], [x], rfl, rfl, ⟨x, rfl, any_lang x⟩⟩, (one_lang 98 _).2 rfl⟩
end Go.Proofs.Ytjmkkkfloalliaa.Q

namespace Go.Proofs.Ytjmkkkfloalliaa
set_option linter.unusedVariables false
open Go.RowKit

set_option maxRecDepth 100000 in
set_option maxHeartbeats 1600000 in
theorem quoted_any (s : ByteArray) (w : World) (hs : s.size ≤ 100) :
    Calls Try.prog 45 #[.string s] w fun e w' => ∃ p : ByteArray, e = .returned (.string p) ∧ Hid (L p = Q.quo (L s)) ∧ p.size ≤ 200 ∧ Below w.heap.size w w' := by
  have HLS : Hid ((L s).length = s.size) := L_len s
  go_enter Try.func45, Try.ntmps45
  go_wp2_with fail
  go_loopw [3, 4] (fun v i wr => ∃ (k : Nat) (o : ByteArray), k ≤ s.size ∧ i = .int .i64 k ∧ v = .string o ∧ Hid (L o = Q.quo ((L s).take k)) ∧ o.size ≤ 2 * k ∧ wr = w) (fun _ i _ => s.size - (intOf i).toNat)
  case atStart => exact ⟨0, ⟨#[]⟩, by omega, rfl, rfl, rfl, by decide, rfl⟩
  case round =>
    obtain ⟨k, o, hk, rfl, rfl, HO, ho, rfl⟩ := hrel
    rcases Nat.lt_or_ge k s.size with hlt | hge
    · have k0 : (0 : Int) ≤ (k : Int) := by omega
      have k1 : (k : Int) < (s.size : Int) := by omega
      obtain ⟨tq, HTQ, hzq, hsl⟩ : ∃ tq : ByteArray, Hid (L tq = [(L s).getD k 0]) ∧ tq.size = 1 ∧ ∀ W, Sem.run Try.prog (Instr.slice 9 (.string s) (some (.int .i64 (k : Int))) (some (.int .i64 ((k : Int) + 1))) none) W = .ok (.string tq) W := by
        refine ⟨s.extract k (k + 1), ?_, ?_, ?_⟩
        · show (s.extract k (k + 1)).data.toList = [s.data.toList.getD k 0]
          have hl : k < s.data.toList.length := by have := HLS.out; unfold L at this; rw [this]; exact hlt
          rw [Lib.extract_data, show k + 1 - k = 1 from by omega, List.drop_eq_getElem_cons hl, List.take_succ_cons, List.take_zero, List.getD_eq_getElem?_getD, List.getElem?_eq_getElem hl]
          rfl
        · rw [ByteArray.size_extract]; omega
        · intro W
          have := run_slice_string (P := Try.prog) W 9 s .i64 .i64 (k : Int) ((k : Int) + 1) Try.underlying9 (by omega) (by omega) (by omega)
          rw [show ((k : Int) + 1).toNat = k + 1 from by omega, Int.toNat_natCast] at this
          exact this
      have HO2 : Hid (L (o ++ ⟨#[92]⟩ ++ tq) = Q.quo ((L s).take (k + 1))) := by
        show _ = _
        have hl : k < (L s).length := by rw [HLS.out]; exact hlt
        rw [L_app, L_app, HO.out, HTQ.out, List.take_succ_eq_append_getElem hl, Q.quo_app, List.append_assoc, List.getD_eq_getElem?_getD, List.getElem?_eq_getElem hl]
        rfl
      have hz2 : (o ++ ⟨#[92]⟩ ++ tq).size ≤ 2 * (k + 1) := by
        rw [ByteArray.size_append, ByteArray.size_append, hzq]
        show o.size + 1 + 1 ≤ _
        omega
      clear HO HTQ
      go_wp2
      go_roundw
      case rel => exact ⟨k + 1, _, by omega, by go_num, rfl, HO2, hz2, trivial⟩
      case measure => simp [intOf]; omega
    · obtain rfl : k = s.size := by omega
      have HO2 : Hid (L o = Q.quo (L s)) := by
        show _ = _
        rw [HO.out, List.take_of_length_le (by rw [HLS.out]; exact Nat.le_refl _)]
      go_wp2
      go_ret
      exact ⟨o, rfl, HO2, by omega, Below.refl _ _⟩
end Go.Proofs.Ytjmkkkfloalliaa

namespace Go.Proofs.Ytjmkkkfloalliaa
set_option linter.unusedVariables false
open Go.RowKit

/-- where s stands in t, of the first k places -/
def stands (t s : List UInt8) (k : Nat) : List Nat := (List.range k).filter fun p => decide ((t.drop p).take s.length = s)
theorem stands_step (t s : List UInt8) (k : Nat) : stands t s (k + 1) = stands t s k ++ if (t.drop k).take s.length = s then [k] else [] := by
  unfold stands
  rw [List.range_succ, List.filter_append]
  congr 1
  by_cases h : (t.drop k).take s.length = s
  · rw [if_pos h]; simp [h]
  · rw [if_neg h]; simp [h]
theorem stands_len (t s : List UInt8) (k : Nat) : (stands t s k).length ≤ k := by
  unfold stands
  refine Nat.le_trans (List.length_filter_le _ _) ?_
  simp
theorem Q.plain_hits (t s : List UInt8) {P : Q.Pat} (h : ∀ u, Q.acc P u = true ↔ (u ≠ [] ∧ u = s)) (hs : s ≠ []) (k : Nat) (hk : t.length < k + s.length) : stands t s k = Q.hits t P := by
  have hl : 0 < s.length := List.length_pos_iff.2 hs
  refine Q.rise_ext (List.Pairwise.filter _ List.pairwise_lt_range) (Q.hits_rise t P) fun p => ?_
  show p ∈ (List.range k).filter _ ↔ _
  rw [Q.mem_at (A := fun u => u = s) h, List.mem_filter, List.mem_range]
  constructor
  · rintro ⟨_, h2⟩
    have h2 := of_decide_eq_true h2
    have hp : p < t.length := by
      rcases Nat.lt_or_ge p t.length with g | g
      · exact g
      · rw [List.drop_of_length_le g] at h2
        simp at h2
        exact absurd h2 hs
    have h3 : t.drop p = s ++ (t.drop p).drop s.length := by
      have h4 := (List.take_append_drop s.length (t.drop p)).symm
      rw [h2] at h4
      exact h4
    exact ⟨by omega, s, (M.pre_iff _ _).2 ⟨_, h3⟩, hs, rfl⟩
  · rintro ⟨_, u, h1, _, rfl⟩
    obtain ⟨y, e⟩ := (M.pre_iff _ _).1 h1
    have h3 : (t.drop p).take u.length = u := by rw [e, List.take_left]
    refine ⟨?_, decide_eq_true h3⟩
    have := congrArg List.length h3
    simp at this
    omega
theorem Q.plain_none (t : List UInt8) {P : Q.Pat} (h : ∀ u, Q.acc P u = true ↔ (u ≠ [] ∧ u = [])) : Q.hits t P = [] :=
  Q.hits_nil (A := fun u => u = []) h fun u hu => hu

set_option maxRecDepth 100000 in
set_option maxHeartbeats 1600000 in
theorem plain_any (w : World) (bd bx rate : Nat) (s t pat a : ByteArray) (hv : Bool) (hD : Dsk w bd bx rate t pat hv) (hI : IdxOf w bx rate t.data.toList a) (hs : s.size ≤ maxLen) :
    Calls Try.prog 23 #[.pointer (some ⟨bd, 0, none⟩), .string s] w fun e w' => e = .returned (.bool true) ∧ Below w.heap.size w w' := by
  have hts : t.size ≤ 200 := by rw [← size_len]; exact hI.len
  have HSZ : Hid (t.data.toList.length = t.size) := size_len t
  have hbd := Blk.lt hD
  have HD := hid hD
  have HI := hid hI
  obtain ⟨i0, hi, hz0, hz1, hz2⟩ := info_int
  clear hD hI
  go_enter Try.func23, Try.ntmps23
  go_wp2_with fail
  refine (clipped_any s 20 _ hs (by decide)).mono ?_
  rintro e w' ⟨r, rfl, hr, _, hw'⟩
  obtain rfl : w = w' := hw'.symm
  go_wp2_with fail
  refine (quoted_any r _ (by omega)).mono ?_
  rintro e w3 ⟨p, rfl, HPL, hpz, hB3⟩
  obtain ⟨P, hP1, hP2⟩ := Q.quo_parse (L r) (by rw [L_len]; exact hr)
  have HP1 : Hid (Q.parse (L p) = .ok P) := by show _ = _; rw [HPL.out]; exact hP1
  have HP2 := hid hP2
  have HX3 := hid (HI.out.below hB3 HI.out.lt)
  have hD3 : Dsk w3 bd bx rate t pat hv := Blk.below HD.out hB3 hbd
  have d0 := hD3.c0
  have hpm : p.size ≤ maxLen := by unfold maxLen; omega
  clear hP1 hP2
  go_wp2_with fail
  refine (find_ok HX3.out p hpm P HP1.out).mono ?_
  rintro e w4 ⟨gl, rfl, _, hS4, hB4⟩
  have hD4 : Dsk w4 bd bx rate t pat hv := Blk.below hD3 hB4 (Blk.lt hD3)
  have HD1 := hid hD4.c1
  have hbd4 := Blk.lt hD4
  have hBB4 : Below w.heap.size w w4 := hB3.trans (hB4.mono hB3.size)
  have HBB4 := hid hBB4
  have HS4 := hid hS4
  have hl1 : (Q.hits t.data.toList P).length ≤ 1000 := Q.hits_len _ _ (by rw [HSZ.out]; exact hts)
  clear hD3 hD4 hB3 hB4 hS4 hBB4 HX3 d0 HP1 HI HD
  rcases Nat.eq_zero_or_pos r.size with h0 | h0
  · have hr0 : L r = [] := List.length_eq_zero_iff.1 (by rw [L_len]; exact h0)
    have hne : r.toList.isEmpty = true := by
      rw [Lib.toList_data]
      show (L r).isEmpty = true
      rw [hr0]; rfl
    have hh : Q.hits t.data.toList P = [] := Q.plain_none t.data.toList (fun u => by rw [HP2.out u, hr0])
    have HS5 : Hid (SlI w4 (.slice (some ⟨gl, 0, none⟩) 0 0) []) := by
      have h := HS4.out
      rw [hh] at h
      exact h
    rw [hh]
    clear HS4 hh hr0 HP2 hl1 h0
    go_wp2_with fail
    go_loopw [8, 9] (fun v i wr => v = .slice none 0 0 ∧ i = .int .i64 0 ∧ wr = w4) (fun _ _ _ => 0)
    case atStart => exact ⟨rfl, rfl, rfl⟩
    case round =>
      obtain ⟨rfl, rfl, hwr⟩ := hrel
      obtain rfl : w4 = wr := hwr.symm
      have d1 := HD1.out
      have HW := hid (same_yes _ _ [] w4 HS5.out (SlI.nil w4) (by simp))
      by_cases hc : r.size ≤ t.size
      · have q1 : decide ((r.size : Int) ≤ (t.size : Int)) = true := decide_eq_true (by omega)
        go_wp2_with fail
        refine HW.out.mono ?_
        rintro e w5 ⟨rfl, hB5⟩
        go_wp2
        go_ret
        exact ⟨rfl, HBB4.out.trans (hB5.mono HBB4.out.size)⟩
      · have q1 : decide ((r.size : Int) ≤ (t.size : Int)) = false := decide_eq_false (by omega)
        go_wp2_with fail
        refine HW.out.mono ?_
        rintro e w5 ⟨rfl, hB5⟩
        go_wp2
        go_ret
        exact ⟨rfl, HBB4.out.trans (hB5.mono HBB4.out.size)⟩
  · have hr0 : L r ≠ [] := by
      intro e
      have := L_len r
      rw [e] at this
      simp at this
      omega
    have hne : r.toList.isEmpty = false := by
      rw [Lib.toList_data]
      cases e : r.data.toList with
      | nil => exact absurd e hr0
      | cons a b => rfl
    have HPH : Hid (∀ k, t.size < k + r.size → stands (L t) (L r) k = Q.hits t.data.toList P) := fun k hk => Q.plain_hits (L t) (L r) HP2.out hr0 k (by rw [L_len, L_len]; exact hk)
    clear HP2 hr0
    go_wp2_with fail
    go_loopw [8, 9] (fun v i wr => ∃ k : Nat, k ≤ t.size + 1 ∧ i = .int .i64 k ∧ wr.ownsRow w4.heap.size 3 1 v (stands (L t) (L r) k).length (ints (natI (stands (L t) (L r) k))) ∧ Below w4.heap.size w4 wr) (fun _ i _ => t.size + 1 - (intOf i).toNat)
    case atStart => exact ⟨0, by omega, rfl, World.ownsRow_nil _ _ _ _, Below.refl _ _⟩
    case round =>
      obtain ⟨k, hk, rfl, hown, hB⟩ := hrel
      have d1 := (hB.cell hbd4).trans HD1.out
      rcases Nat.lt_or_ge t.size (k + r.size) with hge | hle
      · have q1 : decide ((k : Int) + (r.size : Int) ≤ (t.size : Int)) = false := decide_eq_false (by omega)
        have hS5 := sli_own hown
        rw [HPH.out k hge] at hS5
        have HW := hid (same_yes _ _ _ wr (HS4.out.below hB (Nat.le_refl _)) hS5 hl1)
        clear hS5 hown
        go_wp2_with fail
        refine HW.out.mono ?_
        rintro e w5 ⟨rfl, hB5⟩
        go_wp2
        go_ret
        exact ⟨rfl, (HBB4.out.trans (hB.mono HBB4.out.size)).trans (hB5.mono (Nat.le_trans HBB4.out.size hB.size))⟩
      · have q1 : decide ((k : Int) + (r.size : Int) ≤ (t.size : Int)) = true := decide_eq_true (by omega)
        have k0 : (0 : Int) ≤ (k : Int) := by omega
        have hsl0 := stands_len (L t) (L r) k
        have HST := hid (stands_step (L t) (L r) k)
        obtain ⟨tq, HTQ, hsl⟩ : ∃ tq : ByteArray, Hid (L tq = ((L t).drop k).take (L r).length) ∧ ∀ W, Sem.run Try.prog (Instr.slice 9 (.string t) (some (.int .i64 (k : Int))) (some (.int .i64 ((k : Int) + (r.size : Int)))) none) W = .ok (.string tq) W := by
          refine ⟨t.extract k (k + r.size), ?_, ?_⟩
          · show (t.extract k (k + r.size)).data.toList = (t.data.toList.drop k).take (L r).length
            rw [Lib.extract_data, L_len, show k + r.size - k = r.size from by omega]
          · intro W
            have := run_slice_string (P := Try.prog) W 9 t .i64 .i64 (k : Int) ((k : Int) + (r.size : Int)) Try.underlying9 (by omega) (by omega) (by omega)
            rw [show ((k : Int) + (r.size : Int)).toNat = k + r.size from by omega, Int.toNat_natCast] at this
            exact this
        rw [← HTQ.out] at HST
        clear HTQ
        by_cases he : L tq = L r
        · have HST2 : Hid (stands (L t) (L r) (k + 1) = stands (L t) (L r) k ++ [k]) := by show _ = _; rw [HST.out, if_pos he]
          have q2 : (tq.toList == r.toList) = true := by rw [Lib.toList_data, Lib.toList_data, beq_iff_eq]; exact he
          clear HST he
          go_wp2_with ((at_builtin; refine wpList_append_own _ rfl _ _ 57 rfl w4.heap.size 3 i0 (.int .i64 0) 1 8 Try.underlying57 hi hz0 hz1 hz2 rfl (by decide) _ _ _ rfl (hown.alloc _) ⟨wr.heap.size, 0, none⟩ 1 1 [.int .i64 (k : Int)] rfl rfl ?c1 ?c2 ?c3 ?c4 ?c5 ?_))
          case c1 =>
            intro j u hj
            match j, hj with
            | 0, hj => simp at hj; subst hj; simp [Addr.add]
          case c2 => intro u hu; simp at hu; subst hu; rfl
          case c3 => unfold maxLen; omega
          case c4 => omega
          case c5 => have := hB.size; simp; omega
          · intro v' w1 hown' hgrow hnil
            have hb1 : Below w4.heap.size w4 w1 := below_grown (hB.alloc hB.size _) hgrow (by have := hB.size; simp; omega) (hown.alloc _) (Nat.le_refl _)
            have hown2 : w1.ownsRow w4.heap.size 3 1 v' (stands (L t) (L r) (k + 1)).length (ints (natI (stands (L t) (L r) (k + 1)))) := by
              rw [HST2.out, List.length_append]
              have e2 : ints (natI (stands (L t) (L r) k ++ [k])) = ints (natI (stands (L t) (L r) k)) ++ [.int .i64 (k : Int)] := by simp [ints, natI]
              rw [e2]
              exact hown'
            clear hnil hown' hgrow hB hown
            go_wp2
            go_roundw
            case rel => exact ⟨k + 1, by omega, by go_num, hown2, hb1⟩
            case measure => simp [intOf]; omega
        · have HST2 : Hid (stands (L t) (L r) (k + 1) = stands (L t) (L r) k) := by show _ = _; rw [HST.out, if_neg he, List.append_nil]
          have q2 : (tq.toList == r.toList) = false := by rw [Lib.toList_data, Lib.toList_data, beq_eq_false_iff_ne]; exact he
          clear HST he
          go_wp2
          go_roundw
          case rel => exact ⟨k + 1, by omega, by go_num, by rw [HST2.out]; exact hown, hB⟩
          case measure => simp [intOf]; omega

set_option maxRecDepth 100000 in
set_option maxHeartbeats 400000 in
theorem walk_Plain (a0 : ByteArray) (a1 : Int) (a2 : ByteArray) (a3 : ByteArray) (a4 : Int) (a5 : Int) (w0 : a0.size ≤ maxLen) (w1 : (Lit.int .i64 a1).wf = true) (w2 : a2.size ≤ maxLen) (w3 : a3.size ≤ maxLen) (_ : (Lit.int .i64 a4).wf = true) (_ : (Lit.int .i64 a5).wf = true) (w : World) :
    Calls Try.prog 9 #[.string a0, .int .i64 a1, .string a2, .string a3, .int .i64 a4, .int .i64 a5] w fun e w' => e = .returned (.bool true) ∧ Below w.heap.size w w' := by
  obtain ⟨b1, b2⟩ := wf_bounds w1
  go_enter Try.func9, Try.ntmps9
  go_wp2_with fail
  refine (laid_p a0 a2 a1 _ w0 w2 b1 b2).mono ?_
  rintro e w' ⟨bd, bx, r, t', pat', a, hv, rfl, _, hD, hI, g1, g2, hB, _, HV⟩
  clear HV
  go_wp2_with fail
  refine (plain_any _ bd bx r a3 t' pat' a hv hD hI w3).mono ?_
  rintro e w5 ⟨rfl, hB2⟩
  go_wp2
  go_ret
  exact ⟨rfl, hB.trans (hB2.mono hB.size)⟩
end Go.Proofs.Ytjmkkkfloalliaa

