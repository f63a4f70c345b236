import Derived.Test.YtjmkkkfloalliabKC
-- Known
namespace Go.Proofs.Ytjmkkkfloalliab
set_option linter.unusedVariables false
open Go.RowKit

theorem blk_keep {w w' : World} {B b : Nat} {T : TypeId} {vs : List Value} (h : BlkT w b T vs) (k : Below B w w') (hb : b < B) : BlkT w' b T vs := (k.block b hb).trans h
theorem kn_ok (b : Nat) (hb : b < 35) : okAt (knAt b) = true := by
  have h := List.all_eq_true.1 kn_all
  refine h _ ?_
  unfold knAt
  rw [List.getD_eq_getElem?_getD, List.getElem?_eq_getElem hb]
  exact List.getElem_mem hb
theorem search_ans {w : World} {b rate : Nat} {t : List UInt8} {a : ByteArray} (h : IdxOf w b rate t a) (pat : ByteArray) (hp : pat.size ≤ maxLen) (E At : Nat) (l : List Nat) (hA : ans t (L pat) = (E, At, l)) :
    Calls Try.prog 24 #[.pointer (some ⟨b, 0, none⟩), .string pat, .int .i64 524288, .bool true] w fun e w' => ∃ pp cap, e = .returned (.tuple #[.slice pp l.length cap, .agg #[.int .i64 (E : Int), .int .i64 (At : Int)]]) ∧ Hid (SlI w' (.slice pp l.length cap) l) ∧ Below w.heap.size w w' := by
  unfold ans at hA
  cases hP : Q.parse (L pat) with
  | error x =>
    obtain ⟨E', At'⟩ := x
    rw [hP] at hA
    cases hA
    refine (search_err h pat 524288 true hp _ _ hP (by decide)).mono ?_
    rintro e w' ⟨rfl, hB⟩
    exact ⟨none, 0, rfl, SlI.nil _, hB⟩
  | ok P =>
    rw [hP] at hA
    cases hA
    refine (search_ok h pat 524288 true hp P hP (Q.enough_le h.len) (by decide)).mono ?_
    rintro e w' ⟨g, rfl, _, hS, hB⟩
    exact ⟨_, _, rfl, hS, hB⟩
theorem sli_reads {w : World} {pp : Option Addr} {cap : Nat} {l : List Nat} (h : SlI w (.slice pp l.length cap) l) (i : Nat) (hi : i < l.length) : ∃ g, pp = some ⟨g, 0, none⟩ ∧ g < w.heap.size ∧ w.cell? ⟨g, i, none⟩ = some (.int .i64 ((l.getD i 0 : Nat) : Int)) := by
  rcases h with ⟨rfl, _⟩ | ⟨_, b, cap', e, hb, hc⟩
  · simp at hi
  · cases e
    exact ⟨b, rfl, hb, hc i hi⟩
theorem written_take (l : List Nat) (k : Nat) (hk : k < l.length) : written (l.take (k + 1)) = written (l.take k) ++ (dec (l.getD k 0) ++ [59]) := by
  rw [List.take_succ_eq_append_getElem hk, written_app, List.getD_eq_getElem?_getD, List.getElem?_eq_getElem hk]
  rfl

set_option maxRecDepth 100000 in
set_option maxHeartbeats 1600000 in
theorem gold_any (A : Int) (w : World) (r0 : -9223372036854775808 ≤ A) (r1 : A ≤ 9223372036854775807) :
    Calls Try.prog 16 #[.int .i64 A] w fun e w' => e = .returned (.bool true) ∧ Below w.heap.size w w' := by
  have HLOT := hid (lot_any w)
  go_enter Try.func16, Try.ntmps16
  go_wp2_with fail
  refine HLOT.out.mono ?_
  rintro e w1 ⟨g, rfl, hg, hg1, hcs, hB1⟩
  have HCS := hid hcs
  clear hcs HLOT
  go_wp2_with fail
  refine (pick_any A 35 _ r0 r1 (by omega) (by omega)).mono ?_
  rintro e w2 ⟨⟨b, rfl, hb⟩, hw2⟩
  obtain rfl : w1 = w2 := hw2.symm
  have hb35 : b < 35 := by omega
  have hok := kn_ok b hb35
  have c0 := HCS.out b 0 hb35 (by decide)
  have c1 := HCS.out b 1 hb35 (by decide)
  have c2 := HCS.out b 2 hb35 (by decide)
  have c3 := HCS.out b 3 hb35 (by decide)
  have c4 := HCS.out b 4 hb35 (by decide)
  generalize knAt b = x at *
  obtain ⟨t, p, wn, E, At⟩ := x
  simp only [cellsK, List.getElem?_cons_zero, List.getElem?_cons_succ, Nat.add_zero] at c0 c1 c2 c3 c4
  have i0 : (0 : Int) ≤ (b : Int) := by omega
  have i1 : (b : Int) < 35 := by omega
  have HOK := hid hok
  clear hok HCS
  go_upto_region 3 with fail
  have hX : BlkT (w1.alloc (.cells #[.string t, .string p, .string wn, .int .i64 (E : Int), .int .i64 (At : Int)] 53)) w1.heap.size 53 [.string t, .string p, .string wn, .int .i64 (E : Int), .int .i64 (At : Int)] := BlkT.new w1 _ _
  have hBa : Below w.heap.size w (w1.alloc (.cells #[.string t, .string p, .string wn, .int .i64 (E : Int), .int .i64 (At : Int)] 53)) := hB1.alloc hB1.size _
  generalize w1.heap.size = bk at *
  generalize w1.alloc (.cells #[.string t, .string p, .string wn, .int .i64 (E : Int), .int .i64 (At : Int)] 53) = w2 at *
  clear c0 c1 c2 c3 c4 hB1
  obtain ⟨l, ht, hp, hAns, hWr, hll, hsm⟩ : ∃ l, t.size ≤ 200 ∧ p.size ≤ 200 ∧ ans (L t) (L p) = (E, At, l) ∧ written l = L wn ∧ l.length ≤ 200 ∧ ∀ i, i < l.length → l.getD i 0 ≤ 200 := by
    have h := HOK.out
    unfold okAt at h
    simp only [Bool.and_eq_true, decide_eq_true_eq] at h
    obtain ⟨⟨⟨⟨⟨⟨h1, h2⟩, h3⟩, h4⟩, h5⟩, h6⟩, h7⟩ := h
    refine ⟨_, by rw [← size_len]; exact h1, by rw [← size_len]; exact h2, h4, h5, h6, fun i hi => ?_⟩
    have := List.all_eq_true.1 h7 _ (Q.mem_getD.2 ⟨i, hi, rfl⟩)
    exact of_decide_eq_true this
  have HAns := hid hAns
  have HWr := hid hWr
  have HSM := hid hsm
  clear HOK hAns hWr hsm
  have k0 := hX.cell 0
  simp only [List.getElem?_cons_zero] at k0
  go_wp2_with fail
  refine (build_of t 3 _ ht (by decide) (by decide)).mono ?_
  rintro e w3 ⟨by_, ay, rfl, _, hY3, hB3⟩
  have hX3 := blk_keep hX hB3 (BlkT.lt hX)
  have hBB3 := hBa.trans (hB3.mono hBa.size)
  have HY3 := hid hY3
  have k1 := hX3.cell 1
  simp only [List.getElem?_cons_zero, List.getElem?_cons_succ] at k1
  have hpm : p.size ≤ maxLen := by unfold maxLen; omega
  clear k0 hX hBa hB3 hY3
  go_wp2_with fail
  refine (search_ans HY3.out p hpm E At l HAns.out).mono ?_
  rintro e w4 ⟨pp, cap, rfl, HS4, hB4⟩
  have hX4 := blk_keep hX3 hB4 (BlkT.lt hX3)
  have hBB4 := hBB3.trans (hB4.mono hBB3.size)
  clear k1 hX3 hB4 hBB3 HY3 HAns
  go_upto_region 7 with fail
  have hF5 : BlkT (w4.alloc (.cells #[.int .i64 (E : Int), .int .i64 (At : Int)] 45)) w4.heap.size 45 [.int .i64 (E : Int), .int .i64 (At : Int)] := BlkT.new w4 _ _
  have hBa5 : Below w4.heap.size w4 (w4.alloc (.cells #[.int .i64 (E : Int), .int .i64 (At : Int)] 45)) := (Below.refl _ w4).alloc (Nat.le_refl _) _
  have hX5 := blk_keep hX4 hBa5 (BlkT.lt hX4)
  have HS5 := hid (SlI.below HS4.out hBa5 (Nat.le_refl _))
  have hBB5 := hBB4.trans (hBa5.mono hBB4.size)
  generalize w4.heap.size = bf at *
  generalize w4.alloc (.cells #[.int .i64 (E : Int), .int .i64 (At : Int)] 45) = w5 at *
  have HX5 := hid hX5
  have HF5 := hid hF5
  have HBB5 := hid hBB5
  clear hX4 HS4 hBa5 hBB4 hX5 hF5 hBB5
  go_wp2_with fail
  go_loopw [9, 10] (fun v i wr => ∃ (k : Nat) (o : ByteArray), k ≤ l.length ∧ i = .int .i64 k ∧ v = .string o ∧ Hid (L o = written (l.take k)) ∧ o.size ≤ 4 * k ∧ Below w5.heap.size w5 wr) (fun _ i _ => l.length - (intOf i).toNat)
  case atStart => exact ⟨0, ⟨#[]⟩, by omega, rfl, rfl, rfl, by decide, Below.refl _ _⟩
  case round =>
    obtain ⟨k, o, hk, rfl, rfl, HO, ho, hB⟩ := hrel
    rcases Nat.lt_or_ge k l.length with hlt | hge
    · obtain ⟨gr, rfl, hgr, hcr⟩ := sli_reads HS5.out k hlt
      have c1 : wr.cell? ⟨gr, k, none⟩ = some (.int .i64 ((l.getD k 0 : Nat) : Int)) := (hB.cell hgr).trans hcr
      have hx := HSM.out k hlt
      have HST := hid (written_take l k hlt)
      have j0 : (0 : Int) ≤ (k : Int) := by omega
      have j1 : (k : Int) < (l.length : Int) := by omega
      clear hcr
      generalize l.getD k 0 = x at *
      go_wp2_with fail
      refine (decimal_any x (by omega) _).mono ?_
      rintro e w6 ⟨r, rfl, HR, hzr, hB6⟩
      have HO2 : Hid (L (o ++ r ++ ⟨#[59]⟩) = written (l.take (k + 1))) := by
        show _ = _
        rw [L_app, L_app, HO.out, HR.out, HST.out, List.append_assoc]
      have hz2 : (o ++ r ++ ⟨#[59]⟩).size ≤ 4 * (k + 1) := by
        rw [ByteArray.size_append, ByteArray.size_append]
        show o.size + r.size + 1 ≤ _
        omega
      have hBB6 : Below w5.heap.size w5 w6 := hB.trans (hB6.mono hB.size)
      clear HO HR HST hB6 hB c1
      go_wp2
      go_roundw
      case rel => exact ⟨k + 1, _, by omega, by go_num, rfl, HO2, hz2, hBB6⟩
      case measure => simp [intOf]; omega
    · obtain rfl : k = l.length := by omega
      have hX6 := blk_keep HX5.out hB (BlkT.lt HX5.out)
      have hF6 := blk_keep HF5.out hB (BlkT.lt HF5.out)
      have x2 := hX6.cell 2; have x3 := hX6.cell 3; have x4 := hX6.cell 4
      have f0 := hF6.cell 0; have f1 := hF6.cell 1
      simp only [List.getElem?_cons_zero, List.getElem?_cons_succ] at x2 x3 x4 f0 f1
      have q2 : (o.toList == wn.toList) = true := by
        rw [Lib.toList_data, Lib.toList_data, beq_iff_eq]
        show L o = L wn
        rw [HO.out, ← HWr.out, List.take_of_length_le (Nat.le_refl _)]
      go_wp2
      go_ret
      exact ⟨rfl, HBB5.out.trans (hB.mono HBB5.out.size)⟩

set_option maxRecDepth 100000 in
set_option maxHeartbeats 400000 in
theorem walk_Known (a0 : ByteArray) (a1 : Int) (a2 : ByteArray) (a3 : ByteArray) (a4 : Int) (a5 : Int) (w0 : a0.size ≤ maxLen) (w1 : (Lit.int .i64 a1).wf = true) (w2 : a2.size ≤ maxLen) (w3 : a3.size ≤ maxLen) (w4 : (Lit.int .i64 a4).wf = true) (_ : (Lit.int .i64 a5).wf = true) (w : World) :
    Calls Try.prog 8 #[.string a0, .int .i64 a1, .string a2, .string a3, .int .i64 a4, .int .i64 a5] w fun e w' => e = .returned (.bool true) ∧ Below w.heap.size w w' := by
  obtain ⟨b1, b2⟩ := wf_bounds w4
  go_enter Try.func8, Try.ntmps8
  go_wp2_with fail
  refine (gold_any a4 _ b1 b2).mono ?_
  rintro e w5 ⟨rfl, hB2⟩
  go_wp2
  go_ret
  exact ⟨rfl, hB2⟩
end Go.Proofs.Ytjmkkkfloalliab
