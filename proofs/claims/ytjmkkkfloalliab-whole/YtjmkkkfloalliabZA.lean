import Derived.Test.YtjmkkkfloalliabYV
import Derived.Test.YtjmkkkfloalliabYZ
-- Search
namespace Go.Proofs.Ytjmkkkfloalliab
set_option linter.unusedVariables false
open Go.RowKit

/-- what Search answers, of an index of bytes a with the whole text's row h -/
def Q.search (a : List UInt8) (h : Nat) (pat : List UInt8) (budget : Int) (memo : Bool) : Except (Nat × Nat) (List Nat) :=
  if budget < 0 ∨ 1048576 < budget then .error (2, 0)
  else match Q.parse pat with
    | .error e => .error e
    | .ok P => if (Q.runAll a h P memo budget.toNat).list.length ≤ budget.toNat then .ok (Q.found P a h (Q.runAll a h P memo budget.toNat)) else .error (6, 0)
def SearchPost (B : Nat) (r : Except (Nat × Nat) (List Nat)) (e : Ending) (w' : World) : Prop :=
  match r with
  | .error (E, At) => e = .returned (.tuple #[.slice none 0 0, .agg #[.int .i64 (E : Int), .int .i64 (At : Int)]])
  | .ok l => ∃ b, e = .returned (.tuple #[.slice (some ⟨b, 0, none⟩) l.length l.length, .agg #[.int .i64 0, .int .i64 0]]) ∧ B ≤ b ∧ Nums .i64 w' b (natI l)
theorem Q.parse_err {s : List UInt8} {E At : Nat} (h : Q.parse s = .error (E, At)) : E ≠ 0 := by
  unfold Q.parse at h
  split at h
  · cases h; decide
  · split at h
    · cases h; decide
    · split at h
      · cases h; decide
      · split at h
        · cases h; decide
        · cases h
theorem Q.parse_ok {s : List UInt8} {P : Q.Pat} (h : Q.parse s = .ok P) : Q.PatOk P := by
  unfold Q.parse at h
  split at h
  · cases h
  · split at h
    · cases h
    · split at h
      · cases h
      · split at h
        · cases h
        · next hx =>
          cases h
          exact (Q.newPattern_ok (ps := (Q.whole s).2.parts) (Q.top_good s).ok _ (Q.top_good s).lt (by show (Q.at_ (Q.whole s).2.parts (Q.whole s).1).places ≤ 48; omega)).1
theorem found_length (P : Q.Pat) (a : List UInt8) (h : Nat) (k : Q.Wk) : (Q.found P a h k).length = foundLen P a k := laidTo_len _ _ _ _

set_option maxRecDepth 10000 in
set_option maxHeartbeats 3200000 in
theorem Search_any (bi rate h : Nat) (a pat : ByteArray) (budget : Int) (memo : Bool) (w : World) (hI : Idx w bi rate h a) (ha : a.size ≤ 1000) (hh : h ≤ a.size) (hp : pat.size ≤ maxLen) :
    Calls Try.prog 24 #[.pointer (some ⟨bi, 0, none⟩), .string pat, .int .i64 budget, .bool memo] w fun e w' => SearchPost w.heap.size (Q.search (L a) h (L pat) budget memo) e w' ∧ Below w.heap.size w w' := by
  have HI := hid hI
  have hbi := Blk.lt hI
  obtain ⟨R, hRe⟩ : ∃ R, Q.search (L a) h (L pat) budget memo = R := ⟨_, rfl⟩
  rw [hRe]
  have HR := hid hRe
  clear hRe hI
  by_cases hb0 : budget < 0
  · have HE : Hid (R = .error (2, 0)) := by show _ = _; rw [← HR.out]; unfold Q.search; rw [if_pos (.inl hb0)]
    have hd : decide (budget < 0) = true := by simp [hb0]
    go_enter Try.func24, Try.ntmps24
    go_wp2
    exact bodyPost_ret (v := .tuple #[.slice none 0 0, .agg #[.int .i64 2, .int .i64 0]]) (by simp [results, Try.results24, go_sem, *]) rfl ⟨by rw [HE.out]; rfl, by first | exact (((Below.refl _ _).alloc (Nat.le_refl _) _).setCell (by simp) _).setCell (by simp) _ | exact (Below.refl _ _).alloc (Nat.le_refl _) _⟩
  have hd0 : decide (budget < 0) = false := by simp; omega
  by_cases hb1 : 1048576 < budget
  · have HE : Hid (R = .error (2, 0)) := by show _ = _; rw [← HR.out]; unfold Q.search; rw [if_pos (.inr hb1)]
    have hd : decide (1048576 < budget) = true := by simp [hb1]
    go_enter Try.func24, Try.ntmps24
    go_wp2
    exact bodyPost_ret (v := .tuple #[.slice none 0 0, .agg #[.int .i64 2, .int .i64 0]]) (by simp [results, Try.results24, go_sem, *]) rfl ⟨by rw [HE.out]; rfl, by first | exact (((Below.refl _ _).alloc (Nat.le_refl _) _).setCell (by simp) _).setCell (by simp) _ | exact (Below.refl _ _).alloc (Nat.le_refl _) _⟩
  have hd1 : decide (1048576 < budget) = false := by simp; omega
  obtain ⟨bg, hbg⟩ : ∃ bg : Nat, budget = (bg : Int) := ⟨budget.toNat, by omega⟩
  subst hbg
  have hbgl : bg ≤ 1048576 := by omega
  have HRR : Hid (R = match Q.parse (L pat) with
    | .error e => .error e
    | .ok P => if (Q.runAll (L a) h P memo bg).list.length ≤ bg then .ok (Q.found P (L a) h (Q.runAll (L a) h P memo bg)) else .error (6, 0)) := by
    show _ = _
    rw [← HR.out]
    unfold Q.search
    rw [if_neg (by omega), Int.toNat_natCast]
  clear HR hb0 hb1
  have HF0 : Hid (BlkT (w.alloc (.cells #[.int .i64 0, .int .i64 0] 45)) w.heap.size 45 [.int .i64 0, .int .i64 0]) := BlkT.new w _ _
  have HB0 := hid ((Below.refl w.heap.size w).alloc (Nat.le_refl _) (.cells #[.int .i64 0, .int .i64 0] 45))
  have hz0 : (w.alloc (.cells #[.int .i64 0, .int .i64 0] 45)).heap.size = w.heap.size + 1 := by simp
  have HPA := hid (Parse_any pat (w.alloc (.cells #[.int .i64 0, .int .i64 0] 45)) hp)
  go_enter Try.func24, Try.ntmps24
  go_upto_region 3 with fail
  generalize w.alloc (.cells #[.int .i64 0, .int .i64 0] 45) = w0 at *
  cases hpa : Q.parse (L pat) with
  | error ea =>
    obtain ⟨E, At⟩ := ea
    have hE0 := Q.parse_err hpa
    rw [hpa] at HPA HRR
    have HE : Hid (R = .error (E, At)) := HRR.out
    have hq : ((E : Int) != 0) = true := by simp; omega
    have HPA2 : Hid (Calls Try.prog 32 #[.string pat] w0 fun e w' => e = .returned (.tuple #[.pointer none, .agg #[.int .i64 (E : Int), .int .i64 (At : Int)]]) ∧ Below w0.heap.size w0 w') := HPA.out
    clear HPA HRR
    go_wp2_with (go_at_call 32; refine HPA2.out.mono ?_; rintro e w2 ⟨rfl, hB2⟩; have hF2 : BlkT w2 w.heap.size 45 [.int .i64 0, .int .i64 0] := (hB2.block _ (by omega)).trans HF0.out; have f0 := hF2.cell 0; have f1 := hF2.cell 1; have ff := hF2.frozen; simp only [List.getElem?_cons_zero, List.getElem?_cons_succ] at f0 f1; have hz2 := hF2.lt)
    go_region
    all_goals
      go_wp2
      exact bodyPost_ret (v := .tuple #[.slice none 0 0, .agg #[.int .i64 (E : Int), .int .i64 (At : Int)]]) (by simp [results, Try.results24, go_sem, *]) rfl ⟨by rw [HE.out]; rfl, by
        have hBw : Below w.heap.size w w2 := HB0.out.trans (hB2.mono (by omega))
        first
          | exact below_drew (((hBw.setCell (by simp) _).setCell (by simp) _).alloc (by simp; omega) _)
          | exact ((below_drew (hBw.alloc (by omega) _)).setCell (by simp) _).setCell (by simp) _
          | exact (((hBw.setCell (by simp) _).setCell (by simp) _).alloc (by simp; omega) _)⟩
  | ok P =>
    have hPok := Q.parse_ok hpa
    rw [hpa] at HPA HRR
    simp only at HRR
    have HPA2 : Hid (Calls Try.prog 32 #[.string pat] w0 fun e w' => (∃ b, e = .returned (.tuple #[.pointer (some ⟨b, 0, none⟩), .agg #[.int .i64 0, .int .i64 0]]) ∧ w0.heap.size ≤ b ∧ PaT w' b P) ∧ Below w0.heap.size w0 w') := HPA.out
    clear HPA
    go_upto_region 8 with (go_at_call 32; refine HPA2.out.mono ?_; rintro e w2 ⟨⟨bp, rfl, hbp, hP2⟩, hB2⟩)
    have hBw2 : Below w.heap.size w w2 := HB0.out.trans (hB2.mono (by omega))
    have hF2 : BlkT w2 w.heap.size 45 [.int .i64 0, .int .i64 0] := (hB2.block _ (by omega)).trans HF0.out
    have hz2 := hF2.lt
    have hI2 : Idx w2 bi rate h a := Blk.below HI.out hBw2 hbi
    have BW3 := hBw2.alloc (by omega) (.cells #[.int .i64 0, .int .i64 0] 45)
    have FW3 := hF2.alloc (.cells #[.int .i64 0, .int .i64 0] 45)
    have IW3 : Idx (w2.alloc (.cells #[.int .i64 0, .int .i64 0] 45)) bi rate h a := Blk.alloc hI2 _
    have PW3 := hP2.alloc (.cells #[.int .i64 0, .int .i64 0] 45)
    clear hBw2 hF2 hI2 hP2 hB2 HPA2 HF0 HB0
    generalize w2.alloc (.cells #[.int .i64 0, .int .i64 0] 45) = w3 at *
    have d2 := IW3.c2
    have HLO := hid (longerRows_any a w3 ha)
    have HBW := hid BW3
    have HFW := hid FW3
    have HIW := hid IW3
    have HPW := hid PW3
    have hz3 := PW3.blk.lt
    have hz3f := FW3.lt
    clear BW3 FW3 IW3 PW3
    go_upto_region 9 with (go_at_call 33; refine HLO.out.mono ?_; rintro e w5 ⟨bl, rfl, hbl, hN5, hB5⟩)
    have hs5 := hB5.size
    have HB5 : Hid (Below w.heap.size w w5) := HBW.out.trans (hB5.mono (by omega))
    have HF5 : Hid (BlkT w5 w.heap.size 45 [.int .i64 0, .int .i64 0]) := (hB5.block _ hz3f).trans HFW.out
    have HI5 : Hid (Idx w5 bi rate h a) := Blk.below HIW.out hB5 (by omega)
    have HP5 : Hid (PaT w5 bp P) := ⟨HPW.out.ok, (hB5.block _ hz3).trans HPW.out.blk⟩
    have HN5 := hid hN5
    have hzl := Blk.lt hN5
    have d5 := HI5.out.c2
    have hmi := make_ints ((a.size : Int) + 1) (a.size + 1) (by omega) (by omega)
    clear hN5 hB5 HLO HBW HFW HIW HPW d2
    go_upto_region 10 with fail
    have HWK : Hid (WkT ((w5.alloc (.cells (zeroRow (.int .i64 0) (a.size + 1)) 3)).alloc (.cells #[.pointer (some ⟨bi, 0, none⟩), .pointer (some ⟨bp, 0, none⟩), .bool memo, .slice (some ⟨bl, 0, none⟩) a.size a.size, .slice none 0 0, .slice (some ⟨w5.heap.size, 0, none⟩) (a.size + 1) (a.size + 1)] 72)) ⟨w5.heap.size, w5.heap.size + 1, bi, bp, bl, w5.heap.size, a.size, memo⟩ ⟨[], List.replicate (a.size + 1) 0⟩ (.slice none 0 0)) := by
      refine ⟨?_, ⟨rfl, .inl ⟨rfl, rfl⟩⟩, ?_, ?_, by simp, (fun e => by cases e), (fun e => by cases e), by simp, by simp, by simp⟩
      · have := BlkT.new (w5.alloc (.cells (zeroRow (.int .i64 0) (a.size + 1)) 3)) #[.pointer (some ⟨bi, 0, none⟩), .pointer (some ⟨bp, 0, none⟩), .bool memo, .slice (some ⟨bl, 0, none⟩) a.size a.size, .slice none 0 0, .slice (some ⟨w5.heap.size, 0, none⟩) (a.size + 1) (a.size + 1)] 72
        simp only [World.size_alloc] at this
        exact this
      · have := Blk.alloc (Nums.new .i64 w5 (a.size + 1) 3) (.cells #[.pointer (some ⟨bi, 0, none⟩), .pointer (some ⟨bp, 0, none⟩), .bool memo, .slice (some ⟨bl, 0, none⟩) a.size a.size, .slice none 0 0, .slice (some ⟨w5.heap.size, 0, none⟩) (a.size + 1) (a.size + 1)] 72)
        unfold Nums natI
        rw [List.map_replicate]
        exact this
      · refine ⟨List.length_replicate, fun r => ?_, fun k hk => by simp at hk⟩
        rw [List.getD_eq_getElem?_getD, List.getElem?_replicate]
        split <;> simp
    have HK7 := hid (((Keep.refl [] w5).alloc (.cells (zeroRow (.int .i64 0) (a.size + 1)) 3)).alloc (.cells #[.pointer (some ⟨bi, 0, none⟩), .pointer (some ⟨bp, 0, none⟩), .bool memo, .slice (some ⟨bl, 0, none⟩) a.size a.size, .slice none 0 0, .slice (some ⟨w5.heap.size, 0, none⟩) (a.size + 1) (a.size + 1)] 72))
    clear hmi d5
    generalize ((w5.alloc (.cells (zeroRow (.int .i64 0) (a.size + 1)) 3)).alloc (.cells #[.pointer (some ⟨bi, 0, none⟩), .pointer (some ⟨bp, 0, none⟩), .bool memo, .slice (some ⟨bl, 0, none⟩) a.size a.size, .slice none 0 0, .slice (some ⟨w5.heap.size, 0, none⟩) (a.size + 1) (a.size + 1)] 72)) = w7 at *
    have hB7 : Below w5.heap.size w5 w7 := HK7.out.to_below (by simp) (Nat.le_refl _)
    have HWE : Hid (WE w7 ⟨w5.heap.size, w5.heap.size + 1, bi, bp, bl, w5.heap.size, a.size, memo⟩ rate h a P) :=
      ⟨Blk.below HI5.out hB7 (show bi < w5.heap.size by omega), ⟨HP5.out.ok, (hB7.block _ (show bp < w5.heap.size by omega)).trans HP5.out.blk⟩, Blk.below HN5.out hB7 hzl, by show bi < w5.heap.size; omega, by show bp < w5.heap.size; omega, hzl, rfl, hh, ha⟩
    have HF7 : Hid (BlkT w7 w.heap.size 45 [.int .i64 0, .int .i64 0]) := HF5.out.keep HK7.out (by simp)
    have HB7 : Hid (Below w.heap.size w w7) := HB5.out.trans (hB7.mono (by omega))
    have HRU := hid (run_any ⟨w5.heap.size, w5.heap.size + 1, bi, bp, bl, w5.heap.size, a.size, memo⟩ _ rate h a P bg w7 HWK.out HWE.out hbgl)
    clear HI5 HP5 HN5 HB5 HF5 HK7
    go_upto_region 11 with (go_at_call 34; refine HRU.out.mono ?_; rintro e w8 ⟨rfl, ⟨v8, hW8⟩, hB8⟩)
    have HE8 := hid (HWE.out.below hB8)
    have HW8 := hid hW8
    have HF8 : Hid (BlkT w8 w.heap.size 45 [.int .i64 0, .int .i64 0]) := (hB8.block _ (by show w.heap.size < w5.heap.size; omega)).trans HF7.out
    have HB8 : Hid (Below w.heap.size w w8) := HB7.out.trans (hB8.mono (by show w.heap.size ≤ w5.heap.size; omega))
    have f0 := HF8.out.cell 0; have f1 := HF8.out.cell 1; have ff := HF8.out.frozen
    simp only [List.getElem?_cons_zero, List.getElem?_cons_succ] at f0 f1
    have hz8 := HB8.out.size
    clear hW8 hB8 HRU HWK HWE HF7 HB7
    generalize Q.runAll (L a) h P memo bg = K at *
    by_cases hdone : K.list.length ≤ bg
    · have hdd : decide (K.list.length ≤ bg) = true := by simp [hdone]
      have HE : Hid (R = .ok (Q.found P (L a) h K)) := by show _ = _; rw [HRR.out, if_pos hdone]
      have HFO := hid (found_any _ K v8 rate h a P w8 HW8.out HE8.out)
      rw [hdd]
      go_wp2_with (go_at_call 35; refine HFO.out.mono ?_; rintro e w9 ⟨b9, rfl, hb9, hN9, hB9⟩; have hF9 : BlkT w9 w.heap.size 45 [.int .i64 0, .int .i64 0] := (hB9.block _ (HF8.out.lt)).trans HF8.out; have g0 := hF9.cell 0; have g1 := hF9.cell 1; have gf := hF9.frozen; simp only [List.getElem?_cons_zero, List.getElem?_cons_succ] at g0 g1)
      exact bodyPost_ret (v := .tuple #[.slice (some ⟨b9, 0, none⟩) (foundLen P (L a) K) (foundLen P (L a) K), .agg #[.int .i64 0, .int .i64 0]]) (by simp [results, Try.results24, go_sem, *]) rfl ⟨by rw [HE.out]; exact ⟨b9, by rw [found_length], by omega, Blk.other (Blk.other hN9 (by simp; have := HF8.out.lt; omega) _) (by simp; have := HF8.out.lt; omega) _⟩, ((HB8.out.trans (hB9.mono hz8)).setCell (by simp) _).setCell (by simp) _⟩
    · have hdd : decide (K.list.length ≤ bg) = false := by simp; omega
      have HE : Hid (R = .error (6, 0)) := by show _ = _; rw [HRR.out, if_neg hdone]
      rw [hdd]
      go_wp2
      exact bodyPost_ret (v := .tuple #[.slice none 0 0, .agg #[.int .i64 6, .int .i64 0]]) (by simp [results, Try.results24, go_sem, *]) rfl ⟨by rw [HE.out]; rfl, (HB8.out.setCell (by simp) _).setCell (by simp) _⟩
end Go.Proofs.Ytjmkkkfloalliab
