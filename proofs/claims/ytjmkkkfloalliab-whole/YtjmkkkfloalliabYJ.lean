import Derived.Test.YtjmkkkfloalliabYG
import Derived.Test.YtjmkkkfloalliabYA
import Derived.Laws.BitsLemmas
import Derived.Laws.Bits64
-- a pattern written out, in memory: bit, link
namespace Go.Proofs.Ytjmkkkfloalliab
set_option linter.unusedVariables false
open Go.RowKit

theorem Keep.trans2 {S S' : List Nat} {w a b : World} (h : Keep S w a) (k : Keep S' a b) (hS : ∀ x, x ∈ S' → x ∉ S → w.heap.size ≤ x) : Keep S w b :=
  ⟨k.os.trans h.os, k.tape.trans h.tape, k.output.trans h.output, Nat.le_trans h.size k.size, fun i hi hs => (k.block i (Nat.lt_of_lt_of_le hi h.size) (fun hm => by have := hS i hm hs; omega)).trans (h.block i hi hs)⟩
theorem wrap_u63 (n : Int) (h₀ : 0 ≤ n) (h₁ : n < 2 ^ 63) : IntKind.u64.wrap n = n := by rw [IntKind.wrap_u64]; omega
theorem lt63 {a : Nat} (h : a < 2 ^ 49) : a < 2 ^ 63 := Nat.lt_trans h (by decide)
theorem and_u {a b : Nat} (ha : a < 2 ^ 49) (hb : b < 2 ^ 49) : bits .and .u64 (a : Int) (b : Int) = ((a &&& b : Nat) : Int) :=
  (bits_nat .u64 63 (by decide) wrap_u63 a b (lt63 ha) (lt63 hb)).1
theorem or_u {a b : Nat} (ha : a < 2 ^ 49) (hb : b < 2 ^ 49) : bits .or .u64 (a : Int) (b : Int) = ((a ||| b : Nat) : Int) :=
  (bits_nat .u64 63 (by decide) wrap_u63 a b (lt63 ha) (lt63 hb)).2
theorem and_bit (a k : Nat) : (a &&& 2 ^ k != 0) = a.testBit k := by
  cases h : a.testBit k with
  | true =>
    rw [bne_iff_ne]
    intro e
    have : (a &&& 2 ^ k).testBit k = true := by rw [Nat.testBit_and, h, Nat.testBit_two_pow_self]; rfl
    rw [e] at this
    simp at this
  | false =>
    have : a &&& 2 ^ k = 0 := by
      apply Nat.eq_of_testBit_eq
      intro i
      rw [Nat.testBit_and, Nat.testBit_two_pow, Nat.zero_testBit]
      by_cases e : k = i
      · subst e; simp [h]
      · simp [e]
    rw [this]
    rfl
theorem and_bit' (a k B A : Nat) (hB : B = 2 ^ k) (hA : A = a &&& B) : ((A : Int) != 0) = a.testBit k := by
  subst hB
  subst hA
  rw [← and_bit, Bool.eq_iff_iff]
  simp only [bne_iff_ne, ne_eq]
  exact ⟨fun h e => h (by rw [e]; rfl), fun h e => h (by omega)⟩

set_option maxRecDepth 10000 in
set_option maxHeartbeats 800000 in
theorem bit_any (k B : Nat) (w : World) (hk : k ≤ 48) (hB : Hid (B = 2 ^ k)) :
    Calls Try.prog 83 #[.int .i64 (k : Int)] w fun e w' => e = .returned (.int .u64 (B : Int)) ∧ w' = w := by
  have h0 : (0 : Int) ≤ (k : Int) := by omega
  have HW : Hid (IntKind.u64.wrap ((2 : Int) ^ k) = ((2 ^ k : Nat) : Int)) := by
    show _ = _
    have h1 : 2 ^ k ≤ 2 ^ 48 := Nat.pow_le_pow_right (by decide) hk
    have h2 : ((2 : Int) ^ k) = ((2 ^ k : Nat) : Int) := by simp
    rw [h2]
    have h3 : (2 : Nat) ^ 48 < 2 ^ 63 := by decide
    have h4 : 2 ^ k < 2 ^ 63 := Nat.lt_of_le_of_lt h1 h3
    exact wrap_u63 _ (Int.natCast_nonneg _) (by exact_mod_cast h4)
  go_enter Try.func83, Try.ntmps83
  go_wp2
  go_ret
  exact ⟨by show Ending.returned (.int .u64 (IntKind.u64.wrap ((2 : Int) ^ k))) = _; rw [HW.out, ← hB.out], rfl⟩

def u64s (l : List Nat) : List Value := l.map fun (n : Nat) => Value.int .u64 (n : Int)
def patCells (p : Q.Pat) : List Value := .int .i64 (p.size : Int) :: (u64s p.ahead ++ (u64s p.takes ++ [.int .u64 (p.begins : Int)]))
/-- a pattern in memory -/
structure PaT (w : World) (b : Nat) (p : Q.Pat) : Prop where
  ok : Q.PatOk p
  blk : BlkT w b 119 (patCells p)
theorem patCells_a {p : Q.Pat} (h : Q.PatOk p) (i : Nat) (hi : i < 49) : (patCells p)[1 + i]? = some (.int .u64 (p.ahead.getD i 0 : Nat)) := by
  unfold patCells u64s
  rw [show 1 + i = i + 1 by omega, List.getElem?_cons_succ, List.getElem?_append_left (by rw [List.length_map, h.alen]; exact hi), List.getElem?_map]
  rw [List.getD_eq_getElem?_getD, List.getElem?_eq_getElem (by rw [h.alen]; exact hi)]; rfl
theorem patCells_t {p : Q.Pat} (h : Q.PatOk p) (i : Nat) (hi : i < 256) : (patCells p)[50 + i]? = some (.int .u64 (p.takes.getD i 0 : Nat)) := by
  unfold patCells u64s
  rw [show 50 + i = (49 + i) + 1 by omega, List.getElem?_cons_succ, List.getElem?_append_right (by rw [List.length_map, h.alen]; omega), List.length_map, h.alen, show 49 + i - 49 = i by omega, List.getElem?_append_left (by rw [List.length_map, h.tlen]; exact hi), List.getElem?_map]
  rw [List.getD_eq_getElem?_getD, List.getElem?_eq_getElem (by rw [h.tlen]; exact hi)]; rfl
theorem patCells_b {p : Q.Pat} (h : Q.PatOk p) : (patCells p)[306]? = some (.int .u64 (p.begins : Int)) := by
  unfold patCells u64s
  rw [show 306 = (49 + 256) + 1 by omega, List.getElem?_cons_succ, List.getElem?_append_right (by rw [List.length_map, h.alen]; omega), List.length_map, h.alen, show 49 + 256 - 49 = 256 by omega, List.getElem?_append_right (by rw [List.length_map, h.tlen]; omega), List.length_map, h.tlen]
  rfl
theorem PaT.c0 {w : World} {b : Nat} {p : Q.Pat} (h : PaT w b p) : w.cell? ⟨b, 0, none⟩ = some (.int .i64 (p.size : Int)) := h.blk.cell 0
theorem PaT.ca {w : World} {b : Nat} {p : Q.Pat} (h : PaT w b p) (i : Nat) (hi : i < 49) : w.cell? ⟨b, 1 + i, none⟩ = some (.int .u64 (p.ahead.getD i 0 : Nat)) := (h.blk.cell _).trans (patCells_a h.ok i hi)
theorem PaT.ct {w : World} {b : Nat} {p : Q.Pat} (h : PaT w b p) (i : Nat) (hi : i < 256) : w.cell? ⟨b, 50 + i, none⟩ = some (.int .u64 (p.takes.getD i 0 : Nat)) := (h.blk.cell _).trans (patCells_t h.ok i hi)
theorem PaT.cb {w : World} {b : Nat} {p : Q.Pat} (h : PaT w b p) : w.cell? ⟨b, 306, none⟩ = some (.int .u64 (p.begins : Int)) := (h.blk.cell _).trans (patCells_b h.ok)
theorem PaT.fz {w : World} {b : Nat} {p : Q.Pat} (h : PaT w b p) (i : Nat) : w.frozen? ⟨b, i, none⟩ = false := h.blk.frozen i
theorem PaT.keep {S : List Nat} {w w' : World} {b : Nat} {p : Q.Pat} (h : PaT w b p) (k : Keep S w w') (hb : b ∉ S) : PaT w' b p := ⟨h.ok, h.blk.keep k hb⟩
theorem PaT.alloc {w : World} {b : Nat} {p : Q.Pat} (h : PaT w b p) (o : Obj) : PaT (w.alloc o) b p := ⟨h.ok, h.blk.alloc o⟩
theorem PaT.drewN {w : World} {b : Nat} {p : Q.Pat} (h : PaT w b p) (n : Nat) : PaT (w.drewN n) b p := ⟨h.ok, h.blk⟩
theorem PaT.drew {w : World} {b : Nat} {p : Q.Pat} (h : PaT w b p) : PaT w.drew b p := ⟨h.ok, h.blk⟩
theorem PaT.other {w : World} {b : Nat} {p : Q.Pat} (h : PaT w b p) {a : Addr} (hne : a.block ≠ b) (v : Value) : PaT (w.setCell a v) b p := ⟨h.ok, h.blk.other hne v⟩
theorem PaT.setA {w : World} {b : Nat} {p q : Q.Pat} (h : PaT w b p) (i v : Nat) (hi : i < 49) (hq : Q.PatOk q) (e : q = { p with ahead := p.ahead.set i v }) : PaT (w.setCell ⟨b, 1 + i, none⟩ (.int .u64 (v : Int))) b q := by
  subst e
  refine ⟨hq, ?_⟩
  have := h.blk.set (1 + i) (.int .u64 (v : Int))
  have e2 : (patCells p).set (1 + i) (.int .u64 (v : Int)) = patCells { p with ahead := p.ahead.set i v } := by
    unfold patCells u64s
    rw [show 1 + i = i + 1 by omega, List.set_cons_succ, List.set_append_left i _ (by rw [List.length_map, h.ok.alen]; exact hi)]
    simp [List.map_set]
  rw [e2] at this
  exact this
theorem PaT.setT {w : World} {b : Nat} {p q : Q.Pat} (h : PaT w b p) (i v : Nat) (hi : i < 256) (hq : Q.PatOk q) (e : q = { p with takes := p.takes.set i v }) : PaT (w.setCell ⟨b, 50 + i, none⟩ (.int .u64 (v : Int))) b q := by
  subst e
  refine ⟨hq, ?_⟩
  have := h.blk.set (50 + i) (.int .u64 (v : Int))
  have e2 : (patCells p).set (50 + i) (.int .u64 (v : Int)) = patCells { p with takes := p.takes.set i v } := by
    unfold patCells u64s
    rw [show 50 + i = (49 + i) + 1 by omega, List.set_cons_succ, List.set_append_right (49 + i) _ (by rw [List.length_map, h.ok.alen]; omega), List.length_map, h.ok.alen, show 49 + i - 49 = i by omega, List.set_append_left i _ (by rw [List.length_map, h.ok.tlen]; exact hi)]
    simp [List.map_set]
  rw [e2] at this
  exact this
theorem PaT.setB {w : World} {b : Nat} {p q : Q.Pat} (h : PaT w b p) (v : Nat) (hq : Q.PatOk q) (e : q = { p with begins := v }) : PaT (w.setCell ⟨b, 306, none⟩ (.int .u64 (v : Int))) b q := by
  subst e
  refine ⟨hq, ?_⟩
  have := h.blk.set 306 (.int .u64 (v : Int))
  have e2 : (patCells p).set 306 (.int .u64 (v : Int)) = patCells { p with begins := v } := by
    unfold patCells u64s
    rw [show 306 = (49 + 256) + 1 by omega, List.set_cons_succ, List.set_append_right (49 + 256) _ (by rw [List.length_map, h.ok.alen]; omega), List.length_map, h.ok.alen, show 49 + 256 - 49 = 256 by omega, List.set_append_right 256 _ (by rw [List.length_map, h.ok.tlen]; omega), List.length_map, h.ok.tlen]
    rfl
  rw [e2] at this
  exact this
theorem PaT.setS {w : World} {b : Nat} {p q : Q.Pat} (h : PaT w b p) (v : Nat) (hq : Q.PatOk q) (e : q = { p with size := v }) : PaT (w.setCell ⟨b, 0, none⟩ (.int .i64 (v : Int))) b q := by
  subst e
  exact ⟨hq, h.blk.set 0 (.int .i64 (v : Int))⟩

theorem Q.linkTo_zero {p : Q.Pat} (h : Q.PatOk p) (f t : Nat) : Q.linkTo 0 f t p = p := by
  unfold Q.linkTo
  have : (Q.tab 49 fun i => if i < 0 ∧ t.testBit i = true then p.ahead.getD i 0 ||| f else p.ahead.getD i 0) = p.ahead := by
    rw [← Q.tab_eq 49 p.ahead h.alen]
    apply Q.tab_congr
    intro i hi
    rw [if_neg (by omega), Q.tab_eq 49 p.ahead h.alen]
  rw [this]
theorem Q.linkTo_skip {p : Q.Pat} (k f t : Nat) (hb : t.testBit k = false) : Q.linkTo (k + 1) f t p = Q.linkTo k f t p := by
  unfold Q.linkTo
  congr 1
  apply Q.tab_congr
  intro i hi
  by_cases h : i < k ∧ t.testBit i = true
  · rw [if_pos h, if_pos ⟨by omega, h.2⟩]
  · rw [if_neg h]
    split
    · next h2 =>
      have : i = k := by
        rcases Nat.lt_or_ge i k with h3 | h3
        · exact absurd ⟨h3, h2.2⟩ h
        · omega
      subst this
      rw [hb] at h2
      cases h2.2
    · rfl
theorem Q.linkTo_step {p : Q.Pat} (k f t : Nat) (hk : k < 49) (hb : t.testBit k = true) : Q.linkTo (k + 1) f t p = { Q.linkTo k f t p with ahead := (Q.linkTo k f t p).ahead.set k (p.ahead.getD k 0 ||| f) } := by
  unfold Q.linkTo
  simp only
  rw [Q.tab_set]
  congr 1
  apply Q.tab_congr
  intro i hi
  by_cases e : i = k
  · subst e
    rw [if_pos ⟨by omega, hb⟩, if_pos rfl]
  · rw [if_neg e]
    by_cases h : i < k ∧ t.testBit i = true
    · rw [if_pos h, if_pos ⟨by omega, h.2⟩]
    · rw [if_neg h, if_neg (by intro h2; exact h ⟨by omega, h2.2⟩)]
theorem Q.linkTo_at {p : Q.Pat} (k f t : Nat) (hk : k < 49) : (Q.linkTo k f t p).ahead.getD k 0 = p.ahead.getD k 0 := by
  unfold Q.linkTo
  simp only
  rw [Q.tab_at _ _ _ hk, if_neg (by omega)]

set_option maxRecDepth 10000 in
set_option maxHeartbeats 1600000 in
theorem link_any (b : Nat) (p : Q.Pat) (f t : Nat) (w : World) (hP : PaT w b p) (hf : f < 2 ^ p.size) (ht : t < 2 ^ 49) :
    Calls Try.prog 94 #[.pointer (some ⟨b, 0, none⟩), .int .u64 (f : Int), .int .u64 (t : Int)] w fun e w' => e = .returned (.tuple #[]) ∧ PaT w' b (Q.link f t p) ∧ Keep [b] w w' := by
  have hsz := hP.ok.size
  have HP0 : Hid (PaT w b (Q.linkTo 0 f t p)) := by show PaT _ _ _; rw [Q.linkTo_zero hP.ok]; exact hP
  have HOK : Hid (Q.PatOk p) := hP.ok
  have hf49 : f < 2 ^ 49 := Q.lt64 hP.ok hf
  clear hP
  go_enter Try.func94, Try.ntmps94
  go_wp2
  go_loopw [6] (fun i wr => ∃ k : Nat, k ≤ p.size ∧ i = .int .i64 k ∧ PaT wr b (Q.linkTo k f t p) ∧ Keep [b] w wr) (fun i _ => p.size - (intOf i).toNat)
  case atStart => exact ⟨0, by omega, rfl, HP0.out, Keep.refl _ _⟩
  case round =>
    obtain ⟨k, hk, rfl, hP, hK⟩ := hrel
    have c0 : wr.cell? ⟨b, 0, none⟩ = some (.int .i64 (p.size : Int)) := hP.c0
    by_cases hlt : k < p.size
    · have h2k : 2 ^ k < 2 ^ 49 := Nat.pow_lt_pow_right (by decide) (by omega)
      obtain ⟨B, hBe⟩ : ∃ B, B = 2 ^ k := ⟨_, rfl⟩
      obtain ⟨A, hAe⟩ : ∃ A, A = t &&& B := ⟨_, rfl⟩
      have HB : Hid (B = 2 ^ k) := hBe
      have hA : bits .and .u64 (t : Int) (B : Int) = (A : Int) := by rw [hAe]; exact and_u ht (by rw [hBe]; exact h2k)
      have hAB := and_bit' t k B A hBe hAe
      have h48 : k ≤ 48 := by omega
      clear hBe hAe h2k
      cases hb : t.testBit k with
      | false =>
        rw [hb] at hAB
        go_wp2_with (go_at_call 83; refine (bit_any k B _ h48 HB).mono ?_; rintro e w1 ⟨rfl, rfl⟩)
        go_roundw
        case rel => exact ⟨k + 1, by omega, by go_num, by rw [Q.linkTo_skip _ _ _ hb]; exact hP, hK⟩
        case measure => simp [intOf]; omega
      | true =>
        rw [hb] at hAB
        have hk49 : k < 49 := by omega
        have ca := hP.ca k hk49
        rw [Q.linkTo_at k f t hk49] at ca
        have fz := hP.fz
        have hx : p.ahead.getD k 0 < 2 ^ 49 := Q.lt64 HOK.out (HOK.out.a k)
        obtain ⟨O, hOe⟩ : ∃ O, O = p.ahead.getD k 0 ||| f := ⟨_, rfl⟩
        have hO : bits .or .u64 ((p.ahead.getD k 0 : Nat) : Int) (f : Int) = (O : Int) := by rw [hOe]; exact or_u hx hf49
        have HN : Hid (PaT (wr.setCell ⟨b, 1 + k, none⟩ (.int .u64 (O : Int))) b (Q.linkTo (k + 1) f t p)) := by
          refine hP.setA k O hk49 (Q.linkTo_ok _ _ _ HOK.out hf) ?_
          rw [Q.linkTo_step k f t hk49 hb, hOe]
        have HK : Hid (Keep [b] w wr) := hK
        have hks : (k : Int) < 49 := by omega
        generalize p.ahead.getD k 0 = X at *
        clear hOe hP hK
        go_wp2_with (go_at_call 83; refine (bit_any k B _ h48 HB).mono ?_; rintro e w1 ⟨rfl, rfl⟩)
        go_region
        all_goals go_wp2
        all_goals go_roundw
        all_goals first
          | (case rel => exact ⟨k + 1, by omega, by go_num, HN.out.drew, (HK.out.setCell (by simp) _).drew⟩)
          | (case measure => simp [intOf]; omega)
          | skip
    · have : k = p.size := by omega
      subst this
      go_wp2
      go_end0
      exact ⟨rfl, hP, hK⟩
end Go.Proofs.Ytjmkkkfloalliab
