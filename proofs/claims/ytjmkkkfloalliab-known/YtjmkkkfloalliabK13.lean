import Derived.Test.YtjmkkkfloalliabK05
import Derived.Test.YtjmkkkfloalliabK06
namespace Go.Proofs.Ytjmkkkfloalliab
set_option linter.unusedVariables false

abbrev Kn : Type := ByteArray × ByteArray × ByteArray × Nat × Nat
/-- text, pattern, where, fault, its place -/
def kn : List Kn := [
  (⟨#[]⟩, ⟨#[97, 42]⟩, ⟨#[]⟩, 0, 0),
  (⟨#[97, 98, 114, 97, 99, 97, 100, 97, 98, 114, 97]⟩, ⟨#[97, 98, 114, 97]⟩, ⟨#[48, 59, 55, 59]⟩, 0, 0),
  (⟨#[97, 98, 114, 97, 99, 97, 100, 97, 98, 114, 97]⟩, ⟨#[97]⟩, ⟨#[48, 59, 51, 59, 53, 59, 55, 59, 49, 48, 59]⟩, 0, 0),
  (⟨#[97, 98, 114, 97, 99, 97, 100, 97, 98, 114, 97]⟩, ⟨#[97, 46, 97]⟩, ⟨#[51, 59, 53, 59]⟩, 0, 0),
  (⟨#[97, 98, 114, 97, 99, 97, 100, 97, 98, 114, 97]⟩, ⟨#[40, 97, 98, 124, 114, 97, 41, 43]⟩, ⟨#[48, 59, 50, 59, 55, 59, 57, 59]⟩, 0, 0),
  (⟨#[97, 98, 114, 97, 99, 97, 100, 97, 98, 114, 97]⟩, ⟨#[91, 98, 45, 100, 93, 97]⟩, ⟨#[52, 59, 54, 59]⟩, 0, 0),
  (⟨#[97, 98, 114, 97, 99, 97, 100, 97, 98, 114, 97]⟩, ⟨#[91, 94, 97, 45, 99, 93, 97]⟩, ⟨#[50, 59, 54, 59, 57, 59]⟩, 0, 0),
  (⟨#[109, 105, 115, 115, 105, 115, 115, 105, 112, 112, 105]⟩, ⟨#[115, 123, 50, 125, 105]⟩, ⟨#[50, 59, 53, 59]⟩, 0, 0),
  (⟨#[109, 105, 115, 115, 105, 115, 115, 105, 112, 112, 105]⟩, ⟨#[40, 105, 115, 41, 123, 49, 44, 50, 125, 115]⟩, ⟨#[49, 59, 52, 59]⟩, 0, 0),
  (⟨#[109, 105, 115, 115, 105, 115, 115, 105, 112, 112, 105]⟩, ⟨#[105, 40, 115, 115, 124, 112, 112, 41, 105]⟩, ⟨#[49, 59, 52, 59, 55, 59]⟩, 0, 0),
  (⟨#[97, 97, 97, 97]⟩, ⟨#[97, 123, 51, 125]⟩, ⟨#[48, 59, 49, 59]⟩, 0, 0),
  (⟨#[97, 97, 97, 97]⟩, ⟨#[97, 123, 50, 44, 125]⟩, ⟨#[48, 59, 49, 59, 50, 59]⟩, 0, 0),
  (⟨#[97, 97, 97, 97]⟩, ⟨#[98, 42]⟩, ⟨#[]⟩, 0, 0),
  (⟨#[97, 97, 97, 97]⟩, ⟨#[]⟩, ⟨#[]⟩, 0, 0),
  (⟨#[97, 97, 97, 97]⟩, ⟨#[40, 41, 42]⟩, ⟨#[]⟩, 0, 0),
  (⟨#[97, 46, 98, 42]⟩, ⟨#[92, 46, 98]⟩, ⟨#[49, 59]⟩, 0, 0),
  (⟨#[97, 46, 98, 42]⟩, ⟨#[98, 92, 42]⟩, ⟨#[50, 59]⟩, 0, 0),
  (⟨#[97, 45, 98, 93]⟩, ⟨#[91, 92, 93, 92, 45, 93]⟩, ⟨#[49, 59, 51, 59]⟩, 0, 0),
  (⟨#[97, 98, 99]⟩, ⟨#[42]⟩, ⟨#[]⟩, 3, 1),
  (⟨#[97, 98, 99]⟩, ⟨#[97, 42, 42, 43, 63]⟩, ⟨#[48, 59]⟩, 0, 0),
  (⟨#[97, 98, 99]⟩, ⟨#[40, 97]⟩, ⟨#[]⟩, 3, 3),
  (⟨#[97, 98, 99]⟩, ⟨#[97, 41]⟩, ⟨#[]⟩, 3, 2),
  (⟨#[97, 98, 99]⟩, ⟨#[91, 93]⟩, ⟨#[]⟩, 3, 2),
  (⟨#[97, 98, 99]⟩, ⟨#[91, 97, 45]⟩, ⟨#[]⟩, 3, 4),
  (⟨#[97, 98, 99]⟩, ⟨#[91, 97, 45, 45, 93]⟩, ⟨#[]⟩, 3, 4),
  (⟨#[97, 98, 99]⟩, ⟨#[97, 123]⟩, ⟨#[]⟩, 3, 3),
  (⟨#[97, 98, 99]⟩, ⟨#[97, 123, 120]⟩, ⟨#[]⟩, 3, 3),
  (⟨#[97, 98, 99]⟩, ⟨#[97, 123, 49, 50, 51, 125]⟩, ⟨#[]⟩, 3, 5),
  (⟨#[97, 98, 99]⟩, ⟨#[97, 92]⟩, ⟨#[]⟩, 3, 3),
  (⟨#[97, 98, 99]⟩, ⟨#[91, 99, 45, 97, 93]⟩, ⟨#[]⟩, 4, 0),
  (⟨#[97, 98, 99]⟩, ⟨#[97, 123, 50, 44, 49, 125]⟩, ⟨#[]⟩, 4, 0),
  (⟨#[97, 98, 99]⟩, ⟨#[97, 123, 52, 57, 125]⟩, ⟨#[]⟩, 5, 0),
  (⟨#[97, 98, 99]⟩, ⟨#[97, 123, 52, 56, 125]⟩, ⟨#[]⟩, 0, 0),
  (⟨#[97, 98, 99]⟩, ⟨#[40, 40, 40, 40, 40, 40, 97, 41, 41, 41, 41, 41, 41]⟩, ⟨#[48, 59]⟩, 0, 0),
  (⟨#[97, 98, 99]⟩, ⟨#[40, 40, 40, 40, 40, 40, 40, 97, 41, 41, 41, 41, 41, 41, 41]⟩, ⟨#[]⟩, 5, 0)]
def kn0 : Kn := (⟨#[]⟩, ⟨#[]⟩, ⟨#[]⟩, 0, 0)
def knAt (b : Nat) : Kn := kn.getD b kn0
/-- a number below 1000, written -/
def dec (n : Nat) : List UInt8 :=
  if n < 10 then [UInt8.ofNat (48 + n)] else if n < 100 then [UInt8.ofNat (48 + n / 10), UInt8.ofNat (48 + n % 10)] else [UInt8.ofNat (48 + n / 10 / 10), UInt8.ofNat (48 + n / 10 % 10), UInt8.ofNat (48 + n % 10)]
def written : List Nat → List UInt8
  | [] => []
  | n :: l => dec n ++ 59 :: written l
theorem written_app : ∀ l m, written (l ++ m) = written l ++ written m
  | [], m => rfl
  | n :: l, m => by simp [written, written_app l m]
/-- fault, place, where -/
def ans (t pat : List UInt8) : Nat × Nat × List Nat :=
  match Q.parse pat with
  | .error e => (e.1, e.2, [])
  | .ok P => (0, 0, Q.hits t P)
def okAt (x : Kn) : Bool :=
  decide (x.1.data.toList.length ≤ 200) && decide (x.2.1.data.toList.length ≤ 200) && decide (x.2.2.1.data.toList.length ≤ 200) && decide (ans x.1.data.toList x.2.1.data.toList = (x.2.2.2.1, x.2.2.2.2, (ans x.1.data.toList x.2.1.data.toList).2.2)) && decide (written (ans x.1.data.toList x.2.1.data.toList).2.2 = x.2.2.1.data.toList) && decide ((ans x.1.data.toList x.2.1.data.toList).2.2.length ≤ 200) && (ans x.1.data.toList x.2.1.data.toList).2.2.all (fun n => decide (n ≤ 200))
theorem kn_all : kn.all okAt = true := by decide +kernel
end Go.Proofs.Ytjmkkkfloalliab

namespace Go.Proofs.Ytjmkkkfloalliab
set_option linter.unusedVariables false
open Go.RowKit

def cellsK (x : Kn) : List Value := [.string x.1, .string x.2.1, .string x.2.2.1, .int .i64 (x.2.2.2.1 : Int), .int .i64 (x.2.2.2.2 : Int)]
theorem flat_at : ∀ (l : List Kn) (b j : Nat), j < 5 → b < l.length → ((l.map cellsK).flatten)[b * 5 + j]? = (cellsK (l.getD b kn0))[j]?
  | [], b, j, _, hb => by simp at hb
  | x :: l, 0, j, hj, _ => by
    rw [List.map_cons, List.flatten_cons, List.getElem?_append_left (by show 0 * 5 + j < 5; omega)]
    simp
  | x :: l, b + 1, j, hj, hb => by
    rw [List.map_cons, List.flatten_cons, List.getElem?_append_right (by show 5 ≤ (b + 1) * 5 + j; omega), show (b + 1) * 5 + j - (cellsK x).length = b * 5 + j by show (b + 1) * 5 + j - 5 = b * 5 + j; omega]
    have := flat_at l b j hj (by simpa using hb)
    rw [this]
    simp

theorem wp_run {P : Program} {o : Oper} {a : Act} {w : World} {K : Act → World → Prop} {Q' : Exit → Act → World → Prop} (r : Result Next) (h : (execOp a.eval o).run P w = r) (g : o.upon P a K Q' r) : o.wp P a w K Q' := by
  unfold Oper.wp
  rw [h]
  exact g
set_option maxRecDepth 100000 in
set_option maxHeartbeats 3200000 in
theorem lot_any (w : World) :
    Calls Try.prog 27 #[] w fun e w' => ∃ g, e = .returned (.slice (some ⟨g, 0, none⟩) 35 35) ∧ w.heap.size ≤ g ∧ g < w'.heap.size ∧ (∀ b j, b < 35 → j < 5 → w'.cell? ⟨g, b * 5 + j, none⟩ = (cellsK (knAt b))[j]?) ∧ Below w.heap.size w w' := by
  go_enter Try.func27, Try.ntmps27
  go_wp2_with fail
  refine wp_run (.ok (.value (.slice (some ⟨w.heap.size, 0, none⟩) 35 35)) (w.alloc (.cells (kn.map cellsK).flatten.toArray 53))) ?_ ?_
  · kernel_rfl
  · generalize hW : w.alloc (.cells (kn.map cellsK).flatten.toArray 53) = W at *
    have HW := hid hW
    clear hW
    go_wp2
    go_ret
    refine ⟨w.heap.size, rfl, Nat.le_refl _, ?_, fun b j hb hj => ?_, ?_⟩
    · rw [← HW.out]; simp
    · rw [← HW.out]
      have h : (w.alloc (.cells (kn.map cellsK).flatten.toArray 53)).cell? ⟨w.heap.size, b * 5 + j, none⟩ = ((kn.map cellsK).flatten)[b * 5 + j]? := (BlkT.new w (kn.map cellsK).flatten.toArray 53).cell (b * 5 + j)
      rw [flat_at kn b j hj hb] at h
      exact h
    · rw [← HW.out]
      exact (Below.refl _ w).alloc (Nat.le_refl _) _
end Go.Proofs.Ytjmkkkfloalliab

namespace Go.Proofs.Ytjmkkkfloalliab
set_option linter.unusedVariables false
open Go.RowKit

def DecD (n : Nat) : Prop := ∀ w : World, Calls Try.prog 28 #[.int .i64 (n : Int)] w fun e w' => ∃ r : ByteArray, e = .returned (.string r) ∧ Hid (L r = dec n) ∧ r.size ≤ 3 ∧ Below w.heap.size w w'

theorem dec_size (n : Nat) : (dec n).length ≤ 3 := by
  unfold dec
  split
  · simp
  · split <;> simp
theorem dec_step {n : Nat} (h : 10 ≤ n) (h2 : n ≤ 999) : dec n = dec (n / 10) ++ [UInt8.ofNat (48 + n % 10)] := by
  unfold dec
  rw [if_neg (by omega)]
  by_cases h3 : n < 100
  · rw [if_pos h3, if_pos (by omega)]; rfl
  · rw [if_neg h3, if_neg (by omega), if_pos (by omega)]; rfl

set_option maxRecDepth 100000 in
set_option maxHeartbeats 1600000 in
theorem decimal_step (n : Nat) (hn : n ≤ 999) (hr : 10 ≤ n → DecD (n / 10)) : DecD n := by
  intro w
  obtain ⟨r1, HR1, hzr, hcv⟩ : ∃ r1 : ByteArray, Hid (L r1 = [UInt8.ofNat (48 + n % 10)]) ∧ r1.size = 1 ∧ ∀ x : Int, x = ((48 + n % 10 : Nat) : Int) → Sem.run Try.prog (convert 75 9 (.slice (some ⟨w.heap.size, 0, none⟩) 1 1)) (w.alloc (.cells #[.int .u8 x] 5)) = .ok (.string r1) (w.alloc (.cells #[.int .u8 x] 5)) := by
    refine ⟨strOfNums [((48 + n % 10 : Nat) : Int)], rfl, rfl, ?_⟩
    rintro x rfl
    refine run_convert_bytes_arg (w.alloc (.cells #[.int .u8 ((48 + n % 10 : Nat) : Int)] 5)) 75 5 Try.underlying75 Try.underlying5 w.heap.size 0 1 1 [((48 + n % 10 : Nat) : Int)] rfl ?_ 9 Try.underlying9
    intro i hi
    rw [(Blk.new w #[.int .u8 ((48 + n % 10 : Nat) : Int)] 5).cell? (0 + i)]
    match i, hi with
    | 0, _ => rfl
  have HCV := hid hcv
  obtain ⟨m, hm⟩ : ∃ m, m = n / 10 := ⟨_, rfl⟩
  have HR : Hid (10 ≤ n → DecD m) := fun h => by rw [hm]; exact hr h
  have HD : Hid ((n : Int) / 10 = (m : Int)) := by show _ = _; omega
  have HDS : Hid (10 ≤ n → dec n = dec m ++ [UInt8.ofNat (48 + n % 10)]) := fun h => by rw [hm]; exact dec_step h hn
  have hx : (48 : Int) + (n : Int) % 10 = ((48 + n % 10 : Nat) : Int) := by omega
  have HX := hid hx
  clear hcv hr hm hx
  go_enter Try.func28, Try.ntmps28
  go_wp2_with fail
  rw [HCV.out _ HX.out]
  have hB1 : Below w.heap.size w (w.alloc (.cells #[.int .u8 ((48 : Int) + (n : Int) % 10)] 5)) := (Below.refl _ w).alloc (Nat.le_refl _) _
  generalize w.alloc (.cells #[.int .u8 ((48 : Int) + (n : Int) % 10)] 5) = w1 at *
  clear HCV
  rcases Nat.lt_or_ge n 10 with h10 | h10
  · have q1 : decide ((n : Int) < 10) = true := decide_eq_true (by omega)
    have HE : Hid (L r1 = dec n) := by
      show _ = _
      rw [HR1.out, Nat.mod_eq_of_lt h10]
      unfold dec
      rw [if_pos h10]
    go_wp2
    go_ret
    exact ⟨r1, rfl, HE, by omega, hB1⟩
  · have q1 : decide ((n : Int) < 10) = false := decide_eq_false (by omega)
    go_wp2_with fail
    rw [HD.out]
    refine (HR.out h10 _).mono ?_
    rintro e w2 ⟨r2, rfl, HR2, hz2, hB2⟩
    have HE : Hid (L (r2 ++ r1) = dec n) := by
      show _ = _
      rw [L_app, HR1.out, HR2.out, HDS.out h10]
    have hz3 : (r2 ++ r1).size ≤ 3 := by
      rw [← L_len, HE.out]
      exact dec_size n
    go_wp2
    go_ret
    exact ⟨_, rfl, HE, hz3, hB1.trans (hB2.mono hB1.size)⟩
theorem decimal_any (n : Nat) (hn : n ≤ 999) : DecD n := by
  have h1 : ∀ n, n < 10 → DecD n := fun n h => decimal_step n (by omega) (fun g => by omega)
  have h2 : ∀ n, n < 100 → DecD n := fun n h => decimal_step n (by omega) (fun g => h1 _ (by omega))
  exact decimal_step n hn (fun g => h2 _ (by omega))
end Go.Proofs.Ytjmkkkfloalliab

namespace Go.Proofs.Ytjmkkkfloalliab
set_option linter.unusedVariables false
open Go.RowKit

theorem blk_keep {w w' : World} {B b : Nat} {T : TypeId} {vs : List Value} (h : BlkT w b T vs) (k : Below B w w') (hb : b < B) : BlkT w' b T vs := (k.block b hb).trans h
theorem kn_ok (b : Nat) (hb : b < 35) : okAt (knAt b) = true := by
  have h := List.all_eq_true.1 kn_all
  refine h _ ?_
  unfold knAt
  rw [List.getD_eq_getElem?_getD, List.getElem?_eq_getElem hb]
  exact List.getElem_mem hb
theorem search_ans {w : World} {b rate : Nat} {t : List UInt8} {a : ByteArray} (h : IdxOf w b rate t a) (pat : ByteArray) (hp : pat.size ≤ maxLen) (E At : Nat) (l : List Nat) (hA : ans t (L pat) = (E, At, l)) :
    Calls Try.prog 24 #[.pointer (some ⟨b, 0, none⟩), .string pat, .int .i64 524288, .bool true] w fun e w' => ∃ pp cap, e = .returned (.tuple #[.slice pp l.length cap, .agg #[.int .i64 (E : Int), .int .i64 (At : Int)]]) ∧ Hid (SlI w' (.slice pp l.length cap) l) ∧ Below w.heap.size w w' := by
  unfold ans at hA
  cases hP : Q.parse (L pat) with
  | error x =>
    obtain ⟨E', At'⟩ := x
    rw [hP] at hA
    cases hA
    refine (search_err h pat 524288 true hp _ _ hP (by decide)).mono ?_
    rintro e w' ⟨rfl, hB⟩
    exact ⟨none, 0, rfl, SlI.nil _, hB⟩
  | ok P =>
    rw [hP] at hA
    cases hA
    refine (search_ok h pat 524288 true hp P hP (Q.enough_le h.len) (by decide)).mono ?_
    rintro e w' ⟨g, rfl, _, hS, hB⟩
    exact ⟨_, _, rfl, hS, hB⟩
theorem sli_reads {w : World} {pp : Option Addr} {cap : Nat} {l : List Nat} (h : SlI w (.slice pp l.length cap) l) (i : Nat) (hi : i < l.length) : ∃ g, pp = some ⟨g, 0, none⟩ ∧ g < w.heap.size ∧ w.cell? ⟨g, i, none⟩ = some (.int .i64 ((l.getD i 0 : Nat) : Int)) := by
  rcases h with ⟨rfl, _⟩ | ⟨_, b, cap', e, hb, hc⟩
  · simp at hi
  · cases e
    exact ⟨b, rfl, hb, hc i hi⟩
theorem written_take (l : List Nat) (k : Nat) (hk : k < l.length) : written (l.take (k + 1)) = written (l.take k) ++ (dec (l.getD k 0) ++ [59]) := by
  rw [List.take_succ_eq_append_getElem hk, written_app, List.getD_eq_getElem?_getD, List.getElem?_eq_getElem hk]
  rfl

set_option maxRecDepth 100000 in
set_option maxHeartbeats 1600000 in
theorem gold_any (A : Int) (w : World) (r0 : -9223372036854775808 ≤ A) (r1 : A ≤ 9223372036854775807) :
    Calls Try.prog 16 #[.int .i64 A] w fun e w' => e = .returned (.bool true) ∧ Below w.heap.size w w' := by
  have HLOT := hid (lot_any w)
  go_enter Try.func16, Try.ntmps16
  go_wp2_with fail
  refine HLOT.out.mono ?_
  rintro e w1 ⟨g, rfl, hg, hg1, hcs, hB1⟩
  have HCS := hid hcs
  clear hcs HLOT
  go_wp2_with fail
  refine (pick_any A 35 _ r0 r1 (by omega) (by omega)).mono ?_
  rintro e w2 ⟨⟨b, rfl, hb⟩, hw2⟩
  obtain rfl : w1 = w2 := hw2.symm
  have hb35 : b < 35 := by omega
  have hok := kn_ok b hb35
  have c0 := HCS.out b 0 hb35 (by decide)
  have c1 := HCS.out b 1 hb35 (by decide)
  have c2 := HCS.out b 2 hb35 (by decide)
  have c3 := HCS.out b 3 hb35 (by decide)
  have c4 := HCS.out b 4 hb35 (by decide)
  generalize knAt b = x at *
  obtain ⟨t, p, wn, E, At⟩ := x
  simp only [cellsK, List.getElem?_cons_zero, List.getElem?_cons_succ, Nat.add_zero] at c0 c1 c2 c3 c4
  have i0 : (0 : Int) ≤ (b : Int) := by omega
  have i1 : (b : Int) < 35 := by omega
  have HOK := hid hok
  clear hok HCS
  go_upto_region 3 with fail
  have hX : BlkT (w1.alloc (.cells #[.string t, .string p, .string wn, .int .i64 (E : Int), .int .i64 (At : Int)] 53)) w1.heap.size 53 [.string t, .string p, .string wn, .int .i64 (E : Int), .int .i64 (At : Int)] := BlkT.new w1 _ _
  have hBa : Below w.heap.size w (w1.alloc (.cells #[.string t, .string p, .string wn, .int .i64 (E : Int), .int .i64 (At : Int)] 53)) := hB1.alloc hB1.size _
  generalize w1.heap.size = bk at *
  generalize w1.alloc (.cells #[.string t, .string p, .string wn, .int .i64 (E : Int), .int .i64 (At : Int)] 53) = w2 at *
  clear c0 c1 c2 c3 c4 hB1
  obtain ⟨l, ht, hp, hAns, hWr, hll, hsm⟩ : ∃ l, t.size ≤ 200 ∧ p.size ≤ 200 ∧ ans (L t) (L p) = (E, At, l) ∧ written l = L wn ∧ l.length ≤ 200 ∧ ∀ i, i < l.length → l.getD i 0 ≤ 200 := by
    have h := HOK.out
    unfold okAt at h
    simp only [Bool.and_eq_true, decide_eq_true_eq] at h
    obtain ⟨⟨⟨⟨⟨⟨h1, h2⟩, h3⟩, h4⟩, h5⟩, h6⟩, h7⟩ := h
    refine ⟨_, by rw [← size_len]; exact h1, by rw [← size_len]; exact h2, h4, h5, h6, fun i hi => ?_⟩
    have := List.all_eq_true.1 h7 _ (Q.mem_getD.2 ⟨i, hi, rfl⟩)
    exact of_decide_eq_true this
  have HAns := hid hAns
  have HWr := hid hWr
  have HSM := hid hsm
  clear HOK hAns hWr hsm
  have k0 := hX.cell 0
  simp only [List.getElem?_cons_zero] at k0
  go_wp2_with fail
  refine (build_of t 3 _ ht (by decide) (by decide)).mono ?_
  rintro e w3 ⟨by_, ay, rfl, _, hY3, hB3⟩
  have hX3 := blk_keep hX hB3 (BlkT.lt hX)
  have hBB3 := hBa.trans (hB3.mono hBa.size)
  have HY3 := hid hY3
  have k1 := hX3.cell 1
  simp only [List.getElem?_cons_zero, List.getElem?_cons_succ] at k1
  have hpm : p.size ≤ maxLen := by unfold maxLen; omega
  clear k0 hX hBa hB3 hY3
  go_wp2_with fail
  refine (search_ans HY3.out p hpm E At l HAns.out).mono ?_
  rintro e w4 ⟨pp, cap, rfl, HS4, hB4⟩
  have hX4 := blk_keep hX3 hB4 (BlkT.lt hX3)
  have hBB4 := hBB3.trans (hB4.mono hBB3.size)
  clear k1 hX3 hB4 hBB3 HY3 HAns
  go_upto_region 7 with fail
  have hF5 : BlkT (w4.alloc (.cells #[.int .i64 (E : Int), .int .i64 (At : Int)] 45)) w4.heap.size 45 [.int .i64 (E : Int), .int .i64 (At : Int)] := BlkT.new w4 _ _
  have hBa5 : Below w4.heap.size w4 (w4.alloc (.cells #[.int .i64 (E : Int), .int .i64 (At : Int)] 45)) := (Below.refl _ w4).alloc (Nat.le_refl _) _
  have hX5 := blk_keep hX4 hBa5 (BlkT.lt hX4)
  have HS5 := hid (SlI.below HS4.out hBa5 (Nat.le_refl _))
  have hBB5 := hBB4.trans (hBa5.mono hBB4.size)
  generalize w4.heap.size = bf at *
  generalize w4.alloc (.cells #[.int .i64 (E : Int), .int .i64 (At : Int)] 45) = w5 at *
  have HX5 := hid hX5
  have HF5 := hid hF5
  have HBB5 := hid hBB5
  clear hX4 HS4 hBa5 hBB4 hX5 hF5 hBB5
  go_wp2_with fail
  go_loopw [9, 10] (fun v i wr => ∃ (k : Nat) (o : ByteArray), k ≤ l.length ∧ i = .int .i64 k ∧ v = .string o ∧ Hid (L o = written (l.take k)) ∧ o.size ≤ 4 * k ∧ Below w5.heap.size w5 wr) (fun _ i _ => l.length - (intOf i).toNat)
  case atStart => exact ⟨0, ⟨#[]⟩, by omega, rfl, rfl, rfl, by decide, Below.refl _ _⟩
  case round =>
    obtain ⟨k, o, hk, rfl, rfl, HO, ho, hB⟩ := hrel
    rcases Nat.lt_or_ge k l.length with hlt | hge
    · obtain ⟨gr, rfl, hgr, hcr⟩ := sli_reads HS5.out k hlt
      have c1 : wr.cell? ⟨gr, k, none⟩ = some (.int .i64 ((l.getD k 0 : Nat) : Int)) := (hB.cell hgr).trans hcr
      have hx := HSM.out k hlt
      have HST := hid (written_take l k hlt)
      have j0 : (0 : Int) ≤ (k : Int) := by omega
      have j1 : (k : Int) < (l.length : Int) := by omega
      clear hcr
      generalize l.getD k 0 = x at *
      go_wp2_with fail
      refine (decimal_any x (by omega) _).mono ?_
      rintro e w6 ⟨r, rfl, HR, hzr, hB6⟩
      have HO2 : Hid (L (o ++ r ++ ⟨#[59]⟩) = written (l.take (k + 1))) := by
        show _ = _
        rw [L_app, L_app, HO.out, HR.out, HST.out, List.append_assoc]
      have hz2 : (o ++ r ++ ⟨#[59]⟩).size ≤ 4 * (k + 1) := by
        rw [ByteArray.size_append, ByteArray.size_append]
        show o.size + r.size + 1 ≤ _
        omega
      have hBB6 : Below w5.heap.size w5 w6 := hB.trans (hB6.mono hB.size)
      clear HO HR HST hB6 hB c1
      go_wp2
      go_roundw
      case rel => exact ⟨k + 1, _, by omega, by go_num, rfl, HO2, hz2, hBB6⟩
      case measure => simp [intOf]; omega
    · obtain rfl : k = l.length := by omega
      have hX6 := blk_keep HX5.out hB (BlkT.lt HX5.out)
      have hF6 := blk_keep HF5.out hB (BlkT.lt HF5.out)
      have x2 := hX6.cell 2; have x3 := hX6.cell 3; have x4 := hX6.cell 4
      have f0 := hF6.cell 0; have f1 := hF6.cell 1
      simp only [List.getElem?_cons_zero, List.getElem?_cons_succ] at x2 x3 x4 f0 f1
      have q2 : (o.toList == wn.toList) = true := by
        rw [Lib.toList_data, Lib.toList_data, beq_iff_eq]
        show L o = L wn
        rw [HO.out, ← HWr.out, List.take_of_length_le (Nat.le_refl _)]
      go_wp2
      go_ret
      exact ⟨rfl, HBB5.out.trans (hB.mono HBB5.out.size)⟩

set_option maxRecDepth 100000 in
set_option maxHeartbeats 400000 in
theorem walk_Known (a0 : ByteArray) (a1 : Int) (a2 : ByteArray) (a3 : ByteArray) (a4 : Int) (a5 : Int) (w0 : a0.size ≤ maxLen) (w1 : (Lit.int .i64 a1).wf = true) (w2 : a2.size ≤ maxLen) (w3 : a3.size ≤ maxLen) (w4 : (Lit.int .i64 a4).wf = true) (_ : (Lit.int .i64 a5).wf = true) (w : World) :
    Calls Try.prog 8 #[.string a0, .int .i64 a1, .string a2, .string a3, .int .i64 a4, .int .i64 a5] w fun e w' => e = .returned (.bool true) ∧ Below w.heap.size w w' := by
  obtain ⟨b1, b2⟩ := wf_bounds w4
  go_enter Try.func8, Try.ntmps8
  go_wp2_with fail
  refine (gold_any a4 _ b1 b2).mono ?_
  rintro e w5 ⟨rfl, hB2⟩
  go_wp2
  go_ret
  exact ⟨rfl, hB2⟩
end Go.Proofs.Ytjmkkkfloalliab

