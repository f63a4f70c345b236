import Derived.Test.YtjmkkkfloalliabKB
-- decimal
namespace Go.Proofs.Ytjmkkkfloalliab
set_option linter.unusedVariables false
open Go.RowKit

def DecD (n : Nat) : Prop := ∀ w : World, Calls Try.prog 28 #[.int .i64 (n : Int)] w fun e w' => ∃ r : ByteArray, e = .returned (.string r) ∧ Hid (L r = dec n) ∧ r.size ≤ 3 ∧ Below w.heap.size w w'

theorem dec_size (n : Nat) : (dec n).length ≤ 3 := by
  unfold dec
  split
  · simp
  · split <;> simp
theorem dec_step {n : Nat} (h : 10 ≤ n) (h2 : n ≤ 999) : dec n = dec (n / 10) ++ [UInt8.ofNat (48 + n % 10)] := by
  unfold dec
  rw [if_neg (by omega)]
  by_cases h3 : n < 100
  · rw [if_pos h3, if_pos (by omega)]; rfl
  · rw [if_neg h3, if_neg (by omega), if_pos (by omega)]; rfl

set_option maxRecDepth 100000 in
set_option maxHeartbeats 1600000 in
theorem decimal_step (n : Nat) (hn : n ≤ 999) (hr : 10 ≤ n → DecD (n / 10)) : DecD n := by
  intro w
  obtain ⟨r1, HR1, hzr, hcv⟩ : ∃ r1 : ByteArray, Hid (L r1 = [UInt8.ofNat (48 + n % 10)]) ∧ r1.size = 1 ∧ ∀ x : Int, x = ((48 + n % 10 : Nat) : Int) → Sem.run Try.prog (convert 75 9 (.slice (some ⟨w.heap.size, 0, none⟩) 1 1)) (w.alloc (.cells #[.int .u8 x] 5)) = .ok (.string r1) (w.alloc (.cells #[.int .u8 x] 5)) := by
    refine ⟨strOfNums [((48 + n % 10 : Nat) : Int)], rfl, rfl, ?_⟩
    rintro x rfl
    refine run_convert_bytes_arg (w.alloc (.cells #[.int .u8 ((48 + n % 10 : Nat) : Int)] 5)) 75 5 Try.underlying75 Try.underlying5 w.heap.size 0 1 1 [((48 + n % 10 : Nat) : Int)] rfl ?_ 9 Try.underlying9
    intro i hi
    rw [(Blk.new w #[.int .u8 ((48 + n % 10 : Nat) : Int)] 5).cell? (0 + i)]
    match i, hi with
    | 0, _ => rfl
  have HCV := hid hcv
  obtain ⟨m, hm⟩ : ∃ m, m = n / 10 := ⟨_, rfl⟩
  have HR : Hid (10 ≤ n → DecD m) := fun h => by rw [hm]; exact hr h
  have HD : Hid ((n : Int) / 10 = (m : Int)) := by show _ = _; omega
  have HDS : Hid (10 ≤ n → dec n = dec m ++ [UInt8.ofNat (48 + n % 10)]) := fun h => by rw [hm]; exact dec_step h hn
  have hx : (48 : Int) + (n : Int) % 10 = ((48 + n % 10 : Nat) : Int) := by omega
  have HX := hid hx
  clear hcv hr hm hx
  go_enter Try.func28, Try.ntmps28
  go_wp2_with fail
  rw [HCV.out _ HX.out]
  have hB1 : Below w.heap.size w (w.alloc (.cells #[.int .u8 ((48 : Int) + (n : Int) % 10)] 5)) := (Below.refl _ w).alloc (Nat.le_refl _) _
  generalize w.alloc (.cells #[.int .u8 ((48 : Int) + (n : Int) % 10)] 5) = w1 at *
  clear HCV
  rcases Nat.lt_or_ge n 10 with h10 | h10
  · have q1 : decide ((n : Int) < 10) = true := decide_eq_true (by omega)
    have HE : Hid (L r1 = dec n) := by
      show _ = _
      rw [HR1.out, Nat.mod_eq_of_lt h10]
      unfold dec
      rw [if_pos h10]
    go_wp2
    go_ret
    exact ⟨r1, rfl, HE, by omega, hB1⟩
  · have q1 : decide ((n : Int) < 10) = false := decide_eq_false (by omega)
    go_wp2_with fail
    rw [HD.out]
    refine (HR.out h10 _).mono ?_
    rintro e w2 ⟨r2, rfl, HR2, hz2, hB2⟩
    have HE : Hid (L (r2 ++ r1) = dec n) := by
      show _ = _
      rw [L_app, HR1.out, HR2.out, HDS.out h10]
    have hz3 : (r2 ++ r1).size ≤ 3 := by
      rw [← L_len, HE.out]
      exact dec_size n
    go_wp2
    go_ret
    exact ⟨_, rfl, HE, hz3, hB1.trans (hB2.mono hB1.size)⟩
theorem decimal_any (n : Nat) (hn : n ≤ 999) : DecD n := by
  have h1 : ∀ n, n < 10 → DecD n := fun n h => decimal_step n (by omega) (fun g => by omega)
  have h2 : ∀ n, n < 100 → DecD n := fun n h => decimal_step n (by omega) (fun g => h1 _ (by omega))
  exact decimal_step n hn (fun g => h2 _ (by omega))
end Go.Proofs.Ytjmkkkfloalliab
