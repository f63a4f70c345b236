import Derived.Test.YtjmkkkfloalliabFG
import Derived.Test.YtjmkkkfloalliabGH
import Derived.Test.YtjmkkkfloalliabW2
-- union, within
namespace Go.Proofs.Ytjmkkkfloalliab
set_option linter.unusedVariables false
open Go.RowKit

theorem sli_own {w : World} {B : Nat} {v : Value} {l : List Nat} (h : w.ownsRow B 3 1 v l.length (ints (natI l))) : SlI w v l := by
  by_cases hn : v = .slice none 0 0
  · subst hn
    have : l.length = 0 := by
      obtain ⟨_, ⟨_, e⟩ | ⟨g, cap, cur, e, _⟩⟩ := h
      · omega
      · cases e
    obtain rfl := List.length_eq_zero_iff.1 this
    exact SlI.nil w
  · obtain ⟨g, cap, rfl, hg, hrow⟩ := own_open h hn
    cases l with
    | nil => exact .inl ⟨rfl, _, _, rfl⟩
    | cons x y =>
      refine .inr ⟨by simp, g, cap, rfl, hrow.lt, fun i hi => ?_⟩
      have hrow2 : IRow w g cap (natI (x :: y)) := by
        unfold IRow
        rw [natI_len]
        exact hrow
      rw [hrow2.cell i (by rw [natI_len]; exact hi), natI_at]
theorem own_drewN {w : World} {base : Nat} {e : TypeId} {size : Nat} {v : Value} {n : Nat} {xs : List Value} (h : w.ownsRow base e size v n xs) (k : Nat) : (w.drewN k).ownsRow base e size v n xs := h
theorem cell_new (w : World) (n : Nat) (x : Value) (T : TypeId) : ((w.drewN n).alloc (.cells #[x] T)).cell? ⟨w.heap.size, 0, none⟩ = some x := by
  have h : ∀ w' : World, (w'.alloc (.cells #[x] T)).cell? ⟨w'.heap.size, 0, none⟩ = some x := fun w' => by simp
  exact h (w.drewN n)
theorem sli_cells {w : World} {g n m : Nat} {l : List Nat} (h : SlI w (.slice (some ⟨g, 0, none⟩) n m) l) (i : Nat) (hi : i < l.length) : g < w.heap.size ∧ w.cell? ⟨g, i, none⟩ = some (.int .i64 ((l.getD i 0 : Nat) : Int)) := by
  rcases h with ⟨rfl, _⟩ | ⟨_, b, cap, e, hb, hc⟩
  · simp at hi
  · cases e
    exact ⟨hb, hc i hi⟩

set_option maxRecDepth 100000 in
set_option maxHeartbeats 3200000 in
theorem union_any (w : World) (ga gb : Nat) (a b H : List Nat) (hA : SlI w (.slice (some ⟨ga, 0, none⟩) a.length a.length) a) (hB : SlI w (.slice (some ⟨gb, 0, none⟩) b.length b.length) b) (la : a.length ≤ 1000) (lb : b.length ≤ 1000) (ra : a.Pairwise (· < ·)) (rb : b.Pairwise (· < ·)) (rH : H.Pairwise (· < ·)) (hH : ∀ x, x ∈ H ↔ (x ∈ a ∨ x ∈ b)) (ba : ∀ i, i < a.length → a.getD i 0 ≤ 1000) (bb : ∀ i, i < b.length → b.getD i 0 ≤ 1000) :
    Calls Try.prog 36 #[.slice (some ⟨ga, 0, none⟩) a.length a.length, .slice (some ⟨gb, 0, none⟩) b.length b.length] w fun e w' => ∃ v, e = .returned v ∧ SlI w' v H ∧ Below w.heap.size w w' := by
  have HA : Hid (∀ i, i < a.length → ga < w.heap.size ∧ w.cell? ⟨ga, i, none⟩ = some (.int .i64 ((a.getD i 0 : Nat) : Int))) := fun i hi => sli_cells hA i hi
  have HB : Hid (∀ i, i < b.length → gb < w.heap.size ∧ w.cell? ⟨gb, i, none⟩ = some (.int .i64 ((b.getD i 0 : Nat) : Int))) := fun i hi => sli_cells hB i hi
  have RA : Hid (Q.Rise a) := Q.rise_of ra
  have RB : Hid (Q.Rise b) := Q.rise_of rb
  have HDN : Hid (∀ l, Q.Mg a b a.length b.length l → l = H) := fun l h => h.done rH hH
  have BA := hid ba
  have BB := hid bb
  clear hA hB ra rb rH hH ba bb
  obtain ⟨i0, hi, hz0, hz1, hz2⟩ := info_int
  go_enter Try.func36, Try.ntmps36
  go_wp2_with fail
  go_loopw [5, 6, 7] (fun v i j wr => ∃ (k m : Nat) (l : List Nat), i = .int .i64 k ∧ j = .int .i64 m ∧ k ≤ a.length ∧ m ≤ b.length ∧ Q.Mg a b k m l ∧ wr.ownsRow w.heap.size 3 1 v l.length (ints (natI l)) ∧ Below w.heap.size w wr) (fun _ i j _ => (a.length - (intOf i).toNat) + (b.length - (intOf j).toNat))
  case atStart => exact ⟨0, 0, [], rfl, rfl, by omega, by omega, Q.Mg.zero, World.ownsRow_nil _ _ _ _, Below.refl _ _⟩
  case round =>
    obtain ⟨k, m, l, rfl, rfl, hk, hm, hM, hown, hB⟩ := hrel
    have hll := hM.len
    have HM := hid hM
    clear hM
    have k0 : (0 : Int) ≤ (k : Int) := by omega
    have m0 : (0 : Int) ≤ (m : Int) := by omega
    rcases Nat.lt_or_ge k a.length with hk1 | hk1
    · obtain ⟨hga, hca⟩ := HA.out k hk1
      have ca : wr.cell? ⟨ga, k, none⟩ = some (.int .i64 ((a.getD k 0 : Nat) : Int)) := (hB.cell hga).trans hca
      have k1 : (k : Int) < (a.length : Int) := by omega
      have bx := BA.out k hk1
      clear hca
      rcases Nat.lt_or_ge m b.length with hm1 | hm1
      · obtain ⟨hgb, hcb⟩ := HB.out m hm1
        have cb : wr.cell? ⟨gb, m, none⟩ = some (.int .i64 ((b.getD m 0 : Nat) : Int)) := (hB.cell hgb).trans hcb
        have m1 : (m : Int) < (b.length : Int) := by omega
        have by_ := BB.out m hm1
        have q1 : ((m : Int) == (b.length : Int)) = false := by simp; omega
        have q1' : decide ((m : Int) = (b.length : Int)) = false := decide_eq_false (by omega)
        clear hcb
        rcases Nat.lt_trichotomy (a.getD k 0) (b.getD m 0) with hc | hc | hc
        · have HST := hid (HM.out.stepA RA.out RB.out hk1 (.inr hc))
          have q2 : decide (((a.getD k 0 : Nat) : Int) < ((b.getD m 0 : Nat) : Int)) = true := decide_eq_true (by omega)
          clear HM hc
          obtain ⟨xi, hxi⟩ : ∃ z : Int, z = ((a.getD k 0 : Nat) : Int) := ⟨_, rfl⟩
          (try rw [← hxi] at ca)
          (try rw [← hxi] at cb)
          (try rw [← hxi] at q2)
          (try rw [← hxi] at q3)
          have HXI := hid hxi
          clear hxi
          generalize a.getD k 0 = x at *
          obtain ⟨yi, hyi⟩ : ∃ z : Int, z = ((b.getD m 0 : Nat) : Int) := ⟨_, rfl⟩
          (try rw [← hyi] at ca)
          (try rw [← hyi] at cb)
          (try rw [← hyi] at q2)
          (try rw [← hyi] at q3)
          have HYI := hid hyi
          clear hyi
          generalize b.getD m 0 = y at *
          go_wp2_with fail
          go_quiet (fail)
          go_wp2_with ((at_builtin; refine wpList_append_own _ rfl _ _ 40 rfl w.heap.size 3 i0 (.int .i64 0) 1 8 Try.underlying40 hi hz0 hz1 hz2 rfl (by decide) _ _ _ rfl ((own_drewN hown _).alloc _) ⟨wr.heap.size, 0, none⟩ 1 1 [.int .i64 xi] rfl rfl ?c1 ?c2 ?c3 ?c4 ?c5 ?_))
          case c1 =>
            intro j u hj
            match j, hj with
            | 0, hj => simp at hj; subst hj; simp [Addr.add]; exact cell_new _ _ _ _
          case c2 => intro u hu; simp at hu; subst hu; rfl
          case c3 => unfold maxLen; omega
          case c4 => omega
          case c5 => have := hB.size; simp; omega
          · intro v' w1 hown' hgrow hnil
            have hb1 : Below w.heap.size w w1 := below_grown ((below_drewN hB _).alloc hB.size _) hgrow (by have := hB.size; simp; omega) ((own_drewN hown _).alloc _) (Nat.le_refl _)
            have hown2 : w1.ownsRow w.heap.size 3 1 v' (l ++ [x]).length (ints (natI (l ++ [x]))) := by
              rw [List.length_append]
              have e2 : ints (natI (l ++ [x])) = ints (natI l) ++ [.int .i64 xi] := by rw [HXI.out]; simp [ints, natI]
              rw [e2]
              exact hown'
            clear hnil hown' hgrow hB hown
            go_wp2
            go_roundw
            case rel => exact ⟨k + 1, m, l ++ [x], by go_num, by go_num, by omega, by omega, HST.out, hown2, hb1⟩
            case measure => simp [intOf]; omega
        · have HST := hid (HM.out.stepC RA.out RB.out hk1 hm1 hc)
          have q2 : decide (((a.getD k 0 : Nat) : Int) < ((b.getD m 0 : Nat) : Int)) = false := decide_eq_false (by omega)
          have q3 : decide (((b.getD m 0 : Nat) : Int) < ((a.getD k 0 : Nat) : Int)) = false := decide_eq_false (by omega)
          have q4 : ((k : Int) == (a.length : Int)) = false := by simp; omega
          have q4' : decide ((k : Int) = (a.length : Int)) = false := decide_eq_false (by omega)
          clear HM hc
          obtain ⟨xi, hxi⟩ : ∃ z : Int, z = ((a.getD k 0 : Nat) : Int) := ⟨_, rfl⟩
          (try rw [← hxi] at ca)
          (try rw [← hxi] at cb)
          (try rw [← hxi] at q2)
          (try rw [← hxi] at q3)
          have HXI := hid hxi
          clear hxi
          generalize a.getD k 0 = x at *
          obtain ⟨yi, hyi⟩ : ∃ z : Int, z = ((b.getD m 0 : Nat) : Int) := ⟨_, rfl⟩
          (try rw [← hyi] at ca)
          (try rw [← hyi] at cb)
          (try rw [← hyi] at q2)
          (try rw [← hyi] at q3)
          have HYI := hid hyi
          clear hyi
          generalize b.getD m 0 = y at *
          go_wp2_with fail
          go_quiet (fail)
          go_wp2_with fail
          go_quiet (fail)
          go_wp2_with ((at_builtin; refine wpList_append_own _ rfl _ _ 40 rfl w.heap.size 3 i0 (.int .i64 0) 1 8 Try.underlying40 hi hz0 hz1 hz2 rfl (by decide) _ _ _ rfl ((own_drewN hown _).alloc _) ⟨wr.heap.size, 0, none⟩ 1 1 [.int .i64 xi] rfl rfl ?c1 ?c2 ?c3 ?c4 ?c5 ?_))
          case c1 =>
            intro j u hj
            match j, hj with
            | 0, hj => simp at hj; subst hj; simp [Addr.add]; exact cell_new _ _ _ _
          case c2 => intro u hu; simp at hu; subst hu; rfl
          case c3 => unfold maxLen; omega
          case c4 => omega
          case c5 => have := hB.size; simp; omega
          · intro v' w1 hown' hgrow hnil
            have hb1 : Below w.heap.size w w1 := below_grown ((below_drewN hB _).alloc hB.size _) hgrow (by have := hB.size; simp; omega) ((own_drewN hown _).alloc _) (Nat.le_refl _)
            have hown2 : w1.ownsRow w.heap.size 3 1 v' (l ++ [x]).length (ints (natI (l ++ [x]))) := by
              rw [List.length_append]
              have e2 : ints (natI (l ++ [x])) = ints (natI l) ++ [.int .i64 xi] := by rw [HXI.out]; simp [ints, natI]
              rw [e2]
              exact hown'
            clear hnil hown' hgrow hB hown
            go_wp2
            go_roundw
            case rel => exact ⟨k + 1, m + 1, l ++ [x], by go_num, by go_num, by omega, by omega, HST.out, hown2, hb1⟩
            case measure => simp [intOf]; omega
        · have HST := hid (HM.out.stepB RA.out RB.out hm1 (.inr hc))
          have q2 : decide (((a.getD k 0 : Nat) : Int) < ((b.getD m 0 : Nat) : Int)) = false := decide_eq_false (by omega)
          have q3 : decide (((b.getD m 0 : Nat) : Int) < ((a.getD k 0 : Nat) : Int)) = true := decide_eq_true (by omega)
          have q4 : ((k : Int) == (a.length : Int)) = false := by simp; omega
          have q4' : decide ((k : Int) = (a.length : Int)) = false := decide_eq_false (by omega)
          clear HM hc
          obtain ⟨yi, hyi⟩ : ∃ z : Int, z = ((a.getD k 0 : Nat) : Int) := ⟨_, rfl⟩
          (try rw [← hyi] at ca)
          (try rw [← hyi] at cb)
          (try rw [← hyi] at q2)
          (try rw [← hyi] at q3)
          have HYI := hid hyi
          clear hyi
          generalize a.getD k 0 = y at *
          obtain ⟨xi, hxi⟩ : ∃ z : Int, z = ((b.getD m 0 : Nat) : Int) := ⟨_, rfl⟩
          (try rw [← hxi] at ca)
          (try rw [← hxi] at cb)
          (try rw [← hxi] at q2)
          (try rw [← hxi] at q3)
          have HXI := hid hxi
          clear hxi
          generalize b.getD m 0 = x at *
          go_wp2_with fail
          go_quiet (fail)
          go_wp2_with fail
          go_quiet (fail)
          go_wp2_with ((at_builtin; refine wpList_append_own _ rfl _ _ 40 rfl w.heap.size 3 i0 (.int .i64 0) 1 8 Try.underlying40 hi hz0 hz1 hz2 rfl (by decide) _ _ _ rfl ((own_drewN hown _).alloc _) ⟨wr.heap.size, 0, none⟩ 1 1 [.int .i64 xi] rfl rfl ?c1 ?c2 ?c3 ?c4 ?c5 ?_))
          case c1 =>
            intro j u hj
            match j, hj with
            | 0, hj => simp at hj; subst hj; simp [Addr.add]; exact cell_new _ _ _ _
          case c2 => intro u hu; simp at hu; subst hu; rfl
          case c3 => unfold maxLen; omega
          case c4 => omega
          case c5 => have := hB.size; simp; omega
          · intro v' w1 hown' hgrow hnil
            have hb1 : Below w.heap.size w w1 := below_grown ((below_drewN hB _).alloc hB.size _) hgrow (by have := hB.size; simp; omega) ((own_drewN hown _).alloc _) (Nat.le_refl _)
            have hown2 : w1.ownsRow w.heap.size 3 1 v' (l ++ [x]).length (ints (natI (l ++ [x]))) := by
              rw [List.length_append]
              have e2 : ints (natI (l ++ [x])) = ints (natI l) ++ [.int .i64 xi] := by rw [HXI.out]; simp [ints, natI]
              rw [e2]
              exact hown'
            clear hnil hown' hgrow hB hown
            go_wp2
            go_roundw
            case rel => exact ⟨k, m + 1, l ++ [x], by go_num, by go_num, by omega, by omega, HST.out, hown2, hb1⟩
            case measure => simp [intOf]; omega
      · obtain rfl : m = b.length := by omega
        have HST := hid (HM.out.stepA RA.out RB.out hk1 (.inl rfl))
        have q1 : ((b.length : Int) == (b.length : Int)) = true := by simp
        have q1' : decide ((b.length : Int) = (b.length : Int)) = true := by simp
        clear HM
        obtain ⟨xi, hxi⟩ : ∃ z : Int, z = ((a.getD k 0 : Nat) : Int) := ⟨_, rfl⟩
        (try rw [← hxi] at ca)
        (try rw [← hxi] at cb)
        (try rw [← hxi] at q2)
        (try rw [← hxi] at q3)
        have HXI := hid hxi
        clear hxi
        generalize a.getD k 0 = x at *
        go_wp2_with fail
        go_quiet (fail)
        go_wp2_with ((at_builtin; refine wpList_append_own _ rfl _ _ 40 rfl w.heap.size 3 i0 (.int .i64 0) 1 8 Try.underlying40 hi hz0 hz1 hz2 rfl (by decide) _ _ _ rfl ((own_drewN hown _).alloc _) ⟨wr.heap.size, 0, none⟩ 1 1 [.int .i64 xi] rfl rfl ?c1 ?c2 ?c3 ?c4 ?c5 ?_))
        case c1 =>
          intro j u hj
          match j, hj with
          | 0, hj => simp at hj; subst hj; simp [Addr.add]; exact cell_new _ _ _ _
        case c2 => intro u hu; simp at hu; subst hu; rfl
        case c3 => unfold maxLen; omega
        case c4 => omega
        case c5 => have := hB.size; simp; omega
        · intro v' w1 hown' hgrow hnil
          have hb1 : Below w.heap.size w w1 := below_grown ((below_drewN hB _).alloc hB.size _) hgrow (by have := hB.size; simp; omega) ((own_drewN hown _).alloc _) (Nat.le_refl _)
          have hown2 : w1.ownsRow w.heap.size 3 1 v' (l ++ [x]).length (ints (natI (l ++ [x]))) := by
            rw [List.length_append]
            have e2 : ints (natI (l ++ [x])) = ints (natI l) ++ [.int .i64 xi] := by rw [HXI.out]; simp [ints, natI]
            rw [e2]
            exact hown'
          clear hnil hown' hgrow hB hown
          go_wp2
          go_roundw
          case rel => exact ⟨k + 1, b.length, l ++ [x], by go_num, by go_num, by omega, by omega, HST.out, hown2, hb1⟩
          case measure => simp [intOf]; omega
    · obtain rfl : k = a.length := by omega
      rcases Nat.lt_or_ge m b.length with hm1 | hm1
      · obtain ⟨hgb, hcb⟩ := HB.out m hm1
        have cb : wr.cell? ⟨gb, m, none⟩ = some (.int .i64 ((b.getD m 0 : Nat) : Int)) := (hB.cell hgb).trans hcb
        have m1 : (m : Int) < (b.length : Int) := by omega
        have by_ := BB.out m hm1
        have HST := hid (HM.out.stepB RA.out RB.out hm1 (.inl rfl))
        have q1 : ((m : Int) == (b.length : Int)) = false := by simp; omega
        have q1' : decide ((m : Int) = (b.length : Int)) = false := decide_eq_false (by omega)
        have q2 : decide ((a.length : Int) < (a.length : Int)) = false := decide_eq_false (by omega)
        have q4 : ((a.length : Int) == (a.length : Int)) = true := by simp
        have q4' : decide ((a.length : Int) = (a.length : Int)) = true := by simp
        clear HM hcb
        obtain ⟨xi, hxi⟩ : ∃ z : Int, z = ((b.getD m 0 : Nat) : Int) := ⟨_, rfl⟩
        (try rw [← hxi] at ca)
        (try rw [← hxi] at cb)
        (try rw [← hxi] at q2)
        (try rw [← hxi] at q3)
        have HXI := hid hxi
        clear hxi
        generalize b.getD m 0 = x at *
        go_wp2_with fail
        go_quiet (fail)
        go_wp2_with fail
        go_quiet (fail)
        go_wp2_with ((at_builtin; refine wpList_append_own _ rfl _ _ 40 rfl w.heap.size 3 i0 (.int .i64 0) 1 8 Try.underlying40 hi hz0 hz1 hz2 rfl (by decide) _ _ _ rfl ((own_drewN hown _).alloc _) ⟨wr.heap.size, 0, none⟩ 1 1 [.int .i64 xi] rfl rfl ?c1 ?c2 ?c3 ?c4 ?c5 ?_))
        case c1 =>
          intro j u hj
          match j, hj with
          | 0, hj => simp at hj; subst hj; simp [Addr.add]; exact cell_new _ _ _ _
        case c2 => intro u hu; simp at hu; subst hu; rfl
        case c3 => unfold maxLen; omega
        case c4 => omega
        case c5 => have := hB.size; simp; omega
        · intro v' w1 hown' hgrow hnil
          have hb1 : Below w.heap.size w w1 := below_grown ((below_drewN hB _).alloc hB.size _) hgrow (by have := hB.size; simp; omega) ((own_drewN hown _).alloc _) (Nat.le_refl _)
          have hown2 : w1.ownsRow w.heap.size 3 1 v' (l ++ [x]).length (ints (natI (l ++ [x]))) := by
            rw [List.length_append]
            have e2 : ints (natI (l ++ [x])) = ints (natI l) ++ [.int .i64 xi] := by rw [HXI.out]; simp [ints, natI]
            rw [e2]
            exact hown'
          clear hnil hown' hgrow hB hown
          go_wp2
          go_roundw
          case rel => exact ⟨a.length, m + 1, l ++ [x], by go_num, by go_num, by omega, by omega, HST.out, hown2, hb1⟩
          case measure => simp [intOf]; omega
      · obtain rfl : m = b.length := by omega
        have hS := sli_own hown
        rw [HDN.out l HM.out] at hS
        go_wp2
        go_ret
        exact ⟨_, rfl, hS, hB⟩
end Go.Proofs.Ytjmkkkfloalliab
