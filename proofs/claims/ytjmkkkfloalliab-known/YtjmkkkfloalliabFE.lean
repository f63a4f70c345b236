import Derived.Test.YtjmkkkfloalliabS3
-- lists of places: same, rises
namespace Go.Proofs.Ytjmkkkfloalliab
set_option linter.unusedVariables false
open Go.RowKit

/-- a slice that holds the numbers l -/
def SlI (w : World) (v : Value) (l : List Nat) : Prop :=
  (l = [] ∧ ∃ p cap, v = .slice p 0 cap) ∨ (l ≠ [] ∧ ∃ b cap, v = .slice (some ⟨b, 0, none⟩) l.length cap ∧ b < w.heap.size ∧ ∀ i, i < l.length → w.cell? ⟨b, i, none⟩ = some (.int .i64 ((l.getD i 0 : Nat) : Int)))
theorem SlI.nil (w : World) : SlI w (.slice none 0 0) [] := .inl ⟨rfl, _, _, rfl⟩
theorem SlI.nums {w : World} {b : Nat} {l : List Nat} (h : Nums .i64 w b (natI l)) : SlI w (.slice (some ⟨b, 0, none⟩) l.length l.length) l := by
  cases l with
  | nil => exact .inl ⟨rfl, _, _, rfl⟩
  | cons x y =>
    refine .inr ⟨by simp, b, _, rfl, Blk.lt h, fun i hi => ?_⟩
    rw [h.cell i (by rw [natI_len]; exact hi), natI_at]
theorem SlI.below {B : Nat} {w w' : World} {v : Value} {l : List Nat} (h : SlI w v l) (hB : Below B w w') (hz : w.heap.size ≤ B) : SlI w' v l := by
  rcases h with h | ⟨h, b, cap, e, hb, hc⟩
  · exact .inl h
  · refine .inr ⟨h, b, cap, e, Nat.lt_of_lt_of_le hb hB.size, fun i hi => (hB.cell (show b < B by omega)).trans (hc i hi)⟩
/-- its parts -/
theorem SlI.form {w : World} {v : Value} {l : List Nat} (h : SlI w v l) : ∃ p cap, v = .slice p l.length cap := by
  rcases h with ⟨rfl, p, cap, e⟩ | ⟨_, b, cap, e, _⟩
  · exact ⟨p, cap, e⟩
  · exact ⟨_, cap, e⟩
theorem SlI.at_ {w : World} {v : Value} {l : List Nat} (h : SlI w v l) (hl : 0 < l.length) : ∃ b cap, v = .slice (some ⟨b, 0, none⟩) l.length cap ∧ ∀ i, i < l.length → w.cell? ⟨b, i, none⟩ = some (.int .i64 ((l.getD i 0 : Nat) : Int)) := by
  rcases h with ⟨rfl, _⟩ | ⟨_, b, cap, e, _, g⟩
  · simp at hl
  · exact ⟨b, cap, e, g⟩
theorem ne_at {l m : List Nat} (h : l.length = m.length) (hn : l ≠ m) : ∃ i, i < l.length ∧ l.getD i 0 ≠ m.getD i 0 := by
  refine Classical.byContradiction fun h2 => hn (List.ext_getElem h fun i h3 h4 => ?_)
  refine Classical.byContradiction fun h5 => h2 ⟨i, h3, ?_⟩
  simpa [List.getD_eq_getElem?_getD, List.getElem?_eq_getElem h3, List.getElem?_eq_getElem h4] using h5
theorem decide_cast (a b : Nat) : ((a : Int) != (b : Int)) = !decide (a = b) := by
  by_cases h : a = b
  · subst h; simp
  · have : ((a : Int) != (b : Int)) = true := by simp; omega
    rw [this]; simp [h]

set_option maxRecDepth 100000 in
set_option maxHeartbeats 800000 in
theorem same_any (va vb : Value) (l m : List Nat) (w : World) (hl : SlI w va l) (hm : SlI w vb m) (h0 : l.length ≤ 1000) (h1 : m.length ≤ 1000) :
    Calls Try.prog 23 #[va, vb] w fun e w' => e = .returned (.bool (decide (l = m))) ∧ Below w.heap.size w w' := by
  by_cases hlen : l.length = m.length
  · by_cases hz : l.length = 0
    · obtain ⟨p, cap, rfl⟩ := hl.form
      obtain ⟨q, cap2, rfl⟩ := hm.form
      have hz2 : m.length = 0 := by omega
      obtain rfl := List.length_eq_zero_iff.1 hz
      obtain rfl := List.length_eq_zero_iff.1 hz2
      go_enter Try.func23, Try.ntmps23
      go_wp2
      go_loopw [5] (fun i wr => i = .int .i64 0 ∧ wr = w) (fun i _ => 0)
      case atStart => exact ⟨rfl, rfl⟩
      case round =>
        obtain ⟨rfl, rfl⟩ := hrel
        go_wp2
        go_ret
        exact ⟨rfl, Below.refl _ _⟩
    · obtain ⟨ba, cap, rfl, ca⟩ := hl.at_ (by omega)
      obtain ⟨bb, cap2, rfl, cb⟩ := hm.at_ (by omega)
      rw [hlen] at ca h0 ⊢
      have HCA := hid ca
      have HCB := hid cb
      have HNE : Hid (l ≠ m → ∃ i, i < l.length ∧ l.getD i 0 ≠ m.getD i 0) := fun h => ne_at hlen h
      have HLN := hid hlen
      obtain ⟨n, hn⟩ : ∃ n, n = m.length := ⟨_, rfl⟩
      rw [← hn] at HCA HCB h0 ⊢
      have HN := hid hn
      clear ca cb hl hm hz hlen hn h1
      go_enter Try.func23, Try.ntmps23
      go_wp2
      go_loopw [5] (fun i wr => ∃ k : Nat, k ≤ n ∧ i = .int .i64 k ∧ Hid (∀ j, j < k → l.getD j 0 = m.getD j 0) ∧ ∃ q, wr = w.drewN q) (fun i _ => n - (intOf i).toNat)
      case atStart => exact ⟨0, by omega, rfl, fun j hj => absurd hj (by omega), 0, rfl⟩
      case round =>
        obtain ⟨k, hk, rfl, HK, q, rfl⟩ := hrel
        rcases Nat.lt_or_ge k n with hlt | hge
        · have c1 : w.cell? ⟨ba, k, none⟩ = some (.int .i64 ((l.getD k 0 : Nat) : Int)) := HCA.out k hlt
          have c2 : w.cell? ⟨bb, k, none⟩ = some (.int .i64 ((m.getD k 0 : Nat) : Int)) := HCB.out k hlt
          have i0 : (0 : Int) ≤ (k : Int) := by omega
          have i1 : (k : Int) < (n : Int) := by omega
          by_cases he : l.getD k 0 = m.getD k 0
          · have HE : Hid (l.getD k 0 = m.getD k 0) := he
            have hq : (((l.getD k 0 : Nat) : Int) != ((m.getD k 0 : Nat) : Int)) = false := by rw [he]; simp
            clear he
            generalize ((l.getD k 0 : Nat) : Int) = x at *
            generalize ((m.getD k 0 : Nat) : Int) = y at *
            go_wp2
            go_quiet (fail)
            go_wp2
            go_roundw
            case rel =>
              refine ⟨k + 1, by omega, by go_num, fun j hj => ?_, _, rfl⟩
              rcases Nat.lt_or_ge j k with g | g
              · exact HK.out j g
              · have : j = k := by omega
                subst this
                exact HE.out
            case measure => simp [intOf]; omega
          · have HE : Hid (l ≠ m) := fun e => he (by rw [e])
            have hq : (((l.getD k 0 : Nat) : Int) != ((m.getD k 0 : Nat) : Int)) = true := by rw [decide_cast, decide_eq_false he]; rfl
            clear he
            generalize ((l.getD k 0 : Nat) : Int) = x at *
            generalize ((m.getD k 0 : Nat) : Int) = y at *
            go_wp2
            go_quiet (fail)
            go_wp2
            go_ret
            exact ⟨ret_b (by simp [HE.out]), below_drewN (below_drewN (Below.refl _ _) _) _⟩
        · have hkn : k = n := by omega
          subst hkn
          go_wp2
          go_ret
          refine ⟨ret_b (Eq.symm (decide_eq_true (Classical.byContradiction fun h => ?_))), below_drewN (Below.refl _ _) _⟩
          obtain ⟨i, a, b⟩ := HNE.out h
          rw [HLN.out] at a
          exact b (HK.out i (by rw [HN.out]; exact a))
  · obtain ⟨p, cap, rfl⟩ := hl.form
    obtain ⟨q, cap2, rfl⟩ := hm.form
    have hne : l ≠ m := fun e => hlen (by rw [e])
    have hq : ((l.length : Int) != (m.length : Int)) = true := by simp; omega
    have HNE : Hid (l ≠ m) := hne
    clear hl hm hne hlen
    go_enter Try.func23, Try.ntmps23
    go_wp2
    go_ret
    exact ⟨ret_b (by simp [HNE.out]), Below.refl _ _⟩
theorem SlI.set {w : World} {g n m : Nat} {l : List Nat} (h : SlI w (.slice (some ⟨g, 0, none⟩) n m) l) {p : Addr} (hne : p.block ≠ g) (x : Value) : SlI (w.setCell p x) (.slice (some ⟨g, 0, none⟩) n m) l := by
  rcases h with h | ⟨h, b, cap, e, hb, hc⟩
  · exact .inl h
  · cases e
    refine .inr ⟨h, g, m, rfl, by simpa [World.setCell] using hb, fun i hi => ?_⟩
    rw [World.cell?_of_block (w := w) (Below.heap_setCell w p x g (fun e => hne e.symm))]
    exact hc i hi
theorem same_yes (va vb : Value) (l : List Nat) (w : World) (hl : SlI w va l) (hm : SlI w vb l) (h0 : l.length ≤ 1000) :
    Calls Try.prog 23 #[va, vb] w fun e w' => e = .returned (.bool true) ∧ Below w.heap.size w w' := by
  have := same_any va vb l l w hl hm h0 h0
  simpa using this
end Go.Proofs.Ytjmkkkfloalliab
