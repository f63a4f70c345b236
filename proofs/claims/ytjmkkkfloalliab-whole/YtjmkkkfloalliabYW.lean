import Derived.Test.YtjmkkkfloalliabYK
import Derived.Test.YtjmkkkfloalliabYB
import Derived.Test.YtjmkkkfloalliabL5
-- the walk in memory; has
namespace Go.Proofs.Ytjmkkkfloalliab
set_option linter.unusedVariables false
open Go.RowKit

theorem ret_b {a b : Bool} (h : a = b) : Ending.returned (.bool a) = .returned (.bool b) := by rw [h]
def stC (s : Q.St) : List Value := [.int .i64 (s.low : Int), .int .i64 (s.high : Int), .int .u64 (s.places : Int), .int .i64 (s.twin : Int)]
def stCells (l : List Q.St) : List Value := l.flatMap stC
theorem stCells_len : ∀ l : List Q.St, (stCells l).length = l.length * 4
  | [] => rfl
  | s :: l => by
    unfold stCells
    rw [List.flatMap_cons, List.length_append]
    have := stCells_len l
    unfold stCells at this
    rw [this, List.length_cons]
    simp [stC]
    omega
theorem stCells_at : ∀ (l : List Q.St) (i j : Nat), i < l.length → j < 4 → (stCells l)[i * 4 + j]? = (stC (Q.stAt l i))[j]?
  | [], i, _, h, _ => by simp at h
  | s :: l, 0, j, _, hj => by
    unfold stCells
    rw [List.flatMap_cons, List.getElem?_append_left (by simp [stC]; omega), Nat.zero_mul, Nat.zero_add]
    rfl
  | s :: l, i + 1, j, hi, hj => by
    unfold stCells
    rw [List.flatMap_cons, List.getElem?_append_right (by simp [stC]; omega)]
    have := stCells_at l i j (by simpa using hi) hj
    unfold stCells at this
    rw [show (i + 1) * 4 + j - (stC s).length = i * 4 + j by simp [stC]; omega, this]
    rfl
theorem stCells_snoc (l : List Q.St) (s : Q.St) : stCells (l ++ [s]) = stCells l ++ stC s := by
  unfold stCells
  rw [List.flatMap_append]
  simp
def natI (l : List Nat) : List Int := l.map fun (n : Nat) => (n : Int)
theorem natI_at (l : List Nat) (i : Nat) : (natI l).getD i 0 = ((l.getD i 0 : Nat) : Int) := by
  unfold natI
  rw [List.getD_eq_getElem?_getD, List.getElem?_map, List.getD_eq_getElem?_getD]
  cases l[i]? <;> rfl
theorem natI_len (l : List Nat) : (natI l).length = l.length := by simp [natI]
theorem natI_set (l : List Nat) (i v : Nat) : (natI l).set i (v : Int) = natI (l.set i v) := by simp [natI, List.map_set]

/-- where a walk's things lie -/
structure Wh where
  B : Nat
  bw : Nat
  bi : Nat
  bp : Nat
  bl : Nat
  bn : Nat
  n : Nat
  memo : Bool
/-- the walk in memory -/
structure WkT (w : World) (x : Wh) (k : Q.Wk) (v : Value) : Prop where
  blk : BlkT w x.bw 72 [.pointer (some ⟨x.bi, 0, none⟩), .pointer (some ⟨x.bp, 0, none⟩), .bool x.memo, .slice (some ⟨x.bl, 0, none⟩) x.n x.n, v, .slice (some ⟨x.bn, 0, none⟩) (x.n + 1) (x.n + 1)]
  own : w.ownsRow x.B 99 4 v k.list.length (stCells k.list)
  new : Nums .i64 w x.bn (natI k.newest)
  ok : Q.WkOk x.n k
  len : k.list.length ≤ 100000000
  nw : v.ownBlock ≠ some x.bw
  nn : v.ownBlock ≠ some x.bn
  wn : x.bw ≠ x.bn
  bw : x.B ≤ x.bw
  bn : x.B ≤ x.bn
theorem WkT.cells {w : World} {x : Wh} {k : Q.Wk} {v : Value} (h : WkT w x k v) :
    w.cell? ⟨x.bw, 0, none⟩ = some (.pointer (some ⟨x.bi, 0, none⟩)) ∧ w.cell? ⟨x.bw, 1, none⟩ = some (.pointer (some ⟨x.bp, 0, none⟩)) ∧ w.cell? ⟨x.bw, 2, none⟩ = some (.bool x.memo) ∧
    w.cell? ⟨x.bw, 3, none⟩ = some (.slice (some ⟨x.bl, 0, none⟩) x.n x.n) ∧ w.cell? ⟨x.bw, 4, none⟩ = some v ∧ w.cell? ⟨x.bw, 5, none⟩ = some (.slice (some ⟨x.bn, 0, none⟩) (x.n + 1) (x.n + 1)) :=
  ⟨h.blk.cell 0, h.blk.cell 1, h.blk.cell 2, h.blk.cell 3, h.blk.cell 4, h.blk.cell 5⟩
theorem own_keep' {S : List Nat} {w w' : World} {B n size : Nat} {e : TypeId} {v : Value} {xs : List Value} (h : w.ownsRow B e size v n xs) (k : Keep S w w') (hS : ∀ b, v.ownBlock = some b → b ∉ S) : w'.ownsRow B e size v n xs := by
  obtain ⟨h1, h | ⟨g, cap, cur, rfl, hb, hg, h2⟩⟩ := h
  · exact ⟨h1, .inl h⟩
  · exact ⟨h1, .inr ⟨g, cap, cur, rfl, hb, (k.block g (Array.getElem?_eq_some_iff.1 hg).1 (hS g rfl)).trans hg, h2⟩⟩
theorem own_lt' {w : World} {B n size : Nat} {e : TypeId} {v : Value} {xs : List Value} (h : w.ownsRow B e size v n xs) : ∀ b, v.ownBlock = some b → b < w.heap.size ∧ B ≤ b := by
  intro b hb
  obtain ⟨_, ⟨rfl, _⟩ | ⟨g, cap, cur, rfl, hB, hg, _⟩⟩ := h
  · cases hb
  · cases hb
    exact ⟨(Array.getElem?_eq_some_iff.1 hg).1, hB⟩
theorem WkT.keep {S : List Nat} {w w' : World} {x : Wh} {k : Q.Wk} {v : Value} (h : WkT w x k v) (kk : Keep S w w') (h1 : x.bw ∉ S) (h2 : x.bn ∉ S) (h3 : ∀ b, v.ownBlock = some b → b ∉ S) : WkT w' x k v :=
  ⟨h.blk.keep kk h1, own_keep' h.own kk h3, h.new.of_heap (kk.block _ (Blk.lt h.new) h2), h.ok, h.len, h.nw, h.nn, h.wn, h.bw, h.bn⟩
theorem WkT.keep0 {w w' : World} {x : Wh} {k : Q.Wk} {v : Value} (h : WkT w x k v) (kk : Keep [] w w') : WkT w' x k v := h.keep kk (by simp) (by simp) (by simp)
/-- the list's row -/
theorem WkT.row {w : World} {x : Wh} {k : Q.Wk} {v : Value} (h : WkT w x k v) (i : Nat) (hi : i < k.list.length) : ∃ g cap, v = .slice (some ⟨g, 0, none⟩) k.list.length cap ∧ k.list.length ≤ cap ∧
    w.cell? ⟨g, i * 4, none⟩ = some (.int .i64 ((Q.stAt k.list i).low : Int)) ∧ w.cell? ⟨g, i * 4 + 1, none⟩ = some (.int .i64 ((Q.stAt k.list i).high : Int)) ∧
    w.cell? ⟨g, i * 4 + 2, none⟩ = some (.int .u64 ((Q.stAt k.list i).places : Int)) ∧ w.cell? ⟨g, i * 4 + 3, none⟩ = some (.int .i64 ((Q.stAt k.list i).twin : Int)) ∧ g < w.heap.size := by
  obtain ⟨g, cap, hv, hb, hr⟩ := own_open h.own (fun e => by
    subst e
    obtain ⟨_, h | ⟨g, cap, cur, h, _⟩⟩ := h.own
    · omega
    · cases h)
  have hl := stCells_len k.list
  refine ⟨g, cap, hv, hr.le, ?_, ?_, ?_, ?_, hr.lt⟩
  · rw [show i * 4 = i * 4 + 0 by omega, hr.cell? (i * 4 + 0) (by omega), stCells_at k.list i 0 hi (by omega)]; rfl
  · rw [hr.cell? (i * 4 + 1) (by omega), stCells_at k.list i 1 hi (by omega)]; rfl
  · rw [hr.cell? (i * 4 + 2) (by omega), stCells_at k.list i 2 hi (by omega)]; rfl
  · rw [hr.cell? (i * 4 + 3) (by omega), stCells_at k.list i 3 hi (by omega)]; rfl

set_option maxRecDepth 10000 in
set_option maxHeartbeats 1600000 in
theorem has_any (x : Wh) (k : Q.Wk) (v : Value) (s : Q.St) (w : World) (hW : WkT w x k v) (hs : s.low ≤ x.n) (hn : x.n ≤ 1000) :
    Calls Try.prog 66 #[.pointer (some ⟨x.bw, 0, none⟩), .agg (stC s).toArray] w fun e w' => e = .returned (.bool (Q.has k s)) ∧ Keep [] w w' := by
  have hbw := hW.blk.lt
  have hbn := Blk.lt hW.new
  obtain ⟨c0, c1, c2, c3, c4, c5⟩ := hW.cells
  have hnw := hW.new.cell s.low (by rw [natI_len, hW.ok.len]; omega)
  rw [natI_at] at hnw
  have hnl := hW.ok.new s.low
  have hlen := hW.len
  obtain ⟨R, hRe⟩ : ∃ R, R = Q.has k s := ⟨_, rfl⟩
  rw [← hRe]
  have HR : Hid (R = Q.hasF k.list s (k.newest.getD s.low 0 + 1) (k.newest.getD s.low 0)) := hRe
  have HW : Hid (WkT w x k v) := hW
  have h0 : (0 : Int) ≤ (s.low : Int) := by omega
  have h1 : (s.low : Int) < ((x.n + 1 : Nat) : Int) := by omega
  generalize k.newest.getD s.low 0 = N at *
  clear hRe hW
  unfold stC
  go_enter Try.func66, Try.ntmps66
  go_wp2
  go_quiet (fail)
  go_wp2
  have HB0 : Hid (BlkT ((w.alloc (.cells #[.int .i64 (s.low : Int), .int .i64 (s.high : Int), .int .u64 (s.places : Int), .int .i64 (s.twin : Int)] 99)).drewN nq) w.heap.size 99 (stC s)) := BlkT.new w _ _
  have HK0 : Hid (Keep [] w ((w.alloc (.cells #[.int .i64 (s.low : Int), .int .i64 (s.high : Int), .int .u64 (s.places : Int), .int .i64 (s.twin : Int)] 99)).drewN nq)) := ((Keep.refl [] w).alloc _).drewN nq
  go_loopg [5] (N + 1) (fun f i wr => ∃ m : Nat, i = .int .i64 m ∧ m ≤ k.list.length ∧ m < f ∧ Hid (R = Q.hasF k.list s f m) ∧ Keep [] w wr ∧ BlkT wr w.heap.size 99 (stC s))
  case atStart => exact ⟨N, rfl, hnl, by omega, HR, HK0.out, HB0.out⟩
  case round =>
    clear HR HB0 HK0 hnw hnl c0 c1 c2 c3 c4 c5
    obtain ⟨m, rfl, hm, hmf, HR, hK, hB⟩ := hrel
    obtain ⟨f, rfl⟩ : ∃ f, gk = f + 1 := ⟨gk - 1, by omega⟩
    have hW := HW.out.keep0 hK
    obtain ⟨_, _, _, _, c4, _⟩ := hW.cells
    rcases Nat.eq_zero_or_pos m with rfl | hpos
    · have HE : Hid (R = false) := by have := HR.out; unfold Q.hasF at this; rw [if_pos rfl] at this; exact this
      go_wp2
      go_ret
      exact ⟨ret_b HE.out.symm, hK⟩
    · obtain ⟨j, rfl⟩ : ∃ j, m = j + 1 := ⟨m - 1, by omega⟩
      obtain ⟨g, cap, rfl, hcap, r0, r1, r2, r3, hg⟩ := hW.row j (by omega)
      have htw := (hW.ok.st j (by omega)).2
      have b1 := hB.cell 1; have b2 := hB.cell 2
      simp only [stC, List.getElem?_cons_zero, List.getElem?_cons_succ] at b1 b2
      have hz := hB.lt
      have hbwr : x.bw < wr.heap.size := Nat.lt_of_lt_of_le hbw hK.size
      have nbw : x.bw ≠ wr.heap.size := by omega
      have HU : Hid (Q.hasF k.list s (f + 1) (j + 1) = if (Q.stAt k.list j).high = s.high ∧ (Q.stAt k.list j).places = s.places then true else Q.hasF k.list s f (Q.stAt k.list j).twin) := by
        show _ = _
        conv => lhs; unfold Q.hasF
        rw [if_neg (by omega)]
        rfl
      have HKn : Hid (Keep [] w wr) := hK
      have HBn : Hid (BlkT wr w.heap.size 99 (stC s)) := hB
      have i0 : (0 : Int) ≤ (j : Int) := by omega
      have i1 : (j : Int) < (k.list.length : Int) := by omega
      have nz : w.heap.size ≠ wr.heap.size := by omega
      have ng : g ≠ wr.heap.size := by omega
      clear hK hB hW
      generalize Q.stAt k.list j = o at *
      have ee : ((j : Int) + 1 - 1) = (j : Int) := by omega
      by_cases e1 : o.high = s.high
      · have q1 : ((o.high : Int) == (s.high : Int)) = true := by simp [e1]
        by_cases e2 : o.places = s.places
        · have q2 : ((o.places : Int) == (s.places : Int)) = true := by simp [e2]
          have HE : Hid (R = true) := by have := HR.out; rw [HU.out, if_pos ⟨e1, e2⟩] at this; exact this
          clear e1 e2
          go_wp2
          go_ret
          exact ⟨ret_b HE.out.symm, HKn.out.alloc _⟩
        · have q2 : ((o.places : Int) == (s.places : Int)) = false := by simp; omega
          have HE : Hid (R = Q.hasF k.list s f o.twin) := by have := HR.out; rw [HU.out, if_neg (fun h => e2 h.2)] at this; exact this
          clear e1 e2
          go_wp2
          go_roundg f
          case measure => omega
          case rel => exact ⟨o.twin, rfl, by omega, by omega, HE, HKn.out.alloc _, HBn.out.alloc _⟩
      · have q1 : ((o.high : Int) == (s.high : Int)) = false := by simp; omega
        have HE : Hid (R = Q.hasF k.list s f o.twin) := by have := HR.out; rw [HU.out, if_neg (fun h => e1 h.1)] at this; exact this
        clear e1
        go_wp2
        go_roundg f
        case measure => omega
        case rel => exact ⟨o.twin, rfl, by omega, by omega, HE, HKn.out.alloc _, HBn.out.alloc _⟩
end Go.Proofs.Ytjmkkkfloalliab
