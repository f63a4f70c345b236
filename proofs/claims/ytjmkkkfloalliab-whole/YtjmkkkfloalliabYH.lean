import Derived.Test.YtjmkkkfloalliabYG
import Derived.Deep.AppendLies
import Derived.Deep.MidRow
import Derived.Deep.WholeRow
import Derived.Deep.CutBlock
import Derived.Deep.RegionLaw
import Derived.Great.BuildSlice
-- a part is laid into the tree
namespace Go.Proofs.Ytjmkkkfloalliab
set_option linter.unusedVariables false
open Go.RowKit

def allCells (ps : List Q.Part) : List Value := ps.flatMap partCells

theorem Try.size110 : (Try.prog.info? 90).map (·.size) = some 265 := by kernel_rfl
theorem Try.info110 : (Try.prog.info? 90).map (fun i => (i.zero, i.size, i.bytes)) = some (some (.agg (partCells (Q.mk 0 0 0)).toArray), 265, 312) := by kernel_rfl
def zeroPart : Q.Part := Q.mk 0 0 0
theorem Try.zero110 : (Try.prog.info? 90).map (fun i => (i.zero, i.size)) = some (some (.agg (partCells zeroPart).toArray), 265) := by kernel_rfl

theorem allCells_len : ∀ (ps : List Q.Part), (∀ p, p ∈ ps → p.ins.length = 256) → (allCells ps).length = ps.length * 265
  | [], _ => rfl
  | p :: ps, h => by
    unfold allCells
    rw [List.flatMap_cons, List.length_append, partCells_len (h p List.mem_cons_self)]
    have := allCells_len ps (fun q hq => h q (List.mem_cons_of_mem _ hq))
    unfold allCells at this
    rw [this, List.length_cons]
    omega
theorem allCells_at : ∀ (ps : List Q.Part), (∀ p, p ∈ ps → p.ins.length = 256) → ∀ (i j : Nat), i < ps.length → j < 265 → (allCells ps)[i * 265 + j]? = (partCells (Q.at_ ps i))[j]?
  | [], _, i, _, h, _ => by simp at h
  | p :: ps, h, 0, j, _, hj => by
    unfold allCells
    rw [List.flatMap_cons, List.getElem?_append_left (by rw [partCells_len (h p List.mem_cons_self)]; omega), Nat.zero_mul, Nat.zero_add]
    rfl
  | p :: ps, h, i + 1, j, hi, hj => by
    unfold allCells
    rw [List.flatMap_cons, List.getElem?_append_right (by rw [partCells_len (h p List.mem_cons_self)]; omega), partCells_len (h p List.mem_cons_self)]
    have := allCells_at ps (fun q hq => h q (List.mem_cons_of_mem _ hq)) i j (by simpa using hi) hj
    unfold allCells at this
    rw [show (i + 1) * 265 + j - 265 = i * 265 + j by omega, this]
    rfl
theorem partsOk_len {ps : List Q.Part} (h : Q.PartsOk ps) : ∀ p, p ∈ ps → p.ins.length = 256 := by
  intro p hp
  obtain ⟨i, hi, e⟩ := List.getElem_of_mem hp
  exact (h i p (by rw [List.getElem?_eq_getElem hi, e])).1.ins
/-- the slice of parts opened -/
theorem parts_open {w : World} {B : Nat} {ps : List Q.Part} {v : Value} (hown : w.ownsRow B 90 265 v ps.length (allCells ps)) (hps : Q.PartsOk ps) (hne : ps ≠ []) :
    ∃ g cap, v = .slice (some ⟨g, 0, none⟩) ps.length cap ∧ ps.length ≤ cap ∧ g < w.heap.size ∧ ∀ i, i < ps.length → w.rangeAt g (i * 265) (partCells (Q.at_ ps i)) := by
  have hl := allCells_len ps (partsOk_len hps)
  obtain ⟨g, cap, hv, hb, hr⟩ := own_open hown (fun e => by
    subst e
    obtain ⟨_, h | ⟨g, cap, cur, h, _⟩⟩ := hown
    · exact hne (List.eq_nil_of_length_eq_zero h.2)
    · cases h)
  refine ⟨g, cap, hv, hr.le, hr.lt, fun i hi j x hx => ?_⟩
  have hj : j < 265 := by
    have := (List.getElem?_eq_some_iff.1 hx).1
    rw [partCells_len (hps.get i hi).1.ins] at this
    exact this
  rw [hr.cell? (i * 265 + j) (by rw [hl]; omega), allCells_at ps (partsOk_len hps) i j hi hj]
  exact hx
theorem pc_one (p : Q.Part) : ∀ v ∈ partCells p, v.oneCell' = true := by
  intro v hv
  unfold partCells at hv
  simp only [List.mem_cons, List.mem_append, List.mem_map, List.not_mem_nil, or_false] at hv
  rcases hv with rfl | ⟨b, _, rfl⟩ | rfl | rfl | rfl | rfl | rfl | rfl | rfl | rfl <;> rfl

/-- the 265 cells there -/
def rdAt (w : World) (b o : Nat) : Option (Array Value) := ((List.range 265).mapM fun j => w.cell? ⟨b, o + j, none⟩).map List.toArray
theorem mapM_range (f : Nat → Option Value) : ∀ (n : Nat) (cs : List Value), cs.length = n → (∀ j v, cs[j]? = some v → f j = some v) → (List.range n).mapM f = some cs := by
  intro n cs hl hf
  have e : (List.range n).map f = cs.map some := by
    apply List.ext_getElem?
    intro i
    rw [List.getElem?_map, List.getElem?_map]
    rcases Nat.lt_or_ge i n with h | h
    · rw [List.getElem?_range h, List.getElem?_eq_getElem (show i < cs.length by omega)]
      simp only [Option.map_some]
      rw [hf i _ (List.getElem?_eq_getElem (by omega))]
    · rw [List.getElem?_eq_none (by simpa using h), List.getElem?_eq_none (by omega)]
      rfl
  have key : ∀ (l : List Nat) (ds : List Value), l.map f = ds.map some → l.mapM f = some ds := by
    intro l
    induction l with
    | nil => intro ds h; cases ds with
      | nil => rfl
      | cons d ds => cases h
    | cons x l ih => intro ds h; cases ds with
      | nil => cases h
      | cons d ds =>
        simp only [List.map_cons, List.cons.injEq] at h
        rw [List.mapM_cons, h.1, ih ds h.2]
        rfl
  exact key _ _ e
theorem rdAt_of {w : World} {b o : Nat} {p : Q.Part} (h : w.rangeAt b o (partCells p)) (hl : p.ins.length = 256) : rdAt w b o = some (partCells p).toArray := by
  unfold rdAt
  rw [mapM_range _ 265 (partCells p) (partCells_len hl) h]
  rfl
theorem of_mapM (f : Nat → Option Value) : ∀ (l : List Nat) (cs : List Value), l.mapM f = some cs → cs.length = l.length ∧ ∀ (i : Nat) (x : Nat) (v : Value), l[i]? = some x → cs[i]? = some v → f x = some v
  | [], cs, h => by
    simp at h
    subst h
    exact ⟨rfl, fun i x v hx => by simp at hx⟩
  | x :: l, cs, h => by
    rw [List.mapM_cons] at h
    cases hx : f x with
    | none => rw [hx] at h; cases h
    | some y =>
      rw [hx] at h
      cases hl : l.mapM f with
      | none => rw [hl] at h; cases h
      | some ys =>
        rw [hl] at h
        obtain ⟨e1, e2⟩ := of_mapM f l ys hl
        cases h
        refine ⟨by simp [e1], fun i z v hz hv => ?_⟩
        cases i with
        | zero =>
          simp only [List.getElem?_cons_zero, Option.some.injEq] at hz hv
          rw [← hz, hx, hv]
        | succ i =>
          rw [List.getElem?_cons_succ] at hz hv
          exact e2 i z v hz hv
theorem load_part {w : World} {b o : Nat} (h : (rdAt w b o).isSome = true) : (Instr.loadAt 90 (.pointer (some ⟨b, o, none⟩))).run Try.prog w = .ok (.agg ((rdAt w b o).getD #[])) w := by
  obtain ⟨c, hc⟩ := Option.isSome_iff_exists.1 h
  rw [hc]
  unfold rdAt at hc
  cases hm : (List.range 265).mapM (fun j => w.cell? ⟨b, o + j, none⟩) with
  | none => rw [hm] at hc; cases hc
  | some cs =>
    rw [hm] at hc
    cases hc
    obtain ⟨e1, e2⟩ := of_mapM _ _ _ hm
    rw [List.length_range] at e1
    refine run_loadAt_mid w b o _ cs _ (fun j v hv => ?_) Try.underlying90 rfl (by rw [Try.size110, e1])
    have hj : j < 265 := by rw [← e1]; exact (List.getElem?_eq_some_iff.1 hv).1
    exact e2 j j v (List.getElem?_range hj) hv
theorem rdAt_drew (w : World) (b o : Nat) : rdAt w.drew b o = rdAt w b o := rfl
theorem rdAt_lt {w : World} {b o : Nat} (h : (rdAt w b o).isSome = true) : b < w.heap.size := by
  obtain ⟨c, hc⟩ := Option.isSome_iff_exists.1 h
  unfold rdAt at hc
  cases hm : (List.range 265).mapM (fun j => w.cell? ⟨b, o + j, none⟩) with
  | none => rw [hm] at hc; cases hc
  | some cs =>
    obtain ⟨e1, e2⟩ := of_mapM _ _ _ hm
    rw [List.length_range] at e1
    have := e2 0 0 _ (List.getElem?_range (by decide)) (List.getElem?_eq_getElem (by omega))
    exact World.block_lt_of_cell? w _ this
theorem rdAt_alloc {w : World} {b o : Nat} (x : Obj) (h : (rdAt w b o).isSome = true) : rdAt (w.alloc x) b o = rdAt w b o := by
  have hl := rdAt_lt h
  unfold rdAt
  congr 2
  funext j
  exact World.cell?_alloc_lt _ _ _ hl
theorem store_part {w : World} {b : Nat} {p q : Q.Part} (hb : b = w.heap.size) (hl : p.ins.length = 256) (hq : q.ins.length = 256) :
    (Instr.storeAt 90 (.pointer (some ⟨b, 0, none⟩)) (.agg (partCells p).toArray)).run Try.prog (w.alloc (.cells (partCells q).toArray 90)) = .ok () (w.alloc (.cells (partCells p).toArray 90)) := by
  subst hb
  exact run_storeAt_new w _ _ _ (by rw [Try.size110]; simp [partCells_len hl]) (by simp [partCells_len hl, partCells_len hq]) (all_oneCell_toArray (pc_one p))
theorem zero_part (w : World) : (zeroValue 90).run Try.prog w = .ok (.agg (partCells zeroPart).toArray) w := (zero_of_info Try.zero110).1 w
theorem lt_drew {g : Nat} {w : World} (h : g < w.heap.size) : g < w.drew.heap.size := h
theorem lt_alloc {g : Nat} {w : World} (h : g < w.heap.size) (o : Obj) : g < (w.alloc o).heap.size := by simp; omega
theorem zero_len : zeroPart.ins.length = 256 := Q.ins0_len
/-- an address that is plain -/
def plainB : Value → Bool
  | .pointer (some ⟨_, _, none⟩) => true
  | _ => false
def blkB : Value → Nat
  | .pointer (some a) => a.block
  | _ => 0
def offB : Value → Nat
  | .pointer (some a) => a.off
  | _ => 0
def cellsB : Value → Array Value
  | .agg c => c
  | _ => #[]
def okB (c : Array Value) : Bool := c.size == 265 && c.all (·.oneCell')
def aggB : Value → Bool
  | .agg c => okB c
  | _ => false
def thereB (w : World) (b o : Nat) : Bool := (List.range 265).all fun j => (w.cell? ⟨b, o + j, none⟩).isSome && w.frozen? ⟨b, o + j, none⟩ == false
theorem plainB_p (b o : Nat) : plainB (.pointer (some ⟨b, o, none⟩)) = true := rfl
theorem blkB_p (b o : Nat) (n : Option Nat) : blkB (.pointer (some ⟨b, o, none⟩)) = b := rfl
theorem offB_p (b o : Nat) : offB (.pointer (some ⟨b, o, none⟩)) = o := rfl
theorem cellsB_a (c : Array Value) : cellsB (.agg c) = c := rfl
theorem aggB_a (c : Array Value) : aggB (.agg c) = okB c := rfl
theorem okB_part {p : Q.Part} (h : p.ins.length = 256) : okB (partCells p).toArray = true := by
  unfold okB
  rw [all_oneCell_toArray (pc_one p), Bool.and_true]
  simp [partCells_len h]
theorem exec_load_part {d : Option Tmp} {x : Operand} {ty : TypeId} {pos : String} {after : Array Edge} {guard : Option (Nat × Bool)} {a : Act} {w : World} (hp : plainB (a.eval x) = true) (hr : (rdAt w (blkB (a.eval x)) (offB (a.eval x))).isSome = true) :
    (execOp a.eval ⟨d, .load 90 x, ty, pos, after, guard⟩).run Try.prog w = .ok (.value (.agg ((rdAt w (blkB (a.eval x)) (offB (a.eval x))).getD #[]))) w := by
  match hx : a.eval x, hp, hr with
  | .pointer (some ⟨b, o, none⟩), _, hr =>
    unfold execOp
    have hr2 : (rdAt w b o).isSome = true := hr
    simp only [hx, Sem.run_bind, load_part hr2, Result.andThen_ok, Sem.run_pure, blkB, offB]
theorem exec_store_part {d : Option Tmp} {x y : Operand} {ty : TypeId} {pos : String} {after : Array Edge} {guard : Option (Nat × Bool)} {a : Act} {w : World} (hp : plainB (a.eval x) = true) (hr : thereB w (blkB (a.eval x)) (offB (a.eval x)) = true) (hc : aggB (a.eval y) = true) :
    (execOp a.eval ⟨d, .store 90 x y, ty, pos, after, guard⟩).run Try.prog w = .ok .skip (w.setCells (blkB (a.eval x)) (offB (a.eval x)) (cellsB (a.eval y)).toList) := by
  match hx : a.eval x, hp, hr with
  | .pointer (some ⟨b, o, none⟩), _, hr =>
    match hy : a.eval y, hc with
    | .agg c, hc =>
      simp only [aggB, okB, Bool.and_eq_true, beq_iff_eq] at hc
      have ht : w.there b o c.size := by
        intro j hj
        rw [hc.1] at hj
        have hr2 : thereB w b o = true := hr
        have := List.all_eq_true.1 hr2 j (List.mem_range.2 hj)
        simpa using this
      unfold execOp
      simp only [hx, hy, Sem.run_bind, run_storeAt_mid w b o _ c ht (by rw [Try.size110, hc.1]) hc.2, Result.andThen_ok, Sem.run_pure, blkB, offB, cellsB]
theorem thereB_new {w : World} {q : Q.Part} (T : TypeId) (hq : q.ins.length = 256) : thereB (w.alloc (.cells (partCells q).toArray T)).drew w.heap.size 0 = true := by
  unfold thereB
  rw [List.all_eq_true]
  intro j hj
  have hj2 := List.mem_range.1 hj
  have hB : BlkT (w.alloc (.cells (partCells q).toArray T)).drew w.heap.size T (partCells q) := BlkT.new w _ _
  rw [hB.frozen, hB.cell, List.getElem?_eq_getElem (by rw [partCells_len hq]; omega)]
  rfl
theorem cell_sc {w : World} {b o : Nat} {cs : List Value} {a : Addr} (h : a.block ≠ b) : (w.setCells b o cs).cell? a = w.cell? a := World.cell?_setCells_out b cs o w a (fun e _ => absurd e h)
theorem rdAt_sc {w : World} {b o g o' : Nat} {cs : List Value} (h : g ≠ b) : rdAt (w.setCells b o cs) g o' = rdAt w g o' := by
  unfold rdAt
  congr 2
  funext j
  exact cell_sc h
theorem size_sc (b : Nat) : ∀ (cs : List Value) (o : Nat) (w : World), (w.setCells b o cs).heap.size = w.heap.size
  | [], _, _ => rfl
  | c :: cs, o, w => by rw [World.setCells, size_sc b cs]; simp
theorem lt_sc {g : Nat} {w : World} {b o : Nat} {cs : List Value} (h : g < w.heap.size) : g < (w.setCells b o cs).heap.size := by rw [size_sc]; exact h
/-- a whole new part -/
theorem new_part {w : World} {p q : Q.Part} (hp : p.ins.length = 256) (hq : q.ins.length = 256) : (w.alloc (.cells (partCells q).toArray 90)).setCells w.heap.size 0 (partCells p) = w.alloc (.cells (partCells p).toArray 90) := by
  have h1 := run_storeAt_new (P := Try.prog) w 90 (partCells q).toArray (partCells p).toArray (by rw [Try.size110]; simp [partCells_len hp]) (by simp [partCells_len hp, partCells_len hq]) (all_oneCell_toArray (pc_one p))
  have h2 := run_storeAt_mid (P := Try.prog) (w.alloc (.cells (partCells q).toArray 90)) w.heap.size 0 90 (partCells p).toArray (fun j hj => by
    have hj2 : j < 265 := by simpa [partCells_len hp] using hj
    have hB : BlkT (w.alloc (.cells (partCells q).toArray 90)) w.heap.size 90 (partCells q) := BlkT.new w _ _
    rw [hB.frozen, hB.cell, List.getElem?_eq_getElem (by rw [partCells_len hq]; omega)]
    exact ⟨rfl, rfl⟩) (by rw [Try.size110]; simp [partCells_len hp]) (all_oneCell_toArray (pc_one p))
  rw [h1] at h2
  simp only [Result.ok.injEq, true_and] at h2
  exact h2.symm
theorem sc_drew (b : Nat) : ∀ (cs : List Value) (o : Nat) (w : World), w.drew.setCells b o cs = (w.setCells b o cs).drew
  | [], _, _ => rfl
  | c :: cs, o, w => by
    rw [World.setCells, World.setCells, ← sc_drew b cs]
    rfl
theorem copy_world {w : World} {p q : Q.Part} (hp : p.ins.length = 256) (hq : q.ins.length = 256) : (w.alloc (.cells (partCells q).toArray 90)).drew.setCells w.heap.size 0 (partCells p) = (w.alloc (.cells (partCells p).toArray 90)).drew := by
  rw [sc_drew, new_part hp hq]
/-- the world within 'add', ahead of the append -/
structure Env (w wA : World) (bt ot g cap : Nat) (ps : List Q.Part) (p : Q.Part) : Prop where
  pt : PtT wA w.heap.size p
  bl : Below w.heap.size w wA
  sz : w.heap.size < wA.heap.size
  lt : bt < w.heap.size
  ct : wA.cell? ⟨bt, ot, none⟩ = some (.slice (some ⟨g, 0, none⟩) ps.length cap)
  gs : g < w.heap.size
  rd : ∀ i, i < ps.length → rdAt wA g (i * 265) = some (partCells (Q.at_ ps i)).toArray
theorem PtT.alloc {w : World} {bp : Nat} {p : Q.Part} (h : PtT w bp p) (o : Obj) : PtT (w.alloc o) bp p := ⟨h.1, BlkT.alloc h.2 o⟩
theorem PtT.drew {w : World} {bp : Nat} {p : Q.Part} (h : PtT w bp p) : PtT w.drew bp p := h
theorem PtT.new (w : World) {p : Q.Part} (h : p.ins.length = 256) : PtT (w.alloc (.cells (partCells p).toArray 90)) w.heap.size p := ⟨h, BlkT.new w _ _⟩
theorem Env.copy {w wA : World} {bt ot g cap : Nat} {ps : List Q.Part} {p q : Q.Part} (E : Env w wA bt ot g cap ps p) : Env w (wA.alloc (.cells (partCells q).toArray 90)).drew bt ot g cap ps p := by
  have h1 := E.bl.size
  have h2 := E.sz
  refine ⟨(E.pt.alloc _).drew, below_drewN (E.bl.alloc h1 _) 1, by show _ < (wA.alloc _).heap.size; simp; omega, E.lt, ?_, E.gs, fun i hi => ?_⟩
  · show (wA.alloc _).cell? _ = _
    rw [World.cell?_alloc_lt _ _ _ (by show bt < _; have := E.lt; omega)]
    exact E.ct
  · rw [rdAt_drew, rdAt_alloc _ (by rw [E.rd i hi]; rfl)]
    exact E.rd i hi
attribute [local go_sem ↓] exec_load_part exec_store_part zero_part
attribute [local go_sem] plainB_p blkB_p offB_p cellsB_a aggB_a okB_part thereB_new
attribute [local simp] rdAt_drew rdAt_alloc rdAt_sc cell_sc

theorem frz {w : World} {b o : Nat} {x : Obj} (h : w.frozen? ⟨b, o, none⟩ = false) (hb : b < w.heap.size) : (w.alloc x).drew.frozen? ⟨b, o, none⟩ = false := by
  show (w.alloc x).frozen? _ = _
  rw [World.frozen?_alloc_past _ _ _ hb]
  exact h
theorem rdAt_grown {w w' : World} {row : Option Nat} {b o : Nat} (hg : w.grownBy w' row) (hr : row ≠ some b) (hb : b < w.heap.size) : rdAt w' b o = rdAt w b o := by
  unfold rdAt
  congr 2
  funext j
  exact hg.cell_far _ hb (Ne.symm hr)
theorem rdAt_set {w : World} {a : Addr} {v : Value} {b o : Nat} (h : a.block ≠ b) : rdAt (w.setCell a v) b o = rdAt w b o := by
  unfold rdAt
  congr 2
  funext j
  exact World.cell?_setCell_other _ _ _ _ (fun e => h (by rw [e]))
attribute [local simp] rdAt_set
theorem own_set {w : World} {B n cap g size : Nat} {e : TypeId} {xs : List Value} (h : w.ownsRow B e size (.slice (some ⟨g, 0, none⟩) n cap) n xs) {a : Addr} (hne : a.block ≠ g) (x : Value) : (w.setCell a x).ownsRow B e size (.slice (some ⟨g, 0, none⟩) n cap) n xs := by
  obtain ⟨h1, ⟨h, _⟩ | ⟨g', cap', cur, hv, hb, hg, h2⟩⟩ := h
  · cases h
  · cases hv
    exact ⟨h1, .inr ⟨g, cap, cur, rfl, hb, (Below.heap_setCell _ _ _ _ (fun e => hne e.symm)).trans hg, h2⟩⟩
theorem below_drew {B : Nat} {a w : World} (h : Below B a w) : Below B a w.drew := ⟨h.os, h.tape, h.output, h.size, h.block⟩
def zeroIf (K : Q.Part) : Nat := if K.some = false then 0 else K.places
def anyTo (p : Q.Part) (k : Nat) : Bool := p.some || Q.anyIn (p.ins.take k)
theorem anyTo_succ (p : Q.Part) (k : Nat) (hk : k < p.ins.length) : anyTo p (k + 1) = (anyTo p k || p.ins.getD k false) := by
  unfold anyTo Q.anyIn
  rw [List.take_succ_eq_append_getElem hk, List.any_append, List.getD_eq_getElem?_getD, List.getElem?_eq_getElem hk]
  simp [Bool.or_assoc]
theorem fold_set : ∀ (l : List Value) (k : Nat) (A : Array Value), A.size = k + l.length → ((l.zipIdx k).foldl (fun cs x => cs.setIfInBounds (0 + x.2) x.1) A).toList = A.toList.take k ++ l
  | [], k, A, h => by
    simp only [List.zipIdx_nil, List.foldl_nil, List.append_nil]
    rw [List.take_of_length_le (by simp at h ⊢; omega)]
  | c :: l, k, A, h => by
    rw [List.zipIdx_cons, List.foldl_cons, fold_set l (k + 1) _ (by simp at h ⊢; omega)]
    have hk : k < A.toList.length := by simp at h ⊢; omega
    simp only [Nat.zero_add, Array.toList_setIfInBounds]
    rw [List.take_succ_eq_append_getElem (by simpa using hk), List.take_set]
    simp only [List.getElem_set_self]
    rw [List.set_eq_of_length_le (by simp; omega), List.append_assoc]
    rfl
theorem fill_one (c : Array Value) (A : Array Value) (hA : A.size = 265) (hc : c.size = 265) : Instr.fill (fun i => some (i * 265, 265)) A [(0, .agg c)] = some c := by
  unfold Instr.fill
  simp only [Value.cells, hc, hA]
  simp only [ne_eq, not_true_eq_false, decide_false, Nat.zero_mul, Nat.zero_add, gt_iff_lt, Nat.lt_irrefl, Bool.or_self, Bool.false_eq_true, if_false]
  unfold Instr.fill
  congr 1
  apply Array.toList_inj.1
  have := fold_set c.toList 0 A (by simp [hA, hc])
  rw [List.take_zero, List.nil_append] at this
  rw [← this, ← Array.foldl_toList, Array.toList_zipIdx]
  simp
theorem exec_one_part {d : Option Tmp} {x : Operand} {ty : TypeId} {pos : String} {after : Array Edge} {guard : Option (Nat × Bool)} {a : Act} {w : World} (hc : aggB (a.eval x) = true) :
    (execOp a.eval ⟨d, .buildSlice 83 1 #[(0, x)], ty, pos, after, guard⟩).run Try.prog w = .ok (.value (.slice (some ⟨w.heap.size, 0, none⟩) 1 1)) (w.alloc (.cells (cellsB (a.eval x)) 90)) := by
  match hx : a.eval x, hc with
  | .agg c, hc =>
    simp only [aggB, okB, Bool.and_eq_true, beq_iff_eq] at hc
    obtain ⟨i0, hi0, hz0, hz1, hz2⟩ := info_parts Try.info110
    have hf : Instr.fill (fun i => some (i * i0.size, i0.size)) ((Array.range (1 * i0.size)).map ((Value.agg (partCells (Q.mk 0 0 0)).toArray).cells[· % (Value.agg (partCells (Q.mk 0 0 0)).toArray).cells.size]!)) [(0, .agg c)] = some c := by
      rw [hz1]
      exact fill_one c _ (by simp) hc.1
    have := run_buildSlice (P := Try.prog) w 83 90 1 #[(0, .agg c)] c i0 _ Try.underlying83 hi0 hz0 (by rw [hz1]; decide) (by rw [hz1]; decide) hf
    unfold execOp
    simp only [Sem.run_bind]
    have e : (Array.map (fun (y : Nat × Operand) => (y.1, a.eval y.2)) #[(0, x)]) = #[(0, .agg c)] := by simp [hx]
    rw [e, this]
    rfl
attribute [local go_sem ↓] exec_one_part

set_option maxRecDepth 10000 in
set_option maxHeartbeats 6400000 in
theorem add_any (bt ot B : Nat) (T : TypeId) (vs : List Value) (ps : List Q.Part) (p : Q.Part) (v : Value) (w : World) (hB : BlkT w bt T vs) (hv : vs[ot]? = some v) (hown : w.ownsRow B 90 265 v ps.length (allCells ps)) (hBb : v.ownBlock ≠ some bt)
    (hBs : B ≤ w.heap.size) (hbt : B ≤ bt) (hn : ps.length ≤ 10000) (hps : Q.PartsOk ps) (hp : Q.PartOk ps.length p) :
    Calls Try.prog 79 #[.pointer (some ⟨bt, ot, none⟩), .agg (partCells p).toArray] w fun e w' => e = .returned (.int .i64 (ps.length : Int)) ∧ ∃ v', BlkT w' bt T (vs.set ot v') ∧ w'.ownsRow B 90 265 v' (ps.length + 1) (allCells ps ++ partCells (Q.fill ps p)) ∧ v'.ownBlock ≠ some bt ∧ Below B w w' := by
  have hl := hp.ins
  have e0 : (partCells p)[0]? = some (.int .i64 (p.kind : Int)) := rfl
  have hblt := hB.lt
  have hct : w.cell? ⟨bt, ot, none⟩ = some v := (hB.cell ot).trans hv
  have HPT : Hid (PtT (w.alloc (.cells (partCells p).toArray 90)) w.heap.size p) := ⟨hl, BlkT.new w _ _⟩
  go_enter Try.func79, Try.ntmps79
  go_upto_block 0 with fail
  go_cut [] from 12 (fun wc => PtT wc w.heap.size (Q.known ps p) ∧ Below w.heap.size w wc)
  case first =>
    have HBw : Hid (Below w.heap.size w (w.alloc (.cells (partCells p).toArray 90))) := (Below.refl _ _).alloc (Nat.le_refl _) _
    obtain ⟨d0, d1, d2, d3, d4, d5, d6, d7⟩ := HPT.out.cells
    have dk := HPT.out.cell0
    have df := HPT.out.frozen
    have hct1 : (w.alloc (.cells (partCells p).toArray 90)).cell? ⟨bt, ot, none⟩ = some v := by rw [World.cell?_alloc_lt _ _ _ (by simpa using hblt)]; exact hct
    have HSZ : Hid ((w.alloc (.cells (partCells p).toArray 90)).heap.size = w.heap.size + 1) := by show _ = _; simp
    have HOW : Hid ((w.alloc (.cells (partCells p).toArray 90)).ownsRow B 90 265 v ps.length (allCells ps)) := hown.alloc _
    generalize hw0 : w.alloc (.cells (partCells p).toArray 90) = w0 at *
    clear hw0
    have hk := hp.kind
    by_cases h0 : p.kind = 0
    · have HE : Hid (Q.known ps p = { p with some := true, empty := true }) := by show _ = _; unfold Q.known; rw [if_pos h0]
      rw [h0]
      go_wp2
      go_meet
      case rel =>
        rw [HE.out]
        exact ⟨(HPT.out.some true).empty true, (HBw.out.setCell (by simp) _).setCell (by simp) _⟩
    by_cases h1 : p.kind = 1
    · have HE : Hid (Q.known ps p = { p with some := anyTo p 256, places := 1 }) := by
        show _ = _
        unfold Q.known anyTo
        rw [if_neg h0, if_pos h1, List.take_of_length_le (by omega)]
      have HP0 : Hid (PtT w0 w.heap.size { p with some := anyTo p 0 }) := by
        show PtT _ _ _
        have e : anyTo p 0 = p.some := by unfold anyTo Q.anyIn; simp
        rw [e]
        exact HPT.out
      rw [h1]
      clear d0 d1 d2 d3 d4 d5 d6 d7 dk df HPT hct1 hct hv
      go_wp2_with fail
      go_loopw [20] (fun i wr => ∃ k : Nat, k ≤ 256 ∧ i = .int .i64 k ∧ PtT wr w.heap.size { p with some := anyTo p k } ∧ Below w.heap.size w wr) (fun i _ => 256 - (intOf i).toNat)
      case atStart => exact ⟨0, by omega, rfl, HP0.out, HBw.out⟩
      case round =>
        obtain ⟨k, hk, rfl, hPk, hBk⟩ := hrel
        by_cases hlt : k < 256
        · have hc := hPk.cellI k hlt
          obtain ⟨_, _, _, _, _, d5, _⟩ := hPk.cells
          have df := hPk.frozen
          have hks : (k : Int) < 256 := by omega
          have HS : Hid (anyTo p (k + 1) = (anyTo p k || p.ins.getD k false)) := anyTo_succ p k (by omega)
          have HN : Hid (∀ b, PtT (wr.setCell ⟨w.heap.size, 262, none⟩ (.bool b)) w.heap.size { p with some := b }) := fun b => by have := hPk.some b; exact this
          have HBk : Hid (Below w.heap.size w wr) := hBk
          clear hPk hBk
          generalize p.ins.getD k false = x at *
          cases hb : anyTo p k with
          | true =>
            rw [hb] at d5
            simp only at d5
            go_wp2
            go_roundw
            case rel => exact ⟨k + 1, by omega, by go_num, by rw [HS.out, hb]; exact HN.out _, HBk.out.setCell (by simp) _⟩
            case measure => simp [intOf]; omega
          | false =>
            simp only [hb] at d5
            go_wp2
            go_roundw
            case rel => exact ⟨k + 1, by omega, by go_num, by rw [HS.out, hb, Bool.false_or]; exact HN.out _, HBk.out.setCell (by simp) _⟩
            case measure => simp [intOf]; omega
        · obtain rfl : k = 256 := by omega
          obtain ⟨_, _, _, _, _, _, _, d7⟩ := hPk.cells
          have df := hPk.frozen
          go_wp2
          go_meet
          case rel =>
            rw [HE.out]
            exact ⟨hPk.places 1, hBk.setCell (by simp) _⟩
    by_cases h2 : p.kind = 2
    · have hleft := hp.left (by omega)
      have hright := hp.right (.inl h2)
      obtain ⟨g, cap, rfl, hcap, hg, hrow⟩ := parts_open hown hps (by intro e; rw [e] at hleft; simp at hleft)
      have E0 : Env w w0 bt ot g cap ps p := ⟨HPT.out, HBw.out, by have := HSZ.out; omega, hblt, hct1, hg, fun i hi => rdAt_of (fun j x hx => by
        have := hrow i hi j x hx
        rw [HBw.out.cell (p := ⟨g, i * 265 + j, none⟩) hg]
        exact this) (hps.get _ hi).1.ins⟩
      have hzz := zero_len
      clear hrow hk h0 h1 d0 d1 d2 d3 d4 d5 d6 d7 dk df HPT HBw HSZ HOW hct1 hct hown hv hBb
      rw [h2]
      have hr_left := E0.rd p.left hleft
      have hc_left := E0.ct
      have hll_left := (hps.get _ hleft).1.ins
      have hg_left : g ≠ w0.heap.size := by have := E0.gs; have := E0.sz; omega
      have hb_left : bt ≠ w0.heap.size := by have := E0.lt; have := E0.sz; omega
      have hn_left : w.heap.size ≠ w0.heap.size := by have := E0.sz; omega
      have d_left : w0.cell? ⟨w.heap.size, 257, none⟩ = some (.int .i64 (p.left : Int)) := E0.pt.cells.1
      have i0_left : (0 : Int) ≤ (p.left : Int) := by omega
      have i1_left : (p.left : Int) < (ps.length : Int) := by omega
      go_wp2_with fail
      go_region_held3 (fun w' => w'.cell? ⟨bt, ot, none⟩ = some (.slice (some ⟨g, 0, none⟩) ps.length cap) ∧ w'.cell? ⟨w.heap.size, 257, none⟩ = some (.int .i64 (p.left : Int)) ∧ rdAt w' g (p.left * 265) = some (partCells (Q.at_ ps p.left)).toArray) (first | go_keep | (go_split_ands; refine ⟨?_, ?_, ?_⟩ <;> first | assumption | (simp [*]; done))) (fail)
      rw [copy_world hll_left hzz]
      have E1 := E0.copy (q := Q.at_ ps p.left)
      have hP_left : PtT (w0.alloc (.cells (partCells (Q.at_ ps p.left)).toArray 90)).drew w0.heap.size (Q.at_ ps p.left) := (PtT.new w0 hll_left).drew
      clear hr_left hc_left hg_left hn_left d_left i0_left i1_left
      generalize (w0.alloc (.cells (partCells (Q.at_ ps p.left)).toArray 90)).drew = wA at *
      have hr_right := E1.rd p.right hright
      have hc_right := E1.ct
      have hll_right := (hps.get _ hright).1.ins
      have hg_right : g ≠ wA.heap.size := by have := E1.gs; have := E1.sz; omega
      have hb_right : bt ≠ wA.heap.size := by have := E1.lt; have := E1.sz; omega
      have hn_right : w.heap.size ≠ wA.heap.size := by have := E1.sz; omega
      have d_right : wA.cell? ⟨w.heap.size, 258, none⟩ = some (.int .i64 (p.right : Int)) := E1.pt.cells.2.1
      have i0_right : (0 : Int) ≤ (p.right : Int) := by omega
      have i1_right : (p.right : Int) < (ps.length : Int) := by omega
      go_wp2_with fail
      go_region_held3 (fun w' => w'.cell? ⟨bt, ot, none⟩ = some (.slice (some ⟨g, 0, none⟩) ps.length cap) ∧ w'.cell? ⟨w.heap.size, 258, none⟩ = some (.int .i64 (p.right : Int)) ∧ rdAt w' g (p.right * 265) = some (partCells (Q.at_ ps p.right)).toArray) (first | go_keep | (go_split_ands; refine ⟨?_, ?_, ?_⟩ <;> first | assumption | (simp [*]; done))) (fail)
      rw [copy_world hll_right hzz]
      have E2 := E1.copy (q := Q.at_ ps p.right)
      have hP_right : PtT (wA.alloc (.cells (partCells (Q.at_ ps p.right)).toArray 90)).drew wA.heap.size (Q.at_ ps p.right) := (PtT.new wA hll_right).drew
      have hPL : PtT (wA.alloc (.cells (partCells (Q.at_ ps p.right)).toArray 90)).drew w0.heap.size (Q.at_ ps p.left) := (hP_left.alloc _).drew
      clear hP_left
      clear hr_right hc_right hg_right hn_right d_right i0_right i1_right
      generalize (wA.alloc (.cells (partCells (Q.at_ ps p.right)).toArray 90)).drew = wB at *
      obtain ⟨_, _, _, _, _, l5, l6, l7⟩ := hPL.cells
      obtain ⟨_, _, _, _, _, r5, r6, r7⟩ := hP_right.cells
      obtain ⟨_, _, _, _, _, p5, p6, p7⟩ := E2.pt.cells
      have pf := E2.pt.frozen
      have n1 : w0.heap.size ≠ w.heap.size := by have := E0.sz; omega
      have n2 : wA.heap.size ≠ w.heap.size := by have := E1.sz; omega
      have ql := (hps.get _ hleft).1.places
      have qr := (hps.get _ hright).1.places
      have HE : Hid (Q.known ps p = { p with some := (Q.at_ ps p.left).some && (Q.at_ ps p.right).some, empty := (Q.at_ ps p.left).empty && (Q.at_ ps p.right).empty, places := (Q.at_ ps p.left).places + (Q.at_ ps p.right).places }) := by
        show _ = _
        unfold Q.known
        simp [h2]
      have HEN : Hid (Env w wB bt ot g cap ps p) := E2
      clear E0 E1 E2 hPL hP_right
      generalize Q.at_ ps p.left = pl at *
      generalize Q.at_ ps p.right = pr at *
      cases hs1 : pl.some <;> cases he1 : pl.empty <;>
      · rw [hs1] at l5
        rw [he1] at l6
        go_wp2
        go_meet
        case rel =>
          rw [HE.out, hs1, he1]
          exact ⟨((HEN.out.pt.some _).empty _).places _, ((HEN.out.bl.setCell (by simp) _).setCell (by simp) _).setCell (by simp) _⟩
    by_cases h3 : p.kind = 3
    · have hleft := hp.left (by omega)
      have hright := hp.right (.inr h3)
      obtain ⟨g, cap, rfl, hcap, hg, hrow⟩ := parts_open hown hps (by intro e; rw [e] at hleft; simp at hleft)
      have E0 : Env w w0 bt ot g cap ps p := ⟨HPT.out, HBw.out, by have := HSZ.out; omega, hblt, hct1, hg, fun i hi => rdAt_of (fun j x hx => by
        have := hrow i hi j x hx
        rw [HBw.out.cell (p := ⟨g, i * 265 + j, none⟩) hg]
        exact this) (hps.get _ hi).1.ins⟩
      have hzz := zero_len
      clear hrow hk h0 h1 d0 d1 d2 d3 d4 d5 d6 d7 dk df HPT HBw HSZ HOW hct1 hct hown hv hBb
      rw [h3]
      have hr_left := E0.rd p.left hleft
      have hc_left := E0.ct
      have hll_left := (hps.get _ hleft).1.ins
      have hg_left : g ≠ w0.heap.size := by have := E0.gs; have := E0.sz; omega
      have hb_left : bt ≠ w0.heap.size := by have := E0.lt; have := E0.sz; omega
      have hn_left : w.heap.size ≠ w0.heap.size := by have := E0.sz; omega
      have d_left : w0.cell? ⟨w.heap.size, 257, none⟩ = some (.int .i64 (p.left : Int)) := E0.pt.cells.1
      have i0_left : (0 : Int) ≤ (p.left : Int) := by omega
      have i1_left : (p.left : Int) < (ps.length : Int) := by omega
      go_wp2_with fail
      go_region_held3 (fun w' => w'.cell? ⟨bt, ot, none⟩ = some (.slice (some ⟨g, 0, none⟩) ps.length cap) ∧ w'.cell? ⟨w.heap.size, 257, none⟩ = some (.int .i64 (p.left : Int)) ∧ rdAt w' g (p.left * 265) = some (partCells (Q.at_ ps p.left)).toArray) (first | go_keep | (go_split_ands; refine ⟨?_, ?_, ?_⟩ <;> first | assumption | (simp [*]; done))) (fail)
      rw [copy_world hll_left hzz]
      have E1 := E0.copy (q := Q.at_ ps p.left)
      have hP_left : PtT (w0.alloc (.cells (partCells (Q.at_ ps p.left)).toArray 90)).drew w0.heap.size (Q.at_ ps p.left) := (PtT.new w0 hll_left).drew
      clear hr_left hc_left hg_left hn_left d_left i0_left i1_left
      generalize (w0.alloc (.cells (partCells (Q.at_ ps p.left)).toArray 90)).drew = wA at *
      have hr_right := E1.rd p.right hright
      have hc_right := E1.ct
      have hll_right := (hps.get _ hright).1.ins
      have hg_right : g ≠ wA.heap.size := by have := E1.gs; have := E1.sz; omega
      have hb_right : bt ≠ wA.heap.size := by have := E1.lt; have := E1.sz; omega
      have hn_right : w.heap.size ≠ wA.heap.size := by have := E1.sz; omega
      have d_right : wA.cell? ⟨w.heap.size, 258, none⟩ = some (.int .i64 (p.right : Int)) := E1.pt.cells.2.1
      have i0_right : (0 : Int) ≤ (p.right : Int) := by omega
      have i1_right : (p.right : Int) < (ps.length : Int) := by omega
      go_wp2_with fail
      go_region_held3 (fun w' => w'.cell? ⟨bt, ot, none⟩ = some (.slice (some ⟨g, 0, none⟩) ps.length cap) ∧ w'.cell? ⟨w.heap.size, 258, none⟩ = some (.int .i64 (p.right : Int)) ∧ rdAt w' g (p.right * 265) = some (partCells (Q.at_ ps p.right)).toArray) (first | go_keep | (go_split_ands; refine ⟨?_, ?_, ?_⟩ <;> first | assumption | (simp [*]; done))) (fail)
      rw [copy_world hll_right hzz]
      have E2 := E1.copy (q := Q.at_ ps p.right)
      have hP_right : PtT (wA.alloc (.cells (partCells (Q.at_ ps p.right)).toArray 90)).drew wA.heap.size (Q.at_ ps p.right) := (PtT.new wA hll_right).drew
      have hPL : PtT (wA.alloc (.cells (partCells (Q.at_ ps p.right)).toArray 90)).drew w0.heap.size (Q.at_ ps p.left) := (hP_left.alloc _).drew
      clear hP_left
      clear hr_right hc_right hg_right hn_right d_right i0_right i1_right
      generalize (wA.alloc (.cells (partCells (Q.at_ ps p.right)).toArray 90)).drew = wB at *
      obtain ⟨_, _, _, _, _, l5, l6, l7⟩ := hPL.cells
      obtain ⟨_, _, _, _, _, r5, r6, r7⟩ := hP_right.cells
      obtain ⟨_, _, _, _, _, p5, p6, p7⟩ := E2.pt.cells
      have pf := E2.pt.frozen
      have n1 : w0.heap.size ≠ w.heap.size := by have := E0.sz; omega
      have n2 : wA.heap.size ≠ w.heap.size := by have := E1.sz; omega
      have ql := (hps.get _ hleft).1.places
      have qr := (hps.get _ hright).1.places
      have HE : Hid (Q.known ps p = { p with some := (Q.at_ ps p.left).some || (Q.at_ ps p.right).some, empty := (Q.at_ ps p.left).empty || (Q.at_ ps p.right).empty, places := (Q.at_ ps p.left).places + (Q.at_ ps p.right).places }) := by
        show _ = _
        unfold Q.known
        simp [h3]
      have HEN : Hid (Env w wB bt ot g cap ps p) := E2
      clear E0 E1 E2 hPL hP_right
      generalize Q.at_ ps p.left = pl at *
      generalize Q.at_ ps p.right = pr at *
      cases hs1 : pl.some <;> cases he1 : pl.empty <;>
      · rw [hs1] at l5
        rw [he1] at l6
        go_wp2
        go_meet
        case rel =>
          rw [HE.out, hs1, he1]
          exact ⟨((HEN.out.pt.some _).empty _).places _, ((HEN.out.bl.setCell (by simp) _).setCell (by simp) _).setCell (by simp) _⟩
    by_cases h4 : p.kind = 4
    · have hleft := hp.left (by omega)
      obtain ⟨g, cap, rfl, hcap, hg, hrow⟩ := parts_open hown hps (by intro e; rw [e] at hleft; simp at hleft)
      have E0 : Env w w0 bt ot g cap ps p := ⟨HPT.out, HBw.out, by have := HSZ.out; omega, hblt, hct1, hg, fun i hi => rdAt_of (fun j x hx => by
        have := hrow i hi j x hx
        rw [HBw.out.cell (p := ⟨g, i * 265 + j, none⟩) hg]
        exact this) (hps.get _ hi).1.ins⟩
      have hzz := zero_len
      clear hrow hk h0 h1 d0 d1 d2 d3 d4 d5 d6 d7 dk df HPT HBw HSZ HOW hct1 hct hown hv hBb
      rw [h4]
      have hr_left := E0.rd p.left hleft
      have hc_left := E0.ct
      have hll_left := (hps.get _ hleft).1.ins
      have hg_left : g ≠ w0.heap.size := by have := E0.gs; have := E0.sz; omega
      have hb_left : bt ≠ w0.heap.size := by have := E0.lt; have := E0.sz; omega
      have hn_left : w.heap.size ≠ w0.heap.size := by have := E0.sz; omega
      have d_left : w0.cell? ⟨w.heap.size, 257, none⟩ = some (.int .i64 (p.left : Int)) := E0.pt.cells.1
      have i0_left : (0 : Int) ≤ (p.left : Int) := by omega
      have i1_left : (p.left : Int) < (ps.length : Int) := by omega
      go_wp2_with fail
      go_region_held3 (fun w' => w'.cell? ⟨bt, ot, none⟩ = some (.slice (some ⟨g, 0, none⟩) ps.length cap) ∧ w'.cell? ⟨w.heap.size, 257, none⟩ = some (.int .i64 (p.left : Int)) ∧ rdAt w' g (p.left * 265) = some (partCells (Q.at_ ps p.left)).toArray) (first | go_keep | (go_split_ands; refine ⟨?_, ?_, ?_⟩ <;> first | assumption | (simp [*]; done))) (fail)
      rw [copy_world hll_left hzz]
      have E1 := E0.copy (q := Q.at_ ps p.left)
      have hP_left : PtT (w0.alloc (.cells (partCells (Q.at_ ps p.left)).toArray 90)).drew w0.heap.size (Q.at_ ps p.left) := (PtT.new w0 hll_left).drew
      clear hr_left hc_left hg_left hn_left d_left i0_left i1_left
      generalize (w0.alloc (.cells (partCells (Q.at_ ps p.left)).toArray 90)).drew = wA at *
      obtain ⟨_, _, _, _, _, l5, l6, l7⟩ := hP_left.cells
      obtain ⟨_, _, p2, _, _, p5, p6, p7⟩ := E1.pt.cells
      have pf := E1.pt.frozen
      have n1 : w0.heap.size ≠ w.heap.size := by have := E0.sz; omega
      have ql := (hps.get _ hleft).1.places
      have hlow := hp.low
      have hco : p.copies ≤ 100 := by have := hp.high; unfold Q.Part.copies; split <;> omega
      have hmul : (Q.at_ ps p.left).places * p.copies ≤ 4900 := Nat.mul_le_mul ql hco
      have HE : Hid (Q.known ps p = { p with some := (Q.at_ ps p.left).some || decide (p.low = 0), empty := (Q.at_ ps p.left).empty || decide (p.low = 0), places := (Q.at_ ps p.left).places * p.copies }) := by
        show _ = _
        unfold Q.known
        simp [h4]
      have HEN : Hid (Env w wA bt ot g cap ps p) := E1
      have HQ0 : Hid (((p.low : Int) == 0) = decide (p.low = 0)) := by show _ = _; rw [Bool.eq_iff_iff]; simp
      clear E0 E1 hP_left
      generalize Q.at_ ps p.left = pl at *
      have HQ1 : Hid (((pl.places * p.copies : Nat) : Int) = (pl.places : Int) * (p.copies : Int)) := Int.natCast_mul _ _
      cases hs1 : pl.some <;> cases he1 : pl.empty <;>
      · rw [hs1] at l5
        rw [he1] at l6
        go_wp2_with (go_at_call 93; refine (copies_any w.heap.size p _ HEN.out.pt hlow).mono ?_; rintro e w9 ⟨rfl, rfl⟩)
        go_meet
        case rel =>
          rw [HE.out, hs1, he1, ← HQ0.out, ← HQ1.out]
          exact ⟨((HEN.out.pt.some _).empty _).places _, ((HEN.out.bl.setCell (by simp) _).setCell (by simp) _).setCell (by simp) _⟩
    omega
  case rest =>
    clear HPT e0 hl
    obtain ⟨hPc, hBc⟩ := hcut
    obtain ⟨_, _, _, _, _, c5, _, c7⟩ := hPc.cells
    have cf := hPc.frozen
    go_upto_if 144 with fail
    go_cut [] from 142 (fun wd => PtT wd w.heap.size { Q.known ps p with places := zeroIf (Q.known ps p) } ∧ Below w.heap.size w wd)
    case first =>
      cases hs : (Q.known ps p).some with
      | true =>
        rw [hs] at c5
        go_wp2
        go_meet
        case rel => exact ⟨by unfold zeroIf; rw [if_neg (by rw [hs]; decide)]; exact hPc, hBc⟩
      | false =>
        rw [hs] at c5
        go_wp2
        go_meet
        case rel => exact ⟨by unfold zeroIf; rw [if_pos hs]; exact hPc.places 0, hBc.setCell (by simp) _⟩
    case rest =>
      clear hPc hBc c5 c7 cf
      obtain ⟨hPd, hBd⟩ := hcut
      obtain ⟨_, _, _, _, _, _, _, c7⟩ := hPd.cells
      have cf := hPd.frozen
      go_upto_if 148 with fail
      go_cut [] from 142 (fun we => PtT we w.heap.size (Q.fill ps p) ∧ Below w.heap.size w we)
      case first =>
        have HF : Hid (Q.fill ps p = { Q.known ps p with places := if 48 < zeroIf (Q.known ps p) then 49 else zeroIf (Q.known ps p) }) := by
          show _ = _
          unfold Q.fill Q.cut zeroIf
          by_cases hs : (Q.known ps p).some = false
          · simp [hs]
          · simp [hs]
        by_cases h48 : 48 < zeroIf (Q.known ps p)
        · go_wp2
          go_meet
          case rel => exact ⟨by rw [HF.out, if_pos h48]; exact hPd.places 49, hBd.setCell (by simp) _⟩
        · go_wp2
          go_meet
          case rel => exact ⟨by rw [HF.out, if_neg h48]; exact hPd, hBd⟩
      case rest =>
        clear hPd hBd c7 cf
        obtain ⟨hPe, hBe⟩ := hcut
        have hBT : BlkT wc bt T vs := (hBe.block bt hblt).trans hB
        have hct2 : wc.cell? ⟨bt, ot, none⟩ = some v := (hBT.cell ot).trans hv
        have hcf : wc.frozen? ⟨bt, ot, none⟩ = false := hBT.frozen ot
        have hrd : rdAt wc w.heap.size 0 = some (partCells (Q.fill ps p)).toArray := rdAt_of (fun j x hx => by rw [Nat.zero_add, hPe.2.cell j]; exact hx) hPe.1
        have hsz := hPe.2.lt
        have HO : Hid (wc.ownsRow B 90 265 v ps.length (allCells ps)) := by
          show World.ownsRow _ _ _ _ _ _ _
          obtain ⟨h1, h | ⟨g, cap, cur, hv2, hb, hg, h2⟩⟩ := hown
          · exact ⟨h1, .inl h⟩
          · exact ⟨h1, .inr ⟨g, cap, cur, hv2, hb, (hBe.block g (Array.getElem?_eq_some_iff.1 hg).1).trans hg, h2⟩⟩
        have hfl := hPe.1
        have nb1 : bt ≠ wc.heap.size := by omega
        have nb0 : bt < wc.heap.size := by omega
        have nb2 : w.heap.size ≠ wc.heap.size := by omega
        obtain ⟨i0, hi0, hz0, hz1, hz2⟩ := info_parts Try.info110
        have hlw : B ≤ wc.heap.size := by omega
        have hones := pc_one (Q.fill ps p)
        have hfc := partCells_len hPe.1
        have HB3 : Hid (ps.length + 1 ≤ maxLen) := by show _ ≤ _; unfold maxLen; omega
        have HCF : Hid (wc.frozen? ⟨bt, ot, none⟩ = false) := hcf
        have NB0 : Hid (bt < wc.heap.size) := nb0
        clear hct
        go_wp2_with fail
        have HC1 : Hid ((wc.alloc (.cells (partCells (Q.fill ps p)).toArray 90)).drew.cell? ⟨bt, ot, none⟩ = some v) := by
          show (wc.alloc _).cell? _ = _
          rw [World.cell?_alloc_lt _ _ _ nb0]
          exact hct2
        have HF1 : Hid ((wc.alloc (.cells (partCells (Q.fill ps p)).toArray 90)).drew.frozen? ⟨bt, ot, none⟩ = false) := frz hcf nb0
        have HR1 : Hid (rdAt (wc.alloc (.cells (partCells (Q.fill ps p)).toArray 90)).drew w.heap.size 0 = some (partCells (Q.fill ps p)).toArray) := by
          show _ = _
          rw [rdAt_drew, rdAt_alloc _ (by rw [hrd]; rfl)]
          exact hrd
        have nb3 : bt ≠ w.heap.size := by omega
        have hvb : v.ownBlock ≠ some w.heap.size := by
          obtain ⟨_, ⟨rfl, _⟩ | ⟨g, cap, cur, rfl, _, hg, _⟩⟩ := hown
          · intro e; cases e
          · intro e
            cases e
            exact absurd (Array.getElem?_eq_some_iff.1 hg).1 (Nat.lt_irrefl _)
        go_region_law
          ((refine step_append_lies _ (by rfl) _ _ _ (by rfl) B 90 i0 _ 265 312 Try.underlying83 hi0 hz0 hz1 hz2 rfl (by omega) v ps.length (allCells ps) (by rfl) ((HO.out.alloc _).drew)
              ⟨wc.heap.size, 0, none⟩ 1 1 (partCells (Q.fill ps p)) (by rfl) hfc (World.news_of_block (cs := (partCells (Q.fill ps p)).toArray) (t := 90) (fr := (0, 0)) (heap_alloc_new wc _)) hones
              (by omega) HB3.out (by omega) (by simp; omega) (wc.heap.size + 1) (by simp) ?_; intro gg cap w1 hown1 hgrow hat hlt; have hcw1 : w1.cell? ⟨bt, ot, none⟩ = some v := (hgrow.cell_far _ (by simp; omega) (Ne.symm hBb)).trans HC1.out; have hfw1 : w1.frozen? ⟨bt, ot, none⟩ = false := (hgrow.frozen_far _ (by simp; omega) (Ne.symm hBb)).trans HF1.out))
        all_goals
          have hne : gg ≠ bt := by
            rcases hat with h | h
            · exact fun e => hBb (by rw [h, e])
            · omega
          have hBT1 : BlkT w1 bt T vs := (hgrow.block bt (by simp; omega) (Ne.symm hBb)).trans (BlkT.alloc hBT _)
          have hfz1 := hBT1.frozen ot
          go_wp2
          go_ret
          refine ⟨ret_int (by omega), _, BlkT.set hBT1 ot _, own_set hown1 hne.symm _, fun e => hne (by cases e; rfl), ?_⟩
          have b1 : Below B w wc := hBe.mono hBs
          have b2 : Below B wc (wc.alloc (.cells (partCells (Q.fill ps p)).toArray 90)).drew := below_drew ((Below.refl B wc).alloc hlw _)
          have b3 : Below B (wc.alloc (.cells (partCells (Q.fill ps p)).toArray 90)).drew w1 := ⟨hgrow.os, hgrow.tape, hgrow.output, hgrow.size, fun k hk => hgrow.block k (by simp; omega) (fun e => by
            obtain ⟨_, ⟨rfl, _⟩ | ⟨g, cap, cur, rfl, hb, _⟩⟩ := hown
            · cases e
            · have e2 : k = g := Option.some.inj e
              have h3 : B ≤ g := hb
              omega)⟩
          exact ((b1.trans b2).trans b3).setCell hbt _
end Go.Proofs.Ytjmkkkfloalliab
