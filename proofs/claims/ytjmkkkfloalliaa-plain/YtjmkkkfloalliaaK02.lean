import Derived.Test.YtjmkkkfloalliaaK01
import Derived.Test.YtjmkkkfloalliaaK00
import Derived.Deep.AppendLies
import Derived.Deep.MidRow
import Derived.Deep.WholeRow
import Derived.Deep.CutBlock
import Derived.Deep.RegionLaw
import Derived.Great.BuildSlice
import Derived.Laws.BitsLemmas
import Derived.Laws.Bits64
namespace Go.Proofs.Ytjmkkkfloalliaa
set_option linter.unusedVariables false
open Go.RowKit

def allCells (ps : List Q.Part) : List Value := ps.flatMap partCells

theorem Try.size110 : (Try.prog.info? 110).map (·.size) = some 265 := by kernel_rfl
theorem Try.info110 : (Try.prog.info? 110).map (fun i => (i.zero, i.size, i.bytes)) = some (some (.agg (partCells (Q.mk 0 0 0)).toArray), 265, 312) := by kernel_rfl
def zeroPart : Q.Part := Q.mk 0 0 0
theorem Try.zero110 : (Try.prog.info? 110).map (fun i => (i.zero, i.size)) = some (some (.agg (partCells zeroPart).toArray), 265) := by kernel_rfl

theorem allCells_len : ∀ (ps : List Q.Part), (∀ p, p ∈ ps → p.ins.length = 256) → (allCells ps).length = ps.length * 265
  | [], _ => rfl
  | p :: ps, h => by
    unfold allCells
    rw [List.flatMap_cons, List.length_append, partCells_len (h p List.mem_cons_self)]
    have := allCells_len ps (fun q hq => h q (List.mem_cons_of_mem _ hq))
    unfold allCells at this
    rw [this, List.length_cons]
    omega
theorem allCells_at : ∀ (ps : List Q.Part), (∀ p, p ∈ ps → p.ins.length = 256) → ∀ (i j : Nat), i < ps.length → j < 265 → (allCells ps)[i * 265 + j]? = (partCells (Q.at_ ps i))[j]?
  | [], _, i, _, h, _ => by simp at h
  | p :: ps, h, 0, j, _, hj => by
    unfold allCells
    rw [List.flatMap_cons, List.getElem?_append_left (by rw [partCells_len (h p List.mem_cons_self)]; omega), Nat.zero_mul, Nat.zero_add]
    rfl
  | p :: ps, h, i + 1, j, hi, hj => by
    unfold allCells
    rw [List.flatMap_cons, List.getElem?_append_right (by rw [partCells_len (h p List.mem_cons_self)]; omega), partCells_len (h p List.mem_cons_self)]
    have := allCells_at ps (fun q hq => h q (List.mem_cons_of_mem _ hq)) i j (by simpa using hi) hj
    unfold allCells at this
    rw [show (i + 1) * 265 + j - 265 = i * 265 + j by omega, this]
    rfl
theorem partsOk_len {ps : List Q.Part} (h : Q.PartsOk ps) : ∀ p, p ∈ ps → p.ins.length = 256 := by
  intro p hp
  obtain ⟨i, hi, e⟩ := List.getElem_of_mem hp
  exact (h i p (by rw [List.getElem?_eq_getElem hi, e])).1.ins
/-- the slice of parts opened -/
theorem parts_open {w : World} {B : Nat} {ps : List Q.Part} {v : Value} (hown : w.ownsRow B 110 265 v ps.length (allCells ps)) (hps : Q.PartsOk ps) (hne : ps ≠ []) :
    ∃ g cap, v = .slice (some ⟨g, 0, none⟩) ps.length cap ∧ ps.length ≤ cap ∧ g < w.heap.size ∧ ∀ i, i < ps.length → w.rangeAt g (i * 265) (partCells (Q.at_ ps i)) := by
  have hl := allCells_len ps (partsOk_len hps)
  obtain ⟨g, cap, hv, hb, hr⟩ := own_open hown (fun e => by
    subst e
    obtain ⟨_, h | ⟨g, cap, cur, h, _⟩⟩ := hown
    · exact hne (List.eq_nil_of_length_eq_zero h.2)
    · cases h)
  refine ⟨g, cap, hv, hr.le, hr.lt, fun i hi j x hx => ?_⟩
  have hj : j < 265 := by
    have := (List.getElem?_eq_some_iff.1 hx).1
    rw [partCells_len (hps.get i hi).1.ins] at this
    exact this
  rw [hr.cell? (i * 265 + j) (by rw [hl]; omega), allCells_at ps (partsOk_len hps) i j hi hj]
  exact hx
theorem pc_one (p : Q.Part) : ∀ v ∈ partCells p, v.oneCell' = true := by
  intro v hv
  unfold partCells at hv
  simp only [List.mem_cons, List.mem_append, List.mem_map, List.not_mem_nil, or_false] at hv
  rcases hv with rfl | ⟨b, _, rfl⟩ | rfl | rfl | rfl | rfl | rfl | rfl | rfl | rfl <;> rfl

/-- the 265 cells there -/
def rdAt (w : World) (b o : Nat) : Option (Array Value) := ((List.range 265).mapM fun j => w.cell? ⟨b, o + j, none⟩).map List.toArray
theorem mapM_range (f : Nat → Option Value) : ∀ (n : Nat) (cs : List Value), cs.length = n → (∀ j v, cs[j]? = some v → f j = some v) → (List.range n).mapM f = some cs := by
  intro n cs hl hf
  have e : (List.range n).map f = cs.map some := by
    apply List.ext_getElem?
    intro i
    rw [List.getElem?_map, List.getElem?_map]
    rcases Nat.lt_or_ge i n with h | h
    · rw [List.getElem?_range h, List.getElem?_eq_getElem (show i < cs.length by omega)]
      simp only [Option.map_some]
      rw [hf i _ (List.getElem?_eq_getElem (by omega))]
    · rw [List.getElem?_eq_none (by simpa using h), List.getElem?_eq_none (by omega)]
      rfl
  have key : ∀ (l : List Nat) (ds : List Value), l.map f = ds.map some → l.mapM f = some ds := by
    intro l
    induction l with
    | nil => intro ds h; cases ds with
      | nil => rfl
      | cons d ds => cases h
    | cons x l ih => intro ds h; cases ds with
      | nil => cases h
      | cons d ds =>
        simp only [List.map_cons, List.cons.injEq] at h
        rw [List.mapM_cons, h.1, ih ds h.2]
        rfl
  exact key _ _ e
theorem rdAt_of {w : World} {b o : Nat} {p : Q.Part} (h : w.rangeAt b o (partCells p)) (hl : p.ins.length = 256) : rdAt w b o = some (partCells p).toArray := by
  unfold rdAt
  rw [mapM_range _ 265 (partCells p) (partCells_len hl) h]
  rfl
theorem of_mapM (f : Nat → Option Value) : ∀ (l : List Nat) (cs : List Value), l.mapM f = some cs → cs.length = l.length ∧ ∀ (i : Nat) (x : Nat) (v : Value), l[i]? = some x → cs[i]? = some v → f x = some v
  | [], cs, h => by
    simp at h
    subst h
    exact ⟨rfl, fun i x v hx => by simp at hx⟩
  | x :: l, cs, h => by
    rw [List.mapM_cons] at h
    cases hx : f x with
    | none => rw [hx] at h; cases h
    | some y =>
      rw [hx] at h
      cases hl : l.mapM f with
      | none => rw [hl] at h; cases h
      | some ys =>
        rw [hl] at h
        obtain ⟨e1, e2⟩ := of_mapM f l ys hl
        cases h
        refine ⟨by simp [e1], fun i z v hz hv => ?_⟩
        cases i with
        | zero =>
          simp only [List.getElem?_cons_zero, Option.some.injEq] at hz hv
          rw [← hz, hx, hv]
        | succ i =>
          rw [List.getElem?_cons_succ] at hz hv
          exact e2 i z v hz hv
theorem load_part {w : World} {b o : Nat} (h : (rdAt w b o).isSome = true) : (Instr.loadAt 110 (.pointer (some ⟨b, o, none⟩))).run Try.prog w = .ok (.agg ((rdAt w b o).getD #[])) w := by
  obtain ⟨c, hc⟩ := Option.isSome_iff_exists.1 h
  rw [hc]
  unfold rdAt at hc
  cases hm : (List.range 265).mapM (fun j => w.cell? ⟨b, o + j, none⟩) with
  | none => rw [hm] at hc; cases hc
  | some cs =>
    rw [hm] at hc
    cases hc
    obtain ⟨e1, e2⟩ := of_mapM _ _ _ hm
    rw [List.length_range] at e1
    refine run_loadAt_mid w b o _ cs _ (fun j v hv => ?_) Try.underlying110 rfl (by rw [Try.size110, e1])
    have hj : j < 265 := by rw [← e1]; exact (List.getElem?_eq_some_iff.1 hv).1
    exact e2 j j v (List.getElem?_range hj) hv
theorem rdAt_drew (w : World) (b o : Nat) : rdAt w.drew b o = rdAt w b o := rfl
theorem rdAt_lt {w : World} {b o : Nat} (h : (rdAt w b o).isSome = true) : b < w.heap.size := by
  obtain ⟨c, hc⟩ := Option.isSome_iff_exists.1 h
  unfold rdAt at hc
  cases hm : (List.range 265).mapM (fun j => w.cell? ⟨b, o + j, none⟩) with
  | none => rw [hm] at hc; cases hc
  | some cs =>
    obtain ⟨e1, e2⟩ := of_mapM _ _ _ hm
    rw [List.length_range] at e1
    have := e2 0 0 _ (List.getElem?_range (by decide)) (List.getElem?_eq_getElem (by omega))
    exact World.block_lt_of_cell? w _ this
theorem rdAt_alloc {w : World} {b o : Nat} (x : Obj) (h : (rdAt w b o).isSome = true) : rdAt (w.alloc x) b o = rdAt w b o := by
  have hl := rdAt_lt h
  unfold rdAt
  congr 2
  funext j
  exact World.cell?_alloc_lt _ _ _ hl
theorem store_part {w : World} {b : Nat} {p q : Q.Part} (hb : b = w.heap.size) (hl : p.ins.length = 256) (hq : q.ins.length = 256) :
    (Instr.storeAt 110 (.pointer (some ⟨b, 0, none⟩)) (.agg (partCells p).toArray)).run Try.prog (w.alloc (.cells (partCells q).toArray 110)) = .ok () (w.alloc (.cells (partCells p).toArray 110)) := by
  subst hb
  exact run_storeAt_new w _ _ _ (by rw [Try.size110]; simp [partCells_len hl]) (by simp [partCells_len hl, partCells_len hq]) (all_oneCell_toArray (pc_one p))
theorem zero_part (w : World) : (zeroValue 110).run Try.prog w = .ok (.agg (partCells zeroPart).toArray) w := (zero_of_info Try.zero110).1 w
theorem lt_drew {g : Nat} {w : World} (h : g < w.heap.size) : g < w.drew.heap.size := h
theorem lt_alloc {g : Nat} {w : World} (h : g < w.heap.size) (o : Obj) : g < (w.alloc o).heap.size := by simp; omega
theorem zero_len : zeroPart.ins.length = 256 := Q.ins0_len
/-- an address that is plain -/
def plainB : Value → Bool
  | .pointer (some ⟨_, _, none⟩) => true
  | _ => false
def blkB : Value → Nat
  | .pointer (some a) => a.block
  | _ => 0
def offB : Value → Nat
  | .pointer (some a) => a.off
  | _ => 0
def cellsB : Value → Array Value
  | .agg c => c
  | _ => #[]
def okB (c : Array Value) : Bool := c.size == 265 && c.all (·.oneCell')
def aggB : Value → Bool
  | .agg c => okB c
  | _ => false
def thereB (w : World) (b o : Nat) : Bool := (List.range 265).all fun j => (w.cell? ⟨b, o + j, none⟩).isSome && w.frozen? ⟨b, o + j, none⟩ == false
theorem plainB_p (b o : Nat) : plainB (.pointer (some ⟨b, o, none⟩)) = true := rfl
theorem blkB_p (b o : Nat) (n : Option Nat) : blkB (.pointer (some ⟨b, o, none⟩)) = b := rfl
theorem offB_p (b o : Nat) : offB (.pointer (some ⟨b, o, none⟩)) = o := rfl
theorem cellsB_a (c : Array Value) : cellsB (.agg c) = c := rfl
theorem aggB_a (c : Array Value) : aggB (.agg c) = okB c := rfl
theorem okB_part {p : Q.Part} (h : p.ins.length = 256) : okB (partCells p).toArray = true := by
  unfold okB
  rw [all_oneCell_toArray (pc_one p), Bool.and_true]
  simp [partCells_len h]
theorem exec_load_part {d : Option Tmp} {x : Operand} {ty : TypeId} {pos : String} {after : Array Edge} {guard : Option (Nat × Bool)} {a : Act} {w : World} (hp : plainB (a.eval x) = true) (hr : (rdAt w (blkB (a.eval x)) (offB (a.eval x))).isSome = true) :
    (execOp a.eval ⟨d, .load 110 x, ty, pos, after, guard⟩).run Try.prog w = .ok (.value (.agg ((rdAt w (blkB (a.eval x)) (offB (a.eval x))).getD #[]))) w := by
  match hx : a.eval x, hp, hr with
  | .pointer (some ⟨b, o, none⟩), _, hr =>
    unfold execOp
    have hr2 : (rdAt w b o).isSome = true := hr
    simp only [hx, Sem.run_bind, load_part hr2, Result.andThen_ok, Sem.run_pure, blkB, offB]
theorem exec_store_part {d : Option Tmp} {x y : Operand} {ty : TypeId} {pos : String} {after : Array Edge} {guard : Option (Nat × Bool)} {a : Act} {w : World} (hp : plainB (a.eval x) = true) (hr : thereB w (blkB (a.eval x)) (offB (a.eval x)) = true) (hc : aggB (a.eval y) = true) :
    (execOp a.eval ⟨d, .store 110 x y, ty, pos, after, guard⟩).run Try.prog w = .ok .skip (w.setCells (blkB (a.eval x)) (offB (a.eval x)) (cellsB (a.eval y)).toList) := by
  match hx : a.eval x, hp, hr with
  | .pointer (some ⟨b, o, none⟩), _, hr =>
    match hy : a.eval y, hc with
    | .agg c, hc =>
      simp only [aggB, okB, Bool.and_eq_true, beq_iff_eq] at hc
      have ht : w.there b o c.size := by
        intro j hj
        rw [hc.1] at hj
        have hr2 : thereB w b o = true := hr
        have := List.all_eq_true.1 hr2 j (List.mem_range.2 hj)
        simpa using this
      unfold execOp
      simp only [hx, hy, Sem.run_bind, run_storeAt_mid w b o _ c ht (by rw [Try.size110, hc.1]) hc.2, Result.andThen_ok, Sem.run_pure, blkB, offB, cellsB]
theorem thereB_new {w : World} {q : Q.Part} (T : TypeId) (hq : q.ins.length = 256) : thereB (w.alloc (.cells (partCells q).toArray T)).drew w.heap.size 0 = true := by
  unfold thereB
  rw [List.all_eq_true]
  intro j hj
  have hj2 := List.mem_range.1 hj
  have hB : BlkT (w.alloc (.cells (partCells q).toArray T)).drew w.heap.size T (partCells q) := BlkT.new w _ _
  rw [hB.frozen, hB.cell, List.getElem?_eq_getElem (by rw [partCells_len hq]; omega)]
  rfl
theorem cell_sc {w : World} {b o : Nat} {cs : List Value} {a : Addr} (h : a.block ≠ b) : (w.setCells b o cs).cell? a = w.cell? a := World.cell?_setCells_out b cs o w a (fun e _ => absurd e h)
theorem rdAt_sc {w : World} {b o g o' : Nat} {cs : List Value} (h : g ≠ b) : rdAt (w.setCells b o cs) g o' = rdAt w g o' := by
  unfold rdAt
  congr 2
  funext j
  exact cell_sc h
theorem size_sc (b : Nat) : ∀ (cs : List Value) (o : Nat) (w : World), (w.setCells b o cs).heap.size = w.heap.size
  | [], _, _ => rfl
  | c :: cs, o, w => by rw [World.setCells, size_sc b cs]; simp
theorem lt_sc {g : Nat} {w : World} {b o : Nat} {cs : List Value} (h : g < w.heap.size) : g < (w.setCells b o cs).heap.size := by rw [size_sc]; exact h
/-- a whole new part -/
theorem new_part {w : World} {p q : Q.Part} (hp : p.ins.length = 256) (hq : q.ins.length = 256) : (w.alloc (.cells (partCells q).toArray 110)).setCells w.heap.size 0 (partCells p) = w.alloc (.cells (partCells p).toArray 110) := by
  have h1 := run_storeAt_new (P := Try.prog) w 110 (partCells q).toArray (partCells p).toArray (by rw [Try.size110]; simp [partCells_len hp]) (by simp [partCells_len hp, partCells_len hq]) (all_oneCell_toArray (pc_one p))
  have h2 := run_storeAt_mid (P := Try.prog) (w.alloc (.cells (partCells q).toArray 110)) w.heap.size 0 110 (partCells p).toArray (fun j hj => by
    have hj2 : j < 265 := by simpa [partCells_len hp] using hj
    have hB : BlkT (w.alloc (.cells (partCells q).toArray 110)) w.heap.size 110 (partCells q) := BlkT.new w _ _
    rw [hB.frozen, hB.cell, List.getElem?_eq_getElem (by rw [partCells_len hq]; omega)]
    exact ⟨rfl, rfl⟩) (by rw [Try.size110]; simp [partCells_len hp]) (all_oneCell_toArray (pc_one p))
  rw [h1] at h2
  simp only [Result.ok.injEq, true_and] at h2
  exact h2.symm
theorem sc_drew (b : Nat) : ∀ (cs : List Value) (o : Nat) (w : World), w.drew.setCells b o cs = (w.setCells b o cs).drew
  | [], _, _ => rfl
  | c :: cs, o, w => by
    rw [World.setCells, World.setCells, ← sc_drew b cs]
    rfl
theorem copy_world {w : World} {p q : Q.Part} (hp : p.ins.length = 256) (hq : q.ins.length = 256) : (w.alloc (.cells (partCells q).toArray 110)).drew.setCells w.heap.size 0 (partCells p) = (w.alloc (.cells (partCells p).toArray 110)).drew := by
  rw [sc_drew, new_part hp hq]
/-- the world within 'add', ahead of the append -/
structure Env (w wA : World) (bt ot g cap : Nat) (ps : List Q.Part) (p : Q.Part) : Prop where
  pt : PtT wA w.heap.size p
  bl : Below w.heap.size w wA
  sz : w.heap.size < wA.heap.size
  lt : bt < w.heap.size
  ct : wA.cell? ⟨bt, ot, none⟩ = some (.slice (some ⟨g, 0, none⟩) ps.length cap)
  gs : g < w.heap.size
  rd : ∀ i, i < ps.length → rdAt wA g (i * 265) = some (partCells (Q.at_ ps i)).toArray
theorem PtT.alloc {w : World} {bp : Nat} {p : Q.Part} (h : PtT w bp p) (o : Obj) : PtT (w.alloc o) bp p := ⟨h.1, BlkT.alloc h.2 o⟩
theorem PtT.drew {w : World} {bp : Nat} {p : Q.Part} (h : PtT w bp p) : PtT w.drew bp p := h
theorem PtT.new (w : World) {p : Q.Part} (h : p.ins.length = 256) : PtT (w.alloc (.cells (partCells p).toArray 110)) w.heap.size p := ⟨h, BlkT.new w _ _⟩
theorem Env.copy {w wA : World} {bt ot g cap : Nat} {ps : List Q.Part} {p q : Q.Part} (E : Env w wA bt ot g cap ps p) : Env w (wA.alloc (.cells (partCells q).toArray 110)).drew bt ot g cap ps p := by
  have h1 := E.bl.size
  have h2 := E.sz
  refine ⟨(E.pt.alloc _).drew, below_drewN (E.bl.alloc h1 _) 1, by show _ < (wA.alloc _).heap.size; simp; omega, E.lt, ?_, E.gs, fun i hi => ?_⟩
  · show (wA.alloc _).cell? _ = _
    rw [World.cell?_alloc_lt _ _ _ (by show bt < _; have := E.lt; omega)]
    exact E.ct
  · rw [rdAt_drew, rdAt_alloc _ (by rw [E.rd i hi]; rfl)]
    exact E.rd i hi
attribute [local go_sem ↓] exec_load_part exec_store_part zero_part
attribute [local go_sem] plainB_p blkB_p offB_p cellsB_a aggB_a okB_part thereB_new
attribute [local simp] rdAt_drew rdAt_alloc rdAt_sc cell_sc

theorem frz {w : World} {b o : Nat} {x : Obj} (h : w.frozen? ⟨b, o, none⟩ = false) (hb : b < w.heap.size) : (w.alloc x).drew.frozen? ⟨b, o, none⟩ = false := by
  show (w.alloc x).frozen? _ = _
  rw [World.frozen?_alloc_past _ _ _ hb]
  exact h
theorem rdAt_grown {w w' : World} {row : Option Nat} {b o : Nat} (hg : w.grownBy w' row) (hr : row ≠ some b) (hb : b < w.heap.size) : rdAt w' b o = rdAt w b o := by
  unfold rdAt
  congr 2
  funext j
  exact hg.cell_far _ hb (Ne.symm hr)
theorem rdAt_set {w : World} {a : Addr} {v : Value} {b o : Nat} (h : a.block ≠ b) : rdAt (w.setCell a v) b o = rdAt w b o := by
  unfold rdAt
  congr 2
  funext j
  exact World.cell?_setCell_other _ _ _ _ (fun e => h (by rw [e]))
attribute [local simp] rdAt_set
theorem own_set {w : World} {B n cap g size : Nat} {e : TypeId} {xs : List Value} (h : w.ownsRow B e size (.slice (some ⟨g, 0, none⟩) n cap) n xs) {a : Addr} (hne : a.block ≠ g) (x : Value) : (w.setCell a x).ownsRow B e size (.slice (some ⟨g, 0, none⟩) n cap) n xs := by
  obtain ⟨h1, ⟨h, _⟩ | ⟨g', cap', cur, hv, hb, hg, h2⟩⟩ := h
  · cases h
  · cases hv
    exact ⟨h1, .inr ⟨g, cap, cur, rfl, hb, (Below.heap_setCell _ _ _ _ (fun e => hne e.symm)).trans hg, h2⟩⟩
theorem below_drew {B : Nat} {a w : World} (h : Below B a w) : Below B a w.drew := ⟨h.os, h.tape, h.output, h.size, h.block⟩
def zeroIf (K : Q.Part) : Nat := if K.some = false then 0 else K.places
def anyTo (p : Q.Part) (k : Nat) : Bool := p.some || Q.anyIn (p.ins.take k)
theorem anyTo_succ (p : Q.Part) (k : Nat) (hk : k < p.ins.length) : anyTo p (k + 1) = (anyTo p k || p.ins.getD k false) := by
  unfold anyTo Q.anyIn
  rw [List.take_succ_eq_append_getElem hk, List.any_append, List.getD_eq_getElem?_getD, List.getElem?_eq_getElem hk]
  simp [Bool.or_assoc]
theorem fold_set : ∀ (l : List Value) (k : Nat) (A : Array Value), A.size = k + l.length → ((l.zipIdx k).foldl (fun cs x => cs.setIfInBounds (0 + x.2) x.1) A).toList = A.toList.take k ++ l
  | [], k, A, h => by
    simp only [List.zipIdx_nil, List.foldl_nil, List.append_nil]
    rw [List.take_of_length_le (by simp at h ⊢; omega)]
  | c :: l, k, A, h => by
    rw [List.zipIdx_cons, List.foldl_cons, fold_set l (k + 1) _ (by simp at h ⊢; omega)]
    have hk : k < A.toList.length := by simp at h ⊢; omega
    simp only [Nat.zero_add, Array.toList_setIfInBounds]
    rw [List.take_succ_eq_append_getElem (by simpa using hk), List.take_set]
    simp only [List.getElem_set_self]
    rw [List.set_eq_of_length_le (by simp; omega), List.append_assoc]
    rfl
theorem fill_one (c : Array Value) (A : Array Value) (hA : A.size = 265) (hc : c.size = 265) : Instr.fill (fun i => some (i * 265, 265)) A [(0, .agg c)] = some c := by
  unfold Instr.fill
  simp only [Value.cells, hc, hA]
  simp only [ne_eq, not_true_eq_false, decide_false, Nat.zero_mul, Nat.zero_add, gt_iff_lt, Nat.lt_irrefl, Bool.or_self, Bool.false_eq_true, if_false]
  unfold Instr.fill
  congr 1
  apply Array.toList_inj.1
  have := fold_set c.toList 0 A (by simp [hA, hc])
  rw [List.take_zero, List.nil_append] at this
  rw [← this, ← Array.foldl_toList, Array.toList_zipIdx]
  simp
theorem exec_one_part {d : Option Tmp} {x : Operand} {ty : TypeId} {pos : String} {after : Array Edge} {guard : Option (Nat × Bool)} {a : Act} {w : World} (hc : aggB (a.eval x) = true) :
    (execOp a.eval ⟨d, .buildSlice 103 1 #[(0, x)], ty, pos, after, guard⟩).run Try.prog w = .ok (.value (.slice (some ⟨w.heap.size, 0, none⟩) 1 1)) (w.alloc (.cells (cellsB (a.eval x)) 110)) := by
  match hx : a.eval x, hc with
  | .agg c, hc =>
    simp only [aggB, okB, Bool.and_eq_true, beq_iff_eq] at hc
    obtain ⟨i0, hi0, hz0, hz1, hz2⟩ := info_parts Try.info110
    have hf : Instr.fill (fun i => some (i * i0.size, i0.size)) ((Array.range (1 * i0.size)).map ((Value.agg (partCells (Q.mk 0 0 0)).toArray).cells[· % (Value.agg (partCells (Q.mk 0 0 0)).toArray).cells.size]!)) [(0, .agg c)] = some c := by
      rw [hz1]
      exact fill_one c _ (by simp) hc.1
    have := run_buildSlice (P := Try.prog) w 103 110 1 #[(0, .agg c)] c i0 _ Try.underlying103 hi0 hz0 (by rw [hz1]; decide) (by rw [hz1]; decide) hf
    unfold execOp
    simp only [Sem.run_bind]
    have e : (Array.map (fun (y : Nat × Operand) => (y.1, a.eval y.2)) #[(0, x)]) = #[(0, .agg c)] := by simp [hx]
    rw [e, this]
    rfl
attribute [local go_sem ↓] exec_one_part

set_option maxRecDepth 10000 in
set_option maxHeartbeats 6400000 in
theorem add_any (bt ot B : Nat) (T : TypeId) (vs : List Value) (ps : List Q.Part) (p : Q.Part) (v : Value) (w : World) (hB : BlkT w bt T vs) (hv : vs[ot]? = some v) (hown : w.ownsRow B 110 265 v ps.length (allCells ps)) (hBb : v.ownBlock ≠ some bt)
    (hBs : B ≤ w.heap.size) (hbt : B ≤ bt) (hn : ps.length ≤ 10000) (hps : Q.PartsOk ps) (hp : Q.PartOk ps.length p) :
    Calls Try.prog 103 #[.pointer (some ⟨bt, ot, none⟩), .agg (partCells p).toArray] w fun e w' => e = .returned (.int .i64 (ps.length : Int)) ∧ ∃ v', BlkT w' bt T (vs.set ot v') ∧ w'.ownsRow B 110 265 v' (ps.length + 1) (allCells ps ++ partCells (Q.fill ps p)) ∧ v'.ownBlock ≠ some bt ∧ Below B w w' := by
  have hl := hp.ins
  have e0 : (partCells p)[0]? = some (.int .i64 (p.kind : Int)) := rfl
  have hblt := hB.lt
  have hct : w.cell? ⟨bt, ot, none⟩ = some v := (hB.cell ot).trans hv
  have HPT : Hid (PtT (w.alloc (.cells (partCells p).toArray 110)) w.heap.size p) := ⟨hl, BlkT.new w _ _⟩
  go_enter Try.func103, Try.ntmps103
  go_upto_block 0 with fail
  go_cut [] from 12 (fun wc => PtT wc w.heap.size (Q.known ps p) ∧ Below w.heap.size w wc)
  case first =>
    have HBw : Hid (Below w.heap.size w (w.alloc (.cells (partCells p).toArray 110))) := (Below.refl _ _).alloc (Nat.le_refl _) _
    obtain ⟨d0, d1, d2, d3, d4, d5, d6, d7⟩ := HPT.out.cells
    have dk := HPT.out.cell0
    have df := HPT.out.frozen
    have hct1 : (w.alloc (.cells (partCells p).toArray 110)).cell? ⟨bt, ot, none⟩ = some v := by rw [World.cell?_alloc_lt _ _ _ (by simpa using hblt)]; exact hct
    have HSZ : Hid ((w.alloc (.cells (partCells p).toArray 110)).heap.size = w.heap.size + 1) := by show _ = _; simp
    have HOW : Hid ((w.alloc (.cells (partCells p).toArray 110)).ownsRow B 110 265 v ps.length (allCells ps)) := hown.alloc _
    generalize hw0 : w.alloc (.cells (partCells p).toArray 110) = w0 at *
    clear hw0
    have hk := hp.kind
    by_cases h0 : p.kind = 0
    · have HE : Hid (Q.known ps p = { p with some := true, empty := true }) := by show _ = _; unfold Q.known; rw [if_pos h0]
      rw [h0]
      go_wp2
      go_meet
      case rel =>
        rw [HE.out]
        exact ⟨(HPT.out.some true).empty true, (HBw.out.setCell (by simp) _).setCell (by simp) _⟩
    by_cases h1 : p.kind = 1
    · have HE : Hid (Q.known ps p = { p with some := anyTo p 256, places := 1 }) := by
        show _ = _
        unfold Q.known anyTo
        rw [if_neg h0, if_pos h1, List.take_of_length_le (by omega)]
      have HP0 : Hid (PtT w0 w.heap.size { p with some := anyTo p 0 }) := by
        show PtT _ _ _
        have e : anyTo p 0 = p.some := by unfold anyTo Q.anyIn; simp
        rw [e]
        exact HPT.out
      rw [h1]
      clear d0 d1 d2 d3 d4 d5 d6 d7 dk df HPT hct1 hct hv
      go_wp2_with fail
      go_loopw [20] (fun i wr => ∃ k : Nat, k ≤ 256 ∧ i = .int .i64 k ∧ PtT wr w.heap.size { p with some := anyTo p k } ∧ Below w.heap.size w wr) (fun i _ => 256 - (intOf i).toNat)
      case atStart => exact ⟨0, by omega, rfl, HP0.out, HBw.out⟩
      case round =>
        obtain ⟨k, hk, rfl, hPk, hBk⟩ := hrel
        by_cases hlt : k < 256
        · have hc := hPk.cellI k hlt
          obtain ⟨_, _, _, _, _, d5, _⟩ := hPk.cells
          have df := hPk.frozen
          have hks : (k : Int) < 256 := by omega
          have HS : Hid (anyTo p (k + 1) = (anyTo p k || p.ins.getD k false)) := anyTo_succ p k (by omega)
          have HN : Hid (∀ b, PtT (wr.setCell ⟨w.heap.size, 262, none⟩ (.bool b)) w.heap.size { p with some := b }) := fun b => by have := hPk.some b; exact this
          have HBk : Hid (Below w.heap.size w wr) := hBk
          clear hPk hBk
          generalize p.ins.getD k false = x at *
          cases hb : anyTo p k with
          | true =>
            rw [hb] at d5
            simp only at d5
            go_wp2
            go_roundw
            case rel => exact ⟨k + 1, by omega, by go_num, by rw [HS.out, hb]; exact HN.out _, HBk.out.setCell (by simp) _⟩
            case measure => simp [intOf]; omega
          | false =>
            simp only [hb] at d5
            go_wp2
            go_roundw
            case rel => exact ⟨k + 1, by omega, by go_num, by rw [HS.out, hb, Bool.false_or]; exact HN.out _, HBk.out.setCell (by simp) _⟩
            case measure => simp [intOf]; omega
        · obtain rfl : k = 256 := by omega
          obtain ⟨_, _, _, _, _, _, _, d7⟩ := hPk.cells
          have df := hPk.frozen
          go_wp2
          go_meet
          case rel =>
            rw [HE.out]
            exact ⟨hPk.places 1, hBk.setCell (by simp) _⟩
    by_cases h2 : p.kind = 2
    · have hleft := hp.left (by omega)
      have hright := hp.right (.inl h2)
      obtain ⟨g, cap, rfl, hcap, hg, hrow⟩ := parts_open hown hps (by intro e; rw [e] at hleft; simp at hleft)
      have E0 : Env w w0 bt ot g cap ps p := ⟨HPT.out, HBw.out, by have := HSZ.out; omega, hblt, hct1, hg, fun i hi => rdAt_of (fun j x hx => by
        have := hrow i hi j x hx
        rw [HBw.out.cell (p := ⟨g, i * 265 + j, none⟩) hg]
        exact this) (hps.get _ hi).1.ins⟩
      have hzz := zero_len
      clear hrow hk h0 h1 d0 d1 d2 d3 d4 d5 d6 d7 dk df HPT HBw HSZ HOW hct1 hct hown hv hBb
      rw [h2]
      have hr_left := E0.rd p.left hleft
      have hc_left := E0.ct
      have hll_left := (hps.get _ hleft).1.ins
      have hg_left : g ≠ w0.heap.size := by have := E0.gs; have := E0.sz; omega
      have hb_left : bt ≠ w0.heap.size := by have := E0.lt; have := E0.sz; omega
      have hn_left : w.heap.size ≠ w0.heap.size := by have := E0.sz; omega
      have d_left : w0.cell? ⟨w.heap.size, 257, none⟩ = some (.int .i64 (p.left : Int)) := E0.pt.cells.1
      have i0_left : (0 : Int) ≤ (p.left : Int) := by omega
      have i1_left : (p.left : Int) < (ps.length : Int) := by omega
      go_wp2_with fail
      go_region_held3 (fun w' => w'.cell? ⟨bt, ot, none⟩ = some (.slice (some ⟨g, 0, none⟩) ps.length cap) ∧ w'.cell? ⟨w.heap.size, 257, none⟩ = some (.int .i64 (p.left : Int)) ∧ rdAt w' g (p.left * 265) = some (partCells (Q.at_ ps p.left)).toArray) (first | go_keep | (go_split_ands; refine ⟨?_, ?_, ?_⟩ <;> first | assumption | (simp [*]; done))) (fail)
      rw [copy_world hll_left hzz]
      have E1 := E0.copy (q := Q.at_ ps p.left)
      have hP_left : PtT (w0.alloc (.cells (partCells (Q.at_ ps p.left)).toArray 110)).drew w0.heap.size (Q.at_ ps p.left) := (PtT.new w0 hll_left).drew
      clear hr_left hc_left hg_left hn_left d_left i0_left i1_left
      generalize (w0.alloc (.cells (partCells (Q.at_ ps p.left)).toArray 110)).drew = wA at *
      have hr_right := E1.rd p.right hright
      have hc_right := E1.ct
      have hll_right := (hps.get _ hright).1.ins
      have hg_right : g ≠ wA.heap.size := by have := E1.gs; have := E1.sz; omega
      have hb_right : bt ≠ wA.heap.size := by have := E1.lt; have := E1.sz; omega
      have hn_right : w.heap.size ≠ wA.heap.size := by have := E1.sz; omega
      have d_right : wA.cell? ⟨w.heap.size, 258, none⟩ = some (.int .i64 (p.right : Int)) := E1.pt.cells.2.1
      have i0_right : (0 : Int) ≤ (p.right : Int) := by omega
      have i1_right : (p.right : Int) < (ps.length : Int) := by omega
      go_wp2_with fail
      go_region_held3 (fun w' => w'.cell? ⟨bt, ot, none⟩ = some (.slice (some ⟨g, 0, none⟩) ps.length cap) ∧ w'.cell? ⟨w.heap.size, 258, none⟩ = some (.int .i64 (p.right : Int)) ∧ rdAt w' g (p.right * 265) = some (partCells (Q.at_ ps p.right)).toArray) (first | go_keep | (go_split_ands; refine ⟨?_, ?_, ?_⟩ <;> first | assumption | (simp [*]; done))) (fail)
      rw [copy_world hll_right hzz]
      have E2 := E1.copy (q := Q.at_ ps p.right)
      have hP_right : PtT (wA.alloc (.cells (partCells (Q.at_ ps p.right)).toArray 110)).drew wA.heap.size (Q.at_ ps p.right) := (PtT.new wA hll_right).drew
      have hPL : PtT (wA.alloc (.cells (partCells (Q.at_ ps p.right)).toArray 110)).drew w0.heap.size (Q.at_ ps p.left) := (hP_left.alloc _).drew
      clear hP_left
      clear hr_right hc_right hg_right hn_right d_right i0_right i1_right
      generalize (wA.alloc (.cells (partCells (Q.at_ ps p.right)).toArray 110)).drew = wB at *
      obtain ⟨_, _, _, _, _, l5, l6, l7⟩ := hPL.cells
      obtain ⟨_, _, _, _, _, r5, r6, r7⟩ := hP_right.cells
      obtain ⟨_, _, _, _, _, p5, p6, p7⟩ := E2.pt.cells
      have pf := E2.pt.frozen
      have n1 : w0.heap.size ≠ w.heap.size := by have := E0.sz; omega
      have n2 : wA.heap.size ≠ w.heap.size := by have := E1.sz; omega
      have ql := (hps.get _ hleft).1.places
      have qr := (hps.get _ hright).1.places
      have HE : Hid (Q.known ps p = { p with some := (Q.at_ ps p.left).some && (Q.at_ ps p.right).some, empty := (Q.at_ ps p.left).empty && (Q.at_ ps p.right).empty, places := (Q.at_ ps p.left).places + (Q.at_ ps p.right).places }) := by
        show _ = _
        unfold Q.known
        simp [h2]
      have HEN : Hid (Env w wB bt ot g cap ps p) := E2
      clear E0 E1 E2 hPL hP_right
      generalize Q.at_ ps p.left = pl at *
      generalize Q.at_ ps p.right = pr at *
      cases hs1 : pl.some <;> cases he1 : pl.empty <;>
      · rw [hs1] at l5
        rw [he1] at l6
        go_wp2
        go_meet
        case rel =>
          rw [HE.out, hs1, he1]
          exact ⟨((HEN.out.pt.some _).empty _).places _, ((HEN.out.bl.setCell (by simp) _).setCell (by simp) _).setCell (by simp) _⟩
    by_cases h3 : p.kind = 3
    · have hleft := hp.left (by omega)
      have hright := hp.right (.inr h3)
      obtain ⟨g, cap, rfl, hcap, hg, hrow⟩ := parts_open hown hps (by intro e; rw [e] at hleft; simp at hleft)
      have E0 : Env w w0 bt ot g cap ps p := ⟨HPT.out, HBw.out, by have := HSZ.out; omega, hblt, hct1, hg, fun i hi => rdAt_of (fun j x hx => by
        have := hrow i hi j x hx
        rw [HBw.out.cell (p := ⟨g, i * 265 + j, none⟩) hg]
        exact this) (hps.get _ hi).1.ins⟩
      have hzz := zero_len
      clear hrow hk h0 h1 d0 d1 d2 d3 d4 d5 d6 d7 dk df HPT HBw HSZ HOW hct1 hct hown hv hBb
      rw [h3]
      have hr_left := E0.rd p.left hleft
      have hc_left := E0.ct
      have hll_left := (hps.get _ hleft).1.ins
      have hg_left : g ≠ w0.heap.size := by have := E0.gs; have := E0.sz; omega
      have hb_left : bt ≠ w0.heap.size := by have := E0.lt; have := E0.sz; omega
      have hn_left : w.heap.size ≠ w0.heap.size := by have := E0.sz; omega
      have d_left : w0.cell? ⟨w.heap.size, 257, none⟩ = some (.int .i64 (p.left : Int)) := E0.pt.cells.1
      have i0_left : (0 : Int) ≤ (p.left : Int) := by omega
      have i1_left : (p.left : Int) < (ps.length : Int) := by omega
      go_wp2_with fail
      go_region_held3 (fun w' => w'.cell? ⟨bt, ot, none⟩ = some (.slice (some ⟨g, 0, none⟩) ps.length cap) ∧ w'.cell? ⟨w.heap.size, 257, none⟩ = some (.int .i64 (p.left : Int)) ∧ rdAt w' g (p.left * 265) = some (partCells (Q.at_ ps p.left)).toArray) (first | go_keep | (go_split_ands; refine ⟨?_, ?_, ?_⟩ <;> first | assumption | (simp [*]; done))) (fail)
      rw [copy_world hll_left hzz]
      have E1 := E0.copy (q := Q.at_ ps p.left)
      have hP_left : PtT (w0.alloc (.cells (partCells (Q.at_ ps p.left)).toArray 110)).drew w0.heap.size (Q.at_ ps p.left) := (PtT.new w0 hll_left).drew
      clear hr_left hc_left hg_left hn_left d_left i0_left i1_left
      generalize (w0.alloc (.cells (partCells (Q.at_ ps p.left)).toArray 110)).drew = wA at *
      have hr_right := E1.rd p.right hright
      have hc_right := E1.ct
      have hll_right := (hps.get _ hright).1.ins
      have hg_right : g ≠ wA.heap.size := by have := E1.gs; have := E1.sz; omega
      have hb_right : bt ≠ wA.heap.size := by have := E1.lt; have := E1.sz; omega
      have hn_right : w.heap.size ≠ wA.heap.size := by have := E1.sz; omega
      have d_right : wA.cell? ⟨w.heap.size, 258, none⟩ = some (.int .i64 (p.right : Int)) := E1.pt.cells.2.1
      have i0_right : (0 : Int) ≤ (p.right : Int) := by omega
      have i1_right : (p.right : Int) < (ps.length : Int) := by omega
      go_wp2_with fail
      go_region_held3 (fun w' => w'.cell? ⟨bt, ot, none⟩ = some (.slice (some ⟨g, 0, none⟩) ps.length cap) ∧ w'.cell? ⟨w.heap.size, 258, none⟩ = some (.int .i64 (p.right : Int)) ∧ rdAt w' g (p.right * 265) = some (partCells (Q.at_ ps p.right)).toArray) (first | go_keep | (go_split_ands; refine ⟨?_, ?_, ?_⟩ <;> first | assumption | (simp [*]; done))) (fail)
      rw [copy_world hll_right hzz]
      have E2 := E1.copy (q := Q.at_ ps p.right)
      have hP_right : PtT (wA.alloc (.cells (partCells (Q.at_ ps p.right)).toArray 110)).drew wA.heap.size (Q.at_ ps p.right) := (PtT.new wA hll_right).drew
      have hPL : PtT (wA.alloc (.cells (partCells (Q.at_ ps p.right)).toArray 110)).drew w0.heap.size (Q.at_ ps p.left) := (hP_left.alloc _).drew
      clear hP_left
      clear hr_right hc_right hg_right hn_right d_right i0_right i1_right
      generalize (wA.alloc (.cells (partCells (Q.at_ ps p.right)).toArray 110)).drew = wB at *
      obtain ⟨_, _, _, _, _, l5, l6, l7⟩ := hPL.cells
      obtain ⟨_, _, _, _, _, r5, r6, r7⟩ := hP_right.cells
      obtain ⟨_, _, _, _, _, p5, p6, p7⟩ := E2.pt.cells
      have pf := E2.pt.frozen
      have n1 : w0.heap.size ≠ w.heap.size := by have := E0.sz; omega
      have n2 : wA.heap.size ≠ w.heap.size := by have := E1.sz; omega
      have ql := (hps.get _ hleft).1.places
      have qr := (hps.get _ hright).1.places
      have HE : Hid (Q.known ps p = { p with some := (Q.at_ ps p.left).some || (Q.at_ ps p.right).some, empty := (Q.at_ ps p.left).empty || (Q.at_ ps p.right).empty, places := (Q.at_ ps p.left).places + (Q.at_ ps p.right).places }) := by
        show _ = _
        unfold Q.known
        simp [h3]
      have HEN : Hid (Env w wB bt ot g cap ps p) := E2
      clear E0 E1 E2 hPL hP_right
      generalize Q.at_ ps p.left = pl at *
      generalize Q.at_ ps p.right = pr at *
      cases hs1 : pl.some <;> cases he1 : pl.empty <;>
      · rw [hs1] at l5
        rw [he1] at l6
        go_wp2
        go_meet
        case rel =>
          rw [HE.out, hs1, he1]
          exact ⟨((HEN.out.pt.some _).empty _).places _, ((HEN.out.bl.setCell (by simp) _).setCell (by simp) _).setCell (by simp) _⟩
    by_cases h4 : p.kind = 4
    · have hleft := hp.left (by omega)
      obtain ⟨g, cap, rfl, hcap, hg, hrow⟩ := parts_open hown hps (by intro e; rw [e] at hleft; simp at hleft)
      have E0 : Env w w0 bt ot g cap ps p := ⟨HPT.out, HBw.out, by have := HSZ.out; omega, hblt, hct1, hg, fun i hi => rdAt_of (fun j x hx => by
        have := hrow i hi j x hx
        rw [HBw.out.cell (p := ⟨g, i * 265 + j, none⟩) hg]
        exact this) (hps.get _ hi).1.ins⟩
      have hzz := zero_len
      clear hrow hk h0 h1 d0 d1 d2 d3 d4 d5 d6 d7 dk df HPT HBw HSZ HOW hct1 hct hown hv hBb
      rw [h4]
      have hr_left := E0.rd p.left hleft
      have hc_left := E0.ct
      have hll_left := (hps.get _ hleft).1.ins
      have hg_left : g ≠ w0.heap.size := by have := E0.gs; have := E0.sz; omega
      have hb_left : bt ≠ w0.heap.size := by have := E0.lt; have := E0.sz; omega
      have hn_left : w.heap.size ≠ w0.heap.size := by have := E0.sz; omega
      have d_left : w0.cell? ⟨w.heap.size, 257, none⟩ = some (.int .i64 (p.left : Int)) := E0.pt.cells.1
      have i0_left : (0 : Int) ≤ (p.left : Int) := by omega
      have i1_left : (p.left : Int) < (ps.length : Int) := by omega
      go_wp2_with fail
      go_region_held3 (fun w' => w'.cell? ⟨bt, ot, none⟩ = some (.slice (some ⟨g, 0, none⟩) ps.length cap) ∧ w'.cell? ⟨w.heap.size, 257, none⟩ = some (.int .i64 (p.left : Int)) ∧ rdAt w' g (p.left * 265) = some (partCells (Q.at_ ps p.left)).toArray) (first | go_keep | (go_split_ands; refine ⟨?_, ?_, ?_⟩ <;> first | assumption | (simp [*]; done))) (fail)
      rw [copy_world hll_left hzz]
      have E1 := E0.copy (q := Q.at_ ps p.left)
      have hP_left : PtT (w0.alloc (.cells (partCells (Q.at_ ps p.left)).toArray 110)).drew w0.heap.size (Q.at_ ps p.left) := (PtT.new w0 hll_left).drew
      clear hr_left hc_left hg_left hn_left d_left i0_left i1_left
      generalize (w0.alloc (.cells (partCells (Q.at_ ps p.left)).toArray 110)).drew = wA at *
      obtain ⟨_, _, _, _, _, l5, l6, l7⟩ := hP_left.cells
      obtain ⟨_, _, p2, _, _, p5, p6, p7⟩ := E1.pt.cells
      have pf := E1.pt.frozen
      have n1 : w0.heap.size ≠ w.heap.size := by have := E0.sz; omega
      have ql := (hps.get _ hleft).1.places
      have hlow := hp.low
      have hco : p.copies ≤ 100 := by have := hp.high; unfold Q.Part.copies; split <;> omega
      have hmul : (Q.at_ ps p.left).places * p.copies ≤ 4900 := Nat.mul_le_mul ql hco
      have HE : Hid (Q.known ps p = { p with some := (Q.at_ ps p.left).some || decide (p.low = 0), empty := (Q.at_ ps p.left).empty || decide (p.low = 0), places := (Q.at_ ps p.left).places * p.copies }) := by
        show _ = _
        unfold Q.known
        simp [h4]
      have HEN : Hid (Env w wA bt ot g cap ps p) := E1
      have HQ0 : Hid (((p.low : Int) == 0) = decide (p.low = 0)) := by show _ = _; rw [Bool.eq_iff_iff]; simp
      clear E0 E1 hP_left
      generalize Q.at_ ps p.left = pl at *
      have HQ1 : Hid (((pl.places * p.copies : Nat) : Int) = (pl.places : Int) * (p.copies : Int)) := Int.natCast_mul _ _
      cases hs1 : pl.some <;> cases he1 : pl.empty <;>
      · rw [hs1] at l5
        rw [he1] at l6
        go_wp2_with (go_at_call 117; refine (copies_any w.heap.size p _ HEN.out.pt hlow).mono ?_; rintro e w9 ⟨rfl, rfl⟩)
        go_meet
        case rel =>
          rw [HE.out, hs1, he1, ← HQ0.out, ← HQ1.out]
          exact ⟨((HEN.out.pt.some _).empty _).places _, ((HEN.out.bl.setCell (by simp) _).setCell (by simp) _).setCell (by simp) _⟩
    omega
  case rest =>
    clear HPT e0 hl
    obtain ⟨hPc, hBc⟩ := hcut
    obtain ⟨_, _, _, _, _, c5, _, c7⟩ := hPc.cells
    have cf := hPc.frozen
    go_upto_if 144 with fail
    go_cut [] from 142 (fun wd => PtT wd w.heap.size { Q.known ps p with places := zeroIf (Q.known ps p) } ∧ Below w.heap.size w wd)
    case first =>
      cases hs : (Q.known ps p).some with
      | true =>
        rw [hs] at c5
        go_wp2
        go_meet
        case rel => exact ⟨by unfold zeroIf; rw [if_neg (by rw [hs]; decide)]; exact hPc, hBc⟩
      | false =>
        rw [hs] at c5
        go_wp2
        go_meet
        case rel => exact ⟨by unfold zeroIf; rw [if_pos hs]; exact hPc.places 0, hBc.setCell (by simp) _⟩
    case rest =>
      clear hPc hBc c5 c7 cf
      obtain ⟨hPd, hBd⟩ := hcut
      obtain ⟨_, _, _, _, _, _, _, c7⟩ := hPd.cells
      have cf := hPd.frozen
      go_upto_if 148 with fail
      go_cut [] from 142 (fun we => PtT we w.heap.size (Q.fill ps p) ∧ Below w.heap.size w we)
      case first =>
        have HF : Hid (Q.fill ps p = { Q.known ps p with places := if 48 < zeroIf (Q.known ps p) then 49 else zeroIf (Q.known ps p) }) := by
          show _ = _
          unfold Q.fill Q.cut zeroIf
          by_cases hs : (Q.known ps p).some = false
          · simp [hs]
          · simp [hs]
        by_cases h48 : 48 < zeroIf (Q.known ps p)
        · go_wp2
          go_meet
          case rel => exact ⟨by rw [HF.out, if_pos h48]; exact hPd.places 49, hBd.setCell (by simp) _⟩
        · go_wp2
          go_meet
          case rel => exact ⟨by rw [HF.out, if_neg h48]; exact hPd, hBd⟩
      case rest =>
        clear hPd hBd c7 cf
        obtain ⟨hPe, hBe⟩ := hcut
        have hBT : BlkT wc bt T vs := (hBe.block bt hblt).trans hB
        have hct2 : wc.cell? ⟨bt, ot, none⟩ = some v := (hBT.cell ot).trans hv
        have hcf : wc.frozen? ⟨bt, ot, none⟩ = false := hBT.frozen ot
        have hrd : rdAt wc w.heap.size 0 = some (partCells (Q.fill ps p)).toArray := rdAt_of (fun j x hx => by rw [Nat.zero_add, hPe.2.cell j]; exact hx) hPe.1
        have hsz := hPe.2.lt
        have HO : Hid (wc.ownsRow B 110 265 v ps.length (allCells ps)) := by
          show World.ownsRow _ _ _ _ _ _ _
          obtain ⟨h1, h | ⟨g, cap, cur, hv2, hb, hg, h2⟩⟩ := hown
          · exact ⟨h1, .inl h⟩
          · exact ⟨h1, .inr ⟨g, cap, cur, hv2, hb, (hBe.block g (Array.getElem?_eq_some_iff.1 hg).1).trans hg, h2⟩⟩
        have hfl := hPe.1
        have nb1 : bt ≠ wc.heap.size := by omega
        have nb0 : bt < wc.heap.size := by omega
        have nb2 : w.heap.size ≠ wc.heap.size := by omega
        obtain ⟨i0, hi0, hz0, hz1, hz2⟩ := info_parts Try.info110
        have hlw : B ≤ wc.heap.size := by omega
        have hones := pc_one (Q.fill ps p)
        have hfc := partCells_len hPe.1
        have HB3 : Hid (ps.length + 1 ≤ maxLen) := by show _ ≤ _; unfold maxLen; omega
        have HCF : Hid (wc.frozen? ⟨bt, ot, none⟩ = false) := hcf
        have NB0 : Hid (bt < wc.heap.size) := nb0
        clear hct
        go_wp2_with fail
        have HC1 : Hid ((wc.alloc (.cells (partCells (Q.fill ps p)).toArray 110)).drew.cell? ⟨bt, ot, none⟩ = some v) := by
          show (wc.alloc _).cell? _ = _
          rw [World.cell?_alloc_lt _ _ _ nb0]
          exact hct2
        have HF1 : Hid ((wc.alloc (.cells (partCells (Q.fill ps p)).toArray 110)).drew.frozen? ⟨bt, ot, none⟩ = false) := frz hcf nb0
        have HR1 : Hid (rdAt (wc.alloc (.cells (partCells (Q.fill ps p)).toArray 110)).drew w.heap.size 0 = some (partCells (Q.fill ps p)).toArray) := by
          show _ = _
          rw [rdAt_drew, rdAt_alloc _ (by rw [hrd]; rfl)]
          exact hrd
        have nb3 : bt ≠ w.heap.size := by omega
        have hvb : v.ownBlock ≠ some w.heap.size := by
          obtain ⟨_, ⟨rfl, _⟩ | ⟨g, cap, cur, rfl, _, hg, _⟩⟩ := hown
          · intro e; cases e
          · intro e
            cases e
            exact absurd (Array.getElem?_eq_some_iff.1 hg).1 (Nat.lt_irrefl _)
        go_region_law
          ((refine step_append_lies _ (by rfl) _ _ _ (by rfl) B 110 i0 _ 265 312 Try.underlying103 hi0 hz0 hz1 hz2 rfl (by omega) v ps.length (allCells ps) (by rfl) ((HO.out.alloc _).drew)
              ⟨wc.heap.size, 0, none⟩ 1 1 (partCells (Q.fill ps p)) (by rfl) hfc (World.news_of_block (cs := (partCells (Q.fill ps p)).toArray) (t := 110) (fr := (0, 0)) (heap_alloc_new wc _)) hones
              (by omega) HB3.out (by omega) (by simp; omega) (wc.heap.size + 1) (by simp) ?_; intro gg cap w1 hown1 hgrow hat hlt; have hcw1 : w1.cell? ⟨bt, ot, none⟩ = some v := (hgrow.cell_far _ (by simp; omega) (Ne.symm hBb)).trans HC1.out; have hfw1 : w1.frozen? ⟨bt, ot, none⟩ = false := (hgrow.frozen_far _ (by simp; omega) (Ne.symm hBb)).trans HF1.out))
        all_goals
          have hne : gg ≠ bt := by
            rcases hat with h | h
            · exact fun e => hBb (by rw [h, e])
            · omega
          have hBT1 : BlkT w1 bt T vs := (hgrow.block bt (by simp; omega) (Ne.symm hBb)).trans (BlkT.alloc hBT _)
          have hfz1 := hBT1.frozen ot
          go_wp2
          go_ret
          refine ⟨ret_int (by omega), _, BlkT.set hBT1 ot _, own_set hown1 hne.symm _, fun e => hne (by cases e; rfl), ?_⟩
          have b1 : Below B w wc := hBe.mono hBs
          have b2 : Below B wc (wc.alloc (.cells (partCells (Q.fill ps p)).toArray 110)).drew := below_drew ((Below.refl B wc).alloc hlw _)
          have b3 : Below B (wc.alloc (.cells (partCells (Q.fill ps p)).toArray 110)).drew w1 := ⟨hgrow.os, hgrow.tape, hgrow.output, hgrow.size, fun k hk => hgrow.block k (by simp; omega) (fun e => by
            obtain ⟨_, ⟨rfl, _⟩ | ⟨g, cap, cur, rfl, hb, _⟩⟩ := hown
            · cases e
            · have e2 : k = g := Option.some.inj e
              have h3 : B ≤ g := hb
              omega)⟩
          exact ((b1.trans b2).trans b3).setCell hbt _
end Go.Proofs.Ytjmkkkfloalliaa

namespace Go.Proofs.Ytjmkkkfloalliaa
set_option linter.unusedVariables false
open Go.RowKit

theorem own_keep {S : List Nat} {w w' : World} {B n size : Nat} {e : TypeId} {v : Value} {xs : List Value} (h : w.ownsRow B e size v n xs) (k : Keep S w w') (hS : ∀ b, v.ownBlock = some b → b ∉ S) : w'.ownsRow B e size v n xs := by
  obtain ⟨h1, h | ⟨g, cap, cur, rfl, hb, hg, h2⟩⟩ := h
  · exact ⟨h1, .inl h⟩
  · exact ⟨h1, .inr ⟨g, cap, cur, rfl, hb, (k.block g (Array.getElem?_eq_some_iff.1 hg).1 (hS g rfl)).trans hg, h2⟩⟩
theorem own_lt {w : World} {B n size : Nat} {e : TypeId} {v : Value} {xs : List Value} (h : w.ownsRow B e size v n xs) : ∀ b, v.ownBlock = some b → b < w.heap.size := by
  intro b hb
  obtain ⟨_, ⟨rfl, _⟩ | ⟨g, cap, cur, rfl, _, hg, _⟩⟩ := h
  · cases hb
  · cases hb
    exact (Array.getElem?_eq_some_iff.1 hg).1

/-- the reader with its parts -/
structure Rt (w : World) (B br : Nat) (pat : ByteArray) (σ : Q.Rd) (v : Value) : Prop where
  rd : RdT w br pat σ v
  own : w.ownsRow B 110 265 v σ.parts.length (allCells σ.parts)
  ne : v.ownBlock ≠ some br
theorem allCells_snoc (ps : List Q.Part) (p : Q.Part) : allCells (ps ++ [p]) = allCells ps ++ partCells p := by
  unfold allCells
  rw [List.flatMap_append]
  simp
theorem Rt.keep {w w' : World} {B br : Nat} {pat : ByteArray} {σ τ : Q.Rd} {v : Value} {S : List Nat} (h : Rt w B br pat σ v) (k : Keep S w w') (hS : ∀ b, v.ownBlock = some b → b ∉ S) (hp : τ.parts = σ.parts) (hr : RdT w' br pat τ v) : Rt w' B br pat τ v :=
  ⟨hr, by rw [hp]; exact own_keep h.own k hS, h.ne⟩
theorem Rt.lt {w : World} {B br : Nat} {pat : ByteArray} {σ : Q.Rd} {v : Value} (h : Rt w B br pat σ v) : br < w.heap.size := BlkT.lt h.rd
theorem Rt.alloc {w : World} {B br : Nat} {pat : ByteArray} {σ : Q.Rd} {v : Value} (h : Rt w B br pat σ v) (o : Obj) : Rt (w.alloc o) B br pat σ v := ⟨BlkT.alloc h.rd o, h.own.alloc o, h.ne⟩
theorem Rt.drewN {w : World} {B br : Nat} {pat : ByteArray} {σ : Q.Rd} {v : Value} (h : Rt w B br pat σ v) (n : Nat) : Rt (w.drewN n) B br pat σ v := ⟨h.rd, h.own, h.ne⟩
theorem Rt.drew {w : World} {B br : Nat} {pat : ByteArray} {σ : Q.Rd} {v : Value} (h : Rt w B br pat σ v) : Rt w.drew B br pat σ v := ⟨h.rd, h.own, h.ne⟩

theorem radd_any (B br : Nat) (pat : ByteArray) (σ : Q.Rd) (p : Q.Part) (v : Value) (w : World) (hR : Rt w B br pat σ v) (hB : B ≤ br) (hn : σ.parts.length ≤ 10000) (hps : Q.PartsOk σ.parts) (hp : Q.PartOk σ.parts.length p) :
    Calls Try.prog 103 #[.pointer (some ⟨br, 6, none⟩), .agg (partCells p).toArray] w fun e w' => e = .returned (.int .i64 ((Q.add p σ).1 : Nat)) ∧ (∃ v', Rt w' B br pat (Q.add p σ).2 v') ∧ Below B w w' := by
  have hlt := hR.lt
  refine (add_any br 6 B _ _ σ.parts p v w hR.rd rfl hR.own hR.ne (by omega) hB hn hps hp).mono ?_
  rintro e w' ⟨rfl, v', h1, h2, h3, h4⟩
  refine ⟨rfl, ⟨v', h1, ?_, h3⟩, h4⟩
  show w'.ownsRow B _ 265 v' (σ.parts ++ [Q.fill σ.parts p]).length (allCells (σ.parts ++ [Q.fill σ.parts p]))
  rw [allCells_snoc, List.length_append]
  exact h2

/-! struct literals -/
def natB : Value → Bool
  | .int .i64 n => decide (0 ≤ n)
  | _ => false
def natOf : Value → Nat
  | .int .i64 n => n.toNat
  | _ => 0
theorem natB_i (n : Int) : natB (.int .i64 n) = decide (0 ≤ n) := rfl
theorem natOf_i (n : Int) : natOf (.int .i64 n) = n.toNat := rfl
theorem natB_n (n : Nat) : natB (.int .i64 (n : Int)) = true := by simp [natB]
theorem natOf_n (n : Nat) : natOf (.int .i64 (n : Int)) = n := by simp [natOf]
def cellsI (k l r : Int) : List Value := .int .i64 k :: (Q.ins0.map Value.bool ++ [.int .i64 l, .int .i64 r, .int .i64 0, .int .i64 0, .bool false, .bool false, .bool false, .int .i64 0])
theorem cellsI_mk (k l r : Nat) : cellsI k l r = partCells (Q.mk k l r) := rfl
theorem built1 (k : Int) : Try.prog.built 110 [(0, .int .i64 k)] = some (cellsI k 0 0).toArray := by kernel_rfl
theorem built2 (k l : Int) : Try.prog.built 110 [(0, .int .i64 k), (2, .int .i64 l)] = some (cellsI k l 0).toArray := by kernel_rfl
theorem built3 (k l r : Int) : Try.prog.built 110 [(0, .int .i64 k), (2, .int .i64 l), (3, .int .i64 r)] = some (cellsI k l r).toArray := by kernel_rfl
end Go.Proofs.Ytjmkkkfloalliaa

namespace Go.Proofs.Ytjmkkkfloalliaa
set_option linter.unusedVariables false
open Go.RowKit

theorem natB_get {v : Value} (h : natB v = true) : v = .int .i64 (natOf v : Int) := by
  match v, h with
  | .int .i64 n, h =>
    have : 0 ≤ n := by simpa [natB] using h
    simp only [natOf]
    congr 1
    omega
theorem exec_build1 {d : Option Tmp} {x : Operand} {ty : TypeId} {pos : String} {after : Array Edge} {guard : Option (Nat × Bool)} {a : Act} {w : World} (hx : natB (a.eval x) = true) :
    (execOp a.eval ⟨d, .build 110 #[(0, x)], ty, pos, after, guard⟩).run Try.prog w = .ok (.value (.agg (partCells (Q.mk (natOf (a.eval x)) 0 0)).toArray)) w := by
  have e : (Array.map (fun (y : Nat × Operand) => (y.1, a.eval y.2)) #[(0, x)]) = #[(0, .int .i64 (natOf (a.eval x) : Int))] := by
    simp only [List.map_toArray, List.map_cons, List.map_nil]
    rw [← natB_get hx]
  unfold execOp
  simp only [Sem.run_bind]
  rw [e, run_build w _ _ _ (built1 _)]
  rfl
theorem exec_build2 {d : Option Tmp} {x y : Operand} {ty : TypeId} {pos : String} {after : Array Edge} {guard : Option (Nat × Bool)} {a : Act} {w : World} (hx : natB (a.eval x) = true) (hy : natB (a.eval y) = true) :
    (execOp a.eval ⟨d, .build 110 #[(0, x), (2, y)], ty, pos, after, guard⟩).run Try.prog w = .ok (.value (.agg (partCells (Q.mk (natOf (a.eval x)) (natOf (a.eval y)) 0)).toArray)) w := by
  have e : (Array.map (fun (y : Nat × Operand) => (y.1, a.eval y.2)) #[(0, x), (2, y)]) = #[(0, .int .i64 (natOf (a.eval x) : Int)), (2, .int .i64 (natOf (a.eval y) : Int))] := by
    simp only [List.map_toArray, List.map_cons, List.map_nil]
    rw [← natB_get hx, ← natB_get hy]
  unfold execOp
  simp only [Sem.run_bind]
  rw [e, run_build w _ _ _ (built2 _ _)]
  rfl
theorem exec_build3 {d : Option Tmp} {x y z : Operand} {ty : TypeId} {pos : String} {after : Array Edge} {guard : Option (Nat × Bool)} {a : Act} {w : World} (hx : natB (a.eval x) = true) (hy : natB (a.eval y) = true) (hz : natB (a.eval z) = true) :
    (execOp a.eval ⟨d, .build 110 #[(0, x), (2, y), (3, z)], ty, pos, after, guard⟩).run Try.prog w = .ok (.value (.agg (partCells (Q.mk (natOf (a.eval x)) (natOf (a.eval y)) (natOf (a.eval z)))).toArray)) w := by
  have e : (Array.map (fun (y : Nat × Operand) => (y.1, a.eval y.2)) #[(0, x), (2, y), (3, z)]) = #[(0, .int .i64 (natOf (a.eval x) : Int)), (2, .int .i64 (natOf (a.eval y) : Int)), (3, .int .i64 (natOf (a.eval z) : Int))] := by
    simp only [List.map_toArray, List.map_cons, List.map_nil]
    rw [← natB_get hx, ← natB_get hy, ← natB_get hz]
  unfold execOp
  simp only [Sem.run_bind]
  rw [e, run_build w _ _ _ (built3 _ _ _)]
  rfl
theorem natB_0 : natB (.int .i64 0) = true := rfl
theorem natB_1 : natB (.int .i64 1) = true := rfl
theorem natB_2 : natB (.int .i64 2) = true := rfl
theorem natB_3 : natB (.int .i64 3) = true := rfl
theorem natB_4 : natB (.int .i64 4) = true := rfl
theorem natOf_0 : natOf (.int .i64 0) = 0 := rfl
theorem natOf_1 : natOf (.int .i64 1) = 1 := rfl
theorem natOf_2 : natOf (.int .i64 2) = 2 := rfl
theorem natOf_3 : natOf (.int .i64 3) = 3 := rfl
theorem natOf_4 : natOf (.int .i64 4) = 4 := rfl
attribute [local go_sem ↓] exec_build1 exec_build2 exec_build3
attribute [local go_sem] natB_n natOf_n natB_0 natB_1 natB_2 natB_3 natB_4 natOf_0 natOf_1 natOf_2 natOf_3 natOf_4

/-- what a reader must be before a job -/
structure Cd (pat : ByteArray) (σ : Q.Rd) (m : Nat) : Prop where
  at_ : σ.at_ ≤ pat.size
  ok : Q.PartsOk σ.parts
  phi : Q.phi (L pat) σ ≤ m
  dep : σ.depth + Q.left (L pat) σ ≤ 1000

/-- what a job's call does -/
def Does (F : FuncId) (f : Nat) (j : Q.Job) (m : Nat) : Prop := ∀ (B br : Nat) (pat : ByteArray) (σ : Q.Rd) (v : Value) (w : World), Rt w B br pat σ v → B ≤ br → pat.size ≤ 1000 → Cd pat σ m → 8 * Q.left (L pat) σ + j.rank ≤ f → j.needs (L pat) σ →
  Calls Try.prog F #[.pointer (some ⟨br, 0, none⟩)] w fun e w' => e = .returned (.int .i64 ((Q.go (L pat) f j σ).1 : Nat)) ∧ (∃ v', Rt w' B br pat (Q.go (L pat) f j σ).2 v') ∧ Below B w w'

theorem Q.need_depth (s : List UInt8) (c : Int) (σ : Q.Rd) : (Q.need s c σ).depth = σ.depth := by unfold Q.need; split <;> rfl
theorem Q.anyByte_depth (s : List UInt8) (σ : Q.Rd) : (Q.anyByte s σ).2.depth = σ.depth := by unfold Q.anyByte; split <;> rfl
theorem Q.number_depth (s : List UInt8) (σ : Q.Rd) : (Q.number s σ).2.depth = σ.depth := by
  unfold Q.number
  split
  · rfl
  · split <;> rfl
theorem Q.fwd_depth (σ : Q.Rd) : (Q.fwd σ).depth = σ.depth := rfl
theorem Q.bounds_depth (s : List UInt8) (p : Q.Part) (σ : Q.Rd) : (Q.bounds s p σ).2.depth = σ.depth := by
  unfold Q.bounds
  rw [Q.need_depth]
  show (Q.bounds1 s σ).2.2.depth = _
  unfold Q.bounds1
  split
  · split
    · rw [Q.number_depth, Q.fwd_depth, Q.number_depth]
    · rw [Q.fwd_depth, Q.number_depth]
  · exact Q.number_depth s σ
theorem Q.memberByte_depth (s : List UInt8) (σ : Q.Rd) : (Q.memberByte s σ).2.depth = σ.depth := by
  unfold Q.memberByte
  split
  · rw [Q.anyByte_depth, Q.fwd_depth]
  · rw [Q.anyByte_depth]; split <;> rfl
theorem Q.member_depth (s : List UInt8) (ins : List Bool) (σ : Q.Rd) : (Q.member s ins σ).2.depth = σ.depth := by
  unfold Q.member Q.member1
  simp only
  split
  · simp only; rw [Q.memberByte_depth, Q.fwd_depth, Q.memberByte_depth]
  · simp only; rw [Q.memberByte_depth]
theorem Q.members_depth (s : List UInt8) : ∀ (f : Nat) (ins : List Bool) (σ : Q.Rd), (Q.members s f ins σ).2.depth = σ.depth
  | 0, _, _ => rfl
  | f + 1, ins, σ => by
    unfold Q.members
    split
    · rfl
    · split
      · rfl
      · rw [Q.members_depth s f, Q.member_depth]
theorem Q.cls_depth (s : List UInt8) (ins : List Bool) (σ : Q.Rd) : (Q.cls s ins σ).2.depth = σ.depth := by
  unfold Q.cls
  split
  · simp only; rw [Q.members_depth, Q.member_depth]; rfl
  · rw [Q.members_depth, Q.member_depth]; rfl
theorem Q.leaf_depth (s : List UInt8) (σ : Q.Rd) : (Q.leaf s σ).2.depth = σ.depth := by
  unfold Q.leaf
  split
  · rfl
  · split
    · exact Q.cls_depth s _ _
    · split
      · rfl
      · split
        · exact Q.anyByte_depth s _
        · rfl
theorem Q.repPart_depth (s : List UInt8) (n : Nat) (σ : Q.Rd) : (Q.repPart s n σ).2.depth = σ.depth := by
  unfold Q.repPart
  split
  · rfl
  · split
    · rfl
    · split
      · rfl
      · exact Q.bounds_depth s _ _
theorem Q.add_depth (p : Q.Part) (σ : Q.Rd) : (Q.add p σ).2.depth = σ.depth := rfl
theorem Q.go_depth (s : List UInt8) : ∀ (f : Nat) (j : Q.Job) (σ : Q.Rd), (Q.go s f j σ).2.depth = σ.depth
  | 0, _, _ => rfl
  | f + 1, .inl (), σ => by unfold Q.go; rw [Q.go_depth s f, Q.go_depth s f]
  | f + 1, .inr (.inl n), σ => by
    unfold Q.go
    split
    · rw [Q.go_depth s f, Q.add_depth, Q.go_depth s f, Q.fwd_depth]
    · rfl
  | f + 1, .inr (.inr (.inl ())), σ => by unfold Q.go; rw [Q.go_depth s f, Q.add_depth]
  | f + 1, .inr (.inr (.inr (.inl n))), σ => by
    unfold Q.go
    split
    · rfl
    · rw [Q.go_depth s f, Q.add_depth, Q.go_depth s f]
  | f + 1, .inr (.inr (.inr (.inr (.inl ())))), σ => by unfold Q.go; rw [Q.go_depth s f, Q.go_depth s f]
  | f + 1, .inr (.inr (.inr (.inr (.inr (.inl n))))), σ => by
    unfold Q.go
    split
    · rw [Q.go_depth s f, Q.add_depth, Q.repPart_depth]
    · rfl
  | f + 1, .inr (.inr (.inr (.inr (.inr (.inr ()))))), σ => by
    unfold Q.go
    split
    · show (Q.need s 41 _).depth = _
      rw [Q.need_depth]
      show (Q.go s f .alt (Q.opened σ)).2.depth - 1 = _
      rw [Q.go_depth s f]
      rfl
    · rw [Q.add_depth, Q.leaf_depth]
theorem Cd.add {pat : ByteArray} {σ : Q.Rd} {m : Nat} {p : Q.Part} (h : Cd pat σ m) (hp : Q.PartOk σ.parts.length p) : Cd pat (Q.add p σ).2 (m + 1) :=
  ⟨h.at_, h.ok.add hp, by rw [Q.phi_add]; have := h.phi; omega, h.dep⟩
theorem Cd.go {pat : ByteArray} {σ : Q.Rd} {m m' f : Nat} {j : Q.Job} (h : Cd pat σ m) (hf : 8 * Q.left (L pat) σ + j.rank ≤ f) (hj : j.ok σ) (hn : j.needs (L pat) σ) (hm : m + j.cost ≤ m' + 3) : Cd pat (Q.go (L pat) f j σ).2 m' ∧ Q.Good (s := L pat) σ (Q.go (L pat) f j σ) ∧ j.adv (s := L pat) σ (Q.go (L pat) f j σ) := by
  obtain ⟨g, a⟩ := Q.go_good (s := L pat) f j σ hf h.ok hj
  have hp := Q.go_phi (s := L pat) f j σ hf h.ok hj hn
  have hl := g.on.left
  have := h.dep
  refine ⟨⟨?_, g.ok, by have := h.phi; omega, by rw [Q.go_depth]; omega⟩, g, a⟩
  have := g.on.len (by rw [size_len]; exact h.at_)
  rw [size_len] at this
  exact this
theorem Cd.mono {pat : ByteArray} {σ : Q.Rd} {m m' : Nat} (h : Cd pat σ m) (hm : m ≤ m') : Cd pat σ m' := ⟨h.at_, h.ok, Nat.le_trans h.phi hm, h.dep⟩
theorem Cd.len {pat : ByteArray} {σ : Q.Rd} {m : Nat} (h : Cd pat σ m) : σ.parts.length ≤ m := by have := h.phi; unfold Q.phi at this; omega

set_option maxRecDepth 10000 in
set_option maxHeartbeats 1600000 in
theorem seq_step (f : Nat) (hrep : ∀ g, g < f → Does 116 g .rep 9004) : Does 101 f .seq 9000 := by
  intro B br pat σ v w hR hB hs hC hf _
  have HL : Hid ((L pat).length = pat.size) := size_len pat
  obtain ⟨g0, rfl⟩ : ∃ g, f = g + 1 := ⟨f - 1, by simp only [Q.Job.rank] at hf; omega⟩
  simp only [Q.Job.rank] at hf
  have HR : Hid (Rt w B br pat σ v) := hR
  have hp1 : σ.parts.length ≤ 10000 := by have := hC.phi; unfold Q.phi at this; omega
  have HPK : Hid (Q.PartOk σ.parts.length (Q.mk 0 0 0)) := Q.mk_ok _ _ _ _ (by omega) (fun h => by omega) (fun h => by omega)
  have HC : Hid (Cd pat σ 9000) := hC
  have HG : Hid (Q.go (L pat) (g0 + 1) .seq σ = Q.go (L pat) g0 (.seqL (Q.add (Q.mk 0 0 0) σ).1) (Q.add (Q.mk 0 0 0) σ).2) := rfl
  rw [HG.out]
  obtain ⟨X, hX⟩ : ∃ X, Q.go (L pat) g0 (.seqL (Q.add (Q.mk 0 0 0) σ).1) (Q.add (Q.mk 0 0 0) σ).2 = X := ⟨_, rfl⟩
  rw [hX]
  have HX : Hid (Q.go (L pat) g0 (.seqL (Q.add (Q.mk 0 0 0) σ).1) (Q.add (Q.mk 0 0 0) σ).2 = X) := hX
  clear hX hR hC HG
  go_enter Try.func101, Try.ntmps101
  go_wp2_with (first
    | (go_at_call 103; refine (radd_any B br pat σ (Q.mk 0 0 0) v _ HR.out hB hp1 HC.out.ok HPK.out).mono ?_; rintro e w1 ⟨rfl, ⟨v1, hR1⟩, hB1⟩)
    | (go_at_call 115; refine (next_any br pat _ v1 _ hR1.rd hs HC.out.at_).mono ?_; rintro e w2 ⟨rfl, q, rfl⟩))
  have hC1 := HC.out.add HPK.out
  go_loopg [3, 4] g0 (fun f i3 i4 wr => ∃ (n : Nat) (τ : Q.Rd) (vv : Value), i3 = .int .i64 n ∧ i4 = .int .i64 (Q.next (L pat) τ) ∧ Rt wr B br pat τ vv ∧ Cd pat τ 9001 ∧ 8 * Q.left (L pat) τ + 4 ≤ f ∧ n < τ.parts.length ∧ Hid (Q.go (L pat) f (.seqL n) τ = X) ∧ Below B w wr ∧ f ≤ g0)
  case atStart => exact ⟨_, _, v1, rfl, rfl, hR1.drewN q, hC1, by rw [Q.add_left]; omega, by simp [Q.add], HX, below_drewN hB1 q, Nat.le_refl _⟩
  case round =>
    clear hR1 hB1 hC1 HX HPK hp1
    obtain ⟨n, τ, vv, rfl, rfl, hR1, hC1, hfu, hnl, HX, hB1, hle⟩ := hrel
    obtain ⟨f1, rfl⟩ : ∃ f1, gk = f1 + 1 := ⟨gk - 1, by omega⟩
    have hfin : Q.ends (Q.next (L pat) τ) = true → X = (n, τ) := fun h => by
      have := HX.out
      unfold Q.go at this
      rw [if_pos h] at this
      exact this.symm
    have hgo : Q.ends (Q.next (L pat) τ) = false → Q.go (L pat) f1 (.seqL (Q.add (Q.mk 2 n (Q.go (L pat) f1 .rep τ).1) (Q.go (L pat) f1 .rep τ).2).1) (Q.add (Q.mk 2 n (Q.go (L pat) f1 .rep τ).1) (Q.go (L pat) f1 .rep τ).2).2 = X := fun h => by
      have := HX.out
      unfold Q.go at this
      rw [if_neg (by rw [h]; decide)] at this
      exact this
    have HFIN : Hid (Q.ends (Q.next (L pat) τ) = true → X = (n, τ)) := hfin
    have HGO : Hid (Q.ends (Q.next (L pat) τ) = false → Q.go (L pat) f1 (.seqL (Q.add (Q.mk 2 n (Q.go (L pat) f1 .rep τ).1) (Q.go (L pat) f1 .rep τ).2).1) (Q.add (Q.mk 2 n (Q.go (L pat) f1 .rep τ).1) (Q.go (L pat) f1 .rep τ).2).2 = X) := hgo
    clear hfin hgo HX
    by_cases e1 : Q.next (L pat) τ = -1
    · have HE : Hid (X = (n, τ)) := HFIN.out (by rw [e1]; rfl)
      go_wp2
      go_ret
      exact ⟨by rw [HE.out]; rfl, ⟨vv, by rw [HE.out]; exact hR1⟩, hB1⟩
    have q1 : (Q.next (L pat) τ == -1) = false := by simp [e1]
    by_cases e2 : Q.next (L pat) τ = 124
    · have HE : Hid (X = (n, τ)) := HFIN.out (by rw [e2]; rfl)
      clear e1 q1
      go_wp2
      go_ret
      exact ⟨by rw [HE.out]; rfl, ⟨vv, by rw [HE.out]; exact hR1⟩, hB1⟩
    have q2 : (Q.next (L pat) τ == 124) = false := by simp [e2]
    by_cases e3 : Q.next (L pat) τ = 41
    · have HE : Hid (X = (n, τ)) := HFIN.out (by rw [e3]; rfl)
      clear e1 e2 q1 q2
      go_wp2
      go_ret
      exact ⟨by rw [HE.out]; rfl, ⟨vv, by rw [HE.out]; exact hR1⟩, hB1⟩
    have q3 : (Q.next (L pat) τ == 41) = false := by simp [e3]
    have HGE : Hid (Q.go (L pat) f1 (.seqL (Q.add (Q.mk 2 n (Q.go (L pat) f1 .rep τ).1) (Q.go (L pat) f1 .rep τ).2).1) (Q.add (Q.mk 2 n (Q.go (L pat) f1 .rep τ).1) (Q.go (L pat) f1 .rep τ).2).2 = X) := HGO.out (by unfold Q.ends; rw [q1, q2, q3]; rfl)
    obtain ⟨hC2, hG2, hA2⟩ := Cd.go (f := f1) (j := .rep) (m' := 8998) hC1 (by simp only [Q.Job.rank]; omega) trivial e1 (by simp only [Q.Job.cost]; omega)
    have hl2 : Q.left (L pat) (Q.go (L pat) f1 .rep τ).2 < Q.left (L pat) τ := hA2 e1
    have HPK : Hid (Q.PartOk (Q.go (L pat) f1 .rep τ).2.parts.length (Q.mk 2 n (Q.go (L pat) f1 .rep τ).1)) := Q.mk_ok _ _ _ _ (by omega) (fun _ => Nat.lt_of_lt_of_le hnl hG2.len) (fun _ => hG2.lt)
    have hC3 := hC2.add HPK.out
    have HREP : Hid (Does 116 f1 .rep 9004) := hrep f1 (by omega)
    have hC1' := hC1.mono (m' := 9004) (by omega)
    have hfu' : 8 * Q.left (L pat) τ + Q.Job.rank .rep ≤ f1 := by simp only [Q.Job.rank]; omega
    have hne : Q.Job.needs (L pat) τ .rep := e1
    have hlen2 := hC2.len
    clear hC1 hA2 hG2 HFIN HGO e2 e3
    have HNE : Hid (Q.Job.needs (L pat) τ .rep) := hne
    have r1 : (Q.next (L pat) τ != -1) = true := by simp [q1, bne]
    have r2 : (Q.next (L pat) τ != 124) = true := by simp [q2, bne]
    have r3 : (Q.next (L pat) τ != 41) = true := by simp [q3, bne]
    clear hne e1 hrep
    go_wp2_with (first
      | (go_at_call 116; refine (HREP.out B br pat τ vv _ hR1 hB hs hC1' hfu' HNE.out).mono ?_; rintro e w2 ⟨rfl, ⟨v2, hR2⟩, hB2⟩)
      | (go_at_call 103; refine (radd_any B br pat _ (Q.mk 2 n (Q.go (L pat) f1 .rep τ).1) v2 _ hR2 hB (by omega) hC2.ok HPK.out).mono ?_; rintro e w3 ⟨rfl, ⟨v3, hR3⟩, hB3⟩)
      | (go_at_call 115; refine (next_any br pat _ v3 _ hR3.rd hs hC3.at_).mono ?_; rintro e w4 ⟨rfl, q4, rfl⟩))
    go_roundg f1
    case measure => omega
    case rel => exact ⟨_, _, v3, rfl, rfl, hR3.drewN q4, hC3.mono (by omega), by rw [Q.add_left]; omega, by simp [Q.add], HGE, below_drewN ((hB1.trans hB2).trans hB3) q4, by omega⟩

set_option maxRecDepth 10000 in
set_option maxHeartbeats 1600000 in
theorem alt_step (f : Nat) (hseq : ∀ g, g < f → Does 101 g .seq 9000) : Does 86 f .alt 9000 := by
  intro B br pat σ v w hR hB hs hC hf _
  have HL : Hid ((L pat).length = pat.size) := size_len pat
  obtain ⟨g0, rfl⟩ : ∃ g, f = g + 1 := ⟨f - 1, by simp only [Q.Job.rank] at hf; omega⟩
  simp only [Q.Job.rank] at hf
  have HR : Hid (Rt w B br pat σ v) := hR
  have HC : Hid (Cd pat σ 9000) := hC
  obtain ⟨hC1, hG1, _⟩ := Cd.go (f := g0) (j := .seq) (m' := 9001) hC (by simp only [Q.Job.rank]; omega) trivial trivial (by simp only [Q.Job.cost]; omega)
  have hl1 := hG1.on.left
  have HG : Hid (Q.go (L pat) (g0 + 1) .alt σ = Q.go (L pat) g0 (.altL (Q.go (L pat) g0 .seq σ).1) (Q.go (L pat) g0 .seq σ).2) := rfl
  rw [HG.out]
  obtain ⟨X, hX⟩ : ∃ X, Q.go (L pat) g0 (.altL (Q.go (L pat) g0 .seq σ).1) (Q.go (L pat) g0 .seq σ).2 = X := ⟨_, rfl⟩
  rw [hX]
  have HX : Hid (Q.go (L pat) g0 (.altL (Q.go (L pat) g0 .seq σ).1) (Q.go (L pat) g0 .seq σ).2 = X) := hX
  have HSEQ : Hid (Does 101 g0 .seq 9000) := hseq g0 (by omega)
  have hfu0 : 8 * Q.left (L pat) σ + Q.Job.rank .seq ≤ g0 := by simp only [Q.Job.rank]; omega
  have hlt1 := hG1.lt
  clear hX hR hC HG hG1
  go_enter Try.func86, Try.ntmps86
  go_wp2_with (go_at_call 101; refine (HSEQ.out B br pat σ v _ HR.out hB hs HC.out hfu0 trivial).mono ?_; rintro e w1 ⟨rfl, ⟨v1, hR1⟩, hB1⟩)
  go_loopg [3] g0 (fun f i3 wr => ∃ (n : Nat) (τ : Q.Rd) (vv : Value), i3 = .int .i64 n ∧ Rt wr B br pat τ vv ∧ Cd pat τ 9001 ∧ 8 * Q.left (L pat) τ + 1 ≤ f ∧ n < τ.parts.length ∧ Hid (Q.go (L pat) f (.altL n) τ = X) ∧ Below B w wr ∧ f ≤ g0)
  case atStart => exact ⟨_, _, v1, rfl, hR1, hC1, by omega, hlt1, HX, hB1, Nat.le_refl _⟩
  case round =>
    clear hR1 hB1 hC1 HX HSEQ hlt1 hl1
    obtain ⟨n, τ, vv, rfl, hR1, hC1, hfu, hnl, HX, hB1, hle⟩ := hrel
    obtain ⟨f1, rfl⟩ : ∃ f1, gk = f1 + 1 := ⟨gk - 1, by omega⟩
    by_cases e1 : Q.next (L pat) τ = 124
    · have q1 : (Q.next (L pat) τ == 124) = true := by simp [e1]
      have HT : Hid (Q.take (L pat) 124 τ = Q.fwd τ) := by show _ = _; unfold Q.take; rw [if_pos e1]
      have HGE : Hid (Q.go (L pat) f1 (.altL (Q.add (Q.mk 3 n (Q.go (L pat) f1 .seq (Q.fwd τ)).1) (Q.go (L pat) f1 .seq (Q.fwd τ)).2).1) (Q.add (Q.mk 3 n (Q.go (L pat) f1 .seq (Q.fwd τ)).1) (Q.go (L pat) f1 .seq (Q.fwd τ)).2).2 = X) := by
        have := HX.out
        unfold Q.go at this
        rw [if_pos e1] at this
        exact this
      have hne : Q.next (L pat) τ ≠ -1 := by rw [e1]; decide
      have hfl := Q.fwd_left hne
      have hfp := Q.phi_fwd hne
      have hCf : Cd pat (Q.fwd τ) 9000 := ⟨by have := (Q.fwd_on (s := L pat) hne).len (by rw [HL.out]; exact hC1.at_); rw [HL.out] at this; exact this, hC1.ok, by have := hC1.phi; omega, by have := hC1.dep; show τ.depth + _ ≤ _; omega⟩
      have hfu1 : 8 * Q.left (L pat) (Q.fwd τ) + Q.Job.rank .seq ≤ f1 := by simp only [Q.Job.rank]; omega
      obtain ⟨hC2, hG2, _⟩ := Cd.go (f := f1) (j := .seq) (m' := 9000) (Cd.mono (m := 8997) ⟨hCf.at_, hCf.ok, by have := hC1.phi; omega, hCf.dep⟩ (by omega : 8997 ≤ 8997)) hfu1 trivial trivial (by simp only [Q.Job.cost]; omega)
      have hl2 := hG2.on.left
      have HPK : Hid (Q.PartOk (Q.go (L pat) f1 .seq (Q.fwd τ)).2.parts.length (Q.mk 3 n (Q.go (L pat) f1 .seq (Q.fwd τ)).1)) := Q.mk_ok _ _ _ _ (by omega) (fun _ => Nat.lt_of_lt_of_le hnl hG2.len) (fun _ => hG2.lt)
      have hC3 := hC2.add HPK.out
      have HSEQ : Hid (Does 101 f1 .seq 9000) := hseq f1 (by omega)
      have hlen2 := hC2.len
      have hat := hC1.at_
      have hown := fun b (h : vv.ownBlock = some b) => (show b ∉ [br] from fun hm => hR1.ne (by rw [h, List.mem_singleton.1 hm]))
      have HOWN : Hid (∀ b, vv.ownBlock = some b → b ∉ [br]) := hown
      clear hC1 hG2 e1 hne hseq hown HX
      go_wp2_with (first
        | (go_at_call 102; refine (take_any br pat τ vv 124 _ hR1.rd hs hat).mono ?_; rintro e w2 ⟨rfl, hR2, hK2⟩; rw [HT.out] at hR2; have hR2' := hR1.keep (τ := Q.fwd τ) hK2 HOWN.out rfl hR2; have hB2 := hK2.to_below (B := B) (by simpa using hB) (by have := hR1.lt; omega))
        | (go_at_call 101; refine (HSEQ.out B br pat _ vv _ hR2' hB hs hCf hfu1 trivial).mono ?_; rintro e w3 ⟨rfl, ⟨v3, hR3⟩, hB3⟩)
        | (go_at_call 103; refine (radd_any B br pat _ (Q.mk 3 n (Q.go (L pat) f1 .seq (Q.fwd τ)).1) v3 _ hR3 hB (by omega) hC2.ok HPK.out).mono ?_; rintro e w4 ⟨rfl, ⟨v4, hR4⟩, hB4⟩))
      go_roundg f1
      case measure => omega
      case rel => exact ⟨_, _, v4, rfl, hR4, hC3, by rw [Q.add_left]; omega, by simp [Q.add], HGE, ((hB1.trans hB2).trans hB3).trans hB4, by omega⟩
    · have q1 : (Q.next (L pat) τ == 124) = false := by simp [e1]
      have HT : Hid (Q.take (L pat) 124 τ = τ) := by show _ = _; unfold Q.take; rw [if_neg e1]
      have HE : Hid (X = (n, τ)) := by
        have := HX.out
        unfold Q.go at this
        rw [if_neg e1] at this
        exact this.symm
      have hat := hC1.at_
      have HOWN : Hid (∀ b, vv.ownBlock = some b → b ∉ [br]) := fun b h hm => hR1.ne (by rw [h, List.mem_singleton.1 hm])
      clear e1 HX
      go_wp2_with (go_at_call 102; refine (take_any br pat τ vv 124 _ hR1.rd hs hat).mono ?_; rintro e w2 ⟨rfl, hR2, hK2⟩; rw [HT.out] at hR2; have hR2' := hR1.keep hK2 HOWN.out rfl hR2; have hB2 := hK2.to_below (B := B) (by simpa using hB) (by have := hR1.lt; omega))
      go_ret
      exact ⟨by rw [HE.out]; rfl, ⟨vv, by rw [HE.out]; exact hR2'⟩, hB1.trans hB2⟩
end Go.Proofs.Ytjmkkkfloalliaa

namespace Go.Proofs.Ytjmkkkfloalliaa
set_option linter.unusedVariables false
open Go.RowKit

theorem Keep.trans2 {S S' : List Nat} {w a b : World} (h : Keep S w a) (k : Keep S' a b) (hS : ∀ x, x ∈ S' → x ∉ S → w.heap.size ≤ x) : Keep S w b :=
  ⟨k.os.trans h.os, k.tape.trans h.tape, k.output.trans h.output, Nat.le_trans h.size k.size, fun i hi hs => (k.block i (Nat.lt_of_lt_of_le hi h.size) (fun hm => by have := hS i hm hs; omega)).trans (h.block i hi hs)⟩
theorem wrap_u63 (n : Int) (h₀ : 0 ≤ n) (h₁ : n < 2 ^ 63) : IntKind.u64.wrap n = n := by rw [IntKind.wrap_u64]; omega
theorem lt63 {a : Nat} (h : a < 2 ^ 49) : a < 2 ^ 63 := Nat.lt_trans h (by decide)
theorem and_u {a b : Nat} (ha : a < 2 ^ 49) (hb : b < 2 ^ 49) : bits .and .u64 (a : Int) (b : Int) = ((a &&& b : Nat) : Int) :=
  (bits_nat .u64 63 (by decide) wrap_u63 a b (lt63 ha) (lt63 hb)).1
theorem or_u {a b : Nat} (ha : a < 2 ^ 49) (hb : b < 2 ^ 49) : bits .or .u64 (a : Int) (b : Int) = ((a ||| b : Nat) : Int) :=
  (bits_nat .u64 63 (by decide) wrap_u63 a b (lt63 ha) (lt63 hb)).2
theorem and_bit (a k : Nat) : (a &&& 2 ^ k != 0) = a.testBit k := by
  cases h : a.testBit k with
  | true =>
    rw [bne_iff_ne]
    intro e
    have : (a &&& 2 ^ k).testBit k = true := by rw [Nat.testBit_and, h, Nat.testBit_two_pow_self]; rfl
    rw [e] at this
    simp at this
  | false =>
    have : a &&& 2 ^ k = 0 := by
      apply Nat.eq_of_testBit_eq
      intro i
      rw [Nat.testBit_and, Nat.testBit_two_pow, Nat.zero_testBit]
      by_cases e : k = i
      · subst e; simp [h]
      · simp [e]
    rw [this]
    rfl
theorem and_bit' (a k B A : Nat) (hB : B = 2 ^ k) (hA : A = a &&& B) : ((A : Int) != 0) = a.testBit k := by
  subst hB
  subst hA
  rw [← and_bit, Bool.eq_iff_iff]
  simp only [bne_iff_ne, ne_eq]
  exact ⟨fun h e => h (by rw [e]; rfl), fun h e => h (by omega)⟩

set_option maxRecDepth 10000 in
set_option maxHeartbeats 800000 in
theorem bit_any (k B : Nat) (w : World) (hk : k ≤ 48) (hB : Hid (B = 2 ^ k)) :
    Calls Try.prog 107 #[.int .i64 (k : Int)] w fun e w' => e = .returned (.int .u64 (B : Int)) ∧ w' = w := by
  have h0 : (0 : Int) ≤ (k : Int) := by omega
  have HW : Hid (IntKind.u64.wrap ((2 : Int) ^ k) = ((2 ^ k : Nat) : Int)) := by
    show _ = _
    have h1 : 2 ^ k ≤ 2 ^ 48 := Nat.pow_le_pow_right (by decide) hk
    have h2 : ((2 : Int) ^ k) = ((2 ^ k : Nat) : Int) := by simp
    rw [h2]
    have h3 : (2 : Nat) ^ 48 < 2 ^ 63 := by decide
    have h4 : 2 ^ k < 2 ^ 63 := Nat.lt_of_le_of_lt h1 h3
    exact wrap_u63 _ (Int.natCast_nonneg _) (by exact_mod_cast h4)
  go_enter Try.func107, Try.ntmps107
  go_wp2
  go_ret
  exact ⟨by show Ending.returned (.int .u64 (IntKind.u64.wrap ((2 : Int) ^ k))) = _; rw [HW.out, ← hB.out], rfl⟩

def u64s (l : List Nat) : List Value := l.map fun (n : Nat) => Value.int .u64 (n : Int)
def patCells (p : Q.Pat) : List Value := .int .i64 (p.size : Int) :: (u64s p.ahead ++ (u64s p.takes ++ [.int .u64 (p.begins : Int)]))
/-- a pattern in memory -/
structure PaT (w : World) (b : Nat) (p : Q.Pat) : Prop where
  ok : Q.PatOk p
  blk : BlkT w b 142 (patCells p)
theorem patCells_a {p : Q.Pat} (h : Q.PatOk p) (i : Nat) (hi : i < 49) : (patCells p)[1 + i]? = some (.int .u64 (p.ahead.getD i 0 : Nat)) := by
  unfold patCells u64s
  rw [show 1 + i = i + 1 by omega, List.getElem?_cons_succ, List.getElem?_append_left (by rw [List.length_map, h.alen]; exact hi), List.getElem?_map]
  rw [List.getD_eq_getElem?_getD, List.getElem?_eq_getElem (by rw [h.alen]; exact hi)]; rfl
theorem patCells_t {p : Q.Pat} (h : Q.PatOk p) (i : Nat) (hi : i < 256) : (patCells p)[50 + i]? = some (.int .u64 (p.takes.getD i 0 : Nat)) := by
  unfold patCells u64s
  rw [show 50 + i = (49 + i) + 1 by omega, List.getElem?_cons_succ, List.getElem?_append_right (by rw [List.length_map, h.alen]; omega), List.length_map, h.alen, show 49 + i - 49 = i by omega, List.getElem?_append_left (by rw [List.length_map, h.tlen]; exact hi), List.getElem?_map]
  rw [List.getD_eq_getElem?_getD, List.getElem?_eq_getElem (by rw [h.tlen]; exact hi)]; rfl
theorem patCells_b {p : Q.Pat} (h : Q.PatOk p) : (patCells p)[306]? = some (.int .u64 (p.begins : Int)) := by
  unfold patCells u64s
  rw [show 306 = (49 + 256) + 1 by omega, List.getElem?_cons_succ, List.getElem?_append_right (by rw [List.length_map, h.alen]; omega), List.length_map, h.alen, show 49 + 256 - 49 = 256 by omega, List.getElem?_append_right (by rw [List.length_map, h.tlen]; omega), List.length_map, h.tlen]
  rfl
theorem PaT.c0 {w : World} {b : Nat} {p : Q.Pat} (h : PaT w b p) : w.cell? ⟨b, 0, none⟩ = some (.int .i64 (p.size : Int)) := h.blk.cell 0
theorem PaT.ca {w : World} {b : Nat} {p : Q.Pat} (h : PaT w b p) (i : Nat) (hi : i < 49) : w.cell? ⟨b, 1 + i, none⟩ = some (.int .u64 (p.ahead.getD i 0 : Nat)) := (h.blk.cell _).trans (patCells_a h.ok i hi)
theorem PaT.ct {w : World} {b : Nat} {p : Q.Pat} (h : PaT w b p) (i : Nat) (hi : i < 256) : w.cell? ⟨b, 50 + i, none⟩ = some (.int .u64 (p.takes.getD i 0 : Nat)) := (h.blk.cell _).trans (patCells_t h.ok i hi)
theorem PaT.cb {w : World} {b : Nat} {p : Q.Pat} (h : PaT w b p) : w.cell? ⟨b, 306, none⟩ = some (.int .u64 (p.begins : Int)) := (h.blk.cell _).trans (patCells_b h.ok)
theorem PaT.fz {w : World} {b : Nat} {p : Q.Pat} (h : PaT w b p) (i : Nat) : w.frozen? ⟨b, i, none⟩ = false := h.blk.frozen i
theorem PaT.keep {S : List Nat} {w w' : World} {b : Nat} {p : Q.Pat} (h : PaT w b p) (k : Keep S w w') (hb : b ∉ S) : PaT w' b p := ⟨h.ok, h.blk.keep k hb⟩
theorem PaT.alloc {w : World} {b : Nat} {p : Q.Pat} (h : PaT w b p) (o : Obj) : PaT (w.alloc o) b p := ⟨h.ok, h.blk.alloc o⟩
theorem PaT.drewN {w : World} {b : Nat} {p : Q.Pat} (h : PaT w b p) (n : Nat) : PaT (w.drewN n) b p := ⟨h.ok, h.blk⟩
theorem PaT.drew {w : World} {b : Nat} {p : Q.Pat} (h : PaT w b p) : PaT w.drew b p := ⟨h.ok, h.blk⟩
theorem PaT.other {w : World} {b : Nat} {p : Q.Pat} (h : PaT w b p) {a : Addr} (hne : a.block ≠ b) (v : Value) : PaT (w.setCell a v) b p := ⟨h.ok, h.blk.other hne v⟩
theorem PaT.setA {w : World} {b : Nat} {p q : Q.Pat} (h : PaT w b p) (i v : Nat) (hi : i < 49) (hq : Q.PatOk q) (e : q = { p with ahead := p.ahead.set i v }) : PaT (w.setCell ⟨b, 1 + i, none⟩ (.int .u64 (v : Int))) b q := by
  subst e
  refine ⟨hq, ?_⟩
  have := h.blk.set (1 + i) (.int .u64 (v : Int))
  have e2 : (patCells p).set (1 + i) (.int .u64 (v : Int)) = patCells { p with ahead := p.ahead.set i v } := by
    unfold patCells u64s
    rw [show 1 + i = i + 1 by omega, List.set_cons_succ, List.set_append_left i _ (by rw [List.length_map, h.ok.alen]; exact hi)]
    simp [List.map_set]
  rw [e2] at this
  exact this
theorem PaT.setT {w : World} {b : Nat} {p q : Q.Pat} (h : PaT w b p) (i v : Nat) (hi : i < 256) (hq : Q.PatOk q) (e : q = { p with takes := p.takes.set i v }) : PaT (w.setCell ⟨b, 50 + i, none⟩ (.int .u64 (v : Int))) b q := by
  subst e
  refine ⟨hq, ?_⟩
  have := h.blk.set (50 + i) (.int .u64 (v : Int))
  have e2 : (patCells p).set (50 + i) (.int .u64 (v : Int)) = patCells { p with takes := p.takes.set i v } := by
    unfold patCells u64s
    rw [show 50 + i = (49 + i) + 1 by omega, List.set_cons_succ, List.set_append_right (49 + i) _ (by rw [List.length_map, h.ok.alen]; omega), List.length_map, h.ok.alen, show 49 + i - 49 = i by omega, List.set_append_left i _ (by rw [List.length_map, h.ok.tlen]; exact hi)]
    simp [List.map_set]
  rw [e2] at this
  exact this
theorem PaT.setB {w : World} {b : Nat} {p q : Q.Pat} (h : PaT w b p) (v : Nat) (hq : Q.PatOk q) (e : q = { p with begins := v }) : PaT (w.setCell ⟨b, 306, none⟩ (.int .u64 (v : Int))) b q := by
  subst e
  refine ⟨hq, ?_⟩
  have := h.blk.set 306 (.int .u64 (v : Int))
  have e2 : (patCells p).set 306 (.int .u64 (v : Int)) = patCells { p with begins := v } := by
    unfold patCells u64s
    rw [show 306 = (49 + 256) + 1 by omega, List.set_cons_succ, List.set_append_right (49 + 256) _ (by rw [List.length_map, h.ok.alen]; omega), List.length_map, h.ok.alen, show 49 + 256 - 49 = 256 by omega, List.set_append_right 256 _ (by rw [List.length_map, h.ok.tlen]; omega), List.length_map, h.ok.tlen]
    rfl
  rw [e2] at this
  exact this
theorem PaT.setS {w : World} {b : Nat} {p q : Q.Pat} (h : PaT w b p) (v : Nat) (hq : Q.PatOk q) (e : q = { p with size := v }) : PaT (w.setCell ⟨b, 0, none⟩ (.int .i64 (v : Int))) b q := by
  subst e
  exact ⟨hq, h.blk.set 0 (.int .i64 (v : Int))⟩

theorem Q.linkTo_zero {p : Q.Pat} (h : Q.PatOk p) (f t : Nat) : Q.linkTo 0 f t p = p := by
  unfold Q.linkTo
  have : (Q.tab 49 fun i => if i < 0 ∧ t.testBit i = true then p.ahead.getD i 0 ||| f else p.ahead.getD i 0) = p.ahead := by
    rw [← Q.tab_eq 49 p.ahead h.alen]
    apply Q.tab_congr
    intro i hi
    rw [if_neg (by omega), Q.tab_eq 49 p.ahead h.alen]
  rw [this]
theorem Q.linkTo_skip {p : Q.Pat} (k f t : Nat) (hb : t.testBit k = false) : Q.linkTo (k + 1) f t p = Q.linkTo k f t p := by
  unfold Q.linkTo
  congr 1
  apply Q.tab_congr
  intro i hi
  by_cases h : i < k ∧ t.testBit i = true
  · rw [if_pos h, if_pos ⟨by omega, h.2⟩]
  · rw [if_neg h]
    split
    · next h2 =>
      have : i = k := by
        rcases Nat.lt_or_ge i k with h3 | h3
        · exact absurd ⟨h3, h2.2⟩ h
        · omega
      subst this
      rw [hb] at h2
      cases h2.2
    · rfl
theorem Q.linkTo_step {p : Q.Pat} (k f t : Nat) (hk : k < 49) (hb : t.testBit k = true) : Q.linkTo (k + 1) f t p = { Q.linkTo k f t p with ahead := (Q.linkTo k f t p).ahead.set k (p.ahead.getD k 0 ||| f) } := by
  unfold Q.linkTo
  simp only
  rw [Q.tab_set]
  congr 1
  apply Q.tab_congr
  intro i hi
  by_cases e : i = k
  · subst e
    rw [if_pos ⟨by omega, hb⟩, if_pos rfl]
  · rw [if_neg e]
    by_cases h : i < k ∧ t.testBit i = true
    · rw [if_pos h, if_pos ⟨by omega, h.2⟩]
    · rw [if_neg h, if_neg (by intro h2; exact h ⟨by omega, h2.2⟩)]
theorem Q.linkTo_at {p : Q.Pat} (k f t : Nat) (hk : k < 49) : (Q.linkTo k f t p).ahead.getD k 0 = p.ahead.getD k 0 := by
  unfold Q.linkTo
  simp only
  rw [Q.tab_at _ _ _ hk, if_neg (by omega)]

set_option maxRecDepth 10000 in
set_option maxHeartbeats 1600000 in
theorem link_any (b : Nat) (p : Q.Pat) (f t : Nat) (w : World) (hP : PaT w b p) (hf : f < 2 ^ p.size) (ht : t < 2 ^ 49) :
    Calls Try.prog 118 #[.pointer (some ⟨b, 0, none⟩), .int .u64 (f : Int), .int .u64 (t : Int)] w fun e w' => e = .returned (.tuple #[]) ∧ PaT w' b (Q.link f t p) ∧ Keep [b] w w' := by
  have hsz := hP.ok.size
  have HP0 : Hid (PaT w b (Q.linkTo 0 f t p)) := by show PaT _ _ _; rw [Q.linkTo_zero hP.ok]; exact hP
  have HOK : Hid (Q.PatOk p) := hP.ok
  have hf49 : f < 2 ^ 49 := Q.lt64 hP.ok hf
  clear hP
  go_enter Try.func118, Try.ntmps118
  go_wp2
  go_loopw [6] (fun i wr => ∃ k : Nat, k ≤ p.size ∧ i = .int .i64 k ∧ PaT wr b (Q.linkTo k f t p) ∧ Keep [b] w wr) (fun i _ => p.size - (intOf i).toNat)
  case atStart => exact ⟨0, by omega, rfl, HP0.out, Keep.refl _ _⟩
  case round =>
    obtain ⟨k, hk, rfl, hP, hK⟩ := hrel
    have c0 : wr.cell? ⟨b, 0, none⟩ = some (.int .i64 (p.size : Int)) := hP.c0
    by_cases hlt : k < p.size
    · have h2k : 2 ^ k < 2 ^ 49 := Nat.pow_lt_pow_right (by decide) (by omega)
      obtain ⟨B, hBe⟩ : ∃ B, B = 2 ^ k := ⟨_, rfl⟩
      obtain ⟨A, hAe⟩ : ∃ A, A = t &&& B := ⟨_, rfl⟩
      have HB : Hid (B = 2 ^ k) := hBe
      have hA : bits .and .u64 (t : Int) (B : Int) = (A : Int) := by rw [hAe]; exact and_u ht (by rw [hBe]; exact h2k)
      have hAB := and_bit' t k B A hBe hAe
      have h48 : k ≤ 48 := by omega
      clear hBe hAe h2k
      cases hb : t.testBit k with
      | false =>
        rw [hb] at hAB
        go_wp2_with (go_at_call 107; refine (bit_any k B _ h48 HB).mono ?_; rintro e w1 ⟨rfl, rfl⟩)
        go_roundw
        case rel => exact ⟨k + 1, by omega, by go_num, by rw [Q.linkTo_skip _ _ _ hb]; exact hP, hK⟩
        case measure => simp [intOf]; omega
      | true =>
        rw [hb] at hAB
        have hk49 : k < 49 := by omega
        have ca := hP.ca k hk49
        rw [Q.linkTo_at k f t hk49] at ca
        have fz := hP.fz
        have hx : p.ahead.getD k 0 < 2 ^ 49 := Q.lt64 HOK.out (HOK.out.a k)
        obtain ⟨O, hOe⟩ : ∃ O, O = p.ahead.getD k 0 ||| f := ⟨_, rfl⟩
        have hO : bits .or .u64 ((p.ahead.getD k 0 : Nat) : Int) (f : Int) = (O : Int) := by rw [hOe]; exact or_u hx hf49
        have HN : Hid (PaT (wr.setCell ⟨b, 1 + k, none⟩ (.int .u64 (O : Int))) b (Q.linkTo (k + 1) f t p)) := by
          refine hP.setA k O hk49 (Q.linkTo_ok _ _ _ HOK.out hf) ?_
          rw [Q.linkTo_step k f t hk49 hb, hOe]
        have HK : Hid (Keep [b] w wr) := hK
        have hks : (k : Int) < 49 := by omega
        generalize p.ahead.getD k 0 = X at *
        clear hOe hP hK
        go_wp2_with (go_at_call 107; refine (bit_any k B _ h48 HB).mono ?_; rintro e w1 ⟨rfl, rfl⟩)
        go_region
        all_goals go_wp2
        all_goals go_roundw
        all_goals first
          | (case rel => exact ⟨k + 1, by omega, by go_num, HN.out.drew, (HK.out.setCell (by simp) _).drew⟩)
          | (case measure => simp [intOf]; omega)
          | skip
    · have : k = p.size := by omega
      subst this
      go_wp2
      go_end0
      exact ⟨rfl, hP, hK⟩
end Go.Proofs.Ytjmkkkfloalliaa

namespace Go.Proofs.Ytjmkkkfloalliaa
set_option linter.unusedVariables false
open Go.RowKit

theorem nz_u (a : Nat) : ((a : Int) != 0) = (a != 0) := by
  rw [Bool.eq_iff_iff]
  simp only [bne_iff_ne, ne_eq]
  exact ⟨fun h e => h (by rw [e]; rfl), fun h e => h (by omega)⟩

set_option maxRecDepth 10000 in
set_option maxHeartbeats 800000 in
theorem Begins_any (b : Nat) (p : Q.Pat) (s : Nat) (w : World) (hP : PaT w b p) (hs : s < 2 ^ 49) :
    Calls Try.prog 77 #[.pointer (some ⟨b, 0, none⟩), .int .u64 (s : Int)] w fun e w' => e = .returned (.bool (s &&& p.begins != 0)) ∧ w' = w := by
  have cb := hP.cb
  obtain ⟨A, hAe⟩ : ∃ A, A = s &&& p.begins := ⟨_, rfl⟩
  have hA : bits .and .u64 (s : Int) (p.begins : Int) = (A : Int) := by rw [hAe]; exact and_u hs (Q.lt64 hP.ok hP.ok.b)
  rw [← hAe, ← nz_u]
  clear hAe hP
  go_enter Try.func77, Try.ntmps77
  go_wp2
  go_ret
  exact ⟨rfl, rfl⟩

set_option maxRecDepth 10000 in
set_option maxHeartbeats 1600000 in
theorem Ahead_any (b : Nat) (p : Q.Pat) (s : Nat) (c : UInt8) (w : World) (hP : PaT w b p) (hs : s < 2 ^ 49) :
    Calls Try.prog 89 #[.pointer (some ⟨b, 0, none⟩), .int .u64 (s : Int), .int .u8 (c.toNat : Int)] w fun e w' => e = .returned (.int .u64 ((Q.aheadOf p s c.toNat : Nat) : Int)) ∧ w' = w := by
  have hsz := hP.ok.size
  have c0 := hP.c0
  have HP : Hid (PaT w b p) := hP
  have hc256 : c.toNat < 256 := c.toNat_lt
  have ctk := hP.ct c.toNat hc256
  obtain ⟨R, hRe⟩ : ∃ R, R = Q.aheadOf p s c.toNat := ⟨_, rfl⟩
  have hR : bits .and .u64 ((Q.aheadTo p s p.size : Nat) : Int) ((p.takes.getD c.toNat 0 : Nat) : Int) = (R : Int) := by
    rw [hRe]
    exact and_u (Q.lt64 hP.ok (Q.aheadTo_lt hP.ok s _)) (Q.lt64 hP.ok (hP.ok.t _))
  rw [← hRe]
  generalize p.takes.getD c.toNat 0 = TK at *
  clear hRe hP
  go_enter Try.func89, Try.ntmps89
  go_wp2
  go_loop [7, 8] (fun x i => ∃ k : Nat, k ≤ p.size ∧ i = .int .i64 k ∧ x = .int .u64 ((Q.aheadTo p s k : Nat) : Int)) (fun _ i => p.size - (intOf i).toNat)
  case atStart => exact ⟨0, by omega, rfl, rfl⟩
  case round =>
    obtain ⟨k, hk, rfl, rfl⟩ := hrel
    by_cases hlt : k < p.size
    · have h2k : 2 ^ k < 2 ^ 49 := Nat.pow_lt_pow_right (by decide) (by omega)
      obtain ⟨B, hBe⟩ : ∃ B, B = 2 ^ k := ⟨_, rfl⟩
      obtain ⟨A, hAe⟩ : ∃ A, A = s &&& B := ⟨_, rfl⟩
      have HB : Hid (B = 2 ^ k) := hBe
      have hA : bits .and .u64 (s : Int) (B : Int) = (A : Int) := by rw [hAe]; exact and_u hs (by rw [hBe]; exact h2k)
      have hAB := and_bit' s k B A hBe hAe
      have h48 : k ≤ 48 := by omega
      clear hBe hAe h2k
      cases hb : s.testBit k with
      | false =>
        rw [hb] at hAB
        have HE : Hid (Q.aheadTo p s (k + 1) = Q.aheadTo p s k) := by show _ = _; simp [Q.aheadTo, hb]
        go_wp2_with (go_at_call 107; refine (bit_any k B _ h48 HB).mono ?_; rintro e w1 ⟨rfl, rfl⟩)
        go_round
        case rel => exact ⟨k + 1, by omega, by go_num, by rw [HE.out]⟩
        case measure => simp [intOf]; omega
      | true =>
        rw [hb] at hAB
        have hk49 : k < 49 := by omega
        have ca := HP.out.ca k hk49
        have hks : (k : Int) < 49 := by omega
        have hX : p.ahead.getD k 0 < 2 ^ 49 := Q.lt64 HP.out.ok (HP.out.ok.a k)
        have hY : Q.aheadTo p s k < 2 ^ 49 := Q.lt64 HP.out.ok (Q.aheadTo_lt HP.out.ok s k)
        obtain ⟨O, hOe⟩ : ∃ O, O = Q.aheadTo p s k ||| p.ahead.getD k 0 := ⟨_, rfl⟩
        have hO : bits .or .u64 ((Q.aheadTo p s k : Nat) : Int) ((p.ahead.getD k 0 : Nat) : Int) = (O : Int) := by rw [hOe]; exact or_u hY hX
        have HE : Hid (Q.aheadTo p s (k + 1) = O) := by show _ = _; rw [hOe]; simp [Q.aheadTo, hb]
        generalize p.ahead.getD k 0 = X at *
        generalize Q.aheadTo p s k = Y at *
        clear hOe
        go_wp2_with (go_at_call 107; refine (bit_any k B _ h48 HB).mono ?_; rintro e w1 ⟨rfl, rfl⟩)
        go_round
        case rel => exact ⟨k + 1, by omega, by go_num, by rw [HE.out]⟩
        case measure => simp [intOf]; omega
    · have : k = p.size := by omega
      subst this
      have hcs : (c.toNat : Int) < 256 := by omega
      go_wp2
      go_ret
      exact ⟨rfl, rfl⟩

/-- a span as a value -/
def spanV (a : Q.Span) : Value := .agg #[.int .u64 (a.first : Int), .int .u64 (a.last : Int), .bool a.empty]

set_option maxRecDepth 10000 in
set_option maxHeartbeats 1600000 in
theorem pjoin_any (b : Nat) (p : Q.Pat) (x y : Q.Span) (w : World) (hP : PaT w b p) (hx : Q.SpanOk p x) (hy : Q.SpanOk p y) :
    Calls Try.prog 104 #[.pointer (some ⟨b, 0, none⟩), spanV x, spanV y] w fun e w' => e = .returned (spanV (Q.join x y p).1) ∧ PaT w' b (Q.join x y p).2 ∧ Keep [b] w w' := by
  have hlt := hP.blk.lt
  have HP : Hid (∀ o1 o2 o3, PaT (((w.alloc o1).alloc o2).alloc o3) b p) := fun o1 o2 o3 => ((hP.alloc o1).alloc o2).alloc o3
  have hxl := hx.2
  have x1 := Q.lt64 hP.ok hx.1
  have x2 := Q.lt64 hP.ok hx.2
  have y1 := Q.lt64 hP.ok hy.1
  have y2 := Q.lt64 hP.ok hy.2
  obtain ⟨xf, xl, xe⟩ := x
  obtain ⟨yf, yl, ye⟩ := y
  simp only at x1 x2 y1 y2 hxl
  obtain ⟨O1, hO1e⟩ : ∃ O, O = xf ||| yf := ⟨_, rfl⟩
  obtain ⟨O2, hO2e⟩ : ∃ O, O = yl ||| xl := ⟨_, rfl⟩
  have hO1 : bits .or .u64 (xf : Int) (yf : Int) = (O1 : Int) := by rw [hO1e]; exact or_u x1 y1
  have hO2 : bits .or .u64 (yl : Int) (xl : Int) = (O2 : Int) := by rw [hO2e]; exact or_u y2 x2
  have HJ : Hid (Q.join ⟨xf, xl, xe⟩ ⟨yf, yl, ye⟩ p = (⟨if xe = true then O1 else xf, if ye = true then O2 else yl, xe && ye⟩, Q.link xl yf p)) := by show _ = _; unfold Q.join; rw [hO1e, hO2e]
  rw [HJ.out]
  clear HJ hP hO1e hO2e hx hy
  unfold spanV
  simp only
  cases xe <;> cases ye <;>
  · go_enter Try.func104, Try.ntmps104
    go_wp2_with fail
    refine (link_any b p xl yf _ (HP.out _ _ _) hxl y1).mono ?_
    rintro e w1 ⟨rfl, hP1, hK1⟩
    have hs1 := hK1.size
    have BX := BlkT.keep (BlkT.alloc (BlkT.alloc (BlkT.new w _ _) _) _) hK1 (by simp; omega)
    have BY := BlkT.keep (BlkT.alloc (BlkT.new (w.alloc _) _ _) _) hK1 (by simp; omega)
    have BZ := BlkT.keep (BlkT.new ((w.alloc _).alloc _) _ _) hK1 (by simp; omega)
    simp only [World.size_alloc] at hs1 BX BY BZ
    have hKw : Keep [b] w w1 := (((Keep.refl [b] w).alloc _).alloc _).alloc _ |>.trans hK1
    have bx0 := BX.cell 0; have bx1 := BX.cell 1; have bx2 := BX.cell 2
    have by0 := BY.cell 0; have by1 := BY.cell 1; have by2 := BY.cell 2
    have bz0 := BZ.cell 0; have bz1 := BZ.cell 1; have bz2 := BZ.cell 2
    have fz := BZ.frozen
    simp only [List.getElem?_cons_zero, List.getElem?_cons_succ] at bx0 bx1 bx2 by0 by1 by2 bz0 bz1 bz2
    have HPE : Hid (PaT w1 b (Q.link xl yf p)) := hP1
    have HKE : Hid (Keep [b] w w1) := hKw
    have m0 : w.heap.size < w1.heap.size := by omega
    have m1 : w.heap.size + 1 < w1.heap.size := by omega
    have m2 : w.heap.size + 1 + 1 < w1.heap.size := by omega
    clear hK1 hP1 hKw BX BY BZ
    go_wp2
    first
      | exact bodyPost_ret (v := .agg #[.int .u64 (xf : Int), .int .u64 (yl : Int), .bool false]) (by simp [results, Try.results104, go_sem, *]) rfl ⟨rfl, (((HPE.out.other (by simp; omega) _).other (by simp; omega) _).other (by simp; omega) _).alloc _, (((HKE.out.setNew (by simp; omega) _).setNew (by simp; omega) _).setNew (by simp; omega) _).alloc _⟩
      | exact bodyPost_ret (v := .agg #[.int .u64 (xf : Int), .int .u64 (O2 : Int), .bool false]) (by simp [results, Try.results104, go_sem, *]) rfl ⟨rfl, (((HPE.out.other (by simp; omega) _).other (by simp; omega) _).other (by simp; omega) _).alloc _, (((HKE.out.setNew (by simp; omega) _).setNew (by simp; omega) _).setNew (by simp; omega) _).alloc _⟩
      | exact bodyPost_ret (v := .agg #[.int .u64 (O1 : Int), .int .u64 (yl : Int), .bool false]) (by simp [results, Try.results104, go_sem, *]) rfl ⟨rfl, (((HPE.out.other (by simp; omega) _).other (by simp; omega) _).other (by simp; omega) _).alloc _, (((HKE.out.setNew (by simp; omega) _).setNew (by simp; omega) _).setNew (by simp; omega) _).alloc _⟩
      | exact bodyPost_ret (v := .agg #[.int .u64 (O1 : Int), .int .u64 (O2 : Int), .bool true]) (by simp [results, Try.results104, go_sem, *]) rfl ⟨rfl, (((HPE.out.other (by simp; omega) _).other (by simp; omega) _).other (by simp; omega) _).alloc _, (((HKE.out.setNew (by simp; omega) _).setNew (by simp; omega) _).setNew (by simp; omega) _).alloc _⟩
end Go.Proofs.Ytjmkkkfloalliaa

