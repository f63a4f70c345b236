import Derived.Test.YtjmkkkfloalliabYI
-- the reader: sequences, alternatives
namespace Go.Proofs.Ytjmkkkfloalliab
set_option linter.unusedVariables false
open Go.RowKit

theorem natB_get {v : Value} (h : natB v = true) : v = .int .i64 (natOf v : Int) := by
  match v, h with
  | .int .i64 n, h =>
    have : 0 ≤ n := by simpa [natB] using h
    simp only [natOf]
    congr 1
    omega
theorem exec_build1 {d : Option Tmp} {x : Operand} {ty : TypeId} {pos : String} {after : Array Edge} {guard : Option (Nat × Bool)} {a : Act} {w : World} (hx : natB (a.eval x) = true) :
    (execOp a.eval ⟨d, .build 90 #[(0, x)], ty, pos, after, guard⟩).run Try.prog w = .ok (.value (.agg (partCells (Q.mk (natOf (a.eval x)) 0 0)).toArray)) w := by
  have e : (Array.map (fun (y : Nat × Operand) => (y.1, a.eval y.2)) #[(0, x)]) = #[(0, .int .i64 (natOf (a.eval x) : Int))] := by
    simp only [List.map_toArray, List.map_cons, List.map_nil]
    rw [← natB_get hx]
  unfold execOp
  simp only [Sem.run_bind]
  rw [e, run_build w _ _ _ (built1 _)]
  rfl
theorem exec_build2 {d : Option Tmp} {x y : Operand} {ty : TypeId} {pos : String} {after : Array Edge} {guard : Option (Nat × Bool)} {a : Act} {w : World} (hx : natB (a.eval x) = true) (hy : natB (a.eval y) = true) :
    (execOp a.eval ⟨d, .build 90 #[(0, x), (2, y)], ty, pos, after, guard⟩).run Try.prog w = .ok (.value (.agg (partCells (Q.mk (natOf (a.eval x)) (natOf (a.eval y)) 0)).toArray)) w := by
  have e : (Array.map (fun (y : Nat × Operand) => (y.1, a.eval y.2)) #[(0, x), (2, y)]) = #[(0, .int .i64 (natOf (a.eval x) : Int)), (2, .int .i64 (natOf (a.eval y) : Int))] := by
    simp only [List.map_toArray, List.map_cons, List.map_nil]
    rw [← natB_get hx, ← natB_get hy]
  unfold execOp
  simp only [Sem.run_bind]
  rw [e, run_build w _ _ _ (built2 _ _)]
  rfl
theorem exec_build3 {d : Option Tmp} {x y z : Operand} {ty : TypeId} {pos : String} {after : Array Edge} {guard : Option (Nat × Bool)} {a : Act} {w : World} (hx : natB (a.eval x) = true) (hy : natB (a.eval y) = true) (hz : natB (a.eval z) = true) :
    (execOp a.eval ⟨d, .build 90 #[(0, x), (2, y), (3, z)], ty, pos, after, guard⟩).run Try.prog w = .ok (.value (.agg (partCells (Q.mk (natOf (a.eval x)) (natOf (a.eval y)) (natOf (a.eval z)))).toArray)) w := by
  have e : (Array.map (fun (y : Nat × Operand) => (y.1, a.eval y.2)) #[(0, x), (2, y), (3, z)]) = #[(0, .int .i64 (natOf (a.eval x) : Int)), (2, .int .i64 (natOf (a.eval y) : Int)), (3, .int .i64 (natOf (a.eval z) : Int))] := by
    simp only [List.map_toArray, List.map_cons, List.map_nil]
    rw [← natB_get hx, ← natB_get hy, ← natB_get hz]
  unfold execOp
  simp only [Sem.run_bind]
  rw [e, run_build w _ _ _ (built3 _ _ _)]
  rfl
theorem natB_0 : natB (.int .i64 0) = true := rfl
theorem natB_1 : natB (.int .i64 1) = true := rfl
theorem natB_2 : natB (.int .i64 2) = true := rfl
theorem natB_3 : natB (.int .i64 3) = true := rfl
theorem natB_4 : natB (.int .i64 4) = true := rfl
theorem natOf_0 : natOf (.int .i64 0) = 0 := rfl
theorem natOf_1 : natOf (.int .i64 1) = 1 := rfl
theorem natOf_2 : natOf (.int .i64 2) = 2 := rfl
theorem natOf_3 : natOf (.int .i64 3) = 3 := rfl
theorem natOf_4 : natOf (.int .i64 4) = 4 := rfl
attribute [local go_sem ↓] exec_build1 exec_build2 exec_build3
attribute [local go_sem] natB_n natOf_n natB_0 natB_1 natB_2 natB_3 natB_4 natOf_0 natOf_1 natOf_2 natOf_3 natOf_4

/-- what a reader must be before a job -/
structure Cd (pat : ByteArray) (σ : Q.Rd) (m : Nat) : Prop where
  at_ : σ.at_ ≤ pat.size
  ok : Q.PartsOk σ.parts
  phi : Q.phi (L pat) σ ≤ m
  dep : σ.depth + Q.left (L pat) σ ≤ 1000

/-- what a job's call does -/
def Does (F : FuncId) (f : Nat) (j : Q.Job) (m : Nat) : Prop := ∀ (B br : Nat) (pat : ByteArray) (σ : Q.Rd) (v : Value) (w : World), Rt w B br pat σ v → B ≤ br → pat.size ≤ 1000 → Cd pat σ m → 8 * Q.left (L pat) σ + j.rank ≤ f → j.needs (L pat) σ →
  Calls Try.prog F #[.pointer (some ⟨br, 0, none⟩)] w fun e w' => e = .returned (.int .i64 ((Q.go (L pat) f j σ).1 : Nat)) ∧ (∃ v', Rt w' B br pat (Q.go (L pat) f j σ).2 v') ∧ Below B w w'

theorem Q.need_depth (s : List UInt8) (c : Int) (σ : Q.Rd) : (Q.need s c σ).depth = σ.depth := by unfold Q.need; split <;> rfl
theorem Q.anyByte_depth (s : List UInt8) (σ : Q.Rd) : (Q.anyByte s σ).2.depth = σ.depth := by unfold Q.anyByte; split <;> rfl
theorem Q.number_depth (s : List UInt8) (σ : Q.Rd) : (Q.number s σ).2.depth = σ.depth := by
  unfold Q.number
  split
  · rfl
  · split <;> rfl
theorem Q.fwd_depth (σ : Q.Rd) : (Q.fwd σ).depth = σ.depth := rfl
theorem Q.bounds_depth (s : List UInt8) (p : Q.Part) (σ : Q.Rd) : (Q.bounds s p σ).2.depth = σ.depth := by
  unfold Q.bounds
  rw [Q.need_depth]
  show (Q.bounds1 s σ).2.2.depth = _
  unfold Q.bounds1
  split
  · split
    · rw [Q.number_depth, Q.fwd_depth, Q.number_depth]
    · rw [Q.fwd_depth, Q.number_depth]
  · exact Q.number_depth s σ
theorem Q.memberByte_depth (s : List UInt8) (σ : Q.Rd) : (Q.memberByte s σ).2.depth = σ.depth := by
  unfold Q.memberByte
  split
  · rw [Q.anyByte_depth, Q.fwd_depth]
  · rw [Q.anyByte_depth]; split <;> rfl
theorem Q.member_depth (s : List UInt8) (ins : List Bool) (σ : Q.Rd) : (Q.member s ins σ).2.depth = σ.depth := by
  unfold Q.member Q.member1
  simp only
  split
  · simp only; rw [Q.memberByte_depth, Q.fwd_depth, Q.memberByte_depth]
  · simp only; rw [Q.memberByte_depth]
theorem Q.members_depth (s : List UInt8) : ∀ (f : Nat) (ins : List Bool) (σ : Q.Rd), (Q.members s f ins σ).2.depth = σ.depth
  | 0, _, _ => rfl
  | f + 1, ins, σ => by
    unfold Q.members
    split
    · rfl
    · split
      · rfl
      · rw [Q.members_depth s f, Q.member_depth]
theorem Q.cls_depth (s : List UInt8) (ins : List Bool) (σ : Q.Rd) : (Q.cls s ins σ).2.depth = σ.depth := by
  unfold Q.cls
  split
  · simp only; rw [Q.members_depth, Q.member_depth]; rfl
  · rw [Q.members_depth, Q.member_depth]; rfl
theorem Q.leaf_depth (s : List UInt8) (σ : Q.Rd) : (Q.leaf s σ).2.depth = σ.depth := by
  unfold Q.leaf
  split
  · rfl
  · split
    · exact Q.cls_depth s _ _
    · split
      · rfl
      · split
        · exact Q.anyByte_depth s _
        · rfl
theorem Q.repPart_depth (s : List UInt8) (n : Nat) (σ : Q.Rd) : (Q.repPart s n σ).2.depth = σ.depth := by
  unfold Q.repPart
  split
  · rfl
  · split
    · rfl
    · split
      · rfl
      · exact Q.bounds_depth s _ _
theorem Q.add_depth (p : Q.Part) (σ : Q.Rd) : (Q.add p σ).2.depth = σ.depth := rfl
theorem Q.go_depth (s : List UInt8) : ∀ (f : Nat) (j : Q.Job) (σ : Q.Rd), (Q.go s f j σ).2.depth = σ.depth
  | 0, _, _ => rfl
  | f + 1, .inl (), σ => by unfold Q.go; rw [Q.go_depth s f, Q.go_depth s f]
  | f + 1, .inr (.inl n), σ => by
    unfold Q.go
    split
    · rw [Q.go_depth s f, Q.add_depth, Q.go_depth s f, Q.fwd_depth]
    · rfl
  | f + 1, .inr (.inr (.inl ())), σ => by unfold Q.go; rw [Q.go_depth s f, Q.add_depth]
  | f + 1, .inr (.inr (.inr (.inl n))), σ => by
    unfold Q.go
    split
    · rfl
    · rw [Q.go_depth s f, Q.add_depth, Q.go_depth s f]
  | f + 1, .inr (.inr (.inr (.inr (.inl ())))), σ => by unfold Q.go; rw [Q.go_depth s f, Q.go_depth s f]
  | f + 1, .inr (.inr (.inr (.inr (.inr (.inl n))))), σ => by
    unfold Q.go
    split
    · rw [Q.go_depth s f, Q.add_depth, Q.repPart_depth]
    · rfl
  | f + 1, .inr (.inr (.inr (.inr (.inr (.inr ()))))), σ => by
    unfold Q.go
    split
    · show (Q.need s 41 _).depth = _
      rw [Q.need_depth]
      show (Q.go s f .alt (Q.opened σ)).2.depth - 1 = _
      rw [Q.go_depth s f]
      rfl
    · rw [Q.add_depth, Q.leaf_depth]
theorem Cd.add {pat : ByteArray} {σ : Q.Rd} {m : Nat} {p : Q.Part} (h : Cd pat σ m) (hp : Q.PartOk σ.parts.length p) : Cd pat (Q.add p σ).2 (m + 1) :=
  ⟨h.at_, h.ok.add hp, by rw [Q.phi_add]; have := h.phi; omega, h.dep⟩
theorem Cd.go {pat : ByteArray} {σ : Q.Rd} {m m' f : Nat} {j : Q.Job} (h : Cd pat σ m) (hf : 8 * Q.left (L pat) σ + j.rank ≤ f) (hj : j.ok σ) (hn : j.needs (L pat) σ) (hm : m + j.cost ≤ m' + 3) : Cd pat (Q.go (L pat) f j σ).2 m' ∧ Q.Good (s := L pat) σ (Q.go (L pat) f j σ) ∧ j.adv (s := L pat) σ (Q.go (L pat) f j σ) := by
  obtain ⟨g, a⟩ := Q.go_good (s := L pat) f j σ hf h.ok hj
  have hp := Q.go_phi (s := L pat) f j σ hf h.ok hj hn
  have hl := g.on.left
  have := h.dep
  refine ⟨⟨?_, g.ok, by have := h.phi; omega, by rw [Q.go_depth]; omega⟩, g, a⟩
  have := g.on.len (by rw [size_len]; exact h.at_)
  rw [size_len] at this
  exact this
theorem Cd.mono {pat : ByteArray} {σ : Q.Rd} {m m' : Nat} (h : Cd pat σ m) (hm : m ≤ m') : Cd pat σ m' := ⟨h.at_, h.ok, Nat.le_trans h.phi hm, h.dep⟩
theorem Cd.len {pat : ByteArray} {σ : Q.Rd} {m : Nat} (h : Cd pat σ m) : σ.parts.length ≤ m := by have := h.phi; unfold Q.phi at this; omega

set_option maxRecDepth 10000 in
set_option maxHeartbeats 1600000 in
theorem seq_step (f : Nat) (hrep : ∀ g, g < f → Does 92 g .rep 9004) : Does 77 f .seq 9000 := by
  intro B br pat σ v w hR hB hs hC hf _
  have HL : Hid ((L pat).length = pat.size) := size_len pat
  obtain ⟨g0, rfl⟩ : ∃ g, f = g + 1 := ⟨f - 1, by simp only [Q.Job.rank] at hf; omega⟩
  simp only [Q.Job.rank] at hf
  have HR : Hid (Rt w B br pat σ v) := hR
  have hp1 : σ.parts.length ≤ 10000 := by have := hC.phi; unfold Q.phi at this; omega
  have HPK : Hid (Q.PartOk σ.parts.length (Q.mk 0 0 0)) := Q.mk_ok _ _ _ _ (by omega) (fun h => by omega) (fun h => by omega)
  have HC : Hid (Cd pat σ 9000) := hC
  have HG : Hid (Q.go (L pat) (g0 + 1) .seq σ = Q.go (L pat) g0 (.seqL (Q.add (Q.mk 0 0 0) σ).1) (Q.add (Q.mk 0 0 0) σ).2) := rfl
  rw [HG.out]
  obtain ⟨X, hX⟩ : ∃ X, Q.go (L pat) g0 (.seqL (Q.add (Q.mk 0 0 0) σ).1) (Q.add (Q.mk 0 0 0) σ).2 = X := ⟨_, rfl⟩
  rw [hX]
  have HX : Hid (Q.go (L pat) g0 (.seqL (Q.add (Q.mk 0 0 0) σ).1) (Q.add (Q.mk 0 0 0) σ).2 = X) := hX
  clear hX hR hC HG
  go_enter Try.func77, Try.ntmps77
  go_wp2_with (first
    | (go_at_call 79; refine (radd_any B br pat σ (Q.mk 0 0 0) v _ HR.out hB hp1 HC.out.ok HPK.out).mono ?_; rintro e w1 ⟨rfl, ⟨v1, hR1⟩, hB1⟩)
    | (go_at_call 91; refine (next_any br pat _ v1 _ hR1.rd hs HC.out.at_).mono ?_; rintro e w2 ⟨rfl, q, rfl⟩))
  have hC1 := HC.out.add HPK.out
  go_loopg [3, 4] g0 (fun f i3 i4 wr => ∃ (n : Nat) (τ : Q.Rd) (vv : Value), i3 = .int .i64 n ∧ i4 = .int .i64 (Q.next (L pat) τ) ∧ Rt wr B br pat τ vv ∧ Cd pat τ 9001 ∧ 8 * Q.left (L pat) τ + 4 ≤ f ∧ n < τ.parts.length ∧ Hid (Q.go (L pat) f (.seqL n) τ = X) ∧ Below B w wr ∧ f ≤ g0)
  case atStart => exact ⟨_, _, v1, rfl, rfl, hR1.drewN q, hC1, by rw [Q.add_left]; omega, by simp [Q.add], HX, below_drewN hB1 q, Nat.le_refl _⟩
  case round =>
    clear hR1 hB1 hC1 HX HPK hp1
    obtain ⟨n, τ, vv, rfl, rfl, hR1, hC1, hfu, hnl, HX, hB1, hle⟩ := hrel
    obtain ⟨f1, rfl⟩ : ∃ f1, gk = f1 + 1 := ⟨gk - 1, by omega⟩
    have hfin : Q.ends (Q.next (L pat) τ) = true → X = (n, τ) := fun h => by
      have := HX.out
      unfold Q.go at this
      rw [if_pos h] at this
      exact this.symm
    have hgo : Q.ends (Q.next (L pat) τ) = false → Q.go (L pat) f1 (.seqL (Q.add (Q.mk 2 n (Q.go (L pat) f1 .rep τ).1) (Q.go (L pat) f1 .rep τ).2).1) (Q.add (Q.mk 2 n (Q.go (L pat) f1 .rep τ).1) (Q.go (L pat) f1 .rep τ).2).2 = X := fun h => by
      have := HX.out
      unfold Q.go at this
      rw [if_neg (by rw [h]; decide)] at this
      exact this
    have HFIN : Hid (Q.ends (Q.next (L pat) τ) = true → X = (n, τ)) := hfin
    have HGO : Hid (Q.ends (Q.next (L pat) τ) = false → Q.go (L pat) f1 (.seqL (Q.add (Q.mk 2 n (Q.go (L pat) f1 .rep τ).1) (Q.go (L pat) f1 .rep τ).2).1) (Q.add (Q.mk 2 n (Q.go (L pat) f1 .rep τ).1) (Q.go (L pat) f1 .rep τ).2).2 = X) := hgo
    clear hfin hgo HX
    by_cases e1 : Q.next (L pat) τ = -1
    · have HE : Hid (X = (n, τ)) := HFIN.out (by rw [e1]; rfl)
      go_wp2
      go_ret
      exact ⟨by rw [HE.out]; rfl, ⟨vv, by rw [HE.out]; exact hR1⟩, hB1⟩
    have q1 : (Q.next (L pat) τ == -1) = false := by simp [e1]
    by_cases e2 : Q.next (L pat) τ = 124
    · have HE : Hid (X = (n, τ)) := HFIN.out (by rw [e2]; rfl)
      clear e1 q1
      go_wp2
      go_ret
      exact ⟨by rw [HE.out]; rfl, ⟨vv, by rw [HE.out]; exact hR1⟩, hB1⟩
    have q2 : (Q.next (L pat) τ == 124) = false := by simp [e2]
    by_cases e3 : Q.next (L pat) τ = 41
    · have HE : Hid (X = (n, τ)) := HFIN.out (by rw [e3]; rfl)
      clear e1 e2 q1 q2
      go_wp2
      go_ret
      exact ⟨by rw [HE.out]; rfl, ⟨vv, by rw [HE.out]; exact hR1⟩, hB1⟩
    have q3 : (Q.next (L pat) τ == 41) = false := by simp [e3]
    have HGE : Hid (Q.go (L pat) f1 (.seqL (Q.add (Q.mk 2 n (Q.go (L pat) f1 .rep τ).1) (Q.go (L pat) f1 .rep τ).2).1) (Q.add (Q.mk 2 n (Q.go (L pat) f1 .rep τ).1) (Q.go (L pat) f1 .rep τ).2).2 = X) := HGO.out (by unfold Q.ends; rw [q1, q2, q3]; rfl)
    obtain ⟨hC2, hG2, hA2⟩ := Cd.go (f := f1) (j := .rep) (m' := 8998) hC1 (by simp only [Q.Job.rank]; omega) trivial e1 (by simp only [Q.Job.cost]; omega)
    have hl2 : Q.left (L pat) (Q.go (L pat) f1 .rep τ).2 < Q.left (L pat) τ := hA2 e1
    have HPK : Hid (Q.PartOk (Q.go (L pat) f1 .rep τ).2.parts.length (Q.mk 2 n (Q.go (L pat) f1 .rep τ).1)) := Q.mk_ok _ _ _ _ (by omega) (fun _ => Nat.lt_of_lt_of_le hnl hG2.len) (fun _ => hG2.lt)
    have hC3 := hC2.add HPK.out
    have HREP : Hid (Does 92 f1 .rep 9004) := hrep f1 (by omega)
    have hC1' := hC1.mono (m' := 9004) (by omega)
    have hfu' : 8 * Q.left (L pat) τ + Q.Job.rank .rep ≤ f1 := by simp only [Q.Job.rank]; omega
    have hne : Q.Job.needs (L pat) τ .rep := e1
    have hlen2 := hC2.len
    clear hC1 hA2 hG2 HFIN HGO e2 e3
    have HNE : Hid (Q.Job.needs (L pat) τ .rep) := hne
    have r1 : (Q.next (L pat) τ != -1) = true := by simp [q1, bne]
    have r2 : (Q.next (L pat) τ != 124) = true := by simp [q2, bne]
    have r3 : (Q.next (L pat) τ != 41) = true := by simp [q3, bne]
    clear hne e1 hrep
    go_wp2_with (first
      | (go_at_call 92; refine (HREP.out B br pat τ vv _ hR1 hB hs hC1' hfu' HNE.out).mono ?_; rintro e w2 ⟨rfl, ⟨v2, hR2⟩, hB2⟩)
      | (go_at_call 79; refine (radd_any B br pat _ (Q.mk 2 n (Q.go (L pat) f1 .rep τ).1) v2 _ hR2 hB (by omega) hC2.ok HPK.out).mono ?_; rintro e w3 ⟨rfl, ⟨v3, hR3⟩, hB3⟩)
      | (go_at_call 91; refine (next_any br pat _ v3 _ hR3.rd hs hC3.at_).mono ?_; rintro e w4 ⟨rfl, q4, rfl⟩))
    go_roundg f1
    case measure => omega
    case rel => exact ⟨_, _, v3, rfl, rfl, hR3.drewN q4, hC3.mono (by omega), by rw [Q.add_left]; omega, by simp [Q.add], HGE, below_drewN ((hB1.trans hB2).trans hB3) q4, by omega⟩

set_option maxRecDepth 10000 in
set_option maxHeartbeats 1600000 in
theorem alt_step (f : Nat) (hseq : ∀ g, g < f → Does 77 g .seq 9000) : Does 64 f .alt 9000 := by
  intro B br pat σ v w hR hB hs hC hf _
  have HL : Hid ((L pat).length = pat.size) := size_len pat
  obtain ⟨g0, rfl⟩ : ∃ g, f = g + 1 := ⟨f - 1, by simp only [Q.Job.rank] at hf; omega⟩
  simp only [Q.Job.rank] at hf
  have HR : Hid (Rt w B br pat σ v) := hR
  have HC : Hid (Cd pat σ 9000) := hC
  obtain ⟨hC1, hG1, _⟩ := Cd.go (f := g0) (j := .seq) (m' := 9001) hC (by simp only [Q.Job.rank]; omega) trivial trivial (by simp only [Q.Job.cost]; omega)
  have hl1 := hG1.on.left
  have HG : Hid (Q.go (L pat) (g0 + 1) .alt σ = Q.go (L pat) g0 (.altL (Q.go (L pat) g0 .seq σ).1) (Q.go (L pat) g0 .seq σ).2) := rfl
  rw [HG.out]
  obtain ⟨X, hX⟩ : ∃ X, Q.go (L pat) g0 (.altL (Q.go (L pat) g0 .seq σ).1) (Q.go (L pat) g0 .seq σ).2 = X := ⟨_, rfl⟩
  rw [hX]
  have HX : Hid (Q.go (L pat) g0 (.altL (Q.go (L pat) g0 .seq σ).1) (Q.go (L pat) g0 .seq σ).2 = X) := hX
  have HSEQ : Hid (Does 77 g0 .seq 9000) := hseq g0 (by omega)
  have hfu0 : 8 * Q.left (L pat) σ + Q.Job.rank .seq ≤ g0 := by simp only [Q.Job.rank]; omega
  have hlt1 := hG1.lt
  clear hX hR hC HG hG1
  go_enter Try.func64, Try.ntmps64
  go_wp2_with (go_at_call 77; refine (HSEQ.out B br pat σ v _ HR.out hB hs HC.out hfu0 trivial).mono ?_; rintro e w1 ⟨rfl, ⟨v1, hR1⟩, hB1⟩)
  go_loopg [3] g0 (fun f i3 wr => ∃ (n : Nat) (τ : Q.Rd) (vv : Value), i3 = .int .i64 n ∧ Rt wr B br pat τ vv ∧ Cd pat τ 9001 ∧ 8 * Q.left (L pat) τ + 1 ≤ f ∧ n < τ.parts.length ∧ Hid (Q.go (L pat) f (.altL n) τ = X) ∧ Below B w wr ∧ f ≤ g0)
  case atStart => exact ⟨_, _, v1, rfl, hR1, hC1, by omega, hlt1, HX, hB1, Nat.le_refl _⟩
  case round =>
    clear hR1 hB1 hC1 HX HSEQ hlt1 hl1
    obtain ⟨n, τ, vv, rfl, hR1, hC1, hfu, hnl, HX, hB1, hle⟩ := hrel
    obtain ⟨f1, rfl⟩ : ∃ f1, gk = f1 + 1 := ⟨gk - 1, by omega⟩
    by_cases e1 : Q.next (L pat) τ = 124
    · have q1 : (Q.next (L pat) τ == 124) = true := by simp [e1]
      have HT : Hid (Q.take (L pat) 124 τ = Q.fwd τ) := by show _ = _; unfold Q.take; rw [if_pos e1]
      have HGE : Hid (Q.go (L pat) f1 (.altL (Q.add (Q.mk 3 n (Q.go (L pat) f1 .seq (Q.fwd τ)).1) (Q.go (L pat) f1 .seq (Q.fwd τ)).2).1) (Q.add (Q.mk 3 n (Q.go (L pat) f1 .seq (Q.fwd τ)).1) (Q.go (L pat) f1 .seq (Q.fwd τ)).2).2 = X) := by
        have := HX.out
        unfold Q.go at this
        rw [if_pos e1] at this
        exact this
      have hne : Q.next (L pat) τ ≠ -1 := by rw [e1]; decide
      have hfl := Q.fwd_left hne
      have hfp := Q.phi_fwd hne
      have hCf : Cd pat (Q.fwd τ) 9000 := ⟨by have := (Q.fwd_on (s := L pat) hne).len (by rw [HL.out]; exact hC1.at_); rw [HL.out] at this; exact this, hC1.ok, by have := hC1.phi; omega, by have := hC1.dep; show τ.depth + _ ≤ _; omega⟩
      have hfu1 : 8 * Q.left (L pat) (Q.fwd τ) + Q.Job.rank .seq ≤ f1 := by simp only [Q.Job.rank]; omega
      obtain ⟨hC2, hG2, _⟩ := Cd.go (f := f1) (j := .seq) (m' := 9000) (Cd.mono (m := 8997) ⟨hCf.at_, hCf.ok, by have := hC1.phi; omega, hCf.dep⟩ (by omega : 8997 ≤ 8997)) hfu1 trivial trivial (by simp only [Q.Job.cost]; omega)
      have hl2 := hG2.on.left
      have HPK : Hid (Q.PartOk (Q.go (L pat) f1 .seq (Q.fwd τ)).2.parts.length (Q.mk 3 n (Q.go (L pat) f1 .seq (Q.fwd τ)).1)) := Q.mk_ok _ _ _ _ (by omega) (fun _ => Nat.lt_of_lt_of_le hnl hG2.len) (fun _ => hG2.lt)
      have hC3 := hC2.add HPK.out
      have HSEQ : Hid (Does 77 f1 .seq 9000) := hseq f1 (by omega)
      have hlen2 := hC2.len
      have hat := hC1.at_
      have hown := fun b (h : vv.ownBlock = some b) => (show b ∉ [br] from fun hm => hR1.ne (by rw [h, List.mem_singleton.1 hm]))
      have HOWN : Hid (∀ b, vv.ownBlock = some b → b ∉ [br]) := hown
      clear hC1 hG2 e1 hne hseq hown HX
      go_wp2_with (first
        | (go_at_call 78; refine (take_any br pat τ vv 124 _ hR1.rd hs hat).mono ?_; rintro e w2 ⟨rfl, hR2, hK2⟩; rw [HT.out] at hR2; have hR2' := hR1.keep (τ := Q.fwd τ) hK2 HOWN.out rfl hR2; have hB2 := hK2.to_below (B := B) (by simpa using hB) (by have := hR1.lt; omega))
        | (go_at_call 77; refine (HSEQ.out B br pat _ vv _ hR2' hB hs hCf hfu1 trivial).mono ?_; rintro e w3 ⟨rfl, ⟨v3, hR3⟩, hB3⟩)
        | (go_at_call 79; refine (radd_any B br pat _ (Q.mk 3 n (Q.go (L pat) f1 .seq (Q.fwd τ)).1) v3 _ hR3 hB (by omega) hC2.ok HPK.out).mono ?_; rintro e w4 ⟨rfl, ⟨v4, hR4⟩, hB4⟩))
      go_roundg f1
      case measure => omega
      case rel => exact ⟨_, _, v4, rfl, hR4, hC3, by rw [Q.add_left]; omega, by simp [Q.add], HGE, ((hB1.trans hB2).trans hB3).trans hB4, by omega⟩
    · have q1 : (Q.next (L pat) τ == 124) = false := by simp [e1]
      have HT : Hid (Q.take (L pat) 124 τ = τ) := by show _ = _; unfold Q.take; rw [if_neg e1]
      have HE : Hid (X = (n, τ)) := by
        have := HX.out
        unfold Q.go at this
        rw [if_neg e1] at this
        exact this.symm
      have hat := hC1.at_
      have HOWN : Hid (∀ b, vv.ownBlock = some b → b ∉ [br]) := fun b h hm => hR1.ne (by rw [h, List.mem_singleton.1 hm])
      clear e1 HX
      go_wp2_with (go_at_call 78; refine (take_any br pat τ vv 124 _ hR1.rd hs hat).mono ?_; rintro e w2 ⟨rfl, hR2, hK2⟩; rw [HT.out] at hR2; have hR2' := hR1.keep hK2 HOWN.out rfl hR2; have hB2 := hK2.to_below (B := B) (by simpa using hB) (by have := hR1.lt; omega))
      go_ret
      exact ⟨by rw [HE.out]; rfl, ⟨vv, by rw [HE.out]; exact hR2'⟩, hB1.trans hB2⟩
end Go.Proofs.Ytjmkkkfloalliab
