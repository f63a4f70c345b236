import Derived.Test.YtjmkkkfloalliabZ08
import Derived.Test.YtjmkkkfloalliabZ01
namespace Go.Proofs.Ytjmkkkfloalliab.Q
set_option linter.unusedVariables false
def dnext:List UInt8→Int
 | [] => -1
 | c :: _=>(c.toNat:Int)
def dany (r:List UInt8):Option (Nat × List UInt8):=if dnext r = -1 then none else some ((dnext r).toNat,r.tail)
def dnum (r:List UInt8):Option (Nat × List UInt8) :=
 if isDigit (dnext r)=false then none
 else if isDigit (dnext r.tail)=true then some (10 * ((dnext r).toNat - 48) + ((dnext r.tail).toNat - 48),r.tail.tail)
 else some ((dnext r).toNat - 48,r.tail)
def dbounds1 (n:Nat) (r:List UInt8):Option (Nat × Bool × List UInt8) :=
 if dnext r=44 then
  if isDigit (dnext r.tail)=true then
   match dnum r.tail with
   | none=>none
   | some (m,r2)=>some (m,false,r2)
  else some (n,true,r.tail)
 else some (n,false,r)
def dbounds (r:List UInt8):Option (Nat × Nat × Bool × Bool × List UInt8) :=
 match dnum r with
 | none=>none
 | some (n,r1) =>
  match dbounds1 n r1 with
  | none=>none
  | some (h,e,r2)=>if dnext r2=125 then some (n,h,e,decide (h<n),r2.tail) else none
def dmb (r:List UInt8):Option (Nat × List UInt8) :=
 if dnext r=92 then dany r.tail else if dnext r=93∨dnext r=45 then none else dany r
def dmember (ins:List Bool) (r:List UInt8):Option (List Bool × Bool × List UInt8) :=
 match dmb r with
 | none=>none
 | some (a,r1) =>
  if dnext r1=45 then
   match dmb r1.tail with
   | none=>none
   | some (b,r2)=>some (setRange ins a b,decide (b<a),r2)
  else some (setRange ins a a,false,r1)
def dmembers:Nat→List Bool→Bool→List UInt8→Option (List Bool × Bool × List UInt8)
 | 0,_,_,_=>none
 | f + 1,ins,b,r=>if dnext r=93 then some (ins,b,r.tail) else
  match dmember ins r with
  | none=>none
  | some (i2,b2,r2)=>dmembers f i2 (b || b2) r2
def dcls1 (r:List UInt8):Option (List Bool × Bool × List UInt8) :=
 match dmember ins0 r with
 | none=>none
 | some (i,b,r1)=>dmembers (r1.length + 1) i b r1
def dcls (r:List UInt8):Option (List Bool × Bool × List UInt8) :=
 if dnext r.tail=94 then
  match dcls1 r.tail.tail with
  | none=>none
  | some (i,b,r1)=>some (turn i,b,r1)
 else dcls1 r.tail
def dleaf (r:List UInt8):Option (List Bool × Bool × List UInt8) :=
 if stops (dnext r)=true then none
 else if dnext r=91 then dcls r
 else if dnext r=46 then some (turn ins0,false,r.tail)
 else if dnext r=92 then
  match dany r.tail with
  | none=>none
  | some (c,r2)=>some (ins0.set c true,false,r2)
 else some (ins0.set (dnext r).toNat true,false,r.tail)
def drep (r:List UInt8):Option (Nat × Nat × Bool × Bool × List UInt8) :=
 if dnext r=42 then some (0,0,true,false,r.tail)
 else if dnext r=43 then some (1,0,true,false,r.tail)
 else if dnext r=63 then some (0,1,false,false,r.tail)
 else dbounds r.tail
structure Rs (s:List UInt8) (σ:Rd) (r:List UInt8):Prop where
 wrong:σ.wrong=false
 le:σ.at_≤s.length
 rest:s.drop σ.at_=r
variable {s r:List UInt8} {σ:Rd}
theorem Rs.next (h:Rs s σ r):next s σ=dnext r:=by
 have h1:=h.wrong
 have h2:=h.le
 unfold Q.next
 rw [← h.rest]
 rcases Nat.lt_or_ge σ.at_ s.length with g | g
 ·rw [if_neg (by rintro (e | e); (· rw [h1] at e; cases e); omega),List.drop_eq_getElem_cons g]
  simp [dnext,List.getD_eq_getElem?_getD,List.getElem?_eq_getElem g]
 ·rw [if_pos (.inr g),List.drop_eq_nil_of_le g]
  rfl
theorem Rs.fwd (h:Rs s σ r) (g:dnext r ≠ -1):Rs s (fwd σ) r.tail:=by
 have h2:σ.at_<s.length:=by
  rcases Nat.lt_or_ge σ.at_ s.length with k | k
  ·exact k
  ·have:=h.rest
   rw [List.drop_eq_nil_of_le k] at this
   rw [← this] at g
   exact absurd rfl g
 exact ⟨h.wrong,h2,by show s.drop (σ.at_ + 1)=_; rw [← h.rest,List.tail_drop]⟩
theorem Rs.len (h:Rs s σ r):left s σ=r.length:=by
 unfold left
 rw [if_neg (by rw [h.wrong]; decide),← h.rest,List.length_drop]
theorem next_wrong (h:σ.wrong=true):next s σ = -1:=by unfold next; rw [if_pos (.inl h)]
theorem Rs.any (h:Rs s σ r):(dany r=none→(anyByte s σ).2.wrong=true)∧∀ n r2,dany r=some (n,r2)→∃ k,anyByte s σ=(n,{ σ with at_:=k })∧Rs s { σ with at_:=k } r2:=by
 unfold dany anyByte
 rw [h.next]
 by_cases g:dnext r = -1
 ·rw [if_pos g,if_pos g]
  exact ⟨fun _=>rfl,fun n r2 e=>by cases e⟩
 ·rw [if_neg g,if_neg g]
  refine ⟨fun e=>(by cases e),fun n r2 e=>?_⟩
  cases e
  exact ⟨_,rfl,h.fwd g⟩
theorem digit_next {c:Int} (h:isDigit c=true):c ≠ -1:=by
 have:=isDigit_ne h
 omega
theorem Rs.num (h:Rs s σ r):(dnum r=none→(number s σ).2.wrong=true)∧∀ n r2,dnum r=some (n,r2)→∃ k,number s σ=(n,{ σ with at_:=k })∧Rs s { σ with at_:=k } r2:=by
 unfold dnum number
 rw [h.next]
 by_cases g:isDigit (dnext r)=false
 ·rw [if_pos g,if_pos g]
  exact ⟨fun _=>rfl,fun n r2 e=>by cases e⟩
 ·rw [if_neg g,if_neg g]
  have h2:=h.fwd (digit_next (by simpa using g))
  rw [h2.next]
  by_cases g2:isDigit (dnext r.tail)=true
  ·rw [if_pos g2,if_pos g2]
   refine ⟨fun e=>(by cases e),fun n r2 e=>?_⟩
   cases e
   exact ⟨_,rfl,h2.fwd (digit_next g2)⟩
  ·rw [if_neg g2,if_neg g2]
   refine ⟨fun e=>(by cases e),fun n r2 e=>?_⟩
   cases e
   exact ⟨_,rfl,h2⟩
theorem bounds1_of {n:Nat} {τ:Rd} (h:number s σ=(n,τ)) (hτ:Rs s τ r):(dbounds1 n r=none→(bounds1 s σ).2.2.wrong=true)∧∀ m e r2,dbounds1 n r=some (m,e,r2)→∃ k,bounds1 s σ=(m,e,{ τ with at_:=k })∧Rs s { τ with at_:=k } r2:=by
 unfold dbounds1 bounds1
 rw [h]
 simp only
 rw [hτ.next]
 by_cases g:dnext r=44
 ·rw [if_pos g,if_pos g]
  have h2:=hτ.fwd (by rw [g]; decide)
  rw [h2.next]
  by_cases g2:isDigit (dnext r.tail)=true
  ·rw [if_pos g2,if_pos g2]
   cases e:dnum r.tail with
   | none =>
    exact ⟨fun _=>h2.num.1 e,fun m e r2 x=>by cases x⟩
   | some x =>
    obtain ⟨m,r2⟩:=x
    obtain ⟨k,e1,e2⟩:=h2.num.2 m r2 e
    refine ⟨fun x=>(by cases x),fun m' e' r2' x=>?_⟩
    cases x
    rw [e1]
    exact ⟨k,rfl,e2⟩
  ·rw [if_neg g2,if_neg g2]
   refine ⟨fun x=>(by cases x),fun m' e' r2' x=>?_⟩
   cases x
   exact ⟨_,rfl,h2⟩
 ·rw [if_neg g,if_neg g]
  refine ⟨fun x=>(by cases x),fun m' e' r2' x=>?_⟩
  cases x
  exact ⟨_,rfl,hτ⟩
theorem need_wrong {c:Int} (hc:c ≠ -1) (h:σ.wrong=true):(need s c σ).wrong=true:=(need_on c hc σ).wrong h
theorem Rs.back (h:Rs s σ r) (b:Bool):Rs s { σ with back:=b } r:=⟨h.wrong,h.le,h.rest⟩
theorem Rs.bounds (h:Rs s σ r) (p:Part):(dbounds r=none→(bounds s p σ).2.wrong=true)∧∀ lo hi e b r2,dbounds r=some (lo,hi,e,b,r2)→∃ k,Q.bounds s p σ=({ p with low:=lo,high:=hi,endless:=p.endless || e },{ σ with at_:=k,back:=σ.back || b })∧Rs s { σ with at_:=k,back:=σ.back || b } r2:=by
 unfold dbounds
 cases e1:dnum r with
 | none =>
  refine ⟨fun _=>?_,fun _ _ _ _ _ x=>by cases x⟩
  have hw:=h.num.1 e1
  unfold Q.bounds
  refine need_wrong (by decide) ?_
  show (bounds1 s σ).2.2.wrong=true
  unfold bounds1
  rw [next_wrong hw,if_neg (by decide)]
  exact hw
 | some x =>
  obtain ⟨n,r1⟩:=x
  obtain ⟨k1,q1,q2⟩:=h.num.2 n r1 e1
  have B:=bounds1_of q1 q2
  cases e2:dbounds1 n r1 with
  | none =>
   simp only
   rw [e2]
   refine ⟨fun _=>?_,fun _ _ _ _ _ x=>by cases x⟩
   exact need_wrong (by decide) (B.1 e2)
  | some x =>
   obtain ⟨m,e,r2⟩:=x
   obtain ⟨k2,q3,q4⟩:=B.2 m e r2 e2
   simp only
   rw [e2]
   simp only
   have q5:=q4.back (σ.back || decide (m<n))
   unfold Q.bounds
   rw [q3,q1]
   simp only
   unfold need
   rw [q5.next]
   by_cases g:dnext r2=125
   ·rw [if_pos g,if_pos g]
    refine ⟨fun x=>(by cases x),fun _ _ _ _ _ x=>?_⟩
    cases x
    exact ⟨_,rfl,q5.fwd (by rw [g]; decide)⟩
   ·rw [if_neg g,if_neg g]
    exact ⟨fun _=>rfl,fun _ _ _ _ _ x=>by cases x⟩
theorem Rs.mb (h:Rs s σ r):(dmb r=none→(memberByte s σ).2.wrong=true)∧∀ n r2,dmb r=some (n,r2)→∃ k,memberByte s σ=(n,{ σ with at_:=k })∧Rs s { σ with at_:=k } r2:=by
 unfold dmb memberByte
 rw [h.next]
 by_cases g:dnext r=92
 ·rw [if_pos g,if_pos g]
  have h2:=h.fwd (by rw [g]; decide)
  exact h2.any
 ·rw [if_neg g,if_neg g]
  by_cases g2:dnext r=93∨dnext r=45
  ·rw [if_pos g2,if_pos g2]
   exact ⟨fun _=>(anyByte_on _).wrong rfl,fun _ _ x=>by cases x⟩
  ·rw [if_neg g2,if_neg g2]
   exact h.any
theorem Rs.member (h:Rs s σ r) (ins:List Bool):(dmember ins r=none→(member s ins σ).2.wrong=true)∧∀ i b r2,dmember ins r=some (i,b,r2)→∃ k,Q.member s ins σ=(i,{ σ with at_:=k,back:=σ.back || b })∧Rs s { σ with at_:=k,back:=σ.back || b } r2:=by
 unfold dmember
 cases e1:dmb r with
 | none =>
  refine ⟨fun _=>?_,fun _ _ _ x=>by cases x⟩
  have hw:=h.mb.1 e1
  unfold Q.member member1
  rw [next_wrong hw,if_neg (by decide)]
  exact hw
 | some x =>
  obtain ⟨a,r1⟩:=x
  obtain ⟨k1,q1,q2⟩:=h.mb.2 a r1 e1
  simp only
  unfold Q.member member1
  rw [q1]
  simp only
  rw [q2.next]
  by_cases g:dnext r1=45
  ·rw [if_pos g,if_pos g]
   have q3:=q2.fwd (by rw [g]; decide)
   cases e2:dmb r1.tail with
   | none=>exact ⟨fun _=>q3.mb.1 e2,fun _ _ _ x=>by cases x⟩
   | some x =>
    obtain ⟨b,r2⟩:=x
    obtain ⟨k3,q4,q5⟩:=q3.mb.2 b r2 e2
    refine ⟨fun x=>(by cases x),fun _ _ _ x=>?_⟩
    cases x
    rw [q4]
    exact ⟨k3,rfl,q5.back _⟩
  ·rw [if_neg g,if_neg g]
   refine ⟨fun x=>(by cases x),fun _ _ _ x=>?_⟩
   cases x
   refine ⟨k1,?_,q2.back _⟩
   simp
theorem dmb_len {r r2:List UInt8} {n:Nat} (h:dmb r=some (n,r2)):r2.length<r.length:=by
 unfold dmb dany at h
 cases r with
 | nil=>simp [dnext] at h
 | cons c r =>
  split at h
  ·split at h
   ·cases h
   ·cases h; simp; omega
  ·split at h
   ·cases h
   ·split at h
    ·cases h
    ·cases h; simp
theorem dmember_len {r r2:List UInt8} {ins i:List Bool} {b:Bool} (h:dmember ins r=some (i,b,r2)):r2.length<r.length:=by
 unfold dmember at h
 split at h
 ·cases h
 ·next a r1 e =>
  have:=dmb_len e
  split at h
  ·split at h
   ·cases h
   ·next b r3 e2 =>
    have:=dmb_len e2
    cases h
    simp at this; omega
  ·cases h; exact this
theorem Rs.members:∀ (f:Nat) (ins:List Bool) (b:Bool) (r:List UInt8) (σ:Rd),Rs s σ r→r.length<f →
    (dmembers f ins b r=none→(members s f ins { σ with back:=σ.back || b }).2.wrong=true)∧∀ i b2 r2,dmembers f ins b r=some (i,b2,r2)→∃ k,Q.members s f ins { σ with back:=σ.back || b }=(i,{ σ with at_:=k,back:=σ.back || b2 })∧Rs s { σ with at_:=k,back:=σ.back || b2 } r2
 | 0,_,_,_,_,_,hl=>by omega
 | f + 1,ins,b,r,σ,h,hl=>by
  have h0:=h.back (σ.back || b)
  unfold dmembers Q.members
  rw [if_neg (show ¬ ({ σ with back:=σ.back || b }:Rd).wrong=true by rw [h0.wrong]; decide),h0.next]
  by_cases g:dnext r=93
  ·rw [if_pos g,if_pos g]
   refine ⟨fun x=>(by cases x),fun _ _ _ x=>?_⟩
   cases x
   exact ⟨_,rfl,h0.fwd (by rw [g]; decide)⟩
  ·rw [if_neg g,if_neg g]
   have M:=h0.member ins
   cases e:dmember ins r with
   | none=>exact ⟨fun _=>(members_on f _ _).wrong (M.1 e),fun _ _ _ x=>by cases x⟩
   | some x =>
    obtain ⟨i2,b2,r2⟩:=x
    obtain ⟨k,q1,q2⟩:=M.2 i2 b2 r2 e
    simp only at q1 q2
    rw [q1]
    simp only
    have hl2:=dmember_len e
    have q3:Rs s { σ with at_:=k } r2:=⟨q2.wrong,q2.le,q2.rest⟩
    have I:=Rs.members f i2 (b || b2) r2 _ q3 (by omega)
    simp only [Bool.or_assoc] at I ⊢
    exact I
theorem Rs.cls1 (h:Rs s σ r) (F:Nat) (hF:r.length<F):(dcls1 r=none→(Q.members s F (Q.member s ins0 σ).1 (Q.member s ins0 σ).2).2.wrong=true)∧∀ i b r2,dcls1 r=some (i,b,r2)→∃ k,Q.members s F (Q.member s ins0 σ).1 (Q.member s ins0 σ).2=(i,{ σ with at_:=k,back:=σ.back || b })∧Rs s { σ with at_:=k,back:=σ.back || b } r2:=by
 unfold dcls1
 have M:=h.member ins0
 cases e:dmember ins0 r with
 | none=>exact ⟨fun _=>(members_on _ _ _).wrong (M.1 e),fun _ _ _ x=>by cases x⟩
 | some x =>
  obtain ⟨i,b,r1⟩:=x
  obtain ⟨k,q1,q2⟩:=M.2 i b r1 e
  simp only
  rw [q1]
  simp only
  have hl:=dmember_len e
  have q3:Rs s { σ with at_:=k } r1:=⟨q2.wrong,q2.le,q2.rest⟩
  have I:=Rs.members (r1.length + 1) i b r1 _ q3 (by omega)
  rw [members_more F (r1.length + 1) i _ (.inr (by rw [q2.len]; omega)) (.inr (by rw [q2.len]; omega)) (by omega) (by omega)]
  exact I
theorem Rs.cls (h:Rs s σ r) (hn:dnext r ≠ -1):(dcls r=none→(cls s ins0 σ).2.wrong=true)∧∀ i b r2,dcls r=some (i,b,r2)→∃ k,Q.cls s ins0 σ=(i,{ σ with at_:=k,back:=σ.back || b })∧Rs s { σ with at_:=k,back:=σ.back || b } r2:=by
 have h1:=h.fwd hn
 have hl:r.length≤s.length:=by rw [← h.rest]; simp
 unfold dcls Q.cls
 rw [h1.next]
 by_cases g:dnext r.tail=94
 ·rw [if_pos g,if_pos g]
  have h2:=h1.fwd (by rw [g]; decide)
  have C:=h2.cls1 (s.length + 1) (by simp; omega)
  cases e:dcls1 r.tail.tail with
  | none=>exact ⟨fun _=>C.1 e,fun _ _ _ x=>by cases x⟩
  | some x =>
   obtain ⟨i,b,r1⟩:=x
   obtain ⟨k,q1,q2⟩:=C.2 i b r1 e
   refine ⟨fun x=>(by cases x),fun _ _ _ x=>?_⟩
   cases x
   rw [q1]
   exact ⟨k,rfl,q2⟩
 ·rw [if_neg g,if_neg g]
  exact h1.cls1 (s.length + 1) (by simp; omega)
theorem Rs.leaf (h:Rs s σ r):(dleaf r=none→(leaf s σ).2.wrong=true)∧∀ i b r2,dleaf r=some (i,b,r2)→∃ k,Q.leaf s σ=({ Q.mk 1 0 0 with ins:=i },{ σ with at_:=k,back:=σ.back || b })∧Rs s { σ with at_:=k,back:=σ.back || b } r2:=by
 have nob:∀ τ:Rd,({ τ with back:=τ.back || false }:Rd)=τ:=fun τ=>by simp
 unfold dleaf Q.leaf
 rw [h.next]
 by_cases g:stops (dnext r)=true
 ·rw [if_pos g,if_pos g]
  exact ⟨fun _=>rfl,fun _ _ _ x=>by cases x⟩
 rw [if_neg g,if_neg g]
 have hn:=stops_none (by simpa using g)
 by_cases g1:dnext r=91
 ·rw [if_pos g1,if_pos g1]
  have C:=h.cls hn
  refine ⟨C.1,fun i b r2 x=>?_⟩
  obtain ⟨k,q1,q2⟩:=C.2 i b r2 x
  rw [q1]
  exact ⟨k,rfl,q2⟩
 rw [if_neg g1,if_neg g1]
 by_cases g2:dnext r=46
 ·rw [if_pos g2,if_pos g2]
  refine ⟨fun x=>(by cases x),fun _ _ _ x=>?_⟩
  cases x
  refine ⟨σ.at_ + 1,?_,(h.fwd hn).back _⟩
  simp [Q.fwd]
 rw [if_neg g2,if_neg g2]
 by_cases g3:dnext r=92
 ·rw [if_pos g3,if_pos g3]
  have h2:=(h.fwd hn).any
  cases e:dany r.tail with
  | none=>exact ⟨fun _=>h2.1 e,fun _ _ _ x=>by cases x⟩
  | some x =>
   obtain ⟨c,r2⟩:=x
   obtain ⟨k,q1,q2⟩:=h2.2 c r2 e
   refine ⟨fun x=>(by cases x),fun _ _ _ x=>?_⟩
   cases x
   rw [q1]
   refine ⟨k,?_,q2.back _⟩
   simp [Q.fwd]
 rw [if_neg g3,if_neg g3]
 refine ⟨fun x=>(by cases x),fun _ _ _ x=>?_⟩
 cases x
 refine ⟨σ.at_ + 1,?_,(h.fwd hn).back _⟩
 simp [Q.fwd]
theorem Rs.rep (h:Rs s σ r) (n:Nat) (hr:isRep (dnext r)=true):(drep r=none→(repPart s n σ).2.wrong=true)∧∀ lo hi e b r2,drep r=some (lo,hi,e,b,r2)→∃ k,repPart s n σ=({ Q.mk 4 n 0 with low:=lo,high:=hi,endless:=e },{ σ with at_:=k,back:=σ.back || b })∧Rs s { σ with at_:=k,back:=σ.back || b } r2:=by
 have hn:dnext r ≠ -1:=by intro e; rw [e] at hr; cases hr
 have h1:=h.fwd hn
 unfold drep repPart
 rw [h.next]
 by_cases g1:dnext r=42
 ·rw [if_pos g1,if_pos g1]
  refine ⟨fun x=>(by cases x),fun _ _ _ _ _ x=>?_⟩
  cases x
  refine ⟨σ.at_ + 1,?_,h1.back _⟩
  simp [Q.fwd,Q.mk]
 rw [if_neg g1,if_neg g1]
 by_cases g2:dnext r=43
 ·rw [if_pos g2,if_pos g2]
  refine ⟨fun x=>(by cases x),fun _ _ _ _ _ x=>?_⟩
  cases x
  refine ⟨σ.at_ + 1,?_,h1.back _⟩
  simp [Q.fwd,Q.mk]
 rw [if_neg g2,if_neg g2]
 by_cases g3:dnext r=63
 ·rw [if_pos g3,if_pos g3]
  refine ⟨fun x=>(by cases x),fun _ _ _ _ _ x=>?_⟩
  cases x
  refine ⟨σ.at_ + 1,?_,h1.back _⟩
  simp [Q.fwd,Q.mk]
 rw [if_neg g3,if_neg g3]
 have B:=h1.bounds (Q.mk 4 n 0)
 refine ⟨B.1,fun lo hi e b r2 x=>?_⟩
 obtain ⟨k,q1,q2⟩:=B.2 lo hi e b r2 x
 refine ⟨k,?_,q2⟩
 rw [q1]
 simp [Q.fwd,Q.mk]
end Go.Proofs.Ytjmkkkfloalliab.Q
namespace Go.Proofs.Ytjmkkkfloalliab.Q
set_option linter.unusedVariables false
abbrev Out:Type:=Option (Den × List UInt8 × Bool × Nat)
def after (x:Out) (k:Den→List UInt8→Out):Out :=
 match x with
 | none=>none
 | some (d,r,b,m) =>
  match k d r with
  | none=>none
  | some (d2,r2,b2,m2)=>some (d2,r2,b || b2,max m m2)
abbrev DJob:Type:=Unit ⊕ Den ⊕ Unit ⊕ Den ⊕ Unit ⊕ Den ⊕ Unit
abbrev DJob.alt:DJob:=.inl ()
abbrev DJob.altL (n:Den):DJob:=.inr (.inl n)
abbrev DJob.seq:DJob:=.inr (.inr (.inl ()))
abbrev DJob.seqL (n:Den):DJob:=.inr (.inr (.inr (.inl n)))
abbrev DJob.rep:DJob:=.inr (.inr (.inr (.inr (.inl ()))))
abbrev DJob.repL (n:Den):DJob:=.inr (.inr (.inr (.inr (.inr (.inl n)))))
abbrev DJob.term:DJob:=.inr (.inr (.inr (.inr (.inr (.inr ())))))
def dgo:Nat→DJob→List UInt8→Out
 | 0,_,_=>none
 | f + 1,.inl (),r=>after (dgo f .seq r) (fun d r1=>dgo f (.altL d) r1)
 | f + 1,.inr (.inl d),r=>if dnext r=124 then after (dgo f .seq r.tail) (fun d2 r1=>dgo f (.altL (dAlt d d2)) r1) else some (d,r,false,0)
 | f + 1,.inr (.inr (.inl ())),r=>dgo f (.seqL dEps) r
 | f + 1,.inr (.inr (.inr (.inl d))),r=>if ends (dnext r)=true then some (d,r,false,0) else after (dgo f .rep r) (fun d2 r1=>dgo f (.seqL (dCat d d2)) r1)
 | f + 1,.inr (.inr (.inr (.inr (.inl ())))),r=>after (dgo f .term r) (fun d r1=>dgo f (.repL d) r1)
 | f + 1,.inr (.inr (.inr (.inr (.inr (.inl d))))),r=>if isRep (dnext r)=true then
     match drep r with
     | none=>none
     | some (lo,hi,e,b,r1)=>after (some (dRep d lo hi e,r1,b,0)) (fun d r=>dgo f (.repL d) r)
  else some (d,r,false,0)
 | f + 1,.inr (.inr (.inr (.inr (.inr (.inr ()))))),r=>if dnext r=40 then
     match dgo f .alt r.tail with
     | none=>none
     | some (d,r1,b,m)=>if dnext r1=41 then some (d,r1.tail,b,m + 1) else none
  else
   match dleaf r with
   | none=>none
   | some (ins,b,r1)=>some (dByte ins,r1,b,0)
structure Ends (s:List UInt8) (σ:Rd) (x:Nat × Rd) (d:Den) (r:List UInt8) (b:Bool) (m:Nat):Prop where
 rs:Rs s x.2 r
 back:x.2.back=(σ.back || b)
 depth:x.2.depth=σ.depth
 deepest:x.2.deepest=max σ.deepest (σ.depth + m)
 spec:x.2.back=false→Spec x.2.parts x.1 d
def Corr (s:List UInt8) (σ:Rd) (x:Nat × Rd) (o:Out):Prop:=(o=none→x.2.wrong=true)∧∀ d r b m,o=some (d,r,b,m)→Ends s σ x d r b m
variable {s:List UInt8}
theorem Corr.none {σ:Rd} {x:Nat × Rd} (h:x.2.wrong=true):Corr s σ x none:=⟨fun _=>h,fun _ _ _ _ e=>by cases e⟩
theorem Corr.some {σ:Rd} {x:Nat × Rd} {d:Den} {r:List UInt8} {b:Bool} {m:Nat} (h:Ends s σ x d r b m):Corr s σ x (some (d,r,b,m)) :=
 ⟨fun e=>(by cases e),fun _ _ _ _ e=>(by cases e; exact h)⟩
theorem Corr.of {σ τ:Rd} {x:Nat × Rd} {o:Out} (h:Corr s σ x o) (h1:τ.back=σ.back) (h2:τ.depth=σ.depth) (h3:τ.deepest=σ.deepest):Corr s τ x o:=by
 refine ⟨h.1,fun d r b m e=>?_⟩
 have g:=h.2 d r b m e
 exact ⟨g.rs,by rw [h1]; exact g.back,by rw [h2]; exact g.depth,by rw [h2,h3]; exact g.deepest,g.spec⟩
theorem corr_after {σ:Rd} {x1 x2:Nat × Rd} {o:Out} {k:Den→List UInt8→Out} (h1:Corr s σ x1 o) (h2:∀ d r b m,o=some (d,r,b,m)→Corr s x1.2 x2 (k d r)) (hw:x1.2.wrong=true→x2.2.wrong=true):Corr s σ x2 (after o k):=by
 unfold after
 cases o with
 | none=>exact Corr.none (hw (h1.1 rfl))
 | some y =>
  obtain ⟨d,r,b,m⟩:=y
  have e1:=h1.2 d r b m rfl
  have c2:=h2 d r b m rfl
  simp only
  cases e:k d r with
  | none=>exact Corr.none (c2.1 e)
  | some y =>
   obtain ⟨d2,r2,b2,m2⟩:=y
   have e2:=c2.2 d2 r2 b2 m2 e
   refine Corr.some ⟨e2.rs,?_,?_,?_,e2.spec⟩
   ·rw [e2.back,e1.back,Bool.or_assoc]
   ·rw [e2.depth,e1.depth]
   ·rw [e2.deepest,e1.deepest,e1.depth]; omega
def Pay (σ:Rd) (n:Nat) (d:Den):Prop:=n<σ.parts.length∧(σ.back=false→Spec σ.parts n d)
structure Rdy (s:List UInt8) (σ:Rd) (r:List UInt8):Prop where
 rs:Rs s σ r
 ok:PartsOk σ.parts
 deep:σ.depth≤σ.deepest
theorem Ends.rdy {σ:Rd} {x:Nat × Rd} {d:Den} {r:List UInt8} {b:Bool} {m:Nat} (h:Ends s σ x d r b m) (ok:PartsOk x.2.parts):Rdy s x.2 r:=⟨h.rs,ok,by rw [h.depth,h.deepest]; omega⟩
theorem Rdy.add {σ:Rd} {r:List UInt8} {p:Part} (h:Rdy s σ r) (hp:PartOk σ.parts.length p):Rdy s (add p σ).2 r:=⟨⟨h.rs.wrong,h.rs.le,h.rs.rest⟩,h.ok.add hp,h.deep⟩
theorem Rdy.fwd {σ:Rd} {r:List UInt8} (h:Rdy s σ r) (g:dnext r ≠ -1):Rdy s (fwd σ) r.tail:=⟨h.rs.fwd g,h.ok,h.deep⟩
theorem corr_go:∀ f:Nat,
    (∀ σ r,8 * r.length + 6≤f→Rdy s σ r→Corr s σ (go s f .alt σ) (dgo f .alt r)) ∧
    (∀ σ r n d,8 * r.length + 1≤f→Rdy s σ r→Pay σ n d→Corr s σ (go s f (.altL n) σ) (dgo f (.altL d) r)) ∧
    (∀ σ r,8 * r.length + 5≤f→Rdy s σ r→Corr s σ (go s f .seq σ) (dgo f .seq r)) ∧
    (∀ σ r n d,8 * r.length + 4≤f→Rdy s σ r→Pay σ n d→Corr s σ (go s f (.seqL n) σ) (dgo f (.seqL d) r)) ∧
    (∀ σ r,8 * r.length + 3≤f→Rdy s σ r→Corr s σ (go s f .rep σ) (dgo f .rep r)) ∧
    (∀ σ r n d,8 * r.length + 1≤f→Rdy s σ r→Pay σ n d→Corr s σ (go s f (.repL n) σ) (dgo f (.repL d) r)) ∧
    (∀ σ r,8 * r.length + 1≤f→Rdy s σ r→Corr s σ (go s f .term σ) (dgo f .term r))
 | 0=>⟨fun _ _ h=>by omega,fun _ _ _ _ h=>by omega,fun _ _ h=>by omega,fun _ _ _ _ h=>by omega,fun _ _ h=>by omega,fun _ _ _ _ h=>by omega,fun _ _ h=>by omega⟩
 | f + 1=>by
  obtain ⟨iAlt,iAltL,iSeq,iSeqL,iRep,iRepL,iTerm⟩:=corr_go f
  have gd:∀ (j:Job) (σ:Rd) (r:List UInt8),Rdy s σ r→8 * r.length + j.rank≤f→j.ok σ→Good (s:=s) σ (go s f j σ)∧j.adv (s:=s) σ (go s f j σ):=fun j σ r h hf ho=>go_good f j σ (by rw [h.rs.len]; exact hf) h.ok ho
  have lens:∀ {σ τ:Rd} {r r2:List UInt8},Rs s σ r→Rs s τ r2→On s σ τ→r2.length≤r.length:=fun h1 h2 o=>by rw [← h1.len,← h2.len]; exact o.left
  refine ⟨?_,?_,?_,?_,?_,?_,?_⟩
  ·-- alt
   intro σ r hf h
   have g1:=(gd .seq σ r h (by simp only [Job.rank]; omega) trivial).1
   have c1:=iSeq σ r (by omega) h
   have hl1:=g1.on.left
   rw [h.rs.len] at hl1
   unfold go dgo
   refine corr_after c1 (fun d r1 b m e=>?_) (fun hw=>(go_good f (.altL _) _ (by simp only [Job.rank]; omega) g1.ok g1.lt).1.on.wrong hw)
   have e1:=c1.2 d r1 b m e
   have hl:=lens h.rs e1.rs g1.on
   exact iAltL _ r1 _ d (by omega) (e1.rdy g1.ok) ⟨g1.lt,e1.spec⟩
  ·-- altL
   intro σ r n d hf h hp
   unfold go dgo
   rw [h.rs.next]
   by_cases g:dnext r=124
   ·rw [if_pos g,if_pos g]
    have hne:dnext r ≠ -1:=by rw [g]; decide
    have h1:=h.fwd hne
    have hrl:r.tail.length + 1=r.length:=by
     cases r with
     | nil=>exact absurd rfl hne
     | cons a r=>rfl
    have g1:=(gd .seq _ _ h1 (by simp only [Job.rank]; omega) trivial).1
    have c1:=iSeq _ _ (by omega) h1
    have hl1:=g1.on.left
    rw [h1.rs.len] at hl1
    have hn2:n<(go s f .seq (fwd σ)).2.parts.length:=Nat.lt_of_lt_of_le hp.1 g1.len
    have hpo:PartOk (go s f .seq (fwd σ)).2.parts.length (mk 3 n (go s f .seq (fwd σ)).1):=mk_ok _ _ _ _ (by omega) (fun _=>hn2) (fun _=>g1.lt)
    have c1':Corr s σ (go s f .seq (fwd σ)) (dgo f .seq r.tail):=c1.of rfl rfl rfl
    refine corr_after c1' (fun d2 r1 b m e=>?_) (fun hw=>(go_good f (.altL _) _ (by simp only [Job.rank]; have:left s (add (mk 3 n (go s f .seq (fwd σ)).1) (go s f .seq (fwd σ)).2).2=left s (go s f .seq (fwd σ)).2:=rfl; omega) (g1.ok.add hpo) (by simp [Q.add,Job.ok])).1.on.wrong hw)
    have e1:=c1.2 d2 r1 b m e
    have hl:=lens h1.rs e1.rs g1.on
    refine Corr.of (iAltL _ r1 _ (dAlt d d2) (by omega) ((e1.rdy g1.ok).add hpo) ⟨by simp [Q.add],fun hb=>?_⟩) rfl rfl rfl
    have hb1:(go s f .seq (fwd σ)).2.back=false:=hb
    have hb0:σ.back=false:=by
     have:=e1.back
     rw [hb1] at this
     exact (Bool.or_eq_false_iff.1 this.symm).1
    obtain ⟨l,hg⟩:=g1.grow
    have s1:=(hp.2 hb0).app h.ok l
    have hg2:(go s f .seq (fwd σ)).2.parts=σ.parts ++ l:=hg
    rw [← hg2] at s1
    exact spec_alt g1.ok s1 (e1.spec hb1)
   ·rw [if_neg g,if_neg g]
    exact Corr.some ⟨h.rs,by simp,rfl,by have:=h.deep; show σ.deepest=_; omega,hp.2⟩
  ·-- seq
   intro σ r hf h
   unfold go dgo
   have hpo:PartOk σ.parts.length (mk 0 0 0):=mk_ok _ _ _ _ (by omega) (fun h=>by omega) (fun h=>by omega)
   exact Corr.of (iSeqL _ r _ dEps (by omega) (h.add hpo) ⟨by simp [Q.add],fun _=>spec_eps h.ok⟩) rfl rfl rfl
  ·-- seqL
   intro σ r n d hf h hp
   unfold go dgo
   rw [h.rs.next]
   by_cases g:ends (dnext r)=true
   ·rw [if_pos g,if_pos g]
    exact Corr.some ⟨h.rs,by simp,rfl,by have:=h.deep; show σ.deepest=_; omega,hp.2⟩
   ·rw [if_neg g,if_neg g]
    have hne:dnext r ≠ -1:=by intro e; rw [e] at g; exact g rfl
    obtain ⟨g1,a1⟩:=gd .rep σ r h (by simp only [Job.rank]; omega) trivial
    have c1:=iRep σ r (by omega) h
    have hl1:left s (go s f .rep σ).2<left s σ:=a1 (by rw [h.rs.next]; exact hne)
    have hl0:=h.rs.len
    have hn2:n<(go s f .rep σ).2.parts.length:=Nat.lt_of_lt_of_le hp.1 g1.len
    have hpo:PartOk (go s f .rep σ).2.parts.length (mk 2 n (go s f .rep σ).1):=mk_ok _ _ _ _ (by omega) (fun _=>hn2) (fun _=>g1.lt)
    refine corr_after c1 (fun d2 r1 b m e=>?_) (fun hw=>(go_good f (.seqL _) _ (by simp only [Job.rank]; have:left s (add (mk 2 n (go s f .rep σ).1) (go s f .rep σ).2).2=left s (go s f .rep σ).2:=rfl; omega) (g1.ok.add hpo) (by simp [Q.add,Job.ok])).1.on.wrong hw)
    have e1:=c1.2 d2 r1 b m e
    have hl:=e1.rs.len
    refine Corr.of (iSeqL _ r1 _ (dCat d d2) (by omega) ((e1.rdy g1.ok).add hpo) ⟨by simp [Q.add],fun hb=>?_⟩) rfl rfl rfl
    have hb1:(go s f .rep σ).2.back=false:=hb
    have hb0:σ.back=false:=by
     have:=e1.back
     rw [hb1] at this
     exact (Bool.or_eq_false_iff.1 this.symm).1
    obtain ⟨l,hg⟩:=g1.grow
    have s1:=(hp.2 hb0).app h.ok l
    rw [← hg] at s1
    exact spec_cat g1.ok s1 (e1.spec hb1)
  ·-- rep
   intro σ r hf h
   have g1:=(gd .term σ r h (by simp only [Job.rank]; omega) trivial).1
   have c1:=iTerm σ r (by omega) h
   have hl1:=g1.on.left
   rw [h.rs.len] at hl1
   unfold go dgo
   refine corr_after c1 (fun d r1 b m e=>?_) (fun hw=>(go_good f (.repL _) _ (by simp only [Job.rank]; omega) g1.ok g1.lt).1.on.wrong hw)
   have e1:=c1.2 d r1 b m e
   have hl:=lens h.rs e1.rs g1.on
   exact iRepL _ r1 _ d (by omega) (e1.rdy g1.ok) ⟨g1.lt,e1.spec⟩
  ·-- repL
   intro σ r n d hf h hp
   unfold go dgo
   rw [h.rs.next]
   by_cases g:isRep (dnext r)=true
   ·rw [if_pos g,if_pos g]
    obtain ⟨o1,hne⟩:=repPart_on (s:=s) n σ (by rw [h.rs.next]; exact g)
    have hl1:=o1.left
    have hl2:=fwd_left hne
    have hl0:=h.rs.len
    have hpp:(repPart s n σ).2.parts=σ.parts:=repPart_parts n σ
    have hpo:PartOk (repPart s n σ).2.parts.length (repPart s n σ).1:=repPart_ok _ _ _ (by rw [hpp]; exact hp.1)
    have hok:PartsOk (repPart s n σ).2.parts:=by rw [hpp]; exact h.ok
    have hadd:left s (add (repPart s n σ).1 (repPart s n σ).2).2=left s (repPart s n σ).2:=rfl
    have R:=h.rs.rep n g
    have hwr:(repPart s n σ).2.wrong=true→(go s f (.repL (add (repPart s n σ).1 (repPart s n σ).2).1) (add (repPart s n σ).1 (repPart s n σ).2).2).2.wrong=true :=
     fun hw=>(go_good f (.repL _) _ (by simp only [Job.rank]; omega) (hok.add hpo) (by simp [Q.add,Job.ok])).1.on.wrong hw
    cases e:drep r with
    | none=>exact Corr.none (hwr (R.1 e))
    | some y =>
     obtain ⟨lo,hi,en,b,r1⟩:=y
     obtain ⟨k,q1,q2⟩:=R.2 lo hi en b r1 e
     simp only
     have hlen:r1.length<r.length:=by
      rw [q1] at hl1
      have h5:=q2.len
      have h6:left s { σ with at_:=k,back:=σ.back || b }≤left s (fwd σ):=hl1
      omega
     have hbk:b=false→en=true∨lo≤hi:=by
      intro hb
      unfold drep at e
      split at e
      ·cases e; exact .inl rfl
      ·split at e
       ·cases e; exact .inl rfl
       ·split at e
        ·cases e; exact .inr (by omega)
        ·unfold dbounds at e
         split at e
         ·cases e
         ·split at e
          ·cases e
          ·split at e
           ·cases e
            exact .inr (by have:=of_decide_eq_false hb; omega)
           ·cases e
     have key:Ends s σ (add (repPart s n σ).1 (repPart s n σ).2) (dRep d lo hi en) r1 b 0:=by
      have hok2:=hok
      rw [q1] at hok2 ⊢
      refine ⟨⟨q2.wrong,q2.le,q2.rest⟩,rfl,rfl,by have:=h.deep; show σ.deepest=_; omega,fun hb=>?_⟩
      have hb2:=Bool.or_eq_false_iff.1 (show (σ.back || b)=false from hb)
      exact spec_rep (ps:=σ.parts) (q:={ mk 4 n 0 with low:=lo,high:=hi,endless:=en }) h.ok rfl (hp.2 hb2.1) (hbk hb2.2)
     refine corr_after (Corr.some key) (fun d' r' b' m' e'=>?_) hwr
     cases e'
     refine iRepL _ r1 _ _ (by omega) (key.rdy (hok.add hpo)) ⟨by simp [Q.add],key.spec⟩
   ·rw [if_neg g,if_neg g]
    exact Corr.some ⟨h.rs,by simp,rfl,by have:=h.deep; show σ.deepest=_; omega,hp.2⟩
  ·-- term
   intro σ r hf h
   unfold go dgo
   rw [h.rs.next]
   by_cases g:dnext r=40
   ·rw [if_pos g,if_pos g]
    have hne:dnext r ≠ -1:=by rw [g]; decide
    have hrl:r.tail.length + 1=r.length:=by
     cases r with
     | nil=>exact absurd rfl hne
     | cons a r=>rfl
    have h1:=h.rs.fwd hne
    have hO:Rdy s (opened σ) r.tail:=⟨⟨h1.wrong,h1.le,h1.rest⟩,h.ok,by simp only [opened]; split <;> omega⟩
    have g1:=(gd .alt _ _ hO (by simp only [Job.rank]; omega) trivial).1
    have c1:=iAlt _ _ (by omega) hO
    cases e:dgo f .alt r.tail with
    | none=>exact Corr.none ((closed_on _).wrong (c1.1 e))
    | some y =>
     obtain ⟨d,r1,b,m⟩:=y
     have e1:=c1.2 d r1 b m e
     simp only
     have hd2:Rs s { (go s f .alt (opened σ)).2 with depth:=(go s f .alt (opened σ)).2.depth - 1 } r1:=⟨e1.rs.wrong,e1.rs.le,e1.rs.rest⟩
     unfold closed need
     rw [hd2.next]
     by_cases g2:dnext r1=41
     ·rw [if_pos g2,if_pos g2]
      refine Corr.some ⟨hd2.fwd (by rw [g2]; decide),e1.back,?_,?_,e1.spec⟩
      ·show (go s f .alt (opened σ)).2.depth - 1=σ.depth
       rw [e1.depth]
       show σ.depth + 1 - 1=σ.depth
       omega
      ·show (go s f .alt (opened σ)).2.deepest=_
       rw [e1.deepest]
       simp only [opened]
       have:=h.deep
       split <;> omega
     ·rw [if_neg g2,if_neg g2]
      exact Corr.none rfl
   ·rw [if_neg g,if_neg g]
    have Lf:=h.rs.leaf
    cases e:dleaf r with
    | none=>exact Corr.none (Lf.1 e)
    | some y =>
     obtain ⟨ins,b,r1⟩:=y
     obtain ⟨k,q1,q2⟩:=Lf.2 ins b r1 e
     have hlf:=leaf_ok (s:=s) σ 0
     rw [q1] at hlf ⊢
     refine Corr.some ⟨⟨q2.wrong,q2.le,q2.rest⟩,rfl,rfl,by have:=h.deep; show σ.deepest=_; omega,fun _=>?_⟩
     exact spec_byte (ps:=σ.parts) h.ok (q:={ mk 1 0 0 with ins:=ins }) rfl rfl rfl hlf.ins
theorem parse_den (s:List UInt8) :
    (40<s.length→parse s=.error (1,0)) ∧
    (s.length≤40→∀ d b m,dgo (8 * s.length + 6) .alt s=some (d,[],b,m) →
     (b=true→parse s=.error (4,0)) ∧
     (b=false→(6<m∨48<d.places)→parse s=.error (5,0)) ∧
     (b=false→m≤6→d.places≤48→∃ P,parse s=.ok P∧∀ u,acc P u=true ↔ (u ≠ []∧d.lang u))) ∧
    (∀ P,parse s=.ok P→∃ d m,dgo (8 * s.length + 6) .alt s=some (d,[],false,m)∧s.length≤40∧m≤6∧d.places≤48∧Fine d∧(∀ u,acc P u=true ↔ (u ≠ []∧d.lang u))∧∀ u,u ≠ []→(pl P u ≠ 0 ↔ ∃ v,d.lang (v ++ u))):=by
 have hr:Rdy s rd0 s:=⟨⟨rfl,Nat.zero_le _,rfl⟩,fun i p h=>by simp [rd0] at h,Nat.le_refl _⟩
 have C:Corr s rd0 (top s) (dgo (8 * s.length + 6) .alt s):=(corr_go (s:=s) (8 * s.length + 6)).1 rd0 s (Nat.le_refl _) hr
 have G:=top_good s
 have accOk:∀ d P,parse s=.ok P→P=newPattern (whole s).2.parts (whole s).1→Spec (top s).2.parts (top s).1 d→d.places≤48→∀ u,acc P u=true ↔ (u ≠ []∧d.lang u):=by
  intro d P hP e sp hp u
  by_cases hu:u=[]
  ·subst hu
   rw [parse_even hP]
   simp
  ·subst e
   have:=(spec_acc G.ok sp hp u hu).1
   exact ⟨fun h=>⟨hu,this.1 h⟩,fun h=>this.2 h.2⟩
 refine ⟨fun h=>by unfold parse; rw [if_pos h],fun hl d b m e=>?_,fun P hP=>?_⟩
 ·have E:=C.2 d [] b m e
  have hw:(whole s).2.wrong=false:=by
   show ((top s).2.wrong || decide ((top s).2.at_<s.length))=false
   rw [E.rs.wrong,Bool.false_or]
   apply decide_eq_false
   intro hlt
   have:=congrArg List.length E.rs.rest
   simp at this
   omega
  have hb:(whole s).2.back=b:=by
   have:=E.back
   show (top s).2.back=b
   simpa [rd0] using this
  have hd:(whole s).2.deepest=m:=by
   have:=E.deepest
   show (top s).2.deepest=m
   rw [this]
   simp [rd0]
  have hP0:parse s=if (whole s).2.back=true then .error (4,0) else if 6<(whole s).2.deepest∨48<(at_ (whole s).2.parts (whole s).1).places then .error (5,0) else .ok (newPattern (whole s).2.parts (whole s).1):=by
   conv=>lhs; unfold parse
   rw [if_neg (by omega),if_neg (by rw [hw]; decide)]
  refine ⟨fun hbt=>by rw [hP0,if_pos (by rw [hb]; exact hbt)],fun hbf h=>?_,fun hbf h1 h2=>?_⟩
  ·have sp:=E.spec (by rw [← hbf]; exact hb)
   have hpl:(at_ (whole s).2.parts (whole s).1).places=d.places:=sp.pla
   rw [hP0,if_neg (by rw [hb,hbf]; decide),if_pos (by rw [hd,hpl]; exact h)]
  ·have sp:=E.spec (by rw [← hbf]; exact hb)
   have hpl:(at_ (whole s).2.parts (whole s).1).places=d.places:=sp.pla
   have hok:parse s=.ok (newPattern (whole s).2.parts (whole s).1):=by rw [hP0,if_neg (by rw [hb,hbf]; decide),if_neg (by rw [hd,hpl]; omega)]
   exact ⟨_,hok,accOk d _ hok rfl sp h2⟩
 ·have hP2:=hP
  unfold parse at hP
  split at hP
  ·cases hP
  ·next h1 =>
   split at hP
   ·cases hP
   ·next h2 =>
    split at hP
    ·cases hP
    ·next h3 =>
     split at hP
     ·cases hP
     ·next h4 =>
      cases hP
      cases e:dgo (8 * s.length + 6) .alt s with
      | none =>
       have hw:(whole s).2.wrong=true:=by
        show ((top s).2.wrong || decide ((top s).2.at_<s.length))=true
        rw [C.1 e]; rfl
       exact absurd hw h2
      | some y =>
       obtain ⟨d,r,b,m⟩:=y
       have E:=C.2 d r b m e
       have hr0:r=[]:=by
        have hnl:¬ (top s).2.at_<s.length:=by
         intro hlt
         apply h2
         show ((top s).2.wrong || decide ((top s).2.at_<s.length))=true
         rw [decide_eq_true hlt,Bool.or_true]
        rw [← E.rs.rest]
        exact List.drop_eq_nil_of_le (by omega)
       subst hr0
       have hbf:(top s).2.back=false:=by
        have h3':¬ (top s).2.back=true:=h3
        simpa using h3'
       have hb:b=false:=by
        have:=E.back
        rw [hbf] at this
        simpa [rd0] using this.symm
       subst hb
       have sp:=E.spec hbf
       have hd:(whole s).2.deepest=m:=by
        have:=E.deepest
        show (top s).2.deepest=m
        rw [this]
        simp [rd0]
       have hpl:(at_ (whole s).2.parts (whole s).1).places=d.places:=sp.pla
       rw [hd,hpl] at h4
       exact ⟨d,m,rfl,by omega,by omega,by omega,sp.fine,accOk d _ hP2 rfl sp (by omega),fun u hu=>(spec_acc G.ok sp (by omega) u hu).2⟩
end Go.Proofs.Ytjmkkkfloalliab.Q
namespace Go.Proofs.Ytjmkkkfloalliab.Q
set_option linter.unusedVariables false
theorem after_eq {x:Out} {k:Den→List UInt8→Out} {d d2:Den} {r r2:List UInt8} {b b2:Bool} {m m2:Nat} (h:x=some (d,r,b,m)) (g:k d r=some (d2,r2,b2,m2)):after x k=some (d2,r2,b || b2,max m m2):=by
 subst h
 unfold after
 simp only
 rw [g]
theorem after_inv {x:Out} {k:Den→List UInt8→Out} {y:Den × List UInt8 × Bool × Nat} (h:after x k=some y):∃ d r b m d2 r2 b2 m2,x=some (d,r,b,m)∧k d r=some (d2,r2,b2,m2)∧y=(d2,r2,b || b2,max m m2):=by
 unfold after at h
 split at h
 ·cases h
 ·next d r b m =>
  split at h
  ·cases h
  ·next d2 r2 b2 m2 e =>
   cases h
   exact ⟨d,r,b,m,d2,r2,b2,m2,rfl,e,rfl⟩
theorem dgo_mono:∀ (f:Nat) (j:DJob) (r:List UInt8) (y:Den × List UInt8 × Bool × Nat),dgo f j r=some y→dgo (f + 1) j r=some y
 | 0,_,_,_,h=>by cases h
 | f + 1,.inl (),r,y,h=>by
  obtain ⟨d,r1,b,m,d2,r2,b2,m2,h1,h2,rfl⟩:=after_inv h
  exact after_eq (dgo_mono f _ _ _ h1) (dgo_mono f _ _ _ h2)
 | f + 1,.inr (.inl d),r,y,h=>by
  unfold dgo at h ⊢
  split
  ·next g =>
   rw [if_pos g] at h
   obtain ⟨d,r1,b,m,d2,r2,b2,m2,h1,h2,rfl⟩:=after_inv h
   exact after_eq (dgo_mono f _ _ _ h1) (dgo_mono f _ _ _ h2)
  ·next g=>rw [if_neg g] at h; exact h
 | f + 1,.inr (.inr (.inl ())),r,y,h=>dgo_mono f _ _ _ h
 | f + 1,.inr (.inr (.inr (.inl d))),r,y,h=>by
  unfold dgo at h ⊢
  split
  ·next g=>rw [if_pos g] at h; exact h
  ·next g =>
   rw [if_neg g] at h
   obtain ⟨d,r1,b,m,d2,r2,b2,m2,h1,h2,rfl⟩:=after_inv h
   exact after_eq (dgo_mono f _ _ _ h1) (dgo_mono f _ _ _ h2)
 | f + 1,.inr (.inr (.inr (.inr (.inl ())))),r,y,h=>by
  obtain ⟨d,r1,b,m,d2,r2,b2,m2,h1,h2,rfl⟩:=after_inv h
  exact after_eq (dgo_mono f _ _ _ h1) (dgo_mono f _ _ _ h2)
 | f + 1,.inr (.inr (.inr (.inr (.inr (.inl d))))),r,y,h=>by
  unfold dgo at h ⊢
  split
  ·next g =>
   rw [if_pos g] at h
   split
   ·next e=>rw [e] at h; cases h
   ·next lo hi en b r1 e =>
    rw [e] at h
    obtain ⟨d,r1,b,m,d2,r2,b2,m2,h1,h2,rfl⟩:=after_inv h
    exact after_eq h1 (dgo_mono f _ _ _ h2)
  ·next g=>rw [if_neg g] at h; exact h
 | f + 1,.inr (.inr (.inr (.inr (.inr (.inr ()))))),r,y,h=>by
  unfold dgo at h ⊢
  split
  ·next g =>
   rw [if_pos g] at h
   split at h
   ·cases h
   ·next d r1 b m e =>
    rw [dgo_mono f _ _ _ e]
    exact h
  ·next g=>rw [if_neg g] at h; exact h
theorem dgo_more {f g:Nat} {j:DJob} {r:List UInt8} {y:Den × List UInt8 × Bool × Nat} (h:dgo f j r=some y) (hg:f≤g):dgo g j r=some y:=by
 obtain ⟨k,rfl⟩:∃ k,g=f + k:=⟨g - f,by omega⟩
 clear hg
 induction k with
 | zero=>exact h
 | succ k ih=>exact dgo_mono _ _ _ _ ih
/-! with something behind -/
variable {post:List UInt8}
theorem stop_cases {c:Int} (h:ends c=true):c = -1∨c=124∨c=41:=by
 unfold ends at h
 simp only [Bool.or_eq_true,beq_iff_eq] at h
 omega
def DJob.may (post r:List UInt8):DJob→Prop
 | .inl ()=>r ≠ []∨dnext post ≠ 124
 | .inr (.inl _)=>r ≠ []∨dnext post ≠ 124
 | _=>True
end Go.Proofs.Ytjmkkkfloalliab.Q
namespace Go.Proofs.Ytjmkkkfloalliab.Q
set_option linter.unusedVariables false
section
variable {g:Nat} {r r1 r2:List UInt8} {d d0 d1 d2:Den} {b b1 b2:Bool} {m m1 m2:Nat}
theorem seqL_end (h:ends (dnext r)=true):dgo (g + 1) (.seqL d) r=some (d,r,false,0):=by
 unfold dgo; rw [if_pos h]
theorem seqL_step (h:ends (dnext r)=false) (h1:dgo g .rep r=some (d1,r1,b1,m1)) (h2:dgo g (.seqL (dCat d0 d1)) r1=some (d2,r2,b2,m2)):dgo (g + 1) (.seqL d0) r=some (d2,r2,b1 || b2,max m1 m2):=by
 unfold dgo
 rw [if_neg (by rw [h]; decide)]
 exact after_eq h1 h2
theorem repL_end (h:isRep (dnext r)=false):dgo (g + 1) (.repL d) r=some (d,r,false,0):=by
 unfold dgo; rw [if_neg (by rw [h]; decide)]
end
variable {x:List UInt8} {d:Den} {m:Nat}
end Go.Proofs.Ytjmkkkfloalliab.Q
namespace Go.Proofs.Ytjmkkkfloalliab.Q
set_option linter.unusedVariables false
structure DEq (a b:Den):Prop where
 lang:∀ u,a.lang u ↔ b.lang u
 some:a.some=b.some
 empty:a.empty=b.empty
 places:a.places=b.places
theorem DEq.refl (a:Den):DEq a a:=⟨fun _=>Iff.rfl,rfl,rfl,rfl⟩
theorem DEq.symm {a b:Den} (h:DEq a b):DEq b a:=⟨fun u=>(h.lang u).symm,h.some.symm,h.empty.symm,h.places.symm⟩
theorem DEq.trans {a b c:Den} (h:DEq a b) (g:DEq b c):DEq a c:=⟨fun u=>(h.lang u).trans (g.lang u),h.some.trans g.some,h.empty.trans g.empty,h.places.trans g.places⟩
structure W (d:Den):Prop where
 none:d.some=false→d.places=0
 le:d.places≤49
theorem cutP_none (n:Nat):cutP false n=0:=rfl
theorem cutP_le49 (s:Bool) (n:Nat):cutP s n≤49:=by
 unfold cutP
 split
 ·omega
 ·split <;> omega
theorem w_cut {s:Bool} {n:Nat} {d:Den} (h1:d.some=s) (h2:d.places=cutP s n):W d:=⟨fun h=>by rw [h2,← h1,h]; rfl,by rw [h2]; exact cutP_le49 _ _⟩
theorem w_eps:W dEps:=⟨fun h=>(by cases h),by decide⟩
theorem w_byte (l:List Bool):W (dByte l):=w_cut rfl rfl
theorem w_cat (a b:Den):W (dCat a b):=w_cut rfl rfl
theorem w_alt (a b:Den):W (dAlt a b):=w_cut rfl rfl
theorem w_rep (a:Den) (l h:Nat) (e:Bool):W (dRep a l h e):=w_cut rfl rfl
theorem W.eq {a b:Den} (h:W a) (e:DEq a b):W b:=⟨fun g=>by rw [← e.places]; exact h.none (by rw [e.some]; exact g),by rw [← e.places]; exact h.le⟩
theorem cat_congr {a a' b b':Den} (h:DEq a a') (g:DEq b b'):DEq (dCat a b) (dCat a' b'):=by
 refine ⟨fun u=>?_,?_,?_,?_⟩
 ·constructor
  ·rintro ⟨x,y,e,h1,h2⟩; exact ⟨x,y,e,(h.lang x).1 h1,(g.lang y).1 h2⟩
  ·rintro ⟨x,y,e,h1,h2⟩; exact ⟨x,y,e,(h.lang x).2 h1,(g.lang y).2 h2⟩
 ·show (a.some && b.some)=(a'.some && b'.some); rw [h.some,g.some]
 ·show (a.empty && b.empty)=(a'.empty && b'.empty); rw [h.empty,g.empty]
 ·show cutP (a.some && b.some) (a.places + b.places)=cutP (a'.some && b'.some) (a'.places + b'.places); rw [h.some,g.some,h.places,g.places]
theorem alt_congr {a a' b b':Den} (h:DEq a a') (g:DEq b b'):DEq (dAlt a b) (dAlt a' b'):=by
 refine ⟨fun u=>or_congr (h.lang u) (g.lang u),?_,?_,?_⟩
 ·show (a.some || b.some)=(a'.some || b'.some); rw [h.some,g.some]
 ·show (a.empty || b.empty)=(a'.empty || b'.empty); rw [h.empty,g.empty]
 ·show cutP (a.some || b.some) (a.places + b.places)=cutP (a'.some || b'.some) (a'.places + b'.places); rw [h.some,g.some,h.places,g.places]
theorem pow_congr {A B:Lang} (h:∀ u,A u ↔ B u):∀ k u,Pow A k u ↔ Pow B k u
 | 0,u=>Iff.rfl
 | k + 1,u=>by
  constructor
  ·rintro ⟨x,y,e,h1,h2⟩; exact ⟨x,y,e,(h x).1 h1,(pow_congr h k y).1 h2⟩
  ·rintro ⟨x,y,e,h1,h2⟩; exact ⟨x,y,e,(h x).2 h1,(pow_congr h k y).2 h2⟩
theorem rep_congr {a a':Den} (h:DEq a a') (l k:Nat) (e:Bool):DEq (dRep a l k e) (dRep a' l k e):=by
 refine ⟨fun u=>?_,?_,?_,?_⟩
 ·constructor
  ·rintro ⟨m,h1,h2,h3⟩; exact ⟨m,h1,h2,(pow_congr h.lang m u).1 h3⟩
  ·rintro ⟨m,h1,h2,h3⟩; exact ⟨m,h1,h2,(pow_congr h.lang m u).2 h3⟩
 ·show (a.some || _)=(a'.some || _); rw [h.some]
 ·show (a.empty || _)=(a'.empty || _); rw [h.empty]
 ·show cutP (a.some || _) (a.places * _)=cutP (a'.some || _) (a'.places * _); rw [h.some,h.places]
theorem cutP_true (n:Nat):cutP true n=if 48<n then 49 else n:=rfl
theorem cat_assoc {a b c:Den} (ha:W a) (hb:W b) (hc:W c):DEq (dCat (dCat a b) c) (dCat a (dCat b c)):=by
 refine ⟨fun u=>?_,Bool.and_assoc _ _ _,Bool.and_assoc _ _ _,?_⟩
 ·constructor
  ·rintro ⟨x,y,rfl,⟨p,q,rfl,h1,h2⟩,h3⟩
   exact ⟨p,q ++ y,by simp,h1,q,y,rfl,h2,h3⟩
  ·rintro ⟨x,y,rfl,h1,p,q,rfl,h2,h3⟩
   exact ⟨x ++ p,q,by simp,⟨x,p,rfl,h1,h2⟩,h3⟩
 ·show cutP ((a.some && b.some) && c.some) (cutP (a.some && b.some) (a.places + b.places) + c.places)=cutP (a.some && (b.some && c.some)) (a.places + cutP (b.some && c.some) (b.places + c.places))
  cases a.some <;> cases b.some <;> cases c.some <;> simp only [Bool.and_true,Bool.and_false,cutP_none]
  rw [cutP_true,cutP_true,cutP_true,cutP_true]
  have h1:=ha.le
  have h2:=hb.le
  have h3:=hc.le
  split <;> split <;> split <;> split <;> omega
theorem alt_assoc {a b c:Den} (ha:W a) (hb:W b) (hc:W c):DEq (dAlt (dAlt a b) c) (dAlt a (dAlt b c)):=by
 refine ⟨fun u=>or_assoc,Bool.or_assoc _ _ _,Bool.or_assoc _ _ _,?_⟩
 show cutP ((a.some || b.some) || c.some) (cutP (a.some || b.some) (a.places + b.places) + c.places)=cutP (a.some || (b.some || c.some)) (a.places + cutP (b.some || c.some) (b.places + c.places))
 have n1:=ha.none
 have n2:=hb.none
 have n3:=hc.none
 have h1:=ha.le
 have h2:=hb.le
 have h3:=hc.le
 cases ea:a.some <;> cases eb:b.some <;> cases ec:c.some <;> simp only [ea,eb,ec,Bool.or_true,Bool.or_false,Bool.or_self,cutP_none,cutP_true,forall_const] at * <;> (repeat' split) <;> omega
theorem eps_cat {a:Den} (ha:W a):DEq (dCat dEps a) a:=by
 refine ⟨fun u=>?_,rfl,rfl,?_⟩
 ·constructor
  ·rintro ⟨x,y,rfl,h1,h2⟩
   have h1:x=[]:=h1
   subst h1
   exact h2
  ·intro h; exact ⟨[],u,rfl,rfl,h⟩
 ·show cutP (true && a.some) (0 + a.places)=a.places
  rw [Bool.true_and,Nat.zero_add]
  have h1:=ha.le
  cases e:a.some with
  | false=>rw [ha.none e]; rfl
  | true=>rw [cutP_true]; split <;> omega
theorem cat_eps {a:Den} (ha:W a):DEq (dCat a dEps) a:=by
 refine ⟨fun u=>?_,Bool.and_true _,Bool.and_true _,?_⟩
 ·constructor
  ·rintro ⟨x,y,rfl,h1,h2⟩
   have h2:y=[]:=h2
   subst h2
   simpa using h1
  ·intro h; exact ⟨u,[],by simp,h,rfl⟩
 ·show cutP (a.some && true) (a.places + 0)=a.places
  rw [Bool.and_true,Nat.add_zero]
  have h1:=ha.le
  cases e:a.some with
  | false=>rw [ha.none e]; rfl
  | true=>rw [cutP_true]; split <;> omega
def DJob.W:DJob→Prop
 | .inr (.inl d)=>Q.W d
 | .inr (.inr (.inr (.inl d)))=>Q.W d
 | .inr (.inr (.inr (.inr (.inr (.inl d)))))=>Q.W d
 | _=>True
theorem dgo_W:∀ (f:Nat) (j:DJob) (r:List UInt8) (d:Den) (r1:List UInt8) (b:Bool) (m:Nat),j.W→dgo f j r=some (d,r1,b,m)→W d
 | 0,_,_,_,_,_,_,_,h=>by cases h
 | f + 1,.inl (),r,d,r1,b,m,hw,h=>by
  obtain ⟨d1,r2,b1,m1,d2,r3,b2,m2,h1,h2,e⟩:=after_inv h
  cases e
  exact dgo_W f (.altL d1) _ _ _ _ _ (dgo_W f .seq _ _ _ _ _ trivial h1) h2
 | f + 1,.inr (.inl d0),r,d,r1,b,m,hw,h=>by
  unfold dgo at h
  split at h
  ·obtain ⟨d1,r2,b1,m1,d2,r3,b2,m2,h1,h2,e⟩:=after_inv h
   cases e
   exact dgo_W f (.altL _) _ _ _ _ _ (w_alt _ _) h2
  ·cases h; exact hw
 | f + 1,.inr (.inr (.inl ())),r,d,r1,b,m,hw,h=>dgo_W f (.seqL dEps) _ _ _ _ _ w_eps h
 | f + 1,.inr (.inr (.inr (.inl d0))),r,d,r1,b,m,hw,h=>by
  unfold dgo at h
  split at h
  ·cases h; exact hw
  ·obtain ⟨d1,r2,b1,m1,d2,r3,b2,m2,h1,h2,e⟩:=after_inv h
   cases e
   exact dgo_W f (.seqL _) _ _ _ _ _ (w_cat _ _) h2
 | f + 1,.inr (.inr (.inr (.inr (.inl ())))),r,d,r1,b,m,hw,h=>by
  obtain ⟨d1,r2,b1,m1,d2,r3,b2,m2,h1,h2,e⟩:=after_inv h
  cases e
  exact dgo_W f (.repL d1) _ _ _ _ _ (dgo_W f .term _ _ _ _ _ trivial h1) h2
 | f + 1,.inr (.inr (.inr (.inr (.inr (.inl d0))))),r,d,r1,b,m,hw,h=>by
  unfold dgo at h
  split at h
  ·split at h
   ·cases h
   ·obtain ⟨d1,r2,b1,m1,d2,r3,b2,m2,h1,h2,e⟩:=after_inv h
    cases e
    cases h1
    exact dgo_W f (.repL _) _ _ _ _ _ (w_rep _ _ _ _) h2
  ·cases h; exact hw
 | f + 1,.inr (.inr (.inr (.inr (.inr (.inr ()))))),r,d,r1,b,m,hw,h=>by
  unfold dgo at h
  split at h
  ·split at h
   ·cases h
   ·next d1 r2 b1 m1 e =>
    split at h
    ·cases h
     exact dgo_W f .alt _ _ _ _ _ trivial e
    ·cases h
  ·split at h
   ·cases h
   ·cases h; exact w_byte _
theorem altL_eq (x:Den) (hx:W x):∀ (f:Nat) (y y2:Den) (r:List UInt8) (d:Den) (r1:List UInt8) (b:Bool) (m:Nat),W y→DEq y2 (dAlt x y)→dgo f (.altL y) r=some (d,r1,b,m)→∃ d2,dgo f (.altL y2) r=some (d2,r1,b,m)∧DEq d2 (dAlt x d)
 | 0,_,_,_,_,_,_,_,_,_,h=>by cases h
 | f + 1,y,y2,r,d,r1,b,m,hw,hy,h=>by
  unfold dgo at h ⊢
  by_cases c:dnext r=124
  ·rw [if_pos c] at h ⊢
   obtain ⟨d3,r3,b3,m3,d4,r4,b4,m4,h1,h2,e⟩:=after_inv h
   cases e
   have w3:=dgo_W f .seq _ _ _ _ _ trivial h1
   obtain ⟨d5,e5,e6⟩:=altL_eq x hx f (dAlt y d3) (dAlt y2 d3) r3 d r1 b4 m4 (w_alt _ _) ((alt_congr hy (DEq.refl d3)).trans (alt_assoc hx hw w3)) h2
   exact ⟨d5,after_eq h1 e5,e6⟩
  ·rw [if_neg c] at h ⊢
   cases h
   exact ⟨y2,rfl,hy⟩
/-! what an expression stands for -/
def rx0:G.Rx:=⟨0,[],[],0,0,0⟩
def denF:Nat→G.Rx→Den
 | 0,_=>dEps
 | f + 1,r=>if r.kind=1 then dByte r.ins
  else if r.kind=2 then dCat (denF f (r.subs.getD 0 rx0)) (denF f (r.subs.getD 1 rx0))
  else if r.kind=3 then dAlt (denF f (r.subs.getD 0 rx0)) (denF f (r.subs.getD 1 rx0))
  else if r.kind=4 then dRep (denF f (r.subs.getD 0 rx0)) r.lo.toNat r.hi.toNat (decide (r.hi<0))
  else dEps
def RD (r:G.Rx) (d:Den):Prop:=∃ F,∀ f,F≤f→denF f r=d
theorem rd_eps (n:Nat):RD ⟨0,[],[],0,0,n⟩ dEps:=⟨1,fun f hf=>by
 obtain ⟨g,rfl⟩:∃ g,f=g + 1:=⟨f - 1,by omega⟩
 rfl⟩
theorem rd_byte (l:List Bool) (n:Nat):RD ⟨1,l,[],0,0,n⟩ (dByte l):=⟨1,fun f hf=>by
 obtain ⟨g,rfl⟩:∃ g,f=g + 1:=⟨f - 1,by omega⟩
 rfl⟩
theorem rd_cat {a b:G.Rx} {d e:Den} (n:Nat) (ha:RD a d) (hb:RD b e):RD ⟨2,[],[a,b],0,0,n⟩ (dCat d e):=by
 obtain ⟨F,h1⟩:=ha
 obtain ⟨F2,h2⟩:=hb
 refine ⟨F + F2 + 1,fun f hf=>?_⟩
 obtain ⟨g,rfl⟩:∃ g,f=g + 1:=⟨f - 1,by omega⟩
 show dCat (denF g a) (denF g b)=_
 rw [h1 g (by omega),h2 g (by omega)]
theorem rd_alt {a b:G.Rx} {d e:Den} (n:Nat) (ha:RD a d) (hb:RD b e):RD ⟨3,[],[a,b],0,0,n⟩ (dAlt d e):=by
 obtain ⟨F,h1⟩:=ha
 obtain ⟨F2,h2⟩:=hb
 refine ⟨F + F2 + 1,fun f hf=>?_⟩
 obtain ⟨g,rfl⟩:∃ g,f=g + 1:=⟨f - 1,by omega⟩
 show dAlt (denF g a) (denF g b)=_
 rw [h1 g (by omega),h2 g (by omega)]
theorem rd_rep {a:G.Rx} {d:Den} (lo hi:Int) (n:Nat) (ha:RD a d):RD ⟨4,[],[a],lo,hi,n⟩ (dRep d lo.toNat hi.toNat (decide (hi<0))):=by
 obtain ⟨F,h1⟩:=ha
 refine ⟨F + 1,fun f hf=>?_⟩
 obtain ⟨g,rfl⟩:∃ g,f=g + 1:=⟨f - 1,by omega⟩
 show dRep (denF g a) _ _ _=_
 rw [h1 g (by omega)]
end Go.Proofs.Ytjmkkkfloalliab.Q
namespace Go.Proofs.Ytjmkkkfloalliab.Q
set_option linter.unusedVariables false
theorem firstAlt_inv {rec:UInt8→Nat→Nat→Option G.Tr} {s:List UInt8} {sym:UInt8} {i j:Nat}:∀ {ls:List (List UInt8)} {a:Nat} {τ:G.Tr},G.firstAlt rec s sym i j ls a=some τ→∃ n l ks,ls[n]?=some l∧G.skips s l i j=false∧G.parts rec l i j=some ks∧τ=⟨sym,a + n,ks,0⟩
 | [],a,τ,h=>by cases h
 | l :: r,a,τ,h=>by
  unfold G.firstAlt at h
  split at h
  ·obtain ⟨n,l',ks,h1,h2,h3,h4⟩:=firstAlt_inv h
   exact ⟨n + 1,l',ks,h1,h2,h3,by rw [h4]; congr 1; omega⟩
  ·next hs =>
   split at h
   ·next ks e =>
    cases h
    exact ⟨0,l,ks,rfl,by simpa using hs,e,rfl⟩
   ·obtain ⟨n,l',ks,h1,h2,h3,h4⟩:=firstAlt_inv h
    exact ⟨n + 1,l',ks,h1,h2,h3,by rw [h4]; congr 1; omega⟩
theorem parts_nil {rec:UInt8→Nat→Nat→Option G.Tr} {i j:Nat} {ks:List G.Tr} (h:G.parts rec [] i j=some ks):i=j∧ks=[]:=by
 unfold G.parts at h
 split at h
 ·next e=>cases h; exact ⟨e,rfl⟩
 ·cases h
theorem parts_cons {rec:UInt8→Nat→Nat→Option G.Tr} {x:UInt8} {l:List UInt8} {i j:Nat} {ks:List G.Tr} (h:G.parts rec (x :: l) i j=some ks):∃ k t ks',i≤k∧k≤j∧rec x i k=some t∧G.parts rec l k j=some ks'∧ks=t :: ks':=by
 unfold G.parts at h
 obtain ⟨k,hk,e⟩:=List.exists_of_findSome?_eq_some h
 rw [List.mem_range'_1] at hk
 split at e
 ·cases e
 ·cases h1:rec x i k with
  | none=>rw [h1] at e; cases e
  | some t =>
   rw [h1] at e
   cases h2:G.parts rec l k j with
   | none=>rw [Option.bind_some,h2] at e; cases e
   | some r =>
    rw [Option.bind_some,h2] at e
    cases e
    exact ⟨k,t,r,hk.1,by omega,h1,h2,rfl⟩
theorem der_lit {s:List UInt8} {f:Nat} {c:UInt8} {i k:Nat} {t:G.Tr} (hc:G.isNt c=false) (h:G.der s f c i k=some t):k=i + 1∧G.cls c (s.getD i 0)=true∧t=⟨c,0,[],s.getD i 0⟩:=by
 cases f with
 | zero=>cases h
 | succ f =>
  rw [G.der_term s f c i k hc] at h
  split at h
  ·next g=>cases h; exact ⟨g.1,g.2,rfl⟩
  ·cases h
theorem der_one {s:List UInt8} {f:Nat} {c:UInt8} {i k:Nat} {t:G.Tr} (hc:G.isNt c=false) (hc2:∀ x,G.cls c x=(x == c)) (h:G.der s f c i k=some t):k=i + 1∧s.getD i 0=c∧t=⟨c,0,[],c⟩:=by
 obtain ⟨h1,h2,h3⟩:=der_lit hc h
 rw [hc2] at h2
 have:=beq_iff_eq.1 h2
 rw [this] at h3
 exact ⟨h1,this,h3⟩
theorem drop_at {s:List UInt8} {i:Nat} (h:i<s.length):s.drop i=s.getD i 0 :: s.drop (i + 1):=by
 rw [List.drop_eq_getElem_cons h,List.getD_eq_getElem?_getD,List.getElem?_eq_getElem h]
 rfl
theorem der_le {s:List UInt8} {f:Nat} {x:UInt8} {i j:Nat} {τ:G.Tr} (h:G.der s f x i j=some τ) (hn:G.isNt x=true):∃ g n l ks,f=g + 1∧(G.alts x)[n]?=some l∧G.skips s l i j=false∧G.parts (G.der s g) l i j=some ks∧τ=⟨x,n,ks,0⟩:=by
 cases f with
 | zero=>cases h
 | succ g =>
  unfold G.der at h
  rw [if_pos hn] at h
  obtain ⟨n,l,ks,h1,h2,h3,h4⟩:=firstAlt_inv h
  exact ⟨g,n,l,ks,rfl,h1,h2,h3,by rw [h4]; congr 1; omega⟩
theorem der_num {s:List UInt8} {f:Nat} {i j:Nat} {τ:G.Tr} (h:G.der s f 78 i j=some τ) (hj:j<s.length) (hd:isDigit (dnext (s.drop j))=false) :
    ∃ n,dnum (s.drop i)=some (n,s.drop j)∧G.numberF τ=(n:Int)∧i<j∧n≤99∧isDigit (dnext (s.drop i))=true:=by
 obtain ⟨g,n,l,ks,rfl,h1,h2,h3,rfl⟩:=der_le h (by decide)
 have dg:∀ c:UInt8,G.cls 100 c=true→isDigit ((c.toNat:Nat):Int)=true∧48≤c.toNat∧c.toNat≤57:=by
  intro c hc
  unfold G.cls at hc
  rw [if_pos (by decide),Bool.and_eq_true,decide_eq_true_eq,decide_eq_true_eq] at hc
  have a1:48≤c.toNat:=UInt8.le_iff_toNat_le.1 hc.1
  have a2:c.toNat≤57:=UInt8.le_iff_toNat_le.1 hc.2
  refine ⟨?_,a1,a2⟩
  unfold isDigit
  rw [Bool.and_eq_true,decide_eq_true_eq,decide_eq_true_eq]
  omega
 match n,h1 with
 | 0,h1 =>
  cases h1
  obtain ⟨k,t,ks',g1,g2,g3,g4,rfl⟩:=parts_cons h3
  obtain ⟨rfl,rfl⟩:=parts_nil g4
  obtain ⟨rfl,c1,rfl⟩:=der_lit (by decide) g3
  obtain ⟨d1,d2,d3⟩:=dg _ c1
  have e1:=drop_at (s:=s) (i:=i) (by omega)
  have e2:dnext (s.drop i)=((s.getD i 0).toNat:Int):=by rw [e1]; rfl
  have e3:(s.drop i).tail=s.drop (i + 1):=by rw [e1]; rfl
  refine ⟨(s.getD i 0).toNat - 48,?_,?_,by omega,by omega,by rw [e2]; exact d1⟩
  ·unfold dnum
   rw [e2,e3,if_neg (by rw [d1]; decide),if_neg (by rw [hd]; decide)]
   rfl
  ·show (10 * 0 + ((s.getD i 0).toNat:Int) - 48)=_
   omega
 | 1,h1 =>
  cases h1
  obtain ⟨k,t,ks',g1,g2,g3,g4,rfl⟩:=parts_cons h3
  obtain ⟨k2,t2,ks2,g5,g6,g7,g8,rfl⟩:=parts_cons g4
  obtain ⟨rfl,rfl⟩:=parts_nil g8
  obtain ⟨rfl,c1,rfl⟩:=der_lit (by decide) g3
  obtain ⟨rfl,c2,rfl⟩:=der_lit (by decide) g7
  obtain ⟨d1,d2,d3⟩:=dg _ c1
  obtain ⟨q1,q2,q3⟩:=dg _ c2
  have e1:=drop_at (s:=s) (i:=i) (by omega)
  have e4:=drop_at (s:=s) (i:=i + 1) (by omega)
  have e2:dnext (s.drop i)=((s.getD i 0).toNat:Int):=by rw [e1]; rfl
  have e3:(s.drop i).tail=s.drop (i + 1):=by rw [e1]; rfl
  have e5:dnext (s.drop (i + 1))=((s.getD (i + 1) 0).toNat:Int):=by rw [e4]; rfl
  have e6:(s.drop (i + 1)).tail=s.drop (i + 1 + 1):=by rw [e4]; rfl
  refine ⟨10 * ((s.getD i 0).toNat - 48) + ((s.getD (i + 1) 0).toNat - 48),?_,?_,by omega,by omega,by rw [e2]; exact d1⟩
  ·unfold dnum
   rw [e2,e3,e5,e6,if_neg (by rw [d1]; decide),if_pos q1]
   rfl
  ·show (10 * (10 * 0 + ((s.getD i 0).toNat:Int) - 48) + ((s.getD (i + 1) 0).toNat:Int) - 48)=_
   omega
 | n + 2,h1=>cases h1
theorem der_mem {s:List UInt8} {f:Nat} {i j:Nat} {τ:G.Tr} (h:G.der s f 66 i j=some τ) (hj:j≤s.length) :
    dmb (s.drop i)=some (G.memberC τ,s.drop j)∧i<j∧dnext (s.drop i) ≠ 93∧dnext (s.drop i) ≠ 45∧dnext (s.drop i) ≠ -1:=by
 obtain ⟨g,n,l,ks,rfl,h1,h2,h3,rfl⟩:=der_le h (by decide)
 match n,h1 with
 | 0,h1 =>
  cases h1
  obtain ⟨k,t,ks',g1,g2,g3,g4,rfl⟩:=parts_cons h3
  obtain ⟨rfl,rfl⟩:=parts_nil g4
  obtain ⟨rfl,c1,rfl⟩:=der_lit (by decide) g3
  have e1:=drop_at (s:=s) (i:=i) (by omega)
  have e2:dnext (s.drop i)=((s.getD i 0).toNat:Int):=by rw [e1]; rfl
  have e3:(s.drop i).tail=s.drop (i + 1):=by rw [e1]; rfl
  have hne:s.getD i 0 ≠ 93∧s.getD i 0 ≠ 92∧s.getD i 0 ≠ 45:=by
   unfold G.cls at c1
   rw [if_neg (by decide),if_neg (by decide),if_pos (by decide)] at c1
   simp only [List.contains_cons,Bool.not_or,Bool.and_eq_true,Bool.not_eq_true',beq_eq_false_iff_ne] at c1
   exact ⟨c1.1,c1.2.1,c1.2.2.1⟩
  have tn:∀ c d:UInt8,c ≠ d→((c.toNat:Nat):Int) ≠ ((d.toNat:Nat):Int):=fun c d hcd e=>hcd (UInt8.toNat_inj.1 (by omega))
  have n1:=tn _ _ hne.1
  have n2:=tn _ _ hne.2.1
  have n3:=tn _ _ hne.2.2
  have n1:((s.getD i 0).toNat:Int) ≠ 93:=n1
  have n2:((s.getD i 0).toNat:Int) ≠ 92:=n2
  have n3:((s.getD i 0).toNat:Int) ≠ 45:=n3
  refine ⟨?_,by omega,by rw [e2]; exact n1,by rw [e2]; exact n3,by rw [e2]; omega⟩
  unfold dmb
  rw [e2,if_neg n2,if_neg (by rintro (e | e); (· exact n1 e); exact n3 e)]
  unfold dany
  rw [e2,if_neg (by omega),e3]
  rfl
 | 1,h1 =>
  cases h1
  obtain ⟨k,t,ks',g1,g2,g3,g4,rfl⟩:=parts_cons h3
  obtain ⟨k2,t2,ks2,g5,g6,g7,g8,rfl⟩:=parts_cons g4
  obtain ⟨rfl,rfl⟩:=parts_nil g8
  obtain ⟨rfl,c1,rfl⟩:=der_one (by decide) (fun x=>rfl) g3
  obtain ⟨rfl,c2,rfl⟩:=der_lit (by decide) g7
  have e1:=drop_at (s:=s) (i:=i) (by omega)
  have e4:=drop_at (s:=s) (i:=i + 1) (by omega)
  have e2:dnext (s.drop i)=92:=by rw [e1,c1]; rfl
  have e3:(s.drop i).tail=s.drop (i + 1):=by rw [e1]; rfl
  have e5:dnext (s.drop (i + 1))=((s.getD (i + 1) 0).toNat:Int):=by rw [e4]; rfl
  have e6:(s.drop (i + 1)).tail=s.drop (i + 1 + 1):=by rw [e4]; rfl
  refine ⟨?_,by omega,by rw [e2]; decide,by rw [e2]; decide,by rw [e2]; decide⟩
  unfold dmb
  rw [e2,if_pos rfl,e3]
  unfold dany
  rw [e5,if_neg (by omega),e6]
  rfl
 | n + 2,h1=>cases h1
theorem der_member {s:List UInt8} {f:Nat} {i j:Nat} {τ:G.Tr} (h:G.der s f 77 i j=some τ) (hj:j<s.length) (hd:dnext (s.drop j) ≠ 45) (ins:List Bool) :
    dmember ins (s.drop i)=some (setRange ins (G.memberC (G.kid τ 0)) (if τ.kids.length=3 then G.memberC (G.kid τ 2) else G.memberC (G.kid τ 0)),decide ((if τ.kids.length=3 then G.memberC (G.kid τ 2) else G.memberC (G.kid τ 0))<G.memberC (G.kid τ 0)),s.drop j)∧i<j∧dnext (s.drop i) ≠ 93∧dnext (s.drop i) ≠ 45∧dnext (s.drop i) ≠ -1:=by
 obtain ⟨g,n,l,ks,rfl,h1,h2,h3,rfl⟩:=der_le h (by decide)
 match n,h1 with
 | 0,h1 =>
  cases h1
  obtain ⟨k,t,ks',g1,g2,g3,g4,rfl⟩:=parts_cons h3
  obtain ⟨rfl,rfl⟩:=parts_nil g4
  obtain ⟨m1,m2,m3,m4,m5⟩:=der_mem g3 (by omega)
  refine ⟨?_,m2,m3,m4,m5⟩
  unfold dmember
  rw [m1]
  simp only
  rw [if_neg hd]
  show _=some (setRange ins (G.memberC t) (G.memberC t),decide (G.memberC t<G.memberC t),s.drop k)
  rw [decide_eq_false (Nat.lt_irrefl _)]
 | 1,h1 =>
  cases h1
  obtain ⟨k,t,ks',g1,g2,g3,g4,rfl⟩:=parts_cons h3
  obtain ⟨k2,t2,ks2,g5,g6,g7,g8,rfl⟩:=parts_cons g4
  obtain ⟨k3,t3,ks3,g9,g10,g11,g12,rfl⟩:=parts_cons g8
  obtain ⟨rfl,rfl⟩:=parts_nil g12
  obtain ⟨m1,m2,m3,m4,m5⟩:=der_mem g3 (by omega)
  obtain ⟨rfl,c1,rfl⟩:=der_one (by decide) (fun x=>rfl) g7
  obtain ⟨q1,q2,q3,q4,q5⟩:=der_mem g11 (by omega)
  have e1:=drop_at (s:=s) (i:=k) (by omega)
  have e2:dnext (s.drop k)=45:=by rw [e1,c1]; rfl
  have e3:(s.drop k).tail=s.drop (k + 1):=by rw [e1]; rfl
  refine ⟨?_,by omega,m3,m4,m5⟩
  unfold dmember
  rw [m1]
  simp only
  rw [if_pos e2,e3,q1]
  rfl
 | n + 2,h1=>cases h1
theorem der_items {s:List UInt8}:∀ (f:Nat) (i j:Nat) (τ:G.Tr),G.der s f 73 i j=some τ→j<s.length→dnext (s.drop j)=93→∀ (ins:List Bool) (b:Bool),
    i<j∧dnext (s.drop i) ≠ 93∧dnext (s.drop i) ≠ 45∧dnext (s.drop i) ≠ -1∧∃ i1 b1 r1,dmember ins (s.drop i)=some (i1,b1,r1)∧r1.length + 1≤s.length∧∀ F,r1.length<F→dmembers F i1 (b || b1) r1=some ((G.itemsF f τ ins b).1,(G.itemsF f τ ins b).2,s.drop (j + 1))
 | 0,i,j,τ,h,_,_,_,_=>by cases h
 | f + 1,i,j,τ,h,hj,hd,ins,b=>by
  obtain ⟨g,n,l,ks,e,h1,h2,h3,rfl⟩:=der_le h (by decide)
  have e:f=g:=by omega
  subst e
  have ej:=drop_at (s:=s) (i:=j) hj
  have ej2:(s.drop j).tail=s.drop (j + 1):=by rw [ej]; rfl
  match n,h1 with
  | 0,h1 =>
   cases h1
   obtain ⟨k,t,ks',g1,g2,g3,g4,rfl⟩:=parts_cons h3
   obtain ⟨rfl,rfl⟩:=parts_nil g4
   obtain ⟨m1,m2,m3,m4,m5⟩:=der_member g3 hj (by rw [hd]; decide) ins
   refine ⟨m2,m3,m4,m5,_,_,_,m1,by simp; omega,fun F hF=>?_⟩
   obtain ⟨F,rfl⟩:∃ G,F=G + 1:=⟨F - 1,by omega⟩
   unfold dmembers
   rw [if_pos hd,ej2]
   rfl
  | 1,h1 =>
   cases h1
   obtain ⟨k,t,ks',g1,g2,g3,g4,rfl⟩:=parts_cons h3
   obtain ⟨k2,t2,ks2,g5,g6,g7,g8,rfl⟩:=parts_cons g4
   obtain ⟨rfl,rfl⟩:=parts_nil g8
   have I0:=der_items f k k2 t2 g7 hj hd ins b
   obtain ⟨m1,m2,m3,m4,m5⟩:=der_member g3 (by omega) I0.2.2.1 ins
   obtain ⟨_,I1,I2,I3,i1,b1,r1,I4,I5,I6⟩:=der_items f k k2 t2 g7 hj hd (setRange ins (G.memberC (G.kid t 0)) (if t.kids.length=3 then G.memberC (G.kid t 2) else G.memberC (G.kid t 0))) (b || decide ((if t.kids.length=3 then G.memberC (G.kid t 2) else G.memberC (G.kid t 0))<G.memberC (G.kid t 0)))
   refine ⟨by omega,m3,m4,m5,_,_,_,m1,by simp; omega,fun F hF=>?_⟩
   obtain ⟨F,rfl⟩:∃ G,F=G + 1:=⟨F - 1,by omega⟩
   unfold dmembers
   rw [if_neg I1,I4]
   simp only
   have hl:=dmember_len I4
   rw [I6 F (by omega)]
   rfl
  | n + 2,h1=>cases h1
end Go.Proofs.Ytjmkkkfloalliab.Q
namespace Go.Proofs.Ytjmkkkfloalliab.Q
set_option linter.unusedVariables false
theorem itemsF_back:∀ (f:Nat) (τ:G.Tr) (ins:List Bool) (b:Bool),G.itemsF f τ ins b=((G.itemsF f τ ins false).1,b || (G.itemsF f τ ins false).2)
 | 0,τ,ins,b=>by simp [G.itemsF]
 | f + 1,τ,ins,b=>by
  unfold G.itemsF
  split
  ·rw [itemsF_back f,itemsF_back f _ _ (false || _)]
   simp [Bool.or_assoc]
  ·simp
def Mt (f:Nat) (τ:G.Tr) (d:Den) (b:Bool) (m:Nat):Prop :=
 ∀ (deep:Nat) (st:G.Mk),deep≤st.depth→RD (G.exF f τ deep st).1 d∧(G.exF f τ deep st).2.back=(st.back || b)∧(G.exF f τ deep st).2.depth=max st.depth (deep + m)
def Reads (j:DJob) (r:List UInt8) (d:Den) (r1:List UInt8) (b:Bool) (m:Nat):Prop:=∃ F d',dgo F j r=some (d',r1,b,m)∧DEq d' d
theorem stops_rep {c:Int} (h:stops c=false):isRep c=false∧ends c=false:=by
 unfold stops at h
 unfold isRep ends
 simp only [Bool.or_eq_false_iff] at h ⊢
 obtain ⟨⟨⟨⟨⟨⟨⟨⟨h1,h2⟩,h3⟩,h4⟩,h5⟩,h6⟩,h7⟩,h8⟩,h9⟩:=h
 exact ⟨⟨⟨⟨h4,h5⟩,h6⟩,h7⟩,⟨⟨h1,h3⟩,h2⟩⟩
theorem ends_rep {c:Int} (h:ends c=true):isRep c=false:=by
 rcases stop_cases h with e | e | e <;> rw [e] <;> rfl
theorem all_ins:turn ins0=G.all256:=by
 unfold turn ins0 G.all256
 rw [List.map_replicate]
 rfl
theorem byte_int {a b:UInt8} (h:a ≠ b):((a.toNat:Nat):Int) ≠ ((b.toNat:Nat):Int):=fun e=>h (UInt8.toNat_inj.1 (by omega))
def PartA (s:List UInt8) (f:Nat):Prop:=∀ i j τ,G.der s f 65 i j=some τ→j≤s.length→(dnext (s.drop j) = -1∨dnext (s.drop j)=41)→i≤j∧∃ d b m,W d∧Mt f τ d b m∧Reads .alt (s.drop i) d (s.drop j) b m
def PartC (s:List UInt8) (f:Nat):Prop:=∀ i j τ,G.der s f 67 i j=some τ→j≤s.length→ends (dnext (s.drop j))=true→i≤j∧(i=j∨stops (dnext (s.drop i))=false)∧∃ d b m,W d∧Mt f τ d b m∧∀ d0,W d0→Reads (.seqL d0) (s.drop i) (dCat d0 d) (s.drop j) b m
def PartR (s:List UInt8) (f:Nat):Prop:=∀ i j τ,G.der s f 82 i j=some τ→j≤s.length→isRep (dnext (s.drop j))=false→i<j∧stops (dnext (s.drop i))=false∧∃ d b m,W d∧Mt f τ d b m∧Reads .rep (s.drop i) d (s.drop j) b m
def PartT (s:List UInt8) (f:Nat):Prop:=∀ i j τ,G.der s f 84 i j=some τ→j≤s.length→i<j∧stops (dnext (s.drop i))=false∧∃ d b m,W d∧Mt f τ d b m∧Reads .term (s.drop i) d (s.drop j) b m
def PartQ (s:List UInt8) (f:Nat):Prop:=∀ i j q,G.der s f 81 i j=some q→j≤s.length→isRep (dnext (s.drop j))=false→i≤j∧∃ b,∀ d0 d0',DEq d0' d0→W d0→∃ d1,W d1∧Reads (.repL d0') (s.drop i) d1 (s.drop j) b 0∧∀ a st,RD a d0→RD (G.timesF f a q st).1 d1∧(G.timesF f a q st).2.back=(st.back || b)∧(G.timesF f a q st).2.depth=st.depth
theorem partA {s:List UInt8} {g:Nat} (hC:PartC s g) (hA:PartA s g):PartA s (g + 1):=by
 intro i j τ h hj hd
 obtain ⟨g',n,l,ks,e,h1,h2,h3,rfl⟩:=der_le h (by decide)
 have e:g'=g:=by omega
 subst e
 match n,h1 with
 | 0,h1 =>
  cases h1
  obtain ⟨k,t,ks',g1,g2,g3,g4,rfl⟩:=parts_cons h3
  obtain ⟨rfl,rfl⟩:=parts_nil g4
  have he:ends (dnext (s.drop k))=true:=by rcases hd with e | e <;> rw [e] <;> rfl
  obtain ⟨c1,_,d,b,m,w,c2,c3⟩:=hC i k t g3 hj he
  refine ⟨c1,d,b,m,w,c2,?_⟩
  obtain ⟨F,d',r1,r2⟩:=c3 dEps w_eps
  refine ⟨F + 2,d',?_,r2.trans (eps_cat w)⟩
  have a1:dgo (F + 1) .seq (s.drop i)=some (d',s.drop k,b,m):=r1
  have a2:dgo (F + 1) (.altL d') (s.drop k)=some (d',s.drop k,false,0):=by
   unfold dgo
   rw [if_neg (by rcases hd with e | e <;> rw [e] <;> decide)]
  have:=after_eq (k:=fun d r1=>dgo (F + 1) (.altL d) r1) a1 a2
  unfold dgo
  rw [this]
  simp
 | 1,h1 =>
  cases h1
  obtain ⟨k,t,ks',g1,g2,g3,g4,rfl⟩:=parts_cons h3
  obtain ⟨k2,t2,ks2,g5,g6,g7,g8,rfl⟩:=parts_cons g4
  obtain ⟨k3,t3,ks3,g9,g10,g11,g12,rfl⟩:=parts_cons g8
  obtain ⟨rfl,rfl⟩:=parts_nil g12
  obtain ⟨rfl,c1,rfl⟩:=der_one (by decide) (fun x=>rfl) g7
  have e1:=drop_at (s:=s) (i:=k) (by omega)
  have e2:dnext (s.drop k)=124:=by rw [e1,c1]; rfl
  have e3:(s.drop k).tail=s.drop (k + 1):=by rw [e1]; rfl
  obtain ⟨a1,_,dc,bc,mc,wc,a2,a3⟩:=hC i k t g3 (by omega) (by rw [e2]; rfl)
  obtain ⟨b1,da,ba,ma,wa,b2,Fa,da',b3,b4⟩:=hA (k + 1) k3 t3 g11 hj hd
  obtain ⟨Fc,dc',r1,r2⟩:=a3 dEps w_eps
  refine ⟨by omega,dAlt dc da,bc || ba,max mc ma,w_alt _ _,?_,?_⟩
  ·intro deep st hst
   obtain ⟨x1,x2,x3⟩:=a2 deep st hst
   obtain ⟨y1,y2,y3⟩:=b2 deep (G.exF g' t deep st).2 (by rw [x3]; omega)
   refine ⟨rd_alt _ x1 y1,?_,?_⟩
   ·show (G.exF g' t3 deep (G.exF g' t deep st).2).2.back=_
    rw [y2,x2,Bool.or_assoc]
   ·show (G.exF g' t3 deep (G.exF g' t deep st).2).2.depth=_
    rw [y3,x3]; omega
  ·have hdc:DEq dc' dc:=r2.trans (eps_cat wc)
   have wc':W dc':=wc.eq hdc.symm
   have q1:=dgo_more r1 (show Fc≤Fc + Fa by omega)
   have q2:=dgo_more b3 (show Fa≤Fc + Fa + 1 by omega)
   obtain ⟨d1,r1',b1',m1,d2,r2',b2',m2,p1,p2,p3⟩:=after_inv (x:=dgo (Fc + Fa) .seq (s.drop (k + 1))) (k:=fun d r1=>dgo (Fc + Fa) (.altL d) r1) q2
   simp only [Prod.mk.injEq] at p3
   obtain ⟨rfl,rfl,rfl,rfl⟩:=p3
   have wd1:=dgo_W _ .seq _ _ _ _ _ trivial p1
   obtain ⟨d5,z1,z2⟩:=altL_eq dc' wc' _ d1 (dAlt dc' d1) r1' da' _ b2' m2 wd1 (DEq.refl _) p2
   refine ⟨Fc + Fa + 2,d5,?_,z2.trans (alt_congr hdc b4)⟩
   have a5:dgo (Fc + Fa + 1) (.altL dc') (s.drop k)=some (d5,s.drop k3,b1' || b2',max m1 m2):=by
    unfold dgo
    rw [if_pos e2,e3]
    exact after_eq p1 z1
   have a6:dgo (Fc + Fa + 1) .seq (s.drop i)=some (dc',s.drop k,bc,mc):=q1
   exact after_eq a6 a5
 | n + 2,h1=>cases h1
theorem partC {s:List UInt8} {g:Nat} (hR:PartR s g) (hC:PartC s g):PartC s (g + 1):=by
 intro i j τ h hj hd
 obtain ⟨g',n,l,ks,e,h1,h2,h3,rfl⟩:=der_le h (by decide)
 have e:g'=g:=by omega
 subst e
 match n,h1 with
 | 0,h1 =>
  cases h1
  obtain ⟨rfl,rfl⟩:=parts_nil h3
  refine ⟨Nat.le_refl _,.inl rfl,dEps,false,0,w_eps,?_,fun d0 w0=>⟨1,d0,seqL_end (g:=0) hd,(cat_eps w0).symm⟩⟩
  intro deep st hst
  exact ⟨rd_eps _,(Bool.or_false _).symm,by show st.depth=_; omega⟩
 | 1,h1 =>
  cases h1
  obtain ⟨k,t,ks',g1,g2,g3,g4,rfl⟩:=parts_cons h3
  obtain ⟨k2,t2,ks2,g5,g6,g7,g8,rfl⟩:=parts_cons g4
  obtain ⟨rfl,rfl⟩:=parts_nil g8
  obtain ⟨c1,c2,dc,bc,mc,wc,c3,c4⟩:=hC k k2 t2 g7 hj hd
  have hrep:isRep (dnext (s.drop k))=false:=by
   rcases c2 with e | e
   ·rw [e]; exact ends_rep hd
   ·exact (stops_rep e).1
  obtain ⟨a1,a2,dr,br,mr,wr,a3,Fr,dr',a4,a5⟩:=hR i k t g3 (by omega) hrep
  refine ⟨by omega,.inr a2,dCat dr dc,br || bc,max mr mc,w_cat _ _,?_,fun d0 w0=>?_⟩
  ·intro deep st hst
   obtain ⟨x1,x2,x3⟩:=a3 deep st hst
   obtain ⟨y1,y2,y3⟩:=c3 deep (G.exF g' t deep st).2 (by rw [x3]; omega)
   refine ⟨rd_cat _ x1 y1,?_,?_⟩
   ·show (G.exF g' t2 deep (G.exF g' t deep st).2).2.back=_
    rw [y2,x2,Bool.or_assoc]
   ·show (G.exF g' t2 deep (G.exF g' t deep st).2).2.depth=_
    rw [y3,x3]; omega
  ·obtain ⟨Fc,d2,c5,c6⟩:=c4 (dCat d0 dr') (w_cat _ _)
   refine ⟨Fr + Fc + 1,d2,?_,?_⟩
   ·exact seqL_step (stops_rep a2).2 (dgo_more a4 (by omega)) (dgo_more c5 (by omega))
   ·refine c6.trans ((cat_congr (cat_congr (DEq.refl d0) a5) (DEq.refl dc)).trans (cat_assoc w0 wr wc))
 | n + 2,h1=>cases h1
theorem partR {s:List UInt8} {g:Nat} (hT:PartT s g) (hQ:PartQ s g):PartR s (g + 1):=by
 intro i j τ h hj hd
 obtain ⟨g',n,l,ks,e,h1,h2,h3,rfl⟩:=der_le h (by decide)
 have e:g'=g:=by omega
 subst e
 match n,h1 with
 | 0,h1 =>
  cases h1
  obtain ⟨k,t,ks',g1,g2,g3,g4,rfl⟩:=parts_cons h3
  obtain ⟨k2,t2,ks2,g5,g6,g7,g8,rfl⟩:=parts_cons g4
  obtain ⟨rfl,rfl⟩:=parts_nil g8
  obtain ⟨a1,a2,dt,bt,mt,wt,a3,Ft,dt',a4,a5⟩:=hT i k t g3 (by omega)
  obtain ⟨c1,bq,c2⟩:=hQ k k2 t2 g7 hj hd
  obtain ⟨d1,w1,⟨Fq,d1',c3,c4⟩,c5⟩:=c2 dt dt' a5 wt
  refine ⟨by omega,a2,d1,bt || bq,mt,w1,?_,?_⟩
  ·intro deep st hst
   obtain ⟨x1,x2,x3⟩:=a3 deep st hst
   obtain ⟨y1,y2,y3⟩:=c5 (G.exF g' t deep st).1 (G.exF g' t deep st).2 x1
   refine ⟨y1,?_,?_⟩
   ·show (G.timesF g' (G.exF g' t deep st).1 t2 (G.exF g' t deep st).2).2.back=_
    rw [y2,x2,Bool.or_assoc]
   ·show (G.timesF g' (G.exF g' t deep st).1 t2 (G.exF g' t deep st).2).2.depth=_
    rw [y3,x3]
  ·refine ⟨Ft + Fq + 1,d1',?_,c4⟩
   have:=after_eq (k:=fun d r1=>dgo (Ft + Fq) (.repL d) r1) (dgo_more a4 (show Ft≤Ft + Fq by omega)) (dgo_more c3 (show Fq≤Ft + Fq by omega))
   unfold dgo
   rw [this]
   simp
 | n + 1,h1=>cases h1
end Go.Proofs.Ytjmkkkfloalliab.Q
namespace Go.Proofs.Ytjmkkkfloalliab.Q
set_option linter.unusedVariables false
theorem rep_endless (a:Den) (l h h':Nat):DEq (dRep a l h true) (dRep a l h' true):=by
 refine ⟨fun u=>?_,rfl,rfl,rfl⟩
 constructor
 ·rintro ⟨m,h1,_,h3⟩; exact ⟨m,h1,.inl rfl,h3⟩
 ·rintro ⟨m,h1,_,h3⟩; exact ⟨m,h1,.inl rfl,h3⟩
theorem q_step {s:List UInt8} {g i k j:Nat} {q:G.Tr} {t:G.Tr} {lo hi:Nat} {en b:Bool} (hQ:PartQ s g) (hne:dnext (s.drop i) ≠ -1) (hr:isRep (dnext (s.drop i))=true) (hd:drep (s.drop i)=some (lo,hi,en,b,s.drop k)) (ht:G.der s g 81 k j=some t) (hj:j≤s.length) (hrep:isRep (dnext (s.drop j))=false) (hik:i<k)
    (ha:q.alt ≠ 0) (hl:G.lastKid q=t) (hlo:∀ d,DEq (dRep d lo hi en) (dRep d (G.loOf q).toNat (G.hiOf q).toNat (decide (G.hiOf q<0)))) (hb:∀ x,G.backOf q x=(x || b)) :
    i≤j∧∃ b',∀ d0 d0',DEq d0' d0→W d0→∃ d1,W d1∧Reads (.repL d0') (s.drop i) d1 (s.drop j) b' 0∧∀ a st,RD a d0→RD (G.timesF (g + 1) a q st).1 d1∧(G.timesF (g + 1) a q st).2.back=(st.back || b')∧(G.timesF (g + 1) a q st).2.depth=st.depth:=by
 obtain ⟨c1,bq,c2⟩:=hQ k j t ht hj hrep
 refine ⟨by omega,b || bq,fun d0 d0' h0 w0=>?_⟩
 have h1:DEq (dRep d0' lo hi en) (dRep d0 (G.loOf q).toNat (G.hiOf q).toNat (decide (G.hiOf q<0))):=(rep_congr h0 lo hi en).trans (hlo d0)
 obtain ⟨d1,w1,⟨F,d1',r1,r2⟩,c3⟩:=c2 _ _ h1 (w_rep _ _ _ _)
 refine ⟨d1,w1,⟨F + 1,d1',?_,r2⟩,fun a st hra=>?_⟩
 ·unfold dgo
  rw [if_pos hr,hd]
  simp only
  rw [after_eq rfl r1]
  simp
 ·have e:G.timesF (g + 1) a q st=G.timesF g ⟨4,[],[a],G.loOf q,G.hiOf q,st.n⟩ t ⟨st.n + 1,G.backOf q st.back,st.depth⟩:=by
     conv=>lhs; unfold G.timesF
     rw [if_neg ha,hl]
  rw [e]
  obtain ⟨y1,y2,y3⟩:=c3 ⟨4,[],[a],G.loOf q,G.hiOf q,st.n⟩ ⟨st.n + 1,G.backOf q st.back,st.depth⟩ (rd_rep _ _ _ hra)
  refine ⟨y1,?_,y3⟩
  rw [y2,hb,Bool.or_assoc]
theorem next_one {s:List UInt8} {i:Nat} {c:UInt8} (hi:i<s.length) (hc:s.getD i 0=c):dnext (s.drop i)=((c.toNat:Nat):Int)∧(s.drop i).tail=s.drop (i + 1):=by
 have e1:=drop_at hi
 rw [e1,hc]
 exact ⟨rfl,rfl⟩
theorem partQ {s:List UInt8} {g:Nat} (hQ:PartQ s g):PartQ s (g + 1):=by
 intro i j q h hj hd
 obtain ⟨g',n,l,ks,e,h1,h2,h3,rfl⟩:=der_le h (by decide)
 have e:g'=g:=by omega
 subst e
 match n,h1 with
 | 0,h1 =>
  cases h1
  obtain ⟨rfl,rfl⟩:=parts_nil h3
  refine ⟨Nat.le_refl _,false,fun d0 d0' h0 w0=>⟨d0,w0,⟨1,d0',repL_end (g:=0) hd,h0⟩,fun a st hra=>?_⟩⟩
  exact ⟨hra,(Bool.or_false _).symm,rfl⟩
 | 1,h1 =>
  cases h1
  obtain ⟨k,t,ks',g1,g2,g3,g4,rfl⟩:=parts_cons h3
  obtain ⟨k2,t2,ks2,g5,g6,g7,g8,rfl⟩:=parts_cons g4
  obtain ⟨rfl,rfl⟩:=parts_nil g8
  obtain ⟨rfl,c1,rfl⟩:=der_one (by decide) (fun x=>rfl) g3
  obtain ⟨e2,e3⟩:=next_one (by omega) c1
  have e2:dnext (s.drop i)=42:=e2
  refine q_step (lo:=0) (hi:=0) (en:=true) (b:=false) hQ (by rw [e2]; decide) (by rw [e2]; rfl) ?_ g7 hj hd (by omega) (Nat.succ_ne_zero _) rfl (fun d=>DEq.refl _) (fun x=>(Bool.or_false x).symm)
  unfold drep
  rw [if_pos e2,e3]
 | 2,h1 =>
  cases h1
  obtain ⟨k,t,ks',g1,g2,g3,g4,rfl⟩:=parts_cons h3
  obtain ⟨k2,t2,ks2,g5,g6,g7,g8,rfl⟩:=parts_cons g4
  obtain ⟨rfl,rfl⟩:=parts_nil g8
  obtain ⟨rfl,c1,rfl⟩:=der_one (by decide) (fun x=>rfl) g3
  obtain ⟨e2,e3⟩:=next_one (by omega) c1
  have e2:dnext (s.drop i)=43:=e2
  refine q_step (lo:=1) (hi:=0) (en:=true) (b:=false) hQ (by rw [e2]; decide) (by rw [e2]; rfl) ?_ g7 hj hd (by omega) (Nat.succ_ne_zero _) rfl (fun d=>DEq.refl _) (fun x=>(Bool.or_false x).symm)
  unfold drep
  rw [if_neg (by rw [e2]; decide),if_pos e2,e3]
 | 3,h1 =>
  cases h1
  obtain ⟨k,t,ks',g1,g2,g3,g4,rfl⟩:=parts_cons h3
  obtain ⟨k2,t2,ks2,g5,g6,g7,g8,rfl⟩:=parts_cons g4
  obtain ⟨rfl,rfl⟩:=parts_nil g8
  obtain ⟨rfl,c1,rfl⟩:=der_one (by decide) (fun x=>rfl) g3
  obtain ⟨e2,e3⟩:=next_one (by omega) c1
  have e2:dnext (s.drop i)=63:=e2
  refine q_step (lo:=0) (hi:=1) (en:=false) (b:=false) hQ (by rw [e2]; decide) (by rw [e2]; rfl) ?_ g7 hj hd (by omega) (Nat.succ_ne_zero _) rfl (fun d=>DEq.refl _) (fun x=>(Bool.or_false x).symm)
  unfold drep
  rw [if_neg (by rw [e2]; decide),if_neg (by rw [e2]; decide),if_pos e2,e3]
 | 4,h1 =>
  cases h1
  obtain ⟨k,t,ks',g1,g2,g3,g4,rfl⟩:=parts_cons h3
  obtain ⟨k2,t2,ks2,g5,g6,g7,g8,rfl⟩:=parts_cons g4
  obtain ⟨k3,t3,ks3,g9,g10,g11,g12,rfl⟩:=parts_cons g8
  obtain ⟨k4,t4,ks4,g13,g14,g15,g16,rfl⟩:=parts_cons g12
  obtain ⟨rfl,rfl⟩:=parts_nil g16
  obtain ⟨rfl,c1,rfl⟩:=der_one (by decide) (fun x=>rfl) g3
  obtain ⟨rfl,c3,rfl⟩:=der_one (by decide) (fun x=>rfl) g11
  obtain ⟨e2,e3⟩:=next_one (by omega) c1
  have e2:dnext (s.drop i)=123:=e2
  obtain ⟨e4,e5⟩:=next_one (by omega) c3
  have e4:dnext (s.drop k2)=125:=e4
  obtain ⟨n,n1,n2,n3,n4,n5⟩:=der_num g7 (by omega) (by rw [e4]; rfl)
  have hlo:G.loOf ⟨81,4,[⟨123,0,[],123⟩,t2,⟨125,0,[],125⟩,t4],0⟩=(n:Int):=n2
  have hhi:G.hiOf ⟨81,4,[⟨123,0,[],123⟩,t2,⟨125,0,[],125⟩,t4],0⟩=(n:Int):=n2
  refine q_step (lo:=n) (hi:=n) (en:=false) (b:=false) hQ (by rw [e2]; decide) (by rw [e2]; rfl) ?_ g15 hj hd (by omega) (Nat.succ_ne_zero _) rfl (fun d=>?_) (fun x=>(Bool.or_false x).symm)
  ·unfold drep
   rw [if_neg (by rw [e2]; decide),if_neg (by rw [e2]; decide),if_neg (by rw [e2]; decide),e3]
   unfold dbounds
   rw [n1]
   simp only
   unfold dbounds1
   rw [if_neg (by rw [e4]; decide)]
   simp only
   rw [if_pos e4,e5,decide_eq_false (Nat.lt_irrefl _)]
  ·rw [hlo,hhi,decide_eq_false (by omega),Int.toNat_natCast]
   exact DEq.refl _
 | 5,h1 =>
  cases h1
  obtain ⟨k,t,ks',g1,g2,g3,g4,rfl⟩:=parts_cons h3
  obtain ⟨k2,t2,ks2,g5,g6,g7,g8,rfl⟩:=parts_cons g4
  obtain ⟨k3,t3,ks3,g9,g10,g11,g12,rfl⟩:=parts_cons g8
  obtain ⟨k4,t4,ks4,g13,g14,g15,g16,rfl⟩:=parts_cons g12
  obtain ⟨k5,t5,ks5,g17,g18,g19,g20,rfl⟩:=parts_cons g16
  obtain ⟨rfl,rfl⟩:=parts_nil g20
  obtain ⟨rfl,c1,rfl⟩:=der_one (by decide) (fun x=>rfl) g3
  obtain ⟨rfl,c3,rfl⟩:=der_one (by decide) (fun x=>rfl) g11
  obtain ⟨rfl,c4,rfl⟩:=der_one (by decide) (fun x=>rfl) g15
  obtain ⟨e2,e3⟩:=next_one (by omega) c1
  have e2:dnext (s.drop i)=123:=e2
  obtain ⟨e4,e5⟩:=next_one (by omega) c3
  have e4:dnext (s.drop k2)=44:=e4
  obtain ⟨e6,e7⟩:=next_one (by omega) c4
  have e6:dnext (s.drop (k2 + 1))=125:=e6
  obtain ⟨n,n1,n2,n3,n4,n5⟩:=der_num g7 (by omega) (by rw [e4]; rfl)
  have hlo:G.loOf ⟨81,5,[⟨123,0,[],123⟩,t2,⟨44,0,[],44⟩,⟨125,0,[],125⟩,t5],0⟩=(n:Int):=n2
  have hhi:G.hiOf ⟨81,5,[⟨123,0,[],123⟩,t2,⟨44,0,[],44⟩,⟨125,0,[],125⟩,t5],0⟩ = -1:=rfl
  refine q_step (lo:=n) (hi:=n) (en:=true) (b:=false) hQ (by rw [e2]; decide) (by rw [e2]; rfl) ?_ g19 hj hd (by omega) (Nat.succ_ne_zero _) rfl (fun d=>?_) (fun x=>(Bool.or_false x).symm)
  ·unfold drep
   rw [if_neg (by rw [e2]; decide),if_neg (by rw [e2]; decide),if_neg (by rw [e2]; decide),e3]
   unfold dbounds
   rw [n1]
   simp only
   unfold dbounds1
   rw [if_pos e4,e5,if_neg (by rw [e6]; decide)]
   simp only
   rw [if_pos e6,e7,decide_eq_false (Nat.lt_irrefl _)]
  ·rw [hlo,hhi,decide_eq_true (by decide),Int.toNat_natCast]
   exact rep_endless d n n _
 | 6,h1 =>
  cases h1
  obtain ⟨k,t,ks',g1,g2,g3,g4,rfl⟩:=parts_cons h3
  obtain ⟨k2,t2,ks2,g5,g6,g7,g8,rfl⟩:=parts_cons g4
  obtain ⟨k3,t3,ks3,g9,g10,g11,g12,rfl⟩:=parts_cons g8
  obtain ⟨k4,t4,ks4,g13,g14,g15,g16,rfl⟩:=parts_cons g12
  obtain ⟨k5,t5,ks5,g17,g18,g19,g20,rfl⟩:=parts_cons g16
  obtain ⟨k6,t6,ks6,g21,g22,g23,g24,rfl⟩:=parts_cons g20
  obtain ⟨rfl,rfl⟩:=parts_nil g24
  obtain ⟨rfl,c1,rfl⟩:=der_one (by decide) (fun x=>rfl) g3
  obtain ⟨rfl,c3,rfl⟩:=der_one (by decide) (fun x=>rfl) g11
  obtain ⟨rfl,c4,rfl⟩:=der_one (by decide) (fun x=>rfl) g19
  obtain ⟨e2,e3⟩:=next_one (by omega) c1
  have e2:dnext (s.drop i)=123:=e2
  obtain ⟨e4,e5⟩:=next_one (by omega) c3
  have e4:dnext (s.drop k2)=44:=e4
  obtain ⟨e6,e7⟩:=next_one (by omega) c4
  have e6:dnext (s.drop k4)=125:=e6
  obtain ⟨n,n1,n2,n3,n4,n5⟩:=der_num g7 (by omega) (by rw [e4]; rfl)
  obtain ⟨n',p1,p2,p3,p4,p5⟩:=der_num g15 (by omega) (by rw [e6]; rfl)
  have hlo:G.loOf ⟨81,6,[⟨123,0,[],123⟩,t2,⟨44,0,[],44⟩,t4,⟨125,0,[],125⟩,t6],0⟩=(n:Int):=n2
  have hhi:G.hiOf ⟨81,6,[⟨123,0,[],123⟩,t2,⟨44,0,[],44⟩,t4,⟨125,0,[],125⟩,t6],0⟩=(n':Int):=p2
  refine q_step (lo:=n) (hi:=n') (en:=false) (b:=decide (n'<n)) hQ (by rw [e2]; decide) (by rw [e2]; rfl) ?_ g23 hj hd (by omega) (Nat.succ_ne_zero _) rfl (fun d=>?_) (fun x=>?_)
  ·unfold drep
   rw [if_neg (by rw [e2]; decide),if_neg (by rw [e2]; decide),if_neg (by rw [e2]; decide),e3]
   unfold dbounds
   rw [n1]
   simp only
   unfold dbounds1
   rw [if_pos e4,e5,if_pos p5,p1]
   simp only
   rw [if_pos e6,e7]
  ·rw [hlo,hhi,decide_eq_false (by omega),Int.toNat_natCast,Int.toNat_natCast]
   exact DEq.refl _
  ·unfold G.backOf
   rw [if_pos rfl,hlo,hhi]
   congr 1
   simp
 | n + 7,h1=>cases h1
theorem partT {s:List UInt8} {g:Nat} (hA:PartA s g):PartT s (g + 1):=by
 intro i j τ h hj
 obtain ⟨g',n,l,ks,e,h1,h2,h3,rfl⟩:=der_le h (by decide)
 have e:g'=g:=by omega
 subst e
 have leafMt:∀ (n:Nat) (ks:List G.Tr) (ins:List Bool) (b:Bool),(∀ deep st,G.exF (g' + 1) ⟨84,n,ks,0⟩ deep st=(⟨1,ins,[],0,0,st.n⟩,⟨st.n + 1,st.back || b,st.depth⟩))→Mt (g' + 1) ⟨84,n,ks,0⟩ (dByte ins) b 0:=by
  intro n ks ins b he deep st hst
  rw [he]
  exact ⟨rd_byte _ _,rfl,by show st.depth=_; omega⟩
 have leafRd:∀ (ins:List Bool) (b:Bool) (r1:List UInt8),dnext (s.drop i) ≠ 40→dleaf (s.drop i)=some (ins,b,r1)→Reads .term (s.drop i) (dByte ins) r1 b 0:=by
  intro ins b r1 hne hl
  refine ⟨1,dByte ins,?_,DEq.refl _⟩
  unfold dgo
  rw [if_neg hne,hl]
 match n,h1 with
 | 0,h1 =>
  cases h1
  obtain ⟨k,t,ks',g1,g2,g3,g4,rfl⟩:=parts_cons h3
  obtain ⟨rfl,rfl⟩:=parts_nil g4
  obtain ⟨rfl,c1,rfl⟩:=der_lit (by decide) g3
  obtain ⟨e2,e3⟩:=next_one (s:=s) (i:=i) (by omega) rfl
  have hsp:G.special.contains (s.getD i 0)=false:=by
   unfold G.cls at c1
   rw [if_neg (by decide),if_pos (by decide)] at c1
   simpa using c1
  have hsp2:∀ x,x ∈ G.special→s.getD i 0 ≠ x:=by
   intro x hx e
   rw [e] at hsp
   rw [List.contains_iff_mem.2 hx] at hsp
   cases hsp
  have n1:∀ x ∈ G.special,((s.getD i 0).toNat:Int) ≠ ((x.toNat:Nat):Int):=fun x hx=>byte_int (hsp2 x hx)
  have m1:((s.getD i 0).toNat:Int) ≠ 40:=n1 40 (by decide)
  have m2:((s.getD i 0).toNat:Int) ≠ 41:=n1 41 (by decide)
  have m3:((s.getD i 0).toNat:Int) ≠ 124:=n1 124 (by decide)
  have m4:((s.getD i 0).toNat:Int) ≠ 42:=n1 42 (by decide)
  have m5:((s.getD i 0).toNat:Int) ≠ 43:=n1 43 (by decide)
  have m6:((s.getD i 0).toNat:Int) ≠ 63:=n1 63 (by decide)
  have m7:((s.getD i 0).toNat:Int) ≠ 123:=n1 123 (by decide)
  have m8:((s.getD i 0).toNat:Int) ≠ 125:=n1 125 (by decide)
  have m9:((s.getD i 0).toNat:Int) ≠ 91:=n1 91 (by decide)
  have m10:((s.getD i 0).toNat:Int) ≠ 93:=n1 93 (by decide)
  have m11:((s.getD i 0).toNat:Int) ≠ 46:=n1 46 (by decide)
  have m12:((s.getD i 0).toNat:Int) ≠ 92:=n1 92 (by decide)
  have hst:stops (dnext (s.drop i))=false:=by
   rw [e2]
   unfold stops
   simp only [Bool.or_eq_false_iff,beq_eq_false_iff_ne]
   exact ⟨⟨⟨⟨⟨⟨⟨⟨by omega,m2⟩,m3⟩,m4⟩,m5⟩,m6⟩,m7⟩,m8⟩,m10⟩
  refine ⟨by omega,hst,dByte (ins0.set (s.getD i 0).toNat true),false,0,w_byte _,leafMt _ _ _ _ (fun deep st=>?_),leafRd _ _ _ (by rw [e2]; exact m1) ?_⟩
  ·show (_,_)=(_,_)
   rw [Bool.or_false]; rfl
  ·unfold dleaf
   rw [if_neg (by rw [hst]; decide),e2,if_neg m9,if_neg m11,if_neg m12,e3]
   rfl
 | 1,h1 =>
  cases h1
  obtain ⟨k,t,ks',g1,g2,g3,g4,rfl⟩:=parts_cons h3
  obtain ⟨k2,t2,ks2,g5,g6,g7,g8,rfl⟩:=parts_cons g4
  obtain ⟨k3,t3,ks3,g9,g10,g11,g12,rfl⟩:=parts_cons g8
  obtain ⟨rfl,rfl⟩:=parts_nil g12
  obtain ⟨rfl,c1,rfl⟩:=der_one (by decide) (fun x=>rfl) g3
  obtain ⟨rfl,c3,rfl⟩:=der_one (by decide) (fun x=>rfl) g11
  obtain ⟨e2,e3⟩:=next_one (by omega) c1
  have e2:dnext (s.drop i)=40:=e2
  obtain ⟨e4,e5⟩:=next_one (by omega) c3
  have e4:dnext (s.drop k2)=41:=e4
  obtain ⟨a1,d,b,m,w,a2,F,d',a3,a4⟩:=hA (i + 1) k2 t2 g7 (by omega) (.inr e4)
  refine ⟨by omega,by rw [e2]; rfl,d,b,m + 1,w,?_,⟨F + 1,d',?_,a4⟩⟩
  ·intro deep st hst
   obtain ⟨x1,x2,x3⟩:=a2 (deep + 1) { st with depth:=if st.depth<deep + 1 then deep + 1 else st.depth } (by show deep + 1≤(if st.depth<deep + 1 then deep + 1 else st.depth); split <;> omega)
   refine ⟨x1,x2,?_⟩
   refine x3.trans ?_
   show max (if st.depth<deep + 1 then deep + 1 else st.depth) (deep + 1 + m)=_
   split <;> omega
  ·unfold dgo
   rw [if_pos e2,e3,a3]
   simp only
   rw [if_pos e4,e5]
 | 2,h1 =>
  cases h1
  obtain ⟨k,t,ks',g1,g2,g3,g4,rfl⟩:=parts_cons h3
  obtain ⟨rfl,rfl⟩:=parts_nil g4
  obtain ⟨rfl,c1,rfl⟩:=der_one (by decide) (fun x=>rfl) g3
  obtain ⟨e2,e3⟩:=next_one (by omega) c1
  have e2:dnext (s.drop i)=46:=e2
  refine ⟨by omega,by rw [e2]; rfl,dByte (turn ins0),false,0,w_byte _,leafMt _ _ _ _ (fun deep st=>?_),leafRd _ _ _ (by rw [e2]; decide) ?_⟩
  ·show (_,_)=(_,_)
   rw [Bool.or_false,all_ins]
  ·unfold dleaf
   rw [if_neg (by rw [e2]; decide),e2,if_neg (by decide),if_pos rfl,e3]
 | 3,h1 =>
  cases h1
  obtain ⟨k,t,ks',g1,g2,g3,g4,rfl⟩:=parts_cons h3
  obtain ⟨k2,t2,ks2,g5,g6,g7,g8,rfl⟩:=parts_cons g4
  obtain ⟨rfl,rfl⟩:=parts_nil g8
  obtain ⟨rfl,c1,rfl⟩:=der_one (by decide) (fun x=>rfl) g3
  obtain ⟨rfl,c2,rfl⟩:=der_lit (by decide) g7
  obtain ⟨e2,e3⟩:=next_one (by omega) c1
  have e2:dnext (s.drop i)=92:=e2
  obtain ⟨e4,e5⟩:=next_one (s:=s) (i:=i + 1) (by omega) rfl
  refine ⟨by omega,by rw [e2]; rfl,dByte (ins0.set (s.getD (i + 1) 0).toNat true),false,0,w_byte _,leafMt _ _ _ _ (fun deep st=>?_),leafRd _ _ _ (by rw [e2]; decide) ?_⟩
  ·show (_,_)=(_,_)
   rw [Bool.or_false]; rfl
  ·unfold dleaf
   rw [if_neg (by rw [e2]; decide),e2,if_neg (by decide),if_neg (by decide),if_pos rfl,e3]
   unfold dany
   rw [e4,if_neg (by omega),e5]
   rfl
 | 4,h1 =>
  cases h1
  obtain ⟨k,t,ks',g1,g2,g3,g4,rfl⟩:=parts_cons h3
  obtain ⟨k2,t2,ks2,g5,g6,g7,g8,rfl⟩:=parts_cons g4
  obtain ⟨k3,t3,ks3,g9,g10,g11,g12,rfl⟩:=parts_cons g8
  obtain ⟨rfl,rfl⟩:=parts_nil g12
  obtain ⟨rfl,c1,rfl⟩:=der_one (by decide) (fun x=>rfl) g3
  obtain ⟨rfl,c3,rfl⟩:=der_one (by decide) (fun x=>rfl) g11
  obtain ⟨e2,e3⟩:=next_one (by omega) c1
  have e2:dnext (s.drop i)=91:=e2
  obtain ⟨e4,e5⟩:=next_one (by omega) c3
  have e4:dnext (s.drop k2)=93:=e4
  obtain ⟨q1,q2,q3,q4,i1,b1,r1,q5,q6,q7⟩:=der_items g' (i + 1) k2 t2 g7 (by omega) e4 ins0 false
  obtain ⟨e6,_⟩:=next_one (s:=s) (i:=i + 1) (by omega) rfl
  have hnot:dnext (s.drop (i + 1)) ≠ 94:=by
   rw [e6]
   refine byte_int (b:=94) fun e=>?_
   unfold G.skips at h2
   rw [e,decide_eq_true (by omega)] at h2
   cases h2
  refine ⟨by omega,by rw [e2]; rfl,dByte (G.itemsF g' t2 ins0 false).1,(G.itemsF g' t2 ins0 false).2,0,w_byte _,leafMt _ _ _ _ (fun deep st=>?_),leafRd _ _ _ (by rw [e2]; decide) ?_⟩
  ·show ((⟨1,(G.itemsF g' t2 ins0 st.back).1,[],0,0,st.n⟩,⟨st.n + 1,(G.itemsF g' t2 ins0 st.back).2,st.depth⟩):G.Rx × G.Mk)=_
   rw [itemsF_back]
  ·unfold dleaf
   rw [if_neg (by rw [e2]; decide),e2,if_pos rfl]
   unfold dcls
   rw [e3,if_neg hnot]
   unfold dcls1
   rw [q5]
   simp only
   have:=q7 (r1.length + 1) (by omega)
   rw [Bool.false_or] at this
   exact this
 | 5,h1 =>
  cases h1
  obtain ⟨k,t,ks',g1,g2,g3,g4,rfl⟩:=parts_cons h3
  obtain ⟨k0,t0,ks0,g13,g14,g15,g16,rfl⟩:=parts_cons g4
  obtain ⟨k2,t2,ks2,g5,g6,g7,g8,rfl⟩:=parts_cons g16
  obtain ⟨k3,t3,ks3,g9,g10,g11,g12,rfl⟩:=parts_cons g8
  obtain ⟨rfl,rfl⟩:=parts_nil g12
  obtain ⟨rfl,c1,rfl⟩:=der_one (by decide) (fun x=>rfl) g3
  obtain ⟨rfl,c2,rfl⟩:=der_one (by decide) (fun x=>rfl) g15
  obtain ⟨rfl,c3,rfl⟩:=der_one (by decide) (fun x=>rfl) g11
  obtain ⟨e2,e3⟩:=next_one (by omega) c1
  have e2:dnext (s.drop i)=91:=e2
  obtain ⟨e6,e7⟩:=next_one (by omega) c2
  have e6:dnext (s.drop (i + 1))=94:=e6
  obtain ⟨e4,e5⟩:=next_one (by omega) c3
  have e4:dnext (s.drop k2)=93:=e4
  obtain ⟨q1,q2,q3,q4,i1,b1,r1,q5,q6,q7⟩:=der_items g' (i + 1 + 1) k2 t2 g7 (by omega) e4 ins0 false
  refine ⟨by omega,by rw [e2]; rfl,dByte (turn (G.itemsF g' t2 ins0 false).1),(G.itemsF g' t2 ins0 false).2,0,w_byte _,leafMt _ _ _ _ (fun deep st=>?_),leafRd _ _ _ (by rw [e2]; decide) ?_⟩
  ·show ((⟨1,(G.itemsF g' t2 ins0 st.back).1.map (!·),[],0,0,st.n⟩,⟨st.n + 1,(G.itemsF g' t2 ins0 st.back).2,st.depth⟩):G.Rx × G.Mk)=_
   rw [itemsF_back]
   rfl
  ·unfold dleaf
   rw [if_neg (by rw [e2]; decide),e2,if_pos rfl]
   unfold dcls
   rw [e3,if_pos e6,e7]
   unfold dcls1
   rw [q5]
   simp only
   have:=q7 (r1.length + 1) (by omega)
   rw [Bool.false_or] at this
   rw [this]
 | n + 6,h1=>cases h1
theorem grammar_read (s:List UInt8):∀ f,PartA s f∧PartC s f∧PartR s f∧PartT s f∧PartQ s f
 | 0=>⟨fun _ _ _ h=>(by cases h),fun _ _ _ h=>(by cases h),fun _ _ _ h=>(by cases h),fun _ _ _ h=>(by cases h),fun _ _ _ h=>(by cases h)⟩
 | f + 1=>by
  obtain ⟨a,c,r,t,q⟩:=grammar_read s f
  exact ⟨partA c a,partC r c,partR t q,partT a,partQ q⟩
theorem der_read {s:List UInt8} {τ:G.Tr} (h:G.D s 65 0 s.length=some τ):∃ d b m,W d∧Mt (8 * s.length + 16) τ d b m∧Reads .alt s d [] b m:=by
 obtain ⟨_,d,b,m,w,h1,h2⟩:=(grammar_read s _).1 0 s.length τ h (Nat.le_refl _) (.inl (by rw [List.drop_length]; rfl))
 rw [List.drop_length,List.drop_zero] at h2
 exact ⟨d,b,m,w,h1,h2⟩
end Go.Proofs.Ytjmkkkfloalliab.Q
namespace Go.Proofs.Ytjmkkkfloalliab.Q
set_option linter.unusedVariables false
/-! to derive -/
theorem parts_nilk {rec:UInt8→Nat→Nat→Option G.Tr} (i:Nat):G.parts rec [] i i ≠ none:=by
 unfold G.parts
 rw [if_pos rfl]
 exact Option.some_ne_none _
theorem parts_mk {rec:UInt8→Nat→Nat→Option G.Tr} {x:UInt8} {l:List UInt8} {i k j:Nat} (h1:rec x i k ≠ none) (h2:G.parts rec l k j ≠ none) (hik:i≤k) (hkj:k≤j):G.parts rec (x :: l) i j ≠ none:=by
 unfold G.parts
 intro e
 have h:=List.findSome?_eq_none_iff.1 e k (List.mem_range'_1.2 ⟨hik,by omega⟩)
 have hl:¬ (l=[]∧k<j):=by
  rintro ⟨rfl,hk⟩
  unfold G.parts at h2
  rw [if_neg (by omega)] at h2
  exact h2 rfl
 rw [if_neg hl] at h
 cases e1:rec x i k with
 | none=>exact h1 e1
 | some t =>
  cases e2:G.parts rec l k j with
  | none=>exact h2 e2
  | some r=>rw [e1,Option.bind_some,e2] at h; cases h
theorem firstAlt_mk {rec:UInt8→Nat→Nat→Option G.Tr} {s:List UInt8} {sym:UInt8} {i j:Nat} {l:List UInt8} (hs:G.skips s l i j=false) (hp:G.parts rec l i j ≠ none):∀ (ls:List (List UInt8)) (a:Nat),l ∈ ls→G.firstAlt rec s sym i j ls a ≠ none
 | [],a,h=>by cases h
 | l' :: r,a,h=>by
  unfold G.firstAlt
  rcases List.mem_cons.1 h with rfl | h
  ·rw [if_neg (by rw [hs]; decide)]
   split
   ·exact Option.some_ne_none _
   ·next e=>exact absurd e hp
  ·split
   ·exact firstAlt_mk hs hp r (a + 1) h
   ·split
    ·exact Option.some_ne_none _
    ·exact firstAlt_mk hs hp r (a + 1) h
section
variable {s:List UInt8}
theorem D_mk {x:UInt8} {i j:Nat} {l:List UInt8} (hn:G.isNt x=true) (hij:i≤j) (hj:j≤s.length) (hl:l ∈ G.alts x) (hs:G.skips s l i j=false) (hp:G.parts (G.D s) l i j ≠ none):G.D s x i j ≠ none:=by
 rw [G.D_nt s x i j hn hij hj]
 exact firstAlt_mk hs hp _ _ hl
theorem D_lit {c:UInt8} {i:Nat} (hn:G.isNt c=false) (h:G.cls c (s.getD i 0)=true):G.D s c i (i + 1) ≠ none:=by
 rw [G.D_term s c i _ hn,if_pos ⟨rfl,h⟩]
 exact Option.some_ne_none _
theorem skips_no {l:List UInt8} {i j:Nat} (h:l ≠ [91,73,93]):G.skips s l i j=false:=by
 unfold G.skips
 rw [beq_eq_false_iff_ne.2 h,Bool.false_and]
theorem bg_nil (E:Nat):G.bg s E (G.O s E) [] E=true:=by simp [G.bg]
theorem bg_open {E:Nat} {x:UInt8} {l:List UInt8} {i:Nat} (h:G.O s E x i=true):G.bg s E (G.O s E) (x :: l) i=true:=by
 unfold G.bg
 rw [h,Bool.true_or]
theorem bg_step {E:Nat} {x:UInt8} {l:List UInt8} {i k:Nat} (h:G.D s x i k ≠ none) (hik:i≤k) (hk:k≤E) (g:G.bg s E (G.O s E) l k=true):G.bg s E (G.O s E) (x :: l) i=true:=by
 unfold G.bg
 rw [Bool.or_eq_true]
 right
 refine G.any_range_some _ _ _ k hik (by omega) ?_
 rw [Bool.and_eq_true]
 exact ⟨Option.isSome_iff_ne_none.2 h,g⟩
theorem O_mk {E:Nat} {x:UInt8} {i:Nat} {l:List UInt8} (hn:G.isNt x=true) (hi:i<E) (hl:l ∈ G.alts x) (hs:G.skips s l i E=false) (hb:G.bg s E (G.O s E) l i=true):G.O s E x i=true:=by
 rw [G.O_nt s E x i hn hi,List.any_eq_true]
 refine ⟨l,hl,?_⟩
 rw [hs,hb]; rfl
theorem O_up {E:Nat} {x y:UInt8} {i:Nat} {l:List UInt8} (hn:G.isNt x=true) (hi:i≤E) (hl:(y :: l) ∈ G.alts x) (hne:(y :: l) ≠ [91,73,93]) (h:G.O s E y i=true):G.O s E x i=true:=by
 rcases Nat.eq_or_lt_of_le hi with e | e
 ·rw [e]; exact G.O_end s E x
 ·exact O_mk hn e hl (skips_no hne) (bg_open h)
def Outc (s:List UInt8) (x:UInt8) (i:Nat) (τ:Rd):Prop:=i≤τ.at_∧τ.at_≤s.length∧((τ.wrong=true∧G.O s τ.at_ x i=true)∨(τ.wrong=false∧G.D s x i τ.at_ ≠ none∧i<τ.at_))
theorem outc_here {x:UInt8} {i:Nat} {τ:Rd} (h:τ.wrong=true) (e:τ.at_=i) (hi:i≤s.length):Outc s x i τ:=⟨by omega,by omega,.inl ⟨h,by rw [e]; exact G.O_end s i x⟩⟩
theorem byte_of {c:UInt8} {k:Int} (h:((c.toNat:Nat):Int)=k) (d:UInt8) (hd:((d.toNat:Nat):Int)=k):c=d:=UInt8.toNat_inj.1 (by omega)
theorem lit_of {σ:Rd} (c:UInt8) (hn:G.isNt c=false) (hc:∀ x,G.cls c x=(x == c)) (h:next s σ=((c.toNat:Nat):Int)):G.D s c σ.at_ (σ.at_ + 1) ≠ none:=by
 obtain ⟨_,h2,h3⟩:=next_lt (s:=s) (σ:=σ) (by rw [h]; omega)
 refine D_lit hn ?_
 rw [hc,beq_iff_eq]
 exact byte_of (h3.symm.trans h) c rfl
theorem digit_cls {c:UInt8} (h:isDigit ((c.toNat:Nat):Int)=true):G.cls 100 c=true:=by
 have:=isDigit_ne h
 unfold G.cls
 rw [if_pos (by decide),Bool.and_eq_true,decide_eq_true_eq,decide_eq_true_eq]
 exact ⟨UInt8.le_iff_toNat_le.2 (by show 48≤c.toNat; omega),UInt8.le_iff_toNat_le.2 (by show c.toNat≤57; omega)⟩
theorem number_out {σ:Rd} (hw:σ.wrong=false) (hl:σ.at_≤s.length):Outc s 78 σ.at_ (number s σ).2:=by
 unfold number
 by_cases h1:isDigit (next s σ)=false
 ·rw [if_pos h1]
  exact outc_here rfl rfl hl
 ·rw [if_neg h1]
  have h1:isDigit (next s σ)=true:=by simpa using h1
  obtain ⟨_,a2,a3⟩:=next_lt (s:=s) (σ:=σ) (digit_next h1)
  have d1:G.D s 100 σ.at_ (σ.at_ + 1) ≠ none:=D_lit (by decide) (digit_cls (by rw [← a3]; exact h1))
  by_cases h2:isDigit (next s (fwd σ))=true
  ·rw [if_pos h2]
   obtain ⟨_,b2,b3⟩:=next_lt (s:=s) (σ:=fwd σ) (digit_next h2)
   have b2:σ.at_ + 1<s.length:=b2
   have b3:next s (fwd σ)=((s.getD (σ.at_ + 1) 0).toNat:Int):=b3
   have d2:G.D s 100 (σ.at_ + 1) (σ.at_ + 1 + 1) ≠ none:=D_lit (by decide) (digit_cls (by rw [← b3]; exact h2))
   refine ⟨by show σ.at_≤σ.at_ + 1 + 1; omega,by show σ.at_ + 1 + 1≤_; omega,.inr ⟨hw,?_,by show σ.at_<σ.at_ + 1 + 1; omega⟩⟩
   show G.D s 78 σ.at_ (σ.at_ + 1 + 1) ≠ none
   exact D_mk (l:=[100,100]) (by decide) (by omega) (by omega) (by decide) (skips_no (by decide)) (parts_mk d1 (parts_mk d2 (parts_nilk _) (by omega) (by omega)) (by omega) (by omega))
  ·rw [if_neg h2]
   refine ⟨by show σ.at_≤σ.at_ + 1; omega,by show σ.at_ + 1≤_; omega,.inr ⟨hw,?_,by show σ.at_<σ.at_ + 1; omega⟩⟩
   show G.D s 78 σ.at_ (σ.at_ + 1) ≠ none
   exact D_mk (l:=[100]) (by decide) (by omega) (by omega) (by decide) (skips_no (by decide)) (parts_mk d1 (parts_nilk _) (by omega) (by omega))
theorem memberByte_out {σ:Rd} (hw:σ.wrong=false) (hl:σ.at_≤s.length):Outc s 66 σ.at_ (memberByte s σ).2:=by
 unfold memberByte
 by_cases h1:next s σ=92
 ·rw [if_pos h1]
  have d1:G.D s 92 σ.at_ (σ.at_ + 1) ≠ none:=lit_of 92 (by decide) (fun x=>rfl) h1
  obtain ⟨_,a2,a3⟩:=next_lt (s:=s) (σ:=σ) (by rw [h1]; decide)
  unfold anyByte
  by_cases h2:next s (fwd σ) = -1
  ·rw [if_pos h2]
   refine ⟨by show σ.at_≤σ.at_ + 1; omega,a2,.inl ⟨rfl,?_⟩⟩
   show G.O s (σ.at_ + 1) 66 σ.at_=true
   exact O_mk (l:=[92,120]) (by decide) (by omega) (by decide) (skips_no (by decide)) (bg_step d1 (by omega) (Nat.le_refl _) (bg_open (G.O_end s _ _)))
  ·rw [if_neg h2]
   obtain ⟨_,b2,b3⟩:=next_lt (s:=s) (σ:=fwd σ) h2
   have b2:σ.at_ + 1<s.length:=b2
   refine ⟨by show σ.at_≤σ.at_ + 1 + 1; omega,b2,.inr ⟨hw,?_,by show σ.at_<σ.at_ + 1 + 1; omega⟩⟩
   show G.D s 66 σ.at_ (σ.at_ + 1 + 1) ≠ none
   exact D_mk (l:=[92,120]) (by decide) (by omega) (by omega) (by decide) (skips_no (by decide)) (parts_mk d1 (parts_mk (D_lit (by decide) rfl) (parts_nilk _) (by omega) (by omega)) (by omega) (by omega))
 ·rw [if_neg h1]
  by_cases h2:next s σ=93∨next s σ=45
  ·rw [if_pos h2]
   have h3:next s ({ σ with wrong:=true }:Rd) = -1:=next_wrong rfl
   unfold anyByte
   rw [if_pos h3]
   exact outc_here rfl rfl hl
  ·rw [if_neg h2]
   unfold anyByte
   by_cases h3:next s σ = -1
   ·rw [if_pos h3]
    exact outc_here rfl rfl hl
   ·rw [if_neg h3]
    obtain ⟨_,a2,a3⟩:=next_lt (s:=s) (σ:=σ) h3
    refine ⟨by show σ.at_≤σ.at_ + 1; omega,a2,.inr ⟨hw,?_,by show σ.at_<σ.at_ + 1; omega⟩⟩
    show G.D s 66 σ.at_ (σ.at_ + 1) ≠ none
    refine D_mk (l:=[109]) (by decide) (by omega) (by omega) (by decide) (skips_no (by decide)) (parts_mk (D_lit (by decide) ?_) (parts_nilk _) (by omega) (by omega))
    unfold G.cls
    rw [if_neg (by decide),if_neg (by decide),if_pos (by decide)]
    simp only [List.contains_cons,Bool.not_or,Bool.and_eq_true,Bool.not_eq_true',beq_eq_false_iff_ne,List.contains_nil,and_true,Bool.not_false]
    refine ⟨fun e=>h2 (.inl ?_),fun e=>h1 ?_,fun e=>h2 (.inr ?_)⟩
    ·rw [a3,e]; rfl
    ·rw [a3,e]; rfl
    ·rw [a3,e]; rfl
theorem member1_out {σ:Rd} (hw:σ.wrong=false) (hl:σ.at_≤s.length):Outc s 77 σ.at_ (member1 s σ).2.2:=by
 obtain ⟨o1,o2,o3⟩:=memberByte_out hw hl
 unfold member1
 rcases o3 with ⟨w1,p1⟩ | ⟨w1,p1,p2⟩
 ·rw [if_neg (by rw [next_wrong w1]; decide)]
  exact ⟨o1,o2,.inl ⟨w1,O_up (l:=[]) (by decide) o1 (by decide) (by decide) p1⟩⟩
 ·by_cases h1:next s (memberByte s σ).2=45
  ·rw [if_pos h1]
   have d1:=lit_of (s:=s) (σ:=(memberByte s σ).2) 45 (by decide) (fun x=>rfl) h1
   obtain ⟨_,a2,a3⟩:=next_lt (s:=s) (σ:=(memberByte s σ).2) (by rw [h1]; decide)
   obtain ⟨q1,q2,q3⟩:=memberByte_out (s:=s) (σ:=fwd (memberByte s σ).2) w1 a2
   have q1:(memberByte s σ).2.at_ + 1≤_:=q1
   refine ⟨by show σ.at_≤(memberByte s (fwd (memberByte s σ).2)).2.at_; omega,q2,?_⟩
   rcases q3 with ⟨w2,p3⟩ | ⟨w2,p3,p4⟩
   ·refine .inl ⟨w2,?_⟩
    exact O_mk (l:=[66,45,66]) (by decide) (by show σ.at_<(memberByte s (fwd (memberByte s σ).2)).2.at_; omega) (by decide) (skips_no (by decide)) (bg_step p1 o1 (by show (memberByte s σ).2.at_≤(memberByte s (fwd (memberByte s σ).2)).2.at_; omega) (bg_step d1 (by omega) q1 (bg_open p3)))
   ·refine .inr ⟨w2,?_,by show σ.at_<(memberByte s (fwd (memberByte s σ).2)).2.at_; omega⟩
    exact D_mk (l:=[66,45,66]) (by decide) (by show σ.at_≤(memberByte s (fwd (memberByte s σ).2)).2.at_; omega) q2 (by decide) (skips_no (by decide)) (parts_mk p1 (parts_mk d1 (parts_mk p3 (parts_nilk _) q1 (Nat.le_refl _)) (by omega) q1) o1 (by show (memberByte s σ).2.at_≤(memberByte s (fwd (memberByte s σ).2)).2.at_; omega))
  ·rw [if_neg h1]
   refine ⟨o1,o2,.inr ⟨w1,?_,p2⟩⟩
   exact D_mk (l:=[66]) (by decide) o1 o2 (by decide) (skips_no (by decide)) (parts_mk p1 (parts_nilk _) o1 (Nat.le_refl _))
theorem member_out {σ:Rd} (ins:List Bool) (hw:σ.wrong=false) (hl:σ.at_≤s.length):Outc s 77 σ.at_ (member s ins σ).2:=member1_out hw hl
theorem members_out:∀ (f:Nat) (ins:List Bool) (σ:Rd),σ.wrong=false→σ.at_≤s.length→left s σ<f →
    σ.at_≤(members s f ins σ).2.at_∧(members s f ins σ).2.at_≤s.length ∧
    (((members s f ins σ).2.wrong=true∧G.O s (members s f ins σ).2.at_ 73 σ.at_=true) ∨
     ((members s f ins σ).2.wrong=false∧∃ j,(members s f ins σ).2.at_=j + 1∧s.getD j 0=93∧(j=σ.at_∨(σ.at_<j∧G.D s 73 σ.at_ j ≠ none))))
 | 0,_,_,_,_,h=>by omega
 | f + 1,ins,σ,hw,hl,hf=>by
  unfold members
  rw [if_neg (by rw [hw]; decide)]
  by_cases h1:next s σ=93
  ·rw [if_pos h1]
   obtain ⟨_,a2,a3⟩:=next_lt (s:=s) (σ:=σ) (by rw [h1]; decide)
   refine ⟨by show σ.at_≤σ.at_ + 1; omega,a2,.inr ⟨hw,σ.at_,rfl,?_,.inl rfl⟩⟩
   exact byte_of (a3.symm.trans h1) 93 rfl
  ·rw [if_neg h1]
   obtain ⟨o1,o2,o3⟩:=member_out ins hw hl
   have adv:=member_adv (s:=s) ins σ
   rcases o3 with ⟨w1,p1⟩ | ⟨w1,p1,p2⟩
   ·have e:members s f (member s ins σ).1 (member s ins σ).2=((member s ins σ).1,(member s ins σ).2):=by
       cases f with
       | zero=>rfl
       | succ f=>unfold members; rw [if_pos w1]
    rw [e]
    exact ⟨o1,o2,.inl ⟨w1,O_up (l:=[]) (by decide) o1 (by decide) (by decide) p1⟩⟩
   ·have hadv:left s (member s ins σ).2<left s σ:=by
       rcases adv with g | g
       ·rw [w1] at g; cases g
       ·exact g
    obtain ⟨q1,q2,q3⟩:=members_out f (member s ins σ).1 (member s ins σ).2 w1 o2 (by omega)
    refine ⟨by omega,q2,?_⟩
    rcases q3 with ⟨w2,p3⟩ | ⟨w2,j,e1,e2,e3⟩
    ·refine .inl ⟨w2,?_⟩
     exact O_mk (l:=[77,73]) (by decide) (by omega) (by decide) (skips_no (by decide)) (bg_step p1 o1 q1 (bg_open p3))
    ·refine .inr ⟨w2,j,e1,e2,.inr ?_⟩
     rcases e3 with e3 | ⟨e3,e4⟩
     ·rw [e3]
      exact ⟨p2,D_mk (l:=[77]) (by decide) o1 (by omega) (by decide) (skips_no (by decide)) (parts_mk p1 (parts_nilk _) o1 (Nat.le_refl _))⟩
     ·exact ⟨by omega,D_mk (l:=[77,73]) (by decide) (by omega) (by omega) (by decide) (skips_no (by decide)) (parts_mk p1 (parts_mk e4 (parts_nilk _) (by omega) (Nat.le_refl _)) o1 (by omega))⟩
theorem items_out (F:Nat) (ins:List Bool) (σ:Rd) (hw:σ.wrong=false) (hl:σ.at_≤s.length) (hF:s.length<F) :
    σ.at_≤(members s F (member s ins σ).1 (member s ins σ).2).2.at_∧(members s F (member s ins σ).1 (member s ins σ).2).2.at_≤s.length ∧
    (((members s F (member s ins σ).1 (member s ins σ).2).2.wrong=true∧G.O s (members s F (member s ins σ).1 (member s ins σ).2).2.at_ 73 σ.at_=true) ∨
     ((members s F (member s ins σ).1 (member s ins σ).2).2.wrong=false∧∃ j,(members s F (member s ins σ).1 (member s ins σ).2).2.at_=j + 1∧s.getD j 0=93∧σ.at_<j∧G.D s 73 σ.at_ j ≠ none)):=by
 obtain ⟨o1,o2,o3⟩:=member_out ins hw hl
 rcases o3 with ⟨w1,p1⟩ | ⟨w1,p1,p2⟩
 ·have e:members s F (member s ins σ).1 (member s ins σ).2=((member s ins σ).1,(member s ins σ).2):=by
     cases F with
     | zero=>rfl
     | succ f=>unfold members; rw [if_pos w1]
  rw [e]
  exact ⟨o1,o2,.inl ⟨w1,O_up (l:=[]) (by decide) o1 (by decide) (by decide) p1⟩⟩
 ·obtain ⟨q1,q2,q3⟩:=members_out F (member s ins σ).1 (member s ins σ).2 w1 o2 (by unfold left; split <;> omega)
  refine ⟨by omega,q2,?_⟩
  rcases q3 with ⟨w2,p3⟩ | ⟨w2,j,e1,e2,e3⟩
  ·refine .inl ⟨w2,?_⟩
   exact O_mk (l:=[77,73]) (by decide) (by omega) (by decide) (skips_no (by decide)) (bg_step p1 o1 q1 (bg_open p3))
  ·refine .inr ⟨w2,j,e1,e2,?_⟩
   rcases e3 with e3 | ⟨e3,e4⟩
   ·rw [e3]
    exact ⟨p2,D_mk (l:=[77]) (by decide) o1 (by omega) (by decide) (skips_no (by decide)) (parts_mk p1 (parts_nilk _) o1 (Nat.le_refl _))⟩
   ·exact ⟨by omega,D_mk (l:=[77,73]) (by decide) (by omega) (by omega) (by decide) (skips_no (by decide)) (parts_mk p1 (parts_mk e4 (parts_nilk _) (by omega) (Nat.le_refl _)) o1 (by omega))⟩
end
end Go.Proofs.Ytjmkkkfloalliab.Q
namespace Go.Proofs.Ytjmkkkfloalliab.Q
set_option linter.unusedVariables false
variable {s:List UInt8}
theorem cls_out {σ:Rd} (hw:σ.wrong=false) (h0:next s σ=91) (ins:List Bool):Outc s 84 σ.at_ (cls s ins σ).2:=by
 have d1:=lit_of (s:=s) (σ:=σ) 91 (by decide) (fun x=>rfl) h0
 obtain ⟨_,a2,a3⟩:=next_lt (s:=s) (σ:=σ) (by rw [h0]; decide)
 unfold cls
 by_cases h1:next s (fwd σ)=94
 ·rw [if_pos h1]
  show Outc s 84 σ.at_ (members s (s.length + 1) (member s ins (fwd (fwd σ))).1 (member s ins (fwd (fwd σ))).2).2
  have d2:G.D s 94 (σ.at_ + 1) (σ.at_ + 1 + 1) ≠ none:=lit_of (s:=s) (σ:=fwd σ) 94 (by decide) (fun x=>rfl) h1
  obtain ⟨_,b2,b3⟩:=next_lt (s:=s) (σ:=fwd σ) (by rw [h1]; decide)
  have b2:σ.at_ + 1<s.length:=b2
  obtain ⟨q1,q2,q3⟩:=items_out (s.length + 1) ins (fwd (fwd σ)) hw b2 (by omega)
  have q1:σ.at_ + 1 + 1≤_:=q1
  refine ⟨by omega,q2,?_⟩
  rcases q3 with ⟨w2,p3⟩ | ⟨w2,j,e1,e2,e3,e4⟩
  ·refine .inl ⟨w2,?_⟩
   exact O_mk (l:=[91,94,73,93]) (by decide) (by show σ.at_<(members s _ _ _).2.at_; omega) (by decide) (skips_no (by decide)) (bg_step d1 (by omega) (by show σ.at_ + 1≤(members s _ _ _).2.at_; omega) (bg_step d2 (by omega) q1 (bg_open p3)))
  ·have e3:σ.at_ + 1 + 1<j:=e3
   have e4:G.D s 73 (σ.at_ + 1 + 1) j ≠ none:=e4
   refine .inr ⟨w2,?_,by omega⟩
   show G.D s 84 σ.at_ (members s _ _ _).2.at_ ≠ none
   rw [e1]
   have d3:G.D s 93 j (j + 1) ≠ none:=D_lit (by decide) (by rw [e2]; rfl)
   exact D_mk (l:=[91,94,73,93]) (by decide) (by omega) (by omega) (by decide) (skips_no (by decide)) (parts_mk d1 (parts_mk d2 (parts_mk e4 (parts_mk d3 (parts_nilk _) (by omega) (Nat.le_refl _)) (by omega) (by omega)) (by omega) (by omega)) (by omega) (by omega))
 ·rw [if_neg h1]
  have hskip:∀ E,E≤s.length→G.skips s [91,73,93] σ.at_ E=false:=by
   intro E hE
   unfold G.skips
   rw [Bool.and_eq_false_iff]
   right
   by_cases h2:σ.at_ + 1<E
   ·rw [Bool.and_eq_false_iff]
    right
    rw [beq_eq_false_iff_ne]
    intro e
    apply h1
    unfold next
    rw [if_neg (by rintro (g | g); (· rw [show (fwd σ).wrong=σ.wrong from rfl,hw] at g; cases g); (have:s.length≤σ.at_ + 1:=g; omega))]
    show ((s.getD (σ.at_ + 1) 0).toNat:Int)=94
    rw [e]; rfl
   ·rw [decide_eq_false h2]; rfl
  obtain ⟨q1,q2,q3⟩:=items_out (s.length + 1) ins (fwd σ) hw a2 (by omega)
  have q1:σ.at_ + 1≤_:=q1
  refine ⟨by omega,q2,?_⟩
  rcases q3 with ⟨w2,p3⟩ | ⟨w2,j,e1,e2,e3,e4⟩
  ·refine .inl ⟨w2,?_⟩
   exact O_mk (l:=[91,73,93]) (by decide) (by show σ.at_<(members s _ _ _).2.at_; omega) (by decide) (hskip _ q2) (bg_step d1 (by omega) q1 (bg_open p3))
  ·have e3:σ.at_ + 1<j:=e3
   have e4:G.D s 73 (σ.at_ + 1) j ≠ none:=e4
   refine .inr ⟨w2,?_,by omega⟩
   rw [e1]
   have d3:G.D s 93 j (j + 1) ≠ none:=D_lit (by decide) (by rw [e2]; rfl)
   exact D_mk (l:=[91,73,93]) (by decide) (by omega) (by omega) (by decide) (hskip _ (by omega)) (parts_mk d1 (parts_mk e4 (parts_mk d3 (parts_nilk _) (by omega) (Nat.le_refl _)) (by omega) (by omega)) (by omega) (by omega))
theorem leaf_out {σ:Rd} (hw:σ.wrong=false) (hl:σ.at_≤s.length) (h40:next s σ ≠ 40):Outc s 84 σ.at_ (leaf s σ).2:=by
 unfold leaf
 by_cases g:stops (next s σ)=true
 ·rw [if_pos g]
  exact outc_here rfl rfl hl
 rw [if_neg g]
 have g:stops (next s σ)=false:=by simpa using g
 have hn:=stops_none g
 obtain ⟨_,a2,a3⟩:=next_lt (s:=s) (σ:=σ) hn
 by_cases g1:next s σ=91
 ·rw [if_pos g1]
  exact cls_out hw g1 ins0
 rw [if_neg g1]
 by_cases g2:next s σ=46
 ·rw [if_pos g2]
  have d1:=lit_of (s:=s) (σ:=σ) 46 (by decide) (fun x=>rfl) g2
  refine ⟨by show σ.at_≤σ.at_ + 1; omega,a2,.inr ⟨hw,?_,by show σ.at_<σ.at_ + 1; omega⟩⟩
  show G.D s 84 σ.at_ (σ.at_ + 1) ≠ none
  exact D_mk (l:=[46]) (by decide) (by omega) a2 (by decide) (skips_no (by decide)) (parts_mk d1 (parts_nilk _) (by omega) (Nat.le_refl _))
 rw [if_neg g2]
 by_cases g3:next s σ=92
 ·rw [if_pos g3]
  have d1:=lit_of (s:=s) (σ:=σ) 92 (by decide) (fun x=>rfl) g3
  unfold anyByte
  by_cases h2:next s (fwd σ) = -1
  ·rw [if_pos h2]
   refine ⟨by show σ.at_≤σ.at_ + 1; omega,a2,.inl ⟨rfl,?_⟩⟩
   show G.O s (σ.at_ + 1) 84 σ.at_=true
   exact O_mk (l:=[92,120]) (by decide) (by omega) (by decide) (skips_no (by decide)) (bg_step d1 (by omega) (Nat.le_refl _) (bg_open (G.O_end s _ _)))
  ·rw [if_neg h2]
   obtain ⟨_,b2,b3⟩:=next_lt (s:=s) (σ:=fwd σ) h2
   have b2:σ.at_ + 1<s.length:=b2
   refine ⟨by show σ.at_≤σ.at_ + 1 + 1; omega,b2,.inr ⟨hw,?_,by show σ.at_<σ.at_ + 1 + 1; omega⟩⟩
   show G.D s 84 σ.at_ (σ.at_ + 1 + 1) ≠ none
   exact D_mk (l:=[92,120]) (by decide) (by omega) (by omega) (by decide) (skips_no (by decide)) (parts_mk d1 (parts_mk (D_lit (by decide) rfl) (parts_nilk _) (by omega) (by omega)) (by omega) (by omega))
 rw [if_neg g3]
 refine ⟨by show σ.at_≤σ.at_ + 1; omega,a2,.inr ⟨hw,?_,by show σ.at_<σ.at_ + 1; omega⟩⟩
 show G.D s 84 σ.at_ (σ.at_ + 1) ≠ none
 refine D_mk (l:=[108]) (by decide) (by omega) a2 (by decide) (skips_no (by decide)) (parts_mk (D_lit (by decide) ?_) (parts_nilk _) (by omega) (Nat.le_refl _))
 unfold stops at g
 simp only [Bool.or_eq_false_iff,beq_eq_false_iff_ne] at g
 obtain ⟨⟨⟨⟨⟨⟨⟨⟨k1,k2⟩,k3⟩,k4⟩,k5⟩,k6⟩,k7⟩,k8⟩,k9⟩:=g
 unfold G.cls
 rw [if_neg (by decide),if_pos (by decide)]
 have key:∀ x:UInt8,x ∈ G.special→s.getD σ.at_ 0 ≠ x:=by
  intro x hx e
  have a4:next s σ=((x.toNat:Nat):Int):=by rw [a3,e]
  simp only [G.special,List.mem_cons,List.not_mem_nil,or_false] at hx
  rcases hx with rfl | rfl | rfl | rfl | rfl | rfl | rfl | rfl | rfl | rfl | rfl | rfl
  ·exact h40 a4
  ·exact k2 a4
  ·exact k3 a4
  ·exact k4 a4
  ·exact k5 a4
  ·exact k6 a4
  ·exact k7 a4
  ·exact k8 a4
  ·exact g1 a4
  ·exact k9 a4
  ·exact g2 a4
  ·exact g3 a4
 cases e:G.special.contains (s.getD σ.at_ 0) with
 | false=>rfl
 | true=>exact absurd rfl (key _ (List.contains_iff_mem.1 e))
theorem number_digit {σ:Rd} (h:isDigit (next s σ)=true):(number s σ).2.wrong=σ.wrong:=by
 unfold number
 rw [if_neg (by rw [h]; decide)]
 split <;> rfl
def OutQ (s:List UInt8) (i:Nat) (τ:Rd):Prop:=i≤τ.at_∧τ.at_≤s.length∧((τ.wrong=true∧G.O s τ.at_ 81 i=true)∨(τ.wrong=false∧i<τ.at_∧(∀ j,τ.at_≤j→j≤s.length→G.D s 81 τ.at_ j ≠ none→G.D s 81 i j ≠ none)∧∀ E,τ.at_≤E→G.O s E 81 τ.at_=true→G.O s E 81 i=true))
theorem need_out {σ:Rd} (c:Int):(need s c σ).wrong=true∧(need s c σ).at_=σ.at_∧next s σ ≠ c∨(need s c σ)=fwd σ∧next s σ=c:=by
 unfold need
 by_cases h:next s σ=c
 ·rw [if_pos h]; exact .inr ⟨rfl,h⟩
 ·rw [if_neg h]; exact .inl ⟨rfl,rfl,h⟩
theorem sign_out {σ:Rd} (c:UInt8) (hw:σ.wrong=false) (hc:G.isNt c=false) (hc2:∀ x,G.cls c x=(x == c)) (hl:[c,81] ∈ G.alts 81) (hne:[c,81] ≠ [91,73,93]) (h:next s σ=((c.toNat:Nat):Int)):OutQ s σ.at_ (fwd σ):=by
 have d1:=lit_of (s:=s) (σ:=σ) c hc hc2 h
 obtain ⟨_,a2,a3⟩:=next_lt (s:=s) (σ:=σ) (by rw [h]; omega)
 refine ⟨by show σ.at_≤σ.at_ + 1; omega,a2,.inr ⟨hw,by show σ.at_<σ.at_ + 1; omega,fun j hj hjl hD=>?_,fun E hE hO=>?_⟩⟩
 ·have hj:σ.at_ + 1≤j:=hj
  exact D_mk (l:=[c,81]) (by decide) (by omega) hjl hl (skips_no hne) (parts_mk d1 (parts_mk hD (parts_nilk _) hj (Nat.le_refl _)) (by omega) hj)
 ·have hE:σ.at_ + 1≤E:=hE
  exact O_mk (l:=[c,81]) (by decide) (by omega) hl (skips_no hne) (bg_step d1 (by omega) hE (bg_open hO))
theorem repPart_out {σ:Rd} (n:Nat) (hw:σ.wrong=false) (hr:isRep (next s σ)=true):OutQ s σ.at_ (repPart s n σ).2:=by
 unfold repPart
 by_cases g1:next s σ=42
 ·rw [if_pos g1]
  exact sign_out 42 hw (by decide) (fun x=>rfl) (by decide) (by decide) g1
 rw [if_neg g1]
 by_cases g2:next s σ=43
 ·rw [if_pos g2]
  exact sign_out 43 hw (by decide) (fun x=>rfl) (by decide) (by decide) g2
 rw [if_neg g2]
 by_cases g3:next s σ=63
 ·rw [if_pos g3]
  exact sign_out 63 hw (by decide) (fun x=>rfl) (by decide) (by decide) g3
 rw [if_neg g3]
 have g4:next s σ=123:=by
  unfold isRep at hr
  simp only [Bool.or_eq_true,beq_iff_eq] at hr
  omega
 have d1:=lit_of (s:=s) (σ:=σ) 123 (by decide) (fun x=>rfl) g4
 obtain ⟨_,a2,a3⟩:=next_lt (s:=s) (σ:=σ) (by rw [g4]; decide)
 obtain ⟨o1,o2,o3⟩:=number_out (s:=s) (σ:=fwd σ) hw a2
 have o1:σ.at_ + 1≤_:=o1
 have close:∀ (τ:Rd) (b:Bool) (l:List UInt8),τ.wrong=false→σ.at_ + 1≤τ.at_→τ.at_≤s.length→(123 :: (l ++ [125,81])) ∈ G.alts 81→(123 :: (l ++ [125,81])) ≠ [91,73,93] →
     (∀ j r,τ.at_≤j→G.parts (G.D s) r τ.at_ j ≠ none→G.parts (G.D s) (123 :: (l ++ r)) σ.at_ j ≠ none)→(∀ E r,τ.at_≤E→G.bg s E (G.O s E) r τ.at_=true→G.bg s E (G.O s E) (123 :: (l ++ r)) σ.at_=true)→OutQ s σ.at_ (need s 125 { τ with back:=b }):=by
  intro τ b l hτ hle hlen hal hne hD hO
  rcases need_out (s:=s) (σ:={ τ with back:=b }) 125 with ⟨w1,e1,_⟩ | ⟨e1,h1⟩
  ·have e1:(need s 125 { τ with back:=b }).at_=τ.at_:=e1
   refine ⟨by omega,by omega,.inl ⟨w1,?_⟩⟩
   rw [e1]
   exact O_mk (by decide) (by omega) hal (skips_no hne) (hO τ.at_ [125,81] (Nat.le_refl _) (bg_open (G.O_end s _ _)))
  ·rw [e1]
   have d2:G.D s 125 τ.at_ (τ.at_ + 1) ≠ none:=lit_of (s:=s) (σ:={ τ with back:=b }) 125 (by decide) (fun x=>rfl) h1
   obtain ⟨_,b2,_⟩:=next_lt (s:=s) (σ:={ τ with back:=b }) (by rw [h1]; decide)
   have b2:τ.at_<s.length:=b2
   refine ⟨by show σ.at_≤τ.at_ + 1; omega,b2,.inr ⟨hτ,by show σ.at_<τ.at_ + 1; omega,fun j hj hjl hDj=>?_,fun E hE hOE=>?_⟩⟩
   ·have hj:τ.at_ + 1≤j:=hj
    exact D_mk (by decide) (by omega) hjl hal (skips_no hne) (hD j [125,81] (by omega) (parts_mk d2 (parts_mk hDj (parts_nilk _) hj (Nat.le_refl _)) (by omega) hj))
   ·have hE:τ.at_ + 1≤E:=hE
    exact O_mk (by decide) (by omega) hal (skips_no hne) (hO E [125,81] (by omega) (bg_step d2 (by omega) hE (bg_open hOE)))
 unfold bounds bounds1
 rcases o3 with ⟨w1,p1⟩ | ⟨w1,p1,p2⟩
 ·rw [if_neg (by rw [next_wrong w1]; decide)]
  show OutQ s σ.at_ (need s 125 { (number s (fwd σ)).2 with back:=(number s (fwd σ)).2.back || decide ((number s (fwd σ)).1<(number s (fwd σ)).1) })
  rcases need_out (s:=s) (σ:={ (number s (fwd σ)).2 with back:=(number s (fwd σ)).2.back || decide ((number s (fwd σ)).1<(number s (fwd σ)).1) }) 125 with ⟨w2,e2,_⟩ | ⟨_,h2⟩
  ·have e2:(need s 125 { (number s (fwd σ)).2 with back:=(number s (fwd σ)).2.back || decide ((number s (fwd σ)).1<(number s (fwd σ)).1) }).at_=(number s (fwd σ)).2.at_:=e2
   refine ⟨by omega,by omega,.inl ⟨w2,?_⟩⟩
   show G.O s (need s 125 { (number s (fwd σ)).2 with back:=(number s (fwd σ)).2.back || decide ((number s (fwd σ)).1<(number s (fwd σ)).1) }).at_ 81 σ.at_=true
   rw [e2]
   exact O_mk (l:=[123,78,125,81]) (by decide) (by omega) (by decide) (skips_no (by decide)) (bg_step d1 (by omega) o1 (bg_open p1))
  ·rw [next_wrong (by exact w1)] at h2
   cases h2
 ·have p1:G.D s 78 (σ.at_ + 1) (number s (fwd σ)).2.at_ ≠ none:=p1
  by_cases h1:next s (number s (fwd σ)).2=44
  ·rw [if_pos h1]
   have d2:=lit_of (s:=s) (σ:=(number s (fwd σ)).2) 44 (by decide) (fun x=>rfl) h1
   obtain ⟨_,b2,_⟩:=next_lt (s:=s) (σ:=(number s (fwd σ)).2) (by rw [h1]; decide)
   by_cases h2:isDigit (next s (fwd (number s (fwd σ)).2))=true
   ·rw [if_pos h2]
    obtain ⟨r1,r2,r3⟩:=number_out (s:=s) (σ:=fwd (number s (fwd σ)).2) w1 b2
    have r1:(number s (fwd σ)).2.at_ + 1≤_:=r1
    have r4:(number s (fwd (number s (fwd σ)).2)).2.wrong=false∧G.D s 78 ((number s (fwd σ)).2.at_ + 1) (number s (fwd (number s (fwd σ)).2)).2.at_ ≠ none:=by
     rcases r3 with ⟨w,_⟩ | ⟨w,p,_⟩
     ·exfalso
      rw [number_digit h2,show (fwd (number s (fwd σ)).2).wrong=(number s (fwd σ)).2.wrong from rfl,w1] at w
      cases w
     ·exact ⟨w,p⟩
    refine close (number s (fwd (number s (fwd σ)).2)).2 _ [78,44,78] r4.1 (by omega) r2 (by decide) (by decide) (fun j r hj hp=>?_) (fun E r hE hb=>?_)
    ·exact parts_mk d1 (parts_mk p1 (parts_mk d2 (parts_mk r4.2 hp r1 hj) (by omega) (by omega)) o1 (by omega)) (by omega) (by omega)
    ·exact bg_step d1 (by omega) (by omega) (bg_step p1 o1 (by omega) (bg_step d2 (by omega) (by omega) (bg_step r4.2 r1 hE hb)))
   ·rw [if_neg h2]
    refine close (fwd (number s (fwd σ)).2) _ [78,44] w1 (by show σ.at_ + 1≤(number s (fwd σ)).2.at_ + 1; omega) b2 (by decide) (by decide) (fun j r hj hp=>?_) (fun E r hE hb=>?_)
    ·have hj:(number s (fwd σ)).2.at_ + 1≤j:=hj
     exact parts_mk d1 (parts_mk p1 (parts_mk d2 hp (by omega) hj) o1 (by omega)) (by omega) (by omega)
    ·have hE:(number s (fwd σ)).2.at_ + 1≤E:=hE
     exact bg_step d1 (by omega) (by omega) (bg_step p1 o1 (by omega) (bg_step d2 (by omega) hE hb))
  ·rw [if_neg h1]
   refine close (number s (fwd σ)).2 _ [78] w1 (by omega) o2 (by decide) (by decide) (fun j r hj hp=>?_) (fun E r hE hb=>?_)
   ·exact parts_mk d1 (parts_mk p1 hp o1 hj) (by omega) (by omega)
   ·exact bg_step d1 (by omega) (by omega) (bg_step p1 o1 hE hb)
end Go.Proofs.Ytjmkkkfloalliab.Q
