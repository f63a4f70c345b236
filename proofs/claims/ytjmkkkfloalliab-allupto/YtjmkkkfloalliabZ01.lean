import Derived.Test.YtjmkkkfloalliabZ00
namespace Go.Proofs.Ytjmkkkfloalliab.Q
set_option linter.unusedVariables false
open M (LF sl pre lo num row ahead)
variable {t:List UInt8} {P:Pat}
def Cl (t:List UInt8) (P:Pat) (w:Wk) (f:Nat→List UInt8) (k:Nat) (seen:UInt8→Prop):Prop :=
 ∀ i c,i<w.list.length→(i<k∨(i=k∧seen c))→Live t P (c :: f i)→∃ j,j<w.list.length∧f j=c :: f i
theorem Cl.mono {w:Wk} {f:Nat→List UInt8} {k:Nat} {seen seen':UInt8→Prop} (h:Cl t P w f k seen) (h2:∀ c,seen' c→seen c∨¬ Live t P (c :: f k)):Cl t P w f k seen':=by
 intro i c hi hc hl
 rcases hc with hc | ⟨rfl,hc⟩
 ·exact h i c hi (.inl hc) hl
 ·rcases h2 c hc with g | g
  ·exact h i c hi (.inr ⟨rfl,g⟩) hl
  ·exact absurd hl g
theorem Cl.one {w:Wk} {f:Nat→List UInt8} {k:Nat} (s:St) (x:Nat) (h:Inv t P w f k (seenTo t (f k) x)) (hcl:Cl t P w f k (seenTo t (f k) x)) (hk:k<w.list.length) (hs:IsSt t P s (f k))
    (h1:sl (row t 0) s.low≤x) (h2:x<sl (row t 0) s.high) :
    ∃ f',f' k=f k∧w.list.length≤(oneOn (ahead t) (row t 0) P false s x w).list.length∧Inv t P (oneOn (ahead t) (row t 0) P false s x w) f' k (seenTo t (f k) (x + 1))∧Cl t P (oneOn (ahead t) (row t 0) P false s x w) f' k (seenTo t (f k) (x + 1)):=by
 rw [hs.1] at h1
 rw [hs.2.1] at h2
 have hx:x<t.length:=Nat.lt_of_lt_of_le h2 (Q.sl_le _ _ _ (M.row_le t 0 (by omega)) (M.hi_le t _))
 have hpos:=M.slot_num t (f k) x h1 h2
 have hstep:∀ c,seenTo t (f k) (x + 1) c ↔ seenTo t (f k) x c∨c=(ahead t).getD x 0:=fun c=>by
  constructor
  ·rintro ⟨y,a,b,d⟩
   rcases Nat.lt_or_ge y x with g | g
   ·exact .inl ⟨y,a,g,d⟩
   ·have:y=x:=by omega
    subst this
    exact .inr d.symm
  ·rintro (⟨y,a,b,d⟩ | e)
   ·exact ⟨y,a,by omega,d⟩
   ·exact ⟨x,h1,by omega,e.symm⟩
 have hlen:=(oneOn_len (a:=ahead t) (h:=row t 0) (P:=P) (memo:=false) s x w).1
 unfold oneOn at hlen ⊢
 rw [hs.1,hs.2.1,hs.2.2] at hlen ⊢
 have hpl:aheadOf P (pl P (f k)) ((ahead t).getD x 0).toNat=pl P ((ahead t).getD x 0 :: f k):=rfl
 rw [hpl] at hlen ⊢
 by_cases hc:cntIn (ahead t) (sl (row t 0) (lo t (f k))) x ((ahead t).getD x 0)=0
 ·by_cases hz:pl P ((ahead t).getD x 0 :: f k) ≠ 0
  ·rw [if_pos ⟨hc,hz⟩] at hlen ⊢
   rw [M.LF_lo t (f k) x h1 h2 hc,M.cnt_num] at hlen ⊢
   have hns:=(cnt_seen t (f k) x _ h1 (by omega)).1 hc
   have hS:IsSt t P ⟨lo t ((ahead t).getD x 0 :: f k),lo t ((ahead t).getD x 0 :: f k) + num t ((ahead t).getD x 0 :: f k),pl P ((ahead t).getD x 0 :: f k),0⟩ ((ahead t).getD x 0 :: f k):=⟨rfl,rfl,rfl⟩
   generalize (⟨lo t ((ahead t).getD x 0 :: f k),lo t ((ahead t).getD x 0 :: f k) + num t ((ahead t).getD x 0 :: f k),pl P ((ahead t).getD x 0 :: f k),0⟩:St)=S at hS hlen ⊢
   have hadd:addS false w S=Q.put w S:=by unfold addS; rw [if_neg (fun g=>by cases g.1)]
   rw [hadd] at hlen ⊢
   have hput:=h.put hk ((ahead t).getD x 0) hns ⟨hpos,hz⟩ S hS
   have e:(fun d=>seenTo t (f k) x d∨d=(ahead t).getD x 0)=seenTo t (f k) (x + 1):=funext fun d=>propext (hstep d).symm
   refine ⟨fun j=>if j=w.list.length then (ahead t).getD x 0 :: f k else f j,if_neg (by omega),hlen,by rw [← e]; exact hput,?_⟩
   intro i c hi hcc hl
   have hlp:(Q.put w S).list.length=w.list.length + 1:=by simp [Q.put]
   have hil:i<w.list.length:=by rcases hcc with g | ⟨g,_⟩ <;> omega
   have hfi:(if i=w.list.length then (ahead t).getD x 0 :: f k else f i)=f i:=if_neg (by omega)
   simp only [hfi] at hl ⊢
   have old:(∃ j,j<w.list.length∧f j=c :: f i)→∃ j,j<(Q.put w S).list.length∧(if j=w.list.length then (ahead t).getD x 0 :: f k else f j)=c :: f i:=by
    rintro ⟨j,a,b⟩
    exact ⟨j,by omega,by rw [if_neg (by omega)]; exact b⟩
   rcases hcc with g | ⟨rfl,g⟩
   ·exact old (hcl i c hil (.inl g) hl)
   ·rcases (hstep c).1 g with g | g
    ·exact old (hcl i c hil (.inr ⟨rfl,g⟩) hl)
    ·exact ⟨w.list.length,by omega,by rw [if_pos rfl,g]⟩
  ·rw [if_neg (fun g=>hz g.2)] at hlen ⊢
   refine ⟨f,rfl,hlen,h.mono (fun c hcc=>(hstep c).2 (.inl hcc)) (fun c hcc=>?_),hcl.mono fun c hcc=>?_⟩
   ·rcases (hstep c).1 hcc with g | g
    ·exact .inl g
    ·subst g
     exact .inr (.inl fun hl=>hz hl.2)
   ·rcases (hstep c).1 hcc with g | g
    ·exact .inl g
    ·subst g
     exact .inr fun hl=>hz hl.2
 ·rw [if_neg (fun g=>hc g.1)] at hlen ⊢
  have hsn:seenTo t (f k) x ((ahead t).getD x 0):=Classical.byContradiction fun g=>hc ((cnt_seen t (f k) x _ h1 (by omega)).2 g)
  refine ⟨f,rfl,hlen,h.mono (fun c hcc=>(hstep c).2 (.inl hcc)) (fun c hcc=>?_),hcl.mono fun c hcc=>?_⟩
  ·rcases (hstep c).1 hcc with g | g
   ·exact .inl g
   ·subst g
    exact .inl hsn
  ·rcases (hstep c).1 hcc with g | g
   ·exact .inl g
   ·subst g
    exact .inl hsn
theorem Cl.to {w:Wk} {f:Nat→List UInt8} {k:Nat} (s:St) (h:Inv t P w f k (fun _=>False)) (hcl:Cl t P w f k (fun _=>False)) (hk:k<w.list.length) (hs:IsSt t P s (f k)):∀ d,sl (row t 0) s.low + d≤sl (row t 0) s.high →
    ∃ f',f' k=f k∧w.list.length≤(goTo (ahead t) (row t 0) P false s w d).list.length∧Inv t P (goTo (ahead t) (row t 0) P false s w d) f' k (seenTo t (f k) (sl (row t 0) s.low + d))∧Cl t P (goTo (ahead t) (row t 0) P false s w d) f' k (seenTo t (f k) (sl (row t 0) s.low + d))
 | 0,_=>by
  refine ⟨f,rfl,Nat.le_refl _,h.mono (fun c hc=>hc.elim) (fun c hc=>?_),hcl.mono fun c hc=>?_⟩
  ·obtain ⟨y,a,b,_⟩:=hc
   rw [hs.1] at b
   omega
  ·obtain ⟨y,a,b,_⟩:=hc
   rw [hs.1] at b
   omega
 | d + 1,hd=>by
  obtain ⟨f1,e1,l1,i1,c1⟩:=Cl.to s h hcl hk hs d (by omega)
  rw [← e1] at i1 hs c1
  obtain ⟨f2,e2,l2,i2,c2⟩:=Cl.one s _ i1 c1 (by omega) hs (by omega) (by omega)
  refine ⟨f2,by rw [e2,e1],Nat.le_trans l1 l2,?_,?_⟩
  ·rw [e1] at i2
   exact i2
  ·rw [e1] at c2
   exact c2
theorem Cl.on {w:Wk} {f:Nat→List UInt8} {k:Nat} (h:Inv t P w f k (fun _=>False)) (hcl:Cl t P w f k (fun _=>False)) (hk:k<w.list.length) :
    ∃ f',Inv t P (goOn (ahead t) (row t 0) P false (stAt w.list k) w) f' (k + 1) (fun _=>False)∧Cl t P (goOn (ahead t) (row t 0) P false (stAt w.list k) w) f' (k + 1) (fun _=>False):=by
 obtain ⟨hs,hl⟩:=h.st k hk
 have hle:sl (row t 0) (stAt w.list k).low≤sl (row t 0) (stAt w.list k).high:=sl_mono _ _ _ (by rw [hs.1,hs.2.1]; omega)
 obtain ⟨f',e,l,i,ci⟩:=Cl.to (stAt w.list k) h hcl hk hs (sl (row t 0) (stAt w.list k).high - sl (row t 0) (stAt w.list k).low) (by omega)
 refine ⟨f',⟨i.st,i.inj,fun j c u hj e2=>?_,fun j c hj hc hlc=>?_,i.top,i.chain⟩,fun j c hj hc hlc=>?_⟩
 ·obtain ⟨m,a,b,d⟩:=i.from_ j c u hj e2
  exact ⟨m,a,b,.inl (by rcases d with d | ⟨d,_⟩ <;> omega)⟩
 ·rcases hc with hc | ⟨_,hc⟩
  ·rcases Nat.lt_or_ge j k with g | g
   ·exact i.closed j c hj (.inl g) hlc
   ·have:j=k:=by omega
    subst this
    refine i.closed j c hj (.inr ⟨rfl,?_⟩) hlc
    rw [e] at hlc
    obtain ⟨y,a,b,d⟩:=M.num_slot t (f j) c hlc.1
    exact ⟨y,a,by rw [hs.2.1]; omega,d⟩
  ·exact hc.elim
 ·rcases hc with hc | ⟨_,hc⟩
  ·rcases Nat.lt_or_ge j k with g | g
   ·exact ci j c hj (.inl g) hlc
   ·have:j=k:=by omega
    subst this
    refine ci j c hj (.inr ⟨rfl,?_⟩) hlc
    rw [e] at hlc
    obtain ⟨y,a,b,d⟩:=M.num_slot t (f j) c hlc.1
    exact ⟨y,a,by rw [hs.2.1]; omega,d⟩
  ·exact hc.elim
theorem wks_cl:∀ k,(∃ f,Inv t P (wks t P false k) f k (fun _=>False)∧Cl t P (wks t P false k) f k (fun _=>False))∨(wks t P false k).list.length<k∧wks t P false k=wks t P false (k - 1)
 | 0=>.inl ⟨_,Inv.start false,fun i c hi hc _=>absurd hc (by simp)⟩
 | k + 1=>by
  by_cases h:k<(wks t P false k).list.length
  ·rcases wks_cl k with ⟨f,g,gc⟩ | ⟨g,_⟩
   ·obtain ⟨f',g',gc'⟩:=Cl.on g gc h
    refine .inl ⟨f',?_⟩
    rw [wks,if_pos h]
    exact ⟨g',gc'⟩
   ·omega
  ·refine .inr ?_
   rw [wks,if_neg h]
   exact ⟨by omega,rfl⟩
theorem full_cl:∃ f:Nat→List UInt8,(∀ j,j<steps t P false→Live t P (f j))∧(∀ i j,i<steps t P false→j<steps t P false→f i=f j→i=j)∧∀ u,Live t P u→∃ j,j<steps t P false∧f j=u:=by
 have key:∀ k,(wks t P false k).list.length≤k→∃ f i,(wks t P false k).list.length≤i∧Inv t P (wks t P false k) f i (fun _=>False)∧Cl t P (wks t P false k) f i (fun _=>False):=by
  intro k
  induction k with
  | zero=>intro h; exact ⟨_,0,h,Inv.start false,fun i c hi hc _=>absurd hc (by simp)⟩
  | succ k ih =>
   intro h
   rcases wks_cl (t:=t) (P:=P) (k + 1) with ⟨f,g⟩ | ⟨g1,g2⟩
   ·exact ⟨f,k + 1,h,g⟩
   ·rw [g2] at g1 ⊢
    exact ih (by simp at g1; omega)
 obtain ⟨f,i,hi,g,gc⟩:=key (most t.length) (wks_few _)
 refine ⟨f,fun j hj=>(g.st j hj).2,g.inj,fun u=>?_⟩
 induction u with
 | nil =>
  intro _
  obtain ⟨j,a,b⟩:=g.top
  exact ⟨j,a,b⟩
 | cons c u ih =>
  intro hl
  obtain ⟨j,a,b⟩:=ih (Live.tail t P hl)
  have a':j<(wks t P false (most t.length)).list.length:=a
  have:=gc j c a' (.inl (by omega)) (by rw [b]; exact hl)
  rw [b] at this
  exact this
theorem steps_false (W:List (List UInt8)) (hn:W.Nodup) (hW:∀ u,u ∈ W ↔ Live t P u):steps t P false=W.length:=by
 obtain ⟨f,h1,h2,h3⟩:=full_cl (t:=t) (P:=P)
 have hnd:((List.range (steps t P false)).map f).Nodup:=by
  rw [List.nodup_iff_pairwise_ne,List.pairwise_map]
  have:=List.nodup_range (n:=steps t P false)
  rw [List.nodup_iff_pairwise_ne] at this
  exact this.imp_of_mem (fun {a b} ha hb hne e=>hne (h2 a b (List.mem_range.1 ha) (List.mem_range.1 hb) e))
 have a1:=nodup_le ((List.range (steps t P false)).map f) W hnd (fun x hx=>by
  obtain ⟨j,hj,rfl⟩:=List.mem_map.1 hx
  exact (hW _).2 (h1 j (List.mem_range.1 hj)))
 have a2:=nodup_le W ((List.range (steps t P false)).map f) hn (fun x hx=>by
  obtain ⟨j,a,b⟩:=h3 x ((hW x).1 hx)
  exact List.mem_map.2 ⟨j,List.mem_range.2 a,b⟩)
 simp at a1 a2
 omega
theorem steps_memo (W:List (List UInt8)) (hn:W.Nodup) (hW:∀ u,u ∈ W ↔ Live t P u) (memo:Bool):steps t P memo≤W.length:=by
 obtain ⟨f,h⟩:=full_inv (t:=t) (P:=P) (memo:=memo)
 have hnd:((List.range (steps t P memo)).map f).Nodup:=by
  rw [List.nodup_iff_pairwise_ne,List.pairwise_map]
  have:=List.nodup_range (n:=steps t P memo)
  rw [List.nodup_iff_pairwise_ne] at this
  exact this.imp_of_mem (fun {a b} ha hb hne e=>hne (h.inj a b (List.mem_range.1 ha) (List.mem_range.1 hb) e))
 have a1:=nodup_le ((List.range (steps t P memo)).map f) W hnd (fun x hx=>by
  obtain ⟨j,hj,rfl⟩:=List.mem_map.1 hx
  exact (hW _).2 (h.st j (List.mem_range.1 hj)).2)
 simpa using a1
end Go.Proofs.Ytjmkkkfloalliab.Q
namespace Go.Proofs.Ytjmkkkfloalliab.M
set_option linter.unusedVariables false
def srt (t:List UInt8) (l:List Nat):Prop:=l.Pairwise (fun p q=>blt (t.drop p) (t.drop q)=true)
def insAt (s:List Nat) (k i:Nat):List Nat:=s.take k ++ i :: s.drop k
theorem insAt_length (s:List Nat) (k i:Nat) (hk:k≤s.length):(insAt s k i).length=s.length + 1:=by simp [insAt]; omega
theorem insAt_at (s:List Nat) (k i:Nat) (hk:k≤s.length):(insAt s k i).getD k 0=i:=by
 unfold insAt
 rw [List.getD_eq_getElem?_getD,List.getElem?_append_right (by simp; omega)]
 simp [Nat.min_eq_left hk]
theorem insAt_before (s:List Nat) (k i:Nat) (hk:k<s.length):(insAt s (k + 1) i).getD k 0=s.getD k 0:=by
 unfold insAt
 rw [List.getD_eq_getElem?_getD,List.getElem?_append_left (by simp; omega),List.getElem?_take,if_pos (by omega),← List.getD_eq_getElem?_getD]
theorem insAt_swap (s:List Nat) (k i:Nat) (hk:k<s.length):((insAt s (k + 1) i).set (k + 1) (s.getD k 0)).set k i=insAt s k i:=by
 unfold insAt
 have e1:s.take (k + 1)=s.take k ++ [s.getD k 0]:=by
  rw [List.take_succ_eq_append_getElem hk,List.getD_eq_getElem?_getD,List.getElem?_eq_getElem hk]; rfl
 have e2:s.drop k=s.getD k 0 :: s.drop (k + 1):=by
  rw [List.drop_eq_getElem_cons hk,List.getD_eq_getElem?_getD,List.getElem?_eq_getElem hk]; rfl
 have hl:(s.take k).length=k:=by simp; omega
 rw [e1,e2,List.append_assoc]
 have step:∀ (a:List Nat) (x y z:Nat) (r:List Nat),a.length=k→(((a ++ ([x] ++ y :: r)).set (k + 1) z).set k y)=a ++ y :: z :: r:=by
  intro a x y z r ha
  rw [List.set_append_right _ _ (by omega),List.set_append_right _ _ (by omega),ha]
  simp
 exact step _ _ _ _ _ hl
theorem insAt_perm (s:List Nat) (k i:Nat):(insAt s k i).Perm (i :: s):=by
 unfold insAt
 refine List.perm_middle.trans ?_
 rw [List.take_append_drop]
theorem insAt_end (s:List Nat) (i:Nat):insAt s s.length i=s ++ [i]:=by simp [insAt]
theorem insAt_srt (t:List UInt8) (s:List Nat) (k i:Nat) (hs:srt t s) (hk:k≤s.length) (ha:∀ q,q ∈ s.drop k→blt (t.drop i) (t.drop q)=true)
    (hb:k=0∨blt (t.drop (s.getD (k - 1) 0)) (t.drop i)=true):srt t (insAt s k i):=by
 unfold srt insAt at *
 have h0:(s.take k ++ s.drop k).Pairwise (fun p q=>blt (t.drop p) (t.drop q)=true):=by rw [List.take_append_drop]; exact hs
 rw [List.pairwise_append] at h0 ⊢
 obtain ⟨h1,h2,h3⟩:=h0
 have hlow:∀ p,p ∈ s.take k→blt (t.drop p) (t.drop i)=true:=by
  intro p hp
  rcases hb with rfl | hb
  ·simp at hp
  ·obtain ⟨j,hj,rfl⟩:=List.getElem_of_mem hp
   have hj':j<k:=by simp at hj; omega
   have hjs:j<s.length:=by omega
   rw [List.getElem_take]
   have hk1:k - 1<s.length:=by omega
   have hl:s.getD (k - 1) 0=s[k - 1]:=by rw [List.getD_eq_getElem?_getD,List.getElem?_eq_getElem hk1]; rfl
   rw [hl] at hb
   rcases Nat.lt_or_ge j (k - 1) with h | h
   ·exact blt_trans _ _ _ (List.pairwise_iff_getElem.1 hs j (k - 1) hjs hk1 h) hb
   ·have:j=k - 1:=by omega
    subst this; exact hb
 refine ⟨h1,List.pairwise_cons.2 ⟨ha,h2⟩,?_⟩
 intro p hp q hq
 rcases List.mem_cons.1 hq with rfl | hq
 ·exact hlow p hp
 ·exact h3 p hp q hq
theorem srt_row (t:List UInt8) (l:List Nat) (hs:srt t l) (hp:l.Perm (List.range (t.length + 1))) (r:Nat) (hr:r≤t.length):l.getD r 0≤t.length∧row t (l.getD r 0)=r:=by
 have hlen:l.length=t.length + 1:=by rw [hp.length_eq,List.length_range]
 have hrl:r<l.length:=by omega
 have hg:l.getD r 0=l[r]:=by rw [List.getD_eq_getElem?_getD,List.getElem?_eq_getElem hrl]; rfl
 rw [hg]
 refine ⟨by have:=List.mem_range.1 (hp.mem_iff.1 (List.getElem_mem hrl)); omega,?_⟩
 unfold row
 rw [← hp.countP_eq]
 have e:l=l.take r ++ l.drop r:=(List.take_append_drop r l).symm
 have hc:l.countP (fun q=>blt (t.drop q) (t.drop l[r]))=(l.take r).countP (fun q=>blt (t.drop q) (t.drop l[r])) + (l.drop r).countP (fun q=>blt (t.drop q) (t.drop l[r])):=by
  rw [← List.countP_append,List.take_append_drop]
 rw [hc]
 have h1:(l.take r).countP (fun q=>blt (t.drop q) (t.drop l[r]))=r:=by
  have:(l.take r).countP (fun q=>blt (t.drop q) (t.drop l[r]))=(l.take r).length:=by
   rw [List.countP_eq_length]
   intro q hq
   obtain ⟨j,hj,rfl⟩:=List.getElem_of_mem hq
   have hjr:j<r:=by simp at hj; omega
   rw [List.getElem_take]
   exact List.pairwise_iff_getElem.1 hs j r (by omega) hrl hjr
  rw [this,List.length_take]; omega
 have h2:(l.drop r).countP (fun q=>blt (t.drop q) (t.drop l[r]))=0:=by
  rw [List.countP_eq_zero]
  intro q hq
  obtain ⟨j,hj,rfl⟩:=List.getElem_of_mem hq
  rw [List.getElem_drop]
  rcases Nat.eq_zero_or_pos j with rfl | hjp
  ·simp [blt_irrefl]
  ·have:=List.pairwise_iff_getElem.1 hs r (r + j) hrl (by simp at hj; omega) (by omega)
   rw [blt_asymm _ _ this]; simp
 omega
def IsOrd (t:List UInt8) (l:List Nat):Prop:=l.length=t.length + 1∧∀ r,r≤t.length→l.getD r 0≤t.length∧row t (l.getD r 0)=r
theorem IsOrd.of (t:List UInt8) (l:List Nat) (hs:srt t l) (hp:l.Perm (List.range (t.length + 1))):IsOrd t l :=
 ⟨by rw [hp.length_eq,List.length_range],srt_row t l hs hp⟩
theorem IsOrd.at_row {t:List UInt8} {l:List Nat} (h:IsOrd t l) (p:Nat) (hp:p≤t.length):l.getD (row t p) 0=p:=by
 have:=h.2 (row t p) (row_le t p hp)
 exact row_inj t _ _ this.1 hp this.2
theorem ahead_take (t:List UInt8) (l:List Nat) (h:IsOrd t l) (i:Nat) (hi:i≤t.length) (h0:l.getD i 0 ≠ 0) :
    (ahead t).take (sl (row t 0) (i + 1))=(ahead t).take (sl (row t 0) i) ++ [t.getD (l.getD i 0 - 1) 0]:=by
 obtain ⟨hl,hr⟩:=h.2 i hi
 have hne:i ≠ row t 0:=by
  intro e
  have:=h.at_row 0 (by omega)
  rw [← e] at this
  exact h0 this
 have hs:sl (row t 0) (i + 1)=sl (row t 0) i + 1:=by unfold sl; split <;> split <;> omega
 have hp:l.getD i 0 - 1 + 1=l.getD i 0:=by omega
 have hsg:sig t (l.getD i 0 - 1)=sl (row t 0) i:=by unfold sig; rw [hp,hr]
 have hlt:l.getD i 0 - 1<t.length:=by omega
 have ha:=ahead_at t _ hlt
 rw [hsg] at ha
 have hsl:sl (row t 0) i<(ahead t).length:=by rw [ahead_length,← hsg]; exact sig_lt t _ hlt
 rw [hs,List.take_succ_eq_append_getElem hsl,← ha,List.getD_eq_getElem?_getD,List.getElem?_eq_getElem hsl]
 rfl
theorem ahead_skip (t:List UInt8) (l:List Nat) (h:IsOrd t l) (i:Nat) (hi:i≤t.length) (h0:l.getD i 0=0) :
    i=row t 0∧sl (row t 0) (i + 1)=sl (row t 0) i:=by
 obtain ⟨hl,hr⟩:=h.2 i hi
 rw [h0] at hr
 refine ⟨hr.symm,?_⟩
 unfold sl; split <;> split <;> omega
/-! loading,as the document's own answer does it -/
def ldRow (a:List UInt8) (h:Nat):Nat→Nat
 | 0=>0
 | i + 1=>if ldRow a h i=h then 0 else LF a (sl h (ldRow a h i))
def ldText (a:List UInt8) (h:Nat):Nat→List UInt8
 | 0=>[]
 | i + 1=>if ldRow a h i=h then ldText a h i else a.getD (sl h (ldRow a h i)) 0 :: ldText a h i
theorem ldRow_le (a:List UInt8) (h:Nat) (hh:h≤a.length):∀ i,ldRow a h i≤a.length
 | 0=>Nat.zero_le _
 | i + 1=>by
  unfold ldRow
  split
  ·omega
  ·next hne=>exact LF_le _ _ (sl_lt h _ _ hh (ldRow_le a h hh i) hne)
theorem ld_ahead (t:List UInt8):∀ i,i≤t.length→ldRow (ahead t) (row t 0) i=row t (t.length - i)∧ldText (ahead t) (row t 0) i=t.drop (t.length - i)
 | 0,_=>by simp [ldRow,ldText,row_end]
 | i + 1,hi=>by
  obtain ⟨h1,h2⟩:=ld_ahead t i (by omega)
  have e:t.length - i=(t.length - (i + 1)) + 1:=by omega
  have hlt:t.length - (i + 1)<t.length:=by omega
  have hne:ldRow (ahead t) (row t 0) i ≠ row t 0:=by rw [h1,e]; exact row_ne_whole t _ hlt
  have hsl:sl (row t 0) (ldRow (ahead t) (row t 0) i)=sig t (t.length - (i + 1)):=by rw [h1,e]; rfl
  unfold ldRow ldText
  rw [if_neg hne,if_neg hne,hsl,LF_row t _ hlt,ahead_at t _ hlt,h2]
  refine ⟨rfl,?_⟩
  rw [e,List.drop_eq_getElem_cons hlt,List.getD_eq_getElem?_getD,List.getElem?_eq_getElem hlt]
  rfl
def lastC (a:List UInt8) (h j:Nat):Int:=if j=h then -1 else ((a.getD (sl h j) 0).toNat:Int)
def lessC (a:List UInt8) (h r k:Nat):Nat:=(List.range k).countP (fun j=>decide (lastC a h j<lastC a h r) || (lastC a h j == lastC a h r && decide (j<r)))
theorem lessC_succ (a:List UInt8) (h r k:Nat):lessC a h r (k + 1)=lessC a h r k + if (decide (lastC a h k<lastC a h r) || (lastC a h k == lastC a h r && decide (k<r)))=true then 1 else 0:=by
 unfold lessC
 rw [List.range_succ,List.countP_append,List.countP_singleton]
theorem lessC_le (a:List UInt8) (h r k:Nat):lessC a h r k≤k:=by
 have:=List.countP_le_length (p:=fun j=>decide (lastC a h j<lastC a h r) || (lastC a h j == lastC a h r && decide (j<r))) (l:=List.range k)
 simpa [lessC] using this
theorem countP_split (P:Nat→Bool) (n h:Nat) (hh:h≤n):(List.range (n + 1)).countP P=(if P h=true then 1 else 0) + (List.range n).countP (fun k=>P (if h≤k then k + 1 else k)):=by
 obtain ⟨d,rfl⟩:∃ d,n=h + d:=⟨n - h,by omega⟩
 clear hh
 induction d with
 | zero =>
  rw [Nat.add_zero,List.range_succ,List.countP_append,List.countP_singleton,Nat.add_comm]
  congr 1
  exact countP_congr_of _ _ _ (fun x hx=>by have:=List.mem_range.1 hx; rw [if_neg (by omega)])
 | succ d ih =>
  rw [← Nat.add_assoc,List.range_succ,List.countP_append,ih,List.range_succ (n:=h + d),List.countP_append,List.countP_singleton,List.countP_singleton,if_pos (show h≤h + d by omega)]
  omega
theorem lessC_LF (a:List UInt8) (h r:Nat) (hh:h≤a.length) (hr:r≤a.length) (hne:r ≠ h):lessC a h r (a.length + 1)=LF a (sl h r):=by
 have hsl:=sl_lt h r a.length hh hr hne
 rw [LF_eq a (sl h r) (by omega),lessC,countP_split _ a.length h hh]
 have h1:(decide (lastC a h h<lastC a h r) || (lastC a h h == lastC a h r && decide (h<r)))=true:=by
  have e1:lastC a h h = -1:=by simp [lastC]
  have e2:lastC a h r=((a.getD (sl h r) 0).toNat:Int):=by simp only [lastC]; rw [if_neg hne]
  rw [e1,e2]
  have:decide ((-1:Int)<((a.getD (sl h r) 0).toNat:Int))=true:=by rw [decide_eq_true_iff]; omega
  rw [this]; rfl
 rw [if_pos h1]
 congr 1
 refine countP_congr_of _ _ _ (fun k hk=>?_)
 have hk':=List.mem_range.1 hk
 have e1:∀ j,j=(if h≤k then k + 1 else k)→lastC a h j=((a.getD k 0).toNat:Int)∧(j<r ↔ k<sl h r):=by
  intro j hj
  have hjh:j ≠ h:=by split at hj <;> omega
  have hs:sl h j=k:=by unfold sl; split at hj <;> (subst hj; split <;> omega)
  refine ⟨by simp only [lastC]; rw [if_neg hjh,hs],?_⟩
  rw [← hs]
  exact (sl_lt_iff h j r hjh hne).symm
 obtain ⟨g1,g2⟩:=e1 _ rfl
 have e2:lastC a h r=((a.getD (sl h r) 0).toNat:Int):=by simp only [lastC]; rw [if_neg hne]
 rw [g1,e2,Bool.eq_iff_iff]
 simp only [Bool.or_eq_true,decide_eq_true_eq,Bool.and_eq_true,beq_iff_eq,UInt8.lt_iff_toNat_lt,g2]
 rw [show (((a.getD k 0).toNat:Int)=((a.getD (sl h r) 0).toNat:Int)) ↔ a.getD k 0=a.getD (sl h r) 0 from ⟨fun e=>UInt8.toNat_inj.1 (by omega),fun e=>by rw [e]⟩]
 constructor
 ·rintro (h1 | h1)
  ·exact .inl (by omega)
  ·exact .inr h1
 ·rintro (h1 | h1)
  ·exact .inl (by omega)
  ·exact .inr h1
theorem lessC_whole (a:List UInt8) (h:Nat) (hh:h≤a.length):lessC a h h (a.length + 1)=0:=by
 unfold lessC
 rw [List.countP_eq_zero]
 intro j _
 have e1:lastC a h h = -1:=by simp [lastC]
 rw [e1]
 by_cases hj:j=h
 ·subst hj; simp [e1]
 ·have e2:lastC a h j=((a.getD (sl h j) 0).toNat:Int):=by simp only [lastC]; rw [if_neg hj]
  rw [e2]
  simp
end Go.Proofs.Ytjmkkkfloalliab.M
namespace Go.Proofs.Ytjmkkkfloalliab.G
set_option linter.unusedVariables false
structure Tr where
 sym:UInt8
 alt:Nat
 kids:List Tr
 c:UInt8
def symbols:List UInt8:=[65,67,82,81,78,84,73,77,66]
def isNt (c:UInt8):Bool:=symbols.contains c
def alts (sym:UInt8):List (List UInt8) :=
 if sym == 65 then [[67],[67,124,65]]
 else if sym == 67 then [[],[82,67]]
 else if sym == 82 then [[84,81]]
 else if sym == 81 then [[],[42,81],[43,81],[63,81],[123,78,125,81],[123,78,44,125,81],[123,78,44,78,125,81]]
 else if sym == 78 then [[100],[100,100]]
 else if sym == 84 then [[108],[40,65,41],[46],[92,120],[91,73,93],[91,94,73,93]]
 else if sym == 73 then [[77],[77,73]]
 else if sym == 77 then [[66],[66,45,66]]
 else if sym == 66 then [[109],[92,120]]
 else []
def special:List UInt8:=[40,41,124,42,43,63,123,125,91,93,46,92]
def cls (sym c:UInt8):Bool :=
 if sym == 100 then 48≤c && c≤57
 else if sym == 108 then !special.contains c
 else if sym == 109 then ![93,92,45].contains c
 else if sym == 120 then true
 else c == sym
def parts (rec:UInt8→Nat→Nat→Option Tr):List UInt8→Nat→Nat→Option (List Tr)
 | [],i,j=>if i=j then some [] else none
 | x :: l,i,j=>(List.range' i (j + 1 - i)).findSome? fun k=>if l=[]∧k<j then none else (rec x i k).bind fun t=>(parts rec l k j).map fun r=>t :: r
def skips (s:List UInt8) (l:List UInt8) (i j:Nat):Bool:=l == [91,73,93] && (decide (i + 1<j) && s.getD (i + 1) 0 == 94)
def firstAlt (rec:UInt8→Nat→Nat→Option Tr) (s:List UInt8) (sym:UInt8) (i j:Nat):List (List UInt8)→Nat→Option Tr
 | [],_=>none
 | l :: r,a=>if skips s l i j then firstAlt rec s sym i j r (a + 1) else
     match parts rec l i j with
     | some ks=>some ⟨sym,a,ks,0⟩
     | none=>firstAlt rec s sym i j r (a + 1)
def der (s:List UInt8):Nat→UInt8→Nat→Nat→Option Tr
 | 0,_,_,_=>none
 | f + 1,sym,i,j=>if isNt sym then firstAlt (der s f) s sym i j (alts sym) 0
     else if j=i + 1∧cls sym (s.getD i 0)=true then some ⟨sym,0,[],s.getD i 0⟩ else none
/-! why it ends -/
def rank (x:UInt8):Nat :=
 if x == 65 then 5 else if x == 67 then 4 else if x == 82 then 3 else if x == 84 then 2 else if x == 81 then 1 else if x == 73 then 4 else if x == 77 then 3 else if x == 66 then 2 else if x == 78 then 1 else 0
def mu (x:UInt8) (i j:Nat):Nat:=8 * (j - i) + rank x
theorem rank_lt (x:UInt8):rank x<8:=by
 unfold rank
 repeat (first | omega | split)
def solid (x:UInt8):Bool:=!(x == 65 || x == 67 || x == 81)
def okAlt (r:Nat):Bool→List UInt8→Bool
 | _,[]=>true
 | true,_ :: l=>okAlt r true l
 | false,x :: l=>(decide (rank x<r) || !isNt x) && okAlt r (solid x) l
theorem nt_cases {sym:UInt8} (hn:isNt sym=true):sym=65∨sym=67∨sym=82∨sym=81∨sym=78∨sym=84∨sym=73∨sym=77∨sym=66:=by
 unfold isNt symbols at hn
 simpa only [List.contains_cons,List.contains_nil,Bool.or_false,Bool.or_eq_true,beq_iff_eq] using hn
theorem alts_not {sym:UInt8} (hn:isNt sym=false):alts sym=[]:=by
 unfold isNt symbols at hn
 simp only [List.contains_cons,List.contains_nil,Bool.or_false,Bool.or_eq_false_iff] at hn
 obtain ⟨h1,h2,h3,h4,h5,h6,h7,h8,h9⟩:=hn
 unfold alts
 simp only [h1,h2,h3,h4,h5,h6,h7,h8,h9,Bool.false_eq_true,if_false]
theorem alts_ok (sym:UInt8):(alts sym).all (okAlt (rank sym) false)=true:=by
 cases hn:isNt sym with
 | false=>rw [alts_not hn]; rfl
 | true=>rcases nt_cases hn with h | h | h | h | h | h | h | h | h <;> subst h <;> decide
def Asks (s:List UInt8) (f g:UInt8→Nat→Nat→Option Tr) (m:Nat):Prop:=∀ x i j,i≤j→(mu x i j<m∨isNt x=false)→f x i j=g x i j
theorem findSome_congr {α β:Type} (f g:α→Option β):∀ l:List α,(∀ x,x ∈ l→f x=g x)→l.findSome? f=l.findSome? g
 | [],_=>rfl
 | x :: l,h=>by
  rw [List.findSome?_cons,List.findSome?_cons,h x List.mem_cons_self,findSome_congr f g l (fun y hy=>h y (List.mem_cons_of_mem _ hy))]
theorem parts_congr (s:List UInt8) (f g:UInt8→Nat→Nat→Option Tr) (r i0 j:Nat) (hr:r<8) (hfg:Asks s f g (8 * (j - i0) + r)) (hsolid:∀ x i,solid x=true→f x i i=none) :
    ∀ (l:List UInt8) (pr:Bool) (i:Nat),okAlt r pr l=true→i0≤i→(pr=true→i0<i)→i≤j→parts f l i j=parts g l i j
 | [],_,_,_,_,_,_=>rfl
 | x :: l,pr,i,hok,h0,hpr,hij=>by
  unfold parts
  refine findSome_congr _ _ _ (fun k hk=>?_)
  rw [List.mem_range'_1] at hk
  have hask:f x i k=g x i k:=by
   refine hfg x i k hk.1 ?_
   cases pr with
   | true =>
    left
    have:=hpr rfl
    have h2:=rank_lt x
    unfold mu
    omega
   | false =>
    simp only [okAlt,Bool.and_eq_true,Bool.or_eq_true,decide_eq_true_eq,Bool.not_eq_true'] at hok
    rcases hok.1 with h | h
    ·left; unfold mu; omega
    ·right; exact h
  rw [← hask]
  split
  ·rfl
  ·cases hf:f x i k with
   | none=>rfl
   | some t =>
    simp only [Option.bind_some]
    rw [parts_congr s f g r i0 j hr hfg hsolid l (pr || solid x) k ?_ (by omega) ?_ (by omega)]
    ·cases pr with
     | true=>simpa [okAlt] using hok
     | false=>simp only [okAlt,Bool.and_eq_true] at hok; simpa using hok.2
    ·intro h
     cases pr with
     | true=>have:=hpr rfl; omega
     | false =>
      simp only [Bool.false_or] at h
      rcases Nat.lt_or_ge i k with h3 | h3
      ·omega
      ·have:k=i:=by omega
       subst this
       rw [hsolid x k h] at hf
       cases hf
theorem firstAlt_congr (f g:UInt8→Nat→Nat→Option Tr) (s:List UInt8) (sym:UInt8) (i j:Nat):∀ (ls:List (List UInt8)) (a:Nat),(∀ l,l ∈ ls→parts f l i j=parts g l i j)→firstAlt f s sym i j ls a=firstAlt g s sym i j ls a
 | [],_,_=>rfl
 | l :: r,a,h=>by
  unfold firstAlt
  rw [h l List.mem_cons_self,firstAlt_congr f g s sym i j r (a + 1) (fun x hx=>h x (List.mem_cons_of_mem _ hx))]
theorem parts_solid (rec:UInt8→Nat→Nat→Option Tr) (x:UInt8) (l:List UInt8) (i:Nat) (h:rec x i i=none):parts rec (x :: l) i i=none:=by
 unfold parts
 rw [show i + 1 - i=1 from by omega]
 simp [h]
theorem firstAlt_none (rec:UInt8→Nat→Nat→Option Tr) (s:List UInt8) (sym:UInt8) (i j:Nat):∀ (ls:List (List UInt8)) (a:Nat),(∀ l,l ∈ ls→parts rec l i j=none)→firstAlt rec s sym i j ls a=none
 | [],_,_=>rfl
 | l :: r,a,h=>by
  unfold firstAlt
  rw [h l List.mem_cons_self]
  simp only
  rw [firstAlt_none rec s sym i j r (a + 1) (fun x hx=>h x (List.mem_cons_of_mem _ hx))]
  split <;> rfl
theorem alts_solid (sym:UInt8) (hs:solid sym=true) (hn:isNt sym=true):(alts sym).all (fun l=>match l with | []=>false | x :: _=>solid x && (decide (rank x<rank sym) || !isNt x))=true:=by
 unfold isNt symbols at hn
 simp only [List.contains_cons,List.contains_nil,Bool.or_false,Bool.or_eq_true,beq_iff_eq] at hn
 rcases hn with h | h | h | h | h | h | h | h | h <;> subst h <;> first | (revert hs; decide) | decide
theorem der_solid (s:List UInt8):∀ (f:Nat) (x:UInt8) (i:Nat),solid x=true→der s f x i i=none
 | 0,_,_,_=>rfl
 | f + 1,x,i,hx=>by
  unfold der
  cases hn:isNt x with
  | false =>
   simp only [Bool.false_eq_true,if_false]
   rw [if_neg (by omega)]
  | true =>
   simp only [if_true]
   refine firstAlt_none _ _ _ _ _ _ _ (fun l hl=>?_)
   have:=List.all_eq_true.1 (alts_solid x hx hn) l hl
   match l,this with
   | y :: r,h =>
    simp only [Bool.and_eq_true] at h
    exact parts_solid _ y r i (der_solid s f y i h.1)
theorem der_term (s:List UInt8) (f:Nat) (x:UInt8) (i j:Nat) (h:isNt x=false):der s (f + 1) x i j=if j=i + 1∧cls x (s.getD i 0)=true then some ⟨x,0,[],s.getD i 0⟩ else none:=by
 unfold der; rw [h]; rfl
theorem der_stab (s:List UInt8):∀ (m:Nat) (x:UInt8) (i j:Nat),i≤j→(mu x i j<m∨(isNt x=false∧0<m))→der s m x i j=der s (m + 1) x i j
 | 0,_,_,_,_,h=>by omega
 | m + 1,x,i,j,hij,h=>by
  cases hn:isNt x with
  | false=>rw [der_term s m x i j hn,der_term s (m + 1) x i j hn]
  | true =>
   have hmu:mu x i j<m + 1:=by
    rcases h with h | h
    ·exact h
    ·rw [hn] at h; cases h.1
   rw [der,der,hn]
   simp only [if_true]
   refine firstAlt_congr _ _ _ _ _ _ _ _ (fun l hl=>?_)
   have hok:=List.all_eq_true.1 (alts_ok x) l hl
   refine parts_congr s _ _ (rank x) i j (rank_lt x) ?_ (fun y k hy=>der_solid s m y k hy) l false i hok (Nat.le_refl _) (fun h=>by cases h) hij
   intro y p q hpq hy
   refine der_stab s m y p q hpq ?_
   rcases hy with hy | hy
   ·left; unfold mu at hmu hy ⊢; omega
   ·right
    refine ⟨hy,?_⟩
    unfold mu at hmu
    have:1≤rank x:=by
     unfold isNt symbols at hn
     simp only [List.contains_cons,List.contains_nil,Bool.or_false,Bool.or_eq_true,beq_iff_eq] at hn
     rcases hn with h | h | h | h | h | h | h | h | h <;> subst h <;> decide
    omega
def D (s:List UInt8) (x:UInt8) (i j:Nat):Option Tr:=der s (8 * s.length + 16) x i j
theorem D_term (s:List UInt8) (x:UInt8) (i j:Nat) (h:isNt x=false):D s x i j=if j=i + 1∧cls x (s.getD i 0)=true then some ⟨x,0,[],s.getD i 0⟩ else none:=der_term s _ x i j h
theorem D_nt (s:List UInt8) (x:UInt8) (i j:Nat) (h:isNt x=true) (hij:i≤j) (hj:j≤s.length):D s x i j=firstAlt (D s) s x i j (alts x) 0:=by
 have hr:=rank_lt x
 have e:D s x i j=der s (8 * s.length + 16 + 1) x i j:=by
  unfold D
  exact der_stab s _ x i j hij (.inl (by unfold mu; omega))
 rw [e,der,h]
 rfl
theorem D_solid (s:List UInt8) (x:UInt8) (i:Nat) (h:solid x=true):D s x i i=none:=der_solid s _ x i h
end Go.Proofs.Ytjmkkkfloalliab.G
namespace Go.Proofs.Ytjmkkkfloalliab.G
set_option linter.unusedVariables false
def bg (s:List UInt8) (E:Nat) (op:UInt8→Nat→Bool):List UInt8→Nat→Bool
 | [],i=>i == E
 | x :: l,i=>op x i || (List.range' i (E + 1 - i)).any fun k=>(D s x i k).isSome && bg s E op l k
def opn (s:List UInt8) (E:Nat):Nat→UInt8→Nat→Bool
 | 0,_,_=>false
 | f + 1,y,i=>if i=E then true else if isNt y then (alts y).any (fun l=>!skips s l i E && bg s E (opn s E f) l i) else cls y (s.getD i 0) && (i + 1 == E)
def nu (E:Nat) (x:UInt8) (i:Nat):Nat:=8 * (E - i) + rank x
theorem any_congr {α:Type} (f g:α→Bool):∀ l:List α,(∀ x,x ∈ l→f x=g x)→l.any f=l.any g
 | [],_=>rfl
 | x :: l,h=>by rw [List.any_cons,List.any_cons,h x List.mem_cons_self,any_congr f g l (fun y hy=>h y (List.mem_cons_of_mem _ hy))]
theorem bg_congr (s:List UInt8) (E:Nat) (f g:UInt8→Nat→Bool) (r i0:Nat) (hr:r<8) (hfg:∀ x i,i≤E→(nu E x i<8 * (E - i0) + r∨isNt x=false)→f x i=g x i) :
    ∀ (l:List UInt8) (pr:Bool) (i:Nat),okAlt r pr l=true→i0≤i→(pr=true→i0<i)→i≤E→bg s E f l i=bg s E g l i
 | [],_,_,_,_,_,_=>rfl
 | x :: l,pr,i,hok,h0,hpr,hij=>by
  unfold bg
  have h1:f x i=g x i:=by
   refine hfg x i hij ?_
   cases pr with
   | true=>left; have:=hpr rfl; have h2:=rank_lt x; unfold nu; omega
   | false =>
    simp only [okAlt,Bool.and_eq_true,Bool.or_eq_true,decide_eq_true_eq,Bool.not_eq_true'] at hok
    rcases hok.1 with h | h
    ·left; unfold nu; omega
    ·right; exact h
  rw [h1]
  congr 1
  refine any_congr _ _ _ (fun k hk=>?_)
  rw [List.mem_range'_1] at hk
  cases hd:D s x i k with
  | none=>rfl
  | some t =>
   simp only [Option.isSome_some,Bool.true_and]
   refine bg_congr s E f g r i0 hr hfg l (pr || solid x) k ?_ (by omega) ?_ (by omega)
   ·cases pr with
    | true=>simpa [okAlt] using hok
    | false=>simp only [okAlt,Bool.and_eq_true] at hok; simpa using hok.2
   ·intro h
    cases pr with
    | true=>have:=hpr rfl; omega
    | false =>
     rcases Nat.lt_or_ge i k with h3 | h3
     ·omega
     ·have:k=i:=by omega
      subst this
      rw [D_solid s x k (by simpa using h)] at hd
      cases hd
theorem opn_term (s:List UInt8) (E f:Nat) (x:UInt8) (i:Nat) (h:isNt x=false):opn s E (f + 1) x i=if i=E then true else cls x (s.getD i 0) && (i + 1 == E):=by
 unfold opn; rw [h]; rfl
theorem rank_pos {x:UInt8} (hn:isNt x=true):1≤rank x:=by
 rcases nt_cases hn with h | h | h | h | h | h | h | h | h <;> subst h <;> decide
theorem opn_stab (s:List UInt8) (E:Nat):∀ (m:Nat) (x:UInt8) (i:Nat),i≤E→(nu E x i<m∨(isNt x=false∧0<m))→opn s E m x i=opn s E (m + 1) x i
 | 0,_,_,_,h=>by omega
 | m + 1,x,i,hij,h=>by
  cases hn:isNt x with
  | false=>rw [opn_term s E m x i hn,opn_term s E (m + 1) x i hn]
  | true =>
   have hmu:nu E x i<m + 1:=by
    rcases h with h | h
    ·exact h
    ·rw [hn] at h; cases h.1
   rw [opn,opn,hn]
   simp only [if_true]
   split
   ·rfl
   ·refine any_congr _ _ _ (fun l hl=>?_)
    congr 1
    have hok:=List.all_eq_true.1 (alts_ok x) l hl
    refine bg_congr s E _ _ (rank x) i (rank_lt x) ?_ l false i hok (Nat.le_refl _) (fun h=>by cases h) hij
    intro y p hp hy
    refine opn_stab s E m y p hp ?_
    rcases hy with hy | hy
    ·left; unfold nu at hmu hy ⊢; omega
    ·right
     have:=rank_pos hn
     unfold nu at hmu
     exact ⟨hy,by omega⟩
def O (s:List UInt8) (E:Nat) (x:UInt8) (i:Nat):Bool:=opn s E (8 * E + 16) x i
theorem O_end (s:List UInt8) (E:Nat) (x:UInt8):O s E x E=true:=by
 show opn s E (8 * E + 15 + 1) x E=true
 unfold opn
 rw [if_pos rfl]
theorem O_term (s:List UInt8) (E:Nat) (x:UInt8) (i:Nat) (h:isNt x=false) (hi:i ≠ E):O s E x i=(cls x (s.getD i 0) && (i + 1 == E)):=by
 show opn s E (8 * E + 15 + 1) x i=_
 rw [opn_term s E _ x i h,if_neg hi]
theorem O_nt (s:List UInt8) (E:Nat) (x:UInt8) (i:Nat) (h:isNt x=true) (hi:i<E):O s E x i=(alts x).any (fun l=>!skips s l i E && bg s E (O s E) l i):=by
 have hr:=rank_lt x
 have e:O s E x i=opn s E (8 * E + 16 + 1) x i:=opn_stab s E _ x i (by omega) (.inl (by unfold nu; omega))
 rw [e,opn,h,if_neg (by omega)]
 rfl
theorem any_range_none (f:Nat→Bool):∀ (n i:Nat),(∀ k,i≤k→k<i + n→f k=false)→(List.range' i n).any f=false
 | 0,_,_=>rfl
 | n + 1,i,h=>by
  rw [List.range'_succ,List.any_cons,h i (Nat.le_refl _) (by omega),Bool.false_or]
  exact any_range_none f n (i + 1) (fun k a b=>h k (by omega) (by omega))
theorem any_range_some (f:Nat→Bool) (n i k:Nat) (h1:i≤k) (h2:k<i + n) (h:f k=true):(List.range' i n).any f=true :=
 List.any_eq_true.2 ⟨k,List.mem_range'_1.2 ⟨h1,h2⟩,h⟩
end Go.Proofs.Ytjmkkkfloalliab.G
namespace Go.Proofs.Ytjmkkkfloalliab.G
set_option linter.unusedVariables false
def nilTr:Tr:=⟨0,0,[],0⟩
def kid (τ:Tr) (k:Nat):Tr:=(τ.kids[k]?).getD nilTr
def lastKid (τ:Tr):Tr:=(τ.kids[τ.kids.length - 1]?).getD nilTr
def Wf:Nat→Tr→Prop
 | 0,_=>False
 | f + 1,τ=>(isNt τ.sym=false∧τ.kids=[]∧cls τ.sym τ.c=true)∨(isNt τ.sym=true∧∃ l,(alts τ.sym)[τ.alt]?=some l∧τ.kids.map (·.sym)=l∧∀ k,k ∈ τ.kids→Wf f k)
theorem Wf.more:∀ (f:Nat) (τ:Tr),Wf f τ→Wf (f + 1) τ
 | 0,_,h=>h.elim
 | f + 1,τ,h=>by
  rcases h with h | ⟨h1,l,h2,h3,h4⟩
  ·exact .inl h
  ·exact .inr ⟨h1,l,h2,h3,fun k hk=>Wf.more f k (h4 k hk)⟩
theorem parts_wf (rec:UInt8→Nat→Nat→Option Tr) (P:Tr→Prop) (hrec:∀ x i j τ,rec x i j=some τ→τ.sym=x∧P τ):∀ (l:List UInt8) (i j:Nat) (ks:List Tr),parts rec l i j=some ks→ks.map (·.sym)=l∧∀ k,k ∈ ks→P k
 | [],i,j,ks,h=>by
  unfold parts at h
  split at h
  ·cases h; exact ⟨rfl,fun k hk=>by cases hk⟩
  ·cases h
 | x :: l,i,j,ks,h=>by
  unfold parts at h
  obtain ⟨k,hk,e⟩:=List.exists_of_findSome?_eq_some h
  split at e
  ·cases e
  ·cases ht:rec x i k with
   | none=>rw [ht] at e; cases e
   | some t =>
    rw [ht] at e
    simp only [Option.bind_some] at e
    cases hp:parts rec l k j with
    | none=>rw [hp] at e; cases e
    | some r =>
     rw [hp] at e
     simp only [Option.map_some,Option.some.injEq] at e
     obtain ⟨g1,g2⟩:=parts_wf rec P hrec l k j r hp
     obtain ⟨g3,g4⟩:=hrec x i k t ht
     rw [← e]
     refine ⟨by rw [List.map_cons,g1,g3],fun q hq=>?_⟩
     rcases List.mem_cons.1 hq with rfl | hq
     ·exact g4
     ·exact g2 q hq
theorem firstAlt_wf (rec:UInt8→Nat→Nat→Option Tr) (P:Tr→Prop) (hrec:∀ x i j τ,rec x i j=some τ→τ.sym=x∧P τ) (s:List UInt8) (sym:UInt8) (i j:Nat) (all:List (List UInt8)) :
    ∀ (ls:List (List UInt8)) (a:Nat) (τ:Tr),(∀ k,ls[k]?=all[a + k]?)→firstAlt rec s sym i j ls a=some τ→τ.sym=sym∧∃ l,all[τ.alt]?=some l∧τ.kids.map (·.sym)=l∧∀ k,k ∈ τ.kids→P k
 | [],_,_,_,h=>by cases h
 | l :: r,a,τ,hall,h=>by
  have hnext:∀ k,r[k]?=all[a + 1 + k]?:=by
   intro k
   have:=hall (k + 1)
   rw [List.getElem?_cons_succ] at this
   rw [this]; congr 1; omega
  unfold firstAlt at h
  split at h
  ·exact firstAlt_wf rec P hrec s sym i j all r (a + 1) τ hnext h
  ·cases hp:parts rec l i j with
   | none =>
    rw [hp] at h
    exact firstAlt_wf rec P hrec s sym i j all r (a + 1) τ hnext h
   | some ks =>
    rw [hp] at h
    simp only [Option.some.injEq] at h
    rw [← h]
    obtain ⟨g1,g2⟩:=parts_wf rec P hrec l i j ks hp
    refine ⟨rfl,l,?_,g1,g2⟩
    have:=hall 0
    simp at this
    exact this.symm
theorem der_wf (s:List UInt8):∀ (f:Nat) (x:UInt8) (i j:Nat) (τ:Tr),der s f x i j=some τ→τ.sym=x∧Wf f τ
 | 0,_,_,_,_,h=>by cases h
 | f + 1,x,i,j,τ,h=>by
  unfold der at h
  cases hn:isNt x with
  | false =>
   rw [hn] at h
   simp only [Bool.false_eq_true,if_false] at h
   split at h
   ·next hc =>
    simp only [Option.some.injEq] at h
    rw [← h]
    exact ⟨rfl,.inl ⟨hn,rfl,hc.2⟩⟩
   ·cases h
  | true =>
   rw [hn] at h
   simp only [if_true] at h
   obtain ⟨g1,l,g2,g3,g4⟩:=firstAlt_wf (der s f) (Wf f) (der_wf s f) s x i j (alts x) (alts x) 0 τ (fun k=>by rw [Nat.zero_add]) h
   refine ⟨g1,.inr ⟨by rw [g1]; exact hn,l,by rw [g1]; exact g2,g3,g4⟩⟩
theorem D_wf (s:List UInt8) (x:UInt8) (i j:Nat) (τ:Tr) (h:D s x i j=some τ):τ.sym=x∧Wf (8 * s.length + 16) τ:=der_wf s _ x i j τ h
structure Rx where
 kind:Nat
 ins:List Bool
 subs:List Rx
 lo:Int
 hi:Int
 id:Nat
structure Mk where
 n:Nat
 back:Bool
 depth:Nat
def memberC (τ:Tr):Nat:=(lastKid τ).c.toNat
def numberF (τ:Tr):Int:=τ.kids.foldl (fun n k=>10 * n + (k.c.toNat:Int) - 48) 0
def setRange (ins:List Bool) (a b:Nat):List Bool:=(List.range 256).map fun c=>ins.getD c false || (decide (a≤c) && decide (c≤b))
def itemA (τ:Tr):Nat:=memberC (kid (kid τ 0) 0)
def itemB (τ:Tr):Nat:=if (kid τ 0).kids.length=3 then memberC (kid (kid τ 0) 2) else itemA τ
def itemsF:Nat→Tr→List Bool→Bool→List Bool × Bool
 | 0,_,ins,back=>(ins,back)
 | f + 1,τ,ins,back=>if τ.alt=1 then itemsF f (kid τ 1) (setRange ins (itemA τ) (itemB τ)) (back || decide (itemB τ<itemA τ)) else (setRange ins (itemA τ) (itemB τ),back || decide (itemB τ<itemA τ))
def loOf (q:Tr):Int:=if 4≤q.alt then numberF (kid q 1) else if q.alt=2 then 1 else 0
def hiOf (q:Tr):Int:=if q.alt=6 then numberF (kid q 3) else if q.alt=4 then loOf q else if q.alt=3 then 1 else -1
def backOf (q:Tr) (b:Bool):Bool:=if q.alt=6 then b || decide (hiOf q<loOf q) else b
def timesF:Nat→Rx→Tr→Mk→Rx × Mk
 | 0,a,_,st=>(a,st)
 | f + 1,a,q,st=>if q.alt=0 then (a,st) else timesF f ⟨4,[],[a],loOf q,hiOf q,st.n⟩ (lastKid q) ⟨st.n + 1,backOf q st.back,st.depth⟩
def none256:List Bool:=List.replicate 256 false
def oneByte (c:Nat):List Bool:=none256.set c true
def all256:List Bool:=List.replicate 256 true
def exF:Nat→Tr→Nat→Mk→Rx × Mk
 | 0,_,_,st=>(⟨0,[],[],0,0,0⟩,st)
 | f + 1,τ,deep,st =>
  if τ.sym=65 then
   if τ.alt=0 then exF f (kid τ 0) deep st
   else (⟨3,[],[(exF f (kid τ 0) deep st).1,(exF f (kid τ 2) deep (exF f (kid τ 0) deep st).2).1],0,0,(exF f (kid τ 2) deep (exF f (kid τ 0) deep st).2).2.n⟩,
    { (exF f (kid τ 2) deep (exF f (kid τ 0) deep st).2).2 with n:=(exF f (kid τ 2) deep (exF f (kid τ 0) deep st).2).2.n + 1 })
  else if τ.sym=67 then
   if τ.alt=0 then (⟨0,[],[],0,0,st.n⟩,{ st with n:=st.n + 1 })
   else (⟨2,[],[(exF f (kid τ 0) deep st).1,(exF f (kid τ 1) deep (exF f (kid τ 0) deep st).2).1],0,0,(exF f (kid τ 1) deep (exF f (kid τ 0) deep st).2).2.n⟩,
    { (exF f (kid τ 1) deep (exF f (kid τ 0) deep st).2).2 with n:=(exF f (kid τ 1) deep (exF f (kid τ 0) deep st).2).2.n + 1 })
  else if τ.sym=82 then timesF f (exF f (kid τ 0) deep st).1 (kid τ 1) (exF f (kid τ 0) deep st).2
  else if τ.alt=1 then exF f (kid τ 1) (deep + 1) { st with depth:=if st.depth<deep + 1 then deep + 1 else st.depth }
  else if τ.alt=0 then (⟨1,oneByte (kid τ 0).c.toNat,[],0,0,st.n⟩,{ st with n:=st.n + 1 })
  else if τ.alt=2 then (⟨1,all256,[],0,0,st.n⟩,{ st with n:=st.n + 1 })
  else if τ.alt=3 then (⟨1,oneByte (kid τ 1).c.toNat,[],0,0,st.n⟩,{ st with n:=st.n + 1 })
  else if τ.alt=4 then (⟨1,(itemsF f (kid τ 1) none256 st.back).1,[],0,0,st.n⟩,{ st with n:=st.n + 1,back:=(itemsF f (kid τ 1) none256 st.back).2 })
  else (⟨1,(itemsF f (kid τ 2) none256 st.back).1.map (!·),[],0,0,st.n⟩,{ st with n:=st.n + 1,back:=(itemsF f (kid τ 2) none256 st.back).2 })
theorem setRange_len (ins:List Bool) (a b:Nat):(setRange ins a b).length=256:=by simp [setRange]
theorem itemsF_len:∀ (f:Nat) (τ:Tr) (ins:List Bool) (back:Bool),ins.length=256→(itemsF f τ ins back).1.length=256
 | 0,_,_,_,h=>h
 | f + 1,τ,ins,back,h=>by
  unfold itemsF
  split
  ·exact itemsF_len f _ _ _ (setRange_len _ _ _)
  ·exact setRange_len _ _ _
end Go.Proofs.Ytjmkkkfloalliab.G
namespace Go.Proofs.Ytjmkkkfloalliab.G
set_option linter.unusedVariables false
def RxOk (N:Nat):Nat→Rx→Prop
 | 0,_=>False
 | f + 1,r=>r.id<N∧(r.kind=0∨(r.kind=1∧r.ins.length=256)∨((r.kind=2∨r.kind=3)∧∃ a b,r.subs=[a,b]∧RxOk N f a∧RxOk N f b)∨(r.kind=4∧∃ a,r.subs=[a]∧RxOk N f a∧0≤r.lo∧r.lo≤99 ∧ -1≤r.hi∧r.hi≤99))
theorem RxOk.more (N:Nat):∀ (f:Nat) (r:Rx),RxOk N f r→RxOk N (f + 1) r
 | 0,_,h=>h.elim
 | f + 1,r,h=>by
  obtain ⟨h0,h⟩:=h
  refine ⟨h0,?_⟩
  rcases h with h | h | ⟨h,a,b,e,h1,h2⟩ | ⟨h,a,e,h1,h2⟩
  ·exact .inl h
  ·exact .inr (.inl h)
  ·exact .inr (.inr (.inl ⟨h,a,b,e,RxOk.more N f a h1,RxOk.more N f b h2⟩))
  ·exact .inr (.inr (.inr ⟨h,a,e,RxOk.more N f a h1,h2⟩))
theorem RxOk.le (N:Nat) (f:Nat) (r:Rx) (h:RxOk N f r):∀ d,RxOk N (f + d) r
 | 0=>h
 | d + 1=>RxOk.more N (f + d) r (RxOk.le N f r h d)
theorem RxOk.up {N M:Nat} (hM:N≤M):∀ (f:Nat) (r:Rx),RxOk N f r→RxOk M f r
 | 0,_,h=>h.elim
 | f + 1,r,h=>by
  obtain ⟨h0,h⟩:=h
  refine ⟨Nat.lt_of_lt_of_le h0 hM,?_⟩
  rcases h with h | h | ⟨h,a,b,e,h1,h2⟩ | ⟨h,a,e,h1,h2⟩
  ·exact .inl h
  ·exact .inr (.inl h)
  ·exact .inr (.inr (.inl ⟨h,a,b,e,RxOk.up hM f a h1,RxOk.up hM f b h2⟩))
  ·exact .inr (.inr (.inr ⟨h,a,e,RxOk.up hM f a h1,h2⟩))
theorem RxOk.two {N F1 F2:Nat} {r1 r2:Rx} {kind:Nat} (hk:kind=2∨kind=3) (h1:RxOk N F1 r1) (h2:RxOk N F2 r2):∃ F,RxOk (N + 1) F ⟨kind,[],[r1,r2],0,0,N⟩:=by
 refine ⟨F1 + F2 + 1,Nat.lt_succ_self N,.inr (.inr (.inl ⟨hk,r1,r2,rfl,RxOk.up (Nat.le_succ N) _ _ (RxOk.le N F1 r1 h1 F2),?_⟩))⟩
 rw [Nat.add_comm F1 F2]
 exact RxOk.up (Nat.le_succ N) _ _ (RxOk.le N F2 r2 h2 F1)
def neverF:Nat→Rx→Bool
 | 0,_=>false
 | f + 1,r =>
  if r.kind=1 then !(r.ins.any (·))
  else if r.kind=2 then neverF f (r.subs.getD 0 ⟨0,[],[],0,0,0⟩) || neverF f (r.subs.getD 1 ⟨0,[],[],0,0,0⟩)
  else if r.kind=3 then neverF f (r.subs.getD 0 ⟨0,[],[],0,0,0⟩) && neverF f (r.subs.getD 1 ⟨0,[],[],0,0,0⟩)
  else if r.kind=4 then neverF f (r.subs.getD 0 ⟨0,[],[],0,0,0⟩) && decide (0<r.lo)
  else false
def capF (n:Nat):Nat:=if 48<n then 49 else n
def placesF:Nat→Rx→Nat
 | 0,_=>0
 | f + 1,r =>
  if neverF (f + 1) r then 0
  else if r.kind=1 then 1
  else if r.kind=2∨r.kind=3 then capF (placesF f (r.subs.getD 0 ⟨0,[],[],0,0,0⟩) + placesF f (r.subs.getD 1 ⟨0,[],[],0,0,0⟩))
  else if r.kind=4 then capF (placesF f (r.subs.getD 0 ⟨0,[],[],0,0,0⟩) * (if r.hi<0 then r.lo + 1 else r.hi).toNat)
  else 0
end Go.Proofs.Ytjmkkkfloalliab.G
namespace Go.Proofs.Ytjmkkkfloalliab.G
set_option linter.unusedVariables false
def lv:Nat→Tr→Nat
 | 0,_=>0
 | f + 1,τ=>if isNt τ.sym then (τ.kids.map (lv f)).sum else 1
theorem parts_lv (rec:UInt8→Nat→Nat→Option Tr) (g:Tr→Nat) (hrec:∀ x i j τ,rec x i j=some τ→i≤j∧g τ=j - i):∀ (l:List UInt8) (i j:Nat) (ks:List Tr),parts rec l i j=some ks→i≤j∧(ks.map g).sum=j - i
 | [],i,j,ks,h=>by
  unfold parts at h
  split at h
  ·next e=>cases h; subst e; simp
  ·cases h
 | x :: l,i,j,ks,h=>by
  unfold parts at h
  obtain ⟨k,hk,e⟩:=List.exists_of_findSome?_eq_some h
  split at e
  ·cases e
  ·cases ht:rec x i k with
   | none=>rw [ht] at e; cases e
   | some t =>
    rw [ht] at e
    simp only [Option.bind_some] at e
    cases hp:parts rec l k j with
    | none=>rw [hp] at e; cases e
    | some r =>
     rw [hp] at e
     simp only [Option.map_some,Option.some.injEq] at e
     obtain ⟨g1,g2⟩:=parts_lv rec g hrec l k j r hp
     obtain ⟨g3,g4⟩:=hrec x i k t ht
     rw [← e,List.map_cons,List.sum_cons,g2,g4]
     omega
theorem firstAlt_lv (rec:UInt8→Nat→Nat→Option Tr) (g:Tr→Nat) (hrec:∀ x i j τ,rec x i j=some τ→i≤j∧g τ=j - i) (s:List UInt8) (sym:UInt8) (i j:Nat) :
    ∀ (ls:List (List UInt8)) (a:Nat) (τ:Tr),firstAlt rec s sym i j ls a=some τ→τ.sym=sym∧i≤j∧(τ.kids.map g).sum=j - i
 | [],_,_,h=>by cases h
 | l :: r,a,τ,h=>by
  unfold firstAlt at h
  split at h
  ·exact firstAlt_lv rec g hrec s sym i j r (a + 1) τ h
  ·cases hp:parts rec l i j with
   | none =>
    rw [hp] at h
    exact firstAlt_lv rec g hrec s sym i j r (a + 1) τ h
   | some ks =>
    rw [hp] at h
    simp only [Option.some.injEq] at h
    rw [← h]
    exact ⟨rfl,parts_lv rec g hrec l i j ks hp⟩
theorem der_lv (s:List UInt8):∀ (f:Nat) (x:UInt8) (i j:Nat) (τ:Tr),der s f x i j=some τ→i≤j∧lv f τ=j - i
 | 0,_,_,_,_,h=>by cases h
 | f + 1,x,i,j,τ,h=>by
  unfold der at h
  cases hn:isNt x with
  | false =>
   rw [hn] at h
   simp only [Bool.false_eq_true,if_false] at h
   split at h
   ·next hc =>
    simp only [Option.some.injEq] at h
    rw [← h]
    unfold lv
    rw [hn]
    simp only [Bool.false_eq_true,if_false]
    omega
   ·cases h
  | true =>
   rw [hn] at h
   simp only [if_true] at h
   obtain ⟨g1,g2,g3⟩:=firstAlt_lv (der s f) (lv f) (der_lv s f) s x i j (alts x) 0 τ h
   unfold lv
   rw [g1,hn]
   exact ⟨g2,g3⟩
theorem le_sum_mem:∀ (l:List Nat) (x:Nat),x ∈ l→x≤l.sum
 | [],_,h=>by cases h
 | a :: l,x,h=>by
  rw [List.sum_cons]
  rcases List.mem_cons.1 h with rfl | h
  ·omega
  ·have:=le_sum_mem l x h
   omega
theorem kids1 {τ:Tr} (g:Tr→Nat) (h:τ.kids.length=1):(τ.kids.map g).sum=g (kid τ 0):=by
 unfold kid
 match hk:τ.kids,h with
 | [a],_=>simp
theorem kids2 {τ:Tr} (g:Tr→Nat) (h:τ.kids.length=2):(τ.kids.map g).sum=g (kid τ 0) + g (kid τ 1):=by
 unfold kid
 match hk:τ.kids,h with
 | [a,b],_=>simp
theorem kids3 {τ:Tr} (g:Tr→Nat) (h:τ.kids.length=3):(τ.kids.map g).sum=g (kid τ 0) + g (kid τ 1) + g (kid τ 2):=by
 unfold kid
 match hk:τ.kids,h with
 | [a,b,c],_=>simp; omega
theorem kidsMem {τ:Tr} (g:Tr→Nat):∀ t,t ∈ τ.kids→g t≤(τ.kids.map g).sum:=by
 intro t ht
 exact le_sum_mem _ _ (List.mem_map_of_mem ht)
theorem sum_ends (g:Tr→Nat):∀ (ks:List Tr),2≤ks.length→g ((ks[0]?).getD nilTr) + g ((ks[ks.length - 1]?).getD nilTr)≤(ks.map g).sum
 | [],h=>by simp at h
 | [a],h=>by simp at h
 | a :: b :: l,h=>by
  have hm:((a :: b :: l)[(a :: b :: l).length - 1]?).getD nilTr ∈ (b :: l):=by
   have:(a :: b :: l).length - 1=(l.length) + 1:=by simp
   rw [this,List.getElem?_cons_succ,List.getElem?_eq_getElem (by simp)]
   exact List.getElem_mem _
  have:=le_sum_mem _ _ (List.mem_map_of_mem (f:=g) hm)
  rw [List.map_cons,List.sum_cons]
  simp only [List.getElem?_cons_zero,Option.getD_some] at *
  omega
end Go.Proofs.Ytjmkkkfloalliab.G
