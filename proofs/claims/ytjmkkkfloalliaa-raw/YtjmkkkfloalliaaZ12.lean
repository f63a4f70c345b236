import Derived.Test.YtjmkkkfloalliaaZ08
import Derived.Deep.Cut
namespace Go.Proofs.Ytjmkkkfloalliaa
set_option linter.unusedVariables false
open Go.RowKit
theorem MkAt.keep {S:List Nat} {w w':World} {bm:Nat} {st:G.Mk} (h:MkAt w bm st) (k:Keep S w w') (hb:bm ∉ S):MkAt w' bm st:=BlkT.keep h k hb
theorem MkAt.neIn {w:World} {bm br g:Nat} {st:G.Mk} {ins:List Bool} (h:MkAt w bm st) (hI:InBlk w br g ins):bm ≠ g∧bm ≠ br:=by
 obtain ⟨vs,hv⟩:=hI.ty
 exact ⟨BlkT.ne h hI.blk (by decide),BlkT.ne h hv (by decide)⟩
def ItemsPost (bm br g:Nat) (st:G.Mk) (r:List Bool × Bool) (w:World) (e:Ending) (w':World):Prop :=
 e=.returned (.tuple #[])∧MkAt w' bm { st with back:=r.2 }∧InBlk w' br g r.1∧Keep [bm,g] w w'
theorem keepTrees_items {w w':World} {bm br g:Nat} {st:G.Mk} {ins:List Bool} (hM:MkAt w bm st) (hI:InBlk w br g ins) (k:Keep [bm,g] w w'):KeepTrees w w':=by
 refine k.trees (fun i hi c T hc=>?_)
 rcases List.mem_cons.1 hi with rfl | hi
 ·rw [hM.typ i (by simp) c T hc]; exact ⟨by decide,by decide⟩
 ·rw [List.mem_singleton] at hi
  subst hi
  have t1:=hI.blk
  unfold BlkT at t1
  rw [t1] at hc
  cases hc
  exact ⟨by decide,by decide⟩
set_option maxRecDepth 100000 in
set_option maxHeartbeats 3200000 in
theorem items_any:∀ (f:Nat) (τ:G.Tr) (v:Value) (ins:List Bool) (st:G.Mk) (bm br g:Nat) (w:World),TreeAt w f τ v→G.Wf f τ→τ.sym=73→MkAt w bm st→InBlk w br g ins →
    Calls Try.prog 113 #[.pointer (some ⟨bm,0,none⟩),.pointer (some ⟨br,0,none⟩),v] w (ItemsPost bm br g st (G.itemsF f τ ins st.back) w)
 | 0,_,_,_,_,_,_,_,_,h,_,_,_,_=>h.elim
 | f + 1,τ,v,ins,st,bm,br,g,w,hT,hW,hs,hM,hI=>by
  obtain ⟨w0s,w0,hcase⟩:=Wf.I hW hs
  obtain ⟨f1,rfl⟩:∃ f1,f=f1 + 1:=by cases f with | zero=>exact w0.elim | succ f=>exact ⟨f,rfl⟩
  obtain ⟨bT,kv,rfl,_,tA,tK,_,hK⟩:=hT.opens
  have hne:τ.kids ≠ []:=by rcases hcase with ⟨_,h⟩ | ⟨_,h,_⟩ <;> (intro e; rw [e] at h; cases h)
  obtain ⟨g0,cap0,rfl,hr⟩:=hK.row hne
  have hl0:0<τ.kids.length:=List.length_pos_iff.2 hne
  obtain ⟨pM,k0,hTM⟩:=hr 0 hl0
  have hTM':TreeAt w (f1 + 1) (G.kid τ 0) pM:=hTM
  obtain ⟨bM,kvM,rfl,_,_,mK,_,hKM⟩:=hTM'.opens
  have hMc:=Wf.M w0 w0s
  have hneM:(G.kid τ 0).kids ≠ []:=by rcases hMc with ⟨h,_⟩ | ⟨h,_⟩ <;> (intro e; rw [e] at h; cases h)
  obtain ⟨gM,capM,rfl,hrM⟩:=hKM.row hneM
  have hB0:(G.kid (G.kid τ 0) 0).sym=66∧G.Wf f1 (G.kid (G.kid τ 0) 0):=by rcases hMc with ⟨_,h1,h2⟩ | ⟨_,h1,h2,_⟩ <;> exact ⟨h1,h2⟩
  obtain ⟨pB,b0,hTB⟩:=hrM 0 (List.length_pos_iff.2 hneM)
  have hTB':TreeAt w f1 (G.kid (G.kid τ 0) 0) pB:=hTB
  obtain ⟨f2,rfl⟩:∃ f2,f1=f2 + 1:=by cases f1 with | zero=>exact hB0.2.elim | succ f=>exact ⟨f,rfl⟩
  have hBk:=Wf.B hB0.2 hB0.1
  have hab:G.itemA τ≤255∧G.itemB τ≤255:=by
   have h1:∀ t,G.memberC t≤255:=fun t=>by unfold G.memberC; have:=(G.lastKid t).c.toNat_lt; omega
   refine ⟨h1 _,?_⟩
   unfold G.itemB
   split
   ·exact h1 _
   ·exact h1 _
  obtain ⟨hbg,hbr⟩:=hM.neIn hI
  have HREC:Hid (τ.alt=1→(G.kid τ 1).sym=73∧G.Wf (f2 + 1 + 1) (G.kid τ 1)):=by
   intro h
   rcases hcase with ⟨ha,_⟩ | ⟨_,hl,hs1,hw1⟩
   ·omega
   ·exact ⟨hs1,hw1⟩
  have HT:Hid (TreeAt w (f2 + 1 + 1 + 1) τ (.pointer (some ⟨bT,0,none⟩))):=hT
  have HALT:Hid (τ.alt=0∨τ.alt=1):=by rcases hcase with ⟨h,_⟩ | ⟨h,_⟩; exact .inl h; exact .inr h
  have HLEN:Hid (τ.alt=1→τ.kids.length=2):=by rcases hcase with ⟨h,_⟩ | ⟨_,h,_⟩; intro h2; omega; exact fun _=>h
  have HF:Hid (G.itemsF (f2 + 1 + 1 + 1) τ ins st.back=if τ.alt=1 then G.itemsF (f2 + 1 + 1) (G.kid τ 1) (G.setRange ins (G.itemA τ) (G.itemB τ)) (st.back || decide (G.itemB τ<G.itemA τ)) else (G.setRange ins (G.itemA τ) (G.itemB τ),st.back || decide (G.itemB τ<G.itemA τ))):=rfl
  have IH:Hid (∀ (τ:G.Tr) (v:Value) (ins:List Bool) (st:G.Mk) (bm br g:Nat) (w:World),TreeAt w (f2 + 1 + 1) τ v→G.Wf (f2 + 1 + 1) τ→τ.sym=73→MkAt w bm st→InBlk w br g ins →
   Calls Try.prog 113 #[.pointer (some ⟨bm,0,none⟩),.pointer (some ⟨br,0,none⟩),v] w (ItemsPost bm br g st (G.itemsF (f2 + 1 + 1) τ ins st.back) w)):=items_any (f2 + 1 + 1)
  have HMEM:Hid (∃ (pB2:Value),((G.kid τ 0).kids.length=1∧G.itemB τ=G.itemA τ)∨((G.kid τ 0).kids.length=3∧w.cell? ⟨gM,2,none⟩=some pB2∧TreeAt w (f2 + 1) (G.kid (G.kid τ 0) 2) pB2∧(G.kid (G.kid τ 0) 2).kids ≠ []∧(G.kid (G.kid τ 0) 2).kids.length≤2∧G.memberC (G.kid (G.kid τ 0) 2)=G.itemB τ)):=by
   rcases hMc with ⟨h,_⟩ | ⟨h,_,_,h3,h4⟩
   ·refine ⟨.pointer none,.inl ⟨h,?_⟩⟩
    unfold G.itemB; rw [if_neg (by omega)]
   ·obtain ⟨p2,d1,d2⟩:=hrM 2 (by omega)
    obtain ⟨g1,g2⟩:=Wf.B h4 h3
    refine ⟨p2,.inr ⟨h,d1,d2,g1,g2,?_⟩⟩
    unfold G.itemB; rw [if_pos h]
  have HTB:Hid (TreeAt w (f2 + 1) (G.kid (G.kid τ 0) 0) pB∧(G.kid (G.kid τ 0) 0).kids ≠ []∧(G.kid (G.kid τ 0) 0).kids.length≤2):=⟨hTB',hBk⟩
  have HA:Hid (G.memberC (G.kid (G.kid τ 0) 0)=G.itemA τ):=rfl
  have HNE:Hid (τ.kids ≠ []):=hne
  obtain ⟨pt,rfl⟩:∃ x,pB=.pointer x:=by
   obtain ⟨b,e,_⟩:=hTB'.ptr
   exact ⟨_,e⟩
  have hlM:0<(G.kid τ 0).kids.length:=List.length_pos_iff.2 hneM
  clear hr hrM hcase hMc hK hKM hTM hTB hTM' hTB' hT hW w0 w0s hneM hB0 hBk hne
  obtain ⟨sn,sb,sd⟩:=st
  have m1:=hM.cell 1
  have fm1:=hM.frozen 1
  simp only [List.getElem?_cons_succ,List.getElem?_cons_zero] at m1
  have hbm:=BlkT.lt hM
  generalize G.itemA τ=A at HF HMEM HA hab
  generalize G.itemB τ=B at HF HMEM hab
  generalize (G.kid τ 0).kids.length=LM at mK HMEM hlM
  obtain ⟨hA255,hB255⟩:=hab
  go_enter Try.func113,Try.ntmps113
  go_wp2_with fail
  refine (rmember_any f2 _ _ _ HTB.out.1 HTB.out.2.1 (by have:=HTB.out.2.2; omega)).mono ?_
  rintro e w1 ⟨rfl,q1,rfl⟩
  rw [HA.out]
  clear b0 k0 tK tA HTB
  have GO:Hid (∀ (wX:World) (q:Nat),wX=w.drewN q→MkAt wX bm ⟨sn,sb,sd⟩∧InBlk wX br g ins∧Keep [bm,g] w wX):=by
   intro wX q e
   subst e
   exact ⟨hM.keep (S:=[]) ((Keep.refl [] w).drewN q) (by simp),hI.keep (S:=[]) ((Keep.refl [] w).drewN q) (by simp) (by simp),(Keep.refl _ _).drewN q⟩
  go_upto_if 26 with fail
  go_cut [8] from 27 (fun s8 wc=>s8=.int .i64 (B:Int)∧∃ q,wc=w.drewN q)
  case first =>
   obtain ⟨pB2,⟨hl1,hBA⟩ | ⟨hl3,d1,d2,d3,d4,d5⟩⟩:=HMEM.out
   ·subst hl1
    subst hBA
    go_wp2
    go_meet
    case rel=>exact ⟨rfl,q1,rfl⟩
   ·subst hl3
    obtain ⟨pp2,rfl⟩:∃ x,pB2=.pointer x:=by
     obtain ⟨b,e,_⟩:=d2.ptr
     exact ⟨_,e⟩
    have D2:Hid (TreeAt w (f2 + 1) (G.kid (G.kid τ 0) 2) (.pointer pp2)):=d2
    have D5:Hid (G.memberC (G.kid (G.kid τ 0) 2)=B):=d5
    have D34:Hid ((G.kid (G.kid τ 0) 2).kids ≠ []∧(G.kid (G.kid τ 0) 2).kids.length≤2):=⟨d3,d4⟩
    clear d2 d3 d4 d5
    go_wp2_with fail
    refine (rmember_any f2 _ _ _ (TreeAt.keep (keepTrees_below (below_drewN (Below.refl w.heap.size w) q1) (Nat.le_refl _)) _ _ _ D2.out) D34.out.1 (by have:=D34.out.2; omega)).mono ?_
    rintro e w1 ⟨rfl,q2,rfl⟩
    rw [D5.out]
    go_wp2
    go_meet
    case rel=>exact ⟨rfl,q1 + q2,rfl⟩
  case rest =>
  obtain ⟨rfl,q3,rfl⟩:=hcut
  have Y:=GO.out (w.drewN q3) q3 rfl
  generalize w.drewN q3=wq at Y ⊢
  clear m1 fm1 HMEM GO
  have m1:=Y.1.cell 1
  have fm1:=Y.1.frozen 1
  simp only [List.getElem?_cons_succ,List.getElem?_cons_zero] at m1
  go_upto_region 5 with fail
  go_cut [8] from 31 (fun s8 wc=>s8=.int .i64 (B:Int)∧MkAt wc bm ⟨sn,sb || decide (B<A),sd⟩∧InBlk wc br g ins∧Keep [bm,g] w wc)
  case first =>
   obtain ⟨x1,x2,x3⟩:=Y
   have HPUT:Hid (∀ b:Bool,b=(sb || decide (B<A))→MkAt (wq.setCell ⟨bm,1,none⟩ (.bool b)) bm ⟨sn,sb || decide (B<A),sd⟩∧InBlk (wq.setCell ⟨bm,1,none⟩ (.bool b)) br g ins∧Keep [bm,g] w (wq.setCell ⟨bm,1,none⟩ (.bool b))):=by
    intro b hb
    rw [← hb]
    exact ⟨BlkT.set x1 1 (.bool b),x2.keep (S:=[bm]) ((Keep.refl [bm] _).setCell (by simp) _) (by simp; exact fun e=>hbr e.symm) (by simp; exact fun e=>hbg e.symm),x3.setCell (by simp) _⟩
   clear x1 x2 x3
   cases sb with
   | true =>
    go_wp2
    go_meet
    case rel=>exact ⟨rfl,HPUT.out true rfl⟩
   | false =>
    by_cases hlt:B<A
    ·go_wp2
     go_meet
     case rel=>exact ⟨rfl,HPUT.out true (by rw [decide_eq_true hlt]; rfl)⟩
    ·go_wp2
     go_meet
     case rel=>exact ⟨rfl,HPUT.out false (by rw [decide_eq_false hlt]; rfl)⟩
  case rest =>
  obtain ⟨rfl,x1,x2,x3⟩:=hcut
  clear Y m1 fm1
  generalize (sb || decide (B<A))=nb at *
  go_wp2_with fail
  go_loopw [9] (fun cv w3=>∃ c:Nat,A≤c∧(c≤B + 1∨c=A)∧cv=.int .i64 (c:Int)∧InBlk w3 br g (setUpTo ins A c)∧MkAt w3 bm ⟨sn,nb,sd⟩∧Keep [bm,g] w w3) (fun cv _=>B + 1 - (intOf cv).toNat)
  case atStart=>exact ⟨A,Nat.le_refl _,.inr rfl,rfl,by rw [setUpTo_start _ _ hI.len]; exact x2,x1,x3⟩
  case round =>
   clear x1 x2 x3
   obtain ⟨c,hAc,hc2,rfl,hIn,hMn,hKn⟩:=hrel
   have ic:=hIn.cell
   by_cases hcB:c≤B
   ·obtain ⟨i1,i2⟩:=hIn.at c (by omega)
    have hc256:(c:Int)<256:=by omega
    go_wp2
    go_roundw
    case rel =>
     refine ⟨c + 1,by omega,.inl (by omega),by go_num,?_,hMn.keep (S:=[g]) ((Keep.refl [g] _).setCell (by simp) _) (by simp; exact hbg),hKn.setCell (by simp) _⟩
     rw [← setUpTo_step _ _ _ hAc]
     exact hIn.set _ _
    case measure=>simp [intOf]; omega
   ·have HIN:Hid (setUpTo ins A c=G.setRange ins A B):=by
       show _=_
       by_cases hlt:B<A
       ·have:c=A:=by omega
        rw [this,setUpTo_start _ _ hI.len]
        exact setUpTo_none ins A B hI.len hlt
       ·have:c=B + 1:=by omega
        rw [this,setUpTo_end]
    rw [HIN.out] at hIn
    have hkt:=keepTrees_items hM hI hKn
    obtain ⟨b',kv',eb,_,tA',tK',_,hK'⟩:=(TreeAt.keep hkt _ _ _ HT.out).opens
    cases eb
    obtain ⟨g0',cap0',rfl,hr'⟩:=hK'.row HNE.out
    clear hkt hK'
    rcases HALT.out with ha | ha
    ·have HF2:Hid (G.itemsF (f2 + 1 + 1 + 1) τ ins sb=(G.setRange ins A B,nb)):=by
        show _=_
        rw [HF.out,if_neg (by omega)]
     rw [ha] at tA'
     clear hr' ha
     go_wp2
     go_end0
     refine ⟨rfl,?_,?_,hKn⟩
     ·rw [HF2.out]; exact hMn
     ·rw [HF2.out]; exact hIn
    ·obtain ⟨p1,e1,t1⟩:=hr' 1 (by rw [HLEN.out ha]; omega)
     have HF2:Hid (G.itemsF (f2 + 1 + 1 + 1) τ ins sb=G.itemsF (f2 + 1 + 1) (G.kid τ 1) (G.setRange ins A B) nb):=by
      show _=_
      rw [HF.out,if_pos ha]
     have HA1:Hid (τ.alt=1):=ha
     have hl2:τ.kids.length=2:=HLEN.out ha
     rw [ha] at tA'
     rw [hl2] at tK'
     have HT1:Hid (TreeAt wr (f2 + 1 + 1) (G.kid τ 1) p1):=t1
     obtain ⟨pp,rfl⟩:∃ x,p1=.pointer x:=by
      obtain ⟨b,e,_⟩:=t1.ptr
      exact ⟨_,e⟩
     clear hr' ha t1 hl2
     go_wp2_with fail
     refine Calls.mono (IH.out (G.kid τ 1) _ _ ⟨sn,nb,sd⟩ bm br g _ HT1.out (HREC.out HA1.out).2 (HREC.out HA1.out).1 hMn hIn) ?_
     rintro e w5 ⟨rfl,hM5,hI5,hK5⟩
     go_wp2
     go_end0
     refine ⟨rfl,?_,?_,hKn.trans hK5⟩
     ·rw [HF2.out]; exact hM5
     ·rw [HF2.out]; exact hI5
end Go.Proofs.Ytjmkkkfloalliaa
