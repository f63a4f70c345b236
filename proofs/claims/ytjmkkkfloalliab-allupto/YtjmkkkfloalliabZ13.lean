import Derived.Test.YtjmkkkfloalliabZ12
import Derived.Deep.Cut
namespace Go.Proofs.Ytjmkkkfloalliab
set_option linter.unusedVariables false
open Go.RowKit
theorem MkAt.alloc {w:World} {bm:Nat} {st:G.Mk} (h:MkAt w bm st) (o:Obj):MkAt (w.alloc o) bm st:=BlkT.alloc h o
theorem MkAt.drewN {w:World} {bm:Nat} {st:G.Mk} (h:MkAt w bm st) (q:Nat):MkAt (w.drewN q) bm st:=h
theorem timesF_n:∀ (f:Nat) (a:G.Rx) (q:G.Tr) (st:G.Mk),st.n≤(G.timesF f a q st).2.n
 | 0,_,_,_=>Nat.le_refl _
 | f + 1,a,q,st=>by
  unfold G.timesF
  split
  ·exact Nat.le_refl _
  ·exact Nat.le_trans (Nat.le_succ st.n) (timesF_n f ⟨4,[],[a],G.loOf q,G.hiOf q,st.n⟩ (G.lastKid q) ⟨st.n + 1,G.backOf q st.back,st.depth⟩)
theorem ReAt.ptr {w:World} {f:Nat} {r:G.Rx} {v:Value} (h:ReAt w f r v):∃ b,v=.pointer (some ⟨b,0,none⟩):=by
 cases f with
 | zero=>exact h.elim
 | succ f=>obtain ⟨b,_,_,_,e,_⟩:=h; exact ⟨b,e⟩
def MadePost (bm:Nat) (r:G.Rx × G.Mk) (w:World) (e:Ending) (w':World):Prop :=
 ∃ b,e=.returned (.pointer (some ⟨b,0,none⟩))∧(∃ F,ReAt w' F r.1 (.pointer (some ⟨b,0,none⟩)))∧MkAt w' bm r.2∧Keep [bm] w w'
theorem Wf.Q {f:Nat} {q:G.Tr} (h:G.Wf (f + 1) q) (hs:q.sym=81):q.alt=0 ∨
    (((q.alt=1∨q.alt=2∨q.alt=3)∧q.kids.length=2)∨(q.alt=4∧q.kids.length=4)∨(q.alt=5∧q.kids.length=5)∨(q.alt=6∧q.kids.length=6∧(G.kid q 3).sym=78∧G.Wf f (G.kid q 3)))∧(G.lastKid q).sym=81∧G.Wf f (G.lastKid q)∧(4≤q.alt→(G.kid q 1).sym=78∧G.Wf f (G.kid q 1)):=by
 obtain ⟨l,h2,h3,h4⟩:=Wf.nt h (by rw [hs]; rfl)
 rw [hs] at h2
 have hl:=kids_len h3
 have hlast:∀ n,l.length=n + 1→(G.lastKid q).sym=l.getD n 0∧G.Wf f (G.lastKid q):=by
  intro n hn
  obtain ⟨m,e⟩:=kid_sym h3 n (by omega)
  have e2:G.lastKid q=G.kid q n:=by unfold G.lastKid G.kid; rw [hl,hn]; rfl
  rw [e2]
  exact ⟨e,h4 _ m⟩
 have h2':([[],[42,81],[43,81],[63,81],[123,78,125,81],[123,78,44,125,81],[123,78,44,78,125,81]]:List (List UInt8))[q.alt]?=some l:=h2
 have hcase:(q.alt=0∧l=[])∨(q.alt=1∧l=[42,81])∨(q.alt=2∧l=[43,81])∨(q.alt=3∧l=[63,81])∨(q.alt=4∧l=[123,78,125,81])∨(q.alt=5∧l=[123,78,44,125,81])∨(q.alt=6∧l=[123,78,44,78,125,81]):=by
  generalize q.alt=a at h2'
  match a,h2' with
  | 0,h=>left; exact ⟨rfl,(Option.some.inj h).symm⟩
  | 1,h=>right; left; exact ⟨rfl,(Option.some.inj h).symm⟩
  | 2,h=>right; right; left; exact ⟨rfl,(Option.some.inj h).symm⟩
  | 3,h=>right; right; right; left; exact ⟨rfl,(Option.some.inj h).symm⟩
  | 4,h=>right; right; right; right; left; exact ⟨rfl,(Option.some.inj h).symm⟩
  | 5,h=>right; right; right; right; right; left; exact ⟨rfl,(Option.some.inj h).symm⟩
  | 6,h=>right; right; right; right; right; right; exact ⟨rfl,(Option.some.inj h).symm⟩
  | n + 7,h=>simp at h
 rcases hcase with ⟨ha,rfl⟩ | ⟨ha,rfl⟩ | ⟨ha,rfl⟩ | ⟨ha,rfl⟩ | ⟨ha,rfl⟩ | ⟨ha,rfl⟩ | ⟨ha,rfl⟩
 ·exact .inl ha
 ·obtain ⟨g1,g2⟩:=hlast 1 rfl
  exact .inr ⟨.inl ⟨.inl ha,hl⟩,g1,g2,fun h=>by omega⟩
 ·obtain ⟨g1,g2⟩:=hlast 1 rfl
  exact .inr ⟨.inl ⟨.inr (.inl ha),hl⟩,g1,g2,fun h=>by omega⟩
 ·obtain ⟨g1,g2⟩:=hlast 1 rfl
  exact .inr ⟨.inl ⟨.inr (.inr ha),hl⟩,g1,g2,fun h=>by omega⟩
 ·obtain ⟨g1,g2⟩:=hlast 3 rfl
  obtain ⟨m,e⟩:=kid_sym h3 1 (by decide)
  exact .inr ⟨.inr (.inl ⟨ha,hl⟩),g1,g2,fun _=>⟨e,h4 _ m⟩⟩
 ·obtain ⟨g1,g2⟩:=hlast 4 rfl
  obtain ⟨m,e⟩:=kid_sym h3 1 (by decide)
  exact .inr ⟨.inr (.inr (.inl ⟨ha,hl⟩)),g1,g2,fun _=>⟨e,h4 _ m⟩⟩
 ·obtain ⟨g1,g2⟩:=hlast 5 rfl
  obtain ⟨m,e⟩:=kid_sym h3 1 (by decide)
  obtain ⟨m2,e2⟩:=kid_sym h3 3 (by decide)
  exact .inr ⟨.inr (.inr (.inr ⟨ha,hl,e2,h4 _ m2⟩)),g1,g2,fun _=>⟨e,h4 _ m⟩⟩
theorem Wf.N {f:Nat} {τ:G.Tr} (h:G.Wf f τ) (hs:τ.sym=78):τ.kids ≠ []∧τ.kids.length≤2∧∀ t,t ∈ τ.kids→48≤t.c.toNat∧t.c.toNat≤57:=by
 cases f with
 | zero=>exact h.elim
 | succ f =>
  obtain ⟨l,h2,h3,h4⟩:=Wf.nt h (by rw [hs]; rfl)
  rw [hs] at h2
  have hl:=kids_len h3
  have hd:(∀ x,x ∈ l→x=100)→∀ t,t ∈ τ.kids→48≤t.c.toNat∧t.c.toNat≤57:=by
   intro hx t ht
   have hsym:t.sym=100:=hx _ (by rw [← h3]; exact List.mem_map_of_mem ht)
   have hw:=h4 t ht
   cases f with
   | zero=>exact hw.elim
   | succ f =>
    rcases hw with ⟨_,_,hc⟩ | ⟨hn,_⟩
    ·rw [hsym] at hc
     have:(48≤t.c && t.c≤57)=true:=hc
     simp [UInt8.le_iff_toNat_le] at this
     exact this
    ·rw [hsym] at hn; cases hn
  rcases two_alts (x:=[100]) (y:=[100,100]) h2 with ⟨_,rfl⟩ | ⟨_,rfl⟩
  ·exact ⟨(fun e=>by rw [e] at hl; cases hl),by rw [hl]; decide,hd (by simp)⟩
  ·exact ⟨(fun e=>by rw [e] at hl; cases hl),by rw [hl]; decide,hd (by simp)⟩
theorem numberF_bd {f:Nat} {τ:G.Tr} (h:G.Wf f τ) (hs:τ.sym=78):0≤G.numberF τ∧G.numberF τ≤99:=by
 obtain ⟨_,h2,h3⟩:=Wf.N h hs
 have hm:G.numberF τ=numTo τ.kids τ.kids.length:=by unfold numTo G.numberF; rw [List.take_length]
 rw [hm]
 exact numTo_bd τ.kids h3 h2 _ (Nat.le_refl _)
set_option maxRecDepth 100000 in
set_option maxHeartbeats 3200000 in
theorem times_any:∀ (f:Nat) (q:G.Tr) (v:Value) (rx:G.Rx) (F ba:Nat) (st:G.Mk) (bm:Nat) (w:World),TreeAt w f q v→G.Wf f q→q.sym=81→MkAt w bm st→ReAt w F rx (.pointer (some ⟨ba,0,none⟩))→(G.timesF f rx q st).2.n≤1000000 →
    Calls Try.prog 100 #[.pointer (some ⟨bm,0,none⟩),.pointer (some ⟨ba,0,none⟩),v] w (MadePost bm (G.timesF f rx q st) w)
 | 0,_,_,_,_,_,_,_,_,h,_,_,_,_,_=>h.elim
 | f + 1,q,v,rx,F,ba,st,bm,w,hT,hW,hs,hM,hA,hn=>by
  obtain ⟨bT,kv,rfl,_,tA,tK,_,hK⟩:=hT.opens
  have HF:Hid (G.timesF (f + 1) rx q st=if q.alt=0 then (rx,st) else G.timesF f ⟨4,[],[rx],G.loOf q,G.hiOf q,st.n⟩ (G.lastKid q) ⟨st.n + 1,G.backOf q st.back,st.depth⟩):=rfl
  have IH:Hid (∀ (q:G.Tr) (v:Value) (rx:G.Rx) (F ba:Nat) (st:G.Mk) (bm:Nat) (w:World),TreeAt w f q v→G.Wf f q→q.sym=81→MkAt w bm st→ReAt w F rx (.pointer (some ⟨ba,0,none⟩))→(G.timesF f rx q st).2.n≤1000000 →
   Calls Try.prog 100 #[.pointer (some ⟨bm,0,none⟩),.pointer (some ⟨ba,0,none⟩),v] w (MadePost bm (G.timesF f rx q st) w)):=times_any f
  rcases Wf.Q hW hs with h0 | ⟨hsh,hl1,hl2,hN⟩
  ·have HF2:Hid (G.timesF (f + 1) rx q st=(rx,st)):=by show _=_; rw [HF.out,if_pos h0]
   rw [h0] at tA
   have HA:Hid (ReAt w F rx (.pointer (some ⟨ba,0,none⟩))):=hA
   clear hT hK hW h0 hs hn hA
   go_enter Try.func100,Try.ntmps100
   go_wp2
   go_ret
   refine ⟨ba,rfl,?_,?_,Keep.refl _ _⟩
   ·rw [HF2.out]; exact ⟨F,HA.out⟩
   ·rw [HF2.out]; exact hM
  ·have hne0:¬ q.alt=0:=by rcases hsh with ⟨h,_⟩ | ⟨h,_⟩ | ⟨h,_⟩ | ⟨h,_⟩ <;> omega
   have HF1:Hid (G.timesF (f + 1) rx q st=G.timesF f ⟨4,[],[rx],G.loOf q,G.hiOf q,st.n⟩ (G.lastKid q) ⟨st.n + 1,G.backOf q st.back,st.depth⟩):=by show _=_; rw [HF.out,if_neg hne0]
   have hn1:st.n≤1000000:=Nat.le_trans (timesF_n (f + 1) rx q st) hn
   have HN:Hid ((G.timesF (f + 1) rx q st).2.n≤1000000):=hn
   have hneK:q.kids ≠ []:=by rcases hsh with ⟨_,h⟩ | ⟨_,h⟩ | ⟨_,h⟩ | ⟨_,h,_⟩ <;> (intro e; rw [e] at h; cases h)
   obtain ⟨f1,rfl⟩:∃ f1,f=f1 + 1:=by cases f with | zero=>exact hl2.elim | succ f=>exact ⟨f,rfl⟩
   have hbT:bT<w.heap.size:=World.block_lt_of_cell? _ _ tA
   obtain ⟨g0,cap0,rfl,hr⟩:=hK.row hneK
   have hg0:g0<w.heap.size:=by
    obtain ⟨p,c,_⟩:=hr 0 (List.length_pos_iff.2 hneK)
    exact World.block_lt_of_cell? _ _ c
   have hgm:g0 ≠ bm:=by
    intro e
    rcases hK with ⟨e1,_⟩ | ⟨g,cap,ptrs,e1,hrow,_⟩
    ·exact hneK e1
    ·cases e1
     obtain ⟨cur,hc,_⟩:=hrow
     have:=hM.typ g0 (by rw [e]; simp) _ _ (by subst e; exact hc)
     cases this
   have hbm:=BlkT.lt hM
   have HM:Hid (MkAt w bm st):=hM
   have HA:Hid (ReAt w F rx (.pointer (some ⟨ba,0,none⟩))):=hA
   obtain ⟨LK,HLK⟩:∃ LK,q.kids.length=LK + 1:=⟨q.kids.length - 1,by have:=List.length_pos_iff.2 hneK; omega⟩
   obtain ⟨pL,k1,tL⟩:=hr LK (by omega)
   obtain ⟨pp,rfl⟩:∃ x,pL=.pointer x:=by
    obtain ⟨b,e,_⟩:=tL.ptr
    exact ⟨_,e⟩
   have HTL:Hid (TreeAt w (f1 + 1) (G.lastKid q) (.pointer pp)):=by
    have:G.lastKid q=(q.kids[LK]?).getD G.nilTr:=by unfold G.lastKid; rw [HLK]; rfl
    rw [this]; exact tL
   have HWL:Hid (G.Wf (f1 + 1) (G.lastKid q)):=hl2
   have HSL:Hid ((G.lastKid q).sym=81):=hl1
   have HNUM:Hid (4≤q.alt→∃ pN,w.cell? ⟨g0,1,none⟩=some (.pointer pN)∧TreeAt w (f1 + 1) (G.kid q 1) (.pointer pN)∧(G.kid q 1).sym=78∧G.Wf (f1 + 1) (G.kid q 1)):=by
    intro h
    obtain ⟨n1,n2⟩:=hN h
    obtain ⟨pN,c,t⟩:=hr 1 (by rcases hsh with ⟨h,hl⟩ | ⟨h,hl⟩ | ⟨h,hl⟩ | ⟨h,hl,_⟩ <;> omega)
    obtain ⟨b,rfl,_⟩:=t.ptr
    exact ⟨_,c,t,n1,n2⟩
   have HNUM3:Hid (q.alt=6→∃ pN,w.cell? ⟨g0,3,none⟩=some (.pointer pN)∧TreeAt w (f1 + 1) (G.kid q 3) (.pointer pN)∧(G.kid q 3).sym=78∧G.Wf (f1 + 1) (G.kid q 3)):=by
    intro h
    rcases hsh with ⟨h2,hl⟩ | ⟨h2,hl⟩ | ⟨h2,hl⟩ | ⟨_,hl,n1,n2⟩
    ·omega
    ·omega
    ·omega
    ·obtain ⟨pN,c,t⟩:=hr 3 (by omega)
     obtain ⟨b,rfl,_⟩:=t.ptr
     exact ⟨_,c,t,n1,n2⟩
   rw [HLK] at tK hsh
   obtain ⟨sn,sb,sd⟩:=st
   have hMx:=hM
   have hKx:Keep [bm] w w:=Keep.refl _ _
   clear hT hK hW hs hn hA hM hr tL hl1 hl2 hN hneK HLK HF
   rcases hsh with ⟨ha | ha | ha,hLK⟩ | ⟨ha,hLK⟩ | ⟨ha,hLK⟩ | ⟨ha,hLK,_⟩
   ·have HF2:Hid (G.timesF (f1 + 1 + 1) rx q ⟨sn,sb,sd⟩=G.timesF (f1 + 1) ⟨4,[],[rx],0,-1,sn⟩ (G.lastKid q) ⟨sn + 1,sb,sd⟩):=by
       show _=_
       rw [HF1.out]
       unfold G.backOf G.hiOf G.loOf
       rw [ha]; rfl
    rw [ha] at tA
    obtain rfl:LK=1:=by omega
    clear ha hLK hne0 HNUM HNUM3 HF1
    go_enter Try.func100,Try.ntmps100
    go_wp2_with fail
    refine (make1_any bm ⟨sn,sb,sd⟩ 4 (some ⟨ba,0,none⟩) none _ (by repeat (first | exact hMx | apply MkAt.alloc | apply MkAt.drewN)) hn1 (by omega)).mono ?_
    rintro e w2 ⟨b,rfl,hb,hBk,hM2,hK2⟩
    have hb1:w.heap.size≤b:=Nat.le_trans (by first | exact hKx.size | (simp; done) | (simp; omega)) hb
    have hK2':Keep [bm] w w2:=Keep.trans (by repeat (first | exact hKx | apply Keep.alloc | apply Keep.drewN)) hK2
    clear hb hK2
    have hne:b ≠ g0:=by omega
    have e1:w2.cell? ⟨g0,1,none⟩=some (.pointer pp):=by rw [World.cell?_of_block (hK2'.block g0 hg0 (by simp; exact hgm))]; exact k1
    have s4:w2.cell? ⟨b,4,none⟩=some (.int .i64 0):=hBk.cell 4
    have s5:w2.cell? ⟨b,5,none⟩=some (.int .i64 0):=hBk.cell 5
    have z4:=hBk.frozen 4
    have z5:=hBk.frozen 5
    go_wp2_with fail
    have hK3:Keep [bm] w ((w2.setCell ⟨b,4,none⟩ (.int .i64 (0))).setCell ⟨b,5,none⟩ (.int .i64 (-1))):=(hK2'.setNew (p:=⟨b,4,none⟩) hb1 _).setNew (p:=⟨b,5,none⟩) hb1 _
    have hM3:MkAt ((w2.setCell ⟨b,4,none⟩ (.int .i64 (0))).setCell ⟨b,5,none⟩ (.int .i64 (-1))) bm ⟨sn + 1,sb,sd⟩:=BlkT.other (BlkT.other hM2 (by simp; omega) _) (by simp; omega) _
    have hB3:=(hBk.set 4 (.int .i64 (0))).set 5 (.int .i64 (-1))
    clear s4 s5 z4 z5 e1
    generalize (w2.setCell ⟨b,4,none⟩ (.int .i64 (0))).setCell ⟨b,5,none⟩ (.int .i64 (-1))=w3 at hK3 hM3 hB3 ⊢
    have hkt:=Keep.treesM HM.out hK3
    have hkr:=Keep.reM HM.out hK3
    have HR3:Hid (ReAt w3 (F + 1) ⟨4,[],[rx],0,-1,sn⟩ (.pointer (some ⟨b,0,none⟩))):=⟨b,_,_,_,rfl,hB3,.inl ⟨rfl,rfl⟩,.inr ⟨rx,rfl,ReAt.keep hkr _ _ _ HA.out⟩,.inl ⟨rfl,rfl⟩⟩
    refine Calls.mono (IH.out (G.lastKid q) _ _ (F + 1) b ⟨sn + 1,sb,sd⟩ bm _ (TreeAt.keep hkt _ _ _ HTL.out) HWL.out HSL.out hM3 HR3.out (by rw [← HF2.out]; exact HN.out)) ?_
    rintro e w5 ⟨b5,rfl,hR5,hM5,hK5⟩
    go_wp2
    go_ret
    refine ⟨b5,rfl,?_,?_,hK3.trans hK5⟩
    ·rw [HF2.out]; exact hR5
    ·rw [HF2.out]; exact hM5
   ·have HF2:Hid (G.timesF (f1 + 1 + 1) rx q ⟨sn,sb,sd⟩=G.timesF (f1 + 1) ⟨4,[],[rx],1,-1,sn⟩ (G.lastKid q) ⟨sn + 1,sb,sd⟩):=by
       show _=_
       rw [HF1.out]
       unfold G.backOf G.hiOf G.loOf
       rw [ha]; rfl
    rw [ha] at tA
    obtain rfl:LK=1:=by omega
    clear ha hLK hne0 HNUM HNUM3 HF1
    go_enter Try.func100,Try.ntmps100
    go_wp2_with fail
    refine (make1_any bm ⟨sn,sb,sd⟩ 4 (some ⟨ba,0,none⟩) none _ (by repeat (first | exact hMx | apply MkAt.alloc | apply MkAt.drewN)) hn1 (by omega)).mono ?_
    rintro e w2 ⟨b,rfl,hb,hBk,hM2,hK2⟩
    have hb1:w.heap.size≤b:=Nat.le_trans (by first | exact hKx.size | (simp; done) | (simp; omega)) hb
    have hK2':Keep [bm] w w2:=Keep.trans (by repeat (first | exact hKx | apply Keep.alloc | apply Keep.drewN)) hK2
    clear hb hK2
    have hne:b ≠ g0:=by omega
    have e1:w2.cell? ⟨g0,1,none⟩=some (.pointer pp):=by rw [World.cell?_of_block (hK2'.block g0 hg0 (by simp; exact hgm))]; exact k1
    have s4:w2.cell? ⟨b,4,none⟩=some (.int .i64 0):=hBk.cell 4
    have s5:w2.cell? ⟨b,5,none⟩=some (.int .i64 0):=hBk.cell 5
    have z4:=hBk.frozen 4
    have z5:=hBk.frozen 5
    go_wp2_with fail
    have hK3:Keep [bm] w ((w2.setCell ⟨b,4,none⟩ (.int .i64 (1))).setCell ⟨b,5,none⟩ (.int .i64 (-1))):=(hK2'.setNew (p:=⟨b,4,none⟩) hb1 _).setNew (p:=⟨b,5,none⟩) hb1 _
    have hM3:MkAt ((w2.setCell ⟨b,4,none⟩ (.int .i64 (1))).setCell ⟨b,5,none⟩ (.int .i64 (-1))) bm ⟨sn + 1,sb,sd⟩:=BlkT.other (BlkT.other hM2 (by simp; omega) _) (by simp; omega) _
    have hB3:=(hBk.set 4 (.int .i64 (1))).set 5 (.int .i64 (-1))
    clear s4 s5 z4 z5 e1
    generalize (w2.setCell ⟨b,4,none⟩ (.int .i64 (1))).setCell ⟨b,5,none⟩ (.int .i64 (-1))=w3 at hK3 hM3 hB3 ⊢
    have hkt:=Keep.treesM HM.out hK3
    have hkr:=Keep.reM HM.out hK3
    have HR3:Hid (ReAt w3 (F + 1) ⟨4,[],[rx],1,-1,sn⟩ (.pointer (some ⟨b,0,none⟩))):=⟨b,_,_,_,rfl,hB3,.inl ⟨rfl,rfl⟩,.inr ⟨rx,rfl,ReAt.keep hkr _ _ _ HA.out⟩,.inl ⟨rfl,rfl⟩⟩
    refine Calls.mono (IH.out (G.lastKid q) _ _ (F + 1) b ⟨sn + 1,sb,sd⟩ bm _ (TreeAt.keep hkt _ _ _ HTL.out) HWL.out HSL.out hM3 HR3.out (by rw [← HF2.out]; exact HN.out)) ?_
    rintro e w5 ⟨b5,rfl,hR5,hM5,hK5⟩
    go_wp2
    go_ret
    refine ⟨b5,rfl,?_,?_,hK3.trans hK5⟩
    ·rw [HF2.out]; exact hR5
    ·rw [HF2.out]; exact hM5
   ·have HF2:Hid (G.timesF (f1 + 1 + 1) rx q ⟨sn,sb,sd⟩=G.timesF (f1 + 1) ⟨4,[],[rx],0,1,sn⟩ (G.lastKid q) ⟨sn + 1,sb,sd⟩):=by
       show _=_
       rw [HF1.out]
       unfold G.backOf G.hiOf G.loOf
       rw [ha]; rfl
    rw [ha] at tA
    obtain rfl:LK=1:=by omega
    clear ha hLK hne0 HNUM HNUM3 HF1
    go_enter Try.func100,Try.ntmps100
    go_wp2_with fail
    refine (make1_any bm ⟨sn,sb,sd⟩ 4 (some ⟨ba,0,none⟩) none _ (by repeat (first | exact hMx | apply MkAt.alloc | apply MkAt.drewN)) hn1 (by omega)).mono ?_
    rintro e w2 ⟨b,rfl,hb,hBk,hM2,hK2⟩
    have hb1:w.heap.size≤b:=Nat.le_trans (by first | exact hKx.size | (simp; done) | (simp; omega)) hb
    have hK2':Keep [bm] w w2:=Keep.trans (by repeat (first | exact hKx | apply Keep.alloc | apply Keep.drewN)) hK2
    clear hb hK2
    have hne:b ≠ g0:=by omega
    have e1:w2.cell? ⟨g0,1,none⟩=some (.pointer pp):=by rw [World.cell?_of_block (hK2'.block g0 hg0 (by simp; exact hgm))]; exact k1
    have s4:w2.cell? ⟨b,4,none⟩=some (.int .i64 0):=hBk.cell 4
    have s5:w2.cell? ⟨b,5,none⟩=some (.int .i64 0):=hBk.cell 5
    have z4:=hBk.frozen 4
    have z5:=hBk.frozen 5
    go_wp2_with fail
    have hK3:Keep [bm] w ((w2.setCell ⟨b,4,none⟩ (.int .i64 (0))).setCell ⟨b,5,none⟩ (.int .i64 (1))):=(hK2'.setNew (p:=⟨b,4,none⟩) hb1 _).setNew (p:=⟨b,5,none⟩) hb1 _
    have hM3:MkAt ((w2.setCell ⟨b,4,none⟩ (.int .i64 (0))).setCell ⟨b,5,none⟩ (.int .i64 (1))) bm ⟨sn + 1,sb,sd⟩:=BlkT.other (BlkT.other hM2 (by simp; omega) _) (by simp; omega) _
    have hB3:=(hBk.set 4 (.int .i64 (0))).set 5 (.int .i64 (1))
    clear s4 s5 z4 z5 e1
    generalize (w2.setCell ⟨b,4,none⟩ (.int .i64 (0))).setCell ⟨b,5,none⟩ (.int .i64 (1))=w3 at hK3 hM3 hB3 ⊢
    have hkt:=Keep.treesM HM.out hK3
    have hkr:=Keep.reM HM.out hK3
    have HR3:Hid (ReAt w3 (F + 1) ⟨4,[],[rx],0,1,sn⟩ (.pointer (some ⟨b,0,none⟩))):=⟨b,_,_,_,rfl,hB3,.inl ⟨rfl,rfl⟩,.inr ⟨rx,rfl,ReAt.keep hkr _ _ _ HA.out⟩,.inl ⟨rfl,rfl⟩⟩
    refine Calls.mono (IH.out (G.lastKid q) _ _ (F + 1) b ⟨sn + 1,sb,sd⟩ bm _ (TreeAt.keep hkt _ _ _ HTL.out) HWL.out HSL.out hM3 HR3.out (by rw [← HF2.out]; exact HN.out)) ?_
    rintro e w5 ⟨b5,rfl,hR5,hM5,hK5⟩
    go_wp2
    go_ret
    refine ⟨b5,rfl,?_,?_,hK3.trans hK5⟩
    ·rw [HF2.out]; exact hR5
    ·rw [HF2.out]; exact hM5
   ·have HF2:Hid (G.timesF (f1 + 1 + 1) rx q ⟨sn,sb,sd⟩=G.timesF (f1 + 1) ⟨4,[],[rx],G.numberF (G.kid q 1),G.numberF (G.kid q 1),sn⟩ (G.lastKid q) ⟨sn + 1,sb,sd⟩):=by
       show _=_
       rw [HF1.out]
       unfold G.backOf G.hiOf G.loOf
       rw [ha]; rfl
    rw [ha] at tA
    obtain rfl:LK=3:=by omega
    obtain ⟨pN,kN,tN,sN,wN⟩:=HNUM.out (by omega)
    have hv:=numberF_bd wN sN
    have HD:=Wf.N wN sN
    have HD':Hid ((G.kid q 1).kids ≠ []∧(G.kid q 1).kids.length≤2∧∀ t,t ∈ (G.kid q 1).kids→48≤t.c.toNat∧t.c.toNat≤57):=HD
    have HTN:Hid (TreeAt w (f1 + 1) (G.kid q 1) (.pointer pN)):=tN
    clear tN wN sN HD
    clear ha hLK hne0 HNUM HNUM3 HF1
    go_enter Try.func100,Try.ntmps100
    go_wp2_with fail
    have hK0:∀ w',Keep [] w w'→KeepTrees w w':=fun w' k=>k.trees (by simp)
    refine (rnumber_any f1 (G.kid q 1) _ _ (TreeAt.keep (hK0 _ (by repeat (first | exact Keep.refl _ _ | apply Keep.alloc | apply Keep.drewN))) _ _ _ HTN.out) HD'.out.1 HD'.out.2.1 HD'.out.2.2).mono ?_
    rintro e w1 ⟨rfl,q1,hw1⟩
    have hK1:Keep [] w w1:=by rw [hw1]; repeat (first | exact Keep.refl _ _ | apply Keep.alloc | apply Keep.drewN)
    have hMx1:MkAt w1 bm ⟨sn,sb,sd⟩:=by rw [hw1]; repeat (first | exact hMx | apply MkAt.alloc | apply MkAt.drewN)
    have tA1:=(World.cell?_of_block (a:=⟨bT,1,none⟩) (hK1.block bT hbT (by simp))).trans tA
    clear hw1 HTN HD'
    generalize G.numberF (G.kid q 1)=lo at *
    go_wp2_with fail
    have hKx:=hK1.mono (S':=[bm]) (by simp)
    have hMx:=hMx1
    refine (make1_any bm ⟨sn,sb,sd⟩ 4 (some ⟨ba,0,none⟩) none _ (by repeat (first | exact hMx | apply MkAt.alloc | apply MkAt.drewN)) hn1 (by omega)).mono ?_
    rintro e w2 ⟨b,rfl,hb,hBk,hM2,hK2⟩
    have hb1:w.heap.size≤b:=Nat.le_trans (by first | exact hKx.size | (simp; done) | (simp; omega)) hb
    have hK2':Keep [bm] w w2:=Keep.trans (by repeat (first | exact hKx | apply Keep.alloc | apply Keep.drewN)) hK2
    clear hb hK2
    have hne:b ≠ g0:=by omega
    have e1:w2.cell? ⟨g0,3,none⟩=some (.pointer pp):=by rw [World.cell?_of_block (hK2'.block g0 hg0 (by simp; exact hgm))]; exact k1
    have s4:w2.cell? ⟨b,4,none⟩=some (.int .i64 0):=hBk.cell 4
    have s5:w2.cell? ⟨b,5,none⟩=some (.int .i64 0):=hBk.cell 5
    have z4:=hBk.frozen 4
    have z5:=hBk.frozen 5
    go_wp2_with fail
    have hK3:Keep [bm] w ((w2.setCell ⟨b,4,none⟩ (.int .i64 (lo))).setCell ⟨b,5,none⟩ (.int .i64 (lo))):=(hK2'.setNew (p:=⟨b,4,none⟩) hb1 _).setNew (p:=⟨b,5,none⟩) hb1 _
    have hM3:MkAt ((w2.setCell ⟨b,4,none⟩ (.int .i64 (lo))).setCell ⟨b,5,none⟩ (.int .i64 (lo))) bm ⟨sn + 1,sb,sd⟩:=BlkT.other (BlkT.other hM2 (by simp; omega) _) (by simp; omega) _
    have hB3:=(hBk.set 4 (.int .i64 (lo))).set 5 (.int .i64 (lo))
    clear s4 s5 z4 z5 e1
    generalize (w2.setCell ⟨b,4,none⟩ (.int .i64 (lo))).setCell ⟨b,5,none⟩ (.int .i64 (lo))=w3 at hK3 hM3 hB3 ⊢
    have hkt:=Keep.treesM HM.out hK3
    have hkr:=Keep.reM HM.out hK3
    have HR3:Hid (ReAt w3 (F + 1) ⟨4,[],[rx],lo,lo,sn⟩ (.pointer (some ⟨b,0,none⟩))):=⟨b,_,_,_,rfl,hB3,.inl ⟨rfl,rfl⟩,.inr ⟨rx,rfl,ReAt.keep hkr _ _ _ HA.out⟩,.inl ⟨rfl,rfl⟩⟩
    refine Calls.mono (IH.out (G.lastKid q) _ _ (F + 1) b ⟨sn + 1,sb,sd⟩ bm _ (TreeAt.keep hkt _ _ _ HTL.out) HWL.out HSL.out hM3 HR3.out (by rw [← HF2.out]; exact HN.out)) ?_
    rintro e w5 ⟨b5,rfl,hR5,hM5,hK5⟩
    go_wp2
    go_ret
    refine ⟨b5,rfl,?_,?_,hK3.trans hK5⟩
    ·rw [HF2.out]; exact hR5
    ·rw [HF2.out]; exact hM5
   ·have HF2:Hid (G.timesF (f1 + 1 + 1) rx q ⟨sn,sb,sd⟩=G.timesF (f1 + 1) ⟨4,[],[rx],G.numberF (G.kid q 1),-1,sn⟩ (G.lastKid q) ⟨sn + 1,sb,sd⟩):=by
       show _=_
       rw [HF1.out]
       unfold G.backOf G.hiOf G.loOf
       rw [ha]; rfl
    rw [ha] at tA
    obtain rfl:LK=4:=by omega
    obtain ⟨pN,kN,tN,sN,wN⟩:=HNUM.out (by omega)
    have hv:=numberF_bd wN sN
    have HD:=Wf.N wN sN
    have HD':Hid ((G.kid q 1).kids ≠ []∧(G.kid q 1).kids.length≤2∧∀ t,t ∈ (G.kid q 1).kids→48≤t.c.toNat∧t.c.toNat≤57):=HD
    have HTN:Hid (TreeAt w (f1 + 1) (G.kid q 1) (.pointer pN)):=tN
    clear tN wN sN HD
    clear ha hLK hne0 HNUM HNUM3 HF1
    go_enter Try.func100,Try.ntmps100
    go_wp2_with fail
    have hK0:∀ w',Keep [] w w'→KeepTrees w w':=fun w' k=>k.trees (by simp)
    refine (rnumber_any f1 (G.kid q 1) _ _ (TreeAt.keep (hK0 _ (by repeat (first | exact Keep.refl _ _ | apply Keep.alloc | apply Keep.drewN))) _ _ _ HTN.out) HD'.out.1 HD'.out.2.1 HD'.out.2.2).mono ?_
    rintro e w1 ⟨rfl,q1,hw1⟩
    have hK1:Keep [] w w1:=by rw [hw1]; repeat (first | exact Keep.refl _ _ | apply Keep.alloc | apply Keep.drewN)
    have hMx1:MkAt w1 bm ⟨sn,sb,sd⟩:=by rw [hw1]; repeat (first | exact hMx | apply MkAt.alloc | apply MkAt.drewN)
    have tA1:=(World.cell?_of_block (a:=⟨bT,1,none⟩) (hK1.block bT hbT (by simp))).trans tA
    clear hw1 HTN HD'
    generalize G.numberF (G.kid q 1)=lo at *
    go_wp2_with fail
    have hKx:=hK1.mono (S':=[bm]) (by simp)
    have hMx:=hMx1
    refine (make1_any bm ⟨sn,sb,sd⟩ 4 (some ⟨ba,0,none⟩) none _ (by repeat (first | exact hMx | apply MkAt.alloc | apply MkAt.drewN)) hn1 (by omega)).mono ?_
    rintro e w2 ⟨b,rfl,hb,hBk,hM2,hK2⟩
    have hb1:w.heap.size≤b:=Nat.le_trans (by first | exact hKx.size | (simp; done) | (simp; omega)) hb
    have hK2':Keep [bm] w w2:=Keep.trans (by repeat (first | exact hKx | apply Keep.alloc | apply Keep.drewN)) hK2
    clear hb hK2
    have hne:b ≠ g0:=by omega
    have e1:w2.cell? ⟨g0,4,none⟩=some (.pointer pp):=by rw [World.cell?_of_block (hK2'.block g0 hg0 (by simp; exact hgm))]; exact k1
    have s4:w2.cell? ⟨b,4,none⟩=some (.int .i64 0):=hBk.cell 4
    have s5:w2.cell? ⟨b,5,none⟩=some (.int .i64 0):=hBk.cell 5
    have z4:=hBk.frozen 4
    have z5:=hBk.frozen 5
    go_wp2_with fail
    have hK3:Keep [bm] w ((w2.setCell ⟨b,4,none⟩ (.int .i64 (lo))).setCell ⟨b,5,none⟩ (.int .i64 (-1))):=(hK2'.setNew (p:=⟨b,4,none⟩) hb1 _).setNew (p:=⟨b,5,none⟩) hb1 _
    have hM3:MkAt ((w2.setCell ⟨b,4,none⟩ (.int .i64 (lo))).setCell ⟨b,5,none⟩ (.int .i64 (-1))) bm ⟨sn + 1,sb,sd⟩:=BlkT.other (BlkT.other hM2 (by simp; omega) _) (by simp; omega) _
    have hB3:=(hBk.set 4 (.int .i64 (lo))).set 5 (.int .i64 (-1))
    clear s4 s5 z4 z5 e1
    generalize (w2.setCell ⟨b,4,none⟩ (.int .i64 (lo))).setCell ⟨b,5,none⟩ (.int .i64 (-1))=w3 at hK3 hM3 hB3 ⊢
    have hkt:=Keep.treesM HM.out hK3
    have hkr:=Keep.reM HM.out hK3
    have HR3:Hid (ReAt w3 (F + 1) ⟨4,[],[rx],lo,-1,sn⟩ (.pointer (some ⟨b,0,none⟩))):=⟨b,_,_,_,rfl,hB3,.inl ⟨rfl,rfl⟩,.inr ⟨rx,rfl,ReAt.keep hkr _ _ _ HA.out⟩,.inl ⟨rfl,rfl⟩⟩
    refine Calls.mono (IH.out (G.lastKid q) _ _ (F + 1) b ⟨sn + 1,sb,sd⟩ bm _ (TreeAt.keep hkt _ _ _ HTL.out) HWL.out HSL.out hM3 HR3.out (by rw [← HF2.out]; exact HN.out)) ?_
    rintro e w5 ⟨b5,rfl,hR5,hM5,hK5⟩
    go_wp2
    go_ret
    refine ⟨b5,rfl,?_,?_,hK3.trans hK5⟩
    ·rw [HF2.out]; exact hR5
    ·rw [HF2.out]; exact hM5
   ·have HF2:Hid (G.timesF (f1 + 1 + 1) rx q ⟨sn,sb,sd⟩=G.timesF (f1 + 1) ⟨4,[],[rx],G.numberF (G.kid q 1),G.numberF (G.kid q 3),sn⟩ (G.lastKid q) ⟨sn + 1,sb || decide (G.numberF (G.kid q 3)<G.numberF (G.kid q 1)),sd⟩):=by
       show _=_
       rw [HF1.out]
       unfold G.backOf G.hiOf G.loOf
       rw [ha]; rfl
    rw [ha] at tA
    obtain rfl:LK=5:=by omega
    obtain ⟨pN,kN,tN,sN,wN⟩:=HNUM.out (by omega)
    have hv:=numberF_bd wN sN
    have HD:=Wf.N wN sN
    have HD':Hid ((G.kid q 1).kids ≠ []∧(G.kid q 1).kids.length≤2∧∀ t,t ∈ (G.kid q 1).kids→48≤t.c.toNat∧t.c.toNat≤57):=HD
    have HTN:Hid (TreeAt w (f1 + 1) (G.kid q 1) (.pointer pN)):=tN
    clear tN wN sN HD
    obtain ⟨pN3,kN3,tN3,sN3,wN3⟩:=HNUM3.out ha
    have hv3:=numberF_bd wN3 sN3
    have HD3:=Wf.N wN3 sN3
    have HD3':Hid ((G.kid q 3).kids ≠ []∧(G.kid q 3).kids.length≤2∧∀ t,t ∈ (G.kid q 3).kids→48≤t.c.toNat∧t.c.toNat≤57):=HD3
    have HTN3:Hid (TreeAt w (f1 + 1) (G.kid q 3) (.pointer pN3)):=tN3
    clear tN3 wN3 sN3 HD3
    clear ha hLK hne0 HNUM HNUM3 HF1
    go_enter Try.func100,Try.ntmps100
    go_wp2_with fail
    have hK0:∀ w',Keep [] w w'→KeepTrees w w':=fun w' k=>k.trees (by simp)
    refine (rnumber_any f1 (G.kid q 1) _ _ (TreeAt.keep (hK0 _ (by repeat (first | exact Keep.refl _ _ | apply Keep.alloc | apply Keep.drewN))) _ _ _ HTN.out) HD'.out.1 HD'.out.2.1 HD'.out.2.2).mono ?_
    rintro e w1 ⟨rfl,q1,hw1⟩
    have hK1:Keep [] w w1:=by rw [hw1]; repeat (first | exact Keep.refl _ _ | apply Keep.alloc | apply Keep.drewN)
    have hMx1:MkAt w1 bm ⟨sn,sb,sd⟩:=by rw [hw1]; repeat (first | exact hMx | apply MkAt.alloc | apply MkAt.drewN)
    have tA1:=(World.cell?_of_block (a:=⟨bT,1,none⟩) (hK1.block bT hbT (by simp))).trans tA
    clear hw1 HTN HD'
    generalize G.numberF (G.kid q 1)=lo at *
    have kN31:=(World.cell?_of_block (a:=⟨g0,3,none⟩) (hK1.block g0 hg0 (by simp))).trans kN3
    go_wp2_with fail
    refine (rnumber_any f1 (G.kid q 3) _ _ (TreeAt.keep (hK0 _ (by repeat (first | exact hK1 | apply Keep.alloc | apply Keep.drewN))) _ _ _ HTN3.out) HD3'.out.1 HD3'.out.2.1 HD3'.out.2.2).mono ?_
    rintro e w4 ⟨rfl,q4,hw4⟩
    have hK4:Keep [] w w4:=by rw [hw4]; repeat (first | exact hK1 | apply Keep.alloc | apply Keep.drewN)
    have hM4:MkAt w4 bm ⟨sn,sb,sd⟩:=by rw [hw4]; repeat (first | exact hMx1 | apply MkAt.alloc | apply MkAt.drewN)
    clear hw4 HTN3 HD3' kN31 tA1 hMx1 hK1
    generalize G.numberF (G.kid q 3)=hi at *
    have b1:w4.cell? ⟨bm,1,none⟩=some (.bool sb):=hM4.cell 1
    have bz:=BlkT.frozen hM4 1
    cases sb with
    | true =>
     have HF2:Hid (G.timesF (f1 + 1 + 1) rx q ⟨sn,true,sd⟩=G.timesF (f1 + 1) ⟨4,[],[rx],lo,hi,sn⟩ (G.lastKid q) ⟨sn + 1,true,sd⟩):=HF2
     have hKx:Keep [bm] w (w4.setCell ⟨bm,1,none⟩ (.bool true)):=(hK4.mono (by simp)).setCell (by simp) _
     have hMx:MkAt (w4.setCell ⟨bm,1,none⟩ (.bool true)) bm ⟨sn,true,sd⟩:=BlkT.set hM4 1 _
     go_wp2_with fail
     refine (make1_any bm ⟨sn,true,sd⟩ 4 (some ⟨ba,0,none⟩) none _ (by repeat (first | exact hMx | apply MkAt.alloc | apply MkAt.drewN)) hn1 (by omega)).mono ?_
     rintro e w2 ⟨b,rfl,hb,hBk,hM2,hK2⟩
     have hb1:w.heap.size≤b:=Nat.le_trans (by first | exact hKx.size | (simp; done) | (simp; omega)) hb
     have hK2':Keep [bm] w w2:=Keep.trans (by repeat (first | exact hKx | apply Keep.alloc | apply Keep.drewN)) hK2
     clear hb hK2
     have hne:b ≠ g0:=by omega
     have e1:w2.cell? ⟨g0,5,none⟩=some (.pointer pp):=by rw [World.cell?_of_block (hK2'.block g0 hg0 (by simp; exact hgm))]; exact k1
     have s4:w2.cell? ⟨b,4,none⟩=some (.int .i64 0):=hBk.cell 4
     have s5:w2.cell? ⟨b,5,none⟩=some (.int .i64 0):=hBk.cell 5
     have z4:=hBk.frozen 4
     have z5:=hBk.frozen 5
     go_wp2_with fail
     have hK3:Keep [bm] w ((w2.setCell ⟨b,4,none⟩ (.int .i64 (lo))).setCell ⟨b,5,none⟩ (.int .i64 (hi))):=(hK2'.setNew (p:=⟨b,4,none⟩) hb1 _).setNew (p:=⟨b,5,none⟩) hb1 _
     have hM3:MkAt ((w2.setCell ⟨b,4,none⟩ (.int .i64 (lo))).setCell ⟨b,5,none⟩ (.int .i64 (hi))) bm ⟨sn + 1,true,sd⟩:=BlkT.other (BlkT.other hM2 (by simp; omega) _) (by simp; omega) _
     have hB3:=(hBk.set 4 (.int .i64 (lo))).set 5 (.int .i64 (hi))
     clear s4 s5 z4 z5 e1
     generalize (w2.setCell ⟨b,4,none⟩ (.int .i64 (lo))).setCell ⟨b,5,none⟩ (.int .i64 (hi))=w3 at hK3 hM3 hB3 ⊢
     have hkt:=Keep.treesM HM.out hK3
     have hkr:=Keep.reM HM.out hK3
     have HR3:Hid (ReAt w3 (F + 1) ⟨4,[],[rx],lo,hi,sn⟩ (.pointer (some ⟨b,0,none⟩))):=⟨b,_,_,_,rfl,hB3,.inl ⟨rfl,rfl⟩,.inr ⟨rx,rfl,ReAt.keep hkr _ _ _ HA.out⟩,.inl ⟨rfl,rfl⟩⟩
     refine Calls.mono (IH.out (G.lastKid q) _ _ (F + 1) b ⟨sn + 1,true,sd⟩ bm _ (TreeAt.keep hkt _ _ _ HTL.out) HWL.out HSL.out hM3 HR3.out (by rw [← HF2.out]; exact HN.out)) ?_
     rintro e w5 ⟨b5,rfl,hR5,hM5,hK5⟩
     go_wp2
     go_ret
     refine ⟨b5,rfl,?_,?_,hK3.trans hK5⟩
     ·rw [HF2.out]; exact hR5
     ·rw [HF2.out]; exact hM5
    | false =>
     by_cases hc:hi<lo
     ·have HF2:Hid (G.timesF (f1 + 1 + 1) rx q ⟨sn,false,sd⟩=G.timesF (f1 + 1) ⟨4,[],[rx],lo,hi,sn⟩ (G.lastKid q) ⟨sn + 1,true,sd⟩):=by
         have e:=HF2.out
         rw [Bool.false_or,decide_eq_true hc] at e
         exact e
      have hKx:Keep [bm] w (w4.setCell ⟨bm,1,none⟩ (.bool true)):=(hK4.mono (by simp)).setCell (by simp) _
      have hMx:MkAt (w4.setCell ⟨bm,1,none⟩ (.bool true)) bm ⟨sn,true,sd⟩:=BlkT.set hM4 1 _
      go_wp2_with fail
      refine (make1_any bm ⟨sn,true,sd⟩ 4 (some ⟨ba,0,none⟩) none _ (by repeat (first | exact hMx | apply MkAt.alloc | apply MkAt.drewN)) hn1 (by omega)).mono ?_
      rintro e w2 ⟨b,rfl,hb,hBk,hM2,hK2⟩
      have hb1:w.heap.size≤b:=Nat.le_trans (by first | exact hKx.size | (simp; done) | (simp; omega)) hb
      have hK2':Keep [bm] w w2:=Keep.trans (by repeat (first | exact hKx | apply Keep.alloc | apply Keep.drewN)) hK2
      clear hb hK2
      have hne:b ≠ g0:=by omega
      have e1:w2.cell? ⟨g0,5,none⟩=some (.pointer pp):=by rw [World.cell?_of_block (hK2'.block g0 hg0 (by simp; exact hgm))]; exact k1
      have s4:w2.cell? ⟨b,4,none⟩=some (.int .i64 0):=hBk.cell 4
      have s5:w2.cell? ⟨b,5,none⟩=some (.int .i64 0):=hBk.cell 5
      have z4:=hBk.frozen 4
      have z5:=hBk.frozen 5
      go_wp2_with fail
      have hK3:Keep [bm] w ((w2.setCell ⟨b,4,none⟩ (.int .i64 (lo))).setCell ⟨b,5,none⟩ (.int .i64 (hi))):=(hK2'.setNew (p:=⟨b,4,none⟩) hb1 _).setNew (p:=⟨b,5,none⟩) hb1 _
      have hM3:MkAt ((w2.setCell ⟨b,4,none⟩ (.int .i64 (lo))).setCell ⟨b,5,none⟩ (.int .i64 (hi))) bm ⟨sn + 1,true,sd⟩:=BlkT.other (BlkT.other hM2 (by simp; omega) _) (by simp; omega) _
      have hB3:=(hBk.set 4 (.int .i64 (lo))).set 5 (.int .i64 (hi))
      clear s4 s5 z4 z5 e1
      generalize (w2.setCell ⟨b,4,none⟩ (.int .i64 (lo))).setCell ⟨b,5,none⟩ (.int .i64 (hi))=w3 at hK3 hM3 hB3 ⊢
      have hkt:=Keep.treesM HM.out hK3
      have hkr:=Keep.reM HM.out hK3
      have HR3:Hid (ReAt w3 (F + 1) ⟨4,[],[rx],lo,hi,sn⟩ (.pointer (some ⟨b,0,none⟩))):=⟨b,_,_,_,rfl,hB3,.inl ⟨rfl,rfl⟩,.inr ⟨rx,rfl,ReAt.keep hkr _ _ _ HA.out⟩,.inl ⟨rfl,rfl⟩⟩
      refine Calls.mono (IH.out (G.lastKid q) _ _ (F + 1) b ⟨sn + 1,true,sd⟩ bm _ (TreeAt.keep hkt _ _ _ HTL.out) HWL.out HSL.out hM3 HR3.out (by rw [← HF2.out]; exact HN.out)) ?_
      rintro e w5 ⟨b5,rfl,hR5,hM5,hK5⟩
      go_wp2
      go_ret
      refine ⟨b5,rfl,?_,?_,hK3.trans hK5⟩
      ·rw [HF2.out]; exact hR5
      ·rw [HF2.out]; exact hM5
     ·have HF2:Hid (G.timesF (f1 + 1 + 1) rx q ⟨sn,false,sd⟩=G.timesF (f1 + 1) ⟨4,[],[rx],lo,hi,sn⟩ (G.lastKid q) ⟨sn + 1,false,sd⟩):=by
         have e:=HF2.out
         rw [Bool.false_or,decide_eq_false hc] at e
         exact e
      have hKx:Keep [bm] w (w4.setCell ⟨bm,1,none⟩ (.bool false)):=(hK4.mono (by simp)).setCell (by simp) _
      have hMx:MkAt (w4.setCell ⟨bm,1,none⟩ (.bool false)) bm ⟨sn,false,sd⟩:=BlkT.set hM4 1 _
      go_wp2_with fail
      have hdd:decide (hi<lo)=false:=decide_eq_false (by omega)
      rw [hdd]
      clear hdd
      refine (make1_any bm ⟨sn,false,sd⟩ 4 (some ⟨ba,0,none⟩) none _ (by repeat (first | exact hMx | apply MkAt.alloc | apply MkAt.drewN)) hn1 (by omega)).mono ?_
      rintro e w2 ⟨b,rfl,hb,hBk,hM2,hK2⟩
      have hb1:w.heap.size≤b:=Nat.le_trans (by first | exact hKx.size | (simp; done) | (simp; omega)) hb
      have hK2':Keep [bm] w w2:=Keep.trans (by repeat (first | exact hKx | apply Keep.alloc | apply Keep.drewN)) hK2
      clear hb hK2
      have hne:b ≠ g0:=by omega
      have e1:w2.cell? ⟨g0,5,none⟩=some (.pointer pp):=by rw [World.cell?_of_block (hK2'.block g0 hg0 (by simp; exact hgm))]; exact k1
      have s4:w2.cell? ⟨b,4,none⟩=some (.int .i64 0):=hBk.cell 4
      have s5:w2.cell? ⟨b,5,none⟩=some (.int .i64 0):=hBk.cell 5
      have z4:=hBk.frozen 4
      have z5:=hBk.frozen 5
      go_wp2_with fail
      have hK3:Keep [bm] w ((w2.setCell ⟨b,4,none⟩ (.int .i64 (lo))).setCell ⟨b,5,none⟩ (.int .i64 (hi))):=(hK2'.setNew (p:=⟨b,4,none⟩) hb1 _).setNew (p:=⟨b,5,none⟩) hb1 _
      have hM3:MkAt ((w2.setCell ⟨b,4,none⟩ (.int .i64 (lo))).setCell ⟨b,5,none⟩ (.int .i64 (hi))) bm ⟨sn + 1,false,sd⟩:=BlkT.other (BlkT.other hM2 (by simp; omega) _) (by simp; omega) _
      have hB3:=(hBk.set 4 (.int .i64 (lo))).set 5 (.int .i64 (hi))
      clear s4 s5 z4 z5 e1
      generalize (w2.setCell ⟨b,4,none⟩ (.int .i64 (lo))).setCell ⟨b,5,none⟩ (.int .i64 (hi))=w3 at hK3 hM3 hB3 ⊢
      have hkt:=Keep.treesM HM.out hK3
      have hkr:=Keep.reM HM.out hK3
      have HR3:Hid (ReAt w3 (F + 1) ⟨4,[],[rx],lo,hi,sn⟩ (.pointer (some ⟨b,0,none⟩))):=⟨b,_,_,_,rfl,hB3,.inl ⟨rfl,rfl⟩,.inr ⟨rx,rfl,ReAt.keep hkr _ _ _ HA.out⟩,.inl ⟨rfl,rfl⟩⟩
      refine Calls.mono (IH.out (G.lastKid q) _ _ (F + 1) b ⟨sn + 1,false,sd⟩ bm _ (TreeAt.keep hkt _ _ _ HTL.out) HWL.out HSL.out hM3 HR3.out (by rw [← HF2.out]; exact HN.out)) ?_
      rintro e w5 ⟨b5,rfl,hR5,hM5,hK5⟩
      go_wp2
      go_ret
      refine ⟨b5,rfl,?_,?_,hK3.trans hK5⟩
      ·rw [HF2.out]; exact hR5
      ·rw [HF2.out]; exact hM5
theorem info_bool:∃ i:TypeInfo,Try.prog.info? 4=some i∧i.zero=some (.bool false)∧i.size=1∧i.bytes=1:=info_of (by kernel_rfl)
theorem rmake_bools (l:Int) (n:Nat) (hl:l=n) (hn:n≤1000000000) (w:World) :
    Sem.run Try.prog (Instr.makeSlice 100 (.int .i64 l) (.int .i64 l)) w=.ok (.slice (some ⟨w.heap.size,0,none⟩) n n) (w.alloc (.cells (zeroRow (.bool false) n) 4)):=by
 obtain ⟨i,h1,h2,h3,h4⟩:=info_bool
 exact run_make_row 100 4 i (.bool false) Try.underlying100 h1 h2 h3 rfl (by omega) l n hl hn w
theorem Wf.T {f:Nat} {τ:G.Tr} (h:G.Wf (f + 1) τ) (hs:τ.sym=84):(τ.alt=0∧τ.kids.length=1)∨(τ.alt=1∧τ.kids.length=3∧(G.kid τ 1).sym=65∧G.Wf f (G.kid τ 1))∨(τ.alt=2∧τ.kids.length=1)∨(τ.alt=3∧τ.kids.length=2) ∨
    (τ.alt=4∧τ.kids.length=3∧(G.kid τ 1).sym=73∧G.Wf f (G.kid τ 1))∨(τ.alt=5∧τ.kids.length=4∧(G.kid τ 2).sym=73∧G.Wf f (G.kid τ 2)):=by
 obtain ⟨l,h2,h3,h4⟩:=Wf.nt h (by rw [hs]; rfl)
 rw [hs] at h2
 have hl:=kids_len h3
 have h2':([[108],[40,65,41],[46],[92,120],[91,73,93],[91,94,73,93]]:List (List UInt8))[τ.alt]?=some l:=h2
 have hcase:(τ.alt=0∧l=[108])∨(τ.alt=1∧l=[40,65,41])∨(τ.alt=2∧l=[46])∨(τ.alt=3∧l=[92,120])∨(τ.alt=4∧l=[91,73,93])∨(τ.alt=5∧l=[91,94,73,93]):=by
  generalize τ.alt=a at h2'
  match a,h2' with
  | 0,h=>left; exact ⟨rfl,(Option.some.inj h).symm⟩
  | 1,h=>right; left; exact ⟨rfl,(Option.some.inj h).symm⟩
  | 2,h=>right; right; left; exact ⟨rfl,(Option.some.inj h).symm⟩
  | 3,h=>right; right; right; left; exact ⟨rfl,(Option.some.inj h).symm⟩
  | 4,h=>right; right; right; right; left; exact ⟨rfl,(Option.some.inj h).symm⟩
  | 5,h=>right; right; right; right; right; exact ⟨rfl,(Option.some.inj h).symm⟩
  | n + 6,h=>simp at h
 rcases hcase with ⟨ha,rfl⟩ | ⟨ha,rfl⟩ | ⟨ha,rfl⟩ | ⟨ha,rfl⟩ | ⟨ha,rfl⟩ | ⟨ha,rfl⟩
 ·exact .inl ⟨ha,hl⟩
 ·obtain ⟨m,e⟩:=kid_sym h3 1 (by decide)
  exact .inr (.inl ⟨ha,hl,e,h4 _ m⟩)
 ·exact .inr (.inr (.inl ⟨ha,hl⟩))
 ·exact .inr (.inr (.inr (.inl ⟨ha,hl⟩)))
 ·obtain ⟨m,e⟩:=kid_sym h3 1 (by decide)
  exact .inr (.inr (.inr (.inr (.inl ⟨ha,hl,e,h4 _ m⟩))))
 ·obtain ⟨m,e⟩:=kid_sym h3 2 (by decide)
  exact .inr (.inr (.inr (.inr (.inr ⟨ha,hl,e,h4 _ m⟩))))
theorem TreeAt.blk {w:World} {f:Nat} {τ:G.Tr} {v:Value} (h:TreeAt w (f + 1) τ v):∃ b kv,v=.pointer (some ⟨b,0,none⟩)∧BlkT w b 162 [.int .u8 (τ.sym.toNat:Int),.int .i64 (τ.alt:Int),kv,.int .u8 (τ.c.toNat:Int)]∧KidsAt (TreeAt w f) w τ.kids kv:=h
set_option maxRecDepth 10000 in
theorem setUpTo_all:setUpTo G.none256 0 256=G.all256:=by
 apply List.ext_getElem
 ·simp [setUpTo,G.all256]
 ·intro i h1 h2
  have:i<256:=by simpa [setUpTo] using h1
  simp only [setUpTo,G.all256,List.getElem_map,List.getElem_range,List.getElem_replicate]
  rw [decide_eq_true this,decide_eq_true (Nat.zero_le i)]
  exact Bool.or_true _
def negTo (J:List Bool) (c:Nat):List Bool:=(List.range 256).map fun x=>if x<c then !(J.getD x false) else J.getD x false
set_option maxRecDepth 10000 in
theorem negTo_zero (J:List Bool) (h:J.length=256):negTo J 0=J:=by
 apply List.ext_getElem
 ·simp [negTo,h]
 ·intro i h1 h2
  simp [negTo,List.getElem?_eq_getElem h2]
set_option maxRecDepth 10000 in
theorem negTo_at (J:List Bool) (c:Nat) (hc:c<256):(negTo J c).getD c false=J.getD c false:=by
 unfold negTo
 rw [List.getD_eq_getElem?_getD,List.getElem?_map,List.getElem?_range hc]
 simp
theorem negTo_step (J:List Bool) (c:Nat) (hc:c<256):(negTo J c).set c (!(J.getD c false))=negTo J (c + 1):=by
 apply List.ext_getElem
 ·simp [negTo]
 ·intro i h1 h2
  simp only [negTo,List.getElem_set,List.getElem_map,List.getElem_range]
  by_cases e:c=i
  ·subst e
   rw [if_pos rfl,if_pos (by omega)]
  ·rw [if_neg e]
   by_cases hlt:i<c
   ·rw [if_pos hlt,if_pos (by omega)]
   ·rw [if_neg hlt,if_neg (by omega)]
theorem negTo_all (J:List Bool) (h:J.length=256):negTo J 256=J.map (!·):=by
 apply List.ext_getElem
 ·simp [negTo,h]
 ·intro i h1 h2
  have hi:i<J.length:=by simpa using h2
  simp only [negTo,List.getElem_map,List.getElem_range]
  rw [if_pos (by omega),List.getD_eq_getElem?_getD,List.getElem?_eq_getElem hi]
  rfl
theorem Keep.fresh {w w3 w4:World} {bm g:Nat} (h:Keep [bm] w w3) (k:Keep [bm,g] w3 w4) (hg:w.heap.size≤g):Keep [bm] w w4 :=
 ⟨k.os.trans h.os,k.tape.trans h.tape,k.output.trans h.output,Nat.le_trans h.size k.size,fun i hi hs=>(k.block i (Nat.lt_of_lt_of_le hi h.size) (by simp at hs ⊢; omega)).trans (h.block i hi hs)⟩
theorem leaf_made {w w':World} {bm b g:Nat} {ins:List Bool} {st:G.Mk} {id:Nat} (hM:MkAt w' bm st) (hB:BlkT w' b 166 [.int .i64 1,.slice (some ⟨g,0,none⟩) 256 256,.pointer none,.pointer none,.int .i64 0,.int .i64 0,.int .i64 (id:Int)]) (hg:BlkT w' g 4 (ins.map Value.bool)) (hl:ins.length=256) (hK:Keep [bm] w w') :
    MadePost bm (⟨1,ins,[],0,0,id⟩,st) w (.returned (.pointer (some ⟨b,0,none⟩))) w' :=
 ⟨b,rfl,⟨1,b,_,_,_,rfl,hB,.inr ⟨hl,g,rfl,hg⟩,.inl ⟨rfl,rfl⟩,.inl ⟨rfl,rfl⟩⟩,hM,hK⟩
set_option maxRecDepth 100000 in
set_option maxHeartbeats 3200000 in
theorem leaf_any (f:Nat) (τ:G.Tr) (v:Value) (deep:Nat) (st:G.Mk) (bm:Nat) (w:World) (hT:TreeAt w (f + 1) τ v) (hW:G.Wf (f + 1) τ) (hs:τ.sym=84) (ha1:¬ τ.alt=1) (hM:MkAt w bm st) (hn:st.n≤1000000) (hd:deep≤1000000) :
    Calls Try.prog 99 #[.pointer (some ⟨bm,0,none⟩),v,.int .i64 (deep:Int)] w (MadePost bm (G.exF (f + 1) τ deep st) w):=by
 have hsh:=Wf.T hW hs
 have hneK:τ.kids ≠ []:=by rcases hsh with ⟨_,h⟩ | ⟨_,h,_⟩ | ⟨_,h⟩ | ⟨_,h⟩ | ⟨_,h,_⟩ | ⟨_,h,_⟩ <;> (intro e; rw [e] at h; cases h)
 have HE:Hid (G.exF (f + 1) τ deep st=if τ.alt=0 then (⟨1,G.oneByte (G.kid τ 0).c.toNat,[],0,0,st.n⟩,{ st with n:=st.n + 1 })
  else if τ.alt=2 then (⟨1,G.all256,[],0,0,st.n⟩,{ st with n:=st.n + 1 })
  else if τ.alt=3 then (⟨1,G.oneByte (G.kid τ 1).c.toNat,[],0,0,st.n⟩,{ st with n:=st.n + 1 })
  else if τ.alt=4 then (⟨1,(G.itemsF f (G.kid τ 1) G.none256 st.back).1,[],0,0,st.n⟩,{ st with n:=st.n + 1,back:=(G.itemsF f (G.kid τ 1) G.none256 st.back).2 })
  else (⟨1,(G.itemsF f (G.kid τ 2) G.none256 st.back).1.map (!·),[],0,0,st.n⟩,{ st with n:=st.n + 1,back:=(G.itemsF f (G.kid τ 2) G.none256 st.back).2 })):=by
  show _=_
  unfold G.exF
  rw [hs,if_neg (by decide),if_neg (by decide),if_neg (by decide),if_neg ha1]
 obtain ⟨bT,kv,rfl,hB,hK⟩:=hT.blk
 have hTm:bT ≠ bm:=hB.ne hM (by decide)
 have hbT:=hB.lt
 have tA:=hB.cell 1
 have tK:=hB.cell 2
 simp only [List.getElem?_cons_succ,List.getElem?_cons_zero] at tA tK
 obtain ⟨g0,cap0,rfl,hr⟩:=hK.row hneK
 have ha1':¬ (τ.alt:Int)=1:=by omega
 have hm:=rmake_bools 256 256 rfl (by omega)
 have HT:Hid (TreeAt w (f + 1) τ (.pointer (some ⟨bT,0,none⟩))):=hT
 have HM:Hid (MkAt w bm st):=hM
 have HSH:Hid ((τ.alt=0∧τ.kids.length=1)∨(τ.alt=1∧τ.kids.length=3∧(G.kid τ 1).sym=65∧G.Wf f (G.kid τ 1))∨(τ.alt=2∧τ.kids.length=1)∨(τ.alt=3∧τ.kids.length=2) ∨
  (τ.alt=4∧τ.kids.length=3∧(G.kid τ 1).sym=73∧G.Wf f (G.kid τ 1))∨(τ.alt=5∧τ.kids.length=4∧(G.kid τ 2).sym=73∧G.Wf f (G.kid τ 2))):=hsh
 have HR:Hid (∀ k,k<τ.kids.length→∃ p,w.cell? ⟨g0,k,none⟩=some p∧TreeAt w f ((τ.kids[k]?).getD G.nilTr) p):=hr
 have HG:Hid (g0 ≠ bm∧g0<w.heap.size):=by
  constructor
  ·intro e
   rcases hK with ⟨e1,_⟩ | ⟨g,cap,ptrs,e1,hrow,_⟩
   ·exact hneK e1
   ·cases e1
    obtain ⟨cur,hc,_⟩:=hrow
    have:=hM.typ g0 (by rw [e]; simp) _ _ (by subst e; exact hc)
    cases this
  ·obtain ⟨p,c,_⟩:=hr 0 (List.length_pos_iff.2 hneK)
   exact World.block_lt_of_cell? _ _ c
 have hbm:=BlkT.lt hM
 clear hsh hr hK hT hW hs
 go_enter Try.func99,Try.ntmps99
 go_wp2_with fail
 refine (make1_any bm st 1 none none _ hM hn (by omega)).mono ?_
 rintro e w2 ⟨b,rfl,hb,hBk,hM2,hK2⟩
 have hw2:=hK2.size
 have s1:w2.cell? ⟨b,1,none⟩=some (.slice none 0 0):=hBk.cell 1
 have z1:=hBk.frozen 1
 have hblt:=hBk.lt
 clear tA tK
 have tA:w2.cell? ⟨bT,1,none⟩=some (.int .i64 (τ.alt:Int)):=by rw [World.cell?_of_block (hK2.block bT hbT (by simp; exact hTm)),hB.cell 1]; rfl
 have tA3:((w2.setCell ⟨b,1,none⟩ (.slice (some ⟨w2.heap.size,0,none⟩) 256 256)).alloc (.cells (zeroRow (.bool false) 256) 4)).cell? ⟨bT,1,none⟩=some (.int .i64 (τ.alt:Int)):=by
  rw [World.cell?_of_block (Below.heap_alloc _ _ bT (by simp; omega)),World.cell?_of_block (Below.heap_setCell _ _ _ bT (by simp; omega))]; exact tA
 go_upto_if 73 with fail
 have hK3:Keep [bm] w ((w2.setCell ⟨b,1,none⟩ (.slice (some ⟨w2.heap.size,0,none⟩) 256 256)).alloc (.cells (zeroRow (.bool false) 256) 4)):=(hK2.setNew (p:=⟨b,1,none⟩) hb _).alloc _
 have hM3:MkAt ((w2.setCell ⟨b,1,none⟩ (.slice (some ⟨w2.heap.size,0,none⟩) 256 256)).alloc (.cells (zeroRow (.bool false) 256) 4)) bm { st with n:=st.n + 1 }:=(BlkT.other hM2 (by simp; omega) _).alloc _
 have hB3:BlkT ((w2.setCell ⟨b,1,none⟩ (.slice (some ⟨w2.heap.size,0,none⟩) 256 256)).alloc (.cells (zeroRow (.bool false) 256) 4)) b 166 [.int .i64 1,.slice (some ⟨w2.heap.size,0,none⟩) 256 256,.pointer none,.pointer none,.int .i64 0,.int .i64 0,.int .i64 (st.n:Int)]:=(hBk.set 1 (.slice (some ⟨w2.heap.size,0,none⟩) 256 256)).alloc _
 have hG3:BlkT ((w2.setCell ⟨b,1,none⟩ (.slice (some ⟨w2.heap.size,0,none⟩) 256 256)).alloc (.cells (zeroRow (.bool false) 256) 4)) w2.heap.size 4 (G.none256.map Value.bool):=by
  have:=BlkT.new (w2.setCell ⟨b,1,none⟩ (.slice (some ⟨w2.heap.size,0,none⟩) 256 256)) (zeroRow (.bool false) 256) 4
  have e1:(w2.setCell ⟨b,1,none⟩ (.slice (some ⟨w2.heap.size,0,none⟩) 256 256)).heap.size=w2.heap.size:=by simp
  rw [e1] at this
  have e2:(zeroRow (.bool false) 256).toList=G.none256.map Value.bool:=by simp [zeroRow,G.none256]
  rw [e2] at this
  exact this
 generalize (w2.setCell ⟨b,1,none⟩ (.slice (some ⟨w2.heap.size,0,none⟩) 256 256)).alloc (.cells (zeroRow (.bool false) 256) 4)=w3 at hK3 hM3 hB3 hG3 ⊢
 generalize w2.heap.size=g at hw2 hblt hB3 hG3 ⊢
 clear tA tA3 s1 z1 hBk hM2 hK2 w2 hm
 have hI3:InBlk w3 b g G.none256:=⟨hB3.cell 1,hG3,by simp [G.none256],_,hB3⟩
 have tB3:BlkT w3 bT 162 [.int .u8 (τ.sym.toNat:Int),.int .i64 (τ.alt:Int),.slice (some ⟨g0,0,none⟩) τ.kids.length cap0,.int .u8 (τ.c.toNat:Int)]:=hB.keep hK3 (by simp; exact hTm)
 have tA:=tB3.cell 1
 simp only [List.getElem?_cons_succ,List.getElem?_cons_zero] at tA
 have HT3:Hid (∀ k,k<τ.kids.length→∃ bk,w3.cell? ⟨g0,k,none⟩=some (.pointer (some ⟨bk,0,none⟩))∧w3.cell? ⟨bk,3,none⟩=some (.int .u8 ((G.kid τ k).c.toNat:Int))∧TreeAt w3 f (G.kid τ k) (.pointer (some ⟨bk,0,none⟩))):=by
  intro k hk
  obtain ⟨p,c1,c2⟩:=HR.out k hk
  have c3:TreeAt w3 f (G.kid τ k) p:=TreeAt.keep (Keep.treesM HM.out hK3) _ _ _ c2
  obtain ⟨bk,e,c4⟩:=c3.ptr
  subst e
  refine ⟨bk,?_,c4,c3⟩
  rw [World.cell?_of_block (hK3.block g0 HG.out.2 (by simp; exact HG.out.1))]; exact c1
 have hgb:g ≠ b:=hI3.ne
 have hgm:bm ≠ g∧bm ≠ b:=hM3.neIn hI3
 clear HR HG hB tB3 hbT
 rcases HSH.out with ⟨ha,hl⟩ | ⟨ha,_⟩ | ⟨ha,hl⟩ | ⟨ha,hl⟩ | ⟨ha,hl,k1,k2⟩ | ⟨ha,hl,k1,k2⟩
 ·obtain ⟨bk,c1,c2,_⟩:=HT3.out 0 (by omega)
  have HE2:Hid (G.exF (f + 1) τ deep st=(⟨1,G.oneByte (G.kid τ 0).c.toNat,[],0,0,st.n⟩,{ st with n:=st.n + 1 })):=by show _=_; rw [HE.out,if_pos ha]
  rw [ha] at tA ⊢
  rw [hl]
  have hc:(G.kid τ 0).c.toNat<256:=UInt8.toNat_lt _
  generalize (G.kid τ 0).c.toNat=c at c2 hc HE2
  have hcI:(c:Int)<256:=by omega
  obtain ⟨i1,i2⟩:=hI3.at c hc
  have ib:=hI3.cell
  clear HT3 HE HSH HT HM ha ha1 ha1'
  go_wp2_with fail
  go_region
  go_wp2
  go_ret
  rw [HE2.out]
  have hI4:=(hI3.set c true).keep (S:=[]) (Keep.refl [] _).drew (by simp) (by simp)
  have K5:Keep [g] w3 (w3.setCell ⟨g,c,none⟩ (.bool true)).drew:=((Keep.refl [g] w3).setCell (p:=⟨g,c,none⟩) (by simp) _).drew
  exact leaf_made (hM3.keep K5 (by simp; exact hgm.1)) (hB3.keep K5 (by simp; exact hgb.symm)) hI4.blk hI4.len (hK3.setNew (p:=⟨g,c,none⟩) hw2 _).drew
 ·exact (ha1 ha).elim
 ·have HE2:Hid (G.exF (f + 1) τ deep st=(⟨1,G.all256,[],0,0,st.n⟩,{ st with n:=st.n + 1 })):=by show _=_; rw [HE.out,if_neg (by omega),if_pos ha]
  rw [ha] at tA ⊢
  rw [hl]
  rw [show (((2:Nat):Int) == 0)=false from rfl,show ((2:Nat):Int)=2 from rfl]
  clear HT3 HE HSH HT HM ha ha1 ha1'
  have hI0:InBlk w3 b g (setUpTo G.none256 0 0):=by rw [setUpTo_start _ _ hI3.len]; exact hI3
  go_wp2_with fail
  go_loopw [9] (fun cv w5=>∃ c:Nat,c≤256∧cv=.int .i64 (c:Int)∧InBlk w5 b g (setUpTo G.none256 0 c)∧MkAt w5 bm { st with n:=st.n + 1 }∧BlkT w5 b 166 [.int .i64 1,.slice (some ⟨g,0,none⟩) 256 256,.pointer none,.pointer none,.int .i64 0,.int .i64 0,.int .i64 (st.n:Int)]∧Keep [bm] w w5) (fun cv _=>256 - (intOf cv).toNat)
  case atStart=>exact ⟨0,by omega,rfl,hI0,hM3,hB3,hK3⟩
  case round =>
   clear hI0 hM3 hB3 hK3 hI3 hG3 tA
   obtain ⟨c,hc,rfl,hIn,hMn,hBn,hKn⟩:=hrel
   have ic:=hIn.cell
   by_cases hcB:c<256
   ·obtain ⟨i1,i2⟩:=hIn.at c hcB
    have hc256:(c:Int)<256:=by omega
    go_wp2
    go_roundw
    case rel =>
     refine ⟨c + 1,by omega,by go_num,?_,hMn.keep (S:=[g]) ((Keep.refl [g] _).setCell (by simp) _) (by simp; exact hgm.1),hBn.other (by simp; exact hgb) _,hKn.setNew (p:=⟨g,c,none⟩) hw2 _⟩
     rw [← setUpTo_step _ _ _ (Nat.zero_le _)]
     exact hIn.set _ _
    case measure=>simp [intOf]; omega
   ·have h256:c=256:=by omega
    subst h256
    rw [setUpTo_all] at hIn
    go_wp2
    go_ret
    rw [HE2.out]
    exact leaf_made hMn hBn hIn.blk hIn.len hKn
 ·obtain ⟨bk,c1,c2,_⟩:=HT3.out 1 (by omega)
  have HE2:Hid (G.exF (f + 1) τ deep st=(⟨1,G.oneByte (G.kid τ 1).c.toNat,[],0,0,st.n⟩,{ st with n:=st.n + 1 })):=by show _=_; rw [HE.out,if_neg (by omega),if_neg (by omega),if_pos ha]
  rw [ha] at tA ⊢
  rw [hl]
  have hc:(G.kid τ 1).c.toNat<256:=UInt8.toNat_lt _
  generalize (G.kid τ 1).c.toNat=c at c2 hc HE2
  have hcI:(c:Int)<256:=by omega
  obtain ⟨i1,i2⟩:=hI3.at c hc
  have ib:=hI3.cell
  clear HT3 HE HSH HT HM ha ha1 ha1'
  go_wp2_with fail
  go_region
  go_wp2
  go_ret
  rw [HE2.out]
  have hI4:=(hI3.set c true).keep (S:=[]) (Keep.refl [] _).drew (by simp) (by simp)
  have K5:Keep [g] w3 (w3.setCell ⟨g,c,none⟩ (.bool true)).drew:=((Keep.refl [g] w3).setCell (p:=⟨g,c,none⟩) (by simp) _).drew
  exact leaf_made (hM3.keep K5 (by simp; exact hgm.1)) (hB3.keep K5 (by simp; exact hgb.symm)) hI4.blk hI4.len (hK3.setNew (p:=⟨g,c,none⟩) hw2 _).drew
 ·have HE2:Hid (G.exF (f + 1) τ deep st=(⟨1,(G.itemsF f (G.kid τ 1) G.none256 st.back).1,[],0,0,st.n⟩,{ st with n:=st.n + 1,back:=(G.itemsF f (G.kid τ 1) G.none256 st.back).2 })):=by show _=_; rw [HE.out,if_neg (by omega),if_neg (by omega),if_neg (by omega),if_pos ha]
  obtain ⟨bk,c1,_,c3⟩:=HT3.out 1 (by omega)
  have HTK:Hid (TreeAt w3 f (G.kid τ 1) (.pointer (some ⟨bk,0,none⟩))):=c3
  have HWK:Hid ((G.kid τ 1).sym=73∧G.Wf f (G.kid τ 1)):=⟨k1,k2⟩
  rw [ha] at tA ⊢
  rw [hl]
  clear HT3 HE HSH HT HM ha ha1 ha1' c3 k1 k2
  go_wp2_with fail
  refine (items_any f (G.kid τ 1) _ G.none256 { st with n:=st.n + 1 } bm b g w3 HTK.out HWK.out.2 HWK.out.1 hM3 hI3).mono ?_
  rintro e w4 ⟨rfl,hM4,hI4,hK4⟩
  go_wp2
  go_ret
  rw [HE2.out]
  exact leaf_made hM4 (hB3.keep hK4 (by simp; omega)) hI4.blk hI4.len (hK3.fresh hK4 hw2)
 ·have HE2:Hid (G.exF (f + 1) τ deep st=(⟨1,(G.itemsF f (G.kid τ 2) G.none256 st.back).1.map (!·),[],0,0,st.n⟩,{ st with n:=st.n + 1,back:=(G.itemsF f (G.kid τ 2) G.none256 st.back).2 })):=by show _=_; rw [HE.out,if_neg (by omega),if_neg (by omega),if_neg (by omega),if_neg (by omega)]
  obtain ⟨bk,c1,_,c3⟩:=HT3.out 2 (by omega)
  have HTK:Hid (TreeAt w3 f (G.kid τ 2) (.pointer (some ⟨bk,0,none⟩))):=c3
  have HWK:Hid ((G.kid τ 2).sym=73∧G.Wf f (G.kid τ 2)):=⟨k1,k2⟩
  rw [ha] at tA ⊢
  rw [hl]
  clear HT3 HE HSH HT HM ha ha1 ha1' c3 k1 k2
  go_wp2_with fail
  refine (items_any f (G.kid τ 2) _ G.none256 { st with n:=st.n + 1 } bm b g w3 HTK.out HWK.out.2 HWK.out.1 hM3 hI3).mono ?_
  rintro e w4 ⟨rfl,hM4,hI4,hK4⟩
  have hB4:=hB3.keep hK4 (by simp; omega)
  have hK5:=hK3.fresh hK4 hw2
  generalize (G.itemsF f (G.kid τ 2) G.none256 st.back).1=J at *
  generalize (G.itemsF f (G.kid τ 2) G.none256 st.back).2=bk2 at *
  have hI0:InBlk w4 b g (negTo J 0):=by rw [negTo_zero _ hI4.len]; exact hI4
  clear tA c1 hM3 hB3 hK3 hI3 hG3
  go_wp2_with fail
  go_loopw [10] (fun cv w5=>∃ c:Nat,c≤256∧cv=.int .i64 (c:Int)∧InBlk w5 b g (negTo J c)∧MkAt w5 bm { st with n:=st.n + 1,back:=bk2 }∧BlkT w5 b 166 [.int .i64 1,.slice (some ⟨g,0,none⟩) 256 256,.pointer none,.pointer none,.int .i64 0,.int .i64 0,.int .i64 (st.n:Int)]∧Keep [bm] w w5) (fun cv _=>256 - (intOf cv).toNat)
  case atStart=>exact ⟨0,by omega,rfl,hI0,hM4,hB4,hK5⟩
  case round =>
   have HJ:Hid (J.length=256):=hI4.len
   clear hI0 hM4 hB4 hK5 hI4 hK4
   obtain ⟨c,hc,rfl,hIn,hMn,hBn,hKn⟩:=hrel
   have ic:=hIn.cell
   by_cases hcB:c<256
   ·obtain ⟨i1,i2⟩:=hIn.at c hcB
    rw [negTo_at _ _ hcB] at i1
    have hc256:(c:Int)<256:=by omega
    have HST:Hid ((negTo J c).set c (!(J.getD c false))=negTo J (c + 1)):=negTo_step _ _ hcB
    generalize J.getD c false=x at i1 HST
    go_wp2_with fail
    go_region
    go_wp2
    go_roundw
    case rel =>
     have K5:Keep [g] wr (wr.setCell ⟨g,c,none⟩ (.bool !x)).drew:=((Keep.refl [g] wr).setCell (p:=⟨g,c,none⟩) (by simp) _).drew
     refine ⟨c + 1,by omega,by go_num,?_,hMn.keep K5 (by simp; exact hgm.1),hBn.keep K5 (by simp; exact hgb.symm),(hKn.setNew (p:=⟨g,c,none⟩) hw2 _).drew⟩
     rw [← HST.out]
     exact (hIn.set _ _).keep (S:=[]) (Keep.refl [] _).drew (by simp) (by simp)
    case measure=>simp [intOf]; omega
   ·have h256:c=256:=by omega
    subst h256
    rw [negTo_all _ HJ.out] at hIn
    go_wp2
    go_ret
    rw [HE2.out]
    exact leaf_made hMn hBn hIn.blk hIn.len hKn
theorem exF_n:∀ (f:Nat) (τ:G.Tr) (deep:Nat) (st:G.Mk),st.n≤(G.exF f τ deep st).2.n
 | 0,_,_,_=>Nat.le_refl _
 | f + 1,τ,deep,st=>by
  unfold G.exF
  split
  ·split
   ·exact exF_n f _ _ _
   ·exact Nat.le_trans (Nat.le_trans (exF_n f (G.kid τ 0) deep st) (exF_n f (G.kid τ 2) deep _)) (Nat.le_succ _)
  ·split
   ·split
    ·exact Nat.le_succ _
    ·exact Nat.le_trans (Nat.le_trans (exF_n f (G.kid τ 0) deep st) (exF_n f (G.kid τ 1) deep _)) (Nat.le_succ _)
   ·split
    ·exact Nat.le_trans (exF_n f (G.kid τ 0) deep st) (timesF_n f _ _ _)
    ·split
     ·exact exF_n f (G.kid τ 1) (deep + 1) { st with depth:=if st.depth<deep + 1 then deep + 1 else st.depth }
     ·split
      ·exact Nat.le_succ _
      ·split
       ·exact Nat.le_succ _
       ·split
        ·exact Nat.le_succ _
        ·split
         ·exact Nat.le_succ _
         ·exact Nat.le_succ _
theorem tree_cells {w:World} {f:Nat} {τ:G.Tr} {v:Value} {bm:Nat} {st:G.Mk} (hT:TreeAt w (f + 1) τ v) (hM:MkAt w bm st):∃ bT,v=.pointer (some ⟨bT,0,none⟩)∧∃ kv,(∀ w',Keep [bm] w w'→w'.cell? ⟨bT,0,none⟩=some (.int .u8 (τ.sym.toNat:Int))∧w'.cell? ⟨bT,1,none⟩=some (.int .i64 (τ.alt:Int))∧w'.cell? ⟨bT,2,none⟩=some kv) ∧
    (τ.kids ≠ []→∃ (g cap:Nat) (P:Nat→Nat),kv=.slice (some ⟨g,0,none⟩) τ.kids.length cap∧∀ w',Keep [bm] w w'→∀ k,k<τ.kids.length→w'.cell? ⟨g,k,none⟩=some (.pointer (some ⟨P k,0,none⟩))∧TreeAt w' f (G.kid τ k) (.pointer (some ⟨P k,0,none⟩)))∧(∃ x n c,kv=.slice x n c):=by
 obtain ⟨bT,kv,rfl,hB,hK⟩:=hT.blk
 have hTm:bT ≠ bm:=hB.ne hM (by decide)
 refine ⟨bT,rfl,kv,?_,?_,?_⟩
 ·intro w' k
  have hB':=hB.keep k (by simp; exact hTm)
  exact ⟨hB'.cell 0,hB'.cell 1,hB'.cell 2⟩
 ·intro hne
  obtain ⟨g,cap,rfl,hr⟩:=hK.row hne
  have hgm:g ≠ bm:=by
   intro e
   rcases hK with ⟨e1,_⟩ | ⟨g',cap',ptrs,e1,hrow,_⟩
   ·exact hne e1
   ·cases e1
    obtain ⟨cur,hc,_⟩:=hrow
    have:=hM.typ g (by rw [e]; simp) _ _ (by subst e; exact hc)
    cases this
  have hg:g<w.heap.size:=by
   obtain ⟨p,c,_⟩:=hr 0 (List.length_pos_iff.2 hne)
   exact World.block_lt_of_cell? _ _ c
  have hex:∀ k,∃ b:Nat,k<τ.kids.length→w.cell? ⟨g,k,none⟩=some (.pointer (some ⟨b,0,none⟩))∧TreeAt w f (G.kid τ k) (.pointer (some ⟨b,0,none⟩)):=by
   intro k
   by_cases hk:k<τ.kids.length
   ·obtain ⟨p,c1,c2⟩:=hr k hk
    obtain ⟨b,e,_⟩:=c2.ptr
    subst e
    exact ⟨b,fun _=>⟨c1,c2⟩⟩
   ·exact ⟨0,fun h=>(hk h).elim⟩
  obtain ⟨P,hP⟩:=Classical.axiomOfChoice hex
  refine ⟨g,cap,P,rfl,fun w' kp k hk=>?_⟩
  obtain ⟨c1,c2⟩:=hP k hk
  refine ⟨?_,TreeAt.keep (Keep.treesM hM kp) _ _ _ c2⟩
  rw [World.cell?_of_block (kp.block g hg (by simp; exact hgm))]; exact c1
 ·rcases hK with ⟨_,e⟩ | ⟨g',cap',ptrs,e1,_⟩
  ·exact ⟨_,_,_,e⟩
  ·exact ⟨_,_,_,e1⟩
theorem Wf.A {f:Nat} {τ:G.Tr} (h:G.Wf (f + 1) τ) (hs:τ.sym=65):(G.kid τ 0).sym=67∧G.Wf f (G.kid τ 0)∧((τ.alt=0∧τ.kids.length=1)∨(τ.alt=1∧τ.kids.length=3∧(G.kid τ 2).sym=65∧G.Wf f (G.kid τ 2))):=by
 obtain ⟨l,h2,h3,h4⟩:=Wf.nt h (by rw [hs]; rfl)
 rw [hs] at h2
 have hl:=kids_len h3
 rcases two_alts (x:=[67]) (y:=[67,124,65]) h2 with ⟨ha,rfl⟩ | ⟨ha,rfl⟩
 ·obtain ⟨m,e⟩:=kid_sym h3 0 (by decide)
  exact ⟨e,h4 _ m,.inl ⟨ha,hl⟩⟩
 ·obtain ⟨m,e⟩:=kid_sym h3 0 (by decide)
  obtain ⟨m2,e2⟩:=kid_sym h3 2 (by decide)
  exact ⟨e,h4 _ m,.inr ⟨ha,hl,e2,h4 _ m2⟩⟩
theorem Wf.C {f:Nat} {τ:G.Tr} (h:G.Wf (f + 1) τ) (hs:τ.sym=67):(τ.alt=0∧τ.kids.length=0)∨(τ.alt=1∧τ.kids.length=2∧(G.kid τ 0).sym=82∧G.Wf f (G.kid τ 0)∧(G.kid τ 1).sym=67∧G.Wf f (G.kid τ 1)):=by
 obtain ⟨l,h2,h3,h4⟩:=Wf.nt h (by rw [hs]; rfl)
 rw [hs] at h2
 have hl:=kids_len h3
 rcases two_alts (x:=[]) (y:=[82,67]) h2 with ⟨ha,rfl⟩ | ⟨ha,rfl⟩
 ·exact .inl ⟨ha,hl⟩
 ·obtain ⟨m,e⟩:=kid_sym h3 0 (by decide)
  obtain ⟨m2,e2⟩:=kid_sym h3 1 (by decide)
  exact .inr ⟨ha,hl,e,h4 _ m,e2,h4 _ m2⟩
theorem Wf.R {f:Nat} {τ:G.Tr} (h:G.Wf (f + 1) τ) (hs:τ.sym=82):τ.kids.length=2∧(G.kid τ 0).sym=84∧G.Wf f (G.kid τ 0)∧(G.kid τ 1).sym=81∧G.Wf f (G.kid τ 1):=by
 obtain ⟨l,h2,h3,h4⟩:=Wf.nt h (by rw [hs]; rfl)
 rw [hs] at h2
 have hl:=kids_len h3
 have h2':([[84,81]]:List (List UInt8))[τ.alt]?=some l:=h2
 obtain rfl:l=[84,81]:=by
  generalize τ.alt=a at h2'
  match a,h2' with
  | 0,h=>exact (Option.some.inj h).symm
  | n + 1,h=>simp at h
 obtain ⟨m,e⟩:=kid_sym h3 0 (by decide)
 obtain ⟨m2,e2⟩:=kid_sym h3 1 (by decide)
 exact ⟨hl,e,h4 _ m,e2,h4 _ m2⟩
def ExprOk (f:Nat):Prop:=∀ (τ:G.Tr) (v:Value) (deep:Nat) (st:G.Mk) (bm:Nat) (w:World),TreeAt w f τ v→G.Wf f τ→(τ.sym=65∨τ.sym=67∨τ.sym=82)→MkAt w bm st→deep + f≤1000000→(G.exF f τ deep st).2.n≤1000000 →
 Calls Try.prog 85 #[.pointer (some ⟨bm,0,none⟩),v,.int .i64 (deep:Int)] w (MadePost bm (G.exF f τ deep st) w)
def AtomOk (f:Nat):Prop:=∀ (τ:G.Tr) (v:Value) (deep:Nat) (st:G.Mk) (bm:Nat) (w:World),TreeAt w f τ v→G.Wf f τ→τ.sym=84→MkAt w bm st→deep + f≤1000000→(G.exF f τ deep st).2.n≤1000000 →
 Calls Try.prog 99 #[.pointer (some ⟨bm,0,none⟩),v,.int .i64 (deep:Int)] w (MadePost bm (G.exF f τ deep st) w)
set_option maxRecDepth 100000 in
set_option maxHeartbeats 3200000 in
theorem atom_step (f:Nat) (IH:ExprOk f):AtomOk (f + 1):=by
 intro τ v deep st bm w hT hW hs hM hd hn
 by_cases ha:τ.alt=1
 ·rcases Wf.T hW hs with ⟨h,_⟩ | ⟨_,hl,k1,k2⟩ | ⟨h,_⟩ | ⟨h,_⟩ | ⟨h,_⟩ | ⟨h,_⟩
  ·omega
  ·obtain ⟨bT,rfl,kv,hc,hk,_⟩:=tree_cells hT hM
   have hne:τ.kids ≠ []:=by intro e; rw [e] at hl; cases hl
   obtain ⟨g,cap,P,rfl,hP⟩:=hk hne
   obtain ⟨_,tA,tK⟩:=hc w (Keep.refl _ _)
   obtain ⟨c1,c2⟩:=hP w (Keep.refl _ _) 1 (by omega)
   have HP:Hid (∀ w',Keep [bm] w w'→∀ k,k<τ.kids.length→w'.cell? ⟨g,k,none⟩=some (.pointer (some ⟨P k,0,none⟩))∧TreeAt w' f (G.kid τ k) (.pointer (some ⟨P k,0,none⟩))):=hP
   have HL:Hid (τ.kids.length=3):=hl
   have HE:Hid (G.exF (f + 1) τ deep st=G.exF f (G.kid τ 1) (deep + 1) { st with depth:=if st.depth<deep + 1 then deep + 1 else st.depth }):=by
    show _=_
    rw [G.exF,if_neg (by rw [hs]; decide),if_neg (by rw [hs]; decide),if_neg (by rw [hs]; decide),if_pos ha]
   have HN:Hid ((G.exF (f + 1) τ deep st).2.n≤1000000):=hn
   have HI:Hid (ExprOk f):=IH
   have HK:Hid ((G.kid τ 1).sym=65∧G.Wf f (G.kid τ 1)):=⟨k1,k2⟩
   obtain ⟨sn,sb,sd⟩:=st
   have m2:w.cell? ⟨bm,2,none⟩=some (.int .i64 (sd:Int)):=BlkT.cell hM 2
   have z2:=BlkT.frozen hM 2
   have HM:Hid (MkAt w bm ⟨sn,sb,sd⟩):=hM
   rw [ha] at tA
   rw [hl] at tK
   clear hT hW hs hc hk hP c2 hn IH k1 k2 ha hM hne hl
   by_cases hlt:sd<deep + 1
   ·have hlt':(sd:Int)<(deep:Int) + 1:=by omega
    have HE2:Hid (G.exF (f + 1) τ deep ⟨sn,sb,sd⟩=G.exF f (G.kid τ 1) (deep + 1) ⟨sn,sb,deep + 1⟩):=by
     have e:=HE.out
     simp only [if_pos hlt] at e
     exact e
    have hKs:Keep [bm] w (w.setCell ⟨bm,2,none⟩ (.int .i64 ((deep:Int) + 1))):=(Keep.refl _ _).setCell (by simp) _
    obtain ⟨c1',c2'⟩:=HP.out _ hKs 1 (by rw [HL.out]; omega)
    have HC2:Hid (TreeAt (w.setCell ⟨bm,2,none⟩ (.int .i64 ((deep:Int) + 1))) f (G.kid τ 1) (.pointer (some ⟨P 1,0,none⟩))):=c2'
    have hMs:MkAt (w.setCell ⟨bm,2,none⟩ (.int .i64 ((deep:Int) + 1))) bm ⟨sn,sb,deep + 1⟩:=BlkT.set HM.out 2 _
    clear c2' HE hlt
    go_enter Try.func99,Try.ntmps99
    go_wp2_with fail
    refine (HI.out (G.kid τ 1) _ (deep + 1) ⟨sn,sb,deep + 1⟩ bm _ HC2.out HK.out.2 (.inl HK.out.1) hMs (by omega) (by rw [← HE2.out]; exact HN.out)).mono ?_
    rintro e w2 ⟨b,rfl,hR,hM2,hK2⟩
    go_wp2
    go_ret
    rw [HE2.out]
    exact ⟨b,rfl,hR,hM2,hKs.trans hK2⟩
   ·have hlt':¬ (sd:Int)<(deep:Int) + 1:=by omega
    have HE2:Hid (G.exF (f + 1) τ deep ⟨sn,sb,sd⟩=G.exF f (G.kid τ 1) (deep + 1) ⟨sn,sb,sd⟩):=by
     have e:=HE.out
     simp only [if_neg hlt] at e
     exact e
    obtain ⟨_,c2'⟩:=HP.out _ (Keep.refl _ _) 1 (by rw [HL.out]; omega)
    have HC2:Hid (TreeAt w f (G.kid τ 1) (.pointer (some ⟨P 1,0,none⟩))):=c2'
    clear c2' HE hlt
    go_enter Try.func99,Try.ntmps99
    go_wp2_with fail
    refine (HI.out (G.kid τ 1) _ (deep + 1) ⟨sn,sb,sd⟩ bm _ HC2.out HK.out.2 (.inl HK.out.1) HM.out (by omega) (by rw [← HE2.out]; exact HN.out)).mono ?_
    rintro e w2 ⟨b,rfl,hR,hM2,hK2⟩
    go_wp2
    go_ret
    rw [HE2.out]
    exact ⟨b,rfl,hR,hM2,hK2⟩
  ·omega
  ·omega
  ·omega
  ·omega
 ·have hn1:st.n≤1000000:=Nat.le_trans (exF_n (f + 1) τ deep st) hn
  exact leaf_any f τ v deep st bm w hT hW hs ha hM hn1 (by omega)
theorem ReAt.two {w:World} {F1 F2 b kind n:Nat} {r1 r2:G.Rx} {v1 v2:Value} (hB:BlkT w b 166 [.int .i64 (kind:Int),.slice none 0 0,v1,v2,.int .i64 0,.int .i64 0,.int .i64 (n:Int)]) (h1:ReAt w F1 r1 v1) (h2:ReAt w F2 r2 v2):∃ F,ReAt w F ⟨kind,[],[r1,r2],0,0,n⟩ (.pointer (some ⟨b,0,none⟩)) :=
 ⟨F1 + F2 + 1,b,_,_,_,rfl,hB,.inl ⟨rfl,rfl⟩,.inr ⟨r1,rfl,ReAt.le w F1 r1 v1 h1 F2⟩,.inr ⟨r2,rfl,by rw [Nat.add_comm F1 F2]; exact ReAt.le w F2 r2 v2 h2 F1⟩⟩
set_option maxRecDepth 100000 in
set_option maxHeartbeats 3200000 in
theorem expr_A (f:Nat) (IH:ExprOk f) (τ:G.Tr) (v:Value) (deep:Nat) (st:G.Mk) (bm:Nat) (w:World) (hT:TreeAt w (f + 1) τ v) (hW:G.Wf (f + 1) τ) (hs:τ.sym=65) (hM:MkAt w bm st) (hd:deep + (f + 1)≤1000000) (hn:(G.exF (f + 1) τ deep st).2.n≤1000000) :
    Calls Try.prog 85 #[.pointer (some ⟨bm,0,none⟩),v,.int .i64 (deep:Int)] w (MadePost bm (G.exF (f + 1) τ deep st) w):=by
 obtain ⟨k1,k2,hcase⟩:=Wf.A hW hs
 obtain ⟨bT,rfl,kv,hc,hk,_⟩:=tree_cells hT hM
 have hne:τ.kids ≠ []:=by rcases hcase with ⟨_,h⟩ | ⟨_,h,_⟩ <;> (intro e; rw [e] at h; cases h)
 have hpos:0<τ.kids.length:=List.length_pos_iff.2 hne
 obtain ⟨g,cap,P,rfl,hP⟩:=hk hne
 have HI:Hid (ExprOk f):=IH
 have HM:Hid (MkAt w bm st):=hM
 have HN:Hid ((G.exF (f + 1) τ deep st).2.n≤1000000):=hn
 have HK:Hid ((G.kid τ 0).sym=67∧G.Wf f (G.kid τ 0)):=⟨k1,k2⟩
 obtain ⟨tS,tA,tK⟩:=hc w (Keep.refl _ _)
 obtain ⟨c1,c2⟩:=hP w (Keep.refl _ _) 0 hpos
 have HC2:Hid (TreeAt w f (G.kid τ 0) (.pointer (some ⟨P 0,0,none⟩))):=c2
 have HP:Hid (∀ w',Keep [bm] w w'→∀ k,k<τ.kids.length→w'.cell? ⟨g,k,none⟩=some (.pointer (some ⟨P k,0,none⟩))∧TreeAt w' f (G.kid τ k) (.pointer (some ⟨P k,0,none⟩))):=hP
 have HC:Hid (∀ w',Keep [bm] w w'→w'.cell? ⟨bT,0,none⟩=some (.int .u8 (τ.sym.toNat:Int))∧w'.cell? ⟨bT,1,none⟩=some (.int .i64 (τ.alt:Int))∧w'.cell? ⟨bT,2,none⟩=some (.slice (some ⟨g,0,none⟩) τ.kids.length cap)):=hc
 rw [hs] at tS
 have tS':w.cell? ⟨bT,0,none⟩=some (.int .u8 65):=tS
 rcases hcase with ⟨ha,hl⟩ | ⟨ha,hl,k3,k4⟩
 ·have HE:Hid (G.exF (f + 1) τ deep st=G.exF f (G.kid τ 0) deep st):=by
     show _=_
     rw [G.exF,if_pos hs,if_pos ha]
  have HA:Hid (τ.alt=0):=ha
  rw [hl] at tK
  clear hT hW hs hc hk hP c2 hn IH k1 k2 ha hM hne hpos tS hl
  go_enter Try.func85,Try.ntmps85
  go_wp2_with fail
  refine (HI.out (G.kid τ 0) _ deep st bm _ HC2.out HK.out.2 (.inr (.inl HK.out.1)) HM.out (by omega) (by rw [← HE.out]; exact HN.out)).mono ?_
  rintro e w2 ⟨b,rfl,hR,hM2,hK2⟩
  have tA2:=(HC.out w2 hK2).2.1
  rw [HA.out] at tA2
  go_wp2
  go_ret
  rw [HE.out]
  exact ⟨b,rfl,hR,hM2,hK2⟩
 ·have HE:Hid (G.exF (f + 1) τ deep st=(⟨3,[],[(G.exF f (G.kid τ 0) deep st).1,(G.exF f (G.kid τ 2) deep (G.exF f (G.kid τ 0) deep st).2).1],0,0,(G.exF f (G.kid τ 2) deep (G.exF f (G.kid τ 0) deep st).2).2.n⟩,
       { (G.exF f (G.kid τ 2) deep (G.exF f (G.kid τ 0) deep st).2).2 with n:=(G.exF f (G.kid τ 2) deep (G.exF f (G.kid τ 0) deep st).2).2.n + 1 })):=by
     show _=_
     rw [G.exF,if_pos hs,if_neg (by omega)]
  have HA:Hid (τ.alt=1):=ha
  have HL:Hid (τ.kids.length=3):=hl
  have HK3:Hid ((G.kid τ 2).sym=65∧G.Wf f (G.kid τ 2)):=⟨k3,k4⟩
  have hn2:(G.exF f (G.kid τ 2) deep (G.exF f (G.kid τ 0) deep st).2).2.n + 1≤1000000:=by rw [HE.out] at hn; exact hn
  have hn1:(G.exF f (G.kid τ 0) deep st).2.n≤1000000:=Nat.le_trans (exF_n f (G.kid τ 2) deep _) (Nat.le_of_succ_le hn2)
  have HN1:Hid ((G.exF f (G.kid τ 0) deep st).2.n≤1000000):=hn1
  rw [hl] at tK
  clear hT hW hs hc hk hP c2 hn IH k1 k2 ha hM hne hpos tS hl hn1 k3 k4
  generalize hE1:G.exF f (G.kid τ 0) deep st=E1 at HE hn2 HN1
  generalize hE2:G.exF f (G.kid τ 2) deep E1.2=E2 at HE hn2
  have HE1:Hid (G.exF f (G.kid τ 0) deep st=E1):=hE1
  have HE2:Hid (G.exF f (G.kid τ 2) deep E1.2=E2):=hE2
  have HN2:Hid (E2.2.n + 1≤1000000):=hn2
  clear hE1 hE2 hn2
  go_enter Try.func85,Try.ntmps85
  go_wp2_with fail
  refine (HI.out (G.kid τ 0) _ deep st bm _ HC2.out HK.out.2 (.inr (.inl HK.out.1)) HM.out (by omega) (by rw [HE1.out]; exact HN1.out)).mono ?_
  rw [HE1.out]
  rintro e w2 ⟨b,rfl,⟨F1,hR⟩,hM2,hK2⟩
  have HR1:Hid (ReAt w2 F1 E1.1 (.pointer (some ⟨b,0,none⟩))):=hR
  have HM2:Hid (MkAt w2 bm E1.2):=hM2
  have tA2:=(HC.out w2 hK2).2.1
  rw [HA.out] at tA2
  obtain ⟨d1,d2⟩:=HP.out w2 hK2 2 (by rw [HL.out]; omega)
  have HD2:Hid (TreeAt w2 f (G.kid τ 2) (.pointer (some ⟨P 2,0,none⟩))):=d2
  clear d2 hR hM2
  go_wp2_with fail
  refine (HI.out (G.kid τ 2) _ deep E1.2 bm _ HD2.out HK3.out.2 (.inl HK3.out.1) HM2.out (by omega) (by rw [HE2.out]; exact Nat.le_of_succ_le HN2.out)).mono ?_
  rw [HE2.out]
  rintro e w3 ⟨b3,rfl,⟨F2,hR⟩,hM3,hK3⟩
  have HR1':Hid (ReAt w3 F1 E1.1 (.pointer (some ⟨b,0,none⟩))):=ReAt.keep (Keep.reM HM2.out hK3) _ _ _ HR1.out
  have HR2:Hid (ReAt w3 F2 E2.1 (.pointer (some ⟨b3,0,none⟩))):=hR
  have HM3:Hid (MkAt w3 bm E2.2):=hM3
  clear hR hM3 tA2 d1 tA tK c1 tS'
  go_wp2_with fail
  refine (make1_any bm E2.2 3 (some ⟨b,0,none⟩) (some ⟨b3,0,none⟩) _ HM3.out (Nat.le_of_succ_le HN2.out) (by omega)).mono ?_
  rintro e w4 ⟨b4,rfl,_,hB4,hM4,hK4⟩
  go_wp2
  go_ret
  rw [HE.out]
  exact ⟨b4,rfl,ReAt.two hB4 (ReAt.keep (Keep.reM HM3.out hK4) _ _ _ HR1'.out) (ReAt.keep (Keep.reM HM3.out hK4) _ _ _ HR2.out),hM4,hK2.trans (hK3.trans hK4)⟩
end Go.Proofs.Ytjmkkkfloalliab
