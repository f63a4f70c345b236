import Derived.Test.YtjmkkkfloalliabZ13
import Derived.Test.YtjmkkkfloalliabZ01
import Derived.Test.YtjmkkkfloalliabZ11
import Derived.Test.YtjmkkkfloalliabZ08
import Derived.Test.YtjmkkkfloalliabZ06
import Derived.Test.YtjmkkkfloalliabZ05
import Derived.Test.YtjmkkkfloalliabZ09
import Derived.Test.YtjmkkkfloalliabZ10
import Derived.Test.YtjmkkkfloalliabZ04
import Derived.Laws.CopyOwn
import Derived.Deep.RegionLaw
namespace Go.Proofs.Ytjmkkkfloalliab
set_option linter.unusedVariables false
open Go.RowKit
set_option maxRecDepth 100000 in
set_option maxHeartbeats 3200000 in
theorem expr_C (f:Nat) (IH:ExprOk f) (τ:G.Tr) (v:Value) (deep:Nat) (st:G.Mk) (bm:Nat) (w:World) (hT:TreeAt w (f + 1) τ v) (hW:G.Wf (f + 1) τ) (hs:τ.sym=67) (hM:MkAt w bm st) (hd:deep + (f + 1)≤1000000) (hn:(G.exF (f + 1) τ deep st).2.n≤1000000) :
    Calls Try.prog 85 #[.pointer (some ⟨bm,0,none⟩),v,.int .i64 (deep:Int)] w (MadePost bm (G.exF (f + 1) τ deep st) w):=by
 obtain ⟨bT,rfl,kv,hc,hk,x,n,c,e⟩:=tree_cells hT hM
 have HI:Hid (ExprOk f):=IH
 have HM:Hid (MkAt w bm st):=hM
 have hn0:st.n≤1000000:=Nat.le_trans (exF_n (f + 1) τ deep st) hn
 obtain ⟨tS,tA,tK⟩:=hc w (Keep.refl _ _)
 rw [hs] at tS
 have tS':w.cell? ⟨bT,0,none⟩=some (.int .u8 67):=tS
 rcases Wf.C hW hs with ⟨ha,hl⟩ | ⟨ha,hl,k1,k2,k3,k4⟩
 ·have HE:Hid (G.exF (f + 1) τ deep st=(⟨0,[],[],0,0,st.n⟩,{ st with n:=st.n + 1 })):=by
     show _=_
     rw [G.exF,if_neg (by rw [hs]; decide),if_pos hs,if_pos ha]
  rw [ha] at tA
  rw [e] at tK
  clear hT hW hs hc hk hn IH ha hM tS hl e
  go_enter Try.func85,Try.ntmps85
  go_wp2_with fail
  refine (make1_any bm st 0 none none _ HM.out hn0 (by omega)).mono ?_
  rintro e w4 ⟨b4,rfl,_,hB4,hM4,hK4⟩
  go_wp2
  go_ret
  rw [HE.out]
  exact ⟨b4,rfl,⟨1,b4,_,_,_,rfl,hB4,.inl ⟨rfl,rfl⟩,.inl ⟨rfl,rfl⟩,.inl ⟨rfl,rfl⟩⟩,hM4,hK4⟩
 ·have hne:τ.kids ≠ []:=by intro e; rw [e] at hl; cases hl
  obtain ⟨g,cap,P,rfl,hP⟩:=hk hne
  obtain ⟨c1,c2⟩:=hP w (Keep.refl _ _) 0 (by omega)
  have HC2:Hid (TreeAt w f (G.kid τ 0) (.pointer (some ⟨P 0,0,none⟩))):=c2
  have HP:Hid (∀ w',Keep [bm] w w'→∀ k,k<τ.kids.length→w'.cell? ⟨g,k,none⟩=some (.pointer (some ⟨P k,0,none⟩))∧TreeAt w' f (G.kid τ k) (.pointer (some ⟨P k,0,none⟩))):=hP
  have HE:Hid (G.exF (f + 1) τ deep st=(⟨2,[],[(G.exF f (G.kid τ 0) deep st).1,(G.exF f (G.kid τ 1) deep (G.exF f (G.kid τ 0) deep st).2).1],0,0,(G.exF f (G.kid τ 1) deep (G.exF f (G.kid τ 0) deep st).2).2.n⟩,
      { (G.exF f (G.kid τ 1) deep (G.exF f (G.kid τ 0) deep st).2).2 with n:=(G.exF f (G.kid τ 1) deep (G.exF f (G.kid τ 0) deep st).2).2.n + 1 })):=by
   show _=_
   rw [G.exF,if_neg (by rw [hs]; decide),if_pos hs,if_neg (by omega)]
  have HL:Hid (τ.kids.length=2):=hl
  have HK:Hid ((G.kid τ 0).sym=82∧G.Wf f (G.kid τ 0)):=⟨k1,k2⟩
  have HK3:Hid ((G.kid τ 1).sym=67∧G.Wf f (G.kid τ 1)):=⟨k3,k4⟩
  have hn2:(G.exF f (G.kid τ 1) deep (G.exF f (G.kid τ 0) deep st).2).2.n + 1≤1000000:=by rw [HE.out] at hn; exact hn
  have hn1:(G.exF f (G.kid τ 0) deep st).2.n≤1000000:=Nat.le_trans (exF_n f (G.kid τ 1) deep _) (Nat.le_of_succ_le hn2)
  have HN1:Hid ((G.exF f (G.kid τ 0) deep st).2.n≤1000000):=hn1
  rw [hl] at tK
  rw [ha] at tA
  clear hT hW hs hc hk hP c2 hn IH k1 k2 ha hM hne tS hl hn1 k3 k4 e
  generalize hE1:G.exF f (G.kid τ 0) deep st=E1 at HE hn2 HN1
  generalize hE2:G.exF f (G.kid τ 1) deep E1.2=E2 at HE hn2
  have HE1:Hid (G.exF f (G.kid τ 0) deep st=E1):=hE1
  have HE2:Hid (G.exF f (G.kid τ 1) deep E1.2=E2):=hE2
  have HN2:Hid (E2.2.n + 1≤1000000):=hn2
  clear hE1 hE2 hn2
  go_enter Try.func85,Try.ntmps85
  go_wp2_with fail
  refine (HI.out (G.kid τ 0) _ deep st bm _ HC2.out HK.out.2 (.inr (.inr HK.out.1)) HM.out (by omega) (by rw [HE1.out]; exact HN1.out)).mono ?_
  rw [HE1.out]
  rintro e w2 ⟨b,rfl,⟨F1,hR⟩,hM2,hK2⟩
  have HR1:Hid (ReAt w2 F1 E1.1 (.pointer (some ⟨b,0,none⟩))):=hR
  have HM2:Hid (MkAt w2 bm E1.2):=hM2
  obtain ⟨d1,d2⟩:=HP.out w2 hK2 1 (by rw [HL.out]; omega)
  have HD2:Hid (TreeAt w2 f (G.kid τ 1) (.pointer (some ⟨P 1,0,none⟩))):=d2
  clear d2 hR hM2
  go_wp2_with fail
  refine (HI.out (G.kid τ 1) _ deep E1.2 bm _ HD2.out HK3.out.2 (.inr (.inl HK3.out.1)) HM2.out (by omega) (by rw [HE2.out]; exact Nat.le_of_succ_le HN2.out)).mono ?_
  rw [HE2.out]
  rintro e w3 ⟨b3,rfl,⟨F2,hR⟩,hM3,hK3⟩
  have HR1':Hid (ReAt w3 F1 E1.1 (.pointer (some ⟨b,0,none⟩))):=ReAt.keep (Keep.reM HM2.out hK3) _ _ _ HR1.out
  have HR2:Hid (ReAt w3 F2 E2.1 (.pointer (some ⟨b3,0,none⟩))):=hR
  have HM3:Hid (MkAt w3 bm E2.2):=hM3
  clear hR hM3 d1 tA tK c1 tS'
  go_wp2_with fail
  refine (make1_any bm E2.2 2 (some ⟨b,0,none⟩) (some ⟨b3,0,none⟩) _ HM3.out (Nat.le_of_succ_le HN2.out) (by omega)).mono ?_
  rintro e w4 ⟨b4,rfl,_,hB4,hM4,hK4⟩
  go_wp2
  go_ret
  rw [HE.out]
  exact ⟨b4,rfl,ReAt.two hB4 (ReAt.keep (Keep.reM HM3.out hK4) _ _ _ HR1'.out) (ReAt.keep (Keep.reM HM3.out hK4) _ _ _ HR2.out),hM4,hK2.trans (hK3.trans hK4)⟩
set_option maxRecDepth 100000 in
set_option maxHeartbeats 3200000 in
theorem expr_R (f:Nat) (IH:AtomOk f) (τ:G.Tr) (v:Value) (deep:Nat) (st:G.Mk) (bm:Nat) (w:World) (hT:TreeAt w (f + 1) τ v) (hW:G.Wf (f + 1) τ) (hs:τ.sym=82) (hM:MkAt w bm st) (hd:deep + (f + 1)≤1000000) (hn:(G.exF (f + 1) τ deep st).2.n≤1000000) :
    Calls Try.prog 85 #[.pointer (some ⟨bm,0,none⟩),v,.int .i64 (deep:Int)] w (MadePost bm (G.exF (f + 1) τ deep st) w):=by
 obtain ⟨bT,rfl,kv,hc,hk,_⟩:=tree_cells hT hM
 have HI:Hid (AtomOk f):=IH
 have HM:Hid (MkAt w bm st):=hM
 obtain ⟨tS,tA,tK⟩:=hc w (Keep.refl _ _)
 rw [hs] at tS
 have tS':w.cell? ⟨bT,0,none⟩=some (.int .u8 82):=tS
 obtain ⟨hl,k1,k2,k3,k4⟩:=Wf.R hW hs
 have hne:τ.kids ≠ []:=by intro e; rw [e] at hl; cases hl
 obtain ⟨g,cap,P,rfl,hP⟩:=hk hne
 obtain ⟨c1,c2⟩:=hP w (Keep.refl _ _) 0 (by omega)
 have HC2:Hid (TreeAt w f (G.kid τ 0) (.pointer (some ⟨P 0,0,none⟩))):=c2
 have HP:Hid (∀ w',Keep [bm] w w'→∀ k,k<τ.kids.length→w'.cell? ⟨g,k,none⟩=some (.pointer (some ⟨P k,0,none⟩))∧TreeAt w' f (G.kid τ k) (.pointer (some ⟨P k,0,none⟩))):=hP
 have HE:Hid (G.exF (f + 1) τ deep st=G.timesF f (G.exF f (G.kid τ 0) deep st).1 (G.kid τ 1) (G.exF f (G.kid τ 0) deep st).2):=by
  show _=_
  rw [G.exF,if_neg (by rw [hs]; decide),if_neg (by rw [hs]; decide),if_pos hs]
 have HL:Hid (τ.kids.length=2):=hl
 have HK:Hid ((G.kid τ 0).sym=84∧G.Wf f (G.kid τ 0)):=⟨k1,k2⟩
 have HK3:Hid ((G.kid τ 1).sym=81∧G.Wf f (G.kid τ 1)):=⟨k3,k4⟩
 have HN2:Hid ((G.timesF f (G.exF f (G.kid τ 0) deep st).1 (G.kid τ 1) (G.exF f (G.kid τ 0) deep st).2).2.n≤1000000):=by rw [HE.out] at hn; exact hn
 have HN1:Hid ((G.exF f (G.kid τ 0) deep st).2.n≤1000000):=Nat.le_trans (timesF_n f _ _ _) HN2.out
 rw [hl] at tK
 clear hT hW hs hc hk hP c2 hn IH k1 k2 hM hne tS hl k3 k4
 generalize hE1:G.exF f (G.kid τ 0) deep st=E1 at HE HN2 HN1
 have HE1:Hid (G.exF f (G.kid τ 0) deep st=E1):=hE1
 clear hE1
 go_enter Try.func85,Try.ntmps85
 go_wp2_with fail
 refine (HI.out (G.kid τ 0) _ deep st bm _ HC2.out HK.out.2 HK.out.1 HM.out (by omega) (by rw [HE1.out]; exact HN1.out)).mono ?_
 rw [HE1.out]
 rintro e w2 ⟨b,rfl,⟨F1,hR⟩,hM2,hK2⟩
 have HR1:Hid (ReAt w2 F1 E1.1 (.pointer (some ⟨b,0,none⟩))):=hR
 have HM2:Hid (MkAt w2 bm E1.2):=hM2
 obtain ⟨d1,d2⟩:=HP.out w2 hK2 1 (by rw [HL.out]; omega)
 have HD2:Hid (TreeAt w2 f (G.kid τ 1) (.pointer (some ⟨P 1,0,none⟩))):=d2
 clear d2 hR hM2
 go_wp2_with fail
 refine (times_any f (G.kid τ 1) _ E1.1 F1 b E1.2 bm _ HD2.out HK3.out.2 HK3.out.1 HM2.out HR1.out HN2.out).mono ?_
 rintro e w3 ⟨b3,rfl,hR,hM3,hK3⟩
 go_wp2
 go_ret
 rw [HE.out]
 exact ⟨b3,rfl,hR,hM3,hK2.trans hK3⟩
theorem expr_atom:∀ f,ExprOk f∧AtomOk f
 | 0=>⟨fun _ _ _ _ _ _ h=>h.elim,fun _ _ _ _ _ _ h=>h.elim⟩
 | f + 1=>by
  obtain ⟨h1,h2⟩:=expr_atom f
  refine ⟨?_,atom_step f h1⟩
  intro τ v deep st bm w hT hW hs hM hd hn
  rcases hs with hs | hs | hs
  ·exact expr_A f h1 τ v deep st bm w hT hW hs hM hd hn
  ·exact expr_C f h1 τ v deep st bm w hT hW hs hM hd hn
  ·exact expr_R f h2 τ v deep st bm w hT hW hs hM hd hn
theorem ReAt.drewN {w:World} (q:Nat) {f:Nat} {r:G.Rx} {v:Value} (h:ReAt w f r v):ReAt (w.drewN q) f r v:=ReAt.keep (w:=w) (w':=w.drewN q) (fun k c T _ hc=>hc) _ _ _ h
theorem none256_len:G.none256.length=256:=List.length_replicate
theorem oneByte_len (c:Nat):(G.oneByte c).length=256:=by unfold G.oneByte; rw [List.length_set]; exact none256_len
theorem all256_len:G.all256.length=256:=List.length_replicate
theorem itemsF_len' (f:Nat) (τ:G.Tr) (b:Bool):(G.itemsF f τ G.none256 b).1.length=256:=G.itemsF_len f τ _ b none256_len
theorem lo_bd {f:Nat} {q:G.Tr} (h:G.Wf (f + 1) q) (hs:q.sym=81):0≤G.loOf q∧G.loOf q≤99:=by
 unfold G.loOf
 split
 ·rcases Wf.Q h hs with h0 | ⟨_,_,_,hN⟩
  ·omega
  ·obtain ⟨n1,n2⟩:=hN (by assumption)
   exact numberF_bd n2 n1
 ·split <;> omega
theorem hi_bd {f:Nat} {q:G.Tr} (h:G.Wf (f + 1) q) (hs:q.sym=81) : -1≤G.hiOf q∧G.hiOf q≤99:=by
 have hlo:=lo_bd h hs
 unfold G.hiOf
 split
 ·rcases Wf.Q h hs with h0 | ⟨hsh,_,_,_⟩
  ·omega
  ·rcases hsh with ⟨h2,hl⟩ | ⟨h2,hl⟩ | ⟨h2,hl⟩ | ⟨_,hl,n1,n2⟩
   ·omega
   ·omega
   ·omega
   ·have:=numberF_bd n2 n1
    omega
 ·split
  ·omega
  ·split <;> omega
theorem timesF_ok:∀ (f:Nat) (rx:G.Rx) (q:G.Tr) (st:G.Mk) (F:Nat),G.RxOk st.n F rx→G.Wf f q→q.sym=81→∃ F',G.RxOk (G.timesF f rx q st).2.n F' (G.timesF f rx q st).1
 | 0,_,_,_,_,_,h,_=>h.elim
 | f + 1,rx,q,st,F,h,hW,hs=>by
  unfold G.timesF
  split
  ·exact ⟨F,h⟩
  ·next hne =>
   have hb:=lo_bd hW hs
   have hb2:=hi_bd hW hs
   rcases Wf.Q hW hs with h0 | ⟨_,h1,h2,_⟩
   ·exact (hne h0).elim
   ·exact timesF_ok f _ (G.lastKid q) ⟨st.n + 1,G.backOf q st.back,st.depth⟩ (F + 1) ⟨Nat.lt_succ_self _,.inr (.inr (.inr ⟨rfl,rx,rfl,G.RxOk.up (Nat.le_succ _) _ _ h,hb.1,hb.2,hb2.1,hb2.2⟩))⟩ h2 h1
theorem exF_ok:∀ (f:Nat) (τ:G.Tr) (deep:Nat) (st:G.Mk),G.Wf f τ→(τ.sym=65∨τ.sym=67∨τ.sym=82∨τ.sym=84)→∃ F,G.RxOk (G.exF f τ deep st).2.n F (G.exF f τ deep st).1
 | 0,_,_,_,h,_=>h.elim
 | f + 1,τ,deep,st,hW,hs=>by
  unfold G.exF
  split
  ·next h65 =>
   obtain ⟨k1,k2,hcase⟩:=Wf.A hW h65
   split
   ·exact exF_ok f _ _ _ k2 (.inr (.inl k1))
   ·next hne =>
    rcases hcase with ⟨h,_⟩ | ⟨_,_,k3,k4⟩
    ·exact (hne h).elim
    ·obtain ⟨F1,o1⟩:=exF_ok f (G.kid τ 0) deep st k2 (.inr (.inl k1))
     obtain ⟨F2,o2⟩:=exF_ok f (G.kid τ 2) deep (G.exF f (G.kid τ 0) deep st).2 k4 (.inl k3)
     exact G.RxOk.two (.inr rfl) (G.RxOk.up (exF_n f (G.kid τ 2) deep _) _ _ o1) o2
  ·split
   ·next h67 =>
    split
    ·exact ⟨1,Nat.lt_succ_self _,.inl rfl⟩
    ·next hne =>
     rcases Wf.C hW h67 with ⟨h,_⟩ | ⟨_,_,k1,k2,k3,k4⟩
     ·exact (hne h).elim
     ·obtain ⟨F1,o1⟩:=exF_ok f (G.kid τ 0) deep st k2 (.inr (.inr (.inl k1)))
      obtain ⟨F2,o2⟩:=exF_ok f (G.kid τ 1) deep (G.exF f (G.kid τ 0) deep st).2 k4 (.inr (.inl k3))
      exact G.RxOk.two (.inl rfl) (G.RxOk.up (exF_n f (G.kid τ 1) deep _) _ _ o1) o2
   ·split
    ·next h82 =>
     obtain ⟨_,k1,k2,k3,k4⟩:=Wf.R hW h82
     obtain ⟨F1,o1⟩:=exF_ok f (G.kid τ 0) deep st k2 (.inr (.inr (.inr k1)))
     exact timesF_ok f _ _ _ F1 o1 k4 k3
    ·next h1 h2 h3 =>
     have h84:τ.sym=84:=by rcases hs with h | h | h | h; exact (h1 h).elim; exact (h2 h).elim; exact (h3 h).elim; exact h
     split
     ·next ha =>
      rcases Wf.T hW h84 with ⟨h,_⟩ | ⟨_,hl,k1,k2⟩ | ⟨h,_⟩ | ⟨h,_⟩ | ⟨h,_⟩ | ⟨h,_⟩
      ·omega
      ·exact exF_ok f _ _ _ k2 (.inl k1)
      ·omega
      ·omega
      ·omega
      ·omega
     ·split
      ·exact ⟨1,Nat.lt_succ_self _,.inr (.inl ⟨rfl,oneByte_len _⟩)⟩
      ·split
       ·exact ⟨1,Nat.lt_succ_self _,.inr (.inl ⟨rfl,all256_len⟩)⟩
       ·split
        ·exact ⟨1,Nat.lt_succ_self _,.inr (.inl ⟨rfl,oneByte_len _⟩)⟩
        ·split
         ·exact ⟨1,Nat.lt_succ_self _,.inr (.inl ⟨rfl,itemsF_len' _ _ _⟩)⟩
         ·exact ⟨1,Nat.lt_succ_self _,.inr (.inl ⟨rfl,by rw [List.length_map]; exact itemsF_len' _ _ _⟩)⟩
theorem drewN_add (w:World) (p q:Nat):(w.drewN p).drewN q=w.drewN (p + q):=by
 unfold World.drewN; simp [Nat.add_assoc]
theorem any_take (l:List Bool) (c:Nat) (h:∀ x,x<c→l.getD x false=false) (hc:l.length≤c):l.any (·)=false:=by
 rw [List.any_eq_false]
 intro b hb
 obtain ⟨i,hi,rfl⟩:=List.getElem_of_mem hb
 have:=h i (by omega)
 rw [List.getD_eq_getElem?_getD,List.getElem?_eq_getElem hi] at this
 simpa using this
theorem any_at (l:List Bool) (c:Nat) (h:l.getD c false=true):l.any (·)=true:=by
 rw [List.any_eq_true]
 by_cases hc:c<l.length
 ·refine ⟨l[c],List.getElem_mem hc,?_⟩
  rw [List.getD_eq_getElem?_getD,List.getElem?_eq_getElem hc] at h
  exact h
 ·rw [List.getD_eq_getElem?_getD,List.getElem?_eq_none (by omega)] at h
  cases h
set_option maxRecDepth 100000 in
set_option maxHeartbeats 3200000 in
theorem never_any:∀ (f N F:Nat) (r:G.Rx) (v:Value) (w:World),ReAt w f r v→G.RxOk N F r→Calls Try.prog 101 #[v] w fun e w'=>e=.returned (.bool (G.neverF f r))∧∃ q,w'=w.drewN q
 | 0,_,_,_,_,_,h,_=>h.elim
 | f + 1,N,0,_,_,_,_,h=>h.elim
 | f + 1,N,F + 1,r,v,w,hR,hO=>by
  have IH:Hid (∀ (N F:Nat) (r:G.Rx) (v:Value) (w:World),ReAt w f r v→G.RxOk N F r→Calls Try.prog 101 #[v] w fun e w'=>e=.returned (.bool (G.neverF f r))∧∃ q,w'=w.drewN q):=never_any f
  obtain ⟨b,vin,va,vb,rfl,hB,hI,hA,hB2⟩:=hR
  have c0:w.cell? ⟨b,0,none⟩=some (.int .i64 (r.kind:Int)):=hB.cell 0
  have c1:w.cell? ⟨b,1,none⟩=some vin:=hB.cell 1
  have c2:w.cell? ⟨b,2,none⟩=some va:=hB.cell 2
  have c3:w.cell? ⟨b,3,none⟩=some vb:=hB.cell 3
  have c4:w.cell? ⟨b,4,none⟩=some (.int .i64 r.lo):=hB.cell 4
  obtain ⟨_,hO⟩:=hO
  rcases hO with h0 | ⟨h1,hl⟩ | ⟨h23,a,a2,es,o1,o2⟩ | ⟨h4,a,es,o1,l1,l2,l3,l4⟩
  ·have HE:Hid (G.neverF (f + 1) r=false):=by
      show _=_
      rw [G.neverF,if_neg (by omega),if_neg (by omega),if_neg (by omega),if_neg (by omega)]
   rw [h0] at c0
   clear hB hI hA hB2 c1 c2 c3 c4 h0
   go_enter Try.func101,Try.ntmps101
   go_wp2
   go_ret
   rw [HE.out]
   exact ⟨rfl,0,rfl⟩
  ·have HE:Hid (G.neverF (f + 1) r=!(r.ins.any (·))):=by
      show _=_
      rw [G.neverF,if_pos h1]
   rw [h1] at c0
   rcases hI with ⟨e,_⟩ | ⟨_,g,rfl,hg⟩
   ·rw [e] at hl; cases hl
   ·have hib:InBlk w b g r.ins:=⟨c1,hg,hl,_,hB⟩
    have HL:Hid (r.ins.length=256):=hl
    clear hB hA hB2 c2 c3 c4 h1 hl hg
    go_enter Try.func101,Try.ntmps101
    go_wp2_with fail
    go_loopw [3] (fun cv wX=>∃ c:Nat,c≤256∧cv=.int .i64 (c:Int)∧wX=w∧Hid (∀ x,x<c→r.ins.getD x false=false)) (fun cv _=>256 - (intOf cv).toNat)
    case atStart=>exact ⟨0,by omega,rfl,rfl,fun x hx=>by omega⟩
    case round =>
     obtain ⟨c,hc,rfl,rfl,HX⟩:=hrel
     by_cases hcB:c<256
     ·obtain ⟨i1,i2⟩:=hib.at c hcB
      have hc256:(c:Int)<256:=by omega
      cases hx:r.ins.getD c false with
      | true =>
       rw [hx] at i1
       have HE2:Hid (G.neverF (f + 1) r=false):=by show _=_; rw [HE.out,any_at _ _ hx]; rfl
       clear hx hib i2
       go_wp2
       go_ret
       rw [HE2.out]
       exact ⟨rfl,0,rfl⟩
      | false =>
       rw [hx] at i1
       have HX2:Hid (∀ x,x<c + 1→r.ins.getD x false=false):=by
        intro x h
        by_cases e:x=c
        ·rw [e]; exact hx
        ·exact HX.out x (by omega)
       clear hx hib i2
       go_wp2
       go_roundw
       case rel=>exact ⟨c + 1,by omega,by go_num,(by first | rfl | trivial),HX2⟩
       case measure=>simp [intOf]; omega
     ·have HE2:Hid (G.neverF (f + 1) r=true):=by show _=_; rw [HE.out,any_take _ c HX.out (by rw [HL.out]; omega)]; rfl
      have h256:c=256:=by omega
      subst h256
      clear hib
      go_wp2
      go_ret
      rw [HE2.out]
      exact ⟨rfl,0,rfl⟩
  ·have hA':ReAt w f a va:=by
      rcases hA with ⟨e,_⟩ | ⟨x,e,h⟩
      ·rw [es] at e; cases e
      ·rw [es] at e; cases e; exact h
   have hB':ReAt w f a2 vb:=by
    rcases hB2 with ⟨e,_⟩ | ⟨x,e,h⟩
    ·rw [es] at e; cases e
    ·rw [es] at e; cases e; exact h
   obtain ⟨pa,rfl⟩:=hA'.ptr
   obtain ⟨pb,rfl⟩:=hB'.ptr
   have HA:Hid (ReAt w f a (.pointer (some ⟨pa,0,none⟩))):=hA'
   have HB:Hid (ReAt w f a2 (.pointer (some ⟨pb,0,none⟩))):=hB'
   have HO1:Hid (G.RxOk N F a):=o1
   have HO2:Hid (G.RxOk N F a2):=o2
   clear hA hB2 hA' hB' o1 o2 hI
   rcases h23 with hk | hk
   ·have HE:Hid (G.neverF (f + 1) r=(G.neverF f a || G.neverF f a2)):=by
       show _=_
       rw [G.neverF,if_neg (by omega),if_pos hk,es]
       rfl
    have HK:Hid (r.kind=2):=hk
    rw [hk] at c0
    clear hk es hB
    go_enter Try.func101,Try.ntmps101
    go_wp2_with fail
    refine (IH.out N F a _ w HA.out HO1.out).mono ?_
    rintro e w1 ⟨rfl,q1,hw1⟩
    have HR2:Hid (ReAt w1 f a2 (.pointer (some ⟨pb,0,none⟩))):=by rw [hw1]; exact ReAt.drewN q1 HB.out
    have d0:w1.cell? ⟨b,0,none⟩=some (.int .i64 ((2:Nat):Int)):=by rw [hw1]; exact c0
    have d3:w1.cell? ⟨b,3,none⟩=some (.pointer (some ⟨pb,0,none⟩)):=by rw [hw1]; exact c3
    have HW1:Hid (w1=w.drewN q1):=hw1
    clear hw1 c0 c1 c2 c3 c4
    generalize G.neverF f a=x1 at HE ⊢
    go_wp2_with fail
    refine (IH.out N F a2 _ w1 HR2.out HO2.out).mono ?_
    rintro e w2 ⟨rfl,q2,hw2⟩
    have e0:w2.cell? ⟨b,0,none⟩=some (.int .i64 ((2:Nat):Int)):=by rw [hw2]; exact d0
    have HW2:Hid (w2=w1.drewN q2):=hw2
    clear hw2 d0 d3
    generalize G.neverF f a2=x2 at HE ⊢
    cases x1 <;> cases x2 <;> (go_wp2; go_ret; rw [HE.out]; exact ⟨rfl,q1 + q2,by rw [HW2.out,HW1.out]; exact drewN_add w q1 q2⟩)
   ·have HE:Hid (G.neverF (f + 1) r=(G.neverF f a && G.neverF f a2)):=by
       show _=_
       rw [G.neverF,if_neg (by omega),if_neg (by omega),if_pos hk,es]
       rfl
    have HK:Hid (r.kind=3):=hk
    rw [hk] at c0
    clear hk es hB
    go_enter Try.func101,Try.ntmps101
    go_wp2_with fail
    refine (IH.out N F a _ w HA.out HO1.out).mono ?_
    rintro e w1 ⟨rfl,q1,hw1⟩
    have HR2:Hid (ReAt w1 f a2 (.pointer (some ⟨pb,0,none⟩))):=by rw [hw1]; exact ReAt.drewN q1 HB.out
    have d0:w1.cell? ⟨b,0,none⟩=some (.int .i64 ((3:Nat):Int)):=by rw [hw1]; exact c0
    have d3:w1.cell? ⟨b,3,none⟩=some (.pointer (some ⟨pb,0,none⟩)):=by rw [hw1]; exact c3
    have HW1:Hid (w1=w.drewN q1):=hw1
    clear hw1 c0 c1 c2 c3 c4
    generalize G.neverF f a=x1 at HE ⊢
    go_wp2_with fail
    refine (IH.out N F a2 _ w1 HR2.out HO2.out).mono ?_
    rintro e w2 ⟨rfl,q2,hw2⟩
    have e0:w2.cell? ⟨b,0,none⟩=some (.int .i64 ((3:Nat):Int)):=by rw [hw2]; exact d0
    have HW2:Hid (w2=w1.drewN q2):=hw2
    clear hw2 d0 d3
    generalize G.neverF f a2=x2 at HE ⊢
    cases x1 <;> cases x2 <;> (go_wp2; go_ret; rw [HE.out]; exact ⟨rfl,q1 + q2,by rw [HW2.out,HW1.out]; exact drewN_add w q1 q2⟩)
  ·have hA':ReAt w f a va:=by
      rcases hA with ⟨e,_⟩ | ⟨x,e,h⟩
      ·rw [es] at e; cases e
      ·rw [es] at e; cases e; exact h
   obtain ⟨pa,rfl⟩:=hA'.ptr
   have HA:Hid (ReAt w f a (.pointer (some ⟨pa,0,none⟩))):=hA'
   have HO1:Hid (G.RxOk N F a):=o1
   have HE:Hid (G.neverF (f + 1) r=(G.neverF f a && decide (0<r.lo))):=by
    show _=_
    rw [G.neverF,if_neg (by omega),if_neg (by omega),if_neg (by omega),if_pos h4,es]
    rfl
   rw [h4] at c0
   generalize r.lo=lo at *
   clear hA hB2 hA' o1 hI es h4 hB c1 c3
   go_enter Try.func101,Try.ntmps101
   go_wp2_with fail
   refine (IH.out N F a _ w HA.out HO1.out).mono ?_
   rintro e w1 ⟨rfl,q1,hw1⟩
   have d4:w1.cell? ⟨b,4,none⟩=some (.int .i64 lo):=by rw [hw1]; exact c4
   have HW1:Hid (w1=w.drewN q1):=hw1
   clear hw1 c0 c2 c4
   generalize G.neverF f a=x1 at HE ⊢
   have HQ:Hid (∀ (w2:World) (n:Nat),w2=w1.drewN n→∃ q,w2=w.drewN q):=fun w2 n e=>⟨q1 + n,by rw [e,HW1.out]; exact drewN_add w q1 n⟩
   cases x1 with
   | false =>
    have HE3:Hid (G.neverF (f + 1) r=false):=HE
    clear HE HW1
    go_wp2
    go_ret
    rw [HE3.out]
    exact ⟨rfl,HQ.out _ 0 rfl⟩
   | true =>
    have HE3:Hid (G.neverF (f + 1) r=decide (0<lo)):=HE
    clear HE HW1
    go_wp2
    go_ret
    rw [HE3.out]
    exact ⟨rfl,HQ.out _ 0 rfl⟩
def TailN (x:Tb) (D:Nat→G.Rx) (F f:Nat) (r:G.Rx):Prop:=∀ (w:World) (av:List Nat) (v:Value) (i:Nat),Mem x (VN x.t.data.toList D F) w av→ReAt x.w0 f r v→i≤x.t.size→w.cell? ⟨x.s0 + (2 * r.id + 1),i,none⟩=some (.slice none 0 0) →
 Calls Try.prog 89 #[.pointer (some ⟨x.bm,0,none⟩),v,.int .i64 (i:Int)] w fun e w'=>∃ h A,e=.returned (.slice (some ⟨h,0,none⟩) (x.t.size + 1) (x.t.size + 1))∧Bools w' h A∧RowIs (x.t.size + 1) A (Q.TN x.t.data.toList D F r.id i)∧x.s0 + 2 * x.N≤h∧h ∉ av∧Mem x (VN x.t.data.toList D F) w' av∧Keep x.S w w'
theorem Mem.factsO {x:Tb} {V:Nat→Nat→Nat→Prop} {w:World} {av:List Nat} (h:Mem x V w av) {k i:Nat} (hk:k<x.N) (n:Nat) (hn:n=x.t.size + 1) (hi:i<n):∃ u,w.cell? ⟨x.bm,2,none⟩=some (.slice (some ⟨x.bt,0,none⟩) x.N x.N)∧w.cell? ⟨x.bt,k,none⟩=some (.slice (some ⟨x.s0 + (2 * k + 1),0,none⟩) n n) ∧
    w.cell? ⟨x.s0 + (2 * k + 1),i,none⟩=some u∧w.frozen? ⟨x.s0 + (2 * k + 1),i,none⟩=false:=h.factsT hk n hn hi
theorem tailC_n {x:Tb} {D:Nat→G.Rx} {F f:Nat} {a:G.Rx} (h:TailC x D F f a) {va:Value} (hv:ReAt x.w0 f a va) {n i:Nat} (hn:n=x.t.size + 1) (hi:i<n) (g:Nat) (av:List Nat):∀ (w':World),Mem x (VN x.t.data.toList D F) w' (g :: av) →
    Calls Try.prog 89 #[.pointer (some ⟨x.bm,0,none⟩),va,.int .i64 (i:Int)] w' fun e w''=>∃ h A,e=.returned (.slice (some ⟨h,0,none⟩) n n)∧Bools w'' h A∧Hid (RowIs n A (Q.TN x.t.data.toList D F a.id i))∧x.s0 + 2 * x.N≤h∧h ≠ g∧Mem x (VN x.t.data.toList D F) w'' (g :: av)∧Keep x.S w' w'':=by
 intro w' hm
 refine (h w' (g :: av) va i hm hv (by omega)).mono ?_
 rintro e w'' ⟨b,A,h1,h2,h3,h4,h5,h6,h7⟩
 rw [← hn] at h1 h3
 exact ⟨b,A,h1,h2,h3,h4,fun e=>h5 (by rw [e]; exact List.mem_cons_self),h6,h7⟩
set_option maxRecDepth 100000 in
set_option maxHeartbeats 1600000 in
theorem tailC_of {x:Tb} {D:Nat→G.Rx} {F f:Nat} {r:G.Rx} (hid:r.id<x.N) (h:TailN x D F f r):TailC x D F f r:=by
 intro w av v i hM hR hi
 obtain ⟨_,hs⟩:=hM.seen (k:=2 * r.id + 1) (i:=i) (by omega) (by omega)
 rcases hs with hs | ⟨b,A,hs,hB,hRw,hlo,hav⟩
 ·exact h w av v i hM hR hi hs
 ·rw [vn_odd] at hRw
  cases f with
  | zero=>exact hR.elim
  | succ f =>
   obtain ⟨br,vin,va,vb,rfl,hBr,_,_,_⟩:=hR
   have c6:=(hM.blk hBr).cell 6
   have m1:=hM.mat.cell 2
   simp only [List.getElem?_cons_zero,List.getElem?_cons_succ] at c6 m1
   have e1:w.cell? ⟨x.bt,r.id,none⟩=some (.slice (some ⟨x.s0 + (2 * r.id + 1),0,none⟩) (x.t.size + 1) (x.t.size + 1)):=hM.tailAt hid
   have i0:(0:Int)≤(i:Int):=by omega
   have i1:(i:Int)<((x.t.size + 1:Nat):Int):=by omega
   have j0:(0:Int)≤(r.id:Int):=by omega
   have j1:(r.id:Int)<(x.N:Int):=by omega
   have hne:=fun w=>bnil_ne w b (x.t.size + 1) (x.t.size + 1)
   have HP:Hid (∀ n,∃ h A,Ending.returned (Value.slice (some ⟨b,0,none⟩) (x.t.size + 1) (x.t.size + 1))=.returned (.slice (some ⟨h,0,none⟩) (x.t.size + 1) (x.t.size + 1))∧Bools (w.drewN n) h A∧RowIs (x.t.size + 1) A (Q.TN x.t.data.toList D F r.id i)∧x.s0 + 2 * x.N≤h∧h ∉ av∧Mem x (VN x.t.data.toList D F) (w.drewN n) av∧Keep x.S w (w.drewN n)) :=
    fun n=>⟨b,A,rfl,⟨hB.blk⟩,hRw,hlo,hav,hM.drewN n,(Keep.refl _ w).drewN n⟩
   generalize x.s0 + (2 * r.id + 1)=s at *
   generalize x.t.size + 1=L at *
   generalize x.bm=bm at *
   generalize x.bt=be at *
   generalize x.N=N at *
   clear hM hBr hB hRw h
   go_enter Try.func89,Try.ntmps89
   go_wp2_with fail
   go_quiet (fail)
   go_wp2_with fail
   go_quiet (fail)
   go_wp2
   go_ret
   rw [World.drewN_drewN]
   exact HP.out _
set_option maxRecDepth 100000 in
set_option maxHeartbeats 1600000 in
theorem tail_never {x:Tb} {D:Nat→G.Rx} {F f:Nat} {r:G.Rx} (hO:G.RxOk x.N (f + 1) r) (hI:G.Ids D 0 x.N (f + 1) r) (hF:f + 1≤F) (ht:x.t.size≤200) (hW:G.Fwd (f + 1) r) (hnv:G.neverF (f + 1) r=true):TailN x D F (f + 1) r:=by
 intro w av v i hM hR hi hnil
 have hid:r.id<x.N:=hO.1
 obtain ⟨n,hn⟩:∃ n,n=x.t.size + 1:=⟨_,rfl⟩
 have hn2:n≤1001:=by omega
 have hin:i<n:=by omega
 have HRe:=hid' hR
 obtain ⟨br,vin,va,vb,rfl,hBr,hIn,hA,hB⟩:=hR
 obtain ⟨u0,m1,e1,_,_⟩:=hM.factsO hid n hn hin
 have c6:=(hM.blk hBr).cell 6
 simp only [List.getElem?_cons_zero,List.getElem?_cons_succ] at c6
 have i0:(0:Int)≤(i:Int):=by omega
 have i1:(i:Int)<(n:Int):=by omega
 have j0:(0:Int)≤(r.id:Int):=by omega
 have j1:(r.id:Int)<(x.N:Int):=by omega
 have hno:=fun w=>bnil_no w
 have HBL:=hid' (blank_mem hM (by omega) n hn hn2)
 have hga:w.heap.size ∉ av:=fun hm=>by have:=(hM.av _ hm).2; omega
 have HgS:Hid (w.heap.size ∉ x.S):=Tb.notS (hM.top (by omega))
 have hlen:x.t.data.toList.length=x.t.size:=rfl
 rw [← hn]
 have HNn:=hid' hn
 clear hM hn
 go_enter Try.func89,Try.ntmps89
 go_wp2_with fail
 go_quiet (fail)
 go_wp2_with fail
 refine (HBL.out _).mono ?_
 rintro e w1 ⟨rfl,hN1,hM1,hK1⟩
 have hR1:=rowIs_none n
 have hKS1:Keep x.S w w1:=hK1.mono (by simp)
 clear m1 e1 c6 hnil HBL hK1
 go_wp2_with fail
 refine (never_any (f + 1) x.N (f + 1) r _ w1 (hM1.re HRe.out) hO).mono ?_
 rw [hnv]
 rintro e w1b ⟨rfl,nq,rfl⟩
 have hNq:Bools (w1.drewN nq) w.heap.size (List.replicate n false):=⟨hN1.blk⟩
 have hMq:=hM1.drewN nq
 have hKq:=hKS1.drewN nq
 revert hNq hMq hKq
 generalize w1.drewN nq=wq
 intro hNq hMq hKq
 clear hN1 hM1 hKS1
 generalize w.heap.size=g at *
 obtain ⟨u,z1,z2,z3,z4⟩:=hMq.factsO hid n HNn.out hin
 have z6:=(hMq.blk hBr).cell 6
 simp only [List.getElem?_cons_zero,List.getElem?_cons_succ] at z6
 have HD:=hid' (end_done (P:=Q.TN x.t.data.toList D F r.id i) HNn.out hMq hNq (hR1.congr (fun j hj=>⟨fun h=>h.elim,fun h=>Q.tn_never hO hI hF hW hnv h⟩)) hKq hga (k:=2 * r.id + 1) (by omega) hin (fun j hj=>by rw [vn_odd]))
 clear hMq hNq
 go_wp2_with fail
 go_region
 all_goals
  go_wp2
  go_ret
  exact HD.out
set_option maxRecDepth 100000 in
set_option maxHeartbeats 1600000 in
theorem tail_k0 {x:Tb} {D:Nat→G.Rx} {F f:Nat} {r:G.Rx} (hO:G.RxOk x.N (f + 1) r) (hI:G.Ids D 0 x.N (f + 1) r) (hF:f + 1≤F) (ht:x.t.size≤200) (hW:G.Fwd (f + 1) r) (hnv:G.neverF (f + 1) r=false) (hk:r.kind=0):TailN x D F (f + 1) r:=by
 intro w av v i hM hR hi hnil
 have hid:r.id<x.N:=hO.1
 obtain ⟨n,hn⟩:∃ n,n=x.t.size + 1:=⟨_,rfl⟩
 have hn2:n≤1001:=by omega
 have hin:i<n:=by omega
 have HRe:=hid' hR
 obtain ⟨br,vin,va,vb,rfl,hBr,hIn,hA,hB⟩:=hR
 obtain ⟨u0,m1,e1,_,_⟩:=hM.factsO hid n hn hin
 have c6:=(hM.blk hBr).cell 6
 simp only [List.getElem?_cons_zero,List.getElem?_cons_succ] at c6
 have i0:(0:Int)≤(i:Int):=by omega
 have i1:(i:Int)<(n:Int):=by omega
 have j0:(0:Int)≤(r.id:Int):=by omega
 have j1:(r.id:Int)<(x.N:Int):=by omega
 have hno:=fun w=>bnil_no w
 have HBL:=hid' (blank_mem hM (by omega) n hn hn2)
 have hga:w.heap.size ∉ av:=fun hm=>by have:=(hM.av _ hm).2; omega
 have HgS:Hid (w.heap.size ∉ x.S):=Tb.notS (hM.top (by omega))
 have hlen:x.t.data.toList.length=x.t.size:=rfl
 rw [← hn]
 have HNn:=hid' hn
 clear hM hn
 go_enter Try.func89,Try.ntmps89
 go_wp2_with fail
 go_quiet (fail)
 go_wp2_with fail
 refine (HBL.out _).mono ?_
 rintro e w1 ⟨rfl,hN1,hM1,hK1⟩
 have hR1:=rowIs_none n
 have hKS1:Keep x.S w w1:=hK1.mono (by simp)
 clear m1 e1 c6 hnil HBL hK1
 go_wp2_with fail
 refine (never_any (f + 1) x.N (f + 1) r _ w1 (hM1.re HRe.out) hO).mono ?_
 rw [hnv]
 rintro e w1b ⟨rfl,nq,rfl⟩
 have hNq:Bools (w1.drewN nq) w.heap.size (List.replicate n false):=⟨hN1.blk⟩
 have hMq:=hM1.drewN nq
 have hKq:=hKS1.drewN nq
 revert hNq hMq hKq
 generalize w1.drewN nq=wq
 intro hNq hMq hKq
 clear hN1 hM1 hKS1
 obtain ⟨s1,s2⟩:=hNq.at i (by rw [List.length_replicate]; exact hin)
 have c0:(wq.setCell ⟨w.heap.size,i,none⟩ (.bool true)).cell? ⟨br,0,none⟩=some (.int .i64 (r.kind:Int)):=((hMq.one ((Keep.refl [w.heap.size] wq).setCell (p:=⟨w.heap.size,i,none⟩) (by simp) (.bool true))).blk hBr).cell 0
 rw [hk] at c0
 go_upto_region 28 with fail
 have hK2:Keep [w.heap.size] wq (wq.setCell ⟨w.heap.size,i,none⟩ (.bool true)):=(Keep.refl _ wq).setCell (by simp) _
 have hA2:=hNq.set i true
 have hM2:=hMq.one hK2
 have hKS2:Keep x.S w (wq.setCell ⟨w.heap.size,i,none⟩ (.bool true)):=hKq.setNew (p:=⟨w.heap.size,i,none⟩) (Nat.le_refl _) _
 have HR2:=hid' (hR1.set hin)
 revert hA2 hM2 hKS2
 generalize wq.setCell ⟨w.heap.size,i,none⟩ (.bool true)=w2 at *
 intro hA2 hM2 hKS2
 clear hMq hNq hK2 hKq hR1 s1 s2
 generalize w.heap.size=g at *
 obtain ⟨u,z1,z2,z3,z4⟩:=hM2.factsO hid n HNn.out hin
 have z6:=(hM2.blk hBr).cell 6
 simp only [List.getElem?_cons_zero,List.getElem?_cons_succ] at z6
 have HD:=hid' (end_done (P:=Q.TN x.t.data.toList D F r.id i) HNn.out hM2 hA2 (HR2.out.congr (fun j hj=>by rw [Q.tn_eps hO hI hF hk hi]; simp)) hKS2 hga (k:=2 * r.id + 1) (by omega) hin (fun j hj=>by rw [vn_odd]))
 clear hM2 hA2
 go_wp2_with fail
 go_region
 all_goals
  go_wp2
  go_ret
  exact HD.out
set_option maxRecDepth 100000 in
set_option maxHeartbeats 1600000 in
theorem tail_k1 {x:Tb} {D:Nat→G.Rx} {F f:Nat} {r:G.Rx} (hO:G.RxOk x.N (f + 1) r) (hI:G.Ids D 0 x.N (f + 1) r) (hF:f + 1≤F) (ht:x.t.size≤200) (hW:G.Fwd (f + 1) r) (hnv:G.neverF (f + 1) r=false) (hk:r.kind=1) (hE:EndC x D F (f + 1) r):TailN x D F (f + 1) r:=by
 intro w av v i hM hR hi hnil
 have hid:r.id<x.N:=hO.1
 obtain ⟨n,hn⟩:∃ n,n=x.t.size + 1:=⟨_,rfl⟩
 have hn2:n≤1001:=by omega
 have hin:i<n:=by omega
 have HRe:=hid' hR
 obtain ⟨br,vin,va,vb,rfl,hBr,hIn,hA,hB⟩:=hR
 obtain ⟨u0,m1,e1,_,_⟩:=hM.factsO hid n hn hin
 have c6:=(hM.blk hBr).cell 6
 simp only [List.getElem?_cons_zero,List.getElem?_cons_succ] at c6
 have i0:(0:Int)≤(i:Int):=by omega
 have i1:(i:Int)<(n:Int):=by omega
 have j0:(0:Int)≤(r.id:Int):=by omega
 have j1:(r.id:Int)<(x.N:Int):=by omega
 have hno:=fun w=>bnil_no w
 have HBL:=hid' (blank_mem hM (by omega) n hn hn2)
 have hga:w.heap.size ∉ av:=fun hm=>by have:=(hM.av _ hm).2; omega
 have HEr:=hid' (endC_n hE HRe.out hn hin w.heap.size av)
 have HgS:Hid (w.heap.size ∉ x.S):=Tb.notS (hM.top (by omega))
 have hlen:x.t.data.toList.length=x.t.size:=rfl
 rw [← hn]
 have HNn:=hid' hn
 clear hM hn hE
 go_enter Try.func89,Try.ntmps89
 go_wp2_with fail
 go_quiet (fail)
 go_wp2_with fail
 refine (HBL.out _).mono ?_
 rintro e w1 ⟨rfl,hN1,hM1,hK1⟩
 have hR1:=rowIs_none n
 have hKS1:Keep x.S w w1:=hK1.mono (by simp)
 clear m1 e1 c6 hnil HBL hK1
 go_wp2_with fail
 refine (never_any (f + 1) x.N (f + 1) r _ w1 (hM1.re HRe.out) hO).mono ?_
 rw [hnv]
 rintro e w1b ⟨rfl,nq,rfl⟩
 have hNq:Bools (w1.drewN nq) w.heap.size (List.replicate n false):=⟨hN1.blk⟩
 have hMq:=hM1.drewN nq
 have hKq:=hKS1.drewN nq
 revert hNq hMq hKq
 generalize w1.drewN nq=wq
 intro hNq hMq hKq
 clear hN1 hM1 hKS1
 obtain ⟨s1,s2⟩:=hNq.at i (by rw [List.length_replicate]; exact hin)
 have c0:(wq.setCell ⟨w.heap.size,i,none⟩ (.bool true)).cell? ⟨br,0,none⟩=some (.int .i64 (r.kind:Int)):=((hMq.one ((Keep.refl [w.heap.size] wq).setCell (p:=⟨w.heap.size,i,none⟩) (by simp) (.bool true))).blk hBr).cell 0
 rw [hk] at c0
 go_upto_region 8 with fail
 have hK2:Keep [w.heap.size] wq (wq.setCell ⟨w.heap.size,i,none⟩ (.bool true)):=(Keep.refl _ wq).setCell (by simp) _
 have hA2:=hNq.set i true
 have hM2:=hMq.one hK2
 have hKS2:Keep x.S w (wq.setCell ⟨w.heap.size,i,none⟩ (.bool true)):=hKq.setNew (p:=⟨w.heap.size,i,none⟩) (Nat.le_refl _) _
 have HR2:=hid' (hR1.set hin)
 revert hA2 hM2 hKS2
 generalize wq.setCell ⟨w.heap.size,i,none⟩ (.bool true)=w2 at *
 intro hA2 hM2 hKS2
 clear hMq hNq hK2 hKq hR1 s1 s2
 clear c0
 go_wp2_with fail
 refine (HEr.out _ hM2).mono ?_
 rintro e w3 ⟨h3,B3,rfl,hB3,HB3,hlo3,hne3,hM3,hK3⟩
 have hN3:=hA2.keep hK3 HgS.out
 have hKS3:=hKS2.trans hK3
 clear hM2 hA2 hKS2 hK3
 go_wp2_with fail
 refine (join_any _ h3 n n n _ B3 w3 hN3 hB3 (fun e=>hne3 e.symm) HR2.out.1 HB3.out.1 hn2).mono ?_
 rintro e w4 ⟨rfl,hA4,hK4⟩
 have hM4:=hM3.one hK4
 have hKS4:=hKS3.oneNew hK4 (Nat.le_refl _)
 have HR4:=hid' (rowIs_or HR2.out HB3.out)
 clear hM3 hN3 hB3 hKS3 hK4
 generalize w.heap.size=g at *
 obtain ⟨u,z1,z2,z3,z4⟩:=hM4.factsO hid n HNn.out hin
 have z6:=(hM4.blk hBr).cell 6
 simp only [List.getElem?_cons_zero,List.getElem?_cons_succ] at z6
 have HD:=hid' (end_done (P:=Q.TN x.t.data.toList D F r.id i) HNn.out hM4 hA4 (HR4.out.congr (fun j hj=>by rw [Q.tn_byte hO hI hF hW hnv hk hi]; simp)) hKS4 hga (k:=2 * r.id + 1) (by omega) hin (fun j hj=>by rw [vn_odd]))
 clear hM4 hA4
 go_wp2_with fail
 go_region
 all_goals
  go_wp2
  go_ret
  exact HD.out
set_option maxRecDepth 100000 in
set_option maxHeartbeats 1600000 in
theorem tail_k3 {x:Tb} {D:Nat→G.Rx} {F f:Nat} {r:G.Rx} (hO:G.RxOk x.N (f + 1) r) (hI:G.Ids D 0 x.N (f + 1) r) (hF:f + 1≤F) (ht:x.t.size≤200) (hW:G.Fwd (f + 1) r) (hnv:G.neverF (f + 1) r=false) (hk:r.kind=3) {a b:G.Rx} (es:r.subs=[a,b]) (oa:G.RxOk x.N f a) (ob:G.RxOk x.N f b) (ha:TailC x D F f a) (hb:TailC x D F f b):TailN x D F (f + 1) r:=by
 intro w av v i hM hR hi hnil
 have hid:r.id<x.N:=hO.1
 obtain ⟨n,hn⟩:∃ n,n=x.t.size + 1:=⟨_,rfl⟩
 have hn2:n≤1001:=by omega
 have hin:i<n:=by omega
 have HRe:=hid' hR
 obtain ⟨br,vin,va,vb,rfl,hBr,hIn,hA,hB⟩:=hR
 obtain ⟨u0,m1,e1,_,_⟩:=hM.factsO hid n hn hin
 have c6:=(hM.blk hBr).cell 6
 simp only [List.getElem?_cons_zero,List.getElem?_cons_succ] at c6
 have i0:(0:Int)≤(i:Int):=by omega
 have i1:(i:Int)<(n:Int):=by omega
 have j0:(0:Int)≤(r.id:Int):=by omega
 have j1:(r.id:Int)<(x.N:Int):=by omega
 have hno:=fun w=>bnil_no w
 have HBL:=hid' (blank_mem hM (by omega) n hn hn2)
 have hga:w.heap.size ∉ av:=fun hm=>by have:=(hM.av _ hm).2; omega
 have HEa:=hid' (tailC_n ha (sub_at0 es hA) hn hin w.heap.size av)
 have HEb:=hid' (tailC_n hb (sub_at1 es hB) hn hin w.heap.size av)
 have HgS:Hid (w.heap.size ∉ x.S):=Tb.notS (hM.top (by omega))
 have hlen:x.t.data.toList.length=x.t.size:=rfl
 rw [← hn]
 have HNn:=hid' hn
 clear hM hn ha hb
 go_enter Try.func89,Try.ntmps89
 go_wp2_with fail
 go_quiet (fail)
 go_wp2_with fail
 refine (HBL.out _).mono ?_
 rintro e w1 ⟨rfl,hN1,hM1,hK1⟩
 have hR1:=rowIs_none n
 have hKS1:Keep x.S w w1:=hK1.mono (by simp)
 clear m1 e1 c6 hnil HBL hK1
 go_wp2_with fail
 refine (never_any (f + 1) x.N (f + 1) r _ w1 (hM1.re HRe.out) hO).mono ?_
 rw [hnv]
 rintro e w1b ⟨rfl,nq,rfl⟩
 have hNq:Bools (w1.drewN nq) w.heap.size (List.replicate n false):=⟨hN1.blk⟩
 have hMq:=hM1.drewN nq
 have hKq:=hKS1.drewN nq
 revert hNq hMq hKq
 generalize w1.drewN nq=wq
 intro hNq hMq hKq
 clear hN1 hM1 hKS1
 obtain ⟨s1,s2⟩:=hNq.at i (by rw [List.length_replicate]; exact hin)
 have c0:(wq.setCell ⟨w.heap.size,i,none⟩ (.bool true)).cell? ⟨br,0,none⟩=some (.int .i64 (r.kind:Int)):=((hMq.one ((Keep.refl [w.heap.size] wq).setCell (p:=⟨w.heap.size,i,none⟩) (by simp) (.bool true))).blk hBr).cell 0
 rw [hk] at c0
 go_upto_region 8 with fail
 have hK2:Keep [w.heap.size] wq (wq.setCell ⟨w.heap.size,i,none⟩ (.bool true)):=(Keep.refl _ wq).setCell (by simp) _
 have hA2:=hNq.set i true
 have hM2:=hMq.one hK2
 have hKS2:Keep x.S w (wq.setCell ⟨w.heap.size,i,none⟩ (.bool true)):=hKq.setNew (p:=⟨w.heap.size,i,none⟩) (Nat.le_refl _) _
 have HR2:=hid' (hR1.set hin)
 revert hA2 hM2 hKS2
 generalize wq.setCell ⟨w.heap.size,i,none⟩ (.bool true)=w2 at *
 intro hA2 hM2 hKS2
 clear hMq hNq hK2 hKq hR1 s1 s2
 have c2:=(hM2.blk hBr).cell 2
 simp only [List.getElem?_cons_zero,List.getElem?_cons_succ] at c2
 go_wp2_with fail
 refine (HEa.out _ hM2).mono ?_
 rintro e w3 ⟨h3,B3,rfl,hB3,HB3,hlo3,hne3,hM3,hK3⟩
 have hN3:=hA2.keep hK3 HgS.out
 have hKS3:=hKS2.trans hK3
 clear c0 c2 hM2 hA2 hKS2 hK3
 have c3:=(hM3.blk hBr).cell 3
 simp only [List.getElem?_cons_zero,List.getElem?_cons_succ] at c3
 go_wp2_with fail
 refine (HEb.out _ hM3).mono ?_
 rintro e w4 ⟨h4,B4,rfl,hB4,HB4,hlo4,hne4,hM4,hK4⟩
 have hN4:=hN3.keep hK4 HgS.out
 have hB3':=hB3.keep hK4 (Tb.notS hlo3)
 have hKS4:=hKS3.trans hK4
 clear c3 hM3 hN3 hKS3 hK4 hB3
 go_wp2_with fail
 refine (join_any _ h3 n n n _ B3 w4 hN4 hB3' (fun e=>hne3 e.symm) HR2.out.1 HB3.out.1 hn2).mono ?_
 rintro e w5 ⟨rfl,hA5,hK5⟩
 have hM5:=hM4.one hK5
 have hB4':=hB4.keep hK5 (by rw [List.mem_singleton]; exact hne4)
 have hKS5:=hKS4.oneNew hK5 (Nat.le_refl _)
 have HR5:=hid' (rowIs_or HR2.out HB3.out)
 clear hM4 hN4 hB3' hKS4 hK5 hB4
 go_wp2_with fail
 refine (join_any _ h4 n n n _ B4 w5 hA5 hB4' (fun e=>hne4 e.symm) HR5.out.1 HB4.out.1 hn2).mono ?_
 rintro e w6 ⟨rfl,hA6,hK6⟩
 have hM6:=hM5.one hK6
 have hKS6:=hKS5.oneNew hK6 (Nat.le_refl _)
 have HR6:=hid' (rowIs_or HR5.out HB4.out)
 clear hM5 hA5 hB4' hKS5 hK6
 generalize w.heap.size=g at *
 obtain ⟨u,z1,z2,z3,z4⟩:=hM6.factsO hid n HNn.out hin
 have z6:=(hM6.blk hBr).cell 6
 simp only [List.getElem?_cons_zero,List.getElem?_cons_succ] at z6
 have HD:=hid' (end_done (P:=Q.TN x.t.data.toList D F r.id i) HNn.out hM6 hA6 (HR6.out.congr (fun j hj=>by rw [Q.tn_alt hO hI hF hW hnv hk es oa ob hi]; simp [or_assoc])) hKS6 hga (k:=2 * r.id + 1) (by omega) hin (fun j hj=>by rw [vn_odd]))
 clear hM6 hA6
 go_wp2_with fail
 go_region
 all_goals
  go_wp2
  go_ret
  exact HD.out
set_option maxRecDepth 100000 in
set_option maxHeartbeats 1600000 in
theorem tail_k2 {x:Tb} {D:Nat→G.Rx} {F f:Nat} {r:G.Rx} (hO:G.RxOk x.N (f + 1) r) (hI:G.Ids D 0 x.N (f + 1) r) (hF:f + 1≤F) (ht:x.t.size≤200) (hW:G.Fwd (f + 1) r) (hnv:G.neverF (f + 1) r=false) (hk:r.kind=2) {a b:G.Rx} (es:r.subs=[a,b]) (oa:G.RxOk x.N f a) (ob:G.RxOk x.N f b) (ha:TailC x D F f a) (hb:TailC x D F f b) (hEb:EndC x D F f b):TailN x D F (f + 1) r:=by
 intro w av v i hM hR hi hnil
 have hid:r.id<x.N:=hO.1
 obtain ⟨n,hn⟩:∃ n,n=x.t.size + 1:=⟨_,rfl⟩
 have hn2:n≤1001:=by omega
 have hin:i<n:=by omega
 have HRe:=hid' hR
 obtain ⟨br,vin,va,vb,rfl,hBr,hIn,hA,hB⟩:=hR
 obtain ⟨u0,m1,e1,_,_⟩:=hM.factsO hid n hn hin
 have c6:=(hM.blk hBr).cell 6
 simp only [List.getElem?_cons_zero,List.getElem?_cons_succ] at c6
 have i0:(0:Int)≤(i:Int):=by omega
 have i1:(i:Int)<(n:Int):=by omega
 have j0:(0:Int)≤(r.id:Int):=by omega
 have j1:(r.id:Int)<(x.N:Int):=by omega
 have hno:=fun w=>bnil_no w
 have HBL:=hid' (blank_mem hM (by omega) n hn hn2)
 have hga:w.heap.size ∉ av:=fun hm=>by have:=(hM.av _ hm).2; omega
 have HEa:=hid' (tailC_n ha (sub_at0 es hA) hn hin w.heap.size av)
 have HEb:=hid' (tailC_n hb (sub_at1 es hB) hn hin w.heap.size av)
 have HVb:=hid' (sub_at1 es hB)
 have HEE:=hid' hEb
 have HgS:Hid (w.heap.size ∉ x.S):=Tb.notS (hM.top (by omega))
 have hlen:x.t.data.toList.length=x.t.size:=rfl
 rw [← hn]
 have HNn:=hid' hn
 clear hM hn ha hb hEb
 go_enter Try.func89,Try.ntmps89
 go_wp2_with fail
 go_quiet (fail)
 go_wp2_with fail
 refine (HBL.out _).mono ?_
 rintro e w1 ⟨rfl,hN1,hM1,hK1⟩
 have hR1:=rowIs_none n
 have hKS1:Keep x.S w w1:=hK1.mono (by simp)
 clear m1 e1 c6 hnil HBL hK1
 go_wp2_with fail
 refine (never_any (f + 1) x.N (f + 1) r _ w1 (hM1.re HRe.out) hO).mono ?_
 rw [hnv]
 rintro e w1b ⟨rfl,nq,rfl⟩
 have hNq:Bools (w1.drewN nq) w.heap.size (List.replicate n false):=⟨hN1.blk⟩
 have hMq:=hM1.drewN nq
 have hKq:=hKS1.drewN nq
 revert hNq hMq hKq
 generalize w1.drewN nq=wq
 intro hNq hMq hKq
 clear hN1 hM1 hKS1
 obtain ⟨s1,s2⟩:=hNq.at i (by rw [List.length_replicate]; exact hin)
 have c0:(wq.setCell ⟨w.heap.size,i,none⟩ (.bool true)).cell? ⟨br,0,none⟩=some (.int .i64 (r.kind:Int)):=((hMq.one ((Keep.refl [w.heap.size] wq).setCell (p:=⟨w.heap.size,i,none⟩) (by simp) (.bool true))).blk hBr).cell 0
 rw [hk] at c0
 go_upto_region 8 with fail
 have hK2:Keep [w.heap.size] wq (wq.setCell ⟨w.heap.size,i,none⟩ (.bool true)):=(Keep.refl _ wq).setCell (by simp) _
 have hA2:=hNq.set i true
 have hM2:=hMq.one hK2
 have hKS2:Keep x.S w (wq.setCell ⟨w.heap.size,i,none⟩ (.bool true)):=hKq.setNew (p:=⟨w.heap.size,i,none⟩) (Nat.le_refl _) _
 have HR2:=hid' (hR1.set hin)
 revert hA2 hM2 hKS2
 generalize wq.setCell ⟨w.heap.size,i,none⟩ (.bool true)=w2 at *
 intro hA2 hM2 hKS2
 clear hMq hNq hK2 hKq hR1 s1 s2
 have c2:=(hM2.blk hBr).cell 2
 simp only [List.getElem?_cons_zero,List.getElem?_cons_succ] at c2
 go_wp2_with fail
 refine (HEa.out _ hM2).mono ?_
 rintro e w3 ⟨h3,B3,rfl,hB3,HB3,hlo3,hne3,hM3,hK3⟩
 have hN3:=hA2.keep hK3 HgS.out
 have hKS3:=hKS2.trans hK3
 clear c0 c2 hM2 hA2 hKS2 hK3
 have c3:=(hM3.blk hBr).cell 3
 simp only [List.getElem?_cons_zero,List.getElem?_cons_succ] at c3
 go_wp2_with fail
 refine (then_any x D F f b HEE.out vb HVb.out n HNn.out hn2 w3 av _ h3 _ B3 _ _ hM3 hN3 hB3 HR2.out HB3.out (fun e=>hne3 e.symm) hlo3).mono ?_
 rintro e w4 ⟨rfl,⟨A4,hA4,hR4⟩,hM4,hK4⟩
 have hKS4:=hKS3.consNew hK4 (Nat.le_refl _)
 have HR4:=hid' hR4
 clear c3 hM3 hN3 hKS3 hK4 hB3 hR4
 have c3:=(hM4.blk hBr).cell 3
 simp only [List.getElem?_cons_zero,List.getElem?_cons_succ] at c3
 go_wp2_with fail
 refine (HEb.out _ hM4).mono ?_
 rintro e w5 ⟨h5,B5,rfl,hB5,HB5,hlo5,hne5,hM5,hK5⟩
 have hN5:=hA4.keep hK5 HgS.out
 have hKS5:=hKS4.trans hK5
 clear c3 hM4 hA4 hKS4 hK5
 go_wp2_with fail
 refine (join_any _ h5 n n n _ B5 w5 hN5 hB5 (fun e=>hne5 e.symm) HR4.out.1 HB5.out.1 hn2).mono ?_
 rintro e w6 ⟨rfl,hA6,hK6⟩
 have hM6:=hM5.one hK6
 have hKS6:=hKS5.oneNew hK6 (Nat.le_refl _)
 have HR6:=hid' (rowIs_or HR4.out HB5.out)
 clear hM5 hN5 hB5 hKS5 hK6
 generalize w.heap.size=g at *
 obtain ⟨u,z1,z2,z3,z4⟩:=hM6.factsO hid n HNn.out hin
 have z6:=(hM6.blk hBr).cell 6
 simp only [List.getElem?_cons_zero,List.getElem?_cons_succ] at z6
 have HD:=hid' (end_done (P:=Q.TN x.t.data.toList D F r.id i) HNn.out hM6 hA6 (HR6.out.congr (fun j hj=>by
     rw [Q.tn_cat hO hI hF hW hnv hk es oa ob hi]
     constructor
     ·rintro (((h | h) | ⟨k,_,h⟩) | h)
      ·exact h.elim
      ·exact .inl h
      ·exact .inr (.inl ⟨k,h⟩)
      ·exact .inr (.inr h)
     ·rintro (h | ⟨k,h1,h2⟩ | h)
      ·exact .inl (.inl (.inr h))
      ·exact .inl (.inr ⟨k,by have:=h1.2.1; rw [hlen] at this; have:=HNn.out; omega,h1,h2⟩)
      ·exact .inr h)) hKS6 hga (k:=2 * r.id + 1) (by omega) hin (fun j hj=>by rw [vn_odd]))
 clear hM6 hA6
 go_wp2_with fail
 go_region
 all_goals
  go_wp2
  go_ret
  exact HD.out
set_option maxRecDepth 100000 in
set_option maxHeartbeats 1600000 in
theorem tail_k4 {x:Tb} {D:Nat→G.Rx} {F f:Nat} {r:G.Rx} (hO:G.RxOk x.N (f + 1) r) (hI:G.Ids D 0 x.N (f + 1) r) (hF:f + 1≤F) (ht:x.t.size≤200) (hW:G.Fwd (f + 1) r) (hnv:G.neverF (f + 1) r=false) (hk:r.kind=4) {a:G.Rx} (es:r.subs=[a]) (oa:G.RxOk x.N f a) (l0:0≤r.lo) (l2 : -1≤r.hi) (l3:r.hi≤99) (ha:TailC x D F f a) (hEa:EndC x D F f a):TailN x D F (f + 1) r:=by
 intro w av v i hM hR hi hnil
 have hid:r.id<x.N:=hO.1
 obtain ⟨n,hn⟩:∃ n,n=x.t.size + 1:=⟨_,rfl⟩
 have hn2:n≤1001:=by omega
 have hin:i<n:=by omega
 have HRe:=hid' hR
 obtain ⟨br,vin,va,vb,rfl,hBr,hIn,hA,hB⟩:=hR
 obtain ⟨u0,m1,e1,_,_⟩:=hM.factsO hid n hn hin
 have c6:=(hM.blk hBr).cell 6
 simp only [List.getElem?_cons_zero,List.getElem?_cons_succ] at c6
 have i0:(0:Int)≤(i:Int):=by omega
 have i1:(i:Int)<(n:Int):=by omega
 have j0:(0:Int)≤(r.id:Int):=by omega
 have j1:(r.id:Int)<(x.N:Int):=by omega
 have hno:=fun w=>bnil_no w
 have HBL:=hid' (blank_mem hM (by omega) n hn hn2)
 have hga:w.heap.size ∉ av:=fun hm=>by have:=(hM.av _ hm).2; omega
 have HEa:=hid' (tailC_n ha (sub_at0 es hA) hn hin w.heap.size av)
 have HVa:=hid' (sub_at0 es hA)
 have HEE:=hid' hEa
 have HgS:Hid (w.heap.size ∉ x.S):=Tb.notS (hM.top (by omega))
 have hlen:x.t.data.toList.length=x.t.size:=rfl
 rw [← hn]
 have HNn:=hid' hn
 clear hM hn ha hEa
 go_enter Try.func89,Try.ntmps89
 go_wp2_with fail
 go_quiet (fail)
 go_wp2_with fail
 refine (HBL.out _).mono ?_
 rintro e w1 ⟨rfl,hN1,hM1,hK1⟩
 have hR1:=rowIs_none n
 have hKS1:Keep x.S w w1:=hK1.mono (by simp)
 clear m1 e1 c6 hnil HBL hK1
 go_wp2_with fail
 refine (never_any (f + 1) x.N (f + 1) r _ w1 (hM1.re HRe.out) hO).mono ?_
 rw [hnv]
 rintro e w1b ⟨rfl,nq,rfl⟩
 have hNq:Bools (w1.drewN nq) w.heap.size (List.replicate n false):=⟨hN1.blk⟩
 have hMq:=hM1.drewN nq
 have hKq:=hKS1.drewN nq
 revert hNq hMq hKq
 generalize w1.drewN nq=wq
 intro hNq hMq hKq
 clear hN1 hM1 hKS1
 obtain ⟨s1,s2⟩:=hNq.at i (by rw [List.length_replicate]; exact hin)
 have c0:(wq.setCell ⟨w.heap.size,i,none⟩ (.bool true)).cell? ⟨br,0,none⟩=some (.int .i64 (r.kind:Int)):=((hMq.one ((Keep.refl [w.heap.size] wq).setCell (p:=⟨w.heap.size,i,none⟩) (by simp) (.bool true))).blk hBr).cell 0
 rw [hk] at c0
 have c5:(wq.setCell ⟨w.heap.size,i,none⟩ (.bool true)).cell? ⟨br,5,none⟩=some (.int .i64 r.hi):=((hMq.one ((Keep.refl [w.heap.size] wq).setCell (p:=⟨w.heap.size,i,none⟩) (by simp) (.bool true))).blk hBr).cell 5
 go_upto_region 8 with fail
 have hK2:Keep [w.heap.size] wq (wq.setCell ⟨w.heap.size,i,none⟩ (.bool true)):=(Keep.refl _ wq).setCell (by simp) _
 have hA2:=hNq.set i true
 have hM2:=hMq.one hK2
 have hKS2:Keep x.S w (wq.setCell ⟨w.heap.size,i,none⟩ (.bool true)):=hKq.setNew (p:=⟨w.heap.size,i,none⟩) (Nat.le_refl _) _
 have HR2:=hid' (hR1.set hin)
 revert hA2 hM2 hKS2
 generalize wq.setCell ⟨w.heap.size,i,none⟩ (.bool true)=w2 at *
 intro hA2 hM2 hKS2
 clear hMq hNq hK2 hKq hR1 s1 s2
 by_cases hz:r.hi=0
 ·have q0:(r.hi != 0)=false:=by simpa using hz
  go_upto_region 28 with fail
  clear c0 c5
  generalize w.heap.size=g at *
  obtain ⟨u,z1,z2,z3,z4⟩:=hM2.factsO hid n HNn.out hin
  have z6:=(hM2.blk hBr).cell 6
  simp only [List.getElem?_cons_zero,List.getElem?_cons_succ] at z6
  have HD:=hid' (end_done (P:=Q.TN x.t.data.toList D F r.id i) HNn.out hM2 hA2 (HR2.out.congr (fun j hj=>by
        rw [Q.tn_rep hO hI hF hW hnv hk es oa l0 hi]
        constructor
        ·rintro (h | h)
         ·exact h.elim
         ·exact .inl h
        ·rintro (h | ⟨h,_⟩)
         ·exact .inr h
         ·exact absurd hz h)) hKS2 hga (k:=2 * r.id + 1) (by omega) hin (fun j hj=>by rw [vn_odd]))
  clear hM2 hA2
  go_wp2_with fail
  go_region
  all_goals
   go_wp2
   go_ret
   exact HD.out
 ·have q0:(r.hi != 0)=true:=by simpa using hz
  by_cases hp:0<r.hi
  ·have q1:decide (r.hi > 0)=true:=decide_eq_true hp
   have q2:decide (0<r.hi)=true:=decide_eq_true hp
   have c2:=(hM2.blk hBr).cell 2
   simp only [List.getElem?_cons_zero,List.getElem?_cons_succ] at c2
   go_wp2_with fail
   refine (HEa.out _ hM2).mono ?_
   rintro e w3 ⟨h3,B3,rfl,hB3,HB3,hlo3,hne3,hM3,hK3⟩
   have hN3:=hA2.keep hK3 HgS.out
   have hKS3:=hKS2.trans hK3
   clear c0 c2 c5 hM2 hA2 hKS2 hK3
   have c2:=(hM3.blk hBr).cell 2
   have c5:=(hM3.blk hBr).cell 5
   simp only [List.getElem?_cons_zero,List.getElem?_cons_succ] at c2 c5
   have q3:(0:Int)≤r.hi:=by omega
   go_wp2_with fail
   refine (repeat_any x D F f a HEE.out va HVa.out n HNn.out hn2 w3 av _ h3 _ B3 _ _ hM3 hN3 hB3 HR2.out HB3.out (fun e=>hne3 e.symm) hlo3 0 (r.hi - 1) (by omega) (by omega) (by omega) (by omega) _ rfl).mono ?_
   rintro e w4 ⟨rfl,⟨A4,hA4,hR4⟩,hM4,hK4⟩
   have hKS4:=hKS3.consNew hK4 (Nat.le_refl _)
   have HR4:=hid' hR4
   clear c2 c5 hM3 hN3 hKS3 hK4 hB3 hR4
   generalize w.heap.size=g at *
   obtain ⟨u,z1,z2,z3,z4⟩:=hM4.factsO hid n HNn.out hin
   have z6:=(hM4.blk hBr).cell 6
   simp only [List.getElem?_cons_zero,List.getElem?_cons_succ] at z6
   have HD:=hid' (end_done (P:=Q.TN x.t.data.toList D F r.id i) HNn.out hM4 hA4 (HR4.out.congr (fun j hj=>by
           rw [Q.tn_rep hO hI hF hW hnv hk es oa l0 hi,hlen]
           have em:(if r.hi - 1<0 then (0:Int).toNat + x.t.size + 1 else (r.hi - 1).toNat)=(if r.hi<0 then x.t.size + 1 else r.hi.toNat - 1):=by
            rw [if_neg (by omega),if_neg (by omega)]; omega
           rw [em]
           constructor
           ·rintro ((h | h) | ⟨c,_,h2,k,h3,h4,h5⟩)
            ·exact h.elim
            ·exact .inl h
            ·exact .inr ⟨hz,k,c,h2,h4,h5⟩
           ·rintro (h | ⟨_,k,c,h2,h4,h5⟩)
            ·exact .inl (.inr h)
            ·exact .inr ⟨c,by simp,h2,k,by have:=h4.2.1; rw [hlen] at this; have:=HNn.out; omega,h4,h5⟩)) hKS4 hga (k:=2 * r.id + 1) (by omega) hin (fun j hj=>by rw [vn_odd]))
   clear hM4 hA4
   go_wp2_with fail
   go_region
   all_goals
    go_wp2
    go_ret
    exact HD.out
  ·have q1:decide (r.hi > 0)=false:=decide_eq_false hp
   have q2:decide (0<r.hi)=false:=decide_eq_false hp
   have c2:=(hM2.blk hBr).cell 2
   simp only [List.getElem?_cons_zero,List.getElem?_cons_succ] at c2
   go_wp2_with fail
   refine (HEa.out _ hM2).mono ?_
   rintro e w3 ⟨h3,B3,rfl,hB3,HB3,hlo3,hne3,hM3,hK3⟩
   have hN3:=hA2.keep hK3 HgS.out
   have hKS3:=hKS2.trans hK3
   clear c0 c2 c5 hM2 hA2 hKS2 hK3
   have c2:=(hM3.blk hBr).cell 2
   have c5:=(hM3.blk hBr).cell 5
   simp only [List.getElem?_cons_zero,List.getElem?_cons_succ] at c2 c5
   have q3:r.hi<0:=by omega
   go_wp2_with fail
   refine (repeat_any x D F f a HEE.out va HVa.out n HNn.out hn2 w3 av _ h3 _ B3 _ _ hM3 hN3 hB3 HR2.out HB3.out (fun e=>hne3 e.symm) hlo3 0 (r.hi) (by omega) (by omega) (by omega) (by omega) _ rfl).mono ?_
   rintro e w4 ⟨rfl,⟨A4,hA4,hR4⟩,hM4,hK4⟩
   have hKS4:=hKS3.consNew hK4 (Nat.le_refl _)
   have HR4:=hid' hR4
   clear c2 c5 hM3 hN3 hKS3 hK4 hB3 hR4
   generalize w.heap.size=g at *
   obtain ⟨u,z1,z2,z3,z4⟩:=hM4.factsO hid n HNn.out hin
   have z6:=(hM4.blk hBr).cell 6
   simp only [List.getElem?_cons_zero,List.getElem?_cons_succ] at z6
   have HD:=hid' (end_done (P:=Q.TN x.t.data.toList D F r.id i) HNn.out hM4 hA4 (HR4.out.congr (fun j hj=>by
           rw [Q.tn_rep hO hI hF hW hnv hk es oa l0 hi,hlen]
           have em:(if r.hi<0 then (0:Int).toNat + x.t.size + 1 else (r.hi).toNat)=(if r.hi<0 then x.t.size + 1 else r.hi.toNat - 1):=by
            rw [if_pos (by omega),if_pos (by omega)]; simp
           rw [em]
           constructor
           ·rintro ((h | h) | ⟨c,_,h2,k,h3,h4,h5⟩)
            ·exact h.elim
            ·exact .inl h
            ·exact .inr ⟨hz,k,c,h2,h4,h5⟩
           ·rintro (h | ⟨_,k,c,h2,h4,h5⟩)
            ·exact .inl (.inr h)
            ·exact .inr ⟨c,by simp,h2,k,by have:=h4.2.1; rw [hlen] at this; have:=HNn.out; omega,h4,h5⟩)) hKS4 hga (k:=2 * r.id + 1) (by omega) hin (fun j hj=>by rw [vn_odd]))
   clear hM4 hA4
   go_wp2_with fail
   go_region
   all_goals
    go_wp2
    go_ret
    exact HD.out
theorem tail_any {x:Tb} {D:Nat→G.Rx} {F:Nat} (ht:x.t.size≤200):∀ (f:Nat) (r:G.Rx),f≤F→G.RxOk x.N f r→G.Ids D 0 x.N f r→G.Fwd f r→TailC x D F f r
 | 0,_,_,h,_,_=>h.elim
 | f + 1,r,hF,hO,hI,hW=>by
  refine tailC_of hO.1 ?_
  have hE:EndC x D F (f + 1) r:=end_any ht (f + 1) r hF hO hI
  cases hnv:G.neverF (f + 1) r with
  | true=>exact tail_never hO hI hF ht hW hnv
  | false =>
   rcases hO.2 with h | ⟨h,_⟩ | ⟨h,a,b,e,h1,h2⟩ | ⟨h,a,e,h1,l0,l1,l2,l3⟩
   ·exact tail_k0 hO hI hF ht hW hnv h
   ·exact tail_k1 hO hI hF ht hW hnv h hE
   ·have ia:=hI.2.2.2 a (by rw [e]; simp)
    have ib:=hI.2.2.2 b (by rw [e]; simp)
    have wa:=hW.2 a (by rw [e]; simp)
    have wb:=hW.2 b (by rw [e]; simp)
    have ta:TailC x D F f a:=tail_any ht f a (by omega) h1 ia wa
    have tb:TailC x D F f b:=tail_any ht f b (by omega) h2 ib wb
    rcases h with h | h
    ·exact tail_k2 hO hI hF ht hW hnv h e h1 h2 ta tb (end_any ht f b (by omega) h2 ib)
    ·exact tail_k3 hO hI hF ht hW hnv h e h1 h2 ta tb
   ·have ia:=hI.2.2.2 a (by rw [e]; simp)
    have wa:=hW.2 a (by rw [e]; simp)
    exact tail_k4 hO hI hF ht hW hnv h e h1 l0 l2 l3 (tail_any ht f a (by omega) h1 ia wa) (end_any ht f a (by omega) h1 ia)
structure NewH (w:World) (bp B N L s0 be bt bm i j:Nat) (vp:List Value) (t:ByteArray) (w0:World):Prop where
 size:w.heap.size=s0 + i + j
 ends:BlkT w be 170 (mRows N L s0 0 i)
 tail:BlkT w bt 170 (mRows N L s0 1 j)
 mat:BlkT w bm 169 [.string t,.slice (some ⟨be,0,none⟩) N N,.slice (some ⟨bt,0,none⟩) N N]
 pat:BlkT w bp 147 vp
 rows:∀ k,k<i + j→BlkT w (s0 + k) 100 (zeroRow (.slice none 0 0) L).toList
 below:Below B w0 w
 l1:be<s0
 l2:bt<s0
 l3:bm<s0
 l4:bp<B
 l5:B≤be∧B≤bt∧B≤bm
 n1:be ≠ bt
 n2:bm ≠ be
 n3:bm ≠ bt
theorem newH_ends {w:World} {bp B N L s0 be bt bm k:Nat} {vp:List Value} {t:ByteArray} {w0:World} (h:NewH w bp B N L s0 be bt bm k k vp t w0) (hk:k<N) :
    NewH (((w.alloc (.cells (zeroRow (.slice none 0 0) L) 100)).setCell ⟨be,k,none⟩ (.slice (some ⟨w.heap.size,0,none⟩) L L)).drew) bp B N L s0 be bt bm (k + 1) k vp t w0:=by
 have hs:=h.size
 have a1:=h.l1; have a2:=h.l2; have a3:=h.l3; have a4:=h.l4; have a5:=h.l5; have b1:=h.n1; have b2:=h.n2; have b3:=h.n3
 have hB:B≤w.heap.size:=by omega
 have k1:Keep [be] w (((w.alloc (.cells (zeroRow (.slice none 0 0) L) 100)).setCell ⟨be,k,none⟩ (.slice (some ⟨w.heap.size,0,none⟩) L L)).drew):=(((Keep.refl _ w).alloc _).setCell (by simp) _).drew
 refine ⟨?_,?_,h.tail.keep k1 (by simp; omega),h.mat.keep k1 (by simp; omega),h.pat.keep k1 (by simp; omega),fun c hc=>?_,?_,a1,a2,a3,a4,a5,b1,b2,b3⟩
 ·show (World.setCell _ _ _).heap.size=_
  simp [World.setCell]
  omega
 ·have:=(h.ends.alloc (.cells (zeroRow (.slice none 0 0) L) 100)).set k (.slice (some ⟨w.heap.size,0,none⟩) L L)
  rw [hs,show s0 + k + k=s0 + 2 * k + 0 by omega,mRows_step N L s0 0 k hk] at this
  rw [hs,show s0 + k + k=s0 + 2 * k + 0 by omega]
  exact this
 ·rcases Nat.lt_or_ge c (k + k) with g | g
  ·exact (h.rows c g).keep k1 (by simp; omega)
  ·have e:s0 + c=w.heap.size:=by omega
   have:=(BlkT.new w (zeroRow (.slice none 0 0) L) 100).other (a:=⟨be,k,none⟩) (by show be ≠ _; omega) (.slice (some ⟨w.heap.size,0,none⟩) L L)
   rw [e]
   exact this
 ·exact ((h.below.alloc hB _).setCell (by show B≤be; omega) _).drew
theorem newH_tail {w:World} {bp B N L s0 be bt bm k:Nat} {vp:List Value} {t:ByteArray} {w0:World} (h:NewH w bp B N L s0 be bt bm (k + 1) k vp t w0) (hk:k<N) :
    NewH (((w.alloc (.cells (zeroRow (.slice none 0 0) L) 100)).setCell ⟨bt,k,none⟩ (.slice (some ⟨w.heap.size,0,none⟩) L L)).drew) bp B N L s0 be bt bm (k + 1) (k + 1) vp t w0:=by
 have hs:=h.size
 have a1:=h.l1; have a2:=h.l2; have a3:=h.l3; have a4:=h.l4; have a5:=h.l5; have b1:=h.n1; have b2:=h.n2; have b3:=h.n3
 have hB:B≤w.heap.size:=by omega
 have k1:Keep [bt] w (((w.alloc (.cells (zeroRow (.slice none 0 0) L) 100)).setCell ⟨bt,k,none⟩ (.slice (some ⟨w.heap.size,0,none⟩) L L)).drew):=(((Keep.refl _ w).alloc _).setCell (by simp) _).drew
 refine ⟨?_,h.ends.keep k1 (by simp; omega),?_,h.mat.keep k1 (by simp; omega),h.pat.keep k1 (by simp; omega),fun c hc=>?_,?_,a1,a2,a3,a4,a5,b1,b2,b3⟩
 ·show (World.setCell _ _ _).heap.size=_
  simp [World.setCell]
  omega
 ·have:=(h.tail.alloc (.cells (zeroRow (.slice none 0 0) L) 100)).set k (.slice (some ⟨w.heap.size,0,none⟩) L L)
  rw [hs,show s0 + (k + 1) + k=s0 + 2 * k + 1 by omega,mRows_step N L s0 1 k hk] at this
  rw [hs,show s0 + (k + 1) + k=s0 + 2 * k + 1 by omega]
  exact this
 ·rcases Nat.lt_or_ge c (k + 1 + k) with g | g
  ·exact (h.rows c g).keep k1 (by simp; omega)
  ·have e:s0 + c=w.heap.size:=by omega
   have:=(BlkT.new w (zeroRow (.slice none 0 0) L) 100).other (a:=⟨bt,k,none⟩) (by show bt ≠ _; omega) (.slice (some ⟨w.heap.size,0,none⟩) L L)
   rw [e]
   exact this
 ·exact ((h.below.alloc hB _).setCell (by show B≤bt; omega) _).drew
theorem newH_cells {w:World} {bp B N L s0 be bt bm i j:Nat} {vp:List Value} {t:ByteArray} {w0:World} (h:NewH w bp B N L s0 be bt bm i j vp t w0) :
    w.cell? ⟨bm,1,none⟩=some (.slice (some ⟨be,0,none⟩) N N)∧w.cell? ⟨bm,2,none⟩=some (.slice (some ⟨bt,0,none⟩) N N) ∧
    (∀ o,(w.alloc o).cell? ⟨bm,1,none⟩=some (.slice (some ⟨be,0,none⟩) N N)∧(w.alloc o).cell? ⟨bm,2,none⟩=some (.slice (some ⟨bt,0,none⟩) N N)) ∧
    (∀ o k,(w.alloc o).frozen? ⟨be,k,none⟩=false∧(w.alloc o).frozen? ⟨bt,k,none⟩=false) ∧
    (∀ o k,i≤k→k<N→(w.alloc o).cell? ⟨be,k,none⟩=some (.slice none 0 0))∧∀ o k,j≤k→k<N→(w.alloc o).cell? ⟨bt,k,none⟩=some (.slice none 0 0):=by
 have nil:∀ d i k,i≤k→k<N→(mRows N L s0 d i)[k]?=some (.slice none 0 0):=by
  intro d i k h1 h2
  unfold mRows
  rw [List.getElem?_map,List.getElem?_range h2,Option.map_some,if_neg (by omega)]
 refine ⟨h.mat.cell 1,h.mat.cell 2,fun o=>⟨(h.mat.alloc o).cell 1,(h.mat.alloc o).cell 2⟩,fun o k=>⟨(h.ends.alloc o).frozen k,(h.tail.alloc o).frozen k⟩,fun o k h1 h2=>?_,fun o k h1 h2=>?_⟩
 ·rw [(h.ends.alloc o).cell k]; exact nil _ _ _ h1 h2
 ·rw [(h.tail.alloc o).cell k]; exact nil _ _ _ h1 h2
theorem newH_zero {w w1:World} {bp B N L s0 be bt bm:Nat} {vp:List Value} {t:ByteArray} {w0:World} (h:NewM w bp B N L s0 be bt bm 0 vp t w0) (l1:be<s0) (l2:bt<s0) (l3:bm<s0) (l4:bp<B) (l5:B≤be∧B≤bt∧B≤bm) (n1:be ≠ bt) (n2:bm ≠ be) (n3:bm ≠ bt):NewH w bp B N L s0 be bt bm 0 0 vp t w0 :=
 ⟨h.size,h.ends,h.tail,h.mat,h.pat,fun k hk=>by omega,h.below,l1,l2,l3,l4,l5,n1,n2,n3⟩
set_option maxRecDepth 100000 in
set_option maxHeartbeats 3200000 in
theorem newMatcher_any (w:World) (bp N:Nat) (t:ByteArray) (vr:Value) (hP:BlkT w bp 147 [vr,.int .i64 (N:Int)]) (hN:N≤81) (ht:t.size≤200) :
    Calls Try.prog 87 #[.pointer (some ⟨bp,0,none⟩),.string t] w fun e w'=>∃ be bt bm s0,e=.returned (.pointer (some ⟨bm,0,none⟩))∧NewH w' bp w.heap.size N (t.size + 1) s0 be bt bm N N [vr,.int .i64 (N:Int)] t w:=by
 have hm2:=fun w'=>make_rows2 (N:Int) N rfl (by omega) w'
 have hm1:=fun w'=>make_rows1 ((t.size:Int) + 1) (t.size + 1) (by omega) (by omega) w'
 have c1:w.cell? ⟨bp,1,none⟩=some (.int .i64 (N:Int)):=hP.cell 1
 have hP1:=hP.alloc (.cells (zeroRow (.slice none 0 0) N) 170)
 have c2:(w.alloc (.cells (zeroRow (.slice none 0 0) N) 170)).cell? ⟨bp,1,none⟩=some (.int .i64 (N:Int)):=hP1.cell 1
 have hlt:=hP.lt
 have HZ:Hid (∀ (be bt:Nat) (hb:be=w.heap.size∧bt=w.heap.size + 1∨bt=w.heap.size∧be=w.heap.size + 1),NewH ((((w.alloc (.cells (zeroRow (.slice none 0 0) N) 170)).alloc (.cells (zeroRow (.slice none 0 0) N) 170)).alloc (.cells #[.string t,.slice (some ⟨be,0,none⟩) N N,.slice (some ⟨bt,0,none⟩) N N] 169)).drew) bp w.heap.size N (t.size + 1) (w.heap.size + 3) be bt (w.heap.size + 1 + 1) 0 0 [vr,.int .i64 (N:Int)] t w):=fun be bt hb=>by
  refine newH_zero (w1:=w) (newM_zero w bp N t vr be bt hb hP) ?_ ?_ ?_ ?_ ?_ ?_ ?_ ?_
  all_goals omega
 clear hP hP1
 go_enter Try.func87,Try.ntmps87
 go_wp2_with fail
 go_region
 ·have hz:=HZ.out w.heap.size (w.heap.size + 1) (.inl ⟨rfl,rfl⟩)
  revert hz
  generalize (((w.alloc (.cells (zeroRow (.slice none 0 0) N) 170)).alloc (.cells (zeroRow (.slice none 0 0) N) 170)).alloc (.cells #[.string t,.slice (some ⟨w.heap.size,0,none⟩) N N,.slice (some ⟨w.heap.size + 1,0,none⟩) N N] 169)).drew=w1
  intro hz
  clear HZ c1 c2 hm2
  go_wp2_with fail
  generalize w.heap.size + 1 + 1=bm at *
  generalize w.heap.size + 3=s0 at *
  generalize w.heap.size + 1=bt at *
  go_loopw [6] (fun iv wX=>∃ k:Nat,k≤N∧iv=.int .i64 (k:Int)∧NewH wX bp w.heap.size N (t.size + 1) s0 w.heap.size bt bm k k [vr,.int .i64 (N:Int)] t w) (fun iv _=>N - (intOf iv).toNat)
  case atStart=>exact ⟨0,by omega,rfl,hz⟩
  case round =>
   clear hz
   obtain ⟨k,hk,rfl,hX⟩:=hrel
   have p1:=hX.pat.cell 1
   simp only [List.getElem?_cons_zero,List.getElem?_cons_succ] at p1
   by_cases hkN:k<N
   ·have i0:(0:Int)≤(k:Int):=by omega
    have i1:(k:Int)<(N:Int):=by omega
    obtain ⟨m1,_,ma,mf,me,_⟩:=newH_cells hX
    have ma1:=fun o=>(ma o).1
    have mf1:=fun o=>(mf o k).1
    have me1:=fun o=>me o k (Nat.le_refl _) hkN
    have hE:=newH_ends hX hkN
    clear ma mf me hX
    go_wp2_with fail
    go_region
    revert hE
    generalize ((wr.alloc (.cells (zeroRow (.slice none 0 0) (t.size + 1)) 100)).setCell ⟨w.heap.size,k,none⟩ (.slice (some ⟨wr.heap.size,0,none⟩) (t.size + 1) (t.size + 1))).drew=w2
    intro hE
    clear m1 ma1 mf1 me1 p1
    obtain ⟨_,m1,ma,mf,_,me⟩:=newH_cells hE
    have ma1:=fun o=>(ma o).2
    have mf1:=fun o=>(mf o k).2
    have me1:=fun o=>me o k (Nat.le_refl _) hkN
    have hT:=newH_tail hE hkN
    clear ma mf me hE
    go_wp2_with fail
    go_region
    revert hT
    generalize ((w2.alloc (.cells (zeroRow (.slice none 0 0) (t.size + 1)) 100)).setCell ⟨bt,k,none⟩ (.slice (some ⟨w2.heap.size,0,none⟩) (t.size + 1) (t.size + 1))).drew=w3
    intro hT
    clear m1 ma1 mf1 me1
    go_wp2
    go_roundw
    case rel=>exact ⟨k + 1,by omega,by go_num,hT⟩
    case measure=>simp [intOf]; omega
   ·obtain rfl:k=N:=by omega
    go_wp2
    go_ret
    exact ⟨_,_,bm,s0,rfl,hX⟩
 ·have hz:=HZ.out (w.heap.size + 1) w.heap.size (.inr ⟨rfl,rfl⟩)
  revert hz
  generalize (((w.alloc (.cells (zeroRow (.slice none 0 0) N) 170)).alloc (.cells (zeroRow (.slice none 0 0) N) 170)).alloc (.cells #[.string t,.slice (some ⟨w.heap.size + 1,0,none⟩) N N,.slice (some ⟨w.heap.size,0,none⟩) N N] 169)).drew=w1
  intro hz
  clear HZ c1 c2 hm2
  go_wp2_with fail
  generalize w.heap.size + 1 + 1=bm at *
  generalize w.heap.size + 3=s0 at *
  generalize w.heap.size + 1=be at *
  go_loopw [6] (fun iv wX=>∃ k:Nat,k≤N∧iv=.int .i64 (k:Int)∧NewH wX bp w.heap.size N (t.size + 1) s0 be w.heap.size bm k k [vr,.int .i64 (N:Int)] t w) (fun iv _=>N - (intOf iv).toNat)
  case atStart=>exact ⟨0,by omega,rfl,hz⟩
  case round =>
   clear hz
   obtain ⟨k,hk,rfl,hX⟩:=hrel
   have p1:=hX.pat.cell 1
   simp only [List.getElem?_cons_zero,List.getElem?_cons_succ] at p1
   by_cases hkN:k<N
   ·have i0:(0:Int)≤(k:Int):=by omega
    have i1:(k:Int)<(N:Int):=by omega
    obtain ⟨m1,_,ma,mf,me,_⟩:=newH_cells hX
    have ma1:=fun o=>(ma o).1
    have mf1:=fun o=>(mf o k).1
    have me1:=fun o=>me o k (Nat.le_refl _) hkN
    have hE:=newH_ends hX hkN
    clear ma mf me hX
    go_wp2_with fail
    go_region
    revert hE
    generalize ((wr.alloc (.cells (zeroRow (.slice none 0 0) (t.size + 1)) 100)).setCell ⟨be,k,none⟩ (.slice (some ⟨wr.heap.size,0,none⟩) (t.size + 1) (t.size + 1))).drew=w2
    intro hE
    clear m1 ma1 mf1 me1 p1
    obtain ⟨_,m1,ma,mf,_,me⟩:=newH_cells hE
    have ma1:=fun o=>(ma o).2
    have mf1:=fun o=>(mf o k).2
    have me1:=fun o=>me o k (Nat.le_refl _) hkN
    have hT:=newH_tail hE hkN
    clear ma mf me hE
    go_wp2_with fail
    go_region
    revert hT
    generalize ((w2.alloc (.cells (zeroRow (.slice none 0 0) (t.size + 1)) 100)).setCell ⟨w.heap.size,k,none⟩ (.slice (some ⟨w2.heap.size,0,none⟩) (t.size + 1) (t.size + 1))).drew=w3
    intro hT
    clear m1 ma1 mf1 me1
    go_wp2
    go_roundw
    case rel=>exact ⟨k + 1,by omega,by go_num,hT⟩
    case measure=>simp [intOf]; omega
   ·obtain rfl:k=N:=by omega
    go_wp2
    go_ret
    exact ⟨_,_,bm,s0,rfl,hX⟩
theorem Try.infoStr:(Try.prog.info? 9).map (fun i=>(i.zero,i.size,i.bytes))=some (some (.string ⟨#[]⟩),1,16):=by kernel_rfl
def strB (l:List ByteArray):List Value:=l.map Value.string
theorem strB_len (l:List ByteArray):(strB l).length=l.length:=by simp [strB]
def bl (a b:ByteArray):Prop:=M.blt a.data.toList b.data.toList=true
theorem bl_irr (a:ByteArray):¬ bl a a:=fun h=>by unfold bl at h; rw [M.blt_irrefl] at h; cases h
theorem bl_trans {a b c:ByteArray} (h:bl a b) (k:bl b c):bl a c:=M.blt_trans _ _ _ h k
theorem bl_total {a b:ByteArray} (h:a ≠ b) (k:¬ bl a b):bl b a:=M.blt_total _ _ (fun e=>h (bytes_eq e)) (by unfold bl at k; simpa using k)
theorem up_at {l:List ByteArray} (h:l.Pairwise bl) {i j:Nat} (hij:i<j) (hj:j<l.length):bl (l.getD i ⟨#[]⟩) (l.getD j ⟨#[]⟩):=by
 rw [List.getD_eq_getElem?_getD,List.getD_eq_getElem?_getD,List.getElem?_eq_getElem hj,List.getElem?_eq_getElem (by omega)]
 exact List.pairwise_iff_getElem.1 h i j (by omega) hj hij
structure Cut (l:List ByteArray) (s:ByteArray) (lo hi:Nat):Prop where
 le:lo≤hi
 top:hi≤l.length
 low:∀ j,j<lo→bl (l.getD j ⟨#[]⟩) s
 up:∀ j,hi≤j→j<l.length→¬ bl (l.getD j ⟨#[]⟩) s
theorem Cut.right {l:List ByteArray} {s:ByteArray} {lo hi m:Nat} (h:Cut l s lo hi) (hp:l.Pairwise bl) (h1:lo≤m) (h2:m<hi) (hb:bl (l.getD m ⟨#[]⟩) s):Cut l s (m + 1) hi:=by
 have:=h.top
 refine ⟨by omega,h.top,fun j hj=>?_,h.up⟩
 rcases Nat.lt_or_ge j m with g | g
 ·exact bl_trans (up_at hp g (by omega)) hb
 ·have:j=m:=by omega
  subst this; exact hb
theorem Cut.left {l:List ByteArray} {s:ByteArray} {lo hi m:Nat} (h:Cut l s lo hi) (hp:l.Pairwise bl) (h1:lo≤m) (h2:m<hi) (hb:¬ bl (l.getD m ⟨#[]⟩) s):Cut l s lo m:=by
 have:=h.top
 refine ⟨h1,by omega,h.low,fun j hj hl hc=>?_⟩
 rcases Nat.lt_or_ge m j with g | g
 ·exact hb (bl_trans (up_at hp g hl) hc)
 ·have:j=m:=by omega
  subst this; exact hb hc
def insB (l:List ByteArray) (s:ByteArray) (k:Nat):List ByteArray:=l.take k ++ s :: l.drop k
theorem insB_len (l:List ByteArray) (s:ByteArray) (k:Nat) (hk:k≤l.length):(insB l s k).length=l.length + 1:=by simp [insB]; omega
theorem insB_mem (l:List ByteArray) (s:ByteArray) (k:Nat) (u:ByteArray):u ∈ insB l s k ↔ (u ∈ l∨u=s):=by
 unfold insB
 rw [List.mem_append,List.mem_cons]
 conv=>rhs; rw [← List.take_append_drop k l,List.mem_append]
 constructor
 ·rintro (h | h | h)
  ·exact .inl (.inl h)
  ·exact .inr h
  ·exact .inl (.inr h)
 ·rintro ((h | h) | h)
  ·exact .inl h
  ·exact .inr (.inr h)
  ·exact .inr (.inl h)
theorem insB_up {l:List ByteArray} {s:ByteArray} {k:Nat} (hp:l.Pairwise bl) (h:Cut l s k k) (hne:k<l.length→l.getD k ⟨#[]⟩ ≠ s):(insB l s k).Pairwise bl:=by
 unfold insB
 have h0:(l.take k ++ l.drop k).Pairwise bl:=by rw [List.take_append_drop]; exact hp
 rw [List.pairwise_append] at h0 ⊢
 obtain ⟨h1,h2,h3⟩:=h0
 have hlow:∀ x,x ∈ l.take k→bl x s:=by
  intro x hx
  obtain ⟨j,hj,rfl⟩:=List.getElem_of_mem hx
  have hj':j<k:=by simp at hj; omega
  have hjl:j<l.length:=by simp at hj; omega
  have:=h.low j hj'
  rw [List.getD_eq_getElem?_getD,List.getElem?_eq_getElem hjl] at this
  rw [List.getElem_take]
  exact this
 have hup:∀ x,x ∈ l.drop k→bl s x:=by
  intro x hx
  obtain ⟨j,hj,rfl⟩:=List.getElem_of_mem hx
  have hjl:k + j<l.length:=by simp at hj; omega
  have hk:k<l.length:=by omega
  have b0:bl s (l.getD k ⟨#[]⟩):=bl_total (hne hk) (h.up k (Nat.le_refl _) hk)
  have e:(l.drop k)[j]=l.getD (k + j) ⟨#[]⟩:=by rw [List.getElem_drop,List.getD_eq_getElem?_getD,List.getElem?_eq_getElem hjl]; rfl
  rw [e]
  rcases Nat.eq_zero_or_pos j with z | z
  ·subst z; exact b0
  ·exact bl_trans b0 (up_at hp (by omega) hjl)
 refine ⟨h1,List.pairwise_cons.2 ⟨hup,h2⟩,fun x hx y hy=>?_⟩
 rcases List.mem_cons.1 hy with rfl | hy
 ·exact hlow x hx
 ·exact h3 x hx y hy
theorem splice_ins (l:List ByteArray) (s:ByteArray) (k:Nat) (hk:k≤l.length) (cur:List Value) (hc:cur.take (l.length + 1)=strB l ++ [.string ⟨#[]⟩]) (hl:l.length + 1≤cur.length) :
    ((splice cur (k + 1) (strB (l.drop k))).set k (.string s)).take (l.length + 1)=strB (insB l s k):=by
 have e0:cur=strB l ++ (.string ⟨#[]⟩ :: cur.drop (l.length + 1)):=by
  conv=>lhs; rw [← List.take_append_drop (l.length + 1) cur,hc]
  simp
 generalize cur.drop (l.length + 1)=rest at e0
 subst e0
 have e1:strB l=strB (l.take k) ++ strB (l.drop k):=by
  unfold strB
  rw [← List.map_append,List.take_append_drop]
 have lt:(strB (l.take k)).length=k:=by simp [strB]; omega
 have ld:(strB (l.drop k)).length=l.length - k:=by simp [strB]
 have lw:(strB l).length=l.length:=strB_len l
 have e2:splice (strB l ++ (.string ⟨#[]⟩ :: rest)) (k + 1) (strB (l.drop k))=(strB l ++ (.string ⟨#[]⟩ :: rest)).take (k + 1) ++ (strB (l.drop k) ++ rest):=by
  unfold splice
  congr 2
  rw [ld,show k + 1 + (l.length - k)=(strB l).length + 1 by omega,List.drop_length_add_append]
  rfl
 rw [e2]
 have e3:∃ y,(strB l ++ (.string ⟨#[]⟩ :: rest)).take (k + 1)=strB (l.take k) ++ [y]:=by
  rw [e1,List.append_assoc,show k + 1=(strB (l.take k)).length + 1 by omega,List.take_length_add_append]
  cases strB (l.drop k) with
  | nil=>exact ⟨_,rfl⟩
  | cons y ys=>exact ⟨y,rfl⟩
 obtain ⟨y,e3⟩:=e3
 rw [e3,List.append_assoc,List.set_append_right _ _ (by omega),lt,Nat.sub_self]
 show (strB (l.take k) ++ (.string s :: (strB (l.drop k) ++ rest))).take (l.length + 1)=_
 have e4:strB (insB l s k)=strB (l.take k) ++ (.string s :: strB (l.drop k)):=by simp [strB,insB]
 rw [e4]
 have e5:(strB (l.take k) ++ (Value.string s :: strB (l.drop k))).length=l.length + 1:=by rw [List.length_append,List.length_cons,lt,ld]; omega
 rw [show strB (l.take k) ++ (Value.string s :: (strB (l.drop k) ++ rest))=(strB (l.take k) ++ (Value.string s :: strB (l.drop k))) ++ rest by simp,← e5,List.take_left]
end Go.Proofs.Ytjmkkkfloalliab
namespace Go.Proofs.Ytjmkkkfloalliab.Q
set_option linter.unusedVariables false
def At (t:List UInt8) (A:Lang) (p:Nat):Prop:=∃ u,M.pre u (t.drop p)=true∧u ≠ []∧A u
theorem mem_at {t:List UInt8} {P:Pat} {A:Lang} (h:∀ u,acc P u=true ↔ (u ≠ []∧A u)) {p:Nat}:p ∈ hits t P ↔ p≤t.length∧At t A p:=by
 rw [mem_hits]
 refine and_congr_right fun _=>?_
 constructor
 ·rintro ⟨u,a,b⟩
  exact ⟨u,a,(h u).1 b⟩
 ·rintro ⟨u,a,b⟩
  exact ⟨u,a,(h u).2 b⟩
theorem At.lt {t:List UInt8} {A:Lang} {p:Nat} (h:At t A p):p<t.length:=by
 obtain ⟨u,a,b,_⟩:=h
 rcases Nat.lt_or_ge p t.length with g | g
 ·exact g
 ·rw [List.drop_of_length_le g] at a
  obtain ⟨y,e⟩:=(M.pre_iff u []).1 a
  exact absurd (List.append_eq_nil_iff.1 e.symm).1 b
structure Mg (a b:List Nat) (k m:Nat) (l:List Nat):Prop where
 len:l.length≤k + m
 rise:l.Pairwise (·<·)
 mem:∀ x,x ∈ l ↔ ((∃ i,i<k∧x=a.getD i 0)∨∃ j,j<m∧x=b.getD j 0)
 lt:∀ x,x ∈ l→(∀ i,k≤i→i<a.length→x<a.getD i 0)∧∀ j,m≤j→j<b.length→x<b.getD j 0
variable {a b:List Nat} {k m:Nat} {l:List Nat}
theorem Mg.zero:Mg a b 0 0 []:=⟨by simp,List.Pairwise.nil,fun x=>by simp,fun x h=>by simp at h⟩
theorem pairwise_snoc {l:List Nat} {y:Nat} (h:l.Pairwise (·<·)) (g:∀ x,x ∈ l→x<y):(l ++ [y]).Pairwise (·<·):=by
 rw [List.pairwise_append]
 exact ⟨h,by simp,fun x hx z hz=>by simp at hz; subst hz; exact g x hx⟩
theorem Mg.swap (h:Mg a b k m l):Mg b a m k l:=⟨by have:=h.len; omega,h.rise,fun x=>by rw [h.mem x,or_comm],fun x hx=>⟨(h.lt x hx).2,(h.lt x hx).1⟩⟩
theorem mem_getD {a:List Nat} {x:Nat}:x ∈ a ↔ ∃ i,i<a.length∧x=a.getD i 0:=by
 constructor
 ·intro h
  obtain ⟨i,hi,e⟩:=List.getElem_of_mem h
  exact ⟨i,hi,by rw [List.getD_eq_getElem?_getD,List.getElem?_eq_getElem hi]; exact e.symm⟩
 ·rintro ⟨i,hi,e⟩
  rw [e,List.getD_eq_getElem?_getD,List.getElem?_eq_getElem hi]
  exact List.getElem_mem hi
theorem Mg.done (h:Mg a b a.length b.length l) {H:List Nat} (hr:H.Pairwise (·<·)) (hm:∀ x,x ∈ H ↔ (x ∈ a∨x ∈ b)):l=H:=by
 refine rise_ext h.rise hr fun x=>?_
 rw [h.mem x,hm x,mem_getD,mem_getD]
end Go.Proofs.Ytjmkkkfloalliab.Q
namespace Go.Proofs.Ytjmkkkfloalliab.Q
set_option linter.unusedVariables false
variable {t:List UInt8}
theorem pre_seg {u:List UInt8} {p:Nat} (hp:p≤t.length):M.pre u (t.drop p)=true ↔ p + u.length≤t.length∧u=seg t p (p + u.length):=by
 rw [M.pre_iff]
 constructor
 ·rintro ⟨y,e⟩
  have hl:=congrArg List.length e
  rw [List.length_drop,List.length_append] at hl
  refine ⟨by omega,?_⟩
  unfold seg
  rw [show p + u.length - p=u.length by omega,e,List.take_left]
 ·rintro ⟨h1,h2⟩
  refine ⟨(t.drop p).drop u.length,?_⟩
  have:=List.take_append_drop u.length (t.drop p)
  have h3:(t.drop p).take u.length=u:=by
   conv=>rhs; rw [h2]
   unfold seg
   rw [show p + u.length - p=u.length by omega]
  rw [h3] at this
  exact this.symm
theorem mem_ends {P:Pat} {A:Lang} (h:∀ u,acc P u=true ↔ (u ≠ []∧A u)) (p:Nat):p ∈ hits t P ↔ (p<t.length∧∃ j,p<j∧EndsAt t A p j):=by
 rw [mem_at h]
 constructor
 ·rintro ⟨h1,u,h2,h3,h4⟩
  obtain ⟨a1,a2⟩:=(pre_seg h1).1 h2
  have hl:0<u.length:=List.length_pos_iff.2 h3
  exact ⟨by omega,p + u.length,by omega,by omega,a1,by rw [← a2]; exact h4⟩
 ·rintro ⟨h1,j,h2,h3,h4,h5⟩
  have hl:=seg_len h3 h4
  refine ⟨by omega,seg t p j,(pre_seg (by omega)).2 ⟨by omega,?_⟩,?_,h5⟩
  ·rw [hl,show p + (j - p)=j by omega]
  ·intro e
   rw [e] at hl
   simp at hl
   omega
theorem live_iff {P:Pat} {A:Lang} (h:∀ u,u ≠ []→(pl P u ≠ 0 ↔ ∃ v,A (v ++ u))) (u:List UInt8):Live t P u ↔ (u=[]∨(u ≠ []∧∃ i j,i<j∧u=seg t i j∧TailAt t A i j)):=by
 by_cases hu:u=[]
 ·subst hu
  constructor
  ·intro _; exact .inl rfl
  ·intro _
   refine ⟨by rw [M.num_nil]; omega,?_⟩
   show (1:Nat) ≠ 0
   decide
 ·have hl:0<u.length:=List.length_pos_iff.2 hu
  constructor
  ·rintro ⟨h1,h2⟩
   obtain ⟨p,hp,g⟩:=M.pos_num h1
   obtain ⟨a1,a2⟩:=(pre_seg hp).1 g
   refine .inr ⟨hu,p,p + u.length,by omega,a2,by omega,a1,?_⟩
   rw [← a2]
   exact (h u hu).1 h2
  ·rintro (e | ⟨_,i,j,h1,h2,h3,h4,h5⟩)
   ·exact absurd e hu
   ·have hsl:=seg_len h3 h4
    refine ⟨M.num_pos (p:=i) (by omega) ((pre_seg (by omega)).2 ⟨by rw [h2,hsl]; omega,?_⟩),(h u hu).2 (by rw [h2]; exact h5)⟩
    have e:i + u.length=j:=by rw [h2,hsl]; omega
    rw [e]; exact h2
theorem steps_doc {P:Pat} {A:Lang} (h:∀ u,u ≠ []→(pl P u ≠ 0 ↔ ∃ v,A (v ++ u))) (W:List (List UInt8)) (hn:W.Nodup) (hW:∀ u,u ∈ W ↔ ∃ i j,i<j∧u=seg t i j∧TailAt t A i j):steps t P false=1 + W.length∧∀ memo,steps t P memo≤1 + W.length:=by
 have hne:∀ u,u ∈ W→u ≠ []:=by
  intro u hu e
  obtain ⟨i,j,h1,h2,h3,h4,_⟩:=(hW u).1 hu
  have:=seg_len h3 h4
  rw [← h2,e] at this
  simp at this
  omega
 have hn2:([] :: W).Nodup:=List.nodup_cons.2 ⟨fun g=>hne [] g rfl,hn⟩
 have hW2:∀ u,u ∈ ([] :: W) ↔ Live t P u:=by
  intro u
  rw [live_iff h,List.mem_cons,hW u]
  constructor
  ·rintro (e | g)
   ·exact .inl e
   ·exact .inr ⟨hne u ((hW u).2 g),g⟩
  ·rintro (e | ⟨_,g⟩)
   ·exact .inl e
   ·exact .inr g
 refine ⟨?_,fun memo=>?_⟩
 ·rw [steps_false ([] :: W) hn2 hW2]
  simp; omega
 ·have:=steps_memo ([] :: W) hn2 hW2 memo
  simp at this
  omega
end Go.Proofs.Ytjmkkkfloalliab.Q
namespace Go.Proofs.Ytjmkkkfloalliab
set_option linter.unusedVariables false
open Go.RowKit
structure FHit (E:Nat→Nat→Prop) (k:Nat) (l:List Nat):Prop where
 up:l.Pairwise (·<·)
 mem:∀ p,p ∈ l ↔ (p<k∧∃ j,p<j∧E p j)
theorem FHit.zero (E:Nat→Nat→Prop):FHit E 0 []:=⟨List.Pairwise.nil,fun p=>by simp⟩
theorem FHit.yes {E:Nat→Nat→Prop} {k:Nat} {l:List Nat} (h:FHit E k l) (hk:∃ j,k<j∧E k j):FHit E (k + 1) (l ++ [k]):=by
 refine ⟨Q.pairwise_snoc h.up (fun x hx=>((h.mem x).1 hx).1),fun p=>?_⟩
 rw [List.mem_append,List.mem_singleton,h.mem p]
 constructor
 ·rintro (⟨a,b⟩ | rfl)
  ·exact ⟨by omega,b⟩
  ·exact ⟨by omega,hk⟩
 ·rintro ⟨a,b⟩
  rcases Nat.lt_or_ge p k with g | g
  ·exact .inl ⟨g,b⟩
  ·exact .inr (by omega)
theorem FHit.no {E:Nat→Nat→Prop} {k:Nat} {l:List Nat} (h:FHit E k l) (hk:¬ ∃ j,k<j∧E k j):FHit E (k + 1) l:=by
 refine ⟨h.up,fun p=>?_⟩
 rw [h.mem p]
 constructor
 ·rintro ⟨a,b⟩
  exact ⟨by omega,b⟩
 ·rintro ⟨a,b⟩
  rcases Nat.lt_or_ge p k with g | g
  ·exact ⟨g,b⟩
  ·have:p=k:=by omega
   subst this
   exact absurd b hk
theorem FHit.len {E:Nat→Nat→Prop} {k:Nat} {l:List Nat} (h:FHit E k l):l.length≤k:=by
 have h1:∀ x,x ∈ l→x<k:=fun x hx=>((h.mem x).1 hx).1
 have h2:=h.up
 clear h
 induction k generalizing l with
 | zero =>
  cases l with
  | nil=>simp
  | cons a l=>have:=h1 a (by simp); omega
 | succ k ih =>
  rcases List.eq_nil_or_concat l with rfl | ⟨m,b,rfl⟩
  ·simp
  ·rw [List.concat_eq_append] at h1 h2 ⊢
   rw [List.pairwise_append] at h2
   have:=ih (l:=m) (fun x hx=>by
    have a1:=h2.2.2 x hx b (by simp)
    have a2:=h1 b (by simp)
    omega) h2.1
   simp; omega
structure FEnd (t:ByteArray) (T:Nat→Nat→Prop) (k J:Nat) (l:List ByteArray):Prop where
 up:l.Pairwise bl
 mem:∀ u,u ∈ l ↔ ∃ i j,i<j∧j≤t.size∧(i<k∨(i=k∧j<J))∧T i j∧u=t.extract i j
theorem FEnd.zero (t:ByteArray) (T:Nat→Nat→Prop):FEnd t T 0 0 []:=by
 refine ⟨List.Pairwise.nil,fun u=>?_⟩
 constructor
 ·intro h; cases h
 ·rintro ⟨i,j,_,_,h,_⟩; omega
theorem FEnd.start {t:ByteArray} {T:Nat→Nat→Prop} {k:Nat} {l:List ByteArray} (h:FEnd t T k 0 l):FEnd t T k (k + 1) l:=by
 refine ⟨h.up,fun u=>?_⟩
 rw [h.mem u]
 constructor
 ·rintro ⟨i,j,a,b,c,d⟩
  exact ⟨i,j,a,b,by omega,d⟩
 ·rintro ⟨i,j,a,b,c,d⟩
  exact ⟨i,j,a,b,by omega,d⟩
theorem FEnd.next {t:ByteArray} {T:Nat→Nat→Prop} {k:Nat} {l:List ByteArray} (h:FEnd t T k (t.size + 1) l):FEnd t T (k + 1) 0 l:=by
 refine ⟨h.up,fun u=>?_⟩
 rw [h.mem u]
 constructor
 ·rintro ⟨i,j,a,b,c,d⟩
  exact ⟨i,j,a,b,by omega,d⟩
 ·rintro ⟨i,j,a,b,c,d⟩
  exact ⟨i,j,a,b,by omega,d⟩
theorem FEnd.skip {t:ByteArray} {T:Nat→Nat→Prop} {k J:Nat} {l:List ByteArray} (h:FEnd t T k J l) (hT:¬ T k J):FEnd t T k (J + 1) l:=by
 refine ⟨h.up,fun u=>?_⟩
 rw [h.mem u]
 constructor
 ·rintro ⟨i,j,a,b,c,d⟩
  exact ⟨i,j,a,b,by omega,d⟩
 ·rintro ⟨i,j,a,b,c,d,e⟩
  refine ⟨i,j,a,b,?_,d,e⟩
  rcases c with c | ⟨c1,c2⟩
  ·exact .inl c
  ·rcases Nat.lt_or_ge j J with g | g
   ·exact .inr ⟨c1,g⟩
   ·have:j=J:=by omega
    subst this; subst c1
    exact absurd d hT
theorem FEnd.put {t:ByteArray} {T:Nat→Nat→Prop} {k J:Nat} {l l':List ByteArray} (h:FEnd t T k J l) (hT:T k J) (h1:k<J) (h2:J≤t.size) (up:l'.Pairwise bl) (hm:∀ u,u ∈ l' ↔ (u ∈ l∨u=t.extract k J)):FEnd t T k (J + 1) l':=by
 refine ⟨up,fun u=>?_⟩
 rw [hm u,h.mem u]
 constructor
 ·rintro (⟨i,j,a,b,c,d⟩ | rfl)
  ·exact ⟨i,j,a,b,by omega,d⟩
  ·exact ⟨k,J,h1,h2,.inr ⟨rfl,by omega⟩,hT,rfl⟩
 ·rintro ⟨i,j,a,b,c,d,e⟩
  rcases c with c | ⟨c1,c2⟩
  ·exact .inl ⟨i,j,a,b,.inl c,d,e⟩
  ·rcases Nat.lt_or_ge j J with g | g
   ·exact .inl ⟨i,j,a,b,.inr ⟨c1,g⟩,d,e⟩
   ·have:j=J:=by omega
    subst this; subst c1
    exact .inr e
theorem extract_seg (t:ByteArray) (i j:Nat):(t.extract i j).data.toList=Q.seg t.data.toList i j:=by
 unfold Q.seg
 simp [ByteArray.data_extract,List.take_drop]
theorem find_hits {t:List UInt8} {P:Q.Pat} {d:Q.Den} {l:List Nat} (ha:∀ u,Q.acc P u=true ↔ (u ≠ []∧d.lang u)) (h:FHit (Q.EndsAt t d.lang) t.length l):l=Q.hits t P :=
 Q.rise_ext h.up (Q.hits_rise t P) (fun x=>by rw [h.mem x,Q.mem_ends ha x])
theorem find_steps {t:ByteArray} {P:Q.Pat} {d:Q.Den} {l:List ByteArray} (hq:∀ u,u ≠ []→(Q.pl P u ≠ 0 ↔ ∃ v,d.lang (v ++ u))) (h:FEnd t (Q.TailAt t.data.toList d.lang) t.size 0 l):Q.steps t.data.toList P false=1 + l.length:=by
 have hsz:t.data.toList.length=t.size:=rfl
 have hn:(l.map fun u=>u.data.toList).Nodup:=by
  show List.Pairwise _ _
  rw [List.pairwise_map,List.pairwise_iff_getElem]
  intro i j hi hj hij e
  have hab:=List.pairwise_iff_getElem.1 h.up i j hi hj hij
  have e2:l[i]=l[j]:=bytes_eq e
  rw [e2] at hab
  exact bl_irr _ hab
 have:=(Q.steps_doc hq (l.map fun u=>u.data.toList) hn (fun u=>by
  rw [List.mem_map]
  constructor
  ·rintro ⟨v,hv,rfl⟩
   obtain ⟨i,j,a,b,c,d,rfl⟩:=(h.mem v).1 hv
   exact ⟨i,j,a,extract_seg t i j,d⟩
  ·rintro ⟨i,j,a,rfl,c⟩
   have c2:=c.2.1
   exact ⟨t.extract i j,(h.mem _).2 ⟨i,j,a,by omega,.inl (by omega),c,rfl⟩,extract_seg t i j⟩)).1
 rw [this,List.length_map]
theorem Mem.swap {x:Tb} {V:Nat→Nat→Nat→Prop} {w w':World} {S av av':List Nat} (h:Mem x V w av) (k:Keep S w w') (hS:∀ a,a ∈ S→a ∈ av) (hv:∀ a,a ∈ av'→a ∈ av∨(w.heap.size≤a∧a<w'.heap.size)) (hN:x.s0 + 2 * x.N≤w.heap.size):Mem x V w' av':=by
 have m:=h.keep k hS
 refine ⟨m.mat,m.ends,m.tail,m.lm,m.le,m.lt,fun i hi=>?_,fun a ha=>?_,m.below,m.base⟩
 ·obtain ⟨cs,h1,h2,h3⟩:=h.row i hi
  refine ⟨cs,h1,h2.keep k (fun hm=>by have:=(h.av _ (hS _ hm)).1; omega),fun j hj=>?_⟩
  rcases h3 j hj with e | ⟨b,A,e1,e2,e3,e4,e5⟩
  ·exact .inl e
  ·have hb:=e2.blk.lt
   refine .inr ⟨b,A,e1,e2.keep k (fun hm=>e5 (hS b hm)),e3,e4,fun hm=>?_⟩
   rcases hv b hm with g | g
   ·exact e5 g
   ·omega
 ·rcases hv a ha with g | g
  ·exact m.av a g
  ·exact ⟨by omega,g.2⟩
theorem mem_new {w w':World} {bp N s0 be bt bm:Nat} {vp:List Value} {t:ByteArray} {V:Nat→Nat→Nat→Prop} (h:NewH w' bp w.heap.size N (t.size + 1) s0 be bt bm N N vp t w):Mem ⟨bm,be,bt,s0,N,t,w⟩ V w' []∧s0 + 2 * N≤w'.heap.size:=by
 refine ⟨⟨h.mat,h.ends,h.tail,h.l3,h.l1,h.l2,fun k hk=>?_,fun a ha=>(by cases ha),h.below,by have:=h.l5.1; have:=h.l1; show w.heap.size≤s0; omega⟩,by have:=h.size; omega⟩
 have hk':k<N + N:=by have:k<2 * N:=hk; omega
 refine ⟨_,?_,h.rows k hk',fun j hj=>.inl ?_⟩
 ·simp [zeroRow]
 ·have hj':j<t.size + 1:=hj
  simp [zeroRow,List.getElem?_replicate]
  omega
theorem own_new {w:World} {B n size:Nat} {e:TypeId} {v:Value} {xs:List Value} (h:w.ownsRow B e size v n xs):∀ b,b ∈ v.ownBlock.toList→b<w.heap.size∧B≤b:=fun b hb=>own_lt' h b (by simpa using hb)
theorem own_form {w:World} {B n:Nat} {e:TypeId} {v:Value} {xs:List Value} (h:w.ownsRow B e 1 v n xs):∃ p cap,v=.slice p n cap:=by
 obtain ⟨_,⟨h,h2⟩ | ⟨g,cap,cur,h,_⟩⟩:=h
 ·exact ⟨_,_,by rw [h,h2]⟩
 ·exact ⟨_,_,h⟩
theorem grown_keep {w w2:World} {X:Obj} {row:Option Nat} (h:(w.alloc X).grownBy w2 row):Keep row.toList w w2:=by
 refine ⟨h.os,h.tape,h.output,?_,fun b hb hs=>?_⟩
 ·have:=h.size
  have h3:(w.alloc X).heap.size=w.heap.size + 1:=by simp
  omega
 ·refine (h.block b (by show b<(w.alloc X).heap.size; simp; omega) (fun e=>hs ?_)).trans (Below.heap_alloc w X b hb)
  rw [← e]; simp
theorem keep_row (w:World) (g:Nat) (cs:Array Value):Keep [g] w (w.setRow g cs):=⟨rfl,rfl,rfl,by simp [World.setRow],fun k _ hk=>setRow_other w g k cs (by simpa using hk)⟩
def AddPost (w:World) (B:Nat) (v:Value) (l:List ByteArray) (s:ByteArray) (e:Ending) (w':World):Prop :=
 ∃ v' l',e=.returned v'∧w'.ownsRow B 9 1 v' l'.length (strB l')∧l'.Pairwise bl∧(∀ u,u ∈ l' ↔ (u ∈ l∨u=s))∧l'.length≤l.length + 1∧Keep v.ownBlock.toList w w'∧∀ b,v'.ownBlock=some b→v.ownBlock=some b∨w.heap.size≤b
theorem add_put {w w2 w4:World} {B gg cap k:Nat} {v:Value} {l:List ByteArray} {s:ByteArray} {cur:List Value} (hB:B≤gg) (h2:l.length + 1≤cap) (h3:cap≤maxLen) (h4:cur.length=cap) (h5:cur.take (l.length + 1)=strB l ++ [.string ⟨#[]⟩]) (hk:k≤l.length)
    (hg:w4.heap[gg]?=some (.cells (splice cur (k + 1) (strB (l.drop k))).toArray 9 (0,0))) (hK2:Keep v.ownBlock.toList w w2) (hK4:Keep [gg] w2 w4) (hat:v.ownBlock=some gg∨w.heap.size≤gg) (hup:(insB l s k).Pairwise bl) :
    AddPost w B v l s (.returned (.slice (some ⟨gg,0,none⟩) (l.length + 1) cap)) (w4.setCell ⟨gg,k,none⟩ (.string s)):=by
 have hl:(splice cur (k + 1) (strB (l.drop k))).length=cap:=by rw [length_splice _ _ _ (by rw [strB_len,List.length_drop]; omega)]; exact h4
 refine ⟨_,insB l s k,rfl,?_,hup,fun u=>insB_mem l s k u,by rw [insB_len _ _ _ hk]; exact Nat.le_refl _,?_,?_⟩
 ·rw [insB_len _ _ _ hk]
  refine ⟨by rw [strB_len,insB_len _ _ _ hk]; omega,.inr ⟨gg,cap,((splice cur (k + 1) (strB (l.drop k))).set k (.string s)).toArray,rfl,hB,?_,h2,h3,by simp [hl],?_⟩⟩
  ·have:BlkT w4 gg 9 (splice cur (k + 1) (strB (l.drop k))):=hg
   exact this.set k _
  ·rw [Nat.mul_one]
   exact splice_ins l s k hk cur h5 (by omega)
 ·refine hK2.trans2 (hK4.trans ((Keep.refl _ _).setCell (p:=⟨gg,k,none⟩) (by simp) _)) (fun y hy hy2=>?_)
  rw [List.mem_singleton] at hy
  subst hy
  rcases hat with h | h
  ·rw [h] at hy2; simp at hy2
  ·exact h
 ·intro b hb
  cases hb
  exact hat
theorem add_copy (w2:World) (gg cap lo n:Nat) (cur:List Value) (l:List ByteArray) (hn:n=l.length) (hlo:lo≤n) (h2:n + 1≤cap) (h4:cur.length=cap) (h5:cur.take (n + 1)=strB l ++ [.string ⟨#[]⟩]) (hg:w2.heap[gg]?=some (.cells cur.toArray 9 (0,0))) (hsz:(Try.prog.info? 9).map (·.size)=some 1) :
    ∃ w4,(∀ (sp dp:Option Addr),(0<n - lo→dp=some ⟨gg,lo + 1,none⟩∧sp=some ⟨gg,lo,none⟩)→∀ sc dc:Nat,Sem.run Try.prog (Builtin.copy_ #[49,49] 3 #[.slice dp (n - lo) dc,.slice sp (n + 1 - lo) sc]) w2=.ok (goInt ((n - lo:Nat):Int)) w4)∧w4.heap[gg]?=some (.cells (splice cur (lo + 1) (strB (l.drop lo))).toArray 9 (0,0))∧Keep [gg] w2 w4:=by
 have hlen:(strB (l.drop lo)).length=n - lo:=by rw [strB_len,List.length_drop,hn]
 have hone:∀ v ∈ strB (l.drop lo),v.oneCell'=true:=by
  intro v hv
  obtain ⟨x,_,rfl⟩:=List.mem_map.1 hv
  rfl
 have hpos:∀ j v,(strB (l.drop lo))[j]?=some v→w2.cell? ((⟨gg,lo,none⟩:Addr).add j)=some v:=by
  intro j v hj
  have e1:(⟨gg,lo,none⟩:Addr).add j=⟨gg,lo + j,none⟩:=by simp [Addr.add]
  have hjl:j<(strB (l.drop lo)).length:=by
   rcases Nat.lt_or_ge j (strB (l.drop lo)).length with g | g
   ·exact g
   ·rw [List.getElem?_eq_none g] at hj; cases hj
  rw [hlen] at hjl
  rw [e1]
  simp only [World.cell?,hg]
  have e2:cur[lo + j]?=(cur.take (n + 1))[lo + j]?:=by rw [List.getElem?_take,if_pos (by omega)]
  rw [List.getElem?_toArray,e2,h5,List.getElem?_append_left (by rw [strB_len]; omega),← hj]
  unfold strB
  rw [List.getElem?_map,List.getElem?_map,List.getElem?_drop]
  rfl
 rcases Nat.eq_zero_or_pos (n - lo) with h0 | h0
 ·have e:strB (l.drop lo)=[]:=List.eq_nil_of_length_eq_zero (by rw [hlen]; exact h0)
  refine ⟨w2,fun sp dp _ sc dc=>?_,by rw [e]; simpa [splice] using hg,Keep.refl _ _⟩
  have:=run_copy_none (P:=Try.prog) w2 49 49 3 9 dp sp (n - lo) dc (n + 1 - lo) sc Try.underlying49 hsz (by rw [h0]; simp)
  rw [this,h0]; rfl
 ·refine ⟨w2.setRow gg (cur.toArray.toList.take (lo + 1) ++ strB (l.drop lo) ++ cur.toArray.toList.drop (lo + 1 + (strB (l.drop lo)).length)).toArray,fun sp dp hp sc dc=>?_,?_,keep_row w2 gg _⟩
  ·obtain ⟨rfl,rfl⟩:=hp h0
   have hr:=run_copy_row (P:=Try.prog) w2 49 49 3 9 gg (lo + 1) (n - lo) dc ⟨gg,lo,none⟩ (n + 1 - lo) sc cur.toArray 9 (strB (l.drop lo)) Try.underlying49 hsz hg (by rw [hlen]; show _=min _ _; omega) hpos (by rw [hlen]; simp; omega) hone
   rw [hr,hlen]
  ·have:=setRow_heap w2 gg cur.toArray ((cur.toArray.toList.take (lo + 1) ++ strB (l.drop lo) ++ cur.toArray.toList.drop (lo + 1 + (strB (l.drop lo)).length)).toArray) 9 _ hg
   simpa [splice] using this
set_option maxRecDepth 100000 in
set_option maxHeartbeats 3200000 in
theorem radd1_any (w:World) (B:Nat) (v:Value) (l:List ByteArray) (s:ByteArray) (hown:w.ownsRow B 9 1 v l.length (strB l)) (hp:l.Pairwise bl) (hl:l.length≤100000) (hB:B≤w.heap.size) :
    Calls Try.prog 90 #[v,.string s] w fun e w'=>AddPost w B v l s e w':=by
 obtain ⟨p,cap0,rfl⟩:=own_form hown
 have HOWN:=hid hown
 have HP:=hid hp
 obtain ⟨n,hn⟩:∃ n,n=l.length:=⟨_,rfl⟩
 have HC0:Hid (Cut l s 0 n):=⟨by omega,by omega,fun j hj=>by omega,fun j h1 h2=>by omega⟩
 have HN:=hid hn
 rw [← hn] at HOWN hl ⊢
 clear hown hp hn
 go_enter Try.func90,Try.ntmps90
 go_wp2_with fail
 go_loopw [5,6] (fun a b wX=>∃ lo hi:Nat,a=.int .i64 (lo:Int)∧b=.int .i64 (hi:Int)∧Hid (Cut l s lo hi)∧lo≤hi∧hi≤n∧wX=w) (fun a b _=>(intOf b).toNat - (intOf a).toNat)
 case atStart=>exact ⟨0,n,rfl,rfl,HC0,by omega,by omega,rfl⟩
 case round =>
  clear HC0
  obtain ⟨lo,hi,rfl,rfl,HC,hlh,hhn,rfl⟩:=hrel
  by_cases hlt:lo<hi
  ·have hrow:∃ g,p=some ⟨g,0,none⟩∧RowAt wr g cap0 9 1 n (strB l):=by
      obtain ⟨g,cap,e,hb,hr⟩:=own_open HOWN.out (by intro e; cases e; omega)
      cases e
      exact ⟨g,rfl,hr⟩
   obtain ⟨g,rfl,hr⟩:=hrow
   obtain ⟨m,hm⟩:∃ m,m=(lo + hi) / 2:=⟨_,rfl⟩
   have hm1:lo≤m:=by omega
   have hm2:m<hi:=by omega
   have hmI:((lo:Int) + (hi:Int)) / 2=(m:Int):=by omega
   have hmT:Int.tdiv ((lo:Int) + (hi:Int)) 2=(m:Int):=by rw [Int.tdiv_eq_ediv_of_nonneg (by omega)]; exact hmI
   have c1:wr.cell? ⟨g,m,none⟩=some (.string (l.getD m ⟨#[]⟩)):=by
    rw [hr.cell? m (by rw [strB_len]; have:=HN.out; omega)]
    have:m<l.length:=by have:=HN.out; omega
    simp [strB,List.getElem?_eq_getElem this]
   have HL:Hid (Op.bytesLess (l.getD m ⟨#[]⟩).toList s.toList=M.blt (l.getD m ⟨#[]⟩).data.toList s.data.toList):=by
    show _=_
    rw [ByteArray.toList_eq,ByteArray.toList_eq,bytesLess_eq]
   have HT:Hid (M.blt (l.getD m ⟨#[]⟩).data.toList s.data.toList=true→Cut l s (m + 1) hi):=fun h=>HC.out.right HP.out hm1 hm2 h
   have HF:Hid (M.blt (l.getD m ⟨#[]⟩).data.toList s.data.toList=false→Cut l s lo m):=fun h=>HC.out.left HP.out hm1 hm2 (by unfold bl; rw [h]; decide)
   have i0:(0:Int)≤(m:Int):=by omega
   have i1:(m:Int)<(n:Int):=by omega
   have q1:(lo:Int)<(hi:Int):=by omega
   clear hm hr HC
   generalize l.getD m ⟨#[]⟩=a at *
   cases hb:M.blt a.data.toList s.data.toList with
   | true =>
    have hbl:Op.bytesLess a.toList s.toList=true:=HL.out.trans hb
    have HC1:Hid (Cut l s (m + 1) hi):=HT.out hb
    clear hb HL HT HF
    go_wp2
    go_roundw
    case rel=>exact ⟨m + 1,hi,by go_num,rfl,HC1,by omega,by omega,by trivial⟩
    case measure=>simp [intOf]; omega
   | false =>
    have hbl:Op.bytesLess a.toList s.toList=false:=HL.out.trans hb
    have HC1:Hid (Cut l s lo m):=HF.out hb
    clear hb HL HT HF
    go_wp2
    go_roundw
    case rel=>exact ⟨lo,m,rfl,rfl,HC1,by omega,by omega,by trivial⟩
    case measure=>simp [intOf]; omega
  ·obtain rfl:lo=hi:=by omega
   clear hlt
   have hkl:lo≤l.length:=by have:=HN.out; omega
   have q1:¬ (lo:Int)<(lo:Int):=by omega
   by_cases hk:lo<n∧l.getD lo ⟨#[]⟩=s
   ·obtain ⟨hk,he⟩:=hk
    have hrow:∃ g,p=some ⟨g,0,none⟩∧RowAt wr g cap0 9 1 n (strB l):=by
     obtain ⟨g,cap,e,hb,hr⟩:=own_open HOWN.out (by intro e; cases e; omega)
     cases e
     exact ⟨g,rfl,hr⟩
    obtain ⟨g,rfl,hr⟩:=hrow
    have c1:wr.cell? ⟨g,lo,none⟩=some (.string s):=by
     rw [hr.cell? lo (by rw [strB_len]; have:=HN.out; omega)]
     have hh:lo<l.length:=by have:=HN.out; omega
     rw [← he]
     simp [strB,List.getElem?_eq_getElem hh]
    have i0:(0:Int)≤(lo:Int):=by omega
    have i1:(lo:Int)<(n:Int):=by omega
    have HM:Hid (∀ u,u ∈ l ↔ (u ∈ l∨u=s)):=fun u=>⟨.inl,by
     rintro (h | h)
     ·exact h
     ·rw [h,← he]
      have hh:lo<l.length:=by have:=HN.out; omega
      rw [List.getD_eq_getElem?_getD,List.getElem?_eq_getElem hh]
      exact List.getElem_mem hh⟩
    clear he hr HC
    go_wp2
    go_ret
    refine ⟨_,l,rfl,?_,HP.out,HM.out,by omega,Keep.refl _ _,fun b hb=>.inl hb⟩
    rw [← HN.out]
    exact HOWN.out
   ·have HUP:Hid ((insB l s lo).Pairwise bl):=insB_up HP.out HC.out (fun h1 h2=>hk ⟨by have:=HN.out; omega,h2⟩)
    have HT:Hid (lo<n∨lo=n):=by show _∨_; omega
    obtain ⟨j0,hj0,hy0,hy1,hy2⟩:=info_parts Try.infoStr
    have HML:Hid (n + 1≤maxLen):=by show _≤_; unfold maxLen; omega
    have HONE:Hid (∀ v ∈ [Value.string ⟨#[]⟩],v.oneCell'=true):=by
     intro v hv
     rw [List.mem_singleton] at hv
     subst hv; rfl
    have i5:(0:Int)≤(lo:Int):=by omega
    rcases Nat.lt_or_ge lo n with hk1 | hk1
    ·have hrow:∃ g,p=some ⟨g,0,none⟩∧RowAt wr g cap0 9 1 n (strB l):=by
        obtain ⟨g,cap,e,hb,hr⟩:=own_open HOWN.out (by intro e; cases e; omega)
        cases e
        exact ⟨g,rfl,hr⟩
     obtain ⟨g,rfl,hr⟩:=hrow
     have c1:wr.cell? ⟨g,lo,none⟩=some (.string (l.getD lo ⟨#[]⟩)):=by
      rw [hr.cell? lo (by rw [strB_len]; have:=HN.out; omega)]
      have hh:lo<l.length:=by have:=HN.out; omega
      simp [strB,List.getElem?_eq_getElem hh]
     have hne:l.getD lo ⟨#[]⟩ ≠ s:=fun e=>hk ⟨hk1,e⟩
     have i1:(lo:Int)<(n:Int):=by omega
     have hq1:((l.getD lo ⟨#[]⟩).toList == s.toList)=false:=by
      rw [ByteArray.toList_eq,ByteArray.toList_eq,beq_eq_false_iff_ne]
      exact fun e=>hne (bytes_eq e)
     generalize l.getD lo ⟨#[]⟩=a at *
     clear hr HC hk
     go_upto_region 10 with fail
     clear c1 hq1 hne hk1 i1
     go_upto_region 11 with ((at_builtin; refine wpList_append_lies _ rfl _ _ 49 rfl B 9 j0 _ 1 16 Try.underlying49 hj0 hy0 hy1 hy2 rfl (by omega) (.slice (some ⟨g,0,none⟩) n cap0) n (strB l) rfl (HOWN.out.alloc _) ⟨wr.heap.size,0,none⟩ 1 1 [.string ⟨#[]⟩] rfl rfl (World.news_of_block (cs:=#[.string ⟨#[]⟩]) (t:=9) (fr:=(0,0)) (heap_alloc_new wr _)) HONE.out (by omega) HML.out (by omega) (by simp; omega) (wr.heap.size + 1) (by simp) ?_; intro gg cap w2 hown1 hgrow hat hlt2))
     have HK2:Hid (Keep (Value.slice (some ⟨g,0,none⟩) n cap0).ownBlock.toList wr w2):=grown_keep hgrow
     obtain ⟨g2,cap2,e2,hbg,hrow2⟩:=own_open hown1 (by intro e; cases e)
     cases e2
     obtain ⟨cur,hg2,h2,h3,h4,h5,_⟩:=hrow2
     rw [Nat.mul_one] at h4 h5
     have HAT:Hid ((Value.slice (some ⟨g,0,none⟩) n cap0).ownBlock=some gg∨gg=wr.heap.size + 1):=hat
     have hsz:(Try.prog.info? 9).map (·.size)=some 1:=by rw [hj0]; simp [hy1]
     obtain ⟨w4,cp0,HG4,HK40⟩:=add_copy w2.drew gg cap lo n cur.toList l HN.out (by omega) h2 (by simpa using h4) h5 (by rw [Array.toArray_toList]; exact hg2) hsz
     have cp:=cp0 (some ⟨gg,lo,none⟩) (if cap=lo + 1 then some ⟨gg,0,none⟩ else some ⟨gg,lo + 1,none⟩) (fun h0=>⟨if_neg (by omega),rfl⟩) (cap - lo) (cap - (lo + 1))
     have HK4:Keep [gg] w2 w4:=((Keep.refl _ w2).drew).trans HK40
     clear cp0 HK40
     have HDONE:Hid (AddPost wr B (.slice (some ⟨g,0,none⟩) n cap0) l s (.returned (.slice (some ⟨gg,0,none⟩) (n + 1) cap)) (w4.setCell ⟨gg,lo,none⟩ (.string s))):=by
      have:=add_put (w:=wr) (v:=Value.slice (some ⟨g,0,none⟩) n cap0) (B:=B) (s:=s) hbg (by have:=HN.out; omega) h3 (by simpa using h4) (by rw [← HN.out]; exact h5) hkl HG4 HK2.out HK4 (by rcases HAT.out with h | h; exact .inl h; exact .inr (by omega)) HUP.out
      rw [← HN.out] at this
      exact this
     have f4:w4.frozen? ⟨gg,lo,none⟩=false:=by simp [World.frozen?,HG4]
     have c4:∃ v,w4.cell? ⟨gg,lo,none⟩=some v:=by
      have hl:(splice cur.toList (lo + 1) (strB (l.drop lo))).length=cap:=by rw [length_splice _ _ _ (by rw [strB_len,List.length_drop]; have:=HN.out; simp; omega)]; simpa using h4
      have e:w4.cell? ⟨gg,lo,none⟩=(splice cur.toList (lo + 1) (strB (l.drop lo)))[lo]?:=by simp [World.cell?,HG4]
      exact ⟨_,e.trans (List.getElem?_eq_getElem (by rw [hl]; omega))⟩
     obtain ⟨v4,c4⟩:=c4
     have i3:(lo:Int) + 1≤(n:Int) + 1:=by omega
     have i4:(lo:Int)≤(n:Int) + 1:=by omega
     have i6:(lo:Int)<(n:Int) + 1:=by omega
     have i7:(0:Int)≤(lo:Int) + 1:=by omega
     clear hown1 hgrow hat hg2 h5 h4 HG4 HK4 HK2 HOWN
     by_cases hcap:cap=lo + 1
     ·subst hcap
      rw [if_pos rfl,show n - lo=0 by omega,show lo + 1 - (lo + 1)=0 by omega,show lo + 1 - lo=1 by omega] at cp
      go_region
      go_wp2
      go_ret
      exact HDONE.out
     ·rw [if_neg hcap] at cp
      go_region
      go_wp2
      go_ret
      exact HDONE.out
    ·have hq0:decide ((lo:Int)<(n:Int))=false:=decide_eq_false (by omega)
     have hq1:¬ (lo:Int)<(n:Int):=by omega
     clear HC hk
     go_upto_region 10 with fail
     clear hq0 hq1 hk1
     go_upto_region 11 with ((at_builtin; refine wpList_append_lies _ rfl _ _ 49 rfl B 9 j0 _ 1 16 Try.underlying49 hj0 hy0 hy1 hy2 rfl (by omega) (.slice p n cap0) n (strB l) rfl (HOWN.out.alloc _) ⟨wr.heap.size,0,none⟩ 1 1 [.string ⟨#[]⟩] rfl rfl (World.news_of_block (cs:=#[.string ⟨#[]⟩]) (t:=9) (fr:=(0,0)) (heap_alloc_new wr _)) HONE.out (by omega) HML.out (by omega) (by simp; omega) (wr.heap.size + 1) (by simp) ?_; intro gg cap w2 hown1 hgrow hat hlt2))
     have HK2:Hid (Keep (Value.slice p n cap0).ownBlock.toList wr w2):=grown_keep hgrow
     obtain ⟨g2,cap2,e2,hbg,hrow2⟩:=own_open hown1 (by intro e; cases e)
     cases e2
     obtain ⟨cur,hg2,h2,h3,h4,h5,_⟩:=hrow2
     rw [Nat.mul_one] at h4 h5
     have HAT:Hid ((Value.slice p n cap0).ownBlock=some gg∨gg=wr.heap.size + 1):=hat
     have hsz:(Try.prog.info? 9).map (·.size)=some 1:=by rw [hj0]; simp [hy1]
     obtain ⟨w4,cp0,HG4,HK40⟩:=add_copy w2.drew gg cap lo n cur.toList l HN.out (by omega) h2 (by simpa using h4) h5 (by rw [Array.toArray_toList]; exact hg2) hsz
     have cp:=cp0 (some ⟨gg,lo,none⟩) (if cap=lo + 1 then some ⟨gg,0,none⟩ else some ⟨gg,lo + 1,none⟩) (fun h0=>⟨if_neg (by omega),rfl⟩) (cap - lo) (cap - (lo + 1))
     have HK4:Keep [gg] w2 w4:=((Keep.refl _ w2).drew).trans HK40
     clear cp0 HK40
     have HDONE:Hid (AddPost wr B (.slice p n cap0) l s (.returned (.slice (some ⟨gg,0,none⟩) (n + 1) cap)) (w4.setCell ⟨gg,lo,none⟩ (.string s))):=by
      have:=add_put (w:=wr) (v:=Value.slice p n cap0) (B:=B) (s:=s) hbg (by have:=HN.out; omega) h3 (by simpa using h4) (by rw [← HN.out]; exact h5) hkl HG4 HK2.out HK4 (by rcases HAT.out with h | h; exact .inl h; exact .inr (by omega)) HUP.out
      rw [← HN.out] at this
      exact this
     have f4:w4.frozen? ⟨gg,lo,none⟩=false:=by simp [World.frozen?,HG4]
     have c4:∃ v,w4.cell? ⟨gg,lo,none⟩=some v:=by
      have hl:(splice cur.toList (lo + 1) (strB (l.drop lo))).length=cap:=by rw [length_splice _ _ _ (by rw [strB_len,List.length_drop]; have:=HN.out; simp; omega)]; simpa using h4
      have e:w4.cell? ⟨gg,lo,none⟩=(splice cur.toList (lo + 1) (strB (l.drop lo)))[lo]?:=by simp [World.cell?,HG4]
      exact ⟨_,e.trans (List.getElem?_eq_getElem (by rw [hl]; omega))⟩
     obtain ⟨v4,c4⟩:=c4
     have i3:(lo:Int) + 1≤(n:Int) + 1:=by omega
     have i4:(lo:Int)≤(n:Int) + 1:=by omega
     have i6:(lo:Int)<(n:Int) + 1:=by omega
     have i7:(0:Int)≤(lo:Int) + 1:=by omega
     clear hown1 hgrow hat hg2 h5 h4 HG4 HK4 HK2 HOWN
     by_cases hcap:cap=lo + 1
     ·subst hcap
      rw [if_pos rfl,show n - lo=0 by omega,show lo + 1 - (lo + 1)=0 by omega,show lo + 1 - lo=1 by omega] at cp
      go_region
      go_wp2
      go_ret
      exact HDONE.out
     ·rw [if_neg hcap] at cp
      go_region
      go_wp2
      go_ret
      exact HDONE.out
def CompileQ (PR:World→Nat→List UInt8→Prop):Prop:=∀ (w:World) (pat:ByteArray),pat.size≤maxLen →
 Calls Try.prog 71 #[.string pat] w fun e w'=>(match Q.parse (L pat) with
  | .error (E,At)=>e=.returned (.tuple #[.pointer none,.agg #[.int .i64 (E:Int),.int .i64 (At:Int)]])
  | .ok P=>∃ bp,e=.returned (.tuple #[.pointer (some ⟨bp,0,none⟩),.agg #[.int .i64 0,.int .i64 0]])∧∀ w'',Below w'.heap.size w' w''→PR w'' bp (L pat))∧Below w.heap.size w w'
def FindQ (PR:World→Nat→List UInt8→Prop):Prop:=∀ (w:World) (bp:Nat) (t:ByteArray) (pat:List UInt8) (P:Q.Pat),t.size≤200→Q.parse pat=.ok P→PR w bp pat →
 Calls Try.prog 72 #[.pointer (some ⟨bp,0,none⟩),.string t] w fun e w'=>(∃ pp cap,e=.returned (.tuple #[.slice pp (Q.hits t.data.toList P).length cap,.int .i64 (Q.steps t.data.toList P false:Nat)])∧(∀ ad,pp=some ad→w.heap.size≤ad.block)∧SlI w' (.slice pp (Q.hits t.data.toList P).length cap) (Q.hits t.data.toList P))∧Below w.heap.size w w'
theorem SlI.setP {w:World} {pp:Option Addr} {n m:Nat} {l:List Nat} (h:SlI w (.slice pp n m) l) {p:Addr} (hne:∀ ad,pp=some ad→ad.block ≠ p.block) (x:Value):SlI (w.setCell p x) (.slice pp n m) l:=by
 rcases h with h | ⟨h,b,cap,e,hb,hc⟩
 ·exact .inl h
 ·have h1:=hne ⟨b,0,none⟩ (by cases e; rfl)
  have h1:b ≠ p.block:=h1
  refine .inr ⟨h,b,cap,e,by simpa [World.setCell] using hb,fun i hi=>?_⟩
  rw [World.cell?_setCell_other (h:=fun e=>h1 (congrArg Addr.block e).symm)]
  exact hc i hi
set_option maxRecDepth 100000 in
set_option maxHeartbeats 1600000 in
theorem wants_any {PR:World→Nat→List UInt8→Prop} (hC:CompileQ PR) (hF:FindQ PR):WantsD:=by
 intro w bx rate t pat budget hts hp b0 b1
 have HC:=hid hC
 have HFd:=hid hF
 clear hC hF
 have hP0:BlkT ((w.alloc (.cells #[.pointer (some ⟨bx,0,none⟩),.string t,.int .i64 (rate:Int)] 78)).alloc (.cells #[.int .i64 0,.int .i64 0] 45)) w.heap.size 78 [.pointer (some ⟨bx,0,none⟩),.string t,.int .i64 (rate:Int)]:=(BlkT.new w _ _).alloc _
 have hR0:BlkT ((w.alloc (.cells #[.pointer (some ⟨bx,0,none⟩),.string t,.int .i64 (rate:Int)] 78)).alloc (.cells #[.int .i64 0,.int .i64 0] 45)) (w.heap.size + 1) 45 [.int .i64 0,.int .i64 0]:=by
  have:=BlkT.new (w.alloc (.cells #[.pointer (some ⟨bx,0,none⟩),.string t,.int .i64 (rate:Int)] 78)) #[.int .i64 0,.int .i64 0] 45
  simpa using this
 have hB0:Below w.heap.size w ((w.alloc (.cells #[.pointer (some ⟨bx,0,none⟩),.string t,.int .i64 (rate:Int)] 78)).alloc (.cells #[.int .i64 0,.int .i64 0] 45)):=((Below.refl _ w).alloc (Nat.le_refl _) _).alloc (by simp) _
 unfold pairV
 by_cases hb:budget<0∨1048576<budget
 ·have HPO:Hid (∀ e w',e=.returned (.tuple #[.slice none 0 0,.agg #[.int .i64 2,.int .i64 0],.int .i64 0])→WantsPost t.data.toList (L pat) budget w.heap.size e w'):=by
     intro e w' h
     unfold WantsPost
     rw [if_pos hb]
     exact h
  go_enter Try.func57,Try.ntmps57
  go_upto_region 1 with fail
  have hbr:w.heap.size≤w.heap.size + 1:=by omega
  generalize w.heap.size + 1=br at *
  generalize (w.alloc (.cells #[.pointer (some ⟨bx,0,none⟩),.string t,.int .i64 (rate:Int)] 78)).alloc (.cells #[.int .i64 0,.int .i64 0] 45)=w1 at *
  have f0:=hR0.cell 0; have f1:=hR0.cell 1; have ff:=hR0.frozen
  simp only [List.getElem?_cons_zero,List.getElem?_cons_succ] at f0 f1
  by_cases q0:budget<0
  ·have q1:decide (budget<0)=true:=decide_eq_true q0
   go_wp2
   exact bodyPost_ret (v:=.tuple #[.slice none 0 0,.agg #[.int .i64 2,.int .i64 0],.int .i64 0]) (by simp [results,Try.results57,go_sem, *]) rfl ⟨HPO.out _ _ rfl,(hB0.setCell hbr _).setCell hbr _⟩
  ·have q1:decide (budget<0)=false:=decide_eq_false q0
   have q2:decide (budget > 1048576)=true:=decide_eq_true (by omega)
   have q3:decide (1048576<budget)=true:=decide_eq_true (by omega)
   go_wp2
   exact bodyPost_ret (v:=.tuple #[.slice none 0 0,.agg #[.int .i64 2,.int .i64 0],.int .i64 0]) (by simp [results,Try.results57,go_sem, *]) rfl ⟨HPO.out _ _ rfl,(hB0.setCell hbr _).setCell hbr _⟩
 ·have q1:decide (budget<0)=false:=decide_eq_false (by omega)
  have q2:decide (budget > 1048576)=false:=decide_eq_false (by omega)
  have q3:decide (1048576<budget)=false:=decide_eq_false (by omega)
  cases hP:Q.parse (L pat) with
  | error x =>
   obtain ⟨E,At⟩:=x
   have HPO:Hid (∀ e w',e=.returned (.tuple #[.slice none 0 0,.agg #[.int .i64 (E:Int),.int .i64 (At:Int)],.int .i64 0])→WantsPost t.data.toList (L pat) budget w.heap.size e w'):=by
    intro e w' h
    unfold WantsPost
    rw [if_neg hb,hP]
    exact h
   have HCE:Hid (∀ w',Calls Try.prog 71 #[.string pat] w' fun e w''=>e=.returned (.tuple #[.pointer none,.agg #[.int .i64 (E:Int),.int .i64 (At:Int)]])∧Below w'.heap.size w' w''):=by
    intro w'
    refine (HC.out w' pat hp).mono ?_
    rintro e w'' ⟨h1,h2⟩
    rw [hP] at h1
    exact ⟨h1,h2⟩
   have hE:=Q.parse_err hP
   have hE2:(((E:Nat):Int) != 0)=true:=by simp; omega
   clear hP HC HFd
   go_enter Try.func57,Try.ntmps57
   go_upto_region 1 with fail
   have hbr:w.heap.size≤w.heap.size + 1:=by omega
   have hlt:=BlkT.lt hR0
   generalize w.heap.size + 1=br at *
   generalize (w.alloc (.cells #[.pointer (some ⟨bx,0,none⟩),.string t,.int .i64 (rate:Int)] 78)).alloc (.cells #[.int .i64 0,.int .i64 0] 45)=w1 at *
   have HC1:=hid (HCE.out w1)
   go_upto_region 4 with (go_at_call 71; refine HC1.out.mono ?_; rintro e w2 ⟨rfl,hB2⟩)
   have hR2:BlkT w2 br 45 [.int .i64 0,.int .i64 0]:=(hB2.block br hlt).trans hR0
   have hBB2:=hB0.trans (hB2.mono hB0.size)
   have hR3:=hR2.alloc (.cells #[.int .i64 (E:Int),.int .i64 (At:Int)] 45)
   have hG3:BlkT (w2.alloc (.cells #[.int .i64 (E:Int),.int .i64 (At:Int)] 45)) w2.heap.size 45 [.int .i64 (E:Int),.int .i64 (At:Int)]:=BlkT.new w2 _ _
   have hBB3:=hBB2.alloc hBB2.size (.cells #[.int .i64 (E:Int),.int .i64 (At:Int)] 45)
   have n1:br ≠ w2.heap.size:=by have:=BlkT.lt hR2; omega
   have n2:w2.heap.size ≠ br:=fun e=>n1 e.symm
   generalize w2.heap.size=bf at *
   generalize w2.alloc (.cells #[.int .i64 (E:Int),.int .i64 (At:Int)] 45)=w3 at *
   clear hR0 hR2 hB2 hBB2 hB0 hP0 HCE HC1
   have f0:=hR3.cell 0; have f1:=hR3.cell 1; have ff:=hR3.frozen
   have e0:=hG3.cell 0; have e1:=hG3.cell 1
   simp only [List.getElem?_cons_zero,List.getElem?_cons_succ] at f0 f1 e0 e1
   go_wp2_with fail
   go_region
   all_goals
    go_wp2
    exact bodyPost_ret (v:=.tuple #[.slice none 0 0,.agg #[.int .i64 (E:Int),.int .i64 (At:Int)],.int .i64 0]) (by simp [results,Try.results57,go_sem, *]) rfl ⟨HPO.out _ _ rfl,((hBB3.setCell hbr _).setCell hbr _).drew⟩
  | ok P =>
   have HPO:Hid (∀ e w' pp cap,e=.returned (.tuple #[.slice pp (Q.hits t.data.toList P).length cap,.agg #[.int .i64 0,.int .i64 0],.int .i64 (Q.steps t.data.toList P false:Nat)])→SlI w' (.slice pp (Q.hits t.data.toList P).length cap) (Q.hits t.data.toList P)→WantsPost t.data.toList (L pat) budget w.heap.size e w'):=by
    intro e w' pp cap h h2
    unfold WantsPost
    rw [if_neg hb,hP]
    exact ⟨pp,cap,h,h2⟩
   have HCE:Hid (∀ w',Calls Try.prog 71 #[.string pat] w' fun e w''=>(∃ bp,e=.returned (.tuple #[.pointer (some ⟨bp,0,none⟩),.agg #[.int .i64 0,.int .i64 0]])∧Hid (∀ w3,Below w''.heap.size w'' w3→PR w3 bp (L pat)))∧Below w'.heap.size w' w''):=by
    intro w'
    refine (HC.out w' pat hp).mono ?_
    rintro e w'' ⟨h1,h2⟩
    rw [hP] at h1
    exact ⟨h1,h2⟩
   have HFE:Hid (∀ w' bp,PR w' bp (L pat)→Calls Try.prog 72 #[.pointer (some ⟨bp,0,none⟩),.string t] w' fun e w''=>(∃ pp cap,e=.returned (.tuple #[.slice pp (Q.hits t.data.toList P).length cap,.int .i64 (Q.steps t.data.toList P false:Nat)])∧Hid (∀ ad,pp=some ad→w'.heap.size≤ad.block)∧Hid (SlI w'' (.slice pp (Q.hits t.data.toList P).length cap) (Q.hits t.data.toList P)))∧Below w'.heap.size w' w''):=fun w' bp h=>HFd.out w' bp t (L pat) P hts hP h
   clear hP HC HFd
   generalize Q.hits t.data.toList P=H at *
   generalize Q.steps t.data.toList P false=m at *
   go_enter Try.func57,Try.ntmps57
   go_upto_region 1 with fail
   have hbr:w.heap.size≤w.heap.size + 1:=by omega
   have hlt:=BlkT.lt hR0
   have hlp:=BlkT.lt hP0
   generalize hbp:w.heap.size + 1=br at *
   generalize (w.alloc (.cells #[.pointer (some ⟨bx,0,none⟩),.string t,.int .i64 (rate:Int)] 78)).alloc (.cells #[.int .i64 0,.int .i64 0] 45)=w1 at *
   have HC1:=hid (HCE.out w1)
   go_upto_region 4 with (go_at_call 71; refine HC1.out.mono ?_; rintro e w2 ⟨⟨bp,rfl,HPR⟩,hB2⟩)
   have hR2:BlkT w2 br 45 [.int .i64 0,.int .i64 0]:=(hB2.block br hlt).trans hR0
   have hP2:BlkT w2 w.heap.size 78 [.pointer (some ⟨bx,0,none⟩),.string t,.int .i64 (rate:Int)]:=(hB2.block w.heap.size hlp).trans hP0
   have hBB2:=hB0.trans (hB2.mono hB0.size)
   have hR3:=hR2.alloc (.cells #[.int .i64 0,.int .i64 0] 45)
   have hP3:=hP2.alloc (.cells #[.int .i64 0,.int .i64 0] 45)
   have hG3:BlkT (w2.alloc (.cells #[.int .i64 0,.int .i64 0] 45)) w2.heap.size 45 [.int .i64 0,.int .i64 0]:=BlkT.new w2 _ _
   have hBB3:=hBB2.alloc hBB2.size (.cells #[.int .i64 0,.int .i64 0] 45)
   have hPR3:=HPR.out _ ((Below.refl w2.heap.size w2).alloc (Nat.le_refl _) (.cells #[.int .i64 0,.int .i64 0] 45))
   have n1:br ≠ w2.heap.size:=by have:=BlkT.lt hR2; omega
   have n2:w2.heap.size ≠ br:=fun e=>n1 e.symm
   generalize w2.heap.size=bf at *
   generalize w2.alloc (.cells #[.int .i64 0,.int .i64 0] 45)=w3 at *
   have HF3:=hid (HFE.out w3 bp hPR3)
   clear hR0 hR2 hB2 hBB2 hB0 hP0 HCE HC1 hP2 HPR hPR3 HFE hlt hlp
   have p1:=hP3.cell 1
   have e0:=hG3.cell 0
   simp only [List.getElem?_cons_zero,List.getElem?_cons_succ] at p1 e0
   go_upto_region 7 with (go_at_call 72; refine HF3.out.mono ?_; rintro e w4 ⟨⟨pp,cap,rfl,HN4,HS4⟩,hB4⟩)
   have hR4:BlkT w4 br 45 [.int .i64 0,.int .i64 0]:=(hB4.block br (BlkT.lt hR3)).trans hR3
   have hG4:BlkT w4 bf 45 [.int .i64 0,.int .i64 0]:=(hB4.block bf (BlkT.lt hG3)).trans hG3
   have hBB4:=hBB3.trans (hB4.mono hBB3.size)
   have HNE:Hid (∀ ad,pp=some ad→ad.block ≠ br):=fun ad h=>by have h1:=HN4.out ad h; have h2:=BlkT.lt hR3; omega
   clear hR3 hG3 hP3 hB4 hBB3 HF3 p1 e0
   have f0:=hR4.cell 0; have f1:=hR4.cell 1; have ff:=hR4.frozen
   have e0:=hG4.cell 0; have e1:=hG4.cell 1
   simp only [List.getElem?_cons_zero,List.getElem?_cons_succ] at f0 f1 e0 e1
   go_region
   all_goals
    go_wp2
    refine bodyPost_ret (v:=.tuple #[.slice pp H.length cap,.agg #[.int .i64 0,.int .i64 0],.int .i64 (m:Int)]) (by simp [results,Try.results57,go_sem, *]) rfl ⟨HPO.out _ _ pp cap rfl ?_,((hBB4.setCell hbr _).setCell hbr _).drew⟩
    exact (HS4.out.setP (p:=⟨br,0,none⟩) HNE.out _).setP (p:=⟨br,1,none⟩) HNE.out _
end Go.Proofs.Ytjmkkkfloalliab
namespace Go.Proofs.Ytjmkkkfloalliab
set_option linter.unusedVariables false
open Go.RowKit
theorem Try.infoInt8:(Try.prog.info? 3).map (fun i=>(i.zero,i.size,i.bytes))=some (some (.int .i64 0),1,8):=by kernel_rfl
def intsV (l:List Nat):List Value:=l.map fun x:Nat=>Value.int .i64 (x:Int)
theorem intsV_len (l:List Nat):(intsV l).length=l.length:=by simp [intsV]
structure FInv (x:Tb) (D:Nat→G.Rx) (F id:Nat) (w:World) (kh k J:Nat) (vo ve:Value) (lo:List Nat) (le:List ByteArray):Prop where
 mem:Mem x (VN x.t.data.toList D F) w (vo.ownBlock.toList ++ ve.ownBlock.toList)
 top:x.s0 + 2 * x.N≤w.heap.size
 own:w.ownsRow x.w0.heap.size 3 1 vo lo.length (intsV lo)
 owe:w.ownsRow x.w0.heap.size 9 1 ve le.length (strB le)
 hit:FHit (Q.EN x.t.data.toList D F id) kh lo
 fe:FEnd x.t (Q.TN x.t.data.toList D F id) k J le
 len:le.length≤201 * k + J
 ne:∀ b,vo.ownBlock=some b→ve.ownBlock ≠ some b
variable {x:Tb} {D:Nat→G.Rx} {F id:Nat} {w w':World} {kh k J:Nat} {vo ve:Value} {lo:List Nat} {le:List ByteArray}
theorem FInv.zero (h:Mem x (VN x.t.data.toList D F) w []) (ht:x.s0 + 2 * x.N≤w.heap.size):FInv x D F id w 0 0 0 (.slice none 0 0) (.slice none 0 0) [] [] :=
 ⟨h,ht,⟨rfl,.inl ⟨rfl,rfl⟩⟩,⟨rfl,.inl ⟨rfl,rfl⟩⟩,FHit.zero _,FEnd.zero _ _,by simp,fun b hb=>by cases hb⟩
theorem FInv.notS (h:FInv x D F id w kh k J vo ve lo le):(∀ b,vo.ownBlock=some b→b ∉ x.S)∧∀ b,ve.ownBlock=some b→b ∉ x.S :=
 ⟨fun b hb=>h.mem.avS (by simp [hb]),fun b hb=>h.mem.avS (by simp [hb])⟩
theorem FInv.keepS (h:FInv x D F id w kh k J vo ve lo le) (hM:Mem x (VN x.t.data.toList D F) w' (vo.ownBlock.toList ++ ve.ownBlock.toList)) (kk:Keep x.S w w'):FInv x D F id w' kh k J vo ve lo le :=
 ⟨hM,Nat.le_trans h.top kk.size,own_keep' h.own kk h.notS.1,own_keep' h.owe kk h.notS.2,h.hit,h.fe,h.len,h.ne⟩
theorem FInv.no (h:FInv x D F id w k k J vo ve lo le) (hk:¬ ∃ j,k<j∧Q.EN x.t.data.toList D F id k j):FInv x D F id w (k + 1) k J vo ve lo le :=
 ⟨h.mem,h.top,h.own,h.owe,h.hit.no hk,h.fe,h.len,h.ne⟩
theorem FInv.start (h:FInv x D F id w kh k 0 vo ve lo le):FInv x D F id w kh k (k + 1) vo ve lo le :=
 ⟨h.mem,h.top,h.own,h.owe,h.hit,h.fe.start,by have:=h.len; omega,h.ne⟩
theorem FInv.next (h:FInv x D F id w kh k (x.t.size + 1) vo ve lo le) (hs:x.t.size≤200):FInv x D F id w kh (k + 1) 0 vo ve lo le :=
 ⟨h.mem,h.top,h.own,h.owe,h.hit,h.fe.next,by have:=h.len; omega,h.ne⟩
theorem FInv.skip (h:FInv x D F id w kh k J vo ve lo le) (hT:¬ Q.TN x.t.data.toList D F id k J):FInv x D F id w kh k (J + 1) vo ve lo le :=
 ⟨h.mem,h.top,h.own,h.owe,h.hit,h.fe.skip hT,by have:=h.len; omega,h.ne⟩
theorem FInv.yes (h:FInv x D F id w k k J vo ve lo le) (hk:∃ j,k<j∧Q.EN x.t.data.toList D F id k j) {gg cap:Nat} {X:Obj} (hown:w'.ownsRow x.w0.heap.size 3 1 (.slice (some ⟨gg,0,none⟩) (lo.length + 1) cap) (lo.length + 1) (intsV lo ++ [.int .i64 (k:Int)]))
    (hgrow:(w.alloc X).grownBy w' vo.ownBlock) (hat:vo.ownBlock=some gg∨gg=w.heap.size + 1) (hlt:gg<w'.heap.size):FInv x D F id w' (k + 1) k J (.slice (some ⟨gg,0,none⟩) (lo.length + 1) cap) ve (lo ++ [k]) le:=by
 have kk:=grown_keep hgrow
 have hs:=own_new h.owe
 refine ⟨h.mem.swap kk (fun a ha=>List.mem_append_left _ ha) (fun a ha=>?_) h.top,Nat.le_trans h.top kk.size,?_,own_keep' h.owe kk (fun b hb hm=>h.ne b (by simpa using hm) hb),h.hit.yes hk,h.fe,h.len,fun b hb=>?_⟩
 ·rcases List.mem_append.1 ha with e | e
  ·have e:a=gg:=by simpa [Value.ownBlock] using e
   subst e
   rcases hat with g | g
   ·exact .inl (by simp [g])
   ·exact .inr ⟨by omega,hlt⟩
  ·exact .inl (List.mem_append_right _ e)
 ·have e:intsV (lo ++ [k])=intsV lo ++ [.int .i64 (k:Int)]:=by simp [intsV]
  rw [e]
  simpa using hown
 ·cases hb
  rcases hat with g | g
  ·exact h.ne gg g
  ·intro e
   have:=(own_lt' h.owe gg e).1
   omega
theorem FInv.put (h:FInv x D F id w kh k J vo ve lo le) (hT:Q.TN x.t.data.toList D F id k J) (h1:k<J) (h2:J≤x.t.size) {e:Ending} (hp:AddPost w x.w0.heap.size ve le (x.t.extract k J) e w'):∃ ve' le',e=.returned ve'∧FInv x D F id w' kh k (J + 1) vo ve' lo le'∧Keep ve.ownBlock.toList w w'∧∀ b,ve'.ownBlock=some b→ve.ownBlock=some b∨w.heap.size≤b:=by
 obtain ⟨ve',le',he,ho,up,hm,hl,kk,hv⟩:=hp
 refine ⟨ve',le',he,⟨h.mem.swap kk (fun a ha=>List.mem_append_right _ ha) (fun a ha=>?_) h.top,Nat.le_trans h.top kk.size,own_keep' h.own kk (fun b hb hm=>h.ne b hb (by simpa using hm)),ho,h.hit,h.fe.put hT h1 h2 up hm,by have:=h.len; omega,fun b hb hc=>?_⟩,kk,hv⟩
 ·rcases List.mem_append.1 ha with e | e
  ·exact .inl (List.mem_append_left _ e)
  ·have e:ve'.ownBlock=some a:=by simpa using e
   rcases hv a e with g | g
   ·exact .inl (List.mem_append_right _ (by simp [g]))
   ·exact .inr ⟨g,(own_lt' ho a e).1⟩
 ·rcases hv b hc with g | g
  ·exact h.ne b hb g
  ·have:=(own_lt' h.own b hb).1
   omega
theorem FInv.form (h:FInv x D F id w kh k J vo ve lo le):(∃ p cap,vo=.slice p lo.length cap)∧∃ p cap,ve=.slice p le.length cap:=⟨own_form h.own,own_form h.owe⟩
theorem FInv.bound (h:FInv x D F id w kh k J vo ve lo le) (h1:k≤200) (h2:J≤201):le.length≤100000:=by have:=h.len; omega
theorem FInv.slI (h:FInv x D F id w kh k J vo ve lo le):SlI w vo lo∧∀ ad,vo=.slice (some ad) lo.length ad.off→True:=by
 refine ⟨?_,fun _ _=>trivial⟩
 obtain ⟨h1,⟨rfl,h2⟩ | ⟨g,cap,cur,rfl,hb,hg,h3,h4,h5,h6⟩⟩:=h.own
 ·exact .inl ⟨List.eq_nil_of_length_eq_zero h2,none,0,rfl⟩
 ·by_cases hl:lo=[]
  ·subst hl
   exact .inl ⟨rfl,_,_,rfl⟩
  ·refine .inr ⟨hl,g,cap,rfl,(Array.getElem?_eq_some_iff.1 hg).1,fun i hi=>?_⟩
   have hr:RowAt w g cap 3 1 lo.length (intsV lo):=⟨cur,hg,h3,h4,h5,h6,h1⟩
   rw [hr.cell? i (by rw [intsV_len]; exact hi)]
   simp [intsV,List.getElem?_eq_getElem hi]
theorem FInv.far (h:FInv x D F id w kh k J vo ve lo le):∀ ad,vo.ownBlock=some ad→x.w0.heap.size≤ad:=fun ad hb=>(own_lt' h.own ad hb).2
end Go.Proofs.Ytjmkkkfloalliab
