import Derived.Test.YtjmkkkfloalliabZ07
import Derived.Test.YtjmkkkfloalliabZ01
import Derived.Test.YtjmkkkfloalliabZ05
namespace Go.Proofs.Ytjmkkkfloalliab
set_option linter.unusedVariables false
open Go.RowKit
theorem ent2_inj {n p i p' i':Nat} (hi:i<n) (hi':i'<n) (h:p * n + i=p' * n + i'):p=p'∧i=i':=by
 have hn:0<n:=by omega
 have e3:i=i':=by
  have a:=congrArg (· % n) h
  simp only [Nat.mul_add_mod_self_right,Nat.mod_eq_of_lt hi,Nat.mod_eq_of_lt hi'] at a
  exact a
 subst e3
 exact ⟨Nat.eq_of_mul_eq_mul_right hn (by omega),rfl⟩
theorem getD_set_ne (l:List Int) (i k:Nat) (v:Int) (h:i ≠ k):(l.set i v).getD k 0=l.getD k 0:=by
 rw [List.getD_eq_getElem?_getD,List.getElem?_set_ne h,← List.getD_eq_getElem?_getD]
theorem getD_set_self (l:List Int) (i:Nat) (v:Int) (h:i<l.length):(l.set i v).getD i 0=v:=by
 rw [List.getD_eq_getElem?_getD,List.getElem?_set_self h]; rfl
set_option maxRecDepth 100000 in
set_option maxHeartbeats 1600000 in
theorem opened_end (br bt bo n:Nat) (s:ByteArray) (E:Nat) (y:UInt8) (os:List Int) (w:World) (hR:RdrO w br bt bo n s E os) :
    Calls Try.prog 97 #[.pointer (some ⟨br,0,none⟩),.int .u8 (y.toNat:Int),.int .i64 (E:Int)] w (OpenedPost br bt bo n s E os (G.O s.data.toList E y E) w):=by
 have HO:Hid (G.O s.data.toList E y E=true):=G.O_end _ _ _
 have c3:=hR.rdr.c3
 rw [HO.out]
 go_enter Try.func97,Try.ntmps97
 go_wp2
 go_ret
 exact ⟨os,rfl,hR,OpPost.refl _ _ _ _,Keep.refl _ _⟩
set_option maxRecDepth 100000 in
set_option maxHeartbeats 1600000 in
theorem opened_term (br bt bo n:Nat) (s:ByteArray) (E:Nat) (y:UInt8) (i:Nat) (os:List Int) (w:World) (hi:i<E) (hy:G.isNt y=false) (hR:RdrO w br bt bo n s E os) :
    Calls Try.prog 97 #[.pointer (some ⟨br,0,none⟩),.int .u8 (y.toNat:Int),.int .i64 (i:Int)] w (OpenedPost br bt bo n s E os (G.O s.data.toList E y i) w):=by
 have HO:Hid (G.O s.data.toList E y i=(G.cls y (s.data.toList.getD i 0) && (i + 1 == E))):=G.O_term _ _ _ _ hy (by omega)
 have c3:=hR.rdr.c3
 have c0:=hR.rdr.c0
 have hE:=hR.hE
 have hs:=hR.rdr.hs
 have hq:((i:Int) == (E:Int))=false:=by rw [beq_eq_false_iff_ne]; omega
 have his:i<s.size:=by omega
 have HB:Hid (s[i]=s.data.toList.getD i 0):=byte_at s i his
 go_enter Try.func97,Try.ntmps97
 go_wp2_with fail
 refine (place_any y _ _ (by decide)).mono ?_
 rintro e w1 ⟨⟨r,rfl,hr⟩,rfl⟩
 obtain rfl:r = -1:=by
  rcases hr.out with ⟨_,h⟩ | ⟨k,rfl,hk,he,_⟩
  ·exact h
  ·exfalso
   have:G.symbols.contains y=true:=by
    rw [List.contains_iff_mem,← he,List.getD_eq_getElem?_getD,List.getElem?_eq_getElem hk]
    exact List.getElem_mem hk
   unfold G.isNt at hy
   rw [this] at hy
   cases hy
 clear hr
 go_wp2_with fail
 refine (class_any y s[i] _).mono ?_
 rintro e w2 ⟨rfl,rfl⟩
 cases hc:G.cls y s[i] with
 | false =>
  have HR:Hid (false=G.O s.data.toList E y i):=by show _=_; rw [HO.out,← HB.out,hc]; rfl
  clear hc
  go_wp2
  go_ret
  exact ⟨os,ret_bool HR.out,hR,OpPost.refl _ _ _ _,Keep.refl _ _⟩
 | true =>
  by_cases he:i + 1=E
  ·have hq2:((i:Int) + 1 == (E:Int))=true:=by rw [beq_iff_eq]; omega
   have HR:Hid (true=G.O s.data.toList E y i):=by show _=_; rw [HO.out,← HB.out,hc,beq_iff_eq.2 he]; rfl
   clear he hc
   go_wp2
   go_ret
   exact ⟨os,ret_bool HR.out,hR,OpPost.refl _ _ _ _,Keep.refl _ _⟩
  ·have hq2:((i:Int) + 1 == (E:Int))=false:=by rw [beq_eq_false_iff_ne]; omega
   have HR:Hid (false=G.O s.data.toList E y i):=by show _=_; rw [HO.out,← HB.out,hc,beq_eq_false_iff_ne.2 he]; rfl
   clear hc
   go_wp2
   go_ret
   exact ⟨os,ret_bool HR.out,hR,OpPost.refl _ _ _ _,Keep.refl _ _⟩
theorem any_take_succ {α:Type} (f:α→Bool) (l:List α) (a:Nat) (h:a<l.length):(l.take (a + 1)).any f=((l.take a).any f || f l[a]):=by
 rw [List.take_succ_eq_append_getElem h,List.any_append]
 simp
set_option maxRecDepth 100000 in
set_option maxHeartbeats 3200000 in
theorem opened_nt (br bt bo n:Nat) (s:ByteArray) (E:Nat) (y:UInt8) (i:Nat) (os:List Int) (w:World) (hi:i<E) (hy:G.isNt y=true) (hR:RdrO w br bt bo n s E os) (hP:OpPre s.data.toList E n (G.nu E y i) os)
    (HOp:OpenedC br bt bo n s E (G.nu E y i)) :
    Calls Try.prog 97 #[.pointer (some ⟨br,0,none⟩),.int .u8 (y.toNat:Int),.int .i64 (i:Int)] w (OpenedPost br bt bo n s E os (G.O s.data.toList E y i) w):=by
 have HO:Hid (G.O s.data.toList E y i=(G.alts y).any (fun l=>!G.skips s.data.toList l i E && G.bg s.data.toList E (G.O s.data.toList E) l i)):=G.O_nt _ _ _ _ hy hi
 have HOP:Hid (OpenedC br bt bo n s E (G.nu E y i)):=HOp
 have hE:=hR.hE
 have hs:=hR.rdr.hs
 have hnn:=hR.rdr.hn
 have hnl:n≤41:=by omega
 have hin:i<n:=by omega
 have hrk:=G.rank_pos hy
 have hEn:E<n:=by omega
 have hq0:((i:Int) == (E:Int))=false:=by rw [beq_eq_false_iff_ne]; omega
 have c3:=hR.rdr.c3
 clear HOp
 have HNN:Hid (n=s.size + 1):=hnn
 clear hnn
 go_enter Try.func97,Try.ntmps97
 go_wp2_with fail
 refine (place_any y _ _ (by decide)).mono ?_
 rintro e w1 ⟨⟨r,rfl,hr⟩,rfl⟩
 obtain ⟨p,rfl,hp9,HSY⟩:∃ p:Nat,r=(p:Int)∧p<9∧Hid (G.symbols.getD p 0=y):=by
  rcases hr.out with ⟨h,_⟩ | ⟨k,rfl,hk,he,_⟩
  ·exfalso
   have h2:G.symbols.contains y=false:=h
   unfold G.isNt at hy
   rw [h2] at hy
   cases hy
  ·exact ⟨k,rfl,hk,he⟩
 clear hr
 have c1:=hR.rdr.c1
 have c4:=hR.rdr.c4
 have m1:(0:Int)≤(p:Int) * (n:Int):=Int.mul_nonneg (by omega) (by omega)
 have m2:(p:Int) * (n:Int)≤369:=by
  have:=mul_bd (show p≤9 by omega) hnl
  have h2:((p * n:Nat):Int)≤369:=by omega
  rwa [Int.natCast_mul] at h2
 obtain ⟨q,HQE⟩:∃ q,q=p * n + i:=⟨_,rfl⟩
 have HQ:Hid ((p:Int) * (n:Int) + (i:Int)=(q:Int)):=by show _=_; rw [HQE,Int.natCast_add,Int.natCast_mul]
 have hql:q<9 * n:=by
  rw [HQE]
  have:p * n + n≤9 * n:=by rw [← Nat.succ_mul]; exact Nat.mul_le_mul_right n hp9
  omega
 have HQE2:Hid (q=p * n + i):=HQE
 obtain ⟨N,HNe⟩:∃ N,N=9 * n:=⟨_,rfl⟩
 rw [← HNe] at c4 hql
 have hN1:N≤400:=by omega
 have HNe2:Hid (N=9 * n):=HNe
 have hqi:(q:Int)<(N:Int):=by omega
 have b0:decide ((p:Int)<0)=false:=decide_eq_false (by omega)
 obtain ⟨a1,a2,a3,a4⟩:=hR.at q (by omega)
 have hv:=hP p i hp9 (by omega) (by rw [HSY.out]; exact Nat.le_refl _)
 rw [HSY.out,← HQE] at hv
 clear HQE HNe
 rcases hv with hv | ⟨hv,hob⟩ | ⟨hv,hob⟩
 ·rw [hv] at a1
  have HV:Hid (os.getD q 0=0):=hv
  clear hv a3 a4
  have hQo:(p:Int) * (n:Int) + (i:Int)=(q:Int):=HQ.out
  go_wp2_with fail
  clear hQo
  refine (alternatives_any y w1 hy).mono ?_
  rintro e w3 ⟨rfl,hA,hB3⟩
  have hR3:=hR.below hB3 (Nat.le_refl _)
  have hK3:Keep [bt,bo] w1 w3:=Keep.of_below hB3 (Nat.le_refl _)
  have hbo:bo<w1.heap.size:=hR.ops.1.lt
  have hbt:bt<w1.heap.size:=by obtain ⟨cs,t1,_⟩:=hR.rdr.tab; exact t1.lt
  have hba:=Blk.lt hA
  have hbne:w1.heap.size ≠ bt∧w1.heap.size ≠ bo:=by omega
  obtain ⟨hal7,hal10⟩:=alts_len y
  have HAL10:Hid (∀ l,l ∈ G.alts y→l.length≤10):=hal10
  have HALOK:Hid (∀ l,l ∈ G.alts y→G.okAlt (G.rank y) false l=true):=fun l hl=>List.all_eq_true.1 (G.alts_ok y) l hl
  obtain ⟨g1,g2,_,_⟩:=hR3.at q (by rw [← HNe2.out]; exact hql)
  have g4:=hR3.rdr.c4
  rw [← HNe2.out] at g4
  have hR4:=hR3.put q 1 (by omega)
  have hA4:Blk (w3.setCell ⟨bo,q,none⟩ (.int .i64 1)) w1.heap.size (strs (G.alts y)):=Blk.other hA (by simp; omega) _
  have hK4:Keep [bt,bo] w1 (w3.setCell ⟨bo,q,none⟩ (.int .i64 1)):=hK3.setCell (by simp) _
  have hba4:=Blk.lt hA4
  have HP4:Hid (OpPre s.data.toList E n (8 * (E - i) + G.rank y - 1) (os.set q 1)):=by
   intro p' i' hp' hi' hm
   have hne:q ≠ p' * n + i':=by
    intro e
    rw [HQE2.out] at e
    obtain ⟨rfl,rfl⟩:=ent2_inj hin (by omega) e
    rw [HSY.out] at hm
    unfold G.nu at hm
    omega
   rw [getD_set_ne _ _ _ _ hne]
   refine hP p' i' hp' hi' ?_
   unfold G.nu at hm ⊢
   omega
  clear hal10 hB3 hR3 hK3 a1 a2 c1 c3 c4 m1 m2
  generalize w1.heap.size=ba at hA4 hba4 hbne ⊢
  go_wp2_with fail
  clear g1 g2 g4 hA hba
  generalize w3.setCell ⟨bo,q,none⟩ (.int .i64 1)=w4 at hA4 hK4 hR4 hba4 ⊢
  generalize hal:G.alts y=al at HO hA4 hal7 HAL10 HALOK ⊢
  clear hal
  have hqlen:q<os.length:=by rw [hR.ops.2.1,← HNe2.out]; exact hql
  go_loopw [11] (fun av wr=>∃ (a:Nat) (os':List Int),a≤al.length∧av=.int .i64 (a:Int)∧RdrO wr br bt bo n s E os'∧OpPost s.data.toList E n (os.set q 1) os'∧Keep [bt,bo] w4 wr ∧
      Hid ((al.take a).any (fun l=>!G.skips s.data.toList l i E && G.bg s.data.toList E (G.O s.data.toList E) l i)=false)) (fun av _=>al.length - (intOf av).toNat)
  case atStart=>exact ⟨0,_,by omega,rfl,hR4,OpPost.refl _ _ _ _,Keep.refl _ _,by show _=_; rw [List.take_zero]; rfl⟩
  case round =>
   obtain ⟨a,os',hal,rfl,hRr,hPr,hKr,HAN⟩:=hrel
   have hAr:Blk wr ba (strs al):=Blk.of_heap hA4 (hKr.block ba hba4 (by simp; exact hbne))
   have c0:=hRr.rdr.c0
   have c3:=hRr.rdr.c3
   by_cases hgo:a<al.length
   ·have hmem:al[a] ∈ al:=List.getElem_mem hgo
    have hok:=HALOK.out _ hmem
    have hln:=HAL10.out _ hmem
    have HTK:Hid ((al.take (a + 1)).any (fun l=>!G.skips s.data.toList l i E && G.bg s.data.toList E (G.O s.data.toList E) l i)=(!G.skips s.data.toList al[a] i E && G.bg s.data.toList E (G.O s.data.toList E) al[a] i)):=by
     show _=_
     rw [any_take_succ _ _ _ hgo,HAN.out,Bool.false_or]
    have HYES:Hid ((!G.skips s.data.toList al[a] i E && G.bg s.data.toList E (G.O s.data.toList E) al[a] i)=true→G.O s.data.toList E y i=true):=by
     intro h
     rw [HO.out,List.any_eq_true]
     exact ⟨al[a],hmem,h⟩
    have ca:wr.cell? ⟨ba,a,none⟩=some (.string ⟨al[a].toArray⟩):=by
     rw [hAr.cell? a]
     simp [strs,List.getElem?_eq_getElem hgo]
    obtain ⟨lb,HLB⟩:∃ lb:ByteArray,lb=⟨al[a].toArray⟩:=⟨_,rfl⟩
    rw [← HLB] at ca
    have HLD:Hid (lb.data.toList=al[a]):=by show _=_; rw [HLB]
    have HOK:Hid (G.okAlt (G.rank y) false al[a]=true):=hok
    have HLN:Hid (al[a].length≤10):=hln
    have HI3:Hid (al[a]=[91,73,93] ↔ lb.toList=[91,73,93]):=by
     show _ ↔ _
     rw [Lib.toList_data,HLD.out]
    clear HLB hok hln hmem
    generalize al[a]=l at HTK HYES HLD HOK HLN HI3
    have hai:(a:Int)<(al.length:Int):=by omega
    have hnot:(¬ i + 1<E)∨(∃ hsi:i + 1<s.size,i + 1<E∧(i:Int) + 1<(s.size:Int)∧(((s[i + 1]).toNat:Int) == 94)=decide (s.data.toList.getD (i + 1) 0=94)):=by
     rcases Nat.lt_or_ge (i + 1) E with h | h
     ·right
      have hsi:i + 1<s.size:=by omega
      refine ⟨hsi,h,by omega,?_⟩
      rw [byte_at s (i + 1) hsi,Bool.eq_iff_iff]
      simp only [beq_iff_eq,decide_eq_true_eq]
      constructor
      ·intro e; exact UInt8.toNat_inj.1 (by show _=94; omega)
      ·intro e; rw [e]; rfl
     ·left; omega
    have hsix:(∃ hsi:i + 1<s.size,G.skips s.data.toList l i E=true∧(lb.toList == [91,73,93])=true∧i + 1<E∧(i:Int) + 1<(s.size:Int)∧(((s[i + 1]).toNat:Int) == 94)=true)∨(G.skips s.data.toList l i E=false ∧
        (((lb.toList == [91,73,93])=false∧¬ i + 1<E)∨((lb.toList == [91,73,93])=true∧¬ i + 1<E)∨(∃ hsi:i + 1<s.size,(lb.toList == [91,73,93])=false∧i + 1<E∧(i:Int) + 1<(s.size:Int)∧(((s[i + 1]).toNat:Int) == 94)=false) ∨
        (∃ hsi:i + 1<s.size,(lb.toList == [91,73,93])=false∧i + 1<E∧(i:Int) + 1<(s.size:Int)∧(((s[i + 1]).toNat:Int) == 94)=true)∨(∃ hsi:i + 1<s.size,(lb.toList == [91,73,93])=true∧i + 1<E∧(i:Int) + 1<(s.size:Int)∧(((s[i + 1]).toNat:Int) == 94)=false))):=by
     by_cases g1:lb.toList=[91,73,93]
     ·have g1b:(lb.toList == [91,73,93])=true:=by rw [g1]; rfl
      rcases hnot with h | ⟨hsi,h1,h2,h3⟩
      ·right
       refine ⟨?_,.inr (.inl ⟨g1b,h⟩)⟩
       unfold G.skips
       rw [decide_eq_false h,Bool.false_and,Bool.and_false]
      ·by_cases g3:s.data.toList.getD (i + 1) 0=94
       ·rw [decide_eq_true g3] at h3
        left
        refine ⟨hsi,?_,g1b,h1,h2,h3⟩
        unfold G.skips
        rw [HI3.out.2 g1,decide_eq_true h1,g3]; rfl
       ·rw [decide_eq_false g3] at h3
        right
        refine ⟨?_,.inr (.inr (.inr (.inr ⟨hsi,g1b,h1,h2,h3⟩)))⟩
        unfold G.skips
        rw [beq_eq_false_iff_ne.2 g3,Bool.and_false,Bool.and_false]
     ·have g1b:(lb.toList == [91,73,93])=false:=beq_eq_false_iff_ne.2 g1
      right
      refine ⟨?_,?_⟩
      ·unfold G.skips
       rw [beq_eq_false_iff_ne.2 (fun e=>g1 (HI3.out.1 e)),Bool.false_and]
      ·rcases hnot with h | ⟨hsi,h1,h2,h3⟩
       ·exact .inl ⟨g1b,h⟩
       ·by_cases g:s.data.toList.getD (i + 1) 0=94
        ·rw [decide_eq_true g] at h3
         exact .inr (.inr (.inr (.inl ⟨hsi,g1b,h1,h2,h3⟩)))
        ·rw [decide_eq_false g] at h3
         exact .inr (.inr (.inl ⟨hsi,g1b,h1,h2,h3⟩))
    clear hnot
    rcases hsix with ⟨hsi,k1,q1,q3,q4,q5⟩ | ⟨k1,hfive⟩
    ·have HAN2:Hid ((al.take (a + 1)).any (fun l=>!G.skips s.data.toList l i E && G.bg s.data.toList E (G.O s.data.toList E) l i)=false):=by
        show _=_
        rw [HTK.out,k1]; rfl
     clear k1 HTK HYES
     go_wp2
     go_roundw
     case rel=>exact ⟨a + 1,os',by omega,by go_num,hRr,hPr,hKr,HAN2⟩
     case measure=>simp [intOf]; omega
    ·have HK1:Hid (G.skips s.data.toList l i E=false):=k1
     clear k1
     rcases hfive with ⟨q1,q3⟩ | ⟨q1,q3⟩ | ⟨hsi,q1,q3,q4,q5⟩ | ⟨hsi,q1,q3,q4,q5⟩ | ⟨hsi,q1,q3,q4,q5⟩
     all_goals
      go_wp2_with fail
      refine Calls.mono (begun_any br bt bo n s E (G.rank y) i (G.rank_lt y) (show OpenedC br bt bo n s E (8 * (E - i) + G.rank y) from HOP.out) l lb HLD.out false i os' wr HOK.out (Nat.le_refl _) (fun h=>by cases h) (by omega) HLN.out hRr (hPr.pre HP4.out) hrk) ?_
      rintro e w5 ⟨os5,rfl,hR5,hP5,hK5⟩
      have hP6:=hPr.trans hP5
      have hK6:=hKr.trans hK5
      cases hbg:G.bg s.data.toList E (G.O s.data.toList E) l i with
      | false =>
       have HAN2:Hid ((al.take (a + 1)).any (fun l=>!G.skips s.data.toList l i E && G.bg s.data.toList E (G.O s.data.toList E) l i)=false):=by
        show _=_
        rw [HTK.out,hbg,Bool.and_false]
       clear hbg HTK HYES
       go_wp2
       go_roundw
       case rel=>exact ⟨a + 1,os5,by omega,by go_num,hR5,hP6,hK6,HAN2⟩
       case measure=>simp [intOf]; omega
      | true =>
       have HB:Hid (G.O s.data.toList E y i=true):=HYES.out (by rw [HK1.out,hbg]; rfl)
       have hl5:q<os5.length:=by rw [hR5.ops.2.1,← HNe2.out]; exact hql
       have HPF:Hid (OpPost s.data.toList E n os (os5.set q 2)):=by
        intro p' i' hp' hi'
        by_cases hqe:q=p' * n + i'
        ·right
         rw [← hqe,getD_set_self _ _ _ hl5]
         have e:=hqe
         rw [HQE2.out] at e
         obtain ⟨rfl,rfl⟩:=ent2_inj hin (by omega) e
         rw [HSY.out,HB.out]
         exact .inr (.inr ⟨rfl,rfl⟩)
        ·rw [getD_set_ne _ _ _ _ hqe]
         rcases hP6 p' i' hp' hi' with h | h
         ·left; rw [h,getD_set_ne _ _ _ _ hqe]
         ·exact .inr h
       obtain ⟨g1,g2,_,_⟩:=hR5.at q (by rw [← HNe2.out]; exact hql)
       have g4:=hR5.rdr.c4
       rw [← HNe2.out] at g4
       have hRF:=hR5.put q 2 (by omega)
       clear hbg HTK HYES
       go_wp2
       go_ret
       exact ⟨os5.set q 2,ret_bool HB.out.symm,hRF,HPF.out,(hK4.trans hK6).setCell (by simp) _⟩
   ·have ha:a=al.length:=by omega
    have HB:Hid (G.O s.data.toList E y i=false):=by
     show _=_
     rw [HO.out,← HAN.out,ha,List.take_length]
    have HPF:Hid (OpPost s.data.toList E n os os'):=by
     intro p' i' hp' hi'
     rcases hPr p' i' hp' hi' with h | h
     ·by_cases hqe:q=p' * n + i'
      ·right
       rw [h,← hqe,getD_set_self _ _ _ hqlen]
       have e:=hqe
       rw [HQE2.out] at e
       obtain ⟨rfl,rfl⟩:=ent2_inj hin (by omega) e
       rw [HSY.out,HB.out]
       exact .inr (.inl ⟨rfl,rfl⟩)
      ·left
       rw [h,getD_set_ne _ _ _ _ hqe]
     ·exact .inr h
    clear ha
    go_wp2
    go_ret
    exact ⟨os',ret_bool HB.out.symm,hRr,HPF.out,hK4.trans hKr⟩
 ·rw [hv] at a1
  have HOB:Hid (G.O s.data.toList E y i=false):=hob
  clear hv a3 a4 hob
  have hQo:(p:Int) * (n:Int) + (i:Int)=(q:Int):=HQ.out
  go_wp2
  go_ret
  exact ⟨os,ret_bool HOB.out.symm,hR,OpPost.refl _ _ _ _,Keep.refl _ _⟩
 ·rw [hv] at a1
  have HOB:Hid (G.O s.data.toList E y i=true):=hob
  clear hv a3 a4 hob
  have hQo:(p:Int) * (n:Int) + (i:Int)=(q:Int):=HQ.out
  go_wp2
  go_ret
  exact ⟨os,ret_bool HOB.out.symm,hR,OpPost.refl _ _ _ _,Keep.refl _ _⟩
theorem OpenedC.le {br bt bo n:Nat} {s:ByteArray} {E m m':Nat} (h:OpenedC br bt bo n s E m) (hm:m'≤m):OpenedC br bt bo n s E m' :=
 fun y i os w hi hy hR hP=>h y i os w hi (by rcases hy with h | h; exact .inl (by omega); exact .inr h) hR hP
theorem opened_any (br bt bo n:Nat) (s:ByteArray) (E:Nat):∀ m,OpenedC br bt bo n s E m
 | 0=>fun y i os w hi hy hR hP=>by
  have hn:G.isNt y=false:=by rcases hy with h | h; omega; exact h
  rcases Nat.eq_or_lt_of_le hi with e | e
  ·subst e; exact opened_end br bt bo n s i y os w hR
  ·exact opened_term br bt bo n s E y i os w e hn hR
 | m + 1=>fun y i os w hi hy hR hP=>by
  rcases Nat.eq_or_lt_of_le hi with e | e
  ·subst e; exact opened_end br bt bo n s i y os w hR
  ·cases hn:G.isNt y with
   | false=>exact opened_term br bt bo n s E y i os w e hn hR
   | true =>
    have hmu:G.nu E y i≤m:=by
     rcases hy with h | h
     ·omega
     ·rw [hn] at h; cases h
    exact opened_nt br bt bo n s E y i os w e hn hR (hP hn) ((opened_any br bt bo n s E m).le hmu)
theorem info_found:∃ i:TypeInfo,Try.prog.info? 180=some i∧i.zero=some (.agg #[.bool false,.pointer none])∧i.size=2∧i.bytes=16:=info_of (by kernel_rfl)
def foundRow (k:Nat):Array Value:=madeCells #[.bool false,.pointer none] (k * 2)
theorem foundRow_size (k:Nat):(foundRow k).toList.length=2 * k:=by
 rw [Array.length_toList]; unfold foundRow; rw [size_madeCells]; omega
theorem foundRow_at (k q:Nat) (hq:q<k):(foundRow k).toList[q * 2]?=some (.bool false)∧(foundRow k).toList[q * 2 + 1]?=some (.pointer none):=by
 unfold foundRow madeCells
 have h1:q * 2<k * 2:=by omega
 have h2:q * 2 + 1<k * 2:=by omega
 have e1:q * 2 % 2=0:=by omega
 have e2:(q * 2 + 1) % 2=1:=by omega
 constructor
 ·simp [h1,e1]
 ·simp [h2,e2]
theorem make_found (l:Int) (n:Nat) (hl:l=n) (hn:n≤100000) (w:World) :
    Sem.run Try.prog (Instr.makeSlice 156 (.int .i64 l) (.int .i64 l)) w=.ok (.slice (some ⟨w.heap.size,0,none⟩) n n) (w.alloc (.cells (foundRow n) 180)):=by
 obtain ⟨i,h1,h2,h3,h4⟩:=info_found
 subst hl
 have h:(i.bytes:Int) * (n:Int)≤281474976710656:=by rw [h4]; omega
 have:=run_make (P:=Try.prog) w 156 180 i _ Try.underlying156 h1 h2 .i64 .i64 n n (by omega) (Int.le_refl _) h (by omega)
 rw [h3] at this
 simp only [Int.toNat_natCast] at this
 exact this
set_option maxRecDepth 100000 in
set_option maxHeartbeats 800000 in
theorem newReader_any (s:ByteArray) (w:World) (h0:s.size≤40) :
    Calls Try.prog 95 #[.string s] w fun e w'=>∃ br bt,e=.returned (.pointer (some ⟨br,0,none⟩))∧w.heap.size≤br∧w.heap.size≤bt∧Rdr w' br bt (s.size + 1) s 0 (.slice none 0 0)∧Below w.heap.size w w':=by
 have hb1:(9:Int) * ((s.size:Int) + 1)≤369:=by omega
 have m1:(0:Int)≤9 * ((s.size:Int) + 1) * ((s.size:Int) + 1):=Int.mul_nonneg (by omega) (by omega)
 have m2:9 * ((s.size:Int) + 1) * ((s.size:Int) + 1)≤369 * 41:=Int.mul_le_mul (by omega) (by omega) (by omega) (by omega)
 have hNN:9 * (s.size + 1) * (s.size + 1)≤20000:=by
  have:=mul_bd (mul_bd (Nat.le_refl 9) (show s.size + 1≤41 by omega)) (show s.size + 1≤41 by omega)
  omega
 have hm:=make_found (9 * ((s.size:Int) + 1) * ((s.size:Int) + 1)) (9 * (s.size + 1) * (s.size + 1)) (by rw [Int.natCast_mul,Int.natCast_mul,Int.natCast_add]; rfl) (by omega)
 obtain ⟨N,HN⟩:∃ N,N=9 * (s.size + 1) * (s.size + 1):=⟨_,rfl⟩
 rw [← HN] at hm
 have HNe:Hid (N=9 * (s.size + 1) * (s.size + 1)):=HN
 clear HN hNN
 go_enter Try.func95,Try.ntmps95
 go_wp2
 go_ret
 refine ⟨_,w.heap.size,rfl,by simp,Nat.le_refl _,?_,((Below.refl w.heap.size w).alloc (Nat.le_refl _) _).alloc (by simp) _⟩
 have t1:BlkT (w.alloc (.cells (foundRow N) 180)) w.heap.size 180 (foundRow N).toList:=BlkT.new _ _ _
 refine ⟨rfl,h0,?_,(foundRow N).toList,t1.alloc _,by rw [foundRow_size,HNe.out],?_⟩
 ·have:=BlkT.new (w.alloc (.cells (foundRow N) 180)) #[.string s,.int .i64 ((s.size:Int) + 1),.slice (some ⟨w.heap.size,0,none⟩) N N,.int .i64 0,.slice none 0 0] 158
  rw [HNe.out] at this ⊢
  simpa using this
 ·intro p i j hp hi hj
  left
  exact foundRow_at N _ (by rw [HNe.out]; exact ent_lt hp (by omega) (by omega))
theorem Rdr.setEnd {w:World} {br bt n:Nat} {s:ByteArray} {en:Int} {vo:Value} (h:Rdr w br bt n s en vo) (en':Int):Rdr (w.setCell ⟨br,3,none⟩ (.int .i64 en')) br bt n s en' vo:=by
 have hk:Keep [br] w (w.setCell ⟨br,3,none⟩ (.int .i64 en')):=(Keep.refl [br] w).setCell (by simp) _
 have hkt:KeepTrees w (w.setCell ⟨br,3,none⟩ (.int .i64 en')):=hk.trees (by
  intro k hk c T hc
  rw [List.mem_singleton] at hk
  subst hk
  have t1:=h.blk
  unfold BlkT at t1
  rw [t1] at hc
  cases hc
  exact ⟨by decide,by decide⟩)
 obtain ⟨cs,t1,t2,t3⟩:=h.tab
 refine ⟨h.hn,h.hs,h.blk.set 3 (.int .i64 en'),cs,t1.keep hk (by simp; exact fun e=>h.ne e.symm),t2,fun p i j hp hi hj=>?_⟩
 rcases t3 p i j hp hi hj with g | ⟨g1,v,g2,g3⟩
 ·exact .inl g
 ·exact .inr ⟨g1,v,g2,g3.keep hkt⟩
theorem Rdr.setOpens {w:World} {br bt n:Nat} {s:ByteArray} {en:Int} {vo:Value} (h:Rdr w br bt n s en vo) (vo':Value):Rdr (w.setCell ⟨br,4,none⟩ vo') br bt n s en vo':=by
 have hk:Keep [br] w (w.setCell ⟨br,4,none⟩ vo'):=(Keep.refl [br] w).setCell (by simp) _
 have hkt:KeepTrees w (w.setCell ⟨br,4,none⟩ vo'):=hk.trees (by
  intro k hk c T hc
  rw [List.mem_singleton] at hk
  subst hk
  have t1:=h.blk
  unfold BlkT at t1
  rw [t1] at hc
  cases hc
  exact ⟨by decide,by decide⟩)
 obtain ⟨cs,t1,t2,t3⟩:=h.tab
 refine ⟨h.hn,h.hs,h.blk.set 4 vo',cs,t1.keep hk (by simp; exact fun e=>h.ne e.symm),t2,fun p i j hp hi hj=>?_⟩
 rcases t3 p i j hp hi hj with g | ⟨g1,v,g2,g3⟩
 ·exact .inl g
 ·exact .inr ⟨g1,v,g2,g3.keep hkt⟩
def atOf (s:List UInt8):Nat:=((List.range' 1 s.length).find? fun k=>!G.O s k 65 0).getD (s.length + 1)
theorem find_first (f:Nat→Bool):∀ (n i k:Nat),(∀ k',i≤k'→k'<k→f k'=false)→i≤k→k<i + n→f k=true→(List.range' i n).find? f=some k
 | 0,i,k,_,h1,h2,_=>by omega
 | n + 1,i,k,hn,h1,h2,hk=>by
  rw [List.range'_succ,List.find?_cons]
  rcases Nat.eq_or_lt_of_le h1 with e | e
  ·subst e; rw [hk]
  ·rw [hn i (Nat.le_refl _) e]
   exact find_first f n (i + 1) k (fun k' a b=>hn k' (by omega) b) e (by omega) hk
theorem find_not (f:Nat→Bool):∀ (n i:Nat),(∀ k',i≤k'→k'<i + n→f k'=false)→(List.range' i n).find? f=none
 | 0,_,_=>rfl
 | n + 1,i,h=>by
  rw [List.range'_succ,List.find?_cons,h i (Nat.le_refl _) (by omega)]
  exact find_not f n (i + 1) (fun k' a b=>h k' (by omega) (by omega))
def ReadPost (s:ByteArray) (w:World) (e:Ending) (w':World):Prop :=
 Below w.heap.size w w'∧((∃ τ v f,G.D s.data.toList 65 0 s.size=some τ∧e=.returned (.tuple #[v,.int .i64 0])∧TreeAt w' f τ v) ∨
  (G.D s.data.toList 65 0 s.size=none∧e=.returned (.tuple #[.pointer none,.int .i64 (atOf s.data.toList:Nat)])))
set_option maxRecDepth 100000 in
set_option maxHeartbeats 1600000 in
theorem read_any (s:ByteArray) (w:World) (h0:s.size≤40):Calls Try.prog 84 #[.string s] w fun e w'=>ReadPost s w e w':=by
 have HL:Hid (s.data.toList.length=s.size):=size_len s
 go_enter Try.func84,Try.ntmps84
 go_wp2_with fail
 refine (newReader_any s _ h0).mono ?_
 rintro e w1 ⟨br,bt,rfl,hbr,hbt,hR,hB⟩
 go_wp2_with fail
 refine Calls.mono (of_any br bt (s.size + 1) s 0 _ (G.mu 65 0 s.size + 1) 65 0 s.size w1 (by omega) (Nat.le_refl _) (.inl (Nat.lt_succ_self _)) hR) ?_
 rintro e w2 ⟨v,rfl,hT,hR2,hK2⟩
 have hB2:Below w.heap.size w w2:=hB.trans (hK2.to_below (by simp; exact hbt) hB.size)
 rcases treeOpt_ptr hT with ⟨hD,rfl⟩ | ⟨τ,b,f,hD,rfl,hTA⟩
 ·have HD:Hid (G.D s.data.toList 65 0 s.size=none):=hD
  clear hD hT hR hB hK2
  go_wp2_with fail
  go_loopw [6] (fun kk wr=>∃ (k:Nat) (en:Int) (vo:Value),1≤k∧k≤s.size + 1∧kk=.int .i64 (k:Int)∧Rdr wr br bt (s.size + 1) s en vo∧Below w.heap.size w wr∧Hid (∀ k',1≤k'→k'<k→(!G.O s.data.toList k' 65 0)=false)) (fun kk _=>s.size + 1 - (intOf kk).toNat)
  case atStart=>exact ⟨1,_,_,by omega,by omega,rfl,hR2,hB2,fun k' a b=>by omega⟩
  case round =>
   clear hR2 hB2
   obtain ⟨k,en,vo,hk1,hks,rfl,hR,hB,HA⟩:=hrel
   by_cases hlt:k≤s.size
   ·have d3:=hR.c3
    have d4:=hR.c4
    have d1:=hR.c1
    have f3:=hR.blk.frozen 3
    have f4:=hR.blk.frozen 4
    have hbw:=hR.blk.lt
    have hm:=make_ints (9 * ((s.size:Int) + 1)) (9 * (s.size + 1)) (by omega) (by omega)
    have hR1:=(((hR.setEnd (k:Int)).setOpens (.slice (some ⟨wr.heap.size,0,none⟩) (9 * (s.size + 1)) (9 * (s.size + 1)))).alloc (.cells (zeroRow (.int .i64 0) (9 * (s.size + 1))) 3))
    have hB1:=((hB.setCell (p:=⟨br,3,none⟩) hbr (.int .i64 (k:Int))).setCell (p:=⟨br,4,none⟩) hbr (.slice (some ⟨wr.heap.size,0,none⟩) (9 * (s.size + 1)) (9 * (s.size + 1)))).alloc (by have:=hB.size; simp; omega) (.cells (zeroRow (.int .i64 0) (9 * (s.size + 1))) 3)
    have hO1:Opens ((((wr.setCell ⟨br,3,none⟩ (.int .i64 (k:Int))).setCell ⟨br,4,none⟩ (.slice (some ⟨wr.heap.size,0,none⟩) (9 * (s.size + 1)) (9 * (s.size + 1)))).alloc (.cells (zeroRow (.int .i64 0) (9 * (s.size + 1))) 3))) wr.heap.size (s.size + 1) (List.replicate (9 * (s.size + 1)) 0):=by
     refine ⟨?_,by simp,fun v hv=>by rw [List.eq_of_mem_replicate hv]; omega⟩
     have:=BlkT.new ((wr.setCell ⟨br,3,none⟩ (.int .i64 (k:Int))).setCell ⟨br,4,none⟩ (.slice (some ⟨wr.heap.size,0,none⟩) (9 * (s.size + 1)) (9 * (s.size + 1)))) (zeroRow (.int .i64 0) (9 * (s.size + 1))) 3
     rw [zeroRow_toList] at this
     have e1:((wr.setCell ⟨br,3,none⟩ (.int .i64 (k:Int))).setCell ⟨br,4,none⟩ (.slice (some ⟨wr.heap.size,0,none⟩) (9 * (s.size + 1)) (9 * (s.size + 1)))).heap.size=wr.heap.size:=by simp
     rw [e1] at this
     unfold ints
     rw [List.map_replicate]
     exact this
    obtain ⟨N9,HN9⟩:∃ N9,N9=9 * (s.size + 1):=⟨_,rfl⟩
    rw [← HN9] at hm hR1 hB1 hO1
    have HN:Hid (N9=9 * (s.size + 1)):=HN9
    have hN:N9≤369:=by omega
    clear HN9
    go_wp2_with fail
    clear d1 d3 d4 f3 f4 hm hR
    have hbo:w.heap.size≤wr.heap.size:=hB.size
    generalize wr.heap.size=bo at hO1 hR1 hB1 hbo ⊢
    generalize ((wr.setCell ⟨br,3,none⟩ (.int .i64 (k:Int))).setCell ⟨br,4,none⟩ (.slice (some ⟨bo,0,none⟩) N9 N9)).alloc (.cells (zeroRow (.int .i64 0) N9) 3)=w5 at hO1 hR1 hB1 ⊢
    rw [HN.out] at hO1 hR1
    have hRO:RdrO w5 br bt bo (s.size + 1) s k (List.replicate (9 * (s.size + 1)) 0):=⟨hR1,hO1,hlt⟩
    have HPR:Hid (OpPre s.data.toList k (s.size + 1) (G.nu k 65 0) (List.replicate (9 * (s.size + 1)) 0)):=by
     intro p i hp hi hm
     left
     rw [List.getD_eq_getElem?_getD,List.getElem?_replicate]
     split <;> rfl
    refine Calls.mono (opened_any br bt bo (s.size + 1) s k (G.nu k 65 0 + 1) 65 0 _ w5 (by omega) (.inl (Nat.lt_succ_self _)) hRO (fun _=>HPR.out)) ?_
    rintro e w6 ⟨os6,rfl,hR6,hP6,hK6⟩
    have hB6:Below w.heap.size w w6:=hB1.trans (hK6.to_below (by simp; exact ⟨hbt,hbo⟩) hB1.size)
    cases ho:G.O s.data.toList k 65 0 with
    | true =>
     have HA2:Hid (∀ k',1≤k'→k'<k + 1→(!G.O s.data.toList k' 65 0)=false):=by
      intro k' a b
      rcases Nat.lt_or_ge k' k with h1 | h1
      ·exact HA.out k' a h1
      ·have:k'=k:=by omega
       subst this; rw [ho]; rfl
     clear ho hRO hR1 hO1 hB1
     go_wp2
     go_roundw
     case rel=>exact ⟨k + 1,_,_,by omega,by omega,by go_num,hR6.rdr,hB6,HA2⟩
     case measure=>simp [intOf]; omega
    | false =>
     have HAT:Hid (atOf s.data.toList=k):=by
      show _=_
      unfold atOf
      rw [HL.out,find_first _ _ _ k HA.out hk1 (by omega) (by rw [ho]; rfl)]; rfl
     clear ho hRO hR1 hO1 hB1
     go_wp2
     go_ret2
     refine ⟨hB6,.inr ⟨HD.out,?_⟩⟩
     rw [HAT.out]
     rfl
   ·have HAT:Hid (atOf s.data.toList=s.size + 1):=by
       show _=_
       unfold atOf
       rw [HL.out,find_not _ _ _ (fun k' a b=>HA.out k' a (by omega))]; rfl
    go_wp2
    go_ret2
    refine ⟨hB,.inr ⟨HD.out,?_⟩⟩
    rw [HAT.out]
    rfl
 ·have HD:Hid (G.D s.data.toList 65 0 s.size=some τ):=hD
  have HTA:Hid (TreeAt w2 f τ (.pointer (some ⟨b,0,none⟩))):=hTA
  clear hD hT hTA
  go_wp2
  go_ret2
  exact ⟨hB2,.inl ⟨τ,_,f,HD.out,rfl,HTA.out⟩⟩
def InAt (w:World) (ins:List Bool) (v:Value):Prop:=(ins=[]∧v=.slice none 0 0)∨(ins.length=256∧∃ g,v=.slice (some ⟨g,0,none⟩) 256 256∧BlkT w g 4 (ins.map Value.bool))
def SubAt (P:G.Rx→Value→Prop) (o:Option G.Rx) (v:Value):Prop:=(o=none∧v=.pointer none)∨∃ r,o=some r∧P r v
def ReAt (w:World):Nat→G.Rx→Value→Prop
 | 0,_,_=>False
 | f + 1,r,v=>∃ b vin va vb,v=.pointer (some ⟨b,0,none⟩)∧BlkT w b 166 [.int .i64 (r.kind:Int),vin,va,vb,.int .i64 r.lo,.int .i64 r.hi,.int .i64 (r.id:Int)]∧InAt w r.ins vin∧SubAt (ReAt w f) r.subs[0]? va∧SubAt (ReAt w f) r.subs[1]? vb
theorem SubAt.mono {P Q:G.Rx→Value→Prop} {o:Option G.Rx} {v:Value} (h:SubAt P o v) (hpq:∀ r p,P r p→Q r p):SubAt Q o v:=by
 rcases h with h | ⟨r,e,h⟩
 ·exact .inl h
 ·exact .inr ⟨r,e,hpq _ _ h⟩
theorem ReAt.more (w:World):∀ (f:Nat) (r:G.Rx) (v:Value),ReAt w f r v→ReAt w (f + 1) r v
 | 0,_,_,h=>h.elim
 | f + 1,r,v,⟨b,vin,va,vb,h1,h2,h3,h4,h5⟩=>⟨b,vin,va,vb,h1,h2,h3,h4.mono (fun r p hp=>ReAt.more w f r p hp),h5.mono (fun r p hp=>ReAt.more w f r p hp)⟩
theorem ReAt.le (w:World) (f:Nat) (r:G.Rx) (v:Value) (h:ReAt w f r v):∀ d,ReAt w (f + d) r v
 | 0=>h
 | d + 1=>ReAt.more w (f + d) r v (ReAt.le w f r v h d)
def KeepRe (w w':World):Prop:=∀ (k:Nat) (c:Array Value) (T:TypeId),(T=166∨T=4)→w.heap[k]?=some (.cells c T (0,0))→w'.heap[k]?=some (.cells c T (0,0))
theorem InAt.keep {w w':World} (hk:KeepRe w w') {ins:List Bool} {v:Value} (h:InAt w ins v):InAt w' ins v:=by
 rcases h with h | ⟨h1,g,h2,h3⟩
 ·exact .inl h
 ·exact .inr ⟨h1,g,h2,hk _ _ _ (.inr rfl) h3⟩
theorem ReAt.keep {w w':World} (hk:KeepRe w w'):∀ (f:Nat) (r:G.Rx) (v:Value),ReAt w f r v→ReAt w' f r v
 | 0,_,_,h=>h.elim
 | f + 1,r,v,⟨b,vin,va,vb,h1,h2,h3,h4,h5⟩=>⟨b,vin,va,vb,h1,hk _ _ _ (.inl rfl) h2,h3.keep hk,h4.mono (fun r p hp=>ReAt.keep hk f r p hp),h5.mono (fun r p hp=>ReAt.keep hk f r p hp)⟩
theorem Keep.re {S:List Nat} {w w':World} (h:Keep S w w') (hS:∀ k,k ∈ S→∀ c T,w.heap[k]?=some (.cells c T (0,0))→T ≠ 166∧T ≠ 4):KeepRe w w':=by
 intro k c T hT hc
 have hlt:k<w.heap.size:=(Array.getElem?_eq_some_iff.1 hc).1
 rw [h.block k hlt (fun hm=>by have:=hS k hm c T hc; rcases hT with e | e; exact this.1 e; exact this.2 e)]
 exact hc
def MkAt (w:World) (bm:Nat) (st:G.Mk):Prop:=BlkT w bm 143 [.int .i64 (st.n:Int),.bool st.back,.int .i64 (st.depth:Int)]
theorem MkAt.typ {w:World} {bm:Nat} {st:G.Mk} (h:MkAt w bm st):∀ k,k ∈ [bm]→∀ c T,w.heap[k]?=some (.cells c T (0,0))→T=143:=by
 intro k hk c T hc
 rw [List.mem_singleton] at hk
 subst hk
 unfold MkAt BlkT at h
 rw [h] at hc
 cases hc
 rfl
theorem Keep.treesM {w w':World} {bm:Nat} {st:G.Mk} (h:MkAt w bm st) (k:Keep [bm] w w'):KeepTrees w w':=k.trees (fun i hi c T hc=>by rw [h.typ i hi c T hc]; exact ⟨by decide,by decide⟩)
theorem Keep.reM {w w':World} {bm:Nat} {st:G.Mk} (h:MkAt w bm st) (k:Keep [bm] w w'):KeepRe w w':=k.re (fun i hi c T hc=>by rw [h.typ i hi c T hc]; exact ⟨by decide,by decide⟩)
set_option maxRecDepth 10000 in
set_option maxHeartbeats 800000 in
theorem make1_any (bm:Nat) (st:G.Mk) (kind:Nat) (pa pb:Option Addr) (w:World) (hM:MkAt w bm st) (hn:st.n≤1000000) (hk:kind≤100) :
    Calls Try.prog 98 #[.pointer (some ⟨bm,0,none⟩),.int .i64 (kind:Int),.pointer pa,.pointer pb] w fun e w'=>∃ b,e=.returned (.pointer (some ⟨b,0,none⟩))∧w.heap.size≤b ∧
     BlkT w' b 166 [.int .i64 (kind:Int),.slice none 0 0,.pointer pa,.pointer pb,.int .i64 0,.int .i64 0,.int .i64 (st.n:Int)]∧MkAt w' bm { st with n:=st.n + 1 }∧Keep [bm] w w':=by
 have c0:=hM.cell 0
 have f0:=hM.frozen 0
 have hlt:=hM.lt
 simp only [List.getElem?_cons_zero] at c0
 go_enter Try.func98,Try.ntmps98
 go_wp2
 go_ret
 refine ⟨w.heap.size,rfl,Nat.le_refl _,?_,?_,?_⟩
 ·have:=BlkT.new (w.setCell ⟨bm,0,none⟩ (.int .i64 ((st.n:Int) + 1))) #[.int .i64 (kind:Int),.slice none 0 0,.pointer pa,.pointer pb,.int .i64 0,.int .i64 0,.int .i64 (st.n:Int)] 166
  have e1:(w.setCell ⟨bm,0,none⟩ (.int .i64 ((st.n:Int) + 1))).heap.size=w.heap.size:=by simp
  rw [e1] at this
  exact this
 ·exact BlkT.alloc (BlkT.set hM 0 (.int .i64 ((st.n:Int) + 1))) _
 ·exact ((Keep.refl [bm] w).setCell (by simp) _).alloc _
theorem TreeAt.opens {w:World} {f:Nat} {τ:G.Tr} {v:Value} (h:TreeAt w (f + 1) τ v):∃ b kv,v=.pointer (some ⟨b,0,none⟩)∧w.cell? ⟨b,0,none⟩=some (.int .u8 (τ.sym.toNat:Int))∧w.cell? ⟨b,1,none⟩=some (.int .i64 (τ.alt:Int))∧w.cell? ⟨b,2,none⟩=some kv∧w.cell? ⟨b,3,none⟩=some (.int .u8 (τ.c.toNat:Int))∧KidsAt (TreeAt w f) w τ.kids kv:=by
 obtain ⟨b,kv,h1,h2,h3⟩:=h
 exact ⟨b,kv,h1,h2.cell 0,h2.cell 1,h2.cell 2,h2.cell 3,h3⟩
theorem KidsAt.row {w:World} {f:Nat} {ks:List G.Tr} {v:Value} (h:KidsAt (TreeAt w f) w ks v) (hne:ks ≠ []):∃ g cap,v=.slice (some ⟨g,0,none⟩) ks.length cap∧∀ k,k<ks.length→∃ p,w.cell? ⟨g,k,none⟩=some p∧TreeAt w f ((ks[k]?).getD G.nilTr) p:=by
 rcases h with ⟨e,_⟩ | ⟨g,cap,ptrs,h1,h2,h3⟩
 ·exact absurd e hne
 ·refine ⟨g,cap,h1,fun k hk=>?_⟩
  have hl:ptrs.length=ks.length * 1:=h2.length
  have hk2:k<ptrs.length:=by omega
  refine ⟨ptrs[k],?_,?_⟩
  ·rw [h2.cell? k hk2,List.getElem?_eq_getElem hk2]
  ·rw [List.getElem?_eq_getElem hk]
   exact h3 k _ _ (List.getElem?_eq_getElem hk) (List.getElem?_eq_getElem hk2)
theorem TreeAt.ptr {w:World} {f:Nat} {τ:G.Tr} {v:Value} (h:TreeAt w f τ v):∃ b,v=.pointer (some ⟨b,0,none⟩)∧w.cell? ⟨b,3,none⟩=some (.int .u8 (τ.c.toNat:Int)):=by
 cases f with
 | zero=>exact h.elim
 | succ f=>obtain ⟨b,kv,h1,_,_,_,h2,_⟩:=h.opens; exact ⟨b,h1,h2⟩
set_option maxRecDepth 10000 in
set_option maxHeartbeats 800000 in
theorem rmember_any (f:Nat) (τ:G.Tr) (v:Value) (w:World) (hT:TreeAt w (f + 1) τ v) (hne:τ.kids ≠ []) (hl:τ.kids.length≤10) :
    Calls Try.prog 122 #[v] w fun e w'=>e=.returned (.int .i64 (G.memberC τ:Nat))∧∃ q,w'=w.drewN q:=by
 obtain ⟨b,kv,rfl,_,_,c2,_,hK⟩:=hT.opens
 obtain ⟨g,cap,rfl,hr⟩:=hK.row hne
 have hp:0<τ.kids.length:=List.length_pos_iff.2 hne
 obtain ⟨p,d1,d2⟩:=hr (τ.kids.length - 1) (by omega)
 obtain ⟨bk,rfl,d3⟩:=d2.ptr
 have hm:G.memberC τ=((τ.kids[τ.kids.length - 1]?).getD G.nilTr).c.toNat:=rfl
 rw [← hm] at d3
 have hb:G.memberC τ≤255:=by rw [hm]; have:=((τ.kids[τ.kids.length - 1]?).getD G.nilTr).c.toNat_lt; omega
 clear hm d2 hr
 generalize G.memberC τ=m at d3 hb ⊢
 obtain ⟨n,hn⟩:∃ n,τ.kids.length=n + 1:=⟨τ.kids.length - 1,by omega⟩
 rw [hn] at d1 c2 hl
 have d1':w.cell? ⟨g,n,none⟩=some (.pointer (some ⟨bk,0,none⟩)):=d1
 have hni:(n:Int)<(n:Int) + 1:=by omega
 clear d1 hn hp
 go_enter Try.func122,Try.ntmps122
 go_wp2
 go_quiet (fail)
 go_wp2
 go_ret
 exact ⟨rfl,_,rfl⟩
def numTo (ks:List G.Tr) (k:Nat):Int:=(ks.take k).foldl (fun n k=>10 * n + (k.c.toNat:Int) - 48) 0
theorem numTo_succ (ks:List G.Tr) (k:Nat) (h:k<ks.length):numTo ks (k + 1)=10 * numTo ks k + ((ks[k]?.getD G.nilTr).c.toNat:Int) - 48:=by
 unfold numTo
 rw [List.take_succ_eq_append_getElem h,List.foldl_append,List.getElem?_eq_getElem h]
 rfl
theorem numTo_bd (ks:List G.Tr) (hd:∀ t,t ∈ ks→48≤t.c.toNat∧t.c.toNat≤57) (hl:ks.length≤2):∀ k,k≤ks.length→0≤numTo ks k∧numTo ks k≤99:=by
 have h1:∀ k (h:k<ks.length),48≤(ks[k]?.getD G.nilTr).c.toNat∧(ks[k]?.getD G.nilTr).c.toNat≤57:=fun k h=>by rw [List.getElem?_eq_getElem h]; exact hd _ (List.getElem_mem h)
 have h0:numTo ks 0=0:=rfl
 intro k hk
 match k,hk with
 | 0,_=>omega
 | 1,hk =>
  have e1:numTo ks 1=10 * numTo ks 0 + ((ks[0]?.getD G.nilTr).c.toNat:Int) - 48:=numTo_succ ks 0 (by omega)
  have:=h1 0 (by omega)
  omega
 | 2,hk =>
  have e1:numTo ks 1=10 * numTo ks 0 + ((ks[0]?.getD G.nilTr).c.toNat:Int) - 48:=numTo_succ ks 0 (by omega)
  have e2:numTo ks 2=10 * numTo ks 1 + ((ks[1]?.getD G.nilTr).c.toNat:Int) - 48:=numTo_succ ks 1 (by omega)
  have:=h1 0 (by omega)
  have:=h1 1 (by omega)
  omega
 | k + 3,hk=>omega
set_option maxRecDepth 10000 in
set_option maxHeartbeats 800000 in
theorem rnumber_any (f:Nat) (τ:G.Tr) (v:Value) (w:World) (hT:TreeAt w (f + 1) τ v) (hne:τ.kids ≠ []) (hl:τ.kids.length≤2) (hd:∀ t,t ∈ τ.kids→48≤t.c.toNat∧t.c.toNat≤57) :
    Calls Try.prog 114 #[v] w fun e w'=>e=.returned (.int .i64 (G.numberF τ))∧∃ q,w'=w.drewN q:=by
 obtain ⟨b,kv,rfl,_,_,c2,_,hK⟩:=hT.opens
 obtain ⟨g,cap,rfl,hr⟩:=hK.row hne
 have hm:G.numberF τ=numTo τ.kids τ.kids.length:=by unfold numTo G.numberF; rw [List.take_length]
 have HR:Hid (∀ k,k<τ.kids.length→∃ bk,w.cell? ⟨g,k,none⟩=some (.pointer (some ⟨bk,0,none⟩))∧w.cell? ⟨bk,3,none⟩=some (.int .u8 (((τ.kids[k]?).getD G.nilTr).c.toNat:Int))):=by
  intro k hk
  obtain ⟨p,d1,d2⟩:=hr k hk
  obtain ⟨bk,rfl,d3⟩:=d2.ptr
  exact ⟨bk,d1,d3⟩
 have HBD:Hid _:=numTo_bd τ.kids hd hl
 have HSC:Hid _:=numTo_succ τ.kids
 rw [hm]
 clear hm hr hT hK hne hd
 generalize τ.kids=ks at c2 HR HBD HSC hl ⊢
 go_enter Try.func114,Try.ntmps114
 go_wp2
 go_loopw [3,4] (fun nv kk wr=>∃ k q:Nat,k≤ks.length∧kk=.int .i64 (k:Int)∧nv=.int .i64 (numTo ks k)∧wr=w.drewN q) (fun _ kk _=>ks.length - (intOf kk).toNat)
 case atStart=>exact ⟨0,0,by omega,rfl,rfl,rfl⟩
 case round =>
  obtain ⟨k,q,hk,rfl,rfl,rfl⟩:=hrel
  have c2':(w.drewN q).cell? ⟨b,2,none⟩=some (.slice (some ⟨g,0,none⟩) ks.length cap):=c2
  obtain ⟨n0,n1⟩:=HBD.out k hk
  by_cases hlt:k<ks.length
  ·obtain ⟨bk,e1,e2⟩:=HR.out k hlt
   have e1':(w.drewN q).cell? ⟨g,k,none⟩=some (.pointer (some ⟨bk,0,none⟩)):=e1
   have e2':(w.drewN q).cell? ⟨bk,3,none⟩=some (.int .u8 (((ks[k]?).getD G.nilTr).c.toNat:Int)):=e2
   have HS:Hid _:=HSC.out k hlt
   have hb:=((ks[k]?).getD G.nilTr).c.toNat_lt
   have hki:(k:Int)<(ks.length:Int):=by omega
   clear e1 e2
   generalize ((ks[k]?).getD G.nilTr).c.toNat=m at e2' HS hb
   generalize numTo ks k=nk at HS n0 n1 ⊢
   go_wp2
   go_roundw
   case rel=>exact ⟨k + 1,q,by omega,by go_num,by rw [HS.out],rfl⟩
   case measure=>simp [intOf]; omega
  ·have hk2:k=ks.length:=by omega
   subst hk2
   go_wp2
   go_ret
   exact ⟨rfl,q,rfl⟩
def setUpTo (ins:List Bool) (a c:Nat):List Bool:=(List.range 256).map fun x=>ins.getD x false || (decide (a≤x) && decide (x<c))
theorem setUpTo_len (ins:List Bool) (a c:Nat):(setUpTo ins a c).length=256:=by simp [setUpTo]
theorem setUpTo_start (ins:List Bool) (a:Nat) (h:ins.length=256):setUpTo ins a a=ins:=by
 apply List.ext_getElem
 ·rw [setUpTo_len,h]
 ·intro i h1 h2
  have e:(decide (a≤i) && decide (i<a))=false:=by
   rw [Bool.and_eq_false_iff,decide_eq_false_iff_not,decide_eq_false_iff_not]; omega
  simp only [setUpTo,List.getElem_map,List.getElem_range,e,Bool.or_false]
  rw [List.getD_eq_getElem?_getD,List.getElem?_eq_getElem h2]; rfl
theorem setUpTo_step (ins:List Bool) (a c:Nat) (hac:a≤c):(setUpTo ins a c).set c true=setUpTo ins a (c + 1):=by
 apply List.ext_getElem
 ·simp [setUpTo]
 ·intro i h1 h2
  rw [List.getElem_set]
  by_cases e:c=i
  ·subst e
   have e2:(decide (a≤c) && decide (c<c + 1))=true:=by rw [Bool.and_eq_true,decide_eq_true_eq,decide_eq_true_eq]; omega
   simp only [setUpTo,List.getElem_map,List.getElem_range,e2,Bool.or_true,if_true]
  ·rw [if_neg e]
   have e2:decide (i<c)=decide (i<c + 1):=by rw [decide_eq_decide]; omega
   simp only [setUpTo,List.getElem_map,List.getElem_range,e2]
theorem setUpTo_end (ins:List Bool) (a b:Nat):setUpTo ins a (b + 1)=G.setRange ins a b:=by
 unfold setUpTo G.setRange
 refine List.map_congr_left (fun x _=>?_)
 have:decide (x<b + 1)=decide (x≤b):=by rw [decide_eq_decide]; omega
 rw [this]
theorem setUpTo_none (ins:List Bool) (a b:Nat) (h:ins.length=256) (hab:b<a):ins=G.setRange ins a b:=by
 apply List.ext_getElem
 ·rw [G.setRange_len,h]
 ·intro i h1 h2
  have e:(decide (a≤i) && decide (i≤b))=false:=by
   rw [Bool.and_eq_false_iff,decide_eq_false_iff_not,decide_eq_false_iff_not]; omega
  simp only [G.setRange,List.getElem_map,List.getElem_range,e,Bool.or_false]
  rw [List.getD_eq_getElem?_getD,List.getElem?_eq_getElem h1]; rfl
theorem bools_set (ins:List Bool) (i:Nat) (b:Bool):(ins.map Value.bool).set i (.bool b)=(ins.set i b).map Value.bool:=by simp [List.map_set]
structure InBlk (w:World) (br g:Nat) (ins:List Bool):Prop where
 cell:w.cell? ⟨br,1,none⟩=some (.slice (some ⟨g,0,none⟩) 256 256)
 blk:BlkT w g 4 (ins.map Value.bool)
 len:ins.length=256
 ty:∃ vs,BlkT w br 166 vs
theorem InBlk.at {w:World} {br g:Nat} {ins:List Bool} (h:InBlk w br g ins) (c:Nat) (hc:c<256):w.cell? ⟨g,c,none⟩=some (.bool (ins.getD c false))∧w.frozen? ⟨g,c,none⟩=false:=by
 refine ⟨?_,h.blk.frozen c⟩
 have hl:c<ins.length:=by rw [h.len]; exact hc
 rw [h.blk.cell c,List.getElem?_map,List.getElem?_eq_getElem hl,List.getD_eq_getElem?_getD,List.getElem?_eq_getElem hl]; rfl
theorem InBlk.ne {w:World} {br g:Nat} {ins:List Bool} (h:InBlk w br g ins):g ≠ br:=by
 obtain ⟨vs,hv⟩:=h.ty
 exact h.blk.ne hv (by decide)
theorem InBlk.set {w:World} {br g:Nat} {ins:List Bool} (h:InBlk w br g ins) (c:Nat) (b:Bool):InBlk (w.setCell ⟨g,c,none⟩ (.bool b)) br g (ins.set c b):=by
 have hne:=h.ne
 obtain ⟨vs,hv⟩:=h.ty
 refine ⟨?_,?_,by simpa using h.len,vs,hv.other (by simp; exact hne) _⟩
 ·rw [World.cell?_setCell_other _ _ _ _ (fun e=>hne (by cases e; rfl))]; exact h.cell
 ·have:=h.blk.set c (.bool b)
  rw [bools_set] at this
  exact this
theorem InBlk.keep {S:List Nat} {w w':World} {br g:Nat} {ins:List Bool} (h:InBlk w br g ins) (k:Keep S w w') (h1:br ∉ S) (h2:g ∉ S):InBlk w' br g ins:=by
 obtain ⟨vs,hv⟩:=h.ty
 have hv':=hv.keep k h1
 refine ⟨?_,h.blk.keep k h2,h.len,vs,hv'⟩
 rw [hv'.cell,← hv.cell]; exact h.cell
theorem kids_len {τ:G.Tr} {l:List UInt8} (h:τ.kids.map (·.sym)=l):τ.kids.length=l.length:=by rw [← h,List.length_map]
theorem kid_sym {τ:G.Tr} {l:List UInt8} (h:τ.kids.map (·.sym)=l) (k:Nat) (hk:k<l.length):G.kid τ k ∈ τ.kids∧(G.kid τ k).sym=l.getD k 0:=by
 have hl:=kids_len h
 have hk2:k<τ.kids.length:=by omega
 unfold G.kid
 rw [List.getElem?_eq_getElem hk2]
 refine ⟨List.getElem_mem hk2,?_⟩
 subst h
 rw [List.getD_eq_getElem?_getD,List.getElem?_map,List.getElem?_eq_getElem hk2]; rfl
theorem Wf.nt {f:Nat} {τ:G.Tr} (h:G.Wf (f + 1) τ) (hn:G.isNt τ.sym=true):∃ l,(G.alts τ.sym)[τ.alt]?=some l∧τ.kids.map (·.sym)=l∧∀ k,k ∈ τ.kids→G.Wf f k:=by
 rcases h with h | ⟨_,l,h2,h3,h4⟩
 ·rw [hn] at h; cases h.1
 ·exact ⟨l,h2,h3,h4⟩
theorem two_alts {x y l:List UInt8} {a:Nat} (h:([x,y]:List (List UInt8))[a]?=some l):(a=0∧l=x)∨(a=1∧l=y):=by
 match a,h with
 | 0,h=>exact .inl ⟨rfl,(Option.some.inj h).symm⟩
 | 1,h=>exact .inr ⟨rfl,(Option.some.inj h).symm⟩
 | n + 2,h=>simp at h
theorem Wf.B {f:Nat} {τ:G.Tr} (h:G.Wf f τ) (hs:τ.sym=66):τ.kids ≠ []∧τ.kids.length≤2:=by
 cases f with
 | zero=>exact h.elim
 | succ f =>
  obtain ⟨l,h2,h3,_⟩:=Wf.nt h (by rw [hs]; rfl)
  rw [hs] at h2
  have hl:=kids_len h3
  rcases two_alts (x:=[109]) (y:=[92,120]) h2 with ⟨_,rfl⟩ | ⟨_,rfl⟩
  ·exact ⟨(fun e=>by rw [e] at hl; cases hl),by rw [hl]; decide⟩
  ·exact ⟨(fun e=>by rw [e] at hl; cases hl),by rw [hl]; decide⟩
theorem Wf.M {f:Nat} {τ:G.Tr} (h:G.Wf (f + 1) τ) (hs:τ.sym=77):(τ.kids.length=1∧(G.kid τ 0).sym=66∧G.Wf f (G.kid τ 0))∨(τ.kids.length=3∧(G.kid τ 0).sym=66∧G.Wf f (G.kid τ 0)∧(G.kid τ 2).sym=66∧G.Wf f (G.kid τ 2)):=by
 obtain ⟨l,h2,h3,h4⟩:=Wf.nt h (by rw [hs]; rfl)
 rw [hs] at h2
 have hl:=kids_len h3
 rcases two_alts (x:=[66]) (y:=[66,45,66]) h2 with ⟨_,rfl⟩ | ⟨_,rfl⟩
 ·obtain ⟨m,e⟩:=kid_sym h3 0 (by decide)
  exact .inl ⟨hl,e,h4 _ m⟩
 ·obtain ⟨m,e⟩:=kid_sym h3 0 (by decide)
  obtain ⟨m2,e2⟩:=kid_sym h3 2 (by decide)
  exact .inr ⟨hl,e,h4 _ m,e2,h4 _ m2⟩
theorem Wf.I {f:Nat} {τ:G.Tr} (h:G.Wf (f + 1) τ) (hs:τ.sym=73):(G.kid τ 0).sym=77∧G.Wf f (G.kid τ 0)∧((τ.alt=0∧τ.kids.length=1)∨(τ.alt=1∧τ.kids.length=2∧(G.kid τ 1).sym=73∧G.Wf f (G.kid τ 1))):=by
 obtain ⟨l,h2,h3,h4⟩:=Wf.nt h (by rw [hs]; rfl)
 rw [hs] at h2
 have hl:=kids_len h3
 have:=two_alts (x:=[77]) (y:=[77,73]) h2
 rcases this with ⟨ha,rfl⟩ | ⟨ha,rfl⟩
 ·obtain ⟨m,e⟩:=kid_sym h3 0 (by decide)
  exact ⟨e,h4 _ m,.inl ⟨ha,hl⟩⟩
 ·obtain ⟨m,e⟩:=kid_sym h3 0 (by decide)
  obtain ⟨m2,e2⟩:=kid_sym h3 1 (by decide)
  exact ⟨e,h4 _ m,.inr ⟨ha,hl,e2,h4 _ m2⟩⟩
theorem infoBool:∃ i:TypeInfo,Try.prog.info? 4=some i∧i.zero=some (.bool false)∧i.size=1∧i.bytes=1:=info_of (by kernel_rfl)
theorem xmake_bools (l:Int) (n:Nat) (hl:l=n) (hn:n≤1000000000) (w:World) :
    Sem.run Try.prog (Instr.makeSlice 100 (.int .i64 l) (.int .i64 l)) w=.ok (.slice (some ⟨w.heap.size,0,none⟩) n n) (w.alloc (.cells (zeroRow (.bool false) n) 4)):=by
 obtain ⟨i,h1,h2,h3,h4⟩:=infoBool
 exact run_make_row 100 4 i (.bool false) Try.underlying100 h1 h2 h3 rfl (by omega) l n hl hn w
structure Bools (w:World) (g:Nat) (A:List Bool):Prop where
 blk:BlkT w g 4 (A.map Value.bool)
theorem Bools.at {w:World} {g:Nat} {A:List Bool} (h:Bools w g A) (c:Nat) (hc:c<A.length):w.cell? ⟨g,c,none⟩=some (.bool (A.getD c false))∧w.frozen? ⟨g,c,none⟩=false:=by
 refine ⟨?_,h.blk.frozen c⟩
 rw [h.blk.cell c,List.getElem?_map,List.getElem?_eq_getElem hc,List.getD_eq_getElem?_getD,List.getElem?_eq_getElem hc]; rfl
theorem Bools.set {w:World} {g:Nat} {A:List Bool} (h:Bools w g A) (c:Nat) (b:Bool):Bools (w.setCell ⟨g,c,none⟩ (.bool b)) g (A.set c b):=by
 refine ⟨?_⟩
 have:=h.blk.set c (.bool b)
 rw [bools_set] at this
 exact this
theorem Bools.keep {S:List Nat} {w w':World} {g:Nat} {A:List Bool} (h:Bools w g A) (k:Keep S w w') (hg:g ∉ S):Bools w' g A:=⟨h.blk.keep k hg⟩
set_option maxRecDepth 100000 in
set_option maxHeartbeats 800000 in
theorem blank_any (bm n:Nat) (t:ByteArray) (ve vt:Value) (w:World) (hM:BlkT w bm 169 [.string t,ve,vt]) (ht:t.size≤1000) :
    Calls Try.prog 102 #[.pointer (some ⟨bm,0,none⟩)] w fun e w'=>e=.returned (.slice (some ⟨w.heap.size,0,none⟩) (t.size + 1) (t.size + 1))∧Bools w' w.heap.size (List.replicate (t.size + 1) false)∧Keep [] w w':=by
 have c0:w.cell? ⟨bm,0,none⟩=some (.string t):=hM.cell 0
 have hm:=xmake_bools ((t.size:Int) + 1) (t.size + 1) (by omega) (by omega)
 go_enter Try.func102,Try.ntmps102
 go_wp2
 go_ret
 refine ⟨rfl,⟨?_⟩,(Keep.refl _ _).alloc _⟩
 have:=BlkT.new w (zeroRow (.bool false) (t.size + 1)) 4
 have e2:(zeroRow (.bool false) (t.size + 1)).toList=(List.replicate (t.size + 1) false).map Value.bool:=by simp [zeroRow]
 rw [e2] at this
 exact this
def orTo (A B:List Bool) (c:Nat):List Bool:=(List.range A.length).map fun x=>if x<c then A.getD x false || B.getD x false else A.getD x false
theorem orTo_len (A B:List Bool) (c:Nat):(orTo A B c).length=A.length:=by simp [orTo]
theorem orTo_zero (A B:List Bool):orTo A B 0=A:=by
 apply List.ext_getElem
 ·simp [orTo]
 ·intro i h1 h2
  simp [orTo,List.getElem?_eq_getElem h2]
theorem orTo_at (A B:List Bool) (c:Nat) (hc:c<A.length):(orTo A B c).getD c false=A.getD c false:=by
 unfold orTo
 rw [List.getD_eq_getElem?_getD,List.getElem?_map,List.getElem?_range hc]
 simp
theorem orTo_step (A B:List Bool) (c:Nat) (hc:c<A.length):(orTo A B c).set c (A.getD c false || B.getD c false)=orTo A B (c + 1):=by
 apply List.ext_getElem
 ·simp [orTo]
 ·intro i h1 h2
  simp only [orTo,List.getElem_set,List.getElem_map,List.getElem_range]
  by_cases e:c=i
  ·subst e
   rw [if_pos rfl,if_pos (by omega)]
  ·rw [if_neg e]
   by_cases hlt:i<c
   ·rw [if_pos hlt,if_pos (by omega)]
   ·rw [if_neg hlt,if_neg (by omega)]
set_option maxRecDepth 100000 in
set_option maxHeartbeats 1600000 in
theorem join_any (ga gb n ca cb:Nat) (A B:List Bool) (w:World) (hA:Bools w ga A) (hB:Bools w gb B) (hne:ga ≠ gb) (hlA:A.length=n) (hlB:B.length=n) (hn:n≤1001) :
    Calls Try.prog 103 #[.slice (some ⟨ga,0,none⟩) n ca,.slice (some ⟨gb,0,none⟩) n cb] w fun e w'=>e=.returned (.tuple #[])∧Bools w' ga (orTo A B n)∧Keep [ga] w w':=by
 have HB:Hid (Bools w gb B):=hB
 have hA0:Bools w ga (orTo A B 0):=by rw [orTo_zero]; exact hA
 go_enter Try.func103,Try.ntmps103
 go_wp2_with fail
 go_loopw [4] (fun cv wX=>∃ c:Nat,c≤n∧cv=.int .i64 (c:Int)∧Bools wX ga (orTo A B c)∧Keep [ga] w wX) (fun cv _=>n - (intOf cv).toNat)
 case atStart=>exact ⟨0,by omega,rfl,hA0,Keep.refl _ _⟩
 case round =>
  obtain ⟨c,hc,rfl,hIn,hKn⟩:=hrel
  by_cases hcB:c<n
  ·obtain ⟨i1,i2⟩:=hIn.at c (by rw [orTo_len]; omega)
   rw [orTo_at _ _ _ (by omega)] at i1
   obtain ⟨j1,_⟩:=(HB.out.keep hKn (by simp; exact fun e=>hne e.symm)).at c (by omega)
   have HST:Hid ((orTo A B c).set c (A.getD c false || B.getD c false)=orTo A B (c + 1)):=orTo_step _ _ _ (by omega)
   have hcn:(c:Int)<(n:Int):=by omega
   generalize A.getD c false=x at i1 HST
   generalize B.getD c false=y at j1 HST
   clear hA hA0 hB hlA hlB
   cases x with
   | true =>
    go_wp2
    go_roundw
    case rel =>
     refine ⟨c + 1,by omega,by go_num,?_,hKn.setCell (by simp) _⟩
     rw [← HST.out]
     exact hIn.set _ _
    case measure=>simp [intOf]; omega
   | false =>
    cases y with
    | true =>
     go_wp2
     go_roundw
     case rel =>
      refine ⟨c + 1,by omega,by go_num,?_,hKn.setCell (by simp) _⟩
      rw [← HST.out]
      exact hIn.set _ _
     case measure=>simp [intOf]; omega
    | false =>
     go_wp2
     go_roundw
     case rel =>
      refine ⟨c + 1,by omega,by go_num,?_,hKn.setCell (by simp) _⟩
      rw [← HST.out]
      exact hIn.set _ _
     case measure=>simp [intOf]; omega
  ·obtain rfl:c=n:=by omega
   clear hA hA0 hB hlA hlB
   go_wp2
   go_end0
   exact ⟨rfl,hIn,hKn⟩
theorem info_row1:∃ i:TypeInfo,Try.prog.info? 100=some i∧i.zero=some (.slice none 0 0)∧i.size=1∧i.bytes=24:=info_of (by kernel_rfl)
theorem info_row2:∃ i:TypeInfo,Try.prog.info? 170=some i∧i.zero=some (.slice none 0 0)∧i.size=1∧i.bytes=24:=info_of (by kernel_rfl)
theorem make_rows1 (l:Int) (n:Nat) (hl:l=n) (hn:n≤1000000000) (w:World) :
    Sem.run Try.prog (Instr.makeSlice 170 (.int .i64 l) (.int .i64 l)) w=.ok (.slice (some ⟨w.heap.size,0,none⟩) n n) (w.alloc (.cells (zeroRow (.slice none 0 0) n) 100)):=by
 obtain ⟨i,h1,h2,h3,h4⟩:=info_row1
 exact run_make_row 170 100 i (.slice none 0 0) Try.underlying170 h1 h2 h3 rfl (by omega) l n hl hn w
theorem make_rows2 (l:Int) (n:Nat) (hl:l=n) (hn:n≤1000000000) (w:World) :
    Sem.run Try.prog (Instr.makeSlice 167 (.int .i64 l) (.int .i64 l)) w=.ok (.slice (some ⟨w.heap.size,0,none⟩) n n) (w.alloc (.cells (zeroRow (.slice none 0 0) n) 170)):=by
 obtain ⟨i,h1,h2,h3,h4⟩:=info_row2
 exact run_make_row 167 170 i (.slice none 0 0) Try.underlying167 h1 h2 h3 rfl (by omega) l n hl hn w
def mRows (N L s0 d i:Nat):List Value:=(List.range N).map fun k=>if k<i then Value.slice (some ⟨s0 + 2 * k + d,0,none⟩) L L else .slice none 0 0
theorem mRows_zero (N L s0 d:Nat):mRows N L s0 d 0=(zeroRow (.slice none 0 0) N).toList:=by
 apply List.ext_getElem
 ·simp [mRows,zeroRow]
 ·intro i h1 h2
  simp [mRows,zeroRow]
theorem mRows_step (N L s0 d i:Nat) (hi:i<N):(mRows N L s0 d i).set i (.slice (some ⟨s0 + 2 * i + d,0,none⟩) L L)=mRows N L s0 d (i + 1):=by
 apply List.ext_getElem
 ·simp [mRows]
 ·intro k h1 h2
  have hk:k<N:=by simpa [mRows] using h2
  rw [List.getElem_set]
  by_cases e:i=k
  ·subst e; simp [mRows]
  ·rw [if_neg e]
   simp only [mRows,List.getElem_map,List.getElem_range]
   by_cases h:k<i
   ·rw [if_pos h,if_pos (by omega)]
   ·rw [if_neg h,if_neg (by omega)]
structure NewM (w:World) (bp B N L s0 be bt bm i:Nat) (vp:List Value) (t:ByteArray) (w0:World):Prop where
 size:w.heap.size=s0 + 2 * i
 ends:BlkT w be 170 (mRows N L s0 0 i)
 tail:BlkT w bt 170 (mRows N L s0 1 i)
 mat:BlkT w bm 169 [.string t,.slice (some ⟨be,0,none⟩) N N,.slice (some ⟨bt,0,none⟩) N N]
 pat:BlkT w bp 147 vp
 rows:∀ k,k<2 * i→BlkT w (s0 + k) 100 (zeroRow (.slice none 0 0) L).toList
 below:Below B w0 w
theorem newM_zero (w:World) (bp N:Nat) (t:ByteArray) (vr:Value) (be bt:Nat) (hb:be=w.heap.size∧bt=w.heap.size + 1∨bt=w.heap.size∧be=w.heap.size + 1) (hP:BlkT w bp 147 [vr,.int .i64 (N:Int)]) :
    NewM ((((w.alloc (.cells (zeroRow (.slice none 0 0) N) 170)).alloc (.cells (zeroRow (.slice none 0 0) N) 170)).alloc (.cells #[.string t,.slice (some ⟨be,0,none⟩) N N,.slice (some ⟨bt,0,none⟩) N N] 169)).drew) bp w.heap.size N (t.size + 1) (w.heap.size + 3) be bt (w.heap.size + 1 + 1) 0 [vr,.int .i64 (N:Int)] t w:=by
 have e0:BlkT (w.alloc (.cells (zeroRow (.slice none 0 0) N) 170)) w.heap.size 170 (zeroRow (.slice none 0 0) N).toList:=BlkT.new w _ _
 have z1:(w.alloc (.cells (zeroRow (.slice none 0 0) N) 170)).heap.size=w.heap.size + 1:=by simp
 have e1:BlkT ((w.alloc (.cells (zeroRow (.slice none 0 0) N) 170)).alloc (.cells (zeroRow (.slice none 0 0) N) 170)) (w.heap.size + 1) 170 (zeroRow (.slice none 0 0) N).toList:=by
  have:=BlkT.new (w.alloc (.cells (zeroRow (.slice none 0 0) N) 170)) (zeroRow (.slice none 0 0) N) 170
  rwa [z1] at this
 have z2:((w.alloc (.cells (zeroRow (.slice none 0 0) N) 170)).alloc (.cells (zeroRow (.slice none 0 0) N) 170)).heap.size=w.heap.size + 1 + 1:=by simp
 have e2:=BlkT.new ((w.alloc (.cells (zeroRow (.slice none 0 0) N) 170)).alloc (.cells (zeroRow (.slice none 0 0) N) 170)) #[.string t,.slice (some ⟨be,0,none⟩) N N,.slice (some ⟨bt,0,none⟩) N N] 169
 rw [z2] at e2
 have A:=(e0.alloc (.cells (zeroRow (.slice none 0 0) N) 170)).alloc (.cells #[.string t,.slice (some ⟨be,0,none⟩) N N,.slice (some ⟨bt,0,none⟩) N N] 169)
 have C:=e1.alloc (.cells #[.string t,.slice (some ⟨be,0,none⟩) N N,.slice (some ⟨bt,0,none⟩) N N] 169)
 have hB:=((((Below.refl w.heap.size w).alloc (Nat.le_refl _) (.cells (zeroRow (.slice none 0 0) N) 170)).alloc (by simp) (.cells (zeroRow (.slice none 0 0) N) 170)).alloc (by simp; omega) (.cells #[.string t,.slice (some ⟨be,0,none⟩) N N,.slice (some ⟨bt,0,none⟩) N N] 169)).drew
 refine ⟨?_,?_,?_,e2,(hB.block bp hP.lt).trans hP,fun k hk=>by omega,hB⟩
 ·show (World.alloc _ _).heap.size=_; simp
 ·rw [mRows_zero]
  rcases hb with ⟨rfl,rfl⟩ | ⟨rfl,rfl⟩
  ·exact A
  ·exact C
 ·rw [mRows_zero]
  rcases hb with ⟨rfl,rfl⟩ | ⟨rfl,rfl⟩
  ·exact C
  ·exact A
end Go.Proofs.Ytjmkkkfloalliab
namespace Go.Proofs.Ytjmkkkfloalliab.Q
set_option linter.unusedVariables false
def Even (a:Span):Prop:=a.first.testBit 0=false∧a.last.testBit 0=false
theorem even_or {x y:Nat} (h:x.testBit 0=false) (g:y.testBit 0=false):(x ||| y).testBit 0=false:=by rw [Nat.testBit_or,h,g]; rfl
theorem join_even {a b:Span} {p:Pat} (ha:Even a) (hb:Even b):Even (join a b p).1:=by
 refine ⟨?_,?_⟩
 ·simp only [join]
  split
  ·exact even_or ha.1 hb.1
  ·exact ha.1
 ·simp only [join]
  split
  ·exact even_or hb.2 ha.2
  ·exact hb.2
def EvenAll (rec:Pat→Span × Pat):Prop:=∀ p,1≤p.size→Even (rec p).1∧1≤(rec p).2.size
theorem copies_even {rec:Pat→Span × Pat} (hr:EvenAll rec) (low:Nat) (endless:Bool) (n:Nat):∀ (d:Nat) (all:Span) (p:Pat),Even all→1≤p.size→Even (copies rec low endless n d all p).1∧1≤(copies rec low endless n d all p).2.size
 | 0,all,p,ha,hp=>⟨ha,hp⟩
 | d + 1,all,p,ha,hp=>by
  obtain ⟨h1,h2⟩:=hr p hp
  unfold copies
  simp only
  refine copies_even hr low endless n d _ _ (join_even ha h1) ?_
  simp only [join,link_size]
  split
  ·exact h2
  ·exact h2
theorem lay_even (ps:List Part):∀ f n,EvenAll (lay ps f n)
 | 0,n=>fun p hp=>⟨⟨by simp [lay],by simp [lay]⟩,hp⟩
 | f + 1,n=>fun p hp=>by
  unfold lay
  split
  ·exact ⟨⟨Nat.zero_testBit 0,Nat.zero_testBit 0⟩,hp⟩
  ·split
   ·obtain ⟨a1,a2⟩:=lay_even ps f (at_ ps n).left p hp
    obtain ⟨b1,b2⟩:=lay_even ps f (at_ ps n).right _ a2
    exact ⟨join_even a1 b1,b2⟩
   ·split
    ·obtain ⟨a1,a2⟩:=lay_even ps f (at_ ps n).left p hp
     obtain ⟨b1,b2⟩:=lay_even ps f (at_ ps n).right _ a2
     exact ⟨⟨even_or a1.1 b1.1,even_or a1.2 b1.2⟩,b2⟩
    ·split
     ·exact copies_even (lay_even ps f _) _ _ _ _ _ _ ⟨Nat.zero_testBit 0,Nat.zero_testBit 0⟩ hp
     ·have hz:(2 ^ p.size).testBit 0=false:=by rw [Nat.testBit_two_pow]; simp; omega
      exact ⟨⟨hz,hz⟩,by show 1≤p.size + 1; omega⟩
theorem parse_even {s:List UInt8} {P:Pat} (h:parse s=.ok P):acc P []=false:=by
 have key:P.begins.testBit 0=false:=by
  unfold parse at h
  split at h
  ·cases h
  ·split at h
   ·cases h
   ·split at h
    ·cases h
    ·split at h
     ·cases h
     ·cases h
      exact (lay_even _ _ _ pat0 (Nat.le_refl _)).1.1
 unfold acc
 have e:pl P [] &&& P.begins=0:=by
  show 1 &&& P.begins=0
  rw [Nat.and_comm,Nat.and_one_is_mod]
  rw [Nat.testBit_zero] at key
  have:¬ P.begins % 2=1:=by simpa using key
  omega
 rw [e]; rfl
theorem hits_rise (t:List UInt8) (P:Pat):(hits t P).Pairwise (·<·):=List.Pairwise.filter _ List.pairwise_lt_range
theorem mem_hits {t:List UInt8} {P:Pat} {p:Nat}:p ∈ hits t P ↔ p≤t.length∧∃ u,M.pre u (t.drop p)=true∧acc P u=true:=by
 unfold hits
 rw [List.mem_filter,hit_iff,List.mem_range]
 constructor
 ·rintro ⟨a,b⟩; exact ⟨by omega,b⟩
 ·rintro ⟨a,b⟩; exact ⟨by omega,b⟩
theorem rise_ext:∀ {l m:List Nat},l.Pairwise (·<·)→m.Pairwise (·<·)→(∀ x,x ∈ l ↔ x ∈ m)→l=m
 | [],[],_,_,_=>rfl
 | [],y :: m,_,_,h=>absurd ((h y).2 List.mem_cons_self) (by simp)
 | x :: l,[],_,_,h=>absurd ((h x).1 List.mem_cons_self) (by simp)
 | x :: l,y :: m,hl,hm,h=>by
  have hl':=List.pairwise_cons.1 hl
  have hm':=List.pairwise_cons.1 hm
  have e:x=y:=by
   rcases List.mem_cons.1 ((h x).1 List.mem_cons_self) with e | e
   ·exact e
   ·rcases List.mem_cons.1 ((h y).2 List.mem_cons_self) with e2 | e2
    ·exact e2.symm
    ·have:=hl'.1 y e2
     have:=hm'.1 x e
     omega
  subst e
  congr 1
  refine rise_ext hl'.2 hm'.2 (fun z=>⟨fun hz=>?_,fun hz=>?_⟩)
  ·rcases List.mem_cons.1 ((h z).1 (List.mem_cons_of_mem _ hz)) with e | e
   ·subst e; exact absurd (hl'.1 z hz) (by omega)
   ·exact e
  ·rcases List.mem_cons.1 ((h z).2 (List.mem_cons_of_mem _ hz)) with e | e
   ·subst e; exact absurd (hm'.1 z hz) (by omega)
   ·exact e
end Go.Proofs.Ytjmkkkfloalliab.Q
namespace Go.Proofs.Ytjmkkkfloalliab.Q
set_option linter.unusedVariables false
abbrev Lang:Type:=List UInt8→Prop
def Cat (A B:Lang):Lang:=fun u=>∃ x y,u=x ++ y∧A x∧B y
def Pow (A:Lang):Nat→Lang
 | 0=>fun u=>u=[]
 | k + 1=>Cat A (Pow A k)
theorem pow_one {A:Lang} {u:List UInt8}:Pow A 1 u ↔ A u:=by
 constructor
 ·rintro ⟨x,y,rfl,h,g⟩
  have g2:y=[]:=g
  subst g2
  simpa using h
 ·intro h
  exact ⟨u,[],by simp,h,rfl⟩
theorem pow_add {A:Lang}:∀ {a b:Nat} {u:List UInt8},Pow A (a + b) u ↔ Cat (Pow A a) (Pow A b) u
 | 0,b,u=>by
  rw [Nat.zero_add]
  constructor
  ·intro h
   exact ⟨[],u,rfl,rfl,h⟩
  ·rintro ⟨x,y,rfl,h,g⟩
   have h2:x=[]:=h
   subst h2
   exact g
 | a + 1,b,u=>by
  rw [show a + 1 + b=(a + b) + 1 by omega]
  constructor
  ·rintro ⟨x,y,rfl,h,g⟩
   obtain ⟨x2,y2,rfl,h2,g2⟩:=pow_add.1 g
   exact ⟨x ++ x2,y2,by simp,⟨x,x2,rfl,h,h2⟩,g2⟩
  ·rintro ⟨x,y,rfl,⟨x2,y2,rfl,h2,g2⟩,g⟩
   exact ⟨x2,y2 ++ y,by simp,h2,pow_add.2 ⟨y2,y,rfl,g2,g⟩⟩
theorem pow_nil {A:Lang} (h:A []):∀ k,Pow A k []
 | 0=>rfl
 | k + 1=>⟨[],[],rfl,h,pow_nil h k⟩
def Path (E:Nat→Nat→Prop) (T:Nat→UInt8→Prop):List UInt8→Nat→Nat→Prop
 | [],_,_=>False
 | c :: u,i,j=>T i c∧((u=[]∧i=j)∨∃ k,E i k∧Path E T u k j)
section
variable {E E':Nat→Nat→Prop} {T T':Nat→UInt8→Prop}
theorem path_congr (S:Nat→Prop) (hE:∀ i,S i→∀ k,E i k ↔ E' i k) (hT:∀ i,S i→∀ c,T i c ↔ T' i c) (hc:∀ i,S i→∀ k,E i k→S k):∀ u i j,S i→(Path E T u i j ↔ Path E' T' u i j)
 | [],i,j,_=>Iff.rfl
 | c :: u,i,j,hi=>by
  unfold Path
  rw [hT i hi c]
  refine and_congr_right fun _=>or_congr Iff.rfl ⟨?_,?_⟩
  ·rintro ⟨k,h,g⟩
   exact ⟨k,(hE i hi k).1 h,(path_congr S hE hT hc u k j (hc i hi k h)).1 g⟩
  ·rintro ⟨k,h,g⟩
   have h2:=(hE i hi k).2 h
   exact ⟨k,h2,(path_congr S hE hT hc u k j (hc i hi k h2)).2 g⟩
theorem path_stay (S:Nat→Prop) (hc:∀ i,S i→∀ k,E i k→S k):∀ u i j,S i→Path E T u i j→S j
 | [],i,j,_,h=>h.elim
 | c :: u,i,j,hi,⟨_,h⟩=>by
  rcases h with ⟨_,e⟩ | ⟨k,h,g⟩
  ·rw [← e]; exact hi
  ·exact path_stay S hc u k j (hc i hi k h) g
theorem path_link (A B:Nat→Prop):∀ u i j,Path (fun i k=>E i k∨(A i∧B k)) T u i j ↔ Path E T u i j∨∃ x y k l,u=x ++ y∧Path E T x i k∧A k∧B l∧Path (fun i k=>E i k∨(A i∧B k)) T y l j
 | [],i,j=>by
  constructor
  ·intro h; exact h.elim
  ·rintro (h | ⟨x,y,k,l,h,g,_⟩)
   ·exact h.elim
   ·have:x=[]:=by
       cases x with
       | nil=>rfl
       | cons a b=>cases h
    subst this
    exact g.elim
 | c :: u,i,j=>by
  constructor
  ·rintro ⟨h,⟨e,e2⟩ | ⟨k,h2 | ⟨h2,h3⟩,g⟩⟩
   ·exact .inl ⟨h,.inl ⟨e,e2⟩⟩
   ·rcases (path_link A B u k j).1 g with g | ⟨x,y,k2,l,rfl,g1,g2⟩
    ·exact .inl ⟨h,.inr ⟨k,h2,g⟩⟩
    ·exact .inr ⟨c :: x,y,k2,l,rfl,⟨h,.inr ⟨k,h2,g1⟩⟩,g2⟩
   ·exact .inr ⟨[c],u,i,k,rfl,⟨h,.inl ⟨rfl,rfl⟩⟩,h2,h3,g⟩
  ·rintro (⟨h,⟨e,e2⟩ | ⟨k,h2,g⟩⟩ | ⟨x,y,k,l,e,g,g2⟩)
   ·exact ⟨h,.inl ⟨e,e2⟩⟩
   ·exact ⟨h,.inr ⟨k,.inl h2,(path_link A B u k j).2 (.inl g)⟩⟩
   ·cases x with
    | nil=>exact g.elim
    | cons a x =>
     simp only [List.cons_append,List.cons.injEq] at e
     obtain ⟨rfl,rfl⟩:=e
     obtain ⟨h,⟨e,e2⟩ | ⟨k2,h2,g3⟩⟩:=g
     ·subst e; subst e2
      exact ⟨h,.inr ⟨l,.inr ⟨g2.1,g2.2.1⟩,g2.2.2⟩⟩
     ·exact ⟨h,.inr ⟨k2,.inl h2,(path_link A B _ k2 j).2 (.inr ⟨x,y,k,l,rfl,g3,g2⟩)⟩⟩
theorem path_swap:∀ (u w:List UInt8) (j i k:Nat),Path E T u j i→Path E T w i k→∃ v,Path E T (v ++ w) j k
 | [],_,_,_,_,h,_=>h.elim
 | c :: u,w,j,i,k,⟨h1,h2⟩,g=>by
  rcases h2 with ⟨_,rfl⟩ | ⟨k',h3,h4⟩
  ·exact ⟨[],g⟩
  ·obtain ⟨v,hv⟩:=path_swap u w k' i k h4 g
   refine ⟨c :: v,h1,.inr ⟨k',h3,hv⟩⟩
theorem path_tail:∀ (v w:List UInt8) (j k:Nat),w ≠ []→Path E T (v ++ w) j k→∃ i,Path E T w i k
 | [],w,j,k,_,h=>⟨j,h⟩
 | c :: v,w,j,k,hw,⟨h1,h2⟩=>by
  rcases h2 with ⟨e,_⟩ | ⟨k',h3,h4⟩
  ·exact absurd (List.append_eq_nil_iff.1 e).2 hw
  ·exact path_tail v w k' k hw h4
theorem path_cat (u w:List UInt8):∀ (j i l k:Nat),Path E T u j i→E i l→Path E T w l k→Path E T (u ++ w) j k:=by
 induction u with
 | nil=>intro j i l k h; exact h.elim
 | cons c u ih =>
  rintro j i l k ⟨h1,h2⟩ he g
  rcases h2 with ⟨rfl,rfl⟩ | ⟨k',h3,h4⟩
  ·exact ⟨h1,.inr ⟨l,he,g⟩⟩
  ·exact ⟨h1,.inr ⟨k',h3,ih k' i l k h4 he g⟩⟩
theorem path_mono (hE:∀ i k,E i k→E' i k):∀ (u:List UInt8) (i j:Nat),Path E T u i j→Path E' T u i j
 | [],_,_,h=>h.elim
 | c :: u,i,j,⟨h1,h2⟩=>by
  rcases h2 with h2 | ⟨k,h3,h4⟩
  ·exact ⟨h1,.inl h2⟩
  ·exact ⟨h1,.inr ⟨k,hE i k h3,path_mono hE u k j h4⟩⟩
theorem path_ne {u:List UInt8} {i j:Nat} (h:Path E T u i j):u ≠ []:=by
 cases u with
 | nil=>exact h.elim
 | cons c u=>exact List.cons_ne_nil _ _
end
def Ed (q:Pat) (i k:Nat):Prop:=(q.ahead.getD k 0).testBit i=true
def Tk (q:Pat) (i:Nat) (c:UInt8):Prop:=(q.takes.getD c.toNat 0).testBit i=true
def Fresh (q:Pat):Prop:=∀ k,q.size≤k→q.ahead.getD k 0=0
structure Ext (p q:Pat):Prop where
 size:p.size≤q.size
 ah:∀ k,k<p.size→q.ahead.getD k 0=p.ahead.getD k 0
 tk:∀ c i,i<p.size→(q.takes.getD c 0).testBit i=(p.takes.getD c 0).testBit i
 new:∀ k,p.size≤k→∀ i,Ed q i k→p.size≤i
 fresh:Fresh q
structure Frag (lo:Nat) (q:Pat) (a:Span) (A:Lang):Prop where
 fst:∀ i,a.first.testBit i=true→lo≤i∧i<q.size
 lst:∀ i,a.last.testBit i=true→lo≤i∧i<q.size
 emp:a.empty=true ↔ A []
 words:∀ u,u ≠ []→(A u ↔ ∃ i j,a.first.testBit i=true∧a.last.testBit j=true∧Path (Ed q) (Tk q) u i j)
theorem bit_lt {x n i:Nat} (h:x<2 ^ n) (g:x.testBit i=true):i<n:=by
 rcases Nat.lt_or_ge i n with k | k
 ·exact k
 ·rw [Nat.testBit_lt_two_pow (Nat.lt_of_lt_of_le h (pow_le k))] at g
  cases g
theorem PatOk.ed {p:Pat} (h:PatOk p) {i k:Nat} (g:Ed p i k):i<p.size:=bit_lt (h.a k) g
theorem PatOk.tk {p:Pat} (h:PatOk p) {i:Nat} {c:UInt8} (g:Tk p i c):i<p.size:=bit_lt (h.t _) g
theorem Fresh.ed {p:Pat} (h:Fresh p) {i k:Nat} (g:Ed p i k):k<p.size:=by
 rcases Nat.lt_or_ge k p.size with c | c
 ·exact c
 ·unfold Ed at g
  rw [h k c,Nat.zero_testBit] at g
  cases g
theorem Ext.refl {p:Pat} (h:Fresh p):Ext p p:=⟨Nat.le_refl _,fun _ _=>rfl,fun _ _ _=>rfl,fun k hk i g=>absurd (h.ed g) (by omega),h⟩
theorem Ext.trans {p q r:Pat} (h:Ext p q) (g:Ext q r):Ext p r:=by
 refine ⟨Nat.le_trans h.size g.size,fun k hk=>?_,fun c i hi=>?_,fun k hk i e=>?_,g.fresh⟩
 ·rw [g.ah k (Nat.lt_of_lt_of_le hk h.size),h.ah k hk]
 ·rw [g.tk c i (Nat.lt_of_lt_of_le hi h.size),h.tk c i hi]
 ·rcases Nat.lt_or_ge k q.size with c | c
  ·refine h.new k hk i ?_
   unfold Ed at e ⊢
   rw [g.ah k c] at e
   exact e
  ·exact Nat.le_trans h.size (g.new k c i e)
theorem Ext.path {p q:Pat} (h:Ext p q) (hp:Fresh p) (u:List UInt8) (i j:Nat) (hi:i<p.size):Path (Ed p) (Tk p) u i j ↔ Path (Ed q) (Tk q) u i j:=by
 refine path_congr (fun i=>i<p.size) (fun i hi k=>?_) (fun i hi c=>?_) (fun i hi k g=>hp.ed g) u i j hi
 ·constructor
  ·intro g
   have:=hp.ed g
   unfold Ed at g ⊢
   rw [h.ah k this]; exact g
  ·intro g
   rcases Nat.lt_or_ge k p.size with c | c
   ·unfold Ed at g ⊢
    rw [h.ah k c] at g; exact g
   ·have:=h.new k c i g
    omega
 ·unfold Tk
  rw [h.tk _ i hi]
theorem Frag.ext {lo:Nat} {p q:Pat} {a:Span} {A:Lang} (h:Frag lo p a A) (g:Ext p q) (hp:Fresh p):Frag lo q a A:=by
 refine ⟨fun i k=>⟨(h.fst i k).1,Nat.lt_of_lt_of_le (h.fst i k).2 g.size⟩,fun i k=>⟨(h.lst i k).1,Nat.lt_of_lt_of_le (h.lst i k).2 g.size⟩,h.emp,fun u hu=>?_⟩
 rw [h.words u hu]
 constructor
 ·rintro ⟨i,j,a1,a2,a3⟩
  exact ⟨i,j,a1,a2,(g.path hp u i j (h.fst i a1).2).1 a3⟩
 ·rintro ⟨i,j,a1,a2,a3⟩
  exact ⟨i,j,a1,a2,(g.path hp u i j (h.fst i a1).2).2 a3⟩
theorem Frag.iff {lo:Nat} {p:Pat} {a:Span} {A B:Lang} (h:Frag lo p a A) (e:∀ u,A u ↔ B u):Frag lo p a B :=
 ⟨h.fst,h.lst,h.emp.trans (e []),fun u hu=>(e u).symm.trans (h.words u hu)⟩
theorem Frag.opt {lo:Nat} {p:Pat} {a:Span} {A:Lang} (h:Frag lo p a A) (b:Bool):Frag lo p { a with empty:=b || a.empty } (fun u=>A u∨(b=true∧u=[])):=by
 refine ⟨h.fst,h.lst,?_,fun u hu=>?_⟩
 ·simp only [Bool.or_eq_true,h.emp]
  constructor
  ·rintro (e | e)
   ·exact .inr ⟨e,trivial⟩
   ·exact .inl e
  ·rintro (e | ⟨e,_⟩)
   ·exact .inr e
   ·exact .inl e
 ·rw [← h.words u hu]
  constructor
  ·rintro (e | ⟨_,e⟩)
   ·exact e
   ·exact absurd e hu
  ·exact .inl
def Rch (lo:Nat) (q:Pat) (a:Span):Prop:=∀ i,lo≤i→i<q.size→∃ u j,a.first.testBit j=true∧Path (Ed q) (Tk q) u j i
/-! link -/
theorem link_ed {q:Pat} {x y:Nat} (hq:PatOk q) (hy:∀ k,y.testBit k=true→k<q.size) (i k:Nat):Ed (link x y q) i k ↔ (Ed q i k∨(x.testBit i=true∧y.testBit k=true)):=by
 unfold Ed link linkTo
 simp only
 rw [getD_tab]
 have hs:=hq.size
 by_cases hk:k<49
 ·rw [if_pos hk]
  by_cases h:y.testBit k=true
  ·rw [if_pos ⟨hy k h,h⟩,Nat.testBit_or,Bool.or_eq_true,h]
   simp
  ·rw [if_neg (fun g=>h g.2)]
   simp [h]
 ·rw [if_neg hk,Nat.zero_testBit]
  have h1:q.ahead.getD k 0=0:=by
   rw [List.getD_eq_getElem?_getD,List.getElem?_eq_none (by rw [hq.alen]; omega)]; rfl
  rw [h1,Nat.zero_testBit]
  constructor
  ·intro h; cases h
  ·rintro (h | ⟨_,h⟩)
   ·cases h
   ·have:=hy k h; omega
theorem link_ext {p q:Pat} {x y:Nat} (h:Ext p q) (hq:PatOk q) (hx:∀ i,x.testBit i=true→p.size≤i) (hy:∀ k,y.testBit k=true→p.size≤k∧k<q.size):Ext p (link x y q):=by
 have key:∀ k,y.testBit k=false→(link x y q).ahead.getD k 0=q.ahead.getD k 0:=by
  intro k hk
  unfold link linkTo
  simp only
  rw [getD_tab]
  split
  ·rw [if_neg (fun g=>by rw [hk] at g; cases g.2)]
  ·rw [List.getD_eq_getElem?_getD,List.getElem?_eq_none (by rw [hq.alen]; omega)]; rfl
 have no:∀ k,¬ (p.size≤k∧k<q.size)→y.testBit k=false:=by
  intro k hk
  cases e:y.testBit k with
  | false=>rfl
  | true=>exact absurd (hy k e) hk
 refine ⟨h.size,fun k hk=>?_,h.tk,fun k hk i e=>?_,fun k hk=>?_⟩
 ·rw [key k (no k (by omega))]; exact h.ah k hk
 ·rcases (link_ed hq (fun k g=>(hy k g).2) i k).1 e with e | ⟨e,_⟩
  ·exact h.new k hk i e
  ·exact hx i e
 ·rw [key k (no k (by have:q.size≤k:=hk; omega))]; exact h.fresh k hk
theorem join_first (a b:Span) (p:Pat) (i:Nat):(join a b p).1.first.testBit i=true ↔ (a.first.testBit i=true∨(a.empty=true∧b.first.testBit i=true)):=by
 unfold join
 simp only
 cases a.empty <;> simp [Nat.testBit_or]
theorem join_last (a b:Span) (p:Pat) (i:Nat):(join a b p).1.last.testBit i=true ↔ (b.last.testBit i=true∨(b.empty=true∧a.last.testBit i=true)):=by
 unfold join
 simp only
 cases b.empty <;> simp [Nat.testBit_or]
theorem frag_join {p q r:Pat} {a b:Span} {A B:Lang} {lo:Nat} (hq:PatOk q) (hr:PatOk r) (fq:Fresh q) (hlo:lo≤q.size) (e2:Ext q r) (ha:Frag lo q a A) (hb:Frag q.size r b B) :
    Frag lo (join a b r).2 (join a b r).1 (Cat A B):=by
 have ha2:=ha.ext e2 fq
 have hed:∀ i k,Ed (join a b r).2 i k ↔ (Ed r i k∨(a.last.testBit i=true∧b.first.testBit k=true)):=link_ed hr (fun k g=>(hb.fst k g).2)
 have hpath:∀ u i j,Path (Ed (join a b r).2) (Tk (join a b r).2) u i j ↔ Path (fun i k=>Ed r i k∨(a.last.testBit i=true∧b.first.testBit k=true)) (Tk r) u i j :=
  fun u i j=>path_congr (fun _=>True) (fun i _ k=>hed i k) (fun i _ c=>Iff.rfl) (fun _ _ _ _=>trivial) u i j trivial
 have up:∀ i,q.size≤i→∀ k,Ed r i k→q.size≤k:=by
  intro i hi k g
  rcases Nat.lt_or_ge k q.size with c | c
  ·unfold Ed at g
   rw [e2.ah k c] at g
   have:=hq.ed (i:=i) (k:=k) g
   omega
  ·exact c
 have down:∀ i,i<q.size→∀ k,Ed r i k→k<q.size:=by
  intro i hi k g
  rcases Nat.lt_or_ge k q.size with c | c
  ·exact c
  ·have:=e2.new k c i g
   omega
 have late:∀ u i j,q.size≤i→(Path (fun i k=>Ed r i k∨(a.last.testBit i=true∧b.first.testBit k=true)) (Tk r) u i j ↔ Path (Ed r) (Tk r) u i j):=by
  intro u i j hi
  constructor
  ·intro h
   rcases (path_link _ _ u i j).1 h with h | ⟨x,y,k,l,_,g,g2,_⟩
   ·exact h
   ·have:=path_stay (fun i=>q.size≤i) up x i k hi g
    have:=(ha.lst k g2).2
    omega
  ·intro h
   exact (path_link _ _ u i j).2 (.inl h)
 have hsz:(join a b r).2.size=r.size:=rfl
 refine ⟨fun i h=>?_,fun i h=>?_,?_,fun u hu=>?_⟩
 ·rw [hsz]
  rcases (join_first a b r i).1 h with h | ⟨_,h⟩
  ·exact ha2.fst i h
  ·exact ⟨Nat.le_trans hlo (hb.fst i h).1,(hb.fst i h).2⟩
 ·rw [hsz]
  rcases (join_last a b r i).1 h with h | ⟨_,h⟩
  ·exact ⟨Nat.le_trans hlo (hb.lst i h).1,(hb.lst i h).2⟩
  ·exact ha2.lst i h
 ·show (a.empty && b.empty)=true ↔ _
  rw [Bool.and_eq_true,ha.emp,hb.emp]
  constructor
  ·rintro ⟨h,g⟩; exact ⟨[],[],rfl,h,g⟩
  ·rintro ⟨x,y,e,h,g⟩
   have:=List.append_eq_nil_iff.1 e.symm
   rw [this.1] at h
   rw [this.2] at g
   exact ⟨h,g⟩
 ·constructor
  ·rintro ⟨x,y,rfl,h,g⟩
   by_cases hx:x=[]
   ·subst hx
    have hy:y ≠ []:=by simpa using hu
    obtain ⟨i,j,g1,g2,g3⟩:=(hb.words y hy).1 g
    exact ⟨i,j,(join_first a b r i).2 (.inr ⟨ha.emp.2 h,g1⟩),(join_last a b r j).2 (.inl g2),(hpath _ _ _).2 ((late _ i j (hb.fst i g1).1).2 g3)⟩
   ·obtain ⟨i,j,h1,h2,h3⟩:=(ha2.words x hx).1 h
    by_cases hy:y=[]
    ·subst hy
     refine ⟨i,j,(join_first a b r i).2 (.inl h1),(join_last a b r j).2 (.inr ⟨hb.emp.2 g,h2⟩),(hpath _ _ _).2 ((path_link _ _ _ i j).2 (.inl ?_))⟩
     simpa using h3
    ·obtain ⟨k,l,g1,g2,g3⟩:=(hb.words y hy).1 g
     exact ⟨i,l,(join_first a b r i).2 (.inl h1),(join_last a b r l).2 (.inl g2),(hpath _ _ _).2 ((path_link _ _ _ i l).2 (.inr ⟨x,y,j,k,rfl,h3,h2,g1,(late _ k l (hb.fst k g1).1).2 g3⟩))⟩
  ·rintro ⟨i,j,h1,h2,h3⟩
   have h3:=(hpath _ _ _).1 h3
   rcases (join_first a b r i).1 h1 with h1 | ⟨he,h1⟩
   ·rcases (path_link _ _ u i j).1 h3 with h3 | ⟨x,y,k,l,rfl,g1,g2,g3,g4⟩
    ·have hj:=path_stay (fun i=>i<q.size) down u i j (ha.fst i h1).2 h3
     rcases (join_last a b r j).1 h2 with h2 | ⟨he,h2⟩
     ·have:=(hb.lst j h2).1
      have hj2:j<q.size:=hj
      omega
     ·exact ⟨u,[],by simp,(ha2.words u hu).2 ⟨i,j,h1,h2,h3⟩,hb.emp.1 he⟩
    ·have g4:=(late y l j (hb.fst l g3).1).1 g4
     have hj:q.size≤j:=path_stay (fun i=>q.size≤i) up y l j (hb.fst l g3).1 g4
     rcases (join_last a b r j).1 h2 with h2 | ⟨he,h2⟩
     ·exact ⟨x,y,rfl,(ha2.words x (path_ne g1)).2 ⟨i,k,h1,g2,g1⟩,(hb.words y (path_ne g4)).2 ⟨l,j,g3,h2,g4⟩⟩
     ·have:=(ha.lst j h2).2
      omega
   ·have h3:=(late u i j (hb.fst i h1).1).1 h3
    have hj:q.size≤j:=path_stay (fun i=>q.size≤i) up u i j (hb.fst i h1).1 h3
    rcases (join_last a b r j).1 h2 with h2 | ⟨_,h2⟩
    ·exact ⟨[],u,rfl,ha.emp.1 he,(hb.words u hu).2 ⟨i,j,h1,h2,h3⟩⟩
    ·have:=(ha.lst j h2).2
     omega
theorem frag_either {q r:Pat} {a b:Span} {A B:Lang} {lo:Nat} (hq:PatOk q) (fq:Fresh q) (hlo:lo≤q.size) (e2:Ext q r) (ha:Frag lo q a A) (hb:Frag q.size r b B) :
    Frag lo r (either a b) (fun u=>A u∨B u):=by
 have ha2:=ha.ext e2 fq
 have up:∀ i,q.size≤i→∀ k,Ed r i k→q.size≤k:=by
  intro i hi k g
  rcases Nat.lt_or_ge k q.size with c | c
  ·unfold Ed at g
   rw [e2.ah k c] at g
   have:=hq.ed (i:=i) (k:=k) g
   omega
  ·exact c
 have down:∀ i,i<q.size→∀ k,Ed r i k→k<q.size:=by
  intro i hi k g
  rcases Nat.lt_or_ge k q.size with c | c
  ·exact c
  ·have:=e2.new k c i g
   omega
 have f1:∀ i,(either a b).first.testBit i=true ↔ (a.first.testBit i=true∨b.first.testBit i=true):=fun i=>by simp [either,Nat.testBit_or]
 have f2:∀ i,(either a b).last.testBit i=true ↔ (a.last.testBit i=true∨b.last.testBit i=true):=fun i=>by simp [either,Nat.testBit_or]
 refine ⟨fun i h=>?_,fun i h=>?_,?_,fun u hu=>?_⟩
 ·rcases (f1 i).1 h with h | h
  ·exact ha2.fst i h
  ·exact ⟨Nat.le_trans hlo (hb.fst i h).1,(hb.fst i h).2⟩
 ·rcases (f2 i).1 h with h | h
  ·exact ha2.lst i h
  ·exact ⟨Nat.le_trans hlo (hb.lst i h).1,(hb.lst i h).2⟩
 ·show (a.empty || b.empty)=true ↔ _
  rw [Bool.or_eq_true,ha.emp,hb.emp]
 ·rw [ha2.words u hu,hb.words u hu]
  constructor
  ·rintro (⟨i,j,h1,h2,h3⟩ | ⟨i,j,h1,h2,h3⟩)
   ·exact ⟨i,j,(f1 i).2 (.inl h1),(f2 j).2 (.inl h2),h3⟩
   ·exact ⟨i,j,(f1 i).2 (.inr h1),(f2 j).2 (.inr h2),h3⟩
  ·rintro ⟨i,j,h1,h2,h3⟩
   rcases (f1 i).1 h1 with h1 | h1
   ·have hj:j<q.size:=path_stay (fun i=>i<q.size) down u i j (ha.fst i h1).2 h3
    rcases (f2 j).1 h2 with h2 | h2
    ·exact .inl ⟨i,j,h1,h2,h3⟩
    ·have:=(hb.lst j h2).1
     omega
   ·have hj:q.size≤j:=path_stay (fun i=>q.size≤i) up u i j (hb.fst i h1).1 h3
    rcases (f2 j).1 h2 with h2 | h2
    ·have:=(ha.lst j h2).2
     omega
    ·exact .inr ⟨i,j,h1,h2,h3⟩
theorem frag_loop {q:Pat} {a:Span} {A:Lang} {lo:Nat} (hq:PatOk q) (ha:Frag lo q a A) :
    Frag lo (link a.last a.first q) a (fun u=>(u=[]∧A [])∨(u ≠ []∧∃ m,1≤m∧Pow A m u)):=by
 have hed:∀ i k,Ed (link a.last a.first q) i k ↔ (Ed q i k∨(a.last.testBit i=true∧a.first.testBit k=true)):=link_ed hq (fun k g=>(ha.fst k g).2)
 have hpath:∀ u i j,Path (Ed (link a.last a.first q)) (Tk (link a.last a.first q)) u i j ↔ Path (fun i k=>Ed q i k∨(a.last.testBit i=true∧a.first.testBit k=true)) (Tk q) u i j :=
  fun u i j=>path_congr (fun _=>True) (fun i _ k=>hed i k) (fun i _ c=>Iff.rfl) (fun _ _ _ _=>trivial) u i j trivial
 refine ⟨ha.fst,ha.lst,?_,fun u hu=>?_⟩
 ·rw [ha.emp]
  constructor
  ·intro h; exact .inl ⟨rfl,h⟩
  ·rintro (⟨_,h⟩ | ⟨h,_⟩)
   ·exact h
   ·exact absurd rfl h
 ·have there:∀ m v,v ≠ []→Pow A m v→∃ i j,a.first.testBit i=true∧a.last.testBit j=true∧Path (fun i k=>Ed q i k∨(a.last.testBit i=true∧a.first.testBit k=true)) (Tk q) v i j:=by
     intro m
     induction m with
     | zero=>intro v hv h; exact absurd h hv
     | succ m ih =>
      rintro v hv ⟨x,y,rfl,h,g⟩
      by_cases hx:x=[]
      ·subst hx
       exact ih y (by simpa using hv) g
      ·obtain ⟨i,j,h1,h2,h3⟩:=(ha.words x hx).1 h
       by_cases hy:y=[]
       ·subst hy
        exact ⟨i,j,h1,h2,(path_link _ _ _ i j).2 (.inl (by simpa using h3))⟩
       ·obtain ⟨k,l,g1,g2,g3⟩:=ih y hy g
        exact ⟨i,l,h1,g2,(path_link _ _ _ i l).2 (.inr ⟨x,y,j,k,rfl,h3,h2,g1,g3⟩)⟩
  have back:∀ n v,v.length≤n→∀ i j,a.first.testBit i=true→a.last.testBit j=true→Path (fun i k=>Ed q i k∨(a.last.testBit i=true∧a.first.testBit k=true)) (Tk q) v i j→∃ m,1≤m∧Pow A m v:=by
   intro n
   induction n with
   | zero =>
    intro v hv i j _ _ h
    exact absurd (List.length_eq_zero_iff.1 (by omega)) (path_ne h)
   | succ n ih =>
    intro v hv i j h1 h2 h3
    rcases (path_link _ _ v i j).1 h3 with h3 | ⟨x,y,k,l,rfl,g1,g2,g3,g4⟩
    ·exact ⟨1,Nat.le_refl _,pow_one.2 ((ha.words v (path_ne h3)).2 ⟨i,j,h1,h2,h3⟩)⟩
    ·have hx:=path_ne g1
     have hl:0<x.length:=List.length_pos_iff.2 hx
     obtain ⟨m,_,hm⟩:=ih y (by simp at hv; omega) l j g3 h2 g4
     exact ⟨m + 1,by omega,x,y,rfl,(ha.words x hx).2 ⟨i,k,h1,g2,g1⟩,hm⟩
  constructor
  ·rintro (⟨h,_⟩ | ⟨_,m,_,h⟩)
   ·exact absurd h hu
   ·obtain ⟨i,j,h1,h2,h3⟩:=there m u hu h
    exact ⟨i,j,h1,h2,(hpath _ _ _).2 h3⟩
  ·rintro ⟨i,j,h1,h2,h3⟩
   exact .inr ⟨hu,back u.length u (Nat.le_refl _) i j h1 h2 ((hpath _ _ _).1 h3)⟩
theorem ext_path {p q:Pat} (h:Ext p q) (hp:Fresh p) {u:List UInt8} {i j:Nat} (hi:i<p.size) (g:Path (Ed p) (Tk p) u i j):Path (Ed q) (Tk q) u i j:=(h.path hp u i j hi).1 g
theorem rch_join {q r:Pat} {a b:Span} {A B:Lang} {lo:Nat} (hr:PatOk r) (fq:Fresh q) (e2:Ext q r) (ha:Frag lo q a A) (hb:Frag q.size r b B) (ra:Rch lo q a) (rb:Rch q.size r b) (hA:∃ u,A u):Rch lo (join a b r).2 (join a b r).1:=by
 have hed:∀ i k,Ed (join a b r).2 i k ↔ (Ed r i k∨(a.last.testBit i=true∧b.first.testBit k=true)):=link_ed hr (fun k g=>(hb.fst k g).2)
 have up:∀ u i j,Path (Ed r) (Tk r) u i j→Path (Ed (join a b r).2) (Tk (join a b r).2) u i j:=fun u i j h=>path_mono (T:=Tk r) (fun i k g=>(hed i k).2 (.inl g)) u i j h
 intro i h1 h2
 have h2:i<r.size:=h2
 rcases Nat.lt_or_ge i q.size with g | g
 ·obtain ⟨u,j,hj,hp⟩:=ra i h1 g
  exact ⟨u,j,(join_first a b r j).2 (.inl hj),up _ _ _ (ext_path e2 fq (ha.fst j hj).2 hp)⟩
 ·obtain ⟨u,j,hj,hp⟩:=rb i g h2
  by_cases he:a.empty=true
  ·exact ⟨u,j,(join_first a b r j).2 (.inr ⟨he,hj⟩),up _ _ _ hp⟩
  ·obtain ⟨v,hv⟩:=hA
   have hv0:v ≠ []:=fun e=>he (ha.emp.2 (by rw [← e]; exact hv))
   obtain ⟨i1,j1,g1,g2,g3⟩:=(ha.words v hv0).1 hv
   refine ⟨v ++ u,i1,(join_first a b r i1).2 (.inl g1),path_cat v u i1 j1 j i (up _ _ _ (ext_path e2 fq (ha.fst i1 g1).2 g3)) ((hed j1 j).2 (.inr ⟨g2,hj⟩)) (up _ _ _ hp)⟩
theorem rch_either {q r:Pat} {a b:Span} {A:Lang} {lo:Nat} (fq:Fresh q) (e2:Ext q r) (ha:Frag lo q a A) (ra:Rch lo q a) (rb:Rch q.size r b):Rch lo r (either a b):=by
 have f1:∀ i,(either a b).first.testBit i=true ↔ (a.first.testBit i=true∨b.first.testBit i=true):=fun i=>by simp [either,Nat.testBit_or]
 intro i h1 h2
 rcases Nat.lt_or_ge i q.size with g | g
 ·obtain ⟨u,j,hj,hp⟩:=ra i h1 g
  exact ⟨u,j,(f1 j).2 (.inl hj),ext_path e2 fq (ha.fst j hj).2 hp⟩
 ·obtain ⟨u,j,hj,hp⟩:=rb i g h2
  exact ⟨u,j,(f1 j).2 (.inr hj),hp⟩
theorem rch_loop {q:Pat} {a:Span} {A:Lang} {lo:Nat} (hq:PatOk q) (ha:Frag lo q a A) (ra:Rch lo q a):Rch lo (link a.last a.first q) a:=by
 have hed:∀ i k,Ed (link a.last a.first q) i k ↔ (Ed q i k∨(a.last.testBit i=true∧a.first.testBit k=true)):=link_ed hq (fun k g=>(ha.fst k g).2)
 intro i h1 h2
 obtain ⟨u,j,hj,hp⟩:=ra i h1 h2
 exact ⟨u,j,hj,path_mono (T:=Tk q) (fun i k g=>(hed i k).2 (.inl g)) u j i hp⟩
end Go.Proofs.Ytjmkkkfloalliab.Q
namespace Go.Proofs.Ytjmkkkfloalliab.Q
set_option linter.unusedVariables false
def Rep (A:Lang) (low k:Nat):Lang:=fun u=>∃ m,min low k≤m∧m≤k∧Pow A m u
theorem rep_step (A:Lang) (low k:Nat) (u:List UInt8):Cat (Rep A low k) (fun u=>A u∨(decide (low<k + 1)=true∧u=[])) u ↔ Rep A low (k + 1) u:=by
 constructor
 ·rintro ⟨x,y,rfl,⟨m,h1,h2,h3⟩,h | ⟨h,rfl⟩⟩
  ·exact ⟨m + 1,by omega,by omega,pow_add.2 ⟨x,y,rfl,h3,pow_one.2 h⟩⟩
  ·have:=of_decide_eq_true h
   exact ⟨m,by omega,by omega,by simpa using h3⟩
 ·rintro ⟨m,h1,h2,h3⟩
  by_cases hm:m=k + 1
  ·subst hm
   obtain ⟨x,y,rfl,g1,g2⟩:=pow_add.1 h3
   exact ⟨x,y,rfl,⟨k,by omega,by omega,g1⟩,.inl (pow_one.1 g2)⟩
  ·exact ⟨u,[],by simp,⟨m,by omega,by omega,h3⟩,.inr ⟨decide_eq_true (by omega),rfl⟩⟩
theorem rep_loop (A:Lang) (low:Nat) (u:List UInt8):Cat (Rep A low low) (fun u=>((u=[]∧A [])∨(u ≠ []∧∃ m,1≤m∧Pow A m u))∨(decide (low<low + 1)=true∧u=[])) u ↔ ∃ m,low≤m∧Pow A m u:=by
 constructor
 ·rintro ⟨x,y,rfl,⟨m,h1,h2,h3⟩,(⟨rfl,_⟩ | ⟨_,n,h4,h5⟩) | ⟨_,rfl⟩⟩
  ·exact ⟨m,by omega,by simpa using h3⟩
  ·exact ⟨m + n,by omega,pow_add.2 ⟨x,y,rfl,h3,h5⟩⟩
  ·exact ⟨m,by omega,by simpa using h3⟩
 ·rintro ⟨m,h1,h2⟩
  obtain ⟨n,rfl⟩:∃ n,m=low + n:=⟨m - low,by omega⟩
  obtain ⟨x,y,rfl,g1,g2⟩:=pow_add.1 h2
  refine ⟨x,y,rfl,⟨low,by omega,by omega,g1⟩,?_⟩
  by_cases hy:y=[]
  ·exact .inr ⟨decide_eq_true (by omega),hy⟩
  ·refine .inl (.inr ⟨hy,n,?_,g2⟩)
   rcases Nat.eq_zero_or_pos n with e | e
   ·subst e; exact absurd g2 hy
   ·exact e
def LayL (m:Nat) (rec:Pat→Span × Pat) (A:Lang):Prop:=∀ p,PatOk p→Fresh p→p.size + m≤49→Ext p (rec p).2∧Frag p.size (rec p).2 (rec p).1 A∧Rch p.size (rec p).2 (rec p).1
theorem frag_eps {p:Pat} (lo:Nat):Frag lo p ⟨0,0,true⟩ (fun u=>u=[]):=by
 refine ⟨fun i h=>?_,fun i h=>?_,by simp,fun u hu=>?_⟩
 ·simp at h
 ·simp at h
 ·simp [hu]
theorem frag_none {p:Pat} (lo:Nat) (e:Bool) (A:Lang) (h:∀ u,A u ↔ (u=[]∧e=true)):Frag lo p ⟨0,0,e⟩ A:=by
 refine ⟨fun i h=>?_,fun i h=>?_,by simp [h],fun u hu=>?_⟩
 ·simp at h
 ·simp at h
 ·simp [h,hu]
theorem SpanOk.of {lo:Nat} {p:Pat} {a:Span} {A:Lang} (h:Frag lo p a A) (hp:PatOk p) (g:SpanOk p a):SpanOk p a:=g
theorem copies_frag {m:Nat} {rec:Pat→Span × Pat} {A:Lang} (hr:Lays m rec) (hl:LayL m rec A) (low:Nat) (endless:Bool) (n:Nat) (he:endless=true→n=low + 1) (hA:∃ u,A u) (p0:Pat) :
    ∀ (d:Nat) (all:Span) (p:Pat),d≤n→PatOk p→SpanOk p all→Ext p0 p→p.size + m * d≤49→(0<d∨endless=false)→Frag p0.size p all (Rep A low (n - d))→Rch p0.size p all →
     Ext p0 (copies rec low endless n d all p).2∧Frag p0.size (copies rec low endless n d all p).2 (copies rec low endless n d all p).1 (fun u=>if endless=true then ∃ m,low≤m∧Pow A m u else Rep A low n u)∧Rch p0.size (copies rec low endless n d all p).2 (copies rec low endless n d all p).1
 | 0,all,p,_,hp,hs,e0,hz,hd,hf,hR=>by
  have h0:endless=false:=by rcases hd with h | h; (· omega); exact h
  refine ⟨e0,hf.iff fun u=>?_,hR⟩
  rw [h0]; simp
 | d + 1,all,p,hdn,hp,hs,e0,hz,hd,hf,hR=>by
  have hmul:m * (d + 1)=m * d + m:=Nat.mul_succ m d
  obtain ⟨r1,r2,r3⟩:=hr p hp (by omega)
  obtain ⟨x1,x2,x3⟩:=hl p hp e0.fresh (by omega)
  have hAll:∃ u,Rep A low (n - (d + 1)) u:=by
   obtain ⟨u,hu⟩:=hA
   have key:∀ m,∃ v,Pow A m v:=by
    intro m
    induction m with
    | zero=>exact ⟨[],rfl⟩
    | succ m ih =>
     obtain ⟨v,hv⟩:=ih
     exact ⟨u ++ v,u,v,rfl,hu,hv⟩
   obtain ⟨v,hv⟩:=key (n - (d + 1))
   exact ⟨v,n - (d + 1),by omega,Nat.le_refl _,hv⟩
  have e1:Ext p0 (rec p).2:=e0.trans x1
  have hlo:p0.size≤p.size:=e0.size
  have hk:n - (d + 1) + 1=n - d:=by omega
  have hone:=x2.opt (decide (low<n - d))
  by_cases hend:endless=true∧d=0
  ·obtain ⟨hen,hd0⟩:=hend
   subst hd0
   have hn:=he hen
   have L1:=frag_loop r1 x2
   have hlink:PatOk (link (rec p).1.last (rec p).1.first (rec p).2):=link_ok _ _ r1 r2.2
   have eL:Ext p (link (rec p).1.last (rec p).1.first (rec p).2):=link_ext x1 r1 (fun i h=>(x2.lst i h).1) (fun k h=>x2.fst k h)
   have L2:=L1.opt (decide (low<n - 0))
   have J:=frag_join (p:=p) hp hlink e0.fresh hlo eL hf L2
   have JR:=rch_join (a:=all) (b:={ (rec p).1 with empty:=decide (low<n - 0) || (rec p).1.empty }) hlink e0.fresh eL hf L2 hR (rch_loop r1 x2 x3) hAll
   unfold copies
   simp only [if_pos (show endless=true∧True from ⟨hen,trivial⟩)]
   unfold copies
   refine ⟨?_,J.iff fun u=>?_,JR⟩
   ·refine link_ext (e0.trans eL) hlink (fun i h=>(hf.lst i h).1) (fun k h=>?_)
    have:=x2.fst k h
    exact ⟨by omega,this.2⟩
   ·rw [if_pos hen]
    have e3:n - (0 + 1)=low:=by omega
    have e4:n - 0=low + 1:=by omega
    rw [e3,e4]
    exact rep_loop A low u
  ·have hd2:0<d∨endless=false:=by
      cases endless with
      | false=>exact .inr rfl
      | true=>exact .inl (by rcases Nat.eq_zero_or_pos d with e | e; (· exact absurd ⟨rfl,e⟩ hend); exact e)
   have J:=frag_join (p:=p) hp r1 e0.fresh hlo x1 hf hone
   have JR:=rch_join (a:=all) (b:={ (rec p).1 with empty:=decide (low<n - d) || (rec p).1.empty }) r1 e0.fresh x1 hf hone hR x3 hAll
   obtain ⟨j1,j2,j3⟩:=join_ok (p:=(rec p).2) (a:=all) (b:={ (rec p).1 with empty:=decide (low<n - d) || (rec p).1.empty }) r1 (hs.mono x1.size) r2
   unfold copies
   simp only [if_neg hend]
   refine copies_frag hr hl low endless n he hA p0 d _ _ (by omega) j1 j2 ?_ (by rw [j3,r3]; omega) hd2 (J.iff fun u=>?_) JR
   ·refine link_ext e1 r1 (fun i h=>(hf.lst i h).1) (fun k h=>?_)
    have:=x2.fst k h
    exact ⟨by omega,this.2⟩
   ·rw [← hk]
    exact rep_step A low (n - (d + 1)) u
theorem layByte_frag (ins:List Bool) (hi:ins.length=256) (hany:∃ c:UInt8,ins.getD c.toNat false=true):LayL 1 (layByte ins) (fun u=>∃ c:UInt8,u=[c]∧ins.getD c.toNat false=true):=by
 intro p hp fp hs
 have tk:∀ (c:Nat) (i:Nat),((layByte ins p).2.takes.getD c 0).testBit i=((p.takes.getD c 0).testBit i || (ins.getD c false && decide (i=p.size))):=by
  intro c i
  show ((tab 256 fun i=>if i<256∧ins.getD i false=true then p.takes.getD i 0 ||| 2 ^ p.size else p.takes.getD i 0).getD c 0).testBit i=_
  rw [getD_tab]
  by_cases hc:c<256
  ·rw [if_pos hc]
   by_cases hin:ins.getD c false=true
   ·rw [if_pos ⟨hc,hin⟩,Nat.testBit_or,Nat.testBit_two_pow,hin]
    congr 1
    simp [eq_comm]
   ·rw [if_neg (fun g=>hin g.2),Bool.eq_false_iff.2 hin]
    simp
  ·rw [if_neg hc]
   rw [List.getD_eq_getElem?_getD,List.getD_eq_getElem?_getD,List.getElem?_eq_none (by rw [hp.tlen]; omega),List.getElem?_eq_none (by rw [hi]; omega)]
   simp
 have sz:(layByte ins p).2.size=p.size + 1:=rfl
 refine ⟨⟨by rw [sz]; omega,fun k _=>rfl,fun c i h=>?_,fun k hk i g=>?_,fun k hk=>fp k (by rw [sz] at hk; omega)⟩,⟨fun i h=>?_,fun i h=>?_,?_,fun u hu=>?_⟩,fun i g1 g2=>?_⟩
 ·rw [tk,decide_eq_false (by omega)]; simp
 ·have:=fp.ed (i:=i) (k:=k) g
  omega
 ·have h2:(2 ^ p.size).testBit i=true:=h
  rw [Nat.testBit_two_pow] at h2
  have:=of_decide_eq_true h2
  rw [sz]; omega
 ·have h2:(2 ^ p.size).testBit i=true:=h
  rw [Nat.testBit_two_pow] at h2
  have:=of_decide_eq_true h2
  rw [sz]; omega
 ·show false=true ↔ _
  simp
 ·have bit:∀ i,(2 ^ p.size).testBit i=true ↔ p.size=i:=fun i=>by rw [Nat.testBit_two_pow]; simp
  have no:∀ k,¬ Ed (layByte ins p).2 p.size k:=by
   intro k g
   have:=hp.ed (i:=p.size) (k:=k) g
   omega
  have hz:∀ c:UInt8,Tk (layByte ins p).2 p.size c ↔ ins.getD c.toNat false=true:=by
   intro c
   unfold Tk
   rw [tk,decide_eq_true rfl]
   have:(p.takes.getD c.toNat 0).testBit p.size=false:=by
    cases e:(p.takes.getD c.toNat 0).testBit p.size with
    | false=>rfl
    | true=>exact absurd (bit_lt (hp.t _) e) (by omega)
   rw [this]; simp
  constructor
  ·rintro ⟨c,rfl,h⟩
   exact ⟨p.size,p.size,(bit _).2 rfl,(bit _).2 rfl,(hz c).2 h,.inl ⟨rfl,rfl⟩⟩
  ·rintro ⟨i,j,h1,h2,h3⟩
   have h1:=(bit i).1 h1
   subst h1
   cases u with
   | nil=>exact absurd rfl hu
   | cons c u =>
    obtain ⟨g1,⟨rfl,_⟩ | ⟨k,g2,_⟩⟩:=h3
    ·exact ⟨c,rfl,(hz c).1 g1⟩
    ·exact absurd g2 (no k)
 ·obtain rfl:i=p.size:=by rw [sz] at g2; omega
  obtain ⟨c,hc⟩:=hany
  refine ⟨[c],p.size,by show (2 ^ p.size).testBit p.size=true; rw [Nat.testBit_two_pow]; simp,?_,.inl ⟨rfl,rfl⟩⟩
  unfold Tk
  rw [tk,decide_eq_true rfl,hc]
  simp
/-! the pattern made -/
theorem aheadTo_bit (p:Pat) (s i:Nat):∀ k,(aheadTo p s k).testBit i=true ↔ ∃ j,j<k∧s.testBit j=true∧(p.ahead.getD j 0).testBit i=true
 | 0=>by simp [aheadTo]
 | k + 1=>by
  unfold aheadTo
  split
  ·next h =>
   rw [Nat.testBit_or,Bool.or_eq_true,aheadTo_bit p s i k]
   constructor
   ·rintro (⟨j,a,b⟩ | g)
    ·exact ⟨j,by omega,b⟩
    ·exact ⟨k,by omega,h,g⟩
   ·rintro ⟨j,a,b,c⟩
    rcases Nat.lt_or_ge j k with g | g
    ·exact .inl ⟨j,g,b,c⟩
    ·have:j=k:=by omega
     subst this
     exact .inr c
  ·next h =>
   rw [aheadTo_bit p s i k]
   constructor
   ·rintro ⟨j,a,b⟩
    exact ⟨j,by omega,b⟩
   ·rintro ⟨j,a,b,c⟩
    rcases Nat.lt_or_ge j k with g | g
    ·exact ⟨j,g,b,c⟩
    ·have:j=k:=by omega
     subst this
     exact absurd b h
theorem set0_getD (l:List Nat) (x k:Nat) (h:0<l.length):(l.set 0 x).getD k 0=if k=0 then x else l.getD k 0:=by
 cases l with
 | nil=>simp at h
 | cons a l =>
  cases k with
  | zero=>simp
  | succ k=>simp
theorem pl_paths {q:Pat} {a:Span} {A:Lang} (hq:PatOk q) (h1:Fresh q) (h0:∀ c,(q.takes.getD c 0).testBit 0=false) (x:Nat) :
    ∀ u:List UInt8,u ≠ []→∀ i,(pl { q with begins:=x,ahead:=q.ahead.set 0 a.last } u).testBit i=true ↔ ∃ j,a.last.testBit j=true∧Path (Ed q) (Tk q) u i j:=by
 intro u
 induction u with
 | nil=>intro h; exact absurd rfl h
 | cons c u ih =>
  intro _ i
  unfold pl aheadOf
  rw [Nat.testBit_and,Bool.and_eq_true,aheadTo_bit]
  have hl:0<q.ahead.length:=by rw [hq.alen]; decide
  simp only [set0_getD _ _ _ hl]
  cases u with
  | nil =>
   simp only [pl]
   constructor
   ·rintro ⟨⟨j,a1,a2,a3⟩,a4⟩
    have hj:j=0:=by
     rw [show (1:Nat)=2 ^ 0 from rfl,Nat.testBit_two_pow] at a2
     simpa [eq_comm] using a2
    subst hj
    exact ⟨i,by simpa using a3,a4,.inl ⟨rfl,rfl⟩⟩
   ·rintro ⟨j,a1,a2,⟨_,rfl⟩ | ⟨k,_,a3⟩⟩
    ·exact ⟨⟨0,hq.pos,by simp,by simpa using a1⟩,a2⟩
    ·exact a3.elim
  | cons d v =>
   have ih:=ih (List.cons_ne_nil _ _)
   constructor
   ·rintro ⟨⟨k,a1,a2,a3⟩,a4⟩
    obtain ⟨j,b1,b2⟩:=(ih k).1 a2
    have hk:k ≠ 0:=by
     intro e
     subst e
     have:Tk q 0 d:=b2.1
     unfold Tk at this
     rw [h0] at this
     cases this
    rw [if_neg hk] at a3
    exact ⟨j,b1,a4,.inr ⟨k,a3,b2⟩⟩
   ·rintro ⟨j,a1,a2,⟨e,_⟩ | ⟨k,a3,a4⟩⟩
    ·cases e
    ·have hk:k ≠ 0:=by
        intro e
        subst e
        have:Tk q 0 d:=a4.1
        unfold Tk at this
        rw [h0] at this
        cases this
     refine ⟨⟨k,h1.ed a3,(ih k).2 ⟨j,a1,a4⟩,?_⟩,a2⟩
     rw [if_neg hk]
     exact a3
theorem begins_acc {p q:Pat} {a:Span} {A:Lang} (hq:PatOk q) (sa:SpanOk q a) (h1:Fresh q) (h0:∀ c,(q.takes.getD c 0).testBit 0=false) (h:Frag 1 q a A) (u:List UInt8) (hu:u ≠ []) :
    acc { q with begins:=a.first,ahead:=q.ahead.set 0 a.last } u=true ↔ A u:=by
 have key:=pl_paths (a:=a) (A:=A) hq h1 h0 a.first
 rw [h.words u hu]
 unfold acc
 rw [bne_iff_ne]
 constructor
 ·intro g
  obtain ⟨i,hi⟩:=Nat.exists_testBit_of_ne_zero g
  rw [Nat.testBit_and,Bool.and_eq_true] at hi
  obtain ⟨j,b1,b2⟩:=(key u hu i).1 hi.1
  exact ⟨i,j,hi.2,b1,b2⟩
 ·rintro ⟨i,j,g1,g2,g3⟩ e
  have:(pl { q with begins:=a.first,ahead:=q.ahead.set 0 a.last } u &&& a.first).testBit i=true:=by
   rw [Nat.testBit_and,Bool.and_eq_true]
   exact ⟨(key u hu i).2 ⟨j,g2,g3⟩,g1⟩
  have e2:pl { q with begins:=a.first,ahead:=q.ahead.set 0 a.last } u &&& a.first=0:=e
  rw [e2,Nat.zero_testBit] at this
  cases this
theorem pl_tail_iff {q:Pat} {a:Span} {A:Lang} (hq:PatOk q) (h1:Fresh q) (h0:∀ c,(q.takes.getD c 0).testBit 0=false) (h:Frag 1 q a A) (hr:Rch 1 q a) (w:List UInt8) (hw:w ≠ []) :
    pl { q with begins:=a.first,ahead:=q.ahead.set 0 a.last } w ≠ 0 ↔ ∃ v,A (v ++ w):=by
 have key:=pl_paths (a:=a) (A:=A) hq h1 h0 a.first w hw
 constructor
 ·intro g
  obtain ⟨i,hi⟩:=Nat.exists_testBit_of_ne_zero g
  obtain ⟨k,hk,hp⟩:=(key i).1 hi
  have hi0:1≤i∧i<q.size:=by
   cases w with
   | nil=>exact absurd rfl hw
   | cons c w =>
    have ht:Tk q i c:=hp.1
    refine ⟨?_,hq.tk ht⟩
    rcases Nat.eq_zero_or_pos i with e | e
    ·subst e
     unfold Tk at ht
     rw [h0] at ht
     cases ht
    ·exact e
  obtain ⟨u,j,hj,hu⟩:=hr i hi0.1 hi0.2
  obtain ⟨v,hv⟩:=path_swap u w j i k hu hp
  exact ⟨v,(h.words _ (path_ne hv)).2 ⟨j,k,hj,hk,hv⟩⟩
 ·rintro ⟨v,hv⟩ e
  obtain ⟨j,k,hj,hk,hp⟩:=(h.words _ (by simp [hw])).1 hv
  obtain ⟨i,hi⟩:=path_tail v w j k hw hp
  have:=(key i).2 ⟨k,hk,hi⟩
  rw [e,Nat.zero_testBit] at this
  cases this
end Go.Proofs.Ytjmkkkfloalliab.Q
namespace Go.Proofs.Ytjmkkkfloalliab.Q
set_option linter.unusedVariables false
structure Den where
 lang:Lang
 some:Bool
 empty:Bool
 places:Nat
def cutP (s:Bool) (n:Nat):Nat:=if s=false then 0 else if 48<n then 49 else n
def dEps:Den:=⟨fun u=>u=[],true,true,0⟩
def dByte (ins:List Bool):Den:=⟨fun u=>∃ c:UInt8,u=[c]∧ins.getD c.toNat false=true,anyIn ins,false,cutP (anyIn ins) 1⟩
def dCat (a b:Den):Den:=⟨Cat a.lang b.lang,a.some && b.some,a.empty && b.empty,cutP (a.some && b.some) (a.places + b.places)⟩
def dAlt (a b:Den):Den:=⟨fun u=>a.lang u∨b.lang u,a.some || b.some,a.empty || b.empty,cutP (a.some || b.some) (a.places + b.places)⟩
def dRep (a:Den) (low high:Nat) (endless:Bool):Den :=
 ⟨fun u=>∃ m,low≤m∧(endless=true∨m≤high)∧Pow a.lang m u,a.some || decide (low=0),a.empty || decide (low=0),cutP (a.some || decide (low=0)) (a.places * (if endless then low + 1 else high))⟩
structure Fine (d:Den):Prop where
 emp:d.empty=true ↔ d.lang []
 som:d.some=false→∀ u,¬ d.lang u
 pla:d.places=0→∀ u,d.lang u→u=[]
 inh:d.some=true→∃ u,d.lang u
theorem cutP_zero {s:Bool} {n:Nat} (h:cutP s n=0):s=false∨(s=true∧n=0):=by
 unfold cutP at h
 cases s with
 | false=>exact .inl rfl
 | true =>
  right
  rw [if_neg (by decide)] at h
  split at h
  ·omega
  ·exact ⟨rfl,h⟩
theorem cutP_some {s:Bool} {n:Nat} (h:cutP s n ≠ 0) (h2:cutP s n≤48):s=true∧cutP s n=n:=by
 unfold cutP at h h2 ⊢
 cases s with
 | false=>exact absurd rfl h
 | true =>
  refine ⟨rfl,?_⟩
  rw [if_neg (by decide)] at h h2 ⊢
  split
  ·next g=>rw [if_pos g] at h2; omega
  ·rfl
theorem fine_eps:Fine dEps:=⟨by simp [dEps],fun h=>(by cases h),fun _ u h=>h,fun _=>⟨[],rfl⟩⟩
theorem any_byte {ins:List Bool} (hi:ins.length=256) (h:anyIn ins=true):∃ c:UInt8,ins.getD c.toNat false=true:=by
 obtain ⟨b,hb,e⟩:=List.any_eq_true.1 h
 have e2:b=true:=e
 subst e2
 obtain ⟨i,hi2,he⟩:=List.getElem_of_mem hb
 refine ⟨UInt8.ofNat i,?_⟩
 have hn:(UInt8.ofNat i).toNat=i:=by rw [UInt8.toNat_ofNat']; exact Nat.mod_eq_of_lt (by omega)
 rw [hn,List.getD_eq_getElem?_getD,List.getElem?_eq_getElem hi2,he]
 rfl
theorem fine_byte (ins:List Bool) (hi:ins.length=256):Fine (dByte ins):=by
 have key:anyIn ins=false→∀ u,¬ (dByte ins).lang u:=by
  rintro h u ⟨c,rfl,g⟩
  rw [List.getD_eq_getElem?_getD] at g
  cases e:ins[c.toNat]? with
  | none=>rw [e] at g; cases g
  | some b =>
   rw [e] at g
   have g2:b=true:=g
   subst g2
   have:=List.any_eq_false.1 h true (List.mem_of_getElem? e)
   simp at this
 refine ⟨by simp [dByte],key,fun h u g=>?_,fun h=>?_⟩
 ·rcases cutP_zero h with h | ⟨_,h⟩
  ·exact absurd g (key h u)
  ·cases h
 ·obtain ⟨c,hc⟩:=any_byte hi h
  exact ⟨[c],c,rfl,hc⟩
theorem fine_cat {a b:Den} (ha:Fine a) (hb:Fine b):Fine (dCat a b):=by
 have key:(a.some && b.some)=false→∀ u,¬ (dCat a b).lang u:=by
  rintro h u ⟨x,y,rfl,g1,g2⟩
  rw [Bool.and_eq_false_iff] at h
  rcases h with h | h
  ·exact ha.som h x g1
  ·exact hb.som h y g2
 refine ⟨?_,key,fun h u g=>?_,fun h=>?_⟩
 ·show (a.empty && b.empty)=true ↔ _
  rw [Bool.and_eq_true,ha.emp,hb.emp]
  constructor
  ·rintro ⟨h,g⟩; exact ⟨[],[],rfl,h,g⟩
  ·rintro ⟨x,y,e,h,g⟩
   have:=List.append_eq_nil_iff.1 e.symm
   rw [this.1] at h
   rw [this.2] at g
   exact ⟨h,g⟩
 ·rcases cutP_zero h with h | ⟨_,h⟩
  ·exact absurd g (key h u)
  ·obtain ⟨x,y,rfl,g1,g2⟩:=g
   rw [ha.pla (by omega) x g1,hb.pla (by omega) y g2]
   rfl
 ·obtain ⟨h1,h2⟩:=Bool.and_eq_true_iff.1 (show (a.some && b.some)=true from h)
  obtain ⟨x,hx⟩:=ha.inh h1
  obtain ⟨y,hy⟩:=hb.inh h2
  exact ⟨x ++ y,x,y,rfl,hx,hy⟩
theorem fine_alt {a b:Den} (ha:Fine a) (hb:Fine b):Fine (dAlt a b):=by
 have key:(a.some || b.some)=false→∀ u,¬ (dAlt a b).lang u:=by
  intro h u g
  rw [Bool.or_eq_false_iff] at h
  rcases g with g | g
  ·exact ha.som h.1 u g
  ·exact hb.som h.2 u g
 refine ⟨?_,key,fun h u g=>?_,fun h=>?_⟩
 ·show (a.empty || b.empty)=true ↔ _
  rw [Bool.or_eq_true,ha.emp,hb.emp]
  exact Iff.rfl
 ·rcases cutP_zero h with h | ⟨_,h⟩
  ·exact absurd g (key h u)
  ·rcases g with g | g
   ·exact ha.pla (by omega) u g
   ·exact hb.pla (by omega) u g
 ·rcases Bool.or_eq_true_iff.1 (show (a.some || b.some)=true from h) with h1 | h1
  ·obtain ⟨x,hx⟩:=ha.inh h1
   exact ⟨x,.inl hx⟩
  ·obtain ⟨x,hx⟩:=hb.inh h1
   exact ⟨x,.inr hx⟩
theorem pow_small {A:Lang} (h:∀ u,A u→u=[]):∀ m u,Pow A m u→u=[]
 | 0,u,g=>g
 | m + 1,u,⟨x,y,e,g1,g2⟩=>by rw [e,h x g1,pow_small h m y g2]; rfl
theorem fine_rep {a:Den} {low high:Nat} {endless:Bool} (ha:Fine a) (hb:endless=true∨low≤high):Fine (dRep a low high endless):=by
 have key:(a.some || decide (low=0))=false→∀ u,¬ (dRep a low high endless).lang u:=by
  rintro h u ⟨m,g1,g2,g3⟩
  rw [Bool.or_eq_false_iff] at h
  have h2:=of_decide_eq_false h.2
  obtain ⟨n,rfl⟩:∃ n,m=n + 1:=⟨m - 1,by omega⟩
  obtain ⟨x,y,_,g,_⟩:=g3
  exact ha.som h.1 x g
 refine ⟨?_,key,fun h u g=>?_,fun h=>?_⟩
 ·show (a.empty || decide (low=0))=true ↔ _
  rw [Bool.or_eq_true,ha.emp,decide_eq_true_eq]
  constructor
  ·rintro (h | h)
   ·exact ⟨low,Nat.le_refl _,hb,pow_nil h low⟩
   ·exact ⟨0,by omega,.inr (Nat.zero_le _),rfl⟩
  ·rintro ⟨m,g1,g2,g3⟩
   cases m with
   | zero=>right; omega
   | succ m =>
    left
    obtain ⟨x,y,e,g,_⟩:=g3
    rw [(List.append_eq_nil_iff.1 e.symm).1] at g
    exact g
 ·rcases cutP_zero h with h | ⟨_,h⟩
  ·exact absurd g (key h u)
  ·obtain ⟨m,g1,g2,g3⟩:=g
   rcases Nat.mul_eq_zero.1 h with h | h
   ·exact pow_small (ha.pla h) m u g3
   ·cases endless with
    | true=>simp at h
    | false =>
     have hh:high=0:=by simpa using h
     have hm:m=0:=by
      rcases g2 with g2 | g2
      ·cases g2
      ·omega
     subst hm
     exact g3
 ·rcases Bool.or_eq_true_iff.1 (show (a.some || decide (low=0))=true from h) with h1 | h1
  ·obtain ⟨x,hx⟩:=ha.inh h1
   have pw:∀ m,∃ v,Pow a.lang m v:=by
    intro m
    induction m with
    | zero=>exact ⟨[],rfl⟩
    | succ m ih =>
     obtain ⟨v,hv⟩:=ih
     exact ⟨x ++ v,x,v,rfl,hx,hv⟩
   obtain ⟨v,hv⟩:=pw low
   exact ⟨v,low,Nat.le_refl _,hb,hv⟩
  ·have:=of_decide_eq_true h1
   exact ⟨[],0,by omega,.inr (Nat.zero_le _),rfl⟩
theorem at_new (ps:List Part) (x:Part):at_ (ps ++ [x]) ps.length=x:=by
 unfold at_
 rw [List.getD_eq_getElem?_getD,List.getElem?_append_right (Nat.le_refl _)]
 simp
section
variable {ps:List Part} {f n:Nat} {p:Pat}
theorem lay_none (h0:(at_ ps n).places=0):lay ps (f + 1) n p=(⟨0,0,(at_ ps n).empty⟩,p):=by unfold lay; rw [if_pos h0]
theorem lay_two (h0:(at_ ps n).places ≠ 0) (h2:(at_ ps n).kind=2):lay ps (f + 1) n p=join (lay ps f (at_ ps n).left p).1 (lay ps f (at_ ps n).right (lay ps f (at_ ps n).left p).2).1 (lay ps f (at_ ps n).right (lay ps f (at_ ps n).left p).2).2:=by
 conv=>lhs; unfold lay
 rw [if_neg h0,if_pos h2]
theorem lay_three (h0:(at_ ps n).places ≠ 0) (h2:(at_ ps n).kind=3):lay ps (f + 1) n p=(either (lay ps f (at_ ps n).left p).1 (lay ps f (at_ ps n).right (lay ps f (at_ ps n).left p).2).1,(lay ps f (at_ ps n).right (lay ps f (at_ ps n).left p).2).2):=by
 conv=>lhs; unfold lay
 rw [if_neg h0,if_neg (by omega),if_pos h2]
theorem lay_four (h0:(at_ ps n).places ≠ 0) (h2:(at_ ps n).kind=4):lay ps (f + 1) n p=copies (lay ps f (at_ ps n).left) (at_ ps n).low (at_ ps n).endless (at_ ps n).copies (at_ ps n).copies ⟨0,0,true⟩ p:=by
 conv=>lhs; unfold lay
 rw [if_neg h0,if_neg (by omega),if_neg (by omega),if_pos h2]
theorem lay_byte (h0:(at_ ps n).places ≠ 0) (h2:(at_ ps n).kind=1):lay ps (f + 1) n p=layByte (at_ ps n).ins p:=by
 conv=>lhs; unfold lay
 rw [if_neg h0,if_neg (by omega),if_neg (by omega),if_neg (by omega)]
end
theorem lay_app {ps:List Part} (hps:PartsOk ps) (l:List Part):∀ f n,n<ps.length→lay (ps ++ l) f n=lay ps f n
 | 0,n,_=>rfl
 | f + 1,n,hn=>by
  funext p
  have k:=(hps.get n hn).1
  unfold lay
  rw [at_app ps l n hn]
  by_cases h0:(at_ ps n).places=0
  ·rw [if_pos h0,if_pos h0]
  rw [if_neg h0,if_neg h0]
  by_cases h2:(at_ ps n).kind=2
  ·have hl:=k.left (by omega)
   have hr:=k.right (.inl h2)
   rw [if_pos h2,if_pos h2,lay_app hps l f _ (by omega),lay_app hps l f _ (by omega)]
  rw [if_neg h2,if_neg h2]
  by_cases h3:(at_ ps n).kind=3
  ·have hl:=k.left (by omega)
   have hr:=k.right (.inr h3)
   rw [if_pos h3,if_pos h3,lay_app hps l f _ (by omega),lay_app hps l f _ (by omega)]
  rw [if_neg h3,if_neg h3]
  by_cases h4:(at_ ps n).kind=4
  ·have hl:=k.left (by omega)
   rw [if_pos h4,if_pos h4,lay_app hps l f _ (by omega)]
  rw [if_neg h4,if_neg h4]
structure Spec (ps:List Part) (n:Nat) (d:Den):Prop where
 lt:n<ps.length
 som:(at_ ps n).some=d.some
 emp:(at_ ps n).empty=d.empty
 pla:(at_ ps n).places=d.places
 fine:Fine d
 lay:∀ f,n<f→LayL d.places (lay ps f n) d.lang
theorem Spec.app {ps:List Part} {n:Nat} {d:Den} (h:Spec ps n d) (hps:PartsOk ps) (l:List Part):Spec (ps ++ l) n d:=by
 have e:=at_app ps l n h.lt
 refine ⟨by simp; have:=h.lt; omega,by rw [e]; exact h.som,by rw [e]; exact h.emp,by rw [e]; exact h.pla,h.fine,fun f hf=>?_⟩
 rw [lay_app hps l f n h.lt]
 exact h.lay f hf
theorem layL_zero {d:Den} {rec:Pat→Span × Pat} (hf:Fine d) (h0:d.places=0) (h:∀ p,rec p=(⟨0,0,d.empty⟩,p)):LayL d.places rec d.lang:=by
 intro p hp fp _
 rw [h p]
 refine ⟨Ext.refl fp,frag_none _ _ _ fun u=>?_,fun i g1 g2=>absurd g2 (by show ¬ i<p.size; omega)⟩
 rw [hf.emp]
 constructor
 ·intro g
  have:=hf.pla h0 u g
  subst this
  exact ⟨rfl,g⟩
 ·rintro ⟨rfl,g⟩
  exact g
theorem spec_eps {ps:List Part} (hps:PartsOk ps):Spec (ps ++ [fill ps (mk 0 0 0)]) ps.length dEps:=by
 refine ⟨by simp,by rw [at_new]; rfl,by rw [at_new]; rfl,by rw [at_new]; rfl,fine_eps,fun f hf=>?_⟩
 obtain ⟨f,rfl⟩:∃ g,f=g + 1:=⟨f - 1,by omega⟩
 refine layL_zero fine_eps rfl fun p=>?_
 rw [lay_none (by rw [at_new]; rfl),at_new]
 rfl
theorem spec_byte {ps:List Part} (hps:PartsOk ps) {q:Part} (hk:q.kind=1) (hs:q.some=false) (he:q.empty=false) (hi:q.ins.length=256):Spec (ps ++ [fill ps q]) ps.length (dByte q.ins):=by
 have e:fill ps q={ q with some:=anyIn q.ins,places:=cutP (anyIn q.ins) 1 }:=by
  unfold fill known
  rw [if_neg (by omega),if_pos hk]
  simp [cut,cutP,hs]
 refine ⟨by simp,by rw [at_new,e]; rfl,by rw [at_new,e]; exact he,by rw [at_new,e]; rfl,fine_byte _ hi,fun f hf=>?_⟩
 obtain ⟨f,rfl⟩:∃ g,f=g + 1:=⟨f - 1,by omega⟩
 by_cases h0:(dByte q.ins).places=0
 ·refine layL_zero (fine_byte _ hi) h0 fun p=>?_
  rw [lay_none (by rw [at_new,e]; exact h0),at_new,e]
  show (Span.mk 0 0 q.empty,p)=_
  rw [he]
  rfl
 ·intro p hp fp hz
  have hpl:(dByte q.ins).places≤48:=by have:=hp.pos; omega
  obtain ⟨c1,c2⟩:=cutP_some h0 hpl
  rw [lay_byte (by rw [at_new,e]; exact h0) (by rw [at_new,e]; exact hk),at_new,e]
  refine layByte_frag q.ins hi (any_byte hi c1) p hp fp ?_
  have:(dByte q.ins).places=1:=c2
  omega
section
variable {ps:List Part}
theorem spec_cat (hps:PartsOk ps) {a b:Nat} {d1 d2:Den} (ha:Spec ps a d1) (hb:Spec ps b d2):Spec (ps ++ [fill ps (mk 2 a b)]) ps.length (dCat d1 d2):=by
 have e:fill ps (mk 2 a b)={ mk 2 a b with some:=d1.some && d2.some,empty:=d1.empty && d2.empty,places:=cutP (d1.some && d2.some) (d1.places + d2.places) }:=by
  rw [← ha.som,← hb.som,← ha.emp,← hb.emp,← ha.pla,← hb.pla]; rfl
 have hF:=fine_cat ha.fine hb.fine
 refine ⟨by simp,by rw [at_new,e]; rfl,by rw [at_new,e]; rfl,by rw [at_new,e]; rfl,hF,fun f hf=>?_⟩
 obtain ⟨f,rfl⟩:∃ g,f=g + 1:=⟨f - 1,by omega⟩
 by_cases h0:(dCat d1 d2).places=0
 ·refine layL_zero hF h0 fun p=>?_
  rw [lay_none (by rw [at_new,e]; exact h0),at_new,e]
  rfl
 ·intro p hp fp hz
  have hpl:(dCat d1 d2).places≤48:=by have:=hp.pos; omega
  obtain ⟨c1,c2⟩:=cutP_some h0 hpl
  have c3:(dCat d1 d2).places=d1.places + d2.places:=c2
  rw [lay_two (by rw [at_new,e]; exact h0) (by rw [at_new,e]; rfl)]
  have hal:=ha.lt
  have hbl:=hb.lt
  have el:(at_ (ps ++ [fill ps (mk 2 a b)]) ps.length).left=a:=by rw [at_new]; rfl
  have er:(at_ (ps ++ [fill ps (mk 2 a b)]) ps.length).right=b:=by rw [at_new]; rfl
  rw [el,er]
  rw [lay_app hps _ f a hal,lay_app hps _ f b hbl]
  obtain ⟨a1,a2,a3⟩:=lay_ok hps f a (by omega) hal p hp (by rw [ha.pla]; omega)
  obtain ⟨b1,b2,b3⟩:=lay_ok hps f b (by omega) hbl _ a1 (by rw [hb.pla]; have:=ha.pla; omega)
  obtain ⟨x1,x2,x3⟩:=ha.lay f (by omega) p hp fp (by omega)
  obtain ⟨y1,y2,y3⟩:=hb.lay f (by omega) _ a1 x1.fresh (by have:=ha.pla; omega)
  refine ⟨?_,frag_join (p:=p) a1 b1 x1.fresh x1.size y1 x2 y2,rch_join b1 x1.fresh y1 x2 y2 x3 y3 (ha.fine.inh (Bool.and_eq_true_iff.1 c1).1)⟩
  refine link_ext (x1.trans y1) b1 (fun i h=>(x2.lst i h).1) (fun k h=>?_)
  have:=y2.fst k h
  have:=x1.size
  omega
theorem spec_alt (hps:PartsOk ps) {a b:Nat} {d1 d2:Den} (ha:Spec ps a d1) (hb:Spec ps b d2):Spec (ps ++ [fill ps (mk 3 a b)]) ps.length (dAlt d1 d2):=by
 have e:fill ps (mk 3 a b)={ mk 3 a b with some:=d1.some || d2.some,empty:=d1.empty || d2.empty,places:=cutP (d1.some || d2.some) (d1.places + d2.places) }:=by
  rw [← ha.som,← hb.som,← ha.emp,← hb.emp,← ha.pla,← hb.pla]; rfl
 have hF:=fine_alt ha.fine hb.fine
 refine ⟨by simp,by rw [at_new,e]; rfl,by rw [at_new,e]; rfl,by rw [at_new,e]; rfl,hF,fun f hf=>?_⟩
 obtain ⟨f,rfl⟩:∃ g,f=g + 1:=⟨f - 1,by omega⟩
 by_cases h0:(dAlt d1 d2).places=0
 ·refine layL_zero hF h0 fun p=>?_
  rw [lay_none (by rw [at_new,e]; exact h0),at_new,e]
  rfl
 ·intro p hp fp hz
  have hpl:(dAlt d1 d2).places≤48:=by have:=hp.pos; omega
  obtain ⟨c1,c2⟩:=cutP_some h0 hpl
  have c3:(dAlt d1 d2).places=d1.places + d2.places:=c2
  rw [lay_three (by rw [at_new,e]; exact h0) (by rw [at_new,e]; rfl)]
  have hal:=ha.lt
  have hbl:=hb.lt
  have el:(at_ (ps ++ [fill ps (mk 3 a b)]) ps.length).left=a:=by rw [at_new]; rfl
  have er:(at_ (ps ++ [fill ps (mk 3 a b)]) ps.length).right=b:=by rw [at_new]; rfl
  rw [el,er]
  rw [lay_app hps _ f a hal,lay_app hps _ f b hbl]
  obtain ⟨a1,a2,a3⟩:=lay_ok hps f a (by omega) hal p hp (by rw [ha.pla]; omega)
  obtain ⟨x1,x2,x3⟩:=ha.lay f (by omega) p hp fp (by omega)
  obtain ⟨y1,y2,y3⟩:=hb.lay f (by omega) _ a1 x1.fresh (by have:=ha.pla; omega)
  exact ⟨x1.trans y1,frag_either a1 x1.fresh x1.size y1 x2 y2,rch_either x1.fresh y1 x2 x3 y3⟩
theorem spec_rep (hps:PartsOk ps) {q:Part} {d:Den} (hk:q.kind=4) (ha:Spec ps q.left d) (hb:q.endless=true∨q.low≤q.high):Spec (ps ++ [fill ps q]) ps.length (dRep d q.low q.high q.endless):=by
 have e:fill ps q={ q with some:=d.some || decide (q.low=0),empty:=d.empty || decide (q.low=0),places:=cutP (d.some || decide (q.low=0)) (d.places * (if q.endless then q.low + 1 else q.high)) }:=by
  rw [← ha.som,← ha.emp,← ha.pla]
  unfold fill known
  rw [if_neg (by omega),if_neg (by omega),if_neg (by omega),if_neg (by omega)]
  rfl
 have hF:=fine_rep (low:=q.low) (high:=q.high) (endless:=q.endless) ha.fine hb
 refine ⟨by simp,by rw [at_new,e]; rfl,by rw [at_new,e]; rfl,by rw [at_new,e]; rfl,hF,fun f hf=>?_⟩
 obtain ⟨f,rfl⟩:∃ g,f=g + 1:=⟨f - 1,by omega⟩
 by_cases h0:(dRep d q.low q.high q.endless).places=0
 ·refine layL_zero hF h0 fun p=>?_
  rw [lay_none (by rw [at_new,e]; exact h0),at_new,e]
  rfl
 ·intro p hp fp hz
  have hpl:(dRep d q.low q.high q.endless).places≤48:=by have:=hp.pos; omega
  obtain ⟨c1,c2⟩:=cutP_some h0 hpl
  have c3:(dRep d q.low q.high q.endless).places=d.places * (if q.endless then q.low + 1 else q.high):=c2
  have c4:(if q.endless=true then q.low + 1 else q.high) ≠ 0:=by
   intro e
   rw [e,Nat.mul_zero] at c3
   exact h0 c3
  have hal:=ha.lt
  rw [lay_four (by rw [at_new,e]; exact h0) (by rw [at_new,e]; exact hk)]
  have el:(at_ (ps ++ [fill ps q]) ps.length).left=q.left:=by rw [at_new,e]
  have e5:(at_ (ps ++ [fill ps q]) ps.length).low=q.low:=by rw [at_new,e]
  have e6:(at_ (ps ++ [fill ps q]) ps.length).endless=q.endless:=by rw [at_new,e]
  have hc:(at_ (ps ++ [fill ps q]) ps.length).copies=(if q.endless then q.low + 1 else q.high):=by rw [at_new,e]; rfl
  rw [el,e5,e6,hc,lay_app hps _ f q.left hal]
  generalize hn:(if q.endless=true then q.low + 1 else q.high)=n at *
  have hpos:0<2 ^ p.size:=Nat.pow_pos (by decide)
  have hL:=lay_ok hps f q.left (by omega) hal
  rw [ha.pla] at hL
  have hin:∃ u,d.lang u:=by
   cases hsm:d.some with
   | true=>exact ha.fine.inh hsm
   | false =>
    exfalso
    have h5:=ha.pla
    have h6:d.places=0:=by
     have h7:=(hps.get q.left hal).2
     have h8:=congrArg Part.places h7
     have h9:=congrArg Part.some h7
     rw [ha.som,hsm] at h9
     rw [← ha.pla,← h8]
     show (if (known ps (at_ ps q.left)).some=false then 0 else _)=0
     exact if_pos h9
    rw [h6,Nat.zero_mul] at c3
    exact h0 c3
  obtain ⟨x1,x2,x3⟩:=copies_frag hL (ha.lay f (by omega)) q.low q.endless n (fun h=>by rw [h] at hn; simpa using hn.symm) hin p n ⟨0,0,true⟩ p (Nat.le_refl _) hp ⟨hpos,hpos⟩ (Ext.refl fp) (by omega) (.inl (by omega)) ((frag_eps p.size).iff fun u=>by
   rw [Nat.sub_self]
   constructor
   ·intro h; exact ⟨0,by omega,by omega,h⟩
   ·rintro ⟨m,_,h2,h3⟩
    have:m=0:=by omega
    subst this
    exact h3) (fun i g1 g2=>absurd g2 (by omega))
  refine ⟨x1,x2.iff fun u=>?_,x3⟩
  cases he:q.endless with
  | true =>
   simp only [if_true]
   show _ ↔ ∃ m,_∧_∧_
   simp
  | false =>
   have hnh:n=q.high:=by rw [he] at hn; simpa using hn.symm
   have hlh:q.low≤q.high:=by rcases hb with h | h; (· rw [he] at h; cases h); exact h
   simp only [Bool.false_eq_true,if_false]
   show Rep d.lang q.low n u ↔ ∃ m,_∧_∧_
   constructor
   ·rintro ⟨m,h1,h2,h3⟩
    exact ⟨m,by omega,.inr (by omega),h3⟩
   ·rintro ⟨m,h1,h2 | h2,h3⟩
    ·cases h2
    ·exact ⟨m,by omega,by omega,h3⟩
end
theorem spec_acc {ps:List Part} {top:Nat} {d:Den} (hps:PartsOk ps) (h:Spec ps top d) (hp:d.places≤48) (u:List UInt8) (hu:u ≠ []):(acc (newPattern ps top) u=true ↔ d.lang u)∧(pl (newPattern ps top) u ≠ 0 ↔ ∃ v,d.lang (v ++ u)):=by
 have f0:Fresh pat0:=by
  intro k hk
  show (List.replicate 49 0).getD k 0=0
  rw [List.getD_eq_getElem?_getD,List.getElem?_replicate]
  split <;> rfl
 have hz:pat0.size + d.places≤49:=by show 1 + _≤49; omega
 obtain ⟨a1,a2,a3⟩:=lay_ok hps (top + 1) top (by omega) h.lt pat0 pat0_ok (by rw [h.pla]; exact hz)
 obtain ⟨x1,x2,x3⟩:=h.lay (top + 1) (by omega) pat0 pat0_ok f0 hz
 have hz0:∀ c,((lay ps (top + 1) top pat0).2.takes.getD c 0).testBit 0=false:=by
  intro c
  rw [x1.tk c 0 (by decide)]
  show ((List.replicate 256 0).getD c 0).testBit 0=false
  rw [List.getD_eq_getElem?_getD,List.getElem?_replicate]
  split <;> simp
 exact ⟨begins_acc (p:=pat0) a1 a2 x1.fresh hz0 x2 u hu,pl_tail_iff a1 x1.fresh hz0 x2 x3 u hu⟩
end Go.Proofs.Ytjmkkkfloalliab.Q
