import Derived.Test.YtjmkkkfloalliabZ10
import Derived.WalkSpells
import Derived.BigQuiet
namespace Go.Proofs.Ytjmkkkfloalliab
set_option linter.unusedVariables false
open Go.RowKit
set_option maxRecDepth 100000 in
set_option maxHeartbeats 3200000 in
theorem repeat_any (x:Tb) (D:Nat→G.Rx) (F f:Nat) (r:G.Rx) (hE:EndC x D F f r) (v:Value) (hv:ReAt x.w0 f r v) (n:Nat) (hn:n=x.t.size + 1) (hn2:n≤1001) (w:World) (av:List Nat) (g gf:Nat) (A0 Fm:List Bool) (P0 P1:Nat→Prop)
    (hM:Mem x (VN x.t.data.toList D F) w (g :: av)) (hA:Bools w g A0) (hF:Bools w gf Fm) (rA:RowIs n A0 P0) (rF:RowIs n Fm P1) (hne:g ≠ gf) (hgf:x.s0 + 2 * x.N≤gf) (lo hi:Int) (l0:0≤lo) (l1:lo≤99) (l2 : -1≤hi) (l3:hi≤99) (mo:Nat) (hmo:mo=if hi<0 then lo.toNat + x.t.size + 1 else hi.toNat) :
    Calls Try.prog 105 #[.pointer (some ⟨x.bm,0,none⟩),.slice (some ⟨g,0,none⟩) n n,.slice (some ⟨gf,0,none⟩) n n,v,.int .i64 lo,.int .i64 hi] w fun e w'=>e=.returned (.tuple #[]) ∧
     (∃ A1,Bools w' g A1∧RowIs n A1 (fun j=>P0 j∨∃ c,lo.toNat≤c∧c≤mo∧∃ k,k<n∧P1 k∧Q.PN x.t.data.toList D F r.id c k j))∧Mem x (VN x.t.data.toList D F) w' (g :: av)∧Keep (g :: x.S) w w':=by
 have HNn:=hid hn
 have HE:=hid hE
 have HV:=hid hv
 have HF:=hid hF
 have HA:=hid hA
 have HM:=hid hM
 have HNE:Hid (gf ≠ g):=fun e=>hne e.symm
 have HGF:=hid hgf
 have HgS2:Hid (g ∉ x.S):=hM.avS List.mem_cons_self
 have hlen:x.t.data.toList.length=x.t.size:=rfl
 have HF0:Hid (RowIs n Fm (fun j=>∃ k,k<n∧P1 k∧Q.PN x.t.data.toList D F r.id 0 k j)):=rF.congr (fun j hj=>by
  constructor
  ·intro h
   exact ⟨j,hj,h,(Q.pn_zero (by omega)).2 rfl⟩
  ·rintro ⟨k,h1,h2,h3⟩
   rw [(Q.pn_zero (by omega)).1 h3]
   exact h2)
 have HA0:Hid (RowIs n A0 (fun j=>P0 j∨∃ c',lo.toNat≤c'∧c'<0∧∃ k,k<n∧P1 k∧Q.PN x.t.data.toList D F r.id c' k j)):=rA.congr (fun j hj=>⟨.inl,by
  rintro (h | ⟨c',_,h,_⟩)
  ·exact h
  ·omega⟩)
 have c0:w.cell? ⟨x.bm,0,none⟩=some (.string x.t):=hM.mat.cell 0
 have ht2:x.t.size≤1000:=by omega
 have HT2:Hid (x.t.size≤1000):=ht2
 have hmb:mo≤1100:=by rw [hmo]; split <;> omega
 clear hE hv hF hA hM hne hgf rF rA
 by_cases hneg:hi<0
 ·have hmo2:lo + (x.t.size:Int) + 1=(mo:Int):=by rw [if_pos hneg] at hmo; omega
  clear hmo hn
  go_enter Try.func105,Try.ntmps105
  go_wp2_with fail
  try rw [hmo2]
  clear hmo2
  go_loopw [2,13] (fun fv cv wX=>∃ (c gc:Nat) (Fc A1:List Bool),c≤mo + 1∧fv=.slice (some ⟨gc,0,none⟩) n n∧cv=.int .i64 (c:Int)∧Bools wX gc Fc∧Hid (RowIs n Fc (fun j=>∃ k,k<n∧P1 k∧Q.PN x.t.data.toList D F r.id c k j))∧gc ≠ g∧x.s0 + 2 * x.N≤gc∧Bools wX g A1∧Hid (RowIs n A1 (fun j=>P0 j∨∃ c',lo.toNat≤c'∧c'<c∧∃ k,k<n∧P1 k∧Q.PN x.t.data.toList D F r.id c' k j))∧Mem x (VN x.t.data.toList D F) wX (g :: av)∧Keep (g :: x.S) w wX) (fun _ cv _=>mo + 1 - (intOf cv).toNat)
  case atStart=>exact ⟨0,gf,Fm,A0,by omega,rfl,rfl,HF.out,HF0,HNE.out,HGF.out,HA.out,HA0,HM.out,Keep.refl _ _⟩
  case round =>
   clear HF HF0 HGF HA HA0 HM HNE
   obtain ⟨c,gc,Fc,A1,hc,rfl,rfl,hFc,HFR,hgcne,hgc,hAa,HR1,hMa,hKa⟩:=hrel
   by_cases hcB:c≤mo
   ·have i1:(c:Int)≤(mo:Int):=by omega
    by_cases hcl:lo≤(c:Int)
    ·go_wp2_with fail
     refine (join_any g gc n n n A1 Fc _ hAa hFc (fun e=>hgcne e.symm) HR1.out.1 HFR.out.1 hn2).mono ?_
     rintro e w2 ⟨rfl,hA2,hK2⟩
     have HN:Hid (RowIs n (orTo A1 Fc n) (fun j=>P0 j∨∃ c',lo.toNat≤c'∧c'<c + 1∧∃ k,k<n∧P1 k∧Q.PN x.t.data.toList D F r.id c' k j)):=(rowIs_or HR1.out HFR.out).congr (fun j hj=>by
      constructor
      ·rintro ((h | ⟨c',h1,h2,h3⟩) | h)
       ·exact .inl h
       ·exact .inr ⟨c',h1,by omega,h3⟩
       ·exact .inr ⟨c,by omega,by omega,h⟩
      ·rintro (h | ⟨c',h1,h2,h3⟩)
       ·exact .inl (.inl h)
       ·rcases Nat.lt_or_ge c' c with g | g
        ·exact .inl (.inr ⟨c',h1,g,h3⟩)
        ·have:c'=c:=by omega
         subst this
         exact .inr h3)
     have hFc2:=hFc.keep hK2 (by rw [List.mem_singleton]; exact hgcne)
     have hM2:=hMa.keep hK2 (fun a ha=>by rw [List.mem_singleton] at ha; rw [ha]; exact List.mem_cons_self)
     have hKb:=hKa.trans (hK2.mono (fun k hk=>by rw [List.mem_singleton] at hk; rw [hk]; exact List.mem_cons_self))
     clear hAa hFc hMa hKa hK2 HR1
     have hAa:=hA2
     have hFc:=hFc2
     have hMa:=hM2
     have hKa:=hKb
     clear hA2 hFc2 hM2 hKb
     have hgn:=(hMa.av g List.mem_cons_self)
     go_wp2_with fail
     refine (blank_any x.bm n x.t _ _ w2 hMa.mat HT2.out).mono ?_
     rintro e w3 ⟨rfl,hN3,hK3⟩
     rw [← HNn.out] at hN3 ⊢
     have hlt3:=hN3.blk.lt
     have hM3:=hMa.fresh hK3 (Nat.le_refl _) hlt3 (by omega)
     have hG3:=hAa.keep hK3 (by simp)
     have hC3:=hFc.keep hK3 (by simp)
     have hKa3:=hKa.trans (hK3.mono (by simp))
     have n1:g ≠ w2.heap.size:=by omega
     have n2:w2.heap.size ≠ gc:=by have:=hFc.blk.lt; omega
     have n3:w.heap.size≤w2.heap.size:=hKa.size
     clear hMa hAa hFc hKa hK3
     generalize w2.heap.size=gn at *
     go_wp2_with fail
     refine (then_any x D F f r HE.out v HV.out n HNn.out hn2 w3 (g :: av) gn gc _ Fc (fun _=>False) (fun j=>∃ k,k<n∧P1 k∧Q.PN x.t.data.toList D F r.id c k j) hM3 hN3 hC3 (rowIs_none n) HFR.out n2 hgc).mono ?_
     rintro e w4 ⟨rfl,⟨A4,hA4,hR4⟩,hM4,hK4⟩
     have HR4:Hid (RowIs n A4 (fun j=>∃ k,k<n∧P1 k∧Q.PN x.t.data.toList D F r.id (c + 1) k j)):=hR4.congr (fun j hj=>by
      constructor
      ·rintro (h | ⟨k,h1,⟨k',h2,h3,h4⟩,h5⟩)
       ·exact h.elim
       ·exact ⟨k',h2,h3,Q.pn_succ.2 ⟨k,h4,h5⟩⟩
      ·rintro ⟨k',h2,h3,h4⟩
       obtain ⟨k,h5,h6⟩:=Q.pn_succ.1 h4
       exact .inr ⟨k,by have:=h5.2.1; rw [hlen] at this; have:=HNn.out; omega,⟨k',h2,h3,h5⟩,h6⟩)
     have hG4:=hG3.keep hK4 (fun hm=>(List.mem_cons.1 hm).elim n1 HgS2.out)
     have hM5:=hM4.drop
     have hgl:=(hM4.av gn List.mem_cons_self).1
     have hK5:=hKa3.trans2 hK4 (fun y hy hy2=>by
      rcases List.mem_cons.1 hy with e | e
      ·rw [e]; exact n3
      ·exact absurd (List.mem_cons_of_mem _ e) hy2)
     clear hM3 hG3 hC3 hKa3 hM4 hK4 hN3 hR4
     go_wp2
     go_roundw
     case rel=>exact ⟨c + 1,gn,A4,_,by omega,rfl,by go_num,hA4,HR4,n1.symm,hgl,hG4,HN,hM5,hK5⟩
     case measure=>simp [intOf]; omega
    ·have HN:Hid (RowIs n A1 (fun j=>P0 j∨∃ c',lo.toNat≤c'∧c'<c + 1∧∃ k,k<n∧P1 k∧Q.PN x.t.data.toList D F r.id c' k j)):=HR1.out.congr (fun j hj=>by
        constructor
        ·rintro (h | ⟨c',h1,h2,h3⟩)
         ·exact .inl h
         ·exact .inr ⟨c',h1,by omega,h3⟩
        ·rintro (h | ⟨c',h1,h2,h3⟩)
         ·exact .inl h
         ·exact .inr ⟨c',h1,by omega,h3⟩)
     clear HR1
     have hgn:=(hMa.av g List.mem_cons_self)
     go_wp2_with fail
     refine (blank_any x.bm n x.t _ _ wr hMa.mat HT2.out).mono ?_
     rintro e w3 ⟨rfl,hN3,hK3⟩
     rw [← HNn.out] at hN3 ⊢
     have hlt3:=hN3.blk.lt
     have hM3:=hMa.fresh hK3 (Nat.le_refl _) hlt3 (by omega)
     have hG3:=hAa.keep hK3 (by simp)
     have hC3:=hFc.keep hK3 (by simp)
     have hKa3:=hKa.trans (hK3.mono (by simp))
     have n1:g ≠ wr.heap.size:=by omega
     have n2:wr.heap.size ≠ gc:=by have:=hFc.blk.lt; omega
     have n3:w.heap.size≤wr.heap.size:=hKa.size
     clear hMa hAa hFc hKa hK3
     generalize wr.heap.size=gn at *
     go_wp2_with fail
     refine (then_any x D F f r HE.out v HV.out n HNn.out hn2 w3 (g :: av) gn gc _ Fc (fun _=>False) (fun j=>∃ k,k<n∧P1 k∧Q.PN x.t.data.toList D F r.id c k j) hM3 hN3 hC3 (rowIs_none n) HFR.out n2 hgc).mono ?_
     rintro e w4 ⟨rfl,⟨A4,hA4,hR4⟩,hM4,hK4⟩
     have HR4:Hid (RowIs n A4 (fun j=>∃ k,k<n∧P1 k∧Q.PN x.t.data.toList D F r.id (c + 1) k j)):=hR4.congr (fun j hj=>by
      constructor
      ·rintro (h | ⟨k,h1,⟨k',h2,h3,h4⟩,h5⟩)
       ·exact h.elim
       ·exact ⟨k',h2,h3,Q.pn_succ.2 ⟨k,h4,h5⟩⟩
      ·rintro ⟨k',h2,h3,h4⟩
       obtain ⟨k,h5,h6⟩:=Q.pn_succ.1 h4
       exact .inr ⟨k,by have:=h5.2.1; rw [hlen] at this; have:=HNn.out; omega,⟨k',h2,h3,h5⟩,h6⟩)
     have hG4:=hG3.keep hK4 (fun hm=>(List.mem_cons.1 hm).elim n1 HgS2.out)
     have hM5:=hM4.drop
     have hgl:=(hM4.av gn List.mem_cons_self).1
     have hK5:=hKa3.trans2 hK4 (fun y hy hy2=>by
      rcases List.mem_cons.1 hy with e | e
      ·rw [e]; exact n3
      ·exact absurd (List.mem_cons_of_mem _ e) hy2)
     clear hM3 hG3 hC3 hKa3 hM4 hK4 hN3 hR4
     go_wp2
     go_roundw
     case rel=>exact ⟨c + 1,gn,A4,A1,by omega,rfl,by go_num,hA4,HR4,n1.symm,hgl,hG4,HN,hM5,hK5⟩
     case measure=>simp [intOf]; omega
   ·obtain rfl:c=mo + 1:=by omega
    have i1:¬ ((mo + 1:Nat):Int)≤(mo:Int):=by omega
    go_wp2
    go_end0
    refine ⟨rfl,⟨A1,hAa,HR1.out.congr (fun j hj=>?_)⟩,hMa,hKa⟩
    constructor
    ·rintro (h | ⟨c',h1,h2,h3⟩)
     ·exact .inl h
     ·exact .inr ⟨c',by omega,by omega,h3⟩
    ·rintro (h | ⟨c',h1,h2,h3⟩)
     ·exact .inl h
     ·exact .inr ⟨c',by omega,by omega,h3⟩
 ·have hmo2:hi=(mo:Int):=by rw [if_neg hneg] at hmo; omega
  clear hmo hn
  subst hmo2
  go_enter Try.func105,Try.ntmps105
  go_wp2_with fail
  go_loopw [2,13] (fun fv cv wX=>∃ (c gc:Nat) (Fc A1:List Bool),c≤mo + 1∧fv=.slice (some ⟨gc,0,none⟩) n n∧cv=.int .i64 (c:Int)∧Bools wX gc Fc∧Hid (RowIs n Fc (fun j=>∃ k,k<n∧P1 k∧Q.PN x.t.data.toList D F r.id c k j))∧gc ≠ g∧x.s0 + 2 * x.N≤gc∧Bools wX g A1∧Hid (RowIs n A1 (fun j=>P0 j∨∃ c',lo.toNat≤c'∧c'<c∧∃ k,k<n∧P1 k∧Q.PN x.t.data.toList D F r.id c' k j))∧Mem x (VN x.t.data.toList D F) wX (g :: av)∧Keep (g :: x.S) w wX) (fun _ cv _=>mo + 1 - (intOf cv).toNat)
  case atStart=>exact ⟨0,gf,Fm,A0,by omega,rfl,rfl,HF.out,HF0,HNE.out,HGF.out,HA.out,HA0,HM.out,Keep.refl _ _⟩
  case round =>
   clear HF HF0 HGF HA HA0 HM HNE
   obtain ⟨c,gc,Fc,A1,hc,rfl,rfl,hFc,HFR,hgcne,hgc,hAa,HR1,hMa,hKa⟩:=hrel
   by_cases hcB:c≤mo
   ·have i1:(c:Int)≤(mo:Int):=by omega
    by_cases hcl:lo≤(c:Int)
    ·go_wp2_with fail
     refine (join_any g gc n n n A1 Fc _ hAa hFc (fun e=>hgcne e.symm) HR1.out.1 HFR.out.1 hn2).mono ?_
     rintro e w2 ⟨rfl,hA2,hK2⟩
     have HN:Hid (RowIs n (orTo A1 Fc n) (fun j=>P0 j∨∃ c',lo.toNat≤c'∧c'<c + 1∧∃ k,k<n∧P1 k∧Q.PN x.t.data.toList D F r.id c' k j)):=(rowIs_or HR1.out HFR.out).congr (fun j hj=>by
      constructor
      ·rintro ((h | ⟨c',h1,h2,h3⟩) | h)
       ·exact .inl h
       ·exact .inr ⟨c',h1,by omega,h3⟩
       ·exact .inr ⟨c,by omega,by omega,h⟩
      ·rintro (h | ⟨c',h1,h2,h3⟩)
       ·exact .inl (.inl h)
       ·rcases Nat.lt_or_ge c' c with g | g
        ·exact .inl (.inr ⟨c',h1,g,h3⟩)
        ·have:c'=c:=by omega
         subst this
         exact .inr h3)
     have hFc2:=hFc.keep hK2 (by rw [List.mem_singleton]; exact hgcne)
     have hM2:=hMa.keep hK2 (fun a ha=>by rw [List.mem_singleton] at ha; rw [ha]; exact List.mem_cons_self)
     have hKb:=hKa.trans (hK2.mono (fun k hk=>by rw [List.mem_singleton] at hk; rw [hk]; exact List.mem_cons_self))
     clear hAa hFc hMa hKa hK2 HR1
     have hAa:=hA2
     have hFc:=hFc2
     have hMa:=hM2
     have hKa:=hKb
     clear hA2 hFc2 hM2 hKb
     have hgn:=(hMa.av g List.mem_cons_self)
     go_wp2_with fail
     refine (blank_any x.bm n x.t _ _ w2 hMa.mat HT2.out).mono ?_
     rintro e w3 ⟨rfl,hN3,hK3⟩
     rw [← HNn.out] at hN3 ⊢
     have hlt3:=hN3.blk.lt
     have hM3:=hMa.fresh hK3 (Nat.le_refl _) hlt3 (by omega)
     have hG3:=hAa.keep hK3 (by simp)
     have hC3:=hFc.keep hK3 (by simp)
     have hKa3:=hKa.trans (hK3.mono (by simp))
     have n1:g ≠ w2.heap.size:=by omega
     have n2:w2.heap.size ≠ gc:=by have:=hFc.blk.lt; omega
     have n3:w.heap.size≤w2.heap.size:=hKa.size
     clear hMa hAa hFc hKa hK3
     generalize w2.heap.size=gn at *
     go_wp2_with fail
     refine (then_any x D F f r HE.out v HV.out n HNn.out hn2 w3 (g :: av) gn gc _ Fc (fun _=>False) (fun j=>∃ k,k<n∧P1 k∧Q.PN x.t.data.toList D F r.id c k j) hM3 hN3 hC3 (rowIs_none n) HFR.out n2 hgc).mono ?_
     rintro e w4 ⟨rfl,⟨A4,hA4,hR4⟩,hM4,hK4⟩
     have HR4:Hid (RowIs n A4 (fun j=>∃ k,k<n∧P1 k∧Q.PN x.t.data.toList D F r.id (c + 1) k j)):=hR4.congr (fun j hj=>by
      constructor
      ·rintro (h | ⟨k,h1,⟨k',h2,h3,h4⟩,h5⟩)
       ·exact h.elim
       ·exact ⟨k',h2,h3,Q.pn_succ.2 ⟨k,h4,h5⟩⟩
      ·rintro ⟨k',h2,h3,h4⟩
       obtain ⟨k,h5,h6⟩:=Q.pn_succ.1 h4
       exact .inr ⟨k,by have:=h5.2.1; rw [hlen] at this; have:=HNn.out; omega,⟨k',h2,h3,h5⟩,h6⟩)
     have hG4:=hG3.keep hK4 (fun hm=>(List.mem_cons.1 hm).elim n1 HgS2.out)
     have hM5:=hM4.drop
     have hgl:=(hM4.av gn List.mem_cons_self).1
     have hK5:=hKa3.trans2 hK4 (fun y hy hy2=>by
      rcases List.mem_cons.1 hy with e | e
      ·rw [e]; exact n3
      ·exact absurd (List.mem_cons_of_mem _ e) hy2)
     clear hM3 hG3 hC3 hKa3 hM4 hK4 hN3 hR4
     go_wp2
     go_roundw
     case rel=>exact ⟨c + 1,gn,A4,_,by omega,rfl,by go_num,hA4,HR4,n1.symm,hgl,hG4,HN,hM5,hK5⟩
     case measure=>simp [intOf]; omega
    ·have HN:Hid (RowIs n A1 (fun j=>P0 j∨∃ c',lo.toNat≤c'∧c'<c + 1∧∃ k,k<n∧P1 k∧Q.PN x.t.data.toList D F r.id c' k j)):=HR1.out.congr (fun j hj=>by
        constructor
        ·rintro (h | ⟨c',h1,h2,h3⟩)
         ·exact .inl h
         ·exact .inr ⟨c',h1,by omega,h3⟩
        ·rintro (h | ⟨c',h1,h2,h3⟩)
         ·exact .inl h
         ·exact .inr ⟨c',h1,by omega,h3⟩)
     clear HR1
     have hgn:=(hMa.av g List.mem_cons_self)
     go_wp2_with fail
     refine (blank_any x.bm n x.t _ _ wr hMa.mat HT2.out).mono ?_
     rintro e w3 ⟨rfl,hN3,hK3⟩
     rw [← HNn.out] at hN3 ⊢
     have hlt3:=hN3.blk.lt
     have hM3:=hMa.fresh hK3 (Nat.le_refl _) hlt3 (by omega)
     have hG3:=hAa.keep hK3 (by simp)
     have hC3:=hFc.keep hK3 (by simp)
     have hKa3:=hKa.trans (hK3.mono (by simp))
     have n1:g ≠ wr.heap.size:=by omega
     have n2:wr.heap.size ≠ gc:=by have:=hFc.blk.lt; omega
     have n3:w.heap.size≤wr.heap.size:=hKa.size
     clear hMa hAa hFc hKa hK3
     generalize wr.heap.size=gn at *
     go_wp2_with fail
     refine (then_any x D F f r HE.out v HV.out n HNn.out hn2 w3 (g :: av) gn gc _ Fc (fun _=>False) (fun j=>∃ k,k<n∧P1 k∧Q.PN x.t.data.toList D F r.id c k j) hM3 hN3 hC3 (rowIs_none n) HFR.out n2 hgc).mono ?_
     rintro e w4 ⟨rfl,⟨A4,hA4,hR4⟩,hM4,hK4⟩
     have HR4:Hid (RowIs n A4 (fun j=>∃ k,k<n∧P1 k∧Q.PN x.t.data.toList D F r.id (c + 1) k j)):=hR4.congr (fun j hj=>by
      constructor
      ·rintro (h | ⟨k,h1,⟨k',h2,h3,h4⟩,h5⟩)
       ·exact h.elim
       ·exact ⟨k',h2,h3,Q.pn_succ.2 ⟨k,h4,h5⟩⟩
      ·rintro ⟨k',h2,h3,h4⟩
       obtain ⟨k,h5,h6⟩:=Q.pn_succ.1 h4
       exact .inr ⟨k,by have:=h5.2.1; rw [hlen] at this; have:=HNn.out; omega,⟨k',h2,h3,h5⟩,h6⟩)
     have hG4:=hG3.keep hK4 (fun hm=>(List.mem_cons.1 hm).elim n1 HgS2.out)
     have hM5:=hM4.drop
     have hgl:=(hM4.av gn List.mem_cons_self).1
     have hK5:=hKa3.trans2 hK4 (fun y hy hy2=>by
      rcases List.mem_cons.1 hy with e | e
      ·rw [e]; exact n3
      ·exact absurd (List.mem_cons_of_mem _ e) hy2)
     clear hM3 hG3 hC3 hKa3 hM4 hK4 hN3 hR4
     go_wp2
     go_roundw
     case rel=>exact ⟨c + 1,gn,A4,A1,by omega,rfl,by go_num,hA4,HR4,n1.symm,hgl,hG4,HN,hM5,hK5⟩
     case measure=>simp [intOf]; omega
   ·obtain rfl:c=mo + 1:=by omega
    have i1:¬ ((mo + 1:Nat):Int)≤(mo:Int):=by omega
    go_wp2
    go_end0
    refine ⟨rfl,⟨A1,hAa,HR1.out.congr (fun j hj=>?_)⟩,hMa,hKa⟩
    constructor
    ·rintro (h | ⟨c',h1,h2,h3⟩)
     ·exact .inl h
     ·exact .inr ⟨c',by omega,by omega,h3⟩
    ·rintro (h | ⟨c',h1,h2,h3⟩)
     ·exact .inl h
     ·exact .inr ⟨c',by omega,by omega,h3⟩
theorem bnil_ne (w:World) (g n m:Nat):Sem.run Try.prog (binOp BinOp.neq 100 (.slice (some ⟨g,0,none⟩) n m) (.slice none 0 0)) w=Result.ok (.bool true) w:=run_neq_slice_nil_any w _ _ (some ⟨g,0,none⟩) n m 0 0 Try.underlying100
theorem bnil_no (w:World):Sem.run Try.prog (binOp BinOp.neq 100 (.slice none 0 0) (.slice none 0 0)) w=Result.ok (.bool false) w:=run_neq_slice_nil_any w _ _ none 0 0 0 0 Try.underlying100
def EndN (x:Tb) (D:Nat→G.Rx) (F f:Nat) (r:G.Rx):Prop:=∀ (w:World) (av:List Nat) (v:Value) (i:Nat),Mem x (VN x.t.data.toList D F) w av→ReAt x.w0 f r v→i≤x.t.size→w.cell? ⟨x.s0 + 2 * r.id,i,none⟩=some (.slice none 0 0) →
 Calls Try.prog 88 #[.pointer (some ⟨x.bm,0,none⟩),v,.int .i64 (i:Int)] w fun e w'=>∃ h A,e=.returned (.slice (some ⟨h,0,none⟩) (x.t.size + 1) (x.t.size + 1))∧Bools w' h A∧RowIs (x.t.size + 1) A (Q.EN x.t.data.toList D F r.id i)∧x.s0 + 2 * x.N≤h∧h ∉ av∧Mem x (VN x.t.data.toList D F) w' av∧Keep x.S w w'
theorem Mem.top {x:Tb} {V:Nat→Nat→Nat→Prop} {w:World} {av:List Nat} (h:Mem x V w av) (hN:0<x.N):x.s0 + 2 * x.N≤w.heap.size:=by
 obtain ⟨cs,_,h2,_⟩:=h.row (2 * x.N - 1) (by omega)
 have:=h2.lt
 omega
theorem blank_mem {x:Tb} {V:Nat→Nat→Nat→Prop} {w:World} {av:List Nat} (hM:Mem x V w av) (hN:0<x.N) (n:Nat) (hn:n=x.t.size + 1) (hn2:n≤1001) (q:Nat) :
    Calls Try.prog 102 #[.pointer (some ⟨x.bm,0,none⟩)] (w.drewN q) fun e w'=>e=.returned (.slice (some ⟨w.heap.size,0,none⟩) n n)∧Bools w' w.heap.size (List.replicate n false)∧Mem x V w' (w.heap.size :: av)∧Keep [] w w':=by
 refine (blank_any x.bm n x.t _ _ (w.drewN q) (hM.drewN q).mat (by omega)).mono ?_
 rintro e w' ⟨h1,h2,h3⟩
 rw [← hn] at h1 h2
 have hk:Keep [] w w':=((Keep.refl [] w).drewN q).trans h3
 exact ⟨h1,h2,hM.fresh hk (Nat.le_refl _) h2.blk.lt (hM.top hN),hk⟩
theorem Mem.facts {x:Tb} {V:Nat→Nat→Nat→Prop} {w:World} {av:List Nat} (h:Mem x V w av) {k i:Nat} (hk:k<x.N) (n:Nat) (hn:n=x.t.size + 1) (hi:i<n):∃ u,w.cell? ⟨x.bm,1,none⟩=some (.slice (some ⟨x.be,0,none⟩) x.N x.N)∧w.cell? ⟨x.be,k,none⟩=some (.slice (some ⟨x.s0 + 2 * k,0,none⟩) n n) ∧
    w.cell? ⟨x.s0 + 2 * k,i,none⟩=some u∧w.frozen? ⟨x.s0 + 2 * k,i,none⟩=false:=by
 obtain ⟨h1,h2⟩:=h.seen (k:=2 * k) (i:=i) (by omega) (by omega)
 rw [hn]
 rcases h2 with h2 | ⟨b,A,h2,_⟩
 ·exact ⟨_,h.mat.cell 1,h.endsAt hk,h2,h1⟩
 ·exact ⟨_,h.mat.cell 1,h.endsAt hk,h2,h1⟩
theorem Mem.factsT {x:Tb} {V:Nat→Nat→Nat→Prop} {w:World} {av:List Nat} (h:Mem x V w av) {k i:Nat} (hk:k<x.N) (n:Nat) (hn:n=x.t.size + 1) (hi:i<n):∃ u,w.cell? ⟨x.bm,2,none⟩=some (.slice (some ⟨x.bt,0,none⟩) x.N x.N)∧w.cell? ⟨x.bt,k,none⟩=some (.slice (some ⟨x.s0 + 2 * k + 1,0,none⟩) n n) ∧
    w.cell? ⟨x.s0 + 2 * k + 1,i,none⟩=some u∧w.frozen? ⟨x.s0 + 2 * k + 1,i,none⟩=false:=by
 obtain ⟨h1,h2⟩:=h.seen (k:=2 * k + 1) (i:=i) (by omega) (by omega)
 rw [hn]
 rcases h2 with h2 | ⟨b,A,h2,_⟩
 ·exact ⟨_,h.mat.cell 2,h.tailAt hk,h2,h1⟩
 ·exact ⟨_,h.mat.cell 2,h.tailAt hk,h2,h1⟩
theorem end_done {x:Tb} {D:Nat→G.Rx} {F:Nat} {w wz:World} {av:List Nat} {g k i n:Nat} {A:List Bool} {P:Nat→Prop} (hn:n=x.t.size + 1) (hM:Mem x (VN x.t.data.toList D F) wz (g :: av)) (hA:Bools wz g A) (hR:RowIs n A P) (hK:Keep x.S w wz) (hga:g ∉ av) (hk:k<2 * x.N) (hi:i<n) (hP:∀ j,j<n→(P j ↔ VN x.t.data.toList D F k i j)) :
    ∃ h A,Ending.returned (Value.slice (some ⟨g,0,none⟩) n n)=.returned (.slice (some ⟨h,0,none⟩) n n)∧Bools (wz.setCell ⟨x.s0 + k,i,none⟩ (.slice (some ⟨g,0,none⟩) n n)).drew h A∧RowIs n A P∧x.s0 + 2 * x.N≤h∧h ∉ av∧Mem x (VN x.t.data.toList D F) (wz.setCell ⟨x.s0 + k,i,none⟩ (.slice (some ⟨g,0,none⟩) n n)).drew av∧Keep x.S w (wz.setCell ⟨x.s0 + k,i,none⟩ (.slice (some ⟨g,0,none⟩) n n)).drew:=by
 have hg:=(hM.av g List.mem_cons_self).1
 have k1:Keep [x.s0 + k] wz (wz.setCell ⟨x.s0 + k,i,none⟩ (.slice (some ⟨g,0,none⟩) n n)):=(Keep.refl _ wz).setCell (by simp) _
 have hm:=hM.put hA (by rw [← hn]; exact hR.congr hP) hk (by omega) hga
 rw [← hn] at hm
 refine ⟨g,A,rfl,⟨hA.blk.keep k1.drew (by simp; omega)⟩,hR,hg,hga,hm.drewN 1,((hK.trans ((k1.mono (fun a ha=>?_)))).drew)⟩
 rw [List.mem_singleton] at ha
 rw [ha,Tb.memS]
 omega
set_option maxRecDepth 100000 in
set_option maxHeartbeats 1600000 in
theorem endC_of {x:Tb} {D:Nat→G.Rx} {F f:Nat} {r:G.Rx} (hid:r.id<x.N) (h:EndN x D F f r):EndC x D F f r:=by
 intro w av v i hM hR hi
 obtain ⟨_,hs⟩:=hM.seen (k:=2 * r.id) (i:=i) (by omega) (by omega)
 rcases hs with hs | ⟨b,A,hs,hB,hRw,hlo,hav⟩
 ·exact h w av v i hM hR hi hs
 ·rw [vn_even] at hRw
  cases f with
  | zero=>exact hR.elim
  | succ f =>
   obtain ⟨br,vin,va,vb,rfl,hBr,_,_,_⟩:=hR
   have c6:=(hM.blk hBr).cell 6
   have m1:=hM.mat.cell 1
   simp only [List.getElem?_cons_zero,List.getElem?_cons_succ] at c6 m1
   have e1:=hM.endsAt hid
   have i0:(0:Int)≤(i:Int):=by omega
   have i1:(i:Int)<((x.t.size + 1:Nat):Int):=by omega
   have j0:(0:Int)≤(r.id:Int):=by omega
   have j1:(r.id:Int)<(x.N:Int):=by omega
   have hne:=fun w=>bnil_ne w b (x.t.size + 1) (x.t.size + 1)
   have HP:Hid (∀ n,∃ h A,Ending.returned (Value.slice (some ⟨b,0,none⟩) (x.t.size + 1) (x.t.size + 1))=.returned (.slice (some ⟨h,0,none⟩) (x.t.size + 1) (x.t.size + 1))∧Bools (w.drewN n) h A∧RowIs (x.t.size + 1) A (Q.EN x.t.data.toList D F r.id i)∧x.s0 + 2 * x.N≤h∧h ∉ av∧Mem x (VN x.t.data.toList D F) (w.drewN n) av∧Keep x.S w (w.drewN n)) :=
    fun n=>⟨b,A,rfl,⟨hB.blk⟩,hRw,hlo,hav,hM.drewN n,(Keep.refl _ w).drewN n⟩
   generalize x.s0 + 2 * r.id=s at *
   generalize x.t.size + 1=L at *
   generalize x.bm=bm at *
   generalize x.be=be at *
   generalize x.N=N at *
   clear hM hBr hB hRw h
   go_enter Try.func88,Try.ntmps88
   go_wp2_with fail
   go_quiet (fail)
   go_wp2_with fail
   go_quiet (fail)
   go_wp2
   go_ret
   rw [World.drewN_drewN]
   exact HP.out _
set_option maxRecDepth 100000 in
set_option maxHeartbeats 1600000 in
theorem end_k0 {x:Tb} {D:Nat→G.Rx} {F f:Nat} {r:G.Rx} (hO:G.RxOk x.N (f + 1) r) (hI:G.Ids D 0 x.N (f + 1) r) (hF:f + 1≤F) (ht:x.t.size≤200) (hk:r.kind=0):EndN x D F (f + 1) r:=by
 intro w av v i hM hR hi hnil
 have hid:r.id<x.N:=hO.1
 obtain ⟨n,hn⟩:∃ n,n=x.t.size + 1:=⟨_,rfl⟩
 have hn2:n≤1001:=by omega
 have hin:i<n:=by omega
 obtain ⟨br,vin,va,vb,rfl,hBr,hIn,hA,hB⟩:=hR
 obtain ⟨u0,m1,e1,_,_⟩:=hM.facts hid n hn hin
 have c6:=(hM.blk hBr).cell 6
 simp only [List.getElem?_cons_zero,List.getElem?_cons_succ] at c6
 have i0:(0:Int)≤(i:Int):=by omega
 have i1:(i:Int)<(n:Int):=by omega
 have j0:(0:Int)≤(r.id:Int):=by omega
 have j1:(r.id:Int)<(x.N:Int):=by omega
 have hno:=fun w=>bnil_no w
 have HBL:=hid' (blank_mem hM (by omega) n hn hn2)
 have hga:w.heap.size ∉ av:=fun hm=>by have:=(hM.av _ hm).2; omega
 have hlen:x.t.data.toList.length=x.t.size:=rfl
 rw [← hn]
 have HNn:=hid' hn
 clear hM hn
 go_enter Try.func88,Try.ntmps88
 go_wp2_with fail
 go_quiet (fail)
 go_wp2_with fail
 refine (HBL.out _).mono ?_
 rintro e w1 ⟨rfl,hN1,hM1,hK1⟩
 have hR1:=rowIs_none n
 have hKS1:Keep x.S w w1:=hK1.mono (by simp)
 clear m1 e1 c6 hnil HBL hK1
 have c0:=(hM1.blk hBr).cell 0
 simp only [List.getElem?_cons_zero,hk] at c0
 obtain ⟨s1,s2⟩:=hN1.at (i) (by rw [List.length_replicate]; exact hin)
 have hK2:Keep [w.heap.size] w1 (w1.setCell ⟨w.heap.size,i,none⟩ (.bool true)):=(Keep.refl _ w1).setCell (by simp) _
 have hA2:=hN1.set (i) true
 have hM2:=hM1.keep hK2 (fun a ha=>by rw [List.mem_singleton] at ha; rw [ha]; exact List.mem_cons_self)
 have hKS2:Keep x.S w (w1.setCell ⟨w.heap.size,i,none⟩ (.bool true)):=hKS1.setNew (p:=⟨w.heap.size,i,none⟩) (Nat.le_refl _) _
 have hR2:=hR1.set hin
 go_upto_region 22 with fail
 revert hA2 hM2 hKS2
 generalize w1.setCell ⟨w.heap.size,i,none⟩ (.bool true)=w2
 intro hA2 hM2 hKS2
 clear hM1 hN1 s1 s2 hK2 hKS1
 generalize w.heap.size=g at *
 obtain ⟨u,z1,z2,z3,z4⟩:=hM2.facts hid n HNn.out hin
 have z6:=(hM2.blk hBr).cell 6
 simp only [List.getElem?_cons_zero,List.getElem?_cons_succ] at z6
 have HD:=hid' (end_done (P:=Q.EN x.t.data.toList D F r.id i) HNn.out hM2 hA2 (hR2.congr (fun j hj=>by rw [Q.en_eps hO hI hF hk hi]; simp)) hKS2 hga (k:=2 * r.id) (by omega) hin (fun j hj=>by rw [vn_even]))
 clear hM2 hA2
 go_wp2_with fail
 go_region
 all_goals
  go_wp2
  go_ret
  exact HD.out
set_option maxRecDepth 100000 in
set_option maxHeartbeats 1600000 in
theorem end_k1 {x:Tb} {D:Nat→G.Rx} {F f:Nat} {r:G.Rx} (hO:G.RxOk x.N (f + 1) r) (hI:G.Ids D 0 x.N (f + 1) r) (hF:f + 1≤F) (ht:x.t.size≤200) (hk:r.kind=1):EndN x D F (f + 1) r:=by
 intro w av v i hM hR hi hnil
 have hid:r.id<x.N:=hO.1
 obtain ⟨n,hn⟩:∃ n,n=x.t.size + 1:=⟨_,rfl⟩
 have hn2:n≤1001:=by omega
 have hin:i<n:=by omega
 obtain ⟨br,vin,va,vb,rfl,hBr,hIn,hA,hB⟩:=hR
 obtain ⟨u0,m1,e1,_,_⟩:=hM.facts hid n hn hin
 have c6:=(hM.blk hBr).cell 6
 simp only [List.getElem?_cons_zero,List.getElem?_cons_succ] at c6
 have i0:(0:Int)≤(i:Int):=by omega
 have i1:(i:Int)<(n:Int):=by omega
 have j0:(0:Int)≤(r.id:Int):=by omega
 have j1:(r.id:Int)<(x.N:Int):=by omega
 have hno:=fun w=>bnil_no w
 have HBL:=hid' (blank_mem hM (by omega) n hn hn2)
 have hga:w.heap.size ∉ av:=fun hm=>by have:=(hM.av _ hm).2; omega
 have hlen:x.t.data.toList.length=x.t.size:=rfl
 rw [← hn]
 have HNn:=hid' hn
 clear hM hn
 go_enter Try.func88,Try.ntmps88
 go_wp2_with fail
 go_quiet (fail)
 go_wp2_with fail
 refine (HBL.out _).mono ?_
 rintro e w1 ⟨rfl,hN1,hM1,hK1⟩
 have hR1:=rowIs_none n
 have hKS1:Keep x.S w w1:=hK1.mono (by simp)
 clear m1 e1 c6 hnil HBL hK1
 have c0:=(hM1.blk hBr).cell 0
 simp only [List.getElem?_cons_zero,hk] at c0
 have hins:r.ins.length=256:=by
  rcases hO.2 with h | ⟨_,h⟩ | ⟨h,_⟩ | ⟨h,_⟩
  ·omega
  ·exact h
  ·omega
  ·omega
 have hinb:∃ gi,vin=.slice (some ⟨gi,0,none⟩) 256 256∧BlkT x.w0 gi 4 (r.ins.map Value.bool):=by
  rcases hIn with ⟨h,_⟩ | ⟨_,gi,h1,h2⟩
  ·rw [h] at hins; cases hins
  ·exact ⟨gi,h1,h2⟩
 obtain ⟨gi,rfl,hGi⟩:=hinb
 have m0:=hM1.mat.cell 0
 have c1:=(hM1.blk hBr).cell 1
 simp only [List.getElem?_cons_zero,List.getElem?_cons_succ] at m0 c1
 by_cases hlt:i<x.t.size
 ·have hd:decide ((i:Int)<(x.t.size:Int))=true:=decide_eq_true (by omega)
  have q1:(i:Int)<(x.t.size:Int):=by omega
  have hbt:x.t[i].toNat<256:=UInt8.toNat_lt _
  have b0:(0:Int)≤(x.t[i].toNat:Int):=by omega
  have b1:(x.t[i].toNat:Int)<256:=by omega
  have g1:w1.cell? ⟨gi,x.t[i].toNat,none⟩=some (.bool (r.ins.getD x.t[i].toNat false)):=((⟨hM1.blk hGi⟩:Bools w1 gi r.ins).at _ (by omega)).1
  have HEN:Hid (∀ j,Q.EN x.t.data.toList D F r.id i j ↔ (j=i + 1∧r.ins.getD x.t[i].toNat false=true)):=fun j=>by
   rw [Q.en_byte hO hI hF hk,← byte_at x.t i hlt]
   constructor
   ·rintro ⟨_,h2,h3⟩; exact ⟨h2,h3⟩
   ·rintro ⟨h2,h3⟩; exact ⟨hlt,h2,h3⟩
  generalize r.ins.getD x.t[i].toNat false=b at *
  cases b with
  | true =>
   have hin2:i + 1<n:=by have:=HNn.out; omega
   have q2:(0:Int)≤(i:Int) + 1:=by omega
   have q3:(i:Int) + 1<(n:Int):=by omega
   obtain ⟨s1,s2⟩:=hN1.at (i + 1) (by rw [List.length_replicate]; exact hin2)
   go_upto_region 8 with fail
   go_quiet (fail)
   go_upto_region 22 with fail
   clear s1 s2 c0 m0 c1
   have hNq:Bools (w1.drewN nq) w.heap.size (List.replicate n false):=⟨hN1.blk⟩
   have hMq:=hM1.drewN nq
   have hKq:=hKS1.drewN nq
   revert hNq hMq hKq
   generalize w1.drewN nq=wq
   intro hNq hMq hKq
   clear hN1 hM1 hKS1
   have hK2:Keep [w.heap.size] wq (wq.setCell ⟨w.heap.size,i + 1,none⟩ (.bool true)):=(Keep.refl _ wq).setCell (by simp) _
   have hA2:=hNq.set (i + 1) true
   have hM2:=hMq.keep hK2 (fun a ha=>by rw [List.mem_singleton] at ha; rw [ha]; exact List.mem_cons_self)
   have hKS2:Keep x.S w (wq.setCell ⟨w.heap.size,i + 1,none⟩ (.bool true)):=hKq.setNew (p:=⟨w.heap.size,i + 1,none⟩) (Nat.le_refl _) _
   have hR2:=hR1.set hin2
   revert hA2 hM2 hKS2
   generalize wq.setCell ⟨w.heap.size,i + 1,none⟩ (.bool true)=w2
   intro hA2 hM2 hKS2
   clear hMq hNq hK2 hKq
   generalize w.heap.size=g at *
   obtain ⟨u,z1,z2,z3,z4⟩:=hM2.facts hid n HNn.out hin
   have z6:=(hM2.blk hBr).cell 6
   simp only [List.getElem?_cons_zero,List.getElem?_cons_succ] at z6
   have HD:=hid' (end_done (P:=Q.EN x.t.data.toList D F r.id i) HNn.out hM2 hA2 (hR2.congr (fun j hj=>by rw [HEN.out j]; simp)) hKS2 hga (k:=2 * r.id) (by omega) hin (fun j hj=>by rw [vn_even]))
   clear hM2 hA2
   go_wp2_with fail
   go_region
   all_goals
    go_wp2
    go_ret
    exact HD.out
  | false =>
   replace HEN:Hid (∀ j,¬ Q.EN x.t.data.toList D F r.id i j):=fun j h=>by have:=(HEN.out j).1 h; simp at this
   go_upto_region 8 with fail
   go_quiet (fail)
   go_upto_region 22 with fail
   clear c0 m0 c1
   have hNq:Bools (w1.drewN nq) w.heap.size (List.replicate n false):=⟨hN1.blk⟩
   have hMq:=hM1.drewN nq
   have hKq:=hKS1.drewN nq
   revert hNq hMq hKq
   generalize w1.drewN nq=wq
   intro hNq hMq hKq
   clear hN1 hM1 hKS1
   generalize w.heap.size=g at *
   obtain ⟨u,z1,z2,z3,z4⟩:=hMq.facts hid n HNn.out hin
   have z6:=(hMq.blk hBr).cell 6
   simp only [List.getElem?_cons_zero,List.getElem?_cons_succ] at z6
   have HD:=hid' (end_done (P:=Q.EN x.t.data.toList D F r.id i) HNn.out hMq hNq (hR1.congr (fun j hj=>⟨fun h=>h.elim,fun h=>HEN.out j h⟩)) hKq hga (k:=2 * r.id) (by omega) hin (fun j hj=>by rw [vn_even]))
   clear hMq hNq
   go_wp2_with fail
   go_region
   all_goals
    go_wp2
    go_ret
    exact HD.out
 ·have hd:decide ((i:Int)<(x.t.size:Int))=false:=decide_eq_false (by omega)
  have HEN:Hid (∀ j,¬ Q.EN x.t.data.toList D F r.id i j):=fun j h=>hlt ((Q.en_byte hO hI hF hk).1 h).1
  go_upto_region 8 with fail
  go_quiet (fail)
  go_upto_region 22 with fail
  clear c0 m0 c1
  have hNq:Bools (w1.drewN nq) w.heap.size (List.replicate n false):=⟨hN1.blk⟩
  have hMq:=hM1.drewN nq
  have hKq:=hKS1.drewN nq
  revert hNq hMq hKq
  generalize w1.drewN nq=wq
  intro hNq hMq hKq
  clear hN1 hM1 hKS1
  generalize w.heap.size=g at *
  obtain ⟨u,z1,z2,z3,z4⟩:=hMq.facts hid n HNn.out hin
  have z6:=(hMq.blk hBr).cell 6
  simp only [List.getElem?_cons_zero,List.getElem?_cons_succ] at z6
  have HD:=hid' (end_done (P:=Q.EN x.t.data.toList D F r.id i) HNn.out hMq hNq (hR1.congr (fun j hj=>⟨fun h=>h.elim,fun h=>HEN.out j h⟩)) hKq hga (k:=2 * r.id) (by omega) hin (fun j hj=>by rw [vn_even]))
  clear hMq hNq
  go_wp2_with fail
  go_region
  all_goals
   go_wp2
   go_ret
   exact HD.out
theorem sub_at0 {P:G.Rx→Value→Prop} {l:List G.Rx} {a:G.Rx} {m:List G.Rx} {v:Value} (e:l=a :: m) (h:SubAt P l[0]? v):P a v:=by
 rw [e] at h
 rcases h with ⟨x,_⟩ | ⟨r',x,y⟩
 ·cases x
 ·cases x; exact y
theorem sub_at1 {P:G.Rx→Value→Prop} {l:List G.Rx} {a b:G.Rx} {m:List G.Rx} {v:Value} (e:l=a :: b :: m) (h:SubAt P l[1]? v):P b v:=by
 rw [e] at h
 rcases h with ⟨x,_⟩ | ⟨r',x,y⟩
 ·cases x
 ·cases x; exact y
theorem endC_n {x:Tb} {D:Nat→G.Rx} {F f:Nat} {a:G.Rx} (h:EndC x D F f a) {va:Value} (hv:ReAt x.w0 f a va) {n i:Nat} (hn:n=x.t.size + 1) (hi:i<n) (g:Nat) (av:List Nat):∀ (w':World),Mem x (VN x.t.data.toList D F) w' (g :: av) →
    Calls Try.prog 88 #[.pointer (some ⟨x.bm,0,none⟩),va,.int .i64 (i:Int)] w' fun e w''=>∃ h A,e=.returned (.slice (some ⟨h,0,none⟩) n n)∧Bools w'' h A∧Hid (RowIs n A (Q.EN x.t.data.toList D F a.id i))∧x.s0 + 2 * x.N≤h∧h ≠ g∧Mem x (VN x.t.data.toList D F) w'' (g :: av)∧Keep x.S w' w'':=by
 intro w' hm
 refine (h w' (g :: av) va i hm hv (by omega)).mono ?_
 rintro e w'' ⟨b,A,h1,h2,h3,h4,h5,h6,h7⟩
 rw [← hn] at h1 h3
 exact ⟨b,A,h1,h2,h3,h4,fun e=>h5 (by rw [e]; exact List.mem_cons_self),h6,h7⟩
theorem blank_mem0 {x:Tb} {V:Nat→Nat→Nat→Prop} {w:World} {av:List Nat} (hM:Mem x V w av) (hN:0<x.N) (n:Nat) (hn:n=x.t.size + 1) (hn2:n≤1001) :
    Calls Try.prog 102 #[.pointer (some ⟨x.bm,0,none⟩)] w fun e w'=>e=.returned (.slice (some ⟨w.heap.size,0,none⟩) n n)∧Bools w' w.heap.size (List.replicate n false)∧Mem x V w' (w.heap.size :: av)∧Keep [] w w':=by
 refine (blank_any x.bm n x.t _ _ w hM.mat (by omega)).mono ?_
 rintro e w' ⟨h1,h2,h3⟩
 rw [← hn] at h1 h2
 exact ⟨h1,h2,hM.fresh h3 (Nat.le_refl _) h2.blk.lt (hM.top hN),h3⟩
theorem Mem.one {x:Tb} {V:Nat→Nat→Nat→Prop} {w w':World} {av:List Nat} {g:Nat} (h:Mem x V w (g :: av)) (k:Keep [g] w w'):Mem x V w' (g :: av):=h.keep k (fun a ha=>by rw [List.mem_singleton] at ha; rw [ha]; exact List.mem_cons_self)
theorem Keep.oneNew {S:List Nat} {w a b:World} {g:Nat} (h:Keep S w a) (k:Keep [g] a b) (hg:w.heap.size≤g):Keep S w b:=h.trans2 k (fun y hy _=>by rw [List.mem_singleton] at hy; rw [hy]; exact hg)
theorem Keep.consNew {S:List Nat} {w a b:World} {g:Nat} (h:Keep S w a) (k:Keep (g :: S) a b) (hg:w.heap.size≤g):Keep S w b:=h.trans2 k (fun y hy hy2=>by
 rcases List.mem_cons.1 hy with e | e
 ·rw [e]; exact hg
 ·exact absurd e hy2)
set_option maxRecDepth 100000 in
set_option maxHeartbeats 1600000 in
theorem end_k3 {x:Tb} {D:Nat→G.Rx} {F f:Nat} {r:G.Rx} (hO:G.RxOk x.N (f + 1) r) (hI:G.Ids D 0 x.N (f + 1) r) (hF:f + 1≤F) (ht:x.t.size≤200) (hk:r.kind=3) {a b:G.Rx} (e:r.subs=[a,b]) (oa:G.RxOk x.N f a) (ob:G.RxOk x.N f b) (ha:EndC x D F f a) (hb:EndC x D F f b):EndN x D F (f + 1) r:=by
 intro w av v i hM hR hi hnil
 have hid:r.id<x.N:=hO.1
 obtain ⟨n,hn⟩:∃ n,n=x.t.size + 1:=⟨_,rfl⟩
 have hn2:n≤1001:=by omega
 have hin:i<n:=by omega
 obtain ⟨br,vin,va,vb,rfl,hBr,hIn,hA,hB⟩:=hR
 obtain ⟨u0,m1,e1,_,_⟩:=hM.facts hid n hn hin
 have c6:=(hM.blk hBr).cell 6
 simp only [List.getElem?_cons_zero,List.getElem?_cons_succ] at c6
 have i0:(0:Int)≤(i:Int):=by omega
 have i1:(i:Int)<(n:Int):=by omega
 have j0:(0:Int)≤(r.id:Int):=by omega
 have j1:(r.id:Int)<(x.N:Int):=by omega
 have hno:=fun w=>bnil_no w
 have HBL:=hid' (blank_mem hM (by omega) n hn hn2)
 have hga:w.heap.size ∉ av:=fun hm=>by have:=(hM.av _ hm).2; omega
 have HEa:=hid' (endC_n ha (sub_at0 e hA) hn hin w.heap.size av)
 have HEb:=hid' (endC_n hb (sub_at1 e hB) hn hin w.heap.size av)
 have HgS:Hid (w.heap.size ∉ x.S):=Tb.notS (hM.top (by omega))
 have hlen:x.t.data.toList.length=x.t.size:=rfl
 rw [← hn]
 have HNn:=hid' hn
 clear hM hn ha hb
 go_enter Try.func88,Try.ntmps88
 go_wp2_with fail
 go_quiet (fail)
 go_wp2_with fail
 refine (HBL.out _).mono ?_
 rintro e w1 ⟨rfl,hN1,hM1,hK1⟩
 have hR1:=rowIs_none n
 have hKS1:Keep x.S w w1:=hK1.mono (by simp)
 clear m1 e1 c6 hnil HBL hK1
 have c0:=(hM1.blk hBr).cell 0
 simp only [List.getElem?_cons_zero,hk] at c0
 have c2:=(hM1.blk hBr).cell 2
 simp only [List.getElem?_cons_zero,List.getElem?_cons_succ] at c2
 go_wp2_with fail
 refine (HEa.out _ hM1).mono ?_
 rintro e w2 ⟨h2,B2,rfl,hB2,HB2,hlo2,hne2,hM2,hK2⟩
 have hN2:=hN1.keep hK2 HgS.out
 have hKS2:=hKS1.trans hK2
 clear c0 c2 hM1 hN1 hKS1 hK2
 have c3:=(hM2.blk hBr).cell 3
 simp only [List.getElem?_cons_zero,List.getElem?_cons_succ] at c3
 go_wp2_with fail
 refine (HEb.out _ hM2).mono ?_
 rintro e w3 ⟨h3,B3,rfl,hB3,HB3,hlo3,hne3,hM3,hK3⟩
 have hN3:=hN2.keep hK3 HgS.out
 have hB2':=hB2.keep hK3 (Tb.notS hlo2)
 have hKS3:=hKS2.trans hK3
 clear c3 hM2 hN2 hKS2 hK3 hB2
 go_wp2_with fail
 refine (join_any _ h2 n n n _ B2 w3 hN3 hB2' (fun e=>hne2 e.symm) hR1.1 HB2.out.1 hn2).mono ?_
 rintro e w4 ⟨rfl,hA4,hK4⟩
 have hM4:=hM3.one hK4
 have hB3':=hB3.keep hK4 (by rw [List.mem_singleton]; exact hne3)
 have hKS4:=hKS3.oneNew hK4 (Nat.le_refl _)
 have HR4:=hid' (rowIs_or hR1 HB2.out)
 clear hM3 hN3 hB2' hKS3 hK4 hB3 hR1
 go_wp2_with fail
 refine (join_any _ h3 n n n _ B3 w4 hA4 hB3' (fun e=>hne3 e.symm) HR4.out.1 HB3.out.1 hn2).mono ?_
 rintro e w5 ⟨rfl,hA5,hK5⟩
 have hM5:=hM4.one hK5
 have hKS5:=hKS4.oneNew hK5 (Nat.le_refl _)
 have HR5:=hid' (rowIs_or HR4.out HB3.out)
 clear hM4 hA4 hB3' hKS4 hK5
 generalize w.heap.size=g at *
 obtain ⟨u,z1,z2,z3,z4⟩:=hM5.facts hid n HNn.out hin
 have z6:=(hM5.blk hBr).cell 6
 simp only [List.getElem?_cons_zero,List.getElem?_cons_succ] at z6
 have HD:=hid' (end_done (P:=Q.EN x.t.data.toList D F r.id i) HNn.out hM5 hA5 (HR5.out.congr (fun j hj=>by rw [Q.en_alt hO hI hF hk ‹r.subs=[a,b]› oa ob]; simp)) hKS5 hga (k:=2 * r.id) (by omega) hin (fun j hj=>by rw [vn_even]))
 clear hM5 hA5
 go_wp2_with fail
 go_region
 all_goals
  go_wp2
  go_ret
  exact HD.out
set_option maxRecDepth 100000 in
set_option maxHeartbeats 1600000 in
theorem end_k2 {x:Tb} {D:Nat→G.Rx} {F f:Nat} {r:G.Rx} (hO:G.RxOk x.N (f + 1) r) (hI:G.Ids D 0 x.N (f + 1) r) (hF:f + 1≤F) (ht:x.t.size≤200) (hk:r.kind=2) {a b:G.Rx} (e:r.subs=[a,b]) (oa:G.RxOk x.N f a) (ob:G.RxOk x.N f b) (ha:EndC x D F f a) (hb:EndC x D F f b):EndN x D F (f + 1) r:=by
 intro w av v i hM hR hi hnil
 have hid:r.id<x.N:=hO.1
 obtain ⟨n,hn⟩:∃ n,n=x.t.size + 1:=⟨_,rfl⟩
 have hn2:n≤1001:=by omega
 have hin:i<n:=by omega
 obtain ⟨br,vin,va,vb,rfl,hBr,hIn,hA,hB⟩:=hR
 obtain ⟨u0,m1,e1,_,_⟩:=hM.facts hid n hn hin
 have c6:=(hM.blk hBr).cell 6
 simp only [List.getElem?_cons_zero,List.getElem?_cons_succ] at c6
 have i0:(0:Int)≤(i:Int):=by omega
 have i1:(i:Int)<(n:Int):=by omega
 have j0:(0:Int)≤(r.id:Int):=by omega
 have j1:(r.id:Int)<(x.N:Int):=by omega
 have hno:=fun w=>bnil_no w
 have HBL:=hid' (blank_mem hM (by omega) n hn hn2)
 have hga:w.heap.size ∉ av:=fun hm=>by have:=(hM.av _ hm).2; omega
 have HEa:=hid' (endC_n ha (sub_at0 e hA) hn hin w.heap.size av)
 have HVb:=hid' (sub_at1 e hB)
 have HEb:=hid' hb
 have HgS:Hid (w.heap.size ∉ x.S):=Tb.notS (hM.top (by omega))
 have hlen:x.t.data.toList.length=x.t.size:=rfl
 rw [← hn]
 have HNn:=hid' hn
 clear hM hn ha hb
 go_enter Try.func88,Try.ntmps88
 go_wp2_with fail
 go_quiet (fail)
 go_wp2_with fail
 refine (HBL.out _).mono ?_
 rintro e w1 ⟨rfl,hN1,hM1,hK1⟩
 have hR1:=rowIs_none n
 have hKS1:Keep x.S w w1:=hK1.mono (by simp)
 clear m1 e1 c6 hnil HBL hK1
 have c0:=(hM1.blk hBr).cell 0
 simp only [List.getElem?_cons_zero,hk] at c0
 have c2:=(hM1.blk hBr).cell 2
 simp only [List.getElem?_cons_zero,List.getElem?_cons_succ] at c2
 go_wp2_with fail
 refine (HEa.out _ hM1).mono ?_
 rintro e w2 ⟨h2,B2,rfl,hB2,HB2,hlo2,hne2,hM2,hK2⟩
 have hN2:=hN1.keep hK2 HgS.out
 have hKS2:=hKS1.trans hK2
 clear c0 c2 hM1 hN1 hKS1 hK2
 have c3:=(hM2.blk hBr).cell 3
 simp only [List.getElem?_cons_zero,List.getElem?_cons_succ] at c3
 go_wp2_with fail
 refine (then_any x D F f b HEb.out vb HVb.out n HNn.out hn2 w2 av _ h2 _ B2 _ _ hM2 hN2 hB2 hR1 HB2.out (fun e=>hne2 e.symm) hlo2).mono ?_
 rintro e w3 ⟨rfl,⟨A3,hA3,hR3⟩,hM3,hK3⟩
 have hKS3:=hKS2.consNew hK3 (Nat.le_refl _)
 have HR3:=hid' hR3
 clear c3 hM2 hN2 hKS2 hK3 hB2 hR3 hR1
 generalize w.heap.size=g at *
 obtain ⟨u,z1,z2,z3,z4⟩:=hM3.facts hid n HNn.out hin
 have z6:=(hM3.blk hBr).cell 6
 simp only [List.getElem?_cons_zero,List.getElem?_cons_succ] at z6
 have HD:=hid' (end_done (P:=Q.EN x.t.data.toList D F r.id i) HNn.out hM3 hA3 (HR3.out.congr (fun j hj=>by
     rw [Q.en_cat hO hI hF hk ‹r.subs=[a,b]› oa ob]
     constructor
     ·rintro (h | ⟨k,_,h⟩)
      ·exact h.elim
      ·exact ⟨k,h⟩
     ·rintro ⟨k,h1,h2⟩
      exact .inr ⟨k,by have:=h1.2.1; rw [hlen] at this; have:=HNn.out; omega,h1,h2⟩)) hKS3 hga (k:=2 * r.id) (by omega) hin (fun j hj=>by rw [vn_even]))
 clear hM3 hA3
 go_wp2_with fail
 go_region
 all_goals
  go_wp2
  go_ret
  exact HD.out
set_option maxRecDepth 100000 in
set_option maxHeartbeats 1600000 in
theorem end_k4 {x:Tb} {D:Nat→G.Rx} {F f:Nat} {r:G.Rx} (hO:G.RxOk x.N (f + 1) r) (hI:G.Ids D 0 x.N (f + 1) r) (hF:f + 1≤F) (ht:x.t.size≤200) (hk:r.kind=4) {a:G.Rx} (e:r.subs=[a]) (oa:G.RxOk x.N f a) (l0:0≤r.lo) (l1:r.lo≤99) (l2 : -1≤r.hi) (l3:r.hi≤99) (ha:EndC x D F f a):EndN x D F (f + 1) r:=by
 intro w av v i hM hR hi hnil
 have hid:r.id<x.N:=hO.1
 obtain ⟨n,hn⟩:∃ n,n=x.t.size + 1:=⟨_,rfl⟩
 have hn2:n≤1001:=by omega
 have hin:i<n:=by omega
 obtain ⟨br,vin,va,vb,rfl,hBr,hIn,hA,hB⟩:=hR
 obtain ⟨u0,m1,e1,_,_⟩:=hM.facts hid n hn hin
 have c6:=(hM.blk hBr).cell 6
 simp only [List.getElem?_cons_zero,List.getElem?_cons_succ] at c6
 have i0:(0:Int)≤(i:Int):=by omega
 have i1:(i:Int)<(n:Int):=by omega
 have j0:(0:Int)≤(r.id:Int):=by omega
 have j1:(r.id:Int)<(x.N:Int):=by omega
 have hno:=fun w=>bnil_no w
 have HBL:=hid' (blank_mem hM (by omega) n hn hn2)
 have hga:w.heap.size ∉ av:=fun hm=>by have:=(hM.av _ hm).2; omega
 have HVa:=hid' (sub_at0 e hA)
 have HEa:=hid' ha
 have HgS:Hid (w.heap.size ∉ x.S):=Tb.notS (hM.top (by omega))
 have hlen:x.t.data.toList.length=x.t.size:=rfl
 rw [← hn]
 have HNn:=hid' hn
 clear hM hn ha
 go_enter Try.func88,Try.ntmps88
 go_wp2_with fail
 go_quiet (fail)
 go_wp2_with fail
 refine (HBL.out _).mono ?_
 rintro e w1 ⟨rfl,hN1,hM1,hK1⟩
 have hR1:=rowIs_none n
 have hKS1:Keep x.S w w1:=hK1.mono (by simp)
 clear m1 e1 c6 hnil HBL hK1
 have c0:=(hM1.blk hBr).cell 0
 simp only [List.getElem?_cons_zero,hk] at c0
 go_wp2_with fail
 refine (blank_mem0 hM1 (by omega) n HNn.out hn2).mono ?_
 rintro e w2 ⟨rfl,hF2,hM2,hK2⟩
 have hN2:=hN1.keep hK2 (by simp)
 have hKS2:=hKS1.trans (hK2.mono (by simp))
 have n1:w.heap.size ≠ w1.heap.size:=by have:=hN1.blk.lt; omega
 have n2:x.s0 + 2 * x.N≤w1.heap.size:=(hM2.av _ List.mem_cons_self).1
 have n3:w.heap.size≤w1.heap.size:=hKS1.size
 clear c0 hM1 hN1 hKS1 hK2
 generalize w1.heap.size=gf at *
 obtain ⟨s1,s2⟩:=hF2.at i (by rw [List.length_replicate]; exact hin)
 have hK3:Keep [gf] w2 (w2.setCell ⟨gf,i,none⟩ (.bool true)):=(Keep.refl _ w2).setCell (by simp) _
 have hF3:=hF2.set i true
 have hM3:=(hM2.one hK3).drop
 have hN3:=hN2.keep hK3 (by rw [List.mem_singleton]; exact n1)
 have hKS3:Keep x.S w (w2.setCell ⟨gf,i,none⟩ (.bool true)):=hKS2.setNew (p:=⟨gf,i,none⟩) n3 _
 have HRF:=hid' (hR1.set hin)
 go_upto_region 21 with fail
 revert hF3 hM3 hN3 hKS3
 generalize w2.setCell ⟨gf,i,none⟩ (.bool true)=w3
 intro hF3 hM3 hN3 hKS3
 clear hF2 hM2 hN2 hKS2 hK3 s1 s2
 have c2:=(hM3.blk hBr).cell 2
 have c4:=(hM3.blk hBr).cell 4
 have c5:=(hM3.blk hBr).cell 5
 simp only [List.getElem?_cons_zero,List.getElem?_cons_succ] at c2 c4 c5
 obtain ⟨mo,HMO⟩:∃ mo:Nat,Hid (mo=if r.hi<0 then r.lo.toNat + x.t.size + 1 else r.hi.toNat):=⟨_,rfl⟩
 have HRP:Hid (∀ q,Calls Try.prog 105 #[.pointer (some ⟨x.bm,0,none⟩),.slice (some ⟨w.heap.size,0,none⟩) n n,.slice (some ⟨gf,0,none⟩) n n,va,.int .i64 r.lo,.int .i64 r.hi] (w3.drewN q) fun e w'=>e=.returned (.tuple #[]) ∧
     (∃ A1,Bools w' w.heap.size A1∧Hid (RowIs n A1 (fun j=>False∨∃ c,r.lo.toNat≤c∧c≤mo∧∃ k,k<n∧(False∨k=i)∧Q.PN x.t.data.toList D F a.id c k j)))∧Mem x (VN x.t.data.toList D F) w' (w.heap.size :: av)∧Keep x.S w w'):=fun q=>by
  refine (repeat_any x D F f a HEa.out va HVa.out n HNn.out hn2 (w3.drewN q) av w.heap.size gf _ _ _ _ (hM3.drewN q) ⟨hN3.blk⟩ ⟨hF3.blk⟩ hR1 HRF.out n1 n2 r.lo r.hi l0 l1 l2 l3 mo HMO.out).mono ?_
  rintro e w' ⟨h1,⟨A1,h2,h3⟩,h4,h5⟩
  exact ⟨h1,⟨A1,h2,h3⟩,h4,(hKS3.drewN q).consNew h5 (Nat.le_refl _)⟩
 have HL:Hid (∀ j,(False∨∃ c,r.lo.toNat≤c∧c≤mo∧∃ k,k<n∧(False∨k=i)∧Q.PN x.t.data.toList D F a.id c k j) ↔ Q.EN x.t.data.toList D F r.id i j):=fun j=>by
  rw [Q.en_rep hO hI hF hk e oa,hlen]
  have hmo:=HMO.out
  rw [← hmo]
  constructor
  ·rintro (h | ⟨c,h1,h2,k,h3,h4 | h4,h5⟩)
   ·exact h.elim
   ·exact h4.elim
   ·rw [h4] at h5; exact ⟨c,h1,h2,h5⟩
  ·rintro ⟨c,h1,h2,h3⟩
   exact .inr ⟨c,h1,h2,i,hin,.inr rfl,h3⟩
 clear hF3 hM3 hN3 hKS3
 go_region_with ((go_at_call 105; refine (HRP.out _).mono ?_; rintro e w4 ⟨rfl,⟨A4,hA4,HR4⟩,hM4,hKS4⟩))
 all_goals
  clear c2 c4 c5 HRP
  generalize w.heap.size=g at *
  obtain ⟨u,z1,z2,z3,z4⟩:=hM4.facts hid n HNn.out hin
  have z6:=(hM4.blk hBr).cell 6
  simp only [List.getElem?_cons_zero,List.getElem?_cons_succ] at z6
  have HD:=hid' (end_done (P:=Q.EN x.t.data.toList D F r.id i) HNn.out hM4 hA4 (HR4.out.congr (fun j hj=>HL.out j)) hKS4 hga (k:=2 * r.id) (by omega) hin (fun j hj=>by rw [vn_even]))
  clear hM4 hA4
  go_wp2_with fail
  go_region
  all_goals
   go_wp2
   go_ret
   exact HD.out
theorem end_any {x:Tb} {D:Nat→G.Rx} {F:Nat} (ht:x.t.size≤200):∀ (f:Nat) (r:G.Rx),f≤F→G.RxOk x.N f r→G.Ids D 0 x.N f r→EndC x D F f r
 | 0,_,_,h,_=>h.elim
 | f + 1,r,hF,hO,hI=>by
  refine endC_of hO.1 ?_
  rcases hO.2 with h | ⟨h,_⟩ | ⟨h,a,b,e,h1,h2⟩ | ⟨h,a,e,h1,l0,l1,l2,l3⟩
  ·exact end_k0 hO hI hF ht h
  ·exact end_k1 hO hI hF ht h
  ·have ia:=hI.2.2.2 a (by rw [e]; simp)
   have ib:=hI.2.2.2 b (by rw [e]; simp)
   have ea:EndC x D F f a:=end_any ht f a (by omega) h1 ia
   have eb:EndC x D F f b:=end_any ht f b (by omega) h2 ib
   rcases h with h | h
   ·exact end_k2 hO hI hF ht h e h1 h2 ea eb
   ·exact end_k3 hO hI hF ht h e h1 h2 ea eb
  ·have ia:=hI.2.2.2 a (by rw [e]; simp)
   exact end_k4 hO hI hF ht h e h1 l0 l1 l2 l3 (end_any ht f a (by omega) h1 ia)
end Go.Proofs.Ytjmkkkfloalliab
