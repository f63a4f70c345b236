import Derived.Test.YtjmkkkfloalliabZ05
import Derived.Test.YtjmkkkfloalliabZ06
import Derived.Test.YtjmkkkfloalliabZ02
import Derived.Test.YtjmkkkfloalliabZ01
import Derived.Lib.ConvBytes
import Derived.Laws.AppendOwnNone
namespace Go.Proofs.Ytjmkkkfloalliab
set_option linter.unusedVariables false
open Go.RowKit
theorem bytes_ext {a b:ByteArray} (h:a.data.toList=b.data.toList):a=b:=by
 cases a; cases b
 congr 1
 exact Array.toList_inj.1 h
set_option maxRecDepth 100000 in
set_option maxHeartbeats 1600000 in
theorem lsaved_any (w:World) (bw bx rate:Nat) (t a reg:ByteArray) (vx vl vm:Value) (hI:IdxOf w bx rate t.data.toList a) (hV:BlkT w bw 59 [vx,.string reg,vl,vm]) :
    Calls Try.prog 44 #[.pointer (some ⟨bw,0,none⟩),pairV bx rate t] w fun e w'=>e=.returned (.bool true)∧(∃ s:ByteArray,s.size≤700∧LoadOk s.data.toList t.data.toList rate∧BlkT w' bw 59 [vx,.string s,vl,vm])∧Keep [bw] w w':=by
 have hts:t.size≤200:=by rw [← size_len]; exact hI.len
 have hr1:=hI.r1
 have hr2:=hI.r2
 have hB0:Below w.heap.size w (w.alloc (.cells #[.pointer (some ⟨bx,0,none⟩),.string t,.int .i64 (rate:Int)] 78)):=(Below.refl _ w).alloc (Nat.le_refl _) _
 have hP0:BlkT (w.alloc (.cells #[.pointer (some ⟨bx,0,none⟩),.string t,.int .i64 (rate:Int)] 78)) w.heap.size 78 [.pointer (some ⟨bx,0,none⟩),.string t,.int .i64 (rate:Int)]:=BlkT.new w _ _
 have hI0:=hI.below hB0 hI.lt
 have HS:=hid (save_of hI0)
 have hV0:=hV.alloc (.cells #[.pointer (some ⟨bx,0,none⟩),.string t,.int .i64 (rate:Int)] 78)
 have hlt:=hV.lt
 have HR:=hid (fun w'=>rsaved_any t rate w' (by omega) hr1 (by omega))
 clear hI0 hI
 unfold pairV
 go_enter Try.func44,Try.ntmps44
 go_wp2_with fail
 refine HS.out.mono ?_
 rintro e w1 ⟨s1,rfl,HL,hs1,hs0,hB1⟩
 have hP1:BlkT w1 w.heap.size 78 [.pointer (some ⟨bx,0,none⟩),.string t,.int .i64 (rate:Int)]:=(hB1.block w.heap.size (by simp)).trans hP0
 have hV1:BlkT w1 bw 59 [vx,.string reg,vl,vm]:=(hB1.block bw (by simp; omega)).trans hV0
 have hBB1:=hB0.trans (hB1.mono hB0.size)
 clear hP0 hV0 hB0 hB1 HS
 have p0:=hP1.cell 0; have p1:=hP1.cell 1; have p2:=hP1.cell 2
 simp only [List.getElem?_cons_zero,List.getElem?_cons_succ] at p0 p1 p2
 have HR1:=hid (HR.out w1)
 go_upto_region 3 with (go_at_call 62; refine HR1.out.mono ?_; rintro e w2 ⟨s2,rfl,HL2,hB2⟩)
 have hV2:BlkT w2 bw 59 [vx,.string reg,vl,vm]:=(hB2.block bw hV1.lt).trans hV1
 have hBB2:=hBB1.trans (hB2.mono hBB1.size)
 have he:s1=s2:=bytes_ext (by rw [HL2.out]; exact HL.out.2.2.2)
 subst he
 have hK:=((Keep.of_below (S:=[bw]) hBB2 (Nat.le_refl _)).setCell (p:=⟨bw,1,none⟩) (by simp) (.string s1))
 have hV3:=hV2.set 1 (.string s1)
 have f1:=hV2.frozen 1
 have v1:=hV2.cell 1
 simp only [List.getElem?_cons_zero,List.getElem?_cons_succ] at v1
 clear hP1 hV1 hB2 HR HR1 p0 p1 p2 hBB1 HL2
 go_wp2
 go_ret
 exact ⟨rfl,⟨s1,hs1,HL.out,hV3⟩,hK⟩
set_option maxRecDepth 100000 in
set_option maxHeartbeats 800000 in
theorem lsameI (ba bb n:Nat) (xs:List Int) (w:World) (hn:n=xs.length) (h0:n≤100000) (hA:Nums .i64 w ba xs) (hB:Nums .i64 w bb xs) :
    Calls Try.prog 46 #[.slice (some ⟨ba,0,none⟩) n n,.slice (some ⟨bb,0,none⟩) n n] w fun e w'=>e=.returned (.bool true)∧∃ q,w'=w.drewN q:=by
 have HCA:Hid (∀ k,k<n→w.cell? ⟨ba,k,none⟩=some (.int .i64 (xs.getD k 0))):=fun k hk=>hA.cell k (by omega)
 have HCB:Hid (∀ k,k<n→w.cell? ⟨bb,k,none⟩=some (.int .i64 (xs.getD k 0))):=fun k hk=>hB.cell k (by omega)
 clear hA hB hn
 go_enter Try.func46,Try.ntmps46
 go_wp2
 go_loopw [5] (fun i wr=>∃ k:Nat,k≤n∧i=.int .i64 k∧∃ q,wr=w.drewN q) (fun i _=>n - (intOf i).toNat)
 case atStart=>exact ⟨0,by omega,rfl,0,rfl⟩
 case round =>
  obtain ⟨k,hk,rfl,q,rfl⟩:=hrel
  rcases Nat.lt_or_ge k n with hlt | hge
  ·have c1:w.cell? ⟨ba,k,none⟩=some (.int .i64 (xs.getD k 0)):=HCA.out k hlt
   have c2:w.cell? ⟨bb,k,none⟩=some (.int .i64 (xs.getD k 0)):=HCB.out k hlt
   have i0:(0:Int)≤(k:Int):=by omega
   have i1:(k:Int)<(n:Int):=by omega
   generalize xs.getD k 0=x at *
   go_wp2
   go_quiet (fail)
   go_wp2
   go_roundw
   case rel=>exact ⟨k + 1,by omega,by go_num,_,rfl⟩
   case measure=>simp [intOf]; omega
  ·have hkn:k=n:=by omega
   subst hkn
   go_wp2
   go_ret
   exact ⟨rfl,_,rfl⟩
set_option maxRecDepth 100000 in
set_option maxHeartbeats 1600000 in
theorem looks_none (w:World) (bw cl:Nat) (pl:Option Addr) (vx vr vm:Value) (hV:BlkT w bw 59 [vx,vr,.slice pl 0 cl,vm]) :
    Calls Try.prog 30 #[.pointer (some ⟨bw,0,none⟩)] w fun e w'=>e=.returned (.bool true)∧∃ q,w'=w.drewN q:=by
 have c2:=hV.cell 2
 simp only [List.getElem?_cons_zero,List.getElem?_cons_succ] at c2
 clear hV
 go_enter Try.func30,Try.ntmps30
 go_wp2
 go_loopw [3] (fun i wr=>i=.int .i64 0∧wr=w) (fun i _=>0)
 case atStart=>exact ⟨rfl,rfl⟩
 case round =>
  obtain ⟨rfl,rfl⟩:=hrel
  go_wp2
  go_ret
  exact ⟨rfl,0,rfl⟩
set_option maxRecDepth 100000 in
set_option maxHeartbeats 1600000 in
theorem looks_any (w:World) (bw n bl bm cl cm:Nat) (vx vr:Value) (G C:Nat→Nat) (X:Nat→List Int) (hn:n≤100000000) (hV:BlkT w bw 59 [vx,vr,.slice (some ⟨bl,0,none⟩) n cl,.slice (some ⟨bm,0,none⟩) n cm])
    (hl:∀ i,i<n→w.cell? ⟨bl,i,none⟩=some (.slice (some ⟨G i,0,none⟩) (X i).length (X i).length)) (hm:∀ i,i<n→w.cell? ⟨bm,i,none⟩=some (.slice (some ⟨C i,0,none⟩) (X i).length (X i).length))
    (hx:∀ i,i<n→(X i).length≤100000∧Nums .i64 w (G i) (X i)∧Nums .i64 w (C i) (X i)) :
    Calls Try.prog 30 #[.pointer (some ⟨bw,0,none⟩)] w fun e w'=>e=.returned (.bool true)∧∃ q,w'=w.drewN q:=by
 have c2:=hV.cell 2
 have c3:=hV.cell 3
 simp only [List.getElem?_cons_zero,List.getElem?_cons_succ] at c2 c3
 have HL:=hid hl
 have HM:=hid hm
 have HX:=hid hx
 clear hV hl hm hx
 go_enter Try.func30,Try.ntmps30
 go_wp2
 go_loopw [3] (fun i wr=>∃ k:Nat,k≤n∧i=.int .i64 k∧∃ q,wr=w.drewN q) (fun i _=>n - (intOf i).toNat)
 case atStart=>exact ⟨0,by omega,rfl,0,rfl⟩
 case round =>
  obtain ⟨k,hk,rfl,q,rfl⟩:=hrel
  rcases Nat.lt_or_ge k n with hlt | hge
  ·have d1:=HL.out k hlt
   have d2:=HM.out k hlt
   have i0:(0:Int)≤(k:Int):=by omega
   have i1:(k:Int)<(n:Int):=by omega
   obtain ⟨x1,x2,x3⟩:=HX.out k hlt
   have HS:Hid (∀ q',Calls Try.prog 46 #[.slice (some ⟨G k,0,none⟩) (X k).length (X k).length,.slice (some ⟨C k,0,none⟩) (X k).length (X k).length] (w.drewN (q + q')) fun e w''=>e=.returned (.bool true)∧∃ n,w''=w.drewN (q + n)):=fun q' =>
    (lsameI (G k) (C k) (X k).length (X k) (w.drewN (q + q')) rfl x1 x2 x3).mono (fun e w' h=>⟨h.1,by
     obtain ⟨m,hm⟩:=h.2
     exact ⟨q' + m,by rw [hm,World.drewN_drewN,Nat.add_assoc]⟩⟩)
   clear x1 x2 x3
   generalize (X k).length=lk at *
   generalize G k=gk at *
   generalize C k=ck at *
   go_wp2_with fail
   go_quiet ((go_at_call 46; exact HS.out _))
   go_wp2
   go_roundw
   case rel=>exact ⟨k + 1,by omega,by go_num,_,rfl⟩
   case measure=>simp [intOf]; omega
  ·have hkn:k=n:=by omega
   subst hkn
   go_wp2
   go_ret
   exact ⟨rfl,_,rfl⟩
def opV (k a b c:Int) (s:ByteArray):Value:=.agg #[.int .i64 k,.int .i64 a,.int .i64 b,.int .i64 c,.string s]
set_option maxRecDepth 100000 in
set_option maxHeartbeats 1600000 in
theorem owner_none (w:World) (bw:Nat) (k a b c:Int) (s:ByteArray) (h6:k ≠ 6) (h7:k ≠ 7) (h8:k ≠ 8) (h11:k ≠ 11) :
    Calls Try.prog 37 #[.pointer (some ⟨bw,0,none⟩),opV k a b c s] w fun e w'=>e=.returned (.bool false)∧Below w.heap.size w w':=by
 have q6:(k == 6)=false:=by simpa using h6
 have q7:(k == 7)=false:=by simpa using h7
 have q8:(k == 8)=false:=by simpa using h8
 have q11:(k == 11)=false:=by simpa using h11
 have hB0:Below w.heap.size w (w.alloc (.cells #[.int .i64 k,.int .i64 a,.int .i64 b,.int .i64 c,.string s] 62)):=(Below.refl _ w).alloc (Nat.le_refl _) _
 unfold opV
 go_enter Try.func37,Try.ntmps37
 go_wp2
 go_ret
 exact ⟨rfl,hB0⟩
set_option maxRecDepth 100000 in
set_option maxHeartbeats 1600000 in
theorem owner_store (w:World) (bw:Nat) (a b c:Int) (s reg:ByteArray) (vx vl vm:Value) (hV:BlkT w bw 59 [vx,.string reg,vl,vm]) :
    Calls Try.prog 37 #[.pointer (some ⟨bw,0,none⟩),opV 6 a b c s] w fun e w'=>e=.returned (.bool true)∧BlkT w' bw 59 [vx,.string s,vl,vm]∧Keep [bw] w w':=by
 have hlt:=hV.lt
 have hV0:=hV.alloc (.cells #[.int .i64 6,.int .i64 a,.int .i64 b,.int .i64 c,.string s] 62)
 have hO0:BlkT (w.alloc (.cells #[.int .i64 6,.int .i64 a,.int .i64 b,.int .i64 c,.string s] 62)) w.heap.size 62 [.int .i64 6,.int .i64 a,.int .i64 b,.int .i64 c,.string s]:=BlkT.new w _ _
 have hK0:Keep [bw] w (w.alloc (.cells #[.int .i64 6,.int .i64 a,.int .i64 b,.int .i64 c,.string s] 62)):=(Keep.refl _ w).alloc _
 unfold opV
 go_enter Try.func37,Try.ntmps37
 go_upto_region 1 with fail
 generalize w.alloc (.cells #[.int .i64 6,.int .i64 a,.int .i64 b,.int .i64 c,.string s] 62)=w1 at *
 have o0:=hO0.cell 0; have o4:=hO0.cell 4
 have c1:=hV0.cell 1
 have f1:=hV0.frozen 1
 simp only [List.getElem?_cons_zero,List.getElem?_cons_succ] at o0 o4 c1
 have HF:Hid (BlkT (w1.setCell ⟨bw,1,none⟩ (.string s)) bw 59 [vx,.string s,vl,vm]∧Keep [bw] w (w1.setCell ⟨bw,1,none⟩ (.string s))):=⟨hV0.set 1 _,hK0.setCell (by simp) _⟩
 clear hV0 hO0 hK0 hV
 go_wp2
 go_ret
 exact ⟨rfl,HF.out⟩
set_option maxHeartbeats 400000 in
theorem lpick_big (c n:Int) (w:World) (h0 : -9223372036854775808≤c) (h1:c≤9223372036854775807) (n0:1≤n) (n1:n≤9223372036854775807) :
    Calls Try.prog 40 #[.int .i64 c,.int .i64 n] w fun e w'=>(∃ r:Nat,e=.returned (.int .i64 r)∧(r:Int)<n)∧w'=w:=by
 have key:∀ d:Int,0≤d→∃ r:Nat,d % n=(r:Int)∧(r:Int)<n:=fun d hd=>⟨(d % n).toNat,by have:=Int.emod_nonneg d (show n ≠ 0 by omega); omega,by have:=Int.emod_nonneg d (show n ≠ 0 by omega); have:=Int.emod_lt_of_pos d (show 0<n by omega); omega⟩
 by_cases h:c<0
 ·obtain ⟨r,hr,hl⟩:=key (-(c + 1)) (by omega)
  have HR:Hid _:=hr
  clear hr key
  go_enter Try.func40,Try.ntmps40
  go_wp2
  go_ret
  exact ⟨⟨r,ret_int (by rw [← Int.neg_tmod,Int.tmod_eq_emod_of_nonneg (by omega)]; exact HR.out),hl⟩,rfl⟩
 ·obtain ⟨r,hr,hl⟩:=key c (by omega)
  have HR:Hid _:=hr
  clear hr key
  go_enter Try.func40,Try.ntmps40
  go_wp2
  go_ret
  exact ⟨⟨r,ret_int (HR.out),hl⟩,rfl⟩
set_option maxHeartbeats 400000 in
theorem lpick_ex (c n:Int) (h0 : -9223372036854775808≤c) (h1:c≤9223372036854775807) (n0:1≤n) (n1:n≤9223372036854775807) :
    ∃ r:Nat,(r:Int)<n∧∀ w,Calls Try.prog 40 #[.int .i64 c,.int .i64 n] w fun e w'=>e=.returned (.int .i64 r)∧w'=w:=by
 have key:∀ d:Int,0≤d→∃ r:Nat,d % n=(r:Int)∧(r:Int)<n:=fun d hd=>⟨(d % n).toNat,by have:=Int.emod_nonneg d (show n ≠ 0 by omega); omega,by have:=Int.emod_nonneg d (show n ≠ 0 by omega); have:=Int.emod_lt_of_pos d (show 0<n by omega); omega⟩
 by_cases h:c<0
 ·obtain ⟨r,hr,hl⟩:=key (-(c + 1)) (by omega)
  have HR:Hid _:=hr
  clear hr key
  refine ⟨r,hl,fun w=>?_⟩
  go_enter Try.func40,Try.ntmps40
  go_wp2
  go_ret
  exact ⟨ret_int (by rw [← Int.neg_tmod,Int.tmod_eq_emod_of_nonneg (by omega)]; exact HR.out),rfl⟩
 ·obtain ⟨r,hr,hl⟩:=key c (by omega)
  have HR:Hid _:=hr
  clear hr key
  refine ⟨r,hl,fun w=>?_⟩
  go_enter Try.func40,Try.ntmps40
  go_wp2
  go_ret
  exact ⟨ret_int (HR.out),rfl⟩
set_option maxRecDepth 100000 in
set_option maxHeartbeats 1600000 in
theorem owner_cell0 (w:World) (bw cl:Nat) (a b c:Int) (s:ByteArray) (pl:Option Addr) (vx vr vm:Value) (hV:BlkT w bw 59 [vx,vr,.slice pl 0 cl,vm]) :
    Calls Try.prog 37 #[.pointer (some ⟨bw,0,none⟩),opV 11 a b c s] w fun e w'=>e=.returned (.bool true)∧Below w.heap.size w w':=by
 have hV0:=hV.alloc (.cells #[.int .i64 11,.int .i64 a,.int .i64 b,.int .i64 c,.string s] 62)
 have hO0:BlkT (w.alloc (.cells #[.int .i64 11,.int .i64 a,.int .i64 b,.int .i64 c,.string s] 62)) w.heap.size 62 [.int .i64 11,.int .i64 a,.int .i64 b,.int .i64 c,.string s]:=BlkT.new w _ _
 have hB0:Below w.heap.size w (w.alloc (.cells #[.int .i64 11,.int .i64 a,.int .i64 b,.int .i64 c,.string s] 62)):=(Below.refl _ w).alloc (Nat.le_refl _) _
 unfold opV
 go_enter Try.func37,Try.ntmps37
 go_upto_region 1 with fail
 generalize w.alloc (.cells #[.int .i64 11,.int .i64 a,.int .i64 b,.int .i64 c,.string s] 62)=w1 at *
 have o0:=hO0.cell 0
 have c2:=hV0.cell 2
 simp only [List.getElem?_cons_zero,List.getElem?_cons_succ] at o0 c2
 clear hV0 hO0 hV
 go_wp2
 go_ret
 exact ⟨rfl,hB0⟩
set_option maxRecDepth 100000 in
set_option maxHeartbeats 3200000 in
theorem owner_cell (w:World) (bw n bl bm cl cm:Nat) (a b c:Int) (s:ByteArray) (vx vr:Value) (G C:Nat→Nat) (X:Nat→List Int) (a0 : -9223372036854775808≤a) (a1:a≤9223372036854775807) (b0 : -9223372036854775808≤b) (b1:b≤9223372036854775807) (hn0:0<n) (hn:n≤100000000)
    (hV:BlkT w bw 59 [vx,vr,.slice (some ⟨bl,0,none⟩) n cl,.slice (some ⟨bm,0,none⟩) n cm])
    (hl:∀ i,i<n→w.cell? ⟨bl,i,none⟩=some (.slice (some ⟨G i,0,none⟩) (X i).length (X i).length)) (hm:∀ i,i<n→w.cell? ⟨bm,i,none⟩=some (.slice (some ⟨C i,0,none⟩) (X i).length (X i).length))
    (hx:∀ i,i<n→(X i).length≤100000∧Nums .i64 w (G i) (X i)∧Nums .i64 w (C i) (X i)) (hGC:∀ i,i<n→G i ≠ bw∧G i ≠ bl∧G i ≠ bm∧C i ≠ bw∧C i ≠ bl∧C i ≠ bm∧G i ≠ C i) (hbl:bl<w.heap.size) (hbm:bm<w.heap.size) :
    Calls Try.prog 37 #[.pointer (some ⟨bw,0,none⟩),opV 11 a b c s] w fun e w'=>e=.returned (.bool true)∧∃ r,r<n∧Keep [G r,C r] w w'∧((X r=[]∧Below w.heap.size w w')∨∃ j,j<(X r).length∧Nums .i64 w' (G r) ((X r).set j c)∧Nums .i64 w' (C r) ((X r).set j c)):=by
 obtain ⟨r,hr,HPK⟩:=lpick_ex a n a0 a1 (by omega) (by omega)
 have hr':r<n:=by omega
 obtain ⟨x1,x2,x3⟩:=hx r hr'
 obtain ⟨g1,g2,g3,g4,g5,g6,g7⟩:=hGC r hr'
 have d1:=hl r hr'
 have d2:=hm r hr'
 have HPK:=hid HPK
 have hw0:w.heap.size ≠ G r:=by have:=Blk.lt x2; omega
 have hw1:w.heap.size ≠ C r:=by have:=Blk.lt x3; omega
 have HPOST:Hid (∀ w',Keep [G r,C r] w w'→((X r=[]∧Below w.heap.size w w')∨∃ j,j<(X r).length∧Nums .i64 w' (G r) ((X r).set j c)∧Nums .i64 w' (C r) ((X r).set j c))→∃ r,r<n∧Keep [G r,C r] w w'∧((X r=[]∧Below w.heap.size w w')∨∃ j,j<(X r).length∧Nums .i64 w' (G r) ((X r).set j c)∧Nums .i64 w' (C r) ((X r).set j c))):=fun w' h1 h2=>⟨r,hr',h1,h2⟩
 clear hl hm hx hGC
 generalize X r=xs at *
 generalize G r=g at *
 generalize C r=cc at *
 have hV0:=hV.alloc (.cells #[.int .i64 11,.int .i64 a,.int .i64 b,.int .i64 c,.string s] 62)
 have hO0:BlkT (w.alloc (.cells #[.int .i64 11,.int .i64 a,.int .i64 b,.int .i64 c,.string s] 62)) w.heap.size 62 [.int .i64 11,.int .i64 a,.int .i64 b,.int .i64 c,.string s]:=BlkT.new w _ _
 have hB0:Below w.heap.size w (w.alloc (.cells #[.int .i64 11,.int .i64 a,.int .i64 b,.int .i64 c,.string s] 62)):=(Below.refl _ w).alloc (Nat.le_refl _) _
 have e1:(w.alloc (.cells #[.int .i64 11,.int .i64 a,.int .i64 b,.int .i64 c,.string s] 62)).cell? ⟨bl,r,none⟩=some (.slice (some ⟨g,0,none⟩) xs.length xs.length):=by rw [World.cell?_alloc_lt _ _ _ hbl]; exact d1
 have e2:(w.alloc (.cells #[.int .i64 11,.int .i64 a,.int .i64 b,.int .i64 c,.string s] 62)).cell? ⟨bm,r,none⟩=some (.slice (some ⟨cc,0,none⟩) xs.length xs.length):=by rw [World.cell?_alloc_lt _ _ _ hbm]; exact d2
 have y2:Nums .i64 (w.alloc (.cells #[.int .i64 11,.int .i64 a,.int .i64 b,.int .i64 c,.string s] 62)) g xs:=Blk.below x2 hB0 (Blk.lt x2)
 have y3:Nums .i64 (w.alloc (.cells #[.int .i64 11,.int .i64 a,.int .i64 b,.int .i64 c,.string s] 62)) cc xs:=Blk.below x3 hB0 (Blk.lt x3)
 unfold opV
 go_enter Try.func37,Try.ntmps37
 go_upto_region 1 with fail
 generalize w.alloc (.cells #[.int .i64 11,.int .i64 a,.int .i64 b,.int .i64 c,.string s] 62)=w1 at *
 generalize hob:w.heap.size=ob at *
 rw [← hob] at HPOST hB0
 have o0:=hO0.cell 0; have o1:=hO0.cell 1; have o2:=hO0.cell 2; have o3:=hO0.cell 3
 have c2:=hV0.cell 2; have c3:=hV0.cell 3
 simp only [List.getElem?_cons_zero,List.getElem?_cons_succ] at o0 o1 o2 o3 c2 c3
 have HY2:=hid y2
 have HY3:=hid y3
 have i0:(0:Int)≤(r:Int):=by omega
 have i1:(r:Int)<(n:Int):=hr
 have q0:decide ((n:Int) > 0)=true:=decide_eq_true (by omega)
 have q1:decide ((0:Int)<(n:Int))=true:=decide_eq_true (by omega)
 clear hV0 hO0 hV x2 x3 y2 y3 d1 d2
 go_upto_region 16 with fail
 go_quiet ((go_at_call 40; exact Calls.quiet_of_same (HPK.out _)))
 rcases Nat.eq_zero_or_pos xs.length with hz | hz
 ·have q2:decide ((xs.length:Int) > 0)=false:=decide_eq_false (by omega)
  have q3:decide ((0:Int)<(xs.length:Int))=false:=decide_eq_false (by omega)
  go_wp2
  go_ret
  exact ⟨rfl,HPOST.out _ (Keep.of_below (below_drewN hB0 _) (Nat.le_refl _)) (.inl ⟨List.eq_nil_of_length_eq_zero hz,below_drewN hB0 _⟩)⟩
 ·obtain ⟨j,hj,HPJ⟩:=lpick_ex b xs.length b0 b1 (by omega) (by omega)
  have HPJ:=hid HPJ
  have j0:(0:Int)≤(j:Int):=by omega
  have j1:(j:Int)<(xs.length:Int):=hj
  have q2:decide ((xs.length:Int) > 0)=true:=decide_eq_true (by omega)
  have q3:decide ((0:Int)<(xs.length:Int))=true:=decide_eq_true (by omega)
  go_upto_region 18 with fail
  have HPJ2:Hid (∀ x,Calls Try.prog 40 #[.int .i64 b,.int .i64 (xs.length:Int)] (w1.drewN (nq + x)) fun e w''=>e=.returned (.int .i64 j)∧∃ n,w''=w1.drewN (nq + n)):=fun x=>(HPJ.out _).mono (fun e w' h=>⟨h.1,x,h.2⟩)
  go_quiet ((go_at_call 40; exact HPJ2.out _))
  have fg:=Blk.frozen HY2.out j
  have fc:=Blk.frozen HY3.out j
  have vg:=HY2.out.cell j (by omega)
  have vc:=HY3.out.cell j (by omega)
  go_upto_region 19 with fail
  have k3:∀ (N b o:Nat) (v:Value),b ≠ g→w1.cell? ⟨b,o,none⟩=some v→((w1.drewN N).setCell ⟨g,j,none⟩ (.int .i64 c)).cell? ⟨b,o,none⟩=some v:=fun N b o v hb h=>by
   rw [World.cell?_setCell_other (h:=fun e=>hb (congrArg Addr.block e).symm)]; exact h
  have t1:=fun N=>k3 N bw 3 _ (Ne.symm g1) c3
  have t2:=fun N=>k3 N bm r _ (Ne.symm g3) e2
  have t3:=fun N=>k3 N ob 3 _ hw0 o3
  have t4:=fun N=>k3 N cc j _ (Ne.symm g7) vc
  have t5:∀ N,((w1.drewN N).setCell ⟨g,j,none⟩ (.int .i64 c)).frozen? ⟨cc,j,none⟩=false:=fun N=>Blk.frozen (Blk.of_heap HY3.out (w':=(w1.drewN N).setCell ⟨g,j,none⟩ (.int .i64 c)) (Below.heap_setCell _ _ _ _ (Ne.symm g7))) j
  clear k3
  go_region
  all_goals
   go_wp2_with fail
   go_region
   all_goals
    go_wp2
    go_ret
    refine ⟨rfl,HPOST.out _ (((((Keep.of_below hB0 (Nat.le_refl _)).drewN _).setCell (by simp) _).setCell (by simp) _).drew) (.inr ⟨j,by omega,?_,?_⟩)⟩
    ·exact Blk.of_heap (Nums.set (w:=w1.drewN _) HY2.out j c) (Below.heap_setCell _ _ _ _ g7)
    ·exact Nums.set (w:=(w1.drewN _).setCell ⟨g,j,none⟩ (.int .i64 c)) (Blk.of_heap HY3.out (Below.heap_setCell _ _ _ _ (Ne.symm g7))) j c
set_option maxRecDepth 100000 in
set_option maxHeartbeats 3200000 in
theorem owner_cut (w:World) (bw:Nat) (a b c:Int) (s reg:ByteArray) (vx vl vm:Value) (a0 : -9223372036854775808≤a) (a1:a≤9223372036854775807) (hz:reg.size + s.size≤4611686018427387904)
    (hV:BlkT w bw 59 [vx,.string reg,vl,vm]) :
    Calls Try.prog 37 #[.pointer (some ⟨bw,0,none⟩),opV 8 a b c s] w fun e w'=>e=.returned (.bool true)∧(∃ s':ByteArray,s'.size≤reg.size + s.size∧BlkT w' bw 59 [vx,.string s',vl,vm])∧Keep [bw] w w':=by
 obtain ⟨r,hr,HPK⟩:=lpick_ex a ((reg.size:Int) + 1) a0 a1 (by omega) (by omega)
 have HPK:=hid HPK
 have hlt:=hV.lt
 have hV0:=hV.alloc (.cells #[.int .i64 8,.int .i64 a,.int .i64 b,.int .i64 c,.string s] 62)
 have hO0:BlkT (w.alloc (.cells #[.int .i64 8,.int .i64 a,.int .i64 b,.int .i64 c,.string s] 62)) w.heap.size 62 [.int .i64 8,.int .i64 a,.int .i64 b,.int .i64 c,.string s]:=BlkT.new w _ _
 have hK0:Keep [bw] w (w.alloc (.cells #[.int .i64 8,.int .i64 a,.int .i64 b,.int .i64 c,.string s] 62)):=(Keep.refl _ w).alloc _
 unfold opV
 go_enter Try.func37,Try.ntmps37
 go_upto_region 1 with fail
 generalize w.alloc (.cells #[.int .i64 8,.int .i64 a,.int .i64 b,.int .i64 c,.string s] 62)=w1 at *
 have hwne:w.heap.size ≠ bw:=by omega
 generalize w.heap.size=ob at *
 have o0:=hO0.cell 0; have o1:=hO0.cell 1; have o4:=hO0.cell 4
 have c1:=hV0.cell 1
 have f1:=hV0.frozen 1
 simp only [List.getElem?_cons_zero,List.getElem?_cons_succ] at o0 o1 o4 c1
 have HV0:=hid hV0
 clear hV0 hO0 hV
 have wr1:(reg.size:Int) + 1≤9223372036854775807:=by omega
 have r0:(0:Int)≤(reg.size:Int) - (r:Int):=by omega
 have r1:(reg.size:Int) - (r:Int)≤(reg.size:Int):=by omega
 go_upto_region 12 with fail
 go_quiet ((go_at_call 40; exact Calls.quiet_of_same (HPK.out _)))
 go_upto_region 13 with fail
 go_region
 all_goals
  go_wp2
  go_ret
  exact ⟨rfl,⟨reg.extract 0 (reg.size - r) ++ s,by rw [ByteArray.size_append,ByteArray.size_extract]; omega,BlkT.set (w:=w1.drewN _) HV0.out 1 _⟩,(hK0.drewN _).setCell (by simp) _⟩
def Byts (w:World) (b:Nat) (l:List UInt8):Prop:=(∀ i,i<l.length→w.cell? ⟨b,i,none⟩=some (.int .u8 ((l.getD i 0).toNat:Int)))∧(∀ i,i<l.length→w.frozen? ⟨b,i,none⟩=false)
theorem Byts.of_bytesWorld (w:World) (e:TypeId) (s:ByteArray):Byts (Lib.bytesWorld w e s) w.heap.size s.data.toList:=by
 refine ⟨fun i hi=>?_,fun i hi=>?_⟩
 ·rw [size_len] at hi
  exact Lib.bytesWorld_cell w e s i hi
 ·rw [size_len] at hi
  have hsz:s.size≤(Lib.bytesCells w e s).size:=by
   have:(Lib.bytesCells w e s).size=s.data.size + (grownCap w s.size 0 e - s.size):=by
    unfold Lib.bytesCells
    rw [Array.size_append,Array.size_map,Array.size_replicate]
   rw [this]
   exact Nat.le_add_right _ _
  unfold World.frozen?
  rw [Lib.bytesWorld_at_new]
  simp
  omega
theorem below_bytesWorld {B:Nat} {a w:World} (h:Below B a w) (hB:B≤w.heap.size) (e:TypeId) (s:ByteArray):Below B a (Lib.bytesWorld w e s):=by
 refine h.trans ⟨rfl,rfl,rfl,?_,fun k hk=>Lib.bytesWorld_at_old w e s k (by omega)⟩
 rw [Lib.bytesWorld_size]; omega
theorem Byts.set {w:World} {b:Nat} {l:List UInt8} (h:Byts w b l) (k:Nat) (hk:k<l.length) (c:UInt8):Byts (w.setCell ⟨b,k,none⟩ (.int .u8 (c.toNat:Int))) b (l.set k c):=by
 refine ⟨fun i hi=>?_,fun i hi=>?_⟩
 ·rw [List.length_set] at hi
  by_cases e:i=k
  ·subst e
   rw [List.getD_eq_getElem?_getD,List.getElem?_set_self hk]
   have:=h.1 i hi
   exact World.cell?_setCell_same _ _ _ this
  ·rw [List.getD_eq_getElem?_getD,List.getElem?_set_ne (fun e2=>e e2.symm),← List.getD_eq_getElem?_getD,← h.1 i hi]
   exact World.cell?_setCell_other _ _ _ _ (fun e2=>e (by cases e2; rfl))
 ·rw [List.length_set] at hi
  rw [World.frozen?_setCell]
  exact h.2 i hi
theorem Byts.drew {w:World} {b:Nat} {l:List UInt8} (h:Byts w b l):Byts w.drew b l:=h
theorem Byts.below {B:Nat} {w w':World} {b:Nat} {l:List UInt8} (h:Byts w b l) (hb:Below B w w') (hB:b<B):Byts w' b l :=
 ⟨fun i hi=>(hb.cell (p:=⟨b,i,none⟩) hB).trans (h.1 i hi),fun i hi=>(hb.frozen (p:=⟨b,i,none⟩) hB).trans (h.2 i hi)⟩
theorem Byts.str {W:World} {b:Nat} {l:List UInt8} (cap:Nat) (h:Byts W b l) :
    Sem.run Try.prog (convert 75 9 (.slice (some ⟨b,0,none⟩) l.length cap)) W=.ok (.string ⟨l.toArray⟩) W:=by
 have:=run_convert_bytes_arg (P:=Try.prog) W 75 5 Try.underlying75 Try.underlying5 b 0 l.length cap (nums l) (nums_length l) (fun i hi=>by
  rw [Nat.zero_add,h.1 i hi,nums,List.getD_eq_getElem?_getD,List.getD_eq_getElem?_getD,List.getElem?_map,List.getElem?_eq_getElem hi]
  rfl) 9 Try.underlying9
 have e:strOfNums (nums l)=⟨l.toArray⟩:=bytes_eq (by rw [nums_str])
 rw [e] at this
 exact this
theorem xor_u8 (a b:Nat) (ha:a<256) (hb:b<256):bits .xor .u8 (a:Int) (b:Int)=((a ^^^ b:Nat):Int):=by
 have hx:a ^^^ b<2 ^ 8:=Nat.xor_lt_two_pow ha hb
 have ha':a % 2 ^ IntKind.u8.bits=a:=Nat.mod_eq_of_lt ha
 have hb':b % 2 ^ IntKind.u8.bits=b:=Nat.mod_eq_of_lt hb
 simp only [bits,BitVec.ofInt_natCast,BitVec.toNat_xor,BitVec.toNat_ofNat,ha',hb']
 rw [IntKind.wrap_u8]
 show ((a ^^^ b:Nat):Int) % 256=_
 omega
theorem lturn_byte (c:UInt8) (b:Int):∃ d:UInt8,bits .xor .u8 (c.toNat:Int) (b % 256)=(d.toNat:Int):=by
 obtain ⟨k,hk,hk2⟩:∃ k:Nat,b % 256=(k:Int)∧k<256:=⟨(b % 256).toNat,by omega,by omega⟩
 have hc:=c.toNat_lt
 have hx:c.toNat ^^^ k<2 ^ 8:=Nat.xor_lt_two_pow hc (by omega)
 exact ⟨UInt8.ofNat (c.toNat ^^^ k),by rw [hk,xor_u8 _ _ (by omega) hk2,ofNat_toNat _ hx]⟩
set_option maxRecDepth 100000 in
set_option maxHeartbeats 3200000 in
theorem owner_turn (w:World) (bw:Nat) (a b c:Int) (s reg:ByteArray) (vx vl vm:Value) (a0 : -9223372036854775808≤a) (a1:a≤9223372036854775807) (hz0:0<reg.size) (hz:reg.size≤4611686018427387904)
    (hV:BlkT w bw 59 [vx,.string reg,vl,vm]) :
    Calls Try.prog 37 #[.pointer (some ⟨bw,0,none⟩),opV 7 a b c s] w fun e w'=>e=.returned (.bool true)∧(∃ s':ByteArray,s'.size=reg.size∧BlkT w' bw 59 [vx,.string s',vl,vm])∧Keep [bw] w w':=by
 obtain ⟨r,hr,HPK⟩:=lpick_ex a (reg.size:Int) a0 a1 (by omega) (by omega)
 have HPK:=hid HPK
 have hlt:=hV.lt
 have hV0:=hV.alloc (.cells #[.int .i64 7,.int .i64 a,.int .i64 b,.int .i64 c,.string s] 62)
 have hO0:BlkT (w.alloc (.cells #[.int .i64 7,.int .i64 a,.int .i64 b,.int .i64 c,.string s] 62)) w.heap.size 62 [.int .i64 7,.int .i64 a,.int .i64 b,.int .i64 c,.string s]:=BlkT.new w _ _
 have hB0:Below w.heap.size w (w.alloc (.cells #[.int .i64 7,.int .i64 a,.int .i64 b,.int .i64 c,.string s] 62)):=(Below.refl _ w).alloc (Nat.le_refl _) _
 have kc:=fun (W:World) (s:ByteArray)=>Lib.run_convert_string_bytes (P:=Try.prog) W 9 75 5 s Try.underlying9 Try.underlying75 Try.underlying5
 unfold opV
 go_enter Try.func37,Try.ntmps37
 go_upto_region 1 with fail
 generalize w.alloc (.cells #[.int .i64 7,.int .i64 a,.int .i64 b,.int .i64 c,.string s] 62)=w1 at *
 have hwne:w.heap.size ≠ bw:=by omega
 have o0:=hO0.cell 0
 have c1:=hV0.cell 1
 simp only [List.getElem?_cons_zero,List.getElem?_cons_succ] at o0 c1
 have q0:decide ((reg.size:Int) > 0)=true:=decide_eq_true (by omega)
 have q1:decide ((0:Int)<(reg.size:Int))=true:=decide_eq_true (by omega)
 go_upto_region 8 with fail
 have hb:=Byts.of_bytesWorld w1 5 reg
 have hB2:=below_bytesWorld hB0 hB0.size 5 reg
 have hV2:BlkT (Lib.bytesWorld w1 5 reg) bw 59 [vx,.string reg,vl,vm]:=(Lib.bytesWorld_at_old w1 5 reg bw hV0.lt).trans hV0
 have hO2:BlkT (Lib.bytesWorld w1 5 reg) w.heap.size 62 [.int .i64 7,.int .i64 a,.int .i64 b,.int .i64 c,.string s]:=(Lib.bytesWorld_at_old w1 5 reg w.heap.size hO0.lt).trans hO0
 have hbn:bw ≠ w1.heap.size:=by have:=hV0.lt; omega
 have hbo:w.heap.size ≠ w1.heap.size:=by have:=hO0.lt; omega
 have hbs:=hB0.size
 generalize Lib.bytesWorld w1 5 reg=w2 at hb hB2 hV2 hO2 ⊢
 generalize hgc:grownCap w1 reg.size 0 5=cap
 clear hgc kc hV0 hO0 hB0 hV o0 c1
 have o1:=hO2.cell 1; have o2:=hO2.cell 2
 simp only [List.getElem?_cons_zero,List.getElem?_cons_succ] at o1 o2
 have HZ:Hid (reg.data.toList.length=reg.size):=size_len reg
 have hkl:r<reg.size:=by omega
 have v1:=hb.1 r (by rw [HZ.out]; exact hkl)
 have f1:=hb.2 r (by rw [HZ.out]; exact hkl)
 go_upto_region 9 with (go_at_call 40; refine (HPK.out _).mono ?_; rintro e w3 ⟨rfl,rfl⟩)
 go_region
 all_goals
  have HC:Hid (reg.data[r]=reg.data.toList.getD r 0):=byte_at reg r hkl
  obtain ⟨d,HDe⟩:=lturn_byte (reg.data.toList.getD r 0) b
  rw [HC.out,HDe]
  clear HDe
  have hb3:=Byts.drew (hb.set r (by rw [HZ.out]; exact hkl) d)
  have hB3:=(hB2.setCell (p:=⟨w1.heap.size,r,none⟩) hbs (.int .u8 (d.toNat:Int))).drew
  have hV3:BlkT ((w3.setCell ⟨w1.heap.size,r,none⟩ (.int .u8 (d.toNat:Int))).drew) bw 59 [vx,.string reg,vl,vm]:=hV2.other (fun e=>hbn e.symm) _
  clear v1 f1 hB2 hV2 hO2 hb o1 o2
  generalize (w3.setCell ⟨w1.heap.size,r,none⟩ (.int .u8 (d.toNat:Int))).drew=w4 at hb3 hB3 hV3 ⊢
  obtain ⟨l,HLs⟩:∃ l,l=reg.data.toList.set r d:=⟨_,rfl⟩
  rw [← HLs] at hb3
  have hll:l.length=reg.size:=by rw [HLs,List.length_set,HZ.out]
  clear HLs HC
  obtain ⟨sL,HSL⟩:∃ sL:ByteArray,sL=⟨l.toArray⟩:=⟨_,rfl⟩
  have HSD:Hid (sL.data.toList=l):=by show _=_; rw [HSL]
  have hst:Sem.run Try.prog (convert 75 9 (.slice (some ⟨w1.heap.size,0,none⟩) reg.size cap)) w4=.ok (.string sL) w4:=by
   have:=Byts.str cap hb3
   rw [hll,← HSL] at this
   exact this
  have hsz:sL.size=reg.size:=by rw [← size_len,HSD.out,hll]
  have c1:=hV3.cell 1
  have f1:=hV3.frozen 1
  simp only [List.getElem?_cons_zero,List.getElem?_cons_succ] at c1
  have HF:Hid ((∃ s':ByteArray,s'.size=reg.size∧BlkT (w4.setCell ⟨bw,1,none⟩ (.string sL)) bw 59 [vx,.string s',vl,vm])∧Keep [bw] w (w4.setCell ⟨bw,1,none⟩ (.string sL))):=⟨⟨sL,hsz,hV3.set 1 _⟩,(Keep.of_below hB3 (Nat.le_refl _)).setCell (by simp) _⟩
  clear hV3 hb3 hB3 hll HSL hsz
  go_wp2
  go_ret
  exact ⟨rfl,HF.out⟩
set_option maxRecDepth 100000 in
set_option maxHeartbeats 1600000 in
theorem owner_turn0 (w:World) (bw:Nat) (a b c:Int) (s reg:ByteArray) (hz:reg.size=0) (vx vl vm:Value) (hV:BlkT w bw 59 [vx,.string reg,vl,vm]) :
    Calls Try.prog 37 #[.pointer (some ⟨bw,0,none⟩),opV 7 a b c s] w fun e w'=>e=.returned (.bool true)∧Below w.heap.size w w':=by
 have hV0:=hV.alloc (.cells #[.int .i64 7,.int .i64 a,.int .i64 b,.int .i64 c,.string s] 62)
 have hO0:BlkT (w.alloc (.cells #[.int .i64 7,.int .i64 a,.int .i64 b,.int .i64 c,.string s] 62)) w.heap.size 62 [.int .i64 7,.int .i64 a,.int .i64 b,.int .i64 c,.string s]:=BlkT.new w _ _
 have hB0:Below w.heap.size w (w.alloc (.cells #[.int .i64 7,.int .i64 a,.int .i64 b,.int .i64 c,.string s] 62)):=(Below.refl _ w).alloc (Nat.le_refl _) _
 have q0:decide ((reg.size:Int) > 0)=false:=decide_eq_false (by omega)
 have q1:decide ((0:Int)<(reg.size:Int))=false:=decide_eq_false (by omega)
 unfold opV
 go_enter Try.func37,Try.ntmps37
 go_upto_region 1 with fail
 generalize w.alloc (.cells #[.int .i64 7,.int .i64 a,.int .i64 b,.int .i64 c,.string s] 62)=w1 at *
 have o0:=hO0.cell 0
 have c1:=hV0.cell 1
 simp only [List.getElem?_cons_zero,List.getElem?_cons_succ] at o0 c1
 have q2:decide (0<reg.size)=false:=decide_eq_false (by omega)
 clear hV0 hO0 hV
 go_wp2
 go_ret
 exact ⟨rfl,hB0⟩
def PlaceIs (l:List UInt8) (c:UInt8) (r:Int):Prop:=(l.contains c=false∧r = -1)∨(∃ k:Nat,r=(k:Int)∧k<l.length∧l.getD k 0=c∧∀ j,j<k→l.getD j 0 ≠ c)
theorem not_contains_of (l:List UInt8) (c:UInt8) (h:∀ j,j<l.length→l.getD j 0 ≠ c):l.contains c=false:=by
 rw [← Bool.not_eq_true,List.contains_iff_mem]
 intro hm
 obtain ⟨j,hj,e⟩:=List.getElem_of_mem hm
 exact h j hj (by rw [List.getD_eq_getElem?_getD,List.getElem?_eq_getElem hj]; exact e)
set_option maxHeartbeats 400000 in
theorem place_any (c:UInt8) (s:ByteArray) (w:World) (h0:s.size≤1000) :
    Calls Try.prog 108 #[.int .u8 (c.toNat:Int),.string s] w fun e w'=>(∃ r:Int,e=.returned (.int .i64 r)∧Hid (PlaceIs s.data.toList c r))∧w'=w:=by
 have HL:Hid (s.data.toList.length=s.size):=size_len s
 go_enter Try.func108,Try.ntmps108
 go_wp2
 go_loop [5] (fun i=>∃ k:Nat,k≤s.size∧i=.int .i64 k∧Hid (∀ j,j<k→s.data.toList.getD j 0 ≠ c)) (fun i=>s.size - (intOf i).toNat)
 case atStart=>exact ⟨0,by omega,rfl,fun j hj=>by omega⟩
 case round =>
  obtain ⟨k,hk,rfl,HK⟩:=hrel
  by_cases hlt:k<s.size
  ·have HB:Hid (s[k]=s.data.toList.getD k 0):=byte_at s k hlt
   by_cases hc:s[k]=c
   ·have hq:((s[k].toNat:Int) == (c.toNat:Int))=true:=by rw [hc]; simp
    have HR:Hid (PlaceIs s.data.toList c (k:Int)):=.inr ⟨k,rfl,by rw [HL.out]; exact hlt,by rw [← HB.out]; exact hc,HK.out⟩
    clear hc
    go_wp2
    go_ret
    exact ⟨⟨_,rfl,HR⟩,rfl⟩
   ·have hq:((s[k].toNat:Int) == (c.toNat:Int))=false:=by
       rw [beq_eq_false_iff_ne]
       intro e
       exact hc (UInt8.toNat_inj.1 (by omega))
    have HK2:Hid (∀ j,j<k + 1→s.data.toList.getD j 0 ≠ c):=by
     intro j hj
     rcases Nat.lt_or_ge j k with h | h
     ·exact HK.out j h
     ·have:j=k:=by omega
      subst this
      rw [← HB.out]; exact hc
    clear hc
    go_wp2
    go_round
    case rel=>exact ⟨k + 1,by omega,by go_num,HK2⟩
    case measure=>simp [intOf]; omega
  ·have HR:Hid (PlaceIs s.data.toList c (-1)):=.inl ⟨not_contains_of _ _ (fun j hj=>HK.out j (by rw [HL.out] at hj; omega)),rfl⟩
   go_wp2
   go_ret
   exact ⟨⟨_,rfl,HR⟩,rfl⟩
theorem PlaceIs.neg {l:List UInt8} {c:UInt8} {r:Int} (h:PlaceIs l c r):decide (r<0)=!l.contains c:=by
 rcases h with ⟨h1,rfl⟩ | ⟨k,rfl,hk,he,_⟩
 ·rw [h1]; rfl
 ·have:l.contains c=true:=by
     rw [List.contains_iff_mem,← he,List.getD_eq_getElem?_getD,List.getElem?_eq_getElem hk]
     exact List.getElem_mem hk
  rw [this]
  simp
theorem ret_bool {a b:Bool} (h:a=b):Ending.returned (.bool a)=.returned (.bool b):=by rw [h]
theorem ne_lit {a:UInt8} (n:Nat) (hn:n<256) (h:a ≠ UInt8.ofNat n):((a.toNat:Int) == (n:Int))=false:=by
 rw [beq_eq_false_iff_ne]
 intro e
 apply h
 have:a.toNat=n:=by omega
 rw [← this]; simp
set_option maxRecDepth 10000 in
set_option maxHeartbeats 800000 in
theorem class_any (y c:UInt8) (w:World) :
    Calls Try.prog 109 #[.int .u8 (y.toNat:Int),.int .u8 (c.toNat:Int)] w fun e w'=>e=.returned (.bool (G.cls y c))∧w'=w:=by
 by_cases h1:y=100
 ·subst h1
  have HE:Hid (G.cls 100 c=(decide ((48:Int)≤(c.toNat:Int)) && decide ((c.toNat:Int)≤57))):=by
   show _=_
   unfold G.cls
   simp only [beq_self_eq_true,if_true]
   rw [Bool.eq_iff_iff]
   simp [UInt8.le_iff_toNat_le]
   omega
  rw [HE.out]
  by_cases ha:(48:Int)≤(c.toNat:Int)
  ·by_cases hb:(c.toNat:Int)≤57
   ·go_enter Try.func109,Try.ntmps109
    go_wp2
    go_ret
    exact ⟨ret_bool (by first | (simp; done) | (simp; omega)),rfl⟩
   ·go_enter Try.func109,Try.ntmps109
    go_wp2
    go_ret
    exact ⟨ret_bool (by first | (simp; done) | (simp; omega)),rfl⟩
  ·go_enter Try.func109,Try.ntmps109
   go_wp2
   go_ret
   exact ⟨ret_bool (by first | (simp; done) | (simp; omega)),rfl⟩
 have q1:=ne_lit 100 (by decide) h1
 by_cases h2:y=108
 ·subst h2
  clear q1 h1
  have HE:Hid (G.cls 108 c=!G.special.contains c):=rfl
  rw [HE.out]
  go_enter Try.func109,Try.ntmps109
  go_wp2_with fail
  refine (place_any c _ _ (by decide)).mono ?_
  rintro e w1 ⟨⟨r,rfl,hr⟩,rfl⟩
  go_wp2
  go_ret
  exact ⟨ret_bool hr.out.neg,rfl⟩
 have q2:=ne_lit 108 (by decide) h2
 by_cases h3:y=109
 ·subst h3
  clear q1 h1 q2 h2
  have HE:Hid (G.cls 109 c=!([93,92,45]:List UInt8).contains c):=rfl
  rw [HE.out]
  go_enter Try.func109,Try.ntmps109
  go_wp2_with fail
  refine (place_any c _ _ (by decide)).mono ?_
  rintro e w1 ⟨⟨r,rfl,hr⟩,rfl⟩
  go_wp2
  go_ret
  exact ⟨ret_bool hr.out.neg,rfl⟩
 have q3:=ne_lit 109 (by decide) h3
 by_cases h4:y=120
 ·subst h4
  clear q1 h1 q2 h2 q3 h3
  have HE:Hid (G.cls 120 c=true):=rfl
  rw [HE.out]
  go_enter Try.func109,Try.ntmps109
  go_wp2
  go_ret
  exact ⟨rfl,rfl⟩
 have q4:=ne_lit 120 (by decide) h4
 have HE:Hid (G.cls y c=((c.toNat:Int) == (y.toNat:Int))):=by
  show _=_
  unfold G.cls
  rw [beq_eq_false_iff_ne.2 h1,beq_eq_false_iff_ne.2 h2,beq_eq_false_iff_ne.2 h3,beq_eq_false_iff_ne.2 h4]
  simp only [Bool.false_eq_true,if_false]
  rw [Bool.eq_iff_iff]
  simp only [beq_iff_eq]
  exact ⟨fun e=>by rw [e],fun e=>UInt8.toNat_inj.1 (by omega)⟩
 rw [HE.out]
 clear h1 h2 h3 h4
 go_enter Try.func109,Try.ntmps109
 go_wp2
 go_ret
 exact ⟨rfl,rfl⟩
def strs (l:List (List UInt8)):List Value:=l.map fun x=>.string ⟨x.toArray⟩
set_option maxRecDepth 10000 in
set_option maxHeartbeats 800000 in
theorem alternatives_any (y:UInt8) (w:World) (hy:G.isNt y=true) :
    Calls Try.prog 110 #[.int .u8 (y.toNat:Int)] w fun e w'=>e=.returned (.slice (some ⟨w.heap.size,0,none⟩) (G.alts y).length (G.alts y).length)∧Blk w' w.heap.size (strs (G.alts y))∧Below w.heap.size w w':=by
 rcases G.nt_cases hy with h | h | h | h | h | h | h | h | h <;> subst h <;>
 ·clear hy
  go_enter Try.func110,Try.ntmps110
  go_wp2
  go_ret
  exact ⟨rfl,Blk.new _ _ _,(Below.refl _ _).alloc (Nat.le_refl _) _⟩
def KidsAt (P:G.Tr→Value→Prop) (w:World) (ks:List G.Tr) (v:Value):Prop :=
 (ks=[]∧v=.slice none 0 0) ∨
 ∃ g cap ptrs,v=.slice (some ⟨g,0,none⟩) ks.length cap∧RowAt w g cap 138 1 ks.length ptrs∧∀ (i:Nat) (τ:G.Tr) (p:Value),ks[i]?=some τ→ptrs[i]?=some p→P τ p
def TreeAt (w:World):Nat→G.Tr→Value→Prop
 | 0,_,_=>False
 | f + 1,τ,v=>∃ b kv,v=.pointer (some ⟨b,0,none⟩)∧BlkT w b 162 [.int .u8 (τ.sym.toNat:Int),.int .i64 (τ.alt:Int),kv,.int .u8 (τ.c.toNat:Int)]∧KidsAt (TreeAt w f) w τ.kids kv
theorem KidsAt.mono {P Q:G.Tr→Value→Prop} {w w':World} {ks:List G.Tr} {v:Value} (h:KidsAt P w ks v) (hpq:∀ τ p,P τ p→Q τ p)
    (hr:∀ g cap ptrs,RowAt w g cap 138 1 ks.length ptrs→RowAt w' g cap 138 1 ks.length ptrs):KidsAt Q w' ks v:=by
 rcases h with h | ⟨g,cap,ptrs,h1,h2,h3⟩
 ·exact .inl h
 ·exact .inr ⟨g,cap,ptrs,h1,hr _ _ _ h2,fun i τ p hi hp=>hpq _ _ (h3 i τ p hi hp)⟩
theorem TreeAt.more (w:World):∀ (f:Nat) (τ:G.Tr) (v:Value),TreeAt w f τ v→TreeAt w (f + 1) τ v
 | 0,_,_,h=>h.elim
 | f + 1,τ,v,⟨b,kv,h1,h2,h3⟩=>⟨b,kv,h1,h2,h3.mono (fun τ p hp=>TreeAt.more w f τ p hp) (fun _ _ _ h=>h)⟩
theorem TreeAt.le (w:World) (f:Nat) (τ:G.Tr) (v:Value) (h:TreeAt w f τ v):∀ d,TreeAt w (f + d) τ v
 | 0=>h
 | d + 1=>TreeAt.more w (f + d) τ v (TreeAt.le w f τ v h d)
def KeepTrees (w w':World):Prop:=∀ (k:Nat) (c:Array Value) (T:TypeId),(T=162∨T=138)→w.heap[k]?=some (.cells c T (0,0))→w'.heap[k]?=some (.cells c T (0,0))
theorem RowAt.keepT {w w':World} (hk:KeepTrees w w') {g cap n:Nat} {xs:List Value} (h:RowAt w g cap 138 1 n xs):RowAt w' g cap 138 1 n xs:=by
 obtain ⟨cur,h1,h2⟩:=h
 exact ⟨cur,hk _ _ _ (.inr rfl) h1,h2⟩
theorem TreeAt.keep {w w':World} (hk:KeepTrees w w'):∀ (f:Nat) (τ:G.Tr) (v:Value),TreeAt w f τ v→TreeAt w' f τ v
 | 0,_,_,h=>h.elim
 | f + 1,τ,v,⟨b,kv,h1,h2,h3⟩=>⟨b,kv,h1,hk _ _ _ (.inl rfl) h2,h3.mono (fun τ p hp=>TreeAt.keep hk f τ p hp) (fun _ _ _ h=>RowAt.keepT hk h)⟩
def TreeOpt (w:World) (v:Value):Option G.Tr→Prop
 | none=>v=.pointer none
 | some τ=>∃ f,TreeAt w f τ v
theorem TreeOpt.keep {w w':World} (hk:KeepTrees w w') {v:Value} {o:Option G.Tr} (h:TreeOpt w v o):TreeOpt w' v o:=by
 cases o with
 | none=>exact h
 | some τ=>obtain ⟨f,hf⟩:=h; exact ⟨f,TreeAt.keep hk f τ v hf⟩
def KidsOpt (w:World) (v:Value) (b:Bool):Option (List G.Tr)→Prop
 | none=>v=.slice none 0 0∧b=false
 | some ks=>(∃ f,KidsAt (TreeAt w f) w ks v)∧b=true
theorem KidsAt.keep {w w':World} (hk:KeepTrees w w') {f:Nat} {ks:List G.Tr} {v:Value} (h:KidsAt (TreeAt w f) w ks v):KidsAt (TreeAt w' f) w' ks v :=
 h.mono (fun τ p hp=>TreeAt.keep hk f τ p hp) (fun _ _ _ h=>RowAt.keepT hk h)
theorem Keep.trees {S:List Nat} {w w':World} (h:Keep S w w') (hS:∀ k,k ∈ S→∀ c T,w.heap[k]?=some (.cells c T (0,0))→T ≠ 162∧T ≠ 138):KeepTrees w w':=by
 intro k c T hT hc
 have hlt:k<w.heap.size:=(Array.getElem?_eq_some_iff.1 hc).1
 rw [h.block k hlt (fun hm=>by have:=hS k hm c T hc; rcases hT with e | e; exact this.1 e; exact this.2 e)]
 exact hc
def ent (n p i j:Nat):Nat:=(p * n + i) * n + j
structure Rdr (w:World) (br bt n:Nat) (s:ByteArray) (en:Int) (vo:Value):Prop where
 hn:n=s.size + 1
 hs:s.size≤40
 blk:BlkT w br 158 [.string s,.int .i64 (n:Int),.slice (some ⟨bt,0,none⟩) (9 * n * n) (9 * n * n),.int .i64 en,vo]
 tab:∃ cs:List Value,BlkT w bt 180 cs∧cs.length=2 * (9 * n * n) ∧
  ∀ p i j,p<9→i≤s.size→j≤s.size →
   (cs[ent n p i j * 2]?=some (.bool false)∧cs[ent n p i j * 2 + 1]?=some (.pointer none)) ∨
   (cs[ent n p i j * 2]?=some (.bool true)∧∃ v,cs[ent n p i j * 2 + 1]?=some v∧TreeOpt w v (G.D s.data.toList (G.symbols.getD p 0) i j))
theorem ent_lt {n p i j:Nat} (hp:p<9) (hi:i<n) (hj:j<n):ent n p i j<9 * n * n:=by
 unfold ent
 have h1:p * n + i<9 * n:=by
  have:p * n + n≤9 * n:=by rw [← Nat.succ_mul]; exact Nat.mul_le_mul_right n hp
  omega
 have h2:(p * n + i) * n + n≤9 * n * n:=by rw [← Nat.succ_mul]; exact Nat.mul_le_mul_right n h1
 omega
theorem ent_inj {n p i j p' i' j':Nat} (hi:i<n) (hj:j<n) (hi':i'<n) (hj':j'<n) (h:ent n p i j=ent n p' i' j'):p=p'∧i=i'∧j=j':=by
 unfold ent at h
 have hn:0<n:=by omega
 have e1:j=j':=by
  have a:=congrArg (· % n) h
  simp only [Nat.mul_add_mod_self_right,Nat.mod_eq_of_lt hj,Nat.mod_eq_of_lt hj'] at a
  exact a
 subst e1
 have e2:p * n + i=p' * n + i':=Nat.eq_of_mul_eq_mul_right hn (by omega)
 have e3:i=i':=by
  have a:=congrArg (· % n) e2
  simp only [Nat.mul_add_mod_self_right,Nat.mod_eq_of_lt hi,Nat.mod_eq_of_lt hi'] at a
  exact a
 subst e3
 exact ⟨Nat.eq_of_mul_eq_mul_right hn (by omega),rfl,rfl⟩
theorem Rdr.keep {S:List Nat} {w w':World} {br bt n:Nat} {s:ByteArray} {en:Int} {vo:Value} (h:Rdr w br bt n s en vo) (k:Keep S w w') (h1:br ∉ S) (h2:bt ∉ S) (hk:KeepTrees w w'):Rdr w' br bt n s en vo:=by
 obtain ⟨cs,t1,t2,t3⟩:=h.tab
 refine ⟨h.hn,h.hs,h.blk.keep k h1,cs,t1.keep k h2,t2,fun p i j hp hi hj=>?_⟩
 rcases t3 p i j hp hi hj with h | ⟨g1,v,g2,g3⟩
 ·exact .inl h
 ·exact .inr ⟨g1,v,g2,g3.keep hk⟩
theorem keepTrees_below {B:Nat} {w w':World} (h:Below B w w') (hB:w.heap.size≤B):KeepTrees w w':=by
 intro k c T _ hc
 have hlt:k<w.heap.size:=(Array.getElem?_eq_some_iff.1 hc).1
 rw [h.block k (by omega)]
 exact hc
theorem Rdr.below {B:Nat} {w w':World} {br bt n:Nat} {s:ByteArray} {en:Int} {vo:Value} (h:Rdr w br bt n s en vo) (k:Below B w w') (hB:w.heap.size≤B):Rdr w' br bt n s en vo :=
 h.keep (S:=[]) (Keep.of_below k hB) (by simp) (by simp) (keepTrees_below k hB)
theorem Rdr.alloc {w:World} {br bt n:Nat} {s:ByteArray} {en:Int} {vo:Value} (h:Rdr w br bt n s en vo) (o:Obj):Rdr (w.alloc o) br bt n s en vo :=
 h.below ((Below.refl w.heap.size w).alloc (Nat.le_refl _) o) (Nat.le_refl _)
theorem Rdr.drewN {w:World} {br bt n:Nat} {s:ByteArray} {en:Int} {vo:Value} (h:Rdr w br bt n s en vo) (q:Nat):Rdr (w.drewN q) br bt n s en vo :=
 h.below (below_drewN (Below.refl w.heap.size w) q) (Nat.le_refl _)
theorem Rdr.ne {w:World} {br bt n:Nat} {s:ByteArray} {en:Int} {vo:Value} (h:Rdr w br bt n s en vo):br ≠ bt:=by
 obtain ⟨cs,t1,_⟩:=h.tab
 exact h.blk.ne t1 (by decide)
theorem Rdr.tabType {w:World} {br bt n:Nat} {s:ByteArray} {en:Int} {vo:Value} (h:Rdr w br bt n s en vo):∀ k,k ∈ [bt]→∀ c T,w.heap[k]?=some (.cells c T (0,0))→T ≠ 162∧T ≠ 138:=by
 intro k hk c T hc
 rw [List.mem_singleton] at hk
 subst hk
 obtain ⟨cs,t1,_⟩:=h.tab
 unfold BlkT at t1
 rw [t1] at hc
 cases hc
 exact ⟨by decide,by decide⟩
theorem Keep.treesR {w w':World} {br bt n:Nat} {s:ByteArray} {en:Int} {vo:Value} (h:Rdr w br bt n s en vo) (k:Keep [bt] w w'):KeepTrees w w':=k.trees h.tabType
theorem find_some {β:Type} (f:Nat→Option β) (r:β):∀ (n i k:Nat),(∀ k',i≤k'→k'<k→f k'=none)→i≤k→k<i + n→f k=some r→(List.range' i n).findSome? f=some r
 | 0,i,k,_,h1,h2,_=>by omega
 | n + 1,i,k,hn,h1,h2,hk=>by
  rw [List.range'_succ,List.findSome?_cons]
  rcases Nat.eq_or_lt_of_le h1 with e | e
  ·subst e; rw [hk]
  ·rw [hn i (Nat.le_refl _) e]
   exact find_some f r n (i + 1) k (fun k' a b=>hn k' (by omega) b) e (by omega) hk
theorem find_none {β:Type} (f:Nat→Option β):∀ (n i:Nat),(∀ k',i≤k'→k'<i + n→f k'=none)→(List.range' i n).findSome? f=none
 | 0,_,_=>rfl
 | n + 1,i,h=>by
  rw [List.range'_succ,List.findSome?_cons,h i (Nat.le_refl _) (by omega)]
  exact find_none f n (i + 1) (fun k' a b=>h k' (by omega) (by omega))
def way (s:List UInt8) (x:UInt8) (l:List UInt8) (i j k:Nat):Option (List G.Tr):=if l=[]∧k<j then none else (G.D s x i k).bind fun t=>(G.parts (G.D s) l k j).map fun r=>t :: r
theorem parts_some (s:List UInt8) (x:UInt8) (l:List UInt8) (i j k:Nat) (r:List G.Tr) (h:∀ k',i≤k'→k'<k→way s x l i j k'=none) (h1:i≤k) (h2:k≤j) (hk:way s x l i j k=some r):G.parts (G.D s) (x :: l) i j=some r:=by
 show (List.range' i (j + 1 - i)).findSome? (way s x l i j)=some r
 exact find_some _ _ _ _ k h h1 (by omega) hk
theorem parts_none (s:List UInt8) (x:UInt8) (l:List UInt8) (i j:Nat) (hij:i≤j) (h:∀ k',i≤k'→k'<j + 1→way s x l i j k'=none):G.parts (G.D s) (x :: l) i j=none:=by
 show (List.range' i (j + 1 - i)).findSome? (way s x l i j)=none
 exact find_none _ _ _ (fun k' a b=>h k' a (by omega))
def OfPost (br bt n:Nat) (s:ByteArray) (en:Int) (vo:Value) (y:UInt8) (i j:Nat) (w:World) (e:Ending) (w':World):Prop :=
 ∃ v,e=.returned v∧TreeOpt w' v (G.D s.data.toList y i j)∧Rdr w' br bt n s en vo∧Keep [bt] w w'
def OfC (br bt n:Nat) (s:ByteArray) (en:Int) (vo:Value) (m:Nat):Prop :=
 ∀ (y:UInt8) (i j:Nat) (w:World),i≤j→j≤s.size→(G.mu y i j<m∨G.isNt y=false)→Rdr w br bt n s en vo →
  Calls Try.prog 96 #[.pointer (some ⟨br,0,none⟩),.int .u8 (y.toNat:Int),.int .i64 (i:Int),.int .i64 (j:Int)] w (OfPost br bt n s en vo y i j w)
def PartsPost (br bt n:Nat) (s:ByteArray) (en:Int) (vo:Value) (l:List UInt8) (i j:Nat) (w:World) (e:Ending) (w':World):Prop :=
 ∃ v b,e=.returned (.tuple #[v,.bool b])∧KidsOpt w' v b (G.parts (G.D s.data.toList) l i j)∧Rdr w' br bt n s en vo∧Keep [bt] w w'
theorem info_tree:∃ i:TypeInfo,Try.prog.info? 138=some i∧i.zero=some (.pointer none)∧i.size=1∧i.bytes=8:=info_of (by kernel_rfl)
theorem treeOpt_ptr {w:World} {v:Value} {o:Option G.Tr} (h:TreeOpt w v o):(o=none∧v=.pointer none)∨∃ τ b f,o=some τ∧v=.pointer (some ⟨b,0,none⟩)∧TreeAt w f τ v:=by
 cases o with
 | none=>exact .inl ⟨rfl,h⟩
 | some τ =>
  obtain ⟨f,hf⟩:=h
  cases f with
  | zero=>exact hf.elim
  | succ f =>
   obtain ⟨b,kv,h1,h2,h3⟩:=hf
   exact .inr ⟨τ,b,f + 1,rfl,h1,⟨b,kv,h1,h2,h3⟩⟩
theorem parts_length (rec:UInt8→Nat→Nat→Option G.Tr):∀ (l:List UInt8) (i j:Nat) (rs:List G.Tr),G.parts rec l i j=some rs→rs.length=l.length
 | [],i,j,rs,h=>by
  unfold G.parts at h
  split at h
  ·cases h; rfl
  ·cases h
 | x :: l,i,j,rs,h=>by
  unfold G.parts at h
  obtain ⟨k,hk,e⟩:=List.exists_of_findSome?_eq_some h
  split at e
  ·cases e
  ·cases ht:rec x i k with
   | none=>rw [ht] at e; cases e
   | some t =>
    rw [ht] at e
    simp only [Option.bind_some] at e
    cases hp:G.parts rec l k j with
    | none=>rw [hp] at e; cases e
    | some r =>
     rw [hp] at e
     simp only [Option.map_some,Option.some.injEq] at e
     rw [← e,List.length_cons,List.length_cons,parts_length rec l k j r hp]
theorem kids_cons {w w':World} (hk:KeepTrees w w') {f f2 g cap:Nat} {τ:G.Tr} {p:Value} {ks:List G.Tr} {ptrs:List Value} (h1:TreeAt w f τ p)
    (h2:∀ (i:Nat) (τ:G.Tr) (p:Value),ks[i]?=some τ→ptrs[i]?=some p→TreeAt w f2 τ p) (hr:RowAt w' g cap 138 1 (1 + ks.length) ([p] ++ ptrs)) :
    ∃ F,KidsAt (TreeAt w' F) w' (τ :: ks) (.slice (some ⟨g,0,none⟩) (1 + ks.length) cap):=by
 refine ⟨f + f2,.inr ⟨g,cap,[p] ++ ptrs,?_,?_,?_⟩⟩
 ·rw [List.length_cons,Nat.add_comm]
 ·rw [List.length_cons,Nat.add_comm]; exact hr
 ·intro i τ' p' hi hp
  match i,hi,hp with
  | 0,hi,hp =>
   simp at hi hp
   subst hi; subst hp
   exact TreeAt.keep hk _ _ _ (TreeAt.le w f τ p h1 f2)
  | i + 1,hi,hp =>
   simp at hi hp
   have:=TreeAt.le w f2 τ' p' (h2 i τ' p' hi hp) f
   rw [Nat.add_comm] at this
   exact TreeAt.keep hk _ _ _ this
set_option maxRecDepth 100000 in
set_option maxHeartbeats 1600000 in
theorem parts_any (br bt n:Nat) (s:ByteArray) (en:Int) (vo:Value) (r i0 j:Nat) (hr:r<8) (hj:j≤s.size) (HOf:OfC br bt n s en vo (8 * (j - i0) + r)) :
    ∀ (l:List UInt8) (lb:ByteArray) (hl:lb.data.toList=l) (pr:Bool) (i:Nat) (w:World),G.okAlt r pr l=true→i0≤i→(pr=true→i0<i)→i≤j→l.length≤10→Rdr w br bt n s en vo →
     Calls Try.prog 111 #[.pointer (some ⟨br,0,none⟩),.string lb,.int .i64 (i:Int),.int .i64 (j:Int)] w (PartsPost br bt n s en vo l i j w)
 | [],lb,hl,pr,i,w,hok,h0,hpr,hij,hlen,hR=>by
  obtain rfl:lb=⟨#[]⟩:=bytes_eq hl
  have hs:=hR.hs
  by_cases he:i=j
  ·subst he
   have HP:Hid (G.parts (G.D s.data.toList) [] i i=some []):=by show (if i=i then _ else _)=_; rw [if_pos rfl]
   clear HOf
   go_enter Try.func111,Try.ntmps111
   go_wp2
   go_ret2
   refine ⟨_,_,rfl,?_,hR,Keep.refl _ _⟩
   rw [HP.out]
   exact ⟨⟨0,.inl ⟨rfl,rfl⟩⟩,by simp⟩
  ·have HP:Hid (G.parts (G.D s.data.toList) [] i j=none):=by show (if i=j then _ else _)=_; rw [if_neg he]
   have hq:((i:Int) == (j:Int))=false:=by simp; omega
   clear HOf
   go_enter Try.func111,Try.ntmps111
   go_wp2
   go_ret2
   refine ⟨_,_,rfl,?_,hR,Keep.refl _ _⟩
   rw [HP.out]
   exact ⟨rfl,rfl⟩
 | x :: l,lb,hl,pr,i,w,hok,h0,hpr,hij,hlen,hR=>by
  have hs:=hR.hs
  have HLB:Hid (lb.data.toList=x :: l):=hl
  have hz0:0<lb.size:=by rw [← size_len,hl]; simp
  have HX:Hid (lb[0]=x):=by show _=_; rw [byte_at lb 0 hz0,hl]; rfl
  have HSZ:Hid (lb.size=l.length + 1):=by show _=_; rw [← size_len,hl]; rfl
  have hq0:(lb.toList == [])=false:=by rw [Lib.toList_data,hl]; rfl
  have hz1:lb.size≤10:=by rw [← size_len,hl]; exact hlen
  have IH:Hid (∀ (lb:ByteArray),lb.data.toList=l→∀ (pr:Bool) (i:Nat) (w:World),G.okAlt r pr l=true→i0≤i→(pr=true→i0<i)→i≤j→l.length≤10→Rdr w br bt n s en vo →
   Calls Try.prog 111 #[.pointer (some ⟨br,0,none⟩),.string lb,.int .i64 (i:Int),.int .i64 (j:Int)] w (PartsPost br bt n s en vo l i j w)):=fun lb hl=>parts_any br bt n s en vo r i0 j hr hj HOf l lb hl
  have HOF:Hid (OfC br bt n s en vo (8 * (j - i0) + r)):=HOf
  have HASK:Hid (∀ k,i≤k→k≤j→(G.mu x i k<8 * (j - i0) + r∨G.isNt x=false)):=by
   intro k h1 h2
   cases pr with
   | true=>left; have:=hpr rfl; have h3:=G.rank_lt x; unfold G.mu; omega
   | false =>
    simp only [G.okAlt,Bool.and_eq_true,Bool.or_eq_true,decide_eq_true_eq,Bool.not_eq_true'] at hok
    rcases hok.1 with h | h
    ·left; unfold G.mu; omega
    ·right; exact h
  have HOK2:Hid (G.okAlt r (pr || G.solid x) l=true):=by
   show _=_
   cases pr with
   | true=>simpa [G.okAlt] using hok
   | false=>simp only [G.okAlt,Bool.and_eq_true] at hok; simpa using hok.2
  have HPR:Hid (∀ k,i≤k→G.D s.data.toList x i k ≠ none→(pr || G.solid x)=true→i0<k):=by
   intro k h1 h2 h3
   cases pr with
   | true=>have:=hpr rfl; omega
   | false =>
    rcases Nat.lt_or_ge i k with h | h
    ·omega
    ·have:k=i:=by omega
     subst this
     exact absurd (G.D_solid _ x k (by simpa using h3)) h2
  have HLEN:Hid (l.length≤9):=by simp at hlen; exact hlen
  have HOKR:Hid (pr=true→i0<i):=hpr
  clear hl HOf hok hpr hlen HOKR
  obtain ⟨ti,hti,htz,hts,htb⟩:=info_tree
  go_enter Try.func111,Try.ntmps111
  go_wp2
  go_loopw [10] (fun kk wr=>∃ k:Nat,i≤k∧k≤j + 1∧kk=.int .i64 (k:Int)∧Rdr wr br bt n s en vo∧Keep [bt] w wr∧Hid (∀ k',i≤k'→k'<k→way s.data.toList x l i j k'=none)) (fun kk _=>j + 1 - (intOf kk).toNat)
  case atStart=>exact ⟨i,Nat.le_refl _,by omega,rfl,hR,Keep.refl _ _,fun k' a b=>by omega⟩
  case round =>
   clear hR
   obtain ⟨k,hik,hkj1,rfl,hR,hK,HW⟩:=hrel
   have NEXT:Hid (way s.data.toList x l i j k=none→∀ k',i≤k'→k'<k + 1→way s.data.toList x l i j k'=none):=by
    intro h k' a b
    rcases Nat.lt_or_ge k' k with h1 | h1
    ·exact HW.out k' a h1
    ·have:k'=k:=by omega
     subst this; exact h
   by_cases hkj:k≤j
   ·by_cases hskip:l=[]∧k<j
    ·have hg:((lb.size:Int) == 1)=true:=by rw [HSZ.out,hskip.1]; rfl
     have hlt:k<j:=hskip.2
     have HN:Hid (way s.data.toList x l i j k=none):=by show (if l=[]∧k<j then none else _)=none; rw [if_pos hskip]
     clear hskip
     go_wp2
     go_roundw
     case rel=>exact ⟨k + 1,by omega,by omega,by go_num,hR,hK,NEXT.out HN.out⟩
     case measure=>simp [intOf]; omega
    ·have HWK:Hid (way s.data.toList x l i j k=(G.D s.data.toList x i k).bind fun t=>(G.parts (G.D s.data.toList) l k j).map fun r=>t :: r):=by
        show (if l=[]∧k<j then none else _)=_
        rw [if_neg hskip]
     have hg:((lb.size:Int) == 1)=false∨(((lb.size:Int) == 1)=true∧¬ k<j):=by
      cases l with
      | nil=>right; exact ⟨by rw [HSZ.out]; rfl,fun h=>hskip ⟨rfl,h⟩⟩
      | cons y l=>left; rw [HSZ.out]; simp; omega
     clear hskip
     rcases hg with hg | ⟨hg,hg2⟩
     all_goals
      go_wp2_with fail
      rw [HX.out]
      refine (HOF.out x i k wr hik (by omega) (HASK.out k hik hkj) hR).mono ?_
      rintro e w1 ⟨v,rfl,hT,hR1,hK1⟩
      have hK01:=hK.trans hK1
      clear hR hK1
      rcases treeOpt_ptr hT with ⟨hD,rfl⟩ | ⟨τ,b,f,hD,rfl,hTA⟩
      ·have HN:Hid (way s.data.toList x l i j k=none):=by show _=_; rw [HWK.out,hD]; rfl
       clear hD hT
       go_wp2
       go_roundw
       case rel=>exact ⟨k + 1,by omega,by omega,by go_num,hR1,hK01,NEXT.out HN.out⟩
       case measure=>simp [intOf]; omega
      ·have HD:Hid _:=hD
       have HTA:Hid _:=hTA
       clear hD hT hTA
       have HSL:Hid ((lb.extract 1 lb.size).data.toList=l):=by
        show _=_
        rw [Lib.extract_data,HLB.out,List.drop_succ_cons,List.drop_zero,List.take_of_length_le (by rw [HSZ.out]; omega)]
       go_wp2_with fail
       refine (IH.out _ HSL.out (pr || G.solid x) k w1 HOK2.out (by omega) (HPR.out k hik (by rw [HD.out]; simp)) hkj (by have:=HLEN.out; omega) hR1).mono ?_
       rintro e w2 ⟨v2,b2,rfl,hKO,hR2,hK2⟩
       have hKT2:=Keep.treesR hR1 hK2
       have hK02:=hK01.trans hK2
       cases hp:G.parts (G.D s.data.toList) l k j with
       | none =>
        rw [hp] at hKO
        obtain ⟨rfl,rfl⟩:=hKO
        have HN:Hid (way s.data.toList x l i j k=none):=by show _=_; rw [HWK.out,HD.out,hp]; rfl
        clear hp hR1
        go_wp2
        go_roundw
        case rel=>exact ⟨k + 1,by omega,by omega,by go_num,hR2,hK02,NEXT.out HN.out⟩
        case measure=>simp [intOf]; omega
       | some rs =>
        rw [hp] at hKO
        obtain ⟨⟨f2,hKA⟩,rfl⟩:=hKO
        have HRL:Hid (rs.length=l.length):=parts_length _ _ _ _ _ hp
        have HY:Hid (G.parts (G.D s.data.toList) (x :: l) i j=some (τ :: rs)):=parts_some _ _ _ _ _ k _ HW.out hik hkj (by rw [HWK.out,HD.out,hp]; rfl)
        have hTA2:=TreeAt.keep hKT2 _ _ _ HTA.out
        have HT2:Hid _:=hTA2
        clear hp hR1 hTA2 hKT2 HTA
        have hrow:=RowAt.one w2 (.pointer (some ⟨b,0,none⟩)) 138
        rcases hKA with ⟨rfl,rfl⟩ | ⟨g,cap,ptrs,rfl,hrw,hall⟩
        ·go_wp2_with ((at_builtin; refine wpList_append_own_none rfl _ _ 160 rfl w2.heap.size 138 ti 1 Try.underlying160 hti _ _ _ rfl (hrow.own (Nat.le_refl _)) rfl ?_))
         go_wp2
         go_ret2
         refine ⟨_,_,rfl,?_,hR2.alloc _,hK02.alloc _⟩
         rw [HY.out]
         refine ⟨?_,rfl⟩
         exact kids_cons (keepTrees_below ((Below.refl w2.heap.size w2).alloc (Nat.le_refl _) _) (Nat.le_refl _)) HT2.out (f2:=0) (ks:=[]) (ptrs:=[]) (fun i τ p hi _=>by simp at hi) hrow
        ·have hplen:ptrs.length=rs.length * 1:=hrw.length
         have hlen9:rs.length≤9:=by rw [HRL.out]; exact HLEN.out
         have HALL:Hid _:=hall
         have HPT:Hid (∀ u,u ∈ ptrs→u.oneCell'=true):=by
          intro u hu
          obtain ⟨jj,hjj,rfl⟩:=List.getElem_of_mem hu
          have h2:jj<rs.length:=by omega
          have:=hall jj rs[jj] ptrs[jj] (List.getElem?_eq_getElem h2) (List.getElem?_eq_getElem hjj)
          cases f2 with
          | zero=>exact this.elim
          | succ f2 =>
           obtain ⟨b',kv,e,_⟩:=this
           rw [e]; rfl
         clear hall
         go_wp2_with ((at_builtin; refine wpList_append_own _ rfl _ _ 160 rfl w2.heap.size 138 ti (.pointer none) 1 8 Try.underlying160 hti htz hts htb rfl (by decide) _ _ _ rfl (hrow.own (Nat.le_refl _)) ⟨g,0,none⟩ rs.length cap ptrs rfl hplen ?c1 ?c2 ?c3 ?c4 ?c5 ?_))
         case c1 =>
          intro jj u hj
          have hjl:jj<ptrs.length:=(List.getElem?_eq_some_iff.1 hj).1
          have:=RowAt.cell? (hrw.alloc (.cells #[.pointer (some ⟨b,0,none⟩)] 138)) jj hjl
          rw [hj] at this
          rw [add_plain,Nat.zero_add]
          exact this
         case c2=>exact HPT.out
         case c3=>unfold maxLen; omega
         case c4=>omega
         case c5=>simp
         ·intro v' w3 hown' hgrow hnil
          obtain ⟨g3,cap3,rfl,hbg,hrow3⟩:=own_open hown' hnil
          have hK3:Keep [bt] w w3:=(hK02.alloc _).grown hgrow (fun k hk=>by cases hk; exact hK02.size)
          have hKW:Keep [] w2 w3:=((Keep.refl [] w2).alloc _).grown hgrow (fun k hk=>by cases hk; exact Nat.le_refl _)
          have hKT3:KeepTrees w2 w3:=hKW.trees (fun k hk=>by cases hk)
          have hR3:Rdr w3 br bt n s en vo:=hR2.keep hKW (by simp) (by simp) hKT3
          clear hown' hgrow hnil
          go_wp2
          go_ret2
          refine ⟨_,_,rfl,?_,hR3,hK3⟩
          rw [HY.out]
          exact ⟨kids_cons hKT3 HT2.out HALL.out hrow3,rfl⟩
   ·have HN:Hid (G.parts (G.D s.data.toList) (x :: l) i j=none):=parts_none _ _ _ _ _ hij (fun k' a b=>HW.out k' a (by omega))
    go_wp2
    go_ret2
    refine ⟨_,_,rfl,?_,hR,hK⟩
    rw [HN.out]
    exact ⟨rfl,rfl⟩
theorem mul_bd {a b A B:Nat} (h1:a≤A) (h2:b≤B):a * b≤A * B:=Nat.mul_le_mul h1 h2
theorem Rdr.c0 {w:World} {br bt n:Nat} {s:ByteArray} {en:Int} {vo:Value} (h:Rdr w br bt n s en vo):w.cell? ⟨br,0,none⟩=some (.string s):=h.blk.cell 0
theorem Rdr.c1 {w:World} {br bt n:Nat} {s:ByteArray} {en:Int} {vo:Value} (h:Rdr w br bt n s en vo):w.cell? ⟨br,1,none⟩=some (.int .i64 (n:Int)):=h.blk.cell 1
theorem Rdr.c2 {w:World} {br bt n:Nat} {s:ByteArray} {en:Int} {vo:Value} (h:Rdr w br bt n s en vo):w.cell? ⟨br,2,none⟩=some (.slice (some ⟨bt,0,none⟩) (9 * n * n) (9 * n * n)):=h.blk.cell 2
theorem Rdr.c3 {w:World} {br bt n:Nat} {s:ByteArray} {en:Int} {vo:Value} (h:Rdr w br bt n s en vo):w.cell? ⟨br,3,none⟩=some (.int .i64 en):=h.blk.cell 3
theorem Rdr.c4 {w:World} {br bt n:Nat} {s:ByteArray} {en:Int} {vo:Value} (h:Rdr w br bt n s en vo):w.cell? ⟨br,4,none⟩=some vo:=h.blk.cell 4
set_option maxRecDepth 100000 in
set_option maxHeartbeats 1600000 in
theorem of_term (br bt n:Nat) (s:ByteArray) (en:Int) (vo:Value) (y:UInt8) (i j:Nat) (w:World) (hij:i≤j) (hj:j≤s.size) (hy:G.isNt y=false) (hR:Rdr w br bt n s en vo) :
    Calls Try.prog 96 #[.pointer (some ⟨br,0,none⟩),.int .u8 (y.toNat:Int),.int .i64 (i:Int),.int .i64 (j:Int)] w (OfPost br bt n s en vo y i j w):=by
 have HD:Hid (_):=G.D_term s.data.toList y i j hy
 have hs:=hR.hs
 have c0:=hR.c0
 go_enter Try.func96,Try.ntmps96
 go_wp2_with fail
 refine (place_any y _ _ (by decide)).mono ?_
 rintro e w1 ⟨⟨r,rfl,hr⟩,rfl⟩
 obtain rfl:r = -1:=by
  rcases hr.out with ⟨_,h⟩ | ⟨k,rfl,hk,he,_⟩
  ·exact h
  ·exfalso
   have:G.symbols.contains y=true:=by
    rw [List.contains_iff_mem,← he,List.getD_eq_getElem?_getD,List.getElem?_eq_getElem hk]
    exact List.getElem_mem hk
   unfold G.isNt at hy
   rw [this] at hy
   cases hy
 clear hr
 by_cases h1:j=i + 1
 ·subst h1
  have hq:((i + 1:Nat):Int)=(i:Int) + 1:=by omega
  have hi:i<s.size:=by omega
  have HB:Hid (s[i]=s.data.toList.getD i 0):=byte_at s i hi
  go_wp2_with fail
  refine (class_any y s[i] _).mono ?_
  rintro e w2 ⟨rfl,rfl⟩
  rw [HB.out]
  cases hc:G.cls y (s.data.toList.getD i 0) with
  | false =>
   have HN:Hid (G.D s.data.toList y i (i + 1)=none):=by show _=_; rw [HD.out,if_neg (by rw [hc]; simp)]
   clear hc
   go_wp2
   go_ret
   refine ⟨_,rfl,?_,hR,Keep.refl _ _⟩
   rw [HN.out]
   rfl
  | true =>
   have HN:Hid (G.D s.data.toList y i (i + 1)=some ⟨y,0,[],s.data.toList.getD i 0⟩):=by show _=_; rw [HD.out]; simp only [hc,and_self,if_true]
   clear hc
   go_wp2
   go_ret
   refine ⟨_,rfl,?_,hR.alloc _,(Keep.refl _ _).alloc _⟩
   rw [HN.out,← HB.out]
   exact ⟨1,_,.slice none 0 0,rfl,BlkT.new _ _ _,.inl ⟨rfl,rfl⟩⟩
 ·have HN:Hid (G.D s.data.toList y i j=none):=by show _=_; rw [HD.out,if_neg (fun h=>h1 h.1)]
  have hq:((j:Int) == (i:Int) + 1)=false:=by rw [beq_eq_false_iff_ne]; omega
  go_wp2
  go_ret
  refine ⟨_,rfl,?_,hR,Keep.refl _ _⟩
  rw [HN.out]
  rfl
theorem set_two {cs:List Value} {q k:Nat} (a b:Value) (h0:k ≠ q * 2) (h1:k ≠ q * 2 + 1):((cs.set (q * 2) a).set (q * 2 + 1) b)[k]?=cs[k]?:=by
 rw [List.getElem?_set_ne (fun e=>h1 e.symm),List.getElem?_set_ne (fun e=>h0 e.symm)]
theorem Rdr.put {w:World} {br bt n:Nat} {s:ByteArray} {en:Int} {vo:Value} (h:Rdr w br bt n s en vo) {p i j q:Nat} (hp:p<9) (hi:i≤s.size) (hj:j≤s.size) (hq:q=ent n p i j) {v:Value}
    (hv:TreeOpt w v (G.D s.data.toList (G.symbols.getD p 0) i j)):Rdr ((w.setCell ⟨bt,q * 2,none⟩ (.bool true)).setCell ⟨bt,q * 2 + 1,none⟩ v) br bt n s en vo:=by
 have hne:=h.ne
 have hk:Keep [bt] w ((w.setCell ⟨bt,q * 2,none⟩ (.bool true)).setCell ⟨bt,q * 2 + 1,none⟩ v):=((Keep.refl [bt] w).setCell (by simp) _).setCell (by simp) _
 have hkt:=Keep.treesR h hk
 obtain ⟨cs,t1,t2,t3⟩:=h.tab
 have hn:=h.hn
 refine ⟨h.hn,h.hs,h.blk.keep hk (by simp; exact hne),(cs.set (q * 2) (.bool true)).set (q * 2 + 1) v,(t1.set _ _).set _ _,by simpa using t2,fun p' i' j' hp' hi' hj'=>?_⟩
 by_cases e:ent n p' i' j'=q
 ·rw [hq] at e
  obtain ⟨rfl,rfl,rfl⟩:=ent_inj (by omega) (by omega) (by omega) (by omega) e
  have hlt:q<9 * n * n:=by rw [hq]; exact ent_lt hp (by omega) (by omega)
  right
  rw [← hq]
  refine ⟨?_,v,?_,hv.keep hkt⟩
  ·rw [List.getElem?_set_ne (by omega),List.getElem?_set_self (by omega)]
  ·rw [List.getElem?_set_self (by rw [List.length_set]; omega)]
 ·rw [set_two _ _ (by omega) (by omega),set_two _ _ (by omega) (by omega)]
  rcases t3 p' i' j' hp' hi' hj' with g | ⟨g1,v',g2,g3⟩
  ·exact .inl g
  ·exact .inr ⟨g1,v',g2,g3.keep hkt⟩
theorem Rdr.cells {w:World} {br bt n:Nat} {s:ByteArray} {en:Int} {vo:Value} (h:Rdr w br bt n s en vo) {q:Nat} (hq:q<9 * n * n) :
    ∃ x0 x1,w.cell? ⟨bt,q * 2,none⟩=some x0∧w.cell? ⟨bt,q * 2 + 1,none⟩=some x1∧w.frozen? ⟨bt,q * 2,none⟩=false∧w.frozen? ⟨bt,q * 2 + 1,none⟩=false:=by
 obtain ⟨cs,t1,t2,t3⟩:=h.tab
 exact ⟨cs[q * 2]'(by omega),cs[q * 2 + 1]'(by omega),by rw [t1.cell,List.getElem?_eq_getElem],by rw [t1.cell,List.getElem?_eq_getElem],t1.frozen _,t1.frozen _⟩
theorem alts_len (y:UInt8):(G.alts y).length≤7∧∀ l,l ∈ G.alts y→l.length≤10:=by
 cases hn:G.isNt y with
 | false=>rw [G.alts_not hn]; simp
 | true =>
  have:((G.alts y).length≤7 && (G.alts y).all (fun l=>decide (l.length≤10)))=true:=by
   rcases G.nt_cases hn with h | h | h | h | h | h | h | h | h <;> subst h <;> decide
  rw [Bool.and_eq_true,decide_eq_true_eq] at this
  exact ⟨this.1,fun l hl=>by have:=List.all_eq_true.1 this.2 l hl; simpa using this⟩
set_option maxRecDepth 100000 in
set_option maxHeartbeats 3200000 in
theorem of_nt (br bt n:Nat) (s:ByteArray) (en:Int) (vo:Value) (y:UInt8) (i j:Nat) (w:World) (hij:i≤j) (hj:j≤s.size) (hy:G.isNt y=true) (hR:Rdr w br bt n s en vo)
    (HOf:OfC br bt n s en vo (G.mu y i j)) :
    Calls Try.prog 96 #[.pointer (some ⟨br,0,none⟩),.int .u8 (y.toNat:Int),.int .i64 (i:Int),.int .i64 (j:Int)] w (OfPost br bt n s en vo y i j w):=by
 have HD:Hid (_):=G.D_nt s.data.toList y i j hy hij (by rw [size_len]; exact hj)
 have HOF:Hid (OfC br bt n s en vo (G.mu y i j)):=HOf
 have HRR:=hR
 have hs:=hR.hs
 have hn:=hR.hn
 have HNN:Hid (n=s.size + 1):=hn
 have hnl:n≤41:=by omega
 have hin:i<n:=by omega
 have hjn:j<n:=by omega
 clear HOf hn
 go_enter Try.func96,Try.ntmps96
 go_wp2_with fail
 refine (place_any y _ _ (by decide)).mono ?_
 rintro e w1 ⟨⟨r,rfl,hr⟩,rfl⟩
 obtain ⟨p,rfl,hp9,HSY⟩:∃ p:Nat,r=(p:Int)∧p<9∧Hid (G.symbols.getD p 0=y):=by
  rcases hr.out with ⟨h,_⟩ | ⟨k,rfl,hk,he,_⟩
  ·exfalso
   have h2:G.symbols.contains y=false:=h
   unfold G.isNt at hy
   rw [h2] at hy
   cases hy
  ·exact ⟨k,rfl,hk,he⟩
 clear hr
 have c1:=hR.c1
 have c2:=hR.c2
 have HQ:Hid ((((p:Int) * (n:Int) + (i:Int)) * (n:Int) + (j:Int))=((ent n p i j:Nat):Int)):=by
  show _=_
  unfold ent
  rw [Int.natCast_add,Int.natCast_mul,Int.natCast_add,Int.natCast_mul]
 have m1:(0:Int)≤(p:Int) * (n:Int):=Int.mul_nonneg (by omega) (by omega)
 have m2:(p:Int) * (n:Int)≤369:=by
  have:=mul_bd (show p≤9 by omega) hnl
  have h2:((p * n:Nat):Int)≤369:=by omega
  rwa [Int.natCast_mul] at h2
 have m3:(0:Int)≤((p:Int) * (n:Int) + (i:Int)) * (n:Int):=Int.mul_nonneg (by omega) (by omega)
 have m4:((p:Int) * (n:Int) + (i:Int)) * (n:Int)≤410 * 41:=Int.mul_le_mul (by omega) (by omega) (by omega) (by omega)
 obtain ⟨cs,t1,t2,t3⟩:=hR.tab
 have hel:=ent_lt hp9 hin hjn
 have ht:=t3 p i j hp9 (by omega) hj
 rw [HSY.out] at ht
 obtain ⟨q,HQE⟩:∃ q,q=ent n p i j:=⟨_,rfl⟩
 rw [← HQE] at HQ hel ht
 have HQE2:Hid (q=ent n p i j):=HQE
 have d0:=t1.cell (q * 2)
 have d1:=t1.cell (q * 2 + 1)
 have f0:=t1.frozen (q * 2)
 have f1:=t1.frozen (q * 2 + 1)
 have HEL:Hid (q<9 * n * n):=hel
 have HT2:Hid (cs.length=2 * (9 * n * n)):=t2
 have hNN:9 * n * n≤20000:=by
  have:=mul_bd (mul_bd (Nat.le_refl 9) hnl) hnl
  omega
 obtain ⟨N,HNe⟩:∃ N,N=9 * n * n:=⟨_,rfl⟩
 rw [← HNe] at c2 hel hNN
 have HNe2:Hid (N=9 * n * n):=HNe
 clear HQE t2 HNe t3
 have hqi:(q:Int)<(N:Int):=by omega
 have b0:decide ((p:Int)<0)=false:=decide_eq_false (by omega)
 rcases ht with ⟨e1,e2⟩ | ⟨e1,v,e2,e3⟩
 ·rw [e1] at d0
  rw [e2] at d1
  clear e1 e2
  go_wp2_with fail
  go_quiet (fail)
  rw [HQ.out]
  go_wp2_with fail
  have hK0:Keep [bt] w1 (w1.drewN nq):=(Keep.refl _ _).drewN _
  have hR0:=hR.drewN nq
  have hbt:bt<(w1.drewN nq).heap.size:=t1.lt
  clear d0 d1 f0 f1 c1 c2 t1 HRR m1 m2 m3 m4
  generalize w1.drewN nq=w2 at hK0 hR0 hbt ⊢
  refine (alternatives_any y w2 hy).mono ?_
  rintro e w3 ⟨rfl,hA,hB3⟩
  have hR3:=hR0.below hB3 (Nat.le_refl _)
  have hK3:Keep [bt] w1 w3:=hK0.trans (Keep.of_below hB3 (Nat.le_refl _))
  have hba:=Blk.lt hA
  have hbne:w2.heap.size ≠ bt:=by omega
  obtain ⟨hal7,hal10⟩:=alts_len y
  have HAL10:Hid _:=hal10
  have HALOK:Hid (∀ l,l ∈ G.alts y→G.okAlt (G.rank y) false l=true):=fun l hl=>List.all_eq_true.1 (G.alts_ok y) l hl
  clear hal10 hB3 hR0 hK0
  generalize w2.heap.size=ba at hA hba hbne ⊢
  generalize G.alts y=al at HD hA hal7 HAL10 HALOK ⊢
  go_wp2_with fail
  go_loopw [13,14] (fun tv av wr=>∃ (a:Nat) (o:Option G.Tr),a≤al.length∧av=.int .i64 (a:Int)∧TreeOpt wr tv o∧Hid (G.D s.data.toList y i j=o.or (G.firstAlt (G.D s.data.toList) s.data.toList y i j (al.drop a) a))∧Rdr wr br bt n s en vo∧Keep [bt] w3 wr) (fun _ av _=>al.length - (intOf av).toNat)
  case atStart=>exact ⟨0,none,by omega,rfl,rfl,HD,hR3,Keep.refl _ _⟩
  case round =>
   obtain ⟨a,o,hal,rfl,hT,HF,hRr,hKr⟩:=hrel
   have hAr:Blk wr ba (strs al):=Blk.of_heap hA (hKr.block ba hba (by simp; exact hbne))
   by_cases hgo:a<al.length∧o=none
   ·obtain ⟨hlt,rfl⟩:=hgo
    obtain rfl:u13=.pointer none:=hT
    have hdrop:al.drop a=al[a] :: al.drop (a + 1):=List.drop_eq_getElem_cons hlt
    have hmem:al[a] ∈ al:=List.getElem_mem hlt
    have hok:=HALOK.out _ hmem
    have hln:=HAL10.out _ hmem
    have HFA:Hid (G.D s.data.toList y i j=if G.skips s.data.toList al[a] i j=true then G.firstAlt (G.D s.data.toList) s.data.toList y i j (al.drop (a + 1)) (a + 1) else (match G.parts (G.D s.data.toList) al[a] i j with | some ks=>some ⟨y,a,ks,0⟩ | none=>G.firstAlt (G.D s.data.toList) s.data.toList y i j (al.drop (a + 1)) (a + 1))):=by
     show _=_
     rw [HF.out,hdrop]
     rfl
    have ca:wr.cell? ⟨ba,a,none⟩=some (.string ⟨al[a].toArray⟩):=by
     rw [hAr.cell? a]
     simp [strs,List.getElem?_eq_getElem hlt]
    obtain ⟨lb,HLB⟩:∃ lb:ByteArray,lb=⟨al[a].toArray⟩:=⟨_,rfl⟩
    rw [← HLB] at ca
    have HLD:Hid (lb.data.toList=al[a]):=by show _=_; rw [HLB]
    have HOK:Hid _:=hok
    have HLN:Hid _:=hln
    have HI3:Hid (al[a]=[91,73,93] ↔ lb.toList=[91,73,93]):=by
     show _ ↔ _
     rw [Lib.toList_data,HLD.out]
    clear HLB hok hln hdrop hmem HF
    generalize al[a]=l at HFA HLD HOK HLN HI3
    have c0:=hRr.c0
    have hai:(a:Int)<(al.length:Int):=by omega
    have hsk:(G.skips s.data.toList l i j=true∧lb.toList=[91,73,93]∧i + 1<j∧s.data.toList.getD (i + 1) 0=94) ∨
        (G.skips s.data.toList l i j=false∧((lb.toList == [91,73,93])=false∨((lb.toList == [91,73,93])=true∧(¬ i + 1<j∨(i + 1<j∧s.data.toList.getD (i + 1) 0 ≠ 94))))):=by
     by_cases g1:lb.toList=[91,73,93]
     ·by_cases g2:i + 1<j
      ·by_cases g3:s.data.toList.getD (i + 1) 0=94
       ·left
        refine ⟨?_,g1,g2,g3⟩
        unfold G.skips
        rw [HI3.out.2 g1,decide_eq_true g2,g3]; rfl
       ·right
        refine ⟨?_,.inr ⟨by rw [g1]; rfl,.inr ⟨g2,g3⟩⟩⟩
        unfold G.skips
        rw [beq_eq_false_iff_ne.2 g3,Bool.and_false,Bool.and_false]
      ·right
       refine ⟨?_,.inr ⟨by rw [g1]; rfl,.inl g2⟩⟩
       unfold G.skips
       rw [decide_eq_false g2,Bool.false_and,Bool.and_false]
     ·right
      refine ⟨?_,.inl (beq_eq_false_iff_ne.2 g1)⟩
      unfold G.skips
      rw [beq_eq_false_iff_ne.2 (fun e=>g1 (HI3.out.1 e)),Bool.false_and]
    rcases hsk with ⟨k1,k2,k3,k4⟩ | ⟨k1,k2⟩
    ·have q1:(lb.toList == [91,73,93])=true:=by rw [k2]; rfl
     have hsi:i + 1<s.size:=by omega
     have hsi2:(i:Int) + 1<(s.size:Int):=by omega
     have q2:(((s[i + 1]).toNat:Int) == 94)=true:=by rw [byte_at s (i + 1) hsi,k4]; rfl
     have HF2:Hid (G.D s.data.toList y i j=(none:Option G.Tr).or (G.firstAlt (G.D s.data.toList) s.data.toList y i j (al.drop (a + 1)) (a + 1))):=by
      show _=_
      rw [HFA.out,if_pos k1]; rfl
     clear k1 k2 k4 HFA
     go_wp2
     go_roundw
     case rel=>exact ⟨a + 1,none,by omega,by go_num,rfl,HF2,hRr,hKr⟩
     case measure=>simp [intOf]; omega
    ·have HF2:Hid (G.D s.data.toList y i j=(match G.parts (G.D s.data.toList) l i j with | some ks=>some ⟨y,a,ks,0⟩ | none=>G.firstAlt (G.D s.data.toList) s.data.toList y i j (al.drop (a + 1)) (a + 1))):=by
        show _=_
        rw [HFA.out,if_neg (by rw [k1]; simp)]
     clear k1 HFA HI3
     have hnot:(¬ i + 1<j)∨(∃ hsi:i + 1<s.size,i + 1<j∧(i:Int) + 1<(s.size:Int)∧(((s[i + 1]).toNat:Int) == 94)=decide (s.data.toList.getD (i + 1) 0=94)):=by
      rcases Nat.lt_or_ge (i + 1) j with h | h
      ·right
       have hsi:i + 1<s.size:=by omega
       refine ⟨hsi,h,by omega,?_⟩
       rw [byte_at s (i + 1) hsi,Bool.eq_iff_iff]
       simp only [beq_iff_eq,decide_eq_true_eq]
       constructor
       ·intro e; exact UInt8.toNat_inj.1 (by show _=94; omega)
       ·intro e; rw [e]; rfl
      ·left; omega
     have hfive:((lb.toList == [91,73,93])=false∧¬ i + 1<j)∨((lb.toList == [91,73,93])=true∧¬ i + 1<j)∨(∃ hsi:i + 1<s.size,(lb.toList == [91,73,93])=false∧i + 1<j∧(i:Int) + 1<(s.size:Int)∧(((s[i + 1]).toNat:Int) == 94)=false) ∨
         (∃ hsi:i + 1<s.size,(lb.toList == [91,73,93])=false∧i + 1<j∧(i:Int) + 1<(s.size:Int)∧(((s[i + 1]).toNat:Int) == 94)=true)∨(∃ hsi:i + 1<s.size,(lb.toList == [91,73,93])=true∧i + 1<j∧(i:Int) + 1<(s.size:Int)∧(((s[i + 1]).toNat:Int) == 94)=false):=by
      rcases k2 with k2 | ⟨k2,k3 | ⟨k3,k4⟩⟩
      ·rcases hnot with h | ⟨hsi,h1,h2,h3⟩
       ·exact .inl ⟨k2,h⟩
       ·by_cases g:s.data.toList.getD (i + 1) 0=94
        ·rw [decide_eq_true g] at h3
         exact .inr (.inr (.inr (.inl ⟨hsi,k2,h1,h2,h3⟩)))
        ·rw [decide_eq_false g] at h3
         exact .inr (.inr (.inl ⟨hsi,k2,h1,h2,h3⟩))
      ·exact .inr (.inl ⟨k2,k3⟩)
      ·rcases hnot with h | ⟨hsi,h1,h2,h3⟩
       ·exact absurd k3 h
       ·rw [decide_eq_false k4] at h3
        exact .inr (.inr (.inr (.inr ⟨hsi,k2,h1,h2,h3⟩)))
     clear k2 hnot
     rcases hfive with ⟨q1,q3⟩ | ⟨q1,q3⟩ | ⟨hsi,q1,q3,q4,q5⟩ | ⟨hsi,q1,q3,q4,q5⟩ | ⟨hsi,q1,q3,q4,q5⟩
     all_goals
      go_wp2_with fail
      refine (parts_any br bt n s en vo (G.rank y) i j (G.rank_lt y) hj (show OfC br bt n s en vo (8 * (j - i) + G.rank y) from HOF.out) l lb HLD.out false i wr HOK.out (Nat.le_refl _) (fun h=>by cases h) hij HLN.out hRr).mono ?_
      rintro e w4 ⟨v2,b2,rfl,hKO,hR4,hK4⟩
      have hK5:=hKr.trans hK4
      cases hp:G.parts (G.D s.data.toList) l i j with
      | none =>
       rw [hp] at hKO
       obtain ⟨rfl,rfl⟩:=hKO
       have HF3:Hid (G.D s.data.toList y i j=(none:Option G.Tr).or (G.firstAlt (G.D s.data.toList) s.data.toList y i j (al.drop (a + 1)) (a + 1))):=by
        show _=_
        rw [HF2.out,hp]; rfl
       clear hp HF2
       go_wp2
       go_roundw
       case rel=>exact ⟨a + 1,none,by omega,by go_num,rfl,HF3,hR4,hK5⟩
       case measure=>simp [intOf]; omega
      | some ks =>
       rw [hp] at hKO
       obtain ⟨⟨f,hKA⟩,rfl⟩:=hKO
       have HF3:Hid (G.D s.data.toList y i j=(some (⟨y,a,ks,0⟩:G.Tr)).or (G.firstAlt (G.D s.data.toList) s.data.toList y i j (al.drop (a + 1)) (a + 1))):=by
        show _=_
        rw [HF2.out,hp]; rfl
       have HKA:Hid _:=hKA
       have hv2:∃ oa l2 c2,v2=.slice oa l2 c2:=by
        rcases hKA with ⟨_,e⟩ | ⟨g,cap,ptrs,e,_⟩
        ·exact ⟨_,_,_,e⟩
        ·exact ⟨_,_,_,e⟩
       obtain ⟨oa,l2,c2',rfl⟩:=hv2
       clear hp HF2 hKA
       go_wp2
       go_roundw
       case rel =>
        refine ⟨a + 1,some ⟨y,a,ks,0⟩,by omega,by go_num,?_,HF3,hR4.alloc _,hK5.alloc _⟩
        exact ⟨f + 1,_,_,rfl,BlkT.new _ _ _,KidsAt.keep (keepTrees_below ((Below.refl w4.heap.size w4).alloc (Nat.le_refl _) _) (Nat.le_refl _)) HKA.out⟩
       case measure=>simp [intOf]; omega
   ·have HO:Hid (G.D s.data.toList y i j=o):=by
       show _=_
       rw [HF.out]
       cases o with
       | some τ=>rfl
       | none =>
        have:al.length≤a:=by
         rcases Nat.lt_or_ge a al.length with h | h
         ·exact absurd ⟨h,rfl⟩ hgo
         ·exact h
        rw [List.drop_of_length_le this]; rfl
    have c2:=hRr.c2
    rw [← HNe2.out] at c2
    obtain ⟨x0,x1,g0,g1,g2,g3⟩:=hRr.cells HEL.out
    have hRf:=hRr.put hp9 (by omega) hj HQE2.out (v:=u13) (by rw [HSY.out,HO.out]; exact hT)
    have hKf:Keep [bt] w1 ((wr.setCell ⟨bt,q * 2,none⟩ (.bool true)).setCell ⟨bt,q * 2 + 1,none⟩ u13):=((hK3.trans hKr).setCell (by simp) _).setCell (by simp) _
    have hKt:=Keep.treesR hRr (((Keep.refl [bt] wr).setCell (p:=⟨bt,q * 2,none⟩) (by simp) (.bool true)).setCell (p:=⟨bt,q * 2 + 1,none⟩) (by simp) u13)
    have hTf:=hT.keep hKt
    have HTF:Hid _:=hTf
    have HRF:Hid _:=hRf
    have HKF:Hid _:=hKf
    have hcase:(¬ a<al.length∧∃ pv,u13=.pointer pv)∨(a<al.length∧∃ b,u13=.pointer (some ⟨b,0,none⟩)):=by
     rcases Nat.lt_or_ge a al.length with h | h
     ·right
      refine ⟨h,?_⟩
      rcases treeOpt_ptr hT with ⟨e,_⟩ | ⟨τ,b,f,e,e2,_⟩
      ·exact absurd ⟨h,e⟩ hgo
      ·exact ⟨b,e2⟩
     ·left
      refine ⟨by omega,?_⟩
      rcases treeOpt_ptr hT with ⟨_,e⟩ | ⟨τ,b,f,_,e,_⟩
      ·exact ⟨_,e⟩
      ·exact ⟨_,e⟩
    clear hTf hRf hKf hKt hT hgo
    rcases hcase with ⟨h,pv,rfl⟩ | ⟨h,b,rfl⟩
    all_goals
     go_wp2
     go_ret
     refine ⟨_,rfl,?_,HRF.out,HKF.out⟩
     rw [HO.out]
     exact HTF.out
 ·rw [e1] at d0
  rw [e2] at d1
  clear e1 e2
  go_wp2_with fail
  go_quiet (fail)
  rw [HQ.out]
  go_wp2
  go_ret
  exact ⟨v,rfl,e3.keep (keepTrees_below (below_drewN (Below.refl w1.heap.size w1) _) (Nat.le_refl _)),hR.drewN _,(Keep.refl _ _).drewN _⟩
theorem OfC.le {br bt n:Nat} {s:ByteArray} {en:Int} {vo:Value} {m m':Nat} (h:OfC br bt n s en vo m) (hm:m'≤m):OfC br bt n s en vo m' :=
 fun y i j w hij hj hy hR=>h y i j w hij hj (by rcases hy with h | h; exact .inl (by omega); exact .inr h) hR
theorem of_any (br bt n:Nat) (s:ByteArray) (en:Int) (vo:Value):∀ m,OfC br bt n s en vo m
 | 0=>fun y i j w hij hj hy hR=>of_term br bt n s en vo y i j w hij hj (by rcases hy with h | h; omega; exact h) hR
 | m + 1=>fun y i j w hij hj hy hR=>by
  cases hn:G.isNt y with
  | false=>exact of_term br bt n s en vo y i j w hij hj hn hR
  | true =>
   have hmu:G.mu y i j≤m:=by
    rcases hy with h | h
    ·omega
    ·rw [hn] at h; cases h
   exact of_nt br bt n s en vo y i j w hij hj hn hR ((of_any br bt n s en vo m).le hmu)
def OpVal (v:Int) (b:Bool):Prop:=v=0∨(v=1∧b=false)∨(v=2∧b=true)
def Opens (w:World) (bo n:Nat) (os:List Int):Prop:=BlkT w bo 3 (ints os)∧os.length=9 * n∧∀ v,v ∈ os→0≤v∧v≤2
def OpPre (s:List UInt8) (E n:Nat) (m:Nat) (os:List Int):Prop:=∀ p i,p<9→i≤E→G.nu E (G.symbols.getD p 0) i≤m→OpVal (os.getD (p * n + i) 0) (G.O s E (G.symbols.getD p 0) i)
def OpPost (s:List UInt8) (E n:Nat) (os os':List Int):Prop:=∀ p i,p<9→i≤E→os'.getD (p * n + i) 0=os.getD (p * n + i) 0∨OpVal (os'.getD (p * n + i) 0) (G.O s E (G.symbols.getD p 0) i)
theorem OpPost.refl (s:List UInt8) (E n:Nat) (os:List Int):OpPost s E n os os:=fun _ _ _ _=>.inl rfl
theorem OpPost.trans {s:List UInt8} {E n:Nat} {a b c:List Int} (h:OpPost s E n a b) (k:OpPost s E n b c):OpPost s E n a c:=by
 intro p i hp hi
 rcases k p i hp hi with e | e
 ·rw [e]; exact h p i hp hi
 ·exact .inr e
theorem OpPost.pre {s:List UInt8} {E n m:Nat} {a b:List Int} (h:OpPost s E n a b) (k:OpPre s E n m a):OpPre s E n m b:=by
 intro p i hp hi hm
 rcases h p i hp hi with e | e
 ·rw [e]; exact k p i hp hi hm
 ·exact e
theorem OpPre.le {s:List UInt8} {E n m m':Nat} {a:List Int} (h:OpPre s E n m a) (hm:m'≤m):OpPre s E n m' a:=fun p i hp hi h2=>h p i hp hi (by omega)
structure RdrO (w:World) (br bt bo n:Nat) (s:ByteArray) (E:Nat) (os:List Int):Prop where
 rdr:Rdr w br bt n s (E:Int) (.slice (some ⟨bo,0,none⟩) (9 * n) (9 * n))
 ops:Opens w bo n os
 hE:E≤s.size
theorem RdrO.ne {w:World} {br bt bo n:Nat} {s:ByteArray} {E:Nat} {os:List Int} (h:RdrO w br bt bo n s E os):bo ≠ br∧bo ≠ bt:=by
 obtain ⟨cs,t1,_⟩:=h.rdr.tab
 exact ⟨h.ops.1.ne h.rdr.blk (by decide),h.ops.1.ne t1 (by decide)⟩
theorem RdrO.of {w w':World} {br bt bo n:Nat} {s:ByteArray} {E:Nat} {os:List Int} (h:RdrO w br bt bo n s E os) (k:Keep [bt] w w') (hR:Rdr w' br bt n s (E:Int) (.slice (some ⟨bo,0,none⟩) (9 * n) (9 * n))):RdrO w' br bt bo n s E os :=
 ⟨hR,⟨h.ops.1.keep k (by simp; exact h.ne.2),h.ops.2⟩,h.hE⟩
theorem RdrO.below {B:Nat} {w w':World} {br bt bo n:Nat} {s:ByteArray} {E:Nat} {os:List Int} (h:RdrO w br bt bo n s E os) (k:Below B w w') (hB:w.heap.size≤B):RdrO w' br bt bo n s E os :=
 ⟨h.rdr.below k hB,⟨h.ops.1.keep (S:=[]) (Keep.of_below k hB) (by simp),h.ops.2⟩,h.hE⟩
theorem RdrO.treesT {w:World} {br bt bo n:Nat} {s:ByteArray} {E:Nat} {os:List Int} (h:RdrO w br bt bo n s E os):∀ k,k ∈ [bo]→∀ c T,w.heap[k]?=some (.cells c T (0,0))→T ≠ 162∧T ≠ 138:=by
 intro k hk c T hc
 rw [List.mem_singleton] at hk
 subst hk
 have t1:=h.ops.1
 unfold BlkT at t1
 rw [t1] at hc
 cases hc
 exact ⟨by decide,by decide⟩
theorem RdrO.put {w:World} {br bt bo n:Nat} {s:ByteArray} {E:Nat} {os:List Int} (h:RdrO w br bt bo n s E os) (q:Nat) (v:Int) (hv:0≤v∧v≤2):RdrO (w.setCell ⟨bo,q,none⟩ (.int .i64 v)) br bt bo n s E (os.set q v):=by
 have hk:Keep [bo] w (w.setCell ⟨bo,q,none⟩ (.int .i64 v)):=(Keep.refl [bo] w).setCell (by simp) _
 have hkt:=hk.trees h.treesT
 refine ⟨h.rdr.keep hk (by simp; exact fun e=>h.ne.1 e.symm) (by simp; exact fun e=>h.ne.2 e.symm) hkt,⟨?_,by simpa using h.ops.2.1,?_⟩,h.hE⟩
 ·have:=h.ops.1.set q (.int .i64 v)
  rw [ints_set] at this
  exact this
 ·intro u hu
  rcases List.mem_or_eq_of_mem_set hu with e | e
  ·exact h.ops.2.2 u e
  ·rw [e]; exact hv
theorem RdrO.at {w:World} {br bt bo n:Nat} {s:ByteArray} {E:Nat} {os:List Int} (h:RdrO w br bt bo n s E os) (q:Nat) (hq:q<9 * n):w.cell? ⟨bo,q,none⟩=some (.int .i64 (os.getD q 0))∧w.frozen? ⟨bo,q,none⟩=false∧0≤os.getD q 0∧os.getD q 0≤2:=by
 have hl:q<os.length:=by rw [h.ops.2.1]; exact hq
 have e:os.getD q 0=os[q]:=by rw [List.getD_eq_getElem?_getD,List.getElem?_eq_getElem hl]; rfl
 refine ⟨?_,h.ops.1.frozen _,?_⟩
 ·rw [h.ops.1.cell q,ints,List.getElem?_map,List.getElem?_eq_getElem hl,e]; rfl
 ·rw [e]; exact h.ops.2.2 _ (List.getElem_mem hl)
def OpenedPost (br bt bo n:Nat) (s:ByteArray) (E:Nat) (os:List Int) (b:Bool) (w:World) (e:Ending) (w':World):Prop :=
 ∃ os',e=.returned (.bool b)∧RdrO w' br bt bo n s E os'∧OpPost s.data.toList E n os os'∧Keep [bt,bo] w w'
def OpenedC (br bt bo n:Nat) (s:ByteArray) (E m:Nat):Prop :=
 ∀ (y:UInt8) (i:Nat) (os:List Int) (w:World),i≤E→(G.nu E y i<m∨G.isNt y=false)→RdrO w br bt bo n s E os→(G.isNt y=true→OpPre s.data.toList E n (G.nu E y i) os) →
  Calls Try.prog 97 #[.pointer (some ⟨br,0,none⟩),.int .u8 (y.toNat:Int),.int .i64 (i:Int)] w (OpenedPost br bt bo n s E os (G.O s.data.toList E y i) w)
set_option maxRecDepth 100000 in
set_option maxHeartbeats 1600000 in
theorem begun_any (br bt bo n:Nat) (s:ByteArray) (E:Nat) (r i0:Nat) (hr:r<8) (HOp:OpenedC br bt bo n s E (8 * (E - i0) + r)) :
    ∀ (l:List UInt8) (lb:ByteArray) (hl:lb.data.toList=l) (pr:Bool) (i:Nat) (os:List Int) (w:World),G.okAlt r pr l=true→i0≤i→(pr=true→i0<i)→i≤E→l.length≤10→RdrO w br bt bo n s E os →
     OpPre s.data.toList E n (8 * (E - i0) + r - 1) os→0<r →
     Calls Try.prog 112 #[.pointer (some ⟨br,0,none⟩),.string lb,.int .i64 (i:Int)] w (OpenedPost br bt bo n s E os (G.bg s.data.toList E (G.O s.data.toList E) l i) w)
 | [],lb,hl,pr,i,os,w,hok,h0,hpr,hij,hlen,hR,hP,hr0=>by
  obtain rfl:lb=⟨#[]⟩:=bytes_eq hl
  have c3:=hR.rdr.c3
  by_cases he:i=E
  ·subst he
   have HP:Hid (G.bg s.data.toList i (G.O s.data.toList i) [] i=true):=by show (i == i)=true; simp
   clear HOp
   go_enter Try.func112,Try.ntmps112
   go_wp2
   go_ret
   refine ⟨os,?_,hR,OpPost.refl _ _ _ _,Keep.refl _ _⟩
   rw [HP.out]
   exact ret_bool (by simp)
  ·have HP:Hid (G.bg s.data.toList E (G.O s.data.toList E) [] i=false):=by show (i == E)=false; simpa using he
   have hq:((i:Int) == (E:Int))=false:=by simp; omega
   clear HOp
   go_enter Try.func112,Try.ntmps112
   go_wp2
   go_ret
   refine ⟨os,?_,hR,OpPost.refl _ _ _ _,Keep.refl _ _⟩
   rw [HP.out]
   rfl
 | x :: l,lb,hl,pr,i,os,w,hok,h0,hpr,hij,hlen,hR,hP,hr0=>by
  have HLB:Hid (lb.data.toList=x :: l):=hl
  have hz0:0<lb.size:=by rw [← size_len,hl]; simp
  have HX:Hid (lb[0]=x):=by show _=_; rw [byte_at lb 0 hz0,hl]; rfl
  have HSZ:Hid (lb.size=l.length + 1):=by show _=_; rw [← size_len,hl]; rfl
  have hq0:(lb.toList == [])=false:=by rw [Lib.toList_data,hl]; rfl
  have hz1:lb.size≤10:=by rw [← size_len,hl]; exact hlen
  have hs:=hR.rdr.hs
  have hEs:=hR.hE
  have IH:Hid (∀ (lb:ByteArray),lb.data.toList=l→∀ (pr:Bool) (i:Nat) (os:List Int) (w:World),G.okAlt r pr l=true→i0≤i→(pr=true→i0<i)→i≤E→l.length≤10→RdrO w br bt bo n s E os →
   OpPre s.data.toList E n (8 * (E - i0) + r - 1) os→0<r →
   Calls Try.prog 112 #[.pointer (some ⟨br,0,none⟩),.string lb,.int .i64 (i:Int)] w (OpenedPost br bt bo n s E os (G.bg s.data.toList E (G.O s.data.toList E) l i) w)):=fun lb hl=>begun_any br bt bo n s E r i0 hr HOp l lb hl
  have hask:G.nu E x i<8 * (E - i0) + r∨G.isNt x=false:=by
   cases pr with
   | true=>left; have:=hpr rfl; have h2:=G.rank_lt x; unfold G.nu; omega
   | false =>
    simp only [G.okAlt,Bool.and_eq_true,Bool.or_eq_true,decide_eq_true_eq,Bool.not_eq_true'] at hok
    rcases hok.1 with h | h
    ·left; unfold G.nu; omega
    ·right; exact h
  have hask2:G.isNt x=true→OpPre s.data.toList E n (G.nu E x i) os:=by
   intro hn
   rcases hask with h | h
   ·exact hP.le (by omega)
   ·rw [hn] at h; cases h
  have HC:=HOp x i os w hij hask hR hask2
  have HCC:Hid (Calls Try.prog 97 #[.pointer (some ⟨br,0,none⟩),.int .u8 (x.toNat:Int),.int .i64 (i:Int)] w (OpenedPost br bt bo n s E os (G.O s.data.toList E x i) w)):=HC
  have HOK2:Hid (G.okAlt r (pr || G.solid x) l=true):=by
   show _=_
   cases pr with
   | true=>simpa [G.okAlt] using hok
   | false=>simp only [G.okAlt,Bool.and_eq_true] at hok; simpa using hok.2
  have HPR:Hid (∀ k,i≤k→G.D s.data.toList x i k ≠ none→(pr || G.solid x)=true→i0<k):=by
   intro k h1 h2 h3
   cases pr with
   | true=>have:=hpr rfl; omega
   | false =>
    rcases Nat.lt_or_ge i k with h | h
    ·omega
    ·have:k=i:=by omega
     subst this
     exact absurd (G.D_solid _ x k (by simpa using h3)) h2
  have HLEN:Hid (l.length≤9):=by simp at hlen; exact hlen
  have HPP:Hid (OpPre s.data.toList E n (8 * (E - i0) + r - 1) os):=hP
  clear hl HOp hok hpr hlen hask hask2 HC hP
  go_enter Try.func112,Try.ntmps112
  go_wp2_with fail
  rw [HX.out]
  refine Calls.mono HCC.out ?_
  rintro e w1 ⟨os1,rfl,hR1,hP1,hK1⟩
  have HBG:Hid (G.bg s.data.toList E (G.O s.data.toList E) (x :: l) i=(G.O s.data.toList E x i || (List.range' i (E + 1 - i)).any fun k=>(G.D s.data.toList x i k).isSome && G.bg s.data.toList E (G.O s.data.toList E) l k)):=rfl
  generalize G.O s.data.toList E x i=b0 at HBG ⊢
  go_wp2_with fail
  go_loopw [7,8] (fun bv kk wr=>∃ (b:Bool) (k:Nat) (os':List Int),bv=.bool b∧i≤k∧k≤E + 1∧kk=.int .i64 (k:Int)∧RdrO wr br bt bo n s E os'∧OpPost s.data.toList E n os os'∧Keep [bt,bo] w wr ∧
      Hid (b=true→G.bg s.data.toList E (G.O s.data.toList E) (x :: l) i=true)∧Hid (b=false→b0=false∧∀ k',i≤k'→k'<k→((G.D s.data.toList x i k').isSome && G.bg s.data.toList E (G.O s.data.toList E) l k')=false)) (fun _ kk _=>E + 1 - (intOf kk).toNat)
  case atStart =>
   refine ⟨b0,i,os1,rfl,Nat.le_refl _,by omega,rfl,hR1,hP1,hK1,?_,?_⟩
   ·intro h; rw [HBG.out,h]; rfl
   ·intro h; exact ⟨h,fun k' a b=>by omega⟩
  case round =>
   clear hR1 hP1 hK1
   obtain ⟨b,k,os2,rfl,hik,hkE,rfl,hR2,hP2,hK2,HT,HF⟩:=hrel
   have c3:=hR2.rdr.c3
   by_cases hgo:k≤E∧b=false
   ·obtain ⟨hk,rfl⟩:=hgo
    obtain ⟨e1,e2⟩:=HF.out rfl
    have HE1:Hid (b0=false):=e1
    have HE2:Hid (∀ k',i≤k'→k'<k→((G.D s.data.toList x i k').isSome && G.bg s.data.toList E (G.O s.data.toList E) l k')=false):=e2
    clear e1 e2 HF HT
    have NEXT:Hid (((G.D s.data.toList x i k).isSome && G.bg s.data.toList E (G.O s.data.toList E) l k)=false→∀ k',i≤k'→k'<k + 1→((G.D s.data.toList x i k').isSome && G.bg s.data.toList E (G.O s.data.toList E) l k')=false):=by
     intro h k' a c
     rcases Nat.lt_or_ge k' k with h1 | h1
     ·exact HE2.out k' a h1
     ·have:k'=k:=by omega
      subst this; exact h
    go_wp2_with fail
    rw [HX.out]
    refine (of_any br bt n s (E:Int) _ (G.mu x i k + 1) x i k wr hik (by omega) (.inl (Nat.lt_succ_self _)) hR2.rdr).mono ?_
    rintro e w3 ⟨v,rfl,hT,hR3',hK3'⟩
    have hR3:=hR2.of hK3' hR3'
    have hK3:Keep [bt,bo] w w3:=hK2.trans (hK3'.mono (by simp))
    clear hR3' hK3' c3
    rcases treeOpt_ptr hT with ⟨hD,rfl⟩ | ⟨τ,b,f,hD,rfl,hTA⟩
    ·have HN:Hid _:=NEXT.out (by rw [hD]; rfl)
     clear hD hT
     go_wp2
     go_roundw
     case rel=>exact ⟨false,k + 1,os2,rfl,by omega,by omega,by go_num,hR3,hP2,hK3,(fun h=>by cases h),(fun _=>⟨HE1.out,HN.out⟩)⟩
     case measure=>simp [intOf]; omega
    ·have HD:Hid (G.D s.data.toList x i k=some τ):=hD
     clear hD hT hTA
     have HSL:Hid ((lb.extract 1 lb.size).data.toList=l):=by
      show _=_
      rw [Lib.extract_data,HLB.out,List.drop_succ_cons,List.drop_zero,List.take_of_length_le (by rw [HSZ.out]; omega)]
     go_wp2_with fail
     refine Calls.mono (IH.out _ HSL.out (pr || G.solid x) k os2 w3 HOK2.out (by omega) (HPR.out k hik (by rw [HD.out]; simp)) hk (by have:=HLEN.out; omega) hR3 (hP2.pre HPP.out) hr0) ?_
     rintro e w4 ⟨os4,rfl,hR4,hP4,hK4⟩
     have hP5:=hP2.trans hP4
     have hK5:=hK3.trans hK4
     cases hbg:G.bg s.data.toList E (G.O s.data.toList E) l k with
     | false =>
      have HN:Hid _:=NEXT.out (by rw [hbg,Bool.and_false])
      clear hbg
      go_wp2
      go_roundw
      case rel=>exact ⟨false,k + 1,os4,rfl,by omega,by omega,by go_num,hR4,hP5,hK5,(fun h=>by cases h),(fun _=>⟨HE1.out,HN.out⟩)⟩
      case measure=>simp [intOf]; omega
     | true =>
      have HY:Hid (G.bg s.data.toList E (G.O s.data.toList E) (x :: l) i=true):=by
       show _=_
       rw [HBG.out,G.any_range_some _ _ _ k hik (by omega) (by rw [HD.out,hbg]; rfl),Bool.or_true]
      clear hbg
      go_wp2
      go_roundw
      case rel=>exact ⟨true,k + 1,os4,rfl,by omega,by omega,by go_num,hR4,hP5,hK5,(fun _=>HY.out),(fun h=>by cases h)⟩
      case measure=>simp [intOf]; omega
   ·have HB:Hid (G.bg s.data.toList E (G.O s.data.toList E) (x :: l) i=b):=by
       show _=_
       cases b with
       | true=>exact HT.out rfl
       | false =>
        obtain ⟨e1,e2⟩:=HF.out rfl
        have hkE2:E<k:=by
         rcases Nat.lt_or_ge E k with h | h
         ·exact h
         ·exact absurd ⟨h,rfl⟩ hgo
        rw [HBG.out,e1,Bool.false_or,G.any_range_none _ _ _ (fun k' a c=>e2 k' a (by omega))]
    have hcase:(¬ k≤E)∨(k≤E∧b=true):=by
     rcases Nat.lt_or_ge E k with h | h
     ·left; omega
     ·right
      refine ⟨h,?_⟩
      cases b with
      | true=>rfl
      | false=>exact absurd ⟨h,rfl⟩ hgo
    clear hgo
    rcases hcase with h | ⟨h,rfl⟩
    all_goals
     go_wp2
     go_ret
     refine ⟨os2,?_,hR2,hP2,hK2⟩
     rw [HB.out]
     rfl
end Go.Proofs.Ytjmkkkfloalliab
