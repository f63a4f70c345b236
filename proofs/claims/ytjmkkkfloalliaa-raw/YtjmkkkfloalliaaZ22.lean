import Derived.Test.YtjmkkkfloalliaaZ15
namespace Go.Proofs.Ytjmkkkfloalliaa
set_option linter.unusedVariables false
open Go.RowKit
def RK (w:World) (B bw k n i bx r:Nat) (t reg:ByteArray) (vx vl vm:Value):Prop:=∃ Pb Pr Pt Pa G C X lab,WI w B bw k n vx vl vm reg Pb Pr Pt Pa G C X lab∧i<k∧Pb i=bx∧Pr i=r∧Pt i=t
variable {w w':World} {B bw k n i bx r:Nat} {t reg:ByteArray} {vx vl vm:Value}
theorem RK.below (h:RK w B bw k n i bx r t reg vx vl vm) (hb:Below w.heap.size w w'):RK w' B bw k n i bx r t reg vx vl vm:=by
 obtain ⟨Pb,Pr,Pt,Pa,G,C,X,lab,hW,h1⟩:=h
 exact ⟨Pb,Pr,Pt,Pa,G,C,X,lab,hW.below hb,h1⟩
theorem RK.mat (h:RK w B bw k n i bx r t reg vx vl vm):BlkT w bw 29 [vx,.string reg,vl,vm]:=by
 obtain ⟨Pb,Pr,Pt,Pa,G,C,X,lab,hW,h1⟩:=h
 exact hW.mat
theorem RK.size (h:RK w B bw k n i bx r t reg vx vl vm):B≤w.heap.size:=by
 obtain ⟨Pb,Pr,Pt,Pa,G,C,X,lab,hW,h1⟩:=h
 exact hW.size
theorem RK.lb (h:RK w B bw k n i bx r t reg vx vl vm):∀ b,b ∈ bw :: (vl.ownBlock.toList ++ vm.ownBlock.toList)→B≤b∧b<w.heap.size:=by
 obtain ⟨Pb,Pr,Pt,Pa,G,C,X,lab,hW,h1⟩:=h
 intro b hb
 refine ⟨hW.lb b hb,?_⟩
 rcases List.mem_cons.1 hb with e | e
 ·rw [e]; exact hW.mat.lt
 ·rcases List.mem_append.1 e with e | e
  ·exact (own_lt' hW.ls b (by simpa using e)).1
  ·exact (own_lt' hW.lm b (by simpa using e)).1
theorem RK.xb (h:RK w B bw k n i bx r t reg vx vl vm):∀ b,b ∈ bw :: vx.ownBlock.toList→B≤b:=by
 obtain ⟨Pb,Pr,Pt,Pa,G,C,X,lab,hW,h1⟩:=h
 exact hW.xb
theorem RK.wb (h:RK w B bw k n i bx r t reg vx vl vm):∀ b,b ∈ [bw]→B≤b:=by
 obtain ⟨Pb,Pr,Pt,Pa,G,C,X,lab,hW,h1⟩:=h
 exact hW.wb
theorem RK.row (h:RK w B bw k n i bx r t reg vx vl vm):∃ gx cx,vx=.slice (some ⟨gx,0,none⟩) k cx∧w.cell? ⟨gx,i * 3,none⟩=some (.pointer (some ⟨bx,0,none⟩))∧w.cell? ⟨gx,i * 3 + 1,none⟩=some (.string t)∧w.cell? ⟨gx,i * 3 + 2,none⟩=some (.int .i64 (r:Int)):=by
 obtain ⟨Pb,Pr,Pt,Pa,G,C,X,lab,hW,hi,rfl,rfl,rfl⟩:=h
 obtain ⟨gx,cx,hvx,hgx,rx⟩:=own_open hW.xs (fun e=>by have:=hW.xs; rw [e] at this; obtain ⟨_,⟨_,q⟩ | ⟨_,_,_,q,_⟩⟩:=this; omega; cases q)
 have hpl:=pairsC_len Pb Pr Pt k
 refine ⟨gx,cx,hvx,?_,?_,?_⟩
 ·rw [show i * 3=i * 3 + 0 by omega,rx.cell? (i * 3 + 0) (by omega),pairsC_at hi 0 (by omega)]; rfl
 ·rw [rx.cell? (i * 3 + 1) (by omega),pairsC_at hi 1 (by omega)]; rfl
 ·rw [rx.cell? (i * 3 + 2) (by omega),pairsC_at hi 2 (by omega)]; rfl
theorem rk_searched (h:RK w B bw k n i bx r t reg vx vl vm) (pat:ByteArray) (budget:Int) (memo:Bool) (hp:pat.size≤maxLen) (b0 : -9223372036854775808≤budget) (b1:budget≤9223372036854775807) (hn:n + 1≤100000000) :
    Calls Try.prog 18 #[.pointer (some ⟨bw,0,none⟩),.agg #[.pointer (some ⟨bx,0,none⟩),.string t,.int .i64 (r:Int)],.string pat,.int .i64 budget,.bool memo] w fun e w'=>e=.returned (.bool true)∧Keep (bw :: (vl.ownBlock.toList ++ vm.ownBlock.toList)) w w'∧∃ n' vl' vm',n'≤n + 1∧RK w' B bw k n' i bx r t reg vx vl' vm':=by
 obtain ⟨Pb,Pr,Pt,Pa,G,C,X,lab,hW,hi,rfl,rfl,rfl⟩:=h
 refine (searched_any wantsD w bw (Pb i) (Pr i) B n n (Pt i) (Pa i) pat reg budget memo vx vl vm _ _ (hW.idx i hi) hp b0 b1 hW.mat hW.ls hW.lm hn hn hW.size hW.nl hW.nm hW.nlm).mono ?_
 rintro e w' ⟨rfl,h1 | h1⟩
 ·exact ⟨rfl,Keep.of_below h1 (Nat.le_refl _),n,vl,vm,by omega,Pb,Pr,Pt,Pa,G,C,X,lab,hW.below h1,hi,rfl,rfl,rfl⟩
 ·have hk:Keep (bw :: (vl.ownBlock.toList ++ vm.ownBlock.toList)) w w':=by
     obtain ⟨l,vl',vm',g,c,_,_,_,_,_,_,_,_,_,_,_,_,_,kk⟩:=h1
     exact kk
  obtain ⟨vl',vm',G',C',X',lab',h2⟩:=hW.list hW.size h1
  exact ⟨rfl,hk,n + 1,vl',vm',by omega,Pb,Pr,Pt,Pa,G',C',X',lab',h2,hi,rfl,rfl,rfl⟩
theorem rk_counted (h:RK w B bw k n i bx r t reg vx vl vm) (pat:ByteArray) (budget:Int) (hp:pat.size≤maxLen) (b0 : -9223372036854775808≤budget) (b1:budget≤9223372036854775807) :
    Calls Try.prog 19 #[.agg #[.pointer (some ⟨bx,0,none⟩),.string t,.int .i64 (r:Int)],.string pat,.int .i64 budget] w fun e w'=>e=.returned (.bool true)∧Below w.heap.size w w':=by
 obtain ⟨Pb,Pr,Pt,Pa,G,C,X,lab,hW,hi,rfl,rfl,rfl⟩:=h
 exact counted_any wantsD w (Pb i) (Pr i) (Pt i) (Pa i) pat budget (hW.idx i hi) hp b0 b1
theorem rk_extracted (h:RK w B bw k n i bx r t reg vx vl vm) (f g:Int) (f0 : -9223372036854775808≤f) (f1:f≤9223372036854775807) (g0 : -9223372036854775808≤g) (g1:g≤9223372036854775807) :
    Calls Try.prog 20 #[.agg #[.pointer (some ⟨bx,0,none⟩),.string t,.int .i64 (r:Int)],.int .i64 f,.int .i64 g] w fun e w'=>e=.returned (.bool true)∧Below w.heap.size w w':=by
 obtain ⟨Pb,Pr,Pt,Pa,G,C,X,lab,hW,hi,rfl,rfl,rfl⟩:=h
 exact extracted_any w (Pb i) (Pr i) (Pt i) (Pa i) f g (hW.idx i hi) f0 f1 g0 g1
theorem rk_saved (h:RK w B bw k n i bx r t reg vx vl vm) :
    Calls Try.prog 21 #[.pointer (some ⟨bw,0,none⟩),.agg #[.pointer (some ⟨bx,0,none⟩),.string t,.int .i64 (r:Int)]] w fun e w'=>e=.returned (.bool true)∧Keep [bw] w w'∧∃ s:ByteArray,s.size≤700∧Hid (LoadOk s.data.toList t.data.toList r)∧RK w' B bw k n i bx r t s vx vl vm:=by
 obtain ⟨Pb,Pr,Pt,Pa,G,C,X,lab,hW,hi,rfl,rfl,rfl⟩:=h
 refine (lsaved_any w bw (Pb i) (Pr i) (Pt i) (Pa i) reg vx vl vm (hW.idx i hi) hW.mat).mono ?_
 rintro e w' ⟨rfl,⟨s,h1,h2,h3⟩,h4⟩
 exact ⟨rfl,h4,s,h1,h2,Pb,Pr,Pt,Pa,G,C,X,lab,hW.regAs h4 s h3,hi,rfl,rfl,rfl⟩
theorem rk_loaded (h:RK w B bw 1 n 0 bx r t reg vx vl vm) (hr:reg.size≤maxLen) (hL:LoadOk reg.data.toList t.data.toList r) :
    Calls Try.prog 16 #[.pointer (some ⟨bw,0,none⟩)] w fun e w'=>e=.returned (.bool true)∧Keep (bw :: vx.ownBlock.toList) w w'∧∃ vx' bx',RK w' B bw 2 n 1 bx' r t reg vx' vl vm:=by
 obtain ⟨Pb,Pr,Pt,Pa,G,C,X,lab,hW,hi,rfl,rfl,rfl⟩:=h
 refine (lloaded_any w bw B 1 reg vx vl vm _ hr hW.mat hW.xs (by omega) hW.size hW.nx).mono ?_
 rintro e w' ⟨rfl,⟨h1,h2⟩ | ⟨t',r',h1,vx',bx',a,h3,h4,h5,h6,h7,h8,h9⟩⟩
 ·exact absurd ⟨_,_,hL⟩ h1
 ·obtain ⟨e1,e2⟩:=hL.uniq h1
  refine ⟨rfl,h8,vx',bx',put1 Pb 1 bx',put1 Pr 1 r',put1 Pt 1 t',put1 Pa 1 a,G,C,X,_,hW.pair h3 h4 h6 h7 h8 h9,by omega,put1_at _ _ _,?_,?_⟩
  ·rw [put1_at]; exact e2.symm
  ·rw [put1_at]; exact (bytes_ext e1).symm
theorem wi_new (w:World) (s:ByteArray):WI (w.alloc (.cells #[.slice none 0 0,.string s,.slice none 0 0,.slice none 0 0] 29)) w.heap.size w.heap.size 0 0 (.slice none 0 0) (.slice none 0 0) (.slice none 0 0) s (fun _=>0) (fun _=>0) (fun _=>⟨#[]⟩) (fun _=>⟨#[]⟩) (fun _=>0) (fun _=>0) (fun _=>[]) (fun _=>1):=by
 refine ⟨BlkT.new w _ _,Nat.le_refl _,⟨rfl,.inl ⟨rfl,rfl⟩⟩,⟨rfl,.inl ⟨rfl,rfl⟩⟩,⟨rfl,.inl ⟨rfl,rfl⟩⟩,?_,?_,rfl,?_,?_,?_,?_,?_,?_,?_⟩
 all_goals first | (intro i hi; omega) | (intro b hb; cases hb)
theorem WI.clear {Pb Pr:Nat→Nat} {Pt Pa:Nat→ByteArray} {G C:Nat→Nat} {X:Nat→List Int} {lab:Nat→Nat} (h:WI w B bw k n vx vl vm reg Pb Pr Pt Pa G C X lab):WI (w.setCell ⟨bw,0,none⟩ (.slice none 0 0)) B bw 0 n (.slice none 0 0) vl vm reg Pb Pr Pt Pa G C X lab:=by
 have kk:Keep [bw] w (w.setCell ⟨bw,0,none⟩ (.slice none 0 0)):=(Keep.refl _ w).setCell (by simp) _
 exact ⟨h.mat.set 0 _,h.hB,⟨rfl,.inl ⟨rfl,rfl⟩⟩,own_keep' h.ls kk (fun b hb=>lab_no (h.b3 b hb) h.b1 (by decide)),own_keep' h.lm kk (fun b hb=>lab_no (h.b4 b hb) h.b1 (by decide)),
  fun i hi=>(by omega),fun i hi=>⟨(h.num i hi).1,nums_keep (h.num i hi).2.1 kk (lab_no (h.bg i hi) h.b1 (by omega)),nums_keep (h.num i hi).2.2 kk (lab_no (h.bc i hi) h.b1 (by omega))⟩,
  h.b1,fun b hb=>(by cases hb),h.b3,h.b4,fun i hi=>(by omega),h.bg,h.bc,h.gB⟩
def R0 (w:World) (B bw:Nat) (reg:ByteArray):Prop:=∃ Pb Pr Pt Pa G C X lab,WI w B bw 0 0 (.slice none 0 0) (.slice none 0 0) (.slice none 0 0) reg Pb Pr Pt Pa G C X lab
theorem r0_loaded (w:World) (s:ByteArray) (hs:s.size≤maxLen) :
    Calls Try.prog 16 #[.pointer (some ⟨w.heap.size,0,none⟩)] (w.alloc (.cells #[.slice none 0 0,.string s,.slice none 0 0,.slice none 0 0] 29)) fun e w'=>e=.returned (.bool true)∧Below w.heap.size w w'∧∃ vx,BlkT w' w.heap.size 29 [vx,.string s,.slice none 0 0,.slice none 0 0]∧R0 (w'.setCell ⟨w.heap.size,0,none⟩ (.slice none 0 0)) w.heap.size w.heap.size s:=by
 have hB:Below w.heap.size w (w.alloc (.cells #[.slice none 0 0,.string s,.slice none 0 0,.slice none 0 0] 29)):=(Below.refl _ w).alloc (Nat.le_refl _) _
 refine (wi_loaded (wi_new w s) hs (by omega)).mono ?_
 rintro e w' ⟨rfl,h1,⟨_,h2⟩ | ⟨vx',t,r,bx,a,lab',_,h2⟩⟩
 ·exact ⟨rfl,hB.trans h1,_,h2.mat,_,_,_,_,_,_,_,_,h2.clear⟩
 ·exact ⟨rfl,hB.trans h1,_,h2.mat,_,_,_,_,_,_,_,_,h2.clear⟩
theorem r0_built (h:R0 w B bw reg) (t:ByteArray) (rate:Int) (ht:t.size≤maxLen) :
    Calls Try.prog 17 #[.pointer (some ⟨bw,0,none⟩),.string t,.int .i64 rate] w fun e w'=>e=.returned (.bool true)∧Below B w w'∧(BlkT w' bw 29 [.slice none 0 0,.string reg,.slice none 0 0,.slice none 0 0]∨∃ (vx':Value) (r bx:Nat),rate=(r:Int)∧RK w' B bw 1 0 0 bx r t reg vx' (.slice none 0 0) (.slice none 0 0)):=by
 obtain ⟨Pb,Pr,Pt,Pa,G,C,X,lab,hW⟩:=h
 refine (wi_built hW t rate ht (by omega)).mono ?_
 rintro e w' ⟨rfl,h1,h2 | ⟨vx',r,bx,a,lab',e1,h2⟩⟩
 ·exact ⟨rfl,h1,.inl h2.mat⟩
 ·exact ⟨rfl,h1,.inr ⟨vx',r,bx,e1,_,_,_,_,_,_,_,_,h2,by omega,put1_at _ _ _,put1_at _ _ _,put1_at _ _ _⟩⟩
end Go.Proofs.Ytjmkkkfloalliaa
namespace Go.Proofs.Ytjmkkkfloalliaa
set_option linter.unusedVariables false
open Go.RowKit
set_option maxRecDepth 100000 in
set_option maxHeartbeats 6400000 in
theorem raw_any (t pat stored:ByteArray) (rate budget:Int) (memo:Bool) (w:World) (ht:t.size≤maxLen) (hp:pat.size≤maxLen) (hst:stored.size≤maxLen) (b0 : -9223372036854775808≤budget) (b1:budget≤9223372036854775807) :
    Calls Try.prog 8 #[.string t,.int .i64 rate,.string pat,.int .i64 budget,.bool memo,.string stored] w fun e w'=>e=.returned (.bool true)∧Below w.heap.size w w':=by
 have HL:=hid (r0_loaded w stored hst)
 have HBU:=hid (fun w' (h:R0 w' w.heap.size w.heap.size stored)=>r0_built h t rate ht)
 have HP:=hid hp
 have HT:=hid ht
 clear ht hp hst
 generalize hB:w.heap.size=B at *
 go_enter Try.func8,Try.ntmps8
 go_wp2_with fail
 refine HL.out.mono ?_
 rintro e w2 ⟨rfl,hB2,vx0,hM2,hR2⟩
 have d0:=hM2.cell 0
 have f0:=hM2.frozen 0
 simp only [List.getElem?_cons_zero] at d0
 have HB3:Hid (Below B w (w2.setCell ⟨B,0,none⟩ (.slice none 0 0))):=hB2.setCell (Nat.le_refl _) _
 clear HL hB2 hM2
 have HBU1:=hid (HBU.out _ hR2)
 clear hR2 HBU
 go_wp2_with fail
 generalize w2.setCell ⟨B,0,none⟩ (.slice none 0 0)=w3 at *
 clear d0 f0
 refine HBU1.out.mono ?_
 rintro e w4 ⟨rfl,hB4,hM4 | ⟨vx,r,bx,rfl,hK4⟩⟩
 ·have HB4:=hid (HB3.out.trans hB4)
  have d0:=hM4.cell 0
  simp only [List.getElem?_cons_zero] at d0
  clear hM4 hB4
  go_wp2
  go_ret
  exact ⟨rfl,HB4.out⟩
 have HB4:=hid (HB3.out.trans hB4)
 obtain ⟨gx,cx,hvx,p0,p1,p2⟩:=hK4.row
 have d0:=hK4.mat.cell 0
 simp only [List.getElem?_cons_zero] at d0
 rw [hvx] at d0
 simp only [Nat.zero_mul,Nat.zero_add] at p0 p1 p2
 have HK4:=hid hK4
 clear hB4 HB3 HBU1 hK4
 go_upto_region 10 with fail
 have hB5:Below w4.heap.size w4 (w4.alloc (.cells #[.pointer (some ⟨bx,0,none⟩),.string t,.int .i64 (r:Int)] 34)):=(Below.refl _ _).alloc (Nat.le_refl _) _
 have HK5:=hid (HK4.out.below hB5)
 have HB5:=hid (HB4.out.trans (hB5.mono HK4.out.size))
 have hP5:BlkT (w4.alloc (.cells #[.pointer (some ⟨bx,0,none⟩),.string t,.int .i64 (r:Int)] 34)) w4.heap.size 34 [.pointer (some ⟨bx,0,none⟩),.string t,.int .i64 (r:Int)]:=BlkT.new w4 _ _
 have hbp:w4.heap.size ≠ B:=by have:=HK4.out.mat.lt; omega
 clear p0 p1 p2 d0 HK4 HB4 hB5
 generalize w4.alloc (.cells #[.pointer (some ⟨bx,0,none⟩),.string t,.int .i64 (r:Int)] 34)=w5 at *
 generalize w4.heap.size=bp at *
 have q0:=hP5.cell 0; have q1:=hP5.cell 1; have q2:=hP5.cell 2
 simp only [List.getElem?_cons_zero,List.getElem?_cons_succ] at q0 q1 q2
 have HS:=hid (rk_searched HK5.out pat budget memo HP.out b0 b1 (by omega))
 go_wp2_with fail
 refine HS.out.mono ?_
 rintro e w6 ⟨rfl,hk6,n',vl,vm,hn',hK6⟩
 have hP6:=hP5.keep hk6 (by simp [Value.ownBlock]; exact hbp)
 have HB6:=hid (HB5.out.trans (hk6.to_below (fun b hb=>(HK5.out.lb b hb).1) HK5.out.size))
 clear q0 q1 q2 HS HK5 HB5 hP5 hk6
 have q0:=hP6.cell 0; have q1:=hP6.cell 1; have q2:=hP6.cell 2
 simp only [List.getElem?_cons_zero,List.getElem?_cons_succ] at q0 q1 q2
 have HC:=hid (rk_counted hK6 pat budget HP.out b0 b1)
 go_wp2_with fail
 refine HC.out.mono ?_
 rintro e w7 ⟨rfl,hB7⟩
 have hP7:BlkT w7 bp 34 [.pointer (some ⟨bx,0,none⟩),.string t,.int .i64 (r:Int)]:=(hB7.block bp hP6.lt).trans hP6
 have hK7:=hK6.below hB7
 have HB7:=hid (HB6.out.trans (hB7.mono hK6.size))
 clear q0 q1 q2 HC HB6 hP6 hB7 hK6
 have q0:=hP7.cell 0; have q1:=hP7.cell 1; have q2:=hP7.cell 2
 simp only [List.getElem?_cons_zero,List.getElem?_cons_succ] at q0 q1 q2
 have htl:(t.size:Int)≤9223372036854775807:=by have:=HT.out; unfold maxLen at this; omega
 have HE:=hid (rk_extracted hK7 0 (t.size:Int) (by omega) (by omega) (by omega) htl)
 go_wp2_with fail
 refine HE.out.mono ?_
 rintro e w8 ⟨rfl,hB8⟩
 have hP8:BlkT w8 bp 34 [.pointer (some ⟨bx,0,none⟩),.string t,.int .i64 (r:Int)]:=(hB8.block bp hP7.lt).trans hP7
 have hK8:=hK7.below hB8
 have HB8:=hid (HB7.out.trans (hB8.mono hK7.size))
 clear q0 q1 q2 HE HB7 hP7 hB8 hK7
 have q0:=hP8.cell 0; have q1:=hP8.cell 1; have q2:=hP8.cell 2
 simp only [List.getElem?_cons_zero,List.getElem?_cons_succ] at q0 q1 q2
 have HSV:=hid (rk_saved hK8)
 go_wp2_with fail
 refine HSV.out.mono ?_
 rintro e w9 ⟨rfl,hk9,s,hs,HLO,hK9⟩
 have HB9:=hid (HB8.out.trans (hk9.to_below hK8.wb hK8.size))
 have HLD:=hid (rk_loaded hK9 (by unfold maxLen; omega) HLO.out)
 have HK9:=hid hK9
 clear q0 q1 q2 HSV HB8 hP8 hk9 hK8 hK9
 go_wp2_with fail
 refine HLD.out.mono ?_
 rintro e w10 ⟨rfl,hk10,vx2,bx2,hK10⟩
 have HB10:=hid (HB9.out.trans (hk10.to_below HK9.out.xb HK9.out.size))
 obtain ⟨gx2,cx2,hvx2,p0,p1,p2⟩:=hK10.row
 have d0:=hK10.mat.cell 0
 simp only [List.getElem?_cons_zero] at d0
 rw [hvx2] at d0
 have p0:w10.cell? ⟨gx2,3,none⟩=some (.pointer (some ⟨bx2,0,none⟩)):=p0
 have p1:w10.cell? ⟨gx2,4,none⟩=some (.string t):=p1
 have p2:w10.cell? ⟨gx2,5,none⟩=some (.int .i64 (r:Int)):=p2
 have HK10:=hid hK10
 clear HLD HB9 HK9 hk10 hK10
 go_upto_region 20 with fail
 have hB11:Below w10.heap.size w10 (w10.alloc (.cells #[.pointer (some ⟨bx2,0,none⟩),.string t,.int .i64 (r:Int)] 34)):=(Below.refl _ _).alloc (Nat.le_refl _) _
 have HK11:=hid (HK10.out.below hB11)
 have HB11:=hid (HB10.out.trans (hB11.mono HK10.out.size))
 have hP11:BlkT (w10.alloc (.cells #[.pointer (some ⟨bx2,0,none⟩),.string t,.int .i64 (r:Int)] 34)) w10.heap.size 34 [.pointer (some ⟨bx2,0,none⟩),.string t,.int .i64 (r:Int)]:=BlkT.new w10 _ _
 have HBQ:Hid (w10.heap.size ∉ B :: (vl.ownBlock.toList ++ vm.ownBlock.toList)):=fun hm=>by have:=(HK10.out.lb _ hm).2; omega
 clear p0 p1 p2 d0 HK10 HB10 hB11
 generalize w10.alloc (.cells #[.pointer (some ⟨bx2,0,none⟩),.string t,.int .i64 (r:Int)] 34)=w11 at *
 generalize w10.heap.size=bq at *
 have q0:=hP11.cell 0; have q1:=hP11.cell 1; have q2:=hP11.cell 2
 simp only [List.getElem?_cons_zero,List.getElem?_cons_succ] at q0 q1 q2
 have HS:=hid (rk_searched HK11.out pat budget memo HP.out b0 b1 (by omega))
 go_wp2_with fail
 refine HS.out.mono ?_
 rintro e w12 ⟨rfl,hk12,n'',vl',vm',hn'',hK12⟩
 have hP12:=hP11.keep hk12 HBQ.out
 have HB12:=hid (HB11.out.trans (hk12.to_below (fun b hb=>(HK11.out.lb b hb).1) HK11.out.size))
 clear q0 q1 q2 HS HK11 HB11 hP11 hk12 hK12 HBQ
 have q0:=hP12.cell 0; have q1:=hP12.cell 1; have q2:=hP12.cell 2
 simp only [List.getElem?_cons_zero,List.getElem?_cons_succ] at q0 q1 q2
 go_wp2
 go_ret
 exact ⟨rfl,HB12.out⟩
end Go.Proofs.Ytjmkkkfloalliaa
