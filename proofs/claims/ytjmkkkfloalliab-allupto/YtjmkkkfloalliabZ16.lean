import Derived.Test.YtjmkkkfloalliabZ15
import Derived.Test.YtjmkkkfloalliabRows
import Derived.Deep.Slices
import Derived.ChangeArms
namespace Go.Proofs.Ytjmkkkfloalliab
set_option linter.unusedVariables false
open Go.RowKit
structure OpOk (k a b c:Int) (s:ByteArray):Prop where
 k0 : -9223372036854775808≤k
 k1:k≤9223372036854775807
 a0 : -9223372036854775808≤a
 a1:a≤9223372036854775807
 b0 : -9223372036854775808≤b
 b1:b≤9223372036854775807
 c0 : -9223372036854775808≤c
 c1:c≤9223372036854775807
 s1:s.size≤1048576
def ScriptAt (w:World) (v:Value):Prop:=∃ (len cap:Nat),len≤maxLen∧((len=0∧∃ p,v=.slice p 0 cap)∨∃ (bs off:Nat) (K A Bv Cv:Nat→Int) (S:Nat→ByteArray),v=.slice (some ⟨bs,off,none⟩) len cap∧bs<w.heap.size ∧
 ∀ i,i<len→OpOk (K i) (A i) (Bv i) (Cv i) (S i)∧w.cell? ⟨bs,off + i * 5,none⟩=some (.int .i64 (K i))∧w.cell? ⟨bs,off + i * 5 + 1,none⟩=some (.int .i64 (A i))∧w.cell? ⟨bs,off + i * 5 + 2,none⟩=some (.int .i64 (Bv i))∧w.cell? ⟨bs,off + i * 5 + 3,none⟩=some (.int .i64 (Cv i))∧w.cell? ⟨bs,off + i * 5 + 4,none⟩=some (.string (S i)))
theorem ScriptAt.below {w w':World} {v:Value} (h:ScriptAt w v) (hb:Below w.heap.size w w'):ScriptAt w' v:=by
 obtain ⟨len,cap,hl,h | ⟨bs,off,K,A,Bv,Cv,S,hv,hlt,h⟩⟩:=h
 ·exact ⟨len,cap,hl,.inl h⟩
 ·refine ⟨len,cap,hl,.inr ⟨bs,off,K,A,Bv,Cv,S,hv,Nat.lt_of_lt_of_le hlt hb.size,fun i hi=>?_⟩⟩
  obtain ⟨h0,h1,h2,h3,h4,h5⟩:=h i hi
  refine ⟨h0,?_,?_,?_,?_,?_⟩
  ·exact (hb.cell hlt).trans h1
  ·exact (hb.cell hlt).trans h2
  ·exact (hb.cell hlt).trans h3
  ·exact (hb.cell hlt).trans h4
  ·exact (hb.cell hlt).trans h5
theorem ws_zero (w:World):WS (w.alloc (.cells #[.slice none 0 0,.string ⟨#[]⟩,.slice none 0 0,.slice none 0 0] 59)) w.heap.size w.heap.size 0 0:=by
 refine ⟨0,0,.slice none 0 0,.slice none 0 0,.slice none 0 0,⟨#[]⟩,fun _=>0,fun _=>0,fun _=>⟨#[]⟩,fun _=>⟨#[]⟩,fun _=>0,fun _=>0,fun _=>[],fun _=>1,⟨BlkT.new w _ _,Nat.le_refl _,⟨rfl,.inl ⟨rfl,rfl⟩⟩,⟨rfl,.inl ⟨rfl,rfl⟩⟩,⟨rfl,.inl ⟨rfl,rfl⟩⟩,?_,?_,rfl,?_,?_,?_,?_,?_,?_,?_⟩,Nat.le_refl _,Nat.le_refl _,Nat.le_refl _⟩
 all_goals first | (intro i hi; omega) | (intro b hb; cases hb)
theorem ws_step {w:World} {B bw m R:Nat} (h:WS w B bw m R) (hm:m + 1≤100000000) (hR:R≤1000000000000000) (kd a b c:Int) (s:ByteArray) (ho:OpOk kd a b c s) :
    Calls Try.prog 29 #[.pointer (some ⟨bw,0,none⟩),.agg #[.int .i64 kd,.int .i64 a,.int .i64 b,.int .i64 c,.string s]] w fun e w'=>e=.returned (.bool true)∧Below B w w'∧WS w' B bw (m + 1) (R + 1049276):=by
 obtain ⟨k,n,vx,vl,vm,reg,Pb,Pr,Pt,Pa,G,C,X,lab,hW,h1,h2,h3⟩:=h
 refine (step_any hW kd a b c s ho.a0 ho.a1 ho.b0 ho.b1 ho.c0 ho.c1 ho.s1 (by omega) (by omega) (by omega)).mono ?_
 rintro e w' ⟨rfl,hB,k',n',vx',vl',vm',reg',Pb',Pr',Pt',Pa',G',C',X',lab',hW',g1,g2,g3⟩
 exact ⟨rfl,hB,k',n',vx',vl',vm',reg',Pb',Pr',Pt',Pa',G',C',X',lab',hW',by omega,by omega,by omega⟩
theorem ws_looks {w:World} {B bw m R:Nat} (h:WS w B bw m R) (hm:m≤100000000) :
    Calls Try.prog 30 #[.pointer (some ⟨bw,0,none⟩)] w fun e w'=>e=.returned (.bool true)∧Below B w w'∧WS w' B bw m R:=by
 obtain ⟨k,n,vx,vl,vm,reg,Pb,Pr,Pt,Pa,G,C,X,lab,hW,h1,h2,h3⟩:=h
 refine (wi_looks hW (by omega)).mono ?_
 rintro e w' ⟨rfl,hB,hW'⟩
 exact ⟨rfl,hB,k,n,vx,vl,vm,reg,Pb,Pr,Pt,Pa,G,C,X,lab,hW',h1,h2,h3⟩
set_option maxRecDepth 100000 in
set_option maxHeartbeats 3200000 in
theorem upto_any (w:World) (v:Value) (hS:ScriptAt w v) :
    Calls Try.prog 17 #[v] w fun e w'=>e=.returned (.int .i64 (-1))∧Below w.heap.size w w':=by
 obtain ⟨len,cap,hml,hS⟩:=hS
 unfold maxLen at hml
 have HW1:=hid (ws_zero w)
 have HB1:Hid (Below w.heap.size w (w.alloc (.cells #[.slice none 0 0,.string ⟨#[]⟩,.slice none 0 0,.slice none 0 0] 59))):=(Below.refl _ w).alloc (Nat.le_refl _) _
 rcases hS with ⟨rfl,p,rfl⟩ | ⟨bs,off,K,A,Bv,Cv,S,rfl,hlt,hc⟩
 ·go_enter Try.func17,Try.ntmps17
  go_wp2_with fail
  go_loopw [4] (fun iv wX=>iv=.int .i64 0∧Hid (Below w.heap.size w wX)) (fun _ _=>0)
  case atStart=>exact ⟨rfl,HB1⟩
  case round =>
   obtain ⟨rfl,HB⟩:=hrel
   go_wp2
   go_ret
   exact ⟨rfl,HB.out⟩
 ·have HC:=hid hc
  clear hc
  generalize hB:w.heap.size=B at *
  go_enter Try.func17,Try.ntmps17
  go_wp2_with fail
  go_loopw [4] (fun iv wX=>∃ i:Nat,i≤len∧i≤1048576∧iv=.int .i64 (i:Int)∧Hid (WS wX B B i (i * 1049276))∧Hid (Below B w wX)) (fun iv _=>1048576 - (intOf iv).toNat)
  case atStart=>exact ⟨0,by omega,by omega,rfl,HW1,HB1⟩
  case round =>
   clear HW1 HB1
   obtain ⟨i,hi1,hi2,rfl,HW,HB⟩:=hrel
   by_cases hl:i<len
   ·by_cases hm:i<1048576
    ·obtain ⟨ho,d0,d1,d2,d3,d4⟩:=HC.out i hl
     have e0:=(HB.out.cell (p:=⟨bs,off + i * 5,none⟩) hlt).trans d0
     have e1:=(HB.out.cell (p:=⟨bs,off + i * 5 + 1,none⟩) hlt).trans d1
     have e2:=(HB.out.cell (p:=⟨bs,off + i * 5 + 2,none⟩) hlt).trans d2
     have e3:=(HB.out.cell (p:=⟨bs,off + i * 5 + 3,none⟩) hlt).trans d3
     have e4:=(HB.out.cell (p:=⟨bs,off + i * 5 + 4,none⟩) hlt).trans d4
     have HST:=hid (ws_step HW.out (by omega) (by omega) (K i) (A i) (Bv i) (Cv i) (S i) ho)
     have i0:(0:Int)≤(i:Int):=by omega
     have i1:(i:Int)<(len:Int):=by omega
     have i2:(i:Int)<1048576:=by omega
     clear d0 d1 d2 d3 d4 HW ho
     go_wp2_with fail
     refine HST.out.mono ?_
     rintro e w2 ⟨rfl,hB2,hW2⟩
     have HLK:=hid (ws_looks hW2 (by omega))
     have HB2:=hid (HB.out.trans hB2)
     clear e0 e1 e2 e3 e4 HST hB2 hW2 HB
     go_wp2_with fail
     refine HLK.out.mono ?_
     rintro e w3 ⟨rfl,hB3,hW3⟩
     have HB3:=hid (HB2.out.trans hB3)
     have HW3:Hid (WS w3 B B (i + 1) ((i + 1) * 1049276)):=by
      show WS _ _ _ _ _
      rw [show (i + 1) * 1049276=i * 1049276 + 1049276 by omega]
      exact hW3
     clear HLK HB2 hB3 hW3
     go_wp2
     go_roundw
     case rel=>exact ⟨i + 1,by omega,by omega,by go_num,HW3,HB3⟩
     case measure=>simp [intOf]; omega
    ·have i1:(i:Int)<(len:Int):=by omega
     have i2:¬ (i:Int)<1048576:=by omega
     go_wp2
     go_ret
     exact ⟨rfl,HB.out⟩
   ·have i1:¬ (i:Int)<(len:Int):=by omega
    go_wp2
    go_ret
    exact ⟨rfl,HB.out⟩
end Go.Proofs.Ytjmkkkfloalliab
namespace Go.Proofs.Ytjmkkkfloalliab
set_option linter.unusedVariables false
open Go.RowKit Go.ChangeShapes Go.WideShapes
theorem Try.cellsOp:Try.prog.cellsOf 62=5:=by kernel_rfl
theorem Try.cellsInt:Try.prog.cellsOf 3=1:=by kernel_rfl
theorem Try.cellsStr:Try.prog.cellsOf 9=1:=by kernel_rfl
theorem Try.opFields:∃ f0 f1 f2 f3 f4:Field,Try.prog.underlying 62=some (.struct #[f0,f1,f2,f3,f4])∧(f0.type=3∧f0.offset=0)∧(f1.type=3∧f1.offset=1)∧(f2.type=3∧f2.offset=2)∧(f3.type=3∧f3.offset=3)∧(f4.type=9∧f4.offset=4) :=
 ⟨_,_,_,_,_,Try.underlying62,⟨rfl,rfl⟩,⟨rfl,rfl⟩,⟨rfl,rfl⟩,⟨rfl,rfl⟩,⟨rfl,rfl⟩⟩
theorem bulk_mem {H:Type} {d:DataW H}:∀ {l:List (DataW H)},d ∈ l→Rows.uptoBulk d≤Rows.uptoBulkAll l
 | [],h=>by cases h
 | x :: l,h=>by
  simp only [Rows.uptoBulkAll]
  rcases List.mem_cons.1 h with e | e
  ·subst e; omega
  ·have:=bulk_mem e; omega
theorem wf_i64 {n:Int} (h:(Lit.int .i64 n).wf=true) : -9223372036854775808≤n∧n≤9223372036854775807:=by
 simpa [Lit.wf,IntKind.min,IntKind.max,IntKind.signed,IntKind.bits] using h
set_option maxRecDepth 100000 in
theorem op_open {H:Type} {enc:TypeId × Value→H} {W:World} {base fuel:Nat} {sp:Nat→Bool} {hd:Bool} {cs:List Value} {x:DataW H × List MemPlace} (h:DataW.trod enc Try.prog W base sp hd fuel 62 cs=some x) :
    ∃ (k a b c:Int) (s:ByteArray),cs=[.int .i64 k,.int .i64 a,.int .i64 b,.int .i64 c,.string s]∧(-9223372036854775808≤k∧k≤9223372036854775807)∧(-9223372036854775808≤a∧a≤9223372036854775807)∧(-9223372036854775808≤b∧b≤9223372036854775807)∧(-9223372036854775808≤c∧c≤9223372036854775807)∧s.size≤Rows.uptoBulk x.1:=by
 obtain ⟨f0,f1,f2,f3,f4,he,⟨t0,o0⟩,⟨t1,o1⟩,⟨t2,o2⟩,⟨t3,o3⟩,⟨t4,o4⟩⟩:=Try.opFields
 obtain ⟨xs,n,_,hx,hlen,hxl,hf⟩:=DataW.trod_struct he h
 rw [Try.cellsOp] at hlen
 have g0:=hf 0 f0 rfl
 have g1:=hf 1 f1 rfl
 have g2:=hf 2 f2 rfl
 have g3:=hf 3 f3 rfl
 have g4:=hf 4 f4 rfl
 rw [t0,o0,Try.cellsInt] at g0
 rw [t1,o1,Try.cellsInt] at g1
 rw [t2,o2,Try.cellsInt] at g2
 rw [t3,o3,Try.cellsInt] at g3
 rw [t4,o4,Try.cellsStr] at g4
 match xs,hxl,cs,hlen with
 | [y0,y1,y2,y3,y4],_,[v0,v1,v2,v3,v4],_ =>
  obtain ⟨k,e0,_,w0⟩:=DataW.trod_int Try.underlying3 g0
  obtain ⟨a,e1,_,w1⟩:=DataW.trod_int Try.underlying3 g1
  obtain ⟨b,e2,_,w2⟩:=DataW.trod_int Try.underlying3 g2
  obtain ⟨c,e3,_,w3⟩:=DataW.trod_int Try.underlying3 g3
  obtain ⟨s,e4,x4,w4⟩:=DataW.trod_string Try.underlying9 g4
  simp at e0 e1 e2 e3 e4
  subst e0 e1 e2 e3 e4
  refine ⟨k,a,b,c,s,rfl,wf_i64 w0,wf_i64 w1,wf_i64 w2,wf_i64 w3,?_⟩
  rw [hx]
  simp only [List.map_cons,List.map_nil,Rows.uptoBulk,Rows.uptoBulkAll]
  have e:Rows.uptoBulk y4.1=s.size + 1:=by
   have:y4=(.lit (.string s.data.toList),[]):=x4
   rw [this]
   simp [Rows.uptoBulk]
  omega
set_option maxRecDepth 100000 in
theorem script_open {H:Type} {enc:TypeId × Value→H} {W:World} {base:Nat} {v:Value} {d:DataW H} {p:List MemPlace} (hval:Value.okWide Try.prog W .any base 31 v) (h:DataW.Trod enc Try.prog W 0 (fun _=>true) true 31 v d p) (hk:Rows.uptoBulk d≤1048576):ScriptAt W v:=by
 obtain ⟨ad,l0,c0,rfl⟩:=okWide_slice Try.underlying31 hval
 obtain ⟨fuel,h⟩:=h
 have hcs:(Value.slice ad l0 c0).cells.toList=[.slice ad l0 c0]:=rfl
 rw [hcs] at h
 rcases Deep.open_slice Try.underlying31 h with ⟨e,_⟩ | ⟨a,len,cap,m,n,D,Pl,e,_,hl,hm,hmm,hx,hop⟩
 ·simp at e
  obtain ⟨rfl,rfl,rfl⟩:=e
  exact ⟨0,0,by unfold maxLen; omega,.inl ⟨rfl,none,rfl⟩⟩
 ·simp at e
  obtain ⟨rfl,rfl,rfl⟩:=e
  have hml:l0≤maxLen:=Nat.le_trans hl hm
  rcases Nat.eq_zero_or_pos l0 with hz | hz
  ·subst hz
   exact ⟨0,c0,hml,.inl ⟨rfl,_,rfl⟩⟩
  ·have hmc:m=c0:=by simpa using hmm
   have hd:d=.slice ((List.range l0).map D) ((List.range (m - l0)).map fun j=>D (l0 + j)):=by
    have:=congrArg Prod.fst hx
    exact this
   have hD:∀ i,i<l0→Rows.uptoBulk (D i)≤1048576:=by
    intro i hi
    have h1:=bulk_mem (List.mem_map.2 ⟨i,List.mem_range.2 hi,rfl⟩:D i ∈ (List.range l0).map D)
    rw [hd] at hk
    simp only [Rows.uptoBulk] at hk
    omega
   obtain ⟨b,off,ex⟩:=a
   obtain rfl:ex=none:=by
    obtain ⟨cs',hc,_⟩:=hop 0 (by omega)
    rw [Try.cellsOp] at hc
    obtain ⟨_,hlen,hcell⟩:=World.cells?_some hc
    have h0:=hcell 0 (by omega)
    rw [List.getElem?_eq_getElem (by omega)] at h0
    cases ex with
    | none=>rfl
    | some y =>
     simp [Addr.add,World.cell?] at h0
     split at h0 <;> cases h0
   have each:∀ i,i<l0→∃ q:Int × Int × Int × Int × ByteArray,OpOk q.1 q.2.1 q.2.2.1 q.2.2.2.1 q.2.2.2.2∧W.cell? ⟨b,off + i * 5,none⟩=some (.int .i64 q.1)∧W.cell? ⟨b,off + i * 5 + 1,none⟩=some (.int .i64 q.2.1)∧W.cell? ⟨b,off + i * 5 + 2,none⟩=some (.int .i64 q.2.2.1)∧W.cell? ⟨b,off + i * 5 + 3,none⟩=some (.int .i64 q.2.2.2.1)∧W.cell? ⟨b,off + i * 5 + 4,none⟩=some (.string q.2.2.2.2):=by
    intro i hi
    obtain ⟨cs',hc,ht⟩:=hop i (by omega)
    rw [Try.cellsOp,add_plain] at hc
    obtain ⟨_,hlen,hcell⟩:=World.cells?_some hc
    obtain ⟨k,a,b',c,s,rfl,w0,w1,w2,w3,w4⟩:=op_open ht
    have hs:=hD i hi
    have w4:s.size≤Rows.uptoBulk (D i):=w4
    have q0:=hcell 0 (by omega)
    have q1:=hcell 1 (by omega)
    have q2:=hcell 2 (by omega)
    have q3:=hcell 3 (by omega)
    have q4:=hcell 4 (by omega)
    rw [add_plain] at q0 q1 q2 q3 q4
    exact ⟨(k,a,b',c,s),⟨w0.1,w0.2,w1.1,w1.2,w2.1,w2.2,w3.1,w3.2,Nat.le_trans w4 hs⟩,q0,q1,q2,q3,q4⟩
   obtain ⟨q,hq⟩:=Deep.choose_lt each
   refine ⟨l0,c0,hml,.inr ⟨b,off,fun i=>(q i).1,fun i=>(q i).2.1,fun i=>(q i).2.2.1,fun i=>(q i).2.2.2.1,fun i=>(q i).2.2.2.2,rfl,?_,hq⟩⟩
   rcases Nat.lt_or_ge b W.heap.size with g | g
   ·exact g
   ·have:=(hq 0 hz).2.1
    simp [World.cell?,Array.getElem?_eq_none g] at this
end Go.Proofs.Ytjmkkkfloalliab
