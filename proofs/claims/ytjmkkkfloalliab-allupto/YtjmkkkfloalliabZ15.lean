import Derived.Test.YtjmkkkfloalliabZ14
import Derived.Test.YtjmkkkfloalliabZ01
import Derived.Test.YtjmkkkfloalliabZ10
import Derived.Test.YtjmkkkfloalliabZ06
import Derived.Test.YtjmkkkfloalliabZ07
import Derived.Deep.RegionHeld3
namespace Go.Proofs.Ytjmkkkfloalliab
set_option linter.unusedVariables false
open Go.RowKit
def RFindPost (w:World) (t:ByteArray) (D:Nat→G.Rx) (F id:Nat) (e:Ending) (w':World):Prop :=
 ∃ lo le pp cap,e=.returned (.tuple #[.slice pp (lo:List Nat).length cap,.int .i64 (1 + ((le:List ByteArray).length:Int))])∧FHit (Q.EN t.data.toList D F id) t.size lo∧FEnd t (Q.TN t.data.toList D F id) t.size 0 le∧(∀ ad:Addr,pp=some ad→w.heap.size≤ad.block)∧SlI w' (.slice pp lo.length cap) lo∧Below w.heap.size w w'
theorem rfind_post {x:Tb} {D:Nat→G.Rx} {F id:Nat} {w':World} {pp pe:Option Addr} {ca ce:Nat} {lo:List Nat} {le:List ByteArray} (h:FInv x D F id w' x.t.size x.t.size 0 (.slice pp lo.length ca) (.slice pe le.length ce) lo le):RFindPost x.w0 x.t D F id (.returned (.tuple #[.slice pp lo.length ca,.int .i64 (1 + (le.length:Int))])) w' :=
 ⟨lo,le,pp,ca,rfl,h.hit,h.fe,fun ad e=>h.far ad.block (by rw [e]; rfl),h.slI.1,h.mem.below⟩
set_option maxRecDepth 100000 in
set_option maxHeartbeats 6400000 in
theorem rfind_any (w:World) (bp N F:Nat) (t:ByteArray) (vr:Value) (r:G.Rx) (D:Nat→G.Rx) (hP:BlkT w bp 147 [vr,.int .i64 (N:Int)]) (hN:N≤81) (ht:t.size≤200) (hR:ReAt w F r vr) (hO:G.RxOk N F r) (hI:G.Ids D 0 N F r) (hW:G.Fwd F r) :
    Calls Try.prog 72 #[.pointer (some ⟨bp,0,none⟩),.string t] w fun e w'=>RFindPost w t D F r.id e w':=by
 have HNM:=hid (newMatcher_any w bp N t vr hP hN ht)
 have HP:=hid hP
 obtain ⟨n,hn⟩:∃ n,n=t.size + 1:=⟨_,rfl⟩
 have HALL:Hid (∀ x:Tb,x.t=t→x.N=N→x.w0=w →
     (∀ (w':World) (av:List Nat) (i:Nat),Mem x (VN x.t.data.toList D F) w' av→i<n→Calls Try.prog 88 #[.pointer (some ⟨x.bm,0,none⟩),vr,.int .i64 (i:Int)] w' fun e w''=>∃ h A,e=.returned (.slice (some ⟨h,0,none⟩) n n)∧Bools w'' h A∧Hid (RowIs n A (Q.EN x.t.data.toList D F r.id i))∧Hid (h ∉ av)∧Mem x (VN x.t.data.toList D F) w'' av∧Keep x.S w' w'') ∧
     (∀ (w':World) (av:List Nat) (i:Nat),Mem x (VN x.t.data.toList D F) w' av→i<n→Calls Try.prog 89 #[.pointer (some ⟨x.bm,0,none⟩),vr,.int .i64 (i:Int)] w' fun e w''=>∃ h A,e=.returned (.slice (some ⟨h,0,none⟩) n n)∧Bools w'' h A∧Hid (RowIs n A (Q.TN x.t.data.toList D F r.id i))∧Hid (h ∉ av)∧Mem x (VN x.t.data.toList D F) w'' av∧Keep x.S w' w'')):=by
  rintro x rfl rfl rfl
  refine ⟨fun w' av i hm hi=>?_,fun w' av i hm hi=>?_⟩
  ·refine (end_any ht F r (Nat.le_refl _) hO hI w' av vr i hm hR (by omega)).mono ?_
   rintro e w'' ⟨h,A,h1,h2,h3,h4,h5,h6,h7⟩
   rw [← hn] at h1 h3
   exact ⟨h,A,h1,h2,h3,h5,h6,h7⟩
  ·refine (tail_any ht F r (Nat.le_refl _) hO hI hW w' av vr i hm hR (by omega)).mono ?_
   rintro e w'' ⟨h,A,h1,h2,h3,h4,h5,h6,h7⟩
   rw [← hn] at h1 h3
   exact ⟨h,A,h1,h2,h3,h5,h6,h7⟩
 have HN:=hid hn
 have hn2:n≤201:=by omega
 have hn3:(n:Int)=(t.size:Int) + 1:=by omega
 generalize r.id=id at *
 clear hn hP hR hO hI hW hN
 go_enter Try.func72,Try.ntmps72
 go_wp2_with fail
 refine HNM.out.mono ?_
 rintro e w1 ⟨be,bt,bm,s0,rfl,hNH⟩
 obtain ⟨hM,htop⟩:=mem_new (V:=VN t.data.toList D F) hNH
 obtain ⟨x,hx⟩:∃ x:Tb,x=⟨bm,be,bt,s0,N,t,w⟩:=⟨_,rfl⟩
 have HX0:Hid (FInv x D F id w1 0 0 0 (.slice none 0 0) (.slice none 0 0) [] []):=by
  subst hx
  exact FInv.zero hM htop
 have hxt:x.t=t:=by rw [hx]
 have hxw:x.w0=w:=by rw [hx]
 have hbm:bm=x.bm:=by rw [hx]
 obtain ⟨HE0,HT0⟩:=HALL.out x hxt (by rw [hx]) hxw
 have HE:=hid HE0
 have HT:=hid HT0
 have HXT:=hid hxt
 have HXW:=hid hxw
 rw [hbm]
 clear hx hxt hxw hbm hNH hM htop HNM HALL HE0 HT0
 generalize x.bm=bm at *
 go_wp2_with fail
 go_loopw [7,8,9] (fun vo ve iv wX=>∃ (k:Nat) (lo:List Nat) (le:List ByteArray),k<n∧iv=.int .i64 (k:Int)∧Hid (FInv x D F id wX k k 0 vo ve lo le)) (fun _ _ iv _=>n - (intOf iv).toNat)
 case atStart=>exact ⟨0,[],[],by omega,rfl,HX0⟩
 case round =>
  clear HX0
  obtain ⟨k,lo,le,hkn,rfl,HI⟩:=hrel
  obtain ⟨⟨po,co,rfl⟩,⟨pe,ce,rfl⟩⟩:=HI.out.form
  have hk2:k≤200:=by omega
  have hll:lo.length≤201:=by have:=HI.out.hit.len; omega
  have hle:le.length≤100000:=HI.out.bound hk2 (by omega)
  by_cases hlt:k<t.size
  ·have q1:(k:Int)<(t.size:Int):=by omega
   have p0:wr.cell? ⟨bp,0,none⟩=some vr:=(HI.out.mem.blk (HXW.out ▸ HP.out)).cell 0
   go_wp2_with fail
   refine (HE.out _ _ k HI.out.mem hkn).mono ?_
   rintro e w2 ⟨h,A,rfl,hA,HR,HH,hM2,hK2⟩
   have HI2:=hid (HI.out.keepS hM2 hK2)
   have HA:=hid hA
   clear HI hM2 hK2 hA p0
   go_wp2_with fail
   go_loop [11,12] (fun hv jv=>∃ (j:Nat) (b:Bool),k + 1≤j∧j≤n∧jv=.int .i64 (j:Int)∧hv=.bool b∧Hid (b=true ↔ ∃ i,k<i∧i<j∧A.getD i false=true)) (fun _ jv=>n - (intOf jv).toNat)
   case atStart=>exact ⟨k + 1,false,by omega,by omega,by go_num,rfl,⟨fun h=>(by cases h),fun ⟨i,h1,h2,_⟩=>(by omega)⟩⟩
   case round =>
    obtain ⟨j,b,hj1,hj2,rfl,rfl,HB⟩:=hrel
    by_cases hjn:j<n
    ·have q2:(j:Int)≤(t.size:Int):=by omega
     cases b with
     | true =>
      have HB':Hid (true=true ↔ ∃ i,k<i∧i<j + 1∧A.getD i false=true):=⟨fun _=>by
       obtain ⟨i,h1,h2,h3⟩:=HB.out.1 rfl
       exact ⟨i,h1,by omega,h3⟩,fun _=>rfl⟩
      go_wp2
      go_round
      case rel=>exact ⟨j + 1,true,by omega,by omega,by go_num,rfl,HB'⟩
      case measure=>simp [intOf]; omega
     | false =>
      obtain ⟨c1,_⟩:=HA.out.at j (by rw [HR.out.1]; exact hjn)
      have HB':Hid (A.getD j false=true ↔ ∃ i,k<i∧i<j + 1∧A.getD i false=true):=⟨fun hh=>⟨j,by omega,by omega,hh⟩,fun ⟨i,h1,h2,h3⟩=>by
       rcases Nat.lt_or_ge i j with g | g
       ·have:=HB.out.2 ⟨i,h1,g,h3⟩; cases this
       ·have:i=j:=by omega
        subst this; exact h3⟩
      have i0:(0:Int)≤(j:Int):=by omega
      have i1:(j:Int)<(n:Int):=by omega
      generalize A.getD j false=y at c1 HB'
      go_wp2
      go_round
      case rel=>exact ⟨j + 1,y,by omega,by omega,by go_num,rfl,HB'⟩
      case measure=>simp [intOf]; omega
    ·obtain rfl:j=n:=by omega
     have q2:¬ (j:Int)≤(t.size:Int):=by omega
     have HHIT:Hid (b=true ↔ ∃ i,k<i∧Q.EN x.t.data.toList D F id k i):=by
      constructor
      ·intro hb
       obtain ⟨i,h1,h2,h3⟩:=HB.out.1 hb
       exact ⟨i,h1,(HR.out.2 i h2).1 h3⟩
      ·rintro ⟨i,h1,h2⟩
       have hi2:i≤x.t.size:=h2.2.1
       have hi4:i<j:=by rw [HXT.out] at hi2; omega
       exact HB.out.2 ⟨i,h1,hi4,(HR.out.2 i hi4).2 h2⟩
     clear HB
     cases b with
     | false =>
      have HI3:=hid (HI2.out.no (fun h=>by have:=HHIT.out.2 h; cases this))
      clear HI2 HHIT HA HR HH
      generalize w2=w3 at *
      generalize hln:lo.length=ln at *
      have p0:w3.cell? ⟨bp,0,none⟩=some vr:=(HI3.out.mem.blk (HXW.out ▸ HP.out)).cell 0
      go_wp2_with fail
      refine (HT.out _ _ k HI3.out.mem hkn).mono ?_
      rintro e w4 ⟨h2,A2,rfl,hA2,HR2,HH2,hM4,hK4⟩
      have HI4:=hid (HI3.out.keepS hM4 hK4).start
      have HA2:=hid hA2
      clear HI3 hM4 hK4 hA2 p0
      go_wp2_with fail
      go_loopw [8,14] (fun ve jv wX=>∃ (i:Nat) (le:List ByteArray),k + 1≤i∧i≤j∧jv=.int .i64 (i:Int)∧Hid (FInv x D F id wX (k + 1) k i (.slice po ln co) ve lo le)∧Hid (Bools wX h2 A2)∧Hid (h2 ∉ ve.ownBlock.toList)) (fun _ jv _=>j - (intOf jv).toNat)
      case atStart=>exact ⟨k + 1,le,by omega,by omega,by go_num,HI4,HA2,fun hm=>HH2.out (List.mem_append_right _ hm)⟩
      case round =>
       clear HI4 HA2 HH2 hle
       obtain ⟨i,le,hj1,hj2,rfl,HI5,HB5,HH5⟩:=hrel
       obtain ⟨_,⟨pe,ce,rfl⟩⟩:=HI5.out.form
       have hle:le.length≤100000:=HI5.out.bound hk2 (by omega)
       by_cases hjn:i<j
       ·have q3:(i:Int)≤(t.size:Int):=by omega
        obtain ⟨c1,_⟩:=HB5.out.at i (by rw [HR2.out.1]; exact hjn)
        have HTT:Hid (A2.getD i false=true ↔ Q.TN x.t.data.toList D F id k i):=HR2.out.2 i hjn
        have i0:(0:Int)≤(i:Int):=by omega
        have i1:(i:Int)<(j:Int):=by omega
        have i2:(0:Int)≤(k:Int):=by omega
        have i3:(k:Int)≤(i:Int):=by omega
        generalize A2.getD i false=y at c1 HTT
        cases y with
        | false =>
         have HI6:=hid (HI5.out.skip (fun h=>by have:=HTT.out.2 h; cases this))
         go_wp2
         go_roundw
         case rel=>exact ⟨i + 1,le,by omega,by omega,by go_num,HI6,HB5,HH5⟩
         case measure=>simp [intOf]; omega
        | true =>
         have HTN:Hid (Q.TN x.t.data.toList D F id k i):=HTT.out.1 rfl
         have HAD:Hid (Calls Try.prog 90 #[.slice pe le.length ce,.string (t.extract k i)] wr fun e w'=>∃ ve' le',e=.returned ve'∧Hid (FInv x D F id w' (k + 1) k (i + 1) (.slice po ln co) ve' lo le')∧Hid (Bools w' h2 A2)∧Hid (h2 ∉ ve'.ownBlock.toList)):=by
          refine (radd1_any wr x.w0.heap.size (.slice pe le.length ce) le (t.extract k i) HI5.out.owe HI5.out.fe.up hle HI5.out.mem.below.size).mono ?_
          intro e w' hp
          have hxt:=HXT.out
          subst hxt
          obtain ⟨ve',le',h1,h3,h4,h5⟩:=HI5.out.put HTN.out (by omega) (by omega) hp
          have hlt:=HB5.out.blk.lt
          refine ⟨ve',le',h1,h3,HB5.out.keep h4 HH5.out,fun hm=>?_⟩
          rcases h5 h2 (by simpa using hm) with g | g
          ·exact HH5.out (by simp [g])
          ·omega
         clear HI5 HTT HTN
         go_wp2_with fail
         refine HAD.out.mono ?_
         rintro e w5 ⟨ve5,le5,rfl,HI6,HB6,HH6⟩
         clear HAD HB5 HH5 c1
         go_wp2
         go_roundw
         case rel=>exact ⟨i + 1,le5,by omega,by omega,by go_num,HI6,HB6,HH6⟩
         case measure=>simp [intOf]; omega
       ·obtain rfl:i=j:=by omega
        have q3:¬ (i:Int)≤(t.size:Int):=by omega
        have HI7:Hid (FInv x D F id wr (k + 1) (k + 1) 0 (.slice po ln co) (.slice pe le.length ce) lo le):=by
         have h:=HI5.out
         rw [HN.out,← HXT.out] at h
         exact h.next (by rw [HXT.out]; omega)
        clear HI5 HB5 HH5
        go_wp2
        go_roundw
        case rel=>exact ⟨k + 1,lo,le,by omega,by go_num,HI7⟩
        case measure=>simp [intOf]; omega
     | true =>
      have HYES:Hid (∃ i,k<i∧Q.EN x.t.data.toList D F id k i):=HHIT.out.1 rfl
      obtain ⟨j0,hj0,hy0,hy1,hy2⟩:=info_parts Try.infoInt8
      have HML:Hid (lo.length + 1≤maxLen):=by show _≤_; unfold maxLen; omega
      have HONE:Hid (∀ v ∈ [Value.int .i64 (k:Int)],v.oneCell'=true):=by
       intro v hv
       rw [List.mem_singleton] at hv
       subst hv; rfl
      have HOW:=hid HI2.out.own
      have HBW:Hid (x.w0.heap.size≤w2.heap.size):=HI2.out.mem.below.size
      go_upto_region 15 with ((at_builtin; refine wpList_append_lies _ rfl _ _ 40 rfl x.w0.heap.size 3 j0 _ 1 8 Try.underlying40 hj0 hy0 hy1 hy2 rfl (by omega) (.slice po lo.length co) lo.length (intsV lo) rfl (HOW.out.alloc _) ⟨w2.heap.size,0,none⟩ 1 1 [.int .i64 (k:Int)] rfl rfl (World.news_of_block (cs:=#[.int .i64 (k:Int)]) (t:=3) (fr:=(0,0)) (heap_alloc_new w2 _)) HONE.out (by omega) HML.out (by omega) (by have:=HBW.out; simp; omega) (w2.heap.size + 1) (by simp) ?_; intro gg cap w3 hown1 hgrow hat hlt2))
      have HI3:Hid (FInv x D F id w3 (k + 1) k 0 (.slice (some ⟨gg,0,none⟩) (lo.length + 1) cap) (.slice pe le.length ce) (lo ++ [k]) le):=HI2.out.yes HYES.out hown1 hgrow hat hlt2
      clear HI2 HHIT HA HR HH hown1 hgrow hat hlt2 HOW HML HONE hj0 hy0 hy1 hy2
      generalize lo.length + 1=ln at *
      generalize lo ++ [k]=lo3 at *
      have p0:w3.cell? ⟨bp,0,none⟩=some vr:=(HI3.out.mem.blk (HXW.out ▸ HP.out)).cell 0
      go_wp2_with fail
      refine (HT.out _ _ k HI3.out.mem hkn).mono ?_
      rintro e w4 ⟨h2,A2,rfl,hA2,HR2,HH2,hM4,hK4⟩
      have HI4:=hid (HI3.out.keepS hM4 hK4).start
      have HA2:=hid hA2
      clear HI3 hM4 hK4 hA2 p0
      go_wp2_with fail
      go_loopw [8,14] (fun ve jv wX=>∃ (i:Nat) (le:List ByteArray),k + 1≤i∧i≤j∧jv=.int .i64 (i:Int)∧Hid (FInv x D F id wX (k + 1) k i (.slice (some ⟨gg,0,none⟩) ln cap) ve lo3 le)∧Hid (Bools wX h2 A2)∧Hid (h2 ∉ ve.ownBlock.toList)) (fun _ jv _=>j - (intOf jv).toNat)
      case atStart=>exact ⟨k + 1,le,by omega,by omega,by go_num,HI4,HA2,fun hm=>HH2.out (List.mem_append_right _ hm)⟩
      case round =>
       clear HI4 HA2 HH2 hle
       obtain ⟨i,le,hj1,hj2,rfl,HI5,HB5,HH5⟩:=hrel
       obtain ⟨_,⟨pe,ce,rfl⟩⟩:=HI5.out.form
       have hle:le.length≤100000:=HI5.out.bound hk2 (by omega)
       by_cases hjn:i<j
       ·have q3:(i:Int)≤(t.size:Int):=by omega
        obtain ⟨c1,_⟩:=HB5.out.at i (by rw [HR2.out.1]; exact hjn)
        have HTT:Hid (A2.getD i false=true ↔ Q.TN x.t.data.toList D F id k i):=HR2.out.2 i hjn
        have i0:(0:Int)≤(i:Int):=by omega
        have i1:(i:Int)<(j:Int):=by omega
        have i2:(0:Int)≤(k:Int):=by omega
        have i3:(k:Int)≤(i:Int):=by omega
        generalize A2.getD i false=y at c1 HTT
        cases y with
        | false =>
         have HI6:=hid (HI5.out.skip (fun h=>by have:=HTT.out.2 h; cases this))
         go_wp2
         go_roundw
         case rel=>exact ⟨i + 1,le,by omega,by omega,by go_num,HI6,HB5,HH5⟩
         case measure=>simp [intOf]; omega
        | true =>
         have HTN:Hid (Q.TN x.t.data.toList D F id k i):=HTT.out.1 rfl
         have HAD:Hid (Calls Try.prog 90 #[.slice pe le.length ce,.string (t.extract k i)] wr fun e w'=>∃ ve' le',e=.returned ve'∧Hid (FInv x D F id w' (k + 1) k (i + 1) (.slice (some ⟨gg,0,none⟩) ln cap) ve' lo3 le')∧Hid (Bools w' h2 A2)∧Hid (h2 ∉ ve'.ownBlock.toList)):=by
          refine (radd1_any wr x.w0.heap.size (.slice pe le.length ce) le (t.extract k i) HI5.out.owe HI5.out.fe.up hle HI5.out.mem.below.size).mono ?_
          intro e w' hp
          have hxt:=HXT.out
          subst hxt
          obtain ⟨ve',le',h1,h3,h4,h5⟩:=HI5.out.put HTN.out (by omega) (by omega) hp
          have hlt:=HB5.out.blk.lt
          refine ⟨ve',le',h1,h3,HB5.out.keep h4 HH5.out,fun hm=>?_⟩
          rcases h5 h2 (by simpa using hm) with g | g
          ·exact HH5.out (by simp [g])
          ·omega
         clear HI5 HTT HTN
         go_wp2_with fail
         refine HAD.out.mono ?_
         rintro e w5 ⟨ve5,le5,rfl,HI6,HB6,HH6⟩
         clear HAD HB5 HH5 c1
         go_wp2
         go_roundw
         case rel=>exact ⟨i + 1,le5,by omega,by omega,by go_num,HI6,HB6,HH6⟩
         case measure=>simp [intOf]; omega
       ·obtain rfl:i=j:=by omega
        have q3:¬ (i:Int)≤(t.size:Int):=by omega
        have HI7:Hid (FInv x D F id wr (k + 1) (k + 1) 0 (.slice (some ⟨gg,0,none⟩) ln cap) (.slice pe le.length ce) lo3 le):=by
         have h:=HI5.out
         rw [HN.out,← HXT.out] at h
         exact h.next (by rw [HXT.out]; omega)
        clear HI5 HB5 HH5
        go_wp2
        go_roundw
        case rel=>exact ⟨k + 1,lo3,le,by omega,by go_num,HI7⟩
        case measure=>simp [intOf]; omega
  ·obtain rfl:k=t.size:=by omega
   have q1:¬ ((t.size:Nat):Int)<(t.size:Int):=by omega
   have HD:Hid (RFindPost w t D F id (.returned (.tuple #[.slice po lo.length co,.int .i64 (1 + (le.length:Int))])) wr):=by
    have h1:=HXT.out
    have h2:=HXW.out
    subst h1; subst h2
    exact rfind_post HI.out
   go_wp2
   go_ret2
   exact HD.out
theorem capF_le (n:Nat):G.capF n≤49:=by unfold G.capF; split <;> omega
theorem placesF_le:∀ (f:Nat) (r:G.Rx),G.placesF f r≤49
 | 0,_=>by unfold G.placesF; omega
 | f + 1,r=>by
  unfold G.placesF
  split
  ·omega
  ·split
   ·omega
   ·split
    ·exact capF_le _
    ·split
     ·exact capF_le _
     ·omega
theorem places_mul (n K:Nat) (h1:n≤49) (h2:K≤100):0≤(n:Int) * (K:Int)∧(n:Int) * (K:Int)≤4900:=by
 have:=Nat.mul_le_mul h1 h2
 rw [← Int.natCast_mul]
 omega
set_option maxRecDepth 100000 in
set_option maxHeartbeats 3200000 in
theorem places_any:∀ (f N F:Nat) (r:G.Rx) (v:Value) (w:World),ReAt w f r v→G.RxOk N F r→Calls Try.prog 86 #[v] w fun e w'=>e=.returned (.int .i64 (G.placesF f r:Int))∧∃ q,w'=w.drewN q
 | 0,_,_,_,_,_,h,_=>h.elim
 | f + 1,N,0,_,_,_,_,h=>h.elim
 | f + 1,N,F + 1,r,v,w,hR,hO=>by
  have IH:Hid (∀ (N F:Nat) (r:G.Rx) (v:Value) (w:World),ReAt w f r v→G.RxOk N F r→Calls Try.prog 86 #[v] w fun e w'=>e=.returned (.int .i64 (G.placesF f r:Int))∧∃ q,w'=w.drewN q):=places_any f
  have HNV:Hid (Calls Try.prog 101 #[v] w fun e w'=>e=.returned (.bool (G.neverF (f + 1) r))∧∃ q,w'=w.drewN q):=never_any (f + 1) N (F + 1) r v w hR hO
  have HP:Hid (G.placesF (f + 1) r=if G.neverF (f + 1) r then 0 else if r.kind=1 then 1
   else if r.kind=2∨r.kind=3 then G.capF (G.placesF f (r.subs.getD 0 ⟨0,[],[],0,0,0⟩) + G.placesF f (r.subs.getD 1 ⟨0,[],[],0,0,0⟩))
   else if r.kind=4 then G.capF (G.placesF f (r.subs.getD 0 ⟨0,[],[],0,0,0⟩) * (if r.hi<0 then r.lo + 1 else r.hi).toNat)
   else 0):=by show _=_; rw [G.placesF]
  obtain ⟨b,vin,va,vb,rfl,hB,hI,hA,hB2⟩:=hR
  have HC:Hid (∀ q,(w.drewN q).cell? ⟨b,0,none⟩=some (.int .i64 (r.kind:Int))∧(w.drewN q).cell? ⟨b,2,none⟩=some va∧(w.drewN q).cell? ⟨b,3,none⟩=some vb∧(w.drewN q).cell? ⟨b,4,none⟩=some (.int .i64 r.lo)∧(w.drewN q).cell? ⟨b,5,none⟩=some (.int .i64 r.hi)):=fun q=>⟨hB.cell 0,hB.cell 2,hB.cell 3,hB.cell 4,hB.cell 5⟩
  obtain ⟨_,hO⟩:=hO
  generalize G.neverF (f + 1) r=nv at HNV HP
  have HO:Hid (r.kind=0∨(r.kind=1∧r.ins.length=256)∨((r.kind=2∨r.kind=3)∧∃ a b,r.subs=[a,b]∧G.RxOk N F a∧G.RxOk N F b)∨(r.kind=4∧∃ a,r.subs=[a]∧G.RxOk N F a∧0≤r.lo∧r.lo≤99 ∧ -1≤r.hi∧r.hi≤99)):=hO
  have HA:Hid (SubAt (ReAt w f) r.subs[0]? va):=hA
  have HB:Hid (SubAt (ReAt w f) r.subs[1]? vb):=hB2
  clear hO hA hB2 hI hB
  go_enter Try.func86,Try.ntmps86
  go_wp2_with fail
  refine HNV.out.mono ?_
  rintro e w1 ⟨rfl,q1,hw1⟩
  have HW1:Hid (w1=w.drewN q1):=hw1
  have HC1:=HC.out q1
  rw [← hw1] at HC1
  obtain ⟨c0,c2,c3,c4,c5⟩:=HC1
  clear hw1
  have HQ:Hid (∀ (w2:World) (n:Nat),w2=w1.drewN n→∃ q,w2=w.drewN q):=fun w2 n e=>⟨q1 + n,by rw [e,HW1.out]; exact drewN_add w q1 n⟩
  cases nv with
  | true =>
   have HP2:Hid (G.placesF (f + 1) r=0):=HP
   clear HP HC c0 c2 c3 c4 c5
   go_wp2
   go_ret
   rw [HP2.out]
   exact ⟨rfl,HQ.out _ 0 rfl⟩
  | false =>
   have HP1:Hid (G.placesF (f + 1) r=if r.kind=1 then 1
    else if r.kind=2∨r.kind=3 then G.capF (G.placesF f (r.subs.getD 0 ⟨0,[],[],0,0,0⟩) + G.placesF f (r.subs.getD 1 ⟨0,[],[],0,0,0⟩))
    else if r.kind=4 then G.capF (G.placesF f (r.subs.getD 0 ⟨0,[],[],0,0,0⟩) * (if r.hi<0 then r.lo + 1 else r.hi).toNat)
    else 0):=HP
   clear HP
   rcases HO.out with h0 | ⟨h1,hl⟩ | ⟨h23,a,a2,es,o1,o2⟩ | ⟨h4,a,es,o1,l1,l2,l3,l4⟩
   ·have HP2:Hid (G.placesF (f + 1) r=0):=by show _=_; rw [HP1.out,if_neg (by omega),if_neg (by omega),if_neg (by omega)]
    rw [h0] at c0
    clear HP1 HC c2 c3 c4 c5 h0 HO
    go_wp2
    go_ret
    rw [HP2.out]
    exact ⟨rfl,HQ.out _ 0 rfl⟩
   ·have HP2:Hid (G.placesF (f + 1) r=1):=by show _=_; rw [HP1.out,if_pos h1]
    rw [h1] at c0
    clear HP1 HC c2 c3 c4 c5 h1 hl HO
    go_wp2
    go_ret
    rw [HP2.out]
    exact ⟨rfl,HQ.out _ 0 rfl⟩
   ·have hA':ReAt w f a va:=by
       rcases HA.out with ⟨e,_⟩ | ⟨x,e,h⟩
       ·rw [es] at e; cases e
       ·rw [es] at e; cases e; exact h
    have hB':ReAt w f a2 vb:=by
     rcases HB.out with ⟨e,_⟩ | ⟨x,e,h⟩
     ·rw [es] at e; cases e
     ·rw [es] at e; cases e; exact h
    obtain ⟨pa,rfl⟩:=hA'.ptr
    obtain ⟨pb,rfl⟩:=hB'.ptr
    have HA':Hid (ReAt w1 f a (.pointer (some ⟨pa,0,none⟩))):=by rw [HW1.out]; exact ReAt.drewN q1 hA'
    have HB':Hid (ReAt w1 f a2 (.pointer (some ⟨pb,0,none⟩))):=by rw [HW1.out]; exact ReAt.drewN q1 hB'
    have HO1:Hid (G.RxOk N F a):=o1
    have HO2:Hid (G.RxOk N F a2):=o2
    have HP2:Hid (G.placesF (f + 1) r=G.capF (G.placesF f a + G.placesF f a2)):=by show _=_; rw [HP1.out,if_neg (by omega),if_pos h23,es]; rfl
    have y1:=placesF_le f a
    have y2:=placesF_le f a2
    have KK:Hid (r.kind=2∨r.kind=3):=h23
    clear HP1 HC c4 c5 HA HB hA' hB' o1 o2 HO es h23 HNV
    have GO:∀ kd:Nat,(kd=2∨kd=3)→r.kind=kd→True:=fun _ _ _=>trivial
    clear GO
    rcases KK.out with hk | hk
    ·rw [hk] at c0
     clear hk KK
     go_wp2_with fail
     refine (IH.out N F a _ w1 HA'.out HO1.out).mono ?_
     rintro e w2 ⟨rfl,q2,hw2⟩
     have HB2:Hid (ReAt w2 f a2 (.pointer (some ⟨pb,0,none⟩))):=by rw [hw2]; exact ReAt.drewN q2 HB'.out
     have d3:w2.cell? ⟨b,3,none⟩=some (.pointer (some ⟨pb,0,none⟩)):=by rw [hw2]; exact c3
     have HW2:Hid (w2=w1.drewN q2):=hw2
     clear hw2 c0 c2 c3
     generalize G.placesF f a=n1 at *
     go_wp2_with fail
     refine (IH.out N F a2 _ w2 HB2.out HO2.out).mono ?_
     rintro e w3 ⟨rfl,q3,hw3⟩
     generalize G.placesF f a2=n2 at *
     have HW3:Hid (w3=w1.drewN (q2 + q3)):=by show _=_; rw [hw3,HW2.out]; exact drewN_add w1 q2 q3
     clear hw3 d3
     unfold G.capF at HP2
     by_cases hc:48<n1 + n2
     ·have HP3:Hid (G.placesF (f + 1) r=49):=by show _=_; rw [HP2.out,if_pos hc]
      go_wp2
      go_ret
      rw [HP3.out]
      exact ⟨rfl,HQ.out _ _ HW3.out⟩
     ·have HP3:Hid (G.placesF (f + 1) r=n1 + n2):=by show _=_; rw [HP2.out,if_neg hc]
      go_wp2
      go_ret
      rw [HP3.out]
      exact ⟨rfl,HQ.out _ _ HW3.out⟩
    ·rw [hk] at c0
     clear hk KK
     go_wp2_with fail
     refine (IH.out N F a _ w1 HA'.out HO1.out).mono ?_
     rintro e w2 ⟨rfl,q2,hw2⟩
     have HB2:Hid (ReAt w2 f a2 (.pointer (some ⟨pb,0,none⟩))):=by rw [hw2]; exact ReAt.drewN q2 HB'.out
     have d3:w2.cell? ⟨b,3,none⟩=some (.pointer (some ⟨pb,0,none⟩)):=by rw [hw2]; exact c3
     have HW2:Hid (w2=w1.drewN q2):=hw2
     clear hw2 c0 c2 c3
     generalize G.placesF f a=n1 at *
     go_wp2_with fail
     refine (IH.out N F a2 _ w2 HB2.out HO2.out).mono ?_
     rintro e w3 ⟨rfl,q3,hw3⟩
     generalize G.placesF f a2=n2 at *
     have HW3:Hid (w3=w1.drewN (q2 + q3)):=by show _=_; rw [hw3,HW2.out]; exact drewN_add w1 q2 q3
     clear hw3 d3
     unfold G.capF at HP2
     by_cases hc:48<n1 + n2
     ·have HP3:Hid (G.placesF (f + 1) r=49):=by show _=_; rw [HP2.out,if_pos hc]
      go_wp2
      go_ret
      rw [HP3.out]
      exact ⟨rfl,HQ.out _ _ HW3.out⟩
     ·have HP3:Hid (G.placesF (f + 1) r=n1 + n2):=by show _=_; rw [HP2.out,if_neg hc]
      go_wp2
      go_ret
      rw [HP3.out]
      exact ⟨rfl,HQ.out _ _ HW3.out⟩
   ·have hA':ReAt w f a va:=by
       rcases HA.out with ⟨e,_⟩ | ⟨x,e,h⟩
       ·rw [es] at e; cases e
       ·rw [es] at e; cases e; exact h
    obtain ⟨pa,rfl⟩:=hA'.ptr
    have HA':Hid (ReAt w1 f a (.pointer (some ⟨pa,0,none⟩))):=by rw [HW1.out]; exact ReAt.drewN q1 hA'
    have HO1:Hid (G.RxOk N F a):=o1
    have HP2:Hid (G.placesF (f + 1) r=G.capF (G.placesF f a * (if r.hi<0 then r.lo + 1 else r.hi).toNat)):=by show _=_; rw [HP1.out,if_neg (by omega),if_neg (by omega),if_pos h4,es]; rfl
    have y1:=placesF_le f a
    rw [h4] at c0
    clear HP1 HC c3 HA HB hA' o1 HO es h4 HNV
    generalize r.lo=lo at *
    generalize r.hi=hi at *
    by_cases hneg:hi<0
    ·obtain ⟨K,hK,HKV⟩:∃ K:Nat,K≤100∧Hid ((K:Int)=lo + 1):=⟨(lo + 1).toNat,by omega,by show _=_; omega⟩
     have HP3:Hid (G.placesF (f + 1) r=G.capF (G.placesF f a * K)):=by
      show _=_
      rw [HP2.out,if_pos hneg,← HKV.out]; rfl
     clear HP2
     go_wp2_with fail
     refine (IH.out N F a _ w1 HA'.out HO1.out).mono ?_
     rintro e w2 ⟨rfl,q2,hw2⟩
     have HW2:Hid (w2=w1.drewN q2):=hw2
     generalize G.placesF f a=n1 at *
     obtain ⟨m1,m2⟩:=(show 0≤(n1:Int) * (lo + 1)∧(n1:Int) * (lo + 1)≤4900 by rw [← HKV.out]; exact places_mul n1 K y1 hK)
     clear hw2 c0 c2 c4 c5
     unfold G.capF at HP3
     by_cases hc:48<(n1:Int) * (lo + 1)
     ·have HP4:Hid (G.placesF (f + 1) r=49):=by
         have e:((n1 * K:Nat):Int)=(n1:Int) * (lo + 1):=by rw [Int.natCast_mul,HKV.out]
         show _=_
         rw [HP3.out,if_pos (by omega)]
      go_wp2
      go_ret
      rw [HP4.out]
      exact ⟨rfl,HQ.out _ _ HW2.out⟩
     ·have HP4:Hid ((G.placesF (f + 1) r:Int)=(n1:Int) * (lo + 1)):=by
         have e:((n1 * K:Nat):Int)=(n1:Int) * (lo + 1):=by rw [Int.natCast_mul,HKV.out]
         show _=_
         rw [HP3.out,if_neg (by omega)]
         exact e
      go_wp2
      go_ret
      rw [HP4.out]
      exact ⟨rfl,HQ.out _ _ HW2.out⟩
    ·obtain ⟨K,hK,HKV⟩:∃ K:Nat,K≤100∧Hid ((K:Int)=hi):=⟨hi.toNat,by omega,by show _=_; omega⟩
     have HP3:Hid (G.placesF (f + 1) r=G.capF (G.placesF f a * K)):=by
      show _=_
      rw [HP2.out,if_neg hneg,← HKV.out]; rfl
     clear HP2
     go_wp2_with fail
     refine (IH.out N F a _ w1 HA'.out HO1.out).mono ?_
     rintro e w2 ⟨rfl,q2,hw2⟩
     have HW2:Hid (w2=w1.drewN q2):=hw2
     generalize G.placesF f a=n1 at *
     obtain ⟨m1,m2⟩:=(show 0≤(n1:Int) * hi∧(n1:Int) * hi≤4900 by rw [← HKV.out]; exact places_mul n1 K y1 hK)
     clear hw2 c0 c2 c4 c5
     unfold G.capF at HP3
     by_cases hc:48<(n1:Int) * (hi)
     ·have HP4:Hid (G.placesF (f + 1) r=49):=by
         have e:((n1 * K:Nat):Int)=(n1:Int) * (hi):=by rw [Int.natCast_mul,HKV.out]
         show _=_
         rw [HP3.out,if_pos (by omega)]
      go_wp2
      go_ret
      rw [HP4.out]
      exact ⟨rfl,HQ.out _ _ HW2.out⟩
     ·have HP4:Hid ((G.placesF (f + 1) r:Int)=(n1:Int) * (hi)):=by
         have e:((n1 * K:Nat):Int)=(n1:Int) * (hi):=by rw [Int.natCast_mul,HKV.out]
         show _=_
         rw [HP3.out,if_neg (by omega)]
         exact e
      go_wp2
      go_ret
      rw [HP4.out]
      exact ⟨rfl,HQ.out _ _ HW2.out⟩
theorem lv_pos {f:Nat} {τ:G.Tr} (h:G.Wf f τ) (hn:G.isNt τ.sym=false):G.lv f τ=1:=by
 cases f with
 | zero=>exact h.elim
 | succ f=>unfold G.lv; rw [hn]; rfl
theorem lv_nt {f:Nat} {τ:G.Tr} (hn:G.isNt τ.sym=true):G.lv (f + 1) τ=(τ.kids.map (G.lv f)).sum:=by unfold G.lv; rw [hn]; rfl
theorem Wf.Q0 {f:Nat} {q:G.Tr} (h:G.Wf (f + 1) q) (hs:q.sym=81) (hne:¬ q.alt=0):G.lv f (G.kid q 0)=1∧2≤q.kids.length:=by
 obtain ⟨l,h2,h3,h4⟩:=Wf.nt h (by rw [hs]; rfl)
 rw [hs] at h2
 have hl:=kids_len h3
 have h2':([[],[42,81],[43,81],[63,81],[123,78,125,81],[123,78,44,125,81],[123,78,44,78,125,81]]:List (List UInt8))[q.alt]?=some l:=h2
 have hcase:2≤l.length∧G.isNt (l.getD 0 0)=false:=by
  generalize q.alt=a at h2' hne
  match a,h2' with
  | 0,h=>exact (hne rfl).elim
  | 1,h=>cases h; exact ⟨by decide,by decide⟩
  | 2,h=>cases h; exact ⟨by decide,by decide⟩
  | 3,h=>cases h; exact ⟨by decide,by decide⟩
  | 4,h=>cases h; exact ⟨by decide,by decide⟩
  | 5,h=>cases h; exact ⟨by decide,by decide⟩
  | 6,h=>cases h; exact ⟨by decide,by decide⟩
  | n + 7,h=>simp at h
 obtain ⟨m,e⟩:=kid_sym h3 0 (by omega)
 exact ⟨lv_pos (h4 _ m) (by rw [e]; exact hcase.2),by omega⟩
theorem timesF_bd:∀ (f:Nat) (a:G.Rx) (q:G.Tr) (st:G.Mk),G.Wf f q→q.sym=81→(G.timesF f a q st).2.n≤st.n + G.lv f q
 | 0,_,_,_,h,_=>h.elim
 | f + 1,a,q,st,hW,hs=>by
  unfold G.timesF
  split
  ·exact Nat.le_add_right _ _
  ·next hne =>
   obtain ⟨z1,z2⟩:=Wf.Q0 hW hs hne
   rcases Wf.Q hW hs with h0 | ⟨_,h1,h2,_⟩
   ·exact (hne h0).elim
   ·have ih:=timesF_bd f ⟨4,[],[a],G.loOf q,G.hiOf q,st.n⟩ (G.lastKid q) ⟨st.n + 1,G.backOf q st.back,st.depth⟩ h2 h1
    have hsum:=G.sum_ends (G.lv f) q.kids z2
    rw [lv_nt (by rw [hs]; rfl)]
    have e0:(q.kids[0]?).getD G.nilTr=G.kid q 0:=rfl
    have e1:(q.kids[q.kids.length - 1]?).getD G.nilTr=G.lastKid q:=rfl
    rw [e0,e1,z1] at hsum
    have ih':(G.timesF f ⟨4,[],[a],G.loOf q,G.hiOf q,st.n⟩ (G.lastKid q) ⟨st.n + 1,G.backOf q st.back,st.depth⟩).2.n≤st.n + 1 + G.lv f (G.lastKid q):=ih
    omega
theorem exF_bd:∀ (f:Nat) (τ:G.Tr) (deep:Nat) (st:G.Mk),G.Wf f τ→((τ.sym=65∨τ.sym=67)→(G.exF f τ deep st).2.n≤st.n + 2 * G.lv f τ + 1)∧((τ.sym=82∨τ.sym=84)→(G.exF f τ deep st).2.n + 1≤st.n + 2 * G.lv f τ)
 | 0,_,_,_,h=>h.elim
 | f + 1,τ,deep,st,hW=>by
  constructor
  ·rintro (hs | hs)
   ·obtain ⟨k1,k2,hcase⟩:=Wf.A hW hs
    rw [lv_nt (by rw [hs]; rfl)]
    rcases hcase with ⟨ha,hl⟩ | ⟨ha,hl,k3,k4⟩
    ·rw [G.exF,if_pos hs,if_pos ha,G.kids1 _ hl]
     exact (exF_bd f (G.kid τ 0) deep st k2).1 (.inr k1)
    ·rw [G.exF,if_pos hs,if_neg (by omega),G.kids3 _ hl]
     have i1:=(exF_bd f (G.kid τ 0) deep st k2).1 (.inr k1)
     have i2:=(exF_bd f (G.kid τ 2) deep (G.exF f (G.kid τ 0) deep st).2 k4).1 (.inl k3)
     have i3:G.lv f (G.kid τ 1)=1:=by
      obtain ⟨l,h2,h3,h4⟩:=Wf.nt hW (by rw [hs]; rfl)
      rw [hs,ha] at h2
      cases h2
      obtain ⟨m,e⟩:=kid_sym h3 1 (by decide)
      exact lv_pos (h4 _ m) (by rw [e]; decide)
     rw [i3]
     show (G.exF f (G.kid τ 2) deep (G.exF f (G.kid τ 0) deep st).2).2.n + 1≤_
     omega
   ·rw [lv_nt (by rw [hs]; rfl)]
    rcases Wf.C hW hs with ⟨ha,hl⟩ | ⟨ha,hl,k1,k2,k3,k4⟩
    ·rw [G.exF,if_neg (by rw [hs]; decide),if_pos hs,if_pos ha]
     show st.n + 1≤_
     omega
    ·rw [G.exF,if_neg (by rw [hs]; decide),if_pos hs,if_neg (by omega),G.kids2 _ hl]
     have i1:=(exF_bd f (G.kid τ 0) deep st k2).2 (.inl k1)
     have i2:=(exF_bd f (G.kid τ 1) deep (G.exF f (G.kid τ 0) deep st).2 k4).1 (.inr k3)
     show (G.exF f (G.kid τ 1) deep (G.exF f (G.kid τ 0) deep st).2).2.n + 1≤_
     omega
  ·rintro (hs | hs)
   ·obtain ⟨hl,k1,k2,k3,k4⟩:=Wf.R hW hs
    rw [lv_nt (by rw [hs]; rfl),G.exF,if_neg (by rw [hs]; decide),if_neg (by rw [hs]; decide),if_pos hs,G.kids2 _ hl]
    have i1:=(exF_bd f (G.kid τ 0) deep st k2).2 (.inr k1)
    have i2:=timesF_bd f (G.exF f (G.kid τ 0) deep st).1 (G.kid τ 1) (G.exF f (G.kid τ 0) deep st).2 k4 k3
    omega
   ·have hshape:=Wf.T hW hs
    have hne:τ.kids ≠ []:=by rcases hshape with ⟨_,h⟩ | ⟨_,h,_⟩ | ⟨_,h⟩ | ⟨_,h⟩ | ⟨_,h,_⟩ | ⟨_,h,_⟩ <;> (intro e; rw [e] at h; cases h)
    obtain ⟨l,h2,h3,h4⟩:=Wf.nt hW (by rw [hs]; rfl)
    have h0:G.lv f (G.kid τ 0)=1∧G.kid τ 0 ∈ τ.kids:=by
     rw [hs] at h2
     have h2':([[108],[40,65,41],[46],[92,120],[91,73,93],[91,94,73,93]]:List (List UInt8))[τ.alt]?=some l:=h2
     have hcase:1≤l.length∧G.isNt (l.getD 0 0)=false:=by
      generalize τ.alt=a at h2'
      match a,h2' with
      | 0,h=>cases h; exact ⟨by decide,by decide⟩
      | 1,h=>cases h; exact ⟨by decide,by decide⟩
      | 2,h=>cases h; exact ⟨by decide,by decide⟩
      | 3,h=>cases h; exact ⟨by decide,by decide⟩
      | 4,h=>cases h; exact ⟨by decide,by decide⟩
      | 5,h=>cases h; exact ⟨by decide,by decide⟩
      | n + 6,h=>simp at h
     obtain ⟨m,e⟩:=kid_sym h3 0 (by omega)
     exact ⟨lv_pos (h4 _ m) (by rw [e]; exact hcase.2),m⟩
    have h1:1≤(τ.kids.map (G.lv f)).sum:=by
     have:=G.kidsMem (G.lv f) _ h0.2
     omega
    rw [lv_nt (by rw [hs]; rfl),G.exF,if_neg (by rw [hs]; decide),if_neg (by rw [hs]; decide),if_neg (by rw [hs]; decide)]
    split
    ·next ha =>
     rcases hshape with ⟨h,_⟩ | ⟨_,hl,k1,k2⟩ | ⟨h,_⟩ | ⟨h,_⟩ | ⟨h,_⟩ | ⟨h,_⟩
     ·omega
     ·have i1:(G.exF f (G.kid τ 1) (deep + 1) { st with depth:=if st.depth<deep + 1 then deep + 1 else st.depth }).2.n≤st.n + 2 * G.lv f (G.kid τ 1) + 1:=(exF_bd f (G.kid τ 1) (deep + 1) { st with depth:=if st.depth<deep + 1 then deep + 1 else st.depth } k2).1 (.inl k1)
      rw [G.kids3 _ hl,h0.1]
      omega
     ·omega
     ·omega
     ·omega
     ·omega
    ·split
     ·show st.n + 1 + 1≤_
      omega
     ·split
      ·show st.n + 1 + 1≤_
       omega
      ·split
       ·show st.n + 1 + 1≤_
        omega
       ·split
        ·show st.n + 1 + 1≤_
         omega
        ·show st.n + 1 + 1≤_
         omega
theorem TreeAt.wf {w:World}:∀ (g f:Nat) (τ:G.Tr) (v:Value),TreeAt w f τ v→G.Wf g τ→TreeAt w g τ v
 | 0,_,_,_,_,h=>h.elim
 | g + 1,0,_,_,h,_=>h.elim
 | g + 1,f + 1,τ,v,hT,hW=>by
  obtain ⟨b,kv,rfl,hB,hK⟩:=hT.blk
  refine ⟨b,kv,rfl,hB,?_⟩
  rcases hK with h | ⟨g0,cap,ptrs,e1,hrow,hall⟩
  ·exact .inl h
  ·refine .inr ⟨g0,cap,ptrs,e1,hrow,fun i t p hi hp=>?_⟩
   have hm:t ∈ τ.kids:=List.mem_of_getElem? hi
   rcases hW with ⟨_,e,_⟩ | ⟨_,l,_,_,h4⟩
   ·rw [e] at hm; cases hm
   ·exact TreeAt.wf g f t p (hall i t p hi hp) (h4 t hm)
theorem rx_at {w:World} {N:Nat}:∀ (F2 F:Nat) (r:G.Rx) (v:Value),ReAt w F2 r v→G.RxOk N F r→G.RxOk N F2 r
 | 0,_,_,_,h,_=>h.elim
 | F2 + 1,0,_,_,_,h=>h.elim
 | F2 + 1,F + 1,r,v,⟨b,vin,va,vb,h1,h2,h3,h4,h5⟩,⟨h0,h⟩=>by
  refine ⟨h0,?_⟩
  rcases h with h | h | ⟨h,a,c,e,g1,g2⟩ | ⟨h,a,e,g1,g2⟩
  ·exact .inl h
  ·exact .inr (.inl h)
  ·rw [e] at h4 h5
   have k4:ReAt w F2 a va:=by
    rcases h4 with ⟨x,_⟩ | ⟨r',x,y⟩
    ·cases x
    ·cases x; exact y
   have k5:ReAt w F2 c vb:=by
    rcases h5 with ⟨x,_⟩ | ⟨r',x,y⟩
    ·cases x
    ·cases x; exact y
   exact .inr (.inr (.inl ⟨h,a,c,e,rx_at F2 F a va k4 g1,rx_at F2 F c vb k5 g2⟩))
  ·rw [e] at h4
   have k4:ReAt w F2 a va:=by
    rcases h4 with ⟨x,_⟩ | ⟨r',x,y⟩
    ·cases x
    ·cases x; exact y
   exact .inr (.inr (.inr ⟨h,a,e,rx_at F2 F a va k4 g1,g2⟩))
def faultOf (e:Ending) (k at':Int):Prop:=e=.returned (.tuple #[.pointer none,.agg #[.int .i64 k,.int .i64 at']])
def CompilePost (s:ByteArray) (w:World) (e:Ending) (w':World):Prop :=
 Below w.heap.size w w'∧((40<s.size∧faultOf e 1 0)∨(s.size≤40∧G.D s.data.toList 65 0 s.size=none∧faultOf e 3 (atOf s.data.toList:Nat)) ∨
  (s.size≤40∧∃ τ,G.D s.data.toList 65 0 s.size=some τ∧∃ E,E=G.exF (8 * s.data.toList.length + 16) τ 0 ⟨0,false,0⟩∧((E.2.back=true∧faultOf e 4 0) ∨
   (E.2.back=false∧∃ F2,G.RxOk E.2.n F2 E.1∧E.2.n≤81∧(((6<E.2.depth∨48<G.placesF F2 E.1)∧faultOf e 5 0) ∨
    (E.2.depth≤6∧G.placesF F2 E.1≤48∧∃ b bp,e=.returned (.tuple #[.pointer (some ⟨bp,0,none⟩),.agg #[.int .i64 0,.int .i64 0]])∧BlkT w' bp 147 [.pointer (some ⟨b,0,none⟩),.int .i64 (E.2.n:Int)]∧ReAt w' F2 E.1 (.pointer (some ⟨b,0,none⟩))))))))
theorem BlkT.below {w w':World} {B b:Nat} {T:TypeId} {vs:List Value} (h:BlkT w b T vs) (k:Below B w w') (hb:b<B):BlkT w' b T vs:=(k.block b hb).trans h
set_option maxRecDepth 100000 in
set_option maxHeartbeats 3200000 in
theorem compile_any (s:ByteArray) (w:World):Calls Try.prog 71 #[.string s] w fun e w'=>CompilePost s w e w':=by
 by_cases h40:s.size≤40
 ·have hs:¬ (40:Int)<(s.size:Int):=by omega
  go_enter Try.func71,Try.ntmps71
  go_wp2_with fail
  refine (read_any s _ h40).mono ?_
  rintro e w1 ⟨hBel,h⟩
  have hF:BlkT w1 w.heap.size 45 [.int .i64 0,.int .i64 0]:=(BlkT.new w #[.int .i64 0,.int .i64 0] 45).below hBel (by simp)
  have hB0:Below w.heap.size w w1:=((Below.refl w.heap.size w).alloc (Nat.le_refl _) _).trans (hBel.mono (by simp))
  have hlt1:w.heap.size<w1.heap.size:=hF.lt
  clear hBel
  rcases h with ⟨τ,v,f,hD,rfl,hT⟩ | ⟨hD,rfl⟩
  ·obtain ⟨hs65,hW⟩:=G.D_wf _ _ _ _ _ hD
   have HT:Hid (TreeAt w1 (8 * s.data.toList.length + 16) τ v):=TreeAt.wf _ f τ v hT hW
   have HW:Hid (G.Wf (8 * s.data.toList.length + 16) τ):=hW
   have hlen:=size_len s
   have hbd:=(exF_bd _ τ 0 ⟨0,false,0⟩ hW).1 (.inl hs65)
   have hlv:=(G.der_lv _ _ _ _ _ _ hD).2
   have HBD:Hid ((G.exF (8 * s.data.toList.length + 16) τ 0 ⟨0,false,0⟩).2.n≤81):=by
    refine Nat.le_trans hbd ?_
    show 0 + 2 * G.lv _ τ + 1≤81
    rw [hlv]
    omega
   obtain ⟨F,hOk⟩:=exF_ok _ τ 0 ⟨0,false,0⟩ hW (.inl hs65)
   have HOK:Hid (G.RxOk (G.exF (8 * s.data.toList.length + 16) τ 0 ⟨0,false,0⟩).2.n F (G.exF (8 * s.data.toList.length + 16) τ 0 ⟨0,false,0⟩).1):=hOk
   have HS:Hid (τ.sym=65):=hs65
   obtain ⟨bt,rfl,_⟩:=hT.ptr
   have HF:Hid (0 + (8 * s.data.toList.length + 16)≤1000000):=by show _≤_; omega
   have HD:Hid (G.D s.data.toList 65 0 s.size=some τ):=hD
   clear hT hW hD hbd hOk hs65 hlen hlv
   have HPOST:Hid (∀ (e:Ending) (w':World),Below w.heap.size w w'→(∃ E,E=G.exF (8 * s.data.toList.length + 16) τ 0 ⟨0,false,0⟩∧((E.2.back=true∧faultOf e 4 0) ∨
    (E.2.back=false∧∃ F2,G.RxOk E.2.n F2 E.1∧E.2.n≤81∧(((6<E.2.depth∨48<G.placesF F2 E.1)∧faultOf e 5 0) ∨
     (E.2.depth≤6∧G.placesF F2 E.1≤48∧∃ b bp,e=.returned (.tuple #[.pointer (some ⟨bp,0,none⟩),.agg #[.int .i64 0,.int .i64 0]])∧BlkT w' bp 147 [.pointer (some ⟨b,0,none⟩),.int .i64 (E.2.n:Int)]∧ReAt w' F2 E.1 (.pointer (some ⟨b,0,none⟩)))))))→CompilePost s w e w'):=fun e w' hb h=>⟨hb,.inr (.inr ⟨h40,τ,HD.out,h⟩)⟩
   generalize 8 * s.data.toList.length + 16=FF at *
   go_wp2_with fail
   have hM:MkAt (w1.alloc (.cells #[.int .i64 0,.bool false,.int .i64 0] 143)) w1.heap.size ⟨0,false,0⟩:=BlkT.new _ _ _
   refine ((expr_atom FF).1 τ _ 0 ⟨0,false,0⟩ w1.heap.size _ (TreeAt.keep (keepTrees_below ((Below.refl w1.heap.size w1).alloc (Nat.le_refl _) _) (Nat.le_refl _)) _ _ _ HT.out) HW.out (.inl HS.out) hM HF.out (Nat.le_trans HBD.out (by omega))).mono ?_
   generalize G.exF FF τ 0 ⟨0,false,0⟩=E at *
   rintro e w2 ⟨b,rfl,⟨F2,hR⟩,hM2,hK2⟩
   have hB2:Below w.heap.size w w2:=hB0.trans (((Below.refl w.heap.size w1).alloc (by omega) _).trans (hK2.to_below (by simp; omega) (by simp; omega)))
   have hF2:BlkT w2 w.heap.size 45 [.int .i64 0,.int .i64 0]:=(hF.alloc _).keep hK2 (by simp; omega)
   generalize w1.heap.size=bm at *
   obtain ⟨rx,sn,sb,sd⟩:=E
   have HR:Hid (ReAt w2 F2 rx (.pointer (some ⟨b,0,none⟩))):=hR
   have HOK2:Hid (G.RxOk sn F2 rx):=rx_at F2 F rx _ hR HOK.out
   have m0:w2.cell? ⟨bm,0,none⟩=some (.int .i64 (sn:Int)):=BlkT.cell hM2 0
   have m1:w2.cell? ⟨bm,1,none⟩=some (.bool sb):=BlkT.cell hM2 1
   have m2:w2.cell? ⟨bm,2,none⟩=some (.int .i64 (sd:Int)):=BlkT.cell hM2 2
   have f0:w2.cell? ⟨w.heap.size,0,none⟩=some (.int .i64 0):=hF2.cell 0
   have f1:w2.cell? ⟨w.heap.size,1,none⟩=some (.int .i64 0):=hF2.cell 1
   have z0:=hF2.frozen 0
   have z1:=hF2.frozen 1
   have hfm:¬ w.heap.size=bm:=by omega
   clear hR hM HT HW HS HF hF hB0
   cases sb with
   | true =>
    go_wp2
    refine bodyPost_ret (v:=.tuple #[.pointer none,.agg #[.int .i64 4,.int .i64 0]]) (by simp [results,Try.results71,go_sem, *]) rfl (HPOST.out _ _ ?_ ⟨_,rfl,.inl ⟨rfl,rfl⟩⟩)
    repeat (first | exact hB2 | refine Below.alloc ?_ (by omega) _ | refine Below.setCell ?_ (by simp) _)
   | false =>
    go_wp2_with fail
    refine (places_any F2 sn F rx _ w2 HR.out HOK.out).mono ?_
    rintro e w3 ⟨rfl,q3,hw3⟩
    have HR3:Hid (ReAt w3 F2 rx (.pointer (some ⟨b,0,none⟩))):=by rw [hw3]; exact ReAt.drewN q3 HR.out
    have hB3:Below w.heap.size w w3:=by rw [hw3]; exact below_drewN hB2 _
    have hF3:BlkT w3 w.heap.size 45 [.int .i64 0,.int .i64 0]:=by rw [hw3]; exact hF2
    have hM3:MkAt w3 bm ⟨sn,false,sd⟩:=by rw [hw3]; exact hM2.drewN q3
    clear hw3 m0 m1 m2 f0 f1 z0 z1 hF2 hM2 HR hB2
    have m0:w3.cell? ⟨bm,0,none⟩=some (.int .i64 (sn:Int)):=BlkT.cell hM3 0
    have m2:w3.cell? ⟨bm,2,none⟩=some (.int .i64 (sd:Int)):=BlkT.cell hM3 2
    have f0:w3.cell? ⟨w.heap.size,0,none⟩=some (.int .i64 0):=hF3.cell 0
    have f1:w3.cell? ⟨w.heap.size,1,none⟩=some (.int .i64 0):=hF3.cell 1
    have z0:=hF3.frozen 0
    have z1:=hF3.frozen 1
    have hbm3:bm<w3.heap.size:=hM3.lt
    have hfw3:w.heap.size<w3.heap.size:=hF3.lt
    generalize hn:G.placesF F2 rx=n at *
    have HN:Hid (G.placesF F2 rx=n):=hn
    have HF3:Hid (BlkT w3 w.heap.size 45 [.int .i64 0,.int .i64 0]):=hF3
    clear hn hF3
    by_cases h6:6<sd
    ·have h6':(6:Int)<(sd:Int):=by omega
     go_wp2
     refine bodyPost_ret (v:=.tuple #[.pointer none,.agg #[.int .i64 5,.int .i64 0]]) (by simp [results,Try.results71,go_sem, *]) rfl (HPOST.out _ _ ?_ ⟨_,rfl,.inr ⟨rfl,F2,HOK2.out,HBD.out,.inl ⟨.inl h6,rfl⟩⟩⟩)
     repeat (first | exact hB3 | refine Below.alloc ?_ (by simp; omega) _ | refine Below.setCell ?_ (by simp) _)
    ·have h6':decide ((6:Int)<(sd:Int))=false:=decide_eq_false (by omega)
     by_cases h48:48<n
     ·have h48':(48:Int)<(n:Int):=by omega
      go_wp2
      refine bodyPost_ret (v:=.tuple #[.pointer none,.agg #[.int .i64 5,.int .i64 0]]) (by simp [results,Try.results71,go_sem, *]) rfl (HPOST.out _ _ ?_ ⟨_,rfl,.inr ⟨rfl,F2,HOK2.out,HBD.out,.inl ⟨.inr (by rw [HN.out]; exact h48),rfl⟩⟩⟩)
      repeat (first | exact hB3 | refine Below.alloc ?_ (by simp; omega) _ | refine Below.setCell ?_ (by simp) _)
     ·have h48':¬ (48:Int)<(n:Int):=by omega
      have h6n:sd≤6:=by omega
      go_wp2
      refine bodyPost_ret (v:=.tuple #[.pointer (some ⟨w3.heap.size,0,none⟩),.agg #[.int .i64 0,.int .i64 0]]) (by simp [results,Try.results71,go_sem, *]) rfl (HPOST.out _ _ ?_ ⟨_,rfl,.inr ⟨rfl,F2,HOK2.out,HBD.out,.inr ⟨h6n,by rw [HN.out]; omega,b,w3.heap.size,rfl,?_,?_⟩⟩⟩)
      ·repeat (first | exact hB3 | refine Below.alloc ?_ (by simp; omega) _ | refine Below.setCell ?_ (by simp) _)
      ·have e1:((w3.setCell ⟨w.heap.size,0,none⟩ (.int .i64 0)).setCell ⟨w.heap.size,1,none⟩ (.int .i64 0)).heap.size=w3.heap.size:=by simp
       have:=BlkT.new ((w3.setCell ⟨w.heap.size,0,none⟩ (.int .i64 0)).setCell ⟨w.heap.size,1,none⟩ (.int .i64 0)) #[.pointer (some ⟨b,0,none⟩),.int .i64 (sn:Int)] 147
       rw [e1] at this
       exact this
      ·have K:Keep [w.heap.size] w3 (((w3.setCell ⟨w.heap.size,0,none⟩ (.int .i64 0)).setCell ⟨w.heap.size,1,none⟩ (.int .i64 0)).alloc (.cells #[.pointer (some ⟨b,0,none⟩),.int .i64 (sn:Int)] 147)):=(((Keep.refl _ w3).setCell (by simp) _).setCell (by simp) _).alloc _
       refine ReAt.keep (K.re (fun i hi c T hc=>?_)) _ _ _ HR3.out
       rw [List.mem_singleton] at hi
       subst hi
       have t1:=HF3.out
       unfold BlkT at t1
       rw [t1] at hc
       cases hc
       exact ⟨by decide,by decide⟩
  ·have f0:w1.cell? ⟨w.heap.size,0,none⟩=some (.int .i64 0):=hF.cell 0
   have f1:w1.cell? ⟨w.heap.size,1,none⟩=some (.int .i64 0):=hF.cell 1
   have z0:=hF.frozen 0
   have z1:=hF.frozen 1
   have HD:Hid (G.D s.data.toList 65 0 s.size=none):=hD
   clear hD
   go_wp2
   refine bodyPost_ret (v:=.tuple #[.pointer none,.agg #[.int .i64 3,.int .i64 (atOf s.data.toList:Nat)]]) (by simp [results,Try.results71,go_sem, *]) rfl ⟨?_,.inr (.inl ⟨h40,HD.out,rfl⟩)⟩
   repeat (first | exact hB0 | refine Below.alloc ?_ (by omega) _ | refine Below.setCell ?_ (by simp) _)
 ·have hs:(40:Int)<(s.size:Int):=by omega
  go_enter Try.func71,Try.ntmps71
  go_wp2
  refine bodyPost_ret (v:=.tuple #[.pointer none,.agg #[.int .i64 1,.int .i64 0]]) (by simp [results,Try.results71,go_sem]) rfl ⟨?_,.inl ⟨by omega,rfl⟩⟩
  repeat (first | exact Below.refl _ _ | refine Below.alloc ?_ (Nat.le_refl _) _ | refine Below.setCell ?_ (by simp) _)
end Go.Proofs.Ytjmkkkfloalliab
namespace Go.Proofs.Ytjmkkkfloalliab
set_option linter.unusedVariables false
namespace G
def putD (D:Nat→Rx) (n:Nat) (r:Rx):Nat→Rx:=fun k=>if k=n then r else D k
theorem putD_low {D:Nat→Rx} {n:Nat} {r:Rx} {k:Nat} (h:k<n):putD D n r k=D k:=by
 unfold putD; rw [if_neg (by omega)]
theorem Ids.put {D:Nat→Rx} {lo n:Nat} {r:Rx} (hid:r.id=n) (hl:lo≤n) (hs:∀ a,a ∈ r.subs→∀ F,Ids D lo n F a):∀ F,Ids (putD D n r) lo (n + 1) F r
 | 0=>trivial
 | F + 1=>⟨by omega,by omega,by unfold putD; rw [if_pos hid],fun a ha=>Ids.mono (Nat.le_refl _) (by omega) (fun k hk=>putD_low hk) F a (hs a ha F)⟩
theorem timesF_ids:∀ (f:Nat) (rx:Rx) (q:Tr) (st:Mk) (lo:Nat) (D0:Nat→Rx),(∀ F,Ids D0 lo st.n F rx)→lo≤st.n→∃ D,(∀ k,k<st.n→D k=D0 k)∧∀ F,Ids D lo (timesF f rx q st).2.n F (timesF f rx q st).1
 | 0,rx,q,st,lo,D0,h,hl=>⟨D0,fun _ _=>rfl,h⟩
 | f + 1,rx,q,st,lo,D0,h,hl=>by
  unfold timesF
  split
  ·exact ⟨D0,fun _ _=>rfl,h⟩
  ·obtain ⟨D,h1,h2⟩:=timesF_ids f ⟨4,[],[rx],loOf q,hiOf q,st.n⟩ (lastKid q) ⟨st.n + 1,backOf q st.back,st.depth⟩ lo (putD D0 st.n ⟨4,[],[rx],loOf q,hiOf q,st.n⟩) (Ids.put rfl hl (fun a ha=>by rw [List.mem_singleton] at ha; subst ha; exact h)) (by show lo≤st.n + 1; omega)
   exact ⟨D,fun k hk=>by rw [h1 k (by show k<st.n + 1; omega)]; exact putD_low hk,h2⟩
theorem ids_leaf {r:Rx} {n:Nat} (hid:r.id=n) (hs:r.subs=[]) (D0:Nat→Rx):∃ D,(∀ k,k<n→D k=D0 k)∧∀ F,Ids D n (n + 1) F r :=
 ⟨putD D0 n r,fun k hk=>putD_low hk,Ids.put hid (Nat.le_refl _) (fun a ha=>by rw [hs] at ha; cases ha)⟩
theorem ids_two {k n0 n1 n2:Nat} {a b:Rx} {D0 D1 D2:Nat→Rx} (h0:n0≤n1) (h1:n1≤n2) (e1:∀ k,k<n0→D1 k=D0 k) (i1:∀ F,Ids D1 n0 n1 F a) (e2:∀ k,k<n1→D2 k=D1 k) (i2:∀ F,Ids D2 n1 n2 F b) :
    ∃ D,(∀ k,k<n0→D k=D0 k)∧∀ F,Ids D n0 (n2 + 1) F ⟨k,[],[a,b],0,0,n2⟩:=by
 refine ⟨putD D2 n2 ⟨k,[],[a,b],0,0,n2⟩,fun k hk=>?_,Ids.put rfl (by omega) (fun x hx F=>?_)⟩
 ·rw [putD_low (by omega),e2 k (by omega),e1 k hk]
 ·rcases List.mem_cons.1 hx with rfl | hx
  ·exact Ids.mono (Nat.le_refl _) h1 (fun k hk=>e2 k hk) F _ (i1 F)
  ·rw [List.mem_singleton] at hx
   subst hx
   exact Ids.mono h0 (Nat.le_refl _) (fun k hk=>rfl) F _ (i2 F)
theorem exF_ids:∀ (f:Nat) (τ:Tr) (deep:Nat) (st:Mk) (D0:Nat→Rx),Wf f τ→(τ.sym=65∨τ.sym=67∨τ.sym=82∨τ.sym=84)→∃ D,(∀ k,k<st.n→D k=D0 k)∧∀ F,Ids D st.n (exF f τ deep st).2.n F (exF f τ deep st).1
 | 0,_,_,_,_,h,_=>h.elim
 | f + 1,τ,deep,st,D0,hW,hs=>by
  unfold exF
  split
  ·next h65 =>
   obtain ⟨k1,k2,hcase⟩:=Wf.A hW h65
   split
   ·exact exF_ids f _ _ _ D0 k2 (.inr (.inl k1))
   ·next hne =>
    rcases hcase with ⟨h,_⟩ | ⟨_,_,k3,k4⟩
    ·exact (hne h).elim
    ·obtain ⟨D1,e1,i1⟩:=exF_ids f (kid τ 0) deep st D0 k2 (.inr (.inl k1))
     obtain ⟨D2,e2,i2⟩:=exF_ids f (kid τ 2) deep (exF f (kid τ 0) deep st).2 D1 k4 (.inl k3)
     exact ids_two (exF_n _ _ _ _) (exF_n _ _ _ _) e1 i1 e2 i2
  ·split
   ·next h67 =>
    split
    ·exact ids_leaf (by rfl) (by rfl) D0
    ·next hne =>
     rcases Wf.C hW h67 with ⟨h,_⟩ | ⟨_,_,k1,k2,k3,k4⟩
     ·exact (hne h).elim
     ·obtain ⟨D1,e1,i1⟩:=exF_ids f (kid τ 0) deep st D0 k2 (.inr (.inr (.inl k1)))
      obtain ⟨D2,e2,i2⟩:=exF_ids f (kid τ 1) deep (exF f (kid τ 0) deep st).2 D1 k4 (.inr (.inl k3))
      exact ids_two (exF_n _ _ _ _) (exF_n _ _ _ _) e1 i1 e2 i2
   ·split
    ·next h82 =>
     obtain ⟨_,k1,k2,k3,k4⟩:=Wf.R hW h82
     obtain ⟨D1,e1,i1⟩:=exF_ids f (kid τ 0) deep st D0 k2 (.inr (.inr (.inr k1)))
     have hn:=exF_n f (kid τ 0) deep st
     obtain ⟨D2,e2,i2⟩:=timesF_ids f (exF f (kid τ 0) deep st).1 (kid τ 1) (exF f (kid τ 0) deep st).2 st.n D1 i1 hn
     exact ⟨D2,fun k hk=>by rw [e2 k (by omega),e1 k hk],i2⟩
    ·next h1 h2 h3 =>
     have h84:τ.sym=84:=by rcases hs with h | h | h | h; exact (h1 h).elim; exact (h2 h).elim; exact (h3 h).elim; exact h
     split
     ·next ha =>
      rcases Wf.T hW h84 with ⟨h,_⟩ | ⟨_,hl,k1,k2⟩ | ⟨h,_⟩ | ⟨h,_⟩ | ⟨h,_⟩ | ⟨h,_⟩
      ·omega
      ·exact exF_ids f (kid τ 1) (deep + 1) ⟨st.n,st.back,if st.depth<deep + 1 then deep + 1 else st.depth⟩ D0 k2 (.inl k1)
      ·omega
      ·omega
      ·omega
      ·omega
     ·split
      ·exact ids_leaf (by rfl) (by rfl) D0
      ·split
       ·exact ids_leaf (by rfl) (by rfl) D0
       ·split
        ·exact ids_leaf (by rfl) (by rfl) D0
        ·split
         ·exact ids_leaf (by rfl) (by rfl) D0
         ·exact ids_leaf (by rfl) (by rfl) D0
theorem fwd_leaf {r:Rx} (hk:r.kind ≠ 4) (hs:r.subs=[]):∀ F,Fwd F r
 | 0=>trivial
 | F + 1=>⟨fun h=>absurd h hk,fun a ha=>by rw [hs] at ha; cases ha⟩
theorem fwd_two {k n:Nat} {a b:Rx} (hk:k ≠ 4) (ha:∀ F,Fwd F a) (hb:∀ F,Fwd F b):∀ F,Fwd F ⟨k,[],[a,b],0,0,n⟩
 | 0=>trivial
 | F + 1=>⟨fun h=>absurd h hk,fun x hx=>by
     rcases List.mem_cons.1 hx with rfl | hx
     ·exact ha F
     ·rw [List.mem_singleton] at hx; subst hx; exact hb F⟩
theorem timesF_fwd:∀ (f:Nat) (rx:Rx) (q:Tr) (st:Mk),(timesF f rx q st).2.back=false→st.back=false∧((∀ F,Fwd F rx)→∀ F,Fwd F (timesF f rx q st).1)
 | 0,rx,q,st,h=>⟨h,fun h=>h⟩
 | f + 1,rx,q,st,h=>by
  unfold timesF at h ⊢
  split at h
  ·next hq=>rw [if_pos hq]; exact ⟨h,fun h=>h⟩
  ·next hq =>
   rw [if_neg hq]
   obtain ⟨h1,h2⟩:=timesF_fwd f _ _ _ h
   have h1:backOf q st.back=false:=h1
   unfold backOf at h1
   have h3:st.back=false∧(hiOf q<0∨loOf q≤hiOf q):=by
    split at h1
    ·rw [Bool.or_eq_false_iff] at h1
     refine ⟨h1.1,.inr ?_⟩
     have:=of_decide_eq_false h1.2
     omega
    ·next h6 =>
     refine ⟨h1,?_⟩
     unfold hiOf
     rw [if_neg h6]
     split
     ·exact .inr (Int.le_refl _)
     ·next h4 =>
      split
      ·next h3 =>
       right
       unfold loOf
       rw [if_neg (by omega),if_neg (by omega)]
       omega
      ·exact .inl (by omega)
   refine ⟨h3.1,fun hrx=>h2 (fun F=>?_)⟩
   cases F with
   | zero=>trivial
   | succ F=>exact ⟨fun _=>h3.2,fun a ha=>by rw [List.mem_singleton] at ha; subst ha; exact hrx F⟩
theorem itemsF_back1:∀ (f:Nat) (τ:Tr) (ins:List Bool) (b:Bool),(itemsF f τ ins b).2=false→b=false
 | 0,_,_,_,h=>h
 | f + 1,τ,ins,b,h=>by
  unfold itemsF at h
  split at h
  ·have:=itemsF_back1 f _ _ _ h
   rw [Bool.or_eq_false_iff] at this
   exact this.1
  ·have h:(b || _)=false:=h
   rw [Bool.or_eq_false_iff] at h
   exact h.1
theorem exF_fwd:∀ (f:Nat) (τ:Tr) (deep:Nat) (st:Mk),(exF f τ deep st).2.back=false→st.back=false∧∀ F,Fwd F (exF f τ deep st).1
 | 0,_,_,st,h=>⟨h,fwd_leaf (fun g=>absurd (show (0:Nat)=4 from g) (by decide)) rfl⟩
 | f + 1,τ,deep,st,h=>by
  unfold exF at h ⊢
  by_cases h65:τ.sym=65
  ·rw [if_pos h65] at h ⊢
   by_cases ha:τ.alt=0
   ·rw [if_pos ha] at h ⊢
    exact exF_fwd f _ _ _ h
   ·rw [if_neg ha] at h ⊢
    obtain ⟨b1,f1⟩:=exF_fwd f _ _ _ h
    obtain ⟨b2,f2⟩:=exF_fwd f _ _ _ b1
    exact ⟨b2,fwd_two (by decide) f2 f1⟩
  ·rw [if_neg h65] at h ⊢
   by_cases h67:τ.sym=67
   ·rw [if_pos h67] at h ⊢
    by_cases ha:τ.alt=0
    ·rw [if_pos ha] at h ⊢
     exact ⟨h,fwd_leaf (fun g=>absurd (show (0:Nat)=4 from g) (by decide)) rfl⟩
    ·rw [if_neg ha] at h ⊢
     obtain ⟨b1,f1⟩:=exF_fwd f _ _ _ h
     obtain ⟨b2,f2⟩:=exF_fwd f _ _ _ b1
     exact ⟨b2,fwd_two (by decide) f2 f1⟩
   ·rw [if_neg h67] at h ⊢
    by_cases h82:τ.sym=82
    ·rw [if_pos h82] at h ⊢
     obtain ⟨b1,f1⟩:=timesF_fwd f _ _ _ h
     obtain ⟨b2,f2⟩:=exF_fwd f _ _ _ b1
     exact ⟨b2,f1 f2⟩
    ·rw [if_neg h82] at h ⊢
     by_cases h1:τ.alt=1
     ·rw [if_pos h1] at h ⊢
      obtain ⟨b1,f1⟩:=exF_fwd f _ _ _ h
      exact ⟨b1,f1⟩
     ·rw [if_neg h1] at h ⊢
      by_cases h0:τ.alt=0
      ·rw [if_pos h0] at h ⊢
       exact ⟨h,fwd_leaf (fun g=>absurd (show (1:Nat)=4 from g) (by decide)) rfl⟩
      ·rw [if_neg h0] at h ⊢
       by_cases h2:τ.alt=2
       ·rw [if_pos h2] at h ⊢
        exact ⟨h,fwd_leaf (fun g=>absurd (show (1:Nat)=4 from g) (by decide)) rfl⟩
       ·rw [if_neg h2] at h ⊢
        by_cases h3:τ.alt=3
        ·rw [if_pos h3] at h ⊢
         exact ⟨h,fwd_leaf (fun g=>absurd (show (1:Nat)=4 from g) (by decide)) rfl⟩
        ·rw [if_neg h3] at h ⊢
         by_cases h4:τ.alt=4
         ·rw [if_pos h4] at h ⊢
          exact ⟨itemsF_back1 _ _ _ _ h,fwd_leaf (fun g=>absurd (show (1:Nat)=4 from g) (by decide)) rfl⟩
         ·rw [if_neg h4] at h ⊢
          exact ⟨itemsF_back1 _ _ _ _ h,fwd_leaf (fun g=>absurd (show (1:Nat)=4 from g) (by decide)) rfl⟩
end G
end Go.Proofs.Ytjmkkkfloalliab
namespace Go.Proofs.Ytjmkkkfloalliab
set_option linter.unusedVariables false
open Go.RowKit
theorem at_first (s:List UInt8) {k:Nat} (hk:k≤s.length) (h1:∀ j,j≤k→G.O s j 65 0=true) (h2:∀ j,k<j→j≤s.length→G.O s j 65 0=false):atOf s=k + 1:=by
 unfold atOf
 rcases Nat.eq_or_lt_of_le hk with e | e
 ·have:(List.range' 1 s.length).find? (fun k=>!G.O s k 65 0)=none:=by
     rw [List.find?_eq_none]
     intro x hx
     rw [List.mem_range'_1] at hx
     simp [h1 x (by omega)]
  rw [this,e]; rfl
 ·rw [find_first _ s.length 1 (k + 1) (fun k' a b=>by simp [h1 k' (by omega)]) (by omega) (by omega) (by simp [h2 (k + 1) (by omega) (by omega)])]
  rfl
def PatAt (w:World) (bp:Nat) (pat:List UInt8):Prop:=∃ (b N F:Nat) (r:G.Rx) (d:Q.Den) (P:Q.Pat) (D:Nat→G.Rx),BlkT w bp 147 [.pointer (some ⟨b,0,none⟩),.int .i64 (N:Int)]∧ReAt w F r (.pointer (some ⟨b,0,none⟩))∧G.RxOk N F r∧N≤81 ∧
 Q.denF F r=d∧Q.W d∧Q.parse pat=.ok P∧(∀ u,Q.acc P u=true ↔ (u ≠ []∧d.lang u))∧(∀ u,u ≠ []→(Q.pl P u ≠ 0 ↔ ∃ v,d.lang (v ++ u)))∧(∀ f,G.Ids D 0 N f r)∧∀ f,G.Fwd f r
theorem below_re {w w':World} (h:Below w.heap.size w w'):KeepRe w w':=by
 intro k c T _ hc
 have hlt:k<w.heap.size:=(Array.getElem?_eq_some_iff.1 hc).1
 rw [h.block k hlt]
 exact hc
theorem compileQ:CompileQ PatAt:=by
 intro w s hs
 refine (compile_any s w).mono ?_
 rintro e w' ⟨hB,h⟩
 refine ⟨?_,hB⟩
 have hl:(L s).length=s.size:=rfl
 rcases h with ⟨h,hf⟩ | ⟨h,hD,hf⟩ | ⟨h,τ,hD,E,hE,h⟩
 ·have:Q.parse (L s)=.error (1,0):=by
     unfold Q.parse
     rw [if_pos (by omega)]
  rw [this]; exact hf
 ·obtain ⟨k,e1,e2,e3,e4⟩:=(Q.parse_doc (L s) (by omega)).1 hD
  rw [e1]
  have:=at_first (L s) e2 e3 e4
  unfold faultOf at hf
  rw [hf,show atOf s.data.toList=k + 1 from this]
  rfl
 ·obtain ⟨d,hW,hR,p1,p2,p3⟩:=(Q.parse_doc (L s) (by omega)).2 τ hD
  rw [← hE] at hR p1 p2 p3
  rcases h with ⟨hb,hf⟩ | ⟨hb,F2,hO,hN,h⟩
  ·rw [p1 hb]; exact hf
  ·have hd:Q.denF F2 E.1=d:=Q.rd_ok hO hR
   have hpl:G.placesF F2 E.1=d.places:=by rw [(Q.places_den _ F2 E.1 hO).2,hd]
   rw [hpl] at h
   rcases h with ⟨h,hf⟩ | ⟨h6,h48,b,bp,he,hP,hRe⟩
   ·rw [p2 hb h]; exact hf
   ·obtain ⟨P,hp,ha,hq⟩:=p3 hb h6 h48
    rw [hp]
    obtain ⟨hs65,hWf⟩:=G.D_wf _ _ _ _ _ hD
    have hids:∃ D,∀ f,G.Ids D 0 E.2.n f E.1:=by
     obtain ⟨D,_,hI⟩:=G.exF_ids (8 * s.data.toList.length + 16) τ 0 ⟨0,false,0⟩ (fun _=>Q.rx0) hWf (.inl hs65)
     rw [← hE] at hI
     exact ⟨D,hI⟩
    obtain ⟨D,hI⟩:=hids
    have hfw:∀ f,G.Fwd f E.1:=by
     have hb':=hb
     rw [hE] at hb' ⊢
     exact (G.exF_fwd _ _ _ _ hb').2
    refine ⟨bp,he,fun w'' hB2=>⟨b,E.2.n,F2,E.1,d,P,D,hP.below hB2 hP.lt,ReAt.keep (below_re hB2) _ _ _ hRe,hO,hN,hd,hW,hp,ha,hq,hI,hfw⟩⟩
theorem findQ:FindQ PatAt:=by
 intro w bp t pat P ht hP hA
 obtain ⟨b,N,F,r,d,P',D,h1,h2,h3,h4,h5,h6,h7,h8,h9,h10,h11⟩:=hA
 obtain rfl:P'=P:=by rw [hP] at h7; cases h7; rfl
 refine (rfind_any w bp N F t _ r D h1 h4 ht h2 h3 (h10 F) (h11 F)).mono ?_
 rintro e w' ⟨lo,le,pp,cap,he,hh,hf,hn,hs,hB⟩
 have hD:D r.id=r:=Q.ids_self h3 (h10 F)
 have eE:Q.EN t.data.toList D F r.id=Q.EndsAt t.data.toList d.lang:=by
  funext i j
  unfold Q.EN
  rw [hD,h5]
 have eT:Q.TN t.data.toList D F r.id=Q.TailAt t.data.toList d.lang:=by
  funext i j
  unfold Q.TN
  rw [hD,h5]
 rw [eE] at hh
 rw [eT] at hf
 have e1:lo=Q.hits t.data.toList P':=find_hits h8 hh
 have e2:=find_steps h9 hf
 refine ⟨⟨pp,cap,?_,hn,by rw [← e1]; exact hs⟩,hB⟩
 rw [he,← e1,e2]
 congr 4
theorem wantsD:WantsD:=wants_any compileQ findQ
end Go.Proofs.Ytjmkkkfloalliab
namespace Go.Proofs.Ytjmkkkfloalliab
set_option linter.unusedVariables false
open Go.RowKit
variable {w w':World} {B bw k n m R:Nat} {vx vl vm:Value} {reg:ByteArray} {Pb Pr:Nat→Nat} {Pt Pa:Nat→ByteArray} {G C:Nat→Nat} {X:Nat→List Int} {lab:Nat→Nat}
theorem WI.size (h:WI w B bw k n vx vl vm reg Pb Pr Pt Pa G C X lab):B≤w.heap.size:=by
 have:=h.mat.lt; have:=h.hB; omega
theorem WI.xb (h:WI w B bw k n vx vl vm reg Pb Pr Pt Pa G C X lab):∀ b,b ∈ bw :: vx.ownBlock.toList→B≤b:=by
 intro b hb
 rcases List.mem_cons.1 hb with e | e
 ·rw [e]; exact h.hB
 ·exact (own_lt' h.xs b (by simpa using e)).2
theorem WI.lb (h:WI w B bw k n vx vl vm reg Pb Pr Pt Pa G C X lab):∀ b,b ∈ bw :: (vl.ownBlock.toList ++ vm.ownBlock.toList)→B≤b:=by
 intro b hb
 rcases List.mem_cons.1 hb with e | e
 ·rw [e]; exact h.hB
 ·rcases List.mem_append.1 e with e | e
  ·exact (own_lt' h.ls b (by simpa using e)).2
  ·exact (own_lt' h.lm b (by simpa using e)).2
theorem WI.nx (h:WI w B bw k n vx vl vm reg Pb Pr Pt Pa G C X lab):vx.ownBlock ≠ some bw:=fun e=>by have:=h.b2 bw e; rw [h.b1] at this; cases this
theorem WI.nl (h:WI w B bw k n vx vl vm reg Pb Pr Pt Pa G C X lab):vl.ownBlock ≠ some bw:=fun e=>by have:=h.b3 bw e; rw [h.b1] at this; cases this
theorem WI.nm (h:WI w B bw k n vx vl vm reg Pb Pr Pt Pa G C X lab):vm.ownBlock ≠ some bw:=fun e=>by have:=h.b4 bw e; rw [h.b1] at this; cases this
theorem WI.nlm (h:WI w B bw k n vx vl vm reg Pb Pr Pt Pa G C X lab):∀ b,vl.ownBlock=some b→vm.ownBlock ≠ some b:=fun b e e2=>by have:=h.b3 b e; rw [h.b4 b e2] at this; cases this
theorem WI.down (h:WI w B bw k n vx vl vm reg Pb Pr Pt Pa G C X lab) (hb:Below w.heap.size w w'):Below B w w':=hb.mono h.size
theorem wi_built (h:WI w B bw k n vx vl vm reg Pb Pr Pt Pa G C X lab) (t:ByteArray) (rate:Int) (ht:t.size≤maxLen) (hk:k + 1≤100000000) :
    Calls Try.prog 38 #[.pointer (some ⟨bw,0,none⟩),.string t,.int .i64 rate] w fun e w'=>e=.returned (.bool true)∧Below B w w'∧(WI w' B bw k n vx vl vm reg Pb Pr Pt Pa G C X lab ∨
     ∃ (vx':Value) (r bx:Nat) (a:ByteArray) (lab':Nat→Nat),rate=(r:Int)∧WI w' B bw (k + 1) n vx' vl vm reg (put1 Pb k bx) (put1 Pr k r) (put1 Pt k t) (put1 Pa k a) G C X lab'):=by
 by_cases h1:200<t.size
 ·refine (built_long w bw rate t h1 ht).mono ?_
  rintro e w' ⟨rfl,rfl⟩
  exact ⟨rfl,Below.refl _ _,.inl h⟩
 ·by_cases h2:rate<1∨32<rate
  ·refine (built_arg w bw rate t (by omega) h2).mono ?_
   rintro e w' ⟨rfl,rfl⟩
   exact ⟨rfl,Below.refl _ _,.inl h⟩
  ·obtain ⟨r,rfl⟩:∃ r:Nat,rate=(r:Int):=⟨rate.toNat,by omega⟩
   refine (built_ok w bw B r k t reg vx vl vm _ h.mat h.xs hk h.size h.nx (by omega) (by omega) (by omega)).mono ?_
   rintro e w' ⟨rfl,vx',bx,a,h3,h4,h5,h6,h7,h8,h9⟩
   exact ⟨rfl,h8.to_below h.xb h.size,.inr ⟨vx',r,bx,a,_,rfl,h.pair h3 h4 h6 h7 h8 h9⟩⟩
theorem wi_loaded (h:WI w B bw k n vx vl vm reg Pb Pr Pt Pa G C X lab) (hr:reg.size≤maxLen) (hk:k + 1≤100000000) :
    Calls Try.prog 39 #[.pointer (some ⟨bw,0,none⟩)] w fun e w'=>e=.returned (.bool true)∧Below B w w'∧((¬ (∃ t r,LoadOk reg.data.toList t r)∧WI w' B bw k n vx vl vm reg Pb Pr Pt Pa G C X lab) ∨
     ∃ (vx':Value) (t:ByteArray) (r bx:Nat) (a:ByteArray) (lab':Nat→Nat),LoadOk reg.data.toList t.data.toList r∧WI w' B bw (k + 1) n vx' vl vm reg (put1 Pb k bx) (put1 Pr k r) (put1 Pt k t) (put1 Pa k a) G C X lab'):=by
 refine (lloaded_any w bw B k reg vx vl vm _ hr h.mat h.xs hk h.size h.nx).mono ?_
 rintro e w' ⟨rfl,⟨h1,h2⟩ | ⟨t,r,h1,vx',bx,a,h3,h4,h5,h6,h7,h8,h9⟩⟩
 ·exact ⟨rfl,h.down h2,.inl ⟨h1,h.below h2⟩⟩
 ·exact ⟨rfl,h8.to_below h.xb h.size,.inr ⟨vx',t,r,bx,a,_,h1,h.pair h3 h4 h6 h7 h8 h9⟩⟩
theorem wi_searched (h:WI w B bw k n vx vl vm reg Pb Pr Pt Pa G C X lab) {i:Nat} (hi:i<k) (pat:ByteArray) (budget:Int) (memo:Bool) (hp:pat.size≤maxLen) (b0 : -9223372036854775808≤budget) (b1:budget≤9223372036854775807) (hn:n + 1≤100000000) :
    Calls Try.prog 41 #[.pointer (some ⟨bw,0,none⟩),pairV (Pb i) (Pr i) (Pt i),.string pat,.int .i64 budget,.bool memo] w fun e w'=>e=.returned (.bool true)∧Below B w w'∧∃ n' vl' vm' G' C' X' lab',n'≤n + 1∧WI w' B bw k n' vx vl' vm' reg Pb Pr Pt Pa G' C' X' lab':=by
 refine (searched_any wantsD w bw (Pb i) (Pr i) B n n (Pt i) (Pa i) pat reg budget memo vx vl vm _ _ (h.idx i hi) hp b0 b1 h.mat h.ls h.lm hn hn h.size h.nl h.nm h.nlm).mono ?_
 rintro e w' ⟨rfl,h1 | h1⟩
 ·exact ⟨rfl,h.down h1,n,vl,vm,G,C,X,lab,by omega,h.below h1⟩
 ·have hk:Keep (bw :: (vl.ownBlock.toList ++ vm.ownBlock.toList)) w w':=by
     obtain ⟨l,vl',vm',g,c,_,_,_,_,_,_,_,_,_,_,_,_,_,kk⟩:=h1
     exact kk
  obtain ⟨vl',vm',G',C',X',lab',h2⟩:=h.list h.size h1
  exact ⟨rfl,hk.to_below h.lb h.size,n + 1,vl',vm',G',C',X',lab',by omega,h2⟩
theorem wi_counted (h:WI w B bw k n vx vl vm reg Pb Pr Pt Pa G C X lab) {i:Nat} (hi:i<k) (pat:ByteArray) (budget:Int) (hp:pat.size≤maxLen) (b0 : -9223372036854775808≤budget) (b1:budget≤9223372036854775807) :
    Calls Try.prog 42 #[pairV (Pb i) (Pr i) (Pt i),.string pat,.int .i64 budget] w fun e w'=>e=.returned (.bool true)∧Below B w w'∧WI w' B bw k n vx vl vm reg Pb Pr Pt Pa G C X lab:=by
 refine (counted_any wantsD w (Pb i) (Pr i) (Pt i) (Pa i) pat budget (h.idx i hi) hp b0 b1).mono ?_
 rintro e w' ⟨rfl,h1⟩
 exact ⟨rfl,h.down h1,h.below h1⟩
theorem wi_extracted (h:WI w B bw k n vx vl vm reg Pb Pr Pt Pa G C X lab) {i:Nat} (hi:i<k) (f g:Int) (f0 : -9223372036854775808≤f) (f1:f≤9223372036854775807) (g0 : -9223372036854775808≤g) (g1:g≤9223372036854775807) :
    Calls Try.prog 43 #[pairV (Pb i) (Pr i) (Pt i),.int .i64 f,.int .i64 g] w fun e w'=>e=.returned (.bool true)∧Below B w w'∧WI w' B bw k n vx vl vm reg Pb Pr Pt Pa G C X lab:=by
 refine (extracted_any w (Pb i) (Pr i) (Pt i) (Pa i) f g (h.idx i hi) f0 f1 g0 g1).mono ?_
 rintro e w' ⟨rfl,h1⟩
 exact ⟨rfl,h.down h1,h.below h1⟩
theorem WI.wb (h:WI w B bw k n vx vl vm reg Pb Pr Pt Pa G C X lab):∀ b,b ∈ [bw]→B≤b:=fun b hb=>by rw [List.mem_singleton] at hb; rw [hb]; exact h.hB
theorem wi_saved (h:WI w B bw k n vx vl vm reg Pb Pr Pt Pa G C X lab) {i:Nat} (hi:i<k) :
    Calls Try.prog 44 #[.pointer (some ⟨bw,0,none⟩),pairV (Pb i) (Pr i) (Pt i)] w fun e w'=>e=.returned (.bool true)∧Below B w w'∧∃ s:ByteArray,s.size≤700∧LoadOk s.data.toList (Pt i).data.toList (Pr i)∧WI w' B bw k n vx vl vm s Pb Pr Pt Pa G C X lab:=by
 refine (lsaved_any w bw (Pb i) (Pr i) (Pt i) (Pa i) reg vx vl vm (h.idx i hi) h.mat).mono ?_
 rintro e w' ⟨rfl,⟨s,h1,h2,h3⟩,h4⟩
 exact ⟨rfl,h4.to_below h.wb h.size,s,h1,h2,h.regAs h4 s h3⟩
theorem ws_owner (h:WI w B bw k n vx vl vm reg Pb Pr Pt Pa G C X lab) (kd a b c:Int) (s:ByteArray) (a0 : -9223372036854775808≤a) (a1:a≤9223372036854775807) (b0 : -9223372036854775808≤b) (b1:b≤9223372036854775807) (hs:s.size≤1048576) (hr:reg.size≤1000000000000000) (hn:n≤100000000) :
    Calls Try.prog 37 #[.pointer (some ⟨bw,0,none⟩),opV kd a b c s] w fun e w'=>Below B w w'∧((e=.returned (.bool false)∧Below w.heap.size w w') ∨
     (e=.returned (.bool true)∧∃ reg' X',reg'.size≤reg.size + s.size∧WI w' B bw k n vx vl vm reg' Pb Pr Pt Pa G C X' lab)):=by
 by_cases h6:kd=6
 ·subst h6
  refine (owner_store w bw a b c s reg vx vl vm h.mat).mono ?_
  rintro e w' ⟨rfl,h1,h2⟩
  exact ⟨h2.to_below h.wb h.size,.inr ⟨rfl,s,X,by omega,h.regAs h2 s h1⟩⟩
 by_cases h7:kd=7
 ·subst h7
  by_cases hz:reg.size=0
  ·refine (owner_turn0 w bw a b c s reg hz vx vl vm h.mat).mono ?_
   rintro e w' ⟨rfl,h1⟩
   exact ⟨h.down h1,.inr ⟨rfl,reg,X,by omega,h.below h1⟩⟩
  ·refine (owner_turn w bw a b c s reg vx vl vm a0 a1 (by omega) (by omega) h.mat).mono ?_
   rintro e w' ⟨rfl,⟨s',h1,h2⟩,h3⟩
   exact ⟨h3.to_below h.wb h.size,.inr ⟨rfl,s',X,by omega,h.regAs h3 s' h2⟩⟩
 by_cases h8:kd=8
 ·subst h8
  refine (owner_cut w bw a b c s reg vx vl vm a0 a1 (by omega) h.mat).mono ?_
  rintro e w' ⟨rfl,⟨s',h1,h2⟩,h3⟩
  exact ⟨h3.to_below h.wb h.size,.inr ⟨rfl,s',X,h1,h.regAs h3 s' h2⟩⟩
 by_cases h11:kd=11
 ·subst h11
  rcases Nat.eq_zero_or_pos n with hz | hz
  ·obtain ⟨pl,cl,hvl⟩:=own_form h.ls
   rw [hz] at hvl
   refine (owner_cell0 w bw cl a b c s pl vx (.string reg) vm (by rw [← hvl]; exact h.mat)).mono ?_
   rintro e w' ⟨rfl,h1⟩
   exact ⟨h.down h1,.inr ⟨rfl,reg,X,by omega,h.below h1⟩⟩
  ·obtain ⟨gl,cl,e1,h1,r1⟩:=own_open h.ls (fun e=>by rw [e] at h; obtain ⟨_,⟨_,q⟩ | ⟨_,_,_,q,_⟩⟩:=h.ls; omega; cases q)
   obtain ⟨gm,cm,e2,h2,r2⟩:=own_open h.lm (fun e=>by rw [e] at h; obtain ⟨_,⟨_,q⟩ | ⟨_,_,_,q,_⟩⟩:=h.lm; omega; cases q)
   have l3:lab gl=3:=h.b3 gl (by rw [e1]; rfl)
   have l4:lab gm=4:=h.b4 gm (by rw [e2]; rfl)
   have hne:∀ {p q:Nat},lab p ≠ lab q→p ≠ q:=fun hh e=>hh (by rw [e])
   refine (owner_cell w bw n gl gm cl cm a b c s vx (.string reg) G C X a0 a1 b0 b1 hz hn (by rw [← e1,← e2]; exact h.mat) (fun i hi=>by rw [r1.cell? i (by rw [listsC_len]; exact hi),listsC_at G X hi]) (fun i hi=>by rw [r2.cell? i (by rw [listsC_len]; exact hi),listsC_at C X hi]) (fun i hi=>⟨by have:=(h.num i hi).1; omega,(h.num i hi).2⟩)
    (fun i hi=>⟨hne (by rw [h.bg i hi,h.b1]; omega),hne (by rw [h.bg i hi,l3]; omega),hne (by rw [h.bg i hi,l4]; omega),hne (by rw [h.bc i hi,h.b1]; omega),hne (by rw [h.bc i hi,l3]; omega),hne (by rw [h.bc i hi,l4]; omega),hne (by rw [h.bg i hi,h.bc i hi]; omega)⟩) r1.lt r2.lt).mono ?_
   rintro e w' ⟨rfl,r,hr1,hk,⟨_,hb⟩ | ⟨j,hj,hg,hc⟩⟩
   ·exact ⟨h.down hb,.inr ⟨rfl,reg,X,by omega,h.below hb⟩⟩
   ·refine ⟨hk.to_below (fun q hq=>?_) h.size,.inr ⟨rfl,reg,_,by omega,h.cell hr1 hk hg hc⟩⟩
    rcases List.mem_cons.1 hq with e | e
    ·rw [e]; exact (h.gB r hr1).1
    ·rw [List.mem_singleton] at e; rw [e]; exact (h.gB r hr1).2
 ·refine (owner_none w bw kd a b c s h6 h7 h8 h11).mono ?_
  rintro e w' ⟨rfl,h1⟩
  exact ⟨h.down h1,.inl ⟨rfl,h1⟩⟩
theorem wi_looks (h:WI w B bw k n vx vl vm reg Pb Pr Pt Pa G C X lab) (hn:n≤100000000) :
    Calls Try.prog 30 #[.pointer (some ⟨bw,0,none⟩)] w fun e w'=>e=.returned (.bool true)∧Below B w w'∧WI w' B bw k n vx vl vm reg Pb Pr Pt Pa G C X lab:=by
 have key:∀ q,Below w.heap.size w (w.drewN q):=fun q=>below_drewN (Below.refl _ _) q
 rcases Nat.eq_zero_or_pos n with hz | hz
 ·obtain ⟨pl,cl,hvl⟩:=own_form h.ls
  rw [hz] at hvl
  refine (looks_none w bw cl pl vx (.string reg) vm (by rw [← hvl]; exact h.mat)).mono ?_
  rintro e w' ⟨rfl,q,rfl⟩
  exact ⟨rfl,h.down (key q),h.below (key q)⟩
 ·obtain ⟨gl,cl,e1,h1,r1⟩:=own_open h.ls (fun e=>by rw [e] at h; obtain ⟨_,⟨_,q⟩ | ⟨_,_,_,q,_⟩⟩:=h.ls; omega; cases q)
  obtain ⟨gm,cm,e2,h2,r2⟩:=own_open h.lm (fun e=>by rw [e] at h; obtain ⟨_,⟨_,q⟩ | ⟨_,_,_,q,_⟩⟩:=h.lm; omega; cases q)
  refine (looks_any w bw n gl gm cl cm vx (.string reg) G C X hn (by rw [← e1,← e2]; exact h.mat) (fun i hi=>by rw [r1.cell? i (by rw [listsC_len]; exact hi),listsC_at G X hi]) (fun i hi=>by rw [r2.cell? i (by rw [listsC_len]; exact hi),listsC_at C X hi]) (fun i hi=>⟨by have:=(h.num i hi).1; omega,(h.num i hi).2⟩)).mono ?_
  rintro e w' ⟨rfl,q,rfl⟩
  exact ⟨rfl,h.down (key q),h.below (key q)⟩
end Go.Proofs.Ytjmkkkfloalliab
namespace Go.Proofs.Ytjmkkkfloalliab
set_option linter.unusedVariables false
open Go.RowKit
variable {w w':World} {B bw k n m R:Nat} {vx vl vm:Value} {reg:ByteArray} {Pb Pr:Nat→Nat} {Pt Pa:Nat→ByteArray} {G C:Nat→Nat} {X:Nat→List Int} {lab:Nat→Nat}
theorem own_form3 {w:World} {B n size:Nat} {e:TypeId} {v:Value} {xs:List Value} (h:w.ownsRow B e size v n xs):∃ p cap,v=.slice p n cap:=by
 obtain ⟨_,⟨h,h2⟩ | ⟨g,cap,cur,h,_⟩⟩:=h
 ·exact ⟨_,_,by rw [h,h2]⟩
 ·exact ⟨_,_,h⟩
theorem pairsC_at {k i:Nat} (hi:i<k) (d:Nat) (hd:d<3):(pairsC Pb Pr Pt k)[i * 3 + d]?=(pairC (Pb i) (Pr i) (Pt i))[d]?:=by
 induction k with
 | zero=>omega
 | succ k ih =>
  have e:pairsC Pb Pr Pt (k + 1)=pairsC Pb Pr Pt k ++ pairC (Pb k) (Pr k) (Pt k):=by
   unfold pairsC
   rw [List.range_succ,List.flatMap_append]
   simp
  rw [e]
  have hl:=pairsC_len Pb Pr Pt k
  rcases Nat.lt_or_ge i k with g | g
  ·rw [List.getElem?_append_left (by omega)]
   exact ih g
  ·obtain rfl:i=k:=by omega
   rw [List.getElem?_append_right (by omega),hl]
   congr 1
   omega
set_option maxRecDepth 100000 in
set_option maxHeartbeats 3200000 in
theorem step_any (h:WI w B bw k n vx vl vm reg Pb Pr Pt Pa G C X lab) (kd a b c:Int) (s:ByteArray) (a0 : -9223372036854775808≤a) (a1:a≤9223372036854775807) (b0 : -9223372036854775808≤b) (b1:b≤9223372036854775807) (c0 : -9223372036854775808≤c) (c1:c≤9223372036854775807) (hs:s.size≤1048576) (hr:reg.size≤1000000000000000) (hn:n + 1≤100000000) (hk:k + 1≤100000000) :
    Calls Try.prog 29 #[.pointer (some ⟨bw,0,none⟩),opV kd a b c s] w fun e w'=>e=.returned (.bool true)∧Below B w w'∧∃ k' n' vx' vl' vm' reg' Pb' Pr' Pt' Pa' G' C' X' lab',WI w' B bw k' n' vx' vl' vm' reg' Pb' Pr' Pt' Pa' G' C' X' lab'∧k'≤k + 1∧n'≤n + 1∧reg'.size≤reg.size + 1048576 + 700:=by
 have hB1:Below w.heap.size w (w.alloc (.cells #[.int .i64 kd,.int .i64 a,.int .i64 b,.int .i64 c,.string s] 62)):=(Below.refl _ w).alloc (Nat.le_refl _) _
 have hO1:BlkT (w.alloc (.cells #[.int .i64 kd,.int .i64 a,.int .i64 b,.int .i64 c,.string s] 62)) w.heap.size 62 [.int .i64 kd,.int .i64 a,.int .i64 b,.int .i64 c,.string s]:=BlkT.new w _ _
 have H1:=hid (h.below hB1)
 have HB1:=hid (h.down hB1)
 have HML:Hid (s.size≤maxLen):=by show _≤_; unfold maxLen; omega
 have HRL:Hid (reg.size≤maxLen):=by show _≤_; unfold maxLen; omega
 have hbw:=h.mat.lt
 unfold opV
 clear h hB1
 go_enter Try.func29,Try.ntmps29
 go_upto_region 1 with fail
 generalize w.alloc (.cells #[.int .i64 kd,.int .i64 a,.int .i64 b,.int .i64 c,.string s] 62)=w1 at *
 have hob:w.heap.size ≠ bw:=by omega
 have HOW:Hid (Calls Try.prog 37 #[.pointer (some ⟨bw,0,none⟩),.agg #[.int .i64 kd,.int .i64 a,.int .i64 b,.int .i64 c,.string s]] w1 _):=ws_owner H1.out kd a b c s a0 a1 b0 b1 hs hr (by omega)
 have o0:=hO1.cell 0; have o1:=hO1.cell 1; have o2:=hO1.cell 2; have o3:=hO1.cell 3; have o4:=hO1.cell 4
 simp only [List.getElem?_cons_zero,List.getElem?_cons_succ] at o0 o1 o2 o3 o4
 go_wp2_with fail
 refine HOW.out.mono ?_
 rintro e w2 ⟨hB2,⟨rfl,hBB⟩ | ⟨rfl,reg',X',hr',hW2⟩⟩
 rotate_left
 ·have HD:Hid (Below B w w2):=HB1.out.trans hB2
  clear o0 o1 o2 o3 o4 hB2
  go_wp2
  go_ret
  exact ⟨rfl,HD.out,k,n,vx,vl,vm,reg',Pb,Pr,Pt,Pa,G,C,X',lab,hW2,by omega,by omega,by omega⟩
 have H2:=hid (H1.out.below hBB)
 have HB2:Hid (Below B w w2):=HB1.out.trans hB2
 have hO2:BlkT w2 w.heap.size 62 [.int .i64 kd,.int .i64 a,.int .i64 b,.int .i64 c,.string s]:=(hBB.block w.heap.size hO1.lt).trans hO1
 clear o0 o1 o2 o3 o4 hB2 hBB H1 HB1 HOW
 generalize w.heap.size=ob at *
 have o0:=hO2.cell 0; have o1:=hO2.cell 1; have o2:=hO2.cell 2; have o3:=hO2.cell 3; have o4:=hO2.cell 4
 simp only [List.getElem?_cons_zero,List.getElem?_cons_succ] at o0 o1 o2 o3 o4
 by_cases h1:kd=1
 ·subst h1
  have HBU:=hid (wi_built H2.out s b HML.out hk)
  go_wp2_with fail
  refine HBU.out.mono ?_
  rintro e w3 ⟨rfl,hB3,h3 | ⟨vx',r,bx,a',lab',_,h3⟩⟩
  ·have HD:Hid (Below B w w3):=HB2.out.trans hB3
   clear o0 o1 o2 o3 o4 hB3 HBU
   go_wp2
   go_ret
   exact ⟨rfl,HD.out,_,_,_,_,_,_,_,_,_,_,_,_,_,_,h3,by omega,by omega,by omega⟩
  ·have HD:Hid (Below B w w3):=HB2.out.trans hB3
   clear o0 o1 o2 o3 o4 hB3 HBU
   go_wp2
   go_ret
   exact ⟨rfl,HD.out,_,_,_,_,_,_,_,_,_,_,_,_,_,_,h3,by omega,by omega,by omega⟩
 by_cases h9:kd=9
 ·subst h9
  have HBU:=hid (wi_loaded H2.out HRL.out hk)
  go_wp2_with fail
  refine HBU.out.mono ?_
  rintro e w3 ⟨rfl,hB3,⟨_,h3⟩ | ⟨vx',t',r,bx,a',lab',_,h3⟩⟩
  ·have HD:Hid (Below B w w3):=HB2.out.trans hB3
   clear o0 o1 o2 o3 o4 hB3 HBU
   go_wp2
   go_ret
   exact ⟨rfl,HD.out,_,_,_,_,_,_,_,_,_,_,_,_,_,_,h3,by omega,by omega,by omega⟩
  ·have HD:Hid (Below B w w3):=HB2.out.trans hB3
   clear o0 o1 o2 o3 o4 hB3 HBU
   go_wp2
   go_ret
   exact ⟨rfl,HD.out,_,_,_,_,_,_,_,_,_,_,_,_,_,_,h3,by omega,by omega,by omega⟩
 have q1:(kd == 1)=false:=by simpa using h1
 have q9:(kd == 9)=false:=by simpa using h9
 have v0:=H2.out.mat.cell 0
 simp only [List.getElem?_cons_zero] at v0
 rcases Nat.eq_zero_or_pos k with hz | hz
 ·obtain ⟨px,cx,hvx⟩:=own_form3 H2.out.xs
  rw [hz] at hvx
  rw [hvx] at v0
  go_wp2
  go_ret
  exact ⟨rfl,HB2.out,_,_,_,_,_,_,_,_,_,_,_,_,_,_,H2.out,by omega,by omega,by omega⟩
 obtain ⟨gx,cx,hvx,hgx,rx⟩:=own_open H2.out.xs (fun e=>by have:=H2.out.xs; rw [e] at this; obtain ⟨_,⟨_,q⟩ | ⟨_,_,_,q,_⟩⟩:=this; omega; cases q)
 rw [hvx] at v0
 obtain ⟨r,hrk,HPK⟩:=lpick_ex a k a0 a1 (by omega) (by omega)
 have HPK:=hid HPK
 have hrk':r<k:=by omega
 have hpl:=pairsC_len Pb Pr Pt k
 have p0:w2.cell? ⟨gx,r * 3,none⟩=some (.pointer (some ⟨Pb r,0,none⟩)):=by
  rw [show r * 3=r * 3 + 0 by omega,rx.cell? (r * 3 + 0) (by omega),pairsC_at hrk' 0 (by omega)]; rfl
 have p1:w2.cell? ⟨gx,r * 3 + 1,none⟩=some (.string (Pt r)):=by
  rw [rx.cell? (r * 3 + 1) (by omega),pairsC_at hrk' 1 (by omega)]; rfl
 have p2:w2.cell? ⟨gx,r * 3 + 2,none⟩=some (.int .i64 (Pr r:Int)):=by
  rw [rx.cell? (r * 3 + 2) (by omega),pairsC_at hrk' 2 (by omega)]; rfl
 have i0:(0:Int)≤(r:Int):=by omega
 have i1:(r:Int)<(k:Int):=hrk
 have hzk:((k:Int) == 0)=false:=by simp; omega
 have lgx:=rx.lt
 have lob:=hO2.lt
 have lbw:=H2.out.mat.lt
 go_upto_region 11 with fail
 go_region_held3 (fun w'=>w'.cell? ⟨bw,0,none⟩=some (.slice (some ⟨gx,0,none⟩) k cx)∧w'.cell? ⟨ob,1,none⟩=some (.int .i64 a)∧w'.cell? ⟨gx,r * 3,none⟩=some (.pointer (some ⟨Pb r,0,none⟩))∧w'.cell? ⟨gx,r * 3 + 1,none⟩=some (.string (Pt r))∧w'.cell? ⟨gx,r * 3 + 2,none⟩=some (.int .i64 (Pr r:Int))) (go_keep) (first | (go_at_call 40; refine (HPK.out _).mono ?_; rintro e w3 ⟨rfl,rfl⟩))
 all_goals
  have hB3:Below w2.heap.size w2 ((w2.alloc (.cells #[.pointer (some ⟨Pb r,0,none⟩),.string (Pt r),.int .i64 (Pr r:Int)] 78)).drew):=((Below.refl _ _).alloc (Nat.le_refl _) _).drew
  have H3:=hid (H2.out.below hB3)
  have HB3:=hid (HB2.out.trans (H2.out.down hB3))
  have hP3:BlkT ((w2.alloc (.cells #[.pointer (some ⟨Pb r,0,none⟩),.string (Pt r),.int .i64 (Pr r:Int)] 78)).drew) w2.heap.size 78 [.pointer (some ⟨Pb r,0,none⟩),.string (Pt r),.int .i64 (Pr r:Int)]:=BlkT.new w2 _ _
  have hO3:BlkT ((w2.alloc (.cells #[.pointer (some ⟨Pb r,0,none⟩),.string (Pt r),.int .i64 (Pr r:Int)] 78)).drew) ob 62 [.int .i64 kd,.int .i64 a,.int .i64 b,.int .i64 c,.string s]:=hO2.alloc _
  clear o0 o1 o2 o3 o4 v0 p0 p1 p2 hB3 hO2 H2 HB2 HPK lgx lob lbw hgx rx hvx
  generalize (w2.alloc (.cells #[.pointer (some ⟨Pb r,0,none⟩),.string (Pt r),.int .i64 (Pr r:Int)] 78)).drew=w3 at *
  generalize w2.heap.size=bp at *
  have o0:=hO3.cell 0; have o2:=hO3.cell 2; have o3:=hO3.cell 3; have o4:=hO3.cell 4
  have p0:=hP3.cell 0; have p1:=hP3.cell 1; have p2:=hP3.cell 2
  simp only [List.getElem?_cons_zero,List.getElem?_cons_succ] at o0 o2 o3 o4 p0 p1 p2
  by_cases h2:kd=2
  ·subst h2
   have HS:Hid (∀ memo,Calls Try.prog 41 #[.pointer (some ⟨bw,0,none⟩),.agg #[.pointer (some ⟨Pb r,0,none⟩),.string (Pt r),.int .i64 (Pr r:Int)],.string s,.int .i64 b,.bool memo] w3 _):=fun memo=>wi_searched H3.out hrk' s b memo HML.out b0 b1 hn
   go_wp2_with fail
   refine (HS.out _).mono ?_
   rintro e w4 ⟨rfl,hB4,n',vl',vm',G',C',X',lab',hn',h4⟩
   have HD:Hid (Below B w w4):=HB3.out.trans hB4
   clear o0 o2 o3 o4 p0 p1 p2 hB4 HS
   go_wp2
   go_ret
   exact ⟨rfl,HD.out,_,_,_,_,_,_,_,_,_,_,_,_,_,_,h4,by omega,hn',by omega⟩
  have q2:(kd == 2)=false:=by simpa using h2
  by_cases h3:kd=3
  ·subst h3
   have HS:Hid (Calls Try.prog 42 #[.agg #[.pointer (some ⟨Pb r,0,none⟩),.string (Pt r),.int .i64 (Pr r:Int)],.string s,.int .i64 b] w3 _):=wi_counted H3.out hrk' s b HML.out b0 b1
   go_wp2_with fail
   refine HS.out.mono ?_
   rintro e w4 ⟨rfl,hB4,h4⟩
   have HD:Hid (Below B w w4):=HB3.out.trans hB4
   clear o0 o2 o3 o4 p0 p1 p2 hB4 HS
   go_wp2
   go_ret
   exact ⟨rfl,HD.out,_,_,_,_,_,_,_,_,_,_,_,_,_,_,h4,by omega,by omega,by omega⟩
  have q3:(kd == 3)=false:=by simpa using h3
  by_cases h4:kd=4
  ·subst h4
   have HS:Hid (Calls Try.prog 43 #[.agg #[.pointer (some ⟨Pb r,0,none⟩),.string (Pt r),.int .i64 (Pr r:Int)],.int .i64 b,.int .i64 c] w3 _):=wi_extracted H3.out hrk' b c b0 b1 c0 c1
   go_wp2_with fail
   refine HS.out.mono ?_
   rintro e w4 ⟨rfl,hB4,h4⟩
   have HD:Hid (Below B w w4):=HB3.out.trans hB4
   clear o0 o2 o3 o4 p0 p1 p2 hB4 HS
   go_wp2
   go_ret
   exact ⟨rfl,HD.out,_,_,_,_,_,_,_,_,_,_,_,_,_,_,h4,by omega,by omega,by omega⟩
  have q4:(kd == 4)=false:=by simpa using h4
  by_cases h5:kd=5
  ·subst h5
   have HS:Hid (Calls Try.prog 44 #[.pointer (some ⟨bw,0,none⟩),.agg #[.pointer (some ⟨Pb r,0,none⟩),.string (Pt r),.int .i64 (Pr r:Int)]] w3 _):=wi_saved H3.out hrk'
   go_wp2_with fail
   refine HS.out.mono ?_
   rintro e w4 ⟨rfl,hB4,s',hs',_,h4⟩
   have HD:Hid (Below B w w4):=HB3.out.trans hB4
   clear o0 o2 o3 o4 p0 p1 p2 hB4 HS
   go_wp2
   go_ret
   exact ⟨rfl,HD.out,_,_,_,_,_,_,_,_,_,_,_,_,_,_,h4,by omega,by omega,by omega⟩
  have q5:(kd == 5)=false:=by simpa using h5
  by_cases h10:kd=10
  ·subst h10
   have HL:Hid (Calls Try.prog 21 #[.pointer (some ⟨Pb r,0,none⟩)] w3 fun e w'=>e=.returned (.int .i64 ((Pt r).size:Int))∧w'=w3):=by
    refine (len_any _ _ _ _ w3 (H3.out.idx r hrk').idx).mono ?_
    rintro e w' ⟨rfl,rfl⟩
    rw [(H3.out.idx r hrk').size]
    exact ⟨rfl,rfl⟩
   have HR:Hid (Calls Try.prog 45 #[.pointer (some ⟨Pb r,0,none⟩)] w3 fun e w'=>e=.returned (.int .i64 (Pr r:Int))∧w'=w3):=rate_any _ _ _ _ w3 (H3.out.idx r hrk').idx
   go_wp2_with fail
   refine HL.out.mono ?_
   rintro e w' ⟨rfl,rfl⟩
   go_wp2_with fail
   refine HR.out.mono ?_
   rintro e w' ⟨rfl,rfl⟩
   go_wp2
   go_ret
   exact ⟨rfl,HB3.out,_,_,_,_,_,_,_,_,_,_,_,_,_,_,H3.out,by omega,by omega,by omega⟩
  have q10:(kd == 10)=false:=by simpa using h10
  go_wp2
  go_ret
  exact ⟨rfl,HB3.out,_,_,_,_,_,_,_,_,_,_,_,_,_,_,H3.out,by omega,by omega,by omega⟩
end Go.Proofs.Ytjmkkkfloalliab
