import Derived.Test.YtjmkkkfloalliabZ09
import Derived.Test.YtjmkkkfloalliabZ08
import Derived.Test.YtjmkkkfloalliabZ01
import Derived.Test.YtjmkkkfloalliabZ03
import Derived.Test.YtjmkkkfloalliabZ05
namespace Go.Proofs.Ytjmkkkfloalliab.Q
set_option linter.unusedVariables false
variable {s:List UInt8}
theorem leaf_stay {σ:Rd} (h:σ.wrong=true):(leaf s σ).2.wrong=true∧(leaf s σ).2.at_=σ.at_:=by
 unfold leaf
 rw [next_wrong h,if_pos (by rfl)]
 exact ⟨rfl,rfl⟩
theorem go_stay:∀ (f:Nat) (j:Job) (σ:Rd),σ.wrong=true→(go s f j σ).2.wrong=true∧(go s f j σ).2.at_=σ.at_
 | 0,_,σ,h=>⟨h,rfl⟩
 | f + 1,.inl (),σ,h=>by
  obtain ⟨a,b⟩:=go_stay f .seq σ h
  obtain ⟨c,d⟩:=go_stay f (.altL (go s f .seq σ).1) _ a
  exact ⟨c,d.trans b⟩
 | f + 1,.inr (.inl n),σ,h=>by
  unfold go
  rw [next_wrong h,if_neg (by decide)]
  exact ⟨h,rfl⟩
 | f + 1,.inr (.inr (.inl ())),σ,h=>go_stay f (.seqL _) (add (mk 0 0 0) σ).2 h
 | f + 1,.inr (.inr (.inr (.inl n))),σ,h=>by
  unfold go
  rw [next_wrong h,if_pos (by rfl)]
  exact ⟨h,rfl⟩
 | f + 1,.inr (.inr (.inr (.inr (.inl ())))),σ,h=>by
  obtain ⟨a,b⟩:=go_stay f .term σ h
  obtain ⟨c,d⟩:=go_stay f (.repL (go s f .term σ).1) _ a
  exact ⟨c,d.trans b⟩
 | f + 1,.inr (.inr (.inr (.inr (.inr (.inl n))))),σ,h=>by
  unfold go
  rw [next_wrong h,if_neg (by decide)]
  exact ⟨h,rfl⟩
 | f + 1,.inr (.inr (.inr (.inr (.inr (.inr ()))))),σ,h=>by
  unfold go
  rw [next_wrong h,if_neg (by decide)]
  exact leaf_stay h
theorem closed_out (τ:Rd):((closed s τ).wrong=true∧(closed s τ).at_=τ.at_∧next s τ ≠ 41)∨((closed s τ).wrong=τ.wrong∧(closed s τ).at_=τ.at_ + 1∧next s τ=41):=by
 unfold closed
 rcases need_out (s:=s) (σ:={ τ with depth:=τ.depth - 1 }) 41 with ⟨a,b,c⟩ | ⟨a,b⟩
 ·exact .inl ⟨a,b,c⟩
 ·rw [a]; exact .inr ⟨rfl,rfl,b⟩
def Out0 (s:List UInt8) (x:UInt8) (i:Nat) (τ:Rd):Prop:=i≤τ.at_∧τ.at_≤s.length∧((τ.wrong=true∧G.O s τ.at_ x i=true)∨(τ.wrong=false∧G.D s x i τ.at_ ≠ none))
def OutL (s:List UInt8) (σ τ:Rd):Prop:=σ.at_≤τ.at_∧τ.at_≤s.length∧((τ.wrong=true∧next s σ=124∧σ.at_ + 1≤τ.at_∧G.O s τ.at_ 65 (σ.at_ + 1)=true)∨(τ.wrong=false∧(τ.at_=σ.at_∨(next s σ=124∧σ.at_ + 1≤τ.at_∧G.D s 65 (σ.at_ + 1) τ.at_ ≠ none))))
structure Ok (s:List UInt8) (σ:Rd):Prop where
 wrong:σ.wrong=false
 le:σ.at_≤s.length
 parts:PartsOk σ.parts
theorem join_alt {i k:Nat} {σ τ:Rd} (hk:i≤k) (hD:G.D s 67 i k ≠ none) (e:σ.at_=k) (h:OutL s σ τ):Out0 s 65 i τ:=by
 obtain ⟨a1,a2,a3⟩:=h
 refine ⟨by omega,a2,?_⟩
 rcases a3 with ⟨w,n1,g,o⟩ | ⟨w,g | ⟨n1,g,dd⟩⟩
 ·have d1:=lit_of (s:=s) (σ:=σ) 124 (by decide) (fun x=>rfl) n1
  rw [e] at d1 g o
  exact .inl ⟨w,O_mk (l:=[67,124,65]) (by decide) (by omega) (by decide) (skips_no (by decide)) (bg_step hD hk (by omega) (bg_step d1 (by omega) g (bg_open o)))⟩
 ·rw [g,e]
  exact .inr ⟨w,D_mk (l:=[67]) (by decide) hk (by omega) (by decide) (skips_no (by decide)) (parts_mk hD (parts_nilk _) hk (Nat.le_refl _))⟩
 ·have d1:=lit_of (s:=s) (σ:=σ) 124 (by decide) (fun x=>rfl) n1
  rw [e] at d1 g dd
  exact .inr ⟨w,D_mk (l:=[67,124,65]) (by decide) (by omega) a2 (by decide) (skips_no (by decide)) (parts_mk hD (parts_mk d1 (parts_mk dd (parts_nilk _) g (Nat.le_refl _)) (by omega) g) hk (by omega))⟩
theorem go_out:∀ f:Nat,
    (∀ σ,8 * left s σ + 6≤f→Ok s σ→Out0 s 65 σ.at_ (go s f .alt σ).2) ∧
    (∀ σ n,8 * left s σ + 1≤f→Ok s σ→n<σ.parts.length→OutL s σ (go s f (.altL n) σ).2) ∧
    (∀ σ,8 * left s σ + 5≤f→Ok s σ→Out0 s 67 σ.at_ (go s f .seq σ).2) ∧
    (∀ σ n,8 * left s σ + 4≤f→Ok s σ→n<σ.parts.length→Out0 s 67 σ.at_ (go s f (.seqL n) σ).2) ∧
    (∀ σ,8 * left s σ + 3≤f→Ok s σ→Outc s 82 σ.at_ (go s f .rep σ).2) ∧
    (∀ σ n,8 * left s σ + 1≤f→Ok s σ→n<σ.parts.length→Out0 s 81 σ.at_ (go s f (.repL n) σ).2) ∧
    (∀ σ,8 * left s σ + 1≤f→Ok s σ→Outc s 84 σ.at_ (go s f .term σ).2)
 | 0=>⟨fun _ h=>by omega,fun _ _ h=>by omega,fun _ h=>by omega,fun _ _ h=>by omega,fun _ h=>by omega,fun _ _ h=>by omega,fun _ h=>by omega⟩
 | f + 1=>by
  obtain ⟨iAlt,iAltL,iSeq,iSeqL,iRep,iRepL,iTerm⟩:=go_out f
  refine ⟨?_,?_,?_,?_,?_,?_,?_⟩
  ·-- alt
   intro σ hf h
   have g1:=(go_good (s:=s) f .seq σ (by simp only [Job.rank]; omega) h.parts trivial).1
   have hl:=g1.on.left
   obtain ⟨a1,a2,a3⟩:=iSeq σ (by omega) h
   unfold go
   rcases a3 with ⟨w,o⟩ | ⟨w,dd⟩
   ·obtain ⟨b1,b2⟩:=go_stay (s:=s) f (.altL (go s f .seq σ).1) _ w
    refine ⟨by omega,by omega,.inl ⟨b1,?_⟩⟩
    rw [b2]
    exact O_up (l:=[]) (by decide) a1 (by decide) (by decide) o
   ·exact join_alt a1 dd rfl (iAltL (go s f .seq σ).2 _ (by omega) ⟨w,a2,g1.ok⟩ g1.lt)
  ·-- altL
   intro σ n hf h hn
   unfold go
   by_cases g:next s σ=124
   ·rw [if_pos g]
    have hne:next s σ ≠ -1:=by rw [g]; decide
    have hl0:=fwd_left hne
    obtain ⟨_,p2,_⟩:=next_lt hne
    have hO:Ok s (fwd σ):=⟨h.wrong,p2,h.parts⟩
    have g1:=(go_good (s:=s) f .seq (fwd σ) (by simp only [Job.rank]; omega) h.parts trivial).1
    have hl:=g1.on.left
    have hn2:n<(go s f .seq (fwd σ)).2.parts.length:=Nat.lt_of_lt_of_le hn g1.len
    have hpo:PartOk (go s f .seq (fwd σ)).2.parts.length (mk 3 n (go s f .seq (fwd σ)).1):=mk_ok _ _ _ _ (by omega) (fun _=>hn2) (fun _=>g1.lt)
    obtain ⟨a1,a2,a3⟩:=iSeq (fwd σ) (by omega) hO
    have a1:σ.at_ + 1≤(go s f .seq (fwd σ)).2.at_:=a1
    have key:Out0 s 65 (σ.at_ + 1) (go s f (.altL (add (mk 3 n (go s f .seq (fwd σ)).1) (go s f .seq (fwd σ)).2).1) (add (mk 3 n (go s f .seq (fwd σ)).1) (go s f .seq (fwd σ)).2).2).2:=by
     rcases a3 with ⟨w,o⟩ | ⟨w,dd⟩
     ·obtain ⟨b1,b2⟩:=go_stay (s:=s) f (.altL (add (mk 3 n (go s f .seq (fwd σ)).1) (go s f .seq (fwd σ)).2).1) (add (mk 3 n (go s f .seq (fwd σ)).1) (go s f .seq (fwd σ)).2).2 w
      have b2:_=(go s f .seq (fwd σ)).2.at_:=b2
      refine ⟨by omega,by omega,.inl ⟨b1,?_⟩⟩
      rw [b2]
      exact O_up (l:=[]) (by decide) a1 (by decide) (by decide) o
     ·exact join_alt (σ:=(add (mk 3 n (go s f .seq (fwd σ)).1) (go s f .seq (fwd σ)).2).2) a1 dd rfl (iAltL _ _ (by have:left s (add (mk 3 n (go s f .seq (fwd σ)).1) (go s f .seq (fwd σ)).2).2=left s (go s f .seq (fwd σ)).2:=rfl; omega) ⟨w,a2,g1.ok.add hpo⟩ (by simp [add]))
    obtain ⟨k1,k2,k3⟩:=key
    refine ⟨by omega,k2,?_⟩
    rcases k3 with ⟨w,o⟩ | ⟨w,dd⟩
    ·exact .inl ⟨w,g,k1,o⟩
    ·exact .inr ⟨w,.inr ⟨g,k1,dd⟩⟩
   ·rw [if_neg g]
    exact ⟨Nat.le_refl _,h.le,.inr ⟨h.wrong,.inl rfl⟩⟩
  ·-- seq
   intro σ hf h
   unfold go
   have hpo:PartOk σ.parts.length (mk 0 0 0):=mk_ok _ _ _ _ (by omega) (fun h=>by omega) (fun h=>by omega)
   exact iSeqL (add (mk 0 0 0) σ).2 _ (by have:left s (add (mk 0 0 0) σ).2=left s σ:=rfl; omega) ⟨h.wrong,h.le,h.parts.add hpo⟩ (by simp [add])
  ·-- seqL
   intro σ n hf h hn
   unfold go
   by_cases g:ends (next s σ)=true
   ·rw [if_pos g]
    exact ⟨Nat.le_refl _,h.le,.inr ⟨h.wrong,D_mk (l:=[]) (by decide) (Nat.le_refl _) h.le (by decide) (skips_no (by decide)) (parts_nilk _)⟩⟩
   ·rw [if_neg g]
    have hne:next s σ ≠ -1:=by intro e; rw [e] at g; exact g rfl
    obtain ⟨g1,adv⟩:=go_good (s:=s) f .rep σ (by simp only [Job.rank]; omega) h.parts trivial
    have hl1:left s (go s f .rep σ).2<left s σ:=adv hne
    have hn2:n<(go s f .rep σ).2.parts.length:=Nat.lt_of_lt_of_le hn g1.len
    have hpo:PartOk (go s f .rep σ).2.parts.length (mk 2 n (go s f .rep σ).1):=mk_ok _ _ _ _ (by omega) (fun _=>hn2) (fun _=>g1.lt)
    obtain ⟨a1,a2,a3⟩:=iRep σ (by omega) h
    rcases a3 with ⟨w,o⟩ | ⟨w,dd,lt⟩
    ·obtain ⟨b1,b2⟩:=go_stay (s:=s) f (.seqL (add (mk 2 n (go s f .rep σ).1) (go s f .rep σ).2).1) (add (mk 2 n (go s f .rep σ).1) (go s f .rep σ).2).2 w
     have b2:_=(go s f .rep σ).2.at_:=b2
     refine ⟨by omega,by omega,.inl ⟨b1,?_⟩⟩
     rw [b2]
     exact O_up (l:=[67]) (by decide) a1 (by decide) (by decide) o
    ·obtain ⟨q1,q2,q3⟩:=iSeqL (add (mk 2 n (go s f .rep σ).1) (go s f .rep σ).2).2 (add (mk 2 n (go s f .rep σ).1) (go s f .rep σ).2).1 (by have:left s (add (mk 2 n (go s f .rep σ).1) (go s f .rep σ).2).2=left s (go s f .rep σ).2:=rfl; omega) ⟨w,a2,g1.ok.add hpo⟩ (by simp [add])
     have q1:(go s f .rep σ).2.at_≤_:=q1
     refine ⟨by omega,q2,?_⟩
     rcases q3 with ⟨w2,o2⟩ | ⟨w2,dd2⟩
     ·exact .inl ⟨w2,O_mk (l:=[82,67]) (by decide) (by omega) (by decide) (skips_no (by decide)) (bg_step dd a1 q1 (bg_open o2))⟩
     ·exact .inr ⟨w2,D_mk (l:=[82,67]) (by decide) (by omega) q2 (by decide) (skips_no (by decide)) (parts_mk dd (parts_mk dd2 (parts_nilk _) q1 (Nat.le_refl _)) a1 q1)⟩
  ·-- rep
   intro σ hf h
   have g1:=(go_good (s:=s) f .term σ (by simp only [Job.rank]; omega) h.parts trivial).1
   have hl:=g1.on.left
   obtain ⟨a1,a2,a3⟩:=iTerm σ (by omega) h
   unfold go
   rcases a3 with ⟨w,o⟩ | ⟨w,dd,lt⟩
   ·obtain ⟨b1,b2⟩:=go_stay (s:=s) f (.repL (go s f .term σ).1) _ w
    refine ⟨by omega,by omega,.inl ⟨b1,?_⟩⟩
    rw [b2]
    exact O_up (l:=[81]) (by decide) a1 (by decide) (by decide) o
   ·obtain ⟨q1,q2,q3⟩:=iRepL (go s f .term σ).2 _ (by omega) ⟨w,a2,g1.ok⟩ g1.lt
    refine ⟨by omega,q2,?_⟩
    rcases q3 with ⟨w2,o2⟩ | ⟨w2,dd2⟩
    ·exact .inl ⟨w2,O_mk (l:=[84,81]) (by decide) (by omega) (by decide) (skips_no (by decide)) (bg_step dd a1 q1 (bg_open o2))⟩
    ·exact .inr ⟨w2,D_mk (l:=[84,81]) (by decide) (by omega) q2 (by decide) (skips_no (by decide)) (parts_mk dd (parts_mk dd2 (parts_nilk _) q1 (Nat.le_refl _)) a1 q1),by omega⟩
  ·-- repL
   intro σ n hf h hn
   unfold go
   by_cases g:isRep (next s σ)=true
   ·rw [if_pos g]
    obtain ⟨o1,hne⟩:=repPart_on n σ g
    have hl1:=o1.left
    have hl2:=fwd_left hne
    have hpp:(repPart s n σ).2.parts=σ.parts:=repPart_parts n σ
    have hpo:PartOk (repPart s n σ).2.parts.length (repPart s n σ).1:=repPart_ok _ _ _ (by rw [hpp]; exact hn)
    have hok:PartsOk (repPart s n σ).2.parts:=by rw [hpp]; exact h.parts
    obtain ⟨a1,a2,a3⟩:=repPart_out n h.wrong g
    rcases a3 with ⟨w,o⟩ | ⟨w,lt,dd,oo⟩
    ·obtain ⟨b1,b2⟩:=go_stay (s:=s) f (.repL (add (repPart s n σ).1 (repPart s n σ).2).1) (add (repPart s n σ).1 (repPart s n σ).2).2 w
     have b2:_=(repPart s n σ).2.at_:=b2
     refine ⟨by omega,by omega,.inl ⟨b1,?_⟩⟩
     rw [b2]
     exact o
    ·obtain ⟨q1,q2,q3⟩:=iRepL (add (repPart s n σ).1 (repPart s n σ).2).2 (add (repPart s n σ).1 (repPart s n σ).2).1 (by have:left s (add (repPart s n σ).1 (repPart s n σ).2).2=left s (repPart s n σ).2:=rfl; omega) ⟨w,a2,hok.add hpo⟩ (by simp [add])
     have q1:(repPart s n σ).2.at_≤_:=q1
     refine ⟨by omega,q2,?_⟩
     rcases q3 with ⟨w2,o2⟩ | ⟨w2,dd2⟩
     ·exact .inl ⟨w2,oo _ q1 o2⟩
     ·exact .inr ⟨w2,dd _ q1 q2 dd2⟩
   ·rw [if_neg g]
    exact ⟨Nat.le_refl _,h.le,.inr ⟨h.wrong,D_mk (l:=[]) (by decide) (Nat.le_refl _) h.le (by decide) (skips_no (by decide)) (parts_nilk _)⟩⟩
  ·-- term
   intro σ hf h
   unfold go
   by_cases g:next s σ=40
   ·rw [if_pos g]
    have hne:next s σ ≠ -1:=by rw [g]; decide
    have hl0:=opened_left hne
    obtain ⟨_,p2,_⟩:=next_lt hne
    have d1:=lit_of (s:=s) (σ:=σ) 40 (by decide) (fun x=>rfl) g
    obtain ⟨a1,a2,a3⟩:=iAlt (opened σ) (by omega) ⟨h.wrong,p2,h.parts⟩
    have a1:σ.at_ + 1≤(go s f .alt (opened σ)).2.at_:=a1
    show Outc s 84 σ.at_ (closed s (go s f .alt (opened σ)).2)
    rcases closed_out (s:=s) (go s f .alt (opened σ)).2 with ⟨w1,e1,n1⟩ | ⟨w1,e1,n2⟩
    ·refine ⟨by omega,by omega,.inl ⟨w1,?_⟩⟩
     rw [e1]
     rcases a3 with ⟨w,o⟩ | ⟨w,dd⟩
     ·exact O_mk (l:=[40,65,41]) (by decide) (by omega) (by decide) (skips_no (by decide)) (bg_step d1 (by omega) a1 (bg_open o))
     ·exact O_mk (l:=[40,65,41]) (by decide) (by omega) (by decide) (skips_no (by decide)) (bg_step d1 (by omega) a1 (bg_step dd a1 (Nat.le_refl _) (bg_open (G.O_end s _ _))))
    ·rcases a3 with ⟨w,o⟩ | ⟨w,dd⟩
     ·rw [next_wrong w] at n2; cases n2
     ·have d2:=lit_of (s:=s) (σ:=(go s f .alt (opened σ)).2) 41 (by decide) (fun x=>rfl) n2
      obtain ⟨_,b2,_⟩:=next_lt (s:=s) (σ:=(go s f .alt (opened σ)).2) (by rw [n2]; decide)
      refine ⟨by omega,by omega,.inr ⟨by rw [w1]; exact w,?_,by omega⟩⟩
      rw [e1]
      exact D_mk (l:=[40,65,41]) (by decide) (by omega) b2 (by decide) (skips_no (by decide)) (parts_mk d1 (parts_mk dd (parts_mk d2 (parts_nilk _) (by omega) (Nat.le_refl _)) a1 (by omega)) (by omega) (by omega))
   ·rw [if_neg g]
    exact leaf_out h.wrong h.le g
end Go.Proofs.Ytjmkkkfloalliab.Q
namespace Go.Proofs.Ytjmkkkfloalliab.Q
set_option linter.unusedVariables false
variable {s:List UInt8}
section
variable {f n:Nat} {σ:Rd}
theorem go_altL_yes (g:next s σ=124):go s (f + 1) (.altL n) σ=go s f (.altL (add (mk 3 n (go s f .seq (fwd σ)).1) (go s f .seq (fwd σ)).2).1) (add (mk 3 n (go s f .seq (fwd σ)).1) (go s f .seq (fwd σ)).2).2:=by
 conv=>lhs; unfold go
 rw [if_pos g]
theorem go_altL_no (g:next s σ ≠ 124):go s (f + 1) (.altL n) σ=(n,σ):=by
 conv=>lhs; unfold go
 rw [if_neg g]
theorem go_seqL_end (g:ends (next s σ)=true):go s (f + 1) (.seqL n) σ=(n,σ):=by
 conv=>lhs; unfold go
 rw [if_pos g]
theorem go_seqL_on (g:¬ ends (next s σ)=true):go s (f + 1) (.seqL n) σ=go s f (.seqL (add (mk 2 n (go s f .rep σ).1) (go s f .rep σ).2).1) (add (mk 2 n (go s f .rep σ).1) (go s f .rep σ).2).2:=by
 conv=>lhs; unfold go
 rw [if_neg g]
theorem go_repL_yes (g:isRep (next s σ)=true):go s (f + 1) (.repL n) σ=go s f (.repL (add (repPart s n σ).1 (repPart s n σ).2).1) (add (repPart s n σ).1 (repPart s n σ).2).2:=by
 conv=>lhs; unfold go
 rw [if_pos g]
theorem go_repL_no (g:¬ isRep (next s σ)=true):go s (f + 1) (.repL n) σ=(n,σ):=by
 conv=>lhs; unfold go
 rw [if_neg g]
theorem go_term_br (g:next s σ=40):go s (f + 1) .term σ=((go s f .alt (opened σ)).1,closed s (go s f .alt (opened σ)).2):=by
 conv=>lhs; unfold go
 rw [if_pos g]
theorem go_term_leaf (g:next s σ ≠ 40):go s (f + 1) .term σ=add (leaf s σ).1 (leaf s σ).2:=by
 conv=>lhs; unfold go
 rw [if_neg g]
end
theorem go_stab:∀ (f:Nat) (j:Job) (σ:Rd),8 * left s σ + j.rank≤f→PartsOk σ.parts→j.ok σ→go s (f + 1) j σ=go s f j σ
 | 0,j,_,h,_,_=>by have:=Job.rank_pos j; omega
 | f + 1,.inl (),σ,h,hp,_=>by
  simp only [Job.rank] at h
  have g1:=(go_good (s:=s) f .seq σ (by simp only [Job.rank]; omega) hp trivial).1
  have hl:=g1.on.left
  have e1:=go_stab f .seq σ (by simp only [Job.rank]; omega) hp trivial
  have e2:=go_stab f (.altL (go s f .seq σ).1) (go s f .seq σ).2 (by simp only [Job.rank]; omega) g1.ok g1.lt
  show go s (f + 1) (.altL (go s (f + 1) .seq σ).1) (go s (f + 1) .seq σ).2=go s f (.altL (go s f .seq σ).1) (go s f .seq σ).2
  rw [e1,e2]
 | f + 1,.inr (.inl n),σ,h,hp,hn=>by
  simp only [Job.rank] at h
  by_cases g:next s σ=124
  ·have hne:next s σ ≠ -1:=by rw [g]; decide
   have hl0:=fwd_left hne
   have g1:=(go_good (s:=s) f .seq (fwd σ) (by simp only [Job.rank]; omega) hp trivial).1
   have hl:=g1.on.left
   have hn2:n<(go s f .seq (fwd σ)).2.parts.length:=Nat.lt_of_lt_of_le hn g1.len
   have hpo:PartOk (go s f .seq (fwd σ)).2.parts.length (mk 3 n (go s f .seq (fwd σ)).1):=mk_ok _ _ _ _ (by omega) (fun _=>hn2) (fun _=>g1.lt)
   have e1:=go_stab f .seq (fwd σ) (by simp only [Job.rank]; omega) hp trivial
   have e2:=go_stab f (.altL (add (mk 3 n (go s f .seq (fwd σ)).1) (go s f .seq (fwd σ)).2).1) (add (mk 3 n (go s f .seq (fwd σ)).1) (go s f .seq (fwd σ)).2).2 (by simp only [Job.rank]; have:left s (add (mk 3 n (go s f .seq (fwd σ)).1) (go s f .seq (fwd σ)).2).2=left s (go s f .seq (fwd σ)).2:=rfl; omega) (g1.ok.add hpo) (by simp [add,Job.ok])
   rw [go_altL_yes g,e1,e2,go_altL_yes g]
  ·rw [go_altL_no g,go_altL_no g]
 | f + 1,.inr (.inr (.inl ())),σ,h,hp,_=>by
  simp only [Job.rank] at h
  have hpo:PartOk σ.parts.length (mk 0 0 0):=mk_ok _ _ _ _ (by omega) (fun h=>by omega) (fun h=>by omega)
  exact go_stab f (.seqL (add (mk 0 0 0) σ).1) (add (mk 0 0 0) σ).2 (by simp only [Job.rank]; have:left s (add (mk 0 0 0) σ).2=left s σ:=rfl; omega) (hp.add hpo) (by simp [add,Job.ok])
 | f + 1,.inr (.inr (.inr (.inl n))),σ,h,hp,hn=>by
  simp only [Job.rank] at h
  by_cases g:ends (next s σ)=true
  ·rw [go_seqL_end g,go_seqL_end g]
  ·have hne:next s σ ≠ -1:=by intro e; rw [e] at g; exact g rfl
   obtain ⟨g1,adv⟩:=go_good (s:=s) f .rep σ (by simp only [Job.rank]; omega) hp trivial
   have hl1:left s (go s f .rep σ).2<left s σ:=adv hne
   have hn2:n<(go s f .rep σ).2.parts.length:=Nat.lt_of_lt_of_le hn g1.len
   have hpo:PartOk (go s f .rep σ).2.parts.length (mk 2 n (go s f .rep σ).1):=mk_ok _ _ _ _ (by omega) (fun _=>hn2) (fun _=>g1.lt)
   have e1:=go_stab f .rep σ (by simp only [Job.rank]; omega) hp trivial
   have e2:=go_stab f (.seqL (add (mk 2 n (go s f .rep σ).1) (go s f .rep σ).2).1) (add (mk 2 n (go s f .rep σ).1) (go s f .rep σ).2).2 (by simp only [Job.rank]; have:left s (add (mk 2 n (go s f .rep σ).1) (go s f .rep σ).2).2=left s (go s f .rep σ).2:=rfl; omega) (g1.ok.add hpo) (by simp [add,Job.ok])
   rw [go_seqL_on g,e1,e2,go_seqL_on g]
 | f + 1,.inr (.inr (.inr (.inr (.inl ())))),σ,h,hp,_=>by
  simp only [Job.rank] at h
  have g1:=(go_good (s:=s) f .term σ (by simp only [Job.rank]; omega) hp trivial).1
  have hl:=g1.on.left
  have e1:=go_stab f .term σ (by simp only [Job.rank]; omega) hp trivial
  have e2:=go_stab f (.repL (go s f .term σ).1) (go s f .term σ).2 (by simp only [Job.rank]; omega) g1.ok g1.lt
  show go s (f + 1) (.repL (go s (f + 1) .term σ).1) (go s (f + 1) .term σ).2=go s f (.repL (go s f .term σ).1) (go s f .term σ).2
  rw [e1,e2]
 | f + 1,.inr (.inr (.inr (.inr (.inr (.inl n))))),σ,h,hp,hn=>by
  simp only [Job.rank] at h
  by_cases g:isRep (next s σ)=true
  ·obtain ⟨o1,hne⟩:=repPart_on n σ g
   have hl1:=o1.left
   have hl2:=fwd_left hne
   have hpp:(repPart s n σ).2.parts=σ.parts:=repPart_parts n σ
   have hpo:PartOk (repPart s n σ).2.parts.length (repPart s n σ).1:=repPart_ok _ _ _ (by rw [hpp]; exact hn)
   have hok:PartsOk (repPart s n σ).2.parts:=by rw [hpp]; exact hp
   have e2:=go_stab f (.repL (add (repPart s n σ).1 (repPart s n σ).2).1) (add (repPart s n σ).1 (repPart s n σ).2).2 (by simp only [Job.rank]; have:left s (add (repPart s n σ).1 (repPart s n σ).2).2=left s (repPart s n σ).2:=rfl; omega) (hok.add hpo) (by simp [add,Job.ok])
   rw [go_repL_yes g,e2,go_repL_yes g]
  ·rw [go_repL_no g,go_repL_no g]
 | f + 1,.inr (.inr (.inr (.inr (.inr (.inr ()))))),σ,h,hp,_=>by
  simp only [Job.rank] at h
  by_cases g:next s σ=40
  ·have hne:next s σ ≠ -1:=by rw [g]; decide
   have hl0:=opened_left hne
   have e1:=go_stab f .alt (opened σ) (by simp only [Job.rank]; omega) hp trivial
   rw [go_term_br g,e1,go_term_br g]
  ·rw [go_term_leaf g,go_term_leaf g]
theorem go_same {f g:Nat} {j:Job} {σ:Rd} (h:8 * left s σ + j.rank≤f) (hg:f≤g) (hp:PartsOk σ.parts) (ho:j.ok σ):go s g j σ=go s f j σ:=by
 obtain ⟨k,rfl⟩:∃ k,g=f + k:=⟨g - f,by omega⟩
 clear hg
 induction k with
 | zero=>rfl
 | succ k ih=>rw [show f + (k + 1)=f + k + 1 by omega,go_stab (f + k) j σ (by omega) hp ho]; exact ih
/-! what is open -/
theorem bg_end {E i:Nat} (h:G.bg s E (G.O s E) [] i=true):i=E:=by simpa [G.bg] using h
theorem bg_nt {E i:Nat} {y:UInt8} {l:List UInt8} (h:G.bg s E (G.O s E) (y :: l) i=true):G.O s E y i=true∨∃ k,i≤k∧k≤E∧G.D s y i k ≠ none∧G.bg s E (G.O s E) l k=true:=by
 unfold G.bg at h
 rw [Bool.or_eq_true] at h
 rcases h with h | h
 ·exact .inl h
 ·obtain ⟨k,hk,e⟩:=List.any_eq_true.1 h
  rw [List.mem_range'_1] at hk
  rw [Bool.and_eq_true] at e
  exact .inr ⟨k,hk.1,by omega,Option.isSome_iff_ne_none.1 e.1,e.2⟩
theorem D_lit_inv {c:UInt8} {i k:Nat} (hc:G.isNt c=false) (h:G.D s c i k ≠ none):k=i + 1∧G.cls c (s.getD i 0)=true:=by
 rw [G.D_term s c i k hc] at h
 split at h
 ·next g=>exact g
 ·exact absurd rfl h
theorem bg_lit {E i:Nat} {c:UInt8} {l:List UInt8} (hc:G.isNt c=false) (hi:i<E) (h:G.bg s E (G.O s E) (c :: l) i=true):G.cls c (s.getD i 0)=true∧(E=i + 1∨G.bg s E (G.O s E) l (i + 1)=true):=by
 rcases bg_nt h with h | ⟨k,h1,h2,h3,h4⟩
 ·rw [G.O_term s E c i hc (by omega),Bool.and_eq_true,beq_iff_eq] at h
  exact ⟨h.1,.inl h.2.symm⟩
 ·obtain ⟨rfl,h5⟩:=D_lit_inv hc h3
  exact ⟨h5,.inr h4⟩
theorem parts_bg {E:Nat}:∀ (l:List UInt8) (i:Nat) (ks:List G.Tr),G.parts (G.D s) l i E=some ks→G.bg s E (G.O s E) l i=true
 | [],i,ks,h=>by
  obtain ⟨rfl,_⟩:=parts_nil h
  exact bg_nil _
 | x :: l,i,ks,h=>by
  obtain ⟨k,t,ks',h1,h2,h3,h4,_⟩:=parts_cons h
  exact bg_step (by rw [h3]; exact Option.some_ne_none _) h1 h2 (parts_bg l k ks' h4)
theorem D_O {E i:Nat} {x:UInt8} (hi:i≤E) (hE:E≤s.length) (h:G.D s x i E ≠ none):G.O s E x i=true:=by
 rcases Nat.eq_or_lt_of_le hi with e | e
 ·rw [e]; exact G.O_end s E x
 ·cases hn:G.isNt x with
  | false =>
   obtain ⟨h1,h2⟩:=D_lit_inv hn h
   rw [G.O_term s E x i hn (by omega),h2,Bool.true_and,beq_iff_eq]
   exact h1.symm
  | true =>
   rw [G.D_nt s x i E hn hi hE] at h
   obtain ⟨τ,hτ⟩:=Option.ne_none_iff_exists'.1 h
   obtain ⟨n,l,ks,h1,h2,h3,_⟩:=firstAlt_inv hτ
   exact O_mk hn e (List.mem_of_getElem? h1) h2 (parts_bg l i ks h3)
theorem bg_two {E i:Nat} {y:UInt8} {l:List UInt8} (hE:E≤s.length) (h:G.bg s E (G.O s E) (y :: l) i=true):G.O s E y i=true∨∃ k,i≤k∧k<E∧G.D s y i k ≠ none∧G.bg s E (G.O s E) l k=true:=by
 rcases bg_nt h with h | ⟨k,h1,h2,h3,h4⟩
 ·exact .inl h
 ·rcases Nat.eq_or_lt_of_le h2 with e | e
  ·subst e; exact .inl (D_O h1 hE h3)
  ·exact .inr ⟨k,h1,e,h3,h4⟩
theorem O_inv {E i:Nat} {x:UInt8} (hn:G.isNt x=true) (hi:i<E) (h:G.O s E x i=true):∃ l,l ∈ G.alts x∧G.skips s l i E=false∧G.bg s E (G.O s E) l i=true:=by
 rw [G.O_nt s E x i hn hi,List.any_eq_true] at h
 obtain ⟨l,h1,h2⟩:=h
 rw [Bool.and_eq_true] at h2
 exact ⟨l,h1,by simpa using h2.1,h2.2⟩
theorem nx {σ:Rd} {i:Nat} (hw:σ.wrong=false) (e:σ.at_=i) (hi:i<s.length):next s σ=((s.getD i 0).toNat:Int):=by
 unfold next
 rw [if_neg (by rintro (g | g); (· rw [hw] at g; cases g); omega),e]
/-! first bytes -/
theorem first_B {E i:Nat} (hi:i<E) (h:G.O s E 66 i=true):G.cls 109 (s.getD i 0)=true∨s.getD i 0=92:=by
 obtain ⟨l,h1,_,h3⟩:=O_inv (by decide) hi h
 rcases List.mem_cons.1 h1 with rfl | h1
 ·exact .inl (bg_lit (by decide) hi h3).1
 ·rcases List.mem_cons.1 h1 with rfl | h1
  ·exact .inr (beq_iff_eq.1 (bg_lit (by decide) hi h3).1)
  ·cases h1
theorem first_M {E i:Nat} (hi:i<E) (hE:E≤s.length) (h:G.O s E 77 i=true):G.cls 109 (s.getD i 0)=true∨s.getD i 0=92:=by
 obtain ⟨l,h1,_,h3⟩:=O_inv (by decide) hi h
 have key:∀ l',G.bg s E (G.O s E) (66 :: l') i=true→G.cls 109 (s.getD i 0)=true∨s.getD i 0=92:=by
  intro l' hb
  rcases bg_two hE hb with g | ⟨k,g1,g2,g3,_⟩
  ·exact first_B hi g
  ·have hik:i<k:=by
      rcases Nat.eq_or_lt_of_le g1 with e | e
      ·subst e; exact absurd (G.D_solid s 66 i (by decide)) g3
      ·exact e
   exact first_B hik (D_O g1 (by omega) g3)
 rcases List.mem_cons.1 h1 with rfl | h1
 ·exact key _ h3
 ·rcases List.mem_cons.1 h1 with rfl | h1
  ·exact key _ h3
  ·cases h1
theorem first_I {E i:Nat} (hi:i<E) (hE:E≤s.length) (h:G.O s E 73 i=true):G.cls 109 (s.getD i 0)=true∨s.getD i 0=92:=by
 obtain ⟨l,h1,_,h3⟩:=O_inv (by decide) hi h
 have key:∀ l',G.bg s E (G.O s E) (77 :: l') i=true→G.cls 109 (s.getD i 0)=true∨s.getD i 0=92:=by
  intro l' hb
  rcases bg_two hE hb with g | ⟨k,g1,g2,g3,_⟩
  ·exact first_M hi hE g
  ·have hik:i<k:=by
      rcases Nat.eq_or_lt_of_le g1 with e | e
      ·subst e; exact absurd (G.D_solid s 77 i (by decide)) g3
      ·exact e
   exact first_M hik (by omega) (D_O g1 (by omega) g3)
 rcases List.mem_cons.1 h1 with rfl | h1
 ·exact key _ h3
 ·rcases List.mem_cons.1 h1 with rfl | h1
  ·exact key _ h3
  ·cases h1
theorem mem_first {c:UInt8} (h:G.cls 109 c=true∨c=92):((c.toNat:Nat):Int) ≠ 93∧((c.toNat:Nat):Int) ≠ 45:=by
 have key:c ≠ 93∧c ≠ 45:=by
  rcases h with h | h
  ·unfold G.cls at h
   rw [if_neg (by decide),if_neg (by decide),if_pos (by decide)] at h
   simp only [List.contains_cons,Bool.not_or,Bool.and_eq_true,Bool.not_eq_true',beq_eq_false_iff_ne] at h
   exact ⟨h.1,h.2.2.1⟩
  ·rw [h]; decide
 exact ⟨byte_int key.1,byte_int key.2⟩
theorem first_T {E i:Nat} (hi:i<E) (h:G.O s E 84 i=true):stops ((s.getD i 0).toNat:Int)=false:=by
 obtain ⟨l,h1,_,h3⟩:=O_inv (by decide) hi h
 have lit:∀ c l',c ∈ [(40:UInt8),46,92,91]→G.bg s E (G.O s E) (c :: l') i=true→stops ((s.getD i 0).toNat:Int)=false:=by
  intro c l' hc hb
  have e:s.getD i 0=c:=by
   simp only [List.mem_cons,List.not_mem_nil,or_false] at hc
   rcases hc with rfl | rfl | rfl | rfl
   ·exact beq_iff_eq.1 (bg_lit (by decide) hi hb).1
   ·exact beq_iff_eq.1 (bg_lit (by decide) hi hb).1
   ·exact beq_iff_eq.1 (bg_lit (by decide) hi hb).1
   ·exact beq_iff_eq.1 (bg_lit (by decide) hi hb).1
  rw [e]
  simp only [List.mem_cons,List.not_mem_nil,or_false] at hc
  rcases hc with rfl | rfl | rfl | rfl <;> rfl
 have hl:l=[108]∨l=[40,65,41]∨l=[46]∨l=[92,120]∨l=[91,73,93]∨l=[91,94,73,93]:=by
  have:l ∈ [[(108:UInt8)],[40,65,41],[46],[92,120],[91,73,93],[91,94,73,93]]:=h1
  simpa using this
 rcases hl with rfl | rfl | rfl | rfl | rfl | rfl
 ·have hc:=(bg_lit (by decide) hi h3).1
  unfold G.cls at hc
  rw [if_neg (by decide),if_pos (by decide)] at hc
  have hsp:∀ x,x ∈ G.special→s.getD i 0 ≠ x:=by
   intro x hx e
   rw [e,List.contains_iff_mem.2 hx] at hc
   cases hc
  have n1:∀ x ∈ G.special,((s.getD i 0).toNat:Int) ≠ ((x.toNat:Nat):Int):=fun x hx=>byte_int (hsp x hx)
  unfold stops
  simp only [Bool.or_eq_false_iff,beq_eq_false_iff_ne]
  exact ⟨⟨⟨⟨⟨⟨⟨⟨by omega,n1 41 (by decide)⟩,n1 124 (by decide)⟩,n1 42 (by decide)⟩,n1 43 (by decide)⟩,n1 63 (by decide)⟩,n1 123 (by decide)⟩,n1 125 (by decide)⟩,n1 93 (by decide)⟩
 ·exact lit _ _ (by decide) h3
 ·exact lit _ _ (by decide) h3
 ·exact lit _ _ (by decide) h3
 ·exact lit _ _ (by decide) h3
 ·exact lit _ _ (by decide) h3
theorem first_R {E i:Nat} (hi:i<E) (hE:E≤s.length) (h:G.O s E 82 i=true):stops ((s.getD i 0).toNat:Int)=false:=by
 obtain ⟨l,h1,_,h3⟩:=O_inv (by decide) hi h
 rcases List.mem_cons.1 h1 with rfl | h1
 ·rcases bg_two hE h3 with g | ⟨k,g1,g2,g3,_⟩
  ·exact first_T hi g
  ·have hik:i<k:=by
      rcases Nat.eq_or_lt_of_le g1 with e | e
      ·subst e; exact absurd (G.D_solid s 84 i (by decide)) g3
      ·exact e
   exact first_T hik (D_O g1 (by omega) g3)
 ·cases h1
theorem first_C {E i:Nat} (hi:i<E) (hE:E≤s.length) (h:G.O s E 67 i=true):stops ((s.getD i 0).toNat:Int)=false:=by
 obtain ⟨l,h1,_,h3⟩:=O_inv (by decide) hi h
 rcases List.mem_cons.1 h1 with rfl | h1
 ·have:=bg_end h3
  omega
 ·rcases List.mem_cons.1 h1 with rfl | h1
  ·rcases bg_two hE h3 with g | ⟨k,g1,g2,g3,_⟩
   ·exact first_R hi hE g
   ·have hik:i<k:=by
       rcases Nat.eq_or_lt_of_le g1 with e | e
       ·subst e; exact absurd (G.D_solid s 82 i (by decide)) g3
       ·exact e
    exact first_R hik (by omega) (D_O g1 (by omega) g3)
  ·cases h1
end Go.Proofs.Ytjmkkkfloalliab.Q
namespace Go.Proofs.Ytjmkkkfloalliab.Q
set_option linter.unusedVariables false
variable {s:List UInt8}
theorem rs_of {σ:Rd} (hw:σ.wrong=false) (hl:σ.at_≤s.length):Rs s σ (s.drop σ.at_):=⟨hw,hl,rfl⟩
theorem drop_eq {i k:Nat} (h:s.drop i=s.drop k) (hi:i≤s.length) (hk:k≤s.length):i=k:=by
 have:=congrArg List.length h
 simp at this
 omega
theorem der_some {x:UInt8} {i k:Nat} (h:G.D s x i k ≠ none):∃ τ,G.der s (8 * s.length + 16) x i k=some τ:=Option.ne_none_iff_exists'.1 h
theorem c_num {σ:Rd} {E:Nat} (hw:σ.wrong=false) (hi:σ.at_≤E) (hE:E≤s.length) (h:G.O s E 78 σ.at_=true):E≤(number s σ).2.at_:=by
 rcases Nat.eq_or_lt_of_le hi with e | e
 ·rw [← e]; exact (number_on σ).at_
 ·have two:∀ {l},G.bg s E (G.O s E) (100 :: l) σ.at_=true→isDigit (next s σ)=true∧(E=σ.at_ + 1∨G.bg s E (G.O s E) l (σ.at_ + 1)=true):=by
     intro l hb
     obtain ⟨h1,h2⟩:=bg_lit (by decide) e hb
     refine ⟨?_,h2⟩
     rw [nx hw rfl (by omega)]
     unfold G.cls at h1
     rw [if_pos (by decide),Bool.and_eq_true,decide_eq_true_eq,decide_eq_true_eq] at h1
     have a1:48≤(s.getD σ.at_ 0).toNat:=UInt8.le_iff_toNat_le.1 h1.1
     have a2:(s.getD σ.at_ 0).toNat≤57:=UInt8.le_iff_toNat_le.1 h1.2
     unfold isDigit
     rw [Bool.and_eq_true,decide_eq_true_eq,decide_eq_true_eq]
     omega
  have one:isDigit (next s σ)=true→σ.at_ + 1≤(number s σ).2.at_:=by
   intro hd
   unfold number
   rw [if_neg (by rw [hd]; decide)]
   split
   ·show σ.at_ + 1≤σ.at_ + 1 + 1; omega
   ·exact Nat.le_refl _
  obtain ⟨l,h1,_,h3⟩:=O_inv (by decide) e h
  have hl:l=[100]∨l=[100,100]:=by
   have:l ∈ [[(100:UInt8)],[100,100]]:=h1
   simpa using this
  rcases hl with rfl | rfl
  ·obtain ⟨d1,d2⟩:=two h3
   rcases d2 with d2 | d2
   ·rw [d2]; exact one d1
   ·have:=bg_end d2
    rw [← this]; exact one d1
  ·obtain ⟨d1,d2⟩:=two h3
   rcases d2 with d2 | d2
   ·rw [d2]; exact one d1
   ·rcases Nat.eq_or_lt_of_le (show σ.at_ + 1≤E by omega) with e2 | e2
    ·rw [← e2]; exact one d1
    ·obtain ⟨q1,q2⟩:=bg_lit (s:=s) (by decide) e2 d2
     have hE2:E=σ.at_ + 1 + 1:=by
      rcases q2 with q2 | q2
      ·exact q2
      ·exact (bg_end q2).symm
     have hd2:isDigit (next s (fwd σ))=true:=by
      rw [nx (σ:=fwd σ) hw rfl (show σ.at_ + 1<s.length by omega)]
      unfold G.cls at q1
      rw [if_pos (by decide),Bool.and_eq_true,decide_eq_true_eq,decide_eq_true_eq] at q1
      have a1:48≤(s.getD (σ.at_ + 1) 0).toNat:=UInt8.le_iff_toNat_le.1 q1.1
      have a2:(s.getD (σ.at_ + 1) 0).toNat≤57:=UInt8.le_iff_toNat_le.1 q1.2
      show isDigit ((s.getD (σ.at_ + 1) 0).toNat:Int)=true
      unfold isDigit
      rw [Bool.and_eq_true,decide_eq_true_eq,decide_eq_true_eq]
      omega
     unfold number
     rw [if_neg (by rw [d1]; decide),if_pos hd2,hE2]
     exact Nat.le_refl _
theorem c_mb {σ:Rd} {E:Nat} (hw:σ.wrong=false) (hi:σ.at_≤E) (hE:E≤s.length) (h:G.O s E 66 σ.at_=true):E≤(memberByte s σ).2.at_:=by
 rcases Nat.eq_or_lt_of_le hi with e | e
 ·rw [← e]; exact (memberByte_on σ).at_
 ·have hn:=nx (s:=s) hw rfl (show σ.at_<s.length by omega)
  obtain ⟨l,h1,_,h3⟩:=O_inv (by decide) e h
  have hl:l=[109]∨l=[92,120]:=by
   have:l ∈ [[(109:UInt8)],[92,120]]:=h1
   simpa using this
  rcases hl with rfl | rfl
  ·obtain ⟨q1,q2⟩:=bg_lit (by decide) e h3
   have hE2:E=σ.at_ + 1:=by
    rcases q2 with q2 | q2
    ·exact q2
    ·exact (bg_end q2).symm
   obtain ⟨m1,m2⟩:=mem_first (.inl q1)
   have m3:((s.getD σ.at_ 0).toNat:Int) ≠ 92:=by
    refine byte_int (b:=92) fun e=>?_
    rw [e] at q1
    cases q1
   unfold memberByte
   rw [hn,if_neg m3,if_neg (by rintro (g | g); (· exact m1 g); exact m2 g)]
   unfold anyByte
   rw [hn,if_neg (by omega),hE2]
   exact Nat.le_refl _
  ·obtain ⟨q1,q2⟩:=bg_lit (by decide) e h3
   have q1:=beq_iff_eq.1 q1
   unfold memberByte
   rw [hn,q1,if_pos (by rfl)]
   rcases q2 with q2 | q2
   ·rw [q2]; exact (anyByte_on (s:=s) (fwd σ)).at_
   ·rcases Nat.eq_or_lt_of_le (show σ.at_ + 1≤E by omega) with e2 | e2
    ·rw [← e2]; exact (anyByte_on (s:=s) (fwd σ)).at_
    ·obtain ⟨_,q3⟩:=bg_lit (s:=s) (by decide) e2 q2
     have hE2:E=σ.at_ + 1 + 1:=by
      rcases q3 with q3 | q3
      ·exact q3
      ·exact (bg_end q3).symm
     have hn2:=nx (s:=s) (σ:=fwd σ) (i:=σ.at_ + 1) hw rfl (by omega)
     unfold anyByte
     rw [hn2,if_neg (by omega),hE2]
     exact Nat.le_refl _
theorem mb_exact {σ:Rd} {k:Nat} (hw:σ.wrong=false) (hl:σ.at_≤s.length) (hk:k≤s.length) (h:G.D s 66 σ.at_ k ≠ none):∃ n,memberByte s σ=(n,{ σ with at_:=k }):=by
 obtain ⟨τ,hτ⟩:=der_some h
 obtain ⟨m1,_⟩:=der_mem hτ hk
 obtain ⟨k',e1,e2⟩:=(rs_of hw hl).mb.2 _ _ m1
 have:k'=k:=drop_eq e2.rest e2.le hk
 subst this
 exact ⟨_,e1⟩
theorem c_mem1 {σ:Rd} {E:Nat} (hw:σ.wrong=false) (hi:σ.at_≤E) (hE:E≤s.length) (h:G.O s E 77 σ.at_=true):E≤(member1 s σ).2.2.at_:=by
 have up:G.O s E 66 σ.at_=true→E≤(member1 s σ).2.2.at_:=fun g=>Nat.le_trans (c_mb hw hi hE g) (member1_on σ).at_
 rcases Nat.eq_or_lt_of_le hi with e | e
 ·exact up (by rw [e]; exact G.O_end s E 66)
 ·obtain ⟨l,h1,_,h3⟩:=O_inv (by decide) e h
  have hl:l=[66]∨l=[66,45,66]:=by
   have:l ∈ [[(66:UInt8)],[66,45,66]]:=h1
   simpa using this
  rcases hl with rfl | rfl
  ·rcases bg_two hE h3 with g | ⟨k,g1,g2,g3,g4⟩
   ·exact up g
   ·have:=bg_end g4; omega
  ·rcases bg_two hE h3 with g | ⟨k,g1,g2,g3,g4⟩
   ·exact up g
   ·obtain ⟨n,e1⟩:=mb_exact hw (by omega) (by omega) g3
    obtain ⟨q1,q2⟩:=bg_lit (by decide) g2 g4
    have q1:=beq_iff_eq.1 q1
    have hn:next s ({ σ with at_:=k }:Rd)=45:=by rw [nx (s:=s) (σ:={ σ with at_:=k }) (i:=k) hw rfl (by omega),q1]; rfl
    unfold member1
    rw [e1]
    simp only
    rw [if_pos hn]
    show E≤(memberByte s (fwd { σ with at_:=k })).2.at_
    rcases q2 with q2 | q2
    ·rw [q2]; exact (memberByte_on (s:=s) (fwd { σ with at_:=k })).at_
    ·rcases bg_two hE q2 with g | ⟨k2,g5,g6,g7,g8⟩
     ·exact c_mb (σ:=fwd { σ with at_:=k }) hw g2 hE g
     ·have:=bg_end g8; omega
theorem mem_exact {σ:Rd} {k:Nat} (ins:List Bool) (hw:σ.wrong=false) (hl:σ.at_≤s.length) (hk:k<s.length) (h:G.D s 77 σ.at_ k ≠ none) (hf:s.getD k 0 ≠ 45):(member s ins σ).2.wrong=false∧(member s ins σ).2.at_=k:=by
 obtain ⟨τ,hτ⟩:=der_some h
 obtain ⟨m1,_⟩:=der_member hτ hk (by rw [drop_at hk]; exact byte_int hf) ins
 obtain ⟨k',e1,e2⟩:=(rs_of hw hl).member ins |>.2 _ _ _ m1
 rw [e1]
 exact ⟨hw,drop_eq e2.rest e2.le (by omega)⟩
theorem c_items:∀ (F:Nat) (ins:List Bool) (σ:Rd) (E:Nat),σ.wrong=false→σ.at_≤E→E≤s.length→s.length<F + σ.at_→G.O s E 73 σ.at_=true→E≤(members s F (member s ins σ).1 (member s ins σ).2).2.at_
 | 0,ins,σ,E,hw,hi,hE,hF,h=>by omega
 | F + 1,ins,σ,E,hw,hi,hE,hF,h=>by
  have up:G.O s E 77 σ.at_=true→E≤(members s (F + 1) (member s ins σ).1 (member s ins σ).2).2.at_:=fun g=>Nat.le_trans (c_mem1 hw hi hE g) (members_on (s:=s) (F + 1) (member s ins σ).1 (member s ins σ).2).at_
  rcases Nat.eq_or_lt_of_le hi with e | e
  ·exact up (by rw [e]; exact G.O_end s E 77)
  ·obtain ⟨l,h1,_,h3⟩:=O_inv (by decide) e h
   have hl:l=[77]∨l=[77,73]:=by
    have:l ∈ [[(77:UInt8)],[77,73]]:=h1
    simpa using this
   rcases hl with rfl | rfl
   ·rcases bg_two hE h3 with g | ⟨k,g1,g2,g3,g4⟩
    ·exact up g
    ·have:=bg_end g4; omega
   ·rcases bg_two hE h3 with g | ⟨k,g1,g2,g3,g4⟩
    ·exact up g
    ·have hO:G.O s E 73 k=true:=by
        rcases bg_two hE g4 with g | ⟨k2,g5,g6,g7,g8⟩
        ·exact g
        ·have:=bg_end g8; omega
     have hik:σ.at_<k:=by
      rcases Nat.eq_or_lt_of_le g1 with e | e
      ·exact absurd (by rw [← e]; exact G.D_solid s 77 σ.at_ (by decide)) g3
      ·exact e
     obtain ⟨f1,f2⟩:=mem_first (first_I g2 hE hO)
     obtain ⟨w1,e1⟩:=mem_exact ins hw (by omega) (by omega) g3 (fun e=>f2 (by rw [e]; rfl))
     have hn:next s (member s ins σ).2=((s.getD k 0).toNat:Int):=nx w1 e1 (by omega)
     have e2:members s (F + 1) (member s ins σ).1 (member s ins σ).2=members s F (member s (member s ins σ).1 (member s ins σ).2).1 (member s (member s ins σ).1 (member s ins σ).2).2:=by
      conv=>lhs; unfold members
      rw [if_neg (by rw [w1]; decide),if_neg (by rw [hn]; exact f1)]
     rw [e2]
     exact c_items F (member s ins σ).1 (member s ins σ).2 E w1 (by omega) hE (by omega) (by rw [e1]; exact hO)
theorem items_exact {σ:Rd} {k F:Nat} (hw:σ.wrong=false) (hl:σ.at_≤s.length) (hF:s.length<F) (hk:k<s.length) (h:G.D s 73 σ.at_ k ≠ none) (hf:s.getD k 0=93):(members s F (member s ins0 σ).1 (member s ins0 σ).2).2.at_=k + 1:=by
 obtain ⟨τ,hτ⟩:=der_some h
 obtain ⟨_,_,_,_,i1,b1,r1,q5,q6,q7⟩:=der_items _ _ _ _ hτ hk (by rw [drop_at hk,hf]; rfl) ins0 false
 have hd:dcls1 (s.drop σ.at_)=some ((G.itemsF (8 * s.length + 16) τ ins0 false).1,(G.itemsF (8 * s.length + 16) τ ins0 false).2,s.drop (k + 1)):=by
  unfold dcls1
  rw [q5]
  simp only
  have:=q7 (r1.length + 1) (by omega)
  rw [Bool.false_or] at this
  exact this
 obtain ⟨k',e1,e2⟩:=((rs_of hw hl).cls1 F (by simp; omega)).2 _ _ _ hd
 rw [e1]
 exact drop_eq e2.rest e2.le (by omega)
theorem c_leaf {σ:Rd} {E:Nat} (hw:σ.wrong=false) (hi:σ.at_≤E) (hE:E≤s.length) (h:G.O s E 84 σ.at_=true) (h40:next s σ ≠ 40):E≤(leaf s σ).2.at_:=by
 rcases Nat.eq_or_lt_of_le hi with e | e
 ·rw [← e]; exact (leaf_on σ).at_
 ·have hn:=nx (s:=s) hw rfl (show σ.at_<s.length by omega)
  have hst:=first_T e h
  have hst2:stops (next s σ)=false:=by rw [hn]; exact hst
  have one:σ.at_ + 1≤(leaf s σ).2.at_:=by
   have a1:=leaf_adv (s:=s) σ (stops_none hst2)
   have a2:=(leaf_on (s:=s) σ).at_
   unfold leaf
   rw [if_neg (by rw [hst2]; decide)]
   split
   ·exact (cls_on (s:=s) (stops_none hst2) ins0).at_
   ·split
    ·exact Nat.le_refl _
    ·split
     ·exact (anyByte_on (s:=s) (fwd σ)).at_
     ·exact Nat.le_refl _
  have fin:∀ {l:List UInt8},(E=σ.at_ + 1∨G.bg s E (G.O s E) [] (σ.at_ + 1)=true)→E≤(leaf s σ).2.at_:=by
   intro l q
   rcases q with q | q
   ·rw [q]; exact one
   ·rw [← bg_end q]; exact one
  obtain ⟨l,h1,hsk,h3⟩:=O_inv (by decide) e h
  have hl:l=[108]∨l=[40,65,41]∨l=[46]∨l=[92,120]∨l=[91,73,93]∨l=[91,94,73,93]:=by
   have:l ∈ [[(108:UInt8)],[40,65,41],[46],[92,120],[91,73,93],[91,94,73,93]]:=h1
   simpa using this
  rcases hl with rfl | rfl | rfl | rfl | rfl | rfl
  ·exact fin (l:=[]) (bg_lit (by decide) e h3).2
  ·have:=beq_iff_eq.1 (bg_lit (by decide) e h3).1
   exact absurd (by rw [hn,this]; rfl) h40
  ·exact fin (l:=[]) (bg_lit (by decide) e h3).2
  ·obtain ⟨q1,q2⟩:=bg_lit (by decide) e h3
   have q1:=beq_iff_eq.1 q1
   rcases q2 with q2 | q2
   ·rw [q2]; exact one
   ·rcases Nat.eq_or_lt_of_le (show σ.at_ + 1≤E by omega) with e2 | e2
    ·rw [← e2]; exact one
    ·obtain ⟨_,q3⟩:=bg_lit (s:=s) (by decide) e2 q2
     have hE2:E=σ.at_ + 1 + 1:=by
      rcases q3 with q3 | q3
      ·exact q3
      ·exact (bg_end q3).symm
     have hn2:=nx (s:=s) (σ:=fwd σ) (i:=σ.at_ + 1) hw rfl (by omega)
     have h92:next s σ=92:=by rw [hn,q1]; rfl
     unfold leaf
     rw [if_neg (by rw [hst2]; decide),h92,if_neg (by decide),if_neg (by decide),if_pos rfl]
     unfold anyByte
     rw [hn2,if_neg (by omega),hE2]
     exact Nat.le_refl _
  ·obtain ⟨q1,q2⟩:=bg_lit (by decide) e h3
   have q1:=beq_iff_eq.1 q1
   rcases q2 with q2 | q2
   ·rw [q2]; exact one
   ·rcases Nat.eq_or_lt_of_le (show σ.at_ + 1≤E by omega) with e2 | e2
    ·rw [← e2]; exact one
    ·have h91:next s σ=91:=by rw [hn,q1]; rfl
     have hn2:=nx (s:=s) (σ:=fwd σ) (i:=σ.at_ + 1) hw rfl (by omega)
     have hnot:next s (fwd σ) ≠ 94:=by
      rw [hn2]
      refine byte_int (b:=94) fun e=>?_
      unfold G.skips at hsk
      rw [e,decide_eq_true e2] at hsk
      cases hsk
     unfold leaf
     rw [if_neg (by rw [hst2]; decide),if_pos h91]
     show E≤(cls s ins0 σ).2.at_
     unfold cls
     rw [if_neg hnot]
     rcases bg_two hE q2 with g | ⟨k,g1,g2,g3,g4⟩
     ·exact c_items (s.length + 1) ins0 (fwd σ) E hw (by show σ.at_ + 1≤E; omega) hE (by omega) g
     ·obtain ⟨r1,r2⟩:=bg_lit (by decide) g2 g4
      have r1:=beq_iff_eq.1 r1
      have hE2:E=k + 1:=by
       rcases r2 with r2 | r2
       ·exact r2
       ·exact (bg_end r2).symm
      rw [items_exact (σ:=fwd σ) (k:=k) hw (show σ.at_ + 1≤s.length by omega) (by omega) (by omega) g3 r1,hE2]
      exact Nat.le_refl _
  ·obtain ⟨q1,q2⟩:=bg_lit (by decide) e h3
   have q1:=beq_iff_eq.1 q1
   rcases q2 with q2 | q2
   ·rw [q2]; exact one
   ·rcases Nat.eq_or_lt_of_le (show σ.at_ + 1≤E by omega) with e2 | e2
    ·rw [← e2]; exact one
    ·have h91:next s σ=91:=by rw [hn,q1]; rfl
     obtain ⟨p1,p2⟩:=bg_lit (s:=s) (by decide) e2 q2
     have p1:=beq_iff_eq.1 p1
     have hn2:next s (fwd σ)=94:=by rw [nx (s:=s) (σ:=fwd σ) (i:=σ.at_ + 1) hw rfl (by omega),p1]; rfl
     unfold leaf
     rw [if_neg (by rw [hst2]; decide),if_pos h91]
     show E≤(cls s ins0 σ).2.at_
     unfold cls
     rw [if_pos hn2]
     show E≤(members s (s.length + 1) (member s ins0 (fwd (fwd σ))).1 (member s ins0 (fwd (fwd σ))).2).2.at_
     have hon:σ.at_ + 1 + 1≤(members s (s.length + 1) (member s ins0 (fwd (fwd σ))).1 (member s ins0 (fwd (fwd σ))).2).2.at_:=((member_on (s:=s) ins0 (fwd (fwd σ))).trans (members_on (s.length + 1) _ _)).at_
     rcases p2 with p2 | p2
     ·rw [p2]; exact hon
     ·rcases bg_two hE p2 with g | ⟨k,g1,g2,g3,g4⟩
      ·exact c_items (s.length + 1) ins0 (fwd (fwd σ)) E hw (by show σ.at_ + 1 + 1≤E; omega) hE (by omega) g
      ·obtain ⟨r1,r2⟩:=bg_lit (by decide) g2 g4
       have r1:=beq_iff_eq.1 r1
       have hE2:E=k + 1:=by
        rcases r2 with r2 | r2
        ·exact r2
        ·exact (bg_end r2).symm
       rw [items_exact (σ:=fwd (fwd σ)) (k:=k) hw (show σ.at_ + 1 + 1≤s.length by omega) (by omega) (by omega) g3 r1,hE2]
       exact Nat.le_refl _
end Go.Proofs.Ytjmkkkfloalliab.Q
namespace Go.Proofs.Ytjmkkkfloalliab.Q
set_option linter.unusedVariables false
variable {s:List UInt8}
theorem num_exact {σ:Rd} {k:Nat} (hw:σ.wrong=false) (hl:σ.at_≤s.length) (hk:k<s.length) (h:G.D s 78 σ.at_ k ≠ none) (hd:isDigit ((s.getD k 0).toNat:Int)=false):(∃ n,number s σ=(n,{ σ with at_:=k }))∧isDigit (next s σ)=true:=by
 obtain ⟨τ,hτ⟩:=der_some h
 have hdn:dnext (s.drop k)=((s.getD k 0).toNat:Int):=by rw [drop_at hk]; rfl
 obtain ⟨n,n1,_,_,_,n5⟩:=der_num hτ hk (by rw [hdn]; exact hd)
 have R:=rs_of (s:=s) hw hl
 obtain ⟨k',e1,e2⟩:=R.num.2 _ _ n1
 have:k'=k:=drop_eq e2.rest e2.le (by omega)
 subst this
 exact ⟨⟨_,e1⟩,by rw [R.next]; exact n5⟩
theorem num_bounds {σ:Rd} (p:Part):(number s σ).2.at_≤(bounds s p σ).2.at_:=by
 unfold bounds
 refine Nat.le_trans ?_ (need_on (s:=s) 125 (by decide) _).at_
 show (number s σ).2.at_≤(bounds1 s σ).2.2.at_
 unfold bounds1
 split
 ·split
  ·exact Nat.le_trans (Nat.le_succ _) (number_on (s:=s) (fwd (number s σ).2)).at_
  ·exact Nat.le_succ _
 ·exact Nat.le_refl _
def Till (s:List UInt8) (E:Nat) (τ:Rd):Prop:=E≤τ.at_∨(τ.wrong=false∧τ.at_≤E∧G.O s E 81 τ.at_=true)
theorem till_close {E k:Nat} {τ:Rd} {b:Bool} (hE:E≤s.length) (hτ:τ.wrong=false) (e:τ.at_=k) (hk:k<E) (h:G.bg s E (G.O s E) [125,81] k=true):Till s E (need s 125 { τ with back:=b }):=by
 obtain ⟨q1,q2⟩:=bg_lit (by decide) hk h
 have q1:=beq_iff_eq.1 q1
 have hn:next s ({ τ with back:=b }:Rd)=125:=by rw [nx (s:=s) (σ:={ τ with back:=b }) (i:=k) hτ e (by omega),q1]; rfl
 unfold need
 rw [if_pos hn]
 rcases q2 with q2 | q2
 ·left; show E≤τ.at_ + 1; omega
 ·right
  refine ⟨hτ,by show τ.at_ + 1≤E; omega,?_⟩
  show G.O s E 81 (τ.at_ + 1)=true
  rw [e]
  rcases bg_two hE q2 with g | ⟨k2,g1,g2,g3,g4⟩
  ·exact g
  ·have:=bg_end g4; omega
theorem c_bounds {σ:Rd} {E:Nat} {l:List UInt8} (p:Part) (hw:σ.wrong=false) (hi:σ.at_≤E) (hE:E≤s.length) (hl:l=[78,125,81]∨l=[78,44,125,81]∨l=[78,44,78,125,81]) (h:G.bg s E (G.O s E) l σ.at_=true):Till s E (bounds s p σ).2:=by
 have up:G.O s E 78 σ.at_=true→Till s E (bounds s p σ).2:=fun g=>.inl (Nat.le_trans (c_num hw hi hE g) (num_bounds p))
 have comma:∀ k,k<E→s.getD k 0=44→G.D s 78 σ.at_ k ≠ none→∃ n,number s σ=(n,{ σ with at_:=k })∧next s ({ σ with at_:=k }:Rd)=44:=by
  intro k hk hc hD
  obtain ⟨⟨n,e1⟩,_⟩:=num_exact hw (by omega) (by omega) hD (by rw [hc]; rfl)
  exact ⟨n,e1,by rw [nx (s:=s) (σ:={ σ with at_:=k }) (i:=k) hw rfl (by omega),hc]; rfl⟩
 rcases hl with rfl | rfl | rfl
 ·rcases bg_two hE h with g | ⟨k,g1,g2,g3,g4⟩
  ·exact up g
  ·have q1:=beq_iff_eq.1 (bg_lit (by decide) g2 g4).1
   obtain ⟨⟨n,e1⟩,_⟩:=num_exact hw (by omega) (by omega) g3 (by rw [q1]; rfl)
   have hn:next s ({ σ with at_:=k }:Rd) ≠ 44:=by rw [nx (s:=s) (σ:={ σ with at_:=k }) (i:=k) hw rfl (by omega),q1]; decide
   unfold bounds bounds1
   rw [e1]
   simp only
   rw [if_neg hn]
   exact till_close (τ:={ σ with at_:=k }) hE hw rfl g2 g4
 ·rcases bg_two hE h with g | ⟨k,g1,g2,g3,g4⟩
  ·exact up g
  ·obtain ⟨q1,q2⟩:=bg_lit (by decide) g2 g4
   have q1:=beq_iff_eq.1 q1
   obtain ⟨n,e1,hn⟩:=comma k g2 q1 g3
   have lo:k + 1≤(bounds s p σ).2.at_:=by
    unfold bounds
    refine Nat.le_trans ?_ (need_on (s:=s) 125 (by decide) _).at_
    show k + 1≤(bounds1 s σ).2.2.at_
    unfold bounds1
    rw [e1]
    simp only
    rw [if_pos hn]
    split
    ·exact (number_on (s:=s) (fwd { σ with at_:=k })).at_
    ·exact Nat.le_refl _
   rcases q2 with q2 | q2
   ·left; omega
   ·rcases Nat.eq_or_lt_of_le (show k + 1≤E by omega) with e2 | e2
    ·left; omega
    ·have q3:=beq_iff_eq.1 (bg_lit (s:=s) (by decide) e2 q2).1
     have hn2:isDigit (next s (fwd { σ with at_:=k }))=false:=by rw [nx (s:=s) (σ:=fwd { σ with at_:=k }) (i:=k + 1) hw rfl (by omega),q3]; rfl
     unfold bounds bounds1
     rw [e1]
     simp only
     rw [if_pos hn,if_neg (by rw [hn2]; decide)]
     exact till_close (τ:=fwd { σ with at_:=k }) hE hw rfl e2 q2
 ·rcases bg_two hE h with g | ⟨k,g1,g2,g3,g4⟩
  ·exact up g
  ·obtain ⟨q1,q2⟩:=bg_lit (by decide) g2 g4
   have q1:=beq_iff_eq.1 q1
   obtain ⟨n,e1,hn⟩:=comma k g2 q1 g3
   have lo:k + 1≤(bounds s p σ).2.at_:=by
    unfold bounds
    refine Nat.le_trans ?_ (need_on (s:=s) 125 (by decide) _).at_
    show k + 1≤(bounds1 s σ).2.2.at_
    unfold bounds1
    rw [e1]
    simp only
    rw [if_pos hn]
    split
    ·exact (number_on (s:=s) (fwd { σ with at_:=k })).at_
    ·exact Nat.le_refl _
   rcases q2 with q2 | q2
   ·left; omega
   ·rcases Nat.eq_or_lt_of_le (show k + 1≤E by omega) with e2 | e2
    ·left; omega
    ·rcases bg_two hE q2 with g | ⟨k2,g5,g6,g7,g8⟩
     ·have hd:isDigit (next s (fwd { σ with at_:=k }))=true:=by
         obtain ⟨l',l1,_,l3⟩:=O_inv (by decide) e2 g
         have hdg:G.cls 100 (s.getD (k + 1) 0)=true:=by
          have hl:l'=[100]∨l'=[100,100]:=by
           have:l' ∈ [[(100:UInt8)],[100,100]]:=l1
           simpa using this
          rcases hl with rfl | rfl
          ·exact (bg_lit (by decide) e2 l3).1
          ·exact (bg_lit (by decide) e2 l3).1
         rw [nx (s:=s) (σ:=fwd { σ with at_:=k }) (i:=k + 1) hw rfl (by omega)]
         unfold G.cls at hdg
         rw [if_pos (by decide),Bool.and_eq_true,decide_eq_true_eq,decide_eq_true_eq] at hdg
         have a1:48≤(s.getD (k + 1) 0).toNat:=UInt8.le_iff_toNat_le.1 hdg.1
         have a2:(s.getD (k + 1) 0).toNat≤57:=UInt8.le_iff_toNat_le.1 hdg.2
         unfold isDigit
         rw [Bool.and_eq_true,decide_eq_true_eq,decide_eq_true_eq]
         omega
      left
      have c1:=c_num (s:=s) (σ:=fwd { σ with at_:=k }) (E:=E) hw (show k + 1≤E by omega) hE g
      refine Nat.le_trans c1 ?_
      unfold bounds
      refine Nat.le_trans ?_ (need_on (s:=s) 125 (by decide) _).at_
      show (number s (fwd { σ with at_:=k })).2.at_≤(bounds1 s σ).2.2.at_
      unfold bounds1
      rw [e1]
      simp only
      rw [if_pos hn,if_pos hd]
      exact Nat.le_refl _
     ·have q3:=beq_iff_eq.1 (bg_lit (by decide) g6 g8).1
      obtain ⟨⟨n2,e3⟩,hd⟩:=num_exact (s:=s) (σ:=fwd { σ with at_:=k }) (k:=k2) hw (show k + 1≤s.length by omega) (by omega) g7 (by rw [q3]; rfl)
      unfold bounds bounds1
      rw [e1]
      simp only
      rw [if_pos hn,if_pos hd,e3]
      exact till_close (τ:={ fwd { σ with at_:=k } with at_:=k2 }) hE hw rfl g6 g8
theorem c_rep {σ:Rd} {E:Nat} (n:Nat) (hw:σ.wrong=false) (hi:σ.at_<E) (hE:E≤s.length) (h:G.O s E 81 σ.at_=true):isRep (next s σ)=true∧Till s E (repPart s n σ).2:=by
 have hn:=nx (s:=s) hw rfl (show σ.at_<s.length by omega)
 obtain ⟨l,h1,_,h3⟩:=O_inv (by decide) hi h
 have sign:∀ {c:UInt8},G.bg s E (G.O s E) [81] (σ.at_ + 1)=true∨E=σ.at_ + 1→Till s E (fwd σ):=by
  intro c q
  rcases q with q | q
  ·rcases Nat.eq_or_lt_of_le (show σ.at_ + 1≤E by omega) with e2 | e2
   ·left; show E≤σ.at_ + 1; omega
   ·right
    refine ⟨hw,by show σ.at_ + 1≤E; omega,?_⟩
    rcases bg_two hE q with g | ⟨k2,g1,g2,g3,g4⟩
    ·exact g
    ·have:=bg_end g4; omega
  ·left; show E≤σ.at_ + 1; omega
 have brace:∀ {l'},(l'=[78,125,81]∨l'=[78,44,125,81]∨l'=[78,44,78,125,81])→G.bg s E (G.O s E) (123 :: l') σ.at_=true→isRep (next s σ)=true∧Till s E (repPart s n σ).2:=by
  intro l' hl' hb
  obtain ⟨q1,q2⟩:=bg_lit (by decide) hi hb
  have q1:=beq_iff_eq.1 q1
  have h123:next s σ=123:=by rw [hn,q1]; rfl
  refine ⟨by rw [h123]; rfl,?_⟩
  unfold repPart
  rw [if_neg (by rw [h123]; decide),if_neg (by rw [h123]; decide),if_neg (by rw [h123]; decide)]
  rcases q2 with q2 | q2
  ·left; rw [q2]; exact (bounds_on (s:=s) (mk 4 n 0) (fwd σ)).at_
  ·exact c_bounds (σ:=fwd σ) (mk 4 n 0) hw (by show σ.at_ + 1≤E; omega) hE hl' q2
 have hl:l=[]∨l=[42,81]∨l=[43,81]∨l=[63,81]∨l=[123,78,125,81]∨l=[123,78,44,125,81]∨l=[123,78,44,78,125,81]:=by
  have:l ∈ [[],[(42:UInt8),81],[43,81],[63,81],[123,78,125,81],[123,78,44,125,81],[123,78,44,78,125,81]]:=h1
  simpa using this
 rcases hl with rfl | rfl | rfl | rfl | rfl | rfl | rfl
 ·have:=bg_end h3; omega
 ·obtain ⟨q1,q2⟩:=bg_lit (by decide) hi h3
  have h42:next s σ=42:=by rw [hn,beq_iff_eq.1 q1]; rfl
  refine ⟨by rw [h42]; rfl,?_⟩
  unfold repPart
  rw [if_pos h42]
  exact sign (c:=42) q2.symm
 ·obtain ⟨q1,q2⟩:=bg_lit (by decide) hi h3
  have h43:next s σ=43:=by rw [hn,beq_iff_eq.1 q1]; rfl
  refine ⟨by rw [h43]; rfl,?_⟩
  unfold repPart
  rw [if_neg (by rw [h43]; decide),if_pos h43]
  exact sign (c:=43) q2.symm
 ·obtain ⟨q1,q2⟩:=bg_lit (by decide) hi h3
  have h63:next s σ=63:=by rw [hn,beq_iff_eq.1 q1]; rfl
  refine ⟨by rw [h63]; rfl,?_⟩
  unfold repPart
  rw [if_neg (by rw [h63]; decide),if_neg (by rw [h63]; decide),if_pos h63]
  exact sign (c:=63) q2.symm
 ·exact brace (.inl rfl) h3
 ·exact brace (.inr (.inl rfl)) h3
 ·exact brace (.inr (.inr rfl)) h3
end Go.Proofs.Ytjmkkkfloalliab.Q
namespace Go.Proofs.Ytjmkkkfloalliab.Q
set_option linter.unusedVariables false
variable {s:List UInt8}
abbrev Rd1 (s:List UInt8) (σ:Rd):Prop:=Rdy s σ (s.drop σ.at_)
theorem Rdy.one {σ:Rd} {r:List UInt8} (h:Rdy s σ r):Rd1 s σ:=⟨⟨h.rs.wrong,h.rs.le,rfl⟩,h.ok,h.deep⟩
theorem exact_term {σ:Rd} {k f:Nat} (h:Rd1 s σ) (hk:k≤s.length) (hf:8 * left s σ + 1≤f) (hD:G.D s 84 σ.at_ k ≠ none):(go s f .term σ).2.at_=k∧Rd1 s (go s f .term σ).2:=by
 obtain ⟨τ,hτ⟩:=der_some hD
 obtain ⟨_,_,d,b,m,_,_,F,d',e1,_⟩:=(grammar_read s _).2.2.2.1 _ _ _ hτ hk
 have C:=(corr_go (s:=s) (f + F)).2.2.2.2.2.2 σ _ (by rw [← h.rs.len]; omega) h
 have E:=C.2 _ _ _ _ (dgo_more e1 (by omega))
 rw [go_same (j:=.term) (show 8 * left s σ + 1≤f from hf) (by omega) h.ok trivial] at E
 have g1:=(go_good (s:=s) f .term σ (by simp only [Job.rank]; omega) h.ok trivial).1
 exact ⟨drop_eq E.rs.rest E.rs.le hk,(E.rdy g1.ok).one⟩
theorem exact_rep {σ:Rd} {k f:Nat} (h:Rd1 s σ) (hk:k≤s.length) (hf:8 * left s σ + 3≤f) (hD:G.D s 82 σ.at_ k ≠ none) (hn:isRep (dnext (s.drop k))=false):(go s f .rep σ).2.at_=k∧Rd1 s (go s f .rep σ).2:=by
 obtain ⟨τ,hτ⟩:=der_some hD
 obtain ⟨_,_,d,b,m,_,_,F,d',e1,_⟩:=(grammar_read s _).2.2.1 _ _ _ hτ hk hn
 have C:=(corr_go (s:=s) (f + F)).2.2.2.2.1 σ _ (by rw [← h.rs.len]; omega) h
 have E:=C.2 _ _ _ _ (dgo_more e1 (by omega))
 rw [go_same (j:=.rep) (show 8 * left s σ + 3≤f from hf) (by omega) h.ok trivial] at E
 have g1:=(go_good (s:=s) f .rep σ (by simp only [Job.rank]; omega) h.ok trivial).1
 exact ⟨drop_eq E.rs.rest E.rs.le hk,(E.rdy g1.ok).one⟩
theorem exact_seq {σ:Rd} {k f:Nat} (h:Rd1 s σ) (hk:k≤s.length) (hf:8 * left s σ + 5≤f) (hD:G.D s 67 σ.at_ k ≠ none) (hn:ends (dnext (s.drop k))=true):(go s f .seq σ).2.at_=k∧Rd1 s (go s f .seq σ).2:=by
 obtain ⟨τ,hτ⟩:=der_some hD
 obtain ⟨_,_,d,b,m,_,_,rd⟩:=(grammar_read s _).2.1 _ _ _ hτ hk hn
 obtain ⟨F,d',e1,_⟩:=rd dEps w_eps
 have e2:dgo (F + 1) .seq (s.drop σ.at_)=some (d',s.drop k,b,m):=e1
 have C:=(corr_go (s:=s) (f + (F + 1))).2.2.1 σ _ (by rw [← h.rs.len]; omega) h
 have E:=C.2 _ _ _ _ (dgo_more e2 (by omega))
 rw [go_same (j:=.seq) (show 8 * left s σ + 5≤f from hf) (by omega) h.ok trivial] at E
 have g1:=(go_good (s:=s) f .seq σ (by simp only [Job.rank]; omega) h.ok trivial).1
 exact ⟨drop_eq E.rs.rest E.rs.le hk,(E.rdy g1.ok).one⟩
theorem exact_alt {σ:Rd} {k f:Nat} (h:Rd1 s σ) (hk:k≤s.length) (hf:8 * left s σ + 6≤f) (hD:G.D s 65 σ.at_ k ≠ none) (hn:dnext (s.drop k) = -1∨dnext (s.drop k)=41):(go s f .alt σ).2.at_=k∧Rd1 s (go s f .alt σ).2:=by
 obtain ⟨τ,hτ⟩:=der_some hD
 obtain ⟨_,d,b,m,_,_,F,d',e1,_⟩:=(grammar_read s _).1 _ _ _ hτ hk hn
 have C:=(corr_go (s:=s) (f + F)).1 σ _ (by rw [← h.rs.len]; omega) h
 have E:=C.2 _ _ _ _ (dgo_more e1 (by omega))
 rw [go_same (j:=.alt) (show 8 * left s σ + 6≤f from hf) (by omega) h.ok trivial] at E
 have g1:=(go_good (s:=s) f .alt σ (by simp only [Job.rank]; omega) h.ok trivial).1
 exact ⟨drop_eq E.rs.rest E.rs.le hk,(E.rdy g1.ok).one⟩
theorem c_go:∀ f:Nat,
    (∀ σ E,8 * left s σ + 6≤f→Rd1 s σ→σ.at_≤E→E≤s.length→G.O s E 65 σ.at_=true→E≤(go s f .alt σ).2.at_) ∧
    (∀ σ n E,8 * left s σ + 1≤f→Rd1 s σ→n<σ.parts.length→next s σ=124→σ.at_ + 1≤E→E≤s.length→G.O s E 65 (σ.at_ + 1)=true→E≤(go s f (.altL n) σ).2.at_) ∧
    (∀ σ E,8 * left s σ + 5≤f→Rd1 s σ→σ.at_≤E→E≤s.length→G.O s E 67 σ.at_=true→E≤(go s f .seq σ).2.at_) ∧
    (∀ σ n E,8 * left s σ + 4≤f→Rd1 s σ→n<σ.parts.length→σ.at_≤E→E≤s.length→G.O s E 67 σ.at_=true→E≤(go s f (.seqL n) σ).2.at_) ∧
    (∀ σ E,8 * left s σ + 3≤f→Rd1 s σ→σ.at_≤E→E≤s.length→G.O s E 82 σ.at_=true→E≤(go s f .rep σ).2.at_) ∧
    (∀ σ n E,8 * left s σ + 1≤f→Rd1 s σ→n<σ.parts.length→σ.at_≤E→E≤s.length→G.O s E 81 σ.at_=true→E≤(go s f (.repL n) σ).2.at_) ∧
    (∀ σ E,8 * left s σ + 1≤f→Rd1 s σ→σ.at_≤E→E≤s.length→G.O s E 84 σ.at_=true→E≤(go s f .term σ).2.at_)
 | 0=>⟨fun _ _ h=>by omega,fun _ _ _ h=>by omega,fun _ _ h=>by omega,fun _ _ _ h=>by omega,fun _ _ h=>by omega,fun _ _ _ h=>by omega,fun _ _ h=>by omega⟩
 | f + 1=>by
  obtain ⟨iAlt,iAltL,iSeq,iSeqL,iRep,iRepL,iTerm⟩:=c_go f
  have theA:∀ (σ τ:Rd) (n:Nat) (E:Nat),Rd1 s σ→8 * left s σ + 5≤f→σ.at_≤E→E≤s.length→G.O s E 65 σ.at_=true→(go s f .seq σ).2.at_=τ.at_→8 * left s τ + 1≤f→PartsOk τ.parts→n<τ.parts.length→(Rd1 s (go s f .seq σ).2→Rd1 s τ)→E≤(go s f (.altL n) τ).2.at_:=by
   intro σ τ n E h hf hi hE hO eτ hfτ hpτ hn hR
   have mono:τ.at_≤(go s f (.altL n) τ).2.at_:=(go_good (s:=s) f (.altL n) τ (by simp only [Job.rank]; omega) hpτ hn).1.on.at_
   have up:G.O s E 67 σ.at_=true→E≤(go s f (.altL n) τ).2.at_:=fun g=>Nat.le_trans (by rw [← eτ]; exact iSeq σ E hf h hi hE g) mono
   rcases Nat.eq_or_lt_of_le hi with e | e
   ·exact up (by rw [e]; exact G.O_end s E 67)
   ·obtain ⟨l,h1,_,h3⟩:=O_inv (by decide) e hO
    have hl:l=[67]∨l=[67,124,65]:=by
     have:l ∈ [[(67:UInt8)],[67,124,65]]:=h1
     simpa using this
    rcases hl with rfl | rfl
    ·rcases bg_two hE h3 with g | ⟨k,g1,g2,g3,g4⟩
     ·exact up g
     ·have:=bg_end g4; omega
    ·rcases bg_two hE h3 with g | ⟨k,g1,g2,g3,g4⟩
     ·exact up g
     ·obtain ⟨q1,q2⟩:=bg_lit (by decide) g2 g4
      have q1:=beq_iff_eq.1 q1
      have hdn:dnext (s.drop k)=124:=by rw [drop_at (by omega),q1]; rfl
      obtain ⟨x1,x2⟩:=exact_seq h (by omega) hf g3 (by rw [hdn]; rfl)
      have hR2:=hR x2
      have hτk:τ.at_=k:=by rw [← eτ]; exact x1
      have hn2:next s τ=124:=by rw [nx (s:=s) hR2.rs.wrong hτk (by omega),q1]; rfl
      rcases Nat.eq_or_lt_of_le (show k + 1≤E by omega) with e2 | e2
      ·refine iAltL τ n E hfτ hR2 hn hn2 (by omega) hE ?_
       rw [hτk,e2]; exact G.O_end s E 65
      ·have hO2:G.O s E 65 (k + 1)=true:=by
          rcases q2 with q2 | q2
          ·omega
          ·rcases bg_two hE q2 with g | ⟨k2,g5,g6,g7,g8⟩
           ·exact g
           ·have:=bg_end g8; omega
       exact iAltL τ n E hfτ hR2 hn hn2 (by omega) hE (by rw [hτk]; exact hO2)
  refine ⟨?_,?_,?_,?_,?_,?_,?_⟩
  ·-- alt
   intro σ E hf h hi hE hO
   have g1:=(go_good (s:=s) f .seq σ (by simp only [Job.rank]; omega) h.ok trivial).1
   have hl:=g1.on.left
   exact theA σ (go s f .seq σ).2 (go s f .seq σ).1 E h (by omega) hi hE hO rfl (by omega) g1.ok g1.lt id
  ·-- altL
   intro σ n E hf h hn hnx hi hE hO
   have hne:next s σ ≠ -1:=by rw [hnx]; decide
   have hl0:=fwd_left hne
   obtain ⟨_,p2,_⟩:=next_lt hne
   have hF:Rd1 s (fwd σ):=(h.fwd (by rw [← h.rs.next]; exact hne)).one
   have g1:=(go_good (s:=s) f .seq (fwd σ) (by simp only [Job.rank]; omega) h.ok trivial).1
   have hl:=g1.on.left
   have hn2:n<(go s f .seq (fwd σ)).2.parts.length:=Nat.lt_of_lt_of_le hn g1.len
   have hpo:PartOk (go s f .seq (fwd σ)).2.parts.length (mk 3 n (go s f .seq (fwd σ)).1):=mk_ok _ _ _ _ (by omega) (fun _=>hn2) (fun _=>g1.lt)
   rw [go_altL_yes hnx]
   exact theA (fwd σ) (add (mk 3 n (go s f .seq (fwd σ)).1) (go s f .seq (fwd σ)).2).2 _ E hF (by omega) hi hE hO rfl (by have:left s (add (mk 3 n (go s f .seq (fwd σ)).1) (go s f .seq (fwd σ)).2).2=left s (go s f .seq (fwd σ)).2:=rfl; omega) (g1.ok.add hpo) (by simp [add]) (fun x=>(x.add hpo).one)
  ·-- seq
   intro σ E hf h hi hE hO
   have hpo:PartOk σ.parts.length (mk 0 0 0):=mk_ok _ _ _ _ (by omega) (fun h=>by omega) (fun h=>by omega)
   exact iSeqL (add (mk 0 0 0) σ).2 (add (mk 0 0 0) σ).1 E (by have:left s (add (mk 0 0 0) σ).2=left s σ:=rfl; omega) (h.add hpo).one (by simp [add]) hi hE hO
  ·-- seqL
   intro σ n E hf h hn hi hE hO
   rcases Nat.eq_or_lt_of_le hi with e | e
   ·rw [← e]
    exact (go_good (s:=s) (f + 1) (.seqL n) σ (by simp only [Job.rank]; omega) h.ok hn).1.on.at_
   ·have hst:=first_C e hE hO
    have hnx:=nx (s:=s) h.rs.wrong rfl (show σ.at_<s.length by omega)
    have hse:=stops_rep hst
    have hend:¬ ends (next s σ)=true:=by rw [hnx,hse.2]; decide
    have hne:next s σ ≠ -1:=by rw [hnx]; omega
    obtain ⟨g1,adv⟩:=go_good (s:=s) f .rep σ (by simp only [Job.rank]; omega) h.ok trivial
    have hl1:left s (go s f .rep σ).2<left s σ:=adv hne
    have hn2:n<(go s f .rep σ).2.parts.length:=Nat.lt_of_lt_of_le hn g1.len
    have hpo:PartOk (go s f .rep σ).2.parts.length (mk 2 n (go s f .rep σ).1):=mk_ok _ _ _ _ (by omega) (fun _=>hn2) (fun _=>g1.lt)
    have hb:8 * left s (add (mk 2 n (go s f .rep σ).1) (go s f .rep σ).2).2 + 4≤f:=by have:left s (add (mk 2 n (go s f .rep σ).1) (go s f .rep σ).2).2=left s (go s f .rep σ).2:=rfl; omega
    rw [go_seqL_on hend]
    have mono:(go s f .rep σ).2.at_≤(go s f (.seqL (add (mk 2 n (go s f .rep σ).1) (go s f .rep σ).2).1) (add (mk 2 n (go s f .rep σ).1) (go s f .rep σ).2).2).2.at_:=(go_good (s:=s) f (.seqL (add (mk 2 n (go s f .rep σ).1) (go s f .rep σ).2).1) (add (mk 2 n (go s f .rep σ).1) (go s f .rep σ).2).2 (by simp only [Job.rank]; omega) (g1.ok.add hpo) (by simp [add,Job.ok])).1.on.at_
    have up:G.O s E 82 σ.at_=true→E≤(go s f (.seqL (add (mk 2 n (go s f .rep σ).1) (go s f .rep σ).2).1) (add (mk 2 n (go s f .rep σ).1) (go s f .rep σ).2).2).2.at_:=fun g=>Nat.le_trans (iRep σ E (by omega) h hi hE g) mono
    obtain ⟨l,h1,_,h3⟩:=O_inv (by decide) e hO
    have hl:l=[]∨l=[82,67]:=by
     have:l ∈ [[],[(82:UInt8),67]]:=h1
     simpa using this
    rcases hl with rfl | rfl
    ·have:=bg_end h3; omega
    ·rcases bg_two hE h3 with g | ⟨k,g2,g3,g4,g5⟩
     ·exact up g
     ·have hOk:G.O s E 67 k=true:=by
         rcases bg_two hE g5 with g | ⟨k2,g6,g7,g8,g9⟩
         ·exact g
         ·have:=bg_end g9; omega
      have hdn:dnext (s.drop k)=((s.getD k 0).toNat:Int):=by rw [drop_at (by omega)]; rfl
      obtain ⟨x1,x2⟩:=exact_rep h (by omega) (show 8 * left s σ + 3≤f by omega) g4 (by rw [hdn]; exact (stops_rep (first_C g3 hE hOk)).1)
      have e3:(add (mk 2 n (go s f .rep σ).1) (go s f .rep σ).2).2.at_=k:=x1
      exact iSeqL (add (mk 2 n (go s f .rep σ).1) (go s f .rep σ).2).2 _ E hb (x2.add hpo).one (by simp [add]) (by omega) hE (by rw [e3]; exact hOk)
  ·-- rep
   intro σ E hf h hi hE hO
   have g1:=(go_good (s:=s) f .term σ (by simp only [Job.rank]; omega) h.ok trivial).1
   have hl:=g1.on.left
   show E≤(go s f (.repL (go s f .term σ).1) (go s f .term σ).2).2.at_
   have mono:(go s f .term σ).2.at_≤(go s f (.repL (go s f .term σ).1) (go s f .term σ).2).2.at_:=(go_good (s:=s) f (.repL (go s f .term σ).1) (go s f .term σ).2 (by simp only [Job.rank]; omega) g1.ok g1.lt).1.on.at_
   have up:G.O s E 84 σ.at_=true→E≤(go s f (.repL (go s f .term σ).1) (go s f .term σ).2).2.at_:=fun g=>Nat.le_trans (iTerm σ E (by omega) h hi hE g) mono
   rcases Nat.eq_or_lt_of_le hi with e | e
   ·exact up (by rw [e]; exact G.O_end s E 84)
   ·obtain ⟨l,h1,_,h3⟩:=O_inv (by decide) e hO
    have hl2:l=[84,81]:=by
     have:l ∈ [[(84:UInt8),81]]:=h1
     simpa using this
    subst hl2
    rcases bg_two hE h3 with g | ⟨k,g2,g3,g4,g5⟩
    ·exact up g
    ·have hOk:G.O s E 81 k=true:=by
        rcases bg_two hE g5 with g | ⟨k2,g6,g7,g8,g9⟩
        ·exact g
        ·have:=bg_end g9; omega
     obtain ⟨x1,x2⟩:=exact_term h (by omega) (show 8 * left s σ + 1≤f by omega) g4
     exact iRepL (go s f .term σ).2 _ E (by omega) x2 g1.lt (by omega) hE (by rw [x1]; exact hOk)
  ·-- repL
   intro σ n E hf h hn hi hE hO
   rcases Nat.eq_or_lt_of_le hi with e | e
   ·rw [← e]
    exact (go_good (s:=s) (f + 1) (.repL n) σ (by simp only [Job.rank]; omega) h.ok hn).1.on.at_
   ·obtain ⟨hr,ht⟩:=c_rep n h.rs.wrong e hE hO
    obtain ⟨o1,hne⟩:=repPart_on n σ hr
    have hl1:=o1.left
    have hl2:=fwd_left hne
    have hpp:(repPart s n σ).2.parts=σ.parts:=repPart_parts n σ
    have hpo:PartOk (repPart s n σ).2.parts.length (repPart s n σ).1:=repPart_ok _ _ _ (by rw [hpp]; exact hn)
    have hok:PartsOk (repPart s n σ).2.parts:=by rw [hpp]; exact h.ok
    have hb:8 * left s (add (repPart s n σ).1 (repPart s n σ).2).2 + 1≤f:=by have:left s (add (repPart s n σ).1 (repPart s n σ).2).2=left s (repPart s n σ).2:=rfl; omega
    rw [go_repL_yes hr]
    rcases ht with ht | ⟨w,le,hO2⟩
    ·exact Nat.le_trans ht (go_good (s:=s) f (.repL (add (repPart s n σ).1 (repPart s n σ).2).1) (add (repPart s n σ).1 (repPart s n σ).2).2 (by simp only [Job.rank]; omega) (hok.add hpo) (by simp [add,Job.ok])).1.on.at_
    ·have R:Rd1 s (add (repPart s n σ).1 (repPart s n σ).2).2:=by
        have Rp:=h.rs.rep n (by rw [← h.rs.next]; exact hr)
        cases e2:drep (s.drop σ.at_) with
        | none=>rw [Rp.1 e2] at w; cases w
        | some y =>
         obtain ⟨lo,hi',en,b,r1⟩:=y
         obtain ⟨k,q1,q2⟩:=Rp.2 lo hi' en b r1 e2
         refine ⟨⟨w,?_,rfl⟩,hok.add hpo,?_⟩
         ·show (repPart s n σ).2.at_≤s.length
          omega
         ·show (repPart s n σ).2.depth≤(repPart s n σ).2.deepest
          rw [q1]
          exact h.deep
     exact iRepL (add (repPart s n σ).1 (repPart s n σ).2).2 _ E hb R (by simp [add]) le hE hO2
  ·-- term
   intro σ E hf h hi hE hO
   by_cases g:next s σ=40
   ·have hne:next s σ ≠ -1:=by rw [g]; decide
    have hl0:=opened_left hne
    obtain ⟨_,p2,_⟩:=next_lt hne
    have hf1:=h.rs.fwd (by rw [← h.rs.next]; exact hne)
    have hO1:Rd1 s (opened σ):=⟨⟨hf1.wrong,hf1.le,rfl⟩,h.ok,by simp only [opened]; split <;> omega⟩
    rw [go_term_br g]
    have mono:(go s f .alt (opened σ)).2.at_≤(closed s (go s f .alt (opened σ)).2).at_:=(closed_on (s:=s) _).at_
    have mono2:σ.at_ + 1≤(go s f .alt (opened σ)).2.at_:=(go_good (s:=s) f .alt (opened σ) (by simp only [Job.rank]; omega) h.ok trivial).1.on.at_
    show E≤(closed s (go s f .alt (opened σ)).2).at_
    rcases Nat.eq_or_lt_of_le hi with e | e
    ·omega
    ·have hnx:=nx (s:=s) h.rs.wrong rfl (show σ.at_<s.length by omega)
     have h40:s.getD σ.at_ 0=40:=byte_of (hnx.symm.trans g) 40 rfl
     obtain ⟨l,h1,_,h3⟩:=O_inv (by decide) e hO
     have hl:l=[108]∨l=[40,65,41]∨l=[46]∨l=[92,120]∨l=[91,73,93]∨l=[91,94,73,93]:=by
      have:l ∈ [[(108:UInt8)],[40,65,41],[46],[92,120],[91,73,93],[91,94,73,93]]:=h1
      simpa using this
     have no:∀ {c:UInt8} {l'},G.isNt c=false→(G.cls c 40=false)→G.bg s E (G.O s E) (c :: l') σ.at_=true→False:=by
      intro c l' hc hcl hb
      have:=(bg_lit hc e hb).1
      rw [h40,hcl] at this
      cases this
     rcases hl with rfl | rfl | rfl | rfl | rfl | rfl
     ·exact (no (by decide) (by decide) h3).elim
     ·obtain ⟨_,q2⟩:=bg_lit (by decide) e h3
      rcases q2 with q2 | q2
      ·omega
      ·rcases Nat.eq_or_lt_of_le (show σ.at_ + 1≤E by omega) with e2 | e2
       ·omega
       ·rcases bg_two hE q2 with g2 | ⟨k,g2,g3,g4,g5⟩
        ·have:=iAlt (opened σ) E (by omega) hO1 (by show σ.at_ + 1≤E; omega) hE g2
         omega
        ·obtain ⟨r1,r2⟩:=bg_lit (by decide) g3 g5
         have r1:=beq_iff_eq.1 r1
         have hE2:E=k + 1:=by
          rcases r2 with r2 | r2
          ·exact r2
          ·exact (bg_end r2).symm
         have hdn:dnext (s.drop k)=41:=by rw [drop_at (by omega),r1]; rfl
         obtain ⟨x1,x2⟩:=exact_alt hO1 (show k≤s.length by omega) (show 8 * left s (opened σ) + 6≤f by omega) g4 (.inr hdn)
         have hn2:next s (go s f .alt (opened σ)).2=41:=by rw [nx (s:=s) x2.rs.wrong x1 (by omega),r1]; rfl
         rcases closed_out (s:=s) (go s f .alt (opened σ)).2 with ⟨_,_,n1⟩ | ⟨_,e4,_⟩
         ·exact absurd hn2 n1
         ·omega
     ·exact (no (by decide) (by decide) h3).elim
     ·exact (no (by decide) (by decide) h3).elim
     ·exact (no (by decide) (by decide) h3).elim
     ·exact (no (by decide) (by decide) h3).elim
   ·rw [go_term_leaf g]
    exact c_leaf h.rs.wrong hi hE hO g
/-! a beginning of a beginning -/
theorem parts_der {g:Nat} (hg:∀ x i j,i≤j→j≤s.length→G.der s g x i j ≠ none→G.D s x i j ≠ none):∀ (l:List UInt8) (i j:Nat),j≤s.length→G.parts (G.der s g) l i j ≠ none→G.parts (G.D s) l i j ≠ none
 | [],i,j,_,h=>by
  obtain ⟨ks,hk⟩:=Option.ne_none_iff_exists'.1 h
  obtain ⟨rfl,_⟩:=parts_nil hk
  exact parts_nilk _
 | x :: l,i,j,hj,h=>by
  obtain ⟨ks,hk⟩:=Option.ne_none_iff_exists'.1 h
  obtain ⟨k,t,ks',h1,h2,h3,h4,_⟩:=parts_cons hk
  exact parts_mk (hg x i k h1 (by omega) (by rw [h3]; exact Option.some_ne_none _)) (parts_der hg l k j hj (by rw [h4]; exact Option.some_ne_none _)) h1 h2
theorem der_D:∀ (f:Nat) (x:UInt8) (i j:Nat),i≤j→j≤s.length→G.der s f x i j ≠ none→G.D s x i j ≠ none
 | 0,x,i,j,_,_,h=>absurd rfl h
 | f + 1,x,i,j,hij,hj,h=>by
  obtain ⟨τ,hτ⟩:=Option.ne_none_iff_exists'.1 h
  cases hn:G.isNt x with
  | false =>
   obtain ⟨rfl,h2,_⟩:=der_lit hn hτ
   exact D_lit hn h2
  | true =>
   obtain ⟨g,n,l,ks,e,h1,h2,h3,_⟩:=der_le hτ hn
   have e:g=f:=by omega
   subst e
   exact D_mk hn hij hj (List.mem_of_getElem? h1) h2 (parts_der (fun x i j a b c=>der_D g x i j a b c) l i j hj (by rw [h3]; exact Option.some_ne_none _))
theorem skips_less {l:List UInt8} {i E E':Nat} (h:E'≤E) (g:G.skips s l i E=false):G.skips s l i E'=false:=by
 unfold G.skips at g ⊢
 rw [Bool.and_eq_false_iff] at g ⊢
 rcases g with g | g
 ·exact .inl g
 ·right
  rw [Bool.and_eq_false_iff] at g ⊢
  rcases g with g | g
  ·left
   have:=of_decide_eq_false g
   exact decide_eq_false (by omega)
  ·exact .inr g
theorem der_O:∀ (f:Nat) (x:UInt8) (i j E:Nat),j≤s.length→i≤E→E≤j→G.der s f x i j ≠ none→G.O s E x i=true
 | 0,x,i,j,E,_,_,_,h=>absurd rfl h
 | f + 1,x,i,j,E,hj,hi,hE,h=>by
  rcases Nat.eq_or_lt_of_le hi with e | e
  ·rw [e]; exact G.O_end s E x
  obtain ⟨τ,hτ⟩:=Option.ne_none_iff_exists'.1 h
  cases hn:G.isNt x with
  | false =>
   obtain ⟨rfl,h2,_⟩:=der_lit hn hτ
   rw [G.O_term s E x i hn (by omega),h2,Bool.true_and,beq_iff_eq]
   omega
  | true =>
   obtain ⟨g,n,l,ks,e2,h1,h2,h3,_⟩:=der_le hτ hn
   have e2:g=f:=by omega
   subst e2
   refine O_mk hn e (List.mem_of_getElem? h1) (skips_less hE h2) ?_
   have key:∀ (l:List UInt8) (i:Nat) (ks:List G.Tr),i≤E→G.parts (G.der s g) l i j=some ks→G.bg s E (G.O s E) l i=true:=by
    intro l
    induction l with
    | nil =>
     intro i ks hi hp
     obtain ⟨rfl,_⟩:=parts_nil hp
     have:i=E:=by omega
     rw [this]; exact bg_nil E
    | cons y l ih =>
     intro i ks hi hp
     obtain ⟨k,t,ks',p1,p2,p3,p4,_⟩:=parts_cons hp
     have p3':G.der s g y i k ≠ none:=by rw [p3]; exact Option.some_ne_none _
     rcases Nat.lt_or_ge E k with q | q
     ·exact bg_open (der_O g y i k E (by omega) hi (by omega) p3')
     ·exact bg_step (der_D g y i k p1 (by omega) p3') p1 q (ih k ks' q p4)
   exact key l i ks hi h3
theorem opn_mono {E E':Nat} (hE:E≤s.length) (hEE:E'≤E):∀ (f:Nat) (x:UInt8) (i:Nat),i≤E'→G.opn s E f x i=true→G.O s E' x i=true
 | 0,x,i,_,h=>by cases h
 | f + 1,x,i,hi,h=>by
  rcases Nat.eq_or_lt_of_le hi with e | e
  ·rw [e]; exact G.O_end s E' x
  unfold G.opn at h
  rw [if_neg (by omega)] at h
  cases hn:G.isNt x with
  | false =>
   rw [hn,if_neg (by decide),Bool.and_eq_true,beq_iff_eq] at h
   rw [G.O_term s E' x i hn (by omega),h.1,Bool.true_and,beq_iff_eq]
   omega
  | true =>
   rw [hn,if_pos rfl,List.any_eq_true] at h
   obtain ⟨l,h1,h2⟩:=h
   rw [Bool.and_eq_true] at h2
   refine O_mk hn e h1 (skips_less hEE (by simpa using h2.1)) ?_
   have key:∀ (l:List UInt8) (i:Nat),i≤E'→G.bg s E (G.opn s E f) l i=true→G.bg s E' (G.O s E') l i=true:=by
    intro l
    induction l with
    | nil =>
     intro i hi hb
     have:i=E:=by simpa [G.bg] using hb
     have:i=E':=by omega
     rw [this]; exact bg_nil E'
    | cons y l ih =>
     intro i hi hb
     unfold G.bg at hb
     rw [Bool.or_eq_true] at hb
     rcases hb with hb | hb
     ·exact bg_open (opn_mono hE hEE f y i hi hb)
     ·obtain ⟨k,hk,e3⟩:=List.any_eq_true.1 hb
      rw [List.mem_range'_1] at hk
      rw [Bool.and_eq_true] at e3
      have hD:G.D s y i k ≠ none:=Option.isSome_iff_ne_none.1 e3.1
      rcases Nat.lt_or_ge E' k with q | q
      ·exact bg_open (der_O _ y i k E' (by omega) hi (by omega) hD)
      ·exact bg_step hD hk.1 q (ih k q e3.2)
   exact key l i hi h2.2
theorem O_mono {E E' i:Nat} {x:UInt8} (hE:E≤s.length) (hi:i≤E') (hEE:E'≤E) (h:G.O s E x i=true):G.O s E' x i=true:=opn_mono hE hEE _ x i hi h
theorem whole_wrong {s:List UInt8} (h:(whole s).2.wrong=true):G.D s 65 0 s.length=none∧(whole s).2.at_≤s.length∧(∀ k,k≤(whole s).2.at_→G.O s k 65 0=true)∧∀ k,(whole s).2.at_<k→k≤s.length→G.O s k 65 0=false:=by
 have hr:Rdy s rd0 s:=⟨⟨rfl,Nat.zero_le _,rfl⟩,fun i p h=>by simp [rd0] at h,Nat.le_refl _⟩
 have hl0:left s rd0=s.length:=rfl
 have O1:Out0 s 65 0 (top s).2:=(go_out (s:=s) (8 * s.length + 6)).1 rd0 (by rw [hl0]; omega) ⟨rfl,Nat.zero_le _,hr.ok⟩
 have C1:∀ E,E≤s.length→G.O s E 65 0=true→E≤(top s).2.at_:=fun E hE hO=>(c_go (s:=s) (8 * s.length + 6)).1 rd0 E (by rw [hl0]; omega) hr.one (Nat.zero_le _) hE hO
 obtain ⟨_,a2,a3⟩:=O1
 have hw:((top s).2.wrong || decide ((top s).2.at_<s.length))=true:=h
 have hO:G.O s (top s).2.at_ 65 0=true:=by
  rcases a3 with ⟨_,o⟩ | ⟨_,d⟩
  ·exact o
  ·exact D_O (Nat.zero_le _) a2 d
 refine ⟨?_,a2,fun k hk=>O_mono a2 (Nat.zero_le _) hk hO,fun k hk hkl=>?_⟩
 ·cases e:G.D s 65 0 s.length with
  | none=>rfl
  | some τ =>
   exfalso
   have e1:G.D s 65 0 s.length ≠ none:=by rw [e]; exact Option.some_ne_none _
   obtain ⟨x1,x2⟩:=exact_alt (s:=s) (σ:=rd0) (k:=s.length) (f:=8 * s.length + 6) hr.one (Nat.le_refl _) (by rw [hl0]; omega) e1 (.inl (by rw [List.drop_length]; rfl))
   have x3:(top s).2.wrong=false:=x2.rs.wrong
   have x4:(top s).2.at_=s.length:=x1
   rw [x3,decide_eq_false (by omega)] at hw
   cases hw
 ·cases e:G.O s k 65 0 with
  | false=>rfl
  | true =>
   have:=C1 k hkl e
   have hk:(top s).2.at_<k:=hk
   omega
theorem whole_right {s:List UInt8} (h:(whole s).2.wrong=false):G.D s 65 0 s.length ≠ none:=by
 have hr:Rdy s rd0 s:=⟨⟨rfl,Nat.zero_le _,rfl⟩,fun i p h=>by simp [rd0] at h,Nat.le_refl _⟩
 have hl0:left s rd0=s.length:=rfl
 obtain ⟨_,a2,a3⟩:Out0 s 65 0 (top s).2:=(go_out (s:=s) (8 * s.length + 6)).1 rd0 (by rw [hl0]; omega) ⟨rfl,Nat.zero_le _,hr.ok⟩
 have hw:((top s).2.wrong || decide ((top s).2.at_<s.length))=false:=h
 obtain ⟨h1,h2⟩:=Bool.or_eq_false_iff.1 hw
 have h2:=of_decide_eq_false h2
 rcases a3 with ⟨w,_⟩ | ⟨_,d⟩
 ·rw [h1] at w; cases w
 ·have:(top s).2.at_=s.length:=by omega
  rw [this] at d
  exact d
end Go.Proofs.Ytjmkkkfloalliab.Q
namespace Go.Proofs.Ytjmkkkfloalliab.Q
set_option linter.unusedVariables false
section
variable {f:Nat} {r:G.Rx}
theorem denF_byte (h:r.kind=1):denF (f + 1) r=dByte r.ins:=by
 conv=>lhs; unfold denF
 rw [if_pos h]
theorem denF_cat (h:r.kind=2):denF (f + 1) r=dCat (denF f (r.subs.getD 0 rx0)) (denF f (r.subs.getD 1 rx0)):=by
 conv=>lhs; unfold denF
 rw [if_neg (by omega),if_pos h]
theorem denF_alt (h:r.kind=3):denF (f + 1) r=dAlt (denF f (r.subs.getD 0 rx0)) (denF f (r.subs.getD 1 rx0)):=by
 conv=>lhs; unfold denF
 rw [if_neg (by omega),if_neg (by omega),if_pos h]
theorem denF_rep (h:r.kind=4):denF (f + 1) r=dRep (denF f (r.subs.getD 0 rx0)) r.lo.toNat r.hi.toNat (decide (r.hi<0)):=by
 conv=>lhs; unfold denF
 rw [if_neg (by omega),if_neg (by omega),if_neg (by omega),if_pos h]
theorem denF_eps (h:r.kind=0):denF (f + 1) r=dEps:=by
 conv=>lhs; unfold denF
 rw [if_neg (by omega),if_neg (by omega),if_neg (by omega),if_neg (by omega)]
end
theorem denF_stab (N:Nat):∀ (f:Nat) (r:G.Rx),G.RxOk N f r→denF (f + 1) r=denF f r
 | 0,r,h=>h.elim
 | f + 1,r,h=>by
  obtain ⟨_,h⟩:=h
  rcases h with h | ⟨h,_⟩ | ⟨h,a,b,e,h1,h2⟩ | ⟨h,a,e,h1,_⟩
  ·rw [denF_eps h,denF_eps h]
  ·rw [denF_byte h,denF_byte h]
  ·have e1:=denF_stab N f a h1
   have e2:=denF_stab N f b h2
   have s0:r.subs.getD 0 rx0=a:=by rw [e]; rfl
   have s1:r.subs.getD 1 rx0=b:=by rw [e]; rfl
   rcases h with h | h
   ·rw [denF_cat h,denF_cat h,s0,s1,e1,e2]
   ·rw [denF_alt h,denF_alt h,s0,s1,e1,e2]
  ·have e1:=denF_stab N f a h1
   have s0:r.subs.getD 0 rx0=a:=by rw [e]; rfl
   rw [denF_rep h,denF_rep h,s0,e1]
theorem denF_more {N f:Nat} {r:G.Rx} (h:G.RxOk N f r):∀ k,denF (f + k) r=denF f r
 | 0=>rfl
 | k + 1=>by rw [show f + (k + 1)=f + k + 1 by omega,denF_stab N (f + k) r (G.RxOk.le N f r h k)]; exact denF_more h k
theorem rd_ok {N f:Nat} {r:G.Rx} {d:Den} (h:G.RxOk N f r) (g:RD r d):denF f r=d:=by
 obtain ⟨F,hF⟩:=g
 rw [← denF_more h F]
 exact hF _ (by omega)
theorem places_den (N:Nat):∀ (f:Nat) (r:G.Rx),G.RxOk N f r→G.neverF f r=!(denF f r).some∧G.placesF f r=(denF f r).places
 | 0,r,h=>h.elim
 | f + 1,r,h=>by
  obtain ⟨_,h⟩:=h
  rcases h with h | ⟨h,_⟩ | ⟨h,a,b,e,h1,h2⟩ | ⟨h,a,e,h1,l1,l2,l3,l4⟩
  ·have e1:denF (f + 1) r=dEps:=by rw [denF,if_neg (by omega),if_neg (by omega),if_neg (by omega),if_neg (by omega)]
   have e2:G.neverF (f + 1) r=false:=by rw [G.neverF,if_neg (by omega),if_neg (by omega),if_neg (by omega),if_neg (by omega)]
   refine ⟨by rw [e1,e2]; rfl,?_⟩
   rw [G.placesF,e2,if_neg (by decide),if_neg (by omega),if_neg (by omega),if_neg (by omega),e1]
   rfl
  ·have e1:denF (f + 1) r=dByte r.ins:=by rw [denF,if_pos h]
   have e2:G.neverF (f + 1) r=!(anyIn r.ins):=by rw [G.neverF,if_pos h]; rfl
   refine ⟨by rw [e1,e2]; rfl,?_⟩
   rw [G.placesF,e2,e1]
   show _=cutP (anyIn r.ins) 1
   cases anyIn r.ins with
   | false=>rfl
   | true=>rw [if_neg (by decide),if_pos h]; rfl
  ·obtain ⟨a1,a2⟩:=places_den N f a h1
   obtain ⟨b1,b2⟩:=places_den N f b h2
   have s0:r.subs.getD 0 ⟨0,[],[],0,0,0⟩=a:=by rw [e]; rfl
   have s1:r.subs.getD 1 ⟨0,[],[],0,0,0⟩=b:=by rw [e]; rfl
   rcases h with h | h
   ·have e1:denF (f + 1) r=dCat (denF f a) (denF f b):=by rw [denF,if_neg (by omega),if_pos h]; unfold rx0; rw [s0,s1]
    have e2:G.neverF (f + 1) r=!((denF f a).some && (denF f b).some):=by rw [G.neverF,if_neg (by omega),if_pos h,s0,s1,a1,b1,Bool.not_and]
    refine ⟨by rw [e1,e2]; rfl,?_⟩
    rw [G.placesF,e2,e1]
    show _=cutP ((denF f a).some && (denF f b).some) ((denF f a).places + (denF f b).places)
    rw [if_neg (show ¬ r.kind=1 by omega),if_pos (show r.kind=2∨r.kind=3 from .inl h),s0,s1,a2,b2]
    cases (denF f a).some && (denF f b).some with
    | false=>rfl
    | true=>rfl
   ·have e1:denF (f + 1) r=dAlt (denF f a) (denF f b):=by rw [denF,if_neg (by omega),if_neg (by omega),if_pos h]; unfold rx0; rw [s0,s1]
    have e2:G.neverF (f + 1) r=!((denF f a).some || (denF f b).some):=by rw [G.neverF,if_neg (by omega),if_neg (by omega),if_pos h,s0,s1,a1,b1,Bool.not_or]
    refine ⟨by rw [e1,e2]; rfl,?_⟩
    rw [G.placesF,e2,e1]
    show _=cutP ((denF f a).some || (denF f b).some) ((denF f a).places + (denF f b).places)
    rw [if_neg (show ¬ r.kind=1 by omega),if_pos (show r.kind=2∨r.kind=3 from .inr h),s0,s1,a2,b2]
    cases (denF f a).some || (denF f b).some with
    | false=>rfl
    | true=>rfl
  ·obtain ⟨a1,a2⟩:=places_den N f a h1
   have s0:r.subs.getD 0 ⟨0,[],[],0,0,0⟩=a:=by rw [e]; rfl
   have e1:denF (f + 1) r=dRep (denF f a) r.lo.toNat r.hi.toNat (decide (r.hi<0)):=by rw [denF,if_neg (by omega),if_neg (by omega),if_neg (by omega),if_pos h]; unfold rx0; rw [s0]
   have e0:decide (0<r.lo)=!(decide (r.lo.toNat=0)):=by
    by_cases g:r.lo=0
    ·rw [g]; rfl
    ·rw [decide_eq_true (by omega),decide_eq_false (by omega)]; rfl
   have e2:G.neverF (f + 1) r=!((denF f a).some || decide (r.lo.toNat=0)):=by rw [G.neverF,if_neg (by omega),if_neg (by omega),if_neg (by omega),if_pos h,s0,a1,e0,Bool.not_or]
   refine ⟨by rw [e1,e2]; rfl,?_⟩
   rw [G.placesF,e2,e1]
   show _=cutP ((denF f a).some || decide (r.lo.toNat=0)) ((denF f a).places * (if decide (r.hi<0)=true then r.lo.toNat + 1 else r.hi.toNat))
   rw [if_neg (show ¬ r.kind=1 by omega),if_neg (show ¬ (r.kind=2∨r.kind=3) by omega),if_pos h,s0,a2]
   have e3:(if r.hi<0 then r.lo + 1 else r.hi).toNat=if decide (r.hi<0)=true then r.lo.toNat + 1 else r.hi.toNat:=by
    by_cases g:r.hi<0
    ·rw [if_pos g,if_pos (decide_eq_true g)]; omega
    ·rw [if_neg g,if_neg (by rw [decide_eq_false g]; decide)]
   rw [e3]
   cases (denF f a).some || decide (r.lo.toNat=0) with
   | false=>rfl
   | true=>rfl
theorem parse_doc (s:List UInt8) (hs:s.length≤40) :
    (G.D s 65 0 s.length=none→∃ k,parse s=.error (3,k + 1)∧k≤s.length∧(∀ j,j≤k→G.O s j 65 0=true)∧∀ j,k<j→j≤s.length→G.O s j 65 0=false) ∧
    ∀ τ,G.D s 65 0 s.length=some τ→∃ d,W d∧RD (G.exF (8 * s.length + 16) τ 0 ⟨0,false,0⟩).1 d ∧
     ((G.exF (8 * s.length + 16) τ 0 ⟨0,false,0⟩).2.back=true→parse s=.error (4,0)) ∧
     ((G.exF (8 * s.length + 16) τ 0 ⟨0,false,0⟩).2.back=false→(6<(G.exF (8 * s.length + 16) τ 0 ⟨0,false,0⟩).2.depth∨48<d.places)→parse s=.error (5,0)) ∧
     ((G.exF (8 * s.length + 16) τ 0 ⟨0,false,0⟩).2.back=false→(G.exF (8 * s.length + 16) τ 0 ⟨0,false,0⟩).2.depth≤6→d.places≤48→∃ P,parse s=.ok P∧(∀ u,acc P u=true ↔ (u ≠ []∧d.lang u))∧∀ u,u ≠ []→(pl P u ≠ 0 ↔ ∃ v,d.lang (v ++ u))):=by
 refine ⟨fun h=>?_,fun τ h=>?_⟩
 ·cases hw:(whole s).2.wrong with
  | false=>exact absurd h (whole_right hw)
  | true =>
   obtain ⟨_,h2,h3,h4⟩:=whole_wrong hw
   refine ⟨(whole s).2.at_,?_,h2,h3,h4⟩
   unfold parse
   rw [if_neg (by omega),if_pos hw]
 ·obtain ⟨d,b,m,w,hM,F,d',e1,hd⟩:=der_read h
  obtain ⟨m1,m2,m3⟩:=hM 0 ⟨0,false,0⟩ (Nat.le_refl _)
  have hb:(G.exF (8 * s.length + 16) τ 0 ⟨0,false,0⟩).2.back=b:=by rw [m2]; rfl
  have hm:(G.exF (8 * s.length + 16) τ 0 ⟨0,false,0⟩).2.depth=m:=by rw [m3]; show max 0 (0 + m)=m; omega
  have hnw:(whole s).2.wrong=false:=by
   cases hw:(whole s).2.wrong with
   | false=>rfl
   | true=>rw [(whole_wrong hw).1] at h; cases h
  have hr:Rdy s rd0 s:=⟨⟨rfl,Nat.zero_le _,rfl⟩,fun i p h=>by simp [rd0] at h,Nat.le_refl _⟩
  have C:Corr s rd0 (top s) (dgo (8 * s.length + 6) .alt s):=(corr_go (s:=s) (8 * s.length + 6)).1 rd0 s (Nat.le_refl _) hr
  have e2:dgo (8 * s.length + 6) .alt s=some (d',[],b,m):=by
   cases e:dgo (8 * s.length + 6) .alt s with
   | none =>
    have:=C.1 e
    have h5:((top s).2.wrong || decide ((top s).2.at_<s.length))=false:=hnw
    rw [this] at h5
    cases h5
   | some y =>
    have a1:=dgo_more e (show 8 * s.length + 6≤8 * s.length + 6 + F by omega)
    have a2:=dgo_more e1 (show F≤8 * s.length + 6 + F by omega)
    rw [a1] at a2
    exact a2
  obtain ⟨_,p2,p3⟩:=parse_den s
  obtain ⟨q1,q2,q3⟩:=p2 hs d' b m e2
  refine ⟨d,w,m1,?_,?_,?_⟩
  ·intro g
   exact q1 (by rw [← hb]; exact g)
  ·intro g g2
   exact q2 (by rw [← hb]; exact g) (by rw [← hm,hd.places]; exact g2)
  ·intro g g2 g3
   obtain ⟨P,k1,k2⟩:=q3 (by rw [← hb]; exact g) (by rw [← hm]; exact g2) (by rw [hd.places]; exact g3)
   obtain ⟨d2,m2',j1,_,_,_,_,j2,j3⟩:=p3 P k1
   rw [e2] at j1
   have e3:d'=d2:=by
    simp only [Option.some.injEq,Prod.mk.injEq] at j1
    exact j1.1
   subst e3
   refine ⟨P,k1,fun u=>by rw [k2 u,hd.lang u],fun u hu=>?_⟩
   rw [j3 u hu]
   constructor
   ·rintro ⟨v,hv⟩; exact ⟨v,(hd.lang _).1 hv⟩
   ·rintro ⟨v,hv⟩; exact ⟨v,(hd.lang _).2 hv⟩
end Go.Proofs.Ytjmkkkfloalliab.Q
namespace Go.Proofs.Ytjmkkkfloalliab.Q
set_option linter.unusedVariables false
def seg (t:List UInt8) (i j:Nat):List UInt8:=(t.drop i).take (j - i)
variable {t:List UInt8}
theorem seg_self (i:Nat):seg t i i=[]:=by unfold seg; rw [Nat.sub_self,List.take_zero]
theorem seg_len {i j:Nat} (hij:i≤j) (hj:j≤t.length):(seg t i j).length=j - i:=by
 unfold seg
 rw [List.length_take,List.length_drop]
 omega
theorem seg_add {i k j:Nat} (h1:i≤k) (h2:k≤j):seg t i j=seg t i k ++ seg t k j:=by
 unfold seg
 rw [show j - i=(k - i) + (j - k) by omega,List.take_add,List.drop_drop,show i + (k - i)=k by omega]
theorem seg_split {i j:Nat} {x y:List UInt8} (hij:i≤j) (hj:j≤t.length) (h:seg t i j=x ++ y):i + x.length≤j∧x=seg t i (i + x.length)∧y=seg t (i + x.length) j:=by
 have hl:=congrArg List.length h
 rw [seg_len hij hj,List.length_append] at hl
 have h1:i + x.length≤j:=by omega
 have h2:=seg_add (t:=t) (i:=i) (k:=i + x.length) (j:=j) (by omega) h1
 rw [h] at h2
 have h3:x.length=(seg t i (i + x.length)).length:=by rw [seg_len (by omega) (by omega)]; omega
 obtain ⟨a,b⟩:=List.append_inj h2 h3
 exact ⟨h1,a,b⟩
theorem seg_one {i:Nat} (hi:i<t.length):seg t i (i + 1)=[t.getD i 0]:=by
 unfold seg
 rw [show i + 1 - i=1 by omega,List.drop_eq_getElem_cons hi,List.take_succ_cons,List.take_zero,List.getD_eq_getElem?_getD,List.getElem?_eq_getElem hi]
 rfl
def EndsAt (t:List UInt8) (A:Lang) (i j:Nat):Prop:=i≤j∧j≤t.length∧A (seg t i j)
theorem ends_eps {i j:Nat} (hi:i≤t.length):EndsAt t dEps.lang i j ↔ j=i:=by
 constructor
 ·rintro ⟨h1,h2,h3⟩
  have h3:seg t i j=[]:=h3
  have:=seg_len h1 h2
  rw [h3] at this
  simp at this
  omega
 ·rintro rfl
  exact ⟨Nat.le_refl _,hi,seg_self _⟩
theorem ends_byte {i j:Nat} {ins:List Bool}:EndsAt t (dByte ins).lang i j ↔ (i<t.length∧j=i + 1∧ins.getD (t.getD i 0).toNat false=true):=by
 constructor
 ·rintro ⟨h1,h2,c,h3,h4⟩
  have hl:=seg_len h1 h2
  rw [h3] at hl
  simp at hl
  have hj:j=i + 1:=by omega
  subst hj
  rw [seg_one (by omega)] at h3
  have hc:t.getD i 0=c:=by simpa using h3
  rw [hc]
  exact ⟨by omega,rfl,h4⟩
 ·rintro ⟨h1,rfl,h3⟩
  exact ⟨by omega,h1,t.getD i 0,seg_one h1,h3⟩
theorem ends_alt {i j:Nat} {a b:Den}:EndsAt t (dAlt a b).lang i j ↔ (EndsAt t a.lang i j∨EndsAt t b.lang i j):=by
 constructor
 ·rintro ⟨h1,h2,h3 | h3⟩
  ·exact .inl ⟨h1,h2,h3⟩
  ·exact .inr ⟨h1,h2,h3⟩
 ·rintro (⟨h1,h2,h3⟩ | ⟨h1,h2,h3⟩)
  ·exact ⟨h1,h2,.inl h3⟩
  ·exact ⟨h1,h2,.inr h3⟩
theorem ends_cat {i j:Nat} {A B:Lang}:EndsAt t (Cat A B) i j ↔ ∃ k,EndsAt t A i k∧EndsAt t B k j:=by
 constructor
 ·rintro ⟨h1,h2,x,y,h3,h4,h5⟩
  obtain ⟨a1,a2,a3⟩:=seg_split h1 h2 h3
  exact ⟨i + x.length,⟨by omega,by omega,by rw [← a2]; exact h4⟩,⟨a1,h2,by rw [← a3]; exact h5⟩⟩
 ·rintro ⟨k,⟨h1,h2,h3⟩,⟨h4,h5,h6⟩⟩
  exact ⟨by omega,h5,seg t i k,seg t k j,seg_add h1 h4,h3,h6⟩
theorem ends_pow_zero {i j:Nat} {A:Lang} (hi:i≤t.length):EndsAt t (Pow A 0) i j ↔ j=i:=ends_eps hi
theorem ends_pow_succ {i j c:Nat} {A:Lang}:EndsAt t (Pow A (c + 1)) i j ↔ ∃ k,EndsAt t (Pow A c) i k∧EndsAt t A k j:=by
 rw [← ends_cat]
 constructor
 ·rintro ⟨h1,h2,h3⟩
  obtain ⟨x,y,e,a,b⟩:=pow_add.1 h3
  exact ⟨h1,h2,x,y,e,a,pow_one.1 b⟩
 ·rintro ⟨h1,h2,x,y,e,a,b⟩
  exact ⟨h1,h2,pow_add.2 ⟨x,y,e,a,pow_one.2 b⟩⟩
theorem pow_less {A:Lang}:∀ (c:Nat) (u:List UInt8),u.length≤c→Pow A (c + 1) u→Pow A c u
 | 0,u,hl,⟨x,y,e,h1,h2⟩=>by
  show u=[]
  exact List.length_eq_zero_iff.1 (by omega)
 | c + 1,u,hl,⟨x,y,e,h1,h2⟩=>by
  by_cases hx:x=[]
  ·subst hx
   rw [e,List.nil_append]
   exact h2
  ·have hx2:0<x.length:=List.length_pos_iff.2 hx
   have hle:=congrArg List.length e
   rw [List.length_append] at hle
   exact ⟨x,y,e,h1,pow_less c y (by omega) h2⟩
theorem pow_cap {A:Lang} {lo n:Nat} {u:List UInt8} (hu:u.length≤n):∀ d c,c=lo + n + d→Pow A c u→∃ c',lo≤c'∧c'≤lo + n∧Pow A c' u
 | 0,c,hc,h=>⟨c,by omega,by omega,h⟩
 | d + 1,c,hc,h=>by
  subst hc
  exact pow_cap hu d (lo + n + d) rfl (pow_less (lo + n + d) u (by omega) h)
theorem endsAt_rep {i j:Nat} {a:Den} {lo hi:Nat} {en:Bool}:EndsAt t (dRep a lo hi en).lang i j ↔ ∃ c,lo≤c∧c≤(if en=true then lo + t.length + 1 else hi)∧EndsAt t (Pow a.lang c) i j:=by
 constructor
 ·rintro ⟨h1,h2,c,h3,h4,h5⟩
  cases en with
  | false =>
   rcases h4 with h4 | h4
   ·cases h4
   ·exact ⟨c,h3,h4,h1,h2,h5⟩
  | true =>
   rcases Nat.lt_or_ge c (lo + t.length) with g | g
   ·exact ⟨c,h3,by simp; omega,h1,h2,h5⟩
   ·obtain ⟨c',k1,k2,k3⟩:=pow_cap (lo:=lo) (n:=t.length) (u:=seg t i j) (by rw [seg_len h1 h2]; omega) (c - (lo + t.length)) c (by omega) h5
    exact ⟨c',k1,by simp; omega,h1,h2,k3⟩
 ·rintro ⟨c,h1,h2,h3,h4,h5⟩
  refine ⟨h3,h4,c,h1,?_,h5⟩
  cases en with
  | true=>exact .inl rfl
  | false=>exact .inr (by simpa using h2)
def TailAt (t:List UInt8) (A:Lang) (i j:Nat):Prop:=i≤j∧j≤t.length∧∃ v,A (v ++ seg t i j)
theorem tail_here {i:Nat} {A:Lang} (hi:i≤t.length) (h:∃ u,A u):TailAt t A i i:=by
 obtain ⟨u,hu⟩:=h
 exact ⟨Nat.le_refl _,hi,u,by rw [seg_self,List.append_nil]; exact hu⟩
theorem tail_none {i j:Nat} {A:Lang} (h:∀ u,¬ A u):¬ TailAt t A i j:=by
 rintro ⟨_,_,v,hv⟩
 exact h _ hv
theorem tail_byte {i j:Nat} {ins:List Bool} (hi:i≤t.length) (h:∃ u,(dByte ins).lang u):TailAt t (dByte ins).lang i j ↔ (j=i∨EndsAt t (dByte ins).lang i j):=by
 constructor
 ·rintro ⟨h1,h2,v,c,h3,h4⟩
  have hl:=congrArg List.length h3
  rw [List.length_append,seg_len h1 h2] at hl
  simp at hl
  by_cases hj:j=i
  ·exact .inl hj
  ·right
   have hv:v=[]:=List.length_eq_zero_iff.1 (by omega)
   subst hv
   exact ⟨h1,h2,c,h3,h4⟩
 ·rintro (rfl | ⟨h1,h2,h3⟩)
  ·exact tail_here hi h
  ·exact ⟨h1,h2,[],h3⟩
theorem tail_eps {i j:Nat} (hi:i≤t.length):TailAt t dEps.lang i j ↔ j=i:=by
 constructor
 ·rintro ⟨h1,h2,v,h3⟩
  have h3:v ++ seg t i j=[]:=h3
  have hl:=congrArg List.length h3
  rw [List.length_append,seg_len h1 h2] at hl
  simp at hl
  omega
 ·rintro rfl
  exact tail_here hi ⟨[],rfl⟩
theorem tail_alt {i j:Nat} {a b:Den}:TailAt t (dAlt a b).lang i j ↔ (TailAt t a.lang i j∨TailAt t b.lang i j):=by
 constructor
 ·rintro ⟨h1,h2,v,h3 | h3⟩
  ·exact .inl ⟨h1,h2,v,h3⟩
  ·exact .inr ⟨h1,h2,v,h3⟩
 ·rintro (⟨h1,h2,v,h3⟩ | ⟨h1,h2,v,h3⟩)
  ·exact ⟨h1,h2,v,.inl h3⟩
  ·exact ⟨h1,h2,v,.inr h3⟩
theorem tail_cat {i j:Nat} {A B:Lang} (hA:∃ u,A u):TailAt t (Cat A B) i j ↔ ((∃ k,TailAt t A i k∧EndsAt t B k j)∨TailAt t B i j):=by
 constructor
 ·rintro ⟨h1,h2,v,x,y,h3,h4,h5⟩
  rcases Nat.le_total v.length x.length with g | g
  ·-- the end reaches into A
   left
   obtain ⟨z,hz⟩:∃ z,x=v ++ z:=by
    have:=List.append_eq_append_iff.1 h3
    rcases this with ⟨p,q1,q2⟩ | ⟨p,q1,q2⟩
    ·exact ⟨p,q1⟩
    ·have hl:=congrArg List.length q1
     rw [List.length_append] at hl
     have:p=[]:=List.length_eq_zero_iff.1 (by omega)
     subst this
     exact ⟨[],by simpa using q1.symm⟩
   subst hz
   rw [List.append_assoc] at h3
   have h6:=List.append_cancel_left h3
   obtain ⟨a1,a2,a3⟩:=seg_split h1 h2 h6
   exact ⟨i + z.length,⟨by omega,by omega,v,by rw [← a2]; exact h4⟩,⟨a1,h2,by rw [← a3]; exact h5⟩⟩
  ·right
   obtain ⟨z,hz⟩:∃ z,v=x ++ z:=by
    have:=List.append_eq_append_iff.1 h3
    rcases this with ⟨p,q1,q2⟩ | ⟨p,q1,q2⟩
    ·have hl:=congrArg List.length q1
     rw [List.length_append] at hl
     have:p=[]:=List.length_eq_zero_iff.1 (by omega)
     subst this
     exact ⟨[],by simpa using q1.symm⟩
    ·exact ⟨p,q1⟩
   subst hz
   rw [List.append_assoc] at h3
   have h6:=List.append_cancel_left h3
   exact ⟨h1,h2,z,by rw [h6]; exact h5⟩
 ·rintro (⟨k,⟨h1,h2,v,h3⟩,⟨h4,h5,h6⟩⟩ | ⟨h1,h2,v,h3⟩)
  ·exact ⟨by omega,h5,v,v ++ seg t i k,seg t k j,by rw [List.append_assoc,← seg_add h1 h4],h3,h6⟩
  ·obtain ⟨u,hu⟩:=hA
   exact ⟨h1,h2,u ++ v,u,v ++ seg t i j,by rw [List.append_assoc],hu,h3⟩
theorem tail_pow {i j:Nat} {A:Lang} (hA:∃ u,A u):∀ (c:Nat),TailAt t (Pow A (c + 1)) i j ↔ ∃ k c',c'≤c∧TailAt t A i k∧EndsAt t (Pow A c') k j
 | 0=>by
  constructor
  ·rintro ⟨h1,h2,v,h3⟩
   exact ⟨j,0,Nat.le_refl _,⟨h1,h2,v,pow_one.1 h3⟩,(ends_pow_zero h2).2 rfl⟩
  ·rintro ⟨k,c',hc,⟨h1,h2,v,h3⟩,h4⟩
   obtain rfl:c'=0:=by omega
   have:=(ends_pow_zero h2).1 h4
   subst this
   exact ⟨h1,h2,v,pow_one.2 h3⟩
 | c + 1=>by
  have e:TailAt t (Pow A (c + 1 + 1)) i j ↔ TailAt t (Cat A (Pow A (c + 1))) i j:=Iff.rfl
  rw [e,tail_cat hA,tail_pow hA c]
  constructor
  ·rintro (⟨k,h1,h2⟩ | ⟨k,c',h1,h2,h3⟩)
   ·exact ⟨k,c + 1,Nat.le_refl _,h1,h2⟩
   ·exact ⟨k,c',by omega,h2,h3⟩
  ·rintro ⟨k,c',h1,h2,h3⟩
   rcases Nat.lt_or_ge c c' with g | g
   ·obtain rfl:c'=c + 1:=by omega
    exact .inl ⟨k,h2,h3⟩
   ·exact .inr ⟨k,c',g,h2,h3⟩
theorem tail_rep {i j:Nat} {a:Den} {lo hi:Nat} {en:Bool} (hi0:i≤t.length) (hb:en=true∨lo≤hi) (hs:a.some=true→∃ u,a.lang u) (hn:a.some=false→∀ u,¬ a.lang u) (hr:a.some=true∨lo=0) :
    TailAt t (dRep a lo hi en).lang i j ↔ (j=i∨((en=true∨0<hi)∧∃ k c,c≤(if en=true then t.length + 1 else hi - 1)∧TailAt t a.lang i k∧EndsAt t (Pow a.lang c) k j)):=by
 constructor
 ·rintro ⟨h1,h2,v,m,h3,h4,h5⟩
  cases m with
  | zero =>
   left
   have h5:v ++ seg t i j=[]:=h5
   have hl:=congrArg List.length h5
   rw [List.length_append,seg_len h1 h2] at hl
   simp at hl
   omega
  | succ m =>
   right
   have hA:∃ u,a.lang u:=by
    obtain ⟨x,y,_,hx,_⟩:=h5
    exact ⟨x,hx⟩
   obtain ⟨k,c,k1,k2,k3⟩:=(tail_pow (t:=t) (i:=i) (j:=j) hA m).1 ⟨h1,h2,v,h5⟩
   cases en with
   | false =>
    rcases h4 with h4 | h4
    ·cases h4
    ·exact ⟨.inr (by omega),k,c,by simp; omega,k2,k3⟩
   | true =>
    refine ⟨.inl rfl,?_⟩
    rcases Nat.lt_or_ge c (t.length + 1) with g | g
    ·exact ⟨k,c,by simp; omega,k2,k3⟩
    ·obtain ⟨c',p1,p2,p3⟩:=pow_cap (lo:=0) (n:=t.length) (u:=seg t k j) (by rw [seg_len k3.1 k3.2.1]; omega) (c - t.length) c (by omega) k3.2.2
     exact ⟨k,c',by simp; omega,k2,k3.1,k3.2.1,p3⟩
 ·rintro (rfl | ⟨h1,k,c,h2,h3,h4⟩)
  ·refine tail_here hi0 ?_
   rcases hr with h | h
   ·obtain ⟨u,hu⟩:=hs h
    have pw:∀ m,∃ v,Pow a.lang m v:=by
     intro m
     induction m with
     | zero=>exact ⟨[],rfl⟩
     | succ m ih =>
      obtain ⟨v,hv⟩:=ih
      exact ⟨u ++ v,u,v,rfl,hu,hv⟩
    obtain ⟨v,hv⟩:=pw lo
    exact ⟨v,lo,Nat.le_refl _,hb,hv⟩
   ·exact ⟨[],0,by omega,.inr (Nat.zero_le _),rfl⟩
  ·have hA:∃ u,a.lang u:=by
      obtain ⟨_,_,v,hv⟩:=h3
      exact ⟨_,hv⟩
   obtain ⟨m,hm1,hm2,hm3⟩:∃ m,lo≤m + 1∧(en=true∨m + 1≤hi)∧c≤m:=by
    cases en with
    | true=>exact ⟨lo + c,by omega,.inl rfl,by omega⟩
    | false =>
     have hb2:lo≤hi:=by rcases hb with h | h; (· cases h); exact h
     have h1':0<hi:=by rcases h1 with h | h; (· cases h); exact h
     have h2':c≤hi - 1:=by simpa using h2
     exact ⟨hi - 1,by omega,.inr (by omega),h2'⟩
   obtain ⟨q1,q2,v,q3⟩:=(tail_pow (t:=t) (i:=i) (j:=j) hA m).2 ⟨k,c,hm3,h3,h4⟩
   exact ⟨q1,q2,v,m + 1,hm1,hm2,q3⟩
end Go.Proofs.Ytjmkkkfloalliab.Q
namespace Go.Proofs.Ytjmkkkfloalliab
set_option linter.unusedVariables false
namespace G
def Ids (D:Nat→Rx) (lo hi:Nat):Nat→Rx→Prop
 | 0,_=>True
 | f + 1,r=>lo≤r.id∧r.id<hi∧D r.id=r∧∀ a,a ∈ r.subs→Ids D lo hi f a
theorem Ids.mono {D D':Nat→Rx} {lo hi lo' hi':Nat} (h1:lo'≤lo) (h2:hi≤hi') (hD:∀ k,k<hi→D' k=D k):∀ (f:Nat) (r:Rx),Ids D lo hi f r→Ids D' lo' hi' f r
 | 0,_,_=>trivial
 | f + 1,r,⟨a,b,c,d⟩=>⟨by omega,by omega,by rw [hD _ b,c],fun x hx=>Ids.mono h1 h2 hD f x (d x hx)⟩
def Fwd:Nat→Rx→Prop
 | 0,_=>True
 | f + 1,r=>(r.kind=4→r.hi<0∨r.lo≤r.hi)∧∀ a,a ∈ r.subs→Fwd f a
end G
namespace Q
def EN (t:List UInt8) (D:Nat→G.Rx) (F k i x:Nat):Prop:=EndsAt t (denF F (D k)).lang i x
def TN (t:List UInt8) (D:Nat→G.Rx) (F k i x:Nat):Prop:=TailAt t (denF F (D k)).lang i x
def PN (t:List UInt8) (D:Nat→G.Rx) (F k c i x:Nat):Prop:=EndsAt t (Pow (denF F (D k)).lang c) i x
variable {t:List UInt8} {D:Nat→G.Rx} {F N f lo hi:Nat} {r:G.Rx}
theorem ids_self (hO:G.RxOk N f r) (hI:G.Ids D lo hi f r):D r.id=r:=by
 cases f with
 | zero=>exact hO.elim
 | succ f=>exact hI.2.2.1
theorem den_self (hO:G.RxOk N f r) (hI:G.Ids D lo hi f r) (hF:f≤F):denF F (D r.id)=denF f r:=by
 rw [ids_self hO hI]
 obtain ⟨k,rfl⟩:=Nat.exists_eq_add_of_le hF
 exact denF_more hO k
theorem sub0 {a:G.Rx} {l:List G.Rx} (e:r.subs=a :: l):r.subs.getD 0 rx0=a:=by rw [e]; rfl
theorem sub1 {a b:G.Rx} {l:List G.Rx} (e:r.subs=a :: b :: l):r.subs.getD 1 rx0=b:=by rw [e]; rfl
section
theorem en_eps (hO:G.RxOk N (f + 1) r) (hI:G.Ids D lo hi (f + 1) r) (hF:f + 1≤F) (hk:r.kind=0) {i x:Nat} (hi:i≤t.length):EN t D F r.id i x ↔ x=i:=by
 unfold EN; rw [den_self hO hI hF,denF_eps hk]; exact ends_eps hi
theorem en_byte (hO:G.RxOk N (f + 1) r) (hI:G.Ids D lo hi (f + 1) r) (hF:f + 1≤F) (hk:r.kind=1) {i x:Nat}:EN t D F r.id i x ↔ (i<t.length∧x=i + 1∧r.ins.getD (t.getD i 0).toNat false=true):=by
 unfold EN; rw [den_self hO hI hF,denF_byte hk]; exact ends_byte
theorem en_alt (hO:G.RxOk N (f + 1) r) (hI:G.Ids D lo hi (f + 1) r) (hF:f + 1≤F) (hk:r.kind=3) {a b:G.Rx} (e:r.subs=[a,b]) (oa:G.RxOk N f a) (ob:G.RxOk N f b) {i x:Nat}:EN t D F r.id i x ↔ (EN t D F a.id i x∨EN t D F b.id i x):=by
 have ia:=hI.2.2.2 a (by rw [e]; simp)
 have ib:=hI.2.2.2 b (by rw [e]; simp)
 unfold EN; rw [den_self hO hI hF,denF_alt hk,sub0 e,sub1 e,den_self oa ia (by omega),den_self ob ib (by omega)]; exact ends_alt
theorem en_cat (hO:G.RxOk N (f + 1) r) (hI:G.Ids D lo hi (f + 1) r) (hF:f + 1≤F) (hk:r.kind=2) {a b:G.Rx} (e:r.subs=[a,b]) (oa:G.RxOk N f a) (ob:G.RxOk N f b) {i x:Nat}:EN t D F r.id i x ↔ ∃ k,EN t D F a.id i k∧EN t D F b.id k x:=by
 have ia:=hI.2.2.2 a (by rw [e]; simp)
 have ib:=hI.2.2.2 b (by rw [e]; simp)
 unfold EN; rw [den_self hO hI hF,denF_cat hk,sub0 e,sub1 e,den_self oa ia (by omega),den_self ob ib (by omega)]; exact ends_cat
theorem en_rep (hO:G.RxOk N (f + 1) r) (hI:G.Ids D lo hi (f + 1) r) (hF:f + 1≤F) (hk:r.kind=4) {a:G.Rx} (e:r.subs=[a]) (oa:G.RxOk N f a) {i x:Nat}:EN t D F r.id i x ↔ ∃ c,r.lo.toNat≤c∧c≤(if r.hi<0 then r.lo.toNat + t.length + 1 else r.hi.toNat)∧PN t D F a.id c i x:=by
 have ia:=hI.2.2.2 a (by rw [e]; simp)
 unfold EN PN; rw [den_self hO hI hF,denF_rep hk,sub0 e,den_self oa ia (by omega),endsAt_rep]
 simp only [decide_eq_true_eq]
end
theorem pn_zero {k i x:Nat} (hi:i≤t.length):PN t D F k 0 i x ↔ x=i:=ends_pow_zero hi
theorem pn_succ {k c i x:Nat}:PN t D F k (c + 1) i x ↔ ∃ y,PN t D F k c i y∧EN t D F k y x:=ends_pow_succ
theorem fine_den:∀ (f:Nat) (r:G.Rx),G.RxOk N f r→G.Fwd f r→Fine (denF f r)
 | 0,_,h,_=>h.elim
 | f + 1,r,⟨_,h⟩,⟨g1,g2⟩=>by
  rcases h with h | ⟨h,hl⟩ | ⟨h,a,b,e,h1,h2⟩ | ⟨h,a,e,h1,l1,l2,l3,l4⟩
  ·rw [denF_eps h]; exact fine_eps
  ·rw [denF_byte h]; exact fine_byte _ hl
  ·have fa:=fine_den f a h1 (g2 a (by rw [e]; simp))
   have fb:=fine_den f b h2 (g2 b (by rw [e]; simp))
   rcases h with h | h
   ·rw [denF_cat h,sub0 e,sub1 e]; exact fine_cat fa fb
   ·rw [denF_alt h,sub0 e,sub1 e]; exact fine_alt fa fb
  ·have fa:=fine_den f a h1 (g2 a (by rw [e]; simp))
   rw [denF_rep h,sub0 e]
   exact fine_rep fa (by rcases g1 h with g | g; (· exact .inl (decide_eq_true g)); exact .inr (by omega))
section
theorem tn_never (hO:G.RxOk N (f + 1) r) (hI:G.Ids D lo hi (f + 1) r) (hF:f + 1≤F) (hW:G.Fwd (f + 1) r) (hs:G.neverF (f + 1) r=true) {i x:Nat}:¬ TN t D F r.id i x:=by
 have h1:=(places_den N _ _ hO).1
 have h2:(denF (f + 1) r).some=false:=by rw [hs] at h1; cases h:(denF (f + 1) r).some with
  | false=>rfl
  | true=>rw [h] at h1; cases h1
 unfold TN; rw [den_self hO hI hF]
 exact tail_none ((fine_den _ _ hO hW).som h2)
theorem tn_here (hO:G.RxOk N (f + 1) r) (hI:G.Ids D lo hi (f + 1) r) (hF:f + 1≤F) (hW:G.Fwd (f + 1) r) (hs:G.neverF (f + 1) r=false) {i:Nat} (hi:i≤t.length):TN t D F r.id i i:=by
 have h1:=(places_den N _ _ hO).1
 have h2:(denF (f + 1) r).some=true:=by rw [hs] at h1; cases h:(denF (f + 1) r).some with
  | true=>rfl
  | false=>rw [h] at h1; cases h1
 unfold TN; rw [den_self hO hI hF]
 exact tail_here hi ((fine_den _ _ hO hW).inh h2)
theorem tn_some (hO:G.RxOk N (f + 1) r) (hs:G.neverF (f + 1) r=false):(denF (f + 1) r).some=true:=by
 have h1:=(places_den N _ _ hO).1
 rw [hs] at h1
 cases h:(denF (f + 1) r).some with
 | true=>rfl
 | false=>rw [h] at h1; cases h1
theorem tn_eps (hO:G.RxOk N (f + 1) r) (hI:G.Ids D lo hi (f + 1) r) (hF:f + 1≤F) (hk:r.kind=0) {i x:Nat} (hi:i≤t.length):TN t D F r.id i x ↔ x=i:=by
 unfold TN; rw [den_self hO hI hF,denF_eps hk]; exact tail_eps hi
theorem tn_byte (hO:G.RxOk N (f + 1) r) (hI:G.Ids D lo hi (f + 1) r) (hF:f + 1≤F) (hW:G.Fwd (f + 1) r) (hs:G.neverF (f + 1) r=false) (hk:r.kind=1) {i x:Nat} (hi:i≤t.length):TN t D F r.id i x ↔ (x=i∨EN t D F r.id i x):=by
 have h2:=(fine_den _ _ hO hW).inh (tn_some hO hs)
 unfold TN EN; rw [den_self hO hI hF]
 rw [denF_byte hk] at h2 ⊢
 exact tail_byte hi h2
theorem tn_alt (hO:G.RxOk N (f + 1) r) (hI:G.Ids D lo hi (f + 1) r) (hF:f + 1≤F) (hW:G.Fwd (f + 1) r) (hs:G.neverF (f + 1) r=false) (hk:r.kind=3) {a b:G.Rx} (e:r.subs=[a,b]) (oa:G.RxOk N f a) (ob:G.RxOk N f b) {i x:Nat} (hi:i≤t.length):TN t D F r.id i x ↔ (x=i∨TN t D F a.id i x∨TN t D F b.id i x):=by
 have ia:=hI.2.2.2 a (by rw [e]; simp)
 have ib:=hI.2.2.2 b (by rw [e]; simp)
 have key:TN t D F r.id i x ↔ (TN t D F a.id i x∨TN t D F b.id i x):=by
  unfold TN; rw [den_self hO hI hF,denF_alt hk,sub0 e,sub1 e,den_self oa ia (by omega),den_self ob ib (by omega)]; exact tail_alt
 constructor
 ·intro h; exact .inr (key.1 h)
 ·rintro (rfl | h)
  ·exact tn_here hO hI hF hW hs hi
  ·exact key.2 h
theorem tn_cat (hO:G.RxOk N (f + 1) r) (hI:G.Ids D lo hi (f + 1) r) (hF:f + 1≤F) (hW:G.Fwd (f + 1) r) (hs:G.neverF (f + 1) r=false) (hk:r.kind=2) {a b:G.Rx} (e:r.subs=[a,b]) (oa:G.RxOk N f a) (ob:G.RxOk N f b) {i x:Nat} (hi:i≤t.length):TN t D F r.id i x ↔ (x=i∨(∃ k,TN t D F a.id i k∧EN t D F b.id k x)∨TN t D F b.id i x):=by
 have ia:=hI.2.2.2 a (by rw [e]; simp)
 have ib:=hI.2.2.2 b (by rw [e]; simp)
 have h2:=tn_some hO hs
 rw [denF_cat hk,sub0 e,sub1 e] at h2
 have h2:((denF f a).some && (denF f b).some)=true:=h2
 rw [Bool.and_eq_true] at h2
 have hA:=(fine_den _ _ oa (hW.2 a (by rw [e]; simp))).inh h2.1
 have key:TN t D F r.id i x ↔ ((∃ k,TN t D F a.id i k∧EN t D F b.id k x)∨TN t D F b.id i x):=by
  unfold TN EN; rw [den_self hO hI hF,denF_cat hk,sub0 e,sub1 e,den_self oa ia (by omega),den_self ob ib (by omega)]; exact tail_cat hA
 constructor
 ·intro h; exact .inr (key.1 h)
 ·rintro (rfl | h)
  ·exact tn_here hO hI hF hW hs hi
  ·exact key.2 h
theorem tn_rep (hO:G.RxOk N (f + 1) r) (hI:G.Ids D lo hi (f + 1) r) (hF:f + 1≤F) (hW:G.Fwd (f + 1) r) (hs:G.neverF (f + 1) r=false) (hk:r.kind=4) {a:G.Rx} (e:r.subs=[a]) (oa:G.RxOk N f a) (hlo:0≤r.lo) {i x:Nat} (hi:i≤t.length):TN t D F r.id i x ↔ (x=i∨(r.hi ≠ 0∧∃ k c,c≤(if r.hi<0 then t.length + 1 else r.hi.toNat - 1)∧TN t D F a.id i k∧PN t D F a.id c k x)):=by
 have ia:=hI.2.2.2 a (by rw [e]; simp)
 have fa:=fine_den _ _ oa (hW.2 a (by rw [e]; simp))
 have h2:=tn_some hO hs
 rw [denF_rep hk,sub0 e] at h2
 have h2:((denF f a).some || decide (r.lo.toNat=0))=true:=h2
 rw [Bool.or_eq_true,decide_eq_true_eq] at h2
 have hb:decide (r.hi<0)=true∨r.lo.toNat≤r.hi.toNat:=by
  rcases hW.1 hk with g | g
  ·exact .inl (decide_eq_true g)
  ·exact .inr (by omega)
 unfold TN PN; rw [den_self hO hI hF,denF_rep hk,sub0 e,den_self oa ia (by omega),tail_rep hi hb fa.inh fa.som h2]
 simp only [decide_eq_true_eq]
 constructor
 ·rintro (h | ⟨h,h3⟩)
  ·exact .inl h
  ·exact .inr ⟨by omega,h3⟩
 ·rintro (h | ⟨h,h3⟩)
  ·exact .inl h
  ·exact .inr ⟨by omega,h3⟩
end
end Q
end Go.Proofs.Ytjmkkkfloalliab
namespace Go.Proofs.Ytjmkkkfloalliab
set_option linter.unusedVariables false
open Go.RowKit
structure Tb where
 bm:Nat
 be:Nat
 bt:Nat
 s0:Nat
 N:Nat
 t:ByteArray
 w0:World
def Tb.S (x:Tb):List Nat:=List.range' x.s0 (2 * x.N)
theorem Tb.memS {x:Tb} {k:Nat}:k ∈ x.S ↔ x.s0≤k∧k<x.s0 + 2 * x.N:=by unfold Tb.S; rw [List.mem_range'_1]
def RowIs (n:Nat) (A:List Bool) (P:Nat→Prop):Prop:=A.length=n∧∀ j,j<n→(A.getD j false=true ↔ P j)
def RowV (x:Tb) (w:World) (av:List Nat) (g:Nat) (V:Nat→Nat→Prop):Prop :=
 ∃ cs:List Value,cs.length=x.t.size + 1∧BlkT w g 100 cs∧∀ j,j<x.t.size + 1→cs[j]?=some (.slice none 0 0) ∨
  ∃ h A,cs[j]?=some (.slice (some ⟨h,0,none⟩) (x.t.size + 1) (x.t.size + 1))∧Bools w h A∧RowIs (x.t.size + 1) A (V j)∧x.s0 + 2 * x.N≤h∧h ∉ av
structure Mem (x:Tb) (V:Nat→Nat→Nat→Prop) (w:World) (av:List Nat):Prop where
 mat:BlkT w x.bm 169 [.string x.t,.slice (some ⟨x.be,0,none⟩) x.N x.N,.slice (some ⟨x.bt,0,none⟩) x.N x.N]
 ends:BlkT w x.be 170 (mRows x.N (x.t.size + 1) x.s0 0 x.N)
 tail:BlkT w x.bt 170 (mRows x.N (x.t.size + 1) x.s0 1 x.N)
 lm:x.bm<x.s0
 le:x.be<x.s0
 lt:x.bt<x.s0
 row:∀ k,k<2 * x.N→RowV x w av (x.s0 + k) (V k)
 av:∀ a,a ∈ av→x.s0 + 2 * x.N≤a∧a<w.heap.size
 below:Below x.w0.heap.size x.w0 w
 base:x.w0.heap.size≤x.s0
theorem RowV.keep {x:Tb} {w w':World} {S av:List Nat} {g:Nat} {V:Nat→Nat→Prop} (h:RowV x w av g V) (k:Keep S w w') (hg:g ∉ S) (hS:∀ a,a ∈ S→a ∈ av∨a<x.s0 + 2 * x.N):RowV x w' av g V:=by
 obtain ⟨cs,h1,h2,h3⟩:=h
 refine ⟨cs,h1,h2.keep k hg,fun j hj=>?_⟩
 rcases h3 j hj with e | ⟨h,A,e1,e2,e3,e4,e5⟩
 ·exact .inl e
 ·refine .inr ⟨h,A,e1,e2.keep k (fun hm=>?_),e3,e4,e5⟩
  rcases hS h hm with g | g
  ·exact e5 g
  ·omega
theorem Mem.keep {x:Tb} {V:Nat→Nat→Nat→Prop} {w w':World} {S av:List Nat} (h:Mem x V w av) (k:Keep S w w') (hS:∀ a,a ∈ S→a ∈ av):Mem x V w' av:=by
 have hn:∀ b,b<x.s0 + 2 * x.N→b ∉ S:=fun b hb hm=>by have:=(h.av b (hS b hm)).1; omega
 have hN:=h.lm
 refine ⟨h.mat.keep k (hn _ (by omega)),h.ends.keep k (hn _ (by have:=h.le; omega)),h.tail.keep k (hn _ (by have:=h.lt; omega)),h.lm,h.le,h.lt,fun i hi=>(h.row i hi).keep k (hn _ (by omega)) (fun a ha=>.inl (hS a ha)),fun a ha=>⟨(h.av a ha).1,Nat.lt_of_lt_of_le (h.av a ha).2 k.size⟩,?_,h.base⟩
 refine h.below.trans (k.to_below (fun a ha=>?_) h.below.size)
 have:=(h.av a (hS a ha)).1
 have:=h.base
 omega
theorem Mem.drewN {x:Tb} {V:Nat→Nat→Nat→Prop} {w:World} {av:List Nat} (h:Mem x V w av) (q:Nat):Mem x V (w.drewN q) av:=h.keep ((Keep.refl [] w).drewN q) (by simp)
theorem Mem.fresh {x:Tb} {V:Nat→Nat→Nat→Prop} {w w':World} {av:List Nat} {g:Nat} (h:Mem x V w av) (k:Keep [] w w') (hg:w.heap.size≤g) (hl:g<w'.heap.size) (hs:x.s0 + 2 * x.N≤g):Mem x V w' (g :: av):=by
 have m:=h.keep k (by simp)
 refine ⟨m.mat,m.ends,m.tail,m.lm,m.le,m.lt,fun i hi=>?_,fun a ha=>?_,m.below,m.base⟩
 ·obtain ⟨cs,h1,h2,h3⟩:=h.row i hi
  refine ⟨cs,h1,h2.keep k (by simp),fun j hj=>?_⟩
  rcases h3 j hj with e | ⟨b,A,e1,e2,e3,e4,e5⟩
  ·exact .inl e
  ·have:=e2.blk.lt
   have hb:b ∉ g :: av:=fun hm=>(List.mem_cons.1 hm).elim (fun e=>by omega) e5
   exact .inr ⟨b,A,e1,e2.keep k (by simp),e3,e4,hb⟩
 ·rcases List.mem_cons.1 ha with rfl | ha
  ·exact ⟨hs,hl⟩
  ·exact m.av a ha
theorem Mem.drop {x:Tb} {V:Nat→Nat→Nat→Prop} {w:World} {av:List Nat} {g:Nat} (h:Mem x V w (g :: av)):Mem x V w av:=by
 refine ⟨h.mat,h.ends,h.tail,h.lm,h.le,h.lt,fun i hi=>?_,fun a ha=>h.av a (List.mem_cons_of_mem _ ha),h.below,h.base⟩
 obtain ⟨cs,h1,h2,h3⟩:=h.row i hi
 refine ⟨cs,h1,h2,fun j hj=>?_⟩
 rcases h3 j hj with e | ⟨b,A,e1,e2,e3,e4,e5⟩
 ·exact .inl e
 ·exact .inr ⟨b,A,e1,e2,e3,e4,fun hm=>e5 (List.mem_cons_of_mem _ hm)⟩
theorem Mem.put {x:Tb} {V:Nat→Nat→Nat→Prop} {w:World} {av:List Nat} {g k i:Nat} {A:List Bool} (h:Mem x V w (g :: av)) (hA:Bools w g A) (hR:RowIs (x.t.size + 1) A (V k i)) (hk:k<2 * x.N) (hi:i<x.t.size + 1) (hg:g ∉ av) :
    Mem x V (w.setCell ⟨x.s0 + k,i,none⟩ (.slice (some ⟨g,0,none⟩) (x.t.size + 1) (x.t.size + 1))) av:=by
 have hgb:=(h.av g List.mem_cons_self).1
 have m:=h.drop
 have k1:Keep [x.s0 + k] w (w.setCell ⟨x.s0 + k,i,none⟩ (.slice (some ⟨g,0,none⟩) (x.t.size + 1) (x.t.size + 1))):=(Keep.refl _ w).setCell (by simp) _
 have n1:=h.lm; have n2:=h.le; have n3:=h.lt
 refine ⟨h.mat.keep k1 (by simp; omega),h.ends.keep k1 (by simp; omega),h.tail.keep k1 (by simp; omega),h.lm,h.le,h.lt,fun c hc=>?_,fun a ha=>⟨(m.av a ha).1,by simpa [World.setCell] using (m.av a ha).2⟩,?_,h.base⟩
 ·by_cases e:c=k
  ·subst e
   obtain ⟨cs,h1,h2,h3⟩:=m.row c hc
   refine ⟨cs.set i (.slice (some ⟨g,0,none⟩) (x.t.size + 1) (x.t.size + 1)),by rw [List.length_set]; exact h1,h2.set i _,fun j hj=>?_⟩
   by_cases e2:i=j
   ·subst e2
    refine .inr ⟨g,A,by rw [List.getElem?_set_self (by omega)],hA.keep k1 (by simp; omega),hR,hgb,hg⟩
   ·rw [List.getElem?_set_ne e2]
    rcases h3 j hj with e | ⟨b,A',e1,e2,e3,e4,e5⟩
    ·exact .inl e
    ·exact .inr ⟨b,A',e1,e2.keep k1 (by simp; omega),e3,e4,e5⟩
  ·exact (m.row c hc).keep k1 (by simp; omega) (fun a ha=>by rw [List.mem_singleton] at ha; exact .inr (by omega))
 ·exact h.below.setCell (by show _≤x.s0 + k; have:=h.base; omega) _
theorem mRows_at {N L s0 d i k:Nat} (hk:k<N) (hi:k<i):(mRows N L s0 d i)[k]?=some (.slice (some ⟨s0 + 2 * k + d,0,none⟩) L L):=by
 unfold mRows
 rw [List.getElem?_map,List.getElem?_range hk,Option.map_some,if_pos hi]
theorem Mem.endsAt {x:Tb} {V:Nat→Nat→Nat→Prop} {w:World} {av:List Nat} (h:Mem x V w av) {k:Nat} (hk:k<x.N):w.cell? ⟨x.be,k,none⟩=some (.slice (some ⟨x.s0 + 2 * k,0,none⟩) (x.t.size + 1) (x.t.size + 1)):=by
 rw [h.ends.cell k,mRows_at hk hk]; rfl
theorem Mem.tailAt {x:Tb} {V:Nat→Nat→Nat→Prop} {w:World} {av:List Nat} (h:Mem x V w av) {k:Nat} (hk:k<x.N):w.cell? ⟨x.bt,k,none⟩=some (.slice (some ⟨x.s0 + 2 * k + 1,0,none⟩) (x.t.size + 1) (x.t.size + 1)):=by
 rw [h.tail.cell k,mRows_at hk hk]
theorem Mem.seen {x:Tb} {V:Nat→Nat→Nat→Prop} {w:World} {av:List Nat} (h:Mem x V w av) {k i:Nat} (hk:k<2 * x.N) (hi:i<x.t.size + 1) :
    w.frozen? ⟨x.s0 + k,i,none⟩=false∧(w.cell? ⟨x.s0 + k,i,none⟩=some (.slice none 0 0)∨∃ b A,w.cell? ⟨x.s0 + k,i,none⟩=some (.slice (some ⟨b,0,none⟩) (x.t.size + 1) (x.t.size + 1))∧Bools w b A∧RowIs (x.t.size + 1) A (V k i)∧x.s0 + 2 * x.N≤b∧b ∉ av):=by
 obtain ⟨cs,h1,h2,h3⟩:=h.row k hk
 refine ⟨h2.frozen i,?_⟩
 rw [h2.cell i]
 exact h3 i hi
def VN (t:List UInt8) (D:Nat→G.Rx) (F k i x:Nat):Prop:=if k % 2=0 then Q.EN t D F (k / 2) i x else Q.TN t D F (k / 2) i x
theorem vn_even {t:List UInt8} {D:Nat→G.Rx} {F k:Nat}:VN t D F (2 * k)=Q.EN t D F k:=by
 funext i x
 unfold VN
 rw [if_pos (by omega),show 2 * k / 2=k by omega]
theorem vn_odd {t:List UInt8} {D:Nat→G.Rx} {F k:Nat}:VN t D F (2 * k + 1)=Q.TN t D F k:=by
 funext i x
 unfold VN
 rw [if_neg (by omega),show (2 * k + 1) / 2=k by omega]
def EndC (x:Tb) (D:Nat→G.Rx) (F f:Nat) (r:G.Rx):Prop:=∀ (w:World) (av:List Nat) (v:Value) (i:Nat),Mem x (VN x.t.data.toList D F) w av→ReAt x.w0 f r v→i≤x.t.size →
 Calls Try.prog 88 #[.pointer (some ⟨x.bm,0,none⟩),v,.int .i64 (i:Int)] w fun e w'=>∃ h A,e=.returned (.slice (some ⟨h,0,none⟩) (x.t.size + 1) (x.t.size + 1))∧Bools w' h A∧RowIs (x.t.size + 1) A (Q.EN x.t.data.toList D F r.id i)∧x.s0 + 2 * x.N≤h∧h ∉ av∧Mem x (VN x.t.data.toList D F) w' av∧Keep x.S w w'
def TailC (x:Tb) (D:Nat→G.Rx) (F f:Nat) (r:G.Rx):Prop:=∀ (w:World) (av:List Nat) (v:Value) (i:Nat),Mem x (VN x.t.data.toList D F) w av→ReAt x.w0 f r v→i≤x.t.size →
 Calls Try.prog 89 #[.pointer (some ⟨x.bm,0,none⟩),v,.int .i64 (i:Int)] w fun e w'=>∃ h A,e=.returned (.slice (some ⟨h,0,none⟩) (x.t.size + 1) (x.t.size + 1))∧Bools w' h A∧RowIs (x.t.size + 1) A (Q.TN x.t.data.toList D F r.id i)∧x.s0 + 2 * x.N≤h∧h ∉ av∧Mem x (VN x.t.data.toList D F) w' av∧Keep x.S w w'
theorem re_below {w w':World} (h:Below w.heap.size w w'):KeepRe w w':=by
 intro k c T _ hc
 have hlt:k<w.heap.size:=(Array.getElem?_eq_some_iff.1 hc).1
 rw [h.block k hlt]
 exact hc
theorem Mem.re {x:Tb} {V:Nat→Nat→Nat→Prop} {w:World} {av:List Nat} (h:Mem x V w av) {f:Nat} {r:G.Rx} {v:Value} (hr:ReAt x.w0 f r v):ReAt w f r v:=ReAt.keep (re_below h.below) _ _ _ hr
theorem Mem.blk {x:Tb} {V:Nat→Nat→Nat→Prop} {w:World} {av:List Nat} (h:Mem x V w av) {b:Nat} {T:TypeId} {vs:List Value} (hb:BlkT x.w0 b T vs):BlkT w b T vs:=(h.below.block b hb.lt).trans hb
theorem rowIs_or {n:Nat} {A B:List Bool} {P R:Nat→Prop} (hA:RowIs n A P) (hB:RowIs n B R):RowIs n (orTo A B n) fun j=>P j∨R j:=by
 refine ⟨by rw [orTo_len]; exact hA.1,fun j hj=>?_⟩
 have e:(orTo A B n).getD j false=(A.getD j false || B.getD j false):=by
  unfold orTo
  rw [List.getD_eq_getElem?_getD,List.getElem?_map,List.getElem?_range (by rw [hA.1]; exact hj),Option.map_some,if_pos hj]
  rfl
 rw [e,Bool.or_eq_true,hA.2 j hj,hB.2 j hj]
theorem RowIs.congr {n:Nat} {A:List Bool} {P R:Nat→Prop} (h:RowIs n A P) (e:∀ j,j<n→(P j ↔ R j)):RowIs n A R:=⟨h.1,fun j hj=>(h.2 j hj).trans (e j hj)⟩
theorem rowIs_none (n:Nat):RowIs n (List.replicate n false) fun _=>False:=by
 refine ⟨List.length_replicate,fun j hj=>?_⟩
 rw [List.getD_eq_getElem?_getD,List.getElem?_replicate,if_pos hj]
 simp
theorem RowIs.set {n:Nat} {A:List Bool} {P:Nat→Prop} (h:RowIs n A P) {i:Nat} (hi:i<n):RowIs n (A.set i true) fun j=>P j∨j=i:=by
 refine ⟨by rw [List.length_set]; exact h.1,fun j hj=>?_⟩
 rw [List.getD_eq_getElem?_getD]
 by_cases e:i=j
 ·subst e
  rw [List.getElem?_set_self (by rw [h.1]; exact hi)]
  simp
 ·rw [List.getElem?_set_ne e,← List.getD_eq_getElem?_getD,h.2 j hj]
  constructor
  ·exact .inl
  ·rintro (g | g)
   ·exact g
   ·exact absurd g.symm e
theorem Mem.avS {x:Tb} {V:Nat→Nat→Nat→Prop} {w:World} {av:List Nat} (h:Mem x V w av) {a:Nat} (ha:a ∈ av):a ∉ x.S:=fun hm=>by
 have:=(h.av a ha).1
 have:=(Tb.memS.1 hm).2
 omega
theorem Tb.notS {x:Tb} {a:Nat} (h:x.s0 + 2 * x.N≤a):a ∉ x.S:=fun hm=>by
 have:=(Tb.memS.1 hm).2
 omega
set_option maxRecDepth 100000 in
set_option maxHeartbeats 1600000 in
theorem then_any (x:Tb) (D:Nat→G.Rx) (F f:Nat) (r:G.Rx) (hE:EndC x D F f r) (v:Value) (hv:ReAt x.w0 f r v) (n:Nat) (hn:n=x.t.size + 1) (hn2:n≤1001) (w:World) (av:List Nat) (g gf:Nat) (A0 Fm:List Bool) (P0 P1:Nat→Prop)
    (hM:Mem x (VN x.t.data.toList D F) w (g :: av)) (hA:Bools w g A0) (hF:Bools w gf Fm) (rA:RowIs n A0 P0) (rF:RowIs n Fm P1) (hne:g ≠ gf) (hgf:x.s0 + 2 * x.N≤gf) :
    Calls Try.prog 104 #[.pointer (some ⟨x.bm,0,none⟩),.slice (some ⟨g,0,none⟩) n n,.slice (some ⟨gf,0,none⟩) n n,v] w fun e w'=>e=.returned (.tuple #[]) ∧
     (∃ A1,Bools w' g A1∧RowIs n A1 (fun j=>P0 j∨∃ k,k<n∧P1 k∧Q.EN x.t.data.toList D F r.id k j))∧Mem x (VN x.t.data.toList D F) w' (g :: av)∧Keep (g :: x.S) w w':=by
 have HE:Hid (∀ (w:World) (c:Nat),Mem x (VN x.t.data.toList D F) w (g :: av)→c<n→Calls Try.prog 88 #[.pointer (some ⟨x.bm,0,none⟩),v,.int .i64 (c:Int)] w fun e w'=>∃ h A,e=.returned (.slice (some ⟨h,0,none⟩) n n)∧Bools w' h A∧Hid (RowIs n A (Q.EN x.t.data.toList D F r.id c))∧h ≠ g∧Mem x (VN x.t.data.toList D F) w' (g :: av)∧Keep x.S w w'):=by
  intro w c hm hc
  refine (hE w (g :: av) v c hm hv (by omega)).mono ?_
  rintro e w' ⟨h,A,h1,h2,h3,h4,h5,h6,h7⟩
  rw [← hn] at h1 h3
  exact ⟨h,A,h1,h2,h3,fun e=>h5 (by rw [e]; exact List.mem_cons_self),h6,h7⟩
 have HF:=hid hF
 have HgS:Hid (gf ∉ g :: x.S):=by
  intro hm
  rcases List.mem_cons.1 hm with e | e
  ·exact hne e.symm
  ·exact Tb.notS hgf e
 have HgS2:Hid (g ∉ x.S):=hM.avS List.mem_cons_self
 have HRF:=hid rF
 have hA0:RowIs n A0 (fun j=>P0 j∨∃ k,k<0∧P1 k∧Q.EN x.t.data.toList D F r.id k j):=rA.congr (fun j hj=>⟨.inl,fun h=>h.elim id (fun ⟨k,h,_⟩=>absurd h (by omega))⟩)
 have HA0:=hid hA0
 generalize x.bm=bm at *
 clear hn hE hv hF hne hgf rF rA hA0
 go_enter Try.func104,Try.ntmps104
 go_wp2_with fail
 go_loopw [8] (fun cv wX=>∃ c:Nat,c≤n∧cv=.int .i64 (c:Int)∧(∃ A1,Bools wX g A1∧Hid (RowIs n A1 (fun j=>P0 j∨∃ k,k<c∧P1 k∧Q.EN x.t.data.toList D F r.id k j)))∧Mem x (VN x.t.data.toList D F) wX (g :: av)∧Keep (g :: x.S) w wX) (fun cv _=>n - (intOf cv).toNat)
 case atStart=>exact ⟨0,by omega,rfl,⟨A0,hA,HA0⟩,hM,Keep.refl _ _⟩
 case round =>
  clear hM hA HA0
  obtain ⟨c,hc,rfl,⟨A1,hA1,HR1⟩,hM1,hK1⟩:=hrel
  by_cases hcB:c<n
  ·obtain ⟨j1,_⟩:=(HF.out.keep hK1 HgS.out).at c (by rw [HRF.out.1]; exact hcB)
   have HC:Hid (Fm.getD c false=true ↔ P1 c):=HRF.out.2 c hcB
   have i0:(0:Int)≤(c:Int):=by omega
   have i1:(c:Int)<(n:Int):=by omega
   generalize Fm.getD c false=b at *
   cases b with
   | false =>
    have HN:Hid (RowIs n A1 (fun j=>P0 j∨∃ k,k<c + 1∧P1 k∧Q.EN x.t.data.toList D F r.id k j)):=HR1.out.congr (fun j hj=>by
     constructor
     ·rintro (h | ⟨k,h1,h2⟩)
      ·exact .inl h
      ·exact .inr ⟨k,by omega,h2⟩
     ·rintro (h | ⟨k,h1,h2,h3⟩)
      ·exact .inl h
      ·rcases Nat.lt_or_ge k c with g | g
       ·exact .inr ⟨k,g,h2,h3⟩
       ·have:k=c:=by omega
        subst this
        have:=HC.out.2 h2
        cases this)
    go_wp2
    go_roundw
    case rel=>exact ⟨c + 1,by omega,by go_num,⟨A1,hA1,HN⟩,hM1,hK1⟩
    case measure=>simp [intOf]; omega
   | true =>
    go_wp2_with fail
    refine (HE.out _ c hM1 hcB).mono ?_
    rintro e w1 ⟨h,B,rfl,hB,HB,hhg,hM2,hK2⟩
    have hA2:=hA1.keep hK2 HgS2.out
    have hK3:=hK1.trans (hK2.mono (fun k hk=>List.mem_cons_of_mem _ hk))
    clear hA1 hM1 hK1 hK2
    go_wp2_with fail
    refine (join_any g h n n n A1 B w1 hA2 hB (fun e=>hhg e.symm) HR1.out.1 HB.out.1 hn2).mono ?_
    rintro e w2 ⟨rfl,hA3,hK4⟩
    have hM3:=hM2.keep hK4 (fun a ha=>by rw [List.mem_singleton] at ha; rw [ha]; exact List.mem_cons_self)
    have hK5:=hK3.trans (hK4.mono (fun k hk=>by rw [List.mem_singleton] at hk; rw [hk]; exact List.mem_cons_self))
    have HN:Hid (RowIs n (orTo A1 B n) (fun j=>P0 j∨∃ k,k<c + 1∧P1 k∧Q.EN x.t.data.toList D F r.id k j)):=(rowIs_or HR1.out HB.out).congr (fun j hj=>by
     constructor
     ·rintro ((h | ⟨k,h1,h2⟩) | h)
      ·exact .inl h
      ·exact .inr ⟨k,by omega,h2⟩
      ·exact .inr ⟨c,by omega,HC.out.1 (by trivial),h⟩
     ·rintro (h | ⟨k,h1,h2,h3⟩)
      ·exact .inl (.inl h)
      ·rcases Nat.lt_or_ge k c with g | g
       ·exact .inl (.inr ⟨k,g,h2,h3⟩)
       ·have:k=c:=by omega
        subst this
        exact .inr h3)
    clear hM2 hK3 hA2 hB
    go_wp2
    go_roundw
    case rel=>exact ⟨c + 1,by omega,by go_num,⟨_,hA3,HN⟩,hM3,hK5⟩
    case measure=>simp [intOf]; omega
  ·obtain rfl:c=n:=by omega
   go_wp2
   go_end0
   exact ⟨rfl,⟨A1,hA1,HR1.out⟩,hM1,hK1⟩
end Go.Proofs.Ytjmkkkfloalliab
