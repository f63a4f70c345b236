import Derived.Test.YtjmkkkfloalliabZ05
import Derived.Test.YtjmkkkfloalliabZ01
import Derived.Test.YtjmkkkfloalliabZ02
import Derived.Laws.CopyOwn
import Derived.WalkSpells
namespace Go.Proofs.Ytjmkkkfloalliab
set_option linter.unusedVariables false
open Go.RowKit
set_option maxRecDepth 100000 in
set_option maxHeartbeats 800000 in
theorem count_ok {w:World} {b rate:Nat} {t:List UInt8} {a:ByteArray} (h:IdxOf w b rate t a) (pat:ByteArray) (budget:Nat) (hp:pat.size≤maxLen) (P:Q.Pat) (hP:Q.parse (L pat)=.ok P) (hb:Q.steps t P true≤budget) (hb2:budget≤1048576) :
    Calls Try.prog 58 #[.pointer (some ⟨b,0,none⟩),.string pat,.int .i64 (budget:Int)] w fun e w'=>e=.returned (.tuple #[.int .i64 ((Q.hits t P).length:Nat),.agg #[.int .i64 0,.int .i64 0]])∧Below w.heap.size w w':=by
 have hI:IdxOf (w.alloc (.cells #[.int .i64 0,.int .i64 0] 45)) b rate t a:=h.below ((Below.refl _ w).alloc (Nat.le_refl _) _) h.lt
 have HS:=hid (search_ok hI pat budget true hp P hP hb hb2)
 have hb0:=h.lt
 clear h hI hP hb
 generalize (Q.hits t P)=H at *
 go_enter Try.func58,Try.ntmps58
 go_wp2_with fail
 refine HS.out.mono ?_
 rintro e w1 ⟨g,rfl,hg,hS,hB⟩
 clear HS hS
 have hz:=hB.size
 simp at hz hg
 have HF:Hid (BlkT w1 w.heap.size 45 [.int .i64 0,.int .i64 0]):=(hB.block _ (by simp)).trans (BlkT.new w _ _)
 have HB:Hid (Below w.heap.size w w1):=((Below.refl _ w).alloc (Nat.le_refl _) _).trans (hB.mono (by simp))
 have f0:=HF.out.cell 0; have f1:=HF.out.cell 1; have ff:=HF.out.frozen
 simp only [List.getElem?_cons_zero,List.getElem?_cons_succ] at f0 f1
 have n1:w.heap.size ≠ w1.heap.size:=by omega
 have n2:w.heap.size<w1.heap.size:=by omega
 clear hB
 go_wp2_with fail
 go_region
 all_goals
  go_wp2
  exact bodyPost_ret (v:=.tuple #[.int .i64 (H.length:Nat),.agg #[.int .i64 0,.int .i64 0]]) (by simp [results,Try.results58,go_sem, *]) rfl ⟨rfl,(((HB.out.setCell (Nat.le_refl _) _).setCell (Nat.le_refl _) _).alloc (by simp [World.setCell]; omega) _).drew⟩
set_option maxRecDepth 100000 in
set_option maxHeartbeats 800000 in
theorem exists_ok {w:World} {b rate:Nat} {t:List UInt8} {a:ByteArray} (h:IdxOf w b rate t a) (pat:ByteArray) (budget:Nat) (hp:pat.size≤maxLen) (P:Q.Pat) (hP:Q.parse (L pat)=.ok P) (hb:Q.steps t P true≤budget) (hb2:budget≤1048576) :
    Calls Try.prog 59 #[.pointer (some ⟨b,0,none⟩),.string pat,.int .i64 (budget:Int)] w fun e w'=>e=.returned (.tuple #[.bool (decide (((Q.hits t P).length:Int) > 0)),.agg #[.int .i64 0,.int .i64 0]])∧Below w.heap.size w w':=by
 have hI:IdxOf (w.alloc (.cells #[.int .i64 0,.int .i64 0] 45)) b rate t a:=h.below ((Below.refl _ w).alloc (Nat.le_refl _) _) h.lt
 have HS:=hid (search_ok hI pat budget true hp P hP hb hb2)
 have hb0:=h.lt
 clear h hI hP hb
 generalize (Q.hits t P)=H at *
 go_enter Try.func59,Try.ntmps59
 go_wp2_with fail
 refine HS.out.mono ?_
 rintro e w1 ⟨g,rfl,hg,hS,hB⟩
 clear HS hS
 have hz:=hB.size
 simp at hz hg
 have HF:Hid (BlkT w1 w.heap.size 45 [.int .i64 0,.int .i64 0]):=(hB.block _ (by simp)).trans (BlkT.new w _ _)
 have HB:Hid (Below w.heap.size w w1):=((Below.refl _ w).alloc (Nat.le_refl _) _).trans (hB.mono (by simp))
 have f0:=HF.out.cell 0; have f1:=HF.out.cell 1; have ff:=HF.out.frozen
 simp only [List.getElem?_cons_zero,List.getElem?_cons_succ] at f0 f1
 have n1:w.heap.size ≠ w1.heap.size:=by omega
 have n2:w.heap.size<w1.heap.size:=by omega
 clear hB
 go_wp2_with fail
 go_region
 all_goals
  go_wp2
  exact bodyPost_ret (v:=.tuple #[.bool (decide ((H.length:Int) > 0)),.agg #[.int .i64 0,.int .i64 0]]) (by simp [results,Try.results59,go_sem, *]) rfl ⟨rfl,(((HB.out.setCell (Nat.le_refl _) _).setCell (Nat.le_refl _) _).alloc (by simp [World.setCell]; omega) _).drew⟩
set_option maxRecDepth 100000 in
set_option maxHeartbeats 800000 in
theorem count_fault {w:World} {b rate:Nat} {t:List UInt8} {a:ByteArray} (h:IdxOf w b rate t a) (pat:ByteArray) (budget E At:Int)
    (hS:∀ w',IdxOf w' b rate t a→Calls Try.prog 24 #[.pointer (some ⟨b,0,none⟩),.string pat,.int .i64 budget,.bool true] w' fun e w''=>e=.returned (.tuple #[.slice none 0 0,.agg #[.int .i64 E,.int .i64 At]])∧Below w'.heap.size w' w'') :
    Calls Try.prog 58 #[.pointer (some ⟨b,0,none⟩),.string pat,.int .i64 budget] w fun e w'=>e=.returned (.tuple #[.int .i64 0,.agg #[.int .i64 E,.int .i64 At]])∧Below w.heap.size w w':=by
 have hI:IdxOf (w.alloc (.cells #[.int .i64 0,.int .i64 0] 45)) b rate t a:=h.below ((Below.refl _ w).alloc (Nat.le_refl _) _) h.lt
 have HS:=hid (hS _ hI)
 clear h hI hS
 go_enter Try.func58,Try.ntmps58
 go_wp2_with fail
 refine HS.out.mono ?_
 rintro e w1 ⟨rfl,hB⟩
 clear HS
 have hz:=hB.size
 simp at hz
 have HF:Hid (BlkT w1 w.heap.size 45 [.int .i64 0,.int .i64 0]):=(hB.block _ (by simp)).trans (BlkT.new w _ _)
 have HB:Hid (Below w.heap.size w w1):=((Below.refl _ w).alloc (Nat.le_refl _) _).trans (hB.mono (by simp))
 have f0:=HF.out.cell 0; have f1:=HF.out.cell 1; have ff:=HF.out.frozen
 simp only [List.getElem?_cons_zero,List.getElem?_cons_succ] at f0 f1
 have n1:w.heap.size ≠ w1.heap.size:=by omega
 have n2:w.heap.size<w1.heap.size:=by omega
 clear hB
 go_wp2_with fail
 go_region
 all_goals
  go_wp2
  exact bodyPost_ret (v:=.tuple #[.int .i64 0,.agg #[.int .i64 E,.int .i64 At]]) (by simp [results,Try.results58,go_sem, *]) rfl ⟨rfl,(((HB.out.setCell (Nat.le_refl _) _).setCell (Nat.le_refl _) _).alloc (by simp [World.setCell]; omega) _).drew⟩
set_option maxRecDepth 100000 in
set_option maxHeartbeats 800000 in
theorem exists_fault {w:World} {b rate:Nat} {t:List UInt8} {a:ByteArray} (h:IdxOf w b rate t a) (pat:ByteArray) (budget E At:Int)
    (hS:∀ w',IdxOf w' b rate t a→Calls Try.prog 24 #[.pointer (some ⟨b,0,none⟩),.string pat,.int .i64 budget,.bool true] w' fun e w''=>e=.returned (.tuple #[.slice none 0 0,.agg #[.int .i64 E,.int .i64 At]])∧Below w'.heap.size w' w'') :
    Calls Try.prog 59 #[.pointer (some ⟨b,0,none⟩),.string pat,.int .i64 budget] w fun e w'=>e=.returned (.tuple #[.bool false,.agg #[.int .i64 E,.int .i64 At]])∧Below w.heap.size w w':=by
 have hI:IdxOf (w.alloc (.cells #[.int .i64 0,.int .i64 0] 45)) b rate t a:=h.below ((Below.refl _ w).alloc (Nat.le_refl _) _) h.lt
 have HS:=hid (hS _ hI)
 clear h hI hS
 go_enter Try.func59,Try.ntmps59
 go_wp2_with fail
 refine HS.out.mono ?_
 rintro e w1 ⟨rfl,hB⟩
 clear HS
 have hz:=hB.size
 simp at hz
 have HF:Hid (BlkT w1 w.heap.size 45 [.int .i64 0,.int .i64 0]):=(hB.block _ (by simp)).trans (BlkT.new w _ _)
 have HB:Hid (Below w.heap.size w w1):=((Below.refl _ w).alloc (Nat.le_refl _) _).trans (hB.mono (by simp))
 have f0:=HF.out.cell 0; have f1:=HF.out.cell 1; have ff:=HF.out.frozen
 simp only [List.getElem?_cons_zero,List.getElem?_cons_succ] at f0 f1
 have n1:w.heap.size ≠ w1.heap.size:=by omega
 have n2:w.heap.size<w1.heap.size:=by omega
 clear hB
 go_wp2_with fail
 go_region
 all_goals
  go_wp2
  exact bodyPost_ret (v:=.tuple #[.bool false,.agg #[.int .i64 E,.int .i64 At]]) (by simp [results,Try.results59,go_sem, *]) rfl ⟨rfl,(((HB.out.setCell (Nat.le_refl _) _).setCell (Nat.le_refl _) _).alloc (by simp [World.setCell]; omega) _).drew⟩
def WantsPost (t:List UInt8) (pat:List UInt8) (budget:Int) (B:Nat) (e:Ending) (w':World):Prop :=
 if budget<0∨1048576<budget then e=.returned (.tuple #[.slice none 0 0,.agg #[.int .i64 2,.int .i64 0],.int .i64 0])
 else match Q.parse pat with
  | .error (E,At)=>e=.returned (.tuple #[.slice none 0 0,.agg #[.int .i64 (E:Int),.int .i64 (At:Int)],.int .i64 0])
  | .ok P=>∃ pp cap,e=.returned (.tuple #[.slice pp (Q.hits t P).length cap,.agg #[.int .i64 0,.int .i64 0],.int .i64 (Q.steps t P false:Nat)])∧SlI w' (.slice pp (Q.hits t P).length cap) (Q.hits t P)
def WantsD:Prop:=∀ (w:World) (bx rate:Nat) (t pat:ByteArray) (budget:Int),t.size≤200→pat.size≤maxLen → -9223372036854775808≤budget→budget≤9223372036854775807 →
 Calls Try.prog 57 #[pairV bx rate t,.string pat,.int .i64 budget] w fun e w'=>WantsPost t.data.toList (L pat) budget w.heap.size e w'∧Below w.heap.size w w'
theorem Q.steps_mono {t:List UInt8} {P:Q.Pat} (memo:Bool):Q.steps t P memo≤Q.steps t P false:=by
 obtain ⟨f,h1,h2,h3⟩:=Q.full_cl (t:=t) (P:=P)
 have hnd:((List.range (Q.steps t P false)).map f).Nodup:=by
  rw [List.nodup_iff_pairwise_ne,List.pairwise_map]
  have:=List.nodup_range (n:=Q.steps t P false)
  rw [List.nodup_iff_pairwise_ne] at this
  exact this.imp_of_mem (fun {a b} ha hb hne e=>hne (h2 a b (List.mem_range.1 ha) (List.mem_range.1 hb) e))
 have:=Q.steps_memo (t:=t) (P:=P) _ hnd (fun u=>⟨fun hu=>by
  obtain ⟨j,hj,rfl⟩:=List.mem_map.1 hu
  exact h1 j (List.mem_range.1 hj),fun hu=>by
  obtain ⟨j,a,b⟩:=h3 u hu
  exact List.mem_map.2 ⟨j,List.mem_range.2 a,b⟩⟩) memo
 simpa using this
theorem blk_keepL {w w':World} {B b:Nat} {T:TypeId} {vs:List Value} (h:BlkT w b T vs) (k:Below B w w') (hb:b<B):BlkT w' b T vs:=(k.block b hb).trans h
theorem search_bad {w:World} {b rate:Nat} {t:List UInt8} {a:ByteArray} (h:IdxOf w b rate t a) (pat:ByteArray) (budget:Int) (memo:Bool) (hp:pat.size≤maxLen) (hb:budget<0∨1048576<budget) :
    Calls Try.prog 24 #[.pointer (some ⟨b,0,none⟩),.string pat,.int .i64 budget,.bool memo] w fun e w'=>e=.returned (.tuple #[.slice none 0 0,.agg #[.int .i64 2,.int .i64 0]])∧Below w.heap.size w w':=by
 have hs:=h.size
 have hl:=h.len
 refine (Search_any b rate (M.row t 0) a pat budget memo w h.idx (by omega) h.row hp).mono ?_
 rintro e w' ⟨he,hB⟩
 unfold Q.search at he
 rw [if_pos hb] at he
 exact ⟨he,hB⟩
set_option maxRecDepth 100000 in
set_option maxHeartbeats 1600000 in
theorem counted_fault (w:World) (bx rate:Nat) (t a pat:ByteArray) (budget E At:Int) (hI:IdxOf w bx rate t.data.toList a) (hE:E ≠ 0)
    (hS:∀ w',IdxOf w' bx rate t.data.toList a→Calls Try.prog 24 #[.pointer (some ⟨bx,0,none⟩),.string pat,.int .i64 budget,.bool true] w' fun e w''=>e=.returned (.tuple #[.slice none 0 0,.agg #[.int .i64 E,.int .i64 At]])∧Below w'.heap.size w' w'')
    (hW:∀ w',Calls Try.prog 57 #[pairV bx rate t,.string pat,.int .i64 budget] w' fun e w''=>e=.returned (.tuple #[.slice none 0 0,.agg #[.int .i64 E,.int .i64 At],.int .i64 0])∧Below w'.heap.size w' w'') :
    Calls Try.prog 42 #[pairV bx rate t,.string pat,.int .i64 budget] w fun e w'=>e=.returned (.bool true)∧Below w.heap.size w w':=by
 have hB0:Below w.heap.size w (w.alloc (.cells #[.pointer (some ⟨bx,0,none⟩),.string t,.int .i64 (rate:Int)] 78)):=(Below.refl _ w).alloc (Nat.le_refl _) _
 have hP0:BlkT (w.alloc (.cells #[.pointer (some ⟨bx,0,none⟩),.string t,.int .i64 (rate:Int)] 78)) w.heap.size 78 [.pointer (some ⟨bx,0,none⟩),.string t,.int .i64 (rate:Int)]:=BlkT.new w _ _
 have hI0:=hI.below hB0 hI.lt
 have HC:=hid (count_fault hI0 pat budget E At hS)
 have HX:Hid (∀ w',IdxOf w' bx rate t.data.toList a→Calls Try.prog 59 #[.pointer (some ⟨bx,0,none⟩),.string pat,.int .i64 budget] w' fun e w''=>e=.returned (.tuple #[.bool false,.agg #[.int .i64 E,.int .i64 At]])∧Below w'.heap.size w' w''):=fun w' h=>exists_fault h pat budget E At hS
 have HW:=hid hW
 have HI0:=hid hI0
 have hE2:(E != 0)=true:=by simpa using hE
 clear hS hW hI hI0
 unfold pairV at HW
 unfold pairV
 go_enter Try.func42,Try.ntmps42
 go_wp2_with fail
 refine HC.out.mono ?_
 rintro e w1 ⟨rfl,hB1⟩
 have hP1:BlkT w1 w.heap.size 78 [.pointer (some ⟨bx,0,none⟩),.string t,.int .i64 (rate:Int)]:=(hB1.block w.heap.size (by simp)).trans hP0
 have hI1:=HI0.out.below hB1 HI0.out.lt
 have hBB1:=hB0.trans (hB1.mono hB0.size)
 have hF1:BlkT (w1.alloc (.cells #[.int .i64 E,.int .i64 At] 45)) w1.heap.size 45 [.int .i64 E,.int .i64 At]:=BlkT.new w1 _ _
 go_upto_region 2 with fail
 have hP2:=hP1.alloc (.cells #[.int .i64 E,.int .i64 At] 45)
 have hBa1:Below w1.heap.size w1 (w1.alloc (.cells #[.int .i64 E,.int .i64 At] 45)):=(Below.refl _ w1).alloc (Nat.le_refl _) _
 have hI2:=hI1.below hBa1 hI1.lt
 have hBB2:=hBB1.trans (hBa1.mono hBB1.size)
 generalize w1.heap.size=b1 at *
 generalize w1.alloc (.cells #[.int .i64 E,.int .i64 At] 45)=w2 at *
 clear hP0 hP1 hB0 hB1 hI1 hBB1 hBa1 HC HI0
 have p0:=hP2.cell 0
 simp only [List.getElem?_cons_zero] at p0
 have HX2:=hid (HX.out w2 hI2)
 go_upto_region 3 with (go_at_call 59; refine HX2.out.mono ?_; rintro e w3 ⟨rfl,hB3⟩)
 have hF3:=blk_keepL hF1 hB3 (BlkT.lt hF1)
 have hP3:=blk_keepL hP2 hB3 (BlkT.lt hP2)
 have hBB3:=hBB2.trans (hB3.mono hBB2.size)
 have hF4:=hF3.alloc (.cells #[.int .i64 E,.int .i64 At] 45)
 have hP4:=hP3.alloc (.cells #[.int .i64 E,.int .i64 At] 45)
 have hG4:BlkT (w3.alloc (.cells #[.int .i64 E,.int .i64 At] 45)) w3.heap.size 45 [.int .i64 E,.int .i64 At]:=BlkT.new w3 _ _
 have hBB4:=hBB3.alloc hBB3.size (.cells #[.int .i64 E,.int .i64 At] 45)
 generalize w3.heap.size=b3 at *
 generalize w3.alloc (.cells #[.int .i64 E,.int .i64 At] 45)=w4 at *
 clear hF1 hP2 hF3 hP3 hB3 hBB2 hBB3 hI2 HX HX2 p0
 have p0:=hP4.cell 0; have p1:=hP4.cell 1; have p2:=hP4.cell 2
 simp only [List.getElem?_cons_zero,List.getElem?_cons_succ] at p0 p1 p2
 have HW4:=hid (HW.out w4)
 go_upto_region 4 with (go_at_call 57; refine HW4.out.mono ?_; rintro e w5 ⟨rfl,hB5⟩)
 have hF5:=blk_keepL hF4 hB5 (BlkT.lt hF4)
 have hG5:=blk_keepL hG4 hB5 (BlkT.lt hG4)
 have hBB5:=hBB4.trans (hB5.mono hBB4.size)
 have hF6:=hF5.alloc (.cells #[.int .i64 E,.int .i64 At] 45)
 have hG6:=hG5.alloc (.cells #[.int .i64 E,.int .i64 At] 45)
 have hH6:BlkT (w5.alloc (.cells #[.int .i64 E,.int .i64 At] 45)) w5.heap.size 45 [.int .i64 E,.int .i64 At]:=BlkT.new w5 _ _
 have hBB6:=hBB5.alloc hBB5.size (.cells #[.int .i64 E,.int .i64 At] 45)
 generalize w5.heap.size=b5 at *
 generalize w5.alloc (.cells #[.int .i64 E,.int .i64 At] 45)=w6 at *
 clear hF4 hG4 hP4 hF5 hG5 hB5 hBB4 hBB5 HW HW4 p0 p1 p2
 have a0:=hF6.cell 0; have a1:=hF6.cell 1; have b0:=hG6.cell 0; have b1':=hG6.cell 1; have c0:=hH6.cell 0; have c1:=hH6.cell 1
 simp only [List.getElem?_cons_zero,List.getElem?_cons_succ] at a0 a1 b0 b1' c0 c1
 go_wp2
 go_ret
 exact ⟨rfl,hBB6⟩
theorem lnil_eq (w:World):Sem.run Try.prog (binOp BinOp.eql 40 (.slice none 0 0) (.slice none 0 0)) w=Result.ok (.bool true) w:=by kernel_rfl
set_option maxRecDepth 100000 in
set_option maxHeartbeats 1600000 in
theorem searched_fault (w:World) (bw bx rate:Nat) (t a pat:ByteArray) (budget:Int) (memo:Bool) (E At:Int) (hI:IdxOf w bx rate t.data.toList a) (hE:E ≠ 0)
    (hS:∀ w',IdxOf w' bx rate t.data.toList a→Calls Try.prog 24 #[.pointer (some ⟨bx,0,none⟩),.string pat,.int .i64 budget,.bool memo] w' fun e w''=>e=.returned (.tuple #[.slice none 0 0,.agg #[.int .i64 E,.int .i64 At]])∧Below w'.heap.size w' w'')
    (hW:∀ w',Calls Try.prog 57 #[pairV bx rate t,.string pat,.int .i64 budget] w' fun e w''=>e=.returned (.tuple #[.slice none 0 0,.agg #[.int .i64 E,.int .i64 At],.int .i64 0])∧Below w'.heap.size w' w'') :
    Calls Try.prog 41 #[.pointer (some ⟨bw,0,none⟩),pairV bx rate t,.string pat,.int .i64 budget,.bool memo] w fun e w'=>e=.returned (.bool true)∧Below w.heap.size w w':=by
 have hB0:Below w.heap.size w (w.alloc (.cells #[.pointer (some ⟨bx,0,none⟩),.string t,.int .i64 (rate:Int)] 78)):=(Below.refl _ w).alloc (Nat.le_refl _) _
 have hP0:BlkT (w.alloc (.cells #[.pointer (some ⟨bx,0,none⟩),.string t,.int .i64 (rate:Int)] 78)) w.heap.size 78 [.pointer (some ⟨bx,0,none⟩),.string t,.int .i64 (rate:Int)]:=BlkT.new w _ _
 have hI0:=hI.below hB0 hI.lt
 have HC:=hid (hS _ hI0)
 have HW:=hid hW
 have hE2:(E != 0)=true:=by simpa using hE
 clear hS hW hI hI0
 unfold pairV at HW
 unfold pairV
 go_enter Try.func41,Try.ntmps41
 go_wp2_with fail
 refine HC.out.mono ?_
 rintro e w1 ⟨rfl,hB1⟩
 have hP1:BlkT w1 w.heap.size 78 [.pointer (some ⟨bx,0,none⟩),.string t,.int .i64 (rate:Int)]:=(hB1.block w.heap.size (by simp)).trans hP0
 have hBB1:=hB0.trans (hB1.mono hB0.size)
 have hF4:BlkT (w1.alloc (.cells #[.int .i64 E,.int .i64 At] 45)) w1.heap.size 45 [.int .i64 E,.int .i64 At]:=BlkT.new w1 _ _
 go_upto_region 2 with fail
 have hP4:=hP1.alloc (.cells #[.int .i64 E,.int .i64 At] 45)
 have hBa1:Below w1.heap.size w1 (w1.alloc (.cells #[.int .i64 E,.int .i64 At] 45)):=(Below.refl _ w1).alloc (Nat.le_refl _) _
 have hBB4:=hBB1.trans (hBa1.mono hBB1.size)
 generalize w1.heap.size=b1 at *
 generalize w1.alloc (.cells #[.int .i64 E,.int .i64 At] 45)=w4 at *
 clear hP0 hP1 hB0 hB1 hBB1 hBa1 HC
 have p0:=hP4.cell 0; have p1:=hP4.cell 1; have p2:=hP4.cell 2
 simp only [List.getElem?_cons_zero,List.getElem?_cons_succ] at p0 p1 p2
 have HW4:=hid (HW.out w4)
 go_upto_region 3 with (go_at_call 57; refine HW4.out.mono ?_; rintro e w5 ⟨rfl,hB5⟩)
 have hF5:=blk_keepL hF4 hB5 (BlkT.lt hF4)
 have hBB5:=hBB4.trans (hB5.mono hBB4.size)
 have hF6:=hF5.alloc (.cells #[.int .i64 E,.int .i64 At] 45)
 have hH6:BlkT (w5.alloc (.cells #[.int .i64 E,.int .i64 At] 45)) w5.heap.size 45 [.int .i64 E,.int .i64 At]:=BlkT.new w5 _ _
 have hBB6:=hBB5.alloc hBB5.size (.cells #[.int .i64 E,.int .i64 At] 45)
 generalize w5.heap.size=b5 at *
 generalize w5.alloc (.cells #[.int .i64 E,.int .i64 At] 45)=w6 at *
 clear hF4 hP4 hF5 hB5 hBB4 hBB5 HW HW4 p0 p1 p2
 have a0:=hF6.cell 0; have a1:=hF6.cell 1; have c0:=hH6.cell 0; have c1:=hH6.cell 1
 simp only [List.getElem?_cons_zero,List.getElem?_cons_succ] at a0 a1 c0 c1
 have hnil:=lnil_eq w6
 go_wp2
 go_ret
 exact ⟨rfl,hBB6⟩
set_option maxRecDepth 100000 in
set_option maxHeartbeats 1600000 in
theorem searched_budget (w:World) (bw bx rate:Nat) (t a pat:ByteArray) (budget:Int) (memo:Bool) (n m:Nat) (hI:IdxOf w bx rate t.data.toList a) (hbm:budget<(m:Int))
    (hS:∀ w',IdxOf w' bx rate t.data.toList a→Calls Try.prog 24 #[.pointer (some ⟨bx,0,none⟩),.string pat,.int .i64 budget,.bool memo] w' fun e w''=>e=.returned (.tuple #[.slice none 0 0,.agg #[.int .i64 6,.int .i64 0]])∧Below w'.heap.size w' w'')
    (hW:∀ w',Calls Try.prog 57 #[pairV bx rate t,.string pat,.int .i64 budget] w' fun e w''=>(∃ pp cap,e=.returned (.tuple #[.slice pp n cap,.agg #[.int .i64 0,.int .i64 0],.int .i64 (m:Int)]))∧Below w'.heap.size w' w'') :
    Calls Try.prog 41 #[.pointer (some ⟨bw,0,none⟩),pairV bx rate t,.string pat,.int .i64 budget,.bool memo] w fun e w'=>e=.returned (.bool true)∧Below w.heap.size w w':=by
 have hB0:Below w.heap.size w (w.alloc (.cells #[.pointer (some ⟨bx,0,none⟩),.string t,.int .i64 (rate:Int)] 78)):=(Below.refl _ w).alloc (Nat.le_refl _) _
 have hP0:BlkT (w.alloc (.cells #[.pointer (some ⟨bx,0,none⟩),.string t,.int .i64 (rate:Int)] 78)) w.heap.size 78 [.pointer (some ⟨bx,0,none⟩),.string t,.int .i64 (rate:Int)]:=BlkT.new w _ _
 have hI0:=hI.below hB0 hI.lt
 have HC:=hid (hS _ hI0)
 have HW:=hid hW
 have q1:decide (budget<(m:Int))=true:=decide_eq_true hbm
 clear hS hW hI hI0
 unfold pairV at HW
 unfold pairV
 go_enter Try.func41,Try.ntmps41
 go_wp2_with fail
 refine HC.out.mono ?_
 rintro e w1 ⟨rfl,hB1⟩
 have hP1:BlkT w1 w.heap.size 78 [.pointer (some ⟨bx,0,none⟩),.string t,.int .i64 (rate:Int)]:=(hB1.block w.heap.size (by simp)).trans hP0
 have hBB1:=hB0.trans (hB1.mono hB0.size)
 have hF4:BlkT (w1.alloc (.cells #[.int .i64 6,.int .i64 0] 45)) w1.heap.size 45 [.int .i64 6,.int .i64 0]:=BlkT.new w1 _ _
 go_upto_region 2 with fail
 have hP4:=hP1.alloc (.cells #[.int .i64 6,.int .i64 0] 45)
 have hBa1:Below w1.heap.size w1 (w1.alloc (.cells #[.int .i64 6,.int .i64 0] 45)):=(Below.refl _ w1).alloc (Nat.le_refl _) _
 have hBB4:=hBB1.trans (hBa1.mono hBB1.size)
 generalize w1.heap.size=b1 at *
 generalize w1.alloc (.cells #[.int .i64 6,.int .i64 0] 45)=w4 at *
 clear hP0 hP1 hB0 hB1 hBB1 hBa1 HC
 have p0:=hP4.cell 0; have p1:=hP4.cell 1; have p2:=hP4.cell 2
 simp only [List.getElem?_cons_zero,List.getElem?_cons_succ] at p0 p1 p2
 have HW4:=hid (HW.out w4)
 go_upto_region 3 with (go_at_call 57; refine HW4.out.mono ?_; rintro e w5 ⟨⟨pp,cap,rfl⟩,hB5⟩)
 have hF5:=blk_keepL hF4 hB5 (BlkT.lt hF4)
 have hBB5:=hBB4.trans (hB5.mono hBB4.size)
 have hF6:=hF5.alloc (.cells #[.int .i64 0,.int .i64 0] 45)
 have hH6:BlkT (w5.alloc (.cells #[.int .i64 0,.int .i64 0] 45)) w5.heap.size 45 [.int .i64 0,.int .i64 0]:=BlkT.new w5 _ _
 have hBB6:=hBB5.alloc hBB5.size (.cells #[.int .i64 0,.int .i64 0] 45)
 generalize w5.heap.size=b5 at *
 generalize w5.alloc (.cells #[.int .i64 0,.int .i64 0] 45)=w6 at *
 clear hF4 hP4 hF5 hB5 hBB4 hBB5 HW HW4 p0 p1 p2
 have a0:=hF6.cell 0; have a1:=hF6.cell 1; have c0:=hH6.cell 0; have c1:=hH6.cell 1
 simp only [List.getElem?_cons_zero,List.getElem?_cons_succ] at a0 a1 c0 c1
 have hnil:=lnil_eq w6
 go_wp2
 go_ret
 exact ⟨rfl,hBB6⟩
theorem lnil_ne (w:World) (g n m:Nat):Sem.run Try.prog (binOp BinOp.neq 40 (.slice (some ⟨g,0,none⟩) n m) (.slice none 0 0)) w=Result.ok (.bool true) w:=run_neq_slice_nil_any w _ _ (some ⟨g,0,none⟩) n m 0 0 Try.underlying40
theorem app_put {w w2:World} {bw B n gg cap i size:Nat} {e TV:TypeId} {vs xs:List Value} {v:Value} {X:Obj} (hV:BlkT w bw TV vs) (hne:v.ownBlock ≠ some bw)
    (hgrow:(w.alloc X).grownBy w2 v.ownBlock) (hat:v.ownBlock=some gg∨gg=w.heap.size + 1) (hown:w2.ownsRow B e size (.slice (some ⟨gg,0,none⟩) (n + 1) cap) (n + 1) xs) :
    BlkT (w2.setCell ⟨bw,i,none⟩ (.slice (some ⟨gg,0,none⟩) (n + 1) cap)) bw TV (vs.set i (.slice (some ⟨gg,0,none⟩) (n + 1) cap))∧(w2.setCell ⟨bw,i,none⟩ (.slice (some ⟨gg,0,none⟩) (n + 1) cap)).ownsRow B e size (.slice (some ⟨gg,0,none⟩) (n + 1) cap) (n + 1) xs∧gg ≠ bw ∧
     Keep (bw :: v.ownBlock.toList) w (w2.setCell ⟨bw,i,none⟩ (.slice (some ⟨gg,0,none⟩) (n + 1) cap)):=by
 have hlt:=hV.lt
 have hge:gg ≠ bw:=by
  rcases hat with h | h
  ·exact fun e=>hne (by rw [h,e])
  ·omega
 have blk:∀ b,b<w.heap.size→v.ownBlock ≠ some b→w2.heap[b]?=w.heap[b]?:=fun b hb hv =>
  (hgrow.block b (by show b<(w.alloc X).heap.size; simp; omega) (Ne.symm hv)).trans (Below.heap_alloc w X b hb)
 have set:∀ b,b ≠ bw→(w2.setCell ⟨bw,i,none⟩ (.slice (some ⟨gg,0,none⟩) (n + 1) cap)).heap[b]?=w2.heap[b]?:=fun b hb=>Below.heap_setCell _ _ _ _ hb
 refine ⟨?_,?_,hge,?_⟩
 ·have h1:BlkT w2 bw _ _:=(blk bw hlt hne).trans hV
  exact h1.set i _
 ·obtain ⟨h1,⟨h,_⟩ | ⟨g',cap',cur,hv,hb,hg,h2⟩⟩:=hown
  ·cases h
  ·cases hv
   exact ⟨h1,.inr ⟨gg,cap,cur,rfl,hb,(set gg hge).trans hg,h2⟩⟩
 ·refine ⟨hgrow.os,hgrow.tape,hgrow.output,?_,fun b hb hs=>?_⟩
  ·have:=hgrow.size
   have h3:(w.alloc X).heap.size=w.heap.size + 1:=by simp
   simp [World.setCell]
   omega
  ·rw [set b (fun e=>hs (by simp [e])),blk b hb (fun e=>hs (by simp [e]))]
theorem Try.infoInts:(Try.prog.info? 40).map (fun i=>(i.zero,i.size,i.bytes))=some (some (.slice none 0 0),1,24):=by kernel_rfl
set_option maxRecDepth 100000 in
set_option maxHeartbeats 1600000 in
theorem searched_ok (w:World) (bw bx rate B kl km:Nat) (t a pat reg:ByteArray) (budget:Int) (memo:Bool) (m:Nat) (l:List Nat) (vx vl vm:Value) (xl xm:List Value)
    (hI:IdxOf w bx rate t.data.toList a) (hb0:budget ≠ 0) (hbm:memo=false→(m:Int)≤budget) (hl:l.length≤1000)
    (hV:BlkT w bw 59 [vx,.string reg,vl,vm]) (hL:w.ownsRow B 40 1 vl kl xl) (hM:w.ownsRow B 40 1 vm km xm) (hkl:kl + 1≤100000000) (hkm:km + 1≤100000000) (hB:B≤w.heap.size) (hnl:vl.ownBlock ≠ some bw) (hnm:vm.ownBlock ≠ some bw) (hlm:∀ b,vl.ownBlock=some b→vm.ownBlock ≠ some b)
    (hS:∀ w',IdxOf w' bx rate t.data.toList a→Calls Try.prog 24 #[.pointer (some ⟨bx,0,none⟩),.string pat,.int .i64 budget,.bool memo] w' fun e w''=>∃ g,e=.returned (.tuple #[.slice (some ⟨g,0,none⟩) l.length l.length,.agg #[.int .i64 0,.int .i64 0]])∧w'.heap.size≤g∧Nums .i64 w'' g (natI l)∧Below w'.heap.size w' w'')
    (hW:∀ w',Calls Try.prog 57 #[pairV bx rate t,.string pat,.int .i64 budget] w' fun e w''=>(∃ pp cap,e=.returned (.tuple #[.slice pp l.length cap,.agg #[.int .i64 0,.int .i64 0],.int .i64 (m:Int)])∧SlI w'' (.slice pp l.length cap) l)∧Below w'.heap.size w' w'') :
    Calls Try.prog 41 #[.pointer (some ⟨bw,0,none⟩),pairV bx rate t,.string pat,.int .i64 budget,.bool memo] w fun e w'=>e=.returned (.bool true)∧∃ vl' vm' g c,BlkT w' bw 59 [vx,.string reg,vl',vm']∧w'.ownsRow B 40 1 vl' (kl + 1) (xl ++ [.slice (some ⟨g,0,none⟩) l.length l.length])∧w'.ownsRow B 40 1 vm' (km + 1) (xm ++ [.slice (some ⟨c,0,none⟩) l.length l.length]) ∧
     Nums .i64 w' g (natI l)∧Nums .i64 w' c (natI l)∧g<c∧w.heap.size≤g∧vl'.ownBlock ≠ some bw∧vm'.ownBlock ≠ some bw∧(∀ b,vl'.ownBlock=some b→vm'.ownBlock ≠ some b)∧(∀ b,vl'.ownBlock=some b→vl.ownBlock=some b∨w.heap.size≤b)∧(∀ b,vm'.ownBlock=some b→vm.ownBlock=some b∨w.heap.size≤b)∧Keep (bw :: (vl.ownBlock.toList ++ vm.ownBlock.toList)) w w':=by
 have hB0:Below w.heap.size w (w.alloc (.cells #[.pointer (some ⟨bx,0,none⟩),.string t,.int .i64 (rate:Int)] 78)):=(Below.refl _ w).alloc (Nat.le_refl _) _
 have hP0:BlkT (w.alloc (.cells #[.pointer (some ⟨bx,0,none⟩),.string t,.int .i64 (rate:Int)] 78)) w.heap.size 78 [.pointer (some ⟨bx,0,none⟩),.string t,.int .i64 (rate:Int)]:=BlkT.new w _ _
 have hI0:=hI.below hB0 hI.lt
 have HC:=hid (hS _ hI0)
 have HW:=hid hW
 have q1:decide (budget<(m:Int))=true→memo=true:=fun h=>by
  cases memo with
  | true=>rfl
  | false=>have:=hbm rfl; have:=of_decide_eq_true h; omega
 have HQ1:=hid q1
 have q2:(budget == 0)=false:=by simpa using hb0
 have HV:=hid hV
 have HLB:Hid (∀ b,vl.ownBlock=some b→b<w.heap.size∧B≤b):=own_lt' hL
 have HMB:Hid (∀ b,vm.ownBlock=some b→b<w.heap.size∧B≤b):=own_lt' hM
 have HLo:=hid hL
 have HMo:=hid hM
 have hlt:=hV.lt
 clear hS hW hI hI0 q1 hV hL hM hbm
 unfold pairV at HW
 unfold pairV
 go_enter Try.func41,Try.ntmps41
 go_wp2_with fail
 refine HC.out.mono ?_
 rintro e w1 ⟨g,rfl,hg,hN1,hB1⟩
 have hP1:BlkT w1 w.heap.size 78 [.pointer (some ⟨bx,0,none⟩),.string t,.int .i64 (rate:Int)]:=(hB1.block w.heap.size (by simp)).trans hP0
 have hBB1:=hB0.trans (hB1.mono hB0.size)
 have hF4:BlkT (w1.alloc (.cells #[.int .i64 0,.int .i64 0] 45)) w1.heap.size 45 [.int .i64 0,.int .i64 0]:=BlkT.new w1 _ _
 go_upto_region 2 with fail
 have hg4:w.heap.size + 1≤g:=by simpa using hg
 have hP4:=hP1.alloc (.cells #[.int .i64 0,.int .i64 0] 45)
 have hBa1:Below w1.heap.size w1 (w1.alloc (.cells #[.int .i64 0,.int .i64 0] 45)):=(Below.refl _ w1).alloc (Nat.le_refl _) _
 have hBB4:=hBB1.trans (hBa1.mono hBB1.size)
 have hN4:Nums .i64 (w1.alloc (.cells #[.int .i64 0,.int .i64 0] 45)) g (natI l):=Blk.below hN1 hBa1 (Blk.lt hN1)
 have hgb:g<w1.heap.size:=Blk.lt hN1
 generalize w1.heap.size=b1 at *
 generalize w1.alloc (.cells #[.int .i64 0,.int .i64 0] 45)=w4 at *
 clear hP0 hP1 hB0 hB1 hBB1 hBa1 HC hN1 hg
 have p0:=hP4.cell 0; have p1:=hP4.cell 1; have p2:=hP4.cell 2
 simp only [List.getElem?_cons_zero,List.getElem?_cons_succ] at p0 p1 p2
 have HW4:=hid (HW.out w4)
 go_upto_region 3 with (go_at_call 57; refine HW4.out.mono ?_; rintro e w5 ⟨⟨pp,cap,rfl,hS5⟩,hB5⟩)
 have hF5:=blk_keepL hF4 hB5 (BlkT.lt hF4)
 have hN5:Nums .i64 w5 g (natI l):=Blk.below hN4 hB5 (Blk.lt hN4)
 have hBB5:=hBB4.trans (hB5.mono hBB4.size)
 have hF6:=hF5.alloc (.cells #[.int .i64 0,.int .i64 0] 45)
 have hH6:BlkT (w5.alloc (.cells #[.int .i64 0,.int .i64 0] 45)) w5.heap.size 45 [.int .i64 0,.int .i64 0]:=BlkT.new w5 _ _
 have hBa5:Below w5.heap.size w5 (w5.alloc (.cells #[.int .i64 0,.int .i64 0] 45)):=(Below.refl _ w5).alloc (Nat.le_refl _) _
 have hBB6:=hBB5.alloc hBB5.size (.cells #[.int .i64 0,.int .i64 0] 45)
 have hN6:Nums .i64 (w5.alloc (.cells #[.int .i64 0,.int .i64 0] 45)) g (natI l):=Blk.below hN5 hBa5 (Blk.lt hN5)
 have HS6:=hid (hS5.below hBa5 (Nat.le_refl _))
 generalize w5.heap.size=b5 at *
 generalize w5.alloc (.cells #[.int .i64 0,.int .i64 0] 45)=w6 at *
 clear hF4 hP4 hF5 hB5 hBB4 hBB5 HW HW4 p0 p1 p2 hN4 hN5 hS5 hBa5
 have a0:=hF6.cell 0; have a1:=hF6.cell 1; have c0:=hH6.cell 0; have c1:=hH6.cell 1
 simp only [List.getElem?_cons_zero,List.getElem?_cons_succ] at a0 a1 c0 c1
 have HSM:=hid (lsame_any _ _ l l w6 (SlI.nums hN6) HS6.out hl hl)
 have hsame:decide (l=l)=true:=decide_eq_true rfl
 rw [hsame] at HSM
 have hmk:∀ w,Sem.run Try.prog (Instr.makeSlice 40 (.int .i64 (l.length:Int)) (.int .i64 (l.length:Int))) w=.ok (.slice (some ⟨w.heap.size,0,none⟩) l.length l.length) (w.alloc (.cells (zeroRow (.int .i64 0) l.length) 3)):=fun w=>make_ints _ l.length rfl (by omega) w
 have HMK:=hid hmk
 have HMZ:Hid ((Try.prog.info? 3).map (·.size)=some 1):=by
  obtain ⟨i,h1,h2,h3,h4⟩:=info_int
  show _=_
  rw [h1]; simp [h3]
 clear hmk
 have hS1:memo=true∨(memo=false∧decide (budget<(m:Int))=false):=by
  cases memo with
  | true=>exact .inl rfl
  | false=>exact .inr ⟨rfl,by cases h:decide (budget<(m:Int)) with | false=>rfl | true=>exact absurd (HQ1.out h) (by decide)⟩
 clear HQ1
 rcases hS1 with rfl | ⟨rfl,hd⟩
 all_goals
  go_upto_region 9 with fail
  go_upto_region 10 with (go_at_call 46; refine HSM.out.mono ?_; rintro e w7 ⟨rfl,hB7⟩)
  have hN7:Nums .i64 w7 g (natI l):=Blk.below hN6 hB7 (Blk.lt hN6)
  have hBB7:=hBB6.trans (hB7.mono hBB6.size)
  have hmk7:=HMK.out w7
  clear hF6 hH6 hB7 HSM hN6 hBB6 HS6 a0 a1 c0 c1 HMK
  go_upto_region 12 with fail
  obtain ⟨c,hc⟩:∃ c,c=w7.heap.size:=⟨_,rfl⟩
  have hgc:g<c:=by rw [hc]; exact Blk.lt hN7
  have HC8:Hid ((w7.alloc (.cells (zeroRow (.int .i64 0) l.length) 3)).heap[c]?=some (.cells (zeroRow (.int .i64 0) l.length).toList.toArray 3 (0,0))):=by
   rw [hc]; exact heap_alloc_new w7 _
  have hBa7:Below w7.heap.size w7 (w7.alloc (.cells (zeroRow (.int .i64 0) l.length) 3)):=(Below.refl _ w7).alloc (Nat.le_refl _) _
  have hN8:Nums .i64 (w7.alloc (.cells (zeroRow (.int .i64 0) l.length) 3)) g (natI l):=Blk.below hN7 hBa7 (Blk.lt hN7)
  have hBB8:=hBB7.trans (hBa7.mono hBB7.size)
  have hwc:w.heap.size≤c:=by rw [hc]; exact hBB7.size
  rw [← hc]
  clear hmk7 hN7 hBB7 hBa7
  generalize w7.alloc (.cells (zeroRow (.int .i64 0) l.length) 3)=w8 at *
  clear hc w7
  have HN8:=hid hN8
  have hcs:((natI l).map (Value.int .i64)).length=Nat.min l.length l.length:=by simp [natI]
  have hfit:0 + ((natI l).map (Value.int .i64)).length≤(zeroRow (.int .i64 0) l.length).toList.length:=by simp [natI,zeroRow]
  have HPOS:Hid (∀ j v,((natI l).map (Value.int .i64))[j]?=some v→w8.cell? ((⟨g,0,none⟩:Addr).add j)=some v):=by
   obtain ⟨Tg,hTg⟩:=hN8
   exact World.news_of_block hTg
  have hone:∀ v ∈ (natI l).map (Value.int .i64),v.oneCell'=true:=by
   intro v hv
   obtain ⟨x,_,rfl⟩:=List.mem_map.1 hv
   rfl
  have HONE:=hid hone
  have HCS:=hid hcs
  have HFIT:=hid hfit
  clear hone hcs hfit hN8
  obtain ⟨w9,hcopy,HC9,hB9⟩:∃ w9,Sem.run Try.prog (Builtin.copy_ #[40,40] 3 #[.slice (some ⟨c,0,none⟩) l.length l.length,.slice (some ⟨g,0,none⟩) l.length l.length]) w8=.ok (goInt l.length) w9∧Hid (w9.heap[c]?=some (.cells ((natI l).map (Value.int .i64)).toArray 3 (0,0)))∧Below c w8 w9:=by
   have h:=run_copy_row (P:=Try.prog) w8 40 40 3 3 c 0 l.length l.length ⟨g,0,none⟩ l.length l.length _ 3 ((natI l).map (Value.int .i64)) Try.underlying40 HMZ.out HC8.out HCS.out HPOS.out (by simpa using HFIT.out) HONE.out
   have e1:((natI l).map (Value.int .i64)).length=l.length:=by simp [natI]
   have e2:((zeroRow (.int .i64 0) l.length).toList.toArray.toList.take 0 ++ (natI l).map (Value.int .i64) ++ (zeroRow (.int .i64 0) l.length).toList.toArray.toList.drop (0 + ((natI l).map (Value.int .i64)).length))=(natI l).map (Value.int .i64):=by simp [natI,zeroRow]
   rw [e2,e1] at h
   exact ⟨_,h,setRow_heap w8 c _ _ _ _ HC8.out,below_setRow (Below.refl _ _) (Nat.le_refl _) _⟩
  clear HCS HFIT HONE HPOS HC8
  go_upto_region 13 with fail
  have hBB9:Below w.heap.size w w9:=hBB8.trans (hB9.mono hwc)
  have hN9:Nums .i64 w9 g (natI l):=Blk.below HN8.out hB9 hgc
  have hM9:Nums .i64 w9 c (natI l):=⟨_,HC9.out⟩
  have hV9:BlkT w9 bw 59 [vx,.string reg,vl,vm]:=(hBB9.block bw hlt).trans HV.out
  have HL9:Hid (w9.ownsRow B 40 1 vl kl xl):=own_keep' HLo.out (S:=[]) (Keep.of_below hBB9 (Nat.le_refl _)) (fun b _=>by simp)
  have HM9:Hid (w9.ownsRow B 40 1 vm km xm):=own_keep' HMo.out (S:=[]) (Keep.of_below hBB9 (Nat.le_refl _)) (fun b _=>by simp)
  have hsz9:=hBB9.size
  clear hcopy HC9 hB9 HN8 hBB8
  obtain ⟨j0,hj0,hy0,hy1,hy2⟩:=info_parts Try.infoInts
  have c2:=hV9.cell 2
  have f2:=hV9.frozen 2
  simp only [List.getElem?_cons_zero,List.getElem?_cons_succ] at c2
  have n1:bw<w9.heap.size:=by omega
  have HML:Hid (kl + 1≤maxLen):=by show _≤_; unfold maxLen; omega
  have HNE:=hid hnl
  have HC1:Hid ((w9.alloc (.cells #[.slice (some ⟨g,0,none⟩) l.length l.length] 40)).cell? ⟨bw,2,none⟩=some vl):=by
   show _=_
   rw [World.cell?_alloc_lt _ _ _ n1]
   exact c2
  have HF1:Hid ((w9.alloc (.cells #[.slice (some ⟨g,0,none⟩) l.length l.length] 40)).frozen? ⟨bw,2,none⟩=false):=by
   show _=_
   rw [World.frozen?_alloc_past _ _ _ n1]
   exact f2
  have HONE:Hid (∀ v ∈ [Value.slice (some ⟨g,0,none⟩) l.length l.length],v.oneCell'=true):=by
   intro v hv
   rw [List.mem_singleton] at hv
   subst hv; rfl
  go_upto_region 14 with ((at_builtin; refine wpList_append_lies _ rfl _ _ 57 rfl B 40 j0 _ 1 24 Try.underlying57 hj0 hy0 hy1 hy2 rfl (by omega) vl kl xl rfl (HL9.out.alloc _) ⟨w9.heap.size,0,none⟩ 1 1 [.slice (some ⟨g,0,none⟩) l.length l.length] rfl rfl (World.news_of_block (cs:=#[.slice (some ⟨g,0,none⟩) l.length l.length]) (t:=40) (fr:=(0,0)) (heap_alloc_new w9 _)) HONE.out (by omega) HML.out (by omega) (by simp; omega) (w9.heap.size + 1) (by simp) ?_; intro gg cap1 w10 hown1 hgrow1 hat1 hlt1))
  have hcw1:w10.cell? ⟨bw,2,none⟩=some vl:=(hgrow1.cell_far _ (by simp; omega) (Ne.symm HNE.out)).trans HC1.out
  have hfw1:w10.frozen? ⟨bw,2,none⟩=false:=(hgrow1.frozen_far _ (by simp; omega) (Ne.symm HNE.out)).trans HF1.out
  have HP:=hid (app_put (i:=2) hV9 HNE.out hgrow1 hat1 hown1)
  have hggl:∀ b,some gg=some b→vl.ownBlock=some b∨w.heap.size≤b:=by
   intro b e
   cases e
   rcases hat1 with h | h
   ·exact .inl h
   ·exact .inr (by omega)
  have hggm:vm.ownBlock ≠ some gg:=by
   intro h
   have:=(HMB.out _ h).1
   rcases hat1 with h' | h'
   ·exact hlm _ h' h
   ·omega
  clear hgrow1 hown1 hlt1 HC1 HF1 HONE HL9 c2 f2 hat1
  go_upto_region 15 with fail
  have hP:=HP.out
  clear HP hcw1 hfw1
  generalize w10.setCell ⟨bw,2,none⟩ (.slice (some ⟨gg,0,none⟩) (kl + 1) cap1)=w11 at *
  obtain ⟨hV11,hO11,hgg,hK11⟩:=hP
  have hV11:BlkT w11 bw 59 [vx,.string reg,.slice (some ⟨gg,0,none⟩) (kl + 1) cap1,vm]:=hV11
  have hg1:g ∉ bw :: vl.ownBlock.toList:=by
   intro h
   rw [List.mem_cons,Option.mem_toList] at h
   rcases h with h | h
   ·omega
   ·have:=(HLB.out _ h).1; omega
  have hc1:c ∉ bw :: vl.ownBlock.toList:=by
   intro h
   rw [List.mem_cons,Option.mem_toList] at h
   rcases h with h | h
   ·omega
   ·have:=(HLB.out _ h).1; omega
  have hN11:Nums .i64 w11 g (natI l):=Blk.of_heap hN9 (hK11.block g (Blk.lt hN9) hg1)
  have hM11:Nums .i64 w11 c (natI l):=Blk.of_heap hM9 (hK11.block c (Blk.lt hM9) hc1)
  have HM11:Hid (w11.ownsRow B 40 1 vm km xm):=own_keep' HM9.out hK11 (fun b hb h=>by
   rw [List.mem_cons,Option.mem_toList] at h
   rcases h with h | h
   ·exact hnm (by rw [hb,h])
   ·exact hlm _ h hb)
  have hsz11:=hK11.size
  have hglt:=(own_lt' hO11 gg rfl).1
  have HO11:=hid hO11
  clear HM9 hN9 hM9 hV9 hO11
  have c3:=hV11.cell 3
  have f3:=hV11.frozen 3
  simp only [List.getElem?_cons_zero,List.getElem?_cons_succ] at c3
  have n2:bw<w11.heap.size:=by omega
  have HML2:Hid (km + 1≤maxLen):=by show _≤_; unfold maxLen; omega
  have HNE2:=hid hnm
  have HC2:Hid ((w11.alloc (.cells #[.slice (some ⟨c,0,none⟩) l.length l.length] 40)).cell? ⟨bw,3,none⟩=some vm):=by
   show _=_
   rw [World.cell?_alloc_lt _ _ _ n2]
   exact c3
  have HF2:Hid ((w11.alloc (.cells #[.slice (some ⟨c,0,none⟩) l.length l.length] 40)).frozen? ⟨bw,3,none⟩=false):=by
   show _=_
   rw [World.frozen?_alloc_past _ _ _ n2]
   exact f3
  have HONE2:Hid (∀ v ∈ [Value.slice (some ⟨c,0,none⟩) l.length l.length],v.oneCell'=true):=by
   intro v hv
   rw [List.mem_singleton] at hv
   subst hv; rfl
  go_upto_region 16 with ((at_builtin; refine wpList_append_lies _ rfl _ _ 57 rfl B 40 j0 _ 1 24 Try.underlying57 hj0 hy0 hy1 hy2 rfl (by omega) vm km xm rfl (HM11.out.alloc _) ⟨w11.heap.size,0,none⟩ 1 1 [.slice (some ⟨c,0,none⟩) l.length l.length] rfl rfl (World.news_of_block (cs:=#[.slice (some ⟨c,0,none⟩) l.length l.length]) (t:=40) (fr:=(0,0)) (heap_alloc_new w11 _)) HONE2.out (by omega) HML2.out (by omega) (by simp; omega) (w11.heap.size + 1) (by simp) ?_; intro gh cap2 w12 hown2 hgrow2 hat2 hlt2))
  have hcw2:w12.cell? ⟨bw,3,none⟩=some vm:=(hgrow2.cell_far _ (by simp; omega) (Ne.symm HNE2.out)).trans HC2.out
  have hfw2:w12.frozen? ⟨bw,3,none⟩=false:=(hgrow2.frozen_far _ (by simp; omega) (Ne.symm HNE2.out)).trans HF2.out
  have HP:=hid (app_put (i:=3) hV11 HNE2.out hgrow2 hat2 hown2)
  have hghm:∀ b,some gh=some b→vm.ownBlock=some b∨w.heap.size≤b:=by
   intro b e
   cases e
   rcases hat2 with h | h
   ·exact .inl h
   ·exact .inr (by omega)
  have hghl:gg ≠ gh:=by
   rcases hat2 with h | h
   ·exact fun e=>hggm (by rw [e]; exact h)
   ·omega
  clear hgrow2 hown2 hlt2 HC2 HF2 HONE2 HM11 c3 f3 hat2
  go_upto_region 17 with fail
  have hP:=HP.out
  clear HP hcw2 hfw2
  generalize w12.setCell ⟨bw,3,none⟩ (.slice (some ⟨gh,0,none⟩) (km + 1) cap2)=w13 at *
  obtain ⟨hV13,hO13,hgh,hK13⟩:=hP
  have hnn:=lnil_ne w13 g l.length l.length
  have HF:Hid (∃ vl' vm' g c,BlkT w13 bw 59 [vx,.string reg,vl',vm']∧w13.ownsRow B 40 1 vl' (kl + 1) (xl ++ [.slice (some ⟨g,0,none⟩) l.length l.length])∧w13.ownsRow B 40 1 vm' (km + 1) (xm ++ [.slice (some ⟨c,0,none⟩) l.length l.length]) ∧
   Nums .i64 w13 g (natI l)∧Nums .i64 w13 c (natI l)∧g<c∧w.heap.size≤g∧vl'.ownBlock ≠ some bw∧vm'.ownBlock ≠ some bw∧(∀ b,vl'.ownBlock=some b→vm'.ownBlock ≠ some b)∧(∀ b,vl'.ownBlock=some b→vl.ownBlock=some b∨w.heap.size≤b)∧(∀ b,vm'.ownBlock=some b→vm.ownBlock=some b∨w.heap.size≤b)∧Keep (bw :: (vl.ownBlock.toList ++ vm.ownBlock.toList)) w w13):=by
   refine ⟨.slice (some ⟨gg,0,none⟩) (kl + 1) cap1,.slice (some ⟨gh,0,none⟩) (km + 1) cap2,g,c,hV13,own_keep' HO11.out hK13 (fun b hb h=>?_),hO13,?_,?_,hgc,by omega,fun e=>hgg (by cases e; rfl),fun e=>hgh (by cases e; rfl),fun b e1 e2=>hghl (by cases e1; cases e2; rfl),hggl,hghm,?_⟩
   ·cases hb
    rw [List.mem_cons,Option.mem_toList] at h
    rcases h with h | h
    ·exact hgg h
    ·exact hggm h
   ·refine Blk.of_heap hN11 (hK13.block g (Blk.lt hN11) (fun h=>?_))
    rw [List.mem_cons,Option.mem_toList] at h
    rcases h with h | h
    ·omega
    ·have:=(HMB.out _ h).1; omega
   ·refine Blk.of_heap hM11 (hK13.block c (Blk.lt hM11) (fun h=>?_))
    rw [List.mem_cons,Option.mem_toList] at h
    rcases h with h | h
    ·omega
    ·have:=(HMB.out _ h).1; omega
   ·refine ((Keep.of_below hBB9 (Nat.le_refl _)).trans (hK11.mono (fun k hk=>?_))).trans (hK13.mono (fun k hk=>?_))
    ·rw [List.mem_cons] at hk ⊢
     rcases hk with h | h
     ·exact .inl h
     ·exact .inr (List.mem_append_left _ h)
    ·rw [List.mem_cons] at hk ⊢
     rcases hk with h | h
     ·exact .inl h
     ·exact .inr (List.mem_append_right _ h)
  clear hV13 hO13 hK13 hN11 hM11 HO11 hK11 hV11
  go_wp2
  go_ret
  exact ⟨rfl,HF.out⟩
set_option maxRecDepth 100000 in
set_option maxHeartbeats 1600000 in
theorem counted_ok (w:World) (bx rate:Nat) (t a pat:ByteArray) (budget:Int) (n m:Nat) (hI:IdxOf w bx rate t.data.toList a)
    (hC:∀ w',IdxOf w' bx rate t.data.toList a→Calls Try.prog 58 #[.pointer (some ⟨bx,0,none⟩),.string pat,.int .i64 budget] w' fun e w''=>e=.returned (.tuple #[.int .i64 (n:Int),.agg #[.int .i64 0,.int .i64 0]])∧Below w'.heap.size w' w'')
    (hX:∀ w',IdxOf w' bx rate t.data.toList a→Calls Try.prog 59 #[.pointer (some ⟨bx,0,none⟩),.string pat,.int .i64 budget] w' fun e w''=>e=.returned (.tuple #[.bool (decide ((n:Int) > 0)),.agg #[.int .i64 0,.int .i64 0]])∧Below w'.heap.size w' w'')
    (hW:∀ w',Calls Try.prog 57 #[pairV bx rate t,.string pat,.int .i64 budget] w' fun e w''=>(∃ pp cap,e=.returned (.tuple #[.slice pp n cap,.agg #[.int .i64 0,.int .i64 0],.int .i64 (m:Int)]))∧Below w'.heap.size w' w'') :
    Calls Try.prog 42 #[pairV bx rate t,.string pat,.int .i64 budget] w fun e w'=>e=.returned (.bool true)∧Below w.heap.size w w':=by
 have hB0:Below w.heap.size w (w.alloc (.cells #[.pointer (some ⟨bx,0,none⟩),.string t,.int .i64 (rate:Int)] 78)):=(Below.refl _ w).alloc (Nat.le_refl _) _
 have hP0:BlkT (w.alloc (.cells #[.pointer (some ⟨bx,0,none⟩),.string t,.int .i64 (rate:Int)] 78)) w.heap.size 78 [.pointer (some ⟨bx,0,none⟩),.string t,.int .i64 (rate:Int)]:=BlkT.new w _ _
 have hI0:=hI.below hB0 hI.lt
 have HC:=hid (hC _ hI0)
 have HX:=hid hX
 have HW:=hid hW
 have HI0:=hid hI0
 clear hC hX hW hI hI0
 unfold pairV at HW
 unfold pairV
 go_enter Try.func42,Try.ntmps42
 go_wp2_with fail
 refine HC.out.mono ?_
 rintro e w1 ⟨rfl,hB1⟩
 have hP1:BlkT w1 w.heap.size 78 [.pointer (some ⟨bx,0,none⟩),.string t,.int .i64 (rate:Int)]:=(hB1.block w.heap.size (by simp)).trans hP0
 have hI1:=HI0.out.below hB1 HI0.out.lt
 have hBB1:=hB0.trans (hB1.mono hB0.size)
 have hF1:BlkT (w1.alloc (.cells #[.int .i64 0,.int .i64 0] 45)) w1.heap.size 45 [.int .i64 0,.int .i64 0]:=BlkT.new w1 _ _
 go_upto_region 2 with fail
 have hP2:=hP1.alloc (.cells #[.int .i64 0,.int .i64 0] 45)
 have hBa1:Below w1.heap.size w1 (w1.alloc (.cells #[.int .i64 0,.int .i64 0] 45)):=(Below.refl _ w1).alloc (Nat.le_refl _) _
 have hI2:=hI1.below hBa1 hI1.lt
 have hBB2:=hBB1.trans (hBa1.mono hBB1.size)
 generalize w1.heap.size=b1 at *
 generalize w1.alloc (.cells #[.int .i64 0,.int .i64 0] 45)=w2 at *
 clear hP0 hP1 hB0 hB1 hI1 hBB1 hBa1 HC HI0
 have p0:=hP2.cell 0
 simp only [List.getElem?_cons_zero] at p0
 have HX2:=hid (HX.out w2 hI2)
 go_upto_region 3 with (go_at_call 59; refine HX2.out.mono ?_; rintro e w3 ⟨rfl,hB3⟩)
 have hF3:=blk_keepL hF1 hB3 (BlkT.lt hF1)
 have hP3:=blk_keepL hP2 hB3 (BlkT.lt hP2)
 have hBB3:=hBB2.trans (hB3.mono hBB2.size)
 have hF4:=hF3.alloc (.cells #[.int .i64 0,.int .i64 0] 45)
 have hP4:=hP3.alloc (.cells #[.int .i64 0,.int .i64 0] 45)
 have hG4:BlkT (w3.alloc (.cells #[.int .i64 0,.int .i64 0] 45)) w3.heap.size 45 [.int .i64 0,.int .i64 0]:=BlkT.new w3 _ _
 have hBB4:=hBB3.alloc hBB3.size (.cells #[.int .i64 0,.int .i64 0] 45)
 generalize w3.heap.size=b3 at *
 generalize w3.alloc (.cells #[.int .i64 0,.int .i64 0] 45)=w4 at *
 clear hF1 hP2 hF3 hP3 hB3 hBB2 hBB3 hI2 HX HX2 p0
 have p0:=hP4.cell 0; have p1:=hP4.cell 1; have p2:=hP4.cell 2
 simp only [List.getElem?_cons_zero,List.getElem?_cons_succ] at p0 p1 p2
 have HW4:=hid (HW.out w4)
 go_upto_region 4 with (go_at_call 57; refine HW4.out.mono ?_; rintro e w5 ⟨⟨pp,cap,rfl⟩,hB5⟩)
 have hF5:=blk_keepL hF4 hB5 (BlkT.lt hF4)
 have hG5:=blk_keepL hG4 hB5 (BlkT.lt hG4)
 have hBB5:=hBB4.trans (hB5.mono hBB4.size)
 have hF6:=hF5.alloc (.cells #[.int .i64 0,.int .i64 0] 45)
 have hG6:=hG5.alloc (.cells #[.int .i64 0,.int .i64 0] 45)
 have hH6:BlkT (w5.alloc (.cells #[.int .i64 0,.int .i64 0] 45)) w5.heap.size 45 [.int .i64 0,.int .i64 0]:=BlkT.new w5 _ _
 have hBB6:=hBB5.alloc hBB5.size (.cells #[.int .i64 0,.int .i64 0] 45)
 generalize w5.heap.size=b5 at *
 generalize w5.alloc (.cells #[.int .i64 0,.int .i64 0] 45)=w6 at *
 clear hF4 hG4 hP4 hF5 hG5 hB5 hBB4 hBB5 HW HW4 p0 p1 p2
 have a0:=hF6.cell 0; have a1:=hF6.cell 1; have b0:=hG6.cell 0; have b1':=hG6.cell 1; have c0:=hH6.cell 0; have c1:=hH6.cell 1
 simp only [List.getElem?_cons_zero,List.getElem?_cons_succ] at a0 a1 b0 b1' c0 c1
 go_wp2
 go_ret
 exact ⟨rfl,hBB6⟩
set_option maxRecDepth 100000 in
set_option maxHeartbeats 1600000 in
theorem counted_budget (w:World) (bx rate:Nat) (t a pat:ByteArray) (budget:Int) (n m:Nat) (hbm:budget<(m:Int)) (hI:IdxOf w bx rate t.data.toList a)
    (hC:∀ w',IdxOf w' bx rate t.data.toList a→Calls Try.prog 58 #[.pointer (some ⟨bx,0,none⟩),.string pat,.int .i64 budget] w' fun e w''=>e=.returned (.tuple #[.int .i64 0,.agg #[.int .i64 6,.int .i64 0]])∧Below w'.heap.size w' w'')
    (hX:∀ w',IdxOf w' bx rate t.data.toList a→Calls Try.prog 59 #[.pointer (some ⟨bx,0,none⟩),.string pat,.int .i64 budget] w' fun e w''=>e=.returned (.tuple #[.bool false,.agg #[.int .i64 6,.int .i64 0]])∧Below w'.heap.size w' w'')
    (hW:∀ w',Calls Try.prog 57 #[pairV bx rate t,.string pat,.int .i64 budget] w' fun e w''=>(∃ pp cap,e=.returned (.tuple #[.slice pp n cap,.agg #[.int .i64 0,.int .i64 0],.int .i64 (m:Int)]))∧Below w'.heap.size w' w'') :
    Calls Try.prog 42 #[pairV bx rate t,.string pat,.int .i64 budget] w fun e w'=>e=.returned (.bool true)∧Below w.heap.size w w':=by
 have hB0:Below w.heap.size w (w.alloc (.cells #[.pointer (some ⟨bx,0,none⟩),.string t,.int .i64 (rate:Int)] 78)):=(Below.refl _ w).alloc (Nat.le_refl _) _
 have hP0:BlkT (w.alloc (.cells #[.pointer (some ⟨bx,0,none⟩),.string t,.int .i64 (rate:Int)] 78)) w.heap.size 78 [.pointer (some ⟨bx,0,none⟩),.string t,.int .i64 (rate:Int)]:=BlkT.new w _ _
 have hI0:=hI.below hB0 hI.lt
 have HC:=hid (hC _ hI0)
 have HX:=hid hX
 have HW:=hid hW
 have HI0:=hid hI0
 have q1:decide (budget<(m:Int))=true:=decide_eq_true hbm
 clear hC hX hW hI hI0
 unfold pairV at HW
 unfold pairV
 go_enter Try.func42,Try.ntmps42
 go_wp2_with fail
 refine HC.out.mono ?_
 rintro e w1 ⟨rfl,hB1⟩
 have hP1:BlkT w1 w.heap.size 78 [.pointer (some ⟨bx,0,none⟩),.string t,.int .i64 (rate:Int)]:=(hB1.block w.heap.size (by simp)).trans hP0
 have hI1:=HI0.out.below hB1 HI0.out.lt
 have hBB1:=hB0.trans (hB1.mono hB0.size)
 have hF1:BlkT (w1.alloc (.cells #[.int .i64 6,.int .i64 0] 45)) w1.heap.size 45 [.int .i64 6,.int .i64 0]:=BlkT.new w1 _ _
 go_upto_region 2 with fail
 have hP2:=hP1.alloc (.cells #[.int .i64 6,.int .i64 0] 45)
 have hBa1:Below w1.heap.size w1 (w1.alloc (.cells #[.int .i64 6,.int .i64 0] 45)):=(Below.refl _ w1).alloc (Nat.le_refl _) _
 have hI2:=hI1.below hBa1 hI1.lt
 have hBB2:=hBB1.trans (hBa1.mono hBB1.size)
 generalize w1.heap.size=b1 at *
 generalize w1.alloc (.cells #[.int .i64 6,.int .i64 0] 45)=w2 at *
 clear hP0 hP1 hB0 hB1 hI1 hBB1 hBa1 HC HI0
 have p0:=hP2.cell 0
 simp only [List.getElem?_cons_zero] at p0
 have HX2:=hid (HX.out w2 hI2)
 go_upto_region 3 with (go_at_call 59; refine HX2.out.mono ?_; rintro e w3 ⟨rfl,hB3⟩)
 have hF3:=blk_keepL hF1 hB3 (BlkT.lt hF1)
 have hP3:=blk_keepL hP2 hB3 (BlkT.lt hP2)
 have hBB3:=hBB2.trans (hB3.mono hBB2.size)
 have hF4:=hF3.alloc (.cells #[.int .i64 6,.int .i64 0] 45)
 have hP4:=hP3.alloc (.cells #[.int .i64 6,.int .i64 0] 45)
 have hG4:BlkT (w3.alloc (.cells #[.int .i64 6,.int .i64 0] 45)) w3.heap.size 45 [.int .i64 6,.int .i64 0]:=BlkT.new w3 _ _
 have hBB4:=hBB3.alloc hBB3.size (.cells #[.int .i64 6,.int .i64 0] 45)
 generalize w3.heap.size=b3 at *
 generalize w3.alloc (.cells #[.int .i64 6,.int .i64 0] 45)=w4 at *
 clear hF1 hP2 hF3 hP3 hB3 hBB2 hBB3 hI2 HX HX2 p0
 have p0:=hP4.cell 0; have p1:=hP4.cell 1; have p2:=hP4.cell 2
 simp only [List.getElem?_cons_zero,List.getElem?_cons_succ] at p0 p1 p2
 have HW4:=hid (HW.out w4)
 go_upto_region 4 with (go_at_call 57; refine HW4.out.mono ?_; rintro e w5 ⟨⟨pp,cap,rfl⟩,hB5⟩)
 have hF5:=blk_keepL hF4 hB5 (BlkT.lt hF4)
 have hG5:=blk_keepL hG4 hB5 (BlkT.lt hG4)
 have hBB5:=hBB4.trans (hB5.mono hBB4.size)
 have hF6:=hF5.alloc (.cells #[.int .i64 0,.int .i64 0] 45)
 have hG6:=hG5.alloc (.cells #[.int .i64 0,.int .i64 0] 45)
 have hH6:BlkT (w5.alloc (.cells #[.int .i64 0,.int .i64 0] 45)) w5.heap.size 45 [.int .i64 0,.int .i64 0]:=BlkT.new w5 _ _
 have hBB6:=hBB5.alloc hBB5.size (.cells #[.int .i64 0,.int .i64 0] 45)
 generalize w5.heap.size=b5 at *
 generalize w5.alloc (.cells #[.int .i64 0,.int .i64 0] 45)=w6 at *
 clear hF4 hG4 hP4 hF5 hG5 hB5 hBB4 hBB5 HW HW4 p0 p1 p2
 have a0:=hF6.cell 0; have a1:=hF6.cell 1; have b0:=hG6.cell 0; have b1':=hG6.cell 1; have c0:=hH6.cell 0; have c1:=hH6.cell 1
 simp only [List.getElem?_cons_zero,List.getElem?_cons_succ] at a0 a1 b0 b1' c0 c1
 go_wp2
 go_ret
 exact ⟨rfl,hBB6⟩
theorem counted_any (HD:WantsD) (w:World) (bx rate:Nat) (t a pat:ByteArray) (budget:Int) (hI:IdxOf w bx rate t.data.toList a) (hp:pat.size≤maxLen) (b0 : -9223372036854775808≤budget) (b1:budget≤9223372036854775807) :
    Calls Try.prog 42 #[pairV bx rate t,.string pat,.int .i64 budget] w fun e w'=>e=.returned (.bool true)∧Below w.heap.size w w':=by
 have hts:t.size≤200:=by rw [← size_len]; exact hI.len
 have HW:=fun w'=>HD w' bx rate t pat budget hts hp b0 b1
 by_cases hb:budget<0∨1048576<budget
 ·refine counted_fault w bx rate t a pat budget 2 0 hI (by decide) (fun w' h=>search_bad h pat budget true hp hb) (fun w'=>(HW w').mono ?_)
  rintro e w'' ⟨h1,h2⟩
  unfold WantsPost at h1
  rw [if_pos hb] at h1
  exact ⟨h1,h2⟩
 ·obtain ⟨n,rfl⟩:∃ n:Nat,budget=(n:Int):=⟨budget.toNat,by omega⟩
  cases hP:Q.parse (L pat) with
  | error x =>
   obtain ⟨E,At⟩:=x
   refine counted_fault w bx rate t a pat n E At hI (by have:=Q.parse_err hP; omega) (fun w' h=>search_err h pat n true hp E At hP (by omega)) (fun w'=>(HW w').mono ?_)
   rintro e w'' ⟨h1,h2⟩
   unfold WantsPost at h1
   rw [if_neg hb,hP] at h1
   exact ⟨h1,h2⟩
  | ok P =>
   have hw:∀ w',Calls Try.prog 57 #[pairV bx rate t,.string pat,.int .i64 (n:Int)] w' fun e w''=>(∃ pp cap,e=.returned (.tuple #[.slice pp (Q.hits t.data.toList P).length cap,.agg #[.int .i64 0,.int .i64 0],.int .i64 (Q.steps t.data.toList P false:Nat)]))∧Below w'.heap.size w' w'':=by
    intro w'
    refine (HW w').mono ?_
    rintro e w'' ⟨h1,h2⟩
    unfold WantsPost at h1
    rw [if_neg hb,hP] at h1
    obtain ⟨pp,cap,e1,_⟩:=h1
    exact ⟨⟨pp,cap,e1⟩,h2⟩
   by_cases hs:Q.steps t.data.toList P true≤n
   ·exact counted_ok w bx rate t a pat n (Q.hits t.data.toList P).length _ hI (fun w' h=>count_ok h pat n hp P hP hs (by omega)) (fun w' h=>exists_ok h pat n hp P hP hs (by omega)) hw
   ·have hm:=Q.steps_mono (t:=t.data.toList) (P:=P) true
    have hS:∀ w',IdxOf w' bx rate t.data.toList a→Calls Try.prog 24 #[.pointer (some ⟨bx,0,none⟩),.string pat,.int .i64 (n:Int),.bool true] w' fun e w''=>e=.returned (.tuple #[.slice none 0 0,.agg #[.int .i64 6,.int .i64 0]])∧Below w'.heap.size w' w'':=fun w' h=>search_no h pat n true hp P hP (by omega) (by omega)
    exact counted_budget w bx rate t a pat n (Q.hits t.data.toList P).length (Q.steps t.data.toList P false) (by omega) hI (fun w' h=>count_fault h pat n 6 0 hS) (fun w' h=>exists_fault h pat n 6 0 hS) hw
theorem search_nums {w:World} {b rate:Nat} {t:List UInt8} {a:ByteArray} (h:IdxOf w b rate t a) (pat:ByteArray) (budget:Nat) (memo:Bool) (hp:pat.size≤maxLen) (P:Q.Pat) (hP:Q.parse (L pat)=.ok P) (hb:Q.steps t P memo≤budget) (hb2:budget≤1048576) :
    Calls Try.prog 24 #[.pointer (some ⟨b,0,none⟩),.string pat,.int .i64 (budget:Int),.bool memo] w fun e w'=>∃ g,e=.returned (.tuple #[.slice (some ⟨g,0,none⟩) (Q.hits t P).length (Q.hits t P).length,.agg #[.int .i64 0,.int .i64 0]])∧w.heap.size≤g∧Nums .i64 w' g (natI (Q.hits t P))∧Below w.heap.size w w':=by
 have hs:=h.size
 have hl:=h.len
 refine (Search_any b rate (M.row t 0) a pat budget memo w h.idx (by omega) h.row hp).mono ?_
 rintro e w' ⟨he,hB⟩
 rw [L_def a,h.ah,Q.search_eq t (L pat) budget memo hb2,hP] at he
 simp only [if_pos hb] at he
 obtain ⟨g,e1,e2,e3⟩:=he
 exact ⟨g,e1,e2,e3,hB⟩
def ListMore (w w':World) (bw B kl km:Nat) (vx vr vl vm:Value) (xl xm:List Value):Prop :=
 ∃ (l:List Nat) (vl' vm':Value) (g c:Nat),l.length≤1000∧BlkT w' bw 59 [vx,vr,vl',vm']∧w'.ownsRow B 40 1 vl' (kl + 1) (xl ++ [.slice (some ⟨g,0,none⟩) l.length l.length])∧w'.ownsRow B 40 1 vm' (km + 1) (xm ++ [.slice (some ⟨c,0,none⟩) l.length l.length]) ∧
     Nums .i64 w' g (natI l)∧Nums .i64 w' c (natI l)∧g<c∧w.heap.size≤g∧vl'.ownBlock ≠ some bw∧vm'.ownBlock ≠ some bw∧(∀ b,vl'.ownBlock=some b→vm'.ownBlock ≠ some b)∧(∀ b,vl'.ownBlock=some b→vl.ownBlock=some b∨w.heap.size≤b)∧(∀ b,vm'.ownBlock=some b→vm.ownBlock=some b∨w.heap.size≤b)∧Keep (bw :: (vl.ownBlock.toList ++ vm.ownBlock.toList)) w w'
theorem searched_any (HD:WantsD) (w:World) (bw bx rate B kl km:Nat) (t a pat reg:ByteArray) (budget:Int) (memo:Bool) (vx vl vm:Value) (xl xm:List Value) (hI:IdxOf w bx rate t.data.toList a) (hp:pat.size≤maxLen) (b0 : -9223372036854775808≤budget) (b1:budget≤9223372036854775807)
    (hV:BlkT w bw 59 [vx,.string reg,vl,vm]) (hL:w.ownsRow B 40 1 vl kl xl) (hM:w.ownsRow B 40 1 vm km xm) (hkl:kl + 1≤100000000) (hkm:km + 1≤100000000) (hB:B≤w.heap.size) (hnl:vl.ownBlock ≠ some bw) (hnm:vm.ownBlock ≠ some bw) (hlm:∀ b,vl.ownBlock=some b→vm.ownBlock ≠ some b) :
    Calls Try.prog 41 #[.pointer (some ⟨bw,0,none⟩),pairV bx rate t,.string pat,.int .i64 budget,.bool memo] w fun e w'=>e=.returned (.bool true)∧(Below w.heap.size w w'∨ListMore w w' bw B kl km vx (.string reg) vl vm xl xm):=by
 have hts:t.size≤200:=by rw [← size_len]; exact hI.len
 have HW:=fun w'=>HD w' bx rate t pat budget hts hp b0 b1
 by_cases hb:budget<0∨1048576<budget
 ·refine (searched_fault w bw bx rate t a pat budget memo 2 0 hI (by decide) (fun w' h=>search_bad h pat budget memo hp hb) (fun w'=>(HW w').mono ?_)).mono (fun e w' h=>⟨h.1,.inl h.2⟩)
  rintro e w'' ⟨h1,h2⟩
  unfold WantsPost at h1
  rw [if_pos hb] at h1
  exact ⟨h1,h2⟩
 ·obtain ⟨n,rfl⟩:∃ n:Nat,budget=(n:Int):=⟨budget.toNat,by omega⟩
  cases hP:Q.parse (L pat) with
  | error x =>
   obtain ⟨E,At⟩:=x
   refine (searched_fault w bw bx rate t a pat n memo E At hI (by have:=Q.parse_err hP; omega) (fun w' h=>search_err h pat n memo hp E At hP (by omega)) (fun w'=>(HW w').mono ?_)).mono (fun e w' h=>⟨h.1,.inl h.2⟩)
   rintro e w'' ⟨h1,h2⟩
   unfold WantsPost at h1
   rw [if_neg hb,hP] at h1
   exact ⟨h1,h2⟩
  | ok P =>
   have hw:∀ w',Calls Try.prog 57 #[pairV bx rate t,.string pat,.int .i64 (n:Int)] w' fun e w''=>(∃ pp cap,e=.returned (.tuple #[.slice pp (Q.hits t.data.toList P).length cap,.agg #[.int .i64 0,.int .i64 0],.int .i64 (Q.steps t.data.toList P false:Nat)])∧SlI w'' (.slice pp (Q.hits t.data.toList P).length cap) (Q.hits t.data.toList P))∧Below w'.heap.size w' w'':=by
    intro w'
    refine (HW w').mono ?_
    rintro e w'' ⟨h1,h2⟩
    unfold WantsPost at h1
    rw [if_neg hb,hP] at h1
    exact ⟨h1,h2⟩
   by_cases hs:Q.steps t.data.toList P memo≤n
   ·have hpos:1≤Q.steps t.data.toList P memo:=Q.steps_pos
    have hll:(Q.hits t.data.toList P).length≤1000:=Q.hits_len _ _ hI.len
    refine (searched_ok w bw bx rate B kl km t a pat reg n memo (Q.steps t.data.toList P false) (Q.hits t.data.toList P) vx vl vm xl xm hI (by omega) (fun e=>by rw [e] at hs; omega) hll hV hL hM hkl hkm hB hnl hnm hlm
     (fun w' h=>search_nums h pat n memo hp P hP hs (by omega)) hw).mono ?_
    rintro e w' ⟨h1,vl',vm',g,c,h2⟩
    exact ⟨h1,.inr ⟨Q.hits t.data.toList P,vl',vm',g,c,hll,h2⟩⟩
   ·have hm:=Q.steps_mono (t:=t.data.toList) (P:=P) memo
    refine (searched_budget w bw bx rate t a pat n memo (Q.hits t.data.toList P).length (Q.steps t.data.toList P false) hI (by omega) (fun w' h=>search_no h pat n memo hp P hP (by omega) (by omega)) (fun w'=>(hw w').mono ?_)).mono (fun e w' h=>⟨h.1,.inl h.2⟩)
    rintro e w'' ⟨⟨pp,cap,e1,_⟩,h2⟩
    exact ⟨⟨pp,cap,e1⟩,h2⟩
end Go.Proofs.Ytjmkkkfloalliab
namespace Go.Proofs.Ytjmkkkfloalliab
set_option linter.unusedVariables false
open Go.RowKit
def pairsC (Pb Pr:Nat→Nat) (Pt:Nat→ByteArray) (k:Nat):List Value:=(List.range k).flatMap fun i=>pairC (Pb i) (Pr i) (Pt i)
def listsC (G:Nat→Nat) (X:Nat→List Int) (n:Nat):List Value:=(List.range n).map fun i=>.slice (some ⟨G i,0,none⟩) (X i).length (X i).length
def put1 {α:Type} (f:Nat→α) (n:Nat) (x:α):Nat→α:=fun i=>if i=n then x else f i
theorem put1_at {α:Type} (f:Nat→α) (n:Nat) (x:α):put1 f n x n=x:=by unfold put1; rw [if_pos rfl]
theorem put1_ne {α:Type} (f:Nat→α) {n i:Nat} (x:α) (h:i ≠ n):put1 f n x i=f i:=by unfold put1; rw [if_neg h]
theorem pairsC_len (Pb Pr:Nat→Nat) (Pt:Nat→ByteArray):∀ k,(pairsC Pb Pr Pt k).length=k * 3
 | 0=>rfl
 | k + 1=>by
  have:=pairsC_len Pb Pr Pt k
  unfold pairsC at *
  rw [List.range_succ,List.flatMap_append,List.length_append,this]
  simp [pairC]; omega
theorem pairsC_put (Pb Pr:Nat→Nat) (Pt:Nat→ByteArray) (k bx rate:Nat) (t:ByteArray):pairsC (put1 Pb k bx) (put1 Pr k rate) (put1 Pt k t) (k + 1)=pairsC Pb Pr Pt k ++ pairC bx rate t:=by
 unfold pairsC
 rw [List.range_succ,List.flatMap_append]
 congr 1
 ·rw [List.flatMap_def,List.flatMap_def]
  congr 1
  refine List.map_congr_left fun i hi=>?_
  have hi:i<k:=List.mem_range.1 hi
  rw [put1_ne _ _ (by omega),put1_ne _ _ (by omega),put1_ne _ _ (by omega)]
 ·simp [put1_at]
theorem listsC_len (G:Nat→Nat) (X:Nat→List Int) (n:Nat):(listsC G X n).length=n:=by simp [listsC]
theorem listsC_at (G:Nat→Nat) (X:Nat→List Int) {n i:Nat} (hi:i<n):(listsC G X n)[i]?=some (.slice (some ⟨G i,0,none⟩) (X i).length (X i).length):=by
 unfold listsC
 rw [List.getElem?_map,List.getElem?_range hi]; rfl
theorem listsC_put (G:Nat→Nat) (X:Nat→List Int) (n g:Nat) (l:List Int):listsC (put1 G n g) (put1 X n l) (n + 1)=listsC G X n ++ [.slice (some ⟨g,0,none⟩) l.length l.length]:=by
 unfold listsC
 rw [List.range_succ,List.map_append]
 congr 1
 ·refine List.map_congr_left fun i hi=>?_
  have hi:i<n:=List.mem_range.1 hi
  rw [put1_ne _ _ (by omega),put1_ne _ _ (by omega)]
 ·simp [put1_at]
theorem listsC_set (G:Nat→Nat) (X:Nat→List Int) (n r:Nat) (l:List Int) (hl:l.length=(X r).length):listsC G (put1 X r l) n=listsC G X n:=by
 unfold listsC
 refine List.map_congr_left fun i hi=>?_
 by_cases e:i=r
 ·subst e; rw [put1_at,hl]
 ·rw [put1_ne _ _ e]
structure WI (w:World) (B bw k n:Nat) (vx vl vm:Value) (reg:ByteArray) (Pb Pr:Nat→Nat) (Pt Pa:Nat→ByteArray) (G C:Nat→Nat) (X:Nat→List Int) (lab:Nat→Nat):Prop where
 mat:BlkT w bw 59 [vx,.string reg,vl,vm]
 hB:B≤bw
 xs:w.ownsRow B 78 3 vx k (pairsC Pb Pr Pt k)
 ls:w.ownsRow B 40 1 vl n (listsC G X n)
 lm:w.ownsRow B 40 1 vm n (listsC C X n)
 idx:∀ i,i<k→IdxOf w (Pb i) (Pr i) (Pt i).data.toList (Pa i)
 num:∀ i,i<n→(X i).length≤1000∧Nums .i64 w (G i) (X i)∧Nums .i64 w (C i) (X i)
 b1:lab bw=1
 b2:∀ b,vx.ownBlock=some b→lab b=2
 b3:∀ b,vl.ownBlock=some b→lab b=3
 b4:∀ b,vm.ownBlock=some b→lab b=4
 b0:∀ i,i<k→lab (Pb i)=0
 bg:∀ i,i<n→lab (G i)=5 + 2 * i
 bc:∀ i,i<n→lab (C i)=6 + 2 * i
 gB:∀ i,i<n→B≤G i∧B≤C i
def WS (w:World) (B bw m R:Nat):Prop:=∃ k n vx vl vm reg Pb Pr Pt Pa G C X lab,WI w B bw k n vx vl vm reg Pb Pr Pt Pa G C X lab∧k≤m∧n≤m∧reg.size≤R
variable {w w':World} {B bw k n m R:Nat} {vx vl vm:Value} {reg:ByteArray} {Pb Pr:Nat→Nat} {Pt Pa:Nat→ByteArray} {G C:Nat→Nat} {X:Nat→List Int} {lab:Nat→Nat}
theorem nums_keep {S:List Nat} {b:Nat} {xs:List Int} (h:Nums .i64 w b xs) (kk:Keep S w w') (hb:b ∉ S):Nums .i64 w' b xs:=Blk.of_heap h (kk.block b (Blk.lt h) hb)
theorem idx_keep {S:List Nat} {b rate:Nat} {t:List UInt8} {a:ByteArray} (h:IdxOf w b rate t a) (kk:Keep S w w') (hb:b ∉ S):IdxOf w' b rate t a:=⟨Blk.of_heap h.idx (kk.block b h.lt hb),h.ah,h.len,h.r1,h.r2⟩
theorem WI.below (h:WI w B bw k n vx vl vm reg Pb Pr Pt Pa G C X lab) (hb:Below w.heap.size w w'):WI w' B bw k n vx vl vm reg Pb Pr Pt Pa G C X lab:=by
 have kk:Keep [] w w':=Keep.of_below hb (Nat.le_refl _)
 exact ⟨h.mat.keep kk (by simp),h.hB,own_keep' h.xs kk (by simp),own_keep' h.ls kk (by simp),own_keep' h.lm kk (by simp),fun i hi=>idx_keep (h.idx i hi) kk (by simp),fun i hi=>⟨(h.num i hi).1,nums_keep (h.num i hi).2.1 kk (by simp),nums_keep (h.num i hi).2.2 kk (by simp)⟩,
  h.b1,h.b2,h.b3,h.b4,h.b0,h.bg,h.bc,h.gB⟩
theorem lab_no {lab:Nat→Nat} {b c x y:Nat} (h1:lab b=x) (h2:lab c=y) (hne:x ≠ y):b ∉ [c]:=fun hm=>by
 rw [List.mem_singleton] at hm
 subst hm
 exact hne (h1.symm.trans h2)
theorem WI.regAs (h:WI w B bw k n vx vl vm reg Pb Pr Pt Pa G C X lab) (kk:Keep [bw] w w') (reg':ByteArray) (hm:BlkT w' bw 59 [vx,.string reg',vl,vm]):WI w' B bw k n vx vl vm reg' Pb Pr Pt Pa G C X lab :=
 ⟨hm,h.hB,own_keep' h.xs kk (fun b hb=>lab_no (h.b2 b hb) h.b1 (by decide)),own_keep' h.ls kk (fun b hb=>lab_no (h.b3 b hb) h.b1 (by decide)),own_keep' h.lm kk (fun b hb=>lab_no (h.b4 b hb) h.b1 (by decide)),
  fun i hi=>idx_keep (h.idx i hi) kk (lab_no (h.b0 i hi) h.b1 (by decide)),fun i hi=>⟨(h.num i hi).1,nums_keep (h.num i hi).2.1 kk (lab_no (h.bg i hi) h.b1 (by omega)),nums_keep (h.num i hi).2.2 kk (lab_no (h.bc i hi) h.b1 (by omega))⟩,
  h.b1,h.b2,h.b3,h.b4,h.b0,h.bg,h.bc,h.gB⟩
theorem put1_old {α:Type} (f:Nat→α) {n i:Nat} (x:α) (h:i<n):put1 f n x i=f i:=put1_ne f x (by omega)
theorem own_has {w:World} {B size n g:Nat} {e:TypeId} {v x:Value} {xs vs:List Value} (h:w.ownsRow B e size v n xs) (hx:x ∈ xs) (hg:Blk w g vs) (hv:v.ownBlock=some g):x ∈ vs:=by
 obtain ⟨_,⟨rfl,_⟩ | ⟨g',cap,cur,rfl,_,hc,_,_,_,ht⟩⟩:=h
 ·cases hv
 ·cases hv
  obtain ⟨T,hT⟩:=hg
  have hc:w.heap[g']?=some (.cells cur e (0,0)):=hc
  have hT:w.heap[g']?=some (.cells vs.toArray T (0,0)):=hT
  rw [hc] at hT
  cases hT
  have:=List.mem_of_mem_take (by rw [ht]; exact hx)
  simpa using this
theorem own_nums {w:World} {B n g:Nat} {v:Value} {p:Option Addr} {a b:Nat} {xs:List Value} {l:List Int} (h:w.ownsRow B 40 1 v n (xs ++ [.slice p a b])) (hg:Nums .i64 w g l):v.ownBlock ≠ some g:=fun e=>by
 have:=own_has h (x:=.slice p a b) (by simp) hg e
 simp at this
theorem own_idx {w:World} {B n bx rate bx' rate':Nat} {v:Value} {xs:List Value} {t:ByteArray} {t':List UInt8} {a:ByteArray} (h:w.ownsRow B 78 3 v n (xs ++ pairC bx' rate' t)) (hg:IdxOf w bx rate t' a):v.ownBlock ≠ some bx:=fun e=>by
 have:=own_has h (x:=.pointer (some ⟨bx',0,none⟩)) (by simp [pairC]) hg.idx e
 simp at this
def labs (lab:Nat→Nat) (s:Nat) (f:Nat→Nat):Nat→Nat:=fun b=>if b<s then lab b else f b
theorem labs_old {lab:Nat→Nat} {s:Nat} {f:Nat→Nat} {b:Nat} (h:b<s):labs lab s f b=lab b:=by unfold labs; rw [if_pos h]
theorem labs_new {lab:Nat→Nat} {s:Nat} {f:Nat→Nat} {b:Nat} (h:s≤b):labs lab s f b=f b:=by unfold labs; rw [if_neg (by omega)]
theorem WI.pair (h:WI w B bw k n vx vl vm reg Pb Pr Pt Pa G C X lab) {vx':Value} {bx rate:Nat} {t a:ByteArray} (hm:BlkT w' bw 59 [vx',.string reg,vl,vm]) (ho:w'.ownsRow B 78 3 vx' (k + 1) (pairsC Pb Pr Pt k ++ pairC bx rate t))
    (hI:IdxOf w' bx rate t.data.toList a) (hbx:w.heap.size≤bx) (kk:Keep (bw :: vx.ownBlock.toList) w w') (hv:∀ b,vx'.ownBlock=some b→vx.ownBlock=some b∨w.heap.size≤b) :
    WI w' B bw (k + 1) n vx' vl vm reg (put1 Pb k bx) (put1 Pr k rate) (put1 Pt k t) (put1 Pa k a) G C X (labs lab w.heap.size fun b=>if b=bx then 0 else 2):=by
 have hz:∀ {b x:Nat},lab b=x→x ≠ 1→x ≠ 2→b ∉ bw :: vx.ownBlock.toList:=by
  intro b x hb h1 h2 hm
  rcases List.mem_cons.1 hm with e | e
  ·subst e; exact h1 (hb.symm.trans h.b1)
  ·exact h2 (hb.symm.trans (h.b2 b (by simpa using e)))
 have hne:=own_idx ho hI
 have lw:=h.mat.lt
 have ll:=own_lt' h.ls
 have lm:=own_lt' h.lm
 refine ⟨hm,h.hB,by rw [pairsC_put]; exact ho,own_keep' h.ls kk (fun b hb=>hz (h.b3 b hb) (by decide) (by decide)),own_keep' h.lm kk (fun b hb=>hz (h.b4 b hb) (by decide) (by decide)),fun i hi=>?_,fun i hi=>?_,?_,?_,?_,?_,?_,?_,?_,h.gB⟩
 ·rcases Nat.lt_or_ge i k with g | g
  ·rw [put1_old _ _ g,put1_old _ _ g,put1_old _ _ g,put1_old _ _ g]
   exact idx_keep (h.idx i g) kk (hz (h.b0 i g) (by decide) (by decide))
  ·obtain rfl:i=k:=by omega
   rw [put1_at,put1_at,put1_at,put1_at]
   exact hI
 ·obtain ⟨a1,a2,a3⟩:=h.num i hi
  exact ⟨a1,nums_keep a2 kk (hz (h.bg i hi) (by omega) (by omega)),nums_keep a3 kk (hz (h.bc i hi) (by omega) (by omega))⟩
 ·rw [labs_old lw]; exact h.b1
 ·intro b hb
  rcases hv b hb with g | g
  ·rw [labs_old (own_lt' h.xs b g).1]; exact h.b2 b g
  ·rw [labs_new g,if_neg (fun e=>hne (by rw [hb,e]))]
 ·intro b hb
  rw [labs_old (ll b hb).1]; exact h.b3 b hb
 ·intro b hb
  rw [labs_old (lm b hb).1]; exact h.b4 b hb
 ·intro i hi
  rcases Nat.lt_or_ge i k with g | g
  ·rw [put1_old _ _ g,labs_old (h.idx i g).lt]; exact h.b0 i g
  ·obtain rfl:i=k:=by omega
   rw [put1_at,labs_new hbx,if_pos rfl]
 ·intro i hi
  rw [labs_old (Blk.lt (h.num i hi).2.1)]; exact h.bg i hi
 ·intro i hi
  rw [labs_old (Blk.lt (h.num i hi).2.2)]; exact h.bc i hi
theorem WI.list (h:WI w B bw k n vx vl vm reg Pb Pr Pt Pa G C X lab) (hBw:B≤w.heap.size) (hl:ListMore w w' bw B n n vx (.string reg) vl vm (listsC G X n) (listsC C X n)) :
    ∃ vl' vm' G' C' X' lab',WI w' B bw k (n + 1) vx vl' vm' reg Pb Pr Pt Pa G' C' X' lab':=by
 obtain ⟨l,vl',vm',g,c,hll,hm,hol,hom,hg,hc,hgc,hgs,nl,nm,nlm,el,em,kk⟩:=hl
 have d1:=own_nums hol hg
 have d2:=own_nums hol hc
 have d3:=own_nums hom hg
 have d4:=own_nums hom hc
 have hz:∀ {b x:Nat},lab b=x→x ≠ 1→x ≠ 3→x ≠ 4→b ∉ bw :: (vl.ownBlock.toList ++ vm.ownBlock.toList):=by
  intro b x hb h1 h2 h3 hm
  rcases List.mem_cons.1 hm with e | e
  ·subst e; exact h1 (hb.symm.trans h.b1)
  ·rcases List.mem_append.1 e with e | e
   ·exact h2 (hb.symm.trans (h.b3 b (by simpa using e)))
   ·exact h3 (hb.symm.trans (h.b4 b (by simpa using e)))
 have lw:=h.mat.lt
 have nat_len:(natI l).length=l.length:=natI_len l
 refine ⟨vl',vm',put1 G n g,put1 C n c,put1 X n (natI l),labs lab w.heap.size fun b=>if b=g then 5 + 2 * n else if b=c then 6 + 2 * n else if vl'.ownBlock=some b then 3 else 4,?_⟩
 refine ⟨hm,h.hB,own_keep' h.xs kk (fun b hb=>hz (h.b2 b hb) (by decide) (by decide) (by decide)),by rw [listsC_put,nat_len]; exact hol,by rw [listsC_put,nat_len]; exact hom,fun i hi=>idx_keep (h.idx i hi) kk (hz (h.b0 i hi) (by decide) (by decide) (by decide)),fun i hi=>?_,?_,?_,?_,?_,?_,?_,?_,?_⟩
 ·rcases Nat.lt_or_ge i n with q | q
  ·rw [put1_old _ _ q,put1_old _ _ q,put1_old _ _ q]
   obtain ⟨a1,a2,a3⟩:=h.num i q
   exact ⟨a1,nums_keep a2 kk (hz (h.bg i q) (by omega) (by omega) (by omega)),nums_keep a3 kk (hz (h.bc i q) (by omega) (by omega) (by omega))⟩
  ·obtain rfl:i=n:=by omega
   rw [put1_at,put1_at,put1_at]
   exact ⟨by rw [nat_len]; exact hll,hg,hc⟩
 ·rw [labs_old lw]; exact h.b1
 ·intro b hb
  rw [labs_old (own_lt' h.xs b hb).1]; exact h.b2 b hb
 ·intro b hb
  rcases el b hb with q | q
  ·rw [labs_old (own_lt' h.ls b q).1]; exact h.b3 b q
  ·rw [labs_new q,if_neg (fun e=>d1 (by rw [hb,e])),if_neg (fun e=>d2 (by rw [hb,e])),if_pos hb]
 ·intro b hb
  rcases em b hb with q | q
  ·rw [labs_old (own_lt' h.lm b q).1]; exact h.b4 b q
  ·rw [labs_new q,if_neg (fun e=>d3 (by rw [hb,e])),if_neg (fun e=>d4 (by rw [hb,e])),if_neg (fun e=>nlm b e hb)]
 ·intro i hi
  rw [labs_old (h.idx i hi).lt]; exact h.b0 i hi
 ·intro i hi
  rcases Nat.lt_or_ge i n with q | q
  ·rw [put1_old _ _ q,labs_old (Blk.lt (h.num i q).2.1)]; exact h.bg i q
  ·obtain rfl:i=n:=by omega
   rw [put1_at,labs_new hgs,if_pos rfl]
 ·intro i hi
  rcases Nat.lt_or_ge i n with q | q
  ·rw [put1_old _ _ q,labs_old (Blk.lt (h.num i q).2.2)]; exact h.bc i q
  ·obtain rfl:i=n:=by omega
   rw [put1_at,labs_new (by omega),if_neg (by omega),if_pos rfl]
 ·intro i hi
  rcases Nat.lt_or_ge i n with q | q
  ·rw [put1_old _ _ q,put1_old _ _ q]; exact h.gB i q
  ·obtain rfl:i=n:=by omega
   rw [put1_at,put1_at]; exact ⟨by omega,by omega⟩
theorem WI.cell (h:WI w B bw k n vx vl vm reg Pb Pr Pt Pa G C X lab) {r j:Nat} {c:Int} (hr:r<n) (kk:Keep [G r,C r] w w') (hg:Nums .i64 w' (G r) ((X r).set j c)) (hc:Nums .i64 w' (C r) ((X r).set j c)):WI w' B bw k n vx vl vm reg Pb Pr Pt Pa G C (put1 X r ((X r).set j c)) lab:=by
 have hl:((X r).set j c).length=(X r).length:=List.length_set ..
 have hz:∀ {b x:Nat},lab b=x→x ≠ 5 + 2 * r→x ≠ 6 + 2 * r→b ∉ [G r,C r]:=by
  intro b x hb h1 h2 hm
  rcases List.mem_cons.1 hm with e | e
  ·subst e; exact h1 (hb.symm.trans (h.bg r hr))
  ·rw [List.mem_singleton] at e
   subst e; exact h2 (hb.symm.trans (h.bc r hr))
 refine ⟨h.mat.keep kk (hz h.b1 (by omega) (by omega)),h.hB,own_keep' h.xs kk (fun b hb=>hz (h.b2 b hb) (by omega) (by omega)),by rw [listsC_set _ _ _ _ _ hl]; exact own_keep' h.ls kk (fun b hb=>hz (h.b3 b hb) (by omega) (by omega)),by rw [listsC_set _ _ _ _ _ hl]; exact own_keep' h.lm kk (fun b hb=>hz (h.b4 b hb) (by omega) (by omega)),
  fun i hi=>idx_keep (h.idx i hi) kk (hz (h.b0 i hi) (by omega) (by omega)),fun i hi=>?_,h.b1,h.b2,h.b3,h.b4,h.b0,h.bg,h.bc,h.gB⟩
 by_cases e:i=r
 ·subst e
  rw [put1_at]
  exact ⟨by rw [hl]; exact (h.num i hi).1,hg,hc⟩
 ·rw [put1_ne _ _ e]
  obtain ⟨a1,a2,a3⟩:=h.num i hi
  exact ⟨a1,nums_keep a2 kk (hz (h.bg i hi) (by omega) (by omega)),nums_keep a3 kk (hz (h.bc i hi) (by omega) (by omega))⟩
end Go.Proofs.Ytjmkkkfloalliab
namespace Go.Proofs.Ytjmkkkfloalliab
set_option linter.unusedVariables false
open Go.RowKit
set_option maxRecDepth 100000 in
set_option maxHeartbeats 400000 in
theorem rtwo_any (v:Nat) (w:World) (h1:v≤65535) :
    Calls Try.prog 76 #[.int .i64 v] w fun e w'=>∃ s:ByteArray,e=.returned (.string s)∧Hid (s.data.toList=two v)∧s.size=2∧Below w.heap.size w w':=by
 have hr:Sem.run Try.prog (convert 75 9 (.slice (some ⟨w.heap.size,0,none⟩) 2 2)) (w.alloc (.cells #[.int .u8 ((v:Int) / 256),.int .u8 ((v:Int) % 256)] 5))=.ok (.string (strOfNums [(v:Int) / 256,(v:Int) % 256])) (w.alloc (.cells #[.int .u8 ((v:Int) / 256),.int .u8 ((v:Int) % 256)] 5)):=by
  refine run_convert_bytes_arg (w.alloc (.cells #[.int .u8 ((v:Int) / 256),.int .u8 ((v:Int) % 256)] 5)) 75 5 Try.underlying75 Try.underlying5 w.heap.size 0 2 2 [(v:Int) / 256,(v:Int) % 256] rfl ?_ 9 Try.underlying9
  intro i hi
  rw [(Blk.new w #[.int .u8 ((v:Int) / 256),.int .u8 ((v:Int) % 256)] 5).cell? (0 + i)]
  match i,hi with
  | 0,_=>rfl
  | 1,_=>rfl
 go_enter Try.func76,Try.ntmps76
 go_wp2
 go_ret
 refine ⟨_,rfl,?_,rfl,(Below.refl _ _).alloc (Nat.le_refl _) _⟩
 show _=_
 simp only [strOfNums,two,List.map_cons,List.map_nil]
 rw [show ((v:Int) / 256).toNat=v / 256 from by omega,show ((v:Int) % 256).toNat=v % 256 from by omega]
def nat (l:List Nat):List Int:=l.map fun (n:Nat)=>(n:Int)
theorem nat_length (l:List Nat):(nat l).length=l.length:=by simp [nat]
theorem nat_at (l:List Nat) (i:Nat):(nat l).getD i 0=((l.getD i 0:Nat):Int):=by
 unfold nat
 rw [List.getD_eq_getElem?_getD,List.getD_eq_getElem?_getD,List.getElem?_map]
 cases l[i]? <;> rfl
theorem nat_set (l:List Nat) (i n:Nat):(nat l).set i (n:Int)=nat (l.set i n):=by simp [nat,List.map_set]
set_option maxRecDepth 100000 in
set_option maxHeartbeats 1600000 in
theorem order_any (t:ByteArray) (w:World) (h0:t.size≤1000) :
    Calls Try.prog 75 #[.string t] w fun e w'=>∃ (g cap:Nat) (l:List Nat),e=.returned (.slice (some ⟨g,0,none⟩) (t.size + 1) cap)∧w.heap.size≤g∧IRow w' g cap (nat l)∧Hid (M.IsOrd t.data.toList l)∧Below w.heap.size w w':=by
 obtain ⟨i0,hi,hz0,hz1,hz2⟩:=info_int
 have HL:Hid (t.data.toList.length=t.size):=size_len t
 go_enter Try.func75,Try.ntmps75
 go_wp2
 go_loopw [3,4] (fun v i wr=>∃ (k:Nat) (l:List Nat),k≤t.size + 1∧i=.int .i64 k∧wr.ownsRow w.heap.size 3 1 v l.length (ints (nat l))∧Hid (l.length=k)∧Hid (M.srt t.data.toList l)∧Hid (l.Perm (List.range k))∧Below w.heap.size w wr) (fun _ i _=>t.size + 1 - (intOf i).toNat)
 case atStart=>exact ⟨0,[],by omega,rfl,World.ownsRow_nil _ _ _ _,rfl,List.Pairwise.nil,List.Perm.refl _,Below.refl _ _⟩
 case round =>
  obtain ⟨k,l,hk,rfl,hown,HK,HS,HP,hb⟩:=hrel
  by_cases hlt:k≤t.size
  ·have hll:l.length≤1000:=by rw [HK.out]; omega
   go_wp2_with ((at_builtin; refine wpList_append_own _ rfl _ _ 40 rfl w.heap.size 3 i0 (.int .i64 0) 1 8 Try.underlying40 hi hz0 hz1 hz2 rfl (by decide) _ _ _ rfl (hown.alloc _) ⟨wr.heap.size,0,none⟩ 1 1 [.int .i64 k] rfl rfl ?c1 ?c2 ?c3 ?c4 ?c5 ?_))
   case c1 =>
    intro j u hj
    match j,hj with
    | 0,hj=>simp at hj; subst hj; simp [Addr.add]
   case c2=>intro u hu; simp at hu; subst hu; rfl
   case c3=>unfold maxLen; omega
   case c4=>omega
   case c5=>have:=hb.size; simp; omega
   ·intro v' w1 hown' hgrow hnil
    have hb1:Below w.heap.size w w1:=below_grown (hb.alloc hb.size _) hgrow (by have:=hb.size; simp; omega) (hown.alloc _) (Nat.le_refl _)
    obtain ⟨g,cap,rfl,hbg,hrow0⟩:=own_open hown' hnil
    have hrow:IRow w1 g cap (nat (M.insAt l l.length k)):=by
     rw [M.insAt_end]
     unfold IRow
     have e1:(nat (l ++ [k])).length=l.length + 1:=by rw [nat_length,List.length_append]; rfl
     have e2:ints (nat (l ++ [k]))=ints (nat l) ++ [.int .i64 k]:=by simp [ints,nat]
     rw [e1,e2]
     exact hrow0
    clear hnil hown' hrow0 hgrow hb hown
    go_wp2
    have HM:Hid (∀ q,q ∈ l→q<k):=fun q hq=>List.mem_range.1 (HP.out.mem_iff.1 hq)
    go_loopw [5] (fun j w2=>∃ m:Nat,m≤l.length∧j=.int .i64 m∧IRow w2 g cap (nat (M.insAt l m k))∧Hid (∀ q,q ∈ l.drop m→M.blt (t.data.toList.drop k) (t.data.toList.drop q)=true)∧Below w.heap.size w w2) (fun j _=>(intOf j).toNat)
    case atStart =>
     refine ⟨l.length,Nat.le_refl _,by go_num,hrow,?_,hb1⟩
     intro q hq
     simp at hq
    case round =>
     clear hrow hb1
     obtain ⟨m,hm,rfl,hrow,HA,hb1⟩:=hrel
     have EN:Hid ((m=0∨M.blt (t.data.toList.drop (l.getD (m - 1) 0)) (t.data.toList.drop k)=true)→M.srt t.data.toList (M.insAt l m k)∧(M.insAt l m k).Perm (List.range (k + 1))∧(M.insAt l m k).length=k + 1):=by
      intro h
      refine ⟨M.insAt_srt _ _ _ _ HS.out hm HA.out h,?_,by rw [M.insAt_length _ _ _ hm,HK.out]⟩
      refine (M.insAt_perm l m k).trans ?_
      rw [List.range_succ]
      exact (List.Perm.cons k HP.out).trans (List.perm_append_singleton k _).symm
     by_cases hm0:m=0
     ·subst hm0
      obtain ⟨E1,E2,E3⟩:=EN.out (.inl rfl)
      have H1:Hid _:=E1
      have H2:Hid _:=E2
      have H3:Hid _:=E3
      clear E1 E2 E3 EN
      go_wp2
      go_quiet (fail)
      go_wp2
      refine ⟨⟨k + 1,M.insAt l 0 k,by omega,by go_num,?_,H3,H1,H2,below_drewN hb1 _⟩,by simp [intOf]; omega⟩
      have e3:l.length + 1=(M.insAt l 0 k).length:=by rw [M.insAt_length _ _ _ hm]
      rw [e3]
      have:=RowAt.own (RowAt.drewN hrow nq) hbg
      rw [nat_length] at this
      exact this
     ·obtain ⟨p,rfl⟩:∃ p,m=p + 1:=⟨m - 1,by omega⟩
      have hpl:p<l.length:=by omega
      have c1:=hrow.cell (p + 1) (by rw [nat_length,M.insAt_length _ _ _ hm]; omega)
      have c2:=hrow.cell p (by rw [nat_length,M.insAt_length _ _ _ hm]; omega)
      rw [nat_at,M.insAt_at _ _ _ hm] at c1
      rw [nat_at,M.insAt_before _ _ _ hpl] at c2
      have hql:l.getD p 0<k:=HM.out _ (by rw [List.getD_eq_getElem?_getD,List.getElem?_eq_getElem hpl]; exact List.getElem_mem hpl)
      have f1:=RowAt.frozen hrow (p + 1)
      have f2:=RowAt.frozen hrow p
      have HD:Hid (l.drop p=l.getD p 0 :: l.drop (p + 1)):=by
       show _=_
       rw [List.drop_eq_getElem_cons hpl,List.getD_eq_getElem?_getD,List.getElem?_eq_getElem hpl]; rfl
      have HW:Hid (IRow wr g cap (nat (M.insAt l (p + 1) k))→∀ W:World,Below wr.heap.size wr W→True):=fun _ _ _=>trivial
      have HSW:Hid (((M.insAt l (p + 1) k).set (p + 1) (l.getD p 0)).set p k=M.insAt l p k):=M.insAt_swap l p k hpl
      have HNE:Hid (l.getD p 0 ≠ k):=by show _ ≠ _; omega
      have ENB:Hid (M.blt (t.data.toList.drop (l.getD p 0)) (t.data.toList.drop k)=true→_):=fun h=>EN.out (.inr h)
      clear HW EN
      generalize l.getD p 0=q at c2 hql HD HSW ENB HNE
      have hqt:q≤t.size:=by omega
      have q1:(q:Int)≤(t.size:Int):=by omega
      have k1:(k:Int)≤(t.size:Int):=by omega
      have pi1:(p:Int) + 1<(l.length:Int) + 1:=by omega
      have pi2:(p:Int)<(l.length:Int) + 1:=by omega
      have pi3:(0:Int)≤(p:Int) + 1:=by omega
      have pi4:(p:Int)<(l.length:Int):=by omega
      have HE:Hid (Op.bytesLess (t.extract k t.size).toList (t.extract q t.size).toList=M.blt (t.data.toList.drop k) (t.data.toList.drop q)):=by
       show _=_
       rw [extract_toList,extract_toList,bytesLess_eq]
      go_wp2
      go_quiet (fail)
      rw [HE.out]
      cases hbl:M.blt (t.data.toList.drop k) (t.data.toList.drop q) with
      | true =>
       have HBL:Hid _:=hbl
       clear hbl HE ENB
       go_wp2
       go_roundw
       case rel =>
        refine ⟨p,by omega,rfl,?_,?_,((below_drewN hb1 _).setCell hbg _).setCell hbg _⟩
        ·rw [← HSW.out,← nat_set,← nat_set]
         exact IRow.set (IRow.set (RowAt.drewN hrow nq) _ _) _ _
        ·intro x hx
         rw [HD.out] at hx
         rcases List.mem_cons.1 hx with rfl | hx
         ·exact HBL.out
         ·exact HA.out x hx
       case measure=>simp [intOf]
      | false =>
       have hlt2:M.blt (t.data.toList.drop q) (t.data.toList.drop k)=true:=by
        refine M.blt_total _ _ (M.drop_ne _ _ _ (by rw [HL.out]; exact hlt) (by rw [HL.out]; exact hqt) (fun e=>HNE.out e.symm)) hbl
       obtain ⟨E1,E2,E3⟩:=ENB.out hlt2
       have H1:Hid _:=E1
       have H2:Hid _:=E2
       have H3:Hid _:=E3
       clear E1 E2 E3 ENB hbl hlt2 HE
       go_wp2
       refine ⟨⟨k + 1,M.insAt l (p + 1) k,by omega,by go_num,?_,H3,H1,H2,below_drewN hb1 _⟩,by simp [intOf]; omega⟩
       have e3:l.length + 1=(M.insAt l (p + 1) k).length:=by rw [M.insAt_length _ _ _ hm]
       rw [e3]
       have:=RowAt.own (RowAt.drewN hrow nq) hbg
       rw [nat_length] at this
       exact this
  ·have hk2:k=t.size + 1:=by omega
   subst hk2
   have hne:u3 ≠ .slice none 0 0:=by
    intro e
    subst e
    have:=hown.1
    rw [ints_length,nat_length,HK.out] at this
    obtain ⟨_,⟨_,h⟩ | ⟨g,cap,cur,h,_⟩⟩:=hown
    ·rw [HK.out] at h; omega
    ·cases h
   obtain ⟨g,cap,rfl,hbg,hrow⟩:=own_open hown hne
   have HO:Hid (M.IsOrd t.data.toList l):=M.IsOrd.of _ _ HS.out (by rw [HL.out]; exact HP.out)
   have hrow2:IRow wr g cap (nat l):=by
    unfold IRow
    rw [nat_length]
    exact hrow
   clear hrow hne hown HS HP
   rw [HK.out]
   go_wp2
   go_ret
   exact ⟨g,cap,l,rfl,hbg,hrow2,HO,hb⟩
def rowsUp (t:List UInt8) (i:Nat):List Int:=(List.range (t.length + 1)).map fun p=>if M.row t p<i then (M.row t p:Int) else 0
theorem rowsUp_zero (t:List UInt8):rowsUp t 0=List.replicate (t.length + 1) 0:=by
 unfold rowsUp
 rw [List.eq_replicate_iff]
 simp
theorem rowsUp_length (t:List UInt8) (k:Nat):(rowsUp t k).length=t.length + 1:=by simp [rowsUp]
theorem rowsUp_set (t:List UInt8) (l:List Nat) (h:M.IsOrd t l) (i:Nat) (hi:i≤t.length):(rowsUp t i).set (l.getD i 0) (i:Int)=rowsUp t (i + 1):=by
 obtain ⟨h1,h2⟩:=h.2 i hi
 apply List.ext_getElem
 ·simp [rowsUp]
 ·intro p g1 g2
  have hp:p≤t.length:=by rw [rowsUp_length] at g2; omega
  rw [List.getElem_set]
  simp only [rowsUp,List.getElem_map,List.getElem_range]
  by_cases e:l.getD i 0=p
  ·rw [if_pos e,← e,h2,if_pos (by omega)]
  ·rw [if_neg e]
   have hne:M.row t p ≠ i:=fun e2=>e (by rw [← e2]; exact h.at_row p hp)
   by_cases h3:M.row t p<i
   ·rw [if_pos h3,if_pos (by omega)]
   ·rw [if_neg h3,if_neg (by omega)]
theorem rowsUp_all (t:List UInt8):rowsUp t (t.length + 1)=rowsL t:=by
 unfold rowsUp rowsL
 refine List.map_congr_left (fun p hp=>?_)
 have:=M.row_le t p (by have:=List.mem_range.1 hp; omega)
 rw [if_pos (by omega)]
def firstUp (t:List UInt8) (k:Nat):Nat:=if M.row t 0<k then M.row t 0 else 0
theorem rowsOf_getD (t:List UInt8) (p:Nat) (hp:p≤t.length):(M.rowsOf (M.ahead t) (M.row t 0)).getD p 0=M.row t p:=by
 rw [M.rowsOf_ahead,List.getD_eq_getElem?_getD,List.getElem?_map,List.getElem?_range (by omega)]; rfl
set_option maxRecDepth 100000 in
set_option maxHeartbeats 1600000 in
theorem rsaved_any (t:ByteArray) (rate:Nat) (w:World) (h0:t.size≤1000) (hr1:1≤rate) (hr2:rate≤255) :
    Calls Try.prog 62 #[.string t,.int .i64 rate] w fun e w'=>∃ s:ByteArray,e=.returned (.string s)∧Hid (s.data.toList=saveL (M.ahead t.data.toList) (M.row t.data.toList 0) rate)∧Below w.heap.size w w':=by
 have HL:Hid (t.data.toList.length=t.size):=size_len t
 have hrow0:=row0_le t.data.toList
 rw [HL.out] at hrow0
 go_enter Try.func62,Try.ntmps62
 go_wp2_with fail
 refine (order_any t _ h0).mono ?_
 rintro e w1 ⟨g,cap,l,rfl,hg,hl,HO,hb1⟩
 have hm:=make_ints ((t.size:Int) + 1) (t.size + 1) (by omega) (by omega)
 have hgl:=RowAt.lt hl
 have HLL:Hid ((nat l).length=t.size + 1):=by show _=_; rw [nat_length,HO.out.1,HL.out]
 go_wp2_with fail
 clear hm
 have hs1:=hb1.size
 go_loopw [6,7,9] (fun f s i wr=>∃ (k:Nat) (la:ByteArray),k≤t.size + 1∧i=.int .i64 k∧f=.int .i64 (firstUp t.data.toList k:Nat)∧s=.string la∧Hid (la.data.toList=(M.ahead t.data.toList).take (M.sl (M.row t.data.toList 0) k))∧la.size≤k ∧
     IRow wr g cap (nat l)∧Nums .i64 wr w1.heap.size (rowsUp t.data.toList k)∧Below w.heap.size w wr) (fun _ _ i _=>t.size + 1 - (intOf i).toNat)
 case atStart =>
  refine ⟨0,⟨#[]⟩,by omega,rfl,rfl,rfl,?_,by decide,RowAt.alloc hl _,?_,hb1.alloc hs1 _⟩
  ·show _=_
   have:M.sl (M.row t.data.toList 0) 0=0:=by unfold M.sl; split <;> omega
   rw [this,List.take_zero]
  ·rw [rowsUp_zero,HL.out]
   exact Nums.new _ _ _ _
 case round =>
  obtain ⟨k,la,hk,rfl,rfl,rfl,HLA,hla,hlr,hrw,hb⟩:=hrel
  by_cases hlt:k<t.size + 1
  ·have c1:=hlr.cell k (by rw [HLL.out]; exact hlt)
   rw [nat_at] at c1
   obtain ⟨o1,o2⟩:=HO.out.2 k (by rw [HL.out]; omega)
   rw [HL.out] at o1
   have c2:=hrw.cell (l.getD k 0) (by rw [rowsUp_length,HL.out]; omega)
   have f2:=Blk.frozen hrw (l.getD k 0)
   have HRS:Hid ((rowsUp t.data.toList k).set (l.getD k 0) (k:Int)=rowsUp t.data.toList (k + 1)):=rowsUp_set _ _ HO.out k (by rw [HL.out]; omega)
   have HR2:Hid (M.row t.data.toList (l.getD k 0)=k):=o2
   have AT:Hid (l.getD k 0 ≠ 0→_):=M.ahead_take t.data.toList l HO.out k (by rw [HL.out]; omega)
   have AS:Hid (l.getD k 0=0→_):=M.ahead_skip t.data.toList l HO.out k (by rw [HL.out]; omega)
   clear o2
   generalize l.getD k 0=p at c1 o1 c2 f2 HRS HR2 AT AS
   have hne:g ≠ w1.heap.size:=by omega
   by_cases hp0:p=0
   ·subst hp0
    obtain ⟨s1,s2⟩:=AS.out rfl
    have HS1:Hid _:=s1
    have HS2:Hid _:=s2
    have HF:Hid (firstUp t.data.toList (k + 1)=k):=by show _=_; unfold firstUp; rw [← HS1.out,if_pos (by omega)]
    clear s1 s2 AT AS
    go_wp2
    go_roundw
    case rel =>
     refine ⟨k + 1,la,by omega,by go_num,by rw [HF.out],rfl,?_,by omega,RowAt.other hlr (by simp; omega) _,?_,hb.setCell (by simp; omega) _⟩
     ·show _=_
      rw [HS2.out,HLA.out]
     ·rw [← HRS.out]
      exact hrw.set _ _
    case measure=>simp [intOf]; omega
   ·obtain ⟨q,rfl⟩:∃ q,p=q + 1:=⟨p - 1,by omega⟩
    have hat:=AT.out (by omega)
    have HAT:Hid _:=hat
    have HF:Hid (firstUp t.data.toList (k + 1)=firstUp t.data.toList k):=by
     show _=_
     have:k ≠ M.row t.data.toList 0:=fun e=>by
      have:=M.row_inj t.data.toList (q + 1) 0 (by rw [HL.out]; omega) (by omega) (by rw [HR2.out,e])
      omega
     unfold firstUp
     by_cases h3:M.row t.data.toList 0<k
     ·rw [if_pos h3,if_pos (by omega)]
     ·rw [if_neg h3,if_neg (by omega)]
    clear hat AT AS
    have hq:q<t.size:=by omega
    obtain ⟨tq,HTQ,hzq,hsl⟩:∃ tq:ByteArray,Hid (tq.data.toList=[t.data.toList.getD q 0])∧tq.size=1∧∀ W,Sem.run Try.prog (Instr.slice 9 (.string t) (some (.int .i64 (q:Int))) (some (.int .i64 ((q:Int) + 1))) none) W=.ok (.string tq) W:=by
     refine ⟨t.extract q (q + 1),?_,?_,?_⟩
     ·show _=_
      rw [Lib.extract_data,show q + 1 - q=1 from by omega,List.drop_eq_getElem_cons (by rw [HL.out]; exact hq),List.take_succ_cons,List.take_zero,List.getD_eq_getElem?_getD,List.getElem?_eq_getElem (by rw [HL.out]; exact hq)]
      rfl
     ·rw [ByteArray.size_extract]; omega
     ·intro W
      have:=run_slice_string (P:=Try.prog) W 9 t .i64 .i64 (q:Int) ((q:Int) + 1) Try.underlying9 (by omega) (by omega) (by omega)
      rw [show ((q:Int) + 1).toNat=q + 1 from by omega,Int.toNat_natCast] at this
      exact this
    have hne0:((q:Int) + 1 == 0)=false:=by simp; omega
    have ki:(k:Int)<(t.size:Int) + 1:=by omega
    have c1':((wr.setCell ⟨w1.heap.size,q + 1,none⟩ (.int .i64 k))).cell? ⟨g,k,none⟩=some (.int .i64 ((q + 1:Nat):Int)):=by
     rw [World.cell?_setCell_other _ _ _ _ (fun e=>hne (by cases e; rfl))]; exact c1
    go_wp2
    go_quiet (fail)
    go_wp2
    go_roundw
    case rel =>
     refine ⟨k + 1,la ++ tq,by omega,by go_num,by rw [HF.out],rfl,?_,?_,RowAt.drewN (RowAt.other hlr (by simp; omega) _) _,?_,below_drewN (hb.setCell (by simp; omega) _) _⟩
     ·show _=_
      rw [app_list,HAT.out,HTQ.out,HLA.out]; rfl
     ·rw [ByteArray.size_append,hzq]; omega
     ·rw [← HRS.out]
      exact Blk.drewN (hrw.set _ _) _
    case measure=>simp [intOf]; omega
  ·have hk2:k=t.size + 1:=by omega
   subst hk2
   have HFF:Hid (firstUp t.data.toList (t.size + 1)=M.row t.data.toList 0):=by show _=_; unfold firstUp; rw [if_pos (by omega)]
   have HAL:Hid (la.data.toList=M.ahead t.data.toList):=by
    show _=_
    rw [HLA.out,List.take_of_length_le]
    rw [M.ahead_length,HL.out]; unfold M.sl; rw [if_pos (by omega)]; omega
   have hrw2:Nums .i64 wr w1.heap.size (rowsL t.data.toList):=by rw [← rowsUp_all,HL.out]; exact hrw
   rw [HFF.out]
   clear hrw HLA HFF hlt hlr hl hk
   go_wp2_with fail
   refine (rtwo_any _ _ (by omega)).mono ?_
   rintro e w2 ⟨s1,rfl,hs1,hz1,hb2⟩
   go_wp2_with fail
   refine (rtwo_any _ _ (by omega)).mono ?_
   rintro e w3 ⟨s2,rfl,hs2,hz2,hb3⟩
   have hr3:Nums .i64 w3 w1.heap.size (rowsL t.data.toList):=Blk.below (Blk.below hrw2 hb2 (Blk.lt hrw2)) hb3 (Nat.lt_of_lt_of_le (Blk.lt hrw2) hb2.size)
   have hb4:Below w.heap.size w w3:=(hb.trans (hb2.mono hb.size)).trans (hb3.mono (Nat.le_trans hb.size hb2.size))
   clear hrw2 hb hb2 hb3
   obtain ⟨r1,HR1,hzr,hcv⟩:∃ r1:ByteArray,Hid (r1.data.toList=[UInt8.ofNat rate])∧r1.size=1∧Sem.run Try.prog (convert 75 9 (.slice (some ⟨w3.heap.size,0,none⟩) 1 1)) (w3.alloc (.cells #[.int .u8 rate] 5))=.ok (.string r1) (w3.alloc (.cells #[.int .u8 rate] 5)):=by
    refine ⟨strOfNums [(rate:Int)],rfl,rfl,?_⟩
    refine run_convert_bytes_arg (w3.alloc (.cells #[.int .u8 rate] 5)) 75 5 Try.underlying75 Try.underlying5 w3.heap.size 0 1 1 [(rate:Int)] rfl ?_ 9 Try.underlying9
    intro i hi
    rw [(Blk.new w3 #[.int .u8 rate] 5).cell? (0 + i)]
    match i,hi with
    | 0,_=>rfl
   go_wp2_with fail
   clear hcv
   have hr5:Nums .i64 (w3.alloc (.cells #[.int .u8 rate] 5)) w1.heap.size (rowsL t.data.toList):=Blk.alloc hr3 _
   have hb5:=hb4.alloc hb4.size (.cells #[.int .u8 rate] 5)
   clear hr3 hb4
   generalize w3.alloc (.cells #[.int .u8 rate] 5)=w5 at hr5 hb5 ⊢
   obtain ⟨sh,HSH,hshz,hsh⟩:∃ sh:ByteArray,Hid (sh.data.toList=saveHead (M.ahead t.data.toList) (M.row t.data.toList 0) rate)∧sh.size≤1020∧({ data:=#[102,109,105,49] } ++ s1 ++ r1 ++ s2 ++ la:ByteArray)=sh:=by
    refine ⟨_,?_,?_,rfl⟩
    ·show _=_
     rw [app_list,app_list,app_list,app_list,hs1.out,hs2.out,HR1.out,HAL.out]
     unfold saveHead
     rw [M.ahead_length,HL.out]
     rfl
    ·rw [ByteArray.size_append,ByteArray.size_append,ByteArray.size_append,ByteArray.size_append,hz1,hz2,hzr]
     have:(ByteArray.mk #[102,109,105,49]).size=4:=rfl
     omega
   rw [hsh]
   clear hsh
   go_loopw [12,13] (fun s i w6=>∃ (k p:Nat) (sk:ByteArray),i=.int .i64 p∧s=.string sk∧Hid (p=k * rate)∧p<t.size + 1 + rate∧k≤p∧Hid (sk.data.toList=saveHead (M.ahead t.data.toList) (M.row t.data.toList 0) rate ++ samp (M.rowsOf (M.ahead t.data.toList) (M.row t.data.toList 0)) rate k)∧sk.size≤1020 + 2 * k∧Nums .i64 w6 w1.heap.size (rowsL t.data.toList)∧Below w.heap.size w w6) (fun _ i _=>t.size + 1 - (intOf i).toNat)
   case atStart =>
    refine ⟨0,0,sh,rfl,rfl,?_,by omega,by omega,?_,by omega,hr5,hb5⟩
    ·show _=_
     rw [Nat.zero_mul]
    ·show _=_
     rw [HSH.out]
     simp [samp]
   case round =>
    clear hr5 hb5
    obtain ⟨k,p,sk,rfl,rfl,hpk,hp,hkp,hsk,hskz,hr,hb⟩:=hrel
    by_cases hlt:p≤t.size
    ·have hc:=hr.cell p (by rw [rowsL_length,HL.out]; omega)
     rw [rowsL_at _ _ (by rw [HL.out]; exact hlt)] at hc
     have hle:=M.row_le t.data.toList p (by rw [HL.out]; exact hlt)
     rw [HL.out] at hle
     have HRR:Hid (samp (M.rowsOf (M.ahead t.data.toList) (M.row t.data.toList 0)) rate (k + 1)=samp (M.rowsOf (M.ahead t.data.toList) (M.row t.data.toList 0)) rate k ++ two (M.row t.data.toList p)):=by
      show _=_
      rw [samp_succ,← hpk.out,rowsOf_getD _ _ (by rw [HL.out]; exact hlt)]
     generalize M.row t.data.toList p=r at hc hle HRR
     go_wp2_with fail
     refine (rtwo_any _ _ (by omega)).mono ?_
     rintro e w7 ⟨s6,rfl,hs6,hz6,hb6⟩
     have hr6:=Blk.below hr hb6 (Blk.lt hr)
     go_wp2
     go_roundw
     case rel =>
      refine ⟨k + 1,p + rate,sk ++ s6,by go_num,rfl,?_,by omega,by omega,?_,?_,hr6,hb.trans (hb6.mono hb.size)⟩
      ·show _=_
       rw [Nat.succ_mul,hpk.out]
      ·show _=_
       rw [app_list,hsk.out,hs6.out,HRR.out,List.append_assoc]
      ·rw [ByteArray.size_append,hz6]; omega
     case measure=>simp [intOf]; omega
    ·have HK:Hid (k=t.size / rate + 1):=last_k t.size rate k hr1 (by rw [← hpk.out]; exact hp) (by rw [← hpk.out]; omega)
     have HB:Hid (sk.data.toList=saveBody (M.ahead t.data.toList) (M.row t.data.toList 0) rate):=by
      show _=_
      rw [hsk.out,HK.out]
      unfold saveBody
      rw [M.ahead_length,HL.out]
     have hskl:sk.size≤100000:=by omega
     clear hsk HK hpk hr
     go_wp2_with fail
     go_loop [15,16] (fun n i=>∃ j:Nat,j≤sk.size∧i=.int .i64 j∧n=.int .i64 (sumTo sk.data.toList j:Nat)) (fun _ i=>sk.size - (intOf i).toNat)
     case atStart=>exact ⟨0,by omega,rfl,rfl⟩
     case round =>
      obtain ⟨j,hj,rfl,rfl⟩:=hrel
      have h1:=sumTo_lt sk.data.toList j
      by_cases hjl:j<sk.size
      ·have hbt:=getD_lt sk.data.toList j
       rw [← byte_at sk j hjl] at hbt
       have HBT:Hid (sk[j]=sk.data.toList.getD j 0):=byte_at sk j hjl
       have m0:(0:Int)≤((j:Int) + 1) * ((sk[j].toNat:Int) + 1):=Int.mul_nonneg (by omega) (by omega)
       have m1:((j:Int) + 1) * ((sk[j].toNat:Int) + 1)≤100000 * 256:=Int.mul_le_mul (by omega) (by omega) (by omega) (by omega)
       go_wp2
       go_round
       case rel =>
        refine ⟨j + 1,by omega,by go_num,?_⟩
        rw [sumTo,← HBT.out]
        simp
       case measure=>simp [intOf]; omega
      ·have hj2:j=sk.size:=by omega
       subst hj2
       have HSM:Hid (sumTo sk.data.toList sk.size=sumL (saveBody (M.ahead t.data.toList) (M.row t.data.toList 0) rate)):=by
        show _=_
        rw [← HB.out]; unfold sumL; rw [size_len]
       go_wp2_with fail
       refine (rtwo_any _ _ (by omega)).mono ?_
       rintro e w8 ⟨s7,rfl,hs7,hz7,hb7⟩
       go_wp2
       go_ret
       refine ⟨_,rfl,?_,hb.trans (hb7.mono hb.size)⟩
       show _=_
       rw [app_list,hs7.out,HSM.out,HB.out]
       rfl
def lasts (a:List UInt8) (h k:Nat):List Int:=(List.range k).map (M.lastC a h)
theorem lasts_length (a:List UInt8) (h k:Nat):(lasts a h k).length=k:=by simp [lasts]
theorem lasts_succ (a:List UInt8) (h k:Nat):lasts a h (k + 1)=lasts a h k ++ [M.lastC a h k]:=by unfold lasts; rw [List.range_succ,List.map_append]; rfl
theorem lasts_at (a:List UInt8) (h k j:Nat) (hj:j<k):(lasts a h k).getD j 0=M.lastC a h j:=by
 unfold lasts
 rw [List.getD_eq_getElem?_getD,List.getElem?_map,List.getElem?_range hj]; rfl
theorem lastC_bd (a:List UInt8) (h j:Nat) : -1≤M.lastC a h j∧M.lastC a h j≤255:=by
 unfold M.lastC
 have:=getD_lt a (M.sl h j)
 split <;> omega
def LdPost (s:ByteArray) (w:World) (e:Ending) (w':World):Prop :=
 Below w.heap.size w w'∧((∃ (t:ByteArray) (rate:Int),e=.returned (.tuple #[.string t,.int .i64 rate,.bool false])∧¬ ∃ t r,LoadOk s.data.toList t r) ∨
  ∃ (t:ByteArray) (rate:Nat),LoadOk s.data.toList t.data.toList rate∧e=.returned (.tuple #[.string t,.int .i64 rate,.bool true]))
set_option maxRecDepth 100000 in
set_option maxHeartbeats 3200000 in
theorem rloaded_any (s:ByteArray) (w:World) (h1:s.size≤maxLen) :
    Calls Try.prog 56 #[.string s] w fun e w'=>LdPost s w e w':=by
 unfold maxLen at h1
 have HZ:Hid (s.data.toList.length=s.size):=size_len s
 rcases Nat.lt_or_ge s.size 9 with h9 | h9
 ·have HNO:Hid (¬ ∃ t r,LoadOk s.data.toList t r):=by
     rintro ⟨t,r,H⟩
     have:=H.fields.2.2.2.2
     rw [HZ.out] at this
     omega
  go_enter Try.func56,Try.ntmps56
  go_wp2
  go_ret3
  exact ⟨Below.refl _ _,.inl ⟨_,_,rfl,HNO.out⟩⟩
 obtain ⟨i0,hi,hz0,hz1,hz2⟩:=info_int
 obtain ⟨n,hn⟩:∃ n,(s.data.toList.getD 4 0).toNat * 256 + (s.data.toList.getD 5 0).toNat=n:=⟨_,rfl⟩
 obtain ⟨rate,hrt⟩:∃ n,(s.data.toList.getD 6 0).toNat=n:=⟨_,rfl⟩
 obtain ⟨h,hh⟩:∃ n,(s.data.toList.getD 7 0).toNat * 256 + (s.data.toList.getD 8 0).toNat=n:=⟨_,rfl⟩
 have N1:Hid (200<n∨rate=0∨32<rate∨n<h∨s.size<9 + n→¬ ∃ t r,LoadOk s.data.toList t r):=by
  rintro hno ⟨t,r,H⟩
  obtain ⟨f1,f2,f3,f4,f5⟩:=H.fields
  rw [f1] at hn; rw [f2] at hrt; rw [f3] at hh
  rw [HZ.out] at f5
  subst hn; subst hrt; subst hh
  have:=row0_le t
  obtain ⟨g1,g2,g3,g4⟩:=H
  omega
 have N2:Hid (∀ T:List UInt8,n≤200→T=M.ldText ((s.data.toList.drop 9).take n) h n→saveL (M.ahead T) (M.row T 0) rate ≠ s.data.toList→¬ ∃ t r,LoadOk s.data.toList t r):=by
  rintro T hn2 hT hne ⟨t,r,H⟩
  obtain ⟨f1,f2,f3,f4,f5⟩:=H.fields
  rw [f1] at hn; rw [f2] at hrt; rw [f3] at hh
  subst hn; subst hrt; subst hh
  rw [f4] at hT
  have:=(M.ld_ahead t t.length (Nat.le_refl _)).2
  rw [Nat.sub_self,List.drop_zero] at this
  rw [this] at hT
  subst hT
  exact hne H.2.2.2.symm
 rw [← byte_at s 4 (by omega),← byte_at s 5 (by omega)] at hn
 rw [← byte_at s 7 (by omega),← byte_at s 8 (by omega)] at hh
 rw [← byte_at s 6 (by omega)] at hrt
 have b4:=(s[4]'(by omega)).toNat_lt
 have b5:=(s[5]'(by omega)).toNat_lt
 have b6:=(s[6]'(by omega)).toNat_lt
 have b7:=(s[7]'(by omega)).toNat_lt
 have b8:=(s[8]'(by omega)).toNat_lt
 have HN:Hid ((s[4].toNat:Int) * (256:Int) + (s[5].toNat:Int)=(n:Int)):=by show _=_; omega
 have HH:Hid ((s[7].toNat:Int) * (256:Int) + (s[8].toNat:Int)=(h:Int)):=by show _=_; omega
 have HR:Hid ((s[6].toNat:Int)=(rate:Int)):=by show _=_; omega
 have hnl:n≤65535:=by omega
 have hhl:h≤65535:=by omega
 have hrl:rate≤255:=by omega
 have i4:(4:Int)<(s.size:Int):=by omega
 have i5:(5:Int)<(s.size:Int):=by omega
 have i6:(6:Int)<(s.size:Int):=by omega
 have i7:(7:Int)<(s.size:Int):=by omega
 have i8:(8:Int)<(s.size:Int):=by omega
 clear hn hh hrt
 have e0:decide ((s.size:Int)<9)=false:=decide_eq_false (by omega)
 go_enter Try.func56,Try.ntmps56
 go_wp2_with fail
 go_quiet (fail)
 go_wp2_with fail
 rw [HN.out,HR.out]
 have hb1:=below_drewN (Below.refl w.heap.size w) nq
 generalize w.drewN nq=w1 at hb1 ⊢
 go_quiet (fail)
 rw [HH.out]
 have hb2:=below_drewN hb1 nq
 generalize w1.drewN nq=w2 at hb2 ⊢
 clear b4 b5 b6 b7 b8 HN HH HR hb1
 by_cases c1:200<n
 ·go_wp2
  go_ret3
  exact ⟨hb2,.inl ⟨_,_,rfl,N1.out (by omega)⟩⟩
 by_cases c2:rate=0
 ·have q2:((rate:Int) == 0)=true:=by rw [c2]; rfl
  have HN1:Hid _:=N1.out (.inr (.inl c2))
  clear c2
  go_wp2
  go_ret3
  exact ⟨hb2,.inl ⟨_,_,rfl,HN1.out⟩⟩
 have q2:((rate:Int) == 0)=false:=by simp; omega
 by_cases c3:32<rate
 ·go_wp2
  go_ret3
  exact ⟨hb2,.inl ⟨_,_,rfl,N1.out (by omega)⟩⟩
 by_cases c4:n<h
 ·go_wp2
  go_ret3
  exact ⟨hb2,.inl ⟨_,_,rfl,N1.out (by omega)⟩⟩
 by_cases c5:s.size<9 + n
 ·go_wp2
  go_ret3
  exact ⟨hb2,.inl ⟨_,_,rfl,N1.out (by omega)⟩⟩
 have r1:1≤rate:=by omega
 have r2:rate≤32:=by omega
 have n2:n≤200:=by omega
 have h2:h≤n:=by omega
 have l2:9 + n≤s.size:=by omega
 clear c1 c2 c3 c4 c5 N1
 have e1:decide ((200:Int)<(n:Int))=false:=decide_eq_false (by omega)
 have e3:decide ((32:Int)<(rate:Int))=false:=decide_eq_false (by omega)
 have e4:decide ((n:Int)<(h:Int))=false:=decide_eq_false (by omega)
 have e4':decide (n<h)=false:=decide_eq_false (by omega)
 have e5:decide ((s.size:Int)<9 + (n:Int))=false:=decide_eq_false (by omega)
 obtain ⟨a,HA⟩:∃ a,a=(s.data.toList.drop 9).take n:=⟨_,rfl⟩
 rw [← HA] at N2
 have HAL:Hid (a.length=n):=by show _=_; rw [HA,List.length_take,List.length_drop,HZ.out]; omega
 have HAT:Hid (∀ j,j<n→a.getD j 0=s.data.toList.getD (9 + j) 0):=by
  intro j hj
  rw [HA,List.getD_eq_getElem?_getD,List.getElem?_take,if_pos hj,List.getElem?_drop,← List.getD_eq_getElem?_getD]
 clear HA
 go_wp2_with fail
 go_loopw [8,9,10] (fun v kk i wr=>∃ k:Nat,k≤n + 1∧i=.int .i64 k∧kk=.int .i64 ((9 + M.sl h k:Nat):Int)∧wr.ownsRow w.heap.size 3 1 v k (ints (lasts a h k))∧Below w.heap.size w wr) (fun _ _ i _=>n + 1 - (intOf i).toNat)
 case atStart =>
  refine ⟨0,by omega,rfl,?_,World.ownsRow_nil _ _ _ _,hb2⟩
  have:M.sl h 0=0:=by unfold M.sl; split <;> omega
  rw [this]; rfl
 case round =>
  obtain ⟨k,hk,rfl,rfl,hown,hb⟩:=hrel
  by_cases hlt:k≤n
  ·by_cases hkh:k=h
   ·have q3:((k:Int) == (h:Int))=true:=by rw [hkh]; simp
    have HLC:Hid (M.lastC a h k = -1):=by show _=_; unfold M.lastC; rw [if_pos hkh]
    have HSL:Hid (M.sl h (k + 1)=M.sl h k):=by show _=_; unfold M.sl; split <;> split <;> omega
    have hslk:M.sl h k≤k:=by unfold M.sl; split <;> omega
    clear hkh
    go_wp2_with ((at_builtin; refine wpList_append_own _ rfl _ _ 40 rfl w.heap.size 3 i0 (.int .i64 0) 1 8 Try.underlying40 hi hz0 hz1 hz2 rfl (by decide) _ _ _ rfl (hown.alloc _) ⟨wr.heap.size,0,none⟩ 1 1 [.int .i64 (-1)] rfl rfl ?c1 ?c2 ?c3 ?c4 ?c5 ?_))
    case c1 =>
     intro j u hj
     match j,hj with
     | 0,hj=>simp at hj; subst hj; simp [Addr.add]
    case c2=>intro u hu; simp at hu; subst hu; rfl
    case c3=>unfold maxLen; omega
    case c4=>omega
    case c5=>have:=hb.size; simp; omega
    ·intro v' w3 hown' hgrow hnil
     have hb1:Below w.heap.size w w3:=below_grown (hb.alloc hb.size _) hgrow (by have:=hb.size; simp; omega) (hown.alloc _) (Nat.le_refl _)
     clear hnil hgrow hb hown
     go_wp2
     go_roundw
     case rel =>
      refine ⟨k + 1,by omega,by go_num,by rw [HSL.out]; go_num,?_,hb1⟩
      rw [lasts_succ,HLC.out]
      have e:ints (lasts a h k ++ [-1])=ints (lasts a h k) ++ [.int .i64 (-1)]:=by simp [ints]
      rw [e]
      exact hown'
     case measure=>simp [intOf]; omega
   ·have q3:((k:Int) == (h:Int))=false:=by simp; omega
    have hsl:M.sl h k<n:=M.sl_lt h k n h2 hlt hkh
    have hs9:9 + M.sl h k<s.size:=by omega
    have HSL:Hid (M.sl h (k + 1)=M.sl h k + 1):=by show _=_; unfold M.sl; split <;> split <;> omega
    have HLC:Hid (((s[9 + M.sl h k]).toNat:Int)=M.lastC a h k):=by
     show _=_
     unfold M.lastC
     rw [if_neg hkh,HAT.out _ hsl,byte_at s _ hs9]
    have hbt:=(s[9 + M.sl h k]).toNat_lt
    have i9:(9:Int) + (M.sl h k:Int)<(s.size:Int):=by omega
    clear hkh
    go_wp2_with ((at_builtin; refine wpList_append_own _ rfl _ _ 40 rfl w.heap.size 3 i0 (.int .i64 0) 1 8 Try.underlying40 hi hz0 hz1 hz2 rfl (by decide) _ _ _ rfl (hown.alloc _) ⟨wr.heap.size,0,none⟩ 1 1 [.int .i64 ((s[9 + M.sl h k]).toNat:Int)] rfl rfl ?c1 ?c2 ?c3 ?c4 ?c5 ?_))
    case c1 =>
     intro j u hj
     match j,hj with
     | 0,hj=>simp at hj; subst hj; simp [Addr.add]
    case c2=>intro u hu; simp at hu; subst hu; rfl
    case c3=>unfold maxLen; omega
    case c4=>omega
    case c5=>have:=hb.size; simp; omega
    ·intro v' w3 hown' hgrow hnil
     have hb1:Below w.heap.size w w3:=below_grown (hb.alloc hb.size _) hgrow (by have:=hb.size; simp; omega) (hown.alloc _) (Nat.le_refl _)
     clear hnil hgrow hb hown
     go_wp2
     go_roundw
     case rel =>
      refine ⟨k + 1,by omega,by go_num,by rw [HSL.out]; go_num,?_,hb1⟩
      rw [lasts_succ,← HLC.out]
      have e:ints (lasts a h k ++ [((s[9 + M.sl h k]).toNat:Int)])=ints (lasts a h k) ++ [.int .i64 ((s[9 + M.sl h k]).toNat:Int)]:=by simp [ints]
      rw [e]
      exact hown'
     case measure=>simp [intOf]; omega
  ·have hk2:k=n + 1:=by omega
   have hne:u8 ≠ .slice none 0 0:=by
    intro e
    subst e
    obtain ⟨_,⟨_,h⟩ | ⟨g,cap,cur,h,_⟩⟩:=hown
    ·omega
    ·cases h
   obtain ⟨g,cap,rfl,hbg,hrow⟩:=own_open hown hne
   have hrow2:IRow wr g cap (lasts a h (n + 1)):=by
    unfold IRow
    rw [lasts_length,← hk2]
    exact hrow
   have e6:decide ((k:Int)≤(n:Int))=false:=decide_eq_false (by omega)
   have e6':decide (k≤n)=false:=decide_eq_false (by omega)
   obtain ⟨kc,HKC⟩:∃ kc,kc=k:=⟨_,rfl⟩
   generalize 9 + M.sl h k=z9
   have hkc:kc=n + 1:=by omega
   rw [show (Value.slice (some ⟨g,0,none⟩) k cap)=Value.slice (some ⟨g,0,none⟩) (n + 1) cap from by rw [hk2]]
   clear HKC hkc
   have hk3:n<k:=by omega
   clear hk2
   clear hrow hne hown hi hz0 hz1 hz2 hlt hk
   go_wp2_with fail
   go_loopw [11,12,13] (fun ts rr ii w4=>∃ (i:Nat) (tt:ByteArray),i≤n∧ii=.int .i64 i∧rr=.int .i64 (M.ldRow a h i:Nat)∧ts=.string tt∧Hid (tt.data.toList=M.ldText a h i)∧tt.size≤i∧IRow w4 g cap (lasts a h (n + 1))∧Below w.heap.size w w4) (fun _ _ ii _=>n - (intOf ii).toNat)
   case atStart=>exact ⟨0,⟨#[]⟩,by omega,rfl,rfl,rfl,rfl,by decide,hrow2,hb⟩
   case round =>
    clear hrow2 hb
    obtain ⟨i,tt,hi,rfl,rfl,rfl,HT,htz,hrow,hb⟩:=hrel
    by_cases hin:i<n
    ·have hrl2:=M.ldRow_le a h (by rw [HAL.out]; exact h2) i
     rw [HAL.out] at hrl2
     have HX1:Hid (M.ldRow a h (i + 1)=if M.ldRow a h i=h then 0 else M.LF a (M.sl h (M.ldRow a h i))):=rfl
     have HX2:Hid (M.ldText a h (i + 1)=if M.ldRow a h i=h then M.ldText a h i else a.getD (M.sl h (M.ldRow a h i)) 0 :: M.ldText a h i):=rfl
     generalize M.ldRow a h i=r at hrl2 HX1 HX2
     have cr:=hrow.cell r (by rw [lasts_length]; omega)
     rw [lasts_at _ _ _ _ (by omega)] at cr
     have hbd:=lastC_bd a h r
     by_cases hrh:r=h
     ·have hc0:M.lastC a h r<0:=by unfold M.lastC; rw [if_pos hrh]; omega
      have HNX:Hid (M.ldRow a h (i + 1)=M.lessC a h r (n + 1)):=by
       show _=_
       rw [HX1.out,if_pos hrh,hrh,← HAL.out,M.lessC_whole _ _ (by rw [HAL.out]; exact h2)]
      have HTT:Hid (tt.data.toList=M.ldText a h (i + 1)):=by
       show _=_
       rw [HX2.out,if_pos hrh,HT.out]
      clear hrh HX1 HX2 HT
      go_wp2_with fail
      clear cr hc0 hbd
      have hrow5:=hrow
      have hb5:=hb
      have htz5:tt.size≤i + 1:=by omega
      clear hrow hb htz
      obtain ⟨tt5,htt5⟩:∃ x,x=tt:=⟨tt,rfl⟩
      subst htt5
      go_loopw [14,15] (fun ls jj w6=>∃ j:Nat,j≤n + 1∧jj=.int .i64 j∧ls=.int .i64 (M.lessC a h r j:Nat)∧IRow w6 g cap (lasts a h (n + 1))∧Below w.heap.size w w6) (fun _ jj _=>n + 1 - (intOf jj).toNat)
      case atStart=>exact ⟨0,by omega,rfl,rfl,hrow5,hb5⟩
      case round =>
       clear hrow5 hb5
       obtain ⟨j,hj,rfl,rfl,hrow6,hb6⟩:=hrel
       have hlc:=M.lessC_le a h r j
       by_cases hjl:j≤n
       ·have cj:=hrow6.cell j (by rw [lasts_length]; omega)
        have cr:=hrow6.cell r (by rw [lasts_length]; omega)
        rw [lasts_at _ _ _ _ (by omega)] at cj
        rw [lasts_at _ _ _ _ (by omega)] at cr
        have HSC:=M.lessC_succ a h r j
        have ji:(j:Int)<(n:Int) + 1:=by omega
        have ri:(r:Int)<(n:Int) + 1:=by omega
        by_cases d1:M.lastC a h j<M.lastC a h r
        ·have HS2:Hid (M.lessC a h r (j + 1)=M.lessC a h r j + 1):=by
            show _=_
            rw [HSC,decide_eq_true d1]; rfl
         clear HSC
         go_wp2
         go_quiet (fail)
         go_wp2
         go_roundw
         case rel=>exact ⟨j + 1,by omega,by go_num,by rw [HS2.out]; go_num,RowAt.drewN hrow6 _,below_drewN hb6 _⟩
         case measure=>simp [intOf]; omega
        ·have d1':decide (M.lastC a h j<M.lastC a h r)=false:=decide_eq_false d1
         by_cases d2:M.lastC a h j=M.lastC a h r
         ·have d2':(M.lastC a h j == M.lastC a h r)=true:=by rw [d2]; simp
          by_cases d3:j<r
          ·have HS2:Hid (M.lessC a h r (j + 1)=M.lessC a h r j + 1):=by
              show _=_
              rw [HSC,d1',d2',decide_eq_true d3]; rfl
           have HD2:Hid _:=d2
           clear HSC d2 d1
           go_wp2
           go_quiet (fail)
           go_wp2
           go_roundw
           case rel=>exact ⟨j + 1,by omega,by go_num,by rw [HS2.out]; go_num,RowAt.drewN hrow6 _,below_drewN hb6 _⟩
           case measure=>simp [intOf]; omega
          ·have HS2:Hid (M.lessC a h r (j + 1)=M.lessC a h r j):=by
              show _=_
              rw [HSC,d1',d2',decide_eq_false d3]; rfl
           have HD2:Hid _:=d2
           clear HSC d2 d1
           go_wp2
           go_quiet (fail)
           go_wp2
           go_roundw
           case rel=>exact ⟨j + 1,by omega,by go_num,by rw [HS2.out],RowAt.drewN hrow6 _,below_drewN hb6 _⟩
           case measure=>simp [intOf]; omega
         ·have d2':(M.lastC a h j == M.lastC a h r)=false:=beq_eq_false_iff_ne.2 d2
          have HS2:Hid (M.lessC a h r (j + 1)=M.lessC a h r j):=by
           show _=_
           rw [HSC,d1',d2']; rfl
          clear HSC d2 d1
          go_wp2
          go_quiet (fail)
          go_wp2
          go_roundw
          case rel=>exact ⟨j + 1,by omega,by go_num,by rw [HS2.out],RowAt.drewN hrow6 _,below_drewN hb6 _⟩
          case measure=>simp [intOf]; omega
       ·have hj2:j=n + 1:=by omega
        subst hj2
        go_wp2
        go_roundw
        case rel=>exact ⟨i + 1,tt5,by omega,by go_num,by rw [HNX.out],rfl,HTT,htz5,hrow6,hb6⟩
        case measure=>simp [intOf]; omega
     ·have hc0:¬ M.lastC a h r<0:=by unfold M.lastC; rw [if_neg hrh]; omega
      have hc1:0≤M.lastC a h r:=by omega
      have HNX:Hid (M.ldRow a h (i + 1)=M.lessC a h r (n + 1)):=by
       show _=_
       rw [HX1.out,if_neg hrh,← HAL.out,M.lessC_LF _ _ _ (by rw [HAL.out]; exact h2) (by rw [HAL.out]; exact hrl2) hrh]
      have HCV:Hid (M.lastC a h r=((a.getD (M.sl h r) 0).toNat:Int)):=by show _=_; unfold M.lastC; rw [if_neg hrh]
      have HX3:Hid (M.ldText a h (i + 1)=a.getD (M.sl h r) 0 :: M.ldText a h i):=by
       show _=_
       rw [HX2.out,if_neg hrh]
      clear hrh HX1 HX2
      obtain ⟨r1,HR1,hzr,hcv⟩:∃ r1:ByteArray,Hid (r1.data.toList=[a.getD (M.sl h r) 0])∧r1.size=1∧Sem.run Try.prog (convert 75 9 (.slice (some ⟨wr.heap.size,0,none⟩) 1 1)) (wr.alloc (.cells #[.int .u8 (M.lastC a h r)] 5))=.ok (.string r1) (wr.alloc (.cells #[.int .u8 (M.lastC a h r)] 5)):=by
       refine ⟨strOfNums [M.lastC a h r],?_,rfl,?_⟩
       ·show [UInt8.ofNat (M.lastC a h r).toNat]=_
        rw [HCV.out]; simp
       ·refine run_convert_bytes_arg (wr.alloc (.cells #[.int .u8 (M.lastC a h r)] 5)) 75 5 Try.underlying75 Try.underlying5 wr.heap.size 0 1 1 [M.lastC a h r] rfl ?_ 9 Try.underlying9
        intro i hi
        rw [(Blk.new wr #[.int .u8 (M.lastC a h r)] 5).cell? (0 + i)]
        match i,hi with
        | 0,_=>rfl
      have hbd1:=hbd.2
      go_wp2_with fail
      clear cr hc0 hbd hbd1 hc1 hcv
      have hrow5:=RowAt.alloc hrow (.cells #[.int .u8 (M.lastC a h r)] 5)
      have hb5:=hb.alloc hb.size (.cells #[.int .u8 (M.lastC a h r)] 5)
      generalize wr.alloc (.cells #[.int .u8 (M.lastC a h r)] 5)=w5 at hrow5 hb5 ⊢
      obtain ⟨tt5,htt5,HTT,htz5⟩:∃ x:ByteArray,r1 ++ tt=x∧Hid (x.data.toList=M.ldText a h (i + 1))∧x.size≤i + 1:=by
       refine ⟨_,rfl,?_,?_⟩
       ·show _=_
        rw [app_list,HR1.out,HX3.out,HT.out]; rfl
       ·rw [ByteArray.size_append,hzr]; omega
      rw [htt5]
      clear htt5 hrow hb htz HT HX3 HR1 hzr HCV
      go_loopw [14,15] (fun ls jj w6=>∃ j:Nat,j≤n + 1∧jj=.int .i64 j∧ls=.int .i64 (M.lessC a h r j:Nat)∧IRow w6 g cap (lasts a h (n + 1))∧Below w.heap.size w w6) (fun _ jj _=>n + 1 - (intOf jj).toNat)
      case atStart=>exact ⟨0,by omega,rfl,rfl,hrow5,hb5⟩
      case round =>
       clear hrow5 hb5
       obtain ⟨j,hj,rfl,rfl,hrow6,hb6⟩:=hrel
       have hlc:=M.lessC_le a h r j
       by_cases hjl:j≤n
       ·have cj:=hrow6.cell j (by rw [lasts_length]; omega)
        have cr:=hrow6.cell r (by rw [lasts_length]; omega)
        rw [lasts_at _ _ _ _ (by omega)] at cj
        rw [lasts_at _ _ _ _ (by omega)] at cr
        have HSC:=M.lessC_succ a h r j
        have ji:(j:Int)<(n:Int) + 1:=by omega
        have ri:(r:Int)<(n:Int) + 1:=by omega
        by_cases d1:M.lastC a h j<M.lastC a h r
        ·have HS2:Hid (M.lessC a h r (j + 1)=M.lessC a h r j + 1):=by
            show _=_
            rw [HSC,decide_eq_true d1]; rfl
         clear HSC
         go_wp2
         go_quiet (fail)
         go_wp2
         go_roundw
         case rel=>exact ⟨j + 1,by omega,by go_num,by rw [HS2.out]; go_num,RowAt.drewN hrow6 _,below_drewN hb6 _⟩
         case measure=>simp [intOf]; omega
        ·have d1':decide (M.lastC a h j<M.lastC a h r)=false:=decide_eq_false d1
         by_cases d2:M.lastC a h j=M.lastC a h r
         ·have d2':(M.lastC a h j == M.lastC a h r)=true:=by rw [d2]; simp
          by_cases d3:j<r
          ·have HS2:Hid (M.lessC a h r (j + 1)=M.lessC a h r j + 1):=by
              show _=_
              rw [HSC,d1',d2',decide_eq_true d3]; rfl
           have HD2:Hid _:=d2
           clear HSC d2 d1
           go_wp2
           go_quiet (fail)
           go_wp2
           go_roundw
           case rel=>exact ⟨j + 1,by omega,by go_num,by rw [HS2.out]; go_num,RowAt.drewN hrow6 _,below_drewN hb6 _⟩
           case measure=>simp [intOf]; omega
          ·have HS2:Hid (M.lessC a h r (j + 1)=M.lessC a h r j):=by
              show _=_
              rw [HSC,d1',d2',decide_eq_false d3]; rfl
           have HD2:Hid _:=d2
           clear HSC d2 d1
           go_wp2
           go_quiet (fail)
           go_wp2
           go_roundw
           case rel=>exact ⟨j + 1,by omega,by go_num,by rw [HS2.out],RowAt.drewN hrow6 _,below_drewN hb6 _⟩
           case measure=>simp [intOf]; omega
         ·have d2':(M.lastC a h j == M.lastC a h r)=false:=beq_eq_false_iff_ne.2 d2
          have HS2:Hid (M.lessC a h r (j + 1)=M.lessC a h r j):=by
           show _=_
           rw [HSC,d1',d2']; rfl
          clear HSC d2 d1
          go_wp2
          go_quiet (fail)
          go_wp2
          go_roundw
          case rel=>exact ⟨j + 1,by omega,by go_num,by rw [HS2.out],RowAt.drewN hrow6 _,below_drewN hb6 _⟩
          case measure=>simp [intOf]; omega
       ·have hj2:j=n + 1:=by omega
        subst hj2
        go_wp2
        go_roundw
        case rel=>exact ⟨i + 1,tt5,by omega,by go_num,by rw [HNX.out],rfl,HTT,htz5,hrow6,hb6⟩
        case measure=>simp [intOf]; omega
    ·have hi2:i=n:=by omega
     subst hi2
     go_wp2_with fail
     refine (rsaved_any tt rate _ (by omega) r1 (by omega)).mono ?_
     rintro e w7 ⟨sv,rfl,hsv,hb7⟩
     have hb8:=hb.trans (hb7.mono hb.size)
     by_cases c6:sv.data.toList=s.data.toList
     ·have q5:(sv.toList == s.toList)=true:=by rw [Lib.toList_data,Lib.toList_data,beq_iff_eq]; exact c6
      have HOK:Hid (LoadOk s.data.toList tt.data.toList rate):=⟨by rw [size_len]; omega,r1,r2,by rw [← hsv.out]; exact c6.symm⟩
      clear c6
      go_wp2
      go_ret3
      exact ⟨hb8,.inr ⟨tt,rate,HOK.out,rfl⟩⟩
     ·have q5:(sv.toList == s.toList)=false:=by rw [Lib.toList_data,Lib.toList_data,beq_eq_false_iff_ne]; exact c6
      have HNO:Hid (¬ ∃ t r,LoadOk s.data.toList t r):=N2.out tt.data.toList n2 HT.out (by rw [← hsv.out]; exact c6)
      clear c6
      go_wp2
      go_ret3
      exact ⟨hb8,.inl ⟨_,_,rfl,HNO.out⟩⟩
set_option maxHeartbeats 800000 in
theorem built_long (w:World) (bw:Nat) (rate:Int) (t:ByteArray) (h0:200<t.size) (h1:t.size≤maxLen) :
    Calls Try.prog 38 #[.pointer (some ⟨bw,0,none⟩),.string t,.int .i64 rate] w fun e w'=>e=.returned (.bool true)∧w'=w:=by
 have HBd:=hid (build_long t rate w h0 h1)
 unfold maxLen at h1
 have q0:decide ((t.size:Int) > 200)=true:=decide_eq_true (by omega)
 have q1:decide ((200:Int)<(t.size:Int))=true:=decide_eq_true (by omega)
 go_enter Try.func38,Try.ntmps38
 go_wp2_with fail
 refine HBd.out.mono ?_
 rintro e w1 ⟨rfl,rfl⟩
 go_wp2
 go_ret
 exact ⟨rfl,rfl⟩
set_option maxHeartbeats 800000 in
theorem built_arg (w:World) (bw:Nat) (rate:Int) (t:ByteArray) (h0:t.size≤200) (h1:rate<1∨32<rate) :
    Calls Try.prog 38 #[.pointer (some ⟨bw,0,none⟩),.string t,.int .i64 rate] w fun e w'=>e=.returned (.bool true)∧w'=w:=by
 have HBd:=hid (build_arg t rate w h0 h1)
 have q0:decide ((t.size:Int) > 200)=false:=decide_eq_false (by omega)
 have q1:decide ((200:Int)<(t.size:Int))=false:=decide_eq_false (by omega)
 by_cases h:rate<1
 ·have q2:decide (rate<1)=true:=decide_eq_true h
  go_enter Try.func38,Try.ntmps38
  go_wp2_with fail
  refine HBd.out.mono ?_
  rintro e w1 ⟨rfl,rfl⟩
  go_wp2
  go_ret
  exact ⟨rfl,rfl⟩
 ·have q2:decide (rate<1)=false:=decide_eq_false h
  have q3:decide (rate > 32)=true:=decide_eq_true (by omega)
  have q4:decide ((32:Int)<rate)=true:=decide_eq_true (by omega)
  go_enter Try.func38,Try.ntmps38
  go_wp2_with fail
  refine HBd.out.mono ?_
  rintro e w1 ⟨rfl,rfl⟩
  go_wp2
  go_ret
  exact ⟨rfl,rfl⟩
set_option maxRecDepth 100000 in
set_option maxHeartbeats 1600000 in
theorem lloaded_any (w:World) (bw B n:Nat) (reg:ByteArray) (vx vl vm:Value) (xs:List Value) (hr:reg.size≤maxLen) (hV:BlkT w bw 59 [vx,.string reg,vl,vm]) (hO:w.ownsRow B 78 3 vx n xs) (hn:n + 1≤100000000) (hB:B≤w.heap.size) (hne:vx.ownBlock ≠ some bw) :
    Calls Try.prog 39 #[.pointer (some ⟨bw,0,none⟩)] w fun e w'=>e=.returned (.bool true)∧((¬ (∃ t r,LoadOk reg.data.toList t r)∧Below w.heap.size w w')∨∃ (t:ByteArray) (rate:Nat),LoadOk reg.data.toList t.data.toList rate∧∃ vx' bx a,BlkT w' bw 59 [vx',.string reg,vl,vm]∧w'.ownsRow B 78 3 vx' (n + 1) (xs ++ pairC bx rate t)∧vx'.ownBlock ≠ some bw ∧
     IdxOf w' bx rate t.data.toList a∧w.heap.size≤bx∧Keep (bw :: vx.ownBlock.toList) w w'∧∀ b,vx'.ownBlock=some b→vx.ownBlock=some b∨w.heap.size≤b):=by
 have HLd:=hid (load_any reg w hr)
 have HRd:=hid (fun w'=>rloaded_any reg w' hr)
 obtain ⟨i0,hi0,hz0,hz1,hz2⟩:=info_parts Try.infoPair
 have hlt:=hV.lt
 have HLB:Hid (∀ b,vx.ownBlock=some b→b<w.heap.size∧B≤b):=own_lt' hO
 have r0:=hV.cell 1
 simp only [List.getElem?_cons_zero,List.getElem?_cons_succ] at r0
 go_enter Try.func39,Try.ntmps39
 go_wp2_with fail
 refine HLd.out.mono ?_
 rintro e w0 ⟨hB0,hL⟩
 have hV0:BlkT w0 bw 59 [vx,.string reg,vl,vm]:=(hB0.block bw hlt).trans hV
 have HR0:=hid (HRd.out w0)
 have s0:=hV0.cell 1
 simp only [List.getElem?_cons_zero,List.getElem?_cons_succ] at s0
 rcases hL with ⟨rfl,hno⟩ | ⟨t0,rate,bx,a,hok,rfl,hbx,hI,ha⟩
 ·have HNO:=hid hno
  clear hno
  go_wp2_with (go_at_call 56; refine HR0.out.mono ?_; rintro e w1 ⟨hB1,⟨t,rate,rfl,_⟩ | ⟨t,rate,h,_⟩⟩; rotate_left; exact absurd ⟨_,_,h⟩ HNO.out)
  go_ret
  exact ⟨rfl,.inl ⟨HNO.out,hB0.trans (hB1.mono hB0.size)⟩⟩
 ·have HOK:=hid hok
  have HI0:Hid (IdxOf w0 bx rate t0 a):=⟨hI,ha,hok.1,hok.2.1,hok.2.2.1⟩
  clear hok hI ha
  go_upto_region 7 with (go_at_call 56; refine HR0.out.mono ?_; rintro e w1 ⟨hB1,⟨t,rate',rfl,hq⟩ | ⟨t,rate',hq,rfl⟩⟩; exact absurd ⟨_,_,HOK.out⟩ hq; obtain ⟨rfl,rfl⟩:=HOK.out.uniq hq)
  have hI1:IdxOf w1 bx rate t.data.toList a:=HI0.out.below hB1 HI0.out.lt
  have hV1:BlkT w1 bw 59 [vx,.string reg,vl,vm]:=(hB1.block bw hV0.lt).trans hV0
  have hBB:Below w.heap.size w w1:=hB0.trans (hB1.mono hB0.size)
  clear hB1 hB0 hV0 s0 HI0 HR0 HRd HLd
  have hB1:=hBB
  have HO1:Hid (w1.ownsRow B 78 3 vx n xs):=own_keep' hO (S:=[]) (Keep.of_below hB1 (Nat.le_refl _)) (fun b _=>by simp)
  have hsz:=hB1.size
  have c0:=hV1.cell 0
  have f0:=hV1.frozen 0
  simp only [List.getElem?_cons_zero] at c0
  have n1:bw<w1.heap.size:=by omega
  have HML:Hid (n + 1≤maxLen):=by show _≤_; unfold maxLen; omega
  have HNE:=hid hne
  obtain ⟨X,hXe⟩:∃ X:Obj,X=.cells #[.pointer (some ⟨bx,0,none⟩),.string t,.int .i64 (rate:Int)] 78:=⟨_,rfl⟩
  have HC1:Hid ((w1.alloc X).cell? ⟨bw,0,none⟩=some vx):=by
   show (w1.alloc X).cell? _=_
   rw [World.cell?_alloc_lt _ _ _ n1]
   exact c0
  have HF1:Hid ((w1.alloc X).frozen? ⟨bw,0,none⟩=false):=by
   show (w1.alloc X).frozen? _=_
   rw [World.frozen?_alloc_past _ _ _ n1]
   exact f0
  rw [hXe] at HC1 HF1
  clear hXe X
  go_wp2_with ((at_builtin; refine wpList_append_lies _ rfl _ _ 56 rfl B 78 i0 _ 3 32 Try.underlying56 hi0 hz0 hz1 hz2 rfl (by omega) vx n xs rfl (HO1.out.alloc _) ⟨w1.heap.size,0,none⟩ 1 1 (pairC bx rate t) rfl rfl (World.news_of_block (cs:=(pairC bx rate t).toArray) (t:=78) (fr:=(0,0)) (heap_alloc_new w1 _)) (pairC_one _ _ _) (by omega) HML.out (by omega) (by simp; omega) (w1.heap.size + 1) (by simp) ?_; intro gg cap w2 hown1 hgrow hat hlt2; have hcw1:w2.cell? ⟨bw,0,none⟩=some vx:=(hgrow.cell_far _ (by simp; omega) (Ne.symm HNE.out)).trans HC1.out; have hfw1:w2.frozen? ⟨bw,0,none⟩=false:=(hgrow.frozen_far _ (by simp; omega) (Ne.symm HNE.out)).trans HF1.out; have HP:=hid (pair_put hB1 hlt HLB.out HNE.out hV1 hI1 hbx hgrow hat hown1); clear hgrow hown1 hlt2 HC1 HF1 HO1 hV1 hI1 c0 f0 hat))
  go_ret
  exact ⟨rfl,.inr ⟨t,rate,HOK.out,HP.out⟩⟩
end Go.Proofs.Ytjmkkkfloalliab
