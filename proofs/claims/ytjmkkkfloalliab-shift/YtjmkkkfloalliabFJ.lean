import Derived.Test.YtjmkkkfloalliabFG
import Derived.Test.YtjmkkkfloalliabFH
import Derived.Test.YtjmkkkfloalliabW2
import Derived.Deep.RegionHeld
import Derived.Deep.CutBlock
-- Shift
namespace Go.Proofs.Ytjmkkkfloalliab
set_option linter.unusedVariables false
open Go.RowKit

/-- the places behind n, counted from there, of the first k of b -/
def behind (b : List Nat) (n k : Nat) : List Nat := ((b.take k).filter (fun p => decide (n ≤ p))).map (· - n)
theorem behind_step (b : List Nat) (n k : Nat) (hk : k < b.length) : behind b n (k + 1) = behind b n k ++ if n ≤ b.getD k 0 then [b.getD k 0 - n] else [] := by
  unfold behind
  rw [List.take_succ_eq_append_getElem hk, List.filter_append, List.map_append]
  congr 1
  rw [List.getD_eq_getElem?_getD, List.getElem?_eq_getElem hk]
  simp only [Option.getD_some, List.filter_cons, List.filter_nil]
  split <;> rename_i h
  · rw [if_pos (by simpa using h)]; rfl
  · rw [if_neg (by simpa using h)]; rfl
theorem behind_len (b : List Nat) (n k : Nat) : (behind b n k).length ≤ k := by
  unfold behind
  rw [List.length_map]
  refine Nat.le_trans (List.length_filter_le _ _) ?_
  simp
  omega
theorem Q.shift_hits (s t : List UInt8) (P : Q.Pat) : behind (Q.hits (s ++ t) P) s.length (Q.hits (s ++ t) P).length = Q.hits t P := by
  unfold behind
  rw [List.take_length]
  refine Q.rise_ext ?_ (Q.hits_rise t P) (fun x => ?_)
  · rw [List.pairwise_map]
    refine List.Pairwise.imp_of_mem (R := (· < ·)) (fun {a b} ha hb hab => ?_) (List.Pairwise.filter _ (Q.hits_rise (s ++ t) P))
    have h1 := (List.mem_filter.1 ha).2
    have h2 := (List.mem_filter.1 hb).2
    simp at h1 h2
    omega
  · rw [List.mem_map]
    have key : ∀ p, s.length ≤ p → (s ++ t).drop p = t.drop (p - s.length) := fun p hp => by
      rw [List.drop_append, List.drop_of_length_le hp]; rfl
    constructor
    · rintro ⟨p, hp, rfl⟩
      obtain ⟨h1, h2⟩ := List.mem_filter.1 hp
      simp at h2
      obtain ⟨h3, u, h4, h5⟩ := Q.mem_hits.1 h1
      rw [key p h2] at h4
      simp at h3
      exact Q.mem_hits.2 ⟨by omega, u, h4, h5⟩
    · intro hx
      obtain ⟨h3, u, h4, h5⟩ := Q.mem_hits.1 hx
      refine ⟨x + s.length, List.mem_filter.2 ⟨Q.mem_hits.2 ⟨by simp; omega, u, ?_, h5⟩, by simp⟩, by omega⟩
      rw [key _ (by omega), Nat.add_sub_cancel]
      exact h4

theorem SlI.own {w : World} {B : Nat} {v : Value} {l : List Nat} (h : w.ownsRow B 3 1 v l.length (ints (natI l))) : SlI w v l := by
  by_cases hn : v = .slice none 0 0
  · subst hn
    have : l.length = 0 := by
      obtain ⟨_, ⟨_, e⟩ | ⟨g, cap, cur, e, _⟩⟩ := h
      · omega
      · cases e
    obtain rfl := List.length_eq_zero_iff.1 this
    exact SlI.nil w
  · obtain ⟨g, cap, rfl, hg, hrow⟩ := own_open h hn
    cases l with
    | nil => exact .inl ⟨rfl, _, _, rfl⟩
    | cons x y =>
      refine .inr ⟨by simp, g, cap, rfl, hrow.lt, fun i hi => ?_⟩
      have hrow2 : IRow w g cap (natI (x :: y)) := by
        unfold IRow
        rw [natI_len]
        exact hrow
      rw [hrow2.cell i (by rw [natI_len]; exact hi), natI_at]

theorem SlI.cells {w : World} {g n m : Nat} {l : List Nat} (h : SlI w (.slice (some ⟨g, 0, none⟩) n m) l) (i : Nat) (hi : i < l.length) : g < w.heap.size ∧ w.cell? ⟨g, i, none⟩ = some (.int .i64 ((l.getD i 0 : Nat) : Int)) := by
  rcases h with ⟨rfl, _⟩ | ⟨_, b, cap, e, hb, hc⟩
  · simp at hi
  · cases e
    exact ⟨hb, hc i hi⟩

set_option maxRecDepth 100000 in
set_option maxHeartbeats 1600000 in
theorem shifted_any (w : World) (bd bx rate : Nat) (s t pat a : ByteArray) (P : Q.Pat) (hD : Dsk w bd bx rate t pat true) (hI : IdxOf w bx rate t.data.toList a) (hp : pat.size ≤ maxLen) (hs : s.size ≤ reachBytes) (hP : Q.parse (L pat) = .ok P) :
    Calls Try.prog 11 #[.pointer (some ⟨bd, 0, none⟩), .string s] w fun e w' => e = .returned (.bool true) ∧ Below w.heap.size w w' := by
  have HP := hid hP
  have hts : t.size ≤ 200 := by rw [← size_len]; exact hI.len
  have hr1 := hI.r1
  have hr2 := hI.r2
  have HSZ : Hid (t.data.toList.length = t.size) := size_len t
  have HSS : Hid (s.data.toList.length = s.size) := size_len s
  have hs2 : s.size ≤ 1000000000000000 := Nat.le_trans hs (by decide)
  clear hP
  have d1 := hD.c1; have d2 := hD.c2
  by_cases hbig : 200 < s.size + t.size
  · go_enter Try.func11, Try.ntmps11
    go_wp2
    go_ret
    exact ⟨rfl, Below.refl _ _⟩
  · have hbd := Blk.lt hD
    have hst : (s ++ t).size ≤ 200 := by rw [ByteArray.size_append]; omega
    have HY0 : Hid (∀ w', Calls Try.prog 20 #[.string (s ++ t), .int .i64 rate] w' fun e w'' => ∃ b a, e = .returned (.tuple #[.pointer (some ⟨b, 0, none⟩), .int .i64 0]) ∧ w'.heap.size ≤ b ∧ IdxOf w'' b rate (s ++ t).data.toList a ∧ Below w'.heap.size w' w'') := fun w' => build_of (s ++ t) rate w' hst hr1 hr2
    go_enter Try.func11, Try.ntmps11
    go_wp2_with fail
    go_region_held (fun w' => w'.cell? ⟨bd, 1, none⟩ = some (.string t) ∧ w'.cell? ⟨bd, 2, none⟩ = some (.int .i64 rate))
      (first | (exact ⟨(hB2.cell hbd).trans d1, (hB2.cell hbd).trans d2⟩) | go_keep)
      ((go_at_call 20; refine (HY0.out _).mono ?_; rintro e w2 ⟨by_, ay, rfl, hby, hY2, hB2⟩))
    rename_i hHeld; clear hHeld
    have hD2 : Dsk w2 bd bx rate t pat true := Blk.below (Blk.drew hD) hB2 hbd
    have hX2 := (IdxOf.mk (w := w.drew) hI.idx hI.ah hI.len hI.r1 hI.r2).below hB2 hI.lt
    have hBB2 : Below w.heap.size w w2 := (Below.refl _ w).drew.trans hB2
    have hX2d : IdxOf w2.drew bx rate t.data.toList a := ⟨hX2.idx, hX2.ah, hX2.len, hX2.r1, hX2.r2⟩
    clear hD hI d1 d2 HY0 hB2 hbd
    have d0 := hD2.c0; have d3 := hD2.c3
    have hbd := Blk.lt hD2
    go_wp2_with fail
    go_region_held (fun w' => w'.cell? ⟨bd, 0, none⟩ = some (.pointer (some ⟨bx, 0, none⟩)) ∧ w'.cell? ⟨bd, 3, none⟩ = some (.string pat))
      (first | (exact ⟨(hB3.cell hbd).trans d0, (hB3.cell hbd).trans d3⟩) | go_keep)
      ((go_at_call 22; refine (find_ok hX2d pat hp P HP.out).mono ?_; rintro e w3 ⟨gl, rfl, hgl, hS3, hB3⟩))
    rename_i hHeld; clear hHeld
    have hD3 : Dsk w3 bd bx rate t pat true := Blk.below (Blk.drew hD2) hB3 hbd
    have hY3 := (IdxOf.mk (w := w2.drew) hY2.idx hY2.ah hY2.len hY2.r1 hY2.r2).below hB3 hY2.lt
    have hBB3 : Below w.heap.size w w3 := hBB2.drew.trans (hB3.mono hBB2.size)
    clear hD2 hX2 hX2d hY2 hB3 hBB2 d0 d3 hbd hgl
    have d3 := hD3.c3
    go_wp2_with fail
    refine (find_ok hY3 pat hp P HP.out).mono ?_
    rintro e w4 ⟨gm, rfl, hgm, hS4, hB4⟩
    have hS34 := hS3.below hB4 (Nat.le_refl _)
    have hBB4 : Below w.heap.size w w4 := hBB3.trans (hB4.mono hBB3.size)
    have hl1 : (Q.hits t.data.toList P).length ≤ 1000 := Q.hits_len _ _ (by rw [HSZ.out]; exact hts)
    have hl2 : (Q.hits (s ++ t).data.toList P).length ≤ 1000 := Q.hits_len _ _ hY3.len
    have hlt2 : ∀ i, i < (Q.hits (s ++ t).data.toList P).length → (Q.hits (s ++ t).data.toList P).getD i 0 ≤ 1000 := fun i hi => by
      have h1 := (Q.mem_hits.1 (Q.hits_at (t := (s ++ t).data.toList) hi)).1
      have h2 := hY3.len
      omega
    have HE : Hid (behind (Q.hits (s ++ t).data.toList P) s.size (Q.hits (s ++ t).data.toList P).length = Q.hits t.data.toList P) := by
      show _ = _
      have := Q.shift_hits s.data.toList t.data.toList P
      rw [HSS.out] at this
      rw [show (s ++ t).data.toList = s.data.toList ++ t.data.toList from by simp]
      exact this
    clear hD3 hY3 hB4 hBB3 hS3 d3 hgm
    generalize Q.hits (s ++ t).data.toList P = H2 at *
    generalize Q.hits t.data.toList P = H1 at *
    have HS34 := hid hS34
    have HS4 := hid hS4
    have HLT := hid hlt2
    have HBB4 := hid hBB4
    clear hS34 hlt2 hBB4
    obtain ⟨i0, hi, hz0, hz1, hz2⟩ := info_int
    have HC : Hid (∀ i, i < H2.length → gm < w4.heap.size ∧ w4.cell? ⟨gm, i, none⟩ = some (.int .i64 ((H2.getD i 0 : Nat) : Int))) := fun i hi => hS4.cells i hi
    clear hS4
    go_wp2_with fail
    go_loopw [11, 12] (fun v i wr => ∃ k : Nat, k ≤ H2.length ∧ i = .int .i64 k ∧ wr.ownsRow w4.heap.size 3 1 v (behind H2 s.size k).length (ints (natI (behind H2 s.size k))) ∧ Below w4.heap.size w4 wr) (fun _ i _ => H2.length - (intOf i).toNat)
    case atStart => exact ⟨0, by omega, rfl, World.ownsRow_nil _ _ _ _, Below.refl _ _⟩
    case round =>
      obtain ⟨k, hk, rfl, hown, hB⟩ := hrel
      rcases Nat.lt_or_ge k H2.length with hlt | hge
      · obtain ⟨hg, hc⟩ := HC.out k hlt
        have c1 : wr.cell? ⟨gm, k, none⟩ = some (.int .i64 ((H2.getD k 0 : Nat) : Int)) := (hB.cell hg).trans hc
        have hx := HLT.out k hlt
        have HST := hid (behind_step H2 s.size k hlt)
        have hbl := behind_len H2 s.size k
        have j0 : (0 : Int) ≤ (k : Int) := by omega
        have j1 : (k : Int) < (H2.length : Int) := by omega
        clear hc
        generalize H2.getD k 0 = x at *
        by_cases hge : s.size ≤ x
        · have hq : decide ((x : Int) ≥ (s.size : Int)) = true := decide_eq_true (by omega)
          have hq2 : decide ((s.size : Int) ≤ (x : Int)) = true := decide_eq_true (by omega)
          have HST2 : Hid (behind H2 s.size (k + 1) = behind H2 s.size k ++ [x - s.size]) := by show _ = _; rw [HST.out, if_pos hge]
          have hxe : ((x : Int) - (s.size : Int)) = ((x - s.size : Nat) : Int) := by omega
          clear HST
          go_wp2_with ((at_builtin; refine wpList_append_own _ rfl _ _ 40 rfl w4.heap.size 3 i0 (.int .i64 0) 1 8 Try.underlying40 hi hz0 hz1 hz2 rfl (by decide) _ _ _ rfl (hown.alloc _) ⟨wr.heap.size, 0, none⟩ 1 1 [.int .i64 ((x - s.size : Nat) : Int)] rfl rfl ?c1 ?c2 ?c3 ?c4 ?c5 ?_))
          case c1 =>
            intro j u hj
            match j, hj with
            | 0, hj => simp at hj; subst hj; simp [Addr.add]
          case c2 => intro u hu; simp at hu; subst hu; rfl
          case c3 => unfold maxLen; omega
          case c4 => omega
          case c5 => have := hB.size; simp; omega
          · intro v' w1 hown' hgrow hnil
            have hb1 : Below w4.heap.size w4 w1 := below_grown (hB.alloc hB.size _) hgrow (by have := hB.size; simp; omega) (hown.alloc _) (Nat.le_refl _)
            have hown2 : w1.ownsRow w4.heap.size 3 1 v' (behind H2 s.size (k + 1)).length (ints (natI (behind H2 s.size (k + 1)))) := by
              rw [HST2.out, List.length_append]
              have e2 : ints (natI (behind H2 s.size k ++ [x - s.size])) = ints (natI (behind H2 s.size k)) ++ [.int .i64 ((x - s.size : Nat) : Int)] := by simp [ints, natI]
              rw [e2]
              exact hown'
            clear hnil hown' hgrow hB hown
            go_wp2
            go_roundw
            case rel => exact ⟨k + 1, by omega, by go_num, hown2, hb1⟩
            case measure => simp [intOf]; omega
        · have hq : decide ((x : Int) ≥ (s.size : Int)) = false := decide_eq_false (by omega)
          have hq2 : decide ((s.size : Int) ≤ (x : Int)) = false := decide_eq_false (by omega)
          have HST2 : Hid (behind H2 s.size (k + 1) = behind H2 s.size k) := by show _ = _; rw [HST.out, if_neg hge, List.append_nil]
          clear HST
          go_wp2
          go_roundw
          case rel => exact ⟨k + 1, by omega, by go_num, by rw [HST2.out]; exact hown, hB⟩
          case measure => simp [intOf]; omega
      · have hkn : k = H2.length := by omega
        subst hkn
        have hS5 := SlI.own hown
        rw [HE.out] at hS5
        go_wp2_with fail
        refine (same_yes _ _ H1 _ (HS34.out.below hB (Nat.le_refl _)) hS5 hl1).mono ?_
        rintro e w9 ⟨rfl, hB9⟩
        go_wp2
        go_ret
        exact ⟨rfl, (HBB4.out.trans (hB.mono HBB4.out.size)).trans (hB9.mono (by have := HBB4.out.size; have := hB.size; omega))⟩

set_option maxRecDepth 100000 in
set_option maxHeartbeats 400000 in
theorem walk_Shift (a0 : ByteArray) (a1 : Int) (a2 : ByteArray) (a3 : ByteArray) (a4 : Int) (a5 : Int) (w0 : a0.size ≤ maxLen) (w1 : (Lit.int .i64 a1).wf = true) (w2 : a2.size ≤ maxLen) (w3 : a3.size ≤ maxLen) (_ : (Lit.int .i64 a4).wf = true) (_ : (Lit.int .i64 a5).wf = true) (z3 : a3.size ≤ reachBytes) (w : World) :
    Calls Try.prog 3 #[.string a0, .int .i64 a1, .string a2, .string a3, .int .i64 a4, .int .i64 a5] w fun e w' => e = .returned (.bool true) ∧ Below w.heap.size w w' := by
  obtain ⟨b1, b2⟩ := wf_bounds w1
  go_enter Try.func3, Try.ntmps3
  go_wp2_with fail
  refine (laid_p a0 a2 a1 _ w0 w2 b1 b2).mono ?_
  rintro e w' ⟨bd, bx, r, t', pat', a, hv, rfl, _, hD, hI, g1, g2, hB, _, HV⟩
  have d4 := hD.c4
  cases hv with
  | false =>
    go_wp2
    go_ret
    exact ⟨rfl, hB⟩
  | true =>
    obtain ⟨hpe, P, hP⟩ := HV.out rfl
    subst hpe
    clear HV
    go_wp2_with fail
    refine (shifted_any _ bd bx r a3 t' pat' a P hD hI w2 z3 hP).mono ?_
    rintro e w5 ⟨rfl, hB2⟩
    go_wp2
    go_ret
    exact ⟨rfl, hB.trans (hB2.mono hB.size)⟩
end Go.Proofs.Ytjmkkkfloalliab
