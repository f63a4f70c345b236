import Derived.Test.YtjmkkkfloalliabYJ
-- Ahead, Begins, join, a byte's place
namespace Go.Proofs.Ytjmkkkfloalliab
set_option linter.unusedVariables false
open Go.RowKit

theorem nz_u (a : Nat) : ((a : Int) != 0) = (a != 0) := by
  rw [Bool.eq_iff_iff]
  simp only [bne_iff_ne, ne_eq]
  exact ⟨fun h e => h (by rw [e]; rfl), fun h e => h (by omega)⟩

set_option maxRecDepth 10000 in
set_option maxHeartbeats 800000 in
theorem Begins_any (b : Nat) (p : Q.Pat) (s : Nat) (w : World) (hP : PaT w b p) (hs : s < 2 ^ 49) :
    Calls Try.prog 53 #[.pointer (some ⟨b, 0, none⟩), .int .u64 (s : Int)] w fun e w' => e = .returned (.bool (s &&& p.begins != 0)) ∧ w' = w := by
  have cb := hP.cb
  obtain ⟨A, hAe⟩ : ∃ A, A = s &&& p.begins := ⟨_, rfl⟩
  have hA : bits .and .u64 (s : Int) (p.begins : Int) = (A : Int) := by rw [hAe]; exact and_u hs (Q.lt64 hP.ok hP.ok.b)
  rw [← hAe, ← nz_u]
  clear hAe hP
  go_enter Try.func53, Try.ntmps53
  go_wp2
  go_ret
  exact ⟨rfl, rfl⟩

set_option maxRecDepth 10000 in
set_option maxHeartbeats 1600000 in
theorem Ahead_any (b : Nat) (p : Q.Pat) (s : Nat) (c : UInt8) (w : World) (hP : PaT w b p) (hs : s < 2 ^ 49) :
    Calls Try.prog 67 #[.pointer (some ⟨b, 0, none⟩), .int .u64 (s : Int), .int .u8 (c.toNat : Int)] w fun e w' => e = .returned (.int .u64 ((Q.aheadOf p s c.toNat : Nat) : Int)) ∧ w' = w := by
  have hsz := hP.ok.size
  have c0 := hP.c0
  have HP : Hid (PaT w b p) := hP
  have hc256 : c.toNat < 256 := c.toNat_lt
  have ctk := hP.ct c.toNat hc256
  obtain ⟨R, hRe⟩ : ∃ R, R = Q.aheadOf p s c.toNat := ⟨_, rfl⟩
  have hR : bits .and .u64 ((Q.aheadTo p s p.size : Nat) : Int) ((p.takes.getD c.toNat 0 : Nat) : Int) = (R : Int) := by
    rw [hRe]
    exact and_u (Q.lt64 hP.ok (Q.aheadTo_lt hP.ok s _)) (Q.lt64 hP.ok (hP.ok.t _))
  rw [← hRe]
  generalize p.takes.getD c.toNat 0 = TK at *
  clear hRe hP
  go_enter Try.func67, Try.ntmps67
  go_wp2
  go_loop [7, 8] (fun x i => ∃ k : Nat, k ≤ p.size ∧ i = .int .i64 k ∧ x = .int .u64 ((Q.aheadTo p s k : Nat) : Int)) (fun _ i => p.size - (intOf i).toNat)
  case atStart => exact ⟨0, by omega, rfl, rfl⟩
  case round =>
    obtain ⟨k, hk, rfl, rfl⟩ := hrel
    by_cases hlt : k < p.size
    · have h2k : 2 ^ k < 2 ^ 49 := Nat.pow_lt_pow_right (by decide) (by omega)
      obtain ⟨B, hBe⟩ : ∃ B, B = 2 ^ k := ⟨_, rfl⟩
      obtain ⟨A, hAe⟩ : ∃ A, A = s &&& B := ⟨_, rfl⟩
      have HB : Hid (B = 2 ^ k) := hBe
      have hA : bits .and .u64 (s : Int) (B : Int) = (A : Int) := by rw [hAe]; exact and_u hs (by rw [hBe]; exact h2k)
      have hAB := and_bit' s k B A hBe hAe
      have h48 : k ≤ 48 := by omega
      clear hBe hAe h2k
      cases hb : s.testBit k with
      | false =>
        rw [hb] at hAB
        have HE : Hid (Q.aheadTo p s (k + 1) = Q.aheadTo p s k) := by show _ = _; simp [Q.aheadTo, hb]
        go_wp2_with (go_at_call 83; refine (bit_any k B _ h48 HB).mono ?_; rintro e w1 ⟨rfl, rfl⟩)
        go_round
        case rel => exact ⟨k + 1, by omega, by go_num, by rw [HE.out]⟩
        case measure => simp [intOf]; omega
      | true =>
        rw [hb] at hAB
        have hk49 : k < 49 := by omega
        have ca := HP.out.ca k hk49
        have hks : (k : Int) < 49 := by omega
        have hX : p.ahead.getD k 0 < 2 ^ 49 := Q.lt64 HP.out.ok (HP.out.ok.a k)
        have hY : Q.aheadTo p s k < 2 ^ 49 := Q.lt64 HP.out.ok (Q.aheadTo_lt HP.out.ok s k)
        obtain ⟨O, hOe⟩ : ∃ O, O = Q.aheadTo p s k ||| p.ahead.getD k 0 := ⟨_, rfl⟩
        have hO : bits .or .u64 ((Q.aheadTo p s k : Nat) : Int) ((p.ahead.getD k 0 : Nat) : Int) = (O : Int) := by rw [hOe]; exact or_u hY hX
        have HE : Hid (Q.aheadTo p s (k + 1) = O) := by show _ = _; rw [hOe]; simp [Q.aheadTo, hb]
        generalize p.ahead.getD k 0 = X at *
        generalize Q.aheadTo p s k = Y at *
        clear hOe
        go_wp2_with (go_at_call 83; refine (bit_any k B _ h48 HB).mono ?_; rintro e w1 ⟨rfl, rfl⟩)
        go_round
        case rel => exact ⟨k + 1, by omega, by go_num, by rw [HE.out]⟩
        case measure => simp [intOf]; omega
    · have : k = p.size := by omega
      subst this
      have hcs : (c.toNat : Int) < 256 := by omega
      go_wp2
      go_ret
      exact ⟨rfl, rfl⟩

/-- a span as a value -/
def spanV (a : Q.Span) : Value := .agg #[.int .u64 (a.first : Int), .int .u64 (a.last : Int), .bool a.empty]

set_option maxRecDepth 10000 in
set_option maxHeartbeats 1600000 in
theorem pjoin_any (b : Nat) (p : Q.Pat) (x y : Q.Span) (w : World) (hP : PaT w b p) (hx : Q.SpanOk p x) (hy : Q.SpanOk p y) :
    Calls Try.prog 80 #[.pointer (some ⟨b, 0, none⟩), spanV x, spanV y] w fun e w' => e = .returned (spanV (Q.join x y p).1) ∧ PaT w' b (Q.join x y p).2 ∧ Keep [b] w w' := by
  have hlt := hP.blk.lt
  have HP : Hid (∀ o1 o2 o3, PaT (((w.alloc o1).alloc o2).alloc o3) b p) := fun o1 o2 o3 => ((hP.alloc o1).alloc o2).alloc o3
  have hxl := hx.2
  have x1 := Q.lt64 hP.ok hx.1
  have x2 := Q.lt64 hP.ok hx.2
  have y1 := Q.lt64 hP.ok hy.1
  have y2 := Q.lt64 hP.ok hy.2
  obtain ⟨xf, xl, xe⟩ := x
  obtain ⟨yf, yl, ye⟩ := y
  simp only at x1 x2 y1 y2 hxl
  obtain ⟨O1, hO1e⟩ : ∃ O, O = xf ||| yf := ⟨_, rfl⟩
  obtain ⟨O2, hO2e⟩ : ∃ O, O = yl ||| xl := ⟨_, rfl⟩
  have hO1 : bits .or .u64 (xf : Int) (yf : Int) = (O1 : Int) := by rw [hO1e]; exact or_u x1 y1
  have hO2 : bits .or .u64 (yl : Int) (xl : Int) = (O2 : Int) := by rw [hO2e]; exact or_u y2 x2
  have HJ : Hid (Q.join ⟨xf, xl, xe⟩ ⟨yf, yl, ye⟩ p = (⟨if xe = true then O1 else xf, if ye = true then O2 else yl, xe && ye⟩, Q.link xl yf p)) := by show _ = _; unfold Q.join; rw [hO1e, hO2e]
  rw [HJ.out]
  clear HJ hP hO1e hO2e hx hy
  unfold spanV
  simp only
  cases xe <;> cases ye <;>
  · go_enter Try.func80, Try.ntmps80
    go_wp2_with fail
    refine (link_any b p xl yf _ (HP.out _ _ _) hxl y1).mono ?_
    rintro e w1 ⟨rfl, hP1, hK1⟩
    have hs1 := hK1.size
    have BX := BlkT.keep (BlkT.alloc (BlkT.alloc (BlkT.new w _ _) _) _) hK1 (by simp; omega)
    have BY := BlkT.keep (BlkT.alloc (BlkT.new (w.alloc _) _ _) _) hK1 (by simp; omega)
    have BZ := BlkT.keep (BlkT.new ((w.alloc _).alloc _) _ _) hK1 (by simp; omega)
    simp only [World.size_alloc] at hs1 BX BY BZ
    have hKw : Keep [b] w w1 := (((Keep.refl [b] w).alloc _).alloc _).alloc _ |>.trans hK1
    have bx0 := BX.cell 0; have bx1 := BX.cell 1; have bx2 := BX.cell 2
    have by0 := BY.cell 0; have by1 := BY.cell 1; have by2 := BY.cell 2
    have bz0 := BZ.cell 0; have bz1 := BZ.cell 1; have bz2 := BZ.cell 2
    have fz := BZ.frozen
    simp only [List.getElem?_cons_zero, List.getElem?_cons_succ] at bx0 bx1 bx2 by0 by1 by2 bz0 bz1 bz2
    have HPE : Hid (PaT w1 b (Q.link xl yf p)) := hP1
    have HKE : Hid (Keep [b] w w1) := hKw
    have m0 : w.heap.size < w1.heap.size := by omega
    have m1 : w.heap.size + 1 < w1.heap.size := by omega
    have m2 : w.heap.size + 1 + 1 < w1.heap.size := by omega
    clear hK1 hP1 hKw BX BY BZ
    go_wp2
    first
      | exact bodyPost_ret (v := .agg #[.int .u64 (xf : Int), .int .u64 (yl : Int), .bool false]) (by simp [results, Try.results80, go_sem, *]) rfl ⟨rfl, (((HPE.out.other (by simp; omega) _).other (by simp; omega) _).other (by simp; omega) _).alloc _, (((HKE.out.setNew (by simp; omega) _).setNew (by simp; omega) _).setNew (by simp; omega) _).alloc _⟩
      | exact bodyPost_ret (v := .agg #[.int .u64 (xf : Int), .int .u64 (O2 : Int), .bool false]) (by simp [results, Try.results80, go_sem, *]) rfl ⟨rfl, (((HPE.out.other (by simp; omega) _).other (by simp; omega) _).other (by simp; omega) _).alloc _, (((HKE.out.setNew (by simp; omega) _).setNew (by simp; omega) _).setNew (by simp; omega) _).alloc _⟩
      | exact bodyPost_ret (v := .agg #[.int .u64 (O1 : Int), .int .u64 (yl : Int), .bool false]) (by simp [results, Try.results80, go_sem, *]) rfl ⟨rfl, (((HPE.out.other (by simp; omega) _).other (by simp; omega) _).other (by simp; omega) _).alloc _, (((HKE.out.setNew (by simp; omega) _).setNew (by simp; omega) _).setNew (by simp; omega) _).alloc _⟩
      | exact bodyPost_ret (v := .agg #[.int .u64 (O1 : Int), .int .u64 (O2 : Int), .bool true]) (by simp [results, Try.results80, go_sem, *]) rfl ⟨rfl, (((HPE.out.other (by simp; omega) _).other (by simp; omega) _).other (by simp; omega) _).alloc _, (((HKE.out.setNew (by simp; omega) _).setNew (by simp; omega) _).setNew (by simp; omega) _).alloc _⟩
end Go.Proofs.Ytjmkkkfloalliab
