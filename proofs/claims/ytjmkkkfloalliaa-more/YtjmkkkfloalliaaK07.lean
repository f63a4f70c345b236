import Derived.Test.YtjmkkkfloalliaaK06
namespace Go.Proofs.Ytjmkkkfloalliaa
set_option linter.unusedVariables false
open Go.RowKit

set_option maxRecDepth 100000 in
set_option maxHeartbeats 1600000 in
theorem again_any (w : World) (bd bx rate : Nat) (t pat a T : ByteArray) (all : Bool) (P : Q.Pat) (lo hi : Nat) (en : Bool) (hD : Dsk w bd bx rate t pat true) (hI : IdxOf w bx rate t.data.toList a) (hp : pat.size ≤ maxLen) (hP : Q.parse (L pat) = .ok P)
    (hT : T.size ≤ 10) (h1 : Q.isRep (Q.dnext (L T)) = true) (h2 : Q.drep (L T) = some (lo, hi, en, false, [])) (h3 : all = true → lo ≤ 1 ∧ (en = true ∨ 1 ≤ hi)) :
    Calls Try.prog 48 #[.pointer (some ⟨bd, 0, none⟩), .string T, .bool all] w fun e w' => e = .returned (.bool true) ∧ Below w.heap.size w w' := by
  obtain ⟨d, m, hd1, hd2, hd3⟩ := pat_den hP
  have HP := hid hP
  have HPA : Hid (∀ u, Q.acc P u = true ↔ (u ≠ [] ∧ d.lang u)) := hd3
  have hts : t.size ≤ 200 := by rw [← size_len]; exact hI.len
  have HTL : Hid (t.data.toList.length ≤ 200) := hI.len
  have hps : pat.size ≤ 40 := by rw [← L_len]; exact hd2
  obtain ⟨q, hq⟩ : ∃ q : ByteArray, q = ⟨#[40]⟩ ++ pat ++ ⟨#[41]⟩ ++ T := ⟨_, rfl⟩
  have hqs : q.size ≤ maxLen := by rw [hq, ByteArray.size_append, ByteArray.size_append, ByteArray.size_append]; show 1 + pat.size + 1 + T.size ≤ maxLen; unfold maxLen; omega
  have hF : Fits q (fun u => ∃ k, lo ≤ k ∧ (en = true ∨ k ≤ hi) ∧ Q.Pow d.lang k u) := fits_of (s := 40 :: (L pat ++ (41 :: L T))) (by rw [hq, L_app, L_app, L_app, List.append_assoc, List.append_assoc]; rfl) (Q.br_rep hd1 h1 h2)
  have HF := hid hF
  have HQ := hid hq
  have H3 := hid h3
  clear hP hd1 hd2 hd3 hF hq h1 h2 h3
  have d0 := hD.c0; have d3 := hD.c3
  have hbd := Blk.lt hD
  have hIw : IdxOf w.drew bx rate t.data.toList a := ⟨hI.idx, hI.ah, hI.len, hI.r1, hI.r2⟩
  go_enter Try.func48, Try.ntmps48
  go_wp2_with fail
  go_region_held (fun w' => w'.cell? ⟨bd, 0, none⟩ = some (.pointer (some ⟨bx, 0, none⟩)) ∧ w'.cell? ⟨bd, 3, none⟩ = some (.string pat))
    (first | (exact ⟨(hB2.cell hbd).trans d0, (hB2.cell hbd).trans d3⟩) | go_keep)
    ((go_at_call 44; refine (find_ok hIw pat hp P HP.out).mono ?_; rintro e w2 ⟨gl, rfl, hgl, hS2, hB2⟩))
  rename_i hHeld; clear hHeld
  have hD2 : Dsk w2 bd bx rate t pat true := Blk.below (Blk.drew hD) hB2 hbd
  have hX2 := hIw.below hB2 hI.lt
  have hBB2 : Below w.heap.size w w2 := (Below.refl _ w).drew.trans hB2
  have hX2d : IdxOf w2.drew bx rate t.data.toList a := ⟨hX2.idx, hX2.ah, hX2.len, hX2.r1, hX2.r2⟩
  clear hD hI d0 d3 hB2 hbd hIw hgl
  have d0 := hD2.c0; have d3 := hD2.c3
  have hbd := Blk.lt hD2
  go_wp2_with fail
  go_region_held (fun w' => w'.cell? ⟨bd, 0, none⟩ = some (.pointer (some ⟨bx, 0, none⟩)) ∧ w'.cell? ⟨bd, 3, none⟩ = some (.string pat))
    (first | (exact ⟨(hB3.cell hbd).trans d0, (hB3.cell hbd).trans d3⟩) | go_keep)
    ((go_at_call 44; rw [← HQ.out]; refine (find_of hX2d q hqs _ HF.out).mono ?_; rintro e w3 ⟨v3, E3, rfl, HR3, hB3⟩))
  rename_i hHeld; clear hHeld
  have hBB3 : Below w.heap.size w w3 := hBB2.drew.trans (hB3.mono hBB2.size)
  have hS3 := SlI.below (w := w2.drew) hS2 hB3 (Nat.le_refl _)
  clear hD2 hX2 hX2d hB3 hBB2 d0 d3 hbd hS2 HF
  rcases HR3.out with ⟨rfl, P', g3, hP', hA', rfl, hT3⟩ | ⟨hE | hE, rfl⟩
  · have hl1 : (Q.hits t.data.toList P').length ≤ 1000 := Q.hits_len _ _ HTL.out
    have hl2 : (Q.hits t.data.toList P).length ≤ 1000 := Q.hits_len _ _ HTL.out
    cases all with
    | true =>
      obtain ⟨k1, k2⟩ := H3.out rfl
      have he : Q.hits t.data.toList P' = Q.hits t.data.toList P := Q.hits_of hA' HPA.out fun p => ⟨Q.at_rep, Q.rep_at k1 k2⟩
      have HW : Hid (Calls Try.prog 46 #[.slice (some ⟨gl, 0, none⟩) (Q.hits t.data.toList P).length (Q.hits t.data.toList P).length, .slice (some ⟨g3, 0, none⟩) (Q.hits t.data.toList P').length (Q.hits t.data.toList P').length] w3 fun e w' => e = .returned (.bool true) ∧ Below w3.heap.size w3 w') := by
        rw [he] at hT3 ⊢
        exact same_yes _ _ _ w3 hS3 hT3 hl2
      clear he hT3 hS3 hA' hP' HR3 HPA HP H3 hl1 hl2 k1 k2
      go_wp2_with fail
      refine HW.out.mono ?_
      rintro e w4 ⟨rfl, hB4⟩
      go_wp2
      go_ret
      exact ⟨rfl, hBB3.trans (hB4.mono hBB3.size)⟩
    | false =>
      have HW := hid (within_yes w3 g3 gl _ _ hT3 hS3 hl1 hl2 (Q.hits_rise _ _) (Q.hits_rise _ _) (fun x hx => (Q.mem_at HPA.out).2 ⟨((Q.mem_at hA').1 hx).1, Q.at_rep ((Q.mem_at hA').1 hx).2⟩) (hits_small HTL.out) (hits_small HTL.out))
      clear hT3 hS3 hA' hP' HR3 HPA HP H3 hl1 hl2
      go_wp2_with fail
      refine HW.out.mono ?_
      rintro e w4 ⟨rfl, hB4⟩
      go_wp2
      go_ret
      exact ⟨rfl, hBB3.trans (hB4.mono hBB3.size)⟩
  · subst hE
    go_wp2
    go_ret
    exact ⟨rfl, hBB3⟩
  · subst hE
    go_wp2
    go_ret
    exact ⟨rfl, hBB3⟩

set_option maxRecDepth 100000 in
set_option maxHeartbeats 1600000 in
theorem more_any (w : World) (bd bx rate : Nat) (t pat a : ByteArray) (P : Q.Pat) (hD : Dsk w bd bx rate t pat true) (hI : IdxOf w bx rate t.data.toList a) (hp : pat.size ≤ maxLen) (hP : Q.parse (L pat) = .ok P) :
    Calls Try.prog 25 #[.pointer (some ⟨bd, 0, none⟩)] w fun e w' => e = .returned (.bool true) ∧ Below w.heap.size w w' := by
  obtain ⟨d, m, hd1, hd2, hd3⟩ := pat_den hP
  have HP := hid hP
  have hps : pat.size ≤ 40 := by rw [← L_len]; exact hd2
  have HA : Hid (∀ w', Below w.heap.size w w' → ∀ (T : ByteArray) (all : Bool) (lo hi : Nat) (en : Bool), T.size ≤ 10 → Q.isRep (Q.dnext (L T)) = true → Q.drep (L T) = some (lo, hi, en, false, []) → (all = true → lo ≤ 1 ∧ (en = true ∨ 1 ≤ hi)) → Calls Try.prog 48 #[.pointer (some ⟨bd, 0, none⟩), .string T, .bool all] w' fun e w'' => e = .returned (.bool true) ∧ Below w'.heap.size w' w'') :=
    fun w' h T all lo hi en k1 k2 k3 k4 => again_any w' bd bx rate t pat a T all P lo hi en (Blk.below hD h (Blk.lt hD)) (hI.below h hI.lt) hp HP.out k1 k2 k3 k4
  obtain ⟨q, hq⟩ : ∃ q : ByteArray, q = ⟨#[40]⟩ ++ pat ++ ⟨#[41, 123, 48, 125]⟩ := ⟨_, rfl⟩
  have hqs : q.size ≤ maxLen := by rw [hq, ByteArray.size_append, ByteArray.size_append]; show 1 + pat.size + 4 ≤ maxLen; unfold maxLen; omega
  have hF : Fits q (fun u => ∃ k, 0 ≤ k ∧ (false = true ∨ k ≤ 0) ∧ Q.Pow d.lang k u) := fits_of (s := 40 :: (L pat ++ (41 :: [123, 48, 125]))) (by rw [hq, L_app, L_app]; rfl) (Q.br_rep hd1 (by rfl) (by rfl))
  have HF := hid hF
  have HQ := hid hq
  have HD := hid hD
  have HI := hid hI
  clear hP hd1 hd2 hd3 hF hq hD hI
  go_enter Try.func25, Try.ntmps25
  go_wp2_with fail
  refine (HA.out w (Below.refl _ _) ⟨#[43]⟩ true 1 0 true (by decide) (by rfl) (by rfl) (fun _ => ⟨by decide, .inl rfl⟩)).mono ?_
  rintro e w1 ⟨rfl, hb1⟩
  go_wp2_with fail
  refine (HA.out w1 hb1 ⟨#[63]⟩ true 0 1 false (by decide) (by rfl) (by rfl) (fun _ => ⟨by decide, .inr (by decide)⟩)).mono ?_
  rintro e w2 ⟨rfl, hB⟩
  have hb2 := hb1.trans (hB.mono hb1.size)
  clear hb1 hB
  go_wp2_with fail
  refine (HA.out w2 hb2 ⟨#[42]⟩ true 0 0 true (by decide) (by rfl) (by rfl) (fun _ => ⟨by decide, .inl rfl⟩)).mono ?_
  rintro e w3 ⟨rfl, hB⟩
  have hb3 := hb2.trans (hB.mono hb2.size)
  clear hb2 hB
  go_wp2_with fail
  refine (HA.out w3 hb3 ⟨#[123, 49, 125]⟩ true 1 1 false (by decide) (by rfl) (by rfl) (fun _ => ⟨by decide, .inr (by decide)⟩)).mono ?_
  rintro e w4 ⟨rfl, hB⟩
  have hb4 := hb3.trans (hB.mono hb3.size)
  clear hb3 hB
  go_wp2_with fail
  refine (HA.out w4 hb4 ⟨#[123, 48, 44, 49, 125]⟩ true 0 1 false (by decide) (by rfl) (by rfl) (fun _ => ⟨by decide, .inr (by decide)⟩)).mono ?_
  rintro e w5 ⟨rfl, hB⟩
  have hb5 := hb4.trans (hB.mono hb4.size)
  clear hb4 hB
  go_wp2_with fail
  refine (HA.out w5 hb5 ⟨#[123, 50, 125]⟩ false 2 2 false (by decide) (by rfl) (by rfl) (fun h => by cases h)).mono ?_
  rintro e w6 ⟨rfl, hB⟩
  have hb6 := hb5.trans (hB.mono hb5.size)
  clear hb5 hB
  go_wp2_with fail
  refine (HA.out w6 hb6 ⟨#[123, 50, 44, 51, 125]⟩ false 2 3 false (by decide) (by rfl) (by rfl) (fun h => by cases h)).mono ?_
  rintro e w7 ⟨rfl, hB⟩
  have hb7 := hb6.trans (hB.mono hb6.size)
  clear hb6 hB HA
  have hD7 : Dsk w7 bd bx rate t pat true := Blk.below HD.out hb7 (Blk.lt HD.out)
  have hI7 := HI.out.below hb7 HI.out.lt
  have hI7d : IdxOf w7.drew bx rate t.data.toList a := ⟨hI7.idx, hI7.ah, hI7.len, hI7.r1, hI7.r2⟩
  have d0 := hD7.c0; have d3 := hD7.c3
  have hbd := Blk.lt hD7
  go_wp2_with fail
  go_region_held (fun w' => w'.cell? ⟨bd, 0, none⟩ = some (.pointer (some ⟨bx, 0, none⟩)) ∧ w'.cell? ⟨bd, 3, none⟩ = some (.string pat))
    (first | (exact ⟨(hB3.cell hbd).trans d0, (hB3.cell hbd).trans d3⟩) | go_keep)
    ((go_at_call 44; rw [← HQ.out]; refine (find_of hI7d q hqs _ HF.out).mono ?_; rintro e w8 ⟨v3, E3, rfl, HR3, hB3⟩))
  rename_i hHeld; clear hHeld
  have hBB3 : Below w.heap.size w w8 := hb7.drew.trans (hB3.mono hb7.size)
  clear hD7 hI7 hI7d hB3 d0 d3 hbd HF
  rcases HR3.out with ⟨rfl, P', g3, hP', hA', rfl, hT3⟩ | ⟨hE | hE, rfl⟩
  · have h0 : (Q.hits t.data.toList P').length = 0 := by
      rw [Q.hits_nil hA' (fun u => ?_)]
      · rfl
      · rintro ⟨k, _, h | h, hu⟩
        · cases h
        · obtain rfl : k = 0 := by omega
          exact hu
    rw [h0]
    clear HR3 hP' hA' hT3 h0
    go_wp2
    go_ret
    exact ⟨rfl, hBB3⟩
  · subst hE
    clear HR3
    go_wp2
    go_ret
    exact ⟨rfl, hBB3⟩
  · subst hE
    clear HR3
    go_wp2
    go_ret
    exact ⟨rfl, hBB3⟩

set_option maxRecDepth 100000 in
set_option maxHeartbeats 400000 in
theorem walk_More (a0 : ByteArray) (a1 : Int) (a2 : ByteArray) (a3 : ByteArray) (a4 : Int) (a5 : Int) (w0 : a0.size ≤ maxLen) (w1 : (Lit.int .i64 a1).wf = true) (w2 : a2.size ≤ maxLen) (w3 : a3.size ≤ maxLen) (_ : (Lit.int .i64 a4).wf = true) (_ : (Lit.int .i64 a5).wf = true) (w : World) :
    Calls Try.prog 11 #[.string a0, .int .i64 a1, .string a2, .string a3, .int .i64 a4, .int .i64 a5] w fun e w' => e = .returned (.bool true) ∧ Below w.heap.size w w' := by
  obtain ⟨b1, b2⟩ := wf_bounds w1
  go_enter Try.func11, Try.ntmps11
  go_wp2_with fail
  refine (laid_p a0 a2 a1 _ w0 w2 b1 b2).mono ?_
  rintro e w' ⟨bd, bx, r, t', pat', a, hv, rfl, _, hD, hI, g1, g2, hB, _, HV⟩
  have d4 := hD.c4
  cases hv with
  | false =>
    go_wp2
    go_ret
    exact ⟨rfl, hB⟩
  | true =>
    obtain ⟨hpe, P, hP⟩ := HV.out rfl
    subst hpe
    clear HV
    go_wp2_with fail
    refine (more_any _ bd bx r t' pat' a P hD hI w2 hP).mono ?_
    rintro e w5 ⟨rfl, hB2⟩
    go_wp2
    go_ret
    exact ⟨rfl, hB.trans (hB2.mono hB.size)⟩
end Go.Proofs.Ytjmkkkfloalliaa

