/- (moment).variable, alone, done: what a cell makes of its operands. -/
import Derived.Test.YtpidikbhjiaogaaVh
namespace Go.Proofs.Ytpidikbhjiaogaa
open Go.RowKit

theorem new_cell {W : World} {D i : Nat} {cs : Array Value} {t : TypeId} {v : Value} (hD : W.heap.size = D) (h : cs[i]? = some v) : (W.alloc (.cells cs t)).cell? ⟨D, i, none⟩ = some v := by
  subst hD
  have := heap_alloc_new W (.cells cs t)
  simp only [World.cell?]
  rw [this]
  exact h
theorem old_cell {W : World} {a : Addr} {v : Value} {o : Obj} (h : W.cell? a = some v) : (W.alloc o).cell? a = some v := (World.cell?_alloc_lt W _ _ (cell_lt h)).trans h
theorem varE_ix (vs : List VM) (xs : List VA) (n : List UInt8) (hl : vs.length = xs.length) : (ixP (isV n) vs 0 = -1 ∧ varE vs xs n = erV 2) ∨ ∃ j, ∃ h : j < xs.length, ixP (isV n) vs 0 = (j : Int) ∧ varE vs xs n = (xs[j], 0) := by
  unfold varE
  rcases ix_find (isV n) vs 0 with ⟨h1, h2⟩ | ⟨j, hj, h1, h2⟩
  · rw [h1]; exact Or.inl ⟨rfl, if_pos (by decide)⟩
  · refine Or.inr ⟨j, by omega, by rw [h1]; simp, ?_⟩
    rw [h1, if_neg (by omega)]
    have e : ((0 + j : Nat) : Int).toNat = j := by omega
    rw [e, List.getD_eq_getElem?_getD, List.getElem?_eq_getElem (by omega)]
    rfl

set_option maxRecDepth 100000 in
set_option maxHeartbeats 2000000 in
theorem variable_any (vs : List VM) (xs : List VA) (ss : List (List UInt8)) (V X S : Option Addr) (vc xc sc : Nat) (N : ByteArray) (w : World) (hV : RdV w (.slice V vs.length vc) vs) (hX : RdX w (.slice X xs.length xc) xs) (_hS : RdW w (.slice S ss.length sc) ss) (hvl : vs.length ≤ 4611686018427387904) (_hsl : ss.length ≤ 4611686018427387904) (hl : vs.length = xs.length) (hx : ∀ v ∈ xs, OkV v) :
    Calls Try.prog 50 #[.agg #[.slice V vs.length vc, .slice X xs.length xc, .slice S ss.length sc], .string N] w fun e w' => e = outV (varE vs xs N.data.toList) ∧ Below w.heap.size w w' := by
  obtain ⟨W2, hW2⟩ : ∃ W, W = ((w.alloc (.cells #[.slice V vs.length vc, .slice X xs.length xc, .slice S ss.length sc] 60)).alloc (.cells #[.string N] 9)) := ⟨_, rfl⟩
  have hb2 : Below w.heap.size w W2 := by rw [hW2]; exact ((Below.refl _ _).alloc (Nat.le_refl _) _).alloc (by simp) _
  have hs2 : W2.heap.size = w.heap.size + 1 + 1 := by rw [hW2]; simp
  obtain ⟨W3, hW3⟩ : ∃ W, W = W2.alloc (.cells #[.int .i64 0, .int .i64 0, .bool false, .complex .f64 0 0] 64) := ⟨_, rfl⟩
  have hb3 : Below w.heap.size w W3 := by rw [hW3]; exact hb2.alloc (by omega) _
  have hs3 : W3.heap.size = w.heap.size + 1 + 1 + 1 := by rw [hW3]; simp [hs2]
  have hN : W3.cell? ⟨w.heap.size + 1, 0, none⟩ = some (.string N) := by rw [hW3, hW2]; exact old_cell (new_cell (by simp) rfl)
  have HI := Lib.hid (varIndex_any (.slice V vs.length vc) vs N (w.heap.size + 1) W3 (hV.below hb3) hvl (by omega) hN)
  have HX := Lib.hid hX
  rcases varE_ix vs xs N.data.toList hl with ⟨h1, h2⟩ | ⟨j, hj, h1, h2⟩
  · have H1 := Lib.hid h1
    rw [h2]
    have HO := Lib.hid (out_er 2)
    unfold zeroO at HO
    generalize outV (erV 2) = R at *
    have HW3 := Lib.hid hW3; have HW2 := Lib.hid hW2; have HB2 := Lib.hid hb2; have HS2 := Lib.hid hs2
    clear h1 h2 hV hX _hS hvl _hsl hl hx hN hb3 hs3 hs2 hb2
    subst hW3 hW2
    go_enter Try.func50, Try.ntmps50
    go_wp2_with fail
    refine HI.out.mono ?_
    rintro e w1 ⟨rfl, hb1⟩
    rw [H1.out]
    obtain ⟨hh, hbw⟩ := fwd4 HS2.out HB2.out hb1
    obtain ⟨d0, d1, d2, d3, f0, f1, f2, f3⟩ := at4 hh
    clear hb1
    go_wp2
    obtain ⟨⟨r0, r1, r2, r3⟩, hbf⟩ := fin4 hh (by omega) hbw (.int .i64 0) (.int .i64 0) (.bool false) (.complex .f64 0 0)
    refine bodyPost_ret ?_ rfl ⟨HO.out.symm, hbf⟩
    simp [results, Try.results50, go_sem, r0, r1, r2, r3]
  · have H1 := Lib.hid h1
    rw [h2]
    have hov := hx _ (List.getElem_mem hj)
    obtain ⟨b, o, rfl, hbw, hc0, hc1, hc2⟩ := hX.at_ hj
    generalize xs[j] = v at *
    have HOV := Lib.hid (fun W => operandOf_any v W hov)
    obtain ⟨p, hp⟩ : ∃ p, (v, (0 : Int)) = p := ⟨_, rfl⟩
    rw [hp] at HOV ⊢
    have HC := Lib.hid hc0; have HC1 := Lib.hid hc1; have HC2 := Lib.hid hc2
    generalize v.kd = vk at *
    generalize v.a = va at *
    generalize v.b = vb at *
    have hm0 : W3.cell? ⟨w.heap.size, 1, none⟩ = some (.slice (some ⟨b, o, none⟩) xs.length xc) := by rw [hW3, hW2]; exact old_cell (old_cell (new_cell rfl rfl))
    have HM := Lib.hid hm0
    have HB3 := Lib.hid hb3; have HS3 := Lib.hid hs3; have HB2 := Lib.hid hb2; have HS2 := Lib.hid hs2
    obtain ⟨k, x, t, c1, c2, er, hf⟩ := out_form p
    have HF := Lib.hid hf
    clear h1 h2 hV hX _hS hvl _hsl hl hx hN hb3 hs3 hs2 hb2 hm0 hc0 hc1 hc2 hf hov hp
    subst hW3 hW2
    go_enter Try.func50, Try.ntmps50
    go_wp2_with fail
    refine HI.out.mono ?_
    rintro e w1 ⟨rfl, hb1⟩
    rw [H1.out]
    have hbw1 := HB3.out.trans (hb1.mono HB3.out.size)
    have m0 := (hbw1.cell hbw).trans HC.out
    have m1 := (hbw1.cell hbw).trans HC1.out
    have m2 := (hbw1.cell hbw).trans HC2.out
    have m3 := (hb1.cell (by rw [HS3.out]; show w.heap.size < _; omega)).trans HM.out
    have HB1 := Lib.hid hb1
    clear hb1 hbw1
    go_wp2_with fail
    refine (HOV.out _).mono ?_
    rintro e w2 ⟨rfl, hb2⟩
    rw [HF.out]
    obtain ⟨hh, hbw⟩ := fwd4 HS2.out HB2.out (HB1.out.trans (hb2.mono HB1.out.size))
    obtain ⟨d0, d1, d2, d3, f0, f1, f2, f3⟩ := at4 hh
    clear hb2
    go_wp2
    obtain ⟨⟨r0, r1, r2, r3⟩, hbf⟩ := fin4 hh (by omega) hbw (.int .i64 k) (.int .i64 x) (.bool t) (.complex .f64 c1 c2)
    refine bodyPost_ret ?_ rfl ⟨HF.out.symm, hbf⟩
    simp [results, Try.results50, go_sem, r0, r1, r2, r3]

set_option maxRecDepth 100000 in
set_option maxHeartbeats 2000000 in
theorem alone_any (vs : List VM) (xs : List VA) (ss : List (List UInt8)) (V X S : Option Addr) (vc xc sc : Nat) (op a : Int) (N : ByteArray) (w : World) (hop : 1 ≤ op ∧ op ≤ 6) (h2 : op = 2 → inB a = true) (hV : RdV w (.slice V vs.length vc) vs) (hX : RdX w (.slice X xs.length xc) xs) (hS : RdW w (.slice S ss.length sc) ss) (hvl : vs.length ≤ 4611686018427387904) (hsl : ss.length ≤ 4611686018427387904) (hl : vs.length = xs.length) (hx : ∀ v ∈ xs, OkV v) :
    Calls Try.prog 42 #[.agg #[.slice V vs.length vc, .slice X xs.length xc, .slice S ss.length sc], .agg #[.int .i64 op, .int .i64 a, .string N]] w fun e w' => e = outV (leafE vs xs ss ⟨op, a, N.data.toList⟩) ∧ Below w.heap.size w w' := by
  rcases op_leaf hop with rfl | rfl | rfl | rfl | rfl | rfl
  · have HO := Lib.hid (out_num a)
    unfold numO at HO
    rw [show leafE vs xs ss ⟨1, a, N.data.toList⟩ = (numV a, 0) from rfl]
    generalize outV (numV a, 0) = R at *
    clear hV hX hS hvl hsl hl hx h2
    go_enter Try.func42, Try.ntmps42
    go_wp2_with (go_at_call 48; refine (number_any _ _).mono ?_; rintro e w1 ⟨rfl, rfl⟩)
    refine bodyPost_ret ?_ rfl ⟨HO.out.symm, ?_⟩
    · simp [results, Try.results42, go_sem]
    · exact ((((Below.refl _ _).alloc (Nat.le_refl _) _).alloc (by first | (simp; done) | (simp; omega)) _).alloc (by first | (simp; done) | (simp; omega)) _).alloc (by first | (simp; done) | (simp; omega)) _
  · have ha := h2 rfl
    obtain ⟨g1, g2, ge, hg⟩ := outC_form 0 a
    have HOC := Lib.hid hg
    have HA := Lib.hid (fun W => made_any 0 a W)
    have HPT := Lib.hid (fun W => point_any 0 a g1 g2 ge W hg)
    have e : leafE vs xs ss ⟨2, a, N.data.toList⟩ = ptE 0 a := by
      rw [show leafE vs xs ss ⟨2, a, N.data.toList⟩ = (ptV 0 a, 0) from rfl]
      unfold ptE; rw [if_pos (by rw [ha]; rfl)]
    rw [e]
    obtain ⟨p, hp⟩ : ∃ p, ptE 0 a = p := ⟨_, rfl⟩
    rw [hp] at HPT ⊢
    clear hV hX hS hvl hsl hl hx h2 ha hg hp e
    obtain ⟨k, x, t, c1, c2, er, hf⟩ := out_form (p)
    have HF := Lib.hid hf
    clear hf
    go_enter Try.func42, Try.ntmps42
    go_wp2_with fail
    refine (HA.out _).mono ?_
    rintro e w' ⟨rfl, rfl⟩
    rw [HOC.out]
    go_wp2_with fail
    refine (HPT.out _).mono ?_
    rintro e w1 ⟨rfl, hb1⟩
    rw [HF.out]
    obtain ⟨hh, hbw⟩ := fwd4 (show ((w.alloc _).alloc _).heap.size = w.heap.size + 1 + 1 by simp) (((Below.refl _ _).alloc (Nat.le_refl _) _).alloc (by simp) _) hb1
    obtain ⟨d0, d1, d2, d3, f0, f1, f2, f3⟩ := at4 hh
    clear hb1
    go_wp2
    obtain ⟨⟨r0, r1, r2, r3⟩, hbf⟩ := fin4 hh (by omega) hbw (.int .i64 k) (.int .i64 x) (.bool t) (.complex .f64 c1 c2)
    refine bodyPost_ret ?_ rfl ⟨HF.out.symm, hbf⟩
    simp [results, Try.results42, go_sem, r0, r1, r2, r3]
  · have HO := Lib.hid (out_tru true)
    unfold truO at HO
    rw [show leafE vs xs ss ⟨3, a, N.data.toList⟩ = (truV true, 0) from rfl]
    generalize outV (truV true, 0) = R at *
    clear hV hX hS hvl hsl hl hx h2
    go_enter Try.func42, Try.ntmps42
    go_wp2_with (go_at_call 51; refine (truth_any _ _).mono ?_; rintro e w1 ⟨rfl, rfl⟩)
    refine bodyPost_ret ?_ rfl ⟨HO.out.symm, ?_⟩
    · simp [results, Try.results42, go_sem]
    · exact ((((Below.refl _ _).alloc (Nat.le_refl _) _).alloc (by first | (simp; done) | (simp; omega)) _).alloc (by first | (simp; done) | (simp; omega)) _).alloc (by first | (simp; done) | (simp; omega)) _
  · have HO := Lib.hid (out_tru false)
    unfold truO at HO
    rw [show leafE vs xs ss ⟨4, a, N.data.toList⟩ = (truV false, 0) from rfl]
    generalize outV (truV false, 0) = R at *
    clear hV hX hS hvl hsl hl hx h2
    go_enter Try.func42, Try.ntmps42
    go_wp2_with (go_at_call 51; refine (truth_any _ _).mono ?_; rintro e w1 ⟨rfl, rfl⟩)
    refine bodyPost_ret ?_ rfl ⟨HO.out.symm, ?_⟩
    · simp [results, Try.results42, go_sem]
    · exact ((((Below.refl _ _).alloc (Nat.le_refl _) _).alloc (by first | (simp; done) | (simp; omega)) _).alloc (by first | (simp; done) | (simp; omega)) _).alloc (by first | (simp; done) | (simp; omega)) _
  · obtain ⟨W3, hW3⟩ : ∃ W, W = (((w.alloc (.cells #[.slice V vs.length vc, .slice X xs.length xc, .slice S ss.length sc] 60)).alloc (.cells #[.int .i64 5, .int .i64 a, .string N] 41)).alloc (.cells #[.int .i64 0, .int .i64 0, .bool false, .complex .f64 0 0] 64)) := ⟨_, rfl⟩
    have hb3 : Below w.heap.size w W3 := by rw [hW3]; exact (((Below.refl _ _).alloc (Nat.le_refl _) _).alloc (by simp) _).alloc (by simp; omega) _
    have HC := Lib.hid (variable_any vs xs ss V X S vc xc sc N W3 (hV.below hb3) (hX.below hb3) (hS.below hb3) hvl hsl hl hx)
    rw [show leafE vs xs ss ⟨5, a, N.data.toList⟩ = varE vs xs N.data.toList from rfl]
    generalize varE vs xs N.data.toList = p at *
    clear hV hX hS hvl hsl hl hx h2 hb3
    subst hW3
    obtain ⟨k, x, t, c1, c2, er, hf⟩ := out_form (p)
    have HF := Lib.hid hf
    clear hf
    go_enter Try.func42, Try.ntmps42
    go_wp2_with fail
    refine (HC.out).mono ?_
    rintro e w1 ⟨rfl, hb1⟩
    rw [HF.out]
    obtain ⟨hh, hbw⟩ := fwd4 (show ((w.alloc _).alloc _).heap.size = w.heap.size + 1 + 1 by simp) (((Below.refl _ _).alloc (Nat.le_refl _) _).alloc (by simp) _) hb1
    obtain ⟨d0, d1, d2, d3, f0, f1, f2, f3⟩ := at4 hh
    clear hb1
    go_wp2
    obtain ⟨⟨r0, r1, r2, r3⟩, hbf⟩ := fin4 hh (by omega) hbw (.int .i64 k) (.int .i64 x) (.bool t) (.complex .f64 c1 c2)
    refine bodyPost_ret ?_ rfl ⟨HF.out.symm, hbf⟩
    simp [results, Try.results42, go_sem, r0, r1, r2, r3]
  · obtain ⟨W3, hW3⟩ : ∃ W, W = (((w.alloc (.cells #[.slice V vs.length vc, .slice X xs.length xc, .slice S ss.length sc] 60)).alloc (.cells #[.int .i64 6, .int .i64 a, .string N] 41)).alloc (.cells #[.int .i64 0, .int .i64 0, .bool false, .complex .f64 0 0] 64)) := ⟨_, rfl⟩
    have hb3 : Below w.heap.size w W3 := by rw [hW3]; exact (((Below.refl _ _).alloc (Nat.le_refl _) _).alloc (by simp) _).alloc (by simp; omega) _
    have HC := Lib.hid (strContains_any (.slice S ss.length sc) ss N W3 (hS.below hb3) (by omega))
    have HO := Lib.hid (out_tru (decide (N.data.toList ∈ ss)))
    unfold truO at HO
    rw [show leafE vs xs ss ⟨6, a, N.data.toList⟩ = (truV (decide (N.data.toList ∈ ss)), 0) from rfl]
    generalize outV (truV (decide (N.data.toList ∈ ss)), 0) = R at *
    generalize decide (N.data.toList ∈ ss) = tt at *
    clear hV hX hS hvl hsl hl hx h2 hb3
    subst hW3
    go_enter Try.func42, Try.ntmps42
    go_wp2_with fail
    refine HC.out.mono ?_
    rintro e w1 ⟨rfl, rfl⟩
    go_wp2_with (go_at_call 51; refine (truth_any _ _).mono ?_; rintro e w1 ⟨rfl, rfl⟩)
    refine bodyPost_ret ?_ rfl ⟨HO.out.symm, ?_⟩
    · simp [results, Try.results42, go_sem]
    · exact ((((Below.refl _ _).alloc (Nat.le_refl _) _).alloc (by first | (simp; done) | (simp; omega)) _).alloc (by first | (simp; done) | (simp; omega)) _).alloc (by first | (simp; done) | (simp; omega)) _
end Go.Proofs.Ytpidikbhjiaogaa
