/- Own texts, joined: Bf, Bg. -/
import Derived.Test.YtdelihhbmagphaaGreatDoorR20
import Derived.StillTailTactics
namespace Go.Proofs.YtdelihhbmagphaaGreatDoor.Ch
open Go.RowKit
theorem ret_true {b B : Nat} {w w' : World} {o : Option CH} {c' : CH} (ho : o = some c') (hk : KeptB b B w w') (hr : Rdr b B 44 w' c') : MPost b B w o (.returned (.bool true)) w' := by subst ho; exact ⟨hk, rfl, hr⟩
set_option maxRecDepth 100000 in
set_option maxHeartbeats 8000000 in
theorem name_m : Method 31 nameS := by
 intro b B w0 w c eV vV sV tV sp tp d F A cp r h hw hB hd hrl hr _ _
 obtain ⟨w1, hw1⟩ : ∃ W, W = w.alloc (.cells #[.int .i64 d, .string F, .slice A r.length cp] 51) := ⟨_, rfl⟩
 have hb1 : Below w.heap.size w w1 := hw1 ▸ (Below.refl w.heap.size w).alloc (Nat.le_refl _) _
 have d2 : w1.cell? ⟨w.heap.size, 2, none⟩ = some (.slice A r.length cp) := by rw [hw1]; simp
 have d0 : w1.cell? ⟨w.heap.size, 0, none⟩ = some (.int .i64 d) := by rw [hw1]; simp
 have h1 := (h.below hw).below hb1
 have hle0 := h.le
 have hzw := hw.size
 have HD := Lib.hid (isNew_any h1)
 have HK : Hid (KeptB b B w w1) := KeptB.of_below hb1 (by omega)
 have HR := Lib.hid (hr.below hb1); have H1 := Lib.hid h1; have HW := Lib.hid hw1
 obtain ⟨b0, _⟩ := h1.cells
 have g0 := h1.frozen 0
 clear h hw hB h1 hr hb1 hw1
 obtain ⟨q1, hq1⟩ : ∃ q, c.nm.isEmpty = q := ⟨_, rfl⟩
 have hv0 : nameS c d r = if (q1 && decide (d = 0) && decide (r.length = 1) && nameB (wd r 0)) = true then some { c with nm := wd r 0 } else none := by unfold nameS; rw [hq1]
 have HV0 := Lib.hid hv0
 rw [hq1] at HD
 clear hq1 hv0
 go_enter Tryz.func31, Tryz.ntmps31
 go_wp2_with fail
 rw [← HW.out]
 refine HD.out.mono ?_
 rintro e w2 ⟨rfl, h2⟩
 obtain rfl := h2
 cases q1 with
 | false =>
  have hv : nameS c d r = none := HV0.out
  have HV := Lib.hid hv; clear hv
  go_wp2
  go_ret
  exact MPost.no HV.out HK.out
 | true =>
  by_cases hd0 : (0 : Int) < (d : Int)
  ·have hv : nameS c d r = none := by rw [HV0.out, decide_eq_false (show ¬ d = 0 by omega)]; rfl
   have HV := Lib.hid hv; clear hv
   go_wp2
   go_ret
   exact MPost.no HV.out HK.out
  ·obtain rfl : d = 0 := by omega
   by_cases hr1 : (r.length : Int) = 1
   ·have hr1' : r.length = 1 := by omega
    obtain ⟨q, o, rfl, hq0, hq2, dx⟩ := HR.out.at_ (k := 0) (by omega)
    obtain ⟨x, hx⟩ : ∃ x, wd r 0 = x := ⟨_, rfl⟩
    obtain ⟨X, hX, hXl⟩ := bstr_some x
    rw [hx, hX] at dx
    rw [hr1'] at d2 HW
    have HX := Lib.hid hX
    rw [Nat.add_zero] at dx
    obtain ⟨q2, hq2n⟩ : ∃ q, nameB x = q := ⟨_, rfl⟩
    have HNN : Hid (∀ W, Calls Tryz.prog 70 #[.string X] W fun e w' => e = .returned (.bool (!q2)) ∧ w' = W) := fun W => by have := isNoName_any X W; rw [hXl, hq2n] at this; exact this
    have hv : nameS c 0 r = if q2 = true then some { c with nm := x } else none := by
     rw [HV0.out, decide_eq_true hr1', hx, hq2n]; rfl
    have HV := Lib.hid hv
    clear hv hXl hq2n hx hX hd0 hr1 hr1' HR
    cases q2 with
    | false =>
     go_wp2_with (go_at_call 70; refine (HNN.out _).mono ?_; rintro e w3 ⟨rfl, h3⟩; obtain rfl := h3)
     go_ret
     exact MPost.no HV.out HK.out
    | true =>
     have hS := H1.out.setN ⟨by decide, by decide⟩ x
     rw [HX.out] at hS
     have HS := Lib.hid hS; clear hS
     go_wp2_with (go_at_call 70; refine (HNN.out _).mono ?_; rintro e w3 ⟨rfl, h3⟩; obtain rfl := h3)
     go_ret
     exact ret_true HV.out (HK.out.trans HS.out.2) ⟨_, _, _, _, _, _, HS.out.1⟩
   ·have hv : nameS c 0 r = none := by rw [HV0.out, decide_eq_false (show ¬ r.length = 1 by omega)]; rfl
    have HV := Lib.hid hv; clear hv
    generalize r.length = rl at *
    go_wp2
    go_ret
    exact MPost.no HV.out HK.out
set_option maxRecDepth 100000 in
set_option maxHeartbeats 8000000 in
theorem variable_any {b B : Nat} {w : World} {c : CH} {eV vV sV tV : Value} {sp : List SP} {tp : List TP} (h : OwnCh b B 44 w c eV vV sV tV sp tp) (hB : Bdd 1000000 c) (N : ByteArray) (kd lo hi ik ia ib : Int) :
  Calls Tryz.prog 74 #[.pointer (some ⟨b, 0, none⟩), .agg #[.string N, .int .i64 kd, .int .i64 lo, .int .i64 hi, .int .i64 ik, .int .i64 ia, .int .i64 ib]] w (MPost b B w (varS c ⟨N.data.toList, ik, lo, hi, ik, ia, ib⟩)) := by
 obtain ⟨w2, hw2⟩ : ∃ W, W = (w.alloc (.cells #[.string N, .int .i64 ik, .int .i64 lo, .int .i64 hi, .int .i64 ik, .int .i64 ia, .int .i64 ib] 64)) := ⟨_, rfl⟩
 have hb2 : Below w.heap.size w w2 := hw2 ▸ (Below.refl w.heap.size w).alloc (Nat.le_refl _) _
 have hx2 : w2.heap[w.heap.size]? = some (.cells #[.string N, .int .i64 ik, .int .i64 lo, .int .i64 hi, .int .i64 ik, .int .i64 ia, .int .i64 ib] 64 (0, 0)) := by rw [hw2]; exact heap_alloc_new w _
 have hd : w2.cell? ⟨w.heap.size, 0, none⟩ = some (.string N) ∧ w2.cell? ⟨w.heap.size, 1, none⟩ = some (.int .i64 ik) ∧ w2.cell? ⟨w.heap.size, 2, none⟩ = some (.int .i64 lo) ∧ w2.cell? ⟨w.heap.size, 3, none⟩ = some (.int .i64 hi) ∧ w2.cell? ⟨w.heap.size, 4, none⟩ = some (.int .i64 ik) ∧ w2.cell? ⟨w.heap.size, 5, none⟩ = some (.int .i64 ia) ∧ w2.cell? ⟨w.heap.size, 6, none⟩ = some (.int .i64 ib) := by simp [World.cell?, hx2]
 obtain ⟨d0, d1, d2, d3, d4, d5, d6⟩ := hd
 have hsz2 := lt_of_heap hx2
 have HO := Lib.hid (h.below hb2)
 have hle := h.le
 have HK : Hid (KeptB b B w w2) := KeptB.of_below hb2 h.le
 have HLT : Hid (∀ g, vV.ownBlock = some g → g < w.heap.size) := fun g hg => (h.vs.lt g hg).2
 have hvs := hB.vs
 obtain ⟨ie, hi0, hi1, hi2, hi3⟩ := info_of Tryz.infoVar
 have HE0 := Lib.hid hi0; have HE1 := Lib.hid hi1; have HE2 := Lib.hid hi2; have HE3 := Lib.hid hi3
 have HW2 := Lib.hid hw2
 obtain ⟨q2, hq2n⟩ : ∃ q, nameB N.data.toList = q := ⟨_, rfl⟩
 have HNN : Hid (∀ W, Calls Tryz.prog 82 #[.string N] W fun e w' => e = .returned (.bool q2) ∧ W = w') := fun W => by have := name_any N W; rw [hq2n] at this; exact this
 have hv : varS c ⟨N.data.toList, ik, lo, hi, ik, ia, ib⟩ = if q2 = true then some { c with vs := c.vs ++ [⟨N.data.toList, ik, lo, hi, ik, ia, ib⟩] } else none := by
  unfold varS; simp only [hq2n]
 have HV := Lib.hid hv
 clear h hB hb2 hx2 hw2 hi0 hi1 hi2 hi3 hv hq2n
 go_enter Tryz.func74, Tryz.ntmps74
 go_wp2_with fail
 rw [← HW2.out]
 refine Oz.region_two 24 [Ow.eqR (.pointer (some ⟨b, 0, none⟩)), Ow.eqR (.pointer (some ⟨b, 0, none⟩)), Ow.eqR (.pointer (some ⟨b, 0, none⟩)), Ow.eqR (.pointer (some ⟨b, 0, none⟩)), Ow.eqR (.pointer (some ⟨b, 2, none⟩)), fun v w' => v = vV ∧ w'.ownsRow B 64 7 v c.vs.length (flatV c.vs), Ow.eqR (.agg #[.string N, .int .i64 ik, .int .i64 lo, .int .i64 hi, .int .i64 ik, .int .i64 ia, .int .i64 ib]), fun v w' => w'.ownsRow B 64 7 v 1 [.string N, .int .i64 ik, .int .i64 lo, .int .i64 hi, .int .i64 ik, .int .i64 ia, .int .i64 ib], fun v w' => w'.ownsRow B 64 7 v (c.vs.length + 1) (flatV c.vs ++ [.string N, .int .i64 ik, .int .i64 lo, .int .i64 hi, .int .i64 ik, .int .i64 ia, .int .i64 ib]), Ow.eqR (.pointer (some ⟨b, 0, none⟩)), Ow.eqR (.pointer (some ⟨b, 0, none⟩)), Ow.eqR (.pointer (some ⟨b, 2, none⟩)), fun _ w' => ∃ v', w'.heap[b]? = some (.cells #[bstr c.nm, eV, v', sV, tV] 44 (0, 0)) ∧ w'.ownsRow B 64 7 v' (c.vs.length + 1) (flatV c.vs ++ [.string N, .int .i64 ik, .int .i64 lo, .int .i64 hi, .int .i64 ik, .int .i64 ia, .int .i64 ib])] [false, false, false, false, false, true, false, true, true, false, false, false, false] [none, none, none, none, none, none, none, none, some 5, none, none, none, none] (b) 5 12 (b) (vV) (own_lower (HO.out.vs) (Nat.le_of_lt HO.out.lt)) (own_neq (HO.out.vs) HO.out.lt) (Nat.le_refl _) ((Nat.lt_of_lt_of_le HO.out.lt HO.out.le)) (by kernel_rfl) rfl (by kernel_rfl) (by kernel_rfl) rfl rfl ⟨Oz.keeps_eq _ _, Oz.keeps_eq _ _, Oz.keeps_eq _ _, Oz.keeps_eq _ _, Oz.keeps_eq _ _, keeps_is, Oz.keeps_eq _ _, Oz.keeps_own _ _ _ _ _, Oz.keeps_own _ _ _ _ _, Oz.keeps_eq _ _, Oz.keeps_eq _ _, Oz.keeps_eq _ _, trivial⟩ ?_
 apply Oz.walk_consL rfl
 ·intro w1 hb hu hd ho K hK
  clear hu hd ho
  go_simp
  exact hK _ _ (Oz.good_same rfl rfl rfl)
 ·intro v; simp only [Act.put, List.setIfInBounds_toArray, List.set_cons_succ, List.set_cons_zero]; exact rfl
 ·intro v; exact (rfl : _ = ([v] : List Value))
 intro x9
 apply Oz.walk_consL rfl
 ·intro w1 hb hu hd ho K hK
  clear hu hd ho
  go_simp
  exact hK _ _ (Oz.good_same rfl rfl rfl)
 ·intro v; simp only [Act.put, List.setIfInBounds_toArray, List.set_cons_succ, List.set_cons_zero]; exact rfl
 ·intro v; exact (rfl : _ = ([x9, v] : List Value))
 intro x10
 apply Oz.walk_consL rfl
 ·intro w1 hb hu hd ho K hK
  have e10 : _ = x10 := Eq.symm (hd 1 (by kernel_rfl))
  subst e10
  clear hu hd ho
  go_simp
  exact hK _ _ (Oz.good_same rfl rfl rfl)
 ·intro v; simp only [Act.put, List.setIfInBounds_toArray, List.set_cons_succ, List.set_cons_zero]; exact rfl
 ·intro v; exact (rfl : _ = ([x9, x10, v] : List Value))
 intro x11
 apply Oz.walk_consL rfl
 ·intro w1 hb hu hd ho K hK
  have e11 : _ = x11 := Eq.symm (hd 2 (by kernel_rfl))
  subst e11
  clear hu hd ho
  go_simp
  exact hK _ _ (Oz.good_same rfl rfl rfl)
 ·intro v; simp only [Act.put, List.setIfInBounds_toArray, List.set_cons_succ, List.set_cons_zero]; exact rfl
 ·intro v; exact (rfl : _ = ([x9, x10, x11, v] : List Value))
 intro x12
 apply Oz.walk_consL rfl
 ·intro w1 hb hu hd ho K hK
  have e12 : _ = x12 := Eq.symm (hd 3 (by kernel_rfl))
  subst e12
  clear hu hd ho
  go_simp
  exact hK _ _ (Oz.good_same rfl rfl rfl)
 ·intro v; simp only [Act.put, List.setIfInBounds_toArray, List.set_cons_succ, List.set_cons_zero]; exact rfl
 ·intro v; exact (rfl : _ = ([x9, x10, x11, x12, v] : List Value))
 intro x13
 apply Oz.walk_consL rfl
 ·intro w1 hb hu hd ho K hK
  have e13 : _ = x13 := Eq.symm (hd 4 (by kernel_rfl))
  subst e13
  have hh : w1.heap[b]? = some (.cells #[bstr c.nm, eV, vV, sV, tV] 44 (0, 0)) := (hu _ (by have := HO.out.lt; have := HO.out.le; simp; omega) (fun j hj => by rcases Oz.cl2_cases hj with ⟨_, h⟩ | ⟨rfl, _⟩; exact absurd h (own_neq (HO.out.vs) HO.out.lt); exact Or.inr rfl)).trans HO.out.box
  obtain ⟨b0, b1, b2, b3, b4, g0, g1, g2, g3, g4⟩ := at5 hh
  have hx := Oz.own_same (HO.out.vs) (w' := w1) (fun g hg => (hu g (by have := (HO.out.vs).lt g hg; simp; omega) (fun j hj => by rcases Oz.cl2_cases hj with ⟨rfl, _⟩ | ⟨rfl, _⟩; exact Or.inl rfl; exact Or.inr rfl)).trans rfl)
  have hbz := hb.size
  clear hu hd ho
  go_simp
  exact hK _ _ (Oz.good_claim rfl (Nat.le_of_lt HO.out.lt) ⟨rfl, hx⟩ hx Oz.cl2_row)
 ·intro v; simp only [Act.put, List.setIfInBounds_toArray, List.set_cons_succ, List.set_cons_zero]; exact rfl
 ·intro v; exact (rfl : _ = ([x9, x10, x11, x12, x13, v] : List Value))
 intro x14
 apply Oz.walk_consL rfl
 ·intro w1 hb hu hd ho K hK
  have kq := hu w.heap.size (by simp; omega) (fun j hj => by rcases Oz.cl2_cases hj with ⟨_, h⟩ | ⟨_, h⟩; exact absurd (HLT.out _ h) (by omega); exact absurd h (by have := HO.out.lt; have := HO.out.le; omega))
  have c_d0 := (World.cell?_of_block (w := _) (a := ⟨w.heap.size, _, none⟩) kq).trans d0
  have c_d1 := (World.cell?_of_block (w := _) (a := ⟨w.heap.size, _, none⟩) kq).trans d1
  have c_d2 := (World.cell?_of_block (w := _) (a := ⟨w.heap.size, _, none⟩) kq).trans d2
  have c_d3 := (World.cell?_of_block (w := _) (a := ⟨w.heap.size, _, none⟩) kq).trans d3
  have c_d4 := (World.cell?_of_block (w := _) (a := ⟨w.heap.size, _, none⟩) kq).trans d4
  have c_d5 := (World.cell?_of_block (w := _) (a := ⟨w.heap.size, _, none⟩) kq).trans d5
  have c_d6 := (World.cell?_of_block (w := _) (a := ⟨w.heap.size, _, none⟩) kq).trans d6
  clear hu hd ho
  go_simp
  exact hK _ _ (Oz.good_same rfl rfl rfl)
 ·intro v; simp only [Act.put, List.setIfInBounds_toArray, List.set_cons_succ, List.set_cons_zero]; exact rfl
 ·intro v; exact (rfl : _ = ([x9, x10, x11, x12, x13, x14, v] : List Value))
 intro x15
 apply Oz.walk_consL rfl
 ·intro w1 hb hu hd ho K hK
  have e15 : _ = x15 := Eq.symm (hd 6 (by kernel_rfl))
  subst e15
  have hz : B ≤ w1.heap.size := by have := hb.size; have := HO.out.le; simp at *; omega
  clear hu hd ho
  go_simp
  exact hK _ _ (Oz.good_laid #[.string N, .int .i64 ik, .int .i64 lo, .int .i64 hi, .int .i64 ik, .int .i64 ia, .int .i64 ib] rfl (by have := HO.out.lt; omega) (by decide) rfl hz rfl)
 ·intro v; simp only [Act.put, List.setIfInBounds_toArray, List.set_cons_succ, List.set_cons_zero]; exact rfl
 ·intro v; exact (rfl : _ = ([x9, x10, x11, x12, x13, x14, x15, v] : List Value))
 intro x16
 apply Oz.walk_consL rfl
 ·intro w1 hb hu hd ho K hK
  have h14 := hd 5 (by kernel_rfl)
  have h16 := hd 7 (by kernel_rfl)
  have hz : B ≤ w1.heap.size := by have := hb.size; have := HO.out.le; simp at *; omega
  have hoo := ho 5 (by kernel_rfl) rfl
  have hq := h14.2
  clear hu hd ho
  refine Ow.step_append rfl (.tmp 14) (.tmp 16) 23 rfl B 64 ie _ 7 64 Tryz.underlying23 HE0.out HE1.out HE2.out HE3.out rfl (by decide) x14 c.vs.length (flatV c.vs) (by simp [Act.eval]) hq _ 1 [.string N, .int .i64 ik, .int .i64 lo, .int .i64 hi, .int .i64 ik, .int .i64 ia, .int .i64 ib] (by simp [Act.eval]) (Inn.of_own h16) (by intro u hu; simp only [List.mem_cons, List.not_mem_nil, or_false] at hu; rcases hu with rfl | rfl | rfl | rfl | rfl | rfl | rfl <;> rfl) (by unfold maxLen; omega) (by omega) hz ?_
  intro v' w' hown hg hob
  refine hK _ _ (Oz.good_row (k := 5) rfl (by have := HO.out.lt; omega) hq hg (by exact hown) hown hoo hob)
 ·intro v; simp only [Act.put, List.setIfInBounds_toArray, List.set_cons_succ, List.set_cons_zero]; exact rfl
 ·intro v; exact (rfl : _ = ([x9, x10, x11, x12, x13, x14, x15, x16, v] : List Value))
 intro x17
 apply Oz.walk_consL rfl
 ·intro w1 hb hu hd ho K hK
  have e9 : _ = x9 := Eq.symm (hd 0 (by kernel_rfl))
  subst e9
  clear hu hd ho
  go_simp
  exact hK _ _ (Oz.good_same rfl rfl rfl)
 ·intro v; simp only [Act.put, List.setIfInBounds_toArray, List.set_cons_succ, List.set_cons_zero]; exact rfl
 ·intro v; exact (rfl : _ = ([x9, x10, x11, x12, x13, x14, x15, x16, x17, v] : List Value))
 intro x18
 apply Oz.walk_consL rfl
 ·intro w1 hb hu hd ho K hK
  have e18 : _ = x18 := Eq.symm (hd 9 (by kernel_rfl))
  subst e18
  clear hu hd ho
  go_simp
  exact hK _ _ (Oz.good_same rfl rfl rfl)
 ·intro v; simp only [Act.put, List.setIfInBounds_toArray, List.set_cons_succ, List.set_cons_zero]; exact rfl
 ·intro v; exact (rfl : _ = ([x9, x10, x11, x12, x13, x14, x15, x16, x17, x18, v] : List Value))
 intro x19
 apply Oz.walk_consL rfl
 ·intro w1 hb hu hd ho K hK
  have e19 : _ = x19 := Eq.symm (hd 10 (by kernel_rfl))
  subst e19
  clear hu hd ho
  go_simp
  exact hK _ _ (Oz.good_same rfl rfl rfl)
 ·intro v; simp only [Act.put, List.setIfInBounds_toArray, List.set_cons_succ, List.set_cons_zero]; exact rfl
 ·intro v; exact (rfl : _ = ([x9, x10, x11, x12, x13, x14, x15, x16, x17, x18, x19, v] : List Value))
 intro x20
 apply Oz.walk_consL rfl
 ·intro w1 hb hu hd ho K hK
  have e20 : _ = x20 := Eq.symm (hd 11 (by kernel_rfl))
  subst e20
  have h17 := hd 8 (by kernel_rfl)
  have hh : w1.heap[b]? = some (.cells #[bstr c.nm, eV, vV, sV, tV] 44 (0, 0)) := (hu _ (by have := HO.out.lt; have := HO.out.le; simp; omega) (fun j hj => by rcases Oz.cl2_cases hj with ⟨_, h⟩ | ⟨rfl, _⟩; exact absurd h (own_neq (HO.out.vs) HO.out.lt); exact Or.inr rfl)).trans HO.out.box
  obtain ⟨b0, b1, b2, b3, b4, g0, g1, g2, g3, g4⟩ := at5 hh
  obtain ⟨Az, cz, e1⟩ := own_slice h17
  subst e1
  clear hu hd ho
  go_simp
  refine hK undef _ ⟨⟨_, heap_setCell_same _ _ 2 _ _ _ hh, own_past h17 HO.out.lt _ _⟩, Oz.setAll_grown b [_] 2 w1, fun h => by cases h⟩
 ·intro v; exact rfl
 ·intro v; exact rfl
 intro xn12
 refine Oz.walk_nilL rfl (fun w1 hb hu hd => ?_)
 have e9 : _ = x9 := Eq.symm (hd 0 (by kernel_rfl))
 subst e9
 have e10 : _ = x10 := Eq.symm (hd 1 (by kernel_rfl))
 subst e10
 have e11 : _ = x11 := Eq.symm (hd 2 (by kernel_rfl))
 subst e11
 have e12 : _ = x12 := Eq.symm (hd 3 (by kernel_rfl))
 subst e12
 have e13 : _ = x13 := Eq.symm (hd 4 (by kernel_rfl))
 subst e13
 have e15 : _ = x15 := Eq.symm (hd 6 (by kernel_rfl))
 subst e15
 have h16 := hd 7 (by kernel_rfl)
 have h17 := hd 8 (by kernel_rfl)
 have e18 : _ = x18 := Eq.symm (hd 9 (by kernel_rfl))
 subst e18
 have e19 : _ = x19 := Eq.symm (hd 10 (by kernel_rfl))
 subst e19
 have e20 : _ = x20 := Eq.symm (hd 11 (by kernel_rfl))
 subst e20
 have hn12 := hd 12 (by kernel_rfl)
 clear hd
 obtain ⟨v', hbx, hnr⟩ := hn12
 have hG := GrownT.of_two hb hu
 have hP := HO.out.pushV ⟨by decide, by decide⟩ hG hbx (x := ⟨N.data.toList, ik, lo, hi, ik, ia, ib⟩) hnr
 have HP := Lib.hid hP
 have kq := hu w.heap.size (by simp; omega) (fun j hj => by rcases Oz.cl2_cases hj with ⟨_, h⟩ | ⟨_, h⟩; exact absurd (HLT.out _ h) (by omega); exact absurd h (by have := HO.out.lt; omega))
 have c0 := (World.cell?_of_block (w := _) (a := ⟨w.heap.size, 0, none⟩) kq).trans d0
 clear hb hu hbx hnr hG hP kq
 go_simp
 go_wp2_with (go_at_call 82; refine (HNN.out _).mono ?_; rintro e w4 ⟨rfl, h4⟩; obtain rfl := h4)
 go_ret
 cases q2 with
 | false => exact MPost.no HV.out (HK.out.trans HP.out.2)
 | true => exact ret_true HV.out (HK.out.trans HP.out.2) ⟨_, _, _, _, _, _, HP.out.1⟩
end Go.Proofs.YtdelihhbmagphaaGreatDoor.Ch
namespace Go.Proofs.YtdelihhbmagphaaGreatDoor.Ch
open Go.RowKit
theorem RestR.all {w0 w : World} {A : Option Addr} {cp : Nat} {r : List (List UInt8)} (h : RestR w0 w A cp r) (h0 : 0 < r.length) : ∃ q o, A = some ⟨q, o, none⟩ ∧ w0.heap.size ≤ q ∧ q < w.heap.size ∧ ∀ k, k < r.length → w.cell? ⟨q, o + k, none⟩ = some (bstr (wd r k)) := by
 obtain ⟨q, o, rfl, h1, h2, _⟩ := h.at_ h0
 refine ⟨q, o, rfl, h1, h2, fun k hk => ?_⟩
 obtain ⟨q', o', e, _, _, h3⟩ := h.at_ hk
 simp only [Option.some.injEq, Addr.mk.injEq, and_true] at e
 obtain ⟨rfl, rfl⟩ := e
 exact h3
set_option maxRecDepth 100000 in
set_option maxHeartbeats 8000000 in
theorem bounded_any {b B : Nat} {w0 w : World} {c : CH} {eV vV sV tV : Value} {sp : List SP} {tp : List TP} (h : OwnCh b B 44 w c eV vV sV tV sp tp) (hB : Bdd 1000000 c) (d : Nat) (F : ByteArray) (A : Option Addr) (cp : Nat) (r : List (List UInt8)) (hr4 : r.length = 4)
  (hr : RestR w0 w A cp r) (hx : ∀ x ∈ r, x.length ≤ 6000) (ik ia ib : Int) :
  Calls Tryz.prog 73 #[.pointer (some ⟨b, 0, none⟩), .agg #[.int .i64 d, .string F, .slice A r.length cp], .agg #[.int .i64 ik, .int .i64 ia, .int .i64 ib]] w (MPost b B w (boundS c r ik ia ib)) := by
 have hxs : ∀ k, (wd r k).length ≤ 6000 := by
  intro k
  by_cases hk : k < r.length
  ·rw [wd_at hk]; exact hx _ (List.getElem_mem hk)
  ·unfold wd; rw [List.getD_eq_getElem?_getD, List.getElem?_eq_none (by omega)]; simp
 obtain ⟨w1, hw1⟩ : ∃ W, W = (w.alloc (.cells #[.int .i64 d, .string F, .slice A r.length cp] 51)).alloc (.cells #[.int .i64 ik, .int .i64 ia, .int .i64 ib] 62) := ⟨_, rfl⟩
 have hb1 : Below w.heap.size w w1 := hw1 ▸ ((Below.refl w.heap.size w).alloc (Nat.le_refl _) _).alloc (by simp) _
 have d2 : w1.cell? ⟨w.heap.size, 2, none⟩ = some (.slice A r.length cp) := by rw [hw1]; simp
 have hz1 : w1.heap.size = w.heap.size + 2 := by rw [hw1]; simp
 have hi : w1.heap[w.heap.size + 1]? = some (.cells #[.int .i64 ik, .int .i64 ia, .int .i64 ib] 62 (0, 0)) := by rw [hw1]; have := heap_alloc_new (w.alloc (.cells #[.int .i64 d, .string F, .slice A r.length cp] 51)) (.cells #[.int .i64 ik, .int .i64 ia, .int .i64 ib] 62); simpa using this
 have di : w1.cell? ⟨w.heap.size + 1, 0, none⟩ = some (.int .i64 ik) ∧ w1.cell? ⟨w.heap.size + 1, 1, none⟩ = some (.int .i64 ia) ∧ w1.cell? ⟨w.heap.size + 1, 2, none⟩ = some (.int .i64 ib) := by simp [World.cell?, hi]
 obtain ⟨i0, i1, i2⟩ := di
 have h1 := h.below hb1
 have hle := h.le
 obtain ⟨q, o, rfl, hq0, hq1, hc⟩ := (hr.below hb1).all (by omega)
 obtain ⟨X0, hX0, hX0l⟩ := bstr_some (wd r 0)
 obtain ⟨X1, hX1, hX1l⟩ := bstr_some (wd r 1)
 obtain ⟨X2, hX2, hX2l⟩ := bstr_some (wd r 2)
 have c0 := hc 0 (by omega); have c1 := hc 1 (by omega); have c2 := hc 2 (by omega)
 rw [hX0] at c0; rw [hX1] at c1; rw [hX2] at c2
 rw [Nat.add_zero] at c0
 have s1 : X1.size ≤ 281474976710656 := by have := hxs 1; rw [← hX1l] at this; rw [Lib.size_eq]; omega
 have s2 : X2.size ≤ 281474976710656 := by have := hxs 2; rw [← hX2l] at this; rw [Lib.size_eq]; omega
 have HN1 := Lib.hid (fun W => number_any X1 W s1)
 have HN2 := Lib.hid (fun W => number_any X2 W s2)
 unfold NumPost at HN1 HN2
 rw [hX1l] at HN1; rw [hX2l] at HN2
 have hv : boundS c r ik ia ib = if (numP (wd r 1)).2 = 0 ∧ (numP (wd r 2)).2 = 0 then varS c ⟨X0.data.toList, ik, (numP (wd r 1)).1, (numP (wd r 2)).1, ik, ia, ib⟩ else none := by unfold boundS; rw [hX0l]
 obtain ⟨⟨n1, m1⟩, hn1⟩ : ∃ p, numP (wd r 1) = p := ⟨_, rfl⟩
 obtain ⟨⟨n2, m2⟩, hn2⟩ : ∃ p, numP (wd r 2) = p := ⟨_, rfl⟩
 rw [hn1, hn2] at hv
 rw [hn1] at HN1; rw [hn2] at HN2
 have HV := Lib.hid hv
 have HK : Hid (KeptB b B w w1) := KeptB.of_below hb1 h.le
 have HKD : Hid (KeptB b B w w1.drew) := KeptB.of_below hb1.drew h.le
 have HVA : Hid (∀ lo hi, Calls Tryz.prog 74 #[.pointer (some ⟨b, 0, none⟩), .agg #[.string X0, .int .i64 0, .int .i64 lo, .int .i64 hi, .int .i64 ik, .int .i64 ia, .int .i64 ib]] w1.drew (MPost b B w1.drew (varS c ⟨X0.data.toList, ik, lo, hi, ik, ia, ib⟩))) := fun lo hi => variable_any (h1.below (Below.refl _ _).drew) hB X0 0 lo hi ik ia ib
 have HW := Lib.hid hw1
 have c1e := c1
 rw [hw1] at c1e
 rw [hr4] at d2 HW c1e ⊢
 clear h h1 hB hb1 hw1 hi hc hX0 hX1 hX2 hX0l hX1l hX2l hn1 hn2 hv hr hx hxs s1 s2 hr4 hz1 hq0 hq1
 go_enter Tryz.func73, Tryz.ntmps73
 go_wp2_with fail
 rw [← HW.out]
 refine (HN1.out _).mono ?_
 rintro e w2 ⟨rfl, h2⟩
 obtain rfl := h2
 go_wp2_with fail
 refine (HN2.out _).mono ?_
 rintro e w2 ⟨rfl, h2⟩
 obtain rfl := h2
 go_wp2_with fail
 by_cases e1 : m1 = 0
 ·by_cases e2 : m2 = 0
  ·subst e1; subst e2
   have hv : boundS c r ik ia ib = varS c ⟨X0.data.toList, ik, n1, n2, ik, ia, ib⟩ := by rw [HV.out]; simp
   have HV2 := Lib.hid hv
   clear hv
   refine wp_region_tail 16 (by kernel_rfl) (by kernel_rfl) ?_
   simp only [List.take_succ_cons, List.take_zero, List.drop_succ_cons, List.drop_zero]
   repeat still_step
   refine wpStill_nil ?_
   go_wp2_with fail
   refine (HVA.out n1 n2).mono ?_
   rintro e w3 ⟨hk, hm⟩
   have HKK : Hid (KeptB b B w w3) := HKD.out.trans hk
   cases ho : varS c ⟨X0.data.toList, ik, n1, n2, ik, ia, ib⟩ with
   | none =>
    rw [ho] at hm
    obtain rfl := hm
    have HO := Lib.hid ho
    clear ho hk
    go_wp2
    go_ret
    exact MPost.no (by rw [HV2.out, HO.out]) HKK.out
   | some c' =>
    rw [ho] at hm
    obtain ⟨rfl, hm⟩ := hm
    have HO := Lib.hid ho; have HM := Lib.hid hm
    clear ho hk hm
    go_wp2
    go_ret
    exact ret_true (by rw [HV2.out, HO.out]) HKK.out HM.out
  ·subst e1
   have hv : boundS c r ik ia ib = none := by rw [HV.out, if_neg (fun h => e2 h.2)]
   have HV2 := Lib.hid hv
   have q2 : (m2 == 0) = false := int_ne e2
   clear hv e2
   go_big_quiet (fail)
   go_wp2
   go_ret
   exact MPost.no HV2.out (HK.out.trans (KeptB.of_below (below_drewN (Below.refl _ _) _) (by have := HK.out.size; omega)))
 ·have hv : boundS c r ik ia ib = none := by rw [HV.out, if_neg (fun h => e1 h.1)]
  have HV2 := Lib.hid hv
  have q1 : (m1 == 0) = false := int_ne e1
  clear hv e1
  go_big_quiet (fail)
  go_wp2
  go_ret
  exact MPost.no HV2.out (HK.out.trans (KeptB.of_below (below_drewN (Below.refl _ _) _) (by have := HK.out.size; omega)))
theorem wd_len {r : List (List UInt8)} (hx : ∀ x ∈ r, x.length ≤ 6000) (k : Nat) : (wd r k).length ≤ 6000 := by
 by_cases hk : k < r.length
 ·rw [wd_at hk]; exact hx _ (List.getElem_mem hk)
 ·unfold wd; rw [List.getD_eq_getElem?_getD, List.getElem?_eq_none (by omega)]; simp
set_option maxRecDepth 100000 in
set_option maxHeartbeats 8000000 in
theorem int_m : Method 33 intS := by
 intro b B w0 w c eV vV sV tV sp tp d F A cp r h hw hB hd hrl hr hx hE
 have hxs : ∀ k, (wd r k).length ≤ 6000 := wd_len hx
 obtain ⟨w1, hw1⟩ : ∃ W, W = w.alloc (.cells #[.int .i64 d, .string F, .slice A r.length cp] 51) := ⟨_, rfl⟩
 have hb1 : Below w.heap.size w w1 := hw1 ▸ (Below.refl w.heap.size w).alloc (Nat.le_refl _) _
 have d2 : w1.cell? ⟨w.heap.size, 2, none⟩ = some (.slice A r.length cp) := by rw [hw1]; simp
 have dl : w1.cell? ⟨w.heap.size, 0, none⟩ = some (.int .i64 d) ∧ w1.cell? ⟨w.heap.size, 1, none⟩ = some (.string F) := by rw [hw1]; simp
 obtain ⟨d0, d1⟩ := dl
 have hsz1 : w1.heap.size = w.heap.size + 1 := by rw [hw1]; simp
 have h1 := (h.below hw).below hb1
 have hle0 := h.le
 have hzw := hw.size
 have HD := Lib.hid (isHead_any h1 hB d 4 F A cp r hrl (by omega) (by omega))
 have HR := Lib.hid (hr.below hb1); have H1 := Lib.hid h1; have HB1 := Lib.hid hb1; have HW := Lib.hid hw1; have HBd := Lib.hid hB; have HXS := Lib.hid hxs; have HX := Lib.hid hx; have HE := Lib.hid (hE.below hb1)
 clear h hw hB h1 hr hb1 hw1 hx hxs hE
 obtain ⟨q1, hq1⟩ : ∃ q, headB c d 4 r = q := ⟨_, rfl⟩
 have HQ := Lib.hid hq1
 rw [hq1] at HD
 clear hq1
 go_enter Tryz.func33, Tryz.ntmps33
 go_wp2_with fail
 rw [← HW.out]
 refine HD.out.mono ?_
 rintro e w2 ⟨rfl, hb2⟩
 have HO := Lib.hid (H1.out.below hb2)
 have hzz := hb2.size
 have HK : Hid (KeptB b B w w2) := KeptB.of_below (HB1.out.trans (hb2.mono HB1.out.size)) (by omega)
 have HE2 := Lib.hid (HE.out.below hb2)
 replace d0 := (hb2.cell (show w.heap.size < _ by omega)).trans d0
 replace d1 := (hb2.cell (show w.heap.size < _ by omega)).trans d1
 replace d2 := (hb2.cell (show w.heap.size < _ by omega)).trans d2
 have HR2 := Lib.hid (HR.out.below hb2)
 clear hb2
 cases q1 with
 | false =>
  have hv : intS c d r = none := by unfold intS; rw [HQ.out]; simp
  have HV := Lib.hid hv; clear hv
  go_wp2
  go_ret
  exact MPost.no HV.out HK.out
 | true =>
  have hr4 : r.length = 4 := by have := HQ.out; unfold headB at this; simp only [Bool.and_eq_true, decide_eq_true_eq] at this; exact this.2
  obtain ⟨q, o, rfl, hq0, hq2, hc⟩ := HR2.out.all (by omega)
  obtain ⟨X3, hX3, hX3l⟩ := bstr_some (wd r 3)
  have c3 := hc 3 (by omega)
  rw [hX3] at c3
  have s3 : X3.size ≤ 281474976710656 := by have := HXS.out 3; rw [← hX3l] at this; rw [Lib.size_eq]; omega
  have HN3 := Lib.hid (fun W => number_any X3 W s3)
  unfold NumPost at HN3
  rw [hX3l] at HN3
  obtain ⟨⟨n3, m3⟩, hn3⟩ : ∃ p, numP (wd r 3) = p := ⟨_, rfl⟩
  rw [hn3] at HN3
  have hv : intS c d r = if m3 = 0 then boundS c r 1 n3 0 else none := by unfold intS; rw [HQ.out, hn3]; simp
  have HV := Lib.hid hv
  have HBO := Lib.hid (bounded_any HO.out HBd.out d F _ cp r hr4 HR2.out HX.out 1 n3 0)
  rw [hr4] at d2 HW HBO
  clear hv hn3 hX3 hX3l s3 hc
  by_cases e3 : m3 = 0
  ·subst e3
   have hv : intS c d r = boundS c r 1 n3 0 := by rw [HV.out, if_pos rfl]
   have HV2 := Lib.hid hv
   clear hv
   go_wp2_with fail
   refine (HN3.out _).mono ?_
   rintro e w3 ⟨rfl, h3⟩
   obtain rfl := h3
   go_wp2_with fail
   refine HBO.out.mono ?_
   rintro e w4 ⟨hk, hm⟩
   have HKK : Hid (KeptB b B w w4) := HK.out.trans hk
   cases ho : boundS c r 1 n3 0 with
   | none =>
    rw [ho] at hm
    obtain rfl := hm
    have HOO := Lib.hid ho
    clear ho hk
    go_wp2
    go_ret
    exact MPost.no (by rw [HV2.out, HOO.out]) HKK.out
   | some c' =>
    rw [ho] at hm
    obtain ⟨rfl, hm⟩ := hm
    have HOO := Lib.hid ho; have HM := Lib.hid hm
    clear ho hk hm
    go_wp2
    go_ret
    exact ret_true (by rw [HV2.out, HOO.out]) HKK.out HM.out
  ·have hv : intS c d r = none := by rw [HV.out, if_neg e3]
   have HV2 := Lib.hid hv
   clear hv
   go_wp2_with fail
   refine (HN3.out _).mono ?_
   rintro e w3 ⟨rfl, h3⟩
   obtain rfl := h3
   go_wp2
   go_ret
   exact MPost.no HV2.out HK.out
set_option maxRecDepth 100000 in
set_option maxHeartbeats 8000000 in
theorem point_m : Method 35 pointS := by
 intro b B w0 w c eV vV sV tV sp tp d F A cp r h hw hB hd hrl hr hx hE
 have hxs : ∀ k, (wd r k).length ≤ 6000 := wd_len hx
 obtain ⟨w1, hw1⟩ : ∃ W, W = w.alloc (.cells #[.int .i64 d, .string F, .slice A r.length cp] 51) := ⟨_, rfl⟩
 have hb1 : Below w.heap.size w w1 := hw1 ▸ (Below.refl w.heap.size w).alloc (Nat.le_refl _) _
 have d2 : w1.cell? ⟨w.heap.size, 2, none⟩ = some (.slice A r.length cp) := by rw [hw1]; simp
 have dl : w1.cell? ⟨w.heap.size, 0, none⟩ = some (.int .i64 d) ∧ w1.cell? ⟨w.heap.size, 1, none⟩ = some (.string F) := by rw [hw1]; simp
 obtain ⟨d0, d1⟩ := dl
 have hsz1 : w1.heap.size = w.heap.size + 1 := by rw [hw1]; simp
 have h1 := (h.below hw).below hb1
 have hle0 := h.le
 have hzw := hw.size
 have HD := Lib.hid (isHead_any h1 hB d 4 F A cp r hrl (by omega) (by omega))
 have HR := Lib.hid (hr.below hb1); have H1 := Lib.hid h1; have HB1 := Lib.hid hb1; have HW := Lib.hid hw1; have HBd := Lib.hid hB; have HXS := Lib.hid hxs; have HX := Lib.hid hx; have HE := Lib.hid (hE.below hb1)
 clear h hw hB h1 hr hb1 hw1 hx hxs hE
 obtain ⟨q1, hq1⟩ : ∃ q, headB c d 4 r = q := ⟨_, rfl⟩
 have HQ := Lib.hid hq1
 rw [hq1] at HD
 clear hq1
 go_enter Tryz.func35, Tryz.ntmps35
 go_wp2_with fail
 rw [← HW.out]
 refine HD.out.mono ?_
 rintro e w2 ⟨rfl, hb2⟩
 have HO := Lib.hid (H1.out.below hb2)
 have hzz := hb2.size
 have HK : Hid (KeptB b B w w2) := KeptB.of_below (HB1.out.trans (hb2.mono HB1.out.size)) (by omega)
 have HE2 := Lib.hid (HE.out.below hb2)
 replace d0 := (hb2.cell (show w.heap.size < _ by omega)).trans d0
 replace d1 := (hb2.cell (show w.heap.size < _ by omega)).trans d1
 replace d2 := (hb2.cell (show w.heap.size < _ by omega)).trans d2
 have HR2 := Lib.hid (HR.out.below hb2)
 clear hb2
 cases q1 with
 | false =>
  have hv : pointS c d r = none := by unfold pointS; rw [HQ.out]; simp
  have HV := Lib.hid hv; clear hv
  go_wp2
  go_ret
  exact MPost.no HV.out HK.out
 | true =>
  have hr4 : r.length = 4 := by have := HQ.out; unfold headB at this; simp only [Bool.and_eq_true, decide_eq_true_eq] at this; exact this.2
  obtain ⟨q, o, rfl, hq0, hq2, hc⟩ := HR2.out.all (by omega)
  obtain ⟨X3, hX3, hX3l⟩ := bstr_some (wd r 3)
  have c3 := hc 3 (by omega)
  rw [hX3] at c3
  have s3 : X3.size < 4294967281 := by have := HXS.out 3; rw [← hX3l] at this; rw [Lib.size_eq]; omega
  have HN3 := Lib.hid (Pl.read_any X3 w2 s3 HE2.out.pl)
  rw [hX3l] at HN3
  have hv : pointS c d r = match Pl.refL (wd r 3) with
   | some (a, b) => boundS c r 3 a b
   | none => none := by unfold pointS; rw [HQ.out]; rfl
  have HV := Lib.hid hv
  have HBO : Hid (∀ W a b', Below w2.heap.size w2 W → Calls Tryz.prog 73 #[.pointer (some ⟨b, 0, none⟩), .agg #[.int .i64 d, .string F, .slice (some ⟨q, o, none⟩) r.length cp], .agg #[.int .i64 3, .int .i64 a, .int .i64 b']] W (MPost b B W (boundS c r 3 a b'))) := fun W a b' hb => bounded_any (HO.out.below hb) HBd.out d F _ cp r hr4 (HR2.out.below hb) HX.out 3 a b'
  rw [hr4] at d2 HW HBO
  clear hv hX3 hX3l s3 hc
  go_wp2_with fail
  refine HN3.out.mono ?_
  rintro e w3 ⟨hb3, ⟨a, a', hg, rfl⟩ | ⟨hg, rfl⟩⟩
  ·obtain ⟨ha, ha', _⟩ := Pl.refL_some hg
   have hv : pointS c d r = boundS c r 3 a a' := by rw [HV.out, hg]
   have HV2 := Lib.hid hv
   replace HK : Hid (KeptB b B w w3) := HK.out.trans (KeptB.of_below hb3 (by omega))
   replace d0 := (hb3.cell (show w.heap.size < _ by omega)).trans d0
   replace d1 := (hb3.cell (show w.heap.size < _ by omega)).trans d1
   replace d2 := (hb3.cell (show w.heap.size < _ by omega)).trans d2
   have HBO2 := Lib.hid (HBO.out w3 a a' hb3)
   have HPA := Lib.hid (Pl.parts_ok a a' w3 ha ha')
   generalize floatOfInt .f64 a = fa at *
   generalize floatOfInt .f64 a' = fa' at *
   clear hv hg hb3 ha ha' c3
   go_wp2_with fail
   refine HPA.out.mono ?_
   rintro e w5 ⟨rfl, h5⟩
   obtain rfl := h5
   go_wp2_with fail
   refine HBO2.out.mono ?_
   rintro e w4 ⟨hk, hm⟩
   have HKK : Hid (KeptB b B w w4) := HK.out.trans hk
   cases ho : boundS c r 3 a a' with
   | none =>
    rw [ho] at hm
    obtain rfl := hm
    have HOO := Lib.hid ho
    clear ho hk
    go_wp2
    go_ret
    exact MPost.no (by rw [HV2.out, HOO.out]) HKK.out
   | some c' =>
    rw [ho] at hm
    obtain ⟨rfl, hm⟩ := hm
    have HOO := Lib.hid ho; have HM := Lib.hid hm
    clear ho hk hm
    go_wp2
    go_ret
    exact ret_true (by rw [HV2.out, HOO.out]) HKK.out HM.out
  ·have hv : pointS c d r = none := by rw [HV.out, hg]
   have HV2 := Lib.hid hv
   replace HK : Hid (KeptB b B w w3) := HK.out.trans (KeptB.of_below hb3 (by omega))
   clear hv hg hb3
   go_wp2
   go_ret
   exact MPost.no HV2.out HK.out
set_option maxRecDepth 100000 in
set_option maxHeartbeats 8000000 in
theorem bool_m : Method 34 boolS := by
 intro b B w0 w c eV vV sV tV sp tp d F A cp r h hw hB hd hrl hr hx hE
 have hxs : ∀ k, (wd r k).length ≤ 6000 := wd_len hx
 obtain ⟨w1, hw1⟩ : ∃ W, W = w.alloc (.cells #[.int .i64 d, .string F, .slice A r.length cp] 51) := ⟨_, rfl⟩
 have hb1 : Below w.heap.size w w1 := hw1 ▸ (Below.refl w.heap.size w).alloc (Nat.le_refl _) _
 have d2 : w1.cell? ⟨w.heap.size, 2, none⟩ = some (.slice A r.length cp) := by rw [hw1]; simp
 have dl : w1.cell? ⟨w.heap.size, 0, none⟩ = some (.int .i64 d) ∧ w1.cell? ⟨w.heap.size, 1, none⟩ = some (.string F) := by rw [hw1]; simp
 obtain ⟨d0, d1⟩ := dl
 have hsz1 : w1.heap.size = w.heap.size + 1 := by rw [hw1]; simp
 have h1 := (h.below hw).below hb1
 have hle0 := h.le
 have hzw := hw.size
 have HD := Lib.hid (isHead_any h1 hB d 2 F A cp r hrl (by omega) (by omega))
 have HR := Lib.hid (hr.below hb1); have H1 := Lib.hid h1; have HB1 := Lib.hid hb1; have HW := Lib.hid hw1; have HBd := Lib.hid hB; have HXS := Lib.hid hxs; have HX := Lib.hid hx; have HE := Lib.hid (hE.below hb1)
 clear h hw hB h1 hr hb1 hw1 hx hxs hE
 obtain ⟨q1, hq1⟩ : ∃ q, headB c d 2 r = q := ⟨_, rfl⟩
 have HQ := Lib.hid hq1
 rw [hq1] at HD
 clear hq1
 go_enter Tryz.func34, Tryz.ntmps34
 go_wp2_with fail
 rw [← HW.out]
 refine HD.out.mono ?_
 rintro e w2 ⟨rfl, hb2⟩
 have HO := Lib.hid (H1.out.below hb2)
 have hzz := hb2.size
 have HK : Hid (KeptB b B w w2) := KeptB.of_below (HB1.out.trans (hb2.mono HB1.out.size)) (by omega)
 have HE2 := Lib.hid (HE.out.below hb2)
 replace d0 := (hb2.cell (show w.heap.size < _ by omega)).trans d0
 replace d1 := (hb2.cell (show w.heap.size < _ by omega)).trans d1
 replace d2 := (hb2.cell (show w.heap.size < _ by omega)).trans d2
 have HR2 := Lib.hid (HR.out.below hb2)
 clear hb2
 cases q1 with
 | false =>
  have hv : boolS c d r = none := by unfold boolS; rw [HQ.out]; simp
  have HV := Lib.hid hv; clear hv
  go_wp2
  go_ret
  exact MPost.no HV.out HK.out
 | true =>
  have hr4 : r.length = 2 := by have := HQ.out; unfold headB at this; simp only [Bool.and_eq_true, decide_eq_true_eq] at this; exact this.2
  obtain ⟨q, o, rfl, hq0, hq2, hc⟩ := HR2.out.all (by omega)
  obtain ⟨X0, hX0, hX0l⟩ := bstr_some (wd r 0)
  obtain ⟨X1, hX1, hX1l⟩ := bstr_some (wd r 1)
  have c0 := hc 0 (by omega); have c1 := hc 1 (by omega)
  rw [hX0, Nat.add_zero] at c0
  rw [hX1] at c1
  have hv : boolS c d r = if X1.data.toList = wTrue ∨ X1.data.toList = wFalse then varS c ⟨X0.data.toList, 2, 0, 1, 2, if X1.data.toList = wTrue then 1 else 0, 0⟩ else none := by unfold boolS; rw [HQ.out, hX0l, hX1l]; simp
  have HV := Lib.hid hv
  have HBO : Hid (∀ W a, Below w2.heap.size w2 W → Calls Tryz.prog 74 #[.pointer (some ⟨b, 0, none⟩), .agg #[.string X0, .int .i64 0, .int .i64 0, .int .i64 1, .int .i64 2, .int .i64 a, .int .i64 0]] W (MPost b B W (varS c ⟨X0.data.toList, 2, 0, 1, 2, a, 0⟩))) := fun W a hb => variable_any (HO.out.below hb) HBd.out X0 0 0 1 2 a 0
  rw [hr4] at d2 HW
  clear hv hX0 hX1 hX0l hX1l hc
  have hlt1 : w.heap.size < w2.heap.size := by omega
  have e1' : ∀ a : Int, (w2.alloc (.cells #[.int .i64 2, .int .i64 a, .int .i64 0] 62)).cell? ⟨q, o + 1, none⟩ = some (.string X1) := fun a => (((Below.refl w2.heap.size w2).alloc (Nat.le_refl _) _).cell hq2).trans c1
  have e2' : ∀ a : Int, (w2.alloc (.cells #[.int .i64 2, .int .i64 a, .int .i64 0] 62)).cell? ⟨w.heap.size, 2, none⟩ = some (.slice (some ⟨q, o, none⟩) 2 cp) := fun a => (((Below.refl w2.heap.size w2).alloc (Nat.le_refl _) _).cell hlt1).trans d2
  replace e1' := e1' 0
  replace e2' := e2' 0
  by_cases ht : X1.data.toList = wTrue
  ·skip
   obtain ⟨w3, hw3⟩ : ∃ W, W = w2.alloc (.cells #[.int .i64 2, .int .i64 1, .int .i64 0] 62) := ⟨_, rfl⟩
   have hb3 : Below w2.heap.size w2 w3 := hw3 ▸ (Below.refl w2.heap.size w2).alloc (Nat.le_refl _) _
   have hx3 : w3.heap[w2.heap.size]? = some (.cells #[.int .i64 2, .int .i64 1, .int .i64 0] 62 (0, 0)) := by rw [hw3]; exact heap_alloc_new w2 _
   obtain ⟨i0, i1, i2⟩ : w3.cell? ⟨w2.heap.size, 0, none⟩ = some (.int .i64 2) ∧ w3.cell? ⟨w2.heap.size, 1, none⟩ = some (.int .i64 1) ∧ w3.cell? ⟨w2.heap.size, 2, none⟩ = some (.int .i64 0) := by simp [World.cell?, hx3]
   have e2 := (hb3.cell (show w.heap.size < _ by omega)).trans d2
   have e0 := (hb3.cell (show q < _ by omega)).trans c0
   have HW3 := Lib.hid hw3
   have HK3 : Hid (KeptB b B w w3.drew) := HK.out.trans (KeptB.of_below hb3.drew (by omega))
   have hv : boolS c d r = varS c ⟨X0.data.toList, 2, 0, 1, 2, 1, 0⟩ := by rw [HV.out]; rw [if_pos (Or.inl ht), if_pos ht]
   have HV2 := Lib.hid hv
   obtain rfl : X1 = ⟨#[116, 114, 117, 101]⟩ := str_eq ht
   have HB4 := Lib.hid (HBO.out w3.drew 1 hb3.drew)
   clear hv ht hw3 hx3 hb3
   go_wp2_with fail
   rw [← HW3.out]
   refine wp_region_tail 7 (by kernel_rfl) (by kernel_rfl) ?_
   simp only [List.take_succ_cons, List.take_zero, List.drop_succ_cons, List.drop_zero]
   repeat still_step
   refine wpStill_nil ?_
   go_wp2_with fail
   refine HB4.out.mono ?_
   rintro e w4 ⟨hk, hm⟩
   have HKK : Hid (KeptB b B w w4) := HK3.out.trans hk
   cases ho : varS c ⟨X0.data.toList, 2, 0, 1, 2, 1, 0⟩ with
   | none =>
    rw [ho] at hm
    obtain rfl := hm
    have HOO := Lib.hid ho
    clear ho hk
    go_wp2
    go_ret
    exact MPost.no (by rw [HV2.out, HOO.out]) HKK.out
   | some c' =>
    rw [ho] at hm
    obtain ⟨rfl, hm⟩ := hm
    have HOO := Lib.hid ho; have HM := Lib.hid hm
    clear ho hk hm
    go_wp2
    go_ret
    exact ret_true (by rw [HV2.out, HOO.out]) HKK.out HM.out
  ·by_cases hf : X1.data.toList = wFalse
   ·skip
    obtain ⟨w3, hw3⟩ : ∃ W, W = w2.alloc (.cells #[.int .i64 2, .int .i64 0, .int .i64 0] 62) := ⟨_, rfl⟩
    have hb3 : Below w2.heap.size w2 w3 := hw3 ▸ (Below.refl w2.heap.size w2).alloc (Nat.le_refl _) _
    have hx3 : w3.heap[w2.heap.size]? = some (.cells #[.int .i64 2, .int .i64 0, .int .i64 0] 62 (0, 0)) := by rw [hw3]; exact heap_alloc_new w2 _
    obtain ⟨i0, i1, i2⟩ : w3.cell? ⟨w2.heap.size, 0, none⟩ = some (.int .i64 2) ∧ w3.cell? ⟨w2.heap.size, 1, none⟩ = some (.int .i64 0) ∧ w3.cell? ⟨w2.heap.size, 2, none⟩ = some (.int .i64 0) := by simp [World.cell?, hx3]
    have e2 := (hb3.cell (show w.heap.size < _ by omega)).trans d2
    have e0 := (hb3.cell (show q < _ by omega)).trans c0
    have HW3 := Lib.hid hw3
    have HK3 : Hid (KeptB b B w w3.drew) := HK.out.trans (KeptB.of_below hb3.drew (by omega))
    have hv : boolS c d r = varS c ⟨X0.data.toList, 2, 0, 1, 2, 0, 0⟩ := by rw [HV.out]; rw [if_pos (Or.inr hf), if_neg ht]
    have HV2 := Lib.hid hv
    obtain rfl : X1 = ⟨#[102, 97, 108, 115, 101]⟩ := str_eq hf
    have HB4 := Lib.hid (HBO.out w3.drew 0 hb3.drew)
    clear hv ht hf hw3 hx3 hb3
    go_wp2_with fail
    rw [← HW3.out]
    refine wp_region_tail 7 (by kernel_rfl) (by kernel_rfl) ?_
    simp only [List.take_succ_cons, List.take_zero, List.drop_succ_cons, List.drop_zero]
    repeat still_step
    refine wpStill_nil ?_
    go_wp2_with fail
    refine HB4.out.mono ?_
    rintro e w4 ⟨hk, hm⟩
    have HKK : Hid (KeptB b B w w4) := HK3.out.trans hk
    cases ho : varS c ⟨X0.data.toList, 2, 0, 1, 2, 0, 0⟩ with
    | none =>
     rw [ho] at hm
     obtain rfl := hm
     have HOO := Lib.hid ho
     clear ho hk
     go_wp2
     go_ret
     exact MPost.no (by rw [HV2.out, HOO.out]) HKK.out
    | some c' =>
     rw [ho] at hm
     obtain ⟨rfl, hm⟩ := hm
     have HOO := Lib.hid ho; have HM := Lib.hid hm
     clear ho hk hm
     go_wp2
     go_ret
     exact ret_true (by rw [HV2.out, HOO.out]) HKK.out HM.out
   ·have hv : boolS c d r = none := by rw [HV.out, if_neg (fun h => h.elim ht hf)]
    have HV2 := Lib.hid hv
    have n1 : ¬ X1.toList = [116, 114, 117, 101] := by rw [Lib.toList_data]; exact ht
    have n2 : ¬ X1.toList = [102, 97, 108, 115, 101] := by rw [Lib.toList_data]; exact hf
    have HB3 : Hid (KeptB b B w (w2.alloc (.cells #[.int .i64 2, .int .i64 0, .int .i64 0] 62))) := HK.out.trans (KeptB.of_below ((Below.refl w2.heap.size w2).alloc (Nat.le_refl _) _) (by omega))
    clear hv ht hf
    go_wp2
    ·have h : (X1.toList == [116, 114, 117, 101]) = true := by assumption
     exact absurd (eq_of_beq h) n1
    ·have h : (X1.toList == [102, 97, 108, 115, 101]) = true := by assumption
     exact absurd (eq_of_beq h) n2
    ·go_ret
     exact MPost.no HV2.out HB3.out
end Go.Proofs.YtdelihhbmagphaaGreatDoor.Ch
