/- The law KindsMore walked. -/
import Derived.Test.YtkpacigbhghcpaaKj
namespace Go.Proofs.Ytkpacigbhghcpaa
open Go.RowKit

set_option maxRecDepth 100000 in
set_option maxHeartbeats 4000000 in
theorem kindsMore_law (vl vv sv vv2 sv2 : Value) (cs : List CM) (vs vs2 : List VM) (ss ss2 : List (List UInt8)) (w : World) (hR : RdI w vl cs) (hl : cs.length * 32 ≤ 140737488355328) (hV : RdV w vv vs) (hS : RdW w sv ss) (hV2 : RdV w vv2 vs2) (hS2 : RdW w sv2 ss2)
    (hvl : vs.length * 64 + vs2.length * 64 ≤ 140737488355328) (hsl : ss.length * 16 + ss2.length * 16 ≤ 140737488355328) :
    Calls Try.prog 4 #[vl, .agg #[vv, sv], .agg #[vv2, sv2]] w fun e w' => e = .returned (.bool true) ∧ Below w.heap.size w w' := by
  obtain ⟨V, vc, rfl⟩ := hV.form
  obtain ⟨S, sc, rfl⟩ := hS.form
  obtain ⟨V2, vc2, rfl⟩ := hV2.form
  obtain ⟨S2, sc2, rfl⟩ := hS2.form
  obtain ⟨iv, hv0, hv1, hv2, hv3⟩ := info_parts infoVar
  have HV0 := Lib.hid hv0; have HV1 := Lib.hid hv1; have HV2 := Lib.hid hv2; have HV3 := Lib.hid hv3
  clear hv0 hv1 hv2 hv3
  obtain ⟨is, hs0, hs1, hs2, hs3⟩ := info_parts infoStr
  have HS0 := Lib.hid hs0; have HS1 := Lib.hid hs1; have HS2 := Lib.hid hs2; have HS3 := Lib.hid hs3
  clear hs0 hs1 hs2 hs3
  have HCP : Hid (∀ W, Below w.heap.size w W → Calls Try.prog 9 #[vl] W fun e w' => ∃ v', e = .returned v' ∧ Own W cs v' w') := fun W hb => copied4_any vl cs W (hR.below hb) hl
  have HVI : Hid (∀ W, Below w.heap.size w W → Inn W 7 (.slice V vs.length vc) vs.length (flatV vs)) := fun W hb => hV.below hb
  have HSI : Hid (∀ W, Below w.heap.size w W → Inn W 1 (.slice S ss.length sc) ss.length (ss.map bstr)) := fun W hb => hS.below hb
  have HV2I : Hid (∀ W, Below w.heap.size w W → Inn W 7 (.slice V2 vs2.length vc2) vs2.length (flatV vs2)) := fun W hb => hV2.below hb
  have HS2I : Hid (∀ W, Below w.heap.size w W → Inn W 1 (.slice S2 ss2.length sc2) ss2.length (ss2.map bstr)) := fun W hb => hS2.below hb
  have HKO : Hid (∀ W, Below w.heap.size w W → ∀ x, RdC W x cs → Calls Try.prog 8 #[x, .slice V vs.length vc, .slice S ss.length sc] W fun e w' => e = .returned (.tuple #[.int .i64 (kindP vs ss cs).1, .int .i64 (kindP vs ss cs).2]) ∧ Below W.heap.size W w') := fun W hb x hx => kindsOf_any x _ _ cs vs ss W hx (by omega) (hV.below hb) (by omega) (hS.below hb) (by omega)
  have HKO2 : Hid (∀ W, Below w.heap.size w W → ∀ x y z, RdC W x cs → Inn W 7 y (vs.length + vs2.length) (flatV vs ++ flatV vs2) → Inn W 1 z (ss.length + ss2.length) (ss.map bstr ++ ss2.map bstr) → Calls Try.prog 8 #[x, y, z] W fun e w' => e = .returned (.tuple #[.int .i64 (kindP (vs ++ vs2) (ss ++ ss2) cs).1, .int .i64 (kindP (vs ++ vs2) (ss ++ ss2) cs).2]) ∧ Below W.heap.size W w') := fun W hb x y z hx hy hz => kindsOf_any x _ _ cs (vs ++ vs2) (ss ++ ss2) W hx (by omega) (by show Inn _ _ _ _ _; rw [flatV_append, List.length_append]; exact hy) (by rw [List.length_append]; omega) (by show Inn _ _ _ _ _; rw [List.map_append, List.length_append]; exact hz) (by rw [List.length_append]; omega)
  obtain ⟨wb, hwb⟩ : ∃ wb, wb = ((w.alloc (.cells #[.slice V vs.length vc, .slice S ss.length sc] 26)).alloc (.cells #[.slice V2 vs2.length vc2, .slice S2 ss2.length sc2] 26)) := ⟨_, rfl⟩
  have HB0 : Hid (Below w.heap.size w wb) := by rw [hwb]; exact ((Below.refl _ _).alloc (Nat.le_refl _) _).alloc (by simp) _
  have c40 : wb.cell? ⟨w.heap.size, 0, none⟩ = some (.slice V vs.length vc) := by rw [hwb]; simp
  have c41 : wb.cell? ⟨w.heap.size, 1, none⟩ = some (.slice S ss.length sc) := by rw [hwb]; simp
  have c50 : wb.cell? ⟨w.heap.size + 1, 0, none⟩ = some (.slice V2 vs2.length vc2) := by rw [hwb]; simp
  have c51 : wb.cell? ⟨w.heap.size + 1, 1, none⟩ = some (.slice S2 ss2.length sc2) := by rw [hwb]; simp
  have HE := Lib.hid hwb
  have HKR := Lib.hid (kind_range (vs := vs) (ss := ss) cs)
  have HKM := Lib.hid (fun h => kind_more (vs := vs) (ss := ss) vs2 ss2 (cs := cs) h)
  clear hR hV hS hV2 hS2 hwb
  go_enter Try.func4, Try.ntmps4
  go_wp2_with fail
  rw [← HE.out]
  clear HE
  have HW : Hid (∀ w1, Below wb.heap.size wb.drew w1 → Below w.heap.size w w1) := fun w1 hb => HB0.out.trans (((Below.refl _ _).drew.trans hb).mono HB0.out.size)
  refine Ow.region_own' 54 [Ow.eqR (vl), fun v w' => w'.ownsRow 0 38 3 v (cs).length (flat (cs)), Ow.eqR (.pointer (some ⟨w.heap.size, 0, none⟩)), Ow.eqR (.slice V vs.length vc), Ow.eqR (.pointer (some ⟨w.heap.size, 1, none⟩)), Ow.eqR (.slice S ss.length sc), Ow.eqR (.tuple #[.int .i64 (kindP vs ss cs).1, .int .i64 (kindP vs ss cs).2]), Ow.eqR (.tuple #[.int .i64 (kindP vs ss cs).1, .int .i64 (kindP vs ss cs).2]), Ow.eqR (.int .i64 (kindP vs ss cs).1), Ow.eqR (.int .i64 (kindP vs ss cs).2), Ow.eqR (.int .i64 (kindP vs ss cs).1), Ow.eqR (.int .i64 (kindP vs ss cs).2)] [false, true, false, false, false, false, false, false, false, false, false, false] [none, none, none, none, none, none, none, none, none, none, none, none] (by kernel_rfl) rfl (by kernel_rfl) ⟨Ow.keeps_eq _ _, Ow.keeps_own _ _ _ _ _, Ow.keeps_eq _ _, Ow.keeps_eq _ _, Ow.keeps_eq _ _, Ow.keeps_eq _ _, Ow.keeps_eq _ _, Ow.keeps_eq _ _, Ow.keeps_eq _ _, Ow.keeps_eq _ _, Ow.keeps_eq _ _, Ow.keeps_eq _ _, trivial⟩ ?_
  apply Ow.walk_cons rfl
  · intro w1 hb hd ho K hK
    clear hd ho
    go_simp
    exact hK _ _ (Ow.good_same rfl rfl rfl)
  · intro v; simp only [Act.put, List.setIfInBounds_toArray, List.set_cons_succ, List.set_cons_zero]; exact rfl
  · intro v; simp only [List.nil_append]; exact rfl
  intro x12
  apply Ow.walk_cons rfl
  · intro w1 hb hd ho K hK
    have e12 : _ = x12 := Eq.symm (hd 0 (by kernel_rfl))
    subst e12
    have hz := hb.size
    clear hd ho
    go_simp
    refine (HCP.out w1 (HW.out w1 hb)).mono ?_
    rintro e w2 ⟨v, rfl, hv⟩
    go_simp
    exact hK _ _ (Ow.good_new rfl hz hv.below (own_low hv.own (Nat.zero_le _)) (fun g hg => hv.own.lt g hg))
  · intro v; simp only [Act.put, List.setIfInBounds_toArray, List.set_cons_succ, List.set_cons_zero]; exact rfl
  · intro v; simp only [List.nil_append, List.cons_append]; exact rfl
  intro x13
  apply Ow.walk_cons rfl
  · intro w1 hb hd ho K hK
    clear hd ho
    go_simp
    exact hK _ _ (Ow.good_same rfl rfl rfl)
  · intro v; simp only [Act.put, List.setIfInBounds_toArray, List.set_cons_succ, List.set_cons_zero]; exact rfl
  · intro v; simp only [List.nil_append, List.cons_append]; exact rfl
  intro x14
  apply Ow.walk_cons rfl
  · intro w1 hb hd ho K hK
    have e14 : _ = x14 := Eq.symm (hd 2 (by kernel_rfl))
    subst e14
    clear hd ho
    have c0 : w1.cell? ⟨w.heap.size, 0, none⟩ = some (.slice V vs.length vc) := (hb.cell (cell_lt c40)).trans c40
    go_simp
    exact hK _ _ (Ow.good_same rfl rfl rfl)
  · intro v; simp only [Act.put, List.setIfInBounds_toArray, List.set_cons_succ, List.set_cons_zero]; exact rfl
  · intro v; simp only [List.nil_append, List.cons_append]; exact rfl
  intro x15
  apply Ow.walk_cons rfl
  · intro w1 hb hd ho K hK
    clear hd ho
    go_simp
    exact hK _ _ (Ow.good_same rfl rfl rfl)
  · intro v; simp only [Act.put, List.setIfInBounds_toArray, List.set_cons_succ, List.set_cons_zero]; exact rfl
  · intro v; simp only [List.nil_append, List.cons_append]; exact rfl
  intro x16
  apply Ow.walk_cons rfl
  · intro w1 hb hd ho K hK
    have e16 : _ = x16 := Eq.symm (hd 4 (by kernel_rfl))
    subst e16
    clear hd ho
    have c0 : w1.cell? ⟨w.heap.size, 1, none⟩ = some (.slice S ss.length sc) := (hb.cell (cell_lt c41)).trans c41
    go_simp
    exact hK _ _ (Ow.good_same rfl rfl rfl)
  · intro v; simp only [Act.put, List.setIfInBounds_toArray, List.set_cons_succ, List.set_cons_zero]; exact rfl
  · intro v; simp only [List.nil_append, List.cons_append]; exact rfl
  intro x17
  apply Ow.walk_cons rfl
  · intro w1 hb hd ho K hK
    have h13 := hd 1 (by kernel_rfl)
    have e15 : _ = x15 := Eq.symm (hd 3 (by kernel_rfl))
    subst e15
    have e17 : _ = x17 := Eq.symm (hd 5 (by kernel_rfl))
    subst e17
    clear ho
    clear hd
    go_simp
    refine (HKO.out w1 (HW.out w1 hb) _ (own_rd h13)).mono ?_
    rintro e w2 ⟨rfl, hb2⟩
    go_simp
    exact hK _ _ (Ow.good_below rfl rfl hb2 rfl)
  · intro v; simp only [Act.put, List.setIfInBounds_toArray, List.set_cons_succ, List.set_cons_zero]; exact rfl
  · intro v; simp only [List.nil_append, List.cons_append]; exact rfl
  intro x18
  apply Ow.walk_cons rfl
  · intro w1 hb hd ho K hK
    have e18 : _ = x18 := Eq.symm (hd 6 (by kernel_rfl))
    subst e18
    clear hd ho
    go_simp
    exact hK _ _ (Ow.good_same rfl rfl rfl)
  · intro v; simp only [Act.put, List.setIfInBounds_toArray, List.set_cons_succ, List.set_cons_zero]; exact rfl
  · intro v; simp only [List.nil_append, List.cons_append]; exact rfl
  intro x11
  apply Ow.walk_cons rfl
  · intro w1 hb hd ho K hK
    have e11 : _ = x11 := Eq.symm (hd 7 (by kernel_rfl))
    subst e11
    clear hd ho
    go_simp
    exact hK _ _ (Ow.good_same rfl rfl rfl)
  · intro v; simp only [Act.put, List.setIfInBounds_toArray, List.set_cons_succ, List.set_cons_zero]; exact rfl
  · intro v; simp only [List.nil_append, List.cons_append]; exact rfl
  intro x19
  apply Ow.walk_cons rfl
  · intro w1 hb hd ho K hK
    have e11 : _ = x11 := Eq.symm (hd 7 (by kernel_rfl))
    subst e11
    clear hd ho
    go_simp
    exact hK _ _ (Ow.good_same rfl rfl rfl)
  · intro v; simp only [Act.put, List.setIfInBounds_toArray, List.set_cons_succ, List.set_cons_zero]; exact rfl
  · intro v; simp only [List.nil_append, List.cons_append]; exact rfl
  intro x20
  apply Ow.walk_cons rfl
  · intro w1 hb hd ho K hK
    have e19 : _ = x19 := Eq.symm (hd 8 (by kernel_rfl))
    subst e19
    clear hd ho
    go_simp
    exact hK _ _ (Ow.good_same rfl rfl rfl)
  · intro v; simp only [Act.put, List.setIfInBounds_toArray, List.set_cons_succ, List.set_cons_zero]; exact rfl
  · intro v; simp only [List.nil_append, List.cons_append]; exact rfl
  intro x7
  apply Ow.walk_cons rfl
  · intro w1 hb hd ho K hK
    have e20 : _ = x20 := Eq.symm (hd 9 (by kernel_rfl))
    subst e20
    clear hd ho
    go_simp
    exact hK _ _ (Ow.good_same rfl rfl rfl)
  · intro v; simp only [Act.put, List.setIfInBounds_toArray, List.set_cons_succ, List.set_cons_zero]; exact rfl
  · intro v; simp only [List.nil_append, List.cons_append]; exact rfl
  intro x8
  refine Ow.walk_nil rfl (fun w1 hb hd => ?_)
  have e12 : _ = x12 := Eq.symm (hd 0 (by kernel_rfl))
  subst e12
  have h13 := hd 1 (by kernel_rfl)
  have e14 : _ = x14 := Eq.symm (hd 2 (by kernel_rfl))
  subst e14
  have e15 : _ = x15 := Eq.symm (hd 3 (by kernel_rfl))
  subst e15
  have e16 : _ = x16 := Eq.symm (hd 4 (by kernel_rfl))
  subst e16
  have e17 : _ = x17 := Eq.symm (hd 5 (by kernel_rfl))
  subst e17
  have e18 : _ = x18 := Eq.symm (hd 6 (by kernel_rfl))
  subst e18
  have e11 : _ = x11 := Eq.symm (hd 7 (by kernel_rfl))
  subst e11
  have e19 : _ = x19 := Eq.symm (hd 8 (by kernel_rfl))
  subst e19
  have e20 : _ = x20 := Eq.symm (hd 9 (by kernel_rfl))
  subst e20
  have e7 : _ = x7 := Eq.symm (hd 10 (by kernel_rfl))
  subst e7
  have e8 : _ = x8 := Eq.symm (hd 11 (by kernel_rfl))
  subst e8
  clear hd
  have HB1 : Hid (Below w.heap.size w w1) := HW.out w1 hb
  have c40' : w1.cell? ⟨w.heap.size, 0, none⟩ = some (.slice V vs.length vc) := (hb.cell (cell_lt c40)).trans c40
  have c41' : w1.cell? ⟨w.heap.size, 1, none⟩ = some (.slice S ss.length sc) := (hb.cell (cell_lt c41)).trans c41
  have c50' : w1.cell? ⟨(w.heap.size + 1), 0, none⟩ = some (.slice V2 vs2.length vc2) := (hb.cell (cell_lt c50)).trans c50
  have c51' : w1.cell? ⟨(w.heap.size + 1), 1, none⟩ = some (.slice S2 ss2.length sc2) := (hb.cell (cell_lt c51)).trans c51
  clear hb HW h13 c40 c41 c50 c51
  have c40 := c40'; clear c40'
  have c41 := c41'; clear c41'
  have c50 := c50'; clear c50'
  have c51 := c51'; clear c51'
  go_simp
  go_wp2_with fail
  refine (wakes4_any _).mono ?_
  rintro e w2 ⟨rfl, hb2⟩
  have HB2 := Lib.hid (HB1.out.trans (hb2.mono HB1.out.size))
  have d40 := (hb2.cell (cell_lt c40)).trans c40
  have d41 := (hb2.cell (cell_lt c41)).trans c41
  have d50 := (hb2.cell (cell_lt c50)).trans c50
  have d51 := (hb2.cell (cell_lt c51)).trans c51
  clear hb2 c40 c41 c50 c51
  rcases HKR.out with ⟨h1, h2⟩ | ⟨h1, h2⟩
  · have hm := HKM.out h1
    have HM := Lib.hid hm
    have H1 := Lib.hid h1
    clear hm h2
    rw [H1.out]
    clear h1
    go_wp2_with fail
    have HW : Hid (∀ w1, Below w2.heap.size w2.drew w1 → Below w.heap.size w w1) := fun w1 hb => HB2.out.trans (((Below.refl _ _).drew.trans hb).mono HB2.out.size)
    refine Ow.region_own' 54 [Ow.eqR (vl), fun v w' => w'.ownsRow 0 38 3 v (cs).length (flat (cs)), fun v w' => w'.ownsRow 0 44 7 v 0 [], Ow.eqR (.pointer (some ⟨w.heap.size, 0, none⟩)), Ow.eqR (.slice V vs.length vc), fun v w' => w'.ownsRow 0 44 7 v vs.length (flatV vs), Ow.eqR (.pointer (some ⟨(w.heap.size + 1), 0, none⟩)), Ow.eqR (.slice V2 vs2.length vc2), fun v w' => w'.ownsRow 0 44 7 v (vs.length + vs2.length) (flatV vs ++ flatV vs2), fun v w' => w'.ownsRow 0 9 1 v 0 [], Ow.eqR (.pointer (some ⟨w.heap.size, 1, none⟩)), Ow.eqR (.slice S ss.length sc), fun v w' => w'.ownsRow 0 9 1 v ss.length (ss.map bstr), Ow.eqR (.pointer (some ⟨(w.heap.size + 1), 1, none⟩)), Ow.eqR (.slice S2 ss2.length sc2), fun v w' => w'.ownsRow 0 9 1 v (ss.length + ss2.length) (ss.map bstr ++ ss2.map bstr), Ow.eqR (.tuple #[.int .i64 (kindP (vs ++ vs2) (ss ++ ss2) cs).1, .int .i64 (kindP (vs ++ vs2) (ss ++ ss2) cs).2]), Ow.eqR (.tuple #[.int .i64 (kindP (vs ++ vs2) (ss ++ ss2) cs).1, .int .i64 (kindP (vs ++ vs2) (ss ++ ss2) cs).2]), Ow.eqR (.int .i64 (kindP (vs ++ vs2) (ss ++ ss2) cs).1), Ow.eqR (.int .i64 (kindP (vs ++ vs2) (ss ++ ss2) cs).2), Ow.eqR (.int .i64 (kindP (vs ++ vs2) (ss ++ ss2) cs).1), Ow.eqR (.int .i64 (kindP (vs ++ vs2) (ss ++ ss2) cs).2)] [false, true, true, false, false, true, false, false, true, true, false, false, true, false, false, true, false, false, false, false, false, false] [none, none, none, none, none, some 2, none, none, some 5, none, none, none, some 9, none, none, some 12, none, none, none, none, none, none] (by kernel_rfl) rfl (by kernel_rfl) ⟨Ow.keeps_eq _ _, Ow.keeps_own _ _ _ _ _, Ow.keeps_own _ _ _ _ _, Ow.keeps_eq _ _, Ow.keeps_eq _ _, Ow.keeps_own _ _ _ _ _, Ow.keeps_eq _ _, Ow.keeps_eq _ _, Ow.keeps_own _ _ _ _ _, Ow.keeps_own _ _ _ _ _, Ow.keeps_eq _ _, Ow.keeps_eq _ _, Ow.keeps_own _ _ _ _ _, Ow.keeps_eq _ _, Ow.keeps_eq _ _, Ow.keeps_own _ _ _ _ _, Ow.keeps_eq _ _, Ow.keeps_eq _ _, Ow.keeps_eq _ _, Ow.keeps_eq _ _, Ow.keeps_eq _ _, Ow.keeps_eq _ _, trivial⟩ ?_
    apply Ow.walk_cons rfl
    · intro w1 hb hd ho K hK
      clear hd ho
      go_simp
      exact hK _ _ (Ow.good_same rfl rfl rfl)
    · intro v; simp only [Act.put, List.setIfInBounds_toArray, List.set_cons_succ, List.set_cons_zero]; exact rfl
    · intro v; simp only [List.nil_append]; exact rfl
    intro x28
    apply Ow.walk_cons rfl
    · intro w1 hb hd ho K hK
      have e28 : _ = x28 := Eq.symm (hd 0 (by kernel_rfl))
      subst e28
      have hz := hb.size
      clear hd ho
      go_simp
      refine (HCP.out w1 (HW.out w1 hb)).mono ?_
      rintro e w2 ⟨v, rfl, hv⟩
      go_simp
      exact hK _ _ (Ow.good_new rfl hz hv.below (own_low hv.own (Nat.zero_le _)) (fun g hg => hv.own.lt g hg))
    · intro v; simp only [Act.put, List.setIfInBounds_toArray, List.set_cons_succ, List.set_cons_zero]; exact rfl
    · intro v; simp only [List.nil_append, List.cons_append]; exact rfl
    intro x29
    apply Ow.walk_cons rfl
    · intro w1 hb hd ho K hK
      have hz := hb.size
      clear hd ho
      go_simp
      exact hK _ _ (Ow.good_new rfl hz ((Below.refl _ _).alloc (Nat.le_refl _) _) (own_made0 w1 44 7) (fun g hg => by simp [Value.ownBlock] at hg; subst hg; simp))
    · intro v; simp only [Act.put, List.setIfInBounds_toArray, List.set_cons_succ, List.set_cons_zero]; exact rfl
    · intro v; simp only [List.nil_append, List.cons_append]; exact rfl
    intro x30
    apply Ow.walk_cons rfl
    · intro w1 hb hd ho K hK
      clear hd ho
      go_simp
      exact hK _ _ (Ow.good_same rfl rfl rfl)
    · intro v; simp only [Act.put, List.setIfInBounds_toArray, List.set_cons_succ, List.set_cons_zero]; exact rfl
    · intro v; simp only [List.nil_append, List.cons_append]; exact rfl
    intro x31
    apply Ow.walk_cons rfl
    · intro w1 hb hd ho K hK
      have e31 : _ = x31 := Eq.symm (hd 3 (by kernel_rfl))
      subst e31
      clear hd ho
      have c0 : w1.cell? ⟨w.heap.size, 0, none⟩ = some (.slice V vs.length vc) := (hb.cell (cell_lt d40)).trans d40
      go_simp
      exact hK _ _ (Ow.good_same rfl rfl rfl)
    · intro v; simp only [Act.put, List.setIfInBounds_toArray, List.set_cons_succ, List.set_cons_zero]; exact rfl
    · intro v; simp only [List.nil_append, List.cons_append]; exact rfl
    intro x32
    apply Ow.walk_cons rfl
    · intro w1 hb hd ho K hK
      have h30 := hd 2 (by kernel_rfl)
      have e32 : _ = x32 := Eq.symm (hd 4 (by kernel_rfl))
      subst e32
      have hz := hb.size
      have hoo := ho 2 (by kernel_rfl) rfl
      clear hd ho
      refine Ow.step_append rfl (.tmp 30) (.tmp 32) 23 rfl 0 44 iv _ 7 64 Try.underlying23 HV0.out HV1.out HV2.out HV3.out rfl (by decide) x30 0 ([]) rfl h30 _ vs.length (flatV vs) rfl (HVI.out w1 (HW.out w1 hb)) (flatV_vals vs) (by unfold maxLen; omega) (by omega) (Nat.zero_le _) ?_
      intro v' w' hown hg hob
      simp only [Nat.zero_add, List.nil_append] at hown
      exact hK _ _ (Ow.good_eat (k := 2) rfl hz hg hown hoo hob)
    · intro v; simp only [Act.put, List.setIfInBounds_toArray, List.set_cons_succ, List.set_cons_zero]; exact rfl
    · intro v; simp only [List.nil_append, List.cons_append]; exact rfl
    intro x33
    apply Ow.walk_cons rfl
    · intro w1 hb hd ho K hK
      clear hd ho
      go_simp
      exact hK _ _ (Ow.good_same rfl rfl rfl)
    · intro v; simp only [Act.put, List.setIfInBounds_toArray, List.set_cons_succ, List.set_cons_zero]; exact rfl
    · intro v; simp only [List.nil_append, List.cons_append]; exact rfl
    intro x34
    apply Ow.walk_cons rfl
    · intro w1 hb hd ho K hK
      have e34 : _ = x34 := Eq.symm (hd 6 (by kernel_rfl))
      subst e34
      clear hd ho
      have c0 : w1.cell? ⟨(w.heap.size + 1), 0, none⟩ = some (.slice V2 vs2.length vc2) := (hb.cell (cell_lt d50)).trans d50
      go_simp
      exact hK _ _ (Ow.good_same rfl rfl rfl)
    · intro v; simp only [Act.put, List.setIfInBounds_toArray, List.set_cons_succ, List.set_cons_zero]; exact rfl
    · intro v; simp only [List.nil_append, List.cons_append]; exact rfl
    intro x35
    apply Ow.walk_cons rfl
    · intro w1 hb hd ho K hK
      have h33 := hd 5 (by kernel_rfl)
      have e35 : _ = x35 := Eq.symm (hd 7 (by kernel_rfl))
      subst e35
      have hz := hb.size
      have hoo := ho 5 (by kernel_rfl) rfl
      clear hd ho
      refine Ow.step_append rfl (.tmp 33) (.tmp 35) 23 rfl 0 44 iv _ 7 64 Try.underlying23 HV0.out HV1.out HV2.out HV3.out rfl (by decide) x33 vs.length (flatV vs) rfl h33 _ vs2.length (flatV vs2) rfl (HV2I.out w1 (HW.out w1 hb)) (flatV_vals vs2) (by unfold maxLen; omega) (by omega) (Nat.zero_le _) ?_
      intro v' w' hown hg hob
      exact hK _ _ (Ow.good_eat (k := 5) rfl hz hg hown hoo hob)
    · intro v; simp only [Act.put, List.setIfInBounds_toArray, List.set_cons_succ, List.set_cons_zero]; exact rfl
    · intro v; simp only [List.nil_append, List.cons_append]; exact rfl
    intro x36
    apply Ow.walk_cons rfl
    · intro w1 hb hd ho K hK
      have hz := hb.size
      clear hd ho
      go_simp
      exact hK _ _ (Ow.good_new rfl hz ((Below.refl _ _).alloc (Nat.le_refl _) _) (own_made0 w1 9 1) (fun g hg => by simp [Value.ownBlock] at hg; subst hg; simp))
    · intro v; simp only [Act.put, List.setIfInBounds_toArray, List.set_cons_succ, List.set_cons_zero]; exact rfl
    · intro v; simp only [List.nil_append, List.cons_append]; exact rfl
    intro x37
    apply Ow.walk_cons rfl
    · intro w1 hb hd ho K hK
      clear hd ho
      go_simp
      exact hK _ _ (Ow.good_same rfl rfl rfl)
    · intro v; simp only [Act.put, List.setIfInBounds_toArray, List.set_cons_succ, List.set_cons_zero]; exact rfl
    · intro v; simp only [List.nil_append, List.cons_append]; exact rfl
    intro x38
    apply Ow.walk_cons rfl
    · intro w1 hb hd ho K hK
      have e38 : _ = x38 := Eq.symm (hd 10 (by kernel_rfl))
      subst e38
      clear hd ho
      have c0 : w1.cell? ⟨w.heap.size, 1, none⟩ = some (.slice S ss.length sc) := (hb.cell (cell_lt d41)).trans d41
      go_simp
      exact hK _ _ (Ow.good_same rfl rfl rfl)
    · intro v; simp only [Act.put, List.setIfInBounds_toArray, List.set_cons_succ, List.set_cons_zero]; exact rfl
    · intro v; simp only [List.nil_append, List.cons_append]; exact rfl
    intro x39
    apply Ow.walk_cons rfl
    · intro w1 hb hd ho K hK
      have h37 := hd 9 (by kernel_rfl)
      have e39 : _ = x39 := Eq.symm (hd 11 (by kernel_rfl))
      subst e39
      have hz := hb.size
      have hoo := ho 9 (by kernel_rfl) rfl
      clear hd ho
      refine Ow.step_append rfl (.tmp 37) (.tmp 39) 24 rfl 0 9 is _ 1 16 Try.underlying24 HS0.out HS1.out HS2.out HS3.out rfl (by decide) x37 0 ([]) rfl h37 _ ss.length (ss.map bstr) rfl (HSI.out w1 (HW.out w1 hb)) (strs_vals ss) (by unfold maxLen; omega) (by omega) (Nat.zero_le _) ?_
      intro v' w' hown hg hob
      simp only [Nat.zero_add, List.nil_append] at hown
      exact hK _ _ (Ow.good_eat (k := 9) rfl hz hg hown hoo hob)
    · intro v; simp only [Act.put, List.setIfInBounds_toArray, List.set_cons_succ, List.set_cons_zero]; exact rfl
    · intro v; simp only [List.nil_append, List.cons_append]; exact rfl
    intro x40
    apply Ow.walk_cons rfl
    · intro w1 hb hd ho K hK
      clear hd ho
      go_simp
      exact hK _ _ (Ow.good_same rfl rfl rfl)
    · intro v; simp only [Act.put, List.setIfInBounds_toArray, List.set_cons_succ, List.set_cons_zero]; exact rfl
    · intro v; simp only [List.nil_append, List.cons_append]; exact rfl
    intro x41
    apply Ow.walk_cons rfl
    · intro w1 hb hd ho K hK
      have e41 : _ = x41 := Eq.symm (hd 13 (by kernel_rfl))
      subst e41
      clear hd ho
      have c0 : w1.cell? ⟨(w.heap.size + 1), 1, none⟩ = some (.slice S2 ss2.length sc2) := (hb.cell (cell_lt d51)).trans d51
      go_simp
      exact hK _ _ (Ow.good_same rfl rfl rfl)
    · intro v; simp only [Act.put, List.setIfInBounds_toArray, List.set_cons_succ, List.set_cons_zero]; exact rfl
    · intro v; simp only [List.nil_append, List.cons_append]; exact rfl
    intro x42
    apply Ow.walk_cons rfl
    · intro w1 hb hd ho K hK
      have h40 := hd 12 (by kernel_rfl)
      have e42 : _ = x42 := Eq.symm (hd 14 (by kernel_rfl))
      subst e42
      have hz := hb.size
      have hoo := ho 12 (by kernel_rfl) rfl
      clear hd ho
      refine Ow.step_append rfl (.tmp 40) (.tmp 42) 24 rfl 0 9 is _ 1 16 Try.underlying24 HS0.out HS1.out HS2.out HS3.out rfl (by decide) x40 ss.length (ss.map bstr) rfl h40 _ ss2.length (ss2.map bstr) rfl (HS2I.out w1 (HW.out w1 hb)) (strs_vals ss2) (by unfold maxLen; omega) (by omega) (Nat.zero_le _) ?_
      intro v' w' hown hg hob
      exact hK _ _ (Ow.good_eat (k := 12) rfl hz hg hown hoo hob)
    · intro v; simp only [Act.put, List.setIfInBounds_toArray, List.set_cons_succ, List.set_cons_zero]; exact rfl
    · intro v; simp only [List.nil_append, List.cons_append]; exact rfl
    intro x43
    apply Ow.walk_cons rfl
    · intro w1 hb hd ho K hK
      have h29 := hd 1 (by kernel_rfl)
      have h36 := hd 8 (by kernel_rfl)
      have h43 := hd 15 (by kernel_rfl)
      clear ho
      clear hd
      go_simp
      refine (HKO2.out w1 (HW.out w1 hb) _ _ _ (own_rd h29) (Inn.of_own h36) (Inn.of_own h43)).mono ?_
      rintro e w2 ⟨rfl, hb2⟩
      go_simp
      exact hK _ _ (Ow.good_below rfl rfl hb2 rfl)
    · intro v; simp only [Act.put, List.setIfInBounds_toArray, List.set_cons_succ, List.set_cons_zero]; exact rfl
    · intro v; simp only [List.nil_append, List.cons_append]; exact rfl
    intro x44
    apply Ow.walk_cons rfl
    · intro w1 hb hd ho K hK
      have e44 : _ = x44 := Eq.symm (hd 16 (by kernel_rfl))
      subst e44
      clear hd ho
      go_simp
      exact hK _ _ (Ow.good_same rfl rfl rfl)
    · intro v; simp only [Act.put, List.setIfInBounds_toArray, List.set_cons_succ, List.set_cons_zero]; exact rfl
    · intro v; simp only [List.nil_append, List.cons_append]; exact rfl
    intro x27
    apply Ow.walk_cons rfl
    · intro w1 hb hd ho K hK
      have e27 : _ = x27 := Eq.symm (hd 17 (by kernel_rfl))
      subst e27
      clear hd ho
      go_simp
      exact hK _ _ (Ow.good_same rfl rfl rfl)
    · intro v; simp only [Act.put, List.setIfInBounds_toArray, List.set_cons_succ, List.set_cons_zero]; exact rfl
    · intro v; simp only [List.nil_append, List.cons_append]; exact rfl
    intro x45
    apply Ow.walk_cons rfl
    · intro w1 hb hd ho K hK
      have e27 : _ = x27 := Eq.symm (hd 17 (by kernel_rfl))
      subst e27
      clear hd ho
      go_simp
      exact hK _ _ (Ow.good_same rfl rfl rfl)
    · intro v; simp only [Act.put, List.setIfInBounds_toArray, List.set_cons_succ, List.set_cons_zero]; exact rfl
    · intro v; simp only [List.nil_append, List.cons_append]; exact rfl
    intro x46
    apply Ow.walk_cons rfl
    · intro w1 hb hd ho K hK
      have e45 : _ = x45 := Eq.symm (hd 18 (by kernel_rfl))
      subst e45
      clear hd ho
      go_simp
      exact hK _ _ (Ow.good_same rfl rfl rfl)
    · intro v; simp only [Act.put, List.setIfInBounds_toArray, List.set_cons_succ, List.set_cons_zero]; exact rfl
    · intro v; simp only [List.nil_append, List.cons_append]; exact rfl
    intro x9
    apply Ow.walk_cons rfl
    · intro w1 hb hd ho K hK
      have e46 : _ = x46 := Eq.symm (hd 19 (by kernel_rfl))
      subst e46
      clear hd ho
      go_simp
      exact hK _ _ (Ow.good_same rfl rfl rfl)
    · intro v; simp only [Act.put, List.setIfInBounds_toArray, List.set_cons_succ, List.set_cons_zero]; exact rfl
    · intro v; simp only [List.nil_append, List.cons_append]; exact rfl
    intro x10
    refine Ow.walk_nil rfl (fun w1 hb hd => ?_)
    have e28 : _ = x28 := Eq.symm (hd 0 (by kernel_rfl))
    subst e28
    have h29 := hd 1 (by kernel_rfl)
    have e31 : _ = x31 := Eq.symm (hd 3 (by kernel_rfl))
    subst e31
    have e32 : _ = x32 := Eq.symm (hd 4 (by kernel_rfl))
    subst e32
    have e34 : _ = x34 := Eq.symm (hd 6 (by kernel_rfl))
    subst e34
    have e35 : _ = x35 := Eq.symm (hd 7 (by kernel_rfl))
    subst e35
    have h36 := hd 8 (by kernel_rfl)
    have e38 : _ = x38 := Eq.symm (hd 10 (by kernel_rfl))
    subst e38
    have e39 : _ = x39 := Eq.symm (hd 11 (by kernel_rfl))
    subst e39
    have e41 : _ = x41 := Eq.symm (hd 13 (by kernel_rfl))
    subst e41
    have e42 : _ = x42 := Eq.symm (hd 14 (by kernel_rfl))
    subst e42
    have h43 := hd 15 (by kernel_rfl)
    have e44 : _ = x44 := Eq.symm (hd 16 (by kernel_rfl))
    subst e44
    have e27 : _ = x27 := Eq.symm (hd 17 (by kernel_rfl))
    subst e27
    have e45 : _ = x45 := Eq.symm (hd 18 (by kernel_rfl))
    subst e45
    have e46 : _ = x46 := Eq.symm (hd 19 (by kernel_rfl))
    subst e46
    have e9 : _ = x9 := Eq.symm (hd 20 (by kernel_rfl))
    subst e9
    have e10 : _ = x10 := Eq.symm (hd 21 (by kernel_rfl))
    subst e10
    clear hd
    have HB3 : Hid (Below w.heap.size w w1) := HW.out w1 hb
    clear hb HW h29 h36 h43 d40 d41 d50 d51 
    go_simp
    rw [HM.out, H1.out]
    go_wp2
    go_ret
    exact ⟨rfl, HB3.out⟩
  · have t1 := bne_iff_ne.2 h1
    have t2 := Lib.hid h2
    rw [t2.out]
    clear h1 h2
    go_wp2
    go_ret
    exact ⟨rfl, HB2.out⟩
end Go.Proofs.Ytkpacigbhghcpaa
