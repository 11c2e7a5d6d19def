/- The law KindsOf walked. -/
import Derived.Test.YtkpacigbhghcpaaKj
namespace Go.Proofs.Ytkpacigbhghcpaa
open Go.RowKit

set_option maxRecDepth 100000 in
set_option maxHeartbeats 2000000 in
theorem kindsOf_law (vl vv sv : Value) (cs : List CM) (vs : List VM) (ss : List (List UInt8)) (w : World) (hR : RdI w vl cs) (hl : cs.length * 32 ≤ 140737488355328) (hN : Names cs) (hV : RdV w vv vs) (hvl : vs.length * 64 ≤ 140737488355328) (hS : RdW w sv ss) (hsl : ss.length * 16 ≤ 140737488355328) :
    Calls Try.prog 3 #[vl, .agg #[vv, sv]] w fun e w' => e = .returned (.bool true) ∧ Below w.heap.size w w' := by
  obtain ⟨V, vc, rfl⟩ := hV.form
  obtain ⟨S, sc, rfl⟩ := hS.form
  obtain ⟨iv, hv0, hv1, hv2, hv3⟩ := info_parts infoVar
  have HV0 := Lib.hid hv0; have HV1 := Lib.hid hv1; have HV2 := Lib.hid hv2; have HV3 := Lib.hid hv3
  obtain ⟨is, hs0, hs1, hs2, hs3⟩ := info_parts infoStr
  have HS0 := Lib.hid hs0; have HS1 := Lib.hid hs1; have HS2 := Lib.hid hs2; have HS3 := Lib.hid hs3
  clear hv0 hv1 hv2 hv3 hs0 hs1 hs2 hs3
  have HBX : Hid (Below w.heap.size w (w.alloc (.cells #[.slice V vs.length vc, .slice S ss.length sc] 26))) := (Below.refl _ _).alloc (Nat.le_refl _) _
  have HW1 : Hid (∀ w1, Below (w.alloc (.cells #[.slice V vs.length vc, .slice S ss.length sc] 26)).heap.size (w.alloc (.cells #[.slice V vs.length vc, .slice S ss.length sc] 26)).drew w1 → Below w.heap.size w w1) := fun w1 hb => HBX.out.trans (((Below.refl _ _).drew.trans hb).mono HBX.out.size)
  have HCP : Hid (∀ w1, Below (w.alloc (.cells #[.slice V vs.length vc, .slice S ss.length sc] 26)).heap.size (w.alloc (.cells #[.slice V vs.length vc, .slice S ss.length sc] 26)).drew w1 → Calls Try.prog 9 #[vl] w1 fun e w' => ∃ v', e = .returned v' ∧ Own w1 cs v' w') := fun w1 hb => copied4_any vl cs w1 (hR.below (HW1.out w1 hb)) hl
  have HVI : Hid (∀ w1, Below (w.alloc (.cells #[.slice V vs.length vc, .slice S ss.length sc] 26)).heap.size (w.alloc (.cells #[.slice V vs.length vc, .slice S ss.length sc] 26)).drew w1 → Inn w1 7 (.slice V vs.length vc) vs.length (flatV vs)) := fun w1 hb => hV.below (HW1.out w1 hb)
  have HSI : Hid (∀ w1, Below (w.alloc (.cells #[.slice V vs.length vc, .slice S ss.length sc] 26)).heap.size (w.alloc (.cells #[.slice V vs.length vc, .slice S ss.length sc] 26)).drew w1 → Inn w1 1 (.slice S ss.length sc) ss.length (ss.map bstr)) := fun w1 hb => hS.below (HW1.out w1 hb)
  have HKO : Hid (∀ w1, Below (w.alloc (.cells #[.slice V vs.length vc, .slice S ss.length sc] 26)).heap.size (w.alloc (.cells #[.slice V vs.length vc, .slice S ss.length sc] 26)).drew w1 → ∀ x y z, RdC w1 x cs → Inn w1 7 y vs.length (flatV vs) → Inn w1 1 z ss.length (ss.map bstr) → Calls Try.prog 8 #[x, y, z] w1 fun e w' => e = .returned (.tuple #[.int .i64 (kindP vs ss cs).1, .int .i64 (kindP vs ss cs).2]) ∧ Below w1.heap.size w1 w') := fun w1 _ x y z hx hy hz => kindsOf_any x y z cs vs ss w1 hx (by omega) hy (by omega) hz (by omega)
  have HRO : Hid (∀ w1, Below w.heap.size w w1 → Calls Try.prog 10 #[vl, .slice V vs.length vc, .slice S ss.length sc] w1 fun e w' => e = .returned (.tuple #[.int .i64 (kindP vs ss cs).1, .int .i64 (kindP vs ss cs).2]) ∧ Below w1.heap.size w1 w') := fun w1 hb => refKinds_any vl _ _ cs vs ss w1 (hR.rd.below hb) (by omega) hN (hV.below hb) (by omega) (hS.below hb) (by omega)
  clear hR hV hS
  go_enter Try.func3, Try.ntmps3
  go_wp2_with fail
  refine Ow.region_own' 43 [Ow.eqR (vl), fun v w' => w'.ownsRow 0 38 3 v cs.length (flat cs), fun v w' => w'.ownsRow 0 44 7 v 0 [], Ow.eqR (.pointer (some ⟨w.heap.size, 0, none⟩)), Ow.eqR (.slice V vs.length vc), fun v w' => w'.ownsRow 0 44 7 v vs.length (flatV vs), fun v w' => w'.ownsRow 0 9 1 v 0 [], Ow.eqR (.pointer (some ⟨w.heap.size, 1, none⟩)), Ow.eqR (.slice S ss.length sc), fun v w' => w'.ownsRow 0 9 1 v ss.length (ss.map bstr), Ow.eqR (.tuple #[.int .i64 (kindP vs ss cs).1, .int .i64 (kindP vs ss cs).2]), Ow.eqR (.tuple #[.int .i64 (kindP vs ss cs).1, .int .i64 (kindP vs ss cs).2]), Ow.eqR (.int .i64 (kindP vs ss cs).1), Ow.eqR (.int .i64 (kindP vs ss cs).2), Ow.eqR (.int .i64 (kindP vs ss cs).1), Ow.eqR (.int .i64 (kindP vs ss cs).2)] [false, true, true, false, false, true, true, false, false, true, false, false, false, false, false, false] [none, none, none, none, none, some 2, none, none, none, some 6, none, none, none, none, none, none] (by kernel_rfl) rfl (by kernel_rfl) ⟨Ow.keeps_eq _ _, Ow.keeps_own _ _ _ _ _, Ow.keeps_own _ _ _ _ _, Ow.keeps_eq _ _, Ow.keeps_eq _ _, Ow.keeps_own _ _ _ _ _, Ow.keeps_own _ _ _ _ _, Ow.keeps_eq _ _, Ow.keeps_eq _ _, Ow.keeps_own _ _ _ _ _, Ow.keeps_eq _ _, Ow.keeps_eq _ _, Ow.keeps_eq _ _, Ow.keeps_eq _ _, Ow.keeps_eq _ _, Ow.keeps_eq _ _, trivial⟩ ?_
  apply Ow.walk_cons rfl
  · intro w1 hb hd ho K hK
    clear hd ho
    go_simp
    exact hK _ _ (Ow.good_same rfl rfl rfl)
  · intro v; simp only [Act.put, List.setIfInBounds_toArray, List.set_cons_succ, List.set_cons_zero]; exact rfl
  · intro v; simp only [List.nil_append]; exact rfl
  intro x10
  apply Ow.walk_cons rfl
  · intro w1 hb hd ho K hK
    have e10 : _ = x10 := Eq.symm (hd 0 (by kernel_rfl))
    subst e10
    have hz := hb.size
    clear hd ho
    go_simp
    refine (HCP.out w1 hb).mono ?_
    rintro e w2 ⟨v, rfl, hv⟩
    go_simp
    exact hK _ _ (Ow.good_new rfl hz hv.below (own_low hv.own (Nat.zero_le _)) (fun g hg => hv.own.lt g hg))
  · intro v; simp only [Act.put, List.setIfInBounds_toArray, List.set_cons_succ, List.set_cons_zero]; exact rfl
  · intro v; simp only [List.nil_append, List.cons_append]; exact rfl
  intro x11
  apply Ow.walk_cons rfl
  · intro w1 hb hd ho K hK
    have hz := hb.size
    clear hd ho
    go_simp
    exact hK _ _ (Ow.good_new rfl hz ((Below.refl _ _).alloc (Nat.le_refl _) _) (own_made0 w1 44 7) (fun g hg => by simp [Value.ownBlock] at hg; subst hg; simp))
  · intro v; simp only [Act.put, List.setIfInBounds_toArray, List.set_cons_succ, List.set_cons_zero]; exact rfl
  · intro v; simp only [List.nil_append, List.cons_append]; exact rfl
  intro x12
  apply Ow.walk_cons rfl
  · intro w1 hb hd ho K hK
    clear hd ho
    go_simp
    exact hK _ _ (Ow.good_same rfl rfl rfl)
  · intro v; simp only [Act.put, List.setIfInBounds_toArray, List.set_cons_succ, List.set_cons_zero]; exact rfl
  · intro v; simp only [List.nil_append, List.cons_append]; exact rfl
  intro x13
  apply Ow.walk_cons rfl
  · intro w1 hb hd ho K hK
    have e13 : _ = x13 := Eq.symm (hd 3 (by kernel_rfl))
    subst e13
    clear hd ho
    have c0 : w1.cell? ⟨w.heap.size, 0, none⟩ = some (.slice V vs.length vc) := (hb.cell (by simp)).trans (by simp)
    go_simp
    exact hK _ _ (Ow.good_same rfl rfl rfl)
  · intro v; simp only [Act.put, List.setIfInBounds_toArray, List.set_cons_succ, List.set_cons_zero]; exact rfl
  · intro v; simp only [List.nil_append, List.cons_append]; exact rfl
  intro x14
  apply Ow.walk_cons rfl
  · intro w1 hb hd ho K hK
    have h12 := hd 2 (by kernel_rfl)
    have e14 : _ = x14 := Eq.symm (hd 4 (by kernel_rfl))
    subst e14
    have hz := hb.size
    have hoo := ho 2 (by kernel_rfl) rfl
    clear hd ho
    refine Ow.step_append rfl (.tmp 12) (.tmp 14) 23 rfl 0 44 iv _ 7 64 Try.underlying23 HV0.out HV1.out HV2.out HV3.out rfl (by decide) x12 0 [] rfl h12 _ vs.length (flatV vs) rfl (HVI.out w1 hb) (flatV_vals vs) (by unfold maxLen; omega) (by omega) (Nat.zero_le _) ?_
    intro v' w' hown hg hob
    simp only [Nat.zero_add, List.nil_append] at hown
    exact hK _ _ (Ow.good_eat (k := 2) rfl hz hg hown hoo hob)
  · intro v; simp only [Act.put, List.setIfInBounds_toArray, List.set_cons_succ, List.set_cons_zero]; exact rfl
  · intro v; simp only [List.nil_append, List.cons_append]; exact rfl
  intro x15
  apply Ow.walk_cons rfl
  · intro w1 hb hd ho K hK
    have hz := hb.size
    clear hd ho
    go_simp
    exact hK _ _ (Ow.good_new rfl hz ((Below.refl _ _).alloc (Nat.le_refl _) _) (own_made0 w1 9 1) (fun g hg => by simp [Value.ownBlock] at hg; subst hg; simp))
  · intro v; simp only [Act.put, List.setIfInBounds_toArray, List.set_cons_succ, List.set_cons_zero]; exact rfl
  · intro v; simp only [List.nil_append, List.cons_append]; exact rfl
  intro x16
  apply Ow.walk_cons rfl
  · intro w1 hb hd ho K hK
    clear hd ho
    go_simp
    exact hK _ _ (Ow.good_same rfl rfl rfl)
  · intro v; simp only [Act.put, List.setIfInBounds_toArray, List.set_cons_succ, List.set_cons_zero]; exact rfl
  · intro v; simp only [List.nil_append, List.cons_append]; exact rfl
  intro x17
  apply Ow.walk_cons rfl
  · intro w1 hb hd ho K hK
    have e17 : _ = x17 := Eq.symm (hd 7 (by kernel_rfl))
    subst e17
    clear hd ho
    have c0 : w1.cell? ⟨w.heap.size, 1, none⟩ = some (.slice S ss.length sc) := (hb.cell (by simp)).trans (by simp)
    go_simp
    exact hK _ _ (Ow.good_same rfl rfl rfl)
  · intro v; simp only [Act.put, List.setIfInBounds_toArray, List.set_cons_succ, List.set_cons_zero]; exact rfl
  · intro v; simp only [List.nil_append, List.cons_append]; exact rfl
  intro x18
  apply Ow.walk_cons rfl
  · intro w1 hb hd ho K hK
    have h16 := hd 6 (by kernel_rfl)
    have e18 : _ = x18 := Eq.symm (hd 8 (by kernel_rfl))
    subst e18
    have hz := hb.size
    have hoo := ho 6 (by kernel_rfl) rfl
    clear hd ho
    refine Ow.step_append rfl (.tmp 16) (.tmp 18) 24 rfl 0 9 is _ 1 16 Try.underlying24 HS0.out HS1.out HS2.out HS3.out rfl (by decide) x16 0 [] rfl h16 _ ss.length (ss.map bstr) rfl (HSI.out w1 hb) (strs_vals ss) (by unfold maxLen; omega) (by omega) (Nat.zero_le _) ?_
    intro v' w' hown hg hob
    simp only [Nat.zero_add, List.nil_append] at hown
    exact hK _ _ (Ow.good_eat (k := 6) rfl hz hg hown hoo hob)
  · intro v; simp only [Act.put, List.setIfInBounds_toArray, List.set_cons_succ, List.set_cons_zero]; exact rfl
  · intro v; simp only [List.nil_append, List.cons_append]; exact rfl
  intro x19
  apply Ow.walk_cons rfl
  · intro w1 hb hd ho K hK
    have h11 := hd 1 (by kernel_rfl)
    have h15 := hd 5 (by kernel_rfl)
    have h19 := hd 9 (by kernel_rfl)
    clear ho
    have hr := own_rd h11
    skip
    clear hd
    go_simp
    refine (HKO.out w1 hb _ _ _ hr (Inn.of_own h15) (Inn.of_own h19)).mono ?_
    rintro e w2 ⟨rfl, hb2⟩
    go_simp
    exact hK _ _ (Ow.good_below rfl rfl hb2 rfl)
  · intro v; simp only [Act.put, List.setIfInBounds_toArray, List.set_cons_succ, List.set_cons_zero]; exact rfl
  · intro v; simp only [List.nil_append, List.cons_append]; exact rfl
  intro x20
  apply Ow.walk_cons rfl
  · intro w1 hb hd ho K hK
    have e20 : _ = x20 := Eq.symm (hd 10 (by kernel_rfl))
    subst e20
    clear hd ho
    go_simp
    exact hK _ _ (Ow.good_same rfl rfl rfl)
  · intro v; simp only [Act.put, List.setIfInBounds_toArray, List.set_cons_succ, List.set_cons_zero]; exact rfl
  · intro v; simp only [List.nil_append, List.cons_append]; exact rfl
  intro x9
  apply Ow.walk_cons rfl
  · intro w1 hb hd ho K hK
    have e9 : _ = x9 := Eq.symm (hd 11 (by kernel_rfl))
    subst e9
    clear hd ho
    go_simp
    exact hK _ _ (Ow.good_same rfl rfl rfl)
  · intro v; simp only [Act.put, List.setIfInBounds_toArray, List.set_cons_succ, List.set_cons_zero]; exact rfl
  · intro v; simp only [List.nil_append, List.cons_append]; exact rfl
  intro x21
  apply Ow.walk_cons rfl
  · intro w1 hb hd ho K hK
    have e9 : _ = x9 := Eq.symm (hd 11 (by kernel_rfl))
    subst e9
    clear hd ho
    go_simp
    exact hK _ _ (Ow.good_same rfl rfl rfl)
  · intro v; simp only [Act.put, List.setIfInBounds_toArray, List.set_cons_succ, List.set_cons_zero]; exact rfl
  · intro v; simp only [List.nil_append, List.cons_append]; exact rfl
  intro x22
  apply Ow.walk_cons rfl
  · intro w1 hb hd ho K hK
    have e21 : _ = x21 := Eq.symm (hd 12 (by kernel_rfl))
    subst e21
    clear hd ho
    go_simp
    exact hK _ _ (Ow.good_same rfl rfl rfl)
  · intro v; simp only [Act.put, List.setIfInBounds_toArray, List.set_cons_succ, List.set_cons_zero]; exact rfl
  · intro v; simp only [List.nil_append, List.cons_append]; exact rfl
  intro x5
  apply Ow.walk_cons rfl
  · intro w1 hb hd ho K hK
    have e22 : _ = x22 := Eq.symm (hd 13 (by kernel_rfl))
    subst e22
    clear hd ho
    go_simp
    exact hK _ _ (Ow.good_same rfl rfl rfl)
  · intro v; simp only [Act.put, List.setIfInBounds_toArray, List.set_cons_succ, List.set_cons_zero]; exact rfl
  · intro v; simp only [List.nil_append, List.cons_append]; exact rfl
  intro x6
  refine Ow.walk_nil rfl (fun w1 hb hd => ?_)
  have e10 : _ = x10 := Eq.symm (hd 0 (by kernel_rfl))
  subst e10
  have h11 := hd 1 (by kernel_rfl)
  have e13 : _ = x13 := Eq.symm (hd 3 (by kernel_rfl))
  subst e13
  have e14 : _ = x14 := Eq.symm (hd 4 (by kernel_rfl))
  subst e14
  have h15 := hd 5 (by kernel_rfl)
  have e17 : _ = x17 := Eq.symm (hd 7 (by kernel_rfl))
  subst e17
  have e18 : _ = x18 := Eq.symm (hd 8 (by kernel_rfl))
  subst e18
  have h19 := hd 9 (by kernel_rfl)
  have e20 : _ = x20 := Eq.symm (hd 10 (by kernel_rfl))
  subst e20
  have e9 : _ = x9 := Eq.symm (hd 11 (by kernel_rfl))
  subst e9
  have e21 : _ = x21 := Eq.symm (hd 12 (by kernel_rfl))
  subst e21
  have e22 : _ = x22 := Eq.symm (hd 13 (by kernel_rfl))
  subst e22
  have e5 : _ = x5 := Eq.symm (hd 14 (by kernel_rfl))
  subst e5
  have e6 : _ = x6 := Eq.symm (hd 15 (by kernel_rfl))
  subst e6
  clear hd
  have HB1 : Hid (Below w.heap.size w w1) := HBX.out.trans (((Below.refl _ _).drew.trans (hb.mono (Nat.le_refl _))).mono HBX.out.size)
  have c0 : w1.cell? ⟨w.heap.size, 0, none⟩ = some (.slice V vs.length vc) := (hb.cell (by simp)).trans (by simp)
  have c1 : w1.cell? ⟨w.heap.size, 1, none⟩ = some (.slice S ss.length sc) := (hb.cell (by simp)).trans (by simp)
  clear hb h11 h15 h19
  go_simp
  go_wp2_with fail
  refine (HRO.out w1 HB1.out).mono ?_
  rintro e w2 ⟨rfl, hb2⟩
  have HB2 := Lib.hid (HB1.out.trans (hb2.mono HB1.out.size)); clear hb2
  go_wp2_with fail
  refine (wakes4_any _).mono ?_
  rintro e w3 ⟨rfl, hb3⟩
  have HB3 := Lib.hid (HB2.out.trans (hb3.mono HB2.out.size)); clear hb3
  go_wp2
  go_ret
  exact ⟨rfl, HB3.out⟩
end Go.Proofs.Ytkpacigbhghcpaa
