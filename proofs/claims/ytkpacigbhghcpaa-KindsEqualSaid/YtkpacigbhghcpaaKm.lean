/- The law KindsEqual walked. -/
import Derived.Test.YtkpacigbhghcpaaKj
namespace Go.Proofs.Ytkpacigbhghcpaa
open Go.RowKit

theorem cellV_vals (c : CM) : ∀ u ∈ cellV c, u.oneCell' = true := by
  intro u hu
  rw [← flat_one] at hu
  exact flat_vals [c] u hu

theorem kind_eq {vs : List VM} {ss : List (List UInt8)} {cs ds : List CM} (h1 : (kindP vs ss cs).2 = 0) (h2 : (kindP vs ss ds).2 = 0) (hl : cs.length + ds.length < 32) :
    kindP vs ss (cs ++ ds ++ [opC 16]) = if (kindP vs ss cs).1 = (kindP vs ss ds).1 then (2, 0) else (0, 8) := by
  obtain ⟨t, ht, rfl⟩ := right_tree (kind_right h1)
  obtain ⟨u, hu, rfl⟩ := right_tree (kind_right h2)
  rw [kind_tree ht (by omega)] at h1 ⊢
  rw [kind_tree hu (by omega)] at h2 ⊢
  rw [show post t ++ post u ++ [opC 16] = post (.bin 16 t u) from rfl, kind_tree (t := .bin 16 t u) ⟨by decide, by decide, ht, hu⟩ (by simp [post]; omega)]
  show (if (kT vs ss t).2 ≠ 0 then (0, (kT vs ss t).2) else if (kT vs ss u).2 ≠ 0 then (0, (kT vs ss u).2) else joinK 16 (kT vs ss t).1 (kT vs ss u).1) = _
  rw [if_neg (fun e => e h1), if_neg (fun e => e h2)]
  unfold joinK
  by_cases h : (kT vs ss t).1 = (kT vs ss u).1
  · rw [if_neg (fun e => e h), if_pos h]; rfl
  · rw [if_pos h, if_neg h]

set_option maxRecDepth 100000 in
set_option maxHeartbeats 4000000 in
theorem kindsEqual_law (va vb vv sv : Value) (cs ds : List CM) (vs : List VM) (ss : List (List UInt8)) (w : World) (hR : RdI w va cs) (hD : RdI w vb ds) (hl : cs.length * 32 + ds.length * 32 ≤ 281474976710656) (hl1 : cs.length * 32 ≤ 140737488355328) (hl2 : ds.length * 32 ≤ 140737488355328) (hV : RdV w vv vs) (hS : RdW w sv ss)
    (hvl : vs.length * 64 ≤ 140737488355328) (hsl : ss.length * 16 ≤ 140737488355328) :
    Calls Try.prog 6 #[va, vb, .agg #[vv, sv]] w fun e w' => e = .returned (.bool true) ∧ Below w.heap.size w w' := by
  obtain ⟨V, vc, rfl⟩ := hV.form
  obtain ⟨S, sc, rfl⟩ := hS.form
  obtain ⟨ic, hc0, hc1, hc2, hc3⟩ := info_parts Try.infoCell
  have HC0 := Lib.hid hc0; have HC1 := Lib.hid hc1; have HC2 := Lib.hid hc2; have HC3 := Lib.hid hc3
  clear hc0 hc1 hc2 hc3
  have HCA : Hid (∀ W, Below w.heap.size w W → Calls Try.prog 9 #[va] W fun e w' => ∃ v', e = .returned v' ∧ Own W cs v' w') := fun W hb => copied4_any va cs W (hR.below hb) hl1
  have HCB : Hid (∀ W, Below w.heap.size w W → Calls Try.prog 9 #[vb] W fun e w' => ∃ v', e = .returned v' ∧ Own W ds v' w') := fun W hb => copied4_any vb ds W (hD.below hb) hl2
  have HDI : Hid (∀ W, Below w.heap.size w W → Inn W 3 vb ds.length (flat ds)) := fun W hb => (hD.below hb).inn
  have HKO : Hid (∀ W, Below w.heap.size w W → ∀ l : List CM, l.length ≤ 4611686018427387904 → ∀ x, RdC W x l → Calls Try.prog 8 #[x, .slice V vs.length vc, .slice S ss.length sc] W fun e w' => e = .returned (.tuple #[.int .i64 (kindP vs ss l).1, .int .i64 (kindP vs ss l).2]) ∧ Below W.heap.size W w') := fun W hb l hll x hx => kindsOf_any x _ _ l vs ss W hx hll (hV.below hb) (by omega) (hS.below hb) (by omega)
  have HK1 : Hid (∀ W, Below w.heap.size w W → ∀ x, RdC W x cs → Calls Try.prog 8 #[x, .slice V vs.length vc, .slice S ss.length sc] W fun e w' => e = .returned (.tuple #[.int .i64 (kindP vs ss cs).1, .int .i64 (kindP vs ss cs).2]) ∧ Below W.heap.size W w') := fun W hb => HKO.out W hb cs (by omega)
  have HK2 : Hid (∀ W, Below w.heap.size w W → ∀ x, RdC W x ds → Calls Try.prog 8 #[x, .slice V vs.length vc, .slice S ss.length sc] W fun e w' => e = .returned (.tuple #[.int .i64 (kindP vs ss ds).1, .int .i64 (kindP vs ss ds).2]) ∧ Below W.heap.size W w') := fun W hb => HKO.out W hb ds (by omega)
  obtain ⟨es, hes⟩ : ∃ es, es = cs ++ ds ++ [opC 16] := ⟨_, rfl⟩
  have hesl : es.length = cs.length + ds.length + 1 := by rw [hes]; simp; omega
  have HESL := Lib.hid hesl
  have HES := Lib.hid hes
  have HK3 : Hid (cs.length + ds.length < 32 → ∀ W, Below w.heap.size w W → ∀ x, RdC W x es → Calls Try.prog 8 #[x, .slice V vs.length vc, .slice S ss.length sc] W fun e w' => e = .returned (.tuple #[.int .i64 (kindP vs ss es).1, .int .i64 (kindP vs ss es).2]) ∧ Below W.heap.size W w') := fun hlt W hb => HKO.out W hb es (by omega)
  obtain ⟨wb, hwb⟩ : ∃ wb, wb = (w.alloc (.cells #[.slice V vs.length vc, .slice S ss.length sc] 26)) := ⟨_, rfl⟩
  have HB0 : Hid (Below w.heap.size w wb) := by rw [hwb]; exact (Below.refl _ _).alloc (Nat.le_refl _) _
  have c50 : wb.cell? ⟨w.heap.size, 0, none⟩ = some (.slice V vs.length vc) := by rw [hwb]; simp
  have c51 : wb.cell? ⟨w.heap.size, 1, none⟩ = some (.slice S ss.length sc) := by rw [hwb]; simp
  have HE := Lib.hid hwb
  have HKR := Lib.hid (kind_range (vs := vs) (ss := ss) cs)
  have HKS := Lib.hid (kind_range (vs := vs) (ss := ss) ds)
  have HKE := Lib.hid (fun h1 h2 h3 => kind_eq (vs := vs) (ss := ss) (cs := cs) (ds := ds) h1 h2 h3)
  rw [← hes] at HKE
  have hfa : ∃ A c, va = .slice A cs.length c := by
    rcases hR with ⟨rfl, rfl⟩ | ⟨ad, c, rfl, _⟩
    · exact ⟨_, _, rfl⟩
    · exact ⟨_, _, rfl⟩
  have hfb : ∃ A c, vb = .slice A ds.length c := by
    rcases hD with ⟨rfl, rfl⟩ | ⟨ad, c, rfl, _⟩
    · exact ⟨_, _, rfl⟩
    · exact ⟨_, _, rfl⟩
  obtain ⟨A1, ca, rfl⟩ := hfa
  obtain ⟨B1, cb, rfl⟩ := hfb
  clear hR hD hV hS hwb HKO hes hesl
  go_enter Try.func6, Try.ntmps6
  go_wp2_with fail
  rw [← HE.out]
  clear HE
  have HW : Hid (∀ w1, Below wb.heap.size wb.drew w1 → Below w.heap.size w w1) := fun w1 hb => HB0.out.trans (((Below.refl _ _).drew.trans hb).mono HB0.out.size)
  refine Ow.region_own' 90 [Ow.eqR (.slice A1 cs.length ca), fun v w' => w'.ownsRow 0 38 3 v (cs).length (flat (cs)), Ow.eqR (.pointer (some ⟨w.heap.size, 0, none⟩)), Ow.eqR (.slice V vs.length vc), Ow.eqR (.pointer (some ⟨w.heap.size, 1, none⟩)), Ow.eqR (.slice S ss.length sc), Ow.eqR (.tuple #[.int .i64 (kindP vs ss cs).1, .int .i64 (kindP vs ss cs).2]), Ow.eqR (.tuple #[.int .i64 (kindP vs ss cs).1, .int .i64 (kindP vs ss cs).2]), Ow.eqR (.int .i64 (kindP vs ss cs).1), Ow.eqR (.int .i64 (kindP vs ss cs).2), Ow.eqR (.int .i64 (kindP vs ss cs).1), Ow.eqR (.int .i64 (kindP vs ss cs).2)] [false, true, false, false, false, false, false, false, false, false, false, false] [none, none, none, none, none, none, none, none, none, none, none, none] (by kernel_rfl) rfl (by kernel_rfl) ⟨Ow.keeps_eq _ _, Ow.keeps_own _ _ _ _ _, Ow.keeps_eq _ _, Ow.keeps_eq _ _, Ow.keeps_eq _ _, Ow.keeps_eq _ _, Ow.keeps_eq _ _, Ow.keeps_eq _ _, Ow.keeps_eq _ _, Ow.keeps_eq _ _, Ow.keeps_eq _ _, Ow.keeps_eq _ _, trivial⟩ ?_
  apply Ow.walk_cons rfl
  · intro w1 hb hd ho K hK
    clear hd ho
    go_simp
    exact hK _ _ (Ow.good_same rfl rfl rfl)
  · intro v; simp only [Act.put, List.setIfInBounds_toArray, List.set_cons_succ, List.set_cons_zero]; exact rfl
  · intro v; simp only [List.nil_append]; exact rfl
  intro x15
  apply Ow.walk_cons rfl
  · intro w1 hb hd ho K hK
    have e15 : _ = x15 := Eq.symm (hd 0 (by kernel_rfl))
    subst e15
    have hz := hb.size
    clear hd ho
    go_simp
    refine (HCA.out w1 (HW.out w1 hb)).mono ?_
    rintro e w2 ⟨v, rfl, hv⟩
    go_simp
    exact hK _ _ (Ow.good_new rfl hz hv.below (own_low hv.own (Nat.zero_le _)) (fun g hg => hv.own.lt g hg))
  · intro v; simp only [Act.put, List.setIfInBounds_toArray, List.set_cons_succ, List.set_cons_zero]; exact rfl
  · intro v; simp only [List.nil_append, List.cons_append]; exact rfl
  intro x16
  apply Ow.walk_cons rfl
  · intro w1 hb hd ho K hK
    clear hd ho
    go_simp
    exact hK _ _ (Ow.good_same rfl rfl rfl)
  · intro v; simp only [Act.put, List.setIfInBounds_toArray, List.set_cons_succ, List.set_cons_zero]; exact rfl
  · intro v; simp only [List.nil_append, List.cons_append]; exact rfl
  intro x17
  apply Ow.walk_cons rfl
  · intro w1 hb hd ho K hK
    have e17 : _ = x17 := Eq.symm (hd 2 (by kernel_rfl))
    subst e17
    clear hd ho
    have c0 : w1.cell? ⟨w.heap.size, 0, none⟩ = some (.slice V vs.length vc) := (hb.cell (cell_lt c50)).trans c50
    go_simp
    exact hK _ _ (Ow.good_same rfl rfl rfl)
  · intro v; simp only [Act.put, List.setIfInBounds_toArray, List.set_cons_succ, List.set_cons_zero]; exact rfl
  · intro v; simp only [List.nil_append, List.cons_append]; exact rfl
  intro x18
  apply Ow.walk_cons rfl
  · intro w1 hb hd ho K hK
    clear hd ho
    go_simp
    exact hK _ _ (Ow.good_same rfl rfl rfl)
  · intro v; simp only [Act.put, List.setIfInBounds_toArray, List.set_cons_succ, List.set_cons_zero]; exact rfl
  · intro v; simp only [List.nil_append, List.cons_append]; exact rfl
  intro x19
  apply Ow.walk_cons rfl
  · intro w1 hb hd ho K hK
    have e19 : _ = x19 := Eq.symm (hd 4 (by kernel_rfl))
    subst e19
    clear hd ho
    have c0 : w1.cell? ⟨w.heap.size, 1, none⟩ = some (.slice S ss.length sc) := (hb.cell (cell_lt c51)).trans c51
    go_simp
    exact hK _ _ (Ow.good_same rfl rfl rfl)
  · intro v; simp only [Act.put, List.setIfInBounds_toArray, List.set_cons_succ, List.set_cons_zero]; exact rfl
  · intro v; simp only [List.nil_append, List.cons_append]; exact rfl
  intro x20
  apply Ow.walk_cons rfl
  · intro w1 hb hd ho K hK
    have h16 := hd 1 (by kernel_rfl)
    have e18 : _ = x18 := Eq.symm (hd 3 (by kernel_rfl))
    subst e18
    have e20 : _ = x20 := Eq.symm (hd 5 (by kernel_rfl))
    subst e20
    clear ho
    clear hd
    go_simp
    refine (HK1.out w1 (HW.out w1 hb) _ (own_rd h16)).mono ?_
    rintro e w2 ⟨rfl, hb2⟩
    go_simp
    exact hK _ _ (Ow.good_below rfl rfl hb2 rfl)
  · intro v; simp only [Act.put, List.setIfInBounds_toArray, List.set_cons_succ, List.set_cons_zero]; exact rfl
  · intro v; simp only [List.nil_append, List.cons_append]; exact rfl
  intro x21
  apply Ow.walk_cons rfl
  · intro w1 hb hd ho K hK
    have e21 : _ = x21 := Eq.symm (hd 6 (by kernel_rfl))
    subst e21
    clear hd ho
    go_simp
    exact hK _ _ (Ow.good_same rfl rfl rfl)
  · intro v; simp only [Act.put, List.setIfInBounds_toArray, List.set_cons_succ, List.set_cons_zero]; exact rfl
  · intro v; simp only [List.nil_append, List.cons_append]; exact rfl
  intro x14
  apply Ow.walk_cons rfl
  · intro w1 hb hd ho K hK
    have e14 : _ = x14 := Eq.symm (hd 7 (by kernel_rfl))
    subst e14
    clear hd ho
    go_simp
    exact hK _ _ (Ow.good_same rfl rfl rfl)
  · intro v; simp only [Act.put, List.setIfInBounds_toArray, List.set_cons_succ, List.set_cons_zero]; exact rfl
  · intro v; simp only [List.nil_append, List.cons_append]; exact rfl
  intro x22
  apply Ow.walk_cons rfl
  · intro w1 hb hd ho K hK
    have e14 : _ = x14 := Eq.symm (hd 7 (by kernel_rfl))
    subst e14
    clear hd ho
    go_simp
    exact hK _ _ (Ow.good_same rfl rfl rfl)
  · intro v; simp only [Act.put, List.setIfInBounds_toArray, List.set_cons_succ, List.set_cons_zero]; exact rfl
  · intro v; simp only [List.nil_append, List.cons_append]; exact rfl
  intro x23
  apply Ow.walk_cons rfl
  · intro w1 hb hd ho K hK
    have e22 : _ = x22 := Eq.symm (hd 8 (by kernel_rfl))
    subst e22
    clear hd ho
    go_simp
    exact hK _ _ (Ow.good_same rfl rfl rfl)
  · intro v; simp only [Act.put, List.setIfInBounds_toArray, List.set_cons_succ, List.set_cons_zero]; exact rfl
  · intro v; simp only [List.nil_append, List.cons_append]; exact rfl
  intro x7
  apply Ow.walk_cons rfl
  · intro w1 hb hd ho K hK
    have e23 : _ = x23 := Eq.symm (hd 9 (by kernel_rfl))
    subst e23
    clear hd ho
    go_simp
    exact hK _ _ (Ow.good_same rfl rfl rfl)
  · intro v; simp only [Act.put, List.setIfInBounds_toArray, List.set_cons_succ, List.set_cons_zero]; exact rfl
  · intro v; simp only [List.nil_append, List.cons_append]; exact rfl
  intro x8
  refine Ow.walk_nil rfl (fun w1 hb hd => ?_)
  have e15 : _ = x15 := Eq.symm (hd 0 (by kernel_rfl))
  subst e15
  have h16 := hd 1 (by kernel_rfl)
  have e17 : _ = x17 := Eq.symm (hd 2 (by kernel_rfl))
  subst e17
  have e18 : _ = x18 := Eq.symm (hd 3 (by kernel_rfl))
  subst e18
  have e19 : _ = x19 := Eq.symm (hd 4 (by kernel_rfl))
  subst e19
  have e20 : _ = x20 := Eq.symm (hd 5 (by kernel_rfl))
  subst e20
  have e21 : _ = x21 := Eq.symm (hd 6 (by kernel_rfl))
  subst e21
  have e14 : _ = x14 := Eq.symm (hd 7 (by kernel_rfl))
  subst e14
  have e22 : _ = x22 := Eq.symm (hd 8 (by kernel_rfl))
  subst e22
  have e23 : _ = x23 := Eq.symm (hd 9 (by kernel_rfl))
  subst e23
  have e7 : _ = x7 := Eq.symm (hd 10 (by kernel_rfl))
  subst e7
  have e8 : _ = x8 := Eq.symm (hd 11 (by kernel_rfl))
  subst e8
  clear hd
  have HB1 : Hid (Below w.heap.size w w1) := HW.out w1 hb
  have c50' : w1.cell? ⟨w.heap.size, 0, none⟩ = some (.slice V vs.length vc) := (hb.cell (cell_lt c50)).trans c50
  have c51' : w1.cell? ⟨w.heap.size, 1, none⟩ = some (.slice S ss.length sc) := (hb.cell (cell_lt c51)).trans c51
  clear hb HW h16 c50 c51
  have c50 := c50'; clear c50'
  have c51 := c51'; clear c51'
  go_simp
  obtain ⟨wc, hwc⟩ : ∃ wc, wc = w1 := ⟨_, rfl⟩
  rw [← hwc] at HB1 c50 c51 ⊢
  clear hwc
  go_wp2_with fail
  have HW : Hid (∀ w1, Below wc.heap.size wc.drew w1 → Below w.heap.size w w1) := fun w1 hb => HB1.out.trans (((Below.refl _ _).drew.trans hb).mono HB1.out.size)
  refine Ow.region_own' 90 [Ow.eqR (.slice B1 ds.length cb), fun v w' => w'.ownsRow 0 38 3 v (ds).length (flat (ds)), Ow.eqR (.pointer (some ⟨w.heap.size, 0, none⟩)), Ow.eqR (.slice V vs.length vc), Ow.eqR (.pointer (some ⟨w.heap.size, 1, none⟩)), Ow.eqR (.slice S ss.length sc), Ow.eqR (.tuple #[.int .i64 (kindP vs ss ds).1, .int .i64 (kindP vs ss ds).2]), Ow.eqR (.tuple #[.int .i64 (kindP vs ss ds).1, .int .i64 (kindP vs ss ds).2]), Ow.eqR (.int .i64 (kindP vs ss ds).1), Ow.eqR (.int .i64 (kindP vs ss ds).2), Ow.eqR (.int .i64 (kindP vs ss ds).1), Ow.eqR (.int .i64 (kindP vs ss ds).2)] [false, true, false, false, false, false, false, false, false, false, false, false] [none, none, none, none, none, none, none, none, none, none, none, none] (by kernel_rfl) rfl (by kernel_rfl) ⟨Ow.keeps_eq _ _, Ow.keeps_own _ _ _ _ _, Ow.keeps_eq _ _, Ow.keeps_eq _ _, Ow.keeps_eq _ _, Ow.keeps_eq _ _, Ow.keeps_eq _ _, Ow.keeps_eq _ _, Ow.keeps_eq _ _, Ow.keeps_eq _ _, Ow.keeps_eq _ _, Ow.keeps_eq _ _, trivial⟩ ?_
  apply Ow.walk_cons rfl
  · intro w1 hb hd ho K hK
    clear hd ho
    go_simp
    exact hK _ _ (Ow.good_same rfl rfl rfl)
  · intro v; simp only [Act.put, List.setIfInBounds_toArray, List.set_cons_succ, List.set_cons_zero]; exact rfl
  · intro v; simp only [List.nil_append]; exact rfl
  intro x25
  apply Ow.walk_cons rfl
  · intro w1 hb hd ho K hK
    have e25 : _ = x25 := Eq.symm (hd 0 (by kernel_rfl))
    subst e25
    have hz := hb.size
    clear hd ho
    go_simp
    refine (HCB.out w1 (HW.out w1 hb)).mono ?_
    rintro e w2 ⟨v, rfl, hv⟩
    go_simp
    exact hK _ _ (Ow.good_new rfl hz hv.below (own_low hv.own (Nat.zero_le _)) (fun g hg => hv.own.lt g hg))
  · intro v; simp only [Act.put, List.setIfInBounds_toArray, List.set_cons_succ, List.set_cons_zero]; exact rfl
  · intro v; simp only [List.nil_append, List.cons_append]; exact rfl
  intro x26
  apply Ow.walk_cons rfl
  · intro w1 hb hd ho K hK
    clear hd ho
    go_simp
    exact hK _ _ (Ow.good_same rfl rfl rfl)
  · intro v; simp only [Act.put, List.setIfInBounds_toArray, List.set_cons_succ, List.set_cons_zero]; exact rfl
  · intro v; simp only [List.nil_append, List.cons_append]; exact rfl
  intro x27
  apply Ow.walk_cons rfl
  · intro w1 hb hd ho K hK
    have e27 : _ = x27 := Eq.symm (hd 2 (by kernel_rfl))
    subst e27
    clear hd ho
    have c0 : w1.cell? ⟨w.heap.size, 0, none⟩ = some (.slice V vs.length vc) := (hb.cell (cell_lt c50)).trans c50
    go_simp
    exact hK _ _ (Ow.good_same rfl rfl rfl)
  · intro v; simp only [Act.put, List.setIfInBounds_toArray, List.set_cons_succ, List.set_cons_zero]; exact rfl
  · intro v; simp only [List.nil_append, List.cons_append]; exact rfl
  intro x28
  apply Ow.walk_cons rfl
  · intro w1 hb hd ho K hK
    clear hd ho
    go_simp
    exact hK _ _ (Ow.good_same rfl rfl rfl)
  · intro v; simp only [Act.put, List.setIfInBounds_toArray, List.set_cons_succ, List.set_cons_zero]; exact rfl
  · intro v; simp only [List.nil_append, List.cons_append]; exact rfl
  intro x29
  apply Ow.walk_cons rfl
  · intro w1 hb hd ho K hK
    have e29 : _ = x29 := Eq.symm (hd 4 (by kernel_rfl))
    subst e29
    clear hd ho
    have c0 : w1.cell? ⟨w.heap.size, 1, none⟩ = some (.slice S ss.length sc) := (hb.cell (cell_lt c51)).trans c51
    go_simp
    exact hK _ _ (Ow.good_same rfl rfl rfl)
  · intro v; simp only [Act.put, List.setIfInBounds_toArray, List.set_cons_succ, List.set_cons_zero]; exact rfl
  · intro v; simp only [List.nil_append, List.cons_append]; exact rfl
  intro x30
  apply Ow.walk_cons rfl
  · intro w1 hb hd ho K hK
    have h26 := hd 1 (by kernel_rfl)
    have e28 : _ = x28 := Eq.symm (hd 3 (by kernel_rfl))
    subst e28
    have e30 : _ = x30 := Eq.symm (hd 5 (by kernel_rfl))
    subst e30
    clear ho
    clear hd
    go_simp
    refine (HK2.out w1 (HW.out w1 hb) _ (own_rd h26)).mono ?_
    rintro e w2 ⟨rfl, hb2⟩
    go_simp
    exact hK _ _ (Ow.good_below rfl rfl hb2 rfl)
  · intro v; simp only [Act.put, List.setIfInBounds_toArray, List.set_cons_succ, List.set_cons_zero]; exact rfl
  · intro v; simp only [List.nil_append, List.cons_append]; exact rfl
  intro x31
  apply Ow.walk_cons rfl
  · intro w1 hb hd ho K hK
    have e31 : _ = x31 := Eq.symm (hd 6 (by kernel_rfl))
    subst e31
    clear hd ho
    go_simp
    exact hK _ _ (Ow.good_same rfl rfl rfl)
  · intro v; simp only [Act.put, List.setIfInBounds_toArray, List.set_cons_succ, List.set_cons_zero]; exact rfl
  · intro v; simp only [List.nil_append, List.cons_append]; exact rfl
  intro x24
  apply Ow.walk_cons rfl
  · intro w1 hb hd ho K hK
    have e24 : _ = x24 := Eq.symm (hd 7 (by kernel_rfl))
    subst e24
    clear hd ho
    go_simp
    exact hK _ _ (Ow.good_same rfl rfl rfl)
  · intro v; simp only [Act.put, List.setIfInBounds_toArray, List.set_cons_succ, List.set_cons_zero]; exact rfl
  · intro v; simp only [List.nil_append, List.cons_append]; exact rfl
  intro x32
  apply Ow.walk_cons rfl
  · intro w1 hb hd ho K hK
    have e24 : _ = x24 := Eq.symm (hd 7 (by kernel_rfl))
    subst e24
    clear hd ho
    go_simp
    exact hK _ _ (Ow.good_same rfl rfl rfl)
  · intro v; simp only [Act.put, List.setIfInBounds_toArray, List.set_cons_succ, List.set_cons_zero]; exact rfl
  · intro v; simp only [List.nil_append, List.cons_append]; exact rfl
  intro x33
  apply Ow.walk_cons rfl
  · intro w1 hb hd ho K hK
    have e32 : _ = x32 := Eq.symm (hd 8 (by kernel_rfl))
    subst e32
    clear hd ho
    go_simp
    exact hK _ _ (Ow.good_same rfl rfl rfl)
  · intro v; simp only [Act.put, List.setIfInBounds_toArray, List.set_cons_succ, List.set_cons_zero]; exact rfl
  · intro v; simp only [List.nil_append, List.cons_append]; exact rfl
  intro x9
  apply Ow.walk_cons rfl
  · intro w1 hb hd ho K hK
    have e33 : _ = x33 := Eq.symm (hd 9 (by kernel_rfl))
    subst e33
    clear hd ho
    go_simp
    exact hK _ _ (Ow.good_same rfl rfl rfl)
  · intro v; simp only [Act.put, List.setIfInBounds_toArray, List.set_cons_succ, List.set_cons_zero]; exact rfl
  · intro v; simp only [List.nil_append, List.cons_append]; exact rfl
  intro x10
  refine Ow.walk_nil rfl (fun w1 hb hd => ?_)
  have e25 : _ = x25 := Eq.symm (hd 0 (by kernel_rfl))
  subst e25
  have h26 := hd 1 (by kernel_rfl)
  have e27 : _ = x27 := Eq.symm (hd 2 (by kernel_rfl))
  subst e27
  have e28 : _ = x28 := Eq.symm (hd 3 (by kernel_rfl))
  subst e28
  have e29 : _ = x29 := Eq.symm (hd 4 (by kernel_rfl))
  subst e29
  have e30 : _ = x30 := Eq.symm (hd 5 (by kernel_rfl))
  subst e30
  have e31 : _ = x31 := Eq.symm (hd 6 (by kernel_rfl))
  subst e31
  have e24 : _ = x24 := Eq.symm (hd 7 (by kernel_rfl))
  subst e24
  have e32 : _ = x32 := Eq.symm (hd 8 (by kernel_rfl))
  subst e32
  have e33 : _ = x33 := Eq.symm (hd 9 (by kernel_rfl))
  subst e33
  have e9 : _ = x9 := Eq.symm (hd 10 (by kernel_rfl))
  subst e9
  have e10 : _ = x10 := Eq.symm (hd 11 (by kernel_rfl))
  subst e10
  clear hd
  have HB2 : Hid (Below w.heap.size w w1) := HW.out w1 hb
  have c50' : w1.cell? ⟨w.heap.size, 0, none⟩ = some (.slice V vs.length vc) := (hb.cell (cell_lt c50)).trans c50
  have c51' : w1.cell? ⟨w.heap.size, 1, none⟩ = some (.slice S ss.length sc) := (hb.cell (cell_lt c51)).trans c51
  clear hb HW h26 c50 c51
  have c50 := c50'; clear c50'
  have c51 := c51'; clear c51'
  go_simp
  go_wp2_with fail
  refine (wakes4_any _).mono ?_
  rintro e w3 ⟨rfl, hb3⟩
  have HB3 := Lib.hid (HB2.out.trans (hb3.mono HB2.out.size))
  have d50 := (hb3.cell (cell_lt c50)).trans c50
  have d51 := (hb3.cell (cell_lt c51)).trans c51
  clear hb3 c50 c51
  rcases HKR.out with ⟨h1, _⟩ | ⟨h1, _⟩
  · rcases HKS.out with ⟨h2, _⟩ | ⟨h2, _⟩
    · by_cases hlt : cs.length + ds.length < 32
      · have hke := HKE.out h1 h2 hlt
        have HK3' := Lib.hid (HK3.out hlt)
        have HKEQ := Lib.hid hke
        have H1 := Lib.hid h1; have H2 := Lib.hid h2
        have hlt' : decide ((32 : Int) ≤ (cs.length : Int) + (ds.length : Int)) = false := decide_eq_false (by omega)
        have HLT := Lib.hid hlt
        have hlc : cs.length ≤ 32 := by omega
        have hld : ds.length ≤ 32 := by omega
        clear hke h1 h2 hlt
        rw [H1.out, H2.out]
        go_wp2_with fail
        refine (HCA.out _ HB3.out).mono ?_
        rintro e w4 ⟨v4, rfl, ho4⟩
        have HO4 := Lib.hid (own_low ho4.own (Nat.zero_le _))
        have HB4 := Lib.hid (HB3.out.trans (ho4.below.mono HB3.out.size))
        have f50 := (ho4.below.cell (cell_lt d50)).trans d50
        have f51 := (ho4.below.cell (cell_lt d51)).trans d51
        have HF4 := Lib.hid (fun g h => (ho4.own.lt g h).1)
        have hz34 := ho4.below.size
        have HZ3 : Hid (w.heap.size < w3.heap.size) := cell_lt d50
        have HZ4 : Hid (w.heap.size < w4.heap.size) := by have := HZ3.out; show _ < _; omega
        clear ho4 d50 d51 hz34
        have hlcs : cs.length ≤ 32 := by have := HLT.out; omega
        have hlds : ds.length ≤ 32 := by have := HLT.out; omega
        go_wp2_with (at_builtin; refine Ow.wpList_append rfl (.tmp 51) (.tmp 52) 22 rfl 0 38 ic _ 3 32 Try.underlying22 HC0.out HC1.out HC2.out HC3.out rfl (by decide) _ cs.length (flat cs) rfl (HO4.out) _ ds.length (flat ds) rfl (HDI.out _ HB4.out) (flat_vals ds) (by unfold maxLen; omega) (by omega) (Nat.zero_le _) ?_)
        intro v5 w5 hown5 hg5 hob5
        have HO5 := Lib.hid hown5
        have hrow : ∀ g, v4.ownBlock = some g → w.heap.size < g := fun g h => by have := HF4.out g h; have := cell_lt f50; have := HB3.out.size; have h3 := HZ3.out; omega
        have HB5 : Hid (Below w.heap.size w w5) := HB4.out.grown hg5 HB4.out.size (fun k hk => by have := hrow k hk; omega)
        have g50 := hg5.cell f50 (fun e => by have := hrow _ e.symm; simp at this)
        have g51 := hg5.cell f51 (fun e => by have := hrow _ e.symm; simp at this)
        have hz5 := cell_lt g50
        have HF5 : Hid (∀ g, v5.ownBlock = some g → w.heap.size < g) := fun g h => by
          rcases hob5 with ⟨e, _⟩ | h'
          · exact hrow g (e ▸ h)
          · have := (h' g h).1; have := HZ4.out; omega
        clear hown5 hg5 hob5 f50 f51 hrow
        go_wp2_with (at_builtin; refine Ow.wpList_append rfl (.tmp 53) (.tmp 55) 22 rfl 0 38 ic _ 3 32 Try.underlying22 HC0.out HC1.out HC2.out HC3.out rfl (by decide) _ (cs.length + ds.length) (flat cs ++ flat ds) rfl (HO5.out.alloc _) _ 1 ([.int .i64 16, .int .i64 0, .string ⟨#[]⟩]) rfl (inn_new w5 [.int .i64 16, .int .i64 0, .string ⟨#[]⟩] #[.int .i64 16, .int .i64 0, .string ⟨#[]⟩] 38 3 1 1 rfl rfl) (cellV_vals (opC 16)) (by unfold maxLen; omega) (by omega) (Nat.zero_le _) ?_)
        intro v6 w6 hown6 hg6 _
        have h6 : RdC w6 v6 es := by
          apply own_rd (B := 0)
          rw [HESL.out, HES.out, flat_append, flat_append, flat_one, List.append_assoc]
          exact hown6
        have HR6 := Lib.hid h6
        have HB6 : Hid (Below w.heap.size w w6) := (HB5.out.alloc HB5.out.size _).grown hg6 (by have := HB5.out.size; simp; omega) (fun k hk => by have := HF5.out k hk; omega)
        have h50 := hg6.cell (show (w5.alloc (.cells #[.int .i64 16, .int .i64 0, .string ⟨#[]⟩] 38)).cell? ⟨w.heap.size, 0, none⟩ = some (.slice V vs.length vc) from (World.cell?_alloc_lt _ _ _ (cell_lt g50)).trans g50) (fun e => by have := HF5.out _ e.symm; simp at this)
        have h51 := hg6.cell (show (w5.alloc (.cells #[.int .i64 16, .int .i64 0, .string ⟨#[]⟩] 38)).cell? ⟨w.heap.size, 1, none⟩ = some (.slice S ss.length sc) from (World.cell?_alloc_lt _ _ _ (cell_lt g51)).trans g51) (fun e => by have := HF5.out _ e.symm; simp at this)
        clear h6 hown6 hg6 g50 g51
        obtain ⟨A6, c6, rfl⟩ : ∃ A c, v6 = .slice A es.length c := by
          obtain ⟨A, c, e, _⟩ := HR6.out
          exact ⟨A, c, e⟩
        by_cases hkk : (kindP vs ss cs).1 = (kindP vs ss ds).1
        · have HKK := Lib.hid (HKEQ.out.trans (if_pos hkk))
          have HK12 := Lib.hid hkk
          clear hkk
          go_wp2_with fail
          refine (HK3'.out _ HB6.out _ HR6.out).mono ?_
          rintro e w7 ⟨rfl, hb7⟩
          have HB7 := Lib.hid (HB6.out.trans (hb7.mono HB6.out.size)); clear hb7
          rw [HKK.out, HK12.out]
          go_wp2
          go_ret
          exact ⟨rfl, HB7.out⟩
        · have HKK := Lib.hid (HKEQ.out.trans (if_neg hkk))
          have hk1 := int_ne hkk
          have hk2 := bne_iff_ne.2 hkk
          clear hkk
          go_wp2_with fail
          refine (HK3'.out _ HB6.out _ HR6.out).mono ?_
          rintro e w7 ⟨rfl, hb7⟩
          have HB7 := Lib.hid (HB6.out.trans (hb7.mono HB6.out.size)); clear hb7
          rw [HKK.out]
          go_wp2
          go_ret
          exact ⟨rfl, HB7.out⟩
      · have hlt' : (32 : Int) ≤ (cs.length : Int) + (ds.length : Int) := by omega
        have H1 := Lib.hid h1; have H2 := Lib.hid h2
        clear hlt h1 h2
        rw [H1.out, H2.out]
        go_wp2
        go_ret
        exact ⟨rfl, HB3.out⟩
    · have H1 := Lib.hid h1
      have t2 := bne_iff_ne.2 h2
      clear h1 h2
      rw [H1.out]
      go_wp2
      go_ret
      exact ⟨rfl, HB3.out⟩
  · have t1 := bne_iff_ne.2 h1
    clear h1
    go_wp2
    go_ret
    exact ⟨rfl, HB3.out⟩
end Go.Proofs.Ytkpacigbhghcpaa
