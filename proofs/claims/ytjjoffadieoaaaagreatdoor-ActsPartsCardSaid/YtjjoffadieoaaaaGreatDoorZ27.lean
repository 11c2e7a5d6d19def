/- Own texts, joined: A12. -/
import Derived.Test.YtjjoffadieoaaaaGreatDoorZ26
namespace Go.Proofs.YtjjoffadieoaaaaGreatDoor
open Go.RowKit

namespace Oy
def sameD : RelD := fun ps v _ => ps = [v]
def comp0 : RelD := fun ps v _ => ∃ v2 v3 b, ps = [.tuple #[v, v2, v3, .bool b]]
def comp1 : RelD := fun ps v _ => ∃ v1 v3 b, ps = [.tuple #[v1, v, v3, .bool b]]
def comp2 : RelD := fun ps v _ => ∃ v1 v2 b, ps = [.tuple #[v1, v2, v, .bool b]]
end Oy
def CopyR (al : List AM) : Oy.RelD := fun _ v w => ∃ qs, qs.map Prod.fst = al ∧ RdA w v qs
theorem keeps_copy (al : List AM) : Oy.KeepsD (CopyR al) := fun _ _ _ _ ⟨qs, h1, h2⟩ hb => ⟨qs, h1, h2.below hb⟩
theorem Rows3.low {B B' : Nat} {w : World} {xv rv sv : Value} {xs : List VA} {r s : List (List UInt8)} (h : Rows3 B w xv rv sv xs r s) (hb : B' ≤ B) : Rows3 B' w xv rv sv xs r s :=
  ⟨own_lower h.x hb, own_lower h.r hb, own_lower h.s hb, h.xr, h.xs, h.rs⟩
def DoR (B : Nat) (d : DM) : Oy.RelD := fun _ v w => ∃ v1 v2 v3, v = .tuple #[v1, v2, v3, .bool d.ok] ∧ Rows3 B w v1 v2 v3 d.xs d.r d.s
theorem keeps_do (B : Nat) (d : DM) : Oy.KeepsD (DoR B d) := fun _ _ _ _ ⟨v1, v2, v3, h1, h2⟩ hb => ⟨v1, v2, v3, h1, h2.below hb⟩
theorem keeps_mv (B : Nat) (d : DM) : Oy.KeepsD (fun ps v w => ps = [v] ∧ DoR B d ps v w) := fun ps v w w' ⟨h1, h2⟩ hb => ⟨h1, keeps_do B d ps v w w' h2 hb⟩
set_option maxRecDepth 100000 in
set_option maxHeartbeats 16000000 in
theorem actsFits_law (vl vv xv : Value) (ps : List AP) (vs : List VM) (xs : List VA) (w : World) (hA : RdA w vl ps) (hpl : ps.length * 48 ≤ 140737488355328) (hV : RdV w vv vs) (hvl : vs.length * 64 ≤ 140737488355328) (hX : RdX w xv xs) (hxl : xs.length * 24 ≤ 140737488355328) (hi : ∀ x ∈ xs, inL x.a = true) (hO : Ops w) (hM : ML w) :
    Calls Tryz.prog 8 #[vl, .agg #[vv, xv]] w fun e w' => e = .returned (.bool true) ∧ Below w.heap.size w w' := by
  have HWK : Hid (∀ W, Below w.heap.size w W → Calls Tryz.prog 12 #[] W fun e w' => e = .returned (.bool true) ∧ Below W.heap.size W w') := fun W hb => wakes6_any W (hO.below hb) (hM.below hb)
  have HCP0 : Hid (∀ W, Below w.heap.size w W → Calls Tryz.prog 10 #[vl] W (CopyPost ps W)) := fun W hb => copied6_any vl ps W (hA.below hb) hpl
  have HDO0 : Hid (∀ W, Below w.heap.size w W → ∀ (qs : List AP) (v x : Value), qs.map Prod.fst = ps.map Prod.fst → RdA W v qs → RdX W x xs → Calls Tryz.prog 19 #[v, vv, x] W (DoPost (doP vs (ps.map Prod.fst) xs [] []) W)) := fun W hb qs v x h1 h2 h3 => by
    have hq : qs.length = ps.length := by have := congrArg List.length h1; simpa using this
    rw [← h1]
    exact do_any v vv x qs vs xs W h2 (by omega) (hV.below hb) hvl h3 hxl hi
  have HXR : Hid (∀ W, Below w.heap.size w W → RdX W xv xs) := fun W hb => hX.below hb
  have HVR : Hid (∀ W, Below w.heap.size w W → RdV W vv vs) := fun W hb => hV.below hb
  obtain ⟨P, pc, rfl⟩ := hA.form
  obtain ⟨V, vc, rfl⟩ := hV.form
  obtain ⟨X, xc, rfl⟩ := RdX.form hX
  have HLG : Hid (∀ W, Calls Tryz.prog 18 #[.slice P ps.length pc] W fun e w' => e = .returned (.bool (decide (100 < ps.length))) ∧ w' = W) := fun W => long_any P ps.length pc W (by omega)
  obtain ⟨ix, hx0, hx1, hx2, hx3⟩ := info_of infoValue
  have HX0 := Lib.hid hx0; have HX1 := Lib.hid hx1; have HX2 := Lib.hid hx2; have HX3 := Lib.hid hx3
  have HB0 : Hid (Below w.heap.size w (w.alloc (.cells #[.slice V vs.length vc, .slice X xs.length xc] 41))) := (Below.refl _ _).alloc (Nat.le_refl _) _
  have hd0 : (w.alloc (.cells #[.slice V vs.length vc, .slice X xs.length xc] 41)).cell? ⟨w.heap.size, 0, none⟩ = some (.slice V vs.length vc) := by simp
  have hd1 : (w.alloc (.cells #[.slice V vs.length vc, .slice X xs.length xc] 41)).cell? ⟨w.heap.size, 1, none⟩ = some (.slice X xs.length xc) := by simp
  have hfit := do_fit (vs := vs) (ps.map Prod.fst) xs [] []
  have hdl := do_len (vs := vs) (ps.map Prod.fst) xs [] []
  obtain ⟨wb, hwb⟩ : ∃ W, W = w.alloc (.cells #[.slice V vs.length vc, .slice X xs.length xc] 41) := ⟨_, rfl⟩
  rw [← hwb] at HB0 hd0 hd1
  have HE := Lib.hid hwb
  clear hx0 hx1 hx2 hx3 hA hV hX hO hM hwb
  cases hlong : decide (100 < ps.length) with
  | true =>
    rw [hlong] at HLG
    clear hlong hfit hdl
    go_enter Tryz.func8, Tryz.ntmps8
    go_wp2_with fail
    rw [← HE.out]
    refine (HWK.out _ HB0.out).mono ?_
    rintro e w1 ⟨rfl, hb1⟩
    have HB1 := Lib.hid (HB0.out.trans (hb1.mono HB0.out.size)); clear hb1
    go_wp2_with fail
    refine (HLG.out _).mono ?_
    rintro e w2 ⟨rfl, hw2⟩
    obtain rfl := hw2.symm
    go_wp2
    go_ret
    exact ⟨rfl, HB1.out⟩
  | false =>
    rw [hlong] at HLG
    by_cases hlen : vs.length = xs.length
    rotate_left
    · have hne : ((vs.length : Int) != (xs.length : Int)) = true := by simp; omega
      clear hlong hfit hdl
      go_enter Tryz.func8, Tryz.ntmps8
      go_wp2_with fail
      rw [← HE.out]
      refine (HWK.out _ HB0.out).mono ?_
      rintro e w1 ⟨rfl, hb1⟩
      have HB1 := Lib.hid (HB0.out.trans (hb1.mono HB0.out.size))
      have d0 := (hb1.cell (cell_lt hd0)).trans hd0
      have d1 := (hb1.cell (cell_lt hd1)).trans hd1
      clear hb1 hd0 hd1
      go_wp2_with fail
      refine (HLG.out _).mono ?_
      rintro e w2 ⟨rfl, hw2⟩
      obtain rfl := hw2.symm
      go_wp2
      go_ret
      exact ⟨rfl, HB1.out⟩
    have hzl : (doP vs (ps.map Prod.fst) xs [] []).xs.length = xs.length := hdl
    generalize hd : doP vs (ps.map Prod.fst) xs [] [] = d at *
    obtain ⟨zs, dr, ds, dok⟩ := d
    simp only at hfit hzl
    have HFIT := Lib.hid hfit
    obtain ⟨m, hm⟩ : ∃ m, xs.length = m := ⟨_, rfl⟩
    have hvm : vs.length = m := hlen.trans hm
    have HXM := Lib.hid hm; have HVM := Lib.hid hvm; have HZM : Hid (zs.length = m) := hzl.trans hm
    rw [hm] at hxl hd1 HE HXR
    rw [hvm] at hd0 HE HDO0 HVR
    rw [hm, hvm]
    have hbne : ((m : Int) != (m : Int)) = false := by simp
    clear hlong hfit hdl hd hzl hlen hm hvm
    go_enter Tryz.func8, Tryz.ntmps8
    go_wp2_with fail
    rw [← HE.out]
    refine (HWK.out _ HB0.out).mono ?_
    rintro e wa ⟨rfl, hb1⟩
    have HB1 := Lib.hid (HB0.out.trans (hb1.mono HB0.out.size))
    have d0 := (hb1.cell (cell_lt hd0)).trans hd0
    have d1 := (hb1.cell (cell_lt hd1)).trans hd1
    clear hb1 hd0 hd1
    go_wp2_with fail
    refine (HLG.out _).mono ?_
    rintro e w2 ⟨rfl, hw2⟩
    obtain rfl := hw2.symm
    clear hw2
    have HW0 : Hid (Below wa.heap.size wa (wa.alloc (.cells #[] 54))) := (Below.refl _ _).alloc (Nat.le_refl _) _
    have HEE : Hid ((wa.alloc (.cells #[] 54)).ownsRow wa.heap.size 54 3 (.slice (some ⟨wa.heap.size, 0, none⟩) 0 0) 0 []) := World.ownsRow_made wa #[] 0 (Nat.le_refl _) (by unfold maxLen; omega) (by simp)
    have HII : Hid (Inn (wa.alloc (.cells #[] 54)) 3 (.slice X m xc) m (flatX xs)) := by have := HXR.out _ (HB1.out.trans (HW0.out.mono HB1.out.size)); unfold RdX at this; rw [HXM.out] at this; exact this
    have d0' := old_cell (o := .cells #[] 54) d0
    have d1' := old_cell (o := .cells #[] 54) d1
    go_wp2_with (at_builtin; refine Ow.wpList_append rfl (.tmp 28) (.tmp 30) 39 rfl wa.heap.size 54 ix _ 3 24 Tryz.underlying39 HX0.out HX1.out HX2.out HX3.out rfl (by decide) _ 0 [] rfl HEE.out _ m (flatX xs) rfl HII.out (flatX_vals xs) (by unfold maxLen; omega) (by omega) (by simp) ?_)
    intro v5 wc ho2 hg2 _
    have ho2 : wc.ownsRow wa.heap.size 54 3 v5 m (flatX xs) := by simpa using ho2
    obtain ⟨A5, c5, rfl⟩ := own_slice ho2
    have hb12 : Below wa.heap.size wa wc := HW0.out.grown hg2 (by simp) (fun k hk => (HEE.out.lt k hk).1)
    have HBac := Lib.hid hb12
    have HB2 := Lib.hid (HB1.out.trans (hb12.mono HB1.out.size))
    have HO5 := Lib.hid ho2
    have c0 := (hb12.cell (cell_lt d0)).trans d0
    have c1 := (hb12.cell (cell_lt d1)).trans d1
    have hwl : Hid (w.heap.size < wa.heap.size) := cell_lt d0
    clear d0 d1 d0' d1' ho2 hg2 hb12 HW0 HEE HII
    go_wp2_with fail
    have HW : Hid (∀ w3, Below wc.heap.size wc.drew w3 → Below w.heap.size w w3) := fun w3 hb => HB2.out.trans (((Below.refl _ _).drew.trans hb).mono HB2.out.size)
    refine Oy.region_quiet 104 [Oy.eqD (.slice P ps.length pc), CopyR (ps.map Prod.fst), Oy.eqD (.pointer (some ⟨w.heap.size, 0, none⟩)), Oy.eqD (.slice V m vc), Oy.eqD (.slice A5 m c5), DoR (wc.heap.size) (⟨zs, dr, ds, dok⟩ : DM), fun ps v w => ps = [v] ∧ DoR (wc.heap.size) (⟨zs, dr, ds, dok⟩ : DM) ps v w, Oy.comp0, Oy.comp1, Oy.comp2, Oy.eqD (.bool (⟨zs, dr, ds, dok⟩ : DM).ok), Oy.sameD, Oy.sameD, Oy.sameD, Oy.eqD (.bool (⟨zs, dr, ds, dok⟩ : DM).ok)] [[], [], [], [], [], [], [5], [6], [6], [6], [], [7], [8], [9], []] (by kernel_rfl) rfl (by kernel_rfl) (by kernel_rfl) ⟨Oy.keeps_eq _, keeps_copy _, Oy.keeps_eq _, Oy.keeps_eq _, Oy.keeps_eq _, keeps_do _ _, keeps_mv _ _, Oy.keeps_pure _, Oy.keeps_pure _, Oy.keeps_pure _, Oy.keeps_eq _, Oy.keeps_pure _, Oy.keeps_pure _, Oy.keeps_pure _, Oy.keeps_eq _, trivial⟩ ?_
    apply Oy.walk_cons rfl
    · intro w1 hb hd K hK
      clear hd
      go_simp
      exact hK _ _ (Below.refl _ _) rfl
    · intro v; simp only [Act.put, List.setIfInBounds_toArray, List.set_cons_succ, List.set_cons_zero]; exact rfl
    · intro v; exact (rfl : _ = ([v] : List Value))
    intro x33
    apply Oy.walk_cons rfl
    · intro w1 hb hd K hK
      have e33 : _ = x33 := Eq.symm (hd 0 (by kernel_rfl))
      subst e33
      clear hd
      go_simp
      refine (HCP0.out w1 (HW.out w1 hb)).mono ?_
      rintro e w2 ⟨v, qs, rfl, h1, h2, h3, h4⟩
      go_simp
      exact hK _ _ h4 ⟨qs, h1, ⟨Inn.of_own h2, h3⟩⟩
    · intro v; simp only [Act.put, List.setIfInBounds_toArray, List.set_cons_succ, List.set_cons_zero]; exact rfl
    · intro v; exact (rfl : _ = ([x33, v] : List Value))
    intro x34
    apply Oy.walk_cons rfl
    · intro w1 hb hd K hK
      clear hd
      go_simp
      exact hK _ _ (Below.refl _ _) rfl
    · intro v; simp only [Act.put, List.setIfInBounds_toArray, List.set_cons_succ, List.set_cons_zero]; exact rfl
    · intro v; exact (rfl : _ = ([x33, x34, v] : List Value))
    intro x35
    apply Oy.walk_cons rfl
    · intro w1 hb hd K hK
      have e35 : _ = x35 := Eq.symm (hd 2 (by kernel_rfl))
      subst e35
      clear hd
      have c_c0 := (hb.cell (cell_lt c0)).trans c0
      go_simp
      exact hK _ _ (Below.refl _ _) rfl
    · intro v; simp only [Act.put, List.setIfInBounds_toArray, List.set_cons_succ, List.set_cons_zero]; exact rfl
    · intro v; exact (rfl : _ = ([x33, x34, x35, v] : List Value))
    intro x36
    apply Oy.walk_cons rfl
    · intro w1 hb hd K hK
      clear hd
      go_simp
      exact hK _ _ (Below.refl _ _) rfl
    · intro v; simp only [Act.put, List.setIfInBounds_toArray, List.set_cons_succ, List.set_cons_zero]; exact rfl
    · intro v; exact (rfl : _ = ([x33, x34, x35, x36, v] : List Value))
    intro x37
    apply Oy.walk_cons rfl
    · intro w1 hb hd K hK
      have h34 : (CopyR (ps.map Prod.fst)) [] x34 w1 := hd 1 (by kernel_rfl)
      have e36 : _ = x36 := Eq.symm (hd 3 (by kernel_rfl))
      subst e36
      have e37 : _ = x37 := Eq.symm (hd 4 (by kernel_rfl))
      subst e37
      obtain ⟨qs, hq1, hq2⟩ := h34
      clear hd
      go_simp
      refine (HDO0.out w1 (HW.out w1 hb) qs _ _ hq1 hq2 (by have := Inn.of_own (own_below HO5.out ((Below.refl _ _).drew.trans hb)); unfold RdX; rw [HXM.out]; exact this)).mono ?_
      rintro e w2 ⟨v1, v2, v3, rfl, h1, h2⟩
      go_simp
      exact hK _ _ h2 ⟨v1, v2, v3, rfl, h1.low (by first | exact hb.size | (have := hb.size; simp at this ⊢; omega))⟩
    · intro v; simp only [Act.put, List.setIfInBounds_toArray, List.set_cons_succ, List.set_cons_zero]; exact rfl
    · intro v; exact (rfl : _ = ([x33, x34, x35, x36, x37, v] : List Value))
    intro x38
    apply Oy.walk_cons rfl
    · intro w1 hb hd K hK
      have h38 : (DoR (wc.heap.size) (⟨zs, dr, ds, dok⟩ : DM)) [] x38 w1 := hd 5 (by kernel_rfl)
      clear hd
      go_simp
      exact hK _ _ (Below.refl _ _) ⟨rfl, h38⟩
    · intro v; simp only [Act.put, List.setIfInBounds_toArray, List.set_cons_succ, List.set_cons_zero]; exact rfl
    · intro v; exact (rfl : _ = ([x33, x34, x35, x36, x37, x38, v] : List Value))
    intro x32
    apply Oy.walk_cons rfl
    · intro w1 hb hd K hK
      have h32 : (fun ps v w => ps = [v] ∧ DoR (wc.heap.size) (⟨zs, dr, ds, dok⟩ : DM) ps v w) [x38] x32 w1 := hd 6 (by kernel_rfl)
      obtain ⟨_, v1, v2, v3, rfl, _⟩ := h32
      clear hd
      go_simp
      exact hK _ _ (Below.refl _ _) ⟨v2, v3, _, rfl⟩
    · intro v; simp only [Act.put, List.setIfInBounds_toArray, List.set_cons_succ, List.set_cons_zero]; exact rfl
    · intro v; exact (rfl : _ = ([x33, x34, x35, x36, x37, x38, x32, v] : List Value))
    intro x39
    apply Oy.walk_cons rfl
    · intro w1 hb hd K hK
      have h32 : (fun ps v w => ps = [v] ∧ DoR (wc.heap.size) (⟨zs, dr, ds, dok⟩ : DM) ps v w) [x38] x32 w1 := hd 6 (by kernel_rfl)
      obtain ⟨_, v1, v2, v3, rfl, _⟩ := h32
      clear hd
      go_simp
      exact hK _ _ (Below.refl _ _) ⟨v1, v3, _, rfl⟩
    · intro v; simp only [Act.put, List.setIfInBounds_toArray, List.set_cons_succ, List.set_cons_zero]; exact rfl
    · intro v; exact (rfl : _ = ([x33, x34, x35, x36, x37, x38, x32, x39, v] : List Value))
    intro x40
    apply Oy.walk_cons rfl
    · intro w1 hb hd K hK
      have h32 : (fun ps v w => ps = [v] ∧ DoR (wc.heap.size) (⟨zs, dr, ds, dok⟩ : DM) ps v w) [x38] x32 w1 := hd 6 (by kernel_rfl)
      obtain ⟨_, v1, v2, v3, rfl, _⟩ := h32
      clear hd
      go_simp
      exact hK _ _ (Below.refl _ _) ⟨v1, v2, _, rfl⟩
    · intro v; simp only [Act.put, List.setIfInBounds_toArray, List.set_cons_succ, List.set_cons_zero]; exact rfl
    · intro v; exact (rfl : _ = ([x33, x34, x35, x36, x37, x38, x32, x39, x40, v] : List Value))
    intro x41
    apply Oy.walk_cons rfl
    · intro w1 hb hd K hK
      have h32 : (fun ps v w => ps = [v] ∧ DoR (wc.heap.size) (⟨zs, dr, ds, dok⟩ : DM) ps v w) [x38] x32 w1 := hd 6 (by kernel_rfl)
      obtain ⟨_, v1, v2, v3, rfl, _⟩ := h32
      clear hd
      go_simp
      exact hK _ _ (Below.refl _ _) rfl
    · intro v; simp only [Act.put, List.setIfInBounds_toArray, List.set_cons_succ, List.set_cons_zero]; exact rfl
    · intro v; exact (rfl : _ = ([x33, x34, x35, x36, x37, x38, x32, x39, x40, x41, v] : List Value))
    intro x42
    apply Oy.walk_cons rfl
    · intro w1 hb hd K hK
      have h39 : (Oy.comp0) [x32] x39 w1 := hd 7 (by kernel_rfl)
      clear hd
      go_simp
      exact hK _ _ (Below.refl _ _) rfl
    · intro v; simp only [Act.put, List.setIfInBounds_toArray, List.set_cons_succ, List.set_cons_zero]; exact rfl
    · intro v; exact (rfl : _ = ([x33, x34, x35, x36, x37, x38, x32, x39, x40, x41, x42, v] : List Value))
    intro x6
    apply Oy.walk_cons rfl
    · intro w1 hb hd K hK
      have h40 : (Oy.comp1) [x32] x40 w1 := hd 8 (by kernel_rfl)
      clear hd
      go_simp
      exact hK _ _ (Below.refl _ _) rfl
    · intro v; simp only [Act.put, List.setIfInBounds_toArray, List.set_cons_succ, List.set_cons_zero]; exact rfl
    · intro v; exact (rfl : _ = ([x33, x34, x35, x36, x37, x38, x32, x39, x40, x41, x42, x6, v] : List Value))
    intro x7
    apply Oy.walk_cons rfl
    · intro w1 hb hd K hK
      have h41 : (Oy.comp2) [x32] x41 w1 := hd 9 (by kernel_rfl)
      clear hd
      go_simp
      exact hK _ _ (Below.refl _ _) rfl
    · intro v; simp only [Act.put, List.setIfInBounds_toArray, List.set_cons_succ, List.set_cons_zero]; exact rfl
    · intro v; exact (rfl : _ = ([x33, x34, x35, x36, x37, x38, x32, x39, x40, x41, x42, x6, x7, v] : List Value))
    intro x8
    apply Oy.walk_cons rfl
    · intro w1 hb hd K hK
      have e42 : _ = x42 := Eq.symm (hd 10 (by kernel_rfl))
      subst e42
      clear hd
      go_simp
      exact hK _ _ (Below.refl _ _) rfl
    · intro v; simp only [Act.put, List.setIfInBounds_toArray, List.set_cons_succ, List.set_cons_zero]; exact rfl
    · intro v; exact (rfl : _ = ([x33, x34, x35, x36, x37, x38, x32, x39, x40, x41, x42, x6, x7, x8, v] : List Value))
    intro x9
    refine Oy.walk_nil rfl (fun w1 hb hd => ?_)
    have e33 : _ = x33 := Eq.symm (hd 0 (by kernel_rfl))
    subst e33
    have h34 : (CopyR (ps.map Prod.fst)) [] x34 w1 := hd 1 (by kernel_rfl)
    have e35 : _ = x35 := Eq.symm (hd 2 (by kernel_rfl))
    subst e35
    have e36 : _ = x36 := Eq.symm (hd 3 (by kernel_rfl))
    subst e36
    have e37 : _ = x37 := Eq.symm (hd 4 (by kernel_rfl))
    subst e37
    have h38 : (DoR (wc.heap.size) (⟨zs, dr, ds, dok⟩ : DM)) [] x38 w1 := hd 5 (by kernel_rfl)
    have h32 : (fun ps v w => ps = [v] ∧ DoR (wc.heap.size) (⟨zs, dr, ds, dok⟩ : DM) ps v w) [x38] x32 w1 := hd 6 (by kernel_rfl)
    have h39 : (Oy.comp0) [x32] x39 w1 := hd 7 (by kernel_rfl)
    have h40 : (Oy.comp1) [x32] x40 w1 := hd 8 (by kernel_rfl)
    have h41 : (Oy.comp2) [x32] x41 w1 := hd 9 (by kernel_rfl)
    have e42 : _ = x42 := Eq.symm (hd 10 (by kernel_rfl))
    subst e42
    have h6 : (Oy.sameD) [x39] x6 w1 := hd 11 (by kernel_rfl)
    have h7 : (Oy.sameD) [x40] x7 w1 := hd 12 (by kernel_rfl)
    have h8 : (Oy.sameD) [x41] x8 w1 := hd 13 (by kernel_rfl)
    have e9 : _ = x9 := Eq.symm (hd 14 (by kernel_rfl))
    subst e9
    clear hd
    obtain ⟨hmv, v1, v2, v3, he, hR⟩ := h32
    subst he
    obtain ⟨ta0, tb0, tc0, hx0⟩ := h39
    simp only [List.cons.injEq, Value.tuple.injEq, Array.mk.injEq, and_true] at hx0
    have hs0 := h6
    simp only [Oy.sameD, List.cons.injEq, and_true] at hs0
    obtain ⟨ta1, tb1, tc1, hx1⟩ := h40
    simp only [List.cons.injEq, Value.tuple.injEq, Array.mk.injEq, and_true] at hx1
    have hs1 := h7
    simp only [Oy.sameD, List.cons.injEq, and_true] at hs1
    obtain ⟨ta2, tb2, tc2, hx2⟩ := h41
    simp only [List.cons.injEq, Value.tuple.injEq, Array.mk.injEq, and_true] at hx2
    have hs2 := h8
    simp only [Oy.sameD, List.cons.injEq, and_true] at hs2
    obtain ⟨hx0, hx0r⟩ := hx0
    subst hx0
    subst hs0
    obtain ⟨w3, hw3⟩ : ∃ W, W = w1 := ⟨_, rfl⟩
    subst hw3
    have HB3 : Hid (Below w.heap.size w w3) := HW.out w3 hb
    have HBc3 : Hid (Below wc.heap.size wc w3) := (Below.refl _ _).drew.trans hb
    have b0 := (HBc3.out.cell (cell_lt c0)).trans c0
    have b1 := (HBc3.out.cell (cell_lt c1)).trans c1
    have hvr := hR.x
    simp only at hvr
    rw [HZM.out] at hvr
    obtain ⟨A1, k1, rfl⟩ := own_slice hvr
    have HZ3 := Lib.hid hvr
    have HO53 := Lib.hid (own_below HO5.out HBc3.out)
    have hsv := sameX_any (.slice A5 m c5) (.slice X m xc) xs xs w3 (by have := Inn.of_own HO53.out; unfold RdX; rw [HXM.out]; exact this) (HXR.out w3 HB3.out) (by rw [HXM.out]; omega)
    rw [decide_eq_true rfl] at hsv
    have HSV := Lib.hid hsv
    clear hsv hvr hR hx0r hx1 hx2 hs1 hs2 hmv h6 h7 h8 h34 h38 hb c0 c1
    go_simp
    go_wp2_with fail
    refine HSV.out.mono ?_
    rintro e w4 ⟨rfl, q, hw4⟩
    have HB34 : Hid (Below w3.heap.size w3 w4) := by rw [hw4]; exact below_drewN (Below.refl _ _) q
    have e0 := (HB34.out.cell (cell_lt b0)).trans b0
    have e1 := (HB34.out.cell (cell_lt b1)).trans b1
    have HO54 := Lib.hid (own_below HO53.out HB34.out)
    have HZ4 := Lib.hid (own_below HZ3.out HB34.out)
    have HBa4 := Lib.hid (HBac.out.trans ((HBc3.out.trans (HB34.out.mono HBc3.out.size)).mono HBac.out.size))
    clear hw4 b0 b1
    go_wp2
    go_loopw [4, 57] (fun x4 x57 wr => x4 = .bool false ∧ ∃ (k : Nat) (us : List VA), k ≤ m ∧ us.length = m ∧ x57 = .int .i64 (k : Int) ∧ Below wa.heap.size wa wr ∧ wr.ownsRow wa.heap.size 54 3 (.slice A5 m c5) m (flatX us) ∧ wr.ownsRow wc.heap.size 54 3 (.slice A1 m k1) m (flatX zs) ∧ wr.cell? ⟨w.heap.size, 0, none⟩ = some (.slice V m vc) ∧ wr.cell? ⟨w.heap.size, 1, none⟩ = some (.slice X m xc)) (fun _ i _ => m - (intOf i).toNat)
    case atStart => exact ⟨rfl, 0, xs, Nat.zero_le _, HXM.out, rfl, HBa4.out, HO54.out, HZ4.out, e0, e1⟩
    case round =>
      obtain ⟨rfl, k, us, hk, hus, rfl, hba, hou, hzr, f0, f1⟩ := hrel
      obtain ⟨wl, hwl'⟩ : ∃ W, W = wr := ⟨_, rfl⟩
      subst hwl'
      clear e0 e1
      have HBL := Lib.hid (HB1.out.trans (hba.mono HB1.out.size))
      have HBA := Lib.hid hba
      by_cases hkn : k < m
      · obtain ⟨g5, rfl, hg5⟩ : ∃ g, A5 = some ⟨g, 0, none⟩ ∧ g < wc.heap.size := by
          have h5 := HO5.out
          rcases h5.2 with ⟨h1, h2⟩ | ⟨g, cap, cur, h1, h2, h3, _⟩
          · omega
          · simp only [Value.slice.injEq] at h1
            exact ⟨g, h1.1, (Array.getElem?_eq_some_iff.1 h3).1⟩
        obtain ⟨g1, rfl⟩ : ∃ g, A1 = some ⟨g, 0, none⟩ := by
          rcases hzr.2 with ⟨h1, h2⟩ | ⟨g, cap, cur, h1, _⟩
          · omega
          · simp only [Value.slice.injEq] at h1
            exact ⟨g, h1.1⟩
        have hg1 := (hzr.lt g1 rfl).1
        have hga := (hou.lt g5 rfl).1
        have hkv : k < vs.length := by rw [HVM.out]; exact hkn
        have hkx : k < xs.length := by rw [HXM.out]; exact hkn
        have hkz : k < zs.length := by rw [HZM.out]; exact hkn
        have hku : k < us.length := by rw [hus]; exact hkn
        obtain ⟨bv, ov, hV0, _, y0, y1, y2, y3, y4, y5, y6⟩ := (HVR.out _ HBL.out).at_ (k := k) hkv
        obtain ⟨Y, hYb, _⟩ := bstr_some vs[k].nm
        rw [hYb] at y0
        subst hV0
        obtain ⟨bx, ox, hX0, _, x0, x1, x2⟩ := RdX.at_ (HXR.out _ HBL.out) (k := k) hkx
        subst hX0
        have z0 : wl.cell? ⟨g1, k * 3, none⟩ = some (.int .i64 zs[k].kd) := (hzr.cellAt (k * 3) (by omega)).trans ((flatX_at hkz (j := 0) (by omega)).trans rfl)
        have z1 : wl.cell? ⟨g1, k * 3 + 1, none⟩ = some (.int .i64 zs[k].a) := (hzr.cellAt (k * 3 + 1) (by omega)).trans ((flatX_at hkz (j := 1) (by omega)).trans rfl)
        have z2 : wl.cell? ⟨g1, k * 3 + 2, none⟩ = some (.int .i64 zs[k].b) := (hzr.cellAt (k * 3 + 2) (by omega)).trans ((flatX_at hkz (j := 2) (by omega)).trans rfl)
        have hf1 := fun W => refFits_any vs[k] Y xs[k] W
        have hf2 := fun W => refFits_any vs[k] Y zs[k] W
        have hft := HFIT.out k vs[k] xs[k] zs[k] (List.getElem?_eq_getElem hkv) (List.getElem?_eq_getElem hkx) (List.getElem?_eq_getElem hkz)
        have HOU := Lib.hid hou; have HZR := Lib.hid hzr
        have HSET : Hid (∀ W : World, W.ownsRow wa.heap.size 54 3 (.slice (some ⟨g5, 0, none⟩) m c5) m (flatX us) → ∃ a b c, W.cell? ⟨g5, k * 3, none⟩ = some (.int .i64 a) ∧ W.cell? ⟨g5, k * 3 + 1, none⟩ = some (.int .i64 b) ∧ W.cell? ⟨g5, k * 3 + 2, none⟩ = some (.int .i64 c) ∧ (((W.setCell ⟨g5, k * 3, none⟩ (.int .i64 77)).setCell ⟨g5, k * 3 + 1, none⟩ (.int .i64 0)).setCell ⟨g5, k * 3 + 2, none⟩ (.int .i64 0)).ownsRow wa.heap.size 54 3 (.slice (some ⟨g5, 0, none⟩) m c5) m (flatX (us.set k ⟨77, 0, 0⟩))) := fun W h => ⟨_, _, _, (h.cellAt (k * 3) (by omega)).trans ((flatX_at hku (j := 0) (by omega)).trans rfl), (h.cellAt (k * 3 + 1) (by omega)).trans ((flatX_at hku (j := 1) (by omega)).trans rfl), (h.cellAt (k * 3 + 2) (by omega)).trans ((flatX_at hku (j := 2) (by omega)).trans rfl), own_setX h k hku ⟨77, 0, 0⟩⟩
        have HUS : Hid ((us.set k ⟨77, 0, 0⟩).length = m) := by show _ = _; rw [List.length_set]; exact hus
        clear hou hzr hku hus hYb hba
        generalize zs[k] = z at *
        generalize xs[k] = x at *
        generalize vs[k] = v at *
        clear hkv hkx hkz
        obtain ⟨vn, vk, vlo, vhi, vik, via, vib⟩ := v
        obtain ⟨xk, xa, xb⟩ := x
        obtain ⟨zk, za, zb⟩ := z
        simp only at y0 y1 y2 y3 y4 y5 y6 x0 x1 x2 z0 z1 z2 hf1 hf2
        cases hm1 : mayB ⟨vn, vk, vlo, vhi, vik, via, vib⟩ ⟨xk, xa, xb⟩ with
        | false =>
          rw [hm1] at hf1
          have HF1 := Lib.hid hf1
          clear hm1 hf1 hf2 hft
          go_wp2_with fail
          refine Oy.region_quiet 104 [Oy.eqD (.pointer (some ⟨w.heap.size, 0, none⟩)), Oy.eqD (.slice (some ⟨bv, ov, none⟩) m vc), Oy.eqD (.int .i64 (k : Int)), Oy.eqD (.pointer (some ⟨bv, ov + k * 7, none⟩)), Oy.eqD (.agg #[.string Y, .int .i64 vk, .int .i64 vlo, .int .i64 vhi, .int .i64 vik, .int .i64 via, .int .i64 vib]), Oy.eqD (.pointer (some ⟨w.heap.size, 1, none⟩)), Oy.eqD (.slice (some ⟨bx, ox, none⟩) m xc), Oy.eqD (.int .i64 (k : Int)), Oy.eqD (.pointer (some ⟨bx, ox + k * 3, none⟩)), Oy.eqD (.agg #[.int .i64 xk, .int .i64 xa, .int .i64 xb]), Oy.eqD (.bool false), Oy.eqD (.bool false), Oy.eqD (undef), Oy.eqD (undef), Oy.eqD (undef), Oy.eqD (undef), Oy.eqD (undef), Oy.eqD (undef), Oy.eqD (undef), Oy.eqD (undef), Oy.eqD (undef), Oy.eqD (undef), Oy.eqD (undef), Oy.eqD (.bool false)] [[], [], [], [], [], [], [], [], [], [], [], [], [], [], [], [], [], [], [], [], [], [], [], []] (by kernel_rfl) rfl (by kernel_rfl) (by kernel_rfl) ⟨Oy.keeps_eq _, Oy.keeps_eq _, Oy.keeps_eq _, Oy.keeps_eq _, Oy.keeps_eq _, Oy.keeps_eq _, Oy.keeps_eq _, Oy.keeps_eq _, Oy.keeps_eq _, Oy.keeps_eq _, Oy.keeps_eq _, Oy.keeps_eq _, Oy.keeps_eq _, Oy.keeps_eq _, Oy.keeps_eq _, Oy.keeps_eq _, Oy.keeps_eq _, Oy.keeps_eq _, Oy.keeps_eq _, Oy.keeps_eq _, Oy.keeps_eq _, Oy.keeps_eq _, Oy.keeps_eq _, Oy.keeps_eq _, trivial⟩ ?_
          apply Oy.walk_cons rfl
          · intro w1 hb hd K hK
            clear hd
            go_simp
            exact hK _ _ (Below.refl _ _) rfl
          · intro v; simp only [Act.put, List.setIfInBounds_toArray, List.set_cons_succ, List.set_cons_zero]; exact rfl
          · intro v; exact (rfl : _ = ([v] : List Value))
          intro x60
          apply Oy.walk_cons rfl
          · intro w1 hb hd K hK
            have e60 : _ = x60 := Eq.symm (hd 0 (by kernel_rfl))
            subst e60
            clear hd
            have c_f0 := (hb.cell (cell_lt f0)).trans f0
            go_simp
            exact hK _ _ (Below.refl _ _) rfl
          · intro v; simp only [Act.put, List.setIfInBounds_toArray, List.set_cons_succ, List.set_cons_zero]; exact rfl
          · intro v; exact (rfl : _ = ([x60, v] : List Value))
          intro x61
          apply Oy.walk_cons rfl
          · intro w1 hb hd K hK
            clear hd
            go_simp
            exact hK _ _ (Below.refl _ _) rfl
          · intro v; simp only [Act.put, List.setIfInBounds_toArray, List.set_cons_succ, List.set_cons_zero]; exact rfl
          · intro v; exact (rfl : _ = ([x60, x61, v] : List Value))
          intro x62
          apply Oy.walk_cons rfl
          · intro w1 hb hd K hK
            have e61 : _ = x61 := Eq.symm (hd 1 (by kernel_rfl))
            subst e61
            have e62 : _ = x62 := Eq.symm (hd 2 (by kernel_rfl))
            subst e62
            clear hd
            go_simp
            exact hK _ _ (Below.refl _ _) rfl
          · intro v; simp only [Act.put, List.setIfInBounds_toArray, List.set_cons_succ, List.set_cons_zero]; exact rfl
          · intro v; exact (rfl : _ = ([x60, x61, x62, v] : List Value))
          intro x63
          apply Oy.walk_cons rfl
          · intro w1 hb hd K hK
            have e63 : _ = x63 := Eq.symm (hd 3 (by kernel_rfl))
            subst e63
            clear hd
            have c_y0 := (hb.cell (cell_lt y0)).trans y0
            have c_y1 := (hb.cell (cell_lt y1)).trans y1
            have c_y2 := (hb.cell (cell_lt y2)).trans y2
            have c_y3 := (hb.cell (cell_lt y3)).trans y3
            have c_y4 := (hb.cell (cell_lt y4)).trans y4
            have c_y5 := (hb.cell (cell_lt y5)).trans y5
            have c_y6 := (hb.cell (cell_lt y6)).trans y6
            go_simp
            exact hK _ _ (Below.refl _ _) rfl
          · intro v; simp only [Act.put, List.setIfInBounds_toArray, List.set_cons_succ, List.set_cons_zero]; exact rfl
          · intro v; exact (rfl : _ = ([x60, x61, x62, x63, v] : List Value))
          intro x64
          apply Oy.walk_cons rfl
          · intro w1 hb hd K hK
            clear hd
            go_simp
            exact hK _ _ (Below.refl _ _) rfl
          · intro v; simp only [Act.put, List.setIfInBounds_toArray, List.set_cons_succ, List.set_cons_zero]; exact rfl
          · intro v; exact (rfl : _ = ([x60, x61, x62, x63, x64, v] : List Value))
          intro x65
          apply Oy.walk_cons rfl
          · intro w1 hb hd K hK
            have e65 : _ = x65 := Eq.symm (hd 5 (by kernel_rfl))
            subst e65
            clear hd
            have c_f1 := (hb.cell (cell_lt f1)).trans f1
            go_simp
            exact hK _ _ (Below.refl _ _) rfl
          · intro v; simp only [Act.put, List.setIfInBounds_toArray, List.set_cons_succ, List.set_cons_zero]; exact rfl
          · intro v; exact (rfl : _ = ([x60, x61, x62, x63, x64, x65, v] : List Value))
          intro x66
          apply Oy.walk_cons rfl
          · intro w1 hb hd K hK
            clear hd
            go_simp
            exact hK _ _ (Below.refl _ _) rfl
          · intro v; simp only [Act.put, List.setIfInBounds_toArray, List.set_cons_succ, List.set_cons_zero]; exact rfl
          · intro v; exact (rfl : _ = ([x60, x61, x62, x63, x64, x65, x66, v] : List Value))
          intro x67
          apply Oy.walk_cons rfl
          · intro w1 hb hd K hK
            have e66 : _ = x66 := Eq.symm (hd 6 (by kernel_rfl))
            subst e66
            have e67 : _ = x67 := Eq.symm (hd 7 (by kernel_rfl))
            subst e67
            clear hd
            go_simp
            exact hK _ _ (Below.refl _ _) rfl
          · intro v; simp only [Act.put, List.setIfInBounds_toArray, List.set_cons_succ, List.set_cons_zero]; exact rfl
          · intro v; exact (rfl : _ = ([x60, x61, x62, x63, x64, x65, x66, x67, v] : List Value))
          intro x68
          apply Oy.walk_cons rfl
          · intro w1 hb hd K hK
            have e68 : _ = x68 := Eq.symm (hd 8 (by kernel_rfl))
            subst e68
            clear hd
            have c_x0 := (hb.cell (cell_lt x0)).trans x0
            have c_x1 := (hb.cell (cell_lt x1)).trans x1
            have c_x2 := (hb.cell (cell_lt x2)).trans x2
            go_simp
            exact hK _ _ (Below.refl _ _) rfl
          · intro v; simp only [Act.put, List.setIfInBounds_toArray, List.set_cons_succ, List.set_cons_zero]; exact rfl
          · intro v; exact (rfl : _ = ([x60, x61, x62, x63, x64, x65, x66, x67, x68, v] : List Value))
          intro x69
          apply Oy.walk_cons rfl
          · intro w1 hb hd K hK
            have e64 : _ = x64 := Eq.symm (hd 4 (by kernel_rfl))
            subst e64
            have e69 : _ = x69 := Eq.symm (hd 9 (by kernel_rfl))
            subst e69
            clear hd
            go_simp
            refine (HF1.out w1).mono ?_
            rintro e w2 ⟨rfl, hb2⟩
            go_simp
            exact hK _ _ hb2 rfl
          · intro v; simp only [Act.put, List.setIfInBounds_toArray, List.set_cons_succ, List.set_cons_zero]; exact rfl
          · intro v; exact (rfl : _ = ([x60, x61, x62, x63, x64, x65, x66, x67, x68, x69, v] : List Value))
          intro x70
          apply Oy.walk_cons rfl
          · intro w1 hb hd K hK
            have e70 : _ = x70 := Eq.symm (hd 10 (by kernel_rfl))
            subst e70
            clear hd
            go_simp
            exact hK _ _ (Below.refl _ _) rfl
          · intro v; simp only [Act.put, List.setIfInBounds_toArray, List.set_cons_succ, List.set_cons_zero]; exact rfl
          · intro v; exact (rfl : _ = ([x60, x61, x62, x63, x64, x65, x66, x67, x68, x69, x70, v] : List Value))
          intro x71
          apply Oy.walk_cons rfl
          · intro w1 hb hd K hK
            have e71 : _ = x71 := Eq.symm (hd 11 (by kernel_rfl))
            subst e71
            clear hd
            go_simp
            exact hK _ _ (Below.refl _ _) rfl
          · intro v; simp only [Act.put, List.setIfInBounds_toArray, List.set_cons_succ, List.set_cons_zero]; exact rfl
          · intro v; exact (rfl : _ = ([x60, x61, x62, x63, x64, x65, x66, x67, x68, x69, x70, x71, v] : List Value))
          intro x72
          apply Oy.walk_cons rfl
          · intro w1 hb hd K hK
            have e72 : _ = x72 := Eq.symm (hd 12 (by kernel_rfl))
            subst e72
            have e71 : _ = x71 := Eq.symm (hd 11 (by kernel_rfl))
            subst e71
            clear hd
            go_simp
            exact hK _ _ (Below.refl _ _) rfl
          · intro v; simp only [Act.put, List.setIfInBounds_toArray, List.set_cons_succ, List.set_cons_zero]; exact rfl
          · intro v; exact (rfl : _ = ([x60, x61, x62, x63, x64, x65, x66, x67, x68, x69, x70, x71, x72, v] : List Value))
          intro x73
          apply Oy.walk_cons rfl
          · intro w1 hb hd K hK
            have e71 : _ = x71 := Eq.symm (hd 11 (by kernel_rfl))
            subst e71
            clear hd
            go_simp
            exact hK _ _ (Below.refl _ _) rfl
          · intro v; simp only [Act.put, List.setIfInBounds_toArray, List.set_cons_succ, List.set_cons_zero]; exact rfl
          · intro v; exact (rfl : _ = ([x60, x61, x62, x63, x64, x65, x66, x67, x68, x69, x70, x71, x72, x73, v] : List Value))
          intro x74
          apply Oy.walk_cons rfl
          · intro w1 hb hd K hK
            have e73 : _ = x73 := Eq.symm (hd 13 (by kernel_rfl))
            subst e73
            have e74 : _ = x74 := Eq.symm (hd 14 (by kernel_rfl))
            subst e74
            have e71 : _ = x71 := Eq.symm (hd 11 (by kernel_rfl))
            subst e71
            clear hd
            go_simp
            exact hK _ _ (Below.refl _ _) rfl
          · intro v; simp only [Act.put, List.setIfInBounds_toArray, List.set_cons_succ, List.set_cons_zero]; exact rfl
          · intro v; exact (rfl : _ = ([x60, x61, x62, x63, x64, x65, x66, x67, x68, x69, x70, x71, x72, x73, x74, v] : List Value))
          intro x75
          apply Oy.walk_cons rfl
          · intro w1 hb hd K hK
            have e75 : _ = x75 := Eq.symm (hd 15 (by kernel_rfl))
            subst e75
            have e71 : _ = x71 := Eq.symm (hd 11 (by kernel_rfl))
            subst e71
            clear hd
            go_simp
            exact hK _ _ (Below.refl _ _) rfl
          · intro v; simp only [Act.put, List.setIfInBounds_toArray, List.set_cons_succ, List.set_cons_zero]; exact rfl
          · intro v; exact (rfl : _ = ([x60, x61, x62, x63, x64, x65, x66, x67, x68, x69, x70, x71, x72, x73, x74, x75, v] : List Value))
          intro x76
          apply Oy.walk_cons rfl
          · intro w1 hb hd K hK
            have e71 : _ = x71 := Eq.symm (hd 11 (by kernel_rfl))
            subst e71
            clear hd
            go_simp
            exact hK _ _ (Below.refl _ _) rfl
          · intro v; simp only [Act.put, List.setIfInBounds_toArray, List.set_cons_succ, List.set_cons_zero]; exact rfl
          · intro v; exact (rfl : _ = ([x60, x61, x62, x63, x64, x65, x66, x67, x68, x69, x70, x71, x72, x73, x74, x75, x76, v] : List Value))
          intro x77
          apply Oy.walk_cons rfl
          · intro w1 hb hd K hK
            have e71 : _ = x71 := Eq.symm (hd 11 (by kernel_rfl))
            subst e71
            clear hd
            go_simp
            exact hK _ _ (Below.refl _ _) rfl
          · intro v; simp only [Act.put, List.setIfInBounds_toArray, List.set_cons_succ, List.set_cons_zero]; exact rfl
          · intro v; exact (rfl : _ = ([x60, x61, x62, x63, x64, x65, x66, x67, x68, x69, x70, x71, x72, x73, x74, x75, x76, x77, v] : List Value))
          intro x78
          apply Oy.walk_cons rfl
          · intro w1 hb hd K hK
            have e77 : _ = x77 := Eq.symm (hd 17 (by kernel_rfl))
            subst e77
            have e78 : _ = x78 := Eq.symm (hd 18 (by kernel_rfl))
            subst e78
            have e71 : _ = x71 := Eq.symm (hd 11 (by kernel_rfl))
            subst e71
            clear hd
            go_simp
            exact hK _ _ (Below.refl _ _) rfl
          · intro v; simp only [Act.put, List.setIfInBounds_toArray, List.set_cons_succ, List.set_cons_zero]; exact rfl
          · intro v; exact (rfl : _ = ([x60, x61, x62, x63, x64, x65, x66, x67, x68, x69, x70, x71, x72, x73, x74, x75, x76, x77, x78, v] : List Value))
          intro x79
          apply Oy.walk_cons rfl
          · intro w1 hb hd K hK
            have e79 : _ = x79 := Eq.symm (hd 19 (by kernel_rfl))
            subst e79
            have e71 : _ = x71 := Eq.symm (hd 11 (by kernel_rfl))
            subst e71
            clear hd
            go_simp
            exact hK _ _ (Below.refl _ _) rfl
          · intro v; simp only [Act.put, List.setIfInBounds_toArray, List.set_cons_succ, List.set_cons_zero]; exact rfl
          · intro v; exact (rfl : _ = ([x60, x61, x62, x63, x64, x65, x66, x67, x68, x69, x70, x71, x72, x73, x74, x75, x76, x77, x78, x79, v] : List Value))
          intro x80
          apply Oy.walk_cons rfl
          · intro w1 hb hd K hK
            have e76 : _ = x76 := Eq.symm (hd 16 (by kernel_rfl))
            subst e76
            have e80 : _ = x80 := Eq.symm (hd 20 (by kernel_rfl))
            subst e80
            have e71 : _ = x71 := Eq.symm (hd 11 (by kernel_rfl))
            subst e71
            clear hd
            go_simp
            exact hK _ _ (Below.refl _ _) rfl
          · intro v; simp only [Act.put, List.setIfInBounds_toArray, List.set_cons_succ, List.set_cons_zero]; exact rfl
          · intro v; exact (rfl : _ = ([x60, x61, x62, x63, x64, x65, x66, x67, x68, x69, x70, x71, x72, x73, x74, x75, x76, x77, x78, x79, x80, v] : List Value))
          intro x81
          apply Oy.walk_cons rfl
          · intro w1 hb hd K hK
            have e81 : _ = x81 := Eq.symm (hd 21 (by kernel_rfl))
            subst e81
            have e71 : _ = x71 := Eq.symm (hd 11 (by kernel_rfl))
            subst e71
            clear hd
            go_simp
            exact hK _ _ (Below.refl _ _) rfl
          · intro v; simp only [Act.put, List.setIfInBounds_toArray, List.set_cons_succ, List.set_cons_zero]; exact rfl
          · intro v; exact (rfl : _ = ([x60, x61, x62, x63, x64, x65, x66, x67, x68, x69, x70, x71, x72, x73, x74, x75, x76, x77, x78, x79, x80, x81, v] : List Value))
          intro x82
          apply Oy.walk_cons rfl
          · intro w1 hb hd K hK
            have e71 : _ = x71 := Eq.symm (hd 11 (by kernel_rfl))
            subst e71
            have e82 : _ = x82 := Eq.symm (hd 22 (by kernel_rfl))
            subst e82
            clear hd
            go_simp
            exact hK _ _ (Below.refl _ _) rfl
          · intro v; simp only [Act.put, List.setIfInBounds_toArray, List.set_cons_succ, List.set_cons_zero]; exact rfl
          · intro v; exact (rfl : _ = ([x60, x61, x62, x63, x64, x65, x66, x67, x68, x69, x70, x71, x72, x73, x74, x75, x76, x77, x78, x79, x80, x81, x82, v] : List Value))
          intro x83
          refine Oy.walk_nil rfl (fun w1 hb hd => ?_)
          have e60 : _ = x60 := Eq.symm (hd 0 (by kernel_rfl))
          subst e60
          have e61 : _ = x61 := Eq.symm (hd 1 (by kernel_rfl))
          subst e61
          have e62 : _ = x62 := Eq.symm (hd 2 (by kernel_rfl))
          subst e62
          have e63 : _ = x63 := Eq.symm (hd 3 (by kernel_rfl))
          subst e63
          have e64 : _ = x64 := Eq.symm (hd 4 (by kernel_rfl))
          subst e64
          have e65 : _ = x65 := Eq.symm (hd 5 (by kernel_rfl))
          subst e65
          have e66 : _ = x66 := Eq.symm (hd 6 (by kernel_rfl))
          subst e66
          have e67 : _ = x67 := Eq.symm (hd 7 (by kernel_rfl))
          subst e67
          have e68 : _ = x68 := Eq.symm (hd 8 (by kernel_rfl))
          subst e68
          have e69 : _ = x69 := Eq.symm (hd 9 (by kernel_rfl))
          subst e69
          have e70 : _ = x70 := Eq.symm (hd 10 (by kernel_rfl))
          subst e70
          have e71 : _ = x71 := Eq.symm (hd 11 (by kernel_rfl))
          subst e71
          have e72 : _ = x72 := Eq.symm (hd 12 (by kernel_rfl))
          subst e72
          have e73 : _ = x73 := Eq.symm (hd 13 (by kernel_rfl))
          subst e73
          have e74 : _ = x74 := Eq.symm (hd 14 (by kernel_rfl))
          subst e74
          have e75 : _ = x75 := Eq.symm (hd 15 (by kernel_rfl))
          subst e75
          have e76 : _ = x76 := Eq.symm (hd 16 (by kernel_rfl))
          subst e76
          have e77 : _ = x77 := Eq.symm (hd 17 (by kernel_rfl))
          subst e77
          have e78 : _ = x78 := Eq.symm (hd 18 (by kernel_rfl))
          subst e78
          have e79 : _ = x79 := Eq.symm (hd 19 (by kernel_rfl))
          subst e79
          have e80 : _ = x80 := Eq.symm (hd 20 (by kernel_rfl))
          subst e80
          have e81 : _ = x81 := Eq.symm (hd 21 (by kernel_rfl))
          subst e81
          have e82 : _ = x82 := Eq.symm (hd 22 (by kernel_rfl))
          subst e82
          have e83 : _ = x83 := Eq.symm (hd 23 (by kernel_rfl))
          subst e83
          clear hd
          obtain ⟨w5, hw5⟩ : ∃ W, W = w1 := ⟨_, rfl⟩
          subst hw5
          have hbl5 : Below wl.heap.size wl w5 := (Below.refl _ _).drew.trans hb
          have HO6 := Lib.hid (own_below HOU.out hbl5)
          have HZ6 := Lib.hid (own_below HZR.out hbl5)
          obtain ⟨a0, a1, a2, k0, k1', k2, hset⟩ := HSET.out _ HO6.out
          have r0 := own_frozen HO6.out (k * 3)
          have r1 := own_frozen HO6.out (k * 3 + 1)
          have r2 := own_frozen HO6.out (k * 3 + 2)
          have HS6 := Lib.hid hset
          have HBA6 : Hid (Below wa.heap.size wa (((w5.setCell ⟨g5, k * 3, none⟩ (.int .i64 77)).setCell ⟨g5, k * 3 + 1, none⟩ (.int .i64 0)).setCell ⟨g5, k * 3 + 2, none⟩ (.int .i64 0))) := (((HBA.out.trans (hbl5.mono HBA.out.size)).setCell hga _).setCell hga _).setCell hga _
          have HGR : Hid (w5.grownBy (((w5.setCell ⟨g5, k * 3, none⟩ (.int .i64 77)).setCell ⟨g5, k * 3 + 1, none⟩ (.int .i64 0)).setCell ⟨g5, k * 3 + 2, none⟩ (.int .i64 0)) (some g5)) := Lib.grownBy_setB (Lib.grownBy_setB (Lib.grownBy_setB (World.grownBy.refl w5 (some g5)) _ _) _ _) _ _
          have HZ7 := Lib.hid (HZ6.out.kept HGR.out (Or.inr (by show some g1 ≠ some g5; intro h; injection h with h; omega)))
          have j0 := (hbl5.cell (cell_lt f0)).trans f0
          have j1 := (hbl5.cell (cell_lt f1)).trans f1
          have F0 := Lib.hid (HGR.out.cell j0 (by show some w.heap.size ≠ some g5; have := hwl.out; intro h; injection h with h; omega))
          have F1 := Lib.hid (HGR.out.cell j1 (by show some w.heap.size ≠ some g5; have := hwl.out; intro h; injection h with h; omega))
          clear hb hbl5 hset f0 f1 x0 x1 x2 y0 y1 y2 y3 y4 y5 y6 z0 z1 z2
          go_simp
          go_wp2
          go_roundw
          case rel => exact ⟨rfl, k + 1, _, by omega, HUS.out, by go_num, HBA6.out, HS6.out, HZ7.out, F0.out, F1.out⟩
          case measure => simp [intOf]; omega
        | true =>
          have hm2 := hft hm1
          rw [hm1] at hf1
          rw [hm2] at hf2
          have HF1 := Lib.hid hf1
          have HF2 := Lib.hid hf2
          clear hm1 hm2 hf1 hf2 hft
          go_wp2_with fail
          refine Oy.region_quiet 104 [Oy.eqD (.pointer (some ⟨w.heap.size, 0, none⟩)), Oy.eqD (.slice (some ⟨bv, ov, none⟩) m vc), Oy.eqD (.int .i64 (k : Int)), Oy.eqD (.pointer (some ⟨bv, ov + k * 7, none⟩)), Oy.eqD (.agg #[.string Y, .int .i64 vk, .int .i64 vlo, .int .i64 vhi, .int .i64 vik, .int .i64 via, .int .i64 vib]), Oy.eqD (.pointer (some ⟨w.heap.size, 1, none⟩)), Oy.eqD (.slice (some ⟨bx, ox, none⟩) m xc), Oy.eqD (.int .i64 (k : Int)), Oy.eqD (.pointer (some ⟨bx, ox + k * 3, none⟩)), Oy.eqD (.agg #[.int .i64 xk, .int .i64 xa, .int .i64 xb]), Oy.eqD (.bool true), Oy.eqD (.bool true), Oy.eqD (.pointer (some ⟨w.heap.size, 0, none⟩)), Oy.eqD (.slice (some ⟨bv, ov, none⟩) m vc), Oy.eqD (.int .i64 (k : Int)), Oy.eqD (.pointer (some ⟨bv, ov + k * 7, none⟩)), Oy.eqD (.agg #[.string Y, .int .i64 vk, .int .i64 vlo, .int .i64 vhi, .int .i64 vik, .int .i64 via, .int .i64 vib]), Oy.eqD (.slice (some ⟨g1, 0, none⟩) m k1), Oy.eqD (.int .i64 (k : Int)), Oy.eqD (.pointer (some ⟨g1, k * 3, none⟩)), Oy.eqD (.agg #[.int .i64 zk, .int .i64 za, .int .i64 zb]), Oy.eqD (.bool true), Oy.eqD (.bool false), Oy.eqD (.bool false)] [[], [], [], [], [], [], [], [], [], [], [], [], [], [], [], [], [], [], [], [], [], [], [], []] (by kernel_rfl) rfl (by kernel_rfl) (by kernel_rfl) ⟨Oy.keeps_eq _, Oy.keeps_eq _, Oy.keeps_eq _, Oy.keeps_eq _, Oy.keeps_eq _, Oy.keeps_eq _, Oy.keeps_eq _, Oy.keeps_eq _, Oy.keeps_eq _, Oy.keeps_eq _, Oy.keeps_eq _, Oy.keeps_eq _, Oy.keeps_eq _, Oy.keeps_eq _, Oy.keeps_eq _, Oy.keeps_eq _, Oy.keeps_eq _, Oy.keeps_eq _, Oy.keeps_eq _, Oy.keeps_eq _, Oy.keeps_eq _, Oy.keeps_eq _, Oy.keeps_eq _, Oy.keeps_eq _, trivial⟩ ?_
          apply Oy.walk_cons rfl
          · intro w1 hb hd K hK
            clear hd
            go_simp
            exact hK _ _ (Below.refl _ _) rfl
          · intro v; simp only [Act.put, List.setIfInBounds_toArray, List.set_cons_succ, List.set_cons_zero]; exact rfl
          · intro v; exact (rfl : _ = ([v] : List Value))
          intro x60
          apply Oy.walk_cons rfl
          · intro w1 hb hd K hK
            have e60 : _ = x60 := Eq.symm (hd 0 (by kernel_rfl))
            subst e60
            clear hd
            have c_f0 := (hb.cell (cell_lt f0)).trans f0
            go_simp
            exact hK _ _ (Below.refl _ _) rfl
          · intro v; simp only [Act.put, List.setIfInBounds_toArray, List.set_cons_succ, List.set_cons_zero]; exact rfl
          · intro v; exact (rfl : _ = ([x60, v] : List Value))
          intro x61
          apply Oy.walk_cons rfl
          · intro w1 hb hd K hK
            clear hd
            go_simp
            exact hK _ _ (Below.refl _ _) rfl
          · intro v; simp only [Act.put, List.setIfInBounds_toArray, List.set_cons_succ, List.set_cons_zero]; exact rfl
          · intro v; exact (rfl : _ = ([x60, x61, v] : List Value))
          intro x62
          apply Oy.walk_cons rfl
          · intro w1 hb hd K hK
            have e61 : _ = x61 := Eq.symm (hd 1 (by kernel_rfl))
            subst e61
            have e62 : _ = x62 := Eq.symm (hd 2 (by kernel_rfl))
            subst e62
            clear hd
            go_simp
            exact hK _ _ (Below.refl _ _) rfl
          · intro v; simp only [Act.put, List.setIfInBounds_toArray, List.set_cons_succ, List.set_cons_zero]; exact rfl
          · intro v; exact (rfl : _ = ([x60, x61, x62, v] : List Value))
          intro x63
          apply Oy.walk_cons rfl
          · intro w1 hb hd K hK
            have e63 : _ = x63 := Eq.symm (hd 3 (by kernel_rfl))
            subst e63
            clear hd
            have c_y0 := (hb.cell (cell_lt y0)).trans y0
            have c_y1 := (hb.cell (cell_lt y1)).trans y1
            have c_y2 := (hb.cell (cell_lt y2)).trans y2
            have c_y3 := (hb.cell (cell_lt y3)).trans y3
            have c_y4 := (hb.cell (cell_lt y4)).trans y4
            have c_y5 := (hb.cell (cell_lt y5)).trans y5
            have c_y6 := (hb.cell (cell_lt y6)).trans y6
            go_simp
            exact hK _ _ (Below.refl _ _) rfl
          · intro v; simp only [Act.put, List.setIfInBounds_toArray, List.set_cons_succ, List.set_cons_zero]; exact rfl
          · intro v; exact (rfl : _ = ([x60, x61, x62, x63, v] : List Value))
          intro x64
          apply Oy.walk_cons rfl
          · intro w1 hb hd K hK
            clear hd
            go_simp
            exact hK _ _ (Below.refl _ _) rfl
          · intro v; simp only [Act.put, List.setIfInBounds_toArray, List.set_cons_succ, List.set_cons_zero]; exact rfl
          · intro v; exact (rfl : _ = ([x60, x61, x62, x63, x64, v] : List Value))
          intro x65
          apply Oy.walk_cons rfl
          · intro w1 hb hd K hK
            have e65 : _ = x65 := Eq.symm (hd 5 (by kernel_rfl))
            subst e65
            clear hd
            have c_f1 := (hb.cell (cell_lt f1)).trans f1
            go_simp
            exact hK _ _ (Below.refl _ _) rfl
          · intro v; simp only [Act.put, List.setIfInBounds_toArray, List.set_cons_succ, List.set_cons_zero]; exact rfl
          · intro v; exact (rfl : _ = ([x60, x61, x62, x63, x64, x65, v] : List Value))
          intro x66
          apply Oy.walk_cons rfl
          · intro w1 hb hd K hK
            clear hd
            go_simp
            exact hK _ _ (Below.refl _ _) rfl
          · intro v; simp only [Act.put, List.setIfInBounds_toArray, List.set_cons_succ, List.set_cons_zero]; exact rfl
          · intro v; exact (rfl : _ = ([x60, x61, x62, x63, x64, x65, x66, v] : List Value))
          intro x67
          apply Oy.walk_cons rfl
          · intro w1 hb hd K hK
            have e66 : _ = x66 := Eq.symm (hd 6 (by kernel_rfl))
            subst e66
            have e67 : _ = x67 := Eq.symm (hd 7 (by kernel_rfl))
            subst e67
            clear hd
            go_simp
            exact hK _ _ (Below.refl _ _) rfl
          · intro v; simp only [Act.put, List.setIfInBounds_toArray, List.set_cons_succ, List.set_cons_zero]; exact rfl
          · intro v; exact (rfl : _ = ([x60, x61, x62, x63, x64, x65, x66, x67, v] : List Value))
          intro x68
          apply Oy.walk_cons rfl
          · intro w1 hb hd K hK
            have e68 : _ = x68 := Eq.symm (hd 8 (by kernel_rfl))
            subst e68
            clear hd
            have c_x0 := (hb.cell (cell_lt x0)).trans x0
            have c_x1 := (hb.cell (cell_lt x1)).trans x1
            have c_x2 := (hb.cell (cell_lt x2)).trans x2
            go_simp
            exact hK _ _ (Below.refl _ _) rfl
          · intro v; simp only [Act.put, List.setIfInBounds_toArray, List.set_cons_succ, List.set_cons_zero]; exact rfl
          · intro v; exact (rfl : _ = ([x60, x61, x62, x63, x64, x65, x66, x67, x68, v] : List Value))
          intro x69
          apply Oy.walk_cons rfl
          · intro w1 hb hd K hK
            have e64 : _ = x64 := Eq.symm (hd 4 (by kernel_rfl))
            subst e64
            have e69 : _ = x69 := Eq.symm (hd 9 (by kernel_rfl))
            subst e69
            clear hd
            go_simp
            refine (HF1.out w1).mono ?_
            rintro e w2 ⟨rfl, hb2⟩
            go_simp
            exact hK _ _ hb2 rfl
          · intro v; simp only [Act.put, List.setIfInBounds_toArray, List.set_cons_succ, List.set_cons_zero]; exact rfl
          · intro v; exact (rfl : _ = ([x60, x61, x62, x63, x64, x65, x66, x67, x68, x69, v] : List Value))
          intro x70
          apply Oy.walk_cons rfl
          · intro w1 hb hd K hK
            have e70 : _ = x70 := Eq.symm (hd 10 (by kernel_rfl))
            subst e70
            clear hd
            go_simp
            exact hK _ _ (Below.refl _ _) rfl
          · intro v; simp only [Act.put, List.setIfInBounds_toArray, List.set_cons_succ, List.set_cons_zero]; exact rfl
          · intro v; exact (rfl : _ = ([x60, x61, x62, x63, x64, x65, x66, x67, x68, x69, x70, v] : List Value))
          intro x71
          apply Oy.walk_cons rfl
          · intro w1 hb hd K hK
            have e71 : _ = x71 := Eq.symm (hd 11 (by kernel_rfl))
            subst e71
            clear hd
            go_simp
            exact hK _ _ (Below.refl _ _) rfl
          · intro v; simp only [Act.put, List.setIfInBounds_toArray, List.set_cons_succ, List.set_cons_zero]; exact rfl
          · intro v; exact (rfl : _ = ([x60, x61, x62, x63, x64, x65, x66, x67, x68, x69, x70, x71, v] : List Value))
          intro x72
          apply Oy.walk_cons rfl
          · intro w1 hb hd K hK
            have e72 : _ = x72 := Eq.symm (hd 12 (by kernel_rfl))
            subst e72
            have e71 : _ = x71 := Eq.symm (hd 11 (by kernel_rfl))
            subst e71
            clear hd
            have c_f0 := (hb.cell (cell_lt f0)).trans f0
            go_simp
            exact hK _ _ (Below.refl _ _) rfl
          · intro v; simp only [Act.put, List.setIfInBounds_toArray, List.set_cons_succ, List.set_cons_zero]; exact rfl
          · intro v; exact (rfl : _ = ([x60, x61, x62, x63, x64, x65, x66, x67, x68, x69, x70, x71, x72, v] : List Value))
          intro x73
          apply Oy.walk_cons rfl
          · intro w1 hb hd K hK
            have e71 : _ = x71 := Eq.symm (hd 11 (by kernel_rfl))
            subst e71
            clear hd
            go_simp
            exact hK _ _ (Below.refl _ _) rfl
          · intro v; simp only [Act.put, List.setIfInBounds_toArray, List.set_cons_succ, List.set_cons_zero]; exact rfl
          · intro v; exact (rfl : _ = ([x60, x61, x62, x63, x64, x65, x66, x67, x68, x69, x70, x71, x72, x73, v] : List Value))
          intro x74
          apply Oy.walk_cons rfl
          · intro w1 hb hd K hK
            have e73 : _ = x73 := Eq.symm (hd 13 (by kernel_rfl))
            subst e73
            have e74 : _ = x74 := Eq.symm (hd 14 (by kernel_rfl))
            subst e74
            have e71 : _ = x71 := Eq.symm (hd 11 (by kernel_rfl))
            subst e71
            clear hd
            go_simp
            exact hK _ _ (Below.refl _ _) rfl
          · intro v; simp only [Act.put, List.setIfInBounds_toArray, List.set_cons_succ, List.set_cons_zero]; exact rfl
          · intro v; exact (rfl : _ = ([x60, x61, x62, x63, x64, x65, x66, x67, x68, x69, x70, x71, x72, x73, x74, v] : List Value))
          intro x75
          apply Oy.walk_cons rfl
          · intro w1 hb hd K hK
            have e75 : _ = x75 := Eq.symm (hd 15 (by kernel_rfl))
            subst e75
            have e71 : _ = x71 := Eq.symm (hd 11 (by kernel_rfl))
            subst e71
            clear hd
            have c_y0 := (hb.cell (cell_lt y0)).trans y0
            have c_y1 := (hb.cell (cell_lt y1)).trans y1
            have c_y2 := (hb.cell (cell_lt y2)).trans y2
            have c_y3 := (hb.cell (cell_lt y3)).trans y3
            have c_y4 := (hb.cell (cell_lt y4)).trans y4
            have c_y5 := (hb.cell (cell_lt y5)).trans y5
            have c_y6 := (hb.cell (cell_lt y6)).trans y6
            go_simp
            exact hK _ _ (Below.refl _ _) rfl
          · intro v; simp only [Act.put, List.setIfInBounds_toArray, List.set_cons_succ, List.set_cons_zero]; exact rfl
          · intro v; exact (rfl : _ = ([x60, x61, x62, x63, x64, x65, x66, x67, x68, x69, x70, x71, x72, x73, x74, x75, v] : List Value))
          intro x76
          apply Oy.walk_cons rfl
          · intro w1 hb hd K hK
            have e71 : _ = x71 := Eq.symm (hd 11 (by kernel_rfl))
            subst e71
            clear hd
            go_simp
            exact hK _ _ (Below.refl _ _) rfl
          · intro v; simp only [Act.put, List.setIfInBounds_toArray, List.set_cons_succ, List.set_cons_zero]; exact rfl
          · intro v; exact (rfl : _ = ([x60, x61, x62, x63, x64, x65, x66, x67, x68, x69, x70, x71, x72, x73, x74, x75, x76, v] : List Value))
          intro x77
          apply Oy.walk_cons rfl
          · intro w1 hb hd K hK
            have e71 : _ = x71 := Eq.symm (hd 11 (by kernel_rfl))
            subst e71
            clear hd
            go_simp
            exact hK _ _ (Below.refl _ _) rfl
          · intro v; simp only [Act.put, List.setIfInBounds_toArray, List.set_cons_succ, List.set_cons_zero]; exact rfl
          · intro v; exact (rfl : _ = ([x60, x61, x62, x63, x64, x65, x66, x67, x68, x69, x70, x71, x72, x73, x74, x75, x76, x77, v] : List Value))
          intro x78
          apply Oy.walk_cons rfl
          · intro w1 hb hd K hK
            have e77 : _ = x77 := Eq.symm (hd 17 (by kernel_rfl))
            subst e77
            have e78 : _ = x78 := Eq.symm (hd 18 (by kernel_rfl))
            subst e78
            have e71 : _ = x71 := Eq.symm (hd 11 (by kernel_rfl))
            subst e71
            clear hd
            go_simp
            exact hK _ _ (Below.refl _ _) rfl
          · intro v; simp only [Act.put, List.setIfInBounds_toArray, List.set_cons_succ, List.set_cons_zero]; exact rfl
          · intro v; exact (rfl : _ = ([x60, x61, x62, x63, x64, x65, x66, x67, x68, x69, x70, x71, x72, x73, x74, x75, x76, x77, x78, v] : List Value))
          intro x79
          apply Oy.walk_cons rfl
          · intro w1 hb hd K hK
            have e79 : _ = x79 := Eq.symm (hd 19 (by kernel_rfl))
            subst e79
            have e71 : _ = x71 := Eq.symm (hd 11 (by kernel_rfl))
            subst e71
            clear hd
            have c_z0 := (hb.cell (cell_lt z0)).trans z0
            have c_z1 := (hb.cell (cell_lt z1)).trans z1
            have c_z2 := (hb.cell (cell_lt z2)).trans z2
            go_simp
            exact hK _ _ (Below.refl _ _) rfl
          · intro v; simp only [Act.put, List.setIfInBounds_toArray, List.set_cons_succ, List.set_cons_zero]; exact rfl
          · intro v; exact (rfl : _ = ([x60, x61, x62, x63, x64, x65, x66, x67, x68, x69, x70, x71, x72, x73, x74, x75, x76, x77, x78, x79, v] : List Value))
          intro x80
          apply Oy.walk_cons rfl
          · intro w1 hb hd K hK
            have e76 : _ = x76 := Eq.symm (hd 16 (by kernel_rfl))
            subst e76
            have e80 : _ = x80 := Eq.symm (hd 20 (by kernel_rfl))
            subst e80
            have e71 : _ = x71 := Eq.symm (hd 11 (by kernel_rfl))
            subst e71
            clear hd
            go_simp
            refine (HF2.out w1).mono ?_
            rintro e w2 ⟨rfl, hb2⟩
            go_simp
            exact hK _ _ hb2 rfl
          · intro v; simp only [Act.put, List.setIfInBounds_toArray, List.set_cons_succ, List.set_cons_zero]; exact rfl
          · intro v; exact (rfl : _ = ([x60, x61, x62, x63, x64, x65, x66, x67, x68, x69, x70, x71, x72, x73, x74, x75, x76, x77, x78, x79, x80, v] : List Value))
          intro x81
          apply Oy.walk_cons rfl
          · intro w1 hb hd K hK
            have e81 : _ = x81 := Eq.symm (hd 21 (by kernel_rfl))
            subst e81
            have e71 : _ = x71 := Eq.symm (hd 11 (by kernel_rfl))
            subst e71
            clear hd
            go_simp
            exact hK _ _ (Below.refl _ _) rfl
          · intro v; simp only [Act.put, List.setIfInBounds_toArray, List.set_cons_succ, List.set_cons_zero]; exact rfl
          · intro v; exact (rfl : _ = ([x60, x61, x62, x63, x64, x65, x66, x67, x68, x69, x70, x71, x72, x73, x74, x75, x76, x77, x78, x79, x80, x81, v] : List Value))
          intro x82
          apply Oy.walk_cons rfl
          · intro w1 hb hd K hK
            have e71 : _ = x71 := Eq.symm (hd 11 (by kernel_rfl))
            subst e71
            have e82 : _ = x82 := Eq.symm (hd 22 (by kernel_rfl))
            subst e82
            clear hd
            go_simp
            exact hK _ _ (Below.refl _ _) rfl
          · intro v; simp only [Act.put, List.setIfInBounds_toArray, List.set_cons_succ, List.set_cons_zero]; exact rfl
          · intro v; exact (rfl : _ = ([x60, x61, x62, x63, x64, x65, x66, x67, x68, x69, x70, x71, x72, x73, x74, x75, x76, x77, x78, x79, x80, x81, x82, v] : List Value))
          intro x83
          refine Oy.walk_nil rfl (fun w1 hb hd => ?_)
          have e60 : _ = x60 := Eq.symm (hd 0 (by kernel_rfl))
          subst e60
          have e61 : _ = x61 := Eq.symm (hd 1 (by kernel_rfl))
          subst e61
          have e62 : _ = x62 := Eq.symm (hd 2 (by kernel_rfl))
          subst e62
          have e63 : _ = x63 := Eq.symm (hd 3 (by kernel_rfl))
          subst e63
          have e64 : _ = x64 := Eq.symm (hd 4 (by kernel_rfl))
          subst e64
          have e65 : _ = x65 := Eq.symm (hd 5 (by kernel_rfl))
          subst e65
          have e66 : _ = x66 := Eq.symm (hd 6 (by kernel_rfl))
          subst e66
          have e67 : _ = x67 := Eq.symm (hd 7 (by kernel_rfl))
          subst e67
          have e68 : _ = x68 := Eq.symm (hd 8 (by kernel_rfl))
          subst e68
          have e69 : _ = x69 := Eq.symm (hd 9 (by kernel_rfl))
          subst e69
          have e70 : _ = x70 := Eq.symm (hd 10 (by kernel_rfl))
          subst e70
          have e71 : _ = x71 := Eq.symm (hd 11 (by kernel_rfl))
          subst e71
          have e72 : _ = x72 := Eq.symm (hd 12 (by kernel_rfl))
          subst e72
          have e73 : _ = x73 := Eq.symm (hd 13 (by kernel_rfl))
          subst e73
          have e74 : _ = x74 := Eq.symm (hd 14 (by kernel_rfl))
          subst e74
          have e75 : _ = x75 := Eq.symm (hd 15 (by kernel_rfl))
          subst e75
          have e76 : _ = x76 := Eq.symm (hd 16 (by kernel_rfl))
          subst e76
          have e77 : _ = x77 := Eq.symm (hd 17 (by kernel_rfl))
          subst e77
          have e78 : _ = x78 := Eq.symm (hd 18 (by kernel_rfl))
          subst e78
          have e79 : _ = x79 := Eq.symm (hd 19 (by kernel_rfl))
          subst e79
          have e80 : _ = x80 := Eq.symm (hd 20 (by kernel_rfl))
          subst e80
          have e81 : _ = x81 := Eq.symm (hd 21 (by kernel_rfl))
          subst e81
          have e82 : _ = x82 := Eq.symm (hd 22 (by kernel_rfl))
          subst e82
          have e83 : _ = x83 := Eq.symm (hd 23 (by kernel_rfl))
          subst e83
          clear hd
          obtain ⟨w5, hw5⟩ : ∃ W, W = w1 := ⟨_, rfl⟩
          subst hw5
          have hbl5 : Below wl.heap.size wl w5 := (Below.refl _ _).drew.trans hb
          have HO6 := Lib.hid (own_below HOU.out hbl5)
          have HZ6 := Lib.hid (own_below HZR.out hbl5)
          obtain ⟨a0, a1, a2, k0, k1', k2, hset⟩ := HSET.out _ HO6.out
          have r0 := own_frozen HO6.out (k * 3)
          have r1 := own_frozen HO6.out (k * 3 + 1)
          have r2 := own_frozen HO6.out (k * 3 + 2)
          have HS6 := Lib.hid hset
          have HBA6 : Hid (Below wa.heap.size wa (((w5.setCell ⟨g5, k * 3, none⟩ (.int .i64 77)).setCell ⟨g5, k * 3 + 1, none⟩ (.int .i64 0)).setCell ⟨g5, k * 3 + 2, none⟩ (.int .i64 0))) := (((HBA.out.trans (hbl5.mono HBA.out.size)).setCell hga _).setCell hga _).setCell hga _
          have HGR : Hid (w5.grownBy (((w5.setCell ⟨g5, k * 3, none⟩ (.int .i64 77)).setCell ⟨g5, k * 3 + 1, none⟩ (.int .i64 0)).setCell ⟨g5, k * 3 + 2, none⟩ (.int .i64 0)) (some g5)) := Lib.grownBy_setB (Lib.grownBy_setB (Lib.grownBy_setB (World.grownBy.refl w5 (some g5)) _ _) _ _) _ _
          have HZ7 := Lib.hid (HZ6.out.kept HGR.out (Or.inr (by show some g1 ≠ some g5; intro h; injection h with h; omega)))
          have j0 := (hbl5.cell (cell_lt f0)).trans f0
          have j1 := (hbl5.cell (cell_lt f1)).trans f1
          have F0 := Lib.hid (HGR.out.cell j0 (by show some w.heap.size ≠ some g5; have := hwl.out; intro h; injection h with h; omega))
          have F1 := Lib.hid (HGR.out.cell j1 (by show some w.heap.size ≠ some g5; have := hwl.out; intro h; injection h with h; omega))
          clear hb hbl5 hset f0 f1 x0 x1 x2 y0 y1 y2 y3 y4 y5 y6 z0 z1 z2
          go_simp
          go_wp2
          go_roundw
          case rel => exact ⟨rfl, k + 1, _, by omega, HUS.out, by go_num, HBA6.out, HS6.out, HZ7.out, F0.out, F1.out⟩
          case measure => simp [intOf]; omega
      · obtain rfl : k = m := by omega
        have HZR := Lib.hid hzr
        clear hou hzr hba
        have hnone : Hid (∀ w3, Below wl.heap.size wl.drew w3 → Below w.heap.size w w3) := fun w3 hb => HBL.out.trans (((Below.refl _ _).drew.trans hb).mono HBL.out.size)
        have HW2 := hnone
        clear HW hnone
        go_wp2_with fail
        refine Oy.region_quiet 104 [Oy.eqD (.slice P ps.length pc), CopyR (ps.map Prod.fst), Oy.eqD (.pointer (some ⟨w.heap.size, 0, none⟩)), Oy.eqD (.slice V k vc), Oy.eqD (.pointer (some ⟨w.heap.size, 1, none⟩)), Oy.eqD (.slice X k xc), DoR (wl.heap.size) (⟨zs, dr, ds, dok⟩ : DM), fun ps v w => ps = [v] ∧ DoR (wl.heap.size) (⟨zs, dr, ds, dok⟩ : DM) ps v w, Oy.comp0, Oy.comp1, Oy.comp2, Oy.eqD (.bool (⟨zs, dr, ds, dok⟩ : DM).ok), Oy.sameD, Oy.sameD, Oy.sameD, Oy.eqD (.bool (⟨zs, dr, ds, dok⟩ : DM).ok)] [[], [], [], [], [], [], [], [6], [7], [7], [7], [], [8], [9], [10], []] (by kernel_rfl) rfl (by kernel_rfl) (by kernel_rfl) ⟨Oy.keeps_eq _, keeps_copy _, Oy.keeps_eq _, Oy.keeps_eq _, Oy.keeps_eq _, Oy.keeps_eq _, keeps_do _ _, keeps_mv _ _, Oy.keeps_pure _, Oy.keeps_pure _, Oy.keeps_pure _, Oy.keeps_eq _, Oy.keeps_pure _, Oy.keeps_pure _, Oy.keeps_pure _, Oy.keeps_eq _, trivial⟩ ?_
        apply Oy.walk_cons rfl
        · intro w1 hb hd K hK
          clear hd
          go_simp
          exact hK _ _ (Below.refl _ _) rfl
        · intro v; simp only [Act.put, List.setIfInBounds_toArray, List.set_cons_succ, List.set_cons_zero]; exact rfl
        · intro v; exact (rfl : _ = ([v] : List Value))
        intro x90
        apply Oy.walk_cons rfl
        · intro w1 hb hd K hK
          have e90 : _ = x90 := Eq.symm (hd 0 (by kernel_rfl))
          subst e90
          clear hd
          go_simp
          refine (HCP0.out w1 (HW2.out w1 hb)).mono ?_
          rintro e w2 ⟨v, qs, rfl, h1, h2, h3, h4⟩
          go_simp
          exact hK _ _ h4 ⟨qs, h1, ⟨Inn.of_own h2, h3⟩⟩
        · intro v; simp only [Act.put, List.setIfInBounds_toArray, List.set_cons_succ, List.set_cons_zero]; exact rfl
        · intro v; exact (rfl : _ = ([x90, v] : List Value))
        intro x91
        apply Oy.walk_cons rfl
        · intro w1 hb hd K hK
          clear hd
          go_simp
          exact hK _ _ (Below.refl _ _) rfl
        · intro v; simp only [Act.put, List.setIfInBounds_toArray, List.set_cons_succ, List.set_cons_zero]; exact rfl
        · intro v; exact (rfl : _ = ([x90, x91, v] : List Value))
        intro x92
        apply Oy.walk_cons rfl
        · intro w1 hb hd K hK
          have e92 : _ = x92 := Eq.symm (hd 2 (by kernel_rfl))
          subst e92
          clear hd
          have c_f0 := (hb.cell (cell_lt f0)).trans f0
          go_simp
          exact hK _ _ (Below.refl _ _) rfl
        · intro v; simp only [Act.put, List.setIfInBounds_toArray, List.set_cons_succ, List.set_cons_zero]; exact rfl
        · intro v; exact (rfl : _ = ([x90, x91, x92, v] : List Value))
        intro x93
        apply Oy.walk_cons rfl
        · intro w1 hb hd K hK
          clear hd
          go_simp
          exact hK _ _ (Below.refl _ _) rfl
        · intro v; simp only [Act.put, List.setIfInBounds_toArray, List.set_cons_succ, List.set_cons_zero]; exact rfl
        · intro v; exact (rfl : _ = ([x90, x91, x92, x93, v] : List Value))
        intro x94
        apply Oy.walk_cons rfl
        · intro w1 hb hd K hK
          have e94 : _ = x94 := Eq.symm (hd 4 (by kernel_rfl))
          subst e94
          clear hd
          have c_f1 := (hb.cell (cell_lt f1)).trans f1
          go_simp
          exact hK _ _ (Below.refl _ _) rfl
        · intro v; simp only [Act.put, List.setIfInBounds_toArray, List.set_cons_succ, List.set_cons_zero]; exact rfl
        · intro v; exact (rfl : _ = ([x90, x91, x92, x93, x94, v] : List Value))
        intro x95
        apply Oy.walk_cons rfl
        · intro w1 hb hd K hK
          have h91 : (CopyR (ps.map Prod.fst)) [] x91 w1 := hd 1 (by kernel_rfl)
          have e93 : _ = x93 := Eq.symm (hd 3 (by kernel_rfl))
          subst e93
          have e95 : _ = x95 := Eq.symm (hd 5 (by kernel_rfl))
          subst e95
          obtain ⟨qs, hq1, hq2⟩ := h91
          clear hd
          go_simp
          refine (HDO0.out w1 (HW2.out w1 hb) qs _ _ hq1 hq2 (HXR.out w1 (HW2.out w1 hb))).mono ?_
          rintro e w2 ⟨v1, v2, v3, rfl, h1, h2⟩
          go_simp
          exact hK _ _ h2 ⟨v1, v2, v3, rfl, h1.low (by first | exact hb.size | (have := hb.size; simp at this ⊢; omega))⟩
        · intro v; simp only [Act.put, List.setIfInBounds_toArray, List.set_cons_succ, List.set_cons_zero]; exact rfl
        · intro v; exact (rfl : _ = ([x90, x91, x92, x93, x94, x95, v] : List Value))
        intro x96
        apply Oy.walk_cons rfl
        · intro w1 hb hd K hK
          have h96 : (DoR (wl.heap.size) (⟨zs, dr, ds, dok⟩ : DM)) [] x96 w1 := hd 6 (by kernel_rfl)
          clear hd
          go_simp
          exact hK _ _ (Below.refl _ _) ⟨rfl, h96⟩
        · intro v; simp only [Act.put, List.setIfInBounds_toArray, List.set_cons_succ, List.set_cons_zero]; exact rfl
        · intro v; exact (rfl : _ = ([x90, x91, x92, x93, x94, x95, x96, v] : List Value))
        intro x89
        apply Oy.walk_cons rfl
        · intro w1 hb hd K hK
          have h89 : (fun ps v w => ps = [v] ∧ DoR (wl.heap.size) (⟨zs, dr, ds, dok⟩ : DM) ps v w) [x96] x89 w1 := hd 7 (by kernel_rfl)
          obtain ⟨_, v1, v2, v3, rfl, _⟩ := h89
          clear hd
          go_simp
          exact hK _ _ (Below.refl _ _) ⟨v2, v3, _, rfl⟩
        · intro v; simp only [Act.put, List.setIfInBounds_toArray, List.set_cons_succ, List.set_cons_zero]; exact rfl
        · intro v; exact (rfl : _ = ([x90, x91, x92, x93, x94, x95, x96, x89, v] : List Value))
        intro x97
        apply Oy.walk_cons rfl
        · intro w1 hb hd K hK
          have h89 : (fun ps v w => ps = [v] ∧ DoR (wl.heap.size) (⟨zs, dr, ds, dok⟩ : DM) ps v w) [x96] x89 w1 := hd 7 (by kernel_rfl)
          obtain ⟨_, v1, v2, v3, rfl, _⟩ := h89
          clear hd
          go_simp
          exact hK _ _ (Below.refl _ _) ⟨v1, v3, _, rfl⟩
        · intro v; simp only [Act.put, List.setIfInBounds_toArray, List.set_cons_succ, List.set_cons_zero]; exact rfl
        · intro v; exact (rfl : _ = ([x90, x91, x92, x93, x94, x95, x96, x89, x97, v] : List Value))
        intro x98
        apply Oy.walk_cons rfl
        · intro w1 hb hd K hK
          have h89 : (fun ps v w => ps = [v] ∧ DoR (wl.heap.size) (⟨zs, dr, ds, dok⟩ : DM) ps v w) [x96] x89 w1 := hd 7 (by kernel_rfl)
          obtain ⟨_, v1, v2, v3, rfl, _⟩ := h89
          clear hd
          go_simp
          exact hK _ _ (Below.refl _ _) ⟨v1, v2, _, rfl⟩
        · intro v; simp only [Act.put, List.setIfInBounds_toArray, List.set_cons_succ, List.set_cons_zero]; exact rfl
        · intro v; exact (rfl : _ = ([x90, x91, x92, x93, x94, x95, x96, x89, x97, x98, v] : List Value))
        intro x99
        apply Oy.walk_cons rfl
        · intro w1 hb hd K hK
          have h89 : (fun ps v w => ps = [v] ∧ DoR (wl.heap.size) (⟨zs, dr, ds, dok⟩ : DM) ps v w) [x96] x89 w1 := hd 7 (by kernel_rfl)
          obtain ⟨_, v1, v2, v3, rfl, _⟩ := h89
          clear hd
          go_simp
          exact hK _ _ (Below.refl _ _) rfl
        · intro v; simp only [Act.put, List.setIfInBounds_toArray, List.set_cons_succ, List.set_cons_zero]; exact rfl
        · intro v; exact (rfl : _ = ([x90, x91, x92, x93, x94, x95, x96, x89, x97, x98, x99, v] : List Value))
        intro x100
        apply Oy.walk_cons rfl
        · intro w1 hb hd K hK
          have h97 : (Oy.comp0) [x89] x97 w1 := hd 8 (by kernel_rfl)
          clear hd
          go_simp
          exact hK _ _ (Below.refl _ _) rfl
        · intro v; simp only [Act.put, List.setIfInBounds_toArray, List.set_cons_succ, List.set_cons_zero]; exact rfl
        · intro v; exact (rfl : _ = ([x90, x91, x92, x93, x94, x95, x96, x89, x97, x98, x99, x100, v] : List Value))
        intro x11
        apply Oy.walk_cons rfl
        · intro w1 hb hd K hK
          have h98 : (Oy.comp1) [x89] x98 w1 := hd 9 (by kernel_rfl)
          clear hd
          go_simp
          exact hK _ _ (Below.refl _ _) rfl
        · intro v; simp only [Act.put, List.setIfInBounds_toArray, List.set_cons_succ, List.set_cons_zero]; exact rfl
        · intro v; exact (rfl : _ = ([x90, x91, x92, x93, x94, x95, x96, x89, x97, x98, x99, x100, x11, v] : List Value))
        intro x12
        apply Oy.walk_cons rfl
        · intro w1 hb hd K hK
          have h99 : (Oy.comp2) [x89] x99 w1 := hd 10 (by kernel_rfl)
          clear hd
          go_simp
          exact hK _ _ (Below.refl _ _) rfl
        · intro v; simp only [Act.put, List.setIfInBounds_toArray, List.set_cons_succ, List.set_cons_zero]; exact rfl
        · intro v; exact (rfl : _ = ([x90, x91, x92, x93, x94, x95, x96, x89, x97, x98, x99, x100, x11, x12, v] : List Value))
        intro x13
        apply Oy.walk_cons rfl
        · intro w1 hb hd K hK
          have e100 : _ = x100 := Eq.symm (hd 11 (by kernel_rfl))
          subst e100
          clear hd
          go_simp
          exact hK _ _ (Below.refl _ _) rfl
        · intro v; simp only [Act.put, List.setIfInBounds_toArray, List.set_cons_succ, List.set_cons_zero]; exact rfl
        · intro v; exact (rfl : _ = ([x90, x91, x92, x93, x94, x95, x96, x89, x97, x98, x99, x100, x11, x12, x13, v] : List Value))
        intro x14
        refine Oy.walk_nil rfl (fun w1 hb hd => ?_)
        have e90 : _ = x90 := Eq.symm (hd 0 (by kernel_rfl))
        subst e90
        have h91 : (CopyR (ps.map Prod.fst)) [] x91 w1 := hd 1 (by kernel_rfl)
        have e92 : _ = x92 := Eq.symm (hd 2 (by kernel_rfl))
        subst e92
        have e93 : _ = x93 := Eq.symm (hd 3 (by kernel_rfl))
        subst e93
        have e94 : _ = x94 := Eq.symm (hd 4 (by kernel_rfl))
        subst e94
        have e95 : _ = x95 := Eq.symm (hd 5 (by kernel_rfl))
        subst e95
        have h96 : (DoR (wl.heap.size) (⟨zs, dr, ds, dok⟩ : DM)) [] x96 w1 := hd 6 (by kernel_rfl)
        have h89 : (fun ps v w => ps = [v] ∧ DoR (wl.heap.size) (⟨zs, dr, ds, dok⟩ : DM) ps v w) [x96] x89 w1 := hd 7 (by kernel_rfl)
        have h97 : (Oy.comp0) [x89] x97 w1 := hd 8 (by kernel_rfl)
        have h98 : (Oy.comp1) [x89] x98 w1 := hd 9 (by kernel_rfl)
        have h99 : (Oy.comp2) [x89] x99 w1 := hd 10 (by kernel_rfl)
        have e100 : _ = x100 := Eq.symm (hd 11 (by kernel_rfl))
        subst e100
        have h11 : (Oy.sameD) [x97] x11 w1 := hd 12 (by kernel_rfl)
        have h12 : (Oy.sameD) [x98] x12 w1 := hd 13 (by kernel_rfl)
        have h13 : (Oy.sameD) [x99] x13 w1 := hd 14 (by kernel_rfl)
        have e14 : _ = x14 := Eq.symm (hd 15 (by kernel_rfl))
        subst e14
        clear hd
        obtain ⟨hmv, v1, v2, v3, he, hR⟩ := h89
        subst he
        obtain ⟨ta0, tb0, tc0, hx0⟩ := h97
        simp only [List.cons.injEq, Value.tuple.injEq, Array.mk.injEq, and_true] at hx0
        have hs0 := h11
        simp only [Oy.sameD, List.cons.injEq, and_true] at hs0
        obtain ⟨ta1, tb1, tc1, hx1⟩ := h98
        simp only [List.cons.injEq, Value.tuple.injEq, Array.mk.injEq, and_true] at hx1
        have hs1 := h12
        simp only [Oy.sameD, List.cons.injEq, and_true] at hs1
        obtain ⟨ta2, tb2, tc2, hx2⟩ := h99
        simp only [List.cons.injEq, Value.tuple.injEq, Array.mk.injEq, and_true] at hx2
        have hs2 := h13
        simp only [Oy.sameD, List.cons.injEq, and_true] at hs2
        obtain ⟨hx0, hx0r⟩ := hx0
        subst hx0
        subst hs0
        obtain ⟨w6, hw6⟩ : ∃ W, W = w1 := ⟨_, rfl⟩
        subst hw6
        have HB6 : Hid (Below w.heap.size w w6) := HW2.out w6 hb
        have hvr := hR.x
        simp only at hvr
        rw [HZM.out] at hvr
        have hzr6 := own_below HZR.out ((Below.refl _ _).drew.trans hb)
        have hsv := sameX_any (.slice A1 k k1) v1 zs zs w6 (by have := Inn.of_own hzr6; unfold RdX; rw [HZM.out]; exact this) (by have := Inn.of_own hvr; unfold RdX; rw [HZM.out]; exact this) (by rw [HZM.out]; omega)
        rw [decide_eq_true rfl] at hsv
        have HSV2 := Lib.hid hsv
        clear hsv hvr hR hx0r hx1 hx2 hs1 hs2 hmv h11 h12 h13 h91 h96 hb hzr6
        go_simp
        go_wp2_with fail
        refine HSV2.out.mono ?_
        rintro e w7 ⟨rfl, q2, hw7⟩
        have HB7 : Hid (Below w.heap.size w w7) := by rw [hw7]; exact below_drewN HB6.out q2
        clear hw7
        go_wp2
        go_ret
        exact ⟨rfl, HB7.out⟩
end Go.Proofs.YtjjoffadieoaaaaGreatDoor
