/- Own texts, joined: A29. -/
import Derived.Test.YtjgfkmakfdepcaaGreatDoorR27
namespace Go.Proofs.YtjgfkmakfdepcaaGreatDoor
open Go.RowKit

/-- an append of what is read onto an empty row: whatever was there stays -/
theorem oper_append_empty {P : Program} {o : Oper} {a : Act} {w : World} {K : Act → World → Prop} {Q : Exit → Act → World → Prop} (s x : Operand) (t : TypeId)
    (ho : o.op = .call { callee := .builtin .append, args := #[s, x], argTypes := #[t, t] })
    (e : TypeId) (i : TypeInfo) (z : Value) (size bytes : Nat) (ht : P.underlying t = some (.slice e)) (hi : P.info? e = some i) (hz : i.zero = some z)
    (hsize : i.size = size) (hby : i.bytes = bytes) (hzs : z.cells.size = size) (hsz : 0 < size)
    (g : Nat) (hs : a.eval s = .slice (some ⟨g, 0, none⟩) 0 0)
    (u : Value) (m : Nat) (news : List Value) (hx : a.eval x = u) (hin : Inn w size u m news) (h1 : ∀ u ∈ news, u.oneCell' = true)
    (h63 : m ≤ maxLen) (hbytes : m * bytes ≤ 140737488355328)
    (h : ∀ v' w', Below w.heap.size w w' → Inn w' size v' m news → K (a.put o.dst v') w') : Oper.wp P o a w K Q := by
  subst hsize
  subst hby
  have nothing : ∀ u', (u' = .slice none 0 0 ∨ ∃ ad c, u' = .slice (some ad) 0 c) → (Builtin.append_ #[t, t] o.type #[.slice (some ⟨g, 0, none⟩) 0 0, u']).run P w = .ok (.slice (some ⟨g, 0, none⟩) 0 0) w := by
    rintro u' (rfl | ⟨ad, c, rfl⟩) <;> simp [Builtin.append_, run_underlying ht, sizeOf, typeInfo, hi, Builtin.lenOf, Builtin.firstCells, loadCells, loadCellsFrom, storeCells]
  rcases hin with ⟨rfl, rfl, rfl⟩ | ⟨ad, c, rfl, hl, hc⟩
  · unfold Oper.wp execOp
    simp only [ho, resolve, invoke, builtin, Sem.run_bind, Sem.run_pure, Result.andThen_ok, List.map_toArray, List.map_cons, List.map_nil, hs, hx, nothing _ (Or.inl rfl)]
    exact h _ _ (Below.refl _ _) (Or.inr ⟨_, _, rfl, by simp, fun h => absurd h (by omega)⟩)
  · rcases Nat.eq_zero_or_pos m with hm | hm
    · subst hm
      obtain rfl : news = [] := List.eq_nil_of_length_eq_zero (by simpa using hl)
      unfold Oper.wp execOp
      simp only [ho, resolve, invoke, builtin, Sem.run_bind, Sem.run_pure, Result.andThen_ok, List.map_toArray, List.map_cons, List.map_nil, hs, hx, nothing _ (Or.inr ⟨ad, c, rfl⟩)]
      exact h _ _ (Below.refl _ _) (Or.inr ⟨_, _, rfl, by simp, fun h => absurd h (by omega)⟩)
    · obtain ⟨b, k, rfl, _, hcc⟩ := hc hm
      have hsmall : m ≤ 9223372036854775807 := by simp only [maxLen] at h63; omega
      have hr := run_append_grow (P := P) w t o.type e i z ht hi hz ⟨g, 0, none⟩ 0 0 [] (by simp) (by simp) ⟨b, k, none⟩ m c news hl (fun j u hu => by rw [add_lit']; exact hcc j u hu) (by omega) (by omega) (growslice_fits (by omega) (by rw [Nat.zero_add]; exact hbytes))
      simp only [Nat.zero_add] at hr
      unfold Oper.wp execOp
      simp only [ho, resolve, invoke, builtin, Sem.run_bind, Sem.run_pure, Result.andThen_ok, List.map_toArray, List.map_cons, List.map_nil, hs, hx, hr]
      refine h _ _ ((Below.refl _ _).drew.alloc (Nat.le_refl _) _) (Or.inr ⟨_, _, rfl, hl, fun _ => ⟨w.heap.size, 0, rfl, by simp, fun j u hu => ?_⟩⟩)
      have hj := (List.getElem?_eq_some_iff.1 hu).1
      rw [Nat.zero_add]
      show (w.drew.alloc _).cell? ⟨w.drew.heap.size, j, none⟩ = _
      rw [cell_of_row _ _ j _ _ _ (heap_alloc_new w.drew _), ← Array.getElem?_toList]
      simp only [Array.toList_append]
      rw [List.getElem?_append_left (by simpa using hj)]
      simpa using hu
theorem step_append_empty {P : Program} {ops : Array Oper} {o : Oper} {a : Act} {w : World} {K : Act → World → Prop} {Q : Exit → Act → World → Prop} {E : Prop} (hgd : o.guard = none) (s x : Operand) (t : TypeId)
    (ho : o.op = .call { callee := .builtin .append, args := #[s, x], argTypes := #[t, t] })
    (e : TypeId) (i : TypeInfo) (z : Value) (size bytes : Nat) (ht : P.underlying t = some (.slice e)) (hi : P.info? e = some i) (hz : i.zero = some z)
    (hsize : i.size = size) (hby : i.bytes = bytes) (hzs : z.cells.size = size) (hsz : 0 < size)
    (g : Nat) (hs : a.eval s = .slice (some ⟨g, 0, none⟩) 0 0)
    (u : Value) (m : Nat) (news : List Value) (hx : a.eval x = u) (hin : Inn w size u m news) (h1 : ∀ u ∈ news, u.oneCell' = true)
    (h63 : m ≤ maxLen) (hbytes : m * bytes ≤ 140737488355328)
    (h : ∀ v' w', Below w.heap.size w w' → Inn w' size v' m news → K (a.put o.dst v') w') :
    if Region.wanted o (yielded ops a.tmps) = true then Oper.wp P o a w K Q else E := by
  have hw : Region.wanted o (yielded ops a.tmps) = true := by simp [Region.wanted, hgd]
  rw [if_pos hw]
  exact oper_append_empty s x t ho e i z size bytes ht hi hz hsize hby hzs hsz g hs u m news hx hin h1 h63 hbytes h
def EmptyD : Oy.RelD := fun _ v _ => ∃ g, v = .slice (some ⟨g, 0, none⟩) 0 0
theorem keeps_empty : Oy.KeepsD EmptyD := fun _ _ _ _ h _ => h
def VarsD (vs : List VM) : Oy.RelD := fun _ v w => Inn w 7 v vs.length (flatV vs)
theorem keeps_vars (vs : List VM) : Oy.KeepsD (VarsD vs) := fun _ _ _ _ h hb => Inn.below h hb
def ValsD (xs : List VA) : Oy.RelD := fun _ v w => Inn w 3 v xs.length (flatX xs)
theorem keeps_vals (xs : List VA) : Oy.KeepsD (ValsD xs) := fun _ _ _ _ h hb => Inn.below h hb
theorem infoVarZ : (Tryz.prog.info? 56).map (fun i => (i.zero, i.size, i.bytes)) = some (some (.agg #[.string ByteArray.empty, .int .i64 0, .int .i64 0, .int .i64 0, .int .i64 0, .int .i64 0, .int .i64 0]), 7, 64) := by kernel_rfl

set_option maxRecDepth 100000 in
set_option maxHeartbeats 16000000 in
theorem actsDo_law (vl vv xv : Value) (ps : List AP) (vs : List VM) (xs : List VA) (w : World) (hA : RdA w vl ps) (hpl : ps.length * 48 ≤ 140737488355328) (hV : RdV w vv vs) (hvl : vs.length * 64 ≤ 140737488355328) (hX : RdX w xv xs) (hxl : xs.length * 24 ≤ 140737488355328) (hi : ∀ x ∈ xs, inL x.a = true) (hO : Ops w) (hM : ML w) :
    Calls Tryz.prog 6 #[vl, .agg #[vv, xv]] w fun e w' => e = .returned (.bool true) ∧ Below w.heap.size w w' := by
  have HWK : Hid (∀ W, Below w.heap.size w W → Calls Tryz.prog 12 #[] W fun e w' => e = .returned (.bool true) ∧ Below W.heap.size W w') := fun W hb => wakes6_any W (hO.below hb) (hM.below hb)
  have HCP0 : Hid (∀ W, Below w.heap.size w W → Calls Tryz.prog 10 #[vl] W (CopyPost ps W)) := fun W hb => copied6_any vl ps W (hA.below hb) hpl
  have HDO0 : Hid (∀ W, ∀ (qs : List AP) (v u x : Value), qs.map Prod.fst = ps.map Prod.fst → RdA W v qs → Inn W 7 u vs.length (flatV vs) → Inn W 3 x xs.length (flatX xs) → Calls Tryz.prog 19 #[v, u, x] W (DoPost (doP vs (ps.map Prod.fst) xs [] []) W)) := fun W qs v u x h1 h2 h3 h4 => by
    have hq : qs.length = ps.length := by have := congrArg List.length h1; simpa using this
    rw [← h1]
    exact do_any v u x qs vs xs W h2 (by omega) h3 hvl h4 hxl hi
  have HRD : Hid (∀ W, Below w.heap.size w W → Calls Tryz.prog 20 #[vl, vv, xv] W (DidPost (doP vs (ps.map Prod.fst) xs [] []) W)) := fun W hb => refDo_any vl vv xv ps vs xs W (hA.below hb) hpl (hV.below hb) hvl (hX.below hb) hxl hi
  have HXR : Hid (∀ W, Below w.heap.size w W → RdX W xv xs) := fun W hb => hX.below hb
  have HVR : Hid (∀ W, Below w.heap.size w W → RdV W vv vs) := fun W hb => hV.below hb
  obtain ⟨P, pc, rfl⟩ := hA.form
  obtain ⟨V, vc, rfl⟩ := hV.form
  obtain ⟨X, xc, rfl⟩ := RdX.form hX
  have HLG : Hid (∀ W, Calls Tryz.prog 18 #[.slice P ps.length pc] W fun e w' => e = .returned (.bool (decide (100 < ps.length))) ∧ w' = W) := fun W => long_any P ps.length pc W (by omega)
  obtain ⟨ix, hx0, hx1, hx2, hx3⟩ := info_of infoValue
  have HX0 := Lib.hid hx0; have HX1 := Lib.hid hx1; have HX2 := Lib.hid hx2; have HX3 := Lib.hid hx3
  obtain ⟨iv, hv0, hv1, hv2, hv3⟩ := info_of infoVarZ
  have HV0 := Lib.hid hv0; have HV1 := Lib.hid hv1; have HV2 := Lib.hid hv2; have HV3 := Lib.hid hv3
  have HB0 : Hid (Below w.heap.size w (w.alloc (.cells #[.slice V vs.length vc, .slice X xs.length xc] 41))) := (Below.refl _ _).alloc (Nat.le_refl _) _
  have hd0 : (w.alloc (.cells #[.slice V vs.length vc, .slice X xs.length xc] 41)).cell? ⟨w.heap.size, 0, none⟩ = some (.slice V vs.length vc) := by simp
  have hd1 : (w.alloc (.cells #[.slice V vs.length vc, .slice X xs.length xc] 41)).cell? ⟨w.heap.size, 1, none⟩ = some (.slice X xs.length xc) := by simp
  have hfew := do_rs vs (ps.map Prod.fst) xs [] []
  have hdl := do_len (vs := vs) (ps.map Prod.fst) xs [] []
  simp only [List.length_map, List.length_nil, Nat.zero_add] at hfew
  obtain ⟨wb, hwb⟩ : ∃ W, W = w.alloc (.cells #[.slice V vs.length vc, .slice X xs.length xc] 41) := ⟨_, rfl⟩
  rw [← hwb] at HB0 hd0 hd1
  have HE := Lib.hid hwb
  clear hx0 hx1 hx2 hx3 hv0 hv1 hv2 hv3 hA hV hX hO hM hwb hi
  cases hlong : decide (100 < ps.length) with
  | true =>
    rw [hlong] at HLG
    clear hlong hfew hdl
    go_enter Tryz.func6, Tryz.ntmps6
    go_wp2_with fail
    rw [← HE.out]
    refine (HWK.out _ HB0.out).mono ?_
    rintro e wa ⟨rfl, hb1⟩
    have HB1 := Lib.hid (HB0.out.trans (hb1.mono HB0.out.size))
    have c0 := (hb1.cell (cell_lt hd0)).trans hd0
    have c1 := (hb1.cell (cell_lt hd1)).trans hd1
    clear hb1 hd0 hd1
    go_wp2_with fail
    refine (HLG.out _).mono ?_
    rintro e w2 ⟨rfl, hw2⟩
    obtain rfl := hw2.symm
    go_wp2
    go_ret
    exact ⟨rfl, HB1.out⟩
  | false =>
    rw [hlong] at HLG
    obtain ⟨D, hD⟩ : ∃ d, doP vs (ps.map Prod.fst) xs [] [] = d := ⟨_, rfl⟩
    rw [hD] at HDO0 HRD hfew hdl
    have hr := hfew.1
    have hs := hfew.2
    clear hlong hfew hD
    go_enter Tryz.func6, Tryz.ntmps6
    go_wp2_with fail
    rw [← HE.out]
    refine (HWK.out _ HB0.out).mono ?_
    rintro e wa ⟨rfl, hb1⟩
    have HB1 := Lib.hid (HB0.out.trans (hb1.mono HB0.out.size))
    have c0 := (hb1.cell (cell_lt hd0)).trans hd0
    have c1 := (hb1.cell (cell_lt hd1)).trans hd1
    clear hb1 hd0 hd1
    go_wp2_with fail
    refine (HLG.out _).mono ?_
    rintro e w2 ⟨rfl, hw2⟩
    obtain rfl := hw2.symm
    clear hw2
    go_wp2_with fail
    have HW : Hid (∀ w3, Below wa.heap.size wa.drew w3 → Below w.heap.size w w3) := fun w3 hb => HB1.out.trans (((Below.refl _ _).drew.trans hb).mono HB1.out.size)
    refine Oy.region_quiet 58 [Oy.eqD (.slice P ps.length pc), CopyR (ps.map Prod.fst), EmptyD, Oy.eqD (.pointer (some ⟨w.heap.size, 0, none⟩)), Oy.eqD (.slice V vs.length vc), VarsD vs, EmptyD, Oy.eqD (.pointer (some ⟨w.heap.size, 1, none⟩)), Oy.eqD (.slice X xs.length xc), ValsD xs, DoR (wa.heap.size) D, fun ps v w => ps = [v] ∧ DoR (wa.heap.size) D ps v w, Oy.comp0, Oy.comp1, Oy.comp2, Oy.eqD (.bool D.ok), Oy.sameD, Oy.sameD, Oy.sameD, Oy.eqD (.bool D.ok)] [[], [], [], [], [], [], [], [], [], [], [], [10], [11], [11], [11], [], [12], [13], [14], []] (by kernel_rfl) rfl (by kernel_rfl) (by kernel_rfl) ⟨Oy.keeps_eq _, keeps_copy _, keeps_empty, Oy.keeps_eq _, Oy.keeps_eq _, keeps_vars vs, keeps_empty, Oy.keeps_eq _, Oy.keeps_eq _, keeps_vals xs, keeps_do _ _, keeps_mv _ _, Oy.keeps_pure _, Oy.keeps_pure _, Oy.keeps_pure _, Oy.keeps_eq _, Oy.keeps_pure _, Oy.keeps_pure _, Oy.keeps_pure _, Oy.keeps_eq _, trivial⟩ ?_
    apply Oy.walk_cons rfl
    · intro w1 hb hd K hK
      clear hd
      go_simp
      exact hK _ _ (Below.refl _ _) rfl
    · intro v; simp only [Act.put, List.setIfInBounds_toArray, List.set_cons_succ, List.set_cons_zero]; exact rfl
    · intro v; exact (rfl : _ = ([v] : List Value))
    intro x15
    apply Oy.walk_cons rfl
    · intro w1 hb hd K hK
      have e15 : _ = x15 := Eq.symm (hd 0 (by kernel_rfl))
      subst e15
      clear hd
      go_simp
      refine (HCP0.out w1 (HW.out w1 hb)).mono ?_
      rintro e w2 ⟨v, qs, rfl, h1, h2, h3, h4⟩
      go_simp
      exact hK _ _ h4 ⟨qs, h1, ⟨Inn.of_own h2, h3⟩⟩
    · intro v; simp only [Act.put, List.setIfInBounds_toArray, List.set_cons_succ, List.set_cons_zero]; exact rfl
    · intro v; exact (rfl : _ = ([x15, v] : List Value))
    intro x16
    apply Oy.walk_cons rfl
    · intro w1 hb hd K hK
      clear hd
      go_simp
      exact hK _ _ ((Below.refl _ _).alloc (Nat.le_refl _) _) ⟨_, rfl⟩
    · intro v; simp only [Act.put, List.setIfInBounds_toArray, List.set_cons_succ, List.set_cons_zero]; exact rfl
    · intro v; exact (rfl : _ = ([x15, x16, v] : List Value))
    intro x17
    apply Oy.walk_cons rfl
    · intro w1 hb hd K hK
      clear hd
      go_simp
      exact hK _ _ (Below.refl _ _) rfl
    · intro v; simp only [Act.put, List.setIfInBounds_toArray, List.set_cons_succ, List.set_cons_zero]; exact rfl
    · intro v; exact (rfl : _ = ([x15, x16, x17, v] : List Value))
    intro x18
    apply Oy.walk_cons rfl
    · intro w1 hb hd K hK
      have e18 : _ = x18 := Eq.symm (hd 3 (by kernel_rfl))
      subst e18
      clear hd
      have c_c0 := (hb.cell (cell_lt c0)).trans c0
      go_simp
      exact hK _ _ (Below.refl _ _) rfl
    · intro v; simp only [Act.put, List.setIfInBounds_toArray, List.set_cons_succ, List.set_cons_zero]; exact rfl
    · intro v; exact (rfl : _ = ([x15, x16, x17, x18, v] : List Value))
    intro x19
    apply Oy.walk_cons rfl
    · intro w1 hb hd K hK
      have h17 : (EmptyD) [] x17 w1 := hd 2 (by kernel_rfl)
      have e19 : _ = x19 := Eq.symm (hd 4 (by kernel_rfl))
      subst e19
      obtain ⟨g, rfl⟩ := h17
      clear hd
      refine step_append_empty rfl (.tmp 17) (.tmp 19) 38 rfl 56 iv _ 7 64 Tryz.underlying38 HV0.out HV1.out HV2.out HV3.out rfl (by decide) g (by simp [Act.eval]) _ vs.length (flatV vs) (by simp [Act.eval]) (HVR.out w1 (HW.out w1 hb)) (flatV_vals vs) (by unfold maxLen; omega) (by omega) ?_
      intro v' w' hb2 hin
      exact hK _ _ hb2 hin
    · intro v; simp only [Act.put, List.setIfInBounds_toArray, List.set_cons_succ, List.set_cons_zero]; exact rfl
    · intro v; exact (rfl : _ = ([x15, x16, x17, x18, x19, v] : List Value))
    intro x20
    apply Oy.walk_cons rfl
    · intro w1 hb hd K hK
      clear hd
      go_simp
      exact hK _ _ ((Below.refl _ _).alloc (Nat.le_refl _) _) ⟨_, rfl⟩
    · intro v; simp only [Act.put, List.setIfInBounds_toArray, List.set_cons_succ, List.set_cons_zero]; exact rfl
    · intro v; exact (rfl : _ = ([x15, x16, x17, x18, x19, x20, v] : List Value))
    intro x21
    apply Oy.walk_cons rfl
    · intro w1 hb hd K hK
      clear hd
      go_simp
      exact hK _ _ (Below.refl _ _) rfl
    · intro v; simp only [Act.put, List.setIfInBounds_toArray, List.set_cons_succ, List.set_cons_zero]; exact rfl
    · intro v; exact (rfl : _ = ([x15, x16, x17, x18, x19, x20, x21, v] : List Value))
    intro x22
    apply Oy.walk_cons rfl
    · intro w1 hb hd K hK
      have e22 : _ = x22 := Eq.symm (hd 7 (by kernel_rfl))
      subst e22
      clear hd
      have c_c1 := (hb.cell (cell_lt c1)).trans c1
      go_simp
      exact hK _ _ (Below.refl _ _) rfl
    · intro v; simp only [Act.put, List.setIfInBounds_toArray, List.set_cons_succ, List.set_cons_zero]; exact rfl
    · intro v; exact (rfl : _ = ([x15, x16, x17, x18, x19, x20, x21, x22, v] : List Value))
    intro x23
    apply Oy.walk_cons rfl
    · intro w1 hb hd K hK
      have h21 : (EmptyD) [] x21 w1 := hd 6 (by kernel_rfl)
      have e23 : _ = x23 := Eq.symm (hd 8 (by kernel_rfl))
      subst e23
      obtain ⟨g, rfl⟩ := h21
      clear hd
      refine step_append_empty rfl (.tmp 21) (.tmp 23) 39 rfl 54 ix _ 3 24 Tryz.underlying39 HX0.out HX1.out HX2.out HX3.out rfl (by decide) g (by simp [Act.eval]) _ xs.length (flatX xs) (by simp [Act.eval]) (HXR.out w1 (HW.out w1 hb)) (flatX_vals xs) (by unfold maxLen; omega) (by omega) ?_
      intro v' w' hb2 hin
      exact hK _ _ hb2 hin
    · intro v; simp only [Act.put, List.setIfInBounds_toArray, List.set_cons_succ, List.set_cons_zero]; exact rfl
    · intro v; exact (rfl : _ = ([x15, x16, x17, x18, x19, x20, x21, x22, x23, v] : List Value))
    intro x24
    apply Oy.walk_cons rfl
    · intro w1 hb hd K hK
      have h16 : (CopyR (ps.map Prod.fst)) [] x16 w1 := hd 1 (by kernel_rfl)
      have h20 : (VarsD vs) [] x20 w1 := hd 5 (by kernel_rfl)
      have h24 : (ValsD xs) [] x24 w1 := hd 9 (by kernel_rfl)
      obtain ⟨qs, hq1, hq2⟩ := h16
      clear hd
      go_simp
      refine (HDO0.out w1 qs _ _ _ hq1 hq2 h20 h24).mono ?_
      rintro e w2 ⟨v1, v2, v3, rfl, h1, h2⟩
      go_simp
      exact hK _ _ h2 ⟨v1, v2, v3, rfl, h1.low (by first | exact hb.size | (have := hb.size; simp at this ⊢; omega))⟩
    · intro v; simp only [Act.put, List.setIfInBounds_toArray, List.set_cons_succ, List.set_cons_zero]; exact rfl
    · intro v; exact (rfl : _ = ([x15, x16, x17, x18, x19, x20, x21, x22, x23, x24, v] : List Value))
    intro x25
    apply Oy.walk_cons rfl
    · intro w1 hb hd K hK
      have h25 : (DoR (wa.heap.size) D) [] x25 w1 := hd 10 (by kernel_rfl)
      clear hd
      go_simp
      exact hK _ _ (Below.refl _ _) ⟨rfl, h25⟩
    · intro v; simp only [Act.put, List.setIfInBounds_toArray, List.set_cons_succ, List.set_cons_zero]; exact rfl
    · intro v; exact (rfl : _ = ([x15, x16, x17, x18, x19, x20, x21, x22, x23, x24, x25, v] : List Value))
    intro x14
    apply Oy.walk_cons rfl
    · intro w1 hb hd K hK
      have h14 : (fun ps v w => ps = [v] ∧ DoR (wa.heap.size) D ps v w) [x25] x14 w1 := hd 11 (by kernel_rfl)
      obtain ⟨_, v1, v2, v3, rfl, _⟩ := h14
      clear hd
      go_simp
      exact hK _ _ (Below.refl _ _) ⟨v2, v3, _, rfl⟩
    · intro v; simp only [Act.put, List.setIfInBounds_toArray, List.set_cons_succ, List.set_cons_zero]; exact rfl
    · intro v; exact (rfl : _ = ([x15, x16, x17, x18, x19, x20, x21, x22, x23, x24, x25, x14, v] : List Value))
    intro x26
    apply Oy.walk_cons rfl
    · intro w1 hb hd K hK
      have h14 : (fun ps v w => ps = [v] ∧ DoR (wa.heap.size) D ps v w) [x25] x14 w1 := hd 11 (by kernel_rfl)
      obtain ⟨_, v1, v2, v3, rfl, _⟩ := h14
      clear hd
      go_simp
      exact hK _ _ (Below.refl _ _) ⟨v1, v3, _, rfl⟩
    · intro v; simp only [Act.put, List.setIfInBounds_toArray, List.set_cons_succ, List.set_cons_zero]; exact rfl
    · intro v; exact (rfl : _ = ([x15, x16, x17, x18, x19, x20, x21, x22, x23, x24, x25, x14, x26, v] : List Value))
    intro x27
    apply Oy.walk_cons rfl
    · intro w1 hb hd K hK
      have h14 : (fun ps v w => ps = [v] ∧ DoR (wa.heap.size) D ps v w) [x25] x14 w1 := hd 11 (by kernel_rfl)
      obtain ⟨_, v1, v2, v3, rfl, _⟩ := h14
      clear hd
      go_simp
      exact hK _ _ (Below.refl _ _) ⟨v1, v2, _, rfl⟩
    · intro v; simp only [Act.put, List.setIfInBounds_toArray, List.set_cons_succ, List.set_cons_zero]; exact rfl
    · intro v; exact (rfl : _ = ([x15, x16, x17, x18, x19, x20, x21, x22, x23, x24, x25, x14, x26, x27, v] : List Value))
    intro x28
    apply Oy.walk_cons rfl
    · intro w1 hb hd K hK
      have h14 : (fun ps v w => ps = [v] ∧ DoR (wa.heap.size) D ps v w) [x25] x14 w1 := hd 11 (by kernel_rfl)
      obtain ⟨_, v1, v2, v3, rfl, _⟩ := h14
      clear hd
      go_simp
      exact hK _ _ (Below.refl _ _) rfl
    · intro v; simp only [Act.put, List.setIfInBounds_toArray, List.set_cons_succ, List.set_cons_zero]; exact rfl
    · intro v; exact (rfl : _ = ([x15, x16, x17, x18, x19, x20, x21, x22, x23, x24, x25, x14, x26, x27, x28, v] : List Value))
    intro x29
    apply Oy.walk_cons rfl
    · intro w1 hb hd K hK
      have h26 : (Oy.comp0) [x14] x26 w1 := hd 12 (by kernel_rfl)
      clear hd
      go_simp
      exact hK _ _ (Below.refl _ _) rfl
    · intro v; simp only [Act.put, List.setIfInBounds_toArray, List.set_cons_succ, List.set_cons_zero]; exact rfl
    · intro v; exact (rfl : _ = ([x15, x16, x17, x18, x19, x20, x21, x22, x23, x24, x25, x14, x26, x27, x28, x29, v] : List Value))
    intro x5
    apply Oy.walk_cons rfl
    · intro w1 hb hd K hK
      have h27 : (Oy.comp1) [x14] x27 w1 := hd 13 (by kernel_rfl)
      clear hd
      go_simp
      exact hK _ _ (Below.refl _ _) rfl
    · intro v; simp only [Act.put, List.setIfInBounds_toArray, List.set_cons_succ, List.set_cons_zero]; exact rfl
    · intro v; exact (rfl : _ = ([x15, x16, x17, x18, x19, x20, x21, x22, x23, x24, x25, x14, x26, x27, x28, x29, x5, v] : List Value))
    intro x6
    apply Oy.walk_cons rfl
    · intro w1 hb hd K hK
      have h28 : (Oy.comp2) [x14] x28 w1 := hd 14 (by kernel_rfl)
      clear hd
      go_simp
      exact hK _ _ (Below.refl _ _) rfl
    · intro v; simp only [Act.put, List.setIfInBounds_toArray, List.set_cons_succ, List.set_cons_zero]; exact rfl
    · intro v; exact (rfl : _ = ([x15, x16, x17, x18, x19, x20, x21, x22, x23, x24, x25, x14, x26, x27, x28, x29, x5, x6, v] : List Value))
    intro x7
    apply Oy.walk_cons rfl
    · intro w1 hb hd K hK
      have e29 : _ = x29 := Eq.symm (hd 15 (by kernel_rfl))
      subst e29
      clear hd
      go_simp
      exact hK _ _ (Below.refl _ _) rfl
    · intro v; simp only [Act.put, List.setIfInBounds_toArray, List.set_cons_succ, List.set_cons_zero]; exact rfl
    · intro v; exact (rfl : _ = ([x15, x16, x17, x18, x19, x20, x21, x22, x23, x24, x25, x14, x26, x27, x28, x29, x5, x6, x7, v] : List Value))
    intro x8
    refine Oy.walk_nil rfl (fun w1 hb hd => ?_)
    have e15 : _ = x15 := Eq.symm (hd 0 (by kernel_rfl))
    subst e15
    have h16 : (CopyR (ps.map Prod.fst)) [] x16 w1 := hd 1 (by kernel_rfl)
    have h17 : (EmptyD) [] x17 w1 := hd 2 (by kernel_rfl)
    have e18 : _ = x18 := Eq.symm (hd 3 (by kernel_rfl))
    subst e18
    have e19 : _ = x19 := Eq.symm (hd 4 (by kernel_rfl))
    subst e19
    have h20 : (VarsD vs) [] x20 w1 := hd 5 (by kernel_rfl)
    have h21 : (EmptyD) [] x21 w1 := hd 6 (by kernel_rfl)
    have e22 : _ = x22 := Eq.symm (hd 7 (by kernel_rfl))
    subst e22
    have e23 : _ = x23 := Eq.symm (hd 8 (by kernel_rfl))
    subst e23
    have h24 : (ValsD xs) [] x24 w1 := hd 9 (by kernel_rfl)
    have h25 : (DoR (wa.heap.size) D) [] x25 w1 := hd 10 (by kernel_rfl)
    have h14 : (fun ps v w => ps = [v] ∧ DoR (wa.heap.size) D ps v w) [x25] x14 w1 := hd 11 (by kernel_rfl)
    have h26 : (Oy.comp0) [x14] x26 w1 := hd 12 (by kernel_rfl)
    have h27 : (Oy.comp1) [x14] x27 w1 := hd 13 (by kernel_rfl)
    have h28 : (Oy.comp2) [x14] x28 w1 := hd 14 (by kernel_rfl)
    have e29 : _ = x29 := Eq.symm (hd 15 (by kernel_rfl))
    subst e29
    have h5 : (Oy.sameD) [x26] x5 w1 := hd 16 (by kernel_rfl)
    have h6 : (Oy.sameD) [x27] x6 w1 := hd 17 (by kernel_rfl)
    have h7 : (Oy.sameD) [x28] x7 w1 := hd 18 (by kernel_rfl)
    have e8 : _ = x8 := Eq.symm (hd 19 (by kernel_rfl))
    subst e8
    clear hd
    obtain ⟨hmv, v1, v2, v3, he, hR⟩ := h14
    subst he
    obtain ⟨ta0, tb0, tc0, hx0⟩ := h26
    simp only [List.cons.injEq, Value.tuple.injEq, Array.mk.injEq, and_true] at hx0
    have hs0 := h5
    simp only [Oy.sameD, List.cons.injEq, and_true] at hs0
    obtain ⟨ta1, tb1, tc1, hx1⟩ := h27
    simp only [List.cons.injEq, Value.tuple.injEq, Array.mk.injEq, and_true] at hx1
    have hs1 := h6
    simp only [Oy.sameD, List.cons.injEq, and_true] at hs1
    obtain ⟨ta2, tb2, tc2, hx2⟩ := h28
    simp only [List.cons.injEq, Value.tuple.injEq, Array.mk.injEq, and_true] at hx2
    have hs2 := h7
    simp only [Oy.sameD, List.cons.injEq, and_true] at hs2
    obtain ⟨hx0, hx0r⟩ := hx0
    subst hx0
    subst hs0
    obtain ⟨hx1a, hx1, hx1r⟩ := hx1
    subst hx1
    subst hs1
    obtain ⟨hx2a, hx2b, hx2, hx2r⟩ := hx2
    subst hx2
    subst hs2
    clear hx0r hx1a hx1r hx2a hx2b hx2r hmv h5 h6 h7 h25
    obtain ⟨w3, hw3⟩ : ∃ W, W = w1 := ⟨_, rfl⟩
    subst hw3
    have HB3 : Hid (Below w.heap.size w w3) := HW.out w3 hb
    have b0 := (((Below.refl _ wa).drew.trans hb).cell (cell_lt c0)).trans c0
    have b1 := (((Below.refl _ wa).drew.trans hb).cell (cell_lt c1)).trans c1
    have HR3 := Lib.hid hR
    clear hR hb c0 c1
    go_simp
    obtain ⟨zs, dr, ds, dok⟩ := D
    simp only at hr hs hdl
    have HR3 : Hid (Rows3 wa.heap.size w3 v1 v2 v3 zs dr ds) := HR3
    go_wp2_with fail
    refine (HRD.out w3 HB3.out).mono ?_
    rintro e w4 ⟨u1, u2, u3, rfl, hR4, hb4⟩
    have HB4 := Lib.hid (HB3.out.trans (hb4.mono HB3.out.size))
    simp only at hR4
    obtain ⟨U1, e1, rfl⟩ := own_slice hR4.x
    obtain ⟨U2, e2, rfl⟩ := own_slice hR4.r
    obtain ⟨U3, e3, rfl⟩ := own_slice hR4.s
    obtain ⟨w5, hw5⟩ : ∃ W, W = w4.alloc (.cells #[.slice U1 zs.length e1, .slice U2 dr.length e2, .slice U3 ds.length e3, .bool dok] 46) := ⟨_, rfl⟩
    have hb45 : Below w4.heap.size w4 w5 := by rw [hw5]; exact (Below.refl _ _).alloc (Nat.le_refl _) _
    have HB5 := Lib.hid (HB4.out.trans (hb45.mono HB4.out.size))
    have p0 : w5.cell? ⟨w4.heap.size, 0, none⟩ = some (.slice U1 zs.length e1) := by rw [hw5]; simp
    have p1 : w5.cell? ⟨w4.heap.size, 1, none⟩ = some (.slice U2 dr.length e2) := by rw [hw5]; simp
    have p2 : w5.cell? ⟨w4.heap.size, 2, none⟩ = some (.slice U3 ds.length e3) := by rw [hw5]; simp
    have p3 : w5.cell? ⟨w4.heap.size, 3, none⟩ = some (.bool dok) := by rw [hw5]; simp
    have R4 := hR4.below hb45
    have R3 := HR3.out.below (hb4.trans (hb45.mono hb4.size))
    have hs1 := sameX_any v1 (.slice U1 zs.length e1) zs zs w5 (Inn.of_own R3.x) (Inn.of_own R4.x) (by omega)
    rw [decide_eq_true rfl] at hs1
    have HS1 := Lib.hid hs1
    have HS2 : Hid (∀ q, Calls Tryz.prog 22 #[v2, .slice U2 dr.length e2] (w5.drewN q) fun e w' => e = .returned (.bool true) ∧ ∃ n, w' = (w5.drewN q).drewN n) := fun q => by have h := same2_any v2 (.slice U2 dr.length e2) dr dr (w5.drewN q) (Inn.below (Inn.of_own R3.r) (below_drewN (Below.refl _ _) q)) (Inn.below (Inn.of_own R4.r) (below_drewN (Below.refl _ _) q)) (by omega); rw [decide_eq_true rfl] at h; exact h
    have HS3 : Hid (∀ q, Calls Tryz.prog 22 #[v3, .slice U3 ds.length e3] (w5.drewN q) fun e w' => e = .returned (.bool true) ∧ ∃ n, w' = (w5.drewN q).drewN n) := fun q => by have h := same2_any v3 (.slice U3 ds.length e3) ds ds (w5.drewN q) (Inn.below (Inn.of_own R3.s) (below_drewN (Below.refl _ _) q)) (Inn.below (Inn.of_own R4.s) (below_drewN (Below.refl _ _) q)) (by omega); rw [decide_eq_true rfl] at h; exact h
    have HW5 := Lib.hid hw5
    have hbb : (dok == dok) = true := by simp
    clear hR4 hb4 hb45 hs1 R3 R4 hw5 hr hs hdl
    go_wp2_with fail
    rw [← HW5.out]
    refine HS1.out.mono ?_
    rintro e w7 ⟨rfl, q1, rfl⟩
    go_wp2_with fail
    refine (HS2.out _).mono ?_
    rintro e w7 ⟨rfl, q2, rfl⟩
    rw [World.drewN_drewN]
    go_wp2_with fail
    refine (HS3.out _).mono ?_
    rintro e w7 ⟨rfl, q3, rfl⟩
    have HBF := Lib.hid (below_drewN HB5.out (q1 + q2 + q3))
    go_wp2
    go_ret
    exact ⟨rfl, HBF.out⟩
end Go.Proofs.YtjgfkmakfdepcaaGreatDoor
