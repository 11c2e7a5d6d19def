/- Own texts, joined: A14. -/
import Derived.Test.YtjjoffadieoaaaaGreatDoorZ27
namespace Go.Proofs.YtjjoffadieoaaaaGreatDoor
open Go.RowKit

theorem RdA.take {w : World} {A : Option Addr} {c : Nat} {ps : List AP} (h : RdA w (.slice A ps.length c) ps) {k : Nat} (hk : k ≤ ps.length) : RdA w (.slice A k c) (ps.take k) := by
  have hl : (ps.take k).length = k := by rw [List.length_take]; omega
  refine ⟨?_, fun p hp => h.acts p (List.mem_of_mem_take hp)⟩
  rw [hl]
  rcases h.inn with ⟨h1, h2, _⟩ | ⟨ad, c', h1, _, h3⟩
  · injection h1 with e1 e2 e3
    have : k = 0 := by omega
    subst this
    subst e1; subst e3
    exact Or.inl ⟨rfl, rfl, by simp [flatA]⟩
  · injection h1 with e1 e2 e3
    subst e1; subst e3
    refine Or.inr ⟨ad, c, rfl, by rw [flatA_length, hl], fun hk0 => ?_⟩
    obtain ⟨b, o, e, hb, hc⟩ := h3 (by omega)
    refine ⟨b, o, e, hb, fun j u hu => ?_⟩
    have : flatA ps = flatA (ps.take k) ++ flatA (ps.drop k) := by rw [← flatA_append, List.take_append_drop]
    have hj := (List.getElem?_eq_some_iff.1 hu).1
    exact hc j u (by rw [this, List.getElem?_append_left hj]; exact hu)
theorem RdA.drop {w : World} {A : Option Addr} {c : Nat} {ps : List AP} (h : RdA w (.slice A ps.length c) ps) {k : Nat} (hk : k ≤ ps.length) (hc : ps.length ≤ c) : RdA w (.slice (if c = k then A else A.map (fun a => a.add (k * 3))) (ps.length - k) (c - k)) (ps.drop k) := by
  have hl : (ps.drop k).length = ps.length - k := List.length_drop
  refine ⟨?_, fun p hp => h.acts p (List.mem_of_mem_drop hp)⟩
  rw [hl]
  by_cases hck : c = k
  · have h0 : ps.length - k = 0 := by omega
    rw [if_pos hck, h0]
    have hd : ps.drop k = [] := List.drop_of_length_le (by omega)
    rw [hd]
    rcases h.inn with ⟨h1, _, _⟩ | ⟨ad, c', h1, _, _⟩
    · injection h1 with e1 e2 e3
      subst e1
      exact Or.inl ⟨by congr 1; omega, rfl, rfl⟩
    · injection h1 with e1 e2 e3
      subst e1
      exact Or.inr ⟨ad, c - k, rfl, by simp [flatA], fun h => absurd h (by omega)⟩
  · rw [if_neg hck]
    rcases h.inn with ⟨h1, h2, _⟩ | ⟨ad, c', h1, _, h3⟩
    · injection h1 with e1 e2 e3
      omega
    · injection h1 with e1 e2 e3
      subst e1; subst e3
      refine Or.inr ⟨ad.add (k * 3), c - k, rfl, by rw [flatA_length, hl], fun hk0 => ?_⟩
      obtain ⟨b, o, e, hb, hcc⟩ := h3 (by omega)
      subst e
      refine ⟨b, o + k * 3, by rw [add_lit'], hb, fun j u hu => ?_⟩
      have : flatA ps = flatA (ps.take k) ++ flatA (ps.drop k) := by rw [← flatA_append, List.take_append_drop]
      have hlt : (flatA (ps.take k)).length = k * 3 := by rw [flatA_length, List.length_take]; congr 1; omega
      have := hcc (k * 3 + j) u (by rw [this, List.getElem?_append_right (by omega), hlt, Nat.add_sub_cancel_left]; exact hu)
      rw [← Nat.add_assoc] at this
      exact this
theorem parts_no {vs : List VM} {al : List AM} {xs : List VA} {k : Nat} (h : (doP vs (al.take k) xs [] []).ok = false) : doP vs al xs [] [] = doP vs (al.take k) xs [] [] := by
  have := do_parts (vs := vs) (al.take k) (al.drop k) xs [] []
  rw [List.take_append_drop, h] at this
  simpa using this
theorem parts_yes {vs : List VM} {al : List AM} {xs : List VA} {k : Nat} (h : (doP vs (al.take k) xs [] []).ok = true) :
    doP vs al xs [] [] = ⟨(doP vs (al.drop k) (doP vs (al.take k) xs [] []).xs [] []).xs, (doP vs (al.take k) xs [] []).r ++ (doP vs (al.drop k) (doP vs (al.take k) xs [] []).xs [] []).r, (doP vs (al.take k) xs [] []).s ++ (doP vs (al.drop k) (doP vs (al.take k) xs [] []).xs [] []).s, (doP vs (al.drop k) (doP vs (al.take k) xs [] []).xs [] []).ok⟩ := by
  have := do_parts (vs := vs) (al.take k) (al.drop k) xs [] []
  rw [List.take_append_drop, h, if_pos rfl] at this
  rw [this]
  exact do_acc _ _ _ _
theorem do_rs (vs : List VM) : ∀ (l : List AM) (xs : List VA) (r s : List (List UInt8)), (doP vs l xs r s).r.length ≤ r.length + l.length + 1 ∧ (doP vs l xs r s).s.length ≤ s.length + l.length
  | [], _, _, _ => by simp [doP]
  | a :: l, xs, r, s => by
    rw [doP_cons]
    simp only [List.length_cons]
    split
    · split
      · rename_i ys _; have := do_rs vs l ys r s; omega
      · simp only [List.length_append, List.length_singleton]; omega
    · split
      · have := do_rs vs l xs (r ++ [a.nm]) s; simp only [List.length_append, List.length_singleton] at this; omega
      · split
        · have := do_rs vs l xs r (s ++ [a.nm]); simp only [List.length_append, List.length_singleton] at this; omega
        · simp only [List.length_append, List.length_singleton]; omega
/-- a row that is older than another one's base stands elsewhere -/
theorem far_old {w w' : World} {B B' : Nat} {e e' : TypeId} {size size' n n' : Nat} {v v' : Value} {xs xs' : List Value} (h : w.ownsRow B e size v n xs) (h' : w'.ownsRow B' e' size' v' n' xs') (hB : w.heap.size ≤ B') : ∀ g, v'.ownBlock = some g → v.ownBlock ≠ some g := by
  intro g h1 h2
  have := (h.lt g h2).2
  have := (h'.lt g h1).1
  omega
def ActsIn (ps : List AP) : Oy.RelD := fun _ v w => RdA w v ps
theorem keeps_actsIn (ps : List AP) : Oy.KeepsD (ActsIn ps) := fun _ _ _ _ h hb => RdA.below h hb

set_option maxRecDepth 100000 in
set_option maxHeartbeats 16000000 in
theorem actsParts_law (vl vv xv : Value) (ps : List AP) (vs : List VM) (xs : List VA) (i : Int) (w : World) (hA : RdA w vl ps) (hpl : ps.length * 48 ≤ 140737488355328) (hcap : ∀ A m c, vl = .slice A m c → m ≤ c) (hV : RdV w vv vs) (hvl : vs.length * 64 ≤ 140737488355328) (hX : RdX w xv xs) (hxl : xs.length * 24 ≤ 140737488355328) (hi : ∀ x ∈ xs, inL x.a = true) (hO : Ops w) (hM : ML w) :
    Calls Tryz.prog 7 #[vl, .agg #[vv, xv], .int .i64 i] w fun e w' => e = .returned (.bool true) ∧ Below w.heap.size w w' := by
  have HWK : Hid (∀ W, Below w.heap.size w W → Calls Tryz.prog 12 #[] W fun e w' => e = .returned (.bool true) ∧ Below W.heap.size W w') := fun W hb => wakes6_any W (hO.below hb) (hM.below hb)
  have hcp := fun (qs : List AP) (v : Value) (W : World) (h : RdA W v qs) (hl : qs.length ≤ ps.length) => copied6_any v qs W h (by omega)
  have hdo := fun (al : List AM) (zs : List VA) (hz : zs.length = xs.length) (hzi : ∀ x ∈ zs, inL x.a = true) (hal : al.length ≤ ps.length) W (hb : Below w.heap.size w W) (qs : List AP) (v x : Value) (h1 : qs.map Prod.fst = al) (h2 : RdA W v qs) (h3 : RdX W x zs) => (show Calls Tryz.prog 19 #[v, vv, x] W (DoPost (doP vs al zs [] []) W) from by
    have hq : qs.length = al.length := by have := congrArg List.length h1; simpa using this
    rw [← h1]
    exact do_any v vv x qs vs zs W h2 (by omega) (hV.below hb) hvl h3 (by omega) hzi)
  have HXR : Hid (∀ W, Below w.heap.size w W → RdX W xv xs) := fun W hb => hX.below hb
  obtain ⟨P, pc, rfl⟩ := hA.form
  obtain ⟨V, vc, rfl⟩ := hV.form
  obtain ⟨X, xc, rfl⟩ := RdX.form hX
  have hpc : ps.length ≤ pc := hcap _ _ _ rfl
  have HAR : Hid (∀ W, Below w.heap.size w W → RdA W (.slice P ps.length pc) ps) := fun W hb => hA.below hb
  have HLG : Hid (∀ W, Calls Tryz.prog 18 #[.slice P ps.length pc] W fun e w' => e = .returned (.bool (decide (100 < ps.length))) ∧ w' = W) := fun W => long_any P ps.length pc W (by omega)
  obtain ⟨is, hs0, hs1, hs2, hs3⟩ := info_of infoStrS
  have HS0 := Lib.hid hs0; have HS1 := Lib.hid hs1; have HS2 := Lib.hid hs2; have HS3 := Lib.hid hs3
  have HB0 : Hid (Below w.heap.size w (w.alloc (.cells #[.slice V vs.length vc, .slice X xs.length xc] 41))) := (Below.refl _ _).alloc (Nat.le_refl _) _
  have hd0 : (w.alloc (.cells #[.slice V vs.length vc, .slice X xs.length xc] 41)).cell? ⟨w.heap.size, 0, none⟩ = some (.slice V vs.length vc) := by simp
  have hd1 : (w.alloc (.cells #[.slice V vs.length vc, .slice X xs.length xc] 41)).cell? ⟨w.heap.size, 1, none⟩ = some (.slice X xs.length xc) := by simp
  obtain ⟨wb, hwb⟩ : ∃ W, W = w.alloc (.cells #[.slice V vs.length vc, .slice X xs.length xc] 41) := ⟨_, rfl⟩
  rw [← hwb] at HB0 hd0 hd1
  have HE := Lib.hid hwb
  clear hs0 hs1 hs2 hs3 hA hV hX hO hM hwb hcap
  by_cases hlong : 100 < ps.length
  · rw [decide_eq_true hlong] at HLG
    clear hcp hdo hi hpc hpl hlong
    skip
    go_enter Tryz.func7, Tryz.ntmps7
    go_wp2_with fail
    rw [← HE.out]
    refine (HWK.out _ HB0.out).mono ?_
    rintro e w1 ⟨rfl, hb1⟩
    have HB1 := Lib.hid (HB0.out.trans (hb1.mono HB0.out.size)); clear hb1
    go_wp2_with fail
    refine (HLG.out _).mono ?_
    rintro e w2 ⟨rfl, hw2⟩
    obtain rfl := hw2.symm
    go_wp2
    go_ret
    exact ⟨rfl, HB1.out⟩
  rw [decide_eq_false hlong] at HLG
  by_cases hneg : i < 0
  · clear hcp hdo hi hpc hpl hlong
    skip
    go_enter Tryz.func7, Tryz.ntmps7
    go_wp2_with fail
    rw [← HE.out]
    refine (HWK.out _ HB0.out).mono ?_
    rintro e w1 ⟨rfl, hb1⟩
    have HB1 := Lib.hid (HB0.out.trans (hb1.mono HB0.out.size)); clear hb1
    go_wp2_with fail
    refine (HLG.out _).mono ?_
    rintro e w2 ⟨rfl, hw2⟩
    obtain rfl := hw2.symm
    go_wp2
    go_ret
    exact ⟨rfl, HB1.out⟩
  by_cases hbig : (ps.length : Int) < i
  · clear hcp hdo hi hpc hpl hlong
    skip
    go_enter Tryz.func7, Tryz.ntmps7
    go_wp2_with fail
    rw [← HE.out]
    refine (HWK.out _ HB0.out).mono ?_
    rintro e w1 ⟨rfl, hb1⟩
    have HB1 := Lib.hid (HB0.out.trans (hb1.mono HB0.out.size)); clear hb1
    go_wp2_with fail
    refine (HLG.out _).mono ?_
    rintro e w2 ⟨rfl, hw2⟩
    obtain rfl := hw2.symm
    go_wp2
    go_ret
    exact ⟨rfl, HB1.out⟩
  obtain ⟨k, rfl⟩ : ∃ k : Nat, i = (k : Int) := ⟨i.toNat, by omega⟩
  have hkn : k ≤ ps.length := by omega
  have hlt0 : decide ((k : Int) < 0) = false := decide_eq_false (by omega)
  have hgt0 : decide (ps.length < k) = false := decide_eq_false (by omega)
  have hgt1 : decide ((ps.length : Int) < (k : Int)) = false := decide_eq_false (by omega)
  have hkpc : k ≤ pc := by omega
  have HTK : Hid (∀ W, Below w.heap.size w W → RdA W (.slice P k pc) (ps.take k)) := fun W hb => (HAR.out W hb).take hkn
  have HDR : Hid (∀ W, Below w.heap.size w W → RdA W (.slice (if pc = k then P else P.map (fun a => a.add (k * 3))) (ps.length - k) (pc - k)) (ps.drop k)) := fun W hb => (HAR.out W hb).drop hkn hpc
  have HCP0 : Hid (∀ W, Below w.heap.size w W → Calls Tryz.prog 10 #[.slice P ps.length pc] W (CopyPost ps W)) := fun W hb => hcp ps _ W (HAR.out W hb) (Nat.le_refl _)
  have HCP1 : Hid (∀ W v, RdA W v (ps.take k) → Calls Tryz.prog 10 #[v] W (CopyPost (ps.take k) W)) := fun W v h => hcp _ v W h (by rw [List.length_take]; omega)
  have HCP2 : Hid (∀ W v, RdA W v (ps.drop k) → Calls Tryz.prog 10 #[v] W (CopyPost (ps.drop k) W)) := fun W v h => hcp _ v W h (by rw [List.length_drop]; omega)
  have hb0 := do_rs vs (ps.map Prod.fst) xs [] []
  have hb1 := do_rs vs ((ps.take k).map Prod.fst) xs [] []
  have hno := parts_no (vs := vs) (al := ps.map Prod.fst) (xs := xs) (k := k)
  have hyes := parts_yes (vs := vs) (al := ps.map Prod.fst) (xs := xs) (k := k)
  rw [← List.map_take, ← List.map_drop] at hyes
  rw [← List.map_take] at hno
  have HDO0 : Hid (∀ W, Below w.heap.size w W → ∀ (qs : List AP) (v x : Value), qs.map Prod.fst = ps.map Prod.fst → RdA W v qs → RdX W x xs → Calls Tryz.prog 19 #[v, .slice V vs.length vc, x] W (DoPost (doP vs (ps.map Prod.fst) xs [] []) W)) := fun W hb qs v x h1 h2 h3 => hdo (ps.map Prod.fst) xs rfl hi (by simp) W hb qs v x h1 h2 h3
  have HDO1 : Hid (∀ W, Below w.heap.size w W → ∀ (qs : List AP) (v x : Value), qs.map Prod.fst = (ps.take k).map Prod.fst → RdA W v qs → RdX W x xs → Calls Tryz.prog 19 #[v, .slice V vs.length vc, x] W (DoPost (doP vs ((ps.take k).map Prod.fst) xs [] []) W)) := fun W hb qs v x h1 h2 h3 => hdo ((ps.take k).map Prod.fst) xs rfl hi (by rw [List.length_map, List.length_take]; omega) W hb qs v x h1 h2 h3
  have hdo2 := hdo ((ps.drop k).map Prod.fst) (doP vs ((ps.take k).map Prod.fst) xs [] []).xs (do_len _ _ _ _) (do_in _ _ _ _ hi) (by rw [List.length_map, List.length_drop]; omega)
  have hb2 := do_rs vs ((ps.drop k).map Prod.fst) (doP vs ((ps.take k).map Prod.fst) xs [] []).xs [] []
  have hz0 := do_len (vs := vs) (ps.map Prod.fst) xs [] []
  have hz1 := do_len (vs := vs) ((ps.take k).map Prod.fst) xs [] []
  have hz2 := do_len (vs := vs) ((ps.drop k).map Prod.fst) (doP vs ((ps.take k).map Prod.fst) xs [] []).xs [] []
  have hlt : ((ps.take k).map Prod.fst).length ≤ 100 := by rw [List.length_map, List.length_take]; omega
  have hld : ((ps.drop k).map Prod.fst).length ≤ 100 := by rw [List.length_map, List.length_drop]; omega
  have hlp : (ps.map Prod.fst).length ≤ 100 := by rw [List.length_map]; omega
  generalize doP vs ((ps.drop k).map Prod.fst) (doP vs ((ps.take k).map Prod.fst) xs [] []).xs [] [] = d2 at *
  generalize hd1' : doP vs ((ps.take k).map Prod.fst) xs [] [] = d1 at *
  generalize hdd : doP vs (ps.map Prod.fst) xs [] [] = d at *
  have HD2 : Hid (∀ W, Below w.heap.size w W → ∀ (qs : List AP) (v x : Value), qs.map Prod.fst = (ps.drop k).map Prod.fst → RdA W v qs → RdX W x d1.xs → Calls Tryz.prog 19 #[v, .slice V vs.length vc, x] W (DoPost d2 W)) := hdo2
  have hdi : Hid (d.xs.length = xs.length ∧ d1.xs.length = xs.length ∧ d2.xs.length = d1.xs.length) := ⟨hz0, hz1, hz2⟩
  obtain ⟨zs, dr, ds, dok⟩ := d
  obtain ⟨ys, er, es, eok⟩ := d1
  obtain ⟨us, fr, fs, fok⟩ := d2
  simp only [List.length_nil] at hb0 hb1 hb2 hno hyes
  clear hdo hdo2 hcp hz0 hz1 hz2 hd1' hdd hi hpc hneg hbig hlong
  go_enter Tryz.func7, Tryz.ntmps7
  go_wp2_with fail
  rw [← HE.out]
  refine (HWK.out _ HB0.out).mono ?_
  rintro e wa ⟨rfl, hb1'⟩
  have HB1 := Lib.hid (HB0.out.trans (hb1'.mono HB0.out.size))
  have c0 := (hb1'.cell (cell_lt hd0)).trans hd0
  have c1 := (hb1'.cell (cell_lt hd1)).trans hd1
  clear hb1' hd0 hd1
  go_wp2_with fail
  refine (HLG.out _).mono ?_
  rintro e w2 ⟨rfl, hw2⟩
  obtain rfl := hw2.symm
  clear hw2
  go_wp2_with fail
  have HW : Hid (∀ w3, Below wa.heap.size wa.drew w3 → Below w.heap.size w w3) := fun w3 hb => HB1.out.trans (((Below.refl _ _).drew.trans hb).mono HB1.out.size)
  refine Oy.region_quiet 99 [Oy.eqD (.slice P ps.length pc), CopyR (ps.map Prod.fst), Oy.eqD (.pointer (some ⟨w.heap.size, 0, none⟩)), Oy.eqD (.slice V vs.length vc), Oy.eqD (.pointer (some ⟨w.heap.size, 1, none⟩)), Oy.eqD (.slice X xs.length xc), DoR (wa.heap.size) (⟨zs, dr, ds, dok⟩ : DM), fun ps v w => ps = [v] ∧ DoR (wa.heap.size) (⟨zs, dr, ds, dok⟩ : DM) ps v w, Oy.comp0, Oy.comp1, Oy.comp2, Oy.eqD (.bool (⟨zs, dr, ds, dok⟩ : DM).ok), Oy.sameD, Oy.sameD, Oy.sameD, Oy.eqD (.bool (⟨zs, dr, ds, dok⟩ : DM).ok)] [[], [], [], [], [], [], [], [6], [7], [7], [7], [], [8], [9], [10], []] (by kernel_rfl) rfl (by kernel_rfl) (by kernel_rfl) ⟨Oy.keeps_eq _, keeps_copy _, Oy.keeps_eq _, Oy.keeps_eq _, Oy.keeps_eq _, Oy.keeps_eq _, keeps_do _ _, keeps_mv _ _, Oy.keeps_pure _, Oy.keeps_pure _, Oy.keeps_pure _, Oy.keeps_eq _, Oy.keeps_pure _, Oy.keeps_pure _, Oy.keeps_pure _, Oy.keeps_eq _, trivial⟩ ?_
  apply Oy.walk_cons rfl
  · intro w1 hb hd K hK
    clear hd
    go_simp
    exact hK _ _ (Below.refl _ _) rfl
  · intro v; simp only [Act.put, List.setIfInBounds_toArray, List.set_cons_succ, List.set_cons_zero]; exact rfl
  · intro v; exact (rfl : _ = ([v] : List Value))
  intro x34
  apply Oy.walk_cons rfl
  · intro w1 hb hd K hK
    have e34 : _ = x34 := Eq.symm (hd 0 (by kernel_rfl))
    subst e34
    clear hd
    go_simp
    refine (HCP0.out w1 (HW.out w1 hb)).mono ?_
    rintro e w2 ⟨v, qs, rfl, h1, h2, h3, h4⟩
    go_simp
    exact hK _ _ h4 ⟨qs, h1, ⟨Inn.of_own h2, h3⟩⟩
  · intro v; simp only [Act.put, List.setIfInBounds_toArray, List.set_cons_succ, List.set_cons_zero]; exact rfl
  · intro v; exact (rfl : _ = ([x34, v] : List Value))
  intro x35
  apply Oy.walk_cons rfl
  · intro w1 hb hd K hK
    clear hd
    go_simp
    exact hK _ _ (Below.refl _ _) rfl
  · intro v; simp only [Act.put, List.setIfInBounds_toArray, List.set_cons_succ, List.set_cons_zero]; exact rfl
  · intro v; exact (rfl : _ = ([x34, x35, v] : List Value))
  intro x36
  apply Oy.walk_cons rfl
  · intro w1 hb hd K hK
    have e36 : _ = x36 := Eq.symm (hd 2 (by kernel_rfl))
    subst e36
    clear hd
    have c_c0 := (hb.cell (cell_lt c0)).trans c0
    go_simp
    exact hK _ _ (Below.refl _ _) rfl
  · intro v; simp only [Act.put, List.setIfInBounds_toArray, List.set_cons_succ, List.set_cons_zero]; exact rfl
  · intro v; exact (rfl : _ = ([x34, x35, x36, v] : List Value))
  intro x37
  apply Oy.walk_cons rfl
  · intro w1 hb hd K hK
    clear hd
    go_simp
    exact hK _ _ (Below.refl _ _) rfl
  · intro v; simp only [Act.put, List.setIfInBounds_toArray, List.set_cons_succ, List.set_cons_zero]; exact rfl
  · intro v; exact (rfl : _ = ([x34, x35, x36, x37, v] : List Value))
  intro x38
  apply Oy.walk_cons rfl
  · intro w1 hb hd K hK
    have e38 : _ = x38 := Eq.symm (hd 4 (by kernel_rfl))
    subst e38
    clear hd
    have c_c1 := (hb.cell (cell_lt c1)).trans c1
    go_simp
    exact hK _ _ (Below.refl _ _) rfl
  · intro v; simp only [Act.put, List.setIfInBounds_toArray, List.set_cons_succ, List.set_cons_zero]; exact rfl
  · intro v; exact (rfl : _ = ([x34, x35, x36, x37, x38, v] : List Value))
  intro x39
  apply Oy.walk_cons rfl
  · intro w1 hb hd K hK
    have h35 : (CopyR (ps.map Prod.fst)) [] x35 w1 := hd 1 (by kernel_rfl)
    have e37 : _ = x37 := Eq.symm (hd 3 (by kernel_rfl))
    subst e37
    have e39 : _ = x39 := Eq.symm (hd 5 (by kernel_rfl))
    subst e39
    obtain ⟨qs, hq1, hq2⟩ := h35
    clear hd
    go_simp
    refine (HDO0.out w1 (HW.out w1 hb) qs _ _ hq1 hq2 (HXR.out w1 (HW.out w1 hb))).mono ?_
    rintro e w2 ⟨v1, v2, v3, rfl, h1, h2⟩
    go_simp
    exact hK _ _ h2 ⟨v1, v2, v3, rfl, h1.low (by first | exact hb.size | (have := hb.size; simp at this ⊢; omega))⟩
  · intro v; simp only [Act.put, List.setIfInBounds_toArray, List.set_cons_succ, List.set_cons_zero]; exact rfl
  · intro v; exact (rfl : _ = ([x34, x35, x36, x37, x38, x39, v] : List Value))
  intro x40
  apply Oy.walk_cons rfl
  · intro w1 hb hd K hK
    have h40 : (DoR (wa.heap.size) (⟨zs, dr, ds, dok⟩ : DM)) [] x40 w1 := hd 6 (by kernel_rfl)
    clear hd
    go_simp
    exact hK _ _ (Below.refl _ _) ⟨rfl, h40⟩
  · intro v; simp only [Act.put, List.setIfInBounds_toArray, List.set_cons_succ, List.set_cons_zero]; exact rfl
  · intro v; exact (rfl : _ = ([x34, x35, x36, x37, x38, x39, x40, v] : List Value))
  intro x33
  apply Oy.walk_cons rfl
  · intro w1 hb hd K hK
    have h33 : (fun ps v w => ps = [v] ∧ DoR (wa.heap.size) (⟨zs, dr, ds, dok⟩ : DM) ps v w) [x40] x33 w1 := hd 7 (by kernel_rfl)
    obtain ⟨_, v1, v2, v3, rfl, _⟩ := h33
    clear hd
    go_simp
    exact hK _ _ (Below.refl _ _) ⟨v2, v3, _, rfl⟩
  · intro v; simp only [Act.put, List.setIfInBounds_toArray, List.set_cons_succ, List.set_cons_zero]; exact rfl
  · intro v; exact (rfl : _ = ([x34, x35, x36, x37, x38, x39, x40, x33, v] : List Value))
  intro x41
  apply Oy.walk_cons rfl
  · intro w1 hb hd K hK
    have h33 : (fun ps v w => ps = [v] ∧ DoR (wa.heap.size) (⟨zs, dr, ds, dok⟩ : DM) ps v w) [x40] x33 w1 := hd 7 (by kernel_rfl)
    obtain ⟨_, v1, v2, v3, rfl, _⟩ := h33
    clear hd
    go_simp
    exact hK _ _ (Below.refl _ _) ⟨v1, v3, _, rfl⟩
  · intro v; simp only [Act.put, List.setIfInBounds_toArray, List.set_cons_succ, List.set_cons_zero]; exact rfl
  · intro v; exact (rfl : _ = ([x34, x35, x36, x37, x38, x39, x40, x33, x41, v] : List Value))
  intro x42
  apply Oy.walk_cons rfl
  · intro w1 hb hd K hK
    have h33 : (fun ps v w => ps = [v] ∧ DoR (wa.heap.size) (⟨zs, dr, ds, dok⟩ : DM) ps v w) [x40] x33 w1 := hd 7 (by kernel_rfl)
    obtain ⟨_, v1, v2, v3, rfl, _⟩ := h33
    clear hd
    go_simp
    exact hK _ _ (Below.refl _ _) ⟨v1, v2, _, rfl⟩
  · intro v; simp only [Act.put, List.setIfInBounds_toArray, List.set_cons_succ, List.set_cons_zero]; exact rfl
  · intro v; exact (rfl : _ = ([x34, x35, x36, x37, x38, x39, x40, x33, x41, x42, v] : List Value))
  intro x43
  apply Oy.walk_cons rfl
  · intro w1 hb hd K hK
    have h33 : (fun ps v w => ps = [v] ∧ DoR (wa.heap.size) (⟨zs, dr, ds, dok⟩ : DM) ps v w) [x40] x33 w1 := hd 7 (by kernel_rfl)
    obtain ⟨_, v1, v2, v3, rfl, _⟩ := h33
    clear hd
    go_simp
    exact hK _ _ (Below.refl _ _) rfl
  · intro v; simp only [Act.put, List.setIfInBounds_toArray, List.set_cons_succ, List.set_cons_zero]; exact rfl
  · intro v; exact (rfl : _ = ([x34, x35, x36, x37, x38, x39, x40, x33, x41, x42, x43, v] : List Value))
  intro x44
  apply Oy.walk_cons rfl
  · intro w1 hb hd K hK
    have h41 : (Oy.comp0) [x33] x41 w1 := hd 8 (by kernel_rfl)
    clear hd
    go_simp
    exact hK _ _ (Below.refl _ _) rfl
  · intro v; simp only [Act.put, List.setIfInBounds_toArray, List.set_cons_succ, List.set_cons_zero]; exact rfl
  · intro v; exact (rfl : _ = ([x34, x35, x36, x37, x38, x39, x40, x33, x41, x42, x43, x44, v] : List Value))
  intro x7
  apply Oy.walk_cons rfl
  · intro w1 hb hd K hK
    have h42 : (Oy.comp1) [x33] x42 w1 := hd 9 (by kernel_rfl)
    clear hd
    go_simp
    exact hK _ _ (Below.refl _ _) rfl
  · intro v; simp only [Act.put, List.setIfInBounds_toArray, List.set_cons_succ, List.set_cons_zero]; exact rfl
  · intro v; exact (rfl : _ = ([x34, x35, x36, x37, x38, x39, x40, x33, x41, x42, x43, x44, x7, v] : List Value))
  intro x8
  apply Oy.walk_cons rfl
  · intro w1 hb hd K hK
    have h43 : (Oy.comp2) [x33] x43 w1 := hd 10 (by kernel_rfl)
    clear hd
    go_simp
    exact hK _ _ (Below.refl _ _) rfl
  · intro v; simp only [Act.put, List.setIfInBounds_toArray, List.set_cons_succ, List.set_cons_zero]; exact rfl
  · intro v; exact (rfl : _ = ([x34, x35, x36, x37, x38, x39, x40, x33, x41, x42, x43, x44, x7, x8, v] : List Value))
  intro x9
  apply Oy.walk_cons rfl
  · intro w1 hb hd K hK
    have e44 : _ = x44 := Eq.symm (hd 11 (by kernel_rfl))
    subst e44
    clear hd
    go_simp
    exact hK _ _ (Below.refl _ _) rfl
  · intro v; simp only [Act.put, List.setIfInBounds_toArray, List.set_cons_succ, List.set_cons_zero]; exact rfl
  · intro v; exact (rfl : _ = ([x34, x35, x36, x37, x38, x39, x40, x33, x41, x42, x43, x44, x7, x8, x9, v] : List Value))
  intro x10
  refine Oy.walk_nil rfl (fun w1 hb hd => ?_)
  have e34 : _ = x34 := Eq.symm (hd 0 (by kernel_rfl))
  subst e34
  have h35 : (CopyR (ps.map Prod.fst)) [] x35 w1 := hd 1 (by kernel_rfl)
  have e36 : _ = x36 := Eq.symm (hd 2 (by kernel_rfl))
  subst e36
  have e37 : _ = x37 := Eq.symm (hd 3 (by kernel_rfl))
  subst e37
  have e38 : _ = x38 := Eq.symm (hd 4 (by kernel_rfl))
  subst e38
  have e39 : _ = x39 := Eq.symm (hd 5 (by kernel_rfl))
  subst e39
  have h40 : (DoR (wa.heap.size) (⟨zs, dr, ds, dok⟩ : DM)) [] x40 w1 := hd 6 (by kernel_rfl)
  have h33 : (fun ps v w => ps = [v] ∧ DoR (wa.heap.size) (⟨zs, dr, ds, dok⟩ : DM) ps v w) [x40] x33 w1 := hd 7 (by kernel_rfl)
  have h41 : (Oy.comp0) [x33] x41 w1 := hd 8 (by kernel_rfl)
  have h42 : (Oy.comp1) [x33] x42 w1 := hd 9 (by kernel_rfl)
  have h43 : (Oy.comp2) [x33] x43 w1 := hd 10 (by kernel_rfl)
  have e44 : _ = x44 := Eq.symm (hd 11 (by kernel_rfl))
  subst e44
  have h7 : (Oy.sameD) [x41] x7 w1 := hd 12 (by kernel_rfl)
  have h8 : (Oy.sameD) [x42] x8 w1 := hd 13 (by kernel_rfl)
  have h9 : (Oy.sameD) [x43] x9 w1 := hd 14 (by kernel_rfl)
  have e10 : _ = x10 := Eq.symm (hd 15 (by kernel_rfl))
  subst e10
  clear hd
  obtain ⟨hmv, v1, v2, v3, he, R5⟩ := h33
  subst he
  obtain ⟨ta0, tb0, tc0, hx0⟩ := h41
  simp only [List.cons.injEq, Value.tuple.injEq, Array.mk.injEq, and_true] at hx0
  have hs0 := h7
  simp only [Oy.sameD, List.cons.injEq, and_true] at hs0
  obtain ⟨ta1, tb1, tc1, hx1⟩ := h42
  simp only [List.cons.injEq, Value.tuple.injEq, Array.mk.injEq, and_true] at hx1
  have hs1 := h8
  simp only [Oy.sameD, List.cons.injEq, and_true] at hs1
  obtain ⟨ta2, tb2, tc2, hx2⟩ := h43
  simp only [List.cons.injEq, Value.tuple.injEq, Array.mk.injEq, and_true] at hx2
  have hs2 := h9
  simp only [Oy.sameD, List.cons.injEq, and_true] at hs2
  obtain ⟨hx0, hx0r⟩ := hx0
  subst hx0
  subst hs0
  obtain ⟨hx1a, hx1, hx1r⟩ := hx1
  subst hx1
  subst hs1
  obtain ⟨hx2a, hx2b, hx2, hx2r⟩ := hx2
  subst hx2
  subst hs2
  clear hx0r hx1a hx1r hx2a hx2b hx2r hmv h7 h8 h9 h40
  obtain ⟨w3, hww3⟩ : ∃ W, W = w1 := ⟨_, rfl⟩
  subst hww3
  have HB3 : Hid (Below w.heap.size w w3) := HW.out w3 hb
  replace c0 := (hb.cell (cell_lt c0)).trans c0
  replace c1 := (hb.cell (cell_lt c1)).trans c1
  simp only at R5
  replace R5 := Lib.hid R5
  clear h35 hb HW
  go_simp
  go_wp2_with fail
  have HW : Hid (∀ w4, Below w3.heap.size w3.drew w4 → Below w.heap.size w w4) := fun w4 hb => HB3.out.trans (((Below.refl _ _).drew.trans hb).mono HB3.out.size)
  refine Oy.region_quiet 99 [Oy.eqD (.slice P ps.length pc), Oy.eqD (.int .i64 (k : Int)), ActsIn (ps.take k), CopyR ((ps.take k).map Prod.fst), Oy.eqD (.pointer (some ⟨w.heap.size, 0, none⟩)), Oy.eqD (.slice V vs.length vc), Oy.eqD (.pointer (some ⟨w.heap.size, 1, none⟩)), Oy.eqD (.slice X xs.length xc), DoR (w3.heap.size) (⟨ys, er, es, eok⟩ : DM), fun ps v w => ps = [v] ∧ DoR (w3.heap.size) (⟨ys, er, es, eok⟩ : DM) ps v w, Oy.comp0, Oy.comp1, Oy.comp2, Oy.eqD (.bool (⟨ys, er, es, eok⟩ : DM).ok), Oy.sameD, Oy.sameD, Oy.sameD, Oy.eqD (.bool (⟨ys, er, es, eok⟩ : DM).ok)] [[], [], [], [], [], [], [], [], [], [8], [9], [9], [9], [], [10], [11], [12], []] (by kernel_rfl) rfl (by kernel_rfl) (by kernel_rfl) ⟨Oy.keeps_eq _, Oy.keeps_eq _, keeps_actsIn _, keeps_copy _, Oy.keeps_eq _, Oy.keeps_eq _, Oy.keeps_eq _, Oy.keeps_eq _, keeps_do _ _, keeps_mv _ _, Oy.keeps_pure _, Oy.keeps_pure _, Oy.keeps_pure _, Oy.keeps_eq _, Oy.keeps_pure _, Oy.keeps_pure _, Oy.keeps_pure _, Oy.keeps_eq _, trivial⟩ ?_
  apply Oy.walk_cons rfl
  · intro w1 hb hd K hK
    clear hd
    go_simp
    exact hK _ _ (Below.refl _ _) rfl
  · intro v; simp only [Act.put, List.setIfInBounds_toArray, List.set_cons_succ, List.set_cons_zero]; exact rfl
  · intro v; exact (rfl : _ = ([v] : List Value))
  intro x46
  apply Oy.walk_cons rfl
  · intro w1 hb hd K hK
    clear hd
    go_simp
    exact hK _ _ (Below.refl _ _) rfl
  · intro v; simp only [Act.put, List.setIfInBounds_toArray, List.set_cons_succ, List.set_cons_zero]; exact rfl
  · intro v; exact (rfl : _ = ([x46, v] : List Value))
  intro x47
  apply Oy.walk_cons rfl
  · intro w1 hb hd K hK
    have e46 : _ = x46 := Eq.symm (hd 0 (by kernel_rfl))
    subst e46
    have e47 : _ = x47 := Eq.symm (hd 1 (by kernel_rfl))
    subst e47
    clear hd
    go_simp
    exact hK _ _ (Below.refl _ _) (HTK.out w1 (HW.out w1 hb))
  · intro v; simp only [Act.put, List.setIfInBounds_toArray, List.set_cons_succ, List.set_cons_zero]; exact rfl
  · intro v; exact (rfl : _ = ([x46, x47, v] : List Value))
  intro x48
  apply Oy.walk_cons rfl
  · intro w1 hb hd K hK
    have h48 : (ActsIn (ps.take k)) [] x48 w1 := hd 2 (by kernel_rfl)
    clear hd
    go_simp
    refine (HCP1.out w1 _ h48).mono ?_
    rintro e w2 ⟨v, qs, rfl, h1, h2, h3, h4⟩
    go_simp
    exact hK _ _ h4 ⟨qs, h1, ⟨Inn.of_own h2, h3⟩⟩
  · intro v; simp only [Act.put, List.setIfInBounds_toArray, List.set_cons_succ, List.set_cons_zero]; exact rfl
  · intro v; exact (rfl : _ = ([x46, x47, x48, v] : List Value))
  intro x49
  apply Oy.walk_cons rfl
  · intro w1 hb hd K hK
    clear hd
    go_simp
    exact hK _ _ (Below.refl _ _) rfl
  · intro v; simp only [Act.put, List.setIfInBounds_toArray, List.set_cons_succ, List.set_cons_zero]; exact rfl
  · intro v; exact (rfl : _ = ([x46, x47, x48, x49, v] : List Value))
  intro x50
  apply Oy.walk_cons rfl
  · intro w1 hb hd K hK
    have e50 : _ = x50 := Eq.symm (hd 4 (by kernel_rfl))
    subst e50
    clear hd
    have c_c0 := (hb.cell (cell_lt c0)).trans c0
    go_simp
    exact hK _ _ (Below.refl _ _) rfl
  · intro v; simp only [Act.put, List.setIfInBounds_toArray, List.set_cons_succ, List.set_cons_zero]; exact rfl
  · intro v; exact (rfl : _ = ([x46, x47, x48, x49, x50, v] : List Value))
  intro x51
  apply Oy.walk_cons rfl
  · intro w1 hb hd K hK
    clear hd
    go_simp
    exact hK _ _ (Below.refl _ _) rfl
  · intro v; simp only [Act.put, List.setIfInBounds_toArray, List.set_cons_succ, List.set_cons_zero]; exact rfl
  · intro v; exact (rfl : _ = ([x46, x47, x48, x49, x50, x51, v] : List Value))
  intro x52
  apply Oy.walk_cons rfl
  · intro w1 hb hd K hK
    have e52 : _ = x52 := Eq.symm (hd 6 (by kernel_rfl))
    subst e52
    clear hd
    have c_c1 := (hb.cell (cell_lt c1)).trans c1
    go_simp
    exact hK _ _ (Below.refl _ _) rfl
  · intro v; simp only [Act.put, List.setIfInBounds_toArray, List.set_cons_succ, List.set_cons_zero]; exact rfl
  · intro v; exact (rfl : _ = ([x46, x47, x48, x49, x50, x51, x52, v] : List Value))
  intro x53
  apply Oy.walk_cons rfl
  · intro w1 hb hd K hK
    have h49 : (CopyR ((ps.take k).map Prod.fst)) [] x49 w1 := hd 3 (by kernel_rfl)
    have e51 : _ = x51 := Eq.symm (hd 5 (by kernel_rfl))
    subst e51
    have e53 : _ = x53 := Eq.symm (hd 7 (by kernel_rfl))
    subst e53
    obtain ⟨qs, hq1, hq2⟩ := h49
    clear hd
    go_simp
    refine (HDO1.out w1 (HW.out w1 hb) qs _ _ hq1 hq2 (HXR.out w1 (HW.out w1 hb))).mono ?_
    rintro e w2 ⟨v1, v2, v3, rfl, h1, h2⟩
    go_simp
    exact hK _ _ h2 ⟨v1, v2, v3, rfl, h1.low (by first | exact hb.size | (have := hb.size; simp at this ⊢; omega))⟩
  · intro v; simp only [Act.put, List.setIfInBounds_toArray, List.set_cons_succ, List.set_cons_zero]; exact rfl
  · intro v; exact (rfl : _ = ([x46, x47, x48, x49, x50, x51, x52, x53, v] : List Value))
  intro x54
  apply Oy.walk_cons rfl
  · intro w1 hb hd K hK
    have h54 : (DoR (w3.heap.size) (⟨ys, er, es, eok⟩ : DM)) [] x54 w1 := hd 8 (by kernel_rfl)
    clear hd
    go_simp
    exact hK _ _ (Below.refl _ _) ⟨rfl, h54⟩
  · intro v; simp only [Act.put, List.setIfInBounds_toArray, List.set_cons_succ, List.set_cons_zero]; exact rfl
  · intro v; exact (rfl : _ = ([x46, x47, x48, x49, x50, x51, x52, x53, x54, v] : List Value))
  intro x45
  apply Oy.walk_cons rfl
  · intro w1 hb hd K hK
    have h45 : (fun ps v w => ps = [v] ∧ DoR (w3.heap.size) (⟨ys, er, es, eok⟩ : DM) ps v w) [x54] x45 w1 := hd 9 (by kernel_rfl)
    obtain ⟨_, v1, v2, v3, rfl, _⟩ := h45
    clear hd
    go_simp
    exact hK _ _ (Below.refl _ _) ⟨v2, v3, _, rfl⟩
  · intro v; simp only [Act.put, List.setIfInBounds_toArray, List.set_cons_succ, List.set_cons_zero]; exact rfl
  · intro v; exact (rfl : _ = ([x46, x47, x48, x49, x50, x51, x52, x53, x54, x45, v] : List Value))
  intro x55
  apply Oy.walk_cons rfl
  · intro w1 hb hd K hK
    have h45 : (fun ps v w => ps = [v] ∧ DoR (w3.heap.size) (⟨ys, er, es, eok⟩ : DM) ps v w) [x54] x45 w1 := hd 9 (by kernel_rfl)
    obtain ⟨_, v1, v2, v3, rfl, _⟩ := h45
    clear hd
    go_simp
    exact hK _ _ (Below.refl _ _) ⟨v1, v3, _, rfl⟩
  · intro v; simp only [Act.put, List.setIfInBounds_toArray, List.set_cons_succ, List.set_cons_zero]; exact rfl
  · intro v; exact (rfl : _ = ([x46, x47, x48, x49, x50, x51, x52, x53, x54, x45, x55, v] : List Value))
  intro x56
  apply Oy.walk_cons rfl
  · intro w1 hb hd K hK
    have h45 : (fun ps v w => ps = [v] ∧ DoR (w3.heap.size) (⟨ys, er, es, eok⟩ : DM) ps v w) [x54] x45 w1 := hd 9 (by kernel_rfl)
    obtain ⟨_, v1, v2, v3, rfl, _⟩ := h45
    clear hd
    go_simp
    exact hK _ _ (Below.refl _ _) ⟨v1, v2, _, rfl⟩
  · intro v; simp only [Act.put, List.setIfInBounds_toArray, List.set_cons_succ, List.set_cons_zero]; exact rfl
  · intro v; exact (rfl : _ = ([x46, x47, x48, x49, x50, x51, x52, x53, x54, x45, x55, x56, v] : List Value))
  intro x57
  apply Oy.walk_cons rfl
  · intro w1 hb hd K hK
    have h45 : (fun ps v w => ps = [v] ∧ DoR (w3.heap.size) (⟨ys, er, es, eok⟩ : DM) ps v w) [x54] x45 w1 := hd 9 (by kernel_rfl)
    obtain ⟨_, v1, v2, v3, rfl, _⟩ := h45
    clear hd
    go_simp
    exact hK _ _ (Below.refl _ _) rfl
  · intro v; simp only [Act.put, List.setIfInBounds_toArray, List.set_cons_succ, List.set_cons_zero]; exact rfl
  · intro v; exact (rfl : _ = ([x46, x47, x48, x49, x50, x51, x52, x53, x54, x45, x55, x56, x57, v] : List Value))
  intro x58
  apply Oy.walk_cons rfl
  · intro w1 hb hd K hK
    have h55 : (Oy.comp0) [x45] x55 w1 := hd 10 (by kernel_rfl)
    clear hd
    go_simp
    exact hK _ _ (Below.refl _ _) rfl
  · intro v; simp only [Act.put, List.setIfInBounds_toArray, List.set_cons_succ, List.set_cons_zero]; exact rfl
  · intro v; exact (rfl : _ = ([x46, x47, x48, x49, x50, x51, x52, x53, x54, x45, x55, x56, x57, x58, v] : List Value))
  intro x11
  apply Oy.walk_cons rfl
  · intro w1 hb hd K hK
    have h56 : (Oy.comp1) [x45] x56 w1 := hd 11 (by kernel_rfl)
    clear hd
    go_simp
    exact hK _ _ (Below.refl _ _) rfl
  · intro v; simp only [Act.put, List.setIfInBounds_toArray, List.set_cons_succ, List.set_cons_zero]; exact rfl
  · intro v; exact (rfl : _ = ([x46, x47, x48, x49, x50, x51, x52, x53, x54, x45, x55, x56, x57, x58, x11, v] : List Value))
  intro x12
  apply Oy.walk_cons rfl
  · intro w1 hb hd K hK
    have h57 : (Oy.comp2) [x45] x57 w1 := hd 12 (by kernel_rfl)
    clear hd
    go_simp
    exact hK _ _ (Below.refl _ _) rfl
  · intro v; simp only [Act.put, List.setIfInBounds_toArray, List.set_cons_succ, List.set_cons_zero]; exact rfl
  · intro v; exact (rfl : _ = ([x46, x47, x48, x49, x50, x51, x52, x53, x54, x45, x55, x56, x57, x58, x11, x12, v] : List Value))
  intro x13
  apply Oy.walk_cons rfl
  · intro w1 hb hd K hK
    have e58 : _ = x58 := Eq.symm (hd 13 (by kernel_rfl))
    subst e58
    clear hd
    go_simp
    exact hK _ _ (Below.refl _ _) rfl
  · intro v; simp only [Act.put, List.setIfInBounds_toArray, List.set_cons_succ, List.set_cons_zero]; exact rfl
  · intro v; exact (rfl : _ = ([x46, x47, x48, x49, x50, x51, x52, x53, x54, x45, x55, x56, x57, x58, x11, x12, x13, v] : List Value))
  intro x14
  refine Oy.walk_nil rfl (fun w1 hb hd => ?_)
  have e46 : _ = x46 := Eq.symm (hd 0 (by kernel_rfl))
  subst e46
  have e47 : _ = x47 := Eq.symm (hd 1 (by kernel_rfl))
  subst e47
  have h48 : (ActsIn (ps.take k)) [] x48 w1 := hd 2 (by kernel_rfl)
  have h49 : (CopyR ((ps.take k).map Prod.fst)) [] x49 w1 := hd 3 (by kernel_rfl)
  have e50 : _ = x50 := Eq.symm (hd 4 (by kernel_rfl))
  subst e50
  have e51 : _ = x51 := Eq.symm (hd 5 (by kernel_rfl))
  subst e51
  have e52 : _ = x52 := Eq.symm (hd 6 (by kernel_rfl))
  subst e52
  have e53 : _ = x53 := Eq.symm (hd 7 (by kernel_rfl))
  subst e53
  have h54 : (DoR (w3.heap.size) (⟨ys, er, es, eok⟩ : DM)) [] x54 w1 := hd 8 (by kernel_rfl)
  have h45 : (fun ps v w => ps = [v] ∧ DoR (w3.heap.size) (⟨ys, er, es, eok⟩ : DM) ps v w) [x54] x45 w1 := hd 9 (by kernel_rfl)
  have h55 : (Oy.comp0) [x45] x55 w1 := hd 10 (by kernel_rfl)
  have h56 : (Oy.comp1) [x45] x56 w1 := hd 11 (by kernel_rfl)
  have h57 : (Oy.comp2) [x45] x57 w1 := hd 12 (by kernel_rfl)
  have e58 : _ = x58 := Eq.symm (hd 13 (by kernel_rfl))
  subst e58
  have h11 : (Oy.sameD) [x55] x11 w1 := hd 14 (by kernel_rfl)
  have h12 : (Oy.sameD) [x56] x12 w1 := hd 15 (by kernel_rfl)
  have h13 : (Oy.sameD) [x57] x13 w1 := hd 16 (by kernel_rfl)
  have e14 : _ = x14 := Eq.symm (hd 17 (by kernel_rfl))
  subst e14
  clear hd
  obtain ⟨hmv, u1, u2, u3, he, R6⟩ := h45
  subst he
  obtain ⟨ta0, tb0, tc0, hx0⟩ := h55
  simp only [List.cons.injEq, Value.tuple.injEq, Array.mk.injEq, and_true] at hx0
  have hs0 := h11
  simp only [Oy.sameD, List.cons.injEq, and_true] at hs0
  obtain ⟨ta1, tb1, tc1, hx1⟩ := h56
  simp only [List.cons.injEq, Value.tuple.injEq, Array.mk.injEq, and_true] at hx1
  have hs1 := h12
  simp only [Oy.sameD, List.cons.injEq, and_true] at hs1
  obtain ⟨ta2, tb2, tc2, hx2⟩ := h57
  simp only [List.cons.injEq, Value.tuple.injEq, Array.mk.injEq, and_true] at hx2
  have hs2 := h13
  simp only [Oy.sameD, List.cons.injEq, and_true] at hs2
  obtain ⟨hx0, hx0r⟩ := hx0
  subst hx0
  subst hs0
  obtain ⟨hx1a, hx1, hx1r⟩ := hx1
  subst hx1
  subst hs1
  obtain ⟨hx2a, hx2b, hx2, hx2r⟩ := hx2
  subst hx2
  subst hs2
  clear hx0r hx1a hx1r hx2a hx2b hx2r hmv h11 h12 h13 h54
  obtain ⟨w4, hww4⟩ : ∃ W, W = w1 := ⟨_, rfl⟩
  subst hww4
  have HB4 : Hid (Below w.heap.size w w4) := HW.out w4 hb
  have HB34 : Hid (Below w3.heap.size w3 w4) := (Below.refl _ _).drew.trans hb
  replace c0 := (hb.cell (cell_lt c0)).trans c0
  replace c1 := (hb.cell (cell_lt c1)).trans c1
  simp only at R6
  replace R6 := Lib.hid R6
  have R54 := Lib.hid (R5.out.below HB34.out)
  clear h48 h49 hb HW
  go_simp
  cases eok with
  | false =>
    have hdd := hno rfl
    injection hdd with e1 e2 e3 e4
    subst e1; subst e2; subst e3; subst e4
    have hs1' := sameX_any v1 u1 zs zs w4 (Inn.of_own R54.out.x) (Inn.of_own R6.out.x) (by have := hdi.out; omega)
    rw [decide_eq_true rfl] at hs1'
    have HS1' := Lib.hid hs1'
    clear hs1'
    have HS2' : Hid (∀ q, Calls Tryz.prog 22 #[v2, u2] (w4.drewN q) fun e w' => e = .returned (.bool true) ∧ ∃ n, w' = (w4.drewN q).drewN n) := fun q => by have h := same2_any v2 u2 dr dr (w4.drewN q) (Inn.below (Inn.of_own R54.out.r) (below_drewN (Below.refl _ _) q)) (Inn.below (Inn.of_own R6.out.r) (below_drewN (Below.refl _ _) q)) (by omega); rw [decide_eq_true rfl] at h; exact h
    have HS3' : Hid (∀ q, Calls Tryz.prog 22 #[v3, u3] (w4.drewN q) fun e w' => e = .returned (.bool true) ∧ ∃ n, w' = (w4.drewN q).drewN n) := fun q => by have h := same2_any v3 u3 ds ds (w4.drewN q) (Inn.below (Inn.of_own R54.out.s) (below_drewN (Below.refl _ _) q)) (Inn.below (Inn.of_own R6.out.s) (below_drewN (Below.refl _ _) q)) (by omega); rw [decide_eq_true rfl] at h; exact h
    clear hno hyes
    go_wp2_with fail
    refine HS1'.out.mono ?_
    rintro e w7 ⟨rfl, q1, rfl⟩
    go_wp2_with fail
    refine (HS2'.out _).mono ?_
    rintro e w7 ⟨rfl, q2, rfl⟩
    rw [World.drewN_drewN]
    go_wp2_with fail
    refine (HS3'.out _).mono ?_
    rintro e w7 ⟨rfl, q3, rfl⟩
    have HBF := Lib.hid (below_drewN HB4.out (q1 + q2 + q3))
    go_wp2
    go_ret
    exact ⟨rfl, HBF.out⟩
  | true =>
    have hdd := hyes rfl
    injection hdd with e1 e2 e3 e4
    replace e1 := e1.symm
    replace e4 := e4.symm
    subst e1; subst e2; subst e3; subst e4
    clear hno hyes
    go_wp2_with fail
    have HW : Hid (∀ w5, Below w4.heap.size w4.drew w5 → Below w.heap.size w w5) := fun w5 hb => HB4.out.trans (((Below.refl _ _).drew.trans hb).mono HB4.out.size)
    refine Oy.region_quiet 99 [Oy.eqD (.slice P ps.length pc), Oy.eqD (.int .i64 (k : Int)), ActsIn (ps.drop k), CopyR ((ps.drop k).map Prod.fst), Oy.eqD (.pointer (some ⟨w.heap.size, 0, none⟩)), Oy.eqD (.slice V vs.length vc), Oy.eqD (u1), DoR (w4.heap.size) (⟨us, fr, fs, fok⟩ : DM), fun ps v w => ps = [v] ∧ DoR (w4.heap.size) (⟨us, fr, fs, fok⟩ : DM) ps v w, Oy.comp0, Oy.comp1, Oy.comp2, Oy.eqD (.bool (⟨us, fr, fs, fok⟩ : DM).ok), Oy.sameD, Oy.sameD, Oy.sameD, Oy.eqD (.bool (⟨us, fr, fs, fok⟩ : DM).ok)] [[], [], [], [], [], [], [], [], [7], [8], [8], [8], [], [9], [10], [11], []] (by kernel_rfl) rfl (by kernel_rfl) (by kernel_rfl) ⟨Oy.keeps_eq _, Oy.keeps_eq _, keeps_actsIn _, keeps_copy _, Oy.keeps_eq _, Oy.keeps_eq _, Oy.keeps_eq _, keeps_do _ _, keeps_mv _ _, Oy.keeps_pure _, Oy.keeps_pure _, Oy.keeps_pure _, Oy.keeps_eq _, Oy.keeps_pure _, Oy.keeps_pure _, Oy.keeps_pure _, Oy.keeps_eq _, trivial⟩ ?_
    apply Oy.walk_cons rfl
    · intro w1 hb hd K hK
      clear hd
      go_simp
      exact hK _ _ (Below.refl _ _) rfl
    · intro v; simp only [Act.put, List.setIfInBounds_toArray, List.set_cons_succ, List.set_cons_zero]; exact rfl
    · intro v; exact (rfl : _ = ([v] : List Value))
    intro x61
    apply Oy.walk_cons rfl
    · intro w1 hb hd K hK
      clear hd
      go_simp
      exact hK _ _ (Below.refl _ _) rfl
    · intro v; simp only [Act.put, List.setIfInBounds_toArray, List.set_cons_succ, List.set_cons_zero]; exact rfl
    · intro v; exact (rfl : _ = ([x61, v] : List Value))
    intro x62
    apply Oy.walk_cons rfl
    · intro w1 hb hd K hK
      have e61 : _ = x61 := Eq.symm (hd 0 (by kernel_rfl))
      subst e61
      have e62 : _ = x62 := Eq.symm (hd 1 (by kernel_rfl))
      subst e62
      clear hd
      go_simp
      exact hK _ _ (Below.refl _ _) (HDR.out w1 (HW.out w1 hb))
    · intro v; simp only [Act.put, List.setIfInBounds_toArray, List.set_cons_succ, List.set_cons_zero]; exact rfl
    · intro v; exact (rfl : _ = ([x61, x62, v] : List Value))
    intro x63
    apply Oy.walk_cons rfl
    · intro w1 hb hd K hK
      have h63 : (ActsIn (ps.drop k)) [] x63 w1 := hd 2 (by kernel_rfl)
      clear hd
      go_simp
      refine (HCP2.out w1 _ h63).mono ?_
      rintro e w2 ⟨v, qs, rfl, h1, h2, h3, h4⟩
      go_simp
      exact hK _ _ h4 ⟨qs, h1, ⟨Inn.of_own h2, h3⟩⟩
    · intro v; simp only [Act.put, List.setIfInBounds_toArray, List.set_cons_succ, List.set_cons_zero]; exact rfl
    · intro v; exact (rfl : _ = ([x61, x62, x63, v] : List Value))
    intro x64
    apply Oy.walk_cons rfl
    · intro w1 hb hd K hK
      clear hd
      go_simp
      exact hK _ _ (Below.refl _ _) rfl
    · intro v; simp only [Act.put, List.setIfInBounds_toArray, List.set_cons_succ, List.set_cons_zero]; exact rfl
    · intro v; exact (rfl : _ = ([x61, x62, x63, x64, v] : List Value))
    intro x65
    apply Oy.walk_cons rfl
    · intro w1 hb hd K hK
      have e65 : _ = x65 := Eq.symm (hd 4 (by kernel_rfl))
      subst e65
      clear hd
      have c_c0 := (hb.cell (cell_lt c0)).trans c0
      go_simp
      exact hK _ _ (Below.refl _ _) rfl
    · intro v; simp only [Act.put, List.setIfInBounds_toArray, List.set_cons_succ, List.set_cons_zero]; exact rfl
    · intro v; exact (rfl : _ = ([x61, x62, x63, x64, x65, v] : List Value))
    intro x66
    apply Oy.walk_cons rfl
    · intro w1 hb hd K hK
      clear hd
      go_simp
      exact hK _ _ (Below.refl _ _) rfl
    · intro v; simp only [Act.put, List.setIfInBounds_toArray, List.set_cons_succ, List.set_cons_zero]; exact rfl
    · intro v; exact (rfl : _ = ([x61, x62, x63, x64, x65, x66, v] : List Value))
    intro x67
    apply Oy.walk_cons rfl
    · intro w1 hb hd K hK
      have h64 : (CopyR ((ps.drop k).map Prod.fst)) [] x64 w1 := hd 3 (by kernel_rfl)
      have e66 : _ = x66 := Eq.symm (hd 5 (by kernel_rfl))
      subst e66
      have e67 : _ = x67 := Eq.symm (hd 6 (by kernel_rfl))
      subst e67
      obtain ⟨qs, hq1, hq2⟩ := h64
      clear hd
      go_simp
      refine (HD2.out w1 (HW.out w1 hb) qs _ _ hq1 hq2 (Inn.of_own (own_below R6.out.x ((Below.refl _ _).drew.trans hb)))).mono ?_
      rintro e w2 ⟨v1, v2, v3, rfl, h1, h2⟩
      go_simp
      exact hK _ _ h2 ⟨v1, v2, v3, rfl, h1.low (by first | exact hb.size | (have := hb.size; simp at this ⊢; omega))⟩
    · intro v; simp only [Act.put, List.setIfInBounds_toArray, List.set_cons_succ, List.set_cons_zero]; exact rfl
    · intro v; exact (rfl : _ = ([x61, x62, x63, x64, x65, x66, x67, v] : List Value))
    intro x68
    apply Oy.walk_cons rfl
    · intro w1 hb hd K hK
      have h68 : (DoR (w4.heap.size) (⟨us, fr, fs, fok⟩ : DM)) [] x68 w1 := hd 7 (by kernel_rfl)
      clear hd
      go_simp
      exact hK _ _ (Below.refl _ _) ⟨rfl, h68⟩
    · intro v; simp only [Act.put, List.setIfInBounds_toArray, List.set_cons_succ, List.set_cons_zero]; exact rfl
    · intro v; exact (rfl : _ = ([x61, x62, x63, x64, x65, x66, x67, x68, v] : List Value))
    intro x60
    apply Oy.walk_cons rfl
    · intro w1 hb hd K hK
      have h60 : (fun ps v w => ps = [v] ∧ DoR (w4.heap.size) (⟨us, fr, fs, fok⟩ : DM) ps v w) [x68] x60 w1 := hd 8 (by kernel_rfl)
      obtain ⟨_, v1, v2, v3, rfl, _⟩ := h60
      clear hd
      go_simp
      exact hK _ _ (Below.refl _ _) ⟨v2, v3, _, rfl⟩
    · intro v; simp only [Act.put, List.setIfInBounds_toArray, List.set_cons_succ, List.set_cons_zero]; exact rfl
    · intro v; exact (rfl : _ = ([x61, x62, x63, x64, x65, x66, x67, x68, x60, v] : List Value))
    intro x69
    apply Oy.walk_cons rfl
    · intro w1 hb hd K hK
      have h60 : (fun ps v w => ps = [v] ∧ DoR (w4.heap.size) (⟨us, fr, fs, fok⟩ : DM) ps v w) [x68] x60 w1 := hd 8 (by kernel_rfl)
      obtain ⟨_, v1, v2, v3, rfl, _⟩ := h60
      clear hd
      go_simp
      exact hK _ _ (Below.refl _ _) ⟨v1, v3, _, rfl⟩
    · intro v; simp only [Act.put, List.setIfInBounds_toArray, List.set_cons_succ, List.set_cons_zero]; exact rfl
    · intro v; exact (rfl : _ = ([x61, x62, x63, x64, x65, x66, x67, x68, x60, x69, v] : List Value))
    intro x70
    apply Oy.walk_cons rfl
    · intro w1 hb hd K hK
      have h60 : (fun ps v w => ps = [v] ∧ DoR (w4.heap.size) (⟨us, fr, fs, fok⟩ : DM) ps v w) [x68] x60 w1 := hd 8 (by kernel_rfl)
      obtain ⟨_, v1, v2, v3, rfl, _⟩ := h60
      clear hd
      go_simp
      exact hK _ _ (Below.refl _ _) ⟨v1, v2, _, rfl⟩
    · intro v; simp only [Act.put, List.setIfInBounds_toArray, List.set_cons_succ, List.set_cons_zero]; exact rfl
    · intro v; exact (rfl : _ = ([x61, x62, x63, x64, x65, x66, x67, x68, x60, x69, x70, v] : List Value))
    intro x71
    apply Oy.walk_cons rfl
    · intro w1 hb hd K hK
      have h60 : (fun ps v w => ps = [v] ∧ DoR (w4.heap.size) (⟨us, fr, fs, fok⟩ : DM) ps v w) [x68] x60 w1 := hd 8 (by kernel_rfl)
      obtain ⟨_, v1, v2, v3, rfl, _⟩ := h60
      clear hd
      go_simp
      exact hK _ _ (Below.refl _ _) rfl
    · intro v; simp only [Act.put, List.setIfInBounds_toArray, List.set_cons_succ, List.set_cons_zero]; exact rfl
    · intro v; exact (rfl : _ = ([x61, x62, x63, x64, x65, x66, x67, x68, x60, x69, x70, x71, v] : List Value))
    intro x72
    apply Oy.walk_cons rfl
    · intro w1 hb hd K hK
      have h69 : (Oy.comp0) [x60] x69 w1 := hd 9 (by kernel_rfl)
      clear hd
      go_simp
      exact hK _ _ (Below.refl _ _) rfl
    · intro v; simp only [Act.put, List.setIfInBounds_toArray, List.set_cons_succ, List.set_cons_zero]; exact rfl
    · intro v; exact (rfl : _ = ([x61, x62, x63, x64, x65, x66, x67, x68, x60, x69, x70, x71, x72, v] : List Value))
    intro x15
    apply Oy.walk_cons rfl
    · intro w1 hb hd K hK
      have h70 : (Oy.comp1) [x60] x70 w1 := hd 10 (by kernel_rfl)
      clear hd
      go_simp
      exact hK _ _ (Below.refl _ _) rfl
    · intro v; simp only [Act.put, List.setIfInBounds_toArray, List.set_cons_succ, List.set_cons_zero]; exact rfl
    · intro v; exact (rfl : _ = ([x61, x62, x63, x64, x65, x66, x67, x68, x60, x69, x70, x71, x72, x15, v] : List Value))
    intro x16
    apply Oy.walk_cons rfl
    · intro w1 hb hd K hK
      have h71 : (Oy.comp2) [x60] x71 w1 := hd 11 (by kernel_rfl)
      clear hd
      go_simp
      exact hK _ _ (Below.refl _ _) rfl
    · intro v; simp only [Act.put, List.setIfInBounds_toArray, List.set_cons_succ, List.set_cons_zero]; exact rfl
    · intro v; exact (rfl : _ = ([x61, x62, x63, x64, x65, x66, x67, x68, x60, x69, x70, x71, x72, x15, x16, v] : List Value))
    intro x17
    apply Oy.walk_cons rfl
    · intro w1 hb hd K hK
      have e72 : _ = x72 := Eq.symm (hd 12 (by kernel_rfl))
      subst e72
      clear hd
      go_simp
      exact hK _ _ (Below.refl _ _) rfl
    · intro v; simp only [Act.put, List.setIfInBounds_toArray, List.set_cons_succ, List.set_cons_zero]; exact rfl
    · intro v; exact (rfl : _ = ([x61, x62, x63, x64, x65, x66, x67, x68, x60, x69, x70, x71, x72, x15, x16, x17, v] : List Value))
    intro x18
    refine Oy.walk_nil rfl (fun w1 hb hd => ?_)
    have e61 : _ = x61 := Eq.symm (hd 0 (by kernel_rfl))
    subst e61
    have e62 : _ = x62 := Eq.symm (hd 1 (by kernel_rfl))
    subst e62
    have h63 : (ActsIn (ps.drop k)) [] x63 w1 := hd 2 (by kernel_rfl)
    have h64 : (CopyR ((ps.drop k).map Prod.fst)) [] x64 w1 := hd 3 (by kernel_rfl)
    have e65 : _ = x65 := Eq.symm (hd 4 (by kernel_rfl))
    subst e65
    have e66 : _ = x66 := Eq.symm (hd 5 (by kernel_rfl))
    subst e66
    have e67 : _ = x67 := Eq.symm (hd 6 (by kernel_rfl))
    subst e67
    have h68 : (DoR (w4.heap.size) (⟨us, fr, fs, fok⟩ : DM)) [] x68 w1 := hd 7 (by kernel_rfl)
    have h60 : (fun ps v w => ps = [v] ∧ DoR (w4.heap.size) (⟨us, fr, fs, fok⟩ : DM) ps v w) [x68] x60 w1 := hd 8 (by kernel_rfl)
    have h69 : (Oy.comp0) [x60] x69 w1 := hd 9 (by kernel_rfl)
    have h70 : (Oy.comp1) [x60] x70 w1 := hd 10 (by kernel_rfl)
    have h71 : (Oy.comp2) [x60] x71 w1 := hd 11 (by kernel_rfl)
    have e72 : _ = x72 := Eq.symm (hd 12 (by kernel_rfl))
    subst e72
    have h15 : (Oy.sameD) [x69] x15 w1 := hd 13 (by kernel_rfl)
    have h16 : (Oy.sameD) [x70] x16 w1 := hd 14 (by kernel_rfl)
    have h17 : (Oy.sameD) [x71] x17 w1 := hd 15 (by kernel_rfl)
    have e18 : _ = x18 := Eq.symm (hd 16 (by kernel_rfl))
    subst e18
    clear hd
    obtain ⟨hmv, y1, y2, y3, he, R8⟩ := h60
    subst he
    obtain ⟨ta0, tb0, tc0, hx0⟩ := h69
    simp only [List.cons.injEq, Value.tuple.injEq, Array.mk.injEq, and_true] at hx0
    have hs0 := h15
    simp only [Oy.sameD, List.cons.injEq, and_true] at hs0
    obtain ⟨ta1, tb1, tc1, hx1⟩ := h70
    simp only [List.cons.injEq, Value.tuple.injEq, Array.mk.injEq, and_true] at hx1
    have hs1 := h16
    simp only [Oy.sameD, List.cons.injEq, and_true] at hs1
    obtain ⟨ta2, tb2, tc2, hx2⟩ := h71
    simp only [List.cons.injEq, Value.tuple.injEq, Array.mk.injEq, and_true] at hx2
    have hs2 := h17
    simp only [Oy.sameD, List.cons.injEq, and_true] at hs2
    obtain ⟨hx0, hx0r⟩ := hx0
    subst hx0
    subst hs0
    obtain ⟨hx1a, hx1, hx1r⟩ := hx1
    subst hx1
    subst hs1
    obtain ⟨hx2a, hx2b, hx2, hx2r⟩ := hx2
    subst hx2
    subst hs2
    clear hx0r hx1a hx1r hx2a hx2b hx2r hmv h15 h16 h17 h68
    obtain ⟨w5, hww5⟩ : ∃ W, W = w1 := ⟨_, rfl⟩
    subst hww5
    have HB5 : Hid (Below w.heap.size w w5) := HW.out w5 hb
    have HB45 : Hid (Below w4.heap.size w4 w5) := (Below.refl _ _).drew.trans hb
    have HB35 : Hid (Below w3.heap.size w3 w5) := HB34.out.trans (HB45.out.mono HB34.out.size)
    simp only at R8
    replace R8 := Lib.hid R8
    have R55 := Lib.hid (R54.out.below HB45.out)
    have R65 := Lib.hid (R6.out.below HB45.out)
    clear h63 h64 hb HW
    go_simp
    go_wp2_with (at_builtin; refine Ow.wpList_append rfl (.tmp 73) (.tmp 74) 42 rfl w3.heap.size 9 is _ 1 16 Tryz.underlying42 HS0.out HS1.out HS2.out HS3.out rfl (by decide) _ er.length (er.map bstr) rfl R65.out.r _ fr.length (fr.map bstr) rfl (Inn.of_own R8.out.r) (strs_vals fr) (by unfold maxLen; omega) (by omega) HB35.out.size ?_)
    intro b' w6 ho6 hg6 hob6
    have hx1 := own_grown R55.out.x hg6 (far_old R5.out.x R65.out.r (Nat.le_refl _))
    have hx2 := own_grown R55.out.r hg6 (far_old R5.out.r R65.out.r (Nat.le_refl _))
    have hx3 := own_grown R55.out.s hg6 (far_old R5.out.s R65.out.r (Nat.le_refl _))
    have hx4 := own_grown R65.out.s hg6 R65.out.rs
    have hx5 := own_grown R8.out.x hg6 (ne_symm (far_old R6.out.r R8.out.x (Nat.le_refl _)))
    have hx6 := own_grown R8.out.s hg6 (ne_symm (far_old R6.out.r R8.out.s (Nat.le_refl _)))
    have hnb := new_ne R65.out.s (ne_symm R65.out.rs) hob6
    have HB6 := Lib.hid (HB5.out.grown hg6 HB5.out.size (fun q hq => by have := (R65.out.r.lt q hq).1; have := HB3.out.size; omega))
    have hsz6 := hg6.size
    have HX1 := Lib.hid hx1; have HX2 := Lib.hid hx2; have HX3 := Lib.hid hx3; have HX4 := Lib.hid hx4; have HX5 := Lib.hid hx5; have HX6 := Lib.hid hx6; have HNB := Lib.hid hnb; have HO6 := Lib.hid ho6
    have HSZ6 : Hid (w3.heap.size ≤ w6.heap.size) := by show _ ≤ _; have := HB35.out.size; omega
    clear hx1 hx2 hx3 hx4 hx5 hx6 hnb ho6 hg6 hob6 hsz6
    go_wp2_with (at_builtin; refine Ow.wpList_append rfl (.tmp 76) (.tmp 77) 42 rfl w3.heap.size 9 is _ 1 16 Tryz.underlying42 HS0.out HS1.out HS2.out HS3.out rfl (by decide) _ es.length (es.map bstr) rfl HX4.out _ fs.length (fs.map bstr) rfl (Inn.of_own HX6.out) (strs_vals fs) (by unfold maxLen; omega) (by omega) HSZ6.out ?_)
    intro c' w7 ho7 hg7 hob7
    have hx1 := own_grown HX1.out hg7 (far_old R5.out.x HX4.out (Nat.le_refl _))
    have hx2 := own_grown HX2.out hg7 (far_old R5.out.r HX4.out (Nat.le_refl _))
    have hx3 := own_grown HX3.out hg7 (far_old R5.out.s HX4.out (Nat.le_refl _))
    have hx5 := own_grown HX5.out hg7 (ne_symm (far_old R6.out.s R8.out.x (Nat.le_refl _)))
    have hx7 := own_grown HO6.out hg7 HNB.out
    have HB7 := Lib.hid (HB6.out.grown hg7 HB6.out.size (fun q hq => by have := (HX4.out.lt q hq).1; have := HB3.out.size; omega))
    have hbr : RdW w7 b' (er ++ fr) := by have := Inn.of_own hx7; unfold RdW; rw [List.length_append, List.map_append]; exact this
    have hcr : RdW w7 c' (es ++ fs) := by have := Inn.of_own ho7; unfold RdW; rw [List.length_append, List.map_append]; exact this
    have hl1 : (er ++ fr).length ≤ 140737488355328 := by rw [List.length_append]; omega
    have hl2 : (es ++ fs).length ≤ 140737488355328 := by rw [List.length_append]; omega
    have hs1' := sameX_any v1 y1 us us w7 (Inn.of_own hx1) (Inn.of_own hx5) (by have := hdi.out; omega)
    rw [decide_eq_true rfl] at hs1'
    have HS1' := Lib.hid hs1'
    clear hs1'
    have HS2' : Hid (∀ q, Calls Tryz.prog 22 #[v2, b'] (w7.drewN q) fun e w' => e = .returned (.bool true) ∧ ∃ n, w' = (w7.drewN q).drewN n) := fun q => by have h := same2_any v2 b' (er ++ fr) (er ++ fr) (w7.drewN q) (Inn.below (Inn.of_own hx2) (below_drewN (Below.refl _ _) q)) (Inn.below hbr (below_drewN (Below.refl _ _) q)) hl1; rw [decide_eq_true rfl] at h; exact h
    have HS3' : Hid (∀ q, Calls Tryz.prog 22 #[v3, c'] (w7.drewN q) fun e w' => e = .returned (.bool true) ∧ ∃ n, w' = (w7.drewN q).drewN n) := fun q => by have h := same2_any v3 c' (es ++ fs) (es ++ fs) (w7.drewN q) (Inn.below (Inn.of_own hx3) (below_drewN (Below.refl _ _) q)) (Inn.below hcr (below_drewN (Below.refl _ _) q)) hl2; rw [decide_eq_true rfl] at h; exact h
    clear hx1 hx2 hx3 hx5 hx7 hbr hcr hl1 hl2 ho7 hg7 hob7
    go_wp2_with fail
    refine HS1'.out.mono ?_
    rintro e w8 ⟨rfl, q1, rfl⟩
    go_wp2_with fail
    refine (HS2'.out _).mono ?_
    rintro e w8 ⟨rfl, q2, rfl⟩
    rw [World.drewN_drewN]
    go_wp2_with fail
    refine (HS3'.out _).mono ?_
    rintro e w8 ⟨rfl, q3, rfl⟩
    have HBF := Lib.hid (below_drewN HB7.out (q1 + q2 + q3))
    go_wp2
    go_ret
    exact ⟨rfl, HBF.out⟩
end Go.Proofs.YtjjoffadieoaaaaGreatDoor
