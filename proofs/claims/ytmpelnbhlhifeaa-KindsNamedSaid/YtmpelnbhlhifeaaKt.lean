/- The law KindsNamed walked. -/
import Derived.Test.YtmpelnbhlhifeaaKs
import Derived.Test.YtmpelnbhlhifeaaOt
namespace Go.Proofs.Ytmpelnbhlhifeaa
open Go.RowKit

set_option maxRecDepth 100000 in
set_option maxHeartbeats 4000000 in
theorem kindsNamed_law (vl vv sv : Value) (cs : List CM) (vs : List VM) (ss : List (List UInt8)) (N : ByteArray) (w : World) (hR : RdI w vl cs) (hl1 : cs.length * 32 ≤ 140737488355328) (hNm : Names cs) (hV : RdV w vv vs) (hS : RdW w sv ss)
    (hvl : vs.length * 64 ≤ 140737488355328) (hsl : ss.length * 16 ≤ 140737488355328) (hN : N.size ≤ 9223372036854775807) :
    Calls Try.prog 7 #[vl, .agg #[vv, sv], .string N] w fun e w' => e = .returned (.bool true) ∧ Below w.heap.size w w' := by
  obtain ⟨V, vc, rfl⟩ := hV.form
  obtain ⟨S, sc, rfl⟩ := hS.form
  obtain ⟨iv, hv0, hv1, hv2, hv3⟩ := info_parts infoVar
  have HV0 := Lib.hid hv0; have HV1 := Lib.hid hv1; have HV2 := Lib.hid hv2; have HV3 := Lib.hid hv3
  clear hv0 hv1 hv2 hv3
  have HCA : Hid (∀ W, Below w.heap.size w W → Calls Try.prog 9 #[vl] W fun e w' => ∃ v', e = .returned v' ∧ Own W cs v' w') := fun W hb => copied4_any vl cs W (hR.below hb) hl1
  have HVR : Hid (∀ W, Below w.heap.size w W → RdV W (.slice V vs.length vc) vs) := fun W hb => hV.below hb
  have HSR : Hid (∀ W, Below w.heap.size w W → RdW W (.slice S ss.length sc) ss) := fun W hb => hS.below hb
  have HK1 : Hid (∀ W, Below w.heap.size w W → ∀ x, RdC W x cs → Calls Try.prog 8 #[x, .slice V vs.length vc, .slice S ss.length sc] W fun e w' => e = .returned (.tuple #[.int .i64 (kindP vs ss cs).1, .int .i64 (kindP vs ss cs).2]) ∧ Below W.heap.size W w') := fun W hb x hx => kindsOf_any x _ _ cs vs ss W hx (by omega) (hV.below hb) (by omega) (hS.below hb) (by omega)
  obtain ⟨wb, hwb⟩ : ∃ wb, wb = (w.alloc (.cells #[.slice V vs.length vc, .slice S ss.length sc] 26)) := ⟨_, rfl⟩
  have HB0 : Hid (Below w.heap.size w wb) := by rw [hwb]; exact (Below.refl _ _).alloc (Nat.le_refl _) _
  have d40 : wb.cell? ⟨w.heap.size, 0, none⟩ = some (.slice V vs.length vc) := by rw [hwb]; simp
  have d41 : wb.cell? ⟨w.heap.size, 1, none⟩ = some (.slice S ss.length sc) := by rw [hwb]; simp
  have HE := Lib.hid hwb
  have HNM := Lib.hid hNm
  clear hR hV hS hwb hNm
  go_enter Try.func7, Try.ntmps7
  go_wp2_with fail
  rw [← HE.out]
  clear HE
  refine (wakes4_any _).mono ?_
  rintro e w0 ⟨rfl, hb0⟩
  have HB1 := Lib.hid (HB0.out.trans (hb0.mono HB0.out.size))
  have c40 := (hb0.cell (cell_lt d40)).trans d40
  have c41 := (hb0.cell (cell_lt d41)).trans d41
  clear hb0 d40 d41
  go_wp2_with fail
  have HW : Hid (∀ w1, Below w0.heap.size w0.drew w1 → Below w.heap.size w w1) := fun w1 hb => HB1.out.trans (((Below.refl _ _).drew.trans hb).mono HB1.out.size)
  refine Ow.region_own' 127 [Ow.eqR (vl), fun v w' => w'.ownsRow 0 38 3 v (cs).length (flat (cs)), Ow.eqR (.pointer (some ⟨w.heap.size, 0, none⟩)), Ow.eqR (.slice V vs.length vc), Ow.eqR (.pointer (some ⟨w.heap.size, 1, none⟩)), Ow.eqR (.slice S ss.length sc), Ow.eqR (.tuple #[.int .i64 (kindP vs ss cs).1, .int .i64 (kindP vs ss cs).2]), Ow.eqR (.tuple #[.int .i64 (kindP vs ss cs).1, .int .i64 (kindP vs ss cs).2]), Ow.eqR (.int .i64 (kindP vs ss cs).1), Ow.eqR (.int .i64 (kindP vs ss cs).2), Ow.eqR (.int .i64 (kindP vs ss cs).1), Ow.eqR (.int .i64 (kindP vs ss cs).2)] [false, true, false, false, false, false, false, false, false, false, false, false] [none, none, none, none, none, none, none, none, none, none, none, none] (by kernel_rfl) rfl (by kernel_rfl) ⟨Ow.keeps_eq _ _, Ow.keeps_own _ _ _ _ _, Ow.keeps_eq _ _, Ow.keeps_eq _ _, Ow.keeps_eq _ _, Ow.keeps_eq _ _, Ow.keeps_eq _ _, Ow.keeps_eq _ _, Ow.keeps_eq _ _, Ow.keeps_eq _ _, Ow.keeps_eq _ _, Ow.keeps_eq _ _, trivial⟩ ?_
  apply Ow.walk_cons rfl
  · intro w1 hb hd ho K hK
    clear hd ho
    go_simp
    exact hK _ _ (Ow.good_same rfl rfl rfl)
  · intro v; simp only [Act.put, List.setIfInBounds_toArray, List.set_cons_succ, List.set_cons_zero]; exact rfl
  · intro v; simp only [List.nil_append]; exact rfl
  intro x20
  apply Ow.walk_cons rfl
  · intro w1 hb hd ho K hK
    have e20 : _ = x20 := Eq.symm (hd 0 (by kernel_rfl))
    subst e20
    have hz := hb.size
    clear hd ho
    go_simp
    refine (HCA.out w1 (HW.out w1 hb)).mono ?_
    rintro e w2 ⟨v, rfl, hv⟩
    go_simp
    exact hK _ _ (Ow.good_new rfl hz hv.below (own_low hv.own (Nat.zero_le _)) (fun g hg => hv.own.lt g hg))
  · intro v; simp only [Act.put, List.setIfInBounds_toArray, List.set_cons_succ, List.set_cons_zero]; exact rfl
  · intro v; simp only [List.nil_append, List.cons_append]; exact rfl
  intro x21
  apply Ow.walk_cons rfl
  · intro w1 hb hd ho K hK
    clear hd ho
    go_simp
    exact hK _ _ (Ow.good_same rfl rfl rfl)
  · intro v; simp only [Act.put, List.setIfInBounds_toArray, List.set_cons_succ, List.set_cons_zero]; exact rfl
  · intro v; simp only [List.nil_append, List.cons_append]; exact rfl
  intro x22
  apply Ow.walk_cons rfl
  · intro w1 hb hd ho K hK
    have e22 : _ = x22 := Eq.symm (hd 2 (by kernel_rfl))
    subst e22
    clear hd ho
    have c0 : w1.cell? ⟨w.heap.size, 0, none⟩ = some (.slice V vs.length vc) := (hb.cell (cell_lt c40)).trans c40
    go_simp
    exact hK _ _ (Ow.good_same rfl rfl rfl)
  · intro v; simp only [Act.put, List.setIfInBounds_toArray, List.set_cons_succ, List.set_cons_zero]; exact rfl
  · intro v; simp only [List.nil_append, List.cons_append]; exact rfl
  intro x23
  apply Ow.walk_cons rfl
  · intro w1 hb hd ho K hK
    clear hd ho
    go_simp
    exact hK _ _ (Ow.good_same rfl rfl rfl)
  · intro v; simp only [Act.put, List.setIfInBounds_toArray, List.set_cons_succ, List.set_cons_zero]; exact rfl
  · intro v; simp only [List.nil_append, List.cons_append]; exact rfl
  intro x24
  apply Ow.walk_cons rfl
  · intro w1 hb hd ho K hK
    have e24 : _ = x24 := Eq.symm (hd 4 (by kernel_rfl))
    subst e24
    clear hd ho
    have c0 : w1.cell? ⟨w.heap.size, 1, none⟩ = some (.slice S ss.length sc) := (hb.cell (cell_lt c41)).trans c41
    go_simp
    exact hK _ _ (Ow.good_same rfl rfl rfl)
  · intro v; simp only [Act.put, List.setIfInBounds_toArray, List.set_cons_succ, List.set_cons_zero]; exact rfl
  · intro v; simp only [List.nil_append, List.cons_append]; exact rfl
  intro x25
  apply Ow.walk_cons rfl
  · intro w1 hb hd ho K hK
    have h21 := hd 1 (by kernel_rfl)
    have e23 : _ = x23 := Eq.symm (hd 3 (by kernel_rfl))
    subst e23
    have e25 : _ = x25 := Eq.symm (hd 5 (by kernel_rfl))
    subst e25
    clear ho
    clear hd
    go_simp
    refine (HK1.out w1 (HW.out w1 hb) _ (own_rd h21)).mono ?_
    rintro e w2 ⟨rfl, hb2⟩
    go_simp
    exact hK _ _ (Ow.good_below rfl rfl hb2 rfl)
  · intro v; simp only [Act.put, List.setIfInBounds_toArray, List.set_cons_succ, List.set_cons_zero]; exact rfl
  · intro v; simp only [List.nil_append, List.cons_append]; exact rfl
  intro x26
  apply Ow.walk_cons rfl
  · intro w1 hb hd ho K hK
    have e26 : _ = x26 := Eq.symm (hd 6 (by kernel_rfl))
    subst e26
    clear hd ho
    go_simp
    exact hK _ _ (Ow.good_same rfl rfl rfl)
  · intro v; simp only [Act.put, List.setIfInBounds_toArray, List.set_cons_succ, List.set_cons_zero]; exact rfl
  · intro v; simp only [List.nil_append, List.cons_append]; exact rfl
  intro x19
  apply Ow.walk_cons rfl
  · intro w1 hb hd ho K hK
    have e19 : _ = x19 := Eq.symm (hd 7 (by kernel_rfl))
    subst e19
    clear hd ho
    go_simp
    exact hK _ _ (Ow.good_same rfl rfl rfl)
  · intro v; simp only [Act.put, List.setIfInBounds_toArray, List.set_cons_succ, List.set_cons_zero]; exact rfl
  · intro v; simp only [List.nil_append, List.cons_append]; exact rfl
  intro x27
  apply Ow.walk_cons rfl
  · intro w1 hb hd ho K hK
    have e19 : _ = x19 := Eq.symm (hd 7 (by kernel_rfl))
    subst e19
    clear hd ho
    go_simp
    exact hK _ _ (Ow.good_same rfl rfl rfl)
  · intro v; simp only [Act.put, List.setIfInBounds_toArray, List.set_cons_succ, List.set_cons_zero]; exact rfl
  · intro v; simp only [List.nil_append, List.cons_append]; exact rfl
  intro x28
  apply Ow.walk_cons rfl
  · intro w1 hb hd ho K hK
    have e27 : _ = x27 := Eq.symm (hd 8 (by kernel_rfl))
    subst e27
    clear hd ho
    go_simp
    exact hK _ _ (Ow.good_same rfl rfl rfl)
  · intro v; simp only [Act.put, List.setIfInBounds_toArray, List.set_cons_succ, List.set_cons_zero]; exact rfl
  · intro v; simp only [List.nil_append, List.cons_append]; exact rfl
  intro x7
  apply Ow.walk_cons rfl
  · intro w1 hb hd ho K hK
    have e28 : _ = x28 := Eq.symm (hd 9 (by kernel_rfl))
    subst e28
    clear hd ho
    go_simp
    exact hK _ _ (Ow.good_same rfl rfl rfl)
  · intro v; simp only [Act.put, List.setIfInBounds_toArray, List.set_cons_succ, List.set_cons_zero]; exact rfl
  · intro v; simp only [List.nil_append, List.cons_append]; exact rfl
  intro x8
  refine Ow.walk_nil rfl (fun w1 hb hd => ?_)
  have e20 : _ = x20 := Eq.symm (hd 0 (by kernel_rfl))
  subst e20
  have h21 := hd 1 (by kernel_rfl)
  have e22 : _ = x22 := Eq.symm (hd 2 (by kernel_rfl))
  subst e22
  have e23 : _ = x23 := Eq.symm (hd 3 (by kernel_rfl))
  subst e23
  have e24 : _ = x24 := Eq.symm (hd 4 (by kernel_rfl))
  subst e24
  have e25 : _ = x25 := Eq.symm (hd 5 (by kernel_rfl))
  subst e25
  have e26 : _ = x26 := Eq.symm (hd 6 (by kernel_rfl))
  subst e26
  have e19 : _ = x19 := Eq.symm (hd 7 (by kernel_rfl))
  subst e19
  have e27 : _ = x27 := Eq.symm (hd 8 (by kernel_rfl))
  subst e27
  have e28 : _ = x28 := Eq.symm (hd 9 (by kernel_rfl))
  subst e28
  have e7 : _ = x7 := Eq.symm (hd 10 (by kernel_rfl))
  subst e7
  have e8 : _ = x8 := Eq.symm (hd 11 (by kernel_rfl))
  subst e8
  clear hd
  have HB2 : Hid (Below w.heap.size w w1) := HW.out w1 hb
  have c40' : w1.cell? ⟨w.heap.size, 0, none⟩ = some (.slice V vs.length vc) := (hb.cell (cell_lt c40)).trans c40
  have c41' : w1.cell? ⟨w.heap.size, 1, none⟩ = some (.slice S ss.length sc) := (hb.cell (cell_lt c41)).trans c41
  clear hb HW h21 c40 c41
  have c40 := c40'; clear c40'
  have c41 := c41'; clear c41'
  go_simp
  by_cases hok : (kindP vs ss cs).2 = 0
  · have HOK := Lib.hid hok
    have hright := kind_right hok
    have hl32 : cs.length ≤ 32 := by unfold rightB at hright; simp at hright; exact hright.1
    have hcl : 0 < cs.length := by
      obtain ⟨t, _, rfl⟩ := right_tree hright
      exact post_pos t
    rw [HOK.out]
    clear hok hright
    by_cases hv0 : 0 < vs.length
    · have HV1 := HVR.out _ HB2.out
      obtain ⟨vb, vo, rfl, _, hc, _⟩ := HV1.at_ hv0
      obtain ⟨O, hO, hOl⟩ := bstr_some (vs[0]'hv0).nm
      rw [hO] at hc
      simp only [Nat.zero_mul, Nat.add_zero] at hc
      have hcc := hc
      clear hO hc HV1
      obtain ⟨nv, hnv⟩ : ∃ nv, vs.length = nv := ⟨_, rfl⟩
      have HNV := Lib.hid hnv
      rw [hnv] at hvl hv0 c40 HVR HK1 ⊢
      clear hnv
      obtain ⟨wa, hwa⟩ : ∃ wa, wa = w1 := ⟨_, rfl⟩
      rw [← hwa] at HB2 c40 c41 hcc ⊢
      clear hwa
      have hvn : decide (nv = 0) = false := decide_eq_false (by omega)
      have hvn2 : ((nv : Int) == 0) = false := int_ne (by omega)
      go_wp2
      go_loopw [10, 45] (fun _ x45 wr => wr = wa ∧ ∃ k : Nat, k ≤ nv ∧ x45 = .int .i64 (k : Int) ∧ Hid (∀ j (h : j < vs.length), j < k → vs[j].nm ≠ N.data.toList)) (fun _ x _ => nv - (intOf x).toNat)
      case atStart => exact ⟨rfl, 0, by omega, rfl, fun j _ h => by omega⟩
      case round =>
        obtain ⟨rfl, k, hk, rfl, HD⟩ := hrel
        by_cases hkn : k < nv
        · have hkv : k < vs.length := by rw [HNV.out]; exact hkn
          obtain ⟨vb2, vo2, hA, _, d0, _⟩ := (HVR.out _ HB2.out).at_ hkv
          simp only [Option.some.injEq, Addr.mk.injEq, and_true] at hA
          obtain ⟨rfl, rfl⟩ := hA
          obtain ⟨Y, hY, hYl⟩ := bstr_some vs[k].nm
          rw [hY] at d0
          have hnx : Y.data.toList ≠ N.data.toList → ∀ j (h : j < vs.length), j < k + 1 → vs[j].nm ≠ N.data.toList := by
            intro hne j h hj
            by_cases hjk : j = k
            · subst hjk; rw [← hYl]; exact hne
            · exact HD.out j h (by omega)
          clear hY hYl HD
          by_cases hye : Y.data.toList = N.data.toList
          · obtain rfl := str_eq hye
            clear hnx
            go_wp2
            go_ret
            exact ⟨rfl, HB2.out⟩
          · have HNX := Lib.hid (hnx hye)
            have sne := str_ne hye
            have sne' := str_ne (Ne.symm hye)
            clear hnx
            go_wp2
            go_roundw
            case rel => exact ⟨by trivial, k + 1, by omega, by go_num, HNX⟩
            case measure => simp [intOf]; omega
        · obtain rfl : k = nv := by omega
          have hdn : ∀ v ∈ vs, v.nm ≠ N.data.toList := by
            intro v hv
            obtain ⟨i, hi, rfl⟩ := List.mem_iff_getElem.1 hv
            exact HD.out i hi (by rw [← HNV.out]; exact hi)
          have hren := kind_ren (old := O.data.toList) (new := N.data.toList) (ss := ss) hdn HOK.out
          have HREN := Lib.hid hren
          clear hdn hren HD hcc
          obtain ⟨wz, hwz⟩ : ∃ W, W = wr := ⟨_, rfl⟩
          subst hwz
          go_wp2_with fail
          refine (HCA.out _ HB2.out).mono ?_
          rintro e wm ⟨v11, rfl, hown⟩
          have HBM := Lib.hid hown.below
          have ho := hown.own
          rcases own_form ho with ⟨_, h0⟩ | ⟨g, cap, rfl, _, _⟩
          · omega
          have b40 := (HBM.out.cell (cell_lt c40)).trans c40
          have b41 := (HBM.out.cell (cell_lt c41)).trans c41
          have HGL : Hid (wz.heap.size ≤ g) := (ho.lt g rfl).1
          have HO := Lib.hid ho
          have c40' := c40; have c41' := c41
          clear hown ho c40 c41
          go_wp2
          go_loopw [12, 61] (fun _ x61 wl => ∃ k2 : Nat, k2 ≤ cs.length ∧ x61 = .int .i64 (k2 : Int) ∧ Below wz.heap.size wz wl ∧ Hid (wl.ownsRow wz.heap.size 38 3 (.slice (some ⟨g, 0, none⟩) cs.length cap) cs.length (flat (updU (renC O.data.toList N.data.toList) k2 cs)))) (fun _ x _ => cs.length - (intOf x).toNat)
          case atStart => exact ⟨0, by omega, rfl, HBM.out, HO.out⟩
          case round =>
            obtain ⟨j, hj, rfl, hbl, HOJ⟩ := hrel
            obtain ⟨wl, hwl⟩ : ∃ W, W = wr := ⟨_, rfl⟩
            subst hwl
            have HBL := Lib.hid hbl
            clear hbl
            by_cases hjc : j < cs.length
            · have hat := updU_at (renC O.data.toList N.data.toList) j cs
              have hul := updU_len (renC O.data.toList N.data.toList) j cs
              have hju : j < (updU (renC O.data.toList N.data.toList) j cs).length := by rw [hul]; exact hjc
              rw [List.getElem?_eq_getElem hju, List.getElem?_eq_getElem hjc, Option.some.injEq] at hat
              obtain ⟨f0, f1, f2⟩ := flat_at hju
              rw [hat] at f0 f1 f2
              have d0 := (HOJ.out.cellAt (j * 3) (by omega)).trans f0
              have d2 := (HOJ.out.cellAt (j * 3 + 2) (by omega)).trans f2
              obtain ⟨Y, hY, hYl⟩ := bstr_some cs[j].nm
              rw [hY] at d2
              have hfz := own_frozen HOJ.out (j * 3 + 2)
              have hyes : cs[j].op = 5 → Y.data.toList = O.data.toList → flat (updU (renC O.data.toList N.data.toList) (j + 1) cs) = (flat (updU (renC O.data.toList N.data.toList) j cs)).set (j * 3 + 2) (.string N) := by
                intro h5 hyo
                rw [updU_succ _ _ _ hjc, ← bstr_of N]
                have := flat_set N.data.toList (updU (renC O.data.toList N.data.toList) j cs) j hju
                rw [hat] at this
                rw [this]
                congr 2
                unfold renC
                rw [if_pos ⟨h5, by rw [← hYl]; exact hyo⟩]
              have hno : (cs[j].op ≠ 5 ∨ Y.data.toList ≠ O.data.toList) → updU (renC O.data.toList N.data.toList) (j + 1) cs = updU (renC O.data.toList N.data.toList) j cs := by
                intro h
                refine updU_same _ _ _ hjc ?_
                unfold renC
                rw [if_neg]
                rintro ⟨h5, h6⟩
                rcases h with h | h
                · exact h h5
                · exact h (by rw [hYl]; exact h6)
              have HYES := Lib.hid hyes; have HNO := Lib.hid hno
              clear hyes hno hat hul hju f0 f1 f2 hY hYl
              generalize cs[j].op = co at *
              by_cases h5 : co = 5
              · subst h5
                by_cases hyo : Y.data.toList = O.data.toList
                · have HO2 := Lib.hid (own_set HOJ.out (j * 3 + 2) (.string N))
                  rw [← HYES.out rfl hyo] at HO2
                  obtain rfl := str_eq hyo
                  have HBW : Hid (Below wz.heap.size wz (wl.setCell ⟨g, j * 3 + 2, none⟩ (.string N))) := HBL.out.setCell HGL.out _
                  clear HYES HNO
                  go_wp2
                  go_roundw
                  case rel => exact ⟨j + 1, by omega, by go_num, HBW.out, HO2⟩
                  case measure => simp [intOf]; omega
                · have HE2 := Lib.hid (HNO.out (Or.inr hyo))
                  have sne := str_ne hyo
                  have sne' := str_ne (Ne.symm hyo)
                  clear HYES HNO
                  go_wp2
                  go_roundw
                  case rel => exact ⟨j + 1, by omega, by go_num, HBL.out, by rw [HE2.out]; exact HOJ⟩
                  case measure => simp [intOf]; omega
              · have HE2 := Lib.hid (HNO.out (Or.inl h5))
                have t5 := int_ne h5
                clear HYES HNO
                go_wp2
                go_roundw
                case rel => exact ⟨j + 1, by omega, by go_num, HBL.out, by rw [HE2.out]; exact HOJ⟩
                case measure => simp [intOf]; omega
            · obtain rfl : j = cs.length := by omega
              have ho := HOJ.out
              rw [updU_all _ _ _ (Nat.le_refl _)] at ho
              have HOC := Lib.hid ho
              have l40 := (HBL.out.cell (cell_lt c40')).trans c40'
              have l41 := (HBL.out.cell (cell_lt c41')).trans c41'
              clear ho HOJ
              have HE0 : Hid ((wl.alloc (.cells #[] 44)).ownsRow wl.heap.size 44 7 (.slice (some ⟨wl.heap.size, 0, none⟩) 0 0) 0 []) := World.ownsRow_made wl #[] 0 (Nat.le_refl _) (by unfold maxLen; omega) (by simp)
              have HBA : Hid (Below wl.heap.size wl (wl.alloc (.cells #[] 44))) := (Below.refl _ _).alloc (Nat.le_refl _) _
              have l40a := (HBA.out.cell (cell_lt l40)).trans l40
              have HWL : Hid (Below w.heap.size w wl) := HB2.out.trans (HBL.out.mono HB2.out.size)
              have HIV : Hid (Inn (wl.alloc (.cells #[] 44)) 7 (.slice (some ⟨vb, vo, none⟩) k vc) k (flatV vs)) := by
                have h := HVR.out _ (HWL.out.trans (HBA.out.mono HWL.out.size))
                unfold RdV at h
                rw [HNV.out] at h
                exact h
              go_wp2_with (at_builtin; refine Ow.wpList_append rfl (.tmp 85) (.tmp 87) 23 rfl wl.heap.size 44 iv _ 7 64 Try.underlying23 HV0.out HV1.out HV2.out HV3.out rfl (by decide) _ 0 [] rfl HE0.out _ k (flatV vs) rfl HIV.out (flatV_vals vs) (by unfold maxLen; omega) (by omega) (by simp) ?_)
              intro v13 wp hown hgr _
              have ho : wp.ownsRow wl.heap.size 44 7 v13 k (flatV vs) := by simpa using hown
              have HBP : Hid (Below wl.heap.size wl wp) := HBA.out.grown hgr (by simp) (fun k hk => (HE0.out.lt k hk).1)
              rcases own_form ho with ⟨_, h0⟩ | ⟨g2, cap2, rfl, _, _⟩
              · omega
              have HGL2 : Hid (wl.heap.size ≤ g2) := (ho.lt g2 rfl).1
              have HOV := Lib.hid ho
              clear hown hgr ho l40 l40a
              go_wp2
              go_loopw [14, 91] (fun _ x91 wq => ∃ k3 : Nat, k3 ≤ k ∧ x91 = .int .i64 (k3 : Int) ∧ Below wl.heap.size wl wq ∧ Hid (wq.ownsRow wl.heap.size 44 7 (.slice (some ⟨g2, 0, none⟩) k cap2) k (flatV (updU (renV O.data.toList N.data.toList) k3 vs)))) (fun _ x _ => k - (intOf x).toNat)
              case atStart => exact ⟨0, by omega, rfl, HBP.out, HOV.out⟩
              case round =>
                obtain ⟨q, hq, rfl, hbq, HOQ⟩ := hrel
                obtain ⟨wq, hwq⟩ : ∃ W, W = wr := ⟨_, rfl⟩
                subst hwq
                have HBQ := Lib.hid hbq
                clear hbq
                by_cases hqn : q < k
                · have hqv : q < vs.length := by rw [HNV.out]; exact hqn
                  have hat := updU_at (renV O.data.toList N.data.toList) q vs
                  have hul := updU_len (renV O.data.toList N.data.toList) q vs
                  have hqu : q < (updU (renV O.data.toList N.data.toList) q vs).length := by rw [hul]; exact hqv
                  rw [List.getElem?_eq_getElem hqu, List.getElem?_eq_getElem hqv, Option.some.injEq] at hat
                  have f0 := flatV_at hqu (j := 0) (by omega)
                  rw [hat] at f0
                  have d00 := (HOQ.out.cellAt (q * 7) (by omega)).trans (f0.trans rfl)
                  obtain ⟨Y, hY, hYl⟩ := bstr_some vs[q].nm
                  have d0 : wq.cell? ⟨g2, q * 7, none⟩ = some (.string Y) := d00.trans (by rw [← hY]; rfl)
                  clear d00
                  have hfz := own_frozen HOQ.out (q * 7)
                  have hyes : Y.data.toList = O.data.toList → flatV (updU (renV O.data.toList N.data.toList) (q + 1) vs) = (flatV (updU (renV O.data.toList N.data.toList) q vs)).set (q * 7) (.string N) := by
                    intro hyo
                    rw [updU_succ _ _ _ hqv, ← bstr_of N]
                    have := flatV_set N.data.toList (updU (renV O.data.toList N.data.toList) q vs) q hqu
                    rw [hat] at this
                    rw [this]
                    congr 2
                    unfold renV
                    rw [if_pos (by rw [← hYl]; exact hyo)]
                  have hno : Y.data.toList ≠ O.data.toList → updU (renV O.data.toList N.data.toList) (q + 1) vs = updU (renV O.data.toList N.data.toList) q vs := by
                    intro h
                    refine updU_same _ _ _ hqv ?_
                    unfold renV
                    rw [if_neg (fun h6 => h (by rw [hYl]; exact h6))]
                  have HYES := Lib.hid hyes; have HNO := Lib.hid hno
                  clear hyes hno hat hul hqu f0 hY hYl
                  by_cases hyo : Y.data.toList = O.data.toList
                  · have HO2 := Lib.hid (own_set HOQ.out (q * 7) (.string N))
                    rw [← HYES.out hyo] at HO2
                    obtain rfl := str_eq hyo
                    have HBW : Hid (Below wl.heap.size wl (wq.setCell ⟨g2, q * 7, none⟩ (.string N))) := HBQ.out.setCell HGL2.out _
                    clear HYES HNO
                    go_wp2
                    go_roundw
                    case rel => exact ⟨q + 1, by omega, by go_num, HBW.out, HO2⟩
                    case measure => simp [intOf]; omega
                  · have HE2 := Lib.hid (HNO.out hyo)
                    have sne := str_ne hyo
                    have sne' := str_ne (Ne.symm hyo)
                    clear HYES HNO
                    go_wp2
                    go_roundw
                    case rel => exact ⟨q + 1, by omega, by go_num, HBQ.out, by rw [HE2.out]; exact HOQ⟩
                    case measure => simp [intOf]; omega
                · obtain rfl : q = k := by omega
                  have ho := HOQ.out
                  rw [updU_all _ _ _ (by rw [HNV.out]; exact Nat.le_refl _)] at ho
                  have s41 := (HBQ.out.cell (cell_lt l41)).trans l41
                  have HWQ : Hid (Below w.heap.size w wq) := HWL.out.trans (HBQ.out.mono HWL.out.size)
                  have hmr := own_below HOC.out HBQ.out
                  have hml : (cs.map (renC O.data.toList N.data.toList)).length = cs.length := by rw [List.length_map]
                  have hvl2 : (vs.map (renV O.data.toList N.data.toList)).length = q := by rw [List.length_map]; exact HNV.out
                  have hrd : RdC wq (.slice (some ⟨g, 0, none⟩) cs.length cap) (cs.map (renC O.data.toList N.data.toList)) := own_rd (by rw [hml]; exact hmr)
                  have hrv : RdV wq (.slice (some ⟨g2, 0, none⟩) q cap2) (vs.map (renV O.data.toList N.data.toList)) := by
                    unfold RdV
                    rw [hvl2]
                    exact Inn.of_own ho
                  have HKO := Lib.hid (kindsOf_any (.slice (some ⟨g, 0, none⟩) cs.length cap) (.slice (some ⟨g2, 0, none⟩) q cap2) (.slice S ss.length sc) _ _ ss wq hrd (by rw [hml]; omega) hrv (by rw [hvl2]; omega) (HSR.out _ HWQ.out) (by omega))
                  rw [HREN.out] at HKO
                  have hnm2 : Names (cs.map (renC O.data.toList N.data.toList)) := by
                    intro c hc
                    obtain ⟨d, hd, rfl⟩ := List.mem_map.1 hc
                    unfold renC
                    split
                    · simpa using hN
                    · exact HNM.out d hd
                  have HRR := Lib.hid (fun W (hb : Below wq.heap.size wq W) => refRight_any (.slice (some ⟨g, 0, none⟩) cs.length cap) (cs.map (renC O.data.toList N.data.toList)) W (hrd.below hb) (by rw [hml]; omega) hnm2)
                  have HK2 := HOK.out
                  clear ho HOQ hmr hrd hrv hnm2 hml hvl2 HREN
                  cases hrt : rightB (cs.map (renC O.data.toList N.data.toList)) with
                  | false =>
                    rw [hrt] at HKO HRR
                    rw [if_neg (by decide)] at HKO
                    clear hrt
                    go_wp2_with fail
                    refine HKO.out.mono ?_
                    rintro e w5 ⟨rfl, hb5⟩
                    have HB5 := Lib.hid hb5
                    clear hb5
                    go_wp2_with fail
                    refine (HRR.out _ HB5.out).mono ?_
                    rintro e w6 ⟨rfl, hb6⟩
                    have HB6 := Lib.hid (HWQ.out.trans ((HB5.out.trans (hb6.mono HB5.out.size)).mono HWQ.out.size))
                    clear hb6
                    go_wp2
                    go_ret
                    exact ⟨rfl, HB6.out⟩
                  | true =>
                    rw [hrt] at HKO HRR
                    rw [if_pos rfl, HK2] at HKO
                    clear hrt
                    go_wp2_with fail
                    refine HKO.out.mono ?_
                    rintro e w5 ⟨rfl, hb5⟩
                    have HB5 := Lib.hid hb5
                    clear hb5
                    go_wp2_with fail
                    refine (HRR.out _ HB5.out).mono ?_
                    rintro e w6 ⟨rfl, hb6⟩
                    have HB6 := Lib.hid (HWQ.out.trans ((HB5.out.trans (hb6.mono HB5.out.size)).mono HWQ.out.size))
                    clear hb6
                    go_wp2
                    go_ret
                    exact ⟨rfl, HB6.out⟩
    · have hz : vs.length = 0 := by omega
      have hzz : ((vs.length : Int) == 0) = true := by rw [hz]; rfl
      clear hv0 hz
      go_wp2
      go_ret
      exact ⟨rfl, HB2.out⟩
  · have t1 := bne_iff_ne.2 hok
    clear hok
    go_wp2
    go_ret
    exact ⟨rfl, HB2.out⟩
end Go.Proofs.Ytmpelnbhlhifeaa
