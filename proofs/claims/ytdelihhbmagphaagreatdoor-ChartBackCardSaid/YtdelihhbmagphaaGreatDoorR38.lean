/- Own texts, joined: Tv. -/
import Derived.Test.YtdelihhbmagphaaGreatDoorR37
namespace Go.Proofs.YtdelihhbmagphaaGreatDoor.Ch
open Go.RowKit
theorem ChIn.below {W W' : World} {c : CH} {e1 v1 s1 t1 : Value} {sp : List SP} {tp : List TP} (h : ChIn W c e1 v1 s1 t1 sp tp) (hb : Below W.heap.size W W') : ChIn W' c e1 v1 s1 t1 sp tp := ⟨h.m.below hb, h.z, h.sm, h.es, h.vs, h.ss, h.ts⟩
set_option maxRecDepth 100000 in
set_option maxHeartbeats 16000000 in
theorem back_law (c : CH) (e1 v1 s1 t1 : Value) (sp : List SP) (tp : List TP) (w : World) (h : ChIn w c e1 v1 s1 t1 sp tp) (hE : Env w) :
  Calls Tryz.prog 5 #[.agg #[bstr c.nm, e1, v1, s1, t1]] w fun e w' => e = .returned (.bool true) ∧ Below w.heap.size w w' := by
 obtain ⟨N, hN, _⟩ := bstr_some c.nm
 rw [hN]
 have HI := Lib.hid h; have HE := Lib.hid hE; have HN := Lib.hid hN
 obtain ⟨wa, hwa⟩ : ∃ W, W = w.alloc (.cells #[.string N, e1, v1, s1, t1] 27) := ⟨_, rfl⟩
 have hba : Below w.heap.size w wa := hwa ▸ (Below.refl _ _).alloc (Nat.le_refl _) _
 have hra : wa.heap[w.heap.size]? = some (.cells #[.string N, e1, v1, s1, t1] 27 (0, 0)) := by rw [hwa]; exact World.alloc_heap_new w _
 have HWK := Lib.hid (wakes8_any wa (hE.below hba))
 have HWA := Lib.hid hwa; have HBA := Lib.hid hba; have HRA := Lib.hid hra
 clear h hE hN hwa hba hra
 go_enter Tryz.func5, Tryz.ntmps5
 go_upto_region 1 with fail
 rw [← HWA.out]
 go_wp2_with fail
 go_at_call 10
 refine HWK.out.mono ?_
 rintro e w2 ⟨rfl, hb2⟩
 have HB2 := Lib.hid (HBA.out.trans (hb2.mono HBA.out.size))
 have HR2 := Lib.hid ((hb2.block _ (lt_of_heap HRA.out)).trans HRA.out)
 obtain ⟨d0, d1, d2, d3, d4⟩ := box_cells HR2.out
 have HLG : Hid (Calls Tryz.prog 12 #[.agg #[.string N, e1, v1, s1, t1]] w2 fun e w' => e = .returned (.bool (decide (200 < sp.length) || decide (200 < tp.length))) ∧ Below w2.heap.size w2 w') := by
  have h := long_any c e1 v1 s1 t1 sp tp w2 (HI.out.m.below HB2.out)
  rw [HN.out] at h
  exact h
 clear hb2 HWK
 generalize (decide (200 < sp.length) || decide (200 < tp.length)) = lg at *
 go_wp2_with fail
 go_at_call 12
 refine HLG.out.mono ?_
 rintro e w3 ⟨rfl, hb3⟩
 have HB3 := Lib.hid (HB2.out.trans (hb3.mono HB2.out.size))
 have HR3 := Lib.hid ((hb3.block _ (lt_of_heap HR2.out)).trans HR2.out)
 clear hb3 HLG d0 d1 d2 d3 d4
 cases lg with
 | true =>
  go_wp2
  go_ret
  exact ⟨rfl, HB3.out⟩
 | false =>
  obtain ⟨d0, d1, d2, d3, d4⟩ := box_cells HR3.out
  have HCP : Hid (Calls Tryz.prog 14 #[.agg #[.string N, e1, v1, s1, t1]] w3 (CpPost c sp tp w3)) := by
   have h := copied_any c e1 v1 s1 t1 sp tp w3 (HI.out.below HB3.out)
   rw [HN.out] at h
   exact h
  go_wp2_with fail
  go_at_call 14
  refine HCP.out.mono ?_
  rintro e w4 ⟨⟨e1', v1', s1', t1', rfl, hM, hcap⟩, hb4⟩
  rw [HN.out]
  have HB4 := Lib.hid (HB3.out.trans (hb4.mono HB3.out.size))
  have HR4 := Lib.hid ((hb4.block _ (lt_of_heap HR3.out)).trans HR3.out)
  have HSH : Hid (Calls Tryz.prog 13 #[.agg #[.string N, e1', v1', s1', t1']] w4 fun e w' => e = .returned (.tuple #[bstr (showC c).1, .int .i64 (showC c).2]) ∧ Below w4.heap.size w4 w') := by
   have h := chartShow_any c e1' v1' s1' t1' sp tp w4 hM hcap HI.out.z (HE.out.below HB4.out)
   rw [HN.out] at h
   exact h
  clear hb4 HCP d0 d1 d2 d3 d4 hM hcap
  go_wp2_with fail
  go_at_call 13
  refine HSH.out.mono ?_
  rintro e w5 ⟨rfl, hb5⟩
  have HB5 := Lib.hid (HB4.out.trans (hb5.mono HB4.out.size))
  have HR5 := Lib.hid ((hb5.block _ (lt_of_heap HR4.out)).trans HR4.out)
  obtain ⟨X, hX, hXl⟩ := bstr_some (showC c).1
  rw [hX]
  clear hb5 HSH
  by_cases hf : (showC c).2 = 0
  ·have hal := show_alike hf
   rw [hf]
   rw [← hXl] at hal
   have HP2 := Lib.hid (parse_form X w5 (HE.out.below HB5.out))
   rw [hal] at HP2
   clear hal hX hXl hf
   go_wp2_with fail
   go_at_call 8
   refine HP2.out.mono ?_
   rintro e w6 ⟨N', B1, B2, B3, B4, m1, m2, m3, m4, k1, k2, k3, k4, sp', tp', rfl, hb6, hN', hO', -, -⟩
   obtain rfl : N' = N := by
    have := hN'.symm.trans HN.out
    injection this
   have HM2 := Lib.hid hO'.read
   obtain ⟨wb, hwb⟩ : ∃ W, W = w6.alloc (.cells #[.string N', .slice B1 m1 k1, .slice B2 m2 k2, .slice B3 m3 k3, .slice B4 m4 k4] 27) := ⟨_, rfl⟩
   have hbb : Below w6.heap.size w6 wb := hwb ▸ (Below.refl _ _).alloc (Nat.le_refl _) _
   have hrb : wb.heap[w6.heap.size]? = some (.cells #[.string N', .slice B1 m1 k1, .slice B2 m2 k2, .slice B3 m3 k3, .slice B4 m4 k4] 27 (0, 0)) := by rw [hwb]; exact World.alloc_heap_new w6 _
   have HBB := Lib.hid (HB5.out.trans ((hb6.trans (hbb.mono hb6.size)).mono HB5.out.size))
   have hr6 := (hb6.block _ (lt_of_heap HR5.out)).trans HR5.out
   have hlt : w.heap.size < w6.heap.size := lt_of_heap hr6
   obtain ⟨d0, d1, d2, d3, d4⟩ := box_cells hr6
   have HSM : Hid (Calls Tryz.prog 11 #[.agg #[.string N', e1, v1, s1, t1], .agg #[.string N', .slice B1 m1 k1, .slice B2 m2 k2, .slice B3 m3 k3, .slice B4 m4 k4]] wb fun e w' => e = .returned (.bool true) ∧ Below wb.heap.size wb w') := by
    have h := refSame_eq c _ _ _ _ _ _ _ _ sp sp' tp tp' wb (HI.out.m.below HBB.out) (HM2.out.below hbb) HI.out.sm
    rw [HN.out] at h
    exact h
   have HWB := Lib.hid hwb
   clear HP2 hb6 hN' hO' hwb hbb hrb hr6
   go_wp2_with fail
   go_at_call 11
   rw [← HWB.out]
   refine HSM.out.mono ?_
   rintro e w7 ⟨rfl, hb7⟩
   clear d0 d1 d2 d3 d4
   go_wp2
   go_ret
   exact ⟨rfl, HBB.out.trans (hb7.mono HBB.out.size)⟩
  ·have hX0 : X = ⟨#[]⟩ := by
    have := (show_none hf).1
    rw [this] at hXl
    exact str_eq hXl
   have h1 : (showC c).2 = 1 := by rw [(show_none hf).1]
   rw [h1]
   subst hX0
   clear hX hXl hf h1
   go_wp2
   go_ret
   exact ⟨rfl, HB5.out⟩
end Go.Proofs.YtdelihhbmagphaaGreatDoor.Ch
