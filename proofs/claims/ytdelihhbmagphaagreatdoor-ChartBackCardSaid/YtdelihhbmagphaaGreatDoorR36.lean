/- Own texts, joined: Ti, Tj. -/
import Derived.Test.YtdelihhbmagphaaGreatDoorR28
import Derived.Test.YtdelihhbmagphaaGreatDoorR35
namespace Go.Proofs.YtdelihhbmagphaaGreatDoor.Ch
open Go.RowKit
structure SmZ (c : CH) : Prop where
 es : c.es.length ≤ 140737488355328
 ss : ∀ s ∈ c.ss, s.en.length ≤ 140737488355328 ∧ s.ex.length ≤ 140737488355328
 ts : ∀ t ∈ c.ts, t.gd.length ≤ 140737488355328 ∧ t.ac.length ≤ 140737488355328
theorem blk_same {u v : Value} {l : List AM} {w : World} (ha : BlkR w u l) (hb : BlkR w v l) (hx : l.length ≤ 140737488355328) :
  Calls Tryz.prog 23 #[u, v] w fun e w' => e = .returned (.bool true) ∧ ∃ n, w' = w.drewN n := by
 obtain ⟨ps, h1, h2, _⟩ := ha
 obtain ⟨qs, h3, h4, _⟩ := hb
 have h := aSame_any u v ps qs w h2 h4 (by rw [← h1, List.length_map] at hx; exact hx)
 rw [decide_eq_true (h1.trans h3.symm)] at h
 exact h
theorem gd_same {u v : Value} {l : List CM} {w : World} (ha : GdR w u l) (hb : GdR w v l) (hx : l.length ≤ 140737488355328) :
  Calls Tryz.prog 24 #[u, v] w fun e w' => e = .returned (.bool true) ∧ ∃ n, w' = w.drewN n := by
 have h := Go.Proofs.YtdelihhbmagphaaGreatDoor.same_any u v l l w ha.1.rd hb.1.rd hx
 rw [decide_eq_true rfl] at h
 exact h
theorem fst_two {α β : Type} {xs ys : List (α × β)} {l : List α} (hx : xs.map Prod.fst = l) (hy : ys.map Prod.fst = l) {k : Nat} (h1 : k < xs.length) (h2 : k < ys.length) : ys[k].1 = xs[k].1 := by
 have e1 : l[k]? = some xs[k].1 := by rw [← hx]; exact fst_atG h1
 have e2 : l[k]? = some ys[k].1 := by rw [← hy]; exact fst_atG h2
 rw [e1] at e2
 exact (Option.some.inj e2).symm
set_option maxRecDepth 100000 in
set_option maxHeartbeats 16000000 in
theorem refSame_eq (c : CH) (x1 x2 x3 x4 y1 y2 y3 y4 : Value) (xsp ysp : List SP) (xtp ytp : List TP) (w : World) (hp : ChM w c x1 x2 x3 x4 xsp xtp) (hq : ChM w c y1 y2 y3 y4 ysp ytp) (hz : SmZ c) :
  Calls Tryz.prog 11 #[.agg #[bstr c.nm, x1, x2, x3, x4], .agg #[bstr c.nm, y1, y2, y3, y4]] w fun e w' => e = .returned (.bool true) ∧ Below w.heap.size w w' := by
 obtain ⟨nm, es, vs, ss, ts⟩ := c
 have HP := Lib.hid hp; have HQ := Lib.hid hq
 obtain ⟨A1, c1, rfl⟩ := Inn.form hp.es
 obtain ⟨A2, c2, rfl⟩ := Inn.form hp.vs
 obtain ⟨A3, c3, rfl⟩ := Inn.form hp.ss
 obtain ⟨A4, c4, rfl⟩ := Inn.form hp.ts
 obtain ⟨B1, d1, rfl⟩ := Inn.form hq.es
 obtain ⟨B2, d2, rfl⟩ := Inn.form hq.vs
 obtain ⟨B3, d3, rfl⟩ := Inn.form hq.ss
 obtain ⟨B4, d4, rfl⟩ := Inn.form hq.ts
 obtain ⟨N, hN, _⟩ := bstr_some nm
 have hyl3 : ysp.length = xsp.length := by have h1 := congrArg List.length hp.ssE; have h2 := congrArg List.length hq.ssE; rw [List.length_map] at h1 h2; omega
 have hyl4 : ytp.length = xtp.length := by have h1 := congrArg List.length hp.tsE; have h2 := congrArg List.length hq.tsE; rw [List.length_map] at h1 h2; omega
 have HYL3 := Lib.hid hyl3; have HYL4 := Lib.hid hyl4
 simp only
 rw [hN, hyl3, hyl4]
 obtain ⟨nv, hnv⟩ : ∃ n, vs.length = n := ⟨_, rfl⟩
 obtain ⟨ns, hns⟩ : ∃ n, xsp.length = n := ⟨_, rfl⟩
 obtain ⟨nt, hnt⟩ : ∃ n, xtp.length = n := ⟨_, rfl⟩
 have hvl := hp.vl; have hsl := hp.sl; have htl := hp.tl
 simp only at hvl
 rw [hnv] at hvl; rw [hns] at hsl; rw [hnt] at htl
 rw [hnv, hns, hnt]
 have HNV := Lib.hid hnv; have HNS := Lib.hid hns; have HNT := Lib.hid hnt
 have HPV : Hid (Inn w 7 (.slice A2 nv c2) nv (flatV vs)) := by have := hp.vs; rw [← hnv]; exact this
 have HQV : Hid (Inn w 7 (.slice B2 nv d2) nv (flatV vs)) := by have := hq.vs; rw [← hnv]; exact this
 have HPS : Hid (Inn w 6 (.slice A3 ns c3) ns (flatS xsp)) := by have := hp.ss; rw [← hns]; exact this
 have HQS : Hid (Inn w 6 (.slice B3 ns d3) ns (flatS ysp)) := by have := hq.ss; rw [← hns, ← hyl3]; exact this
 have HPT : Hid (Inn w 5 (.slice A4 nt c4) nt (flatT xtp)) := by have := hp.ts; rw [← hnt]; exact this
 have HQT : Hid (Inn w 5 (.slice B4 nt d4) nt (flatT ytp)) := by have := hq.ts; rw [← hnt, ← hyl4]; exact this
 have HSZ : Hid (∀ s ∈ ss, s.en.length ≤ 140737488355328 ∧ s.ex.length ≤ 140737488355328) := hz.ss
 have HTZ : Hid (∀ t ∈ ts, t.gd.length ≤ 140737488355328 ∧ t.ac.length ≤ 140737488355328) := hz.ts
 have HSE : Hid (∀ W, Below w.heap.size w W → Calls Tryz.prog 22 #[.slice A1 es.length c1, .slice B1 es.length d1] W fun e w' => e = .returned (.bool true) ∧ ∃ n, w' = W.drewN n) := fun W hW => by
  have h := same2_any (.slice A1 es.length c1) (.slice B1 es.length d1) es es W (hp.es.below hW) (hq.es.below hW) hz.es
  rw [decide_eq_true rfl] at h
  exact h
 obtain ⟨w2, hw2⟩ : ∃ W, W = (w.alloc (.cells #[.string N, .slice A1 es.length c1, .slice A2 nv c2, .slice A3 ns c3, .slice A4 nt c4] 27)).alloc (.cells #[.string N, .slice B1 es.length d1, .slice B2 nv d2, .slice B3 ns d3, .slice B4 nt d4] 27) := ⟨_, rfl⟩
 have hb2 : Below w.heap.size w w2 := by rw [hw2]; exact ((Below.refl _ _).alloc (Nat.le_refl _) _).alloc (by simp) _
 have hcA : w2.cell? ⟨w.heap.size, 0, none⟩ = some (.string N) ∧ w2.cell? ⟨w.heap.size, 1, none⟩ = some (.slice A1 es.length c1) ∧ w2.cell? ⟨w.heap.size, 2, none⟩ = some (.slice A2 nv c2) ∧ w2.cell? ⟨w.heap.size, 3, none⟩ = some (.slice A3 ns c3) ∧ w2.cell? ⟨w.heap.size, 4, none⟩ = some (.slice A4 nt c4) := by rw [hw2]; simp
 have hcB : w2.cell? ⟨w.heap.size + 1, 0, none⟩ = some (.string N) ∧ w2.cell? ⟨w.heap.size + 1, 1, none⟩ = some (.slice B1 es.length d1) ∧ w2.cell? ⟨w.heap.size + 1, 2, none⟩ = some (.slice B2 nv d2) ∧ w2.cell? ⟨w.heap.size + 1, 3, none⟩ = some (.slice B3 ns d3) ∧ w2.cell? ⟨w.heap.size + 1, 4, none⟩ = some (.slice B4 nt d4) := by rw [hw2]; simp
 have HB2 := Lib.hid hb2; have HCA := Lib.hid hcA; have HCB := Lib.hid hcB; have HW2 := Lib.hid hw2
 have hsz2 : w2.heap.size = w.heap.size + 1 + 1 := by rw [hw2]; simp
 have HZ2 := Lib.hid hsz2
 clear hp hq hz hN hyl3 hyl4 hnv hns hnt hb2 hcA hcB hw2 hsz2
 obtain ⟨a0, a1, a2, a3, a4⟩ := HCA.out
 obtain ⟨b0, b1, b2, b3, b4⟩ := HCB.out
 go_enter Tryz.func11, Tryz.ntmps11
 go_upto_region 1 with fail
 rw [← HW2.out]
 go_wp2_with (go_at_call 22; refine (HSE.out _ HB2.out).mono ?_; rintro e w3 ⟨rfl, q0, rfl⟩)
 clear a0 a1 a2 a3 a4 b0 b1 b2 b3 b4
 go_loopw [5] (fun x5 wr => ∃ k : Nat, k ≤ nv ∧ x5 = .int .i64 k ∧ Hid (Below w2.heap.size w2 wr)) (fun x _ => nv - (intOf x).toNat)
 case atStart => exact ⟨0, Nat.zero_le _, rfl, Lib.hid (below_drewN (Below.refl _ _) _)⟩
 case round =>
  obtain ⟨k, hk, rfl, HBR⟩ := hrel
  obtain ⟨wl, hwl⟩ : ∃ W, W = wr := ⟨_, rfl⟩
  subst hwl
  have hbl := HB2.out.trans (HBR.out.mono HB2.out.size)
  have a2 := (HBR.out.cell (p := ⟨w.heap.size, 2, none⟩) (by show w.heap.size < _; rw [HZ2.out]; omega)).trans HCA.out.2.2.1
  have b2 := (HBR.out.cell (p := ⟨w.heap.size + 1, 2, none⟩) (by show w.heap.size + 1 < _; rw [HZ2.out]; omega)).trans HCB.out.2.2.1
  by_cases hkn : k < nv
  ·have hkl : k < vs.length := by rw [HNV.out]; exact hkn
   obtain ⟨g, o, rfl, _, hc⟩ := Inn.at_ (HPV.out.below hbl) hkn
   obtain ⟨h, u, rfl, _, hd⟩ := Inn.at_ (HQV.out.below hbl) hkn
   have e0 : wl.cell? ⟨g, o + k * 7, none⟩ = some (bstr vs[k].nm) := hc 0 _ ((flatM_at vaV 7 (fun _ => rfl) hkl (by omega)).trans rfl)
   have e1 : wl.cell? ⟨g, o + k * 7 + 1, none⟩ = some (.int .i64 vs[k].kd) := hc 1 _ ((flatM_at vaV 7 (fun _ => rfl) hkl (by omega)).trans rfl)
   have e2 : wl.cell? ⟨g, o + k * 7 + 2, none⟩ = some (.int .i64 vs[k].lo) := hc 2 _ ((flatM_at vaV 7 (fun _ => rfl) hkl (by omega)).trans rfl)
   have e3 : wl.cell? ⟨g, o + k * 7 + 3, none⟩ = some (.int .i64 vs[k].hi) := hc 3 _ ((flatM_at vaV 7 (fun _ => rfl) hkl (by omega)).trans rfl)
   have e4 : wl.cell? ⟨g, o + k * 7 + 4, none⟩ = some (.int .i64 vs[k].ik) := hc 4 _ ((flatM_at vaV 7 (fun _ => rfl) hkl (by omega)).trans rfl)
   have e5 : wl.cell? ⟨g, o + k * 7 + 5, none⟩ = some (.int .i64 vs[k].ia) := hc 5 _ ((flatM_at vaV 7 (fun _ => rfl) hkl (by omega)).trans rfl)
   have e6 : wl.cell? ⟨g, o + k * 7 + 6, none⟩ = some (.int .i64 vs[k].ib) := hc 6 _ ((flatM_at vaV 7 (fun _ => rfl) hkl (by omega)).trans rfl)
   have f0 : wl.cell? ⟨h, u + k * 7, none⟩ = some (bstr vs[k].nm) := hd 0 _ ((flatM_at vaV 7 (fun _ => rfl) hkl (by omega)).trans rfl)
   have f1 : wl.cell? ⟨h, u + k * 7 + 1, none⟩ = some (.int .i64 vs[k].kd) := hd 1 _ ((flatM_at vaV 7 (fun _ => rfl) hkl (by omega)).trans rfl)
   have f2 : wl.cell? ⟨h, u + k * 7 + 2, none⟩ = some (.int .i64 vs[k].lo) := hd 2 _ ((flatM_at vaV 7 (fun _ => rfl) hkl (by omega)).trans rfl)
   have f3 : wl.cell? ⟨h, u + k * 7 + 3, none⟩ = some (.int .i64 vs[k].hi) := hd 3 _ ((flatM_at vaV 7 (fun _ => rfl) hkl (by omega)).trans rfl)
   have f4 : wl.cell? ⟨h, u + k * 7 + 4, none⟩ = some (.int .i64 vs[k].ik) := hd 4 _ ((flatM_at vaV 7 (fun _ => rfl) hkl (by omega)).trans rfl)
   have f5 : wl.cell? ⟨h, u + k * 7 + 5, none⟩ = some (.int .i64 vs[k].ia) := hd 5 _ ((flatM_at vaV 7 (fun _ => rfl) hkl (by omega)).trans rfl)
   have f6 : wl.cell? ⟨h, u + k * 7 + 6, none⟩ = some (.int .i64 vs[k].ib) := hd 6 _ ((flatM_at vaV 7 (fun _ => rfl) hkl (by omega)).trans rfl)
   have hneq : ∀ W, _ := fun W => neq_var vs[k] vs[k] W
   rw [decide_eq_true rfl, Bool.not_true] at hneq
   clear hc hd hbl
   generalize vs[k] = x at *
   obtain ⟨xn, xk, xlo, xhi, xik, xia, xib⟩ := x
   obtain ⟨X, hX, _⟩ := bstr_some xn
   simp only at e0 e1 e2 e3 e4 e5 e6 f0 f1 f2 f3 f4 f5 f6 hneq
   rw [hX] at e0 f0 hneq
   clear hX
   go_wp2_with fail
   go_quiet (fail)
   go_wp2
   go_roundw
   case rel => exact ⟨k + 1, by omega, by go_num, Lib.hid (by first | exact HBR.out.drew | exact below_drewN HBR.out.drew _ | exact below_drewN HBR.out _)⟩
   case measure => simp [intOf]; omega
  ·clear hbl hk
   go_wp2
   go_loopw [6, 7, 8] (fun x6 x7 x8 wr => (x7 = x7 ∧ x8 = x8) ∧ ∃ k : Nat, k ≤ ns ∧ x6 = .int .i64 k ∧ Hid (Below w2.heap.size w2 wr)) (fun x _ _ _ => ns - (intOf x).toNat)
   case atStart => exact ⟨⟨rfl, rfl⟩, 0, Nat.zero_le _, rfl, HBR⟩
   case round =>
    clear HBR
    obtain ⟨_, k, hk, rfl, HBR⟩ := hrel
    obtain ⟨wl, hwl⟩ : ∃ W, W = wr := ⟨_, rfl⟩
    subst hwl
    have hbl := HB2.out.trans (HBR.out.mono HB2.out.size)
    have a2 := (HBR.out.cell (p := ⟨w.heap.size, 3, none⟩) (by show w.heap.size < _; rw [HZ2.out]; omega)).trans HCA.out.2.2.2.1
    have b2 := (HBR.out.cell (p := ⟨w.heap.size + 1, 3, none⟩) (by show w.heap.size + 1 < _; rw [HZ2.out]; omega)).trans HCB.out.2.2.2.1
    have hlt : w.heap.size + 1 < wl.heap.size := by have := HBR.out.size; rw [HZ2.out] at this; omega
    by_cases hkn : k < ns
    ·have hkl : k < xsp.length := by rw [HNS.out]; exact hkn
     have hkm : k < ysp.length := by rw [HYL3.out]; exact hkl
     have hxy := fst_two HP.out.ssE HQ.out.ssE hkl hkm
     obtain ⟨g, o, rfl, _, hc⟩ := Inn.at_ (HPS.out.below hbl) hkn
     obtain ⟨h, u, rfl, _, hd⟩ := Inn.at_ (HQS.out.below hbl) hkn
     have e0 : wl.cell? ⟨g, o + k * 6, none⟩ = some (bstr xsp[k].1.nm) := hc 0 _ ((flatM_at stV 6 (fun _ => rfl) hkl (by omega)).trans rfl)
     have e1 : wl.cell? ⟨g, o + k * 6 + 1, none⟩ = some (.int .i64 xsp[k].1.kd) := hc 1 _ ((flatM_at stV 6 (fun _ => rfl) hkl (by omega)).trans rfl)
     have e2 : wl.cell? ⟨g, o + k * 6 + 2, none⟩ = some (.int .i64 xsp[k].1.dp) := hc 2 _ ((flatM_at stV 6 (fun _ => rfl) hkl (by omega)).trans rfl)
     have e3 : wl.cell? ⟨g, o + k * 6 + 3, none⟩ = some (bstr xsp[k].1.ini) := hc 3 _ ((flatM_at stV 6 (fun _ => rfl) hkl (by omega)).trans rfl)
     have e4 : wl.cell? ⟨g, o + k * 6 + 4, none⟩ = some xsp[k].2.1 := hc 4 _ ((flatM_at stV 6 (fun _ => rfl) hkl (by omega)).trans rfl)
     have e5 : wl.cell? ⟨g, o + k * 6 + 5, none⟩ = some xsp[k].2.2 := hc 5 _ ((flatM_at stV 6 (fun _ => rfl) hkl (by omega)).trans rfl)
     have f0 : wl.cell? ⟨h, u + k * 6, none⟩ = some (bstr ysp[k].1.nm) := hd 0 _ ((flatM_at stV 6 (fun _ => rfl) hkm (by omega)).trans rfl)
     have f1 : wl.cell? ⟨h, u + k * 6 + 1, none⟩ = some (.int .i64 ysp[k].1.kd) := hd 1 _ ((flatM_at stV 6 (fun _ => rfl) hkm (by omega)).trans rfl)
     have f2 : wl.cell? ⟨h, u + k * 6 + 2, none⟩ = some (.int .i64 ysp[k].1.dp) := hd 2 _ ((flatM_at stV 6 (fun _ => rfl) hkm (by omega)).trans rfl)
     have f3 : wl.cell? ⟨h, u + k * 6 + 3, none⟩ = some (bstr ysp[k].1.ini) := hd 3 _ ((flatM_at stV 6 (fun _ => rfl) hkm (by omega)).trans rfl)
     have f4 : wl.cell? ⟨h, u + k * 6 + 4, none⟩ = some ysp[k].2.1 := hd 4 _ ((flatM_at stV 6 (fun _ => rfl) hkm (by omega)).trans rfl)
     have f5 : wl.cell? ⟨h, u + k * 6 + 5, none⟩ = some ysp[k].2.2 := hd 5 _ ((flatM_at stV 6 (fun _ => rfl) hkm (by omega)).trans rfl)
     have HDX := Lib.hid ((HP.out.sd _ (List.getElem_mem hkl)).below hbl)
     have HDY := Lib.hid ((HQ.out.sd _ (List.getElem_mem hkm)).below hbl)
     have hmem : xsp[k].1 ∈ ss := (show xsp.map Prod.fst = ss from HP.out.ssE) ▸ List.mem_map_of_mem (List.getElem_mem hkl)
     have HZK := Lib.hid (HSZ.out _ hmem)
     clear hc hd hmem
     generalize xsp[k] = x at *
     generalize ysp[k] = y at *
     obtain ⟨x, u1, u2⟩ := x
     obtain ⟨y, v1, v2⟩ := y
     simp only at hxy e0 e1 e2 e3 e4 e5 f0 f1 f2 f3 f4 f5 HDX HDY HZK
     subst hxy
     obtain ⟨znm, zkd, zdp, zini, zen, zex⟩ := y
     obtain ⟨Xnm, hnm, _⟩ := bstr_some znm
     obtain ⟨Xini, hini, _⟩ := bstr_some zini
     simp only at e0 e1 e2 e3 e4 e5 f0 f1 f2 f3 f4 f5
     rw [hnm] at e0 f0
     clear hnm
     rw [hini] at e3 f3
     clear hini
     have HEN : Hid (∀ W, Below wl.heap.size wl W → Calls Tryz.prog 23 #[u1, v1] W fun e w' => e = .returned (.bool true) ∧ ∃ n, w' = W.drewN n) := fun W hW => blk_same (HDX.out.1.below hW) (HDY.out.1.below hW) HZK.out.1
     have HEX : Hid (∀ W, Below wl.heap.size wl W → Calls Tryz.prog 23 #[u2, v2] W fun e w' => e = .returned (.bool true) ∧ ∃ n, w' = W.drewN n) := fun W hW => blk_same (HDX.out.2.below hW) (HDY.out.2.below hW) HZK.out.2
     have hform : (∃ A n c, u1 = .slice A n c) ∧ (∃ A n c, u2 = .slice A n c) ∧ (∃ A n c, v1 = .slice A n c) ∧ (∃ A n c, v2 = .slice A n c) := by
      exact ⟨(by obtain ⟨A, c, e⟩ := BlkR.form HDX.out.1; exact ⟨A, _, c, e⟩), (by obtain ⟨A, c, e⟩ := BlkR.form HDX.out.2; exact ⟨A, _, c, e⟩), (by obtain ⟨A, c, e⟩ := BlkR.form HDY.out.1; exact ⟨A, _, c, e⟩), (by obtain ⟨A, c, e⟩ := BlkR.form HDY.out.2; exact ⟨A, _, c, e⟩)⟩
     obtain ⟨⟨A5, n5, c5, rfl⟩, ⟨A6, n6, c6, rfl⟩, ⟨A7, n7, c7, rfl⟩, ⟨A8, n8, c8, rfl⟩⟩ := hform
     have HBM : Hid (Below wl.heap.size wl ((wl.alloc (.cells #[.string Xnm, .int .i64 zkd, .int .i64 zdp, .string Xini, .slice A5 n5 c5, .slice A6 n6 c6] 67)).alloc (.cells #[.string Xnm, .int .i64 zkd, .int .i64 zdp, .string Xini, .slice A7 n7 c7, .slice A8 n8 c8] 67))) := ((Below.refl _ _).alloc (Nat.le_refl _) _).alloc (by simp) _
     clear hbl HDX HDY HZK
     have hcm : ((wl.alloc (.cells #[.string Xnm, .int .i64 zkd, .int .i64 zdp, .string Xini, .slice A5 n5 c5, .slice A6 n6 c6] 67)).alloc (.cells #[.string Xnm, .int .i64 zkd, .int .i64 zdp, .string Xini, .slice A7 n7 c7, .slice A8 n8 c8] 67)).cell? ⟨wl.heap.size, 5, none⟩ = some (.slice A6 n6 c6) ∧ ((wl.alloc (.cells #[.string Xnm, .int .i64 zkd, .int .i64 zdp, .string Xini, .slice A5 n5 c5, .slice A6 n6 c6] 67)).alloc (.cells #[.string Xnm, .int .i64 zkd, .int .i64 zdp, .string Xini, .slice A7 n7 c7, .slice A8 n8 c8] 67)).cell? ⟨wl.heap.size + 1, 5, none⟩ = some (.slice A8 n8 c8) := by simp
     have HCM := Lib.hid hcm
     clear hcm
     go_wp2_with fail
     go_at_call 23
     refine (HEN.out _ HBM.out).mono ?_
     rintro e w5 ⟨rfl, q5, rfl⟩
     have hcm := HCM.out
     have hbn : Below wl.heap.size wl (((wl.alloc (.cells #[.string Xnm, .int .i64 zkd, .int .i64 zdp, .string Xini, .slice A5 n5 c5, .slice A6 n6 c6] 67)).alloc (.cells #[.string Xnm, .int .i64 zkd, .int .i64 zdp, .string Xini, .slice A7 n7 c7, .slice A8 n8 c8] 67)).drewN q5) := below_drewN HBM.out q5
     generalize hwn : ((wl.alloc (.cells #[.string Xnm, .int .i64 zkd, .int .i64 zdp, .string Xini, .slice A5 n5 c5, .slice A6 n6 c6] 67)).alloc (.cells #[.string Xnm, .int .i64 zkd, .int .i64 zdp, .string Xini, .slice A7 n7 c7, .slice A8 n8 c8] 67)).drewN q5 = wn at *
     have hm1 : wn.cell? ⟨wl.heap.size, 5, none⟩ = some (.slice A6 n6 c6) := by rw [← hwn]; exact hcm.1
     have hm2 : wn.cell? ⟨wl.heap.size + 1, 5, none⟩ = some (.slice A8 n8 c8) := by rw [← hwn]; exact hcm.2
     have HBN := Lib.hid hbn
     clear hcm hwn hbn HCM HBM
     go_wp2_with fail
     go_at_call 23
     refine (HEX.out _ HBN.out).mono ?_
     rintro e w6 ⟨rfl, q6, rfl⟩
     have HBL : Hid (Below w2.heap.size w2 (wn.drewN q6)) := HBR.out.trans ((below_drewN HBN.out q6).mono HBR.out.size)
     generalize wn.drewN q6 = wo at *
     clear hm1 hm2 a2 b2 e0 e1 e2 e3 e4 e5 f0 f1 f2 f3 f4 f5
     go_wp2
     go_roundw
     case rel => exact ⟨⟨trivial, trivial⟩, k + 1, by omega, by go_num, HBL⟩
     case measure => simp [intOf]; omega
    ·clear hbl hk
     go_wp2
     go_loopw [9, 10, 11] (fun x9 x10 x11 wr => (x10 = x10 ∧ x11 = x11) ∧ ∃ k : Nat, k ≤ nt ∧ x9 = .int .i64 k ∧ Hid (Below w2.heap.size w2 wr)) (fun x _ _ _ => nt - (intOf x).toNat)
     case atStart => exact ⟨⟨rfl, rfl⟩, 0, Nat.zero_le _, rfl, HBR⟩
     case round =>
      clear HBR
      obtain ⟨_, k, hk, rfl, HBR⟩ := hrel
      obtain ⟨wl, hwl⟩ : ∃ W, W = wr := ⟨_, rfl⟩
      subst hwl
      have hbl := HB2.out.trans (HBR.out.mono HB2.out.size)
      have a2 := (HBR.out.cell (p := ⟨w.heap.size, 4, none⟩) (by show w.heap.size < _; rw [HZ2.out]; omega)).trans HCA.out.2.2.2.2
      have b2 := (HBR.out.cell (p := ⟨w.heap.size + 1, 4, none⟩) (by show w.heap.size + 1 < _; rw [HZ2.out]; omega)).trans HCB.out.2.2.2.2
      have hlt : w.heap.size + 1 < wl.heap.size := by have := HBR.out.size; rw [HZ2.out] at this; omega
      by_cases hkn : k < nt
      ·have hkl : k < xtp.length := by rw [HNT.out]; exact hkn
       have hkm : k < ytp.length := by rw [HYL4.out]; exact hkl
       have hxy := fst_two HP.out.tsE HQ.out.tsE hkl hkm
       obtain ⟨g, o, rfl, _, hc⟩ := Inn.at_ (HPT.out.below hbl) hkn
       obtain ⟨h, u, rfl, _, hd⟩ := Inn.at_ (HQT.out.below hbl) hkn
       have e0 : wl.cell? ⟨g, o + k * 5, none⟩ = some (.int .i64 xtp[k].1.fr) := hc 0 _ ((flatM_at trV 5 (fun _ => rfl) hkl (by omega)).trans rfl)
       have e1 : wl.cell? ⟨g, o + k * 5 + 1, none⟩ = some (bstr xtp[k].1.ev) := hc 1 _ ((flatM_at trV 5 (fun _ => rfl) hkl (by omega)).trans rfl)
       have e2 : wl.cell? ⟨g, o + k * 5 + 2, none⟩ = some xtp[k].2.1 := hc 2 _ ((flatM_at trV 5 (fun _ => rfl) hkl (by omega)).trans rfl)
       have e3 : wl.cell? ⟨g, o + k * 5 + 3, none⟩ = some (bstr xtp[k].1.to) := hc 3 _ ((flatM_at trV 5 (fun _ => rfl) hkl (by omega)).trans rfl)
       have e4 : wl.cell? ⟨g, o + k * 5 + 4, none⟩ = some xtp[k].2.2 := hc 4 _ ((flatM_at trV 5 (fun _ => rfl) hkl (by omega)).trans rfl)
       have f0 : wl.cell? ⟨h, u + k * 5, none⟩ = some (.int .i64 ytp[k].1.fr) := hd 0 _ ((flatM_at trV 5 (fun _ => rfl) hkm (by omega)).trans rfl)
       have f1 : wl.cell? ⟨h, u + k * 5 + 1, none⟩ = some (bstr ytp[k].1.ev) := hd 1 _ ((flatM_at trV 5 (fun _ => rfl) hkm (by omega)).trans rfl)
       have f2 : wl.cell? ⟨h, u + k * 5 + 2, none⟩ = some ytp[k].2.1 := hd 2 _ ((flatM_at trV 5 (fun _ => rfl) hkm (by omega)).trans rfl)
       have f3 : wl.cell? ⟨h, u + k * 5 + 3, none⟩ = some (bstr ytp[k].1.to) := hd 3 _ ((flatM_at trV 5 (fun _ => rfl) hkm (by omega)).trans rfl)
       have f4 : wl.cell? ⟨h, u + k * 5 + 4, none⟩ = some ytp[k].2.2 := hd 4 _ ((flatM_at trV 5 (fun _ => rfl) hkm (by omega)).trans rfl)
       have HDX := Lib.hid ((HP.out.td _ (List.getElem_mem hkl)).below hbl)
       have HDY := Lib.hid ((HQ.out.td _ (List.getElem_mem hkm)).below hbl)
       have hmem : xtp[k].1 ∈ ts := (show xtp.map Prod.fst = ts from HP.out.tsE) ▸ List.mem_map_of_mem (List.getElem_mem hkl)
       have HZK := Lib.hid (HTZ.out _ hmem)
       clear hc hd hmem
       generalize xtp[k] = x at *
       generalize ytp[k] = y at *
       obtain ⟨x, u1, u2⟩ := x
       obtain ⟨y, v1, v2⟩ := y
       simp only at hxy e0 e1 e2 e3 e4 f0 f1 f2 f3 f4 HDX HDY HZK
       subst hxy
       obtain ⟨zfr, zev, zgd, zto, zac⟩ := y
       obtain ⟨Xev, hev, _⟩ := bstr_some zev
       obtain ⟨Xto, hto, _⟩ := bstr_some zto
       simp only at e0 e1 e2 e3 e4 f0 f1 f2 f3 f4
       rw [hev] at e1 f1
       clear hev
       rw [hto] at e3 f3
       clear hto
       have HGD : Hid (∀ W, Below wl.heap.size wl W → Calls Tryz.prog 24 #[u1, v1] W fun e w' => e = .returned (.bool true) ∧ ∃ n, w' = W.drewN n) := fun W hW => gd_same (HDX.out.1.below hW) (HDY.out.1.below hW) HZK.out.1
       have HAC : Hid (∀ W, Below wl.heap.size wl W → Calls Tryz.prog 23 #[u2, v2] W fun e w' => e = .returned (.bool true) ∧ ∃ n, w' = W.drewN n) := fun W hW => blk_same (HDX.out.2.below hW) (HDY.out.2.below hW) HZK.out.2
       have hform : (∃ A n c, u1 = .slice A n c) ∧ (∃ A n c, u2 = .slice A n c) ∧ (∃ A n c, v1 = .slice A n c) ∧ (∃ A n c, v2 = .slice A n c) := by
        exact ⟨(by obtain ⟨A, c, e⟩ := (HDX.out.1).1.slice; exact ⟨A, _, c, e⟩), (by obtain ⟨A, c, e⟩ := BlkR.form HDX.out.2; exact ⟨A, _, c, e⟩), (by obtain ⟨A, c, e⟩ := (HDY.out.1).1.slice; exact ⟨A, _, c, e⟩), (by obtain ⟨A, c, e⟩ := BlkR.form HDY.out.2; exact ⟨A, _, c, e⟩)⟩
       obtain ⟨⟨A5, n5, c5, rfl⟩, ⟨A6, n6, c6, rfl⟩, ⟨A7, n7, c7, rfl⟩, ⟨A8, n8, c8, rfl⟩⟩ := hform
       have HBM : Hid (Below wl.heap.size wl ((wl.alloc (.cells #[.int .i64 zfr, .string Xev, .slice A5 n5 c5, .string Xto, .slice A6 n6 c6] 71)).alloc (.cells #[.int .i64 zfr, .string Xev, .slice A7 n7 c7, .string Xto, .slice A8 n8 c8] 71))) := ((Below.refl _ _).alloc (Nat.le_refl _) _).alloc (by simp) _
       clear hbl HDX HDY HZK
       have hcm : ((wl.alloc (.cells #[.int .i64 zfr, .string Xev, .slice A5 n5 c5, .string Xto, .slice A6 n6 c6] 71)).alloc (.cells #[.int .i64 zfr, .string Xev, .slice A7 n7 c7, .string Xto, .slice A8 n8 c8] 71)).cell? ⟨wl.heap.size, 4, none⟩ = some (.slice A6 n6 c6) ∧ ((wl.alloc (.cells #[.int .i64 zfr, .string Xev, .slice A5 n5 c5, .string Xto, .slice A6 n6 c6] 71)).alloc (.cells #[.int .i64 zfr, .string Xev, .slice A7 n7 c7, .string Xto, .slice A8 n8 c8] 71)).cell? ⟨wl.heap.size + 1, 4, none⟩ = some (.slice A8 n8 c8) := by simp
       have HCM := Lib.hid hcm
       clear hcm
       go_wp2_with fail
       go_at_call 24
       refine (HGD.out _ HBM.out).mono ?_
       rintro e w5 ⟨rfl, q5, rfl⟩
       have hcm := HCM.out
       have hbn : Below wl.heap.size wl (((wl.alloc (.cells #[.int .i64 zfr, .string Xev, .slice A5 n5 c5, .string Xto, .slice A6 n6 c6] 71)).alloc (.cells #[.int .i64 zfr, .string Xev, .slice A7 n7 c7, .string Xto, .slice A8 n8 c8] 71)).drewN q5) := below_drewN HBM.out q5
       generalize hwn : ((wl.alloc (.cells #[.int .i64 zfr, .string Xev, .slice A5 n5 c5, .string Xto, .slice A6 n6 c6] 71)).alloc (.cells #[.int .i64 zfr, .string Xev, .slice A7 n7 c7, .string Xto, .slice A8 n8 c8] 71)).drewN q5 = wn at *
       have hm1 : wn.cell? ⟨wl.heap.size, 4, none⟩ = some (.slice A6 n6 c6) := by rw [← hwn]; exact hcm.1
       have hm2 : wn.cell? ⟨wl.heap.size + 1, 4, none⟩ = some (.slice A8 n8 c8) := by rw [← hwn]; exact hcm.2
       have HBN := Lib.hid hbn
       clear hcm hwn hbn HCM HBM
       go_wp2_with fail
       go_at_call 23
       refine (HAC.out _ HBN.out).mono ?_
       rintro e w6 ⟨rfl, q6, rfl⟩
       have HBL : Hid (Below w2.heap.size w2 (wn.drewN q6)) := HBR.out.trans ((below_drewN HBN.out q6).mono HBR.out.size)
       generalize wn.drewN q6 = wo at *
       clear hm1 hm2 a2 b2 e0 e1 e2 e3 e4 f0 f1 f2 f3 f4
       go_wp2
       go_roundw
       case rel => exact ⟨⟨trivial, trivial⟩, k + 1, by omega, by go_num, HBL⟩
       case measure => simp [intOf]; omega
      ·clear hbl hk
       go_wp2
       go_ret
       exact ⟨rfl, HB2.out.trans (HBR.out.mono HB2.out.size)⟩
end Go.Proofs.YtdelihhbmagphaaGreatDoor.Ch
namespace Go.Proofs.YtdelihhbmagphaaGreatDoor.Ch
open Go.RowKit
theorem a_len {l : List AM} (h : AGood l) : l.length ≤ 8 ∧ (showA l).1.length ≤ 4704 := by
 rcases h with rfl | h
 ·exact ⟨by simp, by decide⟩
 ·have hs : showA l = (Lib.join (l.map textA) [59], 0) := if_pos h
  have h2 := h
  unfold rightA at h2
  simp only [Bool.and_eq_true, decide_eq_true_eq] at h2
  refine ⟨h2.1.2, ?_⟩
  rw [hs]
  have hj := join_len (l.map textA) (fun t ht => by
   obtain ⟨a, ha, rfl⟩ := List.mem_map.1 ht
   exact textA_len (List.all_eq_true.1 h2.2 a ha))
  rw [List.length_map] at hj
  have := h2.1.2
  show (Lib.join (l.map textA) [59]).length ≤ 4704
  omega
theorem show_alike {c : CH} (h : (showC c).2 = 0) : parseC (showC c).1 = (c, 0, 0) := by
 unfold showC at h ⊢
 split
 ·assumption
 ·rename_i h1; rw [if_neg h1] at h; cases h
theorem show_none {c : CH} (h : (showC c).2 ≠ 0) : showC c = ([], 1) ∧ parseC (textC c) ≠ (c, 0, 0) := by
 unfold showC at h ⊢
 by_cases h1 : parseC (textC c) = (c, 0, 0)
 ·rw [if_pos h1] at h; exact absurd rfl h
 ·rw [if_neg h1]; exact ⟨rfl, h1⟩
end Go.Proofs.YtdelihhbmagphaaGreatDoor.Ch
