/- Own texts, joined: Xt, Xu, Ph. -/
import Derived.Test.YtgjeofaedidnpaaGreatDoorR15
import Derived.Test.YtgjeofaedidnpaaGreatDoorR25
import Derived.Test.YtgjeofaedidnpaaGreatDoorR39
import Derived.Test.YtgjeofaedidnpaaGreatDoorR40
namespace Go.Proofs.YtgjeofaedidnpaaGreatDoor.Ch.Vd
open Go.RowKit
theorem box_cells {W : World} {D : Nat} {t : TypeId} {x0 x1 x2 x3 x4 : Value} (h : W.heap[D]? = some (.cells #[x0, x1, x2, x3, x4] t (0, 0))) : W.cell? ⟨D, 0, none⟩ = some x0 /\ W.cell? ⟨D, 1, none⟩ = some x1 /\ W.cell? ⟨D, 2, none⟩ = some x2 /\ W.cell? ⟨D, 3, none⟩ = some x3 /\ W.cell? ⟨D, 4, none⟩ = some x4 := by simp [World.cell?, h]
theorem one_strs (l : List (List UInt8)) : ∀ u ∈ strsV l, u.oneCell' = true := by
 intro u hu;obtain ⟨x, _, rfl⟩ := List.mem_map.1 hu;rfl
theorem one_vars (l : List VM) : ∀ u ∈ flatV l, u.oneCell' = true := by
 intro u hu;obtain ⟨x, _, hx⟩ := List.mem_flatMap.1 hu;simp only [vaV, List.mem_cons, List.not_mem_nil, or_false] at hx;rcases hx with rfl | rfl | rfl | rfl | rfl | rfl | rfl <;> rfl
theorem one_states {W : World} (l : List SP) (h : ∀ p ∈ l, StR W p) : ∀ u ∈ flatS l, u.oneCell' = true := by
 intro u hu;obtain ⟨x, hxl, hx⟩ := List.mem_flatMap.1 hu;obtain ⟨A, c, h1⟩ := BlkR.form (h x hxl).1;obtain ⟨B, d, h2⟩ := BlkR.form (h x hxl).2;simp only [stV, List.mem_cons, List.not_mem_nil, or_false] at hx;rcases hx with rfl | rfl | rfl | rfl | rfl | rfl
 ·rfl
 ·rfl
 ·rfl
 ·rfl
 ·rw [h1]; rfl
 ·rw [h2]; rfl
theorem one_transs {W : World} (l : List TP) (h : ∀ p ∈ l, TrR W p) : ∀ u ∈ flatT l, u.oneCell' = true := by
 intro u hu;obtain ⟨x, hxl, hx⟩ := List.mem_flatMap.1 hu;obtain ⟨A, c, h1⟩ := (h x hxl).1.1.slice;obtain ⟨B, d, h2⟩ := BlkR.form (h x hxl).2;simp only [trV, List.mem_cons, List.not_mem_nil, or_false] at hx;rcases hx with rfl | rfl | rfl | rfl | rfl
 ·rfl
 ·rfl
 ·rw [h1]; rfl
 ·rfl
 ·rw [h2]; rfl
theorem cp_step {w W w5 : World} {D j : Nat} {x : Array Value} {t : TypeId} {o : Obj} {v' : Value} (hb : Below w.heap.size w W) (hD : w.heap.size <= D) (hx : W.heap[D]? = some (.cells x t (0, 0))) (hg : (W.alloc o).grownBy w5 (some W.heap.size)) :
 Below w.heap.size w (w5.setCell ⟨D, j, none⟩ v') /\ w5.heap[D]? = some (.cells x t (0, 0)) /\ (w5.setCell ⟨D, j, none⟩ v').heap[D]? = some (.cells (x.setIfInBounds j v') t (0, 0)) /\ (∀ k, k < W.heap.size -> k ≠ D -> (w5.setCell ⟨D, j, none⟩ v').heap[k]? = W.heap[k]?) /\ W.heap.size <= (w5.setCell ⟨D, j, none⟩ v').heap.size /\ (∀ k, k ≠ D -> (w5.setCell ⟨D, j, none⟩ v').heap[k]? = w5.heap[k]?) := by
 have hlt := lt_of_heap hx;have h1 : w5.heap[D]? = some (.cells x t (0, 0)) := (hg.block D (by simp; omega) (by simp; omega)).trans (heap_old hx);have hz : W.heap.size + 1 <= w5.heap.size := by have := hg.size; simpa using this
 refine ⟨?_, h1, setCell_row h1 v', fun k hk hkD => ?_, ?_, fun k hkD => Below.heap_setCell _ _ _ k (fun e => hkD e)⟩
 ·exact ((hb.alloc hb.size o).grown hg (by have := hb.size; simp; omega) (fun k hk => by cases hk; exact hb.size)).setCell (p := ⟨D, j, none⟩) hD v'
 ·rw [Below.heap_setCell _ _ _ k (fun e => hkD e)];exact (hg.block k (by simp; omega) (by simp; omega)).trans (Below.heap_alloc W _ _ hk)
 ·simp; omega
structure Cp9 (c : CH) (sp : List SP) (tp : List TP) (w : World) (e : Ending) (w' : World) : Prop where
 ret : ∃ e1 v1 s1 t1, e = .returned (.agg #[bstr c.nm, e1, v1, s1, t1]) /\ ChM w' c e1 v1 s1 t1 sp tp /\ ∃ B, w.heap.size <= B /\ w'.ownsRow B 9 1 e1 c.es.length (strsV c.es) /\ w'.ownsRow B 39 6 s1 sp.length (flatS sp) /\ w'.ownsRow B 42 5 t1 tp.length (flatT tp)
 below : Below w.heap.size w w'
set_option maxRecDepth 100000 in
set_option maxHeartbeats 16000000 in
theorem copied9_any (c : CH) (e1 v1 s1 t1 : Value) (sp : List SP) (tp : List TP) (w : World) (h : ChIn9 w c e1 v1 s1 t1 sp tp) :
 Calls Tryz.prog 10 #[.agg #[bstr c.nm, e1, v1, s1, t1]] w (Cp9 c sp tp w) := by
 obtain ⟨nm, es, vs, ss, ts⟩ := c;have HI := Lib.hid h;obtain ⟨N, hN, _⟩ := bstr_some nm;obtain ⟨A1, c1, rfl⟩ := Inn.form h.m.es;obtain ⟨A2, c2, rfl⟩ := Inn.form h.m.vs;obtain ⟨A3, c3, rfl⟩ := Inn.form h.m.ss;obtain ⟨A4, c4, rfl⟩ := Inn.form h.m.ts;simp only;rw [hN];have HN := Lib.hid hN;have HES : Hid (Inn w 1 (.slice A1 es.length c1) es.length (strsV es)) := h.m.es;have HVS : Hid (Inn w 7 (.slice A2 vs.length c2) vs.length (flatV vs)) := h.m.vs;have HSS : Hid (Inn w 6 (.slice A3 sp.length c3) sp.length (flatS sp)) := h.m.ss;have HTS : Hid (Inn w 5 (.slice A4 tp.length c4) tp.length (flatT tp)) := h.m.ts;have HOS : Hid (∀ u ∈ flatS sp, u.oneCell' = true) := one_states sp h.m.sd;have HOT : Hid (∀ u ∈ flatT tp, u.oneCell' = true) := one_transs tp h.m.td;have les : es.length * 16 <= 140737488355328 := h.es;have lvs : vs.length * 64 <= 140737488355328 := h.vs;have lss : sp.length * 96 <= 140737488355328 := h.ss;have lts : tp.length * 88 <= 140737488355328 := h.ts;obtain ⟨iIS, hi0, hi1, hi2, hi3⟩ := info_of infoStrS;have IS0 := Lib.hid hi0; have IS1 := Lib.hid hi1; have IS2 := Lib.hid hi2; have IS3 := Lib.hid hi3;clear hi0 hi1 hi2 hi3;obtain ⟨iIV, hi0, hi1, hi2, hi3⟩ := info_parts Tryz.infoVar;have IV0 := Lib.hid hi0; have IV1 := Lib.hid hi1; have IV2 := Lib.hid hi2; have IV3 := Lib.hid hi3;clear hi0 hi1 hi2 hi3;obtain ⟨iIT, hi0, hi1, hi2, hi3⟩ := info_parts Tryz.infoState;have IT0 := Lib.hid hi0; have IT1 := Lib.hid hi1; have IT2 := Lib.hid hi2; have IT3 := Lib.hid hi3;clear hi0 hi1 hi2 hi3;obtain ⟨iIR, hi0, hi1, hi2, hi3⟩ := info_parts Tryz.infoTrans;have IR0 := Lib.hid hi0; have IR1 := Lib.hid hi1; have IR2 := Lib.hid hi2; have IR3 := Lib.hid hi3;clear hi0 hi1 hi2 hi3 h hN;obtain ⟨W0, hW0⟩ : ∃ W, W = (w.alloc (.cells #[.string N, .slice A1 es.length c1, .slice A2 vs.length c2, .slice A3 sp.length c3, .slice A4 tp.length c4] 27)).alloc (.cells #[.string ⟨#[]⟩, .slice none 0 0, .slice none 0 0, .slice none 0 0, .slice none 0 0] 27) := ⟨_, rfl⟩
 have hb0 : Below w.heap.size w W0 := by rw [hW0]; exact ((Below.refl _ _).alloc (Nat.le_refl _) _).alloc (by simp) _
 have hx0 : W0.heap[w.heap.size]? = some (.cells #[.string N, .slice A1 es.length c1, .slice A2 vs.length c2, .slice A3 sp.length c3, .slice A4 tp.length c4] 27 (0, 0)) := by rw [hW0]; exact heap_old (World.alloc_heap_new w _)
 have hy0 : W0.heap[w.heap.size + 1]? = some (.cells #[.string ⟨#[]⟩, .slice none 0 0, .slice none 0 0, .slice none 0 0, .slice none 0 0] 27 (0, 0)) := by rw [hW0]; exact heap_at (by simp)
 have hz0 : W0.heap.size = w.heap.size + 1 + 1 := by rw [hW0]; simp
 have HZ := Lib.hid hz0; have HZ0 : Hid (W0.heap.size <= W0.heap.size) := Nat.le_refl _;clear hz0;have HB0 := Lib.hid hb0; have HX0 := Lib.hid hx0; have HY0 := Lib.hid hy0; have HW0 := Lib.hid hW0;clear hb0 hx0 hy0 hW0
 go_enter Tryz.func10, Tryz.ntmps10
 go_upto_region 1 with fail
 rw [<- HW0.out];obtain ⟨d0, d1, d2, d3, d4⟩ := box_cells HX0.out;have hlt0 : w.heap.size < W0.heap.size := lt_of_heap HX0.out;have HE0 : Hid ((W0.alloc (.cells #[] 9)).ownsRow W0.heap.size 9 1 (.slice (some ⟨W0.heap.size, 0, none⟩) 0 0) 0 []) := Oz.own_laid (B := W0.heap.size) (e := 9) (size := 1) (n := 0) W0 #[] HZ0.out (by decide) rfl;have HS0 : Hid (Inn (W0.alloc (.cells #[] 9)) 1 (.slice A1 es.length c1) es.length (strsV es)) := HES.out.below (HB0.out.trans ((Below.refl _ _).alloc HB0.out.size _))
 go_wp2_with (at_builtin; refine Ow.wpList_append rfl (.tmp 3) (.tmp 5) 22 rfl W0.heap.size 9 iIS _ 1 16 Tryz.underlying22 IS0.out IS1.out IS2.out IS3.out rfl (by decide) _ 0 [] rfl HE0.out _ es.length (strsV es) rfl HS0.out (one_strs es) (by unfold maxLen; omega) (by omega) (Nat.le_trans HZ0.out (by simp)) ?_)
 intro v' w' hown hg _
 try simp only [Nat.zero_add, List.nil_append] at hown
 obtain ⟨B1, k1, ev, hk1⟩ := own_cap hown;subst ev;obtain ⟨hb, hx', hx, hkeep, hsz, hks⟩ := cp_step (j := 1) (v' := .slice B1 (es.length) k1) HB0.out (Nat.le_refl _) HX0.out hg;obtain ⟨f0, f1, f2, f3, f4⟩ := box_cells hx';have z0 := frozen5 hx' 1;have HK1 := Lib.hid hk1;obtain ⟨W1, hWn⟩ : ∃ W, W = w'.setCell ⟨w.heap.size, 1, none⟩ (.slice B1 (es.length) k1) := ⟨_, rfl⟩
 rw [<- hWn] at hb hx hkeep hsz hks;have HOW11 := Lib.hid (Oz.own_same hown (w' := W1) (fun g hg => hks g (by have := (hown.lt g hg).1; have := HZ.out; omega)));have HZ1 : Hid (W0.heap.size <= W1.heap.size) := Nat.le_trans HZ0.out hsz;have HB1 := Lib.hid hb; have HX1 := Lib.hid hx; have HKP1 := Lib.hid hkeep; have HSZ1 := Lib.hid hsz; have HW1 := Lib.hid hWn;have HY1 := Lib.hid ((hkeep _ (lt_of_heap HY0.out) (by omega)).trans HY0.out);clear d0 d1 d2 d3 d4 hown hg hb hx' hx hkeep hsz hks hWn hk1 HE0 HS0
 go_upto_region 2 with fail
 rw [<- HW1.out];clear f0 f1 f2 f3 f4 z0 hlt0;obtain ⟨d0, d1, d2, d3, d4⟩ := box_cells HX1.out;have hlt1 : w.heap.size < W1.heap.size := lt_of_heap HX1.out;have HE1 : Hid ((W1.alloc (.cells #[] 51)).ownsRow W0.heap.size 51 7 (.slice (some ⟨W1.heap.size, 0, none⟩) 0 0) 0 []) := Oz.own_laid (B := W0.heap.size) (e := 51) (size := 7) (n := 0) W1 #[] HZ1.out (by decide) rfl;have HS1 : Hid (Inn (W1.alloc (.cells #[] 51)) 7 (.slice A2 vs.length c2) vs.length (flatV vs)) := HVS.out.below (HB1.out.trans ((Below.refl _ _).alloc HB1.out.size _))
 go_wp2_with (at_builtin; refine Ow.wpList_append rfl (.tmp 8) (.tmp 10) 23 rfl W0.heap.size 51 iIV _ 7 64 Tryz.underlying23 IV0.out IV1.out IV2.out IV3.out rfl (by decide) _ 0 [] rfl HE1.out _ vs.length (flatV vs) rfl HS1.out (one_vars vs) (by unfold maxLen; omega) (by omega) (Nat.le_trans HZ1.out (by simp)) ?_)
 intro v' w' hown hg _
 try simp only [Nat.zero_add, List.nil_append] at hown
 obtain ⟨B2, k2, ev, hk2⟩ := own_cap hown;subst ev;obtain ⟨hb, hx', hx, hkeep, hsz, hks⟩ := cp_step (j := 2) (v' := .slice B2 (vs.length) k2) HB1.out (Nat.le_refl _) HX1.out hg;obtain ⟨f0, f1, f2, f3, f4⟩ := box_cells hx';have z0 := frozen5 hx' 2;have HK2 := Lib.hid hk2;obtain ⟨W2, hWn⟩ : ∃ W, W = w'.setCell ⟨w.heap.size, 2, none⟩ (.slice B2 (vs.length) k2) := ⟨_, rfl⟩
 rw [<- hWn] at hb hx hkeep hsz hks;have HOW22 := Lib.hid (Oz.own_same hown (w' := W2) (fun g hg => hks g (by have := (hown.lt g hg).1; have := HZ.out; omega)));have HOW12 := Lib.hid (Oz.own_same HOW11.out (w' := W2) (fun g hg => hkeep g (HOW11.out.lt g hg).2 (by have := (HOW11.out.lt g hg).1; have := HZ.out; omega)));have HZ2 : Hid (W0.heap.size <= W2.heap.size) := Nat.le_trans HZ1.out hsz;have HB2 := Lib.hid hb; have HX2 := Lib.hid hx; have HKP2 := Lib.hid hkeep; have HSZ2 := Lib.hid hsz; have HW2 := Lib.hid hWn;have HY2 := Lib.hid ((hkeep _ (lt_of_heap HY1.out) (by omega)).trans HY1.out);clear d0 d1 d2 d3 d4 hown hg hb hx' hx hkeep hsz hks hWn hk2 HE1 HS1
 go_upto_region 3 with fail
 rw [<- HW2.out];clear f0 f1 f2 f3 f4 z0 hlt1;obtain ⟨d0, d1, d2, d3, d4⟩ := box_cells HX2.out;have hlt2 : w.heap.size < W2.heap.size := lt_of_heap HX2.out;have HE2 : Hid ((W2.alloc (.cells #[] 39)).ownsRow W0.heap.size 39 6 (.slice (some ⟨W2.heap.size, 0, none⟩) 0 0) 0 []) := Oz.own_laid (B := W0.heap.size) (e := 39) (size := 6) (n := 0) W2 #[] HZ2.out (by decide) rfl;have HS2 : Hid (Inn (W2.alloc (.cells #[] 39)) 6 (.slice A3 sp.length c3) sp.length (flatS sp)) := HSS.out.below (HB2.out.trans ((Below.refl _ _).alloc HB2.out.size _))
 go_wp2_with (at_builtin; refine Ow.wpList_append rfl (.tmp 13) (.tmp 15) 24 rfl W0.heap.size 39 iIT _ 6 96 Tryz.underlying24 IT0.out IT1.out IT2.out IT3.out rfl (by decide) _ 0 [] rfl HE2.out _ sp.length (flatS sp) rfl HS2.out HOS.out (by unfold maxLen; omega) (by omega) (Nat.le_trans HZ2.out (by simp)) ?_)
 intro v' w' hown hg _
 try simp only [Nat.zero_add, List.nil_append] at hown
 obtain ⟨B3, k3, ev, hk3⟩ := own_cap hown;subst ev;obtain ⟨hb, hx', hx, hkeep, hsz, hks⟩ := cp_step (j := 3) (v' := .slice B3 (sp.length) k3) HB2.out (Nat.le_refl _) HX2.out hg;obtain ⟨f0, f1, f2, f3, f4⟩ := box_cells hx';have z0 := frozen5 hx' 3;have HK3 := Lib.hid hk3;obtain ⟨W3, hWn⟩ : ∃ W, W = w'.setCell ⟨w.heap.size, 3, none⟩ (.slice B3 (sp.length) k3) := ⟨_, rfl⟩
 rw [<- hWn] at hb hx hkeep hsz hks;have HOW33 := Lib.hid (Oz.own_same hown (w' := W3) (fun g hg => hks g (by have := (hown.lt g hg).1; have := HZ.out; omega)));have HOW13 := Lib.hid (Oz.own_same HOW12.out (w' := W3) (fun g hg => hkeep g (HOW12.out.lt g hg).2 (by have := (HOW12.out.lt g hg).1; have := HZ.out; omega)));have HOW23 := Lib.hid (Oz.own_same HOW22.out (w' := W3) (fun g hg => hkeep g (HOW22.out.lt g hg).2 (by have := (HOW22.out.lt g hg).1; have := HZ.out; omega)));have HZ3 : Hid (W0.heap.size <= W3.heap.size) := Nat.le_trans HZ2.out hsz;have HB3 := Lib.hid hb; have HX3 := Lib.hid hx; have HKP3 := Lib.hid hkeep; have HSZ3 := Lib.hid hsz; have HW3 := Lib.hid hWn;have HY3 := Lib.hid ((hkeep _ (lt_of_heap HY2.out) (by omega)).trans HY2.out);clear d0 d1 d2 d3 d4 hown hg hb hx' hx hkeep hsz hks hWn hk3 HE2 HS2
 go_upto_region 4 with fail
 rw [<- HW3.out];clear f0 f1 f2 f3 f4 z0 hlt2;obtain ⟨d0, d1, d2, d3, d4⟩ := box_cells HX3.out;have hlt3 : w.heap.size < W3.heap.size := lt_of_heap HX3.out;have HE3 : Hid ((W3.alloc (.cells #[] 42)).ownsRow W0.heap.size 42 5 (.slice (some ⟨W3.heap.size, 0, none⟩) 0 0) 0 []) := Oz.own_laid (B := W0.heap.size) (e := 42) (size := 5) (n := 0) W3 #[] HZ3.out (by decide) rfl;have HS3 : Hid (Inn (W3.alloc (.cells #[] 42)) 5 (.slice A4 tp.length c4) tp.length (flatT tp)) := HTS.out.below (HB3.out.trans ((Below.refl _ _).alloc HB3.out.size _))
 go_wp2_with (at_builtin; refine Ow.wpList_append rfl (.tmp 18) (.tmp 20) 25 rfl W0.heap.size 42 iIR _ 5 88 Tryz.underlying25 IR0.out IR1.out IR2.out IR3.out rfl (by decide) _ 0 [] rfl HE3.out _ tp.length (flatT tp) rfl HS3.out HOT.out (by unfold maxLen; omega) (by omega) (Nat.le_trans HZ3.out (by simp)) ?_)
 intro v' w' hown hg _
 try simp only [Nat.zero_add, List.nil_append] at hown
 obtain ⟨B4, k4, ev, hk4⟩ := own_cap hown;subst ev;obtain ⟨hb, hx', hx, hkeep, hsz, hks⟩ := cp_step (j := 4) (v' := .slice B4 (tp.length) k4) HB3.out (Nat.le_refl _) HX3.out hg;obtain ⟨f0, f1, f2, f3, f4⟩ := box_cells hx';have z0 := frozen5 hx' 4;have HK4 := Lib.hid hk4;obtain ⟨W4, hWn⟩ : ∃ W, W = w'.setCell ⟨w.heap.size, 4, none⟩ (.slice B4 (tp.length) k4) := ⟨_, rfl⟩
 rw [<- hWn] at hb hx hkeep hsz hks;have HOW44 := Lib.hid (Oz.own_same hown (w' := W4) (fun g hg => hks g (by have := (hown.lt g hg).1; have := HZ.out; omega)));have HOW14 := Lib.hid (Oz.own_same HOW13.out (w' := W4) (fun g hg => hkeep g (HOW13.out.lt g hg).2 (by have := (HOW13.out.lt g hg).1; have := HZ.out; omega)));have HOW24 := Lib.hid (Oz.own_same HOW23.out (w' := W4) (fun g hg => hkeep g (HOW23.out.lt g hg).2 (by have := (HOW23.out.lt g hg).1; have := HZ.out; omega)));have HOW34 := Lib.hid (Oz.own_same HOW33.out (w' := W4) (fun g hg => hkeep g (HOW33.out.lt g hg).2 (by have := (HOW33.out.lt g hg).1; have := HZ.out; omega)));have HZ4 : Hid (W0.heap.size <= W4.heap.size) := Nat.le_trans HZ3.out hsz;have HB4 := Lib.hid hb; have HX4 := Lib.hid hx; have HKP4 := Lib.hid hkeep; have HSZ4 := Lib.hid hsz; have HW4 := Lib.hid hWn;have HY4 := Lib.hid ((hkeep _ (lt_of_heap HY3.out) (by omega)).trans HY3.out);clear d0 d1 d2 d3 d4 hown hg hb hx' hx hkeep hsz hks hWn hk4 HE3 HS3
 go_upto_region 5 with fail
 rw [<- HW4.out];clear f0 f1 f2 f3 f4 z0 hlt3;obtain ⟨d0, d1, d2, d3, d4⟩ := box_cells HX4.out;obtain ⟨y0, y1, y2, y3, y4⟩ := box_cells HY4.out;have z0 := frozen5 HY4.out 0; have z1 := frozen5 HY4.out 1; have z2 := frozen5 HY4.out 2; have z3 := frozen5 HY4.out 3; have z4 := frozen5 HY4.out 4;obtain ⟨Wf, hWf⟩ : ∃ W, W = ((((W4.setCell ⟨w.heap.size + 1, 0, none⟩ (.string N)).setCell ⟨w.heap.size + 1, 1, none⟩ (.slice B1 (es.length) k1)).setCell ⟨w.heap.size + 1, 2, none⟩ (.slice B2 (vs.length) k2)).setCell ⟨w.heap.size + 1, 3, none⟩ (.slice B3 (sp.length) k3)).setCell ⟨w.heap.size + 1, 4, none⟩ (.slice B4 (tp.length) k4) := ⟨_, rfl⟩
 have hhf : Wf.heap[w.heap.size + 1]? = some (.cells #[.string N, .slice B1 (es.length) k1, .slice B2 (vs.length) k2, .slice B3 (sp.length) k3, .slice B4 (tp.length) k4] 27 (0, 0)) := by
  rw [hWf]; exact heap_setCell_same _ _ 4 _ _ _ (heap_setCell_same _ _ 3 _ _ _ (heap_setCell_same _ _ 2 _ _ _ (heap_setCell_same _ _ 1 _ _ _ (heap_setCell_same _ _ 0 _ _ _ HY4.out))))
 have hkf : ∀ k, k ≠ w.heap.size + 1 -> Wf.heap[k]? = W4.heap[k]? := fun k hk => by
  rw [hWf, Below.heap_setCell _ _ _ k (fun e => hk e), Below.heap_setCell _ _ _ k (fun e => hk e), Below.heap_setCell _ _ _ k (fun e => hk e), Below.heap_setCell _ _ _ k (fun e => hk e), Below.heap_setCell _ _ _ k (fun e => hk e)]
 have hbf : Below w.heap.size w Wf := by
  rw [hWf]; exact ((((HB4.out.setCell (p := ⟨w.heap.size + 1, 0, none⟩) (by simp) _).setCell (p := ⟨w.heap.size + 1, 1, none⟩) (by simp) _).setCell (p := ⟨w.heap.size + 1, 2, none⟩) (by simp) _).setCell (p := ⟨w.heap.size + 1, 3, none⟩) (by simp) _).setCell (p := ⟨w.heap.size + 1, 4, none⟩) (by simp) _
 have HKF := Lib.hid hkf; have HBF := Lib.hid hbf; have HWF := Lib.hid hWf;obtain ⟨r0, r1, r2, r3, r4⟩ := box_cells hhf;have HR := Lib.hid (And.intro r0 (And.intro r1 (And.intro r2 (And.intro r3 r4))));clear hhf hkf hbf hWf r0 r1 r2 r3 r4;go_wp2;rw [<- HWF.out];obtain ⟨r0, r1, r2, r3, r4⟩ := HR.out;refine bodyPost_ret (v := .agg #[.string N, .slice B1 (es.length) k1, .slice B2 (vs.length) k2, .slice B3 (sp.length) k3, .slice B4 (tp.length) k4]) (by simp [results, Tryz.results10, go_sem, r0, r1, r2, r3, r4]) rfl ?_;have hi := HI.out.m;have hrow : ∀ {e : TypeId} {size n : Nat} {v : Value} {xs : List Value}, W4.ownsRow W0.heap.size e size v n xs -> Wf.ownsRow W0.heap.size e size v n xs := fun h => Oz.own_same h (w' := Wf) (fun g hg => HKF.out g (by have := (h.lt g hg).1; have := HZ.out; omega))
 refine ⟨⟨_, _, _, _, by rw [HN.out], ?_, W0.heap.size, by have := HZ.out; omega, hrow HOW14.out, hrow HOW34.out, hrow HOW44.out⟩, HBF.out⟩;exact ⟨Inn.of_own (hrow HOW14.out), Inn.of_own (hrow HOW24.out), hi.ssE, Inn.of_own (hrow HOW34.out), hi.tsE, Inn.of_own (hrow HOW44.out), fun p hp => (hi.sd p hp).below HBF.out, fun p hp => (hi.td p hp).below HBF.out, hi.el, hi.vl, hi.sl, hi.tl⟩
end Go.Proofs.YtgjeofaedidnpaaGreatDoor.Ch.Vd
namespace Go.Proofs.YtgjeofaedidnpaaGreatDoor.Ch.Vd
open Go.RowKit
set_option maxRecDepth 100000
def CpR (c : CH) (sp : List SP) (tp : List TP) (v : Value) (W : World) : Prop := ∃ e1 v1 s1 t1, v = .agg #[bstr c.nm, e1, v1, s1, t1] /\ ChM W c e1 v1 s1 t1 sp tp /\ ∀ A n k, e1 = .slice A n k -> n <= k
theorem CpR.keeps (c : CH) (sp : List SP) (tp : List TP) : Oy.KeepsD (fun _ v W => CpR c sp tp v W) := fun _ _ _ _ ⟨e1, v1, s1, t1, h, hM, hc⟩ hb => ⟨e1, v1, s1, t1, h, hM.below hb, hc⟩
theorem copied9_r {c : CH} {e1 v1 s1 t1 : Value} {sp : List SP} {tp : List TP} {w : World} (h : ChIn9 w c e1 v1 s1 t1 sp tp) :
 Calls Tryz.prog 10 #[.agg #[bstr c.nm, e1, v1, s1, t1]] w fun e w' => ∃ v, e = .returned v /\ CpR c sp tp v w' /\ Below w.heap.size w w' := by
 refine (copied9_any c e1 v1 s1 t1 sp tp w h).mono ?_;rintro e w' ⟨⟨e1', v1', s1', t1', rfl, hM, B, _, ho, _, _⟩, hb⟩;refine ⟨_, rfl, ⟨_, _, _, _, rfl, hM, fun A n k e => ?_⟩, hb⟩;obtain ⟨A', k', e', hk⟩ := own_cap ho;rw [e'] at e;simp only [Value.slice.injEq] at e;omega
theorem ChIn9.below {W W' : World} {c : CH} {e1 v1 s1 t1 : Value} {sp : List SP} {tp : List TP} (h : ChIn9 W c e1 v1 s1 t1 sp tp) (hb : Below W.heap.size W W') : ChIn9 W' c e1 v1 s1 t1 sp tp := ⟨h.m.below hb, h.sb, h.es, h.vs, h.ss, h.ts, h.tc, h.gn⟩
end Go.Proofs.YtgjeofaedidnpaaGreatDoor.Ch.Vd
namespace Go.Proofs.YtgjeofaedidnpaaGreatDoor.Ch.Vd
open Go.RowKit
set_option maxRecDepth 100000
set_option maxHeartbeats 8000000 in
theorem checks_law (c : CH) (eV vV sV tV : Value) (sp : List SP) (tp : List TP) (w : World) (h : ChIn9 w c eV vV sV tV sp tp) (hE : Env w) :
 Calls Tryz.prog 3 #[.agg #[bstr c.nm, eV, vV, sV, tV]] w fun e w' => e = .returned (.bool true) /\ Below w.heap.size w w' := by
 obtain ⟨M, A1, A2, A3, A4, k1, k2, k3, k4, wb, hM, rfl, rfl, rfl, rfl, hwb, hb1, _, d0, d1, d2, d3, d4⟩ := box_ch h.m;obtain ⟨RT, hRT⟩ : ∃ x, checkE c = x := ⟨_, rfl⟩
 have hcp := fun W (hW : Below w.heap.size w W) => copied9_r (h.below hW)
 have hpc : ∀ W e1 v1 s1 t1, ChM W c e1 v1 s1 t1 sp tp -> (∀ A n k, e1 = .slice A n k -> n <= k) -> Calls Tryz.prog 9 #[.agg #[bstr c.nm, e1, v1, s1, t1]] W fun e w' => e = .returned (.int .i64 RT) /\ Below W.heap.size W w' := fun W e1 v1 s1 t1 hM hc => by
  rw [<- hRT];exact check_any hM hc h.sb
 have hrf := fun W (hW : Below w.heap.size w W) => refCheck_any (h.m.below hW) h.sb h.gn
 have hwk : ∀ W, Below w.heap.size w W -> Calls Tryz.prog 8 #[] W fun e w' => e = .returned (.bool true) /\ Below W.heap.size W w' := fun W hW => wakes9_any W (hE.below hW)
 unfold chA at hrf;rw [hRT] at hrf;rw [hM] at hcp hrf ⊢;have HCP := Lib.hid hcp; have HPC := Lib.hid hpc; have HRF := Lib.hid hrf; have HWK := Lib.hid hwk;have HBW : Hid (∀ W, Below wb.drew.heap.size wb.drew W -> Below w.heap.size w W) := fun W hW => hb1.trans ((below_drewN (Below.refl _ _) 1).trans (hW.mono hb1.size))
 have HW := Lib.hid hwb;clear hcp hpc hrf hwk h hRT hE hwb hb1 hM;generalize c.es.length = n1 at *; generalize c.vs.length = n2 at *; generalize sp.length = n3 at *; generalize tp.length = n4 at *
 go_enter Tryz.func3, Tryz.ntmps3
 go_upto_region 1 with fail
 rw [<- HW.out];refine Oy.region_quiet 12 [Oy.eqD (.bool true), Oy.eqD (.bool true), Oy.eqD (.agg #[.string M, .slice A1 n1 k1, .slice A2 n2 k2, .slice A3 n3 k3, .slice A4 n4 k4]), fun (_ : List Value) v W => CpR c sp tp v W, Oy.eqD (.int .i64 RT), Oy.eqD (.agg #[.string M, .slice A1 n1 k1, .slice A2 n2 k2, .slice A3 n3 k3, .slice A4 n4 k4]), Oy.eqD (.int .i64 RT), Oy.eqD (.bool true), Oy.eqD (.bool true), Oy.eqD (.bool true)] [[], [], [], [], [], [], [], [], [], []] (by kernel_rfl) rfl (by kernel_rfl) (by kernel_rfl) ⟨Oy.keeps_eq _, Oy.keeps_eq _, Oy.keeps_eq _, CpR.keeps c sp tp, Oy.keeps_eq _, Oy.keeps_eq _, Oy.keeps_eq _, Oy.keeps_eq _, Oy.keeps_eq _, Oy.keeps_eq _, trivial⟩ ?_;refine Oy.walk_q ?_ fun x3 => ?_
 ·intro w1 hb hd K hK;clear hd;go_simp;refine (HWK.out w1 (HBW.out w1 hb)).mono ?_;rintro e w5 ⟨rfl, hb5⟩;go_simp;exact hK _ _ hb5 rfl
 refine Oy.walk_q ?_ fun x4 => ?_
 ·intro w1 hb hd K hK;obtain rfl : _ = x3 := Eq.symm (hd 0 (by kernel_rfl));clear hd;go_simp;exact hK _ _ (Below.refl _ _) rfl
 refine Oy.walk_q ?_ fun x5 => ?_
 ·intro w1 hb hd K hK;obtain rfl : _ = x4 := Eq.symm (hd 1 (by kernel_rfl));clear hd;have c_d0 := (hb.cell (cell_lt d0)).trans d0;have c_d1 := (hb.cell (cell_lt d1)).trans d1;have c_d2 := (hb.cell (cell_lt d2)).trans d2;have c_d3 := (hb.cell (cell_lt d3)).trans d3;have c_d4 := (hb.cell (cell_lt d4)).trans d4;go_simp;exact hK _ _ (Below.refl _ _) rfl
 refine Oy.walk_q ?_ fun x6 => ?_
 ·intro w1 hb hd K hK;obtain rfl : _ = x5 := Eq.symm (hd 2 (by kernel_rfl));obtain rfl : _ = x4 := Eq.symm (hd 1 (by kernel_rfl));clear hd;go_simp;refine (HCP.out w1 (HBW.out w1 hb)).mono ?_;rintro e w5 ⟨v, rfl, hcp, hb5⟩;go_simp;exact hK _ _ hb5 hcp
 refine Oy.walk_q ?_ fun x7 => ?_
 ·intro w1 hb hd K hK;have h6 : (fun (_ : List Value) v W => CpR c sp tp v W) [] x6 w1 := hd 3 (by kernel_rfl);obtain rfl : _ = x4 := Eq.symm (hd 1 (by kernel_rfl));clear hd;obtain ⟨e1, v1, s1, t1, rfl, hM, hc⟩ := h6;go_simp;refine (HPC.out w1 e1 v1 s1 t1 hM hc).mono ?_;rintro e w5 ⟨rfl, hb5⟩;go_simp;exact hK _ _ hb5 rfl
 refine Oy.walk_q ?_ fun x8 => ?_
 ·intro w1 hb hd K hK;obtain rfl : _ = x4 := Eq.symm (hd 1 (by kernel_rfl));clear hd;have c_d0 := (hb.cell (cell_lt d0)).trans d0;have c_d1 := (hb.cell (cell_lt d1)).trans d1;have c_d2 := (hb.cell (cell_lt d2)).trans d2;have c_d3 := (hb.cell (cell_lt d3)).trans d3;have c_d4 := (hb.cell (cell_lt d4)).trans d4;go_simp;exact hK _ _ (Below.refl _ _) rfl
 refine Oy.walk_q ?_ fun x9 => ?_
 ·intro w1 hb hd K hK;obtain rfl : _ = x8 := Eq.symm (hd 5 (by kernel_rfl));obtain rfl : _ = x4 := Eq.symm (hd 1 (by kernel_rfl));clear hd;go_simp;refine (HRF.out w1 (HBW.out w1 hb)).mono ?_;rintro e w5 ⟨rfl, hb5⟩;go_simp;exact hK _ _ hb5 rfl
 refine Oy.walk_q ?_ fun x10 => ?_
 ·intro w1 hb hd K hK;obtain rfl : _ = x7 := Eq.symm (hd 4 (by kernel_rfl));obtain rfl : _ = x9 := Eq.symm (hd 6 (by kernel_rfl));obtain rfl : _ = x4 := Eq.symm (hd 1 (by kernel_rfl));clear hd;go_simp;exact hK _ _ (Below.refl _ _) rfl
 refine Oy.walk_q ?_ fun x11 => ?_
 ·intro w1 hb hd K hK;obtain rfl : _ = x4 := Eq.symm (hd 1 (by kernel_rfl));obtain rfl : _ = x10 := Eq.symm (hd 7 (by kernel_rfl));clear hd;go_simp;exact hK _ _ (Below.refl _ _) rfl
 refine Oy.walk_q ?_ fun x2 => ?_
 ·intro w1 hb hd K hK;obtain rfl : _ = x11 := Eq.symm (hd 8 (by kernel_rfl));clear hd;go_simp;exact hK _ _ (Below.refl _ _) rfl
 refine Oy.walk_nil rfl (fun w1 hb hd => ?_);obtain rfl : _ = x3 := Eq.symm (hd 0 (by kernel_rfl));obtain rfl : _ = x4 := Eq.symm (hd 1 (by kernel_rfl));obtain rfl : _ = x5 := Eq.symm (hd 2 (by kernel_rfl));have h6 : (fun (_ : List Value) v W => CpR c sp tp v W) [] x6 w1 := hd 3 (by kernel_rfl);obtain rfl : _ = x7 := Eq.symm (hd 4 (by kernel_rfl));obtain rfl : _ = x8 := Eq.symm (hd 5 (by kernel_rfl));obtain rfl : _ = x9 := Eq.symm (hd 6 (by kernel_rfl));obtain rfl : _ = x10 := Eq.symm (hd 7 (by kernel_rfl));obtain rfl : _ = x11 := Eq.symm (hd 8 (by kernel_rfl));obtain rfl : _ = x2 := Eq.symm (hd 9 (by kernel_rfl));clear hd;have HBZ := Lib.hid (HBW.out w1 hb);clear hb;go_simp;go_wp2;go_ret;exact ⟨rfl, HBZ.out⟩
end Go.Proofs.YtgjeofaedidnpaaGreatDoor.Ch.Vd
