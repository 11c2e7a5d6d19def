/- Own texts, joined: Xf, Xd, Uc, Ud. -/
import Derived.Test.YtcnfcililiehlaaGreatDoorR8
import Derived.Test.YtcnfcililiehlaaGreatDoorR9
import Derived.Test.YtcnfcililiehlaaGreatDoorR10
namespace Go.Proofs.YtcnfcililiehlaaGreatDoor.Ch.Vd
open Go.RowKit
set_option maxRecDepth 100000
theorem nm_push {w w1 w2 W : World} {L : List (List UInt8)} {x : List UInt8} {v v' : Value} (hb : Below w.heap.size w w1) (hW : Below w1.heap.size w1 W) (ho : w1.ownsRow w.heap.size 9 1 v L.length (L.map bstr))
 (h2 : w2.ownsRow w.heap.size 9 1 v' (L.length + 1) (L.map bstr ++ [bstr x])) (hg : W.grownBy w2 v.ownBlock) : w2.ownsRow w.heap.size 9 1 v' (L ++ [x]).length ((L ++ [x]).map bstr) /\ Below w.heap.size w w2 := by
 refine ⟨by rw [List.map_append, List.length_append]; exact h2, (hb.trans (hW.mono hb.size)).grown hg (hb.trans (hW.mono hb.size)).size (fun k hk => (ho.lt k hk).1)⟩
theorem va_at {w : World} {A : Option Addr} {m cp : Nat} {vs : List VM} {n : Nat} (hR : Inn w 7 (.slice A m cp) n (Ch.flatV vs)) (hn : vs.length = n) {k : Nat} (hk : k < vs.length) :
 ∃ b o X, A = some ⟨b, o, none⟩ /\ b < w.heap.size /\ X.data.toList = vs[k].nm /\ w.cell? ⟨b, o + k * 7, none⟩ = some (.string X) /\ w.cell? ⟨b, o + k * 7 + 1, none⟩ = some (.int .i64 vs[k].kd) /\ w.cell? ⟨b, o + k * 7 + 2, none⟩ = some (.int .i64 vs[k].lo) /\ w.cell? ⟨b, o + k * 7 + 3, none⟩ = some (.int .i64 vs[k].hi) /\
  w.cell? ⟨b, o + k * 7 + 4, none⟩ = some (.int .i64 vs[k].ik) /\ w.cell? ⟨b, o + k * 7 + 5, none⟩ = some (.int .i64 vs[k].ia) /\ w.cell? ⟨b, o + k * 7 + 6, none⟩ = some (.int .i64 vs[k].ib) := by
 subst hn;obtain ⟨b, o, rfl, hb, hc⟩ := hR.at_ hk;obtain ⟨X, hX, hXl⟩ := bstr_some vs[k].nm;have f := fun j u (h : (vaV vs[k])[j]? = some u) (hj : j < 7) => hc j u ((flatM_at vaV 7 (fun _ => rfl) hk hj).trans h)
 have f0 := f 0 (bstr vs[k].nm) rfl (by omega);rw [hX] at f0;exact ⟨b, o, X, rfl, hb, hXl, f0, f 1 _ rfl (by omega), f 2 _ rfl (by omega), f 3 _ rfl (by omega), f 4 _ rfl (by omega), f 5 _ rfl (by omega), f 6 _ rfl (by omega)⟩
theorem take_map_snoc {α β : Type} (f : α -> β) {l : List α} {k : Nat} (hk : k < l.length) : (l.map f).take (k + 1) = (l.map f).take k ++ [f l[k]] := by
 rw [List.take_add_one];simp [hk]
set_option maxHeartbeats 8000000 in
theorem names_any {w : World} {c : CH} {eV vV sV tV : Value} {sp : List SP} {tp : List TP} (h : ChM w c eV vV sV tV sp tp) (hvl : c.vs.length <= 1000000) (hsl : sp.length <= 1000000) :
 Calls Tryz.prog 165 #[chA c eV vV sV tV] w fun e w' => (∃ u1 u2, e = .returned (.agg #[eV, u1, u2]) /\ w'.ownsRow w.heap.size 9 1 u1 (varN c).length ((varN c).map bstr) /\ w'.ownsRow w.heap.size 9 1 u2 (stN c).length ((stN c).map bstr)) /\ Below w.heap.size w w' := by
 obtain ⟨M, hM, hMl⟩ := bstr_some c.nm;have hR := h.ss; have hd := h.sd; have hE := h.ssE; have hV := h.vs;obtain ⟨is, hs0, hs1, hs2, hs3⟩ := info_of infoStrS;have HS0 := Lib.hid hs0; have HS1 := Lib.hid hs1; have HS2 := Lib.hid hs2; have HS3 := Lib.hid hs3;obtain ⟨⟨A1, k1, rfl⟩, ⟨A2, k2, rfl⟩, ⟨A3, k3, rfl⟩, ⟨A4, k4, rfl⟩⟩ := h.forms;unfold chA;rw [hM];have HVN : Hid (varN c = c.vs.map VM.nm) := rfl;have HSN : Hid (stN c = sp.map fun p => p.1.nm) := by show _ = _; unfold stN; rw [<- hE, List.map_map]; rfl
 have HVL : Hid ((varN c).length = c.vs.length) := by show _ = _; unfold varN; rw [List.length_map]
 have HSL : Hid ((stN c).length = sp.length) := by show _ = _; rw [HSN.out, List.length_map]
 have HV := Lib.hid hV; have HR := Lib.hid hR; have HD := Lib.hid hd;clear h hM hMl hR hd hE hV hs0 hs1 hs2 hs3;generalize c.es.length = n1; generalize tp.length = n4;obtain ⟨n2, hn2⟩ : ∃ n, c.vs.length = n := ⟨_, rfl⟩
 obtain ⟨n3, hn3⟩ : ∃ n, sp.length = n := ⟨_, rfl⟩
 have HN2 := Lib.hid hn2; have HN3 := Lib.hid hn3;rw [hn2] at hvl HV HVL; rw [hn3] at hsl HR HSL;show Calls _ _ #[.agg #[.string M, .slice A1 n1 k1, .slice A2 c.vs.length k2, .slice A3 sp.length k3, .slice A4 n4 k4]] w _;rw [hn2, hn3];clear hn2 hn3;obtain ⟨w1, hw1⟩ : ∃ W, W = (w.alloc (.cells #[.string M, .slice A1 n1 k1, .slice A2 n2 k2, .slice A3 n3 k3, .slice A4 n4 k4] 27)).alloc (.cells #[.slice none 0 0, .slice none 0 0, .slice none 0 0] 167) := ⟨_, rfl⟩
 have hb1 : Below w.heap.size w w1 := hw1 ▸ ((Below.refl _ _).alloc (Nat.le_refl _) _).alloc (by simp) _;have d1 : w1.cell? ⟨w.heap.size, 1, none⟩ = some (.slice A1 n1 k1) := by rw [hw1]; simp
 have d2 : w1.cell? ⟨w.heap.size, 2, none⟩ = some (.slice A2 n2 k2) := by rw [hw1]; simp
 have d3 : w1.cell? ⟨w.heap.size, 3, none⟩ = some (.slice A3 n3 k3) := by rw [hw1]; simp
 have g0 : w1.heap[w.heap.size + 1]? = some (.cells #[.slice none 0 0, .slice none 0 0, .slice none 0 0] 167 (0, 0)) := by
  have := World.alloc_heap_new (w.alloc (.cells #[.string M, .slice A1 n1 k1, .slice A2 n2 k2, .slice A3 n3 k3, .slice A4 n4 k4] 27)) (.cells #[.slice none 0 0, .slice none 0 0, .slice none 0 0] 167);rw [World.size_alloc] at this;rw [hw1]; exact this
 have HZ : Hid (w1.heap.size = w.heap.size + 2) := by show _ = _; rw [hw1]; simp
 have HW := Lib.hid hw1; have HB := Lib.hid hb1;have HG0 := Lib.hid g0; have HD1 := Lib.hid d1; have HD3 := Lib.hid d3;clear hw1 hb1 g0
 go_enter Tryz.func165, Tryz.ntmps165
 go_wp2_with fail
 rw [<- HW.out];go_wp2
 go_loopw [3, 6, 12] (fun xs xb xi wr => xb = xb /\ ∃ k : Nat, k <= n2 /\ xi = .int .i64 k /\ wr.ownsRow w1.heap.size 9 1 xs ((varN c).take k).length (((varN c).take k).map bstr) /\ Below w1.heap.size w1 wr) (fun _ _ x _ => n2 - (intOf x).toNat)
 case atStart => exact ⟨rfl, 0, by omega, rfl, World.ownsRow_nil _ _ _ _, Below.refl _ _⟩
 case round =>
  obtain ⟨_, k, hk, hxi, hown, hbw⟩ := hrel;obtain ⟨L, hL⟩ : ∃ L, (varN c).take k = L := ⟨_, rfl⟩
  rw [hL] at hown;have HL := Lib.hid hL;subst hxi;obtain ⟨wl, hwl⟩ : ∃ W, W = wr := ⟨_, rfl⟩
  subst hwl;obtain ⟨As, cs, es⟩ := own_slice hown;subst es;have HBW := Lib.hid hbw; have HOW := Lib.hid hown;have hLl : L.length <= 1000000 := by rw [<- hL, List.length_take]; omega
  clear hown hL;by_cases hkn : k < n2
  ·obtain ⟨b, o, X, rfl, _, hX, e0, e1, e2, e3, e4, e5, e6⟩ := va_at (HV.out.below (HB.out.trans (hbw.mono HB.out.size))) HN2.out (k := k) (by rw [HN2.out]; exact hkn);have htk : (varN c).take (k + 1) = L ++ [X.data.toList] := by rw [<- HL.out, HVN.out, hX]; exact take_map_snoc _ _
   generalize (c.vs[k]'(by rw [HN2.out]; exact hkn)).kd = x1 at *
   generalize (c.vs[k]'(by rw [HN2.out]; exact hkn)).lo = x2 at *
   generalize (c.vs[k]'(by rw [HN2.out]; exact hkn)).hi = x3 at *
   generalize (c.vs[k]'(by rw [HN2.out]; exact hkn)).ik = x4 at *
   generalize (c.vs[k]'(by rw [HN2.out]; exact hkn)).ia = x5 at *
   generalize (c.vs[k]'(by rw [HN2.out]; exact hkn)).ib = x6 at *
   have HTK := Lib.hid htk;obtain ⟨wm, hwm⟩ : ∃ W, W = wl.alloc (.cells #[.string X, .int .i64 x1, .int .i64 x2, .int .i64 x3, .int .i64 x4, .int .i64 x5, .int .i64 x6] 86) := ⟨_, rfl⟩
   have hbm : Below wl.heap.size wl wm := hwm ▸ (Below.refl _ _).alloc (Nat.le_refl _) _;have m0 : wm.cell? ⟨wl.heap.size, 0, none⟩ = some (.string X) := by rw [hwm]; simp
   have hzm : wm.heap.size = wl.heap.size + 1 := by rw [hwm]; simp
   have HIN : Hid (Inn (wm.alloc (.cells #[.string X] 9)) 1 (.slice (some ⟨wl.heap.size + 1, 0, none⟩) 1 1) 1 [.string X]) := by rw [<- hzm]; exact Inn.of_own (Oz.own_laid (B := 0) (size := 1) wm #[.string X] (Nat.zero_le _) (by decide) rfl)
   have HWM := Lib.hid hwm; have HBM := Lib.hid hbm;have hsz := HBW.out.size;clear hwm hbm hX htk hbw
   go_wp2_with (at_builtin; rw [<- HWM.out]; refine Ow.wpList_append rfl (.tmp 16) (.tmp 19) 22 rfl w1.heap.size 9 is _ 1 16 Tryz.underlying22 HS0.out HS1.out HS2.out HS3.out rfl (by decide) _ L.length (L.map bstr) rfl ((own_below HOW.out HBM.out).alloc _) _ 1 [.string X] rfl HIN.out (by intro u hu; simp at hu; subst hu; rfl) (by unfold maxLen; omega) (by omega) (by simp; omega) ?_)
   intro v5 w5 ho5 hg5 _;obtain ⟨hr, hb⟩ := nm_push HBW.out (HBM.out.alloc HBM.out.size (.cells #[.string X] 9)) HOW.out (x := X.data.toList) (by rw [bstr_of]; exact ho5) hg5;rw [<- HTK.out] at hr;have HR5 := Lib.hid hr; have HB5 := Lib.hid hb;clear ho5 hg5 hr hb;go_wp2
   go_roundw
   case rel => exact ⟨(by first | rfl | trivial), k + 1, by omega, by go_num, HR5.out, HB5.out⟩
   case measure => simp [intOf] <;> omega
  ·obtain rfl : k = n2 := by omega
   have HU1 : Hid (wl.ownsRow w1.heap.size 9 1 (.slice As L.length cs) (varN c).length ((varN c).map bstr)) := by
    show World.ownsRow _ _ _ _ _ _ _;have := HOW.out;rw [show L = varN c by rw [<- HL.out]; exact List.take_of_length_le (by rw [HVL.out]; exact Nat.le_refl _)] at this ⊢;exact this
   have d3 := (hbw.cell (by have := HZ.out; have := HBW.out.size; show w.heap.size < _; omega)).trans HD3.out;have d1 := (hbw.cell (by have := HZ.out; have := HBW.out.size; show w.heap.size < _; omega)).trans HD1.out;have g1 := Lib.hid ((hbw.block (w.heap.size + 1) (by have := HZ.out; omega)).trans HG0.out);have hsz0 := hbw.size;generalize L.length = nv at *
   clear hbw hkn hk d2 hLl;have HD1' := Lib.hid d1;go_wp2
   go_loopw [4, 8, 25] (fun xs xb xi wr => xb = xb /\ ∃ j : Nat, j <= n3 /\ xi = .int .i64 j /\ wr.ownsRow wl.heap.size 9 1 xs ((stN c).take j).length (((stN c).take j).map bstr) /\ Below wl.heap.size wl wr) (fun _ _ x _ => n3 - (intOf x).toNat)
   case atStart => exact ⟨rfl, 0, by omega, rfl, World.ownsRow_nil _ _ _ _, Below.refl _ _⟩
   case round =>
    obtain ⟨_, j, hj, hxi, hown, hbj⟩ := hrel;obtain ⟨K, hK⟩ : ∃ L, (stN c).take j = L := ⟨_, rfl⟩
    rw [hK] at hown;have HKL := Lib.hid hK;subst hxi;obtain ⟨wk, hwk⟩ : ∃ W, W = wr := ⟨_, rfl⟩
    subst hwk;obtain ⟨At, ct, et⟩ := own_slice hown;subst et;have HBJ := Lib.hid hbj; have HOJ := Lib.hid hown;have hLj : K.length <= 1000000 := by rw [<- hK, List.length_take]; omega
    clear hown hK;by_cases hjn : j < n3
    ·obtain ⟨b, o, X, Y, A4, n4, c4, A5, n5, c5, rfl, _, hX, _, _, _, _, _, e0, e1, e2, e3, e4, e5⟩ := st_at ((HR.out.below (HB.out.trans (HBW.out.mono HB.out.size))).below hbj) HN3.out (fun p hp => (((HD.out p hp).below HB.out).below HBW.out).below hbj) (k := j) (by rw [HN3.out]; exact hjn);have htk : (stN c).take (j + 1) = K ++ [X.data.toList] := by rw [<- HKL.out, HSN.out, hX]; exact take_map_snoc _ _
     generalize (sp[j]'(by rw [HN3.out]; exact hjn)).1.kd = x1 at *
     generalize (sp[j]'(by rw [HN3.out]; exact hjn)).1.dp = x2 at *
     have HTK := Lib.hid htk;obtain ⟨wm, hwm⟩ : ∃ W, W = wk.alloc (.cells #[.string X, .int .i64 x1, .int .i64 x2, .string Y, .slice A4 n4 c4, .slice A5 n5 c5] 50) := ⟨_, rfl⟩
     have hbm : Below wk.heap.size wk wm := hwm ▸ (Below.refl _ _).alloc (Nat.le_refl _) _;have m0 : wm.cell? ⟨wk.heap.size, 0, none⟩ = some (.string X) := by rw [hwm]; simp
     have hzm : wm.heap.size = wk.heap.size + 1 := by rw [hwm]; simp
     have HIN : Hid (Inn (wm.alloc (.cells #[.string X] 9)) 1 (.slice (some ⟨wk.heap.size + 1, 0, none⟩) 1 1) 1 [.string X]) := by rw [<- hzm]; exact Inn.of_own (Oz.own_laid (B := 0) (size := 1) wm #[.string X] (Nat.zero_le _) (by decide) rfl)
     have HWM := Lib.hid hwm; have HBM := Lib.hid hbm;have hsj := HBJ.out.size;clear hwm hbm hX htk hbj
     go_wp2_with (at_builtin; rw [<- HWM.out]; refine Ow.wpList_append rfl (.tmp 29) (.tmp 32) 22 rfl wl.heap.size 9 is _ 1 16 Tryz.underlying22 HS0.out HS1.out HS2.out HS3.out rfl (by decide) _ K.length (K.map bstr) rfl ((own_below HOJ.out HBM.out).alloc _) _ 1 [.string X] rfl HIN.out (by intro u hu; simp at hu; subst hu; rfl) (by unfold maxLen; omega) (by omega) (by simp; omega) ?_)
     intro v5 w5 ho5 hg5 _;obtain ⟨hr, hb⟩ := nm_push HBJ.out (HBM.out.alloc HBM.out.size (.cells #[.string X] 9)) HOJ.out (x := X.data.toList) (by rw [bstr_of]; exact ho5) hg5;rw [<- HTK.out] at hr;have HR5 := Lib.hid hr; have HB5 := Lib.hid hb;clear ho5 hg5 hr hb;go_wp2
     go_roundw
     case rel => exact ⟨(by first | rfl | trivial), j + 1, by omega, by go_num, HR5.out, HB5.out⟩
     case measure => simp [intOf] <;> omega
    ·obtain rfl : j = n3 := by omega
     have HU2 : Hid (wk.ownsRow wl.heap.size 9 1 (.slice At K.length ct) (stN c).length ((stN c).map bstr)) := by
      show World.ownsRow _ _ _ _ _ _ _;have := HOJ.out;rw [show K = stN c by rw [<- HKL.out]; exact List.take_of_length_le (by rw [HSL.out]; exact Nat.le_refl _)] at this ⊢;exact this
     have q1 := (hbj.cell (by have := HZ.out; have := HBW.out.size; show w.heap.size < _; omega)).trans HD1'.out;have g2 := (hbj.block (w.heap.size + 1) (by have := HZ.out; have := HBW.out.size; omega)).trans g1.out;have HG2 := Lib.hid g2;obtain ⟨f0, f1, f2⟩ : wk.frozen? ⟨w.heap.size + 1, 0, none⟩ = false /\ wk.frozen? ⟨w.heap.size + 1, 1, none⟩ = false /\ wk.frozen? ⟨w.heap.size + 1, 2, none⟩ = false := by simp [World.frozen?, g2]
     obtain ⟨y0, y1, y2⟩ : wk.cell? ⟨w.heap.size + 1, 0, none⟩ = some (.slice none 0 0) /\ wk.cell? ⟨w.heap.size + 1, 1, none⟩ = some (.slice none 0 0) /\ wk.cell? ⟨w.heap.size + 1, 2, none⟩ = some (.slice none 0 0) := by simp [World.cell?, g2]
     generalize K.length = nt at *
     clear hjn hj d1 d3 hLj hbj g2;go_wp2;have r0 : (wk.setCell ⟨w.heap.size + 1, 0, none⟩ (.slice A1 n1 k1)).heap[w.heap.size + 1]? = some (.cells #[.slice A1 n1 k1, .slice none 0 0, .slice none 0 0] 167 (0, 0)) := heap_setCell_same _ _ 0 _ _ _ HG2.out;have r1 : ((wk.setCell ⟨w.heap.size + 1, 0, none⟩ (.slice A1 n1 k1)).setCell ⟨w.heap.size + 1, 1, none⟩ (.slice As nv cs)).heap[w.heap.size + 1]? = some (.cells #[.slice A1 n1 k1, .slice As nv cs, .slice none 0 0] 167 (0, 0)) := heap_setCell_same _ _ 1 _ _ _ r0;have r2 : (((wk.setCell ⟨w.heap.size + 1, 0, none⟩ (.slice A1 n1 k1)).setCell ⟨w.heap.size + 1, 1, none⟩ (.slice As nv cs)).setCell ⟨w.heap.size + 1, 2, none⟩ (.slice At nt ct)).heap[w.heap.size + 1]? = some (.cells #[.slice A1 n1 k1, .slice As nv cs, .slice At nt ct] 167 (0, 0)) := heap_setCell_same _ _ 2 _ _ _ r1;have hz2 := HZ.out;have hzl := HBW.out.size;have hp1 : w.heap.size + 1 < w1.heap.size := by omega
     have hp2 : w.heap.size + 1 < wl.heap.size := by omega
     have hu1 := own_lower (own_past (own_past (own_past (own_below HU1.out HBJ.out) hp1 0 (.slice A1 n1 k1)) hp1 1 (.slice As nv cs)) hp1 2 (.slice At nt ct)) (show w.heap.size <= w1.heap.size by omega);have hu2 := own_lower (own_past (own_past (own_past HU2.out hp2 0 (.slice A1 n1 k1)) hp2 1 (.slice As nv cs)) hp2 2 (.slice At nt ct)) (show w.heap.size <= wl.heap.size by omega);have hbf := (((HB.out.trans ((HBW.out.trans (HBJ.out.mono HBW.out.size)).mono HB.out.size)).setCell (p := ⟨w.heap.size + 1, 0, none⟩) (show w.heap.size <= w.heap.size + 1 by omega) (.slice A1 n1 k1)).setCell (p := ⟨w.heap.size + 1, 1, none⟩) (show w.heap.size <= w.heap.size + 1 by omega) (.slice As nv cs)).setCell (p := ⟨w.heap.size + 1, 2, none⟩) (show w.heap.size <= w.heap.size + 1 by omega) (.slice At nt ct);clear r0 r1 hz2 hzl hp1 hp2 f0 f1 f2 y0 y1 y2;generalize World.setCell _ _ _ = WF at *
     obtain ⟨z0, z1, z2⟩ : WF.cell? ⟨w.heap.size + 1, 0, none⟩ = some (.slice A1 n1 k1) /\ WF.cell? ⟨w.heap.size + 1, 1, none⟩ = some (.slice As nv cs) /\ WF.cell? ⟨w.heap.size + 1, 2, none⟩ = some (.slice At nt ct) := by simp [World.cell?, r2]
     refine bodyPost_ret (v := .agg #[.slice A1 n1 k1, .slice As nv cs, .slice At nt ct]) ?_ rfl ⟨⟨_, _, rfl, hu1, hu2⟩, hbf⟩;have hr := Tryz.results165;unfold results;rw [hr];simp [go_sem, Sem.run_bind, Result.andThen, z0, z1, z2]
end Go.Proofs.YtcnfcililiehlaaGreatDoor.Ch.Vd
namespace Go.Proofs.YtcnfcililiehlaaGreatDoor.Ch.Vd
open Go.RowKit
theorem box_v (w : World) (x0 x1 x2 x3 x4 x5 x6 : Value) : ∃ w1, w1 = w.alloc (.cells #[x0, x1, x2, x3, x4, x5, x6] 86) /\ Below w.heap.size w w1 /\ w1.heap.size = w.heap.size + 1 /\
 w1.cell? ⟨w.heap.size, 0, none⟩ = some x0 /\ w1.cell? ⟨w.heap.size, 1, none⟩ = some x1 /\ w1.cell? ⟨w.heap.size, 2, none⟩ = some x2 /\ w1.cell? ⟨w.heap.size, 3, none⟩ = some x3 /\ w1.cell? ⟨w.heap.size, 4, none⟩ = some x4 /\ w1.cell? ⟨w.heap.size, 5, none⟩ = some x5 /\ w1.cell? ⟨w.heap.size, 6, none⟩ = some x6 :=
 ⟨_, rfl, (Below.refl _ _).alloc (Nat.le_refl _) _, by simp, by simp, by simp, by simp, by simp, by simp, by simp, by simp⟩
abbrev vaA (X : ByteArray) (v : VM) : Value := .agg #[.string X, .int .i64 v.kd, .int .i64 v.lo, .int .i64 v.hi, .int .i64 v.ik, .int .i64 v.ia, .int .i64 v.ib]
set_option maxRecDepth 100000 in
theorem isBounded_any (v : VM) (X : ByteArray) (w : World) : Calls Tryz.prog 171 #[vaA X v] w fun e w' => e = .returned (.bool (bndB v)) /\ Below w.heap.size w w' := by
 obtain ⟨nm, kd, lo, hi, ik, ia, ib⟩ := v;unfold vaA;show Calls _ _ #[.agg #[.string X, .int .i64 kd, .int .i64 lo, .int .i64 hi, .int .i64 ik, .int .i64 ia, .int .i64 ib]] w _;obtain ⟨w1, hw1, hb1, hz1, d0, d1, d2, d3, d4, d5, d6⟩ := box_v w (.string X) (.int .i64 kd) (.int .i64 lo) (.int .i64 hi) (.int .i64 ik) (.int .i64 ia) (.int .i64 ib);have HW := Lib.hid hw1; have HB := Lib.hid hb1;clear hw1 hb1;by_cases k2 : kd = 2
 ·subst k2;have hr : bndB ⟨nm, 2, lo, hi, ik, ia, ib⟩ = (decide (lo = 0) && decide (hi = 1)) := rfl;have HR := Lib.hid hr; clear hr;by_cases h0 : lo = 0
  ·subst h0;by_cases h1 : hi = 1
   ·subst h1
    go_enter Tryz.func171, Tryz.ntmps171
    go_wp2_with fail
    rw [<- HW.out];go_wp2;go_ret;exact ⟨ret_bool (by rw [HR.out]; rfl), HB.out⟩
   ·have q1 := int_ne h1
    go_enter Tryz.func171, Tryz.ntmps171
    go_wp2_with fail
    rw [<- HW.out];go_wp2;go_ret;exact ⟨ret_bool (by rw [HR.out, decide_eq_false h1]; rfl), HB.out⟩
  ·have q0 := int_ne h0
   go_enter Tryz.func171, Tryz.ntmps171
   go_wp2_with fail
   rw [<- HW.out];go_wp2;go_ret;exact ⟨ret_bool (by rw [HR.out, decide_eq_false h0]; rfl), HB.out⟩
 ·have e2 := int_ne k2;by_cases k3 : kd = 3
  ·subst k3;have hr : bndB ⟨nm, 3, lo, hi, ik, ia, ib⟩ = (decide (-1048576 <= lo) && (decide (lo <= hi) && decide (hi <= 1048576))) := rfl;have HR := Lib.hid hr; clear hr;by_cases h0 : -1048576 <= lo
   ·have q0 : decide (-1048576 <= lo) = true := decide_eq_true h0;clear h0;by_cases h1 : lo <= hi
    ·have q1 : decide (lo <= hi) = true := decide_eq_true h1;clear h1
     skip
     go_enter Tryz.func171, Tryz.ntmps171
     go_wp2_with fail
     rw [<- HW.out];go_wp2;go_ret;exact ⟨ret_bool (by rw [HR.out]; simp [*]), HB.out⟩
    ·have q1 : decide (lo <= hi) = false := decide_eq_false h1;clear h1
     go_enter Tryz.func171, Tryz.ntmps171
     go_wp2_with fail
     rw [<- HW.out];go_wp2;go_ret;exact ⟨ret_bool (by rw [HR.out]; simp [*]), HB.out⟩
   ·have q0 : decide (-1048576 <= lo) = false := decide_eq_false h0;clear h0
    go_enter Tryz.func171, Tryz.ntmps171
    go_wp2_with fail
    rw [<- HW.out];go_wp2;go_ret;exact ⟨ret_bool (by rw [HR.out]; simp [*]), HB.out⟩
  ·have e3 := int_ne k3;have hr : bndB ⟨nm, kd, lo, hi, ik, ia, ib⟩ = (decide (-1099511627776 <= lo) && (decide (lo <= hi) && decide (hi <= 1099511627776))) := by unfold bndB; rw [if_neg k2, if_neg k3]
   have HR := Lib.hid hr; clear hr k2 k3;by_cases h0 : -1099511627776 <= lo
   ·have q0 : decide (-1099511627776 <= lo) = true := decide_eq_true h0;clear h0;by_cases h1 : lo <= hi
    ·have q1 : decide (lo <= hi) = true := decide_eq_true h1;clear h1
     skip
     go_enter Tryz.func171, Tryz.ntmps171
     go_wp2_with fail
     rw [<- HW.out];go_wp2;go_ret;exact ⟨ret_bool (by rw [HR.out]; simp [*]), HB.out⟩
    ·have q1 : decide (lo <= hi) = false := decide_eq_false h1;clear h1
     go_enter Tryz.func171, Tryz.ntmps171
     go_wp2_with fail
     rw [<- HW.out];go_wp2;go_ret;exact ⟨ret_bool (by rw [HR.out]; simp [*]), HB.out⟩
   ·have q0 : decide (-1099511627776 <= lo) = false := decide_eq_false h0;clear h0
    go_enter Tryz.func171, Tryz.ntmps171
    go_wp2_with fail
    rw [<- HW.out];go_wp2;go_ret;exact ⟨ret_bool (by rw [HR.out]; simp [*]), HB.out⟩
set_option maxRecDepth 100000 in
theorem mayHold_any (v : VM) (X : ByteArray) (x : VA) (w : World) : Calls Tryz.prog 173 #[vaA X v, .agg #[.int .i64 x.kd, .int .i64 x.a, .int .i64 x.b]] w fun e w' => e = .returned (.bool (holdB v x)) /\ Below w.heap.size w w' := by
 obtain ⟨nm, kd, lo, hi, ik, ia, ib⟩ := v;obtain ⟨xk, a, b⟩ := x;unfold vaA;show Calls _ _ #[.agg #[.string X, .int .i64 kd, .int .i64 lo, .int .i64 hi, .int .i64 ik, .int .i64 ia, .int .i64 ib], .agg #[.int .i64 xk, .int .i64 a, .int .i64 b]] w _;obtain ⟨w1, hw1⟩ : ∃ W, W = (w.alloc (.cells #[.string X, .int .i64 kd, .int .i64 lo, .int .i64 hi, .int .i64 ik, .int .i64 ia, .int .i64 ib] 86)).alloc (.cells #[.int .i64 xk, .int .i64 a, .int .i64 b] 84) := ⟨_, rfl⟩
 have hb1 : Below w.heap.size w w1 := hw1 ▸ ((Below.refl _ _).alloc (Nat.le_refl _) _).alloc (by simp) _;have d1 : w1.cell? ⟨w.heap.size, 1, none⟩ = some (.int .i64 kd) := by rw [hw1]; simp
 have d2 : w1.cell? ⟨w.heap.size, 2, none⟩ = some (.int .i64 lo) := by rw [hw1]; simp
 have d3 : w1.cell? ⟨w.heap.size, 3, none⟩ = some (.int .i64 hi) := by rw [hw1]; simp
 have g1 : w1.cell? ⟨w.heap.size + 1, 1, none⟩ = some (.int .i64 a) := by rw [hw1]; simp
 have g2 : w1.cell? ⟨w.heap.size + 1, 2, none⟩ = some (.int .i64 b) := by rw [hw1]; simp
 have hr : holdB ⟨nm, kd, lo, hi, ik, ia, ib⟩ ⟨xk, a, b⟩ = ((decide (lo <= a) && decide (a <= hi)) && (decide (kd ≠ 3) || (decide (lo <= b) && decide (b <= hi)))) := rfl;have HR := Lib.hid hr; have HW := Lib.hid hw1; have HB := Lib.hid hb1;clear hr hw1 hb1;by_cases h1 : a < lo
 ·have q1 : decide (a < lo) = true := decide_eq_true h1;have z1 : decide (lo <= a) = false := decide_eq_false (by omega);clear h1
  go_enter Tryz.func173, Tryz.ntmps173
  go_wp2_with fail
  rw [<- HW.out];go_wp2;go_ret;exact ⟨ret_bool (by rw [HR.out]; simp [*]), HB.out⟩
 ·have q1 : decide (a < lo) = false := decide_eq_false h1;have z1 : decide (lo <= a) = true := decide_eq_true (by omega);clear h1;by_cases h2 : hi < a
  ·have q2 : decide (hi < a) = true := decide_eq_true h2;have z2 : decide (a <= hi) = false := decide_eq_false (by omega);clear h2
   go_enter Tryz.func173, Tryz.ntmps173
   go_wp2_with fail
   rw [<- HW.out];go_wp2;go_ret;exact ⟨ret_bool (by rw [HR.out]; simp [*]), HB.out⟩
  ·have q2 : decide (hi < a) = false := decide_eq_false h2;have z2 : decide (a <= hi) = true := decide_eq_true (by omega);clear h2;by_cases h3 : kd = 3
   ·subst h3;by_cases h4 : lo <= b
    ·have q4 : decide (lo <= b) = true := decide_eq_true h4;clear h4
     go_enter Tryz.func173, Tryz.ntmps173
     go_wp2_with fail
     rw [<- HW.out];go_wp2;go_ret;exact ⟨ret_bool (by rw [HR.out]; simp [*]), HB.out⟩
    ·have q4 : decide (lo <= b) = false := decide_eq_false h4;clear h4
     go_enter Tryz.func173, Tryz.ntmps173
     go_wp2_with fail
     rw [<- HW.out];go_wp2;go_ret;exact ⟨ret_bool (by rw [HR.out]; simp [*]), HB.out⟩
   ·have q3 : (kd != 3) = true := bne_iff_ne.2 h3;have z3 : decide (kd ≠ 3) = true := decide_eq_true h3;clear h3
    go_enter Tryz.func173, Tryz.ntmps173
    go_wp2_with fail
    rw [<- HW.out];go_wp2;go_ret;exact ⟨ret_bool (by rw [HR.out, z1, z2, z3]; rfl), HB.out⟩
set_option maxRecDepth 100000 in
set_option maxHeartbeats 4000000 in
theorem variable_any (v : VM) (X : ByteArray) (w : World) : Calls Tryz.prog 135 #[vaA X v] w fun e w' => e = .returned (.int .i64 (varE v)) /\ Below w.heap.size w w' := by
 have HBO := Lib.hid (isBounded_any v X);have HRV := Lib.hid (fun W => evRight_any (inV v) W);have HMH := Lib.hid (fun W => mayHold_any v X (inV v) W);obtain ⟨nm, kd, lo, hi, ik, ia, ib⟩ := v;have hr : varE ⟨nm, kd, lo, hi, ik, ia, ib⟩ = if ¬ (1 <= kd /\ kd <= 3) \/ ik ≠ kd then 8 else unE (bndB ⟨nm, kd, lo, hi, ik, ia, ib⟩ && (rightV ⟨ik, ia, ib⟩ && holdB ⟨nm, kd, lo, hi, ik, ia, ib⟩ ⟨ik, ia, ib⟩)) 5 := rfl
 have HR := Lib.hid hr; clear hr;unfold vaA inV at *
 simp only at *
 generalize bndB ⟨nm, kd, lo, hi, ik, ia, ib⟩ = b1 at *
 generalize rightV ⟨ik, ia, ib⟩ = b2 at *
 generalize holdB ⟨nm, kd, lo, hi, ik, ia, ib⟩ ⟨ik, ia, ib⟩ = b3 at *
 obtain ⟨w1, hw1, hb1, hz1, d0, d1, d2, d3, d4, d5, d6⟩ := box_v w (.string X) (.int .i64 kd) (.int .i64 lo) (.int .i64 hi) (.int .i64 ik) (.int .i64 ia) (.int .i64 ib);have HW := Lib.hid hw1; have HB := Lib.hid hb1;clear hw1 hb1;by_cases h1 : kd < 1
 ·have q1 : decide (kd < 1) = true := decide_eq_true h1;have hv : varE ⟨nm, kd, lo, hi, ik, ia, ib⟩ = 8 := by rw [HR.out, if_pos (Or.inl (by omega))]
  have HV := Lib.hid hv; clear hv h1
  go_enter Tryz.func135, Tryz.ntmps135
  go_wp2_with fail
  rw [<- HW.out];go_wp2;go_ret;exact ⟨ret_int HV.out.symm, HB.out⟩
 have q1 : decide (kd < 1) = false := decide_eq_false h1;by_cases h2 : 3 < kd
 ·have q2 : decide (3 < kd) = true := decide_eq_true h2;have hv : varE ⟨nm, kd, lo, hi, ik, ia, ib⟩ = 8 := by rw [HR.out, if_pos (Or.inl (by omega))]
  have HV := Lib.hid hv; clear hv h1 h2
  go_enter Tryz.func135, Tryz.ntmps135
  go_wp2_with fail
  rw [<- HW.out];go_wp2;go_ret;exact ⟨ret_int HV.out.symm, HB.out⟩
 have q2 : decide (3 < kd) = false := decide_eq_false h2;by_cases h3 : ik = kd
 ·subst h3;have hv : varE ⟨nm, ik, lo, hi, ik, ia, ib⟩ = unE (b1 && (b2 && b3)) 5 := by rw [HR.out, if_neg (fun h => by rcases h with h | h; exact h ⟨by omega, by omega⟩; exact h rfl)]
  have HV := Lib.hid hv; clear hv h1 h2;have q3 : (ik != ik) = false := by simp
  have HT : Hid (∀ W, Below w1.heap.size w1 W -> W.cell? ⟨w.heap.size, 0, none⟩ = some (.string X) /\ W.cell? ⟨w.heap.size, 1, none⟩ = some (.int .i64 ik) /\ W.cell? ⟨w.heap.size, 2, none⟩ = some (.int .i64 lo) /\ W.cell? ⟨w.heap.size, 3, none⟩ = some (.int .i64 hi) /\ W.cell? ⟨w.heap.size, 4, none⟩ = some (.int .i64 ik) /\ W.cell? ⟨w.heap.size, 5, none⟩ = some (.int .i64 ia) /\ W.cell? ⟨w.heap.size, 6, none⟩ = some (.int .i64 ib)) := fun W hW =>
   ⟨(hW.cell (show w.heap.size < _ by omega)).trans d0, (hW.cell (show w.heap.size < _ by omega)).trans d1, (hW.cell (show w.heap.size < _ by omega)).trans d2, (hW.cell (show w.heap.size < _ by omega)).trans d3, (hW.cell (show w.heap.size < _ by omega)).trans d4, (hW.cell (show w.heap.size < _ by omega)).trans d5, (hW.cell (show w.heap.size < _ by omega)).trans d6⟩
  go_enter Tryz.func135, Tryz.ntmps135
  go_wp2_with fail
  rw [<- HW.out]
  go_wp2_with fail
  refine (HBO.out _).mono ?_;rintro e w2 ⟨rfl, hb2⟩;obtain ⟨k0, k1, k2, k3, k4, k5, k6⟩ := HT.out w2 hb2;have HB2 := Lib.hid hb2; clear hb2 d0 d1 d2 d3 d4 d5 d6;cases b1 with
  | false =>
   go_wp2_with (go_at_call 121; refine (unless_any _ _ _).mono ?_; rintro e w5 ⟨rfl, h5⟩; obtain rfl := h5)
   go_ret;exact ⟨ret_int HV.out.symm, HB.out.trans (HB2.out.mono HB.out.size)⟩
  | true =>
   go_wp2_with fail
   refine (HRV.out _).mono ?_;rintro e w3 ⟨rfl, hb3⟩;obtain ⟨j0, j1, j2, j3, j4, j5, j6⟩ := HT.out w3 (HB2.out.trans (hb3.mono HB2.out.size));have HB3 := Lib.hid (HB2.out.trans (hb3.mono HB2.out.size)); clear hb3 k0 k1 k2 k3 k4 k5 k6;cases b2 with
   | false =>
    go_wp2_with (go_at_call 121; refine (unless_any _ _ _).mono ?_; rintro e w5 ⟨rfl, h5⟩; obtain rfl := h5)
    go_ret;exact ⟨ret_int HV.out.symm, HB.out.trans (HB3.out.mono HB.out.size)⟩
   | true =>
    go_wp2_with fail
    refine (HMH.out _).mono ?_;rintro e w4 ⟨rfl, hb4⟩;have HB4 := Lib.hid (HB3.out.trans (hb4.mono HB3.out.size)); clear hb4;cases b3 <;>
    ·go_wp2_with (go_at_call 121; refine (unless_any _ _ _).mono ?_; rintro e w5 ⟨rfl, h5⟩; obtain rfl := h5)
     go_ret;exact ⟨ret_int HV.out.symm, HB.out.trans (HB4.out.mono HB.out.size)⟩
 ·have q3 : (ik != kd) = true := bne_iff_ne.2 h3;have hv : varE ⟨nm, kd, lo, hi, ik, ia, ib⟩ = 8 := by rw [HR.out, if_pos (Or.inr h3)]
  have HV := Lib.hid hv; clear hv h1 h2
  go_enter Tryz.func135, Tryz.ntmps135
  go_wp2_with fail
  rw [<- HW.out];go_wp2;go_ret;exact ⟨ret_int HV.out.symm, HB.out⟩
end Go.Proofs.YtcnfcililiehlaaGreatDoor.Ch.Vd
namespace Go.Proofs.YtcnfcililiehlaaGreatDoor.Tr
open Go.RowKit
set_option maxHeartbeats 1000000 in
theorem within_any (v : Value) (xs : List SM) (i j : Nat) (w : World) (hR : RdT w v xs) (hi : i < xs.length) (hj : j < xs.length) (hl : xs.length <= 4611686018427387904) :
 Calls Tryz.prog 235 #[v, .int .i64 i, .int .i64 j] w fun e w' => e = .returned (.bool (decide (wi (dp xs) i j))) /\ ∃ n, w' = w.drewN n := by
 have HE := Lib.hid (fun W (h : RdT W v xs) => end_any v xs i W h hi hl);have HI := Lib.hid (wi_iff (d := dp xs) hi hj);have hes := (en_spec (dp xs) hi).2.1;generalize en (dp xs) xs.length i = E at *
 have HR := Lib.hid hR; clear hR;by_cases hij : i < j
 ·by_cases hE : j < E
  ·have hw : decide (wi (dp xs) i j) = true := decide_eq_true (HI.out.2 ⟨hij, hE⟩);rw [hw];clear hw HI
   go_enter Tryz.func235, Tryz.ntmps235
   go_wp2_with fail
   refine (HE.out _ HR.out).mono ?_;rintro e w1 ⟨rfl, q, rfl⟩;go_wp2;go_ret;exact ⟨rfl, q, rfl⟩
  ·have hw : decide (wi (dp xs) i j) = false := decide_eq_false (fun h => hE (HI.out.1 h).2);rw [hw];clear hw HI
   go_enter Tryz.func235, Tryz.ntmps235
   go_wp2_with fail
   refine (HE.out _ HR.out).mono ?_;rintro e w1 ⟨rfl, q, rfl⟩;go_wp2;go_ret;exact ⟨rfl, q, rfl⟩
 ·have hw : decide (wi (dp xs) i j) = false := decide_eq_false (fun h => hij h.1);rw [hw];clear hw HI
  go_enter Tryz.func235, Tryz.ntmps235
  go_wp2;go_ret;exact ⟨rfl, 0, rfl⟩
set_option maxHeartbeats 1000000 in
theorem refWithin_any (v : Value) (xs : List SM) (i j : Nat) (w : World) (hR : RdT w v xs) (hj : j < xs.length) (hl : xs.length <= 4611686018427387904) (hN : Nst (dp xs) xs.length) :
 Calls Tryz.prog 25 #[v, .int .i64 i, .int .i64 j] w fun e w' => e = .returned (.bool (decide (wi (dp xs) i j))) /\ ∃ n, w' = w.drewN n := by
 have HP := Lib.hid (fun k W (hk : k < xs.length) (h : RdT W v xs) => refParent_any v xs k W h hk hl hN);have HN := Lib.hid hN;have HR := Lib.hid hR; clear hR hN;have hwp := HN.out.wi_par (i := i) hj;have hp0 : par (dp xs) j = -1 \/ ∃ p : Nat, par (dp xs) j = p /\ p < xs.length := by
  rcases HN.out.nearest hj with ⟨h, _⟩ | ⟨p, h, h1, _⟩
  ·exact Or.inl h
  ·exact Or.inr ⟨p, h, by omega⟩
 have HW := Lib.hid hwp; have HP0 := Lib.hid hp0;clear hwp hp0
 go_enter Tryz.func25, Tryz.ntmps25
 go_wp2_with fail
 refine (HP.out j _ hj HR.out).mono ?_;rintro e w1 ⟨rfl, q, rfl⟩;go_wp2
 go_loopw [7] (fun x wr => ∃ m : Nat, wr = w.drewN m /\ ((x = .int .i64 (-1) /\ Hid (¬ wi (dp xs) i j)) \/ ∃ k : Nat, x = .int .i64 k /\ k < xs.length /\ Hid (wi (dp xs) i j ↔ (k = i \/ wi (dp xs) i k)))) (fun x _ => (intOf x + 1).toNat)
 case atStart =>
  refine ⟨q, rfl, ?_⟩;rcases HP0.out with h | ⟨p, h, hp⟩
  ·exact Or.inl ⟨by rw [h], fun hw => by obtain ⟨p, e, _⟩ := HW.out.1 hw; rw [h] at e; omega⟩
  ·refine Or.inr ⟨p, by rw [h], hp, HW.out.trans ?_⟩;constructor
   ·rintro ⟨p', e, hh⟩;rw [h] at e;obtain rfl : p = p' := by omega
    exact hh
   ·exact fun hh => ⟨p, h, hh⟩
 case round =>
  obtain ⟨m, rfl, ⟨hx, HF⟩ | ⟨k, hx, hk, HF⟩⟩ := hrel
  ·subst hx;have hw : decide (wi (dp xs) i j) = false := decide_eq_false HF.out;have HD := Lib.hid hw;clear hw HF;go_wp2;go_ret;exact ⟨ret_bool HD.out.symm, m, rfl⟩
  ·subst hx;by_cases hki : k = i
   ·subst hki;have hw : decide (wi (dp xs) k j) = true := decide_eq_true (HF.out.2 (Or.inl rfl));have HD := Lib.hid hw;clear hw HF;go_wp2;go_ret;exact ⟨ret_bool HD.out.symm, m, rfl⟩
   ·have hne : ((k : Int) == (i : Int)) = false := int_ne (by omega);have hwk := HN.out.wi_par (i := i) hk;have hnx : (par (dp xs) k = -1 /\ ¬ wi (dp xs) i j) \/ ∃ p : Nat, par (dp xs) k = p /\ p < k /\ (wi (dp xs) i j ↔ (p = i \/ wi (dp xs) i p)) := by
     rcases HN.out.nearest hk with ⟨h, _⟩ | ⟨p, h, h1, _⟩
     ·refine Or.inl ⟨h, fun hw => ?_⟩;rcases HF.out.1 hw with e | hw2
      ·exact hki e
      ·obtain ⟨p, e, _⟩ := hwk.1 hw2; rw [h] at e; omega
     ·refine Or.inr ⟨p, h, h1, HF.out.trans ?_⟩;constructor
      ·rintro (e | hw2)
       ·exact absurd e hki
       ·obtain ⟨p', e, hh⟩ := hwk.1 hw2;rw [h] at e;obtain rfl : p = p' := by omega
        exact hh
      ·exact fun hh => Or.inr (hwk.2 ⟨p, h, hh⟩)
    have HX := Lib.hid hnx;clear hwk hnx HF
    go_wp2_with fail
    refine (HP.out k _ hk (HR.out.drew _)).mono ?_;rintro e w1 ⟨rfl, q2, rfl⟩;rcases HX.out with ⟨h, hf⟩ | ⟨p, h, hpk, hf⟩
    ·rw [h];have HF := Lib.hid hf;clear hf h HX;go_wp2
     go_roundw
     case rel => exact ⟨m + q2, rfl, Or.inl ⟨rfl, HF.out⟩⟩
     case measure => simp [intOf] <;> omega
    ·rw [h];have HF := Lib.hid hf;clear hf h HX;go_wp2
     go_roundw
     case rel => exact ⟨m + q2, rfl, Or.inr ⟨p, rfl, by omega, HF.out⟩⟩
     case measure => simp [intOf] <;> omega
end Go.Proofs.YtcnfcililiehlaaGreatDoor.Tr
namespace Go.Proofs.YtcnfcililiehlaaGreatDoor.Tr
open Go.RowKit
def ahd (d : Nat -> Int) : Nat -> Int
 | 0 => -1
 | k + 1 => d k
def OkN (d : Nat -> Int) (m : Nat) : Prop := 0 <= d m /\ d m < 6 /\ d m <= ahd d m + 1
theorem nst_ok {d : Nat -> Int} {n : Nat} : Nst d n ↔ ∀ m, m < n -> OkN d m := by
 constructor
 ·intro h m hm;refine ⟨h.lo m hm, h.hi m hm, ?_⟩;cases m with
  | zero => have := h.first hm; show d 0 <= -1 + 1; omega
  | succ k => exact h.step k hm
 ·intro h;refine ⟨fun i hi => (h i hi).1, fun i hi => (h i hi).2.1, fun h0 => ?_, fun i hi => (h (i + 1) hi).2.2⟩;have : d 0 <= -1 + 1 := (h 0 h0).2.2;omega
theorem ahd_le {d : Nat -> Int} {k : Nat} (h : ∀ m, m < k -> OkN d m) : -1 <= ahd d k /\ ahd d k <= 5 := by
 cases k with
 | zero => show (-1 : Int) <= -1 /\ (-1 : Int) <= 5; omega
 | succ k =>
  have := h k (by omega);show -1 <= d k /\ d k <= 5;have := this.1; have := (h k (by omega)).2.1; omega
set_option maxHeartbeats 4000000 in
theorem isNested_any (v : Value) (xs : List SM) (w : World) (hR : RdT w v xs) (hl : xs.length <= 4611686018427387904) :
 Calls Tryz.prog 167 #[v] w fun e w' => e = .returned (.bool (decide (Nst (dp xs) xs.length))) /\ Below w.heap.size w w' := by
 obtain ⟨A, c, rfl⟩ := hR.form;obtain ⟨n, hn⟩ : ∃ n, xs.length = n := ⟨_, rfl⟩
 have HR := Lib.hid hR;have HNN := Lib.hid hn;rw [hn] at hl HR ⊢;clear hR hn
 go_enter Tryz.func167, Tryz.ntmps167
 go_wp2
 go_loopw [3, 8] (fun x3 x8 wr => ∃ k : Nat, k <= n /\ x8 = .int .i64 k /\ x3 = .int .i64 (ahd (dp xs) k) /\ Hid (∀ m, m < k -> OkN (dp xs) m) /\ Below w.heap.size w wr) (fun _ x _ => n - (intOf x).toNat)
 case atStart => exact ⟨0, by omega, rfl, rfl, fun m hm => by omega, Below.refl _ _⟩
 case round =>
  obtain ⟨k, hk, rfl, rfl, HK, hbw⟩ := hrel;obtain ⟨wl, hwl⟩ : ∃ W, W = wr := ⟨_, rfl⟩
  subst hwl;by_cases hkn : k < n
  ·obtain ⟨b, o, rfl, hb, hc⟩ := HR.out.base (by rw [HNN.out]; omega);obtain ⟨c0, c1, c2, c3, c4, c5⟩ := hc k (by rw [HNN.out]; exact hkn);have hcell : ∀ p u, w.cell? ⟨b, p, none⟩ = some u -> wl.cell? ⟨b, p, none⟩ = some u := fun p u h => (hbw.cell hb).trans h
   replace c0 := hcell _ _ c0; replace c1 := hcell _ _ c1; replace c2 := hcell _ _ c2; replace c3 := hcell _ _ c3; replace c4 := hcell _ _ c4; replace c5 := hcell _ _ c5;have hah := ahd_le HK.out;have HBX := Lib.hid (fun o => hbw.alloc hbw.size o);clear hcell hbw hc hb;generalize xs[k]'(by rw [HNN.out]; exact hkn) = x at *
   obtain ⟨xnm, xk, xd, xini, xea, xen, xec, xxa, xxn, xxc⟩ := x;simp only at c0 c3 c4 c5;by_cases hok : OkN (dp xs) k
   ·obtain ⟨o1, o2, o3⟩ := hok;have HS : Hid (∀ m, m < k + 1 -> OkN (dp xs) m) := fun m hm => by
     by_cases e : m = k
     ·subst e; exact ⟨o1, o2, o3⟩
     ·exact HK.out m (by omega)
    clear HK;go_wp2
    go_roundw
    case rel => exact ⟨k + 1, by omega, by go_num, rfl, HS.out, HBX.out _⟩
    case measure => simp [intOf] <;> omega
   ·have hf : decide (Nst (dp xs) n) = false := decide_eq_false fun h => hok (nst_ok.1 h k hkn)
    have HF := Lib.hid hf;clear hf HK;by_cases h1 : dp xs k < 0
    ·clear hok;go_wp2;go_ret;exact ⟨ret_bool HF.out.symm, HBX.out _⟩
    ·by_cases h2 : 6 <= dp xs k
     ·clear hok;go_wp2;go_ret;exact ⟨ret_bool HF.out.symm, HBX.out _⟩
     ·have h3 : ahd (dp xs) k + 1 < dp xs k := by
       unfold OkN at hok; omega
      clear hok;go_wp2;go_ret;exact ⟨ret_bool HF.out.symm, HBX.out _⟩
  ·obtain rfl : k = n := by omega
   have hf : decide (Nst (dp xs) k) = true := decide_eq_true (nst_ok.2 HK.out);have HF := Lib.hid hf;have HBW := Lib.hid hbw;clear hf HK hbw;go_wp2;go_ret;exact ⟨ret_bool HF.out.symm, HBW.out⟩
end Go.Proofs.YtcnfcililiehlaaGreatDoor.Tr
