/- Own texts, joined: Xf, Xg. -/
import Derived.Test.YtkjkcgbmaojpiaaGreatDoorR9
import Derived.Test.YtkjkcgbmaojpiaaGreatDoorR14
import Derived.Test.YtkjkcgbmaojpiaaGreatDoorR15
namespace Go.Proofs.YtkjkcgbmaojpiaaGreatDoor.Ch.Vd
open Go.RowKit
set_option maxRecDepth 100000
theorem nm_push {w w1 w2 W : World} {L : List (List UInt8)} {x : List UInt8} {v v' : Value} (hb : Below w.heap.size w w1) (hW : Below w1.heap.size w1 W) (ho : w1.ownsRow w.heap.size 9 1 v L.length (L.map bstr))
  (h2 : w2.ownsRow w.heap.size 9 1 v' (L.length + 1) (L.map bstr ++ [bstr x])) (hg : W.grownBy w2 v.ownBlock) : w2.ownsRow w.heap.size 9 1 v' (L ++ [x]).length ((L ++ [x]).map bstr) ∧ Below w.heap.size w w2 := by
 refine ⟨by rw [List.map_append, List.length_append]; exact h2, (hb.trans (hW.mono hb.size)).grown hg (hb.trans (hW.mono hb.size)).size (fun k hk => (ho.lt k hk).1)⟩
theorem va_at {w : World} {A : Option Addr} {m cp : Nat} {vs : List VM} {n : Nat} (hR : Inn w 7 (.slice A m cp) n (Ch.flatV vs)) (hn : vs.length = n) {k : Nat} (hk : k < vs.length) :
  ∃ b o X, A = some ⟨b, o, none⟩ ∧ b < w.heap.size ∧ X.data.toList = vs[k].nm ∧ w.cell? ⟨b, o + k * 7, none⟩ = some (.string X) ∧ w.cell? ⟨b, o + k * 7 + 1, none⟩ = some (.int .i64 vs[k].kd) ∧ w.cell? ⟨b, o + k * 7 + 2, none⟩ = some (.int .i64 vs[k].lo) ∧ w.cell? ⟨b, o + k * 7 + 3, none⟩ = some (.int .i64 vs[k].hi) ∧
   w.cell? ⟨b, o + k * 7 + 4, none⟩ = some (.int .i64 vs[k].ik) ∧ w.cell? ⟨b, o + k * 7 + 5, none⟩ = some (.int .i64 vs[k].ia) ∧ w.cell? ⟨b, o + k * 7 + 6, none⟩ = some (.int .i64 vs[k].ib) := by
 subst hn
 obtain ⟨b, o, rfl, hb, hc⟩ := hR.at_ hk
 obtain ⟨X, hX, hXl⟩ := bstr_some vs[k].nm
 have f := fun j u (h : (vaV vs[k])[j]? = some u) (hj : j < 7) => hc j u ((flatM_at vaV 7 (fun _ => rfl) hk hj).trans h)
 have f0 := f 0 (bstr vs[k].nm) rfl (by omega)
 rw [hX] at f0
 exact ⟨b, o, X, rfl, hb, hXl, f0, f 1 _ rfl (by omega), f 2 _ rfl (by omega), f 3 _ rfl (by omega), f 4 _ rfl (by omega), f 5 _ rfl (by omega), f 6 _ rfl (by omega)⟩
theorem take_map_snoc {α β : Type} (f : α → β) {l : List α} {k : Nat} (hk : k < l.length) : (l.map f).take (k + 1) = (l.map f).take k ++ [f l[k]] := by
 rw [List.take_add_one]
 simp [hk]
set_option maxHeartbeats 8000000 in
theorem names_any {w : World} {c : CH} {eV vV sV tV : Value} {sp : List SP} {tp : List TP} (h : ChM w c eV vV sV tV sp tp) (hvl : c.vs.length ≤ 1000000) (hsl : sp.length ≤ 1000000) :
  Calls Tryz.prog 83 #[chA c eV vV sV tV] w fun e w' => (∃ u1 u2, e = .returned (.agg #[eV, u1, u2]) ∧ w'.ownsRow w.heap.size 9 1 u1 (varN c).length ((varN c).map bstr) ∧ w'.ownsRow w.heap.size 9 1 u2 (stN c).length ((stN c).map bstr)) ∧ Below w.heap.size w w' := by
 obtain ⟨M, hM, hMl⟩ := bstr_some c.nm
 have hR := h.ss; have hd := h.sd; have hE := h.ssE; have hV := h.vs
 obtain ⟨is, hs0, hs1, hs2, hs3⟩ := info_of infoStrS
 have HS0 := Lib.hid hs0; have HS1 := Lib.hid hs1; have HS2 := Lib.hid hs2; have HS3 := Lib.hid hs3
 obtain ⟨⟨A1, k1, rfl⟩, ⟨A2, k2, rfl⟩, ⟨A3, k3, rfl⟩, ⟨A4, k4, rfl⟩⟩ := h.forms
 unfold chA
 rw [hM]
 have HVN : Hid (varN c = c.vs.map VM.nm) := rfl
 have HSN : Hid (stN c = sp.map fun p => p.1.nm) := by show _ = _; unfold stN; rw [← hE, List.map_map]; rfl
 have HVL : Hid ((varN c).length = c.vs.length) := by show _ = _; unfold varN; rw [List.length_map]
 have HSL : Hid ((stN c).length = sp.length) := by show _ = _; rw [HSN.out, List.length_map]
 have HV := Lib.hid hV; have HR := Lib.hid hR; have HD := Lib.hid hd
 clear h hM hMl hR hd hE hV hs0 hs1 hs2 hs3
 generalize c.es.length = n1; generalize tp.length = n4
 obtain ⟨n2, hn2⟩ : ∃ n, c.vs.length = n := ⟨_, rfl⟩
 obtain ⟨n3, hn3⟩ : ∃ n, sp.length = n := ⟨_, rfl⟩
 have HN2 := Lib.hid hn2; have HN3 := Lib.hid hn3
 rw [hn2] at hvl HV HVL; rw [hn3] at hsl HR HSL
 show Calls _ _ #[.agg #[.string M, .slice A1 n1 k1, .slice A2 c.vs.length k2, .slice A3 sp.length k3, .slice A4 n4 k4]] w _
 rw [hn2, hn3]
 clear hn2 hn3
 obtain ⟨w1, hw1⟩ : ∃ W, W = (w.alloc (.cells #[.string M, .slice A1 n1 k1, .slice A2 n2 k2, .slice A3 n3 k3, .slice A4 n4 k4] 27)).alloc (.cells #[.slice none 0 0, .slice none 0 0, .slice none 0 0] 101) := ⟨_, rfl⟩
 have hb1 : Below w.heap.size w w1 := hw1 ▸ ((Below.refl _ _).alloc (Nat.le_refl _) _).alloc (by simp) _
 have d1 : w1.cell? ⟨w.heap.size, 1, none⟩ = some (.slice A1 n1 k1) := by rw [hw1]; simp
 have d2 : w1.cell? ⟨w.heap.size, 2, none⟩ = some (.slice A2 n2 k2) := by rw [hw1]; simp
 have d3 : w1.cell? ⟨w.heap.size, 3, none⟩ = some (.slice A3 n3 k3) := by rw [hw1]; simp
 have g0 : w1.heap[w.heap.size + 1]? = some (.cells #[.slice none 0 0, .slice none 0 0, .slice none 0 0] 101 (0, 0)) := by
  have := World.alloc_heap_new (w.alloc (.cells #[.string M, .slice A1 n1 k1, .slice A2 n2 k2, .slice A3 n3 k3, .slice A4 n4 k4] 27)) (.cells #[.slice none 0 0, .slice none 0 0, .slice none 0 0] 101)
  rw [World.size_alloc] at this
  rw [hw1]; exact this
 have HZ : Hid (w1.heap.size = w.heap.size + 2) := by show _ = _; rw [hw1]; simp
 have HW := Lib.hid hw1; have HB := Lib.hid hb1
 have HG0 := Lib.hid g0; have HD1 := Lib.hid d1; have HD3 := Lib.hid d3
 clear hw1 hb1 g0
 go_enter Tryz.func83, Tryz.ntmps83
 go_wp2_with fail
 rw [← HW.out]
 go_wp2
 go_loopw [3, 6, 12] (fun xs xb xi wr => xb = xb ∧ ∃ k : Nat, k ≤ n2 ∧ xi = .int .i64 k ∧ wr.ownsRow w1.heap.size 9 1 xs ((varN c).take k).length (((varN c).take k).map bstr) ∧ Below w1.heap.size w1 wr) (fun _ _ x _ => n2 - (intOf x).toNat)
 case atStart => exact ⟨rfl, 0, by omega, rfl, World.ownsRow_nil _ _ _ _, Below.refl _ _⟩
 case round =>
  obtain ⟨_, k, hk, hxi, hown, hbw⟩ := hrel
  obtain ⟨L, hL⟩ : ∃ L, (varN c).take k = L := ⟨_, rfl⟩
  rw [hL] at hown
  have HL := Lib.hid hL
  subst hxi
  obtain ⟨wl, hwl⟩ : ∃ W, W = wr := ⟨_, rfl⟩
  subst hwl
  obtain ⟨As, cs, es⟩ := own_slice hown
  subst es
  have HBW := Lib.hid hbw; have HOW := Lib.hid hown
  have hLl : L.length ≤ 1000000 := by rw [← hL, List.length_take]; omega
  clear hown hL
  by_cases hkn : k < n2
  ·obtain ⟨b, o, X, rfl, _, hX, e0, e1, e2, e3, e4, e5, e6⟩ := va_at (HV.out.below (HB.out.trans (hbw.mono HB.out.size))) HN2.out (k := k) (by rw [HN2.out]; exact hkn)
   have htk : (varN c).take (k + 1) = L ++ [X.data.toList] := by rw [← HL.out, HVN.out, hX]; exact take_map_snoc _ _
   generalize (c.vs[k]'(by rw [HN2.out]; exact hkn)).kd = x1 at *
   generalize (c.vs[k]'(by rw [HN2.out]; exact hkn)).lo = x2 at *
   generalize (c.vs[k]'(by rw [HN2.out]; exact hkn)).hi = x3 at *
   generalize (c.vs[k]'(by rw [HN2.out]; exact hkn)).ik = x4 at *
   generalize (c.vs[k]'(by rw [HN2.out]; exact hkn)).ia = x5 at *
   generalize (c.vs[k]'(by rw [HN2.out]; exact hkn)).ib = x6 at *
   have HTK := Lib.hid htk
   obtain ⟨wm, hwm⟩ : ∃ W, W = wl.alloc (.cells #[.string X, .int .i64 x1, .int .i64 x2, .int .i64 x3, .int .i64 x4, .int .i64 x5, .int .i64 x6] 51) := ⟨_, rfl⟩
   have hbm : Below wl.heap.size wl wm := hwm ▸ (Below.refl _ _).alloc (Nat.le_refl _) _
   have m0 : wm.cell? ⟨wl.heap.size, 0, none⟩ = some (.string X) := by rw [hwm]; simp
   have hzm : wm.heap.size = wl.heap.size + 1 := by rw [hwm]; simp
   have HIN : Hid (Inn (wm.alloc (.cells #[.string X] 9)) 1 (.slice (some ⟨wl.heap.size + 1, 0, none⟩) 1 1) 1 [.string X]) := by rw [← hzm]; exact Inn.of_own (Oz.own_laid (B := 0) (size := 1) wm #[.string X] (Nat.zero_le _) (by decide) rfl)
   have HWM := Lib.hid hwm; have HBM := Lib.hid hbm
   have hsz := HBW.out.size
   clear hwm hbm hX htk hbw
   go_wp2_with (at_builtin; rw [← HWM.out]; refine Ow.wpList_append rfl (.tmp 16) (.tmp 19) 22 rfl w1.heap.size 9 is _ 1 16 Tryz.underlying22 HS0.out HS1.out HS2.out HS3.out rfl (by decide) _ L.length (L.map bstr) rfl ((own_below HOW.out HBM.out).alloc _) _ 1 [.string X] rfl HIN.out (by intro u hu; simp at hu; subst hu; rfl) (by unfold maxLen; omega) (by omega) (by simp; omega) ?_)
   intro v5 w5 ho5 hg5 _
   obtain ⟨hr, hb⟩ := nm_push HBW.out (HBM.out.alloc HBM.out.size (.cells #[.string X] 9)) HOW.out (x := X.data.toList) (by rw [bstr_of]; exact ho5) hg5
   rw [← HTK.out] at hr
   have HR5 := Lib.hid hr; have HB5 := Lib.hid hb
   clear ho5 hg5 hr hb
   go_wp2
   go_roundw
   case rel => exact ⟨(by first | rfl | trivial), k + 1, by omega, by go_num, HR5.out, HB5.out⟩
   case measure => simp [intOf] <;> omega
  ·obtain rfl : k = n2 := by omega
   have HU1 : Hid (wl.ownsRow w1.heap.size 9 1 (.slice As L.length cs) (varN c).length ((varN c).map bstr)) := by
    show World.ownsRow _ _ _ _ _ _ _
    have := HOW.out
    rw [show L = varN c by rw [← HL.out]; exact List.take_of_length_le (by rw [HVL.out]; exact Nat.le_refl _)] at this ⊢
    exact this
   have d3 := (hbw.cell (by have := HZ.out; have := HBW.out.size; show w.heap.size < _; omega)).trans HD3.out
   have d1 := (hbw.cell (by have := HZ.out; have := HBW.out.size; show w.heap.size < _; omega)).trans HD1.out
   have g1 := Lib.hid ((hbw.block (w.heap.size + 1) (by have := HZ.out; omega)).trans HG0.out)
   have hsz0 := hbw.size
   generalize L.length = nv at *
   clear hbw hkn hk d2 hLl
   have HD1' := Lib.hid d1
   go_wp2
   go_loopw [4, 8, 25] (fun xs xb xi wr => xb = xb ∧ ∃ j : Nat, j ≤ n3 ∧ xi = .int .i64 j ∧ wr.ownsRow wl.heap.size 9 1 xs ((stN c).take j).length (((stN c).take j).map bstr) ∧ Below wl.heap.size wl wr) (fun _ _ x _ => n3 - (intOf x).toNat)
   case atStart => exact ⟨rfl, 0, by omega, rfl, World.ownsRow_nil _ _ _ _, Below.refl _ _⟩
   case round =>
    obtain ⟨_, j, hj, hxi, hown, hbj⟩ := hrel
    obtain ⟨K, hK⟩ : ∃ L, (stN c).take j = L := ⟨_, rfl⟩
    rw [hK] at hown
    have HKL := Lib.hid hK
    subst hxi
    obtain ⟨wk, hwk⟩ : ∃ W, W = wr := ⟨_, rfl⟩
    subst hwk
    obtain ⟨At, ct, et⟩ := own_slice hown
    subst et
    have HBJ := Lib.hid hbj; have HOJ := Lib.hid hown
    have hLj : K.length ≤ 1000000 := by rw [← hK, List.length_take]; omega
    clear hown hK
    by_cases hjn : j < n3
    ·obtain ⟨b, o, X, Y, A4, n4, c4, A5, n5, c5, rfl, _, hX, _, _, _, _, _, e0, e1, e2, e3, e4, e5⟩ := st_at ((HR.out.below (HB.out.trans (HBW.out.mono HB.out.size))).below hbj) HN3.out (fun p hp => (((HD.out p hp).below HB.out).below HBW.out).below hbj) (k := j) (by rw [HN3.out]; exact hjn)
     have htk : (stN c).take (j + 1) = K ++ [X.data.toList] := by rw [← HKL.out, HSN.out, hX]; exact take_map_snoc _ _
     generalize (sp[j]'(by rw [HN3.out]; exact hjn)).1.kd = x1 at *
     generalize (sp[j]'(by rw [HN3.out]; exact hjn)).1.dp = x2 at *
     have HTK := Lib.hid htk
     obtain ⟨wm, hwm⟩ : ∃ W, W = wk.alloc (.cells #[.string X, .int .i64 x1, .int .i64 x2, .string Y, .slice A4 n4 c4, .slice A5 n5 c5] 39) := ⟨_, rfl⟩
     have hbm : Below wk.heap.size wk wm := hwm ▸ (Below.refl _ _).alloc (Nat.le_refl _) _
     have m0 : wm.cell? ⟨wk.heap.size, 0, none⟩ = some (.string X) := by rw [hwm]; simp
     have hzm : wm.heap.size = wk.heap.size + 1 := by rw [hwm]; simp
     have HIN : Hid (Inn (wm.alloc (.cells #[.string X] 9)) 1 (.slice (some ⟨wk.heap.size + 1, 0, none⟩) 1 1) 1 [.string X]) := by rw [← hzm]; exact Inn.of_own (Oz.own_laid (B := 0) (size := 1) wm #[.string X] (Nat.zero_le _) (by decide) rfl)
     have HWM := Lib.hid hwm; have HBM := Lib.hid hbm
     have hsj := HBJ.out.size
     clear hwm hbm hX htk hbj
     go_wp2_with (at_builtin; rw [← HWM.out]; refine Ow.wpList_append rfl (.tmp 29) (.tmp 32) 22 rfl wl.heap.size 9 is _ 1 16 Tryz.underlying22 HS0.out HS1.out HS2.out HS3.out rfl (by decide) _ K.length (K.map bstr) rfl ((own_below HOJ.out HBM.out).alloc _) _ 1 [.string X] rfl HIN.out (by intro u hu; simp at hu; subst hu; rfl) (by unfold maxLen; omega) (by omega) (by simp; omega) ?_)
     intro v5 w5 ho5 hg5 _
     obtain ⟨hr, hb⟩ := nm_push HBJ.out (HBM.out.alloc HBM.out.size (.cells #[.string X] 9)) HOJ.out (x := X.data.toList) (by rw [bstr_of]; exact ho5) hg5
     rw [← HTK.out] at hr
     have HR5 := Lib.hid hr; have HB5 := Lib.hid hb
     clear ho5 hg5 hr hb
     go_wp2
     go_roundw
     case rel => exact ⟨(by first | rfl | trivial), j + 1, by omega, by go_num, HR5.out, HB5.out⟩
     case measure => simp [intOf] <;> omega
    ·obtain rfl : j = n3 := by omega
     have HU2 : Hid (wk.ownsRow wl.heap.size 9 1 (.slice At K.length ct) (stN c).length ((stN c).map bstr)) := by
      show World.ownsRow _ _ _ _ _ _ _
      have := HOJ.out
      rw [show K = stN c by rw [← HKL.out]; exact List.take_of_length_le (by rw [HSL.out]; exact Nat.le_refl _)] at this ⊢
      exact this
     have q1 := (hbj.cell (by have := HZ.out; have := HBW.out.size; show w.heap.size < _; omega)).trans HD1'.out
     have g2 := (hbj.block (w.heap.size + 1) (by have := HZ.out; have := HBW.out.size; omega)).trans g1.out
     have HG2 := Lib.hid g2
     obtain ⟨f0, f1, f2⟩ : wk.frozen? ⟨w.heap.size + 1, 0, none⟩ = false ∧ wk.frozen? ⟨w.heap.size + 1, 1, none⟩ = false ∧ wk.frozen? ⟨w.heap.size + 1, 2, none⟩ = false := by simp [World.frozen?, g2]
     obtain ⟨y0, y1, y2⟩ : wk.cell? ⟨w.heap.size + 1, 0, none⟩ = some (.slice none 0 0) ∧ wk.cell? ⟨w.heap.size + 1, 1, none⟩ = some (.slice none 0 0) ∧ wk.cell? ⟨w.heap.size + 1, 2, none⟩ = some (.slice none 0 0) := by simp [World.cell?, g2]
     generalize K.length = nt at *
     clear hjn hj d1 d3 hLj hbj g2
     go_wp2
     have r0 : (wk.setCell ⟨w.heap.size + 1, 0, none⟩ (.slice A1 n1 k1)).heap[w.heap.size + 1]? = some (.cells #[.slice A1 n1 k1, .slice none 0 0, .slice none 0 0] 101 (0, 0)) := heap_setCell_same _ _ 0 _ _ _ HG2.out
     have r1 : ((wk.setCell ⟨w.heap.size + 1, 0, none⟩ (.slice A1 n1 k1)).setCell ⟨w.heap.size + 1, 1, none⟩ (.slice As nv cs)).heap[w.heap.size + 1]? = some (.cells #[.slice A1 n1 k1, .slice As nv cs, .slice none 0 0] 101 (0, 0)) := heap_setCell_same _ _ 1 _ _ _ r0
     have r2 : (((wk.setCell ⟨w.heap.size + 1, 0, none⟩ (.slice A1 n1 k1)).setCell ⟨w.heap.size + 1, 1, none⟩ (.slice As nv cs)).setCell ⟨w.heap.size + 1, 2, none⟩ (.slice At nt ct)).heap[w.heap.size + 1]? = some (.cells #[.slice A1 n1 k1, .slice As nv cs, .slice At nt ct] 101 (0, 0)) := heap_setCell_same _ _ 2 _ _ _ r1
     have hz2 := HZ.out
     have hzl := HBW.out.size
     have hp1 : w.heap.size + 1 < w1.heap.size := by omega
     have hp2 : w.heap.size + 1 < wl.heap.size := by omega
     have hu1 := own_lower (own_past (own_past (own_past (own_below HU1.out HBJ.out) hp1 0 (.slice A1 n1 k1)) hp1 1 (.slice As nv cs)) hp1 2 (.slice At nt ct)) (show w.heap.size ≤ w1.heap.size by omega)
     have hu2 := own_lower (own_past (own_past (own_past HU2.out hp2 0 (.slice A1 n1 k1)) hp2 1 (.slice As nv cs)) hp2 2 (.slice At nt ct)) (show w.heap.size ≤ wl.heap.size by omega)
     have hbf := (((HB.out.trans ((HBW.out.trans (HBJ.out.mono HBW.out.size)).mono HB.out.size)).setCell (p := ⟨w.heap.size + 1, 0, none⟩) (show w.heap.size ≤ w.heap.size + 1 by omega) (.slice A1 n1 k1)).setCell (p := ⟨w.heap.size + 1, 1, none⟩) (show w.heap.size ≤ w.heap.size + 1 by omega) (.slice As nv cs)).setCell (p := ⟨w.heap.size + 1, 2, none⟩) (show w.heap.size ≤ w.heap.size + 1 by omega) (.slice At nt ct)
     clear r0 r1 hz2 hzl hp1 hp2 f0 f1 f2 y0 y1 y2
     generalize World.setCell _ _ _ = WF at *
     obtain ⟨z0, z1, z2⟩ : WF.cell? ⟨w.heap.size + 1, 0, none⟩ = some (.slice A1 n1 k1) ∧ WF.cell? ⟨w.heap.size + 1, 1, none⟩ = some (.slice As nv cs) ∧ WF.cell? ⟨w.heap.size + 1, 2, none⟩ = some (.slice At nt ct) := by simp [World.cell?, r2]
     refine bodyPost_ret (v := .agg #[.slice A1 n1 k1, .slice As nv cs, .slice At nt ct]) ?_ rfl ⟨⟨_, _, rfl, hu1, hu2⟩, hbf⟩
     have hr := Tryz.results83
     unfold results
     rw [hr]
     simp [go_sem, Sem.run_bind, Result.andThen, z0, z1, z2]
end Go.Proofs.YtkjkcgbmaojpiaaGreatDoor.Ch.Vd
namespace Go.Proofs.YtkjkcgbmaojpiaaGreatDoor.Ch.Vd
open Go.RowKit
set_option maxRecDepth 100000
theorem own_cap {w : World} {base : Nat} {e : TypeId} {size n : Nat} {v : Value} {xs : List Value} (h : w.ownsRow base e size v n xs) : ∃ A k, v = .slice A n k ∧ n ≤ k := by
 rcases own_form h with ⟨rfl, rfl⟩ | ⟨g, cap, rfl, h1, h2⟩
 ·exact ⟨_, _, rfl, Nat.le_refl _⟩
 ·exact ⟨_, _, rfl, h1⟩
def nm3 (c : CH) (k : Nat) : List (List UInt8) := if k = 0 then c.es else if k = 1 then varN c else stN c
theorem named_nm3 (c : CH) : namedB c = (nameB c.nm && ((nm3 c 0).all nameB && ((nm3 c 1).all nameB && (nm3 c 2).all nameB))) := rfl
theorem apart_nm3 (c : CH) : apartB c = (apartL (nm3 c 0) && (apartL (nm3 c 1) && apartL (nm3 c 2))) := rfl
theorem named_no {c : CH} {k : Nat} (hk : k < 3) {n : List UInt8} (hn : n ∈ nm3 c k) (h : nameB n = false) : namedB c = false := by
 rw [named_nm3]
 have hf : (nm3 c k).all nameB = false := by
  rw [List.all_eq_false]
  exact ⟨n, hn, by rw [h]; decide⟩
 rcases (show k = 0 ∨ k = 1 ∨ k = 2 by omega) with rfl | rfl | rfl <;> rw [hf] <;> simp
theorem named_yes {c : CH} (hn : nameB c.nm = true) (h : ∀ j, j < 3 → (nm3 c j).all nameB = true) : namedB c = true := by
 rw [named_nm3, hn, h 0 (by omega), h 1 (by omega), h 2 (by omega)]; rfl
theorem nodup_take {l : List (List UInt8)} (h : ∀ i (hi : i < l.length), l[i] ∉ l.take i) : ∀ k, k ≤ l.length → (l.take k).Nodup
 | 0, _ => by simp
 | k + 1, hk => by
  have hi : k < l.length := by omega
  rw [List.take_add_one, List.getElem?_eq_getElem hi]
  simp only [Option.toList_some]
  rw [List.nodup_append]
  refine ⟨nodup_take h k (by omega), by simp, ?_⟩
  intro a ha b hb e
  simp at hb
  subst hb; subst e
  exact h k hi ha
theorem apart_yes {l : List (List UInt8)} (h : ∀ i (hi : i < l.length), l[i] ∉ l.take i) : apartL l = true := by
 have := nodup_take h l.length (Nat.le_refl _)
 rw [List.take_length] at this
 exact decide_eq_true this
theorem apart_no {l : List (List UInt8)} {i : Nat} (hi : i < l.length) (h : l[i] ∈ l.take i) : apartL l = false := by
 refine decide_eq_false fun hn => ?_
 obtain ⟨j, hj, e⟩ := List.getElem_of_mem h
 rw [List.length_take] at hj
 rw [List.getElem_take] at e
 have := (List.nodup_iff_pairwise_ne.1 hn)
 rw [List.pairwise_iff_getElem] at this
 exact this j i (by omega) hi (by omega) e
theorem apart3_no {c : CH} {k : Nat} (hk : k < 3) (h : apartL (nm3 c k) = false) : apartB c = false := by
 rw [apart_nm3]
 rcases (show k = 0 ∨ k = 1 ∨ k = 2 by omega) with rfl | rfl | rfl <;> rw [h] <;> simp
theorem apart3_yes {c : CH} (h : ∀ j, j < 3 → apartL (nm3 c j) = true) : apartB c = true := by
 rw [apart_nm3, h 0 (by omega), h 1 (by omega), h 2 (by omega)]; rfl
theorem ix3 {W : World} {c : CH} {x0 x1 x2 : Value} (h0 : RdW W x0 (nm3 c 0)) (h1 : RdW W x1 (nm3 c 1)) (h2 : RdW W x2 (nm3 c 2)) {k : Nat} (hk : k < 3) :
  ∃ A cp, (∀ w, (Instr.index 101 (.agg #[x0, x1, x2]) (.int .i64 k)).run Tryz.prog w = .ok (.slice A (nm3 c k).length cp) w) ∧ RdW W (.slice A (nm3 c k).length cp) (nm3 c k) := by
 obtain ⟨A0, c0, rfl⟩ := h0.form
 obtain ⟨A1, c1, rfl⟩ := h1.form
 obtain ⟨A2, c2, rfl⟩ := h2.form
 rcases (show k = 0 ∨ k = 1 ∨ k = 2 by omega) with rfl | rfl | rfl
 ·exact ⟨A0, c0, fun w => by kernel_rfl, h0⟩
 ·exact ⟨A1, c1, fun w => by kernel_rfl, h1⟩
 ·exact ⟨A2, c2, fun w => by kernel_rfl, h2⟩
theorem ix3c {W : World} {c : CH} {A0 A1 A2 : Option Addr} {c0 c1 c2 : Nat} (h0 : RdW W (.slice A0 (nm3 c 0).length c0) (nm3 c 0)) (h1 : RdW W (.slice A1 (nm3 c 1).length c1) (nm3 c 1)) (h2 : RdW W (.slice A2 (nm3 c 2).length c2) (nm3 c 2)) (e0 : (nm3 c 0).length ≤ c0) (e1 : (nm3 c 1).length ≤ c1) (e2 : (nm3 c 2).length ≤ c2) {k : Nat} (hk : k < 3) :
  ∃ A cp, (∀ w, (Instr.index 101 (.agg #[.slice A0 (nm3 c 0).length c0, .slice A1 (nm3 c 1).length c1, .slice A2 (nm3 c 2).length c2]) (.int .i64 k)).run Tryz.prog w = .ok (.slice A (nm3 c k).length cp) w) ∧ RdW W (.slice A (nm3 c k).length cp) (nm3 c k) ∧ (nm3 c k).length ≤ cp := by
 rcases (show k = 0 ∨ k = 1 ∨ k = 2 by omega) with rfl | rfl | rfl
 ·exact ⟨A0, c0, fun w => by kernel_rfl, h0, e0⟩
 ·exact ⟨A1, c1, fun w => by kernel_rfl, h1, e1⟩
 ·exact ⟨A2, c2, fun w => by kernel_rfl, h2, e2⟩
theorem _root_.Go.Proofs.YtkjkcgbmaojpiaaGreatDoor.RdW.front {w : World} {A : Option Addr} {m cp cp' : Nat} {xs : List (List UInt8)} (h : RdW w (.slice A m cp) xs) {k : Nat} (hk : k ≤ xs.length) (hA : k = 0 → A = none → cp' = 0) : RdW w (.slice A k cp') (xs.take k) := by
 have hl : (xs.take k).length = k := by rw [List.length_take]; omega
 unfold RdW
 rw [hl]
 rcases h with ⟨e, h0, h1⟩ | ⟨ad, c', e, hln, hc⟩
 ·cases e
  have : k = 0 := by omega
  subst this
  rw [hA rfl rfl]
  exact Or.inl ⟨rfl, rfl, by simp⟩
 ·simp only [Value.slice.injEq] at e
  obtain ⟨rfl, rfl, rfl⟩ := e
  refine Or.inr ⟨ad, cp', rfl, by rw [List.length_map, hl]; omega, fun hk0 => ?_⟩
  obtain ⟨b, o, e, hb, hc⟩ := hc (by omega)
  refine ⟨b, o, e, hb, fun j u hu => hc j u ?_⟩
  rw [List.map_take, List.getElem?_take] at hu
  split at hu
  ·exact hu
  ·cases hu
set_option maxHeartbeats 4000000 in
theorem isNamed_any {w : World} {c : CH} {eV vV sV tV : Value} {sp : List SP} {tp : List TP} (h : ChM w c eV vV sV tV sp tp) (hel : c.es.length ≤ 1000000) (hvl : c.vs.length ≤ 1000000) (hsl : sp.length ≤ 1000000) :
  Calls Tryz.prog 36 #[chA c eV vV sV tV] w fun e w' => e = .returned (.bool (namedB c)) ∧ Below w.heap.size w w' := by
 obtain ⟨M, hM, hMl⟩ := bstr_some c.nm
 obtain ⟨w1, hw1⟩ : ∃ W, W = w.alloc (.cells #[.string M, eV, vV, sV, tV] 27) := ⟨_, rfl⟩
 have hb1 : Below w.heap.size w w1 := hw1 ▸ (Below.refl _ _).alloc (Nat.le_refl _) _
 have hNM := names_any (h.below hb1) hvl hsl
 have hE := h.es
 have hL0 : ∀ k, (nm3 c k).length ≤ 1000000 := fun k => by
  unfold nm3
  split
  ·exact hel
  ·split
   ·unfold varN; rw [List.length_map]; exact hvl
   ·unfold stN; rw [List.length_map, ← h.sLen]; exact hsl
 obtain ⟨⟨A1, k1, rfl⟩, ⟨A2, k2, rfl⟩, ⟨A3, k3, rfl⟩, ⟨A4, k4, rfl⟩⟩ := h.forms
 unfold chA at hNM ⊢
 rw [hM] at hNM ⊢
 have hz1 : w1.heap.size = w.heap.size + 1 := by rw [hw1]; simp
 have d0 : w1.cell? ⟨w.heap.size, 0, none⟩ = some (.string M) := by rw [hw1]; simp
 have d1 : w1.cell? ⟨w.heap.size, 1, none⟩ = some (.slice A1 c.es.length k1) := by rw [hw1]; simp
 have d2 : w1.cell? ⟨w.heap.size, 2, none⟩ = some (.slice A2 c.vs.length k2) := by rw [hw1]; simp
 have d3 : w1.cell? ⟨w.heap.size, 3, none⟩ = some (.slice A3 sp.length k3) := by rw [hw1]; simp
 have d4 : w1.cell? ⟨w.heap.size, 4, none⟩ = some (.slice A4 tp.length k4) := by rw [hw1]; simp
 have HC := Lib.hid hNM; have HW := Lib.hid hw1; have HB := Lib.hid hb1; have HE := Lib.hid hE; have HL0 := Lib.hid hL0
 have HNA := Lib.hid (fun (X : ByteArray) W => name_any X W)
 have HML := Lib.hid hMl
 clear h hM hMl hNM hw1 hb1 hE hL0
 generalize hn1 : c.es.length = n1 at *
 have HN1 := Lib.hid hn1
 clear hn1
 generalize c.vs.length = n2 at *; generalize sp.length = n3 at *; generalize tp.length = n4 at *
 go_enter Tryz.func36, Tryz.ntmps36
 go_wp2_with fail
 rw [← HW.out]
 go_wp2_with fail
 refine (HNA.out M _).mono ?_
 rintro e w2 ⟨rfl, h2⟩
 obtain rfl := h2
 rw [HML.out]
 cases hn : nameB c.nm with
 | false =>
  have hf : namedB c = false := by rw [named_nm3, hn]; rfl
  have HF := Lib.hid hf
  clear hn hf
  go_wp2
  go_ret
  exact ⟨ret_bool HF.out.symm, HB.out⟩
 | true =>
  have HN := Lib.hid hn
  clear hn
  go_wp2_with fail
  refine HC.out.mono ?_
  rintro e w3 ⟨⟨u1, u2, rfl, ho1, ho2⟩, hb3⟩
  obtain ⟨B1, j1, rfl⟩ := own_slice ho1
  obtain ⟨B2, j2, rfl⟩ := own_slice ho2
  have hI : ∀ k : Nat, k < 3 → ∃ A cp, (∀ w, (Instr.index 101 (.agg #[.slice A1 n1 k1, .slice B1 (varN c).length j1, .slice B2 (stN c).length j2]) (.int .i64 k)).run Tryz.prog w = .ok (.slice A (nm3 c k).length cp) w) ∧ RdW w3 (.slice A (nm3 c k).length cp) (nm3 c k) := fun k hk => by
   have hE' := HE.out.below (HB.out.trans (hb3.mono HB.out.size))
   rw [← HN1.out] at hE' ⊢
   exact ix3 (c := c) (show RdW w3 _ (nm3 c 0) from hE') (show RdW w3 _ (nm3 c 1) from Inn.of_own ho1) (show RdW w3 _ (nm3 c 2) from Inn.of_own ho2) hk
  have HI := Lib.hid hI
  have HB3 := Lib.hid (HB.out.trans (hb3.mono HB.out.size))
  have hz3 := hb3.size
  generalize (varN c).length = m1 at *; generalize (stN c).length = m2 at *
  clear hI ho1 ho2 hb3 d0 d1 d2 d3 d4
  go_wp2
  go_loopw [4, 6, 13] (fun x4 x6 xi wr => (x4 = x4 ∧ x6 = x6) ∧ ∃ k : Nat, k ≤ 3 ∧ xi = .int .i64 k ∧ Hid (∀ j, j < k → (nm3 c j).all nameB = true) ∧ w3 = wr) (fun _ _ x _ => 3 - (intOf x).toNat)
  case atStart => exact ⟨⟨rfl, rfl⟩, 0, by omega, rfl, fun j hj => by omega, rfl⟩
  case round =>
   obtain ⟨_, k, hk, hxi, HA, hwr⟩ := hrel
   subst hxi
   subst hwr
   by_cases hk3 : k < 3
   ·obtain ⟨A, cp, hix, hrd⟩ := HI.out k hk3
    have hlk := HL0.out k
    have HRD := Lib.hid hrd
    obtain ⟨n, hnl⟩ : ∃ n, (nm3 c k).length = n := ⟨_, rfl⟩
    have HNL := Lib.hid hnl
    rw [hnl] at hix hlk HRD
    clear hrd hnl
    go_wp2
    go_loopw [6, 18] (fun x6 xi wr => x6 = x6 ∧ ∃ i : Nat, i ≤ n ∧ xi = .int .i64 i ∧ Hid (∀ j (hj : j < (nm3 c k).length), j < i → nameB (nm3 c k)[j] = true) ∧ w3 = wr) (fun _ x _ => n - (intOf x).toNat)
    case atStart => exact ⟨rfl, 0, by omega, rfl, fun j _ hj => by omega, rfl⟩
    case round =>
     obtain ⟨_, i, hi, hxi, HAI, hwr⟩ := hrel
     subst hxi
     subst hwr
     by_cases hin : i < n
     ·obtain ⟨b, o, rfl, _, hc⟩ := HRD.out.at_ (k := i) (by rw [HNL.out]; exact hin)
      obtain ⟨X, hX, hXl⟩ := bstr_some ((nm3 c k)[i]'(by rw [HNL.out]; exact hin))
      rw [hX] at hc
      have HNX := Lib.hid (HNA.out X)
      have HXL := Lib.hid hXl
      clear hX hXl
      cases hq : nameB X.data.toList with
      | true =>
       have HQ := Lib.hid hq
       clear hq
       go_wp2_with fail
       refine (HNX.out _).mono ?_
       rintro e w4 ⟨rfl, h4⟩
       obtain rfl := h4
       rw [HQ.out]
       go_wp2
       go_roundw
       case rel =>
        refine ⟨(by first | rfl | trivial), i + 1, by omega, by go_num, fun j hj hji => ?_, (by first | rfl | trivial)⟩
        rcases Nat.lt_or_ge j i with h | h
        ·exact HAI.out j hj h
        ·obtain rfl : j = i := by omega
         rw [← HXL.out]; exact HQ.out
       case measure => simp [intOf] <;> omega
      | false =>
       have hf : namedB c = false := named_no hk3 (n := X.data.toList) (by rw [HXL.out]; exact List.getElem_mem _) hq
       have HQ := Lib.hid hq; have HF := Lib.hid hf
       clear hq hf
       go_wp2_with fail
       refine (HNX.out _).mono ?_
       rintro e w4 ⟨rfl, h4⟩
       obtain rfl := h4
       rw [HQ.out]
       go_wp2
       go_ret
       exact ⟨ret_bool HF.out.symm, HB3.out⟩
     ·obtain rfl : i = n := by omega
      have hall : (nm3 c k).all nameB = true := List.all_eq_true.2 fun x hx => by
       obtain ⟨j, hj, rfl⟩ := List.getElem_of_mem hx
       exact HAI.out j hj (by rw [← HNL.out]; exact hj)
      have HALL := Lib.hid hall
      clear hall
      go_wp2
      go_roundw
      case rel =>
       refine ⟨(by first | exact ⟨rfl, rfl⟩ | trivial | simp), k + 1, by omega, by go_num, fun j hj => ?_, (by first | rfl | trivial)⟩
       rcases Nat.lt_or_ge j k with h | h
       ·exact HA.out j h
       ·obtain rfl : j = k := by omega
        exact HALL.out
      case measure => simp [intOf] <;> omega
   ·obtain rfl : k = 3 := by omega
    have HT := Lib.hid (named_yes HN.out HA.out)
    go_wp2
    go_ret
    exact ⟨ret_bool HT.out.symm, HB3.out⟩
set_option maxHeartbeats 4000000 in
theorem isApart_any {w : World} {c : CH} {eV vV sV tV : Value} {sp : List SP} {tp : List TP} (h : ChM w c eV vV sV tV sp tp) (hec : ∀ A n k, eV = .slice A n k → n ≤ k) (hel : c.es.length ≤ 1000000) (hvl : c.vs.length ≤ 1000000) (hsl : sp.length ≤ 1000000) :
  Calls Tryz.prog 38 #[chA c eV vV sV tV] w fun e w' => e = .returned (.bool (apartB c)) ∧ Below w.heap.size w w' := by
 obtain ⟨M, hM, hMl⟩ := bstr_some c.nm
 obtain ⟨w1, hw1⟩ : ∃ W, W = w.alloc (.cells #[.string M, eV, vV, sV, tV] 27) := ⟨_, rfl⟩
 have hb1 : Below w.heap.size w w1 := hw1 ▸ (Below.refl _ _).alloc (Nat.le_refl _) _
 have hNM := names_any (h.below hb1) hvl hsl
 have hE := h.es
 have hL0 : ∀ k, (nm3 c k).length ≤ 1000000 := fun k => by
  unfold nm3
  split
  ·exact hel
  ·split
   ·unfold varN; rw [List.length_map]; exact hvl
   ·unfold stN; rw [List.length_map, ← h.sLen]; exact hsl
 obtain ⟨⟨A1, k1, rfl⟩, ⟨A2, k2, rfl⟩, ⟨A3, k3, rfl⟩, ⟨A4, k4, rfl⟩⟩ := h.forms
 have hk1 := hec _ _ _ rfl
 unfold chA at hNM ⊢
 rw [hM] at hNM ⊢
 have hz1 : w1.heap.size = w.heap.size + 1 := by rw [hw1]; simp
 have d0 : w1.cell? ⟨w.heap.size, 0, none⟩ = some (.string M) := by rw [hw1]; simp
 have d1 : w1.cell? ⟨w.heap.size, 1, none⟩ = some (.slice A1 c.es.length k1) := by rw [hw1]; simp
 have d2 : w1.cell? ⟨w.heap.size, 2, none⟩ = some (.slice A2 c.vs.length k2) := by rw [hw1]; simp
 have d3 : w1.cell? ⟨w.heap.size, 3, none⟩ = some (.slice A3 sp.length k3) := by rw [hw1]; simp
 have d4 : w1.cell? ⟨w.heap.size, 4, none⟩ = some (.slice A4 tp.length k4) := by rw [hw1]; simp
 have HC := Lib.hid hNM; have HW := Lib.hid hw1; have HB := Lib.hid hb1; have HE := Lib.hid hE; have HL0 := Lib.hid hL0; have HK1 := Lib.hid hk1
 clear h hM hMl hNM hw1 hb1 hE hL0 hec hk1
 generalize hn1 : c.es.length = n1 at *
 have HN1 := Lib.hid hn1
 clear hn1
 generalize c.vs.length = n2 at *; generalize sp.length = n3 at *; generalize tp.length = n4 at *
 go_enter Tryz.func38, Tryz.ntmps38
 go_wp2_with fail
 rw [← HW.out]
 go_wp2_with fail
 refine HC.out.mono ?_
 rintro e w3 ⟨⟨u1, u2, rfl, ho1, ho2⟩, hb3⟩
 obtain ⟨B1, j1, rfl, hj1⟩ := own_cap ho1
 obtain ⟨B2, j2, rfl, hj2⟩ := own_cap ho2
 have hI : ∀ k : Nat, k < 3 → ∃ A cp, (∀ w, (Instr.index 101 (.agg #[.slice A1 n1 k1, .slice B1 (varN c).length j1, .slice B2 (stN c).length j2]) (.int .i64 k)).run Tryz.prog w = .ok (.slice A (nm3 c k).length cp) w) ∧ RdW w3 (.slice A (nm3 c k).length cp) (nm3 c k) ∧ (nm3 c k).length ≤ cp := fun k hk => by
  have hE' := HE.out.below (HB.out.trans (hb3.mono HB.out.size))
  have hk1 := HK1.out
  rw [← HN1.out] at hE' hk1 ⊢
  exact ix3c (c := c) (show RdW w3 (.slice A1 (nm3 c 0).length k1) (nm3 c 0) from hE') (show RdW w3 (.slice B1 (nm3 c 1).length j1) (nm3 c 1) from Inn.of_own ho1) (show RdW w3 (.slice B2 (nm3 c 2).length j2) (nm3 c 2) from Inn.of_own ho2) hk1 hj1 hj2 hk
 have HI := Lib.hid hI
 have HB3 := Lib.hid (HB.out.trans (hb3.mono HB.out.size))
 have hz3 := hb3.size
 generalize (varN c).length = m1 at *; generalize (stN c).length = m2 at *
 clear hI ho1 ho2 hb3 d0 d1 d2 d3 d4 hj1 hj2
 go_wp2
 go_loopw [4, 5, 6, 9] (fun x4 x5 x6 xi wr => (x4 = x4 ∧ x5 = x5 ∧ x6 = x6) ∧ ∃ k : Nat, k ≤ 3 ∧ xi = .int .i64 k ∧ Hid (∀ j, j < k → apartL (nm3 c j) = true) ∧ w3 = wr) (fun _ _ _ x _ => 3 - (intOf x).toNat)
 case atStart => exact ⟨⟨rfl, rfl, rfl⟩, 0, by omega, rfl, fun j hj => by omega, rfl⟩
 case round =>
  obtain ⟨_, k, hk, hxi, HA, hwr⟩ := hrel
  subst hxi
  subst hwr
  by_cases hk3 : k < 3
  ·obtain ⟨A, cp, hix, hrd, hcp⟩ := HI.out k hk3
   have hlk := HL0.out k
   have HRD := Lib.hid hrd
   obtain ⟨n, hnl⟩ : ∃ n, (nm3 c k).length = n := ⟨_, rfl⟩
   have HNL := Lib.hid hnl
   rw [hnl] at hix hlk HRD hcp
   clear hrd hnl
   go_wp2
   go_loopw [5, 6, 14] (fun x5 x6 xi wr => (x5 = x5 ∧ x6 = x6) ∧ ∃ i : Nat, i ≤ n ∧ xi = .int .i64 i ∧ Hid (∀ j (hj : j < (nm3 c k).length), j < i → (nm3 c k)[j] ∉ (nm3 c k).take j) ∧ w3 = wr) (fun _ _ x _ => n - (intOf x).toNat)
   case atStart => exact ⟨⟨rfl, rfl⟩, 0, by omega, rfl, fun j _ hj => by omega, rfl⟩
   case round =>
    obtain ⟨_, i, hi, hxi, HAI, hwr⟩ := hrel
    subst hxi
    subst hwr
    by_cases hin : i < n
    ·obtain ⟨b, o, rfl, _, hc⟩ := HRD.out.at_ (k := i) (by rw [HNL.out]; exact hin)
     obtain ⟨X, hX, hXl⟩ := bstr_some ((nm3 c k)[i]'(by rw [HNL.out]; exact hin))
     rw [hX] at hc
     have HFR : Hid (∀ cp', RdW w3 (.slice (some ⟨b, o, none⟩) i cp') ((nm3 c k).take i)) := fun cp' => HRD.out.front (by rw [HNL.out]; omega) (fun _ h => by cases h)
     have HCT : Hid (∀ cp', Calls Tryz.prog 84 #[.slice (some ⟨b, o, none⟩) i cp', .string X] w3 fun e w' => e = .returned (.bool (decide (X.data.toList ∈ (nm3 c k).take i))) ∧ w3 = w') := fun cp' => strContains_any _ _ X _ (HFR.out cp') (by rw [List.length_take]; omega)
     have HXL := Lib.hid hXl
     have hicp : i ≤ cp := by omega
     clear hX hXl
     by_cases hq : X.data.toList ∈ (nm3 c k).take i
     ·have hf : apartB c = false := apart3_no hk3 (apart_no (i := i) (by rw [HNL.out]; exact hin) (by rw [← HXL.out]; exact hq))
      have HQ := Lib.hid (decide_eq_true hq); have HF := Lib.hid hf
      clear hq hf
      go_wp2_with (go_at_call 84; refine (HCT.out _).mono ?_; rintro e w4 ⟨rfl, h4⟩; obtain rfl := h4; rw [HQ.out])
      go_ret
      exact ⟨ret_bool HF.out.symm, HB3.out⟩
     ·have HQ := Lib.hid (decide_eq_false hq); have HQN := Lib.hid hq
      clear hq
      go_wp2_with (go_at_call 84; refine (HCT.out _).mono ?_; rintro e w4 ⟨rfl, h4⟩; obtain rfl := h4; rw [HQ.out])
      go_roundw
      case rel =>
       refine ⟨(by first | exact ⟨rfl, rfl⟩ | trivial | simp), i + 1, by omega, by go_num, fun j hj hji => ?_, (by first | rfl | trivial)⟩
       rcases Nat.lt_or_ge j i with h | h
       ·exact HAI.out j hj h
       ·obtain rfl : j = i := by omega
        rw [← HXL.out]; exact HQN.out
      case measure => simp [intOf] <;> omega
    ·obtain rfl : i = n := by omega
     have HALL := Lib.hid (apart_yes (l := nm3 c k) fun j hj => HAI.out j hj (by rw [← HNL.out]; exact hj))
     go_wp2
     go_roundw
     case rel =>
      refine ⟨(by first | exact ⟨rfl, rfl, rfl⟩ | trivial | simp), k + 1, by omega, by go_num, fun j hj => ?_, (by first | rfl | trivial)⟩
      rcases Nat.lt_or_ge j k with h | h
      ·exact HA.out j h
      ·obtain rfl : j = k := by omega
       exact HALL.out
     case measure => simp [intOf] <;> omega
  ·obtain rfl : k = 3 := by omega
   have HT := Lib.hid (apart3_yes HA.out)
   go_wp2
   go_ret
   exact ⟨ret_bool HT.out.symm, HB3.out⟩
end Go.Proofs.YtkjkcgbmaojpiaaGreatDoor.Ch.Vd
