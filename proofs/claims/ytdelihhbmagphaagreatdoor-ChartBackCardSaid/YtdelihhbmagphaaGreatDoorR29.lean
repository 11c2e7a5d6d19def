/- Own texts, joined: Br, Bs, Bt. -/
import Derived.Test.YtdelihhbmagphaaGreatDoorR17
import Derived.Test.YtdelihhbmagphaaGreatDoorR28
import Derived.BigQuiet
namespace Go.Proofs.YtdelihhbmagphaaGreatDoor.Ch
open Go.RowKit
set_option maxRecDepth 100000 in
set_option maxHeartbeats 4000000 in
theorem sameAction_any (p q : AP) (w : World) (hp : ActR w p) (hq : ActR w q) : Calls Tryz.prog 102 #[.agg #[.int .i64 p.1.kd, bstr p.1.nm, p.2], .agg #[.int .i64 q.1.kd, bstr q.1.nm, q.2]] w fun e w' => e = .returned (.bool (decide (p.1 = q.1))) ∧ Below w.heap.size w w' := by
 obtain ⟨⟨xk, xn, xe⟩, xv⟩ := p
 obtain ⟨⟨yk, yn, ye⟩, yv⟩ := q
 obtain ⟨X, hX, hXl⟩ := bstr_some xn
 obtain ⟨Y, hY, hYl⟩ := bstr_some yn
 have hA1 := hp.rd; have hA2 := hp.len; have hB1 := hq.rd
 simp only at hA1 hA2 hB1
 obtain ⟨Ax, cx, rfl⟩ := hA1.slice
 obtain ⟨Ay, cy, rfl⟩ := hB1.slice
 show Calls _ _ #[.agg #[.int .i64 xk, bstr xn, _], .agg #[.int .i64 yk, bstr yn, _]] w _
 rw [hX, hY]
 obtain ⟨w2, hw2⟩ : ∃ W, W = (w.alloc (.cells #[.int .i64 xk, .string X, .slice Ax xe.length cx] 94)).alloc (.cells #[.int .i64 yk, .string Y, .slice Ay ye.length cy] 94) := ⟨_, rfl⟩
 have hb2 : Below w.heap.size w w2 := hw2 ▸ ((Below.refl _ _).alloc (Nat.le_refl _) _).alloc (by simp) _
 have HQ := Lib.hid (equal_cell _ _ xe ye w2 (hA1.below hb2).rd (hB1.below hb2).rd (by omega))
 have HB2 := Lib.hid hb2
 rw [hw2] at HQ
 have HW2 := Lib.hid hw2
 clear hA1 hA2 hB1 hp hq hb2 hw2
 by_cases h1 : xk = yk
 ·subst h1
  by_cases h2 : xn = yn
  ·subst h2
   obtain rfl : X = Y := str_eq (by rw [hXl, hYl])
   have HD : Hid (decide (AM.mk xk xn xe = AM.mk xk xn ye) = decide (xe = ye)) := decide_eq_decide.2 (by simp)
   clear hX hY hXl hYl
   go_enter Tryz.func102, Tryz.ntmps102
   go_wp2_with (go_at_call 103; refine (HQ.out).mono ?_; rintro e w3 ⟨rfl, nq, rfl⟩)
   all_goals go_ret
   all_goals (rw [← HW2.out]; exact ⟨by rw [HD.out]; rfl, below_drewN HB2.out _⟩)
  ·have hd : decide (AM.mk xk xn xe = AM.mk xk yn ye) = false := decide_eq_false (fun e => h2 (by injection e))
   have hn0 : X.data.toList ≠ Y.data.toList := by rw [hXl, hYl]; exact h2
   have hne := str_ne hn0
   have hne' := str_ne (Ne.symm hn0)
   have HD := Lib.hid hd
   clear hX hY hXl hYl h2 hn0 hd HQ
   go_enter Tryz.func102, Tryz.ntmps102
   go_wp2
   go_ret
   rw [← HW2.out]
   exact ⟨by rw [HD.out]; rfl, HB2.out⟩
 ·have hd : decide (AM.mk xk xn xe = AM.mk yk yn ye) = false := decide_eq_false (fun e => h1 (by injection e))
  have h2 := int_ne h1
  have h3 := int_ne (Ne.symm h1)
  have HD := Lib.hid hd
  clear hX hY hXl hYl h1 hd HQ
  go_enter Tryz.func102, Tryz.ntmps102
  go_wp2
  go_ret
  rw [← HW2.out]
  exact ⟨by rw [HD.out]; rfl, HB2.out⟩
set_option maxRecDepth 100000 in
set_option maxHeartbeats 8000000 in
theorem eqActs_any (va vb : Value) (ps qs : List AP) (w : World) (ha : RdA w va ps) (hb : RdA w vb qs) (hx : ps.length ≤ 9223372036854775807) :
  Calls Tryz.prog 101 #[va, vb, .func (.func 102) #[] #[]] w fun e w' => e = .returned (.bool (decide (ps.map Prod.fst = qs.map Prod.fst))) ∧ Below w.heap.size w w' := by
 obtain ⟨A, c, rfl⟩ := ha.form
 obtain ⟨B, d, rfl⟩ := hb.form
 have HA := Lib.hid ha; have HB := Lib.hid hb; clear ha hb
 by_cases hlen : ps.length = qs.length
 ·obtain ⟨n, hxl⟩ : ∃ n, ps.length = n := ⟨_, rfl⟩
  have hyl : qs.length = n := by omega
  rw [hxl] at hx
  have HXL := Lib.hid hxl; have HYL := Lib.hid hyl
  rw [hxl] at HA
  rw [hyl] at HB
  rw [hxl, hyl]
  clear hlen hxl hyl
  have hr : ∀ k, (ps.map Prod.fst).take k = (qs.map Prod.fst).take k → ¬ k < n → decide (ps.map Prod.fst = qs.map Prod.fst) = true := by
   intro k h hk
   rw [List.take_of_length_le (by rw [List.length_map, HXL.out]; omega), List.take_of_length_le (by rw [List.length_map, HYL.out]; omega)] at h
   exact decide_eq_true h
  have HR := Lib.hid hr; clear hr
  go_enter Tryz.func101, Tryz.ntmps101
  go_wp2
  go_loopw [7, 8, 9, 17] (fun x y z i wr => (x = x ∧ y = y ∧ z = z) ∧ ∃ k : Nat, k ≤ n ∧ Hid ((ps.map Prod.fst).take k = (qs.map Prod.fst).take k) ∧ Hid (Below w.heap.size w wr) ∧ i = .int .i64 k) (fun _ _ _ i _ => n - (intOf i).toNat)
  case atStart => exact ⟨⟨rfl, rfl, rfl⟩, 0, by omega, rfl, Lib.hid (Below.refl _ _), rfl⟩
  case round =>
   obtain ⟨_, k, hk, HT, HBW, rfl⟩ := hrel
   obtain ⟨wl, hwl⟩ : ∃ W, W = wr := ⟨_, rfl⟩
   subst hwl
   by_cases hkn : k < n
   ·have hkx : k < ps.length := by rw [HXL.out]; exact hkn
    have hky : k < qs.length := by rw [HYL.out]; exact hkn
    obtain ⟨bA, oA, rfl, _, a0, a1, a2, hA⟩ := (HA.out.below HBW.out).at_ hkx
    obtain ⟨bB, oB, rfl, hbl, b0, b1, b2, hB⟩ := (HB.out.below HBW.out).at_ hky
    have hpx := fst_at hkx
    have hpy := fst_at hky
    generalize ps[k] = x at *
    generalize qs[k] = y at *
    obtain ⟨⟨xk, xn, xe⟩, xv⟩ := x
    obtain ⟨⟨yk, yn, ye⟩, yv⟩ := y
    simp only at a0 a1 a2 b0 b1 b2 hpx hpy
    obtain ⟨X, hX, hXl⟩ := bstr_some xn
    obtain ⟨Y, hY, hYl⟩ := bstr_some yn
    obtain ⟨Ax, cx, hax⟩ := hA.rd.slice
    obtain ⟨Ay, cy, hay⟩ := hB.rd.slice
    simp only at hax hay
    subst hax; subst hay
    have hb1 := (Below.refl wl.heap.size wl).alloc (Nat.le_refl _) (.cells #[.int .i64 xk, .string X, .slice Ax xe.length cx] 94)
    have hb2 := hb1.alloc hb1.size (.cells #[.int .i64 yk, .string Y, .slice Ay ye.length cy] 94)
    have HSA := sameAction_any _ _ _ (hA.below hb2) (hB.below hb2)
    simp only at HSA
    rw [hX] at a1; rw [hY] at b1
    rw [hX, hY] at HSA
    have b0' := (hb1.cell (p := ⟨bB, oB + k * 3, none⟩) hbl).trans b0
    have b1' := (hb1.cell (p := ⟨bB, oB + k * 3 + 1, none⟩) hbl).trans b1
    have b2' := (hb1.cell (p := ⟨bB, oB + k * 3 + 2, none⟩) hbl).trans b2
    have HB2 := Lib.hid hb2
    have HSA := Lib.hid HSA
    clear hb1 hb2 hA hB
    by_cases he : AM.mk xk xn xe = AM.mk yk yn ye
    ·have HS := Lib.hid (take_nextG HT.out hpx (he ▸ hpy))
     rw [decide_eq_true he] at HSA
     clear hpx hpy hX hY hXl hYl he
     go_wp2_with (go_at_call 102; refine HSA.out.mono ?_; rintro e w3 ⟨rfl, hb3⟩)
     go_roundw
     case rel => exact ⟨by simp, k + 1, by omega, HS.out, Lib.hid (HBW.out.trans ((HB2.out.trans (hb3.mono HB2.out.size)).mono HBW.out.size)), by go_num⟩
     case measure => simp [intOf]; omega
    ·have HD := Lib.hid (take_notG he hpx hpy)
     rw [decide_eq_false he] at HSA
     clear hpx hpy hX hY hXl hYl he
     go_wp2_with (go_at_call 102; refine HSA.out.mono ?_; rintro e w3 ⟨rfl, hb3⟩)
     go_ret
     exact ⟨by rw [HD.out]; rfl, HBW.out.trans ((HB2.out.trans (hb3.mono HB2.out.size)).mono HBW.out.size)⟩
   ·have HD := Lib.hid (HR.out k HT.out hkn)
    go_wp2
    go_ret
    exact ⟨by rw [HD.out]; rfl, HBW.out⟩
 ·have hr : decide (ps.map Prod.fst = qs.map Prod.fst) = false := decide_eq_false (fun e => hlen (by have := congrArg List.length e; simpa using this))
  have hl' : ((ps.length : Int) == (qs.length : Int)) = false := beq_eq_false_iff_ne.2 (by omega)
  have hl'' : ((ps.length : Int) != (qs.length : Int)) = true := bne_iff_ne.2 (by omega)
  rw [hr]; clear hr hlen
  go_enter Tryz.func101, Tryz.ntmps101
  go_wp2
  go_ret
  exact ⟨rfl, Below.refl _ _⟩
end Go.Proofs.YtdelihhbmagphaaGreatDoor.Ch
namespace Go.Proofs.YtdelihhbmagphaaGreatDoor.Ch
open Go.RowKit
set_option maxRecDepth 100000 in
set_option maxHeartbeats 8000000 in
theorem sameState_any (p q : SP) (w : World) (hp : StR w p) (hq : StR w q) : Calls Tryz.prog 61 #[.agg (stV p).toArray, .agg (stV q).toArray] w fun e w' => e = .returned (.bool (decide (p.1 = q.1))) ∧ Below w.heap.size w w' := by
 obtain ⟨⟨xnm, xkd, xdp, xini, xen, xex⟩, xven, xvex⟩ := p
 obtain ⟨⟨ynm, ykd, ydp, yini, yen, yex⟩, yven, yvex⟩ := q
 obtain ⟨xpen, xeen, xren, xzen⟩ := hp.1
 obtain ⟨xAen, xcen, xhen⟩ := xren.form
 simp only at xeen xhen
 rw [show xpen.length = xen.length by rw [← xeen, List.length_map]] at xhen
 subst xhen
 obtain ⟨xpex, xeex, xrex, xzex⟩ := hp.2
 obtain ⟨xAex, xcex, xhex⟩ := xrex.form
 simp only at xeex xhex
 rw [show xpex.length = xex.length by rw [← xeex, List.length_map]] at xhex
 subst xhex
 obtain ⟨Xnm, xbnm, xlnm⟩ := bstr_some xnm
 obtain ⟨Xini, xbini, xlini⟩ := bstr_some xini
 obtain ⟨ypen, yeen, yren, yzen⟩ := hq.1
 obtain ⟨yAen, ycen, yhen⟩ := yren.form
 simp only at yeen yhen
 rw [show ypen.length = yen.length by rw [← yeen, List.length_map]] at yhen
 subst yhen
 obtain ⟨ypex, yeex, yrex, yzex⟩ := hq.2
 obtain ⟨yAex, ycex, yhex⟩ := yrex.form
 simp only at yeex yhex
 rw [show ypex.length = yex.length by rw [← yeex, List.length_map]] at yhex
 subst yhex
 obtain ⟨Ynm, ybnm, ylnm⟩ := bstr_some ynm
 obtain ⟨Yini, ybini, ylini⟩ := bstr_some yini
 show Calls _ _ #[.agg #[bstr xnm, .int .i64 xkd, .int .i64 xdp, bstr xini, .slice xAen xen.length xcen, .slice xAex xex.length xcex], .agg #[bstr ynm, .int .i64 ykd, .int .i64 ydp, bstr yini, .slice yAen yen.length ycen, .slice yAex yex.length ycex]] w _
 rw [xbnm, xbini, ybnm, ybini]
 obtain ⟨w2, hw2⟩ : ∃ W, W = (w.alloc (.cells #[.string Xnm, .int .i64 xkd, .int .i64 xdp, .string Xini, .slice xAen xen.length xcen, .slice xAex xex.length xcex] 67)).alloc (.cells #[.string Ynm, .int .i64 ykd, .int .i64 ydp, .string Yini, .slice yAen yen.length ycen, .slice yAex yex.length ycex] 67) := ⟨_, rfl⟩
 have hb2 : Below w.heap.size w w2 := hw2 ▸ ((Below.refl _ _).alloc (Nat.le_refl _) _).alloc (by simp) _
 have hz2 : w2.heap.size = w.heap.size + 2 := by rw [hw2]; simp
 have xten : w2.cell? ⟨w.heap.size, 4, none⟩ = some (.slice xAen xen.length xcen) := by rw [hw2]; simp
 have xtex : w2.cell? ⟨w.heap.size, 5, none⟩ = some (.slice xAex xex.length xcex) := by rw [hw2]; simp
 have yten : w2.cell? ⟨w.heap.size + 1, 4, none⟩ = some (.slice yAen yen.length ycen) := by rw [hw2]; simp
 have ytex : w2.cell? ⟨w.heap.size + 1, 5, none⟩ = some (.slice yAex yex.length ycex) := by rw [hw2]; simp
 have HQen : Hid (∀ W, Below w.heap.size w W → Calls Tryz.prog 101 #[.slice xAen xen.length xcen, .slice yAen yen.length ycen, .func (.func 102) #[] #[]] W fun e w' => e = .returned (.bool (decide (xen = yen))) ∧ Below W.heap.size W w') := fun W hW => by
  have := eqActs_any _ _ _ _ W (xren.below hW) (yren.below hW) xzen
  rwa [xeen, yeen] at this
 have HQex : Hid (∀ W, Below w.heap.size w W → Calls Tryz.prog 101 #[.slice xAex xex.length xcex, .slice yAex yex.length ycex, .func (.func 102) #[] #[]] W fun e w' => e = .returned (.bool (decide (xex = yex))) ∧ Below W.heap.size W w') := fun W hW => by
  have := eqActs_any _ _ _ _ W (xrex.below hW) (yrex.below hW) xzex
  rwa [xeex, yeex] at this
 have HB2 := Lib.hid hb2; have HZ2 := Lib.hid hz2; have HW2 := Lib.hid hw2
 have HT := Lib.hid (And.intro xten (And.intro yten (And.intro xtex ytex)))
 clear xten xren xzen xeen xtex xrex xzex xeex yten yren yzen yeen ytex yrex yzex yeex hb2 hz2 hw2 hp hq
 obtain ⟨xTen, yTen, xTex, yTex⟩ := HT.out
 by_cases hnm : xnm = ynm
 ·subst hnm
  obtain rfl : Xnm = Ynm := str_eq (by rw [xlnm, ylnm])
  by_cases hkd : xkd = ykd
  ·subst hkd
   by_cases hdp : xdp = ydp
   ·subst hdp
    by_cases hini : xini = yini
    ·subst hini
     obtain rfl : Xini = Yini := str_eq (by rw [xlini, ylini])
     by_cases hen : xen = yen
     ·have Hen := Lib.hid hen; clear hen
      by_cases hex : xex = yex
      ·have Hex := Lib.hid hex; clear hex
       have hd : decide (SC.mk xnm xkd xdp xini xen xex = SC.mk xnm xkd xdp xini yen yex) = true := decide_eq_true (by rw [Hen.out, Hex.out])
       have HD := Lib.hid hd; clear hd xbnm xlnm xbini xlini
       go_enter Tryz.func61, Tryz.ntmps61
       go_wp2_with fail
       go_at_call 101
       rw [← HW2.out]
       refine (HQen.out _ (HB2.out)).mono ?_; rintro e w3 ⟨rfl, hb3⟩
       have hw3 : Below w2.heap.size w2 w3 := hb3
       have xu0ex : World.cell? w3 ⟨w.heap.size, 5, none⟩ = some (.slice xAex xex.length xcex) := (Below.cell hw3 (p := ⟨w.heap.size, 5, none⟩) (by show w.heap.size < w2.heap.size; rw [HZ2.out]; omega)).trans xTex
       have yu0ex : World.cell? w3 ⟨w.heap.size + 1, 5, none⟩ = some (.slice yAex yex.length ycex) := (Below.cell hw3 (p := ⟨w.heap.size + 1, 5, none⟩) (by show w.heap.size + 1 < w2.heap.size; rw [HZ2.out]; omega)).trans yTex
       rw [decide_eq_true Hen.out]
       go_wp2_with fail
       go_at_call 101
       refine (HQex.out _ (((HB2.out).trans (hb3.mono (Below.size (HB2.out)))))).mono ?_; rintro e w4 ⟨rfl, hb4⟩
       have hw4 : Below w2.heap.size w2 w4 := hw3.trans (hb4.mono (Below.size hw3))
       rw [decide_eq_true Hex.out]
       go_wp2
       go_ret
       exact ⟨by rw [HD.out]; rfl, ((((HB2.out).trans (hb3.mono (Below.size (HB2.out))))).trans (hb4.mono (Below.size (((HB2.out).trans (hb3.mono (Below.size (HB2.out))))))))⟩
      ·have hd : decide (SC.mk xnm xkd xdp xini xen xex = SC.mk xnm xkd xdp xini yen yex) = false := decide_eq_false (fun e => hex (by injection e))
       have Hex := Lib.hid hex; clear hex
       have HD := Lib.hid hd; clear hd xbnm xlnm xbini xlini
       go_enter Tryz.func61, Tryz.ntmps61
       go_wp2_with fail
       go_at_call 101
       rw [← HW2.out]
       refine (HQen.out _ (HB2.out)).mono ?_; rintro e w3 ⟨rfl, hb3⟩
       have hw3 : Below w2.heap.size w2 w3 := hb3
       have xu0ex : World.cell? w3 ⟨w.heap.size, 5, none⟩ = some (.slice xAex xex.length xcex) := (Below.cell hw3 (p := ⟨w.heap.size, 5, none⟩) (by show w.heap.size < w2.heap.size; rw [HZ2.out]; omega)).trans xTex
       have yu0ex : World.cell? w3 ⟨w.heap.size + 1, 5, none⟩ = some (.slice yAex yex.length ycex) := (Below.cell hw3 (p := ⟨w.heap.size + 1, 5, none⟩) (by show w.heap.size + 1 < w2.heap.size; rw [HZ2.out]; omega)).trans yTex
       rw [decide_eq_true Hen.out]
       go_wp2_with fail
       go_at_call 101
       refine (HQex.out _ (((HB2.out).trans (hb3.mono (Below.size (HB2.out)))))).mono ?_; rintro e w4 ⟨rfl, hb4⟩
       have hw4 : Below w2.heap.size w2 w4 := hw3.trans (hb4.mono (Below.size hw3))
       rw [decide_eq_false Hex.out]
       go_wp2
       go_ret
       exact ⟨by rw [HD.out]; rfl, ((((HB2.out).trans (hb3.mono (Below.size (HB2.out))))).trans (hb4.mono (Below.size (((HB2.out).trans (hb3.mono (Below.size (HB2.out))))))))⟩
     ·have hd : decide (SC.mk xnm xkd xdp xini xen xex = SC.mk xnm xkd xdp xini yen yex) = false := decide_eq_false (fun e => hen (by injection e))
      have Hen := Lib.hid hen; clear hen
      have HD := Lib.hid hd; clear hd xbnm xlnm xbini xlini
      go_enter Tryz.func61, Tryz.ntmps61
      go_wp2_with fail
      go_at_call 101
      rw [← HW2.out]
      refine (HQen.out _ (HB2.out)).mono ?_; rintro e w3 ⟨rfl, hb3⟩
      have hw3 : Below w2.heap.size w2 w3 := hb3
      have xu0ex : World.cell? w3 ⟨w.heap.size, 5, none⟩ = some (.slice xAex xex.length xcex) := (Below.cell hw3 (p := ⟨w.heap.size, 5, none⟩) (by show w.heap.size < w2.heap.size; rw [HZ2.out]; omega)).trans xTex
      have yu0ex : World.cell? w3 ⟨w.heap.size + 1, 5, none⟩ = some (.slice yAex yex.length ycex) := (Below.cell hw3 (p := ⟨w.heap.size + 1, 5, none⟩) (by show w.heap.size + 1 < w2.heap.size; rw [HZ2.out]; omega)).trans yTex
      rw [decide_eq_false Hen.out]
      go_wp2
      go_ret
      exact ⟨by rw [HD.out]; rfl, ((HB2.out).trans (hb3.mono (Below.size (HB2.out))))⟩
    ·have hd : decide (SC.mk xnm xkd xdp xini xen xex = SC.mk xnm xkd xdp yini yen yex) = false := decide_eq_false (fun e => hini (by injection e))
     have hn0 : Xini.data.toList ≠ Yini.data.toList := by rw [xlini, ylini]; exact hini
     have hne := str_ne hn0; have hne' := str_ne (Ne.symm hn0)
     clear hn0 hini
     have HD := Lib.hid hd; clear hd xbnm xlnm xbini xlini ybini ylini
     go_enter Tryz.func61, Tryz.ntmps61
     go_wp2
     go_ret
     rw [← HW2.out]
     exact ⟨by rw [HD.out]; rfl, HB2.out⟩
   ·have hd : decide (SC.mk xnm xkd xdp xini xen xex = SC.mk xnm xkd ydp yini yen yex) = false := decide_eq_false (fun e => hdp (by injection e))
    have t2 := int_ne hdp; have t3 := int_ne (Ne.symm hdp)
    clear hdp
    have HD := Lib.hid hd; clear hd xbnm xlnm xbini xlini ybini ylini
    go_enter Tryz.func61, Tryz.ntmps61
    go_wp2
    go_ret
    rw [← HW2.out]
    exact ⟨by rw [HD.out]; rfl, HB2.out⟩
  ·have hd : decide (SC.mk xnm xkd xdp xini xen xex = SC.mk xnm ykd ydp yini yen yex) = false := decide_eq_false (fun e => hkd (by injection e))
   have t2 := int_ne hkd; have t3 := int_ne (Ne.symm hkd)
   clear hkd
   have HD := Lib.hid hd; clear hd xbnm xlnm xbini xlini ybini ylini
   go_enter Tryz.func61, Tryz.ntmps61
   go_wp2
   go_ret
   rw [← HW2.out]
   exact ⟨by rw [HD.out]; rfl, HB2.out⟩
 ·have hd : decide (SC.mk xnm xkd xdp xini xen xex = SC.mk ynm ykd ydp yini yen yex) = false := decide_eq_false (fun e => hnm (by injection e))
  have hn0 : Xnm.data.toList ≠ Ynm.data.toList := by rw [xlnm, ylnm]; exact hnm
  have hne := str_ne hn0; have hne' := str_ne (Ne.symm hn0)
  clear hn0 hnm
  have HD := Lib.hid hd; clear hd xbnm xlnm xbini xlini ybnm ylnm ybini ylini
  go_enter Tryz.func61, Tryz.ntmps61
  go_wp2
  go_ret
  rw [← HW2.out]
  exact ⟨by rw [HD.out]; rfl, HB2.out⟩
set_option maxRecDepth 100000 in
set_option maxHeartbeats 8000000 in
theorem sameTrans_any (p q : TP) (w : World) (hp : TrR w p) (hq : TrR w q) : Calls Tryz.prog 63 #[.agg (trV p).toArray, .agg (trV q).toArray] w fun e w' => e = .returned (.bool (decide (p.1 = q.1))) ∧ Below w.heap.size w w' := by
 obtain ⟨⟨xfr, xev, xgd, xto, xac⟩, xvgd, xvac⟩ := p
 obtain ⟨⟨yfr, yev, ygd, yto, yac⟩, yvgd, yvac⟩ := q
 obtain ⟨xrgd, xzgd⟩ := hp.1
 obtain ⟨xAgd, xcgd, xhgd⟩ := xrgd.slice
 simp only at xhgd xzgd
 subst xhgd
 obtain ⟨xpac, xeac, xrac, xzac⟩ := hp.2
 obtain ⟨xAac, xcac, xhac⟩ := xrac.form
 simp only at xeac xhac
 rw [show xpac.length = xac.length by rw [← xeac, List.length_map]] at xhac
 subst xhac
 obtain ⟨Xev, xbev, xlev⟩ := bstr_some xev
 obtain ⟨Xto, xbto, xlto⟩ := bstr_some xto
 obtain ⟨yrgd, yzgd⟩ := hq.1
 obtain ⟨yAgd, ycgd, yhgd⟩ := yrgd.slice
 simp only at yhgd yzgd
 subst yhgd
 obtain ⟨ypac, yeac, yrac, yzac⟩ := hq.2
 obtain ⟨yAac, ycac, yhac⟩ := yrac.form
 simp only at yeac yhac
 rw [show ypac.length = yac.length by rw [← yeac, List.length_map]] at yhac
 subst yhac
 obtain ⟨Yev, ybev, ylev⟩ := bstr_some yev
 obtain ⟨Yto, ybto, ylto⟩ := bstr_some yto
 show Calls _ _ #[.agg #[.int .i64 xfr, bstr xev, .slice xAgd xgd.length xcgd, bstr xto, .slice xAac xac.length xcac], .agg #[.int .i64 yfr, bstr yev, .slice yAgd ygd.length ycgd, bstr yto, .slice yAac yac.length ycac]] w _
 rw [xbev, xbto, ybev, ybto]
 obtain ⟨w2, hw2⟩ : ∃ W, W = (w.alloc (.cells #[.int .i64 xfr, .string Xev, .slice xAgd xgd.length xcgd, .string Xto, .slice xAac xac.length xcac] 71)).alloc (.cells #[.int .i64 yfr, .string Yev, .slice yAgd ygd.length ycgd, .string Yto, .slice yAac yac.length ycac] 71) := ⟨_, rfl⟩
 have hb2 : Below w.heap.size w w2 := hw2 ▸ ((Below.refl _ _).alloc (Nat.le_refl _) _).alloc (by simp) _
 have hz2 : w2.heap.size = w.heap.size + 2 := by rw [hw2]; simp
 have xtgd : w2.cell? ⟨w.heap.size, 2, none⟩ = some (.slice xAgd xgd.length xcgd) := by rw [hw2]; simp
 have xtac : w2.cell? ⟨w.heap.size, 4, none⟩ = some (.slice xAac xac.length xcac) := by rw [hw2]; simp
 have ytgd : w2.cell? ⟨w.heap.size + 1, 2, none⟩ = some (.slice yAgd ygd.length ycgd) := by rw [hw2]; simp
 have ytac : w2.cell? ⟨w.heap.size + 1, 4, none⟩ = some (.slice yAac yac.length ycac) := by rw [hw2]; simp
 have HQgd : Hid (∀ W, Below w.heap.size w W → Calls Tryz.prog 103 #[.slice xAgd xgd.length xcgd, .slice yAgd ygd.length ycgd] W fun e w' => e = .returned (.bool (decide (xgd = ygd))) ∧ ∃ n, w' = W.drewN n) := fun W hW => equal_cell _ _ xgd ygd W (xrgd.below hW).rd (yrgd.below hW).rd (by omega)
 have HQac : Hid (∀ W, Below w.heap.size w W → Calls Tryz.prog 101 #[.slice xAac xac.length xcac, .slice yAac yac.length ycac, .func (.func 102) #[] #[]] W fun e w' => e = .returned (.bool (decide (xac = yac))) ∧ Below W.heap.size W w') := fun W hW => by
  have := eqActs_any _ _ _ _ W (xrac.below hW) (yrac.below hW) xzac
  rwa [xeac, yeac] at this
 have HB2 := Lib.hid hb2; have HZ2 := Lib.hid hz2; have HW2 := Lib.hid hw2
 have HT := Lib.hid (And.intro xtgd (And.intro ytgd (And.intro xtac ytac)))
 clear xtgd xrgd xzgd xtac xrac xzac xeac ytgd yrgd yzgd ytac yrac yzac yeac hb2 hz2 hw2 hp hq
 obtain ⟨xTgd, yTgd, xTac, yTac⟩ := HT.out
 by_cases hfr : xfr = yfr
 ·subst hfr
  by_cases hev : xev = yev
  ·subst hev
   obtain rfl : Xev = Yev := str_eq (by rw [xlev, ylev])
   by_cases hto : xto = yto
   ·subst hto
    obtain rfl : Xto = Yto := str_eq (by rw [xlto, ylto])
    by_cases hgd : xgd = ygd
    ·have Hgd := Lib.hid hgd; clear hgd
     by_cases hac : xac = yac
     ·have Hac := Lib.hid hac; clear hac
      have hd : decide (TC.mk xfr xev xgd xto xac = TC.mk xfr xev ygd xto yac) = true := decide_eq_true (by rw [Hgd.out, Hac.out])
      have HD := Lib.hid hd; clear hd xbev xlev xbto xlto
      go_enter Tryz.func63, Tryz.ntmps63
      go_wp2_with fail
      go_at_call 103
      rw [← HW2.out]
      refine (HQgd.out _ (HB2.out)).mono ?_; rintro e w3 ⟨rfl, nq, rfl⟩
      have hd3 : Below w2.heap.size w2 (w2.drewN nq) := below_drewN (Below.refl _ _) nq
      have xu0ac : World.cell? (w2.drewN nq) ⟨w.heap.size, 4, none⟩ = some (.slice xAac xac.length xcac) := (Below.cell hd3 (p := ⟨w.heap.size, 4, none⟩) (by show w.heap.size < w2.heap.size; rw [HZ2.out]; omega)).trans xTac
      have yu0ac : World.cell? (w2.drewN nq) ⟨w.heap.size + 1, 4, none⟩ = some (.slice yAac yac.length ycac) := (Below.cell hd3 (p := ⟨w.heap.size + 1, 4, none⟩) (by show w.heap.size + 1 < w2.heap.size; rw [HZ2.out]; omega)).trans yTac
      rw [decide_eq_true Hgd.out]
      go_wp2_with fail
      go_at_call 101
      refine (HQac.out _ ((below_drewN (HB2.out) nq))).mono ?_; rintro e w4 ⟨rfl, hb4⟩
      have hw4 : Below w2.heap.size w2 w4 := hd3.trans (hb4.mono (Below.size hd3))
      rw [decide_eq_true Hac.out]
      go_wp2
      go_ret
      exact ⟨by rw [HD.out]; rfl, (((below_drewN (HB2.out) nq)).trans (hb4.mono (Below.size ((below_drewN (HB2.out) nq)))))⟩
     ·have hd : decide (TC.mk xfr xev xgd xto xac = TC.mk xfr xev ygd xto yac) = false := decide_eq_false (fun e => hac (by injection e))
      have Hac := Lib.hid hac; clear hac
      have HD := Lib.hid hd; clear hd xbev xlev xbto xlto
      go_enter Tryz.func63, Tryz.ntmps63
      go_wp2_with fail
      go_at_call 103
      rw [← HW2.out]
      refine (HQgd.out _ (HB2.out)).mono ?_; rintro e w3 ⟨rfl, nq, rfl⟩
      have hd3 : Below w2.heap.size w2 (w2.drewN nq) := below_drewN (Below.refl _ _) nq
      have xu0ac : World.cell? (w2.drewN nq) ⟨w.heap.size, 4, none⟩ = some (.slice xAac xac.length xcac) := (Below.cell hd3 (p := ⟨w.heap.size, 4, none⟩) (by show w.heap.size < w2.heap.size; rw [HZ2.out]; omega)).trans xTac
      have yu0ac : World.cell? (w2.drewN nq) ⟨w.heap.size + 1, 4, none⟩ = some (.slice yAac yac.length ycac) := (Below.cell hd3 (p := ⟨w.heap.size + 1, 4, none⟩) (by show w.heap.size + 1 < w2.heap.size; rw [HZ2.out]; omega)).trans yTac
      rw [decide_eq_true Hgd.out]
      go_wp2_with fail
      go_at_call 101
      refine (HQac.out _ ((below_drewN (HB2.out) nq))).mono ?_; rintro e w4 ⟨rfl, hb4⟩
      have hw4 : Below w2.heap.size w2 w4 := hd3.trans (hb4.mono (Below.size hd3))
      rw [decide_eq_false Hac.out]
      go_wp2
      go_ret
      exact ⟨by rw [HD.out]; rfl, (((below_drewN (HB2.out) nq)).trans (hb4.mono (Below.size ((below_drewN (HB2.out) nq)))))⟩
    ·have hd : decide (TC.mk xfr xev xgd xto xac = TC.mk xfr xev ygd xto yac) = false := decide_eq_false (fun e => hgd (by injection e))
     have Hgd := Lib.hid hgd; clear hgd
     have HD := Lib.hid hd; clear hd xbev xlev xbto xlto
     go_enter Tryz.func63, Tryz.ntmps63
     go_wp2_with fail
     go_at_call 103
     rw [← HW2.out]
     refine (HQgd.out _ (HB2.out)).mono ?_; rintro e w3 ⟨rfl, nq, rfl⟩
     have hd3 : Below w2.heap.size w2 (w2.drewN nq) := below_drewN (Below.refl _ _) nq
     have xu0ac : World.cell? (w2.drewN nq) ⟨w.heap.size, 4, none⟩ = some (.slice xAac xac.length xcac) := (Below.cell hd3 (p := ⟨w.heap.size, 4, none⟩) (by show w.heap.size < w2.heap.size; rw [HZ2.out]; omega)).trans xTac
     have yu0ac : World.cell? (w2.drewN nq) ⟨w.heap.size + 1, 4, none⟩ = some (.slice yAac yac.length ycac) := (Below.cell hd3 (p := ⟨w.heap.size + 1, 4, none⟩) (by show w.heap.size + 1 < w2.heap.size; rw [HZ2.out]; omega)).trans yTac
     rw [decide_eq_false Hgd.out]
     go_wp2
     go_ret
     exact ⟨by rw [HD.out]; rfl, (below_drewN (HB2.out) nq)⟩
   ·have hd : decide (TC.mk xfr xev xgd xto xac = TC.mk xfr xev ygd yto yac) = false := decide_eq_false (fun e => hto (by injection e))
    have hn0 : Xto.data.toList ≠ Yto.data.toList := by rw [xlto, ylto]; exact hto
    have hne := str_ne hn0; have hne' := str_ne (Ne.symm hn0)
    clear hn0 hto
    have HD := Lib.hid hd; clear hd xbev xlev xbto xlto ybto ylto
    go_enter Tryz.func63, Tryz.ntmps63
    go_wp2
    go_ret
    rw [← HW2.out]
    exact ⟨by rw [HD.out]; rfl, HB2.out⟩
  ·have hd : decide (TC.mk xfr xev xgd xto xac = TC.mk xfr yev ygd yto yac) = false := decide_eq_false (fun e => hev (by injection e))
   have hn0 : Xev.data.toList ≠ Yev.data.toList := by rw [xlev, ylev]; exact hev
   have hne := str_ne hn0; have hne' := str_ne (Ne.symm hn0)
   clear hn0 hev
   have HD := Lib.hid hd; clear hd xbev xlev xbto xlto ybev ylev ybto ylto
   go_enter Tryz.func63, Tryz.ntmps63
   go_wp2
   go_ret
   rw [← HW2.out]
   exact ⟨by rw [HD.out]; rfl, HB2.out⟩
 ·have hd : decide (TC.mk xfr xev xgd xto xac = TC.mk yfr yev ygd yto yac) = false := decide_eq_false (fun e => hfr (by injection e))
  have t2 := int_ne hfr; have t3 := int_ne (Ne.symm hfr)
  clear hfr
  have HD := Lib.hid hd; clear hd xbev xlev xbto xlto ybev ylev ybto ylto
  go_enter Tryz.func63, Tryz.ntmps63
  go_wp2
  go_ret
  rw [← HW2.out]
  exact ⟨by rw [HD.out]; rfl, HB2.out⟩
end Go.Proofs.YtdelihhbmagphaaGreatDoor.Ch
namespace Go.Proofs.YtdelihhbmagphaaGreatDoor.Ch
open Go.RowKit
theorem fst_atG {α β : Type} {ps : List (α × β)} {k : Nat} (h : k < ps.length) : (ps.map Prod.fst)[k]? = some ps[k].1 := by
 rw [List.getElem?_map, List.getElem?_eq_getElem h]; rfl
theorem BlkR.form {w : World} {v : Value} {l : List AM} (h : BlkR w v l) : ∃ A c, v = .slice A l.length c := by
 obtain ⟨ps, h1, h2, _⟩ := h
 obtain ⟨A, c, e⟩ := h2.form
 exact ⟨A, c, by rw [e, ← h1, List.length_map]⟩
set_option maxRecDepth 100000 in
set_option maxHeartbeats 8000000 in
theorem eqStates_any (va vb : Value) (ps qs : List SP) (w : World) (ha : Inn w 6 va ps.length (flatS ps)) (hb : Inn w 6 vb qs.length (flatS qs)) (hpa : ∀ p ∈ ps, StR w p) (hpb : ∀ p ∈ qs, StR w p) (hx : ps.length ≤ 9223372036854775807) :
  Calls Tryz.prog 60 #[va, vb, .func (.func 61) #[] #[]] w fun e w' => e = .returned (.bool (decide (ps.map Prod.fst = qs.map Prod.fst))) ∧ Below w.heap.size w w' := by
 obtain ⟨A, c, rfl⟩ := Inn.form ha
 obtain ⟨B, d, rfl⟩ := Inn.form hb
 have HA := Lib.hid ha; have HB := Lib.hid hb; have HPA := Lib.hid hpa; have HPB := Lib.hid hpb; clear ha hb hpa hpb
 by_cases hlen : ps.length = qs.length
 ·obtain ⟨n, hxl⟩ : ∃ n, ps.length = n := ⟨_, rfl⟩
  have hyl : qs.length = n := by omega
  rw [hxl] at hx
  have HXL := Lib.hid hxl; have HYL := Lib.hid hyl
  rw [hxl] at HA
  rw [hyl] at HB
  rw [hxl, hyl]
  clear hlen hxl hyl
  have hr : ∀ k, (ps.map Prod.fst).take k = (qs.map Prod.fst).take k → ¬ k < n → decide (ps.map Prod.fst = qs.map Prod.fst) = true := by
   intro k h hk
   rw [List.take_of_length_le (by rw [List.length_map, HXL.out]; omega), List.take_of_length_le (by rw [List.length_map, HYL.out]; omega)] at h
   exact decide_eq_true h
  have HR := Lib.hid hr; clear hr
  go_enter Tryz.func60, Tryz.ntmps60
  go_wp2
  go_loopw [7, 8, 9, 17] (fun x y z i wr => (x = x ∧ y = y ∧ z = z) ∧ ∃ k : Nat, k ≤ n ∧ Hid ((ps.map Prod.fst).take k = (qs.map Prod.fst).take k) ∧ Hid (Below w.heap.size w wr) ∧ i = .int .i64 k) (fun _ _ _ i _ => n - (intOf i).toNat)
  case atStart => exact ⟨⟨rfl, rfl, rfl⟩, 0, by omega, rfl, Lib.hid (Below.refl _ _), rfl⟩
  case round =>
   obtain ⟨_, k, hk, HT, HBW, rfl⟩ := hrel
   obtain ⟨wl, hwl⟩ : ∃ W, W = wr := ⟨_, rfl⟩
   subst hwl
   by_cases hkn : k < n
   ·have hkx : k < ps.length := by rw [HXL.out]; exact hkn
    have hky : k < qs.length := by rw [HYL.out]; exact hkn
    obtain ⟨bA, oA, rfl, _, ha⟩ := Inn.at_ (HA.out.below HBW.out) hkn
    obtain ⟨bB, oB, rfl, hbl, hb⟩ := Inn.at_ (HB.out.below HBW.out) hkn
    have a0 : wl.cell? ⟨bA, oA + k * 6, none⟩ = some (bstr ps[k].1.nm) := ha 0 _ ((flatM_at stV 6 (fun _ => rfl) hkx (by omega)).trans rfl)
    have a1 : wl.cell? ⟨bA, oA + k * 6 + 1, none⟩ = some (.int .i64 ps[k].1.kd) := ha 1 _ ((flatM_at stV 6 (fun _ => rfl) hkx (by omega)).trans rfl)
    have a2 : wl.cell? ⟨bA, oA + k * 6 + 2, none⟩ = some (.int .i64 ps[k].1.dp) := ha 2 _ ((flatM_at stV 6 (fun _ => rfl) hkx (by omega)).trans rfl)
    have a3 : wl.cell? ⟨bA, oA + k * 6 + 3, none⟩ = some (bstr ps[k].1.ini) := ha 3 _ ((flatM_at stV 6 (fun _ => rfl) hkx (by omega)).trans rfl)
    have a4 : wl.cell? ⟨bA, oA + k * 6 + 4, none⟩ = some (ps[k].2.1) := ha 4 _ ((flatM_at stV 6 (fun _ => rfl) hkx (by omega)).trans rfl)
    have a5 : wl.cell? ⟨bA, oA + k * 6 + 5, none⟩ = some (ps[k].2.2) := ha 5 _ ((flatM_at stV 6 (fun _ => rfl) hkx (by omega)).trans rfl)
    have b0 : wl.cell? ⟨bB, oB + k * 6, none⟩ = some (bstr qs[k].1.nm) := hb 0 _ ((flatM_at stV 6 (fun _ => rfl) hky (by omega)).trans rfl)
    have b1 : wl.cell? ⟨bB, oB + k * 6 + 1, none⟩ = some (.int .i64 qs[k].1.kd) := hb 1 _ ((flatM_at stV 6 (fun _ => rfl) hky (by omega)).trans rfl)
    have b2 : wl.cell? ⟨bB, oB + k * 6 + 2, none⟩ = some (.int .i64 qs[k].1.dp) := hb 2 _ ((flatM_at stV 6 (fun _ => rfl) hky (by omega)).trans rfl)
    have b3 : wl.cell? ⟨bB, oB + k * 6 + 3, none⟩ = some (bstr qs[k].1.ini) := hb 3 _ ((flatM_at stV 6 (fun _ => rfl) hky (by omega)).trans rfl)
    have b4 : wl.cell? ⟨bB, oB + k * 6 + 4, none⟩ = some (qs[k].2.1) := hb 4 _ ((flatM_at stV 6 (fun _ => rfl) hky (by omega)).trans rfl)
    have b5 : wl.cell? ⟨bB, oB + k * 6 + 5, none⟩ = some (qs[k].2.2) := hb 5 _ ((flatM_at stV 6 (fun _ => rfl) hky (by omega)).trans rfl)
    have hA := (HPA.out _ (List.getElem_mem hkx)).below HBW.out
    have hB := (HPB.out _ (List.getElem_mem hky)).below HBW.out
    have hpx := fst_atG hkx
    have hpy := fst_atG hky
    clear ha hb
    generalize ps[k] = x at *
    generalize qs[k] = y at *
    obtain ⟨⟨xnm, xkd, xdp, xini, xen, xex⟩, xven, xvex⟩ := x
    obtain ⟨⟨ynm, ykd, ydp, yini, yen, yex⟩, yven, yvex⟩ := y
    simp only at a0 a1 a2 a3 a4 a5 b0 b1 b2 b3 b4 b5 hpx hpy
    obtain ⟨Xnm, xbnm, xlnm⟩ := bstr_some xnm
    obtain ⟨Xini, xbini, xlini⟩ := bstr_some xini
    obtain ⟨Ynm, ybnm, ylnm⟩ := bstr_some ynm
    obtain ⟨Yini, ybini, ylini⟩ := bstr_some yini
    obtain ⟨xAen, xcen, xhen⟩ := BlkR.form hA.1
    simp only at xhen
    subst xhen
    obtain ⟨xAex, xcex, xhex⟩ := BlkR.form hA.2
    simp only at xhex
    subst xhex
    obtain ⟨yAen, ycen, yhen⟩ := BlkR.form hB.1
    simp only at yhen
    subst yhen
    obtain ⟨yAex, ycex, yhex⟩ := BlkR.form hB.2
    simp only at yhex
    subst yhex
    have hb1 := (Below.refl wl.heap.size wl).alloc (Nat.le_refl _) (.cells #[.string Xnm, .int .i64 xkd, .int .i64 xdp, .string Xini, .slice xAen xen.length xcen, .slice xAex xex.length xcex] 67)
    have hb2 := hb1.alloc hb1.size (.cells #[.string Ynm, .int .i64 ykd, .int .i64 ydp, .string Yini, .slice yAen yen.length ycen, .slice yAex yex.length ycex] 67)
    have HSA := sameState_any _ _ _ (hA.below hb2) (hB.below hb2)
    rw [show (Value.agg (stV ((SC.mk xnm xkd xdp xini xen xex, .slice xAen xen.length xcen, .slice xAex xex.length xcex) : SP)).toArray) = .agg #[bstr xnm, .int .i64 xkd, .int .i64 xdp, bstr xini, .slice xAen xen.length xcen, .slice xAex xex.length xcex] from rfl, show (Value.agg (stV ((SC.mk ynm ykd ydp yini yen yex, .slice yAen yen.length ycen, .slice yAex yex.length ycex) : SP)).toArray) = .agg #[bstr ynm, .int .i64 ykd, .int .i64 ydp, bstr yini, .slice yAen yen.length ycen, .slice yAex yex.length ycex] from rfl] at HSA
    simp only at HSA
    rw [xbnm, xbini, ybnm, ybini] at HSA
    rw [xbnm] at a0; rw [ybnm] at b0
    rw [xbini] at a3; rw [ybini] at b3
    have b0' := (hb1.cell (p := ⟨bB, oB + k * 6, none⟩) hbl).trans b0
    have b1' := (hb1.cell (p := ⟨bB, oB + k * 6 + 1, none⟩) hbl).trans b1
    have b2' := (hb1.cell (p := ⟨bB, oB + k * 6 + 2, none⟩) hbl).trans b2
    have b3' := (hb1.cell (p := ⟨bB, oB + k * 6 + 3, none⟩) hbl).trans b3
    have b4' := (hb1.cell (p := ⟨bB, oB + k * 6 + 4, none⟩) hbl).trans b4
    have b5' := (hb1.cell (p := ⟨bB, oB + k * 6 + 5, none⟩) hbl).trans b5
    have HB2 := Lib.hid hb2
    have HSA := Lib.hid HSA
    clear hb1 hb2 hA hB
    by_cases he : SC.mk xnm xkd xdp xini xen xex = SC.mk ynm ykd ydp yini yen yex
    ·have HS := Lib.hid (take_nextG HT.out hpx (he ▸ hpy))
     rw [decide_eq_true he] at HSA
     clear hpx hpy he xbnm xbini xlnm xlini ybnm ybini ylnm ylini
     go_wp2_with (go_at_call 61; refine HSA.out.mono ?_; rintro e w3 ⟨rfl, hb3⟩)
     go_roundw
     case rel => exact ⟨by simp, k + 1, by omega, HS.out, Lib.hid (HBW.out.trans ((HB2.out.trans (hb3.mono HB2.out.size)).mono HBW.out.size)), by go_num⟩
     case measure => simp [intOf]; omega
    ·have HD := Lib.hid (take_notG he hpx hpy)
     rw [decide_eq_false he] at HSA
     clear hpx hpy he xbnm xbini xlnm xlini ybnm ybini ylnm ylini
     go_wp2_with (go_at_call 61; refine HSA.out.mono ?_; rintro e w3 ⟨rfl, hb3⟩)
     go_ret
     exact ⟨by rw [HD.out]; rfl, HBW.out.trans ((HB2.out.trans (hb3.mono HB2.out.size)).mono HBW.out.size)⟩
   ·have HD := Lib.hid (HR.out k HT.out hkn)
    go_wp2
    go_ret
    exact ⟨by rw [HD.out]; rfl, HBW.out⟩
 ·have hr : decide (ps.map Prod.fst = qs.map Prod.fst) = false := decide_eq_false (fun e => hlen (by have := congrArg List.length e; simpa using this))
  have hl' : ((ps.length : Int) == (qs.length : Int)) = false := beq_eq_false_iff_ne.2 (by omega)
  have hl'' : ((ps.length : Int) != (qs.length : Int)) = true := bne_iff_ne.2 (by omega)
  rw [hr]; clear hr hlen
  go_enter Tryz.func60, Tryz.ntmps60
  go_wp2
  go_ret
  exact ⟨rfl, Below.refl _ _⟩
set_option maxRecDepth 100000 in
set_option maxHeartbeats 8000000 in
theorem eqTranss_any (va vb : Value) (ps qs : List TP) (w : World) (ha : Inn w 5 va ps.length (flatT ps)) (hb : Inn w 5 vb qs.length (flatT qs)) (hpa : ∀ p ∈ ps, TrR w p) (hpb : ∀ p ∈ qs, TrR w p) (hx : ps.length ≤ 9223372036854775807) :
  Calls Tryz.prog 62 #[va, vb, .func (.func 63) #[] #[]] w fun e w' => e = .returned (.bool (decide (ps.map Prod.fst = qs.map Prod.fst))) ∧ Below w.heap.size w w' := by
 obtain ⟨A, c, rfl⟩ := Inn.form ha
 obtain ⟨B, d, rfl⟩ := Inn.form hb
 have HA := Lib.hid ha; have HB := Lib.hid hb; have HPA := Lib.hid hpa; have HPB := Lib.hid hpb; clear ha hb hpa hpb
 by_cases hlen : ps.length = qs.length
 ·obtain ⟨n, hxl⟩ : ∃ n, ps.length = n := ⟨_, rfl⟩
  have hyl : qs.length = n := by omega
  rw [hxl] at hx
  have HXL := Lib.hid hxl; have HYL := Lib.hid hyl
  rw [hxl] at HA
  rw [hyl] at HB
  rw [hxl, hyl]
  clear hlen hxl hyl
  have hr : ∀ k, (ps.map Prod.fst).take k = (qs.map Prod.fst).take k → ¬ k < n → decide (ps.map Prod.fst = qs.map Prod.fst) = true := by
   intro k h hk
   rw [List.take_of_length_le (by rw [List.length_map, HXL.out]; omega), List.take_of_length_le (by rw [List.length_map, HYL.out]; omega)] at h
   exact decide_eq_true h
  have HR := Lib.hid hr; clear hr
  go_enter Tryz.func62, Tryz.ntmps62
  go_wp2
  go_loopw [7, 8, 9, 17] (fun x y z i wr => (x = x ∧ y = y ∧ z = z) ∧ ∃ k : Nat, k ≤ n ∧ Hid ((ps.map Prod.fst).take k = (qs.map Prod.fst).take k) ∧ Hid (Below w.heap.size w wr) ∧ i = .int .i64 k) (fun _ _ _ i _ => n - (intOf i).toNat)
  case atStart => exact ⟨⟨rfl, rfl, rfl⟩, 0, by omega, rfl, Lib.hid (Below.refl _ _), rfl⟩
  case round =>
   obtain ⟨_, k, hk, HT, HBW, rfl⟩ := hrel
   obtain ⟨wl, hwl⟩ : ∃ W, W = wr := ⟨_, rfl⟩
   subst hwl
   by_cases hkn : k < n
   ·have hkx : k < ps.length := by rw [HXL.out]; exact hkn
    have hky : k < qs.length := by rw [HYL.out]; exact hkn
    obtain ⟨bA, oA, rfl, _, ha⟩ := Inn.at_ (HA.out.below HBW.out) hkn
    obtain ⟨bB, oB, rfl, hbl, hb⟩ := Inn.at_ (HB.out.below HBW.out) hkn
    have a0 : wl.cell? ⟨bA, oA + k * 5, none⟩ = some (.int .i64 ps[k].1.fr) := ha 0 _ ((flatM_at trV 5 (fun _ => rfl) hkx (by omega)).trans rfl)
    have a1 : wl.cell? ⟨bA, oA + k * 5 + 1, none⟩ = some (bstr ps[k].1.ev) := ha 1 _ ((flatM_at trV 5 (fun _ => rfl) hkx (by omega)).trans rfl)
    have a2 : wl.cell? ⟨bA, oA + k * 5 + 2, none⟩ = some (ps[k].2.1) := ha 2 _ ((flatM_at trV 5 (fun _ => rfl) hkx (by omega)).trans rfl)
    have a3 : wl.cell? ⟨bA, oA + k * 5 + 3, none⟩ = some (bstr ps[k].1.to) := ha 3 _ ((flatM_at trV 5 (fun _ => rfl) hkx (by omega)).trans rfl)
    have a4 : wl.cell? ⟨bA, oA + k * 5 + 4, none⟩ = some (ps[k].2.2) := ha 4 _ ((flatM_at trV 5 (fun _ => rfl) hkx (by omega)).trans rfl)
    have b0 : wl.cell? ⟨bB, oB + k * 5, none⟩ = some (.int .i64 qs[k].1.fr) := hb 0 _ ((flatM_at trV 5 (fun _ => rfl) hky (by omega)).trans rfl)
    have b1 : wl.cell? ⟨bB, oB + k * 5 + 1, none⟩ = some (bstr qs[k].1.ev) := hb 1 _ ((flatM_at trV 5 (fun _ => rfl) hky (by omega)).trans rfl)
    have b2 : wl.cell? ⟨bB, oB + k * 5 + 2, none⟩ = some (qs[k].2.1) := hb 2 _ ((flatM_at trV 5 (fun _ => rfl) hky (by omega)).trans rfl)
    have b3 : wl.cell? ⟨bB, oB + k * 5 + 3, none⟩ = some (bstr qs[k].1.to) := hb 3 _ ((flatM_at trV 5 (fun _ => rfl) hky (by omega)).trans rfl)
    have b4 : wl.cell? ⟨bB, oB + k * 5 + 4, none⟩ = some (qs[k].2.2) := hb 4 _ ((flatM_at trV 5 (fun _ => rfl) hky (by omega)).trans rfl)
    have hA := (HPA.out _ (List.getElem_mem hkx)).below HBW.out
    have hB := (HPB.out _ (List.getElem_mem hky)).below HBW.out
    have hpx := fst_atG hkx
    have hpy := fst_atG hky
    clear ha hb
    generalize ps[k] = x at *
    generalize qs[k] = y at *
    obtain ⟨⟨xfr, xev, xgd, xto, xac⟩, xvgd, xvac⟩ := x
    obtain ⟨⟨yfr, yev, ygd, yto, yac⟩, yvgd, yvac⟩ := y
    simp only at a0 a1 a2 a3 a4 b0 b1 b2 b3 b4 hpx hpy
    obtain ⟨Xev, xbev, xlev⟩ := bstr_some xev
    obtain ⟨Xto, xbto, xlto⟩ := bstr_some xto
    obtain ⟨Yev, ybev, ylev⟩ := bstr_some yev
    obtain ⟨Yto, ybto, ylto⟩ := bstr_some yto
    obtain ⟨xAgd, xcgd, xhgd⟩ := hA.1.1.slice
    simp only at xhgd
    subst xhgd
    obtain ⟨xAac, xcac, xhac⟩ := BlkR.form hA.2
    simp only at xhac
    subst xhac
    obtain ⟨yAgd, ycgd, yhgd⟩ := hB.1.1.slice
    simp only at yhgd
    subst yhgd
    obtain ⟨yAac, ycac, yhac⟩ := BlkR.form hB.2
    simp only at yhac
    subst yhac
    have hb1 := (Below.refl wl.heap.size wl).alloc (Nat.le_refl _) (.cells #[.int .i64 xfr, .string Xev, .slice xAgd xgd.length xcgd, .string Xto, .slice xAac xac.length xcac] 71)
    have hb2 := hb1.alloc hb1.size (.cells #[.int .i64 yfr, .string Yev, .slice yAgd ygd.length ycgd, .string Yto, .slice yAac yac.length ycac] 71)
    have HSA := sameTrans_any _ _ _ (hA.below hb2) (hB.below hb2)
    rw [show (Value.agg (trV ((TC.mk xfr xev xgd xto xac, .slice xAgd xgd.length xcgd, .slice xAac xac.length xcac) : TP)).toArray) = .agg #[.int .i64 xfr, bstr xev, .slice xAgd xgd.length xcgd, bstr xto, .slice xAac xac.length xcac] from rfl, show (Value.agg (trV ((TC.mk yfr yev ygd yto yac, .slice yAgd ygd.length ycgd, .slice yAac yac.length ycac) : TP)).toArray) = .agg #[.int .i64 yfr, bstr yev, .slice yAgd ygd.length ycgd, bstr yto, .slice yAac yac.length ycac] from rfl] at HSA
    simp only at HSA
    rw [xbev, xbto, ybev, ybto] at HSA
    rw [xbev] at a1; rw [ybev] at b1
    rw [xbto] at a3; rw [ybto] at b3
    have b0' := (hb1.cell (p := ⟨bB, oB + k * 5, none⟩) hbl).trans b0
    have b1' := (hb1.cell (p := ⟨bB, oB + k * 5 + 1, none⟩) hbl).trans b1
    have b2' := (hb1.cell (p := ⟨bB, oB + k * 5 + 2, none⟩) hbl).trans b2
    have b3' := (hb1.cell (p := ⟨bB, oB + k * 5 + 3, none⟩) hbl).trans b3
    have b4' := (hb1.cell (p := ⟨bB, oB + k * 5 + 4, none⟩) hbl).trans b4
    have HB2 := Lib.hid hb2
    have HSA := Lib.hid HSA
    clear hb1 hb2 hA hB
    by_cases he : TC.mk xfr xev xgd xto xac = TC.mk yfr yev ygd yto yac
    ·have HS := Lib.hid (take_nextG HT.out hpx (he ▸ hpy))
     rw [decide_eq_true he] at HSA
     clear hpx hpy he xbev xbto xlev xlto ybev ybto ylev ylto
     go_wp2_with (go_at_call 63; refine HSA.out.mono ?_; rintro e w3 ⟨rfl, hb3⟩)
     go_roundw
     case rel => exact ⟨by simp, k + 1, by omega, HS.out, Lib.hid (HBW.out.trans ((HB2.out.trans (hb3.mono HB2.out.size)).mono HBW.out.size)), by go_num⟩
     case measure => simp [intOf]; omega
    ·have HD := Lib.hid (take_notG he hpx hpy)
     rw [decide_eq_false he] at HSA
     clear hpx hpy he xbev xbto xlev xlto ybev ybto ylev ylto
     go_wp2_with (go_at_call 63; refine HSA.out.mono ?_; rintro e w3 ⟨rfl, hb3⟩)
     go_ret
     exact ⟨by rw [HD.out]; rfl, HBW.out.trans ((HB2.out.trans (hb3.mono HB2.out.size)).mono HBW.out.size)⟩
   ·have HD := Lib.hid (HR.out k HT.out hkn)
    go_wp2
    go_ret
    exact ⟨by rw [HD.out]; rfl, HBW.out⟩
 ·have hr : decide (ps.map Prod.fst = qs.map Prod.fst) = false := decide_eq_false (fun e => hlen (by have := congrArg List.length e; simpa using this))
  have hl' : ((ps.length : Int) == (qs.length : Int)) = false := beq_eq_false_iff_ne.2 (by omega)
  have hl'' : ((ps.length : Int) != (qs.length : Int)) = true := bne_iff_ne.2 (by omega)
  rw [hr]; clear hr hlen
  go_enter Tryz.func62, Tryz.ntmps62
  go_wp2
  go_ret
  exact ⟨rfl, Below.refl _ _⟩
end Go.Proofs.YtdelihhbmagphaaGreatDoor.Ch
