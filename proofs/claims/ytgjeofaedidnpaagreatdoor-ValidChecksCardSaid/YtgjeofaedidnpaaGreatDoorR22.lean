/- Own texts, joined: Xj, Ze, Xk. -/
import Derived.Test.YtgjeofaedidnpaaGreatDoorR5
import Derived.Test.YtgjeofaedidnpaaGreatDoorR8
import Derived.Test.YtgjeofaedidnpaaGreatDoorR21
namespace Go.Proofs.YtgjeofaedidnpaaGreatDoor.Ch.Vd
open Go.RowKit
set_option maxRecDepth 100000
set_option maxHeartbeats 4000000 in
theorem block_any {w : World} {c : CH} {eV vV sV tV : Value} {sp : List SP} {tp : List TP} (h : ChM w c eV vV sV tV sp tp) (hs : Sm c sp tp) (v : Value) (l : List AM) (hv : BlkR w v l) (hll : l.length <= 4611686018427387904) :
 Calls Tryz.prog 92 #[chA c eV vV sV tV, v] w fun e w' => e = .returned (.int .i64 (blockE c l)) /\ Below w.heap.size w w' := by
 have HH := Lib.hid h;obtain ⟨M, A1, A2, A3, A4, k1, k2, k3, k4, wc, hM, rfl, rfl, rfl, rfl, _, _, _, _, _, _, _, _⟩ := box_ch h;obtain ⟨ps, hps, hR, _⟩ := hv;subst hps;rw [List.length_map] at hll;obtain ⟨A5, k5, rfl⟩ := hR.form;have HRT := Lib.hid (fun W (hW : Below w.heap.size w W) => aRight_any _ ps W (hR.below hW) (by omega));have HBE : Hid (blockE c (ps.map Prod.fst) = if ps.map Prod.fst = [] then 0 else if rightA (ps.map Prod.fst) = false then 1 else firE (actAt c (ps.map Prod.fst)) (ps.map Prod.fst).length) := rfl;unfold chA;rw [hM];obtain ⟨w1, hw1⟩ : ∃ W, W = (w.alloc (.cells #[.string M, .slice A1 c.es.length k1, .slice A2 c.vs.length k2, .slice A3 sp.length k3, .slice A4 tp.length k4] 27)).alloc (.cells #[.slice A5 ps.length k5] 37) := ⟨_, rfl⟩
 have hb1 : Below w.heap.size w w1 := hw1 ▸ ((Below.refl _ _).alloc (Nat.le_refl _) _).alloc (by simp) _;obtain ⟨d0, d1, d2, d3, d4⟩ : w1.cell? ⟨w.heap.size, 0, none⟩ = some (.string M) /\ w1.cell? ⟨w.heap.size, 1, none⟩ = some (.slice A1 c.es.length k1) /\ w1.cell? ⟨w.heap.size, 2, none⟩ = some (.slice A2 c.vs.length k2) /\ w1.cell? ⟨w.heap.size, 3, none⟩ = some (.slice A3 sp.length k3) /\ w1.cell? ⟨w.heap.size, 4, none⟩ = some (.slice A4 tp.length k4) := by rw [hw1]; simp
 have b0 : w1.cell? ⟨w.heap.size + 1, 0, none⟩ = some (.slice A5 ps.length k5) := by rw [hw1]; simp
 have hz1 : w1.heap.size = w.heap.size + 2 := by rw [hw1]; simp
 have hFI : ∀ W, Below w1.heap.size w1 W -> Calls Tryz.prog 42 #[.int .i64 ps.length, .func (.func 130) #[] #[.pointer (some ⟨w.heap.size, 0, none⟩), .pointer (some ⟨w.heap.size + 1, 0, none⟩)]] W fun e w' => e = .returned (.int .i64 (firE (actAt c (ps.map Prod.fst)) ps.length)) /\ Below W.heap.size W w' := fun W hW =>
  first_any ps.length 130 _ (actAt c (ps.map Prod.fst)) W (by omega) (enters_of Tryz.func130 (by kernel_rfl) rfl) fun W' i hW' hi => by
   have hb := hW.trans (hW'.mono hW.size);have hb0 := hb1.trans (hb.mono hb1.size);exact blockAt_any (h.below hb0) hs A5 k5 ps (hR.below hb0) i hi (by omega) _ _ M hM ((hb.cell (cell_lt d0)).trans d0) ((hb.cell (cell_lt d1)).trans d1) ((hb.cell (cell_lt d2)).trans d2) ((hb.cell (cell_lt d3)).trans d3) ((hb.cell (cell_lt d4)).trans d4) ((hb.cell (cell_lt b0)).trans b0)
 have HFI := Lib.hid hFI;have HW := Lib.hid hw1; have HB := Lib.hid hb1;have hlm : (ps.map Prod.fst).length = ps.length := List.length_map ..;clear hw1 hb1 h hs hM hR hFI;rcases Nat.eq_zero_or_pos ps.length with h0 | h0
 ·have hv : blockE c (ps.map Prod.fst) = 0 := by rw [HBE.out, if_pos (List.eq_nil_of_length_eq_zero (by rw [hlm]; exact h0))]
  have HV := Lib.hid hv;rw [h0] at b0 HW;clear hv hlm;generalize c.es.length = n1 at *; generalize c.vs.length = n2 at *; generalize sp.length = n3 at *; generalize tp.length = n4 at *
  rw [h0]
  go_enter Tryz.func92, Tryz.ntmps92
  go_wp2_with fail
  rw [<- HW.out];go_wp2;go_ret;exact ⟨ret_int HV.out.symm, HB.out⟩
 ·have hne : ps.map Prod.fst ≠ [] := fun e => by rw [e] at hlm; simp at hlm; omega
  have q0 : ((ps.length : Int) == 0) = false := int_ne (by omega);cases hr : rightA (ps.map Prod.fst) with
  | false =>
   have hv : blockE c (ps.map Prod.fst) = 1 := by rw [HBE.out, if_neg hne, if_pos hr]
   have HV := Lib.hid hv; have HRR := Lib.hid hr;clear hv hlm hr hne;generalize c.es.length = n1 at *; generalize c.vs.length = n2 at *; generalize sp.length = n3 at *; generalize tp.length = n4 at *; generalize ps.length = n5 at *
   go_enter Tryz.func92, Tryz.ntmps92
   go_wp2_with fail
   rw [<- HW.out]
   go_wp2_with fail
   refine (HRT.out _ HB.out).mono ?_;rintro e w2 ⟨rfl, hb2⟩;rw [HRR.out];have HB2 := Lib.hid (HB.out.trans (hb2.mono HB.out.size)); clear hb2;go_wp2;go_ret;exact ⟨ret_int HV.out.symm, HB2.out⟩
  | true =>
   have hv : blockE c (ps.map Prod.fst) = firE (actAt c (ps.map Prod.fst)) ps.length := by rw [HBE.out, if_neg hne, if_neg (by rw [hr]; decide), hlm]
   obtain ⟨ER, hER⟩ : ∃ x, firE (actAt c (ps.map Prod.fst)) ps.length = x := ⟨_, rfl⟩
   rw [hER] at hv HFI;have HV := Lib.hid hv; have HRR := Lib.hid hr;clear hv hlm hr hne hER;generalize c.es.length = n1 at *; generalize c.vs.length = n2 at *; generalize sp.length = n3 at *; generalize tp.length = n4 at *; generalize ps.length = n5 at *
   go_enter Tryz.func92, Tryz.ntmps92
   go_wp2_with fail
   rw [<- HW.out]
   go_wp2_with fail
   refine (HRT.out _ HB.out).mono ?_;rintro e w2 ⟨rfl, hb2⟩;rw [HRR.out];have HF := Lib.hid (HFI.out w2 hb2);replace b0 := (hb2.cell (cell_lt b0)).trans b0;have HB2 := Lib.hid (HB.out.trans (hb2.mono HB.out.size)); clear hb2
   go_wp2_with fail
   refine HF.out.mono ?_;rintro e w3 ⟨rfl, hb3⟩;have HB3 := Lib.hid (HB2.out.trans (hb3.mono HB2.out.size)); clear hb3;go_wp2;go_ret;exact ⟨ret_int HV.out.symm, HB3.out⟩
set_option maxHeartbeats 4000000 in
theorem blocks_any {w : World} {c : CH} {eV vV sV tV : Value} {sp : List SP} {tp : List TP} (h : ChM w c eV vV sV tV sp tp) (hs : Sm c sp tp) (p : SP) (hp : StR w p) (he : p.1.en.length <= 4611686018427387904) (hx : p.1.ex.length <= 4611686018427387904) (X Y : ByteArray) :
 Calls Tryz.prog 50 #[chA c eV vV sV tV, .agg #[.string X, .int .i64 p.1.kd, .int .i64 p.1.dp, .string Y, p.2.1, p.2.2]] w fun e w' => e = .returned (.int .i64 (blocksE c p.1)) /\ Below w.heap.size w w' := by
 have HEN := Lib.hid (fun W (hW : Below w.heap.size w W) => block_any (h.below hW) hs p.2.1 p.1.en (hp.1.below hW) he);have HEX := Lib.hid (fun W (hW : Below w.heap.size w W) => block_any (h.below hW) hs p.2.2 p.1.ex (hp.2.below hW) hx);obtain ⟨E1, j1, e1⟩ := hp.1.form;obtain ⟨E2, j2, e2⟩ := hp.2.form;have hn1 : p.1.en ≠ [] ↔ 0 < p.1.en.length := List.length_pos_iff.symm;have hn2 : p.1.ex ≠ [] ↔ 0 < p.1.ex.length := List.length_pos_iff.symm;have hbs : blocksE c p.1 = if (Tr.pastP p.1.kd /\ 0 < p.1.en.length) \/ ((Tr.pastP p.1.kd \/ p.1.kd = 4) /\ 0 < p.1.ex.length) then 1 else orE (blockE c p.1.en) (blockE c p.1.ex) := by
  unfold blocksE;by_cases hq : (Tr.pastP p.1.kd /\ p.1.en ≠ []) \/ ((Tr.pastP p.1.kd \/ p.1.kd = 4) /\ p.1.ex ≠ [])
  ·rw [if_pos hq, if_pos (by rw [hn1, hn2] at hq; exact hq)]
  ·rw [if_neg hq, if_neg (fun k => hq (by rw [hn1, hn2]; exact k))]
 have HBS := Lib.hid hbs;obtain ⟨M, A1, A2, A3, A4, k1, k2, k3, k4, wc, hM, rfl, rfl, rfl, rfl, _, _, _, _, _, _, _, _⟩ := box_ch h;unfold chA at *
 rw [hM] at HEN HEX ⊢;rw [e1] at HEN ⊢;rw [e2] at HEX ⊢;have HHI := Lib.hid (fun W => vHistory_any (.string X) (.string Y) (.slice E1 p.1.en.length j1) (.slice E2 p.1.ex.length j2) p.1.kd p.1.dp W ⟨_, rfl⟩ ⟨_, rfl⟩ ⟨_, _, _, rfl⟩ ⟨_, _, _, rfl⟩);clear h hs hp hM e1 e2 hbs hn1 hn2;generalize blocksE c p.1 = RB at *
 generalize blockE c p.1.en = EB at *
 generalize blockE c p.1.ex = XB at *
 generalize p.1.en.length = m1 at *; generalize p.1.ex.length = m2 at *; generalize p.1.kd = kd at *; generalize p.1.dp = dd at *
 generalize c.es.length = n1 at *; generalize c.vs.length = n2 at *; generalize sp.length = n3 at *; generalize tp.length = n4 at *
 obtain ⟨w1, hw1⟩ : ∃ W, W = (w.alloc (.cells #[.string M, .slice A1 n1 k1, .slice A2 n2 k2, .slice A3 n3 k3, .slice A4 n4 k4] 27)).alloc (.cells #[.string X, .int .i64 kd, .int .i64 dd, .string Y, .slice E1 m1 j1, .slice E2 m2 j2] 39) := ⟨_, rfl⟩
 have hb1 : Below w.heap.size w w1 := hw1 ▸ ((Below.refl _ _).alloc (Nat.le_refl _) _).alloc (by simp) _;have hz1 : w1.heap.size = w.heap.size + 2 := by rw [hw1]; simp
 obtain ⟨d0, d1, d2, d3, d4⟩ : w1.cell? ⟨w.heap.size, 0, none⟩ = some (.string M) /\ w1.cell? ⟨w.heap.size, 1, none⟩ = some (.slice A1 n1 k1) /\ w1.cell? ⟨w.heap.size, 2, none⟩ = some (.slice A2 n2 k2) /\ w1.cell? ⟨w.heap.size, 3, none⟩ = some (.slice A3 n3 k3) /\ w1.cell? ⟨w.heap.size, 4, none⟩ = some (.slice A4 n4 k4) := by rw [hw1]; simp
 obtain ⟨s0, s1, s2, s3, s4, s5⟩ : w1.cell? ⟨w.heap.size + 1, 0, none⟩ = some (.string X) /\ w1.cell? ⟨w.heap.size + 1, 1, none⟩ = some (.int .i64 kd) /\ w1.cell? ⟨w.heap.size + 1, 2, none⟩ = some (.int .i64 dd) /\ w1.cell? ⟨w.heap.size + 1, 3, none⟩ = some (.string Y) /\ w1.cell? ⟨w.heap.size + 1, 4, none⟩ = some (.slice E1 m1 j1) /\ w1.cell? ⟨w.heap.size + 1, 5, none⟩ = some (.slice E2 m2 j2) := by rw [hw1]; simp
 have HT : Hid (∀ W, Below w1.heap.size w1 W -> (W.cell? ⟨w.heap.size, 0, none⟩ = some (.string M) /\ W.cell? ⟨w.heap.size, 1, none⟩ = some (.slice A1 n1 k1) /\ W.cell? ⟨w.heap.size, 2, none⟩ = some (.slice A2 n2 k2) /\ W.cell? ⟨w.heap.size, 3, none⟩ = some (.slice A3 n3 k3) /\ W.cell? ⟨w.heap.size, 4, none⟩ = some (.slice A4 n4 k4)) /\
  (W.cell? ⟨w.heap.size + 1, 1, none⟩ = some (.int .i64 kd) /\ W.cell? ⟨w.heap.size + 1, 4, none⟩ = some (.slice E1 m1 j1) /\ W.cell? ⟨w.heap.size + 1, 5, none⟩ = some (.slice E2 m2 j2))) := fun W hW =>
  ⟨⟨(hW.cell (cell_lt d0)).trans d0, (hW.cell (cell_lt d1)).trans d1, (hW.cell (cell_lt d2)).trans d2, (hW.cell (cell_lt d3)).trans d3, (hW.cell (cell_lt d4)).trans d4⟩, (hW.cell (cell_lt s1)).trans s1, (hW.cell (cell_lt s4)).trans s4, (hW.cell (cell_lt s5)).trans s5⟩
 have HW := Lib.hid hw1; have HB := Lib.hid hb1;clear hw1 hb1;by_cases hp : Tr.pastP kd
 ·have HPT := Lib.hid (decide_eq_true hp);by_cases h1 : 0 < m1
  ·have hv : RB = 1 := by rw [HBS.out, if_pos (Or.inl ⟨hp, h1⟩)]
   have HV := Lib.hid hv;have q1 : decide (0 < m1) = true := decide_eq_true h1;clear hv hp h1
   go_enter Tryz.func50, Tryz.ntmps50
   go_wp2_with fail
   rw [<- HW.out]
   go_wp2_with fail
   refine (HHI.out _).mono ?_;rintro e w2 ⟨rfl, hb2⟩;rw [HPT.out];obtain ⟨⟨c0, c1, c2, c3, c4⟩, t1, t4, t5⟩ := HT.out w2 hb2;have HB1 := Lib.hid hb2;have HB2 := Lib.hid (HB.out.trans (hb2.mono HB.out.size));clear hb2 d0 d1 d2 d3 d4 s0 s1 s2 s3 s4 s5;go_wp2;go_ret;exact ⟨ret_int HV.out.symm, HB2.out⟩
  ·obtain rfl : m1 = 0 := by omega
   by_cases h2 : 0 < m2
   ·have hv : RB = 1 := by rw [HBS.out, if_pos (Or.inr ⟨Or.inl hp, h2⟩)]
    have HV := Lib.hid hv;have q2 : decide (0 < m2) = true := decide_eq_true h2;clear hv hp h1 h2
    go_enter Tryz.func50, Tryz.ntmps50
    go_wp2_with fail
    rw [<- HW.out]
    go_wp2_with fail
    refine (HHI.out _).mono ?_;rintro e w2 ⟨rfl, hb2⟩;rw [HPT.out];obtain ⟨⟨c0, c1, c2, c3, c4⟩, t1, t4, t5⟩ := HT.out w2 hb2;have HB1 := Lib.hid hb2;have HB2 := Lib.hid (HB.out.trans (hb2.mono HB.out.size));clear hb2 d0 d1 d2 d3 d4 s0 s1 s2 s3 s4 s5;go_wp2;go_ret;exact ⟨ret_int HV.out.symm, HB2.out⟩
   ·obtain rfl : m2 = 0 := by omega
    have hv : RB = orE EB XB := by rw [HBS.out, if_neg (fun h => by rcases h with h | h <;> omega)]
    have HV := Lib.hid hv;clear hv hp h1 h2
    go_enter Tryz.func50, Tryz.ntmps50
    go_wp2_with fail
    rw [<- HW.out]
    go_wp2_with fail
    refine (HHI.out _).mono ?_;rintro e w2 ⟨rfl, hb2⟩;rw [HPT.out];obtain ⟨⟨c0, c1, c2, c3, c4⟩, t1, t4, t5⟩ := HT.out w2 hb2;have HB1 := Lib.hid hb2;have HB2 := Lib.hid (HB.out.trans (hb2.mono HB.out.size));clear hb2 d0 d1 d2 d3 d4 s0 s1 s2 s3 s4 s5;by_cases he : EB = 0
    ·subst he;have hv2 : RB = XB := by rw [HV.out]; rfl
     have HV2 := Lib.hid hv2; clear hv2
     go_wp2_with fail
     refine (HEN.out _ HB2.out).mono ?_;rintro e w3 ⟨rfl, hb3⟩;obtain ⟨⟨y0, y1, y2, y3, y4⟩, z1, z4, z5⟩ := HT.out w3 (HB1.out.trans (hb3.mono HB1.out.size));have HB3 := Lib.hid (HB2.out.trans (hb3.mono HB2.out.size)); clear hb3 c0 c1 c2 c3 c4 t1 t4 t5
     go_wp2_with fail
     refine (HEX.out _ HB3.out).mono ?_;rintro e w4 ⟨rfl, hb4⟩;have HB4 := Lib.hid (HB3.out.trans (hb4.mono HB3.out.size)); clear hb4;go_wp2;go_ret;exact ⟨ret_int HV2.out.symm, HB4.out⟩
    ·have hv2 : RB = EB := by rw [HV.out]; unfold orE; rw [if_pos he]
     have HV2 := Lib.hid hv2; have hne := int_ne he; clear hv2 he
     go_wp2_with fail
     refine (HEN.out _ HB2.out).mono ?_;rintro e w3 ⟨rfl, hb3⟩;have HB3 := Lib.hid (HB2.out.trans (hb3.mono HB2.out.size)); clear hb3;go_wp2;go_ret;exact ⟨ret_int HV2.out.symm, HB3.out⟩
 ·have HPT := Lib.hid (decide_eq_false hp);by_cases h4 : kd = 4
  ·subst h4;by_cases h2 : 0 < m2
   ·have hv : RB = 1 := by rw [HBS.out, if_pos (Or.inr ⟨Or.inr rfl, h2⟩)]
    have HV := Lib.hid hv;have q2 : decide (0 < m2) = true := decide_eq_true h2;clear hv hp h2
    go_enter Tryz.func50, Tryz.ntmps50
    go_wp2_with fail
    rw [<- HW.out]
    go_wp2_with fail
    refine (HHI.out _).mono ?_;rintro e w2 ⟨rfl, hb2⟩;rw [HPT.out];obtain ⟨⟨c0, c1, c2, c3, c4⟩, t1, t4, t5⟩ := HT.out w2 hb2;have HB1 := Lib.hid hb2;have HB2 := Lib.hid (HB.out.trans (hb2.mono HB.out.size));clear hb2 d0 d1 d2 d3 d4 s0 s1 s2 s3 s4 s5;go_wp2;go_ret;exact ⟨ret_int HV.out.symm, HB2.out⟩
   ·obtain rfl : m2 = 0 := by omega
    have hv : RB = orE EB XB := by rw [HBS.out, if_neg (fun h => by rcases h with h | h; exact hp h.1; omega)]
    have HV := Lib.hid hv;clear hv hp h2
    go_enter Tryz.func50, Tryz.ntmps50
    go_wp2_with fail
    rw [<- HW.out]
    go_wp2_with fail
    refine (HHI.out _).mono ?_;rintro e w2 ⟨rfl, hb2⟩;rw [HPT.out];obtain ⟨⟨c0, c1, c2, c3, c4⟩, t1, t4, t5⟩ := HT.out w2 hb2;have HB1 := Lib.hid hb2;have HB2 := Lib.hid (HB.out.trans (hb2.mono HB.out.size));clear hb2 d0 d1 d2 d3 d4 s0 s1 s2 s3 s4 s5;by_cases he : EB = 0
    ·subst he;have hv2 : RB = XB := by rw [HV.out]; rfl
     have HV2 := Lib.hid hv2; clear hv2
     go_wp2_with fail
     refine (HEN.out _ HB2.out).mono ?_;rintro e w3 ⟨rfl, hb3⟩;obtain ⟨⟨y0, y1, y2, y3, y4⟩, z1, z4, z5⟩ := HT.out w3 (HB1.out.trans (hb3.mono HB1.out.size));have HB3 := Lib.hid (HB2.out.trans (hb3.mono HB2.out.size)); clear hb3 c0 c1 c2 c3 c4 t1 t4 t5
     go_wp2_with fail
     refine (HEX.out _ HB3.out).mono ?_;rintro e w4 ⟨rfl, hb4⟩;have HB4 := Lib.hid (HB3.out.trans (hb4.mono HB3.out.size)); clear hb4;go_wp2;go_ret;exact ⟨ret_int HV2.out.symm, HB4.out⟩
    ·have hv2 : RB = EB := by rw [HV.out]; unfold orE; rw [if_pos he]
     have HV2 := Lib.hid hv2; have hne := int_ne he; clear hv2 he
     go_wp2_with fail
     refine (HEN.out _ HB2.out).mono ?_;rintro e w3 ⟨rfl, hb3⟩;have HB3 := Lib.hid (HB2.out.trans (hb3.mono HB2.out.size)); clear hb3;go_wp2;go_ret;exact ⟨ret_int HV2.out.symm, HB3.out⟩
  ·have q4 : (kd != 4) = true := bne_iff_ne.2 h4;have hv : RB = orE EB XB := by rw [HBS.out, if_neg (fun h => by rcases h with h | h; exact hp h.1; rcases h.1 with h | h; exact hp h; exact h4 h)]
   have HV := Lib.hid hv;clear hv hp h4
   go_enter Tryz.func50, Tryz.ntmps50
   go_wp2_with fail
   rw [<- HW.out]
   go_wp2_with fail
   refine (HHI.out _).mono ?_;rintro e w2 ⟨rfl, hb2⟩;rw [HPT.out];obtain ⟨⟨c0, c1, c2, c3, c4⟩, t1, t4, t5⟩ := HT.out w2 hb2;have HB1 := Lib.hid hb2;have HB2 := Lib.hid (HB.out.trans (hb2.mono HB.out.size));clear hb2 d0 d1 d2 d3 d4 s0 s1 s2 s3 s4 s5;by_cases he : EB = 0
   ·subst he;have hv2 : RB = XB := by rw [HV.out]; rfl
    have HV2 := Lib.hid hv2; clear hv2
    go_wp2_with fail
    refine (HEN.out _ HB2.out).mono ?_;rintro e w3 ⟨rfl, hb3⟩;obtain ⟨⟨y0, y1, y2, y3, y4⟩, z1, z4, z5⟩ := HT.out w3 (HB1.out.trans (hb3.mono HB1.out.size));have HB3 := Lib.hid (HB2.out.trans (hb3.mono HB2.out.size)); clear hb3 c0 c1 c2 c3 c4 t1 t4 t5
    go_wp2_with fail
    refine (HEX.out _ HB3.out).mono ?_;rintro e w4 ⟨rfl, hb4⟩;have HB4 := Lib.hid (HB3.out.trans (hb4.mono HB3.out.size)); clear hb4;go_wp2;go_ret;exact ⟨ret_int HV2.out.symm, HB4.out⟩
   ·have hv2 : RB = EB := by rw [HV.out]; unfold orE; rw [if_pos he]
    have HV2 := Lib.hid hv2; have hne := int_ne he; clear hv2 he
    go_wp2_with fail
    refine (HEN.out _ HB2.out).mono ?_;rintro e w3 ⟨rfl, hb3⟩;have HB3 := Lib.hid (HB2.out.trans (hb3.mono HB2.out.size)); clear hb3;go_wp2;go_ret;exact ⟨ret_int HV2.out.symm, HB3.out⟩
end Go.Proofs.YtgjeofaedidnpaaGreatDoor.Ch.Vd
namespace Go.Proofs.YtgjeofaedidnpaaGreatDoor
instance : DecidableEq AM := fun x y => decidable_of_iff (x.kd = y.kd /\ x.nm = y.nm /\ x.ex = y.ex) (by cases x; cases y; simp)
end Go.Proofs.YtgjeofaedidnpaaGreatDoor
namespace Go.Proofs.YtgjeofaedidnpaaGreatDoor.Ch.Vd
open Go.RowKit
set_option maxRecDepth 100000
def nhT (ss : List SC) (k : Nat) : List (List UInt8) := nhC (ss.take k)
theorem nhT_all (ss : List SC) {k : Nat} (h : ss.length <= k) : nhT ss k = nhC ss := by unfold nhT; rw [List.take_of_length_le h]
theorem nhT_yes {ss : List SC} {k : Nat} (hk : k < ss.length) (hp : ¬ Tr.pastP ss[k].kd) : nhT ss (k + 1) = nhT ss k ++ [ss[k].nm] := by
 unfold nhT nhC;rw [List.take_add_one, List.getElem?_eq_getElem hk, Option.toList_some, List.filter_append, List.map_append];simp [hp]
theorem nhT_no {ss : List SC} {k : Nat} (hk : k < ss.length) (hp : Tr.pastP ss[k].kd) : nhT ss (k + 1) = nhT ss k := by
 unfold nhT nhC;rw [List.take_add_one, List.getElem?_eq_getElem hk, Option.toList_some, List.filter_append, List.map_append];simp [hp]
theorem nhT_len (ss : List SC) (k : Nat) : (nhT ss k).length <= ss.length := by
 unfold nhT nhC;rw [List.length_map];have h1 := List.length_filter_le (fun s : SC => !decide (Tr.pastP s.kd)) (ss.take k);have h2 := List.length_take_le' k ss;omega
set_option maxHeartbeats 8000000 in
theorem guard_any {w : World} {c : CH} {eV vV sV tV : Value} {sp : List SP} {tp : List TP} (h : ChM w c eV vV sV tV sp tp) (hs : Sm c sp tp) (v : Value) (cs : List CM) (hv : GdR w v cs) :
 Calls Tryz.prog 95 #[chA c eV vV sV tV, v] w fun e w' => e = .returned (.int .i64 (guardE c cs)) /\ Below w.heap.size w w' := by
 have hss := hs.ss;have hcl := hv.2;obtain ⟨is, hs0, hs1, hs2, hs3⟩ := info_of infoStrS;have HS0 := Lib.hid hs0; have HS1 := Lib.hid hs1; have HS2 := Lib.hid hs2; have HS3 := Lib.hid hs3;clear hs0 hs1 hs2 hs3;have hSR := h.ss; have hSD := h.sd; have hSE := h.ssE; have hSL := h.sLen;obtain ⟨M, A1, A2, A3, A4, k1, k2, k3, k4, w1, hM, rfl, rfl, rfl, rfl, hw1, hb1, hz1, d0, d1, d2, d3, d4⟩ := box_ch h;have hOF := fun W (hW : Below w.heap.size w W) (u : Value) (hu : RdW W u (nhC c.ss)) => ofKind_any (h.below hW) hs 2 v u cs (hv.1.below hW) (by omega) (nhC c.ss) hu (by have := nhT_len c.ss c.ss.length; rw [nhT_all _ (Nat.le_refl _)] at this; omega)
 obtain ⟨Ax, cx, rfl⟩ := hv.1.slice;unfold chA at hOF ⊢;rw [hM] at hOF ⊢;have hGE : guardE c cs = if cs = [] then 0 else ofE 2 c (nhC c.ss) cs := rfl
 have HOF := Lib.hid hOF; have HW := Lib.hid hw1; have HB := Lib.hid hb1; have HGE := Lib.hid hGE;have HSR := Lib.hid (fun W (hW : Below w.heap.size w W) => hSR.below hW);have HSD := Lib.hid (fun W (hW : Below w.heap.size w W) p hp => (hSD p hp).below hW);have HSE := Lib.hid hSE; have HSL := Lib.hid hSL;clear hM hw1 hb1 h hs hv hOF hGE hSR hSD hSE hSL hcl;rcases Nat.eq_zero_or_pos cs.length with h0 | h0
 ·have hv : guardE c cs = 0 := by rw [HGE.out, if_pos (List.eq_nil_of_length_eq_zero h0)]
  have HV := Lib.hid hv;clear hv;rw [h0];generalize c.es.length = n1 at *; generalize c.vs.length = n2 at *; generalize sp.length = n3 at *; generalize tp.length = n4 at *
  go_enter Tryz.func95, Tryz.ntmps95
  go_wp2_with fail
  rw [<- HW.out];go_wp2;go_ret;exact ⟨ret_int HV.out.symm, HB.out⟩
 ·have hv : guardE c cs = ofE 2 c (nhC c.ss) cs := by rw [HGE.out, if_neg (fun e => by rw [e] at h0; simp at h0)]
  obtain ⟨ER, hER⟩ : ∃ x, ofE 2 c (nhC c.ss) cs = x := ⟨_, rfl⟩
  rw [hER] at hv HOF;have HV := Lib.hid hv;have q0 : ((cs.length : Int) == 0) = false := int_ne (by omega);clear hv hER;obtain ⟨n3, hn3⟩ : ∃ n, sp.length = n := ⟨_, rfl⟩
  have HN3 := Lib.hid hn3;rw [hn3] at hss HOF HSR HSL d3 HW ⊢;clear hn3;generalize c.es.length = n1 at *; generalize c.vs.length = n2 at *; generalize tp.length = n4 at *; generalize cs.length = nx at *
  have HT : Hid (∀ W, Below w1.heap.size w1 W -> W.cell? ⟨w.heap.size, 0, none⟩ = some (.string M) /\ W.cell? ⟨w.heap.size, 1, none⟩ = some (.slice A1 n1 k1) /\ W.cell? ⟨w.heap.size, 2, none⟩ = some (.slice A2 n2 k2) /\ W.cell? ⟨w.heap.size, 3, none⟩ = some (.slice A3 n3 k3) /\ W.cell? ⟨w.heap.size, 4, none⟩ = some (.slice A4 n4 k4)) := fun W hW =>
   ⟨(hW.cell (cell_lt d0)).trans d0, (hW.cell (cell_lt d1)).trans d1, (hW.cell (cell_lt d2)).trans d2, (hW.cell (cell_lt d3)).trans d3, (hW.cell (cell_lt d4)).trans d4⟩
  go_enter Tryz.func95, Tryz.ntmps95
  go_wp2_with fail
  rw [<- HW.out];go_wp2
  go_loopw [5, 7, 14] (fun xs xb xi wr => xb = xb /\ ∃ k : Nat, k <= n3 /\ xi = .int .i64 k /\ wr.ownsRow w1.heap.size 9 1 xs (nhT c.ss k).length ((nhT c.ss k).map bstr) /\ Below w1.heap.size w1 wr) (fun _ _ x _ => n3 - (intOf x).toNat)
  case atStart => exact ⟨rfl, 0, by omega, rfl, World.ownsRow_nil _ _ _ _, Below.refl _ _⟩
  case round =>
   obtain ⟨_, k, hk, hxi, hown, hbw⟩ := hrel;subst hxi;obtain ⟨wl, hwl⟩ : ∃ W, W = wr := ⟨_, rfl⟩
   subst hwl;obtain ⟨As, cs', es⟩ := own_slice hown;subst es;have HBW := Lib.hid hbw; have HOW := Lib.hid hown;have hLl : (nhT c.ss k).length <= 1000000 := by have := nhT_len c.ss k; have := HSL.out; omega
   clear hown;by_cases hkn : k < n3
   ·obtain ⟨b, o, X, Y, A4', n4', c4, A5, n5, c5, rfl, -, hX, -, -, -, -, -, e0, e1, e2, e3, e4, e5⟩ := st_at (HSR.out _ (HB.out.trans (hbw.mono HB.out.size))) HN3.out (HSD.out _ (HB.out.trans (hbw.mono HB.out.size))) (k := k) (by rw [HN3.out]; exact hkn);have hkss : k < c.ss.length := by have := HSL.out; omega
    have hsk : (sp[k]'(by rw [HN3.out]; exact hkn)).1 = c.ss[k] := by simp [<- HSE.out]
    rw [hsk] at e1 e2 hX;have HHI := Lib.hid (fun W => vHistory_any (.string X) (.string Y) (.slice A4' n4' c4) (.slice A5 n5 c5) (c.ss[k]).kd (c.ss[k]).dp W ⟨_, rfl⟩ ⟨_, rfl⟩ ⟨_, _, _, rfl⟩ ⟨_, _, _, rfl⟩);have HNY := Lib.hid (fun hp => nhT_yes (ss := c.ss) hkss hp); have HNN := Lib.hid (fun hp => nhT_no (ss := c.ss) hkss hp);rw [<- hX] at HNY;generalize (c.ss[k]).kd = kd at *
    generalize (c.ss[k]).dp = dd at *
    obtain ⟨wm, hwm⟩ : ∃ W, W = wl.alloc (.cells #[.string X, .int .i64 kd, .int .i64 dd, .string Y, .slice A4' n4' c4, .slice A5 n5 c5] 39) := ⟨_, rfl⟩
    have hbm : Below wl.heap.size wl wm := hwm ▸ (Below.refl _ _).alloc (Nat.le_refl _) _;obtain ⟨m0, m1, m2, m3, m4, m5⟩ : wm.cell? ⟨wl.heap.size, 0, none⟩ = some (.string X) /\ wm.cell? ⟨wl.heap.size, 1, none⟩ = some (.int .i64 kd) /\ wm.cell? ⟨wl.heap.size, 2, none⟩ = some (.int .i64 dd) /\ wm.cell? ⟨wl.heap.size, 3, none⟩ = some (.string Y) /\ wm.cell? ⟨wl.heap.size, 4, none⟩ = some (.slice A4' n4' c4) /\ wm.cell? ⟨wl.heap.size, 5, none⟩ = some (.slice A5 n5 c5) := by rw [hwm]; simp
    have hzm : wm.heap.size = wl.heap.size + 1 := by rw [hwm]; simp
    have HWM := Lib.hid hwm; have HBM := Lib.hid hbm;have hsz := HBW.out.size;clear hwm hbm hX hbw hsk;by_cases hp : Tr.pastP kd
    ·have HPT := Lib.hid (decide_eq_true hp);have HNX := Lib.hid (HNN.out hp);clear hp
     go_wp2_with fail
     rw [<- HWM.out]
     go_wp2_with fail
     refine (HHI.out _).mono ?_;rintro e w2 ⟨rfl, hb2⟩;rw [HPT.out];have HB2 := Lib.hid (HBW.out.trans ((HBM.out.trans (hb2.mono HBM.out.size)).mono HBW.out.size));have HO2 := Lib.hid (own_below (own_below HOW.out HBM.out) hb2);clear hb2;go_wp2
     go_roundw
     case rel => exact ⟨(by first | rfl | trivial), k + 1, by omega, by go_num, by rw [HNX.out]; exact HO2.out, HB2.out⟩
     case measure => simp [intOf] <;> omega
    ·have HPT := Lib.hid (decide_eq_false hp);have HNX := Lib.hid (HNY.out hp);clear hp
     go_wp2_with fail
     rw [<- HWM.out]
     go_wp2_with fail
     refine (HHI.out _).mono ?_;rintro e w2 ⟨rfl, hb2⟩;rw [HPT.out];replace m0 := (hb2.cell (cell_lt m0)).trans m0;have HBM2 := Lib.hid (HBM.out.trans (hb2.mono HBM.out.size));have HO2 := Lib.hid (own_below (own_below HOW.out HBM.out) hb2);have HIN : Hid (Inn (w2.alloc (.cells #[.string X] 9)) 1 (.slice (some ⟨w2.heap.size, 0, none⟩) 1 1) 1 [.string X]) := Inn.of_own (Oz.own_laid (B := 0) (size := 1) w2 #[.string X] (Nat.zero_le _) (by decide) rfl);have hs2 := HBM2.out.size;clear hb2 m1 m2 m3 m4 m5
     go_wp2_with (at_builtin; refine Ow.wpList_append rfl (.tmp 21) (.tmp 24) 22 rfl w1.heap.size 9 is _ 1 16 Tryz.underlying22 HS0.out HS1.out HS2.out HS3.out rfl (by decide) _ (nhT c.ss k).length ((nhT c.ss k).map bstr) rfl (HO2.out.alloc _) _ 1 [.string X] rfl HIN.out (by intro u hu; simp at hu; subst hu; rfl) (by unfold maxLen; omega) (by omega) (by simp; omega) ?_)
     intro v5 w5 ho5 hg5 _;obtain ⟨hr, hb⟩ := nm_push HBW.out (HBM2.out.alloc HBM2.out.size (.cells #[.string X] 9)) HOW.out (x := X.data.toList) (by rw [bstr_of, hz1]; exact ho5) hg5;rw [<- HNX.out] at hr;have HR5 := Lib.hid hr; have HB5 := Lib.hid hb;clear ho5 hg5 hr hb;go_wp2
     go_roundw
     case rel => exact ⟨(by first | rfl | trivial), k + 1, by omega, by go_num, HR5.out, HB5.out⟩
     case measure => simp [intOf] <;> omega
   ·obtain rfl : k = n3 := by omega
    have HU : Hid (RdW wl (.slice As (nhT c.ss k).length cs') (nhC c.ss)) := by
     show RdW _ _ _;have := Inn.of_own HOW.out;rw [<- nhT_all c.ss (k := k) (by have := HSL.out; omega)];exact this
    obtain ⟨c0, c1, c2, c3, c4⟩ := HT.out wl hbw;have HBL := Lib.hid (HB.out.trans (hbw.mono HB.out.size));generalize (nhT c.ss k).length = nu at *
    clear hbw hkn hk d0 d1 d2 d3 d4 hLl HOW
    go_wp2_with fail
    refine (HOF.out wl HBL.out _ HU.out).mono ?_;rintro e w2 ⟨rfl, hb2⟩;have HB2 := Lib.hid (HBL.out.trans (hb2.mono HBL.out.size)); clear hb2;go_wp2;go_ret;exact ⟨ret_int HV.out.symm, HB2.out⟩
end Go.Proofs.YtgjeofaedidnpaaGreatDoor.Ch.Vd
