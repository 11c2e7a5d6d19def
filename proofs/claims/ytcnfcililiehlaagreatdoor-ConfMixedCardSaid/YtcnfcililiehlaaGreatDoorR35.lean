/- Own texts, joined: Pg, Xq. -/
import Derived.Test.YtcnfcililiehlaaGreatDoorR21
import Derived.Test.YtcnfcililiehlaaGreatDoorR27
import Derived.Test.YtcnfcililiehlaaGreatDoorR32
import Derived.Test.YtcnfcililiehlaaGreatDoorR34
namespace Go.Proofs.YtcnfcililiehlaaGreatDoor.Ch.Vd
open Go.RowKit
set_option maxRecDepth 100000
theorem name_low {l : List UInt8} (h : nameB l = true) : l.length <= 1000 := by
 unfold nameB at h
 match l, h with
 | c :: r, h =>
  simp only [Bool.and_eq_true, decide_eq_true_eq] at h;have := h.1.1.1;simp only [List.length_cons]; omega
theorem ask_next {f : Nat -> Int} {n k : Nat} {x : Int} (hk : k < n) (h : firF f (n - k) k = x) (h0 : f k = 0) : firF f (n - (k + 1)) (k + 1) = x := by rw [firF_step f hk, if_neg (fun e => e h0)] at h; exact h
theorem ask_stop {f : Nat -> Int} {n k : Nat} {x : Int} (hk : k < n) (h : firF f (n - k) k = x) (h0 : f k ≠ 0) : x = f k := by rw [firF_step f hk, if_pos h0] at h; exact h.symm
theorem ask_done {f : Nat -> Int} {n k : Nat} {x : Int} (hk : ¬ k < n) (h : firF f (n - k) k = x) : x = 0 := by rw [firF_end f hk] at h; exact h.symm
theorem or_first {a b x : Int} (h : a = x) (h0 : x ≠ 0) : orE a b = x := by rw [h]; exact if_pos h0
theorem or_next {a b : Int} (h : a = 0) : orE a b = b := by rw [h]; exact if_neg (fun e => e rfl)
set_option maxHeartbeats 16000000 in
theorem refCheck_any {w : World} {c : CH} {eV vV sV tV : Value} {sp : List SP} {tp : List TP} (h : ChM w c eV vV sV tV sp tp) (hsb : Sb c) (hgn : ∀ t ∈ c.ts, Names t.gd) :
 Calls Tryz.prog 33 #[chA c eV vV sV tV] w fun e w' => e = .returned (.int .i64 (checkE c)) /\ Below w.heap.size w w' := by
 obtain ⟨M0, hM0, hMl⟩ := bstr_some c.nm;have HCH := Lib.hid (fun W (hW : Below w.heap.size w W) => h.below hW);have hsm : shortB c = true -> Sm c sp tp := fun hq => sm_of_short h hq
 have HSM := Lib.hid hsm;have HNS := Lib.hid (fun hq W (hW : Below w.heap.size w W) => dNames (h.below hW) (hsm hq) true);have HTR := Lib.hid (fun hq W (hW : Below w.heap.size w W) => rTree (h.below hW) (by have := (hsm hq).ss; omega));have HIN := Lib.hid (fun (hT : treeP c) W (hW : Below w.heap.size w W) i (hi : i < sp.length) => dInit (h.below hW) hT i hi);have HBK := Lib.hid (fun hq W (hW : Below w.heap.size w W) v l (hv : BlkR W v l) hll => dBlock (h.below hW) (hsm hq) v l hv hll);have HTS := Lib.hid (fun hq (hT : treeP c) hnm W (hW : Below w.heap.size w W) i (hi : i < tp.length) => refTrans_any (h.below hW) (hsm hq) hsb hT hgn hnm i hi);have HSP := Lib.hid (fun W (hW : Below w.heap.size w W) => refSpelled_any dName _ c.es W (h.below hW).rdW);have HTW := Lib.hid (fun W (hW : Below w.heap.size w W) => refTwice_any _ c.es W (h.below hW).rdW);have HSBB := Lib.hid hsb;have HSL := Lib.hid h.sLen; have HTL := Lib.hid h.tLen;have HSH : Hid (shortB c = (decide (c.es.length <= 12) && (decide (c.vs.length <= 8) && (decide (sp.length <= 40) && decide (tp.length <= 48))))) := by show _ = _; rw [h.sLen, h.tLen]; rfl
 obtain ⟨M, A1, A2, A3, A4, k1, k2, k3, k4, w1, hM, rfl, rfl, rfl, rfl, hw1, hb1, hz1, d0, d1, d2, d3, d4⟩ := box_ch h;have hMM : M = M0 := by have := hM.symm.trans hM0; injection this
 subst hMM;have HNM : Hid (∀ W, Calls Tryz.prog 53 #[.string M] W fun e w' => e = .returned (.bool (nameB c.nm)) /\ Below W.heap.size W w') := by
  have h9 := dName M;rw [hMl] at h9;exact h9
 have HVA := Lib.hid h.vs; have HSS := Lib.hid h.ss; have HSD := Lib.hid h.sd;have HSE := Lib.hid h.ssE;have hvl := h.vl;have HF : Hid (∀ W, Below w1.heap.size w1 W -> W.cell? ⟨w.heap.size, 0, none⟩ = some (.string M) /\ W.cell? ⟨w.heap.size, 1, none⟩ = some (.slice A1 c.es.length k1) /\ W.cell? ⟨w.heap.size, 2, none⟩ = some (.slice A2 c.vs.length k2) /\ W.cell? ⟨w.heap.size, 3, none⟩ = some (.slice A3 sp.length k3) /\ W.cell? ⟨w.heap.size, 4, none⟩ = some (.slice A4 tp.length k4)) := fun W hW =>
  ⟨(hW.cell (cell_lt d0)).trans d0, (hW.cell (cell_lt d1)).trans d1, (hW.cell (cell_lt d2)).trans d2, (hW.cell (cell_lt d3)).trans d3, (hW.cell (cell_lt d4)).trans d4⟩
 have HL4 : Hid (shortB c = false -> checkE c = 4) := fun hq => by unfold checkE; rw [if_pos hq]
 have HL2 : Hid (shortB c = true -> namedB c = false -> checkE c = 2) := fun hq h2 => by unfold checkE; rw [if_neg (by rw [hq]; decide), if_pos h2]
 have HL3 : Hid (shortB c = true -> namedB c = true -> apartB c = false -> checkE c = 3) := fun hq h2 h3 => by unfold checkE; rw [if_neg (by rw [hq]; decide), if_neg (by rw [h2]; decide), if_pos h3]
 have HL9 : Hid (shortB c = true -> namedB c = true -> apartB c = true -> ¬ treeP c -> checkE c = 9) := fun hq h2 h3 h9 => by unfold checkE; rw [if_neg (by rw [hq]; decide), if_neg (by rw [h2]; decide), if_neg (by rw [h3]; decide), if_pos h9]
 have HLP : Hid (shortB c = true -> namedB c = true -> apartB c = true -> treeP c -> checkE c = orE (firF (initE c.ss) sp.length 0) (orE (firF (varAt c) c.vs.length 0) (orE (firF (blocksAt c) sp.length 0) (firF (transE c) tp.length 0)))) := fun hq h2 h3 h9 => by unfold checkE; rw [if_neg (by rw [hq]; decide), if_neg (by rw [h2]; decide), if_neg (by rw [h3]; decide), if_neg (fun k => k h9), h.sLen, h.tLen]; rfl
 have HB := Lib.hid hb1; have HW := Lib.hid hw1;have HBL : Hid (∀ W, Below w1.heap.size w1 W -> Below w.heap.size w W) := fun W hW => HB.out.trans (hW.mono HB.out.size)
 have HZ : Hid (w.heap.size < w1.heap.size) := by show _ < _; omega
 obtain ⟨is, hs0, hs1, hs2, hs3⟩ := info_of infoStrS;have HS0 := Lib.hid hs0; have HS1 := Lib.hid hs1; have HS2 := Lib.hid hs2; have HS3 := Lib.hid hs3;unfold chA at *
 rw [hM] at HNS HIN HBK HTS ⊢;generalize checkE c = RT at *
 obtain ⟨SB, hSB⟩ : ∃ x, shortB c = x := ⟨_, rfl⟩
 rw [hSB] at HSM HNS HTR HBK HTS HSH HL4 HL2 HL3 HL9 HLP;clear h hsb hgn hM0 hMl hM hw1 hb1 hz1 hsm hs0 hs1 hs2 hs3 hSB HCH;obtain ⟨n1, hn1⟩ : ∃ n, c.es.length = n := ⟨_, rfl⟩
 obtain ⟨n2, hn2⟩ : ∃ n, c.vs.length = n := ⟨_, rfl⟩
 obtain ⟨n3, hn3⟩ : ∃ n, sp.length = n := ⟨_, rfl⟩
 obtain ⟨n4, hn4⟩ : ∃ n, tp.length = n := ⟨_, rfl⟩
 have HN2 := Lib.hid hn2; have HN3 := Lib.hid hn3;rw [hn1] at HW HF HSH HNS HIN HBK HTS HSP HTW d1 ⊢;rw [hn2] at HW HF HSH HNS HIN HBK HTS HLP HVA d2 hvl ⊢;rw [hn3] at HW HF HSH HNS HIN HBK HTS HTR HLP HSL HSS d3 ⊢;rw [hn4] at HW HF HSH HNS HIN HBK HTS HLP HTL d4 ⊢;clear hn1 hn2 hn3 hn4
 go_enter Tryz.func33, Tryz.ntmps33
 go_upto_region 1 with fail
 rw [<- HW.out]
 go_cut [36] from 15 (fun s36 wx => s36 = .bool (!SB) /\ w1 = wx)
 case first =>
  by_cases h1 : n1 <= 12;rotate_left
  ·have q1 : (12 : Int) < (n1 : Int) := by omega
   obtain rfl : SB = false := by rw [HSH.out, decide_eq_false h1]; rfl
   go_wp2
   go_meet
   case rel => exact ⟨rfl, rfl⟩
  have q1 : ¬ (12 : Int) < (n1 : Int) := by omega
  by_cases h2 : n2 <= 8;rotate_left
  ·have q2 : (8 : Int) < (n2 : Int) := by omega
   obtain rfl : SB = false := by rw [HSH.out, decide_eq_true h1, decide_eq_false h2]; rfl
   go_wp2
   go_meet
   case rel => exact ⟨rfl, rfl⟩
  have q2 : ¬ (8 : Int) < (n2 : Int) := by omega
  by_cases h3 : n3 <= 40;rotate_left
  ·have q3 : (40 : Int) < (n3 : Int) := by omega
   obtain rfl : SB = false := by rw [HSH.out, decide_eq_true h1, decide_eq_true h2, decide_eq_false h3]; rfl
   go_wp2
   go_meet
   case rel => exact ⟨rfl, rfl⟩
  have q3 : ¬ (40 : Int) < (n3 : Int) := by omega
  by_cases h4 : n4 <= 48;rotate_left
  ·have q4 : (48 : Int) < (n4 : Int) := by omega
   obtain rfl : SB = false := by rw [HSH.out, decide_eq_true h1, decide_eq_true h2, decide_eq_true h3, decide_eq_false h4]; rfl
   go_wp2
   go_meet
   case rel => exact ⟨rfl, rfl⟩
  have q4 : ¬ (48 : Int) < (n4 : Int) := by omega
  obtain rfl : SB = true := by rw [HSH.out, decide_eq_true h1, decide_eq_true h2, decide_eq_true h3, decide_eq_true h4]; rfl
  go_wp2
  go_meet
  case rel => exact ⟨rfl, rfl⟩
 case rest =>
 obtain ⟨rfl, hwc⟩ := hcut;subst hwc;cases SB with
 | false =>
  have HR := Lib.hid (HL4.out rfl);go_wp2;go_ret;exact ⟨ret_int HR.out.symm, HB.out⟩
 | true =>
 replace HL2 := Lib.hid (HL2.out rfl); replace HL3 := Lib.hid (HL3.out rfl); replace HL9 := Lib.hid (HL9.out rfl); replace HLP := Lib.hid (HLP.out rfl);replace HSM := Lib.hid (HSM.out rfl); replace HNS := Lib.hid (HNS.out rfl); replace HTR := Lib.hid (HTR.out rfl); replace HBK := Lib.hid (HBK.out rfl); replace HTS := Lib.hid (HTS.out rfl);have hsh := HSH.out.symm;simp only [Bool.and_eq_true, decide_eq_true_eq] at hsh;obtain ⟨hl1, hl2, hl3, hl4⟩ := hsh;clear HSH HL4 hvl;go_wp2
 go_loopw [3, 4] (fun xs i wr => ∃ k : Nat, k <= n2 /\ i = .int .i64 k /\ wr.ownsRow w1.heap.size 9 1 xs ((varN c).take k).length (((varN c).take k).map bstr) /\ Below w1.heap.size w1 wr) (fun _ x _ => n2 - (intOf x).toNat)
 case atStart => exact ⟨0, by omega, rfl, World.ownsRow_nil _ _ _ _, Below.refl _ _⟩
 case round =>
  obtain ⟨k, hk, hi, hown, hbw⟩ := hrel;obtain ⟨L, hL⟩ : ∃ L, (varN c).take k = L := ⟨_, rfl⟩
  rw [hL] at hown;have HL := Lib.hid hL;subst hi;obtain ⟨wl, hwl⟩ : ∃ W, W = wr := ⟨_, rfl⟩
  subst hwl;obtain ⟨As, cs, es⟩ := own_slice hown;subst es;have HBW := Lib.hid hbw; have HOW := Lib.hid hown;have hLl : L.length <= 8 := by rw [<- hL, List.length_take]; omega
  have hsz := hbw.size;clear hown hL hbw d0 d1 d2 d3 d4;obtain ⟨d0, d1, d2, d3, d4⟩ := HF.out wl HBW.out;by_cases hkn : k < n2
  ·have hkv : k < c.vs.length := by rw [HN2.out]; exact hkn
   obtain ⟨b, o, X, rfl, -, hX, e0, -⟩ := va_at (HVA.out.below (HBL.out wl HBW.out)) HN2.out hkv;have HTK : Hid ((varN c).take (k + 1) = L ++ [X.data.toList]) := by
    show _ = _;rw [List.take_succ_eq_append_getElem (by unfold varN; rw [List.length_map]; exact hkv), HL.out, hX];simp [varN]
   have HIN9 : Hid (Inn (wl.alloc (.cells #[.string X] 9)) 1 (.slice (some ⟨wl.heap.size, 0, none⟩) 1 1) 1 [.string X]) := Inn.of_own (Oz.own_laid (B := 0) (size := 1) wl #[.string X] (Nat.zero_le _) (by decide) rfl);have hkk : (k : Int) < (n2 : Int) := by omega
   clear hX hkv
   go_wp2_with (at_builtin; refine Ow.wpList_append rfl (.tmp 44) (.tmp 51) 22 rfl w1.heap.size 9 is _ 1 16 Tryz.underlying22 HS0.out HS1.out HS2.out HS3.out rfl (by decide) _ L.length (L.map bstr) rfl (HOW.out.alloc _) _ 1 [.string X] rfl HIN9.out (by intro u hu; simp at hu; subst hu; rfl) (by unfold maxLen; omega) (by omega) (by simp; omega) ?_)
   intro v5 w5 ho5 hg5 _;obtain ⟨hr, hb⟩ := nm_push HBW.out ((Below.refl wl.heap.size wl).alloc (Nat.le_refl _) (.cells #[.string X] 9)) HOW.out (x := X.data.toList) (by rw [bstr_of]; exact ho5) hg5;rw [<- HTK.out] at hr;have HR5 := Lib.hid hr; have HB5 := Lib.hid hb;clear ho5 hg5 hr hb;go_wp2
   go_roundw
   case rel => exact ⟨_, _, _, _, _, _, _, _, _, _, _, _, _, _, _, _, _, _, ⟨k + 1, by omega, by go_num, HR5.out, HB5.out⟩, rfl⟩
   case measure => simp [intOf] <;> omega
  obtain rfl : n2 = k := by omega
  have hLv : L = varN c := by rw [<- HL.out]; exact List.take_of_length_le (by unfold varN; rw [List.length_map, HN2.out]; exact Nat.le_refl _)
  subst hLv;have HRV : Hid (∀ W, Below wl.heap.size wl W -> RdW W (.slice As (varN c).length cs) (varN c)) := fun W hW => Inn.below (Inn.of_own HOW.out) hW
  have hvn : (varN c).length = n2 := by unfold varN; rw [List.length_map, HN2.out]
  have HVN := Lib.hid hvn;clear HL hk hkn hLl HOW hvn;rw [HVN.out] at HRV ⊢;have HG := Lib.hid hsz;have HCN : Hid (namedB c = (nameB c.nm && (c.es.all nameB && ((varN c).all nameB && (stN c).all nameB)))) := rfl;have HCA : Hid (apartB c = (apartL c.es && (apartL (varN c) && apartL (stN c)))) := rfl;have HG0 : Hid (Below wl.heap.size wl wl) := Below.refl _ _;have HGB : Hid (∀ W, Below wl.heap.size wl W -> Below w1.heap.size w1 W) := fun W hW => HBW.out.trans (hW.mono HBW.out.size)
  have HGC : Hid (∀ W, Below wl.heap.size wl W -> Below w.heap.size w W) := fun W hW => HBL.out W (HGB.out W hW)
  clear HG HBW;have HQb1 := Lib.hid (HNM.out wl);obtain ⟨b1, hb1⟩ : ∃ x, nameB c.nm = x := ⟨_, rfl⟩
  rw [hb1] at HQb1 HCN;clear hb1
  go_wp2_with fail
  refine (HQb1.out).mono ?_;rintro e w2 ⟨rfl, hb⟩;have HG2 := Lib.hid (HG0.out.trans (hb.mono HG0.out.size));clear hb d0 d1 d2 d3 d4;obtain ⟨d0, d1, d2, d3, d4⟩ := HF.out w2 (HGB.out w2 HG2.out);cases b1 with
  | false =>
   have HR := Lib.hid (HL2.out HCN.out);go_wp2;go_ret;exact ⟨ret_int HR.out.symm, HGC.out w2 HG2.out⟩
  | true =>
  clear HQb1;have HQb2 := Lib.hid (HSP.out w2 (HGC.out w2 HG2.out) (by omega));obtain ⟨b2, hb2⟩ : ∃ x, c.es.all nameB = x := ⟨_, rfl⟩
  rw [hb2] at HQb2 HCN;clear hb2
  go_wp2_with fail
  refine (HQb2.out).mono ?_;rintro e w3 ⟨rfl, hb⟩;have HG3 := Lib.hid (HG2.out.trans (hb.mono HG2.out.size));clear hb d0 d1 d2 d3 d4;obtain ⟨d0, d1, d2, d3, d4⟩ := HF.out w3 (HGB.out w3 HG3.out);cases b2 with
  | false =>
   have HR := Lib.hid (HL2.out HCN.out);go_wp2;go_ret;exact ⟨ret_int HR.out.symm, HGC.out w3 HG3.out⟩
  | true =>
  clear HQb2;have HQb3 := Lib.hid (refSpelled_any dName _ (varN c) w3 (HRV.out w3 HG3.out) (by rw [HVN.out]; omega));obtain ⟨b3, hb3⟩ : ∃ x, (varN c).all nameB = x := ⟨_, rfl⟩
  rw [hb3] at HQb3 HCN;clear hb3
  go_wp2_with fail
  refine (HQb3.out).mono ?_;rintro e w4 ⟨rfl, hb⟩;have HG4 := Lib.hid (HG3.out.trans (hb.mono HG3.out.size));clear hb d0 d1 d2 d3 d4;obtain ⟨d0, d1, d2, d3, d4⟩ := HF.out w4 (HGB.out w4 HG4.out);cases b3 with
  | false =>
   have HR := Lib.hid (HL2.out HCN.out);go_wp2;go_ret;exact ⟨ret_int HR.out.symm, HGC.out w4 HG4.out⟩
  | true =>
  clear HQb3
  go_wp2_with fail
  refine (HNS.out w4 (HGC.out w4 HG4.out)).mono ?_;rintro e w5 ⟨⟨u, rfl, ho⟩, hb⟩;have HG5 := Lib.hid (HG4.out.trans (hb.mono HG4.out.size));clear hb d0 d1 d2 d3 d4;obtain ⟨d0, d1, d2, d3, d4⟩ := HF.out w5 (HGB.out w5 HG5.out);rw [nmL_all] at ho;obtain ⟨Ar, cr, er⟩ := own_slice ho;subst er;have HRN : Hid (RdW w5 (.slice Ar (stN c).length cr) (stN c)) := Inn.of_own ho;have hsn : (stN c).length = n3 := by unfold stN; rw [List.length_map, HSL.out]
  have HSN9 := Lib.hid hsn;rw [HSN9.out] at HRN ⊢;clear ho hsn;have HQb4 := Lib.hid (refSpelled_any dName _ (stN c) w5 HRN.out (by rw [HSN9.out]; omega));obtain ⟨b4, hb4⟩ : ∃ x, (stN c).all nameB = x := ⟨_, rfl⟩
  rw [hb4] at HQb4 HCN;clear hb4
  go_wp2_with fail
  refine (HQb4.out).mono ?_;rintro e w6 ⟨rfl, hb⟩;have HG6 := Lib.hid (HG5.out.trans (hb.mono HG5.out.size));clear hb d0 d1 d2 d3 d4;obtain ⟨d0, d1, d2, d3, d4⟩ := HF.out w6 (HGB.out w6 HG6.out);cases b4 with
  | false =>
   have HR := Lib.hid (HL2.out HCN.out);go_wp2;go_ret;exact ⟨ret_int HR.out.symm, HGC.out w6 HG6.out⟩
  | true =>
  clear HQb4;clear HRN HSP HNM;have HNT : Hid (namedB c = true) := HCN.out;have HQa1 := Lib.hid (HTW.out w6 (HGC.out w6 HG6.out) (by omega));obtain ⟨a1, ha1⟩ : ∃ x, apartL c.es = x := ⟨_, rfl⟩
  rw [ha1] at HQa1 HCA;clear ha1
  go_wp2_with fail
  refine (HQa1.out).mono ?_;rintro e w7 ⟨rfl, hb⟩;have HG7 := Lib.hid (HG6.out.trans (hb.mono HG6.out.size));clear hb d0 d1 d2 d3 d4;obtain ⟨d0, d1, d2, d3, d4⟩ := HF.out w7 (HGB.out w7 HG7.out);cases a1 with
  | false =>
   have HR := Lib.hid (HL3.out HNT.out HCA.out);go_wp2;go_ret;exact ⟨ret_int HR.out.symm, HGC.out w7 HG7.out⟩
  | true =>
  clear HQa1;have HQa2 := Lib.hid (refTwice_any _ (varN c) w7 (HRV.out w7 HG7.out) (by rw [HVN.out]; omega));obtain ⟨a2, ha2⟩ : ∃ x, apartL (varN c) = x := ⟨_, rfl⟩
  rw [ha2] at HQa2 HCA;clear ha2
  go_wp2_with fail
  refine (HQa2.out).mono ?_;rintro e w8 ⟨rfl, hb⟩;have HG8 := Lib.hid (HG7.out.trans (hb.mono HG7.out.size));clear hb d0 d1 d2 d3 d4;obtain ⟨d0, d1, d2, d3, d4⟩ := HF.out w8 (HGB.out w8 HG8.out);cases a2 with
  | false =>
   have HR := Lib.hid (HL3.out HNT.out HCA.out);go_wp2;go_ret;exact ⟨ret_int HR.out.symm, HGC.out w8 HG8.out⟩
  | true =>
  clear HQa2
  go_wp2_with fail
  refine (HNS.out w8 (HGC.out w8 HG8.out)).mono ?_;rintro e w9 ⟨⟨u, rfl, ho⟩, hb⟩;have HG9 := Lib.hid (HG8.out.trans (hb.mono HG8.out.size));clear hb d0 d1 d2 d3 d4;obtain ⟨d0, d1, d2, d3, d4⟩ := HF.out w9 (HGB.out w9 HG9.out);rw [nmL_all] at ho;obtain ⟨Ar, cr, er⟩ := own_slice ho;subst er;have HRN : Hid (RdW w9 (.slice Ar (stN c).length cr) (stN c)) := Inn.of_own ho;have hsn : (stN c).length = n3 := by unfold stN; rw [List.length_map, HSL.out]
  have HSN9 := Lib.hid hsn;rw [HSN9.out] at HRN ⊢;clear ho hsn;have HQa3 := Lib.hid (refTwice_any _ (stN c) w9 HRN.out (by rw [HSN9.out]; omega));obtain ⟨a3, ha3⟩ : ∃ x, apartL (stN c) = x := ⟨_, rfl⟩
  rw [ha3] at HQa3 HCA;clear ha3
  go_wp2_with fail
  refine (HQa3.out).mono ?_;rintro e w10 ⟨rfl, hb⟩;have HG10 := Lib.hid (HG9.out.trans (hb.mono HG9.out.size));clear hb d0 d1 d2 d3 d4;obtain ⟨d0, d1, d2, d3, d4⟩ := HF.out w10 (HGB.out w10 HG10.out);cases a3 with
  | false =>
   have HR := Lib.hid (HL3.out HNT.out HCA.out);go_wp2;go_ret;exact ⟨ret_int HR.out.symm, HGC.out w10 HG10.out⟩
  | true =>
  clear HQa3;clear HRN HTW HNS;have HAT : Hid (apartB c = true) := HCA.out;have HQT := Lib.hid (HTR.out w10 (HGC.out w10 HG10.out));by_cases hT : treeP c;rotate_left
  ·rw [decide_eq_false hT] at HQT;have HR := Lib.hid (HL9.out HNT.out HAT.out hT);clear hT
   go_wp2_with fail
   refine (HQT.out).mono ?_;rintro e w11 ⟨rfl, hb⟩;have HG11 := Lib.hid (HG10.out.trans (hb.mono HG10.out.size));clear hb d0 d1 d2 d3 d4;obtain ⟨d0, d1, d2, d3, d4⟩ := HF.out w11 (HGB.out w11 HG11.out);go_wp2;go_ret;exact ⟨ret_int HR.out.symm, HGC.out w11 HG11.out⟩
  rw [decide_eq_true hT] at HQT
  go_wp2_with fail
  refine (HQT.out).mono ?_;rintro e w11 ⟨rfl, hb⟩;have HG11 := Lib.hid (HG10.out.trans (hb.mono HG10.out.size));clear hb d0 d1 d2 d3 d4;obtain ⟨d0, d1, d2, d3, d4⟩ := HF.out w11 (HGB.out w11 HG11.out);have HTT := Lib.hid hT;have HRS := Lib.hid (HLP.out HNT.out HAT.out hT);clear hT HQT HL2 HL3 HL9 HLP HCN HCA HTR;go_wp2;have HNL : Hid (∀ s ∈ c.ss, s.nm.length <= 1000) := fun s hs => by
   have h9 := HNT.out;unfold namedB at h9;simp only [Bool.and_eq_true, List.all_eq_true] at h9;exact name_low (h9.2.2.2 _ (List.mem_map.2 ⟨s, hs, rfl⟩))
  clear HNT HAT HRV HVN HSN9
  go_loopw [5, 6] (fun x0 x1 wr => ∃ k : Nat, k <= n3 /\ x0 = .int .i64 k /\ Hid (firF (initE c.ss) (n3 - k) k = firF (initE c.ss) n3 0) /\ Hid (Below wl.heap.size wl wr)) (fun x _ _ => n3 - (intOf x).toNat)
  case atStart => exact ⟨0, by omega, rfl, rfl, HG11⟩
  case round =>
  obtain ⟨k, hk, rfl, HK, HGk⟩ := hrel;obtain ⟨wk, hwk⟩ : ∃ W, W = wr := ⟨_, rfl⟩
  subst hwk;clear d0 d1 d2 d3 d4;obtain ⟨d0, d1, d2, d3, d4⟩ := HF.out wk (HGB.out wk HGk.out);by_cases hkn : k < n3
  ·have hkk : (k : Int) < (n3 : Int) := by omega
   have HQ := Lib.hid (HIN.out HTT.out wk (HGC.out wk HGk.out) k hkn);obtain ⟨EE, hEE⟩ : ∃ x, initE c.ss k = x := ⟨_, rfl⟩
   rw [hEE] at HQ;have HEE := Lib.hid hEE;clear hEE
   go_wp2_with fail
   refine (HQ.out).mono ?_;rintro e w12 ⟨rfl, hb⟩;have HG12 := Lib.hid (HGk.out.trans (hb.mono HGk.out.size));clear hb d0 d1 d2 d3 d4;obtain ⟨d0, d1, d2, d3, d4⟩ := HF.out w12 (HGB.out w12 HG12.out);by_cases h0 : EE = 0
   ·have HN := Lib.hid (ask_next hkn HK.out ((HEE.out).trans h0));subst h0;go_wp2
    go_roundw
    case rel => first | exact ⟨k + 1, by omega, by go_num, HN, HG12⟩ | exact ⟨_, _, _, _, _, _, _, _, _, _, _, _, _, _, _, ⟨k + 1, by omega, by go_num, HN, HG12⟩, rfl⟩
    case measure => simp [intOf] <;> omega
   have HR : Hid (RT = EE) := HRS.out.trans (or_first ((ask_stop hkn HK.out (fun e => h0 ((HEE.out).symm.trans e))).trans (HEE.out)) h0);have q1 : (EE != 0) = true := bne_iff_ne.2 h0;have q2 := int_ne h0;clear h0;go_wp2;go_ret;exact ⟨ret_int HR.out.symm, HGC.out w12 HG12.out⟩
  obtain rfl : n3 = k := by omega
  obtain ⟨we1, hwe⟩ : ∃ W, W = wk := ⟨_, rfl⟩
  subst hwe;have HGe1 := HGk;replace HRS : Hid (RT = orE (firF (varAt c) n2 0) (orE (firF (blocksAt c) n3 0) (firF (transE c) n4 0))) := HRS.out.trans (or_next (ask_done hkn HK.out));clear HK HGk hk hkn;go_wp2
  go_loopw [7, 8] (fun x0 x1 wr => ∃ k : Nat, k <= n2 /\ x0 = .int .i64 k /\ Hid (firF (varAt c) (n2 - k) k = firF (varAt c) n2 0) /\ Hid (Below wl.heap.size wl wr)) (fun x _ _ => n2 - (intOf x).toNat)
  case atStart => exact ⟨0, by omega, rfl, rfl, HGe1⟩
  case round =>
  obtain ⟨k, hk, rfl, HK, HGk⟩ := hrel;obtain ⟨wk, hwk⟩ : ∃ W, W = wr := ⟨_, rfl⟩
  subst hwk;clear d0 d1 d2 d3 d4;obtain ⟨d0, d1, d2, d3, d4⟩ := HF.out wk (HGB.out wk HGk.out);by_cases hkn : k < n2
  ·have hkk : (k : Int) < (n2 : Int) := by omega
   have hkv : k < c.vs.length := by rw [HN2.out]; exact hkn
   obtain ⟨b, o, X, rfl, -, -, e0, e1, e2, e3, e4, e5, e6⟩ := va_at (HVA.out.below (HGC.out wk HGk.out)) HN2.out hkv;have hat : varAt c k = varE c.vs[k] := by unfold varAt; rw [List.getElem?_eq_getElem hkv]
   have hq := dVar c.vs[k] X wk;generalize c.vs[k] = v at *
   obtain ⟨nm, kd, lo, hi, ik, ia, ib⟩ := v;unfold vaA at hq;simp only at hq e1 e2 e3 e4 e5 e6;obtain ⟨EE, hEE⟩ : ∃ x, varE ⟨nm, kd, lo, hi, ik, ia, ib⟩ = x := ⟨_, rfl⟩
   rw [hEE] at hq hat;have HQ := Lib.hid hq; have HEE := Lib.hid hat;clear hEE hq hat hkv
   go_wp2_with fail
   refine (HQ.out).mono ?_;rintro e w13 ⟨rfl, hb⟩;have HG13 := Lib.hid (HGk.out.trans (hb.mono HGk.out.size));clear hb d0 d1 d2 d3 d4;obtain ⟨d0, d1, d2, d3, d4⟩ := HF.out w13 (HGB.out w13 HG13.out);by_cases h0 : EE = 0
   ·have HN := Lib.hid (ask_next hkn HK.out ((HEE.out).trans h0));subst h0;go_wp2
    go_roundw
    case rel => first | exact ⟨k + 1, by omega, by go_num, HN, HG13⟩ | exact ⟨_, _, _, _, _, _, _, _, _, _, _, _, _, _, _, _, _, _, ⟨k + 1, by omega, by go_num, HN, HG13⟩, rfl⟩
    case measure => simp [intOf] <;> omega
   have HR : Hid (RT = EE) := HRS.out.trans (or_first ((ask_stop hkn HK.out (fun e => h0 ((HEE.out).symm.trans e))).trans (HEE.out)) h0);have q1 : (EE != 0) = true := bne_iff_ne.2 h0;have q2 := int_ne h0;clear h0;go_wp2;go_ret;exact ⟨ret_int HR.out.symm, HGC.out w13 HG13.out⟩
  obtain rfl : n2 = k := by omega
  obtain ⟨we2, hwe⟩ : ∃ W, W = wk := ⟨_, rfl⟩
  subst hwe;have HGe2 := HGk;replace HRS : Hid (RT = orE (firF (blocksAt c) n3 0) (firF (transE c) n4 0)) := HRS.out.trans (or_next (ask_done hkn HK.out));clear HK HGk hk hkn;go_wp2
  go_loopw [9, 10, 11, 12] (fun x0 x1 x2 x3 wr => ∃ k : Nat, k <= n3 /\ x0 = .int .i64 k /\ Hid (firF (blocksAt c) (n3 - k) k = firF (blocksAt c) n3 0) /\ Hid (Below wl.heap.size wl wr)) (fun x _ _ _ _ => n3 - (intOf x).toNat)
  case atStart => exact ⟨0, by omega, rfl, rfl, HGe2⟩
  case round =>
  obtain ⟨k, hk, rfl, HK, HGk⟩ := hrel;obtain ⟨wk, hwk⟩ : ∃ W, W = wr := ⟨_, rfl⟩
  subst hwk;clear d0 d1 d2 d3 d4;obtain ⟨d0, d1, d2, d3, d4⟩ := HF.out wk (HGB.out wk HGk.out);by_cases hkn : k < n3
  ·have hkk : (k : Int) < (n3 : Int) := by omega
   have hks : k < sp.length := by rw [HN3.out]; exact hkn
   have hkp := List.getElem_mem hks;obtain ⟨b, o, X, Y, B4, m4, c4, B5, m5, c5, rfl, -, -, -, hm4, hm5, hv4, hv5, e0, e1, e2, e3, e4, e5⟩ := st_at (HSS.out.below (HGC.out wk HGk.out)) HN3.out (fun p hp => (HSD.out p hp).below (HGC.out wk HGk.out)) hks;have hcs : c.ss[k]? = some (sp[k]).1 := by rw [<- HSE.out, List.getElem?_map, List.getElem?_eq_getElem hks]; rfl
   have hat : blocksAt c k = blocksE c (sp[k]).1 := by unfold blocksAt; rw [hcs]
   have hmm : (sp[k]).1 ∈ c.ss := by rw [<- HSE.out]; exact List.mem_map.2 ⟨_, hkp, rfl⟩
   have hb4 := HSBB.out.en _ hmm;have hsd := HSD.out _ hkp;have HQ4 := Lib.hid (fun W (hW : Below w.heap.size w W) => HBK.out W hW _ _ (hsd.1.below hW) hb4.1);have HQ5 := Lib.hid (fun W (hW : Below w.heap.size w W) => HBK.out W hW _ _ (hsd.2.below hW) hb4.2);rw [hv4] at HQ4;rw [hv5] at HQ5;have hz4 : ((sp[k]).1.en = []) ↔ m4 = 0 := by rw [hm4, List.length_eq_zero_iff]
   have hz5 : ((sp[k]).1.ex = []) ↔ m5 = 0 := by rw [hm5, List.length_eq_zero_iff]
   have hbe : blocksE c (sp[k]).1 = if (Tr.pastP (sp[k]).1.kd /\ m4 ≠ 0) \/ ((Tr.pastP (sp[k]).1.kd \/ (sp[k]).1.kd = 4) /\ m5 ≠ 0) then 1 else orE (blockE c (sp[k]).1.en) (blockE c (sp[k]).1.ex) := by
    unfold blocksE;simp only [ne_eq, hz4, hz5]
   obtain ⟨EE, hEE⟩ : ∃ x, blocksE c (sp[k]).1 = x := ⟨_, rfl⟩
   rw [hEE] at hat hbe;have HEE := Lib.hid hat; have HBE := Lib.hid hbe;clear hEE hat hbe hz4 hz5 hm4 hm5 hv4 hv5 hcs hmm hb4 hsd hkp;generalize blockE c (sp[k]).1.en = E4 at *
   generalize blockE c (sp[k]).1.ex = E5 at *
   generalize (sp[k]).1.kd = kd at *
   generalize (sp[k]).1.dp = dp at *
   obtain ⟨wq, hwq⟩ : ∃ W, W = wk.alloc (.cells #[.string X, .int .i64 kd, .int .i64 dp, .string Y, .slice B4 m4 c4, .slice B5 m5 c5] 50) := ⟨_, rfl⟩
   have hbq : Below wk.heap.size wk wq := hwq ▸ (Below.refl _ _).alloc (Nat.le_refl _) _;obtain ⟨g1, g4, g5⟩ : wq.cell? ⟨wk.heap.size, 1, none⟩ = some (.int .i64 kd) /\ wq.cell? ⟨wk.heap.size, 4, none⟩ = some (.slice B4 m4 c4) /\ wq.cell? ⟨wk.heap.size, 5, none⟩ = some (.slice B5 m5 c5) := by rw [hwq]; simp
   have HFS : Hid (∀ W, Below wq.heap.size wq W -> W.cell? ⟨wk.heap.size, 1, none⟩ = some (.int .i64 kd) /\ W.cell? ⟨wk.heap.size, 4, none⟩ = some (.slice B4 m4 c4) /\ W.cell? ⟨wk.heap.size, 5, none⟩ = some (.slice B5 m5 c5)) := fun W hW => ⟨(hW.cell (cell_lt g1)).trans g1, (hW.cell (cell_lt g4)).trans g4, (hW.cell (cell_lt g5)).trans g5⟩
   have HGq := Lib.hid (HGk.out.trans (hbq.mono HGk.out.size));have HWQ := Lib.hid hwq;clear hwq hbq g1 g4 g5;obtain ⟨BAD, hBAD⟩ : ∃ x, decide ((Tr.pastP kd /\ m4 ≠ 0) \/ ((Tr.pastP kd \/ kd = 4) /\ m5 ≠ 0)) = x := ⟨_, rfl⟩
   have HBAD := Lib.hid hBAD;clear hBAD
   go_upto_region 30 with fail
   rw [<- HWQ.out];clear e0 e1 e2 e3 e4 e5 d0 d1 d2 d3 d4;obtain ⟨d0, d1, d2, d3, d4⟩ := HF.out wq (HGB.out wq HGq.out);obtain ⟨g1, g4, g5⟩ := HFS.out wq (Below.refl _ _)
   go_cut [156] from 119 to 170 (fun s wx => s = .bool BAD /\ wq = wx)
   case first =>
    have HPK := Lib.hid (Tr.past_any kd wq);by_cases hp : Tr.pastP kd
    ·rw [decide_eq_true hp] at HPK;have hk4 : kd ≠ 4 := by rcases hp with rfl | rfl <;> decide
     have q4 := int_ne hk4;by_cases hm4 : m4 = 0
     ·have g4z : ¬ (0 : Int) < (m4 : Int) := by omega
      by_cases hm5 : m5 = 0
      ·have g5z : ¬ (0 : Int) < (m5 : Int) := by omega
       obtain rfl : BAD = false := by rw [<- HBAD.out]; exact decide_eq_false (fun h => by rcases h with h | h; exact h.2 hm4; exact h.2 hm5)
       clear HBAD
       go_wp2_with fail
       refine HPK.out.mono ?_;rintro e w9 ⟨rfl, rfl⟩;go_wp2
       go_meet
       case rel => first | exact ⟨rfl, rfl⟩ | exact ⟨congrArg Value.bool (decide_eq_true (by omega)), rfl⟩
      ·have g5z : (0 : Int) < (m5 : Int) := by omega
       obtain rfl : BAD = true := by rw [<- HBAD.out]; exact decide_eq_true (Or.inr ⟨Or.inl hp, hm5⟩)
       clear HBAD
       go_wp2_with fail
       refine HPK.out.mono ?_;rintro e w9 ⟨rfl, rfl⟩;go_wp2
       go_meet
       case rel => first | exact ⟨rfl, rfl⟩ | exact ⟨congrArg Value.bool (decide_eq_true (by omega)), rfl⟩
     ·have g4z : (0 : Int) < (m4 : Int) := by omega
      obtain rfl : BAD = true := by rw [<- HBAD.out]; exact decide_eq_true (Or.inl ⟨hp, hm4⟩)
      clear HBAD
      go_wp2_with fail
      refine HPK.out.mono ?_;rintro e w9 ⟨rfl, rfl⟩;go_wp2
      go_meet
      case rel => first | exact ⟨rfl, rfl⟩ | exact ⟨congrArg Value.bool (decide_eq_true (by omega)), rfl⟩
    ·rw [decide_eq_false hp] at HPK;by_cases hk4 : kd = 4
     ·subst hk4;by_cases hm5 : m5 = 0
      ·have g5z : ¬ (0 : Int) < (m5 : Int) := by omega
       obtain rfl : BAD = false := by rw [<- HBAD.out]; exact decide_eq_false (fun h => by rcases h with h | h; exact hp h.1; exact h.2 hm5)
       clear HBAD
       go_wp2_with fail
       refine HPK.out.mono ?_;rintro e w9 ⟨rfl, rfl⟩;go_wp2
       go_meet
       case rel => first | exact ⟨rfl, rfl⟩ | exact ⟨congrArg Value.bool (decide_eq_true (by omega)), rfl⟩
      ·have g5z : (0 : Int) < (m5 : Int) := by omega
       obtain rfl : BAD = true := by rw [<- HBAD.out]; exact decide_eq_true (Or.inr ⟨Or.inr rfl, hm5⟩)
       clear HBAD
       go_wp2_with fail
       refine HPK.out.mono ?_;rintro e w9 ⟨rfl, rfl⟩;go_wp2
       go_meet
       case rel => first | exact ⟨rfl, rfl⟩ | exact ⟨congrArg Value.bool (decide_eq_true (by omega)), rfl⟩
     ·have q4 := int_ne hk4;obtain rfl : BAD = false := by rw [<- HBAD.out]; exact decide_eq_false (fun h => by rcases h with h | h; exact hp h.1; exact h.1.elim hp hk4)
      clear HBAD
      go_wp2_with fail
      refine HPK.out.mono ?_;rintro e w9 ⟨rfl, rfl⟩;go_wp2
      go_meet
      case rel => first | exact ⟨rfl, rfl⟩ | exact ⟨congrArg Value.bool (decide_eq_true (by omega)), rfl⟩
   case rest =>
   obtain ⟨rfl, hwc⟩ := hcut;subst hwc;cases BAD with
   | true =>
    have h1 : EE = 1 := HBE.out.trans (if_pos (of_decide_eq_true HBAD.out));have h0 : EE ≠ 0 := by omega
    have HR : Hid (RT = 1) := HRS.out.trans (or_first ((ask_stop hkn HK.out (fun e => h0 (HEE.out.symm.trans e))).trans (HEE.out.trans h1)) (by decide));clear h0 h1;go_wp2;go_ret;exact ⟨ret_int HR.out.symm, HGC.out wq HGq.out⟩
   | false =>
   have HB9 : Hid (EE = orE E4 E5) := HBE.out.trans (if_neg (of_decide_eq_false HBAD.out));clear HBAD HBE HWQ
   go_wp2_with fail
   refine (HQ4.out wq (HGC.out wq HGq.out)).mono ?_;rintro e w14 ⟨rfl, hb⟩;have hbs := hb;have HG14 := Lib.hid (HGq.out.trans (hb.mono HGq.out.size));clear hb d0 d1 d2 d3 d4;obtain ⟨d0, d1, d2, d3, d4⟩ := HF.out w14 (HGB.out w14 HG14.out);clear g1 g4 g5;obtain ⟨g1, g4, g5⟩ := HFS.out w14 hbs;by_cases h0 : E4 = 0;rotate_left
   ·have HE9 : Hid (EE = E4) := HB9.out.trans (if_pos h0);have h9 : EE ≠ 0 := by rw [HE9.out]; exact h0
    have HR : Hid (RT = E4) := HRS.out.trans (or_first ((ask_stop hkn HK.out (fun e => h9 (HEE.out.symm.trans e))).trans (HEE.out.trans HE9.out)) h0);have q1 : (E4 != 0) = true := bne_iff_ne.2 h0;have q2 := int_ne h0;clear h0 h9;go_wp2;go_ret;exact ⟨ret_int HR.out.symm, HGC.out w14 HG14.out⟩
   subst h0;have HE9 : Hid (EE = E5) := HB9.out.trans (if_neg (fun h => h rfl))
   go_wp2_with fail
   refine (HQ5.out w14 (HGC.out w14 HG14.out)).mono ?_;rintro e w15 ⟨rfl, hb⟩;have HG15 := Lib.hid (HG14.out.trans (hb.mono HG14.out.size));clear hb d0 d1 d2 d3 d4;obtain ⟨d0, d1, d2, d3, d4⟩ := HF.out w15 (HGB.out w15 HG15.out);by_cases h0 : E5 = 0
   ·have HN := Lib.hid (ask_next hkn HK.out (((HEE.out.trans HE9.out)).trans h0));subst h0;go_wp2
    go_roundw
    case rel => first | exact ⟨k + 1, by omega, by go_num, HN, HG15⟩ | exact ⟨_, _, _, _, _, _, _, _, _, _, _, _, _, _, _, _, _, _, _, _, _, _, _, _, _, _, _, _, _, _, _, _, _, _, _, _, _, _, _, _, _, _, _, _, _, _, _, _, _, _, _, _, _, _, _, _, ⟨k + 1, by omega, by go_num, HN, HG15⟩, rfl⟩
    case measure => simp [intOf] <;> omega
   have HR : Hid (RT = E5) := HRS.out.trans (or_first ((ask_stop hkn HK.out (fun e => h0 (((HEE.out.trans HE9.out)).symm.trans e))).trans ((HEE.out.trans HE9.out))) h0);have q1 : (E5 != 0) = true := bne_iff_ne.2 h0;have q2 := int_ne h0;clear h0;go_wp2;go_ret;exact ⟨ret_int HR.out.symm, HGC.out w15 HG15.out⟩
  obtain rfl : n3 = k := by omega
  obtain ⟨we3, hwe⟩ : ∃ W, W = wk := ⟨_, rfl⟩
  subst hwe;have HGe3 := HGk;replace HRS : Hid (RT = firF (transE c) n4 0) := HRS.out.trans (or_next (ask_done hkn HK.out));clear HK HGk hk hkn;go_wp2
  go_loopw [13, 14] (fun x0 x1 wr => ∃ k : Nat, k <= n4 /\ x0 = .int .i64 k /\ Hid (firF (transE c) (n4 - k) k = firF (transE c) n4 0) /\ Hid (Below wl.heap.size wl wr)) (fun x _ _ => n4 - (intOf x).toNat)
  case atStart => exact ⟨0, by omega, rfl, rfl, HGe3⟩
  case round =>
  obtain ⟨k, hk, rfl, HK, HGk⟩ := hrel;obtain ⟨wk, hwk⟩ : ∃ W, W = wr := ⟨_, rfl⟩
  subst hwk;clear d0 d1 d2 d3 d4;obtain ⟨d0, d1, d2, d3, d4⟩ := HF.out wk (HGB.out wk HGk.out);by_cases hkn : k < n4
  ·have hkk : (k : Int) < (n4 : Int) := by omega
   have HQ := Lib.hid (HTS.out HTT.out HNL.out wk (HGC.out wk HGk.out) k hkn);obtain ⟨EE, hEE⟩ : ∃ x, transE c k = x := ⟨_, rfl⟩
   rw [hEE] at HQ;have HEE := Lib.hid hEE;clear hEE
   go_wp2_with fail
   refine (HQ.out).mono ?_;rintro e w16 ⟨rfl, hb⟩;have HG16 := Lib.hid (HGk.out.trans (hb.mono HGk.out.size));clear hb d0 d1 d2 d3 d4;obtain ⟨d0, d1, d2, d3, d4⟩ := HF.out w16 (HGB.out w16 HG16.out);by_cases h0 : EE = 0
   ·have HN := Lib.hid (ask_next hkn HK.out ((HEE.out).trans h0));subst h0;go_wp2
    go_roundw
    case rel => first | exact ⟨k + 1, by omega, by go_num, HN, HG16⟩ | exact ⟨_, _, _, _, _, _, _, _, _, _, _, _, _, _, _, ⟨k + 1, by omega, by go_num, HN, HG16⟩, rfl⟩
    case measure => simp [intOf] <;> omega
   have HR : Hid (RT = EE) := HRS.out.trans ((ask_stop hkn HK.out (fun e => h0 ((HEE.out).symm.trans e))).trans (HEE.out));have q1 : (EE != 0) = true := bne_iff_ne.2 h0;have q2 := int_ne h0;clear h0;go_wp2;go_ret;exact ⟨ret_int HR.out.symm, HGC.out w16 HG16.out⟩
  obtain rfl : n4 = k := by omega
  obtain ⟨we4, hwe⟩ : ∃ W, W = wk := ⟨_, rfl⟩
  subst hwe;have HGe4 := HGk;replace HRS : Hid (RT = 0) := HRS.out.trans (ask_done hkn HK.out);clear HK HGk hk hkn;go_wp2;go_ret;exact ⟨ret_int HRS.out.symm, HGC.out we4 HGe4.out⟩
end Go.Proofs.YtcnfcililiehlaaGreatDoor.Ch.Vd
namespace Go.Proofs.YtcnfcililiehlaaGreatDoor.Ch.Vd
open Go.RowKit
set_option maxRecDepth 100000
theorem two {p : Nat -> Prop} (h0 : p 0) (h1 : p 1) : ∀ i, i < 2 -> p i := by
 intro i hi;have : i = 0 \/ i = 1 := by omega
 rcases this with rfl | rfl <;> assumption
theorem read_own {B : Nat} {w : World} {c : CH} {eV vV sV tV : Value} {sp : List SP} {tp : List TP} (h : ChO B w c eV vV sV tV sp tp) : ChM w c eV vV sV tV sp tp /\ ∀ A n k, eV = .slice A n k -> n <= k := by
 have hl : ∀ {e : TypeId} {size n : Nat} {v : Value} {xs : List Value}, w.ownsRow B e size v n xs -> n <= 9223372036854775807 := fun h => by
  rcases own_form h with ⟨_, rfl⟩ | ⟨g, cap, _, h1, h2⟩
  ·exact Nat.zero_le _
  ·unfold maxLen at h2; omega
 have hb : ∀ {v : Value} {l : List AM}, BlkO B w v l -> BlkR w v l := fun ⟨al, h1, h2, h3⟩ =>
  ⟨al, h1, ⟨Inn.of_own h2, fun p hp => ⟨inn_rdI (Inn.of_own (h3 p hp).own), (h3 p hp).len, (h3 p hp).names, (h3 p hp).name⟩⟩, hl h2⟩
 have hg : ∀ {v : Value} {cs : List CM}, GdO B w v cs -> GdR w v cs := fun h => ⟨inn_rdI (Inn.of_own h.own), h.len⟩
 refine ⟨⟨Inn.of_own h.es, Inn.of_own h.vs, h.ssE, Inn.of_own h.ss, h.tsE, Inn.of_own h.ts, fun p hp => ⟨hb (h.sd p hp).1, hb (h.sd p hp).2⟩, fun p hp => ⟨hg (h.td p hp).1, hb (h.td p hp).2⟩, hl h.es, hl h.vs, hl h.ss, hl h.ts⟩, fun A n k e => ?_⟩;obtain ⟨A', k', e', hk⟩ := own_cap h.es;rw [e'] at e;simp only [Value.slice.injEq] at e;omega
end Go.Proofs.YtcnfcililiehlaaGreatDoor.Ch.Vd
