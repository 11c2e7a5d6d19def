/- Own texts, joined: Xh. -/
import Derived.Test.YtcnfcililiehlaaGreatDoorR3
import Derived.Test.YtcnfcililiehlaaGreatDoorR9
import Derived.Test.YtcnfcililiehlaaGreatDoorR13
namespace Go.Proofs.YtcnfcililiehlaaGreatDoor.Ch.Vd
open Go.RowKit
set_option maxRecDepth 100000
theorem cParent {w : World} {c : CH} {eV vV sV tV : Value} {sp : List SP} {tp : List TP} (h : ChM w c eV vV sV tV sp tp) (hT : treeP c) {j : Nat} (hj : j < sp.length) :
 Calls Tryz.prog 62 #[sV, .int .i64 j] w fun e w' => e = .returned (.int .i64 (Tr.par (dC c.ss) j)) /\ Below w.heap.size w w' := by
 have := Tr.parent_yes sV (sp.map toT) j w h.rdT (by rw [List.length_map]; exact hj) (by rw [dp_toT h, kp_toT h, List.length_map, h.sLen]; exact hT)
 rwa [dp_toT h] at this
theorem cWithin {w : World} {c : CH} {eV vV sV tV : Value} {sp : List SP} {tp : List TP} (h : ChM w c eV vV sV tV sp tp) (hT : treeP c) {i j : Nat} (hi : i < sp.length) (hj : j < sp.length) :
 Calls Tryz.prog 208 #[sV, .int .i64 i, .int .i64 j] w fun e w' => e = .returned (.bool (decide (Tr.wi (dC c.ss) i j))) /\ Below w.heap.size w w' := by
 have := Tr.within_yes sV (sp.map toT) i j w h.rdT (by rw [List.length_map]; exact hi) (by rw [List.length_map]; exact hj) (by rw [dp_toT h, kp_toT h, List.length_map, h.sLen]; exact hT)
 rwa [dp_toT h] at this
theorem cDomain {w : World} {c : CH} {eV vV sV tV : Value} {sp : List SP} {tp : List TP} (h : ChM w c eV vV sV tV sp tp) (hT : treeP c) {i j : Nat} (hi : i < sp.length) (hj : j < sp.length) :
 Calls Tryz.prog 214 #[sV, .int .i64 i, .int .i64 j] w fun e w' => e = .returned (.int .i64 (Tr.dom (dC c.ss) (kC c.ss) i j)) /\ Below w.heap.size w w' := by
 have := Tr.domain_yes sV (sp.map toT) i j w h.rdT (by rw [List.length_map]; exact hi) (by rw [List.length_map]; exact hj) (by rw [dp_toT h, kp_toT h, List.length_map, h.sLen]; exact hT)
 rwa [dp_toT h, kp_toT h] at this
theorem past_par {c : CH} (hT : treeP c) {i : Nat} (hi : i < c.ss.length) (h6 : kC c.ss i = 6) : ∃ p : Nat, Tr.par (dC c.ss) i = (p : Int) /\ p < i := by
 rcases hT.nst.nearest hi with ⟨_, h0⟩ | ⟨p, h1, h2, _, _⟩
 ·have := (hT.fine i hi).region h0;omega
 ·exact ⟨p, h1, h2⟩
theorem kC_sp {w : World} {c : CH} {eV vV sV tV : Value} {sp : List SP} {tp : List TP} (h : ChM w c eV vV sV tV sp tp) {k : Nat} (hk : k < sp.length) : kC c.ss k = (sp[k]).1.kd := by
 rw [kC_at (by rw [<- h.sLen]; exact hk)];simp [<- h.ssE]
theorem iniC_sp {w : World} {c : CH} {eV vV sV tV : Value} {sp : List SP} {tp : List TP} (h : ChM w c eV vV sV tV sp tp) {k : Nat} (hk : k < sp.length) : iniC c.ss k = (sp[k]).1.ini := by
 rw [iniC_at (by rw [<- h.sLen]; exact hk)];simp [<- h.ssE]
theorem box_ch {w : World} {c : CH} {eV vV sV tV : Value} {sp : List SP} {tp : List TP} (h : ChM w c eV vV sV tV sp tp) : ∃ (M : ByteArray) (A1 A2 A3 A4 : Option Addr) (k1 k2 k3 k4 : Nat) (w1 : World), bstr c.nm = .string M /\ eV = .slice A1 c.es.length k1 /\ vV = .slice A2 c.vs.length k2 /\ sV = .slice A3 sp.length k3 /\ tV = .slice A4 tp.length k4 /\
 w1 = w.alloc (.cells #[.string M, .slice A1 c.es.length k1, .slice A2 c.vs.length k2, .slice A3 sp.length k3, .slice A4 tp.length k4] 27) /\ Below w.heap.size w w1 /\ w1.heap.size = w.heap.size + 1 /\
 w1.cell? ⟨w.heap.size, 0, none⟩ = some (.string M) /\ w1.cell? ⟨w.heap.size, 1, none⟩ = some (.slice A1 c.es.length k1) /\ w1.cell? ⟨w.heap.size, 2, none⟩ = some (.slice A2 c.vs.length k2) /\ w1.cell? ⟨w.heap.size, 3, none⟩ = some (.slice A3 sp.length k3) /\ w1.cell? ⟨w.heap.size, 4, none⟩ = some (.slice A4 tp.length k4) := by
 obtain ⟨M, hM, _⟩ := bstr_some c.nm;obtain ⟨⟨A1, k1, e1⟩, ⟨A2, k2, e2⟩, ⟨A3, k3, e3⟩, ⟨A4, k4, e4⟩⟩ := h.forms;obtain ⟨w1, hw, hb, hz, c0, c1, c2, c3, c4⟩ := box_c w (.string M) (.slice A1 c.es.length k1) (.slice A2 c.vs.length k2) (.slice A3 sp.length k3) (.slice A4 tp.length k4);exact ⟨M, A1, A2, A3, A4, k1, k2, k3, k4, w1, hM, e1, e2, e3, e4, hw, hb, hz, c0, c1, c2, c3, c4⟩
set_option maxHeartbeats 4000000 in
theorem mayBegin_any {w : World} {c : CH} {eV vV sV tV : Value} {sp : List SP} {tp : List TP} (h : ChM w c eV vV sV tV sp tp) (hT : treeP c) (i : Nat) (hi : i < sp.length) (hki : kC c.ss i = 2 \/ kC c.ss i = 5 \/ kC c.ss i = 6) (k : Int) (hkr : k = -1 \/ ∃ m : Nat, k = m /\ m < sp.length) :
 Calls Tryz.prog 170 #[chA c eV vV sV tV, .int .i64 i, .int .i64 k] w fun e w' => e = .returned (.bool (decide (beginP c.ss i k))) /\ Below w.heap.size w w' := by
 obtain ⟨M, A1, A2, A3, A4, k1, k2, k3, k4, w1, hM, rfl, rfl, rfl, rfl, hw1, hb1, hz1, d0, d1, d2, d3, d4⟩ := box_ch h;have hl40 := hT.le;rw [<- h.sLen] at hl40;have hkC := kC_sp h hi;unfold chA;rw [hM];have HW := Lib.hid hw1; have HB := Lib.hid hb1;clear hM hw1;rcases hkr with rfl | ⟨m, rfl, hm⟩
 ·have hf : decide (beginP c.ss i (-1)) = false := decide_eq_false fun h => h.1 rfl
  rw [hf];clear h hb1 hf hki hkC hT;generalize c.es.length = n1 at *; generalize c.vs.length = n2 at *; generalize sp.length = n3 at *; generalize tp.length = n4 at *
  go_enter Tryz.func170, Tryz.ntmps170
  go_upto_region 1 with fail
  rw [<- HW.out];go_wp2;go_ret;exact ⟨rfl, HB.out⟩
 ·obtain ⟨b, o, X, Y, E4, m4, q4, E5, m5, q5, hA, -, -, -, -, -, -, -, e0, e1, e2, e3, e4, e5⟩ := st_at (h.below hb1).ss rfl (h.below hb1).sd hm;obtain ⟨b', o', _, _, _, _, _, _, _, _, hA', -, -, -, -, -, -, -, -, f1, -, -, -, -⟩ := st_at (h.below hb1).ss rfl (h.below hb1).sd hi;have hAA := hA.symm.trans hA';injection hAA with hAA
  injection hAA with hbb hoo
  subst hbb; subst hoo;subst hA;have hkm := kC_sp h hm;rw [<- hkC] at f1;rw [<- hkm] at e1;have hbp : beginP c.ss i (m : Int) ↔ (¬ Tr.pastP (kC c.ss m) /\ ((kC c.ss i = 2 /\ Tr.par (dC c.ss) m = (i : Int)) \/ (kC c.ss i = 5 /\ Tr.par (dC c.ss) m = Tr.par (dC c.ss) i) \/ (kC c.ss i = 6 /\ Tr.wi (dC c.ss) (Tr.par (dC c.ss) i).toNat m))) := by
   unfold beginP;simp only [Int.toNat_natCast];exact ⟨fun h => h.2, fun h => ⟨by omega, h⟩⟩
  have hbe : decide (beginP c.ss i (m : Int)) = decide (¬ Tr.pastP (kC c.ss m) /\ ((kC c.ss i = 2 /\ Tr.par (dC c.ss) m = (i : Int)) \/ (kC c.ss i = 5 /\ Tr.par (dC c.ss) m = Tr.par (dC c.ss) i) \/ (kC c.ss i = 6 /\ Tr.wi (dC c.ss) (Tr.par (dC c.ss) i).toNat m))) := decide_eq_decide.2 hbp;have HBE := Lib.hid hbe;have HPM : Hid (∀ W, Below w.heap.size w W -> Calls Tryz.prog 62 #[.slice (some ⟨b, o, none⟩) sp.length k3, .int .i64 m] W fun e w' => e = .returned (.int .i64 (Tr.par (dC c.ss) m)) /\ Below W.heap.size W w') := fun W hW => cParent (h.below hW) hT hm
  have HPI : Hid (∀ W, Below w.heap.size w W -> Calls Tryz.prog 62 #[.slice (some ⟨b, o, none⟩) sp.length k3, .int .i64 i] W fun e w' => e = .returned (.int .i64 (Tr.par (dC c.ss) i)) /\ Below W.heap.size W w') := fun W hW => cParent (h.below hW) hT hi
  have HWN : Hid (∀ p : Nat, Tr.par (dC c.ss) i = (p : Int) -> p < i -> ∀ W, Below w.heap.size w W -> Calls Tryz.prog 208 #[.slice (some ⟨b, o, none⟩) sp.length k3, .int .i64 (Tr.par (dC c.ss) i), .int .i64 m] W fun e w' => e = .returned (.bool (decide (Tr.wi (dC c.ss) (Tr.par (dC c.ss) i).toNat m))) /\ Below W.heap.size W w') := fun p hp hpi W hW => by
   rw [hp, Int.toNat_natCast]; exact cWithin (h.below hW) hT (by omega) hm
  have HPP : Hid (kC c.ss i = 6 -> ∃ p : Nat, Tr.par (dC c.ss) i = (p : Int) /\ p < i) := fun h6 => past_par hT (by rw [<- h.sLen]; exact hi) h6
  have HHI := Lib.hid (fun W => vHistory_any (.string X) (.string Y) (.slice E4 m4 q4) (.slice E5 m5 q5) (kC c.ss m) (sp[m]).1.dp W ⟨_, rfl⟩ ⟨_, rfl⟩ ⟨_, _, _, rfl⟩ ⟨_, _, _, rfl⟩);clear h hb1 hbp hbe hT hkC hkm hA';generalize (sp[m]).1.dp = dd at *
  generalize c.es.length = n1 at *; generalize c.vs.length = n2 at *; generalize sp.length = n3 at *; generalize tp.length = n4 at *
  obtain ⟨km, hkm⟩ : ∃ x, kC c.ss m = x := ⟨_, rfl⟩
  obtain ⟨PK, hPK⟩ : ∃ x, Tr.par (dC c.ss) m = x := ⟨_, rfl⟩
  obtain ⟨PI, hPI⟩ : ∃ x, Tr.par (dC c.ss) i = x := ⟨_, rfl⟩
  rw [hkm] at HBE HHI e1;rw [hPK] at HBE HPM;rw [hPI] at HBE HPI HPP HWN;have HPK := Lib.hid HPM.out;clear hkm hPK hPI HPM;by_cases hp : Tr.pastP km
  ·have hf : decide (beginP c.ss i (m : Int)) = false := by rw [HBE.out]; exact decide_eq_false fun h => h.1 hp
   have HF := Lib.hid hf; have HPT := Lib.hid (decide_eq_true hp);clear hf hp hki
   go_enter Tryz.func170, Tryz.ntmps170
   go_upto_region 1 with fail
   rw [<- HW.out]
   go_wp2_with fail
   refine (HHI.out _).mono ?_;rintro e w2 ⟨rfl, hb2⟩;rw [HPT.out];have HB2 := Lib.hid (HB.out.trans (hb2.mono HB.out.size)); clear hb2;go_wp2;go_ret;exact ⟨ret_bool HF.out.symm, HB2.out⟩
  ·have HPT := Lib.hid (decide_eq_false hp);rcases hki with h2 | h2 | h2
   ·have hv : decide (beginP c.ss i (m : Int)) = (PK == (i : Int)) := by
     rw [HBE.out, Bool.eq_iff_iff, decide_eq_true_iff, beq_iff_eq];exact ⟨fun h => by rcases h.2 with ⟨_, h⟩ | ⟨h, _⟩ | ⟨h, _⟩; exact h; omega; omega, fun h => ⟨hp, Or.inl ⟨h2, h⟩⟩⟩
    have HV := Lib.hid hv;rw [h2] at f1;clear hv hp h2
    go_enter Tryz.func170, Tryz.ntmps170
    go_upto_region 1 with fail
    rw [<- HW.out]
    go_wp2_with fail
    refine (HHI.out _).mono ?_;rintro e w2 ⟨rfl, hb2⟩;rw [HPT.out];have HB2 := Lib.hid (HB.out.trans (hb2.mono HB.out.size));replace d3 := (hb2.cell (cell_lt d3)).trans d3;replace f1 := (hb2.cell (cell_lt f1)).trans f1;clear hb2 d0 d1 d2 d4 e0 e1 e2 e3 e4 e5
    go_wp2_with fail
    refine (HPK.out _ HB2.out).mono ?_;rintro e w3 ⟨rfl, hb3⟩;have HB3 := Lib.hid (HB2.out.trans (hb3.mono HB2.out.size)); clear hb3;go_wp2;go_ret;exact ⟨ret_bool HV.out.symm, HB3.out⟩
   ·have hv : decide (beginP c.ss i (m : Int)) = (PK == PI) := by
     rw [HBE.out, Bool.eq_iff_iff, decide_eq_true_iff, beq_iff_eq];exact ⟨fun h => by rcases h.2 with ⟨h, _⟩ | ⟨_, h⟩ | ⟨h, _⟩; omega; exact h; omega, fun h => ⟨hp, Or.inr (Or.inl ⟨h2, h⟩)⟩⟩
    have HV := Lib.hid hv;rw [h2] at f1;clear hv hp h2
    go_enter Tryz.func170, Tryz.ntmps170
    go_upto_region 1 with fail
    rw [<- HW.out]
    go_wp2_with fail
    refine (HHI.out _).mono ?_;rintro e w2 ⟨rfl, hb2⟩;rw [HPT.out];have HB2 := Lib.hid (HB.out.trans (hb2.mono HB.out.size));replace d3 := (hb2.cell (cell_lt d3)).trans d3;replace f1 := (hb2.cell (cell_lt f1)).trans f1;clear hb2 d0 d1 d2 d4 e0 e1 e2 e3 e4 e5;have HBW : Hid (∀ w1, Below w2.heap.size w2.drew w1 -> Below w.heap.size w w1) := fun w1 hb => HB2.out.trans (((Below.refl _ _).drew.trans hb).mono HB2.out.size)
    go_wp2_with fail
    refine Oy.region_quiet 50 [Oy.eqD (.pointer (some ⟨w.heap.size, 3, none⟩)), Oy.eqD (.slice (some ⟨b, o, none⟩) n3 k3), Oy.eqD (.int .i64 m), Oy.eqD (.int .i64 PK), Oy.eqD (.pointer (some ⟨w.heap.size, 3, none⟩)), Oy.eqD (.slice (some ⟨b, o, none⟩) n3 k3), Oy.eqD (.int .i64 i), Oy.eqD (.int .i64 PI), Oy.eqD (.bool (PK == PI)), Oy.eqD (.bool (PK == PI))] [[], [], [], [], [], [], [], [], [], []] (by kernel_rfl) rfl (by kernel_rfl) (by kernel_rfl) ⟨Oy.keeps_eq _, Oy.keeps_eq _, Oy.keeps_eq _, Oy.keeps_eq _, Oy.keeps_eq _, Oy.keeps_eq _, Oy.keeps_eq _, Oy.keeps_eq _, Oy.keeps_eq _, Oy.keeps_eq _, trivial⟩ ?_;refine Oy.walk_q ?_ fun x33 => ?_
    ·intro w1 hb hd K hK;clear hd;go_simp;exact hK _ _ (Below.refl _ _) rfl
    refine Oy.walk_q ?_ fun x34 => ?_
    ·intro w1 hb hd K hK;obtain rfl : _ = x33 := Eq.symm (hd 0 (by kernel_rfl));clear hd;have c_d3 := (hb.cell (cell_lt d3)).trans d3;go_simp;exact hK _ _ (Below.refl _ _) rfl
    refine Oy.walk_q ?_ fun x35 => ?_
    ·intro w1 hb hd K hK;clear hd;go_simp;exact hK _ _ (Below.refl _ _) rfl
    refine Oy.walk_q ?_ fun x36 => ?_
    ·intro w1 hb hd K hK;obtain rfl : _ = x34 := Eq.symm (hd 1 (by kernel_rfl));obtain rfl : _ = x35 := Eq.symm (hd 2 (by kernel_rfl));clear hd;go_simp;refine (HPK.out w1 (HBW.out w1 hb)).mono ?_;rintro e w5 ⟨rfl, hb5⟩;go_simp;exact hK _ _ hb5 rfl
    refine Oy.walk_q ?_ fun x37 => ?_
    ·intro w1 hb hd K hK;clear hd;go_simp;exact hK _ _ (Below.refl _ _) rfl
    refine Oy.walk_q ?_ fun x38 => ?_
    ·intro w1 hb hd K hK;obtain rfl : _ = x37 := Eq.symm (hd 4 (by kernel_rfl));clear hd;have c_d3 := (hb.cell (cell_lt d3)).trans d3;go_simp;exact hK _ _ (Below.refl _ _) rfl
    refine Oy.walk_q ?_ fun x39 => ?_
    ·intro w1 hb hd K hK;clear hd;go_simp;exact hK _ _ (Below.refl _ _) rfl
    refine Oy.walk_q ?_ fun x40 => ?_
    ·intro w1 hb hd K hK;obtain rfl : _ = x38 := Eq.symm (hd 5 (by kernel_rfl));obtain rfl : _ = x39 := Eq.symm (hd 6 (by kernel_rfl));clear hd;go_simp;refine (HPI.out w1 (HBW.out w1 hb)).mono ?_;rintro e w5 ⟨rfl, hb5⟩;go_simp;exact hK _ _ hb5 rfl
    refine Oy.walk_q ?_ fun x41 => ?_
    ·intro w1 hb hd K hK;obtain rfl : _ = x36 := Eq.symm (hd 3 (by kernel_rfl));obtain rfl : _ = x40 := Eq.symm (hd 7 (by kernel_rfl));clear hd;go_simp;exact hK _ _ (Below.refl _ _) rfl
    refine Oy.walk_q ?_ fun x6 => ?_
    ·intro w1 hb hd K hK;obtain rfl : _ = x41 := Eq.symm (hd 8 (by kernel_rfl));clear hd;go_simp;exact hK _ _ (Below.refl _ _) rfl
    refine Oy.walk_nil rfl (fun w1 hb hd => ?_);obtain rfl : _ = x33 := Eq.symm (hd 0 (by kernel_rfl));obtain rfl : _ = x34 := Eq.symm (hd 1 (by kernel_rfl));obtain rfl : _ = x35 := Eq.symm (hd 2 (by kernel_rfl));obtain rfl : _ = x36 := Eq.symm (hd 3 (by kernel_rfl));obtain rfl : _ = x37 := Eq.symm (hd 4 (by kernel_rfl));obtain rfl : _ = x38 := Eq.symm (hd 5 (by kernel_rfl));obtain rfl : _ = x39 := Eq.symm (hd 6 (by kernel_rfl));obtain rfl : _ = x40 := Eq.symm (hd 7 (by kernel_rfl));obtain rfl : _ = x41 := Eq.symm (hd 8 (by kernel_rfl));obtain rfl : _ = x6 := Eq.symm (hd 9 (by kernel_rfl));clear hd;have HBZ := Lib.hid (HBW.out w1 hb);clear hb;go_simp;go_wp2;go_ret;exact ⟨ret_bool HV.out.symm, HBZ.out⟩
   ·obtain ⟨p, hpp, hpi⟩ := HPP.out h2;obtain ⟨WB, hWB⟩ : ∃ x, decide (Tr.wi (dC c.ss) PI.toNat m) = x := ⟨_, rfl⟩
    have HWI := Lib.hid (HWN.out p hpp hpi);rw [hWB] at HWI;have hv : decide (beginP c.ss i (m : Int)) = WB := by
     rw [HBE.out, <- hWB, decide_eq_decide];exact ⟨fun h => by rcases h.2 with ⟨h, _⟩ | ⟨h, _⟩ | ⟨_, h⟩; omega; omega; exact h, fun h => ⟨hp, Or.inr (Or.inr ⟨h2, h⟩)⟩⟩
    have HV := Lib.hid hv;rw [h2] at f1;clear hv hp h2 hpp hpi hWB
    go_enter Tryz.func170, Tryz.ntmps170
    go_upto_region 1 with fail
    rw [<- HW.out]
    go_wp2_with fail
    refine (HHI.out _).mono ?_;rintro e w2 ⟨rfl, hb2⟩;rw [HPT.out];have HB2 := Lib.hid (HB.out.trans (hb2.mono HB.out.size));replace d3 := (hb2.cell (cell_lt d3)).trans d3;replace f1 := (hb2.cell (cell_lt f1)).trans f1;clear hb2 d0 d1 d2 d4 e0 e1 e2 e3 e4 e5;have HBW : Hid (∀ w1, Below w2.heap.size w2.drew w1 -> Below w.heap.size w w1) := fun w1 hb => HB2.out.trans (((Below.refl _ _).drew.trans hb).mono HB2.out.size)
    go_wp2_with fail
    refine Oy.region_quiet 50 [Oy.eqD (.pointer (some ⟨w.heap.size, 3, none⟩)), Oy.eqD (.slice (some ⟨b, o, none⟩) n3 k3), Oy.eqD (.pointer (some ⟨w.heap.size, 3, none⟩)), Oy.eqD (.slice (some ⟨b, o, none⟩) n3 k3), Oy.eqD (.int .i64 i), Oy.eqD (.int .i64 PI), Oy.eqD (.int .i64 m), Oy.eqD (.bool WB), Oy.eqD (.bool WB)] [[], [], [], [], [], [], [], [], []] (by kernel_rfl) rfl (by kernel_rfl) (by kernel_rfl) ⟨Oy.keeps_eq _, Oy.keeps_eq _, Oy.keeps_eq _, Oy.keeps_eq _, Oy.keeps_eq _, Oy.keeps_eq _, Oy.keeps_eq _, Oy.keeps_eq _, Oy.keeps_eq _, trivial⟩ ?_;refine Oy.walk_q ?_ fun x42 => ?_
    ·intro w1 hb hd K hK;clear hd;go_simp;exact hK _ _ (Below.refl _ _) rfl
    refine Oy.walk_q ?_ fun x43 => ?_
    ·intro w1 hb hd K hK;obtain rfl : _ = x42 := Eq.symm (hd 0 (by kernel_rfl));clear hd;have c_d3 := (hb.cell (cell_lt d3)).trans d3;go_simp;exact hK _ _ (Below.refl _ _) rfl
    refine Oy.walk_q ?_ fun x44 => ?_
    ·intro w1 hb hd K hK;clear hd;go_simp;exact hK _ _ (Below.refl _ _) rfl
    refine Oy.walk_q ?_ fun x45 => ?_
    ·intro w1 hb hd K hK;obtain rfl : _ = x44 := Eq.symm (hd 2 (by kernel_rfl));clear hd;have c_d3 := (hb.cell (cell_lt d3)).trans d3;go_simp;exact hK _ _ (Below.refl _ _) rfl
    refine Oy.walk_q ?_ fun x46 => ?_
    ·intro w1 hb hd K hK;clear hd;go_simp;exact hK _ _ (Below.refl _ _) rfl
    refine Oy.walk_q ?_ fun x47 => ?_
    ·intro w1 hb hd K hK;obtain rfl : _ = x45 := Eq.symm (hd 3 (by kernel_rfl));obtain rfl : _ = x46 := Eq.symm (hd 4 (by kernel_rfl));clear hd;go_simp;refine (HPI.out w1 (HBW.out w1 hb)).mono ?_;rintro e w5 ⟨rfl, hb5⟩;go_simp;exact hK _ _ hb5 rfl
    refine Oy.walk_q ?_ fun x48 => ?_
    ·intro w1 hb hd K hK;clear hd;go_simp;exact hK _ _ (Below.refl _ _) rfl
    refine Oy.walk_q ?_ fun x49 => ?_
    ·intro w1 hb hd K hK;obtain rfl : _ = x43 := Eq.symm (hd 1 (by kernel_rfl));obtain rfl : _ = x47 := Eq.symm (hd 5 (by kernel_rfl));obtain rfl : _ = x48 := Eq.symm (hd 6 (by kernel_rfl));clear hd;go_simp;refine (HWI.out w1 (HBW.out w1 hb)).mono ?_;rintro e w5 ⟨rfl, hb5⟩;go_simp;exact hK _ _ hb5 rfl
    refine Oy.walk_q ?_ fun x6 => ?_
    ·intro w1 hb hd K hK;obtain rfl : _ = x49 := Eq.symm (hd 7 (by kernel_rfl));clear hd;go_simp;exact hK _ _ (Below.refl _ _) rfl
    refine Oy.walk_nil rfl (fun w1 hb hd => ?_);obtain rfl : _ = x42 := Eq.symm (hd 0 (by kernel_rfl));obtain rfl : _ = x43 := Eq.symm (hd 1 (by kernel_rfl));obtain rfl : _ = x44 := Eq.symm (hd 2 (by kernel_rfl));obtain rfl : _ = x45 := Eq.symm (hd 3 (by kernel_rfl));obtain rfl : _ = x46 := Eq.symm (hd 4 (by kernel_rfl));obtain rfl : _ = x47 := Eq.symm (hd 5 (by kernel_rfl));obtain rfl : _ = x48 := Eq.symm (hd 6 (by kernel_rfl));obtain rfl : _ = x49 := Eq.symm (hd 7 (by kernel_rfl));obtain rfl : _ = x6 := Eq.symm (hd 8 (by kernel_rfl));clear hd;have HBZ := Lib.hid (HBW.out w1 hb);clear hb;go_simp;go_wp2;go_ret;exact ⟨ret_bool HV.out.symm, HBZ.out⟩
theorem unl_any (b : Bool) (e : Int) (w : World) : Calls Tryz.prog 121 #[.bool b, .int .i64 e] w fun x w' => x = .returned (.int .i64 (unE b e)) /\ Below w.heap.size w w' := (unless_any b e w).mono fun _ _ ⟨h1, h2⟩ => ⟨h1, h2 ▸ Below.refl _ _⟩
theorem beq_nil (Y : ByteArray) : Y.toList.isEmpty = decide (Y.data.toList = []) := by
 rw [Lib.toList_data];cases Y.data.toList <;> simp
set_option maxHeartbeats 4000000 in
theorem initial_any {w : World} {c : CH} {eV vV sV tV : Value} {sp : List SP} {tp : List TP} (h : ChM w c eV vV sV tV sp tp) (hT : treeP c) (i : Nat) (hi : i < sp.length) :
 Calls Tryz.prog 132 #[chA c eV vV sV tV, .int .i64 i] w fun e w' => e = .returned (.int .i64 (initE c.ss i)) /\ Below w.heap.size w w' := by
 have hl40 := hT.le;rw [<- h.sLen] at hl40;have hkC := kC_sp h hi;have hiC := iniC_sp h hi;obtain ⟨M, A1, A2, A3, A4, k1, k2, k3, k4, w1, hM, rfl, rfl, rfl, rfl, hw1, hb1, hz1, c0, c1, c2, c3, c4⟩ := box_ch h;unfold chA at *
 obtain ⟨b, o, X, Y, E4, m4, q4, E5, m5, q5, rfl, -, -, hY, -, -, -, -, e0, e1, e2, e3, e4, e5⟩ := st_at (h.below hb1).ss rfl (h.below hb1).sd hi;rw [<- hkC] at e1;have hie : initE c.ss i = if kC c.ss i ≠ 2 /\ ¬ Tr.pastP (kC c.ss i) then (if Y.data.toList = [] then 0 else 1) else if beginP c.ss i (placeC c.ss Y.data.toList) then 0 else 2 := by unfold initE; rw [hiC, <- hY]
 have HIE := Lib.hid hie;have HHI := Lib.hid (fun W => vHistory_any (.string X) (.string Y) (.slice E4 m4 q4) (.slice E5 m5 q5) (kC c.ss i) (sp[i]).1.dp W ⟨_, rfl⟩ ⟨_, rfl⟩ ⟨_, _, _, rfl⟩ ⟨_, _, _, rfl⟩);have hPL : ∀ W, Below w.heap.size w W -> Calls Tryz.prog 51 #[.agg #[bstr c.nm, .slice A1 c.es.length k1, .slice A2 c.vs.length k2, .slice (some ⟨b, o, none⟩) sp.length k3, .slice A4 tp.length k4], .string Y] W fun e w' => e = .returned (.int .i64 (placeC c.ss Y.data.toList)) /\ Below W.heap.size W w' := fun W hW => place_any (h.below hW) (by omega) Y
 have hPR : placeC c.ss Y.data.toList = -1 \/ ∃ m : Nat, placeC c.ss Y.data.toList = m /\ m < sp.length := by
  rcases ix_range (isS Y.data.toList) c.ss with h1 | ⟨h1, h2⟩
  ·exact Or.inl h1
  ·exact Or.inr ⟨(placeC c.ss Y.data.toList).toNat, by unfold placeC; omega, by rw [h.sLen]; unfold placeC; omega⟩
 have hMB : (kC c.ss i = 2 \/ Tr.pastP (kC c.ss i)) -> ∀ W, Below w.heap.size w W -> Calls Tryz.prog 170 #[.agg #[bstr c.nm, .slice A1 c.es.length k1, .slice A2 c.vs.length k2, .slice (some ⟨b, o, none⟩) sp.length k3, .slice A4 tp.length k4], .int .i64 i, .int .i64 (placeC c.ss Y.data.toList)] W fun e w' => e = .returned (.bool (decide (beginP c.ss i (placeC c.ss Y.data.toList)))) /\ Below W.heap.size W w' := fun hk W hW => mayBegin_any (h.below hW) hT i hi (by rcases hk with h | h | h; exact Or.inl h; exact Or.inr (Or.inl h); exact Or.inr (Or.inr h)) _ hPR
 rw [hM] at hPL hMB ⊢;have HPL := Lib.hid hPL; have HMK := Lib.hid hMB;have HW := Lib.hid hw1; have HB := Lib.hid hb1;clear hM hw1 h hkC hiC hie hPL hPR hMB hT hY;obtain ⟨w2, hw2⟩ : ∃ W, W = w1.alloc (.cells #[.string X, .int .i64 (kC c.ss i), .int .i64 (sp[i]).1.dp, .string Y, .slice E4 m4 q4, .slice E5 m5 q5] 50) := ⟨_, rfl⟩
 have hb2 : Below w1.heap.size w1 w2 := hw2 ▸ (Below.refl _ _).alloc (Nat.le_refl _) _;obtain ⟨g0, g1, g2, g3, g4, g5⟩ : w2.cell? ⟨w.heap.size + 1, 0, none⟩ = some (.string X) /\ w2.cell? ⟨w.heap.size + 1, 1, none⟩ = some (.int .i64 (kC c.ss i)) /\ w2.cell? ⟨w.heap.size + 1, 2, none⟩ = some (.int .i64 (sp[i]).1.dp) /\ w2.cell? ⟨w.heap.size + 1, 3, none⟩ = some (.string Y) /\ w2.cell? ⟨w.heap.size + 1, 4, none⟩ = some (.slice E4 m4 q4) /\ w2.cell? ⟨w.heap.size + 1, 5, none⟩ = some (.slice E5 m5 q5) := by rw [hw2, <- hz1]; simp
 have HT3 : Hid (∀ W, Below w2.heap.size w2 W -> W.cell? ⟨w.heap.size, 0, none⟩ = some (.string M) /\ W.cell? ⟨w.heap.size, 1, none⟩ = some (.slice A1 c.es.length k1) /\ W.cell? ⟨w.heap.size, 2, none⟩ = some (.slice A2 c.vs.length k2) /\ W.cell? ⟨w.heap.size, 3, none⟩ = some (.slice (some ⟨b, o, none⟩) sp.length k3) /\ W.cell? ⟨w.heap.size, 4, none⟩ = some (.slice A4 tp.length k4) /\ W.cell? ⟨w.heap.size + 1, 3, none⟩ = some (.string Y)) := fun W hW => by
  have hc := fun {j : Nat} {v : Value} (hv : w1.cell? ⟨w.heap.size, j, none⟩ = some v) => (hW.cell (cell_lt ((hb2.cell (cell_lt hv)).trans hv))).trans ((hb2.cell (cell_lt hv)).trans hv)
  exact ⟨hc c0, hc c1, hc c2, hc c3, hc c4, (hW.cell (cell_lt g3)).trans g3⟩
 have HX := Lib.hid hw2; have HB2 := Lib.hid (HB.out.trans (hb2.mono HB.out.size));clear hw2 hb1 hb2;generalize (sp[i]).1.dp = dd at *
 generalize c.es.length = n1 at *; generalize c.vs.length = n2 at *; generalize sp.length = n3 at *; generalize tp.length = n4 at *
 obtain ⟨PL, hPL⟩ : ∃ x, placeC c.ss Y.data.toList = x := ⟨_, rfl⟩
 obtain ⟨ki, hki⟩ : ∃ x, kC c.ss i = x := ⟨_, rfl⟩
 obtain ⟨MB, hMB⟩ : ∃ x, decide (beginP c.ss i PL) = x := ⟨_, rfl⟩
 rw [hPL] at HIE HPL HMK;rw [hki] at HIE HHI HMK e1 g1 HX;rw [hMB] at HMK;have hub : (if beginP c.ss i PL then (0 : Int) else 2) = unE MB 2 := by
  rw [<- hMB]; unfold unE;by_cases hb : beginP c.ss i PL
  ·rw [if_pos hb, decide_eq_true hb, if_pos rfl]
  ·rw [if_neg hb, decide_eq_false hb]; rfl
 have HUB := Lib.hid hub;clear hPL hki hMB hub;by_cases h2 : ki = 2
 ·subst h2;have hv : initE c.ss i = unE MB 2 := by rw [HIE.out, if_neg (fun h => h.1 rfl), HUB.out]
  have HV := Lib.hid hv; have HMB := Lib.hid (HMK.out (Or.inl rfl));clear hv
  go_enter Tryz.func132, Tryz.ntmps132
  go_upto_region 1 with fail
  rw [<- HW.out]
  go_wp2_with fail
  rw [<- HX.out];obtain ⟨w3, hw3⟩ : ∃ W, W = w2 := ⟨_, rfl⟩
  obtain ⟨d0, d1, d2, d3, d4, g3⟩ := HT3.out w2 (Below.refl _ _);have HB3 : Hid (Below w.heap.size w w3) := hw3 ▸ HB2.out;rw [<- hw3] at d0 d1 d2 d3 d4 g3 ⊢;have HW3 := Lib.hid hw3;clear hw3 g0 g2 g4 g5 c0 c1 c2 c3 c4;have HBW : Hid (∀ w1, Below w3.heap.size w3.drew w1 -> Below w.heap.size w w1) := fun w1 hb => HB3.out.trans (((Below.refl _ _).drew.trans hb).mono HB3.out.size)
  go_wp2_with fail
  refine Oy.region_quiet 31 [Oy.eqD (.agg #[.string M, .slice A1 n1 k1, .slice A2 n2 k2, .slice (some ⟨b, o, none⟩) n3 k3, .slice A4 n4 k4]), Oy.eqD (.int .i64 i), Oy.eqD (.agg #[.string M, .slice A1 n1 k1, .slice A2 n2 k2, .slice (some ⟨b, o, none⟩) n3 k3, .slice A4 n4 k4]), Oy.eqD (.pointer (some ⟨w.heap.size + 1, 3, none⟩)), Oy.eqD (.string Y), Oy.eqD (.int .i64 PL), Oy.eqD (.bool MB), Oy.eqD (.int .i64 (unE MB 2)), Oy.eqD (.int .i64 (unE MB 2))] [[], [], [], [], [], [], [], [], []] (by kernel_rfl) rfl (by kernel_rfl) (by kernel_rfl) ⟨Oy.keeps_eq _, Oy.keeps_eq _, Oy.keeps_eq _, Oy.keeps_eq _, Oy.keeps_eq _, Oy.keeps_eq _, Oy.keeps_eq _, Oy.keeps_eq _, Oy.keeps_eq _, trivial⟩ ?_;refine Oy.walk_q ?_ fun x23 => ?_
  ·intro w1 hb hd K hK;clear hd;have c_d0 := (hb.cell (cell_lt d0)).trans d0;have c_d1 := (hb.cell (cell_lt d1)).trans d1;have c_d2 := (hb.cell (cell_lt d2)).trans d2;have c_d3 := (hb.cell (cell_lt d3)).trans d3;have c_d4 := (hb.cell (cell_lt d4)).trans d4;go_simp;exact hK _ _ (Below.refl _ _) rfl
  refine Oy.walk_q ?_ fun x24 => ?_
  ·intro w1 hb hd K hK;clear hd;go_simp;exact hK _ _ (Below.refl _ _) rfl
  refine Oy.walk_q ?_ fun x25 => ?_
  ·intro w1 hb hd K hK;clear hd;have c_d0 := (hb.cell (cell_lt d0)).trans d0;have c_d1 := (hb.cell (cell_lt d1)).trans d1;have c_d2 := (hb.cell (cell_lt d2)).trans d2;have c_d3 := (hb.cell (cell_lt d3)).trans d3;have c_d4 := (hb.cell (cell_lt d4)).trans d4;go_simp;exact hK _ _ (Below.refl _ _) rfl
  refine Oy.walk_q ?_ fun x26 => ?_
  ·intro w1 hb hd K hK;clear hd;go_simp;exact hK _ _ (Below.refl _ _) rfl
  refine Oy.walk_q ?_ fun x27 => ?_
  ·intro w1 hb hd K hK;obtain rfl : _ = x26 := Eq.symm (hd 3 (by kernel_rfl));clear hd;have c_g3 := (hb.cell (cell_lt g3)).trans g3;go_simp;exact hK _ _ (Below.refl _ _) rfl
  refine Oy.walk_q ?_ fun x28 => ?_
  ·intro w1 hb hd K hK;obtain rfl : _ = x25 := Eq.symm (hd 2 (by kernel_rfl));obtain rfl : _ = x27 := Eq.symm (hd 4 (by kernel_rfl));clear hd;go_simp;refine (HPL.out w1 (HBW.out w1 hb)).mono ?_;rintro e w5 ⟨rfl, hb5⟩;go_simp;exact hK _ _ hb5 rfl
  refine Oy.walk_q ?_ fun x29 => ?_
  ·intro w1 hb hd K hK;obtain rfl : _ = x23 := Eq.symm (hd 0 (by kernel_rfl));obtain rfl : _ = x24 := Eq.symm (hd 1 (by kernel_rfl));obtain rfl : _ = x28 := Eq.symm (hd 5 (by kernel_rfl));clear hd;go_simp;refine (HMB.out w1 (HBW.out w1 hb)).mono ?_;rintro e w5 ⟨rfl, hb5⟩;go_simp;exact hK _ _ hb5 rfl
  refine Oy.walk_q ?_ fun x30 => ?_
  ·intro w1 hb hd K hK;obtain rfl : _ = x29 := Eq.symm (hd 6 (by kernel_rfl));clear hd;go_simp;refine (unl_any MB 2 w1).mono ?_;rintro e w5 ⟨rfl, hb5⟩;go_simp;exact hK _ _ hb5 rfl
  refine Oy.walk_q ?_ fun x4 => ?_
  ·intro w1 hb hd K hK;obtain rfl : _ = x30 := Eq.symm (hd 7 (by kernel_rfl));clear hd;go_simp;exact hK _ _ (Below.refl _ _) rfl
  refine Oy.walk_nil rfl (fun w1 hb hd => ?_);obtain rfl : _ = x23 := Eq.symm (hd 0 (by kernel_rfl));obtain rfl : _ = x24 := Eq.symm (hd 1 (by kernel_rfl));obtain rfl : _ = x25 := Eq.symm (hd 2 (by kernel_rfl));obtain rfl : _ = x26 := Eq.symm (hd 3 (by kernel_rfl));obtain rfl : _ = x27 := Eq.symm (hd 4 (by kernel_rfl));obtain rfl : _ = x28 := Eq.symm (hd 5 (by kernel_rfl));obtain rfl : _ = x29 := Eq.symm (hd 6 (by kernel_rfl));obtain rfl : _ = x30 := Eq.symm (hd 7 (by kernel_rfl));obtain rfl : _ = x4 := Eq.symm (hd 8 (by kernel_rfl));clear hd;have HBZ := Lib.hid (HBW.out w1 hb);clear hb;go_simp;go_wp2;go_ret;exact ⟨ret_int HV.out.symm, HBZ.out⟩
 ·have q2 : (ki != 2) = true := bne_iff_ne.2 h2;by_cases hp : Tr.pastP ki
  ·have hv : initE c.ss i = unE MB 2 := by rw [HIE.out, if_neg (fun h => h.2 hp), HUB.out]
   have HV := Lib.hid hv; have HMB := Lib.hid (HMK.out (Or.inr hp)); have HPT := Lib.hid (decide_eq_true hp);clear hv hp h2
   go_enter Tryz.func132, Tryz.ntmps132
   go_upto_region 1 with fail
   rw [<- HW.out]
   go_wp2_with fail
   rw [<- HX.out]
   go_wp2_with fail
   refine (HHI.out _).mono ?_;rintro e w3 ⟨rfl, hb3⟩;rw [HPT.out];obtain ⟨d0, d1, d2, d3, d4, g3⟩ := HT3.out w3 hb3;have HB3 := Lib.hid (HB2.out.trans (hb3.mono HB2.out.size));clear hb3 g0 g1 g2 g4 g5 c0 c1 c2 c3 c4;have HBW : Hid (∀ w1, Below w3.heap.size w3.drew w1 -> Below w.heap.size w w1) := fun w1 hb => HB3.out.trans (((Below.refl _ _).drew.trans hb).mono HB3.out.size)
   go_wp2_with fail
   refine Oy.region_quiet 31 [Oy.eqD (.agg #[.string M, .slice A1 n1 k1, .slice A2 n2 k2, .slice (some ⟨b, o, none⟩) n3 k3, .slice A4 n4 k4]), Oy.eqD (.int .i64 i), Oy.eqD (.agg #[.string M, .slice A1 n1 k1, .slice A2 n2 k2, .slice (some ⟨b, o, none⟩) n3 k3, .slice A4 n4 k4]), Oy.eqD (.pointer (some ⟨w.heap.size + 1, 3, none⟩)), Oy.eqD (.string Y), Oy.eqD (.int .i64 PL), Oy.eqD (.bool MB), Oy.eqD (.int .i64 (unE MB 2)), Oy.eqD (.int .i64 (unE MB 2))] [[], [], [], [], [], [], [], [], []] (by kernel_rfl) rfl (by kernel_rfl) (by kernel_rfl) ⟨Oy.keeps_eq _, Oy.keeps_eq _, Oy.keeps_eq _, Oy.keeps_eq _, Oy.keeps_eq _, Oy.keeps_eq _, Oy.keeps_eq _, Oy.keeps_eq _, Oy.keeps_eq _, trivial⟩ ?_;refine Oy.walk_q ?_ fun x23 => ?_
   ·intro w1 hb hd K hK;clear hd;have c_d0 := (hb.cell (cell_lt d0)).trans d0;have c_d1 := (hb.cell (cell_lt d1)).trans d1;have c_d2 := (hb.cell (cell_lt d2)).trans d2;have c_d3 := (hb.cell (cell_lt d3)).trans d3;have c_d4 := (hb.cell (cell_lt d4)).trans d4;go_simp;exact hK _ _ (Below.refl _ _) rfl
   refine Oy.walk_q ?_ fun x24 => ?_
   ·intro w1 hb hd K hK;clear hd;go_simp;exact hK _ _ (Below.refl _ _) rfl
   refine Oy.walk_q ?_ fun x25 => ?_
   ·intro w1 hb hd K hK;clear hd;have c_d0 := (hb.cell (cell_lt d0)).trans d0;have c_d1 := (hb.cell (cell_lt d1)).trans d1;have c_d2 := (hb.cell (cell_lt d2)).trans d2;have c_d3 := (hb.cell (cell_lt d3)).trans d3;have c_d4 := (hb.cell (cell_lt d4)).trans d4;go_simp;exact hK _ _ (Below.refl _ _) rfl
   refine Oy.walk_q ?_ fun x26 => ?_
   ·intro w1 hb hd K hK;clear hd;go_simp;exact hK _ _ (Below.refl _ _) rfl
   refine Oy.walk_q ?_ fun x27 => ?_
   ·intro w1 hb hd K hK;obtain rfl : _ = x26 := Eq.symm (hd 3 (by kernel_rfl));clear hd;have c_g3 := (hb.cell (cell_lt g3)).trans g3;go_simp;exact hK _ _ (Below.refl _ _) rfl
   refine Oy.walk_q ?_ fun x28 => ?_
   ·intro w1 hb hd K hK;obtain rfl : _ = x25 := Eq.symm (hd 2 (by kernel_rfl));obtain rfl : _ = x27 := Eq.symm (hd 4 (by kernel_rfl));clear hd;go_simp;refine (HPL.out w1 (HBW.out w1 hb)).mono ?_;rintro e w5 ⟨rfl, hb5⟩;go_simp;exact hK _ _ hb5 rfl
   refine Oy.walk_q ?_ fun x29 => ?_
   ·intro w1 hb hd K hK;obtain rfl : _ = x23 := Eq.symm (hd 0 (by kernel_rfl));obtain rfl : _ = x24 := Eq.symm (hd 1 (by kernel_rfl));obtain rfl : _ = x28 := Eq.symm (hd 5 (by kernel_rfl));clear hd;go_simp;refine (HMB.out w1 (HBW.out w1 hb)).mono ?_;rintro e w5 ⟨rfl, hb5⟩;go_simp;exact hK _ _ hb5 rfl
   refine Oy.walk_q ?_ fun x30 => ?_
   ·intro w1 hb hd K hK;obtain rfl : _ = x29 := Eq.symm (hd 6 (by kernel_rfl));clear hd;go_simp;refine (unl_any MB 2 w1).mono ?_;rintro e w5 ⟨rfl, hb5⟩;go_simp;exact hK _ _ hb5 rfl
   refine Oy.walk_q ?_ fun x4 => ?_
   ·intro w1 hb hd K hK;obtain rfl : _ = x30 := Eq.symm (hd 7 (by kernel_rfl));clear hd;go_simp;exact hK _ _ (Below.refl _ _) rfl
   refine Oy.walk_nil rfl (fun w1 hb hd => ?_);obtain rfl : _ = x23 := Eq.symm (hd 0 (by kernel_rfl));obtain rfl : _ = x24 := Eq.symm (hd 1 (by kernel_rfl));obtain rfl : _ = x25 := Eq.symm (hd 2 (by kernel_rfl));obtain rfl : _ = x26 := Eq.symm (hd 3 (by kernel_rfl));obtain rfl : _ = x27 := Eq.symm (hd 4 (by kernel_rfl));obtain rfl : _ = x28 := Eq.symm (hd 5 (by kernel_rfl));obtain rfl : _ = x29 := Eq.symm (hd 6 (by kernel_rfl));obtain rfl : _ = x30 := Eq.symm (hd 7 (by kernel_rfl));obtain rfl : _ = x4 := Eq.symm (hd 8 (by kernel_rfl));clear hd;have HBZ := Lib.hid (HBW.out w1 hb);clear hb;go_simp;go_wp2;go_ret;exact ⟨ret_int HV.out.symm, HBZ.out⟩
  ·have hv : initE c.ss i = unE (decide (Y.data.toList = [])) 1 := by
    rw [HIE.out, if_pos ⟨h2, hp⟩];unfold unE;by_cases hy : Y.data.toList = []
    ·rw [if_pos hy, decide_eq_true hy, if_pos rfl]
    ·rw [if_neg hy, decide_eq_false hy]; rfl
   rw [<- beq_nil] at hv;have HV := Lib.hid hv; have HPT := Lib.hid (decide_eq_false hp);clear hv hp h2
   go_enter Tryz.func132, Tryz.ntmps132
   go_upto_region 1 with fail
   rw [<- HW.out]
   go_wp2_with fail
   rw [<- HX.out]
   go_wp2_with fail
   refine (HHI.out _).mono ?_;rintro e w3 ⟨rfl, hb3⟩;rw [HPT.out];obtain ⟨d0, d1, d2, d3, d4, g3⟩ := HT3.out w3 hb3;have HB3 := Lib.hid (HB2.out.trans (hb3.mono HB2.out.size));clear hb3 g0 g1 g2 g4 g5 c0 c1 c2 c3 c4
   go_wp2_with fail
   refine (unl_any _ 1 _).mono ?_;rintro e w4 ⟨rfl, hb4⟩;have HB4 := Lib.hid (HB3.out.trans (hb4.mono HB3.out.size)); clear hb4;go_wp2;go_ret;exact ⟨ret_int (by rw [HV.out]), HB4.out⟩
end Go.Proofs.YtcnfcililiehlaaGreatDoor.Ch.Vd
