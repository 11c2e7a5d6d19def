/- Own texts, joined: Pd, Pe, A9. -/
import Derived.Test.YtcnfcililiehlaaGreatDoorR8
import Derived.Test.YtcnfcililiehlaaGreatDoorR11
import Derived.Test.YtcnfcililiehlaaGreatDoorR13
import Derived.Test.YtcnfcililiehlaaGreatDoorR14
import Derived.Test.YtcnfcililiehlaaGreatDoorR19
import Derived.Test.YtcnfcililiehlaaGreatDoorR22
import Derived.Laws.StructEq
import Derived.Deep.QuietTactic
import Derived.BigQuiet
import Derived.Deep.Draws
namespace Go.Proofs.YtcnfcililiehlaaGreatDoor.Ch.Vd
open Go.RowKit
set_option maxRecDepth 100000
theorem begin_iff {ss : List SC} {i m : Nat} {km : Int} (hkm : kC ss m = km) : beginP ss i (m : Int) ↔ ¬ Tr.pastP km /\ ((kC ss i = 2 /\ Tr.par (dC ss) m = (i : Int)) \/ (kC ss i = 5 /\ Tr.par (dC ss) m = Tr.par (dC ss) i) \/ (kC ss i = 6 /\ Tr.wi (dC ss) (Tr.par (dC ss) i).toNat m)) := by
 unfold beginP;rw [Int.toNat_natCast, hkm];constructor
 ·exact fun h => h.2
 ·exact fun h => ⟨by omega, h⟩
set_option maxHeartbeats 16000000 in
theorem refInitial_any (hPa : ∀ (k : Int) (w : World), Calls Tryz.prog 36 #[.int .i64 k] w fun e w' => e = .returned (.bool (decide (Tr.pastP k))) /\ w = w') {w : World} {c : CH} {eV vV sV tV : Value} {sp : List SP} {tp : List TP} (h : ChM w c eV vV sV tV sp tp) (hPr : ∀ W, Below w.heap.size w W -> ∀ j, j < sp.length -> Calls Tryz.prog 37 #[sV, .int .i64 j] W fun e w' => e = .returned (.int .i64 (Tr.par (dC c.ss) j)) /\ Below W.heap.size W w')
 (hWi : ∀ W, Below w.heap.size w W -> ∀ p k : Nat, p < sp.length -> k < sp.length -> Calls Tryz.prog 25 #[sV, .int .i64 p, .int .i64 k] W fun e w' => e = .returned (.bool (decide (Tr.wi (dC c.ss) p k))) /\ Below W.heap.size W w') (hT : treeP c) (i : Nat) (hi : i < sp.length) :
 Calls Tryz.prog 58 #[chA c eV vV sV tV, .int .i64 i] w fun e w' => e = .returned (.int .i64 (initE c.ss i)) /\ Below w.heap.size w w' := by
 have hl40 := hT.le;rw [<- h.sLen] at hl40;have hkC := kC_sp h hi;have hiC := iniC_sp h hi;obtain ⟨M, A1, A2, A3, A4, k1, k2, k3, k4, w1, hM, rfl, rfl, rfl, rfl, hw1, hb1, hz1, c0, c1, c2, c3, c4⟩ := box_ch h;unfold chA at *
 obtain ⟨b, o, X, Y, E4, m4, q4, E5, m5, q5, rfl, -, -, hY, -, -, -, -, e0, e1, e2, e3, e4, e5⟩ := st_at (h.below hb1).ss rfl (h.below hb1).sd hi;rw [<- hkC] at e1;have hie : initE c.ss i = if kC c.ss i ≠ 2 /\ ¬ Tr.pastP (kC c.ss i) then (if Y.data.toList = [] then 0 else 1) else if beginP c.ss i (placeC c.ss Y.data.toList) then 0 else 2 := by unfold initE; rw [hiC, <- hY]
 have HIE := Lib.hid hie;have hPL : ∀ W, Below w.heap.size w W -> Calls Tryz.prog 92 #[.agg #[bstr c.nm, .slice A1 c.es.length k1, .slice A2 c.vs.length k2, .slice (some ⟨b, o, none⟩) sp.length k3, .slice A4 tp.length k4], .string Y] W fun e w' => e = .returned (.int .i64 (placeC c.ss Y.data.toList)) /\ Below W.heap.size W w' := fun W hW => refPlace_any (h.below hW) (by omega) Y
 have hPR : placeC c.ss Y.data.toList = -1 \/ ∃ m : Nat, placeC c.ss Y.data.toList = m /\ m < sp.length := by
  rcases ix_range (isS Y.data.toList) c.ss with h1 | ⟨h1, h2⟩
  ·exact Or.inl h1
  ·exact Or.inr ⟨(placeC c.ss Y.data.toList).toNat, by unfold placeC; omega, by rw [h.sLen]; unfold placeC; omega⟩
 have hKN : ∀ m : Nat, m < sp.length -> ∃ km, kC c.ss m = km /\ ∀ W, Below w.heap.size w W -> W.cell? ⟨b, o + m * 6 + 1, none⟩ = some (.int .i64 km) := fun m hm => by
  obtain ⟨b', o', _, _, _, _, _, _, _, _, hA, hlt, -, -, -, -, -, -, -, f1, -⟩ := st_at h.ss rfl h.sd hm;simp only [Option.some.injEq, Addr.mk.injEq, and_true] at hA;obtain ⟨rfl, rfl⟩ := hA;rw [<- kC_sp h hm] at f1;exact ⟨_, rfl, fun W hW => (hW.cell hlt).trans f1⟩
 have hP6 : kC c.ss i = 6 -> ∃ p : Nat, Tr.par (dC c.ss) i = (p : Int) /\ p < sp.length := fun h6 => by
  obtain ⟨p, h1, h2⟩ := past_par hT (by rw [<- h.sLen]; exact hi) h6;exact ⟨p, h1, by omega⟩
 rw [hM] at hPL ⊢;have HPL := Lib.hid hPL; have HKN := Lib.hid hKN; have HP6 := Lib.hid hP6; have HPA := Lib.hid hPa; have HPR := Lib.hid hPr; have HWI := Lib.hid hWi; have HRG := Lib.hid hPR;have HW := Lib.hid hw1; have HB := Lib.hid hb1;clear hM hw1 h hkC hiC hie hPL hPR hT hY hKN hP6 hPa hPr hWi;obtain ⟨w2, hw2⟩ : ∃ W, W = w1.alloc (.cells #[.string X, .int .i64 (kC c.ss i), .int .i64 (sp[i]).1.dp, .string Y, .slice E4 m4 q4, .slice E5 m5 q5] 50) := ⟨_, rfl⟩
 have hb2 : Below w1.heap.size w1 w2 := hw2 ▸ (Below.refl _ _).alloc (Nat.le_refl _) _;obtain ⟨g0, g1, g2, g3, g4, g5⟩ : w2.cell? ⟨w.heap.size + 1, 0, none⟩ = some (.string X) /\ w2.cell? ⟨w.heap.size + 1, 1, none⟩ = some (.int .i64 (kC c.ss i)) /\ w2.cell? ⟨w.heap.size + 1, 2, none⟩ = some (.int .i64 (sp[i]).1.dp) /\ w2.cell? ⟨w.heap.size + 1, 3, none⟩ = some (.string Y) /\ w2.cell? ⟨w.heap.size + 1, 4, none⟩ = some (.slice E4 m4 q4) /\ w2.cell? ⟨w.heap.size + 1, 5, none⟩ = some (.slice E5 m5 q5) := by rw [hw2, <- hz1]; simp
 have HT3 : Hid (∀ W, Below w2.heap.size w2 W -> W.cell? ⟨w.heap.size, 0, none⟩ = some (.string M) /\ W.cell? ⟨w.heap.size, 1, none⟩ = some (.slice A1 c.es.length k1) /\ W.cell? ⟨w.heap.size, 2, none⟩ = some (.slice A2 c.vs.length k2) /\ W.cell? ⟨w.heap.size, 3, none⟩ = some (.slice (some ⟨b, o, none⟩) sp.length k3) /\ W.cell? ⟨w.heap.size, 4, none⟩ = some (.slice A4 tp.length k4) /\ W.cell? ⟨w.heap.size + 1, 3, none⟩ = some (.string Y)) := fun W hW => by
  have hc := fun {j : Nat} {v : Value} (hv : w1.cell? ⟨w.heap.size, j, none⟩ = some v) => (hW.cell (cell_lt ((hb2.cell (cell_lt hv)).trans hv))).trans ((hb2.cell (cell_lt hv)).trans hv)
  exact ⟨hc c0, hc c1, hc c2, hc c3, hc c4, (hW.cell (cell_lt g3)).trans g3⟩
 have HX := Lib.hid hw2; have HB2 := Lib.hid (HB.out.trans (hb2.mono HB.out.size));clear hw2 hb1 hb2;generalize (sp[i]).1.dp = dd at *
 generalize c.es.length = n1 at *; generalize c.vs.length = n2 at *; generalize sp.length = n3 at *; generalize tp.length = n4 at *
 obtain ⟨PL, hPL⟩ : ∃ x, placeC c.ss Y.data.toList = x := ⟨_, rfl⟩
 obtain ⟨ki, hki⟩ : ∃ x, kC c.ss i = x := ⟨_, rfl⟩
 rw [hPL] at HIE HPL HRG;rw [hki] at HIE e1 g1 HX HP6;have HKI := Lib.hid hki;clear hPL hki;have HT4 : Hid (∀ W, Below w2.heap.size w2 W -> W.cell? ⟨w.heap.size + 1, 1, none⟩ = some (.int .i64 ki)) := fun W hW => (hW.cell (cell_lt g1)).trans g1
 by_cases hk2 : ki = 2
 ·subst hk2;have HIK : Hid (initE c.ss i = if beginP c.ss i PL then 0 else 2) := by show _ = _; rw [HIE.out, if_neg (fun h => h.1 rfl)]
  clear HIE
  go_enter Tryz.func58, Tryz.ntmps58
  go_upto_region 1 with fail
  rw [<- HW.out]
  go_upto_region 2 with fail
  rw [<- HX.out];clear c0 c1 c2 c3 c4 e0 e1 e2 e3 e4 e5;obtain ⟨d0, d1, d2, d3, d4, g3'⟩ := HT3.out w2 (Below.refl _ _);clear g0 g2 g4 g5 g3
  go_wp2_with fail
  refine (HPL.out _ HB2.out).mono ?_;rintro e w3 ⟨rfl, hb3⟩;have HB3 := Lib.hid hb3;have HC3 := Lib.hid (HB2.out.trans (hb3.mono HB2.out.size));clear hb3 d0 d1 d2 d3 d4 g3' g1;obtain ⟨d0, d1, d2, d3, d4, g3⟩ := HT3.out w3 HB3.out;have g1 := HT4.out w3 HB3.out;rcases HRG.out with rfl | ⟨m, rfl, hm⟩
  ·have HF : Hid (initE c.ss i = 2) := by show _ = _; rw [HIK.out, if_neg (fun h => h.1 rfl)]
   clear HIK HRG;go_wp2;go_ret;exact ⟨ret_int HF.out.symm, HC3.out⟩
  ·obtain ⟨km, hkm, hcm⟩ := HKN.out m hm;have k1m := hcm w3 HC3.out;have HKM := Lib.hid hkm;have hmn : (m : Int) < (n3 : Int) := by omega
   have HPM := Lib.hid (HPA.out km w3);clear hkm hcm HRG;by_cases hp : Tr.pastP km
   ·have HF : Hid (initE c.ss i = 2) := by show _ = _; rw [HIK.out, if_neg (fun h => ((begin_iff HKM.out).1 h).1 hp)]
    rw [decide_eq_true hp] at HPM;clear HIK hp
    go_wp2_with fail
    refine HPM.out.mono ?_;rintro e w4 ⟨rfl, rfl⟩;go_wp2;go_ret;exact ⟨ret_int HF.out.symm, HC3.out⟩
   have HNP := Lib.hid hp;rw [decide_eq_false hp] at HPM;clear hp
   go_wp2_with fail
   refine HPM.out.mono ?_;rintro e w4 ⟨rfl, rfl⟩;clear k1m
   go_wp2_with fail
   refine (HPR.out _ HC3.out i hi).mono ?_;rintro e w5 ⟨rfl, hb5⟩;have HB5 := Lib.hid (HB3.out.trans (hb5.mono HB3.out.size));have HC5 := Lib.hid (HC3.out.trans (hb5.mono HC3.out.size));clear hb5 d0 d1 d2 d3 d4 g3 g1;obtain ⟨d0, d1, d2, d3, d4, g3⟩ := HT3.out _ HB5.out
   go_wp2_with fail
   refine (HPR.out _ HC5.out m hm).mono ?_;rintro e w6 ⟨rfl, hb6⟩;have HB6 := Lib.hid (HB5.out.trans (hb6.mono HB5.out.size));have HC6 := Lib.hid (HC5.out.trans (hb6.mono HC5.out.size));clear hb6 d0 d1 d2 d3 d4 g3;obtain ⟨d0, d1, d2, d3, d4, g3⟩ := HT3.out _ HB6.out;have g1 := HT4.out _ HB6.out;by_cases hu : Tr.par (dC c.ss) m = (i : Int)
   ·have HF : Hid (initE c.ss i = 0) := by show _ = _; rw [HIK.out, if_pos ((begin_iff HKM.out).2 ⟨HNP.out, Or.inl ⟨HKI.out, hu⟩⟩)]
    rw [hu];clear HIK hu;go_wp2;go_ret;exact ⟨ret_int HF.out.symm, HC6.out⟩
   have HF : Hid (initE c.ss i = 2) := by
    show _ = _;rw [HIK.out, if_neg];intro h;rcases ((begin_iff HKM.out).1 h).2 with h | h | h
    ·exact hu h.2
    ·exact absurd (HKI.out.symm.trans h.1) (by decide)
    ·exact absurd (HKI.out.symm.trans h.1) (by decide)
   have hu1 := int_ne hu;clear HIK;generalize Tr.par (dC c.ss) m = U at *
   generalize Tr.par (dC c.ss) i = P at *
   go_wp2;go_ret;exact ⟨ret_int HF.out.symm, HC6.out⟩
 by_cases hk5 : ki = 5
 ·subst hk5;have HIK : Hid (initE c.ss i = if beginP c.ss i PL then 0 else 2) := by show _ = _; rw [HIE.out, if_neg (fun h => h.2 (Or.inl rfl))]
  clear HIE
  go_enter Tryz.func58, Tryz.ntmps58
  go_upto_region 1 with fail
  rw [<- HW.out]
  go_upto_region 2 with fail
  rw [<- HX.out];clear c0 c1 c2 c3 c4 e0 e1 e2 e3 e4 e5;obtain ⟨d0, d1, d2, d3, d4, g3'⟩ := HT3.out w2 (Below.refl _ _);clear g0 g2 g4 g5 g3
  go_wp2_with fail
  refine (HPL.out _ HB2.out).mono ?_;rintro e w3 ⟨rfl, hb3⟩;have HB3 := Lib.hid hb3;have HC3 := Lib.hid (HB2.out.trans (hb3.mono HB2.out.size));clear hb3 d0 d1 d2 d3 d4 g3' g1;obtain ⟨d0, d1, d2, d3, d4, g3⟩ := HT3.out w3 HB3.out;have g1 := HT4.out w3 HB3.out;rcases HRG.out with rfl | ⟨m, rfl, hm⟩
  ·have HF : Hid (initE c.ss i = 2) := by show _ = _; rw [HIK.out, if_neg (fun h => h.1 rfl)]
   clear HIK HRG;go_wp2;go_ret;exact ⟨ret_int HF.out.symm, HC3.out⟩
  ·obtain ⟨km, hkm, hcm⟩ := HKN.out m hm;have k1m := hcm w3 HC3.out;have HKM := Lib.hid hkm;have hmn : (m : Int) < (n3 : Int) := by omega
   have HPM := Lib.hid (HPA.out km w3);clear hkm hcm HRG;by_cases hp : Tr.pastP km
   ·have HF : Hid (initE c.ss i = 2) := by show _ = _; rw [HIK.out, if_neg (fun h => ((begin_iff HKM.out).1 h).1 hp)]
    rw [decide_eq_true hp] at HPM;clear HIK hp
    go_wp2_with fail
    refine HPM.out.mono ?_;rintro e w4 ⟨rfl, rfl⟩;go_wp2;go_ret;exact ⟨ret_int HF.out.symm, HC3.out⟩
   have HNP := Lib.hid hp;rw [decide_eq_false hp] at HPM;clear hp
   go_wp2_with fail
   refine HPM.out.mono ?_;rintro e w4 ⟨rfl, rfl⟩;clear k1m
   go_wp2_with fail
   refine (HPR.out _ HC3.out i hi).mono ?_;rintro e w5 ⟨rfl, hb5⟩;have HB5 := Lib.hid (HB3.out.trans (hb5.mono HB3.out.size));have HC5 := Lib.hid (HC3.out.trans (hb5.mono HC3.out.size));clear hb5 d0 d1 d2 d3 d4 g3 g1;obtain ⟨d0, d1, d2, d3, d4, g3⟩ := HT3.out _ HB5.out
   go_wp2_with fail
   refine (HPR.out _ HC5.out m hm).mono ?_;rintro e w6 ⟨rfl, hb6⟩;have HB6 := Lib.hid (HB5.out.trans (hb6.mono HB5.out.size));have HC6 := Lib.hid (HC5.out.trans (hb6.mono HC5.out.size));clear hb6 d0 d1 d2 d3 d4 g3;obtain ⟨d0, d1, d2, d3, d4, g3⟩ := HT3.out _ HB6.out;have g1 := HT4.out _ HB6.out;by_cases hu : Tr.par (dC c.ss) m = Tr.par (dC c.ss) i
   ·have HF : Hid (initE c.ss i = 0) := by show _ = _; rw [HIK.out, if_pos ((begin_iff HKM.out).2 ⟨HNP.out, Or.inr (Or.inl ⟨HKI.out, hu⟩)⟩)]
    rw [hu];clear HIK hu;go_wp2;go_ret;exact ⟨ret_int HF.out.symm, HC6.out⟩
   have HF : Hid (initE c.ss i = 2) := by
    show _ = _;rw [HIK.out, if_neg];intro h;rcases ((begin_iff HKM.out).1 h).2 with h | h | h
    ·exact absurd (HKI.out.symm.trans h.1) (by decide)
    ·exact hu h.2
    ·exact absurd (HKI.out.symm.trans h.1) (by decide)
   have hu1 := int_ne hu;clear HIK;generalize Tr.par (dC c.ss) m = U at *
   generalize Tr.par (dC c.ss) i = P at *
   go_wp2;go_ret;exact ⟨ret_int HF.out.symm, HC6.out⟩
 by_cases hk6 : ki = 6
 ·subst hk6;have HIK : Hid (initE c.ss i = if beginP c.ss i PL then 0 else 2) := by show _ = _; rw [HIE.out, if_neg (fun h => h.2 (Or.inr rfl))]
  clear HIE
  go_enter Tryz.func58, Tryz.ntmps58
  go_upto_region 1 with fail
  rw [<- HW.out]
  go_upto_region 2 with fail
  rw [<- HX.out];clear c0 c1 c2 c3 c4 e0 e1 e2 e3 e4 e5;obtain ⟨d0, d1, d2, d3, d4, g3'⟩ := HT3.out w2 (Below.refl _ _);clear g0 g2 g4 g5 g3
  go_wp2_with fail
  refine (HPL.out _ HB2.out).mono ?_;rintro e w3 ⟨rfl, hb3⟩;have HB3 := Lib.hid hb3;have HC3 := Lib.hid (HB2.out.trans (hb3.mono HB2.out.size));clear hb3 d0 d1 d2 d3 d4 g3' g1;obtain ⟨d0, d1, d2, d3, d4, g3⟩ := HT3.out w3 HB3.out;have g1 := HT4.out w3 HB3.out;rcases HRG.out with rfl | ⟨m, rfl, hm⟩
  ·have HF : Hid (initE c.ss i = 2) := by show _ = _; rw [HIK.out, if_neg (fun h => h.1 rfl)]
   clear HIK HRG;go_wp2;go_ret;exact ⟨ret_int HF.out.symm, HC3.out⟩
  ·obtain ⟨km, hkm, hcm⟩ := HKN.out m hm;have k1m := hcm w3 HC3.out;have HKM := Lib.hid hkm;have hmn : (m : Int) < (n3 : Int) := by omega
   have HPM := Lib.hid (HPA.out km w3);clear hkm hcm HRG;by_cases hp : Tr.pastP km
   ·have HF : Hid (initE c.ss i = 2) := by show _ = _; rw [HIK.out, if_neg (fun h => ((begin_iff HKM.out).1 h).1 hp)]
    rw [decide_eq_true hp] at HPM;clear HIK hp
    go_wp2_with fail
    refine HPM.out.mono ?_;rintro e w4 ⟨rfl, rfl⟩;go_wp2;go_ret;exact ⟨ret_int HF.out.symm, HC3.out⟩
   have HNP := Lib.hid hp;rw [decide_eq_false hp] at HPM;clear hp
   go_wp2_with fail
   refine HPM.out.mono ?_;rintro e w4 ⟨rfl, rfl⟩;clear k1m
   go_wp2_with fail
   refine (HPR.out _ HC3.out i hi).mono ?_;rintro e w5 ⟨rfl, hb5⟩;have HB5 := Lib.hid (HB3.out.trans (hb5.mono HB3.out.size));have HC5 := Lib.hid (HC3.out.trans (hb5.mono HC3.out.size));clear hb5 d0 d1 d2 d3 d4 g3 g1;obtain ⟨d0, d1, d2, d3, d4, g3⟩ := HT3.out _ HB5.out
   go_wp2_with fail
   refine (HPR.out _ HC5.out m hm).mono ?_;rintro e w6 ⟨rfl, hb6⟩;have HB6 := Lib.hid (HB5.out.trans (hb6.mono HB5.out.size));have HC6 := Lib.hid (HC5.out.trans (hb6.mono HC5.out.size));clear hb6 d0 d1 d2 d3 d4 g3;obtain ⟨d0, d1, d2, d3, d4, g3⟩ := HT3.out _ HB6.out;have g1 := HT4.out _ HB6.out;obtain ⟨p, hp1, hp2⟩ := HP6.out (by first | rfl | trivial);have HWM := Lib.hid (HWI.out _ HC6.out p m hp2 hm);have HBI : Hid (beginP c.ss i (m : Int) ↔ Tr.wi (dC c.ss) p m) := by
    show _ ↔ _;rw [begin_iff HKM.out, hp1, Int.toNat_natCast];constructor
    ·rintro ⟨_, h | h | h⟩
     ·exact absurd (HKI.out.symm.trans h.1) (by decide)
     ·exact absurd (HKI.out.symm.trans h.1) (by decide)
     ·exact h.2
    ·exact fun h => ⟨HNP.out, Or.inr (Or.inr ⟨HKI.out, h⟩)⟩
   rw [hp1];generalize Tr.par (dC c.ss) m = U at *
   by_cases hw : Tr.wi (dC c.ss) p m
   ·have HF : Hid (initE c.ss i = 0) := by show _ = _; rw [HIK.out, if_pos (HBI.out.2 hw)]
    rw [decide_eq_true hw] at HWM;clear HIK HBI hw hp1
    go_wp2_with fail
    refine HWM.out.mono ?_;rintro e w7 ⟨rfl, hb7⟩;have HC7 := Lib.hid (HC6.out.trans (hb7.mono HC6.out.size));clear hb7;go_wp2;go_ret;exact ⟨ret_int HF.out.symm, HC7.out⟩
   ·have HF : Hid (initE c.ss i = 2) := by show _ = _; rw [HIK.out, if_neg (fun h => hw (HBI.out.1 h))]
    rw [decide_eq_false hw] at HWM;clear HIK HBI hw hp1
    go_wp2_with fail
    refine HWM.out.mono ?_;rintro e w7 ⟨rfl, hb7⟩;have HC7 := Lib.hid (HC6.out.trans (hb7.mono HC6.out.size));clear hb7;go_wp2;go_ret;exact ⟨ret_int HF.out.symm, HC7.out⟩
 have HIK : Hid (initE c.ss i = if Y.data.toList = [] then 0 else 1) := by
  show _ = _;rw [HIE.out, if_pos ⟨hk2, fun h => by rcases h with h | h; exact hk5 h; exact hk6 h⟩]
 have r2 := int_ne hk2;have s2 : (ki != 2) = true := bne_iff_ne.2 hk2;have r5 := int_ne hk5;have s5 : (ki != 5) = true := bne_iff_ne.2 hk5;have r6 := int_ne hk6;have s6 : (ki != 6) = true := bne_iff_ne.2 hk6;clear HIE HP6;by_cases hy : Y.size = 0
 ·have HF : Hid (initE c.ss i = 0) := by show _ = _; rw [HIK.out, if_pos (List.eq_nil_of_length_eq_zero (by rw [<- Lib.size_eq]; exact hy))]
  have hy0 : ¬ (0 : Int) < (Y.size : Int) := by omega
  clear HIK hy
  go_enter Tryz.func58, Tryz.ntmps58
  go_upto_region 1 with fail
  rw [<- HW.out]
  go_upto_region 2 with fail
  rw [<- HX.out];clear c0 c1 c2 c3 c4 e0 e1 e2 e3 e4 e5;go_wp2;go_ret;exact ⟨ret_int HF.out.symm, HB2.out⟩
 ·have HF : Hid (initE c.ss i = 1) := by show _ = _; rw [HIK.out, if_neg (fun h => hy (by rw [Lib.size_eq, h]; rfl))]
  have hy0 : (0 : Int) < (Y.size : Int) := by omega
  clear HIK hy
  go_enter Tryz.func58, Tryz.ntmps58
  go_upto_region 1 with fail
  rw [<- HW.out]
  go_upto_region 2 with fail
  rw [<- HX.out];clear c0 c1 c2 c3 c4 e0 e1 e2 e3 e4 e5;go_wp2;go_ret;exact ⟨ret_int HF.out.symm, HB2.out⟩
end Go.Proofs.YtcnfcililiehlaaGreatDoor.Ch.Vd
namespace Go.Proofs.YtcnfcililiehlaaGreatDoor.Ch.Vd
open Go.RowKit
set_option maxRecDepth 100000
theorem quiet_z {P : Program} {f : FuncId} {args : Array Value} {w : World} {n : Nat} {v : Value} (h : Calls P f args (w.drewN n) fun e w' => e = .returned v /\ ∃ r, w' = (w.drewN n).drewN r) :
 Calls P f args (w.drewN n) fun e w'' => e = .returned v /\ ∃ m, w'' = w.drewN m := h.mono fun _ _ ⟨he, r, hr⟩ => ⟨he, n + r, by rw [hr, World.drewN_drewN]⟩
set_option maxHeartbeats 16000000 in
theorem refBlock_any {w : World} {c : CH} {eV vV sV tV : Value} {sp : List SP} {tp : List TP} (h : ChM w c eV vV sV tV sp tp) (hs : Sm c sp tp) (v : Value) (l : List AM) (hv : BlkR w v l) (hll : l.length <= 4611686018427387904)
 (hRi : ∀ W, Below w.heap.size w W -> Calls Tryz.prog 95 #[v] W fun e w' => e = .returned (.bool (rightA l)) /\ Below W.heap.size W w')
 (hHa : ∀ W, Below w.heap.size w W -> ∀ N : ByteArray, Calls Tryz.prog 96 #[eV, .string N] W fun e w' => e = .returned (.bool (decide (N.data.toList ∈ c.es))) /\ W = w')
 (hFi : ∀ W, Below w.heap.size w W -> ∀ N : ByteArray, Calls Tryz.prog 97 #[vV, .string N] W fun e w' => e = .returned (.int .i64 (ixP (isV N.data.toList) (vmL c) 0)) /\ W = w')
 (hOf : ∀ (u : Value) (cs : List CM), RdI w u cs -> cs.length * 32 <= 140737488355328 -> Names cs -> ∀ W, Below w.heap.size w W -> Calls Tryz.prog 98 #[u, vV, .slice none 0 0] W fun e w' => e = .returned (.tuple #[.int .i64 (kindP (vmL c) [] cs).1, .int .i64 (kindP (vmL c) [] cs).2]) /\ Below W.heap.size W w') :
 Calls Tryz.prog 60 #[chA c eV vV sV tV, v] w fun e w' => e = .returned (.int .i64 (blockE c l)) /\ Below w.heap.size w w' := by
 have HV := Lib.hid h.vs;have hvl := hs.vs;obtain ⟨M, A1, A2, A3, A4, k1, k2, k3, k4, w1, hM, rfl, rfl, rfl, rfl, hw1, hb1, hz1, d0, d1, d2, d3, d4⟩ := box_ch h;unfold chA;rw [hM];obtain ⟨ps, hps, hR, _⟩ := hv;obtain ⟨A, q, rfl⟩ := hR.form;have hln : ps.length = l.length := by rw [<- hps, List.length_map]
 have HPS := Lib.hid hps; have HR := Lib.hid hR;have HRI := Lib.hid hRi; have HHA := Lib.hid hHa; have HFI := Lib.hid hFi; have HOF := Lib.hid hOf;have HT : Hid (∀ W, Below w1.heap.size w1 W -> W.cell? ⟨w.heap.size, 0, none⟩ = some (.string M) /\ W.cell? ⟨w.heap.size, 1, none⟩ = some (.slice A1 c.es.length k1) /\ W.cell? ⟨w.heap.size, 2, none⟩ = some (.slice A2 c.vs.length k2) /\ W.cell? ⟨w.heap.size, 3, none⟩ = some (.slice A3 sp.length k3) /\ W.cell? ⟨w.heap.size, 4, none⟩ = some (.slice A4 tp.length k4)) := fun W hW =>
  ⟨(hW.cell (cell_lt d0)).trans d0, (hW.cell (cell_lt d1)).trans d1, (hW.cell (cell_lt d2)).trans d2, (hW.cell (cell_lt d3)).trans d3, (hW.cell (cell_lt d4)).trans d4⟩
 have HBE : Hid (blockE c l = if l = [] then 0 else if rightA l = false then 1 else firE (actAt c l) l.length) := rfl;have HW := Lib.hid hw1; have HB := Lib.hid hb1;have HVL : Hid (c.vs.length = c.vs.length) := rfl;clear h hs hM hps hR hRi hHa hFi hOf hw1 hb1 hz1 d0 d1 d2 d3 d4;obtain ⟨n2, hn2⟩ : ∃ n, c.vs.length = n := ⟨_, rfl⟩
 have HN2 := Lib.hid hn2;rw [hn2] at HFI HOF HT HW hvl HV;obtain ⟨n, hn⟩ : ∃ n, ps.length = n := ⟨_, rfl⟩
 have HN := Lib.hid hn;have HLN : Hid (l.length = n) := by show _ = _; rw [<- hln, hn]
 rw [hn] at HRI HR;rw [<- hln, hn] at hll;rw [hn2, hn];clear hn2 hn hln;generalize c.es.length = n1 at *; generalize sp.length = n3 at *; generalize tp.length = n4 at *
 by_cases h0 : n = 0
 ·subst h0;have HF : Hid (blockE c l = 0) := by show _ = _; rw [HBE.out, if_pos (List.eq_nil_of_length_eq_zero HLN.out)]
  go_enter Tryz.func60, Tryz.ntmps60
  go_upto_region 1 with fail
  rw [<- HW.out];obtain ⟨d0, d1, d2, d3, d4⟩ := HT.out w1 (Below.refl _ _);go_wp2
  go_loopw [5, 6, 7, 8] (fun x _ _ _ wr => x = .int .i64 0 /\ wr = w1) (fun _ _ _ _ _ => 0)
  case atStart => exact ⟨rfl, rfl⟩
  case round =>
   obtain ⟨rfl, rfl⟩ := hrel;go_wp2;go_ret;exact ⟨ret_int HF.out.symm, HB.out⟩
 ·have hnn : l ≠ [] := fun e => h0 (by rw [<- HLN.out, e]; rfl)
  have hn0 : (0 : Int) < (n : Int) := by omega
  obtain ⟨rr, hrr⟩ : ∃ b, rightA l = b := ⟨_, rfl⟩
  rw [hrr] at HRI HBE;have HBF : Hid (blockE c l = if rr = false then 1 else firE (actAt c l) l.length) := by show _ = _; rw [HBE.out, if_neg hnn]
  clear hrr HBE hnn
  go_enter Tryz.func60, Tryz.ntmps60
  go_upto_region 1 with fail
  rw [<- HW.out]
  go_wp2_with fail
  refine (HRI.out _ HB.out).mono ?_;rintro e w3 ⟨rfl, hb3⟩;have HB3 := Lib.hid hb3;have HC3 := Lib.hid (HB.out.trans (hb3.mono HB.out.size));clear hb3;cases rr with
  | false =>
   have HF : Hid (blockE c l = 1) := by show _ = _; rw [HBF.out, if_pos rfl]
   go_wp2;go_ret;exact ⟨ret_int HF.out.symm, HC3.out⟩
  | true =>
   have HFE : Hid (blockE c l = firF (actAt c l) n 0) := by show _ = _; rw [HBF.out, if_neg (by decide), HLN.out]; rfl
   clear HBF;go_wp2
   go_loopw [5, 6, 7, 8] (fun x _ _ _ wr => ∃ k : Nat, k <= n /\ x = .int .i64 k /\ Hid (firF (actAt c l) (n - k) k = firF (actAt c l) n 0) /\ Hid (Below w1.heap.size w1 wr)) (fun x _ _ _ _ => n - (intOf x).toNat)
   case atStart => exact ⟨0, by omega, rfl, rfl, HB3⟩
   case round =>
    obtain ⟨k, hk, rfl, HK, HBL⟩ := hrel;obtain ⟨wl, hwl⟩ : ∃ W, W = wr := ⟨_, rfl⟩
    subst hwl;have HCL := Lib.hid (HB.out.trans (HBL.out.mono HB.out.size));obtain ⟨d0, d1, d2, d3, d4⟩ := HT.out _ HBL.out;by_cases hkn : k < n
    ·have hkp : k < ps.length := by rw [HN.out]; exact hkn
     obtain ⟨b, o, rfl, hlt, e0', e1', e2', hA⟩ := HR.out.at_ hkp;have e0 := (HCL.out.cell hlt).trans e0'; have e1 := (HCL.out.cell hlt).trans e1'; have e2 := (HCL.out.cell hlt).trans e2';have hat : actAt c l k = actE c ps[k].1 := by
      unfold actAt;rw [<- HPS.out, List.getElem?_map, List.getElem?_eq_getElem hkp]; rfl
     have hst := firF_step (actAt c l) hkn;rw [HK.out, hat] at hst;obtain ⟨X, hX, hXl⟩ := bstr_some ps[k].1.nm;rw [hX] at e1;generalize ps[k] = a at *
     obtain ⟨⟨kd, nm, ex⟩, U⟩ := a;simp only at e0 e1 e2 hX hXl hat hst;have hex := hA.rd; have hel := hA.len; have hen := hA.names;simp only at hex hel hen;subst hXl;have HST := Lib.hid hst;have HOX := Lib.hid (HOF.out U ex hex hel hen);obtain ⟨AU, cU, rfl⟩ := hex.slice;clear e0' e1' e2' hA hat hst hX hlt hex hel hen hkp HK;have HBD : Hid (∀ q, Below w.heap.size w (wl.drewN q)) := fun q => below_drewN HCL.out q
     have HBLD : Hid (∀ q, Below w1.heap.size w1 (wl.drewN q)) := fun q => below_drewN HBL.out q
     have hkn0 : (k : Int) < (n : Int) := by omega
     by_cases h1 : kd = 1
     ·subst h1;have hac : actE c ⟨1, X.data.toList, ex⟩ = if ixP (isV X.data.toList) (vmL c) 0 = -1 then 2 else ofE (kdV (vmL c) (ixP (isV X.data.toList) (vmL c) 0)) c [] ex := by unfold actE; rw [if_neg (fun h => h rfl)]
      have hrg := ix_range (isV X.data.toList) (vmL c);obtain ⟨IX, hIX⟩ : ∃ x, ixP (isV X.data.toList) (vmL c) 0 = x := ⟨_, rfl⟩
      have HFX : Hid (∀ q, Calls Tryz.prog 97 #[.slice A2 n2 k2, .string X] (wl.drewN q) fun e w' => e = .returned (.int .i64 IX) /\ ∃ r, w' = (wl.drewN q).drewN r) := fun q => (HFI.out _ (HBD.out q) X).mono (by rintro e w' ⟨rfl, rfl⟩; exact ⟨by rw [hIX], 0, rfl⟩)
      rw [hIX] at hac hrg;have HAC := Lib.hid hac; have HRG := Lib.hid hrg;clear hac hrg hIX;go_wp2
      go_quiet ((go_at_call 97; exact quiet_z (HFX.out _)))
      obtain ⟨wz, hwz⟩ : ∃ W, W = wl.drewN nq := ⟨_, rfl⟩
      have HBZ : Hid (Below w1.heap.size w1 wz) := by rw [hwz]; exact HBLD.out nq
      have HCZ : Hid (Below w.heap.size w wz) := by rw [hwz]; exact HBD.out nq
      have e2z : wz.cell? ⟨b, o + k * 3 + 2, none⟩ = some (.slice AU ex.length cU) := by rw [hwz]; simpa using e2
      rw [<- hwz];clear hwz d0 d1 d2 d3 d4 e0 e1 e2 HFX;obtain ⟨d0, d1, d2, d3, d4⟩ := HT.out _ HBZ.out;rcases HRG.out with rfl | ⟨hx0, hx1⟩
      ·have HF : Hid (blockE c l = 2) := by show _ = _; rw [HFE.out, HST.out, HAC.out, if_pos rfl, if_pos (by decide)]
       clear HST HAC;go_wp2;go_ret;exact ⟨ret_int HF.out.symm, HCZ.out⟩
      obtain ⟨m, rfl⟩ := Int.eq_ofNat_of_zero_le hx0;have hml : m < c.vs.length := by
       have hv9 : (vmL c).length = c.vs.length := by unfold vmL; rw [List.length_map]
       omega
      have hac : actE c ⟨1, X.data.toList, ex⟩ = ofE (kdV (vmL c) m) c [] ex := by rw [HAC.out, if_neg (by omega)]
      obtain ⟨bv, ov, _, hA2, hbv, -, -, v1, -⟩ := va_at HV.out HN2.out hml;have hkv : kdV (vmL c) (m : Int) = c.vs[m].kd := by unfold kdV vmL; rw [Int.toNat_natCast, List.getElem?_map, List.getElem?_eq_getElem hml]; rfl
      obtain ⟨kv, hkv2⟩ : ∃ x, c.vs[m].kd = x := ⟨_, rfl⟩
      rw [hkv, hkv2] at hac;rw [hkv2] at v1;have hmn2 : m < n2 := by rw [<- HN2.out]; exact hml
      obtain ⟨KK, hKK⟩ : ∃ x, (kindP (vmL c) [] ex).1 = x := ⟨_, rfl⟩
      obtain ⟨EE, hEE⟩ : ∃ x, (kindP (vmL c) [] ex).2 = x := ⟨_, rfl⟩
      rw [hKK, hEE] at HOX;unfold ofE at hac;rw [hKK, hEE] at hac;have HAD := Lib.hid hac;have HBW : Hid (∀ w1, Below wz.heap.size wz.drew w1 -> Below w.heap.size w w1) := fun w1 hb => HCZ.out.trans (((Below.refl _ _).drew.trans hb).mono HCZ.out.size)
      have HBV : Hid (∀ W, Below wz.heap.size wz.drew W -> Below w1.heap.size w1 W) := fun W hb => HBZ.out.trans (((Below.refl _ _).drew.trans hb).mono HBZ.out.size)
      have HVV : Hid (∀ W, Below w.heap.size w W -> W.cell? ⟨bv, ov + m * 7 + 1, none⟩ = some (.int .i64 kv)) := fun W hW => (hW.cell hbv).trans v1
      subst hA2;have e2 := e2z;have hm0 : ¬ ((m : Nat) : Int) < 0 := by omega
      clear hac hbv hkv hkv2 hKK hEE HAC hx0 hx1 hml v1 e2z;go_wp2;refine Oy.region_quiet 70 [Oy.eqD (.slice (some ⟨b, o, none⟩) n q), Oy.eqD (.int .i64 k), Oy.eqD (.pointer (some ⟨b, o + k * 3, none⟩)), Oy.eqD (.pointer (some ⟨b, o + k * 3 + 2, none⟩)), Oy.eqD (.slice AU ex.length cU), Oy.eqD (.pointer (some ⟨w.heap.size, 2, none⟩)), Oy.eqD (.slice (some ⟨bv, ov, none⟩) n2 k2), Oy.eqD (.tuple #[.int .i64 KK, .int .i64 EE]), Oy.eqD (.tuple #[.int .i64 KK, .int .i64 EE]), Oy.eqD (.int .i64 KK), Oy.eqD (.int .i64 EE), Oy.eqD (.int .i64 KK), Oy.eqD (.int .i64 EE)] [[], [], [], [], [], [], [], [], [], [], [], [], []] (by kernel_rfl) rfl (by kernel_rfl) (by kernel_rfl) ⟨Oy.keeps_eq _, Oy.keeps_eq _, Oy.keeps_eq _, Oy.keeps_eq _, Oy.keeps_eq _, Oy.keeps_eq _, Oy.keeps_eq _, Oy.keeps_eq _, Oy.keeps_eq _, Oy.keeps_eq _, Oy.keeps_eq _, Oy.keeps_eq _, Oy.keeps_eq _, trivial⟩ ?_;refine Oy.walk_q ?_ fun x49 => ?_
      ·intro w1 hb hd K hK;clear hd;go_simp;exact hK _ _ (Below.refl _ _) rfl
      refine Oy.walk_q ?_ fun x50 => ?_
      ·intro w1 hb hd K hK;clear hd;go_simp;exact hK _ _ (Below.refl _ _) rfl
      refine Oy.walk_q ?_ fun x51 => ?_
      ·intro w1 hb hd K hK;obtain rfl : _ = x49 := Eq.symm (hd 0 (by kernel_rfl));obtain rfl : _ = x50 := Eq.symm (hd 1 (by kernel_rfl));clear hd;go_simp;exact hK _ _ (Below.refl _ _) rfl
      refine Oy.walk_q ?_ fun x52 => ?_
      ·intro w1 hb hd K hK;obtain rfl : _ = x51 := Eq.symm (hd 2 (by kernel_rfl));clear hd;go_simp;exact hK _ _ (Below.refl _ _) rfl
      refine Oy.walk_q ?_ fun x53 => ?_
      ·intro w1 hb hd K hK;obtain rfl : _ = x52 := Eq.symm (hd 3 (by kernel_rfl));clear hd;have c_e2 := (hb.cell (cell_lt e2)).trans e2;go_simp;exact hK _ _ (Below.refl _ _) rfl
      refine Oy.walk_q ?_ fun x54 => ?_
      ·intro w1 hb hd K hK;clear hd;go_simp;exact hK _ _ (Below.refl _ _) rfl
      refine Oy.walk_q ?_ fun x55 => ?_
      ·intro w1 hb hd K hK;obtain rfl : _ = x54 := Eq.symm (hd 5 (by kernel_rfl));clear hd;have c_d2 := (hb.cell (cell_lt d2)).trans d2;go_simp;exact hK _ _ (Below.refl _ _) rfl
      refine Oy.walk_q ?_ fun x56 => ?_
      ·intro w1 hb hd K hK;obtain rfl : _ = x53 := Eq.symm (hd 4 (by kernel_rfl));obtain rfl : _ = x55 := Eq.symm (hd 6 (by kernel_rfl));clear hd;go_simp;refine (HOX.out w1 (HBW.out w1 hb)).mono ?_;rintro e w5 ⟨rfl, hb5⟩;go_simp;exact hK _ _ hb5 rfl
      refine Oy.walk_q ?_ fun x48 => ?_
      ·intro w1 hb hd K hK;obtain rfl : _ = x56 := Eq.symm (hd 7 (by kernel_rfl));clear hd;go_simp;exact hK _ _ (Below.refl _ _) rfl
      refine Oy.walk_q ?_ fun x57 => ?_
      ·intro w1 hb hd K hK;obtain rfl : _ = x48 := Eq.symm (hd 8 (by kernel_rfl));clear hd;go_simp;exact hK _ _ (Below.refl _ _) rfl
      refine Oy.walk_q ?_ fun x58 => ?_
      ·intro w1 hb hd K hK;obtain rfl : _ = x48 := Eq.symm (hd 8 (by kernel_rfl));clear hd;go_simp;exact hK _ _ (Below.refl _ _) rfl
      refine Oy.walk_q ?_ fun x7 => ?_
      ·intro w1 hb hd K hK;obtain rfl : _ = x57 := Eq.symm (hd 9 (by kernel_rfl));clear hd;go_simp;exact hK _ _ (Below.refl _ _) rfl
      refine Oy.walk_q ?_ fun x8 => ?_
      ·intro w1 hb hd K hK;obtain rfl : _ = x58 := Eq.symm (hd 10 (by kernel_rfl));clear hd;go_simp;exact hK _ _ (Below.refl _ _) rfl
      refine Oy.walk_nil rfl (fun w1 hb hd => ?_);obtain rfl : _ = x49 := Eq.symm (hd 0 (by kernel_rfl));obtain rfl : _ = x50 := Eq.symm (hd 1 (by kernel_rfl));obtain rfl : _ = x51 := Eq.symm (hd 2 (by kernel_rfl));obtain rfl : _ = x52 := Eq.symm (hd 3 (by kernel_rfl));obtain rfl : _ = x53 := Eq.symm (hd 4 (by kernel_rfl));obtain rfl : _ = x54 := Eq.symm (hd 5 (by kernel_rfl));obtain rfl : _ = x55 := Eq.symm (hd 6 (by kernel_rfl));obtain rfl : _ = x56 := Eq.symm (hd 7 (by kernel_rfl));obtain rfl : _ = x48 := Eq.symm (hd 8 (by kernel_rfl));obtain rfl : _ = x57 := Eq.symm (hd 9 (by kernel_rfl));obtain rfl : _ = x58 := Eq.symm (hd 10 (by kernel_rfl));obtain rfl : _ = x7 := Eq.symm (hd 11 (by kernel_rfl));obtain rfl : _ = x8 := Eq.symm (hd 12 (by kernel_rfl));clear hd;have HB5 := Lib.hid (HBV.out w1 hb);have HC5 := Lib.hid (HBW.out w1 hb);clear hb d0 d1 d2 d3 d4 e2;obtain ⟨d0, d1, d2, d3, d4⟩ := HT.out _ HB5.out;have v1 := HVV.out _ HC5.out;have hmn3 : (m : Int) < (n2 : Int) := by omega
      go_simp;by_cases hE : EE = 0
      ·subst hE;by_cases hK9 : KK = kv
       ·subst hK9;have HN3 : Hid (firF (actAt c l) (n - (k + 1)) (k + 1) = firF (actAt c l) n 0) := by show _ = _; rw [HST.out, HAD.out.trans ((if_neg (fun h => h rfl)).trans (if_pos rfl)), if_neg (fun h => h rfl)]
        clear HST HAD;go_wp2
        go_roundw
        case rel => exact ⟨k + 1, by omega, by go_num, HN3, HB5⟩
        case measure => simp [intOf]; omega
       ·have HF : Hid (blockE c l = 8) := by show _ = _; rw [HFE.out, HST.out, HAD.out.trans ((if_neg (fun h => h rfl)).trans (if_neg hK9)), if_pos (by decide)]
        have q1 : (KK != kv) = true := bne_iff_ne.2 hK9;have q2 := int_ne hK9;clear HST HAD hK9;go_wp2;go_ret;exact ⟨ret_int HF.out.symm, HC5.out⟩
      have HF : Hid (blockE c l = EE) := by show _ = _; rw [HFE.out, HST.out, HAD.out.trans (if_pos hE), if_pos hE]
      have q1 : (EE != 0) = true := bne_iff_ne.2 hE;have q2 := int_ne hE;clear HST HAD hE;go_wp2;go_ret;exact ⟨ret_int HF.out.symm, HC5.out⟩
     ·have hac : actE c ⟨kd, X.data.toList, ex⟩ = if X.data.toList ∈ c.es then 0 else 2 := by unfold actE; rw [if_pos h1]
      have q1 := int_ne h1;have q2 : (kd != 1) = true := bne_iff_ne.2 h1;by_cases hm : X.data.toList ∈ c.es
      ·have HHX : Hid (∀ q, Calls Tryz.prog 96 #[.slice A1 n1 k1, .string X] (wl.drewN q) fun e w' => e = .returned (.bool true) /\ ∃ r, w' = (wl.drewN q).drewN r) := fun q => (HHA.out _ (HBD.out q) X).mono (by rintro e w' ⟨rfl, rfl⟩; exact ⟨by rw [decide_eq_true hm], 0, rfl⟩)
       have HN3 : Hid (firF (actAt c l) (n - (k + 1)) (k + 1) = firF (actAt c l) n 0) := by show _ = _; rw [HST.out, hac, if_pos hm, if_neg (fun h => h rfl)]
       clear HST hac hm;go_wp2
       go_quiet ((go_at_call 96; exact quiet_z (HHX.out _)))
       go_wp2
       go_roundw
       case rel => exact ⟨k + 1, by omega, by go_num, HN3, HBLD.out _⟩
       case measure => simp [intOf]; omega
      ·have HHX : Hid (∀ q, Calls Tryz.prog 96 #[.slice A1 n1 k1, .string X] (wl.drewN q) fun e w' => e = .returned (.bool false) /\ ∃ r, w' = (wl.drewN q).drewN r) := fun q => (HHA.out _ (HBD.out q) X).mono (by rintro e w' ⟨rfl, rfl⟩; exact ⟨by rw [decide_eq_false hm], 0, rfl⟩)
       have HF : Hid (blockE c l = 2) := by show _ = _; rw [HFE.out, HST.out, hac, if_neg hm, if_pos (by decide)]
       clear HST hac hm;go_wp2
       go_quiet ((go_at_call 96; exact quiet_z (HHX.out _)))
       go_wp2;go_ret;exact ⟨ret_int HF.out.symm, HBD.out _⟩
    ·have HF : Hid (blockE c l = 0) := by show _ = _; rw [HFE.out, <- HK.out, firF_end _ hkn]
     go_wp2;go_ret;exact ⟨ret_int HF.out.symm, HCL.out⟩
end Go.Proofs.YtcnfcililiehlaaGreatDoor.Ch.Vd
namespace Go.Proofs.YtcnfcililiehlaaGreatDoor
open Go.RowKit
set_option maxRecDepth 100000 in
set_option maxHeartbeats 2000000 in
theorem refFits_any (x : VM) (X : ByteArray) (y : VA) (w : World) :
 Calls Tryz.prog 94 #[.agg #[.string X, .int .i64 x.kd, .int .i64 x.lo, .int .i64 x.hi, .int .i64 x.ik, .int .i64 x.ia, .int .i64 x.ib], .agg #[.int .i64 y.kd, .int .i64 y.a, .int .i64 y.b]] w fun e w' => e = .returned (.bool (mayB x y)) /\ Below w.heap.size w w' := by
 obtain ⟨yk, ya, yb⟩ := y;obtain ⟨xnm, xkd, xlo, xhi, xik, xia, xib⟩ := x
 dsimp only
 have HB0 : Hid (∀ o1 o2 : Obj, Below w.heap.size w ((w.alloc o1).alloc o2)) := fun o1 o2 => ((Below.refl _ _).alloc (Nat.le_refl _) _).alloc (by simp) _
 by_cases h1 : yk = xkd
 ·obtain rfl : xkd = yk := h1.symm;by_cases h2 : xlo <= ya
  ·by_cases h2' : ya <= xhi
   ·by_cases h3 : xkd = 3
    ·by_cases h4 : xlo <= yb
     ·by_cases h5 : yb <= xhi
      ·have HL : Hid (mayB ⟨xnm, xkd, xlo, xhi, xik, xia, xib⟩ ⟨xkd, ya, yb⟩ = true) := by show mayB _ _ = _; simp [mayB, h2, h2', h4, h5]
       rw [HL.out];subst h3
       go_enter Tryz.func94, Tryz.ntmps94
       go_wp2;go_ret;exact ⟨rfl, HB0.out _ _⟩
      ·have HL : Hid (mayB ⟨xnm, xkd, xlo, xhi, xik, xia, xib⟩ ⟨xkd, ya, yb⟩ = false) := by show mayB _ _ = _; simp [mayB, h3, h5]
       rw [HL.out];subst h3
       go_enter Tryz.func94, Tryz.ntmps94
       go_wp2;go_ret;exact ⟨rfl, HB0.out _ _⟩
     ·have HL : Hid (mayB ⟨xnm, xkd, xlo, xhi, xik, xia, xib⟩ ⟨xkd, ya, yb⟩ = false) := by show mayB _ _ = _; simp [mayB, h3, h4]
      rw [HL.out];subst h3
      go_enter Tryz.func94, Tryz.ntmps94
      go_wp2;go_ret;exact ⟨rfl, HB0.out _ _⟩
    ·have HL : Hid (mayB ⟨xnm, xkd, xlo, xhi, xik, xia, xib⟩ ⟨xkd, ya, yb⟩ = true) := by show mayB _ _ = _; simp [mayB, h2, h2', h3]
     rw [HL.out];have h3' := int_ne h3;have h3'' : (xkd != 3) = true := bne_iff_ne.2 h3
     go_enter Tryz.func94, Tryz.ntmps94
     go_wp2;go_ret;exact ⟨rfl, HB0.out _ _⟩
   ·have HL : Hid (mayB ⟨xnm, xkd, xlo, xhi, xik, xia, xib⟩ ⟨xkd, ya, yb⟩ = false) := by show mayB _ _ = _; simp [mayB, h2']
    rw [HL.out]
    go_enter Tryz.func94, Tryz.ntmps94
    go_wp2;go_ret;exact ⟨rfl, HB0.out _ _⟩
  ·have HL : Hid (mayB ⟨xnm, xkd, xlo, xhi, xik, xia, xib⟩ ⟨xkd, ya, yb⟩ = false) := by show mayB _ _ = _; simp [mayB, h2]
   rw [HL.out]
   go_enter Tryz.func94, Tryz.ntmps94
   go_wp2;go_ret;exact ⟨rfl, HB0.out _ _⟩
 ·have h1' := int_ne h1;have h1'' := int_ne (fun h => h1 (Eq.symm h));have HL : Hid (mayB ⟨xnm, xkd, xlo, xhi, xik, xia, xib⟩ ⟨yk, ya, yb⟩ = false) := by show mayB _ _ = _; simp only [mayB, decide_eq_false h1]; simp
  rw [HL.out]
  go_enter Tryz.func94, Tryz.ntmps94
  go_wp2;go_ret;exact ⟨rfl, HB0.out _ _⟩
end Go.Proofs.YtcnfcililiehlaaGreatDoor
