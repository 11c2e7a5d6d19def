/- Own texts, joined: Pf. -/
import Derived.Test.YtcnfcililiehlaaGreatDoorR20
import Derived.Test.YtcnfcililiehlaaGreatDoorR26
import Derived.Deep.CutRange
namespace Go.Proofs.YtcnfcililiehlaaGreatDoor.Ch.Vd
open Go.RowKit
set_option maxRecDepth 100000
def evB (c : CH) (e : List UInt8) : Bool := decide (e = []) || (decide (e = wError) || decide (e ∈ c.es))
def doneB (c : CH) (e : List UInt8) (k : Nat) : Bool := (c.ss.take k).any fun s => decide (Tr.parentP s.kd) && decide (e = wDone ++ s.nm)
theorem done_step {c : CH} {e : List UInt8} {k : Nat} (hk : k < c.ss.length) : doneB c e (k + 1) = (doneB c e k || (decide (Tr.parentP c.ss[k].kd) && decide (e = wDone ++ c.ss[k].nm))) := by
 unfold doneB;rw [List.take_succ_eq_append_getElem hk, List.any_append];simp only [List.any_cons, List.any_nil, Bool.or_false]
theorem wait_ref {c : CH} {e : List UInt8} : (evB c e || doneB c e c.ss.length) = decide (waitP c e) := by
 rw [Bool.eq_iff_iff, decide_eq_true_iff];unfold evB doneB waitP;rw [List.take_length];simp only [Bool.or_eq_true, List.any_eq_true, Bool.and_eq_true, decide_eq_true_eq];constructor
 ·rintro ((h | h | h) | ⟨s, h1, h2, h3⟩)
  ·exact Or.inl h
  ·exact Or.inr (Or.inl h)
  ·exact Or.inr (Or.inr (Or.inl h))
  ·exact Or.inr (Or.inr (Or.inr ⟨s, h1, h2, h3⟩))
 ·rintro (h | h | h | ⟨s, h1, h2, h3⟩)
  ·exact Or.inl (Or.inl h)
  ·exact Or.inl (Or.inr (Or.inl h))
  ·exact Or.inl (Or.inr (Or.inr h))
  ·exact Or.inr ⟨s, h1, h2, h3⟩
def farB (c : CH) (n : Nat) (i : Nat) : Bool := decide (frC c.ts i < 0) || (decide ((n : Int) <= frC c.ts i) || (decide (0 < i) && decide (frC c.ts i < frC c.ts (i - 1))))
def noB (km : Int) : Bool := decide (km ≠ 1) && (decide (km ≠ 2) && decide (km ≠ 3))
theorem no_par (k : Int) : (decide (k = 1) || decide (Tr.parentP k)) = !noB k := by
 unfold noB;by_cases h1 : k = 1
 ·subst h1; rfl
 by_cases h2 : k = 2
 ·subst h2; rfl
 by_cases h3 : k = 3
 ·subst h3; rfl
 rw [decide_eq_false h1, decide_eq_true h1, decide_eq_true h2, decide_eq_true h3, decide_eq_false (show ¬ Tr.parentP k from fun h => h.elim h2 h3)]; rfl
theorem stand_eq {c : CH} {i : Nat} (hi : i < c.ts.length) : decide (standP c i) = (!farB c c.ss.length i && !noB (kC c.ss (frC c.ts i).toNat)) := by
 rw [<- stand_iff hi, <- no_par];unfold standB farB;rw [Bool.not_or, Bool.not_or]
theorem stand_far {c : CH} {i : Nat} (hi : i < c.ts.length) (h : farB c c.ss.length i = true) : ¬ standP c i := of_decide_eq_false (by rw [stand_eq hi, h]; rfl)
theorem stand_no {c : CH} {i : Nat} (hi : i < c.ts.length) (h : noB (kC c.ss (frC c.ts i).toNat) = true) : ¬ standP c i := of_decide_eq_false (by rw [stand_eq hi, h, Bool.not_true, Bool.and_false])
theorem stand_yes {c : CH} {i : Nat} (hi : i < c.ts.length) (h : farB c c.ss.length i = false) (h2 : noB (kC c.ss (frC c.ts i).toNat) = false) : standP c i := of_decide_eq_true (by rw [stand_eq hi, h, h2]; rfl)
set_option maxHeartbeats 16000000 in
theorem refTrans_any {w : World} {c : CH} {eV vV sV tV : Value} {sp : List SP} {tp : List TP} (h : ChM w c eV vV sV tV sp tp) (hs : Sm c sp tp) (hsb : Sb c) (hT : treeP c) (hgn : ∀ t ∈ c.ts, Names t.gd) (hnm : ∀ s ∈ c.ss, s.nm.length <= 1000) (i : Nat) (hi : i < tp.length) :
 Calls Tryz.prog 61 #[chA c eV vV sV tV, .int .i64 i] w fun e w' => e = .returned (.int .i64 (transE c i)) /\ Below w.heap.size w w' := by
 have hts := hs.ts; have hss := hs.ss; have hes := hs.es;obtain ⟨hfr, hti⟩ := frC_tp h hi;have hil : i < c.ts.length := by rw [<- h.tLen]; exact hi
 have htm : (tp[i]).1 ∈ c.ts := by rw [<- h.tsE]; exact List.mem_map.2 ⟨_, List.getElem_mem hi, rfl⟩
 have htd := h.td _ (List.getElem_mem hi);have HCH := Lib.hid (fun W (hW : Below w.heap.size w W) => h.below hW);have HHS := Lib.hid (fun W (hW : Below w.heap.size w W) (N : ByteArray) => refHas_any eV c.es N W (h.below hW).rdW (by omega));have HNS := Lib.hid (fun W (hW : Below w.heap.size w W) => dNames (h.below hW) hs false);have HOF := Lib.hid (fun W (hW : Below w.heap.size w W) u (hu : RdW W u (nhC c.ss)) => rKinds (h.below hW) hs (htd.1.1.below hW) htd.1.2 (hgn _ htm) hu (by have := nmL_len false c.ss; rw [nmL_some, <- h.sLen] at this; omega));have HDM := Lib.hid (fun W (hW : Below w.heap.size w W) (f m : Nat) (hf : f < sp.length) (hm : m < sp.length) => rDomain (h.below hW) hT hf hm);have HPL := Lib.hid (fun W (hW : Below w.heap.size w W) (N : ByteArray) => refPlace_any (h.below hW) (by omega) N);have HBL := Lib.hid (fun W (hW : Below w.heap.size w W) => dBlock (h.below hW) hs (tp[i]).2.2 (tp[i]).1.ac (htd.2.below hW) (hsb.ac _ htm));have HDN : Hid (∀ f m, Tr.dom (dC c.ss) (kC c.ss) f m = -1 \/ 0 <= Tr.dom (dC c.ss) (kC c.ss) f m) := fun f m => by
  rcases Tr.dom_spec (d := dC c.ss) (kd := kC c.ss) f m with ⟨h1, -⟩ | ⟨p, h1, -⟩
  ·exact Or.inl h1
  ·exact Or.inr (by omega)
 have HSL := Lib.hid h.sLen;obtain ⟨M, A1, A2, A3, A4, k1, k2, k3, k4, w1, hM, rfl, rfl, rfl, rfl, hw1, hb1, hz1, d0, d1, d2, d3, d4⟩ := box_ch h;obtain ⟨b, o, E, O, G, ng, kg, Aa, na, ka, rfl, -, hE, hO, hng, hna, hg1, ha1, t0, t1, t2, t3, t4⟩ := tr_at (h.below hb1).ts rfl (h.below hb1).td hi;rw [<- hfr] at t0;have HPV : Hid (0 < i -> w1.cell? ⟨b, o + (i - 1) * 5, none⟩ = some (.int .i64 (frC c.ts (i - 1)))) := fun h0 => by
  have hi1 : i - 1 < tp.length := by omega
  obtain ⟨b', o', _, _, _, _, _, _, _, _, hA, -, -, -, -, -, -, -, u0, -, -, -, -⟩ := tr_at (h.below hb1).ts rfl (h.below hb1).td hi1;injection hA with hA
  injection hA with e1 e2
  subst e1; subst e2;rw [(frC_tp h hi1).1]; exact u0
 have hTE : standP c i -> transE c i = tE c (tp[i]).1 := fun hst => by unfold transE; rw [if_neg (fun k => k hst), hti]
 have hT1 : ¬ standP c i -> transE c i = 1 := fun hst => by unfold transE; rw [if_pos hst]
 have hTT : tE c (tp[i]).1 = if ¬ waitP c E.data.toList then 2 else orE (guardE c (tp[i]).1.gd) (orE (targE c (tp[i]).1) (blockE c (tp[i]).1.ac)) := by rw [hE]; rfl
 have hGE : guardE c (tp[i]).1.gd = if ng = 0 then 0 else ofE 2 c (nhC c.ss) (tp[i]).1.gd := by
  unfold guardE;by_cases hz : (tp[i]).1.gd = []
  ·rw [if_pos hz, if_pos (by rw [hng, hz]; rfl)]
  ·rw [if_neg hz, if_neg (fun e => hz (List.eq_nil_of_length_eq_zero (by rw [<- hng, e])))]
 have hTG : targE c (tp[i]).1 = if O.data.toList = [] then 0 else if placeC c.ss O.data.toList = -1 then 2 else if Tr.dom (dC c.ss) (kC c.ss) (frC c.ts i).toNat (placeC c.ss O.data.toList).toNat ≠ -1 then 0 else 9 := by rw [hO, hfr]; rfl
 have HPR : Hid (placeC c.ss O.data.toList = -1 \/ ∃ m : Nat, placeC c.ss O.data.toList = m /\ m < sp.length) := by
  rcases ix_range (isS O.data.toList) c.ss with h1 | ⟨h1, h2⟩
  ·exact Or.inl h1
  ·exact Or.inr ⟨(placeC c.ss O.data.toList).toNat, by unfold placeC; omega, by rw [h.sLen]; unfold placeC; omega⟩
 have HST := Lib.hid (fun hf => stand_far hil (by rw [<- h.sLen]; exact hf) : farB c sp.length i = true -> ¬ standP c i);have HSN := Lib.hid (fun hf => stand_no hil hf : noB (kC c.ss (frC c.ts i).toNat) = true -> ¬ standP c i);have HSY := Lib.hid (fun hf hg => stand_yes hil (by rw [<- h.sLen]; exact hf) hg : farB c sp.length i = false -> noB (kC c.ss (frC c.ts i).toNat) = false -> standP c i);have HSP : Hid (∀ j, j < sp.length -> ∃ (bs os : Nat) (X : ByteArray) (hA : A3 = some ⟨bs, os, none⟩) (hj : j < c.ss.length), X.data.toList = c.ss[j].nm /\ X.size <= 1000 /\ ∀ W, Below w.heap.size w W -> W.cell? ⟨bs, os + j * 6, none⟩ = some (.string X) /\ W.cell? ⟨bs, os + j * 6 + 1, none⟩ = some (.int .i64 (kC c.ss j))) := fun j hj => by
  obtain ⟨bs, os, X, Y, E4, m4, q4, E5, m5, q5, hA, hlt, hX, -, -, -, -, -, e0, e1, -, -, -, -⟩ := st_at h.ss rfl h.sd hj;have hjc : j < c.ss.length := by rw [<- h.sLen]; exact hj
  have hcs : c.ss[j] = (sp[j]).1 := by simp [<- h.ssE]
  refine ⟨bs, os, X, hA, hjc, by rw [hX, hcs], by have := hnm _ (List.getElem_mem hjc); rw [hcs, <- hX, <- Lib.size_eq] at this; exact this, fun W hW => ⟨(hW.cell hlt).trans e0, ?_⟩⟩;rw [kC_sp h hj]; exact (hW.cell hlt).trans e1
 rw [hg1] at HOF;rw [ha1] at HBL;unfold chA at *
 rw [hM] at HNS HPL HBL ⊢;obtain ⟨w2, hw2⟩ : ∃ W, W = w1.alloc (.cells #[.int .i64 (frC c.ts i), .string E, .slice G ng kg, .string O, .slice Aa na ka] 121) := ⟨_, rfl⟩
 have hb2 : Below w1.heap.size w1 w2 := hw2 ▸ (Below.refl _ _).alloc (Nat.le_refl _) _;obtain ⟨u0, u1, u2, u3, u4⟩ : w2.cell? ⟨w.heap.size + 1, 0, none⟩ = some (.int .i64 (frC c.ts i)) /\ w2.cell? ⟨w.heap.size + 1, 1, none⟩ = some (.string E) /\ w2.cell? ⟨w.heap.size + 1, 2, none⟩ = some (.slice G ng kg) /\ w2.cell? ⟨w.heap.size + 1, 3, none⟩ = some (.string O) /\ w2.cell? ⟨w.heap.size + 1, 4, none⟩ = some (.slice Aa na ka) := by rw [hw2, <- hz1]; simp
 have HF : Hid (∀ W, Below w2.heap.size w2 W -> (W.cell? ⟨w.heap.size, 0, none⟩ = some (.string M) /\ W.cell? ⟨w.heap.size, 1, none⟩ = some (.slice A1 c.es.length k1) /\ W.cell? ⟨w.heap.size, 2, none⟩ = some (.slice A2 c.vs.length k2) /\ W.cell? ⟨w.heap.size, 3, none⟩ = some (.slice A3 sp.length k3) /\ W.cell? ⟨w.heap.size, 4, none⟩ = some (.slice (some ⟨b, o, none⟩) tp.length k4)) /\
  (W.cell? ⟨w.heap.size + 1, 0, none⟩ = some (.int .i64 (frC c.ts i)) /\ W.cell? ⟨w.heap.size + 1, 1, none⟩ = some (.string E) /\ W.cell? ⟨w.heap.size + 1, 2, none⟩ = some (.slice G ng kg) /\ W.cell? ⟨w.heap.size + 1, 3, none⟩ = some (.string O) /\ W.cell? ⟨w.heap.size + 1, 4, none⟩ = some (.slice Aa na ka))) := fun W hW => by
  have hc := fun {p : Addr} {v : Value} (hv : w1.cell? p = some v) => (hW.cell (cell_lt ((hb2.cell (cell_lt hv)).trans hv))).trans ((hb2.cell (cell_lt hv)).trans hv)
  exact ⟨⟨hc d0, hc d1, hc d2, hc d3, hc d4⟩, (hW.cell (cell_lt u0)).trans u0, (hW.cell (cell_lt u1)).trans u1, (hW.cell (cell_lt u2)).trans u2, (hW.cell (cell_lt u3)).trans u3, (hW.cell (cell_lt u4)).trans u4⟩
 have HPV2 : Hid (0 < i -> w2.cell? ⟨b, o + (i - 1) * 5, none⟩ = some (.int .i64 (frC c.ts (i - 1)))) := fun h0 => (hb2.cell (cell_lt (HPV.out h0))).trans (HPV.out h0)
 have HTE := Lib.hid hTE; have HT1 := Lib.hid hT1; have HTT := Lib.hid hTT; have HGE := Lib.hid hGE; have HTG := Lib.hid hTG;have HW := Lib.hid hw1; have HX := Lib.hid hw2; have HB := Lib.hid hb1; have HB2 := Lib.hid (hb1.trans (hb2.mono hb1.size));have HBL2 : Hid (∀ W, Below w2.heap.size w2 W -> Below w.heap.size w W) := fun W hW => HB2.out.trans (hW.mono HB2.out.size)
 clear hM hw1 h hs hsb hT hgn hnm hTE hT1 hTT hGE hTG htd htm hti hE hO hg1 ha1 hng hna hfr HPV hw2 hb1 hb2 HCH u0 u1 u2 u3 u4;generalize transE c i = RT at *
 generalize tE c (tp[i]).1 = TE at *
 generalize guardE c (tp[i]).1.gd = GE at *
 generalize targE c (tp[i]).1 = GT at *
 generalize blockE c (tp[i]).1.ac = BE at *
 generalize (tp[i]).1.gd = gd at *
 obtain ⟨FAR, hFAR⟩ : ∃ q, farB c sp.length i = q := ⟨_, rfl⟩
 have hFB : FAR = (decide (frC c.ts i < 0) || (decide ((sp.length : Int) <= frC c.ts i) || (decide (0 < i) && decide (frC c.ts i < frC c.ts (i - 1))))) := hFAR.symm;have HFB := Lib.hid hFB;rw [hFAR] at HST HSY;clear hFAR hFB;generalize frC c.ts i = fr at *
 generalize frC c.ts (i - 1) = fp at *
 generalize c.es.length = n1 at *; generalize c.vs.length = n2 at *; generalize sp.length = n3 at *; generalize tp.length = n4 at *
 go_enter Tryz.func61, Tryz.ntmps61
 go_upto_region 1 with fail
 rw [<- HW.out]
 go_upto_region 2 with fail
 rw [<- HX.out];clear d0 d1 d2 d3 d4 t0 t1 t2 t3 t4;obtain ⟨⟨c0, c1, c2, c3, c4⟩, v0, v1, v2, v3, v4⟩ := HF.out w2 (Below.refl _ _)
 go_cut [42] from 16 (fun s42 wx => s42 = .bool FAR /\ Hid (Below w2.heap.size w2 wx))
 case first =>
  by_cases h0 : fr < 0
  ·have q0 : decide (fr < 0) = true := decide_eq_true h0;obtain rfl : FAR = true := by rw [HFB.out, q0]; rfl
   clear h0
   go_quiet (fail)
   go_wp2
   go_meet
   case rel => exact ⟨rfl, below_drewN (Below.refl _ _) _⟩
  have q0 : decide (fr < 0) = false := decide_eq_false h0;by_cases h1 : (n3 : Int) <= fr
  ·have q1 : decide ((n3 : Int) <= fr) = true := decide_eq_true h1;obtain rfl : FAR = true := by rw [HFB.out, q0, q1]; rfl
   clear h0 h1
   go_quiet (fail)
   go_wp2
   go_meet
   case rel => exact ⟨rfl, below_drewN (Below.refl _ _) _⟩
  have q1 : decide ((n3 : Int) <= fr) = false := decide_eq_false h1;by_cases h2 : 0 < i
  ·have q2 : decide (0 < i) = true := decide_eq_true h2;obtain ⟨j, hj⟩ : ∃ j, i - 1 = j := ⟨_, rfl⟩
   have hwi : IntKind.i64.wrap ((i : Int) - 1) = (j : Int) := by rw [show ((i : Int) - 1) = (j : Int) by omega]; exact IntWalk.i64_in _ (by omega)
   have u0 := HPV2.out h2;rw [hj] at u0;have hjl : j < n4 := by omega
   have hjl2 : (j : Int) < (n4 : Int) := by omega
   clear HPV2 hj;by_cases h3 : fr < fp
   ·have q3 : decide (fr < fp) = true := decide_eq_true h3;obtain rfl : FAR = true := by rw [HFB.out, q0, q1, decide_eq_true h2, q3]; rfl
    clear h0 h1 h2 h3
    go_quiet (fail)
    go_wp2
    go_meet
    case rel => exact ⟨rfl, below_drewN (Below.refl _ _) _⟩
   ·have q3 : decide (fr < fp) = false := decide_eq_false h3;obtain rfl : FAR = false := by rw [HFB.out, q0, q1, decide_eq_true h2, q3]; rfl
    clear h0 h1 h2 h3
    go_quiet (fail)
    go_wp2
    go_meet
    case rel => exact ⟨rfl, below_drewN (Below.refl _ _) _⟩
  ·have q2 : decide (0 < i) = false := decide_eq_false h2;obtain rfl : FAR = false := by rw [HFB.out, q0, q1, decide_eq_false h2]; rfl
   clear h0 h1 h2
   go_quiet (fail)
   go_wp2
   go_meet
   case rel => exact ⟨rfl, below_drewN (Below.refl _ _) _⟩
 case rest =>
 obtain ⟨rfl, HBA⟩ := hcut;obtain ⟨wA, hwA⟩ : ∃ W, W = wc := ⟨_, rfl⟩
 subst hwA;clear c0 c1 c2 c3 c4 v0 v1 v2 v3 v4 HPV2;obtain ⟨⟨c0, c1, c2, c3, c4⟩, v0, v1, v2, v3, v4⟩ := HF.out wA HBA.out;have HCA := Lib.hid (HBL2.out wA HBA.out);cases FAR with
 | true =>
  have HR := Lib.hid (HT1.out (HST.out rfl));go_wp2;go_ret;exact ⟨ret_int HR.out.symm, HCA.out⟩
 | false =>
 have hfb := HFB.out.symm;simp only [Bool.or_eq_false_iff, decide_eq_false_iff_not] at hfb;obtain ⟨m, rfl⟩ : ∃ m : Nat, fr = m := ⟨fr.toNat, by omega⟩
 have hml : m < n3 := by omega
 clear hfb HFB;rw [Int.toNat_natCast] at HSN HSY HTG;obtain ⟨bs, os, X0, rfl, hjm, -, -, hcm⟩ := HSP.out m hml;obtain ⟨-, e1⟩ := hcm wA HCA.out;obtain ⟨km, hkm⟩ : ∃ x, kC c.ss m = x := ⟨_, rfl⟩
 rw [hkm] at HSN HSY e1;obtain ⟨NB, hNB⟩ : ∃ x, noB km = x := ⟨_, rfl⟩
 rw [hNB] at HSN HSY;have HNB := Lib.hid hNB;have hml2 : (m : Int) < (n3 : Int) := by omega
 clear hcm hjm hkm hNB X0
 go_upto_region 4 with fail
 go_cut [70] from 16 (fun s70 wx => s70 = .bool NB /\ wA = wx)
 case first =>
  by_cases h1 : km = 1
  ·subst h1;obtain rfl : NB = false := by rw [<- HNB.out]; decide
   go_wp2
   go_meet
   case rel => exact ⟨rfl, rfl⟩
  have q1 := int_ne h1;have r1 : (km != 1) = true := bne_iff_ne.2 h1;by_cases h2 : km = 2
  ·subst h2;obtain rfl : NB = false := by rw [<- HNB.out]; decide
   go_wp2
   go_meet
   case rel => exact ⟨rfl, rfl⟩
  have q2 := int_ne h2;have r2 : (km != 2) = true := bne_iff_ne.2 h2;by_cases h3 : km = 3
  ·subst h3;obtain rfl : NB = false := by rw [<- HNB.out]; decide
   go_wp2
   go_meet
   case rel => exact ⟨rfl, rfl⟩
  have q3 := int_ne h3;have r3 : (km != 3) = true := bne_iff_ne.2 h3;obtain rfl : NB = true := by rw [<- HNB.out]; unfold noB; rw [decide_eq_true h1, decide_eq_true h2, decide_eq_true h3]; rfl
  clear h1 h2 h3;go_wp2
  go_meet
  case rel => exact ⟨rfl, rfl⟩
 case rest =>
 obtain ⟨rfl, hwc⟩ := hcut;subst hwc;clear e1 HNB;cases NB with
 | true =>
  have HR := Lib.hid (HT1.out (HSN.out rfl));go_wp2;go_ret;exact ⟨ret_int HR.out.symm, HCA.out⟩
 | false =>
 have HV0 : Hid (RT = if ¬ waitP c E.data.toList then 2 else orE GE (orE GT BE)) := (HTE.out (HSY.out rfl rfl)).trans HTT.out;obtain ⟨Q, hQ⟩ : ∃ x, evB c E.data.toList = x := ⟨_, rfl⟩
 have HQ := Lib.hid hQ;clear hQ HTE HSY HTT HT1 HST HSN
 go_upto_region 6 with fail
 go_cut [6] from 16 (fun s6 wx => s6 = .bool Q /\ wA = wx)
 case first =>
  by_cases g0 : E.data.toList = []
  ·obtain rfl : Q = true := by rw [<- HQ.out]; unfold evB; rw [decide_eq_true g0]; rfl
   obtain rfl := str_nil g0;clear g0;go_wp2
   go_meet
   case rel => exact ⟨rfl, rfl⟩
  have q0 : E.toList.isEmpty = false := by rw [beq_nil]; exact decide_eq_false g0
  have q1 : ¬ (E.size : Int) = 0 := fun e => g0 (List.eq_nil_of_length_eq_zero (by rw [<- Lib.size_eq]; omega))
  have q2 := int_ne q1;by_cases g5 : E.data.toList = wError
  ·obtain rfl : Q = true := by rw [<- HQ.out]; unfold evB; rw [decide_eq_true g5, decide_eq_false g0]; rfl
   obtain rfl := str_lit g5;clear g5 g0;go_wp2
   go_meet
   case rel => exact ⟨rfl, rfl⟩
  have q5 : (E.toList == [101, 114, 114, 111, 114]) = false := by rw [beq_lit]; exact decide_eq_false g5
  have HQ2 : Hid (decide (E.data.toList ∈ c.es) = Q) := by
   show _ = _;rw [<- HQ.out]; unfold evB; rw [decide_eq_false g5, decide_eq_false g0]; rfl
  clear g0 g5
  go_wp2_with fail
  refine (HHS.out _ HCA.out E).mono ?_;rintro e w3 ⟨rfl, rfl⟩;rw [HQ2.out];go_wp2
  go_meet
  case rel => exact ⟨rfl, rfl⟩
 case rest =>
 obtain ⟨rfl, hwc⟩ := hcut;subst hwc;clear c0 c1 c2 c3 c4 v0 v1 v2 v3 v4;go_wp2
 go_loopw [6, 7] (fun x6 x7 wr => ∃ k : Nat, k <= n3 /\ x7 = .int .i64 k /\ x6 = .bool (Q || doneB c E.data.toList k) /\ Hid (Below w2.heap.size w2 wr)) (fun _ x _ => n3 - (intOf x).toNat)
 case atStart => exact ⟨0, by omega, rfl, by rw [show doneB c E.data.toList 0 = false from rfl, Bool.or_false], HBA⟩
 case round =>
  obtain ⟨k, hk, rfl, rfl, HBR⟩ := hrel;obtain ⟨wl, hwl⟩ : ∃ W, W = wr := ⟨_, rfl⟩
  subst hwl;have HCR := Lib.hid (HBL2.out wl HBR.out);obtain ⟨⟨c0, c1, c2, c3, c4⟩, v0, v1, v2, v3, v4⟩ := HF.out wl HBR.out;obtain ⟨QB, hQB⟩ : ∃ q, (Q || doneB c E.data.toList k) = q := ⟨_, rfl⟩
  rw [hQB];have HQB := Lib.hid hQB;clear hQB;by_cases hkn : k < n3
  ·obtain ⟨bs', os', X, hA, hjk, hX, hXs, hcx⟩ := HSP.out k hkn;simp only [Option.some.injEq, Addr.mk.injEq, and_true] at hA;obtain ⟨rfl, rfl⟩ := hA;obtain ⟨e0, e1⟩ := hcx wl HCR.out;have hst : (Q || doneB c E.data.toList (k + 1)) = (QB || (decide (Tr.parentP (kC c.ss k)) && decide (E.data.toList = wDone ++ X.data.toList))) := by rw [done_step hjk, <- Bool.or_assoc, HQB.out, hX, kC_at hjk]
   obtain ⟨kk, hkk⟩ : ∃ x, kC c.ss k = x := ⟨_, rfl⟩
   rw [hkk] at hst e1;have HSQ := Lib.hid hst;have hkn2 : (k : Int) < (n3 : Int) := by omega
   clear hst hkk hcx hX hjk HQB;by_cases hp : Tr.parentP kk
   ·have hsz : ((⟨#[100, 111, 110, 101, 46]⟩ : ByteArray).size : Int) + (X.size : Int) <= 9223372036854775807 := by
     show ((5 : Nat) : Int) + _ <= _; omega
    by_cases he : E.data.toList = wDone ++ X.data.toList
    ·have HN : Hid ((Q || doneB c E.data.toList (k + 1)) = true) := by show _ = _; rw [HSQ.out, decide_eq_true hp, decide_eq_true he, Bool.and_self, Bool.or_true]
     have hee : E = (⟨#[100, 111, 110, 101, 46]⟩ : ByteArray) ++ X := str_eq (by rw [he]; simp [wDone]);have hq2 : (E.toList == ((⟨#[100, 111, 110, 101, 46]⟩ : ByteArray) ++ X).toList) = true := by rw [<- hee]; exact beq_self_eq_true _
     clear he hee HSQ;rcases hp with rfl | rfl
     ·go_wp2
      go_quiet (fail)
      go_wp2
      go_roundw
      case rel => exact ⟨k + 1, by omega, by go_num, by rw [HN.out], below_drewN HBR.out _⟩
      case measure => simp [intOf]; omega
     ·go_wp2
      go_quiet (fail)
      go_wp2
      go_roundw
      case rel => exact ⟨k + 1, by omega, by go_num, by rw [HN.out], below_drewN HBR.out _⟩
      case measure => simp [intOf]; omega
    ·have HN : Hid ((Q || doneB c E.data.toList (k + 1)) = QB) := by show _ = _; rw [HSQ.out, decide_eq_false he, Bool.and_false, Bool.or_false]
     have hee : E.data.toList ≠ ((⟨#[100, 111, 110, 101, 46]⟩ : ByteArray) ++ X).data.toList := fun e => he (by rw [e]; simp [wDone])
     have hq2 := str_ne hee;have hq3 := str_ne (Ne.symm hee);clear he hee HSQ;rcases hp with rfl | rfl
     ·go_wp2
      go_quiet (fail)
      go_wp2
      go_roundw
      case rel => exact ⟨k + 1, by omega, by go_num, by rw [HN.out], below_drewN HBR.out _⟩
      case measure => simp [intOf]; omega
     ·go_wp2
      go_quiet (fail)
      go_wp2
      go_roundw
      case rel => exact ⟨k + 1, by omega, by go_num, by rw [HN.out], below_drewN HBR.out _⟩
      case measure => simp [intOf]; omega
   ·have HN : Hid ((Q || doneB c E.data.toList (k + 1)) = QB) := by show _ = _; rw [HSQ.out, decide_eq_false hp, Bool.false_and, Bool.or_false]
    have h2 : kk ≠ 2 := fun e => hp (Or.inl e)
    have h3 : kk ≠ 3 := fun e => hp (Or.inr e)
    have q2 := int_ne h2;have q3 := int_ne h3;clear HSQ hp h2 h3;go_wp2
    go_quiet (fail)
    go_wp2
    go_roundw
    case rel => exact ⟨k + 1, by omega, by go_num, by rw [HN.out], below_drewN HBR.out _⟩
    case measure => simp [intOf]; omega
  ·obtain rfl : n3 = k := by omega
   have HK : Hid (decide (waitP c E.data.toList) = QB) := by
    show _ = _;rw [<- wait_ref, <- HSL.out, HQ.out]; exact HQB.out
   clear HQB HQ hk hkn;by_cases hw : waitP c E.data.toList;rotate_left
   ·obtain rfl : QB = false := by rw [<- HK.out]; exact decide_eq_false hw
    have HR := Lib.hid (HV0.out.trans (if_pos hw));clear HV0 hw;go_wp2;go_ret;exact ⟨ret_int HR.out.symm, HCR.out⟩
   obtain rfl : QB = true := by rw [<- HK.out]; exact decide_eq_true hw
   have HV1 := Lib.hid (HV0.out.trans (if_neg (fun h => h hw)));clear HV0 hw HK
   go_upto_if 127 with fail
   go_cut [8, 9] from 16 (fun _ _ wx => Hid (Below w2.heap.size w2 wx) /\ Hid (GE = 0))
   case first =>
    by_cases hz : ng = 0
    ·have hG : GE = 0 := by rw [HGE.out, if_pos hz]
     subst hz;go_wp2
     go_meet
     case rel => exact ⟨HBR, hG⟩
    rw [show decide (0 < ng) = true from decide_eq_true (by omega)];obtain ⟨KK, hKK⟩ : ∃ x, (kindP (vmL c) (nhC c.ss) gd).1 = x := ⟨_, rfl⟩
    obtain ⟨EE, hEE⟩ : ∃ x, (kindP (vmL c) (nhC c.ss) gd).2 = x := ⟨_, rfl⟩
    rw [hKK, hEE] at HOF;have hG := HGE.out;rw [if_neg hz] at hG;unfold ofE at hG;rw [hKK, hEE] at hG;have HG := Lib.hid hG;have HBW : Hid (∀ W, Below wl.heap.size wl.drew W -> Below w.heap.size w W) := fun W hb => HCR.out.trans (((Below.refl _ _).drew.trans hb).mono HCR.out.size)
    have HBV : Hid (∀ W, Below wl.heap.size wl.drew W -> Below w2.heap.size w2 W) := fun W hb => HBR.out.trans (((Below.refl _ _).drew.trans hb).mono HBR.out.size)
    clear hG hKK hEE hz HGE;go_wp2;refine Oy.region_quiet 164 [Oy.eqD (.pointer (some ⟨w.heap.size + 1, 2, none⟩)), Oy.eqD (.slice G ng kg), Oy.eqD (.pointer (some ⟨w.heap.size, 2, none⟩)), Oy.eqD (.slice A2 n2 k2), Oy.eqD (.agg #[.string M, .slice A1 n1 k1, .slice A2 n2 k2, .slice (some ⟨bs, os, none⟩) n3 k3, .slice (some ⟨b, o, none⟩) n4 k4]), fun (_ : List Value) v W => RdW W v (nhC c.ss), Oy.eqD (.tuple #[.int .i64 KK, .int .i64 EE]), Oy.eqD (.tuple #[.int .i64 KK, .int .i64 EE]), Oy.eqD (.int .i64 KK), Oy.eqD (.int .i64 EE), Oy.eqD (.int .i64 KK), Oy.eqD (.int .i64 EE)] [[], [], [], [], [], [], [], [], [], [], [], []] (by kernel_rfl) rfl (by kernel_rfl) (by kernel_rfl) ⟨Oy.keeps_eq _, Oy.keeps_eq _, Oy.keeps_eq _, Oy.keeps_eq _, Oy.keeps_eq _, (fun _ _ _ _ h hb => Inn.below h hb), Oy.keeps_eq _, Oy.keeps_eq _, Oy.keeps_eq _, Oy.keeps_eq _, Oy.keeps_eq _, Oy.keeps_eq _, trivial⟩ ?_;refine Oy.walk_q ?_ fun x129 => ?_
    ·intro w1 hb hd K hK;clear hd;go_simp;exact hK _ _ (Below.refl _ _) rfl
    refine Oy.walk_q ?_ fun x130 => ?_
    ·intro w1 hb hd K hK;obtain rfl : _ = x129 := Eq.symm (hd 0 (by kernel_rfl));clear hd;have c_v2 := (hb.cell (cell_lt v2)).trans v2;go_simp;exact hK _ _ (Below.refl _ _) rfl
    refine Oy.walk_q ?_ fun x131 => ?_
    ·intro w1 hb hd K hK;clear hd;go_simp;exact hK _ _ (Below.refl _ _) rfl
    refine Oy.walk_q ?_ fun x132 => ?_
    ·intro w1 hb hd K hK;obtain rfl : _ = x131 := Eq.symm (hd 2 (by kernel_rfl));clear hd;have c_c2 := (hb.cell (cell_lt c2)).trans c2;go_simp;exact hK _ _ (Below.refl _ _) rfl
    refine Oy.walk_q ?_ fun x133 => ?_
    ·intro w1 hb hd K hK;clear hd;have c_c0 := (hb.cell (cell_lt c0)).trans c0;have c_c1 := (hb.cell (cell_lt c1)).trans c1;have c_c2 := (hb.cell (cell_lt c2)).trans c2;have c_c3 := (hb.cell (cell_lt c3)).trans c3;have c_c4 := (hb.cell (cell_lt c4)).trans c4;go_simp;exact hK _ _ (Below.refl _ _) rfl
    refine Oy.walk_q ?_ fun x134 => ?_
    ·intro w1 hb hd K hK;obtain rfl : _ = x133 := Eq.symm (hd 4 (by kernel_rfl));clear hd;go_simp;refine (HNS.out w1 (HBW.out w1 hb)).mono ?_;rintro e w5 ⟨⟨u, rfl, ho⟩, hb5⟩;go_simp;refine hK _ _ hb5 ?_;rw [nmL_some] at ho;exact Inn.of_own ho
    refine Oy.walk_q ?_ fun x135 => ?_
    ·intro w1 hb hd K hK;obtain rfl : _ = x130 := Eq.symm (hd 1 (by kernel_rfl));obtain rfl : _ = x132 := Eq.symm (hd 3 (by kernel_rfl));have h134 : (fun (_ : List Value) v W => RdW W v (nhC c.ss)) [] x134 w1 := hd 5 (by kernel_rfl);clear hd;go_simp;refine (HOF.out w1 (HBW.out w1 hb) _ h134).mono ?_;rintro e w5 ⟨rfl, hb5⟩;go_simp;exact hK _ _ hb5 rfl
    refine Oy.walk_q ?_ fun x128 => ?_
    ·intro w1 hb hd K hK;obtain rfl : _ = x135 := Eq.symm (hd 6 (by kernel_rfl));clear hd;go_simp;exact hK _ _ (Below.refl _ _) rfl
    refine Oy.walk_q ?_ fun x136 => ?_
    ·intro w1 hb hd K hK;obtain rfl : _ = x128 := Eq.symm (hd 7 (by kernel_rfl));clear hd;go_simp;exact hK _ _ (Below.refl _ _) rfl
    refine Oy.walk_q ?_ fun x137 => ?_
    ·intro w1 hb hd K hK;obtain rfl : _ = x128 := Eq.symm (hd 7 (by kernel_rfl));clear hd;go_simp;exact hK _ _ (Below.refl _ _) rfl
    refine Oy.walk_q ?_ fun x8 => ?_
    ·intro w1 hb hd K hK;obtain rfl : _ = x136 := Eq.symm (hd 8 (by kernel_rfl));clear hd;go_simp;exact hK _ _ (Below.refl _ _) rfl
    refine Oy.walk_q ?_ fun x9 => ?_
    ·intro w1 hb hd K hK;obtain rfl : _ = x137 := Eq.symm (hd 9 (by kernel_rfl));clear hd;go_simp;exact hK _ _ (Below.refl _ _) rfl
    refine Oy.walk_nil rfl (fun w1 hb hd => ?_);obtain rfl : _ = x129 := Eq.symm (hd 0 (by kernel_rfl));obtain rfl : _ = x130 := Eq.symm (hd 1 (by kernel_rfl));obtain rfl : _ = x131 := Eq.symm (hd 2 (by kernel_rfl));obtain rfl : _ = x132 := Eq.symm (hd 3 (by kernel_rfl));obtain rfl : _ = x133 := Eq.symm (hd 4 (by kernel_rfl));have h134 : (fun (_ : List Value) v W => RdW W v (nhC c.ss)) [] x134 w1 := hd 5 (by kernel_rfl);obtain rfl : _ = x135 := Eq.symm (hd 6 (by kernel_rfl));obtain rfl : _ = x128 := Eq.symm (hd 7 (by kernel_rfl));obtain rfl : _ = x136 := Eq.symm (hd 8 (by kernel_rfl));obtain rfl : _ = x137 := Eq.symm (hd 9 (by kernel_rfl));obtain rfl : _ = x8 := Eq.symm (hd 10 (by kernel_rfl));obtain rfl : _ = x9 := Eq.symm (hd 11 (by kernel_rfl));clear hd;have HB5 := Lib.hid (HBV.out w1 hb);have HC5 := Lib.hid (HBW.out w1 hb);clear hb c0 c1 c2 c3 c4 v0 v1 v2 v3 v4 h134;go_simp;by_cases hE : EE = 0
    ·subst hE;by_cases hK9 : KK = 2
     ·subst hK9;have hG0 : GE = 0 := by rw [HG.out, if_neg (fun h => h rfl), if_pos rfl]
      go_wp2
      go_meet
      case rel => exact ⟨HB5, hG0⟩
     ·have HR : Hid (RT = 8) := by show _ = _; rw [HV1.out, HG.out, if_neg (fun h => h rfl), if_neg hK9]; rfl
      have q1 : (KK != 2) = true := bne_iff_ne.2 hK9;have q2 := int_ne hK9;clear hK9;go_wp2;go_ret;exact ⟨ret_int HR.out.symm, HC5.out⟩
    ·have HR : Hid (RT = EE) := by show _ = _; rw [HV1.out, HG.out, if_pos hE]; exact if_pos hE
     have q1 : (EE != 0) = true := bne_iff_ne.2 hE;have q2 := int_ne hE;clear hE;go_wp2;go_ret;exact ⟨ret_int HR.out.symm, HC5.out⟩
   case rest =>
   obtain ⟨HBG, HG0⟩ := hcut;obtain ⟨wB, hwB⟩ : ∃ W, W = wc := ⟨_, rfl⟩
   subst hwB;have HCB := Lib.hid (HBL2.out wB HBG.out);have HV2 : Hid (RT = orE GT BE) := HV1.out.trans (by rw [HG0.out]; exact if_neg (fun h => h rfl));clear c0 c1 c2 c3 c4 v0 v1 v2 v3 v4 HV1 HBR HCR HG0;obtain ⟨⟨c0, c1, c2, c3, c4⟩, v0, v1, v2, v3, v4⟩ := HF.out wB HBG.out
   go_upto_if 146 with fail
   go_cut [10] from 16 (fun _ wx => Hid (Below w2.heap.size w2 wx) /\ Hid (GT = 0))
   case first =>
    by_cases hz : O.data.toList = []
    ·have hG : GT = 0 := by rw [HTG.out, if_pos hz]
     obtain rfl := str_nil hz;clear hz;go_wp2
     go_meet
     case rel => exact ⟨HBG, hG⟩
    have hz2 : (0 : Int) < (O.size : Int) := by
     have : O.size ≠ 0 := fun e => hz (List.eq_nil_of_length_eq_zero (by rw [<- Lib.size_eq]; exact e))
     omega
    have hG := HTG.out;rw [if_neg hz] at hG;have HG := Lib.hid hG;clear hz hG HTG
    go_wp2_with fail
    refine (HPL.out _ HCB.out O).mono ?_;rintro e w6 ⟨rfl, hb6⟩;have HC6 := Lib.hid (HCB.out.trans (hb6.mono HCB.out.size));have HB6 := Lib.hid (HBG.out.trans (hb6.mono HBG.out.size));clear hb6 c0 c1 c2 c3 c4 v0 v1 v2 v3 v4;obtain ⟨⟨c0, c1, c2, c3, c4⟩, v0, v1, v2, v3, v4⟩ := HF.out w6 HB6.out;rcases HPR.out with hp | ⟨j, hp, hj⟩
    ·rw [hp] at HG ⊢;have HR : Hid (RT = 2) := by show _ = _; rw [HV2.out, HG.out, if_pos rfl]; rfl
     go_wp2;go_ret;exact ⟨ret_int HR.out.symm, HC6.out⟩
    rw [hp] at HG ⊢;rw [Int.toNat_natCast, if_neg (by omega)] at HG;have hdn := HDN.out m j;have HDJ := Lib.hid (HDM.out w6 HC6.out m j hml hj);obtain ⟨D, hD⟩ : ∃ x, Tr.dom (dC c.ss) (kC c.ss) m j = x := ⟨_, rfl⟩
    rw [hD] at HG HDJ hdn;have hj0 : ¬ ((j : Nat) : Int) < 0 := by omega
    clear hD hp
    go_wp2_with fail
    refine HDJ.out.mono ?_;rintro e w7 ⟨rfl, hb7⟩;have HC7 := Lib.hid (HC6.out.trans (hb7.mono HC6.out.size));have HB7 := Lib.hid (HB6.out.trans (hb7.mono HB6.out.size));clear hb7;by_cases hd : D = -1
    ·subst hd;have HR : Hid (RT = 9) := by show _ = _; rw [HV2.out, HG.out, if_neg (fun h => h rfl)]; rfl
     clear hdn;go_wp2;go_ret;exact ⟨ret_int HR.out.symm, HC7.out⟩
    ·have hG0 : GT = 0 := by rw [HG.out, if_pos hd]
     have hd0 : ¬ D < 0 := by omega
     clear hdn hd;go_wp2
     go_meet
     case rel => exact ⟨HB7, hG0⟩
   case rest =>
   obtain ⟨HBH, HG0⟩ := hcut;obtain ⟨wD, hwD⟩ : ∃ W, W = wc := ⟨_, rfl⟩
   subst hwD;have HCD := Lib.hid (HBL2.out wD HBH.out);have HV3 : Hid (RT = BE) := HV2.out.trans (by rw [HG0.out]; exact if_neg (fun h => h rfl));clear c0 c1 c2 c3 c4 v0 v1 v2 v3 v4 HV2 HG0;obtain ⟨⟨c0, c1, c2, c3, c4⟩, v0, v1, v2, v3, v4⟩ := HF.out wD HBH.out
   go_wp2_with fail
   refine (HBL.out _ HCD.out).mono ?_;rintro e w8 ⟨rfl, hb8⟩;have HC8 := Lib.hid (HCD.out.trans (hb8.mono HCD.out.size));clear hb8;go_wp2;go_ret;exact ⟨ret_int HV3.out.symm, HC8.out⟩
end Go.Proofs.YtcnfcililiehlaaGreatDoor.Ch.Vd
