/- Own texts, joined: Xk, Xl, Xm. -/
import Derived.Test.YtcnfcililiehlaaGreatDoorR7
import Derived.Test.YtcnfcililiehlaaGreatDoorR12
import Derived.Test.YtcnfcililiehlaaGreatDoorR19
namespace Go.Proofs.YtcnfcililiehlaaGreatDoor.Ch.Vd
open Go.RowKit
set_option maxRecDepth 100000
def nhT (ss : List SC) (k : Nat) : List (List UInt8) := nhC (ss.take k)
theorem nhT_all (ss : List SC) {k : Nat} (h : ss.length <= k) : nhT ss k = nhC ss := by unfold nhT; rw [List.take_of_length_le h]
theorem nhT_yes {ss : List SC} {k : Nat} (hk : k < ss.length) (hp : ¬ Tr.pastP ss[k].kd) : nhT ss (k + 1) = nhT ss k ++ [ss[k].nm] := by
 unfold nhT nhC;rw [List.take_add_one, List.getElem?_eq_getElem hk, Option.toList_some, List.filter_append, List.map_append];simp [hp]
theorem nhT_no {ss : List SC} {k : Nat} (hk : k < ss.length) (hp : Tr.pastP ss[k].kd) : nhT ss (k + 1) = nhT ss k := by
 unfold nhT nhC;rw [List.take_add_one, List.getElem?_eq_getElem hk, Option.toList_some, List.filter_append, List.map_append];simp [hp]
theorem nhT_len (ss : List SC) (k : Nat) : (nhT ss k).length <= ss.length := by
 unfold nhT nhC;rw [List.length_map];have h1 := List.length_filter_le (fun s : SC => !decide (Tr.pastP s.kd)) (ss.take k);have h2 := List.length_take_le' k ss;omega
set_option maxHeartbeats 8000000 in
theorem guard_any {w : World} {c : CH} {eV vV sV tV : Value} {sp : List SP} {tp : List TP} (h : ChM w c eV vV sV tV sp tp) (hs : Sm c sp tp) (v : Value) (cs : List CM) (hv : GdR w v cs) :
 Calls Tryz.prog 177 #[chA c eV vV sV tV, v] w fun e w' => e = .returned (.int .i64 (guardE c cs)) /\ Below w.heap.size w w' := by
 have hss := hs.ss;have hcl := hv.2;obtain ⟨is, hs0, hs1, hs2, hs3⟩ := info_of infoStrS;have HS0 := Lib.hid hs0; have HS1 := Lib.hid hs1; have HS2 := Lib.hid hs2; have HS3 := Lib.hid hs3;clear hs0 hs1 hs2 hs3;have hSR := h.ss; have hSD := h.sd; have hSE := h.ssE; have hSL := h.sLen;obtain ⟨M, A1, A2, A3, A4, k1, k2, k3, k4, w1, hM, rfl, rfl, rfl, rfl, hw1, hb1, hz1, d0, d1, d2, d3, d4⟩ := box_ch h;have hOF := fun W (hW : Below w.heap.size w W) (u : Value) (hu : RdW W u (nhC c.ss)) => ofKind_any (h.below hW) hs 2 v u cs (hv.1.below hW) (by omega) (nhC c.ss) hu (by have := nhT_len c.ss c.ss.length; rw [nhT_all _ (Nat.le_refl _)] at this; omega)
 obtain ⟨Ax, cx, rfl⟩ := hv.1.slice;unfold chA at hOF ⊢;rw [hM] at hOF ⊢;have hGE : guardE c cs = if cs = [] then 0 else ofE 2 c (nhC c.ss) cs := rfl
 have HOF := Lib.hid hOF; have HW := Lib.hid hw1; have HB := Lib.hid hb1; have HGE := Lib.hid hGE;have HSR := Lib.hid (fun W (hW : Below w.heap.size w W) => hSR.below hW);have HSD := Lib.hid (fun W (hW : Below w.heap.size w W) p hp => (hSD p hp).below hW);have HSE := Lib.hid hSE; have HSL := Lib.hid hSL;clear hM hw1 hb1 h hs hv hOF hGE hSR hSD hSE hSL hcl;rcases Nat.eq_zero_or_pos cs.length with h0 | h0
 ·have hv : guardE c cs = 0 := by rw [HGE.out, if_pos (List.eq_nil_of_length_eq_zero h0)]
  have HV := Lib.hid hv;clear hv;rw [h0];generalize c.es.length = n1 at *; generalize c.vs.length = n2 at *; generalize sp.length = n3 at *; generalize tp.length = n4 at *
  go_enter Tryz.func177, Tryz.ntmps177
  go_wp2_with fail
  rw [<- HW.out];go_wp2;go_ret;exact ⟨ret_int HV.out.symm, HB.out⟩
 ·have hv : guardE c cs = ofE 2 c (nhC c.ss) cs := by rw [HGE.out, if_neg (fun e => by rw [e] at h0; simp at h0)]
  obtain ⟨ER, hER⟩ : ∃ x, ofE 2 c (nhC c.ss) cs = x := ⟨_, rfl⟩
  rw [hER] at hv HOF;have HV := Lib.hid hv;have q0 : ((cs.length : Int) == 0) = false := int_ne (by omega);clear hv hER;obtain ⟨n3, hn3⟩ : ∃ n, sp.length = n := ⟨_, rfl⟩
  have HN3 := Lib.hid hn3;rw [hn3] at hss HOF HSR HSL d3 HW ⊢;clear hn3;generalize c.es.length = n1 at *; generalize c.vs.length = n2 at *; generalize tp.length = n4 at *; generalize cs.length = nx at *
  have HT : Hid (∀ W, Below w1.heap.size w1 W -> W.cell? ⟨w.heap.size, 0, none⟩ = some (.string M) /\ W.cell? ⟨w.heap.size, 1, none⟩ = some (.slice A1 n1 k1) /\ W.cell? ⟨w.heap.size, 2, none⟩ = some (.slice A2 n2 k2) /\ W.cell? ⟨w.heap.size, 3, none⟩ = some (.slice A3 n3 k3) /\ W.cell? ⟨w.heap.size, 4, none⟩ = some (.slice A4 n4 k4)) := fun W hW =>
   ⟨(hW.cell (cell_lt d0)).trans d0, (hW.cell (cell_lt d1)).trans d1, (hW.cell (cell_lt d2)).trans d2, (hW.cell (cell_lt d3)).trans d3, (hW.cell (cell_lt d4)).trans d4⟩
  go_enter Tryz.func177, Tryz.ntmps177
  go_wp2_with fail
  rw [<- HW.out];go_wp2
  go_loopw [5, 7, 14] (fun xs xb xi wr => xb = xb /\ ∃ k : Nat, k <= n3 /\ xi = .int .i64 k /\ wr.ownsRow w1.heap.size 9 1 xs (nhT c.ss k).length ((nhT c.ss k).map bstr) /\ Below w1.heap.size w1 wr) (fun _ _ x _ => n3 - (intOf x).toNat)
  case atStart => exact ⟨rfl, 0, by omega, rfl, World.ownsRow_nil _ _ _ _, Below.refl _ _⟩
  case round =>
   obtain ⟨_, k, hk, hxi, hown, hbw⟩ := hrel;subst hxi;obtain ⟨wl, hwl⟩ : ∃ W, W = wr := ⟨_, rfl⟩
   subst hwl;obtain ⟨As, cs', es⟩ := own_slice hown;subst es;have HBW := Lib.hid hbw; have HOW := Lib.hid hown;have hLl : (nhT c.ss k).length <= 1000000 := by have := nhT_len c.ss k; have := HSL.out; omega
   clear hown;by_cases hkn : k < n3
   ·obtain ⟨b, o, X, Y, A4', n4', c4, A5, n5, c5, rfl, -, hX, -, -, -, -, -, e0, e1, e2, e3, e4, e5⟩ := st_at (HSR.out _ (HB.out.trans (hbw.mono HB.out.size))) HN3.out (HSD.out _ (HB.out.trans (hbw.mono HB.out.size))) (k := k) (by rw [HN3.out]; exact hkn);have hkss : k < c.ss.length := by have := HSL.out; omega
    have hsk : (sp[k]'(by rw [HN3.out]; exact hkn)).1 = c.ss[k] := by simp [<- HSE.out]
    rw [hsk] at e1 e2 hX;have HHI := Lib.hid (fun W => vHistory_any (.string X) (.string Y) (.slice A4' n4' c4) (.slice A5 n5 c5) (c.ss[k]).kd (c.ss[k]).dp W ⟨_, rfl⟩ ⟨_, rfl⟩ ⟨_, _, _, rfl⟩ ⟨_, _, _, rfl⟩);have HNY := Lib.hid (fun hp => nhT_yes (ss := c.ss) hkss hp); have HNN := Lib.hid (fun hp => nhT_no (ss := c.ss) hkss hp);rw [<- hX] at HNY;generalize (c.ss[k]).kd = kd at *
    generalize (c.ss[k]).dp = dd at *
    obtain ⟨wm, hwm⟩ : ∃ W, W = wl.alloc (.cells #[.string X, .int .i64 kd, .int .i64 dd, .string Y, .slice A4' n4' c4, .slice A5 n5 c5] 50) := ⟨_, rfl⟩
    have hbm : Below wl.heap.size wl wm := hwm ▸ (Below.refl _ _).alloc (Nat.le_refl _) _;obtain ⟨m0, m1, m2, m3, m4, m5⟩ : wm.cell? ⟨wl.heap.size, 0, none⟩ = some (.string X) /\ wm.cell? ⟨wl.heap.size, 1, none⟩ = some (.int .i64 kd) /\ wm.cell? ⟨wl.heap.size, 2, none⟩ = some (.int .i64 dd) /\ wm.cell? ⟨wl.heap.size, 3, none⟩ = some (.string Y) /\ wm.cell? ⟨wl.heap.size, 4, none⟩ = some (.slice A4' n4' c4) /\ wm.cell? ⟨wl.heap.size, 5, none⟩ = some (.slice A5 n5 c5) := by rw [hwm]; simp
    have hzm : wm.heap.size = wl.heap.size + 1 := by rw [hwm]; simp
    have HWM := Lib.hid hwm; have HBM := Lib.hid hbm;have hsz := HBW.out.size;clear hwm hbm hX hbw hsk;by_cases hp : Tr.pastP kd
    ·have HPT := Lib.hid (decide_eq_true hp);have HNX := Lib.hid (HNN.out hp);clear hp
     go_wp2_with fail
     rw [<- HWM.out]
     go_wp2_with fail
     refine (HHI.out _).mono ?_;rintro e w2 ⟨rfl, hb2⟩;rw [HPT.out];have HB2 := Lib.hid (HBW.out.trans ((HBM.out.trans (hb2.mono HBM.out.size)).mono HBW.out.size));have HO2 := Lib.hid (own_below (own_below HOW.out HBM.out) hb2);clear hb2;go_wp2
     go_roundw
     case rel => exact ⟨(by first | rfl | trivial), k + 1, by omega, by go_num, by rw [HNX.out]; exact HO2.out, HB2.out⟩
     case measure => simp [intOf] <;> omega
    ·have HPT := Lib.hid (decide_eq_false hp);have HNX := Lib.hid (HNY.out hp);clear hp
     go_wp2_with fail
     rw [<- HWM.out]
     go_wp2_with fail
     refine (HHI.out _).mono ?_;rintro e w2 ⟨rfl, hb2⟩;rw [HPT.out];replace m0 := (hb2.cell (cell_lt m0)).trans m0;have HBM2 := Lib.hid (HBM.out.trans (hb2.mono HBM.out.size));have HO2 := Lib.hid (own_below (own_below HOW.out HBM.out) hb2);have HIN : Hid (Inn (w2.alloc (.cells #[.string X] 9)) 1 (.slice (some ⟨w2.heap.size, 0, none⟩) 1 1) 1 [.string X]) := Inn.of_own (Oz.own_laid (B := 0) (size := 1) w2 #[.string X] (Nat.zero_le _) (by decide) rfl);have hs2 := HBM2.out.size;clear hb2 m1 m2 m3 m4 m5
     go_wp2_with (at_builtin; refine Ow.wpList_append rfl (.tmp 21) (.tmp 24) 22 rfl w1.heap.size 9 is _ 1 16 Tryz.underlying22 HS0.out HS1.out HS2.out HS3.out rfl (by decide) _ (nhT c.ss k).length ((nhT c.ss k).map bstr) rfl (HO2.out.alloc _) _ 1 [.string X] rfl HIN.out (by intro u hu; simp at hu; subst hu; rfl) (by unfold maxLen; omega) (by omega) (by simp; omega) ?_)
     intro v5 w5 ho5 hg5 _;obtain ⟨hr, hb⟩ := nm_push HBW.out (HBM2.out.alloc HBM2.out.size (.cells #[.string X] 9)) HOW.out (x := X.data.toList) (by rw [bstr_of, hz1]; exact ho5) hg5;rw [<- HNX.out] at hr;have HR5 := Lib.hid hr; have HB5 := Lib.hid hb;clear ho5 hg5 hr hb;go_wp2
     go_roundw
     case rel => exact ⟨(by first | rfl | trivial), k + 1, by omega, by go_num, HR5.out, HB5.out⟩
     case measure => simp [intOf] <;> omega
   ·obtain rfl : k = n3 := by omega
    have HU : Hid (RdW wl (.slice As (nhT c.ss k).length cs') (nhC c.ss)) := by
     show RdW _ _ _;have := Inn.of_own HOW.out;rw [<- nhT_all c.ss (k := k) (by have := HSL.out; omega)];exact this
    obtain ⟨c0, c1, c2, c3, c4⟩ := HT.out wl hbw;have HBL := Lib.hid (HB.out.trans (hbw.mono HB.out.size));generalize (nhT c.ss k).length = nu at *
    clear hbw hkn hk d0 d1 d2 d3 d4 hLl HOW
    go_wp2_with fail
    refine (HOF.out wl HBL.out _ HU.out).mono ?_;rintro e w2 ⟨rfl, hb2⟩;have HB2 := Lib.hid (HBL.out.trans (hb2.mono HBL.out.size)); clear hb2;go_wp2;go_ret;exact ⟨ret_int HV.out.symm, HB2.out⟩
end Go.Proofs.YtcnfcililiehlaaGreatDoor.Ch.Vd
namespace Go.Proofs.YtcnfcililiehlaaGreatDoor.Ch.Vd
open Go.RowKit
set_option maxRecDepth 100000
theorem place_range {w : World} {c : CH} {eV vV sV tV : Value} {sp : List SP} {tp : List TP} (h : ChM w c eV vV sV tV sp tp) (n : List UInt8) : placeC c.ss n = -1 \/ ∃ m : Nat, placeC c.ss n = m /\ m < sp.length := by
 rcases ix_range (isS n) c.ss with h1 | ⟨h1, h2⟩
 ·exact Or.inl h1
 ·exact Or.inr ⟨(placeC c.ss n).toNat, by unfold placeC; omega, by rw [h.sLen]; unfold placeC; omega⟩
theorem str_nil {X : ByteArray} (h : X.data.toList = []) : X = ⟨#[]⟩ := by apply ByteArray.ext; exact Array.toList_inj.1 h
set_option maxHeartbeats 4000000 in
theorem target_any {w : World} {c : CH} {eV vV sV tV : Value} {sp : List SP} {tp : List TP} (h : ChM w c eV vV sV tV sp tp) (hs : Sm c sp tp) (hT : treeP c) (t : TC) (gv av : Value) (E O : ByteArray) (hO : O.data.toList = t.to) (hg : ∃ A n k, gv = .slice A n k) (ha : ∃ A n k, av = .slice A n k) (hf : t.to ≠ [] -> ∃ m : Nat, t.fr = m /\ m < sp.length) :
 Calls Tryz.prog 178 #[chA c eV vV sV tV, .agg #[.int .i64 t.fr, .string E, gv, .string O, av]] w fun e w' => e = .returned (.int .i64 (targE c t)) /\ Below w.heap.size w w' := by
 obtain ⟨G, ng, kg, rfl⟩ := hg;obtain ⟨Aa, na, ka, rfl⟩ := ha;have hss := hs.ss;have HPL := Lib.hid (fun W (hW : Below w.heap.size w W) => place_any (h.below hW) (by omega) O);have HDM := Lib.hid (fun i j (hi : i < sp.length) (hj : j < sp.length) W (hW : Below w.heap.size w W) => cDomain (h.below hW) hT hi hj);have hPR := place_range h O.data.toList;have hTE : targE c t = if O.data.toList = [] then 0 else if placeC c.ss O.data.toList = -1 then 2 else if Tr.dom (dC c.ss) (kC c.ss) t.fr.toNat (placeC c.ss O.data.toList).toNat ≠ -1 then 0 else 9 := by rw [hO]; rfl
 have HTE := Lib.hid hTE;rw [<- hO] at hf;obtain ⟨M, A1, A2, A3, A4, k1, k2, k3, k4, wc, hM, rfl, rfl, rfl, rfl, _, _, _, _, _, _, _, _⟩ := box_ch h;unfold chA at *
 rw [hM] at HPL ⊢;obtain ⟨w1, hw1⟩ : ∃ W, W = (w.alloc (.cells #[.string M, .slice A1 c.es.length k1, .slice A2 c.vs.length k2, .slice A3 sp.length k3, .slice A4 tp.length k4] 27)).alloc (.cells #[.int .i64 t.fr, .string E, .slice G ng kg, .string O, .slice Aa na ka] 121) := ⟨_, rfl⟩
 have hb1 : Below w.heap.size w w1 := hw1 ▸ ((Below.refl _ _).alloc (Nat.le_refl _) _).alloc (by simp) _;obtain ⟨d0, d1, d2, d3, d4⟩ : w1.cell? ⟨w.heap.size, 0, none⟩ = some (.string M) /\ w1.cell? ⟨w.heap.size, 1, none⟩ = some (.slice A1 c.es.length k1) /\ w1.cell? ⟨w.heap.size, 2, none⟩ = some (.slice A2 c.vs.length k2) /\ w1.cell? ⟨w.heap.size, 3, none⟩ = some (.slice A3 sp.length k3) /\ w1.cell? ⟨w.heap.size, 4, none⟩ = some (.slice A4 tp.length k4) := by rw [hw1]; simp
 obtain ⟨t0, t3⟩ : w1.cell? ⟨w.heap.size + 1, 0, none⟩ = some (.int .i64 t.fr) /\ w1.cell? ⟨w.heap.size + 1, 3, none⟩ = some (.string O) := by rw [hw1]; simp
 have hz1 : w1.heap.size = w.heap.size + 2 := by rw [hw1]; simp
 have HW := Lib.hid hw1; have HB := Lib.hid hb1;clear hw1 hb1 hM hTE hO h hs hT;generalize targE c t = RT at *
 (try clear HKC); (try clear HH); generalize c.es.length = n1 at *; generalize c.vs.length = n2 at *; generalize sp.length = n3 at *; generalize tp.length = n4 at *
 by_cases h0 : O.data.toList = []
 ·obtain rfl := str_nil h0;have hv : RT = 0 := by rw [HTE.out, if_pos h0]
  have HV := Lib.hid hv;clear hv h0 hf hPR
  go_enter Tryz.func178, Tryz.ntmps178
  go_wp2_with fail
  rw [<- HW.out];go_wp2;go_ret;exact ⟨ret_int HV.out.symm, HB.out⟩
 ·obtain ⟨m, hm, hml⟩ := hf h0;have hne : O.toList.isEmpty = false := by rw [beq_nil]; exact decide_eq_false h0
  rw [hm] at HTE t0 HW ⊢;rcases hPR with h1 | ⟨j, hj, hjl⟩
  ·have hv : RT = 2 := by rw [HTE.out, if_neg h0, if_pos h1]
   have HV := Lib.hid hv;rw [h1] at HPL;clear hv h0 h1 hm hf
   go_enter Tryz.func178, Tryz.ntmps178
   go_wp2_with fail
   rw [<- HW.out]
   go_wp2_with fail
   refine (HPL.out _ HB.out).mono ?_;rintro e w2 ⟨rfl, hb2⟩;have HB2 := Lib.hid (HB.out.trans (hb2.mono HB.out.size)); clear hb2;go_wp2;go_ret;exact ⟨ret_int HV.out.symm, HB2.out⟩
  ·obtain ⟨DM, hDM⟩ : ∃ x, Tr.dom (dC c.ss) (kC c.ss) m j = x := ⟨_, rfl⟩
   have hv : RT = unE (DM != -1) 9 := by
    rw [HTE.out, if_neg h0, hj, if_neg (by omega), Int.toNat_natCast, Int.toNat_natCast, hDM];unfold unE;by_cases hd : DM = -1
    ·rw [if_neg (fun h => h hd), if_neg (by rw [hd]; decide)]
    ·rw [if_pos hd, if_pos (bne_iff_ne.2 hd)]
   have HV := Lib.hid hv;have HD := Lib.hid (HDM.out m j hml hjl);rw [hDM] at HD;rw [hj] at HPL;clear hv h0 hm hf hj hDM hml hjl
   go_enter Tryz.func178, Tryz.ntmps178
   go_wp2_with fail
   rw [<- HW.out]
   go_wp2_with fail
   refine (HPL.out _ HB.out).mono ?_;rintro e w2 ⟨rfl, hb2⟩;replace d3 := (hb2.cell (cell_lt d3)).trans d3;replace t0 := (hb2.cell (cell_lt t0)).trans t0;have HB2 := Lib.hid (HB.out.trans (hb2.mono HB.out.size)); clear hb2 d0 d1 d2 d4 t3
   go_wp2_with fail
   refine (HD.out _ HB2.out).mono ?_;rintro e w3 ⟨rfl, hb3⟩;have HB3 := Lib.hid (HB2.out.trans (hb3.mono HB2.out.size)); clear hb3
   go_wp2_with fail
   refine (unl_any _ 9 _).mono ?_;rintro e w4 ⟨rfl, hb4⟩;have HB4 := Lib.hid (HB3.out.trans (hb4.mono HB3.out.size)); clear hb4;go_wp2;go_ret;exact ⟨ret_int HV.out.symm, HB4.out⟩
def waitB (c : CH) (e : List UInt8) : Bool :=
 decide (e = []) || (decide (e = wError) || (decide (e ∈ c.es) || (Lib.hasPrefix e wDone && (decide (placeC c.ss (Lib.trimPrefix e wDone) ≠ -1) && decide (Tr.parentP (kC c.ss (placeC c.ss (Lib.trimPrefix e wDone)).toNat))))))
theorem str_lit {X : ByteArray} {l : List UInt8} (h : X.data.toList = l) : X = ⟨l.toArray⟩ := by apply ByteArray.ext; apply Array.toList_inj.1; rw [h]
theorem beq_lit (X : ByteArray) (l : List UInt8) : (X.toList == l) = decide (X.data.toList = l) := by
 rw [Lib.toList_data, Bool.eq_iff_iff, beq_iff_eq, decide_eq_true_iff]
set_option maxHeartbeats 4000000 in
theorem mayWait_any {w : World} {c : CH} {eV vV sV tV : Value} {sp : List SP} {tp : List TP} (h : ChM w c eV vV sV tV sp tp) (hs : Sm c sp tp) (E : ByteArray) :
 Calls Tryz.prog 176 #[chA c eV vV sV tV, .string E] w fun e w' => e = .returned (.bool (waitB c E.data.toList)) /\ Below w.heap.size w w' := by
 have hss := hs.ss; have hes := hs.es;have HCT := Lib.hid (fun W (hW : Below w.heap.size w W) => strContains_any _ c.es E W (h.below hW).rdW (by omega));obtain ⟨P, hP⟩ : ∃ P : ByteArray, P = ⟨(Lib.trimPrefix E.data.toList wDone).toArray⟩ := ⟨_, rfl⟩
 have hPl : P.data.toList = Lib.trimPrefix E.data.toList wDone := by rw [hP]
 have HCP : Hid (∀ W, Calls Tryz.prog 199 #[.string E, .string ⟨#[100, 111, 110, 101, 46]⟩] W fun e w' => e = .returned (.tuple #[.string P, .bool (Lib.hasPrefix E.data.toList wDone)]) /\ w' = W) := fun W => by rw [hP]; exact Tryz.strings_CutPrefix E ⟨#[100, 111, 110, 101, 46]⟩ W
 have HPL := Lib.hid (fun W (hW : Below w.heap.size w W) => place_any (h.below hW) (by omega) P);have hPR := place_range h P.data.toList;have hWB : waitB c E.data.toList = (decide (E.data.toList = []) || (decide (E.data.toList = wError) || (decide (E.data.toList ∈ c.es) || (Lib.hasPrefix E.data.toList wDone && (decide (placeC c.ss P.data.toList ≠ -1) && decide (Tr.parentP (kC c.ss (placeC c.ss P.data.toList).toNat))))))) := by rw [hPl]; rfl
 have HWB := Lib.hid hWB;have HH := Lib.hid h;obtain ⟨M, A1, A2, A3, A4, k1, k2, k3, k4, w1, hM, rfl, rfl, rfl, rfl, hw1, hb1, hz1, d0, d1, d2, d3, d4⟩ := box_ch h;unfold chA at *
 rw [hM] at HPL ⊢;have HW := Lib.hid hw1; have HB := Lib.hid hb1;have HKC := Lib.hid (fun j (hj : j < sp.length) => kC_sp h hj);clear hw1 hb1 hM hWB h hs hPl hP;generalize waitB c E.data.toList = RW at *
 generalize Lib.hasPrefix E.data.toList wDone = hp at *
 by_cases h0 : E.data.toList = []
 ·have hv : RW = true := by rw [HWB.out, decide_eq_true h0]; rfl
  have HV := Lib.hid hv;obtain rfl := str_nil h0;clear hv h0 hPR
  (try clear HKC); (try clear HH); generalize c.es.length = n1 at *; generalize c.vs.length = n2 at *; generalize sp.length = n3 at *; generalize tp.length = n4 at *
  go_enter Tryz.func176, Tryz.ntmps176
  go_wp2_with fail
  rw [<- HW.out];go_wp2;go_ret;exact ⟨ret_bool HV.out.symm, HB.out⟩
 have q0 : E.toList.isEmpty = false := by rw [beq_nil]; exact decide_eq_false h0
 by_cases h5 : E.data.toList = wError
 ·have hv : RW = true := by rw [HWB.out, decide_eq_true h5, decide_eq_false h0]; rfl
  have HV := Lib.hid hv;obtain rfl := str_lit h5;clear hv h0 h5 hPR
  (try clear HKC); (try clear HH); generalize c.es.length = n1 at *; generalize c.vs.length = n2 at *; generalize sp.length = n3 at *; generalize tp.length = n4 at *
  go_enter Tryz.func176, Tryz.ntmps176
  go_wp2_with fail
  rw [<- HW.out];go_wp2;go_ret;exact ⟨ret_bool HV.out.symm, HB.out⟩
 have q5 : (E.toList == [101, 114, 114, 111, 114]) = false := by rw [beq_lit]; exact decide_eq_false h5
 by_cases hm : E.data.toList ∈ c.es
 ·have hv : RW = true := by rw [HWB.out, decide_eq_true hm, decide_eq_false h0, decide_eq_false h5]; rfl
  have HV := Lib.hid hv;have HMM := Lib.hid (decide_eq_true hm);clear hv h0 h5 hm hPR
  (try clear HKC); (try clear HH); generalize c.es.length = n1 at *; generalize c.vs.length = n2 at *; generalize sp.length = n3 at *; generalize tp.length = n4 at *
  go_enter Tryz.func176, Tryz.ntmps176
  go_wp2_with fail
  rw [<- HW.out]
  go_wp2_with fail
  refine (HCT.out _ HB.out).mono ?_;rintro e w2 ⟨rfl, h2⟩;obtain rfl := h2;rw [HMM.out];go_wp2;go_ret;exact ⟨ret_bool HV.out.symm, HB.out⟩
 have hv0 : RW = (hp && (decide (placeC c.ss P.data.toList ≠ -1) && decide (Tr.parentP (kC c.ss (placeC c.ss P.data.toList).toNat)))) := by rw [HWB.out, decide_eq_false hm, decide_eq_false h0, decide_eq_false h5]; rfl
 have HV0 := Lib.hid hv0;have HMM := Lib.hid (decide_eq_false hm);clear hv0 h0 h5 hm;cases hp with
 | false =>
  have HV := Lib.hid (show RW = false by rw [HV0.out]; rfl);clear hPR
  (try clear HKC); (try clear HH); generalize c.es.length = n1 at *; generalize c.vs.length = n2 at *; generalize sp.length = n3 at *; generalize tp.length = n4 at *
  go_enter Tryz.func176, Tryz.ntmps176
  go_wp2_with fail
  rw [<- HW.out]
  go_wp2_with fail
  refine (HCT.out _ HB.out).mono ?_;rintro e w2 ⟨rfl, h2⟩;obtain rfl := h2;rw [HMM.out]
  go_wp2_with fail
  refine (HCP.out _).mono ?_;rintro e w3 ⟨rfl, h3⟩;obtain rfl := h3;go_wp2;go_ret;exact ⟨ret_bool HV.out.symm, HB.out⟩
 | true =>
  rcases hPR with h1 | ⟨j, hj, hjl⟩
  ·have HV := Lib.hid (show RW = false by rw [HV0.out, h1]; rfl);rw [h1] at HPL;clear h1
   (try clear HKC); (try clear HH); generalize c.es.length = n1 at *; generalize c.vs.length = n2 at *; generalize sp.length = n3 at *; generalize tp.length = n4 at *
   go_enter Tryz.func176, Tryz.ntmps176
   go_wp2_with fail
   rw [<- HW.out]
   go_wp2_with fail
   refine (HCT.out _ HB.out).mono ?_;rintro e w2 ⟨rfl, h2⟩;obtain rfl := h2;rw [HMM.out]
   go_wp2_with fail
   refine (HCP.out _).mono ?_;rintro e w3 ⟨rfl, h3⟩;obtain rfl := h3
   go_wp2_with fail
   refine (HPL.out _ HB.out).mono ?_;rintro e w4 ⟨rfl, hb4⟩;have HB4 := Lib.hid (HB.out.trans (hb4.mono HB.out.size)); clear hb4;go_wp2;go_ret;exact ⟨ret_bool HV.out.symm, HB4.out⟩
  ·obtain ⟨b, o, X, Y, E4, m4, q4, E5, m5, q5, hA, -, -, -, -, -, -, -, -, e1, -, -, -, -⟩ := st_at (HH.out.below HB.out).ss rfl (HH.out.below HB.out).sd hjl;subst hA;rw [<- HKC.out j hjl] at e1;have hv : RW = decide (Tr.parentP (kC c.ss j)) := by
    rw [HV0.out, hj, Int.toNat_natCast, decide_eq_true (show ¬ (j : Int) = -1 by omega)]; simp
   have HV := Lib.hid hv;have HPA := Lib.hid (vParent_any (kC c.ss j));have q1 : ((j : Int) != -1) = true := bne_iff_ne.2 (by omega);rw [hj] at HPL;clear hv hj;generalize kC c.ss j = kj at *
   (try clear HKC); (try clear HH); generalize c.es.length = n1 at *; generalize c.vs.length = n2 at *; generalize sp.length = n3 at *; generalize tp.length = n4 at *
   go_enter Tryz.func176, Tryz.ntmps176
   go_wp2_with fail
   rw [<- HW.out]
   go_wp2_with fail
   refine (HCT.out _ HB.out).mono ?_;rintro e w2 ⟨rfl, h2⟩;obtain rfl := h2;rw [HMM.out]
   go_wp2_with fail
   refine (HCP.out _).mono ?_;rintro e w3 ⟨rfl, h3⟩;obtain rfl := h3
   go_wp2_with fail
   refine (HPL.out _ HB.out).mono ?_;rintro e w4 ⟨rfl, hb4⟩;replace d3 := (hb4.cell (cell_lt d3)).trans d3;replace e1 := (hb4.cell (cell_lt e1)).trans e1;have HB4 := Lib.hid (HB.out.trans (hb4.mono HB.out.size)); clear hb4 d0 d1 d2 d4
   go_wp2_with fail
   refine (HPA.out _).mono ?_;rintro e w5 ⟨rfl, h5⟩;obtain rfl := h5;go_wp2;go_ret;exact ⟨ret_bool HV.out.symm, HB4.out⟩
theorem frC_tp {w : World} {c : CH} {eV vV sV tV : Value} {sp : List SP} {tp : List TP} (h : ChM w c eV vV sV tV sp tp) {k : Nat} (hk : k < tp.length) : frC c.ts k = (tp[k]).1.fr /\ c.ts[k]? = some (tp[k]).1 := by
 have e : c.ts[k]? = some (tp[k]).1 := by rw [<- h.tsE, List.getElem?_map, List.getElem?_eq_getElem hk]; rfl
 exact ⟨by unfold frC; rw [e], e⟩
theorem tr_at {w : World} {A : Option Addr} {m cp : Nat} {tp : List TP} {n : Nat} (hR : Inn w 5 (.slice A m cp) n (flatT tp)) (hn : tp.length = n) (hd : ∀ p ∈ tp, TrR w p) {k : Nat} (hk : k < tp.length) :
 ∃ b o E O G ng kg Aa na ka, A = some ⟨b, o, none⟩ /\ b < w.heap.size /\ E.data.toList = (tp[k]).1.ev /\ O.data.toList = (tp[k]).1.to /\ Hid (ng = (tp[k]).1.gd.length) /\ Hid (na = (tp[k]).1.ac.length) /\ (tp[k]).2.1 = .slice G ng kg /\ (tp[k]).2.2 = .slice Aa na ka /\
  w.cell? ⟨b, o + k * 5, none⟩ = some (.int .i64 (tp[k]).1.fr) /\ w.cell? ⟨b, o + k * 5 + 1, none⟩ = some (.string E) /\ w.cell? ⟨b, o + k * 5 + 2, none⟩ = some (.slice G ng kg) /\ w.cell? ⟨b, o + k * 5 + 3, none⟩ = some (.string O) /\ w.cell? ⟨b, o + k * 5 + 4, none⟩ = some (.slice Aa na ka) := by
 subst hn;obtain ⟨b, o, rfl, hb, hc⟩ := hR.at_ hk;obtain ⟨A4, c4, e4⟩ := (hd _ (List.getElem_mem hk)).1.form;obtain ⟨A5, c5, e5⟩ := (hd _ (List.getElem_mem hk)).2.form;obtain ⟨X, hX, hXl⟩ := bstr_some (tp[k]).1.ev;obtain ⟨Y, hY, hYl⟩ := bstr_some (tp[k]).1.to;have f := fun j u (h : (trV tp[k])[j]? = some u) (hj : j < 5) => hc j u ((flatM_at trV 5 (fun _ => rfl) hk hj).trans h)
 have f2 := f 2 (tp[k]).2.1 rfl (by omega);have f4 := f 4 (tp[k]).2.2 rfl (by omega);have f1 := f 1 (bstr (tp[k]).1.ev) rfl (by omega);have f3 := f 3 (bstr (tp[k]).1.to) rfl (by omega);rw [e4] at f2; rw [e5] at f4; rw [hX] at f1; rw [hY] at f3;exact ⟨b, o, X, Y, A4, _, c4, A5, _, c5, rfl, hb, hXl, hYl, Lib.hid rfl, Lib.hid rfl, e4, e5, f 0 _ rfl (by omega), f1, f2, f3, f4⟩
def standB (c : CH) (i : Nat) : Bool :=
 (!decide (frC c.ts i < 0) && (!decide ((c.ss.length : Int) <= frC c.ts i) && !(decide (0 < i) && decide (frC c.ts i < frC c.ts (i - 1))))) && (decide (kC c.ss (frC c.ts i).toNat = 1) || decide (Tr.parentP (kC c.ss (frC c.ts i).toNat)))
theorem stand_iff {c : CH} {i : Nat} (hi : i < c.ts.length) : standB c i = decide (standP c i) := by
 rw [Bool.eq_iff_iff, decide_eq_true_iff];unfold standB standP fromP;have e : frC c.ts i = (c.ts[i]).fr := by unfold frC; rw [List.getElem?_eq_getElem hi]
 rw [List.getElem?_eq_getElem hi, e];simp only [Bool.and_eq_true, Bool.or_eq_true, Bool.not_eq_true', decide_eq_false_iff_not, decide_eq_true_eq, Bool.and_eq_false_iff];constructor
 ·rintro ⟨⟨h1, h2, h3⟩, h4⟩;exact ⟨⟨by omega, by omega, h4⟩, fun h0 => by rcases h3 with h | h <;> omega⟩
 ·rintro ⟨⟨h1, h2, h3⟩, h4⟩;refine ⟨⟨by omega, by omega, ?_⟩, h3⟩;by_cases h0 : 0 < i
  ·exact Or.inr (by have := h4 h0; omega)
  ·exact Or.inl h0
set_option maxHeartbeats 4000000 in
theorem mayStand_any {w : World} {c : CH} {eV vV sV tV : Value} {sp : List SP} {tp : List TP} (h : ChM w c eV vV sV tV sp tp) (hs : Sm c sp tp) (i : Nat) (hi : i < tp.length) :
 Calls Tryz.prog 175 #[chA c eV vV sV tV, .int .i64 i] w fun e w' => e = .returned (.bool (decide (standP c i))) /\ Below w.heap.size w w' := by
 rw [<- stand_iff (by rw [<- h.tLen]; exact hi)];have hss := hs.ss; have hts := hs.ts;have HH := Lib.hid h;have hfr := (frC_tp h hi).1;obtain ⟨M, A1, A2, A3, A4, k1, k2, k3, k4, w1, hM, rfl, rfl, rfl, rfl, hw1, hb1, hz1, d0, d1, d2, d3, d4⟩ := box_ch h;obtain ⟨b, o, E, O, G, ng, kg, Aa, na, ka, rfl, -, -, -, -, -, -, -, t0, -, -, -, -⟩ := tr_at (h.below hb1).ts rfl (h.below hb1).td hi;rw [<- hfr] at t0;have hSB : standB c i = ((!decide (frC c.ts i < 0) && (!decide ((sp.length : Int) <= frC c.ts i) && !(decide (0 < i) && decide (frC c.ts i < frC c.ts (i - 1))))) && (decide (kC c.ss (frC c.ts i).toNat = 1) || decide (Tr.parentP (kC c.ss (frC c.ts i).toNat)))) := by rw [h.sLen]; rfl
 have HSB := Lib.hid hSB;have HPV : Hid (0 < i -> w1.cell? ⟨b, o + (i - 1) * 5, none⟩ = some (.int .i64 (frC c.ts (i - 1)))) := fun h0 => by
  have hi1 : i - 1 < tp.length := by omega
  obtain ⟨b', o', _, _, _, _, _, _, _, _, hA, -, -, -, -, -, -, -, u0, -, -, -, -⟩ := tr_at (h.below hb1).ts rfl (h.below hb1).td hi1;injection hA with hA
  injection hA with e1 e2
  subst e1; subst e2;rw [(frC_tp h hi1).1]; exact u0
 unfold chA;rw [hM];have HW := Lib.hid hw1; have HB := Lib.hid hb1;have HKC := Lib.hid (fun j (hj : j < sp.length) => kC_sp h hj);clear hM hw1 hb1 h hs hSB hfr;generalize standB c i = RS at *
 generalize frC c.ts i = fr at *
 by_cases h0 : fr < 0
 ·have q0 : decide (fr < 0) = true := decide_eq_true h0;have HV := Lib.hid (show RS = false by rw [HSB.out, q0]; rfl);clear h0
  (try clear HKC); (try clear HH); generalize c.es.length = n1 at *; generalize c.vs.length = n2 at *; generalize sp.length = n3 at *; generalize tp.length = n4 at *
  go_enter Tryz.func175, Tryz.ntmps175
  go_upto_region 1 with fail
  rw [<- HW.out];go_wp2;go_ret;exact ⟨ret_bool HV.out.symm, HB.out⟩
 have q0 : decide (fr < 0) = false := decide_eq_false h0;by_cases h1 : (sp.length : Int) <= fr
 ·have q1 : decide ((sp.length : Int) <= fr) = true := decide_eq_true h1;have HV := Lib.hid (show RS = false by rw [HSB.out, q0, q1]; rfl);clear h0 h1
  (try clear HKC); (try clear HH); generalize c.es.length = n1 at *; generalize c.vs.length = n2 at *; generalize sp.length = n3 at *; generalize tp.length = n4 at *
  go_enter Tryz.func175, Tryz.ntmps175
  go_upto_region 1 with fail
  rw [<- HW.out];go_wp2;go_ret;exact ⟨ret_bool HV.out.symm, HB.out⟩
 have q1 : decide ((sp.length : Int) <= fr) = false := decide_eq_false h1;obtain ⟨m, hm⟩ : ∃ m : Nat, fr = m := ⟨fr.toNat, by omega⟩
 subst hm;have hml : m < sp.length := by omega
 obtain ⟨bs, os, X, Y, E4, m4, q4, E5, m5, q5, rfl, -, -, -, -, -, -, -, -, e1, -, -, -, -⟩ := st_at (HH.out.below HB.out).ss rfl (HH.out.below HB.out).sd hml;rw [<- HKC.out m hml] at e1;have hSB2 : RS = (!(decide (0 < i) && decide ((m : Int) < frC c.ts (i - 1))) && (decide (kC c.ss m = 1) || decide (Tr.parentP (kC c.ss m)))) := by rw [HSB.out, q0, q1, Int.toNat_natCast]; rfl
 have HS2 := Lib.hid hSB2;have HPA := Lib.hid (vParent_any (kC c.ss m));clear hSB2 h0 h1;generalize kC c.ss m = km at *
 rcases Nat.eq_zero_or_pos i with hi0 | hi0
 ·subst hi0;rw [Nat.zero_mul, Nat.add_zero] at t0;have hv : RS = (decide (km = 1) || decide (Tr.parentP km)) := by rw [HS2.out]; rfl
  have HV := Lib.hid hv;clear hv
  (try clear HKC); (try clear HH); generalize c.es.length = n1 at *; generalize c.vs.length = n2 at *; generalize sp.length = n3 at *; generalize tp.length = n4 at *
  by_cases hk1 : km = 1
  ·subst hk1
   go_enter Tryz.func175, Tryz.ntmps175
   go_upto_region 1 with fail
   rw [<- HW.out];go_wp2;go_ret;exact ⟨ret_bool (by rw [HV.out]; rfl), HB.out⟩
  ·have q5 := int_ne hk1;have hv2 : RS = decide (Tr.parentP km) := by rw [HV.out, decide_eq_false hk1]; rfl
   have HV2 := Lib.hid hv2;clear hv2 hk1
   go_enter Tryz.func175, Tryz.ntmps175
   go_upto_region 1 with fail
   rw [<- HW.out]
   go_wp2_with fail
   refine (HPA.out _).mono ?_;rintro e w2 ⟨rfl, h2⟩;obtain rfl := h2;go_wp2;go_ret;exact ⟨ret_bool HV2.out.symm, HB.out⟩
 ·have u0 := HPV.out hi0;generalize frC c.ts (i - 1) = fp at *
  have q2 : decide ((0 : Int) < (i : Int)) = true := decide_eq_true (by omega);have hwi : IntKind.i64.wrap ((i : Int) - 1) = ((i - 1 : Nat) : Int) := by rw [show ((i : Int) - 1) = ((i - 1 : Nat) : Int) by omega]; exact IntWalk.i64_in _ (by omega)
  obtain ⟨j, hj⟩ : ∃ j, i - 1 = j := ⟨_, rfl⟩
  obtain rfl : i = j + 1 := by omega
  rw [show j + 1 - 1 = j from rfl] at u0 hwi;have hjl : j < tp.length := by omega
  by_cases h3 : (m : Int) < fp
  ·have q3 : decide ((m : Int) < fp) = true := decide_eq_true h3;have HV := Lib.hid (show RS = false by rw [HS2.out, q3, decide_eq_true hi0]; rfl);clear h3
   (try clear HKC); (try clear HH); generalize c.es.length = n1 at *; generalize c.vs.length = n2 at *; generalize sp.length = n3 at *; generalize tp.length = n4 at *
   go_enter Tryz.func175, Tryz.ntmps175
   go_upto_region 1 with fail
   rw [<- HW.out];go_wp2;go_ret;exact ⟨ret_bool HV.out.symm, HB.out⟩
  ·have q3 : decide ((m : Int) < fp) = false := decide_eq_false h3;have hv : RS = (decide (km = 1) || decide (Tr.parentP km)) := by rw [HS2.out, q3, Bool.and_false]; rfl
   have HV := Lib.hid hv;clear hv h3
   (try clear HKC); (try clear HH); generalize c.es.length = n1 at *; generalize c.vs.length = n2 at *; generalize sp.length = n3 at *; generalize tp.length = n4 at *
   by_cases hk1 : km = 1
   ·subst hk1
    go_enter Tryz.func175, Tryz.ntmps175
    go_upto_region 1 with fail
    rw [<- HW.out];go_wp2;go_ret;exact ⟨ret_bool (by rw [HV.out]; rfl), HB.out⟩
   ·have q5 := int_ne hk1;have hv2 : RS = decide (Tr.parentP km) := by rw [HV.out, decide_eq_false hk1]; rfl
    have HV2 := Lib.hid hv2;clear hv2 hk1
    go_enter Tryz.func175, Tryz.ntmps175
    go_upto_region 1 with fail
    rw [<- HW.out]
    go_wp2_with fail
    refine (HPA.out _).mono ?_;rintro e w2 ⟨rfl, h2⟩;obtain rfl := h2;go_wp2;go_ret;exact ⟨ret_bool HV2.out.symm, HB.out⟩
end Go.Proofs.YtcnfcililiehlaaGreatDoor.Ch.Vd
namespace Go.Proofs.YtcnfcililiehlaaGreatDoor.Ch.Vd
open Go.RowKit
set_option maxRecDepth 100000
theorem cut_pre {e : List UInt8} (h : Lib.hasPrefix e wDone = true) : e = wDone ++ Lib.trimPrefix e wDone := by
 unfold Lib.trimPrefix;rw [if_pos h];unfold Lib.hasPrefix at h;have := List.isPrefixOf_iff_prefix.1 h;obtain ⟨r, hr⟩ := this;rw [<- hr];simp
theorem pre_of (n : List UInt8) : Lib.hasPrefix (wDone ++ n) wDone = true /\ Lib.trimPrefix (wDone ++ n) wDone = n := by
 have h : Lib.hasPrefix (wDone ++ n) wDone = true := by
  unfold Lib.hasPrefix;exact List.isPrefixOf_iff_prefix.2 ⟨n, rfl⟩
 refine ⟨h, ?_⟩;unfold Lib.trimPrefix;rw [if_pos h];simp
theorem nodup_inj {l : List (List UInt8)} (hn : l.Nodup) {i j : Nat} (hi : i < l.length) (hj : j < l.length) (h : l[i] = l[j]) : i = j := by
 have hp := (List.nodup_iff_pairwise_ne.1 hn);rw [List.pairwise_iff_getElem] at hp;rcases Nat.lt_trichotomy i j with hk | hk | hk
 ·exact absurd h (hp i j hi hj hk)
 ·exact hk
 ·exact absurd h.symm (hp j i hj hi hk)
theorem place_at {ss : List SC} (hn : (ss.map SC.nm).Nodup) {j : Nat} (hj : j < ss.length) : placeC ss ss[j].nm = (j : Int) := by
 unfold placeC;rcases ix_find (isS ss[j].nm) ss 0 with ⟨_, h2⟩ | ⟨k, hk, h1, h2⟩
 ·have := List.find?_eq_none.1 h2 ss[j] (List.getElem_mem hj);simp [isS] at this
 ·rw [h1];have h3 := List.find?_some h2;simp [isS] at h3;have h4 : (ss.map SC.nm)[k]'(by rw [List.length_map]; exact hk) = (ss.map SC.nm)[j]'(by rw [List.length_map]; exact hj) := by rw [List.getElem_map, List.getElem_map]; exact h3
  have : k = j := nodup_inj hn _ _ h4;simp [this]
theorem place_name {ss : List SC} {n : List UInt8} (h : placeC ss n ≠ -1) : ∃ j, ∃ hj : j < ss.length, placeC ss n = (j : Int) /\ ss[j].nm = n := by
 unfold placeC at *
 rcases ix_find (isS n) ss 0 with ⟨h1, _⟩ | ⟨k, hk, h1, h2⟩
 ·exact absurd h1 h
 ·have h3 := List.find?_some h2;simp [isS] at h3;exact ⟨k, hk, by rw [h1]; simp, h3⟩
theorem wait_iff {c : CH} (hn : (stN c).Nodup) (e : List UInt8) : waitB c e = decide (waitP c e) := by
 rw [Bool.eq_iff_iff, decide_eq_true_iff];unfold waitB waitP;simp only [Bool.or_eq_true, Bool.and_eq_true, decide_eq_true_eq];constructor
 ·rintro (h | h | h | ⟨h1, h2, h3⟩)
  ·exact Or.inl h
  ·exact Or.inr (Or.inl h)
  ·exact Or.inr (Or.inr (Or.inl h))
  ·obtain ⟨j, hj, hp, hnm⟩ := place_name h2;rw [hp, Int.toNat_natCast, kC_at hj] at h3;exact Or.inr (Or.inr (Or.inr ⟨c.ss[j], List.getElem_mem hj, h3, by rw [hnm]; exact cut_pre h1⟩))
 ·rintro (h | h | h | ⟨s, hs, hp, he⟩)
  ·exact Or.inl h
  ·exact Or.inr (Or.inl h)
  ·exact Or.inr (Or.inr (Or.inl h))
  ·obtain ⟨j, hj, rfl⟩ := List.getElem_of_mem hs;obtain ⟨h1, h2⟩ := pre_of c.ss[j].nm;rw [<- he] at h1 h2;refine Or.inr (Or.inr (Or.inr ⟨h1, ?_⟩));rw [h2, place_at hn hj];exact ⟨by omega, by rw [Int.toNat_natCast, kC_at hj]; exact hp⟩
structure Sb (c : CH) : Prop where
 en : ∀ s ∈ c.ss, s.en.length <= 4611686018427387904 /\ s.ex.length <= 4611686018427387904
 ac : ∀ t ∈ c.ts, t.ac.length <= 4611686018427387904
set_option maxHeartbeats 8000000 in
theorem transition_any {w : World} {c : CH} {eV vV sV tV : Value} {sp : List SP} {tp : List TP} (h : ChM w c eV vV sV tV sp tp) (hs : Sm c sp tp) (hsb : Sb c) (hT : treeP c) (hnd : (stN c).Nodup) (i : Nat) (hi : i < tp.length) :
 Calls Tryz.prog 141 #[chA c eV vV sV tV, .int .i64 i] w fun e w' => e = .returned (.int .i64 (transE c i)) /\ Below w.heap.size w w' := by
 have hts := hs.ts;have HMS := Lib.hid (fun W (hW : Below w.heap.size w W) => mayStand_any (h.below hW) hs i hi);obtain ⟨_, hti⟩ := frC_tp h hi;have hil : i < c.ts.length := by rw [<- h.tLen]; exact hi
 have htm : (tp[i]).1 ∈ c.ts := by rw [<- h.tsE]; exact List.mem_map.2 ⟨_, List.getElem_mem hi, rfl⟩
 have htd := h.td _ (List.getElem_mem hi);obtain ⟨M, A1, A2, A3, A4, k1, k2, k3, k4, w1, hM, rfl, rfl, rfl, rfl, hw1, hb1, hz1, d0, d1, d2, d3, d4⟩ := box_ch h;obtain ⟨b, o, E, O, G, ng, kg, Aa, na, ka, rfl, -, hE, hO, hng, hna, hg1, ha1, t0, t1, t2, t3, t4⟩ := tr_at (h.below hb1).ts rfl (h.below hb1).td hi;have HMW := Lib.hid (fun W (hW : Below w.heap.size w W) => mayWait_any (h.below hW) hs E);have HGD := Lib.hid (fun W (hW : Below w.heap.size w W) => guard_any (h.below hW) hs (tp[i]).2.1 (tp[i]).1.gd (htd.1.below hW));have HTG := Lib.hid (fun (hf : standP c i) W (hW : Below w.heap.size w W) => target_any (h.below hW) hs hT (tp[i]).1 (.slice G ng kg) (.slice Aa na ka) E O hO ⟨_, _, _, rfl⟩ ⟨_, _, _, rfl⟩ (fun _ => by
  unfold standP at hf;rw [hti] at hf;obtain ⟨⟨h1, h2, _⟩, _⟩ := hf;exact ⟨(tp[i]).1.fr.toNat, by omega, by rw [h.sLen]; omega⟩))
 have HBL := Lib.hid (fun W (hW : Below w.heap.size w W) => block_any (h.below hW) hs (tp[i]).2.2 (tp[i]).1.ac (htd.2.below hW) (hsb.ac _ htm));have hTE : transE c i = if ¬ standP c i then 1 else tE c (tp[i]).1 := by unfold transE; rw [hti]
 have hTT : tE c (tp[i]).1 = if ¬ waitP c E.data.toList then 2 else orE (guardE c (tp[i]).1.gd) (orE (targE c (tp[i]).1) (blockE c (tp[i]).1.ac)) := by rw [hE]; rfl
 rw [hg1] at HGD;rw [ha1] at HBL;have HWT := Lib.hid (wait_iff hnd E.data.toList);unfold chA at *
 rw [hM] at HMS HMW HGD HTG HBL ⊢;obtain ⟨w2, hw2⟩ : ∃ W, W = w1.alloc (.cells #[.int .i64 (tp[i]).1.fr, .string E, .slice G ng kg, .string O, .slice Aa na ka] 121) := ⟨_, rfl⟩
 have HTE := Lib.hid hTE; have HTT := Lib.hid hTT;have HW := Lib.hid hw1; have HB := Lib.hid hb1;clear hM hw1 h hs hsb hT hnd hTE hTT htd htm hti hE hO hg1 ha1 hil hng hna;generalize transE c i = RT at *
 generalize tE c (tp[i]).1 = TE at *
 generalize guardE c (tp[i]).1.gd = GE at *
 generalize targE c (tp[i]).1 = GT at *
 generalize blockE c (tp[i]).1.ac = BE at *
 generalize (tp[i]).1.fr = fr at *
 generalize c.es.length = n1 at *; generalize c.vs.length = n2 at *; generalize sp.length = n3 at *; generalize tp.length = n4 at *
 have HX := Lib.hid hw2;by_cases hst : standP c i;rotate_left
 ·have HV := Lib.hid (show RT = 1 by rw [HTE.out, if_pos hst]);have HPS := Lib.hid (decide_eq_false hst);clear hst hb1 hw2
  go_enter Tryz.func141, Tryz.ntmps141
  go_wp2_with fail
  rw [<- HW.out]
  go_wp2_with fail
  refine (HMS.out _ HB.out).mono ?_;rintro e w3 ⟨rfl, hb3⟩;rw [HPS.out];have HB3 := Lib.hid (HB.out.trans (hb3.mono HB.out.size)); clear hb3;go_wp2;go_ret;exact ⟨ret_int HV.out.symm, HB3.out⟩
 have HV0 := Lib.hid (show RT = TE by rw [HTE.out, if_neg (fun k => k hst)]);have HPS := Lib.hid (decide_eq_true hst);have HTG := Lib.hid (HTG.out hst);clear hst hb1 hw2 HX w2
 go_enter Tryz.func141, Tryz.ntmps141
 go_wp2_with fail
 rw [<- HW.out]
 go_wp2_with fail
 refine (HMS.out _ HB.out).mono ?_;rintro e w3 ⟨rfl, hb3⟩;rw [HPS.out];have HB3 := Lib.hid (HB.out.trans (hb3.mono HB.out.size));replace t0 := (hb3.cell (cell_lt t0)).trans t0;replace t1 := (hb3.cell (cell_lt t1)).trans t1;replace t2 := (hb3.cell (cell_lt t2)).trans t2;replace t3 := (hb3.cell (cell_lt t3)).trans t3;replace t4 := (hb3.cell (cell_lt t4)).trans t4;replace d0 := (hb3.cell (cell_lt d0)).trans d0;replace d1 := (hb3.cell (cell_lt d1)).trans d1;replace d2 := (hb3.cell (cell_lt d2)).trans d2;replace d3 := (hb3.cell (cell_lt d3)).trans d3;replace d4 := (hb3.cell (cell_lt d4)).trans d4;obtain ⟨w2, hw2⟩ : ∃ W, W = w3.alloc (.cells #[.int .i64 fr, .string E, .slice G ng kg, .string O, .slice Aa na ka] 121) := ⟨_, rfl⟩
 have hb2 : Below w3.heap.size w3 w2 := hw2 ▸ (Below.refl _ _).alloc (Nat.le_refl _) _;obtain ⟨u0, u1, u2, u3, u4⟩ : w2.cell? ⟨w3.heap.size, 0, none⟩ = some (.int .i64 fr) /\ w2.cell? ⟨w3.heap.size, 1, none⟩ = some (.string E) /\ w2.cell? ⟨w3.heap.size, 2, none⟩ = some (.slice G ng kg) /\ w2.cell? ⟨w3.heap.size, 3, none⟩ = some (.string O) /\ w2.cell? ⟨w3.heap.size, 4, none⟩ = some (.slice Aa na ka) := by rw [hw2]; simp
 have HF : Hid (∀ W, Below w2.heap.size w2 W -> (W.cell? ⟨w.heap.size, 0, none⟩ = some (.string M) /\ W.cell? ⟨w.heap.size, 1, none⟩ = some (.slice A1 n1 k1) /\ W.cell? ⟨w.heap.size, 2, none⟩ = some (.slice A2 n2 k2) /\ W.cell? ⟨w.heap.size, 3, none⟩ = some (.slice A3 n3 k3) /\ W.cell? ⟨w.heap.size, 4, none⟩ = some (.slice (some ⟨b, o, none⟩) n4 k4)) /\
  (W.cell? ⟨w3.heap.size, 0, none⟩ = some (.int .i64 fr) /\ W.cell? ⟨w3.heap.size, 1, none⟩ = some (.string E) /\ W.cell? ⟨w3.heap.size, 2, none⟩ = some (.slice G ng kg) /\ W.cell? ⟨w3.heap.size, 3, none⟩ = some (.string O) /\ W.cell? ⟨w3.heap.size, 4, none⟩ = some (.slice Aa na ka))) := fun W hW => by
  have hc := fun {p : Addr} {v : Value} (hv : w3.cell? p = some v) => (hW.cell (cell_lt ((hb2.cell (cell_lt hv)).trans hv))).trans ((hb2.cell (cell_lt hv)).trans hv)
  exact ⟨⟨hc d0, hc d1, hc d2, hc d3, hc d4⟩, (hW.cell (cell_lt u0)).trans u0, (hW.cell (cell_lt u1)).trans u1, (hW.cell (cell_lt u2)).trans u2, (hW.cell (cell_lt u3)).trans u3, (hW.cell (cell_lt u4)).trans u4⟩
 have HX := Lib.hid hw2; have HB2 := Lib.hid (HB3.out.trans (hb2.mono HB3.out.size));obtain ⟨⟨c0, c1, c2, c3, c4⟩, v0, v1, v2, v3, v4⟩ := HF.out w2 (Below.refl _ _);clear hb3 hw2 hb2 d0 d1 d2 d3 u0 u1 u2 u3 u4
 go_upto_region 4 with fail
 rw [<- HX.out];clear d4 t0 t1 t2 t3 t4
 go_wp2_with fail
 refine (HMW.out _ HB2.out).mono ?_;rintro e w4 ⟨rfl, hb4⟩;rw [HWT.out];have HB4 := Lib.hid (HB2.out.trans (hb4.mono HB2.out.size)); have HC4 := Lib.hid hb4;by_cases hwt : waitP c E.data.toList;rotate_left
 ·have HV := Lib.hid (show RT = 2 by rw [HV0.out, HTT.out, if_pos hwt]);have HPW := Lib.hid (decide_eq_false hwt);rw [HPW.out];clear hwt hb4;go_wp2;go_ret;exact ⟨ret_int HV.out.symm, HB4.out⟩
 have HV1 := Lib.hid (show RT = orE GE (orE GT BE) by rw [HV0.out, HTT.out, if_neg (fun k => k hwt)]);have HPW := Lib.hid (decide_eq_true hwt);rw [HPW.out];obtain ⟨⟨c0, c1, c2, c3, c4⟩, v0, v1, v2, v3, v4⟩ := HF.out w4 hb4;clear hwt hb4
 go_wp2_with fail
 refine (HGD.out _ HB4.out).mono ?_;rintro e w5 ⟨rfl, hb5⟩;have HB5 := Lib.hid (HB4.out.trans (hb5.mono HB4.out.size)); have HC5 := Lib.hid (HC4.out.trans (hb5.mono HC4.out.size));clear hb5;by_cases hge : GE = 0;rotate_left
 ·have HV := Lib.hid (show RT = GE by rw [HV1.out]; exact if_pos hge);have hne := int_ne hge;clear hge;go_wp2;go_ret;exact ⟨ret_int HV.out.symm, HB5.out⟩
 subst hge;obtain ⟨⟨x0, x1, x2, x3, x4⟩, y0, y1, y2, y3, y4⟩ := HF.out w5 HC5.out;clear c0 c1 c2 c3 c4 v0 v1 v2 v3 v4
 go_wp2_with fail
 refine (HTG.out _ HB5.out).mono ?_;rintro e w6 ⟨rfl, hb6⟩;have HB6 := Lib.hid (HB5.out.trans (hb6.mono HB5.out.size)); have HC6 := Lib.hid (HC5.out.trans (hb6.mono HC5.out.size));clear hb6;by_cases hgt : GT = 0;rotate_left
 ·have HV := Lib.hid (show RT = GT by rw [HV1.out]; exact if_pos hgt);have hne := int_ne hgt;clear hgt;go_wp2;go_ret;exact ⟨ret_int HV.out.symm, HB6.out⟩
 subst hgt;have HV := Lib.hid (show RT = BE by rw [HV1.out]; rfl);obtain ⟨⟨c0, c1, c2, c3, c4⟩, v0, v1, v2, v3, v4⟩ := HF.out w6 HC6.out;clear x0 x1 x2 x3 x4 y0 y1 y2 y3 y4
 go_wp2_with fail
 refine (HBL.out _ HB6.out).mono ?_;rintro e w7 ⟨rfl, hb7⟩;have HB7 := Lib.hid (HB6.out.trans (hb7.mono HB6.out.size)); clear hb7;go_wp2;go_ret;exact ⟨ret_int HV.out.symm, HB7.out⟩
end Go.Proofs.YtcnfcililiehlaaGreatDoor.Ch.Vd
