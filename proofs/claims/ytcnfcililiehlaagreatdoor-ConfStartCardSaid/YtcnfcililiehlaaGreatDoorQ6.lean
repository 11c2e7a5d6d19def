import Derived.Test.YtcnfcililiehlaaGreatDoorR1
import Derived.Test.YtcnfcililiehlaaGreatDoorR2
import Derived.Test.YtcnfcililiehlaaGreatDoorR3
import Derived.Test.YtcnfcililiehlaaGreatDoorR4
import Derived.Test.YtcnfcililiehlaaGreatDoorR5
import Derived.Test.YtcnfcililiehlaaGreatDoorR6
import Derived.Test.YtcnfcililiehlaaGreatDoorR7
import Derived.Test.YtcnfcililiehlaaGreatDoorR8
import Derived.Test.YtcnfcililiehlaaGreatDoorR9
import Derived.Test.YtcnfcililiehlaaGreatDoorR10
import Derived.Test.YtcnfcililiehlaaGreatDoorR11
import Derived.Test.YtcnfcililiehlaaGreatDoorR12
import Derived.Test.YtcnfcililiehlaaGreatDoorR13
import Derived.Test.YtcnfcililiehlaaGreatDoorR14
import Derived.Test.YtcnfcililiehlaaGreatDoorR15
import Derived.Test.YtcnfcililiehlaaGreatDoorR16
import Derived.Test.YtcnfcililiehlaaGreatDoorR17
import Derived.Test.YtcnfcililiehlaaGreatDoorR18
import Derived.Test.YtcnfcililiehlaaGreatDoorR19
import Derived.Test.YtcnfcililiehlaaGreatDoorR20
import Derived.Test.YtcnfcililiehlaaGreatDoorR21
import Derived.Test.YtcnfcililiehlaaGreatDoorR22
import Derived.Test.YtcnfcililiehlaaGreatDoorR23
import Derived.Test.YtcnfcililiehlaaGreatDoorR24
import Derived.Test.YtcnfcililiehlaaGreatDoorR25
import Derived.Test.YtcnfcililiehlaaGreatDoorR26
import Derived.Test.YtcnfcililiehlaaGreatDoorR27
import Derived.Test.YtcnfcililiehlaaGreatDoorR28
import Derived.Test.YtcnfcililiehlaaGreatDoorR29
import Derived.Test.YtcnfcililiehlaaGreatDoorR30
import Derived.Test.YtcnfcililiehlaaGreatDoorR31
import Derived.Test.YtcnfcililiehlaaGreatDoorR32
import Derived.Test.YtcnfcililiehlaaGreatDoorR33
import Derived.Test.YtcnfcililiehlaaGreatDoorR34
import Derived.Test.YtcnfcililiehlaaGreatDoorR35
import Derived.Test.YtcnfcililiehlaaGreatDoorR36
import Derived.Test.YtcnfcililiehlaaGreatDoorQ1
import Derived.Test.YtcnfcililiehlaaGreatDoorQ2
import Derived.Test.YtcnfcililiehlaaGreatDoorQ3
import Derived.Test.YtcnfcililiehlaaGreatDoorQ4
import Derived.Test.YtcnfcililiehlaaGreatDoorQ5
import Derived.IntWalk
namespace Go.Proofs.YtcnfcililiehlaaGreatDoor.Tr
open Go.RowKit
set_option maxHeartbeats 1000000 in
theorem refInZ_any (v : Value) (xs : List Int) (N : Int) (w : World) (hR : RdZ w v xs) (hl : xs.length <= 4611686018427387904) :
 Calls Tryz.prog 29 #[v, .int .i64 N] w fun e w' => e = .returned (.bool (decide (N ∈ xs))) /\ w = w' := by
 obtain ⟨A, c, rfl⟩ := hR.form;have HR := Lib.hid hR; clear hR;obtain ⟨RS, hRS⟩ : ∃ r, decide (N ∈ xs) = r := ⟨_, rfl⟩
 rw [hRS];have HRS := Lib.hid hRS;clear hRS;obtain ⟨n, hn⟩ : ∃ n, xs.length = n := ⟨_, rfl⟩
 have HN := Lib.hid hn;rw [hn] at hl HR ⊢;clear hn
 go_enter Tryz.func29, Tryz.ntmps29
 go_wp2
 go_loop [5] (fun x5 => ∃ k : Nat, k <= n /\ x5 = .int .i64 k /\ Hid (N ∉ xs.take k)) (fun i => n - (intOf i).toNat)
 case atStart => exact ⟨0, by omega, rfl, by show N ∉ xs.take 0; simp⟩
 case round =>
  obtain ⟨k, hk, rfl, HI⟩ := hrel;by_cases hkn : k < n
  ·have hkl : k < xs.length := by rw [HN.out]; exact hkn
   obtain ⟨b, o, rfl, _, hc⟩ := HR.out.at_ hkl;have hts := List.take_succ_eq_append_getElem hkl;have hm : xs[k] ∈ xs := List.getElem_mem hkl;generalize xs[k] = x at *
   have HTS := Lib.hid hts; have HM := Lib.hid hm;clear hts hm;by_cases he : x = N
   ·subst he;have HX : Hid (RS = true) := by show RS = true; rw [<- HRS.out]; exact decide_eq_true HM.out
    go_wp2;go_ret;exact ⟨ret_bool HX.out.symm, rfl⟩
   ·have hne : (x == N) = false := int_ne he;have HNE := Lib.hid he;clear he;go_wp2
    go_round
    case rel => exact ⟨k + 1, by omega, by go_num, by
     show N ∉ xs.take (k + 1);rw [HTS.out, List.mem_append, List.mem_singleton];exact fun h => h.elim HI.out (fun e => HNE.out e.symm)⟩
    case measure => simp [intOf] <;> omega
  ·obtain rfl : k = n := by omega
   have HX : Hid (RS = false) := by
    show RS = false;have h1 := HI.out;rw [<- HN.out, List.take_length] at h1;rw [<- HRS.out]; exact decide_eq_false h1
   go_wp2;go_ret;exact ⟨ret_bool HX.out.symm, rfl⟩
end Go.Proofs.YtcnfcililiehlaaGreatDoor.Tr
namespace Go.Proofs.YtcnfcililiehlaaGreatDoor.Ch.Vd
open Go.RowKit
def kidC (c : CH) (i : Nat) : List Nat := Tr.kids (dC c.ss) c.ss.length i
theorem kidC_len (c : CH) (i : Nat) : (kidC c i).length <= c.ss.length := Tr.kids_len _ _ _
theorem rKids {w : World} {c : CH} {eV vV sV tV : Value} {sp : List SP} {tp : List TP} (h : ChM w c eV vV sV tV sp tp) (hT : treeP c) {i : Nat} (hi : i < c.ss.length) :
 Calls Tryz.prog 41 #[sV, .int .i64 i] w fun e w' => (∃ u, e = .returned u /\ w'.ownsRow w.heap.size 3 1 u (kidC c i).length (Tr.kvN (kidC c i))) /\ Below w.heap.size w w' := by
 have hi' : i < (sp.map toT).length := by rw [List.length_map, h.sLen]; exact hi
 have hl : (sp.map toT).length <= 40 := by rw [List.length_map, h.sLen]; exact hT.le
 have hN : Tr.Nst (Tr.dp (sp.map toT)) (sp.map toT).length := by rw [dp_toT h, List.length_map, h.sLen]; exact hT.nst
 have := Tr.refKids_any sV (sp.map toT) i w h.rdT hi' hl hN;rw [dp_toT h, List.length_map, h.sLen] at this;exact this
set_option maxRecDepth 100000 in
set_option maxHeartbeats 4000000 in
theorem refActive_any {w : World} {c : CH} {eV vV sV tV u : Value} {sp : List SP} {tp : List TP} {l : List Int} (h : ChM w c eV vV sV tV sp tp) (hT : treeP c) (hU : Tr.RdZ w u l) (hl : l.length <= 4611686018427387904) {i : Nat} (hi : i < c.ss.length) :
 Calls Tryz.prog 38 #[chA c eV vV sV tV, u, .int .i64 i] w fun e w' => e = .returned (.tuple #[.int .i64 (Tr.cnt l (kidC c i)), .int .i64 (kidC c i).length]) /\ Below w.heap.size w w' := by
 have hn40 := hT.le;obtain ⟨M, A1, A2, A3, A4, k1, k2, k3, k4, wb, hM, rfl, rfl, rfl, rfl, hwb, hb1, hbz, d0, d1, d2, d3, d4⟩ := box_ch h;have HK := Lib.hid (rKids (h.below hb1) hT hi);have HI := Lib.hid (fun W (hW : Below w.heap.size w W) N => Tr.refInZ_any u l N W (hU.below hW) hl);have hkl := kidC_len c i;unfold chA;rw [hM];obtain ⟨ks, hks⟩ : ∃ x, kidC c i = x := ⟨_, rfl⟩
 rw [hks] at HK hkl ⊢;obtain ⟨A5, k5, rfl⟩ := hU.form;have HW := Lib.hid hwb; have HB := Lib.hid hb1;obtain ⟨n, hn⟩ : ∃ n, ks.length = n := ⟨_, rfl⟩
 rw [hn] at HK hkl ⊢;have HN := Lib.hid hn;clear h hT hU hM hwb hb1 hbz hks hn;generalize c.es.length = n1 at *; generalize c.vs.length = n2 at *; generalize sp.length = n3 at *; generalize tp.length = n4 at *
 go_enter Tryz.func38, Tryz.ntmps38
 go_upto_region 1 with fail
 rw [<- HW.out]
 go_wp2_with fail
 refine HK.out.mono ?_;rintro e w2 ⟨⟨v, rfl, hv⟩, hb2⟩;obtain ⟨A6, c6, rfl⟩ := own_slice hv;have hrz : Tr.RdZ w2 (.slice A6 n c6) (Tr.toI ks) := by
  have := hv;rw [<- HN.out] at this ⊢;exact Tr.rdZ_own this
 have HRZ := Lib.hid hrz;have HB2 := Lib.hid (HB.out.trans (hb2.mono HB.out.size));clear hv hrz hb2;go_wp2
 go_loopw [9, 10] (fun x9 x10 wr => ∃ k : Nat, k <= n /\ x10 = .int .i64 k /\ x9 = .int .i64 (Tr.cnt l (ks.take k)) /\ wr = w2) (fun _ x _ => n - (intOf x).toNat)
 case atStart => exact ⟨0, by omega, rfl, rfl, rfl⟩
 case round =>
  obtain ⟨k, hk, rfl, rfl, rfl⟩ := hrel;by_cases hkn : k < n
  ·have hkm : k < ks.length := by rw [HN.out]; exact hkn
   obtain ⟨b', o', rfl, _, hc⟩ := HRZ.out.at_ (k := k) (by rw [Tr.toI_len]; exact hkm);have hx : (Tr.toI ks)[k]'(by rw [Tr.toI_len]; exact hkm) = ((ks[k] : Nat) : Int) := by unfold Tr.toI; rw [List.getElem_map]
   rw [hx] at hc;have hst := Tr.cnt_succ l ks hkm;have hle := Tr.cnt_le l ks k;rw [HN.out] at hle;clear hx;generalize ks[k] = x at *
   generalize Tr.cnt l (ks.take k) = m at *
   by_cases he : Tr.inB l x = true
   ·rw [if_pos he] at hst;have HST := Lib.hid hst;have HX : Hid (decide ((x : Int) ∈ l) = true) := he;clear he hst
    go_wp2_with fail
    refine (HI.out _ HB2.out x).mono ?_;rintro e w3 ⟨rfl, rfl⟩;rw [HX.out];go_wp2
    go_roundw
    case rel => exact ⟨k + 1, by omega, by go_num, by rw [HST.out]; go_num, by first | rfl | trivial⟩
    case measure => simp [intOf] <;> omega
   ·rw [if_neg he] at hst;have HST := Lib.hid hst;have HX : Hid (decide ((x : Int) ∈ l) = false) := by
     show decide ((x : Int) ∈ l) = false
     simpa [Tr.inB] using he
    clear he hst
    go_wp2_with fail
    refine (HI.out _ HB2.out x).mono ?_;rintro e w3 ⟨rfl, rfl⟩;rw [HX.out];go_wp2
    go_roundw
    case rel => exact ⟨k + 1, by omega, by go_num, by rw [HST.out]; rfl, by first | rfl | trivial⟩
    case measure => simp [intOf] <;> omega
  ·obtain rfl : k = n := by omega
   have hall : ks.take k = ks := by rw [<- HN.out]; exact List.take_length
   rw [hall];go_wp2;go_ret2;exact ⟨rfl, HB2.out⟩
set_option maxRecDepth 100000 in
set_option maxHeartbeats 8000000 in
theorem refStart_any {w : World} {c : CH} {eV vV sV tV : Value} {sp : List SP} {tp : List TP} (h : ChM w c eV vV sV tV sp tp) (h0 : checkE c = 0) :
 Calls Tryz.prog 13 #[chA c eV vV sV tV] w fun e w' => (∃ v, e = .returned v /\ w'.ownsRow w.heap.size 3 1 v (startO c).length (Tr.kvN (startO c))) /\ Below w.heap.size w w' := by
 obtain ⟨i0, hi0, hz0, hz1, hz2⟩ := info_parts Tr.Tryz.infoInt;have HII := Lib.hid hi0; have HZ0 := Lib.hid hz0; have HZ1 := Lib.hid hz1; have HZ2 := Lib.hid hz2;clear hi0 hz0 hz1 hz2;have hV := check_zero.1 h0;have hT : treeP c := hV.tree;have hn40 := hT.le;have hpos := hT.pos;have hss := h.sLen;have hso : startO c = startC c := if_pos h0;rw [hso];have hrb := fun W (hW : Below w.heap.size w W) (y : Nat) => refBegin_any (y : Int) (h.below hW) h0
 have hbo : ∀ y, y < c.ss.length -> dC c.ss y = 0 -> beginO c y = bgC c y := fun y hy hd => if_pos ⟨h0, by omega, by omega, by
  rw [show ((y : Int)).toNat = y from rfl, (hT.fine y hy).region hd]; decide⟩
 have hfl : ∀ k, k < c.ss.length -> ((Tr.topL (dC c.ss) (k + 1)).flatMap (bgC c)) = (Tr.topL (dC c.ss) k).flatMap (bgC c) ++ (if dC c.ss k = 0 then bgC c k else []) := fun k _ => by
  rw [top_succ, List.flatMap_append];by_cases hd : dC c.ss k = 0
  ·simp [hd]
  ·simp [hd]
 have hbl : ∀ y, (bgC c y).length <= c.ss.length := bgC_len c
 have hself : ∀ y, y < c.ss.length -> bgC c y ≠ [] := fun y hy e => by
  have : y ∈ bgC c y := Tr.mem_bgL.2 ⟨hy, Tr.bg_self y⟩;rw [e] at this; cases this
 obtain ⟨M, A1, A2, A3, A4, k1, k2, k3, k4, wb, hM, rfl, rfl, rfl, rfl, hwb, hb1, hbz, d0, d1, d2, d3, d4⟩ := box_ch h;obtain ⟨b, o, X, Y, a4, a5, m4, q4, m5, q5, rfl, hbw, hXY, hcs⟩ := ch_states h hpos;have HD := Lib.hid (cells_later d0 d1 d2 d3 d4);have HW := Lib.hid hwb; have HB := Lib.hid hb1; have HCS := Lib.hid hcs;obtain ⟨L, hL⟩ : ∃ x, startC c = x := ⟨_, rfl⟩
 have HL : Hid (L = (Tr.topL (dC c.ss) c.ss.length).flatMap (bgC c)) := by show L = _; rw [<- hL]; rfl
 rw [hL];unfold chA at hrb ⊢;rw [hM] at hrb ⊢;obtain ⟨n, hn⟩ : ∃ n, c.ss.length = n := ⟨_, rfl⟩
 rw [hn] at hss hn40 hpos;simp only [hn] at HCS hrb hbo hfl hbl hself HL;simp only [hss] at HW HD hrb d3 ⊢;have HRB := Lib.hid hrb; have HBO := Lib.hid hbo; have HFL := Lib.hid hfl; have HBL := Lib.hid hbl; have HSE := Lib.hid hself;clear h hV hT h0 hn hL hwb hb1 hbz hss hcs hXY hbw hM hrb hbo hfl hbl hself hso;generalize c.es.length = n1 at *; generalize c.vs.length = n2 at *; generalize tp.length = n4 at *
 go_enter Tryz.func13, Tryz.ntmps13
 go_upto_region 1 with fail
 rw [<- HW.out];go_wp2
 go_loopw [3, 4] (fun x3 x4 wr => ∃ k : Nat, k <= n /\ x4 = .int .i64 k /\ wr.ownsRow wb.heap.size 3 1 x3 ((Tr.topL (dC c.ss) k).flatMap (bgC c)).length (Tr.kvN ((Tr.topL (dC c.ss) k).flatMap (bgC c))) /\ Below wb.heap.size wb wr /\ Hid (((Tr.topL (dC c.ss) k).flatMap (bgC c)).length <= k * n)) (fun _ x _ => n - (intOf x).toNat)
 case atStart => exact ⟨0, by omega, rfl, World.ownsRow_nil _ _ _ _, Below.refl _ _, by show _ <= _; simp [Tr.topL]⟩
 case round =>
  obtain ⟨k, hk, rfl, hown, hbw, HLE⟩ := hrel;obtain ⟨wl, hwl⟩ : ∃ W, W = wr := ⟨_, rfl⟩
  subst hwl;have HFK : Hid (k < n -> _) := HFL.out k;obtain ⟨F, hF⟩ : ∃ x, (Tr.topL (dC c.ss) k).flatMap (bgC c) = x := ⟨_, rfl⟩
  rw [hF] at hown HLE HFK;obtain ⟨A5, c5, rfl⟩ := own_slice hown;have HO := Lib.hid hown; have HBW := Lib.hid hbw; have HF := Lib.hid hF;have hb0 : Below w.heap.size w wl := HB.out.trans (hbw.mono HB.out.size);have HB0 := Lib.hid hb0;have hszb := hbw.size;obtain ⟨f0, f1, f2, f3, f4⟩ := HD.out wl hbw;clear hF hown;by_cases hkn : k < n
  ·obtain ⟨r0, r1, r2, r3, r4, r5⟩ := HCS.out wl hb0 k hkn;have HFS := Lib.hid (HFK.out hkn);clear hb0 hbw r0 r1 r3 r4 r5;by_cases hd : dC c.ss k = 0
   ·have HD0 := Lib.hid hd;rw [hd] at r2;clear hd
    go_wp2_with fail
    refine (HRB.out wl HB0.out k).mono ?_;rintro e w3 ⟨⟨v, rfl, hv⟩, hb3⟩;rw [HBO.out k hkn HD0.out] at hv;rcases own_form hv with ⟨_, hz⟩ | ⟨g, cap, rfl, hcap⟩
    ·exact absurd (List.eq_nil_of_length_eq_zero hz) (HSE.out k hkn)
    have hcells := hv.cells (g := g) rfl;have HO3 := Lib.hid (own_below HO.out hb3);have HB3 := Lib.hid (HBW.out.trans (hb3.mono HBW.out.size));have hsz3 := hb3.size;have hbl := HBL.out k;have hle : F.length <= 40 * 40 := Nat.le_trans HLE.out (Nat.mul_le_mul (by omega) hn40);have hkv : ∀ u ∈ Tr.kvN (bgC c k), u.oneCell' = true := fun u hu => by
     obtain ⟨x, _, rfl⟩ := List.mem_map.1 hu; rfl
    have hkl : (Tr.kvN (bgC c k)).length = (bgC c k).length * 1 := by unfold Tr.kvN; rw [List.length_map]; omega
    have HCE := Lib.hid hcells; have HKV := Lib.hid hkv; have HKL := Lib.hid hkl;clear hb3 hcells hv hkv hkl;generalize hbb : (bgC c k).length = bl at *
    have HBB := Lib.hid hbb;clear hbb
    go_wp2_with (at_builtin; refine wpList_append_own _ rfl _ _ 29 rfl wb.heap.size 3 i0 _ 1 8 Tryz.underlying29 HII.out HZ0.out HZ1.out HZ2.out rfl (by decide) _ F.length (Tr.kvN F) rfl HO3.out ⟨g, 0, none⟩ bl cap (Tr.kvN (bgC c k)) rfl HKL.out HCE.out HKV.out (by unfold maxLen; omega) (by omega) (by omega) ?_)
    intro v' w5 hown' hgrow _;have hnew : (Tr.topL (dC c.ss) (k + 1)).flatMap (bgC c) = F ++ bgC c k := by rw [HFS.out, if_pos HD0.out]
    have HNW := Lib.hid hnew;have HO5 : Hid (w5.ownsRow wb.heap.size 3 1 v' ((Tr.topL (dC c.ss) (k + 1)).flatMap (bgC c)).length (Tr.kvN ((Tr.topL (dC c.ss) (k + 1)).flatMap (bgC c)))) := by
     show World.ownsRow _ _ _ _ _ _ _;rw [hnew, List.length_append, HBB.out]
     simpa [Tr.kvN] using hown'
    have HB5 : Hid (Below wb.heap.size wb w5) := HB3.out.grown hgrow (by have := HB3.out.size; omega) (fun j hj => (HO3.out.lt j hj).1);have HL5 : Hid (((Tr.topL (dC c.ss) (k + 1)).flatMap (bgC c)).length <= (k + 1) * n) := by
     show _ <= _;rw [hnew, List.length_append, HBB.out, Nat.succ_mul];have := HLE.out; omega
    clear hown' hgrow hnew;go_wp2
    go_roundw
    case rel => exact ⟨k + 1, by omega, by go_num, HO5.out, HB5.out, HL5⟩
    case measure => simp [intOf] <;> omega
   ·have hne : (dC c.ss k == 0) = false := int_ne hd;have hnew : (Tr.topL (dC c.ss) (k + 1)).flatMap (bgC c) = F := by rw [HFS.out, if_neg hd, List.append_nil]
    have HNW := Lib.hid hnew;clear hd hnew;go_wp2
    go_roundw
    case rel => exact ⟨k + 1, by omega, by go_num, by rw [HNW.out]; exact HO.out, HBW.out, by show _ <= _; rw [HNW.out, Nat.succ_mul]; have := HLE.out; omega⟩
    case measure => simp [intOf] <;> omega
  ·obtain rfl : k = n := by omega
   have HX : Hid (L = F) := by show L = F; rw [HL.out, HF.out]
   clear hb0 hbw;go_wp2;go_ret;exact ⟨⟨_, rfl, by rw [show L = F from HX.out]; exact Tr.own_lower HO.out HB.out.size⟩, HB0.out⟩
end Go.Proofs.YtcnfcililiehlaaGreatDoor.Ch.Vd
namespace Go.Proofs.YtcnfcililiehlaaGreatDoor.Tr
section
variable {d kd : Nat -> Int} {n : Nat}
theorem stand_doc (h : Nst d n) {l : List Int} {i : Nat} (hi : i < n) :
 standB d kd n l i = (if inB l i = false then !decide (d i = 0) else
  ((!decide (0 < d i) || decide (par d i ∈ l)) && !((decide (kd i = 2) && !decide (cnt l (kids d n i) = 1)) || (decide (kd i = 3) && !decide (cnt l (kids d n i) = (kids d n i).length))))) := by
 have hn := h.par_neg hi;have hlo := h.lo i hi;unfold standB;by_cases hin : inB l i = true
 ·have hf : ¬ inB l i = false := by rw [hin]; simp
  rw [if_pos hin, if_neg hf];have h1 : (decide (par d i = -1) || decide (par d i ∈ l)) = (!decide (0 < d i) || decide (par d i ∈ l)) := by
   congr 1
   by_cases e : d i = 0
   ·rw [decide_eq_true (hn.2 e), decide_eq_false (by omega)]; rfl
   ·rw [decide_eq_false (fun g => e (hn.1 g)), decide_eq_true (by omega)]; rfl
  rw [h1]
  congr 1
  by_cases k2 : kd i = 2
  ·have k3 : ¬ kd i = 3 := by omega
   simp [k2]
  ·by_cases k3 : kd i = 3
   ·simp [k3]
   ·simp [k2, k3]
 ·have hf : inB l i = false := by simpa using hin
  rw [if_neg hin, if_pos hf]
  congr 1
  rw [decide_eq_decide]; exact hn
end
end Go.Proofs.YtcnfcililiehlaaGreatDoor.Tr
namespace Go.Proofs.YtcnfcililiehlaaGreatDoor.Ch.Vd
open Go.RowKit
theorem past_q (k : Int) (W : World) : Calls Tryz.prog 36 #[.int .i64 k] W fun e w' => e = .returned (.bool (decide (Tr.pastP k))) /\ ∃ r, w' = W.drewN r :=
 (Tr.past_any k W).mono fun _ _ ⟨h1, h2⟩ => ⟨h1, 0, h2 ▸ rfl⟩
theorem quiet_w {P : Program} {f : FuncId} {args : Array Value} {v : Value} (h : ∀ W : World, Calls P f args W fun e w' => e = .returned v /\ ∃ r, w' = W.drewN r) {w : World} {a n : Nat} :
 Calls P f args (w.drewN (a + n)) fun e w'' => e = .returned v /\ ∃ m, w'' = w.drewN (a + m) :=
 (h _).mono fun _ _ ⟨he, r, hr⟩ => ⟨he, n + r, by rw [hr, World.drewN_drewN, Nat.add_assoc]⟩
theorem wrap_pred (j : Nat) (h : j <= 4611686018427387904) : IntKind.i64.wrap ((j : Int) + 1 - 1) = (j : Int) := by
 have e : (j : Int) + 1 - 1 = (j : Int) := by omega
 rw [e]; exact IntWalk.i64_in _ (by omega)
set_option maxRecDepth 100000 in
set_option maxHeartbeats 16000000 in
theorem refLegal_any {w : World} {c : CH} {eV vV sV tV u : Value} {sp : List SP} {tp : List TP} {l : List Int} (h : ChM w c eV vV sV tV sp tp) (hT : treeP c) (hU : Tr.RdZ w u l) (hl : l.length <= 4611686018427387904) :
 Calls Tryz.prog 16 #[chA c eV vV sV tV, u] w fun e w' => e = .returned (.bool (Tr.legalB (dC c.ss) (kC c.ss) c.ss.length l)) /\ Below w.heap.size w w' := by
 have hn40 := hT.le;have hpos := hT.pos;have hss := h.sLen;have hall := (Tr.isRow_all (kd := kC c.ss) (n := c.ss.length) l (-1)).2;have hno := fun k hk h => Tr.isRow_no (kd := kC c.ss) (n := c.ss.length) (l := l) (a := -1) (k := k) hk h
 have hlo := fun k h hk => Tr.row_lo (kd := kC c.ss) (n := c.ss.length) (l := l) (a := -1) k h hk
 have hsd := fun i (hi : i < c.ss.length) => Tr.stand_doc (kd := kC c.ss) hT.nst (l := l) hi
 have hdl := hT.nst.lo;have hln := fun i (hi : i < c.ss.length) (h : Tr.standB (dC c.ss) (kC c.ss) c.ss.length l i = false) => Tr.legal_no (l := l) hi h
 have hlf : Tr.isRow (kC c.ss) c.ss.length (-1) l = false -> Tr.legalB (dC c.ss) (kC c.ss) c.ss.length l = false := fun a => by unfold Tr.legalB; rw [a]; rfl
 have hly : Tr.isRow (kC c.ss) c.ss.length (-1) l = true -> (∀ j, j < c.ss.length -> Tr.standB (dC c.ss) (kC c.ss) c.ss.length l j = true) -> Tr.legalB (dC c.ss) (kC c.ss) c.ss.length l = true := fun a b => by
  unfold Tr.legalB;rw [a, Bool.true_and, List.all_eq_true];exact fun j hj => b j (List.mem_range.1 hj)
 have hpar := fun W (hW : Below w.heap.size w W) j (hj : j < c.ss.length) => rParent (h.below hW) hT (j := j) (by rw [hss]; exact hj)
 have hin := fun W (hW : Below w.heap.size w W) N => Tr.refInZ_any u l N W (hU.below hW) hl
 have hac := fun W (hW : Below w.heap.size w W) i (hi : i < c.ss.length) => refActive_any (h.below hW) hT (hU.below hW) hl hi
 obtain ⟨M, A1, A2, A3, A4, k1, k2, k3, k4, wb, hM, rfl, rfl, rfl, rfl, hwb, hb1, hbz, d0, d1, d2, d3, d4⟩ := box_ch h;obtain ⟨b, o, X, Y, a4, a5, m4, q4, m5, q5, rfl, hbw, hXY, hcs⟩ := ch_states h hpos;obtain ⟨A5, k5, rfl⟩ := hU.form;have HD := Lib.hid (cells_later d0 d1 d2 d3 d4);obtain ⟨RS, hRS⟩ : ∃ r, Tr.legalB (dC c.ss) (kC c.ss) c.ss.length l = r := ⟨_, rfl⟩
 rw [hRS] at hln hlf hly ⊢;unfold chA at hac ⊢;rw [hM] at hac ⊢;have HU := Lib.hid hU;obtain ⟨m, hm⟩ : ∃ m, l.length = m := ⟨_, rfl⟩
 obtain ⟨n, hn⟩ : ∃ n, c.ss.length = n := ⟨_, rfl⟩
 have HM := Lib.hid hm;have HSD : Hid (∀ i, i < n -> Tr.standB (dC c.ss) (kC c.ss) n l i = (if Tr.inB l i = false then !decide (dC c.ss i = 0) else ((!decide (0 < dC c.ss i) || decide (Tr.par (dC c.ss) i ∈ l)) && !((decide (kC c.ss i = 2) && !decide (Tr.cnt l (kidC c i) = 1)) || (decide (kC c.ss i = 3) && !decide (Tr.cnt l (kidC c i) = (kidC c i).length)))))) := by
  show ∀ i, i < n -> _
  rw [<- hn]; exact hsd
 have HCS := Lib.hid hcs; have HW := Lib.hid hwb; have HB := Lib.hid hb1;have HALL := Lib.hid hall; have HNO := Lib.hid hno; have HLO := Lib.hid hlo; have HDL := Lib.hid hdl; have HLN := Lib.hid hln; have HLF := Lib.hid hlf; have HLY := Lib.hid hly; have HPA := Lib.hid hpar; have HIN := Lib.hid hin; have HAC := Lib.hid hac;clear h hT hU hall hno hlo hsd hdl hln hlf hly hpar hin hac hM hwb hb1 hbz hcs hXY hbw hRS;simp only [hn] at hss hn40 hpos HALL HNO HLO HDL HLN HLF HLY HPA HAC HCS;simp only [hss] at HD HW HPA HAC d3 ⊢;simp only [hm] at hl HU HIN HAC HALL HNO HLO ⊢;clear hss hn hm;generalize c.es.length = n1 at *; generalize c.vs.length = n2 at *; generalize tp.length = n4 at *
 go_enter Tryz.func16, Tryz.ntmps16
 go_upto_region 1 with fail
 rw [<- HW.out];go_wp2
 go_loopw [5] (fun x5 wr => ∃ k : Nat, k <= m /\ x5 = .int .i64 k /\ Below wb.heap.size wb wr /\ Hid (∀ j, j < k -> Tr.rowK (kC c.ss) n (-1) l j = true)) (fun x _ => m - (intOf x).toNat)
 case atStart => exact ⟨0, by omega, rfl, Below.refl _ _, fun j hj => absurd hj (by omega)⟩
 case round =>
  obtain ⟨k, hk, rfl, hbw, HJ⟩ := hrel;obtain ⟨wl, hwl⟩ : ∃ W, W = wr := ⟨_, rfl⟩
  subst hwl;have hb0 : Below w.heap.size w wl := HB.out.trans (hbw.mono HB.out.size);have HBW := Lib.hid hbw; have HB0 := Lib.hid hb0;by_cases hkm : k < m
  ·have hkl : k < l.length := by rw [HM.out]; exact hkm
   obtain ⟨f0, f1, f2, f3, f4⟩ := HD.out wl hbw;obtain ⟨b', o', rfl, _, hc⟩ := (HU.out.below hb0).at_ (k := k) hkl;have hlo := HLO.out k HJ.out (by omega);have hget : l.getD k 0 = l[k] := by rw [List.getD_eq_getElem?_getD, List.getElem?_eq_getElem hkl]; rfl
   have hrk : Tr.rowK (kC c.ss) n (-1) l k = (decide ((-1 :: l).getD k 0 < l[k]) && (decide (l[k] < (n : Int)) && !decide (Tr.pastP (kC c.ss l[k].toNat)))) := by
    unfold Tr.rowK; rw [hget]
   have HF : Hid (Tr.rowK (kC c.ss) n (-1) l k = false -> RS = false) := fun h => HLF.out (HNO.out k hkm h)
   have hold : ∀ j (hj : k = j + 1), (-1 :: l).getD k 0 = l[j]'(by omega) /\ wl.cell? ⟨b', o' + j, none⟩ = some (.int .i64 (l[j]'(by omega))) := by
    intro j hj;subst hj;obtain ⟨b2, o2, e2, _, hc2⟩ := (HU.out.below hb0).at_ (k := j) (by omega);simp only [Option.some.injEq, Addr.mk.injEq] at e2;obtain ⟨rfl, rfl, _⟩ := e2;refine ⟨?_, hc2⟩;show l.getD j 0 = _;rw [List.getD_eq_getElem?_getD, List.getElem?_eq_getElem (by omega)]; rfl
   have HOLD := Lib.hid hold;clear hold hget hbw hb0;generalize l[k] = x at *
   by_cases h1 : x < 0
   ·have HX : Hid (RS = false) := HF.out (by rw [hrk, decide_eq_false (show ¬ (-1 :: l).getD k 0 < x by omega)]; rfl);have t1 : decide (x < 0) = true := decide_eq_true h1;clear hrk hlo h1;go_wp2
    go_quiet (fail)
    go_wp2;go_ret;exact ⟨ret_bool HX.out.symm, by first | exact below_drewN HB0.out _ | exact below_drewN (below_drewN HB0.out _) _⟩
   ·obtain ⟨y, rfl⟩ : ∃ y : Nat, x = (y : Int) := ⟨x.toNat, by omega⟩
    by_cases h2 : n <= y
    ·have HX : Hid (RS = false) := HF.out (by rw [hrk, decide_eq_false (show ¬ (y : Int) < (n : Int) by omega)]; simp);have t2 : decide (n <= y) = true := decide_eq_true h2;have t3 : decide ((y : Int) < 0) = false := decide_eq_false (by omega);clear hrk hlo h1 h2;go_wp2
     go_quiet (fail)
     go_wp2;go_ret;exact ⟨ret_bool HX.out.symm, by first | exact below_drewN HB0.out _ | exact below_drewN (below_drewN HB0.out _) _⟩
    ·have hy : y < n := by omega
     have t2 : decide (n <= y) = false := decide_eq_false h2;obtain ⟨r0, r1, r2, r3, r4, r5⟩ := HCS.out wl HB0.out y hy;clear r0 r2 r3 r4 r5 h1 h2;rw [decide_eq_true (show (y : Int) < (n : Int) by omega), Bool.true_and, show ((y : Int)).toNat = y from rfl] at hrk;have HRK := Lib.hid hrk;have HPS := Lib.hid (fun W => past_q (kC c.ss y) W);clear hrk;have t3 : decide ((y : Int) < 0) = false := decide_eq_false (by omega);rcases Nat.eq_zero_or_pos k with hk0 | hk0
     ·subst hk0;have HA : Hid (Tr.rowK (kC c.ss) n (-1) l 0 = !decide (Tr.pastP (kC c.ss y))) := by
       show Tr.rowK (kC c.ss) n (-1) l 0 = _;rw [HRK.out, decide_eq_true (show (-1 :: l).getD 0 0 < (y : Int) by show (-1 : Int) < _; omega), Bool.true_and]
      rw [Nat.add_zero] at hc;clear hlo;by_cases hp : Tr.pastP (kC c.ss y)
      ·have HX : Hid (RS = false) := HF.out (by rw [HA.out, decide_eq_true hp]; rfl);rw [decide_eq_true hp] at HPS;clear hp;go_wp2
       go_quiet (fail)
       go_wp2
       go_quiet ((go_at_call 36; first | exact quiet_z (HPS.out _) | exact quiet_w HPS.out))
       go_wp2;go_ret;exact ⟨ret_bool HX.out.symm, by first | exact below_drewN HB0.out _ | exact below_drewN (below_drewN HB0.out _) _⟩
      ·have HX : Hid (Tr.rowK (kC c.ss) n (-1) l 0 = true) := by show _ = true; rw [HA.out, decide_eq_false hp]; rfl
       rw [decide_eq_false hp] at HPS;clear hp;go_wp2
       go_quiet (fail)
       go_wp2
       go_quiet ((go_at_call 36; first | exact quiet_z (HPS.out _) | exact quiet_w HPS.out))
       go_wp2
       go_roundw
       case rel => exact ⟨1, by omega, by go_num, below_drewN HBW.out _, fun j hj => by
        obtain rfl : j = 0 := by omega
        exact HX.out⟩
       case measure => simp [intOf] <;> omega
     ·obtain ⟨j, rfl⟩ : ∃ j, k = j + 1 := ⟨k - 1, by omega⟩
      obtain ⟨ha, hz⟩ := HOLD.out j rfl;rw [ha] at HRK;have hjl : j < l.length := by omega
      generalize l[j] = z at *
      have hwr := wrap_pred j (by omega);have t6 : decide (0 < j + 1) = true := decide_eq_true (by omega);clear HOLD;clear hlo ha hk0 hkl hjl;by_cases hle : (y : Int) <= z
      ·have HX : Hid (RS = false) := HF.out (by rw [HRK.out, decide_eq_false (show ¬ z < (y : Int) by omega)]; rfl);have t7 : decide ((y : Int) <= z) = true := decide_eq_true hle;clear hle;go_wp2
       go_quiet (fail)
       go_wp2;go_ret;exact ⟨ret_bool HX.out.symm, by first | exact below_drewN HB0.out _ | exact below_drewN (below_drewN HB0.out _) _⟩
      ·have HA : Hid (Tr.rowK (kC c.ss) n (-1) l (j + 1) = !decide (Tr.pastP (kC c.ss y))) := by
        show Tr.rowK (kC c.ss) n (-1) l (j + 1) = _;rw [HRK.out, decide_eq_true (show z < (y : Int) by omega), Bool.true_and]
       have t7 : decide ((y : Int) <= z) = false := decide_eq_false hle;clear hle;by_cases hp : Tr.pastP (kC c.ss y)
       ·have HX : Hid (RS = false) := HF.out (by rw [HA.out, decide_eq_true hp]; rfl);rw [decide_eq_true hp] at HPS;clear hp;go_wp2
        go_quiet (fail)
        go_wp2
        go_quiet ((go_at_call 36; first | exact quiet_z (HPS.out _) | exact quiet_w HPS.out))
        go_wp2;go_ret;exact ⟨ret_bool HX.out.symm, by first | exact below_drewN HB0.out _ | exact below_drewN (below_drewN HB0.out _) _⟩
       ·have HX : Hid (Tr.rowK (kC c.ss) n (-1) l (j + 1) = true) := by show _ = true; rw [HA.out, decide_eq_false hp]; rfl
        rw [decide_eq_false hp] at HPS;clear hp;go_wp2
        go_quiet (fail)
        go_wp2
        go_quiet ((go_at_call 36; first | exact quiet_z (HPS.out _) | exact quiet_w HPS.out))
        go_wp2
        go_roundw
        case rel => exact ⟨j + 2, by omega, by go_num, below_drewN HBW.out _, fun i hi => by
         by_cases e : i = j + 1
         ·rw [e]; exact HX.out
         ·exact HJ.out i (by omega)⟩
        case measure => simp [intOf] <;> omega
  ·obtain rfl : k = m := by omega
   have HR1 : Hid (Tr.isRow (kC c.ss) n (-1) l = true) := HALL.out (fun j hj => HJ.out j hj);clear HJ hbw hb0 hkm;go_wp2
   go_loopw [6, 7, 8, 9] (fun x6 _ _ _ wr => ∃ i : Nat, i <= n /\ x6 = .int .i64 i /\ Below wb.heap.size wb wr /\ Hid (∀ j, j < i -> Tr.standB (dC c.ss) (kC c.ss) n l j = true)) (fun x _ _ _ _ => n - (intOf x).toNat)
   case atStart => exact ⟨0, by omega, rfl, HBW.out, fun j hj => absurd hj (by omega)⟩
   case round =>
    obtain ⟨i, hi, rfl, hbw, HJ⟩ := hrel;obtain ⟨wi, hwi⟩ : ∃ W, W = wr := ⟨_, rfl⟩
    subst hwi;clear HBW HB0;have hb0 : Below w.heap.size w wi := HB.out.trans (hbw.mono HB.out.size);have HBW := Lib.hid hbw; have HB0 := Lib.hid hb0;obtain ⟨f0, f1, f2, f3, f4⟩ := HD.out wi hbw;clear hbw hb0;by_cases hin : i < n
    ·obtain ⟨_, r1, r2, _, _, _⟩ := HCS.out wi HB0.out i hin;have hsd := HSD.out i hin;have hdl := HDL.out i hin
     go_wp2_with fail
     refine (HIN.out wi HB0.out i).mono ?_;rintro e w3 ⟨rfl, rfl⟩;by_cases hm : (i : Int) ∈ l
     ·have hib : Tr.inB l i = true := decide_eq_true hm;rw [decide_eq_true hm];rw [if_neg (by rw [hib]; simp)] at hsd;clear hm hib;by_cases hd : dC c.ss i = 0
      ·rw [hd] at r2 hsd;clear hdl hd
       go_wp2_with fail
       refine (HAC.out wi HB0.out i hin).mono ?_;rintro e w7 ⟨rfl, hb7⟩;have HB7 : Hid (Below wb.heap.size wb w7) := HBW.out.trans (hb7.mono HBW.out.size);have HC7 : Hid (Below w.heap.size w w7) := HB0.out.trans (hb7.mono HB0.out.size);clear hb7 f0 f1 f2 f3 f4 r1 r2;obtain ⟨f0, f1, f2, f3, f4⟩ := HD.out w7 HB7.out;obtain ⟨_, r1, _, _, _, _⟩ := HCS.out w7 HC7.out i hin;generalize Tr.cnt l (kidC c i) = cc at *
       generalize (kidC c i).length = kl at *
       by_cases k2 : kC c.ss i = 2
       ·rw [k2] at r1;by_cases e1 : cc = 1
        ·subst e1;have HX : Hid (Tr.standB (dC c.ss) (kC c.ss) n l i = true) := by show _ = true; rw [hsd]; simp [k2]
         clear k2;clear hsd;go_wp2
         go_roundw
         case rel => exact ⟨i + 1, by omega, by go_num, HB7.out, fun j hj => by
          by_cases e : j = i
          ·rw [e]; exact HX.out
          ·exact HJ.out j (by omega)⟩
         case measure => simp [intOf] <;> omega
        ·have q1 : (((cc : Nat) : Int) != 1) = true := bne_iff_ne.2 (by omega);have HX : Hid (RS = false) := HLN.out i hin (by rw [hsd]; simp [k2, e1]);clear k2 e1;clear hsd;go_wp2;go_ret;exact ⟨ret_bool HX.out.symm, HC7.out⟩
       ·by_cases k3 : kC c.ss i = 3
        ·rw [k3] at r1;by_cases e1 : cc = kl
         ·subst e1;have HX : Hid (Tr.standB (dC c.ss) (kC c.ss) n l i = true) := by show _ = true; rw [hsd]; simp [k3]
          clear k2 k3;clear hsd;go_wp2
          go_roundw
          case rel => exact ⟨i + 1, by omega, by go_num, HB7.out, fun j hj => by
           by_cases e : j = i
           ·rw [e]; exact HX.out
           ·exact HJ.out j (by omega)⟩
          case measure => simp [intOf] <;> omega
         ·have q1 : (((cc : Nat) : Int) != ((kl : Nat) : Int)) = true := bne_iff_ne.2 (by omega);have HX : Hid (RS = false) := HLN.out i hin (by rw [hsd]; simp [k3, e1]);clear k2 k3 e1;clear hsd;go_wp2;go_ret;exact ⟨ret_bool HX.out.symm, HC7.out⟩
        ·have q2 : (kC c.ss i == 2) = false := int_ne k2;have q3 : (kC c.ss i == 3) = false := int_ne k3;have HX : Hid (Tr.standB (dC c.ss) (kC c.ss) n l i = true) := by show _ = true; rw [hsd]; simp [k2, k3]
         clear k2 k3;clear hsd;go_wp2
         go_roundw
         case rel => exact ⟨i + 1, by omega, by go_num, HB7.out, fun j hj => by
          by_cases e : j = i
          ·rw [e]; exact HX.out
          ·exact HJ.out j (by omega)⟩
         case measure => simp [intOf] <;> omega
      ·have t1 : (dC c.ss i == 0) = false := int_ne hd;have t2 : decide (0 < dC c.ss i) = true := decide_eq_true (by omega);rw [t2] at hsd;clear hdl hd
       go_wp2_with fail
       refine (HPA.out wi HB0.out i hin).mono ?_;rintro e w5 ⟨rfl, hb5⟩;have HB5 : Hid (Below wb.heap.size wb w5) := HBW.out.trans (hb5.mono HBW.out.size);have HC5 : Hid (Below w.heap.size w w5) := HB0.out.trans (hb5.mono HB0.out.size);clear hb5 f0 f1 f2 f3 f4 r1 r2;obtain ⟨f0, f1, f2, f3, f4⟩ := HD.out w5 HB5.out;obtain ⟨_, r1, r2, _, _, _⟩ := HCS.out w5 HC5.out i hin;generalize Tr.par (dC c.ss) i = P at *
       go_wp2_with fail
       refine (HIN.out w5 HC5.out P).mono ?_;rintro e w6 ⟨rfl, rfl⟩;by_cases hp : P ∈ l
       ·rw [decide_eq_true hp] at hsd ⊢;clear hp
        go_wp2_with fail
        refine (HAC.out w5 HC5.out i hin).mono ?_;rintro e w7 ⟨rfl, hb7⟩;have HB7 : Hid (Below wb.heap.size wb w7) := HB5.out.trans (hb7.mono HB5.out.size);have HC7 : Hid (Below w.heap.size w w7) := HC5.out.trans (hb7.mono HC5.out.size);clear hb7 f0 f1 f2 f3 f4 r1 r2;obtain ⟨f0, f1, f2, f3, f4⟩ := HD.out w7 HB7.out;obtain ⟨_, r1, _, _, _, _⟩ := HCS.out w7 HC7.out i hin;generalize Tr.cnt l (kidC c i) = cc at *
        generalize (kidC c i).length = kl at *
        by_cases k2 : kC c.ss i = 2
        ·rw [k2] at r1;by_cases e1 : cc = 1
         ·subst e1;have HX : Hid (Tr.standB (dC c.ss) (kC c.ss) n l i = true) := by show _ = true; rw [hsd]; simp [k2]
          clear k2;clear hsd;go_wp2
          go_roundw
          case rel => exact ⟨i + 1, by omega, by go_num, HB7.out, fun j hj => by
           by_cases e : j = i
           ·rw [e]; exact HX.out
           ·exact HJ.out j (by omega)⟩
          case measure => simp [intOf] <;> omega
         ·have q1 : (((cc : Nat) : Int) != 1) = true := bne_iff_ne.2 (by omega);have HX : Hid (RS = false) := HLN.out i hin (by rw [hsd]; simp [k2, e1]);clear k2 e1;clear hsd;go_wp2;go_ret;exact ⟨ret_bool HX.out.symm, HC7.out⟩
        ·by_cases k3 : kC c.ss i = 3
         ·rw [k3] at r1;by_cases e1 : cc = kl
          ·subst e1;have HX : Hid (Tr.standB (dC c.ss) (kC c.ss) n l i = true) := by show _ = true; rw [hsd]; simp [k3]
           clear k2 k3;clear hsd;go_wp2
           go_roundw
           case rel => exact ⟨i + 1, by omega, by go_num, HB7.out, fun j hj => by
            by_cases e : j = i
            ·rw [e]; exact HX.out
            ·exact HJ.out j (by omega)⟩
           case measure => simp [intOf] <;> omega
          ·have q1 : (((cc : Nat) : Int) != ((kl : Nat) : Int)) = true := bne_iff_ne.2 (by omega);have HX : Hid (RS = false) := HLN.out i hin (by rw [hsd]; simp [k3, e1]);clear k2 k3 e1;clear hsd;go_wp2;go_ret;exact ⟨ret_bool HX.out.symm, HC7.out⟩
         ·have q2 : (kC c.ss i == 2) = false := int_ne k2;have q3 : (kC c.ss i == 3) = false := int_ne k3;have HX : Hid (Tr.standB (dC c.ss) (kC c.ss) n l i = true) := by show _ = true; rw [hsd]; simp [k2, k3]
          clear k2 k3;clear hsd;go_wp2
          go_roundw
          case rel => exact ⟨i + 1, by omega, by go_num, HB7.out, fun j hj => by
           by_cases e : j = i
           ·rw [e]; exact HX.out
           ·exact HJ.out j (by omega)⟩
          case measure => simp [intOf] <;> omega
       ·rw [decide_eq_false hp] at hsd ⊢;have HX : Hid (RS = false) := HLN.out i hin (by rw [hsd]; rfl);clear hp hsd;go_wp2;go_ret;exact ⟨ret_bool HX.out.symm, HC5.out⟩
     ·have hib : Tr.inB l i = false := decide_eq_false hm;rw [decide_eq_false hm];rw [if_pos hib] at hsd;clear hm hib;by_cases hd : dC c.ss i = 0
      ·have HX : Hid (RS = false) := HLN.out i hin (by rw [hsd, decide_eq_true hd]; rfl);rw [hd] at r2;clear hsd hdl hd;go_wp2;go_ret;exact ⟨ret_bool HX.out.symm, HB0.out⟩
      ·have HX : Hid (Tr.standB (dC c.ss) (kC c.ss) n l i = true) := by show _ = true; rw [hsd, decide_eq_false hd]; rfl
       have t1 : (dC c.ss i == 0) = false := int_ne hd;clear hsd hdl hd;go_wp2
       go_roundw
       case rel => exact ⟨i + 1, by omega, by go_num, HBW.out, fun j hj => by
        by_cases e : j = i
        ·rw [e]; exact HX.out
        ·exact HJ.out j (by omega)⟩
       case measure => simp [intOf] <;> omega
    ·obtain rfl : i = n := by omega
     have HX : Hid (RS = true) := HLY.out HR1.out (fun j hj => HJ.out j hj);go_wp2;go_ret;exact ⟨ret_bool HX.out.symm, HB0.out⟩
end Go.Proofs.YtcnfcililiehlaaGreatDoor.Ch.Vd
namespace Go.Proofs.YtcnfcililiehlaaGreatDoor.Ch.Vd
open Go.RowKit
set_option maxRecDepth 100000
theorem copied10_any (v : Value) (l : List Int) (w : World) (hR : Tr.RdZ w v l) (hl : l.length * 8 <= 140737488355328) :
 Calls Tryz.prog 15 #[v] w fun e w' => (∃ u, e = .returned u /\ Tr.RdZ w' u l) /\ Below w.heap.size w w' := by
 obtain ⟨i0, hi0, hz0, hz1, hz2⟩ := info_parts Tr.Tryz.infoInt;have HII := Lib.hid hi0; have HZ0 := Lib.hid hz0; have HZ1 := Lib.hid hz1; have HZ2 := Lib.hid hz2;clear hi0 hz0 hz1 hz2;obtain ⟨A, c, rfl⟩ := hR.form;have HW : Hid (Below w.heap.size w (w.alloc (.cells #[] 3))) := (Below.refl _ _).alloc (Nat.le_refl _) _;have HE : Hid ((w.alloc (.cells #[] 3)).ownsRow w.heap.size 3 1 (.slice (some ⟨w.heap.size, 0, none⟩) 0 0) 0 []) := World.ownsRow_made w #[] 0 (Nat.le_refl _) (by unfold maxLen; omega) (by simp);have HI : Hid (Inn (w.alloc (.cells #[] 3)) 1 (.slice A l.length c) l.length (Tr.kvZ l)) := Inn.below hR HW.out;have HV : Hid (∀ u ∈ Tr.kvZ l, u.oneCell' = true) := fun u hu => by
  obtain ⟨x, _, rfl⟩ := List.mem_map.1 hu; rfl
 obtain ⟨n, hn⟩ : ∃ n, l.length = n := ⟨_, rfl⟩
 have HN := Lib.hid hn;rw [hn] at hl HI ⊢;clear hR hn
 go_enter Tryz.func15, Tryz.ntmps15
 go_wp2_with (at_builtin; refine Ow.wpList_append rfl (.tmp 3) (.tmp 4) 29 rfl w.heap.size 3 i0 _ 1 8 Tryz.underlying29 HII.out HZ0.out HZ1.out HZ2.out rfl (by decide) _ 0 [] rfl HE.out _ n (Tr.kvZ l) rfl HI.out HV.out (by unfold maxLen; omega) (by omega) (by simp) ?_)
 intro v1 w1 ho1 hg1 _;have ho1 : w1.ownsRow w.heap.size 3 1 v1 n (Tr.kvZ l) := by simpa using ho1
 have HB1 : Hid (Below w.heap.size w w1) := HW.out.grown hg1 (by simp) (fun k hk => (HE.out.lt k hk).1);have HRD : Hid (Tr.RdZ w1 v1 l) := by
  show Inn w1 1 v1 l.length (Tr.kvZ l);rw [HN.out]; exact Inn.of_own ho1
 clear ho1 hg1;go_wp2;go_ret;exact ⟨⟨_, rfl, HRD.out⟩, HB1.out⟩
def RzR (l : List Int) (v : Value) (W : World) : Prop := Tr.RdZ W v l
theorem RzR.keeps (l : List Int) : Oy.KeepsD (fun _ v W => RzR l v W) := fun _ _ _ _ h hb => Tr.RdZ.below h hb
set_option maxHeartbeats 8000000 in
theorem start_law (c : CH) (eV vV sV tV : Value) (sp : List SP) (tp : List TP) (w : World) (h : ChIn9 w c eV vV sV tV sp tp) (hE : Env w) (hec : ∀ A n k, eV = .slice A n k -> n <= k) :
 Calls Tryz.prog 3 #[.agg #[bstr c.nm, eV, vV, sV, tV]] w fun e w' => e = .returned (.bool true) /\ Below w.heap.size w w' := by
 obtain ⟨M, A1, A2, A3, A4, k1, k2, k3, k4, wb, hM, rfl, rfl, rfl, rfl, hwb, hb1, _, d0, d1, d2, d3, d4⟩ := box_ch h.m;have hbn := fun W (hW : Below w.heap.size w W) => start_any (h.m.below hW) hec h.sb
 have hrt := fun W (hW : Below w.heap.size w W) => refRight10_any (h.m.below hW) h.sb h.gn
 have hwk : ∀ W, Below w.heap.size w W -> Calls Tryz.prog 9 #[] W fun e w' => e = .returned (.bool true) /\ Below W.heap.size W w' := fun W hW => wakes10_any W (hE.below hW)
 obtain ⟨L, hL⟩ : ∃ x, startO c = x := ⟨_, rfl⟩
 have hx : ¬ checkE c = 0 -> L = [] := fun h0 => by rw [<- hL]; exact if_neg h0
 have hleg : checkE c = 0 -> Tr.legalB (dC c.ss) (kC c.ss) c.ss.length (Tr.toI L) = true := fun h0 => by
  have e : L = startC c := by rw [<- hL]; exact if_pos h0
  rw [e];exact Tr.start_legalB (check_zero.1 h0).tree (ini_valid (check_zero.1 h0))
 have hlen : L.length <= 40 := by
  by_cases h0 : checkE c = 0
  ·have e : L = startC c := by rw [<- hL]; exact if_pos h0
   rw [e];exact Nat.le_trans (start_len (check_zero.1 h0)) (check_zero.1 h0).tree.le
  ·rw [hx h0]; exact Nat.zero_le _
 have hrs : checkE c = 0 -> ∀ W (hW : Below w.heap.size w W), Calls Tryz.prog 13 #[chA c (.slice A1 c.es.length k1) (.slice A2 c.vs.length k2) (.slice A3 sp.length k3) (.slice A4 tp.length k4)] W fun e w' => (∃ v, e = .returned v /\ Tr.RdZ w' v (Tr.toI L)) /\ Below W.heap.size W w' := fun h0 W hW => by
  refine (refStart_any (h.m.below hW) h0).mono ?_;rintro e w' ⟨⟨v, rfl, hv⟩, hb⟩;rw [hL] at hv;exact ⟨⟨v, rfl, Tr.rdZ_own hv⟩, hb⟩
 have hlg : checkE c = 0 -> ∀ W u, Below w.heap.size w W -> Tr.RdZ W u (Tr.toI L) -> Calls Tryz.prog 14 #[chA c (.slice A1 c.es.length k1) (.slice A2 c.vs.length k2) (.slice A3 sp.length k3) (.slice A4 tp.length k4), u] W fun e w' => e = .returned (.bool true) /\ Below W.heap.size W w' := fun h0 W u hW hu => by
  have g := legal_any (h.m.below hW) hec h.sb hu (by rw [Tr.toI_len]; omega);unfold legalC at g;rw [decide_eq_true h0, hleg h0] at g;exact g
 have hrl : checkE c = 0 -> ∀ W u, Below w.heap.size w W -> Tr.RdZ W u (Tr.toI L) -> Calls Tryz.prog 16 #[chA c (.slice A1 c.es.length k1) (.slice A2 c.vs.length k2) (.slice A3 sp.length k3) (.slice A4 tp.length k4), u] W fun e w' => e = .returned (.bool true) /\ Below W.heap.size W w' := fun h0 W u hW hu => by
  have g := refLegal_any (h.m.below hW) (check_zero.1 h0).tree hu (by rw [Tr.toI_len]; omega);rw [hleg h0] at g;exact g
 have hcp : ∀ W u, Tr.RdZ W u (Tr.toI L) -> Calls Tryz.prog 15 #[u] W fun e w' => (∃ v, e = .returned v /\ Tr.RdZ w' v (Tr.toI L)) /\ Below W.heap.size W w' := fun W u hu => copied10_any u (Tr.toI L) W hu (by rw [Tr.toI_len]; omega)
 rw [hL] at hbn;unfold chA at hbn hrt hrs hlg hrl;rw [hM] at hbn hrt hrs hlg hrl ⊢;have HBN := Lib.hid hbn; have HRT := Lib.hid hrt; have HRS0 := Lib.hid hrs; have HLG0 := Lib.hid hlg; have HRL0 := Lib.hid hrl; have HCP := Lib.hid hcp; have HWK := Lib.hid hwk; have HX := Lib.hid hx;have HW := Lib.hid hwb; have HB := Lib.hid hb1;have HD := Lib.hid (cells_later d0 d1 d2 d3 d4);have HLL : Hid ((Tr.toI L).length <= 4611686018427387904) := by show _ <= _; rw [Tr.toI_len]; omega
 clear h hE hec hM hL hbn hrt hrs hlg hrl hcp hwk hlen hx hwb hb1 hleg;generalize c.es.length = n1 at *; generalize c.vs.length = n2 at *; generalize sp.length = n3 at *; generalize tp.length = n4 at *
 go_enter Tryz.func3, Tryz.ntmps3
 go_upto_region 1 with fail
 rw [<- HW.out]
 go_wp2_with fail
 refine (HWK.out wb HB.out).mono ?_;rintro e w2 ⟨rfl, hb2⟩;have HB2 := Lib.hid hb2; have HC2 := Lib.hid (HB.out.trans (hb2.mono HB.out.size)); clear hb2 d0 d1 d2 d3 d4;obtain ⟨d0, d1, d2, d3, d4⟩ := HD.out w2 HB2.out
 go_wp2_with fail
 refine (HBN.out w2 HC2.out).mono ?_;rintro e w3 ⟨⟨u, rfl, hu⟩, hb3⟩;obtain ⟨Au, cu, rfl⟩ := own_slice hu;have hru := Tr.rdZ_own hu;have HB3 := Lib.hid (HB2.out.trans (hb3.mono HB2.out.size)); have HC3 := Lib.hid (HC2.out.trans (hb3.mono HC2.out.size)); clear hb3 hu d0 d1 d2 d3 d4;obtain ⟨d0, d1, d2, d3, d4⟩ := HD.out w3 HB3.out;have HRU3 := Lib.hid hru;clear hru
 go_wp2_with fail
 refine (HRT.out w3 HC3.out).mono ?_;rintro e w4 ⟨rfl, hb4⟩;have HRU4 := Lib.hid (Tr.RdZ.below HRU3.out hb4);have HB4 := Lib.hid (HB3.out.trans (hb4.mono HB3.out.size)); have HC4 := Lib.hid (HC3.out.trans (hb4.mono HC3.out.size)); clear hb4 d0 d1 d2 d3 d4;by_cases h0 : checkE c = 0
 ·rw [decide_eq_true h0];have HRS := Lib.hid (HRS0.out h0); have HLG := Lib.hid (HLG0.out h0); have HRL := Lib.hid (HRL0.out h0);clear h0 HRS0 HLG0 HRL0;obtain ⟨d0, d1, d2, d3, d4⟩ := HD.out w4 HB4.out;have HBW : Hid (∀ W, Below w4.drew.heap.size w4.drew W -> Below w.heap.size w W) := fun W hW => HC4.out.trans ((below_drewN (Below.refl _ _) 1).trans (hW.mono HC4.out.size))
  have HRU : Hid (∀ W, Below w4.drew.heap.size w4.drew W -> Tr.RdZ W (.slice Au L.length cu) (Tr.toI L)) := fun W hW => (Tr.RdZ.below HRU4.out (below_drewN (Below.refl _ _) 1)).below hW
  go_upto_region 6 with fail
  refine Oy.region_quiet 29 [Oy.eqD (.slice Au L.length cu), Oy.eqD (.agg #[.string M, .slice A1 n1 k1, .slice A2 n2 k2, .slice A3 n3 k3, .slice A4 n4 k4]), fun (_ : List Value) v W => RzR (Tr.toI L) v W, Oy.eqD (.bool true), Oy.eqD (.bool true), Oy.eqD (.agg #[.string M, .slice A1 n1 k1, .slice A2 n2 k2, .slice A3 n3 k3, .slice A4 n4 k4]), Oy.eqD (.slice Au L.length cu), fun (_ : List Value) v W => RzR (Tr.toI L) v W, Oy.eqD (.bool true), Oy.eqD (.bool true), Oy.eqD (.bool true), Oy.eqD (.agg #[.string M, .slice A1 n1 k1, .slice A2 n2 k2, .slice A3 n3 k3, .slice A4 n4 k4]), Oy.eqD (.slice Au L.length cu), Oy.eqD (.bool true), Oy.eqD (.bool true), Oy.eqD (.bool true)] [[], [], [], [], [], [], [], [], [], [], [], [], [], [], [], []] (by kernel_rfl) rfl (by kernel_rfl) (by kernel_rfl) ⟨Oy.keeps_eq _, Oy.keeps_eq _, RzR.keeps (Tr.toI L), Oy.keeps_eq _, Oy.keeps_eq _, Oy.keeps_eq _, Oy.keeps_eq _, RzR.keeps (Tr.toI L), Oy.keeps_eq _, Oy.keeps_eq _, Oy.keeps_eq _, Oy.keeps_eq _, Oy.keeps_eq _, Oy.keeps_eq _, Oy.keeps_eq _, Oy.keeps_eq _, trivial⟩ ?_;refine Oy.walk_q ?_ fun x14 => ?_
  ·intro w1 hb hd K hK;clear hd;go_simp;exact hK _ _ (Below.refl _ _) rfl
  refine Oy.walk_q ?_ fun x15 => ?_
  ·intro w1 hb hd K hK;clear hd;have c_d0 := (hb.cell (cell_lt d0)).trans d0;have c_d1 := (hb.cell (cell_lt d1)).trans d1;have c_d2 := (hb.cell (cell_lt d2)).trans d2;have c_d3 := (hb.cell (cell_lt d3)).trans d3;have c_d4 := (hb.cell (cell_lt d4)).trans d4;go_simp;exact hK _ _ (Below.refl _ _) rfl
  refine Oy.walk_q ?_ fun x16 => ?_
  ·intro w1 hb hd K hK;obtain rfl : _ = x15 := Eq.symm (hd 1 (by kernel_rfl));clear hd;go_simp;refine (HRS.out w1 (HBW.out w1 hb)).mono ?_;rintro e w5 ⟨⟨v, rfl, hv⟩, hb5⟩;go_simp;exact hK _ _ hb5 hv
  refine Oy.walk_q ?_ fun x17 => ?_
  ·intro w1 hb hd K hK;obtain rfl : _ = x14 := Eq.symm (hd 0 (by kernel_rfl));have h16 : (fun (_ : List Value) v W => RzR (Tr.toI L) v W) [] x16 w1 := hd 2 (by kernel_rfl);have h6 : RzR (Tr.toI L) x16 w1 := hd 2 (by kernel_rfl);clear hd;go_simp;refine (same_true w1 _ _ (Tr.toI L) (HRU.out w1 hb) h6 HLL.out).mono ?_;rintro e w5 ⟨rfl, hb5⟩;go_simp;exact hK _ _ hb5 rfl
  refine Oy.walk_q ?_ fun x18 => ?_
  ·intro w1 hb hd K hK;obtain rfl : _ = x17 := Eq.symm (hd 3 (by kernel_rfl));clear hd;go_simp;exact hK _ _ (Below.refl _ _) rfl
  refine Oy.walk_q ?_ fun x19 => ?_
  ·intro w1 hb hd K hK;obtain rfl : _ = x18 := Eq.symm (hd 4 (by kernel_rfl));clear hd;have c_d0 := (hb.cell (cell_lt d0)).trans d0;have c_d1 := (hb.cell (cell_lt d1)).trans d1;have c_d2 := (hb.cell (cell_lt d2)).trans d2;have c_d3 := (hb.cell (cell_lt d3)).trans d3;have c_d4 := (hb.cell (cell_lt d4)).trans d4;go_simp;exact hK _ _ (Below.refl _ _) rfl
  refine Oy.walk_q ?_ fun x20 => ?_
  ·intro w1 hb hd K hK;obtain rfl : _ = x18 := Eq.symm (hd 4 (by kernel_rfl));clear hd;go_simp;exact hK _ _ (Below.refl _ _) rfl
  refine Oy.walk_q ?_ fun x21 => ?_
  ·intro w1 hb hd K hK;obtain rfl : _ = x20 := Eq.symm (hd 6 (by kernel_rfl));obtain rfl : _ = x18 := Eq.symm (hd 4 (by kernel_rfl));clear hd;go_simp;refine (HCP.out w1 _ (HRU.out w1 hb)).mono ?_;rintro e w5 ⟨⟨v, rfl, hv⟩, hb5⟩;go_simp;exact hK _ _ hb5 hv
  refine Oy.walk_q ?_ fun x22 => ?_
  ·intro w1 hb hd K hK;obtain rfl : _ = x19 := Eq.symm (hd 5 (by kernel_rfl));have h21 : (fun (_ : List Value) v W => RzR (Tr.toI L) v W) [] x21 w1 := hd 7 (by kernel_rfl);obtain rfl : _ = x18 := Eq.symm (hd 4 (by kernel_rfl));have h6 : RzR (Tr.toI L) x21 w1 := hd 7 (by kernel_rfl);clear hd;go_simp;refine (HLG.out w1 _ (HBW.out w1 hb) h6).mono ?_;rintro e w5 ⟨rfl, hb5⟩;go_simp;exact hK _ _ hb5 rfl
  refine Oy.walk_q ?_ fun x23 => ?_
  ·intro w1 hb hd K hK;obtain rfl : _ = x18 := Eq.symm (hd 4 (by kernel_rfl));obtain rfl : _ = x22 := Eq.symm (hd 8 (by kernel_rfl));clear hd;go_simp;exact hK _ _ (Below.refl _ _) rfl
  refine Oy.walk_q ?_ fun x24 => ?_
  ·intro w1 hb hd K hK;obtain rfl : _ = x23 := Eq.symm (hd 9 (by kernel_rfl));clear hd;go_simp;exact hK _ _ (Below.refl _ _) rfl
  refine Oy.walk_q ?_ fun x25 => ?_
  ·intro w1 hb hd K hK;obtain rfl : _ = x24 := Eq.symm (hd 10 (by kernel_rfl));clear hd;have c_d0 := (hb.cell (cell_lt d0)).trans d0;have c_d1 := (hb.cell (cell_lt d1)).trans d1;have c_d2 := (hb.cell (cell_lt d2)).trans d2;have c_d3 := (hb.cell (cell_lt d3)).trans d3;have c_d4 := (hb.cell (cell_lt d4)).trans d4;go_simp;exact hK _ _ (Below.refl _ _) rfl
  refine Oy.walk_q ?_ fun x26 => ?_
  ·intro w1 hb hd K hK;obtain rfl : _ = x24 := Eq.symm (hd 10 (by kernel_rfl));clear hd;go_simp;exact hK _ _ (Below.refl _ _) rfl
  refine Oy.walk_q ?_ fun x27 => ?_
  ·intro w1 hb hd K hK;obtain rfl : _ = x25 := Eq.symm (hd 11 (by kernel_rfl));obtain rfl : _ = x26 := Eq.symm (hd 12 (by kernel_rfl));obtain rfl : _ = x24 := Eq.symm (hd 10 (by kernel_rfl));clear hd;go_simp;refine (HRL.out w1 _ (HBW.out w1 hb) (HRU.out w1 hb)).mono ?_;rintro e w5 ⟨rfl, hb5⟩;go_simp;exact hK _ _ hb5 rfl
  refine Oy.walk_q ?_ fun x28 => ?_
  ·intro w1 hb hd K hK;obtain rfl : _ = x24 := Eq.symm (hd 10 (by kernel_rfl));obtain rfl : _ = x27 := Eq.symm (hd 13 (by kernel_rfl));clear hd;go_simp;exact hK _ _ (Below.refl _ _) rfl
  refine Oy.walk_q ?_ fun x2 => ?_
  ·intro w1 hb hd K hK;obtain rfl : _ = x28 := Eq.symm (hd 14 (by kernel_rfl));clear hd;go_simp;exact hK _ _ (Below.refl _ _) rfl
  refine Oy.walk_nil rfl (fun w1 hb hd => ?_);obtain rfl : _ = x14 := Eq.symm (hd 0 (by kernel_rfl));obtain rfl : _ = x15 := Eq.symm (hd 1 (by kernel_rfl));have h16 : (fun (_ : List Value) v W => RzR (Tr.toI L) v W) [] x16 w1 := hd 2 (by kernel_rfl);obtain rfl : _ = x17 := Eq.symm (hd 3 (by kernel_rfl));obtain rfl : _ = x18 := Eq.symm (hd 4 (by kernel_rfl));obtain rfl : _ = x19 := Eq.symm (hd 5 (by kernel_rfl));obtain rfl : _ = x20 := Eq.symm (hd 6 (by kernel_rfl));have h21 : (fun (_ : List Value) v W => RzR (Tr.toI L) v W) [] x21 w1 := hd 7 (by kernel_rfl);obtain rfl : _ = x22 := Eq.symm (hd 8 (by kernel_rfl));obtain rfl : _ = x23 := Eq.symm (hd 9 (by kernel_rfl));obtain rfl : _ = x24 := Eq.symm (hd 10 (by kernel_rfl));obtain rfl : _ = x25 := Eq.symm (hd 11 (by kernel_rfl));obtain rfl : _ = x26 := Eq.symm (hd 12 (by kernel_rfl));obtain rfl : _ = x27 := Eq.symm (hd 13 (by kernel_rfl));obtain rfl : _ = x28 := Eq.symm (hd 14 (by kernel_rfl));obtain rfl : _ = x2 := Eq.symm (hd 15 (by kernel_rfl));clear hd;have HBZ := Lib.hid (HBW.out w1 hb);clear hb;go_simp;go_wp2;go_ret;exact ⟨rfl, HBZ.out⟩
 ·rw [decide_eq_false h0];have hn : L.length = 0 := by rw [HX.out h0]; rfl
  rw [hn];clear h0 hn;go_wp2;go_ret;exact ⟨rfl, HC4.out⟩
end Go.Proofs.YtcnfcililiehlaaGreatDoor.Ch.Vd
