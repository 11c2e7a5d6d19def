/- Own texts, joined: Xi, Xj, Ze. -/
import Derived.Test.YtcnfcililiehlaaGreatDoorR5
import Derived.Test.YtcnfcililiehlaaGreatDoorR11
import Derived.Test.YtcnfcililiehlaaGreatDoorR14
import Derived.Test.YtcnfcililiehlaaGreatDoorR15
import Derived.Test.YtcnfcililiehlaaGreatDoorR18
namespace Go.Proofs.YtcnfcililiehlaaGreatDoor.Ch.Vd
open Go.RowKit
set_option maxRecDepth 100000
structure Sm (c : CH) (sp : List SP) (tp : List TP) : Prop where
 es : c.es.length <= 1000000
 vs : c.vs.length <= 1000000
 ss : sp.length <= 1000000
 ts : tp.length <= 1000000
theorem ofKind_any {w : World} {c : CH} {eV vV sV tV : Value} {sp : List SP} {tp : List TP} (h : ChM w c eV vV sV tV sp tp) (hs : Sm c sp tp) (want : Int) (v u : Value) (cs : List CM) (hv : RdI w v cs) (hcl : cs.length <= 4611686018427387904) (ns : List (List UInt8)) (hu : RdW w u ns) (hnl : ns.length <= 4611686018427387904) :
 Calls Tryz.prog 213 #[.int .i64 want, v, chA c eV vV sV tV, u] w fun e w' => e = .returned (.int .i64 (ofE want c ns cs)) /\ Below w.heap.size w w' := by
 have hvs := hs.vs;obtain ⟨M, A1, A2, A3, A4, k1, k2, k3, k4, w1, hM, rfl, rfl, rfl, rfl, hw1, hb1, hz1, d0, d1, d2, d3, d4⟩ := box_ch h;have hK : ∀ W, Below w.heap.size w W -> Calls Tryz.prog 239 #[v, .slice A2 c.vs.length k2, u] W fun e w' => e = .returned (.tuple #[.int .i64 (kindP (vmL c) ns cs).1, .int .i64 (kindP (vmL c) ns cs).2]) /\ Below W.heap.size W w' := fun W hW =>
  Kd.kindsOf_any v _ u cs (vmL c) ns W (hv.rd.below hW) hcl (h.below hW).rdV (by unfold vmL; rw [List.length_map]; omega) (hu.below hW) hnl
 obtain ⟨Ax, cx, rfl⟩ := hv.slice;obtain ⟨Au, cu, rfl⟩ := hu.form;have hE : ofE want c ns cs = if (kindP (vmL c) ns cs).2 ≠ 0 then (kindP (vmL c) ns cs).2 else if (kindP (vmL c) ns cs).1 = want then 0 else 8 := rfl
 unfold chA;rw [hM];have HK := Lib.hid hK; have HW := Lib.hid hw1; have HB := Lib.hid hb1; have HE := Lib.hid hE;clear hM hw1 hb1 hK h hv hu hE hs;generalize (kindP (vmL c) ns cs).1 = kk at *
 generalize (kindP (vmL c) ns cs).2 = ke at *
 generalize c.es.length = n1 at *; generalize c.vs.length = n2 at *; generalize sp.length = n3 at *; generalize tp.length = n4 at *; generalize cs.length = nx at *; generalize ns.length = nu at *
 by_cases he : ke = 0
 ·subst he;have hv : ofE want c ns cs = unE (kk == want) 8 := by
   rw [HE.out, if_neg (fun h => h rfl)];unfold unE;by_cases hk : kk = want
   ·rw [if_pos hk, if_pos (beq_iff_eq.2 hk)]
   ·rw [if_neg hk, if_neg (fun h => hk (beq_iff_eq.1 h))]
  have HV := Lib.hid hv;clear hv
  go_enter Tryz.func213, Tryz.ntmps213
  go_wp2_with fail
  rw [<- HW.out]
  go_wp2_with fail
  refine (HK.out _ HB.out).mono ?_;rintro e w2 ⟨rfl, hb2⟩;have HB2 := Lib.hid (HB.out.trans (hb2.mono HB.out.size)); clear hb2
  go_wp2_with fail
  refine (unl_any _ 8 _).mono ?_;rintro e w4 ⟨rfl, hb4⟩;have HB4 := Lib.hid (HB2.out.trans (hb4.mono HB2.out.size)); clear hb4;go_wp2;go_ret;exact ⟨ret_int HV.out.symm, HB4.out⟩
 ·have hv : ofE want c ns cs = ke := by rw [HE.out, if_pos he]
  have HV := Lib.hid hv;have hne := int_ne he;clear hv he
  go_enter Tryz.func213, Tryz.ntmps213
  go_wp2_with fail
  rw [<- HW.out]
  go_wp2_with fail
  refine (HK.out _ HB.out).mono ?_;rintro e w2 ⟨rfl, hb2⟩;have HB2 := Lib.hid (HB.out.trans (hb2.mono HB.out.size)); clear hb2;go_wp2;go_ret;exact ⟨ret_int HV.out.symm, HB2.out⟩
theorem actCalled_any (x : VM) (X N : ByteArray) (g : Nat) (w : World) (hg : g < w.heap.size) (hN : w.cell? ⟨g, 1, none⟩ = some (.string N)) :
 Calls Tryz.prog 238 #[vaA X x, .pointer (some ⟨g, 0, none⟩)] w fun e w' => e = .returned (.bool (decide (X.data.toList = N.data.toList))) /\ Below w.heap.size w w' := by
 have HB : Hid (∀ W : World, ∀ o : Obj, Below W.heap.size W (W.alloc o)) := fun W o => (Below.refl _ _).alloc (Nat.le_refl _) o
 have hne0 : w.heap.size ≠ g := by omega
 unfold vaA;by_cases he : X.data.toList = N.data.toList
 ·obtain rfl := str_eq he;rw [decide_eq_true he];clear he
  go_enter Tryz.func238, Tryz.ntmps238
  go_wp2;go_ret;exact ⟨rfl, HB.out _ _⟩
 ·have hne := str_ne he;have hne' := str_ne (Ne.symm he);rw [decide_eq_false he];clear he
  go_enter Tryz.func238, Tryz.ntmps238
  go_wp2;go_ret;exact ⟨rfl, HB.out _ _⟩
set_option maxHeartbeats 1000000 in
theorem actIndex_any (A : Option Addr) (cp : Nat) (vs : List VM) (N : ByteArray) (g : Nat) (w : World) (hR : Inn w 7 (.slice A vs.length cp) vs.length (Ch.flatV vs)) (hl : vs.length <= 4611686018427387904) (hg : g < w.heap.size) (hN : w.cell? ⟨g, 1, none⟩ = some (.string N)) :
 Calls Tryz.prog 237 #[.slice A vs.length cp, .func (.func 238) #[] #[.pointer (some ⟨g, 0, none⟩)]] w fun e w' => e = .returned (.int .i64 (ixP (isV N.data.toList) (vs.map vm) 0)) /\ Below w.heap.size w w' := by
 have HR := Lib.hid hR; clear hR;obtain ⟨n, hn⟩ : ∃ n, vs.length = n := ⟨_, rfl⟩
 have HN := Lib.hid hn;have HML : Hid ((vs.map vm).length = n) := by show _ = _; rw [List.length_map, hn]
 rw [hn] at hl HR ⊢;clear hn;have HNM := Lib.hid hN; clear hN
 go_enter Tryz.func237, Tryz.ntmps237
 go_wp2
 go_loopw [4, 5, 8] (fun x4 x5 i wr => x4 = .int .i64 0 /\ (x5 = .int .i64 0 \/ True) /\ ∃ k : Nat, k <= n /\ i = .int .i64 k /\ Hid (ixP (isV N.data.toList) ((vs.map vm).drop k) k = ixP (isV N.data.toList) (vs.map vm) 0) /\ Below w.heap.size w wr) (fun _ _ i _ => n - (intOf i).toNat)
 case atStart => exact ⟨rfl, Or.inr trivial, 0, by omega, rfl, rfl, Below.refl _ _⟩
 case round =>
  obtain ⟨rfl, _, k, hk, rfl, HI, hb⟩ := hrel;have HBL := Lib.hid hb;by_cases hkn : k < n
  ·obtain ⟨b, o, X, rfl, -, hX, e0, e1, e2, e3, e4, e5, e6⟩ := va_at (HR.out.below hb) HN.out (k := k) (by rw [HN.out]; exact hkn);have hst := ix_step (p := isV N.data.toList) (l := vs.map vm) (k := k) (by rw [HML.out]; exact hkn);rw [HI.out] at hst;have hiv : isV N.data.toList ((vs.map vm)[k]'(by rw [HML.out]; exact hkn)) = decide (X.data.toList = N.data.toList) := by rw [hX, List.getElem_map]; rfl
   rw [hiv] at hst;have HC := Lib.hid (actCalled_any (vs[k]'(by rw [HN.out]; exact hkn)) X N g wr (by have := HBL.out.size; omega) ((hb.cell hg).trans HNM.out));generalize vs[k]'(by rw [HN.out]; exact hkn) = x at *
   clear hX hb hiv;by_cases he : X.data.toList = N.data.toList
   ·have hr : ixP (isV N.data.toList) (vs.map vm) 0 = k := by rw [hst, if_pos (by simp [he])]
    have HRR := Lib.hid hr;have HE := Lib.hid (decide_eq_true he);clear hst hr he HI
    go_wp2_with fail
    refine HC.out.mono ?_;rintro e w1 ⟨rfl, hb1⟩;rw [HE.out];have HB1 := Lib.hid (HBL.out.trans (hb1.mono HBL.out.size)); clear hb1;go_wp2;go_ret;exact ⟨ret_int HRR.out.symm, HB1.out⟩
   ·have hr : ixP (isV N.data.toList) ((vs.map vm).drop (k + 1)) (k + 1) = ixP (isV N.data.toList) (vs.map vm) 0 := by rw [hst, if_neg (by simp [he])]
    have HRR := Lib.hid hr;have HE := Lib.hid (decide_eq_false he);clear hst hr he HI
    go_wp2_with fail
    refine HC.out.mono ?_;rintro e w1 ⟨rfl, hb1⟩;rw [HE.out];have HB1 := Lib.hid (HBL.out.trans (hb1.mono HBL.out.size)); clear hb1;go_wp2
    go_roundw
    case rel => exact ⟨rfl, Or.inr trivial, k + 1, by omega, by go_num, HRR.out, HB1.out⟩
    case measure => simp [intOf]; omega
  ·have hr : ixP (isV N.data.toList) (vs.map vm) 0 = -1 := by rw [<- HI.out, ix_end (by rw [HML.out]; exact hkn)]
   have HRR := Lib.hid hr;clear hr HI;go_wp2;go_ret;exact ⟨ret_int HRR.out.symm, HBL.out⟩
set_option maxHeartbeats 4000000 in
theorem action_any {w : World} {c : CH} {eV vV sV tV : Value} {sp : List SP} {tp : List TP} (h : ChM w c eV vV sV tV sp tp) (hs : Sm c sp tp) (p : AP) (N : ByteArray) (hN : N.data.toList = p.1.nm) (hp : ActR w p) :
 Calls Tryz.prog 211 #[chA c eV vV sV tV, .agg #[.int .i64 p.1.kd, .string N, p.2]] w fun e w' => e = .returned (.int .i64 (actE c p.1)) /\ Below w.heap.size w w' := by
 have hvs := hs.vs; have hes := hs.es;have HH := Lib.hid h;obtain ⟨M, A1, A2, A3, A4, k1, k2, k3, k4, wc, hM, rfl, rfl, rfl, rfl, _, _, _, _, _, _, _, _⟩ := box_ch h;obtain ⟨⟨kd, nm, ex⟩, xv⟩ := p;obtain ⟨Ax, cx, hxv⟩ := hp.rd.slice;simp only at hN hxv;subst hN;subst hxv;have HOF := Lib.hid (fun want W (hW : Below w.heap.size w W) => ofKind_any (h.below hW) hs want _ (.slice none 0 0) ex (hp.rd.below hW) (by have h2 : ex.length * 32 <= 140737488355328 := hp.len; omega) [] (Inn.nil _ _) (by simp));have HCT := Lib.hid (fun W (hW : Below w.heap.size w W) => strContains_any _ c.es N W (h.below hW).rdW (by omega));have hix : ∀ W g, Below w.heap.size w W -> g < W.heap.size -> W.cell? ⟨g, 1, none⟩ = some (.string N) -> Calls Tryz.prog 237 #[.slice A2 c.vs.length k2, .func (.func 238) #[] #[.pointer (some ⟨g, 0, none⟩)]] W fun e w' => e = .returned (.int .i64 (ixP (isV N.data.toList) (vmL c) 0)) /\ Below W.heap.size W w' := fun W g hW hg hc => actIndex_any A2 k2 c.vs N g W (h.below hW).vs (by omega) hg hc
 have HIX := Lib.hid hix;have hixr : ixP (isV N.data.toList) (vmL c) 0 = -1 \/ ∃ m : Nat, ixP (isV N.data.toList) (vmL c) 0 = m /\ m < c.vs.length := by
  have hvl : (vmL c).length = c.vs.length := by unfold vmL; rw [List.length_map]
  rcases ix_range (isV N.data.toList) (vmL c) with h1 | ⟨h1, h2⟩
  ·exact Or.inl h1
  ·exact Or.inr ⟨(ixP (isV N.data.toList) (vmL c) 0).toNat, by omega, by omega⟩
 have HAE : Hid (actE c ⟨kd, N.data.toList, ex⟩ = if kd ≠ 1 then (if N.data.toList ∈ c.es then 0 else 2) else if ixP (isV N.data.toList) (vmL c) 0 = -1 then 2 else ofE (kdV (vmL c) (ixP (isV N.data.toList) (vmL c) 0)) c [] ex) := rfl;unfold chA at *
 rw [hM] at HOF ⊢;obtain ⟨w1, hw1⟩ : ∃ W, W = (w.alloc (.cells #[.string M, .slice A1 c.es.length k1, .slice A2 c.vs.length k2, .slice A3 sp.length k3, .slice A4 tp.length k4] 27)).alloc (.cells #[.int .i64 kd, .string N, .slice Ax ex.length cx] 116) := ⟨_, rfl⟩
 have hb1 : Below w.heap.size w w1 := hw1 ▸ ((Below.refl _ _).alloc (Nat.le_refl _) _).alloc (by simp) _;obtain ⟨d0, d1, d2, d3, d4⟩ : w1.cell? ⟨w.heap.size, 0, none⟩ = some (.string M) /\ w1.cell? ⟨w.heap.size, 1, none⟩ = some (.slice A1 c.es.length k1) /\ w1.cell? ⟨w.heap.size, 2, none⟩ = some (.slice A2 c.vs.length k2) /\ w1.cell? ⟨w.heap.size, 3, none⟩ = some (.slice A3 sp.length k3) /\ w1.cell? ⟨w.heap.size, 4, none⟩ = some (.slice A4 tp.length k4) := by rw [hw1]; simp
 obtain ⟨a0, a1, a2⟩ : w1.cell? ⟨w.heap.size + 1, 0, none⟩ = some (.int .i64 kd) /\ w1.cell? ⟨w.heap.size + 1, 1, none⟩ = some (.string N) /\ w1.cell? ⟨w.heap.size + 1, 2, none⟩ = some (.slice Ax ex.length cx) := by rw [hw1]; simp
 have hz1 : w1.heap.size = w.heap.size + 2 := by rw [hw1]; simp
 have HW := Lib.hid hw1; have HB := Lib.hid hb1;clear hM hw1 hb1 h hp hs hix;by_cases hk : kd = 1
 ·subst hk;rcases hixr with h1 | ⟨at_, hat, hlt⟩
  ·have hv : actE c ⟨1, N.data.toList, ex⟩ = 2 := by rw [HAE.out, if_neg (fun h => h rfl), if_pos h1]
   have HV := Lib.hid hv;rw [h1] at HIX;clear hv h1;have HI := Lib.hid (HIX.out w1 (w.heap.size + 1) HB.out (by omega) a1);generalize c.es.length = n1 at *; generalize c.vs.length = n2 at *; generalize sp.length = n3 at *; generalize tp.length = n4 at *; generalize ex.length = nx at *
   go_enter Tryz.func211, Tryz.ntmps211
   go_wp2_with fail
   rw [<- HW.out]
   go_wp2_with fail
   refine HI.out.mono ?_;rintro e w2 ⟨rfl, hb2⟩;have HB2 := Lib.hid (HB.out.trans (hb2.mono HB.out.size)); clear hb2;go_wp2;go_ret;exact ⟨ret_int HV.out.symm, HB2.out⟩
  ·obtain ⟨b, o, X, hA, -, -, -, f1, -, -, -, -, -⟩ := va_at ((HH.out.below HB.out).vs) rfl hlt;subst hA;obtain ⟨kv, hkv⟩ : ∃ x, (c.vs[at_]).kd = x := ⟨_, rfl⟩
   rw [hkv] at f1;have hkd : kdV (vmL c) (at_ : Int) = kv := by
    unfold kdV vmL;rw [Int.toNat_natCast, List.getElem?_map, List.getElem?_eq_getElem hlt, <- hkv]; rfl
   have hv : actE c ⟨1, N.data.toList, ex⟩ = ofE kv c [] ex := by rw [HAE.out, if_neg (fun h => h rfl), hat, if_neg (by omega), hkd]
   obtain ⟨ER, hER⟩ : ∃ x, ofE kv c [] ex = x := ⟨_, rfl⟩
   have HOF := Lib.hid (HOF.out kv);rw [hER] at hv HOF;have HV := Lib.hid hv;rw [hat] at HIX;have HI := Lib.hid (HIX.out w1 (w.heap.size + 1) HB.out (by omega) a1);clear hv hat hkv hkd hER;generalize c.es.length = n1 at *; generalize c.vs.length = n2 at *; generalize sp.length = n3 at *; generalize tp.length = n4 at *; generalize ex.length = nx at *
   go_enter Tryz.func211, Tryz.ntmps211
   go_wp2_with fail
   rw [<- HW.out]
   go_wp2_with fail
   refine HI.out.mono ?_;rintro e w2 ⟨rfl, hb2⟩;have HB2 := Lib.hid (HB.out.trans (hb2.mono HB.out.size));replace d0 := (hb2.cell (cell_lt d0)).trans d0;replace d1 := (hb2.cell (cell_lt d1)).trans d1;replace d2 := (hb2.cell (cell_lt d2)).trans d2;replace d3 := (hb2.cell (cell_lt d3)).trans d3;replace d4 := (hb2.cell (cell_lt d4)).trans d4;replace a2 := (hb2.cell (cell_lt a2)).trans a2;replace f1 := (hb2.cell (cell_lt f1)).trans f1;have HBW : Hid (∀ w1, Below w2.heap.size w2.drew w1 -> Below w.heap.size w w1) := fun w1 hb => HB2.out.trans (((Below.refl _ _).drew.trans hb).mono HB2.out.size)
   clear hb2 a0 a1
   go_wp2_with fail
   refine Oy.region_quiet 31 [Oy.eqD (.pointer (some ⟨w.heap.size, 2, none⟩)), Oy.eqD (.slice (some ⟨b, o, none⟩) n2 k2), Oy.eqD (.int .i64 at_), Oy.eqD (.pointer (some ⟨b, o + at_ * 7, none⟩)), Oy.eqD (.pointer (some ⟨b, o + at_ * 7 + 1, none⟩)), Oy.eqD (.int .i64 kv), Oy.eqD (.pointer (some ⟨w.heap.size + 1, 2, none⟩)), Oy.eqD (.slice Ax nx cx), Oy.eqD (.agg #[.string M, .slice A1 n1 k1, .slice (some ⟨b, o, none⟩) n2 k2, .slice A3 n3 k3, .slice A4 n4 k4]), Oy.eqD (.int .i64 ER), Oy.eqD (.int .i64 ER)] [[], [], [], [], [], [], [], [], [], [], []] (by kernel_rfl) rfl (by kernel_rfl) (by kernel_rfl) ⟨Oy.keeps_eq _, Oy.keeps_eq _, Oy.keeps_eq _, Oy.keeps_eq _, Oy.keeps_eq _, Oy.keeps_eq _, Oy.keeps_eq _, Oy.keeps_eq _, Oy.keeps_eq _, Oy.keeps_eq _, Oy.keeps_eq _, trivial⟩ ?_;refine Oy.walk_q ?_ fun x21 => ?_
   ·intro w1 hb hd K hK;clear hd;go_simp;exact hK _ _ (Below.refl _ _) rfl
   refine Oy.walk_q ?_ fun x22 => ?_
   ·intro w1 hb hd K hK;obtain rfl : _ = x21 := Eq.symm (hd 0 (by kernel_rfl));clear hd;have c_d2 := (hb.cell (cell_lt d2)).trans d2;go_simp;exact hK _ _ (Below.refl _ _) rfl
   refine Oy.walk_q ?_ fun x23 => ?_
   ·intro w1 hb hd K hK;clear hd;go_simp;exact hK _ _ (Below.refl _ _) rfl
   refine Oy.walk_q ?_ fun x24 => ?_
   ·intro w1 hb hd K hK;obtain rfl : _ = x22 := Eq.symm (hd 1 (by kernel_rfl));obtain rfl : _ = x23 := Eq.symm (hd 2 (by kernel_rfl));clear hd;go_simp;exact hK _ _ (Below.refl _ _) rfl
   refine Oy.walk_q ?_ fun x25 => ?_
   ·intro w1 hb hd K hK;obtain rfl : _ = x24 := Eq.symm (hd 3 (by kernel_rfl));clear hd;go_simp;exact hK _ _ (Below.refl _ _) rfl
   refine Oy.walk_q ?_ fun x26 => ?_
   ·intro w1 hb hd K hK;obtain rfl : _ = x25 := Eq.symm (hd 4 (by kernel_rfl));clear hd;have c_f1 := (hb.cell (cell_lt f1)).trans f1;go_simp;exact hK _ _ (Below.refl _ _) rfl
   refine Oy.walk_q ?_ fun x27 => ?_
   ·intro w1 hb hd K hK;clear hd;go_simp;exact hK _ _ (Below.refl _ _) rfl
   refine Oy.walk_q ?_ fun x28 => ?_
   ·intro w1 hb hd K hK;obtain rfl : _ = x27 := Eq.symm (hd 6 (by kernel_rfl));clear hd;have c_a2 := (hb.cell (cell_lt a2)).trans a2;go_simp;exact hK _ _ (Below.refl _ _) rfl
   refine Oy.walk_q ?_ fun x29 => ?_
   ·intro w1 hb hd K hK;clear hd;have c_d0 := (hb.cell (cell_lt d0)).trans d0;have c_d1 := (hb.cell (cell_lt d1)).trans d1;have c_d2 := (hb.cell (cell_lt d2)).trans d2;have c_d3 := (hb.cell (cell_lt d3)).trans d3;have c_d4 := (hb.cell (cell_lt d4)).trans d4;go_simp;exact hK _ _ (Below.refl _ _) rfl
   refine Oy.walk_q ?_ fun x30 => ?_
   ·intro w1 hb hd K hK;obtain rfl : _ = x26 := Eq.symm (hd 5 (by kernel_rfl));obtain rfl : _ = x28 := Eq.symm (hd 7 (by kernel_rfl));obtain rfl : _ = x29 := Eq.symm (hd 8 (by kernel_rfl));clear hd;go_simp;refine (HOF.out w1 (HBW.out w1 hb)).mono ?_;rintro e w5 ⟨rfl, hb5⟩;go_simp;exact hK _ _ hb5 rfl
   refine Oy.walk_q ?_ fun x4 => ?_
   ·intro w1 hb hd K hK;obtain rfl : _ = x30 := Eq.symm (hd 9 (by kernel_rfl));clear hd;go_simp;exact hK _ _ (Below.refl _ _) rfl
   refine Oy.walk_nil rfl (fun w1 hb hd => ?_);obtain rfl : _ = x21 := Eq.symm (hd 0 (by kernel_rfl));obtain rfl : _ = x22 := Eq.symm (hd 1 (by kernel_rfl));obtain rfl : _ = x23 := Eq.symm (hd 2 (by kernel_rfl));obtain rfl : _ = x24 := Eq.symm (hd 3 (by kernel_rfl));obtain rfl : _ = x25 := Eq.symm (hd 4 (by kernel_rfl));obtain rfl : _ = x26 := Eq.symm (hd 5 (by kernel_rfl));obtain rfl : _ = x27 := Eq.symm (hd 6 (by kernel_rfl));obtain rfl : _ = x28 := Eq.symm (hd 7 (by kernel_rfl));obtain rfl : _ = x29 := Eq.symm (hd 8 (by kernel_rfl));obtain rfl : _ = x30 := Eq.symm (hd 9 (by kernel_rfl));obtain rfl : _ = x4 := Eq.symm (hd 10 (by kernel_rfl));clear hd;have HBZ := Lib.hid (HBW.out w1 hb);clear hb;go_simp;go_wp2;go_ret;exact ⟨ret_int HV.out.symm, HBZ.out⟩
 ·have q1 : (kd != 1) = true := bne_iff_ne.2 hk;have hv : actE c ⟨kd, N.data.toList, ex⟩ = unE (decide (N.data.toList ∈ c.es)) 2 := by
   rw [HAE.out, if_pos hk];unfold unE;by_cases hm : N.data.toList ∈ c.es
   ·rw [if_pos hm, decide_eq_true hm, if_pos rfl]
   ·rw [if_neg hm, decide_eq_false hm]; rfl
  have HV := Lib.hid hv;clear hv hk;generalize decide (N.data.toList ∈ c.es) = mb at *
  generalize c.es.length = n1 at *; generalize c.vs.length = n2 at *; generalize sp.length = n3 at *; generalize tp.length = n4 at *; generalize ex.length = nx at *
  go_enter Tryz.func211, Tryz.ntmps211
  go_wp2_with fail
  rw [<- HW.out]
  go_wp2_with fail
  refine (HCT.out _ HB.out).mono ?_;rintro e w2 ⟨rfl, h2⟩;obtain rfl := h2
  go_wp2_with fail
  refine (unl_any _ 2 _).mono ?_;rintro e w4 ⟨rfl, hb4⟩;have HB4 := Lib.hid (HB.out.trans (hb4.mono HB.out.size)); clear hb4;go_wp2;go_ret;exact ⟨ret_int HV.out.symm, HB4.out⟩
set_option maxHeartbeats 4000000 in
theorem blockAt_any {w : World} {c : CH} {eV vV sV tV : Value} {sp : List SP} {tp : List TP} (h : ChM w c eV vV sV tV sp tp) (hs : Sm c sp tp) (A : Option Addr) (k5 : Nat) (ps : List AP) (hR : RdA w (.slice A ps.length k5) ps) (i : Nat) (hi : i < ps.length) (_hpl : ps.length <= 4611686018427387904) (g q : Nat)
 (M : ByteArray) (hM : bstr c.nm = .string M) (d0 : w.cell? ⟨g, 0, none⟩ = some (.string M)) (d1 : w.cell? ⟨g, 1, none⟩ = some eV) (d2 : w.cell? ⟨g, 2, none⟩ = some vV) (d3 : w.cell? ⟨g, 3, none⟩ = some sV) (d4 : w.cell? ⟨g, 4, none⟩ = some tV) (b0 : w.cell? ⟨q, 0, none⟩ = some (.slice A ps.length k5)) :
 Calls Tryz.prog 210 (#[.int .i64 i] ++ #[.pointer (some ⟨g, 0, none⟩), .pointer (some ⟨q, 0, none⟩)]) w fun e w' => e = .returned (.int .i64 (actAt c (ps.map Prod.fst) i)) /\ Below w.heap.size w w' := by
 have hae : actAt c (ps.map Prod.fst) i = actE c (ps[i]).1 := by unfold actAt; rw [List.getElem?_map, List.getElem?_eq_getElem hi]; rfl
 rw [hae];obtain ⟨b, o, rfl, _, f0, f1, f2, hac⟩ := hR.at_ hi;obtain ⟨N, hN, hNl⟩ := bstr_some (ps[i]).1.nm;have hAC := fun W (hW : Below w.heap.size w W) => action_any (h.below hW) hs ps[i] N hNl (hac.below hW)
 obtain ⟨⟨A1, k1, rfl⟩, ⟨A2, k2, rfl⟩, ⟨A3, k3, rfl⟩, ⟨A4, k4, rfl⟩⟩ := h.forms;obtain ⟨Ax, cx, hxv⟩ := hac.rd.slice;unfold chA at hAC;rw [hM] at hAC;rw [hN] at f1;rw [hxv] at f2 hAC;have HAC := Lib.hid hAC;obtain ⟨ER, hER⟩ : ∃ x, actE c (ps[i]).1 = x := ⟨_, rfl⟩
 rw [hER] at HAC ⊢;have HBW : Hid (∀ w1, Below w.heap.size w.drew w1 -> Below w.heap.size w w1) := fun w1 hb => (Below.refl _ _).drew.trans hb
 generalize (ps[i]).1.ex.length = nx at *
 generalize (ps[i]).1.kd = kd at *
 clear h hs hR hM hac hAC hN hNl hxv hER hae;generalize c.es.length = n1 at *; generalize c.vs.length = n2 at *; generalize sp.length = n3 at *; generalize tp.length = n4 at *; generalize ps.length = n5 at *
 go_enter Tryz.func210, Tryz.ntmps210
 go_wp2_with fail
 refine Oy.region_quiet 11 [Oy.eqD (.agg #[.string M, .slice A1 n1 k1, .slice A2 n2 k2, .slice A3 n3 k3, .slice A4 n4 k4]), Oy.eqD (.slice (some ⟨b, o, none⟩) n5 k5), Oy.eqD (.int .i64 i), Oy.eqD (.pointer (some ⟨b, o + i * 3, none⟩)), Oy.eqD (.agg #[.int .i64 kd, .string N, .slice Ax nx cx]), Oy.eqD (.int .i64 ER), Oy.eqD (.int .i64 ER)] [[], [], [], [], [], [], []] (by kernel_rfl) rfl (by kernel_rfl) (by kernel_rfl) ⟨Oy.keeps_eq _, Oy.keeps_eq _, Oy.keeps_eq _, Oy.keeps_eq _, Oy.keeps_eq _, Oy.keeps_eq _, Oy.keeps_eq _, trivial⟩ ?_;refine Oy.walk_q ?_ fun x5 => ?_
 ·intro w1 hb hd K hK;clear hd;have c_d0 := (hb.cell (cell_lt d0)).trans d0;have c_d1 := (hb.cell (cell_lt d1)).trans d1;have c_d2 := (hb.cell (cell_lt d2)).trans d2;have c_d3 := (hb.cell (cell_lt d3)).trans d3;have c_d4 := (hb.cell (cell_lt d4)).trans d4;go_simp;exact hK _ _ (Below.refl _ _) rfl
 refine Oy.walk_q ?_ fun x6 => ?_
 ·intro w1 hb hd K hK;clear hd;have c_b0 := (hb.cell (cell_lt b0)).trans b0;go_simp;exact hK _ _ (Below.refl _ _) rfl
 refine Oy.walk_q ?_ fun x7 => ?_
 ·intro w1 hb hd K hK;clear hd;go_simp;exact hK _ _ (Below.refl _ _) rfl
 refine Oy.walk_q ?_ fun x8 => ?_
 ·intro w1 hb hd K hK;obtain rfl : _ = x6 := Eq.symm (hd 1 (by kernel_rfl));obtain rfl : _ = x7 := Eq.symm (hd 2 (by kernel_rfl));clear hd;go_simp;exact hK _ _ (Below.refl _ _) rfl
 refine Oy.walk_q ?_ fun x9 => ?_
 ·intro w1 hb hd K hK;obtain rfl : _ = x8 := Eq.symm (hd 3 (by kernel_rfl));clear hd;have c_f0 := (hb.cell (cell_lt f0)).trans f0;have c_f1 := (hb.cell (cell_lt f1)).trans f1;have c_f2 := (hb.cell (cell_lt f2)).trans f2;go_simp;exact hK _ _ (Below.refl _ _) rfl
 refine Oy.walk_q ?_ fun x10 => ?_
 ·intro w1 hb hd K hK;obtain rfl : _ = x5 := Eq.symm (hd 0 (by kernel_rfl));obtain rfl : _ = x9 := Eq.symm (hd 4 (by kernel_rfl));clear hd;go_simp;refine (HAC.out w1 (HBW.out w1 hb)).mono ?_;rintro e w5 ⟨rfl, hb5⟩;go_simp;exact hK _ _ hb5 rfl
 refine Oy.walk_q ?_ fun x4 => ?_
 ·intro w1 hb hd K hK;obtain rfl : _ = x10 := Eq.symm (hd 5 (by kernel_rfl));clear hd;go_simp;exact hK _ _ (Below.refl _ _) rfl
 refine Oy.walk_nil rfl (fun w1 hb hd => ?_);obtain rfl : _ = x5 := Eq.symm (hd 0 (by kernel_rfl));obtain rfl : _ = x6 := Eq.symm (hd 1 (by kernel_rfl));obtain rfl : _ = x7 := Eq.symm (hd 2 (by kernel_rfl));obtain rfl : _ = x8 := Eq.symm (hd 3 (by kernel_rfl));obtain rfl : _ = x9 := Eq.symm (hd 4 (by kernel_rfl));obtain rfl : _ = x10 := Eq.symm (hd 5 (by kernel_rfl));obtain rfl : _ = x4 := Eq.symm (hd 6 (by kernel_rfl));clear hd;have HBZ := Lib.hid (HBW.out w1 hb);clear hb;go_simp;go_wp2;go_ret;exact ⟨rfl, HBZ.out⟩
end Go.Proofs.YtcnfcililiehlaaGreatDoor.Ch.Vd
namespace Go.Proofs.YtcnfcililiehlaaGreatDoor.Ch.Vd
open Go.RowKit
set_option maxRecDepth 100000
set_option maxHeartbeats 4000000 in
theorem block_any {w : World} {c : CH} {eV vV sV tV : Value} {sp : List SP} {tp : List TP} (h : ChM w c eV vV sV tV sp tp) (hs : Sm c sp tp) (v : Value) (l : List AM) (hv : BlkR w v l) (hll : l.length <= 4611686018427387904) :
 Calls Tryz.prog 174 #[chA c eV vV sV tV, v] w fun e w' => e = .returned (.int .i64 (blockE c l)) /\ Below w.heap.size w w' := by
 have HH := Lib.hid h;obtain ⟨M, A1, A2, A3, A4, k1, k2, k3, k4, wc, hM, rfl, rfl, rfl, rfl, _, _, _, _, _, _, _, _⟩ := box_ch h;obtain ⟨ps, hps, hR, _⟩ := hv;subst hps;rw [List.length_map] at hll;obtain ⟨A5, k5, rfl⟩ := hR.form;have HRT := Lib.hid (fun W (hW : Below w.heap.size w W) => aRight_any _ ps W (hR.below hW) (by omega));have HBE : Hid (blockE c (ps.map Prod.fst) = if ps.map Prod.fst = [] then 0 else if rightA (ps.map Prod.fst) = false then 1 else firE (actAt c (ps.map Prod.fst)) (ps.map Prod.fst).length) := rfl;unfold chA;rw [hM];obtain ⟨w1, hw1⟩ : ∃ W, W = (w.alloc (.cells #[.string M, .slice A1 c.es.length k1, .slice A2 c.vs.length k2, .slice A3 sp.length k3, .slice A4 tp.length k4] 27)).alloc (.cells #[.slice A5 ps.length k5] 48) := ⟨_, rfl⟩
 have hb1 : Below w.heap.size w w1 := hw1 ▸ ((Below.refl _ _).alloc (Nat.le_refl _) _).alloc (by simp) _;obtain ⟨d0, d1, d2, d3, d4⟩ : w1.cell? ⟨w.heap.size, 0, none⟩ = some (.string M) /\ w1.cell? ⟨w.heap.size, 1, none⟩ = some (.slice A1 c.es.length k1) /\ w1.cell? ⟨w.heap.size, 2, none⟩ = some (.slice A2 c.vs.length k2) /\ w1.cell? ⟨w.heap.size, 3, none⟩ = some (.slice A3 sp.length k3) /\ w1.cell? ⟨w.heap.size, 4, none⟩ = some (.slice A4 tp.length k4) := by rw [hw1]; simp
 have b0 : w1.cell? ⟨w.heap.size + 1, 0, none⟩ = some (.slice A5 ps.length k5) := by rw [hw1]; simp
 have hz1 : w1.heap.size = w.heap.size + 2 := by rw [hw1]; simp
 have hFI : ∀ W, Below w1.heap.size w1 W -> Calls Tryz.prog 130 #[.int .i64 ps.length, .func (.func 210) #[] #[.pointer (some ⟨w.heap.size, 0, none⟩), .pointer (some ⟨w.heap.size + 1, 0, none⟩)]] W fun e w' => e = .returned (.int .i64 (firE (actAt c (ps.map Prod.fst)) ps.length)) /\ Below W.heap.size W w' := fun W hW =>
  first_any ps.length 210 _ (actAt c (ps.map Prod.fst)) W (by omega) (enters_of Tryz.func210 (by kernel_rfl) rfl) fun W' i hW' hi => by
   have hb := hW.trans (hW'.mono hW.size);have hb0 := hb1.trans (hb.mono hb1.size);exact blockAt_any (h.below hb0) hs A5 k5 ps (hR.below hb0) i hi (by omega) _ _ M hM ((hb.cell (cell_lt d0)).trans d0) ((hb.cell (cell_lt d1)).trans d1) ((hb.cell (cell_lt d2)).trans d2) ((hb.cell (cell_lt d3)).trans d3) ((hb.cell (cell_lt d4)).trans d4) ((hb.cell (cell_lt b0)).trans b0)
 have HFI := Lib.hid hFI;have HW := Lib.hid hw1; have HB := Lib.hid hb1;have hlm : (ps.map Prod.fst).length = ps.length := List.length_map ..;clear hw1 hb1 h hs hM hR hFI;rcases Nat.eq_zero_or_pos ps.length with h0 | h0
 ·have hv : blockE c (ps.map Prod.fst) = 0 := by rw [HBE.out, if_pos (List.eq_nil_of_length_eq_zero (by rw [hlm]; exact h0))]
  have HV := Lib.hid hv;rw [h0] at b0 HW;clear hv hlm;generalize c.es.length = n1 at *; generalize c.vs.length = n2 at *; generalize sp.length = n3 at *; generalize tp.length = n4 at *
  rw [h0]
  go_enter Tryz.func174, Tryz.ntmps174
  go_wp2_with fail
  rw [<- HW.out];go_wp2;go_ret;exact ⟨ret_int HV.out.symm, HB.out⟩
 ·have hne : ps.map Prod.fst ≠ [] := fun e => by rw [e] at hlm; simp at hlm; omega
  have q0 : ((ps.length : Int) == 0) = false := int_ne (by omega);cases hr : rightA (ps.map Prod.fst) with
  | false =>
   have hv : blockE c (ps.map Prod.fst) = 1 := by rw [HBE.out, if_neg hne, if_pos hr]
   have HV := Lib.hid hv; have HRR := Lib.hid hr;clear hv hlm hr hne;generalize c.es.length = n1 at *; generalize c.vs.length = n2 at *; generalize sp.length = n3 at *; generalize tp.length = n4 at *; generalize ps.length = n5 at *
   go_enter Tryz.func174, Tryz.ntmps174
   go_wp2_with fail
   rw [<- HW.out]
   go_wp2_with fail
   refine (HRT.out _ HB.out).mono ?_;rintro e w2 ⟨rfl, hb2⟩;rw [HRR.out];have HB2 := Lib.hid (HB.out.trans (hb2.mono HB.out.size)); clear hb2;go_wp2;go_ret;exact ⟨ret_int HV.out.symm, HB2.out⟩
  | true =>
   have hv : blockE c (ps.map Prod.fst) = firE (actAt c (ps.map Prod.fst)) ps.length := by rw [HBE.out, if_neg hne, if_neg (by rw [hr]; decide), hlm]
   obtain ⟨ER, hER⟩ : ∃ x, firE (actAt c (ps.map Prod.fst)) ps.length = x := ⟨_, rfl⟩
   rw [hER] at hv HFI;have HV := Lib.hid hv; have HRR := Lib.hid hr;clear hv hlm hr hne hER;generalize c.es.length = n1 at *; generalize c.vs.length = n2 at *; generalize sp.length = n3 at *; generalize tp.length = n4 at *; generalize ps.length = n5 at *
   go_enter Tryz.func174, Tryz.ntmps174
   go_wp2_with fail
   rw [<- HW.out]
   go_wp2_with fail
   refine (HRT.out _ HB.out).mono ?_;rintro e w2 ⟨rfl, hb2⟩;rw [HRR.out];have HF := Lib.hid (HFI.out w2 hb2);replace b0 := (hb2.cell (cell_lt b0)).trans b0;have HB2 := Lib.hid (HB.out.trans (hb2.mono HB.out.size)); clear hb2
   go_wp2_with fail
   refine HF.out.mono ?_;rintro e w3 ⟨rfl, hb3⟩;have HB3 := Lib.hid (HB2.out.trans (hb3.mono HB2.out.size)); clear hb3;go_wp2;go_ret;exact ⟨ret_int HV.out.symm, HB3.out⟩
set_option maxHeartbeats 4000000 in
theorem blocks_any {w : World} {c : CH} {eV vV sV tV : Value} {sp : List SP} {tp : List TP} (h : ChM w c eV vV sV tV sp tp) (hs : Sm c sp tp) (p : SP) (hp : StR w p) (he : p.1.en.length <= 4611686018427387904) (hx : p.1.ex.length <= 4611686018427387904) (X Y : ByteArray) :
 Calls Tryz.prog 138 #[chA c eV vV sV tV, .agg #[.string X, .int .i64 p.1.kd, .int .i64 p.1.dp, .string Y, p.2.1, p.2.2]] w fun e w' => e = .returned (.int .i64 (blocksE c p.1)) /\ Below w.heap.size w w' := by
 have HEN := Lib.hid (fun W (hW : Below w.heap.size w W) => block_any (h.below hW) hs p.2.1 p.1.en (hp.1.below hW) he);have HEX := Lib.hid (fun W (hW : Below w.heap.size w W) => block_any (h.below hW) hs p.2.2 p.1.ex (hp.2.below hW) hx);obtain ⟨E1, j1, e1⟩ := hp.1.form;obtain ⟨E2, j2, e2⟩ := hp.2.form;have hn1 : p.1.en ≠ [] ↔ 0 < p.1.en.length := List.length_pos_iff.symm;have hn2 : p.1.ex ≠ [] ↔ 0 < p.1.ex.length := List.length_pos_iff.symm;have hbs : blocksE c p.1 = if (Tr.pastP p.1.kd /\ 0 < p.1.en.length) \/ ((Tr.pastP p.1.kd \/ p.1.kd = 4) /\ 0 < p.1.ex.length) then 1 else orE (blockE c p.1.en) (blockE c p.1.ex) := by
  unfold blocksE;by_cases hq : (Tr.pastP p.1.kd /\ p.1.en ≠ []) \/ ((Tr.pastP p.1.kd \/ p.1.kd = 4) /\ p.1.ex ≠ [])
  ·rw [if_pos hq, if_pos (by rw [hn1, hn2] at hq; exact hq)]
  ·rw [if_neg hq, if_neg (fun k => hq (by rw [hn1, hn2]; exact k))]
 have HBS := Lib.hid hbs;obtain ⟨M, A1, A2, A3, A4, k1, k2, k3, k4, wc, hM, rfl, rfl, rfl, rfl, _, _, _, _, _, _, _, _⟩ := box_ch h;unfold chA at *
 rw [hM] at HEN HEX ⊢;rw [e1] at HEN ⊢;rw [e2] at HEX ⊢;have HHI := Lib.hid (fun W => vHistory_any (.string X) (.string Y) (.slice E1 p.1.en.length j1) (.slice E2 p.1.ex.length j2) p.1.kd p.1.dp W ⟨_, rfl⟩ ⟨_, rfl⟩ ⟨_, _, _, rfl⟩ ⟨_, _, _, rfl⟩);clear h hs hp hM e1 e2 hbs hn1 hn2;generalize blocksE c p.1 = RB at *
 generalize blockE c p.1.en = EB at *
 generalize blockE c p.1.ex = XB at *
 generalize p.1.en.length = m1 at *; generalize p.1.ex.length = m2 at *; generalize p.1.kd = kd at *; generalize p.1.dp = dd at *
 generalize c.es.length = n1 at *; generalize c.vs.length = n2 at *; generalize sp.length = n3 at *; generalize tp.length = n4 at *
 obtain ⟨w1, hw1⟩ : ∃ W, W = (w.alloc (.cells #[.string M, .slice A1 n1 k1, .slice A2 n2 k2, .slice A3 n3 k3, .slice A4 n4 k4] 27)).alloc (.cells #[.string X, .int .i64 kd, .int .i64 dd, .string Y, .slice E1 m1 j1, .slice E2 m2 j2] 50) := ⟨_, rfl⟩
 have hb1 : Below w.heap.size w w1 := hw1 ▸ ((Below.refl _ _).alloc (Nat.le_refl _) _).alloc (by simp) _;have hz1 : w1.heap.size = w.heap.size + 2 := by rw [hw1]; simp
 obtain ⟨d0, d1, d2, d3, d4⟩ : w1.cell? ⟨w.heap.size, 0, none⟩ = some (.string M) /\ w1.cell? ⟨w.heap.size, 1, none⟩ = some (.slice A1 n1 k1) /\ w1.cell? ⟨w.heap.size, 2, none⟩ = some (.slice A2 n2 k2) /\ w1.cell? ⟨w.heap.size, 3, none⟩ = some (.slice A3 n3 k3) /\ w1.cell? ⟨w.heap.size, 4, none⟩ = some (.slice A4 n4 k4) := by rw [hw1]; simp
 obtain ⟨s0, s1, s2, s3, s4, s5⟩ : w1.cell? ⟨w.heap.size + 1, 0, none⟩ = some (.string X) /\ w1.cell? ⟨w.heap.size + 1, 1, none⟩ = some (.int .i64 kd) /\ w1.cell? ⟨w.heap.size + 1, 2, none⟩ = some (.int .i64 dd) /\ w1.cell? ⟨w.heap.size + 1, 3, none⟩ = some (.string Y) /\ w1.cell? ⟨w.heap.size + 1, 4, none⟩ = some (.slice E1 m1 j1) /\ w1.cell? ⟨w.heap.size + 1, 5, none⟩ = some (.slice E2 m2 j2) := by rw [hw1]; simp
 have HT : Hid (∀ W, Below w1.heap.size w1 W -> (W.cell? ⟨w.heap.size, 0, none⟩ = some (.string M) /\ W.cell? ⟨w.heap.size, 1, none⟩ = some (.slice A1 n1 k1) /\ W.cell? ⟨w.heap.size, 2, none⟩ = some (.slice A2 n2 k2) /\ W.cell? ⟨w.heap.size, 3, none⟩ = some (.slice A3 n3 k3) /\ W.cell? ⟨w.heap.size, 4, none⟩ = some (.slice A4 n4 k4)) /\
  (W.cell? ⟨w.heap.size + 1, 1, none⟩ = some (.int .i64 kd) /\ W.cell? ⟨w.heap.size + 1, 4, none⟩ = some (.slice E1 m1 j1) /\ W.cell? ⟨w.heap.size + 1, 5, none⟩ = some (.slice E2 m2 j2))) := fun W hW =>
  ⟨⟨(hW.cell (cell_lt d0)).trans d0, (hW.cell (cell_lt d1)).trans d1, (hW.cell (cell_lt d2)).trans d2, (hW.cell (cell_lt d3)).trans d3, (hW.cell (cell_lt d4)).trans d4⟩, (hW.cell (cell_lt s1)).trans s1, (hW.cell (cell_lt s4)).trans s4, (hW.cell (cell_lt s5)).trans s5⟩
 have HW := Lib.hid hw1; have HB := Lib.hid hb1;clear hw1 hb1;by_cases hp : Tr.pastP kd
 ·have HPT := Lib.hid (decide_eq_true hp);by_cases h1 : 0 < m1
  ·have hv : RB = 1 := by rw [HBS.out, if_pos (Or.inl ⟨hp, h1⟩)]
   have HV := Lib.hid hv;have q1 : decide (0 < m1) = true := decide_eq_true h1;clear hv hp h1
   go_enter Tryz.func138, Tryz.ntmps138
   go_wp2_with fail
   rw [<- HW.out]
   go_wp2_with fail
   refine (HHI.out _).mono ?_;rintro e w2 ⟨rfl, hb2⟩;rw [HPT.out];obtain ⟨⟨c0, c1, c2, c3, c4⟩, t1, t4, t5⟩ := HT.out w2 hb2;have HB1 := Lib.hid hb2;have HB2 := Lib.hid (HB.out.trans (hb2.mono HB.out.size));clear hb2 d0 d1 d2 d3 d4 s0 s1 s2 s3 s4 s5;go_wp2;go_ret;exact ⟨ret_int HV.out.symm, HB2.out⟩
  ·obtain rfl : m1 = 0 := by omega
   by_cases h2 : 0 < m2
   ·have hv : RB = 1 := by rw [HBS.out, if_pos (Or.inr ⟨Or.inl hp, h2⟩)]
    have HV := Lib.hid hv;have q2 : decide (0 < m2) = true := decide_eq_true h2;clear hv hp h1 h2
    go_enter Tryz.func138, Tryz.ntmps138
    go_wp2_with fail
    rw [<- HW.out]
    go_wp2_with fail
    refine (HHI.out _).mono ?_;rintro e w2 ⟨rfl, hb2⟩;rw [HPT.out];obtain ⟨⟨c0, c1, c2, c3, c4⟩, t1, t4, t5⟩ := HT.out w2 hb2;have HB1 := Lib.hid hb2;have HB2 := Lib.hid (HB.out.trans (hb2.mono HB.out.size));clear hb2 d0 d1 d2 d3 d4 s0 s1 s2 s3 s4 s5;go_wp2;go_ret;exact ⟨ret_int HV.out.symm, HB2.out⟩
   ·obtain rfl : m2 = 0 := by omega
    have hv : RB = orE EB XB := by rw [HBS.out, if_neg (fun h => by rcases h with h | h <;> omega)]
    have HV := Lib.hid hv;clear hv hp h1 h2
    go_enter Tryz.func138, Tryz.ntmps138
    go_wp2_with fail
    rw [<- HW.out]
    go_wp2_with fail
    refine (HHI.out _).mono ?_;rintro e w2 ⟨rfl, hb2⟩;rw [HPT.out];obtain ⟨⟨c0, c1, c2, c3, c4⟩, t1, t4, t5⟩ := HT.out w2 hb2;have HB1 := Lib.hid hb2;have HB2 := Lib.hid (HB.out.trans (hb2.mono HB.out.size));clear hb2 d0 d1 d2 d3 d4 s0 s1 s2 s3 s4 s5;by_cases he : EB = 0
    ·subst he;have hv2 : RB = XB := by rw [HV.out]; rfl
     have HV2 := Lib.hid hv2; clear hv2
     go_wp2_with fail
     refine (HEN.out _ HB2.out).mono ?_;rintro e w3 ⟨rfl, hb3⟩;obtain ⟨⟨y0, y1, y2, y3, y4⟩, z1, z4, z5⟩ := HT.out w3 (HB1.out.trans (hb3.mono HB1.out.size));have HB3 := Lib.hid (HB2.out.trans (hb3.mono HB2.out.size)); clear hb3 c0 c1 c2 c3 c4 t1 t4 t5
     go_wp2_with fail
     refine (HEX.out _ HB3.out).mono ?_;rintro e w4 ⟨rfl, hb4⟩;have HB4 := Lib.hid (HB3.out.trans (hb4.mono HB3.out.size)); clear hb4;go_wp2;go_ret;exact ⟨ret_int HV2.out.symm, HB4.out⟩
    ·have hv2 : RB = EB := by rw [HV.out]; unfold orE; rw [if_pos he]
     have HV2 := Lib.hid hv2; have hne := int_ne he; clear hv2 he
     go_wp2_with fail
     refine (HEN.out _ HB2.out).mono ?_;rintro e w3 ⟨rfl, hb3⟩;have HB3 := Lib.hid (HB2.out.trans (hb3.mono HB2.out.size)); clear hb3;go_wp2;go_ret;exact ⟨ret_int HV2.out.symm, HB3.out⟩
 ·have HPT := Lib.hid (decide_eq_false hp);by_cases h4 : kd = 4
  ·subst h4;by_cases h2 : 0 < m2
   ·have hv : RB = 1 := by rw [HBS.out, if_pos (Or.inr ⟨Or.inr rfl, h2⟩)]
    have HV := Lib.hid hv;have q2 : decide (0 < m2) = true := decide_eq_true h2;clear hv hp h2
    go_enter Tryz.func138, Tryz.ntmps138
    go_wp2_with fail
    rw [<- HW.out]
    go_wp2_with fail
    refine (HHI.out _).mono ?_;rintro e w2 ⟨rfl, hb2⟩;rw [HPT.out];obtain ⟨⟨c0, c1, c2, c3, c4⟩, t1, t4, t5⟩ := HT.out w2 hb2;have HB1 := Lib.hid hb2;have HB2 := Lib.hid (HB.out.trans (hb2.mono HB.out.size));clear hb2 d0 d1 d2 d3 d4 s0 s1 s2 s3 s4 s5;go_wp2;go_ret;exact ⟨ret_int HV.out.symm, HB2.out⟩
   ·obtain rfl : m2 = 0 := by omega
    have hv : RB = orE EB XB := by rw [HBS.out, if_neg (fun h => by rcases h with h | h; exact hp h.1; omega)]
    have HV := Lib.hid hv;clear hv hp h2
    go_enter Tryz.func138, Tryz.ntmps138
    go_wp2_with fail
    rw [<- HW.out]
    go_wp2_with fail
    refine (HHI.out _).mono ?_;rintro e w2 ⟨rfl, hb2⟩;rw [HPT.out];obtain ⟨⟨c0, c1, c2, c3, c4⟩, t1, t4, t5⟩ := HT.out w2 hb2;have HB1 := Lib.hid hb2;have HB2 := Lib.hid (HB.out.trans (hb2.mono HB.out.size));clear hb2 d0 d1 d2 d3 d4 s0 s1 s2 s3 s4 s5;by_cases he : EB = 0
    ·subst he;have hv2 : RB = XB := by rw [HV.out]; rfl
     have HV2 := Lib.hid hv2; clear hv2
     go_wp2_with fail
     refine (HEN.out _ HB2.out).mono ?_;rintro e w3 ⟨rfl, hb3⟩;obtain ⟨⟨y0, y1, y2, y3, y4⟩, z1, z4, z5⟩ := HT.out w3 (HB1.out.trans (hb3.mono HB1.out.size));have HB3 := Lib.hid (HB2.out.trans (hb3.mono HB2.out.size)); clear hb3 c0 c1 c2 c3 c4 t1 t4 t5
     go_wp2_with fail
     refine (HEX.out _ HB3.out).mono ?_;rintro e w4 ⟨rfl, hb4⟩;have HB4 := Lib.hid (HB3.out.trans (hb4.mono HB3.out.size)); clear hb4;go_wp2;go_ret;exact ⟨ret_int HV2.out.symm, HB4.out⟩
    ·have hv2 : RB = EB := by rw [HV.out]; unfold orE; rw [if_pos he]
     have HV2 := Lib.hid hv2; have hne := int_ne he; clear hv2 he
     go_wp2_with fail
     refine (HEN.out _ HB2.out).mono ?_;rintro e w3 ⟨rfl, hb3⟩;have HB3 := Lib.hid (HB2.out.trans (hb3.mono HB2.out.size)); clear hb3;go_wp2;go_ret;exact ⟨ret_int HV2.out.symm, HB3.out⟩
  ·have q4 : (kd != 4) = true := bne_iff_ne.2 h4;have hv : RB = orE EB XB := by rw [HBS.out, if_neg (fun h => by rcases h with h | h; exact hp h.1; rcases h.1 with h | h; exact hp h; exact h4 h)]
   have HV := Lib.hid hv;clear hv hp h4
   go_enter Tryz.func138, Tryz.ntmps138
   go_wp2_with fail
   rw [<- HW.out]
   go_wp2_with fail
   refine (HHI.out _).mono ?_;rintro e w2 ⟨rfl, hb2⟩;rw [HPT.out];obtain ⟨⟨c0, c1, c2, c3, c4⟩, t1, t4, t5⟩ := HT.out w2 hb2;have HB1 := Lib.hid hb2;have HB2 := Lib.hid (HB.out.trans (hb2.mono HB.out.size));clear hb2 d0 d1 d2 d3 d4 s0 s1 s2 s3 s4 s5;by_cases he : EB = 0
   ·subst he;have hv2 : RB = XB := by rw [HV.out]; rfl
    have HV2 := Lib.hid hv2; clear hv2
    go_wp2_with fail
    refine (HEN.out _ HB2.out).mono ?_;rintro e w3 ⟨rfl, hb3⟩;obtain ⟨⟨y0, y1, y2, y3, y4⟩, z1, z4, z5⟩ := HT.out w3 (HB1.out.trans (hb3.mono HB1.out.size));have HB3 := Lib.hid (HB2.out.trans (hb3.mono HB2.out.size)); clear hb3 c0 c1 c2 c3 c4 t1 t4 t5
    go_wp2_with fail
    refine (HEX.out _ HB3.out).mono ?_;rintro e w4 ⟨rfl, hb4⟩;have HB4 := Lib.hid (HB3.out.trans (hb4.mono HB3.out.size)); clear hb4;go_wp2;go_ret;exact ⟨ret_int HV2.out.symm, HB4.out⟩
   ·have hv2 : RB = EB := by rw [HV.out]; unfold orE; rw [if_pos he]
    have HV2 := Lib.hid hv2; have hne := int_ne he; clear hv2 he
    go_wp2_with fail
    refine (HEN.out _ HB2.out).mono ?_;rintro e w3 ⟨rfl, hb3⟩;have HB3 := Lib.hid (HB2.out.trans (hb3.mono HB2.out.size)); clear hb3;go_wp2;go_ret;exact ⟨ret_int HV2.out.symm, HB3.out⟩
end Go.Proofs.YtcnfcililiehlaaGreatDoor.Ch.Vd
namespace Go.Proofs.YtcnfcililiehlaaGreatDoor
instance : DecidableEq AM := fun x y => decidable_of_iff (x.kd = y.kd /\ x.nm = y.nm /\ x.ex = y.ex) (by cases x; cases y; simp)
end Go.Proofs.YtcnfcililiehlaaGreatDoor
