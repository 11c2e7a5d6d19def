import Derived.Test.YtcnfcililiehlaaGreatDoorR1
import Derived.Test.YtcnfcililiehlaaGreatDoorR2
import Derived.Test.YtcnfcililiehlaaGreatDoorR3
import Derived.Test.YtcnfcililiehlaaGreatDoorR4
import Derived.Test.YtcnfcililiehlaaGreatDoorR5
import Derived.Test.YtcnfcililiehlaaGreatDoorR6
import Derived.Test.YtcnfcililiehlaaGreatDoorR7
import Derived.Test.YtcnfcililiehlaaGreatDoorR8
import Derived.Test.YtcnfcililiehlaaGreatDoorR9
import Derived.Test.YtcnfcililiehlaaGreatDoorR10
import Derived.Test.YtcnfcililiehlaaGreatDoorR11
import Derived.Test.YtcnfcililiehlaaGreatDoorR12
import Derived.Test.YtcnfcililiehlaaGreatDoorR13
import Derived.Test.YtcnfcililiehlaaGreatDoorR14
import Derived.Test.YtcnfcililiehlaaGreatDoorR15
import Derived.Test.YtcnfcililiehlaaGreatDoorR16
import Derived.Test.YtcnfcililiehlaaGreatDoorR17
import Derived.Test.YtcnfcililiehlaaGreatDoorR18
import Derived.Test.YtcnfcililiehlaaGreatDoorR19
import Derived.Test.YtcnfcililiehlaaGreatDoorR20
import Derived.Test.YtcnfcililiehlaaGreatDoorR21
import Derived.Test.YtcnfcililiehlaaGreatDoorR22
import Derived.Test.YtcnfcililiehlaaGreatDoorR23
import Derived.Test.YtcnfcililiehlaaGreatDoorR24
import Derived.Test.YtcnfcililiehlaaGreatDoorR25
import Derived.Test.YtcnfcililiehlaaGreatDoorR26
import Derived.Test.YtcnfcililiehlaaGreatDoorR27
import Derived.Test.YtcnfcililiehlaaGreatDoorR28
import Derived.Test.YtcnfcililiehlaaGreatDoorR29
import Derived.Test.YtcnfcililiehlaaGreatDoorR30
import Derived.Test.YtcnfcililiehlaaGreatDoorR31
import Derived.Test.YtcnfcililiehlaaGreatDoorR32
import Derived.Test.YtcnfcililiehlaaGreatDoorR33
import Derived.Test.YtcnfcililiehlaaGreatDoorR34
import Derived.Test.YtcnfcililiehlaaGreatDoorR35
import Derived.Test.YtcnfcililiehlaaGreatDoorR36
import Derived.Test.YtcnfcililiehlaaGreatDoorQL1
import Derived.Test.YtcnfcililiehlaaGreatDoorQL2
import Derived.Test.YtcnfcililiehlaaGreatDoorQL3
import Derived.Test.YtcnfcililiehlaaGreatDoorQL4
import Derived.Test.YtcnfcililiehlaaGreatDoorQL5
import Derived.Test.YtcnfcililiehlaaGreatDoorQL6
namespace Go.Proofs.YtcnfcililiehlaaGreatDoor.Ch.Vd
open Go.RowKit
set_option maxRecDepth 100000
theorem cellsInt10 : Tryz.prog.cellsOf 3 = 1 := by kernel_rfl
theorem bytesInt10 : Tryz.prog.bytesOf 3 = 8 := by kernel_rfl
theorem cellsU810 : Tryz.prog.cellsOf 5 = 1 := by kernel_rfl
theorem bytesU810 : Tryz.prog.bytesOf 5 = 1 := by kernel_rfl
theorem weigh10 {H : Type} {ts : List TypeId} {ds : List (DataW H)} (hsz : (DataW.weightsEach Tryz.prog ts ds).all (· <= reachBytes) = true) {j : Nat} {t : TypeId} {d : DataW H} (ht : ts[j]? = some t) (hd : ds[j]? = some d) : ∀ x ∈ d.weights Tryz.prog t, x <= 140737488355328 := fun x hx => by
 have := List.all_eq_true.1 hsz _ (DataW.weights_mem_each ht hd x hx);unfold reachBytes at this;simp at this;omega
theorem ints10 {H : Type} {enc : TypeId × Value -> H} {W : World} {n : Nat} {v : Value} {y : DataW H × List MemPlace} (h : DataW.trod enc Tryz.prog W 0 (fun _ => true) true n 29 [v] = some y) (hw : ∀ x ∈ y.1.weights Tryz.prog 29, x <= 140737488355328) :
 ∃ l : List Int, Tr.RdZ W v l /\ l.length * 8 <= 140737488355328 := by
 obtain ⟨rows, h1, h2, _⟩ := open_rows Tryz.underlying29 cellsInt10 (by decide) h;rcases h2 with ⟨_, rfl⟩ | ⟨es, sp, hy, hl, hr⟩
 ·exact ⟨[], h1, by simp⟩
 ·rw [hy] at hw;simp only [DataW.weights, Tryz.underlying29, List.mem_cons, List.mem_append] at hw;obtain ⟨l, rfl, _⟩ := rows_at (fun z : Int => [Value.int .i64 z]) (fun _ (_ : Int) => True) rows 0 (fun i r hir => by
   obtain ⟨k, d, q, he, ht⟩ := hr i r hir;obtain ⟨z, h0, _, _⟩ := DataW.trod_int Tryz.underlying3 ht;exact ⟨z, h0, trivial⟩)
  have hf : (l.map (fun z : Int => [Value.int .i64 z])).flatten = Tr.kvZ l := by
   clear h1 hl hr hy hw;unfold Tr.kvZ
   induction l with
   | nil => rfl
   | cons x r ih => simpa using ih
  rw [hf, List.length_map] at h1;refine ⟨l, h1, ?_⟩;have hm := hw ((es.length + sp.length) * Tryz.prog.bytesOf 3) (Or.inl rfl);rw [bytesInt10] at hm;rw [List.length_map] at hl;omega
theorem u8s10 {H : Type} {enc : TypeId × Value -> H} {W : World} {n : Nat} {v : Value} {y : DataW H × List MemPlace} (h : DataW.trod enc Tryz.prog W 0 (fun _ => true) true n 37 [v] = some y) (hw : ∀ x ∈ y.1.weights Tryz.prog 37, x <= 140737488355328) :
 ∃ ps : List Nat, PsIn W v ps := by
 obtain ⟨rows, h1, h2, _⟩ := open_rows Tryz.underlying37 cellsU810 (by decide) h;rcases h2 with ⟨_, rfl⟩ | ⟨es, sp, hy, hl, hr⟩
 ·exact ⟨[], h1, (fun p hp => by cases hp), Nat.zero_le _⟩
 ·rw [hy] at hw;simp only [DataW.weights, Tryz.underlying37, List.mem_cons, List.mem_append] at hw;obtain ⟨l, rfl, hl2⟩ := rows_at (fun p : Nat => [Value.int .u8 (p : Int)]) (fun _ (p : Nat) => p < 256) rows 0 (fun i r hir => by
   obtain ⟨k, d, q, he, ht⟩ := hr i r hir;obtain ⟨z, h0, _, hwf⟩ := DataW.trod_int Tryz.underlying5 ht;have m1 : IntKind.u8.min = 0 := by kernel_rfl
   have m2 : IntKind.u8.max = 255 := by kernel_rfl
   simp only [Lit.wf, m1, m2, Bool.and_eq_true, decide_eq_true_eq] at hwf;exact ⟨z.toNat, by rw [h0, Int.toNat_of_nonneg hwf.1], by omega⟩)
  have hf : (l.map (fun p : Nat => [Value.int .u8 (p : Int)])).flatten = kvB l := by
   clear h1 hl hr hy hw hl2;unfold kvB
   induction l with
   | nil => rfl
   | cons x r ih => simpa using ih
  rw [hf, List.length_map] at h1;refine ⟨l, h1, fun p hp => ?_, ?_⟩
  ·obtain ⟨i, hi⟩ := List.getElem?_of_mem hp;exact hl2 i p hi
  ·have hm := hw ((es.length + sp.length) * Tryz.prog.bytesOf 5) (Or.inl rfl);rw [bytesU810] at hm;rw [List.length_map] at hl;omega
theorem open_ints10 {H : Type} {enc : TypeId × Value -> H} {W : World} {v : Value} {d : DataW H} {ps : List MemPlace} {r : Reach} {b0 : Nat} (hval : Value.okWide Tryz.prog W r b0 29 v)
 (h : DataW.Trod enc Tryz.prog W 0 (fun _ => true) true 29 v d ps) {ts : List TypeId} {ds : List (DataW H)} (hsz : (DataW.weightsEach Tryz.prog ts ds).all (· <= reachBytes) = true) {j : Nat} (ht : ts[j]? = some 29) (hd : ds[j]? = some d) :
 ∃ l : List Int, Tr.RdZ W v l /\ l.length * 8 <= 140737488355328 := by
 obtain ⟨fuel, hf⟩ := h;obtain ⟨a0, len, cap, rfl⟩ := Go.WideShapes.okWide_slice Tryz.underlying29 hval;exact ints10 (y := (d, ps)) hf (weigh10 hsz ht hd)
theorem open_u8s10 {H : Type} {enc : TypeId × Value -> H} {W : World} {v : Value} {d : DataW H} {ps : List MemPlace} {r : Reach} {b0 : Nat} (hval : Value.okWide Tryz.prog W r b0 37 v)
 (h : DataW.Trod enc Tryz.prog W 0 (fun _ => true) true 37 v d ps) {ts : List TypeId} {ds : List (DataW H)} (hsz : (DataW.weightsEach Tryz.prog ts ds).all (· <= reachBytes) = true) {j : Nat} (ht : ts[j]? = some 37) (hd : ds[j]? = some d) :
 ∃ l : List Nat, PsIn W v l := by
 obtain ⟨fuel, hf⟩ := h;obtain ⟨a0, len, cap, rfl⟩ := Go.WideShapes.okWide_slice Tryz.underlying37 hval;exact u8s10 (y := (d, ps)) hf (weigh10 hsz ht hd)
theorem PsIn.below {w w' : World} {u : Value} {ps : List Nat} (h : PsIn w u ps) (hb : Below w.heap.size w w') : PsIn w' u ps := ⟨h.inn.below hb, h.lt, h.len⟩
set_option maxHeartbeats 16000000 in
theorem legal_law (c : CH) (eV vV sV tV u v : Value) (sp : List SP) (tp : List TP) (l : List Int) (ps : List Nat) (w : World) (h : ChIn9 w c eV vV sV tV sp tp) (hE : Env w) (hec : ∀ A n k, eV = .slice A n k -> n <= k) (hu : Tr.RdZ w u l) (hl : l.length * 8 <= 140737488355328) (hv : PsIn w v ps) :
 Calls Tryz.prog 5 #[.agg #[bstr c.nm, eV, vV, sV, tV], u, v] w fun e w' => e = .returned (.bool true) /\ Below w.heap.size w w' := by
 obtain ⟨M, A1, A2, A3, A4, k1, k2, k3, k4, wb, hM, rfl, rfl, rfl, rfl, hwb, hb1, _, d0, d1, d2, d3, d4⟩ := box_ch h.m;have hrt := fun W (hW : Below w.heap.size w W) => refRight10_any (h.m.below hW) h.sb h.gn
 have hwk : ∀ W, Below w.heap.size w W -> Calls Tryz.prog 9 #[] W fun e w' => e = .returned (.bool true) /\ Below W.heap.size W w' := fun W hW => wakes10_any W (hE.below hW)
 have hcp : ∀ W u, Tr.RdZ W u l -> Calls Tryz.prog 15 #[u] W fun e w' => (∃ v, e = .returned v /\ Tr.RdZ w' v l) /\ Below W.heap.size W w' := fun W u hu => copied10_any u l W hu hl
 have hlg := fun W u (hW : Below w.heap.size w W) (hu : Tr.RdZ W u l) => legal_any (h.m.below hW) hec h.sb hu (by omega)
 have hl0 : ¬ checkE c = 0 -> legalC c l = false := fun h0 => by unfold legalC; rw [decide_eq_false h0]; rfl
 obtain ⟨LG, hLG⟩ : ∃ x, legalC c l = x := ⟨_, rfl⟩
 rw [hLG] at hlg hl0;have hrl : checkE c = 0 -> ∀ W u, Below w.heap.size w W -> Tr.RdZ W u l -> Calls Tryz.prog 16 #[chA c (.slice A1 c.es.length k1) (.slice A2 c.vs.length k2) (.slice A3 sp.length k3) (.slice A4 tp.length k4), u] W fun e w' => e = .returned (.bool LG) /\ Below W.heap.size W w' := fun h0 W u hW hu => by
  have g := refLegal_any (h.m.below hW) (check_zero.1 h0).tree hu (by omega);rw [<- hLG];unfold legalC;rw [decide_eq_true h0, Bool.true_and];exact g
 obtain ⟨S, hS⟩ : ∃ x, Tr.toI (Tr.someL (dC c.ss) (kC c.ss) c.ss.length ps) = x := ⟨_, rfl⟩
 have hso : checkE c = 0 -> ∀ W u, Below w.heap.size w W -> PsIn W u ps -> Calls Tryz.prog 19 #[chA c (.slice A1 c.es.length k1) (.slice A2 c.vs.length k2) (.slice A3 sp.length k3) (.slice A4 tp.length k4), u] W fun e w' => (∃ v, e = .returned v /\ Tr.RdZ w' v S) /\ Below W.heap.size W w' := fun h0 W u hW hu => by
  refine (refSome_any (h.m.below hW) (check_zero.1 h0).tree hu).mono ?_;rintro e w' ⟨⟨v, rfl, hv⟩, hb⟩;rw [<- hS];exact ⟨⟨v, rfl, Tr.rdZ_own hv⟩, hb⟩
 have hls : checkE c = 0 -> ∀ W u, Below w.heap.size w W -> Tr.RdZ W u S -> Calls Tryz.prog 14 #[chA c (.slice A1 c.es.length k1) (.slice A2 c.vs.length k2) (.slice A3 sp.length k3) (.slice A4 tp.length k4), u] W fun e w' => e = .returned (.bool true) /\ Below W.heap.size W w' := fun h0 W u hW hu => by
  have hT : treeP c := (check_zero.1 h0).tree;have hle : S.length <= 4611686018427387904 := by
   rw [<- hS, Tr.toI_len];have := List.length_filter_le (Tr.onB (Tr.someF (dC c.ss) (kC c.ss) c.ss.length ps c.ss.length).1) (List.range c.ss.length);rw [List.length_range] at this;have h4 := hT.le;exact Nat.le_trans this (by omega)
  have g := legal_any (h.m.below hW) hec h.sb hu hle;unfold legalC at g;rw [decide_eq_true h0, <- hS, Tr.some_legalB hT ps] at g;exact g
 obtain ⟨Au, cu, rfl⟩ := hu.form;obtain ⟨Av, cv, rfl⟩ := hv.inn.form;unfold chA at hrt hlg hrl hso hls;rw [hM] at hrt hlg hrl hso hls ⊢;have HRT := Lib.hid hrt; have HWK := Lib.hid hwk; have HCP := Lib.hid hcp; have HL1 := Lib.hid hlg; have HLF := Lib.hid hl0; have HRL0 := Lib.hid hrl; have HSO0 := Lib.hid hso; have HLS0 := Lib.hid hls;have HU := Lib.hid hu; have HV := Lib.hid hv;have HW := Lib.hid hwb; have HB := Lib.hid hb1;have HD := Lib.hid (cells_later d0 d1 d2 d3 d4);clear h hE hec hM hrt hwk hcp hlg hl0 hrl hso hls hu hv hwb hb1 hLG hS;generalize c.es.length = n1 at *; generalize c.vs.length = n2 at *; generalize sp.length = n3 at *; generalize tp.length = n4 at *; generalize l.length = ul at *; generalize ps.length = vl at *
 go_enter Tryz.func5, Tryz.ntmps5
 go_upto_region 1 with fail
 rw [<- HW.out]
 go_wp2_with fail
 refine (HWK.out wb HB.out).mono ?_;rintro e w2 ⟨rfl, hb2⟩;have HB2 := Lib.hid hb2; have HC2 := Lib.hid (HB.out.trans (hb2.mono HB.out.size)); clear hb2 d0 d1 d2 d3 d4;obtain ⟨d0, d1, d2, d3, d4⟩ := HD.out w2 HB2.out
 go_wp2_with fail
 refine (HRT.out w2 HC2.out).mono ?_;rintro e w4 ⟨rfl, hb4⟩;have HB4 := Lib.hid (HB2.out.trans (hb4.mono HB2.out.size)); have HC4 := Lib.hid (HC2.out.trans (hb4.mono HC2.out.size)); clear hb4 d0 d1 d2 d3 d4;obtain ⟨d0, d1, d2, d3, d4⟩ := HD.out w4 HB4.out;have HBW : Hid (∀ W, Below w4.drew.heap.size w4.drew W -> Below w.heap.size w W) := fun W hW => HC4.out.trans ((below_drewN (Below.refl _ _) 1).trans (hW.mono HC4.out.size))
 have HRU : Hid (∀ W, Below w4.drew.heap.size w4.drew W -> Tr.RdZ W (.slice Au ul cu) l) := fun W hW => HU.out.below (HBW.out W hW)
 have HPV : Hid (∀ W, Below w4.drew.heap.size w4.drew W -> PsIn W (.slice Av vl cv) ps) := fun W hW => HV.out.below (HBW.out W hW)
 by_cases h0 : checkE c = 0
 ·rw [decide_eq_true h0];have HR1 := Lib.hid (HRL0.out h0); have HSO := Lib.hid (HSO0.out h0); have HLS := Lib.hid (HLS0.out h0);clear h0 HRL0 HSO0 HLS0 HLF
  go_upto_region 5 with fail
  refine Oy.region_quiet 32 [Oy.eqD (.agg #[.string M, .slice A1 n1 k1, .slice A2 n2 k2, .slice A3 n3 k3, .slice A4 n4 k4]), Oy.eqD (.slice Au ul cu), fun (_ : List Value) v W => RzR l v W, Oy.eqD (.bool LG), Oy.eqD (.agg #[.string M, .slice A1 n1 k1, .slice A2 n2 k2, .slice A3 n3 k3, .slice A4 n4 k4]), Oy.eqD (.slice Au ul cu), Oy.eqD (.bool LG), Oy.eqD (.bool true), Oy.eqD (.bool true), Oy.eqD (.agg #[.string M, .slice A1 n1 k1, .slice A2 n2 k2, .slice A3 n3 k3, .slice A4 n4 k4]), Oy.eqD (.agg #[.string M, .slice A1 n1 k1, .slice A2 n2 k2, .slice A3 n3 k3, .slice A4 n4 k4]), Oy.eqD (.slice Av vl cv), fun (_ : List Value) v W => RzR S v W, Oy.eqD (.bool true), Oy.eqD (.bool true), Oy.eqD (.bool true)] [[], [], [], [], [], [], [], [], [], [], [], [], [], [], [], []] (by kernel_rfl) rfl (by kernel_rfl) (by kernel_rfl) ⟨Oy.keeps_eq _, Oy.keeps_eq _, RzR.keeps l, Oy.keeps_eq _, Oy.keeps_eq _, Oy.keeps_eq _, Oy.keeps_eq _, Oy.keeps_eq _, Oy.keeps_eq _, Oy.keeps_eq _, Oy.keeps_eq _, Oy.keeps_eq _, RzR.keeps S, Oy.keeps_eq _, Oy.keeps_eq _, Oy.keeps_eq _, trivial⟩ ?_;refine Oy.walk_q ?_ fun x17 => ?_
  ·intro w1 hb hd K hK;clear hd;have c_d0 := (hb.cell (cell_lt d0)).trans d0;have c_d1 := (hb.cell (cell_lt d1)).trans d1;have c_d2 := (hb.cell (cell_lt d2)).trans d2;have c_d3 := (hb.cell (cell_lt d3)).trans d3;have c_d4 := (hb.cell (cell_lt d4)).trans d4;go_simp;exact hK _ _ (Below.refl _ _) rfl
  refine Oy.walk_q ?_ fun x18 => ?_
  ·intro w1 hb hd K hK;clear hd;go_simp;exact hK _ _ (Below.refl _ _) rfl
  refine Oy.walk_q ?_ fun x19 => ?_
  ·intro w1 hb hd K hK;obtain rfl : _ = x18 := Eq.symm (hd 1 (by kernel_rfl));clear hd;go_simp;refine (HCP.out w1 _ (HRU.out w1 hb)).mono ?_;rintro e w5 ⟨⟨v, rfl, hv⟩, hb5⟩;go_simp;exact hK _ _ hb5 hv
  refine Oy.walk_q ?_ fun x20 => ?_
  ·intro w1 hb hd K hK;obtain rfl : _ = x17 := Eq.symm (hd 0 (by kernel_rfl));have h19 : (fun (_ : List Value) v W => RzR l v W) [] x19 w1 := hd 2 (by kernel_rfl);have h6 : RzR l x19 w1 := hd 2 (by kernel_rfl);clear hd;go_simp;refine (HL1.out w1 _ (HBW.out w1 hb) h6).mono ?_;rintro e w5 ⟨rfl, hb5⟩;go_simp;exact hK _ _ hb5 rfl
  refine Oy.walk_q ?_ fun x21 => ?_
  ·intro w1 hb hd K hK;clear hd;have c_d0 := (hb.cell (cell_lt d0)).trans d0;have c_d1 := (hb.cell (cell_lt d1)).trans d1;have c_d2 := (hb.cell (cell_lt d2)).trans d2;have c_d3 := (hb.cell (cell_lt d3)).trans d3;have c_d4 := (hb.cell (cell_lt d4)).trans d4;go_simp;exact hK _ _ (Below.refl _ _) rfl
  refine Oy.walk_q ?_ fun x22 => ?_
  ·intro w1 hb hd K hK;clear hd;go_simp;exact hK _ _ (Below.refl _ _) rfl
  refine Oy.walk_q ?_ fun x23 => ?_
  ·intro w1 hb hd K hK;obtain rfl : _ = x21 := Eq.symm (hd 4 (by kernel_rfl));obtain rfl : _ = x22 := Eq.symm (hd 5 (by kernel_rfl));clear hd;go_simp;refine (HR1.out w1 _ (HBW.out w1 hb) (HRU.out w1 hb)).mono ?_;rintro e w5 ⟨rfl, hb5⟩;go_simp;exact hK _ _ hb5 rfl
  refine Oy.walk_q ?_ fun x24 => ?_
  ·intro w1 hb hd K hK;obtain rfl : _ = x20 := Eq.symm (hd 3 (by kernel_rfl));obtain rfl : _ = x23 := Eq.symm (hd 6 (by kernel_rfl));clear hd;go_simp;exact hK _ _ (Below.refl _ _) rfl
  refine Oy.walk_q ?_ fun x25 => ?_
  ·intro w1 hb hd K hK;obtain rfl : _ = x24 := Eq.symm (hd 7 (by kernel_rfl));clear hd;go_simp;exact hK _ _ (Below.refl _ _) rfl
  refine Oy.walk_q ?_ fun x26 => ?_
  ·intro w1 hb hd K hK;obtain rfl : _ = x25 := Eq.symm (hd 8 (by kernel_rfl));clear hd;have c_d0 := (hb.cell (cell_lt d0)).trans d0;have c_d1 := (hb.cell (cell_lt d1)).trans d1;have c_d2 := (hb.cell (cell_lt d2)).trans d2;have c_d3 := (hb.cell (cell_lt d3)).trans d3;have c_d4 := (hb.cell (cell_lt d4)).trans d4;go_simp;exact hK _ _ (Below.refl _ _) rfl
  refine Oy.walk_q ?_ fun x27 => ?_
  ·intro w1 hb hd K hK;obtain rfl : _ = x25 := Eq.symm (hd 8 (by kernel_rfl));clear hd;have c_d0 := (hb.cell (cell_lt d0)).trans d0;have c_d1 := (hb.cell (cell_lt d1)).trans d1;have c_d2 := (hb.cell (cell_lt d2)).trans d2;have c_d3 := (hb.cell (cell_lt d3)).trans d3;have c_d4 := (hb.cell (cell_lt d4)).trans d4;go_simp;exact hK _ _ (Below.refl _ _) rfl
  refine Oy.walk_q ?_ fun x28 => ?_
  ·intro w1 hb hd K hK;obtain rfl : _ = x25 := Eq.symm (hd 8 (by kernel_rfl));clear hd;go_simp;exact hK _ _ (Below.refl _ _) rfl
  refine Oy.walk_q ?_ fun x29 => ?_
  ·intro w1 hb hd K hK;obtain rfl : _ = x27 := Eq.symm (hd 10 (by kernel_rfl));obtain rfl : _ = x28 := Eq.symm (hd 11 (by kernel_rfl));obtain rfl : _ = x25 := Eq.symm (hd 8 (by kernel_rfl));clear hd;go_simp;refine (HSO.out w1 _ (HBW.out w1 hb) (HPV.out w1 hb)).mono ?_;rintro e w5 ⟨⟨v, rfl, hv⟩, hb5⟩;go_simp;exact hK _ _ hb5 hv
  refine Oy.walk_q ?_ fun x30 => ?_
  ·intro w1 hb hd K hK;obtain rfl : _ = x26 := Eq.symm (hd 9 (by kernel_rfl));have h29 : (fun (_ : List Value) v W => RzR S v W) [] x29 w1 := hd 12 (by kernel_rfl);obtain rfl : _ = x25 := Eq.symm (hd 8 (by kernel_rfl));have h6 : RzR S x29 w1 := hd 12 (by kernel_rfl);clear hd;go_simp;refine (HLS.out w1 _ (HBW.out w1 hb) h6).mono ?_;rintro e w5 ⟨rfl, hb5⟩;go_simp;exact hK _ _ hb5 rfl
  refine Oy.walk_q ?_ fun x31 => ?_
  ·intro w1 hb hd K hK;obtain rfl : _ = x25 := Eq.symm (hd 8 (by kernel_rfl));obtain rfl : _ = x30 := Eq.symm (hd 13 (by kernel_rfl));clear hd;go_simp;exact hK _ _ (Below.refl _ _) rfl
  refine Oy.walk_q ?_ fun x6 => ?_
  ·intro w1 hb hd K hK;obtain rfl : _ = x31 := Eq.symm (hd 14 (by kernel_rfl));clear hd;go_simp;exact hK _ _ (Below.refl _ _) rfl
  refine Oy.walk_nil rfl (fun w1 hb hd => ?_);obtain rfl : _ = x17 := Eq.symm (hd 0 (by kernel_rfl));obtain rfl : _ = x18 := Eq.symm (hd 1 (by kernel_rfl));have h19 : (fun (_ : List Value) v W => RzR l v W) [] x19 w1 := hd 2 (by kernel_rfl);obtain rfl : _ = x20 := Eq.symm (hd 3 (by kernel_rfl));obtain rfl : _ = x21 := Eq.symm (hd 4 (by kernel_rfl));obtain rfl : _ = x22 := Eq.symm (hd 5 (by kernel_rfl));obtain rfl : _ = x23 := Eq.symm (hd 6 (by kernel_rfl));obtain rfl : _ = x24 := Eq.symm (hd 7 (by kernel_rfl));obtain rfl : _ = x25 := Eq.symm (hd 8 (by kernel_rfl));obtain rfl : _ = x26 := Eq.symm (hd 9 (by kernel_rfl));obtain rfl : _ = x27 := Eq.symm (hd 10 (by kernel_rfl));obtain rfl : _ = x28 := Eq.symm (hd 11 (by kernel_rfl));have h29 : (fun (_ : List Value) v W => RzR S v W) [] x29 w1 := hd 12 (by kernel_rfl);obtain rfl : _ = x30 := Eq.symm (hd 13 (by kernel_rfl));obtain rfl : _ = x31 := Eq.symm (hd 14 (by kernel_rfl));obtain rfl : _ = x6 := Eq.symm (hd 15 (by kernel_rfl));clear hd;have HBZ := Lib.hid (HBW.out w1 hb);clear hb;go_simp;go_wp2;go_ret;exact ⟨rfl, HBZ.out⟩
 ·rw [decide_eq_false h0];have HL0 := HL1;rw [HLF.out h0] at HL0;clear h0 HRL0 HSO0 HLS0 HLF HL1
  go_upto_region 4 with fail
  refine Oy.region_quiet 32 [Oy.eqD (.agg #[.string M, .slice A1 n1 k1, .slice A2 n2 k2, .slice A3 n3 k3, .slice A4 n4 k4]), Oy.eqD (.slice Au ul cu), fun (_ : List Value) v W => RzR l v W, Oy.eqD (.bool false), Oy.eqD (.bool true), Oy.eqD (.bool true)] [[], [], [], [], [], []] (by kernel_rfl) rfl (by kernel_rfl) (by kernel_rfl) ⟨Oy.keeps_eq _, Oy.keeps_eq _, RzR.keeps l, Oy.keeps_eq _, Oy.keeps_eq _, Oy.keeps_eq _, trivial⟩ ?_;refine Oy.walk_q ?_ fun x12 => ?_
  ·intro w1 hb hd K hK;clear hd;have c_d0 := (hb.cell (cell_lt d0)).trans d0;have c_d1 := (hb.cell (cell_lt d1)).trans d1;have c_d2 := (hb.cell (cell_lt d2)).trans d2;have c_d3 := (hb.cell (cell_lt d3)).trans d3;have c_d4 := (hb.cell (cell_lt d4)).trans d4;go_simp;exact hK _ _ (Below.refl _ _) rfl
  refine Oy.walk_q ?_ fun x13 => ?_
  ·intro w1 hb hd K hK;clear hd;go_simp;exact hK _ _ (Below.refl _ _) rfl
  refine Oy.walk_q ?_ fun x14 => ?_
  ·intro w1 hb hd K hK;obtain rfl : _ = x13 := Eq.symm (hd 1 (by kernel_rfl));clear hd;go_simp;refine (HCP.out w1 _ (HRU.out w1 hb)).mono ?_;rintro e w5 ⟨⟨v, rfl, hv⟩, hb5⟩;go_simp;exact hK _ _ hb5 hv
  refine Oy.walk_q ?_ fun x15 => ?_
  ·intro w1 hb hd K hK;obtain rfl : _ = x12 := Eq.symm (hd 0 (by kernel_rfl));have h14 : (fun (_ : List Value) v W => RzR l v W) [] x14 w1 := hd 2 (by kernel_rfl);have h6 : RzR l x14 w1 := hd 2 (by kernel_rfl);clear hd;go_simp;refine (HL0.out w1 _ (HBW.out w1 hb) h6).mono ?_;rintro e w5 ⟨rfl, hb5⟩;go_simp;exact hK _ _ hb5 rfl
  refine Oy.walk_q ?_ fun x16 => ?_
  ·intro w1 hb hd K hK;obtain rfl : _ = x15 := Eq.symm (hd 3 (by kernel_rfl));clear hd;go_simp;exact hK _ _ (Below.refl _ _) rfl
  refine Oy.walk_q ?_ fun x6 => ?_
  ·intro w1 hb hd K hK;obtain rfl : _ = x16 := Eq.symm (hd 4 (by kernel_rfl));clear hd;go_simp;exact hK _ _ (Below.refl _ _) rfl
  refine Oy.walk_nil rfl (fun w1 hb hd => ?_);obtain rfl : _ = x12 := Eq.symm (hd 0 (by kernel_rfl));obtain rfl : _ = x13 := Eq.symm (hd 1 (by kernel_rfl));have h14 : (fun (_ : List Value) v W => RzR l v W) [] x14 w1 := hd 2 (by kernel_rfl);obtain rfl : _ = x15 := Eq.symm (hd 3 (by kernel_rfl));obtain rfl : _ = x16 := Eq.symm (hd 4 (by kernel_rfl));obtain rfl : _ = x6 := Eq.symm (hd 5 (by kernel_rfl));clear hd;have HBZ := Lib.hid (HBW.out w1 hb);clear hb;go_simp;go_wp2;go_ret;exact ⟨rfl, HBZ.out⟩
end Go.Proofs.YtcnfcililiehlaaGreatDoor.Ch.Vd
