import Derived.Test.YtcnfcililiehlaaGreatDoorR1
import Derived.Test.YtcnfcililiehlaaGreatDoorR2
import Derived.Test.YtcnfcililiehlaaGreatDoorR3
import Derived.Test.YtcnfcililiehlaaGreatDoorR4
import Derived.Test.YtcnfcililiehlaaGreatDoorR5
import Derived.Test.YtcnfcililiehlaaGreatDoorR6
import Derived.Test.YtcnfcililiehlaaGreatDoorR7
import Derived.Test.YtcnfcililiehlaaGreatDoorR8
import Derived.Test.YtcnfcililiehlaaGreatDoorR9
import Derived.Test.YtcnfcililiehlaaGreatDoorR10
import Derived.Test.YtcnfcililiehlaaGreatDoorR11
import Derived.Test.YtcnfcililiehlaaGreatDoorR12
import Derived.Test.YtcnfcililiehlaaGreatDoorR13
import Derived.Test.YtcnfcililiehlaaGreatDoorR14
import Derived.Test.YtcnfcililiehlaaGreatDoorR15
import Derived.Test.YtcnfcililiehlaaGreatDoorR16
import Derived.Test.YtcnfcililiehlaaGreatDoorR17
import Derived.Test.YtcnfcililiehlaaGreatDoorR18
import Derived.Test.YtcnfcililiehlaaGreatDoorR19
import Derived.Test.YtcnfcililiehlaaGreatDoorR20
import Derived.Test.YtcnfcililiehlaaGreatDoorR21
import Derived.Test.YtcnfcililiehlaaGreatDoorR22
import Derived.Test.YtcnfcililiehlaaGreatDoorR23
import Derived.Test.YtcnfcililiehlaaGreatDoorR24
import Derived.Test.YtcnfcililiehlaaGreatDoorR25
import Derived.Test.YtcnfcililiehlaaGreatDoorR26
import Derived.Test.YtcnfcililiehlaaGreatDoorR27
import Derived.Test.YtcnfcililiehlaaGreatDoorR28
import Derived.Test.YtcnfcililiehlaaGreatDoorR29
import Derived.Test.YtcnfcililiehlaaGreatDoorR30
import Derived.Test.YtcnfcililiehlaaGreatDoorR31
import Derived.Test.YtcnfcililiehlaaGreatDoorR32
import Derived.Test.YtcnfcililiehlaaGreatDoorR33
import Derived.Test.YtcnfcililiehlaaGreatDoorR34
import Derived.Test.YtcnfcililiehlaaGreatDoorR35
import Derived.Test.YtcnfcililiehlaaGreatDoorR36
import Derived.Test.YtcnfcililiehlaaGreatDoorQO1
import Derived.Test.YtcnfcililiehlaaGreatDoorQO2
import Derived.Test.YtcnfcililiehlaaGreatDoorQO3
import Derived.Test.YtcnfcililiehlaaGreatDoorQO4
import Derived.Test.YtcnfcililiehlaaGreatDoorQO5
import Derived.Test.YtcnfcililiehlaaGreatDoorQO6
import Derived.Test.YtcnfcililiehlaaGreatDoorQO7
namespace Go.Proofs.YtcnfcililiehlaaGreatDoor.Ch.Vd
open Go.RowKit
set_option maxRecDepth 100000
theorem inn_behind10 {w : World} {size : Nat} {b o n c : Nat} {xs : List Value} (h : Inn w size (.slice (some ⟨b, o, none⟩) n c) n xs) {k : Nat} (hk : k <= n) (hc : n <= c) : Inn w size (.slice (if c = k then some ⟨b, o, none⟩ else some ⟨b, o + k * size, none⟩) (n - k) (c - k)) (n - k) (xs.drop (k * size)) := by
 rcases h with ⟨e, rfl, rfl⟩ | ⟨ad, c', e, hl, h⟩
 ·simp at e
 ·simp only [Value.slice.injEq, Option.some.injEq] at e;obtain ⟨rfl, _, rfl⟩ := e;rw [show (if c = k then some (⟨b, o, none⟩ : Addr) else some ⟨b, o + k * size, none⟩) = some (if c = k then ⟨b, o, none⟩ else ⟨b, o + k * size, none⟩) by split <;> rfl];refine Or.inr ⟨_, c - k, rfl, by rw [List.length_drop, hl, Nat.sub_mul], fun hk0 => ?_⟩;rw [if_neg (show ¬ c = k by omega)];obtain ⟨b', o', e, hlt, hc⟩ := h (by omega);simp only [Addr.mk.injEq, and_true] at e;obtain ⟨rfl, rfl⟩ := e;exact ⟨b, _, rfl, hlt, fun j u hu => by rw [Nat.add_assoc]; exact hc _ u (by rw [List.getElem?_drop] at hu; exact hu)⟩
set_option maxHeartbeats 8000000 in
theorem refOver_out {w : World} {c : CH} {eV vV sV tV u : Value} {sp : List SP} {tp : List TP} {l : List Int} (h : ChM w c eV vV sV tV sp tp) (hU : Tr.RdZ w u l) {i : Int} (hi : ¬ (0 <= i /\ i < c.ss.length)) :
 Calls Tryz.prog 27 #[chA c eV vV sV tV, u, .int .i64 i] w fun e w' => e = .returned (.bool false) /\ Below w.heap.size w w' := by
 have hss := h.sLen;obtain ⟨M, A1, A2, A3, A4, k1, k2, k3, k4, wb, hM, rfl, rfl, rfl, rfl, hwb, hb1, _, d0, d1, d2, d3, d4⟩ := box_ch h;obtain ⟨A5, k5, rfl⟩ := hU.form;have HW := Lib.hid hwb; have HB := Lib.hid hb1;unfold chA;rw [hM];rw [<- hss] at hi;clear h hU hM hwb hb1 hss;generalize c.es.length = n1 at *; generalize c.vs.length = n2 at *; generalize sp.length = n at *; generalize tp.length = n4 at *; generalize l.length = ll at *
 go_enter Tryz.func27, Tryz.ntmps27
 go_upto_region 1 with fail
 rw [<- HW.out];by_cases hlo : i < 0
 ·clear hi;go_wp2;go_ret;exact ⟨rfl, HB.out⟩
 ·have hhi : (n : Int) <= i := by omega
  clear hi;go_wp2;go_ret;exact ⟨rfl, HB.out⟩
theorem over_val {c : CH} (h0 : checkE c = 0) (ps : List Nat) (i : Nat) (_ : i < c.ss.length) : overC c (Tr.toI (Tr.someL (dC c.ss) (kC c.ss) c.ss.length ps)) i = odB c (Tr.toI (Tr.someL (dC c.ss) (kC c.ss) c.ss.length ps)) i := by
 have hT : treeP c := (check_zero.1 h0).tree;have hlg := Tr.some_legalB hT ps;have hL := (Tr.legal_iff hT.nst).1 hlg;have h3 : ∀ j, Tr.inB (Tr.toI (Tr.someL (dC c.ss) (kC c.ss) c.ss.length ps)) j = true -> kC c.ss j = 3 -> ∀ k ∈ Tr.kids (dC c.ss) c.ss.length j, Tr.inB (Tr.toI (Tr.someL (dC c.ss) (kC c.ss) c.ss.length ps)) k = true := fun j hj hk k hkk => by
  rw [Tr.inB_toI] at hj ⊢;exact hL.2.both j hj hk k hkk
 unfold overC odB legalC;rw [decide_eq_true h0, hlg, Tr.over_same h3];rfl
theorem over_no {c : CH} (ps : List Nat) {i : Int} (hi : ¬ (0 <= i /\ i < c.ss.length)) : overC c (Tr.toI (Tr.someL (dC c.ss) (kC c.ss) c.ss.length ps)) i = false := by
 unfold overC;cases hl : legalC c (Tr.toI (Tr.someL (dC c.ss) (kC c.ss) c.ss.length ps)) with
 | false => rfl
 | true =>
  rw [decide_eq_false, Bool.false_and, Bool.true_and];intro hm;obtain ⟨k, hk, hik⟩ := List.mem_map.1 hm;have := (List.mem_filter.1 hk).1;rw [List.mem_range] at this;omega
set_option maxHeartbeats 16000000 in
theorem over_law (c : CH) (eV vV sV tV v : Value) (sp : List SP) (tp : List TP) (ps : List Nat) (i : Int) (w : World) (h : ChIn9 w c eV vV sV tV sp tp) (hE : Env w) (hec : ∀ A n k, eV = .slice A n k -> n <= k) (hv : PsIn w v ps) :
 Calls Tryz.prog 7 #[.agg #[bstr c.nm, eV, vV, sV, tV], v, .int .i64 i] w fun e w' => e = .returned (.bool true) /\ Below w.heap.size w w' := by
 obtain ⟨M, A1, A2, A3, A4, k1, k2, k3, k4, wb, hM, rfl, rfl, rfl, rfl, hwb, hb1, _, d0, d1, d2, d3, d4⟩ := box_ch h.m;have hrt := fun W (hW : Below w.heap.size w W) => refRight10_any (h.m.below hW) h.sb h.gn
 have hwk : ∀ W, Below w.heap.size w W -> Calls Tryz.prog 9 #[] W fun e w' => e = .returned (.bool true) /\ Below W.heap.size W w' := fun W hW => wakes10_any W (hE.below hW)
 obtain ⟨SN, hSN⟩ : ∃ x, Tr.someL (dC c.ss) (kC c.ss) c.ss.length ps = x := ⟨_, rfl⟩
 obtain ⟨S, hS⟩ : ∃ x, Tr.toI SN = x := ⟨_, rfl⟩
 have hlen : checkE c = 0 -> SN.length <= 40 /\ 1 <= SN.length /\ Tr.legalB (dC c.ss) (kC c.ss) c.ss.length (S.drop 1) = false := fun h0 => by
  have hT : treeP c := (check_zero.1 h0).tree;have a := List.length_filter_le (Tr.onB (Tr.someF (dC c.ss) (kC c.ss) c.ss.length ps c.ss.length).1) (List.range c.ss.length);rw [List.length_range] at a;have h4 := hT.le;have a2 : SN.length <= c.ss.length := by rw [<- hSN]; exact a
  have h00 : dC c.ss 0 = 0 := by
   have x := hT.nst.first hT.pos; have y := hT.nst.lo 0 hT.pos; omega
  have b := (Tr.some_leg hT ps).top 0 hT.pos h00;have b2 : (0 : Nat) ∈ SN := by rw [<- hSN]; exact List.mem_filter.2 ⟨List.mem_range.2 hT.pos, b⟩
  refine ⟨by omega, List.length_pos_of_mem b2, ?_⟩;have := Tr.tail_illegal hT ps;rw [hSN] at this;rw [<- hS];have e : Tr.toI (SN.drop 1) = (Tr.toI SN).drop 1 := by unfold Tr.toI; rw [List.map_drop]
  rw [<- e]; exact this
 have hcp : checkE c = 0 -> ∀ W u, Tr.RdZ W u S -> Calls Tryz.prog 15 #[u] W fun e w' => (∃ v, e = .returned v /\ Tr.RdZ w' v S) /\ Below W.heap.size W w' := fun h0 W u hu => copied10_any u S W hu (by rw [<- hS, Tr.toI_len]; have := (hlen h0).1; omega)
 have hso : checkE c = 0 -> ∀ W u, Below w.heap.size w W -> PsIn W u ps -> Calls Tryz.prog 19 #[chA c (.slice A1 c.es.length k1) (.slice A2 c.vs.length k2) (.slice A3 sp.length k3) (.slice A4 tp.length k4), u] W fun e w' => (∃ v, e = .returned v /\ w'.ownsRow W.heap.size 3 1 v SN.length (Tr.kvN SN)) /\ Below W.heap.size W w' := fun h0 W u hW hu => by
  rw [<- hSN];exact refSome_any (h.m.below hW) (check_zero.1 h0).tree hu
 obtain ⟨OC, hOC⟩ : ∃ x, overC c S i = x := ⟨_, rfl⟩
 have hoc : checkE c = 0 -> ∀ W u, Below w.heap.size w W -> Tr.RdZ W u S -> Calls Tryz.prog 26 #[chA c (.slice A1 c.es.length k1) (.slice A2 c.vs.length k2) (.slice A3 sp.length k3) (.slice A4 tp.length k4), u, .int .i64 i] W fun e w' => e = .returned (.bool OC) /\ Below W.heap.size W w' := fun h0 W u hW hu => by
  rw [<- hOC];exact over_any i (h.m.below hW) hec h.sb hu (by rw [<- hS, Tr.toI_len]; have := (hlen h0).1; omega)
 have hor : checkE c = 0 -> ∀ W u, Below w.heap.size w W -> Tr.RdZ W u S -> Calls Tryz.prog 27 #[chA c (.slice A1 c.es.length k1) (.slice A2 c.vs.length k2) (.slice A3 sp.length k3) (.slice A4 tp.length k4), u, .int .i64 i] W fun e w' => e = .returned (.bool OC) /\ Below W.heap.size W w' := fun h0 W u hW hu => by
  by_cases hi : 0 <= i /\ i < c.ss.length
  ·obtain ⟨y, rfl⟩ : ∃ y : Nat, i = (y : Int) := ⟨i.toNat, by omega⟩
   have g := refOver_any (h.m.below hW) (check_zero.1 h0).tree hu (by rw [<- hS, Tr.toI_len]; have := (hlen h0).1; omega) c.ss.length y W (by omega) (by omega) (Below.refl _ _);have e : OC = odB c S y := by rw [<- hOC, <- hS, <- hSN]; exact over_val h0 ps y (by omega)
   rw [e]; exact g
  ·have e : OC = false := by rw [<- hOC, <- hS, <- hSN]; exact over_no ps hi
   rw [e];exact refOver_out (h.m.below hW) hu hi
 have hof : checkE c = 0 -> ∀ W u, Below w.heap.size w W -> Tr.RdZ W u (S.drop 1) -> Calls Tryz.prog 26 #[chA c (.slice A1 c.es.length k1) (.slice A2 c.vs.length k2) (.slice A3 sp.length k3) (.slice A4 tp.length k4), u, .int .i64 i] W fun e w' => e = .returned (.bool false) /\ Below W.heap.size W w' := fun h0 W u hW hu => by
  have g := over_any i (h.m.below hW) hec h.sb hu (by rw [List.length_drop, <- hS, Tr.toI_len]; have := (hlen h0).1; omega);unfold overC legalC at g;rw [(hlen h0).2.2, Bool.and_false, Bool.false_and] at g;exact g
 have ho0 : ¬ checkE c = 0 -> ∀ W u, Below w.heap.size w W -> Tr.RdZ W u [0] -> Calls Tryz.prog 26 #[chA c (.slice A1 c.es.length k1) (.slice A2 c.vs.length k2) (.slice A3 sp.length k3) (.slice A4 tp.length k4), u, .int .i64 i] W fun e w' => e = .returned (.bool false) /\ Below W.heap.size W w' := fun h0 W u hW hu => by
  have g := over_any i (h.m.below hW) hec h.sb hu (by simp);unfold overC legalC at g;rw [decide_eq_false h0, Bool.false_and, Bool.false_and] at g;exact g
 obtain ⟨Av, cv, rfl⟩ := hv.inn.form;unfold chA at hrt hso hoc hor hof ho0;rw [hM] at hrt hso hoc hor hof ho0 ⊢;have HRT := Lib.hid hrt; have HWK := Lib.hid hwk; have HCP0 := Lib.hid hcp; have HSO0 := Lib.hid hso; have HOC0 := Lib.hid hoc; have HOR0 := Lib.hid hor; have HOF0 := Lib.hid hof; have HO0 := Lib.hid ho0; have HLEN := Lib.hid hlen;have HV := Lib.hid hv; have HSS := Lib.hid hS;have HW := Lib.hid hwb; have HB := Lib.hid hb1;have HD := Lib.hid (cells_later d0 d1 d2 d3 d4);clear h hE hec hM hrt hwk hcp hso hoc hor hof ho0 hlen hv hwb hb1 hS hSN hOC;generalize c.es.length = n1 at *; generalize c.vs.length = n2 at *; generalize sp.length = n3 at *; generalize tp.length = n4 at *; generalize ps.length = vl at *
 go_enter Tryz.func7, Tryz.ntmps7
 go_upto_region 1 with fail
 rw [<- HW.out]
 go_wp2_with fail
 refine (HWK.out wb HB.out).mono ?_;rintro e w2 ⟨rfl, hb2⟩;have HB2 := Lib.hid hb2; have HC2 := Lib.hid (HB.out.trans (hb2.mono HB.out.size)); clear hb2 d0 d1 d2 d3 d4;obtain ⟨d0, d1, d2, d3, d4⟩ := HD.out w2 HB2.out
 go_wp2_with fail
 refine (HRT.out w2 HC2.out).mono ?_;rintro e w4 ⟨rfl, hb4⟩;have HB4 := Lib.hid (HB2.out.trans (hb4.mono HB2.out.size)); have HC4 := Lib.hid (HC2.out.trans (hb4.mono HC2.out.size)); clear hb4 d0 d1 d2 d3 d4;obtain ⟨d0, d1, d2, d3, d4⟩ := HD.out w4 HB4.out;by_cases h0 : checkE c = 0
 ·rw [decide_eq_true h0];have HCP := Lib.hid (HCP0.out h0); have HSO := Lib.hid (HSO0.out h0); have HOC := Lib.hid (HOC0.out h0); have HOR := Lib.hid (HOR0.out h0); have HOF := Lib.hid (HOF0.out h0);obtain ⟨_, hs1, _⟩ := HLEN.out h0;clear h0 HCP0 HSO0 HOC0 HOR0 HOF0 HO0
  go_wp2_with fail
  refine (HSO.out w4 _ HC4.out (HV.out.below HC4.out)).mono ?_;rintro e w5 ⟨⟨u, rfl, hu⟩, hb5⟩;rcases own_form hu with ⟨_, hz⟩ | ⟨g, sc, rfl, hsc, _⟩
  ·omega
  have hru : Tr.RdZ w5 (.slice (some ⟨g, 0, none⟩) SN.length sc) S := by rw [<- HSS.out]; exact Tr.rdZ_own hu
  have hin : Inn w5 1 (.slice (some ⟨g, 0, none⟩) SN.length sc) SN.length (Tr.kvN SN) := Inn.of_own hu;have HC5 := Lib.hid (HC4.out.trans (hb5.mono HC4.out.size)); have HB5 := Lib.hid (HB4.out.trans (hb5.mono HB4.out.size));have HRS := Lib.hid hru;have hti := inn_behind10 hin (k := 1) hs1 hsc;obtain ⟨Z, hZ⟩ : ∃ Z, (if sc = 1 then some (⟨g, 0, none⟩ : Addr) else some ⟨g, 0 + 1 * 1, none⟩) = Z := ⟨_, rfl⟩
  rw [hZ] at hti;have htz : Tr.RdZ w5 (.slice Z (SN.length - 1) (sc - 1)) (S.drop 1) := by
   have e : (Tr.kvN SN).drop (1 * 1) = Tr.kvZ (S.drop 1) := by rw [<- HSS.out, Tr.kvN_toI]; unfold Tr.kvZ; rw [List.map_drop]
   have e2 : SN.length - 1 = (S.drop 1).length := by rw [List.length_drop, <- HSS.out, Tr.toI_len]
   rw [e, e2] at hti;rw [e2];exact hti
  have HTZ := Lib.hid htz; have HZ := Lib.hid hZ;clear hb5 hu hru hin hti hZ htz d0 d1 d2 d3 d4;generalize SN.length = sl at *
  obtain ⟨d0, d1, d2, d3, d4⟩ := HD.out w5 HB5.out;have HBW : Hid (∀ W, Below w5.drew.heap.size w5.drew W -> Below w.heap.size w W) := fun W hW => HC5.out.trans ((below_drewN (Below.refl _ _) 1).trans (hW.mono HC5.out.size))
  have HBX : Hid (∀ W, Below w5.drew.heap.size w5.drew W -> Below w5.heap.size w5 W) := fun W hW => (below_drewN (Below.refl _ _) 1).trans hW
  have HRU : Hid (∀ W, Below w5.drew.heap.size w5.drew W -> Tr.RdZ W (.slice (some ⟨g, 0, none⟩) sl sc) S) := fun W hW => HRS.out.below (HBX.out W hW)
  go_upto_region 6 with fail
  refine Oy.region_quiet 37 [Oy.eqD (.agg #[.string M, .slice A1 n1 k1, .slice A2 n2 k2, .slice A3 n3 k3, .slice A4 n4 k4]), Oy.eqD (.slice (some ⟨g, 0, none⟩) sl sc), fun (_ : List Value) v W => RzR S v W, Oy.eqD (.int .i64 i), Oy.eqD (.bool OC), Oy.eqD (.agg #[.string M, .slice A1 n1 k1, .slice A2 n2 k2, .slice A3 n3 k3, .slice A4 n4 k4]), Oy.eqD (.slice (some ⟨g, 0, none⟩) sl sc), Oy.eqD (.int .i64 i), Oy.eqD (.bool OC), Oy.eqD (.bool false)] [[], [], [], [], [], [], [], [], [], []] (by kernel_rfl) rfl (by kernel_rfl) (by kernel_rfl) ⟨Oy.keeps_eq _, Oy.keeps_eq _, RzR.keeps S, Oy.keeps_eq _, Oy.keeps_eq _, Oy.keeps_eq _, Oy.keeps_eq _, Oy.keeps_eq _, Oy.keeps_eq _, Oy.keeps_eq _, trivial⟩ ?_;refine Oy.walk_q ?_ fun x21 => ?_
  ·intro w1 hb hd K hK;clear hd;have c_d0 := (hb.cell (cell_lt d0)).trans d0;have c_d1 := (hb.cell (cell_lt d1)).trans d1;have c_d2 := (hb.cell (cell_lt d2)).trans d2;have c_d3 := (hb.cell (cell_lt d3)).trans d3;have c_d4 := (hb.cell (cell_lt d4)).trans d4;go_simp;exact hK _ _ (Below.refl _ _) rfl
  refine Oy.walk_q ?_ fun x22 => ?_
  ·intro w1 hb hd K hK;clear hd;go_simp;exact hK _ _ (Below.refl _ _) rfl
  refine Oy.walk_q ?_ fun x23 => ?_
  ·intro w1 hb hd K hK;obtain rfl : _ = x22 := Eq.symm (hd 1 (by kernel_rfl));clear hd;go_simp;refine (HCP.out w1 _ (HRU.out w1 hb)).mono ?_;rintro e w5 ⟨⟨v, rfl, hv⟩, hb5⟩;go_simp;exact hK _ _ hb5 hv
  refine Oy.walk_q ?_ fun x24 => ?_
  ·intro w1 hb hd K hK;clear hd;go_simp;exact hK _ _ (Below.refl _ _) rfl
  refine Oy.walk_q ?_ fun x25 => ?_
  ·intro w1 hb hd K hK;obtain rfl : _ = x21 := Eq.symm (hd 0 (by kernel_rfl));have h23 : (fun (_ : List Value) v W => RzR S v W) [] x23 w1 := hd 2 (by kernel_rfl);obtain rfl : _ = x24 := Eq.symm (hd 3 (by kernel_rfl));have h6 : RzR S x23 w1 := hd 2 (by kernel_rfl);clear hd;go_simp;refine (HOC.out w1 _ (HBW.out w1 hb) h6).mono ?_;rintro e w5 ⟨rfl, hb5⟩;go_simp;exact hK _ _ hb5 rfl
  refine Oy.walk_q ?_ fun x26 => ?_
  ·intro w1 hb hd K hK;clear hd;have c_d0 := (hb.cell (cell_lt d0)).trans d0;have c_d1 := (hb.cell (cell_lt d1)).trans d1;have c_d2 := (hb.cell (cell_lt d2)).trans d2;have c_d3 := (hb.cell (cell_lt d3)).trans d3;have c_d4 := (hb.cell (cell_lt d4)).trans d4;go_simp;exact hK _ _ (Below.refl _ _) rfl
  refine Oy.walk_q ?_ fun x27 => ?_
  ·intro w1 hb hd K hK;clear hd;go_simp;exact hK _ _ (Below.refl _ _) rfl
  refine Oy.walk_q ?_ fun x28 => ?_
  ·intro w1 hb hd K hK;clear hd;go_simp;exact hK _ _ (Below.refl _ _) rfl
  refine Oy.walk_q ?_ fun x29 => ?_
  ·intro w1 hb hd K hK;obtain rfl : _ = x26 := Eq.symm (hd 5 (by kernel_rfl));obtain rfl : _ = x27 := Eq.symm (hd 6 (by kernel_rfl));obtain rfl : _ = x28 := Eq.symm (hd 7 (by kernel_rfl));clear hd;go_simp;refine (HOR.out w1 _ (HBW.out w1 hb) (HRU.out w1 hb)).mono ?_;rintro e w5 ⟨rfl, hb5⟩;go_simp;exact hK _ _ hb5 rfl
  refine Oy.walk_q ?_ fun x30 => ?_
  ·intro w1 hb hd K hK;obtain rfl : _ = x25 := Eq.symm (hd 4 (by kernel_rfl));obtain rfl : _ = x29 := Eq.symm (hd 8 (by kernel_rfl));clear hd;go_simp;exact hK _ _ (Below.refl _ _) rfl
  refine Oy.walk_nil rfl (fun w1 hb hd => ?_);obtain rfl : _ = x21 := Eq.symm (hd 0 (by kernel_rfl));obtain rfl : _ = x22 := Eq.symm (hd 1 (by kernel_rfl));have h23 : (fun (_ : List Value) v W => RzR S v W) [] x23 w1 := hd 2 (by kernel_rfl);obtain rfl : _ = x24 := Eq.symm (hd 3 (by kernel_rfl));obtain rfl : _ = x25 := Eq.symm (hd 4 (by kernel_rfl));obtain rfl : _ = x26 := Eq.symm (hd 5 (by kernel_rfl));obtain rfl : _ = x27 := Eq.symm (hd 6 (by kernel_rfl));obtain rfl : _ = x28 := Eq.symm (hd 7 (by kernel_rfl));obtain rfl : _ = x29 := Eq.symm (hd 8 (by kernel_rfl));obtain rfl : _ = x30 := Eq.symm (hd 9 (by kernel_rfl));clear hd;have HC6 := Lib.hid (HBW.out w1 hb);have HB6 := Lib.hid (HBX.out w1 hb);obtain ⟨wA, hwA⟩ : ∃ W, W = w1 := ⟨_, rfl⟩
  subst hwA;clear hb HBW HRU HBX d0 d1 d2 d3 d4;go_simp;obtain ⟨d0, d1, d2, d3, d4⟩ := HD.out wA (HB5.out.trans (HB6.out.mono HB5.out.size));have HBW : Hid (∀ W, Below wA.drew.heap.size wA.drew W -> Below w.heap.size w W) := fun W hW => HC6.out.trans ((below_drewN (Below.refl _ _) 1).trans (hW.mono HC6.out.size))
  have HRT2 : Hid (∀ W, Below wA.drew.heap.size wA.drew W -> Tr.RdZ W (.slice Z (sl - 1) (sc - 1)) (S.drop 1)) := fun W hW => HTZ.out.below (HB6.out.trans (((below_drewN (Below.refl _ _) 1).trans hW).mono HB6.out.size))
  go_upto_region 8 with fail
  refine Oy.region_quiet 37 [Oy.eqD (.agg #[.string M, .slice A1 n1 k1, .slice A2 n2 k2, .slice A3 n3 k3, .slice A4 n4 k4]), Oy.eqD (.slice (some ⟨g, 0, none⟩) sl sc), Oy.eqD (.slice Z (sl - 1) (sc - 1)), Oy.eqD (.int .i64 i), Oy.eqD (.bool false), Oy.eqD (.bool true), Oy.eqD (.bool true)] [[], [], [], [], [], [], []] (by kernel_rfl) rfl (by kernel_rfl) (by kernel_rfl) ⟨Oy.keeps_eq _, Oy.keeps_eq _, Oy.keeps_eq _, Oy.keeps_eq _, Oy.keeps_eq _, Oy.keeps_eq _, Oy.keeps_eq _, trivial⟩ ?_;refine Oy.walk_q ?_ fun x31 => ?_
  ·intro w1 hb hd K hK;clear hd;have c_d0 := (hb.cell (cell_lt d0)).trans d0;have c_d1 := (hb.cell (cell_lt d1)).trans d1;have c_d2 := (hb.cell (cell_lt d2)).trans d2;have c_d3 := (hb.cell (cell_lt d3)).trans d3;have c_d4 := (hb.cell (cell_lt d4)).trans d4;go_simp;exact hK _ _ (Below.refl _ _) rfl
  refine Oy.walk_q ?_ fun x32 => ?_
  ·intro w1 hb hd K hK;clear hd;go_simp;exact hK _ _ (Below.refl _ _) rfl
  refine Oy.walk_q ?_ fun x33 => ?_
  ·intro w1 hb hd K hK;obtain rfl : _ = x32 := Eq.symm (hd 1 (by kernel_rfl));clear hd;go_simp;rw [HZ.out, if_pos (show (1 : Int) <= (sl : Int) by omega)]; exact hK _ _ (Below.refl _ _) rfl
  refine Oy.walk_q ?_ fun x34 => ?_
  ·intro w1 hb hd K hK;clear hd;go_simp;exact hK _ _ (Below.refl _ _) rfl
  refine Oy.walk_q ?_ fun x35 => ?_
  ·intro w1 hb hd K hK;obtain rfl : _ = x31 := Eq.symm (hd 0 (by kernel_rfl));obtain rfl : _ = x33 := Eq.symm (hd 2 (by kernel_rfl));obtain rfl : _ = x34 := Eq.symm (hd 3 (by kernel_rfl));clear hd;go_simp;refine (HOF.out w1 _ (HBW.out w1 hb) (HRT2.out w1 hb)).mono ?_;rintro e w5 ⟨rfl, hb5⟩;go_simp;exact hK _ _ hb5 rfl
  refine Oy.walk_q ?_ fun x36 => ?_
  ·intro w1 hb hd K hK;obtain rfl : _ = x35 := Eq.symm (hd 4 (by kernel_rfl));clear hd;go_simp;exact hK _ _ (Below.refl _ _) rfl
  refine Oy.walk_q ?_ fun x6 => ?_
  ·intro w1 hb hd K hK;obtain rfl : _ = x36 := Eq.symm (hd 5 (by kernel_rfl));clear hd;go_simp;exact hK _ _ (Below.refl _ _) rfl
  refine Oy.walk_nil rfl (fun w1 hb hd => ?_);obtain rfl : _ = x31 := Eq.symm (hd 0 (by kernel_rfl));obtain rfl : _ = x32 := Eq.symm (hd 1 (by kernel_rfl));obtain rfl : _ = x33 := Eq.symm (hd 2 (by kernel_rfl));obtain rfl : _ = x34 := Eq.symm (hd 3 (by kernel_rfl));obtain rfl : _ = x35 := Eq.symm (hd 4 (by kernel_rfl));obtain rfl : _ = x36 := Eq.symm (hd 5 (by kernel_rfl));obtain rfl : _ = x6 := Eq.symm (hd 6 (by kernel_rfl));clear hd;have HBZ2 := Lib.hid (HBW.out w1 hb);clear hb;go_simp;go_wp2;go_ret;exact ⟨rfl, HBZ2.out⟩
 ·rw [decide_eq_false h0];have HO := Lib.hid (HO0.out h0);obtain ⟨w5, hw5⟩ : ∃ W, W = w4.alloc (.cells #[.int .i64 0] 3) := ⟨_, rfl⟩
  have hb5 : Below w4.heap.size w4 w5 := hw5 ▸ (Below.refl _ _).alloc (Nat.le_refl _) _;have hr5 : Tr.RdZ w5 (.slice (some ⟨w4.heap.size, 0, none⟩) 1 1) [0] := by rw [hw5]; exact Tr.rdZ_new (w := w4) rfl [0] (by simp)
  have HC5 := Lib.hid (HC4.out.trans (hb5.mono HC4.out.size));have HR5 := Lib.hid hr5; have HW5 := Lib.hid hw5;clear h0 HCP0 HSO0 HOC0 HOR0 HOF0 HO0 HLEN hb5 hr5 hw5
  go_wp2_with fail
  rw [<- HW5.out];refine (HO.out w5 _ HC5.out HR5.out).mono ?_;rintro e w6 ⟨rfl, hb6⟩;have HC6 := Lib.hid (HC5.out.trans (hb6.mono HC5.out.size)); clear hb6;go_wp2;go_ret;exact ⟨rfl, HC6.out⟩
end Go.Proofs.YtcnfcililiehlaaGreatDoor.Ch.Vd
