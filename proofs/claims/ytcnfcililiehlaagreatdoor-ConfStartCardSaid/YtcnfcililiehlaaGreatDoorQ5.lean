import Derived.Test.YtcnfcililiehlaaGreatDoorR1
import Derived.Test.YtcnfcililiehlaaGreatDoorR2
import Derived.Test.YtcnfcililiehlaaGreatDoorR3
import Derived.Test.YtcnfcililiehlaaGreatDoorR4
import Derived.Test.YtcnfcililiehlaaGreatDoorR5
import Derived.Test.YtcnfcililiehlaaGreatDoorR6
import Derived.Test.YtcnfcililiehlaaGreatDoorR7
import Derived.Test.YtcnfcililiehlaaGreatDoorR8
import Derived.Test.YtcnfcililiehlaaGreatDoorR9
import Derived.Test.YtcnfcililiehlaaGreatDoorR10
import Derived.Test.YtcnfcililiehlaaGreatDoorR11
import Derived.Test.YtcnfcililiehlaaGreatDoorR12
import Derived.Test.YtcnfcililiehlaaGreatDoorR13
import Derived.Test.YtcnfcililiehlaaGreatDoorR14
import Derived.Test.YtcnfcililiehlaaGreatDoorR15
import Derived.Test.YtcnfcililiehlaaGreatDoorR16
import Derived.Test.YtcnfcililiehlaaGreatDoorR17
import Derived.Test.YtcnfcililiehlaaGreatDoorR18
import Derived.Test.YtcnfcililiehlaaGreatDoorR19
import Derived.Test.YtcnfcililiehlaaGreatDoorR20
import Derived.Test.YtcnfcililiehlaaGreatDoorR21
import Derived.Test.YtcnfcililiehlaaGreatDoorR22
import Derived.Test.YtcnfcililiehlaaGreatDoorR23
import Derived.Test.YtcnfcililiehlaaGreatDoorR24
import Derived.Test.YtcnfcililiehlaaGreatDoorR25
import Derived.Test.YtcnfcililiehlaaGreatDoorR26
import Derived.Test.YtcnfcililiehlaaGreatDoorR27
import Derived.Test.YtcnfcililiehlaaGreatDoorR28
import Derived.Test.YtcnfcililiehlaaGreatDoorR29
import Derived.Test.YtcnfcililiehlaaGreatDoorR30
import Derived.Test.YtcnfcililiehlaaGreatDoorR31
import Derived.Test.YtcnfcililiehlaaGreatDoorR32
import Derived.Test.YtcnfcililiehlaaGreatDoorR33
import Derived.Test.YtcnfcililiehlaaGreatDoorR34
import Derived.Test.YtcnfcililiehlaaGreatDoorR35
import Derived.Test.YtcnfcililiehlaaGreatDoorR36
import Derived.Test.YtcnfcililiehlaaGreatDoorQ1
import Derived.Test.YtcnfcililiehlaaGreatDoorQ2
import Derived.Test.YtcnfcililiehlaaGreatDoorQ3
import Derived.Test.YtcnfcililiehlaaGreatDoorQ4
namespace Go.Proofs.YtcnfcililiehlaaGreatDoor.Ch.Vd
open Go.RowKit
set_option maxRecDepth 100000
theorem open_chart10 {H : Type} {enc : TypeId × Value -> H} {W : World} {r : Reach} {b0 : Nat} {v : Value} {d : DataW H} {ps : List MemPlace} (hval : Value.okWide Tryz.prog W r b0 27 v)
 (h : DataW.Trod enc Tryz.prog W 0 (fun _ => true) true 27 v d ps) {ts : List TypeId} {ds : List (DataW H)} (hsz : (DataW.weightsEach Tryz.prog ts ds).all (· <= reachBytes) = true) {j : Nat} (ht : ts[j]? = some 27) (hd : ds[j]? = some d) :
 ∃ (c : CH) (e1 v1 s1 t1 : Value) (sp : List SP) (tp : List TP), v = .agg #[bstr c.nm, e1, v1, s1, t1] /\ ChIn9 W c e1 v1 s1 t1 sp tp /\ ∀ A m k, e1 = .slice A m k -> m <= k := by
 obtain ⟨c, e1, v1, s1, t1, sp, tp, rfl, hI⟩ := open_chart9 hval h hsz ht hd;refine ⟨c, e1, v1, s1, t1, sp, tp, rfl, hI, ?_⟩;obtain ⟨fuel, hf⟩ := h;obtain ⟨xs, n, _, hx, _, hxl, hfl⟩ := DataW.trod_struct Tryz.underlying27 hf;have e1' : DataW.trod enc Tryz.prog W 0 (fun _ => true) true n 22 (([bstr c.nm, e1, v1, s1, t1].drop 1).take (Tryz.prog.cellsOf 22)) = xs[1]? := hfl 1 _ rfl;rw [cellsSlS] at e1';have hx5 : xs.length = 5 := hxl
 match xs, hx5 with
 | [y0, y1, y2, y3, y4], _ =>
  obtain ⟨rows, _, _, h4⟩ := open_rows Tryz.underlying22 cellsS (by decide) (show _ = some y1 from e1');exact h4
theorem same_true (W : World) (u v : Value) (l : List Int) (hu : Tr.RdZ W u l) (hv : Tr.RdZ W v l) (hl : l.length <= 4611686018427387904) : Calls Tryz.prog 12 #[u, v] W fun e w' => e = .returned (.bool true) /\ Below W.heap.size W w' := by
 have h := drewn_low (Tr.sameZ_any u v l l W hu hv hl);rw [decide_eq_true rfl] at h;exact h
theorem begin_len (c : CH) (i : Int) : (beginO c i).length <= c.ss.length := by
 unfold beginO;split
 ·exact bgC_len c _
 ·exact Nat.zero_le _
set_option maxHeartbeats 8000000 in
theorem begins_law (c : CH) (eV vV sV tV : Value) (sp : List SP) (tp : List TP) (i : Int) (hi1 : -9223372036854775808 <= i) (hi2 : i <= 9223372036854775807) (w : World) (h : ChIn9 w c eV vV sV tV sp tp) (hE : Env w) (hec : ∀ A n k, eV = .slice A n k -> n <= k) :
 Calls Tryz.prog 4 #[.agg #[bstr c.nm, eV, vV, sV, tV], .int .i64 i] w fun e w' => e = .returned (.bool true) /\ Below w.heap.size w w' := by
 obtain ⟨M, A1, A2, A3, A4, k1, k2, k3, k4, wb, hM, rfl, rfl, rfl, rfl, hwb, hb1, _, d0, d1, d2, d3, d4⟩ := box_ch h.m;have hbn := fun W (hW : Below w.heap.size w W) => begin_any i (h.m.below hW) hec h.sb hi1 hi2
 have hrt := fun W (hW : Below w.heap.size w W) => refRight10_any (h.m.below hW) h.sb h.gn
 have hrb := fun W (hW : Below w.heap.size w W) (h0 : checkE c = 0) => refBegin_any i (h.m.below hW) h0
 have hwk : ∀ W, Below w.heap.size w W -> Calls Tryz.prog 9 #[] W fun e w' => e = .returned (.bool true) /\ Below W.heap.size W w' := fun W hW => wakes10_any W (hE.below hW)
 have hlen := begin_len c i;have hss := h.ss;rw [h.m.sLen] at hss;have hx : ¬ checkE c = 0 -> beginO c i = [] := fun h0 => if_neg (fun h => h0 h.1)
 obtain ⟨L, hL⟩ : ∃ x, beginO c i = x := ⟨_, rfl⟩
 rw [hL] at hbn hrb hlen hx;unfold chA at hbn hrt hrb;rw [hM] at hbn hrt hrb ⊢;have HBN := Lib.hid hbn; have HRT := Lib.hid hrt; have HRB := Lib.hid hrb; have HWK := Lib.hid hwk; have HX := Lib.hid hx;have HW := Lib.hid hwb; have HB := Lib.hid hb1;have HD := Lib.hid (cells_later d0 d1 d2 d3 d4);have hll : L.length <= 4611686018427387904 := by omega
 have HLL := Lib.hid hll;clear h hE hec hM hL hbn hrt hrb hwk hlen hss hx hwb hb1 hll;generalize c.es.length = n1 at *; generalize c.vs.length = n2 at *; generalize sp.length = n3 at *; generalize tp.length = n4 at *
 go_enter Tryz.func4, Tryz.ntmps4
 go_upto_region 1 with fail
 rw [<- HW.out]
 go_wp2_with fail
 refine (HWK.out wb HB.out).mono ?_;rintro e w2 ⟨rfl, hb2⟩;have HB2 := Lib.hid hb2; have HC2 := Lib.hid (HB.out.trans (hb2.mono HB.out.size)); clear hb2 d0 d1 d2 d3 d4;obtain ⟨d0, d1, d2, d3, d4⟩ := HD.out w2 HB2.out
 go_wp2_with fail
 refine (HBN.out w2 HC2.out).mono ?_;rintro e w3 ⟨⟨u, rfl, hu⟩, hb3⟩;obtain ⟨Au, cu, rfl⟩ := own_slice hu;have hru := Tr.rdZ_own hu;have HB3 := Lib.hid (HB2.out.trans (hb3.mono HB2.out.size)); have HC3 := Lib.hid (HC2.out.trans (hb3.mono HC2.out.size)); clear hb3 hu d0 d1 d2 d3 d4;obtain ⟨d0, d1, d2, d3, d4⟩ := HD.out w3 HB3.out;have HRU := Lib.hid hru;clear hru
 go_wp2_with fail
 refine (HRT.out w3 HC3.out).mono ?_;rintro e w4 ⟨rfl, hb4⟩;have HRU4 := Lib.hid (Tr.RdZ.below HRU.out hb4);have HB4 := Lib.hid (HB3.out.trans (hb4.mono HB3.out.size)); have HC4 := Lib.hid (HC3.out.trans (hb4.mono HC3.out.size)); clear hb4 d0 d1 d2 d3 d4;by_cases h0 : checkE c = 0
 ·rw [decide_eq_true h0];have HRB' := Lib.hid (fun W hW => HRB.out W hW h0);clear h0;obtain ⟨d0, d1, d2, d3, d4⟩ := HD.out w4 HB4.out
  go_wp2_with fail
  refine (HRB'.out w4 HC4.out).mono ?_;rintro e w5 ⟨⟨v, rfl, hv⟩, hb5⟩;have HRV := Lib.hid (Tr.rdZ_own hv);have HRU5 := Lib.hid (Tr.RdZ.below HRU4.out hb5);have HC5 := Lib.hid (HC4.out.trans (hb5.mono HC4.out.size)); clear hb5 hv d0 d1 d2 d3 d4
  go_wp2_with fail
  refine (same_true w5 _ _ _ HRU5.out HRV.out (by rw [Tr.toI_len]; exact HLL.out)).mono ?_;rintro e w6 ⟨rfl, hb6⟩;have HC6 := Lib.hid (HC5.out.trans (hb6.mono HC5.out.size)); clear hb6;go_wp2;go_ret;exact ⟨rfl, HC6.out⟩
 ·rw [decide_eq_false h0];have hn : L.length = 0 := by rw [HX.out h0]; rfl
  rw [hn];clear h0 hn;go_wp2;go_ret;exact ⟨rfl, HC4.out⟩
end Go.Proofs.YtcnfcililiehlaaGreatDoor.Ch.Vd
