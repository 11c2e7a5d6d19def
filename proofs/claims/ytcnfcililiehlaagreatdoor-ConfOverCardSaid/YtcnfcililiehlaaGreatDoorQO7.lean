import Derived.Test.YtcnfcililiehlaaGreatDoorR1
import Derived.Test.YtcnfcililiehlaaGreatDoorR2
import Derived.Test.YtcnfcililiehlaaGreatDoorR3
import Derived.Test.YtcnfcililiehlaaGreatDoorR4
import Derived.Test.YtcnfcililiehlaaGreatDoorR5
import Derived.Test.YtcnfcililiehlaaGreatDoorR6
import Derived.Test.YtcnfcililiehlaaGreatDoorR7
import Derived.Test.YtcnfcililiehlaaGreatDoorR8
import Derived.Test.YtcnfcililiehlaaGreatDoorR9
import Derived.Test.YtcnfcililiehlaaGreatDoorR10
import Derived.Test.YtcnfcililiehlaaGreatDoorR11
import Derived.Test.YtcnfcililiehlaaGreatDoorR12
import Derived.Test.YtcnfcililiehlaaGreatDoorR13
import Derived.Test.YtcnfcililiehlaaGreatDoorR14
import Derived.Test.YtcnfcililiehlaaGreatDoorR15
import Derived.Test.YtcnfcililiehlaaGreatDoorR16
import Derived.Test.YtcnfcililiehlaaGreatDoorR17
import Derived.Test.YtcnfcililiehlaaGreatDoorR18
import Derived.Test.YtcnfcililiehlaaGreatDoorR19
import Derived.Test.YtcnfcililiehlaaGreatDoorR20
import Derived.Test.YtcnfcililiehlaaGreatDoorR21
import Derived.Test.YtcnfcililiehlaaGreatDoorR22
import Derived.Test.YtcnfcililiehlaaGreatDoorR23
import Derived.Test.YtcnfcililiehlaaGreatDoorR24
import Derived.Test.YtcnfcililiehlaaGreatDoorR25
import Derived.Test.YtcnfcililiehlaaGreatDoorR26
import Derived.Test.YtcnfcililiehlaaGreatDoorR27
import Derived.Test.YtcnfcililiehlaaGreatDoorR28
import Derived.Test.YtcnfcililiehlaaGreatDoorR29
import Derived.Test.YtcnfcililiehlaaGreatDoorR30
import Derived.Test.YtcnfcililiehlaaGreatDoorR31
import Derived.Test.YtcnfcililiehlaaGreatDoorR32
import Derived.Test.YtcnfcililiehlaaGreatDoorR33
import Derived.Test.YtcnfcililiehlaaGreatDoorR34
import Derived.Test.YtcnfcililiehlaaGreatDoorR35
import Derived.Test.YtcnfcililiehlaaGreatDoorR36
import Derived.Test.YtcnfcililiehlaaGreatDoorQO1
import Derived.Test.YtcnfcililiehlaaGreatDoorQO2
import Derived.Test.YtcnfcililiehlaaGreatDoorQO3
import Derived.Test.YtcnfcililiehlaaGreatDoorQO4
import Derived.Test.YtcnfcililiehlaaGreatDoorQO5
import Derived.Test.YtcnfcililiehlaaGreatDoorQO6
namespace Go.Proofs.YtcnfcililiehlaaGreatDoor.Ch.Vd
open Go.RowKit
set_option maxRecDepth 100000
def odB (c : CH) (l : List Int) (i : Nat) : Bool := Tr.overD (dC c.ss) (kC c.ss) c.ss.length l i
theorem od_eq (c : CH) (l : List Int) (i : Nat) : odB c l i = (Tr.inB l i && ((decide (kC c.ss i = 3) && (kidC c i).all (odB c l)) || (decide (kC c.ss i = 2) && (kidC c i).any (endB c l)))) := Tr.overD_eq
theorem all_succ (p : Nat -> Bool) (ks : List Nat) {k : Nat} (hk : k < ks.length) : (ks.take (k + 1)).all p = ((ks.take k).all p && p ks[k]) := by
 rw [List.take_succ_eq_append_getElem hk, List.all_append]; simp
theorem any_succ (p : Nat -> Bool) (ks : List Nat) {k : Nat} (hk : k < ks.length) : (ks.take (k + 1)).any p = ((ks.take k).any p || p ks[k]) := by
 rw [List.take_succ_eq_append_getElem hk, List.any_append]; simp
set_option maxHeartbeats 32000000 in
theorem refOver_any {w : World} {c : CH} {eV vV sV tV u : Value} {sp : List SP} {tp : List TP} {l : List Int} (h : ChM w c eV vV sV tV sp tp) (hT : treeP c) (hU : Tr.RdZ w u l) (hl : l.length <= 4611686018427387904) :
 ∀ m i W0, c.ss.length - i <= m -> i < c.ss.length -> Below w.heap.size w W0 ->
 Calls Tryz.prog 27 #[chA c eV vV sV tV, u, .int .i64 (i : Nat)] W0 fun e w' => e = .returned (.bool (odB c l i)) /\ Below W0.heap.size W0 w' := by
 intro m
 induction m with
 | zero => intro i W0 h1 h2; omega
 | succ m ih =>
 intro i w hm hi hb0;have hn40 := hT.le;have h' := h.below hb0;have hU' := hU.below hb0;have hss := h'.sLen;have hkd : ∀ x ∈ kidC c i, i < x /\ x < c.ss.length := fun x hx => Tr.kid_lt hx
 have hrc : ∀ x, x ∈ kidC c i -> ∀ W, Below w.heap.size w W -> Calls Tryz.prog 27 #[chA c eV vV sV tV, u, .int .i64 (x : Nat)] W fun e w' => e = .returned (.bool (odB c l x)) /\ Below W.heap.size W w' := fun x hx W hW => ih x W (by have := hkd x hx; omega) (hkd x hx).2 (hb0.trans (hW.mono hb0.size))
 clear ih;have hki := fun W (hW : Below w.heap.size w W) => rKids (h'.below hW) hT hi
 have hin := fun W (hW : Below w.heap.size w W) N => Tr.refInZ_any u l N W (hU'.below hW) hl
 obtain ⟨M, A1, A2, A3, A4, k1, k2, k3, k4, wb, hM, rfl, rfl, rfl, rfl, hwb, hb1, _, d0, d1, d2, d3, d4⟩ := box_ch h';obtain ⟨b, o, X, Y, a4, a5, m4, q4, m5, q5, rfl, hbw, hXY, hcs⟩ := ch_states h' (by omega);obtain ⟨A5, k5, rfl⟩ := hU.form;have HD := Lib.hid (cells_later d0 d1 d2 d3 d4);have hoe := od_eq c l i;obtain ⟨RS, hRS⟩ : ∃ r, odB c l i = r := ⟨_, rfl⟩
 rw [hRS] at hoe ⊢;unfold chA at hrc ⊢;rw [hM] at hrc ⊢;have hkl := kidC_len c i;have HOE := Lib.hid hoe; have HRC0 := Lib.hid hrc; have HKI := Lib.hid hki; have HIN0 := Lib.hid hin; have HCS := Lib.hid hcs; have HW := Lib.hid hwb; have HB := Lib.hid hb1; have HKD := Lib.hid hkd;obtain ⟨n, hn⟩ : ∃ n, c.ss.length = n := ⟨_, rfl⟩
 simp only [hn] at hn40 hi hkl HCS HKD;simp only [hss, hn] at HRC0 HKI HW HD d3 ⊢;clear h h' hU hU' hT hm hb0 hkd hrc hki hin hM hwb hb1 hcs hXY hbw hss hRS hoe hn;generalize c.es.length = n1 at *; generalize c.vs.length = n2 at *; generalize tp.length = n4 at *; generalize l.length = ll at *
 have t1 : decide ((i : Int) < 0) = false := decide_eq_false (by omega);have t2 : decide (n <= i) = false := decide_eq_false (by omega)
 go_enter Tryz.func27, Tryz.ntmps27
 go_upto_region 1 with fail
 rw [<- HW.out]
 go_wp2_with fail
 refine (HIN0.out wb HB.out i).mono ?_;rintro e w2 ⟨rfl, rfl⟩;by_cases hm : (i : Int) ∈ l
 ·have hib : Tr.inB l i = true := decide_eq_true hm;have hoe := HOE.out;rw [hib, Bool.true_and] at hoe;have HO2 := Lib.hid hoe;rw [decide_eq_true hm];clear hm hib hoe HOE
  go_wp2_with fail
  refine (HKI.out wb HB.out).mono ?_;rintro e w3 ⟨⟨v, rfl, hv⟩, hb3⟩;obtain ⟨A6, c6, rfl⟩ := own_slice hv;have HRK := Lib.hid (Tr.rdZ_own hv);have HB3 := Lib.hid hb3;clear hv hb3 d0 d1 d2 d3 d4;obtain ⟨ks, hks⟩ : ∃ x, kidC c i = x := ⟨_, rfl⟩
  rw [hks] at HRK HO2 HRC0 HKD hkl ⊢;obtain ⟨kn, hkn⟩ : ∃ x, ks.length = x := ⟨_, rfl⟩
  rw [hkn] at hkl ⊢;have HKN := Lib.hid hkn;clear hks hkn t1 t2;go_wp2
  go_loopw [8, 9, 10] (fun x8 x9 x10 wr => ∃ k : Nat, k <= kn /\ x10 = .int .i64 k /\ x8 = .bool ((ks.take k).all (odB c l)) /\ x9 = .bool ((ks.take k).any (endB c l)) /\ Below w3.heap.size w3 wr) (fun _ _ x _ => kn - (intOf x).toNat)
  case atStart => exact ⟨0, by omega, rfl, by simp, by simp, Below.refl _ _⟩
  case round =>
   obtain ⟨k, hk, rfl, rfl, rfl, hbk⟩ := hrel;obtain ⟨wl, hwl⟩ : ∃ W, W = wr := ⟨_, rfl⟩
   subst hwl;have HBK := Lib.hid hbk;have HBL := Lib.hid (HB3.out.trans (hbk.mono HB3.out.size));have HBA := Lib.hid (HB.out.trans (HBL.out.mono HB.out.size));by_cases hkk : k < kn
   ·have hkm : k < ks.length := by rw [HKN.out]; exact hkk
    obtain ⟨b', o', rfl, _, hc⟩ := (HRK.out.below hbk).at_ (k := k) (by rw [Tr.toI_len]; exact hkm);have hx : (Tr.toI ks)[k]'(by rw [Tr.toI_len]; exact hkm) = ((ks[k] : Nat) : Int) := by unfold Tr.toI; rw [List.getElem_map]
    rw [hx] at hc;have HAS := Lib.hid (all_succ (odB c l) ks hkm);have HNS := Lib.hid (any_succ (endB c l) ks hkm);have HRC := Lib.hid (HRC0.out _ (List.getElem_mem hkm));have hxn := (HKD.out _ (List.getElem_mem hkm)).2;clear hx hbk;generalize ks[k] = x at *
    generalize (ks.take k).all (odB c l) = AA at *
    generalize (ks.take k).any (endB c l) = OO at *
    obtain ⟨OX, hOX⟩ : ∃ r, odB c l x = r := ⟨_, rfl⟩
    rw [hOX] at HRC HAS;have hE : endB c l x = (decide (kC c.ss x = 4) && decide ((x : Int) ∈ l)) := rfl;have HEX := Lib.hid hE;have HIN := Lib.hid (fun W hW => HIN0.out W hW (x : Int));obtain ⟨d0, d1, d2, d3, d4⟩ := HD.out wl HBL.out;obtain ⟨_, r1, _, _, _, _⟩ := HCS.out wl HBA.out x hxn;have HCC := Lib.hid (fun W (hW : Below wl.heap.size wl W) => (hW.cell (cell_lt hc)).trans hc);have HBW : Hid (∀ W, Below wl.drew.heap.size wl.drew W -> Below wl.heap.size wl W) := fun W hW => (below_drewN (Below.refl _ _) 1).trans hW
    have HW2 : Hid (∀ W, Below wl.drew.heap.size wl.drew W -> Below w.heap.size w W) := fun W hW => HBA.out.trans ((HBW.out W hW).mono HBA.out.size)
    clear hOX hE
    go_upto_region 9 with fail
    go_cut [8] from 36 to 46 (fun s8 wx => s8 = .bool (AA && OX) /\ Hid (Below wl.heap.size wl wx))
    case first =>
     cases AA with
     | true =>
      refine Oy.region_quiet 89 [Oy.eqD (.bool true), Oy.eqD (.bool true), Oy.eqD (.agg #[.string M, .slice A1 n1 k1, .slice A2 n2 k2, .slice (some ⟨b, o, none⟩) n k3, .slice A4 n4 k4]), Oy.eqD (.slice A5 ll k5), Oy.eqD (.slice (some ⟨b', o', none⟩) kn c6), Oy.eqD (.int .i64 k), Oy.eqD (.pointer (some ⟨b', o' + k, none⟩)), Oy.eqD (.int .i64 (x : Nat)), Oy.eqD (.bool OX), Oy.eqD (.bool OX), Oy.eqD (.bool OX)] [[], [], [], [], [], [], [], [], [], [], []] (by kernel_rfl) rfl (by kernel_rfl) (by kernel_rfl) ⟨Oy.keeps_eq _, Oy.keeps_eq _, Oy.keeps_eq _, Oy.keeps_eq _, Oy.keeps_eq _, Oy.keeps_eq _, Oy.keeps_eq _, Oy.keeps_eq _, Oy.keeps_eq _, Oy.keeps_eq _, Oy.keeps_eq _, trivial⟩ ?_;refine Oy.walk_q ?_ fun x36 => ?_
      ·intro w1 hb hd K hK;clear hd;go_simp;exact hK _ _ (Below.refl _ _) rfl
      refine Oy.walk_q ?_ fun x37 => ?_
      ·intro w1 hb hd K hK;obtain rfl : _ = x36 := Eq.symm (hd 0 (by kernel_rfl));clear hd;go_simp;exact hK _ _ (Below.refl _ _) rfl
      refine Oy.walk_q ?_ fun x38 => ?_
      ·intro w1 hb hd K hK;obtain rfl : _ = x37 := Eq.symm (hd 1 (by kernel_rfl));clear hd;have c_d0 := (hb.cell (cell_lt d0)).trans d0;have c_d1 := (hb.cell (cell_lt d1)).trans d1;have c_d2 := (hb.cell (cell_lt d2)).trans d2;have c_d3 := (hb.cell (cell_lt d3)).trans d3;have c_d4 := (hb.cell (cell_lt d4)).trans d4;go_simp;exact hK _ _ (Below.refl _ _) rfl
      refine Oy.walk_q ?_ fun x39 => ?_
      ·intro w1 hb hd K hK;obtain rfl : _ = x37 := Eq.symm (hd 1 (by kernel_rfl));clear hd;go_simp;exact hK _ _ (Below.refl _ _) rfl
      refine Oy.walk_q ?_ fun x40 => ?_
      ·intro w1 hb hd K hK;obtain rfl : _ = x37 := Eq.symm (hd 1 (by kernel_rfl));clear hd;go_simp;exact hK _ _ (Below.refl _ _) rfl
      refine Oy.walk_q ?_ fun x41 => ?_
      ·intro w1 hb hd K hK;obtain rfl : _ = x37 := Eq.symm (hd 1 (by kernel_rfl));clear hd;go_simp;exact hK _ _ (Below.refl _ _) rfl
      refine Oy.walk_q ?_ fun x42 => ?_
      ·intro w1 hb hd K hK;obtain rfl : _ = x40 := Eq.symm (hd 4 (by kernel_rfl));obtain rfl : _ = x41 := Eq.symm (hd 5 (by kernel_rfl));obtain rfl : _ = x37 := Eq.symm (hd 1 (by kernel_rfl));clear hd;go_simp;exact hK _ _ (Below.refl _ _) rfl
      refine Oy.walk_q ?_ fun x43 => ?_
      ·intro w1 hb hd K hK;obtain rfl : _ = x42 := Eq.symm (hd 6 (by kernel_rfl));obtain rfl : _ = x37 := Eq.symm (hd 1 (by kernel_rfl));clear hd;have c_hc := (hb.cell (cell_lt hc)).trans hc;go_simp;exact hK _ _ (Below.refl _ _) rfl
      refine Oy.walk_q ?_ fun x44 => ?_
      ·intro w1 hb hd K hK;obtain rfl : _ = x38 := Eq.symm (hd 2 (by kernel_rfl));obtain rfl : _ = x39 := Eq.symm (hd 3 (by kernel_rfl));obtain rfl : _ = x43 := Eq.symm (hd 7 (by kernel_rfl));obtain rfl : _ = x37 := Eq.symm (hd 1 (by kernel_rfl));clear hd;go_simp;refine (HRC.out w1 (HW2.out w1 hb)).mono ?_;rintro e w5 ⟨rfl, hb5⟩;go_simp;exact hK _ _ hb5 rfl
      refine Oy.walk_q ?_ fun x45 => ?_
      ·intro w1 hb hd K hK;obtain rfl : _ = x37 := Eq.symm (hd 1 (by kernel_rfl));obtain rfl : _ = x44 := Eq.symm (hd 8 (by kernel_rfl));clear hd;go_simp;exact hK _ _ (Below.refl _ _) rfl
      refine Oy.walk_q ?_ fun x8 => ?_
      ·intro w1 hb hd K hK;obtain rfl : _ = x45 := Eq.symm (hd 9 (by kernel_rfl));clear hd;go_simp;exact hK _ _ (Below.refl _ _) rfl
      refine Oy.walk_nil rfl (fun w1 hb hd => ?_);obtain rfl : _ = x36 := Eq.symm (hd 0 (by kernel_rfl));obtain rfl : _ = x37 := Eq.symm (hd 1 (by kernel_rfl));obtain rfl : _ = x38 := Eq.symm (hd 2 (by kernel_rfl));obtain rfl : _ = x39 := Eq.symm (hd 3 (by kernel_rfl));obtain rfl : _ = x40 := Eq.symm (hd 4 (by kernel_rfl));obtain rfl : _ = x41 := Eq.symm (hd 5 (by kernel_rfl));obtain rfl : _ = x42 := Eq.symm (hd 6 (by kernel_rfl));obtain rfl : _ = x43 := Eq.symm (hd 7 (by kernel_rfl));obtain rfl : _ = x44 := Eq.symm (hd 8 (by kernel_rfl));obtain rfl : _ = x45 := Eq.symm (hd 9 (by kernel_rfl));obtain rfl : _ = x8 := Eq.symm (hd 10 (by kernel_rfl));clear hd;have HBZ := Lib.hid (HBW.out w1 hb);clear hb;go_simp;go_wp2
      go_meet
      case rel => exact ⟨by first | rfl | trivial, HBZ.out⟩
     | false =>
      refine Oy.region_quiet 89 [Oy.eqD (.bool false), Oy.eqD (.bool false), Oy.eqD (undef), Oy.eqD (undef), Oy.eqD (undef), Oy.eqD (undef), Oy.eqD (undef), Oy.eqD (undef), Oy.eqD (undef), Oy.eqD (.bool false), Oy.eqD (.bool false)] [[], [], [], [], [], [], [], [], [], [], []] (by kernel_rfl) rfl (by kernel_rfl) (by kernel_rfl) ⟨Oy.keeps_eq _, Oy.keeps_eq _, Oy.keeps_eq _, Oy.keeps_eq _, Oy.keeps_eq _, Oy.keeps_eq _, Oy.keeps_eq _, Oy.keeps_eq _, Oy.keeps_eq _, Oy.keeps_eq _, Oy.keeps_eq _, trivial⟩ ?_;refine Oy.walk_q ?_ fun x36 => ?_
      ·intro w1 hb hd K hK;clear hd;go_simp;exact hK _ _ (Below.refl _ _) rfl
      refine Oy.walk_q ?_ fun x37 => ?_
      ·intro w1 hb hd K hK;obtain rfl : _ = x36 := Eq.symm (hd 0 (by kernel_rfl));clear hd;go_simp;exact hK _ _ (Below.refl _ _) rfl
      refine Oy.walk_q ?_ fun x38 => ?_
      ·intro w1 hb hd K hK;obtain rfl : _ = x37 := Eq.symm (hd 1 (by kernel_rfl));clear hd;go_simp;exact hK _ _ (Below.refl _ _) rfl
      refine Oy.walk_q ?_ fun x39 => ?_
      ·intro w1 hb hd K hK;obtain rfl : _ = x37 := Eq.symm (hd 1 (by kernel_rfl));clear hd;go_simp;exact hK _ _ (Below.refl _ _) rfl
      refine Oy.walk_q ?_ fun x40 => ?_
      ·intro w1 hb hd K hK;obtain rfl : _ = x37 := Eq.symm (hd 1 (by kernel_rfl));clear hd;go_simp;exact hK _ _ (Below.refl _ _) rfl
      refine Oy.walk_q ?_ fun x41 => ?_
      ·intro w1 hb hd K hK;obtain rfl : _ = x37 := Eq.symm (hd 1 (by kernel_rfl));clear hd;go_simp;exact hK _ _ (Below.refl _ _) rfl
      refine Oy.walk_q ?_ fun x42 => ?_
      ·intro w1 hb hd K hK;obtain rfl : _ = x40 := Eq.symm (hd 4 (by kernel_rfl));obtain rfl : _ = x41 := Eq.symm (hd 5 (by kernel_rfl));obtain rfl : _ = x37 := Eq.symm (hd 1 (by kernel_rfl));clear hd;go_simp;exact hK _ _ (Below.refl _ _) rfl
      refine Oy.walk_q ?_ fun x43 => ?_
      ·intro w1 hb hd K hK;obtain rfl : _ = x42 := Eq.symm (hd 6 (by kernel_rfl));obtain rfl : _ = x37 := Eq.symm (hd 1 (by kernel_rfl));clear hd;go_simp;exact hK _ _ (Below.refl _ _) rfl
      refine Oy.walk_q ?_ fun x44 => ?_
      ·intro w1 hb hd K hK;obtain rfl : _ = x38 := Eq.symm (hd 2 (by kernel_rfl));obtain rfl : _ = x39 := Eq.symm (hd 3 (by kernel_rfl));obtain rfl : _ = x43 := Eq.symm (hd 7 (by kernel_rfl));obtain rfl : _ = x37 := Eq.symm (hd 1 (by kernel_rfl));clear hd;go_simp;exact hK _ _ (Below.refl _ _) rfl
      refine Oy.walk_q ?_ fun x45 => ?_
      ·intro w1 hb hd K hK;obtain rfl : _ = x37 := Eq.symm (hd 1 (by kernel_rfl));obtain rfl : _ = x44 := Eq.symm (hd 8 (by kernel_rfl));clear hd;go_simp;exact hK _ _ (Below.refl _ _) rfl
      refine Oy.walk_q ?_ fun x8 => ?_
      ·intro w1 hb hd K hK;obtain rfl : _ = x45 := Eq.symm (hd 9 (by kernel_rfl));clear hd;go_simp;exact hK _ _ (Below.refl _ _) rfl
      refine Oy.walk_nil rfl (fun w1 hb hd => ?_);obtain rfl : _ = x36 := Eq.symm (hd 0 (by kernel_rfl));obtain rfl : _ = x37 := Eq.symm (hd 1 (by kernel_rfl));obtain rfl : _ = x38 := Eq.symm (hd 2 (by kernel_rfl));obtain rfl : _ = x39 := Eq.symm (hd 3 (by kernel_rfl));obtain rfl : _ = x40 := Eq.symm (hd 4 (by kernel_rfl));obtain rfl : _ = x41 := Eq.symm (hd 5 (by kernel_rfl));obtain rfl : _ = x42 := Eq.symm (hd 6 (by kernel_rfl));obtain rfl : _ = x43 := Eq.symm (hd 7 (by kernel_rfl));obtain rfl : _ = x44 := Eq.symm (hd 8 (by kernel_rfl));obtain rfl : _ = x45 := Eq.symm (hd 9 (by kernel_rfl));obtain rfl : _ = x8 := Eq.symm (hd 10 (by kernel_rfl));clear hd;have HBZ := Lib.hid (HBW.out w1 hb);clear hb;go_simp;go_wp2
      go_meet
      case rel => exact ⟨by first | rfl | trivial, HBZ.out⟩
    case rest =>
    obtain ⟨rfl, HBC⟩ := hcut;obtain ⟨wA, hwA⟩ : ∃ W, W = wc := ⟨_, rfl⟩
    subst hwA;clear d0 d1 d2 d3 d4 r1 hc HBW HW2;have HBL2 := Lib.hid (HBL.out.trans (HBC.out.mono HBL.out.size));have HBA2 := Lib.hid (HBA.out.trans (HBC.out.mono HBA.out.size));have HBK2 := Lib.hid (HBK.out.trans (HBC.out.mono HBK.out.size));obtain ⟨d0, d1, d2, d3, d4⟩ := HD.out wA HBL2.out;obtain ⟨_, r1, _, _, _, _⟩ := HCS.out wA HBA2.out x hxn;have hc := HCC.out wA HBC.out;have HBW : Hid (∀ W, Below wA.drew.heap.size wA.drew W -> Below wA.heap.size wA W) := fun W hW => (below_drewN (Below.refl _ _) 1).trans hW
    have HW2 : Hid (∀ W, Below wA.drew.heap.size wA.drew W -> Below w.heap.size w W) := fun W hW => HBA2.out.trans ((HBW.out W hW).mono HBA2.out.size)
    obtain ⟨EX, hEX⟩ : ∃ r, endB c l x = r := ⟨_, rfl⟩
    have hEE := HEX.out;rw [hEX] at hEE HNS;clear hEX HEX
    go_upto_region 10 with fail
    cases OO with
    | true =>
     refine Oy.region_quiet 89 [Oy.eqD (.bool true), Oy.eqD (.bool true), Oy.eqD (undef), Oy.eqD (undef), Oy.eqD (undef), Oy.eqD (undef), Oy.eqD (undef), Oy.eqD (undef), Oy.eqD (undef), Oy.eqD (undef), Oy.eqD (undef), Oy.eqD (undef), Oy.eqD (undef), Oy.eqD (undef), Oy.eqD (undef), Oy.eqD (undef), Oy.eqD (undef), Oy.eqD (undef), Oy.eqD (undef), Oy.eqD (undef), Oy.eqD (.bool true), Oy.eqD (.bool true)] [[], [], [], [], [], [], [], [], [], [], [], [], [], [], [], [], [], [], [], [], [], []] (by kernel_rfl) rfl (by kernel_rfl) (by kernel_rfl) ⟨Oy.keeps_eq _, Oy.keeps_eq _, Oy.keeps_eq _, Oy.keeps_eq _, Oy.keeps_eq _, Oy.keeps_eq _, Oy.keeps_eq _, Oy.keeps_eq _, Oy.keeps_eq _, Oy.keeps_eq _, Oy.keeps_eq _, Oy.keeps_eq _, Oy.keeps_eq _, Oy.keeps_eq _, Oy.keeps_eq _, Oy.keeps_eq _, Oy.keeps_eq _, Oy.keeps_eq _, Oy.keeps_eq _, Oy.keeps_eq _, Oy.keeps_eq _, Oy.keeps_eq _, trivial⟩ ?_;refine Oy.walk_q ?_ fun x46 => ?_
     ·intro w1 hb hd K hK;clear hd;go_simp;exact hK _ _ (Below.refl _ _) rfl
     refine Oy.walk_q ?_ fun x47 => ?_
     ·intro w1 hb hd K hK;obtain rfl : _ = x46 := Eq.symm (hd 0 (by kernel_rfl));clear hd;go_simp;exact hK _ _ (Below.refl _ _) rfl
     refine Oy.walk_q ?_ fun x48 => ?_
     ·intro w1 hb hd K hK;obtain rfl : _ = x47 := Eq.symm (hd 1 (by kernel_rfl));clear hd;go_simp;exact hK _ _ (Below.refl _ _) rfl
     refine Oy.walk_q ?_ fun x49 => ?_
     ·intro w1 hb hd K hK;obtain rfl : _ = x48 := Eq.symm (hd 2 (by kernel_rfl));obtain rfl : _ = x47 := Eq.symm (hd 1 (by kernel_rfl));clear hd;go_simp;exact hK _ _ (Below.refl _ _) rfl
     refine Oy.walk_q ?_ fun x50 => ?_
     ·intro w1 hb hd K hK;obtain rfl : _ = x47 := Eq.symm (hd 1 (by kernel_rfl));clear hd;go_simp;exact hK _ _ (Below.refl _ _) rfl
     refine Oy.walk_q ?_ fun x51 => ?_
     ·intro w1 hb hd K hK;obtain rfl : _ = x47 := Eq.symm (hd 1 (by kernel_rfl));clear hd;go_simp;exact hK _ _ (Below.refl _ _) rfl
     refine Oy.walk_q ?_ fun x52 => ?_
     ·intro w1 hb hd K hK;obtain rfl : _ = x50 := Eq.symm (hd 4 (by kernel_rfl));obtain rfl : _ = x51 := Eq.symm (hd 5 (by kernel_rfl));obtain rfl : _ = x47 := Eq.symm (hd 1 (by kernel_rfl));clear hd;go_simp;exact hK _ _ (Below.refl _ _) rfl
     refine Oy.walk_q ?_ fun x53 => ?_
     ·intro w1 hb hd K hK;obtain rfl : _ = x52 := Eq.symm (hd 6 (by kernel_rfl));obtain rfl : _ = x47 := Eq.symm (hd 1 (by kernel_rfl));clear hd;go_simp;exact hK _ _ (Below.refl _ _) rfl
     refine Oy.walk_q ?_ fun x54 => ?_
     ·intro w1 hb hd K hK;obtain rfl : _ = x49 := Eq.symm (hd 3 (by kernel_rfl));obtain rfl : _ = x53 := Eq.symm (hd 7 (by kernel_rfl));obtain rfl : _ = x47 := Eq.symm (hd 1 (by kernel_rfl));clear hd;go_simp;exact hK _ _ (Below.refl _ _) rfl
     refine Oy.walk_q ?_ fun x55 => ?_
     ·intro w1 hb hd K hK;obtain rfl : _ = x54 := Eq.symm (hd 8 (by kernel_rfl));obtain rfl : _ = x47 := Eq.symm (hd 1 (by kernel_rfl));clear hd;go_simp;exact hK _ _ (Below.refl _ _) rfl
     refine Oy.walk_q ?_ fun x56 => ?_
     ·intro w1 hb hd K hK;obtain rfl : _ = x55 := Eq.symm (hd 9 (by kernel_rfl));obtain rfl : _ = x47 := Eq.symm (hd 1 (by kernel_rfl));clear hd;go_simp;exact hK _ _ (Below.refl _ _) rfl
     refine Oy.walk_q ?_ fun x57 => ?_
     ·intro w1 hb hd K hK;obtain rfl : _ = x56 := Eq.symm (hd 10 (by kernel_rfl));obtain rfl : _ = x47 := Eq.symm (hd 1 (by kernel_rfl));clear hd;go_simp;exact hK _ _ (Below.refl _ _) rfl
     refine Oy.walk_q ?_ fun x58 => ?_
     ·intro w1 hb hd K hK;obtain rfl : _ = x57 := Eq.symm (hd 11 (by kernel_rfl));obtain rfl : _ = x47 := Eq.symm (hd 1 (by kernel_rfl));clear hd;go_simp;exact hK _ _ (Below.refl _ _) rfl
     refine Oy.walk_q ?_ fun x59 => ?_
     ·intro w1 hb hd K hK;obtain rfl : _ = x58 := Eq.symm (hd 12 (by kernel_rfl));clear hd;go_simp;exact hK _ _ (Below.refl _ _) rfl
     refine Oy.walk_q ?_ fun x60 => ?_
     ·intro w1 hb hd K hK;obtain rfl : _ = x58 := Eq.symm (hd 12 (by kernel_rfl));clear hd;go_simp;exact hK _ _ (Below.refl _ _) rfl
     refine Oy.walk_q ?_ fun x61 => ?_
     ·intro w1 hb hd K hK;obtain rfl : _ = x58 := Eq.symm (hd 12 (by kernel_rfl));clear hd;go_simp;exact hK _ _ (Below.refl _ _) rfl
     refine Oy.walk_q ?_ fun x62 => ?_
     ·intro w1 hb hd K hK;obtain rfl : _ = x60 := Eq.symm (hd 14 (by kernel_rfl));obtain rfl : _ = x61 := Eq.symm (hd 15 (by kernel_rfl));obtain rfl : _ = x58 := Eq.symm (hd 12 (by kernel_rfl));clear hd;go_simp;exact hK _ _ (Below.refl _ _) rfl
     refine Oy.walk_q ?_ fun x63 => ?_
     ·intro w1 hb hd K hK;obtain rfl : _ = x62 := Eq.symm (hd 16 (by kernel_rfl));obtain rfl : _ = x58 := Eq.symm (hd 12 (by kernel_rfl));clear hd;go_simp;exact hK _ _ (Below.refl _ _) rfl
     refine Oy.walk_q ?_ fun x64 => ?_
     ·intro w1 hb hd K hK;obtain rfl : _ = x59 := Eq.symm (hd 13 (by kernel_rfl));obtain rfl : _ = x63 := Eq.symm (hd 17 (by kernel_rfl));obtain rfl : _ = x58 := Eq.symm (hd 12 (by kernel_rfl));clear hd;go_simp;exact hK _ _ (Below.refl _ _) rfl
     refine Oy.walk_q ?_ fun x65 => ?_
     ·intro w1 hb hd K hK;obtain rfl : _ = x58 := Eq.symm (hd 12 (by kernel_rfl));obtain rfl : _ = x64 := Eq.symm (hd 18 (by kernel_rfl));obtain rfl : _ = x47 := Eq.symm (hd 1 (by kernel_rfl));clear hd;go_simp;exact hK _ _ (Below.refl _ _) rfl
     refine Oy.walk_q ?_ fun x66 => ?_
     ·intro w1 hb hd K hK;obtain rfl : _ = x47 := Eq.symm (hd 1 (by kernel_rfl));obtain rfl : _ = x65 := Eq.symm (hd 19 (by kernel_rfl));clear hd;go_simp;exact hK _ _ (Below.refl _ _) rfl
     refine Oy.walk_q ?_ fun x9 => ?_
     ·intro w1 hb hd K hK;obtain rfl : _ = x66 := Eq.symm (hd 20 (by kernel_rfl));clear hd;go_simp;exact hK _ _ (Below.refl _ _) rfl
     refine Oy.walk_nil rfl (fun w1 hb hd => ?_);obtain rfl : _ = x46 := Eq.symm (hd 0 (by kernel_rfl));obtain rfl : _ = x47 := Eq.symm (hd 1 (by kernel_rfl));obtain rfl : _ = x48 := Eq.symm (hd 2 (by kernel_rfl));obtain rfl : _ = x49 := Eq.symm (hd 3 (by kernel_rfl));obtain rfl : _ = x50 := Eq.symm (hd 4 (by kernel_rfl));obtain rfl : _ = x51 := Eq.symm (hd 5 (by kernel_rfl));obtain rfl : _ = x52 := Eq.symm (hd 6 (by kernel_rfl));obtain rfl : _ = x53 := Eq.symm (hd 7 (by kernel_rfl));obtain rfl : _ = x54 := Eq.symm (hd 8 (by kernel_rfl));obtain rfl : _ = x55 := Eq.symm (hd 9 (by kernel_rfl));obtain rfl : _ = x56 := Eq.symm (hd 10 (by kernel_rfl));obtain rfl : _ = x57 := Eq.symm (hd 11 (by kernel_rfl));obtain rfl : _ = x58 := Eq.symm (hd 12 (by kernel_rfl));obtain rfl : _ = x59 := Eq.symm (hd 13 (by kernel_rfl));obtain rfl : _ = x60 := Eq.symm (hd 14 (by kernel_rfl));obtain rfl : _ = x61 := Eq.symm (hd 15 (by kernel_rfl));obtain rfl : _ = x62 := Eq.symm (hd 16 (by kernel_rfl));obtain rfl : _ = x63 := Eq.symm (hd 17 (by kernel_rfl));obtain rfl : _ = x64 := Eq.symm (hd 18 (by kernel_rfl));obtain rfl : _ = x65 := Eq.symm (hd 19 (by kernel_rfl));obtain rfl : _ = x66 := Eq.symm (hd 20 (by kernel_rfl));obtain rfl : _ = x9 := Eq.symm (hd 21 (by kernel_rfl));clear hd;have HBE := Lib.hid (HBK2.out.trans ((HBW.out w1 hb).mono HBK2.out.size));clear hb;go_simp;go_wp2
     go_roundw
     case rel => exact ⟨k + 1, by omega, by go_num, by rw [HAS.out], by rw [HNS.out]; first | rfl | simp, HBE.out⟩
     case measure => simp [intOf] <;> omega
    | false =>
     by_cases k4' : kC c.ss x = 4
     ·rw [k4'] at r1;obtain ⟨IN, hIN⟩ : ∃ r, decide ((x : Int) ∈ l) = r := ⟨_, rfl⟩
      rw [hIN] at HIN hEE;rw [decide_eq_true k4', Bool.true_and] at hEE;subst hEE;clear k4' hIN;refine Oy.region_quiet 89 [Oy.eqD (.bool false), Oy.eqD (.bool false), Oy.eqD (.pointer (some ⟨w.heap.size, 3, none⟩)), Oy.eqD (.slice (some ⟨b, o, none⟩) n k3), Oy.eqD (.slice (some ⟨b', o', none⟩) kn c6), Oy.eqD (.int .i64 k), Oy.eqD (.pointer (some ⟨b', o' + k, none⟩)), Oy.eqD (.int .i64 (x : Nat)), Oy.eqD (.pointer (some ⟨b, o + x * 6, none⟩)), Oy.eqD (.pointer (some ⟨b, o + x * 6 + 1, none⟩)), Oy.eqD (.int .i64 4), Oy.eqD (.bool true), Oy.eqD (.bool true), Oy.eqD (.slice A5 ll k5), Oy.eqD (.slice (some ⟨b', o', none⟩) kn c6), Oy.eqD (.int .i64 k), Oy.eqD (.pointer (some ⟨b', o' + k, none⟩)), Oy.eqD (.int .i64 (x : Nat)), Oy.eqD (.bool EX), Oy.eqD (.bool EX), Oy.eqD (.bool EX), Oy.eqD (.bool EX)] [[], [], [], [], [], [], [], [], [], [], [], [], [], [], [], [], [], [], [], [], [], []] (by kernel_rfl) rfl (by kernel_rfl) (by kernel_rfl) ⟨Oy.keeps_eq _, Oy.keeps_eq _, Oy.keeps_eq _, Oy.keeps_eq _, Oy.keeps_eq _, Oy.keeps_eq _, Oy.keeps_eq _, Oy.keeps_eq _, Oy.keeps_eq _, Oy.keeps_eq _, Oy.keeps_eq _, Oy.keeps_eq _, Oy.keeps_eq _, Oy.keeps_eq _, Oy.keeps_eq _, Oy.keeps_eq _, Oy.keeps_eq _, Oy.keeps_eq _, Oy.keeps_eq _, Oy.keeps_eq _, Oy.keeps_eq _, Oy.keeps_eq _, trivial⟩ ?_;refine Oy.walk_q ?_ fun x46 => ?_
      ·intro w1 hb hd K hK;clear hd;go_simp;exact hK _ _ (Below.refl _ _) rfl
      refine Oy.walk_q ?_ fun x47 => ?_
      ·intro w1 hb hd K hK;obtain rfl : _ = x46 := Eq.symm (hd 0 (by kernel_rfl));clear hd;go_simp;exact hK _ _ (Below.refl _ _) rfl
      refine Oy.walk_q ?_ fun x48 => ?_
      ·intro w1 hb hd K hK;obtain rfl : _ = x47 := Eq.symm (hd 1 (by kernel_rfl));clear hd;go_simp;exact hK _ _ (Below.refl _ _) rfl
      refine Oy.walk_q ?_ fun x49 => ?_
      ·intro w1 hb hd K hK;obtain rfl : _ = x48 := Eq.symm (hd 2 (by kernel_rfl));obtain rfl : _ = x47 := Eq.symm (hd 1 (by kernel_rfl));clear hd;have c_d3 := (hb.cell (cell_lt d3)).trans d3;go_simp;exact hK _ _ (Below.refl _ _) rfl
      refine Oy.walk_q ?_ fun x50 => ?_
      ·intro w1 hb hd K hK;obtain rfl : _ = x47 := Eq.symm (hd 1 (by kernel_rfl));clear hd;go_simp;exact hK _ _ (Below.refl _ _) rfl
      refine Oy.walk_q ?_ fun x51 => ?_
      ·intro w1 hb hd K hK;obtain rfl : _ = x47 := Eq.symm (hd 1 (by kernel_rfl));clear hd;go_simp;exact hK _ _ (Below.refl _ _) rfl
      refine Oy.walk_q ?_ fun x52 => ?_
      ·intro w1 hb hd K hK;obtain rfl : _ = x50 := Eq.symm (hd 4 (by kernel_rfl));obtain rfl : _ = x51 := Eq.symm (hd 5 (by kernel_rfl));obtain rfl : _ = x47 := Eq.symm (hd 1 (by kernel_rfl));clear hd;go_simp;exact hK _ _ (Below.refl _ _) rfl
      refine Oy.walk_q ?_ fun x53 => ?_
      ·intro w1 hb hd K hK;obtain rfl : _ = x52 := Eq.symm (hd 6 (by kernel_rfl));obtain rfl : _ = x47 := Eq.symm (hd 1 (by kernel_rfl));clear hd;have c_hc := (hb.cell (cell_lt hc)).trans hc;go_simp;exact hK _ _ (Below.refl _ _) rfl
      refine Oy.walk_q ?_ fun x54 => ?_
      ·intro w1 hb hd K hK;obtain rfl : _ = x49 := Eq.symm (hd 3 (by kernel_rfl));obtain rfl : _ = x53 := Eq.symm (hd 7 (by kernel_rfl));obtain rfl : _ = x47 := Eq.symm (hd 1 (by kernel_rfl));clear hd;go_simp;exact hK _ _ (Below.refl _ _) rfl
      refine Oy.walk_q ?_ fun x55 => ?_
      ·intro w1 hb hd K hK;obtain rfl : _ = x54 := Eq.symm (hd 8 (by kernel_rfl));obtain rfl : _ = x47 := Eq.symm (hd 1 (by kernel_rfl));clear hd;go_simp;exact hK _ _ (Below.refl _ _) rfl
      refine Oy.walk_q ?_ fun x56 => ?_
      ·intro w1 hb hd K hK;obtain rfl : _ = x55 := Eq.symm (hd 9 (by kernel_rfl));obtain rfl : _ = x47 := Eq.symm (hd 1 (by kernel_rfl));clear hd;have c_r1 := (hb.cell (cell_lt r1)).trans r1;go_simp;exact hK _ _ (Below.refl _ _) rfl
      refine Oy.walk_q ?_ fun x57 => ?_
      ·intro w1 hb hd K hK;obtain rfl : _ = x56 := Eq.symm (hd 10 (by kernel_rfl));obtain rfl : _ = x47 := Eq.symm (hd 1 (by kernel_rfl));clear hd;go_simp;exact hK _ _ (Below.refl _ _) rfl
      refine Oy.walk_q ?_ fun x58 => ?_
      ·intro w1 hb hd K hK;obtain rfl : _ = x57 := Eq.symm (hd 11 (by kernel_rfl));obtain rfl : _ = x47 := Eq.symm (hd 1 (by kernel_rfl));clear hd;go_simp;exact hK _ _ (Below.refl _ _) rfl
      refine Oy.walk_q ?_ fun x59 => ?_
      ·intro w1 hb hd K hK;obtain rfl : _ = x58 := Eq.symm (hd 12 (by kernel_rfl));clear hd;go_simp;exact hK _ _ (Below.refl _ _) rfl
      refine Oy.walk_q ?_ fun x60 => ?_
      ·intro w1 hb hd K hK;obtain rfl : _ = x58 := Eq.symm (hd 12 (by kernel_rfl));clear hd;go_simp;exact hK _ _ (Below.refl _ _) rfl
      refine Oy.walk_q ?_ fun x61 => ?_
      ·intro w1 hb hd K hK;obtain rfl : _ = x58 := Eq.symm (hd 12 (by kernel_rfl));clear hd;go_simp;exact hK _ _ (Below.refl _ _) rfl
      refine Oy.walk_q ?_ fun x62 => ?_
      ·intro w1 hb hd K hK;obtain rfl : _ = x60 := Eq.symm (hd 14 (by kernel_rfl));obtain rfl : _ = x61 := Eq.symm (hd 15 (by kernel_rfl));obtain rfl : _ = x58 := Eq.symm (hd 12 (by kernel_rfl));clear hd;go_simp;exact hK _ _ (Below.refl _ _) rfl
      refine Oy.walk_q ?_ fun x63 => ?_
      ·intro w1 hb hd K hK;obtain rfl : _ = x62 := Eq.symm (hd 16 (by kernel_rfl));obtain rfl : _ = x58 := Eq.symm (hd 12 (by kernel_rfl));clear hd;have c_hc := (hb.cell (cell_lt hc)).trans hc;go_simp;exact hK _ _ (Below.refl _ _) rfl
      refine Oy.walk_q ?_ fun x64 => ?_
      ·intro w1 hb hd K hK;obtain rfl : _ = x59 := Eq.symm (hd 13 (by kernel_rfl));obtain rfl : _ = x63 := Eq.symm (hd 17 (by kernel_rfl));obtain rfl : _ = x58 := Eq.symm (hd 12 (by kernel_rfl));clear hd;go_simp;refine (HIN.out w1 (HW2.out w1 hb)).mono ?_;rintro e w5 ⟨rfl, rfl⟩;go_simp;exact hK _ _ (Below.refl _ _) rfl
      refine Oy.walk_q ?_ fun x65 => ?_
      ·intro w1 hb hd K hK;obtain rfl : _ = x58 := Eq.symm (hd 12 (by kernel_rfl));obtain rfl : _ = x64 := Eq.symm (hd 18 (by kernel_rfl));obtain rfl : _ = x47 := Eq.symm (hd 1 (by kernel_rfl));clear hd;go_simp;exact hK _ _ (Below.refl _ _) rfl
      refine Oy.walk_q ?_ fun x66 => ?_
      ·intro w1 hb hd K hK;obtain rfl : _ = x47 := Eq.symm (hd 1 (by kernel_rfl));obtain rfl : _ = x65 := Eq.symm (hd 19 (by kernel_rfl));clear hd;go_simp;exact hK _ _ (Below.refl _ _) rfl
      refine Oy.walk_q ?_ fun x9 => ?_
      ·intro w1 hb hd K hK;obtain rfl : _ = x66 := Eq.symm (hd 20 (by kernel_rfl));clear hd;go_simp;exact hK _ _ (Below.refl _ _) rfl
      refine Oy.walk_nil rfl (fun w1 hb hd => ?_);obtain rfl : _ = x46 := Eq.symm (hd 0 (by kernel_rfl));obtain rfl : _ = x47 := Eq.symm (hd 1 (by kernel_rfl));obtain rfl : _ = x48 := Eq.symm (hd 2 (by kernel_rfl));obtain rfl : _ = x49 := Eq.symm (hd 3 (by kernel_rfl));obtain rfl : _ = x50 := Eq.symm (hd 4 (by kernel_rfl));obtain rfl : _ = x51 := Eq.symm (hd 5 (by kernel_rfl));obtain rfl : _ = x52 := Eq.symm (hd 6 (by kernel_rfl));obtain rfl : _ = x53 := Eq.symm (hd 7 (by kernel_rfl));obtain rfl : _ = x54 := Eq.symm (hd 8 (by kernel_rfl));obtain rfl : _ = x55 := Eq.symm (hd 9 (by kernel_rfl));obtain rfl : _ = x56 := Eq.symm (hd 10 (by kernel_rfl));obtain rfl : _ = x57 := Eq.symm (hd 11 (by kernel_rfl));obtain rfl : _ = x58 := Eq.symm (hd 12 (by kernel_rfl));obtain rfl : _ = x59 := Eq.symm (hd 13 (by kernel_rfl));obtain rfl : _ = x60 := Eq.symm (hd 14 (by kernel_rfl));obtain rfl : _ = x61 := Eq.symm (hd 15 (by kernel_rfl));obtain rfl : _ = x62 := Eq.symm (hd 16 (by kernel_rfl));obtain rfl : _ = x63 := Eq.symm (hd 17 (by kernel_rfl));obtain rfl : _ = x64 := Eq.symm (hd 18 (by kernel_rfl));obtain rfl : _ = x65 := Eq.symm (hd 19 (by kernel_rfl));obtain rfl : _ = x66 := Eq.symm (hd 20 (by kernel_rfl));obtain rfl : _ = x9 := Eq.symm (hd 21 (by kernel_rfl));clear hd;have HBE := Lib.hid (HBK2.out.trans ((HBW.out w1 hb).mono HBK2.out.size));clear hb;go_simp;go_wp2
      go_roundw
      case rel => exact ⟨k + 1, by omega, by go_num, by rw [HAS.out], by rw [HNS.out]; first | rfl | simp, HBE.out⟩
      case measure => simp [intOf] <;> omega
     ·rw [decide_eq_false k4', Bool.false_and] at hEE;subst hEE;have e4 : (kC c.ss x == 4) = false := int_ne k4';generalize kC c.ss x = K at *
      clear k4';refine Oy.region_quiet 89 [Oy.eqD (.bool false), Oy.eqD (.bool false), Oy.eqD (.pointer (some ⟨w.heap.size, 3, none⟩)), Oy.eqD (.slice (some ⟨b, o, none⟩) n k3), Oy.eqD (.slice (some ⟨b', o', none⟩) kn c6), Oy.eqD (.int .i64 k), Oy.eqD (.pointer (some ⟨b', o' + k, none⟩)), Oy.eqD (.int .i64 (x : Nat)), Oy.eqD (.pointer (some ⟨b, o + x * 6, none⟩)), Oy.eqD (.pointer (some ⟨b, o + x * 6 + 1, none⟩)), Oy.eqD (.int .i64 K), Oy.eqD (.bool false), Oy.eqD (.bool false), Oy.eqD (undef), Oy.eqD (undef), Oy.eqD (undef), Oy.eqD (undef), Oy.eqD (undef), Oy.eqD (undef), Oy.eqD (.bool false), Oy.eqD (.bool false), Oy.eqD (.bool false)] [[], [], [], [], [], [], [], [], [], [], [], [], [], [], [], [], [], [], [], [], [], []] (by kernel_rfl) rfl (by kernel_rfl) (by kernel_rfl) ⟨Oy.keeps_eq _, Oy.keeps_eq _, Oy.keeps_eq _, Oy.keeps_eq _, Oy.keeps_eq _, Oy.keeps_eq _, Oy.keeps_eq _, Oy.keeps_eq _, Oy.keeps_eq _, Oy.keeps_eq _, Oy.keeps_eq _, Oy.keeps_eq _, Oy.keeps_eq _, Oy.keeps_eq _, Oy.keeps_eq _, Oy.keeps_eq _, Oy.keeps_eq _, Oy.keeps_eq _, Oy.keeps_eq _, Oy.keeps_eq _, Oy.keeps_eq _, Oy.keeps_eq _, trivial⟩ ?_;refine Oy.walk_q ?_ fun x46 => ?_
      ·intro w1 hb hd K hK;clear hd;go_simp;exact hK _ _ (Below.refl _ _) rfl
      refine Oy.walk_q ?_ fun x47 => ?_
      ·intro w1 hb hd K hK;obtain rfl : _ = x46 := Eq.symm (hd 0 (by kernel_rfl));clear hd;go_simp;exact hK _ _ (Below.refl _ _) rfl
      refine Oy.walk_q ?_ fun x48 => ?_
      ·intro w1 hb hd K hK;obtain rfl : _ = x47 := Eq.symm (hd 1 (by kernel_rfl));clear hd;go_simp;exact hK _ _ (Below.refl _ _) rfl
      refine Oy.walk_q ?_ fun x49 => ?_
      ·intro w1 hb hd K hK;obtain rfl : _ = x48 := Eq.symm (hd 2 (by kernel_rfl));obtain rfl : _ = x47 := Eq.symm (hd 1 (by kernel_rfl));clear hd;have c_d3 := (hb.cell (cell_lt d3)).trans d3;go_simp;exact hK _ _ (Below.refl _ _) rfl
      refine Oy.walk_q ?_ fun x50 => ?_
      ·intro w1 hb hd K hK;obtain rfl : _ = x47 := Eq.symm (hd 1 (by kernel_rfl));clear hd;go_simp;exact hK _ _ (Below.refl _ _) rfl
      refine Oy.walk_q ?_ fun x51 => ?_
      ·intro w1 hb hd K hK;obtain rfl : _ = x47 := Eq.symm (hd 1 (by kernel_rfl));clear hd;go_simp;exact hK _ _ (Below.refl _ _) rfl
      refine Oy.walk_q ?_ fun x52 => ?_
      ·intro w1 hb hd K hK;obtain rfl : _ = x50 := Eq.symm (hd 4 (by kernel_rfl));obtain rfl : _ = x51 := Eq.symm (hd 5 (by kernel_rfl));obtain rfl : _ = x47 := Eq.symm (hd 1 (by kernel_rfl));clear hd;go_simp;exact hK _ _ (Below.refl _ _) rfl
      refine Oy.walk_q ?_ fun x53 => ?_
      ·intro w1 hb hd K hK;obtain rfl : _ = x52 := Eq.symm (hd 6 (by kernel_rfl));obtain rfl : _ = x47 := Eq.symm (hd 1 (by kernel_rfl));clear hd;have c_hc := (hb.cell (cell_lt hc)).trans hc;go_simp;exact hK _ _ (Below.refl _ _) rfl
      refine Oy.walk_q ?_ fun x54 => ?_
      ·intro w1 hb hd K hK;obtain rfl : _ = x49 := Eq.symm (hd 3 (by kernel_rfl));obtain rfl : _ = x53 := Eq.symm (hd 7 (by kernel_rfl));obtain rfl : _ = x47 := Eq.symm (hd 1 (by kernel_rfl));clear hd;go_simp;exact hK _ _ (Below.refl _ _) rfl
      refine Oy.walk_q ?_ fun x55 => ?_
      ·intro w1 hb hd K hK;obtain rfl : _ = x54 := Eq.symm (hd 8 (by kernel_rfl));obtain rfl : _ = x47 := Eq.symm (hd 1 (by kernel_rfl));clear hd;go_simp;exact hK _ _ (Below.refl _ _) rfl
      refine Oy.walk_q ?_ fun x56 => ?_
      ·intro w1 hb hd K hK;obtain rfl : _ = x55 := Eq.symm (hd 9 (by kernel_rfl));obtain rfl : _ = x47 := Eq.symm (hd 1 (by kernel_rfl));clear hd;have c_r1 := (hb.cell (cell_lt r1)).trans r1;go_simp;exact hK _ _ (Below.refl _ _) rfl
      refine Oy.walk_q ?_ fun x57 => ?_
      ·intro w1 hb hd K hK;obtain rfl : _ = x56 := Eq.symm (hd 10 (by kernel_rfl));obtain rfl : _ = x47 := Eq.symm (hd 1 (by kernel_rfl));clear hd;go_simp;exact hK _ _ (Below.refl _ _) rfl
      refine Oy.walk_q ?_ fun x58 => ?_
      ·intro w1 hb hd K hK;obtain rfl : _ = x57 := Eq.symm (hd 11 (by kernel_rfl));obtain rfl : _ = x47 := Eq.symm (hd 1 (by kernel_rfl));clear hd;go_simp;exact hK _ _ (Below.refl _ _) rfl
      refine Oy.walk_q ?_ fun x59 => ?_
      ·intro w1 hb hd K hK;obtain rfl : _ = x58 := Eq.symm (hd 12 (by kernel_rfl));clear hd;go_simp;exact hK _ _ (Below.refl _ _) rfl
      refine Oy.walk_q ?_ fun x60 => ?_
      ·intro w1 hb hd K hK;obtain rfl : _ = x58 := Eq.symm (hd 12 (by kernel_rfl));clear hd;go_simp;exact hK _ _ (Below.refl _ _) rfl
      refine Oy.walk_q ?_ fun x61 => ?_
      ·intro w1 hb hd K hK;obtain rfl : _ = x58 := Eq.symm (hd 12 (by kernel_rfl));clear hd;go_simp;exact hK _ _ (Below.refl _ _) rfl
      refine Oy.walk_q ?_ fun x62 => ?_
      ·intro w1 hb hd K hK;obtain rfl : _ = x60 := Eq.symm (hd 14 (by kernel_rfl));obtain rfl : _ = x61 := Eq.symm (hd 15 (by kernel_rfl));obtain rfl : _ = x58 := Eq.symm (hd 12 (by kernel_rfl));clear hd;go_simp;exact hK _ _ (Below.refl _ _) rfl
      refine Oy.walk_q ?_ fun x63 => ?_
      ·intro w1 hb hd K hK;obtain rfl : _ = x62 := Eq.symm (hd 16 (by kernel_rfl));obtain rfl : _ = x58 := Eq.symm (hd 12 (by kernel_rfl));clear hd;go_simp;exact hK _ _ (Below.refl _ _) rfl
      refine Oy.walk_q ?_ fun x64 => ?_
      ·intro w1 hb hd K hK;obtain rfl : _ = x59 := Eq.symm (hd 13 (by kernel_rfl));obtain rfl : _ = x63 := Eq.symm (hd 17 (by kernel_rfl));obtain rfl : _ = x58 := Eq.symm (hd 12 (by kernel_rfl));clear hd;go_simp;exact hK _ _ (Below.refl _ _) rfl
      refine Oy.walk_q ?_ fun x65 => ?_
      ·intro w1 hb hd K hK;obtain rfl : _ = x58 := Eq.symm (hd 12 (by kernel_rfl));obtain rfl : _ = x64 := Eq.symm (hd 18 (by kernel_rfl));obtain rfl : _ = x47 := Eq.symm (hd 1 (by kernel_rfl));clear hd;go_simp;exact hK _ _ (Below.refl _ _) rfl
      refine Oy.walk_q ?_ fun x66 => ?_
      ·intro w1 hb hd K hK;obtain rfl : _ = x47 := Eq.symm (hd 1 (by kernel_rfl));obtain rfl : _ = x65 := Eq.symm (hd 19 (by kernel_rfl));clear hd;go_simp;exact hK _ _ (Below.refl _ _) rfl
      refine Oy.walk_q ?_ fun x9 => ?_
      ·intro w1 hb hd K hK;obtain rfl : _ = x66 := Eq.symm (hd 20 (by kernel_rfl));clear hd;go_simp;exact hK _ _ (Below.refl _ _) rfl
      refine Oy.walk_nil rfl (fun w1 hb hd => ?_);obtain rfl : _ = x46 := Eq.symm (hd 0 (by kernel_rfl));obtain rfl : _ = x47 := Eq.symm (hd 1 (by kernel_rfl));obtain rfl : _ = x48 := Eq.symm (hd 2 (by kernel_rfl));obtain rfl : _ = x49 := Eq.symm (hd 3 (by kernel_rfl));obtain rfl : _ = x50 := Eq.symm (hd 4 (by kernel_rfl));obtain rfl : _ = x51 := Eq.symm (hd 5 (by kernel_rfl));obtain rfl : _ = x52 := Eq.symm (hd 6 (by kernel_rfl));obtain rfl : _ = x53 := Eq.symm (hd 7 (by kernel_rfl));obtain rfl : _ = x54 := Eq.symm (hd 8 (by kernel_rfl));obtain rfl : _ = x55 := Eq.symm (hd 9 (by kernel_rfl));obtain rfl : _ = x56 := Eq.symm (hd 10 (by kernel_rfl));obtain rfl : _ = x57 := Eq.symm (hd 11 (by kernel_rfl));obtain rfl : _ = x58 := Eq.symm (hd 12 (by kernel_rfl));obtain rfl : _ = x59 := Eq.symm (hd 13 (by kernel_rfl));obtain rfl : _ = x60 := Eq.symm (hd 14 (by kernel_rfl));obtain rfl : _ = x61 := Eq.symm (hd 15 (by kernel_rfl));obtain rfl : _ = x62 := Eq.symm (hd 16 (by kernel_rfl));obtain rfl : _ = x63 := Eq.symm (hd 17 (by kernel_rfl));obtain rfl : _ = x64 := Eq.symm (hd 18 (by kernel_rfl));obtain rfl : _ = x65 := Eq.symm (hd 19 (by kernel_rfl));obtain rfl : _ = x66 := Eq.symm (hd 20 (by kernel_rfl));obtain rfl : _ = x9 := Eq.symm (hd 21 (by kernel_rfl));clear hd;have HBE := Lib.hid (HBK2.out.trans ((HBW.out w1 hb).mono HBK2.out.size));clear hb;go_simp;go_wp2
      go_roundw
      case rel => exact ⟨k + 1, by omega, by go_num, by rw [HAS.out], by rw [HNS.out]; first | rfl | simp, HBE.out⟩
      case measure => simp [intOf] <;> omega
   ·obtain rfl : k = kn := by omega
    have hall : ks.take k = ks := by rw [<- HKN.out]; exact List.take_length
    rw [hall];have hoe := HO2.out;generalize ks.all (odB c l) = AA at *
    generalize ks.any (endB c l) = OO at *
    obtain ⟨d0, d1, d2, d3, d4⟩ := HD.out wl HBL.out;obtain ⟨_, r1, _, _, _, _⟩ := HCS.out wl HBA.out i hi;clear hbk;by_cases k3' : kC c.ss i = 3
    ·have HR : Hid (RS = AA) := by show RS = AA; rw [hoe]; simp [k3']
     rw [k3'] at r1;clear hoe k3';cases AA with
     | true =>
      go_wp2;go_ret;exact ⟨ret_bool HR.out.symm, HBA.out⟩
     | false =>
      go_wp2;go_ret;exact ⟨ret_bool HR.out.symm, HBA.out⟩
    ·have e3 : (kC c.ss i == 3) = false := int_ne k3';by_cases k2' : kC c.ss i = 2
     ·have HR : Hid (RS = OO) := by show RS = OO; rw [hoe]; simp [k2']
      rw [k2'] at r1;clear hoe k2' k3' e3;go_wp2;go_ret;exact ⟨ret_bool HR.out.symm, HBA.out⟩
     ·have e2 : (kC c.ss i == 2) = false := int_ne k2';have HR : Hid (RS = false) := by show RS = false; rw [hoe]; simp [k2', k3']
      clear hoe k2' k3';go_wp2;go_ret;exact ⟨ret_bool HR.out.symm, HBA.out⟩
 ·have hib : Tr.inB l i = false := decide_eq_false hm;have HR : Hid (RS = false) := by show RS = false; rw [HOE.out, hib]; rfl
  rw [decide_eq_false hm];clear hm hib HOE;go_wp2;go_ret;exact ⟨ret_bool HR.out.symm, HB.out⟩
end Go.Proofs.YtcnfcililiehlaaGreatDoor.Ch.Vd
