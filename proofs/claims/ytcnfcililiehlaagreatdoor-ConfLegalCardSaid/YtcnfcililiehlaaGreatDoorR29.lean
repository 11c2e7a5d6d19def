/- Own texts, joined: Bi, Zm, Bj, Bk. -/
import Derived.Test.YtcnfcililiehlaaGreatDoorR3
import Derived.Test.YtcnfcililiehlaaGreatDoorR8
import Derived.Test.YtcnfcililiehlaaGreatDoorR27
import Derived.Test.YtcnfcililiehlaaGreatDoorR28
import Derived.Deep.Cut
import Derived.Deep.CutRange
import Derived.Maps.Own
import Derived.Maps.OwnOps
import Derived.StringKeys
namespace Go.Proofs.YtcnfcililiehlaaGreatDoor.Ch
open Go.RowKit
theorem BlkO.low {B B' : Nat} {w : World} {v : Value} {l : List AM} (h : BlkO B' w v l) (hb : B <= B') : BlkO B w v l := by
 obtain ⟨al, h1, h2, h3⟩ := h;exact ⟨al, h1, own_lower h2 hb, fun p hp => ⟨own_lower (h3 p hp).own hb, (h3 p hp).len, (h3 p hp).names, (h3 p hp).name⟩⟩
end Go.Proofs.YtcnfcililiehlaaGreatDoor.Ch
namespace Go.Proofs.YtcnfcililiehlaaGreatDoor.Ch
open Go.RowKit
def MethodFor (f : FuncId) (g : StepS) (r : List (List UInt8)) : Prop := ∀ (b B : Nat) (w0 w : World) (c : CH) (eV vV sV tV : Value) (sp : List SP) (tp : List TP) (d : Nat) (F : ByteArray) (A : Option Addr) (cp : Nat),
 OwnCh b B 67 w0 c eV vV sV tV sp tp -> Below w0.heap.size w0 w -> Bdd 1000000 c -> d <= 6000 -> r.length <= 1000000 -> RestR w0 w A cp r -> (∀ x ∈ r, x.length <= 6000) -> Env w ->
 Calls Tryz.prog f #[.pointer (some ⟨b, 0, none⟩), .agg #[.int .i64 d, .string F, .slice A r.length cp]] w (MPost b B w (g c d r))
theorem Method.for {f : FuncId} {g : StepS} (h : Method f g) (r : List (List UInt8)) : MethodFor f g r := fun b B w0 w c eV vV sV tV sp tp d F A cp => h b B w0 w c eV vV sV tV sp tp d F A cp r
def ParsesE (x : List UInt8) : Prop := (Names (parseP x).1 /\ (parseP x).1.length <= 32) /\ ∀ (X : ByteArray) (W : World), X.data.toList = x -> Ops W -> X.size <= 9223372036854775807 -> Calls Tryz.prog 113 #[.string X] W (ParsePost x W)
def ParsesA (x : List UInt8) : Prop := ∀ (X : ByteArray) (W : World), X.data.toList = x -> Ops W -> ML W -> X.size <= 9223372036854775807 -> Calls Tryz.prog 115 #[.string X] W (ParsedPost (parseA x).1 (parseA x).2 W)
end Go.Proofs.YtcnfcililiehlaaGreatDoor.Ch
namespace Go.Proofs.YtcnfcililiehlaaGreatDoor.Ch
open Go.RowKit
structure OnI (B : Nat) (w2 : World) (t : TC) (gv av : Value) (wc : World) : Prop where
 box : wc.heap[w2.heap.size]? = some (.cells #[.int .i64 t.fr, bstr t.ev, gv, bstr t.to, av] 121 (0, 0))
 below : Below w2.heap.size w2 wc
 gd : GdO B wc gv t.gd
 ac : BlkO B wc av t.ac
 le : B <= w2.heap.size
section
variable {B : Nat} {w2 wc w' : World} {t : TC} {gv av : Value}
theorem OnI.moved (h : OnI B w2 t gv av wc) (hb : Below wc.heap.size wc w') : OnI B w2 t gv av w' :=
 ⟨(hb.block _ (lt_of_heap h.box)).trans h.box, h.below.trans (hb.mono h.below.size), h.gd.keep (KeepI.of_below hb), h.ac.keep (KeepI.of_below hb), h.le⟩
theorem OnI.keep (h : OnI B w2 t gv av wc) (j : Nat) (v : Value) : KeepI wc (wc.setCell ⟨w2.heap.size, j, none⟩ v) /\ Below w2.heap.size w2 (wc.setCell ⟨w2.heap.size, j, none⟩ v) := by
 have hgr : wc.grownBy (wc.setCell ⟨w2.heap.size, j, none⟩ v) (some w2.heap.size) := ⟨rfl, rfl, rfl, (KeepsWalks.setCell wc _ v).size, fun q _ hq => Below.heap_setCell _ _ _ q (fun e => hq (by rw [e]))⟩;exact ⟨KeepI.of_grown hgr h.box (by decide) (by decide), h.below.setCell (Nat.le_refl _) _⟩
theorem OnI.setEv (h : OnI B w2 t gv av wc) (x : List UInt8) : OnI B w2 { t with ev := x } gv av (wc.setCell ⟨w2.heap.size, 1, none⟩ (bstr x)) :=
 ⟨heap_setCell_same _ _ 1 _ _ _ h.box, (h.keep 1 _).2, h.gd.keep (h.keep 1 _).1, h.ac.keep (h.keep 1 _).1, h.le⟩
theorem OnI.setGd (h : OnI B w2 t gv av wc) {v : Value} {cs : List CM} (hv : GdO B wc v cs) : OnI B w2 { t with gd := cs } v av (wc.setCell ⟨w2.heap.size, 2, none⟩ v) :=
 ⟨heap_setCell_same _ _ 2 _ _ _ h.box, (h.keep 2 _).2, hv.keep (h.keep 2 _).1, h.ac.keep (h.keep 2 _).1, h.le⟩
theorem OnI.setTo (h : OnI B w2 t gv av wc) (x : List UInt8) : OnI B w2 { t with «to» := x } gv av (wc.setCell ⟨w2.heap.size, 3, none⟩ (bstr x)) :=
 ⟨heap_setCell_same _ _ 3 _ _ _ h.box, (h.keep 3 _).2, h.gd.keep (h.keep 3 _).1, h.ac.keep (h.keep 3 _).1, h.le⟩
theorem OnI.setAc (h : OnI B w2 t gv av wc) {v : Value} {l : List AM} (hv : BlkO B wc v l) : OnI B w2 { t with ac := l } gv v (wc.setCell ⟨w2.heap.size, 4, none⟩ v) :=
 ⟨heap_setCell_same _ _ 4 _ _ _ h.box, (h.keep 4 _).2, h.gd.keep (h.keep 4 _).1, hv.keep (h.keep 4 _).1, h.le⟩
theorem OnI.at_ (h : OnI B w2 t gv av wc) : wc.cell? ⟨w2.heap.size, 0, none⟩ = some (.int .i64 t.fr) /\ wc.cell? ⟨w2.heap.size, 1, none⟩ = some (bstr t.ev) /\ wc.cell? ⟨w2.heap.size, 2, none⟩ = some gv /\ wc.cell? ⟨w2.heap.size, 3, none⟩ = some (bstr t.to) /\ wc.cell? ⟨w2.heap.size, 4, none⟩ = some av /\
 wc.frozen? ⟨w2.heap.size, 1, none⟩ = false /\ wc.frozen? ⟨w2.heap.size, 2, none⟩ = false /\ wc.frozen? ⟨w2.heap.size, 3, none⟩ = false /\ wc.frozen? ⟨w2.heap.size, 4, none⟩ = false := by
 simp [World.cell?, World.frozen?, h.box]
end
theorem dashed_no {α : Type} {z a : α} {w : List UInt8} (h : w ≠ wDash) : dashed z w a = a := if_neg h
theorem evOk_no {w : List UInt8} (h : w ≠ wDash) : evOk w = eventB w := by unfold evOk; rw [decide_eq_false h]; rfl
theorem gdOk_no {w : List UInt8} (h : w ≠ wDash) : gdOk w = decide ((parseP w).2.2 = 0) := by unfold gdOk; rw [decide_eq_false h]; rfl
theorem toOk_no {w : List UInt8} (h : w ≠ wDash) : toOk w = nameB w := by unfold toOk; rw [decide_eq_false h]; rfl
theorem acOk_no {w : List UInt8} (h : w ≠ wDash) : acOk w = decide ((parseA w).2 = 0) := by unfold acOk; rw [decide_eq_false h]; rfl
set_option maxRecDepth 100000 in
set_option maxHeartbeats 16000000 in
theorem on_of (r : List (List UInt8)) (hE1 : wd r 1 = wDash \/ ParsesE (wd r 1)) (hA3 : wd r 3 = wDash \/ ParsesA (wd r 3)) : MethodFor 82 onS r := by
 intro b B w0 w c eV vV sV tV sp tp d F A cp h hw hB hd hrl hr hx hE;obtain ⟨w1, hw1⟩ : ∃ W, W = w.alloc (.cells #[.int .i64 d, .string F, .slice A r.length cp] 74) := ⟨_, rfl⟩
 have hb1 : Below w.heap.size w w1 := hw1 ▸ (Below.refl w.heap.size w).alloc (Nat.le_refl _) _;have hx1 : w1.heap[w.heap.size]? = some (.cells #[.int .i64 d, .string F, .slice A r.length cp] 74 (0, 0)) := by rw [hw1]; exact heap_alloc_new w _
 obtain ⟨d0, d1, d2⟩ : w1.cell? ⟨w.heap.size, 0, none⟩ = some (.int .i64 d) /\ w1.cell? ⟨w.heap.size, 1, none⟩ = some (.string F) /\ w1.cell? ⟨w.heap.size, 2, none⟩ = some (.slice A r.length cp) := by simp [World.cell?, hx1]
 have hsz1 := lt_of_heap hx1;have h1 : OwnCh b B 67 w1 c eV vV sV tV sp tp := (h.below hw).below hb1;have hle0 := h.le;have hzw := hw.size;have hz01 := hb1.size;have HD := Lib.hid (isPart_any h1 hB d 4 F A cp r hrl (by omega) (by omega));have HR := Lib.hid (hr.below hb1); have H1 := Lib.hid h1; have HW := Lib.hid hw1;have HXS := Lib.hid (wd_len hx);have HE := Lib.hid (hE.below hb1);have HK : Hid (KeptB b B w w1) := KeptB.of_below hb1 (by omega);have HLT : Hid (∀ g, tV.ownBlock = some g -> g < w0.heap.size) := fun g hg => (h.ts.lt g hg).2
 have hss := hB.ss;have hts := hB.ts;have htl : tp.length = c.ts.length := by rw [<- h.tsE, List.length_map]
 obtain ⟨ie, hi0, hi1, hi2, hi3⟩ := info_of Tryz.infoTrans;have HE0 := Lib.hid hi0; have HE1 := Lib.hid hi1; have HE2 := Lib.hid hi2; have HE3 := Lib.hid hi3;clear h hw hB h1 hr hb1 hw1 hE hx hx1 hd hi0 hi1 hi2 hi3;obtain ⟨q1, hq1⟩ : ∃ q, partB c d 4 r = q := ⟨_, rfl⟩
 have HQ := Lib.hid hq1;rw [hq1] at HD;clear hq1;cases q1 with
 | false =>
  have hv : onS c d r = none := by unfold onS; rw [HQ.out]; rfl
  have HV := Lib.hid hv; clear hv hss hts htl;generalize r.length = rl at *
  go_enter Tryz.func82, Tryz.ntmps82
  go_wp2_with fail
  rw [<- HW.out];refine HD.out.mono ?_;rintro e w2 ⟨rfl, hb2⟩;have HK2 : Hid (KeptB b B w w2) := HK.out.trans (KeptB.of_below hb2 (by omega));clear hb2;go_wp2;go_ret;exact MPost.no HV.out HK2.out
 | true =>
  have hpp := HQ.out;unfold partB at hpp;simp only [Bool.and_eq_true, decide_eq_true_eq, Bool.not_eq_true', List.isEmpty_eq_false_iff] at hpp;obtain ⟨⟨hne, hdr⟩, hr4⟩ := hpp;clear hdr;have hsl := SP.len H1.out.ssE;have hpos : 0 < c.ss.length := List.length_pos_iff.2 hne;obtain ⟨k, hk⟩ : ∃ k, sp.length = k + 1 := ⟨sp.length - 1, by omega⟩
  obtain ⟨gs, cs, rfl⟩ := own_slice H1.out.ss;obtain ⟨q, o, rfl, hq0, hq2, hc⟩ := HR.out.all (by omega);obtain ⟨x0, hx0⟩ : ∃ x, wd r 0 = x := ⟨_, rfl⟩
  obtain ⟨X0, hX0, hXl0⟩ := bstr_some x0;have c0 := hc 0 (by omega);rw [hx0, hX0, Nat.add_zero] at c0;have s0 : X0.size <= 6000 := by have := HXS.out 0; rw [hx0] at this; rw [Lib.size_eq, hXl0]; exact this
  obtain ⟨x1, hx1⟩ : ∃ x, wd r 1 = x := ⟨_, rfl⟩
  rw [hx1] at hE1;have HP1 := Lib.hid hE1; clear hE1;obtain ⟨X1, hX1, hXl1⟩ := bstr_some x1;have c1 := hc 1 (by omega);rw [hx1, hX1] at c1;have s1 : X1.size <= 6000 := by have := HXS.out 1; rw [hx1] at this; rw [Lib.size_eq, hXl1]; exact this
  obtain ⟨x2, hx2⟩ : ∃ x, wd r 2 = x := ⟨_, rfl⟩
  obtain ⟨X2, hX2, hXl2⟩ := bstr_some x2;have c2 := hc 2 (by omega);rw [hx2, hX2] at c2;have s2 : X2.size <= 6000 := by have := HXS.out 2; rw [hx2] at this; rw [Lib.size_eq, hXl2]; exact this
  obtain ⟨x3, hx3⟩ : ∃ x, wd r 3 = x := ⟨_, rfl⟩
  rw [hx3] at hA3;have HP3 := Lib.hid hA3; clear hA3;obtain ⟨X3, hX3, hXl3⟩ := bstr_some x3;have c3 := hc 3 (by omega);rw [hx3, hX3] at c3;have s3 : X3.size <= 6000 := by have := HXS.out 3; rw [hx3] at this; rw [Lib.size_eq, hXl3]; exact this
  have hkm : k < 1000000 := by omega
  have hv : onS c d r = if (evOk x0 && gdOk x1 && toOk x2 && acOk x3) = true then some { c with ts := c.ts ++ [⟨(k : Int), dashed [] x0 x0, dashed [] x1 (parseP x1).1, dashed [] x2 x2, dashed [] x3 (parseA x3).1⟩] } else none := by
   have e : (c.ss.length : Int) - 1 = (k : Int) := by omega
   unfold onS onT; rw [HQ.out, hx0, hx1, hx2, hx3, e, Bool.true_and]
  have HV := Lib.hid hv;have HL0 := Lib.hid hXl0; have HL1 := Lib.hid hXl1; have HL2 := Lib.hid hXl2; have HL3 := Lib.hid hXl3;have HXX0 := Lib.hid hX0; have HXX2 := Lib.hid hX2;have htp : tp.length <= 1000000 := by omega
  rw [hr4] at HW d2 HD ⊢;clear hv hXl0 hXl1 hXl2 hXl3 hX0 hX1 hX2 hX3 hx0 hx1 hx2 hx3 hc hne hpos hss hts htl
  go_enter Tryz.func82, Tryz.ntmps82
  go_wp2_with fail
  rw [<- HW.out];refine HD.out.mono ?_;rintro e w2 ⟨rfl, hb2⟩;have HO := Lib.hid (H1.out.below hb2);have hle2 := HO.out.le;have HK2 : Hid (KeptB b B w w2) := HK.out.trans (KeptB.of_below hb2 (by omega));have HE2v := Lib.hid (HE.out.below hb2);have hz12 := hb2.size;obtain ⟨_, _, _, b3, _⟩ := HO.out.cells;rw [hk] at b3;replace d2 := (hb2.cell (show w.heap.size < _ from hsz1)).trans d2;replace c0 := (hb2.cell (show q < _ from hq2)).trans c0;replace c1 := (hb2.cell (show q < _ from hq2)).trans c1;replace c2 := (hb2.cell (show q < _ from hq2)).trans c2;replace c3 := (hb2.cell (show q < _ from hq2)).trans c3;clear hb2;obtain ⟨w3, hw3⟩ : ∃ W, W = w2.alloc (.cells #[.int .i64 (k : Int), .string ⟨#[]⟩, .slice none 0 0, .string ⟨#[]⟩, .slice none 0 0] 121) := ⟨_, rfl⟩
  have hb3 : Below w2.heap.size w2 w3 := hw3 ▸ (Below.refl w2.heap.size w2).alloc (Nat.le_refl _) _;have hI0 : OnI B w2 ⟨(k : Int), [], [], [], []⟩ (.slice none 0 0) (.slice none 0 0) w3 := ⟨by rw [hw3]; exact heap_alloc_new w2 _, hb3, GdO.nil _ _, BlkO.nil _ _, hle2⟩;have HI0 := Lib.hid hI0;have HW3 := Lib.hid hw3;have hlw2 : w.heap.size < w2.heap.size := by omega
  have hqw2 : q < w2.heap.size := by omega
  have HC2 : Hid (∀ W, Below w2.heap.size w2 W -> W.cell? ⟨w.heap.size, 2, none⟩ = some (.slice (some ⟨q, o, none⟩) 4 cp) /\ W.cell? ⟨q, o, none⟩ = some (.string X0) /\ W.cell? ⟨q, o + 1, none⟩ = some (.string X1) /\ W.cell? ⟨q, o + 2, none⟩ = some (.string X2) /\ W.cell? ⟨q, o + 3, none⟩ = some (.string X3)) := fun W hb =>
   ⟨(hb.cell (show w.heap.size < _ from hlw2)).trans d2, (hb.cell (show q < _ from hqw2)).trans c0, (hb.cell (show q < _ from hqw2)).trans c1, (hb.cell (show q < _ from hqw2)).trans c2, (hb.cell (show q < _ from hqw2)).trans c3⟩
  obtain ⟨e2, a0, a1, a2, a3⟩ := HC2.out w3 hb3;have e2e := e2; have a0e := a0;rw [hw3] at e2e a0e;clear hw3 hb3 hI0 c0 c1 c2 c3 d2
  go_upto_if 33 with fail
  rw [<- HW3.out];clear e2e a0e
  go_cut [6] from 32 (fun s6 wc => ∃ (q : Bool) (t : TC) (gv av : Value), s6 = .bool q /\ Hid (OnI B w2 t gv av wc /\ q = evOk x0 /\ (q = true -> t = ⟨(k : Int), dashed [] x0 x0, [], [], []⟩)))
  case first =>
   obtain ⟨t0, t1, t2, t3, t4, f1, f2, f3, f4⟩ := HI0.out.at_;have HI1 := Lib.hid (HI0.out.setEv x0);rw [HXX0.out] at HI1
   go_wp2_with (go_at_call 112; refine (event_any X0 _).mono ?_; rintro e w5 ⟨rfl, h5⟩; obtain rfl := h5)
   ·skip
    have hT : (!X0.toList == [45]) = true := by assumption
    have hx : x0 ≠ wDash := fun e => (by rw [Lib.toList_data, HL0.out, e] at hT; exact absurd hT (by decide))
    have HX := Lib.hid hx;clear hx
    go_meet
    case rel => exact ⟨_, _, _, _, rfl, HI1.out, by rw [evOk_no HX.out, HL0.out], fun _ => by rw [dashed_no HX.out]⟩
   ·skip
    have hT : (!X0.toList == [45]) = false := by assumption
    have hx : x0 = wDash := by rw [Lib.toList_data, HL0.out] at hT; exact (show x0 = [45] by simpa using hT)
    have HX := Lib.hid hx;clear hx
    go_meet
    case rel => exact ⟨_, _, _, _, rfl, HI0.out, by rw [HX.out]; rfl, fun _ => by rw [HX.out]; rfl⟩
  case rest =>
   obtain ⟨q1, t1, g1, v1, rfl, HS1⟩ := hcut;clear e2 a0 a1 a2 a3 HI0;obtain ⟨wc1, hwc⟩ : ∃ W, W = wc := ⟨_, rfl⟩
   subst hwc;obtain ⟨e2, a0, a1, a2, a3⟩ := HC2.out _ HS1.out.1.below;have hzc1 := HS1.out.1.below.size
   go_upto_region 9 with fail
   go_cut [46] from 42 (fun st wx => wc1 = wx /\ st = .bool (q1 && (!X1.toList == [45])))
   case first =>
    cases q1 with
    | false =>
     go_wp2
     go_meet
     case rel => exact ⟨rfl, by simp⟩
    | true =>
     go_wp2
     go_meet
     case rel => exact ⟨rfl, by simp⟩
   case rest =>
    obtain ⟨hwx, rfl⟩ := hcut;obtain rfl : wc1 = wc := hwx;obtain ⟨b1, hb1⟩ : ∃ b, (q1 && (!X1.toList == [45])) = b := ⟨_, rfl⟩
    rw [hb1];have HB1 := Lib.hid hb1;clear hb1
    go_upto_if 46 with fail
    go_cut [6, 9, 10, 11] from 42 (fun s6 s9 s10 s11 wc => ∃ (q : Bool) (t : TC) (gv av : Value), s6 = .bool q /\ Hid (OnI B w2 t gv av wc /\ q = (evOk x0 && gdOk x1) /\ (q = true -> t = ⟨(k : Int), dashed [] x0 x0, dashed [] x1 (parseP x1).1, [], []⟩)))
    case first =>
     cases b1 with
     | false =>
      go_wp2
      go_meet
      case rel =>
       cases q1 with
       | false => exact ⟨_, _, _, _, rfl, HS1.out.1, by rw [<- HS1.out.2.1]; rfl, fun h => by cases h⟩
       | true =>
        have hx : x1 = wDash := by have hT := HB1.out; rw [Lib.toList_data, HL1.out] at hT; exact (show x1 = [45] by simpa using hT)
        have HX := Lib.hid hx;exact ⟨_, _, _, _, rfl, HS1.out.1, by rw [HX.out, <- HS1.out.2.1]; rfl, fun h => by rw [HS1.out.2.2 h, HX.out]; rfl⟩
     | true =>
      have hT := HB1.out;have hq : q1 = true := by revert hT; cases q1 <;> simp
      subst hq;have hx : x1 ≠ wDash := fun e => (by rw [Lib.toList_data, HL1.out, e] at hT; exact absurd hT (by decide))
      have HX := Lib.hid hx;clear hx hT
      go_wp2_with fail
      have hp1 : ParsesE X1.data.toList := HL1.out ▸ HP1.out.resolve_left HX.out;refine (hp1.2 X1 _ rfl (HE2v.out.below (HS1.out.1.below)).ops (by omega)).mono ?_;rintro e w5 ⟨v, rfl, ho⟩;obtain ⟨Av, cv, rfl⟩ := own_slice ho.own;have hI5 := HS1.out.1.moved ho.below;obtain ⟨k0, k1, k2, k3, k4, f1, f2, f3, f4⟩ := hI5.at_;obtain ⟨Ag, ng, hge⟩ := own_slice hI5.gd.own;rw [hge] at k2;have HI1 := Lib.hid (hI5.setGd (v := .slice Av (parseP X1.data.toList).1.length cv) (cs := (parseP X1.data.toList).1) ⟨own_lower ho.own (by have := hI5.le; omega), by have := hp1.1.2; omega, hp1.1.1⟩);rw [HL1.out] at HI1 ⊢;clear ho hI5 hge hp1;generalize (parseP x1).2.1 = pl at *
      obtain ⟨er, her⟩ : ∃ n, (parseP x1).2.2 = n := ⟨_, rfl⟩
      have HER := Lib.hid her;rw [her];clear her;go_wp2
      go_meet
      case rel => exact ⟨_, _, _, _, rfl, HI1.out, by rw [gdOk_no HX.out, HER.out, <- HS1.out.2.1]; rfl, fun _ => by rw [HS1.out.2.2 (by first | exact rfl | trivial), dashed_no HX.out]⟩
    case rest =>
     obtain ⟨q2, t2, g2, v2, rfl, HS2⟩ := hcut;clear e2 a0 a1 a2 a3;obtain ⟨wc2, hwc⟩ : ∃ W, W = wc := ⟨_, rfl⟩
     subst hwc;obtain ⟨e2, a0, a1, a2, a3⟩ := HC2.out _ HS2.out.1.below;have hzc2 := HS2.out.1.below.size
     go_upto_region 13 with fail
     go_cut [65] from 61 (fun st wx => wc2 = wx /\ st = .bool (q2 && (!X2.toList == [45])))
     case first =>
      cases q2 with
      | false =>
       go_wp2
       go_meet
       case rel => exact ⟨rfl, by simp⟩
      | true =>
       go_wp2
       go_meet
       case rel => exact ⟨rfl, by simp⟩
     case rest =>
      obtain ⟨hwx, rfl⟩ := hcut;obtain rfl : wc2 = wc := hwx;obtain ⟨b2, hb2⟩ : ∃ b, (q2 && (!X2.toList == [45])) = b := ⟨_, rfl⟩
      rw [hb2];have HB2 := Lib.hid hb2;clear hb2
      go_upto_if 65 with fail
      go_cut [6] from 61 (fun s6 wc => ∃ (q : Bool) (t : TC) (gv av : Value), s6 = .bool q /\ Hid (OnI B w2 t gv av wc /\ q = (evOk x0 && gdOk x1 && toOk x2) /\ (q = true -> t = ⟨(k : Int), dashed [] x0 x0, dashed [] x1 (parseP x1).1, dashed [] x2 x2, []⟩)))
      case first =>
       cases b2 with
       | false =>
        go_wp2
        go_meet
        case rel =>
         cases q2 with
         | false => exact ⟨_, _, _, _, rfl, HS2.out.1, by rw [<- HS2.out.2.1]; rfl, fun h => by cases h⟩
         | true =>
          have hx : x2 = wDash := by have hT := HB2.out; rw [Lib.toList_data, HL2.out] at hT; exact (show x2 = [45] by simpa using hT)
          have HX := Lib.hid hx;exact ⟨_, _, _, _, rfl, HS2.out.1, by rw [HX.out, <- HS2.out.2.1]; rfl, fun h => by rw [HS2.out.2.2 h, HX.out]; rfl⟩
       | true =>
        have hT := HB2.out;have hq : q2 = true := by revert hT; cases q2 <;> simp
        subst hq;have hx : x2 ≠ wDash := fun e => (by rw [Lib.toList_data, HL2.out, e] at hT; exact absurd hT (by decide))
        have HX := Lib.hid hx;clear hx hT;obtain ⟨k0, k1, k2, k3, k4, f1, f2, f3, f4⟩ := HS2.out.1.at_;obtain ⟨KE, hKE, _⟩ := bstr_some t2.«to»;rw [hKE] at k3;have HI1 := Lib.hid (HS2.out.1.setTo x2);rw [HXX2.out] at HI1
        go_wp2_with (go_at_call 114; refine (name_any X2 _).mono ?_; rintro e w5 ⟨rfl, h5⟩; obtain rfl := h5)
        go_meet
        case rel => exact ⟨_, _, _, _, rfl, HI1.out, by rw [toOk_no HX.out, HL2.out, <- HS2.out.2.1]; rfl, fun _ => by rw [HS2.out.2.2 (by first | exact rfl | trivial), dashed_no HX.out]⟩
      case rest =>
       obtain ⟨q3, t3, g3, v3, rfl, HS3⟩ := hcut;clear e2 a0 a1 a2 a3;obtain ⟨wc3, hwc⟩ : ∃ W, W = wc := ⟨_, rfl⟩
       subst hwc;obtain ⟨e2, a0, a1, a2, a3⟩ := HC2.out _ HS3.out.1.below;have hzc3 := HS3.out.1.below.size
       go_upto_region 16 with fail
       go_cut [78] from 74 (fun st wx => wc3 = wx /\ st = .bool (q3 && (!X3.toList == [45])))
       case first =>
        cases q3 with
        | false =>
         go_wp2
         go_meet
         case rel => exact ⟨rfl, by simp⟩
        | true =>
         go_wp2
         go_meet
         case rel => exact ⟨rfl, by simp⟩
       case rest =>
        obtain ⟨hwx, rfl⟩ := hcut;obtain rfl : wc3 = wc := hwx;obtain ⟨b3, hb3⟩ : ∃ b, (q3 && (!X3.toList == [45])) = b := ⟨_, rfl⟩
        rw [hb3];have HB3 := Lib.hid hb3;clear hb3
        go_upto_if 78 with fail
        go_cut [6, 14, 15] from 74 (fun s6 s14 s15 wc => ∃ (q : Bool) (t : TC) (gv av : Value), s6 = .bool q /\ Hid (OnI B w2 t gv av wc /\ q = (evOk x0 && gdOk x1 && toOk x2 && acOk x3) /\ (q = true -> t = ⟨(k : Int), dashed [] x0 x0, dashed [] x1 (parseP x1).1, dashed [] x2 x2, dashed [] x3 (parseA x3).1⟩)))
        case first =>
         cases b3 with
         | false =>
          go_wp2
          go_meet
          case rel =>
           cases q3 with
           | false => exact ⟨_, _, _, _, rfl, HS3.out.1, by rw [<- HS3.out.2.1]; rfl, fun h => by cases h⟩
           | true =>
            have hx : x3 = wDash := by have hT := HB3.out; rw [Lib.toList_data, HL3.out] at hT; exact (show x3 = [45] by simpa using hT)
            have HX := Lib.hid hx;exact ⟨_, _, _, _, rfl, HS3.out.1, by rw [HX.out, <- HS3.out.2.1]; rfl, fun h => by rw [HS3.out.2.2 h, HX.out]; rfl⟩
         | true =>
          have hT := HB3.out;have hq : q3 = true := by revert hT; cases q3 <;> simp
          subst hq;have hx : x3 ≠ wDash := fun e => (by rw [Lib.toList_data, HL3.out, e] at hT; exact absurd hT (by decide))
          have HX := Lib.hid hx;clear hx hT
          go_wp2_with fail
          have hee := HE2v.out.below (HS3.out.1.below);have hp3 : ParsesA X3.data.toList := HL3.out ▸ HP3.out.resolve_left HX.out;refine (hp3 X3 _ rfl hee.ops hee.ml (by omega)).mono ?_;rintro e w5 ⟨v, ps, rfl, o1, o2, o3, o4⟩;obtain ⟨Av, cv, rfl⟩ := own_slice o2;have hI5 := HS3.out.1.moved o4;obtain ⟨k0, k1, k2, k3, k4, f1, f2, f3, f4⟩ := hI5.at_;obtain ⟨Aa, na, hge⟩ := hI5.ac.form;rw [hge] at k4;have hbk : BlkO B w5 (.slice Av ps.length cv) (parseA X3.data.toList).1 := (show BlkO _ w5 _ _ from ⟨ps, o1, o2, o3⟩).low (by have := hI5.le; omega);have HI1 := Lib.hid (hI5.setAc hbk);rw [HL3.out] at HI1 ⊢;clear o1 o2 o3 o4 hI5 hge hbk hee hp3;obtain ⟨er, her⟩ : ∃ n, (parseA x3).2 = n := ⟨_, rfl⟩
          have HER := Lib.hid her;rw [her];clear her;go_wp2
          go_meet
          case rel => exact ⟨_, _, _, _, rfl, HI1.out, by rw [acOk_no HX.out, HER.out, <- HS3.out.2.1]; rfl, fun _ => by rw [HS3.out.2.2 (by first | exact rfl | trivial), dashed_no HX.out]⟩
        case rest =>
         obtain ⟨q, t, gv, av, rfl, HS4⟩ := hcut;obtain ⟨tfr, tev, tgd, tto, tac⟩ := t;clear e2 a0 a1 a2 a3;have HIN : Hid (GdO B wc gv tgd /\ BlkO B wc av tac) := ⟨HS4.out.1.gd, HS4.out.1.ac⟩;have HQ4 := Lib.hid HS4.out.2.1;have HT4 := Lib.hid HS4.out.2.2;obtain ⟨t0, t1, t2, t3, t4, _⟩ := HS4.out.1.at_;have hlb := lt_of_heap HS4.out.1.box;have HOC := Lib.hid (HO.out.below HS4.out.1.below);have HKC : Hid (KeptB b B w wc) := HK2.out.trans (KeptB.of_below HS4.out.1.below hle2);obtain ⟨EV, hEV, hEVl⟩ := bstr_some tev;obtain ⟨TO, hTO, hTOl⟩ := bstr_some tto;simp only at t0 t1 t3;rw [hEV] at t1;rw [hTO] at t3;subst hEVl;subst hTOl;obtain ⟨Ag, cg, rfl⟩ := own_slice HIN.out.1.own;obtain ⟨Aa, ca, rfl⟩ := HIN.out.2.form;generalize tgd.length = ng at *
         generalize tac.length = na at *
         clear hEV hTO
         go_wp2_with fail
         refine Oz.region_two 101 [Ow.eqR (.pointer (some ⟨b, 0, none⟩)), Ow.eqR (.pointer (some ⟨b, 0, none⟩)), Ow.eqR (.pointer (some ⟨b, 0, none⟩)), Ow.eqR (.pointer (some ⟨b, 0, none⟩)), Ow.eqR (.pointer (some ⟨b, 4, none⟩)), fun v w' => v = tV /\ w'.ownsRow B 121 5 v tp.length (flatT tp), Ow.eqR (.agg #[.int .i64 tfr, .string EV, .slice Ag ng cg, .string TO, .slice Aa na ca]), fun v w' => w'.ownsRow B 121 5 v 1 [.int .i64 tfr, .string EV, .slice Ag ng cg, .string TO, .slice Aa na ca], fun v w' => w'.ownsRow B 121 5 v (tp.length + 1) (flatT tp ++ [.int .i64 tfr, .string EV, .slice Ag ng cg, .string TO, .slice Aa na ca]), Ow.eqR (.pointer (some ⟨b, 0, none⟩)), Ow.eqR (.pointer (some ⟨b, 0, none⟩)), Ow.eqR (.pointer (some ⟨b, 4, none⟩)), fun _ w' => ∃ v', w'.heap[b]? = some (.cells #[bstr c.nm, eV, vV, .slice gs sp.length cs, v'] 67 (0, 0)) /\ w'.ownsRow B 121 5 v' (tp.length + 1) (flatT tp ++ [.int .i64 tfr, .string EV, .slice Ag ng cg, .string TO, .slice Aa na ca])] [false, false, false, false, false, true, false, true, true, false, false, false, false] [none, none, none, none, none, none, none, none, some 5, none, none, none, none] (b) 5 12 (b) (tV) (own_lower (HOC.out.ts) (Nat.le_of_lt HOC.out.lt)) (own_neq (HOC.out.ts) HOC.out.lt) (Nat.le_refl _) ((Nat.lt_of_lt_of_le HOC.out.lt HOC.out.le)) (by kernel_rfl) rfl (by kernel_rfl) (by kernel_rfl) rfl rfl ⟨Oz.keeps_eq _ _, Oz.keeps_eq _ _, Oz.keeps_eq _ _, Oz.keeps_eq _ _, Oz.keeps_eq _ _, keeps_is, Oz.keeps_eq _ _, Oz.keeps_own _ _ _ _ _, Oz.keeps_own _ _ _ _ _, Oz.keeps_eq _ _, Oz.keeps_eq _ _, Oz.keeps_eq _ _, trivial⟩ ?_;refine Oz.walk_qL ?_ fun x88 => ?_
         ·intro w1 hb hu hd ho K hK;clear hu hd ho;go_simp;exact hK _ _ (Oz.good_same rfl rfl rfl)
         refine Oz.walk_qL ?_ fun x89 => ?_
         ·intro w1 hb hu hd ho K hK;clear hu hd ho;go_simp;exact hK _ _ (Oz.good_same rfl rfl rfl)
         refine Oz.walk_qL ?_ fun x90 => ?_
         ·intro w1 hb hu hd ho K hK;obtain rfl : _ = x89 := Eq.symm (hd 1 (by kernel_rfl));clear hu hd ho;go_simp;exact hK _ _ (Oz.good_same rfl rfl rfl)
         refine Oz.walk_qL ?_ fun x91 => ?_
         ·intro w1 hb hu hd ho K hK;obtain rfl : _ = x90 := Eq.symm (hd 2 (by kernel_rfl));clear hu hd ho;go_simp;exact hK _ _ (Oz.good_same rfl rfl rfl)
         refine Oz.walk_qL ?_ fun x92 => ?_
         ·intro w1 hb hu hd ho K hK;obtain rfl : _ = x91 := Eq.symm (hd 3 (by kernel_rfl));clear hu hd ho;go_simp;exact hK _ _ (Oz.good_same rfl rfl rfl)
         refine Oz.walk_qL ?_ fun x93 => ?_
         ·intro w1 hb hu hd ho K hK;obtain rfl : _ = x92 := Eq.symm (hd 4 (by kernel_rfl));have hh : w1.heap[b]? = some (.cells #[bstr c.nm, eV, vV, .slice gs sp.length cs, tV] 67 (0, 0)) := (hu _ (by have := HOC.out.lt; have := HOC.out.le; simp; omega) (fun j hj => by rcases Oz.cl2_cases hj with ⟨_, h⟩ | ⟨rfl, _⟩; exact absurd h (own_neq (HOC.out.ts) HOC.out.lt); exact Or.inr rfl)).trans HOC.out.box;obtain ⟨b0, b1, b2, b3, b4, g0, g1, g2, g3, g4⟩ := at5 hh;have hx := Oz.own_same (HOC.out.ts) (w' := w1) (fun g hg => (hu g (by have := (HOC.out.ts).lt g hg; simp; omega) (fun j hj => by rcases Oz.cl2_cases hj with ⟨rfl, _⟩ | ⟨rfl, _⟩; exact Or.inl rfl; exact Or.inr rfl)).trans rfl);have hbz := hb.size;clear hu hd ho;go_simp;exact hK _ _ (Oz.good_claim rfl (Nat.le_of_lt HOC.out.lt) ⟨rfl, hx⟩ hx Oz.cl2_row)
         refine Oz.walk_qL ?_ fun x94 => ?_
         ·intro w1 hb hu hd ho K hK;have kq := hu w2.heap.size (by simp; omega) (fun j hj => by rcases Oz.cl2_cases hj with ⟨_, h⟩ | ⟨_, h⟩; exact absurd (HLT.out _ h) (by omega); exact absurd h (by have := HOC.out.lt; have := HOC.out.le; omega));have c_t0 := (World.cell?_of_block (w := _) (a := ⟨w2.heap.size, _, none⟩) kq).trans t0;have c_t1 := (World.cell?_of_block (w := _) (a := ⟨w2.heap.size, _, none⟩) kq).trans t1;have c_t2 := (World.cell?_of_block (w := _) (a := ⟨w2.heap.size, _, none⟩) kq).trans t2;have c_t3 := (World.cell?_of_block (w := _) (a := ⟨w2.heap.size, _, none⟩) kq).trans t3;have c_t4 := (World.cell?_of_block (w := _) (a := ⟨w2.heap.size, _, none⟩) kq).trans t4;clear hu hd ho;go_simp;exact hK _ _ (Oz.good_same rfl rfl rfl)
         refine Oz.walk_qL ?_ fun x95 => ?_
         ·intro w1 hb hu hd ho K hK;obtain rfl : _ = x94 := Eq.symm (hd 6 (by kernel_rfl));have hz : B <= w1.heap.size := by have := hb.size; have := HOC.out.le; simp at *; omega
          clear hu hd ho;go_simp;exact hK _ _ (Oz.good_laid #[.int .i64 tfr, .string EV, .slice Ag ng cg, .string TO, .slice Aa na ca] rfl (by have := HOC.out.lt; omega) (by decide) rfl hz rfl)
         refine Oz.walk_qL ?_ fun x96 => ?_
         ·intro w1 hb hu hd ho K hK;have h93 := hd 5 (by kernel_rfl);have h95 := hd 7 (by kernel_rfl);have hz : B <= w1.heap.size := by have := hb.size; have := HOC.out.le; simp at *; omega
          have hoo := ho 5 (by kernel_rfl) rfl;have hq := h93.2;clear hu hd ho;refine Ow.step_append rfl (.tmp 93) (.tmp 95) 25 rfl B 121 ie _ 5 88 Tryz.underlying25 HE0.out HE1.out HE2.out HE3.out rfl (by decide) x93 tp.length (flatT tp) (by simp [Act.eval]) hq _ 1 [.int .i64 tfr, .string EV, .slice Ag ng cg, .string TO, .slice Aa na ca] (by simp [Act.eval]) (Inn.of_own h95) (by intro u hu; simp only [List.mem_cons, List.not_mem_nil, or_false] at hu; rcases hu with rfl | rfl | rfl | rfl | rfl <;> rfl) (by unfold maxLen; omega) (by omega) hz ?_;intro v' w' hown hg hob;refine hK _ _ (Oz.good_row (k := 5) rfl (by have := HOC.out.lt; omega) hq hg (by exact hown) hown hoo hob)
         refine Oz.walk_qL ?_ fun x97 => ?_
         ·intro w1 hb hu hd ho K hK;obtain rfl : _ = x88 := Eq.symm (hd 0 (by kernel_rfl));clear hu hd ho;go_simp;exact hK _ _ (Oz.good_same rfl rfl rfl)
         refine Oz.walk_qL ?_ fun x98 => ?_
         ·intro w1 hb hu hd ho K hK;obtain rfl : _ = x97 := Eq.symm (hd 9 (by kernel_rfl));clear hu hd ho;go_simp;exact hK _ _ (Oz.good_same rfl rfl rfl)
         refine Oz.walk_qL ?_ fun x99 => ?_
         ·intro w1 hb hu hd ho K hK;obtain rfl : _ = x98 := Eq.symm (hd 10 (by kernel_rfl));clear hu hd ho;go_simp;exact hK _ _ (Oz.good_same rfl rfl rfl)
         apply Oz.walk_consL rfl
         ·intro w1 hb hu hd ho K hK;obtain rfl : _ = x99 := Eq.symm (hd 11 (by kernel_rfl));have h96 := hd 8 (by kernel_rfl);have hh : w1.heap[b]? = some (.cells #[bstr c.nm, eV, vV, .slice gs sp.length cs, tV] 67 (0, 0)) := (hu _ (by have := HOC.out.lt; have := HOC.out.le; simp; omega) (fun j hj => by rcases Oz.cl2_cases hj with ⟨_, h⟩ | ⟨rfl, _⟩; exact absurd h (own_neq (HOC.out.ts) HOC.out.lt); exact Or.inr rfl)).trans HOC.out.box;obtain ⟨b0, b1, b2, b3, b4, g0, g1, g2, g3, g4⟩ := at5 hh;obtain ⟨Az, cz, e1⟩ := own_slice h96;subst e1;clear hu hd ho;go_simp;refine hK undef _ ⟨⟨_, heap_setCell_same _ _ 4 _ _ _ hh, own_past h96 HOC.out.lt _ _⟩, Oz.setAll_grown b [_] 4 w1, fun h => by cases h⟩
         ·intro v; exact rfl
         ·intro v; exact rfl
         intro xn12;refine Oz.walk_nilL rfl (fun w1 hb hu hd => ?_);obtain rfl : _ = x88 := Eq.symm (hd 0 (by kernel_rfl));obtain rfl : _ = x89 := Eq.symm (hd 1 (by kernel_rfl));obtain rfl : _ = x90 := Eq.symm (hd 2 (by kernel_rfl));obtain rfl : _ = x91 := Eq.symm (hd 3 (by kernel_rfl));obtain rfl : _ = x92 := Eq.symm (hd 4 (by kernel_rfl));obtain rfl : _ = x94 := Eq.symm (hd 6 (by kernel_rfl));have h95 := hd 7 (by kernel_rfl);have h96 := hd 8 (by kernel_rfl);obtain rfl : _ = x97 := Eq.symm (hd 9 (by kernel_rfl));obtain rfl : _ = x98 := Eq.symm (hd 10 (by kernel_rfl));obtain rfl : _ = x99 := Eq.symm (hd 11 (by kernel_rfl));have hn12 := hd 12 (by kernel_rfl);clear hd;obtain ⟨v', hbx, hnr⟩ := hn12;have hG := GrownT.of_two hb hu;have hP := HOC.out.pushT ⟨by decide, by decide⟩ hG hbx (p := (⟨tfr, EV.data.toList, tgd, TO.data.toList, tac⟩, .slice Ag ng cg, .slice Aa na ca)) HIN.out hnr;have HP := Lib.hid hP;clear hb hu hbx hnr hG hP;go_simp;go_wp2;go_ret;cases q with
         | false => exact MPost.no (by rw [HV.out, <- HQ4.out]; rfl) (HKC.out.trans HP.out.2)
         | true => exact ret_true (by rw [HV.out, <- HQ4.out, if_pos rfl, <- HT4.out rfl]) (HKC.out.trans HP.out.2) ⟨_, _, _, _, _, _, HP.out.1⟩
end Go.Proofs.YtcnfcililiehlaaGreatDoor.Ch
namespace Go.Proofs.YtcnfcililiehlaaGreatDoor.Ch
open Go.RowKit Go.Maps Go.WideMaps
noncomputable def fR (v : Value) : Option (DataW Unit × List MemPlace) := by
 classical exact if h : ∃ f : Nat, f ≠ 0 /\ v = .func (.func f) #[] #[] then some (.lit (.int .i64 (h.choose : Nat)), []) else if v = .nilFunc then some (.lit (.int .i64 0), []) else none
theorem fR_func (f : Nat) (hf : f ≠ 0) : fR (.func (.func f) #[] #[]) = some (.lit (.int .i64 f), []) := by
 have h : ∃ g : Nat, g ≠ 0 /\ (Value.func (.func f) #[] #[]) = .func (.func g) #[] #[] := ⟨f, hf, rfl⟩
 unfold fR;rw [dif_pos h];have e : h.choose = f := by
  have hs := h.choose_spec.2;injection hs with h1
  injection h1 with h2
  exact h2.symm
 show some (DataW.lit (.int .i64 ((h.choose : Nat) : Int)), []) = _;rw [e]
theorem fR_nil : fR .nilFunc = some (.lit (.int .i64 0), []) := by
 unfold fR;rw [dif_neg (by rintro ⟨f, _, h⟩; cases h), if_pos rfl]
theorem fR_inv {v : Value} {n : Nat} {ps : List MemPlace} (h : fR v = some (.lit (.int .i64 n), ps)) : (n ≠ 0 /\ v = .func (.func n) #[] #[]) \/ (n = 0 /\ v = .nilFunc) := by
 unfold fR at h;split at h
 ·rename_i hf
  obtain ⟨hs0, hs⟩ := hf.choose_spec;simp only [Option.some.injEq, Prod.mk.injEq, DataW.lit.injEq, Lit.int.injEq, true_and] at h;have e : hf.choose = n := by have := h.1; omega
  rw [e] at hs hs0;exact Or.inl ⟨hs0, hs⟩
 ·split at h
  ·rename_i hn
   simp only [Option.some.injEq, Prod.mk.injEq, DataW.lit.injEq, Lit.int.injEq, true_and] at h;exact Or.inr ⟨by have := h.1; omega, hn⟩
  ·cases h
theorem law : Keyed Tryz.prog 9 := string_keyed Tryz.underlying9
def fnT : List (List UInt8 × Nat) :=
 [(wChart, 69), (wEvent, 70), (wInt, 71), (wBool, 72), (wPoint, 73),
  (wBasic, 74), (wBoth, 75), (wFinal, 76), (wOne, 77), (wShallow, 78), (wDeep, 79),
  (wEntry, 80), (wExit, 81), (wOn, 82)]
def fnD : DataW Unit := fnT.foldl (fun D p => D.put (.string p.1) (.lit (.int .i64 p.2))) (.map [])
def fnDs : List (Lit × DataW Unit) := match fnD with
 | .map es => es
 | _ => []
theorem fnD_is : fnD = .map fnDs := by kernel_rfl
theorem fn_keys : fnDs.map (fun p => p.1) = [wBasic, wBool, wBoth, wChart, wDeep, wEntry, wEvent, wExit, wFinal, wInt, wOn, wOne, wPoint, wShallow].map Lit.string := by kernel_rfl
theorem fn_none {F : List UInt8} (h : stepF F = none) : fnD.atKey (.string F) (.lit (.int .i64 0)) = .lit (.int .i64 0) := by
 have hno : ∀ p ∈ fnDs, p.1.sameKey (.string F) = false := by
  intro p hp;have hk : p.1 ∈ fnDs.map (fun p => p.1) := List.mem_map.2 ⟨p, hp, rfl⟩;rw [fn_keys] at hk;have hne : ∀ x ∈ [wBasic, wBool, wBoth, wChart, wDeep, wEntry, wEvent, wExit, wFinal, wInt, wOn, wOne, wPoint, wShallow], x ≠ F := by
   intro x hx e;subst e;simp only [List.mem_cons, List.not_mem_nil, or_false] at hx;rcases hx with rfl | rfl | rfl | rfl | rfl | rfl | rfl | rfl | rfl | rfl | rfl | rfl | rfl | rfl <;> exact absurd h (by simp [stepF, stepT, findS, wBasic, wBool, wBoth, wChart, wDeep, wEntry, wEvent, wExit, wFinal, wInt, wOn, wOne, wPoint, wShallow])
  obtain ⟨x, hx, e⟩ := List.mem_map.1 hk;rw [<- e];have := hne x hx;simp [Lit.sameKey, this]
 unfold DataW.atKey;rw [fnD_is];have : fnDs.find? (fun p => p.1.sameKey (.string F)) = none := List.find?_eq_none.2 (fun p hp => by simp [hno p hp]);simp only [this]
theorem infoMap : Tryz.prog.underlying 68 = some (.map 9 78) := Tryz.underlying68
set_option maxRecDepth 100000 in
set_option maxHeartbeats 4000000 in
theorem readings_any (w : World) : Calls Tryz.prog 45 #[] w fun e w' => e = .returned (.map (some w.heap.size)) /\ w'.ownsMap Tryz.prog 9 fR w.heap.size 14 fnD /\ Below w.heap.size w w' := by
 have hmm := @run_makeMap Tryz.prog;have h0 := World.ownsMap_made w Tryz.prog 9 fR;have hb0 : Below w.heap.size w (w.alloc (.map #[] 0)) := (Below.refl _ _).alloc (Nat.le_refl _) _;have hz0 : (w.alloc (.map #[] 0)).heap.size = w.heap.size + 1 := by simp
 obtain ⟨w1, hr1, h1, hg1⟩ := h0.update law infoMap (by unfold maxLen; omega) (key := .string ⟨#[99, 104, 97, 114, 116]⟩) (val := .func (.func 69) #[] #[]) (keyOf_string_mk Tryz.underlying9 (by unfold maxLen; decide)) (fR_func _ (by decide));obtain ⟨w2, hr2, h2, hg2⟩ := h1.update law infoMap (by unfold maxLen; omega) (key := .string ⟨#[101, 118, 101, 110, 116]⟩) (val := .func (.func 70) #[] #[]) (keyOf_string_mk Tryz.underlying9 (by unfold maxLen; decide)) (fR_func _ (by decide));obtain ⟨w3, hr3, h3, hg3⟩ := h2.update law infoMap (by unfold maxLen; omega) (key := .string ⟨#[105, 110, 116]⟩) (val := .func (.func 71) #[] #[]) (keyOf_string_mk Tryz.underlying9 (by unfold maxLen; decide)) (fR_func _ (by decide));obtain ⟨w4, hr4, h4, hg4⟩ := h3.update law infoMap (by unfold maxLen; omega) (key := .string ⟨#[98, 111, 111, 108]⟩) (val := .func (.func 72) #[] #[]) (keyOf_string_mk Tryz.underlying9 (by unfold maxLen; decide)) (fR_func _ (by decide));obtain ⟨w5, hr5, h5, hg5⟩ := h4.update law infoMap (by unfold maxLen; omega) (key := .string ⟨#[112, 111, 105, 110, 116]⟩) (val := .func (.func 73) #[] #[]) (keyOf_string_mk Tryz.underlying9 (by unfold maxLen; decide)) (fR_func _ (by decide));obtain ⟨w6, hr6, h6, hg6⟩ := h5.update law infoMap (by unfold maxLen; omega) (key := .string ⟨#[98, 97, 115, 105, 99]⟩) (val := .func (.func 74) #[] #[]) (keyOf_string_mk Tryz.underlying9 (by unfold maxLen; decide)) (fR_func _ (by decide));obtain ⟨w7, hr7, h7, hg7⟩ := h6.update law infoMap (by unfold maxLen; omega) (key := .string ⟨#[98, 111, 116, 104]⟩) (val := .func (.func 75) #[] #[]) (keyOf_string_mk Tryz.underlying9 (by unfold maxLen; decide)) (fR_func _ (by decide));obtain ⟨w8, hr8, h8, hg8⟩ := h7.update law infoMap (by unfold maxLen; omega) (key := .string ⟨#[102, 105, 110, 97, 108]⟩) (val := .func (.func 76) #[] #[]) (keyOf_string_mk Tryz.underlying9 (by unfold maxLen; decide)) (fR_func _ (by decide));obtain ⟨w9, hr9, h9, hg9⟩ := h8.update law infoMap (by unfold maxLen; omega) (key := .string ⟨#[111, 110, 101]⟩) (val := .func (.func 77) #[] #[]) (keyOf_string_mk Tryz.underlying9 (by unfold maxLen; decide)) (fR_func _ (by decide));obtain ⟨w10, hr10, h10, hg10⟩ := h9.update law infoMap (by unfold maxLen; omega) (key := .string ⟨#[115, 104, 97, 108, 108, 111, 119]⟩) (val := .func (.func 78) #[] #[]) (keyOf_string_mk Tryz.underlying9 (by unfold maxLen; decide)) (fR_func _ (by decide));obtain ⟨w11, hr11, h11, hg11⟩ := h10.update law infoMap (by unfold maxLen; omega) (key := .string ⟨#[100, 101, 101, 112]⟩) (val := .func (.func 79) #[] #[]) (keyOf_string_mk Tryz.underlying9 (by unfold maxLen; decide)) (fR_func _ (by decide));obtain ⟨w12, hr12, h12, hg12⟩ := h11.update law infoMap (by unfold maxLen; omega) (key := .string ⟨#[101, 110, 116, 114, 121]⟩) (val := .func (.func 80) #[] #[]) (keyOf_string_mk Tryz.underlying9 (by unfold maxLen; decide)) (fR_func _ (by decide));obtain ⟨w13, hr13, h13, hg13⟩ := h12.update law infoMap (by unfold maxLen; omega) (key := .string ⟨#[101, 120, 105, 116]⟩) (val := .func (.func 81) #[] #[]) (keyOf_string_mk Tryz.underlying9 (by unfold maxLen; decide)) (fR_func _ (by decide));obtain ⟨w14, hr14, h14, hg14⟩ := h13.update law infoMap (by unfold maxLen; omega) (key := .string ⟨#[111, 110]⟩) (val := .func (.func 82) #[] #[]) (keyOf_string_mk Tryz.underlying9 (by unfold maxLen; decide)) (fR_func _ (by decide));have hb : Below w.heap.size w w14 := by
  have step : ∀ {x y : World}, Below w.heap.size w x -> x.grownBy y (some w.heap.size) -> Below w.heap.size w y := fun hx hg => hx.grown hg hx.size (fun k hk => by have := Option.some.inj hk; omega)
  exact step (step (step (step (step (step (step (step (step (step (step (step (step (step hb0 hg1) hg2) hg3) hg4) hg5) hg6) hg7) hg8) hg9) hg10) hg11) hg12) hg13) hg14
 have HB := Lib.hid hb;have HO : Hid (w14.ownsMap Tryz.prog 9 fR w.heap.size 14 fnD) := h14;clear h0 h1 h2 h3 h4 h5 h6 h7 h8 h9 h10 h11 h12 h13 h14 hg1 hg2 hg3 hg4 hg5 hg6 hg7 hg8 hg9 hg10 hg11 hg12 hg13 hg14 hb hb0 hz0
 go_enter Tryz.func45, Tryz.ntmps45
 go_wp2;go_ret;exact ⟨rfl, HO.out, HB.out⟩
def Known (F : List UInt8) (r : List (List UInt8)) : Prop := ∀ g, stepF F = some g -> ∃ f, f ≠ 0 /\ MethodFor f g r /\ (∀ args w, (callFunc f args).run Tryz.prog w = .ok (.enter f args) w) /\ fnD.atKey (.string F) (.lit (.int .i64 0)) = .lit (.int .i64 (f : Nat))
theorem known_nil : Known [] [] := fun g h => by cases h
theorem look_of {w : World} {b : Nat} (h : w.ownsMap Tryz.prog 9 fR b 14 fnD) (F : ByteArray) (hF : F.size <= maxLen) {r : List (List UInt8)} (hk : Known F.data.toList r) : ∃ v, (Instr.lookup 68 (.map (some b)) (.string F) false).run Tryz.prog w = .ok v w /\
 ((∃ f g, v = .func (.func f) #[] #[] /\ stepF F.data.toList = some g /\ MethodFor f g r /\ ∀ args w, (callFunc f args).run Tryz.prog w = .ok (.enter f args) w) \/ (v = .nilFunc /\ stepF F.data.toList = none)) := by
 obtain ⟨v, ps, hrun, hv⟩ := h.lookup law infoMap (z := .nilFunc) (by kernel_rfl) fR_nil (keyOf_string_mk Tryz.underlying9 hF);refine ⟨v, hrun, ?_⟩;cases hs : stepF F.data.toList with
 | none =>
  rw [fn_none hs] at hv;rcases fR_inv (n := 0) hv with ⟨h0, _⟩ | ⟨_, rfl⟩
  ·exact absurd rfl h0
  ·exact Or.inr ⟨rfl, rfl⟩
 | some g =>
  obtain ⟨f, hf, hm, he, ha⟩ := hk g hs;rw [ha] at hv;rcases fR_inv hv with ⟨_, rfl⟩ | ⟨h0, _⟩
  ·exact Or.inl ⟨f, g, rfl, rfl, hm, he⟩
  ·exact absurd h0 hf
end Go.Proofs.YtcnfcililiehlaaGreatDoor.Ch
