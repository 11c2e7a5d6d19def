import Derived.Test.YtcnfcililiehlaaGreatDoorR1
import Derived.Test.YtcnfcililiehlaaGreatDoorR2
import Derived.Test.YtcnfcililiehlaaGreatDoorR3
import Derived.Test.YtcnfcililiehlaaGreatDoorR4
import Derived.Test.YtcnfcililiehlaaGreatDoorR5
import Derived.Test.YtcnfcililiehlaaGreatDoorR6
import Derived.Test.YtcnfcililiehlaaGreatDoorR7
import Derived.Test.YtcnfcililiehlaaGreatDoorR8
import Derived.Test.YtcnfcililiehlaaGreatDoorR9
import Derived.Test.YtcnfcililiehlaaGreatDoorR10
import Derived.Test.YtcnfcililiehlaaGreatDoorR11
import Derived.Test.YtcnfcililiehlaaGreatDoorR12
import Derived.Test.YtcnfcililiehlaaGreatDoorR13
import Derived.Test.YtcnfcililiehlaaGreatDoorR14
import Derived.Test.YtcnfcililiehlaaGreatDoorR15
import Derived.Test.YtcnfcililiehlaaGreatDoorR16
import Derived.Test.YtcnfcililiehlaaGreatDoorR17
import Derived.Test.YtcnfcililiehlaaGreatDoorR18
import Derived.Test.YtcnfcililiehlaaGreatDoorR19
import Derived.Test.YtcnfcililiehlaaGreatDoorR20
import Derived.Test.YtcnfcililiehlaaGreatDoorR21
import Derived.Test.YtcnfcililiehlaaGreatDoorR22
import Derived.Test.YtcnfcililiehlaaGreatDoorR23
import Derived.Test.YtcnfcililiehlaaGreatDoorR24
import Derived.Test.YtcnfcililiehlaaGreatDoorR25
import Derived.Test.YtcnfcililiehlaaGreatDoorR26
import Derived.Test.YtcnfcililiehlaaGreatDoorR27
import Derived.Test.YtcnfcililiehlaaGreatDoorR28
import Derived.Test.YtcnfcililiehlaaGreatDoorR29
import Derived.Test.YtcnfcililiehlaaGreatDoorR30
import Derived.Test.YtcnfcililiehlaaGreatDoorR31
import Derived.Test.YtcnfcililiehlaaGreatDoorR32
import Derived.Test.YtcnfcililiehlaaGreatDoorR33
import Derived.Test.YtcnfcililiehlaaGreatDoorR34
import Derived.Test.YtcnfcililiehlaaGreatDoorR35
import Derived.Test.YtcnfcililiehlaaGreatDoorR36
import Derived.Test.YtcnfcililiehlaaGreatDoorQX1
import Derived.Test.YtcnfcililiehlaaGreatDoorQX2
import Derived.Test.YtcnfcililiehlaaGreatDoorQX3
import Derived.Test.YtcnfcililiehlaaGreatDoorQX4
import Derived.Test.YtcnfcililiehlaaGreatDoorQX5
import Derived.Test.YtcnfcililiehlaaGreatDoorQX6
import Derived.Test.YtcnfcililiehlaaGreatDoorQX7
import Derived.Test.YtcnfcililiehlaaGreatDoorQX8
import Derived.OpenShut
import Derived.ProofKit
import Derived.WideShapes
namespace Go.Proofs.YtcnfcililiehlaaGreatDoor.Tr
open Go.RowKit
set_option maxHeartbeats 1000000 in
theorem refRegion_any (v:Value) (xs:List SM) (i:Nat) (w:World) (hR:RdT w v xs) (hi:i < xs.length) (hP:RightP (dp xs) (kp xs) xs.length) :
 Calls Tryz.prog 28 #[v,.int .i64 i] w fun e w'=>e=.returned (.int .i64 (rootF (dp xs) i))/\∃ n,w'=w.drewN n:=by
 obtain ⟨A,c,rfl⟩:=hR.form;have hl:=hP.le;have HP:=Lib.hid (fun k W (hk:k < xs.length) (h:RdT W _ xs)=>refParent_any (.slice A xs.length c) xs k W h hk (by omega) hP.nst);have HN:=Lib.hid hP.nst;have HR:=Lib.hid hR;obtain ⟨n,hn⟩:∃ n,xs.length=n:=⟨_,rfl⟩
 rw [hn] at hi hl HP HN HR;rw [hn];clear hR hP hn
 go_enter Tryz.func28,Tryz.ntmps28
 go_wp2
 go_loopw [1] (fun x1 wr=>∃ k q:Nat,k < n/\wr=w.drewN q/\x1=.int .i64 k/\Hid (rootF (dp xs) k=rootF (dp xs) i)) (fun x _=>(intOf x).toNat)
 case atStart=>exact ⟨i,0,hi,rfl,rfl,rfl⟩
 case round =>
  obtain ⟨k,q,hk,rfl,rfl,HK⟩:=hrel;have hnx:(par (dp xs) k = -1/\rootF (dp xs) i=k)\/∃ p:Nat,par (dp xs) k=p/\p < k/\rootF (dp xs) p=rootF (dp xs) i:=by
   rcases HN.out.nearest hk with ⟨h,h0⟩ | ⟨p,h,h1,_⟩
   ·exact Or.inl ⟨h,HK.out.symm.trans (HN.out.root_zero hk h0)⟩
   ·exact Or.inr ⟨p,h,h1,(HN.out.root_par hk h).symm.trans HK.out⟩
  rcases hnx with ⟨h,hr⟩ | ⟨p,h,hpk,hr⟩
  ·have HH:=Lib.hid h;have HRR:=Lib.hid hr;clear h hr HK
   go_wp2_with (fail)
   refine (HP.out k _ hk (HR.out.drew q)).mono ?_;rintro e w2 ⟨rfl,q2,rfl⟩;rw [HH.out];go_wp2;go_ret;exact ⟨ret_int (by rw [HRR.out]),q+q2,rfl⟩
  ·have HH:=Lib.hid h;have HRR:=Lib.hid hr;clear h hr HK
   go_wp2_with (fail)
   refine (HP.out k _ hk (HR.out.drew q)).mono ?_;rintro e w2 ⟨rfl,q2,rfl⟩;rw [HH.out]
   go_wp2_with (fail)
   refine (HP.out k _ hk (HR.out.drew (q+q2))).mono ?_;rintro e w2 ⟨rfl,q3,rfl⟩;rw [HH.out];go_wp2
   go_roundw
   case rel=>exact ⟨p,q+q2+q3,by omega,rfl,rfl,HRR.out⟩
   case measure=>simp [intOf] <;> omega
end Go.Proofs.YtcnfcililiehlaaGreatDoor.Tr
namespace Go.Proofs.YtcnfcililiehlaaGreatDoor.Ch.Vd
open Go.RowKit
set_option maxRecDepth 100000
def cnt0 (d:Nat->Int) (k:Nat):Nat:=((List.range k).filter fun j=>decide (d j=0)).length
theorem cnt0_succ (d:Nat->Int) (k:Nat):cnt0 d (k+1)=cnt0 d k+if d k=0 then 1 else 0:=by
 unfold cnt0;rw [List.range_succ,List.filter_append,List.length_append];by_cases h:d k=0
 ·simp [h]
 ·simp [h]
theorem cnt0_le (d:Nat->Int) (k:Nat):cnt0 d k<=k:=by
 have:=List.length_filter_le (fun j=>decide (d j=0)) (List.range k);rw [List.length_range] at this;exact this
def bitM (d:Nat->Int) (mask r:Nat):Bool:=decide (mask / 2 ^ (cnt0 d r % 8) % 2=1)
noncomputable def mixB (d kd:Nat->Int) (n mask:Nat) (ps qs:List Nat) (i:Nat):Bool:=if bitM d mask (Tr.rootF d i)=true then decide (i ∈ Tr.someL d kd n ps) else decide (i ∈ Tr.someL d kd n qs)
noncomputable def mixL (d kd:Nat->Int) (n mask:Nat) (ps qs:List Nat) (i:Nat):List Nat:=(List.range i).filter (mixB d kd n mask ps qs)
theorem mixL_succ (d kd:Nat->Int) (n mask:Nat) (ps qs:List Nat) (i:Nat):mixL d kd n mask ps qs (i+1)=mixL d kd n mask ps qs i++(if mixB d kd n mask ps qs i=true then [i] else []):=by
 unfold mixL;rw [List.range_succ,List.filter_append];by_cases h:mixB d kd n mask ps qs i=true
 ·simp [h]
 ·simp [h]
theorem mixL_len (d kd:Nat->Int) (n mask:Nat) (ps qs:List Nat) (i:Nat):(mixL d kd n mask ps qs i).length<=i:=by
 have:=List.length_filter_le (mixB d kd n mask ps qs) (List.range i);rw [List.length_range] at this;exact this
theorem and_one (z:Nat) (h:z < 256):bits .and .u8 (z:Int) 1=((z % 2:Nat):Int):=by
 have:=u8_and_nat z 1 h (by decide);rw [show z &&& 1=z % 2 from Nat.and_one_is_mod z] at this;exact this
set_option maxHeartbeats 32000000 in
theorem mixed_law (c:CH) (eV vV sV tV v0 v1:Value) (sp:List SP) (tp:List TP) (ps qs:List Nat) (mask:Nat) (hmask:mask < 256) (w:World) (h:ChIn9 w c eV vV sV tV sp tp) (hE:Env w) (hec:∀ A n k,eV=.slice A n k->n<=k) (hv0:PsIn w v0 qs) (hv1:PsIn w v1 ps) :
 Calls Tryz.prog 8 #[.agg #[bstr c.nm,eV,vV,sV,tV],.agg #[v0,v1],.int .u8 mask] w fun e w'=>e=.returned (.bool true)/\Below w.heap.size w w':=by
 obtain ⟨M,A1,A2,A3,A4,k1,k2,k3,k4,wb,hM,rfl,rfl,rfl,rfl,hwb,hb1,hbz,d0,d1,d2,d3,d4⟩:=box_ch h.m;have hrt:=fun W (hW:Below w.heap.size w W)=>refRight10_any (h.m.below hW) h.sb h.gn
 have hwk:∀ W,Below w.heap.size w W->Calls Tryz.prog 9 #[] W fun e w'=>e=.returned (.bool true)/\Below W.heap.size W w':=fun W hW=>wakes10_any W (hE.below hW)
 have hso:checkE c=0->∀ W u (qs:List Nat),Below w.heap.size w W->PsIn W u qs->Calls Tryz.prog 19 #[chA c (.slice A1 c.es.length k1) (.slice A2 c.vs.length k2) (.slice A3 sp.length k3) (.slice A4 tp.length k4),u] W fun e w'=>(∃ v,e=.returned v/\Tr.RdZ w' v (Tr.toI (Tr.someL (dC c.ss) (kC c.ss) c.ss.length qs)))/\Below W.heap.size W w':=fun h0 W u qs hW hu=>by
  refine (refSome_any (h.m.below hW) (check_zero.1 h0).tree hu).mono ?_;rintro e w' ⟨⟨v,rfl,hv⟩,hb⟩;exact ⟨⟨v,rfl,Tr.rdZ_own hv⟩,hb⟩
 have hsl:∀ qs:List Nat,(Tr.toI (Tr.someL (dC c.ss) (kC c.ss) c.ss.length qs)).length<=c.ss.length:=fun qs=>by
  rw [Tr.toI_len];have:=List.length_filter_le (Tr.onB (Tr.someF (dC c.ss) (kC c.ss) c.ss.length qs c.ss.length).1) (List.range c.ss.length);rw [List.length_range] at this;exact this
 have hlg:checkE c=0->∀ W u,Below w.heap.size w W->Tr.RdZ W u (Tr.toI (mixL (dC c.ss) (kC c.ss) c.ss.length mask ps qs c.ss.length))->Calls Tryz.prog 14 #[chA c (.slice A1 c.es.length k1) (.slice A2 c.vs.length k2) (.slice A3 sp.length k3) (.slice A4 tp.length k4),u] W fun e w'=>e=.returned (.bool true)/\Below W.heap.size W w':=fun h0 W u hW hu=>by
  have hT:treeP c:=(check_zero.1 h0).tree;have h4:=hT.le;have hml:=mixL_len (dC c.ss) (kC c.ss) c.ss.length mask ps qs c.ss.length;have g:=legal_any (h.m.below hW) hec h.sb hu (by rw [Tr.toI_len];omega);unfold legalC at g;rw [decide_eq_true h0,show mixL (dC c.ss) (kC c.ss) c.ss.length mask ps qs c.ss.length=_ from rfl] at g;unfold mixL mixB at g;rw [Tr.mixed_legalB hT ps qs (bitM (dC c.ss) mask)] at g;exact g
 have hrg:checkE c=0->∀ (i:Nat) W,Below w.heap.size w W->i < c.ss.length->Calls Tryz.prog 28 #[.slice A3 sp.length k3,.int .i64 i] W fun e w'=>e=.returned (.int .i64 (Tr.rootF (dC c.ss) i))/\∃ q,w'=W.drewN q:=fun h0 i W hW hy=>by
  have hT:treeP c:=(check_zero.1 h0).tree;have hm:=h.m.below hW;have:=Tr.refRegion_any (.slice A3 sp.length k3) (sp.map toT) i W hm.rdT (by rw [List.length_map,hm.sLen];exact hy) (by rw [dp_toT hm,kp_toT hm,List.length_map,hm.sLen];exact hT)
  rwa [dp_toT hm] at this
 have hrl:checkE c=0->∀ i:Nat,i < c.ss.length->Tr.rootF (dC c.ss) i<=i:=fun h0 i hi=>((check_zero.1 h0).tree.nst.root_spec hi).1
 have hst:=fun h0=>ch_states h.m h0
 have hpos:checkE c=0->0 < c.ss.length:=fun h0=>(check_zero.1 h0).tree.pos
 have hssl:=h.m.sLen;have hn4:checkE c=0->c.ss.length<=40:=fun h0=>(check_zero.1 h0).tree.le
 obtain ⟨Au,cu,rfl⟩:=hv0.inn.form;obtain ⟨Av,cv,rfl⟩:=hv1.inn.form;unfold chA at hrt hso hlg;rw [hM] at hrt hso hlg ⊢;have HSS:=Lib.hid hssl;have HRT:=Lib.hid hrt;have HWK:=Lib.hid hwk;have HSO0:=Lib.hid hso;have HLG0:=Lib.hid hlg;have HRG0:=Lib.hid hrg;have HRL0:=Lib.hid hrl;have HST:=Lib.hid hst;have HN4:=Lib.hid hn4;have HPOS:=Lib.hid hpos;have HSLL:=Lib.hid hsl;have HV0:=Lib.hid hv0;have HV1:=Lib.hid hv1;have HW:=Lib.hid hwb;have HB:=Lib.hid hb1;obtain ⟨w0,hw0⟩:∃ W,W=wb.alloc (.cells #[.slice Au qs.length cu,.slice Av ps.length cv] 46):=⟨_,rfl⟩
 have hb0:Below wb.heap.size wb w0:=by rw [hw0];exact (Below.refl _ _).alloc (Nat.le_refl _) _
 have e0:w0.cell? ⟨wb.heap.size,0,none⟩=some (.slice Au qs.length cu):=by rw [hw0];simp
 have e1:w0.cell? ⟨wb.heap.size,1,none⟩=some (.slice Av ps.length cv):=by rw [hw0];simp
 obtain ⟨D2,hD2⟩:∃ D,D=wb.heap.size:=⟨_,rfl⟩
 have HD3:Hid (w.heap.size+1=D2):=by show _=_;rw [hD2,hbz]
 rw [<- hD2] at e0 e1;have HD:=Lib.hid (fun W (hW:Below wb.heap.size wb W)=>cells_later d0 d1 d2 d3 d4 W hW);have HW0:=Lib.hid hw0;have HB0:=Lib.hid hb0;have HD2:=Lib.hid hD2;have HE2:=Lib.hid (fun W (hW:Below w0.heap.size w0 W)=>(⟨(hW.cell (cell_lt e0)).trans e0,(hW.cell (cell_lt e1)).trans e1⟩:_/\_));clear hbz h hE hec hM hrt hwk hso hlg hrg hrl hst hpos hv0 hv1 hwb hb1 hssl hn4 hsl hw0 hb0 hD2 e0 e1 d0 d1 d2 d3 d4;generalize c.es.length=n1 at *;generalize c.vs.length=n2 at *;generalize sp.length=n3 at *;generalize tp.length=n4 at *;generalize ps.length=vl at *;generalize qs.length=ul at *
 go_enter Tryz.func8,Tryz.ntmps8
 go_upto_region 1 with fail
 rw [<- HW.out,<- HW0.out,HD3.out];have HC0:=Lib.hid (HB.out.trans (HB0.out.mono HB.out.size))
 go_wp2_with fail
 refine (HWK.out w0 HC0.out).mono ?_;rintro e w2 ⟨rfl,hb2⟩;have HB2:=Lib.hid hb2;have HC2:=Lib.hid (HC0.out.trans (hb2.mono HC0.out.size));clear hb2;obtain ⟨d0,d1,d2,d3,d4⟩:=HD.out w2 (HB0.out.trans (HB2.out.mono HB0.out.size))
 go_wp2_with fail
 refine (HRT.out w2 HC2.out).mono ?_;rintro e w4 ⟨rfl,hb4⟩;have HB4:=Lib.hid (HB2.out.trans (hb4.mono HB2.out.size));have HC:=Lib.hid (HC2.out.trans (hb4.mono HC2.out.size));clear hb4 d0 d1 d2 d3 d4;by_cases h0:checkE c=0
 ·rw [decide_eq_true h0];have HSO1:=Lib.hid (HSO0.out h0);have HLG:=Lib.hid (HLG0.out h0);have HRG:=Lib.hid (HRG0.out h0);have HRL:=Lib.hid (HRL0.out h0);have hn40:=HN4.out h0;obtain ⟨b,o,X,Y,a4,a5,m4,q4,m5,q5,e3,hbw,hXY,hcs⟩:=HST.out (HPOS.out h0);subst e3;have HCS:=Lib.hid hcs;clear h0 HSO0 HLG0 HRG0 HRL0 HST HN4 HPOS hXY hcs hbw HRT HWK;obtain ⟨i0,hi0,hz0,hz1,hz2⟩:=info_parts Tr.Tryz.infoInt;have HII:=Lib.hid hi0;have HZ0:=Lib.hid hz0;have HZ1:=Lib.hid hz1;have HZ2:=Lib.hid hz2;clear hi0 hz0 hz1 hz2;have hn3:n3<=40:=by rw [HSS.out];exact hn40
  obtain ⟨d0,d1,d2,d3,d4⟩:=HD.out w4 (HB0.out.trans (HB4.out.mono HB0.out.size));obtain ⟨dL,hdL⟩:∃ f,f=mixL (dC c.ss) (kC c.ss) c.ss.length mask ps qs:=⟨_,rfl⟩
  have HDL:=Lib.hid hdL;clear hn40 hdL;go_wp2
  go_loopw [7,20] (fun x7 x20 wr=>∃ i:Nat,i<=n3/\x20=.int .i64 i/\Hid (wr.ownsRow w4.heap.size 3 1 x7 (dL i).length (Tr.kvN (dL i))/\Below w4.heap.size w4 wr)) (fun _ x _=>n3 - (intOf x).toNat)
  case atStart=>exact ⟨0,by omega,rfl,Lib.hid ⟨by rw [HDL.out];exact World.ownsRow_nil _ _ _ _,Below.refl _ _⟩⟩
  case round =>
   obtain ⟨i,hi,rfl,HH⟩:=hrel;obtain ⟨wk,hwk⟩:∃ W,W=wr:=⟨_,rfl⟩
   subst hwk;obtain ⟨hown,hbw⟩:=HH.out;obtain ⟨A9,c9,rfl⟩:=own_slice hown;have HBW:=Lib.hid hbw;have HO:=Lib.hid hown;have HCK:=Lib.hid (HC.out.trans (hbw.mono HC.out.size));have HBK:=Lib.hid (HB4.out.trans (hbw.mono HB4.out.size));have hszb:=hbw.size;have hfl:(dL i).length<=i:=by rw [HDL.out];exact mixL_len _ _ _ _ _ _ _
   clear d0 d1 d2 d3 d4 hown hbw HH;obtain ⟨d0,d1,d2,d3,d4⟩:=HD.out wk (HB0.out.trans (HBK.out.mono HB0.out.size));by_cases hin:i < n3
   ·have hinc:i < c.ss.length:=by rw [<- HSS.out];exact hin
    have HRI:=Lib.hid (HRG.out i wk HCK.out hinc);have hrle:=HRL.out i hinc;have hstep:dL (i+1)=dL i++(if mixB (dC c.ss) (kC c.ss) c.ss.length mask ps qs i=true then [i] else []):=by rw [HDL.out];exact mixL_succ _ _ _ _ _ _ _
    have HSTP:=Lib.hid hstep;obtain ⟨r,hr⟩:∃ r,r=Tr.rootF (dC c.ss) i:=⟨_,rfl⟩
    rw [<- hr] at HRI hrle;have HR:=Lib.hid hr;clear hstep hr hinc d0 d1 d2 d4
    go_wp2_with fail
    refine HRI.out.mono ?_;rintro e w6 ⟨rfl,q6,rfl⟩;clear HRI;go_wp2
    go_loopw [10,28] (fun x10 x28 wr2=>∃ k:Nat,k<=r/\x28=.int .i64 k/\x10=.int .i64 (cnt0 (dC c.ss) k:Nat)/\wr2=wk.drewN q6) (fun _ x _=>r - (intOf x).toNat)
    case atStart=>exact ⟨0,by omega,rfl,rfl,rfl⟩
    case round =>
     obtain ⟨k,hk,rfl,rfl,rfl⟩:=hrel;by_cases hkr:k < r
     ·have hsu:=cnt0_succ (dC c.ss) k;have hle:=cnt0_le (dC c.ss) k;obtain ⟨r0,r1,r2,r3,r4,r5⟩:=HCS.out wk HCK.out k (by rw [<- HSS.out];omega);have HSU:=Lib.hid hsu;clear r0 r1 r3 r4 r5 hsu;have hkn:k < n3:=by omega
      have hkni:(k:Int) < (n3:Int):=by omega
      generalize dC c.ss k=dk at *
      by_cases hd:dk=0
      ·subst hd;rw [if_pos rfl] at HSU;go_wp2
       go_roundw
       case rel=>exact ⟨k+1,by omega,by go_num,by rw [HSU.out];go_num,by first | rfl | trivial⟩
       case measure=>simp [intOf] <;> omega
      ·have hde:(dk==0)=false:=beq_eq_false_iff_ne.2 hd;rw [if_neg hd] at HSU;clear hd;go_wp2
       go_roundw
       case rel=>exact ⟨k+1,by omega,by go_num,by rw [HSU.out];rfl,by first | rfl | trivial⟩
       case measure=>simp [intOf] <;> omega
     ·obtain rfl:k=r:=by omega
      obtain ⟨wl,hwl⟩:∃ W,W=wk.drewN q6:=⟨_,rfl⟩
      rw [<- hwl];have hll:Below wk.heap.size wk wl:=by rw [hwl];exact below_drewN (Below.refl _ _) q6
      have HLL:=Lib.hid hll;have HCL:=Lib.hid (HCK.out.trans (hll.mono HCK.out.size));have HBL:=Lib.hid (HBK.out.trans (hll.mono HBK.out.size));clear hwl hll d3;obtain ⟨d0,d1,d2,d3,d4⟩:=HD.out wl (HB0.out.trans (HBL.out.mono HB0.out.size));obtain ⟨hs0,hs1⟩:=HE2.out wl HBL.out;obtain ⟨cn,hcn⟩:∃ x,x=cnt0 (dC c.ss) k:=⟨_,rfl⟩
      have hcnl:cn<=40:=by rw [hcn];have:=cnt0_le (dC c.ss) k;omega
      obtain ⟨q8,hq8⟩:∃ x,x=cn % 8:=⟨_,rfl⟩
      have hq88:q8 < 8:=by rw [hq8];exact Nat.mod_lt _ (by decide)
      obtain ⟨z8,hz8⟩:∃ x,x=mask / 2 ^ q8:=⟨_,rfl⟩
      have hz88:z8 < 256:=by rw [hz8];exact Nat.lt_of_le_of_lt (Nat.div_le_self _ _) hmask
      obtain ⟨b8,hb8⟩:∃ x,x=z8 % 2:=⟨_,rfl⟩
      have hb88:b8 < 2:=by rw [hb8];exact Nat.mod_lt _ (by decide)
      have HQ8:Hid ((cn:Int).tmod 8=(q8:Int)):=by show _=_;rw [hq8,Int.tmod_eq_emod_of_nonneg (by omega)];rfl
      have HZ8:Hid ((mask:Int) / 2 ^ q8=(z8:Int)):=by show _=_;rw [hz8];push_cast;rfl
      have HB8:Hid (bits .and .u8 (z8:Int) 1=(b8:Int)):=by show _=_;rw [hb8];exact and_one z8 hz88
      have HB8W:Hid (IntKind.i64.wrap (b8:Int)=(b8:Int)):=IntWalk.i64_in _ (by omega);have hbit:bitM (dC c.ss) mask k=decide (b8=1):=by unfold bitM;rw [<- hcn,<- hq8,<- hz8,<- hb8]
      have hmix:mixB (dC c.ss) (kC c.ss) c.ss.length mask ps qs i=if b8=1 then decide (i ∈ Tr.someL (dC c.ss) (kC c.ss) c.ss.length ps) else decide (i ∈ Tr.someL (dC c.ss) (kC c.ss) c.ss.length qs):=by
       unfold mixB;rw [<- HR.out,hbit];by_cases e:b8=1 <;> simp [e]
      obtain ⟨SL,TS,hsl,hpt,hmx⟩:∃ (SL:Value) (TS:List Nat),wl.cell? ⟨D2,b8,none⟩=some SL/\PsIn wl SL TS/\mixB (dC c.ss) (kC c.ss) c.ss.length mask ps qs i=decide (i ∈ Tr.someL (dC c.ss) (kC c.ss) c.ss.length TS):=by
       rcases (show b8=0\/b8=1 by omega) with e | e
       ·exact ⟨_,qs,by rw [e];exact hs0,HV0.out.below HCL.out,by rw [hmix,if_neg (by omega)]⟩
       ·exact ⟨_,ps,by rw [e];exact hs1,HV1.out.below HCL.out,by rw [hmix,if_pos e]⟩
      have hmem:decide ((i:Int) ∈ Tr.toI (Tr.someL (dC c.ss) (kC c.ss) c.ss.length TS))=mixB (dC c.ss) (kC c.ss) c.ss.length mask ps qs i:=by
       rw [hmx,decide_eq_decide];unfold Tr.toI;rw [List.mem_map];constructor
       ·rintro ⟨x,hx,e⟩;have:x=i:=by omega
        rw [<- this];exact hx
       ·exact fun hx=>⟨i,hx,rfl⟩
      have hslen:=HSLL.out TS;obtain ⟨MB,hMB⟩:∃ x,mixB (dC c.ss) (kC c.ss) c.ss.length mask ps qs i=x:=⟨_,rfl⟩
      rw [hMB] at hmem HSTP;rw [<- hcn];have HSOB:=HSO1.out;obtain ⟨SB,hSB⟩:∃ x,x=Tr.toI (Tr.someL (dC c.ss) (kC c.ss) c.ss.length TS):=⟨_,rfl⟩
      have HSO:Hid (∀ W,Below wl.drew.heap.size wl.drew W->Calls Tryz.prog 19 #[.agg #[.string M,.slice A1 n1 k1,.slice A2 n2 k2,.slice (some ⟨b,o,none⟩) n3 k3,.slice A4 n4 k4],SL] W fun e w'=>(∃ v,e=.returned v/\Tr.RdZ w' v SB)/\Below W.heap.size W w'):=fun W hW=>by
       have hlW:Below wl.heap.size wl W:=((Below.refl _ _).drew).trans hW;rw [hSB];exact HSOB W SL TS (HCL.out.trans (hlW.mono HCL.out.size)) (hpt.below hlW)
      have HIN:Hid (∀ W u,Tr.RdZ W u SB->Calls Tryz.prog 29 #[u,.int .i64 (i:Nat)] W fun e w'=>e=.returned (.bool MB)/\W=w'):=fun W u hu=>by
       have g:=Tr.refInZ_any u SB i W hu (by rw [hSB];have h1:=hslen;have h2:=HSS.out;omega);rw [hSB,hmem] at g;exact g
      clear hcn hq8 hz8 hb8 hbit hmix hpt hmx hmem hslen hMB hSB HSOB hs0 hs1;have hmask2:(mask:Int)<=255:=by omega
      go_upto_region 17 with fail
      refine Oy.region_quiet 60 [Oy.eqD (.agg #[.string M,.slice A1 n1 k1,.slice A2 n2 k2,.slice (some ⟨b,o,none⟩) n3 k3,.slice A4 n4 k4]),Oy.eqD (.int .u8 (mask:Nat)),Oy.eqD (.int .i64 (cn:Nat)),Oy.eqD (.int .i64 (q8:Nat)),Oy.eqD (.int .u8 (z8:Nat)),Oy.eqD (.int .u8 (b8:Nat)),Oy.eqD (.pointer (some ⟨D2,b8,none⟩)),Oy.eqD (SL),fun (_:List Value) v W=>RzR SB v W,Oy.eqD (.int .i64 (i:Nat)),Oy.eqD (.bool MB)] [[],[],[],[],[],[],[],[],[],[],[]] (by kernel_rfl) rfl (by kernel_rfl) (by kernel_rfl) ⟨Oy.keeps_eq _,Oy.keeps_eq _,Oy.keeps_eq _,Oy.keeps_eq _,Oy.keeps_eq _,Oy.keeps_eq _,Oy.keeps_eq _,Oy.keeps_eq _,RzR.keeps SB,Oy.keeps_eq _,Oy.keeps_eq _,trivial⟩ ?_;refine Oy.walk_q ?_ fun x41=>?_
      ·intro w1 hb hd K hK;clear hd;have c_d0:=(hb.cell (cell_lt d0)).trans d0;have c_d1:=(hb.cell (cell_lt d1)).trans d1;have c_d2:=(hb.cell (cell_lt d2)).trans d2;have c_d3:=(hb.cell (cell_lt d3)).trans d3;have c_d4:=(hb.cell (cell_lt d4)).trans d4;go_simp;exact hK _ _ (Below.refl _ _) rfl
      refine Oy.walk_q ?_ fun x42=>?_
      ·intro w1 hb hd K hK;clear hd;go_simp;exact hK _ _ (Below.refl _ _) rfl
      refine Oy.walk_q ?_ fun x43=>?_
      ·intro w1 hb hd K hK;clear hd;go_simp;exact hK _ _ (Below.refl _ _) rfl
      refine Oy.walk_q ?_ fun x44=>?_
      ·intro w1 hb hd K hK;obtain rfl:_=x43:=Eq.symm (hd 2 (by kernel_rfl));clear hd;go_simp;exact hK _ _ (Below.refl _ _) (congrArg (Value.int .i64) HQ8.out)
      refine Oy.walk_q ?_ fun x45=>?_
      ·intro w1 hb hd K hK;obtain rfl:_=x42:=Eq.symm (hd 1 (by kernel_rfl));obtain rfl:_=x44:=Eq.symm (hd 3 (by kernel_rfl));clear hd;go_simp;exact hK _ _ (Below.refl _ _) (congrArg (Value.int .u8) HZ8.out)
      refine Oy.walk_q ?_ fun x46=>?_
      ·intro w1 hb hd K hK;obtain rfl:_=x45:=Eq.symm (hd 4 (by kernel_rfl));clear hd;go_simp;exact hK _ _ (Below.refl _ _) (congrArg (Value.int .u8) HB8.out)
      refine Oy.walk_q ?_ fun x47=>?_
      ·intro w1 hb hd K hK;obtain rfl:_=x46:=Eq.symm (hd 5 (by kernel_rfl));have x1:b8 < 2:=by omega
       have x2:(b8:Int) < 2:=by omega
       have x3:=HB8W.out;clear hd;go_simp;exact hK _ _ (Below.refl _ _) rfl
      refine Oy.walk_q ?_ fun x48=>?_
      ·intro w1 hb hd K hK;obtain rfl:_=x47:=Eq.symm (hd 6 (by kernel_rfl));clear hd;have c_hsl:=(hb.cell (cell_lt hsl)).trans hsl;go_simp;exact hK _ _ (Below.refl _ _) rfl
      refine Oy.walk_q ?_ fun x49=>?_
      ·intro w1 hb hd K hK;obtain rfl:_=x41:=Eq.symm (hd 0 (by kernel_rfl));obtain rfl:_=x48:=Eq.symm (hd 7 (by kernel_rfl));clear hd;go_simp;refine (HSO.out w1 hb).mono ?_;rintro e w5 ⟨⟨v,rfl,hv⟩,hb5⟩;go_simp;exact hK _ _ hb5 hv
      refine Oy.walk_q ?_ fun x50=>?_
      ·intro w1 hb hd K hK;clear hd;go_simp;exact hK _ _ (Below.refl _ _) rfl
      refine Oy.walk_q ?_ fun x51=>?_
      ·intro w1 hb hd K hK;have h49:(fun (_:List Value) v W=>RzR SB v W) [] x49 w1:=hd 8 (by kernel_rfl);obtain rfl:_=x50:=Eq.symm (hd 9 (by kernel_rfl));have g49:RzR SB x49 w1:=hd 8 (by kernel_rfl);clear hd;go_simp;refine (HIN.out w1 _ g49).mono ?_;rintro e w5 ⟨rfl,rfl⟩;go_simp;exact hK _ _ (Below.refl _ _) rfl
      refine Oy.walk_nil rfl (fun w1 hb hd=>?_);obtain rfl:_=x41:=Eq.symm (hd 0 (by kernel_rfl));obtain rfl:_=x42:=Eq.symm (hd 1 (by kernel_rfl));obtain rfl:_=x43:=Eq.symm (hd 2 (by kernel_rfl));obtain rfl:_=x44:=Eq.symm (hd 3 (by kernel_rfl));obtain rfl:_=x45:=Eq.symm (hd 4 (by kernel_rfl));obtain rfl:_=x46:=Eq.symm (hd 5 (by kernel_rfl));obtain rfl:_=x47:=Eq.symm (hd 6 (by kernel_rfl));obtain rfl:_=x48:=Eq.symm (hd 7 (by kernel_rfl));have h49:(fun (_:List Value) v W=>RzR SB v W) [] x49 w1:=hd 8 (by kernel_rfl);obtain rfl:_=x50:=Eq.symm (hd 9 (by kernel_rfl));obtain rfl:_=x51:=Eq.symm (hd 10 (by kernel_rfl));clear hd;have HBZ:Hid (Below wl.heap.size wl w1):=((Below.refl _ _).drew).trans hb;clear hb;go_simp;obtain ⟨wn,hwn⟩:∃ W,W=w1:=⟨_,rfl⟩
      subst hwn;have HBN:=Lib.hid (HBW.out.trans ((HLL.out.trans (HBZ.out.mono HLL.out.size)).mono HBW.out.size));have HON:=Lib.hid (own_later10 HO.out (HLL.out.trans (HBZ.out.mono HLL.out.size)));have hsn:=HBN.out.size;clear d0 d1 d2 d3 d4 hsl HIN HSO h49;cases MB with
      | true =>
       rw [if_pos rfl] at HSTP
       go_wp2_with (at_builtin;refine wpList_append_own _ rfl _ _ 29 rfl w4.heap.size 3 i0 _ 1 8 Tryz.underlying29 HII.out HZ0.out HZ1.out HZ2.out rfl (by decide) _ (dL i).length (Tr.kvN (dL i)) rfl (HON.out.alloc _) ⟨wn.heap.size,0,none⟩ 1 1 [.int .i64 i] rfl rfl (one_str10 wn _ _) (by intro u hu;simp at hu;subst hu;rfl) (by unfold maxLen;omega) (by omega) (by simp;omega) ?_)
       intro v' w8 hown' hgrow _;have HH5:Hid (w8.ownsRow w4.heap.size 3 1 v' (dL (i+1)).length (Tr.kvN (dL (i+1)))/\Below w4.heap.size w4 w8):=by
        refine ⟨by rw [HSTP.out,List.length_append];simpa [Tr.kvN] using hown',?_⟩;have hx:=HBN.out.size;have hl:Below w4.heap.size w4 (wn.alloc (.cells #[.int .i64 (i:Int)] 3)):=HBN.out.alloc hx _;exact hl.grown hgrow hl.size (fun j hj=>(HON.out.lt j hj).1)
       clear hown' hgrow;go_wp2
       go_roundw
       case rel=>exact ⟨i+1,by omega,by go_num,HH5⟩
       case measure=>simp [intOf] <;> omega
      | false =>
       rw [if_neg (by simp),List.append_nil] at HSTP;go_wp2
       go_roundw
       case rel=>exact ⟨i+1,by omega,by go_num,Lib.hid ⟨by rw [HSTP.out];exact HON.out,HBN.out⟩⟩
       case measure=>simp [intOf] <;> omega
   ·obtain rfl:i=n3:=by omega
    have hrz:=Tr.rdZ_own HO.out;have he:dL i=mixL (dC c.ss) (kC c.ss) c.ss.length mask ps qs c.ss.length:=by rw [HDL.out,HSS.out]
    have HQ:=Lib.hid (HLG.out wk (.slice A9 (dL i).length c9) HCK.out (by rw [<- he];exact hrz));clear hrz he
    go_wp2_with fail
    refine HQ.out.mono ?_;rintro e w8 ⟨rfl,hb8⟩;have HB8:=Lib.hid (HCK.out.trans (hb8.mono HCK.out.size));clear hb8 HQ;go_wp2;go_ret;exact ⟨rfl,HB8.out⟩
 ·rw [decide_eq_false h0];clear h0 HSO0 HLG0 HRG0 HRL0 HST HN4 HPOS;go_wp2;go_ret;exact ⟨rfl,HC.out⟩
end Go.Proofs.YtcnfcililiehlaaGreatDoor.Ch.Vd
namespace Go.Proofs.YtcnfcililiehlaaGreatDoor.Ch.Vd
open Go.RowKit Go.ChangeShapes Go.WideShapes Go.ChangeAt
theorem cellsPair10:Tryz.prog.cellsOf 46=2:=by kernel_rfl
theorem cellsSl10:Tryz.prog.cellsOf 37=1:=by kernel_rfl
theorem okWide_array10 {P:Program} {w:World} {r:Reach} {base:Nat} {t e:TypeId} {n:Nat} {v:Value} (ht:P.underlying t=some (.array n e)) (h:Value.okWide P w r base t v):∃ cs,v=.agg cs/\cs.size=P.cellsOf t:=by
 simp only [Value.okWide,ht] at h;obtain ⟨cs,h1,h2,_⟩:=h;exact ⟨cs,h1,h2⟩
set_option maxRecDepth 100000 in
theorem mixed_lawI (c:CH) (eV vV sV tV v0 v1:Value) (sp:List SP) (tp:List TP) (qs ps:List Nat) (mask:Int) (h0:0<=mask) (h1:mask<=255) (w:World) (h:ChIn9 w c eV vV sV tV sp tp) (hE:Env w) (hec:∀ A n k,eV=.slice A n k->n<=k) (hv0:PsIn w v0 qs) (hv1:PsIn w v1 ps) :
 Calls Tryz.prog 8 #[.agg #[bstr c.nm,eV,vV,sV,tV],.agg #[v0,v1],.int .u8 mask] w fun e w'=>e=.returned (.bool true)/\Below w.heap.size w w':=by
 obtain ⟨m,rfl⟩:=Int.eq_ofNat_of_zero_le h0;exact mixed_law c eV vV sV tV v0 v1 sp tp ps qs m (by omega) w h hE hec hv0 hv1
set_option maxRecDepth 100000 in
theorem open_pair10 {H:Type} {enc:TypeId × Value->H} {W:World} {v:Value} {d:DataW H} {ps:List MemPlace} {r:Reach} {b0:Nat} (hval:Value.okWide Tryz.prog W r b0 46 v)
 (h:DataW.Trod enc Tryz.prog W 0 (fun _=>true) true 46 v d ps) {ts:List TypeId} {ds:List (DataW H)} (hsz:(DataW.weightsEach Tryz.prog ts ds).all (·<=reachBytes)=true) {j:Nat} (ht:ts[j]?=some 46) (hd:ds[j]?=some d) :
 ∃ (a b:Value) (la lb:List Nat),v=.agg #[a,b]/\PsIn W a la/\PsIn W b lb:=by
 have hw:=weigh10 hsz ht hd;obtain ⟨cs,rfl,hcs⟩:=okWide_array10 Tryz.underlying46 hval;obtain ⟨fuel,hf⟩:=h;obtain ⟨xs,n,_,hx,_,hxl,hfl⟩:=DataW.trod_array Tryz.underlying46 hf;obtain ⟨a,b,rfl⟩:∃ a b,cs=#[a,b]:=by
  obtain ⟨l⟩:=cs
  match l,hcs.trans cellsPair10 with
  | [a,b],_=>exact ⟨a,b,rfl⟩
 have e0:=hfl 0 (by decide);have e1:=hfl 1 (by decide);rw [cellsSl10] at e0 e1
 match xs,hxl with
 | [y0,y1],_ =>
  have hd2:d=.agg [y0.1,y1.1]:=congrArg Prod.fst hx;rw [hd2] at hw;simp only [DataW.weights,Tryz.underlying46,DataW.weightsAll,List.append_nil,List.mem_append] at hw;have e0':DataW.trod enc Tryz.prog W 0 (fun _=>true) true n 37 [a]=some y0:=e0;have e1':DataW.trod enc Tryz.prog W 0 (fun _=>true) true n 37 [b]=some y1:=e1;obtain ⟨la,h1⟩:=u8s10 e0' (fun x hx=>hw x (Or.inl hx));obtain ⟨lb,h2⟩:=u8s10 e1' (fun x hx=>hw x (Or.inr hx));exact ⟨a,b,la,lb,rfl,h1,h2⟩
end Go.Proofs.YtcnfcililiehlaaGreatDoor.Ch.Vd
