import Derived.Test.YtcnfcililiehlaaGreatDoorR1
import Derived.Test.YtcnfcililiehlaaGreatDoorR2
import Derived.Test.YtcnfcililiehlaaGreatDoorR3
import Derived.Test.YtcnfcililiehlaaGreatDoorR4
import Derived.Test.YtcnfcililiehlaaGreatDoorR5
import Derived.Test.YtcnfcililiehlaaGreatDoorR6
import Derived.Test.YtcnfcililiehlaaGreatDoorR7
import Derived.Test.YtcnfcililiehlaaGreatDoorR8
import Derived.Test.YtcnfcililiehlaaGreatDoorR9
import Derived.Test.YtcnfcililiehlaaGreatDoorR10
import Derived.Test.YtcnfcililiehlaaGreatDoorR11
import Derived.Test.YtcnfcililiehlaaGreatDoorR12
import Derived.Test.YtcnfcililiehlaaGreatDoorR13
import Derived.Test.YtcnfcililiehlaaGreatDoorR14
import Derived.Test.YtcnfcililiehlaaGreatDoorR15
import Derived.Test.YtcnfcililiehlaaGreatDoorR16
import Derived.Test.YtcnfcililiehlaaGreatDoorR17
import Derived.Test.YtcnfcililiehlaaGreatDoorR18
import Derived.Test.YtcnfcililiehlaaGreatDoorR19
import Derived.Test.YtcnfcililiehlaaGreatDoorR20
import Derived.Test.YtcnfcililiehlaaGreatDoorR21
import Derived.Test.YtcnfcililiehlaaGreatDoorR22
import Derived.Test.YtcnfcililiehlaaGreatDoorR23
import Derived.Test.YtcnfcililiehlaaGreatDoorR24
import Derived.Test.YtcnfcililiehlaaGreatDoorR25
import Derived.Test.YtcnfcililiehlaaGreatDoorR26
import Derived.Test.YtcnfcililiehlaaGreatDoorR27
import Derived.Test.YtcnfcililiehlaaGreatDoorR28
import Derived.Test.YtcnfcililiehlaaGreatDoorR29
import Derived.Test.YtcnfcililiehlaaGreatDoorR30
import Derived.Test.YtcnfcililiehlaaGreatDoorR31
import Derived.Test.YtcnfcililiehlaaGreatDoorR32
import Derived.Test.YtcnfcililiehlaaGreatDoorR33
import Derived.Test.YtcnfcililiehlaaGreatDoorR34
import Derived.Test.YtcnfcililiehlaaGreatDoorR35
import Derived.Test.YtcnfcililiehlaaGreatDoorR36
import Derived.Test.YtcnfcililiehlaaGreatDoorQP1
import Derived.Test.YtcnfcililiehlaaGreatDoorQP2
import Derived.Test.YtcnfcililiehlaaGreatDoorQP3
import Derived.Test.YtcnfcililiehlaaGreatDoorQP4
import Derived.Test.YtcnfcililiehlaaGreatDoorQP5
import Derived.Test.YtcnfcililiehlaaGreatDoorQP6
import Derived.Test.YtcnfcililiehlaaGreatDoorQP7
import Derived.Test.YtcnfcililiehlaaGreatDoorQP8
namespace Go.Proofs.YtcnfcililiehlaaGreatDoor.Ch.Vd
open Go.RowKit
set_option maxRecDepth 100000
def RnR (l:List (List UInt8)) (v:Value) (W:World):Prop:=RdN W v l
theorem RnR.keeps (l:List (List UInt8)):Oy.KeepsD (fun _ v W=>RnR l v W):=fun _ _ _ _ h hb=>RdN.later h hb
theorem RdN.form {w:World} {v:Value} {l:List (List UInt8)} (h:RdN w v l):∃ A c,v=.slice A l.length c:=by obtain ⟨A,c,e,_⟩:=h;exact ⟨A,c,e⟩
noncomputable def anL (d:Nat->Int) (ls:List Nat) (i k:Nat):Bool:=Tr.aboveB d (ls.take k) i
theorem anL_succ (d:Nat->Int) (ls:List Nat) (i:Nat) {k:Nat} (hk:k < ls.length):anL d ls i (k+1)=(anL d ls i k || (decide (ls[k]=i) || decide (Tr.wi d i ls[k]))):=by
 unfold anL Tr.aboveB;rw [List.take_succ_eq_append_getElem hk,List.any_append];simp
noncomputable def fiL (d:Nat->Int) (ls:List Nat) (i:Nat):List Nat:=(List.range i).filter (Tr.aboveB d ls)
theorem fiL_succ (d:Nat->Int) (ls:List Nat) (i:Nat):fiL d ls (i+1)=fiL d ls i++(if Tr.aboveB d ls i=true then [i] else []):=by
 unfold fiL;rw [List.range_succ,List.filter_append];by_cases h:Tr.aboveB d ls i=true
 ·simp [h]
 ·simp [h]
theorem fiL_len (d:Nat->Int) (ls:List Nat) (i:Nat):(fiL d ls i).length<=i:=by
 have:=List.length_filter_le (Tr.aboveB d ls) (List.range i);rw [List.length_range] at this;exact this
set_option maxHeartbeats 32000000 in
theorem leaves_law (c:CH) (eV vV sV tV u v:Value) (sp:List SP) (tp:List TP) (l:List Int) (ps:List Nat) (w:World) (h:ChIn9 w c eV vV sV tV sp tp) (hE:Env w) (hec:∀ A n k,eV=.slice A n k->n<=k) (hu:Tr.RdZ w u l) (hl:l.length * 8<=140737488355328) (hv:PsIn w v ps) :
 Calls Tryz.prog 6 #[.agg #[bstr c.nm,eV,vV,sV,tV],u,v] w fun e w'=>e=.returned (.bool true)/\Below w.heap.size w w':=by
 obtain ⟨M,A1,A2,A3,A4,k1,k2,k3,k4,wb,hM,rfl,rfl,rfl,rfl,hwb,hb1,hbz,d0,d1,d2,d3,d4⟩:=box_ch h.m;clear hbz;have hrt:=fun W (hW:Below w.heap.size w W)=>refRight10_any (h.m.below hW) h.sb h.gn
 have hwk:∀ W,Below w.heap.size w W->Calls Tryz.prog 9 #[] W fun e w'=>e=.returned (.bool true)/\Below W.heap.size W w':=fun W hW=>wakes10_any W (hE.below hW)
 have hcp:∀ W u,Tr.RdZ W u l->Calls Tryz.prog 15 #[u] W fun e w'=>(∃ v,e=.returned v/\Tr.RdZ w' v l)/\Below W.heap.size W w':=fun W u hu=>copied10_any u l W hu hl
 have hl0:¬ checkE c=0->legalC c l=false:=fun h0=>by unfold legalC;rw [decide_eq_false h0];rfl
 have hv0:legalC c l=false->∀ W u,Below w.heap.size w W->Tr.RdZ W u l->Calls Tryz.prog 20 #[chA c (.slice A1 c.es.length k1) (.slice A2 c.vs.length k2) (.slice A3 sp.length k3) (.slice A4 tp.length k4),u] W fun e w'=>(∃ v,e=.returned v/\Tr.RdZ w' v [])/\Below W.heap.size W w':=fun hg W u hW hu=>by
  refine (leaves_any (h.m.below hW) hec h.sb hu (by omega)).mono ?_;rintro e w' ⟨⟨v,rfl,hv⟩,hb⟩;have e0:leavesO c l=[]:=if_neg (by rw [hg];simp);rw [e0] at hv;exact ⟨⟨v,rfl,Tr.rdZ_own hv⟩,hb⟩
 have hn0:legalC c l=false->∀ W u,Below w.heap.size w W->Tr.RdZ W u l->Calls Tryz.prog 21 #[chA c (.slice A1 c.es.length k1) (.slice A2 c.vs.length k2) (.slice A3 sp.length k3) (.slice A4 tp.length k4),u] W fun e w'=>(∃ v,e=.returned v/\RdN w' v [])/\Below W.heap.size W w':=fun hg W u hW hu=>by
  refine (confNames_any (h.m.below hW) hec h.sb hu (by omega)).mono ?_;rintro e w' ⟨⟨v,rfl,hv⟩,hb⟩;have e0:namesO c l=[]:=if_neg (by rw [hg];simp);rw [e0] at hv;exact ⟨⟨v,rfl,RdN.own (L:=[]) hv⟩,hb⟩
 have hrl:checkE c=0->∀ W u,Below w.heap.size w W->Tr.RdZ W u l->Calls Tryz.prog 16 #[chA c (.slice A1 c.es.length k1) (.slice A2 c.vs.length k2) (.slice A3 sp.length k3) (.slice A4 tp.length k4),u] W fun e w'=>e=.returned (.bool (legalC c l))/\Below W.heap.size W w':=fun h0 W u hW hu=>by
  have g:=refLegal_any (h.m.below hW) (check_zero.1 h0).tree hu (by omega);unfold legalC;rw [decide_eq_true h0,Bool.true_and];exact g
 obtain ⟨SN,hSN⟩:∃ x,Tr.someL (dC c.ss) (kC c.ss) c.ss.length ps=x:=⟨_,rfl⟩
 obtain ⟨S,hS⟩:∃ x,Tr.toI SN=x:=⟨_,rfl⟩
 obtain ⟨LN,hLN⟩:∃ x,lvK c SN SN.length=x:=⟨_,rfl⟩
 obtain ⟨LV,hLV⟩:∃ x,Tr.toI LN=x:=⟨_,rfl⟩
 obtain ⟨NM,hNM⟩:∃ x,SN.map (nmC c.ss)=x:=⟨_,rfl⟩
 have hsn:SN.length<=c.ss.length:=by
  rw [<- hSN];have:=List.length_filter_le (Tr.onB (Tr.someF (dC c.ss) (kC c.ss) c.ss.length ps c.ss.length).1) (List.range c.ss.length);rw [List.length_range] at this;exact this
 have hsx:∀ x ∈ SN,x < c.ss.length:=fun x hx=>by
  rw [<- hSN] at hx;exact List.mem_range.1 (List.mem_filter.1 hx).1
 have hlx:∀ x ∈ LN,x < c.ss.length:=fun x hx=>by
  rw [<- hLN] at hx;exact hsx x (List.mem_of_mem_take (List.mem_filter.1 hx).1)
 have hlnn:LN.length<=c.ss.length:=by rw [<- hLN];exact Nat.le_trans (lvK_len c SN SN.length) hsn
 have hfin:checkE c=0->(List.range c.ss.length).filter (Tr.aboveB (dC c.ss) LN)=SN:=fun h0=>by
  have hT:treeP c:=(check_zero.1 h0).tree;have:=Tr.above_filter hT (Tr.some_leg hT ps);rw [<- hLN,<- hSN];unfold lvK;rw [List.take_length];exact this
 have hlgS:checkE c=0->legalC c S=true:=fun h0=>by
  have hT:treeP c:=(check_zero.1 h0).tree;unfold legalC;rw [decide_eq_true h0,Bool.true_and,<- hS,<- hSN];exact Tr.some_legalB hT ps
 have hso:checkE c=0->∀ W u,Below w.heap.size w W->PsIn W u ps->Calls Tryz.prog 19 #[chA c (.slice A1 c.es.length k1) (.slice A2 c.vs.length k2) (.slice A3 sp.length k3) (.slice A4 tp.length k4),u] W fun e w'=>(∃ v,e=.returned v/\Tr.RdZ w' v S)/\Below W.heap.size W w':=fun h0 W u hW hu=>by
  refine (refSome_any (h.m.below hW) (check_zero.1 h0).tree hu).mono ?_;rintro e w' ⟨⟨v,rfl,hv⟩,hb⟩;rw [<- hS,<- hSN];exact ⟨⟨v,rfl,Tr.rdZ_own hv⟩,hb⟩
 have hle:checkE c=0->S.length<=40:=fun h0=>by
  have:=(check_zero.1 h0).tree.le;rw [<- hS,Tr.toI_len];omega
 have hcs:checkE c=0->∀ W u,Tr.RdZ W u S->Calls Tryz.prog 15 #[u] W fun e w'=>(∃ v,e=.returned v/\Tr.RdZ w' v S)/\Below W.heap.size W w':=fun h0 W u hu=>copied10_any u S W hu (by have:=hle h0;omega)
 have hlv:checkE c=0->∀ W u,Below w.heap.size w W->Tr.RdZ W u S->Calls Tryz.prog 20 #[chA c (.slice A1 c.es.length k1) (.slice A2 c.vs.length k2) (.slice A3 sp.length k3) (.slice A4 tp.length k4),u] W fun e w'=>(∃ v,e=.returned v/\Tr.RdZ w' v LV)/\Below W.heap.size W w':=fun h0 W u hW hu=>by
  refine (leaves_any (h.m.below hW) hec h.sb hu (by have:=hle h0;omega)).mono ?_;rintro e w' ⟨⟨v,rfl,hv⟩,hb⟩;have e0:leavesO c S=LN:=by
   unfold leavesO;rw [if_pos (hlgS h0),<- hS,toI_nat,<- hLN];unfold lvK;rw [List.take_length]
  rw [e0] at hv;rw [<- hLV];exact ⟨⟨v,rfl,Tr.rdZ_own hv⟩,hb⟩
 have hrlv:checkE c=0->∀ W u,Below w.heap.size w W->Tr.RdZ W u S->Calls Tryz.prog 22 #[chA c (.slice A1 c.es.length k1) (.slice A2 c.vs.length k2) (.slice A3 sp.length k3) (.slice A4 tp.length k4),u] W fun e w'=>(∃ v,e=.returned v/\Tr.RdZ w' v LV)/\Below W.heap.size W w':=fun h0 W u hW hu=>by
  have hT:treeP c:=(check_zero.1 h0).tree;have h4:=hT.le;refine (refLeaves_any (h.m.below hW) hT (by rw [hS];exact hu) hsx (by omega)).mono ?_;rintro e w' ⟨⟨v,rfl,hv⟩,hb⟩;rw [hLN] at hv;rw [<- hLV];exact ⟨⟨v,rfl,Tr.rdZ_own hv⟩,hb⟩
 have hnm:checkE c=0->∀ W u,Below w.heap.size w W->Tr.RdZ W u S->Calls Tryz.prog 21 #[chA c (.slice A1 c.es.length k1) (.slice A2 c.vs.length k2) (.slice A3 sp.length k3) (.slice A4 tp.length k4),u] W fun e w'=>(∃ v,e=.returned v/\RdN w' v NM)/\Below W.heap.size W w':=fun h0 W u hW hu=>by
  refine (confNames_any (h.m.below hW) hec h.sb hu (by have:=hle h0;omega)).mono ?_;rintro e w' ⟨⟨v,rfl,hv⟩,hb⟩;have e0:namesO c S=SN:=by
   unfold namesO;rw [if_pos (hlgS h0),<- hS,toI_nat]
  rw [e0] at hv;rw [<- hNM];exact ⟨⟨v,rfl,RdN.own (by unfold nmV at hv;rw [List.map_map];exact hv)⟩,hb⟩
 have hrnm:checkE c=0->∀ W u,Below w.heap.size w W->Tr.RdZ W u S->Calls Tryz.prog 24 #[chA c (.slice A1 c.es.length k1) (.slice A2 c.vs.length k2) (.slice A3 sp.length k3) (.slice A4 tp.length k4),u] W fun e w'=>(∃ v,e=.returned v/\RdN w' v NM)/\Below W.heap.size W w':=fun h0 W u hW hu=>by
  have hT:treeP c:=(check_zero.1 h0).tree;have h4:=hT.le;refine (refNames10_any (h.m.below hW) hT (by rw [hS];exact hu) hsx (by omega)).mono ?_;rintro e w' ⟨⟨v,rfl,hv⟩,hb⟩;rw [<- hNM];exact ⟨⟨v,rfl,RdN.own (by unfold nmV at hv;rw [List.map_map];exact hv)⟩,hb⟩
 have hwi:checkE c=0->∀ (i y:Nat) W,Below w.heap.size w W->y < c.ss.length->Calls Tryz.prog 25 #[.slice A3 sp.length k3,.int .i64 i,.int .i64 y] W fun e w'=>e=.returned (.bool (decide (Tr.wi (dC c.ss) i y)))/\∃ q,w'=W.drewN q:=fun h0 i y W hW hy=>by
  have hT:treeP c:=(check_zero.1 h0).tree;have hm:=h.m.below hW;have:=Tr.refWithin_any (.slice A3 sp.length k3) (sp.map toT) i y W hm.rdT (by rw [List.length_map,hm.sLen];exact hy) (by have:=hT.le;rw [List.length_map,hm.sLen];omega) (by rw [dp_toT hm,List.length_map,hm.sLen];exact hT.nst)
  rwa [dp_toT hm] at this
 have hsz:checkE c=0->∀ W u x,Tr.RdZ W u LV->Tr.RdZ W x LV->Calls Tryz.prog 12 #[u,x] W fun e w'=>e=.returned (.bool true)/\Below W.heap.size W w':=fun h0 W u x hu hx=>by
  have h4:=(check_zero.1 h0).tree.le;have g:=drewn_low (Tr.sameZ_any u x LV LV W hu hx (by rw [<- hLV,Tr.toI_len];omega))
  rwa [decide_eq_true rfl] at g
 have hss:checkE c=0->∀ W u x,Tr.RdZ W u S->Tr.RdZ W x S->Calls Tryz.prog 12 #[u,x] W fun e w'=>e=.returned (.bool true)/\Below W.heap.size W w':=fun h0 W u x hu hx=>by
  have h4:=(check_zero.1 h0).tree.le;have g:=drewn_low (Tr.sameZ_any u x S S W hu hx (by have:=hle h0;omega))
  rwa [decide_eq_true rfl] at g
 have hsnm:checkE c=0->∀ W u x,RdN W u NM->RdN W x NM->Calls Tryz.prog 23 #[u,x] W fun e w'=>e=.returned (.bool true)/\Below W.heap.size W w':=fun h0 W u x hu hx=>by
  have h4:=(check_zero.1 h0).tree.le;have g:=drewn_low (sameN_any u x NM NM W hu hx (by rw [<- hNM,List.length_map];omega))
  rwa [decide_eq_true rfl] at g
 have hssl:=h.m.sLen;have hn4:checkE c=0->c.ss.length<=40:=fun h0=>(check_zero.1 h0).tree.le
 obtain ⟨Au,cu,rfl⟩:=hu.form;obtain ⟨Av,cv,rfl⟩:=hv.inn.form;unfold chA at hrt hv0 hn0 hrl hso hlv hrlv hnm hrnm;rw [hM] at hrt hv0 hn0 hrl hso hlv hrlv hnm hrnm ⊢;have HSS:=Lib.hid hssl;have HRT:=Lib.hid hrt;have HWK:=Lib.hid hwk;have HCP:=Lib.hid hcp;have HLF:=Lib.hid hl0;have HRL0:=Lib.hid hrl;have HSO0:=Lib.hid hso;have HV00:=Lib.hid hv0;have HN00:=Lib.hid hn0;have HCS0:=Lib.hid hcs;have HLV0:=Lib.hid hlv;have HRLV0:=Lib.hid hrlv;have HNM0:=Lib.hid hnm;have HRNM0:=Lib.hid hrnm;have HWI0:=Lib.hid hwi;have HSZ0:=Lib.hid hsz;have HSS0:=Lib.hid hss;have HSN0:=Lib.hid hsnm;have HFIN0:=Lib.hid hfin;have HLX:=Lib.hid hlx;have HN4:=Lib.hid hn4;have HLNN:=Lib.hid hlnn;have HU:=Lib.hid hu;have HV:=Lib.hid hv;have HW:=Lib.hid hwb;have HB:=Lib.hid hb1;have HD:=Lib.hid (cells_later d0 d1 d2 d3 d4);have HSE:=Lib.hid hS;have HLVE:=Lib.hid hLV;clear h hE hec hM hrt hwk hcp hl0 hrl hso hv0 hn0 hcs hlv hrlv hnm hrnm hwi hsz hss hsnm hfin hu hv hwb hb1 hSN hS hLN hLV hNM hsn hsx hlx hlgS hle hssl hn4 hlnn;generalize c.es.length=n1 at *;generalize c.vs.length=n2 at *;generalize sp.length=n3 at *;generalize tp.length=n4 at *;generalize l.length=ul at *;generalize ps.length=vl at *
 go_enter Tryz.func6,Tryz.ntmps6
 go_upto_region 1 with fail
 rw [<- HW.out]
 go_wp2_with fail
 refine (HWK.out wb HB.out).mono ?_;rintro e w2 ⟨rfl,hb2⟩;have HB2:=Lib.hid hb2;have HC2:=Lib.hid (HB.out.trans (hb2.mono HB.out.size));clear hb2 d0 d1 d2 d3 d4;obtain ⟨d0,d1,d2,d3,d4⟩:=HD.out w2 HB2.out
 go_wp2_with fail
 refine (HRT.out w2 HC2.out).mono ?_;rintro e w4 ⟨rfl,hb4⟩;have HB4:=Lib.hid (HB2.out.trans (hb4.mono HB2.out.size));have HC:=Lib.hid (HC2.out.trans (hb4.mono HC2.out.size));clear hb4 d0 d1 d2 d3 d4;obtain ⟨d0,d1,d2,d3,d4⟩:=HD.out w4 HB4.out;have HBW:Hid (∀ W,Below w4.drew.heap.size w4.drew W->Below w.heap.size w W):=fun W hW=>HC.out.trans ((below_drewN (Below.refl _ _) 1).trans (hW.mono HC.out.size))
 have HRU:Hid (∀ W,Below w4.drew.heap.size w4.drew W->Tr.RdZ W (.slice Au ul cu) l):=fun W hW=>HU.out.below (HBW.out W hW)
 by_cases h0:checkE c=0
 ·rw [decide_eq_true h0];have HR1:=Lib.hid (HRL0.out h0);have HSO:=Lib.hid (HSO0.out h0);have HCS:=Lib.hid (HCS0.out h0);have HLV:=Lib.hid (HLV0.out h0);have HRLV:=Lib.hid (HRLV0.out h0);have HNM:=Lib.hid (HNM0.out h0);have HRNM:=Lib.hid (HRNM0.out h0);have HWI:=Lib.hid (HWI0.out h0);have HSZ:=Lib.hid (HSZ0.out h0);have HS2:=Lib.hid (HSS0.out h0);have HSN:=Lib.hid (HSN0.out h0);have HFIN:=Lib.hid (HFIN0.out h0);have hn40:=HN4.out h0;clear h0 HRL0 HSO0 HLF HCS0 HLV0 HRLV0 HNM0 HRNM0 HWI0 HSZ0 HSS0 HSN0 HFIN0 HN4
  go_upto_region 5 with fail
  go_cut [52] from 33 to 52 (fun s52 wx=>s52=.bool false/\Hid (Below w4.heap.size w4 wx))
  case first =>
   have hv00:=HV00.out;have hn00:=HN00.out;cases hLG:legalC c l with
   | true =>
    rw [hLG] at HR1;clear hLG hv00 hn00 HV00 HN00;refine Oy.region_quiet 112 [Oy.eqD (.agg #[.string M,.slice A1 n1 k1,.slice A2 n2 k2,.slice A3 n3 k3,.slice A4 n4 k4]),Oy.eqD (.slice Au ul cu),Oy.eqD (.bool true),Oy.eqD (.bool false),Oy.eqD (.bool false),Oy.eqD (undef),Oy.eqD (undef),Oy.eqD (undef),Oy.eqD (undef),Oy.eqD (undef),Oy.eqD (undef),Oy.eqD (undef),Oy.eqD (undef),Oy.eqD (undef),Oy.eqD (undef),Oy.eqD (undef),Oy.eqD (undef),Oy.eqD (undef),Oy.eqD (undef),Oy.eqD (.bool false)] [[],[],[],[],[],[],[],[],[],[],[],[],[],[],[],[],[],[],[],[]] (by kernel_rfl) rfl (by kernel_rfl) (by kernel_rfl) ⟨Oy.keeps_eq _,Oy.keeps_eq _,Oy.keeps_eq _,Oy.keeps_eq _,Oy.keeps_eq _,Oy.keeps_eq _,Oy.keeps_eq _,Oy.keeps_eq _,Oy.keeps_eq _,Oy.keeps_eq _,Oy.keeps_eq _,Oy.keeps_eq _,Oy.keeps_eq _,Oy.keeps_eq _,Oy.keeps_eq _,Oy.keeps_eq _,Oy.keeps_eq _,Oy.keeps_eq _,Oy.keeps_eq _,Oy.keeps_eq _,trivial⟩ ?_;refine Oy.walk_q ?_ fun x33=>?_
    ·intro w1 hb hd K hK;clear hd;have c_d0:=(hb.cell (cell_lt d0)).trans d0;have c_d1:=(hb.cell (cell_lt d1)).trans d1;have c_d2:=(hb.cell (cell_lt d2)).trans d2;have c_d3:=(hb.cell (cell_lt d3)).trans d3;have c_d4:=(hb.cell (cell_lt d4)).trans d4;go_simp;exact hK _ _ (Below.refl _ _) rfl
    refine Oy.walk_q ?_ fun x34=>?_
    ·intro w1 hb hd K hK;clear hd;go_simp;exact hK _ _ (Below.refl _ _) rfl
    refine Oy.walk_q ?_ fun x35=>?_
    ·intro w1 hb hd K hK;obtain rfl:_=x33:=Eq.symm (hd 0 (by kernel_rfl));obtain rfl:_=x34:=Eq.symm (hd 1 (by kernel_rfl));clear hd;go_simp;refine (HR1.out w1 _ (HBW.out w1 hb) (HRU.out w1 hb)).mono ?_;rintro e w5 ⟨rfl,hb5⟩;go_simp;exact hK _ _ hb5 rfl
    refine Oy.walk_q ?_ fun x36=>?_
    ·intro w1 hb hd K hK;obtain rfl:_=x35:=Eq.symm (hd 2 (by kernel_rfl));clear hd;go_simp;exact hK _ _ (Below.refl _ _) rfl
    refine Oy.walk_q ?_ fun x37=>?_
    ·intro w1 hb hd K hK;obtain rfl:_=x36:=Eq.symm (hd 3 (by kernel_rfl));clear hd;go_simp;exact hK _ _ (Below.refl _ _) rfl
    refine Oy.walk_q ?_ fun x38=>?_
    ·intro w1 hb hd K hK;obtain rfl:_=x37:=Eq.symm (hd 4 (by kernel_rfl));clear hd;go_simp;exact hK _ _ (Below.refl _ _) rfl
    refine Oy.walk_q ?_ fun x39=>?_
    ·intro w1 hb hd K hK;obtain rfl:_=x37:=Eq.symm (hd 4 (by kernel_rfl));clear hd;go_simp;exact hK _ _ (Below.refl _ _) rfl
    refine Oy.walk_q ?_ fun x40=>?_
    ·intro w1 hb hd K hK;obtain rfl:_=x39:=Eq.symm (hd 6 (by kernel_rfl));obtain rfl:_=x37:=Eq.symm (hd 4 (by kernel_rfl));clear hd;go_simp;exact hK _ _ (Below.refl _ _) rfl
    refine Oy.walk_q ?_ fun x41=>?_
    ·intro w1 hb hd K hK;obtain rfl:_=x38:=Eq.symm (hd 5 (by kernel_rfl));obtain rfl:_=x40:=Eq.symm (hd 7 (by kernel_rfl));obtain rfl:_=x37:=Eq.symm (hd 4 (by kernel_rfl));clear hd;go_simp;exact hK _ _ (Below.refl _ _) rfl
    refine Oy.walk_q ?_ fun x42=>?_
    ·intro w1 hb hd K hK;obtain rfl:_=x41:=Eq.symm (hd 8 (by kernel_rfl));obtain rfl:_=x37:=Eq.symm (hd 4 (by kernel_rfl));clear hd;go_simp;exact hK _ _ (Below.refl _ _) rfl
    refine Oy.walk_q ?_ fun x43=>?_
    ·intro w1 hb hd K hK;obtain rfl:_=x42:=Eq.symm (hd 9 (by kernel_rfl));obtain rfl:_=x37:=Eq.symm (hd 4 (by kernel_rfl));clear hd;go_simp;exact hK _ _ (Below.refl _ _) rfl
    refine Oy.walk_q ?_ fun x44=>?_
    ·intro w1 hb hd K hK;obtain rfl:_=x43:=Eq.symm (hd 10 (by kernel_rfl));obtain rfl:_=x37:=Eq.symm (hd 4 (by kernel_rfl));clear hd;go_simp;exact hK _ _ (Below.refl _ _) rfl
    refine Oy.walk_q ?_ fun x45=>?_
    ·intro w1 hb hd K hK;obtain rfl:_=x44:=Eq.symm (hd 11 (by kernel_rfl));clear hd;go_simp;exact hK _ _ (Below.refl _ _) rfl
    refine Oy.walk_q ?_ fun x46=>?_
    ·intro w1 hb hd K hK;obtain rfl:_=x44:=Eq.symm (hd 11 (by kernel_rfl));clear hd;go_simp;exact hK _ _ (Below.refl _ _) rfl
    refine Oy.walk_q ?_ fun x47=>?_
    ·intro w1 hb hd K hK;obtain rfl:_=x46:=Eq.symm (hd 13 (by kernel_rfl));obtain rfl:_=x44:=Eq.symm (hd 11 (by kernel_rfl));clear hd;go_simp;exact hK _ _ (Below.refl _ _) rfl
    refine Oy.walk_q ?_ fun x48=>?_
    ·intro w1 hb hd K hK;obtain rfl:_=x45:=Eq.symm (hd 12 (by kernel_rfl));obtain rfl:_=x47:=Eq.symm (hd 14 (by kernel_rfl));obtain rfl:_=x44:=Eq.symm (hd 11 (by kernel_rfl));clear hd;go_simp;exact hK _ _ (Below.refl _ _) rfl
    refine Oy.walk_q ?_ fun x49=>?_
    ·intro w1 hb hd K hK;obtain rfl:_=x48:=Eq.symm (hd 15 (by kernel_rfl));obtain rfl:_=x44:=Eq.symm (hd 11 (by kernel_rfl));clear hd;go_simp;exact hK _ _ (Below.refl _ _) rfl
    refine Oy.walk_q ?_ fun x50=>?_
    ·intro w1 hb hd K hK;obtain rfl:_=x49:=Eq.symm (hd 16 (by kernel_rfl));obtain rfl:_=x44:=Eq.symm (hd 11 (by kernel_rfl));clear hd;go_simp;exact hK _ _ (Below.refl _ _) rfl
    refine Oy.walk_q ?_ fun x51=>?_
    ·intro w1 hb hd K hK;obtain rfl:_=x44:=Eq.symm (hd 11 (by kernel_rfl));obtain rfl:_=x50:=Eq.symm (hd 17 (by kernel_rfl));obtain rfl:_=x37:=Eq.symm (hd 4 (by kernel_rfl));clear hd;go_simp;exact hK _ _ (Below.refl _ _) rfl
    refine Oy.walk_q ?_ fun x52=>?_
    ·intro w1 hb hd K hK;obtain rfl:_=x37:=Eq.symm (hd 4 (by kernel_rfl));obtain rfl:_=x51:=Eq.symm (hd 18 (by kernel_rfl));clear hd;go_simp;exact hK _ _ (Below.refl _ _) rfl
    refine Oy.walk_nil rfl (fun w1 hb hd=>?_);obtain rfl:_=x52:=Eq.symm (hd 19 (by kernel_rfl));clear hd;have HBZ:Hid (Below w4.heap.size w4 w1):=((Below.refl _ _).drew).trans hb;clear hb;go_simp;go_wp2
    go_meet
    case rel=>exact ⟨by first | rfl | trivial,HBZ.out⟩
   | false =>
    rw [hLG] at HR1;have HV0:=Lib.hid (hv00 hLG);have HN0:=Lib.hid (hn00 hLG);clear hLG hv00 hn00 HV00 HN00;refine Oy.region_quiet 112 [Oy.eqD (.agg #[.string M,.slice A1 n1 k1,.slice A2 n2 k2,.slice A3 n3 k3,.slice A4 n4 k4]),Oy.eqD (.slice Au ul cu),Oy.eqD (.bool false),Oy.eqD (.bool true),Oy.eqD (.bool true),Oy.eqD (.agg #[.string M,.slice A1 n1 k1,.slice A2 n2 k2,.slice A3 n3 k3,.slice A4 n4 k4]),Oy.eqD (.slice Au ul cu),fun (_:List Value) v W=>RzR l v W,fun (_:List Value) v W=>RzR ([]:List Int) v W,Oy.eqD (.int .i64 0),Oy.eqD (.bool false),Oy.eqD (.bool false),Oy.eqD (.agg #[.string M,.slice A1 n1 k1,.slice A2 n2 k2,.slice A3 n3 k3,.slice A4 n4 k4]),Oy.eqD (.slice Au ul cu),fun (_:List Value) v W=>RzR l v W,fun (_:List Value) v W=>RnR ([]:List (List UInt8)) v W,Oy.eqD (.int .i64 0),Oy.eqD (.bool false),Oy.eqD (.bool false),Oy.eqD (.bool false)] [[],[],[],[],[],[],[],[],[],[],[],[],[],[],[],[],[],[],[],[]] (by kernel_rfl) rfl (by kernel_rfl) (by kernel_rfl) ⟨Oy.keeps_eq _,Oy.keeps_eq _,Oy.keeps_eq _,Oy.keeps_eq _,Oy.keeps_eq _,Oy.keeps_eq _,Oy.keeps_eq _,RzR.keeps l,RzR.keeps ([]:List Int),Oy.keeps_eq _,Oy.keeps_eq _,Oy.keeps_eq _,Oy.keeps_eq _,Oy.keeps_eq _,RzR.keeps l,RnR.keeps ([]:List (List UInt8)),Oy.keeps_eq _,Oy.keeps_eq _,Oy.keeps_eq _,Oy.keeps_eq _,trivial⟩ ?_;refine Oy.walk_q ?_ fun x33=>?_
    ·intro w1 hb hd K hK;clear hd;have c_d0:=(hb.cell (cell_lt d0)).trans d0;have c_d1:=(hb.cell (cell_lt d1)).trans d1;have c_d2:=(hb.cell (cell_lt d2)).trans d2;have c_d3:=(hb.cell (cell_lt d3)).trans d3;have c_d4:=(hb.cell (cell_lt d4)).trans d4;go_simp;exact hK _ _ (Below.refl _ _) rfl
    refine Oy.walk_q ?_ fun x34=>?_
    ·intro w1 hb hd K hK;clear hd;go_simp;exact hK _ _ (Below.refl _ _) rfl
    refine Oy.walk_q ?_ fun x35=>?_
    ·intro w1 hb hd K hK;obtain rfl:_=x33:=Eq.symm (hd 0 (by kernel_rfl));obtain rfl:_=x34:=Eq.symm (hd 1 (by kernel_rfl));clear hd;go_simp;refine (HR1.out w1 _ (HBW.out w1 hb) (HRU.out w1 hb)).mono ?_;rintro e w5 ⟨rfl,hb5⟩;go_simp;exact hK _ _ hb5 rfl
    refine Oy.walk_q ?_ fun x36=>?_
    ·intro w1 hb hd K hK;obtain rfl:_=x35:=Eq.symm (hd 2 (by kernel_rfl));clear hd;go_simp;exact hK _ _ (Below.refl _ _) rfl
    refine Oy.walk_q ?_ fun x37=>?_
    ·intro w1 hb hd K hK;obtain rfl:_=x36:=Eq.symm (hd 3 (by kernel_rfl));clear hd;go_simp;exact hK _ _ (Below.refl _ _) rfl
    refine Oy.walk_q ?_ fun x38=>?_
    ·intro w1 hb hd K hK;obtain rfl:_=x37:=Eq.symm (hd 4 (by kernel_rfl));clear hd;have c_d0:=(hb.cell (cell_lt d0)).trans d0;have c_d1:=(hb.cell (cell_lt d1)).trans d1;have c_d2:=(hb.cell (cell_lt d2)).trans d2;have c_d3:=(hb.cell (cell_lt d3)).trans d3;have c_d4:=(hb.cell (cell_lt d4)).trans d4;go_simp;exact hK _ _ (Below.refl _ _) rfl
    refine Oy.walk_q ?_ fun x39=>?_
    ·intro w1 hb hd K hK;obtain rfl:_=x37:=Eq.symm (hd 4 (by kernel_rfl));clear hd;go_simp;exact hK _ _ (Below.refl _ _) rfl
    refine Oy.walk_q ?_ fun x40=>?_
    ·intro w1 hb hd K hK;obtain rfl:_=x39:=Eq.symm (hd 6 (by kernel_rfl));obtain rfl:_=x37:=Eq.symm (hd 4 (by kernel_rfl));clear hd;go_simp;refine (HCP.out w1 _ (HRU.out w1 hb)).mono ?_;rintro e w5 ⟨⟨v,rfl,hv⟩,hb5⟩;go_simp;exact hK _ _ hb5 hv
    refine Oy.walk_q ?_ fun x41=>?_
    ·intro w1 hb hd K hK;obtain rfl:_=x38:=Eq.symm (hd 5 (by kernel_rfl));have h40:(fun (_:List Value) v W=>RzR l v W) [] x40 w1:=hd 7 (by kernel_rfl);obtain rfl:_=x37:=Eq.symm (hd 4 (by kernel_rfl));have g40:RzR l x40 w1:=hd 7 (by kernel_rfl);clear hd;go_simp;refine (HV0.out w1 _ (HBW.out w1 hb) g40).mono ?_;rintro e w5 ⟨⟨v,rfl,hv⟩,hb5⟩;go_simp;exact hK _ _ hb5 hv
    refine Oy.walk_q ?_ fun x42=>?_
    ·intro w1 hb hd K hK;have h41:(fun (_:List Value) v W=>RzR ([]:List Int) v W) [] x41 w1:=hd 8 (by kernel_rfl);obtain rfl:_=x37:=Eq.symm (hd 4 (by kernel_rfl));have g41:RzR ([]:List Int) x41 w1:=hd 8 (by kernel_rfl);obtain ⟨A7,c7,rfl⟩:=Tr.RdZ.form g41;clear hd;go_simp;exact hK _ _ (Below.refl _ _) rfl
    refine Oy.walk_q ?_ fun x43=>?_
    ·intro w1 hb hd K hK;obtain rfl:_=x42:=Eq.symm (hd 9 (by kernel_rfl));obtain rfl:_=x37:=Eq.symm (hd 4 (by kernel_rfl));clear hd;go_simp;exact hK _ _ (Below.refl _ _) rfl
    refine Oy.walk_q ?_ fun x44=>?_
    ·intro w1 hb hd K hK;obtain rfl:_=x43:=Eq.symm (hd 10 (by kernel_rfl));obtain rfl:_=x37:=Eq.symm (hd 4 (by kernel_rfl));clear hd;go_simp;exact hK _ _ (Below.refl _ _) rfl
    refine Oy.walk_q ?_ fun x45=>?_
    ·intro w1 hb hd K hK;obtain rfl:_=x44:=Eq.symm (hd 11 (by kernel_rfl));clear hd;have c_d0:=(hb.cell (cell_lt d0)).trans d0;have c_d1:=(hb.cell (cell_lt d1)).trans d1;have c_d2:=(hb.cell (cell_lt d2)).trans d2;have c_d3:=(hb.cell (cell_lt d3)).trans d3;have c_d4:=(hb.cell (cell_lt d4)).trans d4;go_simp;exact hK _ _ (Below.refl _ _) rfl
    refine Oy.walk_q ?_ fun x46=>?_
    ·intro w1 hb hd K hK;obtain rfl:_=x44:=Eq.symm (hd 11 (by kernel_rfl));clear hd;go_simp;exact hK _ _ (Below.refl _ _) rfl
    refine Oy.walk_q ?_ fun x47=>?_
    ·intro w1 hb hd K hK;obtain rfl:_=x46:=Eq.symm (hd 13 (by kernel_rfl));obtain rfl:_=x44:=Eq.symm (hd 11 (by kernel_rfl));clear hd;go_simp;refine (HCP.out w1 _ (HRU.out w1 hb)).mono ?_;rintro e w5 ⟨⟨v,rfl,hv⟩,hb5⟩;go_simp;exact hK _ _ hb5 hv
    refine Oy.walk_q ?_ fun x48=>?_
    ·intro w1 hb hd K hK;obtain rfl:_=x45:=Eq.symm (hd 12 (by kernel_rfl));have h47:(fun (_:List Value) v W=>RzR l v W) [] x47 w1:=hd 14 (by kernel_rfl);obtain rfl:_=x44:=Eq.symm (hd 11 (by kernel_rfl));have g47:RzR l x47 w1:=hd 14 (by kernel_rfl);clear hd;go_simp;refine (HN0.out w1 _ (HBW.out w1 hb) g47).mono ?_;rintro e w5 ⟨⟨v,rfl,hv⟩,hb5⟩;go_simp;exact hK _ _ hb5 hv
    refine Oy.walk_q ?_ fun x49=>?_
    ·intro w1 hb hd K hK;have h48:(fun (_:List Value) v W=>RnR ([]:List (List UInt8)) v W) [] x48 w1:=hd 15 (by kernel_rfl);obtain rfl:_=x44:=Eq.symm (hd 11 (by kernel_rfl));have g48:RnR ([]:List (List UInt8)) x48 w1:=hd 15 (by kernel_rfl);obtain ⟨A7,c7,rfl⟩:=RdN.form g48;clear hd;go_simp;exact hK _ _ (Below.refl _ _) rfl
    refine Oy.walk_q ?_ fun x50=>?_
    ·intro w1 hb hd K hK;obtain rfl:_=x49:=Eq.symm (hd 16 (by kernel_rfl));obtain rfl:_=x44:=Eq.symm (hd 11 (by kernel_rfl));clear hd;go_simp;exact hK _ _ (Below.refl _ _) rfl
    refine Oy.walk_q ?_ fun x51=>?_
    ·intro w1 hb hd K hK;obtain rfl:_=x44:=Eq.symm (hd 11 (by kernel_rfl));obtain rfl:_=x50:=Eq.symm (hd 17 (by kernel_rfl));obtain rfl:_=x37:=Eq.symm (hd 4 (by kernel_rfl));clear hd;go_simp;exact hK _ _ (Below.refl _ _) rfl
    refine Oy.walk_q ?_ fun x52=>?_
    ·intro w1 hb hd K hK;obtain rfl:_=x37:=Eq.symm (hd 4 (by kernel_rfl));obtain rfl:_=x51:=Eq.symm (hd 18 (by kernel_rfl));clear hd;go_simp;exact hK _ _ (Below.refl _ _) rfl
    refine Oy.walk_nil rfl (fun w1 hb hd=>?_);obtain rfl:_=x52:=Eq.symm (hd 19 (by kernel_rfl));clear hd;have HBZ:Hid (Below w4.heap.size w4 w1):=((Below.refl _ _).drew).trans hb;clear hb;go_simp;go_wp2
    go_meet
    case rel=>exact ⟨by first | rfl | trivial,HBZ.out⟩
  case rest =>
  obtain ⟨rfl,HBC⟩:=hcut;obtain ⟨wA,hwA⟩:∃ W,W=wc:=⟨_,rfl⟩
  subst hwA;clear d0 d1 d2 d3 d4 HBW HRU HR1 HV00 HN00;have HBA:=Lib.hid (HB4.out.trans (HBC.out.mono HB4.out.size));have HCA:=Lib.hid (HC.out.trans (HBC.out.mono HC.out.size));clear HC;obtain ⟨d0,d1,d2,d3,d4⟩:=HD.out wA HBA.out
  go_wp2_with fail
  refine (HSO.out wA _ HCA.out (HV.out.below HCA.out)).mono ?_;rintro e w5 ⟨⟨v5,rfl,hv5⟩,hb5⟩;obtain ⟨As,cs,rfl⟩:=Tr.RdZ.form hv5;have HBS:=Lib.hid (HBA.out.trans (hb5.mono HBA.out.size));have HC:=Lib.hid (HCA.out.trans (hb5.mono HCA.out.size));have HVS:=Lib.hid hv5;clear hb5 hv5 d0 d1 d2 d3 d4 HSO;obtain ⟨d0,d1,d2,d3,d4⟩:=HD.out w5 HBS.out;have HBW:Hid (∀ W,Below w5.drew.heap.size w5.drew W->Below w.heap.size w W):=fun W hW=>HC.out.trans ((below_drewN (Below.refl _ _) 1).trans (hW.mono HC.out.size))
  have HRS:Hid (∀ W,Below w5.drew.heap.size w5.drew W->Tr.RdZ W (.slice As S.length cs) S):=fun W hW=>HVS.out.below (((Below.refl _ _).drew).trans hW)
  obtain ⟨sl,hsl⟩:∃ x,S.length=x:=⟨_,rfl⟩
  rw [hsl] at HVS HRS ⊢;clear hsl
  go_upto_region 8 with fail
  refine Oy.region_quiet 112 [Oy.eqD (.agg #[.string M,.slice A1 n1 k1,.slice A2 n2 k2,.slice A3 n3 k3,.slice A4 n4 k4]),Oy.eqD (.slice As sl cs),fun (_:List Value) v W=>RzR S v W,fun (_:List Value) v W=>RzR LV v W,fun (_:List Value) v W=>RzR LV v W] [[],[],[],[],[]] (by kernel_rfl) rfl (by kernel_rfl) (by kernel_rfl) ⟨Oy.keeps_eq _,Oy.keeps_eq _,RzR.keeps S,RzR.keeps LV,RzR.keeps LV,trivial⟩ ?_;refine Oy.walk_q ?_ fun x56=>?_
  ·intro w1 hb hd K hK;clear hd;have c_d0:=(hb.cell (cell_lt d0)).trans d0;have c_d1:=(hb.cell (cell_lt d1)).trans d1;have c_d2:=(hb.cell (cell_lt d2)).trans d2;have c_d3:=(hb.cell (cell_lt d3)).trans d3;have c_d4:=(hb.cell (cell_lt d4)).trans d4;go_simp;exact hK _ _ (Below.refl _ _) rfl
  refine Oy.walk_q ?_ fun x57=>?_
  ·intro w1 hb hd K hK;clear hd;go_simp;exact hK _ _ (Below.refl _ _) rfl
  refine Oy.walk_q ?_ fun x58=>?_
  ·intro w1 hb hd K hK;obtain rfl:_=x57:=Eq.symm (hd 1 (by kernel_rfl));clear hd;go_simp;refine (HCS.out w1 _ (HRS.out w1 hb)).mono ?_;rintro e w5 ⟨⟨v,rfl,hv⟩,hb5⟩;go_simp;exact hK _ _ hb5 hv
  refine Oy.walk_q ?_ fun x59=>?_
  ·intro w1 hb hd K hK;obtain rfl:_=x56:=Eq.symm (hd 0 (by kernel_rfl));have h58:(fun (_:List Value) v W=>RzR S v W) [] x58 w1:=hd 2 (by kernel_rfl);have g58:RzR S x58 w1:=hd 2 (by kernel_rfl);clear hd;go_simp;refine (HLV.out w1 _ (HBW.out w1 hb) g58).mono ?_;rintro e w5 ⟨⟨v,rfl,hv⟩,hb5⟩;go_simp;exact hK _ _ hb5 hv
  refine Oy.walk_q ?_ fun x8=>?_
  ·intro w1 hb hd K hK;have h59:(fun (_:List Value) v W=>RzR LV v W) [] x59 w1:=hd 3 (by kernel_rfl);have g59:RzR LV x59 w1:=hd 3 (by kernel_rfl);clear hd;go_simp;exact hK _ _ (Below.refl _ _) g59
  refine Oy.walk_nil rfl (fun w1 hb hd=>?_);have h8:(fun (_:List Value) v W=>RzR LV v W) [] x8 w1:=hd 4 (by kernel_rfl);clear hd;obtain ⟨A8,c8,rfl⟩:=Tr.RdZ.form h8;have HB56:Hid (Below w5.heap.size w5 w1):=((Below.refl _ _).drew).trans hb;have HV8:=Lib.hid h8;clear hb h8;obtain ⟨w6,hw6⟩:∃ W,W=w1:=⟨_,rfl⟩
  subst hw6;have HB6:=Lib.hid (HBS.out.trans (HB56.out.mono HBS.out.size));have HC6:=Lib.hid (HC.out.trans (HB56.out.mono HC.out.size));clear HC HBW HRS d0 d1 d2 d3 d4;have HC:=HC6;obtain ⟨d0,d1,d2,d3,d4⟩:=HD.out w6 HB6.out;go_simp;have HBW:Hid (∀ W,Below w6.drew.heap.size w6.drew W->Below w.heap.size w W):=fun W hW=>HC.out.trans ((below_drewN (Below.refl _ _) 1).trans (hW.mono HC.out.size))
  have HR8:Hid (∀ W,Below w6.drew.heap.size w6.drew W->Tr.RdZ W (.slice A8 LV.length c8) LV):=fun W hW=>HV8.out.below (((Below.refl _ _).drew).trans hW)
  have HRS:Hid (∀ W,Below w6.drew.heap.size w6.drew W->Tr.RdZ W (.slice As sl cs) S):=fun W hW=>HVS.out.below (HB56.out.trans ((((Below.refl _ _).drew).trans hW).mono HB56.out.size))
  obtain ⟨ll,hll⟩:∃ x,LV.length=x:=⟨_,rfl⟩
  rw [hll] at HV8 HR8 ⊢;have HLL:=Lib.hid hll;clear hll
  go_upto_region 9 with fail
  refine Oy.region_quiet 112 [Oy.eqD (.slice A8 ll c8),Oy.eqD (.agg #[.string M,.slice A1 n1 k1,.slice A2 n2 k2,.slice A3 n3 k3,.slice A4 n4 k4]),Oy.eqD (.slice As sl cs),fun (_:List Value) v W=>RzR LV v W,Oy.eqD (.bool true),Oy.eqD (.bool false),Oy.eqD (.bool false),Oy.eqD (.agg #[.string M,.slice A1 n1 k1,.slice A2 n2 k2,.slice A3 n3 k3,.slice A4 n4 k4]),Oy.eqD (.slice As sl cs),fun (_:List Value) v W=>RzR S v W,fun (_:List Value) v W=>RnR NM v W,Oy.eqD (.agg #[.string M,.slice A1 n1 k1,.slice A2 n2 k2,.slice A3 n3 k3,.slice A4 n4 k4]),Oy.eqD (.slice As sl cs),fun (_:List Value) v W=>RnR NM v W,Oy.eqD (.bool true),Oy.eqD (.bool false),Oy.eqD (.bool false)] [[],[],[],[],[],[],[],[],[],[],[],[],[],[],[],[],[]] (by kernel_rfl) rfl (by kernel_rfl) (by kernel_rfl) ⟨Oy.keeps_eq _,Oy.keeps_eq _,Oy.keeps_eq _,RzR.keeps LV,Oy.keeps_eq _,Oy.keeps_eq _,Oy.keeps_eq _,Oy.keeps_eq _,Oy.keeps_eq _,RzR.keeps S,RnR.keeps NM,Oy.keeps_eq _,Oy.keeps_eq _,RnR.keeps NM,Oy.keeps_eq _,Oy.keeps_eq _,Oy.keeps_eq _,trivial⟩ ?_;refine Oy.walk_q ?_ fun x60=>?_
  ·intro w1 hb hd K hK;clear hd;go_simp;exact hK _ _ (Below.refl _ _) rfl
  refine Oy.walk_q ?_ fun x61=>?_
  ·intro w1 hb hd K hK;clear hd;have c_d0:=(hb.cell (cell_lt d0)).trans d0;have c_d1:=(hb.cell (cell_lt d1)).trans d1;have c_d2:=(hb.cell (cell_lt d2)).trans d2;have c_d3:=(hb.cell (cell_lt d3)).trans d3;have c_d4:=(hb.cell (cell_lt d4)).trans d4;go_simp;exact hK _ _ (Below.refl _ _) rfl
  refine Oy.walk_q ?_ fun x62=>?_
  ·intro w1 hb hd K hK;clear hd;go_simp;exact hK _ _ (Below.refl _ _) rfl
  refine Oy.walk_q ?_ fun x63=>?_
  ·intro w1 hb hd K hK;obtain rfl:_=x61:=Eq.symm (hd 1 (by kernel_rfl));obtain rfl:_=x62:=Eq.symm (hd 2 (by kernel_rfl));clear hd;go_simp;refine (HRLV.out w1 _ (HBW.out w1 hb) (HRS.out w1 hb)).mono ?_;rintro e w5 ⟨⟨v,rfl,hv⟩,hb5⟩;go_simp;exact hK _ _ hb5 hv
  refine Oy.walk_q ?_ fun x64=>?_
  ·intro w1 hb hd K hK;obtain rfl:_=x60:=Eq.symm (hd 0 (by kernel_rfl));have h63:(fun (_:List Value) v W=>RzR LV v W) [] x63 w1:=hd 3 (by kernel_rfl);have g63:RzR LV x63 w1:=hd 3 (by kernel_rfl);clear hd;go_simp;refine (HSZ.out w1 _ _ (HR8.out w1 hb) g63).mono ?_;rintro e w5 ⟨rfl,hb5⟩;go_simp;exact hK _ _ hb5 rfl
  refine Oy.walk_q ?_ fun x65=>?_
  ·intro w1 hb hd K hK;obtain rfl:_=x64:=Eq.symm (hd 4 (by kernel_rfl));clear hd;go_simp;exact hK _ _ (Below.refl _ _) rfl
  refine Oy.walk_q ?_ fun x66=>?_
  ·intro w1 hb hd K hK;obtain rfl:_=x65:=Eq.symm (hd 5 (by kernel_rfl));clear hd;go_simp;exact hK _ _ (Below.refl _ _) rfl
  refine Oy.walk_q ?_ fun x67=>?_
  ·intro w1 hb hd K hK;obtain rfl:_=x66:=Eq.symm (hd 6 (by kernel_rfl));clear hd;have c_d0:=(hb.cell (cell_lt d0)).trans d0;have c_d1:=(hb.cell (cell_lt d1)).trans d1;have c_d2:=(hb.cell (cell_lt d2)).trans d2;have c_d3:=(hb.cell (cell_lt d3)).trans d3;have c_d4:=(hb.cell (cell_lt d4)).trans d4;go_simp;exact hK _ _ (Below.refl _ _) rfl
  refine Oy.walk_q ?_ fun x68=>?_
  ·intro w1 hb hd K hK;obtain rfl:_=x66:=Eq.symm (hd 6 (by kernel_rfl));clear hd;go_simp;exact hK _ _ (Below.refl _ _) rfl
  refine Oy.walk_q ?_ fun x69=>?_
  ·intro w1 hb hd K hK;obtain rfl:_=x68:=Eq.symm (hd 8 (by kernel_rfl));obtain rfl:_=x66:=Eq.symm (hd 6 (by kernel_rfl));clear hd;go_simp;refine (HCS.out w1 _ (HRS.out w1 hb)).mono ?_;rintro e w5 ⟨⟨v,rfl,hv⟩,hb5⟩;go_simp;exact hK _ _ hb5 hv
  refine Oy.walk_q ?_ fun x70=>?_
  ·intro w1 hb hd K hK;obtain rfl:_=x67:=Eq.symm (hd 7 (by kernel_rfl));have h69:(fun (_:List Value) v W=>RzR S v W) [] x69 w1:=hd 9 (by kernel_rfl);obtain rfl:_=x66:=Eq.symm (hd 6 (by kernel_rfl));have g69:RzR S x69 w1:=hd 9 (by kernel_rfl);clear hd;go_simp;refine (HNM.out w1 _ (HBW.out w1 hb) g69).mono ?_;rintro e w5 ⟨⟨v,rfl,hv⟩,hb5⟩;go_simp;exact hK _ _ hb5 hv
  refine Oy.walk_q ?_ fun x71=>?_
  ·intro w1 hb hd K hK;obtain rfl:_=x66:=Eq.symm (hd 6 (by kernel_rfl));clear hd;have c_d0:=(hb.cell (cell_lt d0)).trans d0;have c_d1:=(hb.cell (cell_lt d1)).trans d1;have c_d2:=(hb.cell (cell_lt d2)).trans d2;have c_d3:=(hb.cell (cell_lt d3)).trans d3;have c_d4:=(hb.cell (cell_lt d4)).trans d4;go_simp;exact hK _ _ (Below.refl _ _) rfl
  refine Oy.walk_q ?_ fun x72=>?_
  ·intro w1 hb hd K hK;obtain rfl:_=x66:=Eq.symm (hd 6 (by kernel_rfl));clear hd;go_simp;exact hK _ _ (Below.refl _ _) rfl
  refine Oy.walk_q ?_ fun x73=>?_
  ·intro w1 hb hd K hK;obtain rfl:_=x71:=Eq.symm (hd 11 (by kernel_rfl));obtain rfl:_=x72:=Eq.symm (hd 12 (by kernel_rfl));obtain rfl:_=x66:=Eq.symm (hd 6 (by kernel_rfl));clear hd;go_simp;refine (HRNM.out w1 _ (HBW.out w1 hb) (HRS.out w1 hb)).mono ?_;rintro e w5 ⟨⟨v,rfl,hv⟩,hb5⟩;go_simp;exact hK _ _ hb5 hv
  refine Oy.walk_q ?_ fun x74=>?_
  ·intro w1 hb hd K hK;have h70:(fun (_:List Value) v W=>RnR NM v W) [] x70 w1:=hd 10 (by kernel_rfl);have h73:(fun (_:List Value) v W=>RnR NM v W) [] x73 w1:=hd 13 (by kernel_rfl);obtain rfl:_=x66:=Eq.symm (hd 6 (by kernel_rfl));have g70:RnR NM x70 w1:=hd 10 (by kernel_rfl);have g73:RnR NM x73 w1:=hd 13 (by kernel_rfl);clear hd;go_simp;refine (HSN.out w1 _ _ g70 g73).mono ?_;rintro e w5 ⟨rfl,hb5⟩;go_simp;exact hK _ _ hb5 rfl
  refine Oy.walk_q ?_ fun x75=>?_
  ·intro w1 hb hd K hK;obtain rfl:_=x74:=Eq.symm (hd 14 (by kernel_rfl));obtain rfl:_=x66:=Eq.symm (hd 6 (by kernel_rfl));clear hd;go_simp;exact hK _ _ (Below.refl _ _) rfl
  refine Oy.walk_q ?_ fun x76=>?_
  ·intro w1 hb hd K hK;obtain rfl:_=x66:=Eq.symm (hd 6 (by kernel_rfl));obtain rfl:_=x75:=Eq.symm (hd 15 (by kernel_rfl));clear hd;go_simp;exact hK _ _ (Below.refl _ _) rfl
  refine Oy.walk_nil rfl (fun w1 hb hd=>?_);obtain rfl:_=x76:=Eq.symm (hd 16 (by kernel_rfl));clear hd;have HB67:Hid (Below w6.heap.size w6 w1):=((Below.refl _ _).drew).trans hb;clear hb;obtain ⟨w7,hw7⟩:∃ W,W=w1:=⟨_,rfl⟩
  subst hw7;have HB7:=Lib.hid (HB6.out.trans (HB67.out.mono HB6.out.size));have HC7:=Lib.hid (HC6.out.trans (HB67.out.mono HC6.out.size));have HV87:=Lib.hid (HV8.out.below HB67.out);have HVS7:=Lib.hid (HVS.out.below (HB56.out.trans (HB67.out.mono HB56.out.size)));clear d0 d1 d2 d3 d4;obtain ⟨d0,d1,d2,d3,d4⟩:=HD.out w7 HB7.out;go_simp;obtain ⟨i0,hi0,hz0,hz1,hz2⟩:=info_parts Tr.Tryz.infoInt;have HII:=Lib.hid hi0;have HZ0:=Lib.hid hz0;have HZ1:=Lib.hid hz1;have HZ2:=Lib.hid hz2;clear hi0 hz0 hz1 hz2;have hn3:n3<=40:=by rw [HSS.out];exact hn40
  have hlnl:Hid (LN.length=ll):=by
   show LN.length=ll;rw [<- HLL.out,<- HLVE.out,Tr.toI_len]
  have hll3:ll<=n3:=by rw [<- hlnl.out,HSS.out];exact HLNN.out
  have HEQ:Hid (Tr.toI (fiL (dC c.ss) LN n3)=S):=by
   show _=S;rw [HSS.out,<- HSE.out,<- HFIN.out];rfl
  clear hn40 HV8 HR8 HRS HVS;go_wp2
  go_loopw [9,80] (fun x9 x80 wr=>∃ i:Nat,i<=n3/\x80=.int .i64 i/\Hid (wr.ownsRow w7.heap.size 3 1 x9 (fiL (dC c.ss) LN i).length (Tr.kvN (fiL (dC c.ss) LN i))/\Below w7.heap.size w7 wr)) (fun _ x _=>n3 - (intOf x).toNat)
  case atStart=>exact ⟨0,by omega,rfl,Lib.hid ⟨World.ownsRow_nil _ _ _ _,Below.refl _ _⟩⟩
  case round =>
   obtain ⟨i,hi,rfl,HH⟩:=hrel;obtain ⟨wl,hwl⟩:∃ W,W=wr:=⟨_,rfl⟩
   subst hwl;obtain ⟨hown,hbw⟩:=HH.out;obtain ⟨A9,c9,rfl⟩:=own_slice hown;have HBW:=Lib.hid hbw;have HO:=Lib.hid hown;have HBL:=Lib.hid (HB7.out.trans (hbw.mono HB7.out.size));have HCL:=Lib.hid (HC7.out.trans (hbw.mono HC7.out.size));have hszb:=hbw.size;have hfl:=fiL_len (dC c.ss) LN i;clear d0 d1 d2 d3 d4 hown hbw HH;obtain ⟨d0,d1,d2,d3,d4⟩:=HD.out wl HBL.out;clear d0 d1 d2 d4;by_cases hin:i < n3
   ·have hA0:anL (dC c.ss) LN i 0=false:=by unfold anL Tr.aboveB;simp
    have hst:=fiL_succ (dC c.ss) LN i;have HST:=Lib.hid hst;have HA0:=Lib.hid hA0;have HAL:Hid (anL (dC c.ss) LN i ll=Tr.aboveB (dC c.ss) LN i):=by
     show _=_;unfold anL;rw [<- hlnl.out,List.take_length]
    clear hst hA0;go_wp2
    go_loopw [11,85] (fun x11 x85 wr2=>∃ k r:Nat,k<=ll/\x85=.int .i64 k/\x11=.bool (anL (dC c.ss) LN i k)/\wr2=wl.drewN r) (fun _ x _=>ll - (intOf x).toNat)
    case atStart=>exact ⟨0,0,by omega,rfl,by rw [HA0.out],rfl⟩
    case round =>
     obtain ⟨k,r,hk,rfl,rfl,rfl⟩:=hrel;by_cases hkl:k < ll
     ·have hkn:k < LN.length:=by rw [hlnl.out];exact hkl
      obtain ⟨b',o',e8,_,hc⟩:=(HV87.out.below HBW.out).at_ (k:=k) (by rw [HLL.out];exact hkl);have hx:LV[k]'(by rw [HLL.out];exact hkl)=((LN[k]:Nat):Int):=by
       have h1:(Tr.toI LN)[k]?=some ((LN[k]:Nat):Int):=by unfold Tr.toI;rw [List.getElem?_map,List.getElem?_eq_getElem hkn];rfl
       have h2:LV[k]?=some ((LN[k]:Nat):Int):=by rw [<- HLVE.out];exact h1
       rw [List.getElem?_eq_getElem (by rw [HLL.out];exact hkl)] at h2;exact Option.some.inj h2
      rw [hx] at hc;have hyn:=HLX.out LN[k] (List.getElem_mem hkn);have hsu:=anL_succ (dC c.ss) LN i hkn;generalize LN[k]=y at *
      obtain rfl:A8=some ⟨b',o',none⟩:=by simpa using e8
      have HSU:=Lib.hid hsu;clear hx hsu hkn e8;cases hA:anL (dC c.ss) LN i k with
      | true =>
       rw [hA] at HSU;clear hA;go_wp2
       go_roundw
       case rel=>exact ⟨k+1,r,by omega,by go_num,by rw [HSU.out];rfl,rfl⟩
       case measure=>simp [intOf] <;> omega
      | false =>
       rw [hA] at HSU;clear hA;by_cases hy:y=i
       ·subst hy;go_wp2
        go_roundw
        case rel=>exact ⟨k+1,r,by omega,by go_num,by rw [HSU.out];simp,rfl⟩
        case measure=>simp [intOf] <;> omega
       ·have hye:((y:Int)==(i:Int))=false:=beq_eq_false_iff_ne.2 (by omega);rw [decide_eq_false hy] at HSU;have HWC:=Lib.hid (HWI.out i y (wl.drewN r) (below_drewN HCL.out r) hyn);clear hyn hy;generalize decide (Tr.wi (dC c.ss) i y)=wb2 at *
        go_wp2_with fail
        refine HWC.out.mono ?_;rintro e w8 ⟨rfl,q,rfl⟩;clear HWC;go_wp2
        go_roundw
        case rel=>exact ⟨k+1,r+q,by omega,by go_num,by rw [HSU.out];simp,rfl⟩
        case measure=>simp [intOf] <;> omega
     ·obtain rfl:k=ll:=by omega
      obtain ⟨wn,hwn⟩:∃ W,W=wl.drewN r:=⟨_,rfl⟩
      have hbn:Below w7.heap.size w7 wn:=by rw [hwn];exact below_drewN HBW.out r
      have hln:Below wl.heap.size wl wn:=by rw [hwn];exact below_drewN (Below.refl _ _) r
      have hon:=own_later10 HO.out hln;have hsn:=hbn.size;have HBN:=Lib.hid hbn;have HON:=Lib.hid hon;rw [<- hwn,HAL.out];clear hwn hbn hln hon;cases hA:Tr.aboveB (dC c.ss) LN i with
      | true =>
       rw [hA,if_pos rfl] at HST;clear hA
       go_wp2_with (at_builtin;refine wpList_append_own _ rfl _ _ 29 rfl w7.heap.size 3 i0 _ 1 8 Tryz.underlying29 HII.out HZ0.out HZ1.out HZ2.out rfl (by decide) _ (fiL (dC c.ss) LN i).length (Tr.kvN (fiL (dC c.ss) LN i)) rfl (HON.out.alloc _) ⟨wn.heap.size,0,none⟩ 1 1 [.int .i64 i] rfl rfl (one_str10 wn _ _) (by intro u hu;simp at hu;subst hu;rfl) (by unfold maxLen;omega) (by omega) (by simp;omega) ?_)
       intro v' w8 hown' hgrow _;have HH5:Hid (w8.ownsRow w7.heap.size 3 1 v' (fiL (dC c.ss) LN (i+1)).length (Tr.kvN (fiL (dC c.ss) LN (i+1)))/\Below w7.heap.size w7 w8):=by
        refine ⟨by rw [HST.out,List.length_append];simpa [Tr.kvN] using hown',?_⟩;have hx:=HBN.out.size;have hl:Below w7.heap.size w7 (wn.alloc (.cells #[.int .i64 (i:Int)] 3)):=HBN.out.alloc hx _;exact hl.grown hgrow hl.size (fun j hj=>(HON.out.lt j hj).1)
       clear hown' hgrow;go_wp2
       go_roundw
       case rel=>exact ⟨i+1,by omega,by go_num,HH5⟩
       case measure=>simp [intOf] <;> omega
      | false =>
       rw [hA,if_neg (by simp),List.append_nil] at HST;clear hA;go_wp2
       go_roundw
       case rel=>exact ⟨i+1,by omega,by go_num,Lib.hid ⟨by rw [HST.out];exact HON.out,HBN.out⟩⟩
       case measure=>simp [intOf] <;> omega
   ·obtain rfl:i=n3:=by omega
    have hrz:=Tr.rdZ_own HO.out;rw [HEQ.out] at hrz;have HQ:=Lib.hid (HS2.out wl _ _ hrz (HVS7.out.below HBW.out));clear hrz
    go_wp2_with fail
    refine HQ.out.mono ?_;rintro e w8 ⟨rfl,hb8⟩;have HB8:=Lib.hid (HCL.out.trans (hb8.mono HCL.out.size));clear hb8 HQ;go_wp2;go_ret;exact ⟨rfl,HB8.out⟩
 ·rw [decide_eq_false h0];have HV0:=Lib.hid (HV00.out (HLF.out h0));have HN0:=Lib.hid (HN00.out (HLF.out h0));clear h0 HRL0 HSO0 HLF HV00 HN00 HCS0 HLV0 HRLV0 HNM0 HRNM0 HWI0 HSZ0 HSS0 HSN0 HFIN0 HN4
  go_upto_region 4 with fail
  refine Oy.region_quiet 112 [Oy.eqD (.agg #[.string M,.slice A1 n1 k1,.slice A2 n2 k2,.slice A3 n3 k3,.slice A4 n4 k4]),Oy.eqD (.slice Au ul cu),fun (_:List Value) v W=>RzR l v W,fun (_:List Value) v W=>RzR ([]:List Int) v W,Oy.eqD (.int .i64 0),Oy.eqD (.bool true),Oy.eqD (.bool true),Oy.eqD (.agg #[.string M,.slice A1 n1 k1,.slice A2 n2 k2,.slice A3 n3 k3,.slice A4 n4 k4]),Oy.eqD (.slice Au ul cu),fun (_:List Value) v W=>RzR l v W,fun (_:List Value) v W=>RnR ([]:List (List UInt8)) v W,Oy.eqD (.int .i64 0),Oy.eqD (.bool true),Oy.eqD (.bool true),Oy.eqD (.bool true)] [[],[],[],[],[],[],[],[],[],[],[],[],[],[],[]] (by kernel_rfl) rfl (by kernel_rfl) (by kernel_rfl) ⟨Oy.keeps_eq _,Oy.keeps_eq _,RzR.keeps l,RzR.keeps ([]:List Int),Oy.keeps_eq _,Oy.keeps_eq _,Oy.keeps_eq _,Oy.keeps_eq _,Oy.keeps_eq _,RzR.keeps l,RnR.keeps ([]:List (List UInt8)),Oy.keeps_eq _,Oy.keeps_eq _,Oy.keeps_eq _,Oy.keeps_eq _,trivial⟩ ?_;refine Oy.walk_q ?_ fun x19=>?_
  ·intro w1 hb hd K hK;clear hd;have c_d0:=(hb.cell (cell_lt d0)).trans d0;have c_d1:=(hb.cell (cell_lt d1)).trans d1;have c_d2:=(hb.cell (cell_lt d2)).trans d2;have c_d3:=(hb.cell (cell_lt d3)).trans d3;have c_d4:=(hb.cell (cell_lt d4)).trans d4;go_simp;exact hK _ _ (Below.refl _ _) rfl
  refine Oy.walk_q ?_ fun x20=>?_
  ·intro w1 hb hd K hK;clear hd;go_simp;exact hK _ _ (Below.refl _ _) rfl
  refine Oy.walk_q ?_ fun x21=>?_
  ·intro w1 hb hd K hK;obtain rfl:_=x20:=Eq.symm (hd 1 (by kernel_rfl));clear hd;go_simp;refine (HCP.out w1 _ (HRU.out w1 hb)).mono ?_;rintro e w5 ⟨⟨v,rfl,hv⟩,hb5⟩;go_simp;exact hK _ _ hb5 hv
  refine Oy.walk_q ?_ fun x22=>?_
  ·intro w1 hb hd K hK;obtain rfl:_=x19:=Eq.symm (hd 0 (by kernel_rfl));have h21:(fun (_:List Value) v W=>RzR l v W) [] x21 w1:=hd 2 (by kernel_rfl);have g21:RzR l x21 w1:=hd 2 (by kernel_rfl);clear hd;go_simp;refine (HV0.out w1 _ (HBW.out w1 hb) g21).mono ?_;rintro e w5 ⟨⟨v,rfl,hv⟩,hb5⟩;go_simp;exact hK _ _ hb5 hv
  refine Oy.walk_q ?_ fun x23=>?_
  ·intro w1 hb hd K hK;have h22:(fun (_:List Value) v W=>RzR ([]:List Int) v W) [] x22 w1:=hd 3 (by kernel_rfl);have g22:RzR ([]:List Int) x22 w1:=hd 3 (by kernel_rfl);obtain ⟨A7,c7,rfl⟩:=Tr.RdZ.form g22;clear hd;go_simp;exact hK _ _ (Below.refl _ _) rfl
  refine Oy.walk_q ?_ fun x24=>?_
  ·intro w1 hb hd K hK;obtain rfl:_=x23:=Eq.symm (hd 4 (by kernel_rfl));clear hd;go_simp;exact hK _ _ (Below.refl _ _) rfl
  refine Oy.walk_q ?_ fun x25=>?_
  ·intro w1 hb hd K hK;obtain rfl:_=x24:=Eq.symm (hd 5 (by kernel_rfl));clear hd;go_simp;exact hK _ _ (Below.refl _ _) rfl
  refine Oy.walk_q ?_ fun x26=>?_
  ·intro w1 hb hd K hK;obtain rfl:_=x25:=Eq.symm (hd 6 (by kernel_rfl));clear hd;have c_d0:=(hb.cell (cell_lt d0)).trans d0;have c_d1:=(hb.cell (cell_lt d1)).trans d1;have c_d2:=(hb.cell (cell_lt d2)).trans d2;have c_d3:=(hb.cell (cell_lt d3)).trans d3;have c_d4:=(hb.cell (cell_lt d4)).trans d4;go_simp;exact hK _ _ (Below.refl _ _) rfl
  refine Oy.walk_q ?_ fun x27=>?_
  ·intro w1 hb hd K hK;obtain rfl:_=x25:=Eq.symm (hd 6 (by kernel_rfl));clear hd;go_simp;exact hK _ _ (Below.refl _ _) rfl
  refine Oy.walk_q ?_ fun x28=>?_
  ·intro w1 hb hd K hK;obtain rfl:_=x27:=Eq.symm (hd 8 (by kernel_rfl));obtain rfl:_=x25:=Eq.symm (hd 6 (by kernel_rfl));clear hd;go_simp;refine (HCP.out w1 _ (HRU.out w1 hb)).mono ?_;rintro e w5 ⟨⟨v,rfl,hv⟩,hb5⟩;go_simp;exact hK _ _ hb5 hv
  refine Oy.walk_q ?_ fun x29=>?_
  ·intro w1 hb hd K hK;obtain rfl:_=x26:=Eq.symm (hd 7 (by kernel_rfl));have h28:(fun (_:List Value) v W=>RzR l v W) [] x28 w1:=hd 9 (by kernel_rfl);obtain rfl:_=x25:=Eq.symm (hd 6 (by kernel_rfl));have g28:RzR l x28 w1:=hd 9 (by kernel_rfl);clear hd;go_simp;refine (HN0.out w1 _ (HBW.out w1 hb) g28).mono ?_;rintro e w5 ⟨⟨v,rfl,hv⟩,hb5⟩;go_simp;exact hK _ _ hb5 hv
  refine Oy.walk_q ?_ fun x30=>?_
  ·intro w1 hb hd K hK;have h29:(fun (_:List Value) v W=>RnR ([]:List (List UInt8)) v W) [] x29 w1:=hd 10 (by kernel_rfl);obtain rfl:_=x25:=Eq.symm (hd 6 (by kernel_rfl));have g29:RnR ([]:List (List UInt8)) x29 w1:=hd 10 (by kernel_rfl);obtain ⟨A7,c7,rfl⟩:=RdN.form g29;clear hd;go_simp;exact hK _ _ (Below.refl _ _) rfl
  refine Oy.walk_q ?_ fun x31=>?_
  ·intro w1 hb hd K hK;obtain rfl:_=x30:=Eq.symm (hd 11 (by kernel_rfl));obtain rfl:_=x25:=Eq.symm (hd 6 (by kernel_rfl));clear hd;go_simp;exact hK _ _ (Below.refl _ _) rfl
  refine Oy.walk_q ?_ fun x32=>?_
  ·intro w1 hb hd K hK;obtain rfl:_=x25:=Eq.symm (hd 6 (by kernel_rfl));obtain rfl:_=x31:=Eq.symm (hd 12 (by kernel_rfl));clear hd;go_simp;exact hK _ _ (Below.refl _ _) rfl
  refine Oy.walk_q ?_ fun x6=>?_
  ·intro w1 hb hd K hK;obtain rfl:_=x32:=Eq.symm (hd 13 (by kernel_rfl));clear hd;go_simp;exact hK _ _ (Below.refl _ _) rfl
  refine Oy.walk_nil rfl (fun w1 hb hd=>?_);obtain rfl:_=x6:=Eq.symm (hd 14 (by kernel_rfl));clear hd;have HBZ:=Lib.hid (HBW.out w1 hb);clear hb;go_simp;go_wp2;go_ret;exact ⟨rfl,HBZ.out⟩
end Go.Proofs.YtcnfcililiehlaaGreatDoor.Ch.Vd
