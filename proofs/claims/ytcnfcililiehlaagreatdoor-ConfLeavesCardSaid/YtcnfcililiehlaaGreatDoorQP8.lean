import Derived.Test.YtcnfcililiehlaaGreatDoorR1
import Derived.Test.YtcnfcililiehlaaGreatDoorR2
import Derived.Test.YtcnfcililiehlaaGreatDoorR3
import Derived.Test.YtcnfcililiehlaaGreatDoorR4
import Derived.Test.YtcnfcililiehlaaGreatDoorR5
import Derived.Test.YtcnfcililiehlaaGreatDoorR6
import Derived.Test.YtcnfcililiehlaaGreatDoorR7
import Derived.Test.YtcnfcililiehlaaGreatDoorR8
import Derived.Test.YtcnfcililiehlaaGreatDoorR9
import Derived.Test.YtcnfcililiehlaaGreatDoorR10
import Derived.Test.YtcnfcililiehlaaGreatDoorR11
import Derived.Test.YtcnfcililiehlaaGreatDoorR12
import Derived.Test.YtcnfcililiehlaaGreatDoorR13
import Derived.Test.YtcnfcililiehlaaGreatDoorR14
import Derived.Test.YtcnfcililiehlaaGreatDoorR15
import Derived.Test.YtcnfcililiehlaaGreatDoorR16
import Derived.Test.YtcnfcililiehlaaGreatDoorR17
import Derived.Test.YtcnfcililiehlaaGreatDoorR18
import Derived.Test.YtcnfcililiehlaaGreatDoorR19
import Derived.Test.YtcnfcililiehlaaGreatDoorR20
import Derived.Test.YtcnfcililiehlaaGreatDoorR21
import Derived.Test.YtcnfcililiehlaaGreatDoorR22
import Derived.Test.YtcnfcililiehlaaGreatDoorR23
import Derived.Test.YtcnfcililiehlaaGreatDoorR24
import Derived.Test.YtcnfcililiehlaaGreatDoorR25
import Derived.Test.YtcnfcililiehlaaGreatDoorR26
import Derived.Test.YtcnfcililiehlaaGreatDoorR27
import Derived.Test.YtcnfcililiehlaaGreatDoorR28
import Derived.Test.YtcnfcililiehlaaGreatDoorR29
import Derived.Test.YtcnfcililiehlaaGreatDoorR30
import Derived.Test.YtcnfcililiehlaaGreatDoorR31
import Derived.Test.YtcnfcililiehlaaGreatDoorR32
import Derived.Test.YtcnfcililiehlaaGreatDoorR33
import Derived.Test.YtcnfcililiehlaaGreatDoorR34
import Derived.Test.YtcnfcililiehlaaGreatDoorR35
import Derived.Test.YtcnfcililiehlaaGreatDoorR36
import Derived.Test.YtcnfcililiehlaaGreatDoorQP1
import Derived.Test.YtcnfcililiehlaaGreatDoorQP2
import Derived.Test.YtcnfcililiehlaaGreatDoorQP3
import Derived.Test.YtcnfcililiehlaaGreatDoorQP4
import Derived.Test.YtcnfcililiehlaaGreatDoorQP5
import Derived.Test.YtcnfcililiehlaaGreatDoorQP6
import Derived.Test.YtcnfcililiehlaaGreatDoorQP7
import Derived.Deep.AppendLies
import Derived.Deep.RegionLaw
namespace Go.Proofs.YtcnfcililiehlaaGreatDoor.Ch.Vd
open Go.RowKit
theorem infoStr10:(Tryz.prog.info? 9).map (fun i=>(i.zero,i.size,i.bytes))=some (some (.string ByteArray.empty),1,16):=by kernel_rfl
noncomputable def namesO (c:CH) (l:List Int):List Nat:=if legalC c l=true then l.map Int.toNat else []
def nmV (c:CH) (s:List Nat):List Value:=s.map fun k=>bstr (nmC c.ss k)
theorem nmV_succ (c:CH) (s:List Nat) {k:Nat} (hk:k < s.length):nmV c (s.take (k+1))=nmV c (s.take k)++[bstr (nmC c.ss s[k])]:=by
 unfold nmV;rw [List.take_succ_eq_append_getElem hk,List.map_append];rfl
theorem one_str10 (w:World) (v:Value) (t:TypeId):∀ j u,[v][j]?=some u->(w.alloc (.cells #[v] t)).cell? ((⟨w.heap.size,0,none⟩:Addr).add j)=some u:=by
 intro j u h;obtain rfl:j=0:=by
  rcases j with _ | j
  ·rfl
  ·simp at h
 simp at h;subst h;simp [Addr.add]
theorem bstr_is {S:ByteArray} {l:List UInt8} (h:S.data.toList=l):bstr l=.string S:=by subst h;rfl
set_option maxRecDepth 100000 in
set_option maxHeartbeats 8000000 in
theorem confNames_any {w:World} {c:CH} {eV vV sV tV u:Value} {sp:List SP} {tp:List TP} {l:List Int} (h:ChM w c eV vV sV tV sp tp) (hec:∀ A n k,eV=.slice A n k->n<=k) (hsb:Sb c) (hU:Tr.RdZ w u l) (hl:l.length<=4611686018427387904) :
 Calls Tryz.prog 21 #[chA c eV vV sV tV,u] w fun e w'=>(∃ v,e=.returned v/\w'.ownsRow w.heap.size 9 1 v (namesO c l).length (nmV c (namesO c l)))/\Below w.heap.size w w':=by
 obtain ⟨i0,hi0,hz0,hz1,hz2⟩:=info_parts infoStr10;have HII:=Lib.hid hi0;have HZ0:=Lib.hid hz0;have HZ1:=Lib.hid hz1;have HZ2:=Lib.hid hz2;clear hi0 hz0 hz1 hz2;obtain ⟨M,A1,A2,A3,A4,k1,k2,k3,k4,wb,hM,rfl,rfl,rfl,rfl,hwb,hb1,hbz,d0,d1,d2,d3,d4⟩:=box_ch h;have HC:=Lib.hid (legal_any (h.below hb1) hec hsb (hU.below hb1) hl);obtain ⟨A5,k5,rfl⟩:=hU.form;have HD:=Lib.hid (cells_later d0 d1 d2 d3 d4);have HW:=Lib.hid hwb;have HB:=Lib.hid hb1;have hss:=h.sLen;have hst:=fun h0=>ch_states h h0
 obtain ⟨L,hL⟩:∃ x,namesO c l=x:=⟨_,rfl⟩
 rw [hL];have HL:=Lib.hid hL;unfold chA at HC ⊢;rw [hM] at HC ⊢;have HU:=Lib.hid hU;simp only [hss] at HC HW HD hst ⊢;clear h hec hsb hM hwb hb1 hbz hU hL hss d0 d1 d2 d3 d4;obtain ⟨d0,d1,d2,d3,d4⟩:=HD.out wb (Below.refl _ _);cases hlc:legalC c l with
 | false =>
  rw [hlc] at HC;have HX:Hid (L=[]):=by
   show L=[];rw [<- HL.out];exact if_neg (by rw [hlc];simp)
  clear hlc hst;generalize c.es.length=n1 at *;generalize c.vs.length=n2 at *;generalize tp.length=n4 at *;generalize c.ss.length=n3 at *;generalize l.length=n5 at *
  go_enter Tryz.func21,Tryz.ntmps21
  go_upto_region 1 with fail
  rw [<- HW.out]
  go_wp2_with fail
  refine HC.out.mono ?_;rintro e w2 ⟨rfl,hb2⟩;have HB2:=Lib.hid (HB.out.trans (hb2.mono HB.out.size));clear hb2;go_wp2;go_ret;rw [HX.out];exact ⟨⟨_,rfl,World.ownsRow_nil _ _ _ _⟩,HB2.out⟩
 | true =>
  rw [hlc] at HC;obtain ⟨h0,s,rfl,hsx,hsl⟩:=legal_nat hlc;have hn40:=(check_zero.1 h0).tree.le;have hpos:=(check_zero.1 h0).tree.pos;obtain ⟨b,o,X,Y,a4,a5,m4,q4,m5,q5,rfl,hbw,hXY,hcs⟩:=hst hpos;have HX:Hid (L=s):=by
   show L=_;rw [<- HL.out];unfold namesO;rw [if_pos hlc,toI_nat]
  have HTL:=Lib.hid (Tr.toI_len s);rw [HTL.out] at HC HU hl ⊢;have HCS:=Lib.hid hcs;have HSX:=Lib.hid hsx;have HXY:=Lib.hid hXY;obtain ⟨m,hm⟩:∃ m,s.length=m:=⟨_,rfl⟩
  rw [hm] at hsl HC HU hl HTL ⊢;have HMM:=Lib.hid hm;clear hlc hst hcs hXY hbw hsx h0 HL hm;generalize c.es.length=n1 at *;generalize c.vs.length=n2 at *;generalize tp.length=n4 at *
  obtain ⟨n,hn⟩:∃ n,c.ss.length=n:=⟨_,rfl⟩
  simp only [hn] at HC HW HD HCS HSX HXY hsl hn40 hpos d3 ⊢;clear hn
  go_enter Tryz.func21,Tryz.ntmps21
  go_upto_region 1 with fail
  rw [<- HW.out]
  go_wp2_with fail
  refine HC.out.mono ?_;rintro e w2 ⟨rfl,hb2⟩;have HB2:=Lib.hid hb2;clear hb2 d0 d1 d2 d3 d4;go_wp2
  go_loopw [5,7,14] (fun x5 _ x14 wr=>∃ k:Nat,k<=m/\x14=.int .i64 k/\Hid (wr.ownsRow wb.heap.size 9 1 x5 k (nmV c (s.take k))/\Below wb.heap.size wb wr)) (fun _ _ x _=>m - (intOf x).toNat)
  case atStart=>exact ⟨0,by omega,rfl,Lib.hid ⟨World.ownsRow_nil _ _ _ _,HB2.out⟩⟩
  case round =>
   obtain ⟨k,hk,rfl,HH⟩:=hrel;obtain ⟨wl,hwl⟩:∃ W,W=wr:=⟨_,rfl⟩
   subst hwl;obtain ⟨hown,hbw⟩:=HH.out;obtain ⟨A6,c6,rfl⟩:=own_slice hown;have HBW:=Lib.hid hbw;have HO:=Lib.hid hown;have hb0:Below w.heap.size w wl:=HB.out.trans (hbw.mono HB.out.size);have HB0:=Lib.hid hb0;have hszb:=hbw.size;obtain ⟨f0,f1,f2,f3,f4⟩:=HD.out wl hbw;by_cases hkn:k < m
   ·have hkm:k < s.length:=by rw [HMM.out];exact hkn
    obtain ⟨b',o',rfl,_,hc⟩:=(HU.out.below hb0).at_ (k:=k) (by rw [Tr.toI_len];exact hkm);have hx:(Tr.toI s)[k]'(by rw [Tr.toI_len];exact hkm)=((s[k]:Nat):Int):=by unfold Tr.toI;rw [List.getElem_map]
    rw [hx] at hc;have hyn:=HSX.out s[k] (List.getElem_mem hkm);have hst:=nmV_succ c s hkm;rw [bstr_is (HXY.out s[k] hyn).1] at hst;clear hx hown hbw HH;generalize s[k]=y at *
    obtain ⟨r0,r1,r2,r3,r4,r5⟩:=HCS.out wl hb0 y hyn;have HST:=Lib.hid hst;clear hb0 r1 r2 r3 r4 r5 hst;generalize X y=S at *
    go_wp2_with (at_builtin;refine wpList_append_own _ rfl _ _ 22 rfl wb.heap.size 9 i0 _ 1 16 Tryz.underlying22 HII.out HZ0.out HZ1.out HZ2.out rfl (by decide) _ k (nmV c (s.take k)) rfl (HO.out.alloc _) ⟨wl.heap.size,0,none⟩ 1 1 [.string S] rfl rfl (one_str10 wl _ _) (by intro u hu;simp at hu;subst hu;rfl) (by unfold maxLen;omega) (by omega) (by simp;omega) ?_)
    intro v' w5 hown' hgrow _;have HH5:Hid (w5.ownsRow wb.heap.size 9 1 v' (k+1) (nmV c (s.take (k+1)))/\Below wb.heap.size wb w5):=by
     refine ⟨by rw [HST.out];exact hown',?_⟩;have hz:(wl.alloc (.cells #[.string S] 9)).heap.size=wl.heap.size+1:=by simp
     have hx:=HBW.out.size;exact (HBW.out.alloc hx (.cells #[.string S] 9)).grown hgrow (by omega) (fun j hj=>(HO.out.lt j hj).1)
    clear hown' hgrow;go_wp2
    go_roundw
    case rel=>exact ⟨k+1,by omega,by go_num,HH5⟩
    case measure=>simp [intOf] <;> omega
   ·obtain rfl:k=m:=by omega
    have hall:s.take k=s:=by rw [<- HMM.out,List.take_length]
    rw [hall] at HO;have HLL:Hid (L=s/\s.length=k):=⟨HX.out,HMM.out⟩;clear hown hbw hb0 hall HH;go_wp2;go_ret;rw [HLL.out.1,HLL.out.2];exact ⟨⟨_,rfl,Tr.own_lower HO.out HB.out.size⟩,HB0.out⟩
end Go.Proofs.YtcnfcililiehlaaGreatDoor.Ch.Vd
namespace Go.Proofs.YtcnfcililiehlaaGreatDoor.Ch.Vd
open Go.RowKit
def RdN (w:World) (v:Value) (xs:List (List UInt8)):Prop :=
 ∃ (A:Option Addr) (c:Nat),v=.slice A xs.length c/\∀ i (h:i < xs.length),∃ ad,A=some ad/\w.cell? (ad.add i)=some (bstr xs[i])
theorem sameN_any (va vb:Value) (xs ys:List (List UInt8)) (w:World) (ha:RdN w va xs) (hb:RdN w vb ys) (hx:xs.length<=140737488355328) :
 Calls Tryz.prog 23 #[va,vb] w fun e w'=>e=.returned (.bool (decide (xs=ys)))/\∃ n,w'=w.drewN n:=by
 obtain ⟨A,c,rfl,ha⟩:=ha;obtain ⟨B,d,rfl,hb⟩:=hb;have HA:=Lib.hid ha;have HB:=Lib.hid hb;clear ha hb;by_cases hlen:xs.length=ys.length
 ·obtain ⟨n,hxl⟩:∃ n,xs.length=n:=⟨_,rfl⟩
  have hyl:ys.length=n:=by omega
  rw [hxl] at hx;have HXL:=Lib.hid hxl;have HYL:=Lib.hid hyl;rw [hxl,hyl];clear hlen hxl hyl;have hr:∀ k,xs.take k=ys.take k->¬ k < n->decide (xs=ys)=true:=by
   intro k h hk;rw [List.take_of_length_le (by rw [HXL.out];omega),List.take_of_length_le (by rw [HYL.out];omega)] at h;exact decide_eq_true h
  have HR:=Lib.hid hr;clear hr
  go_enter Tryz.func23,Tryz.ntmps23
  go_wp2
  go_loopw [4,5] (fun x i wr=>x=.bool false/\∃ k m:Nat,k<=n/\xs.take k=ys.take k/\wr=w.drewN m/\i=.int .i64 k) (fun _ i _=>n - (intOf i).toNat)
  case atStart=>exact ⟨rfl,0,0,by omega,rfl,rfl,rfl⟩
  case round =>
   obtain ⟨rfl,k,m,hk,ht,rfl,rfl⟩:=hrel;have HT:=Lib.hid ht;clear ht;by_cases hkn:k < n
   ·obtain ⟨ad,rfl,hca⟩:=HA.out k (by rw [HXL.out];exact hkn);obtain ⟨bd,rfl,hcb⟩:=HB.out k (by rw [HYL.out];exact hkn);unfold bstr at hca hcb;by_cases he:xs[k]'(by rw [HXL.out];exact hkn)=ys[k]'(by rw [HYL.out];exact hkn)
    ·rw [<- he] at hcb;obtain ⟨X,hX⟩:∃ X:ByteArray,X=⟨(xs[k]'(by rw [HXL.out];exact hkn)).toArray⟩:=⟨_,rfl⟩
     rw [<- hX] at hca hcb;clear hX;have hs:xs.take (k+1)=ys.take (k+1):=by
      rw [List.take_succ_eq_append_getElem (by rw [HXL.out];exact hkn),List.take_succ_eq_append_getElem (by rw [HYL.out];exact hkn),HT.out,he]
     have HS:=Lib.hid hs;clear he hs;go_wp2
     go_quiet (fail)
     go_wp2
     go_roundw
     case rel=>exact ⟨rfl,k+1,m+nq,by omega,HS.out,rfl,by go_num⟩
     case measure=>simp [intOf];omega
    ·obtain ⟨X,hX⟩:∃ X:ByteArray,X=⟨(xs[k]'(by rw [HXL.out];exact hkn)).toArray⟩:=⟨_,rfl⟩
     obtain ⟨Y,hY⟩:∃ Y:ByteArray,Y=⟨(ys[k]'(by rw [HYL.out];exact hkn)).toArray⟩:=⟨_,rfl⟩
     have hne:(X.toList==Y.toList)=false:=by
      rw [Lib.toList_data,Lib.toList_data,hX,hY];exact beq_eq_false_iff_ne.2 he
     have hdd:decide (xs=ys)=false:=decide_eq_false (fun e=>he (by subst e;rfl));rw [<- hX] at hca;rw [<- hY] at hcb;have HD:=Lib.hid hdd;clear hX hY he hdd;go_wp2
     go_quiet (fail)
     go_wp2;go_ret;exact ⟨ret_bool HD.out.symm,m+nq,World.drewN_drewN _ _ _⟩
   ·have hd:=HR.out k HT.out hkn;have HD:=Lib.hid hd;clear hd;go_wp2;go_ret;exact ⟨ret_bool HD.out.symm,m,rfl⟩
 ·have hr:decide (xs=ys)=false:=decide_eq_false (fun e=>hlen (by rw [e]));have hl':((xs.length:Int)==(ys.length:Int))=false:=beq_eq_false_iff_ne.2 (by omega);rw [hr];clear hr hlen
  go_enter Tryz.func23,Tryz.ntmps23
  go_wp2;go_ret;exact ⟨rfl,0,rfl⟩
theorem RdN.own {w:World} {base n:Nat} {v:Value} {L:List (List UInt8)} (h:w.ownsRow base 9 1 v n (L.map bstr)):RdN w v L:=by
 have hn:n=L.length:=by have:=h.1;simp at this;omega
 subst hn;rcases h.2 with ⟨rfl,h0⟩ | ⟨g,cap,cur,rfl,_,hg,hc,_,hs,ht⟩
 ·exact ⟨none,0,by rw [h0],fun i hi=>absurd hi (by omega)⟩
 ·refine ⟨some ⟨g,0,none⟩,cap,rfl,fun i hi=>⟨_,rfl,?_⟩⟩;have e:(⟨g,0,none⟩:Addr).add i=⟨g,i,none⟩:=by unfold Addr.add;by_cases hi0:i=0 <;> simp [hi0]
  rw [e,cell_of_row w g i _ _ _ hg];have h2:(cur.toList.take (L.length * 1))[i]?=some (bstr L[i]):=by rw [ht];simp [hi]
  rw [List.getElem?_take_of_lt (by omega),Array.getElem?_toList] at h2;exact h2
theorem RdN.later {w w1:World} {v:Value} {L:List (List UInt8)} (h:RdN w v L) (hb:Below w.heap.size w w1):RdN w1 v L:=by
 obtain ⟨A,c,rfl,hc⟩:=h;refine ⟨A,c,rfl,fun i hi=>?_⟩;obtain ⟨ad,ha,h2⟩:=hc i hi;have hlt:=World.block_lt_of_cell? w _ h2;exact ⟨ad,ha,(World.cell?_of_block (hb.block _ hlt)).trans h2⟩
theorem leafK (K:Int):Tr.leafB K=(decide (K=1) || decide (K=4)):=by unfold Tr.leafB;rfl
theorem own_later10 {w w1:World} {base:Nat} {e:TypeId} {size n:Nat} {v:Value} {xs:List Value} (h:w.ownsRow base e size v n xs) (hb:Below w.heap.size w w1):w1.ownsRow base e size v n xs :=
 h.kept ⟨hb.os,hb.tape,hb.output,hb.size,fun k hk _=>hb.block k hk⟩ (by cases hv:v.ownBlock with
  | none=>exact Or.inl rfl
  | some k=>exact Or.inr (by simp):v.ownBlock=none\/v.ownBlock ≠ none)
theorem one_drew (w:World) (v:Value) (t:TypeId):∀ j u,[v][j]?=some u->(w.alloc (.cells #[v] t)).drew.cell? ((⟨w.heap.size,0,none⟩:Addr).add j)=some u:=one_str10 w v t
set_option maxRecDepth 100000 in
set_option maxHeartbeats 8000000 in
theorem refLeaves_any {w:World} {c:CH} {eV vV sV tV u:Value} {sp:List SP} {tp:List TP} {s:List Nat} (h:ChM w c eV vV sV tV sp tp) (hT:treeP c) (hU:Tr.RdZ w u (Tr.toI s)) (hs:∀ x ∈ s,x < c.ss.length) (hsl:s.length<=40) :
 Calls Tryz.prog 22 #[chA c eV vV sV tV,u] w fun e w'=>(∃ v,e=.returned v/\w'.ownsRow w.heap.size 3 1 v (lvK c s s.length).length (Tr.kvN (lvK c s s.length)))/\Below w.heap.size w w':=by
 obtain ⟨i0,hi0,hz0,hz1,hz2⟩:=info_parts Tr.Tryz.infoInt;have HII:=Lib.hid hi0;have HZ0:=Lib.hid hz0;have HZ1:=Lib.hid hz1;have HZ2:=Lib.hid hz2;clear hi0 hz0 hz1 hz2;have hn40:=hT.le;have hpos:=hT.pos;have hss:=h.sLen;obtain ⟨M,A1,A2,A3,A4,k1,k2,k3,k4,wb,hM,rfl,rfl,rfl,rfl,hwb,hb1,hbz,d0,d1,d2,d3,d4⟩:=box_ch h;clear hbz;obtain ⟨b,o,X,Y,a4,a5,m4,q4,m5,q5,rfl,hbw,hXY,hcs⟩:=ch_states h (by omega);obtain ⟨A5,k5,rfl⟩:=hU.form;have HD:=Lib.hid (cells_later d0 d1 d2 d3 d4);have HW:=Lib.hid hwb;have HB:=Lib.hid hb1;unfold chA;rw [hM];have HTL:=Lib.hid (Tr.toI_len s);have HU:=Lib.hid hU;have HCS:=Lib.hid hcs;have HSX:=Lib.hid hs;have HXY:=Lib.hid hXY;obtain ⟨m,hm⟩:∃ m,s.length=m:=⟨_,rfl⟩
 rw [HTL.out] at HU ⊢;rw [hm] at hsl HU HTL ⊢;have HMM:=Lib.hid hm;simp only [hss] at HW HD d3 ⊢;clear h hT hU hs hM hwb hb1 hbw hXY hcs hss hm d0 d1 d2 d3 d4;obtain ⟨n,hn⟩:∃ n,c.ss.length=n:=⟨_,rfl⟩
 simp only [hn] at hn40 hpos HCS HSX HXY HW HD ⊢;clear hn;generalize c.es.length=n1 at *;generalize c.vs.length=n2 at *;generalize tp.length=n4 at *
 go_enter Tryz.func22,Tryz.ntmps22
 go_upto_region 1 with fail
 rw [<- HW.out];go_wp2
 go_loopw [5,6] (fun x5 x6 wr=>∃ k:Nat,k<=m/\x6=.int .i64 k/\Hid (wr.ownsRow wb.heap.size 3 1 x5 (lvK c s k).length (Tr.kvN (lvK c s k))/\Below wb.heap.size wb wr)) (fun _ x _=>m - (intOf x).toNat)
 case atStart=>exact ⟨0,by omega,rfl,Lib.hid ⟨World.ownsRow_nil _ _ _ _,Below.refl _ _⟩⟩
 case round =>
  obtain ⟨k,hk,rfl,HH⟩:=hrel;obtain ⟨wl,hwl⟩:∃ W,W=wr:=⟨_,rfl⟩
  subst hwl;obtain ⟨hown,hbw⟩:=HH.out;obtain ⟨A6,c6,rfl⟩:=own_slice hown;have HBW:=Lib.hid hbw;have HO:=Lib.hid hown;have hb0:Below w.heap.size w wl:=HB.out.trans (hbw.mono HB.out.size);have HB0:=Lib.hid hb0;have hszb:=hbw.size;obtain ⟨f0,f1,f2,f3,f4⟩:=HD.out wl hbw;have hkl:=lvK_len c s k;rw [HMM.out] at hkl;by_cases hkn:k < m
  ·have hkm:k < s.length:=by rw [HMM.out];exact hkn
   obtain ⟨b',o',rfl,_,hc⟩:=(HU.out.below hb0).at_ (k:=k) (by rw [Tr.toI_len];exact hkm);have hx:(Tr.toI s)[k]'(by rw [Tr.toI_len];exact hkm)=((s[k]:Nat):Int):=by unfold Tr.toI;rw [List.getElem_map]
   rw [hx] at hc;have hyn:=HSX.out s[k] (List.getElem_mem hkm);have hst:=lvK_succ c s hkm;clear hown hbw HH hx;generalize s[k]=y at *
   obtain ⟨r0,r1,r2,r3,r4,r5⟩:=HCS.out wl hb0 y hyn;clear hb0 r0 r2 r3 r4 r5;have hlk:=leafK (kC c.ss y);generalize kC c.ss y=K at *
   by_cases hk1:K=1
   ·subst hk1;rw [if_pos (by rw [hlk];rfl)] at hst;have HST:=Lib.hid hst;clear hst hlk;go_wp2
    go_region
    obtain ⟨wn,hwn⟩:∃ W,W=wl.drew:=⟨_,rfl⟩
    have HBN:Hid (Below wb.heap.size wb wn):=by show Below _ _ _;rw [hwn];exact HBW.out.drew
    have HON:Hid (wn.ownsRow wb.heap.size 3 1 (.slice A6 (lvK c s k).length c6) (lvK c s k).length (Tr.kvN (lvK c s k))):=by show World.ownsRow _ _ _ _ _ _ _;rw [hwn];exact own_later10 HO.out (Below.refl _ _).drew
    have hsn:=HBN.out.size;have hcn:wn.cell? ⟨b',o'+k,none⟩=some (.int .i64 (y:Int)):=by rw [hwn];exact hc
    rw [<- hwn];clear hwn
    go_wp2_with (at_builtin;refine wpList_append_own _ rfl _ _ 29 rfl wb.heap.size 3 i0 _ 1 8 Tryz.underlying29 HII.out HZ0.out HZ1.out HZ2.out rfl (by decide) _ (lvK c s k).length (Tr.kvN (lvK c s k)) rfl (HON.out.alloc _) ⟨wn.heap.size,0,none⟩ 1 1 [.int .i64 y] rfl rfl (one_str10 wn _ _) (by intro u hu;simp at hu;subst hu;rfl) (by unfold maxLen;omega) (by omega) (by simp;omega) ?_)
    intro v' w5 hown' hgrow _;have HH5:Hid (w5.ownsRow wb.heap.size 3 1 v' (lvK c s (k+1)).length (Tr.kvN (lvK c s (k+1)))/\Below wb.heap.size wb w5):=by
     refine ⟨by rw [HST.out,List.length_append];simpa [Tr.kvN] using hown',?_⟩;have hx:=HBN.out.size;have hl:Below wb.heap.size wb (wn.alloc (.cells #[.int .i64 (y:Int)] 3)):=HBN.out.alloc hx _;exact hl.grown hgrow hl.size (fun j hj=>(HON.out.lt j hj).1)
    clear hown' hgrow;go_wp2
    go_roundw
    case rel=>exact ⟨k+1,by omega,by go_num,HH5⟩
    case measure=>simp [intOf] <;> omega
   ·have hb1:(K==1)=false:=beq_eq_false_iff_ne.2 hk1;by_cases hk4:K=4
    ·subst hk4;rw [if_pos (by rw [hlk];rfl)] at hst;have HST:=Lib.hid hst;clear hst hlk;go_wp2
     go_region
     obtain ⟨wn,hwn⟩:∃ W,W=wl.drew:=⟨_,rfl⟩
     have HBN:Hid (Below wb.heap.size wb wn):=by show Below _ _ _;rw [hwn];exact HBW.out.drew
     have HON:Hid (wn.ownsRow wb.heap.size 3 1 (.slice A6 (lvK c s k).length c6) (lvK c s k).length (Tr.kvN (lvK c s k))):=by show World.ownsRow _ _ _ _ _ _ _;rw [hwn];exact own_later10 HO.out (Below.refl _ _).drew
     have hsn:=HBN.out.size;have hcn:wn.cell? ⟨b',o'+k,none⟩=some (.int .i64 (y:Int)):=by rw [hwn];exact hc
     rw [<- hwn];clear hwn
     go_wp2_with (at_builtin;refine wpList_append_own _ rfl _ _ 29 rfl wb.heap.size 3 i0 _ 1 8 Tryz.underlying29 HII.out HZ0.out HZ1.out HZ2.out rfl (by decide) _ (lvK c s k).length (Tr.kvN (lvK c s k)) rfl (HON.out.alloc _) ⟨wn.heap.size,0,none⟩ 1 1 [.int .i64 y] rfl rfl (one_str10 wn _ _) (by intro u hu;simp at hu;subst hu;rfl) (by unfold maxLen;omega) (by omega) (by simp;omega) ?_)
     intro v' w5 hown' hgrow _;have HH5:Hid (w5.ownsRow wb.heap.size 3 1 v' (lvK c s (k+1)).length (Tr.kvN (lvK c s (k+1)))/\Below wb.heap.size wb w5):=by
      refine ⟨by rw [HST.out,List.length_append];simpa [Tr.kvN] using hown',?_⟩;have hx:=HBN.out.size;have hl:Below wb.heap.size wb (wn.alloc (.cells #[.int .i64 (y:Int)] 3)):=HBN.out.alloc hx _;exact hl.grown hgrow hl.size (fun j hj=>(HON.out.lt j hj).1)
     clear hown' hgrow;go_wp2
     go_roundw
     case rel=>exact ⟨k+1,by omega,by go_num,HH5⟩
     case measure=>simp [intOf] <;> omega
    ·have hb4:(K==4)=false:=beq_eq_false_iff_ne.2 hk4;rw [if_neg (by rw [hlk,decide_eq_false hk1,decide_eq_false hk4];simp),List.append_nil] at hst;have HST:=Lib.hid hst;clear hst hlk;go_wp2
     go_region
     go_wp2
     go_roundw
     case rel=>exact ⟨k+1,by omega,by go_num,Lib.hid ⟨by rw [HST.out];exact own_later10 HO.out (Below.refl _ _).drew,HBW.out.drew⟩⟩
     case measure=>simp [intOf] <;> omega
  ·obtain rfl:k=m:=by omega
   clear hown hbw hb0;go_wp2;go_ret;exact ⟨⟨_,rfl,Tr.own_lower HO.out HB.out.size⟩,HB0.out⟩
set_option maxRecDepth 100000 in
set_option maxHeartbeats 8000000 in
theorem refNames10_any {w:World} {c:CH} {eV vV sV tV u:Value} {sp:List SP} {tp:List TP} {s:List Nat} (h:ChM w c eV vV sV tV sp tp) (hT:treeP c) (hU:Tr.RdZ w u (Tr.toI s)) (hs:∀ x ∈ s,x < c.ss.length) (hsl:s.length<=40) :
 Calls Tryz.prog 24 #[chA c eV vV sV tV,u] w fun e w'=>(∃ v,e=.returned v/\w'.ownsRow w.heap.size 9 1 v s.length (nmV c s))/\Below w.heap.size w w':=by
 obtain ⟨i0,hi0,hz0,hz1,hz2⟩:=info_parts infoStr10;have HII:=Lib.hid hi0;have HZ0:=Lib.hid hz0;have HZ1:=Lib.hid hz1;have HZ2:=Lib.hid hz2;clear hi0 hz0 hz1 hz2;have hn40:=hT.le;have hpos:=hT.pos;have hss:=h.sLen;obtain ⟨M,A1,A2,A3,A4,k1,k2,k3,k4,wb,hM,rfl,rfl,rfl,rfl,hwb,hb1,hbz,d0,d1,d2,d3,d4⟩:=box_ch h;clear hbz;obtain ⟨b,o,X,Y,a4,a5,m4,q4,m5,q5,rfl,hbw,hXY,hcs⟩:=ch_states h (by omega);obtain ⟨A5,k5,rfl⟩:=hU.form;have HD:=Lib.hid (cells_later d0 d1 d2 d3 d4);have HW:=Lib.hid hwb;have HB:=Lib.hid hb1;unfold chA;rw [hM];have HTL:=Lib.hid (Tr.toI_len s);have HU:=Lib.hid hU;have HCS:=Lib.hid hcs;have HSX:=Lib.hid hs;have HXY:=Lib.hid hXY;obtain ⟨m,hm⟩:∃ m,s.length=m:=⟨_,rfl⟩
 rw [HTL.out] at HU ⊢;rw [hm] at hsl HU HTL ⊢;have HMM:=Lib.hid hm;simp only [hss] at HW HD d3 ⊢;clear h hT hU hs hM hwb hb1 hbw hXY hcs hss hm d0 d1 d2 d3 d4;obtain ⟨n,hn⟩:∃ n,c.ss.length=n:=⟨_,rfl⟩
 simp only [hn] at hn40 hpos HCS HSX HXY HW HD ⊢;clear hn;generalize c.es.length=n1 at *;generalize c.vs.length=n2 at *;generalize tp.length=n4 at *
 go_enter Tryz.func24,Tryz.ntmps24
 go_upto_region 1 with fail
 rw [<- HW.out];go_wp2
 go_loopw [5,6] (fun x5 x6 wr=>∃ k:Nat,k<=m/\x6=.int .i64 k/\Hid (wr.ownsRow wb.heap.size 9 1 x5 k (nmV c (s.take k))/\Below wb.heap.size wb wr)) (fun _ x _=>m - (intOf x).toNat)
 case atStart=>exact ⟨0,by omega,rfl,Lib.hid ⟨World.ownsRow_nil _ _ _ _,Below.refl _ _⟩⟩
 case round =>
  obtain ⟨k,hk,rfl,HH⟩:=hrel;obtain ⟨wl,hwl⟩:∃ W,W=wr:=⟨_,rfl⟩
  subst hwl;obtain ⟨hown,hbw⟩:=HH.out;obtain ⟨A6,c6,rfl⟩:=own_slice hown;have HBW:=Lib.hid hbw;have HO:=Lib.hid hown;have hb0:Below w.heap.size w wl:=HB.out.trans (hbw.mono HB.out.size);have HB0:=Lib.hid hb0;have hszb:=hbw.size;obtain ⟨f0,f1,f2,f3,f4⟩:=HD.out wl hbw;by_cases hkn:k < m
  ·have hkm:k < s.length:=by rw [HMM.out];exact hkn
   obtain ⟨b',o',rfl,_,hc⟩:=(HU.out.below hb0).at_ (k:=k) (by rw [Tr.toI_len];exact hkm);have hx:(Tr.toI s)[k]'(by rw [Tr.toI_len];exact hkm)=((s[k]:Nat):Int):=by unfold Tr.toI;rw [List.getElem_map]
   rw [hx] at hc;have hyn:=HSX.out s[k] (List.getElem_mem hkm);have hst:=nmV_succ c s hkm;rw [bstr_is (HXY.out s[k] hyn).1] at hst;clear hown hbw HH hx;generalize s[k]=y at *
   obtain ⟨r0,r1,r2,r3,r4,r5⟩:=HCS.out wl hb0 y hyn;have HST:=Lib.hid hst;clear hb0 r1 r2 r3 r4 r5 hst;generalize X y=S at *
   go_upto_region 5 with fail
   go_region_law (refine step_append_lies _ (by rfl) _ _ _ (by rfl) wb.heap.size 9 i0 _ 1 16 Tryz.underlying22 HII.out HZ0.out HZ1.out HZ2.out rfl (by decide) _ k (nmV c (s.take k)) (by rfl) ((HO.out.alloc _).drew) ⟨wl.heap.size,0,none⟩ 1 1 [.string S] (by rfl) (by rfl) (one_drew wl _ _) (by intro u hu;simp at hu;subst hu;rfl) (by omega) (by unfold maxLen;omega) (by omega) (by simp;omega) (wl.heap.size+1) (by simp) ?_;intro gg cap w5 hown' hgrow _ _)
   all_goals
    have HH5:Hid (w5.ownsRow wb.heap.size 9 1 (.slice (some ⟨gg,0,none⟩) (k+1) cap) (k+1) (nmV c (s.take (k+1)))/\Below wb.heap.size wb w5):=by
     refine ⟨by rw [HST.out];exact hown',?_⟩;have hx:=HBW.out.size;have hl:Below wb.heap.size wb (wl.alloc (.cells #[.string S] 9)):=HBW.out.alloc hx _;exact (show Below wb.heap.size wb (wl.alloc (.cells #[.string S] 9)).drew from hl.drew).grown hgrow hl.size (fun j hj=>(HO.out.lt j hj).1)
    clear hown' hgrow;go_wp2
    go_roundw
    case rel=>exact ⟨k+1,by omega,by go_num,HH5⟩
    case measure=>simp [intOf] <;> omega
  ·obtain rfl:k=m:=by omega
   have hall:s.take k=s:=by rw [<- HMM.out,List.take_length]
   rw [hall] at HO;clear hown hbw hb0 hall;go_wp2;go_ret;exact ⟨⟨_,rfl,Tr.own_lower HO.out HB.out.size⟩,HB0.out⟩
end Go.Proofs.YtcnfcililiehlaaGreatDoor.Ch.Vd
namespace Go.Proofs.YtcnfcililiehlaaGreatDoor.Tr
section
variable {d kd:Nat->Int} {n:Nat}
theorem wi_trans {i j k:Nat} (h1:wi d i j) (h2:wi d j k):wi d i k:=by
 refine ⟨by have:=h1.1;have:=h2.1;omega,fun m hm hk=>?_⟩;by_cases e:m<=j
 ·exact h1.2 m hm e
 ·have:=h2.2 m (by omega) hk;have:=h1.2 j h1.1 (Nat.le_refl _);omega
theorem leaves_all (hR:RightP d kd n) {S:Nat->Bool} (hL:LegS d kd n S) {i:Nat} (hi:i < n) :
 S i=true ↔ ∃ k,k < n/\S k=true/\leafB (kd k)=true/\(k=i\/wi d i k):=by
 constructor
 ·have:∀ m i,n - i=m->i < n->S i=true->∃ k,k < n/\S k=true/\leafB (kd k)=true/\(k=i\/wi d i k):=by
   intro m
   induction m using Nat.strongRecOn with
   | ind m ih =>
   intro i hm hi hS;by_cases hl:leafB (kd i)=true
   ·exact ⟨i,hi,hS,hl,Or.inl rfl⟩
   ·have hk:=(hR.fine i hi).kind;have hp:=(hL.lt i hS).2;have:∃ k,k ∈ kids d n i/\S k=true:=by
     by_cases k2:kd i=2
     ·obtain ⟨k,a,b,_⟩:=hL.one i hS k2;exact ⟨k,a,b⟩
     ·have k3:kd i=3:=by
       simp only [leafB,Bool.or_eq_true,decide_eq_true_eq] at hl;unfold pastP at hp;omega
      obtain ⟨k,a,_⟩:=(hR.fil i hi).2.2 (Or.inr k3);exact ⟨k,a,hL.both i hS k3 k a⟩
    obtain ⟨k,hk1,hk2⟩:=this;obtain ⟨m1,m2⟩:=mem_kids.1 hk1;have hlt:=(hR.nst.kid m1 m2).1;obtain ⟨x,h1,h2,h3,h4⟩:=ih (n - k) (by omega) k rfl m1 hk2;refine ⟨x,h1,h2,h3,Or.inr ?_⟩;have hik:wi d i k:=(hR.nst.wi_par m1).2 ⟨i,m2,Or.inl rfl⟩;rcases h4 with e | e
    ·exact e ▸ hik
    ·exact wi_trans hik e
  exact this _ i rfl hi
 ·rintro ⟨k,h1,h2,_,h4⟩;rcases h4 with e | e
  ·exact e ▸ h2
  ·have:∀ k,k < n->S k=true->wi d i k->S i=true:=by
    intro k
    induction k using Nat.strongRecOn with
    | ind k ih =>
    intro h1 h2 h4;obtain ⟨p,hp,hr⟩:=(hR.nst.wi_par h1).1 h4;have hS:=hL.up k h2 p hp;have:=(hR.nst.kid h1 hp).1;rcases hr with e | e
    ·exact e ▸ hS
    ·exact ih p this (by omega) hS e
   exact this k h1 h2 e
noncomputable def aboveB (d:Nat->Int) (ls:List Nat) (i:Nat):Bool:=ls.any fun k=>decide (k=i) || decide (wi d i k)
theorem above_all (hR:RightP d kd n) {S:Nat->Bool} (hL:LegS d kd n S) {i:Nat} (hi:i < n) :
 aboveB d (((List.range n).filter S).filter fun k=>leafB (kd k)) i=S i:=by
 rw [Bool.eq_iff_iff,leaves_all hR hL hi];unfold aboveB;rw [List.any_eq_true];simp only [List.mem_filter,List.mem_range,Bool.or_eq_true,decide_eq_true_eq];constructor
 ·rintro ⟨k,⟨⟨h1,h2⟩,h3⟩,h4⟩;exact ⟨k,h1,h2,h3,h4⟩
 ·rintro ⟨k,h1,h2,h3,h4⟩;exact ⟨k,⟨⟨h1,h2⟩,h3⟩,h4⟩
theorem above_filter (hR:RightP d kd n) {S:Nat->Bool} (hL:LegS d kd n S) :
 (List.range n).filter (aboveB d (((List.range n).filter S).filter fun k=>leafB (kd k)))=(List.range n).filter S :=
 List.filter_congr fun _ hi=>above_all hR hL (List.mem_range.1 hi)
end
end Go.Proofs.YtcnfcililiehlaaGreatDoor.Tr
