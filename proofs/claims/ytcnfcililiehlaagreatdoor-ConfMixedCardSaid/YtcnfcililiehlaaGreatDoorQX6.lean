import Derived.Test.YtcnfcililiehlaaGreatDoorR1
import Derived.Test.YtcnfcililiehlaaGreatDoorR2
import Derived.Test.YtcnfcililiehlaaGreatDoorR3
import Derived.Test.YtcnfcililiehlaaGreatDoorR4
import Derived.Test.YtcnfcililiehlaaGreatDoorR5
import Derived.Test.YtcnfcililiehlaaGreatDoorR6
import Derived.Test.YtcnfcililiehlaaGreatDoorR7
import Derived.Test.YtcnfcililiehlaaGreatDoorR8
import Derived.Test.YtcnfcililiehlaaGreatDoorR9
import Derived.Test.YtcnfcililiehlaaGreatDoorR10
import Derived.Test.YtcnfcililiehlaaGreatDoorR11
import Derived.Test.YtcnfcililiehlaaGreatDoorR12
import Derived.Test.YtcnfcililiehlaaGreatDoorR13
import Derived.Test.YtcnfcililiehlaaGreatDoorR14
import Derived.Test.YtcnfcililiehlaaGreatDoorR15
import Derived.Test.YtcnfcililiehlaaGreatDoorR16
import Derived.Test.YtcnfcililiehlaaGreatDoorR17
import Derived.Test.YtcnfcililiehlaaGreatDoorR18
import Derived.Test.YtcnfcililiehlaaGreatDoorR19
import Derived.Test.YtcnfcililiehlaaGreatDoorR20
import Derived.Test.YtcnfcililiehlaaGreatDoorR21
import Derived.Test.YtcnfcililiehlaaGreatDoorR22
import Derived.Test.YtcnfcililiehlaaGreatDoorR23
import Derived.Test.YtcnfcililiehlaaGreatDoorR24
import Derived.Test.YtcnfcililiehlaaGreatDoorR25
import Derived.Test.YtcnfcililiehlaaGreatDoorR26
import Derived.Test.YtcnfcililiehlaaGreatDoorR27
import Derived.Test.YtcnfcililiehlaaGreatDoorR28
import Derived.Test.YtcnfcililiehlaaGreatDoorR29
import Derived.Test.YtcnfcililiehlaaGreatDoorR30
import Derived.Test.YtcnfcililiehlaaGreatDoorR31
import Derived.Test.YtcnfcililiehlaaGreatDoorR32
import Derived.Test.YtcnfcililiehlaaGreatDoorR33
import Derived.Test.YtcnfcililiehlaaGreatDoorR34
import Derived.Test.YtcnfcililiehlaaGreatDoorR35
import Derived.Test.YtcnfcililiehlaaGreatDoorR36
import Derived.Test.YtcnfcililiehlaaGreatDoorQX1
import Derived.Test.YtcnfcililiehlaaGreatDoorQX2
import Derived.Test.YtcnfcililiehlaaGreatDoorQX3
import Derived.Test.YtcnfcililiehlaaGreatDoorQX4
import Derived.Test.YtcnfcililiehlaaGreatDoorQX5
import Derived.OwnWalk
namespace Go.Proofs.YtcnfcililiehlaaGreatDoor.Tr
section
variable {d kd:Nat->Int} {n:Nat} {ps:List Nat} {i m:Nat} {f F:List Bool}
theorem someS_skip (hd:d i ≠ 0) (h:onB f i=false):someS d kd n ps i (f,m)=(f,m):=by simp [someS,hd,h]
theorem someS_both (hF:F=if d i=0 then f.set i true else f) (h:onB F i=true) (k3:kd i=3):someS d kd n ps i (f,m)=(setAll F (real d kd n i),m):=by
 unfold someS;simp only [<- hF];rw [if_neg (by rw [h];simp),if_pos k3]
theorem someS_one (hF:F=if d i=0 then f.set i true else f) (h:onB F i=true) (k2:kd i=2):someS d kd n ps i (f,m)=(F.set ((real d kd n i)[choice ps m % (real d kd n i).length]?.getD 0) true,m+1):=by
 unfold someS;simp only [<- hF];rw [if_neg (by rw [h];simp),if_neg (by omega),if_pos k2]
theorem someS_else (hF:F=if d i=0 then f.set i true else f) (h:onB F i=true) (k2:kd i ≠ 2) (k3:kd i ≠ 3):someS d kd n ps i (f,m)=(F,m):=by
 unfold someS;simp only [<- hF];rw [if_neg (by rw [h];simp),if_neg k3,if_neg k2]
theorem real_lt {k:Nat} (h:k ∈ real d kd n i):k < n:=(kid_lt (List.mem_filter.1 h).1).2
theorem someS_bound (s:List Bool × Nat):(someS d kd n ps i s).2<=s.2+1/\(someS d kd n ps i s).1.length=s.1.length:=by
 unfold someS
 dsimp only
 have h0:(if d i=0 then s.1.set i true else s.1).length=s.1.length:=by split <;> simp
 generalize (if d i=0 then s.1.set i true else s.1)=F at *
 by_cases h1:onB F i=false
 ·rw [if_pos h1];exact ⟨Nat.le_succ _,h0⟩
 ·rw [if_neg h1];by_cases h3:kd i=3
  ·rw [if_pos h3];exact ⟨Nat.le_succ _,(setAll_len _ _).trans h0⟩
  ·rw [if_neg h3];by_cases h2:kd i=2
   ·rw [if_pos h2];exact ⟨Nat.le_refl _,by rw [List.length_set];exact h0⟩
   ·rw [if_neg h2];exact ⟨Nat.le_succ _,h0⟩
theorem someF_cnt:∀ i,(someF d kd n ps i).2<=i
 | 0=>Nat.le_refl _
 | i+1=>Nat.le_trans (someS_bound (i:=i) (someF d kd n ps i)).1 (Nat.succ_le_succ (someF_cnt i))
theorem someF_len (d kd:Nat->Int) (n:Nat) (ps:List Nat):∀ i,(someF d kd n ps i).1.length=n
 | 0=>by simp [someF]
 | i+1=>(someS_bound (i:=i) (someF d kd n ps i)).2.trans (someF_len d kd n ps i)
theorem setAll_succ (f:List Bool) (ks:List Nat) {k:Nat} (hk:k < ks.length):setAll f (ks.take (k+1))=(setAll f (ks.take k)).set ks[k] true:=by
 unfold setAll;rw [List.take_succ_eq_append_getElem hk,List.foldl_append];rfl
end
end Go.Proofs.YtcnfcililiehlaaGreatDoor.Tr
namespace Go.Proofs.YtcnfcililiehlaaGreatDoor.Ch.Vd
open Go.RowKit
def blV (f:List Bool):List Value:=f.map fun b:Bool=>Value.bool b
def kvB (ps:List Nat):List Value:=ps.map fun k:Nat=>Value.int .u8 (k:Int)
section
variable {w:World} {B:Nat} {e:TypeId} {size n cap g:Nat} {xs:List Value}
theorem own_cells10 (h:w.ownsRow B e size (.slice (some ⟨g,0,none⟩) n cap) n xs):∃ cur:Array Value,B<=g/\w.heap[g]?=some (.cells cur e (0,0))/\n<=cap/\cap<=maxLen/\cur.size=cap * size/\cur.toList.take (n * size)=xs:=by
 obtain ⟨_,⟨hv,_⟩ | ⟨g',cap',cur,hv,h1,h2,h3,h4,h5,h6⟩⟩:=h
 ·cases hv
 ·simp only [Value.slice.injEq,Option.some.injEq,Addr.mk.injEq,and_true,true_and] at hv;obtain ⟨rfl,rfl⟩:=hv;exact ⟨cur,h1,h2,h3,h4,h5,h6⟩
theorem own_frozen10 (h:w.ownsRow B e size (.slice (some ⟨g,0,none⟩) n cap) n xs) (j:Nat):w.frozen? ⟨g,j,none⟩=false:=by
 obtain ⟨cur,_,h2,_⟩:=own_cells10 h;simp [World.frozen?,h2]
theorem own_set10 (h:w.ownsRow B e size (.slice (some ⟨g,0,none⟩) n cap) n xs) (j:Nat) (u:Value):(w.setCell ⟨g,j,none⟩ u).ownsRow B e size (.slice (some ⟨g,0,none⟩) n cap) n (xs.set j u):=by
 obtain ⟨cur,h1,h2,h3,h4,h5,h6⟩:=own_cells10 h;refine ⟨by rw [List.length_set];exact h.1,Or.inr ⟨g,cap,cur.setIfInBounds j u,rfl,h1,heap_setCell_same _ _ _ _ _ _ h2,h3,h4,by simpa using h5,?_⟩⟩;rw [Array.toList_setIfInBounds,<- h6,List.take_set]
end
theorem bl_cell {w:World} {B g n cap:Nat} {F:List Bool} (h:w.ownsRow B 4 1 (.slice (some ⟨g,0,none⟩) n cap) n (blV F)) {j:Nat} (hj:j < F.length):w.cell? ⟨g,j,none⟩=some (.bool (Tr.onB F j)):=by
 have hc:=h.cells (g:=g) rfl j (.bool (Tr.onB F j)) (by unfold blV Tr.onB;rw [List.getElem?_map,List.getElem?_eq_getElem hj];rfl);have hadd:(⟨g,0,none⟩:Addr).add j=⟨g,j,none⟩:=by unfold Addr.add;split <;> simp_all
 rwa [hadd] at hc
theorem bl_set {w:World} {B g n cap:Nat} {F:List Bool} (h:w.ownsRow B 4 1 (.slice (some ⟨g,0,none⟩) n cap) n (blV F)) (j:Nat) :
 (w.setCell ⟨g,j,none⟩ (.bool true)).ownsRow B 4 1 (.slice (some ⟨g,0,none⟩) n cap) n (blV (F.set j true))/\Kp g w (.slice none 0 0) (w.setCell ⟨g,j,none⟩ (.bool true)) (.slice none 0 0):=by
 have h1:=own_set10 h j (.bool true);refine ⟨?_,⟨(KeepsWalks.setCell w ⟨g,j,none⟩ (.bool true)).size,fun k hk hne _=>Below.heap_setCell _ _ _ k (fun e=>hne e),fun k hk=>Or.inl hk⟩⟩;have e:blV (F.set j true)=(blV F).set j (.bool true):=by unfold blV;rw [List.map_set]
 rw [e];exact h1
theorem below_set {g:Nat} {wb w:World} (hb:Below g wb w) (j:Nat) (u:Value):Below g wb (w.setCell ⟨g,j,none⟩ u):=hb.setCell (Nat.le_refl _) u
def reK (c:CH) (i k:Nat):List Nat:=((kidC c i).take k).filter fun x=>!decide (Tr.pastP (kC c.ss x))
theorem reK_succ (c:CH) (i:Nat) {k:Nat} (hk:k < (kidC c i).length):reK c i (k+1)=reK c i k++(if Tr.pastP (kC c.ss (kidC c i)[k]) then [] else [(kidC c i)[k]]):=by
 unfold reK;rw [List.take_succ_eq_append_getElem hk,List.filter_append];by_cases h:Tr.pastP (kC c.ss (kidC c i)[k])
 ·simp [h]
 ·simp [h]
theorem reK_len (c:CH) (i k:Nat):(reK c i k).length<=(kidC c i).length:=by
 refine Nat.le_trans (List.length_filter_le _ _) ?_;rw [List.length_take];omega
theorem reK_all (c:CH) (i:Nat):reK c i (kidC c i).length=Tr.real (dC c.ss) (kC c.ss) c.ss.length i:=by
 unfold reK;rw [List.take_length];rfl
def onK (f:List Bool) (k:Nat):List Nat:=(List.range k).filter (Tr.onB f)
theorem onK_succ (f:List Bool) (k:Nat):onK f (k+1)=onK f k++(if Tr.onB f k=true then [k] else []):=by
 unfold onK;rw [List.range_succ,List.filter_append];by_cases h:Tr.onB f k=true
 ·simp [h]
 ·simp [h]
theorem onK_len (f:List Bool) (k:Nat):(onK f k).length<=k:=by
 have:=List.length_filter_le (Tr.onB f) (List.range k);rw [List.length_range] at this;exact this
theorem tmod_nat (a b:Nat):((a:Int).tmod (b:Int))=((a % b:Nat):Int):=rfl
theorem made_false (n:Nat):(madeCells #[Value.bool false] n).toList=blV (List.replicate n false):=by
 unfold madeCells blV;rw [List.map_replicate];refine List.ext_getElem (by simp) fun i h1 h2=>?_
 simp [Nat.mod_one]
structure PsIn (w:World) (u:Value) (ps:List Nat):Prop where
 inn:Inn w 1 u ps.length (kvB ps)
 lt:∀ p ∈ ps,p < 256
 len:ps.length<=4611686018427387904
theorem infoBool10:(Tryz.prog.info? 4).map (fun i=>(i.zero,i.size,i.bytes))=some (some (.bool false),1,1):=by kernel_rfl
set_option maxRecDepth 100000 in
set_option maxHeartbeats 32000000 in
theorem refSome_any {w:World} {c:CH} {eV vV sV tV u:Value} {sp:List SP} {tp:List TP} {ps:List Nat} (h:ChM w c eV vV sV tV sp tp) (hT:treeP c) (hU:PsIn w u ps) :
 Calls Tryz.prog 19 #[chA c eV vV sV tV,u] w fun e w'=>(∃ v,e=.returned v/\w'.ownsRow w.heap.size 3 1 v (Tr.someL (dC c.ss) (kC c.ss) c.ss.length ps).length (Tr.kvN (Tr.someL (dC c.ss) (kC c.ss) c.ss.length ps)))/\Below w.heap.size w w':=by
 obtain ⟨i0,hi0,hz0,hz1,hz2⟩:=info_parts Tr.Tryz.infoInt;have HII:=Lib.hid hi0;have HZ0:=Lib.hid hz0;have HZ1:=Lib.hid hz1;have HZ2:=Lib.hid hz2;obtain ⟨ib,hib0,hib1,hib2,hib3⟩:=info_parts infoBool10;have HIB:=Lib.hid hib0;have HY0:=Lib.hid hib1;have HY1:=Lib.hid hib2;have HY2:=Lib.hid hib3;clear hi0 hz0 hz1 hz2 hib0 hib1 hib2 hib3;have hn40:=hT.le;have hpos:=hT.pos;have hss:=h.sLen;have hrp:∀ i,i < c.ss.length->kC c.ss i=2->0 < (Tr.real (dC c.ss) (kC c.ss) c.ss.length i).length:=fun i hi hk=>by
  obtain ⟨k,a,b⟩:=(hT.fil i hi).2.2 (Or.inl hk);exact List.length_pos_of_mem (List.mem_filter.2 ⟨a,by simp [b]⟩)
 have hki:=fun W (hW:Below w.heap.size w W) i (hi:i < c.ss.length)=>rKids (h.below hW) hT hi
 obtain ⟨M,A1,A2,A3,A4,k1,k2,k3,k4,wb,hM,rfl,rfl,rfl,rfl,hwb,hb1,hbz,d0,d1,d2,d3,d4⟩:=box_ch h;obtain ⟨b,o,X,Y,a4,a5,m4,q4,m5,q5,rfl,hbw,hXY,hcs⟩:=ch_states h hpos;obtain ⟨Ap,kp,rfl⟩:=hU.inn.form;have HD:=Lib.hid (cells_later d0 d1 d2 d3 d4);have HW:=Lib.hid hwb;have HB:=Lib.hid hb1;have HCS:=Lib.hid hcs;have HKI:=Lib.hid hki;have HRP0:=Lib.hid hrp;have HPI:=Lib.hid hU.inn;have HPLT:=Lib.hid hU.lt;have hpl:=hU.len;obtain ⟨L,hL⟩:∃ x,Tr.someL (dC c.ss) (kC c.ss) c.ss.length ps=x:=⟨_,rfl⟩
 rw [hL];have hl2:L=onK (Tr.someF (dC c.ss) (kC c.ss) c.ss.length ps c.ss.length).1 c.ss.length:=by rw [<- hL];rfl
 have HL:=Lib.hid hl2;unfold chA;rw [hM];obtain ⟨n,hn⟩:∃ n,c.ss.length=n:=⟨_,rfl⟩
 obtain ⟨pl,hpln⟩:∃ n,ps.length=n:=⟨_,rfl⟩
 have HPLN:=Lib.hid hpln;simp only [hpln] at hpl HPI ⊢;rw [hn] at hss hn40 hpos;simp only [hn] at HCS HKI HRP0 HL;simp only [hss] at HW HD HKI d3 ⊢;have HN:=Lib.hid hn;clear h hT hU hn hL hl2 hwb hb1 hss hcs hXY hbw hM hki hrp hpln;generalize c.es.length=n1 at *;generalize c.vs.length=n2 at *;generalize tp.length=n4 at *
 clear hbz
 go_enter Tryz.func19,Tryz.ntmps19
 go_upto_region 1 with fail
 rw [<- HW.out]
 go_wp2_with (at_make;refine wpList_make_full _ rfl (.tmp 17) (.tmp 17) 64 rfl wb.heap.size 4 ib _ 1 Tryz.underlying64 HIB.out HY0.out HY1.out .i64 .i64 (n:Int) (n:Int) n rfl rfl rfl rfl (by rw [HY2.out];omega) (by unfold maxLen;omega) (Nat.le_refl _) ?_)
 intro w1 hown hgr;have hcells:(madeCells #[Value.bool false] n).toList=blV (Tr.someF (dC c.ss) (kC c.ss) n ps 0).1:=made_false n;rw [hcells] at hown;have HO1:=Lib.hid hown;have HB1:Hid (Below wb.heap.size wb w1):=by
  exact (Below.refl wb.heap.size wb).grown hgr (Nat.le_refl _) (fun k hk=>by cases hk)
 clear hown hgr hcells;go_wp2
 go_loopw [6,7,8,9,10,11,12] (fun x6 x7 _ _ _ _ _ wr=>∃ i:Nat,i<=n/\x7=.int .i64 i/\x6=.int .i64 (Tr.someF (dC c.ss) (kC c.ss) n ps i).2/\wr.ownsRow wb.heap.size 4 1 (.slice (some ⟨wb.heap.size,0,none⟩) n n) n (blV (Tr.someF (dC c.ss) (kC c.ss) n ps i).1)/\Below wb.heap.size wb wr) (fun _ x _ _ _ _ _ _=>n - (intOf x).toNat)
 case atStart=>exact ⟨0,by omega,rfl,rfl,HO1.out,HB1.out⟩
 case round =>
  obtain ⟨i,hi,rfl,rfl,hof,hbw⟩:=hrel;obtain ⟨W0,hW0⟩:∃ X,X=wr:=⟨_,rfl⟩
  subst hW0;have hsW0:=hbw.size;have HBW0:=Lib.hid hbw;obtain ⟨⟨f,m⟩,hfm⟩:∃ s,Tr.someF (dC c.ss) (kC c.ss) n ps i=s:=⟨_,rfl⟩
  have hcnt:=Tr.someF_cnt (d:=dC c.ss) (kd:=kC c.ss) (n:=n) (ps:=ps) i;have hlen:=Tr.someF_len (dC c.ss) (kC c.ss) n ps i;simp only [hfm] at hof hcnt hlen ⊢;have HOF0:=Lib.hid hof;have HMC:Hid (m<=i):=hcnt;obtain ⟨f0,f1,f2,f3,f4⟩:=HD.out W0 hbw;by_cases hin:i < n
  ·have hsu:Tr.someF (dC c.ss) (kC c.ss) n ps (i+1)=Tr.someS (dC c.ss) (kC c.ss) n ps i (f,m):=by
    show Tr.someS (dC c.ss) (kC c.ss) n ps i (Tr.someF (dC c.ss) (kC c.ss) n ps i)=_;rw [hfm]
   have HSU:=Lib.hid hsu;obtain ⟨_,_,r2,_,_,_⟩:=HCS.out W0 (HB.out.trans (hbw.mono HB.out.size)) i hin;clear hfm hsu hbw hcnt;by_cases hd:dC c.ss i=0
   ·obtain ⟨F,hF0⟩:∃ x,x=f.set i true:=⟨_,rfl⟩
    have hF:F=if dC c.ss i=0 then f.set i true else f:=by rw [if_pos hd];exact hF0
    have hFi:Tr.onB F i=true:=by rw [hF0,Tr.onB_set (by rw [hlen];exact hin)];simp
    have HFL:Hid (F.length=n):=by show F.length=n;rw [hF0,List.length_set];exact hlen
    have HS1:Hid (kC c.ss i ≠ 2->kC c.ss i ≠ 3->Tr.someF (dC c.ss) (kC c.ss) n ps (i+1)=(F,m)):=fun a b=>HSU.out.trans (Tr.someS_else hF hFi a b)
    have HS2:Hid (kC c.ss i=2->Tr.someF (dC c.ss) (kC c.ss) n ps (i+1)=(F.set ((Tr.real (dC c.ss) (kC c.ss) n i)[Tr.choice ps m % (Tr.real (dC c.ss) (kC c.ss) n i).length]?.getD 0) true,m+1)):=fun a=>HSU.out.trans (Tr.someS_one hF hFi a)
    have HS3:Hid (kC c.ss i=3->Tr.someF (dC c.ss) (kC c.ss) n ps (i+1)=(Tr.setAll F (Tr.real (dC c.ss) (kC c.ss) n i),m)):=fun a=>HSU.out.trans (Tr.someS_both hF hFi a)
    have hfl:i < f.length:=by rw [hlen];exact hin
    have q1:=bl_cell hof hfl;have q2:=own_frozen10 hof i;obtain ⟨h1,_⟩:=bl_set hof i;have h3:=below_set HBW0.out i (.bool true);obtain ⟨W,hW⟩:∃ X,X=W0.setCell ⟨wb.heap.size,i,none⟩ (.bool true):=⟨_,rfl⟩
    rw [<- hW,<- hF0] at h1;rw [<- hW] at h3;have HOF:=Lib.hid h1;have HBW:=Lib.hid h3;have HWW:=Lib.hid hW;have c2:=bl_cell h1 (by rw [HFL.out];exact hin);rw [hFi] at c2;rw [hd] at r2;clear hd hF hFi hof h1 h3 hW hfl hlen hF0
    go_upto_region 8 with fail
    rw [<- HWW.out];clear q1 q2 r2 f0 f1 f2 f3 f4;have hsW:=HBW.out.size;have hgW:=(HOF.out.lt wb.heap.size rfl).2;obtain ⟨f0,f1,f2,f3,f4⟩:=HD.out W HBW.out
    go_wp2_with fail
    refine (HKI.out W (HB.out.trans (HBW.out.mono HB.out.size)) i hin).mono ?_;rintro e W2 ⟨⟨v,rfl,hv⟩,hb2⟩;obtain ⟨A6,c6,rfl⟩:=own_slice hv;have HRK:=Lib.hid (Tr.rdZ_own hv);have HOF2:=Lib.hid (own_below HOF.out hb2);have HBW2:=Lib.hid (HBW.out.trans (hb2.mono hsW));have hs2:=hb2.size;clear hb2 hv f0 f1 f2 f3 f4 c2;have HRS:=Lib.hid (fun k (hk:k < (kidC c i).length)=>reK_succ c i hk);have HRL:=Lib.hid (reK_len c i);have HRA:=Lib.hid (reK_all c i);have hkl:=kidC_len c i;have HKM:Hid (∀ x ∈ kidC c i,x < n):=fun x hx=>by
     have:=(Tr.kid_lt hx).2;rw [HN.out] at this;exact this
    rw [HN.out] at hkl;obtain ⟨kn,hkn⟩:∃ x,(kidC c i).length=x:=⟨_,rfl⟩
    rw [hkn] at HRA HRL hkl ⊢;have HKN:=Lib.hid hkn;clear hkn;go_wp2
    go_loopw [9,10] (fun x9 x10 wr=>∃ k:Nat,k<=kn/\x10=.int .i64 k/\wr.ownsRow W2.heap.size 3 1 x9 (reK c i k).length (Tr.kvN (reK c i k))/\Below W2.heap.size W2 wr) (fun _ x _=>kn - (intOf x).toNat)
    case atStart=>exact ⟨0,by omega,rfl,World.ownsRow_nil _ _ _ _,Below.refl _ _⟩
    case round =>
     obtain ⟨k,hk,rfl,hown,hbk⟩:=hrel;obtain ⟨W3,hW3⟩:∃ X,X=wr:=⟨_,rfl⟩
     subst hW3;obtain ⟨A9,c9,rfl⟩:=own_slice hown;have HO9:=Lib.hid hown;have HB9:=Lib.hid hbk;have HB3:=Lib.hid (HBW2.out.trans (hbk.mono HBW2.out.size));have hs3:=hbk.size;have hrl:=HRL.out k;obtain ⟨f0,f1,f2,f3,f4⟩:=HD.out W3 HB3.out;by_cases hkk:k < kn
     ·have hkm:k < (kidC c i).length:=by rw [HKN.out];exact hkk
      obtain ⟨b',o',rfl,_,hc⟩:=(HRK.out.below hbk).at_ (k:=k) (by rw [Tr.toI_len];exact hkm);have hx:(Tr.toI (kidC c i))[k]'(by rw [Tr.toI_len];exact hkm)=(((kidC c i)[k]:Nat):Int):=by unfold Tr.toI;rw [List.getElem_map]
      rw [hx] at hc;have hst:=HRS.out k hkm;have hxn:=HKM.out _ (List.getElem_mem hkm);clear hx hown hbk;generalize (kidC c i)[k]=y at *
      obtain ⟨_,r1,_,_,_,_⟩:=HCS.out W3 (HB.out.trans (HB3.out.mono HB.out.size)) y hxn;have HPS:=Lib.hid (fun W=>past_q (kC c.ss y) W);by_cases hp:Tr.pastP (kC c.ss y)
      ·rw [decide_eq_true hp] at HPS;rw [if_pos hp,List.append_nil] at hst;have HST:=Lib.hid hst;clear hst hp;go_wp2
       go_quiet ((go_at_call 36;first | exact quiet_z (HPS.out _) | exact quiet_w HPS.out))
       go_wp2
       go_roundw
       case rel=>exact ⟨k+1,by omega,by go_num,by rw [HST.out];exact own_below HO9.out (below_drewN (Below.refl _ _) _),below_drewN HB9.out _⟩
       case measure=>simp [intOf] <;> omega
      ·rw [decide_eq_false hp] at HPS;rw [if_neg hp] at hst;have HST:=Lib.hid hst;clear hst hp;go_wp2
       go_quiet ((go_at_call 36;first | exact quiet_z (HPS.out _) | exact quiet_w HPS.out))
       obtain ⟨W4,hW4⟩:∃ X,X=W3.drewN nq:=⟨_,rfl⟩
       have HO4:Hid (W4.ownsRow W2.heap.size 3 1 (.slice A9 (reK c i k).length c9) (reK c i k).length (Tr.kvN (reK c i k))):=by rw [hW4];exact own_below HO9.out (below_drewN (Below.refl _ _) _)
       have HB4:Hid (Below W2.heap.size W2 W4):=by rw [hW4];exact below_drewN HB9.out _
       have hs4:=HB4.out.size;have hc4:W4.cell? ⟨b',o'+k,none⟩=some (.int .i64 (y:Nat)):=by rw [hW4];exact hc
       rw [<- hW4];clear hW4 hc f0 f1 f2 f3 f4 r1
       go_wp2_with (at_builtin;refine wpList_append_own _ rfl _ _ 29 rfl W2.heap.size 3 i0 _ 1 8 Tryz.underlying29 HII.out HZ0.out HZ1.out HZ2.out rfl (by decide) _ (reK c i k).length (Tr.kvN (reK c i k)) rfl (HO4.out.alloc _) ⟨W4.heap.size,0,none⟩ 1 1 [.int .i64 y] rfl rfl (Tr.one_int W4 _) (by intro u hu;simp at hu;subst hu;rfl) (by unfold maxLen;omega) (by omega) (by simp;omega) ?_)
       intro v' w5 hown' hgrow _;have HO5:Hid (w5.ownsRow W2.heap.size 3 1 v' (reK c i (k+1)).length (Tr.kvN (reK c i (k+1)))):=by
        show World.ownsRow _ _ _ _ _ _ _;rw [HST.out,List.length_append]
        simpa [Tr.kvN] using hown'
       have HB5:Hid (Below W2.heap.size W2 w5):=(HB4.out.alloc hs4 (.cells #[.int .i64 (y:Int)] 3)).grown hgrow (by simp;omega) (fun j hj=>(HO4.out.lt j hj).1);clear hown' hgrow;go_wp2
       go_roundw
       case rel=>exact ⟨k+1,by omega,by go_num,HO5.out,HB5.out⟩
       case measure=>simp [intOf] <;> omega
     ·obtain rfl:k=kn:=by omega
      rw [HRA.out,HN.out] at HO9 hrl ⊢;have HRM:Hid (∀ x ∈ Tr.real (dC c.ss) (kC c.ss) n i,x < n):=fun x hx=>Tr.real_lt hx
      have HRP:=Lib.hid (HRP0.out i hin);obtain ⟨rs,hrs⟩:∃ x,Tr.real (dC c.ss) (kC c.ss) n i=x:=⟨_,rfl⟩
      rw [hrs] at HO9 hrl HRM HRP HS2 HS3 ⊢;have HRZ:=Lib.hid (Tr.rdZ_own HO9.out);have HOF3:=Lib.hid (own_below HOF2.out hbk);have hlo9:=fun q hq=>(HO9.out.lt q hq).1
      have HL9:=Lib.hid hlo9;obtain ⟨rl,hrl2⟩:∃ x,rs.length=x:=⟨_,rfl⟩
      rw [hrl2] at hrl HRP HS2 ⊢;have HRL2:=Lib.hid hrl2;obtain ⟨_,r1,_,_,_,_⟩:=HCS.out W3 (HB.out.trans (HB3.out.mono HB.out.size)) i hin;clear hown hbk hrs hlo9 hrl2;by_cases k3':kC c.ss i=3
      ·have HS:=Lib.hid (HS3.out k3');rw [k3'] at r1;have HK3:=Lib.hid k3';clear k3';go_wp2
       go_loopw [11] (fun x11 wr=>∃ k:Nat,k<=rl/\x11=.int .i64 k/\wr.ownsRow wb.heap.size 4 1 (.slice (some ⟨wb.heap.size,0,none⟩) n n) n (blV (Tr.setAll F (rs.take k)))/\Below wb.heap.size wb wr/\Kp wb.heap.size W3 (.slice none 0 0) wr (.slice none 0 0)) (fun x _=>rl - (intOf x).toNat)
       case atStart=>exact ⟨0,by omega,rfl,HOF3.out,HB3.out,Kp.refl _ _ _⟩
       case round =>
        obtain ⟨k,hk,rfl,hof,hbk,hkp⟩:=hrel;obtain ⟨W5,hW5⟩:∃ X,X=wr:=⟨_,rfl⟩
        subst hW5;by_cases hkr:k < rl
        ·have hkm:k < rs.length:=by rw [HRL2.out];exact hkr
         obtain ⟨b',o',rfl,_,hc0⟩:=HRZ.out.at_ (k:=k) (by rw [Tr.toI_len];exact hkm);have hx:(Tr.toI rs)[k]'(by rw [Tr.toI_len];exact hkm)=((rs[k]:Nat):Int):=by unfold Tr.toI;rw [List.getElem_map]
         rw [hx] at hc0;have hbg:=HL9.out b' rfl;have hc:=hkp.cell hc0 (by omega) (by simp [Value.ownBlock]);have hyn:=HRM.out _ (List.getElem_mem hkm);have HSU:=Lib.hid (Tr.setAll_succ F rs hkm);clear hc0 hx;generalize rs[k]=y at *
         have hfl:y < (Tr.setAll F (rs.take k)).length:=by rw [Tr.setAll_len,HFL.out];exact hyn
         have q1:=bl_cell hof hfl;have q2:=own_frozen10 hof y;obtain ⟨h1,h2⟩:=bl_set hof y;have h3:=below_set hbk y (.bool true);obtain ⟨W6,hW6⟩:∃ X,X=W5.setCell ⟨wb.heap.size,y,none⟩ (.bool true):=⟨_,rfl⟩
         rw [<- hW6] at h1 h2 h3;have HO6:=Lib.hid h1;have HK6:=Lib.hid (hkp.trans h2);have HB6:=Lib.hid h3;have HW6:=Lib.hid hW6;clear hof hbk hkp h1 h2 h3 hW6 hfl
         go_upto_region 19 with fail
         rw [<- HW6.out];go_wp2
         go_roundw
         case rel=>exact ⟨k+1,by omega,by go_num,by rw [HSU.out];exact HO6.out,HB6.out,HK6.out⟩
         case measure=>simp [intOf] <;> omega
        ·obtain rfl:k=rl:=by omega
         have hall:rs.take k=rs:=by rw [<- HRL2.out];exact List.take_length
         rw [hall] at hof;have HO6:=Lib.hid hof;have HB6:=Lib.hid hbk;obtain ⟨f0,f1,f2,f3,f4⟩:=HD.out W5 hbk;obtain ⟨_,r1,_,_,_,_⟩:=HCS.out W5 (HB.out.trans (hbk.mono HB.out.size)) i hin;rw [HK3.out] at r1;clear hof hbk hkp;go_wp2
         go_roundw
         case rel=>exact ⟨i+1,by omega,by go_num,by rw [HS.out],by rw [HS.out];exact HO6.out,HB6.out⟩
         case measure=>simp [intOf] <;> omega
      ·by_cases k2':kC c.ss i=2
       ·have HS:=Lib.hid (HS2.out k2');have hrp:=HRP.out k2';rw [k2'] at r1;have HK2:=Lib.hid k2';have hm40:m<=40:=by have:=HMC.out;omega
        clear k3' k2';by_cases hpe:pl=0
        ·have HCH:Hid (Tr.choice ps m=0):=if_pos (List.eq_nil_of_length_eq_zero (HPLN.out.trans hpe));obtain ⟨b',o',rfl,_,hc0⟩:=HRZ.out.at_ (k:=0) (by rw [Tr.toI_len,HRL2.out];exact hrp);have hx:(Tr.toI rs)[0]'(by rw [Tr.toI_len,HRL2.out];exact hrp)=((rs[0]'(by rw [HRL2.out];exact hrp):Nat):Int):=by unfold Tr.toI;rw [List.getElem_map]
         rw [hx,Nat.add_zero] at hc0;have hgt:rs[Tr.choice ps m % rl]?.getD 0=rs[0]'(by rw [HRL2.out];exact hrp):=by
          rw [HCH.out,Nat.zero_mod,List.getElem?_eq_getElem (by rw [HRL2.out];exact hrp)];rfl
         rw [hgt] at HS;have hyn:=HRM.out _ (List.getElem_mem (show 0 < rs.length by rw [HRL2.out];exact hrp));clear hx hgt;generalize rs[0]'(by rw [HRL2.out];exact hrp)=y at *
         subst hpe;have z1:(0:Int).tmod (rl:Int)=0:=Int.zero_tmod _;have z2:¬ ((rl:Int)=0):=by omega
         have z3:¬ (rl=0):=by omega
         have hfl:y < F.length:=by rw [HFL.out];exact hyn
         have hof:=HOF3.out;have q1:=bl_cell hof hfl;have q2:=own_frozen10 hof y;obtain ⟨h1,h2⟩:=bl_set hof y;have h3:=below_set HB3.out y (.bool true);obtain ⟨W6,hW6⟩:∃ X,X=W3.setCell ⟨wb.heap.size,y,none⟩ (.bool true):=⟨_,rfl⟩
         rw [<- hW6] at h1 h3;have HO6:=Lib.hid h1;have HB6:=Lib.hid h3;have HW6:=Lib.hid hW6;clear hof h1 h2 h3 hW6 hfl
         go_upto_region 5 with fail
         rw [<- HW6.out];go_wp2
         go_roundw
         case rel=>exact ⟨i+1,by omega,by go_num,by rw [HS.out];go_num,by rw [HS.out];exact HO6.out,HB6.out⟩
         case measure=>simp [intOf] <;> omega
        ·have hplp:m % pl < pl:=Nat.mod_lt _ (by omega);obtain ⟨bp,op,rfl,_,hcp⟩:=(HPI.out.below (HB.out.trans (HB3.out.mono HB.out.size))).at_ (k:=m % pl) hplp;have hcp2:=hcp 0 (.int .u8 ((ps[m % pl]'(by rw [HPLN.out];exact hplp):Nat):Int)) (by unfold kvB;rw [Nat.mul_one,Nat.add_zero,List.getElem?_map,List.getElem?_eq_getElem (by rw [HPLN.out];exact hplp)];rfl);simp only [Nat.mul_one,Nat.add_zero] at hcp2;have HCH:Hid (Tr.choice ps m=ps[m % pl]'(by rw [HPLN.out];exact hplp)):=by
          show Tr.choice ps m=_;unfold Tr.choice;rw [if_neg (fun e=>hpe (by rw [<- HPLN.out,e];rfl)),show m % ps.length=m % pl by rw [HPLN.out],List.getElem?_eq_getElem (by rw [HPLN.out];exact hplp)];rfl
         have hp256:=HPLT.out _ (List.getElem_mem (show m % pl < ps.length by rw [HPLN.out];exact hplp));clear hcp;generalize ps[m % pl]'(by rw [HPLN.out];exact hplp)=p at *
         have hrl0:p % rl < rl:=Nat.mod_lt _ hrp;obtain ⟨b',o',rfl,_,hc0⟩:=HRZ.out.at_ (k:=p % rl) (by rw [Tr.toI_len,HRL2.out];exact hrl0);have hx:(Tr.toI rs)[p % rl]'(by rw [Tr.toI_len,HRL2.out];exact hrl0)=((rs[p % rl]'(by rw [HRL2.out];exact hrl0):Nat):Int):=by unfold Tr.toI;rw [List.getElem_map]
         rw [hx] at hc0;have hgt:rs[Tr.choice ps m % rl]?.getD 0=rs[p % rl]'(by rw [HRL2.out];exact hrl0):=by
          rw [HCH.out,List.getElem?_eq_getElem (by rw [HRL2.out];exact hrl0)];rfl
         rw [hgt] at HS;have hyn:=HRM.out _ (List.getElem_mem (show p % rl < rs.length by rw [HRL2.out];exact hrl0));clear hx hgt;generalize rs[p % rl]'(by rw [HRL2.out];exact hrl0)=y at *
         have z0:(m:Int).tmod (pl:Int)=((m % pl:Nat):Int):=tmod_nat m pl;have z1:(p:Int).tmod (rl:Int)=((p % rl:Nat):Int):=tmod_nat p rl;have z2:¬ ((rl:Int)=0):=by omega
         have z3:¬ (rl=0):=by omega
         have z4:¬ ((pl:Int)=0):=by omega
         have z5:0 < pl:=by omega
         generalize m % pl=mp at *
         generalize p % rl=pr at *
         have hfl:y < F.length:=by rw [HFL.out];exact hyn
         have hof:=HOF3.out;have q1:=bl_cell hof hfl;have q2:=own_frozen10 hof y;obtain ⟨h1,h2⟩:=bl_set hof y;have h3:=below_set HB3.out y (.bool true);obtain ⟨W6,hW6⟩:∃ X,X=W3.setCell ⟨wb.heap.size,y,none⟩ (.bool true):=⟨_,rfl⟩
         rw [<- hW6] at h1 h3;have HO6:=Lib.hid h1;have HB6:=Lib.hid h3;have HW6:=Lib.hid hW6;clear hof h1 h2 h3 hW6 hfl
         go_upto_region 5 with fail
         rw [<- HW6.out];go_wp2
         go_roundw
         case rel=>exact ⟨i+1,by omega,by go_num,by rw [HS.out];go_num,by rw [HS.out];exact HO6.out,HB6.out⟩
         case measure=>simp [intOf] <;> omega
       ·have HS:=Lib.hid (HS1.out k2' k3');have e2:(kC c.ss i==2)=false:=int_ne k2';have e3:(kC c.ss i==3)=false:=int_ne k3';clear k2' k3';go_wp2
        go_roundw
        case rel=>exact ⟨i+1,by omega,by go_num,by rw [HS.out],by rw [HS.out];exact HOF3.out,HB3.out⟩
        case measure=>simp [intOf] <;> omega
   ·have t0:(dC c.ss i==0)=false:=int_ne hd;have hfl:i < f.length:=by rw [hlen];exact hin
    have c2:=bl_cell hof hfl;cases hFi:Tr.onB f i with
    | false =>
     have HS:Hid (Tr.someF (dC c.ss) (kC c.ss) n ps (i+1)=(f,m)):=HSU.out.trans (Tr.someS_skip hd hFi);rw [hFi] at c2;clear hd hFi hof hfl hlen;go_wp2
     go_roundw
     case rel=>exact ⟨i+1,by omega,by go_num,by rw [HS.out],by rw [HS.out];exact HOF0.out,HBW0.out⟩
     case measure=>simp [intOf] <;> omega
    | true =>
     obtain ⟨F,hF0⟩:∃ x,x=f:=⟨_,rfl⟩
     obtain ⟨W,hW⟩:∃ x,x=W0:=⟨_,rfl⟩
     rw [<- hF0] at hFi hof hlen;have hF:F=if dC c.ss i=0 then f.set i true else f:=by rw [if_neg hd];exact hF0
     have HFL:=Lib.hid hlen;have HS1:Hid (kC c.ss i ≠ 2->kC c.ss i ≠ 3->Tr.someF (dC c.ss) (kC c.ss) n ps (i+1)=(F,m)):=fun a b=>HSU.out.trans (Tr.someS_else hF hFi a b)
     have HS2:Hid (kC c.ss i=2->Tr.someF (dC c.ss) (kC c.ss) n ps (i+1)=(F.set ((Tr.real (dC c.ss) (kC c.ss) n i)[Tr.choice ps m % (Tr.real (dC c.ss) (kC c.ss) n i).length]?.getD 0) true,m+1)):=fun a=>HSU.out.trans (Tr.someS_one hF hFi a)
     have HS3:Hid (kC c.ss i=3->Tr.someF (dC c.ss) (kC c.ss) n ps (i+1)=(Tr.setAll F (Tr.real (dC c.ss) (kC c.ss) n i),m)):=fun a=>HSU.out.trans (Tr.someS_both hF hFi a)
     rw [<- hF0,hFi] at c2;have HBW:=HBW0;subst hW;have HOF:=Lib.hid hof;clear hd hF hFi hof hfl hlen hF0;have hsW:=HBW.out.size;have hgW:=(HOF.out.lt wb.heap.size rfl).2;obtain ⟨f0,f1,f2,f3,f4⟩:=HD.out W HBW.out
     go_wp2_with fail
     refine (HKI.out W (HB.out.trans (HBW.out.mono HB.out.size)) i hin).mono ?_;rintro e W2 ⟨⟨v,rfl,hv⟩,hb2⟩;obtain ⟨A6,c6,rfl⟩:=own_slice hv;have HRK:=Lib.hid (Tr.rdZ_own hv);have HOF2:=Lib.hid (own_below HOF.out hb2);have HBW2:=Lib.hid (HBW.out.trans (hb2.mono hsW));have hs2:=hb2.size;clear hb2 hv f0 f1 f2 f3 f4 c2;have HRS:=Lib.hid (fun k (hk:k < (kidC c i).length)=>reK_succ c i hk);have HRL:=Lib.hid (reK_len c i);have HRA:=Lib.hid (reK_all c i);have hkl:=kidC_len c i;have HKM:Hid (∀ x ∈ kidC c i,x < n):=fun x hx=>by
      have:=(Tr.kid_lt hx).2;rw [HN.out] at this;exact this
     rw [HN.out] at hkl;obtain ⟨kn,hkn⟩:∃ x,(kidC c i).length=x:=⟨_,rfl⟩
     rw [hkn] at HRA HRL hkl ⊢;have HKN:=Lib.hid hkn;clear hkn;go_wp2
     go_loopw [9,10] (fun x9 x10 wr=>∃ k:Nat,k<=kn/\x10=.int .i64 k/\wr.ownsRow W2.heap.size 3 1 x9 (reK c i k).length (Tr.kvN (reK c i k))/\Below W2.heap.size W2 wr) (fun _ x _=>kn - (intOf x).toNat)
     case atStart=>exact ⟨0,by omega,rfl,World.ownsRow_nil _ _ _ _,Below.refl _ _⟩
     case round =>
      obtain ⟨k,hk,rfl,hown,hbk⟩:=hrel;obtain ⟨W3,hW3⟩:∃ X,X=wr:=⟨_,rfl⟩
      subst hW3;obtain ⟨A9,c9,rfl⟩:=own_slice hown;have HO9:=Lib.hid hown;have HB9:=Lib.hid hbk;have HB3:=Lib.hid (HBW2.out.trans (hbk.mono HBW2.out.size));have hs3:=hbk.size;have hrl:=HRL.out k;obtain ⟨f0,f1,f2,f3,f4⟩:=HD.out W3 HB3.out;by_cases hkk:k < kn
      ·have hkm:k < (kidC c i).length:=by rw [HKN.out];exact hkk
       obtain ⟨b',o',rfl,_,hc⟩:=(HRK.out.below hbk).at_ (k:=k) (by rw [Tr.toI_len];exact hkm);have hx:(Tr.toI (kidC c i))[k]'(by rw [Tr.toI_len];exact hkm)=(((kidC c i)[k]:Nat):Int):=by unfold Tr.toI;rw [List.getElem_map]
       rw [hx] at hc;have hst:=HRS.out k hkm;have hxn:=HKM.out _ (List.getElem_mem hkm);clear hx hown hbk;generalize (kidC c i)[k]=y at *
       obtain ⟨_,r1,_,_,_,_⟩:=HCS.out W3 (HB.out.trans (HB3.out.mono HB.out.size)) y hxn;have HPS:=Lib.hid (fun W=>past_q (kC c.ss y) W);by_cases hp:Tr.pastP (kC c.ss y)
       ·rw [decide_eq_true hp] at HPS;rw [if_pos hp,List.append_nil] at hst;have HST:=Lib.hid hst;clear hst hp;go_wp2
        go_quiet ((go_at_call 36;first | exact quiet_z (HPS.out _) | exact quiet_w HPS.out))
        go_wp2
        go_roundw
        case rel=>exact ⟨k+1,by omega,by go_num,by rw [HST.out];exact own_below HO9.out (below_drewN (Below.refl _ _) _),below_drewN HB9.out _⟩
        case measure=>simp [intOf] <;> omega
       ·rw [decide_eq_false hp] at HPS;rw [if_neg hp] at hst;have HST:=Lib.hid hst;clear hst hp;go_wp2
        go_quiet ((go_at_call 36;first | exact quiet_z (HPS.out _) | exact quiet_w HPS.out))
        obtain ⟨W4,hW4⟩:∃ X,X=W3.drewN nq:=⟨_,rfl⟩
        have HO4:Hid (W4.ownsRow W2.heap.size 3 1 (.slice A9 (reK c i k).length c9) (reK c i k).length (Tr.kvN (reK c i k))):=by rw [hW4];exact own_below HO9.out (below_drewN (Below.refl _ _) _)
        have HB4:Hid (Below W2.heap.size W2 W4):=by rw [hW4];exact below_drewN HB9.out _
        have hs4:=HB4.out.size;have hc4:W4.cell? ⟨b',o'+k,none⟩=some (.int .i64 (y:Nat)):=by rw [hW4];exact hc
        rw [<- hW4];clear hW4 hc f0 f1 f2 f3 f4 r1
        go_wp2_with (at_builtin;refine wpList_append_own _ rfl _ _ 29 rfl W2.heap.size 3 i0 _ 1 8 Tryz.underlying29 HII.out HZ0.out HZ1.out HZ2.out rfl (by decide) _ (reK c i k).length (Tr.kvN (reK c i k)) rfl (HO4.out.alloc _) ⟨W4.heap.size,0,none⟩ 1 1 [.int .i64 y] rfl rfl (Tr.one_int W4 _) (by intro u hu;simp at hu;subst hu;rfl) (by unfold maxLen;omega) (by omega) (by simp;omega) ?_)
        intro v' w5 hown' hgrow _;have HO5:Hid (w5.ownsRow W2.heap.size 3 1 v' (reK c i (k+1)).length (Tr.kvN (reK c i (k+1)))):=by
         show World.ownsRow _ _ _ _ _ _ _;rw [HST.out,List.length_append]
         simpa [Tr.kvN] using hown'
        have HB5:Hid (Below W2.heap.size W2 w5):=(HB4.out.alloc hs4 (.cells #[.int .i64 (y:Int)] 3)).grown hgrow (by simp;omega) (fun j hj=>(HO4.out.lt j hj).1);clear hown' hgrow;go_wp2
        go_roundw
        case rel=>exact ⟨k+1,by omega,by go_num,HO5.out,HB5.out⟩
        case measure=>simp [intOf] <;> omega
      ·obtain rfl:k=kn:=by omega
       rw [HRA.out,HN.out] at HO9 hrl ⊢;have HRM:Hid (∀ x ∈ Tr.real (dC c.ss) (kC c.ss) n i,x < n):=fun x hx=>Tr.real_lt hx
       have HRP:=Lib.hid (HRP0.out i hin);obtain ⟨rs,hrs⟩:∃ x,Tr.real (dC c.ss) (kC c.ss) n i=x:=⟨_,rfl⟩
       rw [hrs] at HO9 hrl HRM HRP HS2 HS3 ⊢;have HRZ:=Lib.hid (Tr.rdZ_own HO9.out);have HOF3:=Lib.hid (own_below HOF2.out hbk);have hlo9:=fun q hq=>(HO9.out.lt q hq).1
       have HL9:=Lib.hid hlo9;obtain ⟨rl,hrl2⟩:∃ x,rs.length=x:=⟨_,rfl⟩
       rw [hrl2] at hrl HRP HS2 ⊢;have HRL2:=Lib.hid hrl2;obtain ⟨_,r1,_,_,_,_⟩:=HCS.out W3 (HB.out.trans (HB3.out.mono HB.out.size)) i hin;clear hown hbk hrs hlo9 hrl2;by_cases k3':kC c.ss i=3
       ·have HS:=Lib.hid (HS3.out k3');rw [k3'] at r1;have HK3:=Lib.hid k3';clear k3';go_wp2
        go_loopw [11] (fun x11 wr=>∃ k:Nat,k<=rl/\x11=.int .i64 k/\wr.ownsRow wb.heap.size 4 1 (.slice (some ⟨wb.heap.size,0,none⟩) n n) n (blV (Tr.setAll F (rs.take k)))/\Below wb.heap.size wb wr/\Kp wb.heap.size W3 (.slice none 0 0) wr (.slice none 0 0)) (fun x _=>rl - (intOf x).toNat)
        case atStart=>exact ⟨0,by omega,rfl,HOF3.out,HB3.out,Kp.refl _ _ _⟩
        case round =>
         obtain ⟨k,hk,rfl,hof,hbk,hkp⟩:=hrel;obtain ⟨W5,hW5⟩:∃ X,X=wr:=⟨_,rfl⟩
         subst hW5;by_cases hkr:k < rl
         ·have hkm:k < rs.length:=by rw [HRL2.out];exact hkr
          obtain ⟨b',o',rfl,_,hc0⟩:=HRZ.out.at_ (k:=k) (by rw [Tr.toI_len];exact hkm);have hx:(Tr.toI rs)[k]'(by rw [Tr.toI_len];exact hkm)=((rs[k]:Nat):Int):=by unfold Tr.toI;rw [List.getElem_map]
          rw [hx] at hc0;have hbg:=HL9.out b' rfl;have hc:=hkp.cell hc0 (by omega) (by simp [Value.ownBlock]);have hyn:=HRM.out _ (List.getElem_mem hkm);have HSU:=Lib.hid (Tr.setAll_succ F rs hkm);clear hc0 hx;generalize rs[k]=y at *
          have hfl:y < (Tr.setAll F (rs.take k)).length:=by rw [Tr.setAll_len,HFL.out];exact hyn
          have q1:=bl_cell hof hfl;have q2:=own_frozen10 hof y;obtain ⟨h1,h2⟩:=bl_set hof y;have h3:=below_set hbk y (.bool true);obtain ⟨W6,hW6⟩:∃ X,X=W5.setCell ⟨wb.heap.size,y,none⟩ (.bool true):=⟨_,rfl⟩
          rw [<- hW6] at h1 h2 h3;have HO6:=Lib.hid h1;have HK6:=Lib.hid (hkp.trans h2);have HB6:=Lib.hid h3;have HW6:=Lib.hid hW6;clear hof hbk hkp h1 h2 h3 hW6 hfl
          go_upto_region 19 with fail
          rw [<- HW6.out];go_wp2
          go_roundw
          case rel=>exact ⟨k+1,by omega,by go_num,by rw [HSU.out];exact HO6.out,HB6.out,HK6.out⟩
          case measure=>simp [intOf] <;> omega
         ·obtain rfl:k=rl:=by omega
          have hall:rs.take k=rs:=by rw [<- HRL2.out];exact List.take_length
          rw [hall] at hof;have HO6:=Lib.hid hof;have HB6:=Lib.hid hbk;obtain ⟨f0,f1,f2,f3,f4⟩:=HD.out W5 hbk;obtain ⟨_,r1,_,_,_,_⟩:=HCS.out W5 (HB.out.trans (hbk.mono HB.out.size)) i hin;rw [HK3.out] at r1;clear hof hbk hkp;go_wp2
          go_roundw
          case rel=>exact ⟨i+1,by omega,by go_num,by rw [HS.out],by rw [HS.out];exact HO6.out,HB6.out⟩
          case measure=>simp [intOf] <;> omega
       ·by_cases k2':kC c.ss i=2
        ·have HS:=Lib.hid (HS2.out k2');have hrp:=HRP.out k2';rw [k2'] at r1;have HK2:=Lib.hid k2';have hm40:m<=40:=by have:=HMC.out;omega
         clear k3' k2';by_cases hpe:pl=0
         ·have HCH:Hid (Tr.choice ps m=0):=if_pos (List.eq_nil_of_length_eq_zero (HPLN.out.trans hpe));obtain ⟨b',o',rfl,_,hc0⟩:=HRZ.out.at_ (k:=0) (by rw [Tr.toI_len,HRL2.out];exact hrp);have hx:(Tr.toI rs)[0]'(by rw [Tr.toI_len,HRL2.out];exact hrp)=((rs[0]'(by rw [HRL2.out];exact hrp):Nat):Int):=by unfold Tr.toI;rw [List.getElem_map]
          rw [hx,Nat.add_zero] at hc0;have hgt:rs[Tr.choice ps m % rl]?.getD 0=rs[0]'(by rw [HRL2.out];exact hrp):=by
           rw [HCH.out,Nat.zero_mod,List.getElem?_eq_getElem (by rw [HRL2.out];exact hrp)];rfl
          rw [hgt] at HS;have hyn:=HRM.out _ (List.getElem_mem (show 0 < rs.length by rw [HRL2.out];exact hrp));clear hx hgt;generalize rs[0]'(by rw [HRL2.out];exact hrp)=y at *
          subst hpe;have z1:(0:Int).tmod (rl:Int)=0:=Int.zero_tmod _;have z2:¬ ((rl:Int)=0):=by omega
          have z3:¬ (rl=0):=by omega
          have hfl:y < F.length:=by rw [HFL.out];exact hyn
          have hof:=HOF3.out;have q1:=bl_cell hof hfl;have q2:=own_frozen10 hof y;obtain ⟨h1,h2⟩:=bl_set hof y;have h3:=below_set HB3.out y (.bool true);obtain ⟨W6,hW6⟩:∃ X,X=W3.setCell ⟨wb.heap.size,y,none⟩ (.bool true):=⟨_,rfl⟩
          rw [<- hW6] at h1 h3;have HO6:=Lib.hid h1;have HB6:=Lib.hid h3;have HW6:=Lib.hid hW6;clear hof h1 h2 h3 hW6 hfl
          go_upto_region 5 with fail
          rw [<- HW6.out];go_wp2
          go_roundw
          case rel=>exact ⟨i+1,by omega,by go_num,by rw [HS.out];go_num,by rw [HS.out];exact HO6.out,HB6.out⟩
          case measure=>simp [intOf] <;> omega
         ·have hplp:m % pl < pl:=Nat.mod_lt _ (by omega);obtain ⟨bp,op,rfl,_,hcp⟩:=(HPI.out.below (HB.out.trans (HB3.out.mono HB.out.size))).at_ (k:=m % pl) hplp;have hcp2:=hcp 0 (.int .u8 ((ps[m % pl]'(by rw [HPLN.out];exact hplp):Nat):Int)) (by unfold kvB;rw [Nat.mul_one,Nat.add_zero,List.getElem?_map,List.getElem?_eq_getElem (by rw [HPLN.out];exact hplp)];rfl);simp only [Nat.mul_one,Nat.add_zero] at hcp2;have HCH:Hid (Tr.choice ps m=ps[m % pl]'(by rw [HPLN.out];exact hplp)):=by
           show Tr.choice ps m=_;unfold Tr.choice;rw [if_neg (fun e=>hpe (by rw [<- HPLN.out,e];rfl)),show m % ps.length=m % pl by rw [HPLN.out],List.getElem?_eq_getElem (by rw [HPLN.out];exact hplp)];rfl
          have hp256:=HPLT.out _ (List.getElem_mem (show m % pl < ps.length by rw [HPLN.out];exact hplp));clear hcp;generalize ps[m % pl]'(by rw [HPLN.out];exact hplp)=p at *
          have hrl0:p % rl < rl:=Nat.mod_lt _ hrp;obtain ⟨b',o',rfl,_,hc0⟩:=HRZ.out.at_ (k:=p % rl) (by rw [Tr.toI_len,HRL2.out];exact hrl0);have hx:(Tr.toI rs)[p % rl]'(by rw [Tr.toI_len,HRL2.out];exact hrl0)=((rs[p % rl]'(by rw [HRL2.out];exact hrl0):Nat):Int):=by unfold Tr.toI;rw [List.getElem_map]
          rw [hx] at hc0;have hgt:rs[Tr.choice ps m % rl]?.getD 0=rs[p % rl]'(by rw [HRL2.out];exact hrl0):=by
           rw [HCH.out,List.getElem?_eq_getElem (by rw [HRL2.out];exact hrl0)];rfl
          rw [hgt] at HS;have hyn:=HRM.out _ (List.getElem_mem (show p % rl < rs.length by rw [HRL2.out];exact hrl0));clear hx hgt;generalize rs[p % rl]'(by rw [HRL2.out];exact hrl0)=y at *
          have z0:(m:Int).tmod (pl:Int)=((m % pl:Nat):Int):=tmod_nat m pl;have z1:(p:Int).tmod (rl:Int)=((p % rl:Nat):Int):=tmod_nat p rl;have z2:¬ ((rl:Int)=0):=by omega
          have z3:¬ (rl=0):=by omega
          have z4:¬ ((pl:Int)=0):=by omega
          have z5:0 < pl:=by omega
          generalize m % pl=mp at *
          generalize p % rl=pr at *
          have hfl:y < F.length:=by rw [HFL.out];exact hyn
          have hof:=HOF3.out;have q1:=bl_cell hof hfl;have q2:=own_frozen10 hof y;obtain ⟨h1,h2⟩:=bl_set hof y;have h3:=below_set HB3.out y (.bool true);obtain ⟨W6,hW6⟩:∃ X,X=W3.setCell ⟨wb.heap.size,y,none⟩ (.bool true):=⟨_,rfl⟩
          rw [<- hW6] at h1 h3;have HO6:=Lib.hid h1;have HB6:=Lib.hid h3;have HW6:=Lib.hid hW6;clear hof h1 h2 h3 hW6 hfl
          go_upto_region 5 with fail
          rw [<- HW6.out];go_wp2
          go_roundw
          case rel=>exact ⟨i+1,by omega,by go_num,by rw [HS.out];go_num,by rw [HS.out];exact HO6.out,HB6.out⟩
          case measure=>simp [intOf] <;> omega
        ·have HS:=Lib.hid (HS1.out k2' k3');have e2:(kC c.ss i==2)=false:=int_ne k2';have e3:(kC c.ss i==3)=false:=int_ne k3';clear k2' k3';go_wp2
         go_roundw
         case rel=>exact ⟨i+1,by omega,by go_num,by rw [HS.out],by rw [HS.out];exact HOF3.out,HB3.out⟩
         case measure=>simp [intOf] <;> omega
  ·obtain rfl:i=n:=by omega
   have HX:Hid (L=onK f i):=by show L=_;rw [HL.out,hfm]
   have HFL:=Lib.hid hlen;clear hfm hof hbw hlen hcnt;go_wp2;clear f0 f1 f2 f3 f4
   go_loopw [13,14] (fun x13 x14 wr=>∃ k:Nat,k<=i/\x14=.int .i64 k/\wr.ownsRow W0.heap.size 3 1 x13 (onK f k).length (Tr.kvN (onK f k))/\Below W0.heap.size W0 wr) (fun _ x _=>i - (intOf x).toNat)
   case atStart=>exact ⟨0,by omega,rfl,World.ownsRow_nil _ _ _ _,Below.refl _ _⟩
   case round =>
    obtain ⟨k,hk,rfl,hown,hbk⟩:=hrel;obtain ⟨W3,hW3⟩:∃ X,X=wr:=⟨_,rfl⟩
    subst hW3;obtain ⟨A9,c9,rfl⟩:=own_slice hown;have HO9:=Lib.hid hown;have HB9:=Lib.hid hbk;have hs3:=hbk.size;have hkl:=onK_len f k;by_cases hkk:k < i
    ·have c2:=bl_cell (own_below HOF0.out hbk) (j:=k) (by rw [HFL.out];exact hkk);have hst:=onK_succ f k;clear hown hbk;cases hb:Tr.onB f k with
     | true =>
      rw [hb] at c2;rw [if_pos hb] at hst;have HST:=Lib.hid hst;clear hst hb
      go_wp2_with (at_builtin;refine wpList_append_own _ rfl _ _ 29 rfl W0.heap.size 3 i0 _ 1 8 Tryz.underlying29 HII.out HZ0.out HZ1.out HZ2.out rfl (by decide) _ (onK f k).length (Tr.kvN (onK f k)) rfl (HO9.out.alloc _) ⟨W3.heap.size,0,none⟩ 1 1 [.int .i64 k] rfl rfl (Tr.one_int W3 _) (by intro u hu;simp at hu;subst hu;rfl) (by unfold maxLen;omega) (by omega) (by simp;omega) ?_)
      intro v' w5 hown' hgrow _;have HO5:Hid (w5.ownsRow W0.heap.size 3 1 v' (onK f (k+1)).length (Tr.kvN (onK f (k+1)))):=by
       show World.ownsRow _ _ _ _ _ _ _;rw [HST.out,List.length_append]
       simpa [Tr.kvN] using hown'
      have HB5:Hid (Below W0.heap.size W0 w5):=(HB9.out.alloc hs3 (.cells #[.int .i64 (k:Int)] 3)).grown hgrow (by simp;omega) (fun j hj=>(HO9.out.lt j hj).1);clear hown' hgrow;go_wp2
      go_roundw
      case rel=>exact ⟨k+1,by omega,by go_num,HO5.out,HB5.out⟩
      case measure=>simp [intOf] <;> omega
     | false =>
      rw [hb] at c2;rw [if_neg (by rw [hb];simp),List.append_nil] at hst;have HST:=Lib.hid hst;clear hst hb;go_wp2
      go_roundw
      case rel=>exact ⟨k+1,by omega,by go_num,by rw [HST.out];exact HO9.out,HB9.out⟩
      case measure=>simp [intOf] <;> omega
    ·obtain rfl:k=i:=by omega
     have hlow:w.heap.size<=W0.heap.size:=(HB.out.trans (HBW0.out.mono HB.out.size)).size;have HLOW:=Lib.hid hlow;have HBE:Hid (Below w.heap.size w W3):=(HB.out.trans (HBW0.out.mono HB.out.size)).trans (HB9.out.mono hlow);clear hown hbk hlow;go_wp2;go_ret;exact ⟨⟨_,rfl,by rw [show L=onK f k from HX.out];exact Tr.own_lower HO9.out HLOW.out⟩,HBE.out⟩
end Go.Proofs.YtcnfcililiehlaaGreatDoor.Ch.Vd
