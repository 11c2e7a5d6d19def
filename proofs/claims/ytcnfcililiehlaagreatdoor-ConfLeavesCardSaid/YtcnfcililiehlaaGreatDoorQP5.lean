import Derived.Test.YtcnfcililiehlaaGreatDoorR1
import Derived.Test.YtcnfcililiehlaaGreatDoorR2
import Derived.Test.YtcnfcililiehlaaGreatDoorR3
import Derived.Test.YtcnfcililiehlaaGreatDoorR4
import Derived.Test.YtcnfcililiehlaaGreatDoorR5
import Derived.Test.YtcnfcililiehlaaGreatDoorR6
import Derived.Test.YtcnfcililiehlaaGreatDoorR7
import Derived.Test.YtcnfcililiehlaaGreatDoorR8
import Derived.Test.YtcnfcililiehlaaGreatDoorR9
import Derived.Test.YtcnfcililiehlaaGreatDoorR10
import Derived.Test.YtcnfcililiehlaaGreatDoorR11
import Derived.Test.YtcnfcililiehlaaGreatDoorR12
import Derived.Test.YtcnfcililiehlaaGreatDoorR13
import Derived.Test.YtcnfcililiehlaaGreatDoorR14
import Derived.Test.YtcnfcililiehlaaGreatDoorR15
import Derived.Test.YtcnfcililiehlaaGreatDoorR16
import Derived.Test.YtcnfcililiehlaaGreatDoorR17
import Derived.Test.YtcnfcililiehlaaGreatDoorR18
import Derived.Test.YtcnfcililiehlaaGreatDoorR19
import Derived.Test.YtcnfcililiehlaaGreatDoorR20
import Derived.Test.YtcnfcililiehlaaGreatDoorR21
import Derived.Test.YtcnfcililiehlaaGreatDoorR22
import Derived.Test.YtcnfcililiehlaaGreatDoorR23
import Derived.Test.YtcnfcililiehlaaGreatDoorR24
import Derived.Test.YtcnfcililiehlaaGreatDoorR25
import Derived.Test.YtcnfcililiehlaaGreatDoorR26
import Derived.Test.YtcnfcililiehlaaGreatDoorR27
import Derived.Test.YtcnfcililiehlaaGreatDoorR28
import Derived.Test.YtcnfcililiehlaaGreatDoorR29
import Derived.Test.YtcnfcililiehlaaGreatDoorR30
import Derived.Test.YtcnfcililiehlaaGreatDoorR31
import Derived.Test.YtcnfcililiehlaaGreatDoorR32
import Derived.Test.YtcnfcililiehlaaGreatDoorR33
import Derived.Test.YtcnfcililiehlaaGreatDoorR34
import Derived.Test.YtcnfcililiehlaaGreatDoorR35
import Derived.Test.YtcnfcililiehlaaGreatDoorR36
import Derived.Test.YtcnfcililiehlaaGreatDoorQP1
import Derived.Test.YtcnfcililiehlaaGreatDoorQP2
import Derived.Test.YtcnfcililiehlaaGreatDoorQP3
import Derived.Test.YtcnfcililiehlaaGreatDoorQP4
import Derived.IntWalk
namespace Go.Proofs.YtcnfcililiehlaaGreatDoor.Tr
section
variable {d kd:Nat->Int} {n:Nat}
theorem stand_doc (h:Nst d n) {l:List Int} {i:Nat} (hi:i < n) :
 standB d kd n l i=(if inB l i=false then !decide (d i=0) else
  ((!decide (0 < d i) || decide (par d i ∈ l)) && !((decide (kd i=2) && !decide (cnt l (kids d n i)=1)) || (decide (kd i=3) && !decide (cnt l (kids d n i)=(kids d n i).length))))):=by
 have hn:=h.par_neg hi;have hlo:=h.lo i hi;unfold standB;by_cases hin:inB l i=true
 ·have hf:¬ inB l i=false:=by rw [hin];simp
  rw [if_pos hin,if_neg hf];have h1:(decide (par d i = -1) || decide (par d i ∈ l))=(!decide (0 < d i) || decide (par d i ∈ l)):=by
   congr 1
   by_cases e:d i=0
   ·rw [decide_eq_true (hn.2 e),decide_eq_false (by omega)];rfl
   ·rw [decide_eq_false (fun g=>e (hn.1 g)),decide_eq_true (by omega)];rfl
  rw [h1]
  congr 1
  by_cases k2:kd i=2
  ·have k3:¬ kd i=3:=by omega
   simp [k2]
  ·by_cases k3:kd i=3
   ·simp [k3]
   ·simp [k2,k3]
 ·have hf:inB l i=false:=by simpa using hin
  rw [if_neg hin,if_pos hf]
  congr 1
  rw [decide_eq_decide];exact hn
end
end Go.Proofs.YtcnfcililiehlaaGreatDoor.Tr
namespace Go.Proofs.YtcnfcililiehlaaGreatDoor.Ch.Vd
open Go.RowKit
theorem past_q (k:Int) (W:World):Calls Tryz.prog 36 #[.int .i64 k] W fun e w'=>e=.returned (.bool (decide (Tr.pastP k)))/\∃ r,w'=W.drewN r :=
 (Tr.past_any k W).mono fun _ _ ⟨h1,h2⟩=>⟨h1,0,h2 ▸ rfl⟩
theorem quiet_w {P:Program} {f:FuncId} {args:Array Value} {v:Value} (h:∀ W:World,Calls P f args W fun e w'=>e=.returned v/\∃ r,w'=W.drewN r) {w:World} {a n:Nat} :
 Calls P f args (w.drewN (a+n)) fun e w''=>e=.returned v/\∃ m,w''=w.drewN (a+m) :=
 (h _).mono fun _ _ ⟨he,r,hr⟩=>⟨he,n+r,by rw [hr,World.drewN_drewN,Nat.add_assoc]⟩
theorem wrap_pred (j:Nat) (h:j<=4611686018427387904):IntKind.i64.wrap ((j:Int)+1 - 1)=(j:Int):=by
 have e:(j:Int)+1 - 1=(j:Int):=by omega
 rw [e];exact IntWalk.i64_in _ (by omega)
set_option maxRecDepth 100000 in
set_option maxHeartbeats 16000000 in
theorem refLegal_any {w:World} {c:CH} {eV vV sV tV u:Value} {sp:List SP} {tp:List TP} {l:List Int} (h:ChM w c eV vV sV tV sp tp) (hT:treeP c) (hU:Tr.RdZ w u l) (hl:l.length<=4611686018427387904) :
 Calls Tryz.prog 16 #[chA c eV vV sV tV,u] w fun e w'=>e=.returned (.bool (Tr.legalB (dC c.ss) (kC c.ss) c.ss.length l))/\Below w.heap.size w w':=by
 have hn40:=hT.le;have hpos:=hT.pos;have hss:=h.sLen;have hall:=(Tr.isRow_all (kd:=kC c.ss) (n:=c.ss.length) l (-1)).2;have hno:=fun k hk h=>Tr.isRow_no (kd:=kC c.ss) (n:=c.ss.length) (l:=l) (a:=-1) (k:=k) hk h
 have hlo:=fun k h hk=>Tr.row_lo (kd:=kC c.ss) (n:=c.ss.length) (l:=l) (a:=-1) k h hk
 have hsd:=fun i (hi:i < c.ss.length)=>Tr.stand_doc (kd:=kC c.ss) hT.nst (l:=l) hi
 have hdl:=hT.nst.lo;have hln:=fun i (hi:i < c.ss.length) (h:Tr.standB (dC c.ss) (kC c.ss) c.ss.length l i=false)=>Tr.legal_no (l:=l) hi h
 have hlf:Tr.isRow (kC c.ss) c.ss.length (-1) l=false->Tr.legalB (dC c.ss) (kC c.ss) c.ss.length l=false:=fun a=>by unfold Tr.legalB;rw [a];rfl
 have hly:Tr.isRow (kC c.ss) c.ss.length (-1) l=true->(∀ j,j < c.ss.length->Tr.standB (dC c.ss) (kC c.ss) c.ss.length l j=true)->Tr.legalB (dC c.ss) (kC c.ss) c.ss.length l=true:=fun a b=>by
  unfold Tr.legalB;rw [a,Bool.true_and,List.all_eq_true];exact fun j hj=>b j (List.mem_range.1 hj)
 have hpar:=fun W (hW:Below w.heap.size w W) j (hj:j < c.ss.length)=>rParent (h.below hW) hT (j:=j) (by rw [hss];exact hj)
 have hin:=fun W (hW:Below w.heap.size w W) N=>Tr.refInZ_any u l N W (hU.below hW) hl
 have hac:=fun W (hW:Below w.heap.size w W) i (hi:i < c.ss.length)=>refActive_any (h.below hW) hT (hU.below hW) hl hi
 obtain ⟨M,A1,A2,A3,A4,k1,k2,k3,k4,wb,hM,rfl,rfl,rfl,rfl,hwb,hb1,hbz,d0,d1,d2,d3,d4⟩:=box_ch h;obtain ⟨b,o,X,Y,a4,a5,m4,q4,m5,q5,rfl,hbw,hXY,hcs⟩:=ch_states h hpos;obtain ⟨A5,k5,rfl⟩:=hU.form;have HD:=Lib.hid (cells_later d0 d1 d2 d3 d4);obtain ⟨RS,hRS⟩:∃ r,Tr.legalB (dC c.ss) (kC c.ss) c.ss.length l=r:=⟨_,rfl⟩
 rw [hRS] at hln hlf hly ⊢;unfold chA at hac ⊢;rw [hM] at hac ⊢;have HU:=Lib.hid hU;obtain ⟨m,hm⟩:∃ m,l.length=m:=⟨_,rfl⟩
 obtain ⟨n,hn⟩:∃ n,c.ss.length=n:=⟨_,rfl⟩
 have HM:=Lib.hid hm;have HSD:Hid (∀ i,i < n->Tr.standB (dC c.ss) (kC c.ss) n l i=(if Tr.inB l i=false then !decide (dC c.ss i=0) else ((!decide (0 < dC c.ss i) || decide (Tr.par (dC c.ss) i ∈ l)) && !((decide (kC c.ss i=2) && !decide (Tr.cnt l (kidC c i)=1)) || (decide (kC c.ss i=3) && !decide (Tr.cnt l (kidC c i)=(kidC c i).length)))))):=by
  show ∀ i,i < n->_
  rw [<- hn];exact hsd
 have HCS:=Lib.hid hcs;have HW:=Lib.hid hwb;have HB:=Lib.hid hb1;have HALL:=Lib.hid hall;have HNO:=Lib.hid hno;have HLO:=Lib.hid hlo;have HDL:=Lib.hid hdl;have HLN:=Lib.hid hln;have HLF:=Lib.hid hlf;have HLY:=Lib.hid hly;have HPA:=Lib.hid hpar;have HIN:=Lib.hid hin;have HAC:=Lib.hid hac;clear h hT hU hall hno hlo hsd hdl hln hlf hly hpar hin hac hM hwb hb1 hbz hcs hXY hbw hRS;simp only [hn] at hss hn40 hpos HALL HNO HLO HDL HLN HLF HLY HPA HAC HCS;simp only [hss] at HD HW HPA HAC d3 ⊢;simp only [hm] at hl HU HIN HAC HALL HNO HLO ⊢;clear hss hn hm;generalize c.es.length=n1 at *;generalize c.vs.length=n2 at *;generalize tp.length=n4 at *
 go_enter Tryz.func16,Tryz.ntmps16
 go_upto_region 1 with fail
 rw [<- HW.out];go_wp2
 go_loopw [5] (fun x5 wr=>∃ k:Nat,k<=m/\x5=.int .i64 k/\Below wb.heap.size wb wr/\Hid (∀ j,j < k->Tr.rowK (kC c.ss) n (-1) l j=true)) (fun x _=>m - (intOf x).toNat)
 case atStart=>exact ⟨0,by omega,rfl,Below.refl _ _,fun j hj=>absurd hj (by omega)⟩
 case round =>
  obtain ⟨k,hk,rfl,hbw,HJ⟩:=hrel;obtain ⟨wl,hwl⟩:∃ W,W=wr:=⟨_,rfl⟩
  subst hwl;have hb0:Below w.heap.size w wl:=HB.out.trans (hbw.mono HB.out.size);have HBW:=Lib.hid hbw;have HB0:=Lib.hid hb0;by_cases hkm:k < m
  ·have hkl:k < l.length:=by rw [HM.out];exact hkm
   obtain ⟨f0,f1,f2,f3,f4⟩:=HD.out wl hbw;obtain ⟨b',o',rfl,_,hc⟩:=(HU.out.below hb0).at_ (k:=k) hkl;have hlo:=HLO.out k HJ.out (by omega);have hget:l.getD k 0=l[k]:=by rw [List.getD_eq_getElem?_getD,List.getElem?_eq_getElem hkl];rfl
   have hrk:Tr.rowK (kC c.ss) n (-1) l k=(decide ((-1 :: l).getD k 0 < l[k]) && (decide (l[k] < (n:Int)) && !decide (Tr.pastP (kC c.ss l[k].toNat)))):=by
    unfold Tr.rowK;rw [hget]
   have HF:Hid (Tr.rowK (kC c.ss) n (-1) l k=false->RS=false):=fun h=>HLF.out (HNO.out k hkm h)
   have hold:∀ j (hj:k=j+1),(-1 :: l).getD k 0=l[j]'(by omega)/\wl.cell? ⟨b',o'+j,none⟩=some (.int .i64 (l[j]'(by omega))):=by
    intro j hj;subst hj;obtain ⟨b2,o2,e2,_,hc2⟩:=(HU.out.below hb0).at_ (k:=j) (by omega);simp only [Option.some.injEq,Addr.mk.injEq] at e2;obtain ⟨rfl,rfl,_⟩:=e2;refine ⟨?_,hc2⟩;show l.getD j 0=_;rw [List.getD_eq_getElem?_getD,List.getElem?_eq_getElem (by omega)];rfl
   have HOLD:=Lib.hid hold;clear hold hget hbw hb0;generalize l[k]=x at *
   by_cases h1:x < 0
   ·have HX:Hid (RS=false):=HF.out (by rw [hrk,decide_eq_false (show ¬ (-1 :: l).getD k 0 < x by omega)];rfl);have t1:decide (x < 0)=true:=decide_eq_true h1;clear hrk hlo h1;go_wp2
    go_quiet (fail)
    go_wp2;go_ret;exact ⟨ret_bool HX.out.symm,by first | exact below_drewN HB0.out _ | exact below_drewN (below_drewN HB0.out _) _⟩
   ·obtain ⟨y,rfl⟩:∃ y:Nat,x=(y:Int):=⟨x.toNat,by omega⟩
    by_cases h2:n<=y
    ·have HX:Hid (RS=false):=HF.out (by rw [hrk,decide_eq_false (show ¬ (y:Int) < (n:Int) by omega)];simp);have t2:decide (n<=y)=true:=decide_eq_true h2;have t3:decide ((y:Int) < 0)=false:=decide_eq_false (by omega);clear hrk hlo h1 h2;go_wp2
     go_quiet (fail)
     go_wp2;go_ret;exact ⟨ret_bool HX.out.symm,by first | exact below_drewN HB0.out _ | exact below_drewN (below_drewN HB0.out _) _⟩
    ·have hy:y < n:=by omega
     have t2:decide (n<=y)=false:=decide_eq_false h2;obtain ⟨r0,r1,r2,r3,r4,r5⟩:=HCS.out wl HB0.out y hy;clear r0 r2 r3 r4 r5 h1 h2;rw [decide_eq_true (show (y:Int) < (n:Int) by omega),Bool.true_and,show ((y:Int)).toNat=y from rfl] at hrk;have HRK:=Lib.hid hrk;have HPS:=Lib.hid (fun W=>past_q (kC c.ss y) W);clear hrk;have t3:decide ((y:Int) < 0)=false:=decide_eq_false (by omega);rcases Nat.eq_zero_or_pos k with hk0 | hk0
     ·subst hk0;have HA:Hid (Tr.rowK (kC c.ss) n (-1) l 0=!decide (Tr.pastP (kC c.ss y))):=by
       show Tr.rowK (kC c.ss) n (-1) l 0=_;rw [HRK.out,decide_eq_true (show (-1 :: l).getD 0 0 < (y:Int) by show (-1:Int) < _;omega),Bool.true_and]
      rw [Nat.add_zero] at hc;clear hlo;by_cases hp:Tr.pastP (kC c.ss y)
      ·have HX:Hid (RS=false):=HF.out (by rw [HA.out,decide_eq_true hp];rfl);rw [decide_eq_true hp] at HPS;clear hp;go_wp2
       go_quiet (fail)
       go_wp2
       go_quiet ((go_at_call 36;first | exact quiet_z (HPS.out _) | exact quiet_w HPS.out))
       go_wp2;go_ret;exact ⟨ret_bool HX.out.symm,by first | exact below_drewN HB0.out _ | exact below_drewN (below_drewN HB0.out _) _⟩
      ·have HX:Hid (Tr.rowK (kC c.ss) n (-1) l 0=true):=by show _=true;rw [HA.out,decide_eq_false hp];rfl
       rw [decide_eq_false hp] at HPS;clear hp;go_wp2
       go_quiet (fail)
       go_wp2
       go_quiet ((go_at_call 36;first | exact quiet_z (HPS.out _) | exact quiet_w HPS.out))
       go_wp2
       go_roundw
       case rel=>exact ⟨1,by omega,by go_num,below_drewN HBW.out _,fun j hj=>by
        obtain rfl:j=0:=by omega
        exact HX.out⟩
       case measure=>simp [intOf] <;> omega
     ·obtain ⟨j,rfl⟩:∃ j,k=j+1:=⟨k - 1,by omega⟩
      obtain ⟨ha,hz⟩:=HOLD.out j rfl;rw [ha] at HRK;have hjl:j < l.length:=by omega
      generalize l[j]=z at *
      have hwr:=wrap_pred j (by omega);have t6:decide (0 < j+1)=true:=decide_eq_true (by omega);clear HOLD;clear hlo ha hk0 hkl hjl;by_cases hle:(y:Int)<=z
      ·have HX:Hid (RS=false):=HF.out (by rw [HRK.out,decide_eq_false (show ¬ z < (y:Int) by omega)];rfl);have t7:decide ((y:Int)<=z)=true:=decide_eq_true hle;clear hle;go_wp2
       go_quiet (fail)
       go_wp2;go_ret;exact ⟨ret_bool HX.out.symm,by first | exact below_drewN HB0.out _ | exact below_drewN (below_drewN HB0.out _) _⟩
      ·have HA:Hid (Tr.rowK (kC c.ss) n (-1) l (j+1)=!decide (Tr.pastP (kC c.ss y))):=by
        show Tr.rowK (kC c.ss) n (-1) l (j+1)=_;rw [HRK.out,decide_eq_true (show z < (y:Int) by omega),Bool.true_and]
       have t7:decide ((y:Int)<=z)=false:=decide_eq_false hle;clear hle;by_cases hp:Tr.pastP (kC c.ss y)
       ·have HX:Hid (RS=false):=HF.out (by rw [HA.out,decide_eq_true hp];rfl);rw [decide_eq_true hp] at HPS;clear hp;go_wp2
        go_quiet (fail)
        go_wp2
        go_quiet ((go_at_call 36;first | exact quiet_z (HPS.out _) | exact quiet_w HPS.out))
        go_wp2;go_ret;exact ⟨ret_bool HX.out.symm,by first | exact below_drewN HB0.out _ | exact below_drewN (below_drewN HB0.out _) _⟩
       ·have HX:Hid (Tr.rowK (kC c.ss) n (-1) l (j+1)=true):=by show _=true;rw [HA.out,decide_eq_false hp];rfl
        rw [decide_eq_false hp] at HPS;clear hp;go_wp2
        go_quiet (fail)
        go_wp2
        go_quiet ((go_at_call 36;first | exact quiet_z (HPS.out _) | exact quiet_w HPS.out))
        go_wp2
        go_roundw
        case rel=>exact ⟨j+2,by omega,by go_num,below_drewN HBW.out _,fun i hi=>by
         by_cases e:i=j+1
         ·rw [e];exact HX.out
         ·exact HJ.out i (by omega)⟩
        case measure=>simp [intOf] <;> omega
  ·obtain rfl:k=m:=by omega
   have HR1:Hid (Tr.isRow (kC c.ss) n (-1) l=true):=HALL.out (fun j hj=>HJ.out j hj);clear HJ hbw hb0 hkm;go_wp2
   go_loopw [6,7,8,9] (fun x6 _ _ _ wr=>∃ i:Nat,i<=n/\x6=.int .i64 i/\Below wb.heap.size wb wr/\Hid (∀ j,j < i->Tr.standB (dC c.ss) (kC c.ss) n l j=true)) (fun x _ _ _ _=>n - (intOf x).toNat)
   case atStart=>exact ⟨0,by omega,rfl,HBW.out,fun j hj=>absurd hj (by omega)⟩
   case round =>
    obtain ⟨i,hi,rfl,hbw,HJ⟩:=hrel;obtain ⟨wi,hwi⟩:∃ W,W=wr:=⟨_,rfl⟩
    subst hwi;clear HBW HB0;have hb0:Below w.heap.size w wi:=HB.out.trans (hbw.mono HB.out.size);have HBW:=Lib.hid hbw;have HB0:=Lib.hid hb0;obtain ⟨f0,f1,f2,f3,f4⟩:=HD.out wi hbw;clear hbw hb0;by_cases hin:i < n
    ·obtain ⟨_,r1,r2,_,_,_⟩:=HCS.out wi HB0.out i hin;have hsd:=HSD.out i hin;have hdl:=HDL.out i hin
     go_wp2_with fail
     refine (HIN.out wi HB0.out i).mono ?_;rintro e w3 ⟨rfl,rfl⟩;by_cases hm:(i:Int) ∈ l
     ·have hib:Tr.inB l i=true:=decide_eq_true hm;rw [decide_eq_true hm];rw [if_neg (by rw [hib];simp)] at hsd;clear hm hib;by_cases hd:dC c.ss i=0
      ·rw [hd] at r2 hsd;clear hdl hd
       go_wp2_with fail
       refine (HAC.out wi HB0.out i hin).mono ?_;rintro e w7 ⟨rfl,hb7⟩;have HB7:Hid (Below wb.heap.size wb w7):=HBW.out.trans (hb7.mono HBW.out.size);have HC7:Hid (Below w.heap.size w w7):=HB0.out.trans (hb7.mono HB0.out.size);clear hb7 f0 f1 f2 f3 f4 r1 r2;obtain ⟨f0,f1,f2,f3,f4⟩:=HD.out w7 HB7.out;obtain ⟨_,r1,_,_,_,_⟩:=HCS.out w7 HC7.out i hin;generalize Tr.cnt l (kidC c i)=cc at *
       generalize (kidC c i).length=kl at *
       by_cases k2:kC c.ss i=2
       ·rw [k2] at r1;by_cases e1:cc=1
        ·subst e1;have HX:Hid (Tr.standB (dC c.ss) (kC c.ss) n l i=true):=by show _=true;rw [hsd];simp [k2]
         clear k2;clear hsd;go_wp2
         go_roundw
         case rel=>exact ⟨i+1,by omega,by go_num,HB7.out,fun j hj=>by
          by_cases e:j=i
          ·rw [e];exact HX.out
          ·exact HJ.out j (by omega)⟩
         case measure=>simp [intOf] <;> omega
        ·have q1:(((cc:Nat):Int) != 1)=true:=bne_iff_ne.2 (by omega);have HX:Hid (RS=false):=HLN.out i hin (by rw [hsd];simp [k2,e1]);clear k2 e1;clear hsd;go_wp2;go_ret;exact ⟨ret_bool HX.out.symm,HC7.out⟩
       ·by_cases k3:kC c.ss i=3
        ·rw [k3] at r1;by_cases e1:cc=kl
         ·subst e1;have HX:Hid (Tr.standB (dC c.ss) (kC c.ss) n l i=true):=by show _=true;rw [hsd];simp [k3]
          clear k2 k3;clear hsd;go_wp2
          go_roundw
          case rel=>exact ⟨i+1,by omega,by go_num,HB7.out,fun j hj=>by
           by_cases e:j=i
           ·rw [e];exact HX.out
           ·exact HJ.out j (by omega)⟩
          case measure=>simp [intOf] <;> omega
         ·have q1:(((cc:Nat):Int) != ((kl:Nat):Int))=true:=bne_iff_ne.2 (by omega);have HX:Hid (RS=false):=HLN.out i hin (by rw [hsd];simp [k3,e1]);clear k2 k3 e1;clear hsd;go_wp2;go_ret;exact ⟨ret_bool HX.out.symm,HC7.out⟩
        ·have q2:(kC c.ss i==2)=false:=int_ne k2;have q3:(kC c.ss i==3)=false:=int_ne k3;have HX:Hid (Tr.standB (dC c.ss) (kC c.ss) n l i=true):=by show _=true;rw [hsd];simp [k2,k3]
         clear k2 k3;clear hsd;go_wp2
         go_roundw
         case rel=>exact ⟨i+1,by omega,by go_num,HB7.out,fun j hj=>by
          by_cases e:j=i
          ·rw [e];exact HX.out
          ·exact HJ.out j (by omega)⟩
         case measure=>simp [intOf] <;> omega
      ·have t1:(dC c.ss i==0)=false:=int_ne hd;have t2:decide (0 < dC c.ss i)=true:=decide_eq_true (by omega);rw [t2] at hsd;clear hdl hd
       go_wp2_with fail
       refine (HPA.out wi HB0.out i hin).mono ?_;rintro e w5 ⟨rfl,hb5⟩;have HB5:Hid (Below wb.heap.size wb w5):=HBW.out.trans (hb5.mono HBW.out.size);have HC5:Hid (Below w.heap.size w w5):=HB0.out.trans (hb5.mono HB0.out.size);clear hb5 f0 f1 f2 f3 f4 r1 r2;obtain ⟨f0,f1,f2,f3,f4⟩:=HD.out w5 HB5.out;obtain ⟨_,r1,r2,_,_,_⟩:=HCS.out w5 HC5.out i hin;generalize Tr.par (dC c.ss) i=P at *
       go_wp2_with fail
       refine (HIN.out w5 HC5.out P).mono ?_;rintro e w6 ⟨rfl,rfl⟩;by_cases hp:P ∈ l
       ·rw [decide_eq_true hp] at hsd ⊢;clear hp
        go_wp2_with fail
        refine (HAC.out w5 HC5.out i hin).mono ?_;rintro e w7 ⟨rfl,hb7⟩;have HB7:Hid (Below wb.heap.size wb w7):=HB5.out.trans (hb7.mono HB5.out.size);have HC7:Hid (Below w.heap.size w w7):=HC5.out.trans (hb7.mono HC5.out.size);clear hb7 f0 f1 f2 f3 f4 r1 r2;obtain ⟨f0,f1,f2,f3,f4⟩:=HD.out w7 HB7.out;obtain ⟨_,r1,_,_,_,_⟩:=HCS.out w7 HC7.out i hin;generalize Tr.cnt l (kidC c i)=cc at *
        generalize (kidC c i).length=kl at *
        by_cases k2:kC c.ss i=2
        ·rw [k2] at r1;by_cases e1:cc=1
         ·subst e1;have HX:Hid (Tr.standB (dC c.ss) (kC c.ss) n l i=true):=by show _=true;rw [hsd];simp [k2]
          clear k2;clear hsd;go_wp2
          go_roundw
          case rel=>exact ⟨i+1,by omega,by go_num,HB7.out,fun j hj=>by
           by_cases e:j=i
           ·rw [e];exact HX.out
           ·exact HJ.out j (by omega)⟩
          case measure=>simp [intOf] <;> omega
         ·have q1:(((cc:Nat):Int) != 1)=true:=bne_iff_ne.2 (by omega);have HX:Hid (RS=false):=HLN.out i hin (by rw [hsd];simp [k2,e1]);clear k2 e1;clear hsd;go_wp2;go_ret;exact ⟨ret_bool HX.out.symm,HC7.out⟩
        ·by_cases k3:kC c.ss i=3
         ·rw [k3] at r1;by_cases e1:cc=kl
          ·subst e1;have HX:Hid (Tr.standB (dC c.ss) (kC c.ss) n l i=true):=by show _=true;rw [hsd];simp [k3]
           clear k2 k3;clear hsd;go_wp2
           go_roundw
           case rel=>exact ⟨i+1,by omega,by go_num,HB7.out,fun j hj=>by
            by_cases e:j=i
            ·rw [e];exact HX.out
            ·exact HJ.out j (by omega)⟩
           case measure=>simp [intOf] <;> omega
          ·have q1:(((cc:Nat):Int) != ((kl:Nat):Int))=true:=bne_iff_ne.2 (by omega);have HX:Hid (RS=false):=HLN.out i hin (by rw [hsd];simp [k3,e1]);clear k2 k3 e1;clear hsd;go_wp2;go_ret;exact ⟨ret_bool HX.out.symm,HC7.out⟩
         ·have q2:(kC c.ss i==2)=false:=int_ne k2;have q3:(kC c.ss i==3)=false:=int_ne k3;have HX:Hid (Tr.standB (dC c.ss) (kC c.ss) n l i=true):=by show _=true;rw [hsd];simp [k2,k3]
          clear k2 k3;clear hsd;go_wp2
          go_roundw
          case rel=>exact ⟨i+1,by omega,by go_num,HB7.out,fun j hj=>by
           by_cases e:j=i
           ·rw [e];exact HX.out
           ·exact HJ.out j (by omega)⟩
          case measure=>simp [intOf] <;> omega
       ·rw [decide_eq_false hp] at hsd ⊢;have HX:Hid (RS=false):=HLN.out i hin (by rw [hsd];rfl);clear hp hsd;go_wp2;go_ret;exact ⟨ret_bool HX.out.symm,HC5.out⟩
     ·have hib:Tr.inB l i=false:=decide_eq_false hm;rw [decide_eq_false hm];rw [if_pos hib] at hsd;clear hm hib;by_cases hd:dC c.ss i=0
      ·have HX:Hid (RS=false):=HLN.out i hin (by rw [hsd,decide_eq_true hd];rfl);rw [hd] at r2;clear hsd hdl hd;go_wp2;go_ret;exact ⟨ret_bool HX.out.symm,HB0.out⟩
      ·have HX:Hid (Tr.standB (dC c.ss) (kC c.ss) n l i=true):=by show _=true;rw [hsd,decide_eq_false hd];rfl
       have t1:(dC c.ss i==0)=false:=int_ne hd;clear hsd hdl hd;go_wp2
       go_roundw
       case rel=>exact ⟨i+1,by omega,by go_num,HBW.out,fun j hj=>by
        by_cases e:j=i
        ·rw [e];exact HX.out
        ·exact HJ.out j (by omega)⟩
       case measure=>simp [intOf] <;> omega
    ·obtain rfl:i=n:=by omega
     have HX:Hid (RS=true):=HLY.out HR1.out (fun j hj=>HJ.out j hj);go_wp2;go_ret;exact ⟨ret_bool HX.out.symm,HB0.out⟩
end Go.Proofs.YtcnfcililiehlaaGreatDoor.Ch.Vd
namespace Go.Proofs.YtcnfcililiehlaaGreatDoor.Ch.Vd
open Go.RowKit
set_option maxRecDepth 100000
theorem copied10_any (v:Value) (l:List Int) (w:World) (hR:Tr.RdZ w v l) (hl:l.length * 8<=140737488355328) :
 Calls Tryz.prog 15 #[v] w fun e w'=>(∃ u,e=.returned u/\Tr.RdZ w' u l)/\Below w.heap.size w w':=by
 obtain ⟨i0,hi0,hz0,hz1,hz2⟩:=info_parts Tr.Tryz.infoInt;have HII:=Lib.hid hi0;have HZ0:=Lib.hid hz0;have HZ1:=Lib.hid hz1;have HZ2:=Lib.hid hz2;clear hi0 hz0 hz1 hz2;obtain ⟨A,c,rfl⟩:=hR.form;have HW:Hid (Below w.heap.size w (w.alloc (.cells #[] 3))):=(Below.refl _ _).alloc (Nat.le_refl _) _;have HE:Hid ((w.alloc (.cells #[] 3)).ownsRow w.heap.size 3 1 (.slice (some ⟨w.heap.size,0,none⟩) 0 0) 0 []):=World.ownsRow_made w #[] 0 (Nat.le_refl _) (by unfold maxLen;omega) (by simp);have HI:Hid (Inn (w.alloc (.cells #[] 3)) 1 (.slice A l.length c) l.length (Tr.kvZ l)):=Inn.below hR HW.out;have HV:Hid (∀ u ∈ Tr.kvZ l,u.oneCell'=true):=fun u hu=>by
  obtain ⟨x,_,rfl⟩:=List.mem_map.1 hu;rfl
 obtain ⟨n,hn⟩:∃ n,l.length=n:=⟨_,rfl⟩
 have HN:=Lib.hid hn;rw [hn] at hl HI ⊢;clear hR hn
 go_enter Tryz.func15,Tryz.ntmps15
 go_wp2_with (at_builtin;refine Ow.wpList_append rfl (.tmp 3) (.tmp 4) 29 rfl w.heap.size 3 i0 _ 1 8 Tryz.underlying29 HII.out HZ0.out HZ1.out HZ2.out rfl (by decide) _ 0 [] rfl HE.out _ n (Tr.kvZ l) rfl HI.out HV.out (by unfold maxLen;omega) (by omega) (by simp) ?_)
 intro v1 w1 ho1 hg1 _;have ho1:w1.ownsRow w.heap.size 3 1 v1 n (Tr.kvZ l):=by simpa using ho1
 have HB1:Hid (Below w.heap.size w w1):=HW.out.grown hg1 (by simp) (fun k hk=>(HE.out.lt k hk).1);have HRD:Hid (Tr.RdZ w1 v1 l):=by
  show Inn w1 1 v1 l.length (Tr.kvZ l);rw [HN.out];exact Inn.of_own ho1
 clear ho1 hg1;go_wp2;go_ret;exact ⟨⟨_,rfl,HRD.out⟩,HB1.out⟩
def RzR (l:List Int) (v:Value) (W:World):Prop:=Tr.RdZ W v l
theorem RzR.keeps (l:List Int):Oy.KeepsD (fun _ v W=>RzR l v W):=fun _ _ _ _ h hb=>Tr.RdZ.below h hb
end Go.Proofs.YtcnfcililiehlaaGreatDoor.Ch.Vd
