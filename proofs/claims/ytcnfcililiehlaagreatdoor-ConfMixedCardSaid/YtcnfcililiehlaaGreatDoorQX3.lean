import Derived.Test.YtcnfcililiehlaaGreatDoorR1
import Derived.Test.YtcnfcililiehlaaGreatDoorR2
import Derived.Test.YtcnfcililiehlaaGreatDoorR3
import Derived.Test.YtcnfcililiehlaaGreatDoorR4
import Derived.Test.YtcnfcililiehlaaGreatDoorR5
import Derived.Test.YtcnfcililiehlaaGreatDoorR6
import Derived.Test.YtcnfcililiehlaaGreatDoorR7
import Derived.Test.YtcnfcililiehlaaGreatDoorR8
import Derived.Test.YtcnfcililiehlaaGreatDoorR9
import Derived.Test.YtcnfcililiehlaaGreatDoorR10
import Derived.Test.YtcnfcililiehlaaGreatDoorR11
import Derived.Test.YtcnfcililiehlaaGreatDoorR12
import Derived.Test.YtcnfcililiehlaaGreatDoorR13
import Derived.Test.YtcnfcililiehlaaGreatDoorR14
import Derived.Test.YtcnfcililiehlaaGreatDoorR15
import Derived.Test.YtcnfcililiehlaaGreatDoorR16
import Derived.Test.YtcnfcililiehlaaGreatDoorR17
import Derived.Test.YtcnfcililiehlaaGreatDoorR18
import Derived.Test.YtcnfcililiehlaaGreatDoorR19
import Derived.Test.YtcnfcililiehlaaGreatDoorR20
import Derived.Test.YtcnfcililiehlaaGreatDoorR21
import Derived.Test.YtcnfcililiehlaaGreatDoorR22
import Derived.Test.YtcnfcililiehlaaGreatDoorR23
import Derived.Test.YtcnfcililiehlaaGreatDoorR24
import Derived.Test.YtcnfcililiehlaaGreatDoorR25
import Derived.Test.YtcnfcililiehlaaGreatDoorR26
import Derived.Test.YtcnfcililiehlaaGreatDoorR27
import Derived.Test.YtcnfcililiehlaaGreatDoorR28
import Derived.Test.YtcnfcililiehlaaGreatDoorR29
import Derived.Test.YtcnfcililiehlaaGreatDoorR30
import Derived.Test.YtcnfcililiehlaaGreatDoorR31
import Derived.Test.YtcnfcililiehlaaGreatDoorR32
import Derived.Test.YtcnfcililiehlaaGreatDoorR33
import Derived.Test.YtcnfcililiehlaaGreatDoorR34
import Derived.Test.YtcnfcililiehlaaGreatDoorR35
import Derived.Test.YtcnfcililiehlaaGreatDoorR36
import Derived.Test.YtcnfcililiehlaaGreatDoorQX1
import Derived.Test.YtcnfcililiehlaaGreatDoorQX2
import Derived.Deep.RegionHeld3
import Derived.RangeFuncBox
import Derived.Laws.EntriesVeiled
namespace Go.Proofs.YtcnfcililiehlaaGreatDoor.Ch.Vd
open Go.RowKit
theorem isValid_any {w:World} {c:CH} {eV vV sV tV:Value} {sp:List SP} {tp:List TP} (h:ChM w c eV vV sV tV sp tp) (hec:∀ A n k,eV=.slice A n k->n<=k) (hsb:Sb c) :
 Calls Tryz.prog 31 #[chA c eV vV sV tV] w fun e w'=>e=.returned (.bool (decide (checkE c=0)))/\Below w.heap.size w w':=by
 obtain ⟨M,A1,A2,A3,A4,k1,k2,k3,k4,wb,hM,rfl,rfl,rfl,rfl,hwb,hb1,_,d0,d1,d2,d3,d4⟩:=box_ch h;have HC:=Lib.hid (check_any (h.below hb1) hec hsb);obtain ⟨RT,hRT⟩:∃ x,checkE c=x:=⟨_,rfl⟩
 rw [hRT] at HC ⊢;unfold chA at HC ⊢;rw [hM] at HC ⊢;have HW:=Lib.hid hwb;have HB:=Lib.hid hb1;clear h hec hsb hM hRT hwb hb1
 go_enter Tryz.func31,Tryz.ntmps31
 go_upto_region 1 with fail
 rw [<- HW.out]
 go_wp2_with fail
 refine HC.out.mono ?_;rintro e w2 ⟨rfl,hb2⟩;have HB2:=Lib.hid (HB.out.trans (hb2.mono HB.out.size));clear hb2;go_wp2;go_ret;exact ⟨ret_bool (by by_cases e:RT=0 <;> simp [e]),HB2.out⟩
noncomputable def legalC (c:CH) (l:List Int):Bool:=decide (checkE c=0) && Tr.legalB (dC c.ss) (kC c.ss) c.ss.length l
set_option maxRecDepth 100000 in
set_option maxHeartbeats 4000000 in
theorem legal_any {w:World} {c:CH} {eV vV sV tV u:Value} {sp:List SP} {tp:List TP} {l:List Int} (h:ChM w c eV vV sV tV sp tp) (hec:∀ A n k,eV=.slice A n k->n<=k) (hsb:Sb c) (hU:Tr.RdZ w u l) (hl:l.length<=4611686018427387904) :
 Calls Tryz.prog 14 #[chA c eV vV sV tV,u] w fun e w'=>e=.returned (.bool (legalC c l))/\Below w.heap.size w w':=by
 obtain ⟨M,A1,A2,A3,A4,k1,k2,k3,k4,wb,hM,rfl,rfl,rfl,rfl,hwb,hb1,_,d0,d1,d2,d3,d4⟩:=box_ch h;obtain ⟨A5,k5,rfl⟩:=hU.form;have hD3:=fun W (hW:Below wb.heap.size wb W)=>(hW.cell (cell_lt d3)).trans d3
 have HC:=Lib.hid (isValid_any (h.below hb1) hec hsb);have hss:=h.sLen;have HTR:Hid (checkE c=0->Tr.RightP (Tr.dp (sp.map toT)) (Tr.kp (sp.map toT)) (sp.map toT).length):=fun h0=>by
  rw [dp_toT h,kp_toT h,List.length_map,hss];exact (check_zero.1 h0).tree
 have hst:=fun W (i:Nat) (hW:Below w.heap.size w W) (hP:Tr.RightP (Tr.dp (sp.map toT)) (Tr.kp (sp.map toT)) (sp.map toT).length) (hi:i < (sp.map toT).length)=>Tr.stands_any (.slice A3 sp.length k3) (.slice A5 l.length k5) (sp.map toT) l i W ((h.below hW).rdT) (hU.below hW) hl hi hP
 have har:=fun W (hW:Below w.heap.size w W) (hx:(sp.map toT).length<=4611686018427387904)=>Tr.areStates_any (.slice A3 sp.length k3) (.slice A5 l.length k5) (sp.map toT) l W ((h.below hW).rdT) hx (hU.below hW) hl
 have hno:=fun i (hi:i < c.ss.length) (h:Tr.standB (dC c.ss) (kC c.ss) c.ss.length l i=false)=>Tr.legal_no (d:=dC c.ss) (kd:=kC c.ss) (n:=c.ss.length) (l:=l) (i:=i) hi h
 have hlg:(Tr.isRow (kC c.ss) c.ss.length (-1) l=true)->(∀ j,j < c.ss.length->Tr.standB (dC c.ss) (kC c.ss) c.ss.length l j=true)->Tr.legalB (dC c.ss) (kC c.ss) c.ss.length l=true:=fun a b=>by
  unfold Tr.legalB;rw [a,Bool.true_and,List.all_eq_true];exact fun j hj=>b j (List.mem_range.1 hj)
 have hro:Tr.isRow (kC c.ss) c.ss.length (-1) l=false->Tr.legalB (dC c.ss) (kC c.ss) c.ss.length l=false:=fun a=>by
  unfold Tr.legalB;rw [a];rfl
 simp only [dp_toT h,kp_toT h,List.length_map,hss] at hst har HTR;unfold chA at HC ⊢;rw [hM] at HC ⊢;obtain ⟨RS,hRS⟩:∃ r,legalC c l=r:=⟨_,rfl⟩
 have hr1:=hRS;unfold legalC at hr1;rw [hRS];have HST:=Lib.hid hst;have HAR:=Lib.hid har;have HNO:=Lib.hid hno;have HLG:=Lib.hid hlg;have HRO:=Lib.hid hro;have HRS:=Lib.hid hr1;have HW:=Lib.hid hwb;have HB:=Lib.hid hb1;have HD3:=Lib.hid hD3;clear h hec hsb hM hRS hwb hb1 hD3 hst har hno hlg hro hr1 hU;obtain ⟨n,hn⟩:∃ n,c.ss.length=n:=⟨_,rfl⟩
 simp only [hn] at hss HTR HST HAR HNO HLG HRO HRS;simp only [hss] at HC HW HD3 HST HAR d3 ⊢;clear hss hn;generalize checkE c=CE at *
 generalize l.length=ll at *
 generalize c.es.length=n1 at *;generalize c.vs.length=n2 at *;generalize tp.length=n4 at *
 go_enter Tryz.func14,Tryz.ntmps14
 go_upto_region 1 with fail
 rw [<- HW.out]
 go_wp2_with fail
 refine HC.out.mono ?_;rintro e w2 ⟨rfl,hb2⟩;have HB2:Hid (Below w.heap.size w w2):=HB.out.trans (hb2.mono HB.out.size);have e3:=HD3.out w2 hb2;have HBB:=Lib.hid hb2;clear hb2;by_cases h0:CE=0
 ·rw [decide_eq_true h0];have HT:=Lib.hid (HTR.out h0);have hn40:=HT.out.le;rw [decide_eq_true h0,Bool.true_and] at HRS;clear h0 HTR
  go_wp2_with fail
  refine (HAR.out w2 HB2.out (by omega)).mono ?_;rintro e w3 ⟨rfl,rfl⟩;by_cases hr:Tr.isRow (kC c.ss) n (-1) l=true
  ·rw [hr];have HR1:=Lib.hid hr;clear hr HRO;go_wp2
   go_loopw [5,19] (fun _ x19 wr=>∃ k:Nat,k<=n/\x19=.int .i64 k/\Below wb.heap.size wb wr/\Hid (∀ j,j < k->Tr.standB (dC c.ss) (kC c.ss) n l j=true)) (fun _ i _=>n - (intOf i).toNat)
   case atStart=>exact ⟨0,by omega,rfl,HBB.out,fun j hj=>absurd hj (by omega)⟩
   case round =>
    obtain ⟨k,hkn0,rfl,hbk,HJ⟩:=hrel;obtain ⟨wl,hwl⟩:∃ W,W=wr:=⟨_,rfl⟩
    subst hwl;have HBK:Hid (Below w.heap.size w wl):=HB.out.trans (hbk.mono HB.out.size);have f3:=HD3.out wl hbk;have HBQ:=Lib.hid hbk;clear hbk;by_cases hkn:k < n
    ·go_wp2_with fail
     refine (HST.out wl k HBK.out HT.out hkn).mono ?_;rintro e w4 ⟨rfl,hb4⟩;have HB4:Hid (Below wb.heap.size wb w4):=HBQ.out.trans (hb4.mono HBQ.out.size);have HB5:Hid (Below w.heap.size w w4):=HBK.out.trans (hb4.mono HBK.out.size);clear hb4;by_cases hs:Tr.standB (dC c.ss) (kC c.ss) n l k=true
     ·rw [hs];have HS:=Lib.hid hs;clear hs;go_wp2
      go_roundw
      case rel=>exact ⟨k+1,by omega,by go_num,HB4.out,fun j hj=>by
       by_cases e:j=k
       ·rw [e];exact HS.out
       ·exact HJ.out j (by omega)⟩
      case measure=>simp [intOf] <;> omega
     ·have hs':Tr.standB (dC c.ss) (kC c.ss) n l k=false:=by simpa using hs
      rw [hs'];have HF:Hid (RS=false):=by show RS=false;rw [<- HRS.out];exact HNO.out k hkn hs'
      clear hs hs';go_wp2;go_ret;exact ⟨ret_bool HF.out.symm,HB5.out⟩
    ·obtain rfl:k=n:=by omega
     have HF:Hid (RS=true):=by show RS=true;rw [<- HRS.out];exact HLG.out HR1.out HJ.out
     go_wp2;go_ret;exact ⟨ret_bool HF.out.symm,HBK.out⟩
  ·have hr':Tr.isRow (kC c.ss) n (-1) l=false:=by simpa using hr
   rw [hr'];have HF:Hid (RS=false):=by show RS=false;rw [<- HRS.out];exact HRO.out hr'
   clear hr hr';go_wp2;go_ret;exact ⟨ret_bool HF.out.symm,HB2.out⟩
 ·rw [decide_eq_false h0];have HF:Hid (RS=false):=by show RS=false;rw [<- HRS.out,decide_eq_false h0];rfl
  clear h0;go_wp2;go_ret;exact ⟨ret_bool HF.out.symm,HB2.out⟩
end Go.Proofs.YtcnfcililiehlaaGreatDoor.Ch.Vd
namespace Go.Proofs.YtcnfcililiehlaaGreatDoor.Ch.Vd
open Go.RowKit Go.Shelf
section
variable {P:Program} (w:World)
theorem append_where (base:Nat) (t ty e:TypeId) (i:TypeInfo) (z:Value) (size bytes:Nat) (ht:P.underlying t=some (.slice e)) (hi:P.info? e=some i) (hz:i.zero=some z)
 (hsize:i.size=size) (hby:i.bytes=bytes) (v:Value) (n:Nat) (xs:List Value) (hown:w.ownsRow base e size v n xs)
 (a:Addr) (m c:Nat) (news:List Value) (hl:news.length=m * size) (hnews:∀ j u,news[j]?=some u->w.cell? (a.add j)=some u) (h1:∀ u ∈ news,u.oneCell'=true)
 (h63:n+m<=maxLen) (hbytes:(n+m) * bytes<=140737488355328) (hm:m ≠ 0) {v':Value} {w':World} (hr:(Builtin.append_ #[t,t] ty #[v,.slice (some a) m c]).run P w=.ok v' w') :
 ∀ k,v'.ownBlock=some k->v.ownBlock=some k\/w.heap.size<=k:=by
 subst hsize;subst hby;have hsmall:n+m<=9223372036854775807:=by simp only [maxLen] at h63;omega
 intro k hk;rcases hown.2 with ⟨rfl,rfl⟩ | ⟨g,cap,cur,rfl,hbg,hg,hnc,hcm,hcs,htake⟩
 ·have hr2:=run_append_nil (P:=P) w t ty e i z ht hi hz a m c news hl hnews (Nat.pos_of_ne_zero hm) (by omega) (by have hb:=hbytes;simp only [Nat.zero_add] at hb;omega);rw [hr] at hr2;injection hr2 with h2 _
  subst h2;simp [Value.ownBlock] at hk;exact Or.inr (by omega)
 ·by_cases hroom:n+m<=cap
  ·have hfit:n * i.size+news.length<=cur.size:=by rw [hl,hcs,<- Nat.add_mul];exact Nat.mul_le_mul_right _ hroom
   have hr2:=run_append_room (P:=P) w t ty e i ht hi g n cap cur hg a m c news hl hnews h1 hroom hfit;rw [hr] at hr2;injection hr2 with h2 _
   subst h2;exact Or.inl hk
  ·have holds:∀ j u,xs[j]?=some u->w.cell? ((⟨g,0,none⟩:Addr).add j)=some u:=hown.cells (g:=g) rfl
   have hr2:=run_append_grow (P:=P) w t ty e i z ht hi hz ⟨g,0,none⟩ n cap xs hown.1 holds a m c news hl hnews (by omega) (by omega) (growslice_fits (by omega) hbytes);rw [hr] at hr2;injection hr2 with h2 _
   subst h2;simp [Value.ownBlock] at hk;exact Or.inr (by omega)
theorem wpList_append_own2 {ops:Array Oper} {rest:List Oper} {o:Oper} {a:Act} {Q:Exit->Act->World->Prop} (hgd:o.guard=none) (s x:Operand) (t:TypeId)
 (ho:o.op=.call { callee:=.builtin .append,args:=#[s,x],argTypes:=#[t,t] })
 (base:Nat) (e:TypeId) (i:TypeInfo) (z:Value) (size bytes:Nat) (ht:P.underlying t=some (.slice e)) (hi:P.info? e=some i) (hz:i.zero=some z)
 (hsize:i.size=size) (hby:i.bytes=bytes) (hzs:z.cells.size=size) (hsz:0 < size)
 (v:Value) (n:Nat) (xs:List Value) (hs:a.eval s=v) (hown:w.ownsRow base e size v n xs)
 (ad:Addr) (m c:Nat) (news:List Value) (hx:a.eval x=.slice (some ad) m c) (hl:news.length=m * size) (hnews:∀ j u,news[j]?=some u->w.cell? (ad.add j)=some u) (h1:∀ u ∈ news,u.oneCell'=true)
 (h63:n+m<=maxLen) (hbytes:(n+m) * bytes<=140737488355328) (hbase:base<=w.heap.size) (hm:m ≠ 0)
 (h:∀ v' w',w'.ownsRow base e size v' (n+m) (xs++news)->w.grownBy w' v.ownBlock->(∀ k,v'.ownBlock=some k->v.ownBlock=some k\/w.heap.size<=k)->wpList P ops Q rest (a.put o.dst v') w'):wpList P ops Q (o :: rest) a w:=by
 refine wpList_plain hgd fun K hK=>?_
 obtain ⟨v',w',hr,h2,h3,_⟩:=run_append_own (P:=P) w base t o.type e i z size bytes ht hi hz hsize hby hzs hsz v n xs hown ad m c news hl hnews h1 h63 hbytes hbase;have h4:=append_where (P:=P) w base t o.type e i z size bytes ht hi hz hsize hby v n xs hown ad m c news hl hnews h1 h63 hbytes hm hr;unfold Oper.wp execOp;simp only [ho,resolve,invoke,builtin,Sem.run_bind,Sem.run_pure,Result.andThen_ok,List.map_toArray,List.map_cons,List.map_nil,hs,hx,hr];exact hK _ _ (h v' w' h2 h3 h4)
end
structure Kp (L:Nat) (W:World) (v:Value) (W':World) (v':Value):Prop where
 size:W.heap.size<=W'.heap.size
 block:∀ k,k < W.heap.size->k ≠ L->some k ≠ v.ownBlock->W'.heap[k]?=W.heap[k]?
 own:∀ k,v'.ownBlock=some k->v.ownBlock=some k\/W.heap.size<=k
theorem Kp.refl (L:Nat) (W:World) (v:Value):Kp L W v W v:=⟨Nat.le_refl _,fun _ _ _ _=>rfl,fun _ h=>Or.inl h⟩
theorem Kp.of_below {L:Nat} {W W':World} {v:Value} (h:Below W.heap.size W W'):Kp L W v W' v:=⟨h.size,fun k hk _ _=>h.block k hk,fun _ h=>Or.inl h⟩
theorem Kp.trans {L:Nat} {W W' W'':World} {v v' v'':Value} (h:Kp L W v W' v') (g:Kp L W' v' W'' v''):Kp L W v W'' v'':=by
 refine ⟨Nat.le_trans h.size g.size,fun k hk hL hv=>?_,fun k hk=>?_⟩
 ·rw [g.block k (Nat.lt_of_lt_of_le hk h.size) hL,h.block k hk hL hv];intro e;rcases h.own k e.symm with a | a
  ·exact hv a.symm
  ·omega
 ·rcases g.own k hk with a | a
  ·exact h.own k a
  ·exact Or.inr (Nat.le_trans h.size a)
theorem Kp.cell {L:Nat} {W W':World} {v v' u:Value} {b j:Nat} (h:Kp L W v W' v') (hc:W.cell? ⟨b,j,none⟩=some u) (hL:b ≠ L) (hv:some b ≠ v.ownBlock):W'.cell? ⟨b,j,none⟩=some u :=
 (World.cell?_of_block (h.block b (cell_lt hc) hL hv)).trans hc
theorem below_of_drewx {w W:World} (h:Below w.drew.heap.size w.drew W):Below w.heap.size w W:=(Below.drew (Below.refl _ _)).trans (show Below w.heap.size w.drew W from h)
def wkF (C:Nat):Value:=.func (.func 50) #[] #[.pointer (some ⟨C+1,0,none⟩),.pointer (some ⟨C,0,none⟩),.pointer (some ⟨C+2,0,none⟩)]
structure DnI (w:World) (cur:Array Value) (W:World) (l:List Nat) (v:Value):Prop where
 below:Below w.heap.size w W
 size:w.heap.size+3<=W.heap.size
 box:W.heap[w.heap.size]?=some (.cells cur 27 (0,0))
 fn:Boxed W (w.heap.size+2) 81 (wkF w.heap.size)
 lst:Boxed W (w.heap.size+1) 29 v
 row:W.ownsRow (w.heap.size+3) 3 1 v l.length (Tr.kvN l)
theorem DnI.later {w W W':World} {cur:Array Value} {l:List Nat} {v:Value} (h:DnI w cur W l v) (hb:Below W.heap.size W W'):DnI w cur W' l v:=by
 have hs:=h.size;exact ⟨h.below.trans (hb.mono h.below.size),Nat.le_trans h.size hb.size,(hb.block _ (by omega)).trans h.box,(hb.block _ (by omega)).trans h.fn,(hb.block _ (by omega)).trans h.lst,own_below h.row hb⟩
theorem DnI.more {w W w2:World} {cur:Array Value} {l:List Nat} {v v':Value} {tmp:Obj} {i:Nat} (h:DnI w cur W l v) (hown:w2.ownsRow (w.heap.size+3) 3 1 v' (l.length+1) (Tr.kvN l++[.int .i64 (i:Int)]))
 (hg:(W.alloc tmp).grownBy w2 v.ownBlock) (hw:∀ k,v'.ownBlock=some k->v.ownBlock=some k\/W.heap.size+1<=k) :
 Boxed w2 (w.heap.size+1) 29 v/\DnI w cur (w2.setCell ⟨w.heap.size+1,0,none⟩ v') (l++[i]) v'/\Kp (w.heap.size+1) W v (w2.setCell ⟨w.heap.size+1,0,none⟩ v') v':=by
 have hs:=h.size;have hlow:∀ j,v.ownBlock=some j->w.heap.size+3<=j:=fun j hj=>(h.row.lt j hj).1
 have hz:(W.alloc tmp).heap.size=W.heap.size+1:=by simp
 have hzz:=hg.size;have hold:∀ k,k < W.heap.size->some k ≠ v.ownBlock->w2.heap[k]?=W.heap[k]?:=fun k hk hne=>(hg.block k (by omega) hne).trans (heap_alloc_old W tmp hk)
 have hlo:∀ k,k < w.heap.size+3->w2.heap[k]?=W.heap[k]?:=fun k hk=>hold k (by omega) (fun e=>by have:=hlow k e.symm;omega)
 have hL:=(hlo (w.heap.size+1) (by omega)).trans h.lst;have hset:=grownBy_setCell' w2 (w.heap.size+1) v';have hkeep:∀ k,k < w2.heap.size->k ≠ w.heap.size+1->(w2.setCell ⟨w.heap.size+1,0,none⟩ v').heap[k]?=w2.heap[k]?:=fun k hk hne=>hset.block k hk (fun e=>hne (Option.some.inj e))
 refine ⟨hL,⟨?_,?_,?_,?_,?_,?_⟩,⟨?_,fun k hk hkL hkv=>?_,fun k hk=>?_⟩⟩
 ·refine ⟨hset.os.trans (hg.os.trans h.below.os),hset.tape.trans (hg.tape.trans h.below.tape),hset.output.trans (hg.output.trans h.below.output),?_,fun k hk=>?_⟩
  ·have:=hset.size;omega
  ·exact (hkeep k (by omega) (by omega)).trans ((hlo k (by omega)).trans (h.below.block k hk))
 ·have:=hset.size;omega
 ·exact (hkeep _ (by omega) (by omega)).trans ((hlo _ (by omega)).trans h.box)
 ·exact (hkeep _ (by omega) (by omega)).trans ((hlo _ (by omega)).trans h.fn)
 ·exact Boxed.set (t:=29) (v:=v) v' hL
 ·have:(w2.setCell ⟨w.heap.size+1,0,none⟩ v').ownsRow (w.heap.size+3) 3 1 v' (l.length+1) (Tr.kvN l++[.int .i64 (i:Int)]):=by
   refine hown.kept hset ?_;cases hv:v'.ownBlock with
   | none=>exact Or.inl rfl
   | some q=>exact Or.inr (fun e=>by have:=(hown.lt q hv).1;have e:=Option.some.inj e;omega)
  rw [List.length_append]
  simpa [Tr.kvN] using this
 ·have:=hset.size;omega
 ·exact (hkeep k (by omega) hkL).trans (hold k hk hkv)
 ·rcases hw k hk with a | a
  ·exact Or.inl a
  ·exact Or.inr (by omega)
def iniF (c:CH) (p:Nat):Nat:=(placeC c.ss (iniC c.ss p)).toNat
theorem ini_place {c:CH} (hV:Valid c) {p:Nat} (hp:p < c.ss.length) (hk:kC c.ss p=2):placeC c.ss (iniC c.ss p)=(iniF c p:Int)/\iniF c p < c.ss.length/\Tr.par (dC c.ss) (iniF c p)=(p:Int)/\¬ Tr.pastP (kC c.ss (iniF c p)):=by
 have hi:=hV.init p hp;unfold initE at hi;rw [if_neg (fun h=>h.1 hk)] at hi;by_cases hb:beginP c.ss p (placeC c.ss (iniC c.ss p))
 ·obtain ⟨h1,h2,h3⟩:=hb;rcases ix_range (isS (iniC c.ss p)) c.ss with hx | ⟨hx,hx2⟩
  ·exact absurd hx h1
  ·have hpl:placeC c.ss (iniC c.ss p)=(iniF c p:Int):=by
    unfold iniF;have:0<=placeC c.ss (iniC c.ss p):=hx;omega
   have hlt:(iniF c p:Int) < c.ss.length:=by rw [<- hpl];exact hx2
   rw [hk] at h3;refine ⟨hpl,by omega,?_,h2⟩;rcases h3 with ⟨_,h⟩ | ⟨h,_⟩ | ⟨h,_⟩
   ·exact h
   ·omega
   ·omega
 ·rw [if_neg hb] at hi;omega
def nmC (ss:List SC) (i:Nat):List UInt8:=match ss[i]? with | some s=>s.nm | none=>[]
theorem nmC_at {ss:List SC} {i:Nat} (h:i < ss.length):nmC ss i=ss[i].nm:=by unfold nmC;rw [List.getElem?_eq_getElem h]
theorem toT_nm (p:SP):(toT p).nm=⟨p.1.nm.toArray⟩:=by unfold toT;split <;> rfl
theorem toT_ini (p:SP):(toT p).ini=⟨p.1.ini.toArray⟩:=by unfold toT;split <;> rfl
theorem ch_states {w:World} {c:CH} {eV vV tV:Value} {sp:List SP} {tp:List TP} {A3:Option Addr} {n3 k3:Nat} (h:ChM w c eV vV (.slice A3 n3 k3) tV sp tp) (h0:0 < c.ss.length) :
 ∃ (b o:Nat) (X Y:Nat->ByteArray) (a4 a5:Nat->Option Addr) (m4 q4 m5 q5:Nat->Nat),A3=some ⟨b,o,none⟩/\b < w.heap.size/\(∀ i,i < c.ss.length->(X i).data.toList=nmC c.ss i/\(Y i).data.toList=iniC c.ss i) /\
  ∀ W,Below w.heap.size w W->∀ i,i < c.ss.length->W.cell? ⟨b,o+i * 6,none⟩=some (.string (X i))/\W.cell? ⟨b,o+i * 6+1,none⟩=some (.int .i64 (kC c.ss i))/\W.cell? ⟨b,o+i * 6+2,none⟩=some (.int .i64 (dC c.ss i)) /\
   W.cell? ⟨b,o+i * 6+3,none⟩=some (.string (Y i))/\W.cell? ⟨b,o+i * 6+4,none⟩=some (.slice (a4 i) (m4 i) (q4 i))/\W.cell? ⟨b,o+i * 6+5,none⟩=some (.slice (a5 i) (m5 i) (q5 i)):=by
 have hl:(sp.map toT).length=c.ss.length:=by rw [List.length_map,h.sLen]
 obtain ⟨b,o,rfl,hb,hc⟩:=h.rdT.base (by rw [hl];exact h0);rw [kp_toT h,dp_toT h] at hc;refine ⟨b,o,fun i=>match (sp.map toT)[i]? with | some x=>x.nm | none=>⟨#[]⟩,fun i=>match (sp.map toT)[i]? with | some x=>x.ini | none=>⟨#[]⟩,
  fun i=>match (sp.map toT)[i]? with | some x=>x.ea | none=>none,fun i=>match (sp.map toT)[i]? with | some x=>x.xa | none=>none,
  fun i=>match (sp.map toT)[i]? with | some x=>x.en | none=>0,fun i=>match (sp.map toT)[i]? with | some x=>x.ec | none=>0,
  fun i=>match (sp.map toT)[i]? with | some x=>x.xn | none=>0,fun i=>match (sp.map toT)[i]? with | some x=>x.xc | none=>0,rfl,hb,fun i hi=>?_,fun W hW i hi=>?_⟩
 ·have hi':i < sp.length:=by rw [h.sLen];exact hi
  have hE:c.ss[i]=(sp[i]).1:=by simp [<- h.ssE]
  simp only [List.getElem?_eq_getElem (show i < (sp.map toT).length by rw [hl];exact hi),List.getElem_map,toT_nm,toT_ini];rw [nmC_at hi,iniC_at hi,hE];exact ⟨rfl,rfl⟩
 ·obtain ⟨f0,f1,f2,f3,f4,f5⟩:=hc i (by rw [hl];exact hi);simp only [List.getElem?_eq_getElem (show i < (sp.map toT).length by rw [hl];exact hi)];exact ⟨(hW.cell (cell_lt f0)).trans f0,(hW.cell (cell_lt f1)).trans f1,(hW.cell (cell_lt f2)).trans f2,(hW.cell (cell_lt f3)).trans f3,(hW.cell (cell_lt f4)).trans f4,(hW.cell (cell_lt f5)).trans f5⟩
def bgC (c:CH) (i:Nat):List Nat:=Tr.bgL (dC c.ss) (kC c.ss) (iniF c) c.ss.length i
theorem bgC_len (c:CH) (i:Nat):(bgC c i).length<=c.ss.length:=by
 refine Nat.le_trans (List.length_filter_le _ _) ?_;rw [List.length_range];omega
theorem flat_le {f:Nat->List Nat} (ks:List Nat) {k:Nat} (hk:k < ks.length):((ks.take k).flatMap f).length+(f ks[k]).length<=(ks.flatMap f).length:=by
 have h:ks=ks.take k++(ks[k] :: ks.drop (k+1)):=by rw [List.getElem_cons_drop hk,List.take_append_drop]
 have e:(ks.flatMap f).length=((ks.take k++(ks[k] :: ks.drop (k+1))).flatMap f).length:=by rw [<- h]
 rw [e,List.flatMap_append,List.flatMap_cons,List.length_append,List.length_append];omega
theorem flat_succ {f:Nat->List Nat} (ks:List Nat) {k:Nat} (hk:k < ks.length):(ks.take (k+1)).flatMap f=(ks.take k).flatMap f++f ks[k]:=by
 rw [List.take_succ_eq_append_getElem hk,List.flatMap_append,List.flatMap_singleton]
set_option maxRecDepth 100000 in
set_option maxHeartbeats 8000000 in
theorem walk_any {w:World} {c:CH} {eV vV sV tV:Value} {sp:List SP} {tp:List TP} (h:ChM w c eV vV sV tV sp tp) (hV:Valid c) {M:ByteArray} {A1 A2 A3 A4:Option Addr} {n1 n2 n3 n4 k1 k2 k3 k4:Nat}
 (hM:bstr c.nm=.string M) (e1:eV=.slice A1 n1 k1) (e2:vV=.slice A2 n2 k2) (e3:sV=.slice A3 n3 k3) (e4:tV=.slice A4 n4 k4) :
 ∀ m i W l v,c.ss.length - i<=m->i < c.ss.length->l.length+(bgC c i).length<=100000->DnI w #[.string M,.slice A1 n1 k1,.slice A2 n2 k2,.slice A3 n3 k3,.slice A4 n4 k4] W l v ->
  Calls Tryz.prog 50 #[.int .i64 i,.pointer (some ⟨w.heap.size+1,0,none⟩),.pointer (some ⟨w.heap.size,0,none⟩),.pointer (some ⟨w.heap.size+2,0,none⟩)] W
   fun e W'=>e=.returned (.tuple #[])/\∃ v',DnI w #[.string M,.slice A1 n1 k1,.slice A2 n2 k2,.slice A3 n3 k3,.slice A4 n4 k4] W' (l++bgC c i) v'/\Kp (w.heap.size+1) W v W' v':=by
 intro m
 induction m with
 | zero=>intro i W l v h1 h2;omega
 | succ m ih =>
 intro i W l v hm hi hlen hI;obtain ⟨i0,hi0,hz0,hz1,hz2⟩:=info_parts Tr.Tryz.infoInt;have HII:=Lib.hid hi0;have HZ0:=Lib.hid hz0;have HZ1:=Lib.hid hz1;have HZ2:=Lib.hid hz2;clear hi0 hz0 hz1 hz2;subst e1;subst e2;subst e3;subst e4;obtain ⟨A5,c5,rfl⟩:=own_slice hI.row;have hss:=h.sLen;have hn3:n3=c.ss.length:=by
  obtain ⟨_,_,e⟩:=h.ss.form;simp only [Value.slice.injEq] at e;exact e.2.1.trans hss
 subst hn3;have hT:treeP c:=hV.tree;have hip:i < sp.length:=by omega
 have hn40:c.ss.length<=40:=hT.le;have HPL:=Lib.hid (fun W' (hW:Below w.heap.size w W') Y=>place_any (h.below hW) (by omega) Y);have HKI:=Lib.hid (fun W' (hW:Below w.heap.size w W')=>Tr.kids_any (.slice A3 c.ss.length k3) (sp.map toT) i W' (h.below hW).rdT (by rw [List.length_map];exact hip) (by rw [dp_toT h,kp_toT h,List.length_map,hss];exact hT));rw [dp_toT h,List.length_map,hss] at HKI;obtain ⟨b,o,X,Y,a4,a5,m4,q4,m5,q5,rfl,hbw,hXY,hcs⟩:=ch_states h (by omega);have HCS:=Lib.hid (fun W' hW=>hcs W' hW i hi);have hYi:=(hXY i hi).2;have HIH:=Lib.hid ih;have hb1:=bgC_len c i;have hrow:=hI.row;have c0:=hI.lst.cell;have hsz:=hI.size;unfold chA at HPL;rw [hM] at HPL;have HI:=Lib.hid hI;clear ih hI h hss hip
 go_enter Tryz.func50,Tryz.ntmps50
 go_wp2_with (at_builtin;refine wpList_append_own2 _ rfl _ _ 29 rfl (w.heap.size+3) 3 i0 _ 1 8 Tryz.underlying29 HII.out HZ0.out HZ1.out HZ2.out rfl (by decide) _ l.length (Tr.kvN l) rfl (hrow.alloc _) ⟨W.heap.size,0,none⟩ 1 1 [.int .i64 i] rfl rfl (Tr.one_int W _) (by intro u hu;simp at hu;subst hu;rfl) (by unfold maxLen;omega) (by omega) (by simp;omega) (by decide) ?_)
 intro v' w2 hown hg hw;obtain ⟨hL,hD1,hK1⟩:=HI.out.more hown hg hw;obtain ⟨g',cap',rfl⟩:=ownsRow_succ hown;obtain ⟨W3,hW3⟩:∃ X,X=w2.setCell ⟨w.heap.size+1,0,none⟩ (.slice (some ⟨g',0,none⟩) (l.length+1) cap'):=⟨_,rfl⟩
 rw [<- hW3] at hD1 hK1;have q1:=hL.cell;have q2:=hL.frozen;have HW3:=Lib.hid hW3;clear hown hg hw hL hW3 c0 hrow;have HD1:=Lib.hid hD1;have HK1:=Lib.hid hK1;obtain ⟨d0,d1,d2,d3,d4⟩:=box_cells hD1.box;obtain ⟨r0,r1,r2,r3,r4,r5⟩:=HCS.out W3 hD1.below;have hsz3:=hD1.size;obtain ⟨W4,hW4⟩:∃ X',X'=W3.alloc (.cells #[.string (X i),.int .i64 (kC c.ss i),.int .i64 (dC c.ss i),.string (Y i),.slice (a4 i) (m4 i) (q4 i),.slice (a5 i) (m5 i) (q5 i)] 50):=⟨_,rfl⟩
 have hb4:Below W3.heap.size W3 W4:=hW4 ▸ (Below.refl _ _).alloc (Nat.le_refl _) _;have HD4:=Lib.hid (hD1.later hb4);have HK4:=Lib.hid (hK1.trans (Kp.of_below (L:=w.heap.size+1) (v:=.slice (some ⟨g',0,none⟩) (l.length+1) cap') hb4));obtain ⟨s1,s3⟩:W4.cell? ⟨W3.heap.size,1,none⟩=some (.int .i64 (kC c.ss i))/\W4.cell? ⟨W3.heap.size,3,none⟩=some (.string (Y i)):=by rw [hW4];simp
 have HW4:=Lib.hid hW4;clear hW4 hD1 hK1
 go_upto_region 1 with fail
 rw [<- HW3.out]
 go_upto_region 2 with fail
 rw [<- HW4.out];have hpar:∀ W' l' v',DnI w #[.string M,.slice A1 n1 k1,.slice A2 n2 k2,.slice (some ⟨b,o,none⟩) c.ss.length k3,.slice A4 n4 k4] W' l' v'->W'.cell? ⟨w.heap.size+2,0,none⟩=some (.func (.func 50) #[] #[.pointer (some ⟨w.heap.size+1,0,none⟩),.pointer (some ⟨w.heap.size,0,none⟩),.pointer (some ⟨w.heap.size+2,0,none⟩)]):=fun W' l' v' h=>h.fn.cell
 have HF:=Lib.hid hpar;clear hpar;by_cases hq2:kC c.ss i=2
 ·obtain ⟨p1,p2,p3,_⟩:=ini_place hV hi hq2;have hgt:=(hT.nst.kid p2 p3).1;have hbg:bgC c i=i :: bgC c (iniF c i):=Tr.bgL_one hT.nst hi hq2 p2 p3;rw [hbg] at hlen;rw [hYi.symm] at p1;have hpl2:=fun W' hW=>HPL.out W' hW (Y i)
  rw [p1] at hpl2;have HPI:=Lib.hid hpl2;have HBG:=Lib.hid hbg;rw [hq2] at s1;have hl2:(l++[i]).length+(bgC c (iniF c i)).length<=100000:=by
   rw [List.length_append,List.length_singleton];rw [List.length_cons] at hlen;omega
  have HL2:=Lib.hid hl2;have HGT:Hid (c.ss.length - iniF c i<=m/\iniF c i < c.ss.length):=⟨by omega,p2⟩;have hs4:W3.heap.size ≠ w.heap.size+1/\W3.heap.size ≠ g':=by
   have:=(HD1.out.row.lt g' rfl).2;exact ⟨by omega,by omega⟩
  have HS4:=Lib.hid hs4;have f6:=HF.out W4 _ _ HD4.out;obtain ⟨f0,f1,f2,f3,f4⟩:=box_cells HD4.out.box;have HKV:Hid (∀ W' W'',Below W'.heap.size W' W''->W'.cell? ⟨w.heap.size+2,0,none⟩=some (.func (.func 50) #[] #[.pointer (some ⟨w.heap.size+1,0,none⟩),.pointer (some ⟨w.heap.size,0,none⟩),.pointer (some ⟨w.heap.size+2,0,none⟩)])->W'.cell? ⟨w.heap.size,0,none⟩=some (.string M)->W'.cell? ⟨w.heap.size,1,none⟩=some (.slice A1 n1 k1)->W'.cell? ⟨w.heap.size,2,none⟩=some (.slice A2 n2 k2)->W'.cell? ⟨w.heap.size,3,none⟩=some (.slice (some ⟨b,o,none⟩) c.ss.length k3)->W'.cell? ⟨w.heap.size,4,none⟩=some (.slice A4 n4 k4)->W'.cell? ⟨W3.heap.size,3,none⟩=some (.string (Y i)) ->
   W''.cell? ⟨w.heap.size+2,0,none⟩=some (.func (.func 50) #[] #[.pointer (some ⟨w.heap.size+1,0,none⟩),.pointer (some ⟨w.heap.size,0,none⟩),.pointer (some ⟨w.heap.size+2,0,none⟩)])/\W''.cell? ⟨w.heap.size,0,none⟩=some (.string M)/\W''.cell? ⟨w.heap.size,1,none⟩=some (.slice A1 n1 k1)/\W''.cell? ⟨w.heap.size,2,none⟩=some (.slice A2 n2 k2)/\W''.cell? ⟨w.heap.size,3,none⟩=some (.slice (some ⟨b,o,none⟩) c.ss.length k3)/\W''.cell? ⟨w.heap.size,4,none⟩=some (.slice A4 n4 k4)/\W''.cell? ⟨W3.heap.size,3,none⟩=some (.string (Y i))) :=
   fun _ _ hb g0 g1 g2 g3 g4 g5 g6=>⟨(hb.cell (cell_lt g0)).trans g0,(hb.cell (cell_lt g1)).trans g1,(hb.cell (cell_lt g2)).trans g2,(hb.cell (cell_lt g3)).trans g3,(hb.cell (cell_lt g4)).trans g4,(hb.cell (cell_lt g5)).trans g5,(hb.cell (cell_lt g6)).trans g6⟩
  clear p1 hbg hq2 p3 hpl2 hl2 hlen hgt hs4 hYi p2 hm
  go_upto_region 4 with fail
  go_region_held3 (fun w'=>w'.cell? ⟨w.heap.size+2,0,none⟩=some (.func (.func 50) #[] #[.pointer (some ⟨w.heap.size+1,0,none⟩),.pointer (some ⟨w.heap.size,0,none⟩),.pointer (some ⟨w.heap.size+2,0,none⟩)])/\w'.cell? ⟨w.heap.size,0,none⟩=some (.string M)/\w'.cell? ⟨w.heap.size,1,none⟩=some (.slice A1 n1 k1)/\w'.cell? ⟨w.heap.size,2,none⟩=some (.slice A2 n2 k2)/\w'.cell? ⟨w.heap.size,3,none⟩=some (.slice (some ⟨b,o,none⟩) c.ss.length k3)/\w'.cell? ⟨w.heap.size,4,none⟩=some (.slice A4 n4 k4)/\w'.cell? ⟨W3.heap.size,3,none⟩=some (.string (Y i)))
   (first
    | go_keep
    | (go_split_ands;exact HKV.out _ _ hb5 (by assumption) (by assumption) (by assumption) (by assumption) (by assumption) (by assumption) (by assumption))
    | (go_split_ands;obtain ⟨z0,z1,z2,z3,z4⟩:=box_cells hD6.box;exact ⟨HF.out _ _ _ hD6,z0,z1,z2,z3,z4,hK6.cell (by assumption) HS4.out.1 (fun e=>HS4.out.2 (Option.some.inj e))⟩))
   ((first | (go_at_call 51;(with_reducible refine (HPI.out _ (by first | exact HD4.out.below | exact Below.drew HD4.out.below)).mono ?_);rintro e w5 ⟨rfl,hb5⟩) | (go_at_call 50;(with_reducible refine (HIH.out (iniF c i) _ (l++[i]) _ HGT.out.1 HGT.out.2 HL2.out (HD4.out.later (by first | exact hb5 | exact below_of_drewx hb5))).mono ?_);rintro e w6 ⟨rfl,v6,hD6,hK6⟩)))
  all_goals (have hDD:DnI w #[.string M,.slice A1 n1 k1,.slice A2 n2 k2,.slice (some ⟨b,o,none⟩) c.ss.length k3,.slice A4 n4 k4] w6 (l++bgC c i) v6:=by rw [HBG.out];simpa using hD6)
  all_goals (have HDD:=Lib.hid hDD;have HKK:=Lib.hid ((HK4.out.trans (Kp.of_below (L:=w.heap.size+1) (v:=.slice (some ⟨g',0,none⟩) (l.length+1) cap') (by first | exact hb5 | exact below_of_drewx hb5))).trans hK6);clear hDD hD6 hK6 hb5;go_wp2;go_end0;exact ⟨rfl,v6,HDD.out,HKK.out⟩)
 ·by_cases k3':kC c.ss i=3
  ·have hbg:bgC c i=i :: (Tr.kids (dC c.ss) c.ss.length i).flatMap (bgC c):=Tr.bgL_both hT.nst hi k3';rw [hbg] at hlen;have hkl:=Tr.kids_len (dC c.ss) c.ss.length i;have hkid:∀ k ∈ Tr.kids (dC c.ss) c.ss.length i,i < k/\k < c.ss.length:=fun k hk=>Tr.kid_lt hk
   have HBG:=Lib.hid hbg;have HKD:=Lib.hid hkid;rw [k3'] at s1;obtain ⟨f0,f1,f2,f3,f4⟩:=box_cells HD4.out.box;clear hbg k3' hq2 hkid
   go_wp2_with fail
   refine (HKI.out W4 HD4.out.below).mono ?_;rintro e W5 ⟨⟨u,rfl,hown⟩,hb5⟩;obtain ⟨ks,hks⟩:∃ x,x=Tr.kids (dC c.ss) c.ss.length i:=⟨_,rfl⟩
   rw [<- hks] at hown hkl hlen HBG HKD;obtain ⟨kn,hkn⟩:∃ x,ks.length=x:=⟨_,rfl⟩
   obtain ⟨A6,c6,rfl⟩:=own_slice hown;have HD5:=Lib.hid (HD4.out.later hb5);have hrz:=Tr.rdZ_own hown;have HCK:Hid (∀ k (hk:k < ks.length) wr vr,Kp (w.heap.size+1) W5 (.slice (some ⟨g',0,none⟩) (l.length+1) cap') wr vr->∃ b' o',A6=some ⟨b',o',none⟩/\wr.cell? ⟨b',o'+k,none⟩=some (.int .i64 (ks[k]:Nat))):=by
    intro k hk wr vr hK;obtain ⟨b',o',e1,_,hc⟩:=hrz.at_ (k:=k) (by rw [Tr.toI_len];exact hk);subst e1;have hb':=(hown.lt b' rfl).1;have hg':=(HD4.out.row.lt g' rfl).2;have hs4:=HD4.out.size;refine ⟨b',o',rfl,?_⟩;have hx:(Tr.toI ks)[k]'(by rw [Tr.toI_len];exact hk)=((ks[k]:Nat):Int):=by unfold Tr.toI;rw [List.getElem_map]
    rw [hx] at hc;exact hK.cell hc (by omega) (fun e=>by have e2:b'=g':=Option.some.inj e;omega)
   have HK5:=Lib.hid (HK4.out.trans (Kp.of_below (L:=w.heap.size+1) (v:=.slice (some ⟨g',0,none⟩) (l.length+1) cap') hb5));rw [hkn];have HKN:=Lib.hid hkn;clear hown hb5 hrz hks;go_wp2
   go_loopw [7,34] (fun _ x34 wr=>∃ (k:Nat) (vr:Value),k<=kn/\x34=.int .i64 k/\DnI w #[.string M,.slice A1 n1 k1,.slice A2 n2 k2,.slice (some ⟨b,o,none⟩) c.ss.length k3,.slice A4 n4 k4] wr (l++[i]++(ks.take k).flatMap (bgC c)) vr/\Kp (w.heap.size+1) W5 (.slice (some ⟨g',0,none⟩) (l.length+1) cap') wr vr) (fun _ x _=>kn - (intOf x).toNat)
   case atStart=>exact ⟨0,_,by omega,rfl,by simpa using HD5.out,Kp.refl _ _ _⟩
   case round =>
    obtain ⟨k,vr,hk,rfl,hDr,hKr⟩:=hrel;obtain ⟨wl,hwl⟩:∃ W,W=wr:=⟨_,rfl⟩
    subst hwl;have HDR:=Lib.hid hDr;have HKR:=Lib.hid hKr;by_cases hkk:k < kn
    ·have hkl2:k < ks.length:=by omega
     obtain ⟨b',o',rfl,hck⟩:=HCK.out k hkl2 wl vr hKr;have hff:=HF.out wl _ _ hDr;have hfl:=flat_le (f:=bgC c) ks hkl2;have hfs:=flat_succ (f:=bgC c) ks hkl2;have HX:=Lib.hid (HKD.out ks[k] (List.getElem_mem hkl2));have hl2:(l++[i]++(ks.take k).flatMap (bgC c)).length+(bgC c ks[k]).length<=100000:=by
      rw [List.length_append,List.length_append,List.length_singleton];rw [List.length_cons] at hlen;omega
     have HL2:=Lib.hid hl2;have HFS:=Lib.hid hfs;clear hDr hKr hl2 hfl hfs hlen;generalize ks[k]=x at *
     go_wp2_with fail
     refine (HIH.out x wl _ vr (by have:=HX.out;omega) HX.out.2 HL2.out HDR.out).mono ?_;rintro e w6 ⟨rfl,v6,hD6,hK6⟩;have HD6:=Lib.hid hD6;have HK6:=Lib.hid (HKR.out.trans hK6);clear hD6 hK6;go_wp2
     go_roundw
     case rel=>exact ⟨k+1,v6,by omega,by go_num,by rw [HFS.out,<- List.append_assoc];exact HD6.out,HK6.out⟩
     case measure=>simp [intOf] <;> omega
    ·obtain rfl:k=kn:=by omega
     have hall:ks.take k=ks:=by rw [<- HKN.out];exact List.take_length
     have hDD:=HDR.out;rw [hall,List.append_assoc,List.singleton_append,<- HBG.out] at hDD;have HDD:=Lib.hid hDD;have HKF:=Lib.hid (HK5.out.trans HKR.out);clear hDD hDr hKr;go_wp2
     go_end0
     exact ⟨rfl,vr,HDD.out,HKF.out⟩
  ·have hbg:bgC c i=[i]:=Tr.bgL_leaf hi hq2 k3';have e2:(kC c.ss i==2)=false:=int_ne hq2;have e3:(kC c.ss i==3)=false:=int_ne k3';have hDD:=HD4.out;rw [<- hbg] at hDD;have HDD:=Lib.hid hDD;clear hDD hbg;go_wp2
   go_end0
   exact ⟨rfl,_,HDD.out,HK4.out⟩
end Go.Proofs.YtcnfcililiehlaaGreatDoor.Ch.Vd
namespace Go.Proofs.YtcnfcililiehlaaGreatDoor.Ch.Vd
open Go.RowKit Go.Shelf
theorem dn_start (w:World) (cur:Array Value) {W2:World} (hW2:W2=((w.alloc (.cells cur 27)).alloc (.cells #[.slice none 0 0] 29)).alloc (.cells #[.nilFunc] 81)) :
 Boxed W2 (w.heap.size+1+1) 81 .nilFunc/\DnI w cur (W2.setCell ⟨w.heap.size+1+1,0,none⟩ (wkF w.heap.size)) [] (.slice none 0 0):=by
 have hz1:(w.alloc (.cells cur 27)).heap.size=w.heap.size+1:=by simp
 have hc:=World.alloc_heap_new w (.cells cur 27);have hl:=Boxed.new (w.alloc (.cells cur 27)) 29 (.slice none 0 0);rw [hz1] at hl;have hf:=Boxed.new ((w.alloc (.cells cur 27)).alloc (.cells #[.slice none 0 0] 29)) 81 .nilFunc;have hz2:((w.alloc (.cells cur 27)).alloc (.cells #[.slice none 0 0] 29)).heap.size=w.heap.size+1+1:=by simp
 rw [hz2] at hf;have hl2:=hl.alloc (.cells #[.nilFunc] 81);have hb:Below w.heap.size w W2:=by
  rw [hW2];exact (((Below.refl _ _).alloc (Nat.le_refl _) _).alloc (by simp) _).alloc (by simp;omega) _
 have hc2:W2.heap[w.heap.size]?=some (.cells cur 27 (0,0)):=by
  have g1:=(World.grownBy_alloc (w.alloc (.cells cur 27)) (.cells #[.slice none 0 0] 29) none).block w.heap.size (by rw [hz1];omega) (by simp);have g2:=(World.grownBy_alloc ((w.alloc (.cells cur 27)).alloc (.cells #[.slice none 0 0] 29)) (.cells #[.nilFunc] 81) none).block w.heap.size (by rw [hz2];omega) (by simp);rw [hW2];exact (g2.trans g1).trans hc
 have hz3:W2.heap.size=w.heap.size+1+1+1:=by rw [hW2];simp
 rw [<- hW2] at hf hl2;clear hW2 hl hc;have hset:=grownBy_setCell' W2 (w.heap.size+1+1) (wkF w.heap.size);have hk:∀ k,k < w.heap.size+1+1->(W2.setCell ⟨w.heap.size+1+1,0,none⟩ (wkF w.heap.size)).heap[k]?=W2.heap[k]?:=fun k hk=>hset.block k (by omega) (fun e=>by have:=Option.some.inj e;omega)
 refine ⟨hf,⟨hset.os.trans hb.os,hset.tape.trans hb.tape,hset.output.trans hb.output,Nat.le_trans hb.size hset.size,fun k hk'=>(hk k (by omega)).trans (hb.block k hk')⟩,?_,(hk _ (by omega)).trans hc2,Boxed.set _ hf,(hk _ (by omega)).trans hl2,World.ownsRow_nil _ _ _ _⟩;have:=hset.size;omega
set_option maxRecDepth 100000 in
set_option maxHeartbeats 4000000 in
theorem down_any {w:World} {c:CH} {eV vV sV tV u:Value} {sp:List SP} {tp:List TP} {ts:List Nat} (h:ChM w c eV vV sV tV sp tp) (hV:Valid c) (hU:Tr.RdZ w u (Tr.toI ts)) (ht:∀ k ∈ ts,k < c.ss.length) (hl:(ts.flatMap (bgC c)).length<=100000) (htl:ts.length<=1000) :
 Calls Tryz.prog 32 #[chA c eV vV sV tV,u] w fun e w'=>(∃ v,e=.returned v/\w'.ownsRow w.heap.size 3 1 v (ts.flatMap (bgC c)).length (Tr.kvN (ts.flatMap (bgC c))))/\Below w.heap.size w w':=by
 obtain ⟨M,hM,_⟩:=bstr_some c.nm;obtain ⟨⟨A1,k1,e1⟩,⟨A2,k2,e2⟩,⟨A3,k3,e3⟩,⟨A4,k4,e4⟩⟩:=h.forms;have hwk:=walk_any h hV hM e1 e2 e3 e4;subst e1;subst e2;subst e3;subst e4;obtain ⟨A5,k5,rfl⟩:=hU.form;unfold chA;rw [hM];generalize c.es.length=n1 at *;generalize c.vs.length=n2 at *;generalize sp.length=n3 at *;generalize tp.length=n4 at *
 obtain ⟨W2,hW2⟩:∃ W,W=((w.alloc (.cells #[.string M,.slice A1 n1 k1,.slice A2 n2 k2,.slice A3 n3 k3,.slice A4 n4 k4] 27)).alloc (.cells #[.slice none 0 0] 29)).alloc (.cells #[.nilFunc] 81):=⟨_,rfl⟩
 obtain ⟨hfn,hd0⟩:=dn_start w _ hW2;obtain ⟨W0,hW0⟩:∃ W,W=W2.setCell ⟨w.heap.size+1+1,0,none⟩ (.func (.func 50) #[] #[.pointer (some ⟨w.heap.size+1,0,none⟩),.pointer (some ⟨w.heap.size,0,none⟩),.pointer (some ⟨w.heap.size+1+1,0,none⟩)]):=⟨_,rfl⟩
 have hd0':DnI w #[.string M,.slice A1 n1 k1,.slice A2 n2 k2,.slice A3 n3 k3,.slice A4 n4 k4] W0 [] (.slice none 0 0):=by rw [hW0];exact hd0
 have HD0:=Lib.hid hd0';have q1:=hfn.cell;have q2:=hfn.frozen;obtain ⟨FL,hFL⟩:∃ x,ts.flatMap (bgC c)=x:=⟨_,rfl⟩
 rw [hFL];have HFL:=Lib.hid hFL;have HW2:=Lib.hid hW2;have HW0:=Lib.hid hW0;have HWK:=Lib.hid hwk;have HU:=Lib.hid hU;have HT:=Lib.hid ht;have HTL:=Lib.hid (Tr.toI_len ts);clear h hV hM hW0 hwk hU ht hW2 hfn hd0 hd0' hFL;rw [HTL.out];obtain ⟨n,hn⟩:∃ n,ts.length=n:=⟨_,rfl⟩
 rw [hn] at htl ⊢;have HN:=Lib.hid hn;clear hn
 go_enter Tryz.func32,Tryz.ntmps32
 go_upto_region 3 with fail
 rw [<- HW2.out]
 go_upto_region 4 with fail
 rw [<- HW0.out];go_wp2
 go_loopw [8,12] (fun _ x12 wr=>∃ (k:Nat) (vr:Value),k<=n/\x12=.int .i64 k/\DnI w #[.string M,.slice A1 n1 k1,.slice A2 n2 k2,.slice A3 n3 k3,.slice A4 n4 k4] wr ((ts.take k).flatMap (bgC c)) vr) (fun _ x _=>n - (intOf x).toNat)
 case atStart=>exact ⟨0,_,by omega,rfl,HD0.out⟩
 case round =>
  obtain ⟨k,vr,hk,rfl,hDr⟩:=hrel;obtain ⟨wl,hwl⟩:∃ W,W=wr:=⟨_,rfl⟩
  subst hwl;have HDR:=Lib.hid hDr;by_cases hkk:k < n
  ·have hkl2:k < ts.length:=by rw [HN.out];exact hkk
   obtain ⟨b',o',rfl,_,hck⟩:=(HU.out.below hDr.below).at_ (k:=k) (by rw [HTL.out];exact hkl2);have hx:(Tr.toI ts)[k]'(by rw [HTL.out];exact hkl2)=((ts[k]:Nat):Int):=by unfold Tr.toI;rw [List.getElem_map]
   rw [hx] at hck;have hff:wl.cell? ⟨w.heap.size+1+1,0,none⟩=some (.func (.func 50) #[] #[.pointer (some ⟨w.heap.size+1,0,none⟩),.pointer (some ⟨w.heap.size,0,none⟩),.pointer (some ⟨w.heap.size+2,0,none⟩)]):=hDr.fn.cell;have hfl:=flat_le (f:=bgC c) ts hkl2;have hfs:=flat_succ (f:=bgC c) ts hkl2;have HX:=Lib.hid (HT.out ts[k] (List.getElem_mem hkl2));have HL2:Hid (((ts.take k).flatMap (bgC c)).length+(bgC c ts[k]).length<=100000):=by show _<=_;omega
   have HFS:=Lib.hid hfs;clear hDr hfl hfs hx;generalize ts[k]=x at *
   go_wp2_with fail
   refine (HWK.out (c.ss.length) x wl _ vr (by omega) HX.out HL2.out HDR.out).mono ?_;rintro e w6 ⟨rfl,v6,hD6,_⟩;have HD6:=Lib.hid hD6;clear hD6;go_wp2
   go_roundw
   case rel=>exact ⟨k+1,v6,by omega,by go_num,by rw [HFS.out];exact HD6.out⟩
   case measure=>simp [intOf] <;> omega
  ·obtain rfl:k=n:=by omega
   have hall:ts.take k=ts:=by rw [<- HN.out];exact List.take_length
   have hDD:=HDR.out;rw [hall,HFL.out] at hDD;obtain ⟨A6,c6,rfl⟩:=own_slice hDD.row;have hlc:=hDD.lst.cell;have HDD:=Lib.hid hDD;clear hDD hDr;go_wp2;go_ret;exact ⟨⟨_,rfl,Tr.own_lower HDD.out.row (show w.heap.size<=w.heap.size+3 by omega)⟩,HDD.out.below⟩
def topC (c:CH):List Nat:=Tr.topL (dC c.ss) c.ss.length
def startC (c:CH):List Nat:=Tr.startL (dC c.ss) (kC c.ss) (iniF c) c.ss.length
theorem rising_len:∀ {l:List Nat} {a n:Nat},l.Pairwise (· < ·)->(∀ x ∈ l,a<=x/\x < n)->l.length<=n - a
 | [],_,_,_,_=>Nat.zero_le _
 | b :: r,a,n,h,hx=>by
  rw [List.pairwise_cons] at h;have:=rising_len (a:=b+1) (n:=n) h.2 (fun x hr=>⟨h.1 x hr,(hx x (List.mem_cons_of_mem _ hr)).2⟩);have:=hx b (List.mem_cons_self ..);rw [List.length_cons];omega
theorem start_len {c:CH} (hV:Valid c):(startC c).length<=c.ss.length:=by
 have:=rising_len (a:=0) (n:=c.ss.length) (Tr.Nst.startL_rising (kd:=kC c.ss) (ini:=iniF c) hV.tree.nst) (fun x hx=>⟨Nat.zero_le _,(Tr.mem_startL.1 hx).1⟩);exact this
noncomputable def startO (c:CH):List Nat:=if checkE c=0 then startC c else []
theorem top_succ (d:Nat->Int) (k:Nat):Tr.topL d (k+1)=Tr.topL d k++(if d k=0 then [k] else []):=by
 unfold Tr.topL;rw [List.range_succ,List.filter_append];by_cases h:d k=0
 ·simp [h]
 ·simp [h]
theorem top_len (d:Nat->Int) (k:Nat):(Tr.topL d k).length<=k:=by
 have:=List.length_filter_le (fun i=>decide (d i=0)) (List.range k);rw [List.length_range] at this;exact this
set_option maxRecDepth 100000 in
set_option maxHeartbeats 4000000 in
theorem start_any {w:World} {c:CH} {eV vV sV tV:Value} {sp:List SP} {tp:List TP} (h:ChM w c eV vV sV tV sp tp) (hec:∀ A n k,eV=.slice A n k->n<=k) (hsb:Sb c) :
 Calls Tryz.prog 10 #[chA c eV vV sV tV] w fun e w'=>(∃ v,e=.returned v/\w'.ownsRow w.heap.size 3 1 v (startO c).length (Tr.kvN (startO c)))/\Below w.heap.size w w':=by
 obtain ⟨i0,hi0,hz0,hz1,hz2⟩:=info_parts Tr.Tryz.infoInt;have HII:=Lib.hid hi0;have HZ0:=Lib.hid hz0;have HZ1:=Lib.hid hz1;have HZ2:=Lib.hid hz2;clear hi0 hz0 hz1 hz2;obtain ⟨M,A1,A2,A3,A4,k1,k2,k3,k4,wb,hM,rfl,rfl,rfl,rfl,hwb,hb1,hbz,d0,d1,d2,d3,d4⟩:=box_ch h;have HC:=Lib.hid (isValid_any (h.below hb1) hec hsb);have hD:=fun W (hW:Below wb.heap.size wb W)=>(⟨(hW.cell (cell_lt d0)).trans d0,(hW.cell (cell_lt d1)).trans d1,(hW.cell (cell_lt d2)).trans d2,(hW.cell (cell_lt d3)).trans d3,(hW.cell (cell_lt d4)).trans d4⟩:W.cell? ⟨w.heap.size,0,none⟩=some (.string M)/\W.cell? ⟨w.heap.size,1,none⟩=some (.slice A1 c.es.length k1)/\W.cell? ⟨w.heap.size,2,none⟩=some (.slice A2 c.vs.length k2)/\W.cell? ⟨w.heap.size,3,none⟩=some (.slice A3 sp.length k3)/\W.cell? ⟨w.heap.size,4,none⟩=some (.slice A4 tp.length k4))
 have HDO:=Lib.hid (fun (hV:Valid c) W (hW:Below w.heap.size w W) u (ts:List Nat) (hU:Tr.RdZ W u (Tr.toI ts)) ht hl htl=>down_any (h.below hW) hV (u:=u) (ts:=ts) hU ht hl htl);have hss:=h.sLen;unfold chA at *
 rw [hM] at *
 by_cases h0:checkE c=0
 ·have hV:=check_zero.1 h0;have hT:treeP c:=hV.tree;have hn40:=hT.le;have hpos:=hT.pos;have hso:startO c=startC c:=if_pos h0;rw [hso];rw [decide_eq_true h0] at HC;obtain ⟨b,o,X,Y,a4,a5,m4,q4,m5,q5,rfl,hbw,hXY,hcs⟩:=ch_states h hpos;have HCS:=Lib.hid hcs;have HV:=Lib.hid hV;have HW:=Lib.hid hwb;have HB:=Lib.hid hb1;have HD:=Lib.hid hD;have HSL:=Lib.hid (start_len hV);obtain ⟨n,hn⟩:∃ n,c.ss.length=n:=⟨_,rfl⟩
  rw [hn] at hss hn40 hpos HCS HSL;simp only [hss] at HC HW HD HDO ⊢;have HN:=Lib.hid hn;clear h hec hsb hM h0 hwb hb1 hD hso hcs hXY hV hT hn d0 d1 d2 d3 d4 hss hbw hbz;generalize c.es.length=n1 at *;generalize c.vs.length=n2 at *;generalize tp.length=n4 at *
  go_enter Tryz.func10,Tryz.ntmps10
  go_upto_region 1 with fail
  rw [<- HW.out];obtain ⟨c0,c1,c2,c3,c4⟩:=HD.out wb (Below.refl _ _)
  go_wp2_with fail
  refine HC.out.mono ?_;rintro e w2 ⟨rfl,hb2⟩;have HB2:=Lib.hid hb2;clear hb2 c0 c1 c2 c3 c4;obtain ⟨c0,c1,c2,c3,c4⟩:=HD.out w2 HB2.out;go_wp2
  go_loopw [3,4,5,12] (fun x3 _ _ x12 wr=>∃ k:Nat,k<=n/\x12=.int .i64 k/\wr.ownsRow wb.heap.size 3 1 x3 (Tr.topL (dC c.ss) k).length (Tr.kvN (Tr.topL (dC c.ss) k))/\Below wb.heap.size wb wr) (fun _ _ _ x _=>n - (intOf x).toNat)
  case atStart=>exact ⟨0,by omega,rfl,World.ownsRow_nil _ _ _ _,HB2.out⟩
  case round =>
   obtain ⟨k,hk,rfl,hown,hbw⟩:=hrel;obtain ⟨wl,hwl⟩:∃ W,W=wr:=⟨_,rfl⟩
   subst hwl;obtain ⟨A5,c5,rfl⟩:=own_slice hown;have HBW:=Lib.hid hbw;have hb0:Below w.heap.size w wl:=HB.out.trans (hbw.mono HB.out.size);have HB0:=Lib.hid hb0;have hsz:=hb0.size;have hszb:=hbw.size;have htl:=top_len (dC c.ss) k;by_cases hkn:k < n
   ·obtain ⟨r0,r1,r2,r3,r4,r5⟩:=HCS.out wl hb0 k hkn;have hts:=top_succ (dC c.ss) k;obtain ⟨W4,hW4⟩:∃ X',X'=wl.alloc (.cells #[.string (X k),.int .i64 (kC c.ss k),.int .i64 (dC c.ss k),.string (Y k),.slice (a4 k) (m4 k) (q4 k),.slice (a5 k) (m5 k) (q5 k)] 50):=⟨_,rfl⟩
    have hb4:Below wl.heap.size wl W4:=hW4 ▸ (Below.refl _ _).alloc (Nat.le_refl _) _;have s2:W4.cell? ⟨wl.heap.size,2,none⟩=some (.int .i64 (dC c.ss k)):=by rw [hW4];simp
    have HO4:=Lib.hid (own_below hown hb4);have HB4:=Lib.hid (hbw.trans (hb4.mono hbw.size));have hsz4:=hb4.size;have HW4:=Lib.hid hW4;clear hown hbw hb0 hW4 hb4;by_cases hd:dC c.ss k=0
    ·rw [if_pos hd] at hts;rw [hd] at s2 r2 HW4;have HTS:=Lib.hid hts;clear hts hd
     go_upto_region 7 with fail
     rw [<- HW4.out]
     go_wp2_with (at_builtin;refine wpList_append_own _ rfl _ _ 29 rfl wb.heap.size 3 i0 _ 1 8 Tryz.underlying29 HII.out HZ0.out HZ1.out HZ2.out rfl (by decide) _ (Tr.topL (dC c.ss) k).length (Tr.kvN (Tr.topL (dC c.ss) k)) rfl (HO4.out.alloc _) ⟨W4.heap.size,0,none⟩ 1 1 [.int .i64 k] rfl rfl (Tr.one_int W4 _) (by intro u hu;simp at hu;subst hu;rfl) (by unfold maxLen;omega) (by omega) (by simp;omega) ?_)
     intro v' w5 hown' hgrow _;have HO5:Hid (w5.ownsRow wb.heap.size 3 1 v' (Tr.topL (dC c.ss) (k+1)).length (Tr.kvN (Tr.topL (dC c.ss) (k+1)))):=by
      show World.ownsRow _ _ _ _ _ _ _;rw [HTS.out,List.length_append]
      simpa [Tr.kvN] using hown'
     have HB5:Hid (Below wb.heap.size wb w5):=by
      have hz:(W4.alloc (.cells #[.int .i64 (k:Int)] 3)).heap.size=W4.heap.size+1:=by simp
      have hx:=HB4.out.size;exact (HB4.out.alloc hx (.cells #[.int .i64 (k:Int)] 3)).grown hgrow (by omega) (fun j hj=>(HO4.out.lt j hj).1)
     clear hown' hgrow;go_wp2
     go_roundw
     case rel=>exact ⟨k+1,by omega,by go_num,HO5.out,HB5.out⟩
     case measure=>simp [intOf] <;> omega
    ·rw [if_neg hd,List.append_nil] at hts;have hne:(dC c.ss k==0)=false:=int_ne hd;have HTS:=Lib.hid hts;clear hts hd
     go_upto_region 7 with fail
     rw [<- HW4.out];go_wp2
     go_roundw
     case rel=>exact ⟨k+1,by omega,by go_num,by rw [HTS.out];exact HO4.out,HB4.out⟩
     case measure=>simp [intOf] <;> omega
   ·obtain rfl:k=n:=by omega
    obtain ⟨c0,c1,c2,c3,c4⟩:=HD.out wl hbw;have htc:Tr.topL (dC c.ss) k=topC c:=by unfold topC;rw [HN.out]
    rw [htc] at hown htl ⊢;have hrz:=Tr.rdZ_own hown;have hfl:(topC c).flatMap (bgC c)=startC c:=rfl;have HCA:=Lib.hid (HDO.out HV.out wl hb0 _ (topC c) hrz (fun x hx=>(Tr.mem_topL.1 hx).1) (by rw [hfl];have:=HSL.out;omega) (by omega));rw [hfl] at HCA;clear hown hbw hb0 hrz hfl htc
    go_wp2_with fail
    refine HCA.out.mono ?_;rintro e w6 ⟨⟨v,rfl,hv⟩,hb6⟩;obtain ⟨A6,c6,rfl⟩:=own_slice hv;have HV6:=Lib.hid (Tr.own_lower hv hsz);have HB6:=Lib.hid (HB0.out.trans (hb6.mono HB0.out.size));clear hv hb6;go_wp2;go_ret;exact ⟨⟨_,rfl,HV6.out⟩,HB6.out⟩
 ·have hso:startO c=[]:=if_neg h0;rw [hso];rw [decide_eq_false h0] at HC;have HW:=Lib.hid hwb;have HB:=Lib.hid hb1;clear h hec hsb hM hwb hb1 hD h0 hss;generalize c.es.length=n1 at *;generalize c.vs.length=n2 at *;generalize sp.length=n3 at *;generalize tp.length=n4 at *
  go_enter Tryz.func10,Tryz.ntmps10
  go_upto_region 1 with fail
  rw [<- HW.out]
  go_wp2_with fail
  refine HC.out.mono ?_;rintro e w2 ⟨rfl,hb2⟩;have HB2:=Lib.hid (HB.out.trans (hb2.mono HB.out.size));clear hb2;go_wp2;go_ret;exact ⟨⟨_,rfl,World.ownsRow_nil _ _ _ _⟩,HB2.out⟩
end Go.Proofs.YtcnfcililiehlaaGreatDoor.Ch.Vd
