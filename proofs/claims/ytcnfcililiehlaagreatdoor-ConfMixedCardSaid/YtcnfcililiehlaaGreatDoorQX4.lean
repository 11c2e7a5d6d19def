import Derived.Test.YtcnfcililiehlaaGreatDoorR1
import Derived.Test.YtcnfcililiehlaaGreatDoorR2
import Derived.Test.YtcnfcililiehlaaGreatDoorR3
import Derived.Test.YtcnfcililiehlaaGreatDoorR4
import Derived.Test.YtcnfcililiehlaaGreatDoorR5
import Derived.Test.YtcnfcililiehlaaGreatDoorR6
import Derived.Test.YtcnfcililiehlaaGreatDoorR7
import Derived.Test.YtcnfcililiehlaaGreatDoorR8
import Derived.Test.YtcnfcililiehlaaGreatDoorR9
import Derived.Test.YtcnfcililiehlaaGreatDoorR10
import Derived.Test.YtcnfcililiehlaaGreatDoorR11
import Derived.Test.YtcnfcililiehlaaGreatDoorR12
import Derived.Test.YtcnfcililiehlaaGreatDoorR13
import Derived.Test.YtcnfcililiehlaaGreatDoorR14
import Derived.Test.YtcnfcililiehlaaGreatDoorR15
import Derived.Test.YtcnfcililiehlaaGreatDoorR16
import Derived.Test.YtcnfcililiehlaaGreatDoorR17
import Derived.Test.YtcnfcililiehlaaGreatDoorR18
import Derived.Test.YtcnfcililiehlaaGreatDoorR19
import Derived.Test.YtcnfcililiehlaaGreatDoorR20
import Derived.Test.YtcnfcililiehlaaGreatDoorR21
import Derived.Test.YtcnfcililiehlaaGreatDoorR22
import Derived.Test.YtcnfcililiehlaaGreatDoorR23
import Derived.Test.YtcnfcililiehlaaGreatDoorR24
import Derived.Test.YtcnfcililiehlaaGreatDoorR25
import Derived.Test.YtcnfcililiehlaaGreatDoorR26
import Derived.Test.YtcnfcililiehlaaGreatDoorR27
import Derived.Test.YtcnfcililiehlaaGreatDoorR28
import Derived.Test.YtcnfcililiehlaaGreatDoorR29
import Derived.Test.YtcnfcililiehlaaGreatDoorR30
import Derived.Test.YtcnfcililiehlaaGreatDoorR31
import Derived.Test.YtcnfcililiehlaaGreatDoorR32
import Derived.Test.YtcnfcililiehlaaGreatDoorR33
import Derived.Test.YtcnfcililiehlaaGreatDoorR34
import Derived.Test.YtcnfcililiehlaaGreatDoorR35
import Derived.Test.YtcnfcililiehlaaGreatDoorR36
import Derived.Test.YtcnfcililiehlaaGreatDoorQX1
import Derived.Test.YtcnfcililiehlaaGreatDoorQX2
import Derived.Test.YtcnfcililiehlaaGreatDoorQX3
namespace Go.Proofs.YtcnfcililiehlaaGreatDoor.Tr
open Go.RowKit
set_option maxHeartbeats 2000000 in
theorem sameZ_any (va vb:Value) (l m:List Int) (w:World) (ha:RdZ w va l) (hb:RdZ w vb m) (hl:l.length<=4611686018427387904) :
 Calls Tryz.prog 12 #[va,vb] w fun e w'=>e=.returned (.bool (decide (l=m)))/\∃ q,w'=w.drewN q:=by
 obtain ⟨A,c,rfl⟩:=Inn.form ha;obtain ⟨B,d,rfl⟩:=Inn.form hb;have HA:=Lib.hid ha;have HB:=Lib.hid hb;by_cases hlen:l.length=m.length;rotate_left
 ·have hf:decide (l=m)=false:=decide_eq_false fun e=>hlen (by rw [e])
  rw [hf];have hne:((l.length:Int)==(m.length:Int))=false:=int_ne (by omega);clear hf ha hb
  go_enter Tryz.func12,Tryz.ntmps12
  go_wp2;go_ret;exact ⟨rfl,0,rfl⟩
 obtain ⟨n,hn⟩:∃ n,l.length=n:=⟨_,rfl⟩
 have hn2:m.length=n:=by omega
 have HN1:=Lib.hid hn;have HN2:=Lib.hid hn2;rw [hn] at hl HA ⊢;rw [hn2] at HB ⊢;clear ha hb hlen hn hn2
 go_enter Tryz.func12,Tryz.ntmps12
 go_wp2
 go_loopw [5] (fun x5 wr=>∃ k q:Nat,k<=n/\wr=w.drewN q/\x5=.int .i64 k/\Hid (l.take k=m.take k)) (fun x _=>n - (intOf x).toNat)
 case atStart=>exact ⟨0,0,by omega,rfl,rfl,rfl⟩
 case round =>
  obtain ⟨k,q,hk,rfl,rfl,HT⟩:=hrel;by_cases hkn:k < n
  ·have hkl:k < l.length:=by rw [HN1.out];exact hkn
   have hkm:k < m.length:=by rw [HN2.out];exact hkn
   obtain ⟨b1,o1,rfl,_,ca⟩:=HA.out.at_ hkl;obtain ⟨b2,o2,rfl,_,cb⟩:=HB.out.at_ hkm;have hs1:=List.take_succ_eq_append_getElem hkl;have hs2:=List.take_succ_eq_append_getElem hkm;by_cases he:l[k]=m[k]
   ·have HT2:Hid (l.take (k+1)=m.take (k+1)):=Lib.hid (by rw [hs1,hs2,HT.out,he]);rw [he] at ca;clear HT hs1 hs2 he;generalize m[k]=y at *
    go_wp2
    go_quiet (fail)
    go_wp2
    go_roundw
    case rel=>exact ⟨k+1,q+nq,by omega,rfl,by go_num,HT2.out⟩
    case measure=>simp [intOf] <;> omega
   ·have hf:decide (l=m)=false:=decide_eq_false fun e=>he (by subst e;rfl)
    have HF:=Lib.hid hf;have hne:(l[k]==m[k])=false:=int_ne he;clear HT hs1 hs2 hf he;generalize l[k]=y1 at *
    generalize m[k]=y2 at *
    go_wp2
    go_quiet (fail)
    go_wp2;go_ret;exact ⟨ret_bool HF.out.symm,q+nq,World.drewN_drewN _ _ _⟩
  ·obtain rfl:k=n:=by omega
   have hf:decide (l=m)=true:=decide_eq_true (by
    have h:=HT.out;rw [List.take_of_length_le (by rw [HN1.out];exact Nat.le_refl _),List.take_of_length_le (by rw [HN2.out];exact Nat.le_refl _)] at h;exact h)
   have HF:=Lib.hid hf;clear hf HT;go_wp2;go_ret;exact ⟨ret_bool HF.out.symm,q,rfl⟩
end Go.Proofs.YtcnfcililiehlaaGreatDoor.Tr
namespace Go.Proofs.YtcnfcililiehlaaGreatDoor.Ch.Vd
open Go.RowKit
theorem refRight10_any {w:World} {c:CH} {eV vV sV tV:Value} {sp:List SP} {tp:List TP} (h:ChM w c eV vV sV tV sp tp) (hsb:Sb c) (hgn:∀ t ∈ c.ts,Names t.gd) :
 Calls Tryz.prog 11 #[chA c eV vV sV tV] w fun e w'=>e=.returned (.bool (decide (checkE c=0)))/\Below w.heap.size w w':=by
 obtain ⟨M,A1,A2,A3,A4,k1,k2,k3,k4,wb,hM,rfl,rfl,rfl,rfl,hwb,hb1,_,d0,d1,d2,d3,d4⟩:=box_ch h;have HC:=Lib.hid (refCheck_any (h.below hb1) hsb hgn);obtain ⟨RT,hRT⟩:∃ x,checkE c=x:=⟨_,rfl⟩
 rw [hRT] at HC ⊢;unfold chA at HC ⊢;rw [hM] at HC ⊢;have HW:=Lib.hid hwb;have HB:=Lib.hid hb1;clear h hgn hsb hM hRT hwb hb1
 go_enter Tryz.func11,Tryz.ntmps11
 go_upto_region 1 with fail
 rw [<- HW.out]
 go_wp2_with fail
 refine HC.out.mono ?_;rintro e w2 ⟨rfl,hb2⟩;have HB2:=Lib.hid (HB.out.trans (hb2.mono HB.out.size));clear hb2;go_wp2;go_ret;exact ⟨ret_bool (by by_cases e:RT=0 <;> simp [e]),HB2.out⟩
theorem cells_later {w:World} {D:Nat} {x0 x1 x2 x3 x4:Value} (d0:w.cell? ⟨D,0,none⟩=some x0) (d1:w.cell? ⟨D,1,none⟩=some x1) (d2:w.cell? ⟨D,2,none⟩=some x2) (d3:w.cell? ⟨D,3,none⟩=some x3) (d4:w.cell? ⟨D,4,none⟩=some x4) (W:World) (hW:Below w.heap.size w W) :
 W.cell? ⟨D,0,none⟩=some x0/\W.cell? ⟨D,1,none⟩=some x1/\W.cell? ⟨D,2,none⟩=some x2/\W.cell? ⟨D,3,none⟩=some x3/\W.cell? ⟨D,4,none⟩=some x4 :=
 ⟨(hW.cell (cell_lt d0)).trans d0,(hW.cell (cell_lt d1)).trans d1,(hW.cell (cell_lt d2)).trans d2,(hW.cell (cell_lt d3)).trans d3,(hW.cell (cell_lt d4)).trans d4⟩
end Go.Proofs.YtcnfcililiehlaaGreatDoor.Ch.Vd
namespace Go.Proofs.YtcnfcililiehlaaGreatDoor.Ch.Vd
open Go.RowKit
noncomputable def leavesO (c:CH) (l:List Int):List Nat:=if legalC c l=true then (l.map Int.toNat).filter (fun k=>Tr.leafB (kC c.ss k)) else []
theorem toI_nat (s:List Nat):(Tr.toI s).map Int.toNat=s:=by
 unfold Tr.toI;rw [List.map_map]
 conv=>rhs;rw [<- List.map_id s]
 exact List.map_congr_left fun x _=>rfl
def lvK (c:CH) (s:List Nat) (k:Nat):List Nat:=(s.take k).filter (fun k=>Tr.leafB (kC c.ss k))
theorem lvK_succ (c:CH) (s:List Nat) {k:Nat} (hk:k < s.length):lvK c s (k+1)=lvK c s k++(if Tr.leafB (kC c.ss s[k])=true then [s[k]] else []):=by
 unfold lvK;rw [List.take_succ_eq_append_getElem hk,List.filter_append];by_cases h:Tr.leafB (kC c.ss s[k])=true
 ·simp [h]
 ·simp [h]
theorem lvK_len (c:CH) (s:List Nat) (k:Nat):(lvK c s k).length<=s.length:=by
 refine Nat.le_trans (List.length_filter_le _ _) ?_;rw [List.length_take];omega
theorem legal_nat {c:CH} {l:List Int} (h:legalC c l=true):checkE c=0/\∃ s:List Nat,l=Tr.toI s/\(∀ x ∈ s,x < c.ss.length)/\s.length<=c.ss.length:=by
 unfold legalC at h;rw [Bool.and_eq_true,decide_eq_true_eq] at h;refine ⟨h.1,?_⟩;have hT:treeP c:=(check_zero.1 h.1).tree;obtain ⟨s,rfl⟩:=Tr.row_nat (Tr.legal_rows h.2).1;have hL:=(Tr.legal_iff hT.nst).1 h.2;have hx:∀ x ∈ s,x < c.ss.length:=fun x hx=>(hL.2.lt x (by simpa using hx)).1
 refine ⟨s,rfl,hx,?_⟩;have:=rising_len (a:=0) (n:=c.ss.length) hL.1 (fun x hm=>⟨Nat.zero_le _,hx x hm⟩);exact this
set_option maxRecDepth 100000 in
set_option maxHeartbeats 8000000 in
theorem leaves_any {w:World} {c:CH} {eV vV sV tV u:Value} {sp:List SP} {tp:List TP} {l:List Int} (h:ChM w c eV vV sV tV sp tp) (hec:∀ A n k,eV=.slice A n k->n<=k) (hsb:Sb c) (hU:Tr.RdZ w u l) (hl:l.length<=4611686018427387904) :
 Calls Tryz.prog 20 #[chA c eV vV sV tV,u] w fun e w'=>(∃ v,e=.returned v/\w'.ownsRow w.heap.size 3 1 v (leavesO c l).length (Tr.kvN (leavesO c l)))/\Below w.heap.size w w':=by
 obtain ⟨i0,hi0,hz0,hz1,hz2⟩:=info_parts Tr.Tryz.infoInt;have HII:=Lib.hid hi0;have HZ0:=Lib.hid hz0;have HZ1:=Lib.hid hz1;have HZ2:=Lib.hid hz2;clear hi0 hz0 hz1 hz2;obtain ⟨M,A1,A2,A3,A4,k1,k2,k3,k4,wb,hM,rfl,rfl,rfl,rfl,hwb,hb1,hbz,d0,d1,d2,d3,d4⟩:=box_ch h;have HC:=Lib.hid (legal_any (h.below hb1) hec hsb (hU.below hb1) hl);obtain ⟨A5,k5,rfl⟩:=hU.form;have HD:=Lib.hid (cells_later d0 d1 d2 d3 d4);have HW:=Lib.hid hwb;have HB:=Lib.hid hb1;have hss:=h.sLen;have hst:=fun h0=>ch_states h h0
 obtain ⟨L,hL⟩:∃ x,leavesO c l=x:=⟨_,rfl⟩
 rw [hL];have HL:=Lib.hid hL;unfold chA at HC ⊢;rw [hM] at HC ⊢;have HU:=Lib.hid hU;simp only [hss] at HC HW HD hst ⊢;clear h hec hsb hM hwb hb1 hbz hU hL hss d0 d1 d2 d3 d4;obtain ⟨d0,d1,d2,d3,d4⟩:=HD.out wb (Below.refl _ _);cases hlc:legalC c l with
 | false =>
  rw [hlc] at HC;have HX:Hid (L=[]):=by
   show L=[];rw [<- HL.out];exact if_neg (by rw [hlc];simp)
  clear hlc hst;generalize c.es.length=n1 at *;generalize c.vs.length=n2 at *;generalize tp.length=n4 at *;generalize c.ss.length=n3 at *;generalize l.length=n5 at *
  go_enter Tryz.func20,Tryz.ntmps20
  go_upto_region 1 with fail
  rw [<- HW.out]
  go_wp2_with fail
  refine HC.out.mono ?_;rintro e w2 ⟨rfl,hb2⟩;have HB2:=Lib.hid (HB.out.trans (hb2.mono HB.out.size));clear hb2;go_wp2;go_ret;rw [HX.out];exact ⟨⟨_,rfl,World.ownsRow_nil _ _ _ _⟩,HB2.out⟩
 | true =>
  rw [hlc] at HC;obtain ⟨h0,s,rfl,hsx,hsl⟩:=legal_nat hlc;have hn40:=(check_zero.1 h0).tree.le;have hpos:=(check_zero.1 h0).tree.pos;obtain ⟨b,o,X,Y,a4,a5,m4,q4,m5,q5,rfl,hbw,hXY,hcs⟩:=hst hpos;have HX:Hid (L=lvK c s s.length):=by
   show L=_;rw [<- HL.out];unfold leavesO lvK;rw [if_pos hlc,toI_nat,List.take_length]
  have HTL:=Lib.hid (Tr.toI_len s);rw [HTL.out] at HC HU hl ⊢;have HCS:=Lib.hid hcs;have HSX:=Lib.hid hsx;obtain ⟨m,hm⟩:∃ m,s.length=m:=⟨_,rfl⟩
  rw [hm] at hsl HC HU hl HTL HX ⊢;have HMM:=Lib.hid hm;clear hlc hst hcs hXY hbw hsx h0 HL hm;generalize c.es.length=n1 at *;generalize c.vs.length=n2 at *;generalize tp.length=n4 at *
  obtain ⟨n,hn⟩:∃ n,c.ss.length=n:=⟨_,rfl⟩
  simp only [hn] at HC HW HD HCS HSX hsl hn40 hpos d3 ⊢;clear hn
  go_enter Tryz.func20,Tryz.ntmps20
  go_upto_region 1 with fail
  rw [<- HW.out]
  go_wp2_with fail
  refine HC.out.mono ?_;rintro e w2 ⟨rfl,hb2⟩;have HB2:=Lib.hid hb2;clear hb2 d0 d1 d2 d3 d4;go_wp2
  go_loopw [5,7,14] (fun x5 _ x14 wr=>∃ k:Nat,k<=m/\x14=.int .i64 k/\wr.ownsRow wb.heap.size 3 1 x5 (lvK c s k).length (Tr.kvN (lvK c s k))/\Below wb.heap.size wb wr) (fun _ _ x _=>m - (intOf x).toNat)
  case atStart=>exact ⟨0,by omega,rfl,World.ownsRow_nil _ _ _ _,HB2.out⟩
  case round =>
   obtain ⟨k,hk,rfl,hown,hbw⟩:=hrel;obtain ⟨wl,hwl⟩:∃ W,W=wr:=⟨_,rfl⟩
   subst hwl;obtain ⟨A6,c6,rfl⟩:=own_slice hown;have HBW:=Lib.hid hbw;have HO:=Lib.hid hown;have hb0:Below w.heap.size w wl:=HB.out.trans (hbw.mono HB.out.size);have HB0:=Lib.hid hb0;have hsz:=hb0.size;have hszb:=hbw.size;have hkl:=lvK_len c s k;rw [HMM.out] at hkl;obtain ⟨f0,f1,f2,f3,f4⟩:=HD.out wl hbw;by_cases hkn:k < m
   ·have hkm:k < s.length:=by rw [HMM.out];exact hkn
    obtain ⟨b',o',rfl,_,hc⟩:=(HU.out.below hb0).at_ (k:=k) (by rw [Tr.toI_len];exact hkm);have hx:(Tr.toI s)[k]'(by rw [Tr.toI_len];exact hkm)=((s[k]:Nat):Int):=by unfold Tr.toI;rw [List.getElem_map]
    rw [hx] at hc;have hyn:=HSX.out s[k] (List.getElem_mem hkm);have hst:=lvK_succ c s hkm;clear hx hown hbw;generalize s[k]=y at *
    obtain ⟨r0,r1,r2,r3,r4,r5⟩:=HCS.out wl hb0 y hyn;have HLF:=Lib.hid (Tr.isLeaf_any (kC c.ss y) wl);clear hb0 r0 r2 r3 r4 r5
    go_wp2_with fail
    refine HLF.out.mono ?_;rintro e w3 ⟨rfl,rfl⟩;cases hlf:Tr.leafB (kC c.ss y) with
    | true =>
     rw [if_pos hlf] at hst;have HST:=Lib.hid hst;clear hst hlf
     go_wp2_with (at_builtin;refine wpList_append_own _ rfl _ _ 29 rfl wb.heap.size 3 i0 _ 1 8 Tryz.underlying29 HII.out HZ0.out HZ1.out HZ2.out rfl (by decide) _ (lvK c s k).length (Tr.kvN (lvK c s k)) rfl (HO.out.alloc _) ⟨wl.heap.size,0,none⟩ 1 1 [.int .i64 y] rfl rfl (Tr.one_int wl _) (by intro u hu;simp at hu;subst hu;rfl) (by unfold maxLen;omega) (by omega) (by simp;omega) ?_)
     intro v' w5 hown' hgrow _;have HO5:Hid (w5.ownsRow wb.heap.size 3 1 v' (lvK c s (k+1)).length (Tr.kvN (lvK c s (k+1)))):=by
      show World.ownsRow _ _ _ _ _ _ _;rw [HST.out,List.length_append]
      simpa [Tr.kvN] using hown'
     have HB5:Hid (Below wb.heap.size wb w5):=by
      have hz:(wl.alloc (.cells #[.int .i64 (y:Int)] 3)).heap.size=wl.heap.size+1:=by simp
      have hx:=HBW.out.size;exact (HBW.out.alloc hx (.cells #[.int .i64 (y:Int)] 3)).grown hgrow (by omega) (fun j hj=>(HO.out.lt j hj).1)
     clear hown' hgrow;go_wp2
     go_roundw
     case rel=>exact ⟨k+1,by omega,by go_num,HO5.out,HB5.out⟩
     case measure=>simp [intOf] <;> omega
    | false =>
     rw [if_neg (by rw [hlf];simp),List.append_nil] at hst;have HST:=Lib.hid hst;clear hst hlf;go_wp2
     go_roundw
     case rel=>exact ⟨k+1,by omega,by go_num,by rw [HST.out];exact HO.out,HBW.out⟩
     case measure=>simp [intOf] <;> omega
   ·obtain rfl:k=m:=by omega
    clear hown hbw hb0;go_wp2;go_ret;exact ⟨⟨_,rfl,by rw [show L=lvK c s k from HX.out];exact Tr.own_lower HO.out HB.out.size⟩,HB0.out⟩
end Go.Proofs.YtcnfcililiehlaaGreatDoor.Ch.Vd
namespace Go.Proofs.YtcnfcililiehlaaGreatDoor.Ch.Vd
open Go.RowKit
set_option maxRecDepth 100000
def ex10:CH:=⟨[99],[],[],[⟨[114],2,0,[97],[],[]⟩,⟨[97],1,1,[],[],[]⟩],[]⟩
def ex10L:List UInt8:=[99,104,97,114,116,32,99,10,111,110,101,32,114,32,97,10,32,98,97,115,105,99,32,97,10]
theorem ex10_parse:parseC ex10L=(ex10,0,0):=by decide +kernel
theorem ex10_words:(linesL ex10L).map lineW=[[wChart,[99]],[wOne,[114],[97]],[wBasic,[97]]]:=by decide +kernel
theorem known10:∀ l ∈ linesL ex10L,∀ F r,lineW l=F :: r->Known F r:=by
 intro l hl F r hw;have hm:F :: r ∈ (linesL ex10L).map lineW:=List.mem_map.2 ⟨l,hl,hw⟩;rw [ex10_words] at hm;simp only [List.mem_cons,List.not_mem_nil,or_false] at hm;intro g hg;rcases hm with h | h | h
 ·injection h with h1 h2
  subst h1;subst h2;obtain rfl:nameS=g:=Option.some.inj hg;exact ⟨_,by decide,name_m.for _,enters_of Tryz.func69 (by kernel_rfl) rfl,by kernel_rfl⟩
 ·injection h with h1 h2
  subst h1;subst h2;obtain rfl:stateS 2 2=g:=Option.some.inj hg;exact ⟨_,by decide,one_m.for _,enters_of Tryz.func77 (by kernel_rfl) rfl,by kernel_rfl⟩
 ·injection h with h1 h2
  subst h1;subst h2;obtain rfl:stateS 1 1=g:=Option.some.inj hg;exact ⟨_,by decide,basic_m.for _,enters_of Tryz.func74 (by kernel_rfl) rfl,by kernel_rfl⟩
theorem ex10_nst:Tr.Nst (dC ex10.ss) 2:=⟨two (by decide) (by decide),two (by decide) (by decide),fun _=>by decide,fun i hi=>(by obtain rfl:i=0:=(by omega);decide)⟩
theorem ex10_par:Tr.par (dC ex10.ss) 0 = -1/\Tr.par (dC ex10.ss) 1=0:=by decide
theorem ex10_kids:Tr.kids (dC ex10.ss) 2 0=[1]/\Tr.kids (dC ex10.ss) 2 1=[]:=by decide
theorem ex10_tree:treeP ex10:=by
 obtain ⟨k0,k1⟩:=ex10_kids;refine ⟨by decide,by decide,ex10_nst,two ⟨by decide,by decide⟩ ⟨by decide,by decide⟩,two ?_ ?_,by decide⟩
 ·show (∀ k ∈ Tr.kids (dC ex10.ss) 2 0,_)/\((∃ k ∈ Tr.kids (dC ex10.ss) 2 0,_) ↔ _);rw [k0];exact ⟨by decide,by decide⟩
 ·show (∀ k ∈ Tr.kids (dC ex10.ss) 2 1,_)/\((∃ k ∈ Tr.kids (dC ex10.ss) 2 1,_) ↔ _);rw [k1];exact ⟨by decide,by decide⟩
theorem ex10_place:placeC ex10.ss [97]=1:=by decide
theorem ex10_valid:Valid ex10:=by
 refine ⟨by decide,by decide +kernel,by decide +kernel,ex10_tree,two ?_ ?_,fun v hv=>(by cases hv),fun s hs=>?_,fun i hi=>absurd hi (Nat.not_lt_zero _),fun t ht=>(by cases ht)⟩
 ·unfold initE;rw [if_neg (by decide),show iniC ex10.ss 0=[97] from rfl,ex10_place];exact if_pos ⟨by decide,by decide,Or.inl ⟨rfl,ex10_par.2⟩⟩
 ·unfold initE;rw [if_pos (by decide)];rfl
 ·simp only [ex10,List.mem_cons,List.not_mem_nil,or_false] at hs;rcases hs with rfl | rfl <;> decide
theorem ex10_check:checkE ex10=0:=check_zero.2 ex10_valid
theorem ex10_sb:Sb ex10:=by
 refine ⟨fun s hs=>?_,fun t ht=>(by cases ht)⟩;simp only [ex10,List.mem_cons,List.not_mem_nil,or_false] at hs;rcases hs with rfl | rfl <;> decide
theorem ex10_ini:iniF ex10 0=1:=by
 unfold iniF;rw [show iniC ex10.ss 0=[97] from rfl,ex10_place];rfl
theorem ex10_start:startO ex10=[0,1]:=by
 unfold startO;rw [if_pos ex10_check];have h0:Tr.topL (dC ex10.ss) 2=[0]:=by decide
 have h1:Tr.bgL (dC ex10.ss) (kC ex10.ss) (iniF ex10) 2 1=[1]:=Tr.bgL_leaf (by omega) (by decide) (by decide);have h2:Tr.bgL (dC ex10.ss) (kC ex10.ss) (iniF ex10) 2 0=0 :: Tr.bgL (dC ex10.ss) (kC ex10.ss) (iniF ex10) 2 (iniF ex10 0) :=
  Tr.bgL_one ex10_nst (by omega) (by decide) (by rw [ex10_ini];omega) (by rw [ex10_ini];exact ex10_par.2)
 show (Tr.topL (dC ex10.ss) 2).flatMap (Tr.bgL (dC ex10.ss) (kC ex10.ss) (iniF ex10) 2)=[0,1];rw [h0,List.flatMap_singleton,h2,ex10_ini,h1]
theorem ex10_legal:legalC ex10 [0,1]=true/\legalC ex10 [0]=false:=by
 unfold legalC;rw [decide_eq_true ex10_check];exact ⟨by decide +kernel,by decide +kernel⟩
theorem ex10_leaves:leavesO ex10 [0,1]=[1]:=by
 unfold leavesO;rw [if_pos ex10_legal.1];decide
set_option maxHeartbeats 8000000 in
theorem wakes10_any (w:World) (hE:Env w) :
 Calls Tryz.prog 9 #[] w fun e w'=>e=.returned (.bool true)/\Below w.heap.size w w':=by
 have HP:=Lib.hid (parse_of ⟨#[99,104,97,114,116,32,99,10,111,110,101,32,114,32,97,10,32,98,97,115,105,99,32,97,10]⟩ w hE known10);clear hE
 go_enter Tryz.func9,Tryz.ntmps9
 go_wp2_with fail
 go_at_call 30
 refine HP.out.mono ?_;rintro e w1 ⟨⟨eV,vV,sV,tV,sp,tp,rfl,hO⟩,hb1⟩;rw [show parseC (ByteArray.mk #[99,104,97,114,116,32,99,10,111,110,101,32,114,32,97,10,32,98,97,115,105,99,32,97,10]).data.toList=(ex10,0,0) from ex10_parse] at hO ⊢;have hl1:sp.length=2:=by have:=congrArg List.length hO.ssE;rw [List.length_map] at this;exact this
 have hl2:tp.length=0:=by have:=congrArg List.length hO.tsE;rw [List.length_map] at this;exact this
 obtain ⟨hM,hcap⟩:=read_own hO;have hs:∀ W,Below w1.heap.size w1 W->Calls Tryz.prog 10 #[chA ex10 eV vV sV tV] W fun e w'=>(∃ v,e=.returned v/\Tr.RdZ w' v [0,1])/\Below W.heap.size W w':=fun W hW=>by
  refine (start_any (hM.below hW) hcap ex10_sb).mono ?_;rintro e w' ⟨⟨v,rfl,hv⟩,hb⟩;rw [ex10_start] at hv;exact ⟨⟨v,rfl,Tr.rdZ_own hv⟩,hb⟩
 have hlg:∀ W u,Below w1.heap.size w1 W->Tr.RdZ W u [0,1]->Calls Tryz.prog 14 #[chA ex10 eV vV sV tV,u] W fun e w'=>e=.returned (.bool true)/\Below W.heap.size W w':=fun W u hW hu=>by
  have h:=legal_any (hM.below hW) hcap ex10_sb hu (by decide);rw [ex10_legal.1] at h;exact h
 have hlf:∀ W u,Below w1.heap.size w1 W->Tr.RdZ W u [0]->Calls Tryz.prog 14 #[chA ex10 eV vV sV tV,u] W fun e w'=>e=.returned (.bool false)/\Below W.heap.size W w':=fun W u hW hu=>by
  have h:=legal_any (hM.below hW) hcap ex10_sb hu (by decide);rw [ex10_legal.2] at h;exact h
 have hlv:∀ W u,Below w1.heap.size w1 W->Tr.RdZ W u [0,1]->Calls Tryz.prog 20 #[chA ex10 eV vV sV tV,u] W fun e w'=>(∃ v,e=.returned v/\Tr.RdZ w' v [1])/\Below W.heap.size W w':=fun W u hW hu=>by
  refine (leaves_any (hM.below hW) hcap ex10_sb hu (by decide)).mono ?_;rintro e w' ⟨⟨v,rfl,hv⟩,hb⟩;rw [ex10_leaves] at hv;exact ⟨⟨v,rfl,Tr.rdZ_own hv⟩,hb⟩
 have hsm:∀ W u v l,Tr.RdZ W u l->Tr.RdZ W v l->l.length<=4611686018427387904->Calls Tryz.prog 12 #[u,v] W fun e w'=>e=.returned (.bool true)/\Below W.heap.size W w':=fun W u v l hu hv hl=>by
  have h:=drewn_low (Tr.sameZ_any u v l l W hu hv hl);rw [decide_eq_true rfl] at h;exact h
 obtain ⟨⟨Ae,ce,rfl⟩,⟨Av,cv,rfl⟩,⟨As,cs,rfl⟩,⟨At,ct,rfl⟩⟩:=hM.forms;have e1:bstr ex10.nm=.string ⟨#[99]⟩:=rfl;have e2:ex10.es.length=0:=rfl;have e3:ex10.vs.length=0:=rfl;unfold chA at hs hlg hlf hlv;rw [hl1,hl2,e1,e2,e3] at hs hlg hlf hlv ⊢;have HS:=Lib.hid hs;have HLG:=Lib.hid hlg;have HLF:=Lib.hid hlf;have HLV:=Lib.hid hlv;have HSM:=Lib.hid hsm;have HB1:=Lib.hid hb1;clear hs hlg hlf hlv hsm hb1 hM hO hcap hl1 hl2 e1 e2 e3 HP;obtain ⟨w2,hw2⟩:∃ W,W=w1.alloc (.cells #[.string ⟨#[99]⟩,.slice Ae 0 ce,.slice Av 0 cv,.slice As 2 cs,.slice At 0 ct] 27):=⟨_,rfl⟩
 have hb2:Below w1.heap.size w1 w2:=hw2 ▸ (Below.refl _ _).alloc (Nat.le_refl _) _;obtain ⟨d0,d1,d2,d3,d4⟩:w2.cell? ⟨w1.heap.size,0,none⟩=some (.string ⟨#[99]⟩)/\w2.cell? ⟨w1.heap.size,1,none⟩=some (.slice Ae 0 ce)/\w2.cell? ⟨w1.heap.size,2,none⟩=some (.slice Av 0 cv)/\w2.cell? ⟨w1.heap.size,3,none⟩=some (.slice As 2 cs)/\w2.cell? ⟨w1.heap.size,4,none⟩=some (.slice At 0 ct):=by rw [hw2];simp
 have HT:=Lib.hid (cells_later d0 d1 d2 d3 d4);have HW2:=Lib.hid hw2;have HB2:=Lib.hid hb2;have HNW:Hid (∀ W:World,∃ W',W'=W.alloc (.cells #[.int .i64 0,.int .i64 1] 3)/\Below W.heap.size W W'/\Tr.RdZ W' (.slice (some ⟨W.heap.size,0,none⟩) 2 2) [0,1]):=fun W=>⟨_,rfl,(Below.refl _ _).alloc (Nat.le_refl _) _,Tr.rdZ_new (w:=W) rfl [0,1] (by simp)⟩
 have HN0:Hid (∀ W:World,∃ W',W'=W.alloc (.cells #[.int .i64 0] 3)/\Below W.heap.size W W'/\Tr.RdZ W' (.slice (some ⟨W.heap.size,0,none⟩) 1 1) [0]):=fun W=>⟨_,rfl,(Below.refl _ _).alloc (Nat.le_refl _) _,Tr.rdZ_new (w:=W) rfl [0] (by simp)⟩
 have HN1:Hid (∀ W:World,∃ W',W'=W.alloc (.cells #[.int .i64 1] 3)/\Below W.heap.size W W'/\Tr.RdZ W' (.slice (some ⟨W.heap.size,0,none⟩) 1 1) [1]):=fun W=>⟨_,rfl,(Below.refl _ _).alloc (Nat.le_refl _) _,Tr.rdZ_new (w:=W) rfl [1] (by simp)⟩
 clear hw2 hb2
 go_wp2_with fail
 rw [<- HW2.out];refine (HS.out _ HB2.out).mono ?_;rintro e w3 ⟨⟨v,rfl,hv⟩,hb3⟩;have HB3:=Lib.hid hb3;have HC3:=Lib.hid (HB2.out.trans (hb3.mono HB2.out.size));clear d0 d1 d2 d3 d4;obtain ⟨w4,hw4,hb4,hr4⟩:=HNW.out w3;have HV4:=Lib.hid (Tr.RdZ.below hv hb4);have HR4:=Lib.hid hr4;have HW4:=Lib.hid hw4;have HB4:=Lib.hid (HB3.out.trans (hb4.mono HB3.out.size));have HC4:=Lib.hid (HC3.out.trans (hb4.mono HC3.out.size));clear hb3 hb4 hr4 hw4 hv
 go_wp2_with fail
 rw [<- HW4.out];refine (HSM.out w4 _ _ [0,1] HV4.out HR4.out (by decide)).mono ?_;rintro e w5 ⟨rfl,hb5⟩;have HB5:=Lib.hid (HB4.out.trans (hb5.mono HB4.out.size));have HC5:=Lib.hid (HC4.out.trans (hb5.mono HC4.out.size));clear hb5;obtain ⟨d0,d1,d2,d3,d4⟩:=HT.out _ HB5.out;obtain ⟨w6,hw6,hb6,hr6⟩:=HNW.out w5;have HR6:=Lib.hid hr6;have HW6:=Lib.hid hw6;have HB6:=Lib.hid (HB5.out.trans (hb6.mono HB5.out.size));have HC6:=Lib.hid (HC5.out.trans (hb6.mono HC5.out.size));clear hb6 hr6 hw6
 go_wp2_with fail
 rw [<- HW6.out];refine (HLG.out w6 _ HC6.out HR6.out).mono ?_;rintro e w7 ⟨rfl,hb7⟩;have HB7:=Lib.hid (HB6.out.trans (hb7.mono HB6.out.size));have HC7:=Lib.hid (HC6.out.trans (hb7.mono HC6.out.size));clear hb7 d0 d1 d2 d3 d4;obtain ⟨d0,d1,d2,d3,d4⟩:=HT.out _ HB7.out;obtain ⟨w8,hw8,hb8,hr8⟩:=HN0.out w7;have HR8:=Lib.hid hr8;have HW8:=Lib.hid hw8;have HB8:=Lib.hid (HB7.out.trans (hb8.mono HB7.out.size));have HC8:=Lib.hid (HC7.out.trans (hb8.mono HC7.out.size));clear hb8 hr8 hw8
 go_wp2_with fail
 rw [<- HW8.out];refine (HLF.out w8 _ HC8.out HR8.out).mono ?_;rintro e w9 ⟨rfl,hb9⟩;have HB9:=Lib.hid (HB8.out.trans (hb9.mono HB8.out.size));have HC9:=Lib.hid (HC8.out.trans (hb9.mono HC8.out.size));clear hb9 d0 d1 d2 d3 d4;obtain ⟨d0,d1,d2,d3,d4⟩:=HT.out _ HB9.out;obtain ⟨wa,hwa,hba,hra⟩:=HNW.out w9;have HRA:=Lib.hid hra;have HWA:=Lib.hid hwa;have HBA:=Lib.hid (HB9.out.trans (hba.mono HB9.out.size));have HCA:=Lib.hid (HC9.out.trans (hba.mono HC9.out.size));clear hba hra hwa
 go_wp2_with fail
 rw [<- HWA.out];refine (HLV.out wa _ HCA.out HRA.out).mono ?_;rintro e wb ⟨⟨v,rfl,hv⟩,hbb⟩;have HBB:=Lib.hid (HBA.out.trans (hbb.mono HBA.out.size));have HCB:=Lib.hid (HCA.out.trans (hbb.mono HCA.out.size));obtain ⟨wc,hwc,hbc,hrc⟩:=HN1.out wb;have HVC:=Lib.hid (Tr.RdZ.below hv hbc);have HRC:=Lib.hid hrc;have HWC:=Lib.hid hwc;have HCC:=Lib.hid (HCB.out.trans (hbc.mono HCB.out.size));clear hbb hbc hrc hwc hv d0 d1 d2 d3 d4
 go_wp2_with fail
 rw [<- HWC.out];refine (HSM.out wc _ _ [1] HVC.out HRC.out (by decide)).mono ?_;rintro e wd ⟨rfl,hbd⟩;have HCD:=Lib.hid (HCC.out.trans (hbd.mono HCC.out.size));clear hbd;go_wp2;go_ret;exact ⟨rfl,HB1.out.trans (HCD.out.mono HB1.out.size)⟩
end Go.Proofs.YtcnfcililiehlaaGreatDoor.Ch.Vd
namespace Go.Proofs.YtcnfcililiehlaaGreatDoor.Ch.Vd
open Go.RowKit
set_option maxRecDepth 100000
theorem open_chart10 {H:Type} {enc:TypeId × Value->H} {W:World} {r:Reach} {b0:Nat} {v:Value} {d:DataW H} {ps:List MemPlace} (hval:Value.okWide Tryz.prog W r b0 27 v)
 (h:DataW.Trod enc Tryz.prog W 0 (fun _=>true) true 27 v d ps) {ts:List TypeId} {ds:List (DataW H)} (hsz:(DataW.weightsEach Tryz.prog ts ds).all (·<=reachBytes)=true) {j:Nat} (ht:ts[j]?=some 27) (hd:ds[j]?=some d) :
 ∃ (c:CH) (e1 v1 s1 t1:Value) (sp:List SP) (tp:List TP),v=.agg #[bstr c.nm,e1,v1,s1,t1]/\ChIn9 W c e1 v1 s1 t1 sp tp/\∀ A m k,e1=.slice A m k->m<=k:=by
 obtain ⟨c,e1,v1,s1,t1,sp,tp,rfl,hI⟩:=open_chart9 hval h hsz ht hd;refine ⟨c,e1,v1,s1,t1,sp,tp,rfl,hI,?_⟩;obtain ⟨fuel,hf⟩:=h;obtain ⟨xs,n,_,hx,_,hxl,hfl⟩:=DataW.trod_struct Tryz.underlying27 hf;have e1':DataW.trod enc Tryz.prog W 0 (fun _=>true) true n 22 (([bstr c.nm,e1,v1,s1,t1].drop 1).take (Tryz.prog.cellsOf 22))=xs[1]?:=hfl 1 _ rfl;rw [cellsSlS] at e1';have hx5:xs.length=5:=hxl
 match xs,hx5 with
 | [y0,y1,y2,y3,y4],_ =>
  obtain ⟨rows,_,_,h4⟩:=open_rows Tryz.underlying22 cellsS (by decide) (show _=some y1 from e1');exact h4
end Go.Proofs.YtcnfcililiehlaaGreatDoor.Ch.Vd
namespace Go.Proofs.YtcnfcililiehlaaGreatDoor.Tr
open Go.RowKit
set_option maxHeartbeats 1000000 in
theorem refInZ_any (v:Value) (xs:List Int) (N:Int) (w:World) (hR:RdZ w v xs) (hl:xs.length<=4611686018427387904) :
 Calls Tryz.prog 29 #[v,.int .i64 N] w fun e w'=>e=.returned (.bool (decide (N ∈ xs)))/\w=w':=by
 obtain ⟨A,c,rfl⟩:=hR.form;have HR:=Lib.hid hR;clear hR;obtain ⟨RS,hRS⟩:∃ r,decide (N ∈ xs)=r:=⟨_,rfl⟩
 rw [hRS];have HRS:=Lib.hid hRS;clear hRS;obtain ⟨n,hn⟩:∃ n,xs.length=n:=⟨_,rfl⟩
 have HN:=Lib.hid hn;rw [hn] at hl HR ⊢;clear hn
 go_enter Tryz.func29,Tryz.ntmps29
 go_wp2
 go_loop [5] (fun x5=>∃ k:Nat,k<=n/\x5=.int .i64 k/\Hid (N ∉ xs.take k)) (fun i=>n - (intOf i).toNat)
 case atStart=>exact ⟨0,by omega,rfl,by show N ∉ xs.take 0;simp⟩
 case round =>
  obtain ⟨k,hk,rfl,HI⟩:=hrel;by_cases hkn:k < n
  ·have hkl:k < xs.length:=by rw [HN.out];exact hkn
   obtain ⟨b,o,rfl,_,hc⟩:=HR.out.at_ hkl;have hts:=List.take_succ_eq_append_getElem hkl;have hm:xs[k] ∈ xs:=List.getElem_mem hkl;generalize xs[k]=x at *
   have HTS:=Lib.hid hts;have HM:=Lib.hid hm;clear hts hm;by_cases he:x=N
   ·subst he;have HX:Hid (RS=true):=by show RS=true;rw [<- HRS.out];exact decide_eq_true HM.out
    go_wp2;go_ret;exact ⟨ret_bool HX.out.symm,rfl⟩
   ·have hne:(x==N)=false:=int_ne he;have HNE:=Lib.hid he;clear he;go_wp2
    go_round
    case rel=>exact ⟨k+1,by omega,by go_num,by
     show N ∉ xs.take (k+1);rw [HTS.out,List.mem_append,List.mem_singleton];exact fun h=>h.elim HI.out (fun e=>HNE.out e.symm)⟩
    case measure=>simp [intOf] <;> omega
  ·obtain rfl:k=n:=by omega
   have HX:Hid (RS=false):=by
    show RS=false;have h1:=HI.out;rw [<- HN.out,List.take_length] at h1;rw [<- HRS.out];exact decide_eq_false h1
   go_wp2;go_ret;exact ⟨ret_bool HX.out.symm,rfl⟩
end Go.Proofs.YtcnfcililiehlaaGreatDoor.Tr
namespace Go.Proofs.YtcnfcililiehlaaGreatDoor.Ch.Vd
open Go.RowKit
def kidC (c:CH) (i:Nat):List Nat:=Tr.kids (dC c.ss) c.ss.length i
theorem kidC_len (c:CH) (i:Nat):(kidC c i).length<=c.ss.length:=Tr.kids_len _ _ _
theorem rKids {w:World} {c:CH} {eV vV sV tV:Value} {sp:List SP} {tp:List TP} (h:ChM w c eV vV sV tV sp tp) (hT:treeP c) {i:Nat} (hi:i < c.ss.length) :
 Calls Tryz.prog 41 #[sV,.int .i64 i] w fun e w'=>(∃ u,e=.returned u/\w'.ownsRow w.heap.size 3 1 u (kidC c i).length (Tr.kvN (kidC c i)))/\Below w.heap.size w w':=by
 have hi':i < (sp.map toT).length:=by rw [List.length_map,h.sLen];exact hi
 have hl:(sp.map toT).length<=40:=by rw [List.length_map,h.sLen];exact hT.le
 have hN:Tr.Nst (Tr.dp (sp.map toT)) (sp.map toT).length:=by rw [dp_toT h,List.length_map,h.sLen];exact hT.nst
 have:=Tr.refKids_any sV (sp.map toT) i w h.rdT hi' hl hN;rw [dp_toT h,List.length_map,h.sLen] at this;exact this
end Go.Proofs.YtcnfcililiehlaaGreatDoor.Ch.Vd
