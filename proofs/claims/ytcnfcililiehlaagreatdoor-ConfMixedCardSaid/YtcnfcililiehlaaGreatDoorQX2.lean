import Derived.Test.YtcnfcililiehlaaGreatDoorR1
import Derived.Test.YtcnfcililiehlaaGreatDoorR2
import Derived.Test.YtcnfcililiehlaaGreatDoorR3
import Derived.Test.YtcnfcililiehlaaGreatDoorR4
import Derived.Test.YtcnfcililiehlaaGreatDoorR5
import Derived.Test.YtcnfcililiehlaaGreatDoorR6
import Derived.Test.YtcnfcililiehlaaGreatDoorR7
import Derived.Test.YtcnfcililiehlaaGreatDoorR8
import Derived.Test.YtcnfcililiehlaaGreatDoorR9
import Derived.Test.YtcnfcililiehlaaGreatDoorR10
import Derived.Test.YtcnfcililiehlaaGreatDoorR11
import Derived.Test.YtcnfcililiehlaaGreatDoorR12
import Derived.Test.YtcnfcililiehlaaGreatDoorR13
import Derived.Test.YtcnfcililiehlaaGreatDoorR14
import Derived.Test.YtcnfcililiehlaaGreatDoorR15
import Derived.Test.YtcnfcililiehlaaGreatDoorR16
import Derived.Test.YtcnfcililiehlaaGreatDoorR17
import Derived.Test.YtcnfcililiehlaaGreatDoorR18
import Derived.Test.YtcnfcililiehlaaGreatDoorR19
import Derived.Test.YtcnfcililiehlaaGreatDoorR20
import Derived.Test.YtcnfcililiehlaaGreatDoorR21
import Derived.Test.YtcnfcililiehlaaGreatDoorR22
import Derived.Test.YtcnfcililiehlaaGreatDoorR23
import Derived.Test.YtcnfcililiehlaaGreatDoorR24
import Derived.Test.YtcnfcililiehlaaGreatDoorR25
import Derived.Test.YtcnfcililiehlaaGreatDoorR26
import Derived.Test.YtcnfcililiehlaaGreatDoorR27
import Derived.Test.YtcnfcililiehlaaGreatDoorR28
import Derived.Test.YtcnfcililiehlaaGreatDoorR29
import Derived.Test.YtcnfcililiehlaaGreatDoorR30
import Derived.Test.YtcnfcililiehlaaGreatDoorR31
import Derived.Test.YtcnfcililiehlaaGreatDoorR32
import Derived.Test.YtcnfcililiehlaaGreatDoorR33
import Derived.Test.YtcnfcililiehlaaGreatDoorR34
import Derived.Test.YtcnfcililiehlaaGreatDoorR35
import Derived.Test.YtcnfcililiehlaaGreatDoorR36
import Derived.Test.YtcnfcililiehlaaGreatDoorQX1
namespace Go.Proofs.YtcnfcililiehlaaGreatDoor.Tr
open Go.RowKit Go.Shelf
attribute [local go_sem] Oper.semAt_some
theorem coll_step {W w1:World} {n₀ B B0:Nat} {t e:TypeId} {size:Nat} {v v':Value} {k m:Nat} {xs ys:List Value} {tmp:Obj}
 (hv:Boxed W B t v) (hB:B < n₀) (hB0:B0<=B) (hn:n₀<=W.heap.size) (hrow:W.ownsRow n₀ e size v k xs)
 (hown':w1.ownsRow n₀ e size v' m ys) (hgrow:(W.alloc tmp).grownBy w1 v.ownBlock) :
 Boxed w1 B t v/\Boxed (w1.setCell ⟨B,0,none⟩ v') B t v'/\(w1.setCell ⟨B,0,none⟩ v').ownsRow n₀ e size v' m ys/\KeepsOthers W (w1.setCell ⟨B,0,none⟩ v') /\
  (∀ keep:Nat->Prop,(∀ j,keep j->j < n₀/\j ≠ B)->KeepP keep W (w1.setCell ⟨B,0,none⟩ v'))/\Below B0 W (w1.setCell ⟨B,0,none⟩ v'):=by
 have hlow:∀ j,v.ownBlock=some j->n₀<=j:=fun j hj=>(hrow.lt j hj).1
 have hne:∀ j,j < n₀->some j ≠ v.ownBlock:=fun j hj e=>by have:=hlow j e.symm;omega
 have hv1:Boxed w1 B t v:=(hv.alloc tmp).kept hgrow (hne B hB);have hlow':∀ j,v'.ownBlock=some j->n₀<=j:=fun j hj=>(hown'.lt j hj).1
 refine ⟨hv1,hv1.set v',hown'.kept (grownBy_setCell' w1 B v') ?_,?_,fun keep hk=>?_,?_⟩
 ·cases hv':v'.ownBlock with
  | none=>exact Or.inl rfl
  | some q=>exact Or.inr (fun e=>by have:=hlow' q hv';have e:=Option.some.inj e;omega)
 ·refine ((KeepsOthers.alloc W tmp).trans (KeepsOthers.of_grownBy hgrow fun j o ej hj=>?_)).trans (KeepsOthers.setCell _ _ _);rcases (hrow.alloc tmp).2 with ⟨rfl,_⟩ | ⟨g,cap,cur,rfl,_,hgb,_⟩
  ·simp [Value.ownBlock] at ej
  ·obtain rfl:g=j:=by simpa [Value.ownBlock] using ej
   rw [hgb] at hj;cases hj;rfl
 ·refine ⟨?_,fun j hj=>?_⟩
  ·have h1:=hgrow.size;have h2:=(grownBy_setCell' w1 B v').size;rw [World.size_alloc] at h1;omega
  ·obtain ⟨h1,h2⟩:=hk j hj;have e1:(w1.setCell ⟨B,0,none⟩ v').heap[j]?=w1.heap[j]?:=Below.heap_setCell _ _ _ j (fun e=>h2 e);have e2:w1.heap[j]?=(W.alloc tmp).heap[j]?:=hgrow.block j (by rw [World.size_alloc];omega) (hne j h1);rw [e1,e2];exact Below.heap_alloc W _ j (by omega)
 ·exact (((Below.refl B0 W).alloc (by omega) tmp).grown hgrow (by simp;omega) fun j ej=>by have:=hlow j ej;omega).setCell (p:=⟨B,0,none⟩) hB0 v'
theorem kid_start (w w1:World) (v:Value) (i n:Nat) (hb:Below w.heap.size w w1) {W:World} (hW:W=((w1.alloc (.cells #[.slice none 0 0] 29)).alloc (.cells #[v] 24)).alloc (.cells #[.int .i64 i] 3)) :
 KidI w w1.heap.size ([]:List (Pl n)) W/\Boxed W (w1.heap.size+1) 24 v/\Boxed W (w1.heap.size+1+1) 3 (.int .i64 i)/\W.heap.size=w1.heap.size+1+1+1:=by
 subst hW;refine ⟨⟨⟨_,((boxed_at rfl).alloc _).alloc _,World.ownsRow_nil _ _ _ _⟩,?_,by simp⟩,(boxed_at (by simp)).alloc _,boxed_at (by simp),by simp⟩;have:=hb.size;exact ((hb.alloc (by omega) _).alloc (by simp;omega) _).alloc (by simp;omega) _
set_option maxRecDepth 100000 in
set_option maxHeartbeats 4000000 in
theorem kids_any (v:Value) (xs:List SM) (i:Nat) (w:World) (hR:RdT w v xs) (hi:i < xs.length) (hP:RightP (dp xs) (kp xs) xs.length) :
 Calls Tryz.prog 52 #[v,.int .i64 i] w fun e w'=>(∃ u,e=.returned u/\w'.ownsRow w.heap.size 3 1 u (kids (dp xs) xs.length i).length (kvN (kids (dp xs) xs.length i)))/\Below w.heap.size w w':=by
 obtain ⟨i0,hi0,hz0,hz1,hz2⟩:=info_parts Tryz.infoInt;have HI:=Lib.hid hi0;have HZ0:=Lib.hid hz0;have HZ1:=Lib.hid hz1;have HZ2:=Lib.hid hz2;clear hi0 hz0 hz1 hz2;obtain ⟨A,c,rfl⟩:=hR.form;have hl:xs.length<=40:=hP.le;have HHO:=Lib.hid (fun W (h:RdT W _ xs) pv hz=>hold_any (.slice A xs.length c) pv xs [(i:Int)] W h hz (by omega) (by simp));have hold:decide (HoldP xs [(i:Int)])=true:=decide_eq_true (hold_one.2 ⟨by omega,by omega,hP⟩);rw [hold] at HHO;obtain ⟨n,hn⟩:∃ n,xs.length=n:=⟨_,rfl⟩
 have HS:=Lib.hid (fun W0 (h:RdT W0 _ xs) BL BI w'=>children_stops (.slice A xs.length c) xs i hi (by omega) hP.nst W0 h BL BI w');have HCH:=Lib.hid (fun W=>children_any A xs.length c i W);have HR:=Lib.hid hR;have HNN:=Lib.hid hn;rw [hn] at hi hl HS HCH HHO HR ⊢;clear hR hn hP hold;refine (callsIn_wide (n:=3)).1 ?_;refine callsIn_of_wp_marks Tryz.func52 rfl trivial ?_ rfl;simp only [Tryz.ntmps52,List.size_toArray,List.length_cons,List.length_nil,Nat.reduceAdd,Nat.reduceSub,Array.replicate_succ,Array.replicate_zero,List.push_toArray,List.append_toArray,List.nil_append,List.cons_append];have HB0:Hid (Below w.heap.size w (w.alloc (.cells #[.int .i64 i] 3))):=(Below.refl _ _).alloc (Nat.le_refl _) _;have HC0:=Lib.hid (HHO.out _ (HR.out.below HB0.out) _ (rdZ_new rfl [(i:Int)] (by simp)))
 gi_wp2_with (refine ⟨trivial,?_⟩;first | (gi_at_call 90;refine (callsIn_wide.2 HC0.out).mono ?_;rintro e w1 ⟨rfl,hb1⟩) | (gi_at_call 91;refine (callsIn_wide.2 (HCH.out _)).mono ?_;rintro e w2 ⟨rfl,rfl⟩))
 have hb01:Below w.heap.size w w1:=HB0.out.trans (hb1.mono HB0.out.size);have hs1:=hb01.size;obtain ⟨W3,hW3⟩:∃ W,W=((w1.alloc (.cells #[.slice none 0 0] 29)).alloc (.cells #[.slice A n c] 24)).alloc (.cells #[.int .i64 i] 3):=⟨_,rfl⟩
 rw [<- hW3];obtain ⟨hF,hbl,hbi,hs3⟩:=kid_start w w1 _ i n hb01 hW3;have HS3:=Lib.hid (HS.out w HR.out _ _ _ hF.below hbl hbi);clear hW3 hbl hbi hb01 hb1;refine wpIn_rangeFunc_ownG rfl (by decide) (gf:=142) (lb:=#[.pointer (some ⟨w1.heap.size+1+1,0,none⟩),.pointer (some ⟨w1.heap.size+1,0,none⟩)]) rfl trivial (enters_of Tryz.func142 (by kernel_rfl) rfl)
  HS3.out KeepP.trans (fun W l o o' hl _ _ _=>⟨by simp,fun k hk=>World.putObj_heap_other (by rcases hk with hk | rfl | rfl <;> omega)⟩) (Below.refl _ _) (fun _=>rfl)
  (fun pre W=>KidI w w1.heap.size pre W)
  (fun _ _ _=>False)
  (fun s X Y row hs hg hr=>hs.grown hs1 hg (fun q hq=>by have:=hr q hq;rw [hs3] at this;exact this))
  (fun _ _ _ _ _ hs _ _=>hs)
  hF
  (fun x=>{ tmps:=#[.slice A n c,.int .i64 i,undef,undef,.slice none 0 0,.pointer (some ⟨w1.heap.size,0,none⟩),.int .i64 x.1,.slice A n c,.int .i64 i,.slice (some ⟨w.heap.size,0,none⟩) 1 1,.bool true,.bool false,.slice A n c,.int .i64 i,.func (.func 142) #[] #[.pointer (some ⟨w1.heap.size+1+1,0,none⟩),.pointer (some ⟨w1.heap.size+1,0,none⟩)],.int .i64 x.1,undef,undef,undef,undef,undef],defers:=[] }) ?assign ?body ?done ?stop
 case assign =>
  intro l x W K hK
  gi_wp2
  exact hK
 case body =>
  rintro l pre x W hI hlen;obtain ⟨v,hv,hrow⟩:=hI.out;have hc:=hv.cell;have hsz:=hI.size
  gi_wp2_with (gi_at_builtin;refine wpListIn_append_own _ rfl _ _ 29 rfl (w1.heap.size+1+1+1) 3 i0 (.int .i64 0) 1 8 Tryz.underlying29 HI.out HZ0.out HZ1.out HZ2.out rfl (by decide) _ _ _ rfl (hrow.alloc _) ⟨W.heap.size,0,none⟩ 1 1 [.int .i64 x.1] rfl rfl (one_int _ _) (by intro u hu;simp at hu;subst hu;rfl) (by unfold maxLen;omega) (by omega) (by simp;omega) ?_;intro v' w4 hown' hgrow _;obtain ⟨g',cap',rfl⟩:=ownsRow_succ hown';obtain ⟨hv1,hv2,hr2,hk2,hkp,hb2⟩:=coll_step (B0:=w.heap.size) hv (by omega) hs1 hsz hrow hown' hgrow;have hc1:=hv1.cell;have hf1:=hv1.frozen)
  refine ⟨hk2.from _,hkp _ (fun j hj=>by rcases hj with h | rfl | rfl <;> omega),⟨⟨_,hv2,?_⟩,hI.below.trans (hb2.mono (Nat.le_refl _)),?_⟩⟩
  ·rw [List.map_append,List.length_append,kvN_append];exact hr2
  ·have:=(hkp (fun _=>False) (fun _ h=>h.elim)).1;omega
 case done =>
  rintro D ys W hD hS hI hK;obtain ⟨v,hv,hrow⟩:=hI.out;have hc:=hv.cell
  gi_wp2
  refine ⟨by simp,.inl ⟨_,_,rfl,run_takeDeferred hK,?_⟩⟩;have hG:=(hI.below).grown (grownBy_putObj' W D (.deferred none)) hI.below.size (fun k hk=>by cases hk;omega);refine ⟨_,results_tmp rfl _ _ _,⟨v,rfl,?_⟩,hG⟩;have h2:=own_lower (ownsRow_putObj hrow (.deferred none) hK rfl) (show w.heap.size<=w1.heap.size+1+1+1 by omega);have hlen:ys.length=(kids (dp xs) n i).length:=by rw [<- hS,List.length_map]
  rw [hS,hlen] at h2;exact h2
 case stop =>
  rintro D cd pre W _ _ h _;exact h.elim
end Go.Proofs.YtcnfcililiehlaaGreatDoor.Tr
namespace Go.Proofs.YtcnfcililiehlaaGreatDoor.Tr
open Go.RowKit
def kvZ (l:List Int):List Value:=l.map fun k:Int=>Value.int .i64 k
theorem kvN_toI (s:List Nat):kvN s=kvZ (toI s):=by unfold kvN kvZ toI;rw [List.map_map];rfl
theorem toI_len (s:List Nat):(toI s).length=s.length:=by unfold toI;rw [List.length_map]
theorem RdZ.form {w:World} {v:Value} {l:List Int} (h:RdZ w v l):∃ A c,v=.slice A l.length c:=Inn.form h
theorem RdZ.below {w w':World} {v:Value} {l:List Int} (h:RdZ w v l) (hb:Below w.heap.size w w'):RdZ w' v l:=Inn.below h hb
theorem rdZ_own {w:World} {B:Nat} {v:Value} {s:List Nat} (h:w.ownsRow B 3 1 v s.length (kvN s)):RdZ w v (toI s):=by
 show Inn w 1 v (toI s).length (kvZ (toI s));rw [toI_len,<- kvN_toI];exact Inn.of_own h
def isZ (n:Int) (x:Int):Bool:=decide (x=n)
theorem ix_memZ (l:List Int) (n:Int):decide (0<=ixP (isZ n) l 0)=decide (n ∈ l):=by
 rw [decide_eq_decide];rcases ix_find (isZ n) l 0 with ⟨h1,h2⟩ | ⟨j,hj,h1,h2⟩
 ·rw [h1];constructor
  ·intro h;omega
  ·intro h;have:=List.find?_eq_none.1 h2 n h;simp [isZ] at this
 ·rw [h1];constructor
  ·intro _;have h3:=List.find?_some h2;have:l[j]=n:=by simpa [isZ] using h3
   exact this ▸ List.getElem_mem hj
  ·intro _;omega
set_option maxHeartbeats 1000000 in
theorem intIndex_any (v:Value) (xs:List Int) (N:Int) (w:World) (hR:RdZ w v xs) (hl:xs.length<=9223372036854775807) :
 Calls Tryz.prog 64 #[v,.int .i64 N] w fun e w'=>e=.returned (.int .i64 (ixP (isZ N) xs 0))/\w=w':=by
 obtain ⟨A,c,rfl⟩:=hR.form;have HR:=Lib.hid hR;clear hR;obtain ⟨n,hn⟩:∃ n,xs.length=n:=⟨_,rfl⟩
 have HN:=Lib.hid hn;rw [hn] at hl HR ⊢;clear hn
 go_enter Tryz.func64,Tryz.ntmps64
 go_wp2
 go_loop [4,5,8] (fun x4 x5 i=>x4=.int .i64 0/\(x5=.int .i64 0\/True)/\∃ k:Nat,k<=n/\i=.int .i64 k/\Hid (ixP (isZ N) (xs.drop k) k=ixP (isZ N) xs 0)) (fun _ _ i=>n - (intOf i).toNat)
 case atStart=>exact ⟨rfl,Or.inr trivial,0,by omega,rfl,rfl⟩
 case round =>
  obtain ⟨rfl,_,k,hk,rfl,HI⟩:=hrel;by_cases hkn:k < n
  ·obtain ⟨b,o,rfl,_,hc⟩:=HR.out.at_ (k:=k) (by rw [HN.out];exact hkn);have hst:=ix_step (p:=isZ N) (l:=xs) (k:=k) (by rw [HN.out];exact hkn);rw [HI.out] at hst;generalize xs[k]'(by rw [HN.out];exact hkn)=x at *
   by_cases he:N=x
   ·subst he;have hr:ixP (isZ N) xs 0=k:=by rw [hst,if_pos (by simp [isZ])]
    have HRR:=Lib.hid hr;clear hst hr HI;go_wp2;go_ret;exact ⟨ret_int HRR.out.symm,rfl⟩
   ·have hr:ixP (isZ N) (xs.drop (k+1)) (k+1)=ixP (isZ N) xs 0:=by rw [hst,if_neg (by simp [isZ,Ne.symm he])]
    have HRR:=Lib.hid hr;have hne:(N==x)=false:=int_ne he;clear hst hr he HI;go_wp2
    go_round
    case rel=>exact ⟨rfl,Or.inr trivial,k+1,by omega,by go_num,HRR.out⟩
    case measure=>simp [intOf];omega
  ·have hr:ixP (isZ N) xs 0 = -1:=by rw [<- HI.out,ix_end (by rw [HN.out];exact hkn)]
   have HRR:=Lib.hid hr;clear hr HI;go_wp2;go_ret;exact ⟨ret_int HRR.out.symm,rfl⟩
theorem intContains_any (v:Value) (xs:List Int) (N:Int) (w:World) (hR:RdZ w v xs) (hl:xs.length<=9223372036854775807) :
 Calls Tryz.prog 43 #[v,.int .i64 N] w fun e w'=>e=.returned (.bool (decide (N ∈ xs)))/\w=w':=by
 have HI:=Lib.hid (intIndex_any v xs N w hR hl);have HM:=Lib.hid (ix_memZ xs N);clear hR
 go_enter Tryz.func43,Tryz.ntmps43
 go_wp2_with fail
 refine HI.out.mono ?_;rintro e w1 ⟨rfl,rfl⟩;go_wp2;go_ret;exact ⟨ret_bool HM.out,rfl⟩
theorem isHistory10_any (k:Int) (w:World):Calls Tryz.prog 39 #[.int .i64 k] w fun e w'=>e=.returned (.bool (decide (pastP k)))/\w=w':=by
 by_cases h5:k=5
 ·subst h5
  go_enter Tryz.func39,Tryz.ntmps39
  go_wp2;go_ret;exact ⟨rfl,rfl⟩
 by_cases h6:k=6
 ·subst h6
  go_enter Tryz.func39,Tryz.ntmps39
  go_wp2;go_ret;exact ⟨rfl,rfl⟩
 have hp:(decide (pastP k))=false:=by simp [pastP,h5,h6]
 rw [hp];have e5:(k==5)=false:=int_ne h5;have e6:(k==6)=false:=int_ne h6;clear hp
 go_enter Tryz.func39,Tryz.ntmps39
 go_wp2;go_ret;exact ⟨rfl,rfl⟩
theorem isLeaf_any (k:Int) (w:World):Calls Tryz.prog 42 #[.int .i64 k] w fun e w'=>e=.returned (.bool (leafB k))/\w=w':=by
 by_cases h5:k=1
 ·subst h5
  go_enter Tryz.func42,Tryz.ntmps42
  go_wp2;go_ret;exact ⟨rfl,rfl⟩
 by_cases h6:k=4
 ·subst h6
  go_enter Tryz.func42,Tryz.ntmps42
  go_wp2;go_ret;exact ⟨rfl,rfl⟩
 have hp:(leafB k)=false:=by simp [leafB,h5,h6]
 rw [hp];have e5:(k==1)=false:=int_ne h5;have e6:(k==4)=false:=int_ne h6;clear hp
 go_enter Tryz.func42,Tryz.ntmps42
 go_wp2;go_ret;exact ⟨rfl,rfl⟩
theorem cnt_succ (l:List Int) (ks:List Nat) {k:Nat} (hk:k < ks.length):cnt l (ks.take (k+1))=cnt l (ks.take k)+(if inB l ks[k]=true then 1 else 0):=by
 unfold cnt;rw [List.take_succ_eq_append_getElem hk,List.filter_append,List.length_append]
 congr 1
 by_cases h:inB l ks[k]=true
 ·rw [if_pos h,List.filter_cons_of_pos h];rfl
 ·rw [if_neg h,List.filter_cons_of_neg h];rfl
theorem cnt_le (l:List Int) (ks:List Nat) (k:Nat):cnt l (ks.take k)<=ks.length:=by
 unfold cnt;refine Nat.le_trans (List.length_filter_le _ _) ?_;rw [List.length_take];omega
set_option maxHeartbeats 1000000 in
theorem active_any (v u:Value) (l:List Int) (ks:List Nat) (w:World) (hR:RdZ w v l) (hl:l.length<=9223372036854775807) (hU:RdZ w u (toI ks)) (hk:ks.length<=40) :
 Calls Tryz.prog 63 #[v,u] w fun e w'=>e=.returned (.int .i64 (cnt l ks))/\w=w':=by
 have HC:=Lib.hid (fun N:Int=>intContains_any v l N w hR hl);have htl:=toI_len ks;obtain ⟨A,c,rfl⟩:=hU.form;have HU:=Lib.hid hU;clear hU hR;rw [htl] at HU ⊢;obtain ⟨n,hn⟩:∃ n,ks.length=n:=⟨_,rfl⟩
 have HN:=Lib.hid hn;have HT:=Lib.hid htl;rw [hn] at hk HU ⊢;clear hn htl
 go_enter Tryz.func63,Tryz.ntmps63
 go_wp2
 go_loop [5,7,10] (fun x5 _ i=>∃ k:Nat,k<=n/\i=.int .i64 k/\x5=.int .i64 (cnt l (ks.take k))) (fun _ _ i=>n - (intOf i).toNat)
 case atStart=>exact ⟨0,by omega,rfl,rfl⟩
 case round =>
  obtain ⟨k,hkn0,rfl,rfl⟩:=hrel;by_cases hkn:k < n
  ·obtain ⟨b,o,rfl,_,hc⟩:=HU.out.at_ (k:=k) (by rw [HT.out,HN.out];exact hkn);have hst:=cnt_succ l ks (k:=k) (by rw [HN.out];exact hkn);have hle:=cnt_le l ks k;rw [HN.out] at hle;have hx:(toI ks)[k]'(by rw [HT.out,HN.out];exact hkn)=((ks[k]'(by rw [HN.out];exact hkn):Nat):Int):=by unfold toI;rw [List.getElem_map]
   rw [hx] at hc;generalize ks[k]'(by rw [HN.out];exact hkn)=x at *
   clear hx;generalize cnt l (ks.take k)=m at *
   by_cases he:inB l x=true
   ·rw [if_pos he] at hst;have HST:=Lib.hid hst;clear hst;have HX:Hid (decide ((x:Int) ∈ l)=true):=he;clear he
    go_wp2_with fail
    refine (HC.out x).mono ?_;rintro e w1 ⟨rfl,rfl⟩;rw [HX.out];go_wp2
    go_round
    case rel=>exact ⟨k+1,by omega,by go_num,by rw [HST.out];go_num⟩
    case measure=>simp [intOf];omega
   ·rw [if_neg he] at hst;have HST:=Lib.hid hst;clear hst;have HX:Hid (decide ((x:Int) ∈ l)=false):=by
     show decide ((x:Int) ∈ l)=false
     simpa [inB] using he
    clear he
    go_wp2_with fail
    refine (HC.out x).mono ?_;rintro e w1 ⟨rfl,rfl⟩;rw [HX.out];go_wp2
    go_round
    case rel=>exact ⟨k+1,by omega,by go_num,by rw [HST.out];rfl⟩
    case measure=>simp [intOf];omega
  ·obtain rfl:k=n:=by omega
   have hall:ks.take k=ks:=by rw [<- HN.out];exact List.take_length
   rw [hall];go_wp2;go_ret;exact ⟨rfl,rfl⟩
set_option maxHeartbeats 2000000 in
theorem areStates_any (v u:Value) (xs:List SM) (l:List Int) (w:World) (hR:RdT w v xs) (hx:xs.length<=4611686018427387904) (hU:RdZ w u l) (hl:l.length<=4611686018427387904) :
 Calls Tryz.prog 34 #[v,u] w fun e w'=>e=.returned (.bool (isRow (kp xs) xs.length (-1) l))/\w=w':=by
 have hall:=isRow_all (kd:=kp xs) (n:=xs.length) l (-1);have HNO:=Lib.hid (fun k hk h=>isRow_no (kd:=kp xs) (n:=xs.length) (l:=l) (a:=-1) (k:=k) hk h);obtain ⟨A,c,rfl⟩:=hR.form;obtain ⟨A2,c2,rfl⟩:=hU.form;have HALL:=Lib.hid hall;have HU:=Lib.hid hU;have HR:=Lib.hid hR;clear hU hR hall;obtain ⟨RS,hRS⟩:∃ r,isRow (kp xs) xs.length (-1) l=r:=⟨_,rfl⟩
 have HRS:=Lib.hid hRS;rw [hRS];clear hRS;obtain ⟨m,hm⟩:∃ m,xs.length=m:=⟨_,rfl⟩
 obtain ⟨n,hn⟩:∃ n,l.length=n:=⟨_,rfl⟩
 have HM:=Lib.hid hm;have HN:=Lib.hid hn;rw [hn] at hl HU ⊢;rw [hm] at hx HR ⊢;clear hm hn
 go_enter Tryz.func34,Tryz.ntmps34
 go_wp2
 go_loop [5,7,10] (fun x5 _ i=>∃ k:Nat,k<=n/\i=.int .i64 k/\x5=.int .i64 ((-1 :: l).getD k 0)/\Hid (∀ j,j < k->rowK (kp xs) xs.length (-1) l j=true)) (fun _ _ i=>n - (intOf i).toNat)
 case atStart=>exact ⟨0,by omega,rfl,rfl,fun j hj=>absurd hj (by omega)⟩
 case round =>
  obtain ⟨k,hkn0,rfl,rfl,HJ⟩:=hrel;by_cases hkn:k < n
  ·obtain ⟨b,o,rfl,_,hc⟩:=HU.out.at_ (k:=k) (by rw [HN.out];exact hkn);have hlo:=row_lo (kd:=kp xs) (n:=xs.length) (l:=l) (a:=-1) k HJ.out (by rw [HN.out];omega);have hnx:(-1 :: l).getD (k+1) 0=l[k]'(by rw [HN.out];exact hkn):=by
    show l.getD k 0=_;rw [List.getD_eq_getElem?_getD,List.getElem?_eq_getElem (by rw [HN.out];exact hkn)];rfl
   have hrk:rowK (kp xs) xs.length (-1) l k=(decide ((-1 :: l).getD k 0 < l[k]'(by rw [HN.out];exact hkn)) && (decide (l[k]'(by rw [HN.out];exact hkn) < (xs.length:Int)) && !decide (pastP (kp xs (l[k]'(by rw [HN.out];exact hkn)).toNat)))):=by
    unfold rowK;rw [show l.getD k 0=l[k]'(by rw [HN.out];exact hkn) from hnx]
   have HNX:=Lib.hid hnx;generalize l[k]'(by rw [HN.out];exact hkn)=x at *
   generalize (-1 :: l).getD k 0=a at *
   have HK:=Lib.hid hrk;have HNO':Hid (rowK (kp xs) xs.length (-1) l k=false->RS=false):=fun h=>by rw [<- HRS.out];exact HNO.out k (by rw [HN.out];exact hkn) h
   clear hrk hnx;by_cases h1:x<=a
   ·have HF:Hid (RS=false):=HNO'.out (by rw [HK.out,decide_eq_false (by omega)];rfl);go_wp2;go_ret;exact ⟨ret_bool HF.out.symm,rfl⟩
   ·by_cases h2:(m:Int)<=x
    ·have HF:Hid (RS=false):=HNO'.out (by rw [HK.out,decide_eq_false (show ¬ x < (xs.length:Int) by rw [HM.out];omega)];simp);go_wp2;go_ret;exact ⟨ret_bool HF.out.symm,rfl⟩
    ·obtain ⟨y,hy⟩:∃ y:Nat,x=(y:Int):=⟨x.toNat,by omega⟩
     subst hy;obtain ⟨b',o',rfl,hb',hcs⟩:=HR.out.base (by rw [HM.out];omega);obtain ⟨_,c1,_,_,_,_⟩:=hcs y (by rw [HM.out];omega);have HP:=Lib.hid (isHistory10_any (kp xs y) w);clear hcs;by_cases h3:pastP (kp xs y)
     ·have HF:Hid (RS=false):=HNO'.out (by rw [HK.out,show ((y:Int)).toNat=y from rfl,decide_eq_true h3];simp);have H3:Hid (decide (pastP (kp xs y))=true):=decide_eq_true h3;clear h3
      go_wp2_with fail
      refine HP.out.mono ?_;rintro e w1 ⟨rfl,rfl⟩;rw [H3.out];go_wp2;go_ret;exact ⟨ret_bool HF.out.symm,rfl⟩
     ·have HT:Hid (rowK (kp xs) xs.length (-1) l k=true):=by
       show rowK _ _ _ _ _=true;rw [HK.out,show ((y:Int)).toNat=y from rfl,decide_eq_false h3,decide_eq_true (show a < (y:Int) by omega),decide_eq_true (show (y:Int) < (xs.length:Int) by rw [HM.out];omega)];rfl
      have H3:Hid (decide (pastP (kp xs y))=false):=decide_eq_false h3;clear h3
      go_wp2_with fail
      refine HP.out.mono ?_;rintro e w1 ⟨rfl,rfl⟩;rw [H3.out];go_wp2
      go_round
      case rel=>exact ⟨k+1,by omega,by go_num,by rw [HNX.out],fun j hj=>by
       by_cases e:j=k
       ·rw [e];exact HT.out
       ·exact HJ.out j (by omega)⟩
      case measure=>simp [intOf];omega
  ·obtain rfl:k=n:=by omega
   have HF:Hid (RS=true):=by show RS=true;rw [<- HRS.out];exact HALL.out.2 (fun j hj=>HJ.out j (by rw [HN.out] at hj;exact hj))
   go_wp2;go_ret;exact ⟨ret_bool HF.out.symm,rfl⟩
end Go.Proofs.YtcnfcililiehlaaGreatDoor.Tr
namespace Go.Proofs.YtcnfcililiehlaaGreatDoor.Tr
open Go.RowKit
set_option maxRecDepth 100000 in
set_option maxHeartbeats 4000000 in
theorem stands_any (v u:Value) (xs:List SM) (l:List Int) (i:Nat) (w:World) (hR:RdT w v xs) (hU:RdZ w u l) (hl:l.length<=4611686018427387904) (hi:i < xs.length) (hP:RightP (dp xs) (kp xs) xs.length) :
 Calls Tryz.prog 35 #[v,u,.int .i64 i] w fun e w'=>e=.returned (.bool (standB (dp xs) (kp xs) xs.length l i))/\Below w.heap.size w w':=by
 have hl40:=hP.le;have HPA:=Lib.hid (parent_yes v xs i w hR hi hP);have HKI:=Lib.hid (fun W (hW:Below w.heap.size w W)=>kids_any v xs i W (hR.below hW) hi hP);have HCO:=Lib.hid (fun W (hW:Below w.heap.size w W) N=>intContains_any u l N W (hU.below hW) (by omega));have HAC:=Lib.hid (fun W (hW:Below w.heap.size w W) u2 (hu:RdZ W u2 (toI (kids (dp xs) xs.length i)))=>active_any u u2 l (kids (dp xs) xs.length i) W (hU.below hW) (by omega) hu (by have:=kids_len (dp xs) xs.length i;omega));have hkl:(kids (dp xs) xs.length i).length<=40:=by have:=kids_len (dp xs) xs.length i;omega
 obtain ⟨A,c,rfl⟩:=hR.form;obtain ⟨b,o,rfl,hb,hcs⟩:=hR.base (by omega);obtain ⟨_,c1,_,_,_,_⟩:=hcs i hi;have C1:=Lib.hid (fun W (hW:Below w.heap.size w W)=>(hW.cell (cell_lt c1)).trans c1);clear hcs hR hU c1;obtain ⟨RS,hRS⟩:∃ r,standB (dp xs) (kp xs) xs.length l i=r:=⟨_,rfl⟩
 have hrs:=hRS;unfold standB at hrs;rw [hRS];clear hRS;rw [show inB l i=decide ((i:Int) ∈ l) from rfl] at hrs;generalize kids (dp xs) xs.length i=ks at *
 generalize cnt l ks=m at *
 generalize kp xs i=K at *
 generalize par (dp xs) i=P at *
 obtain ⟨kn,hkn⟩:∃ n,ks.length=n:=⟨_,rfl⟩
 rw [hkn] at hrs hkl HKI;have HKN:=Lib.hid hkn;obtain ⟨n,hn⟩:∃ n,xs.length=n:=⟨_,rfl⟩
 rw [hn] at hi hl40 HPA HKI ⊢;clear hn hP hkn;have HRS:=Lib.hid hrs;clear hrs
 go_enter Tryz.func35,Tryz.ntmps35
 go_wp2_with fail
 refine HPA.out.mono ?_;rintro e w1 ⟨rfl,hb1⟩;have HB1:=Lib.hid hb1;clear hb1
 go_wp2_with fail
 refine (HKI.out w1 HB1.out).mono ?_;rintro e w2 ⟨⟨u2,rfl,hown⟩,hb2⟩;obtain ⟨A2,c2,rfl⟩:=own_slice hown;have HB2:Hid (Below w.heap.size w w2):=HB1.out.trans (hb2.mono HB1.out.size);have HU2:Hid (RdZ w2 (.slice A2 kn c2) (toI ks)):=by
  have:=hown;rw [<- HKN.out] at this ⊢;exact rdZ_own this
 clear hb2 hown
 go_wp2_with fail
 refine (HCO.out w2 HB2.out i).mono ?_;rintro e w3 ⟨rfl,rfl⟩;by_cases hin:(i:Int) ∈ l
 ·rw [decide_eq_true hin];have HR2:=HRS.out;rw [if_pos (decide_eq_true hin)] at HR2;have HRT:=Lib.hid HR2;clear HR2 hin HRS;have c1:=C1.out w2 HB2.out;have tail:∀ X,(decide (P = -1) || decide (P ∈ l))=true->((if K=2 then decide (m=1) else if K=3 then decide (m=kn) else true)=X)->RS=X:=fun X h1 h2=>by
   rw [<- HRT.out,h1,h2];rfl
  have HTL:=Lib.hid tail;clear tail;by_cases hp:P = -1
  ·have HTT:Hid (∀ X,((if K=2 then decide (m=1) else if K=3 then decide (m=kn) else true)=X)->RS=X):=fun X h2=>HTL.out X (by rw [decide_eq_true hp];rfl) h2
   clear HTL HRT;subst hp;by_cases k2:K=2
   ·subst k2;have HX:Hid (RS=decide (m=1)):=HTT.out _ (if_pos rfl);clear HTT
    go_wp2_with fail
    refine (HAC.out w2 HB2.out _ HU2.out).mono ?_;rintro e w4 ⟨rfl,rfl⟩;go_wp2;go_ret;exact ⟨ret_bool (by rw [HX.out];by_cases e:m=1 <;> simp [e] <;> omega),HB2.out⟩
   ·by_cases k3:K=3
    ·subst k3;have HX:Hid (RS=decide (m=kn)):=HTT.out _ (by rw [if_neg (by decide),if_pos rfl]);clear HTT
     go_wp2_with fail
     refine (HAC.out w2 HB2.out _ HU2.out).mono ?_;rintro e w4 ⟨rfl,rfl⟩;go_wp2;go_ret;exact ⟨ret_bool (by rw [HX.out];by_cases e:m=kn <;> simp [e] <;> omega),HB2.out⟩
    ·have HX:Hid (RS=true):=HTT.out _ (by rw [if_neg k2,if_neg k3]);have e2:(K==2)=false:=int_ne k2;have e3:(K==3)=false:=int_ne k3;clear HTT;go_wp2;go_ret;exact ⟨ret_bool HX.out.symm,HB2.out⟩
  ·have hpe:(P==-1)=false:=int_ne hp;have hpn:(P != -1)=true:=bne_iff_ne.2 hp
   go_wp2_with fail
   refine (HCO.out w2 HB2.out P).mono ?_;rintro e w3 ⟨rfl,rfl⟩;by_cases hpl:P ∈ l
   ·rw [decide_eq_true hpl];have HTT:Hid (∀ X,((if K=2 then decide (m=1) else if K=3 then decide (m=kn) else true)=X)->RS=X):=fun X h2=>HTL.out X (by rw [decide_eq_true hpl];simp) h2
    clear HTL HRT hpl hp;by_cases k2:K=2
    ·subst k2;have HX:Hid (RS=decide (m=1)):=HTT.out _ (if_pos rfl);clear HTT
     go_wp2_with fail
     refine (HAC.out w2 HB2.out _ HU2.out).mono ?_;rintro e w4 ⟨rfl,rfl⟩;go_wp2;go_ret;exact ⟨ret_bool (by rw [HX.out];by_cases e:m=1 <;> simp [e] <;> omega),HB2.out⟩
    ·by_cases k3:K=3
     ·subst k3;have HX:Hid (RS=decide (m=kn)):=HTT.out _ (by rw [if_neg (by decide),if_pos rfl]);clear HTT
      go_wp2_with fail
      refine (HAC.out w2 HB2.out _ HU2.out).mono ?_;rintro e w4 ⟨rfl,rfl⟩;go_wp2;go_ret;exact ⟨ret_bool (by rw [HX.out];by_cases e:m=kn <;> simp [e] <;> omega),HB2.out⟩
     ·have HX:Hid (RS=true):=HTT.out _ (by rw [if_neg k2,if_neg k3]);have e2:(K==2)=false:=int_ne k2;have e3:(K==3)=false:=int_ne k3;clear HTT;go_wp2;go_ret;exact ⟨ret_bool HX.out.symm,HB2.out⟩
   ·rw [decide_eq_false hpl];have HX:Hid (RS=false):=by
     show RS=false;rw [<- HRT.out,decide_eq_false hp,decide_eq_false hpl];rfl
    clear HTL HRT hpl hp;go_wp2;go_ret;exact ⟨ret_bool HX.out.symm,HB2.out⟩
 ·rw [decide_eq_false hin];have HR2:=HRS.out;rw [if_neg (by rw [decide_eq_false hin];simp)] at HR2;have HRT:=Lib.hid HR2;clear HR2 hin HRS;go_wp2;go_ret;exact ⟨ret_bool (by rw [<- HRT.out];by_cases e:P = -1 <;> simp [e]),HB2.out⟩
end Go.Proofs.YtcnfcililiehlaaGreatDoor.Tr
