import Derived.Test.YtcnfcililiehlaaGreatDoorR1
import Derived.Test.YtcnfcililiehlaaGreatDoorR2
import Derived.Test.YtcnfcililiehlaaGreatDoorR3
import Derived.Test.YtcnfcililiehlaaGreatDoorR4
import Derived.Test.YtcnfcililiehlaaGreatDoorR5
import Derived.Test.YtcnfcililiehlaaGreatDoorR6
import Derived.Test.YtcnfcililiehlaaGreatDoorR7
import Derived.Test.YtcnfcililiehlaaGreatDoorR8
import Derived.Test.YtcnfcililiehlaaGreatDoorR9
import Derived.Test.YtcnfcililiehlaaGreatDoorR10
import Derived.Test.YtcnfcililiehlaaGreatDoorR11
import Derived.Test.YtcnfcililiehlaaGreatDoorR12
import Derived.Test.YtcnfcililiehlaaGreatDoorR13
import Derived.Test.YtcnfcililiehlaaGreatDoorR14
import Derived.Test.YtcnfcililiehlaaGreatDoorR15
import Derived.Test.YtcnfcililiehlaaGreatDoorR16
import Derived.Test.YtcnfcililiehlaaGreatDoorR17
import Derived.Test.YtcnfcililiehlaaGreatDoorR18
import Derived.Test.YtcnfcililiehlaaGreatDoorR19
import Derived.Test.YtcnfcililiehlaaGreatDoorR20
import Derived.Test.YtcnfcililiehlaaGreatDoorR21
import Derived.Test.YtcnfcililiehlaaGreatDoorR22
import Derived.Test.YtcnfcililiehlaaGreatDoorR23
import Derived.Test.YtcnfcililiehlaaGreatDoorR24
import Derived.Test.YtcnfcililiehlaaGreatDoorR25
import Derived.Test.YtcnfcililiehlaaGreatDoorR26
import Derived.Test.YtcnfcililiehlaaGreatDoorR27
import Derived.Test.YtcnfcililiehlaaGreatDoorR28
import Derived.Test.YtcnfcililiehlaaGreatDoorR29
import Derived.Test.YtcnfcililiehlaaGreatDoorR30
import Derived.Test.YtcnfcililiehlaaGreatDoorR31
import Derived.Test.YtcnfcililiehlaaGreatDoorR32
import Derived.Test.YtcnfcililiehlaaGreatDoorR33
import Derived.Test.YtcnfcililiehlaaGreatDoorR34
import Derived.Test.YtcnfcililiehlaaGreatDoorR35
import Derived.Test.YtcnfcililiehlaaGreatDoorR36
namespace Go.Proofs.YtcnfcililiehlaaGreatDoor.Tr
theorem rising_eq:∀ {l m:List Nat},l.Pairwise (· < ·)->m.Pairwise (· < ·)->(∀ x,x ∈ l ↔ x ∈ m)->l=m
 | [],[],_,_,_=>rfl
 | [],b :: m,_,_,h=>absurd ((h b).2 (List.mem_cons_self ..)) (by simp)
 | a :: l,[],_,_,h=>absurd ((h a).1 (List.mem_cons_self ..)) (by simp)
 | a :: l,b :: m,hl,hm,h=>by
  rw [List.pairwise_cons] at hl hm;have hab:a=b:=by
   rcases List.mem_cons.1 ((h a).1 (List.mem_cons_self ..)) with e | e
   ·exact e
   ·rcases List.mem_cons.1 ((h b).2 (List.mem_cons_self ..)) with e2 | e2
    ·exact e2.symm
    ·have h1:=hm.1 a e;have h2:=hl.1 b e2;omega
  subst hab;rw [rising_eq hl.2 hm.2 fun x=>?_];constructor
  ·intro hx;rcases List.mem_cons.1 ((h x).1 (List.mem_cons_of_mem _ hx)) with e | e
   ·have:=hl.1 x hx;omega
   ·exact e
  ·intro hx;rcases List.mem_cons.1 ((h x).2 (List.mem_cons_of_mem _ hx)) with e | e
   ·have:=hm.1 x hx;omega
   ·exact e
section
variable {d kd:Nat->Int} {n:Nat} {ini:Nat->Nat}
theorem par_lt (d:Nat->Int) (j:Nat) (h:par d j ≠ -1):(par d j).toNat < j:=by
 rcases parF_spec d j j with ⟨h1,_⟩ | ⟨p,h1,h2,_⟩
 ·exact absurd h1 h
 ·have:par d j=(p:Int):=h1;omega
def ledB (kd:Nat->Int) (ini:Nat->Nat) (p k:Nat):Bool:=decide (kd p=3) || (decide (kd p=2) && decide (ini p=k))
def bg (d kd:Nat->Int) (ini:Nat->Nat) (i j:Nat):Bool :=
 if i=j then true else if _h:par d j = -1 then false else bg d kd ini i (par d j).toNat && ledB kd ini (par d j).toNat j
termination_by j
decreasing_by exact par_lt d j (by assumption)
theorem bg_self (i:Nat):bg d kd ini i i=true:=by rw [bg,if_pos rfl]
theorem bg_none {i j:Nat} (h:i ≠ j) (hp:par d j = -1):bg d kd ini i j=false:=by rw [bg,if_neg h,dif_pos hp]
theorem bg_par {i j p:Nat} (h:i ≠ j) (hp:par d j=(p:Int)):bg d kd ini i j=(bg d kd ini i p && ledB kd ini p j):=by
 rw [bg,if_neg h,dif_neg (by omega),hp];rfl
def bgL (d kd:Nat->Int) (ini:Nat->Nat) (n i:Nat):List Nat:=(List.range n).filter (bg d kd ini i)
theorem mem_bgL {i j:Nat}:j ∈ bgL d kd ini n i ↔ j < n/\bg d kd ini i j=true:=by unfold bgL;simp
theorem bgL_rising (i:Nat):(bgL d kd ini n i).Pairwise (· < ·):=List.Pairwise.filter _ List.pairwise_lt_range
theorem Nst.bg_in (h:Nst d n) {i:Nat}:∀ j,j < n->bg d kd ini i j=true->j=i\/wi d i j:=by
 intro j
 induction j using Nat.strongRecOn with
 | ind j ih =>
 intro hj hb;by_cases e:i=j
 ·exact Or.inl e.symm
 by_cases hp:par d j = -1
 ·rw [bg_none e hp] at hb;cases hb
 ·have hlt:=par_lt d j hp;obtain ⟨p,hpp⟩:∃ p:Nat,par d j=(p:Int):=⟨(par d j).toNat,by rcases parF_spec d j j with ⟨h1,_⟩ | ⟨p,h1,_⟩;exact absurd h1 hp;have:par d j=(p:Int):=h1;omega⟩
  rw [bg_par e hpp,Bool.and_eq_true] at hb;rw [hpp] at hlt;exact Or.inr ((h.wi_par hj).2 ⟨p,hpp,ih p (by omega) (by omega) hb.1⟩)
theorem bg_child (i:Nat):∀ x,x < n->(bg d kd ini i x=true ↔ x=i\/∃ k,k < n/\par d k=(i:Int)/\ledB kd ini i k=true/\bg d kd ini k x=true):=by
 intro x
 induction x using Nat.strongRecOn with
 | ind x ih =>
 intro hx;by_cases e:i=x
 ·subst e;simp [bg_self]
 by_cases hp:par d x = -1
 ·rw [bg_none e hp];constructor
  ·intro h;cases h
  ·rintro (h | ⟨k,hk,h1,h2,h3⟩)
   ·exact absurd h.symm e
   ·by_cases ek:k=x
    ·subst ek;omega
    ·rw [bg_none ek hp] at h3;cases h3
 ·have hlt:=par_lt d x hp;obtain ⟨p,hpp⟩:∃ p:Nat,par d x=(p:Int):=⟨(par d x).toNat,by rcases parF_spec d x x with ⟨h1,_⟩ | ⟨p,h1,_⟩;exact absurd h1 hp;have:par d x=(p:Int):=h1;omega⟩
  rw [hpp] at hlt;have hpx:p < x:=by omega
  rw [bg_par e hpp,Bool.and_eq_true,ih p hpx (by omega)];constructor
  ·rintro ⟨h1 | ⟨k,hk,h2,h3,h4⟩,hl⟩
   ·subst h1;exact Or.inr ⟨x,hx,hpp,hl,bg_self x⟩
   ·refine Or.inr ⟨k,hk,h2,h3,?_⟩;by_cases ek:k=x
    ·subst ek;exact bg_self _
    ·rw [bg_par ek hpp,h4,hl];rfl
  ·rintro (h | ⟨k,hk,h1,h2,h3⟩)
   ·exact absurd h.symm e
   ·by_cases ek:k=x
    ·subst ek;have:p=i:=by omega
     subst this;exact ⟨Or.inl rfl,h2⟩
    ·rw [bg_par ek hpp,Bool.and_eq_true] at h3;exact ⟨Or.inr ⟨k,hk,h1,h2,h3.1⟩,h3.2⟩
theorem bgL_one (h:Nst d n) {i:Nat} (hi:i < n) (hk:kd i=2) (hn:ini i < n) (hp:par d (ini i)=(i:Int)):bgL d kd ini n i=i :: bgL d kd ini n (ini i):=by
 refine rising_eq (bgL_rising i) (List.pairwise_cons.2 ⟨fun x hx=>?_,bgL_rising _⟩) fun x=>?_
 ·obtain ⟨h1,h2⟩:=mem_bgL.1 hx;have:=(h.kid hn hp).1;rcases h.bg_in x h1 h2 with e | e
  ·omega
  ·have:=e.1;omega
 ·rw [mem_bgL,List.mem_cons,mem_bgL];constructor
  ·rintro ⟨h1,h2⟩;rcases (bg_child i x h1).1 h2 with e | ⟨k,hk2,h3,h4,h5⟩
   ·exact Or.inl e
   ·have:ini i=k:=by simpa [ledB,hk] using h4
    subst this;exact Or.inr ⟨h1,h5⟩
  ·rintro (e | ⟨h1,h2⟩)
   ·subst e;exact ⟨hi,bg_self _⟩
   ·exact ⟨h1,(bg_child i x h1).2 (Or.inr ⟨_,hn,hp,by simp [ledB,hk],h2⟩)⟩
theorem bgL_both (h:Nst d n) {i:Nat} (hi:i < n) (hk:kd i=3):bgL d kd ini n i=i :: (kids d n i).flatMap (bgL d kd ini n):=by
 have hin:∀ {k x},k < n->x ∈ bgL d kd ini n k->k<=x/\(x=k\/wi d k x):=fun {k x} hk hx=>by
  obtain ⟨h1,h2⟩:=mem_bgL.1 hx;rcases h.bg_in x h1 h2 with e | e
  ·exact ⟨by omega,Or.inl e⟩
  ·exact ⟨by have:=e.1;omega,Or.inr e⟩
 refine rising_eq (bgL_rising i) (List.pairwise_cons.2 ⟨fun x hx=>?_,?_⟩) fun x=>?_
 ·obtain ⟨k,hk1,hx⟩:=List.mem_flatMap.1 hx;obtain ⟨h1,h2⟩:=mem_kids.1 hk1;have:=(h.kid h1 h2).1;have:=(hin h1 hx).1;omega
 ·rw [List.pairwise_flatMap];refine ⟨fun k _=>bgL_rising k,?_⟩;have hs:(kids d n i).Pairwise (· < ·):=List.Pairwise.filter _ List.pairwise_lt_range;refine (List.Pairwise.and_mem.1 hs).imp ?_;rintro k1 k2 ⟨m1,m2,hlt⟩ x hx y hy;obtain ⟨h1,e1⟩:=mem_kids.1 m1;obtain ⟨h2,e2⟩:=mem_kids.1 m2;have hy1:=(hin h2 hy).1;rcases (hin h1 hx).2 with e | e
  ·omega
  ·have g1:=h.kid h1 e1;have g2:=h.kid h2 e2;by_cases hxk:x < k2
   ·omega
   ·have:=e.2 k2 hlt (by omega);omega
 ·rw [mem_bgL,List.mem_cons,List.mem_flatMap];constructor
  ·rintro ⟨h1,h2⟩;rcases (bg_child i x h1).1 h2 with e | ⟨k,hk2,h3,_,h5⟩
   ·exact Or.inl e
   ·exact Or.inr ⟨k,mem_kids.2 ⟨hk2,h3⟩,mem_bgL.2 ⟨h1,h5⟩⟩
  ·rintro (e | ⟨k,h1,h2⟩)
   ·subst e;exact ⟨hi,bg_self _⟩
   ·obtain ⟨h3,h4⟩:=mem_kids.1 h1;obtain ⟨h5,h6⟩:=mem_bgL.1 h2;exact ⟨h5,(bg_child i x h5).2 (Or.inr ⟨k,h3,h4,by simp [ledB,hk],h6⟩)⟩
theorem bgL_leaf {i:Nat} (hi:i < n) (h2:kd i ≠ 2) (h3:kd i ≠ 3):bgL d kd ini n i=[i]:=by
 refine rising_eq (bgL_rising i) (by simp) fun x=>?_
 rw [mem_bgL,List.mem_singleton];constructor
 ·rintro ⟨h1,hb⟩;rcases (bg_child i x h1).1 hb with e | ⟨k,_,_,h4,_⟩
  ·exact e
  ·simp [ledB,h2,h3] at h4
 ·intro e;subst e;exact ⟨hi,bg_self _⟩
def topL (d:Nat->Int) (n:Nat):List Nat:=(List.range n).filter fun i=>decide (d i=0)
theorem mem_topL {i:Nat}:i ∈ topL d n ↔ i < n/\d i=0:=by unfold topL;simp
def startL (d kd:Nat->Int) (ini:Nat->Nat) (n:Nat):List Nat:=(topL d n).flatMap (bgL d kd ini n)
theorem mem_startL {x:Nat}:x ∈ startL d kd ini n ↔ x < n/\∃ r,r < n/\d r=0/\bg d kd ini r x=true:=by
 unfold startL;rw [List.mem_flatMap];constructor
 ·rintro ⟨r,h1,h2⟩;exact ⟨(mem_bgL.1 h2).1,r,(mem_topL.1 h1).1,(mem_topL.1 h1).2,(mem_bgL.1 h2).2⟩
 ·rintro ⟨h,r,h1,h2,h3⟩;exact ⟨r,mem_topL.2 ⟨h1,h2⟩,mem_bgL.2 ⟨h,h3⟩⟩
theorem Nst.startL_rising (h:Nst d n):(startL d kd ini n).Pairwise (· < ·):=by
 unfold startL;rw [List.pairwise_flatMap];refine ⟨fun k _=>bgL_rising k,?_⟩;have hs:(topL d n).Pairwise (· < ·):=List.Pairwise.filter _ List.pairwise_lt_range;refine (List.Pairwise.and_mem.1 hs).imp ?_;rintro k1 k2 ⟨m1,m2,hlt⟩ x hx y hy;obtain ⟨h1,e1⟩:=mem_topL.1 m1;obtain ⟨h2,e2⟩:=mem_topL.1 m2;obtain ⟨hx1,hx2⟩:=mem_bgL.1 hx;obtain ⟨hy1,hy2⟩:=mem_bgL.1 hy;have:k2<=y:=by
  rcases h.bg_in y hy1 hy2 with e | e
  ·omega
  ·have:=e.1;omega
 rcases h.bg_in x hx1 hx2 with e | e
 ·omega
 ·by_cases hxk:x < k2
  ·omega
  ·have:=e.2 k2 hlt (by omega);have:=h.lo k1 h1;omega
end
end Go.Proofs.YtcnfcililiehlaaGreatDoor.Tr
namespace Go.Proofs.YtcnfcililiehlaaGreatDoor.Tr
section
variable {d kd:Nat->Int} {n:Nat} {ini:Nat->Nat}
instance (k:Int):Decidable (pastP k):=by unfold pastP;infer_instance
def isRow (kd:Nat->Int) (n:Nat):Int->List Int->Bool
 | _,[]=>true
 | a,i :: r=>decide (a < i) && (decide (i < (n:Int)) && (!decide (pastP (kd i.toNat)) && isRow kd n i r))
def inB (l:List Int) (i:Nat):Bool:=decide ((i:Int) ∈ l)
def cnt (l:List Int) (ks:List Nat):Nat:=(ks.filter (inB l)).length
def standB (d kd:Nat->Int) (n:Nat) (l:List Int) (i:Nat):Bool :=
 if inB l i=true then
  (decide (par d i = -1) || decide (par d i ∈ l)) && (if kd i=2 then decide (cnt l (kids d n i)=1) else if kd i=3 then decide (cnt l (kids d n i)=(kids d n i).length) else true)
 else !decide (par d i = -1)
def legalB (d kd:Nat->Int) (n:Nat) (l:List Int):Bool:=isRow kd n (-1) l && (List.range n).all (standB d kd n l)
structure LegS (d kd:Nat->Int) (n:Nat) (S:Nat->Bool):Prop where
 lt:∀ i,S i=true->i < n/\¬ pastP (kd i)
 top:∀ i,i < n->d i=0->S i=true
 up:∀ i,S i=true->∀ p:Nat,par d i=(p:Int)->S p=true
 one:∀ i,S i=true->kd i=2->∃ k,k ∈ kids d n i/\S k=true/\∀ k' ∈ kids d n i,S k'=true->k'=k
 both:∀ i,S i=true->kd i=3->∀ k ∈ kids d n i,S k=true
def toI (s:List Nat):List Int:=s.map fun k:Nat=>(k:Int)
theorem mem_toI {s:List Nat} {i:Nat}:(i:Int) ∈ toI s ↔ i ∈ s:=by
 unfold toI;rw [List.mem_map];constructor
 ·rintro ⟨k,h,e⟩;have:k=i:=by omega
  exact this ▸ h
 ·intro h;exact ⟨i,h,rfl⟩
theorem inB_toI {s:List Nat} {i:Nat}:inB (toI s) i=decide (i ∈ s):=by unfold inB;rw [decide_eq_decide];exact mem_toI
theorem isRow_toI:∀ (s:List Nat) (a:Int),isRow kd n a (toI s)=true ↔ s.Pairwise (· < ·)/\(∀ x ∈ s,a < (x:Int))/\∀ x ∈ s,x < n/\¬ pastP (kd x)
 | [],a=>by simp [toI,isRow]
 | b :: s,a=>by
  have hc:toI (b :: s)=(b:Int) :: toI s:=rfl;rw [hc,isRow,Bool.and_eq_true,Bool.and_eq_true,Bool.and_eq_true,isRow_toI s,List.pairwise_cons];simp only [decide_eq_true_eq,Bool.not_eq_true',decide_eq_false_iff_not,List.mem_cons,Int.toNat_natCast];constructor
  ·rintro ⟨h1,h2,h3,h4,h5,h6⟩;refine ⟨⟨fun x hx=>by have:=h5 x hx;omega,h4⟩,?_,?_⟩
   ·rintro x (rfl | hx)
    ·exact h1
    ·have:=h5 x hx;omega
   ·rintro x (rfl | hx)
    ·exact ⟨by omega,h3⟩
    ·exact h6 x hx
  ·rintro ⟨⟨h1,h2⟩,h3,h4⟩;exact ⟨h3 b (Or.inl rfl),by have:=(h4 b (Or.inl rfl)).1;omega,(h4 b (Or.inl rfl)).2,h2,fun x hx=>by have:=h1 x hx;omega,fun x hx=>h4 x (Or.inr hx)⟩
theorem kids_rising (i:Nat):(kids d n i).Pairwise (· < ·):=List.Pairwise.filter _ List.pairwise_lt_range
theorem one_len:∀ (ks:List Nat) (S:Nat->Bool),ks.Pairwise (· < ·)->((ks.filter S).length=1 ↔ ∃ k,k ∈ ks/\S k=true/\∀ k' ∈ ks,S k'=true->k'=k):=by
 intro ks S hs;constructor
 ·intro h;obtain ⟨k,hk⟩:=List.length_eq_one_iff.1 h;have hm:∀ x,x ∈ ks/\S x=true ↔ x=k:=fun x=>by rw [<- List.mem_filter,hk,List.mem_singleton]
  exact ⟨k,((hm k).2 rfl).1,((hm k).2 rfl).2,fun x hx hS=>(hm x).1 ⟨hx,hS⟩⟩
 ·rintro ⟨k,h1,h2,h3⟩;have:ks.filter S=[k]:=rising_eq (List.Pairwise.filter _ hs) (by simp) fun x=>by
   rw [List.mem_filter,List.mem_singleton];exact ⟨fun ⟨a,b⟩=>h3 x a b,fun e=>e ▸ ⟨h1,h2⟩⟩
  rw [this];rfl
theorem all_len (ks:List Nat) (S:Nat->Bool):(ks.filter S).length=ks.length ↔ ∀ k ∈ ks,S k=true:=by
 rw [<- List.length_filter_eq_length_iff]
theorem par_cases (d:Nat->Int) (i:Nat):par d i = -1\/∃ p:Nat,par d i=(p:Int)/\p < i:=by
 rcases parF_spec d i i with ⟨h1,_⟩ | ⟨p,h1,h2,_⟩
 ·exact Or.inl h1
 ·exact Or.inr ⟨p,h1,h2⟩
theorem legal_iff (h:Nst d n) {s:List Nat}:legalB d kd n (toI s)=true ↔ s.Pairwise (· < ·)/\LegS d kd n fun i=>decide (i ∈ s):=by
 unfold legalB;rw [Bool.and_eq_true,isRow_toI,List.all_eq_true];have hin:∀ i,inB (toI s) i=decide (i ∈ s):=fun i=>inB_toI
 have hst:(∀ x ∈ s,x < n)->∀ i,i < n->(standB d kd n (toI s) i=true ↔ (d i=0->i ∈ s)/\(i ∈ s->∀ p:Nat,par d i=(p:Int)->p ∈ s) /\
  (i ∈ s->kd i=2->∃ k,k ∈ kids d n i/\k ∈ s/\∀ k' ∈ kids d n i,k' ∈ s->k'=k)/\(i ∈ s->kd i=3->∀ k ∈ kids d n i,k ∈ s)):=by
  intro _ i hi;have h1:=one_len (kids d n i) (inB (toI s)) (kids_rising i);have h2:=all_len (kids d n i) (inB (toI s));have hn:=h.par_neg hi;unfold standB cnt;simp only [hin,decide_eq_true_eq] at h1 h2 ⊢;by_cases hm:i ∈ s
  ·rw [if_pos hm,Bool.and_eq_true];rcases par_cases d i with hp | ⟨p,hp,_⟩
   ·have:(if kd i=2 then decide ((List.filter (inB (toI s)) (kids d n i)).length=1) else if kd i=3 then decide ((List.filter (inB (toI s)) (kids d n i)).length=(kids d n i).length) else true)=true ↔ (kd i=2->∃ k,k ∈ kids d n i/\k ∈ s/\∀ k' ∈ kids d n i,k' ∈ s->k'=k)/\(kd i=3->∀ k ∈ kids d n i,k ∈ s):=by
     by_cases k2:kd i=2
     ·simp [k2,h1]
     ·by_cases k3:kd i=3
      ·simp [k3,h2]
      ·simp [k2,k3]
    rw [this];simp [hp,hm]
   ·have:(if kd i=2 then decide ((List.filter (inB (toI s)) (kids d n i)).length=1) else if kd i=3 then decide ((List.filter (inB (toI s)) (kids d n i)).length=(kids d n i).length) else true)=true ↔ (kd i=2->∃ k,k ∈ kids d n i/\k ∈ s/\∀ k' ∈ kids d n i,k' ∈ s->k'=k)/\(kd i=3->∀ k ∈ kids d n i,k ∈ s):=by
     by_cases k2:kd i=2
     ·simp [k2,h1]
     ·by_cases k3:kd i=3
      ·simp [k3,h2]
      ·simp [k2,k3]
    rw [this];have hne:¬ (p:Int) = -1:=by omega
    have hq:∀ q:Nat,(p:Int)=(q:Int) ↔ p=q:=fun q=>by omega
    simp [hp,hm,hne,mem_toI,hq]
  ·rw [if_neg hm];simp [hm,hn]
 constructor
 ·rintro ⟨⟨h1,h2,h3⟩,h4⟩;have h5:=fun i hi=>(hst (fun x hx=>(h3 x hx).1) i hi).1 (h4 i (List.mem_range.2 hi))
  refine ⟨h1,fun i hi=>h3 i (by simpa using hi),fun i hi hd=>by simpa using (h5 i hi).1 hd,fun i hi p hp=>?_,fun i hi hk=>?_,fun i hi hk k hkk=>?_⟩
  ·have hi':i ∈ s:=by simpa using hi
   simpa using (h5 i (h3 i hi').1).2.1 hi' p hp
  ·have hi':i ∈ s:=by simpa using hi
   obtain ⟨k,a,b,c⟩:=(h5 i (h3 i hi').1).2.2.1 hi' hk;exact ⟨k,a,by simpa using b,fun k' hk' hS=>c k' hk' (by simpa using hS)⟩
  ·have hi':i ∈ s:=by simpa using hi
   simpa using (h5 i (h3 i hi').1).2.2.2 hi' hk k hkk
 ·rintro ⟨h1,hL⟩;have h3:∀ x ∈ s,x < n/\¬ pastP (kd x):=fun x hx=>hL.lt x (by simpa using hx)
  refine ⟨⟨h1,fun x _=>by omega,h3⟩,fun i hi=>?_⟩;refine (hst (fun x hx=>(h3 x hx).1) i (List.mem_range.1 hi)).2 ⟨fun hd=>by simpa using hL.top i (List.mem_range.1 hi) hd,fun hm p hp=>by simpa using hL.up i (by simpa using hm) p hp,fun hm hk=>?_,fun hm hk k hkk=>by simpa using hL.both i (by simpa using hm) hk k hkk⟩;obtain ⟨k,a,b,c⟩:=hL.one i (by simpa using hm) hk;exact ⟨k,a,by simpa using b,fun k' hk' hS=>c k' hk' (by simpa using hS)⟩
theorem filter_rising (S:Nat->Bool):((List.range n).filter S).Pairwise (· < ·):=List.Pairwise.filter _ List.pairwise_lt_range
theorem LegS.congr {S T:Nat->Bool} (h:LegS d kd n S) (e:∀ i,S i=T i):LegS d kd n T:=by
 have:S=T:=funext e;exact this ▸ h
theorem legal_filter (h:Nst d n) {S:Nat->Bool} (hL:LegS d kd n S):legalB d kd n (toI ((List.range n).filter S))=true :=
 (legal_iff h).2 ⟨filter_rising S,hL.congr fun i=>by
  rw [Bool.eq_iff_iff,decide_eq_true_eq,List.mem_filter,List.mem_range];exact ⟨fun hs=>⟨(hL.lt i hs).1,hs⟩,fun hs=>hs.2⟩⟩
def leafB (k:Int):Bool:=decide (k=1) || decide (k=4)
end
end Go.Proofs.YtcnfcililiehlaaGreatDoor.Tr
namespace Go.Proofs.YtcnfcililiehlaaGreatDoor.Tr
section
variable {d kd:Nat->Int} {n:Nat}
theorem kid_lt {i k:Nat} (h:k ∈ kids d n i):i < k/\k < n:=by
 obtain ⟨h1,h2⟩:=mem_kids.1 h;rcases par_cases d k with e | ⟨p,e,hp⟩
 ·omega
 ·omega
def onB (f:List Bool) (j:Nat):Bool:=f[j]?.getD false
def real (d kd:Nat->Int) (n i:Nat):List Nat:=(kids d n i).filter fun k=>!decide (pastP (kd k))
def setAll (f:List Bool) (ks:List Nat):List Bool:=ks.foldl (fun f k=>f.set k true) f
def choice (ps:List Nat) (m:Nat):Nat:=if ps=[] then 0 else ps[m % ps.length]?.getD 0
def someS (d kd:Nat->Int) (n:Nat) (ps:List Nat) (i:Nat) (s:List Bool × Nat):List Bool × Nat :=
 let f:=if d i=0 then s.1.set i true else s.1
 if onB f i=false then (f,s.2) else
  if kd i=3 then (setAll f (real d kd n i),s.2)
  else if kd i=2 then (f.set ((real d kd n i)[choice ps s.2 % (real d kd n i).length]?.getD 0) true,s.2+1)
  else (f,s.2)
def someF (d kd:Nat->Int) (n:Nat) (ps:List Nat):Nat->List Bool × Nat
 | 0=>(List.replicate n false,0)
 | i+1=>someS d kd n ps i (someF d kd n ps i)
def someL (d kd:Nat->Int) (n:Nat) (ps:List Nat):List Nat:=(List.range n).filter (onB (someF d kd n ps n).1)
theorem onB_set {f:List Bool} {k j:Nat} (h:k < f.length):onB (f.set k true) j=(decide (k=j) || onB f j):=by
 unfold onB;rw [List.getElem?_set];by_cases e:k=j
 ·subst e;simp [h]
 ·simp [e]
theorem setAll_len (ks:List Nat):∀ f,(setAll f ks).length=f.length:=by
 induction ks with
 | nil=>intro f;rfl
 | cons k r ih=>intro f;exact (ih (f.set k true)).trans (by simp)
theorem onB_setAll:∀ (ks:List Nat) (f:List Bool) (j:Nat),(∀ k ∈ ks,k < f.length)->onB (setAll f ks) j=(decide (j ∈ ks) || onB f j)
 | [],f,j,_=>by simp [setAll]
 | k :: r,f,j,h=>by
  have:setAll f (k :: r)=setAll (f.set k true) r:=rfl;rw [this,onB_setAll r _ j (fun x hx=>by simpa using h x (List.mem_cons_of_mem _ hx)),onB_set (h k (List.mem_cons_self ..))];by_cases e:k=j
  ·subst e;simp
  ·have:¬ j=k:=fun h=>e h.symm
   simp [e,this]
structure SomeI (d kd:Nat->Int) (n i:Nat) (f:List Bool):Prop where
 len:f.length=n
 lo:∀ j,onB f j=true->(j < i/\d j=0)\/∃ p,p < i/\par d j=((p:Nat):Int)/\onB f p=true
 top:∀ j,j < i->d j=0->onB f j=true
 both:∀ p,p < i->onB f p=true->kd p=3->∀ k ∈ kids d n p,onB f k=true
 one:∀ p,p < i->onB f p=true->kd p=2->∃ k,k ∈ kids d n p/\onB f k=true/\∀ k' ∈ kids d n p,onB f k'=true->k'=k
 lt:∀ j,onB f j=true->j < n/\¬ pastP (kd j)
theorem someS_inv (hR:RightP d kd n) {ps:List Nat} {i:Nat} (hi:i < n) {s:List Bool × Nat} (h:SomeI d kd n i s.1):SomeI d kd n (i+1) (someS d kd n ps i s).1:=by
 obtain ⟨f,hf⟩:∃ f,f=(if d i=0 then s.1.set i true else s.1):=⟨_,rfl⟩
 have hlen:f.length=n:=by rw [hf];split <;> simp [h.len]
 have hon:∀ j,onB f j=true ↔ onB s.1 j=true\/(j=i/\d i=0):=fun j=>by
  rw [hf];by_cases e:d i=0
  ·rw [if_pos e,onB_set (by rw [h.len];exact hi)];rw [Bool.or_eq_true,decide_eq_true_eq];exact ⟨fun h=>h.elim (fun a=>Or.inr ⟨a.symm,e⟩) Or.inl,fun h=>h.elim Or.inr fun a=>Or.inl a.1.symm⟩
  ·rw [if_neg e];simp [e]
 have hkno:∀ k,par d k=(i:Int)->onB f k=false:=fun k hk=>by
  rw [Bool.eq_false_iff];intro hh;rcases (hon k).1 hh with g | ⟨g,g0⟩
  ·rcases h.lo k g with ⟨a,b⟩ | ⟨p,a,b,_⟩
   ·have:=(hR.nst.par_neg (by omega)).2 b;omega
   ·omega
  ·subst g;have:=(hR.nst.par_neg hi).2 g0;omega
 have hnk:∀ p,p < i->∀ k ∈ kids d n p,onB f k=onB s.1 k:=fun p hp k hk=>by
  obtain ⟨m1,m2⟩:=mem_kids.1 hk;rw [Bool.eq_iff_iff,hon];constructor
  ·rintro (g | ⟨g,g0⟩)
   ·exact g
   ·subst g;have:=(hR.nst.par_neg hi).2 g0;omega
  ·exact Or.inl
 have hb:∀ p,p < i->onB f p=true->onB s.1 p=true:=fun p hp hh=>by
  rcases (hon p).1 hh with g | ⟨g,_⟩
  ·exact g
  ·omega
 have hmono:∀ j,onB s.1 j=true->onB f j=true:=fun j hj=>(hon j).2 (Or.inl hj)
 have hstep:(someS d kd n ps i s).1=(if onB f i=false then f else if kd i=3 then setAll f (real d kd n i) else if kd i=2 then f.set ((real d kd n i)[choice ps s.2 % (real d kd n i).length]?.getD 0) true else f):=by
  unfold someS;rw [<- hf];by_cases e1:onB f i=false
  ·simp [e1]
  ·by_cases e3:kd i=3
   ·simp [e1,e3]
   ·by_cases e2:kd i=2
    ·simp [e1,e2]
    ·simp [e1,e2,e3]
 have hreal:kd i=3\/kd i=2->∃ k,k ∈ real d kd n i:=fun hk=>by
  obtain ⟨k,a,b⟩:=(hR.fil i hi).2.2 (by unfold parentP;omega);exact ⟨k,List.mem_filter.2 ⟨a,by simp [b]⟩⟩
 have hrm:∀ k,k ∈ real d kd n i ↔ k ∈ kids d n i/\¬ pastP (kd k):=fun k=>by unfold real;rw [List.mem_filter];simp
 have key:∃ A:List Nat,(∀ j,onB (someS d kd n ps i s).1 j=true ↔ onB f j=true\/j ∈ A)/\(someS d kd n ps i s).1.length=n/\(∀ k ∈ A,k ∈ real d kd n i)/\(∀ k ∈ A,onB f i=true) /\
  (onB f i=true->kd i=3->∀ k ∈ real d kd n i,k ∈ A)/\(onB f i=true->kd i=2->∃ k,A=[k]):=by
  rw [hstep];by_cases e1:onB f i=false
  ·refine ⟨[],?_,?_,by simp,by simp,by simp [e1],by simp [e1]⟩
   ·intro j;simp [e1]
   ·simp [e1,hlen]
  ·rw [if_neg e1];by_cases e3:kd i=3
   ·rw [if_pos e3];refine ⟨real d kd n i,fun j=>?_,by rw [setAll_len,hlen],fun k hk=>hk,fun _ _=>by simpa using e1,fun _ _ k hk=>hk,fun _ h2=>by omega⟩;rw [onB_setAll _ _ _ fun k hk=>by rw [hlen];exact (mem_kids.1 ((hrm k).1 hk).1).1];simp [or_comm]
   ·rw [if_neg e3];by_cases e2:kd i=2
    ·rw [if_pos e2];obtain ⟨k0,hk0⟩:=hreal (Or.inr e2);have hpos:0 < (real d kd n i).length:=List.length_pos_of_mem hk0;have hlt:=Nat.mod_lt (choice ps s.2) hpos;obtain ⟨x,hx⟩:∃ x,x=(real d kd n i)[choice ps s.2 % (real d kd n i).length]?.getD 0:=⟨_,rfl⟩
     have hxm:x ∈ real d kd n i:=by
      rw [hx,List.getElem?_eq_getElem hlt];exact List.getElem_mem _
     rw [<- hx];refine ⟨[x],fun j=>?_,by simp [hlen],fun k hk=>by rw [List.mem_singleton.1 hk];exact hxm,fun _ _=>by simpa using e1,fun _ h3=>by omega,fun _ _=>⟨x,rfl⟩⟩;rw [onB_set (by rw [hlen];exact (mem_kids.1 ((hrm x).1 hxm).1).1)];rw [Bool.or_eq_true,decide_eq_true_eq,List.mem_singleton];exact ⟨fun h=>h.elim (fun a=>Or.inr a.symm) Or.inl,fun h=>h.elim Or.inr fun a=>Or.inl a.symm⟩
    ·rw [if_neg e2];exact ⟨[],fun j=>by simp,hlen,by simp,by simp,fun _ h3=>absurd h3 e3,fun _ h2=>absurd h2 e2⟩
 obtain ⟨A,hA,hl,hAr,hAi,hA3,hA2⟩:=key;obtain ⟨g,hg⟩:∃ g,g=(someS d kd n ps i s).1:=⟨_,rfl⟩
 rw [<- hg] at hA hl ⊢;have hAk:∀ k ∈ A,k ∈ kids d n i/\¬ pastP (kd k):=fun k hk=>(hrm k).1 (hAr k hk)
 have hgf:∀ p,p<=i->onB g p=true->onB f p=true:=fun p hp hh=>by
  rcases (hA p).1 hh with a | a
  ·exact a
  ·have:=(kid_lt (hAk p a).1).1;omega
 have hgk:∀ p,p < i->∀ k ∈ kids d n p,onB g k=onB f k:=fun p hp k hk=>by
  rw [Bool.eq_iff_iff,hA];constructor
  ·rintro (a | a)
   ·exact a
   ·have h1:=(mem_kids.1 hk).2;have h2:=(mem_kids.1 (hAk k a).1).2;omega
  ·exact Or.inl
 refine ⟨hl,fun j hj=>?_,fun j hj h0=>?_,fun p hp hon' hk k hkk=>?_,fun p hp hon' hk=>?_,fun j hj=>?_⟩
 ·rcases (hA j).1 hj with a | a
  ·rcases (hon j).1 a with b | ⟨b,b0⟩
   ·rcases h.lo j b with ⟨c1,c2⟩ | ⟨p,c1,c2,c3⟩
    ·exact Or.inl ⟨by omega,c2⟩
    ·exact Or.inr ⟨p,by omega,c2,(hA p).2 (Or.inl (hmono p c3))⟩
   ·exact Or.inl ⟨by omega,by rw [b];exact b0⟩
  ·exact Or.inr ⟨i,by omega,(mem_kids.1 (hAk j a).1).2,(hA i).2 (Or.inl (hAi j a))⟩
 ·by_cases e:j=i
  ·subst e;exact (hA j).2 (Or.inl ((hon j).2 (Or.inr ⟨rfl,h0⟩)))
  ·exact (hA j).2 (Or.inl (hmono j (h.top j (by omega) h0)))
 ·by_cases e:p=i
  ·subst e;have hf':=hgf p (by omega) hon';refine (hA k).2 (Or.inr (hA3 hf' hk k ((hrm k).2 ⟨hkk,?_⟩)));rcases (hR.fil p hi).1 k hkk with m | m
   ·omega
   ·unfold pastP;omega
  ·have hlt:p < i:=by omega
   rw [hgk p hlt k hkk,hnk p hlt k hkk];exact h.both p hlt (hb p hlt (hgf p (by omega) hon')) hk k hkk
 ·by_cases e:p=i
  ·subst e;have hf':=hgf p (by omega) hon';obtain ⟨x,hx⟩:=hA2 hf' hk;have hxm:x ∈ A:=by rw [hx];simp
   refine ⟨x,(hAk x hxm).1,(hA x).2 (Or.inr hxm),fun k' hk' hh=>?_⟩;rcases (hA k').1 hh with a | a
   ·rw [hkno k' (mem_kids.1 hk').2] at a;cases a
   ·rw [hx] at a;exact List.mem_singleton.1 a
  ·have hlt:p < i:=by omega
   obtain ⟨x,h1,h2,h3⟩:=h.one p hlt (hb p hlt (hgf p (by omega) hon')) hk;exact ⟨x,h1,by rw [hgk p hlt x h1,hnk p hlt x h1];exact h2,fun k' hk' hh=>h3 k' hk' (by rw [hgk p hlt k' hk',hnk p hlt k' hk'] at hh;exact hh)⟩
 ·rcases (hA j).1 hj with a | a
  ·rcases (hon j).1 a with b | ⟨b,b0⟩
   ·exact h.lt j b
   ·subst b;refine ⟨hi,?_⟩;rw [(hR.fine j hi).region b0];decide
  ·exact ⟨(kid_lt (hAk j a).1).2,(hAk j a).2⟩
theorem onB_rep (n j:Nat):onB (List.replicate n false) j=false:=by
 unfold onB;rw [List.getElem?_replicate];split <;> rfl
theorem someF_inv (hR:RightP d kd n) {ps:List Nat}:∀ i,i<=n->SomeI d kd n i (someF d kd n ps i).1
 | 0,_=>by
  have hz:∀ j,onB (someF d kd n ps 0).1 j=false:=fun j=>onB_rep n j
  refine ⟨by simp [someF],fun j hj=>?_,fun j hj=>absurd hj (by omega),fun p hp=>absurd hp (by omega),fun p hp=>absurd hp (by omega),fun j hj=>?_⟩
  ·rw [hz] at hj;cases hj
  ·rw [hz] at hj;cases hj
 | i+1,h=>someS_inv hR (by omega) (someF_inv hR i (by omega))
theorem some_leg (hR:RightP d kd n) (ps:List Nat):LegS d kd n (onB (someF d kd n ps n).1):=by
 have h:=someF_inv hR (ps:=ps) n (Nat.le_refl _);refine ⟨h.lt,fun i hi h0=>h.top i hi h0,fun i hi p hp=>?_,fun i hi hk=>h.one i (h.lt i hi).1 hi hk,fun i hi hk=>h.both i (h.lt i hi).1 hi hk⟩;rcases h.lo i hi with ⟨a,b⟩ | ⟨q,a,b,c⟩
 ·have:=(hR.nst.par_neg a).2 b;omega
 ·have:p=q:=by omega
  exact this ▸ c
end
end Go.Proofs.YtcnfcililiehlaaGreatDoor.Tr
namespace Go.Proofs.YtcnfcililiehlaaGreatDoor.Tr
section
variable {d kd:Nat->Int} {n:Nat}
def rowK (kd:Nat->Int) (n:Nat) (a:Int) (l:List Int) (k:Nat):Bool :=
 decide ((a :: l).getD k 0 < l.getD k 0) && (decide (l.getD k 0 < (n:Int)) && !decide (pastP (kd (l.getD k 0).toNat)))
theorem isRow_all:∀ (l:List Int) (a:Int),isRow kd n a l=true ↔ ∀ k,k < l.length->rowK kd n a l k=true
 | [],a=>by simp [isRow]
 | b :: l,a=>by
  rw [isRow,Bool.and_eq_true,Bool.and_eq_true,Bool.and_eq_true,isRow_all l b];constructor
  ·rintro ⟨h1,h2,h3,h4⟩ k hk;cases k with
   | zero=>unfold rowK;simp only [Bool.and_eq_true];exact ⟨h1,h2,h3⟩
   | succ k=>exact h4 k (by simpa using hk)
  ·intro h;have h0:=h 0 (by simp);unfold rowK at h0;simp only [Bool.and_eq_true] at h0;exact ⟨h0.1,h0.2.1,h0.2.2,fun k hk=>h (k+1) (by simpa using hk)⟩
theorem isRow_no {l:List Int} {a:Int} {k:Nat} (hk:k < l.length) (h:rowK kd n a l k=false):isRow kd n a l=false:=by
 rw [Bool.eq_false_iff];intro hh;rw [(isRow_all l a).1 hh k hk] at h;cases h
theorem row_lo {l:List Int} {a:Int}:∀ k,(∀ j,j < k->rowK kd n a l j=true)->k<=l.length->a<=(a :: l).getD k 0
 | 0,_,_=>by simp
 | k+1,h,hk=>by
  have h1:=row_lo k (fun j hj=>h j (by omega)) (by omega);have h2:=h k (by omega);unfold rowK at h2;simp only [Bool.and_eq_true,decide_eq_true_eq] at h2;have:(a :: l).getD (k+1) 0=l.getD k 0:=rfl;omega
theorem legal_rows {l:List Int} (h:legalB d kd n l=true):isRow kd n (-1) l=true/\∀ i,i < n->standB d kd n l i=true:=by
 unfold legalB at h;rw [Bool.and_eq_true,List.all_eq_true] at h;exact ⟨h.1,fun i hi=>h.2 i (List.mem_range.2 hi)⟩
theorem legal_no {l:List Int} {i:Nat} (hi:i < n) (h:standB d kd n l i=false):legalB d kd n l=false:=by
 rw [Bool.eq_false_iff];intro hh;rw [(legal_rows hh).2 i hi] at h;cases h
theorem row_nat {l:List Int} (h:isRow kd n (-1) l=true):∃ s:List Nat,l=toI s:=by
 have:∀ (l:List Int) (a:Int),-1<=a->isRow kd n a l=true->∃ s:List Nat,l=toI s:=by
  intro l
  induction l with
  | nil=>exact fun _ _ _=>⟨[],rfl⟩
  | cons b r ih =>
   intro a ha h;rw [isRow,Bool.and_eq_true,Bool.and_eq_true,Bool.and_eq_true] at h;simp only [decide_eq_true_eq] at h;obtain ⟨s,hs⟩:=ih b (by omega) h.2.2.2;exact ⟨b.toNat :: s,by rw [hs];show _=((b.toNat:Nat):Int) :: toI s;rw [Int.toNat_of_nonneg (by omega)]⟩
 exact this l (-1) (by omega) h
end
end Go.Proofs.YtcnfcililiehlaaGreatDoor.Tr
