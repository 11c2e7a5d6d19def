import Derived.Test.YtcnfcililiehlaaGreatDoorR1
import Derived.Test.YtcnfcililiehlaaGreatDoorR2
import Derived.Test.YtcnfcililiehlaaGreatDoorR3
import Derived.Test.YtcnfcililiehlaaGreatDoorR4
import Derived.Test.YtcnfcililiehlaaGreatDoorR5
import Derived.Test.YtcnfcililiehlaaGreatDoorR6
import Derived.Test.YtcnfcililiehlaaGreatDoorR7
import Derived.Test.YtcnfcililiehlaaGreatDoorR8
import Derived.Test.YtcnfcililiehlaaGreatDoorR9
import Derived.Test.YtcnfcililiehlaaGreatDoorR10
import Derived.Test.YtcnfcililiehlaaGreatDoorR11
import Derived.Test.YtcnfcililiehlaaGreatDoorR12
import Derived.Test.YtcnfcililiehlaaGreatDoorR13
import Derived.Test.YtcnfcililiehlaaGreatDoorR14
import Derived.Test.YtcnfcililiehlaaGreatDoorR15
import Derived.Test.YtcnfcililiehlaaGreatDoorR16
import Derived.Test.YtcnfcililiehlaaGreatDoorR17
import Derived.Test.YtcnfcililiehlaaGreatDoorR18
import Derived.Test.YtcnfcililiehlaaGreatDoorR19
import Derived.Test.YtcnfcililiehlaaGreatDoorR20
import Derived.Test.YtcnfcililiehlaaGreatDoorR21
import Derived.Test.YtcnfcililiehlaaGreatDoorR22
import Derived.Test.YtcnfcililiehlaaGreatDoorR23
import Derived.Test.YtcnfcililiehlaaGreatDoorR24
import Derived.Test.YtcnfcililiehlaaGreatDoorR25
import Derived.Test.YtcnfcililiehlaaGreatDoorR26
import Derived.Test.YtcnfcililiehlaaGreatDoorR27
import Derived.Test.YtcnfcililiehlaaGreatDoorR28
import Derived.Test.YtcnfcililiehlaaGreatDoorR29
import Derived.Test.YtcnfcililiehlaaGreatDoorR30
import Derived.Test.YtcnfcililiehlaaGreatDoorR31
import Derived.Test.YtcnfcililiehlaaGreatDoorR32
import Derived.Test.YtcnfcililiehlaaGreatDoorR33
import Derived.Test.YtcnfcililiehlaaGreatDoorR34
import Derived.Test.YtcnfcililiehlaaGreatDoorR35
import Derived.Test.YtcnfcililiehlaaGreatDoorR36
import Derived.Test.YtcnfcililiehlaaGreatDoorQX1
import Derived.Test.YtcnfcililiehlaaGreatDoorQX2
import Derived.Test.YtcnfcililiehlaaGreatDoorQX3
import Derived.Test.YtcnfcililiehlaaGreatDoorQX4
import Derived.Test.YtcnfcililiehlaaGreatDoorQX5
import Derived.Test.YtcnfcililiehlaaGreatDoorQX6
import Derived.Test.YtcnfcililiehlaaGreatDoorQX7
import Derived.Deep.AppendLies
import Derived.Deep.RegionLaw
namespace Go.Proofs.YtcnfcililiehlaaGreatDoor.Ch.Vd
open Go.RowKit
theorem one_str10 (w:World) (v:Value) (t:TypeId):∀ j u,[v][j]?=some u->(w.alloc (.cells #[v] t)).cell? ((⟨w.heap.size,0,none⟩:Addr).add j)=some u:=by
 intro j u h;obtain rfl:j=0:=by
  rcases j with _ | j
  ·rfl
  ·simp at h
 simp at h;subst h;simp [Addr.add]
end Go.Proofs.YtcnfcililiehlaaGreatDoor.Ch.Vd
namespace Go.Proofs.YtcnfcililiehlaaGreatDoor.Ch.Vd
open Go.RowKit
theorem own_later10 {w w1:World} {base:Nat} {e:TypeId} {size n:Nat} {v:Value} {xs:List Value} (h:w.ownsRow base e size v n xs) (hb:Below w.heap.size w w1):w1.ownsRow base e size v n xs :=
 h.kept ⟨hb.os,hb.tape,hb.output,hb.size,fun k hk _=>hb.block k hk⟩ (by cases hv:v.ownBlock with
  | none=>exact Or.inl rfl
  | some k=>exact Or.inr (by simp):v.ownBlock=none\/v.ownBlock ≠ none)
end Go.Proofs.YtcnfcililiehlaaGreatDoor.Ch.Vd
namespace Go.Proofs.YtcnfcililiehlaaGreatDoor.Tr
section
variable {d kd:Nat->Int} {n:Nat}
def rootF (d:Nat->Int):Nat->Nat
 | 0=>0
 | k+1=>if d (k+1)=0 then k+1 else rootF d k
theorem rootF_spec (d:Nat->Int):∀ k,rootF d k<=k/\(∀ m,rootF d k < m->m<=k->d m ≠ 0)/\(rootF d k ≠ 0->d (rootF d k)=0)
 | 0=>⟨Nat.le_refl _,fun m h1 h2=>by omega,fun h=>absurd rfl h⟩
 | k+1=>by
  unfold rootF;by_cases h:d (k+1)=0
  ·rw [if_pos h];exact ⟨Nat.le_refl _,fun m h1 h2=>by omega,fun _=>h⟩
  ·rw [if_neg h];obtain ⟨h1,h2,h3⟩:=rootF_spec d k;refine ⟨by omega,fun m hm hk=>?_,h3⟩;by_cases e:m=k+1
   ·subst e;exact h
   ·exact h2 m hm (by omega)
theorem Nst.root_spec (h:Nst d n) {i:Nat} (hi:i < n):rootF d i<=i/\d (rootF d i)=0/\∀ m,rootF d i < m->m<=i->0 < d m:=by
 obtain ⟨h1,h2,h3⟩:=rootF_spec d i;refine ⟨h1,?_,fun m hm hk=>?_⟩
 ·by_cases e:rootF d i=0
  ·rw [e];have:=h.first (by omega);have:=h.lo 0 (by omega);omega
  ·exact h3 e
 ·have:=h2 m hm hk;have:=h.lo m (by omega);omega
theorem Nst.root_eq (h:Nst d n) {i r:Nat} (hi:i < n) (h1:r<=i) (h2:d r=0) (h3:∀ m,r < m->m<=i->0 < d m):rootF d i=r:=by
 obtain ⟨g1,g2,g3⟩:=h.root_spec hi;rcases Nat.lt_trichotomy (rootF d i) r with e | e | e
 ·have:=g3 r e h1;omega
 ·exact e
 ·have:=h3 _ e g1;omega
theorem Nst.root_par (h:Nst d n) {i p:Nat} (hi:i < n) (hp:par d i=(p:Int)):rootF d i=rootF d p:=by
 obtain ⟨e1,e2,e3⟩:=h.kid hi hp;obtain ⟨g1,g2,g3⟩:=h.root_spec (i:=p) (by omega);have:=h.lo p (by omega);refine h.root_eq hi (by omega) g2 fun m hm hk=>?_
 by_cases c:m<=p
 ·exact g3 m hm c
 ·by_cases c2:m=i
  ·subst c2;omega
  ·have:=e3 m (by omega) (by omega);omega
theorem Nst.root_zero (h:Nst d n) {i:Nat} (hi:i < n) (h0:d i=0):rootF d i=i:=h.root_eq hi (Nat.le_refl _) h0 (fun m h1 h2=>by omega)
theorem mixed_legal (hR:RightP d kd n) {S T:Nat->Bool} (hS:LegS d kd n S) (hT:LegS d kd n T) (m:Nat->Bool) :
 LegS d kd n fun i=>if m (rootF d i)=true then S i else T i:=by
 have hr:∀ {i k},k ∈ kids d n i->rootF d k=rootF d i:=fun {i k} hk=>hR.nst.root_par (mem_kids.1 hk).1 (mem_kids.1 hk).2
 refine ⟨fun i hi=>?_,fun i hi h0=>?_,fun i hi p hp=>?_,fun i hi hk=>?_,fun i hi hk k hkk=>?_⟩
 all_goals (by_cases hm:m (rootF d i)=true)
 ·rw [if_pos hm] at hi;exact hS.lt i hi
 ·rw [if_neg hm] at hi;exact hT.lt i hi
 ·rw [if_pos hm];exact hS.top i hi h0
 ·rw [if_neg hm];exact hT.top i hi h0
 ·rw [if_pos hm] at hi;rw [if_pos (by rw [<- hR.nst.root_par (hS.lt i hi).1 hp];exact hm)];exact hS.up i hi p hp
 ·rw [if_neg hm] at hi;rw [if_neg (by rw [<- hR.nst.root_par (hT.lt i hi).1 hp];exact hm)];exact hT.up i hi p hp
 ·rw [if_pos hm] at hi;obtain ⟨k,a,b,c⟩:=hS.one i hi hk;refine ⟨k,a,by rw [if_pos (by rw [hr a];exact hm)];exact b,fun k' hk' hh=>c k' hk' (by rw [if_pos (by rw [hr hk'];exact hm)] at hh;exact hh)⟩
 ·rw [if_neg hm] at hi;obtain ⟨k,a,b,c⟩:=hT.one i hi hk;refine ⟨k,a,by rw [if_neg (by rw [hr a];exact hm)];exact b,fun k' hk' hh=>c k' hk' (by rw [if_neg (by rw [hr hk'];exact hm)] at hh;exact hh)⟩
 ·rw [if_pos hm] at hi;rw [if_pos (by rw [hr hkk];exact hm)];exact hS.both i hi hk k hkk
 ·rw [if_neg hm] at hi;rw [if_neg (by rw [hr hkk];exact hm)];exact hT.both i hi hk k hkk
theorem mem_filter_range {S:Nat->Bool} (hL:LegS d kd n S) (i:Nat):decide (i ∈ (List.range n).filter S)=S i:=by
 rw [Bool.eq_iff_iff,decide_eq_true_eq,List.mem_filter,List.mem_range];exact ⟨fun h=>h.2,fun h=>⟨(hL.lt i h).1,h⟩⟩
theorem mixed_legalB (hR:RightP d kd n) (ps qs:List Nat) (m:Nat->Bool) :
 legalB d kd n (toI ((List.range n).filter fun i=>if m (rootF d i)=true then decide (i ∈ someL d kd n ps) else decide (i ∈ someL d kd n qs)))=true:=by
 refine legal_filter hR.nst ((mixed_legal hR (some_leg hR ps) (some_leg hR qs) m).congr fun i=>?_);have h1:decide (i ∈ someL d kd n ps)=onB (someF d kd n ps n).1 i:=mem_filter_range (some_leg hR ps) i;have h2:decide (i ∈ someL d kd n qs)=onB (someF d kd n qs n).1 i:=mem_filter_range (some_leg hR qs) i;rw [h1,h2]
end
end Go.Proofs.YtcnfcililiehlaaGreatDoor.Tr
