import Derived.Test.YtcnfcililiehlaaGreatDoorR1
import Derived.Test.YtcnfcililiehlaaGreatDoorR2
import Derived.Test.YtcnfcililiehlaaGreatDoorR3
import Derived.Test.YtcnfcililiehlaaGreatDoorR4
import Derived.Test.YtcnfcililiehlaaGreatDoorR5
import Derived.Test.YtcnfcililiehlaaGreatDoorR6
import Derived.Test.YtcnfcililiehlaaGreatDoorR7
import Derived.Test.YtcnfcililiehlaaGreatDoorR8
import Derived.Test.YtcnfcililiehlaaGreatDoorR9
import Derived.Test.YtcnfcililiehlaaGreatDoorR10
import Derived.Test.YtcnfcililiehlaaGreatDoorR11
import Derived.Test.YtcnfcililiehlaaGreatDoorR12
import Derived.Test.YtcnfcililiehlaaGreatDoorR13
import Derived.Test.YtcnfcililiehlaaGreatDoorR14
import Derived.Test.YtcnfcililiehlaaGreatDoorR15
import Derived.Test.YtcnfcililiehlaaGreatDoorR16
import Derived.Test.YtcnfcililiehlaaGreatDoorR17
import Derived.Test.YtcnfcililiehlaaGreatDoorR18
import Derived.Test.YtcnfcililiehlaaGreatDoorR19
import Derived.Test.YtcnfcililiehlaaGreatDoorR20
import Derived.Test.YtcnfcililiehlaaGreatDoorR21
import Derived.Test.YtcnfcililiehlaaGreatDoorR22
import Derived.Test.YtcnfcililiehlaaGreatDoorR23
import Derived.Test.YtcnfcililiehlaaGreatDoorR24
import Derived.Test.YtcnfcililiehlaaGreatDoorR25
import Derived.Test.YtcnfcililiehlaaGreatDoorR26
import Derived.Test.YtcnfcililiehlaaGreatDoorR27
import Derived.Test.YtcnfcililiehlaaGreatDoorR28
import Derived.Test.YtcnfcililiehlaaGreatDoorR29
import Derived.Test.YtcnfcililiehlaaGreatDoorR30
import Derived.Test.YtcnfcililiehlaaGreatDoorR31
import Derived.Test.YtcnfcililiehlaaGreatDoorR32
import Derived.Test.YtcnfcililiehlaaGreatDoorR33
import Derived.Test.YtcnfcililiehlaaGreatDoorR34
import Derived.Test.YtcnfcililiehlaaGreatDoorR35
import Derived.Test.YtcnfcililiehlaaGreatDoorR36
import Derived.Test.YtcnfcililiehlaaGreatDoorQX1
import Derived.Test.YtcnfcililiehlaaGreatDoorQX2
import Derived.Test.YtcnfcililiehlaaGreatDoorQX3
import Derived.Test.YtcnfcililiehlaaGreatDoorQX4
import Derived.Test.YtcnfcililiehlaaGreatDoorQX5
import Derived.Test.YtcnfcililiehlaaGreatDoorQX6
namespace Go.Proofs.YtcnfcililiehlaaGreatDoor.Ch.Vd
open Go.RowKit
set_option maxRecDepth 100000
theorem cellsU810:Tryz.prog.cellsOf 5=1:=by kernel_rfl
theorem bytesU810:Tryz.prog.bytesOf 5=1:=by kernel_rfl
theorem weigh10 {H:Type} {ts:List TypeId} {ds:List (DataW H)} (hsz:(DataW.weightsEach Tryz.prog ts ds).all (·<=reachBytes)=true) {j:Nat} {t:TypeId} {d:DataW H} (ht:ts[j]?=some t) (hd:ds[j]?=some d):∀ x ∈ d.weights Tryz.prog t,x<=140737488355328:=fun x hx=>by
 have:=List.all_eq_true.1 hsz _ (DataW.weights_mem_each ht hd x hx);unfold reachBytes at this;simp at this;omega
theorem u8s10 {H:Type} {enc:TypeId × Value->H} {W:World} {n:Nat} {v:Value} {y:DataW H × List MemPlace} (h:DataW.trod enc Tryz.prog W 0 (fun _=>true) true n 37 [v]=some y) (hw:∀ x ∈ y.1.weights Tryz.prog 37,x<=140737488355328) :
 ∃ ps:List Nat,PsIn W v ps:=by
 obtain ⟨rows,h1,h2,_⟩:=open_rows Tryz.underlying37 cellsU810 (by decide) h;rcases h2 with ⟨_,rfl⟩ | ⟨es,sp,hy,hl,hr⟩
 ·exact ⟨[],h1,(fun p hp=>by cases hp),Nat.zero_le _⟩
 ·rw [hy] at hw;simp only [DataW.weights,Tryz.underlying37,List.mem_cons,List.mem_append] at hw;obtain ⟨l,rfl,hl2⟩:=rows_at (fun p:Nat=>[Value.int .u8 (p:Int)]) (fun _ (p:Nat)=>p < 256) rows 0 (fun i r hir=>by
   obtain ⟨k,d,q,he,ht⟩:=hr i r hir;obtain ⟨z,h0,_,hwf⟩:=DataW.trod_int Tryz.underlying5 ht;have m1:IntKind.u8.min=0:=by kernel_rfl
   have m2:IntKind.u8.max=255:=by kernel_rfl
   simp only [Lit.wf,m1,m2,Bool.and_eq_true,decide_eq_true_eq] at hwf;exact ⟨z.toNat,by rw [h0,Int.toNat_of_nonneg hwf.1],by omega⟩)
  have hf:(l.map (fun p:Nat=>[Value.int .u8 (p:Int)])).flatten=kvB l:=by
   clear h1 hl hr hy hw hl2;unfold kvB
   induction l with
   | nil=>rfl
   | cons x r ih=>simpa using ih
  rw [hf,List.length_map] at h1;refine ⟨l,h1,fun p hp=>?_,?_⟩
  ·obtain ⟨i,hi⟩:=List.getElem?_of_mem hp;exact hl2 i p hi
  ·have hm:=hw ((es.length+sp.length) * Tryz.prog.bytesOf 5) (Or.inl rfl);rw [bytesU810] at hm;rw [List.length_map] at hl;omega
theorem PsIn.below {w w':World} {u:Value} {ps:List Nat} (h:PsIn w u ps) (hb:Below w.heap.size w w'):PsIn w' u ps:=⟨h.inn.below hb,h.lt,h.len⟩
end Go.Proofs.YtcnfcililiehlaaGreatDoor.Ch.Vd
