import Derived.Test.YtcnfcililiehlaaGreatDoorR1
import Derived.Test.YtcnfcililiehlaaGreatDoorR2
import Derived.Test.YtcnfcililiehlaaGreatDoorR3
import Derived.Test.YtcnfcililiehlaaGreatDoorR4
import Derived.Test.YtcnfcililiehlaaGreatDoorR5
import Derived.Test.YtcnfcililiehlaaGreatDoorR6
import Derived.Test.YtcnfcililiehlaaGreatDoorR7
import Derived.Test.YtcnfcililiehlaaGreatDoorR8
import Derived.Test.YtcnfcililiehlaaGreatDoorR9
import Derived.Test.YtcnfcililiehlaaGreatDoorR10
import Derived.Test.YtcnfcililiehlaaGreatDoorR11
import Derived.Test.YtcnfcililiehlaaGreatDoorR12
import Derived.Test.YtcnfcililiehlaaGreatDoorR13
import Derived.Test.YtcnfcililiehlaaGreatDoorR14
import Derived.Test.YtcnfcililiehlaaGreatDoorR15
import Derived.Test.YtcnfcililiehlaaGreatDoorR16
import Derived.Test.YtcnfcililiehlaaGreatDoorR17
import Derived.Test.YtcnfcililiehlaaGreatDoorR18
import Derived.Test.YtcnfcililiehlaaGreatDoorR19
import Derived.Test.YtcnfcililiehlaaGreatDoorR20
import Derived.Test.YtcnfcililiehlaaGreatDoorR21
import Derived.Test.YtcnfcililiehlaaGreatDoorR22
import Derived.Test.YtcnfcililiehlaaGreatDoorR23
import Derived.Test.YtcnfcililiehlaaGreatDoorR24
import Derived.Test.YtcnfcililiehlaaGreatDoorR25
import Derived.Test.YtcnfcililiehlaaGreatDoorR26
import Derived.Test.YtcnfcililiehlaaGreatDoorR27
import Derived.Test.YtcnfcililiehlaaGreatDoorR28
import Derived.Test.YtcnfcililiehlaaGreatDoorR29
import Derived.Test.YtcnfcililiehlaaGreatDoorR30
import Derived.Test.YtcnfcililiehlaaGreatDoorR31
import Derived.Test.YtcnfcililiehlaaGreatDoorR32
import Derived.Test.YtcnfcililiehlaaGreatDoorR33
import Derived.Test.YtcnfcililiehlaaGreatDoorR34
import Derived.Test.YtcnfcililiehlaaGreatDoorR35
import Derived.Test.YtcnfcililiehlaaGreatDoorR36
import Derived.Test.YtcnfcililiehlaaGreatDoorQX1
import Derived.Test.YtcnfcililiehlaaGreatDoorQX2
import Derived.Test.YtcnfcililiehlaaGreatDoorQX3
import Derived.Test.YtcnfcililiehlaaGreatDoorQX4
import Derived.IntWalk
namespace Go.Proofs.YtcnfcililiehlaaGreatDoor.Tr
section
variable {d kd:Nat->Int} {n:Nat}
end
end Go.Proofs.YtcnfcililiehlaaGreatDoor.Tr
namespace Go.Proofs.YtcnfcililiehlaaGreatDoor.Ch.Vd
open Go.RowKit
theorem past_q (k:Int) (W:World):Calls Tryz.prog 36 #[.int .i64 k] W fun e w'=>e=.returned (.bool (decide (Tr.pastP k)))/\∃ r,w'=W.drewN r :=
 (Tr.past_any k W).mono fun _ _ ⟨h1,h2⟩=>⟨h1,0,h2 ▸ rfl⟩
end Go.Proofs.YtcnfcililiehlaaGreatDoor.Ch.Vd
namespace Go.Proofs.YtcnfcililiehlaaGreatDoor.Ch.Vd
open Go.RowKit
set_option maxRecDepth 100000
def RzR (l:List Int) (v:Value) (W:World):Prop:=Tr.RdZ W v l
theorem RzR.keeps (l:List Int):Oy.KeepsD (fun _ v W=>RzR l v W):=fun _ _ _ _ h hb=>Tr.RdZ.below h hb
end Go.Proofs.YtcnfcililiehlaaGreatDoor.Ch.Vd
