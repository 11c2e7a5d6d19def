/- Own texts, joined: Zd. -/
import Derived.Test.YtgjeofaedidnpaaGreatDoorR8
import Derived.Test.YtgjeofaedidnpaaGreatDoorR22
namespace Go.Proofs.YtgjeofaedidnpaaGreatDoor.Ch
instance : DecidableEq VM := fun x y => decidable_of_iff (x.nm = y.nm /\ x.kd = y.kd /\ x.lo = y.lo /\ x.hi = y.hi /\ x.ik = y.ik /\ x.ia = y.ia /\ x.ib = y.ib) (by cases x; cases y; simp)
instance : DecidableEq SC := fun x y => decidable_of_iff (x.nm = y.nm /\ x.kd = y.kd /\ x.dp = y.dp /\ x.ini = y.ini /\ x.en = y.en /\ x.ex = y.ex) (by cases x; cases y; simp)
instance : DecidableEq TC := fun x y => decidable_of_iff (x.fr = y.fr /\ x.ev = y.ev /\ x.gd = y.gd /\ x.to = y.to /\ x.ac = y.ac) (by cases x; cases y; simp)
instance : DecidableEq CH := fun x y => decidable_of_iff (x.nm = y.nm /\ x.es = y.es /\ x.vs = y.vs /\ x.ss = y.ss /\ x.ts = y.ts) (by cases x; cases y; simp)
end Go.Proofs.YtgjeofaedidnpaaGreatDoor.Ch
