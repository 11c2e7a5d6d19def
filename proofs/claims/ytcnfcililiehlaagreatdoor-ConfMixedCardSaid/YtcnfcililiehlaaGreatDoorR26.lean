/- Own texts, joined: Po. -/
import Derived.Test.YtcnfcililiehlaaGreatDoorR2
import Derived.Test.YtcnfcililiehlaaGreatDoorR4
import Derived.Test.YtcnfcililiehlaaGreatDoorR7
import Derived.Test.YtcnfcililiehlaaGreatDoorR15
import Derived.Test.YtcnfcililiehlaaGreatDoorR18
import Derived.Test.YtcnfcililiehlaaGreatDoorR22
import Derived.Test.YtcnfcililiehlaaGreatDoorR23
import Derived.Test.YtcnfcililiehlaaGreatDoorR24
import Derived.Test.YtcnfcililiehlaaGreatDoorR25
namespace Go.Proofs.YtcnfcililiehlaaGreatDoor.Ch.Vd
open Go.RowKit
set_option maxRecDepth 100000
theorem still_low {P : Program} {f : FuncId} {args : Array Value} {w : World} {v : Value} (h : Calls P f args w fun e w' => e = .returned v /\ w = w') : Calls P f args w fun e w' => e = .returned v /\ Below w.heap.size w w' := h.mono fun _ _ ⟨he, h⟩ => ⟨he, h ▸ Below.refl _ _⟩
theorem drewn_low {P : Program} {f : FuncId} {args : Array Value} {w : World} {v : Value} (h : Calls P f args w fun e w' => e = .returned v /\ ∃ n, w' = w.drewN n) : Calls P f args w fun e w' => e = .returned v /\ Below w.heap.size w w' := h.mono fun _ _ ⟨he, n, h⟩ => ⟨he, h ▸ below_drewN (Below.refl _ _) n⟩
theorem dName (s : ByteArray) (w : World) : Calls Tryz.prog 53 #[.string s] w fun e w' => e = .returned (.bool (nameB s.data.toList)) /\ Below w.heap.size w w' := still_low (refName_any s w)
section
variable {w : World} {c : CH} {eV vV sV tV : Value} {sp : List SP} {tp : List TP}
theorem rParent (h : ChM w c eV vV sV tV sp tp) (hT : treeP c) {j : Nat} (hj : j < sp.length) :
 Calls Tryz.prog 37 #[sV, .int .i64 j] w fun e w' => e = .returned (.int .i64 (Tr.par (dC c.ss) j)) /\ Below w.heap.size w w' := by
 have := drewn_low (Tr.refParent_any sV (sp.map toT) j w h.rdT (by rw [List.length_map]; exact hj) (by have := hT.le; rw [List.length_map, h.sLen]; omega) (by rw [dp_toT h, List.length_map, h.sLen]; exact hT.nst))
 rwa [dp_toT h] at this
theorem rWithin (h : ChM w c eV vV sV tV sp tp) (hT : treeP c) {i j : Nat} (hj : j < sp.length) :
 Calls Tryz.prog 25 #[sV, .int .i64 i, .int .i64 j] w fun e w' => e = .returned (.bool (decide (Tr.wi (dC c.ss) i j))) /\ Below w.heap.size w w' := by
 have := drewn_low (Tr.refWithin_any sV (sp.map toT) i j w h.rdT (by rw [List.length_map]; exact hj) (by have := hT.le; rw [List.length_map, h.sLen]; omega) (by rw [dp_toT h, List.length_map, h.sLen]; exact hT.nst))
 rwa [dp_toT h] at this
theorem rDomain (h : ChM w c eV vV sV tV sp tp) (hT : treeP c) {i j : Nat} (hi : i < sp.length) (hj : j < sp.length) :
 Calls Tryz.prog 99 #[sV, .int .i64 i, .int .i64 j] w fun e w' => e = .returned (.int .i64 (Tr.dom (dC c.ss) (kC c.ss) i j)) /\ Below w.heap.size w w' := by
 have := drewn_low (Tr.refDomain_any sV (sp.map toT) i j w h.rdT (by rw [List.length_map]; exact hi) (by rw [List.length_map]; exact hj) (by rw [dp_toT h, kp_toT h, List.length_map, h.sLen]; exact hT))
 rwa [dp_toT h, kp_toT h] at this
theorem rTree (h : ChM w c eV vV sV tV sp tp) (hl : sp.length <= 4611686018427387904) :
 Calls Tryz.prog 57 #[sV] w fun e w' => e = .returned (.bool (decide (treeP c))) /\ Below w.heap.size w w' := by
 have h2 := Tr.refRight_any sV (sp.map toT) w h.rdT (by rw [List.length_map]; exact hl);have h3 : Tr.RightP (Tr.dp (sp.map toT)) (Tr.kp (sp.map toT)) (sp.map toT).length ↔ treeP c := by rw [dp_toT h, kp_toT h, List.length_map, h.sLen]; exact Iff.rfl
 rwa [decide_eq_decide.2 h3] at h2
theorem rKinds (h : ChM w c eV vV sV tV sp tp) (hs : Sm c sp tp) {v u : Value} {cs : List CM} (hv : RdI w v cs) (hl : cs.length * 32 <= 140737488355328) (hn : Names cs) {ns : List (List UInt8)} (hu : RdW w u ns) (hnl : ns.length <= 4611686018427387904) :
 Calls Tryz.prog 98 #[v, vV, u] w fun e w' => e = .returned (.tuple #[.int .i64 (kindP (vmL c) ns cs).1, .int .i64 (kindP (vmL c) ns cs).2]) /\ Below w.heap.size w w' :=
 Kd.refKinds_any v vV u cs (vmL c) ns w hv.rd (by omega) hn h.rdV (by have := hs.vs; unfold vmL; rw [List.length_map]; omega) hu hnl
theorem rdW_nil (w : World) : RdW w (.slice none 0 0) [] := Inn.nil w 1
theorem dInit (h : ChM w c eV vV sV tV sp tp) (hT : treeP c) (i : Nat) (hi : i < sp.length) :
 Calls Tryz.prog 58 #[chA c eV vV sV tV, .int .i64 i] w fun e w' => e = .returned (.int .i64 (initE c.ss i)) /\ Below w.heap.size w w' :=
 refInitial_any Tr.past_any h (fun _ hW _ hj => rParent (h.below hW) hT hj) (fun _ hW _ _ _ hk => rWithin (h.below hW) hT hk) hT i hi
theorem dVar (v : VM) (X : ByteArray) (w : World) : Calls Tryz.prog 59 #[vaA X v] w fun e w' => e = .returned (.int .i64 (varE v)) /\ Below w.heap.size w w' :=
 refVariable_any rRight_any refFits_any v X w
theorem dNames (h : ChM w c eV vV sV tV sp tp) (hs : Sm c sp tp) (all : Bool) :
 Calls Tryz.prog 55 #[chA c eV vV sV tV, .bool all] w fun e w' => (∃ u, e = .returned u /\ w'.ownsRow w.heap.size 9 1 u (nmL all c.ss).length ((nmL all c.ss).map bstr)) /\ Below w.heap.size w w' :=
 refNames_any Tr.past_any h hs.ss all
theorem dBlock (h : ChM w c eV vV sV tV sp tp) (hs : Sm c sp tp) (v : Value) (l : List AM) (hv : BlkR w v l) (hll : l.length <= 4611686018427387904) :
 Calls Tryz.prog 60 #[chA c eV vV sV tV, v] w fun e w' => e = .returned (.int .i64 (blockE c l)) /\ Below w.heap.size w w' := by
 refine refBlock_any h hs v l hv hll (fun W hW => ?_) (fun W hW N => ?_) (fun W hW N => ?_) (fun u cs hR hl hn W hW => ?_)
 ·obtain ⟨ps, rfl, hA, _⟩ := hv;rw [List.length_map] at hll;exact refRight6_any v ps W (hA.below hW) hll
 ·exact refHas_any eV c.es N W (h.below hW).rdW (by have := hs.es; omega)
 ·exact Kd.refFind_any vV (vmL c) N W (h.below hW).rdV (by have := hs.vs; unfold vmL; rw [List.length_map]; omega)
 ·exact rKinds (h.below hW) hs (hR.below hW) hl hn (rdW_nil W) (Nat.zero_le _)
end
end Go.Proofs.YtcnfcililiehlaaGreatDoor.Ch.Vd
