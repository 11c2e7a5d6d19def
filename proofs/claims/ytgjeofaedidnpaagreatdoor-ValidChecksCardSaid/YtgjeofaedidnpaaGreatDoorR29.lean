/- Own texts, joined: Ul, Po. -/
import Derived.Test.YtgjeofaedidnpaaGreatDoorR2
import Derived.Test.YtgjeofaedidnpaaGreatDoorR5
import Derived.Test.YtgjeofaedidnpaaGreatDoorR8
import Derived.Test.YtgjeofaedidnpaaGreatDoorR15
import Derived.Test.YtgjeofaedidnpaaGreatDoorR17
import Derived.Test.YtgjeofaedidnpaaGreatDoorR20
import Derived.Test.YtgjeofaedidnpaaGreatDoorR25
import Derived.Test.YtgjeofaedidnpaaGreatDoorR26
import Derived.Test.YtgjeofaedidnpaaGreatDoorR27
import Derived.Test.YtgjeofaedidnpaaGreatDoorR28
namespace Go.Proofs.YtgjeofaedidnpaaGreatDoor.Tr
open Go.RowKit
set_option maxHeartbeats 1000000 in
theorem refDomain_any (v : Value) (xs : List SM) (i j : Nat) (w : World) (hR : RdT w v xs) (hi : i < xs.length) (hj : j < xs.length) (hP : RightP (dp xs) (kp xs) xs.length) :
 Calls Tryz.prog 63 #[v, .int .i64 i, .int .i64 j] w fun e w' => e = .returned (.int .i64 (dom (dp xs) (kp xs) i j)) /\ ∃ n, w' = w.drewN n := by
 obtain ⟨A, c, rfl⟩ := hR.form;have hl := hP.le;have HP := Lib.hid (fun k W (hk : k < xs.length) (h : RdT W _ xs) => refParent_any (.slice A xs.length c) xs k W h hk (by omega) hP.nst);have HW := Lib.hid (fun k W (h : RdT W _ xs) => refWithin_any (.slice A xs.length c) xs k j W h hj (by omega) hP.nst);have HN := Lib.hid hP.nst;have HR := Lib.hid hR;obtain ⟨b, o, rfl, hb0, hcc⟩ := hR.base (by omega);obtain ⟨n, hn⟩ : ∃ n, xs.length = n := ⟨_, rfl⟩
 have HCL : Hid (∀ m, m < n -> w.cell? ⟨b, o + m * 6 + 1, none⟩ = some (.int .i64 (kp xs m))) := fun m hm => (hcc m (by omega)).2.1
 rw [hn] at hi hj hl HP HN HW HR;rw [hn];clear hR hP hn hcc hb0
 go_enter Tryz.func63, Tryz.ntmps63
 go_wp2
 go_loopw [7] (fun x7 wr => ∃ q : Nat, wr = w.drewN q /\ ((x7 = .int .i64 (-1) /\ Hid (dom (dp xs) (kp xs) i j = -1)) \/ ∃ k : Nat, k < n /\ x7 = .int .i64 k /\ Hid (dom (dp xs) (kp xs) k j = dom (dp xs) (kp xs) i j))) (fun x _ => (intOf x + 1).toNat)
 case atStart => exact ⟨0, rfl, Or.inr ⟨i, hi, rfl, rfl⟩⟩
 case round =>
  obtain ⟨q, rfl, ⟨hx, HF⟩ | ⟨k, hk, hx, HK⟩⟩ := hrel
  ·subst hx;go_wp2;go_ret;exact ⟨ret_int HF.out.symm, q, rfl⟩
  ·subst hx;have ck := HCL.out k hk;have hnx : one (dp xs) (kp xs) j k = false -> (par (dp xs) k = -1 /\ dom (dp xs) (kp xs) i j = -1) \/ ∃ p : Nat, par (dp xs) k = p /\ p < k /\ dom (dp xs) (kp xs) p j = dom (dp xs) (kp xs) i j := by
    intro ho;rcases HN.out.nearest hk with ⟨h, _⟩ | ⟨p, h, h1, _⟩
    ·exact Or.inl ⟨h, by rw [<- HK.out]; exact HN.out.dom_none hk ho h⟩
    ·exact Or.inr ⟨p, h, h1, by rw [<- HK.out]; exact (HN.out.dom_par hk ho h).symm⟩
   by_cases h2 : kp xs k = 2
   ·by_cases hw : wi (dp xs) k j
    ·have hh : dom (dp xs) (kp xs) k j = k := dom_here (decide_eq_true ⟨h2, hw⟩);have HH := Lib.hid (hh.symm.trans HK.out);have HWD := Lib.hid (decide_eq_true hw);rw [h2] at ck;clear hh hnx h2 hw
     go_wp2_with (fail)
     refine (HW.out k _ (HR.out.drew q)).mono ?_;rintro e w2 ⟨rfl, q2, rfl⟩;rw [HWD.out];go_wp2;go_ret;exact ⟨ret_int HH.out, q + q2, rfl⟩
    ·have HNX := Lib.hid (hnx (decide_eq_false (fun h => hw h.2)));have HWD := Lib.hid (decide_eq_false hw);rw [h2] at ck;clear hnx h2 hw
     go_wp2_with (fail)
     refine (HW.out k _ (HR.out.drew q)).mono ?_;rintro e w2 ⟨rfl, q2, rfl⟩;rw [HWD.out]
     go_wp2_with (fail)
     refine (HP.out k _ hk (HR.out.drew (q + q2))).mono ?_;rintro e w2 ⟨rfl, q3, rfl⟩;rcases HNX.out with ⟨h, hf⟩ | ⟨p, h, hpk, hf⟩
     ·rw [h];have HF := Lib.hid hf;clear hf h HNX;go_wp2
      go_roundw
      case rel => exact ⟨q + q2 + q3, rfl, Or.inl ⟨rfl, HF.out⟩⟩
      case measure => simp [intOf] <;> omega
     ·rw [h];have HF := Lib.hid hf;clear hf h HNX;go_wp2
      go_roundw
      case rel => exact ⟨q + q2 + q3, rfl, Or.inr ⟨p, by omega, rfl, HF.out⟩⟩
      case measure => simp [intOf] <;> omega
   ·have HNX := Lib.hid (hnx (decide_eq_false (fun h => h2 h.1)));have hk2 := int_ne h2;clear hnx h2
    go_wp2_with (fail)
    refine (HP.out k _ hk (HR.out.drew q)).mono ?_;rintro e w2 ⟨rfl, q3, rfl⟩;rcases HNX.out with ⟨h, hf⟩ | ⟨p, h, hpk, hf⟩
    ·rw [h];have HF := Lib.hid hf;clear hf h HNX;go_wp2
     go_roundw
     case rel => exact ⟨q + q3, rfl, Or.inl ⟨rfl, HF.out⟩⟩
     case measure => simp [intOf] <;> omega
    ·rw [h];have HF := Lib.hid hf;clear hf h HNX;go_wp2
     go_roundw
     case rel => exact ⟨q + q3, rfl, Or.inr ⟨p, by omega, rfl, HF.out⟩⟩
     case measure => simp [intOf] <;> omega
end Go.Proofs.YtgjeofaedidnpaaGreatDoor.Tr
namespace Go.Proofs.YtgjeofaedidnpaaGreatDoor.Ch.Vd
open Go.RowKit
set_option maxRecDepth 100000
theorem still_low {P : Program} {f : FuncId} {args : Array Value} {w : World} {v : Value} (h : Calls P f args w fun e w' => e = .returned v /\ w = w') : Calls P f args w fun e w' => e = .returned v /\ Below w.heap.size w w' := h.mono fun _ _ ⟨he, h⟩ => ⟨he, h ▸ Below.refl _ _⟩
theorem drewn_low {P : Program} {f : FuncId} {args : Array Value} {w : World} {v : Value} (h : Calls P f args w fun e w' => e = .returned v /\ ∃ n, w' = w.drewN n) : Calls P f args w fun e w' => e = .returned v /\ Below w.heap.size w w' := h.mono fun _ _ ⟨he, n, h⟩ => ⟨he, h ▸ below_drewN (Below.refl _ _) n⟩
theorem dName (s : ByteArray) (w : World) : Calls Tryz.prog 16 #[.string s] w fun e w' => e = .returned (.bool (nameB s.data.toList)) /\ Below w.heap.size w w' := still_low (refName_any s w)
section
variable {w : World} {c : CH} {eV vV sV tV : Value} {sp : List SP} {tp : List TP}
theorem rParent (h : ChM w c eV vV sV tV sp tp) (hT : treeP c) {j : Nat} (hj : j < sp.length) :
 Calls Tryz.prog 54 #[sV, .int .i64 j] w fun e w' => e = .returned (.int .i64 (Tr.par (dC c.ss) j)) /\ Below w.heap.size w w' := by
 have := drewn_low (Tr.refParent_any sV (sp.map toT) j w h.rdT (by rw [List.length_map]; exact hj) (by have := hT.le; rw [List.length_map, h.sLen]; omega) (by rw [dp_toT h, List.length_map, h.sLen]; exact hT.nst))
 rwa [dp_toT h] at this
theorem rWithin (h : ChM w c eV vV sV tV sp tp) (hT : treeP c) {i j : Nat} (hj : j < sp.length) :
 Calls Tryz.prog 56 #[sV, .int .i64 i, .int .i64 j] w fun e w' => e = .returned (.bool (decide (Tr.wi (dC c.ss) i j))) /\ Below w.heap.size w w' := by
 have := drewn_low (Tr.refWithin_any sV (sp.map toT) i j w h.rdT (by rw [List.length_map]; exact hj) (by have := hT.le; rw [List.length_map, h.sLen]; omega) (by rw [dp_toT h, List.length_map, h.sLen]; exact hT.nst))
 rwa [dp_toT h] at this
theorem rDomain (h : ChM w c eV vV sV tV sp tp) (hT : treeP c) {i j : Nat} (hi : i < sp.length) (hj : j < sp.length) :
 Calls Tryz.prog 63 #[sV, .int .i64 i, .int .i64 j] w fun e w' => e = .returned (.int .i64 (Tr.dom (dC c.ss) (kC c.ss) i j)) /\ Below w.heap.size w w' := by
 have := drewn_low (Tr.refDomain_any sV (sp.map toT) i j w h.rdT (by rw [List.length_map]; exact hi) (by rw [List.length_map]; exact hj) (by rw [dp_toT h, kp_toT h, List.length_map, h.sLen]; exact hT))
 rwa [dp_toT h, kp_toT h] at this
theorem rTree (h : ChM w c eV vV sV tV sp tp) (hl : sp.length <= 4611686018427387904) :
 Calls Tryz.prog 20 #[sV] w fun e w' => e = .returned (.bool (decide (treeP c))) /\ Below w.heap.size w w' := by
 have h2 := Tr.refRight_any sV (sp.map toT) w h.rdT (by rw [List.length_map]; exact hl);have h3 : Tr.RightP (Tr.dp (sp.map toT)) (Tr.kp (sp.map toT)) (sp.map toT).length ↔ treeP c := by rw [dp_toT h, kp_toT h, List.length_map, h.sLen]; exact Iff.rfl
 rwa [decide_eq_decide.2 h3] at h2
theorem rKinds (h : ChM w c eV vV sV tV sp tp) (hs : Sm c sp tp) {v u : Value} {cs : List CM} (hv : RdI w v cs) (hl : cs.length * 32 <= 140737488355328) (hn : Names cs) {ns : List (List UInt8)} (hu : RdW w u ns) (hnl : ns.length <= 4611686018427387904) :
 Calls Tryz.prog 62 #[v, vV, u] w fun e w' => e = .returned (.tuple #[.int .i64 (kindP (vmL c) ns cs).1, .int .i64 (kindP (vmL c) ns cs).2]) /\ Below w.heap.size w w' :=
 Kd.refKinds_any v vV u cs (vmL c) ns w hv.rd (by omega) hn h.rdV (by have := hs.vs; unfold vmL; rw [List.length_map]; omega) hu hnl
theorem rdW_nil (w : World) : RdW w (.slice none 0 0) [] := Inn.nil w 1
theorem dInit (h : ChM w c eV vV sV tV sp tp) (hT : treeP c) (i : Nat) (hi : i < sp.length) :
 Calls Tryz.prog 21 #[chA c eV vV sV tV, .int .i64 i] w fun e w' => e = .returned (.int .i64 (initE c.ss i)) /\ Below w.heap.size w w' :=
 refInitial_any Tr.past_any h (fun _ hW _ hj => rParent (h.below hW) hT hj) (fun _ hW _ _ _ hk => rWithin (h.below hW) hT hk) hT i hi
theorem dVar (v : VM) (X : ByteArray) (w : World) : Calls Tryz.prog 22 #[vaA X v] w fun e w' => e = .returned (.int .i64 (varE v)) /\ Below w.heap.size w w' :=
 refVariable_any rRight_any refFits_any v X w
theorem dNames (h : ChM w c eV vV sV tV sp tp) (hs : Sm c sp tp) (all : Bool) :
 Calls Tryz.prog 18 #[chA c eV vV sV tV, .bool all] w fun e w' => (∃ u, e = .returned u /\ w'.ownsRow w.heap.size 9 1 u (nmL all c.ss).length ((nmL all c.ss).map bstr)) /\ Below w.heap.size w w' :=
 refNames_any Tr.past_any h hs.ss all
theorem dBlock (h : ChM w c eV vV sV tV sp tp) (hs : Sm c sp tp) (v : Value) (l : List AM) (hv : BlkR w v l) (hll : l.length <= 4611686018427387904) :
 Calls Tryz.prog 24 #[chA c eV vV sV tV, v] w fun e w' => e = .returned (.int .i64 (blockE c l)) /\ Below w.heap.size w w' := by
 refine refBlock_any h hs v l hv hll (fun W hW => ?_) (fun W hW N => ?_) (fun W hW N => ?_) (fun u cs hR hl hn W hW => ?_)
 ·obtain ⟨ps, rfl, hA, _⟩ := hv;rw [List.length_map] at hll;exact refRight6_any v ps W (hA.below hW) hll
 ·exact refHas_any eV c.es N W (h.below hW).rdW (by have := hs.es; omega)
 ·exact Kd.refFind_any vV (vmL c) N W (h.below hW).rdV (by have := hs.vs; unfold vmL; rw [List.length_map]; omega)
 ·exact rKinds (h.below hW) hs (hR.below hW) hl hn (rdW_nil W) (Nat.zero_le _)
end
end Go.Proofs.YtgjeofaedidnpaaGreatDoor.Ch.Vd
