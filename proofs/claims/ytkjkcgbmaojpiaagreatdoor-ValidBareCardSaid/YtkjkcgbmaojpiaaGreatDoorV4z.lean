/- The law ValidBare of quintainlaw09: whatever chart and name come in: it returns true, and they read as they did. Its condition: the package-level variables that it may read hold what start-up lays (the card ties them). -/
import Derived.Test.YtkjkcgbmaojpiaaGreatDoorR1
import Derived.Test.YtkjkcgbmaojpiaaGreatDoorR2
import Derived.Test.YtkjkcgbmaojpiaaGreatDoorR3
import Derived.Test.YtkjkcgbmaojpiaaGreatDoorR4
import Derived.Test.YtkjkcgbmaojpiaaGreatDoorR5
import Derived.Test.YtkjkcgbmaojpiaaGreatDoorR6
import Derived.Test.YtkjkcgbmaojpiaaGreatDoorR7
import Derived.Test.YtkjkcgbmaojpiaaGreatDoorR8
import Derived.Test.YtkjkcgbmaojpiaaGreatDoorR9
import Derived.Test.YtkjkcgbmaojpiaaGreatDoorR10
import Derived.Test.YtkjkcgbmaojpiaaGreatDoorR11
import Derived.Test.YtkjkcgbmaojpiaaGreatDoorR12
import Derived.Test.YtkjkcgbmaojpiaaGreatDoorR13
import Derived.Test.YtkjkcgbmaojpiaaGreatDoorR14
import Derived.Test.YtkjkcgbmaojpiaaGreatDoorR15
import Derived.Test.YtkjkcgbmaojpiaaGreatDoorR16
import Derived.Test.YtkjkcgbmaojpiaaGreatDoorR17
import Derived.Test.YtkjkcgbmaojpiaaGreatDoorR18
import Derived.Test.YtkjkcgbmaojpiaaGreatDoorR19
import Derived.Test.YtkjkcgbmaojpiaaGreatDoorR20
import Derived.Test.YtkjkcgbmaojpiaaGreatDoorR21
import Derived.Test.YtkjkcgbmaojpiaaGreatDoorR22
import Derived.Test.YtkjkcgbmaojpiaaGreatDoorR23
import Derived.Test.YtkjkcgbmaojpiaaGreatDoorR24
import Derived.Test.YtkjkcgbmaojpiaaGreatDoorR25
import Derived.Test.YtkjkcgbmaojpiaaGreatDoorR26
import Derived.Test.YtkjkcgbmaojpiaaGreatDoorR27
import Derived.Test.YtkjkcgbmaojpiaaGreatDoorR28
import Derived.Test.YtkjkcgbmaojpiaaGreatDoorR29
import Derived.Test.YtkjkcgbmaojpiaaGreatDoorR30
import Derived.Test.YtkjkcgbmaojpiaaGreatDoorR31
import Derived.Test.YtkjkcgbmaojpiaaGreatDoorR32
import Derived.Test.YtkjkcgbmaojpiaaGreatDoorR33
import Derived.Test.YtkjkcgbmaojpiaaGreatDoorR34
import Derived.Test.YtkjkcgbmaojpiaaGreatDoorZ1
import Derived.Test.YtkjkcgbmaojpiaaGreatDoorCards
import Derived.Test.YtkjkcgbmaojpiaaGreatDoorTie
import Derived.ProofKit
import Derived.OpenShut
import Derived.Deep.DeepHandedRow
import Derived.Deep.DeepWitnessRowRef
import Derived.Lib.LaidTab
import Derived.LaidMore
import Derived.Stop.LaidErr
import Derived.SizedLaws
import Derived.Carry
import Derived.Lay
namespace Go.Proofs.YtkjkcgbmaojpiaaGreatDoor.vba
open Go.ChangeShapes Go.WideShapes Go.ChangeAt Go.RowKit
open Go.ChangeMaps (open_string)
theorem own : ownKnob Tryz.prog.godebug = none := by kernel_rfl
theorem laidOut : laidOutB Tryz.prog = true := by kernel_rfl
theorem gTabType : (Tryz.prog.globals[4]?).map (·.type) = some 229 := by kernel_rfl
theorem gSynType : (Tryz.prog.globals[2]?).map (·.type) = some 168 := by kernel_rfl
theorem gRngType : (Tryz.prog.globals[3]?).map (·.type) = some 168 := by kernel_rfl
theorem cellsErr : Tryz.prog.cellsOf 237 = 1 := by kernel_rfl
theorem cellsStr : Tryz.prog.cellsOf 9 = 1 := by kernel_rfl
theorem star : "*" ++ "errors.errorString" = "*errors.errorString" := by decide
theorem rowErr (u : TypeId) (h : Tryz.prog.typeName? 3 u = some "*errors.errorString") : u = 235 :=
 typeName_ptr_named (nm := "errors.errorString") (by rw [star]; kernel_rfl) (by kernel_rfl) (by decide) u (by rw [star]; exact h)
theorem cellsTab : Tryz.prog.cellsOf 229 = 20 := by kernel_rfl
theorem cellsU : Tryz.prog.cellsOf 206 = 1 := by kernel_rfl
theorem laid_of {W : World} (hSH : W.ShapedOpen Tryz.prog) (h0 : laidMetH Tryz.prog Rows.validBareRow.laid W) : Ch.Env W := by
 have h : laidMet Tryz.prog Rows.validBareRow.laid W := by
  rw [MakeChecks.laidMetH_plain _ _ _ (by kernel_rfl)] at h0
  exact h0
 have h2 := h.tail.tail
 have ht := Lib.tabIs_of_head (zs := Lib.pow10Tab) (k := .u64) gTab gTabType Tryz.underlying229 Tryz.underlying206 cellsU cellsTab h2
 obtain ⟨a0, s0, hv0, -, -, -⟩ := laid_sentinel h2.tail.tail Pl.gRng gRngType Tryz.underlying168 rowErr Tryz.underlying235 Tryz.underlying237 rfl rfl Tryz.underlying9 cellsErr cellsStr
 obtain ⟨a1, s1, hv1, -, -, -⟩ := laid_sentinel h2.tail.tail.tail Pl.gSyn gSynType Tryz.underlying168 rowErr Tryz.underlying235 Tryz.underlying237 rfl rfl Tryz.underlying9 cellsErr cellsStr
 exact ⟨ops_of (Lib.laidMet.reads h (.tail _ (.tail _ (.tail _ (.tail _ (.tail _ (.tail _ (.head _)))))))), ht, ml_of hSH, ⟨ht, ⟨_, _, hv1⟩, ⟨_, _, hv0⟩⟩⟩
set_option maxRecDepth 100000 in
theorem contract (H : Type) (enc : TypeId × Value → H) (W : World) (base : Nat) (args : Array Value) (ds gs : List (DataW H)) (before : List MemPlace)
  (hval : ∀ (j : Nat) t v, Tryz.f6.params[j]? = some t → args[j]? = some v → Value.okWide Tryz.prog W .any base t v)
  (hW : DataW.Whole enc Tryz.prog Tryz.f6.params.toList Rows.validBareSpec.vars false W args.toList ds gs before) (hL : laidMetH Tryz.prog Rows.validBareRow.laid W) (hSH : W.ShapedOpen Tryz.prog) (hsz : (DataW.weightsEach Tryz.prog (Tryz.f6.params.toList ++ (OpenSpec.ofChange Rows.validBareSpec).bare.plain.varTypes Tryz.prog) (ds ++ gs)).all (· ≤ reachBytes) = true) :
  Calls Tryz.prog 6 args W fun e W' => ∃ v, e = .returned v ∧ Rows.validBareSpec.post enc Tryz.prog Tryz.f6 false true false false W args v W' := by
 have hW' := hW
 obtain ⟨p, q, hA0, hV, rfl, hfz, hnd⟩ := hW
 have hA : DataW.TrodAll enc Tryz.prog W 0 (fun _ => true) true Tryz.f6.params.toList args.toList ds p := hA0
 rw [Tryz.params6] at hA hval hsz
 obtain ⟨v0, vs0, d0, ds0, p0, q0, hargs, rfl, rfl, h0, r0⟩ := trodAll_cons hA
 obtain ⟨v1, vs1, d1, ds1, p1, q1, rfl, rfl, rfl, h1, r1⟩ := trodAll_cons r0
 obtain ⟨rfl, rfl, rfl⟩ := trodAll_nil r1
 obtain rfl : args = #[v0, v1] := by cases args; simp_all
 obtain ⟨rfl, rfl⟩ := trodVars_none hV
 clear hA0
 simp only [List.append_nil] at hW'
 have hlt : ∀ x ∈ p0 ++ (p1 ++ []), x.block < W.heap.size := fun x hx => by simpa using hW'.lt x (by simpa using hx)
 have c0 := fun (W' : World) (hn : Below W.heap.size W W') => Below.trod laidOut (t := 27) (by kernel_rfl) (of_decide_eq_true (by kernel_rfl)) h0 hn (fun x hx => hlt x (by simp [hx]))
 have c1 := fun (W' : World) (hn : Below W.heap.size W W') => Below.trod laidOut (t := 9) (by kernel_rfl) (of_decide_eq_true (by kernel_rfl)) h1 hn (fun x hx => hlt x (by simp [hx]))
 obtain ⟨ch0, ev0, vv0, sv0, tv0, sp0, tp0, rfl, hI0⟩ := Ch.Vd.open_chart9 (hval 0 27 v0 rfl rfl) h0 hsz (j := 0) rfl rfl
 obtain ⟨s1, rfl, rfl, _, hs1⟩ := open_string Tryz.underlying9 (hval 1 9 v1 rfl rfl) h1
 have hlen1 : s1.data.toList.length ≤ reachBytes := sized_string hsz (j := 1) rfl rfl
 rw [← Lib.size_eq] at hlen1
 unfold reachBytes at hlen1
 refine (Ch.Vd.bare_law ch0 ev0 vv0 sv0 tv0 sp0 tp0 s1 W hI0 (laid_of hSH hL)).mono fun e W' ⟨he, hg⟩ => ?_
 subst he
 refine ⟨_, rfl, _, _, _, [], p0 ++ (p1 ++ []), [], hW', ?_, ?_, rfl, hg.frame _, fun h => by cases h⟩
 ·exact trodAll_cons_mk (shut_bool Tryz.underlying4 _) trodAll_mk0
 ·exact trodAll_cons_mk (c0 W' hg) (trodAll_cons_mk (c1 W' hg) trodAll_mk0)
theorem laid_met (os : Os) : laidMet Tryz.prog Rows.validBareRow.laid (((World.laidAll Tryz.prog os Rows.validBareRow.laid).forCall (fun _ _ => 0) ⟨#[], #[.agg #[.string ByteArray.empty, .slice none 0 0, .slice none 0 0, .slice none 0 0, .slice none 0 0], .string ByteArray.empty], []⟩).memory) :=
 laidMet_laidAll _ (by kernel_rfl) (by kernel_rfl)
theorem laid_metH (os : Os) : laidMetH Tryz.prog Rows.validBareRow.laid (((World.laidAll Tryz.prog os Rows.validBareRow.laid).forCall (fun _ _ => 0) ⟨#[], #[.agg #[.string ByteArray.empty, .slice none 0 0, .slice none 0 0, .slice none 0 0, .slice none 0 0], .string ByteArray.empty], []⟩).memory) := by
 rw [MakeChecks.laidMetH_plain _ _ _ (by kernel_rfl)]; exact laid_met os
theorem reads_in (os : Os) {H : Type} (enc : TypeId × Value → H) : ∃ places, DataW.whole enc Tryz.prog ((World.laidAll Tryz.prog os Rows.validBareRow.laid).forCall (fun _ _ => 0) ⟨#[], #[.agg #[.string ByteArray.empty, .slice none 0 0, .slice none 0 0, .slice none 0 0, .slice none 0 0], .string ByteArray.empty], []⟩).memory Tryz.f6.params.toList Rows.validBareSpec.vars false #[Value.agg #[.string ByteArray.empty, .slice none 0 0, .slice none 0 0, .slice none 0 0, .slice none 0 0], Value.string ByteArray.empty].toList 8 = some ([.agg [.lit (.string []), .nil, .nil, .nil, .nil], .lit (.string [])], [], places) :=
 ⟨[], by kernel_rfl⟩
set_option maxRecDepth 100000 in
theorem lifted (os : Os) (started : os.Started) (H : Type) (enc : TypeId × Value → H) (F : Stop.Interp) :
  ReturnsInHanded {} Tryz.checked os 6 .any ((OpenSpec.ofChange Rows.validBareSpec).preRow enc Tryz.prog Tryz.f6 Rows.validBareRow.domain false Rows.validBareRow.laid) (((OpenSpec.ofChange Rows.validBareSpec).at F).post enc Tryz.prog Tryz.f6 false true false false) := by
 obtain ⟨places, hx⟩ := reads_in os enc
 refine returnsInHanded_of_row (C := Tryz.checked) (s := (OpenSpec.ofChange Rows.validBareSpec)) own started (by kernel_rfl) Tryz.func6
  (witness_row_atRef (enc := enc) (C := Tryz.checked) false (World.laidAll Tryz.prog os Rows.validBareRow.laid) #[.agg #[.string ByteArray.empty, .slice none 0 0, .slice none 0 0, .slice none 0 0, .slice none 0 0], .string ByteArray.empty] (World.laidAll_os _ _ _) (by kernel_rfl) (by kernel_rfl) (by kernel_rfl)
   (OpenSpec.preRow_of_cond 8 hx (by kernel_rfl) (fun k hk => by cases hk) (by kernel_rfl) (laid_metH os))) ?_
 intro W base args ds gs before hval hW _ _ hsz hL hSH _
 exact contract H enc W base args ds gs before hval hW hL hSH hsz
theorem said : Rows.ValidBareSaid :=
 OpenClaim.holds_of_cond 6 Tryz.f6 rfl rfl rfl rfl rfl rfl rfl ⟨rfl, rfl, rfl, rfl, rfl⟩ rfl rfl rfl rfl rfl (by kernel_rfl) Tryz.func6 (by kernel_rfl)
  (of_decide_eq_true (by kernel_rfl)) (by unfold Func.isWrapper; first | (rw [if_pos (by decide +kernel)]; kernel_rfl) | (rw [if_neg (by decide +kernel)]; exact ⟨rfl, rfl⟩))
  (fun os started H enc _ F => by rw [OpenClaim.pre_eq_preRow]; exact lifted os started H enc F)
theorem plain (f : FuncId) (fn : Func) (hf : Tryz.pinned.checked.prog.funcNamed "quintain/quintainlaw09.ValidBare" = some f) (hfn : Tryz.pinned.checked.prog.funcs[f]? = some fn) :
  true = Tryz.pinned.checked.prog.looks [] ∧ ∀ (j : Nat) t, fn.params[j]? = some t → Tryz.pinned.checked.prog.wantsStandIn t = false := by
 obtain rfl : f = 6 := Option.some.inj ((show Tryz.prog.funcNamed "quintain/quintainlaw09.ValidBare" = some 6 by kernel_rfl).symm.trans hf) |>.symm
 obtain rfl : fn = Tryz.f6 := (Option.some.inj (Tryz.func6.symm.trans hfn)).symm
 refine ⟨by kernel_rfl, fun j t ht => ?_⟩
 rw [Tryz.params6] at ht
 have hm : t ∈ [27, 9] := by simpa using Array.mem_of_getElem? ht
 have hall : ([27, 9].all fun u => !Tryz.prog.wantsStandIn u) = true := by kernel_rfl
 exact (show Tryz.prog.wantsStandIn t = false by simpa using List.all_eq_true.1 hall t hm)
theorem card : Rows.ValidBareCardSaid :=
 Claim7.holds_tied_plain_at .later [] _ _ _ _ said (fun _ h => by cases h) (by kernel_rfl) (fun _ h => by cases h) validBare_row_tie rfl ⟨rfl, rfl⟩ (by kernel_rfl) rfl plain (by kernel_rfl)
end Go.Proofs.YtkjkcgbmaojpiaaGreatDoor.vba
