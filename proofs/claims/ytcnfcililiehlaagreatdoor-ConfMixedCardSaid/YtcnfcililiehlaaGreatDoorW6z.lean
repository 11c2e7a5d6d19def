/- The law ConfMixed of quintainlaw10: whatever chart, lists and number come in: it returns true, and they read as they did. Its condition: the package-level variables that it may read hold what start-up lays (the card ties them). -/
import Derived.Test.YtcnfcililiehlaaGreatDoorCards
import Derived.Test.YtcnfcililiehlaaGreatDoorTie
import Derived.Test.YtcnfcililiehlaaGreatDoorR1
import Derived.Test.YtcnfcililiehlaaGreatDoorR2
import Derived.Test.YtcnfcililiehlaaGreatDoorR3
import Derived.Test.YtcnfcililiehlaaGreatDoorR4
import Derived.Test.YtcnfcililiehlaaGreatDoorR5
import Derived.Test.YtcnfcililiehlaaGreatDoorR6
import Derived.Test.YtcnfcililiehlaaGreatDoorR7
import Derived.Test.YtcnfcililiehlaaGreatDoorR8
import Derived.Test.YtcnfcililiehlaaGreatDoorR9
import Derived.Test.YtcnfcililiehlaaGreatDoorR10
import Derived.Test.YtcnfcililiehlaaGreatDoorR11
import Derived.Test.YtcnfcililiehlaaGreatDoorR12
import Derived.Test.YtcnfcililiehlaaGreatDoorR13
import Derived.Test.YtcnfcililiehlaaGreatDoorR14
import Derived.Test.YtcnfcililiehlaaGreatDoorR15
import Derived.Test.YtcnfcililiehlaaGreatDoorR16
import Derived.Test.YtcnfcililiehlaaGreatDoorR17
import Derived.Test.YtcnfcililiehlaaGreatDoorR18
import Derived.Test.YtcnfcililiehlaaGreatDoorR19
import Derived.Test.YtcnfcililiehlaaGreatDoorR20
import Derived.Test.YtcnfcililiehlaaGreatDoorR21
import Derived.Test.YtcnfcililiehlaaGreatDoorR22
import Derived.Test.YtcnfcililiehlaaGreatDoorR23
import Derived.Test.YtcnfcililiehlaaGreatDoorR24
import Derived.Test.YtcnfcililiehlaaGreatDoorR25
import Derived.Test.YtcnfcililiehlaaGreatDoorR26
import Derived.Test.YtcnfcililiehlaaGreatDoorR27
import Derived.Test.YtcnfcililiehlaaGreatDoorR28
import Derived.Test.YtcnfcililiehlaaGreatDoorR29
import Derived.Test.YtcnfcililiehlaaGreatDoorR30
import Derived.Test.YtcnfcililiehlaaGreatDoorR31
import Derived.Test.YtcnfcililiehlaaGreatDoorR32
import Derived.Test.YtcnfcililiehlaaGreatDoorR33
import Derived.Test.YtcnfcililiehlaaGreatDoorR34
import Derived.Test.YtcnfcililiehlaaGreatDoorR35
import Derived.Test.YtcnfcililiehlaaGreatDoorR36
import Derived.Test.YtcnfcililiehlaaGreatDoorQX1
import Derived.Test.YtcnfcililiehlaaGreatDoorQX2
import Derived.Test.YtcnfcililiehlaaGreatDoorQX3
import Derived.Test.YtcnfcililiehlaaGreatDoorQX4
import Derived.Test.YtcnfcililiehlaaGreatDoorQX5
import Derived.Test.YtcnfcililiehlaaGreatDoorQX6
import Derived.Test.YtcnfcililiehlaaGreatDoorQX7
import Derived.Test.YtcnfcililiehlaaGreatDoorQX8
import Derived.Test.YtcnfcililiehlaaGreatDoorQX9
import Derived.ProofKit
import Derived.OpenShut
import Derived.Deep.DeepHandedRow
import Derived.Deep.DeepWitnessRowRef
import Derived.Lib.LaidTab
import Derived.LaidMore
import Derived.Stop.LaidErr
import Derived.SizedLaws
import Derived.Carry
import Derived.Lay
namespace Go.Proofs.YtcnfcililiehlaaGreatDoor.cfx
open Go.ChangeShapes Go.WideShapes Go.ChangeAt Go.RowKit
open Go.ChangeMaps (open_string)

theorem own : ownKnob Tryz.prog.godebug = none := by kernel_rfl
theorem laidOut : laidOutB Tryz.prog = true := by kernel_rfl
theorem gTabType : (Tryz.prog.globals[4]?).map (·.type) = some 248 := by kernel_rfl
theorem gSynType : (Tryz.prog.globals[2]?).map (·.type) = some 183 := by kernel_rfl
theorem gRngType : (Tryz.prog.globals[3]?).map (·.type) = some 183 := by kernel_rfl
theorem cellsErr : Tryz.prog.cellsOf 259 = 1 := by kernel_rfl
theorem cellsStr : Tryz.prog.cellsOf 9 = 1 := by kernel_rfl
theorem star : "*" ++ "errors.errorString" = "*errors.errorString" := by decide
theorem rowErr (u : TypeId) (h : Tryz.prog.typeName? 3 u = some "*errors.errorString") : u = 257 :=
  typeName_ptr_named (nm := "errors.errorString") (by rw [star]; kernel_rfl) (by kernel_rfl) (by decide) u (by rw [star]; exact h)
theorem cellsTab : Tryz.prog.cellsOf 248 = 20 := by kernel_rfl
theorem cellsU : Tryz.prog.cellsOf 224 = 1 := by kernel_rfl

/-- what the row's list gives -/
theorem laid_of {W : World} (hSH : W.ShapedOpen Tryz.prog) (h0 : laidMetH Tryz.prog Rows.confMixedRow.laid W) : Ch.Env W := by
  have h : laidMet Tryz.prog Rows.confMixedRow.laid W := by
    rw [MakeChecks.laidMetH_plain _ _ _ (by kernel_rfl)] at h0
    exact h0
  have h2 := h.tail.tail
  have ht := Lib.tabIs_of_head (zs := Lib.pow10Tab) (k := .u64) gTab gTabType Tryz.underlying248 Tryz.underlying224 cellsU cellsTab h2
  obtain ⟨a0, s0, hv0, -, -, -⟩ := laid_sentinel h2.tail.tail Pl.gRng gRngType Tryz.underlying183 rowErr Tryz.underlying257 Tryz.underlying259 rfl rfl Tryz.underlying9 cellsErr cellsStr
  obtain ⟨a1, s1, hv1, -, -, -⟩ := laid_sentinel h2.tail.tail.tail Pl.gSyn gSynType Tryz.underlying183 rowErr Tryz.underlying257 Tryz.underlying259 rfl rfl Tryz.underlying9 cellsErr cellsStr
  exact ⟨ops_of (Lib.laidMet.reads h (.tail _ (.tail _ (.tail _ (.tail _ (.tail _ (.tail _ (.head _)))))))), ht, ml_of hSH, ⟨ht, ⟨_, _, hv1⟩, ⟨_, _, hv0⟩⟩⟩

set_option maxRecDepth 100000 in
/-- WHAT THE WALK GIVES, for every argument and every world in which the variables lie as laid. -/
theorem contract (H : Type) (enc : TypeId × Value → H) (W : World) (base : Nat) (args : Array Value) (ds gs : List (DataW H)) (before : List MemPlace)
    (hval : ∀ (j : Nat) t v, Tryz.f8.params[j]? = some t → args[j]? = some v → Value.okWide Tryz.prog W .any base t v)
    (hW : DataW.Whole enc Tryz.prog Tryz.f8.params.toList Rows.confMixedSpec.vars false W args.toList ds gs before) (hL : laidMetH Tryz.prog Rows.confMixedRow.laid W) (hSH : W.ShapedOpen Tryz.prog) (hsz : (DataW.weightsEach Tryz.prog (Tryz.f8.params.toList ++ (OpenSpec.ofChange Rows.confMixedSpec).bare.plain.varTypes Tryz.prog) (ds ++ gs)).all (· ≤ reachBytes) = true) :
    Calls Tryz.prog 8 args W fun e W' => ∃ v, e = .returned v ∧ Rows.confMixedSpec.post enc Tryz.prog Tryz.f8 false true false false W args v W' := by
  have hW' := hW
  obtain ⟨p, q, hA0, hV, rfl, hfz, hnd⟩ := hW
  have hA : DataW.TrodAll enc Tryz.prog W 0 (fun _ => true) true Tryz.f8.params.toList args.toList ds p := hA0
  rw [Tryz.params8] at hA hval hsz
  obtain ⟨v0, vs0, d0, ds0, p0, q0, hargs, rfl, rfl, h0, r0⟩ := trodAll_cons hA
  obtain ⟨v1, vs1, d1, ds1, p1, q1, rfl, rfl, rfl, h1, r1⟩ := trodAll_cons r0
  obtain ⟨v2, vs2, d2, ds2, p2, q2, rfl, rfl, rfl, h2, r2⟩ := trodAll_cons r1
  obtain ⟨rfl, rfl, rfl⟩ := trodAll_nil r2
  obtain rfl : args = #[v0, v1, v2] := by cases args; simp_all
  obtain ⟨rfl, rfl⟩ := trodVars_none hV
  clear hA0
  simp only [List.append_nil] at hW'
  have hlt : ∀ x ∈ p0 ++ (p1 ++ (p2 ++ [])), x.block < W.heap.size := fun x hx => by simpa using hW'.lt x (by simpa using hx)
  have c0 := fun (W' : World) (hn : Below W.heap.size W W') => Below.trod laidOut (t := 27) (by kernel_rfl) (of_decide_eq_true (by kernel_rfl)) h0 hn (fun x hx => hlt x (by simp [hx]))
  have c1 := fun (W' : World) (hn : Below W.heap.size W W') => Below.trod laidOut (t := 46) (by kernel_rfl) (of_decide_eq_true (by kernel_rfl)) h1 hn (fun x hx => hlt x (by simp [hx]))
  have c2 := fun (W' : World) (hn : Below W.heap.size W W') => Below.trod laidOut (t := 5) (by kernel_rfl) (of_decide_eq_true (by kernel_rfl)) h2 hn (fun x hx => hlt x (by simp [hx]))
  obtain ⟨ch0, ev0, vv0, sv0, tv0, sp0, tp0, rfl, hI0⟩ := Ch.Vd.open_chart10 (hval 0 27 v0 rfl rfl) h0 hsz (j := 0) rfl rfl
  obtain ⟨pa1, pb1, qa1, qb1, rfl, ha1, hc1⟩ := Ch.Vd.open_pair10 (hval 1 46 v1 rfl rfl) h1 hsz (j := 1) rfl rfl
  obtain ⟨n2, rfl, rfl, _, hs2⟩ := open_int Tryz.underlying5 (hval 2 5 v2 rfl rfl) h2
  have hb2 : 0 ≤ n2 ∧ n2 ≤ 255 := by
    have h1 : IntKind.u8.min = 0 := by kernel_rfl
    have h2 : IntKind.u8.max = 255 := by kernel_rfl
    simp [Lit.wf, h1, h2] at hs2
    omega
  refine (Ch.Vd.mixed_lawI ch0 ev0 vv0 sv0 tv0 pa1 pb1 sp0 tp0 qa1 qb1 n2 hb2.1 hb2.2 W hI0.1 (laid_of hSH hL) hI0.2 ha1 hc1).mono fun e W' ⟨he, hg⟩ => ?_
  subst he
  refine ⟨_, rfl, _, _, _, [], p0 ++ (p1 ++ (p2 ++ [])), [], hW', ?_, ?_, rfl, hg.frame _, fun h => by cases h⟩
  · exact trodAll_cons_mk (shut_bool Tryz.underlying4 _) trodAll_mk0
  · exact trodAll_cons_mk (c0 W' hg) (trodAll_cons_mk (c1 W' hg) (trodAll_cons_mk (c2 W' hg) trodAll_mk0))

theorem laid_met (os : Os) : laidMet Tryz.prog Rows.confMixedRow.laid (((World.laidAll Tryz.prog os Rows.confMixedRow.laid).forCall (fun _ _ => 0) ⟨#[], #[.agg #[.string ByteArray.empty, .slice none 0 0, .slice none 0 0, .slice none 0 0, .slice none 0 0], .agg #[.slice none 0 0, .slice none 0 0], .int .u8 0], []⟩).memory) :=
  laidMet_laidAll _ (by kernel_rfl) (by kernel_rfl)
theorem laid_metH (os : Os) : laidMetH Tryz.prog Rows.confMixedRow.laid (((World.laidAll Tryz.prog os Rows.confMixedRow.laid).forCall (fun _ _ => 0) ⟨#[], #[.agg #[.string ByteArray.empty, .slice none 0 0, .slice none 0 0, .slice none 0 0, .slice none 0 0], .agg #[.slice none 0 0, .slice none 0 0], .int .u8 0], []⟩).memory) := by
  rw [MakeChecks.laidMetH_plain _ _ _ (by kernel_rfl)]; exact laid_met os
theorem reads_in (os : Os) {H : Type} (enc : TypeId × Value → H) : ∃ places, DataW.whole enc Tryz.prog ((World.laidAll Tryz.prog os Rows.confMixedRow.laid).forCall (fun _ _ => 0) ⟨#[], #[.agg #[.string ByteArray.empty, .slice none 0 0, .slice none 0 0, .slice none 0 0, .slice none 0 0], .agg #[.slice none 0 0, .slice none 0 0], .int .u8 0], []⟩).memory Tryz.f8.params.toList Rows.confMixedSpec.vars false #[Value.agg #[.string ByteArray.empty, .slice none 0 0, .slice none 0 0, .slice none 0 0, .slice none 0 0], Value.agg #[.slice none 0 0, .slice none 0 0], Value.int .u8 0].toList 8 = some ([.agg [.lit (.string []), .nil, .nil, .nil, .nil], .agg [.nil, .nil], .lit (.int .u8 0)], [], places) :=
  ⟨[], by kernel_rfl⟩

set_option maxRecDepth 100000 in
theorem lifted (os : Os) (started : os.Started) (H : Type) (enc : TypeId × Value → H) (F : Stop.Interp) :
    ReturnsInHanded {} Tryz.checked os 8 .any ((OpenSpec.ofChange Rows.confMixedSpec).preRow enc Tryz.prog Tryz.f8 Rows.confMixedRow.domain false Rows.confMixedRow.laid) (((OpenSpec.ofChange Rows.confMixedSpec).at F).post enc Tryz.prog Tryz.f8 false true false false) := by
  obtain ⟨places, hx⟩ := reads_in os enc
  refine returnsInHanded_of_row (C := Tryz.checked) (s := (OpenSpec.ofChange Rows.confMixedSpec)) own started (by kernel_rfl) Tryz.func8
    (witness_row_atRef (enc := enc) (C := Tryz.checked) false (World.laidAll Tryz.prog os Rows.confMixedRow.laid) #[.agg #[.string ByteArray.empty, .slice none 0 0, .slice none 0 0, .slice none 0 0, .slice none 0 0], .agg #[.slice none 0 0, .slice none 0 0], .int .u8 0] (World.laidAll_os _ _ _) (by kernel_rfl) (by kernel_rfl) (by kernel_rfl)
      (OpenSpec.preRow_of_cond 8 hx (by kernel_rfl) (fun k hk => by cases hk) (by kernel_rfl) (laid_metH os))) ?_
  intro W base args ds gs before hval hW _ _ hsz hL hSH _
  exact contract H enc W base args ds gs before hval hW hL hSH hsz

theorem and_in {a b : Bool} (h1 : a = true) (h2 : b = true) : (a && b) = true := by rw [h1, h2]; rfl
set_option maxRecDepth 100000 in
set_option maxHeartbeats 16000000 in
/-- the closed facts, each by itself -/
theorem closed : joinedFacts Tryz.pinned.checked.prog 8 Tryz.f8 (OpenSpec.ofChange Rows.confMixedSpec).bare Rows.confMixedRow = true := by
  unfold joinedFacts
  repeat' (with_reducible refine and_in ?_ ?_)
  all_goals (as_aux_lemma => kernel_rfl)

theorem said : Rows.ConfMixedSaid :=
  OpenClaim.holds_of_cond 8 Tryz.f8 rfl rfl rfl rfl rfl rfl rfl ⟨rfl, rfl, rfl, rfl, rfl⟩ rfl rfl rfl rfl rfl (by kernel_rfl) Tryz.func8 closed
    (of_decide_eq_true (by kernel_rfl)) (by unfold Func.isWrapper; first | (rw [if_pos (by decide +kernel)]; kernel_rfl) | (rw [if_neg (by decide +kernel)]; exact ⟨rfl, rfl⟩))
    (fun os started H enc _ F => by rw [OpenClaim.pre_eq_preRow]; exact lifted os started H enc F)

theorem plain (f : FuncId) (fn : Func) (hf : Tryz.pinned.checked.prog.funcNamed "quintain/quintainlaw10.ConfMixed" = some f) (hfn : Tryz.pinned.checked.prog.funcs[f]? = some fn) :
    true = Tryz.pinned.checked.prog.looks [] ∧ ∀ (j : Nat) t, fn.params[j]? = some t → Tryz.pinned.checked.prog.wantsStandIn t = false := by
  obtain rfl : f = 8 := Option.some.inj ((show Tryz.prog.funcNamed "quintain/quintainlaw10.ConfMixed" = some 8 by kernel_rfl).symm.trans hf) |>.symm
  obtain rfl : fn = Tryz.f8 := (Option.some.inj (Tryz.func8.symm.trans hfn)).symm
  refine ⟨by kernel_rfl, fun j t ht => ?_⟩
  rw [Tryz.params8] at ht
  have hm : t ∈ [27, 46, 5] := by simpa using Array.mem_of_getElem? ht
  have hall : ([27, 46, 5].all fun u => !Tryz.prog.wantsStandIn u) = true := by kernel_rfl
  exact (show Tryz.prog.wantsStandIn t = false by simpa using List.all_eq_true.1 hall t hm)

theorem card : Rows.ConfMixedCardSaid :=
  Claim7.holds_tied_plain_at .later [] _ _ _ _ said (fun _ h => by cases h) (by kernel_rfl) (fun _ h => by cases h) confMixed_row_tie rfl ⟨rfl, rfl⟩ (by kernel_rfl) rfl plain (by kernel_rfl)
end Go.Proofs.YtcnfcililiehlaaGreatDoor.cfx
