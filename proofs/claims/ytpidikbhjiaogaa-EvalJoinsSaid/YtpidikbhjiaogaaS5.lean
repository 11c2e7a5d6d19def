/- The law EvalJoins of quintainlaw05: whatever two lists of cells and world come in: it returns true, and they read as they did. No condition beyond the form's own. -/
import Derived.Test.YtpidikbhjiaogaaRows
import Derived.Test.YtpidikbhjiaogaaChecked
import Derived.Test.YtpidikbhjiaogaaVy
import Derived.Test.YtpidikbhjiaogaaWc
import Derived.ProofKit
import Derived.OpenShut
import Derived.Deep.DeepHandedRow
import Derived.Deep.DeepWitnessRowRef
import Derived.Lib.LaidTab
import Derived.LaidMore
import Derived.Stop.LaidErr
import Derived.SizedLaws
import Derived.Carry
namespace Go.Proofs.Ytpidikbhjiaogaa.ejo
open Go.ChangeShapes Go.WideShapes Go.ChangeAt Go.RowKit
open Go.ChangeMaps (open_string)

theorem own : ownKnob Try.prog.godebug = none := by kernel_rfl
theorem laidOut : laidOutB Try.prog = true := by kernel_rfl

set_option maxRecDepth 100000 in
/-- WHAT THE WALK GIVES, for every argument and every world in which the variables lie as laid. -/
theorem contract (H : Type) (enc : TypeId × Value → H) (W : World) (base : Nat) (args : Array Value) (ds gs : List (DataW H)) (before : List MemPlace)
    (hval : ∀ (j : Nat) t v, Try.f6.params[j]? = some t → args[j]? = some v → Value.okWide Try.prog W .any base t v)
    (hW : DataW.Whole enc Try.prog Try.f6.params.toList Rows.evalJoinsSpec.vars false W args.toList ds gs before) (hsz : (DataW.weightsEach Try.prog (Try.f6.params.toList ++ (OpenSpec.ofChange Rows.evalJoinsSpec).bare.plain.varTypes Try.prog) (ds ++ gs)).all (· ≤ reachBytes) = true) :
    Calls Try.prog 6 args W fun e W' => ∃ v, e = .returned v ∧ Rows.evalJoinsSpec.post enc Try.prog Try.f6 false true false false W args v W' := by
  have hW' := hW
  obtain ⟨p, q, hA0, hV, rfl, hfz, hnd⟩ := hW
  have hA : DataW.TrodAll enc Try.prog W 0 (fun _ => true) true Try.f6.params.toList args.toList ds p := hA0
  rw [Try.params6] at hA hval hsz
  obtain ⟨v0, vs0, d0, ds0, p0, q0, hargs, rfl, rfl, h0, r0⟩ := trodAll_cons hA
  obtain ⟨v1, vs1, d1, ds1, p1, q1, rfl, rfl, rfl, h1, r1⟩ := trodAll_cons r0
  obtain ⟨v2, vs2, d2, ds2, p2, q2, rfl, rfl, rfl, h2, r2⟩ := trodAll_cons r1
  obtain ⟨rfl, rfl, rfl⟩ := trodAll_nil r2
  obtain rfl : args = #[v0, v1, v2] := by cases args; simp_all
  obtain ⟨rfl, rfl⟩ := trodVars_none hV
  clear hA0
  simp only [List.append_nil] at hW'
  have hlt : ∀ x ∈ p0 ++ (p1 ++ (p2 ++ [])), x.block < W.heap.size := fun x hx => by simpa using hW'.lt x (by simpa using hx)
  have c0 := fun (W' : World) (hn : Below W.heap.size W W') => Below.trod laidOut (t := 26) (by kernel_rfl) (of_decide_eq_true (by kernel_rfl)) h0 hn (fun x hx => hlt x (by simp [hx]))
  have c1 := fun (W' : World) (hn : Below W.heap.size W W') => Below.trod laidOut (t := 26) (by kernel_rfl) (of_decide_eq_true (by kernel_rfl)) h1 hn (fun x hx => hlt x (by simp [hx]))
  have c2 := fun (W' : World) (hn : Below W.heap.size W W') => Below.trod laidOut (t := 31) (by kernel_rfl) (of_decide_eq_true (by kernel_rfl)) h2 hn (fun x hx => hlt x (by simp [hx]))
  obtain ⟨xs0, hR0, hN0, hd0, hc0⟩ := open_cells (hval 0 26 v0 rfl rfl) h0
  obtain ⟨xs1, hR1, hN1, hd1, hc1⟩ := open_cells (hval 1 26 v1 rfl rfl) h1
  obtain ⟨vv2, xv2, sv2, vs2, ws2, ss2, da2, db2, dc2, rfl, rfl, hV2, hX2, hS2, hI2, ea2, eb2, ec2⟩ := open_world (hval 2 31 v2 rfl rfl) h2
  have hlen0 : xs0.length * 32 ≤ reachBytes := by
    rcases hd0 with ⟨_, rfl⟩ | ⟨es, sp, rfl, hl⟩
    · simp
    · have := sized_slice hsz (j := 0) (t := 26) (e := 41) rfl rfl Try.underlying26
      rw [bytesCell] at this
      omega
  unfold reachBytes at hlen0
  have hlen1 : xs1.length * 32 ≤ reachBytes := by
    rcases hd1 with ⟨_, rfl⟩ | ⟨es, sp, rfl, hl⟩
    · simp
    · have := sized_slice hsz (j := 1) (t := 26) (e := 41) rfl rfl Try.underlying26
      rw [bytesCell] at this
      omega
  unfold reachBytes at hlen1
  obtain ⟨hlv2, hlx2, hls2⟩ := world_sized hsz (j := 2) rfl rfl ea2 eb2 ec2
  unfold reachBytes at hlv2 hlx2 hls2
  refine (evalJoins_law v0 v1 vv2 xv2 sv2 xs0 xs1 vs2 ws2 ss2 W hR0 (by omega) hR1 (by omega) hV2 (by omega) hX2 (by omega) hS2 (by omega) hI2).mono fun e W' ⟨he, hg⟩ => ?_
  subst he
  refine ⟨_, rfl, _, _, _, [], p0 ++ (p1 ++ (p2 ++ [])), [], hW', ?_, ?_, rfl, hg.frame _, fun h => by cases h⟩
  · exact trodAll_cons_mk (shut_bool Try.underlying4 _) trodAll_mk0
  · exact trodAll_cons_mk (c0 W' hg) (trodAll_cons_mk (c1 W' hg) (trodAll_cons_mk (c2 W' hg) trodAll_mk0))
theorem reads_in (os : Os) {H : Type} (enc : TypeId × Value → H) : ∃ places, DataW.whole enc Try.prog ((World.doorLaid Try.prog 24 os).forCall (fun _ _ => 0) ⟨#[], #[.slice none 0 0, .slice none 0 0, .agg #[.slice none 0 0, .slice none 0 0, .slice none 0 0]], []⟩).memory Try.f6.params.toList Rows.evalJoinsSpec.vars false #[Value.slice none 0 0, Value.slice none 0 0, Value.agg #[.slice none 0 0, .slice none 0 0, .slice none 0 0]].toList 8 = some ([.nil, .nil, .agg [.nil, .nil, .nil]], [], places) :=
  ⟨[], by kernel_rfl⟩

set_option maxRecDepth 100000 in
theorem lifted (os : Os) (started : os.Started) (H : Type) (enc : TypeId × Value → H) (F : Stop.Interp) :
    ReturnsInHanded {} Try.checked os 6 .any ((OpenSpec.ofChange Rows.evalJoinsSpec).preRow enc Try.prog Try.f6 Rows.evalJoinsRow.domain false Rows.evalJoinsRow.laid) (((OpenSpec.ofChange Rows.evalJoinsSpec).at F).post enc Try.prog Try.f6 false true false false) := by
  obtain ⟨places, hx⟩ := reads_in os enc
  refine returnsInHanded_of_row (C := Try.checked) (s := (OpenSpec.ofChange Rows.evalJoinsSpec)) own started (by kernel_rfl) Try.func6
    (witness_row_atRef (enc := enc) (C := Try.checked) false (World.doorLaid Try.prog 24 os) #[.slice none 0 0, .slice none 0 0, .agg #[.slice none 0 0, .slice none 0 0, .slice none 0 0]] rfl (by kernel_rfl) (by kernel_rfl) (by kernel_rfl)
      (OpenSpec.preRow_of_cond 8 hx (by kernel_rfl) (fun k hk => by cases hk) (by kernel_rfl) (laidMetH_nil _ _))) ?_
  intro W base args ds gs before hval hW _ _ hsz _ _ _
  exact contract H enc W base args ds gs before hval hW hsz

theorem said : Rows.EvalJoinsSaid :=
  OpenClaim.holds_of_cond 6 Try.f6 rfl rfl rfl rfl rfl rfl rfl ⟨rfl, rfl, rfl, rfl, rfl⟩ rfl rfl rfl rfl rfl (by kernel_rfl) Try.func6 (by kernel_rfl)
    (of_decide_eq_true (by kernel_rfl)) (by unfold Func.isWrapper; first | (rw [if_pos (by decide +kernel)]; kernel_rfl) | (rw [if_neg (by decide +kernel)]; exact ⟨rfl, rfl⟩))
    (fun os started H enc _ F => by rw [OpenClaim.pre_eq_preRow]; exact lifted os started H enc F)
end Go.Proofs.Ytpidikbhjiaogaa.ejo
