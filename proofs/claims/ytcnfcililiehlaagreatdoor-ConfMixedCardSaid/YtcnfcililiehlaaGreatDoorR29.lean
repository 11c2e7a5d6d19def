/- Own texts, joined: Bi, Zm, Bj, Bk. -/
import Derived.Test.YtcnfcililiehlaaGreatDoorR3
import Derived.Test.YtcnfcililiehlaaGreatDoorR8
import Derived.Test.YtcnfcililiehlaaGreatDoorR27
import Derived.Test.YtcnfcililiehlaaGreatDoorR28
import Derived.Deep.Cut
import Derived.Deep.CutRange
import Derived.Maps.Own
import Derived.Maps.OwnOps
import Derived.StringKeys
namespace Go.Proofs.YtcnfcililiehlaaGreatDoor.Ch
open Go.RowKit
end Go.Proofs.YtcnfcililiehlaaGreatDoor.Ch
namespace Go.Proofs.YtcnfcililiehlaaGreatDoor.Ch
open Go.RowKit
def MethodFor (f : FuncId) (g : StepS) (r : List (List UInt8)) : Prop := ∀ (b B : Nat) (w0 w : World) (c : CH) (eV vV sV tV : Value) (sp : List SP) (tp : List TP) (d : Nat) (F : ByteArray) (A : Option Addr) (cp : Nat),
 OwnCh b B 67 w0 c eV vV sV tV sp tp -> Below w0.heap.size w0 w -> Bdd 1000000 c -> d <= 6000 -> r.length <= 1000000 -> RestR w0 w A cp r -> (∀ x ∈ r, x.length <= 6000) -> Env w ->
 Calls Tryz.prog f #[.pointer (some ⟨b, 0, none⟩), .agg #[.int .i64 d, .string F, .slice A r.length cp]] w (MPost b B w (g c d r))
theorem Method.for {f : FuncId} {g : StepS} (h : Method f g) (r : List (List UInt8)) : MethodFor f g r := fun b B w0 w c eV vV sV tV sp tp d F A cp => h b B w0 w c eV vV sV tV sp tp d F A cp r
end Go.Proofs.YtcnfcililiehlaaGreatDoor.Ch
namespace Go.Proofs.YtcnfcililiehlaaGreatDoor.Ch
open Go.RowKit
section
variable {B : Nat} {w2 wc w' : World} {t : TC} {gv av : Value}
end
end Go.Proofs.YtcnfcililiehlaaGreatDoor.Ch
namespace Go.Proofs.YtcnfcililiehlaaGreatDoor.Ch
open Go.RowKit Go.Maps Go.WideMaps
noncomputable def fR (v : Value) : Option (DataW Unit × List MemPlace) := by
 classical exact if h : ∃ f : Nat, f ≠ 0 /\ v = .func (.func f) #[] #[] then some (.lit (.int .i64 (h.choose : Nat)), []) else if v = .nilFunc then some (.lit (.int .i64 0), []) else none
theorem fR_func (f : Nat) (hf : f ≠ 0) : fR (.func (.func f) #[] #[]) = some (.lit (.int .i64 f), []) := by
 have h : ∃ g : Nat, g ≠ 0 /\ (Value.func (.func f) #[] #[]) = .func (.func g) #[] #[] := ⟨f, hf, rfl⟩
 unfold fR;rw [dif_pos h];have e : h.choose = f := by
  have hs := h.choose_spec.2;injection hs with h1
  injection h1 with h2
  exact h2.symm
 show some (DataW.lit (.int .i64 ((h.choose : Nat) : Int)), []) = _;rw [e]
theorem fR_nil : fR .nilFunc = some (.lit (.int .i64 0), []) := by
 unfold fR;rw [dif_neg (by rintro ⟨f, _, h⟩; cases h), if_pos rfl]
theorem fR_inv {v : Value} {n : Nat} {ps : List MemPlace} (h : fR v = some (.lit (.int .i64 n), ps)) : (n ≠ 0 /\ v = .func (.func n) #[] #[]) \/ (n = 0 /\ v = .nilFunc) := by
 unfold fR at h;split at h
 ·rename_i hf
  obtain ⟨hs0, hs⟩ := hf.choose_spec;simp only [Option.some.injEq, Prod.mk.injEq, DataW.lit.injEq, Lit.int.injEq, true_and] at h;have e : hf.choose = n := by have := h.1; omega
  rw [e] at hs hs0;exact Or.inl ⟨hs0, hs⟩
 ·split at h
  ·rename_i hn
   simp only [Option.some.injEq, Prod.mk.injEq, DataW.lit.injEq, Lit.int.injEq, true_and] at h;exact Or.inr ⟨by have := h.1; omega, hn⟩
  ·cases h
theorem law : Keyed Tryz.prog 9 := string_keyed Tryz.underlying9
def fnT : List (List UInt8 × Nat) :=
 [(wChart, 69), (wEvent, 70), (wInt, 71), (wBool, 72), (wPoint, 73),
  (wBasic, 74), (wBoth, 75), (wFinal, 76), (wOne, 77), (wShallow, 78), (wDeep, 79),
  (wEntry, 80), (wExit, 81), (wOn, 82)]
def fnD : DataW Unit := fnT.foldl (fun D p => D.put (.string p.1) (.lit (.int .i64 p.2))) (.map [])
def fnDs : List (Lit × DataW Unit) := match fnD with
 | .map es => es
 | _ => []
theorem fnD_is : fnD = .map fnDs := by kernel_rfl
theorem fn_keys : fnDs.map (fun p => p.1) = [wBasic, wBool, wBoth, wChart, wDeep, wEntry, wEvent, wExit, wFinal, wInt, wOn, wOne, wPoint, wShallow].map Lit.string := by kernel_rfl
theorem fn_none {F : List UInt8} (h : stepF F = none) : fnD.atKey (.string F) (.lit (.int .i64 0)) = .lit (.int .i64 0) := by
 have hno : ∀ p ∈ fnDs, p.1.sameKey (.string F) = false := by
  intro p hp;have hk : p.1 ∈ fnDs.map (fun p => p.1) := List.mem_map.2 ⟨p, hp, rfl⟩;rw [fn_keys] at hk;have hne : ∀ x ∈ [wBasic, wBool, wBoth, wChart, wDeep, wEntry, wEvent, wExit, wFinal, wInt, wOn, wOne, wPoint, wShallow], x ≠ F := by
   intro x hx e;subst e;simp only [List.mem_cons, List.not_mem_nil, or_false] at hx;rcases hx with rfl | rfl | rfl | rfl | rfl | rfl | rfl | rfl | rfl | rfl | rfl | rfl | rfl | rfl <;> exact absurd h (by simp [stepF, stepT, findS, wBasic, wBool, wBoth, wChart, wDeep, wEntry, wEvent, wExit, wFinal, wInt, wOn, wOne, wPoint, wShallow])
  obtain ⟨x, hx, e⟩ := List.mem_map.1 hk;rw [<- e];have := hne x hx;simp [Lit.sameKey, this]
 unfold DataW.atKey;rw [fnD_is];have : fnDs.find? (fun p => p.1.sameKey (.string F)) = none := List.find?_eq_none.2 (fun p hp => by simp [hno p hp]);simp only [this]
theorem infoMap : Tryz.prog.underlying 68 = some (.map 9 78) := Tryz.underlying68
set_option maxRecDepth 100000 in
set_option maxHeartbeats 4000000 in
theorem readings_any (w : World) : Calls Tryz.prog 45 #[] w fun e w' => e = .returned (.map (some w.heap.size)) /\ w'.ownsMap Tryz.prog 9 fR w.heap.size 14 fnD /\ Below w.heap.size w w' := by
 have hmm := @run_makeMap Tryz.prog;have h0 := World.ownsMap_made w Tryz.prog 9 fR;have hb0 : Below w.heap.size w (w.alloc (.map #[] 0)) := (Below.refl _ _).alloc (Nat.le_refl _) _;have hz0 : (w.alloc (.map #[] 0)).heap.size = w.heap.size + 1 := by simp
 obtain ⟨w1, hr1, h1, hg1⟩ := h0.update law infoMap (by unfold maxLen; omega) (key := .string ⟨#[99, 104, 97, 114, 116]⟩) (val := .func (.func 69) #[] #[]) (keyOf_string_mk Tryz.underlying9 (by unfold maxLen; decide)) (fR_func _ (by decide));obtain ⟨w2, hr2, h2, hg2⟩ := h1.update law infoMap (by unfold maxLen; omega) (key := .string ⟨#[101, 118, 101, 110, 116]⟩) (val := .func (.func 70) #[] #[]) (keyOf_string_mk Tryz.underlying9 (by unfold maxLen; decide)) (fR_func _ (by decide));obtain ⟨w3, hr3, h3, hg3⟩ := h2.update law infoMap (by unfold maxLen; omega) (key := .string ⟨#[105, 110, 116]⟩) (val := .func (.func 71) #[] #[]) (keyOf_string_mk Tryz.underlying9 (by unfold maxLen; decide)) (fR_func _ (by decide));obtain ⟨w4, hr4, h4, hg4⟩ := h3.update law infoMap (by unfold maxLen; omega) (key := .string ⟨#[98, 111, 111, 108]⟩) (val := .func (.func 72) #[] #[]) (keyOf_string_mk Tryz.underlying9 (by unfold maxLen; decide)) (fR_func _ (by decide));obtain ⟨w5, hr5, h5, hg5⟩ := h4.update law infoMap (by unfold maxLen; omega) (key := .string ⟨#[112, 111, 105, 110, 116]⟩) (val := .func (.func 73) #[] #[]) (keyOf_string_mk Tryz.underlying9 (by unfold maxLen; decide)) (fR_func _ (by decide));obtain ⟨w6, hr6, h6, hg6⟩ := h5.update law infoMap (by unfold maxLen; omega) (key := .string ⟨#[98, 97, 115, 105, 99]⟩) (val := .func (.func 74) #[] #[]) (keyOf_string_mk Tryz.underlying9 (by unfold maxLen; decide)) (fR_func _ (by decide));obtain ⟨w7, hr7, h7, hg7⟩ := h6.update law infoMap (by unfold maxLen; omega) (key := .string ⟨#[98, 111, 116, 104]⟩) (val := .func (.func 75) #[] #[]) (keyOf_string_mk Tryz.underlying9 (by unfold maxLen; decide)) (fR_func _ (by decide));obtain ⟨w8, hr8, h8, hg8⟩ := h7.update law infoMap (by unfold maxLen; omega) (key := .string ⟨#[102, 105, 110, 97, 108]⟩) (val := .func (.func 76) #[] #[]) (keyOf_string_mk Tryz.underlying9 (by unfold maxLen; decide)) (fR_func _ (by decide));obtain ⟨w9, hr9, h9, hg9⟩ := h8.update law infoMap (by unfold maxLen; omega) (key := .string ⟨#[111, 110, 101]⟩) (val := .func (.func 77) #[] #[]) (keyOf_string_mk Tryz.underlying9 (by unfold maxLen; decide)) (fR_func _ (by decide));obtain ⟨w10, hr10, h10, hg10⟩ := h9.update law infoMap (by unfold maxLen; omega) (key := .string ⟨#[115, 104, 97, 108, 108, 111, 119]⟩) (val := .func (.func 78) #[] #[]) (keyOf_string_mk Tryz.underlying9 (by unfold maxLen; decide)) (fR_func _ (by decide));obtain ⟨w11, hr11, h11, hg11⟩ := h10.update law infoMap (by unfold maxLen; omega) (key := .string ⟨#[100, 101, 101, 112]⟩) (val := .func (.func 79) #[] #[]) (keyOf_string_mk Tryz.underlying9 (by unfold maxLen; decide)) (fR_func _ (by decide));obtain ⟨w12, hr12, h12, hg12⟩ := h11.update law infoMap (by unfold maxLen; omega) (key := .string ⟨#[101, 110, 116, 114, 121]⟩) (val := .func (.func 80) #[] #[]) (keyOf_string_mk Tryz.underlying9 (by unfold maxLen; decide)) (fR_func _ (by decide));obtain ⟨w13, hr13, h13, hg13⟩ := h12.update law infoMap (by unfold maxLen; omega) (key := .string ⟨#[101, 120, 105, 116]⟩) (val := .func (.func 81) #[] #[]) (keyOf_string_mk Tryz.underlying9 (by unfold maxLen; decide)) (fR_func _ (by decide));obtain ⟨w14, hr14, h14, hg14⟩ := h13.update law infoMap (by unfold maxLen; omega) (key := .string ⟨#[111, 110]⟩) (val := .func (.func 82) #[] #[]) (keyOf_string_mk Tryz.underlying9 (by unfold maxLen; decide)) (fR_func _ (by decide));have hb : Below w.heap.size w w14 := by
  have step : ∀ {x y : World}, Below w.heap.size w x -> x.grownBy y (some w.heap.size) -> Below w.heap.size w y := fun hx hg => hx.grown hg hx.size (fun k hk => by have := Option.some.inj hk; omega)
  exact step (step (step (step (step (step (step (step (step (step (step (step (step (step hb0 hg1) hg2) hg3) hg4) hg5) hg6) hg7) hg8) hg9) hg10) hg11) hg12) hg13) hg14
 have HB := Lib.hid hb;have HO : Hid (w14.ownsMap Tryz.prog 9 fR w.heap.size 14 fnD) := h14;clear h0 h1 h2 h3 h4 h5 h6 h7 h8 h9 h10 h11 h12 h13 h14 hg1 hg2 hg3 hg4 hg5 hg6 hg7 hg8 hg9 hg10 hg11 hg12 hg13 hg14 hb hb0 hz0
 go_enter Tryz.func45, Tryz.ntmps45
 go_wp2;go_ret;exact ⟨rfl, HO.out, HB.out⟩
def Known (F : List UInt8) (r : List (List UInt8)) : Prop := ∀ g, stepF F = some g -> ∃ f, f ≠ 0 /\ MethodFor f g r /\ (∀ args w, (callFunc f args).run Tryz.prog w = .ok (.enter f args) w) /\ fnD.atKey (.string F) (.lit (.int .i64 0)) = .lit (.int .i64 (f : Nat))
theorem known_nil : Known [] [] := fun g h => by cases h
theorem look_of {w : World} {b : Nat} (h : w.ownsMap Tryz.prog 9 fR b 14 fnD) (F : ByteArray) (hF : F.size <= maxLen) {r : List (List UInt8)} (hk : Known F.data.toList r) : ∃ v, (Instr.lookup 68 (.map (some b)) (.string F) false).run Tryz.prog w = .ok v w /\
 ((∃ f g, v = .func (.func f) #[] #[] /\ stepF F.data.toList = some g /\ MethodFor f g r /\ ∀ args w, (callFunc f args).run Tryz.prog w = .ok (.enter f args) w) \/ (v = .nilFunc /\ stepF F.data.toList = none)) := by
 obtain ⟨v, ps, hrun, hv⟩ := h.lookup law infoMap (z := .nilFunc) (by kernel_rfl) fR_nil (keyOf_string_mk Tryz.underlying9 hF);refine ⟨v, hrun, ?_⟩;cases hs : stepF F.data.toList with
 | none =>
  rw [fn_none hs] at hv;rcases fR_inv (n := 0) hv with ⟨h0, _⟩ | ⟨_, rfl⟩
  ·exact absurd rfl h0
  ·exact Or.inr ⟨rfl, rfl⟩
 | some g =>
  obtain ⟨f, hf, hm, he, ha⟩ := hk g hs;rw [ha] at hv;rcases fR_inv hv with ⟨_, rfl⟩ | ⟨h0, _⟩
  ·exact Or.inl ⟨f, g, rfl, rfl, hm, he⟩
  ·exact absurd h0 hf
end Go.Proofs.YtcnfcililiehlaaGreatDoor.Ch
