/- Own texts, joined. -/
import Derived.Test.YtkjkcgbmaojpiaaGreatDoorR1
import Derived.Test.YtkjkcgbmaojpiaaGreatDoorR2
import Derived.Test.YtkjkcgbmaojpiaaGreatDoorR3
import Derived.Test.YtkjkcgbmaojpiaaGreatDoorR4
import Derived.Test.YtkjkcgbmaojpiaaGreatDoorR5
import Derived.Test.YtkjkcgbmaojpiaaGreatDoorR6
import Derived.Test.YtkjkcgbmaojpiaaGreatDoorR7
import Derived.Test.YtkjkcgbmaojpiaaGreatDoorR8
import Derived.Test.YtkjkcgbmaojpiaaGreatDoorR9
import Derived.Test.YtkjkcgbmaojpiaaGreatDoorR10
import Derived.Test.YtkjkcgbmaojpiaaGreatDoorR11
import Derived.Test.YtkjkcgbmaojpiaaGreatDoorR12
import Derived.Test.YtkjkcgbmaojpiaaGreatDoorR13
import Derived.Test.YtkjkcgbmaojpiaaGreatDoorR14
import Derived.Test.YtkjkcgbmaojpiaaGreatDoorR15
import Derived.Test.YtkjkcgbmaojpiaaGreatDoorR16
import Derived.Test.YtkjkcgbmaojpiaaGreatDoorR17
import Derived.Test.YtkjkcgbmaojpiaaGreatDoorR18
import Derived.Test.YtkjkcgbmaojpiaaGreatDoorR19
import Derived.Test.YtkjkcgbmaojpiaaGreatDoorR20
import Derived.Test.YtkjkcgbmaojpiaaGreatDoorR21
import Derived.Test.YtkjkcgbmaojpiaaGreatDoorR22
import Derived.Test.YtkjkcgbmaojpiaaGreatDoorR23
import Derived.Test.YtkjkcgbmaojpiaaGreatDoorR24
import Derived.Test.YtkjkcgbmaojpiaaGreatDoorR25
import Derived.Test.YtkjkcgbmaojpiaaGreatDoorR26
import Derived.Test.YtkjkcgbmaojpiaaGreatDoorR27
import Derived.Test.YtkjkcgbmaojpiaaGreatDoorR28
import Derived.Test.YtkjkcgbmaojpiaaGreatDoorR29
import Derived.Test.YtkjkcgbmaojpiaaGreatDoorR30
import Derived.Test.YtkjkcgbmaojpiaaGreatDoorR31
import Derived.Test.YtkjkcgbmaojpiaaGreatDoorR32
import Derived.Test.YtkjkcgbmaojpiaaGreatDoorR33
import Derived.Test.YtkjkcgbmaojpiaaGreatDoorR34
import Derived.Test.YtkjkcgbmaojpiaaGreatDoorCards
import Derived.Test.YtkjkcgbmaojpiaaGreatDoorTie
import Derived.Test.YtkjkcgbmaojpiaaGreatDoorRows
import Derived.Orders
import Derived.Below
import Derived.Laws.AppendOwn
import Derived.Test.YtkjkcgbmaojpiaaGreatDoorProg
import Derived.Lib.AtoiTie
import Derived.Lib.ItoaLen
import Derived.Lib.ParseIntBTie
import Derived.Lib.IndexAny
import Derived.Lib.Strings
import Derived.Scope
import Derived.ScopeJumps
import Derived.WalkMore
import Derived.WalkKit
import Derived.WalkSpells
import Derived.WalkLawsBesides
import Derived.Lib.Hide
import Derived.Laws.OwnMore
import Derived.OneCell
import Derived.Deep.Onto
import Derived.Deep.QuietTactic
import Derived.BigQuiet
import Derived.Deep.Draws
import Derived.RegionTactic
import Derived.Deep.RegionLaw
import Derived.Laws.Rows
import Derived.Deep.RegionHeld3
import Derived.Deep.AppendLies
import Derived.StillTailTactics
import Derived.Shelf.Small.Utf8
import Derived.Shelf.Small.Strs
import Derived.Shelf.Small.Wraps
import Derived.Shelf.Utf8.RuneCount
import Derived.Shelf.Strconv.Itoa0
import Derived.Shelf.Strconv.Itoa1
import Derived.Shelf.LaysM
import Derived.Shelf.Strconv.Itoa2
import Derived.Shelf.Strconv.Itoa3
import Derived.Shelf.Strconv.Itoa4
import Derived.Shelf.Strconv.ParseIntEmpty
import Derived.Shelf.Strconv.Clone
import Derived.Shelf.Strconv.SyntaxError
import Derived.Shelf.LaysC
import Derived.Shelf.Strconv.ToError
import Derived.Shelf.Strconv.Lower
import Derived.Shelf.Strconv.ParseUint10
import Derived.Shelf.Strconv.ParseUint10Empty
import Derived.Shelf.Strconv.ParseUint10Any
import Derived.Shelf.Strconv.ParseInt10
import Derived.Shelf.Strconv.RangeError
import Derived.Shelf.Strconv.ToErrorRange
import Derived.Shelf.Strconv.ParseUintEmpty
import Derived.Shelf.Strconv.ParseUint10b64
import Derived.Shelf.Strconv.ParseUint10b32
import Derived.Shelf.Strconv.ParseUint10b16
import Derived.Shelf.Strconv.ParseUint10b8
import Derived.Shelf.Strconv.ParseUint10At
import Derived.Shelf.Strconv.ParseInt10At64
import Derived.Shelf.Strconv.ParseInt10At32
import Derived.Shelf.Strconv.ParseInt10At16
import Derived.Shelf.Strconv.ParseInt10At8
import Derived.Shelf.Strconv.ParseInt10All
import Derived.Shelf.Strconv.ParseIntPublic10
import Derived.Shelf.Strconv.ErrVarParseInt
import Derived.Shelf.Strings.Search1
import Derived.Shelf.Strings.Search2
import Derived.Shelf.Strings.Search3
import Derived.Shelf.Strings.Cut
import Derived.Shelf.Strings.Count
import Derived.Shelf.Strings.Shaped
import Derived.Shelf.Strings.Prefix
import Derived.Shelf.Strings.Split
import Derived.Shelf.Strings.SplitShaped
import Derived.Shelf.Unicode.Decode
import Derived.Shelf.Strings.Runes
import Derived.Shelf.Strings.RuneCount
import Derived.Shelf.Strings.IndexAny
import Derived.Shelf.Strings.AsciiSet
import Derived.Shelf.Strings.IndexAnyAll
import Derived.Shelf.Strings.Explode
import Derived.Shelf.Unicode.DecodeSlow
import Derived.IntWalk
import Derived.Lib.AppendIntMem
import Derived.Laws.IdiomStrings
import Derived.Laws.Concat
import Derived.Laws.AppendOwnNone
import Derived.ProofKit
import Derived.Deep.Slices
import Derived.Lib.SmallJoins
import Derived.SizedLaws
import Derived.Lib.LaidTab
import Derived.Lib.LaidU8
import Derived.LaidMore
import Derived.KernelRfl
import Derived.Laws.ComplexArith
import Derived.Laws.Tables
import Derived.Laws.CopyOwn
import Derived.Lib.SplitLaws
import Derived.Lib.Split
import Derived.Lib.IndexBytes
import Derived.Lib.Join
import Derived.Lib.BufferOwn
import Derived.RangeFuncBox
import Derived.RangeFuncNested
import Derived.RangeFuncBound
import Derived.RangeFuncCalls
import Derived.RangeFuncLeaves
import Derived.Shelf.Abstract
import Derived.Shelf.RegionOpen
import Derived.OwnWalkIn
import Derived.TacticsInMore
import Derived.LoopNIn
import Derived.LoopIn
import Derived.Sort.BigQuietIn
import Derived.Lib.OthersKept
import Derived.Lib.RuneCount
import Derived.Deep.LoopGhost
import Derived.Deep.Cut
import Derived.Deep.CutRange
import Derived.Maps.Own
import Derived.Maps.OwnOps
import Derived.StringKeys
import Derived.RangeFuncWrites
import Derived.OpenShut
import Derived.Deep.DeepHandedRow
import Derived.Deep.DeepWitnessRowRef
import Derived.Stop.LaidErr
import Derived.Carry
import Derived.Lay
namespace Go.Proofs.YtkjkcgbmaojpiaaGreatDoor.Ch.Vd
/-! one transition less -/
def lessC (c : CH) (l : List TC) : CH := ⟨c.nm, c.es, c.vs, c.ss, l⟩
theorem tE_less (c : CH) (l : List TC) (t : TC) : tE (lessC c l) t = tE c t := by
 have h1 : waitP (lessC c l) t.ev = waitP c t.ev := rfl
 unfold tE
 by_cases h : waitP c t.ev
 ·rw [if_neg (fun k => k (h1 ▸ h)), if_neg (fun k => k h)]; rfl
 ·rw [if_pos (h1 ▸ h), if_pos h]
theorem rises {c : CH} (h : Valid c) {i j : Nat} {a b : TC} (hi : c.ts[i]? = some a) (hj : c.ts[j]? = some b) (hij : i ≤ j) : a.fr ≤ b.fr := by
 induction j generalizing b with
 | zero =>
  obtain rfl : i = 0 := by omega
  rw [hi] at hj
  obtain rfl := Option.some.inj hj
  exact Int.le_refl _
 | succ j ih =>
  by_cases he : i = j + 1
  ·subst he
   rw [hi] at hj
   obtain rfl := Option.some.inj hj
   exact Int.le_refl _
  ·have hlt := (List.getElem?_eq_some_iff.1 hj).1
   have hs := h.stand (j + 1) hlt
   unfold standP at hs
   rw [hj] at hs
   have h2 := hs.2 (by omega)
   rw [Nat.add_sub_cancel] at h2
   unfold frC at h2
   obtain ⟨x, hx⟩ : ∃ x, c.ts[j]? = some x := ⟨_, List.getElem?_eq_getElem (by omega)⟩
   rw [hx] at h2
   exact Int.le_trans (ih hx (by omega)) h2
theorem from_of {c : CH} (h : Valid c) {t : TC} (ht : t ∈ c.ts) : fromP c t := by
 obtain ⟨i, hi, rfl⟩ := List.getElem_of_mem ht
 have hs := h.stand i hi
 unfold standP at hs
 rw [List.getElem?_eq_getElem hi] at hs
 exact hs.1
theorem fewer_valid {c : CH} (h : Valid c) {k : Nat} (hk : k < c.ts.length) : Valid (lessC c (c.ts.take k ++ c.ts.drop (k + 1))) := by
 have hm : ∀ t ∈ c.ts.take k ++ c.ts.drop (k + 1), t ∈ c.ts := fun t ht => by
  rcases List.mem_append.1 ht with h | h
  ·exact List.mem_of_mem_take h
  ·exact List.mem_of_mem_drop h
 have hat : ∀ i, (c.ts.take k ++ c.ts.drop (k + 1))[i]? = c.ts[if i < k then i else i + 1]? := fun i => by
  by_cases hi : i < k
  ·rw [if_pos hi, List.getElem?_append_left (by rw [List.length_take]; omega), List.getElem?_take_of_lt hi]
  ·rw [if_neg hi, List.getElem?_append_right (by rw [List.length_take]; omega), List.length_take, List.getElem?_drop]
   congr 1
   omega
 have hln : (c.ts.take k ++ c.ts.drop (k + 1)).length + 1 = c.ts.length := by rw [List.length_append, List.length_take, List.length_drop]; omega
 refine ⟨?_, h.named, h.apart, h.tree, h.init, h.vars, h.blocks, fun i hi => ?_, fun t ht => (tE_less c _ t).trans (h.trans t (hm t ht))⟩
 ·have := h.short
  unfold shortB at this ⊢
  simp only [Bool.and_eq_true, decide_eq_true_eq] at this ⊢
  refine ⟨this.1, this.2.1, this.2.2.1, ?_⟩
  have h4 := this.2.2.2
  show (c.ts.take k ++ c.ts.drop (k + 1)).length ≤ 48
  omega
 ·unfold standP
  show (match (c.ts.take k ++ c.ts.drop (k + 1))[i]? with | some t => fromP c t ∧ (0 < i → frC (c.ts.take k ++ c.ts.drop (k + 1)) (i - 1) ≤ t.fr) | none => False)
  have hi' : i < (c.ts.take k ++ c.ts.drop (k + 1)).length := hi
  obtain ⟨t, ht⟩ : ∃ t, (c.ts.take k ++ c.ts.drop (k + 1))[i]? = some t := ⟨_, List.getElem?_eq_getElem hi'⟩
  rw [ht]
  refine ⟨from_of h (hm t (List.mem_of_getElem? ht)), fun h0 => ?_⟩
  unfold frC
  obtain ⟨u, hu⟩ : ∃ u, (c.ts.take k ++ c.ts.drop (k + 1))[i - 1]? = some u := ⟨_, List.getElem?_eq_getElem (by omega)⟩
  rw [hu]
  rw [hat] at ht hu
  refine rises h hu ht ?_
  by_cases h1 : i - 1 < k
  ·by_cases h2 : i < k
   ·rw [if_pos h1, if_pos h2]; omega
   ·rw [if_pos h1, if_neg h2]; omega
  ·rw [if_neg h1, if_neg (by omega)]; omega
end Go.Proofs.YtkjkcgbmaojpiaaGreatDoor.Ch.Vd
namespace Go.Proofs.YtkjkcgbmaojpiaaGreatDoor.Ch.Vd
open Go.RowKit
set_option maxRecDepth 100000
theorem inn_first {w : World} {size : Nat} {A : Option Addr} {n c : Nat} {xs : List Value} (h : Inn w size (.slice A n c) n xs) {k : Nat} (hk : k ≤ n) : Inn w size (.slice A k c) k (xs.take (k * size)) := by
 have hl := h.len
 rcases h with ⟨e, rfl, rfl⟩ | ⟨ad, c', e, _, h⟩
 ·obtain rfl : k = 0 := by omega
  simp only [Value.slice.injEq] at e
  obtain ⟨rfl, _, rfl⟩ := e
  exact Or.inl ⟨rfl, rfl, by simp⟩
 ·simp only [Value.slice.injEq] at e
  obtain ⟨rfl, _, rfl⟩ := e
  have hks : k * size ≤ n * size := Nat.mul_le_mul_right _ hk
  refine Or.inr ⟨ad, c, rfl, by rw [List.length_take]; omega, fun hk0 => ?_⟩
  obtain ⟨b, o, e, hlt, hc⟩ := h (by omega)
  exact ⟨b, o, e, hlt, fun j u hu => hc j u (by rw [List.getElem?_take] at hu; split at hu; exact hu; cases hu)⟩
theorem inn_behind {w : World} {size : Nat} {b o n c : Nat} {xs : List Value} (h : Inn w size (.slice (some ⟨b, o, none⟩) n c) n xs) {k : Nat} (hk : k ≤ n) (hc : n ≤ c) : Inn w size (.slice (if c = k then some ⟨b, o, none⟩ else some ⟨b, o + k * size, none⟩) (n - k) (c - k)) (n - k) (xs.drop (k * size)) := by
 have hl := h.len
 rcases h with ⟨e, rfl, rfl⟩ | ⟨ad, c', e, _, h⟩
 ·simp at e
 ·simp only [Value.slice.injEq, Option.some.injEq] at e
  obtain ⟨rfl, _, rfl⟩ := e
  rw [show (if c = k then some (⟨b, o, none⟩ : Addr) else some ⟨b, o + k * size, none⟩) = some (if c = k then ⟨b, o, none⟩ else ⟨b, o + k * size, none⟩) by split <;> rfl]
  refine Or.inr ⟨_, c - k, rfl, by rw [List.length_drop, hl, Nat.sub_mul], fun hk0 => ?_⟩
  rw [if_neg (show ¬ c = k by omega)]
  obtain ⟨b', o', e, hlt, hc⟩ := h (by omega)
  simp only [Addr.mk.injEq, and_true] at e
  obtain ⟨rfl, rfl⟩ := e
  exact ⟨b, _, rfl, hlt, fun j u hu => by rw [Nat.add_assoc]; exact hc _ u (by rw [List.getElem?_drop] at hu; exact hu)⟩
theorem flatT_take (l : List TP) (k : Nat) : (flatT l).take (k * 5) = flatT (l.take k) := by
 induction l generalizing k with
 | nil => simp [flatT]
 | cons p r ih =>
  cases k with
  | zero => simp [flatT]
  | succ k => rw [List.take_succ_cons]; show (trV p ++ flatT r).take _ = trV p ++ flatT (r.take k); rw [← ih, List.take_append, List.take_of_length_le (by simp [trV]; omega)]; congr 2; simp [trV]; omega
theorem flatT_drop (l : List TP) (k : Nat) : (flatT l).drop (k * 5) = flatT (l.drop k) := by
 induction l generalizing k with
 | nil => simp [flatT]
 | cons p r ih =>
  cases k with
  | zero => simp
  | succ k => rw [List.drop_succ_cons]; show (trV p ++ flatT r).drop _ = _; rw [← ih, List.drop_append, List.drop_eq_nil_of_le (by simp [trV]; omega), List.nil_append]; congr 1; simp [trV]; omega
theorem own_past9 {w : World} {B : Nat} {e : TypeId} {size n : Nat} {v : Value} {xs : List Value} {b : Nat} (h : w.ownsRow B e size v n xs) (hb : b < B) (j : Nat) (u : Value) : (w.setCell ⟨b, j, none⟩ u).ownsRow B e size v n xs :=
 h.kept (Lib.grownBy_setB (World.grownBy.refl w (some b)) _ _) (by
  cases hv : v.ownBlock with
  | none => exact Or.inl rfl
  | some q => exact Or.inr (fun e => by have := (h.lt q hv).1; have e := Option.some.inj e; omega))
theorem less_split (l : List TP) (k : Nat) : flatT (l.take k ++ l.drop (k + 1)) = flatT (l.take k) ++ flatT (l.drop (k + 1)) := List.flatMap_append
theorem Sb.less {c : CH} (h : Sb c) (k : Nat) : Sb (lessC c (c.ts.take k ++ c.ts.drop (k + 1))) := by
 refine ⟨h.en, fun t ht => ?_⟩
 rcases List.mem_append.1 ht with ht | ht
 ·exact h.ac t (List.mem_of_mem_take ht)
 ·exact h.ac t (List.mem_of_mem_drop ht)
theorem less_chM {w : World} {c : CH} {e1 v1 s1 t1 t1' : Value} {sp : List SP} {tp : List TP} (h : ChM w c e1 v1 s1 t1 sp tp) (k : Nat) (hk : k < tp.length) {n : Nat} (hn : n = (tp.take k ++ tp.drop (k + 1)).length) (hi : Inn w 5 t1' n (flatT (tp.take k ++ tp.drop (k + 1)))) :
  ChM w (lessC c (c.ts.take k ++ c.ts.drop (k + 1))) e1 v1 s1 t1' sp (tp.take k ++ tp.drop (k + 1)) := by
 subst hn
 refine ⟨h.es, h.vs, h.ssE, h.ss, ?_, hi, h.sd, ?_, h.el, h.vl, h.sl, ?_⟩
 ·rw [List.map_append, List.map_take, List.map_drop, h.tsE]; rfl
 ·intro p hp
  rcases List.mem_append.1 hp with hp | hp
  ·exact h.td p (List.mem_of_mem_take hp)
  ·exact h.td p (List.mem_of_mem_drop hp)
 ·have := h.tl
  simp only [List.length_append, List.length_take, List.length_drop]
  omega
set_option maxHeartbeats 16000000 in
theorem fewer_law (c : CH) (eV vV sV tV : Value) (sp : List SP) (tp : List TP) (a : Nat) (ha : a < 256) (w : World) (h : ChIn9 w c eV vV sV tV sp tp) (hE : Env w) :
  Calls Tryz.prog 5 #[.agg #[bstr c.nm, eV, vV, sV, tV], .int .u8 a] w fun e w' => e = .returned (.bool true) ∧ Below w.heap.size w w' := by
 obtain ⟨M, A1, A2, A3, A4, k1, k2, k3, k4, wb, hM, rfl, rfl, rfl, rfl, hwb, hb1, hz1, d0, d1, d2, d3, d4⟩ := box_ch h.m
 have hcp : ∀ W, Below w.heap.size w W → Calls Tryz.prog 10 #[.agg #[bstr c.nm, .slice A1 c.es.length k1, .slice A2 c.vs.length k2, .slice A3 sp.length k3, .slice A4 tp.length k4]] W fun e w' => ∃ v, e = .returned v ∧ CpR c sp tp v w' ∧ Below W.heap.size W w' := fun W hW => copied9_r (h.below hW)
 have hck : ∀ W e1 v1 s1 t1, ChM W c e1 v1 s1 t1 sp tp → (∀ A n k, e1 = .slice A n k → n ≤ k) → Calls Tryz.prog 9 #[.agg #[bstr c.nm, e1, v1, s1, t1]] W fun e w' => e = .returned (.int .i64 (checkE c)) ∧ Below W.heap.size W w' := fun W e1 v1 s1 t1 hM hc => check_any hM hc h.sb
 have hwk : ∀ W, Below w.heap.size w W → Calls Tryz.prog 8 #[] W fun e w' => e = .returned (.bool true) ∧ Below W.heap.size W w' := fun W hW => wakes9_any W (hE.below hW)
 rw [hM] at hcp ⊢
 have HM := Lib.hid hM
 have HCP := Lib.hid hcp; have HCK := Lib.hid hck; have HWK := Lib.hid hwk
 have HW := Lib.hid hwb; have HB := Lib.hid hb1
 have HWZ : Hid (w.heap.size < wb.heap.size) := by rw [hz1]; exact Nat.lt_succ_self _
 have HT : Hid (∀ W, Below wb.heap.size wb W → W.cell? ⟨w.heap.size, 0, none⟩ = some (.string M) ∧ W.cell? ⟨w.heap.size, 1, none⟩ = some (.slice A1 c.es.length k1) ∧ W.cell? ⟨w.heap.size, 2, none⟩ = some (.slice A2 c.vs.length k2) ∧ W.cell? ⟨w.heap.size, 3, none⟩ = some (.slice A3 sp.length k3) ∧ W.cell? ⟨w.heap.size, 4, none⟩ = some (.slice A4 tp.length k4)) := fun W hW =>
  ⟨(hW.cell (cell_lt d0)).trans d0, (hW.cell (cell_lt d1)).trans d1, (hW.cell (cell_lt d2)).trans d2, (hW.cell (cell_lt d3)).trans d3, (hW.cell (cell_lt d4)).trans d4⟩
 have HIN := Lib.hid h
 have hn4l : tp.length ≤ 4611686018427387904 := by have := h.ts; omega
 clear hcp hck hwk h hM hE hwb hb1 hz1 d0 d1 d2 d3 d4
 generalize hgn1 : c.es.length = n1 at *; generalize hgn2 : c.vs.length = n2 at *
 obtain ⟨n3, hn3⟩ : ∃ n, sp.length = n := ⟨_, rfl⟩
 obtain ⟨n4, hn4⟩ : ∃ n, tp.length = n := ⟨_, rfl⟩
 have HN1 := Lib.hid hgn1; have HN2 := Lib.hid hgn2; have HN3 := Lib.hid hn3; have HN4 := Lib.hid hn4
 rw [hn3, hn4] at HCP HW HT
 rw [hn4] at hn4l ⊢; rw [hn3]
 clear hgn1 hgn2 hn3 hn4
 go_enter Tryz.func5, Tryz.ntmps5
 go_upto_region 1 with fail
 rw [← HW.out]
 go_wp2_with fail
 refine (HWK.out _ HB.out).mono ?_
 rintro e w2 ⟨rfl, hb2⟩
 have HB2 := Lib.hid hb2
 have HC2 := Lib.hid (HB.out.trans (hb2.mono HB.out.size))
 obtain ⟨d0, d1, d2, d3, d4⟩ := HT.out _ hb2
 clear hb2
 go_wp2_with fail
 refine (HCP.out _ HC2.out).mono ?_
 rintro e w3 ⟨v, rfl, ⟨e1, v1, s1, t1, rfl, hM3, hc3⟩, hb3⟩
 have HB3 := Lib.hid (HB2.out.trans (hb3.mono HB2.out.size))
 have HC3 := Lib.hid (HC2.out.trans (hb3.mono HC2.out.size))
 have HK3 := Lib.hid (HCK.out _ _ _ _ _ hM3 hc3)
 clear hb3 hM3 hc3 d0 d1 d2 d3 d4
 go_wp2_with fail
 refine HK3.out.mono ?_
 rintro e w4 ⟨rfl, hb4⟩
 have HB4 := Lib.hid (HB3.out.trans (hb4.mono HB3.out.size))
 have HC4 := Lib.hid (HC3.out.trans (hb4.mono HC3.out.size))
 clear hb4 HK3
 by_cases hck : checkE c = 0
 ·have HV := Lib.hid (check_zero.1 hck)
  rw [hck]
  clear hck
  obtain ⟨d0, d1, d2, d3, d4⟩ := HT.out _ HB4.out
  by_cases h0 : n4 = 0
  ·subst h0
   go_wp2
   go_ret
   exact ⟨rfl, HC4.out⟩
  ·have h0' : ¬ (n4 : Int) = 0 := by omega
   obtain ⟨k, hk, hkl⟩ : ∃ k : Nat, ((a : Int).tmod (n4 : Int)) = k ∧ k < n4 := ⟨a % n4, by rw [Int.tmod_eq_emod_of_nonneg (by omega)]; omega, Nat.mod_lt _ (by omega)⟩
   clear h0
   go_wp2_with fail
   refine (HCP.out _ HC4.out).mono ?_
   rintro e w5 ⟨v, rfl, ⟨e1', v1', s1', t1', rfl, hM5, hc5⟩, hb5⟩
   have HB5 := Lib.hid (HB4.out.trans (hb5.mono HB4.out.size))
   have HC5 := Lib.hid (HC4.out.trans (hb5.mono HC4.out.size))
   clear hb5 d0 d1 d2 d3 d4
   obtain ⟨⟨E1, q1, rfl⟩, ⟨E2, q2, rfl⟩, ⟨E3, q3, rfl⟩, ⟨E4, q4, rfl⟩⟩ := hM5.forms
   have HM5 := Lib.hid hM5; have HC5c := Lib.hid hc5
   rw [HN1.out, HN2.out, HN3.out, HN4.out] at HM5; rw [HN1.out] at HC5c
   clear hM5 hc5
   rw [HM.out, HN1.out, HN2.out, HN3.out, HN4.out]
   go_upto_region 7 with fail
   obtain ⟨w6, hw6⟩ : ∃ W, W = w5.alloc (.cells #[.string M, .slice E1 n1 q1, .slice E2 n2 q2, .slice E3 n3 q3, .slice E4 n4 q4] 27) := ⟨_, rfl⟩
   have hx6 : w6.heap[w5.heap.size]? = some (.cells #[.string M, .slice E1 n1 q1, .slice E2 n2 q2, .slice E3 n3 q3, .slice E4 n4 q4] 27 (0, 0)) := by rw [hw6]; exact World.alloc_heap_new w5 _
   have hb6 : Below w5.heap.size w5 w6 := by rw [hw6]; exact (Below.refl _ _).alloc (Nat.le_refl _) _
   have hz6 : w6.heap.size = w5.heap.size + 1 := by rw [hw6]; simp
   rw [← hw6]
   have HX6 := Lib.hid hx6
   have HB56 := Lib.hid hb6
   have hlt5 : w.heap.size < w5.heap.size := Nat.lt_of_lt_of_le HWZ.out HB5.out.size
   have HC6 := Lib.hid (HC5.out.trans (hb6.mono HC5.out.size))
   obtain ⟨d0, d1, d2, d3, d4⟩ := HT.out _ (HB5.out.trans (hb6.mono HB5.out.size))
   have HWB : Hid (∀ w1, Below w5.heap.size w6.drew w1 → Below w.heap.size w w1) := fun w1 hb => HC6.out.trans (((Below.refl _ _).drew.trans hb).mono HC5.out.size)
   have hti := HIN.out.m.ts
   rw [HN4.out] at hti
   obtain ⟨b, o, eA, -, -⟩ := hti.at_ hkl
   subst eA
   have hkc := HIN.out.tc _ _ _ rfl
   rw [HN4.out] at hkc
   have hts := HIN.out.ts
   rw [HN4.out] at hts
   have HT1 : Hid (∀ w1, Below w5.heap.size w6.drew w1 → Inn w1 5 (.slice (some ⟨b, o, none⟩) k k4) k (flatT (tp.take k))) := fun w1 hb => by rw [← flatT_take]; exact inn_first (hti.below (HWB.out w1 hb)) (by omega)
   obtain ⟨Z, hZ⟩ : ∃ Z, (if k4 = k + 1 then some (⟨b, o, none⟩ : Addr) else some ⟨b, o + (k + 1) * 5, none⟩) = Z := ⟨_, rfl⟩
   have HZ := Lib.hid hZ
   clear hZ
   have HWR : Hid (IntKind.i64.wrap ((k : Int) + 1) = (k : Int) + 1) := IntWalk.i64_in _ (by omega)
   have HT2 : Hid (∀ w1, Below w5.heap.size w6.drew w1 → Inn w1 5 (.slice Z (n4 - (k + 1)) (k4 - (k + 1))) (n4 - (k + 1)) (flatT (tp.drop (k + 1)))) := fun w1 hb => by rw [← flatT_drop, ← HZ.out]; exact inn_behind (hti.below (HWB.out w1 hb)) (by omega) hkc
   have HO1 : Hid (∀ u ∈ flatT (tp.take k), u.oneCell' = true) := one_transs (tp.take k) fun p hp => HIN.out.m.td p (List.mem_of_mem_take hp)
   have HO2 : Hid (∀ u ∈ flatT (tp.drop (k + 1)), u.oneCell' = true) := one_transs (tp.drop (k + 1)) fun p hp => HIN.out.m.td p (List.mem_of_mem_drop hp)
   obtain ⟨iIR, hi0, hi1, hi2, hi3⟩ := info_parts Tryz.infoTrans
   have IR0 := Lib.hid hi0; have IR1 := Lib.hid hi1; have IR2 := Lib.hid hi2; have IR3 := Lib.hid hi3
   clear hi0 hi1 hi2 hi3 hti hw6 hb6 hx6
   refine Oz.region_two 43 [fun v w' => w'.ownsRow (w5.heap.size + 1) 42 5 v 0 ([]), Ow.eqR (.pointer (some ⟨w.heap.size, 4, none⟩)), Ow.eqR (.slice (some ⟨b, o, none⟩) n4 k4), Ow.eqR (.int .i64 (k : Int)), Ow.eqR (.slice (some ⟨b, o, none⟩) k k4), fun v w' => w'.ownsRow (w5.heap.size + 1) 42 5 v k (flatT (tp.take k)), Ow.eqR (.pointer (some ⟨w.heap.size, 4, none⟩)), Ow.eqR (.slice (some ⟨b, o, none⟩) n4 k4), Ow.eqR (.int .i64 (k : Int)), Ow.eqR (.int .i64 ((k : Int) + 1)), Ow.eqR (.slice Z (n4 - (k + 1)) (k4 - (k + 1))), fun v w' => w'.ownsRow (w5.heap.size + 1) 42 5 v (k + (n4 - (k + 1))) (flatT (tp.take k) ++ flatT (tp.drop (k + 1))), Ow.eqR (.pointer (some ⟨w5.heap.size, 4, none⟩)), fun _ w' => ∃ v', w'.heap[w5.heap.size]? = some (.cells #[.string M, .slice E1 n1 q1, .slice E2 n2 q2, .slice E3 n3 q3, v'] 27 (0, 0)) ∧ w'.ownsRow (w5.heap.size + 1) 42 5 v' (k + (n4 - (k + 1))) (flatT (tp.take k) ++ flatT (tp.drop (k + 1)))] [true, false, false, false, false, true, false, false, false, false, false, true, false, false] [none, none, none, none, none, some 0, none, none, none, none, none, some 5, none, none] (w5.heap.size) 99 13 (w5.heap.size) (.slice none 0 0) (World.ownsRow_nil _ _ 42 5) (by intro h; cases h) (Nat.le_refl _) (by omega) (by kernel_rfl) rfl (by kernel_rfl) (by kernel_rfl) rfl rfl ⟨Oz.keeps_own _ _ _ _ _, Oz.keeps_eq _ _, Oz.keeps_eq _ _, Oz.keeps_eq _ _, Oz.keeps_eq _ _, Oz.keeps_own _ _ _ _ _, Oz.keeps_eq _ _, Oz.keeps_eq _ _, Oz.keeps_eq _ _, Oz.keeps_eq _ _, Oz.keeps_eq _ _, Oz.keeps_own _ _ _ _ _, Oz.keeps_eq _ _, trivial⟩ ?_
   apply Oz.walk_consL rfl
   ·intro w1 hb hu hd ho K hK
    have hz : w5.heap.size + 1 ≤ w1.heap.size := by have := hb.size; simp at this; omega
    clear hu hd ho
    go_simp
    exact hK _ _ (Oz.good_laid #[] rfl (by omega) (by decide) rfl hz rfl)
   ·intro v; simp only [Act.put, List.setIfInBounds_toArray, List.set_cons_succ, List.set_cons_zero]; exact rfl
   ·intro v; exact (rfl : _ = ([v] : List Value))
   intro x27
   apply Oz.walk_consL rfl
   ·intro w1 hb hu hd ho K hK
    clear hu hd ho
    go_simp
    exact hK _ _ (Oz.good_same rfl rfl rfl)
   ·intro v; simp only [Act.put, List.setIfInBounds_toArray, List.set_cons_succ, List.set_cons_zero]; exact rfl
   ·intro v; exact (rfl : _ = ([x27, v] : List Value))
   intro x28
   apply Oz.walk_consL rfl
   ·intro w1 hb hu hd ho K hK
    have e28 : _ = x28 := Eq.symm (hd 1 (by kernel_rfl))
    subst e28
    clear hu hd ho
    have c_d4 := (hb.cell (show w.heap.size < _ by omega)).trans d4
    go_simp
    exact hK _ _ (Oz.good_same rfl rfl rfl)
   ·intro v; simp only [Act.put, List.setIfInBounds_toArray, List.set_cons_succ, List.set_cons_zero]; exact rfl
   ·intro v; exact (rfl : _ = ([x27, x28, v] : List Value))
   intro x29
   apply Oz.walk_consL rfl
   ·intro w1 hb hu hd ho K hK
    clear hu hd ho
    go_simp
    exact hK _ _ (Oz.good_same rfl rfl rfl)
   ·intro v; simp only [Act.put, List.setIfInBounds_toArray, List.set_cons_succ, List.set_cons_zero]; exact rfl
   ·intro v; exact (rfl : _ = ([x27, x28, x29, v] : List Value))
   intro x30
   apply Oz.walk_consL rfl
   ·intro w1 hb hu hd ho K hK
    have e29 : _ = x29 := Eq.symm (hd 2 (by kernel_rfl))
    subst e29
    have e30 : _ = x30 := Eq.symm (hd 3 (by kernel_rfl))
    subst e30
    clear hu hd ho
    go_simp
    rw [if_pos (show k ≤ k4 by omega)]; exact hK _ _ (Oz.good_same rfl rfl rfl)
   ·intro v; simp only [Act.put, List.setIfInBounds_toArray, List.set_cons_succ, List.set_cons_zero]; exact rfl
   ·intro v; exact (rfl : _ = ([x27, x28, x29, x30, v] : List Value))
   intro x31
   apply Oz.walk_consL rfl
   ·intro w1 hb hu hd ho K hK
    have h27 := hd 0 (by kernel_rfl)
    have e31 : _ = x31 := Eq.symm (hd 4 (by kernel_rfl))
    subst e31
    have hz : w5.heap.size + 1 ≤ w1.heap.size := by have := hb.size; simp at this; omega
    have hoo := ho 0 (by kernel_rfl) rfl
    have hi := (HT1.out w1 hb)
    clear hu hd ho
    refine Ow.step_append rfl (.tmp 27) (.tmp 31) 25 rfl (w5.heap.size + 1) 42 iIR _ 5 88 Tryz.underlying25 IR0.out IR1.out IR2.out IR3.out rfl (by decide) x27 (0) ([]) (by simp [Act.eval]) h27 _ (k) (flatT (tp.take k)) (by simp [Act.eval]) hi (HO1.out) (by unfold maxLen; omega) (by omega) hz ?_
    intro v' w' hown hg hob
    try simp only [Nat.zero_add, List.nil_append] at hown
    exact hK _ _ (Oz.good_row (k := 0) rfl (by omega) h27 hg hown hown hoo hob)
   ·intro v; simp only [Act.put, List.setIfInBounds_toArray, List.set_cons_succ, List.set_cons_zero]; exact rfl
   ·intro v; exact (rfl : _ = ([x27, x28, x29, x30, x31, v] : List Value))
   intro x32
   apply Oz.walk_consL rfl
   ·intro w1 hb hu hd ho K hK
    clear hu hd ho
    go_simp
    exact hK _ _ (Oz.good_same rfl rfl rfl)
   ·intro v; simp only [Act.put, List.setIfInBounds_toArray, List.set_cons_succ, List.set_cons_zero]; exact rfl
   ·intro v; exact (rfl : _ = ([x27, x28, x29, x30, x31, x32, v] : List Value))
   intro x33
   apply Oz.walk_consL rfl
   ·intro w1 hb hu hd ho K hK
    have e33 : _ = x33 := Eq.symm (hd 6 (by kernel_rfl))
    subst e33
    clear hu hd ho
    have c_d4 := (hb.cell (show w.heap.size < _ by omega)).trans d4
    go_simp
    exact hK _ _ (Oz.good_same rfl rfl rfl)
   ·intro v; simp only [Act.put, List.setIfInBounds_toArray, List.set_cons_succ, List.set_cons_zero]; exact rfl
   ·intro v; exact (rfl : _ = ([x27, x28, x29, x30, x31, x32, x33, v] : List Value))
   intro x34
   apply Oz.walk_consL rfl
   ·intro w1 hb hu hd ho K hK
    clear hu hd ho
    go_simp
    exact hK _ _ (Oz.good_same rfl rfl rfl)
   ·intro v; simp only [Act.put, List.setIfInBounds_toArray, List.set_cons_succ, List.set_cons_zero]; exact rfl
   ·intro v; exact (rfl : _ = ([x27, x28, x29, x30, x31, x32, x33, x34, v] : List Value))
   intro x35
   apply Oz.walk_consL rfl
   ·intro w1 hb hu hd ho K hK
    have e35 : _ = x35 := Eq.symm (hd 8 (by kernel_rfl))
    subst e35
    clear hu hd ho
    have hw := HWR.out
    go_simp
    exact hK _ _ (Oz.good_same rfl rfl rfl)
   ·intro v; simp only [Act.put, List.setIfInBounds_toArray, List.set_cons_succ, List.set_cons_zero]; exact rfl
   ·intro v; exact (rfl : _ = ([x27, x28, x29, x30, x31, x32, x33, x34, x35, v] : List Value))
   intro x36
   apply Oz.walk_consL rfl
   ·intro w1 hb hu hd ho K hK
    have e34 : _ = x34 := Eq.symm (hd 7 (by kernel_rfl))
    subst e34
    have e36 : _ = x36 := Eq.symm (hd 9 (by kernel_rfl))
    subst e36
    clear hu hd ho
    go_simp
    rw [if_pos (show (0 : Int) ≤ (k : Int) + 1 ∧ (k : Int) + 1 ≤ (n4 : Int) from ⟨by omega, by omega⟩), HZ.out]; exact hK _ _ (Oz.good_same rfl rfl rfl)
   ·intro v; simp only [Act.put, List.setIfInBounds_toArray, List.set_cons_succ, List.set_cons_zero]; exact rfl
   ·intro v; exact (rfl : _ = ([x27, x28, x29, x30, x31, x32, x33, x34, x35, x36, v] : List Value))
   intro x37
   apply Oz.walk_consL rfl
   ·intro w1 hb hu hd ho K hK
    have h32 := hd 5 (by kernel_rfl)
    have e37 : _ = x37 := Eq.symm (hd 10 (by kernel_rfl))
    subst e37
    have hz : w5.heap.size + 1 ≤ w1.heap.size := by have := hb.size; simp at this; omega
    have hoo := ho 5 (by kernel_rfl) rfl
    have hi := (HT2.out w1 hb)
    clear hu hd ho
    refine Ow.step_append rfl (.tmp 32) (.tmp 37) 25 rfl (w5.heap.size + 1) 42 iIR _ 5 88 Tryz.underlying25 IR0.out IR1.out IR2.out IR3.out rfl (by decide) x32 (k) (flatT (tp.take k)) (by simp [Act.eval]) h32 _ (n4 - (k + 1)) (flatT (tp.drop (k + 1))) (by simp [Act.eval]) hi (HO2.out) (by unfold maxLen; omega) (by omega) hz ?_
    intro v' w' hown hg hob
    try simp only [Nat.zero_add, List.nil_append] at hown
    exact hK _ _ (Oz.good_row (k := 5) rfl (by omega) h32 hg hown hown hoo hob)
   ·intro v; simp only [Act.put, List.setIfInBounds_toArray, List.set_cons_succ, List.set_cons_zero]; exact rfl
   ·intro v; exact (rfl : _ = ([x27, x28, x29, x30, x31, x32, x33, x34, x35, x36, x37, v] : List Value))
   intro x38
   apply Oz.walk_consL rfl
   ·intro w1 hb hu hd ho K hK
    clear hu hd ho
    go_simp
    exact hK _ _ (Oz.good_same rfl rfl rfl)
   ·intro v; simp only [Act.put, List.setIfInBounds_toArray, List.set_cons_succ, List.set_cons_zero]; exact rfl
   ·intro v; exact (rfl : _ = ([x27, x28, x29, x30, x31, x32, x33, x34, x35, x36, x37, x38, v] : List Value))
   intro x39
   apply Oz.walk_consL rfl
   ·intro w1 hb hu hd ho K hK
    have e39 : _ = x39 := Eq.symm (hd 12 (by kernel_rfl))
    subst e39
    have h38 := hd 11 (by kernel_rfl)
    have hh : w1.heap[w5.heap.size]? = some (.cells #[.string M, .slice E1 n1 q1, .slice E2 n2 q2, .slice E3 n3 q3, .slice E4 n4 q4] 27 (0, 0)) := (hu _ (by simp; omega) (fun j hj => by rcases Oz.cl2_cases hj with ⟨_, h⟩ | ⟨rfl, _⟩; cases h; exact Or.inr rfl)).trans HX6.out
    obtain ⟨b0, b1, b2, b3, b4⟩ := box_cells hh
    have z0 := frozen5 hh 4
    obtain ⟨Az, cz, e1⟩ := own_slice h38
    subst e1
    clear hu hd ho
    go_simp
    refine hK undef _ ⟨⟨_, heap_setCell_same _ _ 4 _ _ _ hh, own_past9 h38 (Nat.lt_succ_self _) _ _⟩, Oz.setAll_grown w5.heap.size [_] 4 w1, fun h => by cases h⟩
   ·intro v; exact rfl
   ·intro v; exact rfl
   intro xn13
   refine Oz.walk_nilL rfl (fun w1 hb hu hd => ?_)
   have e28 : _ = x28 := Eq.symm (hd 1 (by kernel_rfl))
   subst e28
   have e29 : _ = x29 := Eq.symm (hd 2 (by kernel_rfl))
   subst e29
   have e30 : _ = x30 := Eq.symm (hd 3 (by kernel_rfl))
   subst e30
   have e31 : _ = x31 := Eq.symm (hd 4 (by kernel_rfl))
   subst e31
   have e33 : _ = x33 := Eq.symm (hd 6 (by kernel_rfl))
   subst e33
   have e34 : _ = x34 := Eq.symm (hd 7 (by kernel_rfl))
   subst e34
   have e35 : _ = x35 := Eq.symm (hd 8 (by kernel_rfl))
   subst e35
   have e36 : _ = x36 := Eq.symm (hd 9 (by kernel_rfl))
   subst e36
   have e37 : _ = x37 := Eq.symm (hd 10 (by kernel_rfl))
   subst e37
   have h38 := hd 11 (by kernel_rfl)
   have e39 : _ = x39 := Eq.symm (hd 12 (by kernel_rfl))
   subst e39
   have hn13 := hd 13 (by kernel_rfl)
   clear hd
   obtain ⟨v', hbx, hown⟩ := hn13
   have HB1 := Lib.hid hb
   obtain ⟨A', c', ev⟩ := own_slice hown
   subst ev
   have hM1 := less_chM (n := k + (n4 - (k + 1))) (HM5.out.below (HB56.out.trans ((Below.refl _ _).drew.trans hb))) k (by rw [HN4.out]; exact hkl) (by have := HN4.out; simp only [List.length_append, List.length_take, List.length_drop]; omega) (by rw [less_split]; exact Inn.of_own hown)
   have hck1 := check_any hM1 HC5c.out (HIN.out.sb.less k)
   rw [(check_zero.2 (fewer_valid HV.out (by rw [← HIN.out.m.tsE, List.length_map, HN4.out]; exact hkl)))] at hck1
   unfold chA at hck1
   rw [show (lessC c (c.ts.take k ++ c.ts.drop (k + 1))).nm = c.nm from rfl, HM.out] at hck1
   have HCK1 := Lib.hid hck1
   have HB1c := Lib.hid (HWB.out _ hb)
   obtain ⟨wq, hwq⟩ : ∃ W, W = w1 := ⟨_, rfl⟩
   subst hwq
   clear hb hu hck1 hM1 d0 d1 d2 d3 d4
   obtain ⟨d0, d1, d2, d3, d4⟩ := box_cells hbx
   clear hbx hown h38 hts hk
   go_simp
   go_wp2_with fail
   refine HCK1.out.mono ?_
   rintro e w8 ⟨rfl, hb8⟩
   go_wp2
   go_ret
   exact ⟨rfl, HB1c.out.trans (hb8.mono HB1c.out.size)⟩
 ·obtain ⟨ck, hckk⟩ : ∃ x, checkE c = x := ⟨_, rfl⟩
  rw [hckk] at hck ⊢
  have hck' : ¬ (0 : Int) = ck := fun e => hck e.symm
  clear hckk
  go_wp2
  go_ret
  exact ⟨rfl, HC4.out⟩
theorem fewer_lawI (c : CH) (eV vV sV tV : Value) (sp : List SP) (tp : List TP) (n : Int) (h0 : 0 ≤ n) (h1 : n ≤ 255) (w : World) (h : ChIn9 w c eV vV sV tV sp tp) (hE : Env w) :
  Calls Tryz.prog 5 #[.agg #[bstr c.nm, eV, vV, sV, tV], .int .u8 n] w fun e w' => e = .returned (.bool true) ∧ Below w.heap.size w w' := by
 obtain ⟨a, rfl⟩ := Int.eq_ofNat_of_zero_le h0
 exact fewer_law c eV vV sV tV sp tp a (by omega) w h hE
end Go.Proofs.YtkjkcgbmaojpiaaGreatDoor.Ch.Vd
