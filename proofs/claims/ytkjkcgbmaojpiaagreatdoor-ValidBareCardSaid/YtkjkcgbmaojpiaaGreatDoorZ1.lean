/- Own texts, joined. -/
import Derived.Test.YtkjkcgbmaojpiaaGreatDoorR1
import Derived.Test.YtkjkcgbmaojpiaaGreatDoorR2
import Derived.Test.YtkjkcgbmaojpiaaGreatDoorR3
import Derived.Test.YtkjkcgbmaojpiaaGreatDoorR4
import Derived.Test.YtkjkcgbmaojpiaaGreatDoorR5
import Derived.Test.YtkjkcgbmaojpiaaGreatDoorR6
import Derived.Test.YtkjkcgbmaojpiaaGreatDoorR7
import Derived.Test.YtkjkcgbmaojpiaaGreatDoorR8
import Derived.Test.YtkjkcgbmaojpiaaGreatDoorR9
import Derived.Test.YtkjkcgbmaojpiaaGreatDoorR10
import Derived.Test.YtkjkcgbmaojpiaaGreatDoorR11
import Derived.Test.YtkjkcgbmaojpiaaGreatDoorR12
import Derived.Test.YtkjkcgbmaojpiaaGreatDoorR13
import Derived.Test.YtkjkcgbmaojpiaaGreatDoorR14
import Derived.Test.YtkjkcgbmaojpiaaGreatDoorR15
import Derived.Test.YtkjkcgbmaojpiaaGreatDoorR16
import Derived.Test.YtkjkcgbmaojpiaaGreatDoorR17
import Derived.Test.YtkjkcgbmaojpiaaGreatDoorR18
import Derived.Test.YtkjkcgbmaojpiaaGreatDoorR19
import Derived.Test.YtkjkcgbmaojpiaaGreatDoorR20
import Derived.Test.YtkjkcgbmaojpiaaGreatDoorR21
import Derived.Test.YtkjkcgbmaojpiaaGreatDoorR22
import Derived.Test.YtkjkcgbmaojpiaaGreatDoorR23
import Derived.Test.YtkjkcgbmaojpiaaGreatDoorR24
import Derived.Test.YtkjkcgbmaojpiaaGreatDoorR25
import Derived.Test.YtkjkcgbmaojpiaaGreatDoorR26
import Derived.Test.YtkjkcgbmaojpiaaGreatDoorR27
import Derived.Test.YtkjkcgbmaojpiaaGreatDoorR28
import Derived.Test.YtkjkcgbmaojpiaaGreatDoorR29
import Derived.Test.YtkjkcgbmaojpiaaGreatDoorR30
import Derived.Test.YtkjkcgbmaojpiaaGreatDoorR31
import Derived.Test.YtkjkcgbmaojpiaaGreatDoorR32
import Derived.Test.YtkjkcgbmaojpiaaGreatDoorR33
import Derived.Test.YtkjkcgbmaojpiaaGreatDoorR34
import Derived.Test.YtkjkcgbmaojpiaaGreatDoorCards
import Derived.Test.YtkjkcgbmaojpiaaGreatDoorTie
import Derived.Test.YtkjkcgbmaojpiaaGreatDoorRows
import Derived.Orders
import Derived.Below
import Derived.Laws.AppendOwn
import Derived.Test.YtkjkcgbmaojpiaaGreatDoorProg
import Derived.Lib.AtoiTie
import Derived.Lib.ItoaLen
import Derived.Lib.ParseIntBTie
import Derived.Lib.IndexAny
import Derived.Lib.Strings
import Derived.Scope
import Derived.ScopeJumps
import Derived.WalkMore
import Derived.WalkKit
import Derived.WalkSpells
import Derived.WalkLawsBesides
import Derived.Lib.Hide
import Derived.Laws.OwnMore
import Derived.OneCell
import Derived.Deep.Onto
import Derived.Deep.QuietTactic
import Derived.BigQuiet
import Derived.Deep.Draws
import Derived.RegionTactic
import Derived.Deep.RegionLaw
import Derived.Laws.Rows
import Derived.Deep.RegionHeld3
import Derived.Deep.AppendLies
import Derived.StillTailTactics
import Derived.Shelf.Small.Utf8
import Derived.Shelf.Small.Strs
import Derived.Shelf.Small.Wraps
import Derived.Shelf.Utf8.RuneCount
import Derived.Shelf.Strconv.Itoa0
import Derived.Shelf.Strconv.Itoa1
import Derived.Shelf.LaysM
import Derived.Shelf.Strconv.Itoa2
import Derived.Shelf.Strconv.Itoa3
import Derived.Shelf.Strconv.Itoa4
import Derived.Shelf.Strconv.ParseIntEmpty
import Derived.Shelf.Strconv.Clone
import Derived.Shelf.Strconv.SyntaxError
import Derived.Shelf.LaysC
import Derived.Shelf.Strconv.ToError
import Derived.Shelf.Strconv.Lower
import Derived.Shelf.Strconv.ParseUint10
import Derived.Shelf.Strconv.ParseUint10Empty
import Derived.Shelf.Strconv.ParseUint10Any
import Derived.Shelf.Strconv.ParseInt10
import Derived.Shelf.Strconv.RangeError
import Derived.Shelf.Strconv.ToErrorRange
import Derived.Shelf.Strconv.ParseUintEmpty
import Derived.Shelf.Strconv.ParseUint10b64
import Derived.Shelf.Strconv.ParseUint10b32
import Derived.Shelf.Strconv.ParseUint10b16
import Derived.Shelf.Strconv.ParseUint10b8
import Derived.Shelf.Strconv.ParseUint10At
import Derived.Shelf.Strconv.ParseInt10At64
import Derived.Shelf.Strconv.ParseInt10At32
import Derived.Shelf.Strconv.ParseInt10At16
import Derived.Shelf.Strconv.ParseInt10At8
import Derived.Shelf.Strconv.ParseInt10All
import Derived.Shelf.Strconv.ParseIntPublic10
import Derived.Shelf.Strconv.ErrVarParseInt
import Derived.Shelf.Strings.Search1
import Derived.Shelf.Strings.Search2
import Derived.Shelf.Strings.Search3
import Derived.Shelf.Strings.Cut
import Derived.Shelf.Strings.Count
import Derived.Shelf.Strings.Shaped
import Derived.Shelf.Strings.Prefix
import Derived.Shelf.Strings.Split
import Derived.Shelf.Strings.SplitShaped
import Derived.Shelf.Unicode.Decode
import Derived.Shelf.Strings.Runes
import Derived.Shelf.Strings.RuneCount
import Derived.Shelf.Strings.IndexAny
import Derived.Shelf.Strings.AsciiSet
import Derived.Shelf.Strings.IndexAnyAll
import Derived.Shelf.Strings.Explode
import Derived.Shelf.Unicode.DecodeSlow
import Derived.IntWalk
import Derived.Lib.AppendIntMem
import Derived.Laws.IdiomStrings
import Derived.Laws.Concat
import Derived.Laws.AppendOwnNone
import Derived.ProofKit
import Derived.Deep.Slices
import Derived.Lib.SmallJoins
import Derived.SizedLaws
import Derived.Lib.LaidTab
import Derived.Lib.LaidU8
import Derived.LaidMore
import Derived.KernelRfl
import Derived.Laws.ComplexArith
import Derived.Laws.Tables
import Derived.Laws.CopyOwn
import Derived.Lib.SplitLaws
import Derived.Lib.Split
import Derived.Lib.IndexBytes
import Derived.Lib.Join
import Derived.Lib.BufferOwn
import Derived.Lib.OthersKept
import Derived.Lib.RuneCount
import Derived.Deep.LoopGhost
import Derived.RangeFuncBox
import Derived.RangeFuncNested
import Derived.RangeFuncBound
import Derived.RangeFuncCalls
import Derived.RangeFuncLeaves
import Derived.Shelf.Abstract
import Derived.Shelf.RegionOpen
import Derived.OwnWalkIn
import Derived.TacticsInMore
import Derived.LoopNIn
import Derived.LoopIn
import Derived.Sort.BigQuietIn
import Derived.Deep.Cut
import Derived.Deep.CutRange
import Derived.Maps.Own
import Derived.Maps.OwnOps
import Derived.StringKeys
import Derived.RangeFuncWrites
import Derived.OpenShut
import Derived.Deep.DeepHandedRow
import Derived.Deep.DeepWitnessRowRef
import Derived.Stop.LaidErr
import Derived.Carry
import Derived.Lay
namespace Go.Proofs.YtkjkcgbmaojpiaaGreatDoor.Ch.Vd
/-! bare -/
def bareS (s : SC) : SC := ⟨s.nm, s.kd, s.dp, s.ini, [], []⟩
def bareT (t : TC) : TC := ⟨t.fr, t.ev, [], t.to, []⟩
def bareC (c : CH) : CH := ⟨c.nm, c.es, c.vs, c.ss.map bareS, c.ts.map bareT⟩
theorem dC_bare (ss : List SC) : dC (ss.map bareS) = dC ss := by
 funext i; unfold dC; rw [List.getElem?_map]; cases ss[i]? <;> rfl
theorem kC_bare (ss : List SC) : kC (ss.map bareS) = kC ss := by
 funext i; unfold kC; rw [List.getElem?_map]; cases ss[i]? <;> rfl
theorem iniC_bare (ss : List SC) : iniC (ss.map bareS) = iniC ss := by
 funext i; unfold iniC; rw [List.getElem?_map]; cases ss[i]? <;> rfl
theorem stN_bare (c : CH) : stN (bareC c) = stN c := by
 unfold stN bareC; rw [List.map_map]; rfl
theorem ix_map {α β : Type} (f : α → β) (p : β → Bool) (q : α → Bool) (h : ∀ a, p (f a) = q a) : ∀ (l : List α) (i : Nat), ixP p (l.map f) i = ixP q l i
 | [], _ => rfl
 | x :: r, i => by
  rw [List.map_cons]
  unfold ixP
  rw [h x, ix_map f p q h r (i + 1)]
theorem place_bare (ss : List SC) (n : List UInt8) : placeC (ss.map bareS) n = placeC ss n := ix_map bareS _ _ (fun _ => rfl) ss 0
theorem begin_bare (ss : List SC) (i : Nat) (k : Int) : beginP (ss.map bareS) i k = beginP ss i k := by
 unfold beginP; rw [dC_bare, kC_bare]
theorem bare_valid {c : CH} (h : Valid c) : Valid (bareC c) := by
 refine ⟨?_, ?_, ?_, ?_, fun i hi => ?_, h.vars, fun s hs => ?_, fun i hi => ?_, fun t ht => ?_⟩
 ·have := h.short
  unfold shortB at this ⊢
  unfold bareC
  simp only [List.length_map]
  exact this
 ·have := h.named
  unfold namedB at this ⊢
  rw [stN_bare]; exact this
 ·have := h.apart
  unfold apartB at this ⊢
  rw [stN_bare]; exact this
 ·have := h.tree
  unfold treeP at this ⊢
  unfold bareC
  simp only [List.length_map]
  rw [dC_bare, kC_bare]; exact this
 ·have hi' : i < c.ss.length := by unfold bareC at hi; simpa using hi
  have := h.init i hi'
  show initE (c.ss.map bareS) i = 0
  unfold initE at this ⊢
  rw [kC_bare, iniC_bare, place_bare]
  by_cases h1 : kC c.ss i ≠ 2 ∧ ¬ Tr.pastP (kC c.ss i)
  ·rw [if_pos h1] at this ⊢; exact this
  ·rw [if_neg h1] at this ⊢
   by_cases h2 : beginP c.ss i (placeC c.ss (iniC c.ss i))
   ·rw [if_pos (by rw [begin_bare]; exact h2)]
   ·rw [if_neg h2] at this; cases this
 ·obtain ⟨s', _, rfl⟩ := List.mem_map.1 hs
  unfold blocksE
  rw [if_neg (by rintro (⟨_, h⟩ | ⟨_, h⟩) <;> exact h rfl)]
  rfl
 ·have hi' : i < c.ts.length := by unfold bareC at hi; simpa using hi
  have hs := h.stand i hi'
  unfold standP at hs ⊢
  show (match (c.ts.map bareT)[i]? with | some t => fromP (bareC c) t ∧ (0 < i → frC (c.ts.map bareT) (i - 1) ≤ t.fr) | none => False)
  rw [List.getElem?_map]
  rw [List.getElem?_eq_getElem hi'] at hs ⊢
  refine ⟨?_, fun h0 => ?_⟩
  ·have := hs.1
   unfold fromP at this ⊢
   unfold bareC
   simp only [List.length_map]
   rw [kC_bare]; exact this
  ·have := hs.2 h0
   unfold frC at this ⊢
   rw [List.getElem?_map]
   cases hx : c.ts[i - 1]? with
   | none => rw [hx] at this; exact this
   | some x => rw [hx] at this; exact this
 ·obtain ⟨t', ht', rfl⟩ := List.mem_map.1 ht
  have := h.trans t' ht'
  unfold tE at this ⊢
  have hw : waitP (bareC c) (bareT t').ev = waitP c t'.ev := by
   unfold waitP
   apply propext
   show (t'.ev = [] ∨ t'.ev = wError ∨ t'.ev ∈ c.es ∨ ∃ s ∈ c.ss.map bareS, Tr.parentP s.kd ∧ t'.ev = wDone ++ s.nm) ↔ _
   constructor
   ·rintro (h | h | h | ⟨s, hs, h1, h2⟩)
    ·exact Or.inl h
    ·exact Or.inr (Or.inl h)
    ·exact Or.inr (Or.inr (Or.inl h))
    ·obtain ⟨s', hs', rfl⟩ := List.mem_map.1 hs
     exact Or.inr (Or.inr (Or.inr ⟨s', hs', h1, h2⟩))
   ·rintro (h | h | h | ⟨s, hs, h1, h2⟩)
    ·exact Or.inl h
    ·exact Or.inr (Or.inl h)
    ·exact Or.inr (Or.inr (Or.inl h))
    ·exact Or.inr (Or.inr (Or.inr ⟨bareS s, List.mem_map_of_mem hs, h1, h2⟩))
  by_cases h1 : waitP c t'.ev
  ·rw [if_neg (fun k => k h1)] at this
   rw [if_neg (fun k => k (hw ▸ h1))]
   rw [orE_zero, orE_zero] at this
   have h2 : targE (bareC c) (bareT t') = targE c t' := by
    unfold targE
    show (if t'.to = [] then 0 else if placeC (c.ss.map bareS) t'.to = -1 then 2 else if Tr.dom (dC (c.ss.map bareS)) (kC (c.ss.map bareS)) t'.fr.toNat (placeC (c.ss.map bareS) t'.to).toNat ≠ -1 then 0 else 9) = _
    rw [place_bare, dC_bare, kC_bare]
   rw [h2, this.2.1]; rfl
  ·rw [if_pos h1] at this; cases this
/-! one event more -/
def moreC (c : CH) (n : List UInt8) : CH := ⟨c.nm, c.es ++ [n], c.vs, c.ss, c.ts⟩
theorem act_more {c : CH} {n : List UInt8} {a : AM} (h : actE c a = 0) : actE (moreC c n) a = 0 := by
 unfold actE at h ⊢
 by_cases h1 : a.kd ≠ 1
 ·rw [if_pos h1] at h ⊢
  by_cases h2 : a.nm ∈ c.es
  ·rw [if_pos (show a.nm ∈ (moreC c n).es from List.mem_append_left _ h2)]
  ·rw [if_neg h2] at h; cases h
 ·rw [if_neg h1] at h ⊢; exact h
theorem block_more {c : CH} {n : List UInt8} {l : List AM} (h : blockE c l = 0) : blockE (moreC c n) l = 0 := by
 unfold blockE at h ⊢
 by_cases h1 : l = []
 ·rw [if_pos h1]
 ·rw [if_neg h1] at h ⊢
  by_cases h2 : rightA l = false
  ·rw [if_pos h2] at h; cases h
  ·rw [if_neg h2] at h ⊢
   rw [firE_zero] at h ⊢
   intro i hi
   have := h i hi
   unfold actAt at this ⊢
   rw [List.getElem?_eq_getElem hi] at this ⊢
   exact act_more this
theorem more_check {c : CH} (h : Valid c) (n : List UInt8) : checkE (moreC c n) = 0 ∨ checkE (moreC c n) = 4 ∨ checkE (moreC c n) = 2 ∨ checkE (moreC c n) = 3 := by
 by_cases h1 : shortB (moreC c n) = false
 ·exact Or.inr (Or.inl (by unfold checkE; rw [if_pos h1]))
 by_cases h2 : namedB (moreC c n) = false
 ·exact Or.inr (Or.inr (Or.inl (by unfold checkE; rw [if_neg h1, if_pos h2])))
 by_cases h3 : apartB (moreC c n) = false
 ·exact Or.inr (Or.inr (Or.inr (by unfold checkE; rw [if_neg h1, if_neg h2, if_pos h3])))
 refine Or.inl (check_zero.2 ⟨by simpa using h1, by simpa using h2, by simpa using h3, h.tree, h.init, h.vars, fun s hs => ?_, h.stand, fun t ht => ?_⟩)
 ·have := h.blocks s hs
  unfold blocksE at this ⊢
  by_cases h4 : (Tr.pastP s.kd ∧ s.en ≠ []) ∨ ((Tr.pastP s.kd ∨ s.kd = 4) ∧ s.ex ≠ [])
  ·rw [if_pos h4] at this; cases this
  ·rw [if_neg h4] at this ⊢
   rw [orE_zero] at this ⊢
   exact ⟨block_more this.1, block_more this.2⟩
 ·have := h.trans t ht
  unfold tE at this ⊢
  by_cases h4 : waitP c t.ev
  ·rw [if_neg (fun k => k h4)] at this
   have h5 : waitP (moreC c n) t.ev := by
    rcases h4 with h | h | h | h
    ·exact Or.inl h
    ·exact Or.inr (Or.inl h)
    ·exact Or.inr (Or.inr (Or.inl (List.mem_append_left _ h)))
    ·exact Or.inr (Or.inr (Or.inr h))
   rw [if_neg (fun k => k h5)]
   rw [orE_zero, orE_zero] at this ⊢
   exact ⟨this.1, this.2.1, block_more this.2.2⟩
  ·rw [if_pos h4] at this; cases this
end Go.Proofs.YtkjkcgbmaojpiaaGreatDoor.Ch.Vd
namespace Go.Proofs.YtkjkcgbmaojpiaaGreatDoor.Ch.Vd
open Go.RowKit
structure Cp9b (c : CH) (sp : List SP) (tp : List TP) (w : World) (e : Ending) (w' : World) : Prop where
 ret : ∃ e1 v1 s1 t1, e = .returned (.agg #[bstr c.nm, e1, v1, s1, t1]) ∧ ChM w' c e1 v1 s1 t1 sp tp ∧ ∃ B, (w.heap.size ≤ B ∧ B ≤ w'.heap.size) ∧ w'.ownsRow B 9 1 e1 c.es.length (strsV c.es) ∧ w'.ownsRow B 51 7 v1 c.vs.length (flatV c.vs) ∧ w'.ownsRow B 39 6 s1 sp.length (flatS sp) ∧ w'.ownsRow B 42 5 t1 tp.length (flatT tp)
 below : Below w.heap.size w w'
set_option maxRecDepth 100000 in
set_option maxHeartbeats 16000000 in
theorem copied9b_any (c : CH) (e1 v1 s1 t1 : Value) (sp : List SP) (tp : List TP) (w : World) (h : ChIn9 w c e1 v1 s1 t1 sp tp) :
  Calls Tryz.prog 10 #[.agg #[bstr c.nm, e1, v1, s1, t1]] w (Cp9b c sp tp w) := by
 obtain ⟨nm, es, vs, ss, ts⟩ := c
 have HI := Lib.hid h
 obtain ⟨N, hN, _⟩ := bstr_some nm
 obtain ⟨A1, c1, rfl⟩ := Inn.form h.m.es
 obtain ⟨A2, c2, rfl⟩ := Inn.form h.m.vs
 obtain ⟨A3, c3, rfl⟩ := Inn.form h.m.ss
 obtain ⟨A4, c4, rfl⟩ := Inn.form h.m.ts
 simp only
 rw [hN]
 have HN := Lib.hid hN
 have HES : Hid (Inn w 1 (.slice A1 es.length c1) es.length (strsV es)) := h.m.es
 have HVS : Hid (Inn w 7 (.slice A2 vs.length c2) vs.length (flatV vs)) := h.m.vs
 have HSS : Hid (Inn w 6 (.slice A3 sp.length c3) sp.length (flatS sp)) := h.m.ss
 have HTS : Hid (Inn w 5 (.slice A4 tp.length c4) tp.length (flatT tp)) := h.m.ts
 have HOS : Hid (∀ u ∈ flatS sp, u.oneCell' = true) := one_states sp h.m.sd
 have HOT : Hid (∀ u ∈ flatT tp, u.oneCell' = true) := one_transs tp h.m.td
 have les : es.length * 16 ≤ 140737488355328 := h.es
 have lvs : vs.length * 64 ≤ 140737488355328 := h.vs
 have lss : sp.length * 96 ≤ 140737488355328 := h.ss
 have lts : tp.length * 88 ≤ 140737488355328 := h.ts
 obtain ⟨iIS, hi0, hi1, hi2, hi3⟩ := info_of infoStrS
 have IS0 := Lib.hid hi0; have IS1 := Lib.hid hi1; have IS2 := Lib.hid hi2; have IS3 := Lib.hid hi3
 clear hi0 hi1 hi2 hi3
 obtain ⟨iIV, hi0, hi1, hi2, hi3⟩ := info_parts Tryz.infoVar
 have IV0 := Lib.hid hi0; have IV1 := Lib.hid hi1; have IV2 := Lib.hid hi2; have IV3 := Lib.hid hi3
 clear hi0 hi1 hi2 hi3
 obtain ⟨iIT, hi0, hi1, hi2, hi3⟩ := info_parts Tryz.infoState
 have IT0 := Lib.hid hi0; have IT1 := Lib.hid hi1; have IT2 := Lib.hid hi2; have IT3 := Lib.hid hi3
 clear hi0 hi1 hi2 hi3
 obtain ⟨iIR, hi0, hi1, hi2, hi3⟩ := info_parts Tryz.infoTrans
 have IR0 := Lib.hid hi0; have IR1 := Lib.hid hi1; have IR2 := Lib.hid hi2; have IR3 := Lib.hid hi3
 clear hi0 hi1 hi2 hi3 h hN
 obtain ⟨W0, hW0⟩ : ∃ W, W = (w.alloc (.cells #[.string N, .slice A1 es.length c1, .slice A2 vs.length c2, .slice A3 sp.length c3, .slice A4 tp.length c4] 27)).alloc (.cells #[.string ⟨#[]⟩, .slice none 0 0, .slice none 0 0, .slice none 0 0, .slice none 0 0] 27) := ⟨_, rfl⟩
 have hb0 : Below w.heap.size w W0 := by rw [hW0]; exact ((Below.refl _ _).alloc (Nat.le_refl _) _).alloc (by simp) _
 have hx0 : W0.heap[w.heap.size]? = some (.cells #[.string N, .slice A1 es.length c1, .slice A2 vs.length c2, .slice A3 sp.length c3, .slice A4 tp.length c4] 27 (0, 0)) := by rw [hW0]; exact heap_old (World.alloc_heap_new w _)
 have hy0 : W0.heap[w.heap.size + 1]? = some (.cells #[.string ⟨#[]⟩, .slice none 0 0, .slice none 0 0, .slice none 0 0, .slice none 0 0] 27 (0, 0)) := by rw [hW0]; exact heap_at (by simp)
 have hz0 : W0.heap.size = w.heap.size + 1 + 1 := by rw [hW0]; simp
 have HZ := Lib.hid hz0; have HZ0 : Hid (W0.heap.size ≤ W0.heap.size) := Nat.le_refl _
 clear hz0
 have HB0 := Lib.hid hb0; have HX0 := Lib.hid hx0; have HY0 := Lib.hid hy0; have HW0 := Lib.hid hW0
 clear hb0 hx0 hy0 hW0
 go_enter Tryz.func10, Tryz.ntmps10
 go_upto_region 1 with fail
 rw [← HW0.out]
 obtain ⟨d0, d1, d2, d3, d4⟩ := box_cells HX0.out
 have hlt0 : w.heap.size < W0.heap.size := lt_of_heap HX0.out
 have HE0 : Hid ((W0.alloc (.cells #[] 9)).ownsRow W0.heap.size 9 1 (.slice (some ⟨W0.heap.size, 0, none⟩) 0 0) 0 []) := Oz.own_laid (B := W0.heap.size) (e := 9) (size := 1) (n := 0) W0 #[] HZ0.out (by decide) rfl
 have HS0 : Hid (Inn (W0.alloc (.cells #[] 9)) 1 (.slice A1 es.length c1) es.length (strsV es)) := HES.out.below (HB0.out.trans ((Below.refl _ _).alloc HB0.out.size _))
 go_wp2_with (at_builtin; refine Ow.wpList_append rfl (.tmp 3) (.tmp 5) 22 rfl W0.heap.size 9 iIS _ 1 16 Tryz.underlying22 IS0.out IS1.out IS2.out IS3.out rfl (by decide) _ 0 [] rfl HE0.out _ es.length (strsV es) rfl HS0.out (one_strs es) (by unfold maxLen; omega) (by omega) (Nat.le_trans HZ0.out (by simp)) ?_)
 intro v' w' hown hg _
 try simp only [Nat.zero_add, List.nil_append] at hown
 obtain ⟨B1, k1, ev, hk1⟩ := own_cap hown
 subst ev
 obtain ⟨hb, hx', hx, hkeep, hsz, hks⟩ := cp_step (j := 1) (v' := .slice B1 (es.length) k1) HB0.out (Nat.le_refl _) HX0.out hg
 obtain ⟨f0, f1, f2, f3, f4⟩ := box_cells hx'
 have z0 := frozen5 hx' 1
 have HK1 := Lib.hid hk1
 obtain ⟨W1, hWn⟩ : ∃ W, W = w'.setCell ⟨w.heap.size, 1, none⟩ (.slice B1 (es.length) k1) := ⟨_, rfl⟩
 rw [← hWn] at hb hx hkeep hsz hks
 have HOW11 := Lib.hid (Oz.own_same hown (w' := W1) (fun g hg => hks g (by have := (hown.lt g hg).1; have := HZ.out; omega)))
 have HZ1 : Hid (W0.heap.size ≤ W1.heap.size) := Nat.le_trans HZ0.out hsz
 have HB1 := Lib.hid hb; have HX1 := Lib.hid hx; have HKP1 := Lib.hid hkeep; have HSZ1 := Lib.hid hsz; have HW1 := Lib.hid hWn
 have HY1 := Lib.hid ((hkeep _ (lt_of_heap HY0.out) (by omega)).trans HY0.out)
 clear d0 d1 d2 d3 d4 hown hg hb hx' hx hkeep hsz hks hWn hk1 HE0 HS0
 go_upto_region 2 with fail
 rw [← HW1.out]
 clear f0 f1 f2 f3 f4 z0 hlt0
 obtain ⟨d0, d1, d2, d3, d4⟩ := box_cells HX1.out
 have hlt1 : w.heap.size < W1.heap.size := lt_of_heap HX1.out
 have HE1 : Hid ((W1.alloc (.cells #[] 51)).ownsRow W0.heap.size 51 7 (.slice (some ⟨W1.heap.size, 0, none⟩) 0 0) 0 []) := Oz.own_laid (B := W0.heap.size) (e := 51) (size := 7) (n := 0) W1 #[] HZ1.out (by decide) rfl
 have HS1 : Hid (Inn (W1.alloc (.cells #[] 51)) 7 (.slice A2 vs.length c2) vs.length (flatV vs)) := HVS.out.below (HB1.out.trans ((Below.refl _ _).alloc HB1.out.size _))
 go_wp2_with (at_builtin; refine Ow.wpList_append rfl (.tmp 8) (.tmp 10) 23 rfl W0.heap.size 51 iIV _ 7 64 Tryz.underlying23 IV0.out IV1.out IV2.out IV3.out rfl (by decide) _ 0 [] rfl HE1.out _ vs.length (flatV vs) rfl HS1.out (one_vars vs) (by unfold maxLen; omega) (by omega) (Nat.le_trans HZ1.out (by simp)) ?_)
 intro v' w' hown hg _
 try simp only [Nat.zero_add, List.nil_append] at hown
 obtain ⟨B2, k2, ev, hk2⟩ := own_cap hown
 subst ev
 obtain ⟨hb, hx', hx, hkeep, hsz, hks⟩ := cp_step (j := 2) (v' := .slice B2 (vs.length) k2) HB1.out (Nat.le_refl _) HX1.out hg
 obtain ⟨f0, f1, f2, f3, f4⟩ := box_cells hx'
 have z0 := frozen5 hx' 2
 have HK2 := Lib.hid hk2
 obtain ⟨W2, hWn⟩ : ∃ W, W = w'.setCell ⟨w.heap.size, 2, none⟩ (.slice B2 (vs.length) k2) := ⟨_, rfl⟩
 rw [← hWn] at hb hx hkeep hsz hks
 have HOW22 := Lib.hid (Oz.own_same hown (w' := W2) (fun g hg => hks g (by have := (hown.lt g hg).1; have := HZ.out; omega)))
 have HOW12 := Lib.hid (Oz.own_same HOW11.out (w' := W2) (fun g hg => hkeep g (HOW11.out.lt g hg).2 (by have := (HOW11.out.lt g hg).1; have := HZ.out; omega)))
 have HZ2 : Hid (W0.heap.size ≤ W2.heap.size) := Nat.le_trans HZ1.out hsz
 have HB2 := Lib.hid hb; have HX2 := Lib.hid hx; have HKP2 := Lib.hid hkeep; have HSZ2 := Lib.hid hsz; have HW2 := Lib.hid hWn
 have HY2 := Lib.hid ((hkeep _ (lt_of_heap HY1.out) (by omega)).trans HY1.out)
 clear d0 d1 d2 d3 d4 hown hg hb hx' hx hkeep hsz hks hWn hk2 HE1 HS1
 go_upto_region 3 with fail
 rw [← HW2.out]
 clear f0 f1 f2 f3 f4 z0 hlt1
 obtain ⟨d0, d1, d2, d3, d4⟩ := box_cells HX2.out
 have hlt2 : w.heap.size < W2.heap.size := lt_of_heap HX2.out
 have HE2 : Hid ((W2.alloc (.cells #[] 39)).ownsRow W0.heap.size 39 6 (.slice (some ⟨W2.heap.size, 0, none⟩) 0 0) 0 []) := Oz.own_laid (B := W0.heap.size) (e := 39) (size := 6) (n := 0) W2 #[] HZ2.out (by decide) rfl
 have HS2 : Hid (Inn (W2.alloc (.cells #[] 39)) 6 (.slice A3 sp.length c3) sp.length (flatS sp)) := HSS.out.below (HB2.out.trans ((Below.refl _ _).alloc HB2.out.size _))
 go_wp2_with (at_builtin; refine Ow.wpList_append rfl (.tmp 13) (.tmp 15) 24 rfl W0.heap.size 39 iIT _ 6 96 Tryz.underlying24 IT0.out IT1.out IT2.out IT3.out rfl (by decide) _ 0 [] rfl HE2.out _ sp.length (flatS sp) rfl HS2.out HOS.out (by unfold maxLen; omega) (by omega) (Nat.le_trans HZ2.out (by simp)) ?_)
 intro v' w' hown hg _
 try simp only [Nat.zero_add, List.nil_append] at hown
 obtain ⟨B3, k3, ev, hk3⟩ := own_cap hown
 subst ev
 obtain ⟨hb, hx', hx, hkeep, hsz, hks⟩ := cp_step (j := 3) (v' := .slice B3 (sp.length) k3) HB2.out (Nat.le_refl _) HX2.out hg
 obtain ⟨f0, f1, f2, f3, f4⟩ := box_cells hx'
 have z0 := frozen5 hx' 3
 have HK3 := Lib.hid hk3
 obtain ⟨W3, hWn⟩ : ∃ W, W = w'.setCell ⟨w.heap.size, 3, none⟩ (.slice B3 (sp.length) k3) := ⟨_, rfl⟩
 rw [← hWn] at hb hx hkeep hsz hks
 have HOW33 := Lib.hid (Oz.own_same hown (w' := W3) (fun g hg => hks g (by have := (hown.lt g hg).1; have := HZ.out; omega)))
 have HOW13 := Lib.hid (Oz.own_same HOW12.out (w' := W3) (fun g hg => hkeep g (HOW12.out.lt g hg).2 (by have := (HOW12.out.lt g hg).1; have := HZ.out; omega)))
 have HOW23 := Lib.hid (Oz.own_same HOW22.out (w' := W3) (fun g hg => hkeep g (HOW22.out.lt g hg).2 (by have := (HOW22.out.lt g hg).1; have := HZ.out; omega)))
 have HZ3 : Hid (W0.heap.size ≤ W3.heap.size) := Nat.le_trans HZ2.out hsz
 have HB3 := Lib.hid hb; have HX3 := Lib.hid hx; have HKP3 := Lib.hid hkeep; have HSZ3 := Lib.hid hsz; have HW3 := Lib.hid hWn
 have HY3 := Lib.hid ((hkeep _ (lt_of_heap HY2.out) (by omega)).trans HY2.out)
 clear d0 d1 d2 d3 d4 hown hg hb hx' hx hkeep hsz hks hWn hk3 HE2 HS2
 go_upto_region 4 with fail
 rw [← HW3.out]
 clear f0 f1 f2 f3 f4 z0 hlt2
 obtain ⟨d0, d1, d2, d3, d4⟩ := box_cells HX3.out
 have hlt3 : w.heap.size < W3.heap.size := lt_of_heap HX3.out
 have HE3 : Hid ((W3.alloc (.cells #[] 42)).ownsRow W0.heap.size 42 5 (.slice (some ⟨W3.heap.size, 0, none⟩) 0 0) 0 []) := Oz.own_laid (B := W0.heap.size) (e := 42) (size := 5) (n := 0) W3 #[] HZ3.out (by decide) rfl
 have HS3 : Hid (Inn (W3.alloc (.cells #[] 42)) 5 (.slice A4 tp.length c4) tp.length (flatT tp)) := HTS.out.below (HB3.out.trans ((Below.refl _ _).alloc HB3.out.size _))
 go_wp2_with (at_builtin; refine Ow.wpList_append rfl (.tmp 18) (.tmp 20) 25 rfl W0.heap.size 42 iIR _ 5 88 Tryz.underlying25 IR0.out IR1.out IR2.out IR3.out rfl (by decide) _ 0 [] rfl HE3.out _ tp.length (flatT tp) rfl HS3.out HOT.out (by unfold maxLen; omega) (by omega) (Nat.le_trans HZ3.out (by simp)) ?_)
 intro v' w' hown hg _
 try simp only [Nat.zero_add, List.nil_append] at hown
 obtain ⟨B4, k4, ev, hk4⟩ := own_cap hown
 subst ev
 obtain ⟨hb, hx', hx, hkeep, hsz, hks⟩ := cp_step (j := 4) (v' := .slice B4 (tp.length) k4) HB3.out (Nat.le_refl _) HX3.out hg
 obtain ⟨f0, f1, f2, f3, f4⟩ := box_cells hx'
 have z0 := frozen5 hx' 4
 have HK4 := Lib.hid hk4
 obtain ⟨W4, hWn⟩ : ∃ W, W = w'.setCell ⟨w.heap.size, 4, none⟩ (.slice B4 (tp.length) k4) := ⟨_, rfl⟩
 rw [← hWn] at hb hx hkeep hsz hks
 have HOW44 := Lib.hid (Oz.own_same hown (w' := W4) (fun g hg => hks g (by have := (hown.lt g hg).1; have := HZ.out; omega)))
 have HOW14 := Lib.hid (Oz.own_same HOW13.out (w' := W4) (fun g hg => hkeep g (HOW13.out.lt g hg).2 (by have := (HOW13.out.lt g hg).1; have := HZ.out; omega)))
 have HOW24 := Lib.hid (Oz.own_same HOW23.out (w' := W4) (fun g hg => hkeep g (HOW23.out.lt g hg).2 (by have := (HOW23.out.lt g hg).1; have := HZ.out; omega)))
 have HOW34 := Lib.hid (Oz.own_same HOW33.out (w' := W4) (fun g hg => hkeep g (HOW33.out.lt g hg).2 (by have := (HOW33.out.lt g hg).1; have := HZ.out; omega)))
 have HZ4 : Hid (W0.heap.size ≤ W4.heap.size) := Nat.le_trans HZ3.out hsz
 have HB4 := Lib.hid hb; have HX4 := Lib.hid hx; have HKP4 := Lib.hid hkeep; have HSZ4 := Lib.hid hsz; have HW4 := Lib.hid hWn
 have HY4 := Lib.hid ((hkeep _ (lt_of_heap HY3.out) (by omega)).trans HY3.out)
 clear d0 d1 d2 d3 d4 hown hg hb hx' hx hkeep hsz hks hWn hk4 HE3 HS3
 go_upto_region 5 with fail
 rw [← HW4.out]
 clear f0 f1 f2 f3 f4 z0 hlt3
 obtain ⟨d0, d1, d2, d3, d4⟩ := box_cells HX4.out
 obtain ⟨y0, y1, y2, y3, y4⟩ := box_cells HY4.out
 have z0 := frozen5 HY4.out 0; have z1 := frozen5 HY4.out 1; have z2 := frozen5 HY4.out 2; have z3 := frozen5 HY4.out 3; have z4 := frozen5 HY4.out 4
 obtain ⟨Wf, hWf⟩ : ∃ W, W = ((((W4.setCell ⟨w.heap.size + 1, 0, none⟩ (.string N)).setCell ⟨w.heap.size + 1, 1, none⟩ (.slice B1 (es.length) k1)).setCell ⟨w.heap.size + 1, 2, none⟩ (.slice B2 (vs.length) k2)).setCell ⟨w.heap.size + 1, 3, none⟩ (.slice B3 (sp.length) k3)).setCell ⟨w.heap.size + 1, 4, none⟩ (.slice B4 (tp.length) k4) := ⟨_, rfl⟩
 have hhf : Wf.heap[w.heap.size + 1]? = some (.cells #[.string N, .slice B1 (es.length) k1, .slice B2 (vs.length) k2, .slice B3 (sp.length) k3, .slice B4 (tp.length) k4] 27 (0, 0)) := by
  rw [hWf]; exact heap_setCell_same _ _ 4 _ _ _ (heap_setCell_same _ _ 3 _ _ _ (heap_setCell_same _ _ 2 _ _ _ (heap_setCell_same _ _ 1 _ _ _ (heap_setCell_same _ _ 0 _ _ _ HY4.out))))
 have hkf : ∀ k, k ≠ w.heap.size + 1 → Wf.heap[k]? = W4.heap[k]? := fun k hk => by
  rw [hWf, Below.heap_setCell _ _ _ k (fun e => hk e), Below.heap_setCell _ _ _ k (fun e => hk e), Below.heap_setCell _ _ _ k (fun e => hk e), Below.heap_setCell _ _ _ k (fun e => hk e), Below.heap_setCell _ _ _ k (fun e => hk e)]
 have hbf : Below w.heap.size w Wf := by
  rw [hWf]; exact ((((HB4.out.setCell (p := ⟨w.heap.size + 1, 0, none⟩) (by simp) _).setCell (p := ⟨w.heap.size + 1, 1, none⟩) (by simp) _).setCell (p := ⟨w.heap.size + 1, 2, none⟩) (by simp) _).setCell (p := ⟨w.heap.size + 1, 3, none⟩) (by simp) _).setCell (p := ⟨w.heap.size + 1, 4, none⟩) (by simp) _
 have HKF := Lib.hid hkf; have HBF := Lib.hid hbf; have HWF := Lib.hid hWf
 obtain ⟨r0, r1, r2, r3, r4⟩ := box_cells hhf
 have HR := Lib.hid (And.intro r0 (And.intro r1 (And.intro r2 (And.intro r3 r4))))
 clear hhf hkf hbf hWf r0 r1 r2 r3 r4
 go_wp2
 rw [← HWF.out]
 obtain ⟨r0, r1, r2, r3, r4⟩ := HR.out
 refine bodyPost_ret (v := .agg #[.string N, .slice B1 (es.length) k1, .slice B2 (vs.length) k2, .slice B3 (sp.length) k3, .slice B4 (tp.length) k4]) (by simp [results, Tryz.results10, go_sem, r0, r1, r2, r3, r4]) rfl ?_
 have hi := HI.out.m
 have hrow : ∀ {e : TypeId} {size n : Nat} {v : Value} {xs : List Value}, W4.ownsRow W0.heap.size e size v n xs → Wf.ownsRow W0.heap.size e size v n xs := fun h => Oz.own_same h (w' := Wf) (fun g hg => HKF.out g (by have := (h.lt g hg).1; have := HZ.out; omega))
 refine ⟨⟨_, _, _, _, by rw [HN.out], ?_, W0.heap.size, ⟨by have := HZ.out; omega, by rw [HWF.out]; simpa using HZ4.out⟩, hrow HOW14.out, hrow HOW24.out, hrow HOW34.out, hrow HOW44.out⟩, HBF.out⟩
 exact ⟨Inn.of_own (hrow HOW14.out), Inn.of_own (hrow HOW24.out), hi.ssE, Inn.of_own (hrow HOW34.out), hi.tsE, Inn.of_own (hrow HOW44.out), fun p hp => (hi.sd p hp).below HBF.out, fun p hp => (hi.td p hp).below HBF.out, hi.el, hi.vl, hi.sl, hi.tl⟩
/-! the first k of a list changed -/
def upF {α : Type} (f : α → α) (k : Nat) (xs : List α) : List α := (xs.take k).map f ++ xs.drop k
theorem upF_len {α : Type} (f : α → α) (k : Nat) (xs : List α) : (upF f k xs).length = xs.length := by
 simp only [upF, List.length_append, List.length_map, List.length_take, List.length_drop]; omega
theorem upF_zero {α : Type} (f : α → α) (xs : List α) : upF f 0 xs = xs := by simp [upF]
theorem upF_all {α : Type} (f : α → α) (xs : List α) : upF f xs.length xs = xs.map f := by simp [upF]
theorem upF_split {α : Type} (f : α → α) {k : Nat} {xs : List α} (hk : k < xs.length) : upF f k xs = (xs.take k).map f ++ xs[k] :: xs.drop (k + 1) ∧ upF f (k + 1) xs = (xs.take k).map f ++ f xs[k] :: xs.drop (k + 1) := by
 constructor
 ·unfold upF; rw [List.drop_eq_getElem_cons hk]
 ·unfold upF; rw [List.take_succ_eq_append_getElem hk, List.map_append, List.append_assoc]; rfl
theorem flatS_len (l : List SP) : (flatS l).length = l.length * 6 := by
 induction l with
 | nil => rfl
 | cons p r ih => show (stV p ++ flatS r).length = _; rw [List.length_append, ih]; simp [stV]; omega
theorem flatT_len (l : List TP) : (flatT l).length = l.length * 5 := by
 induction l with
 | nil => rfl
 | cons p r ih => show (trV p ++ flatT r).length = _; rw [List.length_append, ih]; simp [trV]; omega
def bareSP (p : SP) : SP := (bareS p.1, .slice none 0 0, .slice none 0 0)
def bareTP (p : TP) : TP := (bareT p.1, .slice none 0 0, .slice none 0 0)
theorem flatS_bare {k : Nat} {sp : List SP} (hk : k < sp.length) : ((flatS (upF bareSP k sp)).set (k * 6 + 4) (.slice none 0 0)).set (k * 6 + 5) (.slice none 0 0) = flatS (upF bareSP (k + 1) sp) := by
 obtain ⟨h1, h2⟩ := upF_split bareSP hk
 rw [h1, h2]
 have hl : ((flatS ((sp.take k).map bareSP))).length = k * 6 := by rw [flatS_len, List.length_map, List.length_take]; congr 1; omega
 have e : ∀ (p : SP) (r : List SP), flatS ((sp.take k).map bareSP ++ p :: r) = flatS ((sp.take k).map bareSP) ++ (stV p ++ flatS r) := fun p r => by simp [flatS]
 rw [e, e, List.set_append_right _ _ (by omega), List.set_append_right _ _ (by omega), hl]
 congr 1
 rw [show k * 6 + 4 - k * 6 = 4 by omega, show k * 6 + 5 - k * 6 = 5 by omega]
 rfl
theorem flatT_bare {k : Nat} {tp : List TP} (hk : k < tp.length) : ((flatT (upF bareTP k tp)).set (k * 5 + 2) (.slice none 0 0)).set (k * 5 + 4) (.slice none 0 0) = flatT (upF bareTP (k + 1) tp) := by
 obtain ⟨h1, h2⟩ := upF_split bareTP hk
 rw [h1, h2]
 have hl : ((flatT ((tp.take k).map bareTP))).length = k * 5 := by rw [flatT_len, List.length_map, List.length_take]; congr 1; omega
 have e : ∀ (p : TP) (r : List TP), flatT ((tp.take k).map bareTP ++ p :: r) = flatT ((tp.take k).map bareTP) ++ (trV p ++ flatT r) := fun p r => by simp [flatT]
 rw [e, e, List.set_append_right _ _ (by omega), List.set_append_right _ _ (by omega), hl]
 congr 1
 rw [show k * 5 + 2 - k * 5 = 2 by omega, show k * 5 + 4 - k * 5 = 4 by omega]
 rfl
theorem own_apart {w : World} {B C : Nat} {e f : TypeId} {s t n m : Nat} {u v : Value} {xs ys : List Value} (h : w.ownsRow B e s u n xs) (h' : w.ownsRow C f t v m ys) (hef : e ≠ f) {g : Nat} (hu : u.ownBlock = some g) : v.ownBlock ≠ some g := by
 intro hv
 obtain ⟨_, ⟨rfl, _⟩ | ⟨g1, cap, cur, rfl, _, h3, _⟩⟩ := h
 ·cases hu
 ·obtain ⟨_, ⟨rfl, _⟩ | ⟨g2, cap', cur', rfl, _, h4, _⟩⟩ := h'
  ·cases hv
  ·cases hu; cases hv
   rw [h3] at h4
   simp only [Option.some.injEq, Obj.cells.injEq] at h4
   exact hef h4.2.1
theorem own_blockC {w : World} {B : Nat} {e : TypeId} {s n g : Nat} {v : Value} {xs : List Value} (h : w.ownsRow B e s v n xs) (hv : v.ownBlock = some g) : ∃ cur : Array Value, w.heap[g]? = some (.cells cur e (0, 0)) := by
 obtain ⟨_, ⟨rfl, _⟩ | ⟨g1, cap', cur, rfl, _, h3, _⟩⟩ := h
 ·cases hv
 ·cases hv; exact ⟨cur, h3⟩
theorem own_frozen9 {w : World} {B : Nat} {e : TypeId} {size n cap g : Nat} {xs : List Value} (h : w.ownsRow B e size (.slice (some ⟨g, 0, none⟩) n cap) n xs) (j : Nat) : w.frozen? ⟨g, j, none⟩ = false := by
 obtain ⟨cur, _, h2, _⟩ := own_cells h
 simp [World.frozen?, h2]
theorem own_set9 {w : World} {B : Nat} {e : TypeId} {size n cap g : Nat} {xs : List Value} (h : w.ownsRow B e size (.slice (some ⟨g, 0, none⟩) n cap) n xs) (j : Nat) (u : Value) : (w.setCell ⟨g, j, none⟩ u).ownsRow B e size (.slice (some ⟨g, 0, none⟩) n cap) n (xs.set j u) := by
 obtain ⟨cur, h1, h2, h3, h4, h5, h6⟩ := own_cells h
 refine ⟨by rw [List.length_set]; exact h.1, Or.inr ⟨g, cap, cur.setIfInBounds j u, rfl, h1, heap_setCell_same _ _ _ _ _ _ h2, h3, h4, by simpa using h5, ?_⟩⟩
 rw [Array.toList_setIfInBounds, ← h6, List.take_set]
theorem own_at9 {w : World} {B : Nat} {e : TypeId} {size n m c : Nat} {A : Option Addr} {xs : List Value} (h : w.ownsRow B e size (.slice A m c) n xs) (hn : 0 < n) : ∃ g, A = some ⟨g, 0, none⟩ := by
 rcases h.2 with ⟨_, h2⟩ | ⟨g, cap, cur, h2, _⟩
 ·omega
 ·simp only [Value.slice.injEq] at h2
  exact ⟨g, h2.1⟩
theorem own_setCell {w : World} {B : Nat} {e : TypeId} {size n g : Nat} {v : Value} {xs : List Value} (h : w.ownsRow B e size v n xs) (hg : v.ownBlock ≠ some g) (j : Nat) (u : Value) : (w.setCell ⟨g, j, none⟩ u).ownsRow B e size v n xs :=
 Oz.own_same h (fun g' hg' => Below.heap_setCell _ _ _ g' (fun e => hg (by rw [hg']; exact congrArg some e)))
structure BareI (w : World) (c : CH) (sp : List SP) (tp : List TP) (D B : Nat) (M : ByteArray) (eE vE sE tE : Value) (ks kt : Nat) (W : World) : Prop where
 box : W.heap[D]? = some (.cells #[.string M, eE, vE, sE, tE] 27 (0, 0))
 below : Below w.heap.size w W
 hB : w.heap.size ≤ B
 hD : w.heap.size ≤ D
 re : W.ownsRow B 9 1 eE c.es.length (strsV c.es)
 rv : W.ownsRow B 51 7 vE c.vs.length (flatV c.vs)
 rs : W.ownsRow B 39 6 sE sp.length (flatS (upF bareSP ks sp))
 rt : W.ownsRow B 42 5 tE tp.length (flatT (upF bareTP kt tp))
theorem BareI.setS {w : World} {c : CH} {sp : List SP} {tp : List TP} {D B : Nat} {M : ByteArray} {eE vE tE : Value} {ks kt : Nat} {W : World} {g n3 q3 : Nat} (h : BareI w c sp tp D B M eE vE (.slice (some ⟨g, 0, none⟩) n3 q3) tE ks kt W) (hn : n3 = sp.length) (hk : ks < sp.length) :
  BareI w c sp tp D B M eE vE (.slice (some ⟨g, 0, none⟩) n3 q3) tE (ks + 1) kt ((W.setCell ⟨g, ks * 6 + 4, none⟩ (.slice none 0 0)).setCell ⟨g, ks * 6 + 5, none⟩ (.slice none 0 0)) := by
 subst hn
 have hg : ∀ {B' : Nat} {e : TypeId} {s m : Nat} {v : Value} {xs : List Value}, W.ownsRow B' e s v m xs → 39 ≠ e → v.ownBlock ≠ some g := fun h' hne => own_apart h.rs h' hne rfl
 obtain ⟨cur, hgB, hc, _⟩ := own_cells h.rs
 have hDg : D ≠ g := by
  rintro rfl
  rw [h.box] at hc
  simp at hc
 have hwg : w.heap.size ≤ g := Nat.le_trans h.hB hgB
 refine ⟨?_, (h.below.setCell (p := ⟨g, _, none⟩) hwg _).setCell (p := ⟨g, _, none⟩) hwg _, h.hB, h.hD, own_setCell (own_setCell h.re (hg h.re (by decide)) _ _) (hg h.re (by decide)) _ _, own_setCell (own_setCell h.rv (hg h.rv (by decide)) _ _) (hg h.rv (by decide)) _ _, ?_, own_setCell (own_setCell h.rt (hg h.rt (by decide)) _ _) (hg h.rt (by decide)) _ _⟩
 ·rw [Below.heap_setCell _ _ _ D (fun e => hDg e), Below.heap_setCell _ _ _ D (fun e => hDg e)]; exact h.box
 ·rw [← flatS_bare hk]; exact own_set9 (own_set9 h.rs _ _) _ _
theorem BareI.boxS {w : World} {c : CH} {sp : List SP} {tp : List TP} {D B : Nat} {M : ByteArray} {eE vE tE : Value} {ks kt : Nat} {W : World} {g n3 q3 : Nat} (h : BareI w c sp tp D B M eE vE (.slice (some ⟨g, 0, none⟩) n3 q3) tE ks kt W) (j : Nat) (u : Value) : (W.setCell ⟨g, j, none⟩ u).heap[D]? = some (.cells #[.string M, eE, vE, .slice (some ⟨g, 0, none⟩) n3 q3, tE] 27 (0, 0)) := by
 have hDg : D ≠ g := by
  obtain ⟨cur, hc⟩ := own_blockC h.rs rfl
  rintro rfl
  rw [h.box] at hc
  simp at hc
 rw [Below.heap_setCell _ _ _ D (fun e => hDg e)]; exact h.box
theorem BareI.boxT {w : World} {c : CH} {sp : List SP} {tp : List TP} {D B : Nat} {M : ByteArray} {eE vE sE : Value} {ks kt : Nat} {W : World} {g n3 q3 : Nat} (h : BareI w c sp tp D B M eE vE sE (.slice (some ⟨g, 0, none⟩) n3 q3) ks kt W) (j : Nat) (u : Value) : (W.setCell ⟨g, j, none⟩ u).heap[D]? = some (.cells #[.string M, eE, vE, sE, .slice (some ⟨g, 0, none⟩) n3 q3] 27 (0, 0)) := by
 have hDg : D ≠ g := by
  obtain ⟨cur, hc⟩ := own_blockC h.rt rfl
  rintro rfl
  rw [h.box] at hc
  simp at hc
 rw [Below.heap_setCell _ _ _ D (fun e => hDg e)]; exact h.box
theorem BareI.setT {w : World} {c : CH} {sp : List SP} {tp : List TP} {D B : Nat} {M : ByteArray} {eE vE sE : Value} {ks kt : Nat} {W : World} {g n4 q4 : Nat} (h : BareI w c sp tp D B M eE vE sE (.slice (some ⟨g, 0, none⟩) n4 q4) ks kt W) (hn : n4 = tp.length) (hk : kt < tp.length) :
  BareI w c sp tp D B M eE vE sE (.slice (some ⟨g, 0, none⟩) n4 q4) ks (kt + 1) ((W.setCell ⟨g, kt * 5 + 2, none⟩ (.slice none 0 0)).setCell ⟨g, kt * 5 + 4, none⟩ (.slice none 0 0)) := by
 subst hn
 have hg : ∀ {B' : Nat} {e : TypeId} {s m : Nat} {v : Value} {xs : List Value}, W.ownsRow B' e s v m xs → 42 ≠ e → v.ownBlock ≠ some g := fun h' hne => own_apart h.rt h' hne rfl
 obtain ⟨cur, hgB, hc, _⟩ := own_cells h.rt
 have hDg : D ≠ g := by
  rintro rfl
  rw [h.box] at hc
  simp at hc
 have hwg : w.heap.size ≤ g := Nat.le_trans h.hB hgB
 refine ⟨?_, (h.below.setCell (p := ⟨g, _, none⟩) hwg _).setCell (p := ⟨g, _, none⟩) hwg _, h.hB, h.hD, own_setCell (own_setCell h.re (hg h.re (by decide)) _ _) (hg h.re (by decide)) _ _, own_setCell (own_setCell h.rv (hg h.rv (by decide)) _ _) (hg h.rv (by decide)) _ _, own_setCell (own_setCell h.rs (hg h.rs (by decide)) _ _) (hg h.rs (by decide)) _ _, ?_⟩
 ·rw [Below.heap_setCell _ _ _ D (fun e => hDg e), Below.heap_setCell _ _ _ D (fun e => hDg e)]; exact h.box
 ·rw [← flatT_bare hk]; exact own_set9 (own_set9 h.rt _ _) _ _
theorem blk_nil (w : World) : BlkR w (.slice none 0 0) [] := ⟨[], rfl, ⟨Inn.nil _ _, fun p hp => by cases hp⟩, by decide⟩
theorem BareI.chM {w w0 : World} {c : CH} {sp : List SP} {tp : List TP} {D B : Nat} {M : ByteArray} {eE vE sE tE : Value} {ks kt : Nat} {W : World} {a b d f : Value} (h : BareI w c sp tp D B M eE vE sE tE ks kt W) (hks : ks = sp.length) (hkt : kt = tp.length) (hM : ChM w0 c a b d f sp tp) : ChM W (bareC c) eE vE sE tE (sp.map bareSP) (tp.map bareTP) := by
 subst hks hkt
 have hs := h.rs; have ht := h.rt
 rw [upF_all] at hs ht
 refine ⟨Inn.of_own h.re, Inn.of_own h.rv, ?_, by rw [List.length_map]; exact Inn.of_own hs, ?_, by rw [List.length_map]; exact Inn.of_own ht, ?_, ?_, hM.el, hM.vl, by rw [List.length_map]; exact hM.sl, by rw [List.length_map]; exact hM.tl⟩
 ·show _ = c.ss.map bareS
  rw [← hM.ssE, List.map_map, List.map_map]; rfl
 ·show _ = c.ts.map bareT
  rw [← hM.tsE, List.map_map, List.map_map]; rfl
 ·intro p hp
  obtain ⟨q, _, rfl⟩ := List.mem_map.1 hp
  exact ⟨blk_nil W, blk_nil W⟩
 ·intro p hp
  obtain ⟨q, _, rfl⟩ := List.mem_map.1 hp
  exact ⟨⟨Or.inl ⟨rfl, rfl⟩, Nat.zero_le _⟩, blk_nil W⟩
theorem own_capV {w : World} {B : Nat} {e : TypeId} {size n : Nat} {v : Value} {xs : List Value} (h : w.ownsRow B e size v n xs) : ∀ A m k, v = .slice A m k → m ≤ k := by
 intro A m k hv
 obtain ⟨B', k', ev, hk⟩ := own_cap h
 rw [hv] at ev
 simp only [Value.slice.injEq] at ev
 omega
theorem BareI.again {w wz w8 w10 : World} {c : CH} {sp : List SP} {tp : List TP} {D B C : Nat} {M : ByteArray} {eE vE sE tE eF vF sF tF : Value} {ks kt : Nat} (h : BareI w c sp tp D B M eE vE sE tE ks kt wz) (h8 : Below wz.heap.size wz w8) (h10 : Below w8.heap.size w8 w10) (hC : w8.heap.size ≤ C)
  (re : w10.ownsRow C 9 1 eF c.es.length (strsV c.es)) (rv : w10.ownsRow C 51 7 vF c.vs.length (flatV c.vs)) (rs : w10.ownsRow C 39 6 sF sp.length (flatS sp)) (rt : w10.ownsRow C 42 5 tF tp.length (flatT tp)) :
  BareI w c sp tp D C M eF vF sF tF 0 0 (((((w10.setCell ⟨D, 0, none⟩ (.string M)).setCell ⟨D, 1, none⟩ eF).setCell ⟨D, 2, none⟩ vF).setCell ⟨D, 3, none⟩ sF).setCell ⟨D, 4, none⟩ tF) := by
 have hD : D < wz.heap.size := lt_of_heap h.box
 have hD8 : D < w8.heap.size := Nat.lt_of_lt_of_le hD h8.size
 have hbx : w10.heap[D]? = some (.cells #[.string M, eE, vE, sE, tE] 27 (0, 0)) := by rw [h10.block D hD8, h8.block D hD]; exact h.box
 have hr : ∀ {e : TypeId} {s n : Nat} {v : Value} {xs : List Value}, w10.ownsRow C e s v n xs → (((((w10.setCell ⟨D, 0, none⟩ (.string M)).setCell ⟨D, 1, none⟩ eF).setCell ⟨D, 2, none⟩ vF).setCell ⟨D, 3, none⟩ sF).setCell ⟨D, 4, none⟩ tF).ownsRow C e s v n xs := fun h => by
  have hne : ∀ {x : Value} {W : World} {e : TypeId} {s n : Nat} {xs : List Value}, W.ownsRow C e s x n xs → x.ownBlock ≠ some D := fun hx hv => by have := (hx.lt D hv).1; omega
  have a0 := own_setCell h (hne h) 0 (.string M)
  have a1 := own_setCell a0 (hne a0) 1 eF
  have a2 := own_setCell a1 (hne a1) 2 vF
  have a3 := own_setCell a2 (hne a2) 3 sF
  exact own_setCell a3 (hne a3) 4 tF
 have hb : Below w.heap.size w w10 := h.below.trans ((h8.trans (h10.mono h8.size)).mono h.below.size)
 refine ⟨heap_setCell_same _ _ 4 _ _ _ (heap_setCell_same _ _ 3 _ _ _ (heap_setCell_same _ _ 2 _ _ _ (heap_setCell_same _ _ 1 _ _ _ (heap_setCell_same _ _ 0 _ _ _ hbx)))), ?_, Nat.le_trans h.hD (by omega), h.hD, hr re, hr rv, ?_, ?_⟩
 ·exact ((((hb.setCell (p := ⟨D, 0, none⟩) h.hD _).setCell (p := ⟨D, 1, none⟩) h.hD _).setCell (p := ⟨D, 2, none⟩) h.hD _).setCell (p := ⟨D, 3, none⟩) h.hD _).setCell (p := ⟨D, 4, none⟩) h.hD _
 ·rw [upF_zero]; exact hr rs
 ·rw [upF_zero]; exact hr rt
theorem BareI.more {w0 w W w5 : World} {c : CH} {sp : List SP} {tp : List TP} {D B : Nat} {M NM : ByteArray} {eE vE sE tE v' a b d f : Value} (h : BareI w c sp tp D B M eE vE sE tE 0 0 W) (hM : ChM w0 c a b d f sp tp) (hw : Below w0.heap.size w0 W) (hw0 : w0.heap.size ≤ w.heap.size) (hn : c.es.length < 9223372036854775807)
  (hg : (W.alloc (.cells #[.string NM] 9)).grownBy w5 eE.ownBlock) (hv : w5.ownsRow B 9 1 v' (c.es.length + 1) (strsV c.es ++ [.string NM])) :
  (w5.setCell ⟨D, 1, none⟩ v').heap[D]? = some (.cells #[.string M, v', vE, sE, tE] 27 (0, 0)) ∧ w5.heap[D]? = some (.cells #[.string M, eE, vE, sE, tE] 27 (0, 0)) ∧ ChM (w5.setCell ⟨D, 1, none⟩ v') (moreC c NM.data.toList) v' vE sE tE sp tp ∧ Below w0.heap.size w0 (w5.setCell ⟨D, 1, none⟩ v') := by
 have hD : D < W.heap.size := lt_of_heap h.box
 have hne : ∀ {V : World} {C : Nat} {x : Value} {e : TypeId} {s n : Nat} {xs : List Value}, V.ownsRow C e s x n xs → V.heap[D]? = W.heap[D]? → 27 ≠ e → x.ownBlock ≠ some D := fun hx hV hne hv => by
  obtain ⟨cur, hc⟩ := own_blockC hx hv
  rw [hV, h.box] at hc
  simp only [Option.some.injEq, Obj.cells.injEq] at hc
  exact hne hc.2.1
 have hb5 : w5.heap[D]? = W.heap[D]? := (hg.block D (by simp; omega) (fun e => hne h.re rfl (by decide) e.symm)).trans (Below.heap_alloc W _ _ hD)
 have hk : ∀ {e : TypeId} {s n : Nat} {x : Value} {xs : List Value}, W.ownsRow B e s x n xs → 9 ≠ e → 27 ≠ e → (w5.setCell ⟨D, 1, none⟩ v').ownsRow B e s x n xs := fun hx h1 h2 => by
  refine own_setCell (Oz.own_same hx (w' := w5) fun g hg' => ?_) (hne hx rfl h2) _ _
  have hl := (hx.lt g hg').2
  exact (hg.block g (by simp; omega) (fun e => own_apart h.re hx h1 e.symm hg')).trans (Below.heap_alloc W _ _ hl)
 have hbw : Below w0.heap.size w0 (w5.setCell ⟨D, 1, none⟩ v') := ((hw.alloc hw.size _).grown hg (by have := hw.size; simp; omega) (fun k hk => by have := (h.re.lt k hk).1; have := h.hB; omega)).setCell (p := ⟨D, 1, none⟩) (Nat.le_trans hw0 h.hD) _
 have hs := h.rs; have ht := h.rt
 rw [upF_zero] at hs ht
 refine ⟨?_, hb5.trans h.box, ⟨?_, Inn.of_own (hk h.rv (by decide) (by decide)), hM.ssE, Inn.of_own (hk hs (by decide) (by decide)), hM.tsE, Inn.of_own (hk ht (by decide) (by decide)), fun p hp => (hM.sd p hp).below hbw, fun p hp => (hM.td p hp).below hbw, ?_, hM.vl, hM.sl, hM.tl⟩, hbw⟩
 ·exact heap_setCell_same _ _ 1 _ _ _ (hb5.trans h.box)
 ·have e1 : (moreC c NM.data.toList).es = c.es ++ [NM.data.toList] := rfl
  have e2 : strsV (c.es ++ [NM.data.toList]) = strsV c.es ++ [.string NM] := by
   unfold strsV; rw [List.map_append, List.map_singleton, bstr_of]
  rw [e1, e2, List.length_append]
  exact Inn.of_own (own_setCell hv (hne hv hb5 (by decide)) _ _)
 ·show (c.es ++ [NM.data.toList]).length ≤ _
  rw [List.length_append]; simp; omega
theorem Sb.bare {c : CH} (_h : Sb c) : Sb (bareC c) := by
 refine ⟨fun s hs => ?_, fun t ht => ?_⟩
 ·obtain ⟨q, _, rfl⟩ := List.mem_map.1 hs
  exact ⟨Nat.zero_le _, Nat.zero_le _⟩
 ·obtain ⟨q, _, rfl⟩ := List.mem_map.1 ht
  exact Nat.zero_le _
theorem Sb.more {c : CH} (h : Sb c) (n : List UInt8) : Sb (moreC c n) := ⟨h.en, h.ac⟩
set_option maxRecDepth 100000
set_option maxHeartbeats 16000000 in
theorem bare_law (c : CH) (eV vV sV tV : Value) (sp : List SP) (tp : List TP) (NM : ByteArray) (w : World) (h : ChIn9 w c eV vV sV tV sp tp) (hE : Env w) :
  Calls Tryz.prog 6 #[.agg #[bstr c.nm, eV, vV, sV, tV], .string NM] w fun e w' => e = .returned (.bool true) ∧ Below w.heap.size w w' := by
 obtain ⟨M, A1, A2, A3, A4, k1, k2, k3, k4, wb, hM, rfl, rfl, rfl, rfl, hwb, hb1, hz1, d0, d1, d2, d3, d4⟩ := box_ch h.m
 have hcp : ∀ W, Below w.heap.size w W → Calls Tryz.prog 10 #[.agg #[bstr c.nm, .slice A1 c.es.length k1, .slice A2 c.vs.length k2, .slice A3 sp.length k3, .slice A4 tp.length k4]] W fun e w' => ∃ v, e = .returned v ∧ CpR c sp tp v w' ∧ Below W.heap.size W w' := fun W hW => copied9_r (h.below hW)
 have hck : ∀ W e1 v1 s1 t1, ChM W c e1 v1 s1 t1 sp tp → (∀ A n k, e1 = .slice A n k → n ≤ k) → Calls Tryz.prog 9 #[.agg #[bstr c.nm, e1, v1, s1, t1]] W fun e w' => e = .returned (.int .i64 (checkE c)) ∧ Below W.heap.size W w' := fun W e1 v1 s1 t1 hM hc => check_any hM hc h.sb
 have hcb : ∀ W, Below w.heap.size w W → Calls Tryz.prog 10 #[.agg #[bstr c.nm, .slice A1 c.es.length k1, .slice A2 c.vs.length k2, .slice A3 sp.length k3, .slice A4 tp.length k4]] W (Cp9b c sp tp W) := fun W hW => copied9b_any c _ _ _ _ sp tp W (h.below hW)
 have hwk : ∀ W, Below w.heap.size w W → Calls Tryz.prog 8 #[] W fun e w' => e = .returned (.bool true) ∧ Below W.heap.size W w' := fun W hW => wakes9_any W (hE.below hW)
 rw [hM] at hcp hcb ⊢
 have HM := Lib.hid hM
 have HCP := Lib.hid hcp; have HCB := Lib.hid hcb; have HCK := Lib.hid hck; have HWK := Lib.hid hwk
 have HW := Lib.hid hwb; have HB := Lib.hid hb1
 have HWZ : Hid (w.heap.size < wb.heap.size) := by rw [hz1]; exact Nat.lt_succ_self _
 have HT : Hid (∀ W, Below wb.heap.size wb W → W.cell? ⟨w.heap.size, 0, none⟩ = some (.string M) ∧ W.cell? ⟨w.heap.size, 1, none⟩ = some (.slice A1 c.es.length k1) ∧ W.cell? ⟨w.heap.size, 2, none⟩ = some (.slice A2 c.vs.length k2) ∧ W.cell? ⟨w.heap.size, 3, none⟩ = some (.slice A3 sp.length k3) ∧ W.cell? ⟨w.heap.size, 4, none⟩ = some (.slice A4 tp.length k4)) := fun W hW =>
  ⟨(hW.cell (cell_lt d0)).trans d0, (hW.cell (cell_lt d1)).trans d1, (hW.cell (cell_lt d2)).trans d2, (hW.cell (cell_lt d3)).trans d3, (hW.cell (cell_lt d4)).trans d4⟩
 have HIN := Lib.hid h
 have hn3l : sp.length ≤ 4611686018427387904 := by have := h.ss; omega
 have hn4l : tp.length ≤ 4611686018427387904 := by have := h.ts; omega
 clear hcp hcb hck hwk h hM hE hwb hb1 hz1 d0 d1 d2 d3 d4
 generalize hgn1 : c.es.length = n1 at *; generalize hgn2 : c.vs.length = n2 at *
 obtain ⟨n3, hn3⟩ : ∃ n, sp.length = n := ⟨_, rfl⟩
 obtain ⟨n4, hn4⟩ : ∃ n, tp.length = n := ⟨_, rfl⟩
 have HN1 := Lib.hid hgn1; have HN2 := Lib.hid hgn2; have HN3 := Lib.hid hn3; have HN4 := Lib.hid hn4
 rw [hn3, hn4] at HCP HCB HW HT
 rw [hn4] at hn4l ⊢; rw [hn3] at hn3l ⊢
 clear hgn1 hgn2 hn3 hn4
 go_enter Tryz.func6, Tryz.ntmps6
 go_upto_region 1 with fail
 rw [← HW.out]
 go_wp2_with fail
 refine (HWK.out _ HB.out).mono ?_
 rintro e w2 ⟨rfl, hb2⟩
 have HB2 := Lib.hid hb2
 have HC2 := Lib.hid (HB.out.trans (hb2.mono HB.out.size))
 obtain ⟨d0, d1, d2, d3, d4⟩ := HT.out _ hb2
 clear hb2
 go_wp2_with fail
 refine (HCP.out _ HC2.out).mono ?_
 rintro e w3 ⟨v, rfl, ⟨e1, v1, s1, t1, rfl, hM3, hc3⟩, hb3⟩
 have HB3 := Lib.hid (HB2.out.trans (hb3.mono HB2.out.size))
 have HC3 := Lib.hid (HC2.out.trans (hb3.mono HC2.out.size))
 have HK3 := Lib.hid (HCK.out _ _ _ _ _ hM3 hc3)
 clear hb3 hM3 hc3 d0 d1 d2 d3 d4
 go_wp2_with fail
 refine HK3.out.mono ?_
 rintro e w4 ⟨rfl, hb4⟩
 have HB4 := Lib.hid (HB3.out.trans (hb4.mono HB3.out.size))
 have HC4 := Lib.hid (HC3.out.trans (hb4.mono HC3.out.size))
 clear hb4 HK3
 by_cases hck : checkE c = 0
 ·have HV := Lib.hid (check_zero.1 hck)
  rw [hck]
  clear hck
  obtain ⟨d0, d1, d2, d3, d4⟩ := HT.out _ HB4.out
  have HBW4 := Lib.hid HB4.out.size
  go_wp2_with fail
  refine (HCB.out _ HC4.out).mono ?_
  rintro e w5 ⟨⟨e1', v1', s1', t1', rfl, hM5, B, ⟨hBB, -⟩, re, rv, rs, rt⟩, hb5⟩
  have HB5 := Lib.hid (HB4.out.trans (hb5.mono HB4.out.size))
  have HC5 := Lib.hid (HC4.out.trans (hb5.mono HC4.out.size))
  obtain ⟨⟨E1, q1, rfl⟩, ⟨E2, q2, rfl⟩, ⟨E3, q3, rfl⟩, ⟨E4, q4, rfl⟩⟩ := hM5.forms
  obtain ⟨w6, hw6⟩ : ∃ W, W = w5.alloc (.cells #[.string M, .slice E1 c.es.length q1, .slice E2 c.vs.length q2, .slice E3 sp.length q3, .slice E4 tp.length q4] 27) := ⟨_, rfl⟩
  have hb6 : Below w5.heap.size w5 w6 := by rw [hw6]; exact (Below.refl _ _).alloc (Nat.le_refl _) _
  have hI : BareI wb c sp tp w5.heap.size B M (.slice E1 c.es.length q1) (.slice E2 c.vs.length q2) (.slice E3 sp.length q3) (.slice E4 tp.length q4) 0 0 w6 := by
   have hr : ∀ {e : TypeId} {s n : Nat} {v : Value} {xs : List Value}, w5.ownsRow B e s v n xs → w6.ownsRow B e s v n xs := fun h => Oz.own_same h fun g hg => hb6.block g (h.lt g hg).2
   refine ⟨by rw [hw6]; exact World.alloc_heap_new w5 _, HB5.out.trans (hb6.mono HB5.out.size), Nat.le_trans HB4.out.size hBB, HB5.out.size, hr re, hr rv, ?_, ?_⟩
   ·rw [upF_zero]; exact hr rs
   ·rw [upF_zero]; exact hr rt
  rw [HM.out, HN1.out, HN2.out, HN3.out, HN4.out]
  rw [HN1.out, HN2.out, HN3.out, HN4.out] at hI hw6
  have HI0 := Lib.hid hI; have HW6 := Lib.hid hw6
  have HBD : Hid (wb.heap.size ≤ w5.heap.size) := HB5.out.size
  clear hb5 d0 d1 d2 d3 d4 hM5 hBB re rv rs rt hw6 hb6 hI
  obtain ⟨d0, d1, d2, d3, d4⟩ := box_cells HI0.out.box
  go_upto_region 6 with fail
  rw [← HW6.out]
  go_wp2
  go_loopw [6, 20] (fun _ x20 wr => True ∧ ∃ k : Nat, k ≤ n3 ∧ x20 = .int .i64 (k : Int) ∧ Hid (BareI wb c sp tp w5.heap.size B M (.slice E1 n1 q1) (.slice E2 n2 q2) (.slice E3 n3 q3) (.slice E4 n4 q4) k 0 wr)) (fun _ x _ => n3 - (intOf x).toNat)
  case atStart => exact ⟨trivial, 0, by omega, rfl, HI0⟩
  case round =>
   obtain ⟨-, k, hk, rfl, HK⟩ := hrel
   obtain ⟨wl, hwl⟩ : ∃ W, W = wr := ⟨_, rfl⟩
   subst hwl
   clear d0 d1 d2 d3 d4
   obtain ⟨d0, d1, d2, d3, d4⟩ := box_cells HK.out.box
   by_cases hkn : k < n3
   ·have hkl : k < sp.length := by rw [HN3.out]; exact hkn
    have hrs := HK.out.rs
    rw [HN3.out] at hrs
    obtain ⟨g, rfl⟩ := own_at9 hrs (by omega)
    have HK1 := Lib.hid (HK.out.setS HN3.out.symm hkl)
    have z0 := own_frozen9 hrs (k * 6 + 4)
    obtain ⟨u0, y0⟩ : ∃ u, wl.cell? ⟨g, k * 6 + 4, none⟩ = some u := ⟨_, (hrs.cellAt (k * 6 + 4) (by omega)).trans (List.getElem?_eq_getElem (by rw [flatS_len, upF_len, HN3.out]; omega))⟩
    obtain ⟨u1, y1⟩ : ∃ u, (wl.setCell ⟨g, k * 6 + 4, none⟩ (.slice none 0 0)).cell? ⟨g, k * 6 + 5, none⟩ = some u := ⟨_, ((own_set9 hrs (k * 6 + 4) (.slice none 0 0)).cellAt (k * 6 + 5) (by omega)).trans (List.getElem?_eq_getElem (by rw [List.length_set, flatS_len, upF_len, HN3.out]; omega))⟩
    obtain ⟨wm, hwm⟩ : ∃ W, W = wl.setCell ⟨g, k * 6 + 4, none⟩ (.slice none 0 0) := ⟨_, rfl⟩
    rw [← hwm] at y1
    have z1 : wm.frozen? ⟨g, k * 6 + 5, none⟩ = false := by rw [hwm]; exact own_frozen9 (own_set9 hrs _ _) _
    have hbm := HK.out.boxS (k * 6 + 4) (.slice none 0 0)
    rw [← hwm] at HK1 hbm
    have HWM := Lib.hid hwm
    have HBM := Lib.hid hbm
    clear hkl hrs hwm hbm
    go_upto_region 10 with fail
    rw [← HWM.out]
    clear d0 d1 d2 d3 d4 z0 y0
    obtain ⟨d0, d1, d2, d3, d4⟩ := box_cells HBM.out
    go_wp2
    go_roundw
    case rel => exact ⟨trivial, k + 1, by omega, by go_num, HK1⟩
    case measure => simp [intOf]; omega
   ·obtain rfl : k = n3 := by omega
    obtain ⟨wp, hwp⟩ : ∃ W, W = wl := ⟨_, rfl⟩
    subst hwp
    have HA1 := HK
    go_wp2
    go_loopw [7, 37] (fun _ x37 wr => True ∧ ∃ m : Nat, m ≤ n4 ∧ x37 = .int .i64 (m : Int) ∧ Hid (BareI wb c sp tp w5.heap.size B M (.slice E1 n1 q1) (.slice E2 n2 q2) (.slice E3 k q3) (.slice E4 n4 q4) k m wr)) (fun _ x _ => n4 - (intOf x).toNat)
    case atStart => exact ⟨trivial, 0, by omega, rfl, HA1⟩
    case round =>
     obtain ⟨-, m, hm, rfl, HK⟩ := hrel
     obtain ⟨wl, hwl⟩ : ∃ W, W = wr := ⟨_, rfl⟩
     subst hwl
     clear d0 d1 d2 d3 d4
     obtain ⟨d0, d1, d2, d3, d4⟩ := box_cells HK.out.box
     by_cases hmn : m < n4
     ·have hml : m < tp.length := by rw [HN4.out]; exact hmn
      have hrs := HK.out.rt
      rw [HN4.out] at hrs
      obtain ⟨g, rfl⟩ := own_at9 hrs (by omega)
      have HL1 := Lib.hid (HK.out.setT HN4.out.symm hml)
      have z0 := own_frozen9 hrs (m * 5 + 2)
      obtain ⟨u0, y0⟩ : ∃ u, wl.cell? ⟨g, m * 5 + 2, none⟩ = some u := ⟨_, (hrs.cellAt (m * 5 + 2) (by omega)).trans (List.getElem?_eq_getElem (by rw [flatT_len, upF_len, HN4.out]; omega))⟩
      obtain ⟨u1, y1⟩ : ∃ u, (wl.setCell ⟨g, m * 5 + 2, none⟩ (.slice none 0 0)).cell? ⟨g, m * 5 + 4, none⟩ = some u := ⟨_, ((own_set9 hrs (m * 5 + 2) (.slice none 0 0)).cellAt (m * 5 + 4) (by omega)).trans (List.getElem?_eq_getElem (by rw [List.length_set, flatT_len, upF_len, HN4.out]; omega))⟩
      obtain ⟨wm, hwm⟩ : ∃ W, W = wl.setCell ⟨g, m * 5 + 2, none⟩ (.slice none 0 0) := ⟨_, rfl⟩
      rw [← hwm] at y1
      have z1 : wm.frozen? ⟨g, m * 5 + 4, none⟩ = false := by rw [hwm]; exact own_frozen9 (own_set9 hrs _ _) _
      have hbm := HK.out.boxT (m * 5 + 2) (.slice none 0 0)
      rw [← hwm] at HL1 hbm
      have HWM := Lib.hid hwm
      have HBM := Lib.hid hbm
      clear hml hrs hwm hbm
      go_upto_region 16 with fail
      rw [← HWM.out]
      clear d0 d1 d2 d3 d4 z0 y0
      obtain ⟨d0, d1, d2, d3, d4⟩ := box_cells HBM.out
      go_wp2
      go_roundw
      case rel => exact ⟨trivial, m + 1, by omega, by go_num, HL1⟩
      case measure => simp [intOf]; omega
     ·obtain rfl : m = n4 := by omega
      obtain ⟨wz, hwz⟩ : ∃ W, W = wl := ⟨_, rfl⟩
      subst hwz
      have hMb := HK.out.chM HN3.out.symm HN4.out.symm HIN.out.m
      have hckb := check_any hMb (own_capV HK.out.re) HIN.out.sb.bare
      rw [check_zero.2 (bare_valid HV.out)] at hckb
      unfold chA at hckb
      rw [show (bareC c).nm = c.nm from rfl, HM.out] at hckb
      have HCKB := Lib.hid hckb
      have HBZ := Lib.hid HK.out.below
      have hn12 : n1 ≤ 12 := by
       have h1 := HV.out.short
       unfold shortB at h1
       simp only [Bool.and_eq_true, decide_eq_true_eq] at h1
       rw [← HN1.out]; exact h1.1
      have HT2 : Hid (∀ W, Below wb.heap.size wb W → W.cell? ⟨w.heap.size, 0, none⟩ = some (.string M) ∧ W.cell? ⟨w.heap.size, 1, none⟩ = some (.slice A1 n1 k1) ∧ W.cell? ⟨w.heap.size, 2, none⟩ = some (.slice A2 n2 k2) ∧ W.cell? ⟨w.heap.size, 3, none⟩ = some (.slice A3 k k3) ∧ W.cell? ⟨w.heap.size, 4, none⟩ = some (.slice A4 m k4)) := HT
      clear hMb hckb d0 d1 d2 d3 d4 hmn
      obtain ⟨d0, d1, d2, d3, d4⟩ := box_cells HK.out.box
      go_wp2_with fail
      refine HCKB.out.mono ?_
      rintro e w8 ⟨rfl, hb8⟩
      have HB8 := Lib.hid hb8
      have HBW8 := Lib.hid (HBZ.out.trans (hb8.mono HBZ.out.size))
      clear hb8 HCKB d0 d1 d2 d3 d4
      obtain ⟨d0, d1, d2, d3, d4⟩ := HT2.out _ HBW8.out
      go_wp2_with fail
      refine (HCB.out _ (HB.out.trans (HBW8.out.mono HB.out.size))).mono ?_
      rintro e w10 ⟨⟨e1', v1', s1', t1', rfl, hM10, C, ⟨hCC, hCz⟩, re, rv, rs, rt⟩, hb10⟩
      obtain ⟨⟨F1, r1, rfl⟩, ⟨F2, r2, rfl⟩, ⟨F3, r3, rfl⟩, ⟨F4, r4, rfl⟩⟩ := hM10.forms
      have hI2 := HK.out.again HB8.out hb10 hCC re rv rs rt
      have hbx10 : w10.heap[w5.heap.size]? = _ := (hb10.block _ (Nat.lt_of_lt_of_le (lt_of_heap HK.out.box) HB8.out.size)).trans ((HB8.out.block _ (lt_of_heap HK.out.box)).trans HK.out.box)
      obtain ⟨w11, hw11⟩ : ∃ W, W = ((((w10.setCell ⟨w5.heap.size, 0, none⟩ (.string M)).setCell ⟨w5.heap.size, 1, none⟩ (.slice F1 c.es.length r1)).setCell ⟨w5.heap.size, 2, none⟩ (.slice F2 c.vs.length r2)).setCell ⟨w5.heap.size, 3, none⟩ (.slice F3 sp.length r3)).setCell ⟨w5.heap.size, 4, none⟩ (.slice F4 tp.length r4) := ⟨_, rfl⟩
      rw [← hw11] at hI2
      rw [HM.out, HN1.out, HN2.out, HN3.out, HN4.out]
      rw [HN1.out, HN2.out, HN3.out, HN4.out] at hI2 hw11
      have HI2 := Lib.hid hI2
      have HW11 := Lib.hid hw11
      have HCZ := Lib.hid hCz
      clear hCz
      clear hb10 hM10 hCC re rv rs rt hI2 hw11 d0 d1 d2 d3 d4
      obtain ⟨d0, d1, d2, d3, d4⟩ := box_cells hbx10
      have z0 := frozen5 hbx10 0; have z1 := frozen5 hbx10 1; have z2 := frozen5 hbx10 2; have z3 := frozen5 hbx10 3; have z4 := frozen5 hbx10 4
      clear hbx10
      go_upto_region 21 with fail
      rw [← HW11.out]
      clear d0 d1 d2 d3 d4 z0 z1 z2 z3 z4
      obtain ⟨d0, d1, d2, d3, d4⟩ := box_cells HI2.out.box
      obtain ⟨iIS, hi0, hi1, hi2, hi3⟩ := info_of infoStrS
      have IS0 := Lib.hid hi0; have IS1 := Lib.hid hi1; have IS2 := Lib.hid hi2; have IS3 := Lib.hid hi3
      clear hi0 hi1 hi2 hi3
      have hCw : C ≤ w11.heap.size := by rw [HW11.out]; simpa using HCZ.out
      have hre := HI2.out.re
      rw [HN1.out] at hre
      have HE : Hid ((w11.alloc (.cells #[.string NM] 9)).ownsRow C 9 1 (.slice F1 n1 r1) n1 (strsV c.es)) := Oz.own_same hre (fun g hg => Below.heap_alloc w11 _ _ (hre.lt g hg).2)
      have HS : Hid (Inn (w11.alloc (.cells #[.string NM] 9)) 1 (.slice (some ⟨w11.heap.size, 0, none⟩) 1 1) 1 [.string NM]) := Inn.of_own (Oz.own_laid (B := w11.heap.size) (e := 9) (size := 1) (n := 1) w11 #[.string NM] (Nat.le_refl _) (by decide) rfl)
      have HCW := Lib.hid hCw
      clear hre hCw
      go_wp2_with (at_builtin; refine Ow.wpList_append rfl (.tmp 57) (.tmp 59) 22 rfl C 9 iIS _ 1 16 Tryz.underlying22 IS0.out IS1.out IS2.out IS3.out rfl (by decide) _ n1 (strsV c.es) rfl HE.out _ 1 [.string NM] rfl HS.out (by intro u hu; simp only [List.mem_singleton] at hu; subst hu; rfl) (by unfold maxLen; omega) (by omega) (by have := HCW.out; simp; omega) ?_)
      intro v' w' hown hg _
      obtain ⟨G, r', ev, hr'⟩ := own_cap hown
      subst ev
      have hHW : Below w.heap.size w w11 := HB.out.trans (HI2.out.below.mono HB.out.size)
      rw [← HN1.out] at hown
      obtain ⟨hx1, hx0, hMm, hbm⟩ := HI2.out.more HIN.out.m hHW HB.out.size (by rw [HN1.out]; omega) hg hown
      obtain ⟨wf, hwf⟩ : ∃ W, W = w'.setCell ⟨w5.heap.size, 1, none⟩ (.slice G (c.es.length + 1) r') := ⟨_, rfl⟩
      rw [← hwf] at hx1 hMm hbm
      have hmore := more_check HV.out NM.data.toList
      have hck2 := check_any hMm (by intro A x y e; simp only [Value.slice.injEq] at e; rw [HN1.out] at e; omega) (HIN.out.sb.more _)
      unfold chA at hck2
      rw [show (moreC c NM.data.toList).nm = c.nm from rfl, HM.out] at hck2
      rw [HN1.out] at hwf hck2 hx1
      obtain ⟨r, hr⟩ : ∃ r, checkE (moreC c NM.data.toList) = r := ⟨_, rfl⟩
      rw [hr] at hck2 hmore
      have HWF := Lib.hid hwf; have HX1 := Lib.hid hx1; have HCK2 := Lib.hid hck2; have HBM := Lib.hid hbm; have HMO := Lib.hid hmore
      clear hwf hx1 hck2 hbm hmore hMm hown hg hr hr' hHW d0 d1 d2 d3 d4 HE HS
      obtain ⟨d0, d1, d2, d3, d4⟩ := box_cells hx0
      have z0 := frozen5 hx0 1
      clear hx0
      go_upto_region 22 with fail
      rw [← HWF.out]
      clear d0 d1 d2 d3 d4 z0
      obtain ⟨d0, d1, d2, d3, d4⟩ := box_cells HX1.out
      go_wp2_with fail
      refine HCK2.out.mono ?_
      rintro e wg ⟨rfl, hbg⟩
      have HBG := Lib.hid (HBM.out.trans (hbg.mono HBM.out.size))
      clear hbg d0 d1 d2 d3 d4
      rcases HMO.out with rfl | rfl | rfl | rfl
      all_goals
       go_wp2
       go_ret
       exact ⟨rfl, HBG.out⟩
 ·obtain ⟨ck, hckk⟩ : ∃ x, checkE c = x := ⟨_, rfl⟩
  rw [hckk] at hck ⊢
  have hck' : ¬ (0 : Int) = ck := fun e => hck e.symm
  clear hckk
  go_wp2
  go_ret
  exact ⟨rfl, HC4.out⟩
end Go.Proofs.YtkjkcgbmaojpiaaGreatDoor.Ch.Vd
