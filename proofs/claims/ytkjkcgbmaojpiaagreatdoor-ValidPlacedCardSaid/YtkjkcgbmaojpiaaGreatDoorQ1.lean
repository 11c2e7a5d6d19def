/- Own texts, joined. -/
import Derived.Test.YtkjkcgbmaojpiaaGreatDoorR1
import Derived.Test.YtkjkcgbmaojpiaaGreatDoorR2
import Derived.Test.YtkjkcgbmaojpiaaGreatDoorR3
import Derived.Test.YtkjkcgbmaojpiaaGreatDoorR4
import Derived.Test.YtkjkcgbmaojpiaaGreatDoorR5
import Derived.Test.YtkjkcgbmaojpiaaGreatDoorR6
import Derived.Test.YtkjkcgbmaojpiaaGreatDoorR7
import Derived.Test.YtkjkcgbmaojpiaaGreatDoorR8
import Derived.Test.YtkjkcgbmaojpiaaGreatDoorR9
import Derived.Test.YtkjkcgbmaojpiaaGreatDoorR10
import Derived.Test.YtkjkcgbmaojpiaaGreatDoorR11
import Derived.Test.YtkjkcgbmaojpiaaGreatDoorR12
import Derived.Test.YtkjkcgbmaojpiaaGreatDoorR13
import Derived.Test.YtkjkcgbmaojpiaaGreatDoorR14
import Derived.Test.YtkjkcgbmaojpiaaGreatDoorR15
import Derived.Test.YtkjkcgbmaojpiaaGreatDoorR16
import Derived.Test.YtkjkcgbmaojpiaaGreatDoorR17
import Derived.Test.YtkjkcgbmaojpiaaGreatDoorR18
import Derived.Test.YtkjkcgbmaojpiaaGreatDoorR19
import Derived.Test.YtkjkcgbmaojpiaaGreatDoorR20
import Derived.Test.YtkjkcgbmaojpiaaGreatDoorR21
import Derived.Test.YtkjkcgbmaojpiaaGreatDoorR22
import Derived.Test.YtkjkcgbmaojpiaaGreatDoorR23
import Derived.Test.YtkjkcgbmaojpiaaGreatDoorR24
import Derived.Test.YtkjkcgbmaojpiaaGreatDoorR25
import Derived.Test.YtkjkcgbmaojpiaaGreatDoorR26
import Derived.Test.YtkjkcgbmaojpiaaGreatDoorR27
import Derived.Test.YtkjkcgbmaojpiaaGreatDoorR28
import Derived.Test.YtkjkcgbmaojpiaaGreatDoorR29
import Derived.Test.YtkjkcgbmaojpiaaGreatDoorR30
import Derived.Test.YtkjkcgbmaojpiaaGreatDoorR31
import Derived.Test.YtkjkcgbmaojpiaaGreatDoorR32
import Derived.Test.YtkjkcgbmaojpiaaGreatDoorR33
import Derived.Test.YtkjkcgbmaojpiaaGreatDoorR34
import Derived.Test.YtkjkcgbmaojpiaaGreatDoorCards
import Derived.Test.YtkjkcgbmaojpiaaGreatDoorTie
import Derived.Test.YtkjkcgbmaojpiaaGreatDoorRows
import Derived.Orders
import Derived.Below
import Derived.Laws.AppendOwn
import Derived.Test.YtkjkcgbmaojpiaaGreatDoorProg
import Derived.Lib.AtoiTie
import Derived.Lib.ItoaLen
import Derived.Lib.ParseIntBTie
import Derived.Lib.IndexAny
import Derived.Lib.Strings
import Derived.Scope
import Derived.ScopeJumps
import Derived.WalkMore
import Derived.WalkKit
import Derived.WalkSpells
import Derived.WalkLawsBesides
import Derived.Lib.Hide
import Derived.Laws.OwnMore
import Derived.OneCell
import Derived.Deep.Onto
import Derived.Deep.QuietTactic
import Derived.BigQuiet
import Derived.Deep.Draws
import Derived.RegionTactic
import Derived.Deep.RegionLaw
import Derived.Laws.Rows
import Derived.Deep.RegionHeld3
import Derived.Deep.AppendLies
import Derived.StillTailTactics
import Derived.Shelf.Small.Utf8
import Derived.Shelf.Small.Strs
import Derived.Shelf.Small.Wraps
import Derived.Shelf.Utf8.RuneCount
import Derived.Shelf.Strconv.Itoa0
import Derived.Shelf.Strconv.Itoa1
import Derived.Shelf.LaysM
import Derived.Shelf.Strconv.Itoa2
import Derived.Shelf.Strconv.Itoa3
import Derived.Shelf.Strconv.Itoa4
import Derived.Shelf.Strconv.ParseIntEmpty
import Derived.Shelf.Strconv.Clone
import Derived.Shelf.Strconv.SyntaxError
import Derived.Shelf.LaysC
import Derived.Shelf.Strconv.ToError
import Derived.Shelf.Strconv.Lower
import Derived.Shelf.Strconv.ParseUint10
import Derived.Shelf.Strconv.ParseUint10Empty
import Derived.Shelf.Strconv.ParseUint10Any
import Derived.Shelf.Strconv.ParseInt10
import Derived.Shelf.Strconv.RangeError
import Derived.Shelf.Strconv.ToErrorRange
import Derived.Shelf.Strconv.ParseUintEmpty
import Derived.Shelf.Strconv.ParseUint10b64
import Derived.Shelf.Strconv.ParseUint10b32
import Derived.Shelf.Strconv.ParseUint10b16
import Derived.Shelf.Strconv.ParseUint10b8
import Derived.Shelf.Strconv.ParseUint10At
import Derived.Shelf.Strconv.ParseInt10At64
import Derived.Shelf.Strconv.ParseInt10At32
import Derived.Shelf.Strconv.ParseInt10At16
import Derived.Shelf.Strconv.ParseInt10At8
import Derived.Shelf.Strconv.ParseInt10All
import Derived.Shelf.Strconv.ParseIntPublic10
import Derived.Shelf.Strconv.ErrVarParseInt
import Derived.Shelf.Strings.Search1
import Derived.Shelf.Strings.Search2
import Derived.Shelf.Strings.Search3
import Derived.Shelf.Strings.Cut
import Derived.Shelf.Strings.Count
import Derived.Shelf.Strings.Shaped
import Derived.Shelf.Strings.Prefix
import Derived.Shelf.Strings.Split
import Derived.Shelf.Strings.SplitShaped
import Derived.Shelf.Unicode.Decode
import Derived.Shelf.Strings.Runes
import Derived.Shelf.Strings.RuneCount
import Derived.Shelf.Strings.IndexAny
import Derived.Shelf.Strings.AsciiSet
import Derived.Shelf.Strings.IndexAnyAll
import Derived.Shelf.Strings.Explode
import Derived.Shelf.Unicode.DecodeSlow
import Derived.IntWalk
import Derived.Lib.AppendIntMem
import Derived.Laws.IdiomStrings
import Derived.Laws.Concat
import Derived.Laws.AppendOwnNone
import Derived.ProofKit
import Derived.Deep.Slices
import Derived.Lib.SmallJoins
import Derived.SizedLaws
import Derived.Lib.LaidTab
import Derived.Lib.LaidU8
import Derived.LaidMore
import Derived.KernelRfl
import Derived.Laws.ComplexArith
import Derived.Laws.Tables
import Derived.Laws.CopyOwn
import Derived.Lib.SplitLaws
import Derived.Lib.Split
import Derived.Lib.IndexBytes
import Derived.Lib.Join
import Derived.Lib.BufferOwn
import Derived.RangeFuncBox
import Derived.RangeFuncNested
import Derived.RangeFuncBound
import Derived.RangeFuncCalls
import Derived.RangeFuncLeaves
import Derived.Shelf.Abstract
import Derived.Shelf.RegionOpen
import Derived.OwnWalkIn
import Derived.TacticsInMore
import Derived.LoopNIn
import Derived.LoopIn
import Derived.Sort.BigQuietIn
import Derived.Lib.OthersKept
import Derived.Lib.RuneCount
import Derived.Deep.LoopGhost
import Derived.Deep.Cut
import Derived.Deep.CutRange
import Derived.Maps.Own
import Derived.Maps.OwnOps
import Derived.StringKeys
import Derived.RangeFuncWrites
import Derived.OpenShut
import Derived.Deep.DeepHandedRow
import Derived.Deep.DeepWitnessRowRef
import Derived.Stop.LaidErr
import Derived.Carry
import Derived.Lay
namespace Go.Proofs.YtkjkcgbmaojpiaaGreatDoor.Ch.Vd
/-! where names lead -/
theorem st_nodup {c : CH} (h : Valid c) : (stN c).Nodup := by
 have := h.apart
 unfold apartB apartL at this
 simp only [Bool.and_eq_true, decide_eq_true_eq] at this
 exact this.2.2
theorem placed_self {c : CH} (h : Valid c) {i : Nat} (hi : i < c.ss.length) : placeC c.ss c.ss[i].nm = (i : Int) := place_at (st_nodup h) hi
theorem place_pos {ss : List SC} {n : List UInt8} (h : placeC ss n ≠ -1) : 0 ≤ placeC ss n := by
 rcases ix_range (isS n) ss with h1 | h1
 ·exact absurd h1 h
 ·exact h1.1
theorem placed_ini {c : CH} (h : Valid c) {i : Nat} (hi : i < c.ss.length) (hn : c.ss[i].ini ≠ []) : 0 ≤ placeC c.ss c.ss[i].ini := by
 have := h.init i hi
 unfold initE at this
 rw [iniC_at hi] at this
 by_cases h1 : kC c.ss i ≠ 2 ∧ ¬ Tr.pastP (kC c.ss i)
 ·rw [if_pos h1, if_neg hn] at this; cases this
 ·rw [if_neg h1] at this
  by_cases h2 : beginP c.ss i (placeC c.ss c.ss[i].ini)
  ·exact place_pos h2.1
  ·rw [if_neg h2] at this; cases this
theorem placed_to {c : CH} (h : Valid c) {t : TC} (ht : t ∈ c.ts) (hn : t.to ≠ []) : 0 ≤ placeC c.ss t.to := by
 have := h.trans t ht
 unfold tE at this
 by_cases h1 : waitP c t.ev
 ·rw [if_neg (fun k => k h1), orE_zero, orE_zero] at this
  have h2 := this.2.1
  unfold targE at h2
  rw [if_neg hn] at h2
  by_cases h3 : placeC c.ss t.to = -1
  ·rw [if_pos h3] at h2; cases h2
  ·exact place_pos h3
 ·rw [if_pos h1] at this; cases this
theorem name_nodot {l : List UInt8} (h : nameB l = true) : (46 : UInt8) ∉ l := by
 unfold nameB at h
 cases l with
 | nil => cases h
 | cons c r =>
  simp only [Bool.and_eq_true] at h
  obtain ⟨⟨⟨_, hc⟩, hr⟩, _⟩ := h
  intro hm
  rcases List.mem_cons.1 hm with rfl | hm
  ·exact absurd hc (by decide)
  ·exact absurd (List.all_eq_true.1 hr 46 hm) (by decide)
theorem placed_done {c : CH} (h : Valid c) {t : TC} (ht : t ∈ c.ts) (hl : 5 < t.ev.length) (hd : t.ev.take 5 = wDone) : 0 ≤ placeC c.ss (t.ev.drop 5) := by
 have := h.trans t ht
 unfold tE at this
 by_cases h1 : waitP c t.ev
 ·rcases h1 with h2 | h2 | h2 | ⟨s, hs, _, h2⟩
  ·rw [h2] at hl; simp at hl
  ·rw [h2] at hl; simp [wError] at hl
  ·have hn := h.named
   unfold namedB at hn
   simp only [Bool.and_eq_true] at hn
   have h3 := name_nodot (List.all_eq_true.1 hn.2.1 _ h2)
   exact absurd (List.mem_of_mem_take (show (46 : UInt8) ∈ t.ev.take 5 by rw [hd]; decide)) h3
  ·rw [h2, show (wDone ++ s.nm).drop 5 = s.nm from rfl]
   obtain ⟨i, hi, rfl⟩ := List.getElem_of_mem hs
   rw [placed_self h hi]
   omega
 ·rw [if_pos h1] at this; cases this
end Go.Proofs.YtkjkcgbmaojpiaaGreatDoor.Ch.Vd
namespace Go.Proofs.YtkjkcgbmaojpiaaGreatDoor.Ch.Vd
open Go.RowKit
set_option maxRecDepth 100000
theorem Oy.walk_q {P : Program} {ops : Array Oper} {Q : Exit → Act → World → Prop} {md : Region.Mode} {Rs : List Oy.RelD} {par : List (List Nat)} {w0 : World} {l r : List Oper} {o : Oper} {i : Nat} {a : Act} {vs : List Value} {f : Value → Act} {us : Value → List Value}
  (h : Oy.Duty P ops md Rs par w0 i o a vs) (hr : ∀ v, Oy.Walk P ops Q md Rs par w0 r (i + 1) (f v) (us v))
  (hl : l = o :: r := by exact rfl) (hf : ∀ v, a.put o.dst v = f v := by intro v; simp only [Act.put, List.setIfInBounds_toArray, List.set_cons_succ, List.set_cons_zero]; exact rfl) (hu : ∀ v, vs ++ [v] = us v := by intro v; simp only [List.cons_append, List.nil_append]; exact rfl) : Oy.Walk P ops Q md Rs par w0 l i a vs :=
 Oy.walk_cons hl h hf hu hr
set_option maxHeartbeats 16000000 in
theorem placed_law (c : CH) (eV vV sV tV : Value) (sp : List SP) (tp : List TP) (w : World) (h : ChIn9 w c eV vV sV tV sp tp) (hE : Env w) :
  Calls Tryz.prog 7 #[.agg #[bstr c.nm, eV, vV, sV, tV]] w fun e w' => e = .returned (.bool true) ∧ Below w.heap.size w w' := by
 obtain ⟨M, A1, A2, A3, A4, k1, k2, k3, k4, wb, hM, rfl, rfl, rfl, rfl, hwb, hb1, hz1, d0, d1, d2, d3, d4⟩ := box_ch h.m
 have hsl : sp.length ≤ 4611686018427387904 := by have := h.ss; omega
 have hcp : ∀ W, Below w.heap.size w W → Calls Tryz.prog 10 #[.agg #[bstr c.nm, .slice A1 c.es.length k1, .slice A2 c.vs.length k2, .slice A3 sp.length k3, .slice A4 tp.length k4]] W fun e w' => ∃ v, e = .returned v ∧ CpR c sp tp v w' ∧ Below W.heap.size W w' := fun W hW => copied9_r (h.below hW)
 have hck : ∀ W e1 v1 s1 t1, ChM W c e1 v1 s1 t1 sp tp → (∀ A n k, e1 = .slice A n k → n ≤ k) → Calls Tryz.prog 9 #[.agg #[bstr c.nm, e1, v1, s1, t1]] W fun e w' => e = .returned (.int .i64 (checkE c)) ∧ Below W.heap.size W w' := fun W e1 v1 s1 t1 hM hc => check_any hM hc h.sb
 have hpl : ∀ W, Below w.heap.size w W → ∀ N : ByteArray, Calls Tryz.prog 12 #[.agg #[bstr c.nm, .slice A1 c.es.length k1, .slice A2 c.vs.length k2, .slice A3 sp.length k3, .slice A4 tp.length k4], .string N] W fun e w' => e = .returned (.int .i64 (placeC c.ss N.data.toList)) ∧ Below W.heap.size W w' := fun W hW N => place_any (h.m.below hW) hsl N
 have hwk : ∀ W, Below w.heap.size w W → Calls Tryz.prog 8 #[] W fun e w' => e = .returned (.bool true) ∧ Below W.heap.size W w' := fun W hW => wakes9_any W (hE.below hW)
 rw [hM] at hcp hpl ⊢
 have HM := Lib.hid hM
 have HCP := Lib.hid hcp; have HCK := Lib.hid hck; have HPL := Lib.hid hpl; have HWK := Lib.hid hwk
 have HW := Lib.hid hwb; have HB := Lib.hid hb1
 have HT : Hid (∀ W, Below wb.heap.size wb W → W.cell? ⟨w.heap.size, 0, none⟩ = some (.string M) ∧ W.cell? ⟨w.heap.size, 1, none⟩ = some (.slice A1 c.es.length k1) ∧ W.cell? ⟨w.heap.size, 2, none⟩ = some (.slice A2 c.vs.length k2) ∧ W.cell? ⟨w.heap.size, 3, none⟩ = some (.slice A3 sp.length k3) ∧ W.cell? ⟨w.heap.size, 4, none⟩ = some (.slice A4 tp.length k4)) := fun W hW =>
  ⟨(hW.cell (cell_lt d0)).trans d0, (hW.cell (cell_lt d1)).trans d1, (hW.cell (cell_lt d2)).trans d2, (hW.cell (cell_lt d3)).trans d3, (hW.cell (cell_lt d4)).trans d4⟩
 have HSR : Hid (Inn w 6 (.slice A3 sp.length k3) sp.length (flatS sp)) := h.m.ss
 have HTR : Hid (Inn w 5 (.slice A4 tp.length k4) tp.length (flatT tp)) := h.m.ts
 have HSD : Hid (∀ p ∈ sp, StR w p) := h.m.sd
 have HTD : Hid (∀ p ∈ tp, TrR w p) := h.m.td
 have HSE : Hid (sp.map Prod.fst = c.ss) := h.m.ssE
 have HTE : Hid (tp.map Prod.fst = c.ts) := h.m.tsE
 have hn3l : sp.length ≤ 4611686018427387904 := hsl
 have hn4l : tp.length ≤ 4611686018427387904 := by have := h.ts; omega
 clear hcp hck hpl hwk h hM hsl hE hwb hb1 hz1 d0 d1 d2 d3 d4
 generalize c.es.length = n1 at *; generalize c.vs.length = n2 at *
 obtain ⟨n3, hn3⟩ : ∃ n, sp.length = n := ⟨_, rfl⟩
 obtain ⟨n4, hn4⟩ : ∃ n, tp.length = n := ⟨_, rfl⟩
 have HN3 := Lib.hid hn3; have HN4 := Lib.hid hn4
 rw [hn3, hn4] at HCP HPL HW HT
 rw [hn3] at HSR hn3l ⊢; rw [hn4] at HTR hn4l ⊢
 clear hn3 hn4
 go_enter Tryz.func7, Tryz.ntmps7
 go_upto_region 1 with fail
 rw [← HW.out]
 go_wp2_with fail
 refine (HWK.out _ HB.out).mono ?_
 rintro e w2 ⟨rfl, hb2⟩
 have HB2 := Lib.hid hb2
 have HC2 := Lib.hid (HB.out.trans (hb2.mono HB.out.size))
 obtain ⟨d0, d1, d2, d3, d4⟩ := HT.out _ hb2
 clear hb2
 go_wp2_with fail
 refine (HCP.out _ HC2.out).mono ?_
 rintro e w3 ⟨v, rfl, ⟨e1, v1, s1, t1, rfl, hM3, hc3⟩, hb3⟩
 have HB3 := Lib.hid (HB2.out.trans (hb3.mono HB2.out.size))
 have HC3 := Lib.hid (HC2.out.trans (hb3.mono HC2.out.size))
 have HK3 := Lib.hid (HCK.out _ _ _ _ _ hM3 hc3)
 clear hb3 hM3 hc3 d0 d1 d2 d3 d4
 go_wp2_with fail
 refine HK3.out.mono ?_
 rintro e w4 ⟨rfl, hb4⟩
 have HB4 := Lib.hid (HB3.out.trans (hb4.mono HB3.out.size))
 have HC4 := Lib.hid (HC3.out.trans (hb4.mono HC3.out.size))
 clear hb4
 by_cases hck : checkE c = 0
 ·have HV := Lib.hid (check_zero.1 hck)
  rw [hck]
  clear hck
  obtain ⟨d0, d1, d2, d3, d4⟩ := HT.out _ HB4.out
  go_wp2
  clear d0 d1 d2 d3 d4
  go_loopw [2, 3, 15] (fun _ _ i wr => True ∧ True ∧ ∃ k : Nat, k ≤ n3 ∧ i = .int .i64 k ∧ Hid (Below wb.heap.size wb wr)) (fun _ _ x _ => n3 - (intOf x).toNat)
  case atStart => exact ⟨trivial, trivial, 0, by omega, rfl, HB4.out⟩
  case round =>
   obtain ⟨_, _, k, hk, rfl, HBR⟩ := hrel
   obtain ⟨wl, hwl⟩ : ∃ W, W = wr := ⟨_, rfl⟩
   rw [← hwl] at HBR ⊢
   clear hwl
   have HCR := Lib.hid (HB.out.trans (HBR.out.mono HB.out.size))
   obtain ⟨d0, d1, d2, d3, d4⟩ := HT.out _ HBR.out
   by_cases hkn : k < n3
   ·obtain ⟨b, o, X, Y, A4', m4, c4, A5', m5, c5, rfl, _, hX, hY, _, _, _, _, e0, _, _, e3, _, _⟩ := st_at (HSR.out.below HCR.out) HN3.out (fun p hp => (HSD.out p hp).below HCR.out) (k := k) (by rw [HN3.out]; exact hkn)
    have hkc : k < c.ss.length := by rw [← HSE.out, List.length_map, HN3.out]; exact hkn
    have hgt : c.ss[k] = (sp[k]'(by rw [HN3.out]; exact hkn)).1 := by
     have : (sp.map Prod.fst)[k]? = some (sp[k]'(by rw [HN3.out]; exact hkn)).1 := by rw [List.getElem?_map, List.getElem?_eq_getElem (by rw [HN3.out]; exact hkn)]; rfl
     rw [HSE.out, List.getElem?_eq_getElem hkc] at this
     exact Option.some.inj this
    have hpx : placeC c.ss X.data.toList = (k : Int) := by rw [hX, ← hgt]; exact placed_self HV.out hkc
    have hpy : Y.data.toList ≠ [] → 0 ≤ placeC c.ss Y.data.toList := fun hne => by rw [hY, ← hgt] at hne ⊢; exact placed_ini HV.out hkc hne
    have HBW : Hid (∀ w1, Below wl.drew.heap.size wl.drew w1 → Below w.heap.size w w1) := fun w1 hb => HCR.out.trans (((Below.refl _ _).drew.trans hb).mono HCR.out.size)
    have HBQ : Hid (∀ w1, Below wl.drew.heap.size wl.drew w1 → Below wb.heap.size wb w1) := fun w1 hb => HBR.out.trans (((Below.refl _ _).drew.trans hb).mono HBR.out.size)
    have HPX : Hid (∀ W, Below w.heap.size w W → Calls Tryz.prog 12 #[.agg #[.string M, .slice A1 n1 k1, .slice A2 n2 k2, .slice (some ⟨b, o, none⟩) n3 k3, .slice A4 n4 k4], .string X] W fun e w' => e = .returned (.int .i64 k) ∧ Below W.heap.size W w') := fun W hW => by
     have h := HPL.out W hW X
     rw [hpx] at h
     exact h
    obtain ⟨PL, hPL⟩ : ∃ x, placeC c.ss Y.data.toList = x := ⟨_, rfl⟩
    have HPY : Hid (∀ W, Below w.heap.size w W → Calls Tryz.prog 12 #[.agg #[.string M, .slice A1 n1 k1, .slice A2 n2 k2, .slice (some ⟨b, o, none⟩) n3 k3, .slice A4 n4 k4], .string Y] W fun e w' => e = .returned (.int .i64 PL) ∧ Below W.heap.size W w') := fun W hW => by
     have h := HPL.out W hW Y
     rw [hPL] at h
     exact h
    rw [hPL] at hpy
    clear hX hY hgt hpx hPL
    by_cases hy : Y.data.toList = []
    ·obtain rfl : Y = ⟨#[]⟩ := str_eq (Y := ⟨#[]⟩) hy
     clear hy hpy
     go_upto_region 8 with fail
     refine Oy.region_quiet 97 [Oy.eqD (.agg #[.string M, .slice A1 n1 k1, .slice A2 n2 k2, .slice (some ⟨b, o, none⟩) n3 k3, .slice A4 n4 k4]), Oy.eqD (.pointer (some ⟨w.heap.size, 3, none⟩)), Oy.eqD (.slice (some ⟨b, o, none⟩) n3 k3), Oy.eqD (.int .i64 k), Oy.eqD (.pointer (some ⟨b, o + k * 6, none⟩)), Oy.eqD (.pointer (some ⟨b, o + k * 6, none⟩)), Oy.eqD (.string X), Oy.eqD (.int .i64 k), Oy.eqD (.int .i64 k), Oy.eqD (.bool false), Oy.eqD (.bool false), Oy.eqD (.pointer (some ⟨w.heap.size, 3, none⟩)), Oy.eqD (.slice (some ⟨b, o, none⟩) n3 k3), Oy.eqD (.int .i64 k), Oy.eqD (.pointer (some ⟨b, o + k * 6, none⟩)), Oy.eqD (.pointer (some ⟨b, o + k * 6 + 3, none⟩)), Oy.eqD (.string ⟨#[]⟩), Oy.eqD (.bool false), Oy.eqD (.bool false), Oy.eqD (undef), Oy.eqD (undef), Oy.eqD (undef), Oy.eqD (undef), Oy.eqD (undef), Oy.eqD (undef), Oy.eqD (undef), Oy.eqD (undef), Oy.eqD (undef), Oy.eqD (.bool false), Oy.eqD (.bool false)] [[], [], [], [], [], [], [], [], [], [], [], [], [], [], [], [], [], [], [], [], [], [], [], [], [], [], [], [], [], []] (by kernel_rfl) rfl (by kernel_rfl) (by kernel_rfl) ⟨Oy.keeps_eq _, Oy.keeps_eq _, Oy.keeps_eq _, Oy.keeps_eq _, Oy.keeps_eq _, Oy.keeps_eq _, Oy.keeps_eq _, Oy.keeps_eq _, Oy.keeps_eq _, Oy.keeps_eq _, Oy.keeps_eq _, Oy.keeps_eq _, Oy.keeps_eq _, Oy.keeps_eq _, Oy.keeps_eq _, Oy.keeps_eq _, Oy.keeps_eq _, Oy.keeps_eq _, Oy.keeps_eq _, Oy.keeps_eq _, Oy.keeps_eq _, Oy.keeps_eq _, Oy.keeps_eq _, Oy.keeps_eq _, Oy.keeps_eq _, Oy.keeps_eq _, Oy.keeps_eq _, Oy.keeps_eq _, Oy.keeps_eq _, Oy.keeps_eq _, trivial⟩ ?_
     refine Oy.walk_q ?_ fun x18 => ?_
     ·intro w1 hb hd K hK
      clear hd
      have c_d0 := (hb.cell (cell_lt d0)).trans d0
      have c_d1 := (hb.cell (cell_lt d1)).trans d1
      have c_d2 := (hb.cell (cell_lt d2)).trans d2
      have c_d3 := (hb.cell (cell_lt d3)).trans d3
      have c_d4 := (hb.cell (cell_lt d4)).trans d4
      go_simp
      exact hK _ _ (Below.refl _ _) rfl
     refine Oy.walk_q ?_ fun x19 => ?_
     ·intro w1 hb hd K hK
      clear hd
      go_simp
      exact hK _ _ (Below.refl _ _) rfl
     refine Oy.walk_q ?_ fun x20 => ?_
     ·intro w1 hb hd K hK
      obtain rfl : _ = x19 := Eq.symm (hd 1 (by kernel_rfl))
      clear hd
      have c_d3 := (hb.cell (cell_lt d3)).trans d3
      go_simp
      exact hK _ _ (Below.refl _ _) rfl
     refine Oy.walk_q ?_ fun x21 => ?_
     ·intro w1 hb hd K hK
      clear hd
      go_simp
      exact hK _ _ (Below.refl _ _) rfl
     refine Oy.walk_q ?_ fun x22 => ?_
     ·intro w1 hb hd K hK
      obtain rfl : _ = x20 := Eq.symm (hd 2 (by kernel_rfl))
      obtain rfl : _ = x21 := Eq.symm (hd 3 (by kernel_rfl))
      clear hd
      go_simp
      exact hK _ _ (Below.refl _ _) rfl
     refine Oy.walk_q ?_ fun x23 => ?_
     ·intro w1 hb hd K hK
      obtain rfl : _ = x22 := Eq.symm (hd 4 (by kernel_rfl))
      clear hd
      go_simp
      exact hK _ _ (Below.refl _ _) rfl
     refine Oy.walk_q ?_ fun x24 => ?_
     ·intro w1 hb hd K hK
      obtain rfl : _ = x23 := Eq.symm (hd 5 (by kernel_rfl))
      clear hd
      have c_e0 := (hb.cell (cell_lt e0)).trans e0
      go_simp
      exact hK _ _ (Below.refl _ _) rfl
     refine Oy.walk_q ?_ fun x25 => ?_
     ·intro w1 hb hd K hK
      obtain rfl : _ = x18 := Eq.symm (hd 0 (by kernel_rfl))
      obtain rfl : _ = x24 := Eq.symm (hd 6 (by kernel_rfl))
      clear hd
      go_simp
      refine (HPX.out w1 (HBW.out w1 hb)).mono ?_
      rintro e w5 ⟨rfl, hb5⟩
      go_simp
      exact hK _ _ hb5 rfl
     refine Oy.walk_q ?_ fun x26 => ?_
     ·intro w1 hb hd K hK
      clear hd
      go_simp
      exact hK _ _ (Below.refl _ _) rfl
     refine Oy.walk_q ?_ fun x27 => ?_
     ·intro w1 hb hd K hK
      obtain rfl : _ = x25 := Eq.symm (hd 7 (by kernel_rfl))
      obtain rfl : _ = x26 := Eq.symm (hd 8 (by kernel_rfl))
      clear hd
      go_simp
      exact hK _ _ (Below.refl _ _) rfl
     refine Oy.walk_q ?_ fun x28 => ?_
     ·intro w1 hb hd K hK
      obtain rfl : _ = x27 := Eq.symm (hd 9 (by kernel_rfl))
      clear hd
      go_simp
      exact hK _ _ (Below.refl _ _) rfl
     refine Oy.walk_q ?_ fun x29 => ?_
     ·intro w1 hb hd K hK
      obtain rfl : _ = x28 := Eq.symm (hd 10 (by kernel_rfl))
      clear hd
      go_simp
      exact hK _ _ (Below.refl _ _) rfl
     refine Oy.walk_q ?_ fun x30 => ?_
     ·intro w1 hb hd K hK
      obtain rfl : _ = x29 := Eq.symm (hd 11 (by kernel_rfl))
      obtain rfl : _ = x28 := Eq.symm (hd 10 (by kernel_rfl))
      clear hd
      have c_d3 := (hb.cell (cell_lt d3)).trans d3
      go_simp
      exact hK _ _ (Below.refl _ _) rfl
     refine Oy.walk_q ?_ fun x31 => ?_
     ·intro w1 hb hd K hK
      obtain rfl : _ = x28 := Eq.symm (hd 10 (by kernel_rfl))
      clear hd
      go_simp
      exact hK _ _ (Below.refl _ _) rfl
     refine Oy.walk_q ?_ fun x32 => ?_
     ·intro w1 hb hd K hK
      obtain rfl : _ = x30 := Eq.symm (hd 12 (by kernel_rfl))
      obtain rfl : _ = x31 := Eq.symm (hd 13 (by kernel_rfl))
      obtain rfl : _ = x28 := Eq.symm (hd 10 (by kernel_rfl))
      clear hd
      go_simp
      exact hK _ _ (Below.refl _ _) rfl
     refine Oy.walk_q ?_ fun x33 => ?_
     ·intro w1 hb hd K hK
      obtain rfl : _ = x32 := Eq.symm (hd 14 (by kernel_rfl))
      obtain rfl : _ = x28 := Eq.symm (hd 10 (by kernel_rfl))
      clear hd
      go_simp
      exact hK _ _ (Below.refl _ _) rfl
     refine Oy.walk_q ?_ fun x34 => ?_
     ·intro w1 hb hd K hK
      obtain rfl : _ = x33 := Eq.symm (hd 15 (by kernel_rfl))
      obtain rfl : _ = x28 := Eq.symm (hd 10 (by kernel_rfl))
      clear hd
      have c_e3 := (hb.cell (cell_lt e3)).trans e3
      go_simp
      exact hK _ _ (Below.refl _ _) rfl
     refine Oy.walk_q ?_ fun x35 => ?_
     ·intro w1 hb hd K hK
      obtain rfl : _ = x34 := Eq.symm (hd 16 (by kernel_rfl))
      obtain rfl : _ = x28 := Eq.symm (hd 10 (by kernel_rfl))
      clear hd
      go_simp
      exact hK _ _ (Below.refl _ _) rfl
     refine Oy.walk_q ?_ fun x36 => ?_
     ·intro w1 hb hd K hK
      obtain rfl : _ = x35 := Eq.symm (hd 17 (by kernel_rfl))
      obtain rfl : _ = x28 := Eq.symm (hd 10 (by kernel_rfl))
      clear hd
      go_simp
      exact hK _ _ (Below.refl _ _) rfl
     refine Oy.walk_q ?_ fun x37 => ?_
     ·intro w1 hb hd K hK
      obtain rfl : _ = x36 := Eq.symm (hd 18 (by kernel_rfl))
      clear hd
      go_simp
      exact hK _ _ (Below.refl _ _) rfl
     refine Oy.walk_q ?_ fun x38 => ?_
     ·intro w1 hb hd K hK
      obtain rfl : _ = x36 := Eq.symm (hd 18 (by kernel_rfl))
      clear hd
      go_simp
      exact hK _ _ (Below.refl _ _) rfl
     refine Oy.walk_q ?_ fun x39 => ?_
     ·intro w1 hb hd K hK
      obtain rfl : _ = x38 := Eq.symm (hd 20 (by kernel_rfl))
      obtain rfl : _ = x36 := Eq.symm (hd 18 (by kernel_rfl))
      clear hd
      go_simp
      exact hK _ _ (Below.refl _ _) rfl
     refine Oy.walk_q ?_ fun x40 => ?_
     ·intro w1 hb hd K hK
      obtain rfl : _ = x36 := Eq.symm (hd 18 (by kernel_rfl))
      clear hd
      go_simp
      exact hK _ _ (Below.refl _ _) rfl
     refine Oy.walk_q ?_ fun x41 => ?_
     ·intro w1 hb hd K hK
      obtain rfl : _ = x39 := Eq.symm (hd 21 (by kernel_rfl))
      obtain rfl : _ = x40 := Eq.symm (hd 22 (by kernel_rfl))
      obtain rfl : _ = x36 := Eq.symm (hd 18 (by kernel_rfl))
      clear hd
      go_simp
      exact hK _ _ (Below.refl _ _) rfl
     refine Oy.walk_q ?_ fun x42 => ?_
     ·intro w1 hb hd K hK
      obtain rfl : _ = x41 := Eq.symm (hd 23 (by kernel_rfl))
      obtain rfl : _ = x36 := Eq.symm (hd 18 (by kernel_rfl))
      clear hd
      go_simp
      exact hK _ _ (Below.refl _ _) rfl
     refine Oy.walk_q ?_ fun x43 => ?_
     ·intro w1 hb hd K hK
      obtain rfl : _ = x42 := Eq.symm (hd 24 (by kernel_rfl))
      obtain rfl : _ = x36 := Eq.symm (hd 18 (by kernel_rfl))
      clear hd
      go_simp
      exact hK _ _ (Below.refl _ _) rfl
     refine Oy.walk_q ?_ fun x44 => ?_
     ·intro w1 hb hd K hK
      obtain rfl : _ = x37 := Eq.symm (hd 19 (by kernel_rfl))
      obtain rfl : _ = x43 := Eq.symm (hd 25 (by kernel_rfl))
      obtain rfl : _ = x36 := Eq.symm (hd 18 (by kernel_rfl))
      clear hd
      go_simp
      exact hK _ _ (Below.refl _ _) rfl
     refine Oy.walk_q ?_ fun x45 => ?_
     ·intro w1 hb hd K hK
      obtain rfl : _ = x44 := Eq.symm (hd 26 (by kernel_rfl))
      obtain rfl : _ = x36 := Eq.symm (hd 18 (by kernel_rfl))
      clear hd
      go_simp
      exact hK _ _ (Below.refl _ _) rfl
     refine Oy.walk_q ?_ fun x46 => ?_
     ·intro w1 hb hd K hK
      obtain rfl : _ = x36 := Eq.symm (hd 18 (by kernel_rfl))
      obtain rfl : _ = x45 := Eq.symm (hd 27 (by kernel_rfl))
      obtain rfl : _ = x28 := Eq.symm (hd 10 (by kernel_rfl))
      clear hd
      go_simp
      exact hK _ _ (Below.refl _ _) rfl
     refine Oy.walk_q ?_ fun x47 => ?_
     ·intro w1 hb hd K hK
      obtain rfl : _ = x28 := Eq.symm (hd 10 (by kernel_rfl))
      obtain rfl : _ = x46 := Eq.symm (hd 28 (by kernel_rfl))
      clear hd
      go_simp
      exact hK _ _ (Below.refl _ _) rfl
     refine Oy.walk_nil rfl (fun w1 hb hd => ?_)
     obtain rfl : _ = x18 := Eq.symm (hd 0 (by kernel_rfl))
     obtain rfl : _ = x19 := Eq.symm (hd 1 (by kernel_rfl))
     obtain rfl : _ = x20 := Eq.symm (hd 2 (by kernel_rfl))
     obtain rfl : _ = x21 := Eq.symm (hd 3 (by kernel_rfl))
     obtain rfl : _ = x22 := Eq.symm (hd 4 (by kernel_rfl))
     obtain rfl : _ = x23 := Eq.symm (hd 5 (by kernel_rfl))
     obtain rfl : _ = x24 := Eq.symm (hd 6 (by kernel_rfl))
     obtain rfl : _ = x25 := Eq.symm (hd 7 (by kernel_rfl))
     obtain rfl : _ = x26 := Eq.symm (hd 8 (by kernel_rfl))
     obtain rfl : _ = x27 := Eq.symm (hd 9 (by kernel_rfl))
     obtain rfl : _ = x28 := Eq.symm (hd 10 (by kernel_rfl))
     obtain rfl : _ = x29 := Eq.symm (hd 11 (by kernel_rfl))
     obtain rfl : _ = x30 := Eq.symm (hd 12 (by kernel_rfl))
     obtain rfl : _ = x31 := Eq.symm (hd 13 (by kernel_rfl))
     obtain rfl : _ = x32 := Eq.symm (hd 14 (by kernel_rfl))
     obtain rfl : _ = x33 := Eq.symm (hd 15 (by kernel_rfl))
     obtain rfl : _ = x34 := Eq.symm (hd 16 (by kernel_rfl))
     obtain rfl : _ = x35 := Eq.symm (hd 17 (by kernel_rfl))
     obtain rfl : _ = x36 := Eq.symm (hd 18 (by kernel_rfl))
     obtain rfl : _ = x37 := Eq.symm (hd 19 (by kernel_rfl))
     obtain rfl : _ = x38 := Eq.symm (hd 20 (by kernel_rfl))
     obtain rfl : _ = x39 := Eq.symm (hd 21 (by kernel_rfl))
     obtain rfl : _ = x40 := Eq.symm (hd 22 (by kernel_rfl))
     obtain rfl : _ = x41 := Eq.symm (hd 23 (by kernel_rfl))
     obtain rfl : _ = x42 := Eq.symm (hd 24 (by kernel_rfl))
     obtain rfl : _ = x43 := Eq.symm (hd 25 (by kernel_rfl))
     obtain rfl : _ = x44 := Eq.symm (hd 26 (by kernel_rfl))
     obtain rfl : _ = x45 := Eq.symm (hd 27 (by kernel_rfl))
     obtain rfl : _ = x46 := Eq.symm (hd 28 (by kernel_rfl))
     obtain rfl : _ = x47 := Eq.symm (hd 29 (by kernel_rfl))
     clear hd
     have HBZ := Lib.hid (HBQ.out w1 hb)
     clear hb
     go_simp
     go_wp2
     go_roundw
     case rel => exact ⟨trivial, trivial, k + 1, by omega, by go_num, HBZ.out⟩
     case measure => simp [intOf]; omega
    ·have hne := str_ne (Y := ⟨#[]⟩) hy
     have hne' := str_ne (X := ⟨#[]⟩) (Ne.symm hy)
     have hne2 : Y.toList.isEmpty = false := by
      rw [List.isEmpty_eq_false_iff, Lib.toList_data]
      exact hy
     have hp0 : ¬ PL < 0 := by have := hpy hy; omega
     clear hy hpy
     go_upto_region 8 with fail
     refine Oy.region_quiet 97 [Oy.eqD (.agg #[.string M, .slice A1 n1 k1, .slice A2 n2 k2, .slice (some ⟨b, o, none⟩) n3 k3, .slice A4 n4 k4]), Oy.eqD (.pointer (some ⟨w.heap.size, 3, none⟩)), Oy.eqD (.slice (some ⟨b, o, none⟩) n3 k3), Oy.eqD (.int .i64 k), Oy.eqD (.pointer (some ⟨b, o + k * 6, none⟩)), Oy.eqD (.pointer (some ⟨b, o + k * 6, none⟩)), Oy.eqD (.string X), Oy.eqD (.int .i64 k), Oy.eqD (.int .i64 k), Oy.eqD (.bool false), Oy.eqD (.bool false), Oy.eqD (.pointer (some ⟨w.heap.size, 3, none⟩)), Oy.eqD (.slice (some ⟨b, o, none⟩) n3 k3), Oy.eqD (.int .i64 k), Oy.eqD (.pointer (some ⟨b, o + k * 6, none⟩)), Oy.eqD (.pointer (some ⟨b, o + k * 6 + 3, none⟩)), Oy.eqD (.string Y), Oy.eqD (.bool true), Oy.eqD (.bool true), Oy.eqD (.agg #[.string M, .slice A1 n1 k1, .slice A2 n2 k2, .slice (some ⟨b, o, none⟩) n3 k3, .slice A4 n4 k4]), Oy.eqD (.pointer (some ⟨w.heap.size, 3, none⟩)), Oy.eqD (.slice (some ⟨b, o, none⟩) n3 k3), Oy.eqD (.int .i64 k), Oy.eqD (.pointer (some ⟨b, o + k * 6, none⟩)), Oy.eqD (.pointer (some ⟨b, o + k * 6 + 3, none⟩)), Oy.eqD (.string Y), Oy.eqD (.int .i64 PL), Oy.eqD (.bool false), Oy.eqD (.bool false), Oy.eqD (.bool false)] [[], [], [], [], [], [], [], [], [], [], [], [], [], [], [], [], [], [], [], [], [], [], [], [], [], [], [], [], [], []] (by kernel_rfl) rfl (by kernel_rfl) (by kernel_rfl) ⟨Oy.keeps_eq _, Oy.keeps_eq _, Oy.keeps_eq _, Oy.keeps_eq _, Oy.keeps_eq _, Oy.keeps_eq _, Oy.keeps_eq _, Oy.keeps_eq _, Oy.keeps_eq _, Oy.keeps_eq _, Oy.keeps_eq _, Oy.keeps_eq _, Oy.keeps_eq _, Oy.keeps_eq _, Oy.keeps_eq _, Oy.keeps_eq _, Oy.keeps_eq _, Oy.keeps_eq _, Oy.keeps_eq _, Oy.keeps_eq _, Oy.keeps_eq _, Oy.keeps_eq _, Oy.keeps_eq _, Oy.keeps_eq _, Oy.keeps_eq _, Oy.keeps_eq _, Oy.keeps_eq _, Oy.keeps_eq _, Oy.keeps_eq _, Oy.keeps_eq _, trivial⟩ ?_
     refine Oy.walk_q ?_ fun x18 => ?_
     ·intro w1 hb hd K hK
      clear hd
      have c_d0 := (hb.cell (cell_lt d0)).trans d0
      have c_d1 := (hb.cell (cell_lt d1)).trans d1
      have c_d2 := (hb.cell (cell_lt d2)).trans d2
      have c_d3 := (hb.cell (cell_lt d3)).trans d3
      have c_d4 := (hb.cell (cell_lt d4)).trans d4
      go_simp
      exact hK _ _ (Below.refl _ _) rfl
     refine Oy.walk_q ?_ fun x19 => ?_
     ·intro w1 hb hd K hK
      clear hd
      go_simp
      exact hK _ _ (Below.refl _ _) rfl
     refine Oy.walk_q ?_ fun x20 => ?_
     ·intro w1 hb hd K hK
      obtain rfl : _ = x19 := Eq.symm (hd 1 (by kernel_rfl))
      clear hd
      have c_d3 := (hb.cell (cell_lt d3)).trans d3
      go_simp
      exact hK _ _ (Below.refl _ _) rfl
     refine Oy.walk_q ?_ fun x21 => ?_
     ·intro w1 hb hd K hK
      clear hd
      go_simp
      exact hK _ _ (Below.refl _ _) rfl
     refine Oy.walk_q ?_ fun x22 => ?_
     ·intro w1 hb hd K hK
      obtain rfl : _ = x20 := Eq.symm (hd 2 (by kernel_rfl))
      obtain rfl : _ = x21 := Eq.symm (hd 3 (by kernel_rfl))
      clear hd
      go_simp
      exact hK _ _ (Below.refl _ _) rfl
     refine Oy.walk_q ?_ fun x23 => ?_
     ·intro w1 hb hd K hK
      obtain rfl : _ = x22 := Eq.symm (hd 4 (by kernel_rfl))
      clear hd
      go_simp
      exact hK _ _ (Below.refl _ _) rfl
     refine Oy.walk_q ?_ fun x24 => ?_
     ·intro w1 hb hd K hK
      obtain rfl : _ = x23 := Eq.symm (hd 5 (by kernel_rfl))
      clear hd
      have c_e0 := (hb.cell (cell_lt e0)).trans e0
      go_simp
      exact hK _ _ (Below.refl _ _) rfl
     refine Oy.walk_q ?_ fun x25 => ?_
     ·intro w1 hb hd K hK
      obtain rfl : _ = x18 := Eq.symm (hd 0 (by kernel_rfl))
      obtain rfl : _ = x24 := Eq.symm (hd 6 (by kernel_rfl))
      clear hd
      go_simp
      refine (HPX.out w1 (HBW.out w1 hb)).mono ?_
      rintro e w5 ⟨rfl, hb5⟩
      go_simp
      exact hK _ _ hb5 rfl
     refine Oy.walk_q ?_ fun x26 => ?_
     ·intro w1 hb hd K hK
      clear hd
      go_simp
      exact hK _ _ (Below.refl _ _) rfl
     refine Oy.walk_q ?_ fun x27 => ?_
     ·intro w1 hb hd K hK
      obtain rfl : _ = x25 := Eq.symm (hd 7 (by kernel_rfl))
      obtain rfl : _ = x26 := Eq.symm (hd 8 (by kernel_rfl))
      clear hd
      go_simp
      exact hK _ _ (Below.refl _ _) rfl
     refine Oy.walk_q ?_ fun x28 => ?_
     ·intro w1 hb hd K hK
      obtain rfl : _ = x27 := Eq.symm (hd 9 (by kernel_rfl))
      clear hd
      go_simp
      exact hK _ _ (Below.refl _ _) rfl
     refine Oy.walk_q ?_ fun x29 => ?_
     ·intro w1 hb hd K hK
      obtain rfl : _ = x28 := Eq.symm (hd 10 (by kernel_rfl))
      clear hd
      go_simp
      exact hK _ _ (Below.refl _ _) rfl
     refine Oy.walk_q ?_ fun x30 => ?_
     ·intro w1 hb hd K hK
      obtain rfl : _ = x29 := Eq.symm (hd 11 (by kernel_rfl))
      obtain rfl : _ = x28 := Eq.symm (hd 10 (by kernel_rfl))
      clear hd
      have c_d3 := (hb.cell (cell_lt d3)).trans d3
      go_simp
      exact hK _ _ (Below.refl _ _) rfl
     refine Oy.walk_q ?_ fun x31 => ?_
     ·intro w1 hb hd K hK
      obtain rfl : _ = x28 := Eq.symm (hd 10 (by kernel_rfl))
      clear hd
      go_simp
      exact hK _ _ (Below.refl _ _) rfl
     refine Oy.walk_q ?_ fun x32 => ?_
     ·intro w1 hb hd K hK
      obtain rfl : _ = x30 := Eq.symm (hd 12 (by kernel_rfl))
      obtain rfl : _ = x31 := Eq.symm (hd 13 (by kernel_rfl))
      obtain rfl : _ = x28 := Eq.symm (hd 10 (by kernel_rfl))
      clear hd
      go_simp
      exact hK _ _ (Below.refl _ _) rfl
     refine Oy.walk_q ?_ fun x33 => ?_
     ·intro w1 hb hd K hK
      obtain rfl : _ = x32 := Eq.symm (hd 14 (by kernel_rfl))
      obtain rfl : _ = x28 := Eq.symm (hd 10 (by kernel_rfl))
      clear hd
      go_simp
      exact hK _ _ (Below.refl _ _) rfl
     refine Oy.walk_q ?_ fun x34 => ?_
     ·intro w1 hb hd K hK
      obtain rfl : _ = x33 := Eq.symm (hd 15 (by kernel_rfl))
      obtain rfl : _ = x28 := Eq.symm (hd 10 (by kernel_rfl))
      clear hd
      have c_e3 := (hb.cell (cell_lt e3)).trans e3
      go_simp
      exact hK _ _ (Below.refl _ _) rfl
     refine Oy.walk_q ?_ fun x35 => ?_
     ·intro w1 hb hd K hK
      obtain rfl : _ = x34 := Eq.symm (hd 16 (by kernel_rfl))
      obtain rfl : _ = x28 := Eq.symm (hd 10 (by kernel_rfl))
      clear hd
      go_simp
      exact hK _ _ (Below.refl _ _) rfl
     refine Oy.walk_q ?_ fun x36 => ?_
     ·intro w1 hb hd K hK
      obtain rfl : _ = x35 := Eq.symm (hd 17 (by kernel_rfl))
      obtain rfl : _ = x28 := Eq.symm (hd 10 (by kernel_rfl))
      clear hd
      go_simp
      exact hK _ _ (Below.refl _ _) rfl
     refine Oy.walk_q ?_ fun x37 => ?_
     ·intro w1 hb hd K hK
      obtain rfl : _ = x36 := Eq.symm (hd 18 (by kernel_rfl))
      clear hd
      have c_d0 := (hb.cell (cell_lt d0)).trans d0
      have c_d1 := (hb.cell (cell_lt d1)).trans d1
      have c_d2 := (hb.cell (cell_lt d2)).trans d2
      have c_d3 := (hb.cell (cell_lt d3)).trans d3
      have c_d4 := (hb.cell (cell_lt d4)).trans d4
      go_simp
      exact hK _ _ (Below.refl _ _) rfl
     refine Oy.walk_q ?_ fun x38 => ?_
     ·intro w1 hb hd K hK
      obtain rfl : _ = x36 := Eq.symm (hd 18 (by kernel_rfl))
      clear hd
      go_simp
      exact hK _ _ (Below.refl _ _) rfl
     refine Oy.walk_q ?_ fun x39 => ?_
     ·intro w1 hb hd K hK
      obtain rfl : _ = x38 := Eq.symm (hd 20 (by kernel_rfl))
      obtain rfl : _ = x36 := Eq.symm (hd 18 (by kernel_rfl))
      clear hd
      have c_d3 := (hb.cell (cell_lt d3)).trans d3
      go_simp
      exact hK _ _ (Below.refl _ _) rfl
     refine Oy.walk_q ?_ fun x40 => ?_
     ·intro w1 hb hd K hK
      obtain rfl : _ = x36 := Eq.symm (hd 18 (by kernel_rfl))
      clear hd
      go_simp
      exact hK _ _ (Below.refl _ _) rfl
     refine Oy.walk_q ?_ fun x41 => ?_
     ·intro w1 hb hd K hK
      obtain rfl : _ = x39 := Eq.symm (hd 21 (by kernel_rfl))
      obtain rfl : _ = x40 := Eq.symm (hd 22 (by kernel_rfl))
      obtain rfl : _ = x36 := Eq.symm (hd 18 (by kernel_rfl))
      clear hd
      go_simp
      exact hK _ _ (Below.refl _ _) rfl
     refine Oy.walk_q ?_ fun x42 => ?_
     ·intro w1 hb hd K hK
      obtain rfl : _ = x41 := Eq.symm (hd 23 (by kernel_rfl))
      obtain rfl : _ = x36 := Eq.symm (hd 18 (by kernel_rfl))
      clear hd
      go_simp
      exact hK _ _ (Below.refl _ _) rfl
     refine Oy.walk_q ?_ fun x43 => ?_
     ·intro w1 hb hd K hK
      obtain rfl : _ = x42 := Eq.symm (hd 24 (by kernel_rfl))
      obtain rfl : _ = x36 := Eq.symm (hd 18 (by kernel_rfl))
      clear hd
      have c_e3 := (hb.cell (cell_lt e3)).trans e3
      go_simp
      exact hK _ _ (Below.refl _ _) rfl
     refine Oy.walk_q ?_ fun x44 => ?_
     ·intro w1 hb hd K hK
      obtain rfl : _ = x37 := Eq.symm (hd 19 (by kernel_rfl))
      obtain rfl : _ = x43 := Eq.symm (hd 25 (by kernel_rfl))
      obtain rfl : _ = x36 := Eq.symm (hd 18 (by kernel_rfl))
      clear hd
      go_simp
      refine (HPY.out w1 (HBW.out w1 hb)).mono ?_
      rintro e w5 ⟨rfl, hb5⟩
      go_simp
      exact hK _ _ hb5 rfl
     refine Oy.walk_q ?_ fun x45 => ?_
     ·intro w1 hb hd K hK
      obtain rfl : _ = x44 := Eq.symm (hd 26 (by kernel_rfl))
      obtain rfl : _ = x36 := Eq.symm (hd 18 (by kernel_rfl))
      clear hd
      go_simp
      exact hK _ _ (Below.refl _ _) rfl
     refine Oy.walk_q ?_ fun x46 => ?_
     ·intro w1 hb hd K hK
      obtain rfl : _ = x36 := Eq.symm (hd 18 (by kernel_rfl))
      obtain rfl : _ = x45 := Eq.symm (hd 27 (by kernel_rfl))
      obtain rfl : _ = x28 := Eq.symm (hd 10 (by kernel_rfl))
      clear hd
      go_simp
      exact hK _ _ (Below.refl _ _) rfl
     refine Oy.walk_q ?_ fun x47 => ?_
     ·intro w1 hb hd K hK
      obtain rfl : _ = x28 := Eq.symm (hd 10 (by kernel_rfl))
      obtain rfl : _ = x46 := Eq.symm (hd 28 (by kernel_rfl))
      clear hd
      go_simp
      exact hK _ _ (Below.refl _ _) rfl
     refine Oy.walk_nil rfl (fun w1 hb hd => ?_)
     obtain rfl : _ = x18 := Eq.symm (hd 0 (by kernel_rfl))
     obtain rfl : _ = x19 := Eq.symm (hd 1 (by kernel_rfl))
     obtain rfl : _ = x20 := Eq.symm (hd 2 (by kernel_rfl))
     obtain rfl : _ = x21 := Eq.symm (hd 3 (by kernel_rfl))
     obtain rfl : _ = x22 := Eq.symm (hd 4 (by kernel_rfl))
     obtain rfl : _ = x23 := Eq.symm (hd 5 (by kernel_rfl))
     obtain rfl : _ = x24 := Eq.symm (hd 6 (by kernel_rfl))
     obtain rfl : _ = x25 := Eq.symm (hd 7 (by kernel_rfl))
     obtain rfl : _ = x26 := Eq.symm (hd 8 (by kernel_rfl))
     obtain rfl : _ = x27 := Eq.symm (hd 9 (by kernel_rfl))
     obtain rfl : _ = x28 := Eq.symm (hd 10 (by kernel_rfl))
     obtain rfl : _ = x29 := Eq.symm (hd 11 (by kernel_rfl))
     obtain rfl : _ = x30 := Eq.symm (hd 12 (by kernel_rfl))
     obtain rfl : _ = x31 := Eq.symm (hd 13 (by kernel_rfl))
     obtain rfl : _ = x32 := Eq.symm (hd 14 (by kernel_rfl))
     obtain rfl : _ = x33 := Eq.symm (hd 15 (by kernel_rfl))
     obtain rfl : _ = x34 := Eq.symm (hd 16 (by kernel_rfl))
     obtain rfl : _ = x35 := Eq.symm (hd 17 (by kernel_rfl))
     obtain rfl : _ = x36 := Eq.symm (hd 18 (by kernel_rfl))
     obtain rfl : _ = x37 := Eq.symm (hd 19 (by kernel_rfl))
     obtain rfl : _ = x38 := Eq.symm (hd 20 (by kernel_rfl))
     obtain rfl : _ = x39 := Eq.symm (hd 21 (by kernel_rfl))
     obtain rfl : _ = x40 := Eq.symm (hd 22 (by kernel_rfl))
     obtain rfl : _ = x41 := Eq.symm (hd 23 (by kernel_rfl))
     obtain rfl : _ = x42 := Eq.symm (hd 24 (by kernel_rfl))
     obtain rfl : _ = x43 := Eq.symm (hd 25 (by kernel_rfl))
     obtain rfl : _ = x44 := Eq.symm (hd 26 (by kernel_rfl))
     obtain rfl : _ = x45 := Eq.symm (hd 27 (by kernel_rfl))
     obtain rfl : _ = x46 := Eq.symm (hd 28 (by kernel_rfl))
     obtain rfl : _ = x47 := Eq.symm (hd 29 (by kernel_rfl))
     clear hd
     have HBZ := Lib.hid (HBQ.out w1 hb)
     clear hb
     go_simp
     go_wp2
     go_roundw
     case rel => exact ⟨trivial, trivial, k + 1, by omega, by go_num, HBZ.out⟩
     case measure => simp [intOf]; omega
   ·go_wp2
    clear d0 d1 d2 d3 d4
    go_loopw [2, 4, 5, 52] (fun _ _ _ i wr => True ∧ True ∧ True ∧ ∃ k : Nat, k ≤ n4 ∧ i = .int .i64 k ∧ Hid (Below wb.heap.size wb wr)) (fun _ _ _ x _ => n4 - (intOf x).toNat)
    case atStart => exact ⟨trivial, trivial, trivial, 0, by omega, rfl, HBR.out⟩
    case round =>
     clear HBR HCR hk hkn
     obtain ⟨_, _, _, k, hk, rfl, HBR⟩ := hrel
     obtain ⟨wl, hwl⟩ : ∃ W, W = wr := ⟨_, rfl⟩
     rw [← hwl] at HBR ⊢
     clear hwl
     have HCR := Lib.hid (HB.out.trans (HBR.out.mono HB.out.size))
     obtain ⟨d0, d1, d2, d3, d4⟩ := HT.out _ HBR.out
     by_cases hkn : k < n4
     ·obtain ⟨b, o, E, T, G, ng, kg, Aa, na, ka, rfl, _, hE, hO, _, _, _, _, _, f1, _, f3, _⟩ := tr_at (HTR.out.below HCR.out) HN4.out (fun p hp => (HTD.out p hp).below HCR.out) (k := k) (by rw [HN4.out]; exact hkn)
      have hkc : k < c.ts.length := by rw [← HTE.out, List.length_map, HN4.out]; exact hkn
      have hgt : c.ts[k] = (tp[k]'(by rw [HN4.out]; exact hkn)).1 := by
       have : (tp.map Prod.fst)[k]? = some (tp[k]'(by rw [HN4.out]; exact hkn)).1 := by rw [List.getElem?_map, List.getElem?_eq_getElem (by rw [HN4.out]; exact hkn)]; rfl
       rw [HTE.out, List.getElem?_eq_getElem hkc] at this
       exact Option.some.inj this
      have hpt : T.data.toList ≠ [] → 0 ≤ placeC c.ss T.data.toList := fun hne => by rw [hO, ← hgt] at hne ⊢; exact placed_to HV.out (List.getElem_mem hkc) hne
      have hpe : (5 : Int) < (E.size : Int) → (E.extract 0 5).data.toList = wDone → 0 ≤ placeC c.ss (E.extract 5 E.size).data.toList := fun h1 h2 => by
       have hs : E.size = E.data.toList.length := (Array.length_toList ..).symm
       rw [hs] at h1
       rw [Lib.extract_data] at h2 ⊢
       rw [hs, List.take_of_length_le (Nat.le_of_eq (List.length_drop ..))]
       rw [hE, ← hgt] at h1 h2 ⊢
       exact placed_done HV.out (List.getElem_mem hkc) (by omega) h2
      have HBW : Hid (∀ w1, Below wl.drew.heap.size wl.drew w1 → Below w.heap.size w w1) := fun w1 hb => HCR.out.trans (((Below.refl _ _).drew.trans hb).mono HCR.out.size)
      have HBQ : Hid (∀ w1, Below wl.drew.heap.size wl.drew w1 → Below wb.heap.size wb w1) := fun w1 hb => HBR.out.trans (((Below.refl _ _).drew.trans hb).mono HBR.out.size)
      obtain ⟨PT, hPT⟩ : ∃ x, placeC c.ss T.data.toList = x := ⟨_, rfl⟩
      have HPT : Hid (∀ W, Below w.heap.size w W → Calls Tryz.prog 12 #[.agg #[.string M, .slice A1 n1 k1, .slice A2 n2 k2, .slice A3 n3 k3, .slice (some ⟨b, o, none⟩) n4 k4], .string T] W fun e w' => e = .returned (.int .i64 PT) ∧ Below W.heap.size W w') := fun W hW => by
       have h := HPL.out W hW T
       rw [hPT] at h
       exact h
      obtain ⟨PE, hPE⟩ : ∃ x, placeC c.ss (E.extract 5 E.size).data.toList = x := ⟨_, rfl⟩
      have HPE : Hid (∀ W, Below w.heap.size w W → Calls Tryz.prog 12 #[.agg #[.string M, .slice A1 n1 k1, .slice A2 n2 k2, .slice A3 n3 k3, .slice (some ⟨b, o, none⟩) n4 k4], .string (E.extract 5 E.size)] W fun e w' => e = .returned (.int .i64 PE) ∧ Below W.heap.size W w') := fun W hW => by
       have h := HPL.out W hW (E.extract 5 E.size)
       rw [hPE] at h
       exact h
      rw [hPT] at hpt
      rw [hPE] at hpe
      clear hE hO hgt hPT hPE
      by_cases hT : T.data.toList = []
      ·obtain rfl : T = ⟨#[]⟩ := str_eq (Y := ⟨#[]⟩) hT
       clear hT hpt
       go_upto_region 15 with fail
       by_cases hg : (5 : Int) < (E.size : Int)
       ·have hl5 : (5 : Int) ≤ (E.size : Int) := by omega
        by_cases hd5 : (E.extract 0 5).data.toList = wDone
        ·have hq0 : ¬ PE < 0 := by have := hpe hg hd5; omega
         have hx5 : E.extract 0 5 = ⟨#[100, 111, 110, 101, 46]⟩ := str_eq (Y := ⟨#[100, 111, 110, 101, 46]⟩) hd5
         clear hd5 hpe
         refine Oy.region_quiet 97 [Oy.eqD (.pointer (some ⟨w.heap.size, 4, none⟩)), Oy.eqD (.slice (some ⟨b, o, none⟩) n4 k4), Oy.eqD (.int .i64 k), Oy.eqD (.pointer (some ⟨b, o + k * 5, none⟩)), Oy.eqD (.pointer (some ⟨b, o + k * 5 + 3, none⟩)), Oy.eqD (.string ⟨#[]⟩), Oy.eqD (.bool false), Oy.eqD (.bool false), Oy.eqD (undef), Oy.eqD (undef), Oy.eqD (undef), Oy.eqD (undef), Oy.eqD (undef), Oy.eqD (undef), Oy.eqD (undef), Oy.eqD (undef), Oy.eqD (undef), Oy.eqD (.bool false), Oy.eqD (.bool false), Oy.eqD (.string E), Oy.eqD (.int .i64 (E.size : Int)), Oy.eqD (.bool true), Oy.eqD (.bool true), Oy.eqD (.string E), Oy.eqD (.string ⟨#[100, 111, 110, 101, 46]⟩), Oy.eqD (.bool true), Oy.eqD (.bool true), Oy.eqD (.bool true), Oy.eqD (.agg #[.string M, .slice A1 n1 k1, .slice A2 n2 k2, .slice A3 n3 k3, .slice (some ⟨b, o, none⟩) n4 k4]), Oy.eqD (.string E), Oy.eqD (.string (E.extract 5 E.size)), Oy.eqD (.int .i64 PE), Oy.eqD (.bool false), Oy.eqD (.bool false), Oy.eqD (.bool false)] [[], [], [], [], [], [], [], [], [], [], [], [], [], [], [], [], [], [], [], [], [], [], [], [], [], [], [], [], [], [], [], [], [], [], []] (by kernel_rfl) rfl (by kernel_rfl) (by kernel_rfl) ⟨Oy.keeps_eq _, Oy.keeps_eq _, Oy.keeps_eq _, Oy.keeps_eq _, Oy.keeps_eq _, Oy.keeps_eq _, Oy.keeps_eq _, Oy.keeps_eq _, Oy.keeps_eq _, Oy.keeps_eq _, Oy.keeps_eq _, Oy.keeps_eq _, Oy.keeps_eq _, Oy.keeps_eq _, Oy.keeps_eq _, Oy.keeps_eq _, Oy.keeps_eq _, Oy.keeps_eq _, Oy.keeps_eq _, Oy.keeps_eq _, Oy.keeps_eq _, Oy.keeps_eq _, Oy.keeps_eq _, Oy.keeps_eq _, Oy.keeps_eq _, Oy.keeps_eq _, Oy.keeps_eq _, Oy.keeps_eq _, Oy.keeps_eq _, Oy.keeps_eq _, Oy.keeps_eq _, Oy.keeps_eq _, Oy.keeps_eq _, Oy.keeps_eq _, Oy.keeps_eq _, trivial⟩ ?_
         refine Oy.walk_q ?_ fun x61 => ?_
         ·intro w1 hb hd K hK
          clear hd
          go_simp
          exact hK _ _ (Below.refl _ _) rfl
         refine Oy.walk_q ?_ fun x62 => ?_
         ·intro w1 hb hd K hK
          obtain rfl : _ = x61 := Eq.symm (hd 0 (by kernel_rfl))
          clear hd
          have c_d4 := (hb.cell (cell_lt d4)).trans d4
          go_simp
          exact hK _ _ (Below.refl _ _) rfl
         refine Oy.walk_q ?_ fun x63 => ?_
         ·intro w1 hb hd K hK
          clear hd
          go_simp
          exact hK _ _ (Below.refl _ _) rfl
         refine Oy.walk_q ?_ fun x64 => ?_
         ·intro w1 hb hd K hK
          obtain rfl : _ = x62 := Eq.symm (hd 1 (by kernel_rfl))
          obtain rfl : _ = x63 := Eq.symm (hd 2 (by kernel_rfl))
          clear hd
          go_simp
          exact hK _ _ (Below.refl _ _) rfl
         refine Oy.walk_q ?_ fun x65 => ?_
         ·intro w1 hb hd K hK
          obtain rfl : _ = x64 := Eq.symm (hd 3 (by kernel_rfl))
          clear hd
          go_simp
          exact hK _ _ (Below.refl _ _) rfl
         refine Oy.walk_q ?_ fun x66 => ?_
         ·intro w1 hb hd K hK
          obtain rfl : _ = x65 := Eq.symm (hd 4 (by kernel_rfl))
          clear hd
          have c_f3 := (hb.cell (cell_lt f3)).trans f3
          go_simp
          exact hK _ _ (Below.refl _ _) rfl
         refine Oy.walk_q ?_ fun x67 => ?_
         ·intro w1 hb hd K hK
          obtain rfl : _ = x66 := Eq.symm (hd 5 (by kernel_rfl))
          clear hd
          go_simp
          exact hK _ _ (Below.refl _ _) rfl
         refine Oy.walk_q ?_ fun x68 => ?_
         ·intro w1 hb hd K hK
          obtain rfl : _ = x67 := Eq.symm (hd 6 (by kernel_rfl))
          clear hd
          go_simp
          exact hK _ _ (Below.refl _ _) rfl
         refine Oy.walk_q ?_ fun x69 => ?_
         ·intro w1 hb hd K hK
          obtain rfl : _ = x68 := Eq.symm (hd 7 (by kernel_rfl))
          clear hd
          go_simp
          exact hK _ _ (Below.refl _ _) rfl
         refine Oy.walk_q ?_ fun x70 => ?_
         ·intro w1 hb hd K hK
          obtain rfl : _ = x68 := Eq.symm (hd 7 (by kernel_rfl))
          clear hd
          go_simp
          exact hK _ _ (Below.refl _ _) rfl
         refine Oy.walk_q ?_ fun x71 => ?_
         ·intro w1 hb hd K hK
          obtain rfl : _ = x70 := Eq.symm (hd 9 (by kernel_rfl))
          obtain rfl : _ = x68 := Eq.symm (hd 7 (by kernel_rfl))
          clear hd
          go_simp
          exact hK _ _ (Below.refl _ _) rfl
         refine Oy.walk_q ?_ fun x72 => ?_
         ·intro w1 hb hd K hK
          obtain rfl : _ = x68 := Eq.symm (hd 7 (by kernel_rfl))
          clear hd
          go_simp
          exact hK _ _ (Below.refl _ _) rfl
         refine Oy.walk_q ?_ fun x73 => ?_
         ·intro w1 hb hd K hK
          obtain rfl : _ = x71 := Eq.symm (hd 10 (by kernel_rfl))
          obtain rfl : _ = x72 := Eq.symm (hd 11 (by kernel_rfl))
          obtain rfl : _ = x68 := Eq.symm (hd 7 (by kernel_rfl))
          clear hd
          go_simp
          exact hK _ _ (Below.refl _ _) rfl
         refine Oy.walk_q ?_ fun x74 => ?_
         ·intro w1 hb hd K hK
          obtain rfl : _ = x73 := Eq.symm (hd 12 (by kernel_rfl))
          obtain rfl : _ = x68 := Eq.symm (hd 7 (by kernel_rfl))
          clear hd
          go_simp
          exact hK _ _ (Below.refl _ _) rfl
         refine Oy.walk_q ?_ fun x75 => ?_
         ·intro w1 hb hd K hK
          obtain rfl : _ = x74 := Eq.symm (hd 13 (by kernel_rfl))
          obtain rfl : _ = x68 := Eq.symm (hd 7 (by kernel_rfl))
          clear hd
          go_simp
          exact hK _ _ (Below.refl _ _) rfl
         refine Oy.walk_q ?_ fun x76 => ?_
         ·intro w1 hb hd K hK
          obtain rfl : _ = x69 := Eq.symm (hd 8 (by kernel_rfl))
          obtain rfl : _ = x75 := Eq.symm (hd 14 (by kernel_rfl))
          obtain rfl : _ = x68 := Eq.symm (hd 7 (by kernel_rfl))
          clear hd
          go_simp
          exact hK _ _ (Below.refl _ _) rfl
         refine Oy.walk_q ?_ fun x77 => ?_
         ·intro w1 hb hd K hK
          obtain rfl : _ = x76 := Eq.symm (hd 15 (by kernel_rfl))
          obtain rfl : _ = x68 := Eq.symm (hd 7 (by kernel_rfl))
          clear hd
          go_simp
          exact hK _ _ (Below.refl _ _) rfl
         refine Oy.walk_q ?_ fun x78 => ?_
         ·intro w1 hb hd K hK
          obtain rfl : _ = x68 := Eq.symm (hd 7 (by kernel_rfl))
          obtain rfl : _ = x77 := Eq.symm (hd 16 (by kernel_rfl))
          clear hd
          go_simp
          exact hK _ _ (Below.refl _ _) rfl
         refine Oy.walk_q ?_ fun x79 => ?_
         ·intro w1 hb hd K hK
          obtain rfl : _ = x78 := Eq.symm (hd 17 (by kernel_rfl))
          clear hd
          go_simp
          exact hK _ _ (Below.refl _ _) rfl
         refine Oy.walk_q ?_ fun x80 => ?_
         ·intro w1 hb hd K hK
          obtain rfl : _ = x79 := Eq.symm (hd 18 (by kernel_rfl))
          clear hd
          go_simp
          exact hK _ _ (Below.refl _ _) rfl
         refine Oy.walk_q ?_ fun x81 => ?_
         ·intro w1 hb hd K hK
          obtain rfl : _ = x80 := Eq.symm (hd 19 (by kernel_rfl))
          obtain rfl : _ = x79 := Eq.symm (hd 18 (by kernel_rfl))
          clear hd
          go_simp
          exact hK _ _ (Below.refl _ _) rfl
         refine Oy.walk_q ?_ fun x82 => ?_
         ·intro w1 hb hd K hK
          obtain rfl : _ = x81 := Eq.symm (hd 20 (by kernel_rfl))
          obtain rfl : _ = x79 := Eq.symm (hd 18 (by kernel_rfl))
          clear hd
          go_simp
          exact hK _ _ (Below.refl _ _) rfl
         refine Oy.walk_q ?_ fun x83 => ?_
         ·intro w1 hb hd K hK
          obtain rfl : _ = x82 := Eq.symm (hd 21 (by kernel_rfl))
          obtain rfl : _ = x79 := Eq.symm (hd 18 (by kernel_rfl))
          clear hd
          go_simp
          exact hK _ _ (Below.refl _ _) rfl
         refine Oy.walk_q ?_ fun x84 => ?_
         ·intro w1 hb hd K hK
          obtain rfl : _ = x83 := Eq.symm (hd 22 (by kernel_rfl))
          clear hd
          go_simp
          exact hK _ _ (Below.refl _ _) rfl
         refine Oy.walk_q ?_ fun x85 => ?_
         ·intro w1 hb hd K hK
          obtain rfl : _ = x84 := Eq.symm (hd 23 (by kernel_rfl))
          obtain rfl : _ = x83 := Eq.symm (hd 22 (by kernel_rfl))
          clear hd
          go_simp
          exact hK _ _ (Below.refl _ _) rfl
         refine Oy.walk_q ?_ fun x86 => ?_
         ·intro w1 hb hd K hK
          obtain rfl : _ = x85 := Eq.symm (hd 24 (by kernel_rfl))
          obtain rfl : _ = x83 := Eq.symm (hd 22 (by kernel_rfl))
          clear hd
          go_simp
          exact hK _ _ (Below.refl _ _) rfl
         refine Oy.walk_q ?_ fun x87 => ?_
         ·intro w1 hb hd K hK
          obtain rfl : _ = x83 := Eq.symm (hd 22 (by kernel_rfl))
          obtain rfl : _ = x86 := Eq.symm (hd 25 (by kernel_rfl))
          obtain rfl : _ = x79 := Eq.symm (hd 18 (by kernel_rfl))
          clear hd
          go_simp
          exact hK _ _ (Below.refl _ _) rfl
         refine Oy.walk_q ?_ fun x88 => ?_
         ·intro w1 hb hd K hK
          obtain rfl : _ = x87 := Eq.symm (hd 26 (by kernel_rfl))
          obtain rfl : _ = x79 := Eq.symm (hd 18 (by kernel_rfl))
          clear hd
          go_simp
          exact hK _ _ (Below.refl _ _) rfl
         refine Oy.walk_q ?_ fun x89 => ?_
         ·intro w1 hb hd K hK
          obtain rfl : _ = x88 := Eq.symm (hd 27 (by kernel_rfl))
          clear hd
          have c_d0 := (hb.cell (cell_lt d0)).trans d0
          have c_d1 := (hb.cell (cell_lt d1)).trans d1
          have c_d2 := (hb.cell (cell_lt d2)).trans d2
          have c_d3 := (hb.cell (cell_lt d3)).trans d3
          have c_d4 := (hb.cell (cell_lt d4)).trans d4
          go_simp
          exact hK _ _ (Below.refl _ _) rfl
         refine Oy.walk_q ?_ fun x90 => ?_
         ·intro w1 hb hd K hK
          obtain rfl : _ = x88 := Eq.symm (hd 27 (by kernel_rfl))
          clear hd
          go_simp
          exact hK _ _ (Below.refl _ _) rfl
         refine Oy.walk_q ?_ fun x91 => ?_
         ·intro w1 hb hd K hK
          obtain rfl : _ = x90 := Eq.symm (hd 29 (by kernel_rfl))
          obtain rfl : _ = x88 := Eq.symm (hd 27 (by kernel_rfl))
          clear hd
          go_simp
          exact hK _ _ (Below.refl _ _) rfl
         refine Oy.walk_q ?_ fun x92 => ?_
         ·intro w1 hb hd K hK
          obtain rfl : _ = x89 := Eq.symm (hd 28 (by kernel_rfl))
          obtain rfl : _ = x91 := Eq.symm (hd 30 (by kernel_rfl))
          obtain rfl : _ = x88 := Eq.symm (hd 27 (by kernel_rfl))
          clear hd
          go_simp
          refine (HPE.out w1 (HBW.out w1 hb)).mono ?_
          rintro e w5 ⟨rfl, hb5⟩
          go_simp
          exact hK _ _ hb5 rfl
         refine Oy.walk_q ?_ fun x93 => ?_
         ·intro w1 hb hd K hK
          obtain rfl : _ = x92 := Eq.symm (hd 31 (by kernel_rfl))
          obtain rfl : _ = x88 := Eq.symm (hd 27 (by kernel_rfl))
          clear hd
          go_simp
          exact hK _ _ (Below.refl _ _) rfl
         refine Oy.walk_q ?_ fun x94 => ?_
         ·intro w1 hb hd K hK
          obtain rfl : _ = x88 := Eq.symm (hd 27 (by kernel_rfl))
          obtain rfl : _ = x93 := Eq.symm (hd 32 (by kernel_rfl))
          obtain rfl : _ = x79 := Eq.symm (hd 18 (by kernel_rfl))
          clear hd
          go_simp
          exact hK _ _ (Below.refl _ _) rfl
         refine Oy.walk_q ?_ fun x95 => ?_
         ·intro w1 hb hd K hK
          obtain rfl : _ = x79 := Eq.symm (hd 18 (by kernel_rfl))
          obtain rfl : _ = x94 := Eq.symm (hd 33 (by kernel_rfl))
          clear hd
          go_simp
          exact hK _ _ (Below.refl _ _) rfl
         refine Oy.walk_nil rfl (fun w1 hb hd => ?_)
         obtain rfl : _ = x61 := Eq.symm (hd 0 (by kernel_rfl))
         obtain rfl : _ = x62 := Eq.symm (hd 1 (by kernel_rfl))
         obtain rfl : _ = x63 := Eq.symm (hd 2 (by kernel_rfl))
         obtain rfl : _ = x64 := Eq.symm (hd 3 (by kernel_rfl))
         obtain rfl : _ = x65 := Eq.symm (hd 4 (by kernel_rfl))
         obtain rfl : _ = x66 := Eq.symm (hd 5 (by kernel_rfl))
         obtain rfl : _ = x67 := Eq.symm (hd 6 (by kernel_rfl))
         obtain rfl : _ = x68 := Eq.symm (hd 7 (by kernel_rfl))
         obtain rfl : _ = x69 := Eq.symm (hd 8 (by kernel_rfl))
         obtain rfl : _ = x70 := Eq.symm (hd 9 (by kernel_rfl))
         obtain rfl : _ = x71 := Eq.symm (hd 10 (by kernel_rfl))
         obtain rfl : _ = x72 := Eq.symm (hd 11 (by kernel_rfl))
         obtain rfl : _ = x73 := Eq.symm (hd 12 (by kernel_rfl))
         obtain rfl : _ = x74 := Eq.symm (hd 13 (by kernel_rfl))
         obtain rfl : _ = x75 := Eq.symm (hd 14 (by kernel_rfl))
         obtain rfl : _ = x76 := Eq.symm (hd 15 (by kernel_rfl))
         obtain rfl : _ = x77 := Eq.symm (hd 16 (by kernel_rfl))
         obtain rfl : _ = x78 := Eq.symm (hd 17 (by kernel_rfl))
         obtain rfl : _ = x79 := Eq.symm (hd 18 (by kernel_rfl))
         obtain rfl : _ = x80 := Eq.symm (hd 19 (by kernel_rfl))
         obtain rfl : _ = x81 := Eq.symm (hd 20 (by kernel_rfl))
         obtain rfl : _ = x82 := Eq.symm (hd 21 (by kernel_rfl))
         obtain rfl : _ = x83 := Eq.symm (hd 22 (by kernel_rfl))
         obtain rfl : _ = x84 := Eq.symm (hd 23 (by kernel_rfl))
         obtain rfl : _ = x85 := Eq.symm (hd 24 (by kernel_rfl))
         obtain rfl : _ = x86 := Eq.symm (hd 25 (by kernel_rfl))
         obtain rfl : _ = x87 := Eq.symm (hd 26 (by kernel_rfl))
         obtain rfl : _ = x88 := Eq.symm (hd 27 (by kernel_rfl))
         obtain rfl : _ = x89 := Eq.symm (hd 28 (by kernel_rfl))
         obtain rfl : _ = x90 := Eq.symm (hd 29 (by kernel_rfl))
         obtain rfl : _ = x91 := Eq.symm (hd 30 (by kernel_rfl))
         obtain rfl : _ = x92 := Eq.symm (hd 31 (by kernel_rfl))
         obtain rfl : _ = x93 := Eq.symm (hd 32 (by kernel_rfl))
         obtain rfl : _ = x94 := Eq.symm (hd 33 (by kernel_rfl))
         obtain rfl : _ = x95 := Eq.symm (hd 34 (by kernel_rfl))
         clear hd
         have HBZ := Lib.hid (HBQ.out w1 hb)
         clear hb
         go_simp
         go_wp2
         go_roundw
         case rel => exact ⟨trivial, trivial, trivial, k + 1, by omega, by go_num, HBZ.out⟩
         case measure => simp [intOf]; omega
        ·have hx5 : ((E.extract 0 5).toList == [100, 111, 110, 101, 46]) = false := by rw [Lib.toList_data]; exact beq_eq_false_iff_ne.2 hd5
         clear hd5 hpe
         refine Oy.region_quiet 97 [Oy.eqD (.pointer (some ⟨w.heap.size, 4, none⟩)), Oy.eqD (.slice (some ⟨b, o, none⟩) n4 k4), Oy.eqD (.int .i64 k), Oy.eqD (.pointer (some ⟨b, o + k * 5, none⟩)), Oy.eqD (.pointer (some ⟨b, o + k * 5 + 3, none⟩)), Oy.eqD (.string ⟨#[]⟩), Oy.eqD (.bool false), Oy.eqD (.bool false), Oy.eqD (undef), Oy.eqD (undef), Oy.eqD (undef), Oy.eqD (undef), Oy.eqD (undef), Oy.eqD (undef), Oy.eqD (undef), Oy.eqD (undef), Oy.eqD (undef), Oy.eqD (.bool false), Oy.eqD (.bool false), Oy.eqD (.string E), Oy.eqD (.int .i64 (E.size : Int)), Oy.eqD (.bool true), Oy.eqD (.bool true), Oy.eqD (.string E), Oy.eqD (.string (E.extract 0 5)), Oy.eqD (.bool false), Oy.eqD (.bool false), Oy.eqD (.bool false), Oy.eqD (undef), Oy.eqD (undef), Oy.eqD (undef), Oy.eqD (undef), Oy.eqD (undef), Oy.eqD (.bool false), Oy.eqD (.bool false)] [[], [], [], [], [], [], [], [], [], [], [], [], [], [], [], [], [], [], [], [], [], [], [], [], [], [], [], [], [], [], [], [], [], [], []] (by kernel_rfl) rfl (by kernel_rfl) (by kernel_rfl) ⟨Oy.keeps_eq _, Oy.keeps_eq _, Oy.keeps_eq _, Oy.keeps_eq _, Oy.keeps_eq _, Oy.keeps_eq _, Oy.keeps_eq _, Oy.keeps_eq _, Oy.keeps_eq _, Oy.keeps_eq _, Oy.keeps_eq _, Oy.keeps_eq _, Oy.keeps_eq _, Oy.keeps_eq _, Oy.keeps_eq _, Oy.keeps_eq _, Oy.keeps_eq _, Oy.keeps_eq _, Oy.keeps_eq _, Oy.keeps_eq _, Oy.keeps_eq _, Oy.keeps_eq _, Oy.keeps_eq _, Oy.keeps_eq _, Oy.keeps_eq _, Oy.keeps_eq _, Oy.keeps_eq _, Oy.keeps_eq _, Oy.keeps_eq _, Oy.keeps_eq _, Oy.keeps_eq _, Oy.keeps_eq _, Oy.keeps_eq _, Oy.keeps_eq _, Oy.keeps_eq _, trivial⟩ ?_
         refine Oy.walk_q ?_ fun x61 => ?_
         ·intro w1 hb hd K hK
          clear hd
          go_simp
          exact hK _ _ (Below.refl _ _) rfl
         refine Oy.walk_q ?_ fun x62 => ?_
         ·intro w1 hb hd K hK
          obtain rfl : _ = x61 := Eq.symm (hd 0 (by kernel_rfl))
          clear hd
          have c_d4 := (hb.cell (cell_lt d4)).trans d4
          go_simp
          exact hK _ _ (Below.refl _ _) rfl
         refine Oy.walk_q ?_ fun x63 => ?_
         ·intro w1 hb hd K hK
          clear hd
          go_simp
          exact hK _ _ (Below.refl _ _) rfl
         refine Oy.walk_q ?_ fun x64 => ?_
         ·intro w1 hb hd K hK
          obtain rfl : _ = x62 := Eq.symm (hd 1 (by kernel_rfl))
          obtain rfl : _ = x63 := Eq.symm (hd 2 (by kernel_rfl))
          clear hd
          go_simp
          exact hK _ _ (Below.refl _ _) rfl
         refine Oy.walk_q ?_ fun x65 => ?_
         ·intro w1 hb hd K hK
          obtain rfl : _ = x64 := Eq.symm (hd 3 (by kernel_rfl))
          clear hd
          go_simp
          exact hK _ _ (Below.refl _ _) rfl
         refine Oy.walk_q ?_ fun x66 => ?_
         ·intro w1 hb hd K hK
          obtain rfl : _ = x65 := Eq.symm (hd 4 (by kernel_rfl))
          clear hd
          have c_f3 := (hb.cell (cell_lt f3)).trans f3
          go_simp
          exact hK _ _ (Below.refl _ _) rfl
         refine Oy.walk_q ?_ fun x67 => ?_
         ·intro w1 hb hd K hK
          obtain rfl : _ = x66 := Eq.symm (hd 5 (by kernel_rfl))
          clear hd
          go_simp
          exact hK _ _ (Below.refl _ _) rfl
         refine Oy.walk_q ?_ fun x68 => ?_
         ·intro w1 hb hd K hK
          obtain rfl : _ = x67 := Eq.symm (hd 6 (by kernel_rfl))
          clear hd
          go_simp
          exact hK _ _ (Below.refl _ _) rfl
         refine Oy.walk_q ?_ fun x69 => ?_
         ·intro w1 hb hd K hK
          obtain rfl : _ = x68 := Eq.symm (hd 7 (by kernel_rfl))
          clear hd
          go_simp
          exact hK _ _ (Below.refl _ _) rfl
         refine Oy.walk_q ?_ fun x70 => ?_
         ·intro w1 hb hd K hK
          obtain rfl : _ = x68 := Eq.symm (hd 7 (by kernel_rfl))
          clear hd
          go_simp
          exact hK _ _ (Below.refl _ _) rfl
         refine Oy.walk_q ?_ fun x71 => ?_
         ·intro w1 hb hd K hK
          obtain rfl : _ = x70 := Eq.symm (hd 9 (by kernel_rfl))
          obtain rfl : _ = x68 := Eq.symm (hd 7 (by kernel_rfl))
          clear hd
          go_simp
          exact hK _ _ (Below.refl _ _) rfl
         refine Oy.walk_q ?_ fun x72 => ?_
         ·intro w1 hb hd K hK
          obtain rfl : _ = x68 := Eq.symm (hd 7 (by kernel_rfl))
          clear hd
          go_simp
          exact hK _ _ (Below.refl _ _) rfl
         refine Oy.walk_q ?_ fun x73 => ?_
         ·intro w1 hb hd K hK
          obtain rfl : _ = x71 := Eq.symm (hd 10 (by kernel_rfl))
          obtain rfl : _ = x72 := Eq.symm (hd 11 (by kernel_rfl))
          obtain rfl : _ = x68 := Eq.symm (hd 7 (by kernel_rfl))
          clear hd
          go_simp
          exact hK _ _ (Below.refl _ _) rfl
         refine Oy.walk_q ?_ fun x74 => ?_
         ·intro w1 hb hd K hK
          obtain rfl : _ = x73 := Eq.symm (hd 12 (by kernel_rfl))
          obtain rfl : _ = x68 := Eq.symm (hd 7 (by kernel_rfl))
          clear hd
          go_simp
          exact hK _ _ (Below.refl _ _) rfl
         refine Oy.walk_q ?_ fun x75 => ?_
         ·intro w1 hb hd K hK
          obtain rfl : _ = x74 := Eq.symm (hd 13 (by kernel_rfl))
          obtain rfl : _ = x68 := Eq.symm (hd 7 (by kernel_rfl))
          clear hd
          go_simp
          exact hK _ _ (Below.refl _ _) rfl
         refine Oy.walk_q ?_ fun x76 => ?_
         ·intro w1 hb hd K hK
          obtain rfl : _ = x69 := Eq.symm (hd 8 (by kernel_rfl))
          obtain rfl : _ = x75 := Eq.symm (hd 14 (by kernel_rfl))
          obtain rfl : _ = x68 := Eq.symm (hd 7 (by kernel_rfl))
          clear hd
          go_simp
          exact hK _ _ (Below.refl _ _) rfl
         refine Oy.walk_q ?_ fun x77 => ?_
         ·intro w1 hb hd K hK
          obtain rfl : _ = x76 := Eq.symm (hd 15 (by kernel_rfl))
          obtain rfl : _ = x68 := Eq.symm (hd 7 (by kernel_rfl))
          clear hd
          go_simp
          exact hK _ _ (Below.refl _ _) rfl
         refine Oy.walk_q ?_ fun x78 => ?_
         ·intro w1 hb hd K hK
          obtain rfl : _ = x68 := Eq.symm (hd 7 (by kernel_rfl))
          obtain rfl : _ = x77 := Eq.symm (hd 16 (by kernel_rfl))
          clear hd
          go_simp
          exact hK _ _ (Below.refl _ _) rfl
         refine Oy.walk_q ?_ fun x79 => ?_
         ·intro w1 hb hd K hK
          obtain rfl : _ = x78 := Eq.symm (hd 17 (by kernel_rfl))
          clear hd
          go_simp
          exact hK _ _ (Below.refl _ _) rfl
         refine Oy.walk_q ?_ fun x80 => ?_
         ·intro w1 hb hd K hK
          obtain rfl : _ = x79 := Eq.symm (hd 18 (by kernel_rfl))
          clear hd
          go_simp
          exact hK _ _ (Below.refl _ _) rfl
         refine Oy.walk_q ?_ fun x81 => ?_
         ·intro w1 hb hd K hK
          obtain rfl : _ = x80 := Eq.symm (hd 19 (by kernel_rfl))
          obtain rfl : _ = x79 := Eq.symm (hd 18 (by kernel_rfl))
          clear hd
          go_simp
          exact hK _ _ (Below.refl _ _) rfl
         refine Oy.walk_q ?_ fun x82 => ?_
         ·intro w1 hb hd K hK
          obtain rfl : _ = x81 := Eq.symm (hd 20 (by kernel_rfl))
          obtain rfl : _ = x79 := Eq.symm (hd 18 (by kernel_rfl))
          clear hd
          go_simp
          exact hK _ _ (Below.refl _ _) rfl
         refine Oy.walk_q ?_ fun x83 => ?_
         ·intro w1 hb hd K hK
          obtain rfl : _ = x82 := Eq.symm (hd 21 (by kernel_rfl))
          obtain rfl : _ = x79 := Eq.symm (hd 18 (by kernel_rfl))
          clear hd
          go_simp
          exact hK _ _ (Below.refl _ _) rfl
         refine Oy.walk_q ?_ fun x84 => ?_
         ·intro w1 hb hd K hK
          obtain rfl : _ = x83 := Eq.symm (hd 22 (by kernel_rfl))
          clear hd
          go_simp
          exact hK _ _ (Below.refl _ _) rfl
         refine Oy.walk_q ?_ fun x85 => ?_
         ·intro w1 hb hd K hK
          obtain rfl : _ = x84 := Eq.symm (hd 23 (by kernel_rfl))
          obtain rfl : _ = x83 := Eq.symm (hd 22 (by kernel_rfl))
          clear hd
          go_simp
          exact hK _ _ (Below.refl _ _) rfl
         refine Oy.walk_q ?_ fun x86 => ?_
         ·intro w1 hb hd K hK
          obtain rfl : _ = x85 := Eq.symm (hd 24 (by kernel_rfl))
          obtain rfl : _ = x83 := Eq.symm (hd 22 (by kernel_rfl))
          clear hd
          go_simp
          exact hK _ _ (Below.refl _ _) rfl
         refine Oy.walk_q ?_ fun x87 => ?_
         ·intro w1 hb hd K hK
          obtain rfl : _ = x83 := Eq.symm (hd 22 (by kernel_rfl))
          obtain rfl : _ = x86 := Eq.symm (hd 25 (by kernel_rfl))
          obtain rfl : _ = x79 := Eq.symm (hd 18 (by kernel_rfl))
          clear hd
          go_simp
          exact hK _ _ (Below.refl _ _) rfl
         refine Oy.walk_q ?_ fun x88 => ?_
         ·intro w1 hb hd K hK
          obtain rfl : _ = x87 := Eq.symm (hd 26 (by kernel_rfl))
          obtain rfl : _ = x79 := Eq.symm (hd 18 (by kernel_rfl))
          clear hd
          go_simp
          exact hK _ _ (Below.refl _ _) rfl
         refine Oy.walk_q ?_ fun x89 => ?_
         ·intro w1 hb hd K hK
          obtain rfl : _ = x88 := Eq.symm (hd 27 (by kernel_rfl))
          clear hd
          go_simp
          exact hK _ _ (Below.refl _ _) rfl
         refine Oy.walk_q ?_ fun x90 => ?_
         ·intro w1 hb hd K hK
          obtain rfl : _ = x88 := Eq.symm (hd 27 (by kernel_rfl))
          clear hd
          go_simp
          exact hK _ _ (Below.refl _ _) rfl
         refine Oy.walk_q ?_ fun x91 => ?_
         ·intro w1 hb hd K hK
          obtain rfl : _ = x90 := Eq.symm (hd 29 (by kernel_rfl))
          obtain rfl : _ = x88 := Eq.symm (hd 27 (by kernel_rfl))
          clear hd
          go_simp
          exact hK _ _ (Below.refl _ _) rfl
         refine Oy.walk_q ?_ fun x92 => ?_
         ·intro w1 hb hd K hK
          obtain rfl : _ = x89 := Eq.symm (hd 28 (by kernel_rfl))
          obtain rfl : _ = x91 := Eq.symm (hd 30 (by kernel_rfl))
          obtain rfl : _ = x88 := Eq.symm (hd 27 (by kernel_rfl))
          clear hd
          go_simp
          exact hK _ _ (Below.refl _ _) rfl
         refine Oy.walk_q ?_ fun x93 => ?_
         ·intro w1 hb hd K hK
          obtain rfl : _ = x92 := Eq.symm (hd 31 (by kernel_rfl))
          obtain rfl : _ = x88 := Eq.symm (hd 27 (by kernel_rfl))
          clear hd
          go_simp
          exact hK _ _ (Below.refl _ _) rfl
         refine Oy.walk_q ?_ fun x94 => ?_
         ·intro w1 hb hd K hK
          obtain rfl : _ = x88 := Eq.symm (hd 27 (by kernel_rfl))
          obtain rfl : _ = x93 := Eq.symm (hd 32 (by kernel_rfl))
          obtain rfl : _ = x79 := Eq.symm (hd 18 (by kernel_rfl))
          clear hd
          go_simp
          exact hK _ _ (Below.refl _ _) rfl
         refine Oy.walk_q ?_ fun x95 => ?_
         ·intro w1 hb hd K hK
          obtain rfl : _ = x79 := Eq.symm (hd 18 (by kernel_rfl))
          obtain rfl : _ = x94 := Eq.symm (hd 33 (by kernel_rfl))
          clear hd
          go_simp
          exact hK _ _ (Below.refl _ _) rfl
         refine Oy.walk_nil rfl (fun w1 hb hd => ?_)
         obtain rfl : _ = x61 := Eq.symm (hd 0 (by kernel_rfl))
         obtain rfl : _ = x62 := Eq.symm (hd 1 (by kernel_rfl))
         obtain rfl : _ = x63 := Eq.symm (hd 2 (by kernel_rfl))
         obtain rfl : _ = x64 := Eq.symm (hd 3 (by kernel_rfl))
         obtain rfl : _ = x65 := Eq.symm (hd 4 (by kernel_rfl))
         obtain rfl : _ = x66 := Eq.symm (hd 5 (by kernel_rfl))
         obtain rfl : _ = x67 := Eq.symm (hd 6 (by kernel_rfl))
         obtain rfl : _ = x68 := Eq.symm (hd 7 (by kernel_rfl))
         obtain rfl : _ = x69 := Eq.symm (hd 8 (by kernel_rfl))
         obtain rfl : _ = x70 := Eq.symm (hd 9 (by kernel_rfl))
         obtain rfl : _ = x71 := Eq.symm (hd 10 (by kernel_rfl))
         obtain rfl : _ = x72 := Eq.symm (hd 11 (by kernel_rfl))
         obtain rfl : _ = x73 := Eq.symm (hd 12 (by kernel_rfl))
         obtain rfl : _ = x74 := Eq.symm (hd 13 (by kernel_rfl))
         obtain rfl : _ = x75 := Eq.symm (hd 14 (by kernel_rfl))
         obtain rfl : _ = x76 := Eq.symm (hd 15 (by kernel_rfl))
         obtain rfl : _ = x77 := Eq.symm (hd 16 (by kernel_rfl))
         obtain rfl : _ = x78 := Eq.symm (hd 17 (by kernel_rfl))
         obtain rfl : _ = x79 := Eq.symm (hd 18 (by kernel_rfl))
         obtain rfl : _ = x80 := Eq.symm (hd 19 (by kernel_rfl))
         obtain rfl : _ = x81 := Eq.symm (hd 20 (by kernel_rfl))
         obtain rfl : _ = x82 := Eq.symm (hd 21 (by kernel_rfl))
         obtain rfl : _ = x83 := Eq.symm (hd 22 (by kernel_rfl))
         obtain rfl : _ = x84 := Eq.symm (hd 23 (by kernel_rfl))
         obtain rfl : _ = x85 := Eq.symm (hd 24 (by kernel_rfl))
         obtain rfl : _ = x86 := Eq.symm (hd 25 (by kernel_rfl))
         obtain rfl : _ = x87 := Eq.symm (hd 26 (by kernel_rfl))
         obtain rfl : _ = x88 := Eq.symm (hd 27 (by kernel_rfl))
         obtain rfl : _ = x89 := Eq.symm (hd 28 (by kernel_rfl))
         obtain rfl : _ = x90 := Eq.symm (hd 29 (by kernel_rfl))
         obtain rfl : _ = x91 := Eq.symm (hd 30 (by kernel_rfl))
         obtain rfl : _ = x92 := Eq.symm (hd 31 (by kernel_rfl))
         obtain rfl : _ = x93 := Eq.symm (hd 32 (by kernel_rfl))
         obtain rfl : _ = x94 := Eq.symm (hd 33 (by kernel_rfl))
         obtain rfl : _ = x95 := Eq.symm (hd 34 (by kernel_rfl))
         clear hd
         have HBZ := Lib.hid (HBQ.out w1 hb)
         clear hb
         go_simp
         go_wp2
         go_roundw
         case rel => exact ⟨trivial, trivial, trivial, k + 1, by omega, by go_num, HBZ.out⟩
         case measure => simp [intOf]; omega
       ·clear hpe
        refine Oy.region_quiet 97 [Oy.eqD (.pointer (some ⟨w.heap.size, 4, none⟩)), Oy.eqD (.slice (some ⟨b, o, none⟩) n4 k4), Oy.eqD (.int .i64 k), Oy.eqD (.pointer (some ⟨b, o + k * 5, none⟩)), Oy.eqD (.pointer (some ⟨b, o + k * 5 + 3, none⟩)), Oy.eqD (.string ⟨#[]⟩), Oy.eqD (.bool false), Oy.eqD (.bool false), Oy.eqD (undef), Oy.eqD (undef), Oy.eqD (undef), Oy.eqD (undef), Oy.eqD (undef), Oy.eqD (undef), Oy.eqD (undef), Oy.eqD (undef), Oy.eqD (undef), Oy.eqD (.bool false), Oy.eqD (.bool false), Oy.eqD (.string E), Oy.eqD (.int .i64 (E.size : Int)), Oy.eqD (.bool false), Oy.eqD (.bool false), Oy.eqD (undef), Oy.eqD (undef), Oy.eqD (undef), Oy.eqD (.bool false), Oy.eqD (.bool false), Oy.eqD (undef), Oy.eqD (undef), Oy.eqD (undef), Oy.eqD (undef), Oy.eqD (undef), Oy.eqD (.bool false), Oy.eqD (.bool false)] [[], [], [], [], [], [], [], [], [], [], [], [], [], [], [], [], [], [], [], [], [], [], [], [], [], [], [], [], [], [], [], [], [], [], []] (by kernel_rfl) rfl (by kernel_rfl) (by kernel_rfl) ⟨Oy.keeps_eq _, Oy.keeps_eq _, Oy.keeps_eq _, Oy.keeps_eq _, Oy.keeps_eq _, Oy.keeps_eq _, Oy.keeps_eq _, Oy.keeps_eq _, Oy.keeps_eq _, Oy.keeps_eq _, Oy.keeps_eq _, Oy.keeps_eq _, Oy.keeps_eq _, Oy.keeps_eq _, Oy.keeps_eq _, Oy.keeps_eq _, Oy.keeps_eq _, Oy.keeps_eq _, Oy.keeps_eq _, Oy.keeps_eq _, Oy.keeps_eq _, Oy.keeps_eq _, Oy.keeps_eq _, Oy.keeps_eq _, Oy.keeps_eq _, Oy.keeps_eq _, Oy.keeps_eq _, Oy.keeps_eq _, Oy.keeps_eq _, Oy.keeps_eq _, Oy.keeps_eq _, Oy.keeps_eq _, Oy.keeps_eq _, Oy.keeps_eq _, Oy.keeps_eq _, trivial⟩ ?_
        refine Oy.walk_q ?_ fun x61 => ?_
        ·intro w1 hb hd K hK
         clear hd
         go_simp
         exact hK _ _ (Below.refl _ _) rfl
        refine Oy.walk_q ?_ fun x62 => ?_
        ·intro w1 hb hd K hK
         obtain rfl : _ = x61 := Eq.symm (hd 0 (by kernel_rfl))
         clear hd
         have c_d4 := (hb.cell (cell_lt d4)).trans d4
         go_simp
         exact hK _ _ (Below.refl _ _) rfl
        refine Oy.walk_q ?_ fun x63 => ?_
        ·intro w1 hb hd K hK
         clear hd
         go_simp
         exact hK _ _ (Below.refl _ _) rfl
        refine Oy.walk_q ?_ fun x64 => ?_
        ·intro w1 hb hd K hK
         obtain rfl : _ = x62 := Eq.symm (hd 1 (by kernel_rfl))
         obtain rfl : _ = x63 := Eq.symm (hd 2 (by kernel_rfl))
         clear hd
         go_simp
         exact hK _ _ (Below.refl _ _) rfl
        refine Oy.walk_q ?_ fun x65 => ?_
        ·intro w1 hb hd K hK
         obtain rfl : _ = x64 := Eq.symm (hd 3 (by kernel_rfl))
         clear hd
         go_simp
         exact hK _ _ (Below.refl _ _) rfl
        refine Oy.walk_q ?_ fun x66 => ?_
        ·intro w1 hb hd K hK
         obtain rfl : _ = x65 := Eq.symm (hd 4 (by kernel_rfl))
         clear hd
         have c_f3 := (hb.cell (cell_lt f3)).trans f3
         go_simp
         exact hK _ _ (Below.refl _ _) rfl
        refine Oy.walk_q ?_ fun x67 => ?_
        ·intro w1 hb hd K hK
         obtain rfl : _ = x66 := Eq.symm (hd 5 (by kernel_rfl))
         clear hd
         go_simp
         exact hK _ _ (Below.refl _ _) rfl
        refine Oy.walk_q ?_ fun x68 => ?_
        ·intro w1 hb hd K hK
         obtain rfl : _ = x67 := Eq.symm (hd 6 (by kernel_rfl))
         clear hd
         go_simp
         exact hK _ _ (Below.refl _ _) rfl
        refine Oy.walk_q ?_ fun x69 => ?_
        ·intro w1 hb hd K hK
         obtain rfl : _ = x68 := Eq.symm (hd 7 (by kernel_rfl))
         clear hd
         go_simp
         exact hK _ _ (Below.refl _ _) rfl
        refine Oy.walk_q ?_ fun x70 => ?_
        ·intro w1 hb hd K hK
         obtain rfl : _ = x68 := Eq.symm (hd 7 (by kernel_rfl))
         clear hd
         go_simp
         exact hK _ _ (Below.refl _ _) rfl
        refine Oy.walk_q ?_ fun x71 => ?_
        ·intro w1 hb hd K hK
         obtain rfl : _ = x70 := Eq.symm (hd 9 (by kernel_rfl))
         obtain rfl : _ = x68 := Eq.symm (hd 7 (by kernel_rfl))
         clear hd
         go_simp
         exact hK _ _ (Below.refl _ _) rfl
        refine Oy.walk_q ?_ fun x72 => ?_
        ·intro w1 hb hd K hK
         obtain rfl : _ = x68 := Eq.symm (hd 7 (by kernel_rfl))
         clear hd
         go_simp
         exact hK _ _ (Below.refl _ _) rfl
        refine Oy.walk_q ?_ fun x73 => ?_
        ·intro w1 hb hd K hK
         obtain rfl : _ = x71 := Eq.symm (hd 10 (by kernel_rfl))
         obtain rfl : _ = x72 := Eq.symm (hd 11 (by kernel_rfl))
         obtain rfl : _ = x68 := Eq.symm (hd 7 (by kernel_rfl))
         clear hd
         go_simp
         exact hK _ _ (Below.refl _ _) rfl
        refine Oy.walk_q ?_ fun x74 => ?_
        ·intro w1 hb hd K hK
         obtain rfl : _ = x73 := Eq.symm (hd 12 (by kernel_rfl))
         obtain rfl : _ = x68 := Eq.symm (hd 7 (by kernel_rfl))
         clear hd
         go_simp
         exact hK _ _ (Below.refl _ _) rfl
        refine Oy.walk_q ?_ fun x75 => ?_
        ·intro w1 hb hd K hK
         obtain rfl : _ = x74 := Eq.symm (hd 13 (by kernel_rfl))
         obtain rfl : _ = x68 := Eq.symm (hd 7 (by kernel_rfl))
         clear hd
         go_simp
         exact hK _ _ (Below.refl _ _) rfl
        refine Oy.walk_q ?_ fun x76 => ?_
        ·intro w1 hb hd K hK
         obtain rfl : _ = x69 := Eq.symm (hd 8 (by kernel_rfl))
         obtain rfl : _ = x75 := Eq.symm (hd 14 (by kernel_rfl))
         obtain rfl : _ = x68 := Eq.symm (hd 7 (by kernel_rfl))
         clear hd
         go_simp
         exact hK _ _ (Below.refl _ _) rfl
        refine Oy.walk_q ?_ fun x77 => ?_
        ·intro w1 hb hd K hK
         obtain rfl : _ = x76 := Eq.symm (hd 15 (by kernel_rfl))
         obtain rfl : _ = x68 := Eq.symm (hd 7 (by kernel_rfl))
         clear hd
         go_simp
         exact hK _ _ (Below.refl _ _) rfl
        refine Oy.walk_q ?_ fun x78 => ?_
        ·intro w1 hb hd K hK
         obtain rfl : _ = x68 := Eq.symm (hd 7 (by kernel_rfl))
         obtain rfl : _ = x77 := Eq.symm (hd 16 (by kernel_rfl))
         clear hd
         go_simp
         exact hK _ _ (Below.refl _ _) rfl
        refine Oy.walk_q ?_ fun x79 => ?_
        ·intro w1 hb hd K hK
         obtain rfl : _ = x78 := Eq.symm (hd 17 (by kernel_rfl))
         clear hd
         go_simp
         exact hK _ _ (Below.refl _ _) rfl
        refine Oy.walk_q ?_ fun x80 => ?_
        ·intro w1 hb hd K hK
         obtain rfl : _ = x79 := Eq.symm (hd 18 (by kernel_rfl))
         clear hd
         go_simp
         exact hK _ _ (Below.refl _ _) rfl
        refine Oy.walk_q ?_ fun x81 => ?_
        ·intro w1 hb hd K hK
         obtain rfl : _ = x80 := Eq.symm (hd 19 (by kernel_rfl))
         obtain rfl : _ = x79 := Eq.symm (hd 18 (by kernel_rfl))
         clear hd
         go_simp
         exact hK _ _ (Below.refl _ _) rfl
        refine Oy.walk_q ?_ fun x82 => ?_
        ·intro w1 hb hd K hK
         obtain rfl : _ = x81 := Eq.symm (hd 20 (by kernel_rfl))
         obtain rfl : _ = x79 := Eq.symm (hd 18 (by kernel_rfl))
         clear hd
         go_simp
         exact hK _ _ (Below.refl _ _) rfl
        refine Oy.walk_q ?_ fun x83 => ?_
        ·intro w1 hb hd K hK
         obtain rfl : _ = x82 := Eq.symm (hd 21 (by kernel_rfl))
         obtain rfl : _ = x79 := Eq.symm (hd 18 (by kernel_rfl))
         clear hd
         go_simp
         exact hK _ _ (Below.refl _ _) rfl
        refine Oy.walk_q ?_ fun x84 => ?_
        ·intro w1 hb hd K hK
         obtain rfl : _ = x83 := Eq.symm (hd 22 (by kernel_rfl))
         clear hd
         go_simp
         exact hK _ _ (Below.refl _ _) rfl
        refine Oy.walk_q ?_ fun x85 => ?_
        ·intro w1 hb hd K hK
         obtain rfl : _ = x84 := Eq.symm (hd 23 (by kernel_rfl))
         obtain rfl : _ = x83 := Eq.symm (hd 22 (by kernel_rfl))
         clear hd
         go_simp
         exact hK _ _ (Below.refl _ _) rfl
        refine Oy.walk_q ?_ fun x86 => ?_
        ·intro w1 hb hd K hK
         obtain rfl : _ = x85 := Eq.symm (hd 24 (by kernel_rfl))
         obtain rfl : _ = x83 := Eq.symm (hd 22 (by kernel_rfl))
         clear hd
         go_simp
         exact hK _ _ (Below.refl _ _) rfl
        refine Oy.walk_q ?_ fun x87 => ?_
        ·intro w1 hb hd K hK
         obtain rfl : _ = x83 := Eq.symm (hd 22 (by kernel_rfl))
         obtain rfl : _ = x86 := Eq.symm (hd 25 (by kernel_rfl))
         obtain rfl : _ = x79 := Eq.symm (hd 18 (by kernel_rfl))
         clear hd
         go_simp
         exact hK _ _ (Below.refl _ _) rfl
        refine Oy.walk_q ?_ fun x88 => ?_
        ·intro w1 hb hd K hK
         obtain rfl : _ = x87 := Eq.symm (hd 26 (by kernel_rfl))
         obtain rfl : _ = x79 := Eq.symm (hd 18 (by kernel_rfl))
         clear hd
         go_simp
         exact hK _ _ (Below.refl _ _) rfl
        refine Oy.walk_q ?_ fun x89 => ?_
        ·intro w1 hb hd K hK
         obtain rfl : _ = x88 := Eq.symm (hd 27 (by kernel_rfl))
         clear hd
         go_simp
         exact hK _ _ (Below.refl _ _) rfl
        refine Oy.walk_q ?_ fun x90 => ?_
        ·intro w1 hb hd K hK
         obtain rfl : _ = x88 := Eq.symm (hd 27 (by kernel_rfl))
         clear hd
         go_simp
         exact hK _ _ (Below.refl _ _) rfl
        refine Oy.walk_q ?_ fun x91 => ?_
        ·intro w1 hb hd K hK
         obtain rfl : _ = x90 := Eq.symm (hd 29 (by kernel_rfl))
         obtain rfl : _ = x88 := Eq.symm (hd 27 (by kernel_rfl))
         clear hd
         go_simp
         exact hK _ _ (Below.refl _ _) rfl
        refine Oy.walk_q ?_ fun x92 => ?_
        ·intro w1 hb hd K hK
         obtain rfl : _ = x89 := Eq.symm (hd 28 (by kernel_rfl))
         obtain rfl : _ = x91 := Eq.symm (hd 30 (by kernel_rfl))
         obtain rfl : _ = x88 := Eq.symm (hd 27 (by kernel_rfl))
         clear hd
         go_simp
         exact hK _ _ (Below.refl _ _) rfl
        refine Oy.walk_q ?_ fun x93 => ?_
        ·intro w1 hb hd K hK
         obtain rfl : _ = x92 := Eq.symm (hd 31 (by kernel_rfl))
         obtain rfl : _ = x88 := Eq.symm (hd 27 (by kernel_rfl))
         clear hd
         go_simp
         exact hK _ _ (Below.refl _ _) rfl
        refine Oy.walk_q ?_ fun x94 => ?_
        ·intro w1 hb hd K hK
         obtain rfl : _ = x88 := Eq.symm (hd 27 (by kernel_rfl))
         obtain rfl : _ = x93 := Eq.symm (hd 32 (by kernel_rfl))
         obtain rfl : _ = x79 := Eq.symm (hd 18 (by kernel_rfl))
         clear hd
         go_simp
         exact hK _ _ (Below.refl _ _) rfl
        refine Oy.walk_q ?_ fun x95 => ?_
        ·intro w1 hb hd K hK
         obtain rfl : _ = x79 := Eq.symm (hd 18 (by kernel_rfl))
         obtain rfl : _ = x94 := Eq.symm (hd 33 (by kernel_rfl))
         clear hd
         go_simp
         exact hK _ _ (Below.refl _ _) rfl
        refine Oy.walk_nil rfl (fun w1 hb hd => ?_)
        obtain rfl : _ = x61 := Eq.symm (hd 0 (by kernel_rfl))
        obtain rfl : _ = x62 := Eq.symm (hd 1 (by kernel_rfl))
        obtain rfl : _ = x63 := Eq.symm (hd 2 (by kernel_rfl))
        obtain rfl : _ = x64 := Eq.symm (hd 3 (by kernel_rfl))
        obtain rfl : _ = x65 := Eq.symm (hd 4 (by kernel_rfl))
        obtain rfl : _ = x66 := Eq.symm (hd 5 (by kernel_rfl))
        obtain rfl : _ = x67 := Eq.symm (hd 6 (by kernel_rfl))
        obtain rfl : _ = x68 := Eq.symm (hd 7 (by kernel_rfl))
        obtain rfl : _ = x69 := Eq.symm (hd 8 (by kernel_rfl))
        obtain rfl : _ = x70 := Eq.symm (hd 9 (by kernel_rfl))
        obtain rfl : _ = x71 := Eq.symm (hd 10 (by kernel_rfl))
        obtain rfl : _ = x72 := Eq.symm (hd 11 (by kernel_rfl))
        obtain rfl : _ = x73 := Eq.symm (hd 12 (by kernel_rfl))
        obtain rfl : _ = x74 := Eq.symm (hd 13 (by kernel_rfl))
        obtain rfl : _ = x75 := Eq.symm (hd 14 (by kernel_rfl))
        obtain rfl : _ = x76 := Eq.symm (hd 15 (by kernel_rfl))
        obtain rfl : _ = x77 := Eq.symm (hd 16 (by kernel_rfl))
        obtain rfl : _ = x78 := Eq.symm (hd 17 (by kernel_rfl))
        obtain rfl : _ = x79 := Eq.symm (hd 18 (by kernel_rfl))
        obtain rfl : _ = x80 := Eq.symm (hd 19 (by kernel_rfl))
        obtain rfl : _ = x81 := Eq.symm (hd 20 (by kernel_rfl))
        obtain rfl : _ = x82 := Eq.symm (hd 21 (by kernel_rfl))
        obtain rfl : _ = x83 := Eq.symm (hd 22 (by kernel_rfl))
        obtain rfl : _ = x84 := Eq.symm (hd 23 (by kernel_rfl))
        obtain rfl : _ = x85 := Eq.symm (hd 24 (by kernel_rfl))
        obtain rfl : _ = x86 := Eq.symm (hd 25 (by kernel_rfl))
        obtain rfl : _ = x87 := Eq.symm (hd 26 (by kernel_rfl))
        obtain rfl : _ = x88 := Eq.symm (hd 27 (by kernel_rfl))
        obtain rfl : _ = x89 := Eq.symm (hd 28 (by kernel_rfl))
        obtain rfl : _ = x90 := Eq.symm (hd 29 (by kernel_rfl))
        obtain rfl : _ = x91 := Eq.symm (hd 30 (by kernel_rfl))
        obtain rfl : _ = x92 := Eq.symm (hd 31 (by kernel_rfl))
        obtain rfl : _ = x93 := Eq.symm (hd 32 (by kernel_rfl))
        obtain rfl : _ = x94 := Eq.symm (hd 33 (by kernel_rfl))
        obtain rfl : _ = x95 := Eq.symm (hd 34 (by kernel_rfl))
        clear hd
        have HBZ := Lib.hid (HBQ.out w1 hb)
        clear hb
        go_simp
        go_wp2
        go_roundw
        case rel => exact ⟨trivial, trivial, trivial, k + 1, by omega, by go_num, HBZ.out⟩
        case measure => simp [intOf]; omega
      ·have hne := str_ne (Y := ⟨#[]⟩) hT
       have hne' := str_ne (X := ⟨#[]⟩) (Ne.symm hT)
       have hne2 : T.toList.isEmpty = false := by
        rw [List.isEmpty_eq_false_iff, Lib.toList_data]
        exact hT
       have hp0 : ¬ PT < 0 := by have := hpt hT; omega
       clear hT hpt
       go_upto_region 15 with fail
       by_cases hg : (5 : Int) < (E.size : Int)
       ·have hl5 : (5 : Int) ≤ (E.size : Int) := by omega
        by_cases hd5 : (E.extract 0 5).data.toList = wDone
        ·have hq0 : ¬ PE < 0 := by have := hpe hg hd5; omega
         have hx5 : E.extract 0 5 = ⟨#[100, 111, 110, 101, 46]⟩ := str_eq (Y := ⟨#[100, 111, 110, 101, 46]⟩) hd5
         clear hd5 hpe
         refine Oy.region_quiet 97 [Oy.eqD (.pointer (some ⟨w.heap.size, 4, none⟩)), Oy.eqD (.slice (some ⟨b, o, none⟩) n4 k4), Oy.eqD (.int .i64 k), Oy.eqD (.pointer (some ⟨b, o + k * 5, none⟩)), Oy.eqD (.pointer (some ⟨b, o + k * 5 + 3, none⟩)), Oy.eqD (.string T), Oy.eqD (.bool true), Oy.eqD (.bool true), Oy.eqD (.agg #[.string M, .slice A1 n1 k1, .slice A2 n2 k2, .slice A3 n3 k3, .slice (some ⟨b, o, none⟩) n4 k4]), Oy.eqD (.pointer (some ⟨w.heap.size, 4, none⟩)), Oy.eqD (.slice (some ⟨b, o, none⟩) n4 k4), Oy.eqD (.int .i64 k), Oy.eqD (.pointer (some ⟨b, o + k * 5, none⟩)), Oy.eqD (.pointer (some ⟨b, o + k * 5 + 3, none⟩)), Oy.eqD (.string T), Oy.eqD (.int .i64 PT), Oy.eqD (.bool false), Oy.eqD (.bool false), Oy.eqD (.bool false), Oy.eqD (.string E), Oy.eqD (.int .i64 (E.size : Int)), Oy.eqD (.bool true), Oy.eqD (.bool true), Oy.eqD (.string E), Oy.eqD (.string ⟨#[100, 111, 110, 101, 46]⟩), Oy.eqD (.bool true), Oy.eqD (.bool true), Oy.eqD (.bool true), Oy.eqD (.agg #[.string M, .slice A1 n1 k1, .slice A2 n2 k2, .slice A3 n3 k3, .slice (some ⟨b, o, none⟩) n4 k4]), Oy.eqD (.string E), Oy.eqD (.string (E.extract 5 E.size)), Oy.eqD (.int .i64 PE), Oy.eqD (.bool false), Oy.eqD (.bool false), Oy.eqD (.bool false)] [[], [], [], [], [], [], [], [], [], [], [], [], [], [], [], [], [], [], [], [], [], [], [], [], [], [], [], [], [], [], [], [], [], [], []] (by kernel_rfl) rfl (by kernel_rfl) (by kernel_rfl) ⟨Oy.keeps_eq _, Oy.keeps_eq _, Oy.keeps_eq _, Oy.keeps_eq _, Oy.keeps_eq _, Oy.keeps_eq _, Oy.keeps_eq _, Oy.keeps_eq _, Oy.keeps_eq _, Oy.keeps_eq _, Oy.keeps_eq _, Oy.keeps_eq _, Oy.keeps_eq _, Oy.keeps_eq _, Oy.keeps_eq _, Oy.keeps_eq _, Oy.keeps_eq _, Oy.keeps_eq _, Oy.keeps_eq _, Oy.keeps_eq _, Oy.keeps_eq _, Oy.keeps_eq _, Oy.keeps_eq _, Oy.keeps_eq _, Oy.keeps_eq _, Oy.keeps_eq _, Oy.keeps_eq _, Oy.keeps_eq _, Oy.keeps_eq _, Oy.keeps_eq _, Oy.keeps_eq _, Oy.keeps_eq _, Oy.keeps_eq _, Oy.keeps_eq _, Oy.keeps_eq _, trivial⟩ ?_
         refine Oy.walk_q ?_ fun x61 => ?_
         ·intro w1 hb hd K hK
          clear hd
          go_simp
          exact hK _ _ (Below.refl _ _) rfl
         refine Oy.walk_q ?_ fun x62 => ?_
         ·intro w1 hb hd K hK
          obtain rfl : _ = x61 := Eq.symm (hd 0 (by kernel_rfl))
          clear hd
          have c_d4 := (hb.cell (cell_lt d4)).trans d4
          go_simp
          exact hK _ _ (Below.refl _ _) rfl
         refine Oy.walk_q ?_ fun x63 => ?_
         ·intro w1 hb hd K hK
          clear hd
          go_simp
          exact hK _ _ (Below.refl _ _) rfl
         refine Oy.walk_q ?_ fun x64 => ?_
         ·intro w1 hb hd K hK
          obtain rfl : _ = x62 := Eq.symm (hd 1 (by kernel_rfl))
          obtain rfl : _ = x63 := Eq.symm (hd 2 (by kernel_rfl))
          clear hd
          go_simp
          exact hK _ _ (Below.refl _ _) rfl
         refine Oy.walk_q ?_ fun x65 => ?_
         ·intro w1 hb hd K hK
          obtain rfl : _ = x64 := Eq.symm (hd 3 (by kernel_rfl))
          clear hd
          go_simp
          exact hK _ _ (Below.refl _ _) rfl
         refine Oy.walk_q ?_ fun x66 => ?_
         ·intro w1 hb hd K hK
          obtain rfl : _ = x65 := Eq.symm (hd 4 (by kernel_rfl))
          clear hd
          have c_f3 := (hb.cell (cell_lt f3)).trans f3
          go_simp
          exact hK _ _ (Below.refl _ _) rfl
         refine Oy.walk_q ?_ fun x67 => ?_
         ·intro w1 hb hd K hK
          obtain rfl : _ = x66 := Eq.symm (hd 5 (by kernel_rfl))
          clear hd
          go_simp
          exact hK _ _ (Below.refl _ _) rfl
         refine Oy.walk_q ?_ fun x68 => ?_
         ·intro w1 hb hd K hK
          obtain rfl : _ = x67 := Eq.symm (hd 6 (by kernel_rfl))
          clear hd
          go_simp
          exact hK _ _ (Below.refl _ _) rfl
         refine Oy.walk_q ?_ fun x69 => ?_
         ·intro w1 hb hd K hK
          obtain rfl : _ = x68 := Eq.symm (hd 7 (by kernel_rfl))
          clear hd
          have c_d0 := (hb.cell (cell_lt d0)).trans d0
          have c_d1 := (hb.cell (cell_lt d1)).trans d1
          have c_d2 := (hb.cell (cell_lt d2)).trans d2
          have c_d3 := (hb.cell (cell_lt d3)).trans d3
          have c_d4 := (hb.cell (cell_lt d4)).trans d4
          go_simp
          exact hK _ _ (Below.refl _ _) rfl
         refine Oy.walk_q ?_ fun x70 => ?_
         ·intro w1 hb hd K hK
          obtain rfl : _ = x68 := Eq.symm (hd 7 (by kernel_rfl))
          clear hd
          go_simp
          exact hK _ _ (Below.refl _ _) rfl
         refine Oy.walk_q ?_ fun x71 => ?_
         ·intro w1 hb hd K hK
          obtain rfl : _ = x70 := Eq.symm (hd 9 (by kernel_rfl))
          obtain rfl : _ = x68 := Eq.symm (hd 7 (by kernel_rfl))
          clear hd
          have c_d4 := (hb.cell (cell_lt d4)).trans d4
          go_simp
          exact hK _ _ (Below.refl _ _) rfl
         refine Oy.walk_q ?_ fun x72 => ?_
         ·intro w1 hb hd K hK
          obtain rfl : _ = x68 := Eq.symm (hd 7 (by kernel_rfl))
          clear hd
          go_simp
          exact hK _ _ (Below.refl _ _) rfl
         refine Oy.walk_q ?_ fun x73 => ?_
         ·intro w1 hb hd K hK
          obtain rfl : _ = x71 := Eq.symm (hd 10 (by kernel_rfl))
          obtain rfl : _ = x72 := Eq.symm (hd 11 (by kernel_rfl))
          obtain rfl : _ = x68 := Eq.symm (hd 7 (by kernel_rfl))
          clear hd
          go_simp
          exact hK _ _ (Below.refl _ _) rfl
         refine Oy.walk_q ?_ fun x74 => ?_
         ·intro w1 hb hd K hK
          obtain rfl : _ = x73 := Eq.symm (hd 12 (by kernel_rfl))
          obtain rfl : _ = x68 := Eq.symm (hd 7 (by kernel_rfl))
          clear hd
          go_simp
          exact hK _ _ (Below.refl _ _) rfl
         refine Oy.walk_q ?_ fun x75 => ?_
         ·intro w1 hb hd K hK
          obtain rfl : _ = x74 := Eq.symm (hd 13 (by kernel_rfl))
          obtain rfl : _ = x68 := Eq.symm (hd 7 (by kernel_rfl))
          clear hd
          have c_f3 := (hb.cell (cell_lt f3)).trans f3
          go_simp
          exact hK _ _ (Below.refl _ _) rfl
         refine Oy.walk_q ?_ fun x76 => ?_
         ·intro w1 hb hd K hK
          obtain rfl : _ = x69 := Eq.symm (hd 8 (by kernel_rfl))
          obtain rfl : _ = x75 := Eq.symm (hd 14 (by kernel_rfl))
          obtain rfl : _ = x68 := Eq.symm (hd 7 (by kernel_rfl))
          clear hd
          go_simp
          refine (HPT.out w1 (HBW.out w1 hb)).mono ?_
          rintro e w5 ⟨rfl, hb5⟩
          go_simp
          exact hK _ _ hb5 rfl
         refine Oy.walk_q ?_ fun x77 => ?_
         ·intro w1 hb hd K hK
          obtain rfl : _ = x76 := Eq.symm (hd 15 (by kernel_rfl))
          obtain rfl : _ = x68 := Eq.symm (hd 7 (by kernel_rfl))
          clear hd
          go_simp
          exact hK _ _ (Below.refl _ _) rfl
         refine Oy.walk_q ?_ fun x78 => ?_
         ·intro w1 hb hd K hK
          obtain rfl : _ = x68 := Eq.symm (hd 7 (by kernel_rfl))
          obtain rfl : _ = x77 := Eq.symm (hd 16 (by kernel_rfl))
          clear hd
          go_simp
          exact hK _ _ (Below.refl _ _) rfl
         refine Oy.walk_q ?_ fun x79 => ?_
         ·intro w1 hb hd K hK
          obtain rfl : _ = x78 := Eq.symm (hd 17 (by kernel_rfl))
          clear hd
          go_simp
          exact hK _ _ (Below.refl _ _) rfl
         refine Oy.walk_q ?_ fun x80 => ?_
         ·intro w1 hb hd K hK
          obtain rfl : _ = x79 := Eq.symm (hd 18 (by kernel_rfl))
          clear hd
          go_simp
          exact hK _ _ (Below.refl _ _) rfl
         refine Oy.walk_q ?_ fun x81 => ?_
         ·intro w1 hb hd K hK
          obtain rfl : _ = x80 := Eq.symm (hd 19 (by kernel_rfl))
          obtain rfl : _ = x79 := Eq.symm (hd 18 (by kernel_rfl))
          clear hd
          go_simp
          exact hK _ _ (Below.refl _ _) rfl
         refine Oy.walk_q ?_ fun x82 => ?_
         ·intro w1 hb hd K hK
          obtain rfl : _ = x81 := Eq.symm (hd 20 (by kernel_rfl))
          obtain rfl : _ = x79 := Eq.symm (hd 18 (by kernel_rfl))
          clear hd
          go_simp
          exact hK _ _ (Below.refl _ _) rfl
         refine Oy.walk_q ?_ fun x83 => ?_
         ·intro w1 hb hd K hK
          obtain rfl : _ = x82 := Eq.symm (hd 21 (by kernel_rfl))
          obtain rfl : _ = x79 := Eq.symm (hd 18 (by kernel_rfl))
          clear hd
          go_simp
          exact hK _ _ (Below.refl _ _) rfl
         refine Oy.walk_q ?_ fun x84 => ?_
         ·intro w1 hb hd K hK
          obtain rfl : _ = x83 := Eq.symm (hd 22 (by kernel_rfl))
          clear hd
          go_simp
          exact hK _ _ (Below.refl _ _) rfl
         refine Oy.walk_q ?_ fun x85 => ?_
         ·intro w1 hb hd K hK
          obtain rfl : _ = x84 := Eq.symm (hd 23 (by kernel_rfl))
          obtain rfl : _ = x83 := Eq.symm (hd 22 (by kernel_rfl))
          clear hd
          go_simp
          exact hK _ _ (Below.refl _ _) rfl
         refine Oy.walk_q ?_ fun x86 => ?_
         ·intro w1 hb hd K hK
          obtain rfl : _ = x85 := Eq.symm (hd 24 (by kernel_rfl))
          obtain rfl : _ = x83 := Eq.symm (hd 22 (by kernel_rfl))
          clear hd
          go_simp
          exact hK _ _ (Below.refl _ _) rfl
         refine Oy.walk_q ?_ fun x87 => ?_
         ·intro w1 hb hd K hK
          obtain rfl : _ = x83 := Eq.symm (hd 22 (by kernel_rfl))
          obtain rfl : _ = x86 := Eq.symm (hd 25 (by kernel_rfl))
          obtain rfl : _ = x79 := Eq.symm (hd 18 (by kernel_rfl))
          clear hd
          go_simp
          exact hK _ _ (Below.refl _ _) rfl
         refine Oy.walk_q ?_ fun x88 => ?_
         ·intro w1 hb hd K hK
          obtain rfl : _ = x87 := Eq.symm (hd 26 (by kernel_rfl))
          obtain rfl : _ = x79 := Eq.symm (hd 18 (by kernel_rfl))
          clear hd
          go_simp
          exact hK _ _ (Below.refl _ _) rfl
         refine Oy.walk_q ?_ fun x89 => ?_
         ·intro w1 hb hd K hK
          obtain rfl : _ = x88 := Eq.symm (hd 27 (by kernel_rfl))
          clear hd
          have c_d0 := (hb.cell (cell_lt d0)).trans d0
          have c_d1 := (hb.cell (cell_lt d1)).trans d1
          have c_d2 := (hb.cell (cell_lt d2)).trans d2
          have c_d3 := (hb.cell (cell_lt d3)).trans d3
          have c_d4 := (hb.cell (cell_lt d4)).trans d4
          go_simp
          exact hK _ _ (Below.refl _ _) rfl
         refine Oy.walk_q ?_ fun x90 => ?_
         ·intro w1 hb hd K hK
          obtain rfl : _ = x88 := Eq.symm (hd 27 (by kernel_rfl))
          clear hd
          go_simp
          exact hK _ _ (Below.refl _ _) rfl
         refine Oy.walk_q ?_ fun x91 => ?_
         ·intro w1 hb hd K hK
          obtain rfl : _ = x90 := Eq.symm (hd 29 (by kernel_rfl))
          obtain rfl : _ = x88 := Eq.symm (hd 27 (by kernel_rfl))
          clear hd
          go_simp
          exact hK _ _ (Below.refl _ _) rfl
         refine Oy.walk_q ?_ fun x92 => ?_
         ·intro w1 hb hd K hK
          obtain rfl : _ = x89 := Eq.symm (hd 28 (by kernel_rfl))
          obtain rfl : _ = x91 := Eq.symm (hd 30 (by kernel_rfl))
          obtain rfl : _ = x88 := Eq.symm (hd 27 (by kernel_rfl))
          clear hd
          go_simp
          refine (HPE.out w1 (HBW.out w1 hb)).mono ?_
          rintro e w5 ⟨rfl, hb5⟩
          go_simp
          exact hK _ _ hb5 rfl
         refine Oy.walk_q ?_ fun x93 => ?_
         ·intro w1 hb hd K hK
          obtain rfl : _ = x92 := Eq.symm (hd 31 (by kernel_rfl))
          obtain rfl : _ = x88 := Eq.symm (hd 27 (by kernel_rfl))
          clear hd
          go_simp
          exact hK _ _ (Below.refl _ _) rfl
         refine Oy.walk_q ?_ fun x94 => ?_
         ·intro w1 hb hd K hK
          obtain rfl : _ = x88 := Eq.symm (hd 27 (by kernel_rfl))
          obtain rfl : _ = x93 := Eq.symm (hd 32 (by kernel_rfl))
          obtain rfl : _ = x79 := Eq.symm (hd 18 (by kernel_rfl))
          clear hd
          go_simp
          exact hK _ _ (Below.refl _ _) rfl
         refine Oy.walk_q ?_ fun x95 => ?_
         ·intro w1 hb hd K hK
          obtain rfl : _ = x79 := Eq.symm (hd 18 (by kernel_rfl))
          obtain rfl : _ = x94 := Eq.symm (hd 33 (by kernel_rfl))
          clear hd
          go_simp
          exact hK _ _ (Below.refl _ _) rfl
         refine Oy.walk_nil rfl (fun w1 hb hd => ?_)
         obtain rfl : _ = x61 := Eq.symm (hd 0 (by kernel_rfl))
         obtain rfl : _ = x62 := Eq.symm (hd 1 (by kernel_rfl))
         obtain rfl : _ = x63 := Eq.symm (hd 2 (by kernel_rfl))
         obtain rfl : _ = x64 := Eq.symm (hd 3 (by kernel_rfl))
         obtain rfl : _ = x65 := Eq.symm (hd 4 (by kernel_rfl))
         obtain rfl : _ = x66 := Eq.symm (hd 5 (by kernel_rfl))
         obtain rfl : _ = x67 := Eq.symm (hd 6 (by kernel_rfl))
         obtain rfl : _ = x68 := Eq.symm (hd 7 (by kernel_rfl))
         obtain rfl : _ = x69 := Eq.symm (hd 8 (by kernel_rfl))
         obtain rfl : _ = x70 := Eq.symm (hd 9 (by kernel_rfl))
         obtain rfl : _ = x71 := Eq.symm (hd 10 (by kernel_rfl))
         obtain rfl : _ = x72 := Eq.symm (hd 11 (by kernel_rfl))
         obtain rfl : _ = x73 := Eq.symm (hd 12 (by kernel_rfl))
         obtain rfl : _ = x74 := Eq.symm (hd 13 (by kernel_rfl))
         obtain rfl : _ = x75 := Eq.symm (hd 14 (by kernel_rfl))
         obtain rfl : _ = x76 := Eq.symm (hd 15 (by kernel_rfl))
         obtain rfl : _ = x77 := Eq.symm (hd 16 (by kernel_rfl))
         obtain rfl : _ = x78 := Eq.symm (hd 17 (by kernel_rfl))
         obtain rfl : _ = x79 := Eq.symm (hd 18 (by kernel_rfl))
         obtain rfl : _ = x80 := Eq.symm (hd 19 (by kernel_rfl))
         obtain rfl : _ = x81 := Eq.symm (hd 20 (by kernel_rfl))
         obtain rfl : _ = x82 := Eq.symm (hd 21 (by kernel_rfl))
         obtain rfl : _ = x83 := Eq.symm (hd 22 (by kernel_rfl))
         obtain rfl : _ = x84 := Eq.symm (hd 23 (by kernel_rfl))
         obtain rfl : _ = x85 := Eq.symm (hd 24 (by kernel_rfl))
         obtain rfl : _ = x86 := Eq.symm (hd 25 (by kernel_rfl))
         obtain rfl : _ = x87 := Eq.symm (hd 26 (by kernel_rfl))
         obtain rfl : _ = x88 := Eq.symm (hd 27 (by kernel_rfl))
         obtain rfl : _ = x89 := Eq.symm (hd 28 (by kernel_rfl))
         obtain rfl : _ = x90 := Eq.symm (hd 29 (by kernel_rfl))
         obtain rfl : _ = x91 := Eq.symm (hd 30 (by kernel_rfl))
         obtain rfl : _ = x92 := Eq.symm (hd 31 (by kernel_rfl))
         obtain rfl : _ = x93 := Eq.symm (hd 32 (by kernel_rfl))
         obtain rfl : _ = x94 := Eq.symm (hd 33 (by kernel_rfl))
         obtain rfl : _ = x95 := Eq.symm (hd 34 (by kernel_rfl))
         clear hd
         have HBZ := Lib.hid (HBQ.out w1 hb)
         clear hb
         go_simp
         go_wp2
         go_roundw
         case rel => exact ⟨trivial, trivial, trivial, k + 1, by omega, by go_num, HBZ.out⟩
         case measure => simp [intOf]; omega
        ·have hx5 : ((E.extract 0 5).toList == [100, 111, 110, 101, 46]) = false := by rw [Lib.toList_data]; exact beq_eq_false_iff_ne.2 hd5
         clear hd5 hpe
         refine Oy.region_quiet 97 [Oy.eqD (.pointer (some ⟨w.heap.size, 4, none⟩)), Oy.eqD (.slice (some ⟨b, o, none⟩) n4 k4), Oy.eqD (.int .i64 k), Oy.eqD (.pointer (some ⟨b, o + k * 5, none⟩)), Oy.eqD (.pointer (some ⟨b, o + k * 5 + 3, none⟩)), Oy.eqD (.string T), Oy.eqD (.bool true), Oy.eqD (.bool true), Oy.eqD (.agg #[.string M, .slice A1 n1 k1, .slice A2 n2 k2, .slice A3 n3 k3, .slice (some ⟨b, o, none⟩) n4 k4]), Oy.eqD (.pointer (some ⟨w.heap.size, 4, none⟩)), Oy.eqD (.slice (some ⟨b, o, none⟩) n4 k4), Oy.eqD (.int .i64 k), Oy.eqD (.pointer (some ⟨b, o + k * 5, none⟩)), Oy.eqD (.pointer (some ⟨b, o + k * 5 + 3, none⟩)), Oy.eqD (.string T), Oy.eqD (.int .i64 PT), Oy.eqD (.bool false), Oy.eqD (.bool false), Oy.eqD (.bool false), Oy.eqD (.string E), Oy.eqD (.int .i64 (E.size : Int)), Oy.eqD (.bool true), Oy.eqD (.bool true), Oy.eqD (.string E), Oy.eqD (.string (E.extract 0 5)), Oy.eqD (.bool false), Oy.eqD (.bool false), Oy.eqD (.bool false), Oy.eqD (undef), Oy.eqD (undef), Oy.eqD (undef), Oy.eqD (undef), Oy.eqD (undef), Oy.eqD (.bool false), Oy.eqD (.bool false)] [[], [], [], [], [], [], [], [], [], [], [], [], [], [], [], [], [], [], [], [], [], [], [], [], [], [], [], [], [], [], [], [], [], [], []] (by kernel_rfl) rfl (by kernel_rfl) (by kernel_rfl) ⟨Oy.keeps_eq _, Oy.keeps_eq _, Oy.keeps_eq _, Oy.keeps_eq _, Oy.keeps_eq _, Oy.keeps_eq _, Oy.keeps_eq _, Oy.keeps_eq _, Oy.keeps_eq _, Oy.keeps_eq _, Oy.keeps_eq _, Oy.keeps_eq _, Oy.keeps_eq _, Oy.keeps_eq _, Oy.keeps_eq _, Oy.keeps_eq _, Oy.keeps_eq _, Oy.keeps_eq _, Oy.keeps_eq _, Oy.keeps_eq _, Oy.keeps_eq _, Oy.keeps_eq _, Oy.keeps_eq _, Oy.keeps_eq _, Oy.keeps_eq _, Oy.keeps_eq _, Oy.keeps_eq _, Oy.keeps_eq _, Oy.keeps_eq _, Oy.keeps_eq _, Oy.keeps_eq _, Oy.keeps_eq _, Oy.keeps_eq _, Oy.keeps_eq _, Oy.keeps_eq _, trivial⟩ ?_
         refine Oy.walk_q ?_ fun x61 => ?_
         ·intro w1 hb hd K hK
          clear hd
          go_simp
          exact hK _ _ (Below.refl _ _) rfl
         refine Oy.walk_q ?_ fun x62 => ?_
         ·intro w1 hb hd K hK
          obtain rfl : _ = x61 := Eq.symm (hd 0 (by kernel_rfl))
          clear hd
          have c_d4 := (hb.cell (cell_lt d4)).trans d4
          go_simp
          exact hK _ _ (Below.refl _ _) rfl
         refine Oy.walk_q ?_ fun x63 => ?_
         ·intro w1 hb hd K hK
          clear hd
          go_simp
          exact hK _ _ (Below.refl _ _) rfl
         refine Oy.walk_q ?_ fun x64 => ?_
         ·intro w1 hb hd K hK
          obtain rfl : _ = x62 := Eq.symm (hd 1 (by kernel_rfl))
          obtain rfl : _ = x63 := Eq.symm (hd 2 (by kernel_rfl))
          clear hd
          go_simp
          exact hK _ _ (Below.refl _ _) rfl
         refine Oy.walk_q ?_ fun x65 => ?_
         ·intro w1 hb hd K hK
          obtain rfl : _ = x64 := Eq.symm (hd 3 (by kernel_rfl))
          clear hd
          go_simp
          exact hK _ _ (Below.refl _ _) rfl
         refine Oy.walk_q ?_ fun x66 => ?_
         ·intro w1 hb hd K hK
          obtain rfl : _ = x65 := Eq.symm (hd 4 (by kernel_rfl))
          clear hd
          have c_f3 := (hb.cell (cell_lt f3)).trans f3
          go_simp
          exact hK _ _ (Below.refl _ _) rfl
         refine Oy.walk_q ?_ fun x67 => ?_
         ·intro w1 hb hd K hK
          obtain rfl : _ = x66 := Eq.symm (hd 5 (by kernel_rfl))
          clear hd
          go_simp
          exact hK _ _ (Below.refl _ _) rfl
         refine Oy.walk_q ?_ fun x68 => ?_
         ·intro w1 hb hd K hK
          obtain rfl : _ = x67 := Eq.symm (hd 6 (by kernel_rfl))
          clear hd
          go_simp
          exact hK _ _ (Below.refl _ _) rfl
         refine Oy.walk_q ?_ fun x69 => ?_
         ·intro w1 hb hd K hK
          obtain rfl : _ = x68 := Eq.symm (hd 7 (by kernel_rfl))
          clear hd
          have c_d0 := (hb.cell (cell_lt d0)).trans d0
          have c_d1 := (hb.cell (cell_lt d1)).trans d1
          have c_d2 := (hb.cell (cell_lt d2)).trans d2
          have c_d3 := (hb.cell (cell_lt d3)).trans d3
          have c_d4 := (hb.cell (cell_lt d4)).trans d4
          go_simp
          exact hK _ _ (Below.refl _ _) rfl
         refine Oy.walk_q ?_ fun x70 => ?_
         ·intro w1 hb hd K hK
          obtain rfl : _ = x68 := Eq.symm (hd 7 (by kernel_rfl))
          clear hd
          go_simp
          exact hK _ _ (Below.refl _ _) rfl
         refine Oy.walk_q ?_ fun x71 => ?_
         ·intro w1 hb hd K hK
          obtain rfl : _ = x70 := Eq.symm (hd 9 (by kernel_rfl))
          obtain rfl : _ = x68 := Eq.symm (hd 7 (by kernel_rfl))
          clear hd
          have c_d4 := (hb.cell (cell_lt d4)).trans d4
          go_simp
          exact hK _ _ (Below.refl _ _) rfl
         refine Oy.walk_q ?_ fun x72 => ?_
         ·intro w1 hb hd K hK
          obtain rfl : _ = x68 := Eq.symm (hd 7 (by kernel_rfl))
          clear hd
          go_simp
          exact hK _ _ (Below.refl _ _) rfl
         refine Oy.walk_q ?_ fun x73 => ?_
         ·intro w1 hb hd K hK
          obtain rfl : _ = x71 := Eq.symm (hd 10 (by kernel_rfl))
          obtain rfl : _ = x72 := Eq.symm (hd 11 (by kernel_rfl))
          obtain rfl : _ = x68 := Eq.symm (hd 7 (by kernel_rfl))
          clear hd
          go_simp
          exact hK _ _ (Below.refl _ _) rfl
         refine Oy.walk_q ?_ fun x74 => ?_
         ·intro w1 hb hd K hK
          obtain rfl : _ = x73 := Eq.symm (hd 12 (by kernel_rfl))
          obtain rfl : _ = x68 := Eq.symm (hd 7 (by kernel_rfl))
          clear hd
          go_simp
          exact hK _ _ (Below.refl _ _) rfl
         refine Oy.walk_q ?_ fun x75 => ?_
         ·intro w1 hb hd K hK
          obtain rfl : _ = x74 := Eq.symm (hd 13 (by kernel_rfl))
          obtain rfl : _ = x68 := Eq.symm (hd 7 (by kernel_rfl))
          clear hd
          have c_f3 := (hb.cell (cell_lt f3)).trans f3
          go_simp
          exact hK _ _ (Below.refl _ _) rfl
         refine Oy.walk_q ?_ fun x76 => ?_
         ·intro w1 hb hd K hK
          obtain rfl : _ = x69 := Eq.symm (hd 8 (by kernel_rfl))
          obtain rfl : _ = x75 := Eq.symm (hd 14 (by kernel_rfl))
          obtain rfl : _ = x68 := Eq.symm (hd 7 (by kernel_rfl))
          clear hd
          go_simp
          refine (HPT.out w1 (HBW.out w1 hb)).mono ?_
          rintro e w5 ⟨rfl, hb5⟩
          go_simp
          exact hK _ _ hb5 rfl
         refine Oy.walk_q ?_ fun x77 => ?_
         ·intro w1 hb hd K hK
          obtain rfl : _ = x76 := Eq.symm (hd 15 (by kernel_rfl))
          obtain rfl : _ = x68 := Eq.symm (hd 7 (by kernel_rfl))
          clear hd
          go_simp
          exact hK _ _ (Below.refl _ _) rfl
         refine Oy.walk_q ?_ fun x78 => ?_
         ·intro w1 hb hd K hK
          obtain rfl : _ = x68 := Eq.symm (hd 7 (by kernel_rfl))
          obtain rfl : _ = x77 := Eq.symm (hd 16 (by kernel_rfl))
          clear hd
          go_simp
          exact hK _ _ (Below.refl _ _) rfl
         refine Oy.walk_q ?_ fun x79 => ?_
         ·intro w1 hb hd K hK
          obtain rfl : _ = x78 := Eq.symm (hd 17 (by kernel_rfl))
          clear hd
          go_simp
          exact hK _ _ (Below.refl _ _) rfl
         refine Oy.walk_q ?_ fun x80 => ?_
         ·intro w1 hb hd K hK
          obtain rfl : _ = x79 := Eq.symm (hd 18 (by kernel_rfl))
          clear hd
          go_simp
          exact hK _ _ (Below.refl _ _) rfl
         refine Oy.walk_q ?_ fun x81 => ?_
         ·intro w1 hb hd K hK
          obtain rfl : _ = x80 := Eq.symm (hd 19 (by kernel_rfl))
          obtain rfl : _ = x79 := Eq.symm (hd 18 (by kernel_rfl))
          clear hd
          go_simp
          exact hK _ _ (Below.refl _ _) rfl
         refine Oy.walk_q ?_ fun x82 => ?_
         ·intro w1 hb hd K hK
          obtain rfl : _ = x81 := Eq.symm (hd 20 (by kernel_rfl))
          obtain rfl : _ = x79 := Eq.symm (hd 18 (by kernel_rfl))
          clear hd
          go_simp
          exact hK _ _ (Below.refl _ _) rfl
         refine Oy.walk_q ?_ fun x83 => ?_
         ·intro w1 hb hd K hK
          obtain rfl : _ = x82 := Eq.symm (hd 21 (by kernel_rfl))
          obtain rfl : _ = x79 := Eq.symm (hd 18 (by kernel_rfl))
          clear hd
          go_simp
          exact hK _ _ (Below.refl _ _) rfl
         refine Oy.walk_q ?_ fun x84 => ?_
         ·intro w1 hb hd K hK
          obtain rfl : _ = x83 := Eq.symm (hd 22 (by kernel_rfl))
          clear hd
          go_simp
          exact hK _ _ (Below.refl _ _) rfl
         refine Oy.walk_q ?_ fun x85 => ?_
         ·intro w1 hb hd K hK
          obtain rfl : _ = x84 := Eq.symm (hd 23 (by kernel_rfl))
          obtain rfl : _ = x83 := Eq.symm (hd 22 (by kernel_rfl))
          clear hd
          go_simp
          exact hK _ _ (Below.refl _ _) rfl
         refine Oy.walk_q ?_ fun x86 => ?_
         ·intro w1 hb hd K hK
          obtain rfl : _ = x85 := Eq.symm (hd 24 (by kernel_rfl))
          obtain rfl : _ = x83 := Eq.symm (hd 22 (by kernel_rfl))
          clear hd
          go_simp
          exact hK _ _ (Below.refl _ _) rfl
         refine Oy.walk_q ?_ fun x87 => ?_
         ·intro w1 hb hd K hK
          obtain rfl : _ = x83 := Eq.symm (hd 22 (by kernel_rfl))
          obtain rfl : _ = x86 := Eq.symm (hd 25 (by kernel_rfl))
          obtain rfl : _ = x79 := Eq.symm (hd 18 (by kernel_rfl))
          clear hd
          go_simp
          exact hK _ _ (Below.refl _ _) rfl
         refine Oy.walk_q ?_ fun x88 => ?_
         ·intro w1 hb hd K hK
          obtain rfl : _ = x87 := Eq.symm (hd 26 (by kernel_rfl))
          obtain rfl : _ = x79 := Eq.symm (hd 18 (by kernel_rfl))
          clear hd
          go_simp
          exact hK _ _ (Below.refl _ _) rfl
         refine Oy.walk_q ?_ fun x89 => ?_
         ·intro w1 hb hd K hK
          obtain rfl : _ = x88 := Eq.symm (hd 27 (by kernel_rfl))
          clear hd
          go_simp
          exact hK _ _ (Below.refl _ _) rfl
         refine Oy.walk_q ?_ fun x90 => ?_
         ·intro w1 hb hd K hK
          obtain rfl : _ = x88 := Eq.symm (hd 27 (by kernel_rfl))
          clear hd
          go_simp
          exact hK _ _ (Below.refl _ _) rfl
         refine Oy.walk_q ?_ fun x91 => ?_
         ·intro w1 hb hd K hK
          obtain rfl : _ = x90 := Eq.symm (hd 29 (by kernel_rfl))
          obtain rfl : _ = x88 := Eq.symm (hd 27 (by kernel_rfl))
          clear hd
          go_simp
          exact hK _ _ (Below.refl _ _) rfl
         refine Oy.walk_q ?_ fun x92 => ?_
         ·intro w1 hb hd K hK
          obtain rfl : _ = x89 := Eq.symm (hd 28 (by kernel_rfl))
          obtain rfl : _ = x91 := Eq.symm (hd 30 (by kernel_rfl))
          obtain rfl : _ = x88 := Eq.symm (hd 27 (by kernel_rfl))
          clear hd
          go_simp
          exact hK _ _ (Below.refl _ _) rfl
         refine Oy.walk_q ?_ fun x93 => ?_
         ·intro w1 hb hd K hK
          obtain rfl : _ = x92 := Eq.symm (hd 31 (by kernel_rfl))
          obtain rfl : _ = x88 := Eq.symm (hd 27 (by kernel_rfl))
          clear hd
          go_simp
          exact hK _ _ (Below.refl _ _) rfl
         refine Oy.walk_q ?_ fun x94 => ?_
         ·intro w1 hb hd K hK
          obtain rfl : _ = x88 := Eq.symm (hd 27 (by kernel_rfl))
          obtain rfl : _ = x93 := Eq.symm (hd 32 (by kernel_rfl))
          obtain rfl : _ = x79 := Eq.symm (hd 18 (by kernel_rfl))
          clear hd
          go_simp
          exact hK _ _ (Below.refl _ _) rfl
         refine Oy.walk_q ?_ fun x95 => ?_
         ·intro w1 hb hd K hK
          obtain rfl : _ = x79 := Eq.symm (hd 18 (by kernel_rfl))
          obtain rfl : _ = x94 := Eq.symm (hd 33 (by kernel_rfl))
          clear hd
          go_simp
          exact hK _ _ (Below.refl _ _) rfl
         refine Oy.walk_nil rfl (fun w1 hb hd => ?_)
         obtain rfl : _ = x61 := Eq.symm (hd 0 (by kernel_rfl))
         obtain rfl : _ = x62 := Eq.symm (hd 1 (by kernel_rfl))
         obtain rfl : _ = x63 := Eq.symm (hd 2 (by kernel_rfl))
         obtain rfl : _ = x64 := Eq.symm (hd 3 (by kernel_rfl))
         obtain rfl : _ = x65 := Eq.symm (hd 4 (by kernel_rfl))
         obtain rfl : _ = x66 := Eq.symm (hd 5 (by kernel_rfl))
         obtain rfl : _ = x67 := Eq.symm (hd 6 (by kernel_rfl))
         obtain rfl : _ = x68 := Eq.symm (hd 7 (by kernel_rfl))
         obtain rfl : _ = x69 := Eq.symm (hd 8 (by kernel_rfl))
         obtain rfl : _ = x70 := Eq.symm (hd 9 (by kernel_rfl))
         obtain rfl : _ = x71 := Eq.symm (hd 10 (by kernel_rfl))
         obtain rfl : _ = x72 := Eq.symm (hd 11 (by kernel_rfl))
         obtain rfl : _ = x73 := Eq.symm (hd 12 (by kernel_rfl))
         obtain rfl : _ = x74 := Eq.symm (hd 13 (by kernel_rfl))
         obtain rfl : _ = x75 := Eq.symm (hd 14 (by kernel_rfl))
         obtain rfl : _ = x76 := Eq.symm (hd 15 (by kernel_rfl))
         obtain rfl : _ = x77 := Eq.symm (hd 16 (by kernel_rfl))
         obtain rfl : _ = x78 := Eq.symm (hd 17 (by kernel_rfl))
         obtain rfl : _ = x79 := Eq.symm (hd 18 (by kernel_rfl))
         obtain rfl : _ = x80 := Eq.symm (hd 19 (by kernel_rfl))
         obtain rfl : _ = x81 := Eq.symm (hd 20 (by kernel_rfl))
         obtain rfl : _ = x82 := Eq.symm (hd 21 (by kernel_rfl))
         obtain rfl : _ = x83 := Eq.symm (hd 22 (by kernel_rfl))
         obtain rfl : _ = x84 := Eq.symm (hd 23 (by kernel_rfl))
         obtain rfl : _ = x85 := Eq.symm (hd 24 (by kernel_rfl))
         obtain rfl : _ = x86 := Eq.symm (hd 25 (by kernel_rfl))
         obtain rfl : _ = x87 := Eq.symm (hd 26 (by kernel_rfl))
         obtain rfl : _ = x88 := Eq.symm (hd 27 (by kernel_rfl))
         obtain rfl : _ = x89 := Eq.symm (hd 28 (by kernel_rfl))
         obtain rfl : _ = x90 := Eq.symm (hd 29 (by kernel_rfl))
         obtain rfl : _ = x91 := Eq.symm (hd 30 (by kernel_rfl))
         obtain rfl : _ = x92 := Eq.symm (hd 31 (by kernel_rfl))
         obtain rfl : _ = x93 := Eq.symm (hd 32 (by kernel_rfl))
         obtain rfl : _ = x94 := Eq.symm (hd 33 (by kernel_rfl))
         obtain rfl : _ = x95 := Eq.symm (hd 34 (by kernel_rfl))
         clear hd
         have HBZ := Lib.hid (HBQ.out w1 hb)
         clear hb
         go_simp
         go_wp2
         go_roundw
         case rel => exact ⟨trivial, trivial, trivial, k + 1, by omega, by go_num, HBZ.out⟩
         case measure => simp [intOf]; omega
       ·clear hpe
        refine Oy.region_quiet 97 [Oy.eqD (.pointer (some ⟨w.heap.size, 4, none⟩)), Oy.eqD (.slice (some ⟨b, o, none⟩) n4 k4), Oy.eqD (.int .i64 k), Oy.eqD (.pointer (some ⟨b, o + k * 5, none⟩)), Oy.eqD (.pointer (some ⟨b, o + k * 5 + 3, none⟩)), Oy.eqD (.string T), Oy.eqD (.bool true), Oy.eqD (.bool true), Oy.eqD (.agg #[.string M, .slice A1 n1 k1, .slice A2 n2 k2, .slice A3 n3 k3, .slice (some ⟨b, o, none⟩) n4 k4]), Oy.eqD (.pointer (some ⟨w.heap.size, 4, none⟩)), Oy.eqD (.slice (some ⟨b, o, none⟩) n4 k4), Oy.eqD (.int .i64 k), Oy.eqD (.pointer (some ⟨b, o + k * 5, none⟩)), Oy.eqD (.pointer (some ⟨b, o + k * 5 + 3, none⟩)), Oy.eqD (.string T), Oy.eqD (.int .i64 PT), Oy.eqD (.bool false), Oy.eqD (.bool false), Oy.eqD (.bool false), Oy.eqD (.string E), Oy.eqD (.int .i64 (E.size : Int)), Oy.eqD (.bool false), Oy.eqD (.bool false), Oy.eqD (undef), Oy.eqD (undef), Oy.eqD (undef), Oy.eqD (.bool false), Oy.eqD (.bool false), Oy.eqD (undef), Oy.eqD (undef), Oy.eqD (undef), Oy.eqD (undef), Oy.eqD (undef), Oy.eqD (.bool false), Oy.eqD (.bool false)] [[], [], [], [], [], [], [], [], [], [], [], [], [], [], [], [], [], [], [], [], [], [], [], [], [], [], [], [], [], [], [], [], [], [], []] (by kernel_rfl) rfl (by kernel_rfl) (by kernel_rfl) ⟨Oy.keeps_eq _, Oy.keeps_eq _, Oy.keeps_eq _, Oy.keeps_eq _, Oy.keeps_eq _, Oy.keeps_eq _, Oy.keeps_eq _, Oy.keeps_eq _, Oy.keeps_eq _, Oy.keeps_eq _, Oy.keeps_eq _, Oy.keeps_eq _, Oy.keeps_eq _, Oy.keeps_eq _, Oy.keeps_eq _, Oy.keeps_eq _, Oy.keeps_eq _, Oy.keeps_eq _, Oy.keeps_eq _, Oy.keeps_eq _, Oy.keeps_eq _, Oy.keeps_eq _, Oy.keeps_eq _, Oy.keeps_eq _, Oy.keeps_eq _, Oy.keeps_eq _, Oy.keeps_eq _, Oy.keeps_eq _, Oy.keeps_eq _, Oy.keeps_eq _, Oy.keeps_eq _, Oy.keeps_eq _, Oy.keeps_eq _, Oy.keeps_eq _, Oy.keeps_eq _, trivial⟩ ?_
        refine Oy.walk_q ?_ fun x61 => ?_
        ·intro w1 hb hd K hK
         clear hd
         go_simp
         exact hK _ _ (Below.refl _ _) rfl
        refine Oy.walk_q ?_ fun x62 => ?_
        ·intro w1 hb hd K hK
         obtain rfl : _ = x61 := Eq.symm (hd 0 (by kernel_rfl))
         clear hd
         have c_d4 := (hb.cell (cell_lt d4)).trans d4
         go_simp
         exact hK _ _ (Below.refl _ _) rfl
        refine Oy.walk_q ?_ fun x63 => ?_
        ·intro w1 hb hd K hK
         clear hd
         go_simp
         exact hK _ _ (Below.refl _ _) rfl
        refine Oy.walk_q ?_ fun x64 => ?_
        ·intro w1 hb hd K hK
         obtain rfl : _ = x62 := Eq.symm (hd 1 (by kernel_rfl))
         obtain rfl : _ = x63 := Eq.symm (hd 2 (by kernel_rfl))
         clear hd
         go_simp
         exact hK _ _ (Below.refl _ _) rfl
        refine Oy.walk_q ?_ fun x65 => ?_
        ·intro w1 hb hd K hK
         obtain rfl : _ = x64 := Eq.symm (hd 3 (by kernel_rfl))
         clear hd
         go_simp
         exact hK _ _ (Below.refl _ _) rfl
        refine Oy.walk_q ?_ fun x66 => ?_
        ·intro w1 hb hd K hK
         obtain rfl : _ = x65 := Eq.symm (hd 4 (by kernel_rfl))
         clear hd
         have c_f3 := (hb.cell (cell_lt f3)).trans f3
         go_simp
         exact hK _ _ (Below.refl _ _) rfl
        refine Oy.walk_q ?_ fun x67 => ?_
        ·intro w1 hb hd K hK
         obtain rfl : _ = x66 := Eq.symm (hd 5 (by kernel_rfl))
         clear hd
         go_simp
         exact hK _ _ (Below.refl _ _) rfl
        refine Oy.walk_q ?_ fun x68 => ?_
        ·intro w1 hb hd K hK
         obtain rfl : _ = x67 := Eq.symm (hd 6 (by kernel_rfl))
         clear hd
         go_simp
         exact hK _ _ (Below.refl _ _) rfl
        refine Oy.walk_q ?_ fun x69 => ?_
        ·intro w1 hb hd K hK
         obtain rfl : _ = x68 := Eq.symm (hd 7 (by kernel_rfl))
         clear hd
         have c_d0 := (hb.cell (cell_lt d0)).trans d0
         have c_d1 := (hb.cell (cell_lt d1)).trans d1
         have c_d2 := (hb.cell (cell_lt d2)).trans d2
         have c_d3 := (hb.cell (cell_lt d3)).trans d3
         have c_d4 := (hb.cell (cell_lt d4)).trans d4
         go_simp
         exact hK _ _ (Below.refl _ _) rfl
        refine Oy.walk_q ?_ fun x70 => ?_
        ·intro w1 hb hd K hK
         obtain rfl : _ = x68 := Eq.symm (hd 7 (by kernel_rfl))
         clear hd
         go_simp
         exact hK _ _ (Below.refl _ _) rfl
        refine Oy.walk_q ?_ fun x71 => ?_
        ·intro w1 hb hd K hK
         obtain rfl : _ = x70 := Eq.symm (hd 9 (by kernel_rfl))
         obtain rfl : _ = x68 := Eq.symm (hd 7 (by kernel_rfl))
         clear hd
         have c_d4 := (hb.cell (cell_lt d4)).trans d4
         go_simp
         exact hK _ _ (Below.refl _ _) rfl
        refine Oy.walk_q ?_ fun x72 => ?_
        ·intro w1 hb hd K hK
         obtain rfl : _ = x68 := Eq.symm (hd 7 (by kernel_rfl))
         clear hd
         go_simp
         exact hK _ _ (Below.refl _ _) rfl
        refine Oy.walk_q ?_ fun x73 => ?_
        ·intro w1 hb hd K hK
         obtain rfl : _ = x71 := Eq.symm (hd 10 (by kernel_rfl))
         obtain rfl : _ = x72 := Eq.symm (hd 11 (by kernel_rfl))
         obtain rfl : _ = x68 := Eq.symm (hd 7 (by kernel_rfl))
         clear hd
         go_simp
         exact hK _ _ (Below.refl _ _) rfl
        refine Oy.walk_q ?_ fun x74 => ?_
        ·intro w1 hb hd K hK
         obtain rfl : _ = x73 := Eq.symm (hd 12 (by kernel_rfl))
         obtain rfl : _ = x68 := Eq.symm (hd 7 (by kernel_rfl))
         clear hd
         go_simp
         exact hK _ _ (Below.refl _ _) rfl
        refine Oy.walk_q ?_ fun x75 => ?_
        ·intro w1 hb hd K hK
         obtain rfl : _ = x74 := Eq.symm (hd 13 (by kernel_rfl))
         obtain rfl : _ = x68 := Eq.symm (hd 7 (by kernel_rfl))
         clear hd
         have c_f3 := (hb.cell (cell_lt f3)).trans f3
         go_simp
         exact hK _ _ (Below.refl _ _) rfl
        refine Oy.walk_q ?_ fun x76 => ?_
        ·intro w1 hb hd K hK
         obtain rfl : _ = x69 := Eq.symm (hd 8 (by kernel_rfl))
         obtain rfl : _ = x75 := Eq.symm (hd 14 (by kernel_rfl))
         obtain rfl : _ = x68 := Eq.symm (hd 7 (by kernel_rfl))
         clear hd
         go_simp
         refine (HPT.out w1 (HBW.out w1 hb)).mono ?_
         rintro e w5 ⟨rfl, hb5⟩
         go_simp
         exact hK _ _ hb5 rfl
        refine Oy.walk_q ?_ fun x77 => ?_
        ·intro w1 hb hd K hK
         obtain rfl : _ = x76 := Eq.symm (hd 15 (by kernel_rfl))
         obtain rfl : _ = x68 := Eq.symm (hd 7 (by kernel_rfl))
         clear hd
         go_simp
         exact hK _ _ (Below.refl _ _) rfl
        refine Oy.walk_q ?_ fun x78 => ?_
        ·intro w1 hb hd K hK
         obtain rfl : _ = x68 := Eq.symm (hd 7 (by kernel_rfl))
         obtain rfl : _ = x77 := Eq.symm (hd 16 (by kernel_rfl))
         clear hd
         go_simp
         exact hK _ _ (Below.refl _ _) rfl
        refine Oy.walk_q ?_ fun x79 => ?_
        ·intro w1 hb hd K hK
         obtain rfl : _ = x78 := Eq.symm (hd 17 (by kernel_rfl))
         clear hd
         go_simp
         exact hK _ _ (Below.refl _ _) rfl
        refine Oy.walk_q ?_ fun x80 => ?_
        ·intro w1 hb hd K hK
         obtain rfl : _ = x79 := Eq.symm (hd 18 (by kernel_rfl))
         clear hd
         go_simp
         exact hK _ _ (Below.refl _ _) rfl
        refine Oy.walk_q ?_ fun x81 => ?_
        ·intro w1 hb hd K hK
         obtain rfl : _ = x80 := Eq.symm (hd 19 (by kernel_rfl))
         obtain rfl : _ = x79 := Eq.symm (hd 18 (by kernel_rfl))
         clear hd
         go_simp
         exact hK _ _ (Below.refl _ _) rfl
        refine Oy.walk_q ?_ fun x82 => ?_
        ·intro w1 hb hd K hK
         obtain rfl : _ = x81 := Eq.symm (hd 20 (by kernel_rfl))
         obtain rfl : _ = x79 := Eq.symm (hd 18 (by kernel_rfl))
         clear hd
         go_simp
         exact hK _ _ (Below.refl _ _) rfl
        refine Oy.walk_q ?_ fun x83 => ?_
        ·intro w1 hb hd K hK
         obtain rfl : _ = x82 := Eq.symm (hd 21 (by kernel_rfl))
         obtain rfl : _ = x79 := Eq.symm (hd 18 (by kernel_rfl))
         clear hd
         go_simp
         exact hK _ _ (Below.refl _ _) rfl
        refine Oy.walk_q ?_ fun x84 => ?_
        ·intro w1 hb hd K hK
         obtain rfl : _ = x83 := Eq.symm (hd 22 (by kernel_rfl))
         clear hd
         go_simp
         exact hK _ _ (Below.refl _ _) rfl
        refine Oy.walk_q ?_ fun x85 => ?_
        ·intro w1 hb hd K hK
         obtain rfl : _ = x84 := Eq.symm (hd 23 (by kernel_rfl))
         obtain rfl : _ = x83 := Eq.symm (hd 22 (by kernel_rfl))
         clear hd
         go_simp
         exact hK _ _ (Below.refl _ _) rfl
        refine Oy.walk_q ?_ fun x86 => ?_
        ·intro w1 hb hd K hK
         obtain rfl : _ = x85 := Eq.symm (hd 24 (by kernel_rfl))
         obtain rfl : _ = x83 := Eq.symm (hd 22 (by kernel_rfl))
         clear hd
         go_simp
         exact hK _ _ (Below.refl _ _) rfl
        refine Oy.walk_q ?_ fun x87 => ?_
        ·intro w1 hb hd K hK
         obtain rfl : _ = x83 := Eq.symm (hd 22 (by kernel_rfl))
         obtain rfl : _ = x86 := Eq.symm (hd 25 (by kernel_rfl))
         obtain rfl : _ = x79 := Eq.symm (hd 18 (by kernel_rfl))
         clear hd
         go_simp
         exact hK _ _ (Below.refl _ _) rfl
        refine Oy.walk_q ?_ fun x88 => ?_
        ·intro w1 hb hd K hK
         obtain rfl : _ = x87 := Eq.symm (hd 26 (by kernel_rfl))
         obtain rfl : _ = x79 := Eq.symm (hd 18 (by kernel_rfl))
         clear hd
         go_simp
         exact hK _ _ (Below.refl _ _) rfl
        refine Oy.walk_q ?_ fun x89 => ?_
        ·intro w1 hb hd K hK
         obtain rfl : _ = x88 := Eq.symm (hd 27 (by kernel_rfl))
         clear hd
         go_simp
         exact hK _ _ (Below.refl _ _) rfl
        refine Oy.walk_q ?_ fun x90 => ?_
        ·intro w1 hb hd K hK
         obtain rfl : _ = x88 := Eq.symm (hd 27 (by kernel_rfl))
         clear hd
         go_simp
         exact hK _ _ (Below.refl _ _) rfl
        refine Oy.walk_q ?_ fun x91 => ?_
        ·intro w1 hb hd K hK
         obtain rfl : _ = x90 := Eq.symm (hd 29 (by kernel_rfl))
         obtain rfl : _ = x88 := Eq.symm (hd 27 (by kernel_rfl))
         clear hd
         go_simp
         exact hK _ _ (Below.refl _ _) rfl
        refine Oy.walk_q ?_ fun x92 => ?_
        ·intro w1 hb hd K hK
         obtain rfl : _ = x89 := Eq.symm (hd 28 (by kernel_rfl))
         obtain rfl : _ = x91 := Eq.symm (hd 30 (by kernel_rfl))
         obtain rfl : _ = x88 := Eq.symm (hd 27 (by kernel_rfl))
         clear hd
         go_simp
         exact hK _ _ (Below.refl _ _) rfl
        refine Oy.walk_q ?_ fun x93 => ?_
        ·intro w1 hb hd K hK
         obtain rfl : _ = x92 := Eq.symm (hd 31 (by kernel_rfl))
         obtain rfl : _ = x88 := Eq.symm (hd 27 (by kernel_rfl))
         clear hd
         go_simp
         exact hK _ _ (Below.refl _ _) rfl
        refine Oy.walk_q ?_ fun x94 => ?_
        ·intro w1 hb hd K hK
         obtain rfl : _ = x88 := Eq.symm (hd 27 (by kernel_rfl))
         obtain rfl : _ = x93 := Eq.symm (hd 32 (by kernel_rfl))
         obtain rfl : _ = x79 := Eq.symm (hd 18 (by kernel_rfl))
         clear hd
         go_simp
         exact hK _ _ (Below.refl _ _) rfl
        refine Oy.walk_q ?_ fun x95 => ?_
        ·intro w1 hb hd K hK
         obtain rfl : _ = x79 := Eq.symm (hd 18 (by kernel_rfl))
         obtain rfl : _ = x94 := Eq.symm (hd 33 (by kernel_rfl))
         clear hd
         go_simp
         exact hK _ _ (Below.refl _ _) rfl
        refine Oy.walk_nil rfl (fun w1 hb hd => ?_)
        obtain rfl : _ = x61 := Eq.symm (hd 0 (by kernel_rfl))
        obtain rfl : _ = x62 := Eq.symm (hd 1 (by kernel_rfl))
        obtain rfl : _ = x63 := Eq.symm (hd 2 (by kernel_rfl))
        obtain rfl : _ = x64 := Eq.symm (hd 3 (by kernel_rfl))
        obtain rfl : _ = x65 := Eq.symm (hd 4 (by kernel_rfl))
        obtain rfl : _ = x66 := Eq.symm (hd 5 (by kernel_rfl))
        obtain rfl : _ = x67 := Eq.symm (hd 6 (by kernel_rfl))
        obtain rfl : _ = x68 := Eq.symm (hd 7 (by kernel_rfl))
        obtain rfl : _ = x69 := Eq.symm (hd 8 (by kernel_rfl))
        obtain rfl : _ = x70 := Eq.symm (hd 9 (by kernel_rfl))
        obtain rfl : _ = x71 := Eq.symm (hd 10 (by kernel_rfl))
        obtain rfl : _ = x72 := Eq.symm (hd 11 (by kernel_rfl))
        obtain rfl : _ = x73 := Eq.symm (hd 12 (by kernel_rfl))
        obtain rfl : _ = x74 := Eq.symm (hd 13 (by kernel_rfl))
        obtain rfl : _ = x75 := Eq.symm (hd 14 (by kernel_rfl))
        obtain rfl : _ = x76 := Eq.symm (hd 15 (by kernel_rfl))
        obtain rfl : _ = x77 := Eq.symm (hd 16 (by kernel_rfl))
        obtain rfl : _ = x78 := Eq.symm (hd 17 (by kernel_rfl))
        obtain rfl : _ = x79 := Eq.symm (hd 18 (by kernel_rfl))
        obtain rfl : _ = x80 := Eq.symm (hd 19 (by kernel_rfl))
        obtain rfl : _ = x81 := Eq.symm (hd 20 (by kernel_rfl))
        obtain rfl : _ = x82 := Eq.symm (hd 21 (by kernel_rfl))
        obtain rfl : _ = x83 := Eq.symm (hd 22 (by kernel_rfl))
        obtain rfl : _ = x84 := Eq.symm (hd 23 (by kernel_rfl))
        obtain rfl : _ = x85 := Eq.symm (hd 24 (by kernel_rfl))
        obtain rfl : _ = x86 := Eq.symm (hd 25 (by kernel_rfl))
        obtain rfl : _ = x87 := Eq.symm (hd 26 (by kernel_rfl))
        obtain rfl : _ = x88 := Eq.symm (hd 27 (by kernel_rfl))
        obtain rfl : _ = x89 := Eq.symm (hd 28 (by kernel_rfl))
        obtain rfl : _ = x90 := Eq.symm (hd 29 (by kernel_rfl))
        obtain rfl : _ = x91 := Eq.symm (hd 30 (by kernel_rfl))
        obtain rfl : _ = x92 := Eq.symm (hd 31 (by kernel_rfl))
        obtain rfl : _ = x93 := Eq.symm (hd 32 (by kernel_rfl))
        obtain rfl : _ = x94 := Eq.symm (hd 33 (by kernel_rfl))
        obtain rfl : _ = x95 := Eq.symm (hd 34 (by kernel_rfl))
        clear hd
        have HBZ := Lib.hid (HBQ.out w1 hb)
        clear hb
        go_simp
        go_wp2
        go_roundw
        case rel => exact ⟨trivial, trivial, trivial, k + 1, by omega, by go_num, HBZ.out⟩
        case measure => simp [intOf]; omega
     ·go_wp2
      go_ret
      exact ⟨rfl, HCR.out⟩
 ·obtain ⟨ck, hckk⟩ : ∃ x, checkE c = x := ⟨_, rfl⟩
  rw [hckk] at hck ⊢
  have hck' : ¬ (0 : Int) = ck := fun e => hck e.symm
  clear hckk
  go_wp2
  go_ret
  exact ⟨rfl, HC4.out⟩
end Go.Proofs.YtkjkcgbmaojpiaaGreatDoor.Ch.Vd
