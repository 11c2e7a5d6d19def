/- Own texts, joined: Bu, Bv, Shel4. -/
import Derived.Test.YtdelihhbmagphaaGreatDoorR11
import Derived.Test.YtdelihhbmagphaaGreatDoorR19
import Derived.Test.YtdelihhbmagphaaGreatDoorR29
import Derived.Lib.AppendStr
import Derived.Lib.Builder
import Derived.Lib.UnsafeStr
import Derived.Shelf.Strings.Builder1
import Derived.Shelf.Strings.Builder2
import Derived.Shelf.Strings.OnBuilder
import Derived.Shelf.Small.Utf8
import Derived.Shelf.Small.Strs
import Derived.Shelf.Small.Wraps
import Derived.Shelf.Strings.BuilderF
import Derived.Shelf.Strings.BuilderK
import Derived.Shelf.Utf8.RuneCount
import Derived.Shelf.Strings.Builder2Cap
import Derived.Shelf.Strconv.Itoa0
import Derived.Shelf.Strconv.Itoa1
import Derived.Shelf.LaysM
import Derived.Shelf.Strconv.Itoa2
import Derived.Shelf.Strconv.Itoa3
import Derived.Shelf.Strconv.Itoa4
import Derived.Shelf.Strconv.ParseIntEmpty
import Derived.Shelf.Strconv.Clone
import Derived.Shelf.Strconv.SyntaxError
import Derived.Shelf.LaysC
import Derived.Shelf.Strconv.ToError
import Derived.Shelf.Strconv.Lower
import Derived.Shelf.Strconv.ParseUint10
import Derived.Shelf.Strconv.ParseUint10Empty
import Derived.Shelf.Strconv.ParseUint10Any
import Derived.Shelf.Strconv.ParseInt10
import Derived.Shelf.Strconv.RangeError
import Derived.Shelf.Strconv.ToErrorRange
import Derived.Shelf.Strconv.ParseUintEmpty
import Derived.Shelf.Strconv.ParseUint10b64
import Derived.Shelf.Strconv.ParseUint10b32
import Derived.Shelf.Strconv.ParseUint10b16
import Derived.Shelf.Strconv.ParseUint10b8
import Derived.Shelf.Strconv.ParseUint10At
import Derived.Shelf.Strconv.ParseInt10At64
import Derived.Shelf.Strconv.ParseInt10At32
import Derived.Shelf.Strconv.ParseInt10At16
import Derived.Shelf.Strconv.ParseInt10At8
import Derived.Shelf.Strconv.ParseInt10All
import Derived.Shelf.Strconv.ParseIntPublic10
import Derived.Shelf.Strconv.ErrVarParseInt
import Derived.Shelf.Strings.Search1
import Derived.Shelf.Strings.Search2
import Derived.Shelf.Strings.Search3
import Derived.Shelf.Strings.Cut
import Derived.Shelf.Strings.Count
import Derived.Shelf.Strings.Shaped
import Derived.Shelf.Strings.Prefix
import Derived.Shelf.Strings.Split
import Derived.Shelf.Strings.SplitShaped
import Derived.Shelf.Unicode.Decode
import Derived.Shelf.Strings.Runes
import Derived.Shelf.Strings.RuneCount
import Derived.Shelf.Strings.IndexAny
import Derived.Shelf.Strings.AsciiSet
import Derived.Shelf.Strings.IndexAnyAll
import Derived.Shelf.Strings.Explode
import Derived.Shelf.Bits.Mul64
import Derived.Shelf.Strings.Repeat
import Derived.Shelf.Strings.BuilderCap
import Derived.Shelf.Slices.Equal
import Derived.Shelf.Slices.Empties2
import Derived.Test.YtdelihhbmagphaaGreatDoorProg
namespace Go.Proofs.YtdelihhbmagphaaGreatDoor.Ch
open Go.RowKit
theorem own_len {w : World} {base : Nat} {e : TypeId} {size n : Nat} {v : Value} {xs : List Value} (h : w.ownsRow base e size v n xs) : n ≤ maxLen := by
 rcases own_form h with ⟨_, rfl⟩ | ⟨g, cap, _, h1, h2⟩
 ·exact Nat.zero_le _
 ·exact Nat.le_trans h1 h2
theorem BlkO.read {B : Nat} {w : World} {v : Value} {l : List AM} (h : BlkO B w v l) : BlkR w v l := by
 obtain ⟨al, h1, h2, h3⟩ := h
 exact ⟨al, h1, ⟨Inn.of_own h2, fun p hp => ⟨inn_rdI (Inn.of_own (h3 p hp).own), (h3 p hp).len, (h3 p hp).names, (h3 p hp).name⟩⟩, own_len h2⟩
theorem GdO.read {B : Nat} {w : World} {v : Value} {cs : List CM} (h : GdO B w v cs) : GdR w v cs := ⟨inn_rdI (Inn.of_own h.own), h.len⟩
theorem ChO.read {B : Nat} {w : World} {c : CH} {eV vV sV tV : Value} {sp : List SP} {tp : List TP} (h : ChO B w c eV vV sV tV sp tp) : ChM w c eV vV sV tV sp tp :=
 ⟨Inn.of_own h.es, Inn.of_own h.vs, h.ssE, Inn.of_own h.ss, h.tsE, Inn.of_own h.ts, fun p hp => ⟨(h.sd p hp).1.read, (h.sd p hp).2.read⟩, fun p hp => ⟨(h.td p hp).1.read, (h.td p hp).2.read⟩, own_len h.es, own_len h.vs, own_len h.ss, own_len h.ts⟩
set_option maxRecDepth 100000 in
set_option maxHeartbeats 8000000 in
theorem same_any (x y : CH) (xV2 xV3 xV4 xV5 yV2 yV3 yV4 yV5 : Value) (xsp ysp : List SP) (xtp ytp : List TP) (w : World) (hp : ChM w x xV2 xV3 xV4 xV5 xsp xtp) (hq : ChM w y yV2 yV3 yV4 yV5 ysp ytp) :
  Calls Tryz.prog 28 #[.agg #[bstr x.nm, xV2, xV3, xV4, xV5], .agg #[bstr y.nm, yV2, yV3, yV4, yV5]] w fun e w' => e = .returned (.bool (decide (x = y))) ∧ Below w.heap.size w w' := by
 obtain ⟨xnm, xes, xvs, xss, xts⟩ := x
 obtain ⟨ynm, yes, yvs, yss, yts⟩ := y
 have HP := Lib.hid hp; have HQ := Lib.hid hq
 obtain ⟨xAes, xces, xhes⟩ := Inn.form hp.es
 subst xhes
 obtain ⟨xAvs, xcvs, xhvs⟩ := Inn.form hp.vs
 subst xhvs
 obtain ⟨xAss, xcss, xhss⟩ := Inn.form hp.ss
 subst xhss
 obtain ⟨xAts, xcts, xhts⟩ := Inn.form hp.ts
 subst xhts
 obtain ⟨Xnm, xbnm, xlnm⟩ := bstr_some xnm
 obtain ⟨yAes, yces, yhes⟩ := Inn.form hq.es
 subst yhes
 obtain ⟨yAvs, ycvs, yhvs⟩ := Inn.form hq.vs
 subst yhvs
 obtain ⟨yAss, ycss, yhss⟩ := Inn.form hq.ss
 subst yhss
 obtain ⟨yAts, ycts, yhts⟩ := Inn.form hq.ts
 subst yhts
 obtain ⟨Ynm, ybnm, ylnm⟩ := bstr_some ynm
 try simp only at xbnm ybnm
 show Calls _ _ #[.agg #[bstr xnm, _, _, _, _], .agg #[bstr ynm, _, _, _, _]] w _
 rw [xbnm, ybnm]
 show Calls _ _ _ w _
 have HQes : Hid (∀ W, Below w.heap.size w W → Calls Tryz.prog 58 #[.slice xAes xes.length xces, .slice yAes yes.length yces] W fun e w' => e = .returned (.bool (decide (xes = yes))) ∧ Below W.heap.size W w') := fun W hW => by
  exact (equal_str _ _ xes yes W (hp.es.below hW) (hq.es.below hW) hp.el).mono fun _ _ ⟨h, n, hn⟩ => ⟨h, hn ▸ below_drewN (Below.refl _ _) n⟩
 show Calls _ _ _ w _
 have HQvs : Hid (∀ W, Below w.heap.size w W → Calls Tryz.prog 59 #[.slice xAvs xvs.length xcvs, .slice yAvs yvs.length ycvs] W fun e w' => e = .returned (.bool (decide (xvs = yvs))) ∧ Below W.heap.size W w') := fun W hW => by
  exact (equal_var _ _ xvs yvs W (hp.vs.below hW) (hq.vs.below hW) hp.vl).mono fun _ _ ⟨h, n, hn⟩ => ⟨h, hn ▸ below_drewN (Below.refl _ _) n⟩
 show Calls _ _ _ w _
 have HQss : Hid (∀ W, Below w.heap.size w W → Calls Tryz.prog 60 #[.slice xAss xsp.length xcss, .slice yAss ysp.length ycss, .func (.func 61) #[] #[]] W fun e w' => e = .returned (.bool (decide (xss = yss))) ∧ Below W.heap.size W w') := fun W hW => by
  have := eqStates_any _ _ xsp ysp W (hp.ss.below hW) (hq.ss.below hW) (fun p h => (hp.sd p h).below hW) (fun p h => (hq.sd p h).below hW) hp.sl
  rwa [hp.ssE, hq.ssE] at this
 show Calls _ _ _ w _
 have HQts : Hid (∀ W, Below w.heap.size w W → Calls Tryz.prog 62 #[.slice xAts xtp.length xcts, .slice yAts ytp.length ycts, .func (.func 63) #[] #[]] W fun e w' => e = .returned (.bool (decide (xts = yts))) ∧ Below W.heap.size W w') := fun W hW => by
  have := eqTranss_any _ _ xtp ytp W (hp.ts.below hW) (hq.ts.below hW) (fun p h => (hp.td p h).below hW) (fun p h => (hq.td p h).below hW) hp.tl
  rwa [hp.tsE, hq.tsE] at this
 have xHL := Lib.hid hp
 have yHL := Lib.hid hq
 clear hp hq HP HQ xHL yHL
 try simp only at *
 generalize xes.length = xnes at *
 generalize xvs.length = xnvs at *
 generalize xsp.length = xnss at *
 generalize xtp.length = xnts at *
 generalize yes.length = ynes at *
 generalize yvs.length = ynvs at *
 generalize ysp.length = ynss at *
 generalize ytp.length = ynts at *
 obtain ⟨w2, hw2⟩ : ∃ W, W = (w.alloc (.cells #[.string Xnm, .slice xAes xnes xces, .slice xAvs xnvs xcvs, .slice xAss xnss xcss, .slice xAts xnts xcts] 27)).alloc (.cells #[.string Ynm, .slice yAes ynes yces, .slice yAvs ynvs ycvs, .slice yAss ynss ycss, .slice yAts ynts ycts] 27) := ⟨_, rfl⟩
 have hb2 : Below w.heap.size w w2 := hw2 ▸ ((Below.refl _ _).alloc (Nat.le_refl _) _).alloc (by simp) _
 have hz2 : w2.heap.size = w.heap.size + 2 := by rw [hw2]; simp
 have xtes : w2.cell? ⟨w.heap.size, 1, none⟩ = some (.slice xAes xnes xces) := by rw [hw2]; simp
 have xtvs : w2.cell? ⟨w.heap.size, 2, none⟩ = some (.slice xAvs xnvs xcvs) := by rw [hw2]; simp
 have xtss : w2.cell? ⟨w.heap.size, 3, none⟩ = some (.slice xAss xnss xcss) := by rw [hw2]; simp
 have xtts : w2.cell? ⟨w.heap.size, 4, none⟩ = some (.slice xAts xnts xcts) := by rw [hw2]; simp
 have ytes : w2.cell? ⟨w.heap.size + 1, 1, none⟩ = some (.slice yAes ynes yces) := by rw [hw2]; simp
 have ytvs : w2.cell? ⟨w.heap.size + 1, 2, none⟩ = some (.slice yAvs ynvs ycvs) := by rw [hw2]; simp
 have ytss : w2.cell? ⟨w.heap.size + 1, 3, none⟩ = some (.slice yAss ynss ycss) := by rw [hw2]; simp
 have ytts : w2.cell? ⟨w.heap.size + 1, 4, none⟩ = some (.slice yAts ynts ycts) := by rw [hw2]; simp
 have HB2 := Lib.hid hb2; have HZ2 := Lib.hid hz2; have HW2 := Lib.hid hw2
 have xTes := Lib.hid xtes
 have xTvs := Lib.hid xtvs
 have xTss := Lib.hid xtss
 have xTts := Lib.hid xtts
 have yTes := Lib.hid ytes
 have yTvs := Lib.hid ytvs
 have yTss := Lib.hid ytss
 have yTts := Lib.hid ytts
 clear xtes xtvs xtss xtts ytes ytvs ytss ytts hb2 hz2 hw2
 by_cases hnm : xnm = ynm
 ·subst hnm
  obtain rfl : Xnm = Ynm := str_eq (by rw [xlnm, ylnm])
  by_cases hes : xes = yes
  ·have Hes := Lib.hid hes; clear hes
   by_cases hvs : xvs = yvs
   ·have Hvs := Lib.hid hvs; clear hvs
    by_cases hss : xss = yss
    ·have Hss := Lib.hid hss; clear hss
     by_cases hts : xts = yts
     ·have Hts := Lib.hid hts; clear hts
      have hd : decide (CH.mk xnm xes xvs xss xts = CH.mk xnm yes yvs yss yts) = true := decide_eq_true (by rw [Hes.out, Hvs.out, Hss.out, Hts.out])
      have HD := Lib.hid hd; clear hd xbnm xlnm
      go_enter Tryz.func28, Tryz.ntmps28
      go_wp2_with fail
      go_at_call 58
      rw [← HW2.out]
      refine (HQes.out _ (HB2.out)).mono ?_; rintro e w3 ⟨rfl, hb3⟩
      have hh3 : Below w2.heap.size w2 w3 := (Below.refl w2.heap.size w2).trans (hb3.mono (Below.size (Below.refl w2.heap.size w2)))
      have xu0vs : World.cell? w3 ⟨w.heap.size, 2, none⟩ = some (.slice xAvs xnvs xcvs) := (Below.cell hh3 (p := ⟨w.heap.size, 2, none⟩) (by show w.heap.size < w2.heap.size; rw [HZ2.out]; omega)).trans xTvs.out
      have xu0ss : World.cell? w3 ⟨w.heap.size, 3, none⟩ = some (.slice xAss xnss xcss) := (Below.cell hh3 (p := ⟨w.heap.size, 3, none⟩) (by show w.heap.size < w2.heap.size; rw [HZ2.out]; omega)).trans xTss.out
      have xu0ts : World.cell? w3 ⟨w.heap.size, 4, none⟩ = some (.slice xAts xnts xcts) := (Below.cell hh3 (p := ⟨w.heap.size, 4, none⟩) (by show w.heap.size < w2.heap.size; rw [HZ2.out]; omega)).trans xTts.out
      have yu0vs : World.cell? w3 ⟨w.heap.size + 1, 2, none⟩ = some (.slice yAvs ynvs ycvs) := (Below.cell hh3 (p := ⟨w.heap.size + 1, 2, none⟩) (by show w.heap.size + 1 < w2.heap.size; rw [HZ2.out]; omega)).trans yTvs.out
      have yu0ss : World.cell? w3 ⟨w.heap.size + 1, 3, none⟩ = some (.slice yAss ynss ycss) := (Below.cell hh3 (p := ⟨w.heap.size + 1, 3, none⟩) (by show w.heap.size + 1 < w2.heap.size; rw [HZ2.out]; omega)).trans yTss.out
      have yu0ts : World.cell? w3 ⟨w.heap.size + 1, 4, none⟩ = some (.slice yAts ynts ycts) := (Below.cell hh3 (p := ⟨w.heap.size + 1, 4, none⟩) (by show w.heap.size + 1 < w2.heap.size; rw [HZ2.out]; omega)).trans yTts.out
      rw [decide_eq_true Hes.out]
      go_wp2_with fail
      go_at_call 59
      refine (HQvs.out _ (((HB2.out).trans (hb3.mono (Below.size (HB2.out)))))).mono ?_; rintro e w4 ⟨rfl, hb4⟩
      have hh4 : Below w2.heap.size w2 w4 := hh3.trans (hb4.mono (Below.size hh3))
      have xu1ss : World.cell? w4 ⟨w.heap.size, 3, none⟩ = some (.slice xAss xnss xcss) := (Below.cell hh4 (p := ⟨w.heap.size, 3, none⟩) (by show w.heap.size < w2.heap.size; rw [HZ2.out]; omega)).trans xTss.out
      have xu1ts : World.cell? w4 ⟨w.heap.size, 4, none⟩ = some (.slice xAts xnts xcts) := (Below.cell hh4 (p := ⟨w.heap.size, 4, none⟩) (by show w.heap.size < w2.heap.size; rw [HZ2.out]; omega)).trans xTts.out
      have yu1ss : World.cell? w4 ⟨w.heap.size + 1, 3, none⟩ = some (.slice yAss ynss ycss) := (Below.cell hh4 (p := ⟨w.heap.size + 1, 3, none⟩) (by show w.heap.size + 1 < w2.heap.size; rw [HZ2.out]; omega)).trans yTss.out
      have yu1ts : World.cell? w4 ⟨w.heap.size + 1, 4, none⟩ = some (.slice yAts ynts ycts) := (Below.cell hh4 (p := ⟨w.heap.size + 1, 4, none⟩) (by show w.heap.size + 1 < w2.heap.size; rw [HZ2.out]; omega)).trans yTts.out
      rw [decide_eq_true Hvs.out]
      go_wp2_with fail
      go_at_call 60
      refine (HQss.out _ (((((HB2.out).trans (hb3.mono (Below.size (HB2.out))))).trans (hb4.mono (Below.size (((HB2.out).trans (hb3.mono (Below.size (HB2.out)))))))))).mono ?_; rintro e w5 ⟨rfl, hb5⟩
      have hh5 : Below w2.heap.size w2 w5 := hh4.trans (hb5.mono (Below.size hh4))
      have xu2ts : World.cell? w5 ⟨w.heap.size, 4, none⟩ = some (.slice xAts xnts xcts) := (Below.cell hh5 (p := ⟨w.heap.size, 4, none⟩) (by show w.heap.size < w2.heap.size; rw [HZ2.out]; omega)).trans xTts.out
      have yu2ts : World.cell? w5 ⟨w.heap.size + 1, 4, none⟩ = some (.slice yAts ynts ycts) := (Below.cell hh5 (p := ⟨w.heap.size + 1, 4, none⟩) (by show w.heap.size + 1 < w2.heap.size; rw [HZ2.out]; omega)).trans yTts.out
      rw [decide_eq_true Hss.out]
      go_wp2_with fail
      go_at_call 62
      refine (HQts.out _ (((((((HB2.out).trans (hb3.mono (Below.size (HB2.out))))).trans (hb4.mono (Below.size (((HB2.out).trans (hb3.mono (Below.size (HB2.out))))))))).trans (hb5.mono (Below.size (((((HB2.out).trans (hb3.mono (Below.size (HB2.out))))).trans (hb4.mono (Below.size (((HB2.out).trans (hb3.mono (Below.size (HB2.out)))))))))))))).mono ?_; rintro e w6 ⟨rfl, hb6⟩
      have hh6 : Below w2.heap.size w2 w6 := hh5.trans (hb6.mono (Below.size hh5))
      rw [decide_eq_true Hts.out]
      go_wp2
      go_ret
      exact ⟨by rw [HD.out]; rfl, ((((((((HB2.out).trans (hb3.mono (Below.size (HB2.out))))).trans (hb4.mono (Below.size (((HB2.out).trans (hb3.mono (Below.size (HB2.out))))))))).trans (hb5.mono (Below.size (((((HB2.out).trans (hb3.mono (Below.size (HB2.out))))).trans (hb4.mono (Below.size (((HB2.out).trans (hb3.mono (Below.size (HB2.out))))))))))))).trans (hb6.mono (Below.size (((((((HB2.out).trans (hb3.mono (Below.size (HB2.out))))).trans (hb4.mono (Below.size (((HB2.out).trans (hb3.mono (Below.size (HB2.out))))))))).trans (hb5.mono (Below.size (((((HB2.out).trans (hb3.mono (Below.size (HB2.out))))).trans (hb4.mono (Below.size (((HB2.out).trans (hb3.mono (Below.size (HB2.out))))))))))))))))⟩
     ·have hd : decide (CH.mk xnm xes xvs xss xts = CH.mk xnm yes yvs yss yts) = false := decide_eq_false (fun e => hts (by injection e))
      have Hts := Lib.hid hts; clear hts
      have HD := Lib.hid hd; clear hd xbnm xlnm
      go_enter Tryz.func28, Tryz.ntmps28
      go_wp2_with fail
      go_at_call 58
      rw [← HW2.out]
      refine (HQes.out _ (HB2.out)).mono ?_; rintro e w3 ⟨rfl, hb3⟩
      have hh3 : Below w2.heap.size w2 w3 := (Below.refl w2.heap.size w2).trans (hb3.mono (Below.size (Below.refl w2.heap.size w2)))
      have xu0vs : World.cell? w3 ⟨w.heap.size, 2, none⟩ = some (.slice xAvs xnvs xcvs) := (Below.cell hh3 (p := ⟨w.heap.size, 2, none⟩) (by show w.heap.size < w2.heap.size; rw [HZ2.out]; omega)).trans xTvs.out
      have xu0ss : World.cell? w3 ⟨w.heap.size, 3, none⟩ = some (.slice xAss xnss xcss) := (Below.cell hh3 (p := ⟨w.heap.size, 3, none⟩) (by show w.heap.size < w2.heap.size; rw [HZ2.out]; omega)).trans xTss.out
      have xu0ts : World.cell? w3 ⟨w.heap.size, 4, none⟩ = some (.slice xAts xnts xcts) := (Below.cell hh3 (p := ⟨w.heap.size, 4, none⟩) (by show w.heap.size < w2.heap.size; rw [HZ2.out]; omega)).trans xTts.out
      have yu0vs : World.cell? w3 ⟨w.heap.size + 1, 2, none⟩ = some (.slice yAvs ynvs ycvs) := (Below.cell hh3 (p := ⟨w.heap.size + 1, 2, none⟩) (by show w.heap.size + 1 < w2.heap.size; rw [HZ2.out]; omega)).trans yTvs.out
      have yu0ss : World.cell? w3 ⟨w.heap.size + 1, 3, none⟩ = some (.slice yAss ynss ycss) := (Below.cell hh3 (p := ⟨w.heap.size + 1, 3, none⟩) (by show w.heap.size + 1 < w2.heap.size; rw [HZ2.out]; omega)).trans yTss.out
      have yu0ts : World.cell? w3 ⟨w.heap.size + 1, 4, none⟩ = some (.slice yAts ynts ycts) := (Below.cell hh3 (p := ⟨w.heap.size + 1, 4, none⟩) (by show w.heap.size + 1 < w2.heap.size; rw [HZ2.out]; omega)).trans yTts.out
      rw [decide_eq_true Hes.out]
      go_wp2_with fail
      go_at_call 59
      refine (HQvs.out _ (((HB2.out).trans (hb3.mono (Below.size (HB2.out)))))).mono ?_; rintro e w4 ⟨rfl, hb4⟩
      have hh4 : Below w2.heap.size w2 w4 := hh3.trans (hb4.mono (Below.size hh3))
      have xu1ss : World.cell? w4 ⟨w.heap.size, 3, none⟩ = some (.slice xAss xnss xcss) := (Below.cell hh4 (p := ⟨w.heap.size, 3, none⟩) (by show w.heap.size < w2.heap.size; rw [HZ2.out]; omega)).trans xTss.out
      have xu1ts : World.cell? w4 ⟨w.heap.size, 4, none⟩ = some (.slice xAts xnts xcts) := (Below.cell hh4 (p := ⟨w.heap.size, 4, none⟩) (by show w.heap.size < w2.heap.size; rw [HZ2.out]; omega)).trans xTts.out
      have yu1ss : World.cell? w4 ⟨w.heap.size + 1, 3, none⟩ = some (.slice yAss ynss ycss) := (Below.cell hh4 (p := ⟨w.heap.size + 1, 3, none⟩) (by show w.heap.size + 1 < w2.heap.size; rw [HZ2.out]; omega)).trans yTss.out
      have yu1ts : World.cell? w4 ⟨w.heap.size + 1, 4, none⟩ = some (.slice yAts ynts ycts) := (Below.cell hh4 (p := ⟨w.heap.size + 1, 4, none⟩) (by show w.heap.size + 1 < w2.heap.size; rw [HZ2.out]; omega)).trans yTts.out
      rw [decide_eq_true Hvs.out]
      go_wp2_with fail
      go_at_call 60
      refine (HQss.out _ (((((HB2.out).trans (hb3.mono (Below.size (HB2.out))))).trans (hb4.mono (Below.size (((HB2.out).trans (hb3.mono (Below.size (HB2.out)))))))))).mono ?_; rintro e w5 ⟨rfl, hb5⟩
      have hh5 : Below w2.heap.size w2 w5 := hh4.trans (hb5.mono (Below.size hh4))
      have xu2ts : World.cell? w5 ⟨w.heap.size, 4, none⟩ = some (.slice xAts xnts xcts) := (Below.cell hh5 (p := ⟨w.heap.size, 4, none⟩) (by show w.heap.size < w2.heap.size; rw [HZ2.out]; omega)).trans xTts.out
      have yu2ts : World.cell? w5 ⟨w.heap.size + 1, 4, none⟩ = some (.slice yAts ynts ycts) := (Below.cell hh5 (p := ⟨w.heap.size + 1, 4, none⟩) (by show w.heap.size + 1 < w2.heap.size; rw [HZ2.out]; omega)).trans yTts.out
      rw [decide_eq_true Hss.out]
      go_wp2_with fail
      go_at_call 62
      refine (HQts.out _ (((((((HB2.out).trans (hb3.mono (Below.size (HB2.out))))).trans (hb4.mono (Below.size (((HB2.out).trans (hb3.mono (Below.size (HB2.out))))))))).trans (hb5.mono (Below.size (((((HB2.out).trans (hb3.mono (Below.size (HB2.out))))).trans (hb4.mono (Below.size (((HB2.out).trans (hb3.mono (Below.size (HB2.out)))))))))))))).mono ?_; rintro e w6 ⟨rfl, hb6⟩
      have hh6 : Below w2.heap.size w2 w6 := hh5.trans (hb6.mono (Below.size hh5))
      rw [decide_eq_false Hts.out]
      go_wp2
      go_ret
      exact ⟨by rw [HD.out]; rfl, ((((((((HB2.out).trans (hb3.mono (Below.size (HB2.out))))).trans (hb4.mono (Below.size (((HB2.out).trans (hb3.mono (Below.size (HB2.out))))))))).trans (hb5.mono (Below.size (((((HB2.out).trans (hb3.mono (Below.size (HB2.out))))).trans (hb4.mono (Below.size (((HB2.out).trans (hb3.mono (Below.size (HB2.out))))))))))))).trans (hb6.mono (Below.size (((((((HB2.out).trans (hb3.mono (Below.size (HB2.out))))).trans (hb4.mono (Below.size (((HB2.out).trans (hb3.mono (Below.size (HB2.out))))))))).trans (hb5.mono (Below.size (((((HB2.out).trans (hb3.mono (Below.size (HB2.out))))).trans (hb4.mono (Below.size (((HB2.out).trans (hb3.mono (Below.size (HB2.out))))))))))))))))⟩
    ·have hd : decide (CH.mk xnm xes xvs xss xts = CH.mk xnm yes yvs yss yts) = false := decide_eq_false (fun e => hss (by injection e))
     have Hss := Lib.hid hss; clear hss
     have HD := Lib.hid hd; clear hd xbnm xlnm
     go_enter Tryz.func28, Tryz.ntmps28
     go_wp2_with fail
     go_at_call 58
     rw [← HW2.out]
     refine (HQes.out _ (HB2.out)).mono ?_; rintro e w3 ⟨rfl, hb3⟩
     have hh3 : Below w2.heap.size w2 w3 := (Below.refl w2.heap.size w2).trans (hb3.mono (Below.size (Below.refl w2.heap.size w2)))
     have xu0vs : World.cell? w3 ⟨w.heap.size, 2, none⟩ = some (.slice xAvs xnvs xcvs) := (Below.cell hh3 (p := ⟨w.heap.size, 2, none⟩) (by show w.heap.size < w2.heap.size; rw [HZ2.out]; omega)).trans xTvs.out
     have xu0ss : World.cell? w3 ⟨w.heap.size, 3, none⟩ = some (.slice xAss xnss xcss) := (Below.cell hh3 (p := ⟨w.heap.size, 3, none⟩) (by show w.heap.size < w2.heap.size; rw [HZ2.out]; omega)).trans xTss.out
     have xu0ts : World.cell? w3 ⟨w.heap.size, 4, none⟩ = some (.slice xAts xnts xcts) := (Below.cell hh3 (p := ⟨w.heap.size, 4, none⟩) (by show w.heap.size < w2.heap.size; rw [HZ2.out]; omega)).trans xTts.out
     have yu0vs : World.cell? w3 ⟨w.heap.size + 1, 2, none⟩ = some (.slice yAvs ynvs ycvs) := (Below.cell hh3 (p := ⟨w.heap.size + 1, 2, none⟩) (by show w.heap.size + 1 < w2.heap.size; rw [HZ2.out]; omega)).trans yTvs.out
     have yu0ss : World.cell? w3 ⟨w.heap.size + 1, 3, none⟩ = some (.slice yAss ynss ycss) := (Below.cell hh3 (p := ⟨w.heap.size + 1, 3, none⟩) (by show w.heap.size + 1 < w2.heap.size; rw [HZ2.out]; omega)).trans yTss.out
     have yu0ts : World.cell? w3 ⟨w.heap.size + 1, 4, none⟩ = some (.slice yAts ynts ycts) := (Below.cell hh3 (p := ⟨w.heap.size + 1, 4, none⟩) (by show w.heap.size + 1 < w2.heap.size; rw [HZ2.out]; omega)).trans yTts.out
     rw [decide_eq_true Hes.out]
     go_wp2_with fail
     go_at_call 59
     refine (HQvs.out _ (((HB2.out).trans (hb3.mono (Below.size (HB2.out)))))).mono ?_; rintro e w4 ⟨rfl, hb4⟩
     have hh4 : Below w2.heap.size w2 w4 := hh3.trans (hb4.mono (Below.size hh3))
     have xu1ss : World.cell? w4 ⟨w.heap.size, 3, none⟩ = some (.slice xAss xnss xcss) := (Below.cell hh4 (p := ⟨w.heap.size, 3, none⟩) (by show w.heap.size < w2.heap.size; rw [HZ2.out]; omega)).trans xTss.out
     have xu1ts : World.cell? w4 ⟨w.heap.size, 4, none⟩ = some (.slice xAts xnts xcts) := (Below.cell hh4 (p := ⟨w.heap.size, 4, none⟩) (by show w.heap.size < w2.heap.size; rw [HZ2.out]; omega)).trans xTts.out
     have yu1ss : World.cell? w4 ⟨w.heap.size + 1, 3, none⟩ = some (.slice yAss ynss ycss) := (Below.cell hh4 (p := ⟨w.heap.size + 1, 3, none⟩) (by show w.heap.size + 1 < w2.heap.size; rw [HZ2.out]; omega)).trans yTss.out
     have yu1ts : World.cell? w4 ⟨w.heap.size + 1, 4, none⟩ = some (.slice yAts ynts ycts) := (Below.cell hh4 (p := ⟨w.heap.size + 1, 4, none⟩) (by show w.heap.size + 1 < w2.heap.size; rw [HZ2.out]; omega)).trans yTts.out
     rw [decide_eq_true Hvs.out]
     go_wp2_with fail
     go_at_call 60
     refine (HQss.out _ (((((HB2.out).trans (hb3.mono (Below.size (HB2.out))))).trans (hb4.mono (Below.size (((HB2.out).trans (hb3.mono (Below.size (HB2.out)))))))))).mono ?_; rintro e w5 ⟨rfl, hb5⟩
     have hh5 : Below w2.heap.size w2 w5 := hh4.trans (hb5.mono (Below.size hh4))
     rw [decide_eq_false Hss.out]
     go_wp2
     go_ret
     exact ⟨by rw [HD.out]; rfl, ((((((HB2.out).trans (hb3.mono (Below.size (HB2.out))))).trans (hb4.mono (Below.size (((HB2.out).trans (hb3.mono (Below.size (HB2.out))))))))).trans (hb5.mono (Below.size (((((HB2.out).trans (hb3.mono (Below.size (HB2.out))))).trans (hb4.mono (Below.size (((HB2.out).trans (hb3.mono (Below.size (HB2.out))))))))))))⟩
   ·have hd : decide (CH.mk xnm xes xvs xss xts = CH.mk xnm yes yvs yss yts) = false := decide_eq_false (fun e => hvs (by injection e))
    have Hvs := Lib.hid hvs; clear hvs
    have HD := Lib.hid hd; clear hd xbnm xlnm
    go_enter Tryz.func28, Tryz.ntmps28
    go_wp2_with fail
    go_at_call 58
    rw [← HW2.out]
    refine (HQes.out _ (HB2.out)).mono ?_; rintro e w3 ⟨rfl, hb3⟩
    have hh3 : Below w2.heap.size w2 w3 := (Below.refl w2.heap.size w2).trans (hb3.mono (Below.size (Below.refl w2.heap.size w2)))
    have xu0vs : World.cell? w3 ⟨w.heap.size, 2, none⟩ = some (.slice xAvs xnvs xcvs) := (Below.cell hh3 (p := ⟨w.heap.size, 2, none⟩) (by show w.heap.size < w2.heap.size; rw [HZ2.out]; omega)).trans xTvs.out
    have xu0ss : World.cell? w3 ⟨w.heap.size, 3, none⟩ = some (.slice xAss xnss xcss) := (Below.cell hh3 (p := ⟨w.heap.size, 3, none⟩) (by show w.heap.size < w2.heap.size; rw [HZ2.out]; omega)).trans xTss.out
    have xu0ts : World.cell? w3 ⟨w.heap.size, 4, none⟩ = some (.slice xAts xnts xcts) := (Below.cell hh3 (p := ⟨w.heap.size, 4, none⟩) (by show w.heap.size < w2.heap.size; rw [HZ2.out]; omega)).trans xTts.out
    have yu0vs : World.cell? w3 ⟨w.heap.size + 1, 2, none⟩ = some (.slice yAvs ynvs ycvs) := (Below.cell hh3 (p := ⟨w.heap.size + 1, 2, none⟩) (by show w.heap.size + 1 < w2.heap.size; rw [HZ2.out]; omega)).trans yTvs.out
    have yu0ss : World.cell? w3 ⟨w.heap.size + 1, 3, none⟩ = some (.slice yAss ynss ycss) := (Below.cell hh3 (p := ⟨w.heap.size + 1, 3, none⟩) (by show w.heap.size + 1 < w2.heap.size; rw [HZ2.out]; omega)).trans yTss.out
    have yu0ts : World.cell? w3 ⟨w.heap.size + 1, 4, none⟩ = some (.slice yAts ynts ycts) := (Below.cell hh3 (p := ⟨w.heap.size + 1, 4, none⟩) (by show w.heap.size + 1 < w2.heap.size; rw [HZ2.out]; omega)).trans yTts.out
    rw [decide_eq_true Hes.out]
    go_wp2_with fail
    go_at_call 59
    refine (HQvs.out _ (((HB2.out).trans (hb3.mono (Below.size (HB2.out)))))).mono ?_; rintro e w4 ⟨rfl, hb4⟩
    have hh4 : Below w2.heap.size w2 w4 := hh3.trans (hb4.mono (Below.size hh3))
    rw [decide_eq_false Hvs.out]
    go_wp2
    go_ret
    exact ⟨by rw [HD.out]; rfl, ((((HB2.out).trans (hb3.mono (Below.size (HB2.out))))).trans (hb4.mono (Below.size (((HB2.out).trans (hb3.mono (Below.size (HB2.out))))))))⟩
  ·have hd : decide (CH.mk xnm xes xvs xss xts = CH.mk xnm yes yvs yss yts) = false := decide_eq_false (fun e => hes (by injection e))
   have Hes := Lib.hid hes; clear hes
   have HD := Lib.hid hd; clear hd xbnm xlnm
   go_enter Tryz.func28, Tryz.ntmps28
   go_wp2_with fail
   go_at_call 58
   rw [← HW2.out]
   refine (HQes.out _ (HB2.out)).mono ?_; rintro e w3 ⟨rfl, hb3⟩
   have hh3 : Below w2.heap.size w2 w3 := (Below.refl w2.heap.size w2).trans (hb3.mono (Below.size (Below.refl w2.heap.size w2)))
   rw [decide_eq_false Hes.out]
   go_wp2
   go_ret
   exact ⟨by rw [HD.out]; rfl, ((HB2.out).trans (hb3.mono (Below.size (HB2.out))))⟩
 ·have hd : decide (CH.mk xnm xes xvs xss xts = CH.mk ynm yes yvs yss yts) = false := decide_eq_false (fun e => hnm (by injection e))
  have hn0 : Xnm.data.toList ≠ Ynm.data.toList := by rw [xlnm, ylnm]; exact hnm
  have hne := str_ne hn0; have hne' := str_ne (Ne.symm hn0)
  clear hn0 hnm
  have HD := Lib.hid hd; clear hd xbnm xlnm ybnm ylnm
  go_enter Tryz.func28, Tryz.ntmps28
  go_wp2
  go_ret
  rw [← HW2.out]
  exact ⟨by rw [HD.out]; rfl, HB2.out⟩
end Go.Proofs.YtdelihhbmagphaaGreatDoor.Ch
namespace Go.Proofs.YtdelihhbmagphaaGreatDoor.Ch
open Go.RowKit
def byteV (l : List UInt8) : List Value := l.map fun c => .int .u8 c.toNat
theorem byteV_append (a b : List UInt8) : byteV (a ++ b) = byteV a ++ byteV b := by simp [byteV]
structure Wr (b B : Nat) (w : World) (l : List UInt8) : Prop where
 box : ∃ p v, (p = .pointer none ∨ p = .pointer (some ⟨b, 0, none⟩)) ∧ w.heap[b]? = some (.cells #[p, v] 78 (0, 0)) ∧ w.ownsRow B 5 1 v l.length (byteV l) ∧ (l = [] → v = .slice none 0 0)
 lt : b < B
 le : B ≤ w.heap.size
theorem Wr.below {b B : Nat} {w w' : World} {l : List UInt8} (h : Wr b B w l) (hb : Below w.heap.size w w') : Wr b B w' l := by
 obtain ⟨p, v, h1, h2, h3, h4⟩ := h.box
 exact ⟨⟨p, v, h1, (hb.block b (lt_of_heap h2)).trans h2, own_below h3 hb, h4⟩, h.lt, Nat.le_trans h.le hb.size⟩
def KeptU (b : Nat) (w w' : World) : Prop := ∀ (k : Nat) (cur : Array Value) (t : TypeId) (z : Nat × Nat), k ≠ b → t ≠ 5 → w.heap[k]? = some (Obj.cells cur t z) → w'.heap[k]? = some (Obj.cells cur t z)
theorem KeptU.refl (b : Nat) (w : World) : KeptU b w w := fun _ _ _ _ _ _ h => h
theorem KeptU.trans {b : Nat} {x y z : World} (h : KeptU b x y) (k : KeptU b y z) : KeptU b x z := fun i cur t q h1 h2 h3 => k i cur t q h1 h2 (h i cur t q h1 h2 h3)
theorem KeptU.of_below {b : Nat} {w w' : World} (h : Below w.heap.size w w') : KeptU b w w' := fun k _ _ _ _ _ hk => (h.block k (lt_of_heap hk)).trans hk
theorem KeptU.of_grown {b : Nat} {w w' : World} {row : Option Nat} (h : w.grownBy w' row) (hr : ∀ g, row = some g → g = b ∨ ∃ (cur : Array Value) (z : Nat × Nat), w.heap[g]? = some (.cells cur 5 z)) : KeptU b w w' := fun k cur t z h1 h2 hk =>
 (h.block k (lt_of_heap hk) (fun e => by
  rcases hr k e.symm with h3 | ⟨_, _, h3⟩
  ·exact h1 h3
  ·rw [h3] at hk; cases hk; exact h2 rfl)).trans hk
theorem KeptU.own {b B : Nat} {w w' : World} {e : TypeId} {size n : Nat} {v : Value} {xs : List Value} (hk : KeptU b w w') {x : Array Value} {t : TypeId} {z : Nat × Nat} (hb : w.heap[b]? = some (.cells x t z)) (hte : t ≠ e) (he : e ≠ 5) (h : w.ownsRow B e size v n xs) : w'.ownsRow B e size v n xs := by
 obtain ⟨h0, h | ⟨g, cap, cur, h1, h2, h3, h4⟩⟩ := h
 ·exact ⟨h0, Or.inl h⟩
 ·refine ⟨h0, Or.inr ⟨g, cap, cur, h1, h2, hk g cur e _ (fun e' => ?_) he h3, h4⟩⟩
  subst e'
  rw [hb] at h3
  cases h3
  exact hte rfl
set_option maxRecDepth 100000 in
set_option maxHeartbeats 4000000 in
theorem check_any {b B : Nat} {w : World} {l : List UInt8} (h : Wr b B w l) : Calls Tryz.prog 129 #[.pointer (some ⟨b, 0, none⟩)] w fun e w' => e = .returned (.tuple #[]) ∧ ∃ v, w'.heap[b]? = some (.cells #[.pointer (some ⟨b, 0, none⟩), v] 78 (0, 0)) ∧ w'.ownsRow B 5 1 v l.length (byteV l) ∧ (l = [] → v = .slice none 0 0) ∧ KeptB b B w w' ∧ KeptU b w w' := by
 obtain ⟨p, v, hp, hb, hr, hnl⟩ := h.box
 have HNL := Lib.hid hnl; clear hnl
 have c0 : w.cell? ⟨b, 0, none⟩ = some p := by simp [World.cell?, hb]
 have f0 : w.frozen? ⟨b, 0, none⟩ = false := by simp [World.frozen?, hb]
 have s0 : w.shape? b = some (78, 2) := by simp [World.shape?, hb]
 obtain ⟨j, hj, hjs⟩ : ∃ j, Tryz.prog.info? 76 = some j ∧ j.size = 2 := Option.map_eq_some_iff.1 (show (Tryz.prog.info? 76).map (·.size) = some 2 by kernel_rfl)
 have hto := Lib.run_to_unsafe (P := Tryz.prog) w ⟨b, 0, none⟩ Tryz.underlying73 Tryz.underlying214 hj (by rw [hjs]; decide) s0 (by show 0 < 2; decide)
 have hfrom := Lib.run_from_unsafe (P := Tryz.prog) w ⟨b, 0, none⟩ Tryz.underlying214 Tryz.underlying73 hj s0 (by kernel_rfl)
 rcases hp with rfl | rfl
 ·have hk : KeptB b B w (w.setCell ⟨b, 0, none⟩ (.pointer (some ⟨b, 0, none⟩))) := KeptB.of_grown (grownBy_setCell' w b _) h.le (fun g e => Or.inl (by cases e; rfl)) (fun g e => by cases e; exact ⟨_, _, _, hb⟩)
  have hr2 := own_kept_ne hr (grownBy_setCell' w b (.pointer (some ⟨b, 0, none⟩))) hb (by decide)
  have HK := Lib.hid hk; have HR := Lib.hid hr2; have HZ := Lib.hid (setCell_row (j := 0) hb (.pointer (some ⟨b, 0, none⟩)))
  clear hk hr2 hr hb
  go_enter Tryz.func129, Tryz.ntmps129
  go_wp2
  rw [run_callFunc_extern Tryz.func163 (by kernel_rfl) (by kernel_rfl) (by kernel_rfl) (e := Extern.AbiNoEscape.same) (by kernel_rfl)]
  rw [Lib.run_noEscape]
  simp only [Result.andThen]
  rw [Oper.upon_value]
  go_wp2
  go_end0
  exact ⟨rfl, v, HZ.out, HR.out, HNL.out, HK.out, KeptU.of_grown (grownBy_setCell' w b _) (fun g e => Or.inl (by cases e; rfl))⟩
 ·have HB := Lib.hid hb; have HR := Lib.hid hr
  clear hb hr
  go_enter Tryz.func129, Tryz.ntmps129
  go_wp2
  rw [Lib.run_neq_ptr_same w _ Tryz.underlying73 hj]
  go_wp2
  go_end0
  exact ⟨rfl, v, HB.out, HR.out, HNL.out, KeptB.refl _ _ _, KeptU.refl _ _⟩
theorem len_any {b B : Nat} {w : World} {l : List UInt8} (h : Wr b B w l) : Calls Tryz.prog 92 #[.pointer (some ⟨b, 0, none⟩)] w fun e w' => e = .returned (.int .i64 (l.length : Nat)) ∧ w' = w := by
 obtain ⟨p, v, _, hb, hr, _⟩ := h.box
 obtain ⟨A, c, rfl⟩ := own_slice hr
 have c1 : w.cell? ⟨b, 1, none⟩ = some (.slice A l.length c) := by simp [World.cell?, hb]
 clear hr hb h
 go_enter Tryz.func92, Tryz.ntmps92
 go_wp2
 go_ret
 exact ⟨rfl, rfl⟩
set_option maxRecDepth 100000 in
set_option maxHeartbeats 4000000 in
theorem write_any {b B : Nat} {w : World} {l : List UInt8} (h : Wr b B w l) (s : ByteArray) (hs : l.length + s.size ≤ 1000000) : Calls Tryz.prog 93 #[.pointer (some ⟨b, 0, none⟩), .string s] w fun e w' => e = .returned (.tuple #[.int .i64 s.size, .nilIface]) ∧ Wr b B w' (l ++ s.data.toList) ∧ KeptB b B w w' ∧ KeptU b w w' := by
 obtain ⟨i0, hi, hz0, hz1, hz2⟩ := info_parts (show (Tryz.prog.info? 5).map (fun i => (i.zero, i.size, i.bytes)) = some (some (.int .u8 0), 1, 1) by kernel_rfl)
 have HC := Lib.hid (check_any h)
 have HLT := Lib.hid h.lt; have HLE := Lib.hid h.le
 have HI := Lib.hid hi; have HZ0 := Lib.hid hz0; have HZ1 := Lib.hid hz1; have HZ2 := Lib.hid hz2
 clear h hi hz0 hz1 hz2
 go_enter Tryz.func93, Tryz.ntmps93
 go_wp2_with (go_at_call 129; refine HC.out.mono ?_)
 rintro e w1 ⟨rfl, v, hb1, hr1, hn1, hk1, hu1⟩
 have HU1 := Lib.hid hu1; clear hu1
 obtain ⟨A, c, rfl⟩ := own_slice hr1
 have HN1 := Lib.hid hn1; clear hn1
 have hle1 := Nat.le_trans HLE.out hk1.size
 have c1 : w1.cell? ⟨b, 1, none⟩ = some (.slice A l.length c) := by simp [World.cell?, hb1]
 have f1 : w1.frozen? ⟨b, 1, none⟩ = false := by simp [World.frozen?, hb1]
 have HB1 := Lib.hid hb1; have HR1 := Lib.hid hr1; have HK1 := Lib.hid hk1; have HLE1 := Lib.hid hle1
 clear hb1 hr1 hk1 hle1
 go_wp2_with (at_builtin; refine Lib.wpList_append_own_string _ rfl _ _ 74 9 rfl B 5 i0 Tryz.underlying74 Tryz.underlying9 HI.out HZ0.out HZ1.out HZ2.out _ _ _ rfl HR1.out s rfl (by unfold maxLen; omega) (by omega) HLE1.out ?_)
 intro v' w2 hown hg hzz
 have hne : some b ≠ (Value.slice A l.length c).ownBlock := fun e => by
  have := (HR1.out.lt b e.symm).1
  have := HLT.out
  omega
 have hb2 : w2.heap[b]? = some (.cells #[.pointer (some ⟨b, 0, none⟩), .slice A l.length c] 78 (0, 0)) := (hg.block b (lt_of_heap HB1.out) hne).trans HB1.out
 have d1 : w2.cell? ⟨b, 1, none⟩ = some (.slice A l.length c) := by simp [World.cell?, hb2]
 have g1 : w2.frozen? ⟨b, 1, none⟩ = false := by simp [World.frozen?, hb2]
 obtain ⟨A', c', rfl⟩ := own_slice hown
 have hnil : l ++ s.data.toList = [] → Value.slice A' (l.length + s.size) c' = .slice none 0 0 := fun e => by
  obtain ⟨e1, e2⟩ := List.append_eq_nil_iff.1 e
  have h1 := HN1.out e1
  injection h1 with h2 h3 h4
  exact hzz.2 ⟨⟨h2, e1, h4⟩, str_eq (by rw [e2]; rfl)⟩
 have HNIL := Lib.hid hnil; clear hnil
 have hk2 : KeptB b B w1 w2 := KeptB.of_grown hg HLE1.out (fun g e => Or.inr (HR1.out.lt g e).1) (fun g e => by
  rcases HR1.out.2 with ⟨h, _⟩ | ⟨g', cap, cur, h, _, h3, _⟩
  ·rw [h] at e; cases e
  ·rw [h] at e; cases e; exact ⟨_, _, _, h3⟩)
 have hu2 : KeptU b w1 w2 := KeptU.of_grown hg (fun g e => Or.inr (by
  rcases HR1.out.2 with ⟨h, _⟩ | ⟨g', cap, cur, h, _, h3, _⟩
  ·rw [h] at e; cases e
  ·rw [h] at e; cases e; exact ⟨_, _, h3⟩))
 have hu3 : KeptU b w2 (w2.setCell ⟨b, 1, none⟩ (.slice A' (l.length + s.size) c')) := by
  have hgr : w2.grownBy (w2.setCell ⟨b, 1, none⟩ (.slice A' (l.length + s.size) c')) (some b) := ⟨rfl, rfl, rfl, (KeepsWalks.setCell w2 _ _).size, fun q _ hq => Below.heap_setCell _ _ _ q (fun e => hq (by rw [e]))⟩
  exact KeptU.of_grown hgr (fun g e => Or.inl (by cases e; rfl))
 have HU := Lib.hid (HU1.out.trans (hu2.trans hu3)); clear hu2 hu3
 have hb3 := setCell_row (j := 1) hb2 (.slice A' (l.length + s.size) c')
 have hk3 : KeptB b B w2 (w2.setCell ⟨b, 1, none⟩ (.slice A' (l.length + s.size) c')) := by
  have hgr : w2.grownBy (w2.setCell ⟨b, 1, none⟩ (.slice A' (l.length + s.size) c')) (some b) := ⟨rfl, rfl, rfl, (KeepsWalks.setCell w2 _ _).size, fun q _ hq => Below.heap_setCell _ _ _ q (fun e => hq (by rw [e]))⟩
  exact KeptB.of_grown hgr (Nat.le_trans HLE1.out hk2.size) (fun g e => Or.inl (by cases e; rfl)) (fun g e => by cases e; exact ⟨_, _, _, hb2⟩)
 have hr3 : (w2.setCell ⟨b, 1, none⟩ (.slice A' (l.length + s.size) c')).ownsRow B 5 1 (.slice A' (l.length + s.size) c') (l.length + s.size) (byteV l ++ Lib.strCells s) := by
  have hgr : w2.grownBy (w2.setCell ⟨b, 1, none⟩ (.slice A' (l.length + s.size) c')) (some b) := ⟨rfl, rfl, rfl, (KeepsWalks.setCell w2 _ _).size, fun q _ hq => Below.heap_setCell _ _ _ q (fun e => hq (by rw [e]))⟩
  exact own_kept_ne hown hgr hb2 (by decide)
 have HK := Lib.hid (HK1.out.trans (hk2.trans hk3)); have HB3 := Lib.hid hb3; have HR3 := Lib.hid hr3
 clear hb2 hk2 hk3 hr3 hb3 hown hg hzz hne c1 f1
 go_wp2
 go_ret2
 refine ⟨rfl, ⟨⟨_, .slice A' (l.length + s.size) c', Or.inr rfl, HB3.out, ?_, HNIL.out⟩, HLT.out, Nat.le_trans HLE.out HK.out.size⟩, HK.out, HU.out⟩
 have e : (l ++ s.data.toList).length = l.length + s.size := by rw [List.length_append, ← Lib.size_eq]
 rw [e, byteV_append]
 exact HR3.out
set_option maxRecDepth 100000 in
set_option maxHeartbeats 4000000 in
theorem text_any {b B : Nat} {w : World} {l : List UInt8} (h : Wr b B w l) : Calls Tryz.prog 27 #[.pointer (some ⟨b, 0, none⟩)] w fun e w' => e = .returned (.string ⟨l.toArray⟩) ∧ Below b w w' := by
 obtain ⟨p, v, _, hb, hr, hn⟩ := h.box
 have hlt := h.lt
 cases l with
 | nil =>
  obtain rfl := hn rfl
  have c1 : w.drew.cell? ⟨b, 1, none⟩ = some (.slice none 0 0) := by
   have : w.drew.heap[b]? = _ := hb
   simp [World.cell?, this]
  have hSD : (Builtin.unsafeSliceData_ #[74] 102 #[.slice none 0 0]).run Tryz.prog w.drew = .ok (.pointer none) w.drew := rfl
  have hUS : ∀ q, (Builtin.unsafeString_ #[102, 3] 9 #[.pointer q, .int .i64 0]).run Tryz.prog w.drew = .ok (.string .empty) w.drew := fun q => Lib.run_unsafeString_none w.drew _ _ _ q
  clear hb hr hn h
  go_enter Tryz.func27, Tryz.ntmps27
  go_wp2
  go_region
  all_goals (go_wp2; go_ret; exact ⟨rfl, Below.drew (Below.refl b w)⟩)
 | cons x r =>
  obtain ⟨l, hl⟩ : ∃ l, x :: r = l := ⟨_, rfl⟩
  rw [hl] at hr ⊢
  have h0 : l ≠ [] := by rw [← hl]; simp
  have hl0 : l.length ≠ 0 := by simpa using h0
  obtain ⟨g, cap, cur, rfl, hBg, hg, hnc, hcm, hcs, htake⟩ : ∃ g cap cur, v = .slice (some ⟨g, 0, none⟩) l.length cap ∧ B ≤ g ∧ w.heap[g]? = some (.cells cur 5 (0, 0)) ∧ l.length ≤ cap ∧ cap ≤ maxLen ∧ cur.size = cap * 1 ∧ _ := by
   rcases hr.2 with ⟨_, hz⟩ | ⟨g, cap, cur, hv, q⟩
   ·exact absurd hz hl0
   ·exact ⟨g, cap, cur, hv, q⟩
  have c1 : w.drew.cell? ⟨b, 1, none⟩ = some (.slice (some ⟨g, 0, none⟩) l.length cap) := by
   have : w.drew.heap[b]? = _ := hb
   simp [World.cell?, this]
  have hSD : (Builtin.unsafeSliceData_ #[74] 102 #[.slice (some ⟨g, 0, none⟩) l.length cap]).run Tryz.prog w.drew = .ok (.pointer (some ⟨g, 0, none⟩)) w.drew :=
   Lib.run_unsafeSliceData_row _ _ _ _ _ _ (by omega)
  have hUS : (Builtin.unsafeString_ #[102, 3] 9 #[.pointer (some ⟨g, 0, none⟩), .int .i64 l.length]).run Tryz.prog w.drew = .ok (.string ⟨l.toArray⟩) (w.drew.freeze ⟨g, 0, none⟩ l.length) := by
   refine Lib.run_unsafeString_row w.drew 102 3 9 5 Tryz.underlying102 (by kernel_rfl) g cur.size (by have hg' : w.drew.heap[g]? = _ := hg; simp [World.shape?, hg']) l h0 (by omega) (by unfold maxLen at hcm; omega) ?_
   intro j y hy
   exact hr.cells (g := g) rfl j (.int .u8 y.toNat) (by simp [byteV, hy])
  have HB := Lib.hid (show b ≤ g by omega)
  clear hb hr hn h hg htake hl h0
  go_enter Tryz.func27, Tryz.ntmps27
  go_wp2
  go_region
  all_goals (go_wp2; go_ret; exact ⟨rfl, Lib.below_freeze (Below.drew (Below.refl b w)) (p := ⟨g, 0, none⟩) HB.out _⟩)
end Go.Proofs.YtdelihhbmagphaaGreatDoor.Ch
namespace Go.Proofs
open Go.Shelf
def Tryz.lays105_ren : Go.Shelf.Ren := ⟨fun | 105 => 94 | 212 => 130 | 99 => 131 | 165 => 132 | 166 => 93 | 170 => 92 | 169 => 27 | 263 => 164 | 264 => 165 | 206 => 166 | 240 => 129 | 241 => 167 | 276 => 163 | 277 => 193 | n => n, fun | 9 => 9 | 3 => 3 | 4 => 4 | 20 => 20 | 0 => 0 | 46 => 174 | 109 => 175 | 5 => 5 | 72 => 76 | 76 => 144 | 51 => 216 | 146 => 217 | 53 => 186 | 148 => 219 | 70 => 73 | 37 => 74 | 75 => 143 | 127 => 102 | 164 => 214 | 80 => 80 | n => n, fun | n => n⟩
theorem Tryz.lays105 : Go.Proofs.Lays.n105 Tryz.prog Tryz.lays105_ren := {
 mixed := by kernel_rfl
 f99 := Tryz.func131.trans (congrArg some (by kernel_rfl))
 f105 := Tryz.func94.trans (congrArg some (by kernel_rfl))
 f165 := Tryz.func132.trans (congrArg some (by kernel_rfl))
 f166 := Tryz.func93.trans (congrArg some (by kernel_rfl))
 f169 := Tryz.func27.trans (congrArg some (by kernel_rfl))
 f170 := Tryz.func92.trans (congrArg some (by kernel_rfl))
 f206 := Tryz.func166.trans (congrArg some (by kernel_rfl))
 f212 := Tryz.func130.trans (congrArg some (by kernel_rfl))
 f240 := Tryz.func129.trans (congrArg some (by kernel_rfl))
 f241 := Tryz.func167.trans (congrArg some (by kernel_rfl))
 f263 := Tryz.func164.trans (congrArg some (by kernel_rfl))
 f264 := Tryz.func165.trans (congrArg some (by kernel_rfl))
 f276 := Tryz.func163.trans (congrArg some (by kernel_rfl))
 f277 := Tryz.func193.trans (congrArg some (by kernel_rfl))
 t0 := Tryz.underlying0
 a0 := Tryz.isAgg0
 z0 := Tryz.sizeOf0
 v0 := Tryz.zeroValue0
 t3 := Tryz.underlying3
 a3 := Tryz.isAgg3
 z3 := Tryz.sizeOf3
 v3 := Tryz.zeroValue3
 t4 := Tryz.underlying4
 a4 := Tryz.isAgg4
 z4 := Tryz.sizeOf4
 v4 := Tryz.zeroValue4
 t5 := Tryz.underlying5
 a5 := Tryz.isAgg5
 z5 := Tryz.sizeOf5
 v5 := Tryz.zeroValue5
 t9 := Tryz.underlying9
 a9 := Tryz.isAgg9
 z9 := Tryz.sizeOf9
 v9 := Tryz.zeroValue9
 t20 := Tryz.underlying20
 a20 := Tryz.isAgg20
 z20 := Tryz.sizeOf20
 v20 := Tryz.zeroValue20
 t37 := Tryz.underlying74
 a37 := Tryz.isAgg74
 z37 := Tryz.sizeOf74
 v37 := Tryz.zeroValue74
 t46 := Tryz.underlying174
 a46 := Tryz.isAgg174
 z46 := Tryz.sizeOf174
 v46 := Tryz.zeroValue174
 t51 := Tryz.underlying216
 a51 := Tryz.isAgg216
 z51 := Tryz.sizeOf216
 v51 := Tryz.zeroValue216
 t53 := Tryz.underlying186
 a53 := Tryz.isAgg186
 z53 := Tryz.sizeOf186
 v53 := Tryz.zeroValue186
 t70 := Tryz.underlying73
 a70 := Tryz.isAgg73
 z70 := Tryz.sizeOf73
 v70 := Tryz.zeroValue73
 t72 := Tryz.underlying76
 a72 := Tryz.isAgg76
 z72 := Tryz.sizeOf76
 v72 := Tryz.zeroValue76
 t75 := Tryz.underlying143
 a75 := Tryz.isAgg143
 z75 := Tryz.sizeOf143
 v75 := Tryz.zeroValue143
 t76 := Tryz.underlying144
 a76 := Tryz.isAgg144
 z76 := Tryz.sizeOf144
 v76 := Tryz.zeroValue144
 t109 := Tryz.underlying175
 a109 := Tryz.isAgg175
 z109 := Tryz.sizeOf175
 v109 := Tryz.zeroValue175
 t127 := Tryz.underlying102
 a127 := Tryz.isAgg102
 z127 := Tryz.sizeOf102
 v127 := Tryz.zeroValue102
 t146 := Tryz.underlying217
 a146 := Tryz.isAgg217
 z146 := Tryz.sizeOf217
 v146 := Tryz.zeroValue217
 t148 := Tryz.underlying219
 a148 := Tryz.isAgg219
 z148 := Tryz.sizeOf219
 v148 := Tryz.zeroValue219
 t164 := Tryz.underlying214
 a164 := Tryz.isAgg214
 z164 := Tryz.sizeOf214
 v164 := Tryz.zeroValue214 }
theorem Tryz.Builder_Extra_105 : Builder.Extra Tryz.prog Tryz.lays105_ren := {
 sizeBuilder := by kernel_rfl
 liesBuilder := by kernel_rfl
 t5 := Tryz.underlying5
 a5 := Tryz.isAgg5
 z5 := Tryz.sizeOf5
 v5 := Tryz.zeroValue5
 infoByte := by kernel_rfl
 cellsByte := by kernel_rfl
 sizeByte := by kernel_rfl
 neB5 := by decide }
open Go.RowKit Go.Lib in
theorem Tryz.strings_Repeat (s : ByteArray) (c : Nat) (w : World) (hc : c ≤ 9223372036854775807) (hlen : s.size * c ≤ 140737488355328) :
  Calls Tryz.prog 94 #[.string s, .int .i64 c] w fun e w' => e = .returned (.string ⟨(Lib.repeatL s.data.toList c).toArray⟩) ∧ Below w.heap.size w w' := Any.strings_Repeat Tryz.lays105 Tryz.Builder_Extra_105 s c w hc hlen
end Go.Proofs
