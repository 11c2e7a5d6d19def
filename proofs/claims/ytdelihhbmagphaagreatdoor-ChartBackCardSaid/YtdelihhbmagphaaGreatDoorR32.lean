/- Own texts, joined: By. -/
import Derived.Test.YtdelihhbmagphaaGreatDoorR31
namespace Go.Proofs.YtdelihhbmagphaaGreatDoor.Ch
open Go.RowKit
def onL (t : TC) : List (List UInt8) := [wOn, if t.ev = [] then [45] else t.ev, if t.gd = [] then [45] else (showP t.gd).1, if t.to = [] then [45] else t.to, if t.ac = [] then [45] else (showA t.ac).1]
structure TrZ (t : TC) : Prop where
 ev : t.ev.length ≤ 140737488355328
 tl : t.to.length ≤ 140737488355328
 ac : t.ac.length ≤ 4611686018427387904
 gt : (showP t.gd).1.length ≤ 140737488355328
 at_ : (showA t.ac).1.length ≤ 140737488355328
theorem onL_le {t : TC} (h : TrZ t) : ∀ x ∈ onL t, x.length ≤ 140737488355328 := by
 intro x hx
 unfold onL at hx
 simp only [List.mem_cons, List.not_mem_nil, or_false] at hx
 rcases hx with rfl | rfl | rfl | rfl | rfl
 ·decide
 ·split
  ·decide
  ·exact h.ev
 ·split
  ·decide
  ·exact h.gt
 ·split
  ·decide
  ·exact h.tl
 ·split
  ·decide
  ·exact h.at_
theorem line_at {b B : Nat} {w w1 : World} {l : List UInt8} (h : Wr b B w l) (hl : l.length ≤ 6000) (hb : Below w.heap.size w w1) (d : Int) (ls : List (List UInt8)) (cur : Array Value) (n : Nat) (hn : ls.length = n) (hc : cur.toList = strsV ls) (hls : n ≤ 5) (hw : ∀ x ∈ ls, x.length ≤ 140737488355328) :
  Calls Tryz.prog 54 #[.pointer (some ⟨b, 0, none⟩), .int .i64 d, .slice (some ⟨w1.heap.size, 0, none⟩) n n] (w1.alloc (.cells cur 9)) fun e w' => e = .returned (.tuple #[]) ∧ Wr b B w' (putL l d ls) ∧ KeptB b B w w' ∧ KeptU b w w' := by
 have hb2 : Below w.heap.size w (w1.alloc (.cells cur 9)) := hb.alloc hb.size _
 have hcs : cur.size = n * 1 := by
  have := congrArg List.length hc
  rw [Array.length_toList] at this
  rw [this, strsV, List.length_map, hn, Nat.mul_one]
 have hown := Oz.own_laid (B := 0) (e := 9) (size := 1) (n := n) w1 cur (Nat.zero_le _) (by unfold maxLen; omega) hcs
 rw [hc] at hown
 subst hn
 refine (line_any (h.below hb2) hl d ls _ hown hls hw).mono ?_
 rintro e w' ⟨he, h1, h2, h3⟩
 exact ⟨he, h1, (KeptB.of_below hb2 h.le).trans h2, (KeptU.of_below hb2).trans h3⟩
set_option maxRecDepth 100000 in
set_option maxHeartbeats 8000000 in
theorem on_any {b B : Nat} {w : World} {l : List UInt8} (h : Wr b B w l) (hl : l.length ≤ 6000) (d : Int) (p : TP) (hp : TrR w p) (hz : TrZ p.1) (hE : Env w) :
  Calls Tryz.prog 57 #[.pointer (some ⟨b, 0, none⟩), .int .i64 d, .agg (trV p).toArray] w fun e w' => e = .returned (.tuple #[]) ∧ Wr b B w' (putL l d (onL p.1)) ∧ KeptB b B w w' ∧ KeptU b w w' := by
 obtain ⟨⟨fr, ev, gd, tt, ac⟩, gv, av⟩ := p
 obtain ⟨Ag, cg, hgv⟩ := hp.1.1.slice
 obtain ⟨Aa, ca, hav⟩ := BlkR.form hp.2
 simp only at hgv hav
 subst hgv; subst hav
 have hGD : ∀ W, Below w.heap.size w W → Calls Tryz.prog 100 #[.slice Ag gd.length cg] W fun e w' => e = .returned (.tuple #[bstr (showP gd).1, .int .i64 (showP gd).2]) ∧ Below W.heap.size W w' := fun W hW =>
  show_any _ gd W (hp.1.1.below hW).rd (by have := hp.1.2; simp only at this; omega) (hE.below hW).ops (hE.below hW).laid
 have hAC : ∀ W, Below w.heap.size w W → Calls Tryz.prog 99 #[.slice Aa ac.length ca] W fun e w' => e = .returned (bstr (showA ac).1) ∧ Below W.heap.size W w' := fun W hW => blockText_any _ ac W (hp.2.below hW) hz.ac (hE.below hW)
 have hLE := onL_le hz
 have HLE := Lib.hid hLE; have HH := Lib.hid h
 show Calls _ _ #[_, _, .agg #[.int .i64 fr, bstr ev, .slice Ag gd.length cg, bstr tt, .slice Aa ac.length ca]] w fun e w' => e = .returned (.tuple #[]) ∧ Wr b B w' (putL l d (onL ⟨fr, ev, gd, tt, ac⟩)) ∧ _
 clear hp hz hE hLE h
 obtain ⟨XE, hXE, hXEl⟩ := bstr_some ev
 obtain ⟨XT, hXT, hXTl⟩ := bstr_some tt
 obtain ⟨XG, hXG, hXGl⟩ := bstr_some (showP gd).1
 obtain ⟨XA, hXA, hXAl⟩ := bstr_some (showA ac).1
 rw [hXE, hXT]
 rw [hXG] at hGD
 rw [hXA] at hAC
 have HGD := Lib.hid hGD; have HAC := Lib.hid hAC
 obtain ⟨w2, hw2⟩ : ∃ W, W = w.alloc (.cells #[.int .i64 fr, .string XE, .slice Ag gd.length cg, .string XT, .slice Aa ac.length ca] 71) := ⟨_, rfl⟩
 have hb2 : Below w.heap.size w w2 := hw2 ▸ (Below.refl _ _).alloc (Nat.le_refl _) _
 have hz2 : w.heap.size < w2.heap.size := by rw [hw2]; simp
 have c1 : w2.cell? ⟨w.heap.size, 1, none⟩ = some (.string XE) := by rw [hw2]; simp
 have c2 : w2.cell? ⟨w.heap.size, 2, none⟩ = some (.slice Ag gd.length cg) := by rw [hw2]; simp
 have c3 : w2.cell? ⟨w.heap.size, 3, none⟩ = some (.string XT) := by rw [hw2]; simp
 have c4 : w2.cell? ⟨w.heap.size, 4, none⟩ = some (.slice Aa ac.length ca) := by rw [hw2]; simp
 have HB2 := Lib.hid hb2; have HC := Lib.hid (And.intro hz2 (And.intro c1 (And.intro c2 (And.intro c3 c4)))); have HW2 := Lib.hid hw2
 clear hb2 hz2 c1 c2 c3 c4 hw2 hGD hAC
 by_cases hev : ev = []
 ·by_cases hgd : gd = []
  ·by_cases hto : tt = []
   ·by_cases hac : ac = []
    ·have hon : onL ⟨fr, ev, gd, tt, ac⟩ = [wOn, [45], [45], [45], [45]] := by unfold onL; simp only []; rw [if_pos hev, if_pos hgd, if_pos hto, if_pos hac]
     have hcur : (#[.string ⟨#[111, 110]⟩, .string ⟨#[45]⟩, .string ⟨#[45]⟩, .string ⟨#[45]⟩, .string ⟨#[45]⟩] : Array Value).toList = strsV [wOn, [45], [45], [45], [45]] := by simp only [strsV, List.map]; rfl
     have HON := Lib.hid hon; have HCUR := Lib.hid hcur
     have g0 : gd.length = 0 := by rw [hgd]; rfl
     rw [g0] at HW2 HC ⊢; clear g0 HGD
     have a0 : ac.length = 0 := by rw [hac]; rfl
     rw [a0] at HW2 HC ⊢; clear a0 HAC
     obtain rfl : XE = ⟨#[]⟩ := str_eq (by rw [hXEl, hev])
     obtain rfl : XT = ⟨#[]⟩ := str_eq (by rw [hXTl, hto])
     clear hon hcur hev hgd hto hac hXE hXEl hXT hXTl hXG hXGl hXA hXAl 
     go_enter Tryz.func57, Tryz.ntmps57
     go_upto_if 12 with fail
     rw [← HW2.out]
     obtain ⟨hz2, c1, c2, c3, c4⟩ := HC.out
     go_wp2_with fail
     go_at_call 54
     refine (line_at HH.out hl HB2.out d [wOn, [45], [45], [45], [45]] #[.string ⟨#[111, 110]⟩, .string ⟨#[45]⟩, .string ⟨#[45]⟩, .string ⟨#[45]⟩, .string ⟨#[45]⟩] 5 rfl HCUR.out (by omega) (by rw [← HON.out]; exact HLE.out)).mono ?_; rintro e w9 ⟨rfl, h1, h2, h3⟩
     go_wp2
     go_end0
     exact ⟨rfl, by rw [HON.out]; exact h1, h2, h3⟩
    ·have hon : onL ⟨fr, ev, gd, tt, ac⟩ = [wOn, [45], [45], [45], (showA ac).1] := by unfold onL; simp only []; rw [if_pos hev, if_pos hgd, if_pos hto, if_neg hac]
     have hcur : (#[.string ⟨#[111, 110]⟩, .string ⟨#[45]⟩, .string ⟨#[45]⟩, .string ⟨#[45]⟩, .string XA] : Array Value).toList = strsV [wOn, [45], [45], [45], (showA ac).1] := by simp only [strsV, List.map]; rw [hXA]; rfl
     have HON := Lib.hid hon; have HCUR := Lib.hid hcur
     have g0 : gd.length = 0 := by rw [hgd]; rfl
     rw [g0] at HW2 HC ⊢; clear g0 HGD
     have a0 : 0 < ac.length := List.length_pos_iff.2 hac
     obtain rfl : XE = ⟨#[]⟩ := str_eq (by rw [hXEl, hev])
     obtain rfl : XT = ⟨#[]⟩ := str_eq (by rw [hXTl, hto])
     clear hon hcur hev hgd hto hac hXE hXEl hXT hXTl hXG hXGl hXA hXAl 
     go_enter Tryz.func57, Tryz.ntmps57
     go_upto_if 12 with fail
     rw [← HW2.out]
     obtain ⟨hz2, c1, c2, c3, c4⟩ := HC.out
     go_wp2_with fail
     go_at_call 99
     refine (HAC.out _ HB2.out).mono ?_; rintro e w4 ⟨rfl, hb4⟩
     have hbw4 : Below w.heap.size w w4 := HB2.out.trans (hb4.mono HB2.out.size)
     go_wp2_with fail
     go_at_call 54
     refine (line_at HH.out hl hbw4 d [wOn, [45], [45], [45], (showA ac).1] #[.string ⟨#[111, 110]⟩, .string ⟨#[45]⟩, .string ⟨#[45]⟩, .string ⟨#[45]⟩, .string XA] 5 rfl HCUR.out (by omega) (by rw [← HON.out]; exact HLE.out)).mono ?_; rintro e w9 ⟨rfl, h1, h2, h3⟩
     go_wp2
     go_end0
     exact ⟨rfl, by rw [HON.out]; exact h1, h2, h3⟩
   ·by_cases hac : ac = []
    ·have hon : onL ⟨fr, ev, gd, tt, ac⟩ = [wOn, [45], [45], tt, [45]] := by unfold onL; simp only []; rw [if_pos hev, if_pos hgd, if_neg hto, if_pos hac]
     have hcur : (#[.string ⟨#[111, 110]⟩, .string ⟨#[45]⟩, .string ⟨#[45]⟩, .string XT, .string ⟨#[45]⟩] : Array Value).toList = strsV [wOn, [45], [45], tt, [45]] := by simp only [strsV, List.map]; rw [hXT]; rfl
     have HON := Lib.hid hon; have HCUR := Lib.hid hcur
     have g0 : gd.length = 0 := by rw [hgd]; rfl
     rw [g0] at HW2 HC ⊢; clear g0 HGD
     have a0 : ac.length = 0 := by rw [hac]; rfl
     rw [a0] at HW2 HC ⊢; clear a0 HAC
     obtain rfl : XE = ⟨#[]⟩ := str_eq (by rw [hXEl, hev])
     have nto : XT.data.toList ≠ (⟨#[]⟩ : ByteArray).data.toList := by rw [hXTl]; exact hto
     have ito : XT.toList.isEmpty = false := by rw [List.isEmpty_eq_false_iff, Lib.toList_data, hXTl]; exact hto
     clear hon hcur hev hgd hto hac hXE hXEl hXT hXTl hXG hXGl hXA hXAl nto
     go_enter Tryz.func57, Tryz.ntmps57
     go_upto_if 12 with fail
     rw [← HW2.out]
     obtain ⟨hz2, c1, c2, c3, c4⟩ := HC.out
     go_wp2_with fail
     go_at_call 54
     refine (line_at HH.out hl HB2.out d [wOn, [45], [45], tt, [45]] #[.string ⟨#[111, 110]⟩, .string ⟨#[45]⟩, .string ⟨#[45]⟩, .string XT, .string ⟨#[45]⟩] 5 rfl HCUR.out (by omega) (by rw [← HON.out]; exact HLE.out)).mono ?_; rintro e w9 ⟨rfl, h1, h2, h3⟩
     go_wp2
     go_end0
     exact ⟨rfl, by rw [HON.out]; exact h1, h2, h3⟩
    ·have hon : onL ⟨fr, ev, gd, tt, ac⟩ = [wOn, [45], [45], tt, (showA ac).1] := by unfold onL; simp only []; rw [if_pos hev, if_pos hgd, if_neg hto, if_neg hac]
     have hcur : (#[.string ⟨#[111, 110]⟩, .string ⟨#[45]⟩, .string ⟨#[45]⟩, .string XT, .string XA] : Array Value).toList = strsV [wOn, [45], [45], tt, (showA ac).1] := by simp only [strsV, List.map]; rw [hXT, hXA]; rfl
     have HON := Lib.hid hon; have HCUR := Lib.hid hcur
     have g0 : gd.length = 0 := by rw [hgd]; rfl
     rw [g0] at HW2 HC ⊢; clear g0 HGD
     have a0 : 0 < ac.length := List.length_pos_iff.2 hac
     obtain rfl : XE = ⟨#[]⟩ := str_eq (by rw [hXEl, hev])
     have nto : XT.data.toList ≠ (⟨#[]⟩ : ByteArray).data.toList := by rw [hXTl]; exact hto
     have ito : XT.toList.isEmpty = false := by rw [List.isEmpty_eq_false_iff, Lib.toList_data, hXTl]; exact hto
     clear hon hcur hev hgd hto hac hXE hXEl hXT hXTl hXG hXGl hXA hXAl nto
     go_enter Tryz.func57, Tryz.ntmps57
     go_upto_if 12 with fail
     rw [← HW2.out]
     obtain ⟨hz2, c1, c2, c3, c4⟩ := HC.out
     go_wp2_with fail
     go_at_call 99
     refine (HAC.out _ HB2.out).mono ?_; rintro e w4 ⟨rfl, hb4⟩
     have hbw4 : Below w.heap.size w w4 := HB2.out.trans (hb4.mono HB2.out.size)
     go_wp2_with fail
     go_at_call 54
     refine (line_at HH.out hl hbw4 d [wOn, [45], [45], tt, (showA ac).1] #[.string ⟨#[111, 110]⟩, .string ⟨#[45]⟩, .string ⟨#[45]⟩, .string XT, .string XA] 5 rfl HCUR.out (by omega) (by rw [← HON.out]; exact HLE.out)).mono ?_; rintro e w9 ⟨rfl, h1, h2, h3⟩
     go_wp2
     go_end0
     exact ⟨rfl, by rw [HON.out]; exact h1, h2, h3⟩
  ·by_cases hto : tt = []
   ·by_cases hac : ac = []
    ·have hon : onL ⟨fr, ev, gd, tt, ac⟩ = [wOn, [45], (showP gd).1, [45], [45]] := by unfold onL; simp only []; rw [if_pos hev, if_neg hgd, if_pos hto, if_pos hac]
     have hcur : (#[.string ⟨#[111, 110]⟩, .string ⟨#[45]⟩, .string XG, .string ⟨#[45]⟩, .string ⟨#[45]⟩] : Array Value).toList = strsV [wOn, [45], (showP gd).1, [45], [45]] := by simp only [strsV, List.map]; rw [hXG]; rfl
     have HON := Lib.hid hon; have HCUR := Lib.hid hcur
     have g0 : 0 < gd.length := List.length_pos_iff.2 hgd
     have a0 : ac.length = 0 := by rw [hac]; rfl
     rw [a0] at HW2 HC ⊢; clear a0 HAC
     obtain rfl : XE = ⟨#[]⟩ := str_eq (by rw [hXEl, hev])
     obtain rfl : XT = ⟨#[]⟩ := str_eq (by rw [hXTl, hto])
     clear hon hcur hev hgd hto hac hXE hXEl hXT hXTl hXG hXGl hXA hXAl 
     go_enter Tryz.func57, Tryz.ntmps57
     go_upto_if 12 with fail
     rw [← HW2.out]
     obtain ⟨hz2, c1, c2, c3, c4⟩ := HC.out
     go_wp2_with fail
     go_at_call 100
     refine (HGD.out _ HB2.out).mono ?_; rintro e w3 ⟨rfl, hb3⟩
     have hw3 : Below w2.heap.size w2 w3 := hb3
     have hbw3 : Below w.heap.size w w3 := HB2.out.trans (hb3.mono HB2.out.size)
     obtain ⟨hq, _, _, q3, q4⟩ := HC.out
     have u3 := (Below.cell hw3 (p := ⟨w.heap.size, 3, none⟩) hq).trans q3; have u4 := (Below.cell hw3 (p := ⟨w.heap.size, 4, none⟩) hq).trans q4
     clear q3 q4 hq
     go_wp2_with fail
     go_at_call 54
     refine (line_at HH.out hl hbw3 d [wOn, [45], (showP gd).1, [45], [45]] #[.string ⟨#[111, 110]⟩, .string ⟨#[45]⟩, .string XG, .string ⟨#[45]⟩, .string ⟨#[45]⟩] 5 rfl HCUR.out (by omega) (by rw [← HON.out]; exact HLE.out)).mono ?_; rintro e w9 ⟨rfl, h1, h2, h3⟩
     go_wp2
     go_end0
     exact ⟨rfl, by rw [HON.out]; exact h1, h2, h3⟩
    ·have hon : onL ⟨fr, ev, gd, tt, ac⟩ = [wOn, [45], (showP gd).1, [45], (showA ac).1] := by unfold onL; simp only []; rw [if_pos hev, if_neg hgd, if_pos hto, if_neg hac]
     have hcur : (#[.string ⟨#[111, 110]⟩, .string ⟨#[45]⟩, .string XG, .string ⟨#[45]⟩, .string XA] : Array Value).toList = strsV [wOn, [45], (showP gd).1, [45], (showA ac).1] := by simp only [strsV, List.map]; rw [hXG, hXA]; rfl
     have HON := Lib.hid hon; have HCUR := Lib.hid hcur
     have g0 : 0 < gd.length := List.length_pos_iff.2 hgd
     have a0 : 0 < ac.length := List.length_pos_iff.2 hac
     obtain rfl : XE = ⟨#[]⟩ := str_eq (by rw [hXEl, hev])
     obtain rfl : XT = ⟨#[]⟩ := str_eq (by rw [hXTl, hto])
     clear hon hcur hev hgd hto hac hXE hXEl hXT hXTl hXG hXGl hXA hXAl 
     go_enter Tryz.func57, Tryz.ntmps57
     go_upto_if 12 with fail
     rw [← HW2.out]
     obtain ⟨hz2, c1, c2, c3, c4⟩ := HC.out
     go_wp2_with fail
     go_at_call 100
     refine (HGD.out _ HB2.out).mono ?_; rintro e w3 ⟨rfl, hb3⟩
     have hw3 : Below w2.heap.size w2 w3 := hb3
     have hbw3 : Below w.heap.size w w3 := HB2.out.trans (hb3.mono HB2.out.size)
     obtain ⟨hq, _, _, q3, q4⟩ := HC.out
     have u3 := (Below.cell hw3 (p := ⟨w.heap.size, 3, none⟩) hq).trans q3; have u4 := (Below.cell hw3 (p := ⟨w.heap.size, 4, none⟩) hq).trans q4
     clear q3 q4 hq
     go_wp2_with fail
     go_at_call 99
     refine (HAC.out _ hbw3).mono ?_; rintro e w4 ⟨rfl, hb4⟩
     have hbw4 : Below w.heap.size w w4 := hbw3.trans (hb4.mono hbw3.size)
     go_wp2_with fail
     go_at_call 54
     refine (line_at HH.out hl hbw4 d [wOn, [45], (showP gd).1, [45], (showA ac).1] #[.string ⟨#[111, 110]⟩, .string ⟨#[45]⟩, .string XG, .string ⟨#[45]⟩, .string XA] 5 rfl HCUR.out (by omega) (by rw [← HON.out]; exact HLE.out)).mono ?_; rintro e w9 ⟨rfl, h1, h2, h3⟩
     go_wp2
     go_end0
     exact ⟨rfl, by rw [HON.out]; exact h1, h2, h3⟩
   ·by_cases hac : ac = []
    ·have hon : onL ⟨fr, ev, gd, tt, ac⟩ = [wOn, [45], (showP gd).1, tt, [45]] := by unfold onL; simp only []; rw [if_pos hev, if_neg hgd, if_neg hto, if_pos hac]
     have hcur : (#[.string ⟨#[111, 110]⟩, .string ⟨#[45]⟩, .string XG, .string XT, .string ⟨#[45]⟩] : Array Value).toList = strsV [wOn, [45], (showP gd).1, tt, [45]] := by simp only [strsV, List.map]; rw [hXG, hXT]; rfl
     have HON := Lib.hid hon; have HCUR := Lib.hid hcur
     have g0 : 0 < gd.length := List.length_pos_iff.2 hgd
     have a0 : ac.length = 0 := by rw [hac]; rfl
     rw [a0] at HW2 HC ⊢; clear a0 HAC
     obtain rfl : XE = ⟨#[]⟩ := str_eq (by rw [hXEl, hev])
     have nto : XT.data.toList ≠ (⟨#[]⟩ : ByteArray).data.toList := by rw [hXTl]; exact hto
     have ito : XT.toList.isEmpty = false := by rw [List.isEmpty_eq_false_iff, Lib.toList_data, hXTl]; exact hto
     clear hon hcur hev hgd hto hac hXE hXEl hXT hXTl hXG hXGl hXA hXAl nto
     go_enter Tryz.func57, Tryz.ntmps57
     go_upto_if 12 with fail
     rw [← HW2.out]
     obtain ⟨hz2, c1, c2, c3, c4⟩ := HC.out
     go_wp2_with fail
     go_at_call 100
     refine (HGD.out _ HB2.out).mono ?_; rintro e w3 ⟨rfl, hb3⟩
     have hw3 : Below w2.heap.size w2 w3 := hb3
     have hbw3 : Below w.heap.size w w3 := HB2.out.trans (hb3.mono HB2.out.size)
     obtain ⟨hq, _, _, q3, q4⟩ := HC.out
     have u3 := (Below.cell hw3 (p := ⟨w.heap.size, 3, none⟩) hq).trans q3; have u4 := (Below.cell hw3 (p := ⟨w.heap.size, 4, none⟩) hq).trans q4
     clear q3 q4 hq
     go_wp2_with fail
     go_at_call 54
     refine (line_at HH.out hl hbw3 d [wOn, [45], (showP gd).1, tt, [45]] #[.string ⟨#[111, 110]⟩, .string ⟨#[45]⟩, .string XG, .string XT, .string ⟨#[45]⟩] 5 rfl HCUR.out (by omega) (by rw [← HON.out]; exact HLE.out)).mono ?_; rintro e w9 ⟨rfl, h1, h2, h3⟩
     go_wp2
     go_end0
     exact ⟨rfl, by rw [HON.out]; exact h1, h2, h3⟩
    ·have hon : onL ⟨fr, ev, gd, tt, ac⟩ = [wOn, [45], (showP gd).1, tt, (showA ac).1] := by unfold onL; simp only []; rw [if_pos hev, if_neg hgd, if_neg hto, if_neg hac]
     have hcur : (#[.string ⟨#[111, 110]⟩, .string ⟨#[45]⟩, .string XG, .string XT, .string XA] : Array Value).toList = strsV [wOn, [45], (showP gd).1, tt, (showA ac).1] := by simp only [strsV, List.map]; rw [hXG, hXT, hXA]; rfl
     have HON := Lib.hid hon; have HCUR := Lib.hid hcur
     have g0 : 0 < gd.length := List.length_pos_iff.2 hgd
     have a0 : 0 < ac.length := List.length_pos_iff.2 hac
     obtain rfl : XE = ⟨#[]⟩ := str_eq (by rw [hXEl, hev])
     have nto : XT.data.toList ≠ (⟨#[]⟩ : ByteArray).data.toList := by rw [hXTl]; exact hto
     have ito : XT.toList.isEmpty = false := by rw [List.isEmpty_eq_false_iff, Lib.toList_data, hXTl]; exact hto
     clear hon hcur hev hgd hto hac hXE hXEl hXT hXTl hXG hXGl hXA hXAl nto
     go_enter Tryz.func57, Tryz.ntmps57
     go_upto_if 12 with fail
     rw [← HW2.out]
     obtain ⟨hz2, c1, c2, c3, c4⟩ := HC.out
     go_wp2_with fail
     go_at_call 100
     refine (HGD.out _ HB2.out).mono ?_; rintro e w3 ⟨rfl, hb3⟩
     have hw3 : Below w2.heap.size w2 w3 := hb3
     have hbw3 : Below w.heap.size w w3 := HB2.out.trans (hb3.mono HB2.out.size)
     obtain ⟨hq, _, _, q3, q4⟩ := HC.out
     have u3 := (Below.cell hw3 (p := ⟨w.heap.size, 3, none⟩) hq).trans q3; have u4 := (Below.cell hw3 (p := ⟨w.heap.size, 4, none⟩) hq).trans q4
     clear q3 q4 hq
     go_wp2_with fail
     go_at_call 99
     refine (HAC.out _ hbw3).mono ?_; rintro e w4 ⟨rfl, hb4⟩
     have hbw4 : Below w.heap.size w w4 := hbw3.trans (hb4.mono hbw3.size)
     go_wp2_with fail
     go_at_call 54
     refine (line_at HH.out hl hbw4 d [wOn, [45], (showP gd).1, tt, (showA ac).1] #[.string ⟨#[111, 110]⟩, .string ⟨#[45]⟩, .string XG, .string XT, .string XA] 5 rfl HCUR.out (by omega) (by rw [← HON.out]; exact HLE.out)).mono ?_; rintro e w9 ⟨rfl, h1, h2, h3⟩
     go_wp2
     go_end0
     exact ⟨rfl, by rw [HON.out]; exact h1, h2, h3⟩
 ·by_cases hgd : gd = []
  ·by_cases hto : tt = []
   ·by_cases hac : ac = []
    ·have hon : onL ⟨fr, ev, gd, tt, ac⟩ = [wOn, ev, [45], [45], [45]] := by unfold onL; simp only []; rw [if_neg hev, if_pos hgd, if_pos hto, if_pos hac]
     have hcur : (#[.string ⟨#[111, 110]⟩, .string XE, .string ⟨#[45]⟩, .string ⟨#[45]⟩, .string ⟨#[45]⟩] : Array Value).toList = strsV [wOn, ev, [45], [45], [45]] := by simp only [strsV, List.map]; rw [hXE]; rfl
     have HON := Lib.hid hon; have HCUR := Lib.hid hcur
     have g0 : gd.length = 0 := by rw [hgd]; rfl
     rw [g0] at HW2 HC ⊢; clear g0 HGD
     have a0 : ac.length = 0 := by rw [hac]; rfl
     rw [a0] at HW2 HC ⊢; clear a0 HAC
     have nev : XE.data.toList ≠ (⟨#[]⟩ : ByteArray).data.toList := by rw [hXEl]; exact hev
     have iev : XE.toList.isEmpty = false := by rw [List.isEmpty_eq_false_iff, Lib.toList_data, hXEl]; exact hev
     obtain rfl : XT = ⟨#[]⟩ := str_eq (by rw [hXTl, hto])
     clear hon hcur hev hgd hto hac hXE hXEl hXT hXTl hXG hXGl hXA hXAl nev
     go_enter Tryz.func57, Tryz.ntmps57
     go_upto_if 12 with fail
     rw [← HW2.out]
     obtain ⟨hz2, c1, c2, c3, c4⟩ := HC.out
     go_wp2_with fail
     go_at_call 54
     refine (line_at HH.out hl HB2.out d [wOn, ev, [45], [45], [45]] #[.string ⟨#[111, 110]⟩, .string XE, .string ⟨#[45]⟩, .string ⟨#[45]⟩, .string ⟨#[45]⟩] 5 rfl HCUR.out (by omega) (by rw [← HON.out]; exact HLE.out)).mono ?_; rintro e w9 ⟨rfl, h1, h2, h3⟩
     go_wp2
     go_end0
     exact ⟨rfl, by rw [HON.out]; exact h1, h2, h3⟩
    ·have hon : onL ⟨fr, ev, gd, tt, ac⟩ = [wOn, ev, [45], [45], (showA ac).1] := by unfold onL; simp only []; rw [if_neg hev, if_pos hgd, if_pos hto, if_neg hac]
     have hcur : (#[.string ⟨#[111, 110]⟩, .string XE, .string ⟨#[45]⟩, .string ⟨#[45]⟩, .string XA] : Array Value).toList = strsV [wOn, ev, [45], [45], (showA ac).1] := by simp only [strsV, List.map]; rw [hXE, hXA]; rfl
     have HON := Lib.hid hon; have HCUR := Lib.hid hcur
     have g0 : gd.length = 0 := by rw [hgd]; rfl
     rw [g0] at HW2 HC ⊢; clear g0 HGD
     have a0 : 0 < ac.length := List.length_pos_iff.2 hac
     have nev : XE.data.toList ≠ (⟨#[]⟩ : ByteArray).data.toList := by rw [hXEl]; exact hev
     have iev : XE.toList.isEmpty = false := by rw [List.isEmpty_eq_false_iff, Lib.toList_data, hXEl]; exact hev
     obtain rfl : XT = ⟨#[]⟩ := str_eq (by rw [hXTl, hto])
     clear hon hcur hev hgd hto hac hXE hXEl hXT hXTl hXG hXGl hXA hXAl nev
     go_enter Tryz.func57, Tryz.ntmps57
     go_upto_if 12 with fail
     rw [← HW2.out]
     obtain ⟨hz2, c1, c2, c3, c4⟩ := HC.out
     go_wp2_with fail
     go_at_call 99
     refine (HAC.out _ HB2.out).mono ?_; rintro e w4 ⟨rfl, hb4⟩
     have hbw4 : Below w.heap.size w w4 := HB2.out.trans (hb4.mono HB2.out.size)
     go_wp2_with fail
     go_at_call 54
     refine (line_at HH.out hl hbw4 d [wOn, ev, [45], [45], (showA ac).1] #[.string ⟨#[111, 110]⟩, .string XE, .string ⟨#[45]⟩, .string ⟨#[45]⟩, .string XA] 5 rfl HCUR.out (by omega) (by rw [← HON.out]; exact HLE.out)).mono ?_; rintro e w9 ⟨rfl, h1, h2, h3⟩
     go_wp2
     go_end0
     exact ⟨rfl, by rw [HON.out]; exact h1, h2, h3⟩
   ·by_cases hac : ac = []
    ·have hon : onL ⟨fr, ev, gd, tt, ac⟩ = [wOn, ev, [45], tt, [45]] := by unfold onL; simp only []; rw [if_neg hev, if_pos hgd, if_neg hto, if_pos hac]
     have hcur : (#[.string ⟨#[111, 110]⟩, .string XE, .string ⟨#[45]⟩, .string XT, .string ⟨#[45]⟩] : Array Value).toList = strsV [wOn, ev, [45], tt, [45]] := by simp only [strsV, List.map]; rw [hXE, hXT]; rfl
     have HON := Lib.hid hon; have HCUR := Lib.hid hcur
     have g0 : gd.length = 0 := by rw [hgd]; rfl
     rw [g0] at HW2 HC ⊢; clear g0 HGD
     have a0 : ac.length = 0 := by rw [hac]; rfl
     rw [a0] at HW2 HC ⊢; clear a0 HAC
     have nev : XE.data.toList ≠ (⟨#[]⟩ : ByteArray).data.toList := by rw [hXEl]; exact hev
     have iev : XE.toList.isEmpty = false := by rw [List.isEmpty_eq_false_iff, Lib.toList_data, hXEl]; exact hev
     have nto : XT.data.toList ≠ (⟨#[]⟩ : ByteArray).data.toList := by rw [hXTl]; exact hto
     have ito : XT.toList.isEmpty = false := by rw [List.isEmpty_eq_false_iff, Lib.toList_data, hXTl]; exact hto
     clear hon hcur hev hgd hto hac hXE hXEl hXT hXTl hXG hXGl hXA hXAl nev nto
     go_enter Tryz.func57, Tryz.ntmps57
     go_upto_if 12 with fail
     rw [← HW2.out]
     obtain ⟨hz2, c1, c2, c3, c4⟩ := HC.out
     go_wp2_with fail
     go_at_call 54
     refine (line_at HH.out hl HB2.out d [wOn, ev, [45], tt, [45]] #[.string ⟨#[111, 110]⟩, .string XE, .string ⟨#[45]⟩, .string XT, .string ⟨#[45]⟩] 5 rfl HCUR.out (by omega) (by rw [← HON.out]; exact HLE.out)).mono ?_; rintro e w9 ⟨rfl, h1, h2, h3⟩
     go_wp2
     go_end0
     exact ⟨rfl, by rw [HON.out]; exact h1, h2, h3⟩
    ·have hon : onL ⟨fr, ev, gd, tt, ac⟩ = [wOn, ev, [45], tt, (showA ac).1] := by unfold onL; simp only []; rw [if_neg hev, if_pos hgd, if_neg hto, if_neg hac]
     have hcur : (#[.string ⟨#[111, 110]⟩, .string XE, .string ⟨#[45]⟩, .string XT, .string XA] : Array Value).toList = strsV [wOn, ev, [45], tt, (showA ac).1] := by simp only [strsV, List.map]; rw [hXE, hXT, hXA]; rfl
     have HON := Lib.hid hon; have HCUR := Lib.hid hcur
     have g0 : gd.length = 0 := by rw [hgd]; rfl
     rw [g0] at HW2 HC ⊢; clear g0 HGD
     have a0 : 0 < ac.length := List.length_pos_iff.2 hac
     have nev : XE.data.toList ≠ (⟨#[]⟩ : ByteArray).data.toList := by rw [hXEl]; exact hev
     have iev : XE.toList.isEmpty = false := by rw [List.isEmpty_eq_false_iff, Lib.toList_data, hXEl]; exact hev
     have nto : XT.data.toList ≠ (⟨#[]⟩ : ByteArray).data.toList := by rw [hXTl]; exact hto
     have ito : XT.toList.isEmpty = false := by rw [List.isEmpty_eq_false_iff, Lib.toList_data, hXTl]; exact hto
     clear hon hcur hev hgd hto hac hXE hXEl hXT hXTl hXG hXGl hXA hXAl nev nto
     go_enter Tryz.func57, Tryz.ntmps57
     go_upto_if 12 with fail
     rw [← HW2.out]
     obtain ⟨hz2, c1, c2, c3, c4⟩ := HC.out
     go_wp2_with fail
     go_at_call 99
     refine (HAC.out _ HB2.out).mono ?_; rintro e w4 ⟨rfl, hb4⟩
     have hbw4 : Below w.heap.size w w4 := HB2.out.trans (hb4.mono HB2.out.size)
     go_wp2_with fail
     go_at_call 54
     refine (line_at HH.out hl hbw4 d [wOn, ev, [45], tt, (showA ac).1] #[.string ⟨#[111, 110]⟩, .string XE, .string ⟨#[45]⟩, .string XT, .string XA] 5 rfl HCUR.out (by omega) (by rw [← HON.out]; exact HLE.out)).mono ?_; rintro e w9 ⟨rfl, h1, h2, h3⟩
     go_wp2
     go_end0
     exact ⟨rfl, by rw [HON.out]; exact h1, h2, h3⟩
  ·by_cases hto : tt = []
   ·by_cases hac : ac = []
    ·have hon : onL ⟨fr, ev, gd, tt, ac⟩ = [wOn, ev, (showP gd).1, [45], [45]] := by unfold onL; simp only []; rw [if_neg hev, if_neg hgd, if_pos hto, if_pos hac]
     have hcur : (#[.string ⟨#[111, 110]⟩, .string XE, .string XG, .string ⟨#[45]⟩, .string ⟨#[45]⟩] : Array Value).toList = strsV [wOn, ev, (showP gd).1, [45], [45]] := by simp only [strsV, List.map]; rw [hXE, hXG]; rfl
     have HON := Lib.hid hon; have HCUR := Lib.hid hcur
     have g0 : 0 < gd.length := List.length_pos_iff.2 hgd
     have a0 : ac.length = 0 := by rw [hac]; rfl
     rw [a0] at HW2 HC ⊢; clear a0 HAC
     have nev : XE.data.toList ≠ (⟨#[]⟩ : ByteArray).data.toList := by rw [hXEl]; exact hev
     have iev : XE.toList.isEmpty = false := by rw [List.isEmpty_eq_false_iff, Lib.toList_data, hXEl]; exact hev
     obtain rfl : XT = ⟨#[]⟩ := str_eq (by rw [hXTl, hto])
     clear hon hcur hev hgd hto hac hXE hXEl hXT hXTl hXG hXGl hXA hXAl nev
     go_enter Tryz.func57, Tryz.ntmps57
     go_upto_if 12 with fail
     rw [← HW2.out]
     obtain ⟨hz2, c1, c2, c3, c4⟩ := HC.out
     go_wp2_with fail
     go_at_call 100
     refine (HGD.out _ HB2.out).mono ?_; rintro e w3 ⟨rfl, hb3⟩
     have hw3 : Below w2.heap.size w2 w3 := hb3
     have hbw3 : Below w.heap.size w w3 := HB2.out.trans (hb3.mono HB2.out.size)
     obtain ⟨hq, _, _, q3, q4⟩ := HC.out
     have u3 := (Below.cell hw3 (p := ⟨w.heap.size, 3, none⟩) hq).trans q3; have u4 := (Below.cell hw3 (p := ⟨w.heap.size, 4, none⟩) hq).trans q4
     clear q3 q4 hq
     go_wp2_with fail
     go_at_call 54
     refine (line_at HH.out hl hbw3 d [wOn, ev, (showP gd).1, [45], [45]] #[.string ⟨#[111, 110]⟩, .string XE, .string XG, .string ⟨#[45]⟩, .string ⟨#[45]⟩] 5 rfl HCUR.out (by omega) (by rw [← HON.out]; exact HLE.out)).mono ?_; rintro e w9 ⟨rfl, h1, h2, h3⟩
     go_wp2
     go_end0
     exact ⟨rfl, by rw [HON.out]; exact h1, h2, h3⟩
    ·have hon : onL ⟨fr, ev, gd, tt, ac⟩ = [wOn, ev, (showP gd).1, [45], (showA ac).1] := by unfold onL; simp only []; rw [if_neg hev, if_neg hgd, if_pos hto, if_neg hac]
     have hcur : (#[.string ⟨#[111, 110]⟩, .string XE, .string XG, .string ⟨#[45]⟩, .string XA] : Array Value).toList = strsV [wOn, ev, (showP gd).1, [45], (showA ac).1] := by simp only [strsV, List.map]; rw [hXE, hXG, hXA]; rfl
     have HON := Lib.hid hon; have HCUR := Lib.hid hcur
     have g0 : 0 < gd.length := List.length_pos_iff.2 hgd
     have a0 : 0 < ac.length := List.length_pos_iff.2 hac
     have nev : XE.data.toList ≠ (⟨#[]⟩ : ByteArray).data.toList := by rw [hXEl]; exact hev
     have iev : XE.toList.isEmpty = false := by rw [List.isEmpty_eq_false_iff, Lib.toList_data, hXEl]; exact hev
     obtain rfl : XT = ⟨#[]⟩ := str_eq (by rw [hXTl, hto])
     clear hon hcur hev hgd hto hac hXE hXEl hXT hXTl hXG hXGl hXA hXAl nev
     go_enter Tryz.func57, Tryz.ntmps57
     go_upto_if 12 with fail
     rw [← HW2.out]
     obtain ⟨hz2, c1, c2, c3, c4⟩ := HC.out
     go_wp2_with fail
     go_at_call 100
     refine (HGD.out _ HB2.out).mono ?_; rintro e w3 ⟨rfl, hb3⟩
     have hw3 : Below w2.heap.size w2 w3 := hb3
     have hbw3 : Below w.heap.size w w3 := HB2.out.trans (hb3.mono HB2.out.size)
     obtain ⟨hq, _, _, q3, q4⟩ := HC.out
     have u3 := (Below.cell hw3 (p := ⟨w.heap.size, 3, none⟩) hq).trans q3; have u4 := (Below.cell hw3 (p := ⟨w.heap.size, 4, none⟩) hq).trans q4
     clear q3 q4 hq
     go_wp2_with fail
     go_at_call 99
     refine (HAC.out _ hbw3).mono ?_; rintro e w4 ⟨rfl, hb4⟩
     have hbw4 : Below w.heap.size w w4 := hbw3.trans (hb4.mono hbw3.size)
     go_wp2_with fail
     go_at_call 54
     refine (line_at HH.out hl hbw4 d [wOn, ev, (showP gd).1, [45], (showA ac).1] #[.string ⟨#[111, 110]⟩, .string XE, .string XG, .string ⟨#[45]⟩, .string XA] 5 rfl HCUR.out (by omega) (by rw [← HON.out]; exact HLE.out)).mono ?_; rintro e w9 ⟨rfl, h1, h2, h3⟩
     go_wp2
     go_end0
     exact ⟨rfl, by rw [HON.out]; exact h1, h2, h3⟩
   ·by_cases hac : ac = []
    ·have hon : onL ⟨fr, ev, gd, tt, ac⟩ = [wOn, ev, (showP gd).1, tt, [45]] := by unfold onL; simp only []; rw [if_neg hev, if_neg hgd, if_neg hto, if_pos hac]
     have hcur : (#[.string ⟨#[111, 110]⟩, .string XE, .string XG, .string XT, .string ⟨#[45]⟩] : Array Value).toList = strsV [wOn, ev, (showP gd).1, tt, [45]] := by simp only [strsV, List.map]; rw [hXE, hXG, hXT]; rfl
     have HON := Lib.hid hon; have HCUR := Lib.hid hcur
     have g0 : 0 < gd.length := List.length_pos_iff.2 hgd
     have a0 : ac.length = 0 := by rw [hac]; rfl
     rw [a0] at HW2 HC ⊢; clear a0 HAC
     have nev : XE.data.toList ≠ (⟨#[]⟩ : ByteArray).data.toList := by rw [hXEl]; exact hev
     have iev : XE.toList.isEmpty = false := by rw [List.isEmpty_eq_false_iff, Lib.toList_data, hXEl]; exact hev
     have nto : XT.data.toList ≠ (⟨#[]⟩ : ByteArray).data.toList := by rw [hXTl]; exact hto
     have ito : XT.toList.isEmpty = false := by rw [List.isEmpty_eq_false_iff, Lib.toList_data, hXTl]; exact hto
     clear hon hcur hev hgd hto hac hXE hXEl hXT hXTl hXG hXGl hXA hXAl nev nto
     go_enter Tryz.func57, Tryz.ntmps57
     go_upto_if 12 with fail
     rw [← HW2.out]
     obtain ⟨hz2, c1, c2, c3, c4⟩ := HC.out
     go_wp2_with fail
     go_at_call 100
     refine (HGD.out _ HB2.out).mono ?_; rintro e w3 ⟨rfl, hb3⟩
     have hw3 : Below w2.heap.size w2 w3 := hb3
     have hbw3 : Below w.heap.size w w3 := HB2.out.trans (hb3.mono HB2.out.size)
     obtain ⟨hq, _, _, q3, q4⟩ := HC.out
     have u3 := (Below.cell hw3 (p := ⟨w.heap.size, 3, none⟩) hq).trans q3; have u4 := (Below.cell hw3 (p := ⟨w.heap.size, 4, none⟩) hq).trans q4
     clear q3 q4 hq
     go_wp2_with fail
     go_at_call 54
     refine (line_at HH.out hl hbw3 d [wOn, ev, (showP gd).1, tt, [45]] #[.string ⟨#[111, 110]⟩, .string XE, .string XG, .string XT, .string ⟨#[45]⟩] 5 rfl HCUR.out (by omega) (by rw [← HON.out]; exact HLE.out)).mono ?_; rintro e w9 ⟨rfl, h1, h2, h3⟩
     go_wp2
     go_end0
     exact ⟨rfl, by rw [HON.out]; exact h1, h2, h3⟩
    ·have hon : onL ⟨fr, ev, gd, tt, ac⟩ = [wOn, ev, (showP gd).1, tt, (showA ac).1] := by unfold onL; simp only []; rw [if_neg hev, if_neg hgd, if_neg hto, if_neg hac]
     have hcur : (#[.string ⟨#[111, 110]⟩, .string XE, .string XG, .string XT, .string XA] : Array Value).toList = strsV [wOn, ev, (showP gd).1, tt, (showA ac).1] := by simp only [strsV, List.map]; rw [hXE, hXG, hXT, hXA]; rfl
     have HON := Lib.hid hon; have HCUR := Lib.hid hcur
     have g0 : 0 < gd.length := List.length_pos_iff.2 hgd
     have a0 : 0 < ac.length := List.length_pos_iff.2 hac
     have nev : XE.data.toList ≠ (⟨#[]⟩ : ByteArray).data.toList := by rw [hXEl]; exact hev
     have iev : XE.toList.isEmpty = false := by rw [List.isEmpty_eq_false_iff, Lib.toList_data, hXEl]; exact hev
     have nto : XT.data.toList ≠ (⟨#[]⟩ : ByteArray).data.toList := by rw [hXTl]; exact hto
     have ito : XT.toList.isEmpty = false := by rw [List.isEmpty_eq_false_iff, Lib.toList_data, hXTl]; exact hto
     clear hon hcur hev hgd hto hac hXE hXEl hXT hXTl hXG hXGl hXA hXAl nev nto
     go_enter Tryz.func57, Tryz.ntmps57
     go_upto_if 12 with fail
     rw [← HW2.out]
     obtain ⟨hz2, c1, c2, c3, c4⟩ := HC.out
     go_wp2_with fail
     go_at_call 100
     refine (HGD.out _ HB2.out).mono ?_; rintro e w3 ⟨rfl, hb3⟩
     have hw3 : Below w2.heap.size w2 w3 := hb3
     have hbw3 : Below w.heap.size w w3 := HB2.out.trans (hb3.mono HB2.out.size)
     obtain ⟨hq, _, _, q3, q4⟩ := HC.out
     have u3 := (Below.cell hw3 (p := ⟨w.heap.size, 3, none⟩) hq).trans q3; have u4 := (Below.cell hw3 (p := ⟨w.heap.size, 4, none⟩) hq).trans q4
     clear q3 q4 hq
     go_wp2_with fail
     go_at_call 99
     refine (HAC.out _ hbw3).mono ?_; rintro e w4 ⟨rfl, hb4⟩
     have hbw4 : Below w.heap.size w w4 := hbw3.trans (hb4.mono hbw3.size)
     go_wp2_with fail
     go_at_call 54
     refine (line_at HH.out hl hbw4 d [wOn, ev, (showP gd).1, tt, (showA ac).1] #[.string ⟨#[111, 110]⟩, .string XE, .string XG, .string XT, .string XA] 5 rfl HCUR.out (by omega) (by rw [← HON.out]; exact HLE.out)).mono ?_; rintro e w9 ⟨rfl, h1, h2, h3⟩
     go_wp2
     go_end0
     exact ⟨rfl, by rw [HON.out]; exact h1, h2, h3⟩
end Go.Proofs.YtdelihhbmagphaaGreatDoor.Ch
