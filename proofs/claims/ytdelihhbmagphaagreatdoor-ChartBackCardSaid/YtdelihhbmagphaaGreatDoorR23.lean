/- Own texts, joined: Bi, Zm. -/
import Derived.Test.YtdelihhbmagphaaGreatDoorR7
import Derived.Test.YtdelihhbmagphaaGreatDoorR16
import Derived.Test.YtdelihhbmagphaaGreatDoorR20
import Derived.Test.YtdelihhbmagphaaGreatDoorR22
namespace Go.Proofs.YtdelihhbmagphaaGreatDoor.Ch
open Go.RowKit
section
variable {P : Program} {ops : Array Oper} {md : Region.Mode} {Q : Exit → Act → World → Prop} {K : Act → World → Prop} {a : Act} {w : World} {listed : Array Bool}
def invB (ops : Array Oper) (n : Nat) (listed : Array Bool) : Bool :=
 decide (listed.size = ops.size) && ((List.range ops.size).all fun j => match ops[j]? with
  | some oj => !listed.getD j false || oj.after.all fun e => !Region.binds .any e || listed.getD e.on false
  | none => true) && (List.range ops.size).all fun t => decide (t < n) || !listed.getD t true
theorem invB_spec {n : Nat} (h : invB ops n listed = true) : HeadInv .any ops n listed := by
 unfold invB at h
 simp only [Bool.and_eq_true, decide_eq_true_eq, List.all_eq_true, List.mem_range, Bool.or_eq_true, Bool.not_eq_true'] at h
 obtain ⟨⟨h1, h2⟩, h3⟩ := h
 refine ⟨h1, fun j oj hj hl e he hb => ?_, fun t ht ht' => ?_⟩
 ·have := h2 j (Array.getElem?_eq_some_iff.1 hj).1
  rw [hj] at this
  simp only [Bool.or_eq_true, Bool.not_eq_true'] at this
  rcases this with h | h
  ·rw [hl] at h; cases h
  ·have := (Array.all_eq_true'.1 h) e he
   simp only [Bool.or_eq_true, Bool.not_eq_true'] at this
   rcases this with h | h
   ·rw [hb] at h; cases h
   ·exact h
 ·rcases h3 t ht' with h | h
  ·omega
  ·exact h
structure StillI (P : Program) (ops : Array Oper) (w : World) (Q : Act → Prop) (l : List Oper) (a : Act) : Prop where
 out : wpStill P ops w Q l a
theorem StillI.step {Q : Act → Prop} {o : Oper} {rest : List Oper} (h : ∀ K : Act → Prop, (∀ a, StillI P ops w Q rest a → K a) → if Region.wanted o (yielded ops a.tmps) then o.still P a w K else K (a.put o.dst undef)) : StillI P ops w Q (o :: rest) a :=
 ⟨wpStill_step (fun K hK => h K (fun a h => hK a h.out))⟩
theorem StillI.nil {Q : Act → Prop} (h : Q a) : StillI P ops w Q [] a := ⟨wpStill_nil h⟩
theorem wpAny_mid {l : List Oper} (n k m : Nat) (L : Array Bool) (hL : listed = L) (hB : (Region.noSelect l.toArray && decide (n < l.toArray.size) && Region.sinkB .any l.toArray n && Region.chainB .any l.toArray n && Region.lexHead .any l.toArray (l.toArray.size - n) (n - k) k L && invB l.toArray n L && decide (k ≤ n) && decide (m = (n - k) + (l.toArray.size - n))) = true)
  (h : StillI P l.toArray w (fun a' => wpList P l.toArray Q (l.drop n) a' w) ((l.take n).drop k) a) : wpAny P .any l.toArray Q m listed a w := by
 subst hL
 replace h := h.out
 simp only [Bool.and_eq_true, decide_eq_true_eq] at hB
 obtain ⟨⟨⟨⟨⟨⟨⟨hsel, hn⟩, hs⟩, hc⟩, hlex⟩, hinv⟩, hk⟩, hm⟩ := hB
 have hn' : n < l.length := by simpa using hn
 have htl : ((l.take n).drop k).length = n - k := by simp; omega
 have hdl : (l.drop n).length = l.toArray.size - n := by simp
 have H := wpAnyL_lex (md := .any) (g := l.toArray.size - n) hsel hs hc hn ((l.take n).drop k) k _ a (fun j hj => by
  have hj' : j < n - k := by rw [htl] at hj; exact hj
  rw [List.getElem?_drop, List.getElem?_take_of_lt (by omega)]; simp) (by rw [htl]; omega) (invB_spec hinv) (by rw [htl]; exact hlex) h
 have := wpAny_of_head (Q' := Q) (g := l.toArray.size - n) (fun listed a' hL => by
  have := wpAny_of_seq (md := .any) (Q' := Q) (l.drop n) n listed a' w (fun j => by simp [List.getElem?_drop]) (by rw [hdl]; exact hL.1) hL.2
  rwa [hdl] at this) _ _ _ H
 rw [htl, ← hm] at this
 exact this
theorem wpAny_two {fuel : Nat} (i j : Nat) (hr : Region.ready md ops listed = [i, j]) (h1 : wpOp P ops Q i (wpAny P md ops Q fuel (listed.setIfInBounds i true)) a w) (h2 : wpOp P ops Q j (wpAny P md ops Q fuel (listed.setIfInBounds j true)) a w) : wpAny P md ops Q (fuel + 1) listed a w := by
 refine ⟨fun e => (by rw [hr] at e; cases e), fun q hq => ?_⟩
 rw [hr] at hq
 simp only [List.mem_cons, List.not_mem_nil, or_false] at hq
 rcases hq with rfl | rfl
 ·exact h1
 ·exact h2
theorem wpAny_one {fuel : Nat} (i : Nat) (hr : Region.ready md ops listed = [i]) (h1 : wpOp P ops Q i (wpAny P md ops Q fuel (listed.setIfInBounds i true)) a w) : wpAny P md ops Q (fuel + 1) listed a w := by
 refine ⟨fun e => (by rw [hr] at e; cases e), fun q hq => ?_⟩
 rw [hr] at hq
 simp only [List.mem_cons, List.not_mem_nil, or_false] at hq
 subst hq
 exact h1
theorem wpOp_at {i : Nat} {o : Oper} (ho : ops[i]? = some o) (hg : Region.wanted o (yielded ops a.tmps) = true) (h : ∀ K' : Act → World → Prop, (∀ a w, K a w → K' a w) → Oper.wp P o a w K' Q) : wpOp P ops Q i K a w := by
 unfold wpOp
 simp only [ho, hg, if_true]
 exact Or.inl (h K (fun _ _ h => h))
end
def L25 : Array Bool := #[true, true, true, true, false, false, false, false, false, false, false, false, false, false, false, false, false, false, false, false, false, false, false, false, false]
theorem BlkO.low {B B' : Nat} {w : World} {v : Value} {l : List AM} (h : BlkO B' w v l) (hb : B ≤ B') : BlkO B w v l := by
 obtain ⟨al, h1, h2, h3⟩ := h
 exact ⟨al, h1, own_lower h2 hb, fun p hp => ⟨own_lower (h3 p hp).own hb, (h3 p hp).len, (h3 p hp).names, (h3 p hp).name⟩⟩
theorem set_last {α : Type} {l : List α} {k : Nat} (hk : l.length = k + 1) (x : α) : l.set k x = l.dropLast ++ [x] := by
 obtain ⟨l', s, rfl⟩ : ∃ l' s, l = l' ++ [s] := by
  have hne : l ≠ [] := fun e => by rw [e] at hk; cases hk
  exact ⟨l.dropLast, l.getLast hne, (List.dropLast_concat_getLast hne).symm⟩
 have : k = l'.length := by simpa using hk.symm
 subst this
 simp
theorem flatS_set {sp : List SP} {k : Nat} (hk : k < sp.length) {p' : SP} {j : Nat} (hj : j < 6) {v : Value} (hp : stV p' = (stV sp[k]).set j v) : flatS (sp.set k p') = (flatS sp).set (k * 6 + j) v := by
 induction sp generalizing k with
 | nil => simp at hk
 | cons x r ih =>
  cases k with
  | zero =>
   show stV p' ++ flatS r = (stV x ++ flatS r).set _ v
   rw [List.set_append_left _ _ (by show _ < 6; omega)]
   rw [hp]; simp
  | succ q =>
   show stV x ++ flatS (r.set q p') = (stV x ++ flatS r).set _ v
   rw [List.set_append_right _ _ (by show 6 ≤ _; omega), ih (by simpa using hk) hp]
   have e : (q + 1) * 6 + j - (stV x).length = q * 6 + j := by show _ - 6 = _; omega
   rw [e]
section
variable {b B : Nat} {T : TypeId} {w : World} {c : CH} {eV vV tV : Value} {sp : List SP} {tp : List TP} {g cap k : Nat}
theorem OwnCh.setLast (h : OwnCh b B T w c eV vV (.slice (some ⟨g, 0, none⟩) sp.length cap) tV sp tp) (hk : sp.length = k + 1) {p' : SP} {j : Nat} (hj : j < 6) {v : Value} (hp : stV p' = (stV (sp[k]'(by omega))).set j v) (hv : BlkO B w p'.2.1 p'.1.en ∧ BlkO B w p'.2.2 p'.1.ex) :
  OwnCh b B T (w.setCell ⟨g, k * 6 + j, none⟩ v) { c with ss := c.ss.dropLast ++ [p'.1] } eV vV (.slice (some ⟨g, 0, none⟩) sp.length cap) tV (sp.set k p') tp ∧ KeptB b B w (w.setCell ⟨g, k * 6 + j, none⟩ v) := by
 obtain ⟨cur, hBg, hg, _⟩ := own_cells h.ss
 have hgr : w.grownBy (w.setCell ⟨g, k * 6 + j, none⟩ v) (some g) := ⟨rfl, rfl, rfl, (KeepsWalks.setCell w _ v).size, fun q _ hq => Below.heap_setCell _ _ _ q (fun e => hq (by rw [e]))⟩
 have hki := KeepI.of_grown hgr hg (by decide) (by decide)
 have hlt := h.lt
 have hcl : c.ss.length = k + 1 := by rw [← SP.len h.ssE]; exact hk
 refine ⟨⟨(Below.heap_setCell _ _ _ b (by show b ≠ g; omega)).trans h.box, h.lt, Nat.le_trans h.le hgr.size, own_kept_ne h.es hgr hg (by decide), own_kept_ne h.vs hgr hg (by decide), ?_, ?_, h.tsE, own_kept_ne h.ts hgr hg (by decide), fun q hq => ?_, fun q hq => ⟨(h.td q hq).1.keep hki, (h.td q hq).2.keep hki⟩⟩,
  KeptB.of_grown hgr h.le (fun q hq => Or.inr (by have := Option.some.inj hq; omega)) (fun q hq => by cases hq; exact ⟨_, _, _, hg⟩)⟩
 ·rw [List.map_set, h.ssE, set_last hcl]
 ·rw [List.length_set, flatS_set (by omega) hj hp]
  exact own_set h.ss _ _
 ·rcases List.mem_or_eq_of_mem_set hq with hq | rfl
  ·exact ⟨(h.sd q hq).1.keep hki, (h.sd q hq).2.keep hki⟩
  ·exact ⟨hv.1.keep hki, hv.2.keep hki⟩
end
set_option maxRecDepth 100000 in
set_option maxHeartbeats 4000000 in
theorem once_any (g i : Nat) (A : Option Addr) (n cc : Nat) (X : ByteArray) (w : World) (hc : w.cell? ⟨g, i, none⟩ = some (.slice A n cc)) (hf : w.frozen? ⟨g, i, none⟩ = false) (hg : g < w.heap.size) (hE : Env w) (hX : X.size ≤ 6000) :
  Calls Tryz.prog 79 #[.pointer (some ⟨g, i, none⟩), .string X] w fun e w' => (0 < n ∧ e = .returned (.bool false) ∧ w' = w) ∨
   (n = 0 ∧ e = .returned (.bool ((parseA X.data.toList).2 == 0)) ∧ ∃ v w2, w' = w2.setCell ⟨g, i, none⟩ v ∧ BlkO w.heap.size w2 v (parseA X.data.toList).1 ∧ Below w.heap.size w w2) := by
 have HP := Lib.hid (parseA_any X w hE.ops hE.ml (by omega))
 clear hE hX
 rcases Nat.eq_zero_or_pos n with rfl | hn
 ·go_enter Tryz.func79, Tryz.ntmps79
  go_wp2_with fail
  refine HP.out.mono ?_
  rintro e w2 ⟨v, ps, rfl, h1, h2, h3, hb⟩
  obtain ⟨Av, cv, rfl⟩ := own_slice h2
  have hf2 : w2.frozen? ⟨g, i, none⟩ = false := (World.frozen?_of_block (a := ⟨g, i, none⟩) (hb.block g hg)).trans hf
  have hc2 : w2.cell? ⟨g, i, none⟩ = _ := (hb.cell hg).trans hc
  have HBL : Hid (BlkO w.heap.size w2 (.slice Av ps.length cv) (parseA X.data.toList).1) := ⟨ps, h1, h2, h3⟩
  have HB := Lib.hid hb
  clear h1 h2 h3 hb
  go_wp2
  go_ret
  exact Or.inr ⟨by first | rfl | trivial, rfl, _, w2, rfl, HBL.out, HB.out⟩
 ·go_enter Tryz.func79, Tryz.ntmps79
  go_wp2
  go_ret
  exact Or.inl ⟨hn, rfl, rfl⟩
set_option maxRecDepth 100000 in
set_option maxHeartbeats 8000000 in
theorem entry_m : Method 42 entryS := by
 intro b B w0 w c eV vV sV tV sp tp d F A cp r h hw hB hd hrl hr hx hE
 obtain ⟨w1, hw1⟩ : ∃ W, W = w.alloc (.cells #[.int .i64 d, .string F, .slice A r.length cp] 51) := ⟨_, rfl⟩
 have hb1 : Below w.heap.size w w1 := hw1 ▸ (Below.refl w.heap.size w).alloc (Nat.le_refl _) _
 have hx1 : w1.heap[w.heap.size]? = some (.cells #[.int .i64 d, .string F, .slice A r.length cp] 51 (0, 0)) := by rw [hw1]; exact heap_alloc_new w _
 obtain ⟨d0, d1, d2⟩ : w1.cell? ⟨w.heap.size, 0, none⟩ = some (.int .i64 d) ∧ w1.cell? ⟨w.heap.size, 1, none⟩ = some (.string F) ∧ w1.cell? ⟨w.heap.size, 2, none⟩ = some (.slice A r.length cp) := by simp [World.cell?, hx1]
 have hsz1 := lt_of_heap hx1
 have h1 : OwnCh b B 44 w1.drew c eV vV sV tV sp tp := ((h.below hw).below hb1).below (Below.refl _ _).drew
 have hle0 := h.le
 have hzw := hw.size
 have hz01 := hb1.size
 have HD := Lib.hid (isPart_any h1 hB d 1 F A cp r hrl (by omega) (by omega))
 have HR := Lib.hid (hr.below hb1); have H1 := Lib.hid h1; have HW := Lib.hid hw1; have HBd := Lib.hid hB
 have hxs := wd_len hx 0
 have HE : Hid (Env w1.drew) := (hE.below hb1).below (Below.refl _ _).drew
 have HK : Hid (KeptB b B w w1.drew) := KeptB.of_below hb1.drew (by omega)
 have hdp := hB.dp
 have hss := hB.ss
 clear h hw hB h1 hr hb1 hw1 hE hx hx1 hd
 obtain ⟨q1, hq1⟩ : ∃ q, partB c d 1 r = q := ⟨_, rfl⟩
 have HQ := Lib.hid hq1
 rw [hq1] at HD
 clear hq1
 cases q1 with
 | false =>
  have hv : entryS c d r = none := by unfold entryS; rw [HQ.out]; rfl
  have HV := Lib.hid hv; clear hv hdp hss hxs
  generalize r.length = rl at *
  go_enter Tryz.func42, Tryz.ntmps42
  go_wp2_with fail
  rw [← HW.out]
  refine wp_region_any (by kernel_rfl) ?_
  refine wpAny_two (fuel := 24) 0 1 (by kernel_rfl) ?_ ?_
  ·refine wpOp_at rfl rfl (fun K0 hK0 => ?_)
   go_simp
   refine hK0 _ _ ?_
   clear hK0 K0
   refine wpAny_one (fuel := 23) 1 (by kernel_rfl) (wpOp_at rfl rfl (fun K0 hK0 => ?_))
   go_simp
   refine hK0 _ _ ?_
   clear hK0 K0
   refine wpAny_one (fuel := 22) 2 (by kernel_rfl) (wpOp_at rfl rfl (fun K0 hK0 => ?_))
   go_simp
   refine HD.out.mono ?_
   rintro e w2 ⟨rfl, hb2⟩
   go_simp
   refine hK0 _ _ ?_
   clear hK0 K0
   refine wpAny_one (fuel := 21) 3 (by kernel_rfl) (wpOp_at rfl rfl (fun K0 hK0 => ?_))
   go_simp
   refine hK0 _ _ ?_
   clear hK0 K0
   refine wpAny_mid 22 4 21 L25 (by kernel_rfl) (by kernel_rfl) ?_
   simp only [List.take_succ_cons, List.take_zero, List.drop_succ_cons, List.drop_zero]
   repeat (refine StillI.step (fun K hK => ?_); go_simp; refine hK _ ?_; clear hK K)
   refine StillI.nil ?_
   have HK2 : Hid (KeptB b B w w2) := HK.out.trans (KeptB.of_below hb2 (by show B ≤ w1.heap.size; omega))
   clear hb2
   go_wp2
   go_ret
   exact MPost.no HV.out HK2.out
  ·refine wpOp_at rfl rfl (fun K0 hK0 => ?_)
   go_simp
   refine hK0 _ _ ?_
   clear hK0 K0
   refine wpAny_one (fuel := 23) 0 (by kernel_rfl) (wpOp_at rfl rfl (fun K0 hK0 => ?_))
   go_simp
   refine hK0 _ _ ?_
   clear hK0 K0
   refine wpAny_one (fuel := 22) 2 (by kernel_rfl) (wpOp_at rfl rfl (fun K0 hK0 => ?_))
   go_simp
   refine HD.out.mono ?_
   rintro e w2 ⟨rfl, hb2⟩
   go_simp
   refine hK0 _ _ ?_
   clear hK0 K0
   refine wpAny_one (fuel := 21) 3 (by kernel_rfl) (wpOp_at rfl rfl (fun K0 hK0 => ?_))
   go_simp
   refine hK0 _ _ ?_
   clear hK0 K0
   refine wpAny_mid 22 4 21 L25 (by kernel_rfl) (by kernel_rfl) ?_
   simp only [List.take_succ_cons, List.take_zero, List.drop_succ_cons, List.drop_zero]
   repeat (refine StillI.step (fun K hK => ?_); go_simp; refine hK _ ?_; clear hK K)
   refine StillI.nil ?_
   have HK2 : Hid (KeptB b B w w2) := HK.out.trans (KeptB.of_below hb2 (by show B ≤ w1.heap.size; omega))
   clear hb2
   go_wp2
   go_ret
   exact MPost.no HV.out HK2.out
 | true =>
  have hpp := HQ.out
  unfold partB at hpp
  simp only [Bool.and_eq_true, decide_eq_true_eq, Bool.not_eq_true', List.isEmpty_eq_false_iff] at hpp
  obtain ⟨⟨hne, hdr⟩, hr1⟩ := hpp
  clear hdr
  have hsl := SP.len H1.out.ssE
  have hpos : 0 < c.ss.length := List.length_pos_iff.2 hne
  obtain ⟨k, hk⟩ : ∃ k, sp.length = k + 1 := ⟨sp.length - 1, by omega⟩
  obtain ⟨gs, cs, rfl⟩ := own_slice H1.out.ss
  obtain ⟨g, rfl⟩ : ∃ g, gs = some ⟨g, 0, none⟩ := by
   have hh := H1.out.ss
   rw [hk] at hh
   obtain ⟨g, cap, e⟩ := ownsRow_succ (xs := flatS sp) (by rw [← hk]; rw [← hk] at hh; rw [hk]; rw [hk] at hh; exact hh)
   simp only [Value.slice.injEq] at e
   exact ⟨g, e.1⟩
  obtain ⟨q, o, rfl, hq0, hq2, hc⟩ := HR.out.all (by omega)
  obtain ⟨X, hX, hXl⟩ := bstr_some (wd r 0)
  have c0 := hc 0 (by omega)
  rw [hX, Nat.add_zero] at c0
  have hXs : X.size ≤ 6000 := by rw [Lib.size_eq, hXl]; exact hxs
  have hkm : k < 1000000 := by omega
  have hkw : IntKind.i64.wrap (k : Int) = (k : Int) := IntWalk.i64_in _ (by omega)
  have hk1 : (k : Int) < (k : Int) + 1 := by omega
  obtain ⟨_, hlast⟩ := ss_last H1.out.ssE hk
  have hv : entryS c d r = if (sp[k]'(by omega)).1.en.length = 0 ∧ (parseA X.data.toList).2 = 0 then some { c with ss := c.ss.dropLast ++ [{ (sp[k]'(by omega)).1 with en := (parseA X.data.toList).1 }] } else none := by
   unfold entryS; rw [HQ.out, if_pos rfl, hXl]; unfold lastS; rw [hlast]; simp only; split <;> simp_all
  have HV := Lib.hid hv
  clear hv hlast
  have HXL := Lib.hid hXl
  rw [hr1] at HW d2 HD ⊢
  clear hX hXl hc hxs hne hpos hss hdp
  go_enter Tryz.func42, Tryz.ntmps42
  go_wp2_with fail
  rw [← HW.out]
  refine wp_region_any (by kernel_rfl) ?_
  refine wpAny_two (fuel := 24) 0 1 (by kernel_rfl) ?_ ?_
  ·refine wpOp_at rfl rfl (fun K0 hK0 => ?_)
   go_simp
   refine hK0 _ _ ?_
   clear hK0 K0
   refine wpAny_one (fuel := 23) 1 (by kernel_rfl) (wpOp_at rfl rfl (fun K0 hK0 => ?_))
   go_simp
   refine hK0 _ _ ?_
   clear hK0 K0
   refine wpAny_one (fuel := 22) 2 (by kernel_rfl) (wpOp_at rfl rfl (fun K0 hK0 => ?_))
   go_simp
   refine HD.out.mono ?_
   rintro e w2 ⟨rfl, hb2⟩
   go_simp
   refine hK0 _ _ ?_
   clear hK0 K0
   refine wpAny_one (fuel := 21) 3 (by kernel_rfl) (wpOp_at rfl rfl (fun K0 hK0 => ?_))
   go_simp
   refine hK0 _ _ ?_
   clear hK0 K0
   have HO := Lib.hid (H1.out.below hb2)
   have HK2 : Hid (KeptB b B w w2) := HK.out.trans (KeptB.of_below hb2 (by show B ≤ w1.heap.size; omega))
   have HE2 := Lib.hid (HE.out.below hb2)
   obtain ⟨_, _, _, b3, _⟩ := HO.out.cells
   replace d2 := (hb2.cell (show w.heap.size < w1.drew.heap.size by show _ < w1.heap.size; omega)).trans d2
   replace c0 := (hb2.cell (show q < w1.drew.heap.size from hq2)).trans c0
   have sc := (Inn.of_own HO.out.ss).at_ (show k < sp.length by omega)
   obtain ⟨bs, os, e0, hgl, hcs⟩ := sc
   simp only [Option.some.injEq, Addr.mk.injEq, and_true] at e0
   obtain ⟨rfl, rfl⟩ := e0
   have s4 := hcs 4 _ ((flatM_at stV 6 (fun _ => rfl) (show k < sp.length by omega) (by omega : 4 < 6)).trans rfl)
   have f4 := own_frozen HO.out.ss (k * 6 + 4)
   rw [Nat.zero_add] at s4
   obtain ⟨Ae, ce, hee⟩ := BlkO.form ((HO.out.sd _ (List.getElem_mem (show k < sp.length by omega))).1)
   have hse : (sp[k]'(by omega)).2.1 = .slice Ae (sp[k]'(by omega)).1.en.length ce := hee
   rw [hse] at s4
   have HON := Lib.hid (once_any g (k * 6 + 4) Ae _ ce X w2 s4 f4 hgl HE2.out hXs)
   have HB2 := Lib.hid hb2
   rw [hk] at b3
   clear hb2 hcs hee hse
   refine wpAny_mid 22 4 21 L25 (by kernel_rfl) (by kernel_rfl) ?_
   simp only [List.take_succ_cons, List.take_zero, List.drop_succ_cons, List.drop_zero]
   repeat (refine StillI.step (fun K hK => ?_); go_simp; refine hK _ ?_; clear hK K)
   refine StillI.nil ?_
   go_wp2_with fail
   refine HON.out.mono ?_
   rintro e w3 (⟨hn, rfl, rfl⟩ | ⟨hn, rfl, v, w4, rfl, hbl, hb4⟩)
   ·have hv : entryS c d r = none := by rw [HV.out, if_neg (by omega)]
    have HV2 := Lib.hid hv
    clear hv hn
    go_wp2
    go_ret
    exact MPost.no HV2.out HK2.out
   ·have hsz4 := hb4.size
    have hB2 := HO.out.le
    have hS := (HO.out.below hb4).setLast hk (j := 4) (by omega) (p' := ({ (sp[k]'(by omega)).1 with en := (parseA X.data.toList).1 }, v, (sp[k]'(by omega)).2.2)) (v := v) rfl ⟨hbl.low hB2, ((HO.out.below hb4).sd _ (List.getElem_mem (show k < sp.length by omega))).2⟩
    have HS := Lib.hid hS
    have HK4 : Hid (KeptB b B w (w4.setCell ⟨g, k * 6 + 4, none⟩ v)) := HK2.out.trans ((KeptB.of_below hb4 hB2).trans hS.2)
    have hv : entryS c d r = if (parseA X.data.toList).2 = 0 then some { c with ss := c.ss.dropLast ++ [{ (sp[k]'(by omega)).1 with en := (parseA X.data.toList).1 }] } else none := by
     rw [HV.out]; simp only [hn, true_and]
    have HV2 := Lib.hid hv
    clear hv hn hS hbl hb4
    generalize (parseA X.data.toList).2 = er at *
    by_cases he : er = 0
    ·subst he
     go_wp2
     go_ret
     exact ret_true (by rw [HV2.out]; simp) HK4.out ⟨_, _, _, _, _, _, HS.out.1⟩
    ·have hb : (er == 0) = false := int_ne he
     rw [hb]
     have hv3 : entryS c d r = none := by rw [HV2.out, if_neg he]
     have HV3 := Lib.hid hv3
     clear hb he hv3
     go_wp2
     go_ret
     exact MPost.no HV3.out HK4.out
  ·refine wpOp_at rfl rfl (fun K0 hK0 => ?_)
   go_simp
   refine hK0 _ _ ?_
   clear hK0 K0
   refine wpAny_one (fuel := 23) 0 (by kernel_rfl) (wpOp_at rfl rfl (fun K0 hK0 => ?_))
   go_simp
   refine hK0 _ _ ?_
   clear hK0 K0
   refine wpAny_one (fuel := 22) 2 (by kernel_rfl) (wpOp_at rfl rfl (fun K0 hK0 => ?_))
   go_simp
   refine HD.out.mono ?_
   rintro e w2 ⟨rfl, hb2⟩
   go_simp
   refine hK0 _ _ ?_
   clear hK0 K0
   refine wpAny_one (fuel := 21) 3 (by kernel_rfl) (wpOp_at rfl rfl (fun K0 hK0 => ?_))
   go_simp
   refine hK0 _ _ ?_
   clear hK0 K0
   have HO := Lib.hid (H1.out.below hb2)
   have HK2 : Hid (KeptB b B w w2) := HK.out.trans (KeptB.of_below hb2 (by show B ≤ w1.heap.size; omega))
   have HE2 := Lib.hid (HE.out.below hb2)
   obtain ⟨_, _, _, b3, _⟩ := HO.out.cells
   replace d2 := (hb2.cell (show w.heap.size < w1.drew.heap.size by show _ < w1.heap.size; omega)).trans d2
   replace c0 := (hb2.cell (show q < w1.drew.heap.size from hq2)).trans c0
   have sc := (Inn.of_own HO.out.ss).at_ (show k < sp.length by omega)
   obtain ⟨bs, os, e0, hgl, hcs⟩ := sc
   simp only [Option.some.injEq, Addr.mk.injEq, and_true] at e0
   obtain ⟨rfl, rfl⟩ := e0
   have s4 := hcs 4 _ ((flatM_at stV 6 (fun _ => rfl) (show k < sp.length by omega) (by omega : 4 < 6)).trans rfl)
   have f4 := own_frozen HO.out.ss (k * 6 + 4)
   rw [Nat.zero_add] at s4
   obtain ⟨Ae, ce, hee⟩ := BlkO.form ((HO.out.sd _ (List.getElem_mem (show k < sp.length by omega))).1)
   have hse : (sp[k]'(by omega)).2.1 = .slice Ae (sp[k]'(by omega)).1.en.length ce := hee
   rw [hse] at s4
   have HON := Lib.hid (once_any g (k * 6 + 4) Ae _ ce X w2 s4 f4 hgl HE2.out hXs)
   have HB2 := Lib.hid hb2
   rw [hk] at b3
   clear hb2 hcs hee hse
   refine wpAny_mid 22 4 21 L25 (by kernel_rfl) (by kernel_rfl) ?_
   simp only [List.take_succ_cons, List.take_zero, List.drop_succ_cons, List.drop_zero]
   repeat (refine StillI.step (fun K hK => ?_); go_simp; refine hK _ ?_; clear hK K)
   refine StillI.nil ?_
   go_wp2_with fail
   refine HON.out.mono ?_
   rintro e w3 (⟨hn, rfl, rfl⟩ | ⟨hn, rfl, v, w4, rfl, hbl, hb4⟩)
   ·have hv : entryS c d r = none := by rw [HV.out, if_neg (by omega)]
    have HV2 := Lib.hid hv
    clear hv hn
    go_wp2
    go_ret
    exact MPost.no HV2.out HK2.out
   ·have hsz4 := hb4.size
    have hB2 := HO.out.le
    have hS := (HO.out.below hb4).setLast hk (j := 4) (by omega) (p' := ({ (sp[k]'(by omega)).1 with en := (parseA X.data.toList).1 }, v, (sp[k]'(by omega)).2.2)) (v := v) rfl ⟨hbl.low hB2, ((HO.out.below hb4).sd _ (List.getElem_mem (show k < sp.length by omega))).2⟩
    have HS := Lib.hid hS
    have HK4 : Hid (KeptB b B w (w4.setCell ⟨g, k * 6 + 4, none⟩ v)) := HK2.out.trans ((KeptB.of_below hb4 hB2).trans hS.2)
    have hv : entryS c d r = if (parseA X.data.toList).2 = 0 then some { c with ss := c.ss.dropLast ++ [{ (sp[k]'(by omega)).1 with en := (parseA X.data.toList).1 }] } else none := by
     rw [HV.out]; simp only [hn, true_and]
    have HV2 := Lib.hid hv
    clear hv hn hS hbl hb4
    generalize (parseA X.data.toList).2 = er at *
    by_cases he : er = 0
    ·subst he
     go_wp2
     go_ret
     exact ret_true (by rw [HV2.out]; simp) HK4.out ⟨_, _, _, _, _, _, HS.out.1⟩
    ·have hb : (er == 0) = false := int_ne he
     rw [hb]
     have hv3 : entryS c d r = none := by rw [HV2.out, if_neg he]
     have HV3 := Lib.hid hv3
     clear hb he hv3
     go_wp2
     go_ret
     exact MPost.no HV3.out HK4.out
set_option maxRecDepth 100000 in
set_option maxHeartbeats 8000000 in
theorem exit_m : Method 43 exitS := by
 intro b B w0 w c eV vV sV tV sp tp d F A cp r h hw hB hd hrl hr hx hE
 obtain ⟨w1, hw1⟩ : ∃ W, W = w.alloc (.cells #[.int .i64 d, .string F, .slice A r.length cp] 51) := ⟨_, rfl⟩
 have hb1 : Below w.heap.size w w1 := hw1 ▸ (Below.refl w.heap.size w).alloc (Nat.le_refl _) _
 have hx1 : w1.heap[w.heap.size]? = some (.cells #[.int .i64 d, .string F, .slice A r.length cp] 51 (0, 0)) := by rw [hw1]; exact heap_alloc_new w _
 obtain ⟨d0, d1, d2⟩ : w1.cell? ⟨w.heap.size, 0, none⟩ = some (.int .i64 d) ∧ w1.cell? ⟨w.heap.size, 1, none⟩ = some (.string F) ∧ w1.cell? ⟨w.heap.size, 2, none⟩ = some (.slice A r.length cp) := by simp [World.cell?, hx1]
 have hsz1 := lt_of_heap hx1
 have h1 : OwnCh b B 44 w1.drew c eV vV sV tV sp tp := ((h.below hw).below hb1).below (Below.refl _ _).drew
 have hle0 := h.le
 have hzw := hw.size
 have hz01 := hb1.size
 have HD := Lib.hid (isPart_any h1 hB d 1 F A cp r hrl (by omega) (by omega))
 have HR := Lib.hid (hr.below hb1); have H1 := Lib.hid h1; have HW := Lib.hid hw1; have HBd := Lib.hid hB
 have hxs := wd_len hx 0
 have HE : Hid (Env w1.drew) := (hE.below hb1).below (Below.refl _ _).drew
 have HK : Hid (KeptB b B w w1.drew) := KeptB.of_below hb1.drew (by omega)
 have hdp := hB.dp
 have hss := hB.ss
 clear h hw hB h1 hr hb1 hw1 hE hx hx1 hd
 obtain ⟨q1, hq1⟩ : ∃ q, partB c d 1 r = q := ⟨_, rfl⟩
 have HQ := Lib.hid hq1
 rw [hq1] at HD
 clear hq1
 cases q1 with
 | false =>
  have hv : exitS c d r = none := by unfold exitS; rw [HQ.out]; rfl
  have HV := Lib.hid hv; clear hv hdp hss hxs
  generalize r.length = rl at *
  go_enter Tryz.func43, Tryz.ntmps43
  go_wp2_with fail
  rw [← HW.out]
  refine wp_region_any (by kernel_rfl) ?_
  refine wpAny_two (fuel := 24) 0 1 (by kernel_rfl) ?_ ?_
  ·refine wpOp_at rfl rfl (fun K0 hK0 => ?_)
   go_simp
   refine hK0 _ _ ?_
   clear hK0 K0
   refine wpAny_one (fuel := 23) 1 (by kernel_rfl) (wpOp_at rfl rfl (fun K0 hK0 => ?_))
   go_simp
   refine hK0 _ _ ?_
   clear hK0 K0
   refine wpAny_one (fuel := 22) 2 (by kernel_rfl) (wpOp_at rfl rfl (fun K0 hK0 => ?_))
   go_simp
   refine HD.out.mono ?_
   rintro e w2 ⟨rfl, hb2⟩
   go_simp
   refine hK0 _ _ ?_
   clear hK0 K0
   refine wpAny_one (fuel := 21) 3 (by kernel_rfl) (wpOp_at rfl rfl (fun K0 hK0 => ?_))
   go_simp
   refine hK0 _ _ ?_
   clear hK0 K0
   refine wpAny_mid 22 4 21 L25 (by kernel_rfl) (by kernel_rfl) ?_
   simp only [List.take_succ_cons, List.take_zero, List.drop_succ_cons, List.drop_zero]
   repeat (refine StillI.step (fun K hK => ?_); go_simp; refine hK _ ?_; clear hK K)
   refine StillI.nil ?_
   have HK2 : Hid (KeptB b B w w2) := HK.out.trans (KeptB.of_below hb2 (by show B ≤ w1.heap.size; omega))
   clear hb2
   go_wp2
   go_ret
   exact MPost.no HV.out HK2.out
  ·refine wpOp_at rfl rfl (fun K0 hK0 => ?_)
   go_simp
   refine hK0 _ _ ?_
   clear hK0 K0
   refine wpAny_one (fuel := 23) 0 (by kernel_rfl) (wpOp_at rfl rfl (fun K0 hK0 => ?_))
   go_simp
   refine hK0 _ _ ?_
   clear hK0 K0
   refine wpAny_one (fuel := 22) 2 (by kernel_rfl) (wpOp_at rfl rfl (fun K0 hK0 => ?_))
   go_simp
   refine HD.out.mono ?_
   rintro e w2 ⟨rfl, hb2⟩
   go_simp
   refine hK0 _ _ ?_
   clear hK0 K0
   refine wpAny_one (fuel := 21) 3 (by kernel_rfl) (wpOp_at rfl rfl (fun K0 hK0 => ?_))
   go_simp
   refine hK0 _ _ ?_
   clear hK0 K0
   refine wpAny_mid 22 4 21 L25 (by kernel_rfl) (by kernel_rfl) ?_
   simp only [List.take_succ_cons, List.take_zero, List.drop_succ_cons, List.drop_zero]
   repeat (refine StillI.step (fun K hK => ?_); go_simp; refine hK _ ?_; clear hK K)
   refine StillI.nil ?_
   have HK2 : Hid (KeptB b B w w2) := HK.out.trans (KeptB.of_below hb2 (by show B ≤ w1.heap.size; omega))
   clear hb2
   go_wp2
   go_ret
   exact MPost.no HV.out HK2.out
 | true =>
  have hpp := HQ.out
  unfold partB at hpp
  simp only [Bool.and_eq_true, decide_eq_true_eq, Bool.not_eq_true', List.isEmpty_eq_false_iff] at hpp
  obtain ⟨⟨hne, hdr⟩, hr1⟩ := hpp
  clear hdr
  have hsl := SP.len H1.out.ssE
  have hpos : 0 < c.ss.length := List.length_pos_iff.2 hne
  obtain ⟨k, hk⟩ : ∃ k, sp.length = k + 1 := ⟨sp.length - 1, by omega⟩
  obtain ⟨gs, cs, rfl⟩ := own_slice H1.out.ss
  obtain ⟨g, rfl⟩ : ∃ g, gs = some ⟨g, 0, none⟩ := by
   have hh := H1.out.ss
   rw [hk] at hh
   obtain ⟨g, cap, e⟩ := ownsRow_succ (xs := flatS sp) (by rw [← hk]; rw [← hk] at hh; rw [hk]; rw [hk] at hh; exact hh)
   simp only [Value.slice.injEq] at e
   exact ⟨g, e.1⟩
  obtain ⟨q, o, rfl, hq0, hq2, hc⟩ := HR.out.all (by omega)
  obtain ⟨X, hX, hXl⟩ := bstr_some (wd r 0)
  have c0 := hc 0 (by omega)
  rw [hX, Nat.add_zero] at c0
  have hXs : X.size ≤ 6000 := by rw [Lib.size_eq, hXl]; exact hxs
  have hkm : k < 1000000 := by omega
  have hkw : IntKind.i64.wrap (k : Int) = (k : Int) := IntWalk.i64_in _ (by omega)
  have hk1 : (k : Int) < (k : Int) + 1 := by omega
  obtain ⟨_, hlast⟩ := ss_last H1.out.ssE hk
  have hv : exitS c d r = if (sp[k]'(by omega)).1.ex.length = 0 ∧ (parseA X.data.toList).2 = 0 then some { c with ss := c.ss.dropLast ++ [{ (sp[k]'(by omega)).1 with ex := (parseA X.data.toList).1 }] } else none := by
   unfold exitS; rw [HQ.out, if_pos rfl, hXl]; unfold lastS; rw [hlast]; simp only; split <;> simp_all
  have HV := Lib.hid hv
  clear hv hlast
  have HXL := Lib.hid hXl
  rw [hr1] at HW d2 HD ⊢
  clear hX hXl hc hxs hne hpos hss hdp
  go_enter Tryz.func43, Tryz.ntmps43
  go_wp2_with fail
  rw [← HW.out]
  refine wp_region_any (by kernel_rfl) ?_
  refine wpAny_two (fuel := 24) 0 1 (by kernel_rfl) ?_ ?_
  ·refine wpOp_at rfl rfl (fun K0 hK0 => ?_)
   go_simp
   refine hK0 _ _ ?_
   clear hK0 K0
   refine wpAny_one (fuel := 23) 1 (by kernel_rfl) (wpOp_at rfl rfl (fun K0 hK0 => ?_))
   go_simp
   refine hK0 _ _ ?_
   clear hK0 K0
   refine wpAny_one (fuel := 22) 2 (by kernel_rfl) (wpOp_at rfl rfl (fun K0 hK0 => ?_))
   go_simp
   refine HD.out.mono ?_
   rintro e w2 ⟨rfl, hb2⟩
   go_simp
   refine hK0 _ _ ?_
   clear hK0 K0
   refine wpAny_one (fuel := 21) 3 (by kernel_rfl) (wpOp_at rfl rfl (fun K0 hK0 => ?_))
   go_simp
   refine hK0 _ _ ?_
   clear hK0 K0
   have HO := Lib.hid (H1.out.below hb2)
   have HK2 : Hid (KeptB b B w w2) := HK.out.trans (KeptB.of_below hb2 (by show B ≤ w1.heap.size; omega))
   have HE2 := Lib.hid (HE.out.below hb2)
   obtain ⟨_, _, _, b3, _⟩ := HO.out.cells
   replace d2 := (hb2.cell (show w.heap.size < w1.drew.heap.size by show _ < w1.heap.size; omega)).trans d2
   replace c0 := (hb2.cell (show q < w1.drew.heap.size from hq2)).trans c0
   have sc := (Inn.of_own HO.out.ss).at_ (show k < sp.length by omega)
   obtain ⟨bs, os, e0, hgl, hcs⟩ := sc
   simp only [Option.some.injEq, Addr.mk.injEq, and_true] at e0
   obtain ⟨rfl, rfl⟩ := e0
   have s4 := hcs 5 _ ((flatM_at stV 6 (fun _ => rfl) (show k < sp.length by omega) (by omega : 5 < 6)).trans rfl)
   have f4 := own_frozen HO.out.ss (k * 6 + 5)
   rw [Nat.zero_add] at s4
   obtain ⟨Ae, ce, hee⟩ := BlkO.form ((HO.out.sd _ (List.getElem_mem (show k < sp.length by omega))).2)
   have hse : (sp[k]'(by omega)).2.2 = .slice Ae (sp[k]'(by omega)).1.ex.length ce := hee
   rw [hse] at s4
   have HON := Lib.hid (once_any g (k * 6 + 5) Ae _ ce X w2 s4 f4 hgl HE2.out hXs)
   have HB2 := Lib.hid hb2
   rw [hk] at b3
   clear hb2 hcs hee hse
   refine wpAny_mid 22 4 21 L25 (by kernel_rfl) (by kernel_rfl) ?_
   simp only [List.take_succ_cons, List.take_zero, List.drop_succ_cons, List.drop_zero]
   repeat (refine StillI.step (fun K hK => ?_); go_simp; refine hK _ ?_; clear hK K)
   refine StillI.nil ?_
   go_wp2_with fail
   refine HON.out.mono ?_
   rintro e w3 (⟨hn, rfl, rfl⟩ | ⟨hn, rfl, v, w4, rfl, hbl, hb4⟩)
   ·have hv : exitS c d r = none := by rw [HV.out, if_neg (by omega)]
    have HV2 := Lib.hid hv
    clear hv hn
    go_wp2
    go_ret
    exact MPost.no HV2.out HK2.out
   ·have hsz4 := hb4.size
    have hB2 := HO.out.le
    have hS := (HO.out.below hb4).setLast hk (j := 5) (by omega) (p' := ({ (sp[k]'(by omega)).1 with ex := (parseA X.data.toList).1 }, (sp[k]'(by omega)).2.1, v)) (v := v) rfl ⟨((HO.out.below hb4).sd _ (List.getElem_mem (show k < sp.length by omega))).1, hbl.low hB2⟩
    have HS := Lib.hid hS
    have HK4 : Hid (KeptB b B w (w4.setCell ⟨g, k * 6 + 5, none⟩ v)) := HK2.out.trans ((KeptB.of_below hb4 hB2).trans hS.2)
    have hv : exitS c d r = if (parseA X.data.toList).2 = 0 then some { c with ss := c.ss.dropLast ++ [{ (sp[k]'(by omega)).1 with ex := (parseA X.data.toList).1 }] } else none := by
     rw [HV.out]; simp only [hn, true_and]
    have HV2 := Lib.hid hv
    clear hv hn hS hbl hb4
    generalize (parseA X.data.toList).2 = er at *
    by_cases he : er = 0
    ·subst he
     go_wp2
     go_ret
     exact ret_true (by rw [HV2.out]; simp) HK4.out ⟨_, _, _, _, _, _, HS.out.1⟩
    ·have hb : (er == 0) = false := int_ne he
     rw [hb]
     have hv3 : exitS c d r = none := by rw [HV2.out, if_neg he]
     have HV3 := Lib.hid hv3
     clear hb he hv3
     go_wp2
     go_ret
     exact MPost.no HV3.out HK4.out
  ·refine wpOp_at rfl rfl (fun K0 hK0 => ?_)
   go_simp
   refine hK0 _ _ ?_
   clear hK0 K0
   refine wpAny_one (fuel := 23) 0 (by kernel_rfl) (wpOp_at rfl rfl (fun K0 hK0 => ?_))
   go_simp
   refine hK0 _ _ ?_
   clear hK0 K0
   refine wpAny_one (fuel := 22) 2 (by kernel_rfl) (wpOp_at rfl rfl (fun K0 hK0 => ?_))
   go_simp
   refine HD.out.mono ?_
   rintro e w2 ⟨rfl, hb2⟩
   go_simp
   refine hK0 _ _ ?_
   clear hK0 K0
   refine wpAny_one (fuel := 21) 3 (by kernel_rfl) (wpOp_at rfl rfl (fun K0 hK0 => ?_))
   go_simp
   refine hK0 _ _ ?_
   clear hK0 K0
   have HO := Lib.hid (H1.out.below hb2)
   have HK2 : Hid (KeptB b B w w2) := HK.out.trans (KeptB.of_below hb2 (by show B ≤ w1.heap.size; omega))
   have HE2 := Lib.hid (HE.out.below hb2)
   obtain ⟨_, _, _, b3, _⟩ := HO.out.cells
   replace d2 := (hb2.cell (show w.heap.size < w1.drew.heap.size by show _ < w1.heap.size; omega)).trans d2
   replace c0 := (hb2.cell (show q < w1.drew.heap.size from hq2)).trans c0
   have sc := (Inn.of_own HO.out.ss).at_ (show k < sp.length by omega)
   obtain ⟨bs, os, e0, hgl, hcs⟩ := sc
   simp only [Option.some.injEq, Addr.mk.injEq, and_true] at e0
   obtain ⟨rfl, rfl⟩ := e0
   have s4 := hcs 5 _ ((flatM_at stV 6 (fun _ => rfl) (show k < sp.length by omega) (by omega : 5 < 6)).trans rfl)
   have f4 := own_frozen HO.out.ss (k * 6 + 5)
   rw [Nat.zero_add] at s4
   obtain ⟨Ae, ce, hee⟩ := BlkO.form ((HO.out.sd _ (List.getElem_mem (show k < sp.length by omega))).2)
   have hse : (sp[k]'(by omega)).2.2 = .slice Ae (sp[k]'(by omega)).1.ex.length ce := hee
   rw [hse] at s4
   have HON := Lib.hid (once_any g (k * 6 + 5) Ae _ ce X w2 s4 f4 hgl HE2.out hXs)
   have HB2 := Lib.hid hb2
   rw [hk] at b3
   clear hb2 hcs hee hse
   refine wpAny_mid 22 4 21 L25 (by kernel_rfl) (by kernel_rfl) ?_
   simp only [List.take_succ_cons, List.take_zero, List.drop_succ_cons, List.drop_zero]
   repeat (refine StillI.step (fun K hK => ?_); go_simp; refine hK _ ?_; clear hK K)
   refine StillI.nil ?_
   go_wp2_with fail
   refine HON.out.mono ?_
   rintro e w3 (⟨hn, rfl, rfl⟩ | ⟨hn, rfl, v, w4, rfl, hbl, hb4⟩)
   ·have hv : exitS c d r = none := by rw [HV.out, if_neg (by omega)]
    have HV2 := Lib.hid hv
    clear hv hn
    go_wp2
    go_ret
    exact MPost.no HV2.out HK2.out
   ·have hsz4 := hb4.size
    have hB2 := HO.out.le
    have hS := (HO.out.below hb4).setLast hk (j := 5) (by omega) (p' := ({ (sp[k]'(by omega)).1 with ex := (parseA X.data.toList).1 }, (sp[k]'(by omega)).2.1, v)) (v := v) rfl ⟨((HO.out.below hb4).sd _ (List.getElem_mem (show k < sp.length by omega))).1, hbl.low hB2⟩
    have HS := Lib.hid hS
    have HK4 : Hid (KeptB b B w (w4.setCell ⟨g, k * 6 + 5, none⟩ v)) := HK2.out.trans ((KeptB.of_below hb4 hB2).trans hS.2)
    have hv : exitS c d r = if (parseA X.data.toList).2 = 0 then some { c with ss := c.ss.dropLast ++ [{ (sp[k]'(by omega)).1 with ex := (parseA X.data.toList).1 }] } else none := by
     rw [HV.out]; simp only [hn, true_and]
    have HV2 := Lib.hid hv
    clear hv hn hS hbl hb4
    generalize (parseA X.data.toList).2 = er at *
    by_cases he : er = 0
    ·subst he
     go_wp2
     go_ret
     exact ret_true (by rw [HV2.out]; simp) HK4.out ⟨_, _, _, _, _, _, HS.out.1⟩
    ·have hb : (er == 0) = false := int_ne he
     rw [hb]
     have hv3 : exitS c d r = none := by rw [HV2.out, if_neg he]
     have HV3 := Lib.hid hv3
     clear hb he hv3
     go_wp2
     go_ret
     exact MPost.no HV3.out HK4.out
end Go.Proofs.YtdelihhbmagphaaGreatDoor.Ch
namespace Go.Proofs.YtdelihhbmagphaaGreatDoor.Ch
open Go.RowKit
def MethodFor (f : FuncId) (g : StepS) (r : List (List UInt8)) : Prop := ∀ (b B : Nat) (w0 w : World) (c : CH) (eV vV sV tV : Value) (sp : List SP) (tp : List TP) (d : Nat) (F : ByteArray) (A : Option Addr) (cp : Nat),
 OwnCh b B 44 w0 c eV vV sV tV sp tp → Below w0.heap.size w0 w → Bdd 1000000 c → d ≤ 6000 → r.length ≤ 1000000 → RestR w0 w A cp r → (∀ x ∈ r, x.length ≤ 6000) → Env w →
 Calls Tryz.prog f #[.pointer (some ⟨b, 0, none⟩), .agg #[.int .i64 d, .string F, .slice A r.length cp]] w (MPost b B w (g c d r))
theorem Method.for {f : FuncId} {g : StepS} (h : Method f g) (r : List (List UInt8)) : MethodFor f g r := fun b B w0 w c eV vV sV tV sp tp d F A cp => h b B w0 w c eV vV sV tV sp tp d F A cp r
def ParsesE (x : List UInt8) : Prop := (Names (parseP x).1 ∧ (parseP x).1.length ≤ 32) ∧ ∀ (X : ByteArray) (W : World), X.data.toList = x → Ops W → X.size ≤ 9223372036854775807 → Calls Tryz.prog 81 #[.string X] W (ParsePost x W)
def ParsesA (x : List UInt8) : Prop := ∀ (X : ByteArray) (W : World), X.data.toList = x → Ops W → ML W → X.size ≤ 9223372036854775807 → Calls Tryz.prog 83 #[.string X] W (ParsedPost (parseA x).1 (parseA x).2 W)
end Go.Proofs.YtdelihhbmagphaaGreatDoor.Ch
