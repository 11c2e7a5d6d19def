/- Own texts, joined: En, Ep, Er. -/
import Derived.Test.YtdelihhbmagphaaGreatDoorR5
import Derived.Test.YtdelihhbmagphaaGreatDoorR6
namespace Go.Proofs.YtdelihhbmagphaaGreatDoor
open Go.RowKit
structure Own (w : World) (cs : List CM) (v : Value) (w' : World) : Prop where
 own : w'.ownsRow w.heap.size 96 3 v cs.length (flat cs)
 below : Below w.heap.size w w'
def ParsePost (l : List UInt8) (w : World) (e : Ending) (w' : World) : Prop :=
 ∃ v, e = .returned (.tuple #[v, .int .i64 (parseP l).2.1, .int .i64 (parseP l).2.2]) ∧ Own w (parseP l).1 v w'
theorem ParsePost.of {l : List UInt8} {w w' : World} {cs : List CM} {p : Nat} {e : Int} {v : Value} (h : parseP l = (cs, p, e)) (ho : Own w cs v w') : ParsePost l w (.returned (.tuple #[v, .int .i64 p, .int .i64 e])) w' := by
 unfold ParsePost; rw [h]; exact ⟨v, rfl, ho⟩
theorem St.begin (w : World) (s : ByteArray) : St w (w.alloc (.cells #[.string s, .int .i64 0, .slice none 0 0] 163)) w.heap.size s 0 [] (w.alloc (.cells #[.string s, .int .i64 0, .slice none 0 0] 163)) :=
 ⟨⟨_, heap_alloc_new w _, World.ownsRow_nil _ _ _ _⟩, Nat.le_refl _, (Below.refl _ _).alloc (Nat.le_refl _) _, Keeps.refl _ _⟩
theorem parse_any (s : ByteArray) (w : World) (hO : Ops w) (hs : s.size ≤ 9223372036854775807) :
  Calls Tryz.prog 81 #[.string s] w (ParsePost s.data.toList w) := by
 by_cases h6 : 600 < s.size
 ·have hP : parseP s.data.toList = ([], 0, 4) := by unfold parseP; rw [if_pos (by rw [sz]; exact h6)]
  have h6' : (600 : Int) < s.size := by omega
  have HP := Lib.hid (ParsePost.of (w := w) (w' := w) (v := .slice none 0 0) hP ⟨World.ownsRow_nil _ _ _ _, Below.refl _ _⟩)
  clear hP
  go_enter Tryz.func81, Tryz.ntmps81
  go_wp2
  go_ret3
  exact HP.out
 ·have h6' : decide ((600 : Int) < s.size) = false := decide_eq_false (by omega)
  have HB := Lib.hid (St.begin w s)
  have HJ := Lib.hid ((reads s (by omega) (s.data.toList.length * 10 + 8)).1 w _ _ w.heap.size 0 [] 1 HB.out hO (by omega) (by omega) (by omega) (by simp) (by simp only [need]; omega))
  have hgo := goes s.data.toList (s.data.toList.length * 10 + 8) (.joins 1) 0 [] (by omega)
  have hP : parseP s.data.toList = if (D s.data.toList (s.data.toList.length * 10 + 8) (.joins 1) 0 []).1 = false ∨ (D s.data.toList (s.data.toList.length * 10 + 8) (.joins 1) 0 []).2.1 < s.data.toList.length then ([], (D s.data.toList (s.data.toList.length * 10 + 8) (.joins 1) 0 []).2.1, 1)
    else if 32 < (D s.data.toList (s.data.toList.length * 10 + 8) (.joins 1) 0 []).2.2.length then ([], 0, 4) else ((D s.data.toList (s.data.toList.length * 10 + 8) (.joins 1) 0 []).2.2, 0, 0) := by
   conv => lhs; unfold parseP
   rw [if_neg (by rw [sz]; exact h6)]
  obtain ⟨b, p, cs, hr⟩ : ∃ b p cs, D s.data.toList (s.data.toList.length * 10 + 8) (.joins 1) 0 [] = (b, p, cs) := ⟨_, _, _, rfl⟩
  rw [hr] at HJ hgo hP
  have hp : p ≤ s.size := by have := hgo.le; rw [sz] at this; exact this
  rw [sz] at hP
  have HP := Lib.hid hP
  clear hP hr hgo HB
  unfold rp at *
  have fin : ∀ {w' : World} {wa g}, St w wa g s p cs w' → Below w.heap.size w w' := fun h => h.below
  cases b
  ·have HPP : Hid (parseP s.data.toList = ([], p, 1)) := by
    have := HP.out
    rw [if_pos (Or.inl rfl)] at this
    exact this
   go_enter Tryz.func81, Tryz.ntmps81
   go_wp2_with fail
   refine HJ.out.mono ?_
   rintro e w1 ⟨rfl, h1⟩
   obtain ⟨v, ⟨c0, c1, c2, _, _⟩, _, _⟩ := h1.at_
   have HB1 := Lib.hid h1.below
   clear h1
   go_wp2
   go_quiet (fail)
   go_wp2
   go_ret3
   exact ParsePost.of HPP.out ⟨World.ownsRow_nil _ _ _ _, ⟨HB1.out.os, HB1.out.tape, HB1.out.output, HB1.out.size, HB1.out.block⟩⟩
  ·by_cases hps : p < s.size
   ·have HPP : Hid (parseP s.data.toList = ([], p, 1)) := by
     have := HP.out
     rw [if_pos (Or.inr hps)] at this
     exact this
    have hps' : (p : Int) < s.size := by omega
    go_enter Tryz.func81, Tryz.ntmps81
    go_wp2_with fail
    refine HJ.out.mono ?_
    rintro e w1 ⟨rfl, h1⟩
    obtain ⟨v, ⟨c0, c1, c2, _, _⟩, _, _⟩ := h1.at_
    have HB1 := Lib.hid h1.below
    clear h1
    go_wp2
    go_quiet (fail)
    go_wp2
    go_ret3
    exact ParsePost.of HPP.out ⟨World.ownsRow_nil _ _ _ _, ⟨HB1.out.os, HB1.out.tape, HB1.out.output, HB1.out.size, HB1.out.block⟩⟩
   ·have hps' : decide ((p : Int) < s.size) = false := decide_eq_false (by omega)
    by_cases h32 : 32 < cs.length
    ·have HPP : Hid (parseP s.data.toList = ([], 0, 4)) := by
      have := HP.out
      rw [if_neg (by simp; omega), if_pos h32] at this
      exact this
     have h32' : (32 : Int) < cs.length := by omega
     go_enter Tryz.func81, Tryz.ntmps81
     go_wp2_with fail
     refine HJ.out.mono ?_
     rintro e w1 ⟨rfl, h1⟩
     obtain ⟨v, ⟨c0, c1, c2, _, _⟩, _, hown⟩ := h1.at_
     obtain ⟨g1, cap, rfl, _, _⟩ := hown.form (show 0 < cs.length by omega)
     have HB1 := Lib.hid h1.below
     clear h1 hown
     go_wp2
     go_ret3
     exact ParsePost.of HPP.out ⟨World.ownsRow_nil _ _ _ _, HB1.out⟩
    ·have HPP : Hid (parseP s.data.toList = (cs, 0, 0)) := by
      have := HP.out
      rw [if_neg (by simp; omega), if_neg h32] at this
      exact this
     have h32' : decide ((32 : Int) < cs.length) = false := decide_eq_false (by omega)
     go_enter Tryz.func81, Tryz.ntmps81
     go_wp2_with fail
     refine HJ.out.mono ?_
     rintro e w1 ⟨rfl, h1⟩
     obtain ⟨v, ⟨c0, c1, c2, _, _⟩, _, hown⟩ := h1.at_
     have hform : ∃ A c, v = .slice A cs.length c := by
      rcases hown.2 with ⟨rfl, h0⟩ | ⟨g, cap, cur, rfl, _⟩
      ·have : cs = [] := by
        cases cs with
        | nil => rfl
        | cons c r => simp at h0
       subst this; exact ⟨_, _, rfl⟩
      ·exact ⟨_, _, rfl⟩
     obtain ⟨A, c, rfl⟩ := hform
     have HB1 := Lib.hid h1.below; have HOWN := Lib.hid hown
     clear h1 hown
     go_wp2
     go_ret3
     exact ParsePost.of HPP.out ⟨HOWN.out, HB1.out⟩
end Go.Proofs.YtdelihhbmagphaaGreatDoor
namespace Go.Proofs.YtdelihhbmagphaaGreatDoor
open Go.RowKit
def RdC (w : World) (v : Value) (cs : List CM) : Prop :=
 ∃ (A : Option Addr) (c : Nat), v = .slice A cs.length c ∧ ∀ i (h : i < cs.length), ∃ b o, A = some ⟨b, o, none⟩ ∧
  w.cell? ⟨b, o + i * 3, none⟩ = some (.int .i64 cs[i].op) ∧ w.cell? ⟨b, o + i * 3 + 1, none⟩ = some (.int .i64 cs[i].a) ∧ w.cell? ⟨b, o + i * 3 + 2, none⟩ = some (bstr cs[i].nm)
theorem cell_lt {w : World} {p : Addr} {u : Value} (h : w.cell? p = some u) : p.block < w.heap.size := World.block_lt_of_cell? w p h
theorem RdC.below {w w' : World} {v : Value} {cs : List CM} (h : RdC w v cs) (hb : Below w.heap.size w w') : RdC w' v cs := by
 obtain ⟨A, c, rfl, hr⟩ := h
 refine ⟨A, c, rfl, fun i hi => ?_⟩
 obtain ⟨b, o, rfl, h0, h1, h2⟩ := hr i hi
 exact ⟨b, o, rfl, (hb.cell (cell_lt h0)).trans h0, (hb.cell (cell_lt h1)).trans h1, (hb.cell (cell_lt h2)).trans h2⟩
theorem own_rd {w : World} {B : Nat} {v : Value} {cs : List CM} (h : w.ownsRow B 96 3 v cs.length (flat cs)) : RdC w v cs := by
 by_cases h0 : 0 < cs.length
 ·obtain ⟨g, cap, rfl, _, _⟩ := h.form h0
  refine ⟨_, _, rfl, fun i hi => ⟨_, _, rfl, ?_⟩⟩
  obtain ⟨f0, f1, f2⟩ := flat_at hi
  rw [Nat.zero_add, h.cellAt _ (by omega), h.cellAt _ (by omega), h.cellAt _ (by omega)]
  exact ⟨f0, f1, f2⟩
 ·have : cs = [] := List.eq_nil_of_length_eq_zero (by omega)
  subst this
  rcases h.2 with ⟨rfl, _⟩ | ⟨g, cap, cur, rfl, _⟩
  ·exact ⟨_, _, rfl, fun i hi => absurd hi (by simp)⟩
  ·exact ⟨_, _, rfl, fun i hi => absurd hi (by simp)⟩
def runB : List CM → Nat → Option Nat
 | [], v => some v
 | c :: r, v => if formedB c = true ∧ operN c.op ≤ v then runB r (v + 1 - operN c.op) else none
def rightB (cs : List CM) : Bool := decide (cs.length ≤ 32) && (runB cs 0 == some 1)
theorem operN_le (op : Int) : operN op ≤ 2 := by unfold operN; split; omega; split <;> omega
theorem run_at {cs : List CM} {k v : Nat} (hk : k < cs.length) : runB (cs.drop k) v = if formedB cs[k] = true ∧ operN cs[k].op ≤ v then runB (cs.drop (k + 1)) (v + 1 - operN cs[k].op) else none := by
 rw [List.drop_eq_getElem_cons hk]; rfl
set_option maxHeartbeats 2000000 in
theorem right_any (v : Value) (cs : List CM) (w : World) (hR : RdC w v cs) (hl : cs.length ≤ 4611686018427387904) :
  Calls Tryz.prog 136 #[v] w fun e w' => e = .returned (.bool (rightB cs)) ∧ Below w.heap.size w w' := by
 obtain ⟨A, c, rfl, hr⟩ := hR
 by_cases h32 : 32 < cs.length
 ·have hB : rightB cs = false := by unfold rightB; rw [decide_eq_false (by omega)]; rfl
  rw [hB]; clear hB hr
  have h32' : (32 : Int) < cs.length := by omega
  go_enter Tryz.func136, Tryz.ntmps136
  go_wp2
  go_ret
  exact ⟨rfl, Below.refl _ _⟩
 ·have hB : rightB cs = (runB cs 0 == some 1) := by unfold rightB; rw [decide_eq_true (by omega)]; rfl
  rw [hB]; clear hB
  have h32' : decide ((32 : Int) < cs.length) = false := decide_eq_false (by omega)
  have HR := Lib.hid hr; clear hr
  obtain ⟨n, hn⟩ : ∃ n, cs.length = n := ⟨_, rfl⟩
  have HN := Lib.hid hn
  rw [hn] at h32' hl h32 ⊢
  clear hn
  go_enter Tryz.func136, Tryz.ntmps136
  go_wp2
  go_loopw [2, 3, 12] (fun x2 vv i wr => x2 = .bool false ∧ ∃ k vs : Nat, k ≤ n ∧ vs ≤ k ∧ i = .int .i64 k ∧ vv = .int .i64 vs ∧ Hid (runB (cs.drop k) vs = runB cs 0) ∧ Below w.heap.size w wr) (fun _ _ i _ => n - (intOf i).toNat)
  case atStart => exact ⟨rfl, 0, 0, by omega, by omega, rfl, rfl, rfl, Below.refl _ _⟩
  case round =>
   obtain ⟨rfl, k, vs, hk, hvs, rfl, rfl, HB, hb⟩ := hrel
   have HBL := Lib.hid hb
   by_cases hkn : k < n
   ·obtain ⟨b, o, rfl, d0, d1, d2⟩ := HR.out k (by rw [HN.out]; exact hkn)
    have hrun := run_at (cs := cs) (k := k) (v := vs) (by rw [HN.out]; exact hkn)
    rw [HB.out] at hrun
    obtain ⟨cc, hcc⟩ : ∃ cc, cs[k]'(by rw [HN.out]; exact hkn) = cc := ⟨_, rfl⟩
    rw [hcc] at d0 d1 d2 hrun
    have e0 := (hb.cell (cell_lt d0)).trans d0
    have e1 := (hb.cell (cell_lt d1)).trans d1
    have e2 := (hb.cell (cell_lt d2)).trans d2
    have hon := operN_le cc.op
    obtain ⟨X, hX⟩ : ∃ X : ByteArray, bstr cc.nm = .string X := ⟨_, rfl⟩
    have hfm := formed_any cc
    rw [hX] at e2 hfm
    have HFM := Lib.hid hfm
    have HRUN := Lib.hid hrun
    clear d0 d1 d2 hcc hrun hb hX hfm
    cases hf : formedB cc
    ·have HFF := Lib.hid hf
     have hE : runB cs 0 = none := by rw [HRUN.out, hf, if_neg (by simp)]
     have HE := Lib.hid hE
     clear hE hf
     go_wp2_with fail
     refine (operands_any _ _).mono ?_
     rintro e w1 ⟨rfl, rfl⟩
     go_wp2_with fail
     refine (HFM.out _).mono ?_
     rintro e w2 ⟨rfl, hb2⟩
     have HB2 := Lib.hid hb2; clear hb2
     rw [HFF.out]
     go_wp2
     go_ret
     exact ⟨by rw [HE.out]; rfl, (HBL.out.alloc HBL.out.size _).trans (HB2.out.mono (by have := HBL.out.size; simp; omega))⟩
    ·have HFF := Lib.hid hf
     by_cases hov : operN cc.op ≤ vs
     ·have hE : runB (cs.drop (k + 1)) (vs + 1 - operN cc.op) = runB cs 0 := by rw [HRUN.out, hf, if_pos ⟨rfl, hov⟩]
      have HE := Lib.hid hE
      clear hE hf
      have hov' : decide ((vs : Int) < (operN cc.op : Int)) = false := decide_eq_false (by omega)
      go_wp2_with fail
      refine (operands_any _ _).mono ?_
      rintro e w1 ⟨rfl, rfl⟩
      go_wp2_with fail
      refine (HFM.out _).mono ?_
      rintro e w2 ⟨rfl, hb2⟩
      have HB2 := Lib.hid hb2; clear hb2
      rw [HFF.out]
      go_wp2
      go_roundw
      case rel => exact ⟨rfl, k + 1, vs + 1 - operN cc.op, by omega, by omega, by go_num, by congr 1; omega, HE, (HBL.out.alloc HBL.out.size _).trans (HB2.out.mono (by have := HBL.out.size; simp; omega))⟩
      case measure => simp [intOf]; omega
     ·have hE : runB cs 0 = none := by rw [HRUN.out, hf, if_neg (by simp; omega)]
      have HE := Lib.hid hE
      clear hE hf
      have hov' : (vs : Int) < (operN cc.op : Int) := by omega
      go_wp2_with fail
      refine (operands_any _ _).mono ?_
      rintro e w1 ⟨rfl, rfl⟩
      go_wp2_with fail
      refine (HFM.out _).mono ?_
      rintro e w2 ⟨rfl, hb2⟩
      have HB2 := Lib.hid hb2; clear hb2
      rw [HFF.out]
      go_wp2
      go_ret
      exact ⟨by rw [HE.out]; rfl, (HBL.out.alloc HBL.out.size _).trans (HB2.out.mono (by have := HBL.out.size; simp; omega))⟩
   ·have hE : runB cs 0 = some vs := by
     rw [← HB.out, List.drop_of_length_le (by rw [HN.out]; omega)]; rfl
    have hE2 : (runB cs 0 == some 1) = ((vs : Int) == 1) := by
     rw [hE]
     by_cases h : vs = 1
     ·subst h; rfl
     ·rw [int_ne (show (vs : Int) ≠ 1 by omega)]; simp [h]
    have HE := Lib.hid hE2
    clear hE hE2
    go_wp2
    go_ret
    exact ⟨by rw [HE.out]; rfl, HBL.out⟩
end Go.Proofs.YtdelihhbmagphaaGreatDoor
namespace Go.Proofs.YtdelihhbmagphaaGreatDoor
open Go.RowKit
abbrev Pc := List UInt8 × Int
def joinP (c : CM) (u0 u1 : Pc) : Pc :=
 if c.op = 1 then (Lib.itoa c.a, 7) else if c.op = 2 then (Lib.itoa c.a ++ [105], 7) else if c.op = 3 then (wTrue, 7) else if c.op = 4 then (wFalse, 7)
 else if c.op = 5 then (c.nm, 7) else if c.op = 6 then ([105, 110, 40] ++ c.nm ++ [41], 7)
 else if c.op = 7 then ([45] ++ inP u0.1 u0.2 6, 6) else if c.op = 8 then ([33] ++ inP u0.1 u0.2 6, 6)
 else if c.op = 9 then ([114, 101, 40] ++ u0.1 ++ [41], 7) else if c.op = 10 then ([105, 109, 40] ++ u0.1 ++ [41], 7)
 else betP (tabAt (c.op - 11).toNat).2.1 (tabAt (c.op - 11).toNat).2.2 u0 u1
theorem two_new (w : World) (a : Obj) (x y : Value) (t : TypeId) : Below w.heap.size w ((w.alloc a).alloc (.cells #[x, y] t)) ∧ ((w.alloc a).alloc (.cells #[x, y] t)).heap.size = w.heap.size + 2 ∧ ((w.alloc a).alloc (.cells #[x, y] t)).heap[w.heap.size]? = some a ∧
  ((w.alloc a).alloc (.cells #[x, y] t)).heap[w.heap.size + 1]? = some (.cells #[x, y] t (0, 0)) := by
 refine ⟨((Below.refl _ _).alloc (Nat.le_refl _) _).alloc (by simp) _, by simp, (Below.heap_alloc _ _ _ (by simp)).trans (heap_alloc_new w a), ?_⟩
 have := heap_alloc_new (w.alloc a) (.cells #[x, y] t)
 rw [show (w.alloc a).heap.size = w.heap.size + 1 by simp] at this
 exact this
theorem fin_two {w w1 : World} {D B : Nat} {x y u v : Value} {t : TypeId} (h : w1.heap[D]? = some (.cells #[x, y] t (0, 0))) (hB : B ≤ D) (hb : Below B w w1) :
  ((w1.setCell ⟨D, 0, none⟩ u).setCell ⟨D, 1, none⟩ v).cell? ⟨D, 0, none⟩ = some u ∧ ((w1.setCell ⟨D, 0, none⟩ u).setCell ⟨D, 1, none⟩ v).cell? ⟨D, 1, none⟩ = some v ∧ Below B w ((w1.setCell ⟨D, 0, none⟩ u).setCell ⟨D, 1, none⟩ v) := by
 have h1 := heap_setCell_same _ _ 0 _ _ u h
 have h2 := heap_setCell_same _ _ 1 _ _ v h1
 obtain ⟨r0, r1, _, _⟩ := two_at (x := u) (y := v) h2
 exact ⟨r0, r1, (hb.setCell hB _).setCell hB _⟩
def JoinPost (p : Pc) (w : World) (e : Ending) (w' : World) : Prop := e = .returned (.agg #[.string ⟨p.1.toArray⟩, .int .i64 p.2]) ∧ Below w.heap.size w w'
theorem JoinPost.of {p : Pc} {w w' : World} {X : ByteArray} {n : Int} (hX : X = ⟨p.1.toArray⟩) (hn : n = p.2) (hb : Below w.heap.size w w') : JoinPost p w (.returned (.agg #[.string X, .int .i64 n])) w' := by
 subst hX; subst hn; exact ⟨rfl, hb⟩
set_option maxRecDepth 100000 in
set_option maxHeartbeats 1000000 in
theorem joined_3 (a : Int) ( nm : List UInt8) (vu : Value) (w : World) :
  Calls Tryz.prog 138 #[.agg #[.int .i64 3, .int .i64 a, bstr nm], vu] w (JoinPost (joinP ⟨3, a, nm⟩ ([], 0) ([], 0)) w) := by
 obtain ⟨X, hX⟩ : ∃ X : ByteArray, (⟨nm.toArray⟩ : ByteArray) = X := ⟨_, rfl⟩
 have hb : bstr nm = .string X := by rw [← hX]; rfl
 have HX := Lib.hid hX
 rw [hb]
 clear hb hX
 obtain ⟨hW, hWs, ha, hd⟩ := two_new w (.cells #[.int .i64 3, .int .i64 a, .string X] 96) (.string ⟨#[]⟩) (.int .i64 0) 183
 have HW := Lib.hid hW; have HWS := Lib.hid hWs; have HD := Lib.hid hd
 clear ha hd
 clear hWs hW
 go_enter Tryz.func138, Tryz.ntmps138
 go_wp2
 exact bodyPost_ret (v := .agg #[.string (⟨#[116, 114, 117, 101]⟩), .int .i64 7]) (by simp [results, Tryz.results138, go_sem]) rfl (JoinPost.of (rfl) rfl (two_new w _ _ _ _).1)
set_option maxRecDepth 100000 in
set_option maxHeartbeats 1000000 in
theorem joined_4 (a : Int) ( nm : List UInt8) (vu : Value) (w : World) :
  Calls Tryz.prog 138 #[.agg #[.int .i64 4, .int .i64 a, bstr nm], vu] w (JoinPost (joinP ⟨4, a, nm⟩ ([], 0) ([], 0)) w) := by
 obtain ⟨X, hX⟩ : ∃ X : ByteArray, (⟨nm.toArray⟩ : ByteArray) = X := ⟨_, rfl⟩
 have hb : bstr nm = .string X := by rw [← hX]; rfl
 have HX := Lib.hid hX
 rw [hb]
 clear hb hX
 obtain ⟨hW, hWs, ha, hd⟩ := two_new w (.cells #[.int .i64 4, .int .i64 a, .string X] 96) (.string ⟨#[]⟩) (.int .i64 0) 183
 have HW := Lib.hid hW; have HWS := Lib.hid hWs; have HD := Lib.hid hd
 clear ha hd
 clear hWs hW
 go_enter Tryz.func138, Tryz.ntmps138
 go_wp2
 exact bodyPost_ret (v := .agg #[.string (⟨#[102, 97, 108, 115, 101]⟩), .int .i64 7]) (by simp [results, Tryz.results138, go_sem]) rfl (JoinPost.of (rfl) rfl (two_new w _ _ _ _).1)
set_option maxRecDepth 100000 in
set_option maxHeartbeats 1000000 in
theorem joined_5 (a : Int) ( nm : List UInt8) (vu : Value) (w : World) (hn : nm.length ≤ 100) :
  Calls Tryz.prog 138 #[.agg #[.int .i64 5, .int .i64 a, bstr nm], vu] w (JoinPost (joinP ⟨5, a, nm⟩ ([], 0) ([], 0)) w) := by
 obtain ⟨X, hX⟩ : ∃ X : ByteArray, (⟨nm.toArray⟩ : ByteArray) = X := ⟨_, rfl⟩
 have hb : bstr nm = .string X := by rw [← hX]; rfl
 have HX := Lib.hid hX
 rw [hb]
 clear hb hX
 obtain ⟨hW, hWs, ha, hd⟩ := two_new w (.cells #[.int .i64 5, .int .i64 a, .string X] 96) (.string ⟨#[]⟩) (.int .i64 0) 183
 have HW := Lib.hid hW; have HWS := Lib.hid hWs; have HD := Lib.hid hd
 clear ha hd
 have hXs : X.size ≤ 281474976710656 := by rw [← HX.out, size_list]; omega
 clear hWs hW
 go_enter Tryz.func138, Tryz.ntmps138
 go_wp2_with fail
 refine (clone_any X _ hXs).mono ?_
 rintro e w1 ⟨rfl, hb1⟩
 have HB1 := Lib.hid (HW.out.trans (hb1.mono (by rw [HWS.out]; omega)))
 have HD1 := Lib.hid ((hb1.block _ (by rw [HWS.out]; omega)).trans HD.out)
 clear hb1
 obtain ⟨d0, d1, df0, df1⟩ := two_at HD1.out
 go_wp2
 obtain ⟨r0, r1, hbl⟩ := fin_two (u := .string (X)) (v := .int .i64 7) HD1.out (Nat.le_succ _) HB1.out
 exact bodyPost_ret (v := .agg #[.string (X), .int .i64 7]) (by simp [results, Tryz.results138, go_sem, r0, r1]) rfl (JoinPost.of (HX.out.symm) rfl hbl)
set_option maxRecDepth 100000 in
set_option maxHeartbeats 1000000 in
theorem joined_6 (a : Int) ( nm : List UInt8) (vu : Value) (w : World) (hn : nm.length ≤ 100) :
  Calls Tryz.prog 138 #[.agg #[.int .i64 6, .int .i64 a, bstr nm], vu] w (JoinPost (joinP ⟨6, a, nm⟩ ([], 0) ([], 0)) w) := by
 obtain ⟨X, hX⟩ : ∃ X : ByteArray, (⟨nm.toArray⟩ : ByteArray) = X := ⟨_, rfl⟩
 have hb : bstr nm = .string X := by rw [← hX]; rfl
 have HX := Lib.hid hX
 rw [hb]
 clear hb hX
 obtain ⟨hW, hWs, ha, hd⟩ := two_new w (.cells #[.int .i64 6, .int .i64 a, .string X] 96) (.string ⟨#[]⟩) (.int .i64 0) 183
 have HW := Lib.hid hW; have HWS := Lib.hid hWs; have HD := Lib.hid hd
 clear ha hd
 have hXs : X.size ≤ 100 := by rw [← HX.out, size_list]; omega
 have k1 : ∀ W : World, (Op.stringOp .add ⟨#[105, 110, 40]⟩ X).run Tryz.prog W = .ok (.string (⟨#[105, 110, 40]⟩ ++ X)) W := fun W => run_string_add_sum (P := Tryz.prog) (w := W) _ _ (by show 3 + X.size ≤ _; omega)
 have k2 : ∀ W : World, (Op.stringOp .add (⟨#[105, 110, 40]⟩ ++ X) ⟨#[41]⟩).run Tryz.prog W = .ok (.string (⟨#[105, 110, 40]⟩ ++ X ++ ⟨#[41]⟩)) W := fun W => run_string_add_sum (P := Tryz.prog) (w := W) _ _ (by rw [ByteArray.size_append]; show 3 + X.size + 1 ≤ _; omega)
 clear hWs hW hXs
 go_enter Tryz.func138, Tryz.ntmps138
 go_wp2
 exact bodyPost_ret (v := .agg #[.string (⟨#[105, 110, 40]⟩ ++ X ++ ⟨#[41]⟩), .int .i64 7]) (by simp [results, Tryz.results138, go_sem]) rfl (JoinPost.of (by rw [← HX.out]; apply ByteArray.ext; simp [joinP]) rfl (two_new w _ _ _ _).1)
theorem itoa_short {a : Int} (ha0 : 0 ≤ a) (ha1 : a ≤ 1099511627776) : (Lib.itoa a).length ≤ 100 := by
 obtain ⟨m, rfl⟩ : ∃ m : Nat, a = (m : Int) := ⟨a.toNat, by omega⟩
 have hi : Lib.itoa (m : Int) = Lib.decDigits m := by
  unfold Lib.itoa
  rw [if_neg (by omega)]; rfl
 rw [hi]
 have : ∀ (k u : Nat), u < 10 ^ (k + 1) → (Lib.decDigits u).length ≤ k + 1 := by
  intro k
  induction k with
  | zero => intro u hu; rw [dec_small (by omega)]; simp
  | succ k ih =>
   intro u hu
   by_cases h : u < 10
   ·rw [dec_small h]; simp
   ·rw [dec_big h]
    have := ih (u / 10) (by rw [Nat.pow_succ] at hu; omega)
    simp; omega
 exact Nat.le_trans (this 12 m (by omega)) (by omega)
set_option maxRecDepth 100000 in
set_option maxHeartbeats 1000000 in
theorem joined_1 (a : Int) ( nm : List UInt8) (vu : Value) (w : World) (ha0 : 0 ≤ a) (ha1 : a ≤ 1099511627776) (hL : Laid w) :
  Calls Tryz.prog 138 #[.agg #[.int .i64 1, .int .i64 a, bstr nm], vu] w (JoinPost (joinP ⟨1, a, nm⟩ ([], 0) ([], 0)) w) := by
 obtain ⟨X, hX⟩ : ∃ X : ByteArray, (⟨nm.toArray⟩ : ByteArray) = X := ⟨_, rfl⟩
 have hb : bstr nm = .string X := by rw [← hX]; rfl
 have HX := Lib.hid hX
 rw [hb]
 clear hb hX
 obtain ⟨hW, hWs, ha, hd⟩ := two_new w (.cells #[.int .i64 1, .int .i64 a, .string X] 96) (.string ⟨#[]⟩) (.int .i64 0) 183
 have HW := Lib.hid hW; have HWS := Lib.hid hWs; have HD := Lib.hid hd
 clear ha hd
 have hL2 := Lib.hid (hL.below hW)
 have hlen : (Lib.itoa a).length ≤ 100 := itoa_short ha0 ha1
 have hh0 : -9223372036854775808 ≤ a := by omega
 have hh1 : a ≤ 9223372036854775807 := by omega
 have HDG := Lib.hid (digits_any a · hh0 hh1)
 obtain ⟨Y, hY⟩ : ∃ Y : ByteArray, (⟨(Lib.itoa a).toArray⟩ : ByteArray) = Y := ⟨_, rfl⟩
 rw [hY] at HDG
 have hYs : Y.size ≤ 100 := by rw [← hY, size_list]; exact hlen
 have HY := Lib.hid hY
 clear hWs hW hh0 hh1 ha0 ha1 hlen hY hL
 go_enter Tryz.func138, Tryz.ntmps138
 go_wp2_with fail
 refine (HDG.out _ hL2.out).mono ?_
 rintro e w1 ⟨rfl, hb1⟩
 have HB1 := Lib.hid (HW.out.trans (hb1.mono (by rw [HWS.out]; omega)))
 have HD1 := Lib.hid ((hb1.block _ (by rw [HWS.out]; omega)).trans HD.out)
 clear hb1
 obtain ⟨d0, d1, df0, df1⟩ := two_at HD1.out
 go_wp2
 obtain ⟨r0, r1, hbl⟩ := fin_two (u := .string (Y)) (v := .int .i64 7) HD1.out (Nat.le_succ _) HB1.out
 exact bodyPost_ret (v := .agg #[.string (Y), .int .i64 7]) (by simp [results, Tryz.results138, go_sem, r0, r1]) rfl (JoinPost.of (HY.out.symm) rfl hbl)
set_option maxRecDepth 100000 in
set_option maxHeartbeats 1000000 in
theorem joined_2 (a : Int) ( nm : List UInt8) (vu : Value) (w : World) (ha0 : 0 ≤ a) (ha1 : a ≤ 1099511627776) (hL : Laid w) :
  Calls Tryz.prog 138 #[.agg #[.int .i64 2, .int .i64 a, bstr nm], vu] w (JoinPost (joinP ⟨2, a, nm⟩ ([], 0) ([], 0)) w) := by
 obtain ⟨X, hX⟩ : ∃ X : ByteArray, (⟨nm.toArray⟩ : ByteArray) = X := ⟨_, rfl⟩
 have hb : bstr nm = .string X := by rw [← hX]; rfl
 have HX := Lib.hid hX
 rw [hb]
 clear hb hX
 obtain ⟨hW, hWs, ha, hd⟩ := two_new w (.cells #[.int .i64 2, .int .i64 a, .string X] 96) (.string ⟨#[]⟩) (.int .i64 0) 183
 have HW := Lib.hid hW; have HWS := Lib.hid hWs; have HD := Lib.hid hd
 clear ha hd
 have hL2 := Lib.hid (hL.below hW)
 have hlen : (Lib.itoa a).length ≤ 100 := itoa_short ha0 ha1
 have hh0 : -9223372036854775808 ≤ a := by omega
 have hh1 : a ≤ 9223372036854775807 := by omega
 have HDG := Lib.hid (digits_any a · hh0 hh1)
 obtain ⟨Y, hY⟩ : ∃ Y : ByteArray, (⟨(Lib.itoa a).toArray⟩ : ByteArray) = Y := ⟨_, rfl⟩
 rw [hY] at HDG
 have hYs : Y.size ≤ 100 := by rw [← hY, size_list]; exact hlen
 have HY := Lib.hid hY
 clear hWs hW hh0 hh1 ha0 ha1 hlen hY hL
 have k1 : ∀ W : World, (Op.stringOp .add Y ⟨#[105]⟩).run Tryz.prog W = .ok (.string (Y ++ ⟨#[105]⟩)) W := fun W => run_string_add_sum (P := Tryz.prog) (w := W) _ _ (by show Y.size + 1 ≤ _; omega)
 go_enter Tryz.func138, Tryz.ntmps138
 go_wp2_with fail
 refine (HDG.out _ hL2.out).mono ?_
 rintro e w1 ⟨rfl, hb1⟩
 have HB1 := Lib.hid (HW.out.trans (hb1.mono (by rw [HWS.out]; omega)))
 have HD1 := Lib.hid ((hb1.block _ (by rw [HWS.out]; omega)).trans HD.out)
 clear hb1
 obtain ⟨d0, d1, df0, df1⟩ := two_at HD1.out
 go_wp2
 obtain ⟨r0, r1, hbl⟩ := fin_two (u := .string (Y ++ ⟨#[105]⟩)) (v := .int .i64 7) HD1.out (Nat.le_succ _) HB1.out
 exact bodyPost_ret (v := .agg #[.string (Y ++ ⟨#[105]⟩), .int .i64 7]) (by simp [results, Tryz.results138, go_sem, r0, r1]) rfl (JoinPost.of (by rw [← HY.out]; exact bytes_join _ [105]) rfl hbl)
set_option maxRecDepth 100000 in
set_option maxHeartbeats 1000000 in
theorem joined_7 (a : Int) ( nm : List UInt8) (b o cc : Nat) (U0 : ByteArray) (s0 : Int) (x1 : Pc) (w : World) (e0 : w.cell? ⟨b, o, none⟩ = some (.string U0)) (e1 : w.cell? ⟨b, o + 1, none⟩ = some (.int .i64 s0)) (hU : U0.size ≤ 10000) :
  Calls Tryz.prog 138 #[.agg #[.int .i64 7, .int .i64 a, bstr nm], .slice (some ⟨b, o, none⟩) 1 cc] w (JoinPost (joinP ⟨7, a, nm⟩ (U0.data.toList, s0) x1) w) := by
 obtain ⟨X, hX⟩ : ∃ X : ByteArray, (⟨nm.toArray⟩ : ByteArray) = X := ⟨_, rfl⟩
 have hb : bstr nm = .string X := by rw [← hX]; rfl
 have HX := Lib.hid hX
 rw [hb]
 clear hb hX
 obtain ⟨hW, hWs, ha, hd⟩ := two_new w (.cells #[.int .i64 7, .int .i64 a, .string X] 96) (.string ⟨#[]⟩) (.int .i64 0) 183
 have HW := Lib.hid hW; have HWS := Lib.hid hWs; have HD := Lib.hid hd
 clear ha hd
 have hbl := cell_lt e0
 have hb1 : w.heap.size ≠ b := by simp at hbl; omega
 have hb2 : w.heap.size + 1 ≠ b := by simp at hbl; omega
 have hiL := inP_len U0.data.toList s0 6
 rw [sz0] at hiL
 have HWI := Lib.hid (within_bytes U0 s0 6 · (by omega))
 obtain ⟨Y, hY⟩ : ∃ Y : ByteArray, (⟨(inP U0.data.toList s0 6).toArray⟩ : ByteArray) = Y := ⟨_, rfl⟩
 rw [hY] at HWI
 have hYs : Y.size ≤ 10002 := by rw [← hY, size_list]; omega
 have k1 : ∀ W : World, (Op.stringOp .add ⟨#[45]⟩ Y).run Tryz.prog W = .ok (.string (⟨#[45]⟩ ++ Y)) W := fun W => run_string_add_sum (P := Tryz.prog) (w := W) _ _ (by show 1 + Y.size ≤ _; omega)
 have HY := Lib.hid hY
 clear hWs hW hY hYs hiL hU
 go_enter Tryz.func138, Tryz.ntmps138
 go_wp2_with fail
 refine (HWI.out _).mono ?_
 rintro e w1 ⟨rfl, hb1⟩
 have HB1 := Lib.hid (HW.out.trans (hb1.mono (by rw [HWS.out]; omega)))
 have HD1 := Lib.hid ((hb1.block _ (by rw [HWS.out]; omega)).trans HD.out)
 clear hb1
 obtain ⟨d0, d1, df0, df1⟩ := two_at HD1.out
 go_wp2
 obtain ⟨r0, r1, hbl⟩ := fin_two (u := .string (⟨#[45]⟩ ++ Y)) (v := .int .i64 6) HD1.out (Nat.le_succ _) HB1.out
 exact bodyPost_ret (v := .agg #[.string (⟨#[45]⟩ ++ Y), .int .i64 6]) (by simp [results, Tryz.results138, go_sem, r0, r1]) rfl (JoinPost.of (by rw [← HY.out]; exact bytes_join [45] _) rfl hbl)
set_option maxRecDepth 100000 in
set_option maxHeartbeats 1000000 in
theorem joined_8 (a : Int) ( nm : List UInt8) (b o cc : Nat) (U0 : ByteArray) (s0 : Int) (x1 : Pc) (w : World) (e0 : w.cell? ⟨b, o, none⟩ = some (.string U0)) (e1 : w.cell? ⟨b, o + 1, none⟩ = some (.int .i64 s0)) (hU : U0.size ≤ 10000) :
  Calls Tryz.prog 138 #[.agg #[.int .i64 8, .int .i64 a, bstr nm], .slice (some ⟨b, o, none⟩) 1 cc] w (JoinPost (joinP ⟨8, a, nm⟩ (U0.data.toList, s0) x1) w) := by
 obtain ⟨X, hX⟩ : ∃ X : ByteArray, (⟨nm.toArray⟩ : ByteArray) = X := ⟨_, rfl⟩
 have hb : bstr nm = .string X := by rw [← hX]; rfl
 have HX := Lib.hid hX
 rw [hb]
 clear hb hX
 obtain ⟨hW, hWs, ha, hd⟩ := two_new w (.cells #[.int .i64 8, .int .i64 a, .string X] 96) (.string ⟨#[]⟩) (.int .i64 0) 183
 have HW := Lib.hid hW; have HWS := Lib.hid hWs; have HD := Lib.hid hd
 clear ha hd
 have hbl := cell_lt e0
 have hb1 : w.heap.size ≠ b := by simp at hbl; omega
 have hb2 : w.heap.size + 1 ≠ b := by simp at hbl; omega
 have hiL := inP_len U0.data.toList s0 6
 rw [sz0] at hiL
 have HWI := Lib.hid (within_bytes U0 s0 6 · (by omega))
 obtain ⟨Y, hY⟩ : ∃ Y : ByteArray, (⟨(inP U0.data.toList s0 6).toArray⟩ : ByteArray) = Y := ⟨_, rfl⟩
 rw [hY] at HWI
 have hYs : Y.size ≤ 10002 := by rw [← hY, size_list]; omega
 have k1 : ∀ W : World, (Op.stringOp .add ⟨#[33]⟩ Y).run Tryz.prog W = .ok (.string (⟨#[33]⟩ ++ Y)) W := fun W => run_string_add_sum (P := Tryz.prog) (w := W) _ _ (by show 1 + Y.size ≤ _; omega)
 have HY := Lib.hid hY
 clear hWs hW hY hYs hiL hU
 go_enter Tryz.func138, Tryz.ntmps138
 go_wp2_with fail
 refine (HWI.out _).mono ?_
 rintro e w1 ⟨rfl, hb1⟩
 have HB1 := Lib.hid (HW.out.trans (hb1.mono (by rw [HWS.out]; omega)))
 have HD1 := Lib.hid ((hb1.block _ (by rw [HWS.out]; omega)).trans HD.out)
 clear hb1
 obtain ⟨d0, d1, df0, df1⟩ := two_at HD1.out
 go_wp2
 obtain ⟨r0, r1, hbl⟩ := fin_two (u := .string (⟨#[33]⟩ ++ Y)) (v := .int .i64 6) HD1.out (Nat.le_succ _) HB1.out
 exact bodyPost_ret (v := .agg #[.string (⟨#[33]⟩ ++ Y), .int .i64 6]) (by simp [results, Tryz.results138, go_sem, r0, r1]) rfl (JoinPost.of (by rw [← HY.out]; exact bytes_join [33] _) rfl hbl)
set_option maxRecDepth 100000 in
set_option maxHeartbeats 1000000 in
theorem joined_9 (a : Int) ( nm : List UInt8) (b o cc : Nat) (U0 : ByteArray) (s0 : Int) (x1 : Pc) (w : World) (e0 : w.cell? ⟨b, o, none⟩ = some (.string U0)) (_e1 : w.cell? ⟨b, o + 1, none⟩ = some (.int .i64 s0)) (hU : U0.size ≤ 10000) :
  Calls Tryz.prog 138 #[.agg #[.int .i64 9, .int .i64 a, bstr nm], .slice (some ⟨b, o, none⟩) 1 cc] w (JoinPost (joinP ⟨9, a, nm⟩ (U0.data.toList, s0) x1) w) := by
 obtain ⟨X, hX⟩ : ∃ X : ByteArray, (⟨nm.toArray⟩ : ByteArray) = X := ⟨_, rfl⟩
 have hb : bstr nm = .string X := by rw [← hX]; rfl
 have HX := Lib.hid hX
 rw [hb]
 clear hb hX
 obtain ⟨hW, hWs, ha, hd⟩ := two_new w (.cells #[.int .i64 9, .int .i64 a, .string X] 96) (.string ⟨#[]⟩) (.int .i64 0) 183
 have HW := Lib.hid hW; have HWS := Lib.hid hWs; have HD := Lib.hid hd
 clear ha hd
 have hbl := cell_lt e0
 have hb1 : w.heap.size ≠ b := by simp at hbl; omega
 have hb2 : w.heap.size + 1 ≠ b := by simp at hbl; omega
 have k1 : ∀ W : World, (Op.stringOp .add ⟨#[114, 101, 40]⟩ U0).run Tryz.prog W = .ok (.string (⟨#[114, 101, 40]⟩ ++ U0)) W := fun W => run_string_add_sum (P := Tryz.prog) (w := W) _ _ (by show 3 + U0.size ≤ _; omega)
 have k2 : ∀ W : World, (Op.stringOp .add (⟨#[114, 101, 40]⟩ ++ U0) ⟨#[41]⟩).run Tryz.prog W = .ok (.string (⟨#[114, 101, 40]⟩ ++ U0 ++ ⟨#[41]⟩)) W := fun W => run_string_add_sum (P := Tryz.prog) (w := W) _ _ (by rw [ByteArray.size_append]; show 3 + U0.size + 1 ≤ _; omega)
 clear hWs hW hU
 go_enter Tryz.func138, Tryz.ntmps138
 go_wp2
 exact bodyPost_ret (v := .agg #[.string (⟨#[114, 101, 40]⟩ ++ U0 ++ ⟨#[41]⟩), .int .i64 7]) (by simp [results, Tryz.results138, go_sem]) rfl (JoinPost.of (by apply ByteArray.ext; simp [joinP]) rfl (two_new w _ _ _ _).1)
set_option maxRecDepth 100000 in
set_option maxHeartbeats 1000000 in
theorem joined_10 (a : Int) ( nm : List UInt8) (b o cc : Nat) (U0 : ByteArray) (s0 : Int) (x1 : Pc) (w : World) (e0 : w.cell? ⟨b, o, none⟩ = some (.string U0)) (_e1 : w.cell? ⟨b, o + 1, none⟩ = some (.int .i64 s0)) (hU : U0.size ≤ 10000) :
  Calls Tryz.prog 138 #[.agg #[.int .i64 10, .int .i64 a, bstr nm], .slice (some ⟨b, o, none⟩) 1 cc] w (JoinPost (joinP ⟨10, a, nm⟩ (U0.data.toList, s0) x1) w) := by
 obtain ⟨X, hX⟩ : ∃ X : ByteArray, (⟨nm.toArray⟩ : ByteArray) = X := ⟨_, rfl⟩
 have hb : bstr nm = .string X := by rw [← hX]; rfl
 have HX := Lib.hid hX
 rw [hb]
 clear hb hX
 obtain ⟨hW, hWs, ha, hd⟩ := two_new w (.cells #[.int .i64 10, .int .i64 a, .string X] 96) (.string ⟨#[]⟩) (.int .i64 0) 183
 have HW := Lib.hid hW; have HWS := Lib.hid hWs; have HD := Lib.hid hd
 clear ha hd
 have hbl := cell_lt e0
 have hb1 : w.heap.size ≠ b := by simp at hbl; omega
 have hb2 : w.heap.size + 1 ≠ b := by simp at hbl; omega
 have k1 : ∀ W : World, (Op.stringOp .add ⟨#[105, 109, 40]⟩ U0).run Tryz.prog W = .ok (.string (⟨#[105, 109, 40]⟩ ++ U0)) W := fun W => run_string_add_sum (P := Tryz.prog) (w := W) _ _ (by show 3 + U0.size ≤ _; omega)
 have k2 : ∀ W : World, (Op.stringOp .add (⟨#[105, 109, 40]⟩ ++ U0) ⟨#[41]⟩).run Tryz.prog W = .ok (.string (⟨#[105, 109, 40]⟩ ++ U0 ++ ⟨#[41]⟩)) W := fun W => run_string_add_sum (P := Tryz.prog) (w := W) _ _ (by rw [ByteArray.size_append]; show 3 + U0.size + 1 ≤ _; omega)
 clear hWs hW hU
 go_enter Tryz.func138, Tryz.ntmps138
 go_wp2
 exact bodyPost_ret (v := .agg #[.string (⟨#[105, 109, 40]⟩ ++ U0 ++ ⟨#[41]⟩), .int .i64 7]) (by simp [results, Tryz.results138, go_sem]) rfl (JoinPost.of (by apply ByteArray.ext; simp [joinP]) rfl (two_new w _ _ _ _).1)
theorem tab_cells (k : Nat) (hk : k < 13) : opsCells[k * 3]? = some (.int .i64 (tabAt k).1) ∧ opsCells[k * 3 + 1]? = some (.string ⟨(tabAt k).2.1.toArray⟩) ∧ opsCells[k * 3 + 2]? = some (.int .i64 (tabAt k).2.2) := by
 have h : k = 0 ∨ k = 1 ∨ k = 2 ∨ k = 3 ∨ k = 4 ∨ k = 5 ∨ k = 6 ∨ k = 7 ∨ k = 8 ∨ k = 9 ∨ k = 10 ∨ k = 11 ∨ k = 12 := by omega
 rcases h with rfl | rfl | rfl | rfl | rfl | rfl | rfl | rfl | rfl | rfl | rfl | rfl | rfl <;> exact ⟨rfl, rfl, rfl⟩
theorem tab_str (k : Nat) : 0 ≤ (tabAt k).2.2 ∧ (tabAt k).2.2 ≤ 5 := by
 by_cases hk : k < 13
 ·have h : k = 0 ∨ k = 1 ∨ k = 2 ∨ k = 3 ∨ k = 4 ∨ k = 5 ∨ k = 6 ∨ k = 7 ∨ k = 8 ∨ k = 9 ∨ k = 10 ∨ k = 11 ∨ k = 12 := by omega
  rcases h with rfl | rfl | rfl | rfl | rfl | rfl | rfl | rfl | rfl | rfl | rfl | rfl | rfl <;> decide
 ·unfold tabAt
  rw [List.getD_eq_getElem?_getD, List.getElem?_eq_none (by simp [tabOps]; omega)]
  decide
set_option maxRecDepth 100000 in
set_option maxHeartbeats 2000000 in
theorem joined_two (k : Nat) (hk : k < 13) (a : Int) (nm : List UInt8) (b o cc : Nat) (U0 U1 : ByteArray) (s0 s1 : Int) (w : World) (hO : Ops w) (e0 : w.cell? ⟨b, o, none⟩ = some (.string U0)) (e1 : w.cell? ⟨b, o + 1, none⟩ = some (.int .i64 s0)) (e2 : w.cell? ⟨b, o + 2, none⟩ = some (.string U1)) (e3 : w.cell? ⟨b, o + 2 + 1, none⟩ = some (.int .i64 s1))
  (hU : U0.size ≤ 10000) (hU1 : U1.size ≤ 10000) :
  Calls Tryz.prog 138 #[.agg #[.int .i64 ((k : Int) + 11), .int .i64 a, bstr nm], .slice (some ⟨b, o, none⟩) 2 cc] w (JoinPost (joinP ⟨(k : Int) + 11, a, nm⟩ (U0.data.toList, s0) (U1.data.toList, s1)) w) := by
 have hJ : joinP ⟨(k : Int) + 11, a, nm⟩ (U0.data.toList, s0) (U1.data.toList, s1) = betP (tabAt k).2.1 (tabAt k).2.2 (U0.data.toList, s0) (U1.data.toList, s1) := by
  unfold joinP
  simp only
  rw [if_neg (by omega), if_neg (by omega), if_neg (by omega), if_neg (by omega), if_neg (by omega), if_neg (by omega), if_neg (by omega), if_neg (by omega), if_neg (by omega), if_neg (by omega)]
  rw [show ((k : Int) + 11 - 11).toNat = k by omega]
 rw [hJ]
 clear hJ
 obtain ⟨t1, t2, t3⟩ := tab_cells k hk
 obtain ⟨q1, q2⟩ := tab_str k
 have q3 := tab_len k
 generalize tabAt k = tk at t1 t2 t3 q1 q2 q3 ⊢
 obtain ⟨oi, ol, os⟩ := tk
 simp only at t1 t2 t3 q1 q2 q3 ⊢
 obtain ⟨OT, hOT⟩ : ∃ OT : ByteArray, (⟨ol.toArray⟩ : ByteArray) = OT := ⟨_, rfl⟩
 have hOs : OT.size ≤ 2 := by rw [← hOT, size_list]; exact q3
 rw [hOT] at t2
 have hol : ol = OT.data.toList := by rw [← hOT]
 subst hol
 clear hOT q3
 have HBT := Lib.hid (between_any oi os OT U0 U1 s0 s1 · hOs hU hU1 q1 q2)
 obtain ⟨X, hX⟩ : ∃ X : ByteArray, (⟨nm.toArray⟩ : ByteArray) = X := ⟨_, rfl⟩
 have hb : bstr nm = .string X := by rw [← hX]; rfl
 rw [hb]
 clear hb hX
 obtain ⟨tO, frO, hO⟩ := hO.at_
 have hOl := lt_of_block hO
 obtain ⟨hW, hWs, ha, hd⟩ := two_new w (.cells #[.int .i64 ((k : Int) + 11), .int .i64 a, .string X] 96) (.string ⟨#[]⟩) (.int .i64 0) 183
 have g0 := (cell_of_row w 1 (k * 3) _ _ _ hO).trans t1
 have g1 := (cell_of_row w 1 (k * 3 + 1) _ _ _ hO).trans t2
 have g2 := (cell_of_row w 1 (k * 3 + 2) _ _ _ hO).trans t3
 have HW := Lib.hid hW; have HWS := Lib.hid hWs; have HD := Lib.hid hd
 have hbl := cell_lt e0
 have hb1 : w.heap.size ≠ b := by simp at hbl; omega
 have hb2 : w.heap.size + 1 ≠ b := by simp at hbl; omega
 have hg1 : w.heap.size ≠ 1 := by omega
 have hup : ∀ (p : Addr) (v : Value) (o1 o2 : Obj), w.cell? p = some v → ((w.alloc o1).alloc o2).cell? p = some v := fun p v o1 o2 h => (World.cell?_alloc_lt _ _ _ (by have := cell_lt h; simp; omega)).trans ((World.cell?_alloc_lt w _ _ (cell_lt h)).trans h)
 have g0' := hup _ _ (.cells #[.int .i64 ((k : Int) + 11), .int .i64 a, .string X] 96) (.cells #[.string ⟨#[]⟩, .int .i64 0] 183) g0
 have g1' := hup _ _ (.cells #[.int .i64 ((k : Int) + 11), .int .i64 a, .string X] 96) (.cells #[.string ⟨#[]⟩, .int .i64 0] 183) g1
 have g2' := hup _ _ (.cells #[.int .i64 ((k : Int) + 11), .int .i64 a, .string X] 96) (.cells #[.string ⟨#[]⟩, .int .i64 0] 183) g2
 clear hup
 have n1 := int_ne (a := (k : Int) + 11) (b := 1) (by omega)
 have n2 := int_ne (a := (k : Int) + 11) (b := 2) (by omega)
 have n3 := int_ne (a := (k : Int) + 11) (b := 3) (by omega)
 have n4 := int_ne (a := (k : Int) + 11) (b := 4) (by omega)
 have n5 := int_ne (a := (k : Int) + 11) (b := 5) (by omega)
 have n6 := int_ne (a := (k : Int) + 11) (b := 6) (by omega)
 have n7 := int_ne (a := (k : Int) + 11) (b := 7) (by omega)
 have n8 := int_ne (a := (k : Int) + 11) (b := 8) (by omega)
 have n9 := int_ne (a := (k : Int) + 11) (b := 9) (by omega)
 have n10 := int_ne (a := (k : Int) + 11) (b := 10) (by omega)
 have hsub : IntKind.i64.wrap (k : Int) = (k : Int) := IntWalk.i64_in _ (by omega)
 clear ha hd hWs hW t1 t2 t3 hOs hU hU1 q1 q2
 go_enter Tryz.func138, Tryz.ntmps138
 go_wp2
 have hk0 : (0 : Int) ≤ (k : Int) := by omega
 have hk1 : (k : Int) < 13 := by omega
 refine wp_region_tail 11 (by kernel_rfl) (by kernel_rfl) ?_
 simp only [List.take_succ_cons, List.take_zero, List.drop_succ_cons, List.drop_zero]
 repeat still_step
 refine wpStill_nil ?_
 go_wp2_with fail
 refine (HBT.out _).mono ?_
 rintro e w1 ⟨rfl, hb1⟩
 have HB1 := Lib.hid (HW.out.drew.trans (hb1.mono (by show _ ≤ ((w.alloc _).alloc _).heap.size; rw [HWS.out]; omega)))
 have HD1 := Lib.hid ((hb1.block _ (by show _ < ((w.alloc _).alloc _).heap.size; rw [HWS.out]; omega)).trans HD.out)
 clear hb1
 obtain ⟨d0, d1, df0, df1⟩ := two_at HD1.out
 obtain ⟨R, hR⟩ : ∃ R : ByteArray, (⟨(betP OT.data.toList os (U0.data.toList, s0) (U1.data.toList, s1)).1.toArray⟩ : ByteArray) = R := ⟨_, rfl⟩
 rw [hR]
 have HR := Lib.hid hR; clear hR
 go_wp2
 obtain ⟨r0, r1, hbl⟩ := fin_two (u := .string R) (v := .int .i64 os) HD1.out (Nat.le_succ _) HB1.out
 exact bodyPost_ret (v := .agg #[.string R, .int .i64 os]) (by simp [results, Tryz.results138, go_sem, r0, r1]) rfl (JoinPost.of HR.out.symm rfl hbl)
end Go.Proofs.YtdelihhbmagphaaGreatDoor
