/- Own texts, joined: En, Ep, Er, Es, Et, Eu, F1, F2, F3, F4. -/
import Derived.Test.YtkjkcgbmaojpiaaGreatDoorR5
import Derived.Test.YtkjkcgbmaojpiaaGreatDoorR6
namespace Go.Proofs.YtkjkcgbmaojpiaaGreatDoor
open Go.RowKit
structure Own (w : World) (cs : List CM) (v : Value) (w' : World) : Prop where
 own : w'.ownsRow w.heap.size 144 3 v cs.length (flat cs)
 below : Below w.heap.size w w'
def ParsePost (l : List UInt8) (w : World) (e : Ending) (w' : World) : Prop :=
 ∃ v, e = .returned (.tuple #[v, .int .i64 (parseP l).2.1, .int .i64 (parseP l).2.2]) ∧ Own w (parseP l).1 v w'
theorem ParsePost.of {l : List UInt8} {w w' : World} {cs : List CM} {p : Nat} {e : Int} {v : Value} (h : parseP l = (cs, p, e)) (ho : Own w cs v w') : ParsePost l w (.returned (.tuple #[v, .int .i64 p, .int .i64 e])) w' := by
 unfold ParsePost; rw [h]; exact ⟨v, rfl, ho⟩
theorem St.begin (w : World) (s : ByteArray) : St w (w.alloc (.cells #[.string s, .int .i64 0, .slice none 0 0] 157)) w.heap.size s 0 [] (w.alloc (.cells #[.string s, .int .i64 0, .slice none 0 0] 157)) :=
 ⟨⟨_, heap_alloc_new w _, World.ownsRow_nil _ _ _ _⟩, Nat.le_refl _, (Below.refl _ _).alloc (Nat.le_refl _) _, Keeps.refl _ _⟩
end Go.Proofs.YtkjkcgbmaojpiaaGreatDoor
namespace Go.Proofs.YtkjkcgbmaojpiaaGreatDoor
open Go.RowKit
def RdC (w : World) (v : Value) (cs : List CM) : Prop :=
 ∃ (A : Option Addr) (c : Nat), v = .slice A cs.length c ∧ ∀ i (h : i < cs.length), ∃ b o, A = some ⟨b, o, none⟩ ∧
  w.cell? ⟨b, o + i * 3, none⟩ = some (.int .i64 cs[i].op) ∧ w.cell? ⟨b, o + i * 3 + 1, none⟩ = some (.int .i64 cs[i].a) ∧ w.cell? ⟨b, o + i * 3 + 2, none⟩ = some (bstr cs[i].nm)
theorem cell_lt {w : World} {p : Addr} {u : Value} (h : w.cell? p = some u) : p.block < w.heap.size := World.block_lt_of_cell? w p h
theorem RdC.below {w w' : World} {v : Value} {cs : List CM} (h : RdC w v cs) (hb : Below w.heap.size w w') : RdC w' v cs := by
 obtain ⟨A, c, rfl, hr⟩ := h
 refine ⟨A, c, rfl, fun i hi => ?_⟩
 obtain ⟨b, o, rfl, h0, h1, h2⟩ := hr i hi
 exact ⟨b, o, rfl, (hb.cell (cell_lt h0)).trans h0, (hb.cell (cell_lt h1)).trans h1, (hb.cell (cell_lt h2)).trans h2⟩
theorem own_rd {w : World} {B : Nat} {v : Value} {cs : List CM} (h : w.ownsRow B 144 3 v cs.length (flat cs)) : RdC w v cs := by
 by_cases h0 : 0 < cs.length
 ·obtain ⟨g, cap, rfl, _, _⟩ := h.form h0
  refine ⟨_, _, rfl, fun i hi => ⟨_, _, rfl, ?_⟩⟩
  obtain ⟨f0, f1, f2⟩ := flat_at hi
  rw [Nat.zero_add, h.cellAt _ (by omega), h.cellAt _ (by omega), h.cellAt _ (by omega)]
  exact ⟨f0, f1, f2⟩
 ·have : cs = [] := List.eq_nil_of_length_eq_zero (by omega)
  subst this
  rcases h.2 with ⟨rfl, _⟩ | ⟨g, cap, cur, rfl, _⟩
  ·exact ⟨_, _, rfl, fun i hi => absurd hi (by simp)⟩
  ·exact ⟨_, _, rfl, fun i hi => absurd hi (by simp)⟩
theorem Own.rd {w w' : World} {cs : List CM} {v : Value} (h : Own w cs v w') : RdC w' v cs := own_rd h.own
def runB : List CM → Nat → Option Nat
 | [], v => some v
 | c :: r, v => if formedB c = true ∧ operN c.op ≤ v then runB r (v + 1 - operN c.op) else none
def rightB (cs : List CM) : Bool := decide (cs.length ≤ 32) && (runB cs 0 == some 1)
theorem operN_le (op : Int) : operN op ≤ 2 := by unfold operN; split; omega; split <;> omega
theorem run_at {cs : List CM} {k v : Nat} (hk : k < cs.length) : runB (cs.drop k) v = if formedB cs[k] = true ∧ operN cs[k].op ≤ v then runB (cs.drop (k + 1)) (v + 1 - operN cs[k].op) else none := by
 rw [List.drop_eq_getElem_cons hk]; rfl
set_option maxHeartbeats 2000000 in
theorem right_any (v : Value) (cs : List CM) (w : World) (hR : RdC w v cs) (hl : cs.length ≤ 4611686018427387904) :
  Calls Tryz.prog 181 #[v] w fun e w' => e = .returned (.bool (rightB cs)) ∧ Below w.heap.size w w' := by
 obtain ⟨A, c, rfl, hr⟩ := hR
 by_cases h32 : 32 < cs.length
 ·have hB : rightB cs = false := by unfold rightB; rw [decide_eq_false (by omega)]; rfl
  rw [hB]; clear hB hr
  have h32' : (32 : Int) < cs.length := by omega
  go_enter Tryz.func181, Tryz.ntmps181
  go_wp2
  go_ret
  exact ⟨rfl, Below.refl _ _⟩
 ·have hB : rightB cs = (runB cs 0 == some 1) := by unfold rightB; rw [decide_eq_true (by omega)]; rfl
  rw [hB]; clear hB
  have h32' : decide ((32 : Int) < cs.length) = false := decide_eq_false (by omega)
  have HR := Lib.hid hr; clear hr
  obtain ⟨n, hn⟩ : ∃ n, cs.length = n := ⟨_, rfl⟩
  have HN := Lib.hid hn
  rw [hn] at h32' hl h32 ⊢
  clear hn
  go_enter Tryz.func181, Tryz.ntmps181
  go_wp2
  go_loopw [2, 3, 12] (fun x2 vv i wr => x2 = .bool false ∧ ∃ k vs : Nat, k ≤ n ∧ vs ≤ k ∧ i = .int .i64 k ∧ vv = .int .i64 vs ∧ Hid (runB (cs.drop k) vs = runB cs 0) ∧ Below w.heap.size w wr) (fun _ _ i _ => n - (intOf i).toNat)
  case atStart => exact ⟨rfl, 0, 0, by omega, by omega, rfl, rfl, rfl, Below.refl _ _⟩
  case round =>
   obtain ⟨rfl, k, vs, hk, hvs, rfl, rfl, HB, hb⟩ := hrel
   have HBL := Lib.hid hb
   by_cases hkn : k < n
   ·obtain ⟨b, o, rfl, d0, d1, d2⟩ := HR.out k (by rw [HN.out]; exact hkn)
    have hrun := run_at (cs := cs) (k := k) (v := vs) (by rw [HN.out]; exact hkn)
    rw [HB.out] at hrun
    obtain ⟨cc, hcc⟩ : ∃ cc, cs[k]'(by rw [HN.out]; exact hkn) = cc := ⟨_, rfl⟩
    rw [hcc] at d0 d1 d2 hrun
    have e0 := (hb.cell (cell_lt d0)).trans d0
    have e1 := (hb.cell (cell_lt d1)).trans d1
    have e2 := (hb.cell (cell_lt d2)).trans d2
    have hon := operN_le cc.op
    obtain ⟨X, hX⟩ : ∃ X : ByteArray, bstr cc.nm = .string X := ⟨_, rfl⟩
    have hfm := formed_any cc
    rw [hX] at e2 hfm
    have HFM := Lib.hid hfm
    have HRUN := Lib.hid hrun
    clear d0 d1 d2 hcc hrun hb hX hfm
    cases hf : formedB cc
    ·have HFF := Lib.hid hf
     have hE : runB cs 0 = none := by rw [HRUN.out, hf, if_neg (by simp)]
     have HE := Lib.hid hE
     clear hE hf
     go_wp2_with fail
     refine (operands_any _ _).mono ?_
     rintro e w1 ⟨rfl, rfl⟩
     go_wp2_with fail
     refine (HFM.out _).mono ?_
     rintro e w2 ⟨rfl, hb2⟩
     have HB2 := Lib.hid hb2; clear hb2
     rw [HFF.out]
     go_wp2
     go_ret
     exact ⟨by rw [HE.out]; rfl, (HBL.out.alloc HBL.out.size _).trans (HB2.out.mono (by have := HBL.out.size; simp; omega))⟩
    ·have HFF := Lib.hid hf
     by_cases hov : operN cc.op ≤ vs
     ·have hE : runB (cs.drop (k + 1)) (vs + 1 - operN cc.op) = runB cs 0 := by rw [HRUN.out, hf, if_pos ⟨rfl, hov⟩]
      have HE := Lib.hid hE
      clear hE hf
      have hov' : decide ((vs : Int) < (operN cc.op : Int)) = false := decide_eq_false (by omega)
      go_wp2_with fail
      refine (operands_any _ _).mono ?_
      rintro e w1 ⟨rfl, rfl⟩
      go_wp2_with fail
      refine (HFM.out _).mono ?_
      rintro e w2 ⟨rfl, hb2⟩
      have HB2 := Lib.hid hb2; clear hb2
      rw [HFF.out]
      go_wp2
      go_roundw
      case rel => exact ⟨rfl, k + 1, vs + 1 - operN cc.op, by omega, by omega, by go_num, by congr 1; omega, HE, (HBL.out.alloc HBL.out.size _).trans (HB2.out.mono (by have := HBL.out.size; simp; omega))⟩
      case measure => simp [intOf]; omega
     ·have hE : runB cs 0 = none := by rw [HRUN.out, hf, if_neg (by simp; omega)]
      have HE := Lib.hid hE
      clear hE hf
      have hov' : (vs : Int) < (operN cc.op : Int) := by omega
      go_wp2_with fail
      refine (operands_any _ _).mono ?_
      rintro e w1 ⟨rfl, rfl⟩
      go_wp2_with fail
      refine (HFM.out _).mono ?_
      rintro e w2 ⟨rfl, hb2⟩
      have HB2 := Lib.hid hb2; clear hb2
      rw [HFF.out]
      go_wp2
      go_ret
      exact ⟨by rw [HE.out]; rfl, (HBL.out.alloc HBL.out.size _).trans (HB2.out.mono (by have := HBL.out.size; simp; omega))⟩
   ·have hE : runB cs 0 = some vs := by
     rw [← HB.out, List.drop_of_length_le (by rw [HN.out]; omega)]; rfl
    have hE2 : (runB cs 0 == some 1) = ((vs : Int) == 1) := by
     rw [hE]
     by_cases h : vs = 1
     ·subst h; rfl
     ·rw [int_ne (show (vs : Int) ≠ 1 by omega)]; simp [h]
    have HE := Lib.hid hE2
    clear hE hE2
    go_wp2
    go_ret
    exact ⟨by rw [HE.out]; rfl, HBL.out⟩
end Go.Proofs.YtkjkcgbmaojpiaaGreatDoor
namespace Go.Proofs.YtkjkcgbmaojpiaaGreatDoor
open Go.RowKit
abbrev Pc := List UInt8 × Int
def joinP (c : CM) (u0 u1 : Pc) : Pc :=
 if c.op = 1 then (Lib.itoa c.a, 7) else if c.op = 2 then (Lib.itoa c.a ++ [105], 7) else if c.op = 3 then (wTrue, 7) else if c.op = 4 then (wFalse, 7)
 else if c.op = 5 then (c.nm, 7) else if c.op = 6 then ([105, 110, 40] ++ c.nm ++ [41], 7)
 else if c.op = 7 then ([45] ++ inP u0.1 u0.2 6, 6) else if c.op = 8 then ([33] ++ inP u0.1 u0.2 6, 6)
 else if c.op = 9 then ([114, 101, 40] ++ u0.1 ++ [41], 7) else if c.op = 10 then ([105, 109, 40] ++ u0.1 ++ [41], 7)
 else betP (tabAt (c.op - 11).toNat).2.1 (tabAt (c.op - 11).toNat).2.2 u0 u1
def JoinPost (p : Pc) (w : World) (e : Ending) (w' : World) : Prop := e = .returned (.agg #[.string ⟨p.1.toArray⟩, .int .i64 p.2]) ∧ Below w.heap.size w w'
theorem JoinPost.of {p : Pc} {w w' : World} {X : ByteArray} {n : Int} (hX : X = ⟨p.1.toArray⟩) (hn : n = p.2) (hb : Below w.heap.size w w') : JoinPost p w (.returned (.agg #[.string X, .int .i64 n])) w' := by
 subst hX; subst hn; exact ⟨rfl, hb⟩
theorem itoa_short {a : Int} (ha0 : 0 ≤ a) (ha1 : a ≤ 1099511627776) : (Lib.itoa a).length ≤ 100 := by
 obtain ⟨m, rfl⟩ : ∃ m : Nat, a = (m : Int) := ⟨a.toNat, by omega⟩
 have hi : Lib.itoa (m : Int) = Lib.decDigits m := by
  unfold Lib.itoa
  rw [if_neg (by omega)]; rfl
 rw [hi]
 have : ∀ (k u : Nat), u < 10 ^ (k + 1) → (Lib.decDigits u).length ≤ k + 1 := by
  intro k
  induction k with
  | zero => intro u hu; rw [dec_small (by omega)]; simp
  | succ k ih =>
   intro u hu
   by_cases h : u < 10
   ·rw [dec_small h]; simp
   ·rw [dec_big h]
    have := ih (u / 10) (by rw [Nat.pow_succ] at hu; omega)
    simp; omega
 exact Nat.le_trans (this 12 m (by omega)) (by omega)
theorem tab_cells (k : Nat) (hk : k < 13) : opsCells[k * 3]? = some (.int .i64 (tabAt k).1) ∧ opsCells[k * 3 + 1]? = some (.string ⟨(tabAt k).2.1.toArray⟩) ∧ opsCells[k * 3 + 2]? = some (.int .i64 (tabAt k).2.2) := by
 have h : k = 0 ∨ k = 1 ∨ k = 2 ∨ k = 3 ∨ k = 4 ∨ k = 5 ∨ k = 6 ∨ k = 7 ∨ k = 8 ∨ k = 9 ∨ k = 10 ∨ k = 11 ∨ k = 12 := by omega
 rcases h with rfl | rfl | rfl | rfl | rfl | rfl | rfl | rfl | rfl | rfl | rfl | rfl | rfl <;> exact ⟨rfl, rfl, rfl⟩
end Go.Proofs.YtkjkcgbmaojpiaaGreatDoor
namespace Go.Proofs.YtkjkcgbmaojpiaaGreatDoor
open Go.RowKit
def none0 : Pc := ([], 0)
def stepP (st : List Pc) (c : CM) : List Pc := st.take (st.length - operN c.op) ++ [joinP c ((st.drop (st.length - operN c.op)).getD 0 none0) ((st.drop (st.length - operN c.op)).getD 1 none0)]
def stackP (cs : List CM) : List Pc := cs.foldl stepP []
def showP (cs : List CM) : List UInt8 × Int := if rightB cs = true then (((stackP cs).getD 0 none0).1, 0) else ([], 1)
def sumP : List Pc → Nat
 | [] => 0
 | p :: r => p.1.length + sumP r
theorem sumP_append (a b : List Pc) : sumP (a ++ b) = sumP a + sumP b := by
 induction a with
 | nil => simp [sumP]
 | cons p r ih => simp [sumP, ih]; omega
theorem sumP_two {st : List Pc} : (st.getD 0 none0).1.length + (st.getD 1 none0).1.length ≤ sumP st := by
 match st with
 | [] => simp [none0]
 | [p] => simp [none0, sumP]
 | p :: q :: r => simp [sumP]
theorem name_len {l : List UInt8} (h : nameB l = true) : l.length ≤ 12 := by
 rcases Nat.lt_or_ge 12 l.length with h1 | h1
 ·rw [nameB_long h1] at h; cases h
 ·exact h1
theorem formed_name {c : CM} (h : formedB c = true) : c.nm.length ≤ 12 := by
 unfold formedB at h
 split at h
 ·simp at h; rw [h.1]; simp
 ·split at h
  ·simp at h; rw [h.1]; simp
  ·split at h
   ·simp at h; exact name_len h.2
   ·simp at h; rw [h.2.2.2]; simp
theorem formed_num {c : CM} (h : formedB c = true) (ho : c.op = 1 ∨ c.op = 2) : 0 ≤ c.a ∧ c.a ≤ 1099511627776 := by
 unfold formedB at h
 rcases ho with e | e
 ·rw [if_pos e] at h; simp at h; exact h.2
 ·rw [if_neg (by omega), if_pos e] at h; simp at h; omega
theorem formed_op {c : CM} (h : formedB c = true) : 1 ≤ c.op ∧ c.op ≤ 23 := by
 unfold formedB at h
 split at h
 ·omega
 ·split at h
  ·omega
  ·split at h
   ·omega
   ·simp at h; exact ⟨h.1, h.2.1⟩
theorem betP_len (k : Nat) (u0 u1 : Pc) : (betP (tabAt k).2.1 (tabAt k).2.2 u0 u1).1.length ≤ u0.1.length + u1.1.length + 6 := by
 have h1 := inP_len u0.1 u0.2 (if (tabAt k).2.2 = 3 then (tabAt k).2.2 + 1 else (tabAt k).2.2)
 have h2 := inP_len u1.1 u1.2 ((tabAt k).2.2 + 1)
 have h3 := tab_len k
 unfold betP
 simp only [List.length_append]
 omega
theorem joinP_len {c : CM} (h : formedB c = true) (u0 u1 : Pc) : (joinP c u0 u1).1.length ≤ u0.1.length + u1.1.length + 110 := by
 have hn := formed_name h
 have h6 := inP_len u0.1 u0.2 6
 unfold joinP
 split
 ·rename_i e; have := formed_num h (Or.inl e); have := itoa_short this.1 this.2; simp only; omega
 ·split
  ·rename_i e; have := formed_num h (Or.inr e); have := itoa_short this.1 this.2; simp only [List.length_append, List.length_singleton]; omega
  ·split
   ·simp [wTrue]
   ·split
    ·simp [wFalse]
    ·split
     ·simp only; omega
     ·split
      ·simp; omega
      ·split
       ·simp only [List.length_append, List.length_singleton]; omega
       ·split
        ·simp only [List.length_append, List.length_singleton]; omega
        ·split
         ·simp; omega
         ·split
          ·simp; omega
          ·have := betP_len (c.op - 11).toNat u0 u1; omega
theorem stepP_sum {st : List Pc} {c : CM} (h : formedB c = true) : sumP (stepP st c) ≤ sumP st + 110 := by
 unfold stepP
 have h1 : sumP st = sumP (st.take (st.length - operN c.op)) + sumP (st.drop (st.length - operN c.op)) := by rw [← sumP_append, List.take_append_drop]
 rw [sumP_append]
 have h2 := joinP_len h ((st.drop (st.length - operN c.op)).getD 0 none0) ((st.drop (st.length - operN c.op)).getD 1 none0)
 have h3 := sumP_two (st := st.drop (st.length - operN c.op))
 simp only [sumP]
 omega
theorem stepP_length {st : List Pc} {c : CM} (h : operN c.op ≤ st.length) : (stepP st c).length = st.length + 1 - operN c.op := by
 unfold stepP
 simp; omega
end Go.Proofs.YtkjkcgbmaojpiaaGreatDoor
namespace Go.Proofs.YtkjkcgbmaojpiaaGreatDoor
open Go.RowKit
structure ShK (cs : List CM) (k : Nat) (st : List Pc) : Prop where
 stk : stackP (cs.take k) = st
 run : runB (cs.drop k) st.length = some 1
 sum : sumP st ≤ 110 * k
 len : st.length ≤ k
theorem ShK.next {cs : List CM} {k : Nat} {st : List Pc} (h : ShK cs k st) (hk : k < cs.length) : formedB cs[k] = true ∧ operN cs[k].op ≤ st.length ∧ ShK cs (k + 1) (stepP st cs[k]) := by
 have hr := h.run
 rw [run_at hk] at hr
 split at hr
 ·rename_i hc
  refine ⟨hc.1, hc.2, ?_, ?_, ?_, ?_⟩
  ·unfold stackP
   rw [List.take_succ_eq_append_getElem hk, List.foldl_append]
   show stepP (stackP (cs.take k)) cs[k] = _
   rw [h.stk]
  ·rw [stepP_length hc.2]; exact hr
  ·have := stepP_sum (st := st) hc.1; have := h.sum; omega
  ·rw [stepP_length hc.2]; have := h.len; omega
 ·cases hr
theorem ShK.zero {cs : List CM} (h : rightB cs = true) : ShK cs 0 [] := by
 unfold rightB at h
 simp at h
 exact ⟨rfl, h.2, by simp [sumP], by simp⟩
theorem ShK.done {cs : List CM} {st : List Pc} (h : ShK cs cs.length st) : stackP cs = st ∧ st.length = 1 := by
 have h1 := h.stk; have h2 := h.run
 rw [List.take_length] at h1
 rw [List.drop_length] at h2
 exact ⟨h1, by simpa [runB] using h2⟩
theorem own_form {w : World} {base : Nat} {e : TypeId} {size n : Nat} {v : Value} {xs : List Value} (h : w.ownsRow base e size v n xs) : (v = .slice none 0 0 ∧ n = 0) ∨ ∃ g cap, v = .slice (some ⟨g, 0, none⟩) n cap ∧ n ≤ cap ∧ cap ≤ maxLen := by
 rcases h.2 with ⟨hv, h0⟩ | ⟨g, cap, cur, hv, _, _, h1, h2, _⟩
 ·exact Or.inl ⟨hv, h0⟩
 ·exact Or.inr ⟨g, cap, hv, h1, h2⟩
theorem box_below {w w1 : World} {b : Nat} {x y z : Value} (hb : Below w.heap.size w w1) (hl : b < w.heap.size) (h0 : w.cell? ⟨b, 0, none⟩ = some x) (h1 : w.cell? ⟨b, 1, none⟩ = some y) (h2 : w.cell? ⟨b, 2, none⟩ = some z) :
  w1.cell? ⟨b, 0, none⟩ = some x ∧ w1.cell? ⟨b, 1, none⟩ = some y ∧ w1.cell? ⟨b, 2, none⟩ = some z := ⟨(hb.cell hl).trans h0, (hb.cell hl).trans h1, (hb.cell hl).trans h2⟩
def ShowPost (cs : List CM) (w : World) (e : Ending) (w' : World) : Prop := e = .returned (.tuple #[.string ⟨(showP cs).1.toArray⟩, .int .i64 (showP cs).2]) ∧ Below w.heap.size w w'
theorem ShowPost.of {cs : List CM} {w w' : World} {X : ByteArray} {n : Int} (hX : X.data.toList = (showP cs).1) (hn : n = (showP cs).2) (hb : Below w.heap.size w w') : ShowPost cs w (.returned (.tuple #[.string X, .int .i64 n])) w' := by
 subst hn; unfold ShowPost; rw [← hX]; exact ⟨rfl, hb⟩
end Go.Proofs.YtkjkcgbmaojpiaaGreatDoor
namespace Go.Proofs.YtkjkcgbmaojpiaaGreatDoor
open Go.RowKit
def RdI (w : World) (v : Value) (cs : List CM) : Prop := (v = .slice none 0 0 ∧ cs = []) ∨ ∃ ad c, v = .slice (some ad) cs.length c ∧ RdC w v cs
theorem RdI.rd {w : World} {v : Value} {cs : List CM} (h : RdI w v cs) : RdC w v cs := by
 rcases h with ⟨rfl, rfl⟩ | ⟨_, _, _, h⟩
 ·exact ⟨_, _, rfl, fun i hi => absurd hi (by simp)⟩
 ·exact h
theorem RdI.below {w w' : World} {v : Value} {cs : List CM} (h : RdI w v cs) (hb : Below w.heap.size w w') : RdI w' v cs := by
 rcases h with h | ⟨ad, c, e, h⟩
 ·exact Or.inl h
 ·exact Or.inr ⟨ad, c, e, h.below hb⟩
theorem add_lit' (b o n : Nat) : (⟨b, o, none⟩ : Addr).add n = ⟨b, o + n, none⟩ := by unfold Addr.add; by_cases h : n = 0 <;> simp [h]
theorem own_slice {w : World} {base : Nat} {e : TypeId} {size n : Nat} {v : Value} {xs : List Value} (h : w.ownsRow base e size v n xs) : ∃ A c, v = .slice A n c := by
 rcases own_form h with ⟨rfl, rfl⟩ | ⟨g, cap, rfl, _⟩
 ·exact ⟨_, _, rfl⟩
 ·exact ⟨_, _, rfl⟩
end Go.Proofs.YtkjkcgbmaojpiaaGreatDoor
namespace Go.Proofs.YtkjkcgbmaojpiaaGreatDoor
open Go.RowKit
theorem ret_int {k : IntKind} {a b : Int} (h : a = b) : Ending.returned (.int k a) = .returned (.int k b) := by rw [h]
end Go.Proofs.YtkjkcgbmaojpiaaGreatDoor
namespace Go.Proofs.YtkjkcgbmaojpiaaGreatDoor
inductive T where
 | leaf (c : CM)
 | un (o : Int) (t : T)
 | bin (o : Int) (l r : T)
def post : T → List CM
 | .leaf c => [c]
 | .un o t => post t ++ [opC o]
 | .bin o l r => post l ++ post r ++ [opC o]
def OkT : T → Prop
 | .leaf c => formedB c = true ∧ operN c.op = 0
 | .un o t => 7 ≤ o ∧ o ≤ 10 ∧ OkT t
 | .bin o l r => 11 ≤ o ∧ o ≤ 23 ∧ OkT l ∧ OkT r
def pcT : T → Pc
 | .leaf c => joinP c none0 none0
 | .un o t => joinP (opC o) (pcT t) none0
 | .bin o l r => joinP (opC o) (pcT l) (pcT r)
theorem operN_un {o : Int} (h : 7 ≤ o ∧ o ≤ 10) : operN o = 1 := by unfold operN; rw [if_neg (by omega), if_pos h]
theorem operN_bin {o : Int} (h : 11 ≤ o ∧ o ≤ 23) : operN o = 2 := by unfold operN; rw [if_neg (by omega), if_neg (by omega)]
theorem formed_opC {o : Int} (h : 7 ≤ o ∧ o ≤ 23) : formedB (opC o) = true := by
 unfold formedB opC
 simp only
 rw [if_neg (by omega), if_neg (by omega), if_neg (by omega), decide_eq_true (show 1 ≤ o by omega), decide_eq_true (show o ≤ 23 by omega)]; rfl
theorem opC_of {c : CM} (h : formedB c = true) (ho : 1 ≤ operN c.op) : c = opC c.op ∧ 7 ≤ c.op := by
 have h7 : 7 ≤ c.op := by
  have := formed_op h
  unfold operN at ho
  split at ho
  ·omega
  ·omega
 refine ⟨?_, h7⟩
 unfold formedB at h
 rw [if_neg (by omega), if_neg (by omega), if_neg (by omega)] at h
 simp at h
 cases c; simp at h; simp [opC, h]
theorem fold_post {t : T} (h : OkT t) (st : List Pc) : (post t).foldl stepP st = st ++ [pcT t] := by
 induction t generalizing st with
 | leaf c =>
  show stepP st c = _
  unfold stepP
  rw [h.2, Nat.sub_zero, List.take_length, List.drop_length]
  rfl
 | un o t ih =>
  show (post t ++ [opC o]).foldl stepP st = _
  rw [List.foldl_append, ih h.2.2]
  show stepP (st ++ [pcT t]) (opC o) = _
  unfold stepP
  rw [show operN (opC o).op = 1 from operN_un ⟨h.1, h.2.1⟩]
  simp [pcT]
 | bin o l r ihl ihr =>
  show (post l ++ post r ++ [opC o]).foldl stepP st = _
  rw [List.foldl_append, List.foldl_append, ihl h.2.2.1, ihr h.2.2.2]
  show stepP (st ++ [pcT l] ++ [pcT r]) (opC o) = _
  unfold stepP
  rw [show operN (opC o).op = 2 from operN_bin ⟨h.1, h.2.1⟩]
  simp [pcT]
theorem run_post {t : T} (h : OkT t) (r : List CM) (v : Nat) : runB (post t ++ r) v = runB r (v + 1) := by
 induction t generalizing r v with
 | leaf c =>
  show (if formedB c = true ∧ operN c.op ≤ v then runB r (v + 1 - operN c.op) else none) = _
  rw [h.2, if_pos ⟨h.1, Nat.zero_le _⟩]; rfl
 | un o t ih =>
  show runB (post t ++ [opC o] ++ r) v = _
  rw [List.append_assoc, ih h.2.2]
  show (if formedB (opC o) = true ∧ operN o ≤ v + 1 then runB r (v + 1 + 1 - operN o) else none) = _
  rw [operN_un ⟨h.1, h.2.1⟩, if_pos ⟨formed_opC ⟨h.1, by have := h.2.1; omega⟩, by omega⟩]; rfl
 | bin o l r' ihl ihr =>
  show runB (post l ++ post r' ++ [opC o] ++ r) v = _
  rw [List.append_assoc, List.append_assoc, ihl h.2.2.1, ihr h.2.2.2]
  show (if formedB (opC o) = true ∧ operN o ≤ v + 1 + 1 then runB r (v + 1 + 1 + 1 - operN o) else none) = _
  rw [operN_bin ⟨h.1, h.2.1⟩, if_pos ⟨formed_opC ⟨by have := h.1; omega, h.2.1⟩, by omega⟩]; rfl
def OkAll (ts : List T) : Prop := ∀ t ∈ ts, OkT t
theorem trees_of : ∀ (cs : List CM) (ts : List T) (n : Nat), OkAll ts → runB cs ts.length = some n → ∃ ts', OkAll ts' ∧ ts'.flatMap post = ts.flatMap post ++ cs ∧ ts'.length = n := by
 intro cs
 induction cs with
 | nil => intro ts n ho hr; exact ⟨ts, ho, by simp, by simpa [runB] using hr⟩
 | cons c r ih =>
  intro ts n ho hr
  unfold runB at hr
  split at hr
  ·rename_i hc
   obtain ⟨hf, hle⟩ := hc
   have h2 := operN_le c.op
   have hcs : operN c.op = 0 ∨ operN c.op = 1 ∨ operN c.op = 2 := by omega
   rcases hcs with h0 | h0 | h0
   ·rw [h0] at hr
    obtain ⟨ts', h1, h2, h3⟩ := ih (ts ++ [.leaf c]) n (by
     intro t ht
     rcases List.mem_append.1 ht with h | h
     ·exact ho t h
     ·simp at h; subst h; exact ⟨hf, h0⟩) (by simpa using hr)
    exact ⟨ts', h1, by rw [h2]; simp [post], h3⟩
   ·obtain ⟨hc1, hc7⟩ := opC_of hf (by omega)
    rcases List.eq_nil_or_concat ts with rfl | ⟨ts0, a, rfl⟩
    ·simp at hle; omega
    ·rw [List.concat_eq_append] at *
     have h10 : c.op ≤ 10 := by
      unfold operN at h0
      split at h0
      ·omega
      ·split at h0 <;> omega
     obtain ⟨ts', h1, h2, h3⟩ := ih (ts0 ++ [.un c.op a]) n (by
      intro t ht
      rcases List.mem_append.1 ht with h | h
      ·exact ho t (List.mem_append_left _ h)
      ·simp at h; subst h; exact ⟨hc7, h10, ho a (by simp)⟩) (by rw [h0] at hr; simpa using hr)
     refine ⟨ts', h1, ?_, h3⟩
     rw [h2]
     simp only [List.flatMap_append, List.flatMap_cons, List.flatMap_nil, List.append_nil, List.append_assoc, post]
     rw [← hc1]; rfl
   ·obtain ⟨hc1, hc7⟩ := opC_of hf (by omega)
    rcases List.eq_nil_or_concat ts with rfl | ⟨ts1, b, rfl⟩
    ·simp at hle; omega
    ·rw [List.concat_eq_append] at *
     rcases List.eq_nil_or_concat ts1 with rfl | ⟨ts0, a, rfl⟩
     ·simp at hle; omega
     ·rw [List.concat_eq_append] at *
      have h10 : 11 ≤ c.op := by
       unfold operN at h0
       split at h0
       ·omega
       ·split at h0 <;> omega
      obtain ⟨ts', h1, h2, h3⟩ := ih (ts0 ++ [.bin c.op a b]) n (by
       intro t ht
       rcases List.mem_append.1 ht with h | h
       ·exact ho t (List.mem_append_left _ (List.mem_append_left _ h))
       ·simp at h; subst h; exact ⟨h10, (formed_op hf).2, ho a (by simp), ho b (by simp)⟩) (by rw [h0] at hr; simpa using hr)
      refine ⟨ts', h1, ?_, h3⟩
      rw [h2]
      simp only [List.flatMap_append, List.flatMap_cons, List.flatMap_nil, List.append_nil, List.append_assoc, post]
      rw [← hc1]; rfl
  ·cases hr
theorem right_tree {cs : List CM} (h : rightB cs = true) : ∃ t, OkT t ∧ post t = cs := by
 unfold rightB at h
 simp at h
 obtain ⟨ts, h1, h2, h3⟩ := trees_of cs [] 1 (by intro t ht; cases ht) h.2
 match ts, h3 with
 | [t], _ => exact ⟨t, h1 t (by simp), by simpa using h2⟩
theorem tree_right {t : T} (h : OkT t) (hl : (post t).length ≤ 32) : rightB (post t) = true := by
 unfold rightB
 have := run_post h [] 0
 rw [List.append_nil] at this
 rw [this, decide_eq_true hl]; rfl
theorem tree_show {t : T} (h : OkT t) (hl : (post t).length ≤ 32) : showP (post t) = ((pcT t).1, 0) := by
 unfold showP
 rw [if_pos (tree_right h hl)]
 unfold stackP
 rw [fold_post h]; rfl
end Go.Proofs.YtkjkcgbmaojpiaaGreatDoor
namespace Go.Proofs.YtkjkcgbmaojpiaaGreatDoor
theorem wordD_same {s : List UInt8} {p : Nat} {cs : List CM} {a b : Rs} (h : p + 3 ≤ s.length → a = b) : wordD s p cs (wordP s p) a = wordD s p cs (wordP s p) b := by
 unfold wordD
 split
 ·rfl
 ·split
  ·rfl
  ·split
   ·rfl
   ·split
    ·rfl
    ·rename_i h40
     have h3 := nx_lt (s := s) (p := p + (wordP s p).length) (by rw [Decidable.not_not.1 h40]; decide)
     split
     ·rfl
     ·split
      ·rename_i e; rw [e] at h3; simp [wRe] at h3; rw [h (by omega)]
      ·split
       ·rename_i e; rw [e] at h3; simp [wIm] at h3; rw [h (by omega)]
       ·rfl
def goodQ : Q → Prop
 | .joins k => 1 ≤ k ∧ k ≤ 6
 | .loop k _ => 1 ≤ k ∧ k ≤ 5
 | .ahead => True
theorem more (s : List UInt8) : ∀ (n : Nat) (q : Q) (p : Nat) (cs : List CM), goodQ q → p ≤ s.length → need s q p ≤ n → D s (n + 1) q p cs = D s n q p cs := by
 intro n
 induction n with
 | zero => intro q p cs hg hp hn; cases q <;> simp only [need, goodQ] at hn hg <;> omega
 | succ n ih =>
  intro q p cs hg hp hn
  cases q with
  | joins k =>
   rw [D_joins s (n + 1) k p cs, D_joins s n k p cs]
   by_cases h6 : k = 6
   ·subst h6
    rw [if_pos rfl, if_pos rfl]
    exact ih .ahead p cs trivial hp (by simp only [need] at *; omega)
   ·rw [if_neg h6, if_neg h6]
    have hk : k ≤ 6 := hg.2
    have h1 := ih (.joins (k + 1)) p cs ⟨by omega, by omega⟩ hp (by simp only [need] at *; omega)
    rw [h1]
    by_cases hb : (D s n (.joins (k + 1)) p cs).1 = true
    ·rw [if_pos hb, if_pos hb]
     have hgo := goes s n (.joins (k + 1)) p cs hp
     have hgt : p < (D s n (.joins (k + 1)) p cs).2.1 := hgo.gt hb
     have hle := hgo.le
     exact ih (.loop k false) _ _ ⟨hg.1, by omega⟩ hle (by simp only [need] at *; omega)
    ·rw [if_neg hb, if_neg hb]
  | loop k cmp =>
   rw [D_loop s (n + 1) k cmp p cs, D_loop s n k cmp p cs]
   have hk1 : 1 ≤ k := hg.1
   have hk5 : k ≤ 5 := hg.2
   by_cases hs : (opAt s p).2.2 ≠ k
   ·rw [if_pos hs, if_pos hs]
   ·rw [if_neg hs, if_neg hs]
    by_cases hc : cmp = true
    ·rw [if_pos hc, if_pos hc]
    ·rw [if_neg hc, if_neg hc]
     have hs := Decidable.not_not.1 hs
     have ho := opAt_some (s := s) (p := p) (by omega)
     have h1 := ih (.joins (k + 1)) (p + (opAt s p).2.1) cs ⟨by omega, by omega⟩ ho.2 (by simp only [need] at *; omega)
     rw [h1]
     by_cases hb : (D s n (.joins (k + 1)) (p + (opAt s p).2.1) cs).1 = true
     ·rw [if_pos hb, if_pos hb]
      have hgo := goes s n (.joins (k + 1)) (p + (opAt s p).2.1) cs ho.2
      have hgt : p + (opAt s p).2.1 < (D s n (.joins (k + 1)) (p + (opAt s p).2.1) cs).2.1 := hgo.gt hb
      have hle := hgo.le
      exact ih (.loop k (k == 3)) _ _ ⟨hk1, hk5⟩ hle (by simp only [need] at *; omega)
     ·rw [if_neg hb, if_neg hb]
  | ahead =>
   rw [D_ahead s (n + 1) p cs, D_ahead s n p cs]
   by_cases h45 : nx s p = 45
   ·rw [if_pos h45, if_pos h45]
    have := nx_lt (s := s) (p := p) (by rw [h45]; decide)
    rw [ih .ahead (p + 1) cs trivial (by omega) (by simp only [need] at *; omega)]
   ·rw [if_neg h45, if_neg h45]
    by_cases h33 : nx s p = 33
    ·rw [if_pos h33, if_pos h33]
     have := nx_lt (s := s) (p := p) (by rw [h33]; decide)
     rw [ih .ahead (p + 1) cs trivial (by omega) (by simp only [need] at *; omega)]
    ·rw [if_neg h33, if_neg h33]
     by_cases h40 : nx s p = 40
     ·rw [if_pos h40, if_pos h40]
      have := nx_lt (s := s) (p := p) (by rw [h40]; decide)
      rw [ih (.joins 1) (p + 1) cs ⟨by omega, by omega⟩ (by omega) (by simp only [need] at *; omega)]
     ·rw [if_neg h40, if_neg h40]
      by_cases hd : isD (nx s p) = true
      ·rw [if_pos hd, if_pos hd]
      ·rw [if_neg hd, if_neg hd]
       exact wordD_same (fun h3 => ih (.joins 1) (p + 3) cs ⟨by omega, by omega⟩ h3 (by simp only [need] at *; omega))
theorem more_to (s : List UInt8) (q : Q) (p : Nat) (cs : List CM) (hg : goodQ q) (hp : p ≤ s.length) (n : Nat) (h : need s q p ≤ n) : D s n q p cs = D s (need s q p) q p cs := by
 obtain ⟨d, rfl⟩ : ∃ d, n = need s q p + d := ⟨n - need s q p, by omega⟩
 clear h
 induction d with
 | zero => rfl
 | succ d ih => rw [← ih, ← Nat.add_assoc]; exact more s _ q p cs hg hp (by omega)
def E (s : List UInt8) (q : Q) (p : Nat) (cs : List CM) : Rs := D s (need s q p) q p cs
section
variable {s : List UInt8} {p : Nat} {cs : List CM}
theorem D_E {n : Nat} {q : Q} (hg : goodQ q) (hp : p ≤ s.length) (h : need s q p ≤ n) : D s n q p cs = E s q p cs := more_to s q p cs hg hp n h
theorem E_six (hp : p ≤ s.length) : E s (.joins 6) p cs = E s .ahead p cs := by
 rw [← D_E (q := .joins 6) (n := need s (.joins 6) p + 1) ⟨by omega, by omega⟩ hp (by omega), D_joins, if_pos rfl]
 exact D_E (q := .ahead) trivial hp (by simp only [need]; omega)
theorem E_joins {k : Nat} (hk : 1 ≤ k) (hk5 : k ≤ 5) (hp : p ≤ s.length) : E s (.joins k) p cs =
  if (E s (.joins (k + 1)) p cs).1 = true then E s (.loop k false) (E s (.joins (k + 1)) p cs).2.1 (E s (.joins (k + 1)) p cs).2.2 else E s (.joins (k + 1)) p cs := by
 rw [← D_E (q := .joins k) (n := need s (.joins k) p + 1) ⟨by omega, by omega⟩ hp (by omega), D_joins, if_neg (by omega)]
 have h1 := D_E (s := s) (p := p) (cs := cs) (n := need s (.joins k) p) (q := .joins (k + 1)) ⟨by omega, by omega⟩ hp (by simp only [need]; omega)
 rw [h1]
 by_cases hb : (E s (.joins (k + 1)) p cs).1 = true
 ·rw [if_pos hb, if_pos hb]
  have hgo := goes s (need s (.joins (k + 1)) p) (.joins (k + 1)) p cs hp
  have hgt : p < (E s (.joins (k + 1)) p cs).2.1 := hgo.gt hb
  have hle : (E s (.joins (k + 1)) p cs).2.1 ≤ s.length := hgo.le
  exact D_E (q := .loop k false) ⟨hk, hk5⟩ hle (by simp only [need] at *; omega)
 ·rw [if_neg hb, if_neg hb]
theorem E_loop {k : Nat} {cmp : Bool} (hk : 1 ≤ k) (hk5 : k ≤ 5) (hp : p ≤ s.length) : E s (.loop k cmp) p cs =
  if (opAt s p).2.2 ≠ k then (true, p, cs)
  else if cmp = true then (false, p, cs)
  else if (E s (.joins (k + 1)) (p + (opAt s p).2.1) cs).1 = true then
   E s (.loop k (k == 3)) (E s (.joins (k + 1)) (p + (opAt s p).2.1) cs).2.1 ((E s (.joins (k + 1)) (p + (opAt s p).2.1) cs).2.2 ++ [opC (opAt s p).1])
  else E s (.joins (k + 1)) (p + (opAt s p).2.1) cs := by
 rw [← D_E (q := .loop k cmp) (n := need s (.loop k cmp) p + 1) ⟨hk, hk5⟩ hp (by omega), D_loop]
 by_cases hs : (opAt s p).2.2 ≠ k
 ·rw [if_pos hs, if_pos hs]
 ·rw [if_neg hs, if_neg hs]
  by_cases hc : cmp = true
  ·rw [if_pos hc, if_pos hc]
  ·rw [if_neg hc, if_neg hc]
   have hs := Decidable.not_not.1 hs
   have ho := opAt_some (s := s) (p := p) (by omega)
   have h1 := D_E (s := s) (p := p + (opAt s p).2.1) (cs := cs) (n := need s (.loop k cmp) p) (q := .joins (k + 1)) ⟨by omega, by omega⟩ ho.2 (by simp only [need]; omega)
   rw [h1]
   by_cases hb : (E s (.joins (k + 1)) (p + (opAt s p).2.1) cs).1 = true
   ·rw [if_pos hb, if_pos hb]
    have hgo := goes s (need s (.joins (k + 1)) (p + (opAt s p).2.1)) (.joins (k + 1)) (p + (opAt s p).2.1) cs ho.2
    have hgt : p + (opAt s p).2.1 < (E s (.joins (k + 1)) (p + (opAt s p).2.1) cs).2.1 := hgo.gt hb
    have hle : (E s (.joins (k + 1)) (p + (opAt s p).2.1) cs).2.1 ≤ s.length := hgo.le
    exact D_E (q := .loop k (k == 3)) ⟨hk, hk5⟩ hle (by simp only [need] at *; omega)
   ·rw [if_neg hb, if_neg hb]
theorem E_ahead (hp : p ≤ s.length) : E s .ahead p cs =
  if nx s p = 45 then addD 7 (E s .ahead (p + 1) cs)
  else if nx s p = 33 then addD 8 (E s .ahead (p + 1) cs)
  else if nx s p = 40 then closeD s (E s (.joins 1) (p + 1) cs)
  else if isD (nx s p) = true then numD s p cs
  else wordD s p cs (wordP s p) (E s (.joins 1) (p + 3) cs) := by
 rw [← D_E (q := .ahead) (n := need s .ahead p + 1) trivial hp (by omega), D_ahead]
 by_cases h45 : nx s p = 45
 ·rw [if_pos h45, if_pos h45]
  have := nx_lt (s := s) (p := p) (by rw [h45]; decide)
  rw [D_E (q := .ahead) trivial (by omega) (by simp only [need]; omega)]
 ·rw [if_neg h45, if_neg h45]
  by_cases h33 : nx s p = 33
  ·rw [if_pos h33, if_pos h33]
   have := nx_lt (s := s) (p := p) (by rw [h33]; decide)
   rw [D_E (q := .ahead) trivial (by omega) (by simp only [need]; omega)]
  ·rw [if_neg h33, if_neg h33]
   by_cases h40 : nx s p = 40
   ·rw [if_pos h40, if_pos h40]
    have := nx_lt (s := s) (p := p) (by rw [h40]; decide)
    rw [D_E (q := .joins 1) ⟨by omega, by omega⟩ (by omega) (by simp only [need]; omega)]
   ·rw [if_neg h40, if_neg h40]
    by_cases hd : isD (nx s p) = true
    ·rw [if_pos hd, if_pos hd]
    ·rw [if_neg hd, if_neg hd]
     exact wordD_same (fun h3 => D_E (q := .joins 1) ⟨by omega, by omega⟩ h3 (by simp only [need]; omega))
theorem parse_E (s : List UInt8) : parseP s = if 600 < s.length then ([], 0, 4)
  else if (E s (.joins 1) 0 []).1 = false ∨ (E s (.joins 1) 0 []).2.1 < s.length then ([], (E s (.joins 1) 0 []).2.1, 1)
  else if 32 < (E s (.joins 1) 0 []).2.2.length then ([], 0, 4) else ((E s (.joins 1) 0 []).2.2, 0, 0) := by
 unfold parseP
 rw [D_E (q := .joins 1) ⟨by omega, by omega⟩ (Nat.zero_le _) (by simp only [need]; omega)]
end
end Go.Proofs.YtkjkcgbmaojpiaaGreatDoor
namespace Go.Proofs.YtkjkcgbmaojpiaaGreatDoor
def At (s : List UInt8) (p : Nat) (x : List UInt8) : Prop := p + x.length ≤ s.length ∧ ∃ r, s.drop p = x ++ r
section
variable {s x y : List UInt8} {p : Nat} {c : UInt8}
theorem At.le (h : At s p x) : p + x.length ≤ s.length := h.1
theorem At.head (h : At s p (c :: x)) : nx s p = c ∧ At s (p + 1) x := by
 obtain ⟨h1, r, h2⟩ := h
 simp only [List.length_cons] at h1
 have hp : p < s.length := by omega
 rw [List.drop_eq_getElem_cons hp] at h2
 injection h2 with h3 h4
 refine ⟨by rw [nx_at hp, h3], by omega, r, h4⟩
theorem At.split (h : At s p (x ++ y)) : At s p x ∧ At s (p + x.length) y := by
 obtain ⟨h1, r, h2⟩ := h
 rw [List.length_append] at h1
 refine ⟨⟨by omega, y ++ r, by rw [h2, List.append_assoc]⟩, ⟨by omega, r, ?_⟩⟩
 rw [← List.drop_drop, h2, List.append_assoc, List.drop_left']
 rfl
theorem At.all (s : List UInt8) : At s 0 s := ⟨by omega, [], by simp⟩
def Fol (s : List UInt8) (q : Nat) : Prop := okB (nx s q) = false
theorem fol_end : Fol s s.length := by unfold Fol; rw [nx_end (Nat.le_refl _)]; decide
theorem takeWhile_at {f : UInt8 → Bool} (h : At s p x) (hx : x.all f = true) (hf : f (nx s (p + x.length)) = false) : (s.drop p).takeWhile f = x := by
 obtain ⟨h1, r, h2⟩ := h
 rw [h2]
 have hr : r.takeWhile f = [] := by
  cases r with
  | nil => rfl
  | cons c r' =>
   have e : s.drop (p + x.length) = c :: r' := by rw [← List.drop_drop, h2, List.drop_left']; rfl
   have hp : p + x.length < s.length := by
    rcases Nat.lt_or_ge (p + x.length) s.length with h | h
    ·exact h
    ·rw [List.drop_of_length_le h] at e; cases e
   rw [List.drop_eq_getElem_cons hp] at e
   injection e with e1 e2
   rw [nx_at hp, e1] at hf
   simp [hf]
 have : ∀ (x : List UInt8), x.all f = true → (x ++ r).takeWhile f = x := by
  intro x
  induction x with
  | nil => intro _; exact hr
  | cons c x ih =>
   intro hx
   rw [List.all_cons, Bool.and_eq_true] at hx
   rw [List.cons_append, List.takeWhile_cons_of_pos hx.1, ih hx.2]
 exact this x hx
theorem word_at (h : At s p x) (hx : x.all okB = true) (hf : Fol s (p + x.length)) : wordP s p = x := takeWhile_at h hx hf
theorem okB_digit (h : isD c = true) : okB c = true := by simp [okB, h]
end
theorem op_at {s x : List UInt8} {p : Nat} {c : UInt8} {k : Nat} (hk : k < 13) (h : At s p ((tabAt k).2.1 ++ c :: x)) (hc : c ≠ 61) :
  opAt s p = ((tabAt k).1, (tabAt k).2.1.length, (tabAt k).2.2.toNat) ∧ Fol s p := by
 have hh : k = 0 ∨ k = 1 ∨ k = 2 ∨ k = 3 ∨ k = 4 ∨ k = 5 ∨ k = 6 ∨ k = 7 ∨ k = 8 ∨ k = 9 ∨ k = 10 ∨ k = 11 ∨ k = 12 := by omega
 rcases hh with rfl | rfl | rfl | rfl | rfl | rfl | rfl | rfl | rfl | rfl | rfl | rfl | rfl
 all_goals
  have h1 := h.head
  have h2 := h1.2.head
  unfold opAt Fol
  rw [h1.1, h2.1]
  first
   | exact ⟨rfl, by decide⟩
   | exact ⟨by simp [opOf, hc]; exact ⟨rfl, rfl, rfl⟩, by decide⟩
theorem tab_first (k : Nat) (hk : k < 13) : (tabAt k).1 = (k : Int) + 11 ∧ 1 ≤ (tabAt k).2.2 ∧ (tabAt k).2.2 ≤ 5 := by
 have hh : k = 0 ∨ k = 1 ∨ k = 2 ∨ k = 3 ∨ k = 4 ∨ k = 5 ∨ k = 6 ∨ k = 7 ∨ k = 8 ∨ k = 9 ∨ k = 10 ∨ k = 11 ∨ k = 12 := by omega
 rcases hh with rfl | rfl | rfl | rfl | rfl | rfl | rfl | rfl | rfl | rfl | rfl | rfl | rfl <;> decide
def NoEq (x : List UInt8) : Prop := ∃ c r, x = c :: r ∧ c ≠ 61
theorem noeq_in {x : List UInt8} {a b : Int} (h : NoEq x) : NoEq (inP x a b) := by
 unfold inP
 split
 ·exact ⟨40, x ++ [41], rfl, by decide⟩
 ·exact h
theorem noeq_append {x y : List UInt8} (h : NoEq x) : NoEq (x ++ y) := by
 obtain ⟨c, r, rfl, hc⟩ := h
 exact ⟨c, r ++ y, rfl, hc⟩
theorem dec_first (u : Nat) : ∃ c r, Lib.decDigits u = c :: r ∧ isD c = true := by
 induction u using Nat.strongRecOn with
 | _ u ih =>
  by_cases h : u < 10
  ·rw [dec_small h]
   exact ⟨_, _, rfl, by rw [isD_iff, digit_ofNat h]; omega⟩
  ·rw [dec_big h]
   obtain ⟨c, r, e, hc⟩ := ih (u / 10) (by omega)
   exact ⟨c, _, by rw [e]; rfl, hc⟩
theorem itoa_nat {a : Int} (h : 0 ≤ a) : Lib.itoa a = Lib.decDigits a.toNat := by
 unfold Lib.itoa
 rw [if_neg (by omega)]
theorem digit_noeq {c : UInt8} (h : isD c = true) : c ≠ 61 := by rintro rfl; exact absurd h (by decide)
theorem name_head {l : List UInt8} (h : nameB l = true) : ∃ c r, l = c :: r ∧ isLB c = true ∧ r.all okB = true ∧ takenB l = false := by
 cases l with
 | nil => cases h
 | cons c r =>
  simp [nameB] at h
  exact ⟨c, r, rfl, h.1.1.2, by simpa using h.1.2, h.2⟩
theorem noeq_leaf {c : CM} (h : formedB c = true) (ho : operN c.op = 0) : NoEq (joinP c none0 none0).1 := by
 have h16 : 1 ≤ c.op ∧ c.op ≤ 6 := by
  have := formed_op h
  unfold operN at ho
  split at ho
  ·assumption
  ·split at ho <;> omega
 unfold joinP
 split
 ·rename_i e
  have := formed_num h (Or.inl e)
  rw [itoa_nat this.1]
  obtain ⟨d, r, e2, hd⟩ := dec_first c.a.toNat
  exact ⟨d, r, e2, digit_noeq hd⟩
 ·split
  ·rename_i e
   have := formed_num h (Or.inr e)
   rw [itoa_nat this.1]
   obtain ⟨d, r, e2, hd⟩ := dec_first c.a.toNat
   exact noeq_append ⟨d, r, e2, digit_noeq hd⟩
  ·split
   ·exact ⟨116, _, rfl, by decide⟩
   ·split
    ·exact ⟨102, _, rfl, by decide⟩
    ·split
     ·rename_i e
      unfold formedB at h
      rw [if_neg (by omega), if_neg (by omega), if_pos (Or.inl e)] at h
      simp at h
      obtain ⟨d, r, e2, hd, _⟩ := name_head h.2
      exact ⟨d, r, e2, by rintro rfl; exact absurd hd (by decide)⟩
     ·split
      ·exact ⟨105, _, rfl, by decide⟩
      ·exfalso; omega
theorem joinP_bin {o : Int} (h : 11 ≤ o) (a b : Pc) : joinP (opC o) a b = betP (tabAt (o - 11).toNat).2.1 (tabAt (o - 11).toNat).2.2 a b := by
 unfold joinP opC
 simp only
 rw [if_neg (by omega), if_neg (by omega), if_neg (by omega), if_neg (by omega), if_neg (by omega), if_neg (by omega), if_neg (by omega), if_neg (by omega), if_neg (by omega), if_neg (by omega)]
theorem noeq {t : T} (h : OkT t) : NoEq (pcT t).1 := by
 induction t with
 | leaf c => exact noeq_leaf h.1 h.2
 | un o t ih =>
  have hc : o = 7 ∨ o = 8 ∨ o = 9 ∨ o = 10 := by have := h.1; have := h.2.1; omega
  rcases hc with rfl | rfl | rfl | rfl
  ·exact ⟨45, _, rfl, by decide⟩
  ·exact ⟨33, _, rfl, by decide⟩
  ·exact ⟨114, _, rfl, by decide⟩
  ·exact ⟨105, _, rfl, by decide⟩
 | bin o l r ihl ihr =>
  show NoEq (joinP (opC o) (pcT l) (pcT r)).1
  rw [joinP_bin h.1]
  exact noeq_append (noeq_append (noeq_in (ihl h.2.2.1)))
end Go.Proofs.YtkjkcgbmaojpiaaGreatDoor
