/- Own texts, joined: En, Ep, Er, Es, Et, Eu, F1, F2. -/
import Derived.Test.YtjgfkmakfdepcaaGreatDoorR5
import Derived.Test.YtjgfkmakfdepcaaGreatDoorR6
namespace Go.Proofs.YtjgfkmakfdepcaaGreatDoor
open Go.RowKit

/-- a slice value that the call owns, a list of cells -/
structure Own (w : World) (cs : List CM) (v : Value) (w' : World) : Prop where
  own : w'.ownsRow w.heap.size 93 3 v cs.length (flat cs)
  below : Below w.heap.size w w'

/-- what Parse comes to -/
def ParsePost (l : List UInt8) (w : World) (e : Ending) (w' : World) : Prop :=
  ∃ v, e = .returned (.tuple #[v, .int .i64 (parseP l).2.1, .int .i64 (parseP l).2.2]) ∧ Own w (parseP l).1 v w'
theorem ParsePost.of {l : List UInt8} {w w' : World} {cs : List CM} {p : Nat} {e : Int} {v : Value} (h : parseP l = (cs, p, e)) (ho : Own w cs v w') : ParsePost l w (.returned (.tuple #[v, .int .i64 p, .int .i64 e])) w' := by
  unfold ParsePost; rw [h]; exact ⟨v, rfl, ho⟩

theorem St.begin (w : World) (s : ByteArray) : St w (w.alloc (.cells #[.string s, .int .i64 0, .slice none 0 0] 128)) w.heap.size s 0 [] (w.alloc (.cells #[.string s, .int .i64 0, .slice none 0 0] 128)) :=
  ⟨⟨_, heap_alloc_new w _, World.ownsRow_nil _ _ _ _⟩, Nat.le_refl _, (Below.refl _ _).alloc (Nat.le_refl _) _, Keeps.refl _ _⟩

theorem parse_any (s : ByteArray) (w : World) (hO : Ops w) (hs : s.size ≤ 9223372036854775807) :
    Calls Tryz.prog 61 #[.string s] w (ParsePost s.data.toList w) := by
  by_cases h6 : 600 < s.size
  · have hP : parseP s.data.toList = ([], 0, 4) := by unfold parseP; rw [if_pos (by rw [sz]; exact h6)]
    have h6' : (600 : Int) < s.size := by omega
    have HP := Lib.hid (ParsePost.of (w := w) (w' := w) (v := .slice none 0 0) hP ⟨World.ownsRow_nil _ _ _ _, Below.refl _ _⟩)
    clear hP
    go_enter Tryz.func61, Tryz.ntmps61
    go_wp2
    go_ret3
    exact HP.out
  · have h6' : decide ((600 : Int) < s.size) = false := decide_eq_false (by omega)
    have HB := Lib.hid (St.begin w s)
    have HJ := Lib.hid ((reads s (by omega) (s.data.toList.length * 10 + 8)).1 w _ _ w.heap.size 0 [] 1 HB.out hO (by omega) (by omega) (by omega) (by simp) (by simp only [need]; omega))
    have hgo := goes s.data.toList (s.data.toList.length * 10 + 8) (.joins 1) 0 [] (by omega)
    have hP : parseP s.data.toList = if (D s.data.toList (s.data.toList.length * 10 + 8) (.joins 1) 0 []).1 = false ∨ (D s.data.toList (s.data.toList.length * 10 + 8) (.joins 1) 0 []).2.1 < s.data.toList.length then ([], (D s.data.toList (s.data.toList.length * 10 + 8) (.joins 1) 0 []).2.1, 1)
        else if 32 < (D s.data.toList (s.data.toList.length * 10 + 8) (.joins 1) 0 []).2.2.length then ([], 0, 4) else ((D s.data.toList (s.data.toList.length * 10 + 8) (.joins 1) 0 []).2.2, 0, 0) := by
      conv => lhs; unfold parseP
      rw [if_neg (by rw [sz]; exact h6)]
    obtain ⟨b, p, cs, hr⟩ : ∃ b p cs, D s.data.toList (s.data.toList.length * 10 + 8) (.joins 1) 0 [] = (b, p, cs) := ⟨_, _, _, rfl⟩
    rw [hr] at HJ hgo hP
    have hp : p ≤ s.size := by have := hgo.le; rw [sz] at this; exact this
    rw [sz] at hP
    have HP := Lib.hid hP
    clear hP hr hgo HB
    unfold rp at *
    have fin : ∀ {w' : World} {wa g}, St w wa g s p cs w' → Below w.heap.size w w' := fun h => h.below
    cases b
    · have HPP : Hid (parseP s.data.toList = ([], p, 1)) := by
        have := HP.out
        rw [if_pos (Or.inl rfl)] at this
        exact this
      go_enter Tryz.func61, Tryz.ntmps61
      go_wp2_with fail
      refine HJ.out.mono ?_
      rintro e w1 ⟨rfl, h1⟩
      obtain ⟨v, ⟨c0, c1, c2, _, _⟩, _, _⟩ := h1.at_
      have HB1 := Lib.hid h1.below
      clear h1
      go_wp2
      go_quiet (fail)
      go_wp2
      go_ret3
      exact ParsePost.of HPP.out ⟨World.ownsRow_nil _ _ _ _, ⟨HB1.out.os, HB1.out.tape, HB1.out.output, HB1.out.size, HB1.out.block⟩⟩
    · by_cases hps : p < s.size
      · have HPP : Hid (parseP s.data.toList = ([], p, 1)) := by
          have := HP.out
          rw [if_pos (Or.inr hps)] at this
          exact this
        have hps' : (p : Int) < s.size := by omega
        go_enter Tryz.func61, Tryz.ntmps61
        go_wp2_with fail
        refine HJ.out.mono ?_
        rintro e w1 ⟨rfl, h1⟩
        obtain ⟨v, ⟨c0, c1, c2, _, _⟩, _, _⟩ := h1.at_
        have HB1 := Lib.hid h1.below
        clear h1
        go_wp2
        go_quiet (fail)
        go_wp2
        go_ret3
        exact ParsePost.of HPP.out ⟨World.ownsRow_nil _ _ _ _, ⟨HB1.out.os, HB1.out.tape, HB1.out.output, HB1.out.size, HB1.out.block⟩⟩
      · have hps' : decide ((p : Int) < s.size) = false := decide_eq_false (by omega)
        by_cases h32 : 32 < cs.length
        · have HPP : Hid (parseP s.data.toList = ([], 0, 4)) := by
            have := HP.out
            rw [if_neg (by simp; omega), if_pos h32] at this
            exact this
          have h32' : (32 : Int) < cs.length := by omega
          go_enter Tryz.func61, Tryz.ntmps61
          go_wp2_with fail
          refine HJ.out.mono ?_
          rintro e w1 ⟨rfl, h1⟩
          obtain ⟨v, ⟨c0, c1, c2, _, _⟩, _, hown⟩ := h1.at_
          obtain ⟨g1, cap, rfl, _, _⟩ := hown.form (show 0 < cs.length by omega)
          have HB1 := Lib.hid h1.below
          clear h1 hown
          go_wp2
          go_ret3
          exact ParsePost.of HPP.out ⟨World.ownsRow_nil _ _ _ _, HB1.out⟩
        · have HPP : Hid (parseP s.data.toList = (cs, 0, 0)) := by
            have := HP.out
            rw [if_neg (by simp; omega), if_neg h32] at this
            exact this
          have h32' : decide ((32 : Int) < cs.length) = false := decide_eq_false (by omega)
          go_enter Tryz.func61, Tryz.ntmps61
          go_wp2_with fail
          refine HJ.out.mono ?_
          rintro e w1 ⟨rfl, h1⟩
          obtain ⟨v, ⟨c0, c1, c2, _, _⟩, _, hown⟩ := h1.at_
          have hform : ∃ A c, v = .slice A cs.length c := by
            rcases hown.2 with ⟨rfl, h0⟩ | ⟨g, cap, cur, rfl, _⟩
            · have : cs = [] := by
                cases cs with
                | nil => rfl
                | cons c r => simp at h0
              subst this; exact ⟨_, _, rfl⟩
            · exact ⟨_, _, rfl⟩
          obtain ⟨A, c, rfl⟩ := hform
          have HB1 := Lib.hid h1.below; have HOWN := Lib.hid hown
          clear h1 hown
          go_wp2
          go_ret3
          exact ParsePost.of HPP.out ⟨HOWN.out, HB1.out⟩
end Go.Proofs.YtjgfkmakfdepcaaGreatDoor
namespace Go.Proofs.YtjgfkmakfdepcaaGreatDoor
open Go.RowKit

/-- a slice value that reads as a list of cells -/
def RdC (w : World) (v : Value) (cs : List CM) : Prop :=
  ∃ (A : Option Addr) (c : Nat), v = .slice A cs.length c ∧ ∀ i (h : i < cs.length), ∃ b o, A = some ⟨b, o, none⟩ ∧
    w.cell? ⟨b, o + i * 3, none⟩ = some (.int .i64 cs[i].op) ∧ w.cell? ⟨b, o + i * 3 + 1, none⟩ = some (.int .i64 cs[i].a) ∧ w.cell? ⟨b, o + i * 3 + 2, none⟩ = some (bstr cs[i].nm)

theorem cell_lt {w : World} {p : Addr} {u : Value} (h : w.cell? p = some u) : p.block < w.heap.size := World.block_lt_of_cell? w p h
theorem RdC.below {w w' : World} {v : Value} {cs : List CM} (h : RdC w v cs) (hb : Below w.heap.size w w') : RdC w' v cs := by
  obtain ⟨A, c, rfl, hr⟩ := h
  refine ⟨A, c, rfl, fun i hi => ?_⟩
  obtain ⟨b, o, rfl, h0, h1, h2⟩ := hr i hi
  exact ⟨b, o, rfl, (hb.cell (cell_lt h0)).trans h0, (hb.cell (cell_lt h1)).trans h1, (hb.cell (cell_lt h2)).trans h2⟩
theorem own_rd {w : World} {B : Nat} {v : Value} {cs : List CM} (h : w.ownsRow B 93 3 v cs.length (flat cs)) : RdC w v cs := by
  by_cases h0 : 0 < cs.length
  · obtain ⟨g, cap, rfl, _, _⟩ := h.form h0
    refine ⟨_, _, rfl, fun i hi => ⟨_, _, rfl, ?_⟩⟩
    obtain ⟨f0, f1, f2⟩ := flat_at hi
    rw [Nat.zero_add, h.cellAt _ (by omega), h.cellAt _ (by omega), h.cellAt _ (by omega)]
    exact ⟨f0, f1, f2⟩
  · have : cs = [] := List.eq_nil_of_length_eq_zero (by omega)
    subst this
    rcases h.2 with ⟨rfl, _⟩ | ⟨g, cap, cur, rfl, _⟩
    · exact ⟨_, _, rfl, fun i hi => absurd hi (by simp)⟩
    · exact ⟨_, _, rfl, fun i hi => absurd hi (by simp)⟩
theorem Own.rd {w w' : World} {cs : List CM} {v : Value} (h : Own w cs v w') : RdC w' v cs := own_rd h.own

/-- how many values are left, from so many on -/
def runB : List CM → Nat → Option Nat
  | [], v => some v
  | c :: r, v => if formedB c = true ∧ operN c.op ≤ v then runB r (v + 1 - operN c.op) else none
def rightB (cs : List CM) : Bool := decide (cs.length ≤ 32) && (runB cs 0 == some 1)

theorem operN_le (op : Int) : operN op ≤ 2 := by unfold operN; split; omega; split <;> omega
theorem run_at {cs : List CM} {k v : Nat} (hk : k < cs.length) : runB (cs.drop k) v = if formedB cs[k] = true ∧ operN cs[k].op ≤ v then runB (cs.drop (k + 1)) (v + 1 - operN cs[k].op) else none := by
  rw [List.drop_eq_getElem_cons hk]; rfl

set_option maxHeartbeats 2000000 in
theorem right_any (v : Value) (cs : List CM) (w : World) (hR : RdC w v cs) (hl : cs.length ≤ 4611686018427387904) :
    Calls Tryz.prog 48 #[v] w fun e w' => e = .returned (.bool (rightB cs)) ∧ Below w.heap.size w w' := by
  obtain ⟨A, c, rfl, hr⟩ := hR
  by_cases h32 : 32 < cs.length
  · have hB : rightB cs = false := by unfold rightB; rw [decide_eq_false (by omega)]; rfl
    rw [hB]; clear hB hr
    have h32' : (32 : Int) < cs.length := by omega
    go_enter Tryz.func48, Tryz.ntmps48
    go_wp2
    go_ret
    exact ⟨rfl, Below.refl _ _⟩
  · have hB : rightB cs = (runB cs 0 == some 1) := by unfold rightB; rw [decide_eq_true (by omega)]; rfl
    rw [hB]; clear hB
    have h32' : decide ((32 : Int) < cs.length) = false := decide_eq_false (by omega)
    have HR := Lib.hid hr; clear hr
    obtain ⟨n, hn⟩ : ∃ n, cs.length = n := ⟨_, rfl⟩
    have HN := Lib.hid hn
    rw [hn] at h32' hl h32 ⊢
    clear hn
    go_enter Tryz.func48, Tryz.ntmps48
    go_wp2
    go_loopw [2, 3, 12] (fun x2 vv i wr => x2 = .bool false ∧ ∃ k vs : Nat, k ≤ n ∧ vs ≤ k ∧ i = .int .i64 k ∧ vv = .int .i64 vs ∧ Hid (runB (cs.drop k) vs = runB cs 0) ∧ Below w.heap.size w wr) (fun _ _ i _ => n - (intOf i).toNat)
    case atStart => exact ⟨rfl, 0, 0, by omega, by omega, rfl, rfl, rfl, Below.refl _ _⟩
    case round =>
      obtain ⟨rfl, k, vs, hk, hvs, rfl, rfl, HB, hb⟩ := hrel
      have HBL := Lib.hid hb
      by_cases hkn : k < n
      · obtain ⟨b, o, rfl, d0, d1, d2⟩ := HR.out k (by rw [HN.out]; exact hkn)
        have hrun := run_at (cs := cs) (k := k) (v := vs) (by rw [HN.out]; exact hkn)
        rw [HB.out] at hrun
        obtain ⟨cc, hcc⟩ : ∃ cc, cs[k]'(by rw [HN.out]; exact hkn) = cc := ⟨_, rfl⟩
        rw [hcc] at d0 d1 d2 hrun
        have e0 := (hb.cell (cell_lt d0)).trans d0
        have e1 := (hb.cell (cell_lt d1)).trans d1
        have e2 := (hb.cell (cell_lt d2)).trans d2
        have hon := operN_le cc.op
        obtain ⟨X, hX⟩ : ∃ X : ByteArray, bstr cc.nm = .string X := ⟨_, rfl⟩
        have hfm := formed_any cc
        rw [hX] at e2 hfm
        have HFM := Lib.hid hfm
        have HRUN := Lib.hid hrun
        clear d0 d1 d2 hcc hrun hb hX hfm
        cases hf : formedB cc
        · have HFF := Lib.hid hf
          have hE : runB cs 0 = none := by rw [HRUN.out, hf, if_neg (by simp)]
          have HE := Lib.hid hE
          clear hE hf
          go_wp2_with fail
          refine (operands_any _ _).mono ?_
          rintro e w1 ⟨rfl, rfl⟩
          go_wp2_with fail
          refine (HFM.out _).mono ?_
          rintro e w2 ⟨rfl, hb2⟩
          have HB2 := Lib.hid hb2; clear hb2
          rw [HFF.out]
          go_wp2
          go_ret
          exact ⟨by rw [HE.out]; rfl, (HBL.out.alloc HBL.out.size _).trans (HB2.out.mono (by have := HBL.out.size; simp; omega))⟩
        · have HFF := Lib.hid hf
          by_cases hov : operN cc.op ≤ vs
          · have hE : runB (cs.drop (k + 1)) (vs + 1 - operN cc.op) = runB cs 0 := by rw [HRUN.out, hf, if_pos ⟨rfl, hov⟩]
            have HE := Lib.hid hE
            clear hE hf
            have hov' : decide ((vs : Int) < (operN cc.op : Int)) = false := decide_eq_false (by omega)
            go_wp2_with fail
            refine (operands_any _ _).mono ?_
            rintro e w1 ⟨rfl, rfl⟩
            go_wp2_with fail
            refine (HFM.out _).mono ?_
            rintro e w2 ⟨rfl, hb2⟩
            have HB2 := Lib.hid hb2; clear hb2
            rw [HFF.out]
            go_wp2
            go_roundw
            case rel => exact ⟨rfl, k + 1, vs + 1 - operN cc.op, by omega, by omega, by go_num, by congr 1; omega, HE, (HBL.out.alloc HBL.out.size _).trans (HB2.out.mono (by have := HBL.out.size; simp; omega))⟩
            case measure => simp [intOf]; omega
          · have hE : runB cs 0 = none := by rw [HRUN.out, hf, if_neg (by simp; omega)]
            have HE := Lib.hid hE
            clear hE hf
            have hov' : (vs : Int) < (operN cc.op : Int) := by omega
            go_wp2_with fail
            refine (operands_any _ _).mono ?_
            rintro e w1 ⟨rfl, rfl⟩
            go_wp2_with fail
            refine (HFM.out _).mono ?_
            rintro e w2 ⟨rfl, hb2⟩
            have HB2 := Lib.hid hb2; clear hb2
            rw [HFF.out]
            go_wp2
            go_ret
            exact ⟨by rw [HE.out]; rfl, (HBL.out.alloc HBL.out.size _).trans (HB2.out.mono (by have := HBL.out.size; simp; omega))⟩
      · have hE : runB cs 0 = some vs := by
          rw [← HB.out, List.drop_of_length_le (by rw [HN.out]; omega)]; rfl
        have hE2 : (runB cs 0 == some 1) = ((vs : Int) == 1) := by
          rw [hE]
          by_cases h : vs = 1
          · subst h; rfl
          · rw [int_ne (show (vs : Int) ≠ 1 by omega)]; simp [h]
        have HE := Lib.hid hE2
        clear hE hE2
        go_wp2
        go_ret
        exact ⟨by rw [HE.out]; rfl, HBL.out⟩
end Go.Proofs.YtjgfkmakfdepcaaGreatDoor
namespace Go.Proofs.YtjgfkmakfdepcaaGreatDoor
open Go.RowKit

abbrev Pc := List UInt8 × Int
def joinP (c : CM) (u0 u1 : Pc) : Pc :=
  if c.op = 1 then (Lib.itoa c.a, 7) else if c.op = 2 then (Lib.itoa c.a ++ [105], 7) else if c.op = 3 then (wTrue, 7) else if c.op = 4 then (wFalse, 7)
  else if c.op = 5 then (c.nm, 7) else if c.op = 6 then ([105, 110, 40] ++ c.nm ++ [41], 7)
  else if c.op = 7 then ([45] ++ inP u0.1 u0.2 6, 6) else if c.op = 8 then ([33] ++ inP u0.1 u0.2 6, 6)
  else if c.op = 9 then ([114, 101, 40] ++ u0.1 ++ [41], 7) else if c.op = 10 then ([105, 109, 40] ++ u0.1 ++ [41], 7)
  else betP (tabAt (c.op - 11).toNat).2.1 (tabAt (c.op - 11).toNat).2.2 u0 u1

def JoinPost (p : Pc) (w : World) (e : Ending) (w' : World) : Prop := e = .returned (.agg #[.string ⟨p.1.toArray⟩, .int .i64 p.2]) ∧ Below w.heap.size w w'
theorem JoinPost.of {p : Pc} {w w' : World} {X : ByteArray} {n : Int} (hX : X = ⟨p.1.toArray⟩) (hn : n = p.2) (hb : Below w.heap.size w w') : JoinPost p w (.returned (.agg #[.string X, .int .i64 n])) w' := by
  subst hX; subst hn; exact ⟨rfl, hb⟩

theorem itoa_short {a : Int} (ha0 : 0 ≤ a) (ha1 : a ≤ 1099511627776) : (Lib.itoa a).length ≤ 100 := by
  obtain ⟨m, rfl⟩ : ∃ m : Nat, a = (m : Int) := ⟨a.toNat, by omega⟩
  have hi : Lib.itoa (m : Int) = Lib.decDigits m := by
    unfold Lib.itoa
    rw [if_neg (by omega)]; rfl
  rw [hi]
  have : ∀ (k u : Nat), u < 10 ^ (k + 1) → (Lib.decDigits u).length ≤ k + 1 := by
    intro k
    induction k with
    | zero => intro u hu; rw [dec_small (by omega)]; simp
    | succ k ih =>
      intro u hu
      by_cases h : u < 10
      · rw [dec_small h]; simp
      · rw [dec_big h]
        have := ih (u / 10) (by rw [Nat.pow_succ] at hu; omega)
        simp; omega
  exact Nat.le_trans (this 12 m (by omega)) (by omega)

theorem tab_cells (k : Nat) (hk : k < 13) : opsCells[k * 3]? = some (.int .i64 (tabAt k).1) ∧ opsCells[k * 3 + 1]? = some (.string ⟨(tabAt k).2.1.toArray⟩) ∧ opsCells[k * 3 + 2]? = some (.int .i64 (tabAt k).2.2) := by
  have h : k = 0 ∨ k = 1 ∨ k = 2 ∨ k = 3 ∨ k = 4 ∨ k = 5 ∨ k = 6 ∨ k = 7 ∨ k = 8 ∨ k = 9 ∨ k = 10 ∨ k = 11 ∨ k = 12 := by omega
  rcases h with rfl | rfl | rfl | rfl | rfl | rfl | rfl | rfl | rfl | rfl | rfl | rfl | rfl <;> exact ⟨rfl, rfl, rfl⟩
end Go.Proofs.YtjgfkmakfdepcaaGreatDoor
namespace Go.Proofs.YtjgfkmakfdepcaaGreatDoor
open Go.RowKit

def pieceV (p : Pc) : List Value := [bstr p.1, .int .i64 p.2]
def flatP (st : List Pc) : List Value := st.flatMap pieceV
theorem flatP_append (a b : List Pc) : flatP (a ++ b) = flatP a ++ flatP b := by simp [flatP]
theorem flatP_one (c : Pc) : flatP [c] = pieceV c := by simp [flatP]
def none0 : Pc := ([], 0)
def stepP (st : List Pc) (c : CM) : List Pc := st.take (st.length - operN c.op) ++ [joinP c ((st.drop (st.length - operN c.op)).getD 0 none0) ((st.drop (st.length - operN c.op)).getD 1 none0)]
def stackP (cs : List CM) : List Pc := cs.foldl stepP []
/-- the text of a right list -/
def showP (cs : List CM) : List UInt8 × Int := if rightB cs = true then (((stackP cs).getD 0 none0).1, 0) else ([], 1)

def sumP : List Pc → Nat
  | [] => 0
  | p :: r => p.1.length + sumP r
theorem sumP_append (a b : List Pc) : sumP (a ++ b) = sumP a + sumP b := by
  induction a with
  | nil => simp [sumP]
  | cons p r ih => simp [sumP, ih]; omega
theorem sumP_two {st : List Pc} : (st.getD 0 none0).1.length + (st.getD 1 none0).1.length ≤ sumP st := by
  match st with
  | [] => simp [none0]
  | [p] => simp [none0, sumP]
  | p :: q :: r => simp [sumP]

theorem name_len {l : List UInt8} (h : nameB l = true) : l.length ≤ 12 := by
  rcases Nat.lt_or_ge 12 l.length with h1 | h1
  · rw [nameB_long h1] at h; cases h
  · exact h1
theorem formed_name {c : CM} (h : formedB c = true) : c.nm.length ≤ 12 := by
  unfold formedB at h
  split at h
  · simp at h; rw [h.1]; simp
  · split at h
    · simp at h; rw [h.1]; simp
    · split at h
      · simp at h; exact name_len h.2
      · simp at h; rw [h.2.2.2]; simp
theorem formed_num {c : CM} (h : formedB c = true) (ho : c.op = 1 ∨ c.op = 2) : 0 ≤ c.a ∧ c.a ≤ 1099511627776 := by
  unfold formedB at h
  rcases ho with e | e
  · rw [if_pos e] at h; simp at h; exact h.2
  · rw [if_neg (by omega), if_pos e] at h; simp at h; omega
theorem formed_op {c : CM} (h : formedB c = true) : 1 ≤ c.op ∧ c.op ≤ 23 := by
  unfold formedB at h
  split at h
  · omega
  · split at h
    · omega
    · split at h
      · omega
      · simp at h; exact ⟨h.1, h.2.1⟩

theorem betP_len (k : Nat) (u0 u1 : Pc) : (betP (tabAt k).2.1 (tabAt k).2.2 u0 u1).1.length ≤ u0.1.length + u1.1.length + 6 := by
  have h1 := inP_len u0.1 u0.2 (if (tabAt k).2.2 = 3 then (tabAt k).2.2 + 1 else (tabAt k).2.2)
  have h2 := inP_len u1.1 u1.2 ((tabAt k).2.2 + 1)
  have h3 := tab_len k
  unfold betP
  simp only [List.length_append]
  omega
theorem joinP_len {c : CM} (h : formedB c = true) (u0 u1 : Pc) : (joinP c u0 u1).1.length ≤ u0.1.length + u1.1.length + 110 := by
  have hn := formed_name h
  have h6 := inP_len u0.1 u0.2 6
  unfold joinP
  split
  · rename_i e; have := formed_num h (Or.inl e); have := itoa_short this.1 this.2; simp only; omega
  · split
    · rename_i e; have := formed_num h (Or.inr e); have := itoa_short this.1 this.2; simp only [List.length_append, List.length_singleton]; omega
    · split
      · simp [wTrue]
      · split
        · simp [wFalse]
        · split
          · simp only; omega
          · split
            · simp; omega
            · split
              · simp only [List.length_append, List.length_singleton]; omega
              · split
                · simp only [List.length_append, List.length_singleton]; omega
                · split
                  · simp; omega
                  · split
                    · simp; omega
                    · have := betP_len (c.op - 11).toNat u0 u1; omega

theorem stepP_sum {st : List Pc} {c : CM} (h : formedB c = true) : sumP (stepP st c) ≤ sumP st + 110 := by
  unfold stepP
  have h1 : sumP st = sumP (st.take (st.length - operN c.op)) + sumP (st.drop (st.length - operN c.op)) := by rw [← sumP_append, List.take_append_drop]
  rw [sumP_append]
  have h2 := joinP_len h ((st.drop (st.length - operN c.op)).getD 0 none0) ((st.drop (st.length - operN c.op)).getD 1 none0)
  have h3 := sumP_two (st := st.drop (st.length - operN c.op))
  simp only [sumP]
  omega
theorem stepP_length {st : List Pc} {c : CM} (h : operN c.op ≤ st.length) : (stepP st c).length = st.length + 1 - operN c.op := by
  unfold stepP
  simp; omega

end Go.Proofs.YtjgfkmakfdepcaaGreatDoor
namespace Go.Proofs.YtjgfkmakfdepcaaGreatDoor
open Go.RowKit

/-- the call's own list of pieces -/
structure OwnP (w : World) (st : List Pc) (v : Value) (w' : World) : Prop where
  own : w'.ownsRow w.heap.size 116 2 v st.length (flatP st)
  below : Below w.heap.size w w'

/-- behind k cells -/
structure ShK (cs : List CM) (k : Nat) (st : List Pc) : Prop where
  stk : stackP (cs.take k) = st
  run : runB (cs.drop k) st.length = some 1
  sum : sumP st ≤ 110 * k
  len : st.length ≤ k

theorem ShK.next {cs : List CM} {k : Nat} {st : List Pc} (h : ShK cs k st) (hk : k < cs.length) : formedB cs[k] = true ∧ operN cs[k].op ≤ st.length ∧ ShK cs (k + 1) (stepP st cs[k]) := by
  have hr := h.run
  rw [run_at hk] at hr
  split at hr
  · rename_i hc
    refine ⟨hc.1, hc.2, ?_, ?_, ?_, ?_⟩
    · unfold stackP
      rw [List.take_succ_eq_append_getElem hk, List.foldl_append]
      show stepP (stackP (cs.take k)) cs[k] = _
      rw [h.stk]
    · rw [stepP_length hc.2]; exact hr
    · have := stepP_sum (st := st) hc.1; have := h.sum; omega
    · rw [stepP_length hc.2]; have := h.len; omega
  · cases hr
theorem ShK.zero {cs : List CM} (h : rightB cs = true) : ShK cs 0 [] := by
  unfold rightB at h
  simp at h
  exact ⟨rfl, h.2, by simp [sumP], by simp⟩
theorem ShK.done {cs : List CM} {st : List Pc} (h : ShK cs cs.length st) : stackP cs = st ∧ st.length = 1 := by
  have h1 := h.stk; have h2 := h.run
  rw [List.take_length] at h1
  rw [List.drop_length] at h2
  exact ⟨h1, by simpa [runB] using h2⟩

theorem own_form {w : World} {base : Nat} {e : TypeId} {size n : Nat} {v : Value} {xs : List Value} (h : w.ownsRow base e size v n xs) : (v = .slice none 0 0 ∧ n = 0) ∨ ∃ g cap, v = .slice (some ⟨g, 0, none⟩) n cap ∧ n ≤ cap ∧ cap ≤ maxLen := by
  rcases h.2 with ⟨hv, h0⟩ | ⟨g, cap, cur, hv, _, _, h1, h2, _⟩
  · exact Or.inl ⟨hv, h0⟩
  · exact Or.inr ⟨g, cap, hv, h1, h2⟩
/-- what Show comes to -/
def ShowPost (cs : List CM) (w : World) (e : Ending) (w' : World) : Prop := e = .returned (.tuple #[.string ⟨(showP cs).1.toArray⟩, .int .i64 (showP cs).2]) ∧ Below w.heap.size w w'
theorem ShowPost.of {cs : List CM} {w w' : World} {X : ByteArray} {n : Int} (hX : X.data.toList = (showP cs).1) (hn : n = (showP cs).2) (hb : Below w.heap.size w w') : ShowPost cs w (.returned (.tuple #[.string X, .int .i64 n])) w' := by
  subst hn; unfold ShowPost; rw [← hX]; exact ⟨rfl, hb⟩

/-- behind a round: the new piece at the place of its operands -/
theorem OwnP.step {w wr w1 w2 : World} {st : List Pc} {v v' : Value} {c : CM} {n0 : Nat} {p : Pc} (h : OwnP w st v wr) (hn : st.length - operN c.op = n0) (hp : joinP c ((st.drop (st.length - operN c.op)).getD 0 none0) ((st.drop (st.length - operN c.op)).getD 1 none0) = p) (hb : Below wr.heap.size wr w1) {vp : Value} (hvp : vp.ownBlock = v.ownBlock)
    (hown : w2.ownsRow w.heap.size 116 2 v' (n0 + 1) (flatP (st.take n0) ++ pieceV p)) (hg : w1.grownBy w2 vp.ownBlock) (hle : n0 ≤ st.length) : OwnP w (stepP st c) v' w2 := by
  have e : stepP st c = st.take n0 ++ [p] := by unfold stepP; rw [hp, hn]
  refine ⟨?_, ?_⟩
  · rw [e, flatP_append, flatP_one, List.length_append, List.length_take, Nat.min_eq_left hle]
    exact hown
  · have h1 := h.below.trans (hb.mono h.below.size)
    exact h1.grown hg h1.size (fun k hk => by rw [hvp] at hk; exact (h.own.lt k hk).1)

end Go.Proofs.YtjgfkmakfdepcaaGreatDoor
namespace Go.Proofs.YtjgfkmakfdepcaaGreatDoor
open Go.RowKit

/-- what comes in as a slice of cells: nil, or cells that are read -/
def RdI (w : World) (v : Value) (cs : List CM) : Prop := (v = .slice none 0 0 ∧ cs = []) ∨ ∃ ad c, v = .slice (some ad) cs.length c ∧ RdC w v cs
theorem RdI.rd {w : World} {v : Value} {cs : List CM} (h : RdI w v cs) : RdC w v cs := by
  rcases h with ⟨rfl, rfl⟩ | ⟨_, _, _, h⟩
  · exact ⟨_, _, rfl, fun i hi => absurd hi (by simp)⟩
  · exact h
theorem RdI.below {w w' : World} {v : Value} {cs : List CM} (h : RdI w v cs) (hb : Below w.heap.size w w') : RdI w' v cs := by
  rcases h with h | ⟨ad, c, e, h⟩
  · exact Or.inl h
  · exact Or.inr ⟨ad, c, e, h.below hb⟩

theorem flat_get {cs : List CM} {j : Nat} {u : Value} (h : (flat cs)[j]? = some u) : ∃ i, ∃ hi : i < cs.length, (j = i * 3 ∧ u = .int .i64 cs[i].op) ∨ (j = i * 3 + 1 ∧ u = .int .i64 cs[i].a) ∨ (j = i * 3 + 2 ∧ u = bstr cs[i].nm) := by
  have hj : j < cs.length * 3 := by
    rw [← flat_length]
    exact (List.getElem?_eq_some_iff.1 h).1
  have hi : j / 3 < cs.length := by omega
  refine ⟨j / 3, hi, ?_⟩
  obtain ⟨f0, f1, f2⟩ := flat_at hi
  have hc : j = j / 3 * 3 ∨ j = j / 3 * 3 + 1 ∨ j = j / 3 * 3 + 2 := by omega
  rcases hc with e | e | e
  · rw [← e, h] at f0; exact Or.inl ⟨e, Option.some.inj f0⟩
  · rw [← e, h] at f1; exact Or.inr (Or.inl ⟨e, Option.some.inj f1⟩)
  · rw [← e, h] at f2; exact Or.inr (Or.inr ⟨e, Option.some.inj f2⟩)
theorem add_lit' (b o n : Nat) : (⟨b, o, none⟩ : Addr).add n = ⟨b, o + n, none⟩ := by unfold Addr.add; by_cases h : n = 0 <;> simp [h]
theorem RdC.news {w : World} {ad : Addr} {n c : Nat} {cs : List CM} (h : RdC w (.slice (some ad) n c) cs) (o : Obj) : ∀ j u, (flat cs)[j]? = some u → (w.alloc o).cell? (ad.add j) = some u := by
  intro j u hu
  obtain ⟨i, hi, hc⟩ := flat_get hu
  obtain ⟨A, c', hv, hr⟩ := h
  obtain ⟨b, k, rfl, d0, d1, d2⟩ := hr i hi
  simp only [Value.slice.injEq, Option.some.injEq] at hv
  rw [hv.1, add_lit']
  rcases hc with ⟨rfl, rfl⟩ | ⟨rfl, rfl⟩ | ⟨rfl, rfl⟩
  · exact (World.cell?_alloc_lt w _ _ (cell_lt d0)).trans d0
  · rw [← Nat.add_assoc]; exact (World.cell?_alloc_lt w _ _ (cell_lt d1)).trans d1
  · rw [← Nat.add_assoc]; exact (World.cell?_alloc_lt w _ _ (cell_lt d2)).trans d2
theorem flat_vals (cs : List CM) : ∀ u ∈ flat cs, u.oneCell' = true := by
  intro u hu
  obtain ⟨j, hj⟩ := List.mem_iff_getElem?.1 hu
  obtain ⟨i, hi, hc⟩ := flat_get hj
  rcases hc with ⟨_, rfl⟩ | ⟨_, rfl⟩ | ⟨_, rfl⟩ <;> rfl

theorem own_slice {w : World} {base : Nat} {e : TypeId} {size n : Nat} {v : Value} {xs : List Value} (h : w.ownsRow base e size v n xs) : ∃ A c, v = .slice A n c := by
  rcases own_form h with ⟨rfl, rfl⟩ | ⟨g, cap, rfl, _⟩
  · exact ⟨_, _, rfl⟩
  · exact ⟨_, _, rfl⟩

end Go.Proofs.YtjgfkmakfdepcaaGreatDoor
namespace Go.Proofs.YtjgfkmakfdepcaaGreatDoor
open Go.RowKit

theorem op_cases5 (op : Int) : op = 1 ∨ op = 2 ∨ op = 5 ∨ op = 6 ∨ (op ≠ 1 ∧ op ≠ 2 ∧ op ≠ 5 ∧ op ≠ 6) := by omega
/-- the document's count of operands; -1: none -/
def opsR (c : CM) : Int := if formedB c = true then operN c.op else -1
theorem opsR_no {c : CM} (h : formedB c = false) : opsR c = -1 := by unfold opsR; rw [h]; rfl
theorem opsR_yes {c : CM} (h : formedB c = true) : opsR c = operN c.op := by unfold opsR; rw [if_pos h]
theorem ret_int {k : IntKind} {a b : Int} (h : a = b) : Ending.returned (.int k a) = .returned (.int k b) := by rw [h]

set_option maxRecDepth 100000 in
set_option maxHeartbeats 4000000 in
theorem refOperands_any (c : CM) (w : World) (hl : c.nm.length ≤ 9223372036854775807) :
    Calls Tryz.prog 75 #[.agg #[.int .i64 c.op, .int .i64 c.a, bstr c.nm]] w fun e w' => e = .returned (.int .i64 (opsR c)) ∧ Below w.heap.size w w' := by
  obtain ⟨op, a, nm⟩ := c
  obtain ⟨X, hX⟩ : ∃ X : ByteArray, X = ⟨nm.toArray⟩ := ⟨_, rfl⟩
  have hXl : X.data.toList = nm := by rw [hX]
  have hb : bstr nm = .string X := by rw [hX]; rfl
  simp only at hl ⊢
  rw [hb]
  clear hb hX
  subst hXl
  rw [sz0] at hl
  have HB : Hid (∀ W : World, ∀ o : Obj, Below W.heap.size W (W.alloc o)) := fun W o => (Below.refl _ _).alloc (Nat.le_refl _) o
  have HN := Lib.hid (refName_any X)
  by_cases hx : X.size = 0
  · have hnil : X.data.toList = [] := List.eq_nil_of_length_eq_zero (by rw [sz0]; exact hx)
    have hx0 : decide ((0 : Int) < X.size) = false := decide_eq_false (by omega)
    have hx1 : decide (0 < X.size) = false := decide_eq_false (by omega)
    have hx2 : ¬ 0 < X.size := by omega
    have HNIL := Lib.hid hnil
    clear hx hl hnil
    rcases op_cases5 op with rfl | rfl | rfl | rfl | ⟨h1, h2, h5, h6⟩
    · by_cases ha : a < 0
      · have HR := Lib.hid (opsR_no (c := ⟨1, a, X.data.toList⟩) (by simp [formedB]; omega))
        go_enter Tryz.func75, Tryz.ntmps75
        go_wp2
        go_ret
        exact ⟨ret_int HR.out.symm, HB.out _ _⟩
      · have ha0 := decide_eq_false ha
        by_cases hb : 1099511627776 < a
        · have HR := Lib.hid (opsR_no (c := ⟨1, a, X.data.toList⟩) (by simp [formedB]; omega))
          go_enter Tryz.func75, Tryz.ntmps75
          go_wp2
          go_ret
          exact ⟨ret_int HR.out.symm, HB.out _ _⟩
        · have hb0 := decide_eq_false hb
          have HR := Lib.hid (opsR_yes (c := ⟨1, a, X.data.toList⟩) (by simp [formedB, HNIL.out]; omega))
          clear ha hb
          go_enter Tryz.func75, Tryz.ntmps75
          go_wp2
          go_ret
          exact ⟨ret_int HR.out.symm, HB.out _ _⟩
    · by_cases ha : a < 0
      · have HR := Lib.hid (opsR_no (c := ⟨2, a, X.data.toList⟩) (by simp [formedB]; omega))
        go_enter Tryz.func75, Tryz.ntmps75
        go_wp2
        go_ret
        exact ⟨ret_int HR.out.symm, HB.out _ _⟩
      · have ha0 := decide_eq_false ha
        by_cases hb : 1048576 < a
        · have HR := Lib.hid (opsR_no (c := ⟨2, a, X.data.toList⟩) (by simp [formedB]; omega))
          go_enter Tryz.func75, Tryz.ntmps75
          go_wp2
          go_ret
          exact ⟨ret_int HR.out.symm, HB.out _ _⟩
        · have hb0 := decide_eq_false hb
          have HR := Lib.hid (opsR_yes (c := ⟨2, a, X.data.toList⟩) (by simp [formedB, HNIL.out]; omega))
          clear ha hb
          go_enter Tryz.func75, Tryz.ntmps75
          go_wp2
          go_ret
          exact ⟨ret_int HR.out.symm, HB.out _ _⟩
    · have HR := Lib.hid (opsR_no (c := ⟨5, a, X.data.toList⟩) (by simp [formedB, HNIL.out, nameB]))
      go_enter Tryz.func75, Tryz.ntmps75
      go_wp2
      go_ret
      exact ⟨ret_int HR.out.symm, HB.out _ _⟩
    · have HR := Lib.hid (opsR_no (c := ⟨6, a, X.data.toList⟩) (by simp [formedB, HNIL.out, nameB]))
      go_enter Tryz.func75, Tryz.ntmps75
      go_wp2
      go_ret
      exact ⟨ret_int HR.out.symm, HB.out _ _⟩
    · have n1 := int_ne h1
      have n2 := int_ne h2
      have n5 := int_ne h5
      have n6 := int_ne h6
      have hF : formedB ⟨op, a, X.data.toList⟩ = (decide (1 ≤ op) && (decide (op ≤ 23) && decide (a = 0))) := by simp [formedB, h1, h2, h5, h6, HNIL.out]
      have HF := Lib.hid hF
      clear hF
      by_cases ha : a = 0
      · subst ha
        by_cases hlo : op < 1
        · have HR := Lib.hid (opsR_no (c := ⟨op, 0, X.data.toList⟩) (by rw [HF.out, decide_eq_false (by omega)]; rfl))
          go_enter Tryz.func75, Tryz.ntmps75
          go_wp2
          go_ret
          exact ⟨ret_int HR.out.symm, HB.out _ _⟩
        · have hlo0 := decide_eq_false hlo
          by_cases hhi : 23 < op
          · have HR := Lib.hid (opsR_no (c := ⟨op, 0, X.data.toList⟩) (by rw [HF.out, decide_eq_false (show ¬ op ≤ 23 by omega)]; simp))
            go_enter Tryz.func75, Tryz.ntmps75
            go_wp2
            go_ret
            exact ⟨ret_int HR.out.symm, HB.out _ _⟩
          · have hhi0 := decide_eq_false hhi
            have HR := Lib.hid (opsR_yes (c := ⟨op, 0, X.data.toList⟩) (by rw [HF.out, decide_eq_true (show 1 ≤ op by omega), decide_eq_true (show op ≤ 23 by omega)]; rfl))
            by_cases h6' : op ≤ 6
            · have HR2 : Hid (opsR ⟨op, 0, X.data.toList⟩ = 0) := by rw [HR.out]; unfold operN; rw [if_pos (by simp only; omega)]; exact rfl
              clear hlo hhi h1 h2 h5 h6
              go_enter Tryz.func75, Tryz.ntmps75
              go_wp2
              go_ret
              exact ⟨ret_int HR2.out.symm, HB.out _ _⟩
            · have h6d := decide_eq_false h6'
              by_cases h10 : op ≤ 10
              · have HR2 : Hid (opsR ⟨op, 0, X.data.toList⟩ = 1) := by rw [HR.out]; unfold operN; rw [if_neg (by simp only; omega), if_pos (by simp only; omega)]; exact rfl
                clear hlo hhi h6' h1 h2 h5 h6
                go_enter Tryz.func75, Tryz.ntmps75
                go_wp2
                go_ret
                exact ⟨ret_int HR2.out.symm, HB.out _ _⟩
              · have h10d := decide_eq_false h10
                have HR2 : Hid (opsR ⟨op, 0, X.data.toList⟩ = 2) := by rw [HR.out]; unfold operN; rw [if_neg (by simp only; omega), if_neg (by simp only; omega)]; exact rfl
                clear hlo hhi h6' h10 h1 h2 h5 h6
                go_enter Tryz.func75, Tryz.ntmps75
                go_wp2
                go_ret
                exact ⟨ret_int HR2.out.symm, HB.out _ _⟩
      · have ha0 : (a != 0) = true := bne_iff_ne.2 ha
        have HR := Lib.hid (opsR_no (c := ⟨op, a, X.data.toList⟩) (by rw [HF.out, decide_eq_false ha]; simp))
        clear ha
        go_enter Tryz.func75, Tryz.ntmps75
        go_wp2
        go_ret
        exact ⟨ret_int HR.out.symm, HB.out _ _⟩
  · have hx0 : (0 : Int) < X.size := by omega
    have hx1 : 0 < X.size := by omega
    have hne : X.data.toList ≠ [] := fun e => hx (by rw [← sz0, e]; rfl)
    have HNE := Lib.hid hne
    clear hx
    rcases op_cases5 op with rfl | rfl | rfl | rfl | ⟨h1, h2, h5, h6⟩
    · have HR := Lib.hid (opsR_no (c := ⟨1, a, X.data.toList⟩) (by simp [formedB, hne]))
      clear hne
      go_enter Tryz.func75, Tryz.ntmps75
      go_wp2
      go_ret
      exact ⟨ret_int HR.out.symm, HB.out _ _⟩
    · have HR := Lib.hid (opsR_no (c := ⟨2, a, X.data.toList⟩) (by simp [formedB, hne]))
      clear hne
      go_enter Tryz.func75, Tryz.ntmps75
      go_wp2
      go_ret
      exact ⟨ret_int HR.out.symm, HB.out _ _⟩
    · clear hne
      cases hn : nameB X.data.toList
      · have HNN := Lib.hid hn
        have HR := Lib.hid (opsR_no (c := ⟨5, a, X.data.toList⟩) (by simp [formedB, hn]))
        clear hn
        go_enter Tryz.func75, Tryz.ntmps75
        go_wp2_with fail
        refine (HN.out _).mono ?_
        rintro e w1 ⟨rfl, rfl⟩
        rw [HNN.out]
        go_wp2
        go_ret
        exact ⟨ret_int HR.out.symm, HB.out _ _⟩
      · have HNN := Lib.hid hn
        by_cases ha : a = 0
        · subst ha
          have HR := Lib.hid (opsR_yes (c := ⟨5, 0, X.data.toList⟩) (by simp [formedB, hn]))
          clear hn
          go_enter Tryz.func75, Tryz.ntmps75
          go_wp2_with fail
          refine (HN.out _).mono ?_
          rintro e w1 ⟨rfl, rfl⟩
          rw [HNN.out]
          go_wp2
          go_ret
          exact ⟨ret_int HR.out.symm, HB.out _ _⟩
        · have ha0 : (a != 0) = true := bne_iff_ne.2 ha
          have HR := Lib.hid (opsR_no (c := ⟨5, a, X.data.toList⟩) (by simp [formedB, ha]))
          clear hn ha
          go_enter Tryz.func75, Tryz.ntmps75
          go_wp2_with fail
          refine (HN.out _).mono ?_
          rintro e w1 ⟨rfl, rfl⟩
          rw [HNN.out]
          go_wp2
          go_ret
          exact ⟨ret_int HR.out.symm, HB.out _ _⟩
    · clear hne
      cases hn : nameB X.data.toList
      · have HNN := Lib.hid hn
        have HR := Lib.hid (opsR_no (c := ⟨6, a, X.data.toList⟩) (by simp [formedB, hn]))
        clear hn
        go_enter Tryz.func75, Tryz.ntmps75
        go_wp2_with fail
        refine (HN.out _).mono ?_
        rintro e w1 ⟨rfl, rfl⟩
        rw [HNN.out]
        go_wp2
        go_ret
        exact ⟨ret_int HR.out.symm, HB.out _ _⟩
      · have HNN := Lib.hid hn
        by_cases ha : a = 0
        · subst ha
          have HR := Lib.hid (opsR_yes (c := ⟨6, 0, X.data.toList⟩) (by simp [formedB, hn]))
          clear hn
          go_enter Tryz.func75, Tryz.ntmps75
          go_wp2_with fail
          refine (HN.out _).mono ?_
          rintro e w1 ⟨rfl, rfl⟩
          rw [HNN.out]
          go_wp2
          go_ret
          exact ⟨ret_int HR.out.symm, HB.out _ _⟩
        · have ha0 : (a != 0) = true := bne_iff_ne.2 ha
          have HR := Lib.hid (opsR_no (c := ⟨6, a, X.data.toList⟩) (by simp [formedB, ha]))
          clear hn ha
          go_enter Tryz.func75, Tryz.ntmps75
          go_wp2_with fail
          refine (HN.out _).mono ?_
          rintro e w1 ⟨rfl, rfl⟩
          rw [HNN.out]
          go_wp2
          go_ret
          exact ⟨ret_int HR.out.symm, HB.out _ _⟩
    · have n1 := int_ne h1
      have n2 := int_ne h2
      have n5 := int_ne h5
      have n6 := int_ne h6
      have HR := Lib.hid (opsR_no (c := ⟨op, a, X.data.toList⟩) (by simp [formedB, h1, h2, h5, h6, hne]))
      clear hne h1 h2 h5 h6
      go_enter Tryz.func75, Tryz.ntmps75
      go_wp2
      go_ret
      exact ⟨ret_int HR.out.symm, HB.out _ _⟩
end Go.Proofs.YtjgfkmakfdepcaaGreatDoor
namespace Go.Proofs.YtjgfkmakfdepcaaGreatDoor

inductive T where
  | leaf (c : CM)
  | un (o : Int) (t : T)
  | bin (o : Int) (l r : T)

def post : T → List CM
  | .leaf c => [c]
  | .un o t => post t ++ [opC o]
  | .bin o l r => post l ++ post r ++ [opC o]
def OkT : T → Prop
  | .leaf c => formedB c = true ∧ operN c.op = 0
  | .un o t => 7 ≤ o ∧ o ≤ 10 ∧ OkT t
  | .bin o l r => 11 ≤ o ∧ o ≤ 23 ∧ OkT l ∧ OkT r
def pcT : T → Pc
  | .leaf c => joinP c none0 none0
  | .un o t => joinP (opC o) (pcT t) none0
  | .bin o l r => joinP (opC o) (pcT l) (pcT r)

theorem operN_un {o : Int} (h : 7 ≤ o ∧ o ≤ 10) : operN o = 1 := by unfold operN; rw [if_neg (by omega), if_pos h]
theorem operN_bin {o : Int} (h : 11 ≤ o ∧ o ≤ 23) : operN o = 2 := by unfold operN; rw [if_neg (by omega), if_neg (by omega)]
theorem formed_opC {o : Int} (h : 7 ≤ o ∧ o ≤ 23) : formedB (opC o) = true := by
  unfold formedB opC
  simp only
  rw [if_neg (by omega), if_neg (by omega), if_neg (by omega), decide_eq_true (show 1 ≤ o by omega), decide_eq_true (show o ≤ 23 by omega)]; rfl
theorem opC_of {c : CM} (h : formedB c = true) (ho : 1 ≤ operN c.op) : c = opC c.op ∧ 7 ≤ c.op := by
  have h7 : 7 ≤ c.op := by
    have := formed_op h
    unfold operN at ho
    split at ho
    · omega
    · omega
  refine ⟨?_, h7⟩
  unfold formedB at h
  rw [if_neg (by omega), if_neg (by omega), if_neg (by omega)] at h
  simp at h
  cases c; simp at h; simp [opC, h]

theorem fold_post {t : T} (h : OkT t) (st : List Pc) : (post t).foldl stepP st = st ++ [pcT t] := by
  induction t generalizing st with
  | leaf c =>
    show stepP st c = _
    unfold stepP
    rw [h.2, Nat.sub_zero, List.take_length, List.drop_length]
    rfl
  | un o t ih =>
    show (post t ++ [opC o]).foldl stepP st = _
    rw [List.foldl_append, ih h.2.2]
    show stepP (st ++ [pcT t]) (opC o) = _
    unfold stepP
    rw [show operN (opC o).op = 1 from operN_un ⟨h.1, h.2.1⟩]
    simp [pcT]
  | bin o l r ihl ihr =>
    show (post l ++ post r ++ [opC o]).foldl stepP st = _
    rw [List.foldl_append, List.foldl_append, ihl h.2.2.1, ihr h.2.2.2]
    show stepP (st ++ [pcT l] ++ [pcT r]) (opC o) = _
    unfold stepP
    rw [show operN (opC o).op = 2 from operN_bin ⟨h.1, h.2.1⟩]
    simp [pcT]

theorem run_post {t : T} (h : OkT t) (r : List CM) (v : Nat) : runB (post t ++ r) v = runB r (v + 1) := by
  induction t generalizing r v with
  | leaf c =>
    show (if formedB c = true ∧ operN c.op ≤ v then runB r (v + 1 - operN c.op) else none) = _
    rw [h.2, if_pos ⟨h.1, Nat.zero_le _⟩]; rfl
  | un o t ih =>
    show runB (post t ++ [opC o] ++ r) v = _
    rw [List.append_assoc, ih h.2.2]
    show (if formedB (opC o) = true ∧ operN o ≤ v + 1 then runB r (v + 1 + 1 - operN o) else none) = _
    rw [operN_un ⟨h.1, h.2.1⟩, if_pos ⟨formed_opC ⟨h.1, by have := h.2.1; omega⟩, by omega⟩]; rfl
  | bin o l r' ihl ihr =>
    show runB (post l ++ post r' ++ [opC o] ++ r) v = _
    rw [List.append_assoc, List.append_assoc, ihl h.2.2.1, ihr h.2.2.2]
    show (if formedB (opC o) = true ∧ operN o ≤ v + 1 + 1 then runB r (v + 1 + 1 + 1 - operN o) else none) = _
    rw [operN_bin ⟨h.1, h.2.1⟩, if_pos ⟨formed_opC ⟨by have := h.1; omega, h.2.1⟩, by omega⟩]; rfl

/-- several trees, their cells one behind the other -/
def OkAll (ts : List T) : Prop := ∀ t ∈ ts, OkT t
theorem trees_of : ∀ (cs : List CM) (ts : List T) (n : Nat), OkAll ts → runB cs ts.length = some n → ∃ ts', OkAll ts' ∧ ts'.flatMap post = ts.flatMap post ++ cs ∧ ts'.length = n := by
  intro cs
  induction cs with
  | nil => intro ts n ho hr; exact ⟨ts, ho, by simp, by simpa [runB] using hr⟩
  | cons c r ih =>
    intro ts n ho hr
    unfold runB at hr
    split at hr
    · rename_i hc
      obtain ⟨hf, hle⟩ := hc
      have h2 := operN_le c.op
      have hcs : operN c.op = 0 ∨ operN c.op = 1 ∨ operN c.op = 2 := by omega
      rcases hcs with h0 | h0 | h0
      · rw [h0] at hr
        obtain ⟨ts', h1, h2, h3⟩ := ih (ts ++ [.leaf c]) n (by
          intro t ht
          rcases List.mem_append.1 ht with h | h
          · exact ho t h
          · simp at h; subst h; exact ⟨hf, h0⟩) (by simpa using hr)
        exact ⟨ts', h1, by rw [h2]; simp [post], h3⟩
      · obtain ⟨hc1, hc7⟩ := opC_of hf (by omega)
        rcases List.eq_nil_or_concat ts with rfl | ⟨ts0, a, rfl⟩
        · simp at hle; omega
        · rw [List.concat_eq_append] at *
          have h10 : c.op ≤ 10 := by
            unfold operN at h0
            split at h0
            · omega
            · split at h0 <;> omega
          obtain ⟨ts', h1, h2, h3⟩ := ih (ts0 ++ [.un c.op a]) n (by
            intro t ht
            rcases List.mem_append.1 ht with h | h
            · exact ho t (List.mem_append_left _ h)
            · simp at h; subst h; exact ⟨hc7, h10, ho a (by simp)⟩) (by rw [h0] at hr; simpa using hr)
          refine ⟨ts', h1, ?_, h3⟩
          rw [h2]
          simp only [List.flatMap_append, List.flatMap_cons, List.flatMap_nil, List.append_nil, List.append_assoc, post]
          rw [← hc1]; rfl
      · obtain ⟨hc1, hc7⟩ := opC_of hf (by omega)
        rcases List.eq_nil_or_concat ts with rfl | ⟨ts1, b, rfl⟩
        · simp at hle; omega
        · rw [List.concat_eq_append] at *
          rcases List.eq_nil_or_concat ts1 with rfl | ⟨ts0, a, rfl⟩
          · simp at hle; omega
          · rw [List.concat_eq_append] at *
            have h10 : 11 ≤ c.op := by
              unfold operN at h0
              split at h0
              · omega
              · split at h0 <;> omega
            obtain ⟨ts', h1, h2, h3⟩ := ih (ts0 ++ [.bin c.op a b]) n (by
              intro t ht
              rcases List.mem_append.1 ht with h | h
              · exact ho t (List.mem_append_left _ (List.mem_append_left _ h))
              · simp at h; subst h; exact ⟨h10, (formed_op hf).2, ho a (by simp), ho b (by simp)⟩) (by rw [h0] at hr; simpa using hr)
            refine ⟨ts', h1, ?_, h3⟩
            rw [h2]
            simp only [List.flatMap_append, List.flatMap_cons, List.flatMap_nil, List.append_nil, List.append_assoc, post]
            rw [← hc1]; rfl
    · cases hr

theorem right_tree {cs : List CM} (h : rightB cs = true) : ∃ t, OkT t ∧ post t = cs := by
  unfold rightB at h
  simp at h
  obtain ⟨ts, h1, h2, h3⟩ := trees_of cs [] 1 (by intro t ht; cases ht) h.2
  match ts, h3 with
  | [t], _ => exact ⟨t, h1 t (by simp), by simpa using h2⟩
theorem tree_right {t : T} (h : OkT t) (hl : (post t).length ≤ 32) : rightB (post t) = true := by
  unfold rightB
  have := run_post h [] 0
  rw [List.append_nil] at this
  rw [this, decide_eq_true hl]; rfl
theorem tree_show {t : T} (h : OkT t) (hl : (post t).length ≤ 32) : showP (post t) = ((pcT t).1, 0) := by
  unfold showP
  rw [if_pos (tree_right h hl)]
  unfold stackP
  rw [fold_post h]; rfl
end Go.Proofs.YtjgfkmakfdepcaaGreatDoor
