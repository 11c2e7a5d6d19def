/- expr.Right at every list of cells that is read. -/
import Derived.Test.YtfgocdeaanalgaaDoorEo
import Derived.Test.YtfgocdeaanalgaaDoorEn
namespace Go.Proofs.YtfgocdeaanalgaaDoor
open Go.RowKit

/-- a slice value that reads as a list of cells -/
def RdC (w : World) (v : Value) (cs : List CM) : Prop :=
  ∃ (A : Option Addr) (c : Nat), v = .slice A cs.length c ∧ ∀ i (h : i < cs.length), ∃ b o, A = some ⟨b, o, none⟩ ∧
    w.cell? ⟨b, o + i * 3, none⟩ = some (.int .i64 cs[i].op) ∧ w.cell? ⟨b, o + i * 3 + 1, none⟩ = some (.int .i64 cs[i].a) ∧ w.cell? ⟨b, o + i * 3 + 2, none⟩ = some (bstr cs[i].nm)

theorem cell_lt {w : World} {p : Addr} {u : Value} (h : w.cell? p = some u) : p.block < w.heap.size := World.block_lt_of_cell? w p h
theorem RdC.below {w w' : World} {v : Value} {cs : List CM} (h : RdC w v cs) (hb : Below w.heap.size w w') : RdC w' v cs := by
  obtain ⟨A, c, rfl, hr⟩ := h
  refine ⟨A, c, rfl, fun i hi => ?_⟩
  obtain ⟨b, o, rfl, h0, h1, h2⟩ := hr i hi
  exact ⟨b, o, rfl, (hb.cell (cell_lt h0)).trans h0, (hb.cell (cell_lt h1)).trans h1, (hb.cell (cell_lt h2)).trans h2⟩
theorem own_rd {w : World} {B : Nat} {v : Value} {cs : List CM} (h : w.ownsRow B 38 3 v cs.length (flat cs)) : RdC w v cs := by
  by_cases h0 : 0 < cs.length
  · obtain ⟨g, cap, rfl, _, _⟩ := h.form h0
    refine ⟨_, _, rfl, fun i hi => ⟨_, _, rfl, ?_⟩⟩
    obtain ⟨f0, f1, f2⟩ := flat_at hi
    rw [Nat.zero_add, h.cellAt _ (by omega), h.cellAt _ (by omega), h.cellAt _ (by omega)]
    exact ⟨f0, f1, f2⟩
  · have : cs = [] := List.eq_nil_of_length_eq_zero (by omega)
    subst this
    rcases h.2 with ⟨rfl, _⟩ | ⟨g, cap, cur, rfl, _⟩
    · exact ⟨_, _, rfl, fun i hi => absurd hi (by simp)⟩
    · exact ⟨_, _, rfl, fun i hi => absurd hi (by simp)⟩
theorem Own.rd {w w' : World} {cs : List CM} {v : Value} (h : Own w cs v w') : RdC w' v cs := own_rd h.own

/-- how many values are left, from so many on -/
def runB : List CM → Nat → Option Nat
  | [], v => some v
  | c :: r, v => if formedB c = true ∧ operN c.op ≤ v then runB r (v + 1 - operN c.op) else none
def rightB (cs : List CM) : Bool := decide (cs.length ≤ 32) && (runB cs 0 == some 1)

theorem operN_le (op : Int) : operN op ≤ 2 := by unfold operN; split; omega; split <;> omega
theorem run_at {cs : List CM} {k v : Nat} (hk : k < cs.length) : runB (cs.drop k) v = if formedB cs[k] = true ∧ operN cs[k].op ≤ v then runB (cs.drop (k + 1)) (v + 1 - operN cs[k].op) else none := by
  rw [List.drop_eq_getElem_cons hk]; rfl

set_option maxHeartbeats 2000000 in
theorem right_any (v : Value) (cs : List CM) (w : World) (hR : RdC w v cs) (hl : cs.length ≤ 4611686018427387904) :
    Calls Tryd.prog 10 #[v] w fun e w' => e = .returned (.bool (rightB cs)) ∧ Below w.heap.size w w' := by
  obtain ⟨A, c, rfl, hr⟩ := hR
  by_cases h32 : 32 < cs.length
  · have hB : rightB cs = false := by unfold rightB; rw [decide_eq_false (by omega)]; rfl
    rw [hB]; clear hB hr
    have h32' : (32 : Int) < cs.length := by omega
    go_enter Tryd.func10, Tryd.ntmps10
    go_wp2
    go_ret
    exact ⟨rfl, Below.refl _ _⟩
  · have hB : rightB cs = (runB cs 0 == some 1) := by unfold rightB; rw [decide_eq_true (by omega)]; rfl
    rw [hB]; clear hB
    have h32' : decide ((32 : Int) < cs.length) = false := decide_eq_false (by omega)
    have HR := Lib.hid hr; clear hr
    obtain ⟨n, hn⟩ : ∃ n, cs.length = n := ⟨_, rfl⟩
    have HN := Lib.hid hn
    rw [hn] at h32' hl h32 ⊢
    clear hn
    go_enter Tryd.func10, Tryd.ntmps10
    go_wp2
    go_loopw [2, 3, 12] (fun x2 vv i wr => x2 = .bool false ∧ ∃ k vs : Nat, k ≤ n ∧ vs ≤ k ∧ i = .int .i64 k ∧ vv = .int .i64 vs ∧ Hid (runB (cs.drop k) vs = runB cs 0) ∧ Below w.heap.size w wr) (fun _ _ i _ => n - (intOf i).toNat)
    case atStart => exact ⟨rfl, 0, 0, by omega, by omega, rfl, rfl, rfl, Below.refl _ _⟩
    case round =>
      obtain ⟨rfl, k, vs, hk, hvs, rfl, rfl, HB, hb⟩ := hrel
      have HBL := Lib.hid hb
      by_cases hkn : k < n
      · obtain ⟨b, o, rfl, d0, d1, d2⟩ := HR.out k (by rw [HN.out]; exact hkn)
        have hrun := run_at (cs := cs) (k := k) (v := vs) (by rw [HN.out]; exact hkn)
        rw [HB.out] at hrun
        obtain ⟨cc, hcc⟩ : ∃ cc, cs[k]'(by rw [HN.out]; exact hkn) = cc := ⟨_, rfl⟩
        rw [hcc] at d0 d1 d2 hrun
        have e0 := (hb.cell (cell_lt d0)).trans d0
        have e1 := (hb.cell (cell_lt d1)).trans d1
        have e2 := (hb.cell (cell_lt d2)).trans d2
        have hon := operN_le cc.op
        obtain ⟨X, hX⟩ : ∃ X : ByteArray, bstr cc.nm = .string X := ⟨_, rfl⟩
        have hfm := formed_any cc
        rw [hX] at e2 hfm
        have HFM := Lib.hid hfm
        have HRUN := Lib.hid hrun
        clear d0 d1 d2 hcc hrun hb hX hfm
        cases hf : formedB cc
        · have HFF := Lib.hid hf
          have hE : runB cs 0 = none := by rw [HRUN.out, hf, if_neg (by simp)]
          have HE := Lib.hid hE
          clear hE hf
          go_wp2_with fail
          refine (operands_any _ _).mono ?_
          rintro e w1 ⟨rfl, rfl⟩
          go_wp2_with fail
          refine (HFM.out _).mono ?_
          rintro e w2 ⟨rfl, hb2⟩
          have HB2 := Lib.hid hb2; clear hb2
          rw [HFF.out]
          go_wp2
          go_ret
          exact ⟨by rw [HE.out]; rfl, (HBL.out.alloc HBL.out.size _).trans (HB2.out.mono (by have := HBL.out.size; simp; omega))⟩
        · have HFF := Lib.hid hf
          by_cases hov : operN cc.op ≤ vs
          · have hE : runB (cs.drop (k + 1)) (vs + 1 - operN cc.op) = runB cs 0 := by rw [HRUN.out, hf, if_pos ⟨rfl, hov⟩]
            have HE := Lib.hid hE
            clear hE hf
            have hov' : decide ((vs : Int) < (operN cc.op : Int)) = false := decide_eq_false (by omega)
            go_wp2_with fail
            refine (operands_any _ _).mono ?_
            rintro e w1 ⟨rfl, rfl⟩
            go_wp2_with fail
            refine (HFM.out _).mono ?_
            rintro e w2 ⟨rfl, hb2⟩
            have HB2 := Lib.hid hb2; clear hb2
            rw [HFF.out]
            go_wp2
            go_roundw
            case rel => exact ⟨rfl, k + 1, vs + 1 - operN cc.op, by omega, by omega, by go_num, by congr 1; omega, HE, (HBL.out.alloc HBL.out.size _).trans (HB2.out.mono (by have := HBL.out.size; simp; omega))⟩
            case measure => simp [intOf]; omega
          · have hE : runB cs 0 = none := by rw [HRUN.out, hf, if_neg (by simp; omega)]
            have HE := Lib.hid hE
            clear hE hf
            have hov' : (vs : Int) < (operN cc.op : Int) := by omega
            go_wp2_with fail
            refine (operands_any _ _).mono ?_
            rintro e w1 ⟨rfl, rfl⟩
            go_wp2_with fail
            refine (HFM.out _).mono ?_
            rintro e w2 ⟨rfl, hb2⟩
            have HB2 := Lib.hid hb2; clear hb2
            rw [HFF.out]
            go_wp2
            go_ret
            exact ⟨by rw [HE.out]; rfl, (HBL.out.alloc HBL.out.size _).trans (HB2.out.mono (by have := HBL.out.size; simp; omega))⟩
      · have hE : runB cs 0 = some vs := by
          rw [← HB.out, List.drop_of_length_le (by rw [HN.out]; omega)]; rfl
        have hE2 : (runB cs 0 == some 1) = ((vs : Int) == 1) := by
          rw [hE]
          by_cases h : vs = 1
          · subst h; rfl
          · rw [int_ne (show (vs : Int) ≠ 1 by omega)]; simp [h]
        have HE := Lib.hid hE2
        clear hE hE2
        go_wp2
        go_ret
        exact ⟨by rw [HE.out]; rfl, HBL.out⟩
end Go.Proofs.YtfgocdeaanalgaaDoor
