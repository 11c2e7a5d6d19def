/- The document's Right; the laws ExprRight, ExprBack walked. -/
import Derived.Test.YtfgocdeaanalgaaDoorF1
import Derived.Test.YtfgocdeaanalgaaDoorF6
namespace Go.Proofs.YtfgocdeaanalgaaDoor
open Go.RowKit

def Names (cs : List CM) : Prop := ∀ c ∈ cs, c.nm.length ≤ 9223372036854775807

set_option maxRecDepth 100000 in
set_option maxHeartbeats 2000000 in
theorem refRight_any (v : Value) (cs : List CM) (w : World) (hR : RdC w v cs) (hl : cs.length ≤ 4611686018427387904) (hN : Names cs) :
    Calls Tryd.prog 12 #[v] w fun e w' => e = .returned (.bool (rightB cs)) ∧ Below w.heap.size w w' := by
  obtain ⟨A, c, rfl, hr⟩ := hR
  have HR := Lib.hid hr; clear hr
  have HNM := Lib.hid hN; clear hN
  obtain ⟨n, hn⟩ : ∃ n, cs.length = n := ⟨_, rfl⟩
  have HN := Lib.hid hn
  rw [hn] at hl ⊢
  clear hn
  have HNO : Hid (runB cs 0 = none → rightB cs = false) := by
    intro h
    unfold rightB; rw [h]; simp
  have HLO : Hid (32 < n → rightB cs = false) := by
    intro h
    unfold rightB; rw [HN.out, decide_eq_false (by omega)]; rfl
  have HYE : Hid (∀ vs, n ≤ 32 → runB cs 0 = some vs → rightB cs = ((vs : Int) == 1)) := by
    intro vs h1 h2
    unfold rightB; rw [HN.out, decide_eq_true h1, h2]
    by_cases h : vs = 1
    · subst h; rfl
    · rw [int_ne (show (vs : Int) ≠ 1 by omega)]; simp [h]
  go_enter Tryd.func12, Tryd.ntmps12
  go_wp2
  go_loopw [2, 3, 4] (fun x2 vv i wr => x2 = .bool false ∧ ∃ k vs : Nat, k ≤ n ∧ k ≤ 32 ∧ vs ≤ k ∧ i = .int .i64 k ∧ vv = .int .i64 vs ∧ Hid (runB (cs.drop k) vs = runB cs 0) ∧ Below w.heap.size w wr) (fun _ _ i _ => n - (intOf i).toNat)
  case atStart => exact ⟨rfl, 0, 0, by omega, by omega, by omega, rfl, rfl, rfl, Below.refl _ _⟩
  case round =>
    obtain ⟨rfl, k, vs, hk, hk32, hvs, rfl, rfl, HB, hb⟩ := hrel
    have HBL := Lib.hid hb
    by_cases hkn : k < n
    · obtain ⟨b, o, rfl, d0, d1, d2⟩ := HR.out k (by rw [HN.out]; exact hkn)
      have hrun := run_at (cs := cs) (k := k) (v := vs) (by rw [HN.out]; exact hkn)
      rw [HB.out] at hrun
      have hnm := HNM.out (cs[k]'(by rw [HN.out]; exact hkn)) (List.getElem_mem _)
      obtain ⟨cc, hcc⟩ : ∃ cc, cs[k]'(by rw [HN.out]; exact hkn) = cc := ⟨_, rfl⟩
      rw [hcc] at d0 d1 d2 hrun hnm
      have e0 := (hb.cell (cell_lt d0)).trans d0
      have e1 := (hb.cell (cell_lt d1)).trans d1
      have e2 := (hb.cell (cell_lt d2)).trans d2
      have hon := operN_le cc.op
      obtain ⟨X, hX⟩ : ∃ X : ByteArray, bstr cc.nm = .string X := ⟨_, rfl⟩
      have hfm := fun W => refOperands_any cc W hnm
      rw [hX] at e2 hfm
      have HFM := Lib.hid hfm
      have HRUN := Lib.hid hrun
      clear d0 d1 d2 hcc hrun hb hX hfm hnm
      cases hf : formedB cc
      · have HFF := Lib.hid (opsR_no hf)
        have HE := Lib.hid (HNO.out (by rw [HRUN.out, hf, if_neg (by simp)]))
        clear hf
        go_wp2_with fail
        refine (HFM.out _).mono ?_
        rintro e w2 ⟨rfl, hb2⟩
        have HB2 := Lib.hid hb2; clear hb2
        rw [HFF.out]
        go_wp2
        go_ret
        exact ⟨ret_bool HE.out.symm, HBL.out.trans (HB2.out.mono HBL.out.size)⟩
      · have HFF := Lib.hid (opsR_yes hf)
        by_cases hov : operN cc.op ≤ vs
        · have hov' : decide ((vs : Int) < (operN cc.op : Int)) = false := decide_eq_false (by omega)
          have hov2 : decide (vs < operN cc.op) = false := decide_eq_false (by omega)
          have hneg : decide ((operN cc.op : Int) < 0) = false := decide_eq_false (by omega)
          by_cases h32 : k < 32
          · have hE : runB (cs.drop (k + 1)) (vs + 1 - operN cc.op) = runB cs 0 := by rw [HRUN.out, hf, if_pos ⟨rfl, hov⟩]
            have HE := Lib.hid hE
            clear hE hf
            have h32' : decide ((32 : Int) ≤ (k : Int)) = false := decide_eq_false (by omega)
            have h32'' : decide (32 ≤ k) = false := decide_eq_false (by omega)
            go_wp2_with fail
            refine (HFM.out _).mono ?_
            rintro e w2 ⟨rfl, hb2⟩
            have HB2 := Lib.hid hb2; clear hb2
            rw [HFF.out]
            go_wp2
            go_roundw
            case rel => exact ⟨rfl, k + 1, vs + 1 - operN cc.op, by omega, by omega, by omega, by go_num, by congr 1; omega, HE, HBL.out.trans (HB2.out.mono HBL.out.size)⟩
            case measure => simp [intOf]; omega
          · have HE := Lib.hid (HLO.out (by omega))
            have h32' : (32 : Int) ≤ (k : Int) := by omega
            clear hf h32
            go_wp2_with fail
            refine (HFM.out _).mono ?_
            rintro e w2 ⟨rfl, hb2⟩
            have HB2 := Lib.hid hb2; clear hb2
            rw [HFF.out]
            go_wp2
            go_ret
            exact ⟨ret_bool HE.out.symm, HBL.out.trans (HB2.out.mono HBL.out.size)⟩
        · have HE := Lib.hid (HNO.out (by rw [HRUN.out, hf, if_neg (by simp; omega)]))
          have hov' : (vs : Int) < (operN cc.op : Int) := by omega
          have hneg : decide ((operN cc.op : Int) < 0) = false := decide_eq_false (by omega)
          clear hf
          go_wp2_with fail
          refine (HFM.out _).mono ?_
          rintro e w2 ⟨rfl, hb2⟩
          have HB2 := Lib.hid hb2; clear hb2
          rw [HFF.out]
          go_wp2
          go_ret
          exact ⟨ret_bool HE.out.symm, HBL.out.trans (HB2.out.mono HBL.out.size)⟩
    · have hE : runB cs 0 = some vs := by
        rw [← HB.out, List.drop_of_length_le (by rw [HN.out]; omega)]; rfl
      have HE := Lib.hid (HYE.out vs (by omega) hE)
      clear hE
      go_wp2
      go_ret
      exact ⟨ret_bool HE.out.symm, HBL.out⟩

theorem right_law (v : Value) (cs : List CM) (w : World) (hR : RdI w v cs) (hl : cs.length * 32 ≤ 140737488355328) (hN : Names cs) (hO : Ops w) (hL : Laid w) :
    Calls Tryd.prog 3 #[v] w fun e w' => e = .returned (.bool true) ∧ Below w.heap.size w w' := by
  have HW := Lib.hid (wakes_any w hO hL)
  have HR := Lib.hid hR; have HN := Lib.hid hN
  clear hR hN
  go_enter Tryd.func3, Tryd.ntmps3
  go_wp2_with fail
  refine HW.out.mono ?_
  rintro e w1 ⟨rfl, hb1⟩
  have HB1 := Lib.hid hb1; clear hb1
  go_wp2_with fail
  refine (copied_any _ cs w1 (HR.out.below HB1.out) hl).mono ?_
  rintro e w2 ⟨v2, rfl, h2⟩
  have H2 := Lib.hid h2; clear h2
  go_wp2_with fail
  refine (right_any _ cs w2 H2.out.rd (by omega)).mono ?_
  rintro e w3 ⟨rfl, hb3⟩
  have HB3 := Lib.hid (HB1.out.trans ((H2.out.below.trans (hb3.mono H2.out.below.size)).mono HB1.out.size)); clear hb3
  go_wp2_with fail
  refine (refRight_any _ cs w3 (HR.out.below HB3.out).rd (by omega) HN.out).mono ?_
  rintro e w4 ⟨rfl, hb4⟩
  have HB4 := Lib.hid (HB3.out.trans (hb4.mono HB3.out.size)); clear hb4
  go_wp2
  go_ret
  exact ⟨rfl, HB4.out⟩

set_option maxRecDepth 100000 in
set_option maxHeartbeats 2000000 in
theorem back_law (v : Value) (cs : List CM) (w : World) (hR : RdI w v cs) (hl : cs.length * 32 ≤ 140737488355328) (hO : Ops w) (hL : Laid w) :
    Calls Tryd.prog 6 #[v] w fun e w' => e = .returned (.bool true) ∧ Below w.heap.size w w' := by
  have HR := Lib.hid hR
  have HOL : Hid (Ops w ∧ Laid w) := ⟨hO, hL⟩
  clear hR hO hL
  cases hB : rightB cs
  · have HS := Lib.hid (show_no hB)
    clear hB
    go_enter Tryd.func6, Tryd.ntmps6
    go_wp2_with fail
    refine (copied_any _ cs w HR.out hl).mono ?_
    rintro e w1 ⟨v1, rfl, h1⟩
    have H1 := Lib.hid h1; clear h1
    go_wp2_with fail
    refine (show_any _ cs w1 H1.out.rd (by omega) (HOL.out.1.below H1.out.below) (HOL.out.2.below H1.out.below)).mono ?_
    rintro e w2 ⟨rfl, hb2⟩
    rw [HS.out]
    have HB2 := Lib.hid (H1.out.below.trans (hb2.mono H1.out.below.size)); clear hb2
    have HW := Lib.hid (wakes_any w2 (HOL.out.1.below HB2.out) (HOL.out.2.below HB2.out))
    go_wp2_with fail
    refine HW.out.mono ?_
    rintro e w3 ⟨rfl, hb3⟩
    have HB3 := Lib.hid (HB2.out.trans (hb3.mono HB2.out.size)); clear hb3
    go_wp2
    go_ret
    exact ⟨rfl, HB3.out⟩
  · have hbk := back hB
    obtain ⟨T, hT⟩ : ∃ T : ByteArray, (⟨(showP cs).1.toArray⟩ : ByteArray) = T := ⟨_, rfl⟩
    have hTl : T.data.toList = (showP cs).1 := by rw [← hT]
    have hTs : T.size ≤ 9223372036854775807 := by
      rw [← sz0 T, hTl]
      rcases Nat.lt_or_ge 600 (showP cs).1.length with h | h
      · have := hbk.1; unfold parseP at this; rw [if_pos h] at this; simp at this
      · omega
    have HP : Hid (parseP T.data.toList = (cs, 0, 0)) := by rw [hTl]; exact hbk.1
    have HT := Lib.hid hT
    have HE := Lib.hid hbk.2
    have hlx : cs.length ≤ 140737488355328 := by omega
    clear hB hbk hTl hT
    go_enter Tryd.func6, Tryd.ntmps6
    go_wp2_with fail
    refine (copied_any _ cs w HR.out hl).mono ?_
    rintro e w1 ⟨v1, rfl, h1⟩
    have H1 := Lib.hid h1; clear h1
    go_wp2_with fail
    refine (show_any _ cs w1 H1.out.rd (by omega) (HOL.out.1.below H1.out.below) (HOL.out.2.below H1.out.below)).mono ?_
    rintro e w2 ⟨rfl, hb2⟩
    rw [HT.out, HE.out]
    have HB2 := Lib.hid (H1.out.below.trans (hb2.mono H1.out.below.size)); clear hb2
    have HW := Lib.hid (wakes_any w2 (HOL.out.1.below HB2.out) (HOL.out.2.below HB2.out))
    go_wp2_with fail
    refine HW.out.mono ?_
    rintro e w3 ⟨rfl, hb3⟩
    have HB3 := Lib.hid (HB2.out.trans (hb3.mono HB2.out.size)); clear hb3
    go_wp2_with fail
    refine (parse_any T w3 (HOL.out.1.below HB3.out) hTs).mono ?_
    rintro e w4 ⟨v4, rfl, h4⟩
    rw [HP.out] at h4 ⊢
    have H4 := Lib.hid h4; clear h4
    have HB4 := Lib.hid (HB3.out.trans (H4.out.below.mono HB3.out.size))
    go_wp2_with fail
    refine (same_any _ _ cs cs w4 (HR.out.below HB4.out).rd H4.out.rd hlx).mono ?_
    rintro e w5 ⟨rfl, n, rfl⟩
    rw [decide_eq_true rfl]
    go_wp2
    go_ret
    exact ⟨rfl, ⟨HB4.out.os, HB4.out.tape, HB4.out.output, HB4.out.size, HB4.out.block⟩⟩
end Go.Proofs.YtfgocdeaanalgaaDoor
