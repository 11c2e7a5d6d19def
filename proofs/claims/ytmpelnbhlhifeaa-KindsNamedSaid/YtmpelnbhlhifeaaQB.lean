/- expr.Right, the document's Operands, Right and Begin. -/
import Derived.Test.YtmpelnbhlhifeaaQA
namespace Go.Proofs.Ytmpelnbhlhifeaa
open Go.RowKit

section
theorem operands_any (op : Int) (w : World) :
    Calls Try.prog 20 #[.int .i64 op] w fun e w' => e = .returned (.int .i64 (operN op)) ∧ w = w' := by
  rcases op_cases op with h | h | h | h | h | h | h | h | h | h | h
  · subst h
    go_enter Try.func20, Try.ntmps20
    go_wp2
    go_ret
    exact ⟨rfl, rfl⟩
  · subst h
    go_enter Try.func20, Try.ntmps20
    go_wp2
    go_ret
    exact ⟨rfl, rfl⟩
  · subst h
    go_enter Try.func20, Try.ntmps20
    go_wp2
    go_ret
    exact ⟨rfl, rfl⟩
  · subst h
    go_enter Try.func20, Try.ntmps20
    go_wp2
    go_ret
    exact ⟨rfl, rfl⟩
  · subst h
    go_enter Try.func20, Try.ntmps20
    go_wp2
    go_ret
    exact ⟨rfl, rfl⟩
  · subst h
    go_enter Try.func20, Try.ntmps20
    go_wp2
    go_ret
    exact ⟨rfl, rfl⟩
  · subst h
    go_enter Try.func20, Try.ntmps20
    go_wp2
    go_ret
    exact ⟨rfl, rfl⟩
  · subst h
    go_enter Try.func20, Try.ntmps20
    go_wp2
    go_ret
    exact ⟨rfl, rfl⟩
  · subst h
    go_enter Try.func20, Try.ntmps20
    go_wp2
    go_ret
    exact ⟨rfl, rfl⟩
  · subst h
    go_enter Try.func20, Try.ntmps20
    go_wp2
    go_ret
    exact ⟨rfl, rfl⟩
  have hN : operN op = 2 := by unfold operN; rw [if_neg (by omega), if_neg (by omega)]
  rw [hN]; clear hN
  have t1 := int_ne (a := op) (b := 1) (by omega)
  have t2 := int_ne (a := op) (b := 2) (by omega)
  have t3 := int_ne (a := op) (b := 3) (by omega)
  have t4 := int_ne (a := op) (b := 4) (by omega)
  have t5 := int_ne (a := op) (b := 5) (by omega)
  have t6 := int_ne (a := op) (b := 6) (by omega)
  have t7 := int_ne (a := op) (b := 7) (by omega)
  have t8 := int_ne (a := op) (b := 8) (by omega)
  have t9 := int_ne (a := op) (b := 9) (by omega)
  have t10 := int_ne (a := op) (b := 10) (by omega)
  clear h
  go_enter Try.func20, Try.ntmps20
  go_wp2
  go_ret
  exact ⟨rfl, rfl⟩

set_option maxHeartbeats 2000000 in
theorem formed_any (c : CM) (w : World) :
    Calls Try.prog 21 #[.agg #[.int .i64 c.op, .int .i64 c.a, bstr c.nm]] w fun e w' => e = .returned (.bool (formedB c)) ∧ Below w.heap.size w w' := by
  obtain ⟨op, a, nm⟩ := c
  obtain ⟨X, hX⟩ : ∃ X : ByteArray, X = ⟨nm.toArray⟩ := ⟨_, rfl⟩
  have hXl : X.data.toList = nm := by rw [hX]
  have hb : bstr nm = .string X := by rw [hX]; rfl
  simp only
  rw [hb]
  clear hb hX
  subst hXl
  have HBox : ∀ W : World, ∀ o : Obj, Below W.heap.size W (W.alloc o) := fun W o => (Below.refl _ _).alloc (Nat.le_refl _) o
  have HB := Lib.hid HBox; clear HBox
  by_cases h1 : op = 1
  · subst h1
    have hF : formedB ⟨1, a, X.data.toList⟩ = (decide (X.data.toList = []) && (decide (0 ≤ a) && decide (a ≤ 1099511627776))) := rfl
    rw [hF]; clear hF
    rw [← Lib.toList_data]
    by_cases hn : X.toList = []
    · have hne : X.toList.isEmpty = true := by rw [hn]; rfl
      rw [decide_eq_true hn]
      clear hn
      by_cases ha : 0 ≤ a
      · by_cases hb : a ≤ 1099511627776
        · rw [decide_eq_true ha, decide_eq_true hb]
          go_enter Try.func21, Try.ntmps21
          go_wp2
          go_ret
          exact ⟨rfl, HB.out _ _⟩
        · rw [decide_eq_true ha, decide_eq_false hb]
          have hb' := decide_eq_false hb
          clear hb
          go_enter Try.func21, Try.ntmps21
          go_wp2
          go_ret
          exact ⟨rfl, HB.out _ _⟩
      · rw [decide_eq_false ha]
        have ha' := decide_eq_false ha
        clear ha
        go_enter Try.func21, Try.ntmps21
        go_wp2
        go_ret
        exact ⟨rfl, HB.out _ _⟩
    · have hne : X.toList.isEmpty = false := by
        cases h : X.toList with
        | nil => exact absurd h hn
        | cons _ _ => rfl
      rw [decide_eq_false hn]
      go_enter Try.func21, Try.ntmps21
      go_wp2
      go_ret
      exact ⟨rfl, HB.out _ _⟩
  · by_cases h2 : op = 2
    · subst h2
      have hF : formedB ⟨2, a, X.data.toList⟩ = (decide (X.data.toList = []) && (decide (0 ≤ a) && decide (a ≤ 1048576))) := rfl
      rw [hF]; clear hF
      rw [← Lib.toList_data]
      by_cases hn : X.toList = []
      · have hne : X.toList.isEmpty = true := by rw [hn]; rfl
        rw [decide_eq_true hn]
        clear hn
        by_cases ha : 0 ≤ a
        · by_cases hb : a ≤ 1048576
          · rw [decide_eq_true ha, decide_eq_true hb]
            go_enter Try.func21, Try.ntmps21
            go_wp2
            go_ret
            exact ⟨rfl, HB.out _ _⟩
          · rw [decide_eq_true ha, decide_eq_false hb]
            have hb' := decide_eq_false hb
            clear hb
            go_enter Try.func21, Try.ntmps21
            go_wp2
            go_ret
            exact ⟨rfl, HB.out _ _⟩
        · rw [decide_eq_false ha]
          have ha' := decide_eq_false ha
          clear ha
          go_enter Try.func21, Try.ntmps21
          go_wp2
          go_ret
          exact ⟨rfl, HB.out _ _⟩
      · have hne : X.toList.isEmpty = false := by
          cases h : X.toList with
          | nil => exact absurd h hn
          | cons _ _ => rfl
        rw [decide_eq_false hn]
        go_enter Try.func21, Try.ntmps21
        go_wp2
        go_ret
        exact ⟨rfl, HB.out _ _⟩
    · by_cases h56 : op = 5 ∨ op = 6
      · have hF : formedB ⟨op, a, X.data.toList⟩ = (decide (a = 0) && nameB X.data.toList) := by
          unfold formedB
          simp only
          rw [if_neg h1, if_neg h2, if_pos h56]
        rw [hF]; clear hF
        have HN := Lib.hid (name_any X)
        by_cases ha : a = 0
        · subst ha
          cases hn : nameB X.data.toList
          all_goals
            have HNN := Lib.hid hn
            clear hn
            rcases h56 with h | h
          all_goals
            subst h
            clear h1 h2
            go_enter Try.func21, Try.ntmps21
            go_wp2_with fail
            refine (HN.out _).mono ?_
            rintro e w1 ⟨rfl, rfl⟩
            rw [HNN.out]
            go_wp2
            go_ret
            exact ⟨rfl, HB.out _ _⟩
        · have ha' := int_ne ha
          rw [decide_eq_false ha]
          clear ha
          rcases h56 with h | h
          all_goals
            subst h
            clear h1 h2
            go_enter Try.func21, Try.ntmps21
            go_wp2
            go_ret
            exact ⟨rfl, HB.out _ _⟩
      · have hF : formedB ⟨op, a, X.data.toList⟩ = (decide (1 ≤ op) && (decide (op ≤ 23) && (decide (a = 0) && decide (X.data.toList = [])))) := by
          unfold formedB
          simp only
          rw [if_neg h1, if_neg h2, if_neg h56]
        rw [hF]; clear hF
        rw [← Lib.toList_data]
        have t1 := int_ne h1
        have t2 := int_ne h2
        have t5 := int_ne (a := op) (b := 5) (fun e => h56 (Or.inl e))
        have t6 := int_ne (a := op) (b := 6) (fun e => h56 (Or.inr e))
        clear h1 h2 h56
        by_cases h1 : 1 ≤ op
        · rw [decide_eq_true h1]
          by_cases h23 : op ≤ 23
          · rw [decide_eq_true h23]
            by_cases ha : a = 0
            · subst ha
              by_cases hn : X.toList = []
              · have hne : X.toList.isEmpty = true := by rw [hn]; rfl
                rw [decide_eq_true hn]
                clear hn
                go_enter Try.func21, Try.ntmps21
                go_wp2
                go_ret
                exact ⟨rfl, HB.out _ _⟩
              · have hne : X.toList.isEmpty = false := by
                  cases h : X.toList with
                  | nil => exact absurd h hn
                  | cons _ _ => rfl
                rw [decide_eq_false hn]
                go_enter Try.func21, Try.ntmps21
                go_wp2
                go_ret
                exact ⟨rfl, HB.out _ _⟩
            · have ha' := int_ne ha
              rw [decide_eq_false ha]
              clear ha
              go_enter Try.func21, Try.ntmps21
              go_wp2
              go_ret
              exact ⟨rfl, HB.out _ _⟩
          · have h23' := decide_eq_false h23
            rw [h23']
            clear h23
            go_enter Try.func21, Try.ntmps21
            go_wp2
            go_ret
            exact ⟨rfl, HB.out _ _⟩
        · have h1' := decide_eq_false h1
          rw [h1']
          clear h1
          go_enter Try.func21, Try.ntmps21
          go_wp2
          go_ret
          exact ⟨rfl, HB.out _ _⟩
end

section
set_option maxHeartbeats 2000000 in
theorem right_any (v : Value) (cs : List CM) (w : World) (hR : RdC w v cs) (hl : cs.length ≤ 4611686018427387904) :
    Calls Try.prog 15 #[v] w fun e w' => e = .returned (.bool (rightB cs)) ∧ Below w.heap.size w w' := by
  obtain ⟨A, c, rfl, hr⟩ := hR
  by_cases h32 : 32 < cs.length
  · have hB : rightB cs = false := by unfold rightB; rw [decide_eq_false (by omega)]; rfl
    rw [hB]; clear hB hr
    have h32' : (32 : Int) < cs.length := by omega
    go_enter Try.func15, Try.ntmps15
    go_wp2
    go_ret
    exact ⟨rfl, Below.refl _ _⟩
  · have hB : rightB cs = (runB cs 0 == some 1) := by unfold rightB; rw [decide_eq_true (by omega)]; rfl
    rw [hB]; clear hB
    have h32' : decide ((32 : Int) < cs.length) = false := decide_eq_false (by omega)
    have HR := Lib.hid hr; clear hr
    obtain ⟨n, hn⟩ : ∃ n, cs.length = n := ⟨_, rfl⟩
    have HN := Lib.hid hn
    rw [hn] at h32' hl h32 ⊢
    clear hn
    go_enter Try.func15, Try.ntmps15
    go_wp2
    go_loopw [2, 3, 12] (fun x2 vv i wr => x2 = .bool false ∧ ∃ k vs : Nat, k ≤ n ∧ vs ≤ k ∧ i = .int .i64 k ∧ vv = .int .i64 vs ∧ Hid (runB (cs.drop k) vs = runB cs 0) ∧ Below w.heap.size w wr) (fun _ _ i _ => n - (intOf i).toNat)
    case atStart => exact ⟨rfl, 0, 0, by omega, by omega, rfl, rfl, rfl, Below.refl _ _⟩
    case round =>
      obtain ⟨rfl, k, vs, hk, hvs, rfl, rfl, HB, hb⟩ := hrel
      have HBL := Lib.hid hb
      by_cases hkn : k < n
      · obtain ⟨b, o, rfl, d0, d1, d2⟩ := HR.out k (by rw [HN.out]; exact hkn)
        have hrun := run_at (cs := cs) (k := k) (v := vs) (by rw [HN.out]; exact hkn)
        rw [HB.out] at hrun
        obtain ⟨cc, hcc⟩ : ∃ cc, cs[k]'(by rw [HN.out]; exact hkn) = cc := ⟨_, rfl⟩
        rw [hcc] at d0 d1 d2 hrun
        have e0 := (hb.cell (cell_lt d0)).trans d0
        have e1 := (hb.cell (cell_lt d1)).trans d1
        have e2 := (hb.cell (cell_lt d2)).trans d2
        have hon := operN_le cc.op
        obtain ⟨X, hX⟩ : ∃ X : ByteArray, bstr cc.nm = .string X := ⟨_, rfl⟩
        have hfm := formed_any cc
        rw [hX] at e2 hfm
        have HFM := Lib.hid hfm
        have HRUN := Lib.hid hrun
        clear d0 d1 d2 hcc hrun hb hX hfm
        cases hf : formedB cc
        · have HFF := Lib.hid hf
          have hE : runB cs 0 = none := by rw [HRUN.out, hf, if_neg (by simp)]
          have HE := Lib.hid hE
          clear hE hf
          go_wp2_with fail
          refine (operands_any _ _).mono ?_
          rintro e w1 ⟨rfl, rfl⟩
          go_wp2_with fail
          refine (HFM.out _).mono ?_
          rintro e w2 ⟨rfl, hb2⟩
          have HB2 := Lib.hid hb2; clear hb2
          rw [HFF.out]
          go_wp2
          go_ret
          exact ⟨by rw [HE.out]; rfl, (HBL.out.alloc HBL.out.size _).trans (HB2.out.mono (by have := HBL.out.size; simp; omega))⟩
        · have HFF := Lib.hid hf
          by_cases hov : operN cc.op ≤ vs
          · have hE : runB (cs.drop (k + 1)) (vs + 1 - operN cc.op) = runB cs 0 := by rw [HRUN.out, hf, if_pos ⟨rfl, hov⟩]
            have HE := Lib.hid hE
            clear hE hf
            have hov' : decide ((vs : Int) < (operN cc.op : Int)) = false := decide_eq_false (by omega)
            go_wp2_with fail
            refine (operands_any _ _).mono ?_
            rintro e w1 ⟨rfl, rfl⟩
            go_wp2_with fail
            refine (HFM.out _).mono ?_
            rintro e w2 ⟨rfl, hb2⟩
            have HB2 := Lib.hid hb2; clear hb2
            rw [HFF.out]
            go_wp2
            go_roundw
            case rel => exact ⟨rfl, k + 1, vs + 1 - operN cc.op, by omega, by omega, by go_num, by congr 1; omega, HE, (HBL.out.alloc HBL.out.size _).trans (HB2.out.mono (by have := HBL.out.size; simp; omega))⟩
            case measure => simp [intOf]; omega
          · have hE : runB cs 0 = none := by rw [HRUN.out, hf, if_neg (by simp; omega)]
            have HE := Lib.hid hE
            clear hE hf
            have hov' : (vs : Int) < (operN cc.op : Int) := by omega
            go_wp2_with fail
            refine (operands_any _ _).mono ?_
            rintro e w1 ⟨rfl, rfl⟩
            go_wp2_with fail
            refine (HFM.out _).mono ?_
            rintro e w2 ⟨rfl, hb2⟩
            have HB2 := Lib.hid hb2; clear hb2
            rw [HFF.out]
            go_wp2
            go_ret
            exact ⟨by rw [HE.out]; rfl, (HBL.out.alloc HBL.out.size _).trans (HB2.out.mono (by have := HBL.out.size; simp; omega))⟩
      · have hE : runB cs 0 = some vs := by
          rw [← HB.out, List.drop_of_length_le (by rw [HN.out]; omega)]; rfl
        have hE2 : (runB cs 0 == some 1) = ((vs : Int) == 1) := by
          rw [hE]
          by_cases h : vs = 1
          · subst h; rfl
          · rw [int_ne (show (vs : Int) ≠ 1 by omega)]; simp [h]
        have HE := Lib.hid hE2
        clear hE hE2
        go_wp2
        go_ret
        exact ⟨by rw [HE.out]; rfl, HBL.out⟩
end

section
set_option maxRecDepth 100000 in
set_option maxHeartbeats 4000000 in
theorem refOperands_any (c : CM) (w : World) (hl : c.nm.length ≤ 9223372036854775807) :
    Calls Try.prog 12 #[.agg #[.int .i64 c.op, .int .i64 c.a, bstr c.nm]] w fun e w' => e = .returned (.int .i64 (opsR c)) ∧ Below w.heap.size w w' := by
  obtain ⟨op, a, nm⟩ := c
  obtain ⟨X, hX⟩ : ∃ X : ByteArray, X = ⟨nm.toArray⟩ := ⟨_, rfl⟩
  have hXl : X.data.toList = nm := by rw [hX]
  have hb : bstr nm = .string X := by rw [hX]; rfl
  simp only at hl ⊢
  rw [hb]
  clear hb hX
  subst hXl
  rw [sz0] at hl
  have HB : Hid (∀ W : World, ∀ o : Obj, Below W.heap.size W (W.alloc o)) := fun W o => (Below.refl _ _).alloc (Nat.le_refl _) o
  have HN := Lib.hid (refName_any X)
  by_cases hx : X.size = 0
  · have hnil : X.data.toList = [] := List.eq_nil_of_length_eq_zero (by rw [sz0]; exact hx)
    have hx0 : decide ((0 : Int) < X.size) = false := decide_eq_false (by omega)
    have hx1 : decide (0 < X.size) = false := decide_eq_false (by omega)
    have hx2 : ¬ 0 < X.size := by omega
    have HNIL := Lib.hid hnil
    clear hx hl hnil
    rcases op_cases5 op with rfl | rfl | rfl | rfl | ⟨h1, h2, h5, h6⟩
    · by_cases ha : a < 0
      · have HR := Lib.hid (opsR_no (c := ⟨1, a, X.data.toList⟩) (by simp [formedB]; omega))
        go_enter Try.func12, Try.ntmps12
        go_wp2
        go_ret
        exact ⟨ret_int HR.out.symm, HB.out _ _⟩
      · have ha0 := decide_eq_false ha
        by_cases hb : 1099511627776 < a
        · have HR := Lib.hid (opsR_no (c := ⟨1, a, X.data.toList⟩) (by simp [formedB]; omega))
          go_enter Try.func12, Try.ntmps12
          go_wp2
          go_ret
          exact ⟨ret_int HR.out.symm, HB.out _ _⟩
        · have hb0 := decide_eq_false hb
          have HR := Lib.hid (opsR_yes (c := ⟨1, a, X.data.toList⟩) (by simp [formedB, HNIL.out]; omega))
          clear ha hb
          go_enter Try.func12, Try.ntmps12
          go_wp2
          go_ret
          exact ⟨ret_int HR.out.symm, HB.out _ _⟩
    · by_cases ha : a < 0
      · have HR := Lib.hid (opsR_no (c := ⟨2, a, X.data.toList⟩) (by simp [formedB]; omega))
        go_enter Try.func12, Try.ntmps12
        go_wp2
        go_ret
        exact ⟨ret_int HR.out.symm, HB.out _ _⟩
      · have ha0 := decide_eq_false ha
        by_cases hb : 1048576 < a
        · have HR := Lib.hid (opsR_no (c := ⟨2, a, X.data.toList⟩) (by simp [formedB]; omega))
          go_enter Try.func12, Try.ntmps12
          go_wp2
          go_ret
          exact ⟨ret_int HR.out.symm, HB.out _ _⟩
        · have hb0 := decide_eq_false hb
          have HR := Lib.hid (opsR_yes (c := ⟨2, a, X.data.toList⟩) (by simp [formedB, HNIL.out]; omega))
          clear ha hb
          go_enter Try.func12, Try.ntmps12
          go_wp2
          go_ret
          exact ⟨ret_int HR.out.symm, HB.out _ _⟩
    · have HR := Lib.hid (opsR_no (c := ⟨5, a, X.data.toList⟩) (by simp [formedB, HNIL.out, nameB]))
      go_enter Try.func12, Try.ntmps12
      go_wp2
      go_ret
      exact ⟨ret_int HR.out.symm, HB.out _ _⟩
    · have HR := Lib.hid (opsR_no (c := ⟨6, a, X.data.toList⟩) (by simp [formedB, HNIL.out, nameB]))
      go_enter Try.func12, Try.ntmps12
      go_wp2
      go_ret
      exact ⟨ret_int HR.out.symm, HB.out _ _⟩
    · have n1 := int_ne h1
      have n2 := int_ne h2
      have n5 := int_ne h5
      have n6 := int_ne h6
      have hF : formedB ⟨op, a, X.data.toList⟩ = (decide (1 ≤ op) && (decide (op ≤ 23) && decide (a = 0))) := by simp [formedB, h1, h2, h5, h6, HNIL.out]
      have HF := Lib.hid hF
      clear hF
      by_cases ha : a = 0
      · subst ha
        by_cases hlo : op < 1
        · have HR := Lib.hid (opsR_no (c := ⟨op, 0, X.data.toList⟩) (by rw [HF.out, decide_eq_false (by omega)]; rfl))
          go_enter Try.func12, Try.ntmps12
          go_wp2
          go_ret
          exact ⟨ret_int HR.out.symm, HB.out _ _⟩
        · have hlo0 := decide_eq_false hlo
          by_cases hhi : 23 < op
          · have HR := Lib.hid (opsR_no (c := ⟨op, 0, X.data.toList⟩) (by rw [HF.out, decide_eq_false (show ¬ op ≤ 23 by omega)]; simp))
            go_enter Try.func12, Try.ntmps12
            go_wp2
            go_ret
            exact ⟨ret_int HR.out.symm, HB.out _ _⟩
          · have hhi0 := decide_eq_false hhi
            have HR := Lib.hid (opsR_yes (c := ⟨op, 0, X.data.toList⟩) (by rw [HF.out, decide_eq_true (show 1 ≤ op by omega), decide_eq_true (show op ≤ 23 by omega)]; rfl))
            by_cases h6' : op ≤ 6
            · have HR2 : Hid (opsR ⟨op, 0, X.data.toList⟩ = 0) := by rw [HR.out]; unfold operN; rw [if_pos (by simp only; omega)]; exact rfl
              clear hlo hhi h1 h2 h5 h6
              go_enter Try.func12, Try.ntmps12
              go_wp2
              go_ret
              exact ⟨ret_int HR2.out.symm, HB.out _ _⟩
            · have h6d := decide_eq_false h6'
              by_cases h10 : op ≤ 10
              · have HR2 : Hid (opsR ⟨op, 0, X.data.toList⟩ = 1) := by rw [HR.out]; unfold operN; rw [if_neg (by simp only; omega), if_pos (by simp only; omega)]; exact rfl
                clear hlo hhi h6' h1 h2 h5 h6
                go_enter Try.func12, Try.ntmps12
                go_wp2
                go_ret
                exact ⟨ret_int HR2.out.symm, HB.out _ _⟩
              · have h10d := decide_eq_false h10
                have HR2 : Hid (opsR ⟨op, 0, X.data.toList⟩ = 2) := by rw [HR.out]; unfold operN; rw [if_neg (by simp only; omega), if_neg (by simp only; omega)]; exact rfl
                clear hlo hhi h6' h10 h1 h2 h5 h6
                go_enter Try.func12, Try.ntmps12
                go_wp2
                go_ret
                exact ⟨ret_int HR2.out.symm, HB.out _ _⟩
      · have ha0 : (a != 0) = true := bne_iff_ne.2 ha
        have HR := Lib.hid (opsR_no (c := ⟨op, a, X.data.toList⟩) (by rw [HF.out, decide_eq_false ha]; simp))
        clear ha
        go_enter Try.func12, Try.ntmps12
        go_wp2
        go_ret
        exact ⟨ret_int HR.out.symm, HB.out _ _⟩
  · have hx0 : (0 : Int) < X.size := by omega
    have hx1 : 0 < X.size := by omega
    have hne : X.data.toList ≠ [] := fun e => hx (by rw [← sz0, e]; rfl)
    have HNE := Lib.hid hne
    clear hx
    rcases op_cases5 op with rfl | rfl | rfl | rfl | ⟨h1, h2, h5, h6⟩
    · have HR := Lib.hid (opsR_no (c := ⟨1, a, X.data.toList⟩) (by simp [formedB, hne]))
      clear hne
      go_enter Try.func12, Try.ntmps12
      go_wp2
      go_ret
      exact ⟨ret_int HR.out.symm, HB.out _ _⟩
    · have HR := Lib.hid (opsR_no (c := ⟨2, a, X.data.toList⟩) (by simp [formedB, hne]))
      clear hne
      go_enter Try.func12, Try.ntmps12
      go_wp2
      go_ret
      exact ⟨ret_int HR.out.symm, HB.out _ _⟩
    · clear hne
      cases hn : nameB X.data.toList
      · have HNN := Lib.hid hn
        have HR := Lib.hid (opsR_no (c := ⟨5, a, X.data.toList⟩) (by simp [formedB, hn]))
        clear hn
        go_enter Try.func12, Try.ntmps12
        go_wp2_with fail
        refine (HN.out _).mono ?_
        rintro e w1 ⟨rfl, rfl⟩
        rw [HNN.out]
        go_wp2
        go_ret
        exact ⟨ret_int HR.out.symm, HB.out _ _⟩
      · have HNN := Lib.hid hn
        by_cases ha : a = 0
        · subst ha
          have HR := Lib.hid (opsR_yes (c := ⟨5, 0, X.data.toList⟩) (by simp [formedB, hn]))
          clear hn
          go_enter Try.func12, Try.ntmps12
          go_wp2_with fail
          refine (HN.out _).mono ?_
          rintro e w1 ⟨rfl, rfl⟩
          rw [HNN.out]
          go_wp2
          go_ret
          exact ⟨ret_int HR.out.symm, HB.out _ _⟩
        · have ha0 : (a != 0) = true := bne_iff_ne.2 ha
          have HR := Lib.hid (opsR_no (c := ⟨5, a, X.data.toList⟩) (by simp [formedB, ha]))
          clear hn ha
          go_enter Try.func12, Try.ntmps12
          go_wp2_with fail
          refine (HN.out _).mono ?_
          rintro e w1 ⟨rfl, rfl⟩
          rw [HNN.out]
          go_wp2
          go_ret
          exact ⟨ret_int HR.out.symm, HB.out _ _⟩
    · clear hne
      cases hn : nameB X.data.toList
      · have HNN := Lib.hid hn
        have HR := Lib.hid (opsR_no (c := ⟨6, a, X.data.toList⟩) (by simp [formedB, hn]))
        clear hn
        go_enter Try.func12, Try.ntmps12
        go_wp2_with fail
        refine (HN.out _).mono ?_
        rintro e w1 ⟨rfl, rfl⟩
        rw [HNN.out]
        go_wp2
        go_ret
        exact ⟨ret_int HR.out.symm, HB.out _ _⟩
      · have HNN := Lib.hid hn
        by_cases ha : a = 0
        · subst ha
          have HR := Lib.hid (opsR_yes (c := ⟨6, 0, X.data.toList⟩) (by simp [formedB, hn]))
          clear hn
          go_enter Try.func12, Try.ntmps12
          go_wp2_with fail
          refine (HN.out _).mono ?_
          rintro e w1 ⟨rfl, rfl⟩
          rw [HNN.out]
          go_wp2
          go_ret
          exact ⟨ret_int HR.out.symm, HB.out _ _⟩
        · have ha0 : (a != 0) = true := bne_iff_ne.2 ha
          have HR := Lib.hid (opsR_no (c := ⟨6, a, X.data.toList⟩) (by simp [formedB, ha]))
          clear hn ha
          go_enter Try.func12, Try.ntmps12
          go_wp2_with fail
          refine (HN.out _).mono ?_
          rintro e w1 ⟨rfl, rfl⟩
          rw [HNN.out]
          go_wp2
          go_ret
          exact ⟨ret_int HR.out.symm, HB.out _ _⟩
    · have n1 := int_ne h1
      have n2 := int_ne h2
      have n5 := int_ne h5
      have n6 := int_ne h6
      have HR := Lib.hid (opsR_no (c := ⟨op, a, X.data.toList⟩) (by simp [formedB, h1, h2, h5, h6, hne]))
      clear hne h1 h2 h5 h6
      go_enter Try.func12, Try.ntmps12
      go_wp2
      go_ret
      exact ⟨ret_int HR.out.symm, HB.out _ _⟩
end

section
set_option maxRecDepth 100000 in
set_option maxHeartbeats 2000000 in
theorem refRight_any (v : Value) (cs : List CM) (w : World) (hR : RdC w v cs) (hl : cs.length ≤ 4611686018427387904) (hN : Names cs) :
    Calls Try.prog 14 #[v] w fun e w' => e = .returned (.bool (rightB cs)) ∧ Below w.heap.size w w' := by
  obtain ⟨A, c, rfl, hr⟩ := hR
  have HR := Lib.hid hr; clear hr
  have HNM := Lib.hid hN; clear hN
  obtain ⟨n, hn⟩ : ∃ n, cs.length = n := ⟨_, rfl⟩
  have HN := Lib.hid hn
  rw [hn] at hl ⊢
  clear hn
  have HNO : Hid (runB cs 0 = none → rightB cs = false) := by
    intro h
    unfold rightB; rw [h]; simp
  have HLO : Hid (32 < n → rightB cs = false) := by
    intro h
    unfold rightB; rw [HN.out, decide_eq_false (by omega)]; rfl
  have HYE : Hid (∀ vs, n ≤ 32 → runB cs 0 = some vs → rightB cs = ((vs : Int) == 1)) := by
    intro vs h1 h2
    unfold rightB; rw [HN.out, decide_eq_true h1, h2]
    by_cases h : vs = 1
    · subst h; rfl
    · rw [int_ne (show (vs : Int) ≠ 1 by omega)]; simp [h]
  go_enter Try.func14, Try.ntmps14
  go_wp2
  go_loopw [2, 3, 4] (fun x2 vv i wr => x2 = .bool false ∧ ∃ k vs : Nat, k ≤ n ∧ k ≤ 32 ∧ vs ≤ k ∧ i = .int .i64 k ∧ vv = .int .i64 vs ∧ Hid (runB (cs.drop k) vs = runB cs 0) ∧ Below w.heap.size w wr) (fun _ _ i _ => n - (intOf i).toNat)
  case atStart => exact ⟨rfl, 0, 0, by omega, by omega, by omega, rfl, rfl, rfl, Below.refl _ _⟩
  case round =>
    obtain ⟨rfl, k, vs, hk, hk32, hvs, rfl, rfl, HB, hb⟩ := hrel
    have HBL := Lib.hid hb
    by_cases hkn : k < n
    · obtain ⟨b, o, rfl, d0, d1, d2⟩ := HR.out k (by rw [HN.out]; exact hkn)
      have hrun := run_at (cs := cs) (k := k) (v := vs) (by rw [HN.out]; exact hkn)
      rw [HB.out] at hrun
      have hnm := HNM.out (cs[k]'(by rw [HN.out]; exact hkn)) (List.getElem_mem _)
      obtain ⟨cc, hcc⟩ : ∃ cc, cs[k]'(by rw [HN.out]; exact hkn) = cc := ⟨_, rfl⟩
      rw [hcc] at d0 d1 d2 hrun hnm
      have e0 := (hb.cell (cell_lt d0)).trans d0
      have e1 := (hb.cell (cell_lt d1)).trans d1
      have e2 := (hb.cell (cell_lt d2)).trans d2
      have hon := operN_le cc.op
      obtain ⟨X, hX⟩ : ∃ X : ByteArray, bstr cc.nm = .string X := ⟨_, rfl⟩
      have hfm := fun W => refOperands_any cc W hnm
      rw [hX] at e2 hfm
      have HFM := Lib.hid hfm
      have HRUN := Lib.hid hrun
      clear d0 d1 d2 hcc hrun hb hX hfm hnm
      cases hf : formedB cc
      · have HFF := Lib.hid (opsR_no hf)
        have HE := Lib.hid (HNO.out (by rw [HRUN.out, hf, if_neg (by simp)]))
        clear hf
        go_wp2_with fail
        refine (HFM.out _).mono ?_
        rintro e w2 ⟨rfl, hb2⟩
        have HB2 := Lib.hid hb2; clear hb2
        rw [HFF.out]
        go_wp2
        go_ret
        exact ⟨ret_bool HE.out.symm, HBL.out.trans (HB2.out.mono HBL.out.size)⟩
      · have HFF := Lib.hid (opsR_yes hf)
        by_cases hov : operN cc.op ≤ vs
        · have hov' : decide ((vs : Int) < (operN cc.op : Int)) = false := decide_eq_false (by omega)
          have hov2 : decide (vs < operN cc.op) = false := decide_eq_false (by omega)
          have hneg : decide ((operN cc.op : Int) < 0) = false := decide_eq_false (by omega)
          by_cases h32 : k < 32
          · have hE : runB (cs.drop (k + 1)) (vs + 1 - operN cc.op) = runB cs 0 := by rw [HRUN.out, hf, if_pos ⟨rfl, hov⟩]
            have HE := Lib.hid hE
            clear hE hf
            have h32' : decide ((32 : Int) ≤ (k : Int)) = false := decide_eq_false (by omega)
            have h32'' : decide (32 ≤ k) = false := decide_eq_false (by omega)
            go_wp2_with fail
            refine (HFM.out _).mono ?_
            rintro e w2 ⟨rfl, hb2⟩
            have HB2 := Lib.hid hb2; clear hb2
            rw [HFF.out]
            go_wp2
            go_roundw
            case rel => exact ⟨rfl, k + 1, vs + 1 - operN cc.op, by omega, by omega, by omega, by go_num, by congr 1; omega, HE, HBL.out.trans (HB2.out.mono HBL.out.size)⟩
            case measure => simp [intOf]; omega
          · have HE := Lib.hid (HLO.out (by omega))
            have h32' : (32 : Int) ≤ (k : Int) := by omega
            clear hf h32
            go_wp2_with fail
            refine (HFM.out _).mono ?_
            rintro e w2 ⟨rfl, hb2⟩
            have HB2 := Lib.hid hb2; clear hb2
            rw [HFF.out]
            go_wp2
            go_ret
            exact ⟨ret_bool HE.out.symm, HBL.out.trans (HB2.out.mono HBL.out.size)⟩
        · have HE := Lib.hid (HNO.out (by rw [HRUN.out, hf, if_neg (by simp; omega)]))
          have hov' : (vs : Int) < (operN cc.op : Int) := by omega
          have hneg : decide ((operN cc.op : Int) < 0) = false := decide_eq_false (by omega)
          clear hf
          go_wp2_with fail
          refine (HFM.out _).mono ?_
          rintro e w2 ⟨rfl, hb2⟩
          have HB2 := Lib.hid hb2; clear hb2
          rw [HFF.out]
          go_wp2
          go_ret
          exact ⟨ret_bool HE.out.symm, HBL.out.trans (HB2.out.mono HBL.out.size)⟩
    · have hE : runB cs 0 = some vs := by
        rw [← HB.out, List.drop_of_length_le (by rw [HN.out]; omega)]; rfl
      have HE := Lib.hid (HYE.out vs (by omega) hE)
      clear hE
      go_wp2
      go_ret
      exact ⟨ret_bool HE.out.symm, HBL.out⟩
end

section
set_option maxRecDepth 100000 in
set_option maxHeartbeats 2000000 in
theorem begin_any (v : Value) (cs : List CM) (w : World) (hR : RdC w v cs) (hF : ∀ c ∈ cs, formedB c = true) (hl : cs.length ≤ 32) (p e : Nat) (he : e < cs.length) (hp : p ≤ e) (hb : begN (cs.take (e + 1)).reverse 1 = e + 1 - p) :
    Calls Try.prog 13 #[v, .int .i64 e] w fun x w' => x = .returned (.int .i64 p) ∧ Below w.heap.size w w' := by
  obtain ⟨A, c, rfl, hr⟩ := hR
  have HR := Lib.hid hr; have HF := Lib.hid hF; have HBEG := Lib.hid hb; clear hr hF hb
  obtain ⟨n, hn⟩ : ∃ n, cs.length = n := ⟨_, rfl⟩
  have HN := Lib.hid hn
  rw [hn] at hl he ⊢
  clear hn
  go_enter Try.func13, Try.ntmps13
  go_wp2
  go_loopw [4, 5, 6] (fun x4 want i wr => x4 = .int .i64 0 ∧ ∃ k vs : Nat, k ≤ e ∧ p ≤ k ∧ 1 ≤ vs ∧ vs + k ≤ e + 1 ∧ want = .int .i64 vs ∧ i = .int .i64 k ∧ Hid (begN (cs.take (k + 1)).reverse vs = k + 1 - p) ∧ Below w.heap.size w wr) (fun _ _ i _ => (intOf i).toNat)
  case atStart => exact ⟨rfl, e, 1, by omega, hp, by omega, by omega, rfl, rfl, HBEG, Below.refl _ _⟩
  case round =>
    obtain ⟨rfl, k, vs, hke, hpk, hv1, hvk, rfl, rfl, HB, hb⟩ := hrel
    have HBL := Lib.hid hb
    have hkn : k < n := by omega
    obtain ⟨b, o, rfl, d0, d1, d2⟩ := HR.out k (by rw [HN.out]; exact hkn)
    have hstep := beg_step (cs := cs) (k := k) (v := vs) (p := p) (by rw [HN.out]; exact hkn) hpk HB.out
    have hfm := HF.out (cs[k]'(by rw [HN.out]; exact hkn)) (List.getElem_mem _)
    obtain ⟨cc, hcc⟩ : ∃ cc, cs[k]'(by rw [HN.out]; exact hkn) = cc := ⟨_, rfl⟩
    rw [hcc] at d0 d1 d2 hstep hfm
    have hnm := formed_name hfm
    have e0 := (hb.cell (cell_lt d0)).trans d0
    have e1 := (hb.cell (cell_lt d1)).trans d1
    have e2 := (hb.cell (cell_lt d2)).trans d2
    have hon := operN_le cc.op
    obtain ⟨X, hX⟩ : ∃ X : ByteArray, bstr cc.nm = .string X := ⟨_, rfl⟩
    have hops := fun W => refOperands_any cc W (by omega)
    rw [hX, opsR_yes hfm] at hops
    rw [hX] at e2
    have HOP := Lib.hid hops
    have HST := Lib.hid hstep
    clear d0 d1 d2 hcc hb hX hfm hops hstep hnm
    generalize operN cc.op = on at *
    by_cases hz : vs - 1 + on = 0
    · have hkp := Lib.hid (HST.out.1 hz)
      have hz' : ((vs : Int) - 1 + (on : Int) == 0) = true := by simp; omega
      clear hz
      go_wp2_with fail
      refine (HOP.out _).mono ?_
      rintro x w2 ⟨rfl, hb2⟩
      have HB2 := Lib.hid (HBL.out.trans (hb2.mono HBL.out.size)); clear hb2
      go_wp2
      go_ret
      exact ⟨ret_int (show (k : Int) = (p : Int) by rw [hkp.out]), HB2.out⟩
    · obtain ⟨hkp, hnx⟩ := HST.out.2 hz
      have HNX := Lib.hid hnx
      have hz' : ((vs : Int) - 1 + (on : Int) == 0) = false := by simp; omega
      have hv1' : 1 ≤ vs - 1 + on := by omega
      clear hz hnx
      go_wp2_with fail
      refine (HOP.out _).mono ?_
      rintro x w2 ⟨rfl, hb2⟩
      have HB2 := Lib.hid (HBL.out.trans (hb2.mono HBL.out.size)); clear hb2
      go_wp2
      go_roundw
      case rel => exact ⟨rfl, k - 1, vs - 1 + on, by omega, by omega, by omega, by omega, by congr 1; omega, by congr 1; omega, HNX, HB2.out⟩
      case measure => simp [intOf]; omega
end
end Go.Proofs.Ytmpelnbhlhifeaa
