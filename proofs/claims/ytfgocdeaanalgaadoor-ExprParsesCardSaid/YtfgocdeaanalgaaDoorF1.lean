/- The document's Operands, Right. -/
import Derived.Test.YtfgocdeaanalgaaDoorEu
namespace Go.Proofs.YtfgocdeaanalgaaDoor
open Go.RowKit

theorem op_cases5 (op : Int) : op = 1 ∨ op = 2 ∨ op = 5 ∨ op = 6 ∨ (op ≠ 1 ∧ op ≠ 2 ∧ op ≠ 5 ∧ op ≠ 6) := by omega
/-- the document's count of operands; -1: none -/
def opsR (c : CM) : Int := if formedB c = true then operN c.op else -1
theorem opsR_no {c : CM} (h : formedB c = false) : opsR c = -1 := by unfold opsR; rw [h]; rfl
theorem opsR_yes {c : CM} (h : formedB c = true) : opsR c = operN c.op := by unfold opsR; rw [if_pos h]
theorem ret_int {k : IntKind} {a b : Int} (h : a = b) : Ending.returned (.int k a) = .returned (.int k b) := by rw [h]

set_option maxRecDepth 100000 in
set_option maxHeartbeats 4000000 in
theorem refOperands_any (c : CM) (w : World) (hl : c.nm.length ≤ 9223372036854775807) :
    Calls Tryd.prog 20 #[.agg #[.int .i64 c.op, .int .i64 c.a, bstr c.nm]] w fun e w' => e = .returned (.int .i64 (opsR c)) ∧ Below w.heap.size w w' := by
  obtain ⟨op, a, nm⟩ := c
  obtain ⟨X, hX⟩ : ∃ X : ByteArray, X = ⟨nm.toArray⟩ := ⟨_, rfl⟩
  have hXl : X.data.toList = nm := by rw [hX]
  have hb : bstr nm = .string X := by rw [hX]; rfl
  simp only at hl ⊢
  rw [hb]
  clear hb hX
  subst hXl
  rw [sz0] at hl
  have HB : Hid (∀ W : World, ∀ o : Obj, Below W.heap.size W (W.alloc o)) := fun W o => (Below.refl _ _).alloc (Nat.le_refl _) o
  have HN := Lib.hid (refName_any X)
  by_cases hx : X.size = 0
  · have hnil : X.data.toList = [] := List.eq_nil_of_length_eq_zero (by rw [sz0]; exact hx)
    have hx0 : decide ((0 : Int) < X.size) = false := decide_eq_false (by omega)
    have hx1 : decide (0 < X.size) = false := decide_eq_false (by omega)
    have hx2 : ¬ 0 < X.size := by omega
    have HNIL := Lib.hid hnil
    clear hx hl hnil
    rcases op_cases5 op with rfl | rfl | rfl | rfl | ⟨h1, h2, h5, h6⟩
    · by_cases ha : a < 0
      · have HR := Lib.hid (opsR_no (c := ⟨1, a, X.data.toList⟩) (by simp [formedB]; omega))
        go_enter Tryd.func20, Tryd.ntmps20
        go_wp2
        go_ret
        exact ⟨ret_int HR.out.symm, HB.out _ _⟩
      · have ha0 := decide_eq_false ha
        by_cases hb : 1099511627776 < a
        · have HR := Lib.hid (opsR_no (c := ⟨1, a, X.data.toList⟩) (by simp [formedB]; omega))
          go_enter Tryd.func20, Tryd.ntmps20
          go_wp2
          go_ret
          exact ⟨ret_int HR.out.symm, HB.out _ _⟩
        · have hb0 := decide_eq_false hb
          have HR := Lib.hid (opsR_yes (c := ⟨1, a, X.data.toList⟩) (by simp [formedB, HNIL.out]; omega))
          clear ha hb
          go_enter Tryd.func20, Tryd.ntmps20
          go_wp2
          go_ret
          exact ⟨ret_int HR.out.symm, HB.out _ _⟩
    · by_cases ha : a < 0
      · have HR := Lib.hid (opsR_no (c := ⟨2, a, X.data.toList⟩) (by simp [formedB]; omega))
        go_enter Tryd.func20, Tryd.ntmps20
        go_wp2
        go_ret
        exact ⟨ret_int HR.out.symm, HB.out _ _⟩
      · have ha0 := decide_eq_false ha
        by_cases hb : 1048576 < a
        · have HR := Lib.hid (opsR_no (c := ⟨2, a, X.data.toList⟩) (by simp [formedB]; omega))
          go_enter Tryd.func20, Tryd.ntmps20
          go_wp2
          go_ret
          exact ⟨ret_int HR.out.symm, HB.out _ _⟩
        · have hb0 := decide_eq_false hb
          have HR := Lib.hid (opsR_yes (c := ⟨2, a, X.data.toList⟩) (by simp [formedB, HNIL.out]; omega))
          clear ha hb
          go_enter Tryd.func20, Tryd.ntmps20
          go_wp2
          go_ret
          exact ⟨ret_int HR.out.symm, HB.out _ _⟩
    · have HR := Lib.hid (opsR_no (c := ⟨5, a, X.data.toList⟩) (by simp [formedB, HNIL.out, nameB]))
      go_enter Tryd.func20, Tryd.ntmps20
      go_wp2
      go_ret
      exact ⟨ret_int HR.out.symm, HB.out _ _⟩
    · have HR := Lib.hid (opsR_no (c := ⟨6, a, X.data.toList⟩) (by simp [formedB, HNIL.out, nameB]))
      go_enter Tryd.func20, Tryd.ntmps20
      go_wp2
      go_ret
      exact ⟨ret_int HR.out.symm, HB.out _ _⟩
    · have n1 := int_ne h1
      have n2 := int_ne h2
      have n5 := int_ne h5
      have n6 := int_ne h6
      have hF : formedB ⟨op, a, X.data.toList⟩ = (decide (1 ≤ op) && (decide (op ≤ 23) && decide (a = 0))) := by simp [formedB, h1, h2, h5, h6, HNIL.out]
      have HF := Lib.hid hF
      clear hF
      by_cases ha : a = 0
      · subst ha
        by_cases hlo : op < 1
        · have HR := Lib.hid (opsR_no (c := ⟨op, 0, X.data.toList⟩) (by rw [HF.out, decide_eq_false (by omega)]; rfl))
          go_enter Tryd.func20, Tryd.ntmps20
          go_wp2
          go_ret
          exact ⟨ret_int HR.out.symm, HB.out _ _⟩
        · have hlo0 := decide_eq_false hlo
          by_cases hhi : 23 < op
          · have HR := Lib.hid (opsR_no (c := ⟨op, 0, X.data.toList⟩) (by rw [HF.out, decide_eq_false (show ¬ op ≤ 23 by omega)]; simp))
            go_enter Tryd.func20, Tryd.ntmps20
            go_wp2
            go_ret
            exact ⟨ret_int HR.out.symm, HB.out _ _⟩
          · have hhi0 := decide_eq_false hhi
            have HR := Lib.hid (opsR_yes (c := ⟨op, 0, X.data.toList⟩) (by rw [HF.out, decide_eq_true (show 1 ≤ op by omega), decide_eq_true (show op ≤ 23 by omega)]; rfl))
            by_cases h6' : op ≤ 6
            · have HR2 : Hid (opsR ⟨op, 0, X.data.toList⟩ = 0) := by rw [HR.out]; unfold operN; rw [if_pos (by simp only; omega)]; exact rfl
              clear hlo hhi h1 h2 h5 h6
              go_enter Tryd.func20, Tryd.ntmps20
              go_wp2
              go_ret
              exact ⟨ret_int HR2.out.symm, HB.out _ _⟩
            · have h6d := decide_eq_false h6'
              by_cases h10 : op ≤ 10
              · have HR2 : Hid (opsR ⟨op, 0, X.data.toList⟩ = 1) := by rw [HR.out]; unfold operN; rw [if_neg (by simp only; omega), if_pos (by simp only; omega)]; exact rfl
                clear hlo hhi h6' h1 h2 h5 h6
                go_enter Tryd.func20, Tryd.ntmps20
                go_wp2
                go_ret
                exact ⟨ret_int HR2.out.symm, HB.out _ _⟩
              · have h10d := decide_eq_false h10
                have HR2 : Hid (opsR ⟨op, 0, X.data.toList⟩ = 2) := by rw [HR.out]; unfold operN; rw [if_neg (by simp only; omega), if_neg (by simp only; omega)]; exact rfl
                clear hlo hhi h6' h10 h1 h2 h5 h6
                go_enter Tryd.func20, Tryd.ntmps20
                go_wp2
                go_ret
                exact ⟨ret_int HR2.out.symm, HB.out _ _⟩
      · have ha0 : (a != 0) = true := bne_iff_ne.2 ha
        have HR := Lib.hid (opsR_no (c := ⟨op, a, X.data.toList⟩) (by rw [HF.out, decide_eq_false ha]; simp))
        clear ha
        go_enter Tryd.func20, Tryd.ntmps20
        go_wp2
        go_ret
        exact ⟨ret_int HR.out.symm, HB.out _ _⟩
  · have hx0 : (0 : Int) < X.size := by omega
    have hx1 : 0 < X.size := by omega
    have hne : X.data.toList ≠ [] := fun e => hx (by rw [← sz0, e]; rfl)
    have HNE := Lib.hid hne
    clear hx
    rcases op_cases5 op with rfl | rfl | rfl | rfl | ⟨h1, h2, h5, h6⟩
    · have HR := Lib.hid (opsR_no (c := ⟨1, a, X.data.toList⟩) (by simp [formedB, hne]))
      clear hne
      go_enter Tryd.func20, Tryd.ntmps20
      go_wp2
      go_ret
      exact ⟨ret_int HR.out.symm, HB.out _ _⟩
    · have HR := Lib.hid (opsR_no (c := ⟨2, a, X.data.toList⟩) (by simp [formedB, hne]))
      clear hne
      go_enter Tryd.func20, Tryd.ntmps20
      go_wp2
      go_ret
      exact ⟨ret_int HR.out.symm, HB.out _ _⟩
    · clear hne
      cases hn : nameB X.data.toList
      · have HNN := Lib.hid hn
        have HR := Lib.hid (opsR_no (c := ⟨5, a, X.data.toList⟩) (by simp [formedB, hn]))
        clear hn
        go_enter Tryd.func20, Tryd.ntmps20
        go_wp2_with fail
        refine (HN.out _).mono ?_
        rintro e w1 ⟨rfl, rfl⟩
        rw [HNN.out]
        go_wp2
        go_ret
        exact ⟨ret_int HR.out.symm, HB.out _ _⟩
      · have HNN := Lib.hid hn
        by_cases ha : a = 0
        · subst ha
          have HR := Lib.hid (opsR_yes (c := ⟨5, 0, X.data.toList⟩) (by simp [formedB, hn]))
          clear hn
          go_enter Tryd.func20, Tryd.ntmps20
          go_wp2_with fail
          refine (HN.out _).mono ?_
          rintro e w1 ⟨rfl, rfl⟩
          rw [HNN.out]
          go_wp2
          go_ret
          exact ⟨ret_int HR.out.symm, HB.out _ _⟩
        · have ha0 : (a != 0) = true := bne_iff_ne.2 ha
          have HR := Lib.hid (opsR_no (c := ⟨5, a, X.data.toList⟩) (by simp [formedB, ha]))
          clear hn ha
          go_enter Tryd.func20, Tryd.ntmps20
          go_wp2_with fail
          refine (HN.out _).mono ?_
          rintro e w1 ⟨rfl, rfl⟩
          rw [HNN.out]
          go_wp2
          go_ret
          exact ⟨ret_int HR.out.symm, HB.out _ _⟩
    · clear hne
      cases hn : nameB X.data.toList
      · have HNN := Lib.hid hn
        have HR := Lib.hid (opsR_no (c := ⟨6, a, X.data.toList⟩) (by simp [formedB, hn]))
        clear hn
        go_enter Tryd.func20, Tryd.ntmps20
        go_wp2_with fail
        refine (HN.out _).mono ?_
        rintro e w1 ⟨rfl, rfl⟩
        rw [HNN.out]
        go_wp2
        go_ret
        exact ⟨ret_int HR.out.symm, HB.out _ _⟩
      · have HNN := Lib.hid hn
        by_cases ha : a = 0
        · subst ha
          have HR := Lib.hid (opsR_yes (c := ⟨6, 0, X.data.toList⟩) (by simp [formedB, hn]))
          clear hn
          go_enter Tryd.func20, Tryd.ntmps20
          go_wp2_with fail
          refine (HN.out _).mono ?_
          rintro e w1 ⟨rfl, rfl⟩
          rw [HNN.out]
          go_wp2
          go_ret
          exact ⟨ret_int HR.out.symm, HB.out _ _⟩
        · have ha0 : (a != 0) = true := bne_iff_ne.2 ha
          have HR := Lib.hid (opsR_no (c := ⟨6, a, X.data.toList⟩) (by simp [formedB, ha]))
          clear hn ha
          go_enter Tryd.func20, Tryd.ntmps20
          go_wp2_with fail
          refine (HN.out _).mono ?_
          rintro e w1 ⟨rfl, rfl⟩
          rw [HNN.out]
          go_wp2
          go_ret
          exact ⟨ret_int HR.out.symm, HB.out _ _⟩
    · have n1 := int_ne h1
      have n2 := int_ne h2
      have n5 := int_ne h5
      have n6 := int_ne h6
      have HR := Lib.hid (opsR_no (c := ⟨op, a, X.data.toList⟩) (by simp [formedB, h1, h2, h5, h6, hne]))
      clear hne h1 h2 h5 h6
      go_enter Tryd.func20, Tryd.ntmps20
      go_wp2
      go_ret
      exact ⟨ret_int HR.out.symm, HB.out _ _⟩
end Go.Proofs.YtfgocdeaanalgaaDoor
