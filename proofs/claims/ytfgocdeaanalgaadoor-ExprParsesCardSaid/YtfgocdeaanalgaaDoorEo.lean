/- expr.operands and expr.formed. -/
import Derived.Test.YtfgocdeaanalgaaDoorEf
namespace Go.Proofs.YtfgocdeaanalgaaDoor
open Go.RowKit

/-- how many operands a cell wants -/
def operN (op : Int) : Nat := if 1 ≤ op ∧ op ≤ 6 then 0 else if 7 ≤ op ∧ op ≤ 10 then 1 else 2
def formedB (c : CM) : Bool :=
  if c.op = 1 then decide (c.nm = []) && (decide (0 ≤ c.a) && decide (c.a ≤ 1099511627776))
  else if c.op = 2 then decide (c.nm = []) && (decide (0 ≤ c.a) && decide (c.a ≤ 1048576))
  else if c.op = 5 ∨ c.op = 6 then decide (c.a = 0) && nameB c.nm
  else decide (1 ≤ c.op) && (decide (c.op ≤ 23) && (decide (c.a = 0) && decide (c.nm = [])))

theorem op_cases (op : Int) : op = 1 ∨ op = 2 ∨ op = 3 ∨ op = 4 ∨ op = 5 ∨ op = 6 ∨ op = 7 ∨ op = 8 ∨ op = 9 ∨ op = 10 ∨ (¬ (1 ≤ op ∧ op ≤ 10)) := by omega
theorem int_ne {a b : Int} (h : a ≠ b) : (a == b) = false := beq_eq_false_iff_ne.2 h

theorem operands_any (op : Int) (w : World) :
    Calls Tryd.prog 18 #[.int .i64 op] w fun e w' => e = .returned (.int .i64 (operN op)) ∧ w = w' := by
  rcases op_cases op with h | h | h | h | h | h | h | h | h | h | h
  · subst h
    go_enter Tryd.func18, Tryd.ntmps18
    go_wp2
    go_ret
    exact ⟨rfl, rfl⟩
  · subst h
    go_enter Tryd.func18, Tryd.ntmps18
    go_wp2
    go_ret
    exact ⟨rfl, rfl⟩
  · subst h
    go_enter Tryd.func18, Tryd.ntmps18
    go_wp2
    go_ret
    exact ⟨rfl, rfl⟩
  · subst h
    go_enter Tryd.func18, Tryd.ntmps18
    go_wp2
    go_ret
    exact ⟨rfl, rfl⟩
  · subst h
    go_enter Tryd.func18, Tryd.ntmps18
    go_wp2
    go_ret
    exact ⟨rfl, rfl⟩
  · subst h
    go_enter Tryd.func18, Tryd.ntmps18
    go_wp2
    go_ret
    exact ⟨rfl, rfl⟩
  · subst h
    go_enter Tryd.func18, Tryd.ntmps18
    go_wp2
    go_ret
    exact ⟨rfl, rfl⟩
  · subst h
    go_enter Tryd.func18, Tryd.ntmps18
    go_wp2
    go_ret
    exact ⟨rfl, rfl⟩
  · subst h
    go_enter Tryd.func18, Tryd.ntmps18
    go_wp2
    go_ret
    exact ⟨rfl, rfl⟩
  · subst h
    go_enter Tryd.func18, Tryd.ntmps18
    go_wp2
    go_ret
    exact ⟨rfl, rfl⟩
  have hN : operN op = 2 := by unfold operN; rw [if_neg (by omega), if_neg (by omega)]
  rw [hN]; clear hN
  have t1 := int_ne (a := op) (b := 1) (by omega)
  have t2 := int_ne (a := op) (b := 2) (by omega)
  have t3 := int_ne (a := op) (b := 3) (by omega)
  have t4 := int_ne (a := op) (b := 4) (by omega)
  have t5 := int_ne (a := op) (b := 5) (by omega)
  have t6 := int_ne (a := op) (b := 6) (by omega)
  have t7 := int_ne (a := op) (b := 7) (by omega)
  have t8 := int_ne (a := op) (b := 8) (by omega)
  have t9 := int_ne (a := op) (b := 9) (by omega)
  have t10 := int_ne (a := op) (b := 10) (by omega)
  clear h
  go_enter Tryd.func18, Tryd.ntmps18
  go_wp2
  go_ret
  exact ⟨rfl, rfl⟩

theorem ret_b {a b : Bool} (h : a = b) {P : Prop} (hp : P) : Ending.returned (.bool a) = .returned (.bool b) ∧ P := ⟨by rw [h], hp⟩

set_option maxHeartbeats 2000000 in
theorem formed_any (c : CM) (w : World) :
    Calls Tryd.prog 19 #[.agg #[.int .i64 c.op, .int .i64 c.a, bstr c.nm]] w fun e w' => e = .returned (.bool (formedB c)) ∧ Below w.heap.size w w' := by
  obtain ⟨op, a, nm⟩ := c
  obtain ⟨X, hX⟩ : ∃ X : ByteArray, X = ⟨nm.toArray⟩ := ⟨_, rfl⟩
  have hXl : X.data.toList = nm := by rw [hX]
  have hb : bstr nm = .string X := by rw [hX]; rfl
  simp only
  rw [hb]
  clear hb hX
  subst hXl
  have HBox : ∀ W : World, ∀ o : Obj, Below W.heap.size W (W.alloc o) := fun W o => (Below.refl _ _).alloc (Nat.le_refl _) o
  have HB := Lib.hid HBox; clear HBox
  by_cases h1 : op = 1
  · subst h1
    have hF : formedB ⟨1, a, X.data.toList⟩ = (decide (X.data.toList = []) && (decide (0 ≤ a) && decide (a ≤ 1099511627776))) := rfl
    rw [hF]; clear hF
    rw [← Lib.toList_data]
    by_cases hn : X.toList = []
    · have hne : X.toList.isEmpty = true := by rw [hn]; rfl
      rw [decide_eq_true hn]
      clear hn
      by_cases ha : 0 ≤ a
      · by_cases hb : a ≤ 1099511627776
        · rw [decide_eq_true ha, decide_eq_true hb]
          go_enter Tryd.func19, Tryd.ntmps19
          go_wp2
          go_ret
          exact ⟨rfl, HB.out _ _⟩
        · rw [decide_eq_true ha, decide_eq_false hb]
          have hb' := decide_eq_false hb
          clear hb
          go_enter Tryd.func19, Tryd.ntmps19
          go_wp2
          go_ret
          exact ⟨rfl, HB.out _ _⟩
      · rw [decide_eq_false ha]
        have ha' := decide_eq_false ha
        clear ha
        go_enter Tryd.func19, Tryd.ntmps19
        go_wp2
        go_ret
        exact ⟨rfl, HB.out _ _⟩
    · have hne : X.toList.isEmpty = false := by
        cases h : X.toList with
        | nil => exact absurd h hn
        | cons _ _ => rfl
      rw [decide_eq_false hn]
      go_enter Tryd.func19, Tryd.ntmps19
      go_wp2
      go_ret
      exact ⟨rfl, HB.out _ _⟩
  · by_cases h2 : op = 2
    · subst h2
      have hF : formedB ⟨2, a, X.data.toList⟩ = (decide (X.data.toList = []) && (decide (0 ≤ a) && decide (a ≤ 1048576))) := rfl
      rw [hF]; clear hF
      rw [← Lib.toList_data]
      by_cases hn : X.toList = []
      · have hne : X.toList.isEmpty = true := by rw [hn]; rfl
        rw [decide_eq_true hn]
        clear hn
        by_cases ha : 0 ≤ a
        · by_cases hb : a ≤ 1048576
          · rw [decide_eq_true ha, decide_eq_true hb]
            go_enter Tryd.func19, Tryd.ntmps19
            go_wp2
            go_ret
            exact ⟨rfl, HB.out _ _⟩
          · rw [decide_eq_true ha, decide_eq_false hb]
            have hb' := decide_eq_false hb
            clear hb
            go_enter Tryd.func19, Tryd.ntmps19
            go_wp2
            go_ret
            exact ⟨rfl, HB.out _ _⟩
        · rw [decide_eq_false ha]
          have ha' := decide_eq_false ha
          clear ha
          go_enter Tryd.func19, Tryd.ntmps19
          go_wp2
          go_ret
          exact ⟨rfl, HB.out _ _⟩
      · have hne : X.toList.isEmpty = false := by
          cases h : X.toList with
          | nil => exact absurd h hn
          | cons _ _ => rfl
        rw [decide_eq_false hn]
        go_enter Tryd.func19, Tryd.ntmps19
        go_wp2
        go_ret
        exact ⟨rfl, HB.out _ _⟩
    · by_cases h56 : op = 5 ∨ op = 6
      · have hF : formedB ⟨op, a, X.data.toList⟩ = (decide (a = 0) && nameB X.data.toList) := by
          unfold formedB
          simp only
          rw [if_neg h1, if_neg h2, if_pos h56]
        rw [hF]; clear hF
        have HN := Lib.hid (name_any X)
        by_cases ha : a = 0
        · subst ha
          cases hn : nameB X.data.toList
          all_goals
            have HNN := Lib.hid hn
            clear hn
            rcases h56 with h | h
          all_goals
            subst h
            clear h1 h2
            go_enter Tryd.func19, Tryd.ntmps19
            go_wp2_with fail
            refine (HN.out _).mono ?_
            rintro e w1 ⟨rfl, rfl⟩
            rw [HNN.out]
            go_wp2
            go_ret
            exact ⟨rfl, HB.out _ _⟩
        · have ha' := int_ne ha
          rw [decide_eq_false ha]
          clear ha
          rcases h56 with h | h
          all_goals
            subst h
            clear h1 h2
            go_enter Tryd.func19, Tryd.ntmps19
            go_wp2
            go_ret
            exact ⟨rfl, HB.out _ _⟩
      · have hF : formedB ⟨op, a, X.data.toList⟩ = (decide (1 ≤ op) && (decide (op ≤ 23) && (decide (a = 0) && decide (X.data.toList = [])))) := by
          unfold formedB
          simp only
          rw [if_neg h1, if_neg h2, if_neg h56]
        rw [hF]; clear hF
        rw [← Lib.toList_data]
        have t1 := int_ne h1
        have t2 := int_ne h2
        have t5 := int_ne (a := op) (b := 5) (fun e => h56 (Or.inl e))
        have t6 := int_ne (a := op) (b := 6) (fun e => h56 (Or.inr e))
        clear h1 h2 h56
        by_cases h1 : 1 ≤ op
        · rw [decide_eq_true h1]
          by_cases h23 : op ≤ 23
          · rw [decide_eq_true h23]
            by_cases ha : a = 0
            · subst ha
              by_cases hn : X.toList = []
              · have hne : X.toList.isEmpty = true := by rw [hn]; rfl
                rw [decide_eq_true hn]
                clear hn
                go_enter Tryd.func19, Tryd.ntmps19
                go_wp2
                go_ret
                exact ⟨rfl, HB.out _ _⟩
              · have hne : X.toList.isEmpty = false := by
                  cases h : X.toList with
                  | nil => exact absurd h hn
                  | cons _ _ => rfl
                rw [decide_eq_false hn]
                go_enter Tryd.func19, Tryd.ntmps19
                go_wp2
                go_ret
                exact ⟨rfl, HB.out _ _⟩
            · have ha' := int_ne ha
              rw [decide_eq_false ha]
              clear ha
              go_enter Tryd.func19, Tryd.ntmps19
              go_wp2
              go_ret
              exact ⟨rfl, HB.out _ _⟩
          · have h23' := decide_eq_false h23
            rw [h23']
            clear h23
            go_enter Tryd.func19, Tryd.ntmps19
            go_wp2
            go_ret
            exact ⟨rfl, HB.out _ _⟩
        · have h1' := decide_eq_false h1
          rw [h1']
          clear h1
          go_enter Tryd.func19, Tryd.ntmps19
          go_wp2
          go_ret
          exact ⟨rfl, HB.out _ _⟩
end Go.Proofs.YtfgocdeaanalgaaDoor
