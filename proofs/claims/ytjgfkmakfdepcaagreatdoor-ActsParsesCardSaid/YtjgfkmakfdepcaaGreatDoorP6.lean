/- Own texts, joined: Eo, Eq, Ei, Ej, Ek. -/
import Derived.Test.YtjgfkmakfdepcaaGreatDoorP3
import Derived.Test.YtjgfkmakfdepcaaGreatDoorP4
import Derived.Test.YtjgfkmakfdepcaaGreatDoorP5
namespace Go.Proofs.YtjgfkmakfdepcaaGreatDoor
open Go.RowKit

/-- how many operands a cell wants -/
def operN (op : Int) : Nat := if 1 ≤ op ∧ op ≤ 6 then 0 else if 7 ≤ op ∧ op ≤ 10 then 1 else 2
def formedB (c : CM) : Bool :=
  if c.op = 1 then decide (c.nm = []) && (decide (0 ≤ c.a) && decide (c.a ≤ 1099511627776))
  else if c.op = 2 then decide (c.nm = []) && (decide (0 ≤ c.a) && decide (c.a ≤ 1048576))
  else if c.op = 5 ∨ c.op = 6 then decide (c.a = 0) && nameB c.nm
  else decide (1 ≤ c.op) && (decide (c.op ≤ 23) && (decide (c.a = 0) && decide (c.nm = [])))

theorem op_cases (op : Int) : op = 1 ∨ op = 2 ∨ op = 3 ∨ op = 4 ∨ op = 5 ∨ op = 6 ∨ op = 7 ∨ op = 8 ∨ op = 9 ∨ op = 10 ∨ (¬ (1 ≤ op ∧ op ≤ 10)) := by omega
theorem int_ne {a b : Int} (h : a ≠ b) : (a == b) = false := beq_eq_false_iff_ne.2 h

theorem operands_any (op : Int) (w : World) :
    Calls Tryz.prog 71 #[.int .i64 op] w fun e w' => e = .returned (.int .i64 (operN op)) ∧ w = w' := by
  rcases op_cases op with h | h | h | h | h | h | h | h | h | h | h
  · subst h
    go_enter Tryz.func71, Tryz.ntmps71
    go_wp2
    go_ret
    exact ⟨rfl, rfl⟩
  · subst h
    go_enter Tryz.func71, Tryz.ntmps71
    go_wp2
    go_ret
    exact ⟨rfl, rfl⟩
  · subst h
    go_enter Tryz.func71, Tryz.ntmps71
    go_wp2
    go_ret
    exact ⟨rfl, rfl⟩
  · subst h
    go_enter Tryz.func71, Tryz.ntmps71
    go_wp2
    go_ret
    exact ⟨rfl, rfl⟩
  · subst h
    go_enter Tryz.func71, Tryz.ntmps71
    go_wp2
    go_ret
    exact ⟨rfl, rfl⟩
  · subst h
    go_enter Tryz.func71, Tryz.ntmps71
    go_wp2
    go_ret
    exact ⟨rfl, rfl⟩
  · subst h
    go_enter Tryz.func71, Tryz.ntmps71
    go_wp2
    go_ret
    exact ⟨rfl, rfl⟩
  · subst h
    go_enter Tryz.func71, Tryz.ntmps71
    go_wp2
    go_ret
    exact ⟨rfl, rfl⟩
  · subst h
    go_enter Tryz.func71, Tryz.ntmps71
    go_wp2
    go_ret
    exact ⟨rfl, rfl⟩
  · subst h
    go_enter Tryz.func71, Tryz.ntmps71
    go_wp2
    go_ret
    exact ⟨rfl, rfl⟩
  have hN : operN op = 2 := by unfold operN; rw [if_neg (by omega), if_neg (by omega)]
  rw [hN]; clear hN
  have t1 := int_ne (a := op) (b := 1) (by omega)
  have t2 := int_ne (a := op) (b := 2) (by omega)
  have t3 := int_ne (a := op) (b := 3) (by omega)
  have t4 := int_ne (a := op) (b := 4) (by omega)
  have t5 := int_ne (a := op) (b := 5) (by omega)
  have t6 := int_ne (a := op) (b := 6) (by omega)
  have t7 := int_ne (a := op) (b := 7) (by omega)
  have t8 := int_ne (a := op) (b := 8) (by omega)
  have t9 := int_ne (a := op) (b := 9) (by omega)
  have t10 := int_ne (a := op) (b := 10) (by omega)
  clear h
  go_enter Tryz.func71, Tryz.ntmps71
  go_wp2
  go_ret
  exact ⟨rfl, rfl⟩

set_option maxHeartbeats 2000000 in
theorem formed_any (c : CM) (w : World) :
    Calls Tryz.prog 82 #[.agg #[.int .i64 c.op, .int .i64 c.a, bstr c.nm]] w fun e w' => e = .returned (.bool (formedB c)) ∧ Below w.heap.size w w' := by
  obtain ⟨op, a, nm⟩ := c
  obtain ⟨X, hX⟩ : ∃ X : ByteArray, X = ⟨nm.toArray⟩ := ⟨_, rfl⟩
  have hXl : X.data.toList = nm := by rw [hX]
  have hb : bstr nm = .string X := by rw [hX]; rfl
  simp only
  rw [hb]
  clear hb hX
  subst hXl
  have HBox : ∀ W : World, ∀ o : Obj, Below W.heap.size W (W.alloc o) := fun W o => (Below.refl _ _).alloc (Nat.le_refl _) o
  have HB := Lib.hid HBox; clear HBox
  by_cases h1 : op = 1
  · subst h1
    have hF : formedB ⟨1, a, X.data.toList⟩ = (decide (X.data.toList = []) && (decide (0 ≤ a) && decide (a ≤ 1099511627776))) := rfl
    rw [hF]; clear hF
    rw [← Lib.toList_data]
    by_cases hn : X.toList = []
    · have hne : X.toList.isEmpty = true := by rw [hn]; rfl
      rw [decide_eq_true hn]
      clear hn
      by_cases ha : 0 ≤ a
      · by_cases hb : a ≤ 1099511627776
        · rw [decide_eq_true ha, decide_eq_true hb]
          go_enter Tryz.func82, Tryz.ntmps82
          go_wp2
          go_ret
          exact ⟨rfl, HB.out _ _⟩
        · rw [decide_eq_true ha, decide_eq_false hb]
          have hb' := decide_eq_false hb
          clear hb
          go_enter Tryz.func82, Tryz.ntmps82
          go_wp2
          go_ret
          exact ⟨rfl, HB.out _ _⟩
      · rw [decide_eq_false ha]
        have ha' := decide_eq_false ha
        clear ha
        go_enter Tryz.func82, Tryz.ntmps82
        go_wp2
        go_ret
        exact ⟨rfl, HB.out _ _⟩
    · have hne : X.toList.isEmpty = false := by
        cases h : X.toList with
        | nil => exact absurd h hn
        | cons _ _ => rfl
      rw [decide_eq_false hn]
      go_enter Tryz.func82, Tryz.ntmps82
      go_wp2
      go_ret
      exact ⟨rfl, HB.out _ _⟩
  · by_cases h2 : op = 2
    · subst h2
      have hF : formedB ⟨2, a, X.data.toList⟩ = (decide (X.data.toList = []) && (decide (0 ≤ a) && decide (a ≤ 1048576))) := rfl
      rw [hF]; clear hF
      rw [← Lib.toList_data]
      by_cases hn : X.toList = []
      · have hne : X.toList.isEmpty = true := by rw [hn]; rfl
        rw [decide_eq_true hn]
        clear hn
        by_cases ha : 0 ≤ a
        · by_cases hb : a ≤ 1048576
          · rw [decide_eq_true ha, decide_eq_true hb]
            go_enter Tryz.func82, Tryz.ntmps82
            go_wp2
            go_ret
            exact ⟨rfl, HB.out _ _⟩
          · rw [decide_eq_true ha, decide_eq_false hb]
            have hb' := decide_eq_false hb
            clear hb
            go_enter Tryz.func82, Tryz.ntmps82
            go_wp2
            go_ret
            exact ⟨rfl, HB.out _ _⟩
        · rw [decide_eq_false ha]
          have ha' := decide_eq_false ha
          clear ha
          go_enter Tryz.func82, Tryz.ntmps82
          go_wp2
          go_ret
          exact ⟨rfl, HB.out _ _⟩
      · have hne : X.toList.isEmpty = false := by
          cases h : X.toList with
          | nil => exact absurd h hn
          | cons _ _ => rfl
        rw [decide_eq_false hn]
        go_enter Tryz.func82, Tryz.ntmps82
        go_wp2
        go_ret
        exact ⟨rfl, HB.out _ _⟩
    · by_cases h56 : op = 5 ∨ op = 6
      · have hF : formedB ⟨op, a, X.data.toList⟩ = (decide (a = 0) && nameB X.data.toList) := by
          unfold formedB
          simp only
          rw [if_neg h1, if_neg h2, if_pos h56]
        rw [hF]; clear hF
        have HN := Lib.hid (name_any X)
        by_cases ha : a = 0
        · subst ha
          cases hn : nameB X.data.toList
          all_goals
            have HNN := Lib.hid hn
            clear hn
            rcases h56 with h | h
          all_goals
            subst h
            clear h1 h2
            go_enter Tryz.func82, Tryz.ntmps82
            go_wp2_with fail
            refine (HN.out _).mono ?_
            rintro e w1 ⟨rfl, rfl⟩
            rw [HNN.out]
            go_wp2
            go_ret
            exact ⟨rfl, HB.out _ _⟩
        · have ha' := int_ne ha
          rw [decide_eq_false ha]
          clear ha
          rcases h56 with h | h
          all_goals
            subst h
            clear h1 h2
            go_enter Tryz.func82, Tryz.ntmps82
            go_wp2
            go_ret
            exact ⟨rfl, HB.out _ _⟩
      · have hF : formedB ⟨op, a, X.data.toList⟩ = (decide (1 ≤ op) && (decide (op ≤ 23) && (decide (a = 0) && decide (X.data.toList = [])))) := by
          unfold formedB
          simp only
          rw [if_neg h1, if_neg h2, if_neg h56]
        rw [hF]; clear hF
        rw [← Lib.toList_data]
        have t1 := int_ne h1
        have t2 := int_ne h2
        have t5 := int_ne (a := op) (b := 5) (fun e => h56 (Or.inl e))
        have t6 := int_ne (a := op) (b := 6) (fun e => h56 (Or.inr e))
        clear h1 h2 h56
        by_cases h1 : 1 ≤ op
        · rw [decide_eq_true h1]
          by_cases h23 : op ≤ 23
          · rw [decide_eq_true h23]
            by_cases ha : a = 0
            · subst ha
              by_cases hn : X.toList = []
              · have hne : X.toList.isEmpty = true := by rw [hn]; rfl
                rw [decide_eq_true hn]
                clear hn
                go_enter Tryz.func82, Tryz.ntmps82
                go_wp2
                go_ret
                exact ⟨rfl, HB.out _ _⟩
              · have hne : X.toList.isEmpty = false := by
                  cases h : X.toList with
                  | nil => exact absurd h hn
                  | cons _ _ => rfl
                rw [decide_eq_false hn]
                go_enter Tryz.func82, Tryz.ntmps82
                go_wp2
                go_ret
                exact ⟨rfl, HB.out _ _⟩
            · have ha' := int_ne ha
              rw [decide_eq_false ha]
              clear ha
              go_enter Tryz.func82, Tryz.ntmps82
              go_wp2
              go_ret
              exact ⟨rfl, HB.out _ _⟩
          · have h23' := decide_eq_false h23
            rw [h23']
            clear h23
            go_enter Tryz.func82, Tryz.ntmps82
            go_wp2
            go_ret
            exact ⟨rfl, HB.out _ _⟩
        · have h1' := decide_eq_false h1
          rw [h1']
          clear h1
          go_enter Tryz.func82, Tryz.ntmps82
          go_wp2
          go_ret
          exact ⟨rfl, HB.out _ _⟩
end Go.Proofs.YtjgfkmakfdepcaaGreatDoor
namespace Go.Proofs.YtjgfkmakfdepcaaGreatDoor
open Go.RowKit

def inP (x : List UInt8) (st k : Int) : List UInt8 := if st < k then [40] ++ x ++ [41] else x

theorem sz0 (s : ByteArray) : s.data.toList.length = s.size := (Lib.size_eq s).symm
/-- what stands between two pieces: by an operator's text and strength -/
def betP (ot : List UInt8) (os : Int) (l r : List UInt8 × Int) : List UInt8 × Int := (inP l.1 l.2 (if os = 3 then os + 1 else os) ++ ot ++ inP r.1 r.2 (os + 1), os)

theorem inP_len (x : List UInt8) (st k : Int) : (inP x st k).length ≤ x.length + 2 := by
  unfold inP; split
  · simp
  · omega

/-- what a cell holds, told by itself -/
def cur (w : World) (a : Addr) : Value := (w.cell? a).getD undef
end Go.Proofs.YtjgfkmakfdepcaaGreatDoor
namespace Go.Proofs.YtjgfkmakfdepcaaGreatDoor

/-- as many cells as bytes, at most -/
def Few (p : Nat) (cs : List CM) (r : Rs) : Prop := r.1 = true → r.2.2.length + p ≤ cs.length + r.2.1

theorem few_close {s : List UInt8} {p : Nat} {cs : List CM} {r : Rs} (h : Few p cs r) : Few p cs (closeD s r) := by
  unfold closeD
  split
  · rename_i hr
    split
    · intro _; have := h hr; simp only; omega
    · intro h'; simp at h'
  · exact h
theorem few_add {o : Int} {p : Nat} {cs : List CM} {r : Rs} (h : Few (p + 1) cs r) : Few p cs (addD o r) := by
  unfold addD
  split
  · rename_i hr
    intro _; have := h hr; simp only [List.length_append, List.length_singleton]; omega
  · rename_i hr; intro h'; exact absurd h' hr
theorem few_less {p p' : Nat} {cs : List CM} {r : Rs} (h : Few p' cs r) (hp : p ≤ p') : Few p cs r := fun h' => by have := h h'; omega
theorem few_no {p q : Nat} {cs cs' : List CM} : Few p cs (false, q, cs') := fun h => by simp at h
theorem few_one {p q : Nat} {cs : List CM} {c : CM} (h : p < q) : Few p cs (true, q, cs ++ [c]) := fun _ => by simp; omega

theorem few_state {s : List UInt8} {p : Nat} {cs : List CM} : Few p cs (stateD s p cs) := by
  unfold stateD
  split
  · exact few_close (few_one (by omega))
  · exact few_no
theorem few_num {s : List UInt8} {p : Nat} {cs : List CM} (h : p < s.length) (hd : isD (nx s p) = true) : Few p cs (numD s p cs) := by
  have h2 := num_pos h hd
  unfold numD
  split
  · exact few_no
  · split
    · split
      · exact few_one (by omega)
      · exact few_no
    · exact few_one (by omega)
theorem name_pos {w : List UInt8} (h : nameB w = true) : 0 < w.length := by
  rcases Nat.eq_zero_or_pos w.length with h0 | h0
  · rw [List.eq_nil_of_length_eq_zero h0] at h; simp [nameB] at h
  · exact h0
theorem few_word {s : List UInt8} {p : Nat} {cs : List CM} {w : List UInt8} {inner : Rs} (hi : p + 3 ≤ s.length → Few (p + 3) cs inner) : Few p cs (wordD s p cs w inner) := by
  unfold wordD
  split
  · exact few_one (by omega)
  · split
    · exact few_one (by omega)
    · split
      · rename_i hn; have := name_pos hn; exact few_one (by omega)
      · split
        · exact few_no
        · rename_i h40
          have h3 := nx_lt (s := s) (p := p + w.length) (by rw [Decidable.not_not.1 h40]; decide)
          split
          · exact few_state
          · split
            · rename_i e
              rw [e] at h3; simp [wRe] at h3
              exact few_add (few_close (few_less (hi (by omega)) (by omega)))
            · split
              · rename_i e
                rw [e] at h3; simp [wIm] at h3
                exact few_add (few_close (few_less (hi (by omega)) (by omega)))
              · exact few_no

theorem few (s : List UInt8) : ∀ (n : Nat) (q : Q) (p : Nat) (cs : List CM), p ≤ s.length → (match q with | .loop k _ => 1 ≤ k | .joins k => 1 ≤ k | .ahead => True) → Few p cs (D s n q p cs) := by
  intro n
  induction n with
  | zero => intro q p cs hp _ h; simp [D] at h
  | succ n ih =>
    intro q p cs hp hq
    cases q with
    | joins k =>
      simp only at hq
      rw [D_joins]
      split
      · exact ih .ahead p cs hp trivial
      · have h1 := ih (.joins (k + 1)) p cs hp (by simp)
        split
        · rename_i hr
          have hg := goes s n (.joins (k + 1)) p cs hp
          have h2 := ih (.loop k false) _ (D s n (.joins (k + 1)) p cs).2.2 hg.le hq
          intro h'; have := h2 h'; have := h1 hr; omega
        · exact h1
    | loop k cmp =>
      simp only at hq
      rw [D_loop]
      split
      · intro _; simp
      · rename_i hk
        have hk := Decidable.not_not.1 hk
        split
        · exact few_no
        · have ho := opAt_some (s := s) (p := p) (by omega)
          have h1 := ih (.joins (k + 1)) (p + (opAt s p).2.1) cs ho.2 (by simp)
          have hg := goes s n (.joins (k + 1)) (p + (opAt s p).2.1) cs ho.2
          split
          · rename_i hr
            have h2 := ih (.loop k (k == 3)) _ ((D s n (.joins (k + 1)) (p + (opAt s p).2.1) cs).2.2 ++ [opC (opAt s p).1]) hg.le hq
            intro h'
            have h3 := h2 h'
            have h4 := h1 hr
            rw [List.length_append, List.length_singleton] at h3
            omega
          · intro h'; have := h1 h'; omega
    | ahead =>
      rw [D_ahead]
      split
      · rename_i h
        have := nx_lt (s := s) (p := p) (by rw [h]; decide)
        exact few_add (ih .ahead (p + 1) cs (by omega) trivial)
      · split
        · rename_i h
          have := nx_lt (s := s) (p := p) (by rw [h]; decide)
          exact few_add (ih .ahead (p + 1) cs (by omega) trivial)
        · split
          · rename_i h
            have := nx_lt (s := s) (p := p) (by rw [h]; decide)
            exact few_close (few_less (ih (.joins 1) (p + 1) cs (by omega) (by simp)) (by omega))
          · split
            · rename_i hd
              have := nx_lt (s := s) (p := p) (by intro e; rw [e] at hd; exact absurd hd (by decide))
              exact few_num this hd
            · exact few_word (fun h3 => ih (.joins 1) (p + 3) cs h3 (by simp))
end Go.Proofs.YtjgfkmakfdepcaaGreatDoor
namespace Go.Proofs.YtjgfkmakfdepcaaGreatDoor
open Go.RowKit

/-- what joins does, with n rounds at hand -/
def JH (s : ByteArray) (n : Nat) : Prop := ∀ (w0 wa w : World) (g p : Nat) (cs : List CM) (k : Nat), St w0 wa g s p cs w → Ops w0 → 1 ≤ k → k ≤ 6 → p ≤ s.size → cs.length ≤ p → need s.data.toList (.joins k) p ≤ n →
  Calls Tryz.prog 89 #[rp g, .int .i64 k] w (RPost w0 wa g s (D s.data.toList n (.joins k) p cs))
def AH (s : ByteArray) (n : Nat) : Prop := ∀ (w0 wa w : World) (g p : Nat) (cs : List CM), St w0 wa g s p cs w → Ops w0 → p ≤ s.size → cs.length ≤ p → need s.data.toList .ahead p ≤ n →
  Calls Tryz.prog 116 #[rp g] w (RPost w0 wa g s (D s.data.toList n .ahead p cs))

theorem sz (s : ByteArray) : s.data.toList.length = s.size := (Lib.size_eq s).symm

theorem inside_any {s : ByteArray} {n : Nat} (hJ : JH s n) {w0 wa w : World} {g p : Nat} {cs : List CM} (h : St w0 wa g s p cs w) (hO : Ops w0) (hp : p + 1 ≤ s.size) (hs : s.size ≤ 600) (hc : cs.length ≤ p) (hn : need s.data.toList (.joins 1) (p + 1) ≤ n) :
    Calls Tryz.prog 157 #[rp g] w (RPost w0 wa g s (closeD s.data.toList (D s.data.toList n (.joins 1) (p + 1) cs))) := by
  have HS := Lib.hid (h.setAt ((p : Int) + 1) (p' := p + 1) (by omega))
  have HJ := Lib.hid (hJ w0 wa _ g (p + 1) cs 1 HS.out hO (by omega) (by omega) hp (by omega) hn)
  have hgo := goes s.data.toList n (.joins 1) (p + 1) cs (by rw [sz]; exact hp)
  obtain ⟨b, p1, cs1, hr⟩ : ∃ b p1 cs1, D s.data.toList n (.joins 1) (p + 1) cs = (b, p1, cs1) := ⟨_, _, _, rfl⟩
  rw [hr] at HJ hgo ⊢
  have hp1 : p1 ≤ s.size := by have := hgo.le; rw [sz] at this; exact this
  obtain ⟨v, ⟨c0, c1, c2, f1, f2⟩, hbox, hown⟩ := h.at_
  clear hbox hown h hr hgo hJ
  unfold rp at *
  cases b
  · go_enter Tryz.func157, Tryz.ntmps157
    go_wp2_with fail
    refine HJ.out.mono ?_
    rintro e w1 ⟨rfl, h1⟩
    have H1 := Lib.hid h1; clear h1
    go_wp2
    go_ret
    exact ⟨rfl, H1.out⟩
  · go_enter Tryz.func157, Tryz.ntmps157
    go_wp2_with fail
    refine HJ.out.mono ?_
    rintro e w1 ⟨rfl, h1⟩
    have H1 := Lib.hid h1; clear h1
    go_wp2_with fail
    refine (closed_any H1.out hp1 hs).mono ?_
    rintro e w2 ⟨rfl, h2⟩
    have H2 := Lib.hid h2; clear h2
    go_wp2
    go_ret
    exact ⟨rfl, H2.out⟩

/-- behind an append of one cell, the world's cell of the reader's list -/
theorem push_far {w w1 : World} {g b : Nat} {x v : Value} {o : Array Value} (hgrow : (w.alloc (.cells o b)).grownBy w1 v.ownBlock) (hg : g < w.heap.size) (hne : v.ownBlock ≠ some g) (hc : w.cell? ⟨g, 2, none⟩ = some x) (hf : w.frozen? ⟨g, 2, none⟩ = false) :
    w1.cell? ⟨g, 2, none⟩ = some x ∧ w1.frozen? ⟨g, 2, none⟩ = false :=
  ⟨(hgrow.cell_far ⟨g, 2, none⟩ (by simp; omega) (Ne.symm hne)).trans ((World.cell?_alloc_lt w _ _ hg).trans hc), (hgrow.frozen_far ⟨g, 2, none⟩ (by simp; omega) (Ne.symm hne)).trans ((World.frozen?_alloc_past _ g 2 hg).trans hf)⟩

set_option maxHeartbeats 1000000 in
set_option maxRecDepth 100000 in
theorem part_any {s : ByteArray} {n : Nat} (hJ : JH s n) {w0 wa w : World} {g p : Nat} {cs : List CM} (h : St w0 wa g s p cs w) (hO : Ops w0) (wd : ByteArray) (o : Int) (hwd : wd.size = 2) (hp : p + 3 ≤ s.size) (hs : s.size ≤ 600) (hc : cs.length ≤ p) (hn : need s.data.toList (.joins 1) (p + 3) ≤ n) :
    Calls Tryz.prog 163 #[rp g, .string wd, .int .i64 o] w (RPost w0 wa g s (addD o (closeD s.data.toList (D s.data.toList n (.joins 1) (p + 3) cs)))) := by
  have HS := Lib.hid (h.setAt ((p : Int) + 2) (p' := p + 2) (by omega))
  have HJ := Lib.hid (inside_any hJ HS.out hO (p := p + 2) hp hs (by omega) hn)
  have hgo := goes s.data.toList n (.joins 1) (p + 3) cs (by rw [sz]; exact hp)
  have hfew := few s.data.toList n (.joins 1) (p + 3) cs (by rw [sz]; exact hp) (by simp)
  have hgc := goes_close (s := s.data.toList) (p := p) (r := D s.data.toList n (.joins 1) (p + 3) cs) (by have := hgo.ge; omega) hgo.le
  have hfc := few_close (s := s.data.toList) hfew
  obtain ⟨b, p1, cs1, hr⟩ : ∃ b p1 cs1, closeD s.data.toList (D s.data.toList n (.joins 1) (p + 3) cs) = (b, p1, cs1) := ⟨_, _, _, rfl⟩
  rw [hr] at HJ hgc hfc ⊢
  have hp1 : p1 ≤ s.size := by have := hgc.le; rw [sz] at this; exact this
  obtain ⟨v, ⟨c0, c1, c2, f1, f2⟩, hbox, hown⟩ := h.at_
  obtain ⟨i0, hi0, hz0, hz1, hz2⟩ := info_parts Tryz.infoCell
  have HI := Lib.hid hi0; have HZ0 := Lib.hid hz0; have HZ1 := Lib.hid hz1; have HZ2 := Lib.hid hz2
  clear hi0 hz0 hz1 hz2 hbox hown h hr hgo hJ hfew hgc
  unfold rp at *
  cases b
  · clear hfc
    go_enter Tryz.func163, Tryz.ntmps163
    go_wp2_with fail
    refine HJ.out.mono ?_
    rintro e w1 ⟨rfl, h1⟩
    have H1 := Lib.hid h1; clear h1
    go_wp2
    go_ret
    exact ⟨rfl, H1.out⟩
  · have hfc : cs1.length ≤ 600 := by have := hfc rfl; simp only at this; omega
    go_enter Tryz.func163, Tryz.ntmps163
    go_wp2_with fail
    refine HJ.out.mono ?_
    rintro e w1 ⟨rfl, h1⟩
    clear c0 c1 c2 f1 f2
    obtain ⟨v1, ⟨c0, c1, c2, f1, f2⟩, hbox, hown⟩ := h1.at_
    have H1 := Lib.hid h1; have HBX := Lib.hid hbox; have HOWN := Lib.hid hown; have HNE := Lib.hid (own_ne hown hbox)
    have hgl := h1.lt
    have hWs := h1.size
    clear h1 hbox hown
    go_wp2_with (at_builtin; refine wpList_append_own _ rfl _ _ 57 rfl w0.heap.size 93 i0 _ 3 32 Tryz.underlying57 HI.out HZ0.out HZ1.out HZ2.out rfl (by decide) v1 cs1.length (flat cs1) rfl (HOWN.out.alloc _) ⟨w1.heap.size, 0, none⟩ 1 1 (cellV (opC o)) rfl rfl (one_wide w1 _ _ _ _) (one_vals (opC o)) (by unfold maxLen; omega) (by omega) (by simp; omega) ?_)
    intro v' w2 hown' hgrow _
    obtain ⟨gg, cap, rfl, _, _⟩ := hown'.form (by omega)
    obtain ⟨k2, kf2⟩ := push_far hgrow hgl HNE.out c2 f2
    have HH : Hid (St w0 wa g s p1 (cs1 ++ [opC o]) (w2.setCell ⟨g, 2, none⟩ (.slice (some ⟨gg, 0, none⟩) (cs1.length + 1) cap))) := by
      refine H1.out.push HBX.out HOWN.out (w1 := w1.alloc (.cells #[.int .i64 (opC o).op, .int .i64 (opC o).a, bstr (opC o).nm] 93)) ((Below.refl _ _).alloc (Nat.le_refl _) _) ?_ hgrow
      rw [flat_append, flat_one, List.length_append]
      exact hown'
    clear hown' hgrow
    go_wp2
    go_ret
    exact ⟨rfl, HH.out⟩
end Go.Proofs.YtjgfkmakfdepcaaGreatDoor
namespace Go.Proofs.YtjgfkmakfdepcaaGreatDoor
open Go.RowKit

def operandD (s : List UInt8) (n p : Nat) (cs : List CM) : Rs :=
  if nx s p = 40 then closeD s (D s n (.joins 1) (p + 1) cs) else if isD (nx s p) = true then numD s p cs else wordD s p cs (wordP s p) (D s n (.joins 1) (p + 3) cs)

theorem operand_paren {s : ByteArray} {n : Nat} (hJ : JH s n) {w0 wa w : World} {g p : Nat} {cs : List CM} (h : St w0 wa g s p cs w) (hO : Ops w0) (h40 : nx s.data.toList p = 40) (hs : s.size ≤ 600) (hc : cs.length ≤ p) (hn : need s.data.toList .ahead p ≤ n + 1) :
    Calls Tryz.prog 135 #[rp g] w (RPost w0 wa g s (closeD s.data.toList (D s.data.toList n (.joins 1) (p + 1) cs))) := by
  have hlt := nx_lt (s := s.data.toList) (p := p) (by rw [h40]; decide)
  have hnd : need s.data.toList (.joins 1) (p + 1) ≤ n := by simp only [need] at *; omega
  rw [sz] at hlt
  have HX := Lib.hid (next_any h (by omega))
  have HI : Hid (∀ m, Calls Tryz.prog 157 #[rp g] (w.drewN m) (RPost w0 wa g s (closeD s.data.toList (D s.data.toList n (.joins 1) (p + 1) cs)))) := fun m => inside_any hJ (h.drewN m) hO hlt hs hc hnd
  have t40 : ((nx s.data.toList p).toNat : Int) = 40 := by rw [h40]; rfl
  have HT := Lib.hid t40
  clear h t40 h40 hJ
  unfold rp at *
  go_enter Tryz.func135, Tryz.ntmps135
  go_wp2_with fail
  refine HX.out.mono ?_
  rintro e w1 ⟨rfl, m, rfl⟩
  rw [HT.out]
  go_wp2_with fail
  refine (HI.out m).mono ?_
  rintro e w2 ⟨rfl, h2⟩
  have H2 := Lib.hid h2; clear h2
  go_wp2
  go_ret
  exact ⟨rfl, H2.out⟩

theorem operand_num {s : ByteArray} {w0 wa w : World} {g p : Nat} {cs : List CM} (h : St w0 wa g s p cs w) (hd : isD (nx s.data.toList p) = true) (hs : s.size ≤ 600) (hc : cs.length ≤ p) :
    Calls Tryz.prog 135 #[rp g] w (RPost w0 wa g s (numD s.data.toList p cs)) := by
  have hlt := nx_lt (s := s.data.toList) (p := p) (by intro e; rw [e] at hd; exact absurd hd (by decide))
  rw [sz] at hlt
  have HX := Lib.hid (next_any h (by omega))
  have HI : Hid (∀ m, Calls Tryz.prog 159 #[rp g] (w.drewN m) (RPost w0 wa g s (numD s.data.toList p cs))) := fun m => number_walk (h.drewN m) hlt hd hs (by omega)
  have t40 : (((nx s.data.toList p).toNat : Int) == 40) = false := byte_not (k := 40) (by decide) (fun e => by rw [e] at hd; exact absurd hd (by decide))
  have HD := Lib.hid hd
  clear h hd
  unfold rp at *
  go_enter Tryz.func135, Tryz.ntmps135
  go_wp2_with fail
  refine HX.out.mono ?_
  rintro e w1 ⟨rfl, m, rfl⟩
  go_wp2_with fail
  refine (exDigit_any _ _).mono ?_
  rintro e w1 ⟨rfl, rfl⟩
  rw [HD.out]
  go_wp2_with fail
  refine (HI.out m).mono ?_
  rintro e w2 ⟨rfl, h2⟩
  have H2 := Lib.hid h2; clear h2
  go_wp2
  go_ret
  exact ⟨rfl, H2.out⟩

theorem is_list {X : ByteArray} {l : List UInt8} : (X.toList == l) = decide (X.data.toList = l) := by
  rw [Lib.toList_data]
  by_cases h : X.data.toList = l
  · simp [h]
  · rw [decide_eq_false h]; exact beq_eq_false_iff_ne.2 h

set_option maxRecDepth 100000 in
set_option maxHeartbeats 4000000 in
theorem operand_word {s : ByteArray} {n : Nat} (hJ : JH s n) {w0 wa w : World} {g p : Nat} {cs : List CM} (h : St w0 wa g s p cs w) (hO : Ops w0) (h40 : nx s.data.toList p ≠ 40) (hd : isD (nx s.data.toList p) = false) (hp : p ≤ s.size) (hs : s.size ≤ 600) (hc : cs.length ≤ p) (hn : need s.data.toList .ahead p ≤ n + 1) :
    Calls Tryz.prog 135 #[rp g] w (RPost w0 wa g s (wordD s.data.toList p cs (wordP s.data.toList p) (D s.data.toList n (.joins 1) (p + 3) cs))) := by
  have HX := Lib.hid (next_any h hp)
  have HWD : Hid (∀ m, Calls Tryz.prog 160 #[rp g] (w.drewN m) fun e w' => e = .returned (bstr (wordP s.data.toList p)) ∧ ∃ n, w' = (w.drewN m).drewN n) := fun m => word_any (h.drewN m) hp hs
  have hwl := word_len s p hp
  obtain ⟨X, hX⟩ : ∃ X : ByteArray, X = ⟨(wordP s.data.toList p).toArray⟩ := ⟨_, rfl⟩
  have hXl : X.data.toList = wordP s.data.toList p := by rw [hX]
  have hXz : (wordP s.data.toList p).length = X.size := by rw [← sz X, hXl]
  have hXs : p + X.size ≤ s.size := by rw [← hXz]; exact hwl
  have HXV : Hid (bstr (wordP s.data.toList p) = .string X) := by rw [hX]; rfl
  obtain ⟨R, hR⟩ : ∃ R, wordD s.data.toList p cs (wordP s.data.toList p) (D s.data.toList n (.joins 1) (p + 3) cs) = R := ⟨_, rfl⟩
  have hRX : R = if X.data.toList = [116, 114, 117, 101] then (true, p + 4, cs ++ [opC 3]) else if X.data.toList = [102, 97, 108, 115, 101] then (true, p + 5, cs ++ [opC 4])
      else if nameB X.data.toList = true then (true, p + X.size, cs ++ [⟨5, 0, X.data.toList⟩]) else if nx s.data.toList (p + X.size) ≠ 40 then (false, p, cs)
      else if X.data.toList = [105, 110] then stateD s.data.toList p cs else if X.data.toList = [114, 101] then addD 9 (closeD s.data.toList (D s.data.toList n (.joins 1) (p + 3) cs))
      else if X.data.toList = [105, 109] then addD 10 (closeD s.data.toList (D s.data.toList n (.joins 1) (p + 3) cs)) else (false, p, cs) := by
    rw [← hR, hXl, ← hXz]; rfl
  rw [hR]
  have HRX := Lib.hid hRX
  have HST := Lib.hid h
  have t40 : (((nx s.data.toList p).toNat : Int) == 40) = false := byte_not (k := 40) (by decide) h40
  have HD := Lib.hid hd
  have HJ := Lib.hid hJ
  have hgl := h.lt
  obtain ⟨v, ⟨c0, c1, c2, f1, f2⟩, hbox, hown⟩ := h.at_
  have hq0 : (0 : Int) ≤ (p : Int) + (X.size : Int) := by omega
  have hq1 : (p : Int) + (X.size : Int) ≤ s.size := by omega
  have hq6 : IntKind.i64.wrap ((p : Int) + (X.size : Int)) = (p : Int) + (X.size : Int) := IntWalk.i64_in _ (by omega)
  have hq7 : ((p : Int) + (X.size : Int)).toNat = p + X.size := by omega
  have HQ := Lib.hid (And.intro hq0 (And.intro hq1 (And.intro hq6 hq7)))
  clear hbox hown hX hXl hXz hwl h h40 hd hJ hR hRX hq0 hq1 hq6 hq7
  have hl : ∀ l : List UInt8, (X.toList == l) = decide (X.data.toList = l) := fun l => is_list
  cases b1 : X.toList == [116, 114, 117, 101]
  · cases b2 : X.toList == [102, 97, 108, 115, 101]
    · cases hnm : nameB X.data.toList
      · have HNM := Lib.hid hnm
        by_cases h4 : nx s.data.toList (p + X.size) = 40
        · have hp3 := nx_lt (s := s.data.toList) (p := p + X.size) (by rw [h4]; decide)
          rw [sz] at hp3
          have HH4 : Hid ((nx s.data.toList (p + X.size) == 40) = true) := by rw [h4]; rfl
          cases b3 : X.toList == [105, 110]
          · cases b4 : X.toList == [114, 101]
            · cases b5 : X.toList == [105, 109]
              · have HRR : Hid (R = (false, p, cs)) := by
                  have e1 := b1; have e2 := b2; have e3 := b3; have e4 := b4; have e5 := b5
                  rw [hl, decide_eq_false_iff_not] at e1 e2 e3 e4 e5
                  rw [HRX.out, if_neg e1, if_neg e2, hnm, if_neg (by decide), if_neg (by simp [h4]), if_neg e3, if_neg e4, if_neg e5]; exact rfl
                clear HRX hl hnm h4
                unfold rp at *
                go_enter Tryz.func135, Tryz.ntmps135
                go_wp2_with fail
                refine HX.out.mono ?_
                rintro e w1 ⟨rfl, m, rfl⟩
                go_wp2_with fail
                refine (exDigit_any _ _).mono ?_
                rintro e w1 ⟨rfl, rfl⟩
                rw [HD.out]
                go_wp2_with fail
                refine (HWD.out m).mono ?_
                rintro e w1 ⟨rfl, m2, rfl⟩
                rw [HXV.out]
                go_wp2_with fail
                refine (name_any X _).mono ?_
                rintro e w1 ⟨rfl, rfl⟩
                rw [HNM.out]
                go_wp2_with fail
                obtain ⟨hq0, hq1, hq6, hq7⟩ := HQ.out
                go_quiet ((go_at_call 136; first | exact quiet_at (prefix_at s 40 (p + X.size) (by decide) hXs _) | exact quiet_on (prefix_at s 40 (p + X.size) (by decide) hXs _)))
                clear hq0 hq1 hq6 hq7
                rw [HH4.out]
                go_wp2
                go_ret
                rw [HRR.out]
                exact ⟨rfl, by first | exact HST.out.drewN _ | exact (HST.out.drewN _).drewN _⟩
              · have e5 := b5
                rw [hl, decide_eq_true_iff] at e5
                have hx2 : X.size = 2 := by rw [← sz X, e5]; rfl
                have hnd : need s.data.toList (.joins 1) (p + 3) ≤ n := by simp only [need, sz] at *; omega
                have HRR : Hid (R = addD 10 (closeD s.data.toList (D s.data.toList n (.joins 1) (p + 3) cs))) := by
                  have e1 := b1; have e2 := b2; have e3 := b3; have e4 := b4
                  rw [hl, decide_eq_false_iff_not] at e1 e2 e3 e4
                  rw [HRX.out, if_neg e1, if_neg e2, hnm, if_neg (by decide), if_neg (by simp [h4]), if_neg e3, if_neg e4, if_pos e5]; exact rfl
                have HC : Hid (∀ W, St w0 wa g s p cs W → Calls Tryz.prog 163 #[rp g, .string X, .int .i64 10] W (RPost w0 wa g s R)) := by
                  intro W hW
                  rw [HRR.out]
                  exact part_any HJ.out hW hO X 10 hx2 (by omega) hs hc hnd
                clear HRX hl hnm h4 e5 hx2 hnd HRR HJ
                unfold rp at *
                go_enter Tryz.func135, Tryz.ntmps135
                go_wp2_with fail
                refine HX.out.mono ?_
                rintro e w1 ⟨rfl, m, rfl⟩
                go_wp2_with fail
                refine (exDigit_any _ _).mono ?_
                rintro e w1 ⟨rfl, rfl⟩
                rw [HD.out]
                go_wp2_with fail
                refine (HWD.out m).mono ?_
                rintro e w1 ⟨rfl, m2, rfl⟩
                rw [HXV.out]
                go_wp2_with fail
                refine (name_any X _).mono ?_
                rintro e w1 ⟨rfl, rfl⟩
                rw [HNM.out]
                go_wp2_with fail
                obtain ⟨hq0, hq1, hq6, hq7⟩ := HQ.out
                go_quiet ((go_at_call 136; first | exact quiet_at (prefix_at s 40 (p + X.size) (by decide) hXs _) | exact quiet_on (prefix_at s 40 (p + X.size) (by decide) hXs _)))
                clear hq0 hq1 hq6 hq7
                rw [HH4.out]
                go_wp2_with fail
                refine (HC.out _ (by first | exact HST.out.drewN _ | exact (HST.out.drewN _).drewN _)).mono ?_
                rintro e w2 ⟨rfl, h2⟩
                have H2 := Lib.hid h2; clear h2
                go_wp2
                go_ret
                exact ⟨rfl, H2.out⟩
            · have e4 := b4
              rw [hl, decide_eq_true_iff] at e4
              have hx2 : X.size = 2 := by rw [← sz X, e4]; rfl
              have hnd : need s.data.toList (.joins 1) (p + 3) ≤ n := by simp only [need, sz] at *; omega
              have HRR : Hid (R = addD 9 (closeD s.data.toList (D s.data.toList n (.joins 1) (p + 3) cs))) := by
                have e1 := b1; have e2 := b2; have e3 := b3
                rw [hl, decide_eq_false_iff_not] at e1 e2 e3
                rw [HRX.out, if_neg e1, if_neg e2, hnm, if_neg (by decide), if_neg (by simp [h4]), if_neg e3, if_pos e4]; exact rfl
              have HC : Hid (∀ W, St w0 wa g s p cs W → Calls Tryz.prog 163 #[rp g, .string X, .int .i64 9] W (RPost w0 wa g s R)) := by
                intro W hW
                rw [HRR.out]
                exact part_any HJ.out hW hO X 9 hx2 (by omega) hs hc hnd
              clear HRX hl hnm h4 e4 hx2 hnd HRR HJ
              unfold rp at *
              go_enter Tryz.func135, Tryz.ntmps135
              go_wp2_with fail
              refine HX.out.mono ?_
              rintro e w1 ⟨rfl, m, rfl⟩
              go_wp2_with fail
              refine (exDigit_any _ _).mono ?_
              rintro e w1 ⟨rfl, rfl⟩
              rw [HD.out]
              go_wp2_with fail
              refine (HWD.out m).mono ?_
              rintro e w1 ⟨rfl, m2, rfl⟩
              rw [HXV.out]
              go_wp2_with fail
              refine (name_any X _).mono ?_
              rintro e w1 ⟨rfl, rfl⟩
              rw [HNM.out]
              go_wp2_with fail
              obtain ⟨hq0, hq1, hq6, hq7⟩ := HQ.out
              go_quiet ((go_at_call 136; first | exact quiet_at (prefix_at s 40 (p + X.size) (by decide) hXs _) | exact quiet_on (prefix_at s 40 (p + X.size) (by decide) hXs _)))
              clear hq0 hq1 hq6 hq7
              rw [HH4.out]
              go_wp2_with fail
              refine (HC.out _ (by first | exact HST.out.drewN _ | exact (HST.out.drewN _).drewN _)).mono ?_
              rintro e w2 ⟨rfl, h2⟩
              have H2 := Lib.hid h2; clear h2
              go_wp2
              go_ret
              exact ⟨rfl, H2.out⟩
          · have e3 := b3
            rw [hl, decide_eq_true_iff] at e3
            have hx2 : X.size = 2 := by rw [← sz X, e3]; rfl
            have HRR : Hid (R = stateD s.data.toList p cs) := by
              have e1 := b1; have e2 := b2
              rw [hl, decide_eq_false_iff_not] at e1 e2
              rw [HRX.out, if_neg e1, if_neg e2, hnm, if_neg (by decide), if_neg (by simp [h4]), if_pos e3]; exact rfl
            have HC : Hid (∀ W, St w0 wa g s p cs W → Calls Tryz.prog 162 #[rp g] W (RPost w0 wa g s R)) := by
              intro W hW
              rw [HRR.out]
              exact state_any hW (by omega) hs (by omega)
            clear HRX hl hnm h4 e3 hx2 HRR HJ
            unfold rp at *
            go_enter Tryz.func135, Tryz.ntmps135
            go_wp2_with fail
            refine HX.out.mono ?_
            rintro e w1 ⟨rfl, m, rfl⟩
            go_wp2_with fail
            refine (exDigit_any _ _).mono ?_
            rintro e w1 ⟨rfl, rfl⟩
            rw [HD.out]
            go_wp2_with fail
            refine (HWD.out m).mono ?_
            rintro e w1 ⟨rfl, m2, rfl⟩
            rw [HXV.out]
            go_wp2_with fail
            refine (name_any X _).mono ?_
            rintro e w1 ⟨rfl, rfl⟩
            rw [HNM.out]
            go_wp2_with fail
            obtain ⟨hq0, hq1, hq6, hq7⟩ := HQ.out
            go_quiet ((go_at_call 136; first | exact quiet_at (prefix_at s 40 (p + X.size) (by decide) hXs _) | exact quiet_on (prefix_at s 40 (p + X.size) (by decide) hXs _)))
            clear hq0 hq1 hq6 hq7
            rw [HH4.out]
            go_wp2_with fail
            refine (HC.out _ (by first | exact HST.out.drewN _ | exact (HST.out.drewN _).drewN _)).mono ?_
            rintro e w2 ⟨rfl, h2⟩
            have H2 := Lib.hid h2; clear h2
            go_wp2
            go_ret
            exact ⟨rfl, H2.out⟩
        · have HH4 : Hid ((nx s.data.toList (p + X.size) == 40) = false) := beq_eq_false_iff_ne.2 h4
          have HRR : Hid (R = (false, p, cs)) := by
            have e1 := b1; have e2 := b2
            rw [hl, decide_eq_false_iff_not] at e1 e2
            rw [HRX.out, if_neg e1, if_neg e2, hnm, if_neg (by decide), if_pos h4]; exact rfl
          clear HRX hl hnm h4
          unfold rp at *
          go_enter Tryz.func135, Tryz.ntmps135
          go_wp2_with fail
          refine HX.out.mono ?_
          rintro e w1 ⟨rfl, m, rfl⟩
          go_wp2_with fail
          refine (exDigit_any _ _).mono ?_
          rintro e w1 ⟨rfl, rfl⟩
          rw [HD.out]
          go_wp2_with fail
          refine (HWD.out m).mono ?_
          rintro e w1 ⟨rfl, m2, rfl⟩
          rw [HXV.out]
          go_wp2_with fail
          refine (name_any X _).mono ?_
          rintro e w1 ⟨rfl, rfl⟩
          rw [HNM.out]
          go_wp2_with fail
          obtain ⟨hq0, hq1, hq6, hq7⟩ := HQ.out
          go_quiet ((go_at_call 136; first | exact quiet_at (prefix_at s 40 (p + X.size) (by decide) hXs _) | exact quiet_on (prefix_at s 40 (p + X.size) (by decide) hXs _)))
          clear hq0 hq1 hq6 hq7
          rw [HH4.out]
          go_wp2
          go_ret
          rw [HRR.out]
          exact ⟨rfl, by first | exact HST.out.drewN _ | exact (HST.out.drewN _).drewN _⟩
      · have HNM := Lib.hid hnm
        have HRR : Hid (R = (true, p + X.size, cs ++ [⟨5, 0, X.data.toList⟩])) := by
          have e1 := b1; have e2 := b2
          rw [hl, decide_eq_false_iff_not] at e1 e2
          rw [HRX.out, if_neg e1, if_neg e2, if_pos hnm]; exact rfl
        clear HRX hl hnm
        unfold rp at *
        go_enter Tryz.func135, Tryz.ntmps135
        go_wp2_with fail
        refine HX.out.mono ?_
        rintro e w1 ⟨rfl, m, rfl⟩
        go_wp2_with fail
        refine (exDigit_any _ _).mono ?_
        rintro e w1 ⟨rfl, rfl⟩
        rw [HD.out]
        go_wp2_with fail
        refine (HWD.out m).mono ?_
        rintro e w1 ⟨rfl, m2, rfl⟩
        rw [HXV.out]
        go_wp2_with fail
        refine (name_any X _).mono ?_
        rintro e w1 ⟨rfl, rfl⟩
        rw [HNM.out]
        go_wp2_with fail
        refine (clone_any X _ (by omega)).mono ?_
        rintro e w1 ⟨rfl, hb⟩
        have H1 : Hid (St w0 wa g s p cs w1) := by first | exact (HST.out.drewN _).to_below hb | exact ((HST.out.drewN _).drewN _).to_below hb
        clear hb
        go_wp2_with fail
        refine (take_any H1.out X ⟨5, 0, X.data.toList⟩ hXs hs (by omega)).mono ?_
        rintro e w2 ⟨rfl, h2⟩
        have H2 := Lib.hid h2; clear h2
        go_wp2
        go_ret
        rw [HRR.out]
        exact ⟨rfl, H2.out⟩
    · have e2 := b2
      rw [hl, decide_eq_true_iff] at e2
      have hx5 : X.size = 5 := by rw [← sz X, e2]; rfl
      have HRR : Hid (R = (true, p + X.size, cs ++ [opC 4])) := by
        have e1 := b1
        rw [hl, decide_eq_false_iff_not] at e1
        rw [HRX.out, if_neg e1, if_pos e2, hx5]; exact rfl
      clear HRX hl e2 hx5
      unfold rp at *
      go_enter Tryz.func135, Tryz.ntmps135
      go_wp2_with fail
      refine HX.out.mono ?_
      rintro e w1 ⟨rfl, m, rfl⟩
      go_wp2_with fail
      refine (exDigit_any _ _).mono ?_
      rintro e w1 ⟨rfl, rfl⟩
      rw [HD.out]
      go_wp2_with fail
      refine (HWD.out m).mono ?_
      rintro e w1 ⟨rfl, m2, rfl⟩
      rw [HXV.out]
      go_wp2_with fail
      refine (take_any (by first | exact HST.out.drewN _ | exact (HST.out.drewN _).drewN _) X (opC 4) hXs hs (by omega)).mono ?_
      rintro e w2 ⟨rfl, h2⟩
      have H2 := Lib.hid h2; clear h2
      go_wp2
      go_ret
      rw [HRR.out]
      exact ⟨rfl, H2.out⟩
  · have e1 := b1
    rw [hl, decide_eq_true_iff] at e1
    have hx4 : X.size = 4 := by rw [← sz X, e1]; rfl
    have HRR : Hid (R = (true, p + X.size, cs ++ [opC 3])) := by rw [HRX.out, if_pos e1, hx4]; exact rfl
    clear HRX hl e1 hx4
    unfold rp at *
    go_enter Tryz.func135, Tryz.ntmps135
    go_wp2_with fail
    refine HX.out.mono ?_
    rintro e w1 ⟨rfl, m, rfl⟩
    go_wp2_with fail
    refine (exDigit_any _ _).mono ?_
    rintro e w1 ⟨rfl, rfl⟩
    rw [HD.out]
    go_wp2_with fail
    refine (HWD.out m).mono ?_
    rintro e w1 ⟨rfl, m2, rfl⟩
    rw [HXV.out]
    go_wp2_with fail
    refine (take_any (by first | exact HST.out.drewN _ | exact (HST.out.drewN _).drewN _) X (opC 3) hXs hs (by omega)).mono ?_
    rintro e w2 ⟨rfl, h2⟩
    have H2 := Lib.hid h2; clear h2
    go_wp2
    go_ret
    rw [HRR.out]
    exact ⟨rfl, H2.out⟩
end Go.Proofs.YtjgfkmakfdepcaaGreatDoor
