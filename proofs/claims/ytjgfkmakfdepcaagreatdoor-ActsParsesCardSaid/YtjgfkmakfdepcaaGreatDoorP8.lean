/- Own texts, joined: Es, Et, Eu, F1, F2, F3. -/
import Derived.Test.YtjgfkmakfdepcaaGreatDoorP6
import Derived.Test.YtjgfkmakfdepcaaGreatDoorP7
namespace Go.Proofs.YtjgfkmakfdepcaaGreatDoor
open Go.RowKit

def pieceV (p : Pc) : List Value := [bstr p.1, .int .i64 p.2]
def flatP (st : List Pc) : List Value := st.flatMap pieceV
theorem flatP_append (a b : List Pc) : flatP (a ++ b) = flatP a ++ flatP b := by simp [flatP]
theorem flatP_one (c : Pc) : flatP [c] = pieceV c := by simp [flatP]
def none0 : Pc := ([], 0)
def stepP (st : List Pc) (c : CM) : List Pc := st.take (st.length - operN c.op) ++ [joinP c ((st.drop (st.length - operN c.op)).getD 0 none0) ((st.drop (st.length - operN c.op)).getD 1 none0)]
def stackP (cs : List CM) : List Pc := cs.foldl stepP []
/-- the text of a right list -/
def showP (cs : List CM) : List UInt8 × Int := if rightB cs = true then (((stackP cs).getD 0 none0).1, 0) else ([], 1)

def sumP : List Pc → Nat
  | [] => 0
  | p :: r => p.1.length + sumP r
theorem sumP_append (a b : List Pc) : sumP (a ++ b) = sumP a + sumP b := by
  induction a with
  | nil => simp [sumP]
  | cons p r ih => simp [sumP, ih]; omega
theorem sumP_two {st : List Pc} : (st.getD 0 none0).1.length + (st.getD 1 none0).1.length ≤ sumP st := by
  match st with
  | [] => simp [none0]
  | [p] => simp [none0, sumP]
  | p :: q :: r => simp [sumP]

theorem name_len {l : List UInt8} (h : nameB l = true) : l.length ≤ 12 := by
  rcases Nat.lt_or_ge 12 l.length with h1 | h1
  · rw [nameB_long h1] at h; cases h
  · exact h1
theorem formed_name {c : CM} (h : formedB c = true) : c.nm.length ≤ 12 := by
  unfold formedB at h
  split at h
  · simp at h; rw [h.1]; simp
  · split at h
    · simp at h; rw [h.1]; simp
    · split at h
      · simp at h; exact name_len h.2
      · simp at h; rw [h.2.2.2]; simp
theorem formed_num {c : CM} (h : formedB c = true) (ho : c.op = 1 ∨ c.op = 2) : 0 ≤ c.a ∧ c.a ≤ 1099511627776 := by
  unfold formedB at h
  rcases ho with e | e
  · rw [if_pos e] at h; simp at h; exact h.2
  · rw [if_neg (by omega), if_pos e] at h; simp at h; omega
theorem formed_op {c : CM} (h : formedB c = true) : 1 ≤ c.op ∧ c.op ≤ 23 := by
  unfold formedB at h
  split at h
  · omega
  · split at h
    · omega
    · split at h
      · omega
      · simp at h; exact ⟨h.1, h.2.1⟩

theorem betP_len (k : Nat) (u0 u1 : Pc) : (betP (tabAt k).2.1 (tabAt k).2.2 u0 u1).1.length ≤ u0.1.length + u1.1.length + 6 := by
  have h1 := inP_len u0.1 u0.2 (if (tabAt k).2.2 = 3 then (tabAt k).2.2 + 1 else (tabAt k).2.2)
  have h2 := inP_len u1.1 u1.2 ((tabAt k).2.2 + 1)
  have h3 := tab_len k
  unfold betP
  simp only [List.length_append]
  omega
theorem joinP_len {c : CM} (h : formedB c = true) (u0 u1 : Pc) : (joinP c u0 u1).1.length ≤ u0.1.length + u1.1.length + 110 := by
  have hn := formed_name h
  have h6 := inP_len u0.1 u0.2 6
  unfold joinP
  split
  · rename_i e; have := formed_num h (Or.inl e); have := itoa_short this.1 this.2; simp only; omega
  · split
    · rename_i e; have := formed_num h (Or.inr e); have := itoa_short this.1 this.2; simp only [List.length_append, List.length_singleton]; omega
    · split
      · simp [wTrue]
      · split
        · simp [wFalse]
        · split
          · simp only; omega
          · split
            · simp; omega
            · split
              · simp only [List.length_append, List.length_singleton]; omega
              · split
                · simp only [List.length_append, List.length_singleton]; omega
                · split
                  · simp; omega
                  · split
                    · simp; omega
                    · have := betP_len (c.op - 11).toNat u0 u1; omega

theorem stepP_sum {st : List Pc} {c : CM} (h : formedB c = true) : sumP (stepP st c) ≤ sumP st + 110 := by
  unfold stepP
  have h1 : sumP st = sumP (st.take (st.length - operN c.op)) + sumP (st.drop (st.length - operN c.op)) := by rw [← sumP_append, List.take_append_drop]
  rw [sumP_append]
  have h2 := joinP_len h ((st.drop (st.length - operN c.op)).getD 0 none0) ((st.drop (st.length - operN c.op)).getD 1 none0)
  have h3 := sumP_two (st := st.drop (st.length - operN c.op))
  simp only [sumP]
  omega
theorem stepP_length {st : List Pc} {c : CM} (h : operN c.op ≤ st.length) : (stepP st c).length = st.length + 1 - operN c.op := by
  unfold stepP
  simp; omega

end Go.Proofs.YtjgfkmakfdepcaaGreatDoor
namespace Go.Proofs.YtjgfkmakfdepcaaGreatDoor
open Go.RowKit

/-- the call's own list of pieces -/
structure OwnP (w : World) (st : List Pc) (v : Value) (w' : World) : Prop where
  own : w'.ownsRow w.heap.size 116 2 v st.length (flatP st)
  below : Below w.heap.size w w'

/-- behind k cells -/
structure ShK (cs : List CM) (k : Nat) (st : List Pc) : Prop where
  stk : stackP (cs.take k) = st
  run : runB (cs.drop k) st.length = some 1
  sum : sumP st ≤ 110 * k
  len : st.length ≤ k

theorem ShK.next {cs : List CM} {k : Nat} {st : List Pc} (h : ShK cs k st) (hk : k < cs.length) : formedB cs[k] = true ∧ operN cs[k].op ≤ st.length ∧ ShK cs (k + 1) (stepP st cs[k]) := by
  have hr := h.run
  rw [run_at hk] at hr
  split at hr
  · rename_i hc
    refine ⟨hc.1, hc.2, ?_, ?_, ?_, ?_⟩
    · unfold stackP
      rw [List.take_succ_eq_append_getElem hk, List.foldl_append]
      show stepP (stackP (cs.take k)) cs[k] = _
      rw [h.stk]
    · rw [stepP_length hc.2]; exact hr
    · have := stepP_sum (st := st) hc.1; have := h.sum; omega
    · rw [stepP_length hc.2]; have := h.len; omega
  · cases hr
theorem ShK.zero {cs : List CM} (h : rightB cs = true) : ShK cs 0 [] := by
  unfold rightB at h
  simp at h
  exact ⟨rfl, h.2, by simp [sumP], by simp⟩
theorem ShK.done {cs : List CM} {st : List Pc} (h : ShK cs cs.length st) : stackP cs = st ∧ st.length = 1 := by
  have h1 := h.stk; have h2 := h.run
  rw [List.take_length] at h1
  rw [List.drop_length] at h2
  exact ⟨h1, by simpa [runB] using h2⟩

theorem own_form {w : World} {base : Nat} {e : TypeId} {size n : Nat} {v : Value} {xs : List Value} (h : w.ownsRow base e size v n xs) : (v = .slice none 0 0 ∧ n = 0) ∨ ∃ g cap, v = .slice (some ⟨g, 0, none⟩) n cap ∧ n ≤ cap ∧ cap ≤ maxLen := by
  rcases h.2 with ⟨hv, h0⟩ | ⟨g, cap, cur, hv, _, _, h1, h2, _⟩
  · exact Or.inl ⟨hv, h0⟩
  · exact Or.inr ⟨g, cap, hv, h1, h2⟩
/-- what Show comes to -/
def ShowPost (cs : List CM) (w : World) (e : Ending) (w' : World) : Prop := e = .returned (.tuple #[.string ⟨(showP cs).1.toArray⟩, .int .i64 (showP cs).2]) ∧ Below w.heap.size w w'
theorem ShowPost.of {cs : List CM} {w w' : World} {X : ByteArray} {n : Int} (hX : X.data.toList = (showP cs).1) (hn : n = (showP cs).2) (hb : Below w.heap.size w w') : ShowPost cs w (.returned (.tuple #[.string X, .int .i64 n])) w' := by
  subst hn; unfold ShowPost; rw [← hX]; exact ⟨rfl, hb⟩

/-- behind a round: the new piece at the place of its operands -/
theorem OwnP.step {w wr w1 w2 : World} {st : List Pc} {v v' : Value} {c : CM} {n0 : Nat} {p : Pc} (h : OwnP w st v wr) (hn : st.length - operN c.op = n0) (hp : joinP c ((st.drop (st.length - operN c.op)).getD 0 none0) ((st.drop (st.length - operN c.op)).getD 1 none0) = p) (hb : Below wr.heap.size wr w1) {vp : Value} (hvp : vp.ownBlock = v.ownBlock)
    (hown : w2.ownsRow w.heap.size 116 2 v' (n0 + 1) (flatP (st.take n0) ++ pieceV p)) (hg : w1.grownBy w2 vp.ownBlock) (hle : n0 ≤ st.length) : OwnP w (stepP st c) v' w2 := by
  have e : stepP st c = st.take n0 ++ [p] := by unfold stepP; rw [hp, hn]
  refine ⟨?_, ?_⟩
  · rw [e, flatP_append, flatP_one, List.length_append, List.length_take, Nat.min_eq_left hle]
    exact hown
  · have h1 := h.below.trans (hb.mono h.below.size)
    exact h1.grown hg h1.size (fun k hk => by rw [hvp] at hk; exact (h.own.lt k hk).1)

end Go.Proofs.YtjgfkmakfdepcaaGreatDoor
namespace Go.Proofs.YtjgfkmakfdepcaaGreatDoor
open Go.RowKit

/-- what comes in as a slice of cells: nil, or cells that are read -/
def RdI (w : World) (v : Value) (cs : List CM) : Prop := (v = .slice none 0 0 ∧ cs = []) ∨ ∃ ad c, v = .slice (some ad) cs.length c ∧ RdC w v cs
theorem RdI.rd {w : World} {v : Value} {cs : List CM} (h : RdI w v cs) : RdC w v cs := by
  rcases h with ⟨rfl, rfl⟩ | ⟨_, _, _, h⟩
  · exact ⟨_, _, rfl, fun i hi => absurd hi (by simp)⟩
  · exact h
theorem RdI.below {w w' : World} {v : Value} {cs : List CM} (h : RdI w v cs) (hb : Below w.heap.size w w') : RdI w' v cs := by
  rcases h with h | ⟨ad, c, e, h⟩
  · exact Or.inl h
  · exact Or.inr ⟨ad, c, e, h.below hb⟩

theorem flat_get {cs : List CM} {j : Nat} {u : Value} (h : (flat cs)[j]? = some u) : ∃ i, ∃ hi : i < cs.length, (j = i * 3 ∧ u = .int .i64 cs[i].op) ∨ (j = i * 3 + 1 ∧ u = .int .i64 cs[i].a) ∨ (j = i * 3 + 2 ∧ u = bstr cs[i].nm) := by
  have hj : j < cs.length * 3 := by
    rw [← flat_length]
    exact (List.getElem?_eq_some_iff.1 h).1
  have hi : j / 3 < cs.length := by omega
  refine ⟨j / 3, hi, ?_⟩
  obtain ⟨f0, f1, f2⟩ := flat_at hi
  have hc : j = j / 3 * 3 ∨ j = j / 3 * 3 + 1 ∨ j = j / 3 * 3 + 2 := by omega
  rcases hc with e | e | e
  · rw [← e, h] at f0; exact Or.inl ⟨e, Option.some.inj f0⟩
  · rw [← e, h] at f1; exact Or.inr (Or.inl ⟨e, Option.some.inj f1⟩)
  · rw [← e, h] at f2; exact Or.inr (Or.inr ⟨e, Option.some.inj f2⟩)
theorem add_lit' (b o n : Nat) : (⟨b, o, none⟩ : Addr).add n = ⟨b, o + n, none⟩ := by unfold Addr.add; by_cases h : n = 0 <;> simp [h]
theorem RdC.news {w : World} {ad : Addr} {n c : Nat} {cs : List CM} (h : RdC w (.slice (some ad) n c) cs) (o : Obj) : ∀ j u, (flat cs)[j]? = some u → (w.alloc o).cell? (ad.add j) = some u := by
  intro j u hu
  obtain ⟨i, hi, hc⟩ := flat_get hu
  obtain ⟨A, c', hv, hr⟩ := h
  obtain ⟨b, k, rfl, d0, d1, d2⟩ := hr i hi
  simp only [Value.slice.injEq, Option.some.injEq] at hv
  rw [hv.1, add_lit']
  rcases hc with ⟨rfl, rfl⟩ | ⟨rfl, rfl⟩ | ⟨rfl, rfl⟩
  · exact (World.cell?_alloc_lt w _ _ (cell_lt d0)).trans d0
  · rw [← Nat.add_assoc]; exact (World.cell?_alloc_lt w _ _ (cell_lt d1)).trans d1
  · rw [← Nat.add_assoc]; exact (World.cell?_alloc_lt w _ _ (cell_lt d2)).trans d2
theorem cm_eq {a b : CM} : a = b ↔ a.op = b.op ∧ a.a = b.a ∧ a.nm = b.nm := by cases a; cases b; simp

set_option maxRecDepth 100000 in
set_option maxHeartbeats 2000000 in
theorem same_any (va vb : Value) (xs ys : List CM) (w : World) (ha : RdC w va xs) (hb : RdC w vb ys) (hx : xs.length ≤ 140737488355328) :
    Calls Tryz.prog 34 #[va, vb] w fun e w' => e = .returned (.bool (decide (xs = ys))) ∧ ∃ n, w' = w.drewN n := by
  obtain ⟨A, c, rfl, ha⟩ := ha
  obtain ⟨B, d, rfl, hb⟩ := hb
  have HA := Lib.hid ha; have HB := Lib.hid hb; clear ha hb
  by_cases hlen : xs.length = ys.length
  · obtain ⟨n, hxl⟩ : ∃ n, xs.length = n := ⟨_, rfl⟩
    have hyl : ys.length = n := by omega
    rw [hxl] at hx
    have HXL := Lib.hid hxl; have HYL := Lib.hid hyl
    rw [hxl, hyl]
    clear hlen hxl hyl
    have hr : ∀ k, xs.take k = ys.take k → ¬ k < n → decide (xs = ys) = true := by
      intro k h hk
      rw [List.take_of_length_le (by rw [HXL.out]; omega), List.take_of_length_le (by rw [HYL.out]; omega)] at h
      exact decide_eq_true h
    have HR := Lib.hid hr; clear hr
    go_enter Tryz.func34, Tryz.ntmps34
    go_wp2
    go_loopw [4, 5] (fun x i wr => x = .bool false ∧ ∃ k m : Nat, k ≤ n ∧ Hid (xs.take k = ys.take k) ∧ wr = w.drewN m ∧ i = .int .i64 k) (fun _ i _ => n - (intOf i).toNat)
    case atStart => exact ⟨rfl, 0, 0, by omega, rfl, rfl, rfl⟩
    case round =>
      obtain ⟨rfl, k, m, hk, HT, rfl, rfl⟩ := hrel
      by_cases hkn : k < n
      · obtain ⟨b1, o1, rfl, c0, c1, c2⟩ := HA.out k (by rw [HXL.out]; exact hkn)
        obtain ⟨b2, o2, rfl, d0, d1, d2⟩ := HB.out k (by rw [HYL.out]; exact hkn)
        unfold bstr at c2 d2
        obtain ⟨X, hX⟩ : ∃ X : ByteArray, X = ⟨(xs[k]'(by rw [HXL.out]; exact hkn)).nm.toArray⟩ := ⟨_, rfl⟩
        obtain ⟨Y, hY⟩ : ∃ Y : ByteArray, Y = ⟨(ys[k]'(by rw [HYL.out]; exact hkn)).nm.toArray⟩ := ⟨_, rfl⟩
        obtain ⟨x1, hx1⟩ : ∃ z, (xs[k]'(by rw [HXL.out]; exact hkn)).op = z := ⟨_, rfl⟩
        obtain ⟨x2, hx2⟩ : ∃ z, (xs[k]'(by rw [HXL.out]; exact hkn)).a = z := ⟨_, rfl⟩
        obtain ⟨y1, hy1⟩ : ∃ z, (ys[k]'(by rw [HYL.out]; exact hkn)).op = z := ⟨_, rfl⟩
        obtain ⟨y2, hy2⟩ : ∃ z, (ys[k]'(by rw [HYL.out]; exact hkn)).a = z := ⟨_, rfl⟩
        rw [← hX] at c2; rw [← hY] at d2
        rw [hx1] at c0; rw [hx2] at c1; rw [hy1] at d0; rw [hy2] at d1
        have hXl : X.data.toList = (xs[k]'(by rw [HXL.out]; exact hkn)).nm := by rw [hX]
        have hYl : Y.data.toList = (ys[k]'(by rw [HYL.out]; exact hkn)).nm := by rw [hY]
        have hE : xs[k]'(by rw [HXL.out]; exact hkn) = ys[k]'(by rw [HYL.out]; exact hkn) ↔ x1 = y1 ∧ x2 = y2 ∧ X.data.toList = Y.data.toList := by rw [cm_eq, hx1, hx2, hy1, hy2, hXl, hYl]
        have HE := Lib.hid hE
        clear hX hY hx1 hx2 hy1 hy2 hXl hYl hE
        have hno : (¬ (x1 = y1 ∧ x2 = y2 ∧ X.data.toList = Y.data.toList)) → decide (xs = ys) = false := fun h => decide_eq_false (fun e => h (HE.out.1 (by subst e; rfl)))
        have HNO := Lib.hid hno; clear hno
        by_cases e1 : x1 = y1
        · subst e1
          by_cases e2 : x2 = y2
          · subst e2
            by_cases e3 : X.data.toList = Y.data.toList
            · have hs : xs.take (k + 1) = ys.take (k + 1) := by
                rw [List.take_succ_eq_append_getElem (by rw [HXL.out]; exact hkn), List.take_succ_eq_append_getElem (by rw [HYL.out]; exact hkn), HT.out, HE.out.2 ⟨rfl, rfl, e3⟩]
              have HS := Lib.hid hs; clear hs
              obtain rfl : X = Y := by apply ByteArray.ext; exact Array.toList_inj.1 e3
              clear e3
              go_wp2
              go_quiet (fail)
              go_wp2
              go_roundw
              case rel => exact ⟨rfl, k + 1, m + nq, by omega, HS.out, rfl, by go_num⟩
              case measure => simp [intOf]; omega
            · have hne : (X.toList == Y.toList) = false := by
                rw [Lib.toList_data, Lib.toList_data]
                exact beq_eq_false_iff_ne.2 e3
              have HD := Lib.hid (HNO.out (fun h => e3 h.2.2))
              clear e3
              go_wp2
              go_quiet (fail)
              go_wp2
              go_ret
              exact ⟨ret_bool HD.out.symm, m + nq, World.drewN_drewN _ _ _⟩
          · have t2 := int_ne e2
            have HD := Lib.hid (HNO.out (fun h => e2 h.2.1))
            clear e2
            go_wp2
            go_quiet (fail)
            go_wp2
            go_ret
            exact ⟨ret_bool HD.out.symm, m + nq, World.drewN_drewN _ _ _⟩
        · have t1 := int_ne e1
          have HD := Lib.hid (HNO.out (fun h => e1 h.1))
          clear e1
          go_wp2
          go_quiet (fail)
          go_wp2
          go_ret
          exact ⟨ret_bool HD.out.symm, m + nq, World.drewN_drewN _ _ _⟩
      · have HD := Lib.hid (HR.out k HT.out hkn)
        go_wp2
        go_ret
        exact ⟨ret_bool HD.out.symm, m, rfl⟩
  · have hr : decide (xs = ys) = false := decide_eq_false (fun e => hlen (by rw [e]))
    have hl' : ((xs.length : Int) == (ys.length : Int)) = false := beq_eq_false_iff_ne.2 (by omega)
    rw [hr]; clear hr hlen
    go_enter Tryz.func34, Tryz.ntmps34
    go_wp2
    go_ret
    exact ⟨rfl, 0, rfl⟩

theorem own_slice {w : World} {base : Nat} {e : TypeId} {size n : Nat} {v : Value} {xs : List Value} (h : w.ownsRow base e size v n xs) : ∃ A c, v = .slice A n c := by
  rcases own_form h with ⟨rfl, rfl⟩ | ⟨g, cap, rfl, _⟩
  · exact ⟨_, _, rfl⟩
  · exact ⟨_, _, rfl⟩

end Go.Proofs.YtjgfkmakfdepcaaGreatDoor
namespace Go.Proofs.YtjgfkmakfdepcaaGreatDoor
open Go.RowKit

theorem op_cases5 (op : Int) : op = 1 ∨ op = 2 ∨ op = 5 ∨ op = 6 ∨ (op ≠ 1 ∧ op ≠ 2 ∧ op ≠ 5 ∧ op ≠ 6) := by omega
/-- the document's count of operands; -1: none -/
def opsR (c : CM) : Int := if formedB c = true then operN c.op else -1
theorem opsR_no {c : CM} (h : formedB c = false) : opsR c = -1 := by unfold opsR; rw [h]; rfl
theorem opsR_yes {c : CM} (h : formedB c = true) : opsR c = operN c.op := by unfold opsR; rw [if_pos h]
theorem ret_int {k : IntKind} {a b : Int} (h : a = b) : Ending.returned (.int k a) = .returned (.int k b) := by rw [h]

set_option maxRecDepth 100000 in
set_option maxHeartbeats 4000000 in
theorem refOperands_any (c : CM) (w : World) (hl : c.nm.length ≤ 9223372036854775807) :
    Calls Tryz.prog 75 #[.agg #[.int .i64 c.op, .int .i64 c.a, bstr c.nm]] w fun e w' => e = .returned (.int .i64 (opsR c)) ∧ Below w.heap.size w w' := by
  obtain ⟨op, a, nm⟩ := c
  obtain ⟨X, hX⟩ : ∃ X : ByteArray, X = ⟨nm.toArray⟩ := ⟨_, rfl⟩
  have hXl : X.data.toList = nm := by rw [hX]
  have hb : bstr nm = .string X := by rw [hX]; rfl
  simp only at hl ⊢
  rw [hb]
  clear hb hX
  subst hXl
  rw [sz0] at hl
  have HB : Hid (∀ W : World, ∀ o : Obj, Below W.heap.size W (W.alloc o)) := fun W o => (Below.refl _ _).alloc (Nat.le_refl _) o
  have HN := Lib.hid (refName_any X)
  by_cases hx : X.size = 0
  · have hnil : X.data.toList = [] := List.eq_nil_of_length_eq_zero (by rw [sz0]; exact hx)
    have hx0 : decide ((0 : Int) < X.size) = false := decide_eq_false (by omega)
    have hx1 : decide (0 < X.size) = false := decide_eq_false (by omega)
    have hx2 : ¬ 0 < X.size := by omega
    have HNIL := Lib.hid hnil
    clear hx hl hnil
    rcases op_cases5 op with rfl | rfl | rfl | rfl | ⟨h1, h2, h5, h6⟩
    · by_cases ha : a < 0
      · have HR := Lib.hid (opsR_no (c := ⟨1, a, X.data.toList⟩) (by simp [formedB]; omega))
        go_enter Tryz.func75, Tryz.ntmps75
        go_wp2
        go_ret
        exact ⟨ret_int HR.out.symm, HB.out _ _⟩
      · have ha0 := decide_eq_false ha
        by_cases hb : 1099511627776 < a
        · have HR := Lib.hid (opsR_no (c := ⟨1, a, X.data.toList⟩) (by simp [formedB]; omega))
          go_enter Tryz.func75, Tryz.ntmps75
          go_wp2
          go_ret
          exact ⟨ret_int HR.out.symm, HB.out _ _⟩
        · have hb0 := decide_eq_false hb
          have HR := Lib.hid (opsR_yes (c := ⟨1, a, X.data.toList⟩) (by simp [formedB, HNIL.out]; omega))
          clear ha hb
          go_enter Tryz.func75, Tryz.ntmps75
          go_wp2
          go_ret
          exact ⟨ret_int HR.out.symm, HB.out _ _⟩
    · by_cases ha : a < 0
      · have HR := Lib.hid (opsR_no (c := ⟨2, a, X.data.toList⟩) (by simp [formedB]; omega))
        go_enter Tryz.func75, Tryz.ntmps75
        go_wp2
        go_ret
        exact ⟨ret_int HR.out.symm, HB.out _ _⟩
      · have ha0 := decide_eq_false ha
        by_cases hb : 1048576 < a
        · have HR := Lib.hid (opsR_no (c := ⟨2, a, X.data.toList⟩) (by simp [formedB]; omega))
          go_enter Tryz.func75, Tryz.ntmps75
          go_wp2
          go_ret
          exact ⟨ret_int HR.out.symm, HB.out _ _⟩
        · have hb0 := decide_eq_false hb
          have HR := Lib.hid (opsR_yes (c := ⟨2, a, X.data.toList⟩) (by simp [formedB, HNIL.out]; omega))
          clear ha hb
          go_enter Tryz.func75, Tryz.ntmps75
          go_wp2
          go_ret
          exact ⟨ret_int HR.out.symm, HB.out _ _⟩
    · have HR := Lib.hid (opsR_no (c := ⟨5, a, X.data.toList⟩) (by simp [formedB, HNIL.out, nameB]))
      go_enter Tryz.func75, Tryz.ntmps75
      go_wp2
      go_ret
      exact ⟨ret_int HR.out.symm, HB.out _ _⟩
    · have HR := Lib.hid (opsR_no (c := ⟨6, a, X.data.toList⟩) (by simp [formedB, HNIL.out, nameB]))
      go_enter Tryz.func75, Tryz.ntmps75
      go_wp2
      go_ret
      exact ⟨ret_int HR.out.symm, HB.out _ _⟩
    · have n1 := int_ne h1
      have n2 := int_ne h2
      have n5 := int_ne h5
      have n6 := int_ne h6
      have hF : formedB ⟨op, a, X.data.toList⟩ = (decide (1 ≤ op) && (decide (op ≤ 23) && decide (a = 0))) := by simp [formedB, h1, h2, h5, h6, HNIL.out]
      have HF := Lib.hid hF
      clear hF
      by_cases ha : a = 0
      · subst ha
        by_cases hlo : op < 1
        · have HR := Lib.hid (opsR_no (c := ⟨op, 0, X.data.toList⟩) (by rw [HF.out, decide_eq_false (by omega)]; rfl))
          go_enter Tryz.func75, Tryz.ntmps75
          go_wp2
          go_ret
          exact ⟨ret_int HR.out.symm, HB.out _ _⟩
        · have hlo0 := decide_eq_false hlo
          by_cases hhi : 23 < op
          · have HR := Lib.hid (opsR_no (c := ⟨op, 0, X.data.toList⟩) (by rw [HF.out, decide_eq_false (show ¬ op ≤ 23 by omega)]; simp))
            go_enter Tryz.func75, Tryz.ntmps75
            go_wp2
            go_ret
            exact ⟨ret_int HR.out.symm, HB.out _ _⟩
          · have hhi0 := decide_eq_false hhi
            have HR := Lib.hid (opsR_yes (c := ⟨op, 0, X.data.toList⟩) (by rw [HF.out, decide_eq_true (show 1 ≤ op by omega), decide_eq_true (show op ≤ 23 by omega)]; rfl))
            by_cases h6' : op ≤ 6
            · have HR2 : Hid (opsR ⟨op, 0, X.data.toList⟩ = 0) := by rw [HR.out]; unfold operN; rw [if_pos (by simp only; omega)]; exact rfl
              clear hlo hhi h1 h2 h5 h6
              go_enter Tryz.func75, Tryz.ntmps75
              go_wp2
              go_ret
              exact ⟨ret_int HR2.out.symm, HB.out _ _⟩
            · have h6d := decide_eq_false h6'
              by_cases h10 : op ≤ 10
              · have HR2 : Hid (opsR ⟨op, 0, X.data.toList⟩ = 1) := by rw [HR.out]; unfold operN; rw [if_neg (by simp only; omega), if_pos (by simp only; omega)]; exact rfl
                clear hlo hhi h6' h1 h2 h5 h6
                go_enter Tryz.func75, Tryz.ntmps75
                go_wp2
                go_ret
                exact ⟨ret_int HR2.out.symm, HB.out _ _⟩
              · have h10d := decide_eq_false h10
                have HR2 : Hid (opsR ⟨op, 0, X.data.toList⟩ = 2) := by rw [HR.out]; unfold operN; rw [if_neg (by simp only; omega), if_neg (by simp only; omega)]; exact rfl
                clear hlo hhi h6' h10 h1 h2 h5 h6
                go_enter Tryz.func75, Tryz.ntmps75
                go_wp2
                go_ret
                exact ⟨ret_int HR2.out.symm, HB.out _ _⟩
      · have ha0 : (a != 0) = true := bne_iff_ne.2 ha
        have HR := Lib.hid (opsR_no (c := ⟨op, a, X.data.toList⟩) (by rw [HF.out, decide_eq_false ha]; simp))
        clear ha
        go_enter Tryz.func75, Tryz.ntmps75
        go_wp2
        go_ret
        exact ⟨ret_int HR.out.symm, HB.out _ _⟩
  · have hx0 : (0 : Int) < X.size := by omega
    have hx1 : 0 < X.size := by omega
    have hne : X.data.toList ≠ [] := fun e => hx (by rw [← sz0, e]; rfl)
    have HNE := Lib.hid hne
    clear hx
    rcases op_cases5 op with rfl | rfl | rfl | rfl | ⟨h1, h2, h5, h6⟩
    · have HR := Lib.hid (opsR_no (c := ⟨1, a, X.data.toList⟩) (by simp [formedB, hne]))
      clear hne
      go_enter Tryz.func75, Tryz.ntmps75
      go_wp2
      go_ret
      exact ⟨ret_int HR.out.symm, HB.out _ _⟩
    · have HR := Lib.hid (opsR_no (c := ⟨2, a, X.data.toList⟩) (by simp [formedB, hne]))
      clear hne
      go_enter Tryz.func75, Tryz.ntmps75
      go_wp2
      go_ret
      exact ⟨ret_int HR.out.symm, HB.out _ _⟩
    · clear hne
      cases hn : nameB X.data.toList
      · have HNN := Lib.hid hn
        have HR := Lib.hid (opsR_no (c := ⟨5, a, X.data.toList⟩) (by simp [formedB, hn]))
        clear hn
        go_enter Tryz.func75, Tryz.ntmps75
        go_wp2_with fail
        refine (HN.out _).mono ?_
        rintro e w1 ⟨rfl, rfl⟩
        rw [HNN.out]
        go_wp2
        go_ret
        exact ⟨ret_int HR.out.symm, HB.out _ _⟩
      · have HNN := Lib.hid hn
        by_cases ha : a = 0
        · subst ha
          have HR := Lib.hid (opsR_yes (c := ⟨5, 0, X.data.toList⟩) (by simp [formedB, hn]))
          clear hn
          go_enter Tryz.func75, Tryz.ntmps75
          go_wp2_with fail
          refine (HN.out _).mono ?_
          rintro e w1 ⟨rfl, rfl⟩
          rw [HNN.out]
          go_wp2
          go_ret
          exact ⟨ret_int HR.out.symm, HB.out _ _⟩
        · have ha0 : (a != 0) = true := bne_iff_ne.2 ha
          have HR := Lib.hid (opsR_no (c := ⟨5, a, X.data.toList⟩) (by simp [formedB, ha]))
          clear hn ha
          go_enter Tryz.func75, Tryz.ntmps75
          go_wp2_with fail
          refine (HN.out _).mono ?_
          rintro e w1 ⟨rfl, rfl⟩
          rw [HNN.out]
          go_wp2
          go_ret
          exact ⟨ret_int HR.out.symm, HB.out _ _⟩
    · clear hne
      cases hn : nameB X.data.toList
      · have HNN := Lib.hid hn
        have HR := Lib.hid (opsR_no (c := ⟨6, a, X.data.toList⟩) (by simp [formedB, hn]))
        clear hn
        go_enter Tryz.func75, Tryz.ntmps75
        go_wp2_with fail
        refine (HN.out _).mono ?_
        rintro e w1 ⟨rfl, rfl⟩
        rw [HNN.out]
        go_wp2
        go_ret
        exact ⟨ret_int HR.out.symm, HB.out _ _⟩
      · have HNN := Lib.hid hn
        by_cases ha : a = 0
        · subst ha
          have HR := Lib.hid (opsR_yes (c := ⟨6, 0, X.data.toList⟩) (by simp [formedB, hn]))
          clear hn
          go_enter Tryz.func75, Tryz.ntmps75
          go_wp2_with fail
          refine (HN.out _).mono ?_
          rintro e w1 ⟨rfl, rfl⟩
          rw [HNN.out]
          go_wp2
          go_ret
          exact ⟨ret_int HR.out.symm, HB.out _ _⟩
        · have ha0 : (a != 0) = true := bne_iff_ne.2 ha
          have HR := Lib.hid (opsR_no (c := ⟨6, a, X.data.toList⟩) (by simp [formedB, ha]))
          clear hn ha
          go_enter Tryz.func75, Tryz.ntmps75
          go_wp2_with fail
          refine (HN.out _).mono ?_
          rintro e w1 ⟨rfl, rfl⟩
          rw [HNN.out]
          go_wp2
          go_ret
          exact ⟨ret_int HR.out.symm, HB.out _ _⟩
    · have n1 := int_ne h1
      have n2 := int_ne h2
      have n5 := int_ne h5
      have n6 := int_ne h6
      have HR := Lib.hid (opsR_no (c := ⟨op, a, X.data.toList⟩) (by simp [formedB, h1, h2, h5, h6, hne]))
      clear hne h1 h2 h5 h6
      go_enter Tryz.func75, Tryz.ntmps75
      go_wp2
      go_ret
      exact ⟨ret_int HR.out.symm, HB.out _ _⟩
end Go.Proofs.YtjgfkmakfdepcaaGreatDoor
namespace Go.Proofs.YtjgfkmakfdepcaaGreatDoor

inductive T where
  | leaf (c : CM)
  | un (o : Int) (t : T)
  | bin (o : Int) (l r : T)

def post : T → List CM
  | .leaf c => [c]
  | .un o t => post t ++ [opC o]
  | .bin o l r => post l ++ post r ++ [opC o]
def OkT : T → Prop
  | .leaf c => formedB c = true ∧ operN c.op = 0
  | .un o t => 7 ≤ o ∧ o ≤ 10 ∧ OkT t
  | .bin o l r => 11 ≤ o ∧ o ≤ 23 ∧ OkT l ∧ OkT r
def pcT : T → Pc
  | .leaf c => joinP c none0 none0
  | .un o t => joinP (opC o) (pcT t) none0
  | .bin o l r => joinP (opC o) (pcT l) (pcT r)

theorem operN_un {o : Int} (h : 7 ≤ o ∧ o ≤ 10) : operN o = 1 := by unfold operN; rw [if_neg (by omega), if_pos h]
theorem operN_bin {o : Int} (h : 11 ≤ o ∧ o ≤ 23) : operN o = 2 := by unfold operN; rw [if_neg (by omega), if_neg (by omega)]
theorem formed_opC {o : Int} (h : 7 ≤ o ∧ o ≤ 23) : formedB (opC o) = true := by
  unfold formedB opC
  simp only
  rw [if_neg (by omega), if_neg (by omega), if_neg (by omega), decide_eq_true (show 1 ≤ o by omega), decide_eq_true (show o ≤ 23 by omega)]; rfl
theorem opC_of {c : CM} (h : formedB c = true) (ho : 1 ≤ operN c.op) : c = opC c.op ∧ 7 ≤ c.op := by
  have h7 : 7 ≤ c.op := by
    have := formed_op h
    unfold operN at ho
    split at ho
    · omega
    · omega
  refine ⟨?_, h7⟩
  unfold formedB at h
  rw [if_neg (by omega), if_neg (by omega), if_neg (by omega)] at h
  simp at h
  cases c; simp at h; simp [opC, h]

theorem fold_post {t : T} (h : OkT t) (st : List Pc) : (post t).foldl stepP st = st ++ [pcT t] := by
  induction t generalizing st with
  | leaf c =>
    show stepP st c = _
    unfold stepP
    rw [h.2, Nat.sub_zero, List.take_length, List.drop_length]
    rfl
  | un o t ih =>
    show (post t ++ [opC o]).foldl stepP st = _
    rw [List.foldl_append, ih h.2.2]
    show stepP (st ++ [pcT t]) (opC o) = _
    unfold stepP
    rw [show operN (opC o).op = 1 from operN_un ⟨h.1, h.2.1⟩]
    simp [pcT]
  | bin o l r ihl ihr =>
    show (post l ++ post r ++ [opC o]).foldl stepP st = _
    rw [List.foldl_append, List.foldl_append, ihl h.2.2.1, ihr h.2.2.2]
    show stepP (st ++ [pcT l] ++ [pcT r]) (opC o) = _
    unfold stepP
    rw [show operN (opC o).op = 2 from operN_bin ⟨h.1, h.2.1⟩]
    simp [pcT]

theorem run_post {t : T} (h : OkT t) (r : List CM) (v : Nat) : runB (post t ++ r) v = runB r (v + 1) := by
  induction t generalizing r v with
  | leaf c =>
    show (if formedB c = true ∧ operN c.op ≤ v then runB r (v + 1 - operN c.op) else none) = _
    rw [h.2, if_pos ⟨h.1, Nat.zero_le _⟩]; rfl
  | un o t ih =>
    show runB (post t ++ [opC o] ++ r) v = _
    rw [List.append_assoc, ih h.2.2]
    show (if formedB (opC o) = true ∧ operN o ≤ v + 1 then runB r (v + 1 + 1 - operN o) else none) = _
    rw [operN_un ⟨h.1, h.2.1⟩, if_pos ⟨formed_opC ⟨h.1, by have := h.2.1; omega⟩, by omega⟩]; rfl
  | bin o l r' ihl ihr =>
    show runB (post l ++ post r' ++ [opC o] ++ r) v = _
    rw [List.append_assoc, List.append_assoc, ihl h.2.2.1, ihr h.2.2.2]
    show (if formedB (opC o) = true ∧ operN o ≤ v + 1 + 1 then runB r (v + 1 + 1 + 1 - operN o) else none) = _
    rw [operN_bin ⟨h.1, h.2.1⟩, if_pos ⟨formed_opC ⟨by have := h.1; omega, h.2.1⟩, by omega⟩]; rfl

/-- several trees, their cells one behind the other -/
def OkAll (ts : List T) : Prop := ∀ t ∈ ts, OkT t
theorem trees_of : ∀ (cs : List CM) (ts : List T) (n : Nat), OkAll ts → runB cs ts.length = some n → ∃ ts', OkAll ts' ∧ ts'.flatMap post = ts.flatMap post ++ cs ∧ ts'.length = n := by
  intro cs
  induction cs with
  | nil => intro ts n ho hr; exact ⟨ts, ho, by simp, by simpa [runB] using hr⟩
  | cons c r ih =>
    intro ts n ho hr
    unfold runB at hr
    split at hr
    · rename_i hc
      obtain ⟨hf, hle⟩ := hc
      have h2 := operN_le c.op
      have hcs : operN c.op = 0 ∨ operN c.op = 1 ∨ operN c.op = 2 := by omega
      rcases hcs with h0 | h0 | h0
      · rw [h0] at hr
        obtain ⟨ts', h1, h2, h3⟩ := ih (ts ++ [.leaf c]) n (by
          intro t ht
          rcases List.mem_append.1 ht with h | h
          · exact ho t h
          · simp at h; subst h; exact ⟨hf, h0⟩) (by simpa using hr)
        exact ⟨ts', h1, by rw [h2]; simp [post], h3⟩
      · obtain ⟨hc1, hc7⟩ := opC_of hf (by omega)
        rcases List.eq_nil_or_concat ts with rfl | ⟨ts0, a, rfl⟩
        · simp at hle; omega
        · rw [List.concat_eq_append] at *
          have h10 : c.op ≤ 10 := by
            unfold operN at h0
            split at h0
            · omega
            · split at h0 <;> omega
          obtain ⟨ts', h1, h2, h3⟩ := ih (ts0 ++ [.un c.op a]) n (by
            intro t ht
            rcases List.mem_append.1 ht with h | h
            · exact ho t (List.mem_append_left _ h)
            · simp at h; subst h; exact ⟨hc7, h10, ho a (by simp)⟩) (by rw [h0] at hr; simpa using hr)
          refine ⟨ts', h1, ?_, h3⟩
          rw [h2]
          simp only [List.flatMap_append, List.flatMap_cons, List.flatMap_nil, List.append_nil, List.append_assoc, post]
          rw [← hc1]; rfl
      · obtain ⟨hc1, hc7⟩ := opC_of hf (by omega)
        rcases List.eq_nil_or_concat ts with rfl | ⟨ts1, b, rfl⟩
        · simp at hle; omega
        · rw [List.concat_eq_append] at *
          rcases List.eq_nil_or_concat ts1 with rfl | ⟨ts0, a, rfl⟩
          · simp at hle; omega
          · rw [List.concat_eq_append] at *
            have h10 : 11 ≤ c.op := by
              unfold operN at h0
              split at h0
              · omega
              · split at h0 <;> omega
            obtain ⟨ts', h1, h2, h3⟩ := ih (ts0 ++ [.bin c.op a b]) n (by
              intro t ht
              rcases List.mem_append.1 ht with h | h
              · exact ho t (List.mem_append_left _ (List.mem_append_left _ h))
              · simp at h; subst h; exact ⟨h10, (formed_op hf).2, ho a (by simp), ho b (by simp)⟩) (by rw [h0] at hr; simpa using hr)
            refine ⟨ts', h1, ?_, h3⟩
            rw [h2]
            simp only [List.flatMap_append, List.flatMap_cons, List.flatMap_nil, List.append_nil, List.append_assoc, post]
            rw [← hc1]; rfl
    · cases hr

theorem right_tree {cs : List CM} (h : rightB cs = true) : ∃ t, OkT t ∧ post t = cs := by
  unfold rightB at h
  simp at h
  obtain ⟨ts, h1, h2, h3⟩ := trees_of cs [] 1 (by intro t ht; cases ht) h.2
  match ts, h3 with
  | [t], _ => exact ⟨t, h1 t (by simp), by simpa using h2⟩
theorem tree_right {t : T} (h : OkT t) (hl : (post t).length ≤ 32) : rightB (post t) = true := by
  unfold rightB
  have := run_post h [] 0
  rw [List.append_nil] at this
  rw [this, decide_eq_true hl]; rfl
theorem tree_show {t : T} (h : OkT t) (hl : (post t).length ≤ 32) : showP (post t) = ((pcT t).1, 0) := by
  unfold showP
  rw [if_pos (tree_right h hl)]
  unfold stackP
  rw [fold_post h]; rfl
end Go.Proofs.YtjgfkmakfdepcaaGreatDoor
namespace Go.Proofs.YtjgfkmakfdepcaaGreatDoor

theorem wordD_same {s : List UInt8} {p : Nat} {cs : List CM} {a b : Rs} (h : p + 3 ≤ s.length → a = b) : wordD s p cs (wordP s p) a = wordD s p cs (wordP s p) b := by
  unfold wordD
  split
  · rfl
  · split
    · rfl
    · split
      · rfl
      · split
        · rfl
        · rename_i h40
          have h3 := nx_lt (s := s) (p := p + (wordP s p).length) (by rw [Decidable.not_not.1 h40]; decide)
          split
          · rfl
          · split
            · rename_i e; rw [e] at h3; simp [wRe] at h3; rw [h (by omega)]
            · split
              · rename_i e; rw [e] at h3; simp [wIm] at h3; rw [h (by omega)]
              · rfl

def goodQ : Q → Prop
  | .joins k => 1 ≤ k ∧ k ≤ 6
  | .loop k _ => 1 ≤ k ∧ k ≤ 5
  | .ahead => True

/-- one round more changes nothing, where there are enough -/
theorem more (s : List UInt8) : ∀ (n : Nat) (q : Q) (p : Nat) (cs : List CM), goodQ q → p ≤ s.length → need s q p ≤ n → D s (n + 1) q p cs = D s n q p cs := by
  intro n
  induction n with
  | zero => intro q p cs hg hp hn; cases q <;> simp only [need, goodQ] at hn hg <;> omega
  | succ n ih =>
    intro q p cs hg hp hn
    cases q with
    | joins k =>
      rw [D_joins s (n + 1) k p cs, D_joins s n k p cs]
      by_cases h6 : k = 6
      · subst h6
        rw [if_pos rfl, if_pos rfl]
        exact ih .ahead p cs trivial hp (by simp only [need] at *; omega)
      · rw [if_neg h6, if_neg h6]
        have hk : k ≤ 6 := hg.2
        have h1 := ih (.joins (k + 1)) p cs ⟨by omega, by omega⟩ hp (by simp only [need] at *; omega)
        rw [h1]
        by_cases hb : (D s n (.joins (k + 1)) p cs).1 = true
        · rw [if_pos hb, if_pos hb]
          have hgo := goes s n (.joins (k + 1)) p cs hp
          have hgt : p < (D s n (.joins (k + 1)) p cs).2.1 := hgo.gt hb
          have hle := hgo.le
          exact ih (.loop k false) _ _ ⟨hg.1, by omega⟩ hle (by simp only [need] at *; omega)
        · rw [if_neg hb, if_neg hb]
    | loop k cmp =>
      rw [D_loop s (n + 1) k cmp p cs, D_loop s n k cmp p cs]
      have hk1 : 1 ≤ k := hg.1
      have hk5 : k ≤ 5 := hg.2
      by_cases hs : (opAt s p).2.2 ≠ k
      · rw [if_pos hs, if_pos hs]
      · rw [if_neg hs, if_neg hs]
        by_cases hc : cmp = true
        · rw [if_pos hc, if_pos hc]
        · rw [if_neg hc, if_neg hc]
          have hs := Decidable.not_not.1 hs
          have ho := opAt_some (s := s) (p := p) (by omega)
          have h1 := ih (.joins (k + 1)) (p + (opAt s p).2.1) cs ⟨by omega, by omega⟩ ho.2 (by simp only [need] at *; omega)
          rw [h1]
          by_cases hb : (D s n (.joins (k + 1)) (p + (opAt s p).2.1) cs).1 = true
          · rw [if_pos hb, if_pos hb]
            have hgo := goes s n (.joins (k + 1)) (p + (opAt s p).2.1) cs ho.2
            have hgt : p + (opAt s p).2.1 < (D s n (.joins (k + 1)) (p + (opAt s p).2.1) cs).2.1 := hgo.gt hb
            have hle := hgo.le
            exact ih (.loop k (k == 3)) _ _ ⟨hk1, hk5⟩ hle (by simp only [need] at *; omega)
          · rw [if_neg hb, if_neg hb]
    | ahead =>
      rw [D_ahead s (n + 1) p cs, D_ahead s n p cs]
      by_cases h45 : nx s p = 45
      · rw [if_pos h45, if_pos h45]
        have := nx_lt (s := s) (p := p) (by rw [h45]; decide)
        rw [ih .ahead (p + 1) cs trivial (by omega) (by simp only [need] at *; omega)]
      · rw [if_neg h45, if_neg h45]
        by_cases h33 : nx s p = 33
        · rw [if_pos h33, if_pos h33]
          have := nx_lt (s := s) (p := p) (by rw [h33]; decide)
          rw [ih .ahead (p + 1) cs trivial (by omega) (by simp only [need] at *; omega)]
        · rw [if_neg h33, if_neg h33]
          by_cases h40 : nx s p = 40
          · rw [if_pos h40, if_pos h40]
            have := nx_lt (s := s) (p := p) (by rw [h40]; decide)
            rw [ih (.joins 1) (p + 1) cs ⟨by omega, by omega⟩ (by omega) (by simp only [need] at *; omega)]
          · rw [if_neg h40, if_neg h40]
            by_cases hd : isD (nx s p) = true
            · rw [if_pos hd, if_pos hd]
            · rw [if_neg hd, if_neg hd]
              exact wordD_same (fun h3 => ih (.joins 1) (p + 3) cs ⟨by omega, by omega⟩ h3 (by simp only [need] at *; omega))

theorem more_to (s : List UInt8) (q : Q) (p : Nat) (cs : List CM) (hg : goodQ q) (hp : p ≤ s.length) (n : Nat) (h : need s q p ≤ n) : D s n q p cs = D s (need s q p) q p cs := by
  obtain ⟨d, rfl⟩ : ∃ d, n = need s q p + d := ⟨n - need s q p, by omega⟩
  clear h
  induction d with
  | zero => rfl
  | succ d ih => rw [← ih, ← Nat.add_assoc]; exact more s _ q p cs hg hp (by omega)

/-- the reading -/
def E (s : List UInt8) (q : Q) (p : Nat) (cs : List CM) : Rs := D s (need s q p) q p cs

section
variable {s : List UInt8} {p : Nat} {cs : List CM}
theorem D_E {n : Nat} {q : Q} (hg : goodQ q) (hp : p ≤ s.length) (h : need s q p ≤ n) : D s n q p cs = E s q p cs := more_to s q p cs hg hp n h

theorem E_six (hp : p ≤ s.length) : E s (.joins 6) p cs = E s .ahead p cs := by
  rw [← D_E (q := .joins 6) (n := need s (.joins 6) p + 1) ⟨by omega, by omega⟩ hp (by omega), D_joins, if_pos rfl]
  exact D_E (q := .ahead) trivial hp (by simp only [need]; omega)
theorem E_joins {k : Nat} (hk : 1 ≤ k) (hk5 : k ≤ 5) (hp : p ≤ s.length) : E s (.joins k) p cs =
    if (E s (.joins (k + 1)) p cs).1 = true then E s (.loop k false) (E s (.joins (k + 1)) p cs).2.1 (E s (.joins (k + 1)) p cs).2.2 else E s (.joins (k + 1)) p cs := by
  rw [← D_E (q := .joins k) (n := need s (.joins k) p + 1) ⟨by omega, by omega⟩ hp (by omega), D_joins, if_neg (by omega)]
  have h1 := D_E (s := s) (p := p) (cs := cs) (n := need s (.joins k) p) (q := .joins (k + 1)) ⟨by omega, by omega⟩ hp (by simp only [need]; omega)
  rw [h1]
  by_cases hb : (E s (.joins (k + 1)) p cs).1 = true
  · rw [if_pos hb, if_pos hb]
    have hgo := goes s (need s (.joins (k + 1)) p) (.joins (k + 1)) p cs hp
    have hgt : p < (E s (.joins (k + 1)) p cs).2.1 := hgo.gt hb
    have hle : (E s (.joins (k + 1)) p cs).2.1 ≤ s.length := hgo.le
    exact D_E (q := .loop k false) ⟨hk, hk5⟩ hle (by simp only [need] at *; omega)
  · rw [if_neg hb, if_neg hb]
theorem E_loop {k : Nat} {cmp : Bool} (hk : 1 ≤ k) (hk5 : k ≤ 5) (hp : p ≤ s.length) : E s (.loop k cmp) p cs =
    if (opAt s p).2.2 ≠ k then (true, p, cs)
    else if cmp = true then (false, p, cs)
    else if (E s (.joins (k + 1)) (p + (opAt s p).2.1) cs).1 = true then
      E s (.loop k (k == 3)) (E s (.joins (k + 1)) (p + (opAt s p).2.1) cs).2.1 ((E s (.joins (k + 1)) (p + (opAt s p).2.1) cs).2.2 ++ [opC (opAt s p).1])
    else E s (.joins (k + 1)) (p + (opAt s p).2.1) cs := by
  rw [← D_E (q := .loop k cmp) (n := need s (.loop k cmp) p + 1) ⟨hk, hk5⟩ hp (by omega), D_loop]
  by_cases hs : (opAt s p).2.2 ≠ k
  · rw [if_pos hs, if_pos hs]
  · rw [if_neg hs, if_neg hs]
    by_cases hc : cmp = true
    · rw [if_pos hc, if_pos hc]
    · rw [if_neg hc, if_neg hc]
      have hs := Decidable.not_not.1 hs
      have ho := opAt_some (s := s) (p := p) (by omega)
      have h1 := D_E (s := s) (p := p + (opAt s p).2.1) (cs := cs) (n := need s (.loop k cmp) p) (q := .joins (k + 1)) ⟨by omega, by omega⟩ ho.2 (by simp only [need]; omega)
      rw [h1]
      by_cases hb : (E s (.joins (k + 1)) (p + (opAt s p).2.1) cs).1 = true
      · rw [if_pos hb, if_pos hb]
        have hgo := goes s (need s (.joins (k + 1)) (p + (opAt s p).2.1)) (.joins (k + 1)) (p + (opAt s p).2.1) cs ho.2
        have hgt : p + (opAt s p).2.1 < (E s (.joins (k + 1)) (p + (opAt s p).2.1) cs).2.1 := hgo.gt hb
        have hle : (E s (.joins (k + 1)) (p + (opAt s p).2.1) cs).2.1 ≤ s.length := hgo.le
        exact D_E (q := .loop k (k == 3)) ⟨hk, hk5⟩ hle (by simp only [need] at *; omega)
      · rw [if_neg hb, if_neg hb]
theorem E_ahead (hp : p ≤ s.length) : E s .ahead p cs =
    if nx s p = 45 then addD 7 (E s .ahead (p + 1) cs)
    else if nx s p = 33 then addD 8 (E s .ahead (p + 1) cs)
    else if nx s p = 40 then closeD s (E s (.joins 1) (p + 1) cs)
    else if isD (nx s p) = true then numD s p cs
    else wordD s p cs (wordP s p) (E s (.joins 1) (p + 3) cs) := by
  rw [← D_E (q := .ahead) (n := need s .ahead p + 1) trivial hp (by omega), D_ahead]
  by_cases h45 : nx s p = 45
  · rw [if_pos h45, if_pos h45]
    have := nx_lt (s := s) (p := p) (by rw [h45]; decide)
    rw [D_E (q := .ahead) trivial (by omega) (by simp only [need]; omega)]
  · rw [if_neg h45, if_neg h45]
    by_cases h33 : nx s p = 33
    · rw [if_pos h33, if_pos h33]
      have := nx_lt (s := s) (p := p) (by rw [h33]; decide)
      rw [D_E (q := .ahead) trivial (by omega) (by simp only [need]; omega)]
    · rw [if_neg h33, if_neg h33]
      by_cases h40 : nx s p = 40
      · rw [if_pos h40, if_pos h40]
        have := nx_lt (s := s) (p := p) (by rw [h40]; decide)
        rw [D_E (q := .joins 1) ⟨by omega, by omega⟩ (by omega) (by simp only [need]; omega)]
      · rw [if_neg h40, if_neg h40]
        by_cases hd : isD (nx s p) = true
        · rw [if_pos hd, if_pos hd]
        · rw [if_neg hd, if_neg hd]
          exact wordD_same (fun h3 => D_E (q := .joins 1) ⟨by omega, by omega⟩ h3 (by simp only [need]; omega))
theorem E_goes {q : Q} (hp : p ≤ s.length) : Goes s q p (E s q p cs) := goes s _ q p cs hp
theorem parse_E (s : List UInt8) : parseP s = if 600 < s.length then ([], 0, 4)
    else if (E s (.joins 1) 0 []).1 = false ∨ (E s (.joins 1) 0 []).2.1 < s.length then ([], (E s (.joins 1) 0 []).2.1, 1)
    else if 32 < (E s (.joins 1) 0 []).2.2.length then ([], 0, 4) else ((E s (.joins 1) 0 []).2.2, 0, 0) := by
  unfold parseP
  rw [D_E (q := .joins 1) ⟨by omega, by omega⟩ (Nat.zero_le _) (by simp only [need]; omega)]
end
end Go.Proofs.YtjgfkmakfdepcaaGreatDoor
