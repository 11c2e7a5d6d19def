/- Own texts, joined: A3, Vi, Vj, Vk. -/
import Derived.Test.YtjgfkmakfdepcaaGreatDoorR14
import Derived.StillTailTactics
namespace Go.Proofs.YtjgfkmakfdepcaaGreatDoor
open Go.RowKit

/-! rows of actions: each with the slice of its expression -/
abbrev AP := AM × Value
def actV (p : AP) : List Value := [.int .i64 p.1.kd, bstr p.1.nm, p.2]
def flatA (ps : List AP) : List Value := ps.flatMap actV
theorem flatA_append (a b : List AP) : flatA (a ++ b) = flatA a ++ flatA b := by simp [flatA]
theorem flatA_length (ps : List AP) : (flatA ps).length = ps.length * 3 := by
  induction ps with
  | nil => rfl
  | cons v r ih => show (actV v ++ flatA r).length = _; rw [List.length_append, ih]; simp [actV]; omega
theorem flatA_at {ps : List AP} {i : Nat} (h : i < ps.length) {j : Nat} (hj : j < 3) : (flatA ps)[i * 3 + j]? = (actV ps[i])[j]? := by
  induction ps generalizing i with
  | nil => simp at h
  | cons v r ih =>
    show (actV v ++ flatA r)[i * 3 + j]? = _
    cases i with
    | zero => rw [List.getElem?_append_left (by simp [actV]; omega)]; simp
    | succ k =>
      rw [List.getElem?_append_right (by simp [actV]; omega)]
      have e : (k + 1) * 3 + j - (actV v).length = k * 3 + j := by simp [actV]; omega
      rw [e]
      exact ih (by simpa using h)
/-- what is known of an action's expression, and its name -/
structure ActR (w : World) (p : AP) : Prop where
  rd : RdI w p.2 p.1.ex
  len : p.1.ex.length * 32 ≤ 140737488355328
  names : Names p.1.ex
  name : p.1.nm.length ≤ 140737488355328
theorem ActR.below {w w' : World} {p : AP} (h : ActR w p) (hb : Below w.heap.size w w') : ActR w' p := ⟨h.rd.below hb, h.len, h.names, h.name⟩
structure RdA (w : World) (v : Value) (ps : List AP) : Prop where
  inn : Inn w 3 v ps.length (flatA ps)
  acts : ∀ p ∈ ps, ActR w p
theorem RdA.below {w w' : World} {v : Value} {ps : List AP} (h : RdA w v ps) (hb : Below w.heap.size w w') : RdA w' v ps := ⟨Inn.below h.inn hb, fun p hp => (h.acts p hp).below hb⟩
theorem RdA.form {w : World} {v : Value} {ps : List AP} (h : RdA w v ps) : ∃ A c, v = .slice A ps.length c := Inn.form h.inn
theorem RdA.at_ {w : World} {A : Option Addr} {m c : Nat} {ps : List AP} (h : RdA w (.slice A m c) ps) {k : Nat} (hk : k < ps.length) :
    ∃ b o, A = some ⟨b, o, none⟩ ∧ b < w.heap.size ∧ w.cell? ⟨b, o + k * 3, none⟩ = some (.int .i64 ps[k].1.kd) ∧ w.cell? ⟨b, o + k * 3 + 1, none⟩ = some (bstr ps[k].1.nm) ∧ w.cell? ⟨b, o + k * 3 + 2, none⟩ = some ps[k].2 ∧ ActR w ps[k] := by
  obtain ⟨b, o, hA, hlt, hc⟩ := Inn.at_ h.inn hk
  exact ⟨b, o, hA, hlt, hc 0 _ ((flatA_at hk (by omega)).trans rfl), hc 1 _ ((flatA_at hk (by omega)).trans rfl), hc 2 _ ((flatA_at hk (by omega)).trans rfl), h.acts _ (List.getElem_mem hk)⟩
theorem RdI.slice {w : World} {v : Value} {cs : List CM} (h : RdI w v cs) : ∃ A c, v = .slice A cs.length c := by
  rcases h with ⟨rfl, rfl⟩ | ⟨ad, c, rfl, _⟩
  · exact ⟨none, 0, rfl⟩
  · exact ⟨_, _, rfl⟩
theorem RdC.form {w : World} {v : Value} {cs : List CM} (h : RdC w v cs) : ∃ A c, v = .slice A cs.length c := by
  obtain ⟨A, c, e, _⟩ := h; exact ⟨A, c, e⟩
theorem RdC.at_ {w : World} {A : Option Addr} {m c : Nat} {cs : List CM} (h : RdC w (.slice A m c) cs) {k : Nat} (hk : k < cs.length) :
    ∃ b o, A = some ⟨b, o, none⟩ ∧ w.cell? ⟨b, o + k * 3, none⟩ = some (.int .i64 cs[k].op) ∧ w.cell? ⟨b, o + k * 3 + 1, none⟩ = some (.int .i64 cs[k].a) ∧ w.cell? ⟨b, o + k * 3 + 2, none⟩ = some (bstr cs[k].nm) := by
  obtain ⟨A', c', e, hc⟩ := h
  simp only [Value.slice.injEq] at e
  obtain ⟨rfl, _, _⟩ := e
  exact hc k hk
theorem ix_any {α : Type} (p : α → Bool) (l : List α) : decide (0 ≤ ixP p l 0) = l.any p := by
  rcases ix_find p l 0 with ⟨h1, h2⟩ | ⟨j, hj, h1, h2⟩
  · rw [h1]
    have : l.any p = false := by
      rw [List.any_eq_false]
      intro x hx
      exact List.find?_eq_none.1 h2 x hx
    rw [this]; rfl
  · rw [h1, decide_eq_true (by omega)]
    have := List.find?_some h2
    have hm := List.mem_of_find?_eq_some h2
    exact (List.any_eq_true.2 ⟨_, hm, this⟩).symm

theorem asks_any (c : CM) (X : ByteArray) (w : World) :
    Calls Tryz.prog 50 #[.agg #[.int .i64 c.op, .int .i64 c.a, .string X]] w fun e w' => e = .returned (.bool (isIn c)) ∧ Below w.heap.size w w' := by
  have HB : Hid (∀ W : World, ∀ o : Obj, Below W.heap.size W (W.alloc o)) := fun W o => (Below.refl _ _).alloc (Nat.le_refl _) o
  by_cases h : c.op = 6
  · have hL : isIn c = true := decide_eq_true h
    rw [hL, h]; clear hL h
    go_enter Tryz.func50, Tryz.ntmps50
    go_wp2
    go_ret
    exact ⟨rfl, HB.out _ _⟩
  · have hL : isIn c = false := decide_eq_false h
    have h' := int_ne h
    rw [hL]; clear hL
    go_enter Tryz.func50, Tryz.ntmps50
    go_wp2
    go_ret
    exact ⟨rfl, HB.out _ _⟩

set_option maxHeartbeats 1000000 in
theorem askIndex_any (v : Value) (cs : List CM) (w : World) (hR : RdC w v cs) (hl : cs.length ≤ 4611686018427387904) :
    Calls Tryz.prog 83 #[v, .func (.func 50) #[] #[]] w fun e w' => e = .returned (.int .i64 (ixP (isIn) cs 0)) ∧ Below w.heap.size w w' := by
  obtain ⟨A, c, rfl⟩ := hR.form
  have HR := Lib.hid hR; clear hR
  obtain ⟨n, hn⟩ : ∃ n, cs.length = n := ⟨_, rfl⟩
  have HN := Lib.hid hn
  rw [hn] at hl HR ⊢
  clear hn
  go_enter Tryz.func83, Tryz.ntmps83
  go_wp2
  go_loopw [4, 5, 8] (fun x4 x5 i wr => x4 = .int .i64 0 ∧ (x5 = .int .i64 0 ∨ True) ∧ ∃ k : Nat, k ≤ n ∧ i = .int .i64 k ∧ Hid (ixP (isIn) (cs.drop k) k = ixP (isIn) cs 0) ∧ Below w.heap.size w wr) (fun _ _ i _ => n - (intOf i).toNat)
  case atStart => exact ⟨rfl, Or.inr trivial, 0, by omega, rfl, rfl, Below.refl _ _⟩
  case round =>
    obtain ⟨rfl, _, k, hk, rfl, HI, hb⟩ := hrel
    have HBL := Lib.hid hb
    by_cases hkn : k < n
    · have HR' := HR.out.below hb
      have hst := ix_step (p := isIn) (l := cs) (k := k) (by rw [HN.out]; exact hkn)
      rw [HI.out] at hst
      obtain ⟨b, o, rfl, hc0, hc1, hc2⟩ := HR'.at_ (k := k) (by rw [HN.out]; exact hkn)
      obtain ⟨X, hX, hXl⟩ := bstr_some (cs[k]'(by rw [HN.out]; exact hkn)).nm
      rw [hX] at hc2
      clear hX hXl
      generalize cs[k]'(by rw [HN.out]; exact hkn) = x at *
      have HC := Lib.hid (asks_any x X wr)
      clear hb HR'
      by_cases he : isIn x = true
      · have hr : ixP (isIn) cs 0 = k := by rw [hst, if_pos he]
        have HRR := Lib.hid hr
        have HE := Lib.hid he
        clear hst hr he HI
        go_wp2_with fail
        refine HC.out.mono ?_
        rintro e w1 ⟨rfl, hb1⟩
        rw [HE.out]
        have HB1 := Lib.hid (HBL.out.trans (hb1.mono HBL.out.size)); clear hb1
        go_wp2
        go_ret
        exact ⟨ret_int HRR.out.symm, HB1.out⟩
      · have hr : ixP (isIn) (cs.drop (k + 1)) (k + 1) = ixP (isIn) cs 0 := by rw [hst, if_neg he]
        have HRR := Lib.hid hr
        have HE := Lib.hid ((Bool.not_eq_true _).mp he)
        clear hst hr he HI
        go_wp2_with fail
        refine HC.out.mono ?_
        rintro e w1 ⟨rfl, hb1⟩
        rw [HE.out]
        have HB1 := Lib.hid (HBL.out.trans (hb1.mono HBL.out.size)); clear hb1
        go_wp2
        go_roundw
        case rel => exact ⟨rfl, Or.inr trivial, k + 1, by omega, by go_num, HRR.out, HB1.out⟩
        case measure => simp [intOf]; omega
    · have hr : ixP (isIn) cs 0 = -1 := by rw [← HI.out, ix_end (by rw [HN.out]; exact hkn)]
      have HRR := Lib.hid hr
      clear hr HI
      go_wp2
      go_ret
      exact ⟨ret_int HRR.out.symm, HBL.out⟩

theorem askContains_any (v : Value) (cs : List CM) (w : World) (hR : RdC w v cs) (hl : cs.length ≤ 4611686018427387904) :
    Calls Tryz.prog 49 #[v, .func (.func 50) #[] #[]] w fun e w' => e = .returned (.bool (cs.any (isIn))) ∧ Below w.heap.size w w' := by
  have HI := Lib.hid (askIndex_any v cs w hR hl)
  have HW := Lib.hid (ix_any (isIn) cs)
  obtain ⟨A, c, rfl⟩ := hR.form
  clear hR
  go_enter Tryz.func49, Tryz.ntmps49
  go_wp2_with fail
  refine HI.out.mono ?_
  rintro e w1 ⟨rfl, hb1⟩
  have HB1 := Lib.hid hb1; clear hb1
  go_wp2
  go_ret
  refine ⟨?_, HB1.out⟩
  rw [← HW.out]
  rfl

/-- an action that may not stand -/
theorem aWrong_any (k : Int) (X : ByteArray) (v : Value) (cs : List CM) (w : World) (hR : RdI w v cs) (hl : cs.length * 32 ≤ 140737488355328) :
    Calls Tryz.prog 28 #[.agg #[.int .i64 k, .string X, v]] w fun e w' => e = .returned (.bool (!oneB ⟨k, X.data.toList, cs⟩)) ∧ Below w.heap.size w w' := by
  have HC0 : Hid (∀ W, Below w.heap.size w W → Calls Tryz.prog 48 #[v] W fun e w' => e = .returned (.bool (rightB cs)) ∧ Below W.heap.size W w') := fun W hb => right_any v cs W (hR.below hb).rd (by omega)
  have HC1 : Hid (∀ W, Below w.heap.size w W → Calls Tryz.prog 49 #[v, .func (.func 50) #[] #[]] W fun e w' => e = .returned (.bool (asksB cs)) ∧ Below W.heap.size W w') := fun W hb => askContains_any v cs W (hR.below hb).rd (by omega)
  have HN := Lib.hid (name_any X)
  have HE := Lib.hid (event_any X)
  obtain ⟨A, c, rfl⟩ := hR.slice
  have HB0 : Hid (Below w.heap.size w (w.alloc (.cells #[.int .i64 k, .string X, .slice A cs.length c] 59))) := (Below.refl _ _).alloc (Nat.le_refl _) _
  have d0 : (w.alloc (.cells #[.int .i64 k, .string X, .slice A cs.length c] 59)).cell? ⟨w.heap.size, 0, none⟩ = some (.int .i64 k) := by simp
  have d1 : (w.alloc (.cells #[.int .i64 k, .string X, .slice A cs.length c] 59)).cell? ⟨w.heap.size, 1, none⟩ = some (.string X) := by simp
  have d2 : (w.alloc (.cells #[.int .i64 k, .string X, .slice A cs.length c] 59)).cell? ⟨w.heap.size, 2, none⟩ = some (.slice A cs.length c) := by simp
  have hlen : (cs.length : Int) ≤ 4398046511104 := by omega
  clear hR hl
  by_cases h1 : k = 1
  · subst h1
    cases hn : nameB X.data.toList with
    | false =>
      have hL : Hid (oneB ⟨1, X.data.toList, cs⟩ = false) := by show oneB _ = false; unfold oneB; rw [if_pos rfl]; simp only [hn]; rfl
      have HH := Lib.hid hn; clear hn
      go_enter Tryz.func28, Tryz.ntmps28
      go_wp2_with fail
      refine (HN.out _).mono ?_
      rintro e w1 ⟨rfl, rfl⟩
      rw [HH.out]
      go_wp2
      go_ret
      exact ⟨by rw [hL.out]; rfl, HB0.out⟩
    | true =>
      have HH := Lib.hid hn
      cases hr : rightB cs with
      | false =>
        have hL : Hid (oneB ⟨1, X.data.toList, cs⟩ = false) := by show oneB _ = false; unfold oneB; rw [if_pos rfl]; simp only [hr, Bool.and_false, Bool.false_and]
        have HH2 := Lib.hid hr; clear hr hn
        go_enter Tryz.func28, Tryz.ntmps28
        go_wp2_with fail
        refine (HN.out _).mono ?_
        rintro e w1 ⟨rfl, rfl⟩
        rw [HH.out]
        go_wp2_with fail
        refine (HC0.out _ HB0.out).mono ?_
        rintro e w2 ⟨rfl, hb2⟩
        rw [HH2.out]
        have HB2 := Lib.hid (HB0.out.trans (hb2.mono HB0.out.size)); clear hb2
        go_wp2
        go_ret
        exact ⟨by rw [hL.out]; rfl, HB2.out⟩
      | true =>
        have hL : Hid (oneB ⟨1, X.data.toList, cs⟩ = !asksB cs) := by show oneB _ = _; unfold oneB; rw [if_pos rfl]; simp only [hr, hn, Bool.true_and]
        have HH2 := Lib.hid hr; clear hr hn
        go_enter Tryz.func28, Tryz.ntmps28
        go_wp2_with fail
        refine (HN.out _).mono ?_
        rintro e w1 ⟨rfl, rfl⟩
        rw [HH.out]
        go_wp2_with fail
        refine (HC0.out _ HB0.out).mono ?_
        rintro e w2 ⟨rfl, hb2⟩
        rw [HH2.out]
        have HB2 := Lib.hid (HB0.out.trans (hb2.mono HB0.out.size))
        have e2 := (hb2.cell (by simp)).trans d2
        clear hb2
        go_wp2_with fail
        refine (HC1.out _ HB2.out).mono ?_
        rintro e w3 ⟨rfl, hb3⟩
        have HB3 := Lib.hid (HB2.out.trans (hb3.mono HB2.out.size)); clear hb3
        go_wp2
        go_ret
        exact ⟨by rw [hL.out, Bool.not_not]; rfl, HB3.out⟩
  · have h1' := int_ne h1
    by_cases h2 : k = 2
    · subst h2
      cases hn : eventB X.data.toList with
      | false =>
        have hL : Hid (oneB ⟨2, X.data.toList, cs⟩ = false) := by show oneB _ = false; unfold oneB; rw [if_neg (by simp), if_pos (by simp)]; simp only [hn]; rfl
        have HH := Lib.hid hn; clear hn
        go_enter Tryz.func28, Tryz.ntmps28
        go_wp2_with fail
        refine (HE.out _).mono ?_
        rintro e w1 ⟨rfl, rfl⟩
        rw [HH.out]
        go_wp2
        go_ret
        exact ⟨by rw [hL.out]; rfl, HB0.out⟩
      | true =>
        have HH := Lib.hid hn
        by_cases hc : cs.length = 0
        · have hL : Hid (oneB ⟨2, X.data.toList, cs⟩ = true) := by show oneB _ = true; unfold oneB; rw [if_neg (by simp), if_pos (by simp)]; simp only [hn, hc]; rfl
          rw [hc] at d2 HB0 ⊢
          clear hn
          go_enter Tryz.func28, Tryz.ntmps28
          go_wp2_with fail
          refine (HE.out _).mono ?_
          rintro e w1 ⟨rfl, rfl⟩
          rw [HH.out]
          go_wp2
          go_ret
          exact ⟨by rw [hL.out]; rfl, HB0.out⟩
        · have hc' : 0 < cs.length := by omega
          have hc2 := decide_eq_true hc'
          have hL : Hid (oneB ⟨2, X.data.toList, cs⟩ = false) := by show oneB _ = false; unfold oneB; rw [if_neg (by simp), if_pos (by simp)]; simp only [hn, decide_eq_false hc]; rfl
          clear hn
          go_enter Tryz.func28, Tryz.ntmps28
          go_wp2_with fail
          refine (HE.out _).mono ?_
          rintro e w1 ⟨rfl, rfl⟩
          rw [HH.out]
          go_wp2
          go_ret
          exact ⟨by rw [hL.out]; rfl, HB0.out⟩
    · have h2' := int_ne h2
      by_cases h3 : k = 3
      · subst h3
        cases hn : eventB X.data.toList with
        | false =>
          have hL : Hid (oneB ⟨3, X.data.toList, cs⟩ = false) := by show oneB _ = false; unfold oneB; rw [if_neg (by simp), if_pos (by simp)]; simp only [hn]; rfl
          have HH := Lib.hid hn; clear hn
          go_enter Tryz.func28, Tryz.ntmps28
          go_wp2_with fail
          refine (HE.out _).mono ?_
          rintro e w1 ⟨rfl, rfl⟩
          rw [HH.out]
          go_wp2
          go_ret
          exact ⟨by rw [hL.out]; rfl, HB0.out⟩
        | true =>
          have HH := Lib.hid hn
          by_cases hc : cs.length = 0
          · have hL : Hid (oneB ⟨3, X.data.toList, cs⟩ = true) := by show oneB _ = true; unfold oneB; rw [if_neg (by simp), if_pos (by simp)]; simp only [hn, hc]; rfl
            rw [hc] at d2 HB0 ⊢
            clear hn
            go_enter Tryz.func28, Tryz.ntmps28
            go_wp2_with fail
            refine (HE.out _).mono ?_
            rintro e w1 ⟨rfl, rfl⟩
            rw [HH.out]
            go_wp2
            go_ret
            exact ⟨by rw [hL.out]; rfl, HB0.out⟩
          · have hc' : 0 < cs.length := by omega
            have hc2 := decide_eq_true hc'
            have hL : Hid (oneB ⟨3, X.data.toList, cs⟩ = false) := by show oneB _ = false; unfold oneB; rw [if_neg (by simp), if_pos (by simp)]; simp only [hn, decide_eq_false hc]; rfl
            clear hn
            go_enter Tryz.func28, Tryz.ntmps28
            go_wp2_with fail
            refine (HE.out _).mono ?_
            rintro e w1 ⟨rfl, rfl⟩
            rw [HH.out]
            go_wp2
            go_ret
            exact ⟨by rw [hL.out]; rfl, HB0.out⟩
      · have h3' := int_ne h3
        have hL : Hid (oneB ⟨k, X.data.toList, cs⟩ = false) := by show oneB _ = false; unfold oneB; rw [if_neg h1, if_neg (by simp only; omega)]
        go_enter Tryz.func28, Tryz.ntmps28
        go_wp2
        go_ret
        exact ⟨by rw [hL.out]; rfl, HB0.out⟩

end Go.Proofs.YtjgfkmakfdepcaaGreatDoor
namespace Go.Proofs.YtjgfkmakfdepcaaGreatDoor
open Go.RowKit

theorem new_cell {W : World} {D i : Nat} {cs : Array Value} {t : TypeId} {v : Value} (hD : W.heap.size = D) (h : cs[i]? = some v) : (W.alloc (.cells cs t)).cell? ⟨D, i, none⟩ = some v := by
  subst hD
  have := heap_alloc_new W (.cells cs t)
  simp only [World.cell?]
  rw [this]
  exact h
theorem old_cell {W : World} {a : Addr} {v : Value} {o : Obj} (h : W.cell? a = some v) : (W.alloc o).cell? a = some v := (World.cell?_alloc_lt W _ _ (cell_lt h)).trans h
theorem varE_ix (vs : List VM) (xs : List VA) (n : List UInt8) (hl : vs.length = xs.length) : (ixP (isV n) vs 0 = -1 ∧ varE vs xs n = erV 2) ∨ ∃ j, ∃ h : j < xs.length, ixP (isV n) vs 0 = (j : Int) ∧ varE vs xs n = (xs[j], 0) := by
  unfold varE
  rcases ix_find (isV n) vs 0 with ⟨h1, h2⟩ | ⟨j, hj, h1, h2⟩
  · rw [h1]; exact Or.inl ⟨rfl, if_pos (by decide)⟩
  · refine Or.inr ⟨j, by omega, by rw [h1]; simp, ?_⟩
    rw [h1, if_neg (by omega)]
    have e : ((0 + j : Nat) : Int).toNat = j := by omega
    rw [e, List.getD_eq_getElem?_getD, List.getElem?_eq_getElem (by omega)]
    rfl

set_option maxRecDepth 100000 in
set_option maxHeartbeats 2000000 in
theorem variable_any (vs : List VM) (xs : List VA) (ss : List (List UInt8)) (V X S : Option Addr) (vc xc sc : Nat) (N : ByteArray) (w : World) (hV : RdV w (.slice V vs.length vc) vs) (hX : RdX w (.slice X xs.length xc) xs) (_hS : RdW w (.slice S ss.length sc) ss) (hvl : vs.length ≤ 4611686018427387904) (_hsl : ss.length ≤ 4611686018427387904) (hl : vs.length = xs.length) (hx : ∀ v ∈ xs, OkV v) :
    Calls Tryz.prog 142 #[.agg #[.slice V vs.length vc, .slice X xs.length xc, .slice S ss.length sc], .string N] w fun e w' => e = outV (varE vs xs N.data.toList) ∧ Below w.heap.size w w' := by
  obtain ⟨W2, hW2⟩ : ∃ W, W = ((w.alloc (.cells #[.slice V vs.length vc, .slice X xs.length xc, .slice S ss.length sc] 140)).alloc (.cells #[.string N] 9)) := ⟨_, rfl⟩
  have hb2 : Below w.heap.size w W2 := by rw [hW2]; exact ((Below.refl _ _).alloc (Nat.le_refl _) _).alloc (by simp) _
  have hs2 : W2.heap.size = w.heap.size + 1 + 1 := by rw [hW2]; simp
  obtain ⟨W3, hW3⟩ : ∃ W, W = W2.alloc (.cells #[.int .i64 0, .int .i64 0, .bool false, .complex .f64 0 0] 144) := ⟨_, rfl⟩
  have hb3 : Below w.heap.size w W3 := by rw [hW3]; exact hb2.alloc (by omega) _
  have hs3 : W3.heap.size = w.heap.size + 1 + 1 + 1 := by rw [hW3]; simp [hs2]
  have hN : W3.cell? ⟨w.heap.size + 1, 0, none⟩ = some (.string N) := by rw [hW3, hW2]; exact old_cell (new_cell (by simp) rfl)
  have HI := Lib.hid (varIndex_any (.slice V vs.length vc) vs N (w.heap.size + 1) W3 (hV.below hb3) hvl (by omega) hN)
  have HX := Lib.hid hX
  rcases varE_ix vs xs N.data.toList hl with ⟨h1, h2⟩ | ⟨j, hj, h1, h2⟩
  · have H1 := Lib.hid h1
    rw [h2]
    have HO := Lib.hid (out_er 2)
    unfold zeroO at HO
    generalize outV (erV 2) = R at *
    have HW3 := Lib.hid hW3; have HW2 := Lib.hid hW2; have HB2 := Lib.hid hb2; have HS2 := Lib.hid hs2
    clear h1 h2 hV hX _hS hvl _hsl hl hx hN hb3 hs3 hs2 hb2
    subst hW3 hW2
    go_enter Tryz.func142, Tryz.ntmps142
    go_wp2_with fail
    refine HI.out.mono ?_
    rintro e w1 ⟨rfl, hb1⟩
    rw [H1.out]
    obtain ⟨hh, hbw⟩ := fwd4 HS2.out HB2.out hb1
    obtain ⟨d0, d1, d2, d3, f0, f1, f2, f3⟩ := at4 hh
    clear hb1
    go_wp2
    obtain ⟨⟨r0, r1, r2, r3⟩, hbf⟩ := fin4 hh (by omega) hbw (.int .i64 0) (.int .i64 0) (.bool false) (.complex .f64 0 0)
    refine bodyPost_ret ?_ rfl ⟨HO.out.symm, hbf⟩
    simp [results, Tryz.results142, go_sem, r0, r1, r2, r3]
  · have H1 := Lib.hid h1
    rw [h2]
    have hov := hx _ (List.getElem_mem hj)
    obtain ⟨b, o, rfl, hbw, hc0, hc1, hc2⟩ := hX.at_ hj
    generalize xs[j] = v at *
    have HOV := Lib.hid (fun W => operandOf_any v W hov)
    obtain ⟨p, hp⟩ : ∃ p, (v, (0 : Int)) = p := ⟨_, rfl⟩
    rw [hp] at HOV ⊢
    have HC := Lib.hid hc0; have HC1 := Lib.hid hc1; have HC2 := Lib.hid hc2
    generalize v.kd = vk at *
    generalize v.a = va at *
    generalize v.b = vb at *
    have hm0 : W3.cell? ⟨w.heap.size, 1, none⟩ = some (.slice (some ⟨b, o, none⟩) xs.length xc) := by rw [hW3, hW2]; exact old_cell (old_cell (new_cell rfl rfl))
    have HM := Lib.hid hm0
    have HB3 := Lib.hid hb3; have HS3 := Lib.hid hs3; have HB2 := Lib.hid hb2; have HS2 := Lib.hid hs2
    obtain ⟨k, x, t, c1, c2, er, hf⟩ := out_form p
    have HF := Lib.hid hf
    clear h1 h2 hV hX _hS hvl _hsl hl hx hN hb3 hs3 hs2 hb2 hm0 hc0 hc1 hc2 hf hov hp
    subst hW3 hW2
    go_enter Tryz.func142, Tryz.ntmps142
    go_wp2_with fail
    refine HI.out.mono ?_
    rintro e w1 ⟨rfl, hb1⟩
    rw [H1.out]
    have hbw1 := HB3.out.trans (hb1.mono HB3.out.size)
    have m0 := (hbw1.cell hbw).trans HC.out
    have m1 := (hbw1.cell hbw).trans HC1.out
    have m2 := (hbw1.cell hbw).trans HC2.out
    have m3 := (hb1.cell (by rw [HS3.out]; show w.heap.size < _; omega)).trans HM.out
    have HB1 := Lib.hid hb1
    clear hb1 hbw1
    go_wp2_with fail
    refine (HOV.out _).mono ?_
    rintro e w2 ⟨rfl, hb2⟩
    rw [HF.out]
    obtain ⟨hh, hbw⟩ := fwd4 HS2.out HB2.out (HB1.out.trans (hb2.mono HB1.out.size))
    obtain ⟨d0, d1, d2, d3, f0, f1, f2, f3⟩ := at4 hh
    clear hb2
    go_wp2
    obtain ⟨⟨r0, r1, r2, r3⟩, hbf⟩ := fin4 hh (by omega) hbw (.int .i64 k) (.int .i64 x) (.bool t) (.complex .f64 c1 c2)
    refine bodyPost_ret ?_ rfl ⟨HF.out.symm, hbf⟩
    simp [results, Tryz.results142, go_sem, r0, r1, r2, r3]

set_option maxRecDepth 100000 in
set_option maxHeartbeats 2000000 in
theorem alone_any (vs : List VM) (xs : List VA) (ss : List (List UInt8)) (V X S : Option Addr) (vc xc sc : Nat) (op a : Int) (N : ByteArray) (w : World) (hop : 1 ≤ op ∧ op ≤ 6) (h2 : op = 2 → inB a = true) (hV : RdV w (.slice V vs.length vc) vs) (hX : RdX w (.slice X xs.length xc) xs) (hS : RdW w (.slice S ss.length sc) ss) (hvl : vs.length ≤ 4611686018427387904) (hsl : ss.length ≤ 4611686018427387904) (hl : vs.length = xs.length) (hx : ∀ v ∈ xs, OkV v) :
    Calls Tryz.prog 124 #[.agg #[.slice V vs.length vc, .slice X xs.length xc, .slice S ss.length sc], .agg #[.int .i64 op, .int .i64 a, .string N]] w fun e w' => e = outV (leafE vs xs ss ⟨op, a, N.data.toList⟩) ∧ Below w.heap.size w w' := by
  rcases op_leaf hop with rfl | rfl | rfl | rfl | rfl | rfl
  · have HO := Lib.hid (out_num a)
    unfold numO at HO
    rw [show leafE vs xs ss ⟨1, a, N.data.toList⟩ = (numV a, 0) from rfl]
    generalize outV (numV a, 0) = R at *
    clear hV hX hS hvl hsl hl hx h2
    go_enter Tryz.func124, Tryz.ntmps124
    go_wp2_with (go_at_call 140; refine (vnumber_any _ _).mono ?_; rintro e w1 ⟨rfl, rfl⟩)
    refine bodyPost_ret ?_ rfl ⟨HO.out.symm, ?_⟩
    · simp [results, Tryz.results124, go_sem]
    · exact ((((Below.refl _ _).alloc (Nat.le_refl _) _).alloc (by first | (simp; done) | (simp; omega)) _).alloc (by first | (simp; done) | (simp; omega)) _).alloc (by first | (simp; done) | (simp; omega)) _
  · have ha := h2 rfl
    obtain ⟨g1, g2, ge, hg⟩ := outC_form 0 a
    have HOC := Lib.hid hg
    have HA := Lib.hid (fun W => made_any 0 a W)
    have HPT := Lib.hid (fun W => point_any 0 a g1 g2 ge W hg)
    have e : leafE vs xs ss ⟨2, a, N.data.toList⟩ = ptE 0 a := by
      rw [show leafE vs xs ss ⟨2, a, N.data.toList⟩ = (ptV 0 a, 0) from rfl]
      unfold ptE; rw [if_pos (by rw [ha]; rfl)]
    rw [e]
    obtain ⟨p, hp⟩ : ∃ p, ptE 0 a = p := ⟨_, rfl⟩
    rw [hp] at HPT ⊢
    clear hV hX hS hvl hsl hl hx h2 ha hg hp e
    obtain ⟨k, x, t, c1, c2, er, hf⟩ := out_form (p)
    have HF := Lib.hid hf
    clear hf
    go_enter Tryz.func124, Tryz.ntmps124
    go_wp2_with fail
    refine (HA.out _).mono ?_
    rintro e w' ⟨rfl, rfl⟩
    rw [HOC.out]
    go_wp2_with fail
    refine (HPT.out _).mono ?_
    rintro e w1 ⟨rfl, hb1⟩
    rw [HF.out]
    obtain ⟨hh, hbw⟩ := fwd4 (show ((w.alloc _).alloc _).heap.size = w.heap.size + 1 + 1 by simp) (((Below.refl _ _).alloc (Nat.le_refl _) _).alloc (by simp) _) hb1
    obtain ⟨d0, d1, d2, d3, f0, f1, f2, f3⟩ := at4 hh
    clear hb1
    go_wp2
    obtain ⟨⟨r0, r1, r2, r3⟩, hbf⟩ := fin4 hh (by omega) hbw (.int .i64 k) (.int .i64 x) (.bool t) (.complex .f64 c1 c2)
    refine bodyPost_ret ?_ rfl ⟨HF.out.symm, hbf⟩
    simp [results, Tryz.results124, go_sem, r0, r1, r2, r3]
  · have HO := Lib.hid (out_tru true)
    unfold truO at HO
    rw [show leafE vs xs ss ⟨3, a, N.data.toList⟩ = (truV true, 0) from rfl]
    generalize outV (truV true, 0) = R at *
    clear hV hX hS hvl hsl hl hx h2
    go_enter Tryz.func124, Tryz.ntmps124
    go_wp2_with (go_at_call 143; refine (truth_any _ _).mono ?_; rintro e w1 ⟨rfl, rfl⟩)
    refine bodyPost_ret ?_ rfl ⟨HO.out.symm, ?_⟩
    · simp [results, Tryz.results124, go_sem]
    · exact ((((Below.refl _ _).alloc (Nat.le_refl _) _).alloc (by first | (simp; done) | (simp; omega)) _).alloc (by first | (simp; done) | (simp; omega)) _).alloc (by first | (simp; done) | (simp; omega)) _
  · have HO := Lib.hid (out_tru false)
    unfold truO at HO
    rw [show leafE vs xs ss ⟨4, a, N.data.toList⟩ = (truV false, 0) from rfl]
    generalize outV (truV false, 0) = R at *
    clear hV hX hS hvl hsl hl hx h2
    go_enter Tryz.func124, Tryz.ntmps124
    go_wp2_with (go_at_call 143; refine (truth_any _ _).mono ?_; rintro e w1 ⟨rfl, rfl⟩)
    refine bodyPost_ret ?_ rfl ⟨HO.out.symm, ?_⟩
    · simp [results, Tryz.results124, go_sem]
    · exact ((((Below.refl _ _).alloc (Nat.le_refl _) _).alloc (by first | (simp; done) | (simp; omega)) _).alloc (by first | (simp; done) | (simp; omega)) _).alloc (by first | (simp; done) | (simp; omega)) _
  · obtain ⟨W3, hW3⟩ : ∃ W, W = (((w.alloc (.cells #[.slice V vs.length vc, .slice X xs.length xc, .slice S ss.length sc] 140)).alloc (.cells #[.int .i64 5, .int .i64 a, .string N] 93)).alloc (.cells #[.int .i64 0, .int .i64 0, .bool false, .complex .f64 0 0] 144)) := ⟨_, rfl⟩
    have hb3 : Below w.heap.size w W3 := by rw [hW3]; exact (((Below.refl _ _).alloc (Nat.le_refl _) _).alloc (by simp) _).alloc (by simp; omega) _
    have HC := Lib.hid (variable_any vs xs ss V X S vc xc sc N W3 (hV.below hb3) (hX.below hb3) (hS.below hb3) hvl hsl hl hx)
    rw [show leafE vs xs ss ⟨5, a, N.data.toList⟩ = varE vs xs N.data.toList from rfl]
    generalize varE vs xs N.data.toList = p at *
    clear hV hX hS hvl hsl hl hx h2 hb3
    subst hW3
    obtain ⟨k, x, t, c1, c2, er, hf⟩ := out_form (p)
    have HF := Lib.hid hf
    clear hf
    go_enter Tryz.func124, Tryz.ntmps124
    go_wp2_with fail
    refine (HC.out).mono ?_
    rintro e w1 ⟨rfl, hb1⟩
    rw [HF.out]
    obtain ⟨hh, hbw⟩ := fwd4 (show ((w.alloc _).alloc _).heap.size = w.heap.size + 1 + 1 by simp) (((Below.refl _ _).alloc (Nat.le_refl _) _).alloc (by simp) _) hb1
    obtain ⟨d0, d1, d2, d3, f0, f1, f2, f3⟩ := at4 hh
    clear hb1
    go_wp2
    obtain ⟨⟨r0, r1, r2, r3⟩, hbf⟩ := fin4 hh (by omega) hbw (.int .i64 k) (.int .i64 x) (.bool t) (.complex .f64 c1 c2)
    refine bodyPost_ret ?_ rfl ⟨HF.out.symm, hbf⟩
    simp [results, Tryz.results124, go_sem, r0, r1, r2, r3]
  · obtain ⟨W3, hW3⟩ : ∃ W, W = (((w.alloc (.cells #[.slice V vs.length vc, .slice X xs.length xc, .slice S ss.length sc] 140)).alloc (.cells #[.int .i64 6, .int .i64 a, .string N] 93)).alloc (.cells #[.int .i64 0, .int .i64 0, .bool false, .complex .f64 0 0] 144)) := ⟨_, rfl⟩
    have hb3 : Below w.heap.size w W3 := by rw [hW3]; exact (((Below.refl _ _).alloc (Nat.le_refl _) _).alloc (by simp) _).alloc (by simp; omega) _
    have HC := Lib.hid (strContains_any (.slice S ss.length sc) ss N W3 (hS.below hb3) (by omega))
    have HO := Lib.hid (out_tru (decide (N.data.toList ∈ ss)))
    unfold truO at HO
    rw [show leafE vs xs ss ⟨6, a, N.data.toList⟩ = (truV (decide (N.data.toList ∈ ss)), 0) from rfl]
    generalize outV (truV (decide (N.data.toList ∈ ss)), 0) = R at *
    generalize decide (N.data.toList ∈ ss) = tt at *
    clear hV hX hS hvl hsl hl hx h2 hb3
    subst hW3
    go_enter Tryz.func124, Tryz.ntmps124
    go_wp2_with fail
    refine HC.out.mono ?_
    rintro e w1 ⟨rfl, rfl⟩
    go_wp2_with (go_at_call 143; refine (truth_any _ _).mono ?_; rintro e w1 ⟨rfl, rfl⟩)
    refine bodyPost_ret ?_ rfl ⟨HO.out.symm, ?_⟩
    · simp [results, Tryz.results124, go_sem]
    · exact ((((Below.refl _ _).alloc (Nat.le_refl _) _).alloc (by first | (simp; done) | (simp; omega)) _).alloc (by first | (simp; done) | (simp; omega)) _).alloc (by first | (simp; done) | (simp; omega)) _
end Go.Proofs.YtjgfkmakfdepcaaGreatDoor
namespace Go.Proofs.YtjgfkmakfdepcaaGreatDoor
open Go.RowKit

/-- the places of an operand in memory -/
def opL (v : VA) : List Value := [.int .i64 v.kd, .int .i64 (if v.kd = 1 then v.a else 0), .bool (decide (v.kd = 2 ∧ v.a = 1)), .complex .f64 (fl (if v.kd = 3 then v.a else 0)) (fl (if v.kd = 3 then v.b else 0))]
theorem opV_form (v : VA) : ∃ k x t c1 c2, opV v = .agg #[.int .i64 k, .int .i64 x, .bool t, .complex .f64 c1 c2] ∧ opL v = [.int .i64 k, .int .i64 x, .bool t, .complex .f64 c1 c2] := ⟨_, _, _, _, _, rfl, rfl⟩
/-- an operand at a place -/
def OpAt (w : World) (b o : Nat) (v : VA) : Prop := ∀ j u, (opL v)[j]? = some u → w.cell? ⟨b, o + j, none⟩ = some u
theorem OpAt.below {w w' : World} {b o : Nat} {v : VA} (h : OpAt w b o v) (hb : Below w.heap.size w w') : OpAt w' b o v := fun j u hu => (hb.cell (cell_lt (h j u hu))).trans (h j u hu)
theorem OpAt.at_ {w : World} {b o : Nat} {v : VA} {k x : Int} {t : Bool} {c1 c2 : Nat} (h : OpAt w b o v) (he : opL v = [.int .i64 k, .int .i64 x, .bool t, .complex .f64 c1 c2]) :
    w.cell? ⟨b, o, none⟩ = some (.int .i64 k) ∧ w.cell? ⟨b, o + 1, none⟩ = some (.int .i64 x) ∧ w.cell? ⟨b, o + 2, none⟩ = some (.bool t) ∧ w.cell? ⟨b, o + 3, none⟩ = some (.complex .f64 c1 c2) := by
  unfold OpAt at h
  rw [he] at h
  exact ⟨h 0 _ rfl, h 1 _ rfl, h 2 _ rfl, h 3 _ rfl⟩

set_option maxRecDepth 100000 in
set_option maxHeartbeats 2000000 in
theorem done0_any (vs : List VM) (xs : List VA) (ss : List (List UInt8)) (V X S : Option Addr) (vc xc sc : Nat) (op a : Int) (N : ByteArray) (U : Option Addr) (uc : Nat) (w : World) (hop : 1 ≤ op ∧ op ≤ 6) (h2 : op = 2 → inB a = true) (hV : RdV w (.slice V vs.length vc) vs) (hX : RdX w (.slice X xs.length xc) xs) (hS : RdW w (.slice S ss.length sc) ss) (hvl : vs.length ≤ 4611686018427387904) (hsl : ss.length ≤ 4611686018427387904) (hl : vs.length = xs.length) (hx : ∀ v ∈ xs, OkV v) :
    Calls Tryz.prog 95 #[.agg #[.slice V vs.length vc, .slice X xs.length xc, .slice S ss.length sc], .agg #[.int .i64 op, .int .i64 a, .string N], .slice U 0 uc] w fun e w' => e = outV (leafE vs xs ss ⟨op, a, N.data.toList⟩) ∧ Below w.heap.size w w' := by
  obtain ⟨W3, hW3⟩ : ∃ W, W = (((w.alloc (.cells #[.slice V vs.length vc, .slice X xs.length xc, .slice S ss.length sc] 140)).alloc (.cells #[.int .i64 op, .int .i64 a, .string N] 93)).alloc (.cells #[.int .i64 0, .int .i64 0, .bool false, .complex .f64 0 0] 144)) := ⟨_, rfl⟩
  have hb3 : Below w.heap.size w W3 := by rw [hW3]; exact (((Below.refl _ _).alloc (Nat.le_refl _) _).alloc (by simp) _).alloc (by simp; omega) _
  have HC := Lib.hid (alone_any vs xs ss V X S vc xc sc op a N W3 hop h2 (hV.below hb3) (hX.below hb3) (hS.below hb3) hvl hsl hl hx)
  generalize leafE vs xs ss ⟨op, a, N.data.toList⟩ = p at *
  clear hV hX hS hvl hsl hl hx h2 hb3
  subst hW3
  obtain ⟨k, x, t, c1, c2, er, hf⟩ := out_form (p)
  have HF := Lib.hid hf
  clear hf
  go_enter Tryz.func95, Tryz.ntmps95
  go_wp2_with fail
  refine (HC.out).mono ?_
  rintro e w1 ⟨rfl, hb1⟩
  rw [HF.out]
  obtain ⟨hh, hbw⟩ := fwd4 (show ((w.alloc _).alloc _).heap.size = w.heap.size + 1 + 1 by simp) (((Below.refl _ _).alloc (Nat.le_refl _) _).alloc (by simp) _) hb1
  obtain ⟨d0, d1, d2, d3, f0, f1, f2, f3⟩ := at4 hh
  clear hb1
  go_wp2
  obtain ⟨⟨r0, r1, r2, r3⟩, hbf⟩ := fin4 hh (by omega) hbw (.int .i64 k) (.int .i64 x) (.bool t) (.complex .f64 c1 c2)
  refine bodyPost_ret ?_ rfl ⟨HF.out.symm, hbf⟩
  simp [results, Tryz.results95, go_sem, r0, r1, r2, r3]

set_option maxRecDepth 100000 in
set_option maxHeartbeats 4000000 in
theorem done1_any (vs : List VM) (xs : List VA) (ss : List (List UInt8)) (V X S : Option Addr) (vc xc sc : Nat) (op a : Int) (N : ByteArray) (b o uc : Nat) (y : VA) (w : World) (hop : 7 ≤ op ∧ op ≤ 10) (hy : OkV y) (hu : OpAt w b o y) :
    Calls Tryz.prog 95 #[.agg #[.slice V vs.length vc, .slice X xs.length xc, .slice S ss.length sc], .agg #[.int .i64 op, .int .i64 a, .string N], .slice (some ⟨b, o, none⟩) 1 uc] w fun e w' => e = outV (unE op y) ∧ Below w.heap.size w w' := by
  obtain ⟨W3, hW3⟩ : ∃ W, W = (((w.alloc (.cells #[.slice V vs.length vc, .slice X xs.length xc, .slice S ss.length sc] 140)).alloc (.cells #[.int .i64 op, .int .i64 a, .string N] 93)).alloc (.cells #[.int .i64 0, .int .i64 0, .bool false, .complex .f64 0 0] 144)) := ⟨_, rfl⟩
  have hb3 : Below w.heap.size w W3 := by rw [hW3]; exact (((Below.refl _ _).alloc (Nat.le_refl _) _).alloc (by simp) _).alloc (by simp; omega) _
  obtain ⟨yk, yx, yt, y1, y2, hyv, hyc⟩ := opV_form y
  obtain ⟨m0, m1, m2, m3⟩ := (hu.below hb3).at_ hyc
  have HC := Lib.hid (vahead_any op y W3.drew hop hy)
  rw [hyv] at HC
  generalize unE op y = p at *
  clear hb3 hyv hyc hu hy hop
  subst hW3
  obtain ⟨k, x, t, c1, c2, er, hf⟩ := out_form (p)
  have HF := Lib.hid hf
  clear hf
  go_enter Tryz.func95, Tryz.ntmps95
  go_wp2_with fail
  go_region_with (go_at_call 125; refine (HC.out).mono ?_; rintro e w1 ⟨rfl, hb1⟩; rw [HF.out]; obtain ⟨hh, hbw⟩ := fwd4 (show ((w.alloc _).alloc _).heap.size = w.heap.size + 1 + 1 by simp) (((Below.refl _ _).alloc (Nat.le_refl _) _).alloc (by simp) _) (((Below.refl _ _).drew.trans hb1).mono (Nat.le_refl _)); obtain ⟨d0, d1, d2, d3, f0, f1, f2, f3⟩ := at4 hh; clear hb1)
  all_goals
    go_wp2
    obtain ⟨⟨r0, r1, r2, r3⟩, hbf⟩ := fin4 hh (by omega) hbw (.int .i64 k) (.int .i64 x) (.bool t) (.complex .f64 c1 c2)
    refine bodyPost_ret ?_ rfl ⟨HF.out.symm, hbf⟩
    simp [results, Tryz.results95, go_sem, r0, r1, r2, r3]

set_option maxRecDepth 100000 in
set_option maxHeartbeats 4000000 in
theorem done2_any (vs : List VM) (xs : List VA) (ss : List (List UInt8)) (V X S : Option Addr) (vc xc sc : Nat) (op a : Int) (N : ByteArray) (b o uc : Nat) (y z : VA) (w : World) (hop : 11 ≤ op ∧ op ≤ 23) (hy : OkV y) (hz : OkV z) (hu : OpAt w b o y) (hu2 : OpAt w b (o + 4) z) :
    Calls Tryz.prog 95 #[.agg #[.slice V vs.length vc, .slice X xs.length xc, .slice S ss.length sc], .agg #[.int .i64 op, .int .i64 a, .string N], .slice (some ⟨b, o, none⟩) 2 uc] w fun e w' => e = outV (joinE op y z) ∧ Below w.heap.size w w' := by
  obtain ⟨W3, hW3⟩ : ∃ W, W = (((w.alloc (.cells #[.slice V vs.length vc, .slice X xs.length xc, .slice S ss.length sc] 140)).alloc (.cells #[.int .i64 op, .int .i64 a, .string N] 93)).alloc (.cells #[.int .i64 0, .int .i64 0, .bool false, .complex .f64 0 0] 144)) := ⟨_, rfl⟩
  have hb3 : Below w.heap.size w W3 := by rw [hW3]; exact (((Below.refl _ _).alloc (Nat.le_refl _) _).alloc (by simp) _).alloc (by simp; omega) _
  obtain ⟨yk, yx, yt, y1, y2, hyv, hyc⟩ := opV_form y
  obtain ⟨m0, m1, m2, m3⟩ := (hu.below hb3).at_ hyc
  obtain ⟨zk, zx, zt, z1, z2, hzv, hzc⟩ := opV_form z
  obtain ⟨n0, n1, n2, n3⟩ := (hu2.below hb3).at_ hzc
  have HC := Lib.hid (vbetween_any op y z W3.drew hop hy hz)
  rw [hyv, hzv] at HC
  generalize joinE op y z = p at *
  clear hb3 hyv hyc hu hy hop hzv hzc hz hu2
  subst hW3
  obtain ⟨k, x, t, c1, c2, er, hf⟩ := out_form (p)
  have HF := Lib.hid hf
  clear hf
  go_enter Tryz.func95, Tryz.ntmps95
  go_wp2_with fail
  go_region_with (go_at_call 126; refine (HC.out).mono ?_; rintro e w1 ⟨rfl, hb1⟩; rw [HF.out]; obtain ⟨hh, hbw⟩ := fwd4 (show ((w.alloc _).alloc _).heap.size = w.heap.size + 1 + 1 by simp) (((Below.refl _ _).alloc (Nat.le_refl _) _).alloc (by simp) _) (((Below.refl _ _).drew.trans hb1).mono (Nat.le_refl _)); obtain ⟨d0, d1, d2, d3, f0, f1, f2, f3⟩ := at4 hh; clear hb1)
  all_goals
    go_wp2
    obtain ⟨⟨r0, r1, r2, r3⟩, hbf⟩ := fin4 hh (by omega) hbw (.int .i64 k) (.int .i64 x) (.bool t) (.complex .f64 c1 c2)
    refine bodyPost_ret ?_ rfl ⟨HF.out.symm, hbf⟩
    simp [results, Tryz.results95, go_sem, r0, r1, r2, r3]
end Go.Proofs.YtjgfkmakfdepcaaGreatDoor
namespace Go.Proofs.YtjgfkmakfdepcaaGreatDoor
open Go.RowKit

theorem operands5_any (op : Int) (w : World) (h : 1 ≤ op ∧ op ≤ 23) :
    Calls Tryz.prog 94 #[.int .i64 op] w fun e w' => e = .returned (.int .i64 (operN op)) ∧ w = w' := by
  rcases (show (1 ≤ op ∧ op ≤ 6) ∨ (7 ≤ op ∧ op ≤ 10) ∨ (11 ≤ op ∧ op ≤ 23) by omega) with h | h | h
  · rcases op_leaf h with rfl | rfl | rfl | rfl | rfl | rfl
    all_goals
      go_enter Tryz.func94, Tryz.ntmps94
      go_wp2
      go_ret
      exact ⟨rfl, rfl⟩
  · rcases op_un h with rfl | rfl | rfl | rfl
    all_goals
      go_enter Tryz.func94, Tryz.ntmps94
      go_wp2
      go_ret
      exact ⟨rfl, rfl⟩
  · rcases op_bin h with rfl | rfl | rfl | rfl | rfl | rfl | rfl | rfl | rfl | rfl | rfl | rfl | rfl
    all_goals
      go_enter Tryz.func94, Tryz.ntmps94
      go_wp2
      go_ret
      exact ⟨rfl, rfl⟩

theorem operN_zero {o : Int} (h : operN o = 0) : 1 ≤ o ∧ o ≤ 6 := by
  unfold operN at h
  by_cases h1 : 1 ≤ o ∧ o ≤ 6
  · exact h1
  · rw [if_neg h1] at h; split at h <;> cases h
theorem operN_one {o : Int} (h : operN o = 1) : 7 ≤ o ∧ o ≤ 10 := by
  unfold operN at h
  by_cases h1 : 1 ≤ o ∧ o ≤ 6
  · rw [if_pos h1] at h; cases h
  · rw [if_neg h1] at h
    by_cases h2 : 7 ≤ o ∧ o ≤ 10
    · exact h2
    · rw [if_neg h2] at h; cases h
theorem operN_two {o : Int} (h : operN o = 2) (ho : 1 ≤ o ∧ o ≤ 23) : 11 ≤ o ∧ o ≤ 23 := by
  unfold operN at h
  by_cases h1 : 1 ≤ o ∧ o ≤ 6
  · rw [if_pos h1] at h; cases h
  · rw [if_neg h1] at h
    by_cases h2 : 7 ≤ o ∧ o ≤ 10
    · rw [if_pos h2] at h; cases h
    · omega
theorem len_one {α : Type} {l : List α} (h : l.length = 1) : ∃ x, l = [x] := by
  match l, h with
  | [x], _ => exact ⟨x, rfl⟩
theorem len_two {α : Type} {l : List α} (h : l.length = 2) : ∃ x y, l = [x, y] := by
  match l, h with
  | [x, y], _ => exact ⟨x, y, rfl⟩

/-- the stack of operands in memory -/
def flatO (st : List VA) : List Value := st.flatMap opL
theorem flatO_append (a b : List VA) : flatO (a ++ b) = flatO a ++ flatO b := by simp [flatO]
theorem flatO_one (v : VA) : flatO [v] = opL v := by simp [flatO]
theorem opL_length (v : VA) : (opL v).length = 4 := rfl
theorem flatO_length (st : List VA) : (flatO st).length = st.length * 4 := by
  induction st with
  | nil => rfl
  | cons v r ih => show (opL v ++ flatO r).length = _; rw [List.length_append, ih, opL_length]; simp; omega
theorem flatO_take (st : List VA) (n : Nat) : (flatO st).take (n * 4) = flatO (st.take n) := by
  induction st generalizing n with
  | nil => simp [flatO]
  | cons v r ih =>
    cases n with
    | zero => simp [flatO]
    | succ n =>
      show (opL v ++ flatO r).take ((n + 1) * 4) = opL v ++ flatO (r.take n)
      rw [List.take_append, List.take_of_length_le (by rw [opL_length]; omega), opL_length, ← ih n, show (n + 1) * 4 - 4 = n * 4 by omega]
theorem infoOp : (Tryz.prog.info? 144).map (fun i => (i.zero, i.size, i.bytes)) = some (some (.agg #[.int .i64 0, .int .i64 0, .bool false, .complex .f64 0 0]), 4, 40) := by kernel_rfl
theorem own_take4 {w : World} {base : Nat} {e : TypeId} {n N : Nat} {A : Option Addr} {cap size : Nat} {xs : List Value} (h : w.ownsRow base e size (.slice A (n + N) cap) (n + N) xs) : w.ownsRow base e size (.slice A n cap) n (xs.take (n * size)) := by
  obtain ⟨h1, h2⟩ := h
  have hm : n * size ≤ (n + N) * size := Nat.mul_le_mul_right _ (by omega)
  rcases h2 with ⟨hv, h0⟩ | ⟨g, cap', cur, hv, hb, hh, hnc, hcm, hcs, ht⟩
  · simp only [Value.slice.injEq] at hv
    obtain ⟨rfl, _, rfl⟩ := hv
    obtain rfl : n = 0 := by omega
    exact ⟨by simp, Or.inl ⟨rfl, rfl⟩⟩
  · simp only [Value.slice.injEq] at hv
    obtain ⟨rfl, _, rfl⟩ := hv
    refine ⟨?_, Or.inr ⟨g, cap, cur, rfl, hb, hh, by omega, hcm, hcs, ?_⟩⟩
    · rw [List.length_take, h1, Nat.min_eq_left hm]
    · rw [← ht, List.take_take, Nat.min_eq_left hm]

/-- an operand of the stack at its place -/
theorem vop_at {w : World} {base n : Nat} {e : TypeId} {g cap : Nat} {st : List VA} (h : w.ownsRow base e 4 (.slice (some ⟨g, 0, none⟩) n cap) n (flatO st)) {j : Nat} (hj : j < st.length) : OpAt w g (j * 4) st[j] := by
  intro i u hu
  have hi : i < 4 := by
    have := (List.getElem?_eq_some_iff.1 hu).1
    rwa [opL_length] at this
  have hfl := flatO_length st
  rw [h.cellAt (j * 4 + i) (by rw [h.1.symm, hfl]; omega)]
  have e : st = st.take j ++ (st[j] :: st.drop (j + 1)) := by rw [List.getElem_cons_drop, List.take_append_drop]
  have e2 : flatO st = flatO (st.take j) ++ (opL st[j] ++ flatO (st.drop (j + 1))) := by
    conv => lhs; rw [e]
    rw [flatO_append]; rfl
  have hlt : (flatO (st.take j)).length = j * 4 := by rw [flatO_length, List.length_take, Nat.min_eq_left (by omega)]
  rw [e2, List.getElem?_append_right (by rw [hlt]; omega), hlt, Nat.add_sub_cancel_left, List.getElem?_append_left (by rw [opL_length]; exact hi)]
  exact hu

/-- where the loop stands: what is put down is the operands so far -/
structure EE (vs : List VM) (xs : List VA) (ss : List (List UInt8)) (cs : List CM) (k : Nat) (st : List VA) : Prop where
  le : k ≤ cs.length
  len : st.length ≤ k
  run : runB (cs.drop k) st.length = some 1
  er : eRun vs xs ss (cs.drop k) st = eRun vs xs ss cs []
  ok : ∀ v ∈ st, OkV v

theorem fin_made (vs : List VM) (xs : List VA) (ss : List (List UInt8)) (hx : ∀ v ∈ xs, OkV v) (hl : vs.length = xs.length) (c : CM) (st : List VA) (hf : formedB c = true) (hn : operN c.op ≤ st.length) (hr : ∀ v ∈ st, OkV v) : Fin (madeE vs xs ss c st) := by
  unfold madeE
  have h2 := operN_le c.op
  have hc : operN c.op = 0 ∨ operN c.op = 1 ∨ operN c.op = 2 := by omega
  rcases hc with h | h | h
  · rw [h]; exact fin_leaf hx hl hf
  · rw [h]
    match st, hn with
    | [], hn => rw [h] at hn; simp at hn
    | a :: r, _ => exact fin_un (hr a (by simp))
  · rw [h]
    match st, hn with
    | [], hn => rw [h] at hn; simp at hn
    | a :: r, _ => exact fin_join (hr a (by simp))

section
variable {vs : List VM} {xs : List VA} {ss : List (List UInt8)} {cs : List CM} {k : Nat} {st : List VA}
theorem EE.zero (h : rightB cs = true) : EE vs xs ss cs 0 [] := by
  unfold rightB at h
  simp at h
  exact ⟨Nat.zero_le _, Nat.le_refl _, h.2, rfl, fun x hx => by cases hx⟩
theorem EE.next (hx : ∀ v ∈ xs, OkV v) (hl : vs.length = xs.length) (h : EE vs xs ss cs k st) (hk : k < cs.length) : formedB cs[k] = true ∧ operN cs[k].op ≤ st.length ∧
    (((madeE vs xs ss cs[k] (st.drop (st.length - operN cs[k].op))).2 = 0 ∧ EE vs xs ss cs (k + 1) (st.take (st.length - operN cs[k].op) ++ [(madeE vs xs ss cs[k] (st.drop (st.length - operN cs[k].op))).1])) ∨
     ((madeE vs xs ss cs[k] (st.drop (st.length - operN cs[k].op))).2 ≠ 0 ∧ eRun vs xs ss cs [] = erV (madeE vs xs ss cs[k] (st.drop (st.length - operN cs[k].op))).2)) := by
  have h1 := h.run
  rw [run_at hk] at h1
  split at h1
  · rename_i hc
    refine ⟨hc.1, hc.2, ?_⟩
    have hkr := h.er
    rw [List.drop_eq_getElem_cons hk, eRun] at hkr
    rcases fin_made vs xs ss hx hl cs[k] (st.drop (st.length - operN cs[k].op)) hc.1 (by simp; omega) (fun x hx => h.ok x (List.mem_of_mem_drop hx)) with ⟨h2, h3⟩ | ⟨h2, h3⟩
    · refine Or.inl ⟨h2, ⟨by omega, ?_, ?_, ?_, ?_⟩⟩
      · have := h.len; simp; omega
      · have e : (st.take (st.length - operN cs[k].op) ++ [(madeE vs xs ss cs[k] (st.drop (st.length - operN cs[k].op))).1]).length = st.length + 1 - operN cs[k].op := by simp; omega
        rw [e]; exact h1
      · rw [if_neg (by simp [h2])] at hkr; exact hkr
      · intro x hx
        rcases List.mem_append.1 hx with hx | hx
        · exact h.ok x (List.mem_of_mem_take hx)
        · simp at hx; subst hx; exact h3
    · refine Or.inr ⟨h2, ?_⟩
      rw [if_pos h2] at hkr; exact hkr.symm
  · cases h1
theorem EE.done (h : EE vs xs ss cs cs.length st) : ∃ x, st = [x] ∧ eRun vs xs ss cs [] = (x, 0) ∧ OkV x := by
  have h1 := h.run
  rw [List.drop_length] at h1
  have h2 : st.length = 1 := by simpa [runB] using h1
  match st, h2 with
  | [x], _ =>
    have h3 := h.er
    rw [List.drop_length] at h3
    exact ⟨x, rfl, h3.symm, h.ok x (by simp)⟩
theorem world_of (h : worldB vs xs = true) (hi : ∀ x ∈ xs, inL x.a = true) : xs.length = vs.length ∧ xs.all rightV = true ∧ ∀ x ∈ xs, OkV x := by
  unfold worldB at h
  simp only [Bool.and_eq_true, decide_eq_true_eq] at h
  refine ⟨h.1, h.2, fun x hx => ⟨?_, hi x hx⟩⟩
  have := h.2
  rw [List.all_eq_true] at this
  exact this x hx
end
end Go.Proofs.YtjgfkmakfdepcaaGreatDoor
