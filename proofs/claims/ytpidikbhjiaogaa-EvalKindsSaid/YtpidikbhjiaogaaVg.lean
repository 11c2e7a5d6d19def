/- (operand).value; eval.Right; slices.ContainsFunc by isWrong. -/
import Derived.Test.YtpidikbhjiaogaaVe
namespace Go.Proofs.Ytpidikbhjiaogaa
open Go.RowKit

/-- a value in memory -/
def valV (v : VA) : Value := .agg #[.int .i64 v.kd, .int .i64 v.a, .int .i64 v.b]
set_option maxRecDepth 100000 in
theorem value_any (v : VA) (w : World) (h : OkV v) :
    Calls Try.prog 29 #[opV v] w fun e w' => e = .returned (valV v) ∧ Below w.heap.size w w' := by
  rcases ok_cases h with ⟨n, _, rfl⟩ | ⟨b, rfl⟩ | ⟨a, b, ha, hb, rfl⟩
  · rw [opV_num]
    unfold numO
    go_enter Try.func29, Try.ntmps29
    go_wp2
    refine bodyPost_ret ?_ rfl ⟨rfl, ?_⟩
    · simp [results, Try.results29, go_sem, valV, numV]
    · exact (((Below.refl _ _).alloc (Nat.le_refl _) _).alloc (by simp) _).alloc (by first | (simp; done) | (simp; omega)) _
  · rw [opV_tru]
    unfold truO
    cases b
    · go_enter Try.func29, Try.ntmps29
      go_wp2
      refine bodyPost_ret ?_ rfl ⟨rfl, ?_⟩
      · simp [results, Try.results29, go_sem, valV, truV]
      · exact (((Below.refl _ _).alloc (Nat.le_refl _) _).alloc (by simp) _).alloc (by first | (simp; done) | (simp; omega)) _
    · go_enter Try.func29, Try.ntmps29
      go_wp2
      refine bodyPost_ret ?_ rfl ⟨rfl, ?_⟩
      · simp [results, Try.results29, go_sem, valV, truV]
      · exact (((Below.refl _ _).alloc (Nat.le_refl _) _).alloc (by simp) _).alloc (by first | (simp; done) | (simp; omega)) _
  · rw [opV_pt]
    unfold ptO
    have h4 := fun (w : World) => run_convert_float_int (P := Try.prog) w 68 2 .f64 .i64 (fl a) a (by kernel_rfl) Try.underlying2 (toInt_rep (rep_fl ha) ha)
    have h5 := fun (w : World) => run_convert_float_int (P := Try.prog) w 68 2 .f64 .i64 (fl b) b (by kernel_rfl) Try.underlying2 (toInt_rep (rep_fl hb) hb)
    clear ha hb h
    go_enter Try.func29, Try.ntmps29
    go_wp2
    go_region
    all_goals
      go_wp2
      refine bodyPost_ret ?_ rfl ⟨rfl, ?_⟩
      · simp [results, Try.results29, go_sem, valV, ptV]
      · exact ((((Below.refl _ _).alloc (Nat.le_refl _) _).alloc (by simp) _).alloc (by first | (simp; done) | (simp; omega)) _).drew

theorem evRight_any (v : VA) (w : World) :
    Calls Try.prog 10 #[.agg #[.int .i64 v.kd, .int .i64 v.a, .int .i64 v.b]] w fun e w' => e = .returned (.bool (rightV v)) ∧ Below w.heap.size w w' := by
  obtain ⟨k, a, b⟩ := v
  have HB : Hid (∀ W : World, ∀ o : Obj, Below W.heap.size W (W.alloc o)) := fun W o => (Below.refl _ _).alloc (Nat.le_refl _) o
  show Calls _ _ #[.agg #[.int .i64 k, .int .i64 a, .int .i64 b]] _ _
  by_cases h1 : k = 1
  · subst h1
    have e : rightV ⟨1, a, b⟩ = decide (b = 0) := rfl
    rw [e]
    by_cases hb : b = 0
    · rw [decide_eq_true hb]; subst hb
      go_enter Try.func10, Try.ntmps10
      go_wp2
      go_ret
      exact ⟨rfl, HB.out _ _⟩
    · rw [decide_eq_false hb]; have tb := int_ne hb
      go_enter Try.func10, Try.ntmps10
      go_wp2
      go_ret
      exact ⟨rfl, HB.out _ _⟩
  · have t1 := int_ne h1
    by_cases h2 : k = 2
    · subst h2
      have e : rightV ⟨2, a, b⟩ = (decide (b = 0) && (decide (a = 0) || decide (a = 1))) := rfl
      rw [e]
      clear e h1
      by_cases hb : b = 0
      · rw [decide_eq_true hb]; subst hb
        by_cases h0 : a = 0
        · subst h0
          go_enter Try.func10, Try.ntmps10
          go_wp2
          go_ret
          exact ⟨rfl, HB.out _ _⟩
        · rw [decide_eq_false h0]; have ta := int_ne h0
          by_cases h1 : a = 1
          · subst h1
            go_enter Try.func10, Try.ntmps10
            go_wp2
            go_ret
            exact ⟨rfl, HB.out _ _⟩
          · rw [decide_eq_false h1]; have ta1 := int_ne h1
            go_enter Try.func10, Try.ntmps10
            go_wp2
            go_ret
            exact ⟨rfl, HB.out _ _⟩
      · rw [decide_eq_false hb]; have tb := int_ne hb
        go_enter Try.func10, Try.ntmps10
        go_wp2
        go_ret
        exact ⟨rfl, HB.out _ _⟩
    · have t2 := int_ne h2
      by_cases h3 : k = 3
      · subst h3
        have e : rightV ⟨3, a, b⟩ = (inB a && inB b) := rfl
        rw [e]
        clear e h1 h2
        obtain ⟨g1, g2, ge, hg⟩ := outC_form a b
        have HOC := Lib.hid hg
        have HA := Lib.hid (fun W => made_any a b W)
        have hge : (inB a && inB b) = (ge == 0) := by
          by_cases c : (inB a && inB b) = true
          · rw [outC_ok c] at hg
            simp at hg
            rw [c, ← hg.2]; rfl
          · rw [outC_no c] at hg
            simp at hg
            rw [(Bool.not_eq_true _).mp c, ← hg.2]; rfl
        rw [hge]
        clear hge hg
        go_enter Try.func10, Try.ntmps10
        go_wp2_with fail
        refine (HA.out _).mono ?_
        rintro e w' ⟨rfl, rfl⟩
        rw [HOC.out]
        go_wp2
        go_ret
        exact ⟨rfl, HB.out _ _⟩
      · have t3 := int_ne h3
        have e : rightV ⟨k, a, b⟩ = false := by
          show (if k = 1 then _ else if k = 2 then _ else if k = 3 then _ else false) = false
          rw [if_neg h1, if_neg h2, if_neg h3]
        rw [e]
        clear e h1 h2 h3
        go_enter Try.func10, Try.ntmps10
        go_wp2
        go_ret
        exact ⟨rfl, HB.out _ _⟩

theorem isWrong_any (v : VA) (w : World) :
    Calls Try.prog 26 #[.agg #[.int .i64 v.kd, .int .i64 v.a, .int .i64 v.b]] w fun e w' => e = .returned (.bool (!rightV v)) ∧ Below w.heap.size w w' := by
  have HR := Lib.hid (fun W => evRight_any v W)
  have HB : Hid (∀ W : World, ∀ o : Obj, Below W.heap.size W (W.alloc o)) := fun W o => (Below.refl _ _).alloc (Nat.le_refl _) o
  generalize rightV v = r at *
  generalize v.kd = k at *
  generalize v.a = a at *
  generalize v.b = b at *
  go_enter Try.func26, Try.ntmps26
  go_wp2_with fail
  refine (HR.out _).mono ?_
  rintro e w1 ⟨rfl, hb1⟩
  have HB1 := Lib.hid ((HB.out w _).trans (hb1.mono (HB.out w _).size))
  clear hb1
  go_wp2
  go_ret
  exact ⟨rfl, HB1.out⟩

/-- values as a slice in memory -/
def cellsV (v : VA) : List Value := [.int .i64 v.kd, .int .i64 v.a, .int .i64 v.b]
def flatX (xs : List VA) : List Value := xs.flatMap cellsV
theorem flatX_append (a b : List VA) : flatX (a ++ b) = flatX a ++ flatX b := by simp [flatX]
theorem flatX_length (xs : List VA) : (flatX xs).length = xs.length * 3 := by
  induction xs with
  | nil => rfl
  | cons v r ih => show (cellsV v ++ flatX r).length = _; rw [List.length_append, ih]; simp [cellsV]; omega
theorem flatX_at {xs : List VA} {i : Nat} (h : i < xs.length) {j : Nat} (hj : j < 3) : (flatX xs)[i * 3 + j]? = (cellsV xs[i])[j]? := by
  induction xs generalizing i with
  | nil => simp at h
  | cons v r ih =>
    show (cellsV v ++ flatX r)[i * 3 + j]? = _
    cases i with
    | zero => rw [List.getElem?_append_left (by simp [cellsV]; omega)]; simp
    | succ k =>
      rw [List.getElem?_append_right (by simp [cellsV]; omega)]
      have e : (k + 1) * 3 + j - (cellsV v).length = k * 3 + j := by simp [cellsV]; omega
      rw [e]
      exact ih (by simpa using h)
theorem flatX_vals (xs : List VA) : ∀ u ∈ flatX xs, u.oneCell' = true := by
  intro u hu
  obtain ⟨v, _, hv⟩ := List.mem_flatMap.1 hu
  simp only [cellsV, List.mem_cons, List.not_mem_nil, or_false] at hv
  rcases hv with rfl | rfl | rfl <;> rfl
def RdX (w : World) (v : Value) (xs : List VA) : Prop := Inn w 3 v xs.length (flatX xs)
theorem RdX.below {w w' : World} {v : Value} {xs : List VA} (h : RdX w v xs) (hb : Below w.heap.size w w') : RdX w' v xs := Inn.below h hb
theorem RdX.form {w : World} {v : Value} {xs : List VA} (h : RdX w v xs) : ∃ A c, v = .slice A xs.length c := Inn.form h
theorem RdX.at_ {w : World} {A : Option Addr} {m c : Nat} {xs : List VA} (h : RdX w (.slice A m c) xs) {k : Nat} (hk : k < xs.length) :
    ∃ b o, A = some ⟨b, o, none⟩ ∧ b < w.heap.size ∧ w.cell? ⟨b, o + k * 3, none⟩ = some (.int .i64 xs[k].kd) ∧ w.cell? ⟨b, o + k * 3 + 1, none⟩ = some (.int .i64 xs[k].a) ∧ w.cell? ⟨b, o + k * 3 + 2, none⟩ = some (.int .i64 xs[k].b) := by
  obtain ⟨b, o, hA, hlt, hc⟩ := Inn.at_ h hk
  exact ⟨b, o, hA, hlt, hc 0 _ ((flatX_at hk (by omega)).trans rfl), hc 1 _ ((flatX_at hk (by omega)).trans rfl), hc 2 _ ((flatX_at hk (by omega)).trans rfl)⟩

set_option maxHeartbeats 1000000 in
theorem valIndex_any (v : Value) (xs : List VA) (w : World) (hR : RdX w v xs) (hl : xs.length ≤ 4611686018427387904) :
    Calls Try.prog 41 #[v, .func (.func 26) #[] #[]] w fun e w' => e = .returned (.int .i64 (ixP (fun x => !rightV x) xs 0)) ∧ Below w.heap.size w w' := by
  obtain ⟨A, c, rfl⟩ := hR.form
  have HR := Lib.hid hR; clear hR
  obtain ⟨n, hn⟩ : ∃ n, xs.length = n := ⟨_, rfl⟩
  have HN := Lib.hid hn
  rw [hn] at hl HR ⊢
  clear hn
  go_enter Try.func41, Try.ntmps41
  go_wp2
  go_loopw [4, 5, 8] (fun x4 x5 i wr => x4 = .int .i64 0 ∧ (x5 = .int .i64 0 ∨ True) ∧ ∃ k : Nat, k ≤ n ∧ i = .int .i64 k ∧ Hid (ixP (fun x => !rightV x) (xs.drop k) k = ixP (fun x => !rightV x) xs 0) ∧ Below w.heap.size w wr) (fun _ _ i _ => n - (intOf i).toNat)
  case atStart => exact ⟨rfl, Or.inr trivial, 0, by omega, rfl, rfl, Below.refl _ _⟩
  case round =>
    obtain ⟨rfl, _, k, hk, rfl, HI, hb⟩ := hrel
    have HBL := Lib.hid hb
    by_cases hkn : k < n
    · have HR' := HR.out.below hb
      obtain ⟨b, o, rfl, _, hc0, hc1, hc2⟩ := HR'.at_ (k := k) (by rw [HN.out]; exact hkn)
      have hst := ix_step (p := fun x => !rightV x) (l := xs) (k := k) (by rw [HN.out]; exact hkn)
      rw [HI.out] at hst
      generalize xs[k]'(by rw [HN.out]; exact hkn) = x at *
      have HC := Lib.hid (isWrong_any x wr)
      clear hb HR'
      by_cases he : (!rightV x) = true
      · have hr : ixP (fun x => !rightV x) xs 0 = k := by rw [hst, if_pos he]
        have HRR := Lib.hid hr
        have HE := Lib.hid he
        clear hst hr he HI
        go_wp2_with fail
        refine HC.out.mono ?_
        rintro e w1 ⟨rfl, hb1⟩
        rw [HE.out]
        have HB1 := Lib.hid (HBL.out.trans (hb1.mono HBL.out.size)); clear hb1
        go_wp2
        go_ret
        exact ⟨ret_int HRR.out.symm, HB1.out⟩
      · have hr : ixP (fun x => !rightV x) (xs.drop (k + 1)) (k + 1) = ixP (fun x => !rightV x) xs 0 := by rw [hst, if_neg he]
        have HRR := Lib.hid hr
        have HE := Lib.hid ((Bool.not_eq_true _).mp he)
        clear hst hr he HI
        go_wp2_with fail
        refine HC.out.mono ?_
        rintro e w1 ⟨rfl, hb1⟩
        rw [HE.out]
        have HB1 := Lib.hid (HBL.out.trans (hb1.mono HBL.out.size)); clear hb1
        go_wp2
        go_roundw
        case rel => exact ⟨rfl, Or.inr trivial, k + 1, by omega, by go_num, HRR.out, HB1.out⟩
        case measure => simp [intOf]; omega
    · have hr : ixP (fun x => !rightV x) xs 0 = -1 := by rw [← HI.out, ix_end (by rw [HN.out]; exact hkn)]
      have HRR := Lib.hid hr
      clear hr HI
      go_wp2
      go_ret
      exact ⟨ret_int HRR.out.symm, HBL.out⟩

theorem wrong_any (xs : List VA) : decide (0 ≤ ixP (fun x => !rightV x) xs 0) = !xs.all rightV := by
  rcases ix_find (fun x => !rightV x) xs 0 with ⟨h1, h2⟩ | ⟨j, hj, h1, h2⟩
  · rw [h1]
    have : xs.all rightV = true := by
      rw [List.all_eq_true]
      intro x hx
      have := List.find?_eq_none.1 h2 x hx
      simpa using this
    rw [this]; rfl
  · rw [h1, decide_eq_true (by omega)]
    have := List.find?_some h2
    have hm := List.mem_of_find?_eq_some h2
    cases ha : xs.all rightV
    · rfl
    · rw [List.all_eq_true] at ha
      have := ha _ hm
      simp_all
theorem valContains_any (v : Value) (xs : List VA) (w : World) (hR : RdX w v xs) (hl : xs.length ≤ 4611686018427387904) :
    Calls Try.prog 25 #[v, .func (.func 26) #[] #[]] w fun e w' => e = .returned (.bool (!xs.all rightV)) ∧ Below w.heap.size w w' := by
  have HI := Lib.hid (valIndex_any v xs w hR hl)
  have HW := Lib.hid (wrong_any xs)
  obtain ⟨A, c, rfl⟩ := hR.form
  clear hR
  go_enter Try.func25, Try.ntmps25
  go_wp2_with fail
  refine HI.out.mono ?_
  rintro e w1 ⟨rfl, hb1⟩
  have HB1 := Lib.hid hb1; clear hb1
  go_wp2
  go_ret
  refine ⟨?_, HB1.out⟩
  rw [← HW.out]
  rfl
end Go.Proofs.Ytpidikbhjiaogaa
