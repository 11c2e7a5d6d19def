/- The document's Right, Truth, sum, less, times, numbers. -/
import Derived.Test.YtpidikbhjiaogaaVn
namespace Go.Proofs.Ytpidikbhjiaogaa
open Go.RowKit

theorem rTruth_any (b : Bool) (w : World) :
    Calls Try.prog 17 #[.bool b] w fun e w' => e = .returned (valV (truV b)) ∧ Below w.heap.size w w' := by
  cases b
  all_goals
    go_enter Try.func17, Try.ntmps17
    go_wp2
    refine bodyPost_ret ?_ rfl ⟨rfl, ?_⟩
    · simp [results, Try.results17, go_sem, valV, truV]
    · exact (Below.refl _ _).alloc (Nat.le_refl _) _

theorem rRight_any (v : VA) (w : World) :
    Calls Try.prog 11 #[.agg #[.int .i64 v.kd, .int .i64 v.a, .int .i64 v.b]] w fun e w' => e = .returned (.bool (rightV v)) ∧ Below w.heap.size w w' := by
  obtain ⟨k, a, b⟩ := v
  have HB : Hid (∀ W : World, ∀ o : Obj, Below W.heap.size W (W.alloc o)) := fun W o => (Below.refl _ _).alloc (Nat.le_refl _) o
  show Calls _ _ #[.agg #[.int .i64 k, .int .i64 a, .int .i64 b]] _ _
  by_cases h1 : k = 1
  · subst h1
    have e : rightV ⟨1, a, b⟩ = decide (b = 0) := rfl
    rw [e]
    by_cases hb : b = 0
    · rw [decide_eq_true hb]; subst hb
      go_enter Try.func11, Try.ntmps11
      go_wp2
      go_ret
      exact ⟨rfl, HB.out _ _⟩
    · rw [decide_eq_false hb]; have tb := int_ne hb
      go_enter Try.func11, Try.ntmps11
      go_wp2
      go_ret
      exact ⟨rfl, HB.out _ _⟩
  · have t1 := int_ne h1
    by_cases h2 : k = 2
    · subst h2
      have e : rightV ⟨2, a, b⟩ = (decide (b = 0) && (decide (a = 0) || decide (a = 1))) := rfl
      rw [e]
      clear e h1
      by_cases hb : b = 0
      · rw [decide_eq_true hb]; subst hb
        by_cases h0 : a = 0
        · subst h0
          go_enter Try.func11, Try.ntmps11
          go_wp2
          go_ret
          exact ⟨rfl, HB.out _ _⟩
        · rw [decide_eq_false h0]; have ta := int_ne h0
          by_cases h1 : a = 1
          · subst h1
            go_enter Try.func11, Try.ntmps11
            go_wp2
            go_ret
            exact ⟨rfl, HB.out _ _⟩
          · rw [decide_eq_false h1]; have ta1 := int_ne h1
            go_enter Try.func11, Try.ntmps11
            go_wp2
            go_ret
            exact ⟨rfl, HB.out _ _⟩
      · rw [decide_eq_false hb]; have tb := int_ne hb
        go_enter Try.func11, Try.ntmps11
        go_wp2
        go_ret
        exact ⟨rfl, HB.out _ _⟩
    · have t2 := int_ne h2
      by_cases h3 : k = 3
      · subst h3
        have e : rightV ⟨3, a, b⟩ = (inB a && inB b) := rfl
        rw [e]
        clear e h1 h2
        have HA := Lib.hid (fun W => rIn_any a W)
        have HC := Lib.hid (fun W => rIn_any b W)
        cases ha : inB a with
        | false =>
          rw [ha] at HA
          clear ha
          go_enter Try.func11, Try.ntmps11
          go_wp2_with fail
          refine (HA.out _).mono ?_
          rintro e w' ⟨rfl, rfl⟩
          go_wp2
          go_ret
          exact ⟨rfl, HB.out _ _⟩
        | true =>
          rw [ha] at HA
          generalize inB b = bb at *
          clear ha
          go_enter Try.func11, Try.ntmps11
          go_wp2_with fail
          refine (HA.out _).mono ?_
          rintro e w' ⟨rfl, rfl⟩
          go_wp2_with fail
          refine (HC.out _).mono ?_
          rintro e w' ⟨rfl, rfl⟩
          go_wp2
          go_ret
          exact ⟨by simp, HB.out _ _⟩
      · have t3 := int_ne h3
        have e : rightV ⟨k, a, b⟩ = false := by
          show (if k = 1 then _ else if k = 2 then _ else if k = 3 then _ else false) = false
          rw [if_neg h1, if_neg h2, if_neg h3]
        rw [e]
        clear e h1 h2 h3
        go_enter Try.func11, Try.ntmps11
        go_wp2
        go_ret
        exact ⟨rfl, HB.out _ _⟩

theorem rsum_any (a b : Int) (w : World) (ha : inL a = true) (hb : inL b = true) :
    Calls Try.prog 61 #[.int .i64 a, .int .i64 b] w fun e w' => e = .returned (.tuple #[.int .i64 (if inL (a + b) = true then a + b else 0), .bool (inL (a + b))]) ∧ w = w' := by
  rw [inL_iff] at ha hb
  have e1 : 0 < b → wrap64 (9223372036854775807 - b) = 9223372036854775807 - b := fun h => wrap_id (by omega)
  have e2 : b < 0 → wrap64 (-9223372036854775808 - b) = -9223372036854775808 - b := fun h => wrap_id (by omega)
  cases hi : inL (a + b) with
  | true =>
    rw [if_pos rfl]
    have hw := wrap_id (inL_iff.1 hi)
    rw [inL_iff] at hi
    rcases dec2 (0 < b) with ⟨c1, q1⟩ | ⟨c1, q1⟩ <;> rcases dec2 (b < 0) with ⟨c2, q2⟩ | ⟨c2, q2⟩
    · omega
    · have q3 : decide (9223372036854775807 - b < a) = false := decide_eq_false (by omega)
      have e1 := e1 c1
      clear e2 c1 c2 ha hb hi
      generalize hs : a + b = s at *
      go_enter Try.func61, Try.ntmps61
      go_wp2
      go_ret2
      exact ⟨by first | rfl | (rw [hw]; rfl), rfl⟩
    · have q3 : decide (a < -9223372036854775808 - b) = false := decide_eq_false (by omega)
      have e2 := e2 c2
      clear e1 c1 c2 ha hb hi
      generalize hs : a + b = s at *
      go_enter Try.func61, Try.ntmps61
      go_wp2
      go_ret2
      exact ⟨by first | rfl | (rw [hw]; rfl), rfl⟩
    · clear e1 e2 c1 c2 ha hb hi
      generalize hs : a + b = s at *
      go_enter Try.func61, Try.ntmps61
      go_wp2
      go_ret2
      exact ⟨by first | rfl | (rw [hw]; rfl), rfl⟩
  | false =>
    rw [if_neg (by decide)]
    have hi : ¬ inL (a + b) = true := by rw [hi]; decide
    rw [inL_iff] at hi
    rcases dec2 (0 < b) with ⟨c1, q1⟩ | ⟨c1, q1⟩ <;> rcases dec2 (b < 0) with ⟨c2, q2⟩ | ⟨c2, q2⟩
    · omega
    · have q3 : decide (9223372036854775807 - b < a) = true := decide_eq_true (by omega)
      have e1 := e1 c1
      clear e2 c1 c2 ha hb hi
      go_enter Try.func61, Try.ntmps61
      go_wp2
      go_ret2
      exact ⟨by first | rfl | (rw [hw]; rfl), rfl⟩
    · have q3 : decide (a < -9223372036854775808 - b) = true := decide_eq_true (by omega)
      have e2 := e2 c2
      clear e1 c1 c2 ha hb hi
      go_enter Try.func61, Try.ntmps61
      go_wp2
      go_ret2
      exact ⟨by first | rfl | (rw [hw]; rfl), rfl⟩
    · omega

theorem rless_any (a b : Int) (w : World) (ha : inL a = true) (hb : inL b = true) :
    Calls Try.prog 62 #[.int .i64 a, .int .i64 b] w fun e w' => e = .returned (.tuple #[.int .i64 (if inL (a - b) = true then a - b else 0), .bool (inL (a - b))]) ∧ w = w' := by
  rw [inL_iff] at ha hb
  have e1 : b < 0 → wrap64 (9223372036854775807 + b) = 9223372036854775807 + b := fun h => wrap_id (by omega)
  have e2 : 0 < b → wrap64 (-9223372036854775808 + b) = -9223372036854775808 + b := fun h => wrap_id (by omega)
  cases hi : inL (a - b) with
  | true =>
    rw [if_pos rfl]
    have hw := wrap_id (inL_iff.1 hi)
    rw [inL_iff] at hi
    rcases dec2 (b < 0) with ⟨c1, q1⟩ | ⟨c1, q1⟩ <;> rcases dec2 (0 < b) with ⟨c2, q2⟩ | ⟨c2, q2⟩
    · omega
    · have q3 : decide (9223372036854775807 + b < a) = false := decide_eq_false (by omega)
      have e1 := e1 c1
      clear e2 c1 c2 ha hb hi
      generalize hs : a - b = s at *
      go_enter Try.func62, Try.ntmps62
      go_wp2
      go_ret2
      exact ⟨by first | rfl | (rw [hw]; rfl), rfl⟩
    · have q3 : decide (a < -9223372036854775808 + b) = false := decide_eq_false (by omega)
      have e2 := e2 c2
      clear e1 c1 c2 ha hb hi
      generalize hs : a - b = s at *
      go_enter Try.func62, Try.ntmps62
      go_wp2
      go_ret2
      exact ⟨by first | rfl | (rw [hw]; rfl), rfl⟩
    · clear e1 e2 c1 c2 ha hb hi
      generalize hs : a - b = s at *
      go_enter Try.func62, Try.ntmps62
      go_wp2
      go_ret2
      exact ⟨by first | rfl | (rw [hw]; rfl), rfl⟩
  | false =>
    rw [if_neg (by decide)]
    have hi : ¬ inL (a - b) = true := by rw [hi]; decide
    rw [inL_iff] at hi
    rcases dec2 (b < 0) with ⟨c1, q1⟩ | ⟨c1, q1⟩ <;> rcases dec2 (0 < b) with ⟨c2, q2⟩ | ⟨c2, q2⟩
    · omega
    · have q3 : decide (9223372036854775807 + b < a) = true := decide_eq_true (by omega)
      have e1 := e1 c1
      clear e2 c1 c2 ha hb hi
      go_enter Try.func62, Try.ntmps62
      go_wp2
      go_ret2
      exact ⟨by first | rfl | (rw [hw]; rfl), rfl⟩
    · have q3 : decide (a < -9223372036854775808 + b) = true := decide_eq_true (by omega)
      have e2 := e2 c2
      clear e1 c1 c2 ha hb hi
      go_enter Try.func62, Try.ntmps62
      go_wp2
      go_ret2
      exact ⟨by first | rfl | (rw [hw]; rfl), rfl⟩
    · omega

theorem tdiv_up {g x y : Int} (hg : 0 ≤ g) (hy : 0 < y) : g.tdiv y < x ↔ g < x * y := by
  rw [Int.tdiv_eq_ediv_of_nonneg hg]; exact Int.ediv_lt_iff_lt_mul hy
theorem t_pp {a b : Int} (ha : 0 < a) (hb : 0 < b) : decide (Int.tdiv 9223372036854775807 b < a) = !inL (a * b) := by
  have h1 := tdiv_up (g := 9223372036854775807) (x := a) (by decide) hb
  have h2 := Int.mul_pos ha hb
  generalize a * b = p at *
  generalize Int.tdiv 9223372036854775807 b = q at *
  unfold inL
  rw [← decide_not]
  exact decide_eq_decide.2 (by omega)
theorem t_nn {a b : Int} (ha : a < 0) (hb : b < 0) : decide (a < Int.tdiv 9223372036854775807 b) = !inL (a * b) := by
  have h1 := tdiv_up (g := 9223372036854775807) (x := -a) (y := -b) (by decide) (by omega)
  have h2 := Int.mul_pos (a := -a) (b := -b) (by omega) (by omega)
  rw [Int.tdiv_neg] at h1
  rw [Int.neg_mul_neg] at h1 h2
  generalize a * b = p at *
  generalize Int.tdiv 9223372036854775807 b = q at *
  unfold inL
  rw [← decide_not]
  exact decide_eq_decide.2 (by omega)
theorem t_pn {a b : Int} (ha : 0 < a) (hb : b < 0) : decide (b < Int.tdiv (-9223372036854775808) a) = !inL (a * b) := by
  have h1 := tdiv_up (g := 9223372036854775808) (x := -b) (y := a) (by decide) ha
  have h2 := Int.mul_pos (a := a) (b := -b) ha (by omega)
  have h3 : Int.tdiv (-9223372036854775808) a = -(Int.tdiv 9223372036854775808 a) := Int.neg_tdiv _ _
  rw [h3]
  rw [Int.neg_mul, Int.mul_comm b a] at h1
  rw [Int.mul_neg] at h2
  generalize a * b = p at *
  generalize Int.tdiv 9223372036854775808 a = q at *
  unfold inL
  rw [← decide_not]
  exact decide_eq_decide.2 (by omega)
theorem t_np {a b : Int} (ha : a < 0) (hb : 0 < b) : decide (a < Int.tdiv (-9223372036854775808) b) = !inL (a * b) := by
  rw [Int.mul_comm]; exact t_pn hb ha

theorem rtimes_any (a b : Int) (w : World) :
    Calls Try.prog 63 #[.int .i64 a, .int .i64 b] w fun e w' => e = .returned (.tuple #[.int .i64 (if inL (a * b) = true then a * b else 0), .bool (inL (a * b))]) ∧ w = w' := by
  have hw : inL (a * b) = true → wrap64 (a * b) = a * b := fun h => wrap_id (inL_iff.1 h)
  rcases dec2 (0 < a) with ⟨c1, q1⟩ | ⟨c1, q1⟩ <;> rcases dec2 (a < 0) with ⟨c2, q2⟩ | ⟨c2, q2⟩ <;> rcases dec2 (0 < b) with ⟨c3, q3⟩ | ⟨c3, q3⟩ <;> rcases dec2 (b < 0) with ⟨c4, q4⟩ | ⟨c4, q4⟩
  all_goals first
    | (exfalso; omega)
    | skip
  · have q5 := t_pp c1 c3
    have hq : wrap64 (Int.tdiv 9223372036854775807 b) = Int.tdiv 9223372036854775807 b := wrap_id (quot_in (by omega) (by omega))
    have hn : ¬ b = 0 := by omega
    have tn := int_ne hn
    generalize hqq : Int.tdiv 9223372036854775807 b = q at *
    clear c1 c2 c3 c4
    cases hi : inL (a * b) with
    | true =>
      have hw := hw hi
      rw [hi, Bool.not_true] at q5
      rw [if_pos rfl]
      generalize hp : a * b = p at *
      have q6 := q5
      rw [← hq] at q6
      clear hi
      go_enter Try.func63, Try.ntmps63
      go_wp2
      go_ret2
      exact ⟨by first | rfl | (rw [hw]; rfl), rfl⟩
    | false =>
      rw [hi, Bool.not_false] at q5
      rw [if_neg (by decide)]
      have q6 := q5
      rw [← hq] at q6
      clear hw hi
      go_enter Try.func63, Try.ntmps63
      go_wp2
      go_ret2
      exact ⟨by first | rfl | (rw [hw]; rfl), rfl⟩
  · have q5 := t_pn c1 c4
    have hq : wrap64 (Int.tdiv (-9223372036854775808) a) = Int.tdiv (-9223372036854775808) a := wrap_id (quot_in (by omega) (by omega))
    have hn : ¬ a = 0 := by omega
    have tn := int_ne hn
    generalize hqq : Int.tdiv (-9223372036854775808) a = q at *
    clear c1 c2 c3 c4
    cases hi : inL (a * b) with
    | true =>
      have hw := hw hi
      rw [hi, Bool.not_true] at q5
      rw [if_pos rfl]
      generalize hp : a * b = p at *
      have q6 := q5
      rw [← hq] at q6
      clear hi
      go_enter Try.func63, Try.ntmps63
      go_wp2
      go_ret2
      exact ⟨by first | rfl | (rw [hw]; rfl), rfl⟩
    | false =>
      rw [hi, Bool.not_false] at q5
      rw [if_neg (by decide)]
      have q6 := q5
      rw [← hq] at q6
      clear hw hi
      go_enter Try.func63, Try.ntmps63
      go_wp2
      go_ret2
      exact ⟨by first | rfl | (rw [hw]; rfl), rfl⟩
  · have hz : a * b = 0 := by first | (rw [show a = 0 by omega, Int.zero_mul]) | (rw [show b = 0 by omega, Int.mul_zero])
    rw [hz]
    rw [show inL 0 = true from rfl, if_pos rfl]
    clear hw c1 c2 c3 c4
    go_enter Try.func63, Try.ntmps63
    go_wp2
    go_ret2
    exact ⟨by first | rfl | (rw [hw]; rfl), rfl⟩
  · have q5 := t_np c2 c3
    have hq : wrap64 (Int.tdiv (-9223372036854775808) b) = Int.tdiv (-9223372036854775808) b := wrap_id (quot_in (by omega) (by omega))
    have hn : ¬ b = 0 := by omega
    have tn := int_ne hn
    generalize hqq : Int.tdiv (-9223372036854775808) b = q at *
    clear c1 c2 c3 c4
    cases hi : inL (a * b) with
    | true =>
      have hw := hw hi
      rw [hi, Bool.not_true] at q5
      rw [if_pos rfl]
      generalize hp : a * b = p at *
      have q6 := q5
      rw [← hq] at q6
      clear hi
      go_enter Try.func63, Try.ntmps63
      go_wp2
      go_ret2
      exact ⟨by first | rfl | (rw [hw]; rfl), rfl⟩
    | false =>
      rw [hi, Bool.not_false] at q5
      rw [if_neg (by decide)]
      have q6 := q5
      rw [← hq] at q6
      clear hw hi
      go_enter Try.func63, Try.ntmps63
      go_wp2
      go_ret2
      exact ⟨by first | rfl | (rw [hw]; rfl), rfl⟩
  · have q5 := t_nn c2 c4
    have hq : wrap64 (Int.tdiv 9223372036854775807 b) = Int.tdiv 9223372036854775807 b := wrap_id (quot_in (by omega) (by omega))
    have hn : ¬ b = 0 := by omega
    have tn := int_ne hn
    generalize hqq : Int.tdiv 9223372036854775807 b = q at *
    clear c1 c2 c3 c4
    cases hi : inL (a * b) with
    | true =>
      have hw := hw hi
      rw [hi, Bool.not_true] at q5
      rw [if_pos rfl]
      generalize hp : a * b = p at *
      have q6 := q5
      rw [← hq] at q6
      clear hi
      go_enter Try.func63, Try.ntmps63
      go_wp2
      go_ret2
      exact ⟨by first | rfl | (rw [hw]; rfl), rfl⟩
    | false =>
      rw [hi, Bool.not_false] at q5
      rw [if_neg (by decide)]
      have q6 := q5
      rw [← hq] at q6
      clear hw hi
      go_enter Try.func63, Try.ntmps63
      go_wp2
      go_ret2
      exact ⟨by first | rfl | (rw [hw]; rfl), rfl⟩
  · have hz : a * b = 0 := by first | (rw [show a = 0 by omega, Int.zero_mul]) | (rw [show b = 0 by omega, Int.mul_zero])
    rw [hz]
    rw [show inL 0 = true from rfl, if_pos rfl]
    clear hw c1 c2 c3 c4
    go_enter Try.func63, Try.ntmps63
    go_wp2
    go_ret2
    exact ⟨by first | rfl | (rw [hw]; rfl), rfl⟩
  · have hz : a * b = 0 := by first | (rw [show a = 0 by omega, Int.zero_mul]) | (rw [show b = 0 by omega, Int.mul_zero])
    rw [hz]
    rw [show inL 0 = true from rfl, if_pos rfl]
    clear hw c1 c2 c3 c4
    go_enter Try.func63, Try.ntmps63
    go_wp2
    go_ret2
    exact ⟨by first | rfl | (rw [hw]; rfl), rfl⟩
  · have hz : a * b = 0 := by first | (rw [show a = 0 by omega, Int.zero_mul]) | (rw [show b = 0 by omega, Int.mul_zero])
    rw [hz]
    rw [show inL 0 = true from rfl, if_pos rfl]
    clear hw c1 c2 c3 c4
    go_enter Try.func63, Try.ntmps63
    go_wp2
    go_ret2
    exact ⟨by first | rfl | (rw [hw]; rfl), rfl⟩
  · have hz : a * b = 0 := by first | (rw [show a = 0 by omega, Int.zero_mul]) | (rw [show b = 0 by omega, Int.mul_zero])
    rw [hz]
    rw [show inL 0 = true from rfl, if_pos rfl]
    clear hw c1 c2 c3 c4
    go_enter Try.func63, Try.ntmps63
    go_wp2
    go_ret2
    exact ⟨by first | rfl | (rw [hw]; rfl), rfl⟩

theorem numE_a (n : Int) : (numE n).1.a = (if inL n = true then n else 0) := by unfold numE; split <;> rfl
theorem numE_e (n : Int) : (numE n).2 = (if inL n = true then 0 else 7) := by unfold numE; split <;> rfl
set_option maxHeartbeats 1000000 in
theorem rnumbers_any (op a b : Int) (w : World) (h : 11 ≤ op ∧ op ≤ 15) (ha : inL a = true) (hb : inL b = true) :
    Calls Try.prog 46 #[.int .i64 op, .int .i64 a, .int .i64 b] w fun e w' => e = .returned (.tuple #[.int .i64 (numbersE op a b).1.a, .int .i64 (numbersE op a b).2]) ∧ w = w' := by
  rcases (show op = 11 ∨ op = 12 ∨ op = 13 ∨ op = 14 ∨ op = 15 by omega) with rfl | rfl | rfl | rfl | rfl
  · rw [show numbersE 11 a b = numE (a + b) from rfl, numE_a, numE_e]
    have HC := Lib.hid (fun W => rsum_any a b W ha hb)
    cases hi : inL (a + b) with
    | true =>
      rw [hi] at HC
      rw [if_pos rfl] at HC
      rw [if_pos rfl, if_pos rfl]
      generalize a + b = n at *
      clear hi ha hb
      go_enter Try.func46, Try.ntmps46
      go_wp2_with fail
      refine (HC.out _).mono ?_
      rintro e w' ⟨rfl, rfl⟩
      go_wp2
      go_ret2
      exact ⟨by first | rfl | (rw [hw]; rfl), rfl⟩
    | false =>
      rw [hi] at HC
      rw [if_neg (by decide)] at HC
      rw [if_neg (by decide), if_neg (by decide)]
      clear hi ha hb
      go_enter Try.func46, Try.ntmps46
      go_wp2_with fail
      refine (HC.out _).mono ?_
      rintro e w' ⟨rfl, rfl⟩
      go_wp2
      go_ret2
      exact ⟨by first | rfl | (rw [hw]; rfl), rfl⟩
  · rw [show numbersE 12 a b = numE (a - b) from rfl, numE_a, numE_e]
    have HC := Lib.hid (fun W => rless_any a b W ha hb)
    cases hi : inL (a - b) with
    | true =>
      rw [hi] at HC
      rw [if_pos rfl] at HC
      rw [if_pos rfl, if_pos rfl]
      generalize a - b = n at *
      clear hi ha hb
      go_enter Try.func46, Try.ntmps46
      go_wp2_with fail
      refine (HC.out _).mono ?_
      rintro e w' ⟨rfl, rfl⟩
      go_wp2
      go_ret2
      exact ⟨by first | rfl | (rw [hw]; rfl), rfl⟩
    | false =>
      rw [hi] at HC
      rw [if_neg (by decide)] at HC
      rw [if_neg (by decide), if_neg (by decide)]
      clear hi ha hb
      go_enter Try.func46, Try.ntmps46
      go_wp2_with fail
      refine (HC.out _).mono ?_
      rintro e w' ⟨rfl, rfl⟩
      go_wp2
      go_ret2
      exact ⟨by first | rfl | (rw [hw]; rfl), rfl⟩
  · rw [show numbersE 13 a b = numE (a * b) from rfl, numE_a, numE_e]
    have HC := Lib.hid (fun W => rtimes_any a b W)
    cases hi : inL (a * b) with
    | true =>
      rw [hi] at HC
      rw [if_pos rfl] at HC
      rw [if_pos rfl, if_pos rfl]
      generalize a * b = n at *
      clear hi ha hb
      go_enter Try.func46, Try.ntmps46
      go_wp2_with fail
      refine (HC.out _).mono ?_
      rintro e w' ⟨rfl, rfl⟩
      go_wp2
      go_ret2
      exact ⟨by first | rfl | (rw [hw]; rfl), rfl⟩
    | false =>
      rw [hi] at HC
      rw [if_neg (by decide)] at HC
      rw [if_neg (by decide), if_neg (by decide)]
      clear hi ha hb
      go_enter Try.func46, Try.ntmps46
      go_wp2_with fail
      refine (HC.out _).mono ?_
      rintro e w' ⟨rfl, rfl⟩
      go_wp2
      go_ret2
      exact ⟨by first | rfl | (rw [hw]; rfl), rfl⟩
  · by_cases c0 : b = 0
    · subst c0
      rw [show numbersE 14 a 0 = erV 6 from rfl]
      clear ha hb
      go_enter Try.func46, Try.ntmps46
      go_wp2
      go_ret2
      exact ⟨by first | rfl | (rw [hw]; rfl), rfl⟩
    · rw [show numbersE 14 a b = numE (a.tdiv b) from if_neg c0, numE_a, numE_e]
      have t0 := int_ne c0
      by_cases cm : a = -9223372036854775808 ∧ b = -1
      · obtain ⟨rfl, rfl⟩ := cm
        rw [show inL (Int.tdiv (-9223372036854775808) (-1)) = false by decide +kernel, if_neg (by decide), if_neg (by decide)]
        clear ha hb
        go_enter Try.func46, Try.ntmps46
        go_wp2
        go_ret2
        exact ⟨by first | rfl | (rw [hw]; rfl), rfl⟩
      · have hq := quot_in (inL_iff.1 ha) cm
        have hw := wrap_id hq
        rw [show inL (a.tdiv b) = true from inL_iff.2 hq, if_pos rfl, if_pos rfl]
        generalize hqq : a.tdiv b = q at *
        by_cases c1 : a = -9223372036854775808
        · have t2 : (b == -1) = false := int_ne (fun e => cm ⟨c1, e⟩)
          have t2' : (b != -1) = true := bne_iff_ne.2 (fun e => cm ⟨c1, e⟩)
          have t1 : (a == -9223372036854775808) = true := by rw [c1]; rfl
          have t1' : (a != -9223372036854775808) = false := by rw [c1]; rfl
          clear cm c1 hq ha hb
          go_enter Try.func46, Try.ntmps46
          go_wp2
          go_ret2
          exact ⟨by first | rfl | (rw [hw]; rfl), rfl⟩
        · have t1 := int_ne c1
          have t1' : (a != -9223372036854775808) = true := bne_iff_ne.2 c1
          clear cm c1 hq ha hb
          go_enter Try.func46, Try.ntmps46
          go_wp2
          go_ret2
          exact ⟨by first | rfl | (rw [hw]; rfl), rfl⟩
  · by_cases c0 : b = 0
    · subst c0
      rw [show numbersE 15 a 0 = erV 6 from rfl]
      clear ha hb
      go_enter Try.func46, Try.ntmps46
      go_wp2
      go_ret2
      exact ⟨by first | rfl | (rw [hw]; rfl), rfl⟩
    · rw [show numbersE 15 a b = (numV (a.tmod b), 0) from if_neg c0]
      show Calls _ _ _ _ fun e w' => e = .returned (.tuple #[.int .i64 (a.tmod b), .int .i64 0]) ∧ w = w'
      have t0 := int_ne c0
      by_cases c1 : b = -1
      · subst c1
        rw [show a.tmod (-1) = 0 by rw [Int.tmod_neg]; exact Int.tmod_one a]
        clear ha hb
        go_enter Try.func46, Try.ntmps46
        go_wp2
        go_ret2
        exact ⟨by first | rfl | (rw [hw]; rfl), rfl⟩
      · have t1 := int_ne c1
        have t1' : (b != -1) = true := bne_iff_ne.2 c1
        have hw := wrap_id (inL_iff.1 (tmod_in (b := b) ha))
        generalize hqq : a.tmod b = q at *
        clear ha hb
        go_enter Try.func46, Try.ntmps46
        go_wp2
        go_ret2
        exact ⟨by first | rfl | (rw [hw]; rfl), rfl⟩
end Go.Proofs.Ytpidikbhjiaogaa
