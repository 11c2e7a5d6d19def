/- Own texts, joined: Vo, Vq. -/
import Derived.Test.YtjgfkmakfdepcaaGreatDoorR19
namespace Go.Proofs.YtjgfkmakfdepcaaGreatDoor
open Go.RowKit

theorem rTruth_any (b : Bool) (w : World) :
    Calls Tryz.prog 99 #[.bool b] w fun e w' => e = .returned (valV (truV b)) ∧ Below w.heap.size w w' := by
  cases b
  all_goals
    go_enter Tryz.func99, Tryz.ntmps99
    go_wp2
    refine bodyPost_ret ?_ rfl ⟨rfl, ?_⟩
    · simp [results, Tryz.results99, go_sem, valV, truV]
    · exact (Below.refl _ _).alloc (Nat.le_refl _) _

theorem rRight_any (v : VA) (w : World) :
    Calls Tryz.prog 69 #[.agg #[.int .i64 v.kd, .int .i64 v.a, .int .i64 v.b]] w fun e w' => e = .returned (.bool (rightV v)) ∧ Below w.heap.size w w' := by
  obtain ⟨k, a, b⟩ := v
  have HB : Hid (∀ W : World, ∀ o : Obj, Below W.heap.size W (W.alloc o)) := fun W o => (Below.refl _ _).alloc (Nat.le_refl _) o
  show Calls _ _ #[.agg #[.int .i64 k, .int .i64 a, .int .i64 b]] _ _
  by_cases h1 : k = 1
  · subst h1
    have e : rightV ⟨1, a, b⟩ = decide (b = 0) := rfl
    rw [e]
    by_cases hb : b = 0
    · rw [decide_eq_true hb]; subst hb
      go_enter Tryz.func69, Tryz.ntmps69
      go_wp2
      go_ret
      exact ⟨rfl, HB.out _ _⟩
    · rw [decide_eq_false hb]; have tb := int_ne hb
      go_enter Tryz.func69, Tryz.ntmps69
      go_wp2
      go_ret
      exact ⟨rfl, HB.out _ _⟩
  · have t1 := int_ne h1
    by_cases h2 : k = 2
    · subst h2
      have e : rightV ⟨2, a, b⟩ = (decide (b = 0) && (decide (a = 0) || decide (a = 1))) := rfl
      rw [e]
      clear e h1
      by_cases hb : b = 0
      · rw [decide_eq_true hb]; subst hb
        by_cases h0 : a = 0
        · subst h0
          go_enter Tryz.func69, Tryz.ntmps69
          go_wp2
          go_ret
          exact ⟨rfl, HB.out _ _⟩
        · rw [decide_eq_false h0]; have ta := int_ne h0
          by_cases h1 : a = 1
          · subst h1
            go_enter Tryz.func69, Tryz.ntmps69
            go_wp2
            go_ret
            exact ⟨rfl, HB.out _ _⟩
          · rw [decide_eq_false h1]; have ta1 := int_ne h1
            go_enter Tryz.func69, Tryz.ntmps69
            go_wp2
            go_ret
            exact ⟨rfl, HB.out _ _⟩
      · rw [decide_eq_false hb]; have tb := int_ne hb
        go_enter Tryz.func69, Tryz.ntmps69
        go_wp2
        go_ret
        exact ⟨rfl, HB.out _ _⟩
    · have t2 := int_ne h2
      by_cases h3 : k = 3
      · subst h3
        have e : rightV ⟨3, a, b⟩ = (inB a && inB b) := rfl
        rw [e]
        clear e h1 h2
        have HA := Lib.hid (fun W => rIn_any a W)
        have HC := Lib.hid (fun W => rIn_any b W)
        cases ha : inB a with
        | false =>
          rw [ha] at HA
          clear ha
          go_enter Tryz.func69, Tryz.ntmps69
          go_wp2_with fail
          refine (HA.out _).mono ?_
          rintro e w' ⟨rfl, rfl⟩
          go_wp2
          go_ret
          exact ⟨rfl, HB.out _ _⟩
        | true =>
          rw [ha] at HA
          generalize inB b = bb at *
          clear ha
          go_enter Tryz.func69, Tryz.ntmps69
          go_wp2_with fail
          refine (HA.out _).mono ?_
          rintro e w' ⟨rfl, rfl⟩
          go_wp2_with fail
          refine (HC.out _).mono ?_
          rintro e w' ⟨rfl, rfl⟩
          go_wp2
          go_ret
          exact ⟨by simp, HB.out _ _⟩
      · have t3 := int_ne h3
        have e : rightV ⟨k, a, b⟩ = false := by
          show (if k = 1 then _ else if k = 2 then _ else if k = 3 then _ else false) = false
          rw [if_neg h1, if_neg h2, if_neg h3]
        rw [e]
        clear e h1 h2 h3
        go_enter Tryz.func69, Tryz.ntmps69
        go_wp2
        go_ret
        exact ⟨rfl, HB.out _ _⟩

theorem rsum_any (a b : Int) (w : World) (ha : inL a = true) (hb : inL b = true) :
    Calls Tryz.prog 153 #[.int .i64 a, .int .i64 b] w fun e w' => e = .returned (.tuple #[.int .i64 (if inL (a + b) = true then a + b else 0), .bool (inL (a + b))]) ∧ w = w' := by
  rw [inL_iff] at ha hb
  have e1 : 0 < b → wrap64 (9223372036854775807 - b) = 9223372036854775807 - b := fun h => wrap_id (by omega)
  have e2 : b < 0 → wrap64 (-9223372036854775808 - b) = -9223372036854775808 - b := fun h => wrap_id (by omega)
  cases hi : inL (a + b) with
  | true =>
    rw [if_pos rfl]
    have hw := wrap_id (inL_iff.1 hi)
    rw [inL_iff] at hi
    rcases dec2 (0 < b) with ⟨c1, q1⟩ | ⟨c1, q1⟩ <;> rcases dec2 (b < 0) with ⟨c2, q2⟩ | ⟨c2, q2⟩
    · omega
    · have q3 : decide (9223372036854775807 - b < a) = false := decide_eq_false (by omega)
      have e1 := e1 c1
      clear e2 c1 c2 ha hb hi
      generalize hs : a + b = s at *
      go_enter Tryz.func153, Tryz.ntmps153
      go_wp2
      go_ret2
      exact ⟨by first | rfl | (rw [hw]; rfl), rfl⟩
    · have q3 : decide (a < -9223372036854775808 - b) = false := decide_eq_false (by omega)
      have e2 := e2 c2
      clear e1 c1 c2 ha hb hi
      generalize hs : a + b = s at *
      go_enter Tryz.func153, Tryz.ntmps153
      go_wp2
      go_ret2
      exact ⟨by first | rfl | (rw [hw]; rfl), rfl⟩
    · clear e1 e2 c1 c2 ha hb hi
      generalize hs : a + b = s at *
      go_enter Tryz.func153, Tryz.ntmps153
      go_wp2
      go_ret2
      exact ⟨by first | rfl | (rw [hw]; rfl), rfl⟩
  | false =>
    rw [if_neg (by decide)]
    have hi : ¬ inL (a + b) = true := by rw [hi]; decide
    rw [inL_iff] at hi
    rcases dec2 (0 < b) with ⟨c1, q1⟩ | ⟨c1, q1⟩ <;> rcases dec2 (b < 0) with ⟨c2, q2⟩ | ⟨c2, q2⟩
    · omega
    · have q3 : decide (9223372036854775807 - b < a) = true := decide_eq_true (by omega)
      have e1 := e1 c1
      clear e2 c1 c2 ha hb hi
      go_enter Tryz.func153, Tryz.ntmps153
      go_wp2
      go_ret2
      exact ⟨by first | rfl | (rw [hw]; rfl), rfl⟩
    · have q3 : decide (a < -9223372036854775808 - b) = true := decide_eq_true (by omega)
      have e2 := e2 c2
      clear e1 c1 c2 ha hb hi
      go_enter Tryz.func153, Tryz.ntmps153
      go_wp2
      go_ret2
      exact ⟨by first | rfl | (rw [hw]; rfl), rfl⟩
    · omega

theorem rless_any (a b : Int) (w : World) (ha : inL a = true) (hb : inL b = true) :
    Calls Tryz.prog 154 #[.int .i64 a, .int .i64 b] w fun e w' => e = .returned (.tuple #[.int .i64 (if inL (a - b) = true then a - b else 0), .bool (inL (a - b))]) ∧ w = w' := by
  rw [inL_iff] at ha hb
  have e1 : b < 0 → wrap64 (9223372036854775807 + b) = 9223372036854775807 + b := fun h => wrap_id (by omega)
  have e2 : 0 < b → wrap64 (-9223372036854775808 + b) = -9223372036854775808 + b := fun h => wrap_id (by omega)
  cases hi : inL (a - b) with
  | true =>
    rw [if_pos rfl]
    have hw := wrap_id (inL_iff.1 hi)
    rw [inL_iff] at hi
    rcases dec2 (b < 0) with ⟨c1, q1⟩ | ⟨c1, q1⟩ <;> rcases dec2 (0 < b) with ⟨c2, q2⟩ | ⟨c2, q2⟩
    · omega
    · have q3 : decide (9223372036854775807 + b < a) = false := decide_eq_false (by omega)
      have e1 := e1 c1
      clear e2 c1 c2 ha hb hi
      generalize hs : a - b = s at *
      go_enter Tryz.func154, Tryz.ntmps154
      go_wp2
      go_ret2
      exact ⟨by first | rfl | (rw [hw]; rfl), rfl⟩
    · have q3 : decide (a < -9223372036854775808 + b) = false := decide_eq_false (by omega)
      have e2 := e2 c2
      clear e1 c1 c2 ha hb hi
      generalize hs : a - b = s at *
      go_enter Tryz.func154, Tryz.ntmps154
      go_wp2
      go_ret2
      exact ⟨by first | rfl | (rw [hw]; rfl), rfl⟩
    · clear e1 e2 c1 c2 ha hb hi
      generalize hs : a - b = s at *
      go_enter Tryz.func154, Tryz.ntmps154
      go_wp2
      go_ret2
      exact ⟨by first | rfl | (rw [hw]; rfl), rfl⟩
  | false =>
    rw [if_neg (by decide)]
    have hi : ¬ inL (a - b) = true := by rw [hi]; decide
    rw [inL_iff] at hi
    rcases dec2 (b < 0) with ⟨c1, q1⟩ | ⟨c1, q1⟩ <;> rcases dec2 (0 < b) with ⟨c2, q2⟩ | ⟨c2, q2⟩
    · omega
    · have q3 : decide (9223372036854775807 + b < a) = true := decide_eq_true (by omega)
      have e1 := e1 c1
      clear e2 c1 c2 ha hb hi
      go_enter Tryz.func154, Tryz.ntmps154
      go_wp2
      go_ret2
      exact ⟨by first | rfl | (rw [hw]; rfl), rfl⟩
    · have q3 : decide (a < -9223372036854775808 + b) = true := decide_eq_true (by omega)
      have e2 := e2 c2
      clear e1 c1 c2 ha hb hi
      go_enter Tryz.func154, Tryz.ntmps154
      go_wp2
      go_ret2
      exact ⟨by first | rfl | (rw [hw]; rfl), rfl⟩
    · omega

theorem tdiv_up {g x y : Int} (hg : 0 ≤ g) (hy : 0 < y) : g.tdiv y < x ↔ g < x * y := by
  rw [Int.tdiv_eq_ediv_of_nonneg hg]; exact Int.ediv_lt_iff_lt_mul hy
theorem t_pp {a b : Int} (ha : 0 < a) (hb : 0 < b) : decide (Int.tdiv 9223372036854775807 b < a) = !inL (a * b) := by
  have h1 := tdiv_up (g := 9223372036854775807) (x := a) (by decide) hb
  have h2 := Int.mul_pos ha hb
  generalize a * b = p at *
  generalize Int.tdiv 9223372036854775807 b = q at *
  unfold inL
  rw [← decide_not]
  exact decide_eq_decide.2 (by omega)
theorem t_nn {a b : Int} (ha : a < 0) (hb : b < 0) : decide (a < Int.tdiv 9223372036854775807 b) = !inL (a * b) := by
  have h1 := tdiv_up (g := 9223372036854775807) (x := -a) (y := -b) (by decide) (by omega)
  have h2 := Int.mul_pos (a := -a) (b := -b) (by omega) (by omega)
  rw [Int.tdiv_neg] at h1
  rw [Int.neg_mul_neg] at h1 h2
  generalize a * b = p at *
  generalize Int.tdiv 9223372036854775807 b = q at *
  unfold inL
  rw [← decide_not]
  exact decide_eq_decide.2 (by omega)
theorem t_pn {a b : Int} (ha : 0 < a) (hb : b < 0) : decide (b < Int.tdiv (-9223372036854775808) a) = !inL (a * b) := by
  have h1 := tdiv_up (g := 9223372036854775808) (x := -b) (y := a) (by decide) ha
  have h2 := Int.mul_pos (a := a) (b := -b) ha (by omega)
  have h3 : Int.tdiv (-9223372036854775808) a = -(Int.tdiv 9223372036854775808 a) := Int.neg_tdiv _ _
  rw [h3]
  rw [Int.neg_mul, Int.mul_comm b a] at h1
  rw [Int.mul_neg] at h2
  generalize a * b = p at *
  generalize Int.tdiv 9223372036854775808 a = q at *
  unfold inL
  rw [← decide_not]
  exact decide_eq_decide.2 (by omega)
theorem t_np {a b : Int} (ha : a < 0) (hb : 0 < b) : decide (a < Int.tdiv (-9223372036854775808) b) = !inL (a * b) := by
  rw [Int.mul_comm]; exact t_pn hb ha

theorem rtimes_any (a b : Int) (w : World) :
    Calls Tryz.prog 155 #[.int .i64 a, .int .i64 b] w fun e w' => e = .returned (.tuple #[.int .i64 (if inL (a * b) = true then a * b else 0), .bool (inL (a * b))]) ∧ w = w' := by
  have hw : inL (a * b) = true → wrap64 (a * b) = a * b := fun h => wrap_id (inL_iff.1 h)
  rcases dec2 (0 < a) with ⟨c1, q1⟩ | ⟨c1, q1⟩ <;> rcases dec2 (a < 0) with ⟨c2, q2⟩ | ⟨c2, q2⟩ <;> rcases dec2 (0 < b) with ⟨c3, q3⟩ | ⟨c3, q3⟩ <;> rcases dec2 (b < 0) with ⟨c4, q4⟩ | ⟨c4, q4⟩
  all_goals first
    | (exfalso; omega)
    | skip
  · have q5 := t_pp c1 c3
    have hq : wrap64 (Int.tdiv 9223372036854775807 b) = Int.tdiv 9223372036854775807 b := wrap_id (quot_in (by omega) (by omega))
    have hn : ¬ b = 0 := by omega
    have tn := int_ne hn
    generalize hqq : Int.tdiv 9223372036854775807 b = q at *
    clear c1 c2 c3 c4
    cases hi : inL (a * b) with
    | true =>
      have hw := hw hi
      rw [hi, Bool.not_true] at q5
      rw [if_pos rfl]
      generalize hp : a * b = p at *
      have q6 := q5
      rw [← hq] at q6
      clear hi
      go_enter Tryz.func155, Tryz.ntmps155
      go_wp2
      go_ret2
      exact ⟨by first | rfl | (rw [hw]; rfl), rfl⟩
    | false =>
      rw [hi, Bool.not_false] at q5
      rw [if_neg (by decide)]
      have q6 := q5
      rw [← hq] at q6
      clear hw hi
      go_enter Tryz.func155, Tryz.ntmps155
      go_wp2
      go_ret2
      exact ⟨by first | rfl | (rw [hw]; rfl), rfl⟩
  · have q5 := t_pn c1 c4
    have hq : wrap64 (Int.tdiv (-9223372036854775808) a) = Int.tdiv (-9223372036854775808) a := wrap_id (quot_in (by omega) (by omega))
    have hn : ¬ a = 0 := by omega
    have tn := int_ne hn
    generalize hqq : Int.tdiv (-9223372036854775808) a = q at *
    clear c1 c2 c3 c4
    cases hi : inL (a * b) with
    | true =>
      have hw := hw hi
      rw [hi, Bool.not_true] at q5
      rw [if_pos rfl]
      generalize hp : a * b = p at *
      have q6 := q5
      rw [← hq] at q6
      clear hi
      go_enter Tryz.func155, Tryz.ntmps155
      go_wp2
      go_ret2
      exact ⟨by first | rfl | (rw [hw]; rfl), rfl⟩
    | false =>
      rw [hi, Bool.not_false] at q5
      rw [if_neg (by decide)]
      have q6 := q5
      rw [← hq] at q6
      clear hw hi
      go_enter Tryz.func155, Tryz.ntmps155
      go_wp2
      go_ret2
      exact ⟨by first | rfl | (rw [hw]; rfl), rfl⟩
  · have hz : a * b = 0 := by first | (rw [show a = 0 by omega, Int.zero_mul]) | (rw [show b = 0 by omega, Int.mul_zero])
    rw [hz]
    rw [show inL 0 = true from rfl, if_pos rfl]
    clear hw c1 c2 c3 c4
    go_enter Tryz.func155, Tryz.ntmps155
    go_wp2
    go_ret2
    exact ⟨by first | rfl | (rw [hw]; rfl), rfl⟩
  · have q5 := t_np c2 c3
    have hq : wrap64 (Int.tdiv (-9223372036854775808) b) = Int.tdiv (-9223372036854775808) b := wrap_id (quot_in (by omega) (by omega))
    have hn : ¬ b = 0 := by omega
    have tn := int_ne hn
    generalize hqq : Int.tdiv (-9223372036854775808) b = q at *
    clear c1 c2 c3 c4
    cases hi : inL (a * b) with
    | true =>
      have hw := hw hi
      rw [hi, Bool.not_true] at q5
      rw [if_pos rfl]
      generalize hp : a * b = p at *
      have q6 := q5
      rw [← hq] at q6
      clear hi
      go_enter Tryz.func155, Tryz.ntmps155
      go_wp2
      go_ret2
      exact ⟨by first | rfl | (rw [hw]; rfl), rfl⟩
    | false =>
      rw [hi, Bool.not_false] at q5
      rw [if_neg (by decide)]
      have q6 := q5
      rw [← hq] at q6
      clear hw hi
      go_enter Tryz.func155, Tryz.ntmps155
      go_wp2
      go_ret2
      exact ⟨by first | rfl | (rw [hw]; rfl), rfl⟩
  · have q5 := t_nn c2 c4
    have hq : wrap64 (Int.tdiv 9223372036854775807 b) = Int.tdiv 9223372036854775807 b := wrap_id (quot_in (by omega) (by omega))
    have hn : ¬ b = 0 := by omega
    have tn := int_ne hn
    generalize hqq : Int.tdiv 9223372036854775807 b = q at *
    clear c1 c2 c3 c4
    cases hi : inL (a * b) with
    | true =>
      have hw := hw hi
      rw [hi, Bool.not_true] at q5
      rw [if_pos rfl]
      generalize hp : a * b = p at *
      have q6 := q5
      rw [← hq] at q6
      clear hi
      go_enter Tryz.func155, Tryz.ntmps155
      go_wp2
      go_ret2
      exact ⟨by first | rfl | (rw [hw]; rfl), rfl⟩
    | false =>
      rw [hi, Bool.not_false] at q5
      rw [if_neg (by decide)]
      have q6 := q5
      rw [← hq] at q6
      clear hw hi
      go_enter Tryz.func155, Tryz.ntmps155
      go_wp2
      go_ret2
      exact ⟨by first | rfl | (rw [hw]; rfl), rfl⟩
  · have hz : a * b = 0 := by first | (rw [show a = 0 by omega, Int.zero_mul]) | (rw [show b = 0 by omega, Int.mul_zero])
    rw [hz]
    rw [show inL 0 = true from rfl, if_pos rfl]
    clear hw c1 c2 c3 c4
    go_enter Tryz.func155, Tryz.ntmps155
    go_wp2
    go_ret2
    exact ⟨by first | rfl | (rw [hw]; rfl), rfl⟩
  · have hz : a * b = 0 := by first | (rw [show a = 0 by omega, Int.zero_mul]) | (rw [show b = 0 by omega, Int.mul_zero])
    rw [hz]
    rw [show inL 0 = true from rfl, if_pos rfl]
    clear hw c1 c2 c3 c4
    go_enter Tryz.func155, Tryz.ntmps155
    go_wp2
    go_ret2
    exact ⟨by first | rfl | (rw [hw]; rfl), rfl⟩
  · have hz : a * b = 0 := by first | (rw [show a = 0 by omega, Int.zero_mul]) | (rw [show b = 0 by omega, Int.mul_zero])
    rw [hz]
    rw [show inL 0 = true from rfl, if_pos rfl]
    clear hw c1 c2 c3 c4
    go_enter Tryz.func155, Tryz.ntmps155
    go_wp2
    go_ret2
    exact ⟨by first | rfl | (rw [hw]; rfl), rfl⟩
  · have hz : a * b = 0 := by first | (rw [show a = 0 by omega, Int.zero_mul]) | (rw [show b = 0 by omega, Int.mul_zero])
    rw [hz]
    rw [show inL 0 = true from rfl, if_pos rfl]
    clear hw c1 c2 c3 c4
    go_enter Tryz.func155, Tryz.ntmps155
    go_wp2
    go_ret2
    exact ⟨by first | rfl | (rw [hw]; rfl), rfl⟩

theorem numE_a (n : Int) : (numE n).1.a = (if inL n = true then n else 0) := by unfold numE; split <;> rfl
theorem numE_e (n : Int) : (numE n).2 = (if inL n = true then 0 else 7) := by unfold numE; split <;> rfl
set_option maxHeartbeats 1000000 in
theorem rnumbers_any (op a b : Int) (w : World) (h : 11 ≤ op ∧ op ≤ 15) (ha : inL a = true) (hb : inL b = true) :
    Calls Tryz.prog 128 #[.int .i64 op, .int .i64 a, .int .i64 b] w fun e w' => e = .returned (.tuple #[.int .i64 (numbersE op a b).1.a, .int .i64 (numbersE op a b).2]) ∧ w = w' := by
  rcases (show op = 11 ∨ op = 12 ∨ op = 13 ∨ op = 14 ∨ op = 15 by omega) with rfl | rfl | rfl | rfl | rfl
  · rw [show numbersE 11 a b = numE (a + b) from rfl, numE_a, numE_e]
    have HC := Lib.hid (fun W => rsum_any a b W ha hb)
    cases hi : inL (a + b) with
    | true =>
      rw [hi] at HC
      rw [if_pos rfl] at HC
      rw [if_pos rfl, if_pos rfl]
      generalize a + b = n at *
      clear hi ha hb
      go_enter Tryz.func128, Tryz.ntmps128
      go_wp2_with fail
      refine (HC.out _).mono ?_
      rintro e w' ⟨rfl, rfl⟩
      go_wp2
      go_ret2
      exact ⟨by first | rfl | (rw [hw]; rfl), rfl⟩
    | false =>
      rw [hi] at HC
      rw [if_neg (by decide)] at HC
      rw [if_neg (by decide), if_neg (by decide)]
      clear hi ha hb
      go_enter Tryz.func128, Tryz.ntmps128
      go_wp2_with fail
      refine (HC.out _).mono ?_
      rintro e w' ⟨rfl, rfl⟩
      go_wp2
      go_ret2
      exact ⟨by first | rfl | (rw [hw]; rfl), rfl⟩
  · rw [show numbersE 12 a b = numE (a - b) from rfl, numE_a, numE_e]
    have HC := Lib.hid (fun W => rless_any a b W ha hb)
    cases hi : inL (a - b) with
    | true =>
      rw [hi] at HC
      rw [if_pos rfl] at HC
      rw [if_pos rfl, if_pos rfl]
      generalize a - b = n at *
      clear hi ha hb
      go_enter Tryz.func128, Tryz.ntmps128
      go_wp2_with fail
      refine (HC.out _).mono ?_
      rintro e w' ⟨rfl, rfl⟩
      go_wp2
      go_ret2
      exact ⟨by first | rfl | (rw [hw]; rfl), rfl⟩
    | false =>
      rw [hi] at HC
      rw [if_neg (by decide)] at HC
      rw [if_neg (by decide), if_neg (by decide)]
      clear hi ha hb
      go_enter Tryz.func128, Tryz.ntmps128
      go_wp2_with fail
      refine (HC.out _).mono ?_
      rintro e w' ⟨rfl, rfl⟩
      go_wp2
      go_ret2
      exact ⟨by first | rfl | (rw [hw]; rfl), rfl⟩
  · rw [show numbersE 13 a b = numE (a * b) from rfl, numE_a, numE_e]
    have HC := Lib.hid (fun W => rtimes_any a b W)
    cases hi : inL (a * b) with
    | true =>
      rw [hi] at HC
      rw [if_pos rfl] at HC
      rw [if_pos rfl, if_pos rfl]
      generalize a * b = n at *
      clear hi ha hb
      go_enter Tryz.func128, Tryz.ntmps128
      go_wp2_with fail
      refine (HC.out _).mono ?_
      rintro e w' ⟨rfl, rfl⟩
      go_wp2
      go_ret2
      exact ⟨by first | rfl | (rw [hw]; rfl), rfl⟩
    | false =>
      rw [hi] at HC
      rw [if_neg (by decide)] at HC
      rw [if_neg (by decide), if_neg (by decide)]
      clear hi ha hb
      go_enter Tryz.func128, Tryz.ntmps128
      go_wp2_with fail
      refine (HC.out _).mono ?_
      rintro e w' ⟨rfl, rfl⟩
      go_wp2
      go_ret2
      exact ⟨by first | rfl | (rw [hw]; rfl), rfl⟩
  · by_cases c0 : b = 0
    · subst c0
      rw [show numbersE 14 a 0 = erV 6 from rfl]
      clear ha hb
      go_enter Tryz.func128, Tryz.ntmps128
      go_wp2
      go_ret2
      exact ⟨by first | rfl | (rw [hw]; rfl), rfl⟩
    · rw [show numbersE 14 a b = numE (a.tdiv b) from if_neg c0, numE_a, numE_e]
      have t0 := int_ne c0
      by_cases cm : a = -9223372036854775808 ∧ b = -1
      · obtain ⟨rfl, rfl⟩ := cm
        rw [show inL (Int.tdiv (-9223372036854775808) (-1)) = false by decide +kernel, if_neg (by decide), if_neg (by decide)]
        clear ha hb
        go_enter Tryz.func128, Tryz.ntmps128
        go_wp2
        go_ret2
        exact ⟨by first | rfl | (rw [hw]; rfl), rfl⟩
      · have hq := quot_in (inL_iff.1 ha) cm
        have hw := wrap_id hq
        rw [show inL (a.tdiv b) = true from inL_iff.2 hq, if_pos rfl, if_pos rfl]
        generalize hqq : a.tdiv b = q at *
        by_cases c1 : a = -9223372036854775808
        · have t2 : (b == -1) = false := int_ne (fun e => cm ⟨c1, e⟩)
          have t2' : (b != -1) = true := bne_iff_ne.2 (fun e => cm ⟨c1, e⟩)
          have t1 : (a == -9223372036854775808) = true := by rw [c1]; rfl
          have t1' : (a != -9223372036854775808) = false := by rw [c1]; rfl
          clear cm c1 hq ha hb
          go_enter Tryz.func128, Tryz.ntmps128
          go_wp2
          go_ret2
          exact ⟨by first | rfl | (rw [hw]; rfl), rfl⟩
        · have t1 := int_ne c1
          have t1' : (a != -9223372036854775808) = true := bne_iff_ne.2 c1
          clear cm c1 hq ha hb
          go_enter Tryz.func128, Tryz.ntmps128
          go_wp2
          go_ret2
          exact ⟨by first | rfl | (rw [hw]; rfl), rfl⟩
  · by_cases c0 : b = 0
    · subst c0
      rw [show numbersE 15 a 0 = erV 6 from rfl]
      clear ha hb
      go_enter Tryz.func128, Tryz.ntmps128
      go_wp2
      go_ret2
      exact ⟨by first | rfl | (rw [hw]; rfl), rfl⟩
    · rw [show numbersE 15 a b = (numV (a.tmod b), 0) from if_neg c0]
      show Calls _ _ _ _ fun e w' => e = .returned (.tuple #[.int .i64 (a.tmod b), .int .i64 0]) ∧ w = w'
      have t0 := int_ne c0
      by_cases c1 : b = -1
      · subst c1
        rw [show a.tmod (-1) = 0 by rw [Int.tmod_neg]; exact Int.tmod_one a]
        clear ha hb
        go_enter Tryz.func128, Tryz.ntmps128
        go_wp2
        go_ret2
        exact ⟨by first | rfl | (rw [hw]; rfl), rfl⟩
      · have t1 := int_ne c1
        have t1' : (b != -1) = true := bne_iff_ne.2 c1
        have hw := wrap_id (inL_iff.1 (tmod_in (b := b) ha))
        generalize hqq : a.tmod b = q at *
        clear ha hb
        go_enter Tryz.func128, Tryz.ntmps128
        go_wp2
        go_ret2
        exact ⟨by first | rfl | (rw [hw]; rfl), rfl⟩
end Go.Proofs.YtjgfkmakfdepcaaGreatDoor
namespace Go.Proofs.YtjgfkmakfdepcaaGreatDoor
open Go.RowKit

theorem rTruth_tru (W : World) : Calls Tryz.prog 99 #[.bool true] W fun e w' => e = .returned (.agg #[.int .i64 2, .int .i64 1, .int .i64 0]) ∧ Below W.heap.size W w' := rTruth_any true W
theorem rTruth_fls (W : World) : Calls Tryz.prog 99 #[.bool false] W fun e w' => e = .returned (.agg #[.int .i64 2, .int .i64 0, .int .i64 0]) ∧ Below W.heap.size W w' := rTruth_any false W
theorem heap_at {Y : World} {D : Nat} (hD : Y.heap.size = D) (cs : Array Value) (t : TypeId) : (Y.alloc (.cells cs t)).heap[D]? = some (.cells cs t (0, 0)) := by subst hD; exact heap_alloc_new Y _
theorem heap_up {Y : World} {D : Nat} {x : Obj} (h : Y.heap[D]? = some x) (o : Obj) : (Y.alloc o).heap[D]? = some x := (Below.heap_alloc _ _ _ (Array.getElem?_eq_some_iff.1 h).1).trans h
/-- what is answered: a value and the error -/
def outW (p : VA × Int) : Ending := .returned (.tuple #[.agg #[.int .i64 p.1.kd, .int .i64 p.1.a, .int .i64 p.1.b], .int .i64 p.2])
set_option maxRecDepth 100000 in
set_option maxHeartbeats 1000000 in
theorem rpoints11 (a b c d : Int) (w : World) (ha : inB a = true) (hb : inB b = true) (hc : inB c = true) (hd : inB d = true) :
    Calls Tryz.prog 127 #[.int .i64 11, .agg #[.int .i64 3, .int .i64 a, .int .i64 b], .agg #[.int .i64 3, .int .i64 c, .int .i64 d]] w fun e w' => e = outW (pointsE 11 a b c d) ∧ Below w.heap.size w w' := by
  rw [show pointsE 11 a b c d = ptE (a + c) (b + d) from rfl]
  have HC := Lib.hid (fun W => rAdd_any a b c d W ha hb hc hd)
  obtain ⟨c1, c2, er, ho, hq⟩ := outP_pt (a + c) (b + d)
  rw [ho] at HC
  have HN : Hid ((((((w.alloc (.cells #[.int .i64 3, .int .i64 a, .int .i64 b] 54)).alloc (.cells #[.int .i64 3, .int .i64 c, .int .i64 d] 54)).alloc (.cells #[.int .i64 0, .int .i64 0, .int .i64 0] 54)).alloc (.cells #[.int .i64 a, .int .i64 b] 198)).alloc (.cells #[.int .i64 c, .int .i64 d] 198)).heap[w.heap.size + 1 + 1 + 1]? = some (.cells #[.int .i64 a, .int .i64 b] 198 (0, 0)) ∧ (((((w.alloc (.cells #[.int .i64 3, .int .i64 a, .int .i64 b] 54)).alloc (.cells #[.int .i64 3, .int .i64 c, .int .i64 d] 54)).alloc (.cells #[.int .i64 0, .int .i64 0, .int .i64 0] 54)).alloc (.cells #[.int .i64 a, .int .i64 b] 198)).alloc (.cells #[.int .i64 c, .int .i64 d] 198)).heap[w.heap.size + 1 + 1]? = some (.cells #[.int .i64 0, .int .i64 0, .int .i64 0] 54 (0, 0))) := by
    exact ⟨heap_up (heap_at (by simp) _ _) _, heap_up (heap_up (heap_at (by simp) _ _) _) _⟩
  have hbw0 : Below w.heap.size w (((((w.alloc (.cells #[.int .i64 3, .int .i64 a, .int .i64 b] 54)).alloc (.cells #[.int .i64 3, .int .i64 c, .int .i64 d] 54)).alloc (.cells #[.int .i64 0, .int .i64 0, .int .i64 0] 54)).alloc (.cells #[.int .i64 a, .int .i64 b] 198)).alloc (.cells #[.int .i64 c, .int .i64 d] 198)) := ((((((Below.refl _ _).alloc (Nat.le_refl _) _).alloc (by simp) _).alloc (by simp; omega) _).alloc (by simp; omega) _).alloc (by simp; omega) _)
  have HW := Lib.hid hbw0
  clear ha hb hc hd ho hbw0
  have HQ := Lib.hid hq
  clear hq
  go_enter Tryz.func127, Tryz.ntmps127
  go_wp2_with fail
  refine (HC.out _).mono ?_
  rintro e w1 ⟨rfl, hb1⟩
  have h1 : w1.heap[w.heap.size + 1 + 1 + 1]? = some (.cells #[.int .i64 a, .int .i64 b] 198 (0, 0)) := (hb1.block _ (by first | (simp; done) | (simp; omega))).trans HN.out.1
  have h2 : w1.heap[w.heap.size + 1 + 1]? = some (.cells #[.int .i64 0, .int .i64 0, .int .i64 0] 54 (0, 0)) := (hb1.block _ (by first | (simp; done) | (simp; omega))).trans HN.out.2
  have hbw : Below w.heap.size w w1 := HW.out.trans (hb1.mono HW.out.size)
  clear hb1
  obtain ⟨p0, p1, s0, s1⟩ := at2 h1
  obtain ⟨d0, d1, d2, f0, f1, f2⟩ := at3 h2
  have h3 := heap_setCell_same _ _ 0 _ _ (.int .i64 c1) h1
  have h4 := heap_setCell_same _ _ 1 _ _ (.int .i64 c2) h3
  have hb2 : Below w.heap.size w ((w1.setCell ⟨w.heap.size + 1 + 1 + 1, 0, none⟩ (.int .i64 c1)).setCell ⟨w.heap.size + 1 + 1 + 1, 1, none⟩ (.int .i64 c2)) := (hbw.setCell (by show _ ≤ w.heap.size + 1 + 1 + 1; omega) _).setCell (by show _ ≤ w.heap.size + 1 + 1 + 1; omega) _
  have h5 : ((w1.setCell ⟨w.heap.size + 1 + 1 + 1, 0, none⟩ (.int .i64 c1)).setCell ⟨w.heap.size + 1 + 1 + 1, 1, none⟩ (.int .i64 c2)).heap[w.heap.size + 1 + 1]? = some (.cells #[.int .i64 0, .int .i64 0, .int .i64 0] 54 (0, 0)) := by
    rw [Below.heap_setCell _ _ _ _ (by show _ ≠ w.heap.size + 1 + 1 + 1; omega), Below.heap_setCell _ _ _ _ (by show _ ≠ w.heap.size + 1 + 1 + 1; omega)]; exact h2
  have H4 := Lib.hid h4; have H5 := Lib.hid h5; have HB2 := Lib.hid hb2
  clear h3 h4 h5 hb2
  rcases HQ.out with ⟨rfl, he⟩ | ⟨hne, he⟩
  · obtain ⟨k0, k1, _, _⟩ := at2 (x0 := .int .i64 c1) (x1 := .int .i64 c2) H4.out
    have HE := Lib.hid he
    clear he
    go_wp2
    obtain ⟨⟨r0, r1, r2⟩, hbf⟩ := fin3 H5.out (by omega) HB2.out (.int .i64 3) (.int .i64 c1) (.int .i64 c2)
    refine bodyPost_ret (v := .tuple #[.agg #[.int .i64 3, .int .i64 c1, .int .i64 c2], .int .i64 0]) ?_ rfl ⟨by rw [HE.out]; rfl, hbf⟩
    simp [results, Tryz.results127, go_sem, r0, r1, r2]
  · have tne := int_ne hne
    have HE := Lib.hid he
    clear he
    go_wp2
    obtain ⟨⟨r0, r1, r2⟩, hbf⟩ := fin3 H5.out (by omega) HB2.out (.int .i64 0) (.int .i64 0) (.int .i64 0)
    refine bodyPost_ret (v := .tuple #[.agg #[.int .i64 0, .int .i64 0, .int .i64 0], .int .i64 er]) ?_ rfl ⟨by rw [HE.out]; rfl, hbf⟩
    simp [results, Tryz.results127, go_sem, r0, r1, r2]
set_option maxRecDepth 100000 in
set_option maxHeartbeats 1000000 in
theorem rpoints12 (a b c d : Int) (w : World) (ha : inB a = true) (hb : inB b = true) (hc : inB c = true) (hd : inB d = true) :
    Calls Tryz.prog 127 #[.int .i64 12, .agg #[.int .i64 3, .int .i64 a, .int .i64 b], .agg #[.int .i64 3, .int .i64 c, .int .i64 d]] w fun e w' => e = outW (pointsE 12 a b c d) ∧ Below w.heap.size w w' := by
  rw [show pointsE 12 a b c d = ptE (a - c) (b - d) from rfl]
  have HC := Lib.hid (fun W => rSub_any a b c d W ha hb hc hd)
  obtain ⟨c1, c2, er, ho, hq⟩ := outP_pt (a - c) (b - d)
  rw [ho] at HC
  have HN : Hid ((((((w.alloc (.cells #[.int .i64 3, .int .i64 a, .int .i64 b] 54)).alloc (.cells #[.int .i64 3, .int .i64 c, .int .i64 d] 54)).alloc (.cells #[.int .i64 0, .int .i64 0, .int .i64 0] 54)).alloc (.cells #[.int .i64 a, .int .i64 b] 198)).alloc (.cells #[.int .i64 c, .int .i64 d] 198)).heap[w.heap.size + 1 + 1 + 1]? = some (.cells #[.int .i64 a, .int .i64 b] 198 (0, 0)) ∧ (((((w.alloc (.cells #[.int .i64 3, .int .i64 a, .int .i64 b] 54)).alloc (.cells #[.int .i64 3, .int .i64 c, .int .i64 d] 54)).alloc (.cells #[.int .i64 0, .int .i64 0, .int .i64 0] 54)).alloc (.cells #[.int .i64 a, .int .i64 b] 198)).alloc (.cells #[.int .i64 c, .int .i64 d] 198)).heap[w.heap.size + 1 + 1]? = some (.cells #[.int .i64 0, .int .i64 0, .int .i64 0] 54 (0, 0))) := by
    exact ⟨heap_up (heap_at (by simp) _ _) _, heap_up (heap_up (heap_at (by simp) _ _) _) _⟩
  have hbw0 : Below w.heap.size w (((((w.alloc (.cells #[.int .i64 3, .int .i64 a, .int .i64 b] 54)).alloc (.cells #[.int .i64 3, .int .i64 c, .int .i64 d] 54)).alloc (.cells #[.int .i64 0, .int .i64 0, .int .i64 0] 54)).alloc (.cells #[.int .i64 a, .int .i64 b] 198)).alloc (.cells #[.int .i64 c, .int .i64 d] 198)) := ((((((Below.refl _ _).alloc (Nat.le_refl _) _).alloc (by simp) _).alloc (by simp; omega) _).alloc (by simp; omega) _).alloc (by simp; omega) _)
  have HW := Lib.hid hbw0
  clear ha hb hc hd ho hbw0
  have HQ := Lib.hid hq
  clear hq
  go_enter Tryz.func127, Tryz.ntmps127
  go_wp2_with fail
  refine (HC.out _).mono ?_
  rintro e w1 ⟨rfl, hb1⟩
  have h1 : w1.heap[w.heap.size + 1 + 1 + 1]? = some (.cells #[.int .i64 a, .int .i64 b] 198 (0, 0)) := (hb1.block _ (by first | (simp; done) | (simp; omega))).trans HN.out.1
  have h2 : w1.heap[w.heap.size + 1 + 1]? = some (.cells #[.int .i64 0, .int .i64 0, .int .i64 0] 54 (0, 0)) := (hb1.block _ (by first | (simp; done) | (simp; omega))).trans HN.out.2
  have hbw : Below w.heap.size w w1 := HW.out.trans (hb1.mono HW.out.size)
  clear hb1
  obtain ⟨p0, p1, s0, s1⟩ := at2 h1
  obtain ⟨d0, d1, d2, f0, f1, f2⟩ := at3 h2
  have h3 := heap_setCell_same _ _ 0 _ _ (.int .i64 c1) h1
  have h4 := heap_setCell_same _ _ 1 _ _ (.int .i64 c2) h3
  have hb2 : Below w.heap.size w ((w1.setCell ⟨w.heap.size + 1 + 1 + 1, 0, none⟩ (.int .i64 c1)).setCell ⟨w.heap.size + 1 + 1 + 1, 1, none⟩ (.int .i64 c2)) := (hbw.setCell (by show _ ≤ w.heap.size + 1 + 1 + 1; omega) _).setCell (by show _ ≤ w.heap.size + 1 + 1 + 1; omega) _
  have h5 : ((w1.setCell ⟨w.heap.size + 1 + 1 + 1, 0, none⟩ (.int .i64 c1)).setCell ⟨w.heap.size + 1 + 1 + 1, 1, none⟩ (.int .i64 c2)).heap[w.heap.size + 1 + 1]? = some (.cells #[.int .i64 0, .int .i64 0, .int .i64 0] 54 (0, 0)) := by
    rw [Below.heap_setCell _ _ _ _ (by show _ ≠ w.heap.size + 1 + 1 + 1; omega), Below.heap_setCell _ _ _ _ (by show _ ≠ w.heap.size + 1 + 1 + 1; omega)]; exact h2
  have H4 := Lib.hid h4; have H5 := Lib.hid h5; have HB2 := Lib.hid hb2
  clear h3 h4 h5 hb2
  rcases HQ.out with ⟨rfl, he⟩ | ⟨hne, he⟩
  · obtain ⟨k0, k1, _, _⟩ := at2 (x0 := .int .i64 c1) (x1 := .int .i64 c2) H4.out
    have HE := Lib.hid he
    clear he
    go_wp2
    obtain ⟨⟨r0, r1, r2⟩, hbf⟩ := fin3 H5.out (by omega) HB2.out (.int .i64 3) (.int .i64 c1) (.int .i64 c2)
    refine bodyPost_ret (v := .tuple #[.agg #[.int .i64 3, .int .i64 c1, .int .i64 c2], .int .i64 0]) ?_ rfl ⟨by rw [HE.out]; rfl, hbf⟩
    simp [results, Tryz.results127, go_sem, r0, r1, r2]
  · have tne := int_ne hne
    have HE := Lib.hid he
    clear he
    go_wp2
    obtain ⟨⟨r0, r1, r2⟩, hbf⟩ := fin3 H5.out (by omega) HB2.out (.int .i64 0) (.int .i64 0) (.int .i64 0)
    refine bodyPost_ret (v := .tuple #[.agg #[.int .i64 0, .int .i64 0, .int .i64 0], .int .i64 er]) ?_ rfl ⟨by rw [HE.out]; rfl, hbf⟩
    simp [results, Tryz.results127, go_sem, r0, r1, r2]
set_option maxRecDepth 100000 in
set_option maxHeartbeats 1000000 in
theorem rpoints13 (a b c d : Int) (w : World) (ha : inB a = true) (hb : inB b = true) (hc : inB c = true) (hd : inB d = true) :
    Calls Tryz.prog 127 #[.int .i64 13, .agg #[.int .i64 3, .int .i64 a, .int .i64 b], .agg #[.int .i64 3, .int .i64 c, .int .i64 d]] w fun e w' => e = outW (pointsE 13 a b c d) ∧ Below w.heap.size w w' := by
  rw [show pointsE 13 a b c d = ptE (a * c - b * d) (a * d + b * c) from rfl]
  have HC := Lib.hid (fun W => rMul_any a b c d W ha hb hc hd)
  obtain ⟨c1, c2, er, ho, hq⟩ := outP_pt (a * c - b * d) (a * d + b * c)
  rw [ho] at HC
  have HN : Hid ((((((w.alloc (.cells #[.int .i64 3, .int .i64 a, .int .i64 b] 54)).alloc (.cells #[.int .i64 3, .int .i64 c, .int .i64 d] 54)).alloc (.cells #[.int .i64 0, .int .i64 0, .int .i64 0] 54)).alloc (.cells #[.int .i64 a, .int .i64 b] 198)).alloc (.cells #[.int .i64 c, .int .i64 d] 198)).heap[w.heap.size + 1 + 1 + 1]? = some (.cells #[.int .i64 a, .int .i64 b] 198 (0, 0)) ∧ (((((w.alloc (.cells #[.int .i64 3, .int .i64 a, .int .i64 b] 54)).alloc (.cells #[.int .i64 3, .int .i64 c, .int .i64 d] 54)).alloc (.cells #[.int .i64 0, .int .i64 0, .int .i64 0] 54)).alloc (.cells #[.int .i64 a, .int .i64 b] 198)).alloc (.cells #[.int .i64 c, .int .i64 d] 198)).heap[w.heap.size + 1 + 1]? = some (.cells #[.int .i64 0, .int .i64 0, .int .i64 0] 54 (0, 0))) := by
    exact ⟨heap_up (heap_at (by simp) _ _) _, heap_up (heap_up (heap_at (by simp) _ _) _) _⟩
  have hbw0 : Below w.heap.size w (((((w.alloc (.cells #[.int .i64 3, .int .i64 a, .int .i64 b] 54)).alloc (.cells #[.int .i64 3, .int .i64 c, .int .i64 d] 54)).alloc (.cells #[.int .i64 0, .int .i64 0, .int .i64 0] 54)).alloc (.cells #[.int .i64 a, .int .i64 b] 198)).alloc (.cells #[.int .i64 c, .int .i64 d] 198)) := ((((((Below.refl _ _).alloc (Nat.le_refl _) _).alloc (by simp) _).alloc (by simp; omega) _).alloc (by simp; omega) _).alloc (by simp; omega) _)
  have HW := Lib.hid hbw0
  clear ha hb hc hd ho hbw0
  have HQ := Lib.hid hq
  clear hq
  go_enter Tryz.func127, Tryz.ntmps127
  go_wp2_with fail
  refine (HC.out _).mono ?_
  rintro e w1 ⟨rfl, hb1⟩
  have h1 : w1.heap[w.heap.size + 1 + 1 + 1]? = some (.cells #[.int .i64 a, .int .i64 b] 198 (0, 0)) := (hb1.block _ (by first | (simp; done) | (simp; omega))).trans HN.out.1
  have h2 : w1.heap[w.heap.size + 1 + 1]? = some (.cells #[.int .i64 0, .int .i64 0, .int .i64 0] 54 (0, 0)) := (hb1.block _ (by first | (simp; done) | (simp; omega))).trans HN.out.2
  have hbw : Below w.heap.size w w1 := HW.out.trans (hb1.mono HW.out.size)
  clear hb1
  obtain ⟨p0, p1, s0, s1⟩ := at2 h1
  obtain ⟨d0, d1, d2, f0, f1, f2⟩ := at3 h2
  have h3 := heap_setCell_same _ _ 0 _ _ (.int .i64 c1) h1
  have h4 := heap_setCell_same _ _ 1 _ _ (.int .i64 c2) h3
  have hb2 : Below w.heap.size w ((w1.setCell ⟨w.heap.size + 1 + 1 + 1, 0, none⟩ (.int .i64 c1)).setCell ⟨w.heap.size + 1 + 1 + 1, 1, none⟩ (.int .i64 c2)) := (hbw.setCell (by show _ ≤ w.heap.size + 1 + 1 + 1; omega) _).setCell (by show _ ≤ w.heap.size + 1 + 1 + 1; omega) _
  have h5 : ((w1.setCell ⟨w.heap.size + 1 + 1 + 1, 0, none⟩ (.int .i64 c1)).setCell ⟨w.heap.size + 1 + 1 + 1, 1, none⟩ (.int .i64 c2)).heap[w.heap.size + 1 + 1]? = some (.cells #[.int .i64 0, .int .i64 0, .int .i64 0] 54 (0, 0)) := by
    rw [Below.heap_setCell _ _ _ _ (by show _ ≠ w.heap.size + 1 + 1 + 1; omega), Below.heap_setCell _ _ _ _ (by show _ ≠ w.heap.size + 1 + 1 + 1; omega)]; exact h2
  have H4 := Lib.hid h4; have H5 := Lib.hid h5; have HB2 := Lib.hid hb2
  clear h3 h4 h5 hb2
  rcases HQ.out with ⟨rfl, he⟩ | ⟨hne, he⟩
  · obtain ⟨k0, k1, _, _⟩ := at2 (x0 := .int .i64 c1) (x1 := .int .i64 c2) H4.out
    have HE := Lib.hid he
    clear he
    go_wp2
    obtain ⟨⟨r0, r1, r2⟩, hbf⟩ := fin3 H5.out (by omega) HB2.out (.int .i64 3) (.int .i64 c1) (.int .i64 c2)
    refine bodyPost_ret (v := .tuple #[.agg #[.int .i64 3, .int .i64 c1, .int .i64 c2], .int .i64 0]) ?_ rfl ⟨by rw [HE.out]; rfl, hbf⟩
    simp [results, Tryz.results127, go_sem, r0, r1, r2]
  · have tne := int_ne hne
    have HE := Lib.hid he
    clear he
    go_wp2
    obtain ⟨⟨r0, r1, r2⟩, hbf⟩ := fin3 H5.out (by omega) HB2.out (.int .i64 0) (.int .i64 0) (.int .i64 0)
    refine bodyPost_ret (v := .tuple #[.agg #[.int .i64 0, .int .i64 0, .int .i64 0], .int .i64 er]) ?_ rfl ⟨by rw [HE.out]; rfl, hbf⟩
    simp [results, Tryz.results127, go_sem, r0, r1, r2]

set_option maxRecDepth 100000 in
set_option maxHeartbeats 1000000 in
theorem rtwo_un (op k a b l c d : Int) (w : World) (h : k ≠ l) :
    Calls Tryz.prog 102 #[.int .i64 op, .agg #[.int .i64 k, .int .i64 a, .int .i64 b], .agg #[.int .i64 l, .int .i64 c, .int .i64 d]] w fun e w' => e = outW (erV 8) ∧ Below w.heap.size w w' := by
  have t1 := int_ne h
  clear h
  go_enter Tryz.func102, Tryz.ntmps102
  go_wp2
  refine bodyPost_ret (v := .tuple #[.agg #[.int .i64 0, .int .i64 0, .int .i64 0], .int .i64 8]) ?_ rfl ⟨rfl, ?_⟩
  · simp [results, Tryz.results102, go_sem]
  · exact ((((Below.refl _ _).alloc (Nat.le_refl _) _).alloc (by simp) _).alloc (by simp; omega) _)

theorem join_nn {op : Int} (a c : Int) (h6 : op ≠ 16) (h7 : op ≠ 17) : joinE op (numV a) (numV c) = numbersE op a c := by
  unfold joinE
  rw [if_neg (by simp [numV]), if_neg h6, if_neg h7]; rfl
theorem numbers_form (op a b : Int) (h : 11 ≤ op ∧ op ≤ 15) : ∃ n e, (numbersE op a b).1.a = n ∧ (numbersE op a b).2 = e ∧ ((e = 0 ∧ numbersE op a b = (numV n, 0)) ∨ (e ≠ 0 ∧ numbersE op a b = erV e)) := by
  refine ⟨_, _, rfl, rfl, ?_⟩
  have key : ∀ n, ((numE n).2 = 0 ∧ numE n = (numV (numE n).1.a, 0)) ∨ ((numE n).2 ≠ 0 ∧ numE n = erV (numE n).2) := by
    intro n
    unfold numE
    split
    · exact Or.inl ⟨rfl, rfl⟩
    · exact Or.inr ⟨by decide, rfl⟩
  rcases (show op = 11 ∨ op = 12 ∨ op = 13 ∨ op = 14 ∨ op = 15 by omega) with rfl | rfl | rfl | rfl | rfl
  · exact key _
  · exact key _
  · exact key _
  · by_cases hb : b = 0
    · rw [show numbersE 14 a b = erV 6 from if_pos hb]; exact Or.inr ⟨by decide, rfl⟩
    · rw [show numbersE 14 a b = numE (a.tdiv b) from if_neg hb]; exact key _
  · by_cases hb : b = 0
    · rw [show numbersE 15 a b = erV 6 from if_pos hb]; exact Or.inr ⟨by decide, rfl⟩
    · rw [show numbersE 15 a b = (numV (a.tmod b), 0) from if_neg hb]; exact Or.inl ⟨rfl, rfl⟩

set_option maxRecDepth 100000 in
set_option maxHeartbeats 4000000 in
theorem rtwo_num (op a c : Int) (w : World) (h : 11 ≤ op ∧ op ≤ 15) (ha : inL a = true) (hc : inL c = true) :
    Calls Tryz.prog 102 #[.int .i64 op, .agg #[.int .i64 1, .int .i64 a, .int .i64 0], .agg #[.int .i64 1, .int .i64 c, .int .i64 0]] w fun e w' => e = outW (joinE op (numV a) (numV c)) ∧ Below w.heap.size w w' := by
  rw [join_nn a c (by omega) (by omega)]
  have HC := Lib.hid (fun W => rnumbers_any op a c W h ha hc)
  obtain ⟨n, e, hn, he, hq⟩ := numbers_form op a c h
  rw [hn, he] at HC
  have HQ := Lib.hid hq
  clear hn he hq ha hc
  rcases (show op = 11 ∨ op = 12 ∨ op = 13 ∨ op = 14 ∨ op = 15 by omega) with rfl | rfl | rfl | rfl | rfl
  all_goals
    clear h
    rcases HQ.out with ⟨rfl, he⟩ | ⟨hne, he⟩
    · have HE := Lib.hid he
      clear he
      go_enter Tryz.func102, Tryz.ntmps102
      go_wp2_with fail
      refine (HC.out _).mono ?_
      rintro e w' ⟨rfl, rfl⟩
      go_wp2
      refine bodyPost_ret (v := .tuple #[.agg #[.int .i64 1, .int .i64 n, .int .i64 0], .int .i64 0]) ?_ rfl ⟨by rw [HE.out]; rfl, ?_⟩
      · simp [results, Tryz.results102, go_sem]
      · exact ((((Below.refl _ _).alloc (Nat.le_refl _) _).alloc (by simp) _).alloc (by simp; omega) _)
    · have tne := int_ne hne
      have HE := Lib.hid he
      clear he hne
      go_enter Tryz.func102, Tryz.ntmps102
      go_wp2_with fail
      refine (HC.out _).mono ?_
      rintro e w' ⟨rfl, rfl⟩
      go_wp2
      refine bodyPost_ret (v := .tuple #[.agg #[.int .i64 0, .int .i64 0, .int .i64 0], .int .i64 e]) ?_ rfl ⟨by rw [HE.out]; rfl, ?_⟩
      · simp [results, Tryz.results102, go_sem]
      · exact ((((Below.refl _ _).alloc (Nat.le_refl _) _).alloc (by simp) _).alloc (by simp; omega) _)
end Go.Proofs.YtjgfkmakfdepcaaGreatDoor
