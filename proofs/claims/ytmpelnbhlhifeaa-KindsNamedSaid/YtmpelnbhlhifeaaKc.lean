/- The small functions of kinds and of the document's answer: what a cell makes of kinds; where a name is. -/
import Derived.Test.YtmpelnbhlhifeaaKb
import Derived.Test.YtmpelnbhlhifeaaQB
namespace Go.Proofs.Ytmpelnbhlhifeaa
open Go.RowKit

theorem op_bin {o : Int} (h : 11 ≤ o ∧ o ≤ 23) : o = 11 ∨ o = 12 ∨ o = 13 ∨ o = 14 ∨ o = 15 ∨ o = 16 ∨ o = 17 ∨ o = 18 ∨ o = 19 ∨ o = 20 ∨ o = 21 ∨ o = 22 ∨ o = 23 := by omega
theorem op_un {o : Int} (h : 7 ≤ o ∧ o ≤ 10) : o = 7 ∨ o = 8 ∨ o = 9 ∨ o = 10 := by omega
theorem op_leaf {o : Int} (h : 1 ≤ o ∧ o ≤ 6) : o = 1 ∨ o = 2 ∨ o = 3 ∨ o = 4 ∨ o = 5 ∨ o = 6 := by omega
theorem kd_three {k : Int} (h : 1 ≤ k ∧ k ≤ 3) : k = 1 ∨ k = 2 ∨ k = 3 := by omega
theorem op_all {o : Int} (h : 1 ≤ o ∧ o ≤ 23) : (1 ≤ o ∧ o ≤ 6) ∨ (7 ≤ o ∧ o ≤ 10) ∨ (11 ≤ o ∧ o ≤ 23) := by omega

theorem kOperands_any (op : Int) (w : World) (h : 1 ≤ op ∧ op ≤ 23) :
    Calls Try.prog 16 #[.int .i64 op] w fun e w' => e = .returned (.int .i64 (operN op)) ∧ w = w' := by
  rcases op_all h with h | h | h
  · rcases op_leaf h with rfl | rfl | rfl | rfl | rfl | rfl
    all_goals
      go_enter Try.func16, Try.ntmps16
      go_wp2
      go_ret
      exact ⟨rfl, rfl⟩
  · rcases op_un h with rfl | rfl | rfl | rfl
    all_goals
      go_enter Try.func16, Try.ntmps16
      go_wp2
      go_ret
      exact ⟨rfl, rfl⟩
  · rcases op_bin h with rfl | rfl | rfl | rfl | rfl | rfl | rfl | rfl | rfl | rfl | rfl | rfl | rfl
    all_goals
      go_enter Try.func16, Try.ntmps16
      go_wp2
      go_ret
      exact ⟨rfl, rfl⟩

def aloneK (op : Int) : Int := if op = 1 then 1 else if op = 2 then 3 else 2
theorem alone_any (op : Int) (w : World) (h : 1 ≤ op ∧ op ≤ 6) :
    Calls Try.prog 24 #[.int .i64 op] w fun e w' => e = .returned (.int .i64 (aloneK op)) ∧ w = w' := by
  rcases op_leaf h with rfl | rfl | rfl | rfl | rfl | rfl
  all_goals
    go_enter Try.func24, Try.ntmps24
    go_wp2
    go_ret
    exact ⟨rfl, rfl⟩

set_option maxHeartbeats 1000000 in
theorem ahead_any (op k : Int) (w : World) (h : 7 ≤ op ∧ op ≤ 10) (hk : 1 ≤ k ∧ k ≤ 3) :
    Calls Try.prog 25 #[.int .i64 op, .int .i64 k] w fun e w' => e = .returned (.int .i64 (unK op k)) ∧ w = w' := by
  rcases op_un h with rfl | rfl | rfl | rfl <;> rcases kd_three hk with rfl | rfl | rfl
  all_goals
    go_enter Try.func25, Try.ntmps25
    go_wp2
    go_ret
    exact ⟨rfl, rfl⟩

set_option maxHeartbeats 4000000 in
theorem between_any (op a b : Int) (w : World) (h : 11 ≤ op ∧ op ≤ 23) (hk : 1 ≤ a ∧ a ≤ 3) :
    Calls Try.prog 26 #[.int .i64 op, .int .i64 a, .int .i64 b] w fun e w' => e = .returned (.int .i64 (if a ≠ b then 0 else binK op a)) ∧ w = w' := by
  by_cases hab : a = b
  · subst hab
    rw [if_neg (by simp)]
    rcases op_bin h with rfl | rfl | rfl | rfl | rfl | rfl | rfl | rfl | rfl | rfl | rfl | rfl | rfl <;> rcases kd_three hk with rfl | rfl | rfl
    all_goals
      go_enter Try.func26, Try.ntmps26
      go_wp2
      go_ret
      exact ⟨rfl, rfl⟩
  · rw [if_pos hab]
    have h' := bne_iff_ne.2 hab
    clear hab
    go_enter Try.func26, Try.ntmps26
    go_wp2
    go_ret
    exact ⟨rfl, rfl⟩

set_option maxHeartbeats 4000000 in
theorem joined_any (op a : Int) (w : World) (h : 11 ≤ op ∧ op ≤ 23) (hk : 1 ≤ a ∧ a ≤ 3) :
    Calls Try.prog 28 #[.int .i64 op, .int .i64 a] w fun e w' => e = .returned (.tuple #[.int .i64 (errK (binK op a)).1, .int .i64 (errK (binK op a)).2]) ∧ w = w' := by
  rcases op_bin h with rfl | rfl | rfl | rfl | rfl | rfl | rfl | rfl | rfl | rfl | rfl | rfl | rfl <;> rcases kd_three hk with rfl | rfl | rfl
  all_goals
    go_enter Try.func28, Try.ntmps28
    go_wp2
    go_ret2
    exact ⟨rfl, rfl⟩

end Go.Proofs.Ytmpelnbhlhifeaa
