/- words.isLetter, isDigit, isTaken; words.Name at every text. -/
import Derived.Test.YtmpelnbhlhifeaaProg
import Derived.Test.YtmpelnbhlhifeaaDg
import Derived.Test.YtmpelnbhlhifeaaSp
import Derived.Test.YtmpelnbhlhifeaaJm
import Derived.WalkKit
import Derived.WalkSpells
import Derived.WalkLawsBesides
import Derived.Lib.Hide
namespace Go.Proofs.Ytmpelnbhlhifeaa
open Go.RowKit

def isLB (c : UInt8) : Bool := decide (97 ≤ c.toNat ∧ c.toNat ≤ 122)
theorem isLB_iff {c : UInt8} : isLB c = true ↔ 97 ≤ c.toNat ∧ c.toNat ≤ 122 := decide_eq_true_iff
def takenB (l : List UInt8) : Bool := l == [116, 114, 117, 101] || l == [102, 97, 108, 115, 101] || l == [105, 110] || l == [114, 101] || l == [105, 109]
def okB (c : UInt8) : Bool := isLB c || isD c || c == 95

theorem isLetter_any (c : UInt8) (w : World) :
    Calls Try.prog 35 #[.int .u8 c.toNat] w fun e w' => e = .returned (.bool (isLB c)) ∧ w = w' := by
  by_cases h1 : (97 : Int) ≤ c.toNat
  · by_cases h2 : (c.toNat : Int) ≤ 122
    · have hL : isLB c = true := decide_eq_true ⟨by omega, by omega⟩
      rw [hL]; clear hL
      go_enter Try.func35, Try.ntmps35
      go_wp2
      go_ret
      exact ⟨rfl, rfl⟩
    · have hL : isLB c = false := decide_eq_false (fun h => h2 (by omega))
      rw [hL]; clear hL
      go_enter Try.func35, Try.ntmps35
      go_wp2
      go_ret
      exact ⟨rfl, rfl⟩
  · have hL : isLB c = false := decide_eq_false (fun h => h1 (by omega))
    rw [hL]; clear hL
    go_enter Try.func35, Try.ntmps35
    go_wp2
    go_ret
    exact ⟨rfl, rfl⟩

theorem isDigit_any (c : UInt8) (w : World) :
    Calls Try.prog 37 #[.int .u8 c.toNat] w fun e w' => e = .returned (.bool (isD c)) ∧ w = w' := by
  by_cases h1 : (48 : Int) ≤ c.toNat
  · by_cases h2 : (c.toNat : Int) ≤ 57
    · have hL : isD c = true := decide_eq_true ⟨by omega, by omega⟩
      rw [hL]; clear hL
      go_enter Try.func37, Try.ntmps37
      go_wp2
      go_ret
      exact ⟨rfl, rfl⟩
    · have hL : isD c = false := decide_eq_false (fun h => h2 (by omega))
      rw [hL]; clear hL
      go_enter Try.func37, Try.ntmps37
      go_wp2
      go_ret
      exact ⟨rfl, rfl⟩
  · have hL : isD c = false := decide_eq_false (fun h => h1 (by omega))
    rw [hL]; clear hL
    go_enter Try.func37, Try.ntmps37
    go_wp2
    go_ret
    exact ⟨rfl, rfl⟩

theorem isTaken_any (s : ByteArray) (w : World) :
    Calls Try.prog 36 #[.string s] w fun e w' => e = .returned (.bool (takenB s.data.toList)) ∧ w = w' := by
  go_enter Try.func36, Try.ntmps36
  go_wp2
  all_goals go_ret
  all_goals refine ⟨?_, rfl⟩
  all_goals rw [← Lib.toList_data]
  all_goals simp_all [takenB]
end Go.Proofs.Ytmpelnbhlhifeaa
