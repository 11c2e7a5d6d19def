/- Where an operand begins, walking back over its cells. -/
import Derived.Test.YtfgocdeaanalgaaDoorF2
namespace Go.Proofs.YtfgocdeaanalgaaDoor

/-- how many cells are walked back, the last first, till nothing is wanted; too many where there are too few -/
def begN : List CM → Nat → Nat
  | [], _ => 1000
  | c :: r, want => if want - 1 + operN c.op = 0 then 1 else 1 + begN r (want - 1 + operN c.op)

theorem beg_cons (c : CM) (r : List CM) (want : Nat) : begN (c :: r) want = if want - 1 + operN c.op = 0 then 1 else 1 + begN r (want - 1 + operN c.op) := rfl

theorem beg_tree {t : T} (h : OkT t) : ∀ (r : List CM) (k : Nat), begN ((post t).reverse ++ r) (k + 1) = if k = 0 then (post t).length else (post t).length + begN r k := by
  induction t with
  | leaf c =>
    intro r k
    show begN (c :: r) (k + 1) = _
    rw [beg_cons, h.2, Nat.add_sub_cancel, Nat.add_zero]
    rfl
  | un o t ih =>
    intro r k
    have e : (post (.un o t)).reverse ++ r = opC o :: ((post t).reverse ++ r) := by simp [post]
    have hl : (post (.un o t)).length = 1 + (post t).length := by simp [post]; omega
    rw [e, hl]
    rw [beg_cons, show operN (opC o).op = 1 from operN_un ⟨h.1, h.2.1⟩, Nat.add_sub_cancel, if_neg (by omega), ih h.2.2 r k]
    split <;> omega
  | bin o l r' ihl ihr =>
    intro r k
    have e : (post (.bin o l r')).reverse ++ r = opC o :: ((post r').reverse ++ ((post l).reverse ++ r)) := by simp [post]
    have hl : (post (.bin o l r')).length = 1 + (post r').length + (post l).length := by simp [post]; omega
    rw [e, hl]
    rw [beg_cons, show operN (opC o).op = 2 from operN_bin ⟨h.1, h.2.1⟩, Nat.add_sub_cancel, if_neg (by omega), ihr h.2.2.2 _ (k + 1), if_neg (by omega), ihl h.2.2.1 r k]
    split <;> omega
end Go.Proofs.YtfgocdeaanalgaaDoor
