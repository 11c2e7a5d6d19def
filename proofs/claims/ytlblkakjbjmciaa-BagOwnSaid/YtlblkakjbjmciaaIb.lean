/- Layer 17: a datagram is put behind all others. -/
import Derived.Test.YtlblkakjbjmciaaIa
namespace Go.Proofs.Ytlblkakjbjmciaa.Bg
open Go.RowKit Go.Proofs.Ytlblkakjbjmciaa.Wi
set_option maxRecDepth 100000

def putB (L : Bag) (x : Bytes × Bool) : Bag := if L.length < 16 then L ++ [x] else L
def roomB (L : Bag) : Bool := decide (L.length < 16)
theorem putB_false (L : Bag) (s : Bytes) : putB L (s, false) = bagPut L s := rfl
set_option maxHeartbeats 1600000 in
theorem put_in {K : Nat} {L : Bag} {w : World} (h : BagAt K L w) (S : ByteArray) (b : Bool) :
    Calls Try.prog 17 #[bp K, .agg #[.string S, .bool b]] w fun e w' => e = .returned (.bool (roomB L)) ∧ BagAt K (putB L (S.data.toList, b)) w' ∧ Fr K w w' := by
  unfold bp
  obtain ⟨w1, hw1⟩ : ∃ W, W = w.alloc (.cells #[.string S, .bool b] 41) := ⟨_, rfl⟩
  have hf1 : Fr K w w1 := by rw [hw1]; exact World.grownBy_alloc _ _ _
  have hb1 : Box K (fn L) L.length w1 := by rw [hw1]; exact h.box.alloc _
  have hle := h.le
  have d0 : w1.cell? ⟨w.heap.size, 0, none⟩ = some (.string S) := by rw [hw1]; simp
  have d1 : w1.cell? ⟨w.heap.size, 1, none⟩ = some (.bool b) := by rw [hw1]; simp
  have c0 := hb1.num
  have HW := Lib.hid hw1
  obtain ⟨n, hn⟩ : ∃ n, n = L.length := ⟨_, rfl⟩
  rw [← hn] at c0 hle
  have HN := Lib.hid hn
  clear hn
  by_cases hlt : n < 16
  · have hlb : ((n : Int) == 16) = false := beq_eq_false_iff_ne.2 (by omega)
    obtain ⟨D, hD⟩ : ∃ D, D = w.heap.size := ⟨_, rfl⟩
    rw [← hD] at d0 d1
    have HD := Lib.hid hD
    have hwr : IntKind.i64.wrap (n : Int) = (n : Int) := IntWalk.i64_in _ (by omega)
    have e0 : w1.cell? ⟨K, n * 2, none⟩ = some (bS (fn L n).1) := hb1.txt n hlt
    have e1 : w1.cell? ⟨K, n * 2 + 1, none⟩ = some (.bool (fn L n).2) := hb1.trn n hlt
    have f0 := hb1.fro (n * 2)
    have f1 := hb1.fro (n * 2 + 1)
    have f2 := hb1.fro 32
    have HB := Lib.hid hb1
    clear hw1 hD hb1
    go_enter Try.func17, Try.ntmps17
    go_upto_region 1 with fail
    rw [← HW.out, ← HD.out]
    go_upto_region 3 with fail
    go_region
    obtain ⟨w2, hw2⟩ : ∃ W, W = (w1.drew.setCell ⟨K, n * 2, none⟩ (.string S)).setCell ⟨K, n * 2 + 1, none⟩ (.bool b) := ⟨_, rfl⟩
    have hb2 : Box K (fn (L ++ [(S.data.toList, b)])) n w2 := by
      rw [hw2, ← fn_put, ← HN.out]
      have hd : Box K (fn L) n w1.drew := by rw [HN.out]; exact HB.out
      exact hd.setBoth n hlt (S.data.toList, b)
    have hf2 : Fr K w1 w2 := by rw [hw2]; exact ((Fr.refl K w1).drew.trans (Fr.set K _ _ _)).trans (Fr.set K _ _ _)
    have c2 := hb2.num
    have g2 := hb2.fro 32
    have hw3 := hb2.setNum (n + 1)
    have hwn : IntKind.i64.wrap ((n : Int) + 1) = ((n + 1 : Nat) : Int) := by rw [IntWalk.i64_in _ (by omega)]; rfl
    have HB2 := Lib.hid (⟨hw3, hf2⟩ : _ ∧ _)
    rw [← hw2]
    clear hw2 hb2 hf2 hw3 hwr e0 e1 f0 f1 c0 f2 d0 d1
    go_wp2
    go_ret
    have hlt2 : L.length < 16 := by rw [← HN.out]; exact hlt
    rw [show roomB L = true from decide_eq_true hlt2, show putB L (S.data.toList, b) = L ++ [(S.data.toList, b)] from if_pos hlt2]
    refine ⟨rfl, ⟨?_, by rw [List.length_append, List.length_singleton]; omega⟩, (hf1.trans HB2.out.2).trans (Fr.set K _ _ _)⟩
    rw [List.length_append, List.length_singleton, ← HN.out]
    exact HB2.out.1
  · have hlb : ((n : Int) == 16) = true := by rw [show n = 16 by omega]; rfl
    have hB := Lib.hid hb1
    obtain ⟨D, hD⟩ : ∃ D, D = w.heap.size := ⟨_, rfl⟩
    rw [← hD] at d0 d1
    have HD := Lib.hid hD
    clear hw1 hb1 hD
    go_enter Try.func17, Try.ntmps17
    go_upto_region 1 with fail
    rw [← HW.out, ← HD.out]
    go_wp2
    go_ret
    have hlt2 : ¬ L.length < 16 := by rw [← HN.out]; exact hlt
    rw [show roomB L = false from decide_eq_false hlt2, show putB L (S.data.toList, b) = L from if_neg hlt2]
    exact ⟨rfl, ⟨hB.out, h.le⟩, hf1⟩
theorem fr_in {K : Nat} {w w' : World} (h : Fr K w w') : w.heap.size ≤ w'.heap.size := h.size
end Go.Proofs.Ytlblkakjbjmciaa.Bg
