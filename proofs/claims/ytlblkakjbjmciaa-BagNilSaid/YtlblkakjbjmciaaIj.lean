/- The document's Same (package quintainref02) at any two lists of words that are read. -/
import Derived.Test.YtlblkakjbjmciaaIa
import Derived.WalkKit
import Derived.WalkSpells
import Derived.WalkLawsBesides
import Derived.Lib.Strings
import Derived.Deep.QuietTactic
import Derived.BigQuiet
import Derived.Deep.Draws
namespace Go.Proofs.Ytlblkakjbjmciaa.Bg
open Go.RowKit Go.Proofs.Ytlblkakjbjmciaa.Wi
set_option maxRecDepth 100000

/-- a slice value that reads as a list of words -/
def RdS (w : World) (v : Value) (xs : List (List UInt8)) : Prop :=
  ∃ (A : Option Addr) (c : Nat), v = .slice A xs.length c ∧ ∀ i (h : i < xs.length), ∃ ad, A = some ad ∧ w.cell? (ad.add i) = some (bS xs[i])

theorem ret_bool {a b : Bool} (h : a = b) : Ending.returned (.bool a) = .returned (.bool b) := by rw [h]
theorem RdS.nil (w : World) : RdS w (.slice none 0 0) [] := ⟨_, _, rfl, fun i hi => absurd hi (by simp)⟩

theorem same_any (va vb : Value) (xs ys : List (List UInt8)) (w : World) (ha : RdS w va xs) (hb : RdS w vb ys) (hx : xs.length ≤ 140737488355328) :
    Calls Try.prog 14 #[va, vb] w fun e w' => e = .returned (.bool (decide (xs = ys))) ∧ ∃ n, w' = w.drewN n := by
  obtain ⟨A, c, rfl, ha⟩ := ha
  obtain ⟨B, d, rfl, hb⟩ := hb
  have HA := Lib.hid ha; have HB := Lib.hid hb; clear ha hb
  by_cases hlen : xs.length = ys.length
  · obtain ⟨n, hxl⟩ : ∃ n, xs.length = n := ⟨_, rfl⟩
    have hyl : ys.length = n := by omega
    rw [hxl] at hx
    have HXL := Lib.hid hxl; have HYL := Lib.hid hyl
    rw [hxl, hyl]
    clear hlen hxl hyl
    have hr : ∀ k, xs.take k = ys.take k → ¬ k < n → decide (xs = ys) = true := by
      intro k h hk
      rw [List.take_of_length_le (by rw [HXL.out]; omega), List.take_of_length_le (by rw [HYL.out]; omega)] at h
      exact decide_eq_true h
    have HR := Lib.hid hr; clear hr
    go_enter Try.func14, Try.ntmps14
    go_wp2
    go_loopw [4, 5] (fun x i wr => x = .bool false ∧ ∃ k m : Nat, k ≤ n ∧ xs.take k = ys.take k ∧ wr = w.drewN m ∧ i = .int .i64 k) (fun _ i _ => n - (intOf i).toNat)
    case atStart => exact ⟨rfl, 0, 0, by omega, rfl, rfl, rfl⟩
    case round =>
      obtain ⟨rfl, k, m, hk, ht, rfl, rfl⟩ := hrel
      have HT := Lib.hid ht; clear ht
      by_cases hkn : k < n
      · obtain ⟨ad, rfl, hca⟩ := HA.out k (by rw [HXL.out]; exact hkn)
        obtain ⟨bd, rfl, hcb⟩ := HB.out k (by rw [HYL.out]; exact hkn)
        unfold bS at hca hcb
        by_cases he : xs[k]'(by rw [HXL.out]; exact hkn) = ys[k]'(by rw [HYL.out]; exact hkn)
        · rw [← he] at hcb
          obtain ⟨X, hX⟩ : ∃ X : ByteArray, X = ⟨(xs[k]'(by rw [HXL.out]; exact hkn)).toArray⟩ := ⟨_, rfl⟩
          rw [← hX] at hca hcb
          clear hX
          have hs : xs.take (k + 1) = ys.take (k + 1) := by
            rw [List.take_succ_eq_append_getElem (by rw [HXL.out]; exact hkn), List.take_succ_eq_append_getElem (by rw [HYL.out]; exact hkn), HT.out, he]
          have HS := Lib.hid hs; clear he hs
          go_wp2
          go_quiet (fail)
          go_wp2
          go_roundw
          case rel => exact ⟨rfl, k + 1, m + nq, by omega, HS.out, rfl, by go_num⟩
          case measure => simp [intOf]; omega
        · obtain ⟨X, hX⟩ : ∃ X : ByteArray, X = ⟨(xs[k]'(by rw [HXL.out]; exact hkn)).toArray⟩ := ⟨_, rfl⟩
          obtain ⟨Y, hY⟩ : ∃ Y : ByteArray, Y = ⟨(ys[k]'(by rw [HYL.out]; exact hkn)).toArray⟩ := ⟨_, rfl⟩
          have hne : (X.toList == Y.toList) = false := by
            rw [Lib.toList_data, Lib.toList_data, hX, hY]
            exact beq_eq_false_iff_ne.2 he
          have hdd : decide (xs = ys) = false := decide_eq_false (fun e => he (by subst e; rfl))
          rw [← hX] at hca
          rw [← hY] at hcb
          have HD := Lib.hid hdd
          clear hX hY he hdd
          go_wp2
          go_quiet (fail)
          go_wp2
          go_ret
          exact ⟨ret_bool HD.out.symm, m + nq, World.drewN_drewN _ _ _⟩
      · have hd := HR.out k HT.out hkn
        have HD := Lib.hid hd; clear hd
        go_wp2
        go_ret
        exact ⟨ret_bool HD.out.symm, m, rfl⟩
  · have hr : decide (xs = ys) = false := decide_eq_false (fun e => hlen (by rw [e]))
    have hl' : ((xs.length : Int) == (ys.length : Int)) = false := beq_eq_false_iff_ne.2 (by omega)
    rw [hr]; clear hr hlen
    go_enter Try.func14, Try.ntmps14
    go_wp2
    go_ret
    exact ⟨rfl, 0, rfl⟩
theorem RdS.own {w : World} {base n : Nat} {v : Value} {xs : List Value} {L : List Bytes} (h : w.ownsRow base 9 1 v n xs) (hx : xs = L.map bS) : RdS w v L := by
  subst hx
  have hn : n = L.length := by have := h.1; simp at this; omega
  subst hn
  rcases h.2 with ⟨rfl, h0⟩ | ⟨g, cap, cur, rfl, _, hg, hc, _, hs, ht⟩
  · exact ⟨none, 0, by rw [h0], fun i hi => absurd hi (by omega)⟩
  · refine ⟨some ⟨g, 0, none⟩, cap, rfl, fun i hi => ⟨_, rfl, ?_⟩⟩
    have e : (⟨g, 0, none⟩ : Addr).add i = ⟨g, i, none⟩ := by unfold Addr.add; by_cases hi0 : i = 0 <;> simp [hi0]
    rw [e, cell_of_row w g i _ _ _ hg]
    have h2 : (cur.toList.take (L.length * 1))[i]? = some (bS L[i]) := by rw [ht]; simp [hi]
    rw [List.getElem?_take_of_lt (by omega), Array.getElem?_toList] at h2
    exact h2
theorem RdS.later {w w1 : World} {v : Value} {L : List Bytes} (h : RdS w v L) (hb : Below w.heap.size w w1) : RdS w1 v L := by
  obtain ⟨A, c, rfl, hc⟩ := h
  refine ⟨A, c, rfl, fun i hi => ?_⟩
  obtain ⟨ad, ha, h2⟩ := hc i hi
  have hlt := World.block_lt_of_cell? w _ h2
  exact ⟨ad, ha, (World.cell?_of_block (hb.block _ hlt)).trans h2⟩
end Go.Proofs.Ytlblkakjbjmciaa.Bg
