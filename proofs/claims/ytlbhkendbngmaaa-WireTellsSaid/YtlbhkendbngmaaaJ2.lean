/- Layer 16: Pack. -/
import Derived.Test.YtlbhkendbngmaaaJ1
namespace Go.Proofs.Ytlbhkendbngmaaa.Wi
open Go.RowKit
set_option maxRecDepth 100000

set_option maxHeartbeats 1600000 in
theorem pack_any (k : Int) (n : Nat) (load : ByteArray) (w : World) (hs : load.size ≤ 4611686018427387904) :
    Calls Try.prog 16 #[.int .i64 k, .int .u64 n, .string load] w fun e w' => e = .returned (.tuple #[bstr (packC k n load.data.toList).1, .int .i64 (packC k n load.data.toList).2]) ∧ Below w.heap.size w w' := by
  have HD := Lib.hid (isDatagram_any k load w)
  have hll : load.data.toList.length = load.size := (Lib.size_eq load).symm
  have HLL := Lib.hid hll
  clear hll
  obtain ⟨d, hd⟩ : ∃ d, isD k load.data.toList = d := ⟨_, rfl⟩
  rw [hd] at HD
  cases d
  · have hp : packC k n load.data.toList = ([], 1) := by
      unfold packC
      unfold isD at hd
      have hd := of_decide_eq_false hd
      refine if_pos ?_
      by_cases h1 : k < 1
      · exact Or.inl h1
      · by_cases h2 : 2 < k
        · exact Or.inr (Or.inl h2)
        · by_cases h3 : k = 1
          · exact absurd (Or.inl h3) hd
          · exact Or.inr (Or.inr ⟨by omega, fun h => hd (Or.inr ⟨by omega, h⟩)⟩)
    have HP := Lib.hid hp
    clear hd hp
    go_enter Try.func16, Try.ntmps16
    go_wp2_with fail
    refine HD.out.mono ?_
    rintro e w1 ⟨rfl, rfl⟩
    go_wp2
    go_ret2
    rw [HP.out]
    exact ⟨rfl, Below.refl _ _⟩
  · unfold isD at hd
    have hd := of_decide_eq_true hd
    have hk : k = 1 ∨ k = 2 := by rcases hd with h | ⟨h, _⟩ <;> omega
    have hnf : ¬ (k < 1 ∨ 2 < k ∨ k = 2 ∧ load.data.toList ≠ []) := by
      rintro (h | h | ⟨h, h'⟩)
      · omega
      · omega
      · rcases hd with h3 | ⟨_, h3⟩
        · omega
        · exact h' h3
    by_cases h8 : 800 < load.size
    · have h9 : (800 : Int) < load.size := by omega
      have hp : packC k n load.data.toList = ([], 4) := by unfold packC; rw [if_neg hnf, if_pos (by rw [HLL.out]; exact h8)]
      have HP := Lib.hid hp
      clear hd hp hnf
      go_enter Try.func16, Try.ntmps16
      go_wp2_with fail
      refine HD.out.mono ?_
      rintro e w1 ⟨rfl, rfl⟩
      go_wp2
      go_ret2
      rw [HP.out]
      exact ⟨rfl, Below.refl _ _⟩
    · have h9 : ¬ (800 : Int) < load.size := by omega
      have hp : packC k n load.data.toList = (sealC (dataT k.toNat n load.data.toList), 0) := by unfold packC; rw [if_neg hnf, if_neg (by rw [HLL.out]; exact h8)]
      have HP := Lib.hid hp
      obtain ⟨w1, hw1⟩ : ∃ W, W = w.alloc (.cells #[.slice none 0 0, .bool false] 57) := ⟨_, rfl⟩
      have hn : w1.heap[w.heap.size]? = some (.cells #[.slice none 0 0, .bool false] 57 (0, 0)) := by rw [hw1]; exact heap_alloc_new w _
      have hb1 : Below w.heap.size w w1 := by rw [hw1]; exact (Below.refl _ _).alloc (Nat.le_refl _) _
      have h0 : WW w w.heap.size [] false w1 := ⟨⟨_, hn, World.ownsRow_nil _ _ _ _⟩, Nat.le_refl _, hb1⟩
      have HS := Lib.hid (small_any h0 k 1 2 (by simp))
      have HW1 := Lib.hid hw1
      have hdat : [lowB k] ++ leN 8 n ++ load.data.toList = dataT k.toNat n load.data.toList := by
        unfold dataT lowB
        rw [show (k % 256).toNat = k.toNat by omega]
        rfl
      have HDAT := Lib.hid hdat
      clear hd hp hnf hn hb1 h0 hw1 hdat
      unfold wp_ at HS
      go_enter Try.func16, Try.ntmps16
      go_wp2_with fail
      refine HD.out.mono ?_
      rintro e w0 ⟨rfl, rfl⟩
      go_upto_region 6 with fail
      rw [← HW1.out]
      go_wp2_with fail
      refine HS.out.mono ?_
      rintro e w2 ⟨rfl, h2, _⟩
      have HE := Lib.hid (eight_any h2 n (by simp))
      unfold wp_ at HE
      clear h2 HS
      go_wp2_with fail
      refine HE.out.mono ?_
      rintro e w3 ⟨rfl, h3, _⟩
      have hxs : ([] ++ [lowB k] ++ leN 8 n) = [lowB k] ++ leN 8 n := rfl
      rw [hxs] at h3
      have hxl : ([lowB k] ++ leN 8 n).length = 9 := by rw [List.length_append, leN_len]; rfl
      obtain ⟨X, hX⟩ : ∃ X, X = [lowB k] ++ leN 8 n := ⟨_, rfl⟩
      rw [← hX] at h3 hxl HDAT
      clear hX hxs
      obtain ⟨v, ⟨d0, _, _, _⟩, _, ho⟩ := h3.at_
      obtain ⟨A, c, rfl⟩ := own_form ho
      have hkc : Sem.run Try.prog (convert 53 9 (.slice A X.length c)) w3 = .ok (.string ⟨X.toArray⟩) w3 := by
        rcases own_byte ho rfl with ⟨a, rfl, hc⟩ | ⟨rfl, hl, rfl⟩
        · exact run_convert_bytes_back _ _ _ 5 a c X Try.underlying53 Try.underlying5 Try.underlying9 hc
        · rw [hl] at hxl; cases hxl
      obtain ⟨Y, hY⟩ : ∃ Y : ByteArray, Y = ⟨X.toArray⟩ := ⟨_, rfl⟩
      have hys : Y.size = 9 := by rw [hY]; exact hxl
      rw [← hY] at hkc
      have hyl : (Y ++ load).data.toList = dataT k.toNat n load.data.toList := by rw [ByteArray.data_append, Array.toList_append, hY]; exact HDAT.out
      have hsum : (Y.size : Int) + (load.size : Int) ≤ 9223372036854775807 := by omega
      have hz : (Y ++ load).size ≤ 4611686018427387 := by rw [ByteArray.size_append]; omega
      have HSL := Lib.hid (seal_any (Y ++ load) w3 hz)
      rw [hyl] at HSL
      have HLO := Lib.hid h3.below
      clear ho h3 HE hY hyl hxl hz
      go_wp2_with fail
      refine HSL.out.mono ?_
      rintro e w4 ⟨rfl, hb4⟩
      have HB4 := Lib.hid hb4
      clear hb4
      go_wp2
      go_ret2
      rw [HP.out]
      exact ⟨rfl, HLO.out.trans (HB4.out.mono HLO.out.size)⟩
end Go.Proofs.Ytlbhkendbngmaaa.Wi
