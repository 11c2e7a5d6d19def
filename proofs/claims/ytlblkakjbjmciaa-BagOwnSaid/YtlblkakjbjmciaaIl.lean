/- Layer 17: the laws BagNil, BagBound. -/
import Derived.Test.YtlblkakjbjmciaaIk
namespace Go.Proofs.Ytlblkakjbjmciaa.Bg
open Go.RowKit Go.Proofs.Ytlblkakjbjmciaa.Wi
set_option maxRecDepth 100000

theorem all_nil (w : World) : Calls Try.prog 11 #[.pointer none] w fun e w' => e = .returned (.slice none 0 0) ∧ w = w' := by
  have HL := Lib.hid (len_nil w)
  go_enter Try.func11, Try.ntmps11
  go_wp2_with fail
  refine HL.out.mono ?_
  rintro e w1 ⟨rfl, rfl⟩
  clear HL
  go_wp2
  go_loopw [3, 7] (fun x3 x7 wr => x3 = .slice none 0 0 ∧ x7 = .int .i64 0 ∧ wr = w) (fun _ _ _ => 0)
  case atStart => exact ⟨rfl, rfl, rfl⟩
  case round =>
    obtain ⟨rfl, rfl, rfl⟩ := hrel
    go_wp2
    go_ret
    exact ⟨rfl, rfl⟩
set_option maxHeartbeats 3200000 in
theorem nil_law (i bit : Int) (w : World) : Calls Try.prog 6 #[.int .i64 i, .int .i64 bit] w fun e w' => e = .returned (.bool true) ∧ Below w.heap.size w w' := by
  have H1 := Lib.hid (take_nil i); have H2 := Lib.hid (drop_nil i); have H3 := Lib.hid (twice_nil i); have H4 := Lib.hid (turn_nil i bit)
  have H5 := Lib.hid (put_nil ⟨#[97]⟩); have H6 := Lib.hid len_nil; have H7 := Lib.hid all_nil; have HW := Lib.hid wakes_any
  go_enter Try.func6, Try.ntmps6
  go_wp2_with fail
  refine (H1.out _).mono ?_
  rintro e w1 ⟨rfl, rfl⟩
  go_wp2_with fail
  refine (HW.out _).mono ?_
  rintro e w1 ⟨rfl, hb⟩
  have HB := Lib.hid hb
  clear hb H1 HW
  go_wp2_with fail
  refine (H5.out _).mono ?_
  rintro e w2 ⟨rfl, rfl⟩
  go_wp2_with fail
  refine (H6.out _).mono ?_
  rintro e w2 ⟨rfl, rfl⟩
  go_wp2_with fail
  refine (H2.out _).mono ?_
  rintro e w2 ⟨rfl, rfl⟩
  go_wp2_with fail
  refine (H3.out _).mono ?_
  rintro e w2 ⟨rfl, rfl⟩
  go_wp2_with fail
  refine (H4.out _).mono ?_
  rintro e w2 ⟨rfl, rfl⟩
  go_wp2_with fail
  refine (H7.out _).mono ?_
  rintro e w2 ⟨rfl, rfl⟩
  clear H2 H3 H4 H5 H6 H7
  go_wp2
  go_ret
  exact ⟨rfl, HB.out⟩
/-- so many of one text -/
def sameB (s : Bytes) (j : Nat) : Bag := List.replicate (min j 16) (s, false)
theorem sameB_len (s : Bytes) (j : Nat) : (sameB s j).length = min j 16 := List.length_replicate
theorem sameB_put (s : Bytes) (j : Nat) : bagPut (sameB s j) s = sameB s (j + 1) := by
  unfold bagPut
  rw [sameB_len]
  unfold sameB
  by_cases h : min j 16 < 16
  · rw [if_pos h, show min (j + 1) 16 = min j 16 + 1 by omega, List.replicate_succ']
  · rw [if_neg h, show min (j + 1) 16 = min j 16 by omega]
theorem sameB_room (s : Bytes) (j : Nat) : roomB (sameB s j) = decide (j < 16) := by
  unfold roomB
  rw [sameB_len]
  by_cases h : j < 16
  · rw [decide_eq_true h, decide_eq_true (by omega)]
  · rw [decide_eq_false h, decide_eq_false (by omega)]
set_option maxHeartbeats 3200000 in
theorem bound_law (n : Nat) (hn : n < 256) (s : ByteArray) (hs : s.size ≤ 281474976710656) (w : World) : Calls Try.prog 3 #[.int .u8 n, .string s] w fun e w' => e = .returned (.bool true) ∧ Below w.heap.size w w' := by
  have HN := Lib.hid (new_any w)
  obtain ⟨K, hK⟩ : ∃ K, K = w.heap.size := ⟨_, rfl⟩
  have HK := Lib.hid hK
  rw [← hK] at HN
  have HW := Lib.hid wakes_any
  have hlen : s.data.toList.length ≤ 281474976710656 := by rw [← Lib.size_eq]; exact hs
  have HP : Hid (∀ (j : Nat) (w1 : World), BagAt K (sameB s.data.toList j) w1 → Calls Try.prog 8 #[bp K, .string s] w1 fun e w' => e = .returned (.bool (decide (j < 16))) ∧ BagAt K (sameB s.data.toList (j + 1)) w' ∧ Fr K w1 w') := fun j w1 h1 => by
    have := put_any h1 s hs
    rw [sameB_put, sameB_room] at this
    exact this
  have HL : Hid (∀ (w1 : World), BagAt K (sameB s.data.toList n) w1 → Calls Try.prog 10 #[bp K] w1 fun e w' => e = .returned (.int .i64 (min n 16 : Nat)) ∧ w1 = w') := fun w1 h1 => by
    have := len_any h1
    rw [sameB_len] at this
    exact this
  have HA : Hid (∀ (w1 : World), BagAt K (sameB s.data.toList n) w1 → Calls Try.prog 11 #[bp K] w1 fun e w' => (∃ A c, e = .returned (.slice A (min n 16) c)) ∧ Below w1.heap.size w1 w') := fun w1 h1 => by
    have := all_any h1 (fun p hp => by rw [List.eq_of_mem_replicate hp]; exact hlen)
    refine this.mono fun e w' ⟨v, h2, h3, h4⟩ => ⟨?_, h4⟩
    obtain ⟨A, c, rfl⟩ := own_shape h3
    rw [sameB_len] at h2
    exact ⟨A, c, h2⟩
  have h0 : sameB s.data.toList 0 = [] := rfl
  rw [← h0] at HN
  clear h0 hlen hs hK
  generalize s.data.toList = S at *
  unfold bp at *
  go_enter Try.func3, Try.ntmps3
  go_wp2_with fail
  refine HN.out.mono ?_
  rintro e w1 ⟨rfl, hb1, hw1⟩
  have H0 : Hid (BagAt K (sameB S 0) w1 ∧ Fr K w1 w1) := ⟨hb1, Fr.refl _ _⟩
  have HW1 := Lib.hid hw1
  clear hb1 hw1 HN
  go_wp2
  go_loopw [6, 9] (fun x6 x9 wr => ∃ j : Nat, j ≤ n ∧ x9 = .int .u8 j ∧ x6 = .int .i64 (min j 16 : Nat) ∧ Hid (BagAt K (sameB S j) wr ∧ Fr K w1 wr)) (fun _ x _ => n - (intOf x).toNat)
  case atStart => exact ⟨0, by omega, rfl, rfl, H0⟩
  case round =>
    clear H0
    obtain ⟨j, hj, rfl, rfl, HH⟩ := hrel
    obtain ⟨W, hW⟩ : ∃ W, W = wr := ⟨_, rfl⟩
    subst hW
    by_cases hlt : j < n
    · have hlt2 : (j : Int) < (n : Int) := by omega
      have HC := Lib.hid (HP.out j W HH.out.1)
      go_wp2_with fail
      refine HC.out.mono ?_
      rintro e w2 ⟨rfl, hb2, hf2⟩
      have HH2 : Hid (BagAt K (sameB S (j + 1)) w2 ∧ Fr K w1 w2) := ⟨hb2, HH.out.2.trans hf2⟩
      have hw8 : IntKind.u8.wrap ((j : Int) + 1) = ((j + 1 : Nat) : Int) := by unfold IntKind.wrap; simp [IntKind.signed, IntKind.bits]; omega
      clear hb2 hf2 HC HH
      by_cases h16 : j < 16
      · have hd : decide (j < 16) = true := decide_eq_true h16
        rw [hd, Nat.min_eq_left (by omega)]
        have hwi : IntKind.i64.wrap ((j : Int) + 1) = ((j + 1 : Nat) : Int) := by rw [IntWalk.i64_in _ (by omega)]; rfl
        go_wp2
        go_roundw
        case rel => exact ⟨j + 1, by omega, by first | rfl | go_num, by rw [show min (j + 1) 16 = j + 1 by omega]; first | rfl | go_num, HH2⟩
        case measure => simp [intOf]; omega
      · have hd : decide (j < 16) = false := decide_eq_false h16
        rw [hd]
        have hm : min (j + 1) 16 = min j 16 := by omega
        have HM := Lib.hid hm
        clear hm
        generalize min j 16 = m at *
        go_wp2
        go_roundw
        case rel => exact ⟨j + 1, by omega, by first | rfl | go_num, by rw [HM.out], HH2⟩
        case measure => simp [intOf]; omega
    · obtain rfl : n = j := by omega
      have hlt2 : ¬ (n : Int) < (n : Int) := by omega
      obtain ⟨m, hm⟩ : ∃ m, m = min n 16 := ⟨_, rfl⟩
      rw [← hm] at HL HA ⊢
      have hmin : min (n : Int) 16 = (m : Int) := by omega
      clear hm HP
      go_wp2_with fail
      refine (HW.out _).mono ?_
      rintro e w2 ⟨rfl, hb2⟩
      have HB2 : Hid (BagAt K (sameB S n) w2 ∧ Below w.heap.size w w2) := ⟨⟨HH.out.1.box.below hb2, HH.out.1.le⟩, by
        have h0 : Below w.heap.size w w1 := by rw [← HK.out]; exact HW1.out
        have h1 := Fr.own h0 HH.out.2 (by rw [HK.out]; exact Nat.le_refl _)
        exact h1.trans (hb2.mono h1.size)⟩
      clear hb2 HH HW
      go_wp2_with fail
      refine (HL.out _ HB2.out.1).mono ?_
      rintro e w3 ⟨rfl, rfl⟩
      go_wp2_with fail
      refine (HA.out _ HB2.out.1).mono ?_
      rintro e w3 ⟨⟨A, c, rfl⟩, hb3⟩
      have HB3 := Lib.hid (HB2.out.2.trans (hb3.mono HB2.out.2.size))
      clear hb3 HB2 HL HA
      go_wp2
      go_ret
      exact ⟨rfl, HB3.out⟩
end Go.Proofs.Ytlblkakjbjmciaa.Bg
