/- The laws WordsNumbers, WordsDigits, WordsNames, WordsLines walked. -/
import Derived.Test.YtjjfmffmcchlmaaDoorWw
namespace Go.Proofs.YtjjfmffmcchlmaaDoor
open Go.RowKit

theorem numbers_law (s : ByteArray) (w : World) (hs : s.size ≤ 281474976710656) (hL : Laid w) :
    Calls Tryd.prog 6 #[.string s] w fun e w' => e = .returned (.bool true) ∧ Below w.heap.size w w' := by
  have HL := Lib.hid hL; clear hL
  go_enter Tryd.func6, Tryd.ntmps6
  go_wp2_with fail
  refine (number_any s w hs).mono ?_
  rintro e w' ⟨rfl, rfl⟩
  go_wp2_with fail
  refine (refNumber_any s w hs).mono ?_
  rintro e w' ⟨rfl, rfl⟩
  go_wp2_with fail
  refine (wakes_any w HL.out).mono ?_
  rintro e w1 ⟨rfl, hb⟩
  have HB := Lib.hid hb; clear hb
  go_wp2
  go_ret
  exact ⟨rfl, HB.out⟩

theorem dec_len' : ∀ (k u : Nat), u < 10 ^ (k + 1) → (Lib.decDigits u).length ≤ k + 1
  | 0, u, h => by rw [dec_small (by simpa using h)]; simp
  | k + 1, u, h => by
    by_cases h2 : u < 10
    · rw [dec_small h2]; simp
    · rw [dec_big h2]
      have := dec_len' k (u / 10) (by rw [Nat.div_lt_iff_lt_mul (by decide)]; rw [Nat.pow_succ] at h; exact h)
      simp; omega

theorem itoa_len20 (n : Int) (h0 : -9223372036854775808 ≤ n) (h1 : n ≤ 9223372036854775807) : (Lib.itoa n).length ≤ 21 := by
  unfold Lib.itoa
  split
  · have := dec_len' 19 n.natAbs (by omega)
    simp; omega
  · have := dec_len' 19 n.toNat (by omega)
    omega

theorem dec_headD (u : Nat) : (Lib.decDigits u).head? ≠ some 45 := by
  obtain ⟨c, r, e, hc⟩ := dec_head_digit u
  rw [e]
  intro h
  injection h with h
  subst h
  revert hc; decide

theorem dec_isEmpty (u : Nat) : (Lib.decDigits u).isEmpty = false := List.isEmpty_eq_false_iff.2 (dec_ne u)

theorem okN_dec {l : List UInt8} {u : Nat} (h : l.drop (fOf l) = Lib.decDigits u) (h0 : u = 0 → l.length = 1) : okN l = true ∧ valN l = u := by
  refine ⟨?_, by unfold valN; rw [h, valD_dec]⟩
  unfold okN
  rw [h, dec_isEmpty, List.all_eq_true.2 (dec_all u)]
  by_cases hu : u = 0
  · simp [h0 hu]
  · rw [beq_eq_false_iff_ne.2 (dec_head u hu)]; rfl

theorem numP_itoa (n : Int) : numP (Lib.itoa n) = if -1099511627776 ≤ n ∧ n ≤ 1099511627776 then (n, 0) else (0, 5) := by
  unfold Lib.itoa
  by_cases hn : n < 0
  · rw [if_pos hn]
    have h45 : (45 :: Lib.decDigits n.natAbs).head? = some (45 : UInt8) := rfl
    have hf : fOf (45 :: Lib.decDigits n.natAbs) = 1 := by unfold fOf; rw [if_pos h45]
    obtain ⟨h1, h2⟩ := okN_dec (l := 45 :: Lib.decDigits n.natAbs) (u := n.natAbs) (by rw [hf]; rfl) (by omega)
    by_cases hr : -1099511627776 ≤ n ∧ n ≤ 1099511627776
    · rw [if_pos hr, numP_neg h1 (by rw [h2]; omega) h45, h2]
      congr 1; omega
    · rw [if_neg hr, numP_range h1 (by rw [h2]; omega)]
  · rw [if_neg hn]
    have hne := dec_headD n.toNat
    have hf : fOf (Lib.decDigits n.toNat) = 0 := by unfold fOf; rw [if_neg hne]
    obtain ⟨h1, h2⟩ := okN_dec (l := Lib.decDigits n.toNat) (u := n.toNat) (by rw [hf]; rfl) (by intro e; rw [e, dec_zero]; rfl)
    by_cases hr : -1099511627776 ≤ n ∧ n ≤ 1099511627776
    · rw [if_pos hr, numP_pos h1 (by rw [h2]; omega) hne, h2]
      congr 1; omega
    · rw [if_neg hr, numP_range h1 (by rw [h2]; omega)]

theorem digits_law (n : Int) (w : World) (h0 : -9223372036854775808 ≤ n) (h1 : n ≤ 9223372036854775807) (hL : Laid w) :
    Calls Tryd.prog 7 #[.int .i64 n] w fun e w' => e = .returned (.bool true) ∧ Below w.heap.size w w' := by
  have HL := Lib.hid hL; clear hL
  have hlen := itoa_len20 n h0 h1
  obtain ⟨S, hS⟩ : ∃ S : ByteArray, S = ⟨(Lib.itoa n).toArray⟩ := ⟨_, rfl⟩
  have hSl : S.data.toList = Lib.itoa n := by rw [hS]
  have hSs : S.size ≤ 281474976710656 := by rw [Lib.size_eq, hSl]; omega
  have hnum := numP_itoa n
  rw [← hSl] at hnum
  have HS := Lib.hid hS; clear hS hSl hlen
  by_cases hr : -1099511627776 ≤ n ∧ n ≤ 1099511627776
  · rw [if_pos hr] at hnum
    have HN := Lib.hid hnum; clear hnum
    obtain ⟨hr1, hr2⟩ := hr
    go_enter Tryd.func7, Tryd.ntmps7
    go_wp2_with fail
    refine (digits_any n w h0 h1 HL.out).mono ?_
    rintro e w1 ⟨rfl, hb1⟩
    rw [← HS.out]
    have HB1 := Lib.hid hb1; clear hb1
    go_wp2_with fail
    refine (number_any S w1 hSs).mono ?_
    rintro e w' ⟨rfl, rfl⟩
    rw [HN.out]
    go_wp2_with fail
    refine (wakes_any w1 (HL.out.below HB1.out)).mono ?_
    rintro e w2 ⟨rfl, hb2⟩
    have HB2 := Lib.hid hb2; clear hb2
    go_wp2_with fail
    refine (ref2Digits_any n w2 h0 h1).mono ?_
    rintro e w3 ⟨rfl, hb3⟩
    rw [← HS.out]
    have HB3 := Lib.hid hb3; clear hb3
    go_wp2
    go_ret
    exact ⟨rfl, (HB1.out.trans (HB2.out.mono HB1.out.size)).trans (HB3.out.mono (Nat.le_trans HB1.out.size HB2.out.size))⟩
  · rw [if_neg hr] at hnum
    have HN := Lib.hid hnum; clear hnum
    rcases (show n < -1099511627776 ∨ (-1099511627776 ≤ n ∧ 1099511627776 < n) by omega) with hr1 | ⟨hr1, hr2⟩
    all_goals
      clear hr
      go_enter Tryd.func7, Tryd.ntmps7
      go_wp2_with fail
      refine (digits_any n w h0 h1 HL.out).mono ?_
      rintro e w1 ⟨rfl, hb1⟩
      rw [← HS.out]
      have HB1 := Lib.hid hb1; clear hb1
      go_wp2_with fail
      refine (number_any S w1 hSs).mono ?_
      rintro e w' ⟨rfl, rfl⟩
      rw [HN.out]
      go_wp2_with fail
      refine (wakes_any w1 (HL.out.below HB1.out)).mono ?_
      rintro e w2 ⟨rfl, hb2⟩
      have HB2 := Lib.hid hb2; clear hb2
      go_wp2_with fail
      refine (ref2Digits_any n w2 h0 h1).mono ?_
      rintro e w3 ⟨rfl, hb3⟩
      rw [← HS.out]
      have HB3 := Lib.hid hb3; clear hb3
      go_wp2
      go_ret
      exact ⟨rfl, (HB1.out.trans (HB2.out.mono HB1.out.size)).trans (HB3.out.mono (Nat.le_trans HB1.out.size HB2.out.size))⟩
end Go.Proofs.YtjjfmffmcchlmaaDoor
