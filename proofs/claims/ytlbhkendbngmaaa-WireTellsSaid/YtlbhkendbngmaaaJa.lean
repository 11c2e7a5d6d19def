/- Layer 15 as the program has it: eight halvings, the sum, its four bytes. -/
import Derived.Test.YtlbhkendbngmaaaCb
import Derived.Laws.IdiomStrings
import Derived.Laws.BytesString
import Derived.Laws.ShiftsVarLaws
namespace Go.Proofs.Ytlbhkendbngmaaa
open Go.RowKit
set_option maxRecDepth 100000

set_option maxHeartbeats 1600000 in
theorem eight_any (n : Nat) (hn : n < 2 ^ 32) (w : World) :
    Calls Try.prog 65 #[.int .u32 (n : Int)] w fun e w' => e = .returned (.int .u32 (steps 8 n : Nat)) ∧ w = w' := by
  obtain ⟨R, hR⟩ : ∃ R, steps 8 n = R := ⟨_, rfl⟩
  have HST : Hid (steps (8 - 0) n = R) := hR
  rw [hR]
  clear hR
  go_enter Try.func65, Try.ntmps65
  go_wp2
  go_loop [0, 3, 4] (fun x0 _ x4 => ∃ q m : Nat, q ≤ 8 ∧ x4 = .int .i64 q ∧ x0 = .int .u32 m ∧ m < 2 ^ 32 ∧ Hid (steps (8 - q) m = R)) (fun _ _ x => 8 - (intOf x).toNat)
  case atStart => exact ⟨0, n, by omega, rfl, rfl, hn, HST⟩
  case round =>
    clear HST hn
    obtain ⟨q, m, hq, rfl, rfl, hm, HS⟩ := hrel
    have hm2 : m < 4294967296 := hm
    have hx1 : bits .and .u32 (m : Int) 1 = ((m % 2 : Nat) : Int) := by
      have := u32_and_nat m 1 (by omega) (by decide)
      rw [nat_mask1] at this
      exact this
    by_cases hq8 : q < 8
    · have hq9 : (q : Int) < 8 := by omega
      have hs := HS.out
      rw [show 8 - q = (8 - (q + 1)) + 1 by omega] at hs
      have hs2 : steps (8 - (q + 1)) (stepC m) = R := hs
      by_cases ho : m % 2 = 1
      · have hx : bits .xor .u32 ((m : Int) / 2) 3988292384 = ((stepC m : Nat) : Int) := by
          unfold stepC
          rw [if_pos ho]
          exact u32_xor_nat (m / 2) 3988292384 (by omega) (by decide)
        have hl : stepC m < 2 ^ 32 := step_lt hm
        have HS2 := Lib.hid hs2
        have ho2 : (m : Int) % 2 = 1 := by omega
        generalize stepC m = M2 at *
        clear hs hs2 HS ho
        go_wp2
        go_round
        case rel => exact ⟨q + 1, M2, by omega, by go_num, rfl, hl, HS2⟩
        case measure => simp [intOf]; omega
      · have hs3 : stepC m = m / 2 := if_neg ho
        rw [hs3] at hs2
        have HS2 := Lib.hid hs2
        have hl : m / 2 < 2 ^ 32 := by omega
        have ho2 : (m : Int) % 2 = 0 := by omega
        clear hs hs2 HS ho hs3
        go_wp2
        go_round
        case rel => exact ⟨q + 1, m / 2, by omega, by go_num, rfl, hl, HS2⟩
        case measure => simp [intOf]; omega
    · obtain rfl : 8 = q := by omega
      have hs : m = R := HS.out
      subst hs
      clear HS hm hq
      go_wp2
      go_ret
      exact ⟨rfl, rfl⟩
set_option maxHeartbeats 1600000 in
theorem reckoned_any (s : ByteArray) (w : World) (hs : s.size ≤ 4611686018427387904) :
    Calls Try.prog 58 #[.string s] w fun e w' => e = .returned (.int .u32 (sumC s.data.toList : Nat)) ∧ w = w' := by
  have hl : s.data.toList.length = s.size := (Lib.size_eq s).symm
  have HL := Lib.hid hl
  clear hl
  have HE : Hid (∀ (n : Nat), n < 2 ^ 32 → ∀ w : World, Calls Try.prog 65 #[.int .u32 (n : Int)] w fun e w' => e = .returned (.int .u32 (steps 8 n : Nat)) ∧ w = w') := eight_any
  go_enter Try.func58, Try.ntmps58
  go_wp2
  go_loop [3, 4, 7] (fun x3 _ i => ∃ j : Nat, j ≤ s.size ∧ i = .int .i64 j ∧ x3 = .int .u32 (crcC onesC (s.data.toList.take j) : Nat)) (fun _ _ i => s.size - (intOf i).toNat)
  case atStart => exact ⟨0, by omega, rfl, rfl⟩
  case round =>
    obtain ⟨j, hj, rfl, rfl⟩ := hrel
    have hn : crcC onesC (s.data.toList.take j) < 2 ^ 32 := crcC_lt _ (by decide)
    by_cases hlt : j < s.size
    · have hge : s.data.toList[j]'(by rw [HL.out]; exact hlt) = s[j] := at_list s j hlt _
      have hst := crc_snoc (n := onesC) (l := s.data.toList) (j := j) (by rw [HL.out]; exact hlt)
      rw [hge] at hst
      have hb := byte_lt8 s[j]
      generalize crcC onesC (s.data.toList.take j) = n at *
      have hx : bits .xor .u32 (n : Int) ((s[j].toNat : Nat) : Int) = ((n ^^^ s[j].toNat : Nat) : Int) := u32_xor_nat _ _ (by omega) (by omega)
      have hn2 : n ^^^ s[j].toNat < 2 ^ 32 := Nat.xor_lt_two_pow hn (by omega)
      have HN := Lib.hid hn2
      have HST := Lib.hid hst
      clear hst hge
      go_wp2_with fail
      refine (HE.out _ HN.out _).mono ?_
      rintro e w1 ⟨rfl, rfl⟩
      go_wp2
      go_round
      case rel => exact ⟨j + 1, by omega, by go_num, by rw [HST.out]; rfl⟩
      case measure => simp [intOf]; omega
    · obtain rfl : s.size = j := by omega
      have hx : bits .xor .u32 IntKind.u32.max ((crcC onesC (s.data.toList.take s.size) : Nat) : Int) = ((sumC s.data.toList : Nat) : Int) := by
        rw [List.take_of_length_le (by rw [HL.out]; exact Nat.le_refl _)] at hn ⊢
        rw [show sumC s.data.toList = 4294967295 ^^^ crcC onesC s.data.toList from Nat.xor_comm _ _]
        exact u32_xor_nat 4294967295 _ (by decide) (by omega)
      go_wp2
      go_ret
      exact ⟨rfl, rfl⟩
end Go.Proofs.Ytlbhkendbngmaaa
