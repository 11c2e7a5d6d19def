/- Layer 15: the document's sum, walked. -/
import Derived.Test.YtlbhkendbngmaaaProg
import Derived.ProofKit
import Derived.Below
import Derived.Lib.Hide
import Derived.Lib.AtoiTie
import Derived.Lib.Strings
import Derived.Scope
import Derived.ScopeJumps
import Derived.WalkMore
import Derived.WalkKit
import Derived.WalkSpells
import Derived.WalkLawsBesides
import Derived.Test.YtlbhkendbngmaaaCa
import Derived.Laws.BitsAllLaws
namespace Go.Proofs.Ytlbhkendbngmaaa
open Go.RowKit
set_option maxRecDepth 100000

theorem at_list (s : ByteArray) (k : Nat) (_h : k < s.size) (h' : k < s.data.toList.length) : s.data.toList[k] = s[k] := by simp; rfl
theorem ret_u32 {a b : Nat} (h : a = b) : Ending.returned (.int .u32 (a : Int)) = .returned (.int .u32 (b : Int)) := by rw [h]
theorem crc_snoc {n : Nat} {l : List UInt8} {j : Nat} (hj : j < l.length) : crcC n (l.take (j + 1)) = byteC (crcC n (l.take j)) l[j] := by
  rw [List.take_succ_eq_append_getElem hj, crc_app]; rfl
set_option maxHeartbeats 1600000 in
theorem refSumOf_any (s : ByteArray) (w : World) (hs : s.size ≤ 4611686018427387904) :
    Calls Try.prog 59 #[.string s] w fun e w' => e = .returned (.int .u32 (sumC s.data.toList : Nat)) ∧ w = w' := by
  have hl : s.data.toList.length = s.size := (Lib.size_eq s).symm
  have HL := Lib.hid hl
  clear hl
  go_enter Try.func59, Try.ntmps59
  go_wp2
  go_loop [3, 4, 5] (fun x3 i _ => ∃ j : Nat, j ≤ s.size ∧ i = .int .i64 j ∧ x3 = .int .u32 (crcC onesC (s.data.toList.take j) : Nat)) (fun _ i _ => s.size - (intOf i).toNat)
  case atStart => exact ⟨0, by omega, rfl, rfl⟩
  case round =>
    obtain ⟨j, hj, rfl, rfl⟩ := hrel
    have hn : crcC onesC (s.data.toList.take j) < 2 ^ 32 := crcC_lt _ (by decide)
    by_cases hlt : j < s.size
    · have hge : s.data.toList[j]'(by rw [HL.out]; exact hlt) = s[j] := at_list s j hlt _
      have hst := crc_snoc (n := onesC) (l := s.data.toList) (j := j) (by rw [HL.out]; exact hlt)
      rw [hge] at hst
      have hb := byte_lt8 s[j]
      generalize crcC onesC (s.data.toList.take j) = n at *
      have hx : bits .xor .u32 (n : Int) ((s[j].toNat : Nat) : Int) = ((n ^^^ s[j].toNat : Nat) : Int) := u32_xor_nat _ _ (by omega) (by omega)
      have hn2 : n ^^^ s[j].toNat < 2 ^ 32 := Nat.xor_lt_two_pow hn (by omega)
      have HST : Hid (steps (8 - 0) (n ^^^ s[j].toNat) = crcC onesC (s.data.toList.take (j + 1))) := hst.symm
      clear hst hge
      obtain ⟨R, hR⟩ : ∃ x, crcC onesC (s.data.toList.take (j + 1)) = x := ⟨_, rfl⟩
      have HR := Lib.hid hR
      rw [hR] at HST
      clear hR
      go_wp2
      go_loop [3, 5] (fun x3 x5 => ∃ q m : Nat, q ≤ 8 ∧ x5 = .int .i64 q ∧ x3 = .int .u32 m ∧ m < 2 ^ 32 ∧ Hid (steps (8 - q) m = R)) (fun _ x => 8 - (intOf x).toNat)
      case atStart => exact ⟨0, _, by omega, rfl, rfl, hn2, HST⟩
      case round =>
        clear HST hx
        obtain ⟨q, m, hq, rfl, rfl, hm, HS⟩ := hrel
        have hm2 : m < 4294967296 := hm
        by_cases hq8 : q < 8
        · have hq9 : (q : Int) < 8 := by omega
          have hs := HS.out
          rw [show 8 - q = (8 - (q + 1)) + 1 by omega] at hs
          have hs2 : steps (8 - (q + 1)) (stepC m) = R := hs
          by_cases ho : m % 2 = 1
          · have hx : bits .xor .u32 ((m : Int) / 2) 3988292384 = ((stepC m : Nat) : Int) := by
              unfold stepC
              rw [if_pos ho]
              exact u32_xor_nat (m / 2) 3988292384 (by omega) (by decide)
            have hl : stepC m < 2 ^ 32 := step_lt hm
            have HS2 := Lib.hid hs2
            have ho2 : (m : Int) % 2 = 1 := by omega
            generalize stepC m = M2 at *
            clear hs hs2 HS ho
            go_wp2
            go_round
            case rel => exact ⟨q + 1, M2, by omega, by go_num, rfl, hl, HS2⟩
            case measure => simp [intOf]; omega
          · have hs3 : stepC m = m / 2 := if_neg ho
            rw [hs3] at hs2
            have HS2 := Lib.hid hs2
            have hl : m / 2 < 2 ^ 32 := by omega
            have ho2 : (m : Int) % 2 = 0 := by omega
            clear hs hs2 HS ho hs3
            go_wp2
            go_round
            case rel => exact ⟨q + 1, m / 2, by omega, by go_num, rfl, hl, HS2⟩
            case measure => simp [intOf]; omega
        · obtain rfl : 8 = q := by omega
          have hs : m = R := HS.out
          subst hs
          clear HS hm hq
          go_wp2
          go_round
          case rel => exact ⟨j + 1, by omega, by go_num, by rw [HR.out]⟩
          case measure => simp [intOf]; omega
    · obtain rfl : s.size = j := by omega
      have hx : bits .xor .u32 ((crcC onesC (s.data.toList.take s.size) : Nat) : Int) 4294967295 = ((sumC s.data.toList : Nat) : Int) := by
        rw [List.take_of_length_le (by rw [HL.out]; exact Nat.le_refl _)] at hn ⊢
        exact u32_xor_nat _ 4294967295 (by omega) (by decide)
      go_wp2
      go_ret
      exact ⟨rfl, rfl⟩
end Go.Proofs.Ytlbhkendbngmaaa
