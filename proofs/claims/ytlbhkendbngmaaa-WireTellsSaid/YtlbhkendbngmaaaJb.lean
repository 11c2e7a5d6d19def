/- Layer 15 as the program has it: a sum's four bytes, Seal, Open. -/
import Derived.Test.YtlbhkendbngmaaaJa
import Derived.Test.YtlbhkendbngmaaaCc
namespace Go.Proofs.Ytlbhkendbngmaaa
open Go.RowKit
set_option maxRecDepth 100000

def tbB (n q j : Nat) : Value := if j < q then .int .u8 ((n / 256 ^ j % 256 : Nat) : Int) else .int .u8 0
def tbW (n q : Nat) : Array Value := #[tbB n q 0, tbB n q 1, tbB n q 2, tbB n q 3]
theorem tb_set (n q : Nat) (hq : q < 4) : (tbW n q).setIfInBounds q (.int .u8 ((n / 256 ^ q % 256 : Nat) : Int)) = tbW n (q + 1) := by
  rcases (show q = 0 ∨ q = 1 ∨ q = 2 ∨ q = 3 by omega) with rfl | rfl | rfl | rfl <;> rfl
theorem tb_at (n q : Nat) (hq : q < 4) : (tbW n q)[q]? = some (tbB n q q) := by
  rcases (show q = 0 ∨ q = 1 ∨ q = 2 ∨ q = 3 by omega) with rfl | rfl | rfl | rfl <;> rfl
theorem le_at (n j : Nat) (hj : j < 4) : (leC n)[j]? = some (UInt8.ofNat (n / 256 ^ j % 256)) := by
  rcases (show j = 0 ∨ j = 1 ∨ j = 2 ∨ j = 3 by omega) with rfl | rfl | rfl | rfl
  · show some (UInt8.ofNat (n % 256)) = some (UInt8.ofNat (n / 1 % 256)); rw [Nat.div_one]
  · rfl
  · rfl
  · rfl
theorem tb_end (n j : Nat) (hj : j < 4) : tbB n 4 j = .int .u8 ((((leC n)[j]'(by rw [le_len]; exact hj)).toNat : Nat) : Int) := by
  have h := le_at n j hj
  rw [List.getElem?_eq_getElem (by rw [le_len]; exact hj)] at h
  rw [Option.some.inj h, UInt8.toNat_ofNat']
  unfold tbB
  rw [if_pos hj]
  rw [show n / 256 ^ j % 256 % 2 ^ 8 = n / 256 ^ j % 256 by omega]
set_option maxHeartbeats 1600000 in
theorem text_any (n : Nat) (_hn : n < 2 ^ 32) (w : World) :
    Calls Try.prog 57 #[.int .u32 (n : Int)] w fun e w' => e = .returned (.string ⟨(leC n).toArray⟩) ∧ w' = w.alloc (.cells (tbW n 4) 50) := by
  have hkc : ∀ w1 : World, w1 = w.alloc (.cells (tbW n 4) 50) → Sem.run Try.prog (convert 53 9 (.slice (some ⟨w.heap.size, 0, none⟩) 4 4)) w1 = .ok (.string ⟨(leC n).toArray⟩) w1 := fun w1 h1 => by
    refine run_convert_bytes_back _ _ _ 5 ⟨w.heap.size, 0, none⟩ 4 (leC n) Try.underlying53 Try.underlying5 Try.underlying9 (fun j hj => ?_)
    have hj4 : j < 4 := by rw [le_len] at hj; exact hj
    subst h1
    have := tb_end n j hj4
    rw [← this]
    clear this
    rcases (show j = 0 ∨ j = 1 ∨ j = 2 ∨ j = 3 by omega) with rfl | rfl | rfl | rfl <;> simp [Addr.add, tbW]
  have HK := Lib.hid hkc
  clear hkc
  go_enter Try.func57, Try.ntmps57
  go_wp2
  go_loopw [4, 5] (fun _ x5 wr => ∃ q : Nat, q ≤ 4 ∧ x5 = .int .i64 q ∧ wr = w.alloc (.cells (tbW n q) 50)) (fun _ x _ => 4 - (intOf x).toNat)
  case atStart => exact ⟨0, by omega, rfl, rfl⟩
  case round =>
    obtain ⟨q, hq, rfl, rfl⟩ := hrel
    by_cases hq4 : q < 4
    · have hset := tb_set n q hq4
      have hat := tb_at n q hq4
      have hq9 : (q : Int) < 4 := by omega
      have hm : IntKind.i64.wrap (8 * (q : Int)) = ((8 * q : Nat) : Int) := by rw [IntWalk.i64_in _ (by omega)]; omega
      have hsh : (n : Int) / 2 ^ min (8 * q) 32 % 256 = ((n / 256 ^ q % 256 : Nat) : Int) := by
        rw [Nat.min_eq_left (by omega), Int.pow_mul]
        push_cast
        rfl
      have HS := Lib.hid hset
      clear hset
      generalize tbW n q = A0 at *
      go_wp2
      go_roundw
      case rel => exact ⟨q + 1, by omega, by go_num, by rw [← HS.out, ← hsh, Nat.min_eq_left (by omega)]⟩
      case measure => simp [intOf]; omega
    · obtain rfl : 4 = q := by omega
      have hk := HK.out _ rfl
      go_wp2
      go_ret
      exact ⟨rfl, rfl⟩
theorem low256 (n : Nat) : (leC n).length = 4 := rfl
set_option maxHeartbeats 1600000 in
theorem seal_any (s : ByteArray) (w : World) (hs : s.size ≤ 4611686018427387) :
    Calls Try.prog 35 #[.string s] w fun e w' => e = .returned (.string ⟨(sealC s.data.toList).toArray⟩) ∧ Below w.heap.size w w' := by
  have HR := Lib.hid (fun w => reckoned_any s w (by omega))
  have HT : Hid (∀ w : World, Calls Try.prog 57 #[.int .u32 (sumC s.data.toList : Nat)] w fun e w' => e = .returned (.string ⟨(leC (sumC s.data.toList)).toArray⟩) ∧ Below w.heap.size w w') :=
    Lib.hid (fun w => (text_any (sumC s.data.toList) (sumC_lt _) w).mono (fun e w' h => ⟨h.1, by rw [h.2]; exact (Below.refl _ _).alloc (Nat.le_refl _) _⟩))
  have HSE : Hid (sealC s.data.toList = s.data.toList ++ leC (sumC s.data.toList)) := rfl
  have hl : (leC (sumC s.data.toList)).length = 4 := le_len _
  generalize sumC s.data.toList = N at *
  generalize leC N = X at *
  have hx : (⟨X.toArray⟩ : ByteArray).size = 4 := hl
  have HX : Hid ((⟨X.toArray⟩ : ByteArray).data.toList = X) := rfl
  generalize (⟨X.toArray⟩ : ByteArray) = Y at *
  have hsum : (s.size : Int) + (Y.size : Int) ≤ 9223372036854775807 := by omega
  clear hl
  go_enter Try.func35, Try.ntmps35
  go_wp2_with fail
  refine (HR.out _).mono ?_
  rintro e w1 ⟨rfl, rfl⟩
  go_wp2_with fail
  refine (HT.out _).mono ?_
  rintro e w1 ⟨rfl, hb⟩
  have HB := Lib.hid hb
  clear hb
  go_wp2
  go_ret
  refine ⟨?_, HB.out⟩
  rw [HSE.out]
  refine ret_str ?_
  rw [ByteArray.data_append, Array.toList_append, HX.out]
end Go.Proofs.Ytlbhkendbngmaaa
