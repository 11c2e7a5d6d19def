/- Layer 16: the reader: a number of eight bytes, a place, the end. -/
import Derived.Test.YtlbhkendbngmaaaJl
namespace Go.Proofs.Ytlbhkendbngmaaa.Wi
open Go.RowKit
set_option maxRecDepth 100000

theorem word_snoc : ∀ (l : Bytes) (b : UInt8), wordL (l ++ [b]) = wordL l + 256 ^ l.length * b.toNat
  | [], b => by rw [List.nil_append, word_cons]; show 256 * 0 + b.toNat = 0 + 1 * b.toNat; omega
  | c :: l, b => by
    rw [List.cons_append, word_cons, word_cons, word_snoc l b, List.length_cons, Nat.pow_succ, Nat.mul_add, ← Nat.mul_assoc, Nat.mul_comm (256 ^ l.length) 256]
    omega
theorem word_bound (l : Bytes) : wordL l < 256 ^ l.length := by
  have := word_lt l
  rw [Nat.pow_mul] at this
  exact this
theorem word_or (l : Bytes) (b : UInt8) (h : l.length < 8) : bits .or .u64 ((wordL l : Nat) : Int) (((256 ^ l.length * b.toNat : Nat)) : Int) = ((wordL (l ++ [b]) : Nat) : Int) := by
  have h1 := word_bound l
  have h2 := byte_lt8 b
  have h3 : 256 ^ l.length * b.toNat ≤ 256 ^ 7 * 255 := Nat.mul_le_mul (Nat.pow_le_pow_right (by decide) (by omega)) (by omega)
  have h4 : 256 ^ l.length ≤ 256 ^ 7 := Nat.pow_le_pow_right (by decide) (by omega)
  rw [u64_or_nat _ _ (by omega) (by omega), word_snoc, Nat.or_comm, nat_join (8 * l.length) (256 ^ l.length * b.toNat) (wordL l) (by rw [Nat.pow_mul]; exact Nat.mul_mod_right _ _) (by rw [Nat.pow_mul]; exact h1), Nat.add_comm]
set_option maxHeartbeats 1000000 in
theorem eight_r {g : Nat} {s : Bytes} {w : World} (h : RB g s w) (hs : s.length ≤ 4611686018427387904) :
    Calls Try.prog 48 #[wp_ g] w fun e w' => Got g s numP (fun x v _ => v = .int .u64 (x : Nat) ∧ x < 18446744073709551616) w e w' := by
  have HT := Lib.hid (take_any h 8 hs (by decide))
  unfold wp_ at *
  clear h
  go_enter Try.func48, Try.ntmps48
  go_wp2_with fail
  refine HT.out.mono ?_
  intro e w1 h1
  rcases h1.split with ⟨l, r, v, hp, rfl, rfl, hr, hg⟩ | ⟨hp, rfl, hg⟩
  · have hl : l.length = 8 := ((take_reads 8).only s l r hp).1
    have hN : numP s = some (wordL l, r) := by unfold numP mapP; rw [hp]
    have hb64 := word_lt8 hl
    have HN := Lib.hid hN; have HR := Lib.hid hr; have HG := Lib.hid hg; have HB := Lib.hid hb64
    have HL := Lib.hid hl
    clear h1 hp hr hg hN hb64 HT hl
    have hcv := run_bytes_of_string (P := Try.prog) w1 9 53 5 ⟨l.toArray⟩ Try.underlying9 Try.underlying53 Try.underlying5
    obtain ⟨C, hC⟩ : ∃ C, C = grownCap w1 (⟨l.toArray⟩ : ByteArray).size 0 5 := ⟨_, rfl⟩
    rw [← hC] at hcv
    have hrow := fun j hj => bytesRow_at ⟨l.toArray⟩ C j hj
    generalize bytesRow ⟨l.toArray⟩ C = R at *
    obtain ⟨W, hW⟩ : ∃ W, W = w1.drew.alloc (.cells R 5 (R.size, R.size + 1)) := ⟨_, rfl⟩
    rw [← hW, show (⟨l.toArray⟩ : ByteArray).size = 8 from HL.out] at hcv
    have hWb : Below w1.heap.size w1 W := by rw [hW]; exact ((Below.refl _ _).alloc (Nat.le_refl _) _).drew
    have hcell : ∀ j (h : j < l.length), W.cell? ⟨w1.heap.size, j, none⟩ = some (.int .u8 (l[j].toNat : Nat)) := fun j h => by
      rw [hW]
      exact (cell_of_row (w1.drew.alloc (.cells R 5 (R.size, R.size + 1))) w1.heap.size j _ _ _ (heap_alloc_new w1.drew _)).trans (hrow j h)
    have HCL := Lib.hid hcell
    have HWB := Lib.hid (grown_trans HG.out (grown_below hWb (some g)))
    have HRW := Lib.hid (HR.out.below hWb)
    clear hcell hWb hW hrow hC
    generalize w1.heap.size = K at *
    unfold bstr
    go_upto_region 3 with fail
    go_wp2
    go_loop [3, 4, 5, 10] (fun x3 _ _ x10 => ∃ i : Nat, i ≤ 8 ∧ x10 = .int .i64 i ∧ x3 = .int .u64 (wordL (l.take i) : Nat)) (fun _ _ _ x => 8 - (intOf x).toNat)
    case atStart => exact ⟨0, by omega, rfl, rfl⟩
    case round =>
      obtain ⟨i, hi, rfl, rfl⟩ := hrel
      by_cases hi8 : i < 8
      · have hil : i < l.length := by rw [HL.out]; exact hi8
        have hc := HCL.out i hil
        have ht : l.take (i + 1) = l.take i ++ [l[i]] := List.take_succ_eq_append_getElem hil
        have hor := word_or (l.take i) l[i] (by rw [List.length_take]; omega)
        rw [← ht, show (l.take i).length = i by rw [List.length_take]; omega] at hor
        have hb8 := byte_lt8 l[i]
        have hpw : 256 ^ i * l[i].toNat ≤ 256 ^ 7 * 255 := Nat.mul_le_mul (Nat.pow_le_pow_right (by decide) (by omega)) (by omega)
        generalize l[i] = B at *
        have hm : IntKind.i64.wrap (8 * (i : Int)) = ((8 * i : Nat) : Int) := by rw [IntWalk.i64_in _ (by omega)]; omega
        have hi9 : (i : Int) < 8 := by omega
        have hsl : IntKind.u64.wrap ((B.toNat : Int) * 2 ^ (8 * i)) = ((256 ^ i * B.toNat : Nat) : Int) := by
          have e : (B.toNat : Int) * 2 ^ (8 * i) = ((256 ^ i * B.toNat : Nat) : Int) := by
            rw [Int.pow_mul]
            push_cast
            exact Int.mul_comm _ _
          rw [e]
          generalize 256 ^ i * B.toNat = z at *
          simp [IntKind.wrap, IntKind.bits, IntKind.signed]
          omega
        clear ht
        go_wp2
        go_round
        case rel => exact ⟨i + 1, by omega, by go_num, by rw [show ((256 : Int) ^ i * (B.toNat : Int)) = ((256 ^ i * B.toNat : Nat) : Int) by push_cast; rfl, hor]⟩
        case measure => simp [intOf]; omega
      · obtain rfl : 8 = i := by omega
        rw [List.take_of_length_le (by rw [HL.out]; exact Nat.le_refl _)]
        go_wp2
        go_ret
        exact Got.some HN.out HWB.out ⟨rfl, HB.out⟩ HRW.out
  · have hN : numP s = none := by unfold numP mapP; rw [hp]
    exact ⟨rfl, Got.none hN hg⟩
end Go.Proofs.Ytlbhkendbngmaaa.Wi
