/- words.Digits, the document's Digits (packages quintainref01, quintainref02); Number of what is told. -/
import Derived.Test.YtfgocdeaanalgaaDoorN4
import Derived.Test.YtfgocdeaanalgaaDoorShelf
import Derived.Lib.AppendIntMem
import Derived.Laws.IdiomStrings
import Derived.Laws.Concat
namespace Go.Proofs.YtfgocdeaanalgaaDoor
open Go.RowKit

/-- the library's table lies where start-up laid it -/
def Laid (w : World) : Prop := Lib.TabIs Tryd.prog w "internal/strconv.uint64pow10" .u64 Lib.pow10Tab
theorem gTab : Tryd.prog.globalNamed "internal/strconv.uint64pow10" = some 1 := by kernel_rfl
theorem var_lt {w : World} {n : String} {g : Nat} {cs : Array Value} (hg : Tryd.prog.globalNamed n = some g) (h : w.var? Tryd.prog n = some cs) : g < w.heap.size := by
  unfold World.var? at h
  simp only [hg, Option.bind_some] at h
  rcases Nat.lt_or_ge g w.heap.size with h' | h'
  · exact h'
  · rw [Array.getElem?_eq_none h'] at h; cases h
theorem Laid.below {w w' : World} (h : Laid w) (hb : Below w.heap.size w w') : Laid w' := var?_below hb gTab (var_lt gTab h) h

theorem digits_any (n : Int) (w : World) (h0 : -9223372036854775808 ≤ n) (h1 : n ≤ 9223372036854775807) (hL : Laid w) :
    Calls Tryd.prog 28 #[.int .i64 n] w fun e w' => e = .returned (.string ⟨(Lib.itoa n).toArray⟩) ∧ Below w.heap.size w w' := by
  have HL := Lib.hid hL; clear hL
  go_enter Tryd.func28, Tryd.ntmps28
  go_wp2_with fail
  refine (Tryd.strconv_FormatInt_10 n h0 h1 w HL.out).mono ?_
  rintro e w' ⟨rfl, hw⟩
  have HW : Hid (Below w.heap.size w w') := by
    obtain ⟨k, os, rfl⟩ := hw
    exact Lib.below_grow _ _ (Nat.le_refl _) _ _
  clear hw
  go_wp2
  go_ret
  exact ⟨rfl, HW.out⟩

def digB (d : Nat) : UInt8 := UInt8.ofNat (48 + d)
theorem digB_nat {d : Nat} (h : d < 10) : (digB d).toNat = 48 + d := digit_ofNat h
theorem bytes_join (l m : List UInt8) : (⟨l.toArray⟩ : ByteArray) ++ (⟨m.toArray⟩ : ByteArray) = ⟨(l ++ m).toArray⟩ := by
  apply ByteArray.ext
  simp
theorem ret_str {a b : ByteArray} (h : a = b) : Ending.returned (.string a) = .returned (.string b) := by rw [h]

theorem dec_len (u : Nat) : (Lib.decDigits u).length ≤ u / 4 + 1 := by
  induction u using Nat.strongRecOn with
  | _ u ih =>
    by_cases h : u < 10
    · rw [dec_small h]; simp
    · rw [dec_big h]
      have := ih (u / 10) (by omega)
      simp; omega

/-- one digit's text -/
theorem byte_conv (wr : World) (d : Nat) (hd : d < 10) : (convert 80 9 (.slice (some ⟨wr.heap.size, 0, none⟩) 1 1)).run Tryd.prog (wr.alloc (.cells #[.int .u8 (48 + (d : Int))] 5)) = .ok (.string ⟨[digB d].toArray⟩) (wr.alloc (.cells #[.int .u8 (48 + (d : Int))] 5)) := by
  refine run_convert_bytes_back _ _ _ 5 _ 1 [digB d] Tryd.underlying80 Tryd.underlying5 Tryd.underlying9 ?_
  intro j hj
  obtain rfl : j = 0 := by simp at hj; omega
  have := digB_nat hd
  have e : (48 + (d : Int)) = ((48 + d : Nat) : Int) := by omega
  rw [e]
  simp [Addr.add, this]

set_option maxRecDepth 100000 in
theorem unsigned_any (u : Nat) (w : World) (hu : u ≤ 18446744073709551615) :
    Calls Tryd.prog 53 #[.int .u64 u] w fun e w' => e = .returned (.string ⟨(Lib.decDigits u).toArray⟩) ∧ Below w.heap.size w w' := by
  have hlen := dec_len u
  go_enter Tryd.func53, Tryd.ntmps53
  go_wp2
  go_loopw [0, 3] (fun x t wr => ∃ (v : Nat) (l : List UInt8), v ≤ 18446744073709551615 ∧ Lib.decDigits v ++ l = Lib.decDigits u ∧ x = .int .u64 v ∧ t = .string ⟨l.toArray⟩ ∧ Below w.heap.size w wr) (fun x _ _ => (intOf x).toNat)
  case atStart => exact ⟨u, [], hu, by simp, rfl, rfl, Below.refl _ _⟩
  case round =>
    obtain ⟨v, l, hv, hd, rfl, rfl, hb⟩ := hrel
    have hll : l.length ≤ u / 4 + 1 := by
      have := congrArg List.length hd
      rw [List.length_append] at this; omega
    have hsum : ∀ d, ((⟨[digB d].toArray⟩ : ByteArray).size : Int) + ((⟨l.toArray⟩ : ByteArray).size : Int) ≤ 9223372036854775807 := by
      intro d
      show ((1 : Nat) : Int) + (l.toArray.size : Int) ≤ _
      rw [List.size_toArray]; omega
    have HD := Lib.hid hd; have HB := Lib.hid hb; clear hd hb
    by_cases h9 : v ≤ 9
    · have hcv := byte_conv wr v (by omega)
      have hs := hsum v
      clear hsum
      go_wp2
      go_ret
      refine ⟨ret_str ?_, HB.out.alloc HB.out.size _⟩
      have hd := HD.out
      rw [dec_small (by omega)] at hd
      rw [← hd]
      exact bytes_join [digB v] l
    · have hcv := byte_conv wr (v % 10) (by omega)
      have hs := hsum (v % 10)
      clear hsum
      have e : ((v % 10 : Nat) : Int) = (v : Int) % 10 := by omega
      rw [e] at hcv
      clear e
      go_wp2
      go_roundw
      case rel =>
        refine ⟨v / 10, digB (v % 10) :: l, by omega, ?_, by go_num, by rw [show digB (v % 10) :: l = [digB (v % 10)] ++ l from rfl, ← bytes_join], HB.out.alloc HB.out.size _⟩
        rw [← HD.out, dec_big (u := v) (by omega), List.append_assoc]; rfl
      case measure => simp [intOf]; omega

/-- the document's Digits of layer 1 -/
theorem ref1Digits_any (n : Int) (w : World) (h0 : -9223372036854775808 ≤ n) (h1 : n ≤ 9223372036854775807) :
    Calls Tryd.prog 46 #[.int .i64 n] w fun e w' => e = .returned (.string ⟨(Lib.itoa n).toArray⟩) ∧ Below w.heap.size w w' := by
  by_cases hn : n < 0
  · obtain ⟨m, hm⟩ : ∃ m : Nat, n = -(m : Int) - 1 := ⟨(-n - 1).toNat, by omega⟩
    have hi : Lib.itoa n = 45 :: Lib.decDigits (m + 1) := by
      unfold Lib.itoa
      rw [if_pos hn]
      congr 2; omega
    rw [hi]
    have e : n + 1 = -(m : Int) := by omega
    go_enter Tryd.func46, Tryd.ntmps46
    go_wp2_with fail
    refine (unsigned_any (m + 1) _ (by omega)).mono ?_
    rintro e w' ⟨rfl, hb⟩
    have HB := Lib.hid hb; clear hb
    have hs : ((⟨#[45]⟩ : ByteArray).size : Int) + ((⟨(Lib.decDigits (m + 1)).toArray⟩ : ByteArray).size : Int) ≤ 9223372036854775807 := by
      have := dec_len (m + 1)
      show ((1 : Nat) : Int) + (((Lib.decDigits (m + 1)).toArray.size : Nat) : Int) ≤ _
      rw [List.size_toArray]; omega
    go_wp2
    go_ret
    exact ⟨ret_str (bytes_join [45] _), HB.out⟩
  · obtain ⟨m, rfl⟩ : ∃ m : Nat, n = (m : Int) := ⟨n.toNat, by omega⟩
    have hi : Lib.itoa (m : Int) = Lib.decDigits m := by
      unfold Lib.itoa
      rw [if_neg hn]; rfl
    rw [hi]
    go_enter Tryd.func46, Tryd.ntmps46
    go_wp2_with fail
    refine (unsigned_any m _ (by omega)).mono ?_
    rintro e w' ⟨rfl, hb⟩
    have HB := Lib.hid hb; clear hb
    go_wp2
    go_ret
    exact ⟨rfl, HB.out⟩

theorem ref2Digits_any (n : Int) (w : World) (h0 : -9223372036854775808 ≤ n) (h1 : n ≤ 9223372036854775807) :
    Calls Tryd.prog 33 #[.int .i64 n] w fun e w' => e = .returned (.string ⟨(Lib.itoa n).toArray⟩) ∧ Below w.heap.size w w' := by
  go_enter Tryd.func33, Tryd.ntmps33
  go_wp2_with fail
  refine (ref1Digits_any n _ h0 h1).mono ?_
  rintro e w' ⟨rfl, hb⟩
  have HB := Lib.hid hb; clear hb
  go_wp2
  go_ret
  exact ⟨rfl, HB.out⟩
end Go.Proofs.YtfgocdeaanalgaaDoor
