/- Layer 15: the document's Seal and Open, walked. -/
import Derived.Test.YtlbhkendbngmaaaCb
import Derived.Laws.IdiomStrings
import Derived.Laws.BytesString
namespace Go.Proofs.Ytlbhkendbngmaaa
open Go.RowKit
set_option maxRecDepth 100000

theorem ret_str {X Y : ByteArray} (h : X.data.toList = Y.data.toList) : Ending.returned (.string X) = .returned (.string Y) := by
  have : X = Y := by apply ByteArray.ext; exact Array.toList_inj.1 h
  rw [this]
theorem le_take (n : Nat) {q : Nat} (hq : q < 4) : (leC n).take (q + 1) = (leC n).take q ++ [UInt8.ofNat (n / 256 ^ q % 256)] := by
  rcases (show q = 0 ∨ q = 1 ∨ q = 2 ∨ q = 3 by omega) with rfl | rfl | rfl | rfl
  · show [UInt8.ofNat (n % 256)] = [UInt8.ofNat (n / 1 % 256)]; rw [Nat.div_one]
  · rfl
  · rfl
  · rfl
set_option maxHeartbeats 1600000 in
theorem refSeal_any (s : ByteArray) (w : World) (hs : s.size ≤ 4611686018427387) :
    Calls Try.prog 36 #[.string s] w fun e w' => e = .returned (.string ⟨(sealC s.data.toList).toArray⟩) ∧ Below w.heap.size w w' := by
  have HOF := Lib.hid (refSumOf_any s w (by omega))
  have hn := sumC_lt s.data.toList
  have HSE : Hid (sealC s.data.toList = s.data.toList ++ leC (sumC s.data.toList)) := rfl
  have hl : s.data.toList.length = s.size := (Lib.size_eq s).symm
  have HL := Lib.hid hl
  clear hl
  generalize sumC s.data.toList = N at *
  go_enter Try.func36, Try.ntmps36
  go_wp2_with fail
  refine HOF.out.mono ?_
  rintro e w1 ⟨rfl, rfl⟩
  go_wp2
  go_loopw [3, 4, 5] (fun x3 x4 x5 wr => ∃ q m : Nat, q ≤ 4 ∧ x5 = .int .i64 q ∧ x3 = .int .u32 m ∧ m = N / 256 ^ q ∧ ∃ X : ByteArray, x4 = .string X ∧ Hid (X.data.toList = s.data.toList ++ (leC N).take q) ∧ Hid (Below w.heap.size w wr)) (fun _ _ x _ => 4 - (intOf x).toNat)
  case atStart => exact ⟨0, N, by omega, rfl, rfl, (Nat.div_one N).symm, s, rfl, by show _ = _; simp, Below.refl _ _⟩
  case round =>
    obtain ⟨q, m, hq, rfl, rfl, hm, X, rfl, HX, HB⟩ := hrel
    obtain ⟨wl, hwl⟩ : ∃ W, W = wr := ⟨_, rfl⟩
    subst hwl
    by_cases hq4 : q < 4
    · have hq9 : (q : Int) < 4 := by omega
      have hml : m < 2 ^ 32 := by rw [hm]; exact Nat.lt_of_le_of_lt (Nat.div_le_self _ _) hn
      have hm2 : m < 4294967296 := hml
      have hxs : X.size = s.size + q := by
        rw [Lib.size_eq, HX.out, List.length_append, HL.out, List.length_take, le_len]; omega
      have hb : m % 256 < 256 := Nat.mod_lt _ (by decide)
      have HM := Lib.hid hm
      obtain ⟨B, hB⟩ : ∃ b : UInt8, b.toNat = m % 256 := ⟨UInt8.ofNat (m % 256), by rw [UInt8.toNat_ofNat']; omega⟩
      have hmod : (m : Int).tmod 256 = (B.toNat : Int) := by rw [hB, Int.tmod_eq_emod_of_nonneg (by omega)]; omega
      have hmod3 : (m : Int) % 256 = (B.toNat : Int) := by rw [hB]; omega
      have hmod2 : ((B.toNat : Nat) : Int) % 256 = (B.toNat : Int) := by rw [hB]; omega
      have hkc : Sem.run Try.prog (convert 53 9 (.slice (some ⟨wl.heap.size, 0, none⟩) 1 1)) (wl.alloc (.cells #[.int .u8 (B.toNat : Int)] 5)) = .ok (.string ⟨[B].toArray⟩) (wl.alloc (.cells #[.int .u8 (B.toNat : Int)] 5)) :=
        run_convert_bytes_back _ _ _ 5 ⟨wl.heap.size, 0, none⟩ 1 [B] Try.underlying53 Try.underlying5 Try.underlying9 (fun j hj => by
          obtain rfl : j = 0 := by simp at hj; omega
          simp [Addr.add])
      have hsz : (X.size : Int) + ((⟨[B].toArray⟩ : ByteArray).size : Int) ≤ 9223372036854775807 := by
        show (X.size : Int) + ((1 : Nat) : Int) ≤ _; omega
      have HBB := Lib.hid hB
      clear hm hml hB hb
      go_wp2
      have hdv : m / 256 = N / 256 ^ (q + 1) := by rw [HM.out, Nat.div_div_eq_div_mul, Nat.pow_succ]
      have hbb : B = UInt8.ofNat (N / 256 ^ q % 256) := by
        apply UInt8.toNat_inj.1
        rw [HBB.out, HM.out, UInt8.toNat_ofNat']; omega
      have HX2 : Hid ((X ++ (⟨#[B]⟩ : ByteArray)).data.toList = s.data.toList ++ (leC N).take (q + 1)) := by
        show _ = _
        rw [ByteArray.data_append, Array.toList_append, HX.out, le_take N hq4, hbb, List.append_assoc]
      have HB2 := Lib.hid (HB.out.trans (((Below.refl wl.heap.size wl).alloc (Nat.le_refl _) (.cells #[.int .u8 (B.toNat : Int)] 5)).mono HB.out.size))
      go_roundw
      case rel => exact ⟨q + 1, m / 256, by omega, by go_num, rfl, hdv, _, rfl, HX2, HB2⟩
      case measure => simp [intOf]; omega
    · obtain rfl : 4 = q := by omega
      have HXX : Hid (X.data.toList = (⟨(sealC s.data.toList).toArray⟩ : ByteArray).data.toList) := by
        show _ = _
        rw [HX.out, HSE.out]; rfl
      clear hm HX
      go_wp2
      go_ret
      exact ⟨ret_str HXX.out, HB.out⟩
set_option maxHeartbeats 1600000 in
theorem refOpen_any (s : ByteArray) (w : World) (hs : s.size ≤ 4611686018427387) :
    Calls Try.prog 40 #[.string s] w fun e w' => e = .returned (.tuple #[.string ⟨(openC s.data.toList).1.toArray⟩, .int .i64 (openC s.data.toList).2]) ∧ Below w.heap.size w w' := by
  by_cases h4 : s.size < 4
  · have ho : Hid (openC s.data.toList = ([], 1)) := by unfold openC; exact if_pos (by rw [← Lib.size_eq]; exact h4)
    have h9 : (s.size : Int) < 4 := by omega
    clear h4
    go_enter Try.func40, Try.ntmps40
    go_wp2
    go_ret2
    rw [ho.out]
    exact ⟨rfl, Below.refl _ _⟩
  obtain ⟨n, hn⟩ : ∃ n, s.size - 4 = n := ⟨_, rfl⟩
  have h9 : ¬ (s.size : Int) < 4 := by omega
  have hsub : IntKind.i64.wrap ((s.size : Int) - 4) = (n : Int) := by rw [show ((s.size : Int) - 4) = (n : Int) by omega]; exact IntWalk.i64_in _ (by omega)
  have hnl : n ≤ s.size := by omega
  have hnl2 : (n : Int) ≤ (s.size : Int) := by omega
  have ho : openC s.data.toList = if sealC (s.data.toList.take n) = s.data.toList then (s.data.toList.take n, 0) else ([], 13) := by
    unfold openC
    rw [if_neg (by rw [← Lib.size_eq]; exact h4), ← Lib.size_eq, hn]
  have HO := Lib.hid ho
  have HSL := Lib.hid (fun T (hT : T.size ≤ 4611686018427387) => refSeal_any T w hT)
  clear ho h4 hn
  go_enter Try.func40, Try.ntmps40
  go_wp2_with fail
  have hx : (s.extract 0 n).data.toList = s.data.toList.take n := by simp [ByteArray.data_extract, List.extract_eq_take_drop]
  have hxl : (s.extract 0 n).size ≤ 4611686018427387 := by rw [Lib.size_eq, hx, List.length_take, ← Lib.size_eq]; omega
  refine (HSL.out _ hxl).mono ?_
  rintro e w2 ⟨rfl, hb⟩
  rw [hx]
  have HX := Lib.hid hx
  have HB := Lib.hid hb
  clear hx hxl hb HSL
  by_cases he : sealC (s.data.toList.take n) = s.data.toList
  · have hs2 : (⟨(sealC (s.data.toList.take n)).toArray⟩ : ByteArray) = s := by apply ByteArray.ext; rw [he]
    have hr := HO.out
    rw [if_pos he] at hr
    have HR := Lib.hid hr
    rw [hs2]
    clear hr HO he hs2
    go_wp2
    go_ret2
    rw [HR.out]
    refine ⟨?_, HB.out⟩
    have : s.extract 0 n = ⟨(s.data.toList.take n).toArray⟩ := by apply ByteArray.ext; rw [← HX.out]
    rw [this]; rfl
  · have hr := HO.out
    rw [if_neg he] at hr
    have HR := Lib.hid hr
    have hne : (((⟨(sealC (s.data.toList.take n)).toArray⟩ : ByteArray)).toList == s.toList) = false := by rw [Lib.toList_data, Lib.toList_data]; exact beq_eq_false_iff_ne.2 he
    have hne2 : (((⟨(sealC (s.data.toList.take n)).toArray⟩ : ByteArray)).toList != s.toList) = true := by rw [bne, hne]; rfl
    generalize (⟨(sealC (s.data.toList.take n)).toArray⟩ : ByteArray) = T at *
    clear hr HO he HX
    go_wp2
    go_ret2
    rw [HR.out]
    exact ⟨rfl, HB.out⟩
end Go.Proofs.Ytlbhkendbngmaaa
