/- Layer 16: the document's numbers as bytes, places as bytes. -/
import Derived.Test.YtlbhkendbngmaaaJ2
namespace Go.Proofs.Ytlbhkendbngmaaa.Wi
open Go.RowKit
set_option maxRecDepth 100000

theorem one_conv (w : World) (B : UInt8) : Sem.run Try.prog (convert 53 9 (.slice (some ⟨w.heap.size, 0, none⟩) 1 1)) (w.alloc (.cells #[.int .u8 (B.toNat : Int)] 5)) = .ok (.string ⟨#[B]⟩) (w.alloc (.cells #[.int .u8 (B.toNat : Int)] 5)) :=
  run_convert_bytes_back _ _ _ 5 ⟨w.heap.size, 0, none⟩ 1 [B] Try.underlying53 Try.underlying5 Try.underlying9 (fun j hj => by
    obtain rfl : j = 0 := by simp at hj; omega
    simp [Addr.add])
theorem bstr_add (X : ByteArray) (B : UInt8) {l : Bytes} (h : X.data.toList = l) : (X ++ (⟨#[B]⟩ : ByteArray)).data.toList = l ++ [B] := by
  rw [ByteArray.data_append, Array.toList_append, h]
theorem str_bstr {X : ByteArray} {l : Bytes} (h : X.data.toList = l) : Value.string X = bstr l := by
  subst h; rfl
set_option maxHeartbeats 1600000 in
theorem refEight_any (n : Nat) (hn : n < 18446744073709551616) (w : World) :
    Calls Try.prog 21 #[.int .u64 n] w fun e w' => e = .returned (bstr (leN 8 n)) ∧ Below w.heap.size w w' := by
  go_enter Try.func21, Try.ntmps21
  go_wp2
  go_loopw [0, 3, 4] (fun x0 x3 x4 wr => ∃ q m : Nat, q ≤ 8 ∧ x4 = .int .i64 q ∧ x0 = .int .u64 m ∧ m = n / 256 ^ q ∧ ∃ X : ByteArray, x3 = .string X ∧ Hid (X.data.toList = leN q n) ∧ Hid (Below w.heap.size w wr)) (fun _ _ x _ => 8 - (intOf x).toNat)
  case atStart => exact ⟨0, n, by omega, rfl, rfl, (Nat.div_one n).symm, ⟨#[]⟩, rfl, rfl, Below.refl _ _⟩
  case round =>
    obtain ⟨q, m, hq, rfl, rfl, hm, X, rfl, HX, HB⟩ := hrel
    obtain ⟨wl, hwl⟩ : ∃ W, W = wr := ⟨_, rfl⟩
    subst hwl
    by_cases hq8 : q < 8
    · have hq9 : (q : Int) < 8 := by omega
      have hm2 : m < 18446744073709551616 := by rw [hm]; exact Nat.lt_of_le_of_lt (Nat.div_le_self _ _) hn
      have hxs : X.size = q := by rw [Lib.size_eq, HX.out, leN_len]
      have hb : m % 256 < 256 := Nat.mod_lt _ (by decide)
      have HM := Lib.hid hm
      obtain ⟨B, hB⟩ : ∃ b : UInt8, b.toNat = m % 256 := ⟨UInt8.ofNat (m % 256), by rw [UInt8.toNat_ofNat']; omega⟩
      have hmod : (m : Int).tmod 256 = (B.toNat : Int) := by rw [hB, Int.tmod_eq_emod_of_nonneg (by omega)]; omega
      have hmod3 : (m : Int) % 256 = (B.toNat : Int) := by rw [hB]; omega
      have hmod2 : ((B.toNat : Nat) : Int) % 256 = (B.toNat : Int) := by rw [hB]; omega
      have hkc := one_conv wl B
      have hsz : (X.size : Int) + ((⟨#[B]⟩ : ByteArray).size : Int) ≤ 9223372036854775807 := by
        show (X.size : Int) + ((1 : Nat) : Int) ≤ _; omega
      have HBB := Lib.hid hB
      clear hm hB hb
      go_wp2
      have hdv : m / 256 = n / 256 ^ (q + 1) := by rw [HM.out, Nat.div_div_eq_div_mul, Nat.pow_succ]
      have hbb : B = UInt8.ofNat (n / 256 ^ q % 256) := by
        apply UInt8.toNat_inj.1
        rw [HBB.out, HM.out, UInt8.toNat_ofNat']; omega
      have HX2 : Hid ((X ++ (⟨#[B]⟩ : ByteArray)).data.toList = leN (q + 1) n) := Lib.hid (by rw [bstr_add X B HX.out, leN_snoc, hbb])
      have HB2 := Lib.hid (HB.out.trans (((Below.refl wl.heap.size wl).alloc (Nat.le_refl _) (.cells #[.int .u8 (B.toNat : Int)] 5)).mono HB.out.size))
      go_roundw
      case rel => exact ⟨q + 1, m / 256, by omega, by go_num, rfl, hdv, _, rfl, HX2, HB2⟩
      case measure => simp [intOf]; omega
    · obtain rfl : 8 = q := by omega
      have HS := Lib.hid (str_bstr HX.out)
      clear hm HX
      go_wp2
      go_ret
      rw [HS.out]
      exact ⟨rfl, HB.out⟩
/-- the document's places: what is told, or nothing -/
def placesD (l : List Int) : Bytes × Bool := if l.length ≤ 48 ∧ ∀ x ∈ l, 0 ≤ x ∧ x ≤ 63 then (listT l, true) else ([], false)
theorem placesD_ok {l : List Int} (h : okL l) : placesD l = (listT l, true) := by
  unfold placesD; exact if_pos h
theorem placesD_no {l : List Int} (h : ¬ okL l) : placesD l = ([], false) := by
  unfold placesD; exact if_neg h
set_option maxHeartbeats 1600000 in
theorem refPlaces_any (w0 w : World) (hb : Below w0.heap.size w0 w) (v : Value) (l : List Int) (hv : RdL w0 v l) :
    Calls Try.prog 22 #[v] w fun e w' => e = .returned (.tuple #[bstr (placesD l).1, .bool (placesD l).2]) ∧ Below w.heap.size w w' := by
  obtain ⟨A, c, rfl, hr⟩ := hv
  by_cases h48 : 48 < l.length
  · have h9 : (48 : Int) < l.length := by omega
    have HP := Lib.hid (placesD_no (l := l) (fun h => by have := h.1; omega))
    go_enter Try.func22, Try.ntmps22
    go_wp2
    go_ret2
    rw [HP.out]
    exact ⟨rfl, Below.refl _ _⟩
  · have h9 : ¬ (48 : Int) < l.length := by omega
    have hl : l.length ≤ 48 := by omega
    have HR := Lib.hid (fun i hi => by
      obtain ⟨b, o, h1, h2⟩ := hr i hi
      exact (⟨b, o, h1, (hb.cell (cell_lt h2)).trans h2⟩ : ∃ b o, A = some ⟨b, o, none⟩ ∧ w.cell? ⟨b, o + i, none⟩ = some (.int .i64 l[i])))
    obtain ⟨B0, hB0⟩ : ∃ B : UInt8, B = UInt8.ofNat l.length := ⟨_, rfl⟩
    have hmod : (B0.toNat : Int) = (l.length : Int) := by rw [hB0, UInt8.toNat_ofNat']; omega
    have hkc := one_conv w B0
    rw [hmod] at hkc
    clear hmod
    have HB0 := Lib.hid hB0
    clear h48 hr hB0
    go_enter Try.func22, Try.ntmps22
    go_wp2
    go_loopw [4, 5] (fun x4 x5 wr => ∃ i : Nat, i ≤ l.length ∧ x5 = .int .i64 i ∧ ∃ X : ByteArray, x4 = .string X ∧ Hid (X.data.toList = byteT l.length ++ (l.take i).flatMap intT ∧ (∀ x ∈ l.take i, okI 63 x)) ∧ Hid (Below w.heap.size w wr)) (fun _ x _ => l.length - (intOf x).toNat)
    case atStart => exact ⟨0, by omega, rfl, ⟨#[B0]⟩, rfl, Lib.hid ⟨by simp [byteT, HB0.out], by simp⟩, Lib.hid ((Below.refl _ _).alloc (Nat.le_refl _) _)⟩
    case round =>
      clear hkc
      obtain ⟨i, hi, rfl, X, rfl, HX, HB⟩ := hrel
      obtain ⟨W, hW⟩ : ∃ W, W = wr := ⟨_, rfl⟩
      subst hW
      by_cases hil : i < l.length
      · obtain ⟨b, o, rfl, hc⟩ := HR.out i hil
        have hc2 := (HB.out.cell (cell_lt hc)).trans hc
        have ht : l.take (i + 1) = l.take i ++ [l[i]] := List.take_succ_eq_append_getElem hil
        have hmem : l[i] ∈ l := List.getElem_mem hil
        obtain ⟨y, hy⟩ : ∃ y, l[i] = y := ⟨_, rfl⟩
        rw [hy] at hc2 ht hmem
        have HT := Lib.hid ht; have HME := Lib.hid hmem
        clear hc hy ht hmem
        by_cases h0 : y < 0
        · have h0b : decide (y < 0) = true := decide_eq_true h0
          have HP := Lib.hid (placesD_no (l := l) (fun h => by have := (h.2 y HME.out).1; omega))
          go_wp2
          go_ret2
          rw [HP.out]
          exact ⟨rfl, HB.out⟩
        · have h0b : decide (y < 0) = false := decide_eq_false h0
          by_cases h63 : 63 < y
          · have h63b : decide (63 < y) = true := decide_eq_true h63
            have HP := Lib.hid (placesD_no (l := l) (fun h => by have := (h.2 y HME.out).2; omega))
            go_wp2
            go_ret2
            rw [HP.out]
            exact ⟨rfl, HB.out⟩
          · have h63b : decide (63 < y) = false := decide_eq_false h63
            obtain ⟨B, hB⟩ : ∃ B : UInt8, B = UInt8.ofNat y.toNat := ⟨_, rfl⟩
            have hmod2 : (B.toNat : Int) = y := by rw [hB, UInt8.toNat_ofNat']; omega
            have hkc := one_conv W B
            rw [hmod2] at hkc
            clear hmod2
            have hxs : X.size ≤ 50 := by
              rw [Lib.size_eq, HX.out.1, List.length_append, List.length_flatMap]
              have : ((l.take i).map fun x => (intT x).length).sum = i := by
                rw [show (fun x => (intT x).length) = (fun _ => 1) from rfl, List.map_const', List.sum_replicate_nat, List.length_take]; omega
              rw [this]
              show 1 + i ≤ 50
              omega
            have hsz : (X.size : Int) + ((⟨#[B]⟩ : ByteArray).size : Int) ≤ 9223372036854775807 := by
              show (X.size : Int) + ((1 : Nat) : Int) ≤ _; omega
            have HX2 : Hid ((X ++ (⟨#[B]⟩ : ByteArray)).data.toList = byteT l.length ++ (l.take (i + 1)).flatMap intT ∧ (∀ x ∈ l.take (i + 1), okI 63 x)) := Lib.hid (by
              rw [bstr_add X B HX.out.1, HT.out, List.flatMap_append, List.append_assoc]
              refine ⟨by rw [hB]; simp [intT, byteT], fun x hx => ?_⟩
              rcases List.mem_append.1 hx with hx | hx
              · exact HX.out.2 x hx
              · rw [List.mem_singleton.1 hx]; unfold okI; omega)
            have HB2 := Lib.hid (HB.out.trans (((Below.refl W.heap.size W).alloc (Nat.le_refl _) (.cells #[.int .u8 y] 5)).mono HB.out.size))
            clear hB hxs
            go_wp2
            go_roundw
            case rel => exact ⟨i + 1, by omega, by go_num, _, rfl, HX2, HB2⟩
            case measure => simp [intOf]; omega
      · obtain rfl : i = l.length := by omega
        have hok : okL l := ⟨hl, fun x hx => HX.out.2 x (by rw [List.take_length]; exact hx)⟩
        have HP := Lib.hid (placesD_ok hok)
        have HS := Lib.hid (str_bstr (l := listT l) (by rw [HX.out.1, List.take_length]; rfl))
        clear hok HX
        go_wp2
        go_ret2
        rw [HP.out, HS.out]
        exact ⟨rfl, HB.out⟩
end Go.Proofs.Ytlbhkendbngmaaa.Wi
