/- Layer 16: bits of a datagram that are turned: bytes in a row, turned one by one. -/
import Derived.Test.YtlbhkendbngmaaaJ8
import Derived.Stop.BytesEq
import Derived.BigRegion
namespace Go.Proofs.Ytlbhkendbngmaaa.Wi
open Go.RowKit
set_option maxRecDepth 100000

/-- bytes in a row that is the call's own -/
structure BRow (K : Nat) (L : Bytes) (W : World) : Prop where
  cell : ∀ j (h : j < L.length), W.cell? ⟨K, j, none⟩ = some (.int .u8 (L[j].toNat : Nat))
  froz : ∀ j, j < L.length → W.frozen? ⟨K, j, none⟩ = false
theorem BRow.set {K : Nat} {L : Bytes} {W : World} (h : BRow K L W) {p : Nat} (hp : p < L.length) (v : UInt8) : BRow K (L.set p v) (W.setCell ⟨K, p, none⟩ (.int .u8 (v.toNat : Nat))) := by
  refine ⟨fun j hj => ?_, fun j hj => ?_⟩
  · have hj2 : j < L.length := by simpa using hj
    by_cases e : p = j
    · subst e
      rw [World.cell?_setCell_same W _ _ (h.cell p hp), List.getElem_set_self]
    · rw [World.cell?_setCell_other W (a := ⟨K, p, none⟩) (b := ⟨K, j, none⟩) _ (by intro k; injection k with _ k _; exact e k), List.getElem_set_ne e]
      exact h.cell j hj2
  · rw [World.frozen?_setCell]
    exact h.froz j (by simpa using hj)
theorem BRow.drewN {K : Nat} {L : Bytes} {W : World} (h : BRow K L W) : BRow K L W.drew := ⟨h.cell, h.froz⟩
/-- what is put to a text by xor: the first i of four bytes, from k on -/
def maskL (n k : Nat) (m : Bytes) (i : Nat) : Bytes := zerosL k ++ m.take i ++ zerosL (n - k - i)
def turnL (s : Bytes) (k : Nat) (m : Bytes) (i : Nat) : Bytes := xorL s (maskL s.length k m i)
theorem zeros_len (k : Nat) : (zerosL k).length = k := List.length_replicate
theorem mask_len {n k i : Nat} {m : Bytes} (hm : m.length = 4) (hi : i ≤ 4) (hk : k + 4 ≤ n) : (maskL n k m i).length = n := by
  unfold maskL
  rw [List.length_append, List.length_append, zeros_len, zeros_len, List.length_take, hm]
  omega
theorem mask_step {n k i : Nat} {m : Bytes} (hm : m.length = 4) (hi : i < 4) (hk : k + 4 ≤ n) : maskL n k m (i + 1) = (maskL n k m i).set (k + i) (m[i]'(by omega)) := by
  unfold maskL
  have hz : n - k - i = (n - k - (i + 1)) + 1 := by omega
  rw [hz, List.take_succ_eq_append_getElem (by omega)]
  have hl : (zerosL k ++ m.take i).length = k + i := by rw [List.length_append, zeros_len, List.length_take, hm]; omega
  have e : zerosL (n - k - (i + 1) + 1) = 0 :: zerosL (n - k - (i + 1)) := rfl
  rw [e, List.set_append_right _ _ (by rw [hl]; exact Nat.le_refl _), hl, Nat.sub_self, List.set_cons_zero, ← List.append_assoc, List.append_assoc _ [m[i]]]
  rfl
theorem mask_at {n k i : Nat} {m : Bytes} (hm : m.length = 4) (hi : i < 4) (hk : k + 4 ≤ n) : (maskL n k m i)[k + i]'(by rw [mask_len hm (by omega) hk]; omega) = 0 := by
  have hl : (zerosL k ++ m.take i).length = k + i := by rw [List.length_append, zeros_len, List.length_take, hm]; omega
  unfold maskL
  rw [List.getElem_append_right (by rw [hl]; exact Nat.le_refl _)]
  simp [zerosL]
theorem turn_len {s m : Bytes} {k i : Nat} (hm : m.length = 4) (hi : i ≤ 4) (hk : k + 4 ≤ s.length) : (turnL s k m i).length = s.length := xorL_len (mask_len hm hi hk).symm
theorem zip_set (s a : Bytes) (p : Nat) (v : UInt8) (hp : p < s.length) : xorL s (a.set p v) = (xorL s a).set p (s[p] ^^^ v) := by
  unfold xorL
  apply List.ext_getElem
  · simp
  · intro j h1 h2
    simp only [List.getElem_zipWith]
    by_cases e : p = j
    · subst e
      rw [List.getElem_set_self, List.getElem_set_self]
    · rw [List.getElem_set_ne e, List.getElem_set_ne e, List.getElem_zipWith]
theorem turn_step {s m : Bytes} {k i : Nat} (hm : m.length = 4) (hi : i < 4) (hk : k + 4 ≤ s.length) :
    turnL s k m (i + 1) = (turnL s k m i).set (k + i) ((turnL s k m i)[k + i]'(by rw [turn_len hm (by omega) hk]; omega) ^^^ (m[i]'(by omega))) := by
  have h0 := mask_at (n := s.length) hm hi hk
  unfold turnL
  rw [mask_step hm hi hk, zip_set _ _ _ _ (by omega)]
  congr 1
  unfold xorL
  rw [List.getElem_zipWith, h0]
  congr 1
  apply UInt8.toNat_inj.1
  simp
theorem turn_start (s m : Bytes) {k : Nat} (hk : k + 4 ≤ s.length) : turnL s k m 0 = s := by
  unfold turnL maskL
  have : zerosL k ++ m.take 0 ++ zerosL (s.length - k - 0) = zerosL s.length := by
    unfold zerosL
    rw [List.take_zero, List.append_nil, List.replicate_append_replicate]
    congr 1
    omega
  rw [this]
  unfold xorL zerosL
  apply List.ext_getElem
  · simp
  · intro j h1 h2
    simp
theorem turn_end (s m : Bytes) {k : Nat} (hm : m.length = 4) (_hk : k + 4 ≤ s.length) : turnL s k m 4 = xorL s (zerosL k ++ m ++ zerosL (s.length - k - 4)) := by
  unfold turnL maskL
  rw [List.take_of_length_le (by omega)]
theorem no_str {S : ByteArray} (h : S.data.toList = []) : (S.toList == []) = true ∧ S.toList = [] ∧ S.toList.isEmpty = true := by
  rw [Lib.toList_data, h]
  exact ⟨rfl, rfl, rfl⟩
theorem eq4 (m0 m1 m2 m3 : UInt8) (w : World) : (Op.equalIn 10000 50 (.agg #[.int .u8 (m0.toNat : Nat), .int .u8 (m1.toNat : Nat), .int .u8 (m2.toNat : Nat), .int .u8 (m3.toNat : Nat)]) (.agg #[.int .u8 0, .int .u8 0, .int .u8 0, .int .u8 0])).run Try.prog w = .ok ([m0, m1, m2, m3] == zerosL 4) w :=
  run_equalIn_bytes w 9998 50 5 4 Try.underlying50 Try.underlying5 (fun w => Try.sizeOf5 w) [m0, m1, m2, m3] (zerosL 4) rfl rfl
set_option maxHeartbeats 4000000 in
theorem turned_law (n : Nat) (load : ByteArray) (at_ : Nat) (hat : at_ < 65536) (m0 m1 m2 m3 : UInt8) (w : World) (hs : load.size ≤ 4611686018427387904) :
    Calls Try.prog 7 #[.int .u64 n, .string load, .agg #[.int .u16 at_, .int .u8 (m0.toNat : Nat), .int .u8 (m1.toNat : Nat), .int .u8 (m2.toNat : Nat), .int .u8 (m3.toNat : Nat)]] w fun e w' => e = .returned (.bool true) ∧ Below w.heap.size w w' := by
  obtain ⟨w1, hw1⟩ : ∃ W, W = w.alloc (.cells #[.int .u16 at_, .int .u8 (m0.toNat : Nat), .int .u8 (m1.toNat : Nat), .int .u8 (m2.toNat : Nat), .int .u8 (m3.toNat : Nat)] 52) := ⟨_, rfl⟩
  have hb1 : Below w.heap.size w w1 := by rw [hw1]; exact (Below.refl _ _).alloc (Nat.le_refl _) _
  have hz1 : w.heap.size < w1.heap.size := by rw [hw1]; simp
  have c0 : w1.cell? ⟨w.heap.size, 0, none⟩ = some (.int .u16 at_) := by rw [hw1]; simp
  have c1 : w1.cell? ⟨w.heap.size, 1, none⟩ = some (.int .u8 (m0.toNat : Nat)) := by rw [hw1]; simp
  have c2 : w1.cell? ⟨w.heap.size, 2, none⟩ = some (.int .u8 (m1.toNat : Nat)) := by rw [hw1]; simp
  have c3 : w1.cell? ⟨w.heap.size, 3, none⟩ = some (.int .u8 (m2.toNat : Nat)) := by rw [hw1]; simp
  have c4 : w1.cell? ⟨w.heap.size, 4, none⟩ = some (.int .u8 (m3.toNat : Nat)) := by rw [hw1]; simp
  have h1 := pack_any 1 n load w1 hs
  have hlen := pack_len 1 n load.data.toList
  obtain ⟨S, hS, hSl, hSz⟩ := bstr_eq (packC 1 n load.data.toList).1
  obtain ⟨er, her⟩ : ∃ er, (packC 1 n load.data.toList).2 = er := ⟨_, rfl⟩
  have hnone : er ≠ 0 → S.data.toList = [] := fun h => by
    rw [hSl]
    unfold packC at her ⊢
    by_cases k1 : (1 : Int) < 1 ∨ (2 : Int) < 1 ∨ (1 : Int) = 2 ∧ load.data.toList ≠ []
    · rw [if_pos k1]
    · rw [if_neg k1] at her ⊢
      by_cases k2 : 800 < load.data.toList.length
      · rw [if_pos k2]
      · rw [if_neg k2] at her; exact absurd her.symm h
  have hsome : er = 0 → 13 ≤ S.size := fun h => by
    rw [hSz]
    obtain ⟨_, _, h3⟩ := pack_ok (her.trans h)
    rw [h3, seal_len, data_len]; omega
  have hturn : er = 0 → ∀ (m : Bytes) (i j : Nat), m.length = 4 → i + 4 + j = S.data.toList.length → m ≠ zerosL 4 → unpackC (xorL S.data.toList (zerosL i ++ m ++ zerosL j)) = (noData, 13) := fun h m i j hm hl hz => by
    rw [hSl] at hl ⊢
    exact data_turned (her.trans h) hm hl hz
  rw [hS, her] at h1
  have HW := Lib.hid wakes_any
  have H1 := Lib.hid h1; have HNO := Lib.hid hnone; have HSO := Lib.hid hsome; have HTU := Lib.hid hturn
  have hS813 : S.size ≤ 813 := by omega
  have HW1 := Lib.hid hw1; have HB1 := Lib.hid hb1
  obtain ⟨K, hK⟩ : ∃ K, K = w.heap.size := ⟨_, rfl⟩
  have HK := Lib.hid hK
  rw [← hK] at c0 c1 c2 c3 c4 hz1
  clear h1 hlen hS hSl hSz her hnone hsome hturn hw1 hb1 hK
  go_enter Try.func7, Try.ntmps7
  go_upto_region 1 with fail
  rw [← HW1.out, ← HK.out]
  go_wp2_with fail
  refine H1.out.mono ?_
  rintro e w2 ⟨rfl, hb2⟩
  go_wp2_with fail
  refine (HW.out _).mono ?_
  rintro e w3 ⟨rfl, hb3⟩
  have hb13 : Below w1.heap.size w1 w3 := hb2.trans (hb3.mono hb2.size)
  have d0 := (hb13.cell (cell_lt c0)).trans c0
  have d1 := (hb13.cell (cell_lt c1)).trans c1
  have d2 := (hb13.cell (cell_lt c2)).trans c2
  have d3 := (hb13.cell (cell_lt c3)).trans c3
  have d4 := (hb13.cell (cell_lt c4)).trans c4
  have hz3 : K < w3.heap.size := Nat.lt_of_lt_of_le hz1 hb13.size
  have HB3 := Lib.hid (HB1.out.trans (hb13.mono (by have := HB1.out.size; exact this)))
  clear hb2 hb3 hb13 c0 c1 c2 c3 c4 H1 HW HW1 hz1
  by_cases he : er = 0
  · have h13 := HSO.out he
    have HT := Lib.hid (HTU.out he)
    subst he
    have heb : ((0 : Int) == 0) = true := rfl
    have h4 : ¬ (S.size : Int) < 4 := by omega
    have h4b : decide ((S.size : Int) < 4) = false := decide_eq_false h4
    clear HNO HSO HTU
    have hcv := run_bytes_of_string (P := Try.prog) w3 9 53 5 S Try.underlying9 Try.underlying53 Try.underlying5
    obtain ⟨C, hC⟩ : ∃ C, C = grownCap w3 S.size 0 5 := ⟨_, rfl⟩
    rw [← hC] at hcv
    have hrow := fun j hj => bytesRow_at S C j hj
    have hrs : S.size ≤ (bytesRow S C).size := by unfold bytesRow; simp
    generalize bytesRow S C = R at *
    obtain ⟨w4, hw4⟩ : ∃ W, W = w3.drew.alloc (.cells R 5 (R.size, R.size + 1)) := ⟨_, rfl⟩
    rw [← hw4] at hcv
    have hb4 : Below w3.heap.size w3 w4 := by rw [hw4]; exact ((Below.refl _ _).alloc (Nat.le_refl _) _).drew
    have hslen : S.data.toList.length = S.size := (Lib.size_eq S).symm
    have hbk : w4.heap[w3.heap.size]? = some (.cells R 5 (R.size, R.size + 1)) := by rw [hw4]; exact heap_alloc_new w3.drew _
    have hbr : BRow w3.heap.size S.data.toList w4 := by
      refine ⟨fun j hj => ?_, fun j hj => ?_⟩
      · have hj2 : j < S.data.size := by simpa using hj
        have := hrow j hj2
        exact (cell_of_row w4 _ j _ _ _ hbk).trans this
      · have hj2 : j < R.size := by omega
        simp [World.frozen?, hbk]
        omega
    have e0 := (hb4.cell (cell_lt d0)).trans d0
    have e1 := (hb4.cell (cell_lt d1)).trans d1
    have e2 := (hb4.cell (cell_lt d2)).trans d2
    have e3 := (hb4.cell (cell_lt d3)).trans d3
    have e4 := (hb4.cell (cell_lt d4)).trans d4
    have HB4 := Lib.hid (HB3.out.trans (hb4.mono HB3.out.size))
    obtain ⟨Q, hQ⟩ : ∃ Q, Q = w3.heap.size := ⟨_, rfl⟩
    rw [← hQ] at hcv hbr
    have hKQ : K < Q := by omega
    have hz4 : Q < w4.heap.size := by rw [hQ]; exact lt_of_heap hbk
    have hwQ : w.heap.size ≤ Q := by rw [hQ]; exact HB3.out.size
    obtain ⟨k, hk⟩ : ∃ k, k = at_ % (S.size - 3) := ⟨_, rfl⟩
    have hk2 : k < S.size - 3 := by rw [hk]; exact Nat.mod_lt _ (by omega)
    have hsub : IntKind.i64.wrap ((S.size : Int) - 3) = ((S.size - 3 : Nat) : Int) := by rw [show ((S.size : Int) - 3) = ((S.size - 3 : Nat) : Int) by omega]; exact IntWalk.i64_in _ (by omega)
    have hnz : ¬ ((S.size - 3 : Nat) : Int) = 0 := by omega
    have hrem : (at_ : Int).tmod ((S.size - 3 : Nat) : Int) = (k : Int) := by rw [hk, Int.tmod_eq_emod_of_nonneg (by omega)]; rfl
    have HSL := Lib.hid hslen; have HBR := Lib.hid hbr
    clear hrow hrs hw4 hb4 hbk hC d0 d1 d2 d3 d4 hQ hz3 hk hslen hbr
    obtain ⟨m, hm⟩ : ∃ m : Bytes, m = [m0, m1, m2, m3] := ⟨_, rfl⟩
    have hml : m.length = 4 := by rw [hm]; rfl
    have hmc : ∀ i (h : i < 4), w4.cell? ⟨K, 1 + i, none⟩ = some (.int .u8 ((m[i]'(by omega)).toNat : Nat)) := fun i h => by
      subst hm
      rcases (show i = 0 ∨ i = 1 ∨ i = 2 ∨ i = 3 by omega) with rfl | rfl | rfl | rfl
      · exact e1
      · exact e2
      · exact e3
      · exact e4
    have HMC := Lib.hid hmc; have HM := Lib.hid hm; have HML := Lib.hid hml
    have hkl : k + 4 ≤ S.data.toList.length := by rw [HSL.out]; omega
    have H0 : Hid (BRow Q (turnL S.data.toList k m 0) w4 ∧ w4.grownBy w4 (some Q)) := Lib.hid ⟨by rw [turn_start _ _ hkl]; exact HBR.out, grown_refl _ _⟩
    have HKL := Lib.hid hkl
    have HE := Lib.hid (⟨e1, e2, e3, e4⟩ : _ ∧ _ ∧ _ ∧ _)
    clear hmc hm hkl HBR
    go_upto_region 10 with fail
    clear e0 e1 e2 e3 e4 hsub hnz hrem hat
    go_wp2
    go_loopw [11, 40] (fun _ x40 wr => ∃ i : Nat, i ≤ 4 ∧ x40 = .int .i64 i ∧ Hid (BRow Q (turnL S.data.toList k m i) wr ∧ w4.grownBy wr (some Q))) (fun _ x _ => 4 - (intOf x).toNat)
    case atStart => exact ⟨0, by omega, rfl, H0⟩
    case round =>
      clear H0
      obtain ⟨i, hi, rfl, HH⟩ := hrel
      obtain ⟨W, hW⟩ : ∃ W, W = wr := ⟨_, rfl⟩
      subst hW
      by_cases hi4 : i < 4
      · have hi9 : (i : Int) < 4 := by omega
        obtain ⟨hbr, hgr⟩ := HH.out
        have hst := turn_step (s := S.data.toList) HML.out hi4 HKL.out
        have htl := turn_len (s := S.data.toList) (k := k) HML.out (show i ≤ 4 by omega) HKL.out
        have hcm := (hgr.block K (by omega) (fun e => by have := Option.some.inj e; omega))
        have hmc : W.cell? ⟨K, 1 + i, none⟩ = _ := (World.cell?_of_block hcm).trans (HMC.out i hi4)
        have hp : k + i < (turnL S.data.toList k m i).length := by rw [htl, HSL.out]; omega
        have hbc := hbr.cell (k + i) hp
        have hbf := hbr.froz (k + i) hp
        have hset := hbr.set hp ((turnL S.data.toList k m i)[k + i] ^^^ m[i]'(by rw [HML.out]; exact hi4))
        rw [← hst] at hset
        have hxor : ∀ a b : UInt8, bits .xor .u8 ((a.toNat : Nat) : Int) ((b.toNat : Nat) : Int) = (((a ^^^ b).toNat : Nat) : Int) := fun a b => by
          rw [u8_xor_nat _ _ (byte_lt8 a) (byte_lt8 b), UInt8.toNat_xor]
        have hx := hxor (turnL S.data.toList k m i)[k + i] (m[i]'(by rw [HML.out]; exact hi4))
        generalize (turnL S.data.toList k m i)[k + i] = a at *
        generalize m[i]'(by rw [HML.out]; exact hi4) = b at *
        have hadd : IntKind.i64.wrap ((k : Int) + (i : Int)) = ((k + i : Nat) : Int) := by rw [show ((k : Int) + (i : Int)) = ((k + i : Nat) : Int) by omega]; exact IntWalk.i64_in _ (by omega)
        have hlt : k + i < S.size := by omega
        have hlti : ((k + i : Nat) : Int) < (S.size : Int) := by omega
        have HSET := Lib.hid (hset.drewN); have HGR := Lib.hid hgr
        clear hst htl hcm hset hxor hbr hgr HH hp
        go_wp2
        go_region
        have hnew : Hid (BRow Q (turnL S.data.toList k m (i + 1)) (W.setCell ⟨Q, k + i, none⟩ (.int .u8 ((a ^^^ b).toNat : Nat))).drew ∧ w4.grownBy (W.setCell ⟨Q, k + i, none⟩ (.int .u8 ((a ^^^ b).toNat : Nat))).drew (some Q)) := Lib.hid ⟨HSET.out, by
          have h1 := grown_trans HGR.out (grown_set W Q (k + i) (.int .u8 ((a ^^^ b).toNat : Nat)))
          exact ⟨h1.os, h1.tape, h1.output, h1.size, h1.block⟩⟩
        go_wp2
        go_roundw
        case rel => exact ⟨i + 1, by omega, by go_num, hnew⟩
        case measure => simp [intOf]; omega
      · obtain rfl : 4 = i := by omega
        obtain ⟨hbr, hgr⟩ := HH.out
        have htl := turn_len (s := S.data.toList) (k := k) HML.out (Nat.le_refl 4) HKL.out
        have hcm : ∀ j, W.cell? ⟨K, j, none⟩ = w4.cell? ⟨K, j, none⟩ := fun j => World.cell?_of_block (hgr.block K (by omega) (fun e => by have := Option.some.inj e; omega))
        obtain ⟨e1, e2, e3, e4⟩ := HE.out
        have f1 := (hcm 1).trans e1
        have f2 := (hcm 2).trans e2
        have f3 := (hcm 3).trans e3
        have f4 := (hcm 4).trans e4
        have hlow : Below w.heap.size w W := low_grown HB4.out hgr hwQ HB4.out.size
        have HQ := Lib.hid (fun w => eq4 m0 m1 m2 m3 w)
        have hq := HQ.out W
        rw [← HM.out] at hq
        have HLOW := Lib.hid hlow; have HBR2 := Lib.hid hbr; have HTL := Lib.hid htl
        clear hcm e1 e2 e3 e4 hlow hbr hgr htl HH HQ
        clear HMC
        clear hml hi hi4
        have h44 : ¬ ((4 : Nat) : Int) < 4 := by omega
        by_cases hz : m = zerosL 4
        · have hb : (m == zerosL 4) = true := by rw [hz]; rfl
          rw [hb] at hq
          clear hz
          go_wp2
          go_ret
          exact ⟨rfl, HLOW.out⟩
        · have hb : (m == zerosL 4) = false := beq_eq_false_iff_ne.2 hz
          rw [hb] at hq
          have hxl := HTL.out.trans HSL.out
          have hte := turn_end S.data.toList m HML.out HKL.out
          have hun := HT.out m k (S.data.toList.length - k - 4) HML.out (by have := HKL.out; omega) hz
          rw [← hte] at hun
          obtain ⟨L, hL⟩ : ∃ L, L = turnL S.data.toList k m 4 := ⟨_, rfl⟩
          rw [← hL] at hun hxl HBR2
          obtain ⟨U, hU⟩ : ∃ U : ByteArray, U = ⟨L.toArray⟩ := ⟨_, rfl⟩
          have hul : U.data.toList = L := by rw [hU]
          have hus : U.size = S.size := by rw [Lib.size_eq, hul, hxl]
          have hkc : Sem.run Try.prog (convert 53 9 (.slice (some ⟨Q, 0, none⟩) S.size C)) W = .ok (.string U) W := by
            have := run_convert_bytes_back (P := Try.prog) W 53 9 5 ⟨Q, 0, none⟩ C L Try.underlying53 Try.underlying5 Try.underlying9 (fun j hj => by rw [add_lit, Nat.zero_add]; exact HBR2.out.cell j hj)
            rw [hxl, ← hU] at this
            exact this
          have hua := unpack_any U W (by omega)
          rw [hul, hun] at hua
          have HUA : Hid (Calls Try.prog 18 #[.string U] W fun e w' => e = .returned (.tuple #[.int .i64 0, .int .u64 0, .string ⟨#[]⟩, .int .i64 13]) ∧ Below W.heap.size W w') := Lib.hid hua
          clear hz hxl hte hun hL hU hul hus hua
          go_wp2_with fail
          refine HUA.out.mono ?_
          rintro e w9 ⟨rfl, hb9⟩
          have HB9 := Lib.hid (HLOW.out.trans (hb9.mono HLOW.out.size))
          clear hb9 f1 f2 f3 f4
          go_wp2
          go_ret
          exact ⟨rfl, HB9.out⟩
  · have heb : (er == 0) = false := beq_eq_false_iff_ne.2 he
    have heb2 : (er != 0) = true := by rw [bne, heb]; rfl
    obtain ⟨e1, e2, e3⟩ := no_str (HNO.out he)
    clear HNO HSO HTU
    go_wp2
    go_ret
    exact ⟨rfl, HB3.out⟩
end Go.Proofs.Ytlbhkendbngmaaa.Wi
