/- Layer 16: the laws of datagrams there and back. -/
import Derived.Test.YtlbhkendbngmaaaJ7
import Derived.Test.YtlbhkendbngmaaaJ5
namespace Go.Proofs.Ytlbhkendbngmaaa.Wi
open Go.RowKit
set_option maxRecDepth 100000

theorem pack_len (k : Int) (n : Nat) (load : Bytes) : (packC k n load).1.length ≤ 813 := by
  unfold packC
  split
  · simp
  · split
    · simp
    · show (sealC _).length ≤ 813
      rw [seal_len, data_len]
      omega
theorem bstr_eq (l : Bytes) : ∃ S : ByteArray, bstr l = .string S ∧ S.data.toList = l ∧ S.size = l.length := ⟨⟨l.toArray⟩, rfl, rfl, rfl⟩
theorem data_inj {S T : ByteArray} (h : S.data.toList = T.data.toList) : S = T := by apply ByteArray.ext; exact Array.toList_inj.1 h
set_option maxHeartbeats 1600000 in
theorem packs_law (k : Int) (n : Nat) (hn : n < 18446744073709551616) (load : ByteArray) (w : World) (hs : load.size ≤ 4611686018427387904) :
    Calls Try.prog 5 #[.int .i64 k, .int .u64 n, .string load] w fun e w' => e = .returned (.bool true) ∧ Below w.heap.size w w' := by
  have h1 := pack_any k n load w hs
  have h2 := fun w => refPack_any k n hn load w hs
  have hlen := pack_len k n load.data.toList
  have hback := fun h => unpack_pack (k := k) (n := n) (load := load.data.toList) hn h
  obtain ⟨S, hS, hSl, hSz⟩ := bstr_eq (packC k n load.data.toList).1
  obtain ⟨er, her⟩ : ∃ er, (packC k n load.data.toList).2 = er := ⟨_, rfl⟩
  rw [hS, her] at h1 h2
  rw [her, ← hSl] at hback
  have h3 := fun w => unpack_any S w (by omega)
  have HW := Lib.hid wakes_any
  have H1 := Lib.hid h1; have H2 := Lib.hid h2; have H3 := Lib.hid h3; have HBK := Lib.hid hback
  have hq1 : (S.toList == S.toList) = true := by simp
  have hq2 : (S.toList != S.toList) = false := by simp
  have hq3 : (er == er) = true := by simp
  have hq4 : (er != er) = false := by simp
  clear h1 h2 h3 hlen hback hS hSl hSz her
  go_enter Try.func5, Try.ntmps5
  go_wp2_with fail
  refine H1.out.mono ?_
  rintro e w1 ⟨rfl, hb1⟩
  have HB1 := Lib.hid hb1
  clear hb1
  go_wp2_with fail
  refine (H2.out _).mono ?_
  rintro e w2 ⟨rfl, hb2⟩
  have HB2 := Lib.hid (HB1.out.trans (hb2.mono HB1.out.size))
  clear hb2
  go_wp2_with fail
  refine (HW.out _).mono ?_
  rintro e w3 ⟨rfl, hb3⟩
  have HB3 := Lib.hid (HB2.out.trans (hb3.mono HB2.out.size))
  clear hb3
  go_wp2_with fail
  refine (H3.out _).mono ?_
  rintro e w4 ⟨rfl, hb4⟩
  have HB4 := Lib.hid (HB3.out.trans (hb4.mono HB3.out.size))
  clear hb4 HB1 HB2 HB3 H1 H2 H3 HW
  by_cases he : er = 0
  · have hu := HBK.out he
    rw [hu]
    obtain ⟨L, hL, hLl, _⟩ := bstr_eq load.data.toList
    obtain rfl := data_inj hLl
    have hz1 : (k == k) = true := by simp
    have hz2 : ((n : Int) == (n : Int)) = true := by simp
    have hz3 : (L.toList == L.toList) = true := by simp
    subst he
    have hL2 : bstr ((k, n, L.data.toList), (0 : Int)).1.2.2 = .string L := hL
    rw [hL2]
    clear hu hL hLl hL2
    go_wp2
    go_ret
    exact ⟨rfl, HB4.out⟩
  · have heb : (er == 0) = false := beq_eq_false_iff_ne.2 he
    have heb2 : (er != 0) = true := by rw [bne, heb]; rfl
    obtain ⟨L, hL, _, _⟩ := bstr_eq (unpackC S.data.toList).1.2.2
    rw [hL]
    clear hL
    generalize (unpackC S.data.toList).1.1 = a
    generalize (unpackC S.data.toList).1.2.1 = b
    generalize (unpackC S.data.toList).2 = c
    clear HBK
    go_wp2
    go_ret
    exact ⟨rfl, HB4.out⟩
theorem unpack_len (s : Bytes) : (unpackC s).1.2.2.length ≤ 800 := by
  unfold unpackC
  split
  · simp [noData]
  · split
    · simp [noData]
    · split
      · simp [noData]
      · show ((openC s).1.drop 9).length ≤ 800
        rw [List.length_drop]; omega
theorem unpack_num (s : Bytes) : (unpackC s).1.2.1 < 18446744073709551616 := by
  unfold unpackC
  split
  · simp [noData]
  · split
    · simp [noData]
    · split
      · simp [noData]
      · show wordL _ < _
        have := word_lt (((openC s).1.drop 1).take 8)
        have h8 : 2 ^ (8 * (((openC s).1.drop 1).take 8).length) ≤ 2 ^ 64 := Nat.pow_le_pow_right (by decide) (by rw [List.length_take]; omega)
        exact Nat.lt_of_lt_of_le this h8
set_option maxHeartbeats 1600000 in
theorem unpacks_law (s : ByteArray) (w : World) :
    Calls Try.prog 6 #[.string s] w fun e w' => e = .returned (.bool true) ∧ Below w.heap.size w w' := by
  have HW := Lib.hid wakes_any
  by_cases h5 : 5000 < s.size
  · have h5i : (5000 : Int) < s.size := by omega
    go_enter Try.func6, Try.ntmps6
    go_wp2_with fail
    refine (HW.out _).mono ?_
    rintro e w1 ⟨rfl, hb1⟩
    have HB1 := Lib.hid hb1
    clear hb1 HW
    go_wp2
    go_ret
    exact ⟨rfl, HB1.out⟩
  have h5i : ¬ (5000 : Int) < s.size := by omega
  have h1 := fun w => unpack_any s w (by omega)
  have h2 := fun w => refUnpack_any s w (by omega)
  have hlen := unpack_len s.data.toList
  have hnum := unpack_num s.data.toList
  have hback := fun h => (pack_unpack (s := s.data.toList) h).1
  obtain ⟨⟨⟨k, n, l⟩, er⟩, hu⟩ : ∃ z, unpackC s.data.toList = z := ⟨_, rfl⟩
  rw [hu] at h1 h2 hlen hnum hback
  obtain ⟨L, hL, hLl, hLz⟩ := bstr_eq l
  have H1 : Hid (∀ w, Calls Try.prog 18 #[.string s] w fun e w' => e = .returned (.tuple #[.int .i64 k, .int .u64 (n : Nat), .string L, .int .i64 er]) ∧ Below w.heap.size w w') := Lib.hid (by rw [← hL]; exact h1)
  have H2 : Hid (∀ w, Calls Try.prog 19 #[.string s] w fun e w' => e = .returned (.tuple #[.int .i64 k, .int .u64 (n : Nat), .string L, .int .i64 er]) ∧ Below w.heap.size w w') := Lib.hid (by rw [← hL]; exact h2)
  have hb : er = 0 → packC k n L.data.toList = (s.data.toList, 0) := by rw [hLl]; exact hback
  have h3 := fun w => pack_any k n L w (by rw [hLz]; simp only at hlen; omega)
  obtain ⟨P, hP, hPl, _⟩ := bstr_eq (packC k n L.data.toList).1
  rw [hP] at h3
  have H3 := Lib.hid h3; have HBK := Lib.hid hb
  have hq1 : (L.toList == L.toList) = true := by simp
  have hq2 : (L.toList != L.toList) = false := by simp
  have hq3 : (er == er) = true := by simp
  have hq4 : (er != er) = false := by simp
  have hq5 : (k == k) = true := by simp
  have hq6 : (k != k) = false := by simp
  have hq7 : ((n : Int) == (n : Int)) = true := by simp
  have hq8 : ((n : Int) != (n : Int)) = false := by simp
  have HPL := Lib.hid hPl
  clear h1 h2 h3 hlen hnum hback hu hL hLl hLz hb hP hPl h5
  go_enter Try.func6, Try.ntmps6
  go_wp2_with fail
  refine (HW.out _).mono ?_
  rintro e w1 ⟨rfl, hb1⟩
  have HB1 := Lib.hid hb1
  clear hb1 HW
  go_wp2_with fail
  refine (H1.out _).mono ?_
  rintro e w2 ⟨rfl, hb2⟩
  have HB2 := Lib.hid (HB1.out.trans (hb2.mono HB1.out.size))
  clear hb2
  go_wp2_with fail
  refine (H2.out _).mono ?_
  rintro e w3 ⟨rfl, hb3⟩
  have HB3 := Lib.hid (HB2.out.trans (hb3.mono HB2.out.size))
  clear hb3
  go_wp2_with fail
  refine (H3.out _).mono ?_
  rintro e w4 ⟨rfl, hb4⟩
  have HB4 := Lib.hid (HB3.out.trans (hb4.mono HB3.out.size))
  clear hb4 HB1 HB2 HB3 H1 H2 H3
  by_cases he : er = 0
  · have hu := HBK.out he
    have hps : P = s := data_inj (by rw [HPL.out, hu])
    rw [hu]
    subst hps
    subst he
    have hz3 : (P.toList == P.toList) = true := by simp
    clear hu HBK HPL
    go_wp2
    go_ret
    exact ⟨rfl, HB4.out⟩
  · have heb : (er == 0) = false := beq_eq_false_iff_ne.2 he
    have heb2 : (er != 0) = true := by rw [bne, heb]; rfl
    generalize (packC k n L.data.toList).2 = c
    clear HBK HPL
    go_wp2
    go_ret
    exact ⟨rfl, HB4.out⟩
theorem packs_lawI (k n : Int) (h0 : 0 ≤ n) (hn : n ≤ 18446744073709551615) (load : ByteArray) (w : World) (hs : load.size ≤ 4611686018427387904) :
    Calls Try.prog 5 #[.int .i64 k, .int .u64 n, .string load] w fun e w' => e = .returned (.bool true) ∧ Below w.heap.size w w' := by
  have h := packs_law k n.toNat (by omega) load w hs
  rw [Int.toNat_of_nonneg h0] at h
  exact h
end Go.Proofs.Ytlbhkendbngmaaa.Wi
