/- Layer 16: the document's number of bytes; its Pack and Unpack. -/
import Derived.Test.YtlbhkendbngmaaaJ3
import Derived.Test.YtlbhkendbngmaaaOy
import Derived.Test.YtlbhkendbngmaaaOx
namespace Go.Proofs.Ytlbhkendbngmaaa.Wi
open Go.RowKit
set_option maxRecDepth 100000

/-- a new row of bytes -/
def OneD (l : Bytes) : Oy.RelD := fun _ v w => ∃ g, v = .slice (some ⟨g, 0, none⟩) l.length l.length ∧ ∀ j (_ : j < l.length), w.cell? ⟨g, j, none⟩ = some (.int .u8 (l[j].toNat : Nat))
theorem keeps_one (l : Bytes) : Oy.KeepsD (OneD l) := fun _ _ _ _ h hb => by
  obtain ⟨g, h1, h2⟩ := h
  exact ⟨g, h1, fun j hj => (hb.cell (cell_lt (h2 j hj))).trans (h2 j hj)⟩
theorem one_new (w : World) (B : UInt8) {ps : List Value} : OneD [B] ps (.slice (some ⟨w.heap.size, 0, none⟩) 1 1) (w.alloc (.cells #[.int .u8 (B.toNat : Int)] 5)) := ⟨_, rfl, fun j hj => by
  obtain rfl : j = 0 := by simp at hj; omega
  simp⟩
theorem one_back (w : World) (g : Nat) (l : Bytes) (h : ∀ j (_ : j < l.length), w.cell? ⟨g, j, none⟩ = some (.int .u8 (l[j].toNat : Nat))) :
    Sem.run Try.prog (convert 53 9 (.slice (some ⟨g, 0, none⟩) l.length l.length)) w = .ok (.string ⟨l.toArray⟩) w :=
  run_convert_bytes_back _ _ _ 5 ⟨g, 0, none⟩ l.length l Try.underlying53 Try.underlying5 Try.underlying9 (fun j hj => by rw [add_lit, Nat.zero_add]; exact h j hj)
set_option maxHeartbeats 1600000 in
theorem refNumber_any (s : ByteArray) (w : World) (hs : s.size ≤ 8) :
    Calls Try.prog 29 #[.string s] w fun e w' => e = .returned (.int .u64 (wordL s.data.toList : Nat)) ∧ w' = w := by
  have hl : s.data.toList.length = s.size := (Lib.size_eq s).symm
  have HL := Lib.hid hl
  clear hl
  go_enter Try.func29, Try.ntmps29
  go_wp2
  go_loop [3, 4] (fun x3 x4 => ∃ j : Nat, j ≤ s.size ∧ x4 = .int .i64 ((j : Int) - 1) ∧ x3 = .int .u64 (wordL (s.data.toList.drop j) : Nat)) (fun _ x => (intOf x + 1).toNat)
  case atStart => exact ⟨s.size, Nat.le_refl _, rfl, by rw [← HL.out, List.drop_length]; rfl⟩
  case round =>
    obtain ⟨j, hj, rfl, rfl⟩ := hrel
    cases j with
    | zero =>
      have h0 : ¬ (0 : Int) ≤ ((0 : Nat) : Int) - 1 := by omega
      have h1 : ¬ (0 : Int) ≤ (0 : Int) - 1 := by omega
      have hd : s.data.toList.drop 0 = s.data.toList := rfl
      rw [hd]
      clear hd
      go_wp2
      go_ret
      exact ⟨rfl, rfl⟩
    | succ j =>
      have hlt : j < s.size := by omega
      have he : ((j + 1 : Nat) : Int) - 1 = (j : Int) := by omega
      have hge : s.data.toList[j]'(by rw [HL.out]; exact hlt) = s[j] := at_list s j hlt _
      have hdr : s.data.toList.drop j = s[j] :: s.data.toList.drop (j + 1) := by
        rw [List.drop_eq_getElem_cons (by rw [HL.out]; exact hlt), hge]
      have hw := word_cons s[j] (s.data.toList.drop (j + 1))
      rw [← hdr] at hw
      have hb := word_bound (s.data.toList.drop (j + 1))
      have hb2 : 256 ^ (s.data.toList.drop (j + 1)).length ≤ 256 ^ 7 := Nat.pow_le_pow_right (by decide) (by rw [List.length_drop, HL.out]; omega)
      have hb8 := byte_lt8 s[j]
      generalize wordL (s.data.toList.drop (j + 1)) = m at *
      have hm : m < 72057594037927936 := by
        have : (256 : Nat) ^ 7 = 72057594037927936 := rfl
        omega
      have HW := Lib.hid hw
      rw [he]
      clear hw hdr hb hb2 hge he
      go_wp2
      go_round
      case rel => exact ⟨j, by omega, rfl, by rw [HW.out]; go_num⟩
      case measure => simp [intOf]
set_option maxHeartbeats 1600000 in
theorem refPack_any (k : Int) (n : Nat) (hn : n < 18446744073709551616) (load : ByteArray) (w : World) (hs : load.size ≤ 4611686018427387904) :
    Calls Try.prog 17 #[.int .i64 k, .int .u64 n, .string load] w fun e w' => e = .returned (.tuple #[bstr (packC k n load.data.toList).1, .int .i64 (packC k n load.data.toList).2]) ∧ Below w.heap.size w w' := by
  have hll : load.data.toList.length = load.size := (Lib.size_eq load).symm
  have HLL := Lib.hid hll
  have hemp : load.data.toList = [] ↔ load.size = 0 := by
    rw [← hll]
    exact (List.length_eq_zero_iff).symm
  clear hll
  have bad : ∀ (_ : k < 1 ∨ 2 < k ∨ k = 2 ∧ 0 < load.size), Hid (packC k n load.data.toList = ([], 1)) := fun h => Lib.hid (by
    unfold packC
    refine if_pos ?_
    rcases h with h | h | ⟨h, h'⟩
    · exact Or.inl h
    · exact Or.inr (Or.inl h)
    · exact Or.inr (Or.inr ⟨h, fun e => by have := hemp.1 e; omega⟩))
  by_cases h1 : k < 1
  · have HP := bad (Or.inl h1)
    have h1b : decide (k < 1) = true := decide_eq_true h1
    clear bad
    go_enter Try.func17, Try.ntmps17
    go_wp2
    go_ret2
    rw [HP.out]
    exact ⟨rfl, Below.refl _ _⟩
  have h1b : decide (k < 1) = false := decide_eq_false h1
  by_cases h2 : 2 < k
  · have HP := bad (Or.inr (Or.inl h2))
    have h2b : decide (2 < k) = true := decide_eq_true h2
    clear bad
    go_enter Try.func17, Try.ntmps17
    go_wp2
    go_ret2
    rw [HP.out]
    exact ⟨rfl, Below.refl _ _⟩
  have h2b : decide (2 < k) = false := decide_eq_false h2
  by_cases h3 : k = 2 ∧ 0 < load.size
  · have HP := bad (Or.inr (Or.inr h3))
    obtain ⟨rfl, h3⟩ := h3
    have h3i : (0 : Int) < load.size := by omega
    have h3b : decide ((0 : Int) < load.size) = true := decide_eq_true h3i
    clear bad h1 h2 h1b h2b
    go_enter Try.func17, Try.ntmps17
    go_wp2
    go_ret2
    rw [HP.out]
    exact ⟨rfl, Below.refl _ _⟩
  have hnf : ¬ (k < 1 ∨ 2 < k ∨ k = 2 ∧ load.data.toList ≠ []) := by
    rintro (h | h | ⟨h, h'⟩)
    · omega
    · omega
    · exact h3 ⟨h, Nat.pos_of_ne_zero (fun e => h' (hemp.2 e))⟩
  have hk : k = 1 ∨ k = 2 ∧ load.size = 0 := by
    by_cases hk : k = 1
    · exact Or.inl hk
    · exact Or.inr ⟨by omega, by
        apply Classical.byContradiction
        intro h
        exact h3 ⟨by omega, Nat.pos_of_ne_zero h⟩⟩
  clear bad
  by_cases h8 : 800 < load.size
  · have h9 : (800 : Int) < load.size := by omega
    have HP : Hid (packC k n load.data.toList = ([], 4)) := Lib.hid (by unfold packC; rw [if_neg hnf, if_pos (by rw [HLL.out]; exact h8)])
    obtain rfl : k = 1 := by omega
    clear hk hnf h3 h1 h2 h1b h2b hemp
    go_enter Try.func17, Try.ntmps17
    go_wp2
    go_ret2
    rw [HP.out]
    exact ⟨rfl, Below.refl _ _⟩
  have h9 : ¬ (800 : Int) < load.size := by omega
  have HP : Hid (packC k n load.data.toList = (sealC (dataT k.toNat n load.data.toList), 0)) := Lib.hid (by unfold packC; rw [if_neg hnf, if_neg (by rw [HLL.out]; exact h8)])
  obtain ⟨B, hB⟩ : ∃ B, B = UInt8.ofNat k.toNat := ⟨_, rfl⟩
  have hbk : (B.toNat : Int) = k := by rw [hB, UInt8.toNat_ofNat']; omega
  obtain ⟨E, hE⟩ : ∃ E : ByteArray, E = ⟨(leN 8 n).toArray⟩ := ⟨_, rfl⟩
  have hes : E.size = 8 := by rw [hE]; exact leN_len 8 n
  have HE := Lib.hid (fun w => refEight_any n hn w)
  unfold bstr at HE
  rw [← hE] at HE
  have hbytes : ((⟨[B].toArray⟩ : ByteArray) ++ E ++ load).data.toList = dataT k.toNat n load.data.toList := by
    rw [ByteArray.data_append, Array.toList_append, ByteArray.data_append, Array.toList_append, hE, hB]; rfl
  have hz : ((⟨[B].toArray⟩ : ByteArray) ++ E ++ load).size ≤ 4611686018427387 := by
    rw [ByteArray.size_append, ByteArray.size_append, hes]
    show 1 + 8 + load.size ≤ _
    omega
  have HS := Lib.hid (fun w => refSeal_any ((⟨[B].toArray⟩ : ByteArray) ++ E ++ load) w hz)
  rw [hbytes] at HS
  obtain ⟨S, hS⟩ : ∃ S : ByteArray, S = ⟨(sealC (dataT k.toNat n load.data.toList)).toArray⟩ := ⟨_, rfl⟩
  rw [← hS] at HS
  have HSS := Lib.hid hS
  have HES := Lib.hid hes; have HLS := Lib.hid (show load.size ≤ 800 by omega)
  clear hB hE hes hbytes hz hS hnf hemp h3
  have hW : Hid (∀ w1, Below w.heap.size w.drew w1 → Below w.heap.size w w1) := Lib.hid (fun w1 hb => (Below.refl _ _).drew.trans hb)
  rcases hk with rfl | ⟨rfl, h0⟩
  · clear h1 h2 h1b h2b
    go_enter Try.func17, Try.ntmps17
    go_upto_region 5 with fail
    refine Oy.region_quiet 36 [Oy.eqD (.int .i64 1), Oy.eqD (.int .u8 1), OneD [B], Oy.eqD (.string ⟨([B]).toArray⟩), Oy.eqD (.int .u64 (n : Nat)), Oy.eqD (.string E), Oy.eqD (.string (⟨[B].toArray⟩ ++ E)), Oy.eqD (.string load), Oy.eqD (.string (⟨[B].toArray⟩ ++ E ++ load)), Oy.eqD (.string S), Oy.eqD (.string S), Oy.eqD (.int .i64 0)] [[], [], [], [], [], [], [], [], [], [], [], []] (by kernel_rfl) rfl (by kernel_rfl) (by kernel_rfl) ⟨Oy.keeps_eq _, Oy.keeps_eq _, keeps_one _, Oy.keeps_eq _, Oy.keeps_eq _, Oy.keeps_eq _, Oy.keeps_eq _, Oy.keeps_eq _, Oy.keeps_eq _, Oy.keeps_eq _, Oy.keeps_eq _, Oy.keeps_eq _, trivial⟩ ?_
    refine Oy.walk_q ?_ fun x26 => ?_
    · intro w1 hb hd K hK
      clear hd
      go_simp
      exact hK _ _ (Below.refl _ _) rfl
    refine Oy.walk_q ?_ fun x27 => ?_
    · intro w1 hb hd K hK
      obtain rfl : _ = x26 := Eq.symm (hd 0 (by kernel_rfl))
      clear hd
      go_simp
      exact hK _ _ (Below.refl _ _) rfl
    refine Oy.walk_q ?_ fun x28 => ?_
    · intro w1 hb hd K hK
      obtain rfl : _ = x27 := Eq.symm (hd 1 (by kernel_rfl))
      clear hd
      go_simp
      exact hK _ _ ((Below.refl _ _).alloc (Nat.le_refl _) _) (by have ho := one_new w1 B (ps := []); rw [hbk] at ho; exact ho)
    refine Oy.walk_q ?_ fun x29 => ?_
    · intro w1 hb hd K hK
      have h28 : (OneD [B]) [] x28 w1 := hd 2 (by kernel_rfl)
      obtain ⟨g0, rfl, hc0⟩ := h28
      have hkc := one_back w1 g0 _ hc0
      rw [show ([B]).length = 1 from rfl] at hkc ⊢
      clear hd hc0
      go_simp
      exact hK _ _ (Below.refl _ _) rfl
    refine Oy.walk_q ?_ fun x30 => ?_
    · intro w1 hb hd K hK
      clear hd
      go_simp
      exact hK _ _ (Below.refl _ _) rfl
    refine Oy.walk_q ?_ fun x31 => ?_
    · intro w1 hb hd K hK
      obtain rfl : _ = x30 := Eq.symm (hd 4 (by kernel_rfl))
      clear hd
      go_simp
      refine (HE.out w1).mono ?_
      rintro e w5 ⟨rfl, hb5⟩
      go_simp
      exact hK _ _ hb5 rfl
    refine Oy.walk_q ?_ fun x32 => ?_
    · intro w1 hb hd K hK
      obtain rfl : _ = x29 := Eq.symm (hd 3 (by kernel_rfl))
      obtain rfl : _ = x31 := Eq.symm (hd 5 (by kernel_rfl))
      clear hd
      go_simp
      rw [if_neg]
      · exact hK _ _ (Below.refl _ _) rfl
      · have := HES.out; have h4 : (⟨[B].toArray⟩ : ByteArray).size = 1 := rfl; omega
    refine Oy.walk_q ?_ fun x33 => ?_
    · intro w1 hb hd K hK
      clear hd
      go_simp
      exact hK _ _ (Below.refl _ _) rfl
    refine Oy.walk_q ?_ fun x34 => ?_
    · intro w1 hb hd K hK
      obtain rfl : _ = x32 := Eq.symm (hd 6 (by kernel_rfl))
      obtain rfl : _ = x33 := Eq.symm (hd 7 (by kernel_rfl))
      clear hd
      go_simp
      rw [if_neg]
      · exact hK _ _ (Below.refl _ _) rfl
      · have := HES.out; have h4 : (⟨[B].toArray⟩ : ByteArray).size = 1 := rfl; have h5 := ByteArray.size_append (a := ⟨[B].toArray⟩) (b := E); have := HLS.out; omega
    refine Oy.walk_q ?_ fun x35 => ?_
    · intro w1 hb hd K hK
      obtain rfl : _ = x34 := Eq.symm (hd 8 (by kernel_rfl))
      clear hd
      go_simp
      refine (HS.out w1).mono ?_
      rintro e w5 ⟨rfl, hb5⟩
      go_simp
      exact hK _ _ hb5 rfl
    refine Oy.walk_q ?_ fun x6 => ?_
    · intro w1 hb hd K hK
      obtain rfl : _ = x35 := Eq.symm (hd 9 (by kernel_rfl))
      clear hd
      go_simp
      exact hK _ _ (Below.refl _ _) rfl
    refine Oy.walk_q ?_ fun x7 => ?_
    · intro w1 hb hd K hK
      clear hd
      go_simp
      exact hK _ _ (Below.refl _ _) rfl
    refine Oy.walk_nil rfl (fun w1 hb hd => ?_)
    obtain rfl : _ = x26 := Eq.symm (hd 0 (by kernel_rfl))
    obtain rfl : _ = x27 := Eq.symm (hd 1 (by kernel_rfl))
    have h28 : (OneD [B]) [] x28 w1 := hd 2 (by kernel_rfl)
    obtain rfl : _ = x29 := Eq.symm (hd 3 (by kernel_rfl))
    obtain rfl : _ = x30 := Eq.symm (hd 4 (by kernel_rfl))
    obtain rfl : _ = x31 := Eq.symm (hd 5 (by kernel_rfl))
    obtain rfl : _ = x32 := Eq.symm (hd 6 (by kernel_rfl))
    obtain rfl : _ = x33 := Eq.symm (hd 7 (by kernel_rfl))
    obtain rfl : _ = x34 := Eq.symm (hd 8 (by kernel_rfl))
    obtain rfl : _ = x35 := Eq.symm (hd 9 (by kernel_rfl))
    obtain rfl : _ = x6 := Eq.symm (hd 10 (by kernel_rfl))
    obtain rfl : _ = x7 := Eq.symm (hd 11 (by kernel_rfl))
    clear hd
    have HBZ := Lib.hid (hW.out w1 hb)
    clear hb
    go_simp
    go_wp2
    go_ret2
    rw [HP.out, HSS.out]
    exact ⟨rfl, HBZ.out⟩
  · have h0b : decide ((0 : Int) < load.size) = false := decide_eq_false (by omega)
    clear h1 h2 h1b h2b
    go_enter Try.func17, Try.ntmps17
    go_upto_region 5 with fail
    refine Oy.region_quiet 36 [Oy.eqD (.int .i64 2), Oy.eqD (.int .u8 2), OneD [B], Oy.eqD (.string ⟨([B]).toArray⟩), Oy.eqD (.int .u64 (n : Nat)), Oy.eqD (.string E), Oy.eqD (.string (⟨[B].toArray⟩ ++ E)), Oy.eqD (.string load), Oy.eqD (.string (⟨[B].toArray⟩ ++ E ++ load)), Oy.eqD (.string S), Oy.eqD (.string S), Oy.eqD (.int .i64 0)] [[], [], [], [], [], [], [], [], [], [], [], []] (by kernel_rfl) rfl (by kernel_rfl) (by kernel_rfl) ⟨Oy.keeps_eq _, Oy.keeps_eq _, keeps_one _, Oy.keeps_eq _, Oy.keeps_eq _, Oy.keeps_eq _, Oy.keeps_eq _, Oy.keeps_eq _, Oy.keeps_eq _, Oy.keeps_eq _, Oy.keeps_eq _, Oy.keeps_eq _, trivial⟩ ?_
    refine Oy.walk_q ?_ fun x26 => ?_
    · intro w1 hb hd K hK
      clear hd
      go_simp
      exact hK _ _ (Below.refl _ _) rfl
    refine Oy.walk_q ?_ fun x27 => ?_
    · intro w1 hb hd K hK
      obtain rfl : _ = x26 := Eq.symm (hd 0 (by kernel_rfl))
      clear hd
      go_simp
      exact hK _ _ (Below.refl _ _) rfl
    refine Oy.walk_q ?_ fun x28 => ?_
    · intro w1 hb hd K hK
      obtain rfl : _ = x27 := Eq.symm (hd 1 (by kernel_rfl))
      clear hd
      go_simp
      exact hK _ _ ((Below.refl _ _).alloc (Nat.le_refl _) _) (by have ho := one_new w1 B (ps := []); rw [hbk] at ho; exact ho)
    refine Oy.walk_q ?_ fun x29 => ?_
    · intro w1 hb hd K hK
      have h28 : (OneD [B]) [] x28 w1 := hd 2 (by kernel_rfl)
      obtain ⟨g0, rfl, hc0⟩ := h28
      have hkc := one_back w1 g0 _ hc0
      rw [show ([B]).length = 1 from rfl] at hkc ⊢
      clear hd hc0
      go_simp
      exact hK _ _ (Below.refl _ _) rfl
    refine Oy.walk_q ?_ fun x30 => ?_
    · intro w1 hb hd K hK
      clear hd
      go_simp
      exact hK _ _ (Below.refl _ _) rfl
    refine Oy.walk_q ?_ fun x31 => ?_
    · intro w1 hb hd K hK
      obtain rfl : _ = x30 := Eq.symm (hd 4 (by kernel_rfl))
      clear hd
      go_simp
      refine (HE.out w1).mono ?_
      rintro e w5 ⟨rfl, hb5⟩
      go_simp
      exact hK _ _ hb5 rfl
    refine Oy.walk_q ?_ fun x32 => ?_
    · intro w1 hb hd K hK
      obtain rfl : _ = x29 := Eq.symm (hd 3 (by kernel_rfl))
      obtain rfl : _ = x31 := Eq.symm (hd 5 (by kernel_rfl))
      clear hd
      go_simp
      rw [if_neg]
      · exact hK _ _ (Below.refl _ _) rfl
      · have := HES.out; have h4 : (⟨[B].toArray⟩ : ByteArray).size = 1 := rfl; omega
    refine Oy.walk_q ?_ fun x33 => ?_
    · intro w1 hb hd K hK
      clear hd
      go_simp
      exact hK _ _ (Below.refl _ _) rfl
    refine Oy.walk_q ?_ fun x34 => ?_
    · intro w1 hb hd K hK
      obtain rfl : _ = x32 := Eq.symm (hd 6 (by kernel_rfl))
      obtain rfl : _ = x33 := Eq.symm (hd 7 (by kernel_rfl))
      clear hd
      go_simp
      rw [if_neg]
      · exact hK _ _ (Below.refl _ _) rfl
      · have := HES.out; have h4 : (⟨[B].toArray⟩ : ByteArray).size = 1 := rfl; have h5 := ByteArray.size_append (a := ⟨[B].toArray⟩) (b := E); have := HLS.out; omega
    refine Oy.walk_q ?_ fun x35 => ?_
    · intro w1 hb hd K hK
      obtain rfl : _ = x34 := Eq.symm (hd 8 (by kernel_rfl))
      clear hd
      go_simp
      refine (HS.out w1).mono ?_
      rintro e w5 ⟨rfl, hb5⟩
      go_simp
      exact hK _ _ hb5 rfl
    refine Oy.walk_q ?_ fun x6 => ?_
    · intro w1 hb hd K hK
      obtain rfl : _ = x35 := Eq.symm (hd 9 (by kernel_rfl))
      clear hd
      go_simp
      exact hK _ _ (Below.refl _ _) rfl
    refine Oy.walk_q ?_ fun x7 => ?_
    · intro w1 hb hd K hK
      clear hd
      go_simp
      exact hK _ _ (Below.refl _ _) rfl
    refine Oy.walk_nil rfl (fun w1 hb hd => ?_)
    obtain rfl : _ = x26 := Eq.symm (hd 0 (by kernel_rfl))
    obtain rfl : _ = x27 := Eq.symm (hd 1 (by kernel_rfl))
    have h28 : (OneD [B]) [] x28 w1 := hd 2 (by kernel_rfl)
    obtain rfl : _ = x29 := Eq.symm (hd 3 (by kernel_rfl))
    obtain rfl : _ = x30 := Eq.symm (hd 4 (by kernel_rfl))
    obtain rfl : _ = x31 := Eq.symm (hd 5 (by kernel_rfl))
    obtain rfl : _ = x32 := Eq.symm (hd 6 (by kernel_rfl))
    obtain rfl : _ = x33 := Eq.symm (hd 7 (by kernel_rfl))
    obtain rfl : _ = x34 := Eq.symm (hd 8 (by kernel_rfl))
    obtain rfl : _ = x35 := Eq.symm (hd 9 (by kernel_rfl))
    obtain rfl : _ = x6 := Eq.symm (hd 10 (by kernel_rfl))
    obtain rfl : _ = x7 := Eq.symm (hd 11 (by kernel_rfl))
    clear hd
    have HBZ := Lib.hid (hW.out w1 hb)
    clear hb
    go_simp
    go_wp2
    go_ret2
    rw [HP.out, HSS.out]
    exact ⟨rfl, HBZ.out⟩
end Go.Proofs.Ytlbhkendbngmaaa.Wi
