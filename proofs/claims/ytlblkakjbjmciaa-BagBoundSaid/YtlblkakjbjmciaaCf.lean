/- Layer 16 as mathematics: datagrams. -/
import Derived.Test.YtlblkakjbjmciaaCe
namespace Go.Proofs.Ytlblkakjbjmciaa.Wi

def dataT (k : Nat) (n : Nat) (load : Bytes) : Bytes := UInt8.ofNat k :: (leN 8 n ++ load)
def packC (k : Int) (n : Nat) (load : Bytes) : Bytes × Int := if k < 1 ∨ 2 < k ∨ k = 2 ∧ load ≠ [] then ([], 1) else if 800 < load.length then ([], 4) else (sealC (dataT k.toNat n load), 0)
def headC (t : Bytes) : Nat := match t with | [] => 0 | b :: _ => b.toNat
def noData : Int × Nat × Bytes := (0, 0, [])
def unpackC (s : Bytes) : (Int × Nat × Bytes) × Int :=
  if (openC s).2 ≠ 0 then (noData, (openC s).2)
  else if (openC s).1.length < 9 ∨ (headC (openC s).1 ≠ 1 ∧ headC (openC s).1 ≠ 2) ∨ (headC (openC s).1 = 2 ∧ (openC s).1.length ≠ 9) then (noData, 1)
  else if 800 < (openC s).1.length - 9 then (noData, 4)
  else (((headC (openC s).1 : Nat), wordL (((openC s).1.drop 1).take 8), (openC s).1.drop 9), 0)
theorem data_len (k n : Nat) (load : Bytes) : (dataT k n load).length = 9 + load.length := by unfold dataT; rw [List.length_cons, List.length_append, leN_len]; omega
theorem pack_ok {k : Int} {n : Nat} {load : Bytes} (h : (packC k n load).2 = 0) : (k = 1 ∨ k = 2 ∧ load = []) ∧ load.length ≤ 800 ∧ (packC k n load).1 = sealC (dataT k.toNat n load) := by
  unfold packC at h ⊢
  by_cases h1 : k < 1 ∨ 2 < k ∨ k = 2 ∧ load ≠ []
  · rw [if_pos h1] at h; cases h
  · rw [if_neg h1] at h ⊢
    by_cases h2 : 800 < load.length
    · rw [if_pos h2] at h; cases h
    · rw [if_neg h2]
      refine ⟨?_, by omega, rfl⟩
      by_cases hk : k = 2
      · exact Or.inr ⟨hk, Classical.byContradiction fun hl => h1 (Or.inr (Or.inr ⟨hk, hl⟩))⟩
      · exact Or.inl (by omega)
theorem data_parts {k n : Nat} {load : Bytes} (hk : k < 256) (hn : n < 18446744073709551616) : headC (dataT k n load) = k ∧ wordL (((dataT k n load).drop 1).take 8) = n ∧ (dataT k n load).drop 9 = load := by
  refine ⟨?_, ?_, ?_⟩
  · show (UInt8.ofNat k).toNat = k
    rw [UInt8.toNat_ofNat']; omega
  · show wordL ((leN 8 n ++ load).take 8) = n
    rw [List.take_left' (leN_len 8 n), word_leN 8 n hn]
  · show (leN 8 n ++ load).drop 8 = load
    rw [List.drop_left' (leN_len 8 n)]
/-- what is packed is unpacked to what it was -/
theorem unpack_pack {k : Int} {n : Nat} {load : Bytes} (hn : n < 18446744073709551616) (h : (packC k n load).2 = 0) : unpackC (packC k n load).1 = ((k, n, load), 0) := by
  obtain ⟨h1, h2, h3⟩ := pack_ok h
  have hk : k.toNat < 256 := by omega
  obtain ⟨h4, h5, h6⟩ := data_parts (load := load) hk hn
  rw [h3]
  unfold unpackC
  rw [open_seal]
  simp only
  rw [if_neg (fun e => e rfl), if_neg, if_neg (by rw [data_len]; omega), h4, h5, h6]
  · rw [show ((k.toNat : Nat) : Int) = k by omega]
  · rw [h4, data_len]
    rcases h1 with h1 | ⟨h1, h7⟩
    · omega
    · rw [h7, List.length_nil]; omega
theorem open_sealed {s : Bytes} (h : (openC s).2 = 0) : sealC (openC s).1 = s := by
  unfold openC at h ⊢
  by_cases h1 : s.length < 4
  · rw [if_pos h1] at h; cases h
  · rw [if_neg h1] at h ⊢
    by_cases h2 : sealC (s.take (s.length - 4)) = s
    · rw [if_pos h2]; exact h2
    · rw [if_neg h2] at h; cases h
/-- what is unpacked is packed in the bytes that it was -/
theorem pack_unpack {s : Bytes} (h : (unpackC s).2 = 0) : packC (unpackC s).1.1 (unpackC s).1.2.1 (unpackC s).1.2.2 = (s, 0) ∧ (unpackC s).1.2.1 < 18446744073709551616 := by
  unfold unpackC at h ⊢
  by_cases h0 : (openC s).2 ≠ 0
  · rw [if_pos h0] at h; exact absurd h h0
  rw [if_neg h0] at h ⊢
  have hs := open_sealed (Classical.not_not.1 h0)
  generalize (openC s).1 = t at *
  by_cases h1 : t.length < 9 ∨ (headC t ≠ 1 ∧ headC t ≠ 2) ∨ (headC t = 2 ∧ t.length ≠ 9)
  · rw [if_pos h1] at h; cases h
  rw [if_neg h1] at h ⊢
  by_cases h2 : 800 < t.length - 9
  · rw [if_pos h2] at h; cases h
  rw [if_neg h2]
  have hl : 9 ≤ t.length := by omega
  have hw : ((t.drop 1).take 8).length = 8 := by rw [List.length_take, List.length_drop]; omega
  have ht : dataT (headC t) (wordL ((t.drop 1).take 8)) (t.drop 9) = t := by
    match t, hl with
    | b :: r, hl =>
      unfold dataT
      have hb : UInt8.ofNat (headC (b :: r)) = b := by
        apply UInt8.toNat_inj.1
        show (UInt8.ofNat b.toNat).toNat = b.toNat
        rw [UInt8.toNat_ofNat']; have := byte_lt8 b; omega
      have hq : leN 8 (wordL (((b :: r).drop 1).take 8)) = ((b :: r).drop 1).take 8 := by
        have := leN_word (((b :: r).drop 1).take 8)
        rw [hw] at this
        exact this
      rw [hb, hq]
      show b :: (r.take 8 ++ r.drop 8) = b :: r
      rw [List.take_append_drop]
  refine ⟨?_, word_lt8 hw⟩
  simp only
  unfold packC
  have hd : (t.drop 9).length = t.length - 9 := List.length_drop
  rw [if_neg, if_neg (by rw [hd]; omega), Int.toNat_natCast, ht, hs]
  rintro (h3 | h3 | ⟨h3, h4⟩)
  · omega
  · omega
  · exact h4 (List.eq_nil_of_length_eq_zero (by rw [hd]; omega))
/-- bits of a datagram that are turned are told -/
theorem data_turned {k : Int} {n : Nat} {load m : Bytes} {i j : Nat} (h : (packC k n load).2 = 0) (hm : m.length = 4) (hl : i + 4 + j = (packC k n load).1.length) (hz : m ≠ zerosL 4) : unpackC (xorL (packC k n load).1 (zerosL i ++ m ++ zerosL j)) = (noData, 13) := by
  obtain ⟨_, _, h3⟩ := pack_ok h
  rw [h3] at hl ⊢
  have ho := turned_told (dataT k.toNat n load) m i j hm hl hz
  unfold unpackC
  rw [ho]
  exact if_pos (by decide)
end Go.Proofs.Ytlblkakjbjmciaa.Wi
