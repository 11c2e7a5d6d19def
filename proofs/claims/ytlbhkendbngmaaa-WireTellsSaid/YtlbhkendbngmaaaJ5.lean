/- Layer 16: the document's Unpack. -/
import Derived.Test.YtlbhkendbngmaaaJ4
namespace Go.Proofs.Ytlbhkendbngmaaa.Wi
open Go.RowKit
set_option maxRecDepth 100000

set_option maxHeartbeats 1600000 in
theorem refUnpack_any (s : ByteArray) (w : World) (hs : s.size ≤ 140737488355328) :
    Calls Try.prog 19 #[.string s] w fun e w' => e = .returned (.tuple #[.int .i64 (unpackC s.data.toList).1.1, .int .u64 ((unpackC s.data.toList).1.2.1 : Nat), bstr (unpackC s.data.toList).1.2.2, .int .i64 (unpackC s.data.toList).2]) ∧ Below w.heap.size w w' := by
  have hol := open_len s.data.toList
  rw [← Lib.size_eq] at hol
  have HO := Lib.hid (refOpen_any s w (by omega))
  have HUE : Hid (unpackC s.data.toList = _) := rfl
  unfold unpackC at HUE
  have hue := HUE.out
  clear HUE
  obtain ⟨t, ht⟩ : ∃ t, (openC s.data.toList).1 = t := ⟨_, rfl⟩
  obtain ⟨er, her⟩ : ∃ er, (openC s.data.toList).2 = er := ⟨_, rfl⟩
  rw [ht, her] at HO
  have hue2 : unpackC s.data.toList = if er ≠ 0 then (noData, er) else if t.length < 9 ∨ (headC t ≠ 1 ∧ headC t ≠ 2) ∨ (headC t = 2 ∧ t.length ≠ 9) then (noData, 1) else if 800 < t.length - 9 then (noData, 4) else (((headC t : Nat), wordL ((t.drop 1).take 8), t.drop 9), 0) := by
    unfold unpackC
    rw [ht, her]
  clear hue
  have HUE := Lib.hid hue2
  rw [ht] at hol
  clear ht her hue2
  have hsz := bsz t
  have hwr1 : IntKind.i64.wrap 1 = 1 := by decide
  have hwr2 : IntKind.i64.wrap 2 = 2 := by decide
  go_enter Try.func19, Try.ntmps19
  go_wp2_with fail
  refine HO.out.mono ?_
  rintro e w1 ⟨rfl, hb1⟩
  have HB1 := Lib.hid hb1
  clear hb1 HO
  by_cases he : er = 0
  · subst he
    have hu := HUE.out.trans (if_neg (fun h => h rfl))
    by_cases h9 : t.length < 9
    · have h9i : (t.length : Int) < 9 := by omega
      have h9b : decide ((t.length : Int) < 9) = true := decide_eq_true h9i
      have HU := Lib.hid (hu.trans (if_pos (Or.inl h9)))
      clear hu HUE
      go_wp2
      refine bodyPost_ret (v := .tuple #[.int .i64 0, .int .u64 0, .string ⟨#[]⟩, .int .i64 1]) (by simp [results, Try.results19, go_sem]) rfl ⟨?_, HB1.out⟩
      rw [HU.out]
      rfl
    · have h9i : ¬ (t.length : Int) < 9 := by omega
      have h9b : decide ((t.length : Int) < 9) = false := decide_eq_false h9i
      obtain ⟨x, hx⟩ : ∃ x, headC t = x := ⟨_, rfl⟩
      have hix : ∀ h : 0 < (⟨t.toArray⟩ : ByteArray).size, ((⟨t.toArray⟩ : ByteArray)[0]).toNat = x := fun h => by
        rw [← hx]
        cases t with
        | nil => simp at h9
        | cons b r => rfl
      have hsz2 : (⟨t.toArray⟩ : ByteArray).size = t.length := rfl
      have hx256 : x < 256 := by
        rw [← hx]
        cases t with
        | nil => show 0 < 256; decide
        | cons b r => exact byte_lt8 b
      have h0 := hix (by rw [hsz2]; omega)
      rw [hx] at hu
      obtain ⟨T, hT⟩ : ∃ T : ByteArray, T = ⟨t.toArray⟩ := ⟨_, rfl⟩
      have HT := Lib.hid hT
      rw [← hT]
      have hTs : t.length = T.size := by rw [hT]; rfl
      have h0T : ∀ h : 0 < T.size, (T[0]).toNat = x := by rw [hT]; exact hix
      have h9t : ¬ (T.size : Int) < 9 := by omega
      have hpos : 0 < T.size := by rw [← hTs]; omega
      have h1T := h0T hpos
      have hposi : (0 : Int) < (T.size : Int) := by omega
      clear hix hsz2 h0 hT HUE hsz h0T
      have hbig : (T.size : Int) ≤ 4611686018427387904 := by omega
      clear hol
      by_cases hx12 : x = 1 ∨ x = 2
      · by_cases hx2 : x = 2 ∧ t.length ≠ 9
        · have HU := Lib.hid (hu.trans (if_pos (Or.inr (Or.inr hx2))))
          obtain ⟨rfl, hne⟩ := hx2
          have hnb : ((T.size : Int) == 9) = false := beq_eq_false_iff_ne.2 (by omega)
          have hnb2 : ((T.size : Int) != 9) = true := by rw [bne, hnb]; rfl
          have h1i : (T[0].toNat : Int) = 2 := by omega
          clear hu hx12 h1T hne hx256
          go_wp2
          refine bodyPost_ret (v := .tuple #[.int .i64 0, .int .u64 0, .string ⟨#[]⟩, .int .i64 1]) (by simp [results, Try.results19, go_sem]) rfl ⟨?_, HB1.out⟩
          rw [HU.out]
          rfl
        · have hu2 := hu.trans (if_neg (by
            rintro (h | ⟨h, h'⟩ | h)
            · exact h9 h
            · rcases hx12 with k | k
              · exact h k
              · exact h' k
            · exact hx2 h))
          have hsub : IntKind.i64.wrap ((T.size : Int) - 9) = ((T.size - 9 : Nat) : Int) := by rw [show ((T.size : Int) - 9) = ((T.size - 9 : Nat) : Int) by omega]; exact IntWalk.i64_in _ (by omega)
          have hnum := fun w => refNumber_any (T.extract 1 9) w (by rw [ByteArray.size_extract]; omega)
          have he1 : (T.extract 1 9).data.toList = (t.drop 1).take 8 := by rw [HT.out]; simp [ByteArray.data_extract]
          have he2 : (T.extract 9 T.size).data.toList = t.drop 9 := by rw [HT.out, bsz, ext_drop]
          rw [he1] at hnum
          have HNU := Lib.hid hnum; have HE2 := Lib.hid (str_bstr he2)
          have hlen9 : (9 : Int) ≤ (T.size : Int) := by omega
          have hlen9n : 9 ≤ T.size := by omega
          by_cases h8 : 800 < t.length - 9
          · have HU := Lib.hid (hu2.trans (if_pos h8))
            have h8i : (800 : Int) < ((T.size - 9 : Nat) : Int) := by omega
            have h8j : (800 : Int) < (T.size : Int) - 9 := by omega
            clear hu hu2 hnum he1 he2
            rcases hx12 with rfl | rfl
            · have h1i : (T[0].toNat : Int) = 1 := by omega
              clear h1T hx2 hx256
              go_wp2
              refine bodyPost_ret (v := .tuple #[.int .i64 0, .int .u64 0, .string ⟨#[]⟩, .int .i64 4]) (by simp [results, Try.results19, go_sem]) rfl ⟨?_, HB1.out⟩
              rw [HU.out]
              rfl
            · have h1i : (T[0].toNat : Int) = 2 := by omega
              have h99 : T.size = 9 := by
                apply Classical.byContradiction
                intro hc
                exact hx2 ⟨rfl, by omega⟩
              omega
          · have HU := Lib.hid (hu2.trans (if_neg h8))
            have h8i : ¬ (800 : Int) < ((T.size - 9 : Nat) : Int) := by omega
            have h8j : ¬ (800 : Int) < (T.size : Int) - 9 := by omega
            clear hu hu2 hnum he1 he2
            rcases hx12 with rfl | rfl
            · have h1i : (T[0].toNat : Int) = 1 := by omega
              clear h1T hx2 hx256
              go_upto_region 8 with fail
              go_quiet ((go_at_call 29; exact Calls.quiet_of_same (HNU.out _)))
              go_wp2
              refine bodyPost_ret (v := .tuple #[.int .i64 1, .int .u64 (wordL ((t.drop 1).take 8) : Nat), .string (T.extract 9 T.size), .int .i64 0]) (by simp [results, Try.results19, go_sem]) rfl ⟨?_, below_drewN HB1.out _⟩
              rw [HU.out]
              rw [show Value.string (T.extract 9 T.size) = bstr (t.drop 9) from HE2.out]
              rfl
            · have h1i : (T[0].toNat : Int) = 2 := by omega
              have h99 : (T.size : Int) = 9 := by
                apply Classical.byContradiction
                intro hc
                exact hx2 ⟨rfl, by omega⟩
              have h99b : ((T.size : Int) == 9) = true := by rw [h99]; rfl
              clear h1T hx2 hx256
              go_upto_region 8 with fail
              go_quiet ((go_at_call 29; exact Calls.quiet_of_same (HNU.out _)))
              go_wp2
              refine bodyPost_ret (v := .tuple #[.int .i64 2, .int .u64 (wordL ((t.drop 1).take 8) : Nat), .string (T.extract 9 T.size), .int .i64 0]) (by simp [results, Try.results19, go_sem]) rfl ⟨?_, below_drewN HB1.out _⟩
              rw [HU.out]
              rw [show Value.string (T.extract 9 T.size) = bstr (t.drop 9) from HE2.out]
              rfl
      · have HU := Lib.hid (hu.trans (if_pos (Or.inr (Or.inl ⟨fun h => hx12 (Or.inl h), fun h => hx12 (Or.inr h)⟩))))
        have hb1 : ((x : Int) == 1) = false := beq_eq_false_iff_ne.2 (by omega)
        have hb2 : ((x : Int) == 2) = false := beq_eq_false_iff_ne.2 (by omega)
        have hn1 : ¬ x = 1 := fun h => hx12 (Or.inl h)
        have hn2 : ¬ x = 2 := fun h => hx12 (Or.inr h)
        have hn3 : ¬ (x : Int) = 1 := by omega
        have hn4 : ¬ (x : Int) = 2 := by omega
        have hq1 : (x == 1) = false := beq_eq_false_iff_ne.2 hn1
        have hq2 : (x == 2) = false := beq_eq_false_iff_ne.2 hn2
        clear hu hx12
        go_wp2
        refine bodyPost_ret (v := .tuple #[.int .i64 0, .int .u64 0, .string ⟨#[]⟩, .int .i64 1]) (by simp [results, Try.results19, go_sem]) rfl ⟨?_, HB1.out⟩
        rw [HU.out]
        rfl
  · have heb : (er == 0) = false := beq_eq_false_iff_ne.2 he
    have heb2 : (er != 0) = true := by rw [bne, heb]; rfl
    have HU := Lib.hid (HUE.out.trans (if_pos he))
    clear HUE
    go_wp2
    refine bodyPost_ret (v := .tuple #[.int .i64 0, .int .u64 0, .string ⟨#[]⟩, .int .i64 er]) (by simp [results, Try.results19, go_sem]) rfl ⟨?_, HB1.out⟩
    rw [HU.out]
    rfl
end Go.Proofs.Ytlbhkendbngmaaa.Wi
