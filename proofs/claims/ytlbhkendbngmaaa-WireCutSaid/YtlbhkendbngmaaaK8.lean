/- Layer 16: the law of a message's bytes that are cut off, or behind which a byte stands. -/
import Derived.Test.YtlbhkendbngmaaaK7
import Derived.Test.YtlbhkendbngmaaaJ9
import Derived.Test.YtlbhkendbngmaaaK6
namespace Go.Proofs.Ytlbhkendbngmaaa.Wi
open Go.RowKit
set_option maxRecDepth 100000

theorem msgT_pos (m : MsgM) : 0 < (msgT m).length := by
  unfold msgT
  rw [List.length_append]
  have : (intT m.kd).length = 1 := rfl
  omega
theorem no_in (w : World) : MsgIn w noMsg ⟨#[]⟩ (.slice none 0 0) (.slice none 0 0) (.slice none 0 0) (.slice none 0 0) (.slice none 0 0) (.slice none 0 0) :=
  ⟨rfl, by decide, by decide, nil_ints _, nil_ints _, nil_ints _, nil_ints _, nil_sets _, nil_pasts _, by decide, by decide, by decide, by decide, by decide, by decide⟩
set_option maxHeartbeats 8000000 in
theorem cut_law (w : World) (m : MsgM) (Q : List (PastM × Value)) (ev : ByteArray) (t s n v st ps : Value) (hm : MI w m Q ev t s n v st ps) (at_ : Nat) (hat : at_ < 65536) (mb : UInt8) :
    Calls Try.prog 8 #[msgV m ev t s n v st ps, .int .u16 at_, .int .u8 (mb.toNat : Nat)] w fun e w' => e = .returned (.bool true) ∧ Below w.heap.size w w' := by
  obtain ⟨A0, c0, rfl⟩ := hm.tr.form
  obtain ⟨A1, c1, rfl⟩ := hm.ss.form
  obtain ⟨A2, c2, rfl⟩ := hm.en.form
  obtain ⟨A3, c3, rfl⟩ := hm.vs.form
  obtain ⟨A4, c4, rfl⟩ := hm.sets.form
  obtain ⟨A5, c5, rfl⟩ := hm.pasts.form
  obtain ⟨P, hP⟩ : ∃ P, P = w.heap.size := ⟨_, rfl⟩
  obtain ⟨w0, hw⟩ : ∃ W, W = w.alloc (.cells #[.int .i64 m.kd, .int .u64 m.step, .string ev, .slice A0 m.tr.length c0, .slice A1 m.ss.length c1, .slice A2 m.en.length c2, .slice A3 m.vs.length c3, .slice A4 m.sets.length c4, .slice A5 Q.length c5] 27) := ⟨_, rfl⟩
  have hb0 : Below w.heap.size w w0 := by rw [hw]; exact (Below.refl _ _).alloc (Nat.le_refl _) _
  have q0 : w0.cell? ⟨P, 0, none⟩ = some (.int .i64 m.kd) := by rw [hw, hP]; exact (cell_of_row _ _ 0 _ _ _ (heap_alloc_new w _)).trans rfl
  have q1 : w0.cell? ⟨P, 1, none⟩ = some (.int .u64 m.step) := by rw [hw, hP]; exact (cell_of_row _ _ 1 _ _ _ (heap_alloc_new w _)).trans rfl
  have q2 : w0.cell? ⟨P, 2, none⟩ = some (.string ev) := by rw [hw, hP]; exact (cell_of_row _ _ 2 _ _ _ (heap_alloc_new w _)).trans rfl
  have q3 : w0.cell? ⟨P, 3, none⟩ = some (.slice A0 m.tr.length c0) := by rw [hw, hP]; exact (cell_of_row _ _ 3 _ _ _ (heap_alloc_new w _)).trans rfl
  have q4 : w0.cell? ⟨P, 4, none⟩ = some (.slice A1 m.ss.length c1) := by rw [hw, hP]; exact (cell_of_row _ _ 4 _ _ _ (heap_alloc_new w _)).trans rfl
  have q5 : w0.cell? ⟨P, 5, none⟩ = some (.slice A2 m.en.length c2) := by rw [hw, hP]; exact (cell_of_row _ _ 5 _ _ _ (heap_alloc_new w _)).trans rfl
  have q6 : w0.cell? ⟨P, 6, none⟩ = some (.slice A3 m.vs.length c3) := by rw [hw, hP]; exact (cell_of_row _ _ 6 _ _ _ (heap_alloc_new w _)).trans rfl
  have q7 : w0.cell? ⟨P, 7, none⟩ = some (.slice A4 m.sets.length c4) := by rw [hw, hP]; exact (cell_of_row _ _ 7 _ _ _ (heap_alloc_new w _)).trans rfl
  have q8 : w0.cell? ⟨P, 8, none⟩ = some (.slice A5 Q.length c5) := by rw [hw, hP]; exact (cell_of_row _ _ 8 _ _ _ (heap_alloc_new w _)).trans rfl
  have HCP : Hid (Calls Try.prog 10 #[.agg #[.int .i64 m.kd, .int .u64 m.step, .string ev, .slice A0 m.tr.length c0, .slice A1 m.ss.length c1, .slice A2 m.en.length c2, .slice A3 m.vs.length c3, .slice A4 m.sets.length c4, .slice A5 Q.length c5]] w0 fun e w' => (∃ t' s' n' v' st' ps', e = .returned (msgV m ev t' s' n' v' st' ps') ∧ MsgIn w' m ev t' s' n' v' st' ps') ∧ Below w0.heap.size w0 w') := Lib.hid (copied_any w0 m Q ev _ _ _ _ _ _ (hm.below hb0))
  obtain ⟨⟨l, er⟩, hd⟩ : ∃ z, encodeM m = z := ⟨_, rfl⟩
  have hlen := enc_len m
  have hpos : er = 0 → 0 < l.length := fun h => by
    have := encode_ok (m := m) (by rw [hd]; exact h)
    rw [hd] at this
    obtain ⟨_, _, h3⟩ := this
    rw [show l = msgT m from h3]
    exact msgT_pos m
  have hnone : er ≠ 0 → l = [] := fun h => by
    unfold encodeM at hd
    split at hd
    · injection hd with h1 _; exact h1.symm
    · split at hd
      · injection hd with h1 _; exact h1.symm
      · injection hd with _ h2; exact absurd h2.symm h
  have hcut : er = 0 → ∀ k, k < l.length → decodeM (l.take k) = (noMsg, 1) := fun h k hk => by
    have := cut_told (m := m) (by rw [hd]; exact h) (k := k) (by rw [hd]; exact hk)
    rw [hd] at this; exact this
  have hmore : er = 0 → ∀ b, decodeM (l ++ [b]) = (noMsg, 1) ∨ decodeM (l ++ [b]) = (noMsg, 4) ∧ l.length = 800 := fun h b => by
    have := more_told (m := m) (by rw [hd]; exact h) b
    rw [hd] at this; exact this
  have henc := fun (W : World) (t s n v st ps : Value) (h : MsgIn W m ev t s n v st ps) => encode_any W m ev t s n v st ps h
  obtain ⟨S, hS, hSl, hSz⟩ := bstr_eq l
  rw [hd] at henc hlen
  have HENC : Hid (∀ (W : World) (t s n v st ps : Value) (_ : MsgIn W m ev t s n v st ps), Calls Try.prog 9 #[msgV m ev t s n v st ps] W fun e w' => e = .returned (.tuple #[.string S, .int .i64 er]) ∧ Below W.heap.size W w') := Lib.hid (by
    have : (⟨l.toArray⟩ : ByteArray) = S := data_inj (by rw [hSl])
    rw [← this]; exact henc)
  have hlen2 : S.size ≤ 800 := by rw [hSz]; exact hlen
  have HW := Lib.hid wakes_any
  have HP := Lib.hid hP; have HW0 := Lib.hid hw; have HB0 := Lib.hid hb0; have HPOS := Lib.hid hpos; have HNO := Lib.hid hnone; have HCUT := Lib.hid hcut; have HMORE := Lib.hid hmore; have HSL := Lib.hid hSl; have HSZ := Lib.hid hSz
  clear hP hw hb0 hpos hnone hcut hmore henc hlen hd hS hSl hSz hm
  unfold msgV
  go_enter Try.func8, Try.ntmps8
  go_upto_region 1 with fail
  rw [← HW0.out, ← HP.out]
  go_wp2_with fail
  refine HCP.out.mono ?_
  rintro e w1 ⟨⟨t1, s1, n1, v1, st1, ps1, rfl, hmi⟩, hb1⟩
  have HE := Lib.hid (HENC.out w1 t1 s1 n1 v1 st1 ps1 hmi)
  have HB1 := Lib.hid (HB0.out.trans (hb1.mono HB0.out.size))
  clear hmi hb1 HENC HCP HB0 q0 q1 q2 q3 q4 q5 q6 q7 q8
  go_wp2_with fail
  refine HE.out.mono ?_
  rintro e w2 ⟨rfl, hb2⟩
  have HB2 := Lib.hid (HB1.out.trans (hb2.mono HB1.out.size))
  clear hb2 HE HB1
  go_wp2_with fail
  refine (HW.out _).mono ?_
  rintro e w3 ⟨rfl, hb3⟩
  have HB3 := Lib.hid (HB2.out.trans (hb3.mono HB2.out.size))
  clear hb3 HW HB2
  by_cases he : er = 0
  rotate_left
  · have heb : (er == 0) = false := beq_eq_false_iff_ne.2 he
    have heb2 : (er != 0) = true := by rw [bne, heb]; rfl
    obtain ⟨e1, e2, e3⟩ := no_str (S := S) (by rw [HSL.out]; exact HNO.out he)
    clear HNO HPOS HCUT HMORE hlen2
    go_wp2
    go_ret
    exact ⟨rfl, HB3.out⟩
  have hp := HPOS.out he
  have hS0 : 0 < S.size := by rw [HSZ.out]; exact hp
  obtain ⟨k, hk⟩ : ∃ k, k = at_ % S.size := ⟨_, rfl⟩
  have hk2 : k < S.size := by rw [hk]; exact Nat.mod_lt _ hS0
  have hnz : ¬ (S.size : Int) = 0 := by omega
  have hrem : (at_ : Int).tmod (S.size : Int) = (k : Int) := by rw [hk, Int.tmod_eq_emod_of_nonneg (by omega)]; rfl
  have hk3 : (k : Int) ≤ (S.size : Int) := by omega
  have hk4 : ¬ (S.size : Int) < k := by omega
  have hk5 : k ≤ S.size := by omega
  have hSe : S = ⟨l.toArray⟩ := data_inj (by rw [HSL.out])
  have hx : (S.extract 0 k).data.toList = l.take k := by rw [hSe, ext_take]
  have hx2 : (S.extract 0 k).size ≤ 4611686018427387904 := by rw [Lib.size_eq, hx, List.length_take, ← HSZ.out]; omega
  have hd1 := fun w => decode_any (S.extract 0 k) w hx2
  rw [hx, HCUT.out he k (by rw [← HSZ.out]; exact hk2)] at hd1
  have HD1 : Hid (∀ w, Calls Try.prog 13 #[.string (S.extract 0 k)] w fun e w' => (∃ v, e = .returned (.tuple #[v, .int .i64 1]) ∧ MsgO w.heap.size w' noMsg v) ∧ Below w.heap.size w w') := Lib.hid hd1
  have hy : (S ++ (⟨#[mb]⟩ : ByteArray)).data.toList = l ++ [mb] := bstr_add S mb HSL.out
  have hy2 : (S ++ (⟨#[mb]⟩ : ByteArray)).size ≤ 4611686018427387904 := by rw [Lib.size_eq, hy, List.length_append, ← HSZ.out]; simp; omega
  have hd2 := fun w => decode_any (S ++ (⟨#[mb]⟩ : ByteArray)) w hy2
  rw [hy] at hd2
  have HB := Lib.hid (HMORE.out he mb)
  obtain ⟨cc, hcc⟩ : ∃ c, (decodeM (l ++ [mb])).2 = c := ⟨_, rfl⟩
  have hno : (decodeM (l ++ [mb])).1 = noMsg := by rcases HB.out with h | ⟨h, _⟩ <;> rw [h]
  have hc2 : cc = 1 ∨ cc = 4 ∧ S.size = 800 := by
    rw [← hcc]
    rcases HB.out with h | ⟨h, h2⟩
    · exact Or.inl (by rw [h])
    · exact Or.inr ⟨by rw [h], by rw [HSZ.out, h2]⟩
  rw [hno, hcc] at hd2
  have HD2 := Lib.hid hd2
  have HC2 := Lib.hid hc2
  subst he
  have heb : ((0 : Int) == 0) = true := rfl
  have hsz : (S.size : Int) + ((⟨#[mb]⟩ : ByteArray).size : Int) ≤ 9223372036854775807 := by
    show (S.size : Int) + ((1 : Nat) : Int) ≤ _; omega
  clear hd1 hd2 hx hx2 hy hy2 HB hno hcc hc2 hp hk hSe HPOS HNO HCUT HMORE hk2
  go_wp2_with fail
  refine (HD1.out _).mono ?_
  rintro e w4 ⟨⟨v, rfl, hmo⟩, hb4⟩
  have HB4 := Lib.hid (HB3.out.trans (hb4.mono HB3.out.size))
  obtain ⟨t3, t4, t5, t6, t7, t8, rfl, hmi⟩ := hmo.rd small_no
  obtain ⟨A3, C3, e3⟩ := hmi.tr.form
  obtain ⟨A4, C4, e4⟩ := hmi.ss.form
  obtain ⟨A5, C5, e5⟩ := hmi.en.form
  obtain ⟨A6, C6, e6⟩ := hmi.vs.form
  obtain ⟨A7, C7, e7⟩ := hmi.sets.form
  obtain ⟨A8, C8, e8⟩ := hmi.pasts.form
  replace e3 : t3 = .slice A3 0 C3 := e3
  replace e4 : t4 = .slice A4 0 C4 := e4
  replace e5 : t5 = .slice A5 0 C5 := e5
  replace e6 : t6 = .slice A6 0 C6 := e6
  replace e7 : t7 = .slice A7 0 C7 := e7
  replace e8 : t8 = .slice A8 0 C8 := e8
  subst e3 e4 e5 e6 e7 e8
  have hv : msgV noMsg ⟨noMsg.ev.toArray⟩ (.slice A3 0 C3) (.slice A4 0 C4) (.slice A5 0 C5) (.slice A6 0 C6) (.slice A7 0 C7) (.slice A8 0 C8) = .agg #[.int .i64 0, .int .u64 0, .string ⟨#[]⟩, .slice A3 0 C3, .slice A4 0 C4, .slice A5 0 C5, .slice A6 0 C6, .slice A7 0 C7, .slice A8 0 C8] := rfl
  rw [hv]
  obtain ⟨X, hX⟩ : ∃ X, X = w4.heap.size := ⟨_, rfl⟩
  obtain ⟨w5, hwa⟩ : ∃ W, W = w4.alloc (.cells #[.int .i64 0, .int .u64 0, .string ⟨#[]⟩, .slice A3 0 C3, .slice A4 0 C4, .slice A5 0 C5, .slice A6 0 C6, .slice A7 0 C7, .slice A8 0 C8] 27) := ⟨_, rfl⟩
  have hba : Below w4.heap.size w4 w5 := by rw [hwa]; exact (Below.refl _ _).alloc (Nat.le_refl _) _
  have HB5 := Lib.hid (HB4.out.trans (hba.mono HB4.out.size))
  have HXX := Lib.hid hX; have HWA := Lib.hid hwa
  clear hmo hb4 hmi hv hX hwa hba HD1 HB4 HB3
  have hkc := one_conv w5 mb
  go_upto_region 7 with fail
  rw [← HWA.out, ← HXX.out]
  clear hrem hnz hk3 hk4 hk5 hat
  go_wp2_with fail
  refine (HD2.out _).mono ?_
  rintro e w6 ⟨⟨v, rfl, hmo⟩, hb6⟩
  have hb56 : Below w5.heap.size w5 w6 := ((Below.refl w5.heap.size w5).alloc (Nat.le_refl _) _).trans (hb6.mono (by simp))
  have HB6 := Lib.hid (HB5.out.trans (hb56.mono HB5.out.size))
  obtain ⟨t3, t4, t5, t6, t7, t8, rfl, hmi⟩ := hmo.rd small_no
  obtain ⟨B3, D3, e3⟩ := hmi.tr.form
  obtain ⟨B4, D4, e4⟩ := hmi.ss.form
  obtain ⟨B5, D5, e5⟩ := hmi.en.form
  obtain ⟨B6, D6, e6⟩ := hmi.vs.form
  obtain ⟨B7, D7, e7⟩ := hmi.sets.form
  obtain ⟨B8, D8, e8⟩ := hmi.pasts.form
  replace e3 : t3 = .slice B3 0 D3 := e3
  replace e4 : t4 = .slice B4 0 D4 := e4
  replace e5 : t5 = .slice B5 0 D5 := e5
  replace e6 : t6 = .slice B6 0 D6 := e6
  replace e7 : t7 = .slice B7 0 D7 := e7
  replace e8 : t8 = .slice B8 0 D8 := e8
  subst e3 e4 e5 e6 e7 e8
  have hv : msgV noMsg ⟨noMsg.ev.toArray⟩ (.slice B3 0 D3) (.slice B4 0 D4) (.slice B5 0 D5) (.slice B6 0 D6) (.slice B7 0 D7) (.slice B8 0 D8) = .agg #[.int .i64 0, .int .u64 0, .string ⟨#[]⟩, .slice B3 0 D3, .slice B4 0 D4, .slice B5 0 D5, .slice B6 0 D6, .slice B7 0 D7, .slice B8 0 D8] := rfl
  rw [hv]
  obtain ⟨Y, hX⟩ : ∃ X, X = w6.heap.size := ⟨_, rfl⟩
  obtain ⟨w7, hwa⟩ : ∃ W, W = w6.alloc (.cells #[.int .i64 0, .int .u64 0, .string ⟨#[]⟩, .slice B3 0 D3, .slice B4 0 D4, .slice B5 0 D5, .slice B6 0 D6, .slice B7 0 D7, .slice B8 0 D8] 27) := ⟨_, rfl⟩
  have hba : Below w6.heap.size w6 w7 := by rw [hwa]; exact (Below.refl _ _).alloc (Nat.le_refl _) _
  have p0 : w7.cell? ⟨Y, 0, none⟩ = some (.int .i64 0) := by rw [hwa, hX]; exact (cell_of_row _ _ 0 _ _ _ (heap_alloc_new w6 _)).trans rfl
  have p1 : w7.cell? ⟨Y, 1, none⟩ = some (.int .u64 0) := by rw [hwa, hX]; exact (cell_of_row _ _ 1 _ _ _ (heap_alloc_new w6 _)).trans rfl
  have p2 : w7.cell? ⟨Y, 2, none⟩ = some (.string ⟨#[]⟩) := by rw [hwa, hX]; exact (cell_of_row _ _ 2 _ _ _ (heap_alloc_new w6 _)).trans rfl
  have p3 : w7.cell? ⟨Y, 3, none⟩ = some (.slice B3 0 D3) := by rw [hwa, hX]; exact (cell_of_row _ _ 3 _ _ _ (heap_alloc_new w6 _)).trans rfl
  have p4 : w7.cell? ⟨Y, 4, none⟩ = some (.slice B4 0 D4) := by rw [hwa, hX]; exact (cell_of_row _ _ 4 _ _ _ (heap_alloc_new w6 _)).trans rfl
  have p5 : w7.cell? ⟨Y, 5, none⟩ = some (.slice B5 0 D5) := by rw [hwa, hX]; exact (cell_of_row _ _ 5 _ _ _ (heap_alloc_new w6 _)).trans rfl
  have p6 : w7.cell? ⟨Y, 6, none⟩ = some (.slice B6 0 D6) := by rw [hwa, hX]; exact (cell_of_row _ _ 6 _ _ _ (heap_alloc_new w6 _)).trans rfl
  have p7 : w7.cell? ⟨Y, 7, none⟩ = some (.slice B7 0 D7) := by rw [hwa, hX]; exact (cell_of_row _ _ 7 _ _ _ (heap_alloc_new w6 _)).trans rfl
  have p8 : w7.cell? ⟨Y, 8, none⟩ = some (.slice B8 0 D8) := by rw [hwa, hX]; exact (cell_of_row _ _ 8 _ _ _ (heap_alloc_new w6 _)).trans rfl
  have HB7 := Lib.hid (HB6.out.trans (hba.mono HB6.out.size))
  have HYY := Lib.hid hX; have HWB := Lib.hid hwa
  have HSAME : Hid (Calls Try.prog 14 #[.agg #[.int .i64 0, .int .u64 0, .string ⟨#[]⟩, .slice B3 0 D3, .slice B4 0 D4, .slice B5 0 D5, .slice B6 0 D6, .slice B7 0 D7, .slice B8 0 D8], .agg #[.int .i64 0, .int .u64 0, .string ⟨#[]⟩, .slice none 0 0, .slice none 0 0, .slice none 0 0, .slice none 0 0, .slice none 0 0, .slice none 0 0]] w7 fun e w' => e = .returned (.bool true) ∧ Below w7.heap.size w7 w') := Lib.hid (refSame_any w7 noMsg ⟨#[]⟩ _ _ _ _ _ _ _ _ _ _ _ _ (hmi.below hba) (no_in w7))
  clear hmo hb6 hb56 hmi hv hX hwa hba HD2 HB5 HB6 hkc hsz hS0
  go_upto_region 8 with fail
  rw [← HWB.out, ← HYY.out]
  rcases HC2.out with hc | ⟨hc, h800⟩
  · subst hc
    clear HC2
    go_wp2_with fail
    refine HSAME.out.mono ?_
    rintro e w8 ⟨rfl, hb8⟩
    have HB8 := Lib.hid (HB7.out.trans (hb8.mono HB7.out.size))
    clear hb8 HSAME HB7
    go_wp2
    go_ret
    exact ⟨rfl, HB8.out⟩
  · subst hc
    have h8 : ((S.size : Int) == 800) = true := by rw [h800]; rfl
    clear HC2
    go_wp2_with fail
    refine HSAME.out.mono ?_
    rintro e w8 ⟨rfl, hb8⟩
    have HB8 := Lib.hid (HB7.out.trans (hb8.mono HB7.out.size))
    clear hb8 HSAME HB7
    go_wp2
    go_ret
    exact ⟨rfl, HB8.out⟩
end Go.Proofs.Ytlbhkendbngmaaa.Wi
