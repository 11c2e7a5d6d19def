/- Layer 16: the writer: a message; Encode. -/
import Derived.Test.YtlbhkendbngmaaaJg
namespace Go.Proofs.Ytlbhkendbngmaaa.Wi
open Go.RowKit
set_option maxRecDepth 100000

/-- a message's nine cells -/
structure MsgIn (w : World) (m : MsgM) (ev : ByteArray) (t s n v st ps : Value) : Prop where
  evd : ev.data.toList = m.ev
  evl : ev.size ≤ 4611686018427387904
  step : m.step < 18446744073709551616
  tr : RdL w t m.tr
  ss : RdL w s m.ss
  en : RdL w n m.en
  vs : RdL w v m.vs
  sets : RdS w st m.sets
  pasts : RdP w ps m.pasts
  ltr : m.tr.length ≤ 4611686018427387904
  lss : m.ss.length ≤ 4611686018427387904
  len : m.en.length ≤ 4611686018427387904
  lvs : m.vs.length ≤ 4611686018427387904
  lst : m.sets.length ≤ 4611686018427387904
  lps : m.pasts.length ≤ 4611686018427387904
theorem MsgIn.below {w w' : World} {m : MsgM} {ev : ByteArray} {t s n v st ps : Value} (h : MsgIn w m ev t s n v st ps) (hb : Below w.heap.size w w') : MsgIn w' m ev t s n v st ps :=
  ⟨h.evd, h.evl, h.step, h.tr.below hb, h.ss.below hb, h.en.below hb, h.vs.below hb, h.sets.below hb, h.pasts.below hb, h.ltr, h.lss, h.len, h.lvs, h.lst, h.lps⟩
theorem RdL.form {w : World} {v : Value} {l : List Int} (h : RdL w v l) : ∃ A c, v = .slice A l.length c := by obtain ⟨A, c, h, _⟩ := h; exact ⟨A, c, h⟩
theorem RdS.form {w : World} {v : Value} {l : List SetM} (h : RdS w v l) : ∃ A c, v = .slice A l.length c := by obtain ⟨A, c, h, _⟩ := h; exact ⟨A, c, h⟩
theorem RdP.form {w : World} {v : Value} {l : List PastM} (h : RdP w v l) : ∃ A c, v = .slice A l.length c := by obtain ⟨A, c, h, _⟩ := h; exact ⟨A, c, h⟩
theorem event_w {w0 w : World} {g : Nat} {L : Bytes} {b : Bool} (h : WW w0 g L b w) (s : ByteArray) (hs : s.size ≤ 4611686018427387904) (hL : L.length ≤ 900000) :
    Calls Try.prog 41 #[wp_ g, .string s] w fun e w' => e = .returned (.tuple #[]) ∧ Wrote w0 g L b (s.data.toList.length ≤ 20) (evT s.data.toList) 21 w w' :=
  (event_any h s hs hL).mono fun e w' hh => by
    obtain ⟨h1, h2, h3, h4⟩ := hh
    have hl : s.data.toList.length = s.size := (Lib.size_eq s).symm
    refine ⟨h1, ?_⟩
    rw [hl]
    cases hd : (b || decide (20 < s.size))
    · have hb : b = false := by cases b <;> simp_all
      have h20 : s.size ≤ 20 := by cases b <;> simp_all
      refine ⟨_, false, h4 hd, by simp [hb, h20], fun _ => ?_, by rw [List.length_append, List.length_cons, hl]; omega, h2⟩
      unfold evT
      rw [hl]
      have := low_int (n := (s.size : Int)) (k := 20) (by decide) (by unfold okI; omega)
      unfold intT at this
      rw [Int.toNat_natCast] at this
      rw [← this]; rfl
    · refine ⟨_, true, h3 hd, ?_, (fun e => by cases e), by rw [List.length_append]; simp, h2⟩
      constructor
      · intro e; cases e
      · rintro ⟨hb, h20⟩
        exfalso
        rw [hb, Bool.false_or, decide_eq_true_iff] at hd
        omega
set_option maxHeartbeats 2000000 in
theorem message_any {w0 w : World} {g : Nat} {L : Bytes} {b : Bool} (h : WW w0 g L b w) (m : MsgM) (ev : ByteArray) (t s n v st ps : Value) (hm : MsgIn w0 m ev t s n v st ps) (hL : L.length ≤ 100000) :
    Calls Try.prog 20 #[wp_ g, .agg #[.int .i64 m.kd, .int .u64 m.step, .string ev, t, s, n, v, st, ps]] w fun e w' => e = .returned (.tuple #[]) ∧ Wrote w0 g L b (OkMsg m) (msgT m) 2400 w w' := by
  obtain ⟨A3, C3, rfl⟩ := hm.tr.form
  obtain ⟨A4, C4, rfl⟩ := hm.ss.form
  obtain ⟨A5, C5, rfl⟩ := hm.en.form
  obtain ⟨A6, C6, rfl⟩ := hm.vs.form
  obtain ⟨A7, C7, rfl⟩ := hm.sets.form
  obtain ⟨A8, C8, rfl⟩ := hm.pasts.form
  have hgl := h.lt
  obtain ⟨o, ho⟩ : ∃ o : Array Value, o = #[.int .i64 m.kd, .int .u64 m.step, .string ev, .slice A3 m.tr.length C3, .slice A4 m.ss.length C4, .slice A5 m.en.length C5, .slice A6 m.vs.length C6, .slice A7 m.sets.length C7, .slice A8 m.pasts.length C8] := ⟨_, rfl⟩
  obtain ⟨w1, hw1⟩ : ∃ W, W = w.alloc (.cells o 27) := ⟨_, rfl⟩
  have hb1 : Below w.heap.size w w1 := by rw [hw1]; exact (Below.refl _ _).alloc (Nat.le_refl _) _
  have h1 := h.later hb1
  have hn : w1.heap[w.heap.size]? = some (.cells o 27 (0, 0)) := by rw [hw1]; exact heap_alloc_new w _
  have hk1 : KeptU g w w1 := KeptU.of_below hb1
  rw [ho] at hw1
  have HW1 := Lib.hid hw1
  obtain ⟨k, hk⟩ : ∃ k, k = w.heap.size := ⟨_, rfl⟩
  have HK := Lib.hid hk
  rw [← hk] at hn
  have hkg : k ≠ g := by omega
  have hcell : ∀ W, KeptU g w1 W → ∀ j x, o[j]? = some x → W.cell? ⟨k, j, none⟩ = some x := fun W hW j x hx => (cell_of_row W k j _ _ _ (hW k _ _ _ hkg (by decide) hn)).trans hx
  have HC := Lib.hid hcell
  have HO := Lib.hid ho
  have H1 := Lib.hid h1; have HK1 := Lib.hid hk1; have HM := Lib.hid hm
  have HT : Hid (msgT m = intT m.kd ++ (leN 8 m.step ++ (evT m.ev ++ (listT m.tr ++ (listT m.ss ++ (listT m.en ++ (listT m.vs ++ (someT setT m.sets ++ someT pastT m.pasts)))))))) := rfl
  have hmf : ∀ (fn : Fn) (first cap : Array Value) (w : World), (Instr.makeFunc fn first cap).run Try.prog w = .ok (.func fn first cap) w := fun _ _ _ _ => rfl
  clear hcell hn hk h hb1 h1 hk1 hw1 hm ho
  unfold wp_
  go_enter Try.func20, Try.ntmps20
  go_upto_region 1 with fail
  rw [← HW1.out, ← HK.out]
  have c0 := HC.out w1 (KeptU.refl _ _) 0 _ (by rw [HO.out]; rfl)
  go_wp2_with fail
  refine (small_w H1.out m.kd 1 9 (by decide) (by decide) (by omega)).mono ?_
  rintro e w2 ⟨rfl, L2, b2, h2, e2, t2, l2, k2⟩
  have H2 := Lib.hid h2; have E2 := Lib.hid e2; have T2 := Lib.hid t2; have K2 := Lib.hid k2
  clear c0 h2 e2 t2 k2
  have c1 := HC.out w2 (K2.out) 1 _ (by rw [HO.out]; rfl)
  go_wp2_with fail
  refine (num_w H2.out m.step (by omega)).mono ?_
  rintro e w3 ⟨rfl, L3, b3, h3, e3, t3, l3, k3⟩
  have H3 := Lib.hid h3; have E3 := Lib.hid e3; have T3 := Lib.hid t3; have K3 := Lib.hid k3
  clear c1 h3 e3 t3 k3
  have c2 := HC.out w3 (K2.out.trans (K3.out)) 2 _ (by rw [HO.out]; rfl)
  go_wp2_with fail
  refine (event_w H3.out ev HM.out.evl (by omega)).mono ?_
  rintro e w4 ⟨rfl, L4, b4, h4, e4, t4, l4, k4⟩
  have H4 := Lib.hid h4; have E4 := Lib.hid e4; have T4 := Lib.hid t4; have K4 := Lib.hid k4
  clear c2 h4 e4 t4 k4
  have c3 := HC.out w4 (K2.out.trans (K3.out.trans (K4.out))) 3 _ (by rw [HO.out]; rfl)
  go_wp2_with fail
  refine (places_any H4.out _ m.tr HM.out.tr HM.out.ltr (by omega)).mono ?_
  rintro e w5 ⟨rfl, L5, b5, h5, e5, t5, l5, k5⟩
  have H5 := Lib.hid h5; have E5 := Lib.hid e5; have T5 := Lib.hid t5; have K5 := Lib.hid k5
  clear c3 h5 e5 t5 k5
  have c4 := HC.out w5 (K2.out.trans (K3.out.trans (K4.out.trans (K5.out)))) 4 _ (by rw [HO.out]; rfl)
  go_wp2_with fail
  refine (places_any H5.out _ m.ss HM.out.ss HM.out.lss (by omega)).mono ?_
  rintro e w6 ⟨rfl, L6, b6, h6, e6, t6, l6, k6⟩
  have H6 := Lib.hid h6; have E6 := Lib.hid e6; have T6 := Lib.hid t6; have K6 := Lib.hid k6
  clear c4 h6 e6 t6 k6
  have c5 := HC.out w6 (K2.out.trans (K3.out.trans (K4.out.trans (K5.out.trans (K6.out))))) 5 _ (by rw [HO.out]; rfl)
  go_wp2_with fail
  refine (places_any H6.out _ m.en HM.out.en HM.out.len (by omega)).mono ?_
  rintro e w7 ⟨rfl, L7, b7, h7, e7, t7, l7, k7⟩
  have H7 := Lib.hid h7; have E7 := Lib.hid e7; have T7 := Lib.hid t7; have K7 := Lib.hid k7
  clear c5 h7 e7 t7 k7
  have c6 := HC.out w7 (K2.out.trans (K3.out.trans (K4.out.trans (K5.out.trans (K6.out.trans (K7.out)))))) 6 _ (by rw [HO.out]; rfl)
  go_wp2_with fail
  refine (places_any H7.out _ m.vs HM.out.vs HM.out.lvs (by omega)).mono ?_
  rintro e w8 ⟨rfl, L8, b8, h8, e8, t8, l8, k8⟩
  have H8 := Lib.hid h8; have E8 := Lib.hid e8; have T8 := Lib.hid t8; have K8 := Lib.hid k8
  clear c6 h8 e8 t8 k8
  have c7 := HC.out w8 (K2.out.trans (K3.out.trans (K4.out.trans (K5.out.trans (K6.out.trans (K7.out.trans (K8.out))))))) 7 _ (by rw [HO.out]; rfl)
  go_wp2_with fail
  refine (list_sets H8.out _ m.sets HM.out.sets HM.out.lst (by omega)).mono ?_
  rintro e w9 ⟨rfl, L9, b9, h9, e9, t9, l9, k9⟩
  have H9 := Lib.hid h9; have E9 := Lib.hid e9; have T9 := Lib.hid t9; have K9 := Lib.hid k9
  clear c7 h9 e9 t9 k9
  have c8 := HC.out w9 (K2.out.trans (K3.out.trans (K4.out.trans (K5.out.trans (K6.out.trans (K7.out.trans (K8.out.trans (K9.out)))))))) 8 _ (by rw [HO.out]; rfl)
  go_wp2_with fail
  refine (list_pasts H9.out _ m.pasts HM.out.pasts HM.out.lps (by omega)).mono ?_
  rintro e w10 ⟨rfl, h10⟩
  have H10 := Lib.hid h10
  clear c8 h10
  go_wp2
  go_end0
  refine ⟨rfl, ?_⟩
  have hf := Wrote.trans E2.out T2.out l2 (HK1.out.trans K2.out) (Wrote.trans E3.out T3.out l3 K3.out (Wrote.trans E4.out T4.out l4 K4.out (Wrote.trans E5.out T5.out l5 K5.out (Wrote.trans E6.out T6.out l6 K6.out (Wrote.trans E7.out T7.out l7 K7.out (Wrote.trans E8.out T8.out l8 K8.out (Wrote.trans E9.out T9.out l9 K9.out H10.out)))))))
  refine hf.mono ?_ (fun _ => by rw [HT.out, HM.out.evd]) (by omega)
  rw [HM.out.evd]
  constructor
  · rintro ⟨a, _, c, d, e, f, g, h, i⟩; exact ⟨a, HM.out.step, c, d, e, f, g, h, i⟩
  · rintro ⟨a, _, c, d, e, f, g, h, i⟩; exact ⟨a, trivial, c, d, e, f, g, h, i⟩
end Go.Proofs.Ytlbhkendbngmaaa.Wi
