/- The document's points, two, one: operands joined, and changed. -/
import Derived.Test.YtpidikbhjiaogaaVo
namespace Go.Proofs.Ytpidikbhjiaogaa
open Go.RowKit

theorem rTruth_tru (W : World) : Calls Try.prog 17 #[.bool true] W fun e w' => e = .returned (.agg #[.int .i64 2, .int .i64 1, .int .i64 0]) ∧ Below W.heap.size W w' := rTruth_any true W
theorem rTruth_fls (W : World) : Calls Try.prog 17 #[.bool false] W fun e w' => e = .returned (.agg #[.int .i64 2, .int .i64 0, .int .i64 0]) ∧ Below W.heap.size W w' := rTruth_any false W
theorem heap_at {Y : World} {D : Nat} (hD : Y.heap.size = D) (cs : Array Value) (t : TypeId) : (Y.alloc (.cells cs t)).heap[D]? = some (.cells cs t (0, 0)) := by subst hD; exact heap_alloc_new Y _
theorem heap_up {Y : World} {D : Nat} {x : Obj} (h : Y.heap[D]? = some x) (o : Obj) : (Y.alloc o).heap[D]? = some x := (Below.heap_alloc _ _ _ (Array.getElem?_eq_some_iff.1 h).1).trans h
/-- what is answered: a value and the error -/
def outW (p : VA × Int) : Ending := .returned (.tuple #[.agg #[.int .i64 p.1.kd, .int .i64 p.1.a, .int .i64 p.1.b], .int .i64 p.2])
theorem outW_er (e : Int) : outW (erV e) = .returned (.tuple #[.agg #[.int .i64 0, .int .i64 0, .int .i64 0], .int .i64 e]) := rfl

set_option maxRecDepth 100000 in
set_option maxHeartbeats 1000000 in
theorem rpoints11 (a b c d : Int) (w : World) (ha : inB a = true) (hb : inB b = true) (hc : inB c = true) (hd : inB d = true) :
    Calls Try.prog 45 #[.int .i64 11, .agg #[.int .i64 3, .int .i64 a, .int .i64 b], .agg #[.int .i64 3, .int .i64 c, .int .i64 d]] w fun e w' => e = outW (pointsE 11 a b c d) ∧ Below w.heap.size w w' := by
  rw [show pointsE 11 a b c d = ptE (a + c) (b + d) from rfl]
  have HC := Lib.hid (fun W => rAdd_any a b c d W ha hb hc hd)
  obtain ⟨c1, c2, er, ho, hq⟩ := outP_pt (a + c) (b + d)
  rw [ho] at HC
  have HN : Hid ((((((w.alloc (.cells #[.int .i64 3, .int .i64 a, .int .i64 b] 23)).alloc (.cells #[.int .i64 3, .int .i64 c, .int .i64 d] 23)).alloc (.cells #[.int .i64 0, .int .i64 0, .int .i64 0] 23)).alloc (.cells #[.int .i64 a, .int .i64 b] 94)).alloc (.cells #[.int .i64 c, .int .i64 d] 94)).heap[w.heap.size + 1 + 1 + 1]? = some (.cells #[.int .i64 a, .int .i64 b] 94 (0, 0)) ∧ (((((w.alloc (.cells #[.int .i64 3, .int .i64 a, .int .i64 b] 23)).alloc (.cells #[.int .i64 3, .int .i64 c, .int .i64 d] 23)).alloc (.cells #[.int .i64 0, .int .i64 0, .int .i64 0] 23)).alloc (.cells #[.int .i64 a, .int .i64 b] 94)).alloc (.cells #[.int .i64 c, .int .i64 d] 94)).heap[w.heap.size + 1 + 1]? = some (.cells #[.int .i64 0, .int .i64 0, .int .i64 0] 23 (0, 0))) := by
    exact ⟨heap_up (heap_at (by simp) _ _) _, heap_up (heap_up (heap_at (by simp) _ _) _) _⟩
  have hbw0 : Below w.heap.size w (((((w.alloc (.cells #[.int .i64 3, .int .i64 a, .int .i64 b] 23)).alloc (.cells #[.int .i64 3, .int .i64 c, .int .i64 d] 23)).alloc (.cells #[.int .i64 0, .int .i64 0, .int .i64 0] 23)).alloc (.cells #[.int .i64 a, .int .i64 b] 94)).alloc (.cells #[.int .i64 c, .int .i64 d] 94)) := ((((((Below.refl _ _).alloc (Nat.le_refl _) _).alloc (by simp) _).alloc (by simp; omega) _).alloc (by simp; omega) _).alloc (by simp; omega) _)
  have HW := Lib.hid hbw0
  clear ha hb hc hd ho hbw0
  have HQ := Lib.hid hq
  clear hq
  go_enter Try.func45, Try.ntmps45
  go_wp2_with fail
  refine (HC.out _).mono ?_
  rintro e w1 ⟨rfl, hb1⟩
  have h1 : w1.heap[w.heap.size + 1 + 1 + 1]? = some (.cells #[.int .i64 a, .int .i64 b] 94 (0, 0)) := (hb1.block _ (by first | (simp; done) | (simp; omega))).trans HN.out.1
  have h2 : w1.heap[w.heap.size + 1 + 1]? = some (.cells #[.int .i64 0, .int .i64 0, .int .i64 0] 23 (0, 0)) := (hb1.block _ (by first | (simp; done) | (simp; omega))).trans HN.out.2
  have hbw : Below w.heap.size w w1 := HW.out.trans (hb1.mono HW.out.size)
  clear hb1
  obtain ⟨p0, p1, s0, s1⟩ := at2 h1
  obtain ⟨d0, d1, d2, f0, f1, f2⟩ := at3 h2
  have h3 := heap_setCell_same _ _ 0 _ _ (.int .i64 c1) h1
  have h4 := heap_setCell_same _ _ 1 _ _ (.int .i64 c2) h3
  have hb2 : Below w.heap.size w ((w1.setCell ⟨w.heap.size + 1 + 1 + 1, 0, none⟩ (.int .i64 c1)).setCell ⟨w.heap.size + 1 + 1 + 1, 1, none⟩ (.int .i64 c2)) := (hbw.setCell (by show _ ≤ w.heap.size + 1 + 1 + 1; omega) _).setCell (by show _ ≤ w.heap.size + 1 + 1 + 1; omega) _
  have h5 : ((w1.setCell ⟨w.heap.size + 1 + 1 + 1, 0, none⟩ (.int .i64 c1)).setCell ⟨w.heap.size + 1 + 1 + 1, 1, none⟩ (.int .i64 c2)).heap[w.heap.size + 1 + 1]? = some (.cells #[.int .i64 0, .int .i64 0, .int .i64 0] 23 (0, 0)) := by
    rw [Below.heap_setCell _ _ _ _ (by show _ ≠ w.heap.size + 1 + 1 + 1; omega), Below.heap_setCell _ _ _ _ (by show _ ≠ w.heap.size + 1 + 1 + 1; omega)]; exact h2
  have H4 := Lib.hid h4; have H5 := Lib.hid h5; have HB2 := Lib.hid hb2
  clear h3 h4 h5 hb2
  rcases HQ.out with ⟨rfl, he⟩ | ⟨hne, he⟩
  · obtain ⟨k0, k1, _, _⟩ := at2 (x0 := .int .i64 c1) (x1 := .int .i64 c2) H4.out
    have HE := Lib.hid he
    clear he
    go_wp2
    obtain ⟨⟨r0, r1, r2⟩, hbf⟩ := fin3 H5.out (by omega) HB2.out (.int .i64 3) (.int .i64 c1) (.int .i64 c2)
    refine bodyPost_ret (v := .tuple #[.agg #[.int .i64 3, .int .i64 c1, .int .i64 c2], .int .i64 0]) ?_ rfl ⟨by rw [HE.out]; rfl, hbf⟩
    simp [results, Try.results45, go_sem, r0, r1, r2]
  · have tne := int_ne hne
    have HE := Lib.hid he
    clear he
    go_wp2
    obtain ⟨⟨r0, r1, r2⟩, hbf⟩ := fin3 H5.out (by omega) HB2.out (.int .i64 0) (.int .i64 0) (.int .i64 0)
    refine bodyPost_ret (v := .tuple #[.agg #[.int .i64 0, .int .i64 0, .int .i64 0], .int .i64 er]) ?_ rfl ⟨by rw [HE.out]; rfl, hbf⟩
    simp [results, Try.results45, go_sem, r0, r1, r2]
set_option maxRecDepth 100000 in
set_option maxHeartbeats 1000000 in
theorem rpoints12 (a b c d : Int) (w : World) (ha : inB a = true) (hb : inB b = true) (hc : inB c = true) (hd : inB d = true) :
    Calls Try.prog 45 #[.int .i64 12, .agg #[.int .i64 3, .int .i64 a, .int .i64 b], .agg #[.int .i64 3, .int .i64 c, .int .i64 d]] w fun e w' => e = outW (pointsE 12 a b c d) ∧ Below w.heap.size w w' := by
  rw [show pointsE 12 a b c d = ptE (a - c) (b - d) from rfl]
  have HC := Lib.hid (fun W => rSub_any a b c d W ha hb hc hd)
  obtain ⟨c1, c2, er, ho, hq⟩ := outP_pt (a - c) (b - d)
  rw [ho] at HC
  have HN : Hid ((((((w.alloc (.cells #[.int .i64 3, .int .i64 a, .int .i64 b] 23)).alloc (.cells #[.int .i64 3, .int .i64 c, .int .i64 d] 23)).alloc (.cells #[.int .i64 0, .int .i64 0, .int .i64 0] 23)).alloc (.cells #[.int .i64 a, .int .i64 b] 94)).alloc (.cells #[.int .i64 c, .int .i64 d] 94)).heap[w.heap.size + 1 + 1 + 1]? = some (.cells #[.int .i64 a, .int .i64 b] 94 (0, 0)) ∧ (((((w.alloc (.cells #[.int .i64 3, .int .i64 a, .int .i64 b] 23)).alloc (.cells #[.int .i64 3, .int .i64 c, .int .i64 d] 23)).alloc (.cells #[.int .i64 0, .int .i64 0, .int .i64 0] 23)).alloc (.cells #[.int .i64 a, .int .i64 b] 94)).alloc (.cells #[.int .i64 c, .int .i64 d] 94)).heap[w.heap.size + 1 + 1]? = some (.cells #[.int .i64 0, .int .i64 0, .int .i64 0] 23 (0, 0))) := by
    exact ⟨heap_up (heap_at (by simp) _ _) _, heap_up (heap_up (heap_at (by simp) _ _) _) _⟩
  have hbw0 : Below w.heap.size w (((((w.alloc (.cells #[.int .i64 3, .int .i64 a, .int .i64 b] 23)).alloc (.cells #[.int .i64 3, .int .i64 c, .int .i64 d] 23)).alloc (.cells #[.int .i64 0, .int .i64 0, .int .i64 0] 23)).alloc (.cells #[.int .i64 a, .int .i64 b] 94)).alloc (.cells #[.int .i64 c, .int .i64 d] 94)) := ((((((Below.refl _ _).alloc (Nat.le_refl _) _).alloc (by simp) _).alloc (by simp; omega) _).alloc (by simp; omega) _).alloc (by simp; omega) _)
  have HW := Lib.hid hbw0
  clear ha hb hc hd ho hbw0
  have HQ := Lib.hid hq
  clear hq
  go_enter Try.func45, Try.ntmps45
  go_wp2_with fail
  refine (HC.out _).mono ?_
  rintro e w1 ⟨rfl, hb1⟩
  have h1 : w1.heap[w.heap.size + 1 + 1 + 1]? = some (.cells #[.int .i64 a, .int .i64 b] 94 (0, 0)) := (hb1.block _ (by first | (simp; done) | (simp; omega))).trans HN.out.1
  have h2 : w1.heap[w.heap.size + 1 + 1]? = some (.cells #[.int .i64 0, .int .i64 0, .int .i64 0] 23 (0, 0)) := (hb1.block _ (by first | (simp; done) | (simp; omega))).trans HN.out.2
  have hbw : Below w.heap.size w w1 := HW.out.trans (hb1.mono HW.out.size)
  clear hb1
  obtain ⟨p0, p1, s0, s1⟩ := at2 h1
  obtain ⟨d0, d1, d2, f0, f1, f2⟩ := at3 h2
  have h3 := heap_setCell_same _ _ 0 _ _ (.int .i64 c1) h1
  have h4 := heap_setCell_same _ _ 1 _ _ (.int .i64 c2) h3
  have hb2 : Below w.heap.size w ((w1.setCell ⟨w.heap.size + 1 + 1 + 1, 0, none⟩ (.int .i64 c1)).setCell ⟨w.heap.size + 1 + 1 + 1, 1, none⟩ (.int .i64 c2)) := (hbw.setCell (by show _ ≤ w.heap.size + 1 + 1 + 1; omega) _).setCell (by show _ ≤ w.heap.size + 1 + 1 + 1; omega) _
  have h5 : ((w1.setCell ⟨w.heap.size + 1 + 1 + 1, 0, none⟩ (.int .i64 c1)).setCell ⟨w.heap.size + 1 + 1 + 1, 1, none⟩ (.int .i64 c2)).heap[w.heap.size + 1 + 1]? = some (.cells #[.int .i64 0, .int .i64 0, .int .i64 0] 23 (0, 0)) := by
    rw [Below.heap_setCell _ _ _ _ (by show _ ≠ w.heap.size + 1 + 1 + 1; omega), Below.heap_setCell _ _ _ _ (by show _ ≠ w.heap.size + 1 + 1 + 1; omega)]; exact h2
  have H4 := Lib.hid h4; have H5 := Lib.hid h5; have HB2 := Lib.hid hb2
  clear h3 h4 h5 hb2
  rcases HQ.out with ⟨rfl, he⟩ | ⟨hne, he⟩
  · obtain ⟨k0, k1, _, _⟩ := at2 (x0 := .int .i64 c1) (x1 := .int .i64 c2) H4.out
    have HE := Lib.hid he
    clear he
    go_wp2
    obtain ⟨⟨r0, r1, r2⟩, hbf⟩ := fin3 H5.out (by omega) HB2.out (.int .i64 3) (.int .i64 c1) (.int .i64 c2)
    refine bodyPost_ret (v := .tuple #[.agg #[.int .i64 3, .int .i64 c1, .int .i64 c2], .int .i64 0]) ?_ rfl ⟨by rw [HE.out]; rfl, hbf⟩
    simp [results, Try.results45, go_sem, r0, r1, r2]
  · have tne := int_ne hne
    have HE := Lib.hid he
    clear he
    go_wp2
    obtain ⟨⟨r0, r1, r2⟩, hbf⟩ := fin3 H5.out (by omega) HB2.out (.int .i64 0) (.int .i64 0) (.int .i64 0)
    refine bodyPost_ret (v := .tuple #[.agg #[.int .i64 0, .int .i64 0, .int .i64 0], .int .i64 er]) ?_ rfl ⟨by rw [HE.out]; rfl, hbf⟩
    simp [results, Try.results45, go_sem, r0, r1, r2]
set_option maxRecDepth 100000 in
set_option maxHeartbeats 1000000 in
theorem rpoints13 (a b c d : Int) (w : World) (ha : inB a = true) (hb : inB b = true) (hc : inB c = true) (hd : inB d = true) :
    Calls Try.prog 45 #[.int .i64 13, .agg #[.int .i64 3, .int .i64 a, .int .i64 b], .agg #[.int .i64 3, .int .i64 c, .int .i64 d]] w fun e w' => e = outW (pointsE 13 a b c d) ∧ Below w.heap.size w w' := by
  rw [show pointsE 13 a b c d = ptE (a * c - b * d) (a * d + b * c) from rfl]
  have HC := Lib.hid (fun W => rMul_any a b c d W ha hb hc hd)
  obtain ⟨c1, c2, er, ho, hq⟩ := outP_pt (a * c - b * d) (a * d + b * c)
  rw [ho] at HC
  have HN : Hid ((((((w.alloc (.cells #[.int .i64 3, .int .i64 a, .int .i64 b] 23)).alloc (.cells #[.int .i64 3, .int .i64 c, .int .i64 d] 23)).alloc (.cells #[.int .i64 0, .int .i64 0, .int .i64 0] 23)).alloc (.cells #[.int .i64 a, .int .i64 b] 94)).alloc (.cells #[.int .i64 c, .int .i64 d] 94)).heap[w.heap.size + 1 + 1 + 1]? = some (.cells #[.int .i64 a, .int .i64 b] 94 (0, 0)) ∧ (((((w.alloc (.cells #[.int .i64 3, .int .i64 a, .int .i64 b] 23)).alloc (.cells #[.int .i64 3, .int .i64 c, .int .i64 d] 23)).alloc (.cells #[.int .i64 0, .int .i64 0, .int .i64 0] 23)).alloc (.cells #[.int .i64 a, .int .i64 b] 94)).alloc (.cells #[.int .i64 c, .int .i64 d] 94)).heap[w.heap.size + 1 + 1]? = some (.cells #[.int .i64 0, .int .i64 0, .int .i64 0] 23 (0, 0))) := by
    exact ⟨heap_up (heap_at (by simp) _ _) _, heap_up (heap_up (heap_at (by simp) _ _) _) _⟩
  have hbw0 : Below w.heap.size w (((((w.alloc (.cells #[.int .i64 3, .int .i64 a, .int .i64 b] 23)).alloc (.cells #[.int .i64 3, .int .i64 c, .int .i64 d] 23)).alloc (.cells #[.int .i64 0, .int .i64 0, .int .i64 0] 23)).alloc (.cells #[.int .i64 a, .int .i64 b] 94)).alloc (.cells #[.int .i64 c, .int .i64 d] 94)) := ((((((Below.refl _ _).alloc (Nat.le_refl _) _).alloc (by simp) _).alloc (by simp; omega) _).alloc (by simp; omega) _).alloc (by simp; omega) _)
  have HW := Lib.hid hbw0
  clear ha hb hc hd ho hbw0
  have HQ := Lib.hid hq
  clear hq
  go_enter Try.func45, Try.ntmps45
  go_wp2_with fail
  refine (HC.out _).mono ?_
  rintro e w1 ⟨rfl, hb1⟩
  have h1 : w1.heap[w.heap.size + 1 + 1 + 1]? = some (.cells #[.int .i64 a, .int .i64 b] 94 (0, 0)) := (hb1.block _ (by first | (simp; done) | (simp; omega))).trans HN.out.1
  have h2 : w1.heap[w.heap.size + 1 + 1]? = some (.cells #[.int .i64 0, .int .i64 0, .int .i64 0] 23 (0, 0)) := (hb1.block _ (by first | (simp; done) | (simp; omega))).trans HN.out.2
  have hbw : Below w.heap.size w w1 := HW.out.trans (hb1.mono HW.out.size)
  clear hb1
  obtain ⟨p0, p1, s0, s1⟩ := at2 h1
  obtain ⟨d0, d1, d2, f0, f1, f2⟩ := at3 h2
  have h3 := heap_setCell_same _ _ 0 _ _ (.int .i64 c1) h1
  have h4 := heap_setCell_same _ _ 1 _ _ (.int .i64 c2) h3
  have hb2 : Below w.heap.size w ((w1.setCell ⟨w.heap.size + 1 + 1 + 1, 0, none⟩ (.int .i64 c1)).setCell ⟨w.heap.size + 1 + 1 + 1, 1, none⟩ (.int .i64 c2)) := (hbw.setCell (by show _ ≤ w.heap.size + 1 + 1 + 1; omega) _).setCell (by show _ ≤ w.heap.size + 1 + 1 + 1; omega) _
  have h5 : ((w1.setCell ⟨w.heap.size + 1 + 1 + 1, 0, none⟩ (.int .i64 c1)).setCell ⟨w.heap.size + 1 + 1 + 1, 1, none⟩ (.int .i64 c2)).heap[w.heap.size + 1 + 1]? = some (.cells #[.int .i64 0, .int .i64 0, .int .i64 0] 23 (0, 0)) := by
    rw [Below.heap_setCell _ _ _ _ (by show _ ≠ w.heap.size + 1 + 1 + 1; omega), Below.heap_setCell _ _ _ _ (by show _ ≠ w.heap.size + 1 + 1 + 1; omega)]; exact h2
  have H4 := Lib.hid h4; have H5 := Lib.hid h5; have HB2 := Lib.hid hb2
  clear h3 h4 h5 hb2
  rcases HQ.out with ⟨rfl, he⟩ | ⟨hne, he⟩
  · obtain ⟨k0, k1, _, _⟩ := at2 (x0 := .int .i64 c1) (x1 := .int .i64 c2) H4.out
    have HE := Lib.hid he
    clear he
    go_wp2
    obtain ⟨⟨r0, r1, r2⟩, hbf⟩ := fin3 H5.out (by omega) HB2.out (.int .i64 3) (.int .i64 c1) (.int .i64 c2)
    refine bodyPost_ret (v := .tuple #[.agg #[.int .i64 3, .int .i64 c1, .int .i64 c2], .int .i64 0]) ?_ rfl ⟨by rw [HE.out]; rfl, hbf⟩
    simp [results, Try.results45, go_sem, r0, r1, r2]
  · have tne := int_ne hne
    have HE := Lib.hid he
    clear he
    go_wp2
    obtain ⟨⟨r0, r1, r2⟩, hbf⟩ := fin3 H5.out (by omega) HB2.out (.int .i64 0) (.int .i64 0) (.int .i64 0)
    refine bodyPost_ret (v := .tuple #[.agg #[.int .i64 0, .int .i64 0, .int .i64 0], .int .i64 er]) ?_ rfl ⟨by rw [HE.out]; rfl, hbf⟩
    simp [results, Try.results45, go_sem, r0, r1, r2]

set_option maxRecDepth 100000 in
set_option maxHeartbeats 1000000 in
theorem rtwo_un (op k a b l c d : Int) (w : World) (h : k ≠ l) :
    Calls Try.prog 35 #[.int .i64 op, .agg #[.int .i64 k, .int .i64 a, .int .i64 b], .agg #[.int .i64 l, .int .i64 c, .int .i64 d]] w fun e w' => e = outW (erV 8) ∧ Below w.heap.size w w' := by
  have t1 := int_ne h
  clear h
  go_enter Try.func35, Try.ntmps35
  go_wp2
  refine bodyPost_ret (v := .tuple #[.agg #[.int .i64 0, .int .i64 0, .int .i64 0], .int .i64 8]) ?_ rfl ⟨rfl, ?_⟩
  · simp [results, Try.results35, go_sem]
  · exact ((((Below.refl _ _).alloc (Nat.le_refl _) _).alloc (by simp) _).alloc (by simp; omega) _)

theorem join_nn {op : Int} (a c : Int) (h6 : op ≠ 16) (h7 : op ≠ 17) : joinE op (numV a) (numV c) = numbersE op a c := by
  unfold joinE
  rw [if_neg (by simp [numV]), if_neg h6, if_neg h7]; rfl
theorem numbers_form (op a b : Int) (h : 11 ≤ op ∧ op ≤ 15) : ∃ n e, (numbersE op a b).1.a = n ∧ (numbersE op a b).2 = e ∧ ((e = 0 ∧ numbersE op a b = (numV n, 0)) ∨ (e ≠ 0 ∧ numbersE op a b = erV e)) := by
  refine ⟨_, _, rfl, rfl, ?_⟩
  have key : ∀ n, ((numE n).2 = 0 ∧ numE n = (numV (numE n).1.a, 0)) ∨ ((numE n).2 ≠ 0 ∧ numE n = erV (numE n).2) := by
    intro n
    unfold numE
    split
    · exact Or.inl ⟨rfl, rfl⟩
    · exact Or.inr ⟨by decide, rfl⟩
  rcases (show op = 11 ∨ op = 12 ∨ op = 13 ∨ op = 14 ∨ op = 15 by omega) with rfl | rfl | rfl | rfl | rfl
  · exact key _
  · exact key _
  · exact key _
  · by_cases hb : b = 0
    · rw [show numbersE 14 a b = erV 6 from if_pos hb]; exact Or.inr ⟨by decide, rfl⟩
    · rw [show numbersE 14 a b = numE (a.tdiv b) from if_neg hb]; exact key _
  · by_cases hb : b = 0
    · rw [show numbersE 15 a b = erV 6 from if_pos hb]; exact Or.inr ⟨by decide, rfl⟩
    · rw [show numbersE 15 a b = (numV (a.tmod b), 0) from if_neg hb]; exact Or.inl ⟨rfl, rfl⟩

set_option maxRecDepth 100000 in
set_option maxHeartbeats 4000000 in
theorem rtwo_num (op a c : Int) (w : World) (h : 11 ≤ op ∧ op ≤ 15) (ha : inL a = true) (hc : inL c = true) :
    Calls Try.prog 35 #[.int .i64 op, .agg #[.int .i64 1, .int .i64 a, .int .i64 0], .agg #[.int .i64 1, .int .i64 c, .int .i64 0]] w fun e w' => e = outW (joinE op (numV a) (numV c)) ∧ Below w.heap.size w w' := by
  rw [join_nn a c (by omega) (by omega)]
  have HC := Lib.hid (fun W => rnumbers_any op a c W h ha hc)
  obtain ⟨n, e, hn, he, hq⟩ := numbers_form op a c h
  rw [hn, he] at HC
  have HQ := Lib.hid hq
  clear hn he hq ha hc
  rcases (show op = 11 ∨ op = 12 ∨ op = 13 ∨ op = 14 ∨ op = 15 by omega) with rfl | rfl | rfl | rfl | rfl
  all_goals
    clear h
    rcases HQ.out with ⟨rfl, he⟩ | ⟨hne, he⟩
    · have HE := Lib.hid he
      clear he
      go_enter Try.func35, Try.ntmps35
      go_wp2_with fail
      refine (HC.out _).mono ?_
      rintro e w' ⟨rfl, rfl⟩
      go_wp2
      refine bodyPost_ret (v := .tuple #[.agg #[.int .i64 1, .int .i64 n, .int .i64 0], .int .i64 0]) ?_ rfl ⟨by rw [HE.out]; rfl, ?_⟩
      · simp [results, Try.results35, go_sem]
      · exact ((((Below.refl _ _).alloc (Nat.le_refl _) _).alloc (by simp) _).alloc (by simp; omega) _)
    · have tne := int_ne hne
      have HE := Lib.hid he
      clear he hne
      go_enter Try.func35, Try.ntmps35
      go_wp2_with fail
      refine (HC.out _).mono ?_
      rintro e w' ⟨rfl, rfl⟩
      go_wp2
      refine bodyPost_ret (v := .tuple #[.agg #[.int .i64 0, .int .i64 0, .int .i64 0], .int .i64 e]) ?_ rfl ⟨by rw [HE.out]; rfl, ?_⟩
      · simp [results, Try.results35, go_sem]
      · exact ((((Below.refl _ _).alloc (Nat.le_refl _) _).alloc (by simp) _).alloc (by simp; omega) _)
end Go.Proofs.Ytpidikbhjiaogaa
