/- Layer 16: a message that comes from without; one of its own. -/
import Derived.Test.YtlbhkendbngmaaaK4
import Derived.Test.YtlbhkendbngmaaaOx
namespace Go.Proofs.Ytlbhkendbngmaaa.Wi
open Go.RowKit
set_option maxRecDepth 100000

theorem intV_at {l : List Int} {i : Nat} (h : i < l.length) : (intV l)[i]? = some (.int .i64 l[i]) := by simp [intV, h]
theorem inn_ints {w : World} {v : Value} {l : List Int} (h : Inn w 1 v l.length (intV l)) : RdL w v l := by
  obtain ⟨A, c, rfl⟩ := h.form
  refine ⟨A, c, rfl, fun i hi => ?_⟩
  obtain ⟨b, of, rfl, _, hc⟩ := h.at_ hi
  have := hc 0 (.int .i64 l[i]) (by rw [Nat.mul_one, Nat.add_zero]; exact intV_at hi)
  rw [Nat.mul_one, Nat.add_zero] at this
  exact ⟨b, of, rfl, this⟩
theorem inn_sets {w : World} {v : Value} {l : List SetM} (h : Inn w 4 v l.length (setsV l)) (hw : ∀ x ∈ l, okW x.a ∧ okW x.b) : RdS w v l := by
  obtain ⟨A, c, rfl⟩ := h.form
  refine ⟨A, c, rfl, fun i hi => ?_⟩
  obtain ⟨b, of, rfl, _, hc⟩ := h.at_ hi
  obtain ⟨f0, f1, f2, f3⟩ := sets_at hi
  exact ⟨b, of, rfl, by have := hc 0 _ f0; rwa [Nat.add_zero] at this, hc 1 _ f1, hc 2 _ f2, hc 3 _ f3, hw _ (List.getElem_mem hi)⟩
theorem inn_pasts {w : World} {v : Value} {Q : List (PastM × Value)} (h : Inn w 2 v Q.length (Q.flatMap pairV)) (hq : ∀ q ∈ Q, RdL w q.2 q.1.set ∧ q.1.set.length ≤ 4611686018427387904) : RdP w v (Q.map Prod.fst) := by
  obtain ⟨A, c, rfl⟩ := h.form
  refine ⟨A, c, by rw [List.length_map], fun i hi => ?_⟩
  have hi2 : i < Q.length := by simpa using hi
  obtain ⟨b, of, rfl, _, hc⟩ := h.at_ hi2
  obtain ⟨f0, f1⟩ := pairs_at hi2
  have he : (Q.map Prod.fst)[i] = Q[i].1 := by simp
  rw [he]
  exact ⟨b, of, Q[i].2, rfl, by have := hc 0 _ f0; rwa [Nat.add_zero] at this, hc 1 _ f1, (hq _ (List.getElem_mem hi2)).1, (hq _ (List.getElem_mem hi2)).2⟩
/-- a message that comes from without -/
structure MI (w : World) (m : MsgM) (Q : List (PastM × Value)) (ev : ByteArray) (t s n v st ps : Value) : Prop where
  evd : ev.data.toList = m.ev
  evl : ev.size ≤ 4611686018427387904
  step : m.step < 18446744073709551616
  tr : Inn w 1 t m.tr.length (intV m.tr)
  ss : Inn w 1 s m.ss.length (intV m.ss)
  en : Inn w 1 n m.en.length (intV m.en)
  vs : Inn w 1 v m.vs.length (intV m.vs)
  sets : Inn w 4 st m.sets.length (setsV m.sets)
  wide : ∀ x ∈ m.sets, okW x.a ∧ okW x.b
  pasts : Inn w 2 ps Q.length (Q.flatMap pairV)
  q : m.pasts = Q.map Prod.fst
  inn : ∀ q ∈ Q, RdL w q.2 q.1.set ∧ q.1.set.length ≤ 4611686018427387904
  ltr : m.tr.length * 8 ≤ 140737488355328
  lss : m.ss.length * 8 ≤ 140737488355328
  len : m.en.length * 8 ≤ 140737488355328
  lvs : m.vs.length * 8 ≤ 140737488355328
  lst : m.sets.length * 32 ≤ 140737488355328
  lps : Q.length * 32 ≤ 140737488355328
theorem MI.below {w w' : World} {m : MsgM} {Q : List (PastM × Value)} {ev : ByteArray} {t s n v st ps : Value} (h : MI w m Q ev t s n v st ps) (hb : Below w.heap.size w w') : MI w' m Q ev t s n v st ps :=
  { h with tr := h.tr.below hb, ss := h.ss.below hb, en := h.en.below hb, vs := h.vs.below hb, sets := h.sets.below hb, pasts := h.pasts.below hb, inn := fun q hq => ⟨(h.inn q hq).1.below hb, (h.inn q hq).2⟩ }
theorem MI.msgIn {w : World} {m : MsgM} {Q : List (PastM × Value)} {ev : ByteArray} {t s n v st ps : Value} (h : MI w m Q ev t s n v st ps) : MsgIn w m ev t s n v st ps := by
  have h1 := h.ltr; have h2 := h.lss; have h3 := h.len; have h4 := h.lvs; have h5 := h.lst; have h6 := h.lps
  have h7 : m.pasts.length = Q.length := by rw [h.q, List.length_map]
  exact ⟨h.evd, h.evl, h.step, inn_ints h.tr, inn_ints h.ss, inn_ints h.en, inn_ints h.vs, inn_sets h.sets h.wide, by rw [h.q]; exact inn_pasts h.pasts h.inn, by omega, by omega, by omega, by omega, by omega, by omega⟩
/-- the parameter's box and the result's, since w -/
structure Cx (w W : World) (M : Nat) (cur : Array Value) : Prop where
  low : Below w.heap.size w W
  var : W.heap[M]? = some (.cells cur 27 (0, 0))
  res : W.heap[M + 1]? = some (.cells #[.int .i64 0, .int .u64 0, .string ⟨#[]⟩, .slice none 0 0, .slice none 0 0, .slice none 0 0, .slice none 0 0, .slice none 0 0, .slice none 0 0] 27 (0, 0))
section
variable {w W W' : World} {M : Nat} {cur : Array Value}
theorem Cx.start (w : World) (cur : Array Value) : Cx w ((w.alloc (.cells cur 27)).alloc (.cells #[.int .i64 0, .int .u64 0, .string ⟨#[]⟩, .slice none 0 0, .slice none 0 0, .slice none 0 0, .slice none 0 0, .slice none 0 0, .slice none 0 0] 27)) w.heap.size cur := by
  have hb1 : Below w.heap.size w (w.alloc (.cells cur 27)) := (Below.refl _ _).alloc (Nat.le_refl _) _
  have hs1 : (w.alloc (.cells cur 27)).heap.size = w.heap.size + 1 := by simp
  have hb2 : Below (w.alloc (.cells cur 27)).heap.size (w.alloc (.cells cur 27)) ((w.alloc (.cells cur 27)).alloc (.cells #[.int .i64 0, .int .u64 0, .string ⟨#[]⟩, .slice none 0 0, .slice none 0 0, .slice none 0 0, .slice none 0 0, .slice none 0 0, .slice none 0 0] 27)) := (Below.refl _ _).alloc (Nat.le_refl _) _
  refine ⟨hb1.trans (hb2.mono (by omega)), (hb2.block _ (by omega)).trans (heap_alloc_new w _), ?_⟩
  have := heap_alloc_new (w.alloc (.cells cur 27)) (.cells #[.int .i64 0, .int .u64 0, .string ⟨#[]⟩, .slice none 0 0, .slice none 0 0, .slice none 0 0, .slice none 0 0, .slice none 0 0, .slice none 0 0] 27)
  rw [hs1] at this
  exact this
theorem Cx.below (h : Cx w W M cur) (hb : Below W.heap.size W W') : Cx w W' M cur :=
  ⟨h.low.trans (hb.mono h.low.size), (hb.block M (lt_of_heap h.var)).trans h.var, (hb.block (M + 1) (lt_of_heap h.res)).trans h.res⟩
theorem Cx.set (h : Cx w W M cur) (hM : w.heap.size ≤ M) (j : Nat) (v : Value) : Cx w (W.setCell ⟨M, j, none⟩ v) M (cur.setIfInBounds j v) := by
  have hb := grown_set W M j v
  refine ⟨low_grown h.low hb hM h.low.size, ?_, (hb.block (M + 1) (lt_of_heap h.res) (fun e => by have := Option.some.inj e; omega)).trans h.res⟩
  exact heap_setCell_same W M j _ _ _ h.var
theorem Cx.cell (h : Cx w W M cur) {j : Nat} {x : Value} (hx : cur[j]? = some x) : W.cell? ⟨M, j, none⟩ = some x := (cell_of_row W _ j _ _ _ h.var).trans hx
theorem Cx.frozen (h : Cx w W M cur) (j : Nat) : W.frozen? ⟨M, j, none⟩ = false := frozen_of_row W _ j _ _ h.var
end
theorem ints_one (l : List Int) : ∀ u ∈ intV l, u.oneCell' = true := fun u hu => by
  obtain ⟨x, _, rfl⟩ := List.mem_map.1 hu; rfl
theorem sets_one (l : List SetM) : ∀ u ∈ setsV l, u.oneCell' = true := fun u hu => by
  obtain ⟨x, _, hx⟩ := List.mem_flatMap.1 hu
  simp only [setV, List.mem_cons, List.not_mem_nil, or_false] at hx
  rcases hx with rfl | rfl | rfl | rfl <;> rfl
theorem pasts_one {w : World} (Q : List (PastM × Value)) (h : ∀ q ∈ Q, RdL w q.2 q.1.set ∧ q.1.set.length ≤ 4611686018427387904) : ∀ u ∈ Q.flatMap pairV, u.oneCell' = true := fun u hu => by
  obtain ⟨x, hx0, hx⟩ := List.mem_flatMap.1 hu
  simp only [pairV, List.mem_cons, List.not_mem_nil, or_false] at hx
  rcases hx with rfl | rfl
  · rfl
  · obtain ⟨A, c, e⟩ := (h x hx0).1.form
    rw [e]; rfl
theorem made_row (w : World) (T : TypeId) (size : Nat) : (w.alloc (.cells #[] T)).ownsRow w.heap.size T size (.slice (some ⟨w.heap.size, 0, none⟩) 0 0) 0 [] := World.ownsRow_made w #[] 0 (Nat.le_refl _) (by unfold maxLen; omega) (by simp)
set_option maxHeartbeats 4000000 in
theorem copied_any (w : World) (m : MsgM) (Q : List (PastM × Value)) (ev : ByteArray) (t s n v st ps : Value) (hm : MI w m Q ev t s n v st ps) :
    Calls Try.prog 10 #[msgV m ev t s n v st ps] w fun e w' => (∃ t' s' n' v' st' ps', e = .returned (msgV m ev t' s' n' v' st' ps') ∧ MsgIn w' m ev t' s' n' v' st' ps') ∧ Below w.heap.size w w' := by
  obtain ⟨i0, hi0, hz0, hz1, hz2⟩ := info_parts Try.infoInt
  have HI := Lib.hid hi0; have HZ0 := Lib.hid hz0; have HZI := Lib.hid hz1; have HZ2 := Lib.hid hz2
  obtain ⟨j0, hj0, hy0, hy1, hy2⟩ := info_parts Try.infoSet
  have HJ := Lib.hid hj0; have HY0 := Lib.hid hy0; have HY1 := Lib.hid hy1; have HY2 := Lib.hid hy2
  obtain ⟨k0, hk0, hx0, hx1, hx2⟩ := info_parts Try.infoPast
  have HK := Lib.hid hk0; have HX0 := Lib.hid hx0; have HX1 := Lib.hid hx1; have HX2 := Lib.hid hx2
  clear hi0 hz0 hz1 hz2 hj0 hy0 hy1 hy2 hk0 hx0 hx1 hx2
  obtain ⟨A0, c0, rfl⟩ := hm.tr.form
  obtain ⟨A1, c1, rfl⟩ := hm.ss.form
  obtain ⟨A2, c2, rfl⟩ := hm.en.form
  obtain ⟨A3, c3, rfl⟩ := hm.vs.form
  obtain ⟨A4, c4, rfl⟩ := hm.sets.form
  obtain ⟨A5, c5, rfl⟩ := hm.pasts.form
  obtain ⟨M, hM⟩ : ∃ M, M = w.heap.size := ⟨_, rfl⟩
  obtain ⟨w0, hw⟩ : ∃ W, W = (w.alloc (.cells #[.int .i64 m.kd, .int .u64 m.step, .string ev, .slice A0 m.tr.length c0, .slice A1 m.ss.length c1, .slice A2 m.en.length c2, .slice A3 m.vs.length c3, .slice A4 m.sets.length c4, .slice A5 Q.length c5] 27)).alloc (.cells #[.int .i64 0, .int .u64 0, .string ⟨#[]⟩, .slice none 0 0, .slice none 0 0, .slice none 0 0, .slice none 0 0, .slice none 0 0, .slice none 0 0] 27) := ⟨_, rfl⟩
  have hcx := Cx.start w #[.int .i64 m.kd, .int .u64 m.step, .string ev, .slice A0 m.tr.length c0, .slice A1 m.ss.length c1, .slice A2 m.en.length c2, .slice A3 m.vs.length c3, .slice A4 m.sets.length c4, .slice A5 Q.length c5]
  rw [← hw, ← hM] at hcx
  have HM := Lib.hid hM; have HW0 := Lib.hid hw; have HC0 := Lib.hid hcx; have HMI := Lib.hid hm
  clear hM hw hcx hm
  unfold msgV
  go_enter Try.func10, Try.ntmps10
  go_upto_region 1 with fail
  rw [← HW0.out, ← HM.out]
  -- tr
  have hin := HMI.out.tr.below HC0.out.low
  have hb : Below w0.heap.size w0 (w0.alloc (.cells #[] 3)) := (Below.refl _ _).alloc (Nat.le_refl _) _
  have HIN := Lib.hid (hin.below hb)
  have HMADE := Lib.hid (made_row w0 3 1)
  have hcb := HC0.out.below hb
  have q0 : (w0.alloc (.cells #[] 3)).cell? ⟨M, 3, none⟩ = some (.slice A0 m.tr.length c0) := hcb.cell rfl
  have q1 : w0.cell? ⟨M, 3, none⟩ = some (.slice A0 m.tr.length c0) := HC0.out.cell rfl
  have hlen := HMI.out.ltr
  have HB := Lib.hid hb
  clear hin hcb hb
  go_wp2_with (at_builtin; refine Ow.wpList_append rfl (.tmp 3) (.tmp 5) 23 rfl w0.heap.size 3 i0 _ 1 8 Try.underlying23 HI.out HZ0.out HZI.out HZ2.out rfl (by decide) _ 0 [] rfl HMADE.out _ m.tr.length (intV m.tr) rfl HIN.out (ints_one m.tr) (by unfold maxLen; omega) (by omega) (by simp) ?_)
  intro v1 u0 ho1 hg1 _
  clear q0 q1
  have ho2 : u0.ownsRow w0.heap.size 3 1 v1 m.tr.length (intV m.tr) := by simpa using ho1
  have hbu : Below w0.heap.size w0 u0 := HB.out.grown hg1 (by simp) (fun k hk => (HMADE.out.lt k hk).1)
  obtain ⟨B0, d0, rfl⟩ := own_form ho2
  have hcu := HC0.out.below hbu
  have q2 : u0.cell? ⟨M, 3, none⟩ = some (.slice A0 m.tr.length c0) := hcu.cell rfl
  have q3 := hcu.frozen 3
  have hcs : Cx w (u0.setCell ⟨M, 3, none⟩ (.slice B0 m.tr.length d0)) M #[.int .i64 m.kd, .int .u64 m.step, .string ev, .slice B0 m.tr.length d0, .slice A1 m.ss.length c1, .slice A2 m.en.length c2, .slice A3 m.vs.length c3, .slice A4 m.sets.length c4, .slice A5 Q.length c5] := hcu.set (Nat.le_of_eq HM.out.symm) 3 _
  have hgs := grown_set u0 M 3 (.slice B0 m.tr.length d0)
  obtain ⟨w1, hw⟩ : ∃ W, W = u0.setCell ⟨M, 3, none⟩ (.slice B0 m.tr.length d0) := ⟨_, rfl⟩
  rw [← hw] at hcs hgs
  have HW1 := Lib.hid hw; have HC1 := Lib.hid hcs
  have hMl : M + 2 ≤ w0.heap.size := lt_of_heap HC0.out.res
  have hr0 := own_grown (own_le ho2 hMl) (show M < M + 2 by omega) hgs
  have HR0 := Lib.hid hr0
  clear ho1 ho2 hg1 hbu hcu hcs hgs hw hMl hlen HIN HMADE HB HC0 hr0
  go_upto_region 2 with fail
  rw [← HW1.out]
  clear q2 q3
  -- ss
  have hin := HMI.out.ss.below HC1.out.low
  have hb : Below w1.heap.size w1 (w1.alloc (.cells #[] 3)) := (Below.refl _ _).alloc (Nat.le_refl _) _
  have HIN := Lib.hid (hin.below hb)
  have HMADE := Lib.hid (made_row w1 3 1)
  have hcb := HC1.out.below hb
  have q0 : (w1.alloc (.cells #[] 3)).cell? ⟨M, 4, none⟩ = some (.slice A1 m.ss.length c1) := hcb.cell rfl
  have q1 : w1.cell? ⟨M, 4, none⟩ = some (.slice A1 m.ss.length c1) := HC1.out.cell rfl
  have hlen := HMI.out.lss
  have HB := Lib.hid hb
  clear hin hcb hb
  go_wp2_with (at_builtin; refine Ow.wpList_append rfl (.tmp 8) (.tmp 10) 23 rfl w1.heap.size 3 i0 _ 1 8 Try.underlying23 HI.out HZ0.out HZI.out HZ2.out rfl (by decide) _ 0 [] rfl HMADE.out _ m.ss.length (intV m.ss) rfl HIN.out (ints_one m.ss) (by unfold maxLen; omega) (by omega) (by simp) ?_)
  intro v1 u1 ho1 hg1 _
  clear q0 q1
  have ho2 : u1.ownsRow w1.heap.size 3 1 v1 m.ss.length (intV m.ss) := by simpa using ho1
  have hbu : Below w1.heap.size w1 u1 := HB.out.grown hg1 (by simp) (fun k hk => (HMADE.out.lt k hk).1)
  obtain ⟨B1, d1, rfl⟩ := own_form ho2
  have hcu := HC1.out.below hbu
  have q2 : u1.cell? ⟨M, 4, none⟩ = some (.slice A1 m.ss.length c1) := hcu.cell rfl
  have q3 := hcu.frozen 4
  have hcs : Cx w (u1.setCell ⟨M, 4, none⟩ (.slice B1 m.ss.length d1)) M #[.int .i64 m.kd, .int .u64 m.step, .string ev, .slice B0 m.tr.length d0, .slice B1 m.ss.length d1, .slice A2 m.en.length c2, .slice A3 m.vs.length c3, .slice A4 m.sets.length c4, .slice A5 Q.length c5] := hcu.set (Nat.le_of_eq HM.out.symm) 4 _
  have hgs := grown_set u1 M 4 (.slice B1 m.ss.length d1)
  obtain ⟨w2, hw⟩ : ∃ W, W = u1.setCell ⟨M, 4, none⟩ (.slice B1 m.ss.length d1) := ⟨_, rfl⟩
  rw [← hw] at hcs hgs
  have HW2 := Lib.hid hw; have HC2 := Lib.hid hcs
  have hMl : M + 2 ≤ w1.heap.size := lt_of_heap HC1.out.res
  have hr1 := own_grown (own_le ho2 hMl) (show M < M + 2 by omega) hgs
  have hr0 := own_grown (own_below HR0.out hbu) (show M < M + 2 by omega) hgs
  replace HR0 := Lib.hid hr0
  have HR1 := Lib.hid hr1
  clear ho1 ho2 hg1 hbu hcu hcs hgs hw hMl hlen HIN HMADE HB HC1 hr0 hr1
  go_upto_region 3 with fail
  rw [← HW2.out]
  clear q2 q3
  -- en
  have hin := HMI.out.en.below HC2.out.low
  have hb : Below w2.heap.size w2 (w2.alloc (.cells #[] 3)) := (Below.refl _ _).alloc (Nat.le_refl _) _
  have HIN := Lib.hid (hin.below hb)
  have HMADE := Lib.hid (made_row w2 3 1)
  have hcb := HC2.out.below hb
  have q0 : (w2.alloc (.cells #[] 3)).cell? ⟨M, 5, none⟩ = some (.slice A2 m.en.length c2) := hcb.cell rfl
  have q1 : w2.cell? ⟨M, 5, none⟩ = some (.slice A2 m.en.length c2) := HC2.out.cell rfl
  have hlen := HMI.out.len
  have HB := Lib.hid hb
  clear hin hcb hb
  go_wp2_with (at_builtin; refine Ow.wpList_append rfl (.tmp 13) (.tmp 15) 23 rfl w2.heap.size 3 i0 _ 1 8 Try.underlying23 HI.out HZ0.out HZI.out HZ2.out rfl (by decide) _ 0 [] rfl HMADE.out _ m.en.length (intV m.en) rfl HIN.out (ints_one m.en) (by unfold maxLen; omega) (by omega) (by simp) ?_)
  intro v1 u2 ho1 hg1 _
  clear q0 q1
  have ho2 : u2.ownsRow w2.heap.size 3 1 v1 m.en.length (intV m.en) := by simpa using ho1
  have hbu : Below w2.heap.size w2 u2 := HB.out.grown hg1 (by simp) (fun k hk => (HMADE.out.lt k hk).1)
  obtain ⟨B2, d2, rfl⟩ := own_form ho2
  have hcu := HC2.out.below hbu
  have q2 : u2.cell? ⟨M, 5, none⟩ = some (.slice A2 m.en.length c2) := hcu.cell rfl
  have q3 := hcu.frozen 5
  have hcs : Cx w (u2.setCell ⟨M, 5, none⟩ (.slice B2 m.en.length d2)) M #[.int .i64 m.kd, .int .u64 m.step, .string ev, .slice B0 m.tr.length d0, .slice B1 m.ss.length d1, .slice B2 m.en.length d2, .slice A3 m.vs.length c3, .slice A4 m.sets.length c4, .slice A5 Q.length c5] := hcu.set (Nat.le_of_eq HM.out.symm) 5 _
  have hgs := grown_set u2 M 5 (.slice B2 m.en.length d2)
  obtain ⟨w3, hw⟩ : ∃ W, W = u2.setCell ⟨M, 5, none⟩ (.slice B2 m.en.length d2) := ⟨_, rfl⟩
  rw [← hw] at hcs hgs
  have HW3 := Lib.hid hw; have HC3 := Lib.hid hcs
  have hMl : M + 2 ≤ w2.heap.size := lt_of_heap HC2.out.res
  have hr2 := own_grown (own_le ho2 hMl) (show M < M + 2 by omega) hgs
  have hr0 := own_grown (own_below HR0.out hbu) (show M < M + 2 by omega) hgs
  have hr1 := own_grown (own_below HR1.out hbu) (show M < M + 2 by omega) hgs
  replace HR0 := Lib.hid hr0
  replace HR1 := Lib.hid hr1
  have HR2 := Lib.hid hr2
  clear ho1 ho2 hg1 hbu hcu hcs hgs hw hMl hlen HIN HMADE HB HC2 hr0 hr1 hr2
  go_upto_region 4 with fail
  rw [← HW3.out]
  clear q2 q3
  -- vs
  have hin := HMI.out.vs.below HC3.out.low
  have hb : Below w3.heap.size w3 (w3.alloc (.cells #[] 3)) := (Below.refl _ _).alloc (Nat.le_refl _) _
  have HIN := Lib.hid (hin.below hb)
  have HMADE := Lib.hid (made_row w3 3 1)
  have hcb := HC3.out.below hb
  have q0 : (w3.alloc (.cells #[] 3)).cell? ⟨M, 6, none⟩ = some (.slice A3 m.vs.length c3) := hcb.cell rfl
  have q1 : w3.cell? ⟨M, 6, none⟩ = some (.slice A3 m.vs.length c3) := HC3.out.cell rfl
  have hlen := HMI.out.lvs
  have HB := Lib.hid hb
  clear hin hcb hb
  go_wp2_with (at_builtin; refine Ow.wpList_append rfl (.tmp 18) (.tmp 20) 23 rfl w3.heap.size 3 i0 _ 1 8 Try.underlying23 HI.out HZ0.out HZI.out HZ2.out rfl (by decide) _ 0 [] rfl HMADE.out _ m.vs.length (intV m.vs) rfl HIN.out (ints_one m.vs) (by unfold maxLen; omega) (by omega) (by simp) ?_)
  intro v1 u3 ho1 hg1 _
  clear q0 q1
  have ho2 : u3.ownsRow w3.heap.size 3 1 v1 m.vs.length (intV m.vs) := by simpa using ho1
  have hbu : Below w3.heap.size w3 u3 := HB.out.grown hg1 (by simp) (fun k hk => (HMADE.out.lt k hk).1)
  obtain ⟨B3, d3, rfl⟩ := own_form ho2
  have hcu := HC3.out.below hbu
  have q2 : u3.cell? ⟨M, 6, none⟩ = some (.slice A3 m.vs.length c3) := hcu.cell rfl
  have q3 := hcu.frozen 6
  have hcs : Cx w (u3.setCell ⟨M, 6, none⟩ (.slice B3 m.vs.length d3)) M #[.int .i64 m.kd, .int .u64 m.step, .string ev, .slice B0 m.tr.length d0, .slice B1 m.ss.length d1, .slice B2 m.en.length d2, .slice B3 m.vs.length d3, .slice A4 m.sets.length c4, .slice A5 Q.length c5] := hcu.set (Nat.le_of_eq HM.out.symm) 6 _
  have hgs := grown_set u3 M 6 (.slice B3 m.vs.length d3)
  obtain ⟨w4, hw⟩ : ∃ W, W = u3.setCell ⟨M, 6, none⟩ (.slice B3 m.vs.length d3) := ⟨_, rfl⟩
  rw [← hw] at hcs hgs
  have HW4 := Lib.hid hw; have HC4 := Lib.hid hcs
  have hMl : M + 2 ≤ w3.heap.size := lt_of_heap HC3.out.res
  have hr3 := own_grown (own_le ho2 hMl) (show M < M + 2 by omega) hgs
  have hr0 := own_grown (own_below HR0.out hbu) (show M < M + 2 by omega) hgs
  have hr1 := own_grown (own_below HR1.out hbu) (show M < M + 2 by omega) hgs
  have hr2 := own_grown (own_below HR2.out hbu) (show M < M + 2 by omega) hgs
  replace HR0 := Lib.hid hr0
  replace HR1 := Lib.hid hr1
  replace HR2 := Lib.hid hr2
  have HR3 := Lib.hid hr3
  clear ho1 ho2 hg1 hbu hcu hcs hgs hw hMl hlen HIN HMADE HB HC3 hr0 hr1 hr2 hr3
  go_upto_region 5 with fail
  rw [← HW4.out]
  clear q2 q3
  -- sets
  have hin := HMI.out.sets.below HC4.out.low
  have hb : Below w4.heap.size w4 (w4.alloc (.cells #[] 66)) := (Below.refl _ _).alloc (Nat.le_refl _) _
  have HIN := Lib.hid (hin.below hb)
  have HMADE := Lib.hid (made_row w4 66 4)
  have hcb := HC4.out.below hb
  have q0 : (w4.alloc (.cells #[] 66)).cell? ⟨M, 7, none⟩ = some (.slice A4 m.sets.length c4) := hcb.cell rfl
  have q1 : w4.cell? ⟨M, 7, none⟩ = some (.slice A4 m.sets.length c4) := HC4.out.cell rfl
  have hlen := HMI.out.lst
  have HB := Lib.hid hb
  clear hin hcb hb
  go_wp2_with (at_builtin; refine Ow.wpList_append rfl (.tmp 23) (.tmp 25) 24 rfl w4.heap.size 66 j0 _ 4 32 Try.underlying24 HJ.out HY0.out HY1.out HY2.out rfl (by decide) _ 0 [] rfl HMADE.out _ m.sets.length (setsV m.sets) rfl HIN.out (sets_one m.sets) (by unfold maxLen; omega) (by omega) (by simp) ?_)
  intro v1 u4 ho1 hg1 _
  clear q0 q1
  have ho2 : u4.ownsRow w4.heap.size 66 4 v1 m.sets.length (setsV m.sets) := by simpa using ho1
  have hbu : Below w4.heap.size w4 u4 := HB.out.grown hg1 (by simp) (fun k hk => (HMADE.out.lt k hk).1)
  obtain ⟨B4, d4, rfl⟩ := own_form ho2
  have hcu := HC4.out.below hbu
  have q2 : u4.cell? ⟨M, 7, none⟩ = some (.slice A4 m.sets.length c4) := hcu.cell rfl
  have q3 := hcu.frozen 7
  have hcs : Cx w (u4.setCell ⟨M, 7, none⟩ (.slice B4 m.sets.length d4)) M #[.int .i64 m.kd, .int .u64 m.step, .string ev, .slice B0 m.tr.length d0, .slice B1 m.ss.length d1, .slice B2 m.en.length d2, .slice B3 m.vs.length d3, .slice B4 m.sets.length d4, .slice A5 Q.length c5] := hcu.set (Nat.le_of_eq HM.out.symm) 7 _
  have hgs := grown_set u4 M 7 (.slice B4 m.sets.length d4)
  obtain ⟨w5, hw⟩ : ∃ W, W = u4.setCell ⟨M, 7, none⟩ (.slice B4 m.sets.length d4) := ⟨_, rfl⟩
  rw [← hw] at hcs hgs
  have HW5 := Lib.hid hw; have HC5 := Lib.hid hcs
  have hMl : M + 2 ≤ w4.heap.size := lt_of_heap HC4.out.res
  have hr4 := own_grown (own_le ho2 hMl) (show M < M + 2 by omega) hgs
  have hr0 := own_grown (own_below HR0.out hbu) (show M < M + 2 by omega) hgs
  have hr1 := own_grown (own_below HR1.out hbu) (show M < M + 2 by omega) hgs
  have hr2 := own_grown (own_below HR2.out hbu) (show M < M + 2 by omega) hgs
  have hr3 := own_grown (own_below HR3.out hbu) (show M < M + 2 by omega) hgs
  replace HR0 := Lib.hid hr0
  replace HR1 := Lib.hid hr1
  replace HR2 := Lib.hid hr2
  replace HR3 := Lib.hid hr3
  have HR4 := Lib.hid hr4
  clear ho1 ho2 hg1 hbu hcu hcs hgs hw hMl hlen HIN HMADE HB HC4 hr0 hr1 hr2 hr3 hr4
  go_upto_region 6 with fail
  rw [← HW5.out]
  clear q2 q3
  -- pasts
  have hin := HMI.out.pasts.below HC5.out.low
  have hb : Below w5.heap.size w5 (w5.alloc (.cells #[] 68)) := (Below.refl _ _).alloc (Nat.le_refl _) _
  have HIN := Lib.hid (hin.below hb)
  have HMADE := Lib.hid (made_row w5 68 2)
  have hcb := HC5.out.below hb
  have q0 : (w5.alloc (.cells #[] 68)).cell? ⟨M, 8, none⟩ = some (.slice A5 Q.length c5) := hcb.cell rfl
  have q1 : w5.cell? ⟨M, 8, none⟩ = some (.slice A5 Q.length c5) := HC5.out.cell rfl
  have hlen := HMI.out.lps
  have HB := Lib.hid hb
  clear hin hcb hb
  go_wp2_with (at_builtin; refine Ow.wpList_append rfl (.tmp 28) (.tmp 30) 25 rfl w5.heap.size 68 k0 _ 2 32 Try.underlying25 HK.out HX0.out HX1.out HX2.out rfl (by decide) _ 0 [] rfl HMADE.out _ Q.length (Q.flatMap pairV) rfl HIN.out (pasts_one Q HMI.out.inn) (by unfold maxLen; omega) (by omega) (by simp) ?_)
  intro v1 u5 ho1 hg1 _
  clear q0 q1
  have ho2 : u5.ownsRow w5.heap.size 68 2 v1 Q.length (Q.flatMap pairV) := by simpa using ho1
  have hbu : Below w5.heap.size w5 u5 := HB.out.grown hg1 (by simp) (fun k hk => (HMADE.out.lt k hk).1)
  obtain ⟨B5, d5, rfl⟩ := own_form ho2
  have hcu := HC5.out.below hbu
  have q2 : u5.cell? ⟨M, 8, none⟩ = some (.slice A5 Q.length c5) := hcu.cell rfl
  have q3 := hcu.frozen 8
  have hcs : Cx w (u5.setCell ⟨M, 8, none⟩ (.slice B5 Q.length d5)) M #[.int .i64 m.kd, .int .u64 m.step, .string ev, .slice B0 m.tr.length d0, .slice B1 m.ss.length d1, .slice B2 m.en.length d2, .slice B3 m.vs.length d3, .slice B4 m.sets.length d4, .slice B5 Q.length d5] := hcu.set (Nat.le_of_eq HM.out.symm) 8 _
  have hgs := grown_set u5 M 8 (.slice B5 Q.length d5)
  obtain ⟨w6, hw⟩ : ∃ W, W = u5.setCell ⟨M, 8, none⟩ (.slice B5 Q.length d5) := ⟨_, rfl⟩
  rw [← hw] at hcs hgs
  have HW6 := Lib.hid hw; have HC6 := Lib.hid hcs
  have hMl : M + 2 ≤ w5.heap.size := lt_of_heap HC5.out.res
  have hr5 := own_grown (own_le ho2 hMl) (show M < M + 2 by omega) hgs
  have hr0 := own_grown (own_below HR0.out hbu) (show M < M + 2 by omega) hgs
  have hr1 := own_grown (own_below HR1.out hbu) (show M < M + 2 by omega) hgs
  have hr2 := own_grown (own_below HR2.out hbu) (show M < M + 2 by omega) hgs
  have hr3 := own_grown (own_below HR3.out hbu) (show M < M + 2 by omega) hgs
  have hr4 := own_grown (own_below HR4.out hbu) (show M < M + 2 by omega) hgs
  replace HR0 := Lib.hid hr0
  replace HR1 := Lib.hid hr1
  replace HR2 := Lib.hid hr2
  replace HR3 := Lib.hid hr3
  replace HR4 := Lib.hid hr4
  have HR5 := Lib.hid hr5
  clear ho1 ho2 hg1 hbu hcu hcs hgs hw hMl hlen HIN HMADE HB HC5 hr0 hr1 hr2 hr3 hr4 hr5
  go_upto_region 7 with fail
  rw [← HW6.out]
  clear q2 q3
  have m0 : w6.cell? ⟨M, 0, none⟩ = some (.int .i64 m.kd) := HC6.out.cell rfl
  have e0 : w6.cell? ⟨M + 1, 0, none⟩ = some (.int .i64 0) := (cell_of_row w6 (M + 1) 0 _ _ _ HC6.out.res).trans rfl
  have k0 : w6.frozen? ⟨M + 1, 0, none⟩ = false := frozen_of_row w6 (M + 1) 0 _ _ HC6.out.res
  have m1 : w6.cell? ⟨M, 1, none⟩ = some (.int .u64 m.step) := HC6.out.cell rfl
  have e1 : w6.cell? ⟨M + 1, 1, none⟩ = some (.int .u64 0) := (cell_of_row w6 (M + 1) 1 _ _ _ HC6.out.res).trans rfl
  have k1 : w6.frozen? ⟨M + 1, 1, none⟩ = false := frozen_of_row w6 (M + 1) 1 _ _ HC6.out.res
  have m2 : w6.cell? ⟨M, 2, none⟩ = some (.string ev) := HC6.out.cell rfl
  have e2 : w6.cell? ⟨M + 1, 2, none⟩ = some (.string ⟨#[]⟩) := (cell_of_row w6 (M + 1) 2 _ _ _ HC6.out.res).trans rfl
  have k2 : w6.frozen? ⟨M + 1, 2, none⟩ = false := frozen_of_row w6 (M + 1) 2 _ _ HC6.out.res
  have m3 : w6.cell? ⟨M, 3, none⟩ = some (.slice B0 m.tr.length d0) := HC6.out.cell rfl
  have e3 : w6.cell? ⟨M + 1, 3, none⟩ = some (.slice none 0 0) := (cell_of_row w6 (M + 1) 3 _ _ _ HC6.out.res).trans rfl
  have k3 : w6.frozen? ⟨M + 1, 3, none⟩ = false := frozen_of_row w6 (M + 1) 3 _ _ HC6.out.res
  have m4 : w6.cell? ⟨M, 4, none⟩ = some (.slice B1 m.ss.length d1) := HC6.out.cell rfl
  have e4 : w6.cell? ⟨M + 1, 4, none⟩ = some (.slice none 0 0) := (cell_of_row w6 (M + 1) 4 _ _ _ HC6.out.res).trans rfl
  have k4 : w6.frozen? ⟨M + 1, 4, none⟩ = false := frozen_of_row w6 (M + 1) 4 _ _ HC6.out.res
  have m5 : w6.cell? ⟨M, 5, none⟩ = some (.slice B2 m.en.length d2) := HC6.out.cell rfl
  have e5 : w6.cell? ⟨M + 1, 5, none⟩ = some (.slice none 0 0) := (cell_of_row w6 (M + 1) 5 _ _ _ HC6.out.res).trans rfl
  have k5 : w6.frozen? ⟨M + 1, 5, none⟩ = false := frozen_of_row w6 (M + 1) 5 _ _ HC6.out.res
  have m6 : w6.cell? ⟨M, 6, none⟩ = some (.slice B3 m.vs.length d3) := HC6.out.cell rfl
  have e6 : w6.cell? ⟨M + 1, 6, none⟩ = some (.slice none 0 0) := (cell_of_row w6 (M + 1) 6 _ _ _ HC6.out.res).trans rfl
  have k6 : w6.frozen? ⟨M + 1, 6, none⟩ = false := frozen_of_row w6 (M + 1) 6 _ _ HC6.out.res
  have m7 : w6.cell? ⟨M, 7, none⟩ = some (.slice B4 m.sets.length d4) := HC6.out.cell rfl
  have e7 : w6.cell? ⟨M + 1, 7, none⟩ = some (.slice none 0 0) := (cell_of_row w6 (M + 1) 7 _ _ _ HC6.out.res).trans rfl
  have k7 : w6.frozen? ⟨M + 1, 7, none⟩ = false := frozen_of_row w6 (M + 1) 7 _ _ HC6.out.res
  have m8 : w6.cell? ⟨M, 8, none⟩ = some (.slice B5 Q.length d5) := HC6.out.cell rfl
  have e8 : w6.cell? ⟨M + 1, 8, none⟩ = some (.slice none 0 0) := (cell_of_row w6 (M + 1) 8 _ _ _ HC6.out.res).trans rfl
  have k8 : w6.frozen? ⟨M + 1, 8, none⟩ = false := frozen_of_row w6 (M + 1) 8 _ _ HC6.out.res
  have hf := put9_row HC6.out.res (.int .i64 m.kd) (.int .u64 m.step) (.string ev) (.slice B0 m.tr.length d0) (.slice B1 m.ss.length d1) (.slice B2 m.en.length d2) (.slice B3 m.vs.length d3) (.slice B4 m.sets.length d4) (.slice B5 Q.length d5)
  have hgf := put9_grown w6 (M + 1) (.int .i64 m.kd) (.int .u64 m.step) (.string ev) (.slice B0 m.tr.length d0) (.slice B1 m.ss.length d1) (.slice B2 m.en.length d2) (.slice B3 m.vs.length d3) (.slice B4 m.sets.length d4) (.slice B5 Q.length d5)
  obtain ⟨WF, hWF⟩ : ∃ W, W = put9 w6 (M + 1) (.int .i64 m.kd) (.int .u64 m.step) (.string ev) (.slice B0 m.tr.length d0) (.slice B1 m.ss.length d1) (.slice B2 m.en.length d2) (.slice B3 m.vs.length d3) (.slice B4 m.sets.length d4) (.slice B5 Q.length d5) := ⟨_, rfl⟩
  rw [← hWF] at hf hgf
  unfold put9 at hWF
  have HF := Lib.hid hf; have HGF := Lib.hid hgf; have HWF := Lib.hid hWF
  clear hf hgf hWF
  go_wp2
  rw [← HWF.out]
  have q0 : WF.cell? ⟨M + 1, 0, none⟩ = some (.int .i64 m.kd) := (cell_of_row WF (M + 1) 0 _ _ _ HF.out).trans rfl
  have q1 : WF.cell? ⟨M + 1, 1, none⟩ = some (.int .u64 m.step) := (cell_of_row WF (M + 1) 1 _ _ _ HF.out).trans rfl
  have q2 : WF.cell? ⟨M + 1, 2, none⟩ = some (.string ev) := (cell_of_row WF (M + 1) 2 _ _ _ HF.out).trans rfl
  have q3 : WF.cell? ⟨M + 1, 3, none⟩ = some (.slice B0 m.tr.length d0) := (cell_of_row WF (M + 1) 3 _ _ _ HF.out).trans rfl
  have q4 : WF.cell? ⟨M + 1, 4, none⟩ = some (.slice B1 m.ss.length d1) := (cell_of_row WF (M + 1) 4 _ _ _ HF.out).trans rfl
  have q5 : WF.cell? ⟨M + 1, 5, none⟩ = some (.slice B2 m.en.length d2) := (cell_of_row WF (M + 1) 5 _ _ _ HF.out).trans rfl
  have q6 : WF.cell? ⟨M + 1, 6, none⟩ = some (.slice B3 m.vs.length d3) := (cell_of_row WF (M + 1) 6 _ _ _ HF.out).trans rfl
  have q7 : WF.cell? ⟨M + 1, 7, none⟩ = some (.slice B4 m.sets.length d4) := (cell_of_row WF (M + 1) 7 _ _ _ HF.out).trans rfl
  have q8 : WF.cell? ⟨M + 1, 8, none⟩ = some (.slice B5 Q.length d5) := (cell_of_row WF (M + 1) 8 _ _ _ HF.out).trans rfl
  refine bodyPost_ret (v := .agg #[.int .i64 m.kd, .int .u64 m.step, .string ev, .slice B0 m.tr.length d0, .slice B1 m.ss.length d1, .slice B2 m.en.length d2, .slice B3 m.vs.length d3, .slice B4 m.sets.length d4, .slice B5 Q.length d5]) (by unfold results; rw [Try.results10]; simp [go_sem, q0, q1, q2, q3, q4, q5, q6, q7, q8]) rfl ?_
  have hlt : M + 1 < M + 2 := by omega
  have hlow : Below w.heap.size w WF := low_grown HC6.out.low HGF.out (by have := HM.out; omega) HC6.out.low.size
  have h0 := HMI.out.msgIn
  refine ⟨⟨_, _, _, _, _, _, rfl, h0.evd, h0.evl, h0.step, own_ints (own_grown HR0.out hlt HGF.out), own_ints (own_grown HR1.out hlt HGF.out), own_ints (own_grown HR2.out hlt HGF.out), own_ints (own_grown HR3.out hlt HGF.out), own_sets (own_grown HR4.out hlt HGF.out) HMI.out.wide, ?_, h0.ltr, h0.lss, h0.len, h0.lvs, h0.lst, h0.lps⟩, hlow⟩
  rw [HMI.out.q]
  exact inn_pasts (Inn.of_own (own_grown HR5.out hlt HGF.out)) (fun q hq => ⟨(HMI.out.inn q hq).1.below hlow, (HMI.out.inn q hq).2⟩)
end Go.Proofs.Ytlbhkendbngmaaa.Wi
