/- Own texts, joined: Vs. -/
import Derived.Test.YtjgfkmakfdepcaaGreatDoorR21
namespace Go.Proofs.YtjgfkmakfdepcaaGreatDoor
open Go.RowKit

theorem vpost_pos (t : T) : 1 ≤ (post t).length := by
  cases t <;> simp [post] <;> omega
theorem take_shift {cs pre l : List CM} {c : CM} {e : Nat} (he : e < cs.length) (h : cs.take (e + 1) = pre ++ (l ++ [c])) : cs[e] = c ∧ cs.take e = pre ++ l ∧ e = pre.length + l.length := by
  have hl := congrArg List.length h
  simp at hl
  have hlen : e = pre.length + l.length := by omega
  rw [List.take_succ_eq_append_getElem he, ← List.append_assoc] at h
  have := List.append_inj h (by simp; omega)
  refine ⟨by simpa using this.2, this.1, hlen⟩
theorem right_formed {cs : List CM} (h : rightB cs = true) : ∀ c ∈ cs, formedB c = true := by
  have key : ∀ (l : List CM) (v : Nat) (r : Nat), runB l v = some r → ∀ c ∈ l, formedB c = true := by
    intro l
    induction l with
    | nil => intro _ _ _ c hc; cases hc
    | cons x r ih =>
      intro v k h c hc
      unfold runB at h
      split at h
      · rename_i hx
        rcases List.mem_cons.1 hc with rfl | hc
        · exact hx.1
        · exact ih _ _ h c hc
      · cases h
  unfold rightB at h
  simp at h
  exact key cs 0 1 h.2
theorem opsR_of {c : CM} {k : Nat} (h : formedB c = true) (hk : operN c.op = k) : opsR c = k := by rw [opsR_yes h, hk]


set_option maxRecDepth 100000 in
set_option maxHeartbeats 4000000 in
theorem refEv_rec (v vv xv sv : Value) (cs : List CM) (vs : List VM) (xs : List VA) (ss : List (List UInt8)) (hF : ∀ c ∈ cs, formedB c = true) (hl : cs.length ≤ 32) (hvl : vs.length ≤ 4611686018427387904) (_hxl : xs.length ≤ 4611686018427387904) (hsl : ss.length ≤ 4611686018427387904) (hlen0 : vs.length = xs.length) (hx : ∀ x ∈ xs, OkV x) (t : T) :
    OkT t → ∀ (pre : List CM) (e : Nat) (w : World), e < cs.length → cs.take (e + 1) = pre ++ post t → RdC w v cs → RdV w vv vs → RdX w xv xs → RdW w sv ss →
    Calls Tryz.prog 70 #[v, .int .i64 e, vv, xv, sv] w fun x w' => x = outW (eT vs xs ss t) ∧ Below w.heap.size w w' := by
  have HF := Lib.hid hF; clear hF
  have HXO := Lib.hid hx; clear hx
  have HLN := Lib.hid hlen0; clear hlen0
  induction t with
  | leaf c =>
    intro ht pre e w he htk hR hV hX hS
    obtain ⟨hce, htk', hlen⟩ := take_shift (l := ([] : List CM)) he htk
    have hfm := HF.out (cs[e]'he) (List.getElem_mem _)
    rw [hce] at hfm
    have HV := Lib.hid hV; have HX := Lib.hid hX; have HS := Lib.hid hS; have HR := Lib.hid hR
    obtain ⟨V, vc, rfl⟩ := hV.form
    obtain ⟨X, xc, rfl⟩ := hX.form
    obtain ⟨S, sc, rfl⟩ := hS.form
    obtain ⟨A, c0, rfl, hr⟩ := hR
    obtain ⟨b, o', rfl, d0, d1, d2⟩ := hr e he
    rw [hce] at d0 d1 d2
    obtain ⟨N, hN, hNl⟩ := bstr_some c.nm
    rw [hN] at d2
    have hops := fun W => refOperands_any c W (by have := formed_name hfm; omega)
    rw [hN, opsR_of hfm ht.2] at hops
    have HOP := Lib.hid hops
    obtain ⟨n, hn⟩ : ∃ n, cs.length = n := ⟨_, rfl⟩
    have hen : e < n := by omega
    have hn32 : n ≤ 32 := by omega
    clear hops hV hX hS hr hce
    have hop : 1 ≤ c.op ∧ c.op ≤ 6 := operN_zero ht.2
    rw [show eT vs xs ss (.leaf c) = leafE vs xs ss c from rfl]
    obtain ⟨op, a, nm⟩ := c
    simp only at d0 d1 d2 hop hNl HOP
    rw [hn]
    rw [hn] at HR
    clear htk htk' hlen ht hfm hN hn he
    have HB0 : Hid (Below w.heap.size w ((w.alloc (.cells #[.int .i64 0, .int .i64 0, .int .i64 0] 54)).alloc (.cells #[.int .i64 op, .int .i64 a, .string N] 93))) := ((Below.refl _ _).alloc (Nat.le_refl _) _).alloc (by simp) _
    have HD0 : Hid (((w.alloc (.cells #[.int .i64 0, .int .i64 0, .int .i64 0] 54)).alloc (.cells #[.int .i64 op, .int .i64 a, .string N] 93)).heap[w.heap.size]? = some (.cells #[.int .i64 0, .int .i64 0, .int .i64 0] 54 (0, 0))) := heap_up (heap_at rfl _ _) _
    rcases op_leaf hop with rfl | rfl | rfl | rfl | rfl | rfl
    · have HE : Hid (outW (leafE vs xs ss ⟨1, a, nm⟩) = .returned (.tuple #[.agg #[.int .i64 1, .int .i64 a, .int .i64 0], .int .i64 0])) := rfl
      have z0 := old_cell (o := (.cells #[.int .i64 0, .int .i64 0, .int .i64 0] 54)) d0
      have z1 := old_cell (o := (.cells #[.int .i64 0, .int .i64 0, .int .i64 0] 54)) d1
      have z2 := old_cell (o := (.cells #[.int .i64 0, .int .i64 0, .int .i64 0] 54)) d2
      go_enter Tryz.func70, Tryz.ntmps70
      go_wp2_with fail
      refine (HOP.out _).mono ?_
      rintro x w1 ⟨rfl, hb1⟩
      have HB1 := Lib.hid (HB0.out.trans (hb1.mono HB0.out.size))
      have hd1 : w1.heap[w.heap.size]? = some (.cells #[.int .i64 0, .int .i64 0, .int .i64 0] 54 (0, 0)) := (hb1.block _ (by simp; omega)).trans HD0.out
      have hc0 := hb1.cell (p := ⟨w.heap.size + 1, 0, none⟩) (by simp)
      have hc1 := hb1.cell (p := ⟨w.heap.size + 1, 1, none⟩) (by simp)
      have hc2 := hb1.cell (p := ⟨w.heap.size + 1, 2, none⟩) (by simp)
      have hz1 : w.heap.size + 1 + 1 ≤ w1.heap.size := by have := hb1.size; simp at this; omega
      have HD1 := Lib.hid hd1
      clear hb1 hd1
      obtain ⟨d0', d1', d2', f0, f1, f2⟩ := at3 HD1.out
      go_wp2
      obtain ⟨⟨r0, r1, r2⟩, hbf⟩ := fin3 HD1.out (Nat.le_refl _) HB1.out (.int .i64 1) (.int .i64 a) (.int .i64 0)
      refine bodyPost_ret (v := .tuple #[.agg #[.int .i64 1, .int .i64 a, .int .i64 0], .int .i64 0]) ?_ rfl ⟨HE.out.symm, hbf⟩
      simp [results, Tryz.results70, go_sem, r0, r1, r2]
    · have HE : Hid (outW (leafE vs xs ss ⟨2, a, nm⟩) = .returned (.tuple #[.agg #[.int .i64 3, .int .i64 0, .int .i64 a], .int .i64 0])) := rfl
      have z0 := old_cell (o := (.cells #[.int .i64 0, .int .i64 0, .int .i64 0] 54)) d0
      have z1 := old_cell (o := (.cells #[.int .i64 0, .int .i64 0, .int .i64 0] 54)) d1
      have z2 := old_cell (o := (.cells #[.int .i64 0, .int .i64 0, .int .i64 0] 54)) d2
      go_enter Tryz.func70, Tryz.ntmps70
      go_wp2_with fail
      refine (HOP.out _).mono ?_
      rintro x w1 ⟨rfl, hb1⟩
      have HB1 := Lib.hid (HB0.out.trans (hb1.mono HB0.out.size))
      have hd1 : w1.heap[w.heap.size]? = some (.cells #[.int .i64 0, .int .i64 0, .int .i64 0] 54 (0, 0)) := (hb1.block _ (by simp; omega)).trans HD0.out
      have hc0 := hb1.cell (p := ⟨w.heap.size + 1, 0, none⟩) (by simp)
      have hc1 := hb1.cell (p := ⟨w.heap.size + 1, 1, none⟩) (by simp)
      have hc2 := hb1.cell (p := ⟨w.heap.size + 1, 2, none⟩) (by simp)
      have hz1 : w.heap.size + 1 + 1 ≤ w1.heap.size := by have := hb1.size; simp at this; omega
      have HD1 := Lib.hid hd1
      clear hb1 hd1
      obtain ⟨d0', d1', d2', f0, f1, f2⟩ := at3 HD1.out
      go_wp2
      obtain ⟨⟨r0, r1, r2⟩, hbf⟩ := fin3 HD1.out (Nat.le_refl _) HB1.out (.int .i64 3) (.int .i64 0) (.int .i64 a)
      refine bodyPost_ret (v := .tuple #[.agg #[.int .i64 3, .int .i64 0, .int .i64 a], .int .i64 0]) ?_ rfl ⟨HE.out.symm, hbf⟩
      simp [results, Tryz.results70, go_sem, r0, r1, r2]
    · have HE : Hid (outW (leafE vs xs ss ⟨3, a, nm⟩) = .returned (.tuple #[.agg #[.int .i64 2, .int .i64 1, .int .i64 0], .int .i64 0])) := rfl
      have z0 := old_cell (o := (.cells #[.int .i64 0, .int .i64 0, .int .i64 0] 54)) d0
      have z1 := old_cell (o := (.cells #[.int .i64 0, .int .i64 0, .int .i64 0] 54)) d1
      have z2 := old_cell (o := (.cells #[.int .i64 0, .int .i64 0, .int .i64 0] 54)) d2
      go_enter Tryz.func70, Tryz.ntmps70
      go_wp2_with fail
      refine (HOP.out _).mono ?_
      rintro x w1 ⟨rfl, hb1⟩
      have HB1 := Lib.hid (HB0.out.trans (hb1.mono HB0.out.size))
      have hd1 : w1.heap[w.heap.size]? = some (.cells #[.int .i64 0, .int .i64 0, .int .i64 0] 54 (0, 0)) := (hb1.block _ (by simp; omega)).trans HD0.out
      have hc0 := hb1.cell (p := ⟨w.heap.size + 1, 0, none⟩) (by simp)
      have hc1 := hb1.cell (p := ⟨w.heap.size + 1, 1, none⟩) (by simp)
      have hc2 := hb1.cell (p := ⟨w.heap.size + 1, 2, none⟩) (by simp)
      have hz1 : w.heap.size + 1 + 1 ≤ w1.heap.size := by have := hb1.size; simp at this; omega
      have HD1 := Lib.hid hd1
      clear hb1 hd1
      go_wp2_with fail
      refine (rTruth_tru _).mono ?_
      rintro x w2 ⟨rfl, hb2⟩
      have HB2 := Lib.hid (HB1.out.trans (hb2.mono HB1.out.size))
      have HD2 : Hid (w2.heap[w.heap.size]? = some (.cells #[.int .i64 0, .int .i64 0, .int .i64 0] 54 (0, 0))) := (hb2.block _ (by omega)).trans HD1.out
      clear hb2
      obtain ⟨d0', d1', d2', f0, f1, f2⟩ := at3 HD2.out
      go_wp2
      obtain ⟨⟨r0, r1, r2⟩, hbf⟩ := fin3 HD2.out (Nat.le_refl _) HB2.out (.int .i64 2) (.int .i64 1) (.int .i64 0)
      refine bodyPost_ret (v := .tuple #[.agg #[.int .i64 2, .int .i64 1, .int .i64 0], .int .i64 0]) ?_ rfl ⟨HE.out.symm, hbf⟩
      simp [results, Tryz.results70, go_sem, r0, r1, r2]
    · have HE : Hid (outW (leafE vs xs ss ⟨4, a, nm⟩) = .returned (.tuple #[.agg #[.int .i64 2, .int .i64 0, .int .i64 0], .int .i64 0])) := rfl
      have z0 := old_cell (o := (.cells #[.int .i64 0, .int .i64 0, .int .i64 0] 54)) d0
      have z1 := old_cell (o := (.cells #[.int .i64 0, .int .i64 0, .int .i64 0] 54)) d1
      have z2 := old_cell (o := (.cells #[.int .i64 0, .int .i64 0, .int .i64 0] 54)) d2
      go_enter Tryz.func70, Tryz.ntmps70
      go_wp2_with fail
      refine (HOP.out _).mono ?_
      rintro x w1 ⟨rfl, hb1⟩
      have HB1 := Lib.hid (HB0.out.trans (hb1.mono HB0.out.size))
      have hd1 : w1.heap[w.heap.size]? = some (.cells #[.int .i64 0, .int .i64 0, .int .i64 0] 54 (0, 0)) := (hb1.block _ (by simp; omega)).trans HD0.out
      have hc0 := hb1.cell (p := ⟨w.heap.size + 1, 0, none⟩) (by simp)
      have hc1 := hb1.cell (p := ⟨w.heap.size + 1, 1, none⟩) (by simp)
      have hc2 := hb1.cell (p := ⟨w.heap.size + 1, 2, none⟩) (by simp)
      have hz1 : w.heap.size + 1 + 1 ≤ w1.heap.size := by have := hb1.size; simp at this; omega
      have HD1 := Lib.hid hd1
      clear hb1 hd1
      go_wp2_with fail
      refine (rTruth_fls _).mono ?_
      rintro x w2 ⟨rfl, hb2⟩
      have HB2 := Lib.hid (HB1.out.trans (hb2.mono HB1.out.size))
      have HD2 : Hid (w2.heap[w.heap.size]? = some (.cells #[.int .i64 0, .int .i64 0, .int .i64 0] 54 (0, 0))) := (hb2.block _ (by omega)).trans HD1.out
      clear hb2
      obtain ⟨d0', d1', d2', f0, f1, f2⟩ := at3 HD2.out
      go_wp2
      obtain ⟨⟨r0, r1, r2⟩, hbf⟩ := fin3 HD2.out (Nat.le_refl _) HB2.out (.int .i64 2) (.int .i64 0) (.int .i64 0)
      refine bodyPost_ret (v := .tuple #[.agg #[.int .i64 2, .int .i64 0, .int .i64 0], .int .i64 0]) ?_ rfl ⟨HE.out.symm, hbf⟩
      simp [results, Tryz.results70, go_sem, r0, r1, r2]
    · rw [show leafE vs xs ss ⟨5, a, nm⟩ = varE vs xs nm from rfl]
      have HFI := Lib.hid (fun W hV => refFind_any (.slice V vs.length vc) vs N W hV hvl)
      rw [hNl] at HFI
      have hix := varE_ix vs xs nm HLN.out
      generalize ixP (isV nm) vs 0 = ix at *
      rcases hix with ⟨rfl, hE⟩ | ⟨j, hj, rfl, hE⟩
      · have HE : Hid (outW (varE vs xs nm) = .returned (.tuple #[.agg #[.int .i64 0, .int .i64 0, .int .i64 0], .int .i64 2])) := by show _ = _; rw [hE]; rfl
        clear hE
        have z0 := old_cell (o := (.cells #[.int .i64 0, .int .i64 0, .int .i64 0] 54)) d0
        have z1 := old_cell (o := (.cells #[.int .i64 0, .int .i64 0, .int .i64 0] 54)) d1
        have z2 := old_cell (o := (.cells #[.int .i64 0, .int .i64 0, .int .i64 0] 54)) d2
        go_enter Tryz.func70, Tryz.ntmps70
        go_wp2_with fail
        refine (HOP.out _).mono ?_
        rintro x w1 ⟨rfl, hb1⟩
        have HB1 := Lib.hid (HB0.out.trans (hb1.mono HB0.out.size))
        have hd1 : w1.heap[w.heap.size]? = some (.cells #[.int .i64 0, .int .i64 0, .int .i64 0] 54 (0, 0)) := (hb1.block _ (by simp; omega)).trans HD0.out
        have hc0 := hb1.cell (p := ⟨w.heap.size + 1, 0, none⟩) (by simp)
        have hc1 := hb1.cell (p := ⟨w.heap.size + 1, 1, none⟩) (by simp)
        have hc2 := hb1.cell (p := ⟨w.heap.size + 1, 2, none⟩) (by simp)
        have hz1 : w.heap.size + 1 + 1 ≤ w1.heap.size := by have := hb1.size; simp at this; omega
        have HD1 := Lib.hid hd1
        clear hb1 hd1
        go_wp2_with fail
        refine (HFI.out _ (HV.out.below HB1.out)).mono ?_
        rintro x w2 ⟨rfl, rfl⟩
        obtain ⟨d0', d1', d2', f0, f1, f2⟩ := at3 HD1.out
        go_wp2
        obtain ⟨⟨r0, r1, r2⟩, hbf⟩ := fin3 HD1.out (Nat.le_refl _) HB1.out (.int .i64 0) (.int .i64 0) (.int .i64 0)
        refine bodyPost_ret (v := .tuple #[.agg #[.int .i64 0, .int .i64 0, .int .i64 0], .int .i64 2]) ?_ rfl ⟨HE.out.symm, hbf⟩
        simp [results, Tryz.results70, go_sem, r0, r1, r2]
      · have hxj : ∀ W, RdX W (.slice X xs.length xc) xs → ∃ b o, X = some ⟨b, o, none⟩ ∧ W.cell? ⟨b, o + j * 3, none⟩ = some (.int .i64 xs[j].kd) ∧ W.cell? ⟨b, o + j * 3 + 1, none⟩ = some (.int .i64 xs[j].a) ∧ W.cell? ⟨b, o + j * 3 + 2, none⟩ = some (.int .i64 xs[j].b) := fun W h => by
          obtain ⟨bb, oo, hxx, _, h0, h1, h2⟩ := h.at_ hj
          exact ⟨bb, oo, hxx, h0, h1, h2⟩
        obtain ⟨bb, oo, rfl, x0, x1, x2⟩ := hxj w HX.out
        have HE : Hid (outW (varE vs xs nm) = .returned (.tuple #[.agg #[.int .i64 xs[j].kd, .int .i64 xs[j].a, .int .i64 xs[j].b], .int .i64 0])) := by show _ = _; rw [hE]; rfl
        generalize xs[j].kd = xk at *
        generalize xs[j].a = xa at *
        generalize xs[j].b = xb at *
        clear hE hxj
        have hjn : j < xs.length := hj
        have z0 := old_cell (o := (.cells #[.int .i64 0, .int .i64 0, .int .i64 0] 54)) d0
        have z1 := old_cell (o := (.cells #[.int .i64 0, .int .i64 0, .int .i64 0] 54)) d1
        have z2 := old_cell (o := (.cells #[.int .i64 0, .int .i64 0, .int .i64 0] 54)) d2
        go_enter Tryz.func70, Tryz.ntmps70
        go_wp2_with fail
        refine (HOP.out _).mono ?_
        rintro x w1 ⟨rfl, hb1⟩
        have HB1 := Lib.hid (HB0.out.trans (hb1.mono HB0.out.size))
        have hd1 : w1.heap[w.heap.size]? = some (.cells #[.int .i64 0, .int .i64 0, .int .i64 0] 54 (0, 0)) := (hb1.block _ (by simp; omega)).trans HD0.out
        have hc0 := hb1.cell (p := ⟨w.heap.size + 1, 0, none⟩) (by simp)
        have hc1 := hb1.cell (p := ⟨w.heap.size + 1, 1, none⟩) (by simp)
        have hc2 := hb1.cell (p := ⟨w.heap.size + 1, 2, none⟩) (by simp)
        have hz1 : w.heap.size + 1 + 1 ≤ w1.heap.size := by have := hb1.size; simp at this; omega
        have HD1 := Lib.hid hd1
        clear hb1 hd1
        have y0 := (HB1.out.cell (cell_lt x0)).trans x0
        have y1 := (HB1.out.cell (cell_lt x1)).trans x1
        have y2 := (HB1.out.cell (cell_lt x2)).trans x2
        go_wp2_with fail
        refine (HFI.out _ (HV.out.below HB1.out)).mono ?_
        rintro x w2 ⟨rfl, rfl⟩
        obtain ⟨d0', d1', d2', f0, f1, f2⟩ := at3 HD1.out
        go_wp2
        obtain ⟨⟨r0, r1, r2⟩, hbf⟩ := fin3 HD1.out (Nat.le_refl _) HB1.out (.int .i64 xk) (.int .i64 xa) (.int .i64 xb)
        refine bodyPost_ret (v := .tuple #[.agg #[.int .i64 xk, .int .i64 xa, .int .i64 xb], .int .i64 0]) ?_ rfl ⟨HE.out.symm, hbf⟩
        simp [results, Tryz.results70, go_sem, r0, r1, r2]
    · rw [show leafE vs xs ss ⟨6, a, nm⟩ = (truV (decide (nm ∈ ss)), 0) from rfl]
      have HHA := Lib.hid (fun W hS => refHas_any (.slice S ss.length sc) ss N W hS (by omega))
      rw [hNl] at HHA
      cases hd : decide (nm ∈ ss) with
      | true =>
        rw [hd] at HHA
        clear hd
        have HE : Hid (outW (truV true, 0) = .returned (.tuple #[.agg #[.int .i64 2, .int .i64 1, .int .i64 0], .int .i64 0])) := rfl
        have z0 := old_cell (o := (.cells #[.int .i64 0, .int .i64 0, .int .i64 0] 54)) d0
        have z1 := old_cell (o := (.cells #[.int .i64 0, .int .i64 0, .int .i64 0] 54)) d1
        have z2 := old_cell (o := (.cells #[.int .i64 0, .int .i64 0, .int .i64 0] 54)) d2
        go_enter Tryz.func70, Tryz.ntmps70
        go_wp2_with fail
        refine (HOP.out _).mono ?_
        rintro x w1 ⟨rfl, hb1⟩
        have HB1 := Lib.hid (HB0.out.trans (hb1.mono HB0.out.size))
        have hd1 : w1.heap[w.heap.size]? = some (.cells #[.int .i64 0, .int .i64 0, .int .i64 0] 54 (0, 0)) := (hb1.block _ (by simp; omega)).trans HD0.out
        have hc0 := hb1.cell (p := ⟨w.heap.size + 1, 0, none⟩) (by simp)
        have hc1 := hb1.cell (p := ⟨w.heap.size + 1, 1, none⟩) (by simp)
        have hc2 := hb1.cell (p := ⟨w.heap.size + 1, 2, none⟩) (by simp)
        have hz1 : w.heap.size + 1 + 1 ≤ w1.heap.size := by have := hb1.size; simp at this; omega
        have HD1 := Lib.hid hd1
        clear hb1 hd1
        go_wp2_with fail
        refine (HHA.out _ (HS.out.below HB1.out)).mono ?_
        rintro x w2 ⟨rfl, rfl⟩
        go_wp2_with fail
        refine (rTruth_tru _).mono ?_
        rintro x w2 ⟨rfl, hb2⟩
        have HB2 := Lib.hid (HB1.out.trans (hb2.mono HB1.out.size))
        have HD2 : Hid (w2.heap[w.heap.size]? = some (.cells #[.int .i64 0, .int .i64 0, .int .i64 0] 54 (0, 0))) := (hb2.block _ (by omega)).trans HD1.out
        clear hb2
        obtain ⟨d0', d1', d2', f0, f1, f2⟩ := at3 HD2.out
        go_wp2
        obtain ⟨⟨r0, r1, r2⟩, hbf⟩ := fin3 HD2.out (Nat.le_refl _) HB2.out (.int .i64 2) (.int .i64 1) (.int .i64 0)
        refine bodyPost_ret (v := .tuple #[.agg #[.int .i64 2, .int .i64 1, .int .i64 0], .int .i64 0]) ?_ rfl ⟨HE.out.symm, hbf⟩
        simp [results, Tryz.results70, go_sem, r0, r1, r2]
      | false =>
        rw [hd] at HHA
        clear hd
        have HE : Hid (outW (truV false, 0) = .returned (.tuple #[.agg #[.int .i64 2, .int .i64 0, .int .i64 0], .int .i64 0])) := rfl
        have z0 := old_cell (o := (.cells #[.int .i64 0, .int .i64 0, .int .i64 0] 54)) d0
        have z1 := old_cell (o := (.cells #[.int .i64 0, .int .i64 0, .int .i64 0] 54)) d1
        have z2 := old_cell (o := (.cells #[.int .i64 0, .int .i64 0, .int .i64 0] 54)) d2
        go_enter Tryz.func70, Tryz.ntmps70
        go_wp2_with fail
        refine (HOP.out _).mono ?_
        rintro x w1 ⟨rfl, hb1⟩
        have HB1 := Lib.hid (HB0.out.trans (hb1.mono HB0.out.size))
        have hd1 : w1.heap[w.heap.size]? = some (.cells #[.int .i64 0, .int .i64 0, .int .i64 0] 54 (0, 0)) := (hb1.block _ (by simp; omega)).trans HD0.out
        have hc0 := hb1.cell (p := ⟨w.heap.size + 1, 0, none⟩) (by simp)
        have hc1 := hb1.cell (p := ⟨w.heap.size + 1, 1, none⟩) (by simp)
        have hc2 := hb1.cell (p := ⟨w.heap.size + 1, 2, none⟩) (by simp)
        have hz1 : w.heap.size + 1 + 1 ≤ w1.heap.size := by have := hb1.size; simp at this; omega
        have HD1 := Lib.hid hd1
        clear hb1 hd1
        go_wp2_with fail
        refine (HHA.out _ (HS.out.below HB1.out)).mono ?_
        rintro x w2 ⟨rfl, rfl⟩
        go_wp2_with fail
        refine (rTruth_fls _).mono ?_
        rintro x w2 ⟨rfl, hb2⟩
        have HB2 := Lib.hid (HB1.out.trans (hb2.mono HB1.out.size))
        have HD2 : Hid (w2.heap[w.heap.size]? = some (.cells #[.int .i64 0, .int .i64 0, .int .i64 0] 54 (0, 0))) := (hb2.block _ (by omega)).trans HD1.out
        clear hb2
        obtain ⟨d0', d1', d2', f0, f1, f2⟩ := at3 HD2.out
        go_wp2
        obtain ⟨⟨r0, r1, r2⟩, hbf⟩ := fin3 HD2.out (Nat.le_refl _) HB2.out (.int .i64 2) (.int .i64 0) (.int .i64 0)
        refine bodyPost_ret (v := .tuple #[.agg #[.int .i64 2, .int .i64 0, .int .i64 0], .int .i64 0]) ?_ rfl ⟨HE.out.symm, hbf⟩
        simp [results, Tryz.results70, go_sem, r0, r1, r2]
  | un o t ih =>
    intro ht pre e w he htk hR hV hX hS
    obtain ⟨hce, htk', hlen⟩ := take_shift (l := post t) he (show _ = _ ++ (post t ++ [opC o]) from htk)
    have hfm := HF.out (cs[e]'he) (List.getElem_mem _)
    rw [hce] at hfm
    have HV := Lib.hid hV; have HX := Lib.hid hX; have HS := Lib.hid hS; have HR := Lib.hid hR
    obtain ⟨V, vc, rfl⟩ := hV.form
    obtain ⟨X, xc, rfl⟩ := hX.form
    obtain ⟨S, sc, rfl⟩ := hS.form
    obtain ⟨A, c0, rfl, hr⟩ := hR
    obtain ⟨b, o', rfl, d0, d1, d2⟩ := hr e he
    rw [hce] at d0 d1 d2
    obtain ⟨N, hN, hNl⟩ := bstr_some (opC o).nm
    rw [hN] at d2
    have hops := fun W => refOperands_any (opC o) W (by have := formed_name hfm; omega)
    rw [hN, opsR_of hfm (operN_un ⟨ht.1, ht.2.1⟩)] at hops
    have HOP := Lib.hid hops
    obtain ⟨n, hn⟩ : ∃ n, cs.length = n := ⟨_, rfl⟩
    have hen : e < n := by omega
    have hn32 : n ≤ 32 := by omega
    clear hops hV hX hS hr hce
    have hpp := vpost_pos t
    have he1 : ((e - 1 : Nat) : Int) = (e : Int) - 1 := by omega
    have hih := fun W hR hV hX hS => ih ht.2.2 pre (e - 1) W (by omega) (by rw [show e - 1 + 1 = e by omega]; exact htk') hR hV hX hS
    rw [he1] at hih
    have HIH := Lib.hid hih
    have e1 : 1 ≤ e := by omega
    have hon := fun (y : VA) (hy : OkV y) W => rone_any o y W ⟨ht.1, ht.2.1⟩ hy
    have ekt : eT vs xs ss (.un o t) = if (eT vs xs ss t).2 ≠ 0 then erV (eT vs xs ss t).2 else unE o (eT vs xs ss t).1 := rfl
    rw [ekt]
    have hfin := fin_eT (ss := ss) HXO.out HLN.out ht.2.2
    change w.cell? _ = some (.int .i64 o) at d0
    change w.cell? _ = some (.int .i64 0) at d1
    change Hid (∀ W, Calls _ _ #[.agg #[.int .i64 o, .int .i64 0, .string N]] _ _) at HOP
    clear ekt hih ih he1 hpp htk htk' hlen ht hfm hN hNl
    rw [hn] at he ⊢
    rw [hn] at HIH HR
    clear hn he
    generalize eT vs xs ss t = p at *
    obtain ⟨⟨tk, ta, tb⟩, er⟩ := p
    have HB0 : Hid (Below w.heap.size w ((w.alloc (.cells #[.int .i64 0, .int .i64 0, .int .i64 0] 54)).alloc (.cells #[.int .i64 o, .int .i64 0, .string N] 93))) := ((Below.refl _ _).alloc (Nat.le_refl _) _).alloc (by simp) _
    have HD0 : Hid (((w.alloc (.cells #[.int .i64 0, .int .i64 0, .int .i64 0] 54)).alloc (.cells #[.int .i64 o, .int .i64 0, .string N] 93)).heap[w.heap.size]? = some (.cells #[.int .i64 0, .int .i64 0, .int .i64 0] 54 (0, 0))) := heap_up (heap_at rfl _ _) _
    rcases hfin with ⟨h0, hk⟩ | ⟨h0, hk⟩
    · change er = 0 at h0
      change OkV ⟨tk, ta, tb⟩ at hk
      subst h0
      rw [if_neg (by simp)]
      have hon1 := fun W => hon ⟨tk, ta, tb⟩ hk W
      clear hon hk
      generalize unE o _ = r at *
      obtain ⟨⟨rk, ra, rb⟩, re⟩ := r
      have HON : Hid (∀ W, Calls Tryz.prog 101 #[.int .i64 o, .agg #[.int .i64 tk, .int .i64 ta, .int .i64 tb]] W fun e w' => e = .returned (.tuple #[.agg #[.int .i64 rk, .int .i64 ra, .int .i64 rb], .int .i64 re]) ∧ Below W.heap.size W w') := hon1
      clear hon1
      have HIH : Hid (∀ (W : World), RdC W _ cs → RdV W _ vs → RdX W _ xs → RdW W _ ss → Calls _ _ #[_, .int .i64 ((e : Int) - 1), _, _, _] W fun x w' => x = .returned (.tuple #[.agg #[.int .i64 tk, .int .i64 ta, .int .i64 tb], .int .i64 0]) ∧ Below W.heap.size W w') := HIH
      have z0 := old_cell (o := (.cells #[.int .i64 0, .int .i64 0, .int .i64 0] 54)) d0
      have z1 := old_cell (o := (.cells #[.int .i64 0, .int .i64 0, .int .i64 0] 54)) d1
      have z2 := old_cell (o := (.cells #[.int .i64 0, .int .i64 0, .int .i64 0] 54)) d2
      go_enter Tryz.func70, Tryz.ntmps70
      go_wp2_with fail
      refine (HOP.out _).mono ?_
      rintro x w1 ⟨rfl, hb1⟩
      have HB1 := Lib.hid (HB0.out.trans (hb1.mono HB0.out.size))
      have hd1 : w1.heap[w.heap.size]? = some (.cells #[.int .i64 0, .int .i64 0, .int .i64 0] 54 (0, 0)) := (hb1.block _ (by simp; omega)).trans HD0.out
      have hc0 := hb1.cell (p := ⟨w.heap.size + 1, 0, none⟩) (by simp)
      have hc1 := hb1.cell (p := ⟨w.heap.size + 1, 1, none⟩) (by simp)
      have hc2 := hb1.cell (p := ⟨w.heap.size + 1, 2, none⟩) (by simp)
      have hz1 : w.heap.size + 1 + 1 ≤ w1.heap.size := by have := hb1.size; simp at this; omega
      have HD1 := Lib.hid hd1
      clear hb1 hd1
      go_wp2_with fail
      refine (HIH.out _ (HR.out.below HB1.out) (HV.out.below HB1.out) (HX.out.below HB1.out) (HS.out.below HB1.out)).mono ?_
      rintro x w2 ⟨rfl, hb2⟩
      have HB2 := Lib.hid (HB1.out.trans (hb2.mono HB1.out.size))
      have HD2 : Hid (w2.heap[w.heap.size]? = some (.cells #[.int .i64 0, .int .i64 0, .int .i64 0] 54 (0, 0))) := (hb2.block _ (by omega)).trans HD1.out
      have hc0' := (hb2.cell (p := ⟨w.heap.size + 1, 0, none⟩) (by show w.heap.size + 1 < _; omega)).trans (hc0.trans (new_cell (v := .int .i64 o) (by simp) rfl))
      have hcw := old_cell (o := (.cells #[.int .i64 tk, .int .i64 ta, .int .i64 tb] 54)) hc0'
      have hz2 := hb2.size
      clear hb2 hc1 hc2
      go_wp2_with fail
      refine (HON.out _).mono ?_
      rintro x w3 ⟨rfl, hb3⟩
      have HB3 : Hid (Below w.heap.size w w3) := (HB2.out.alloc HB2.out.size _).trans (hb3.mono (by have := HB2.out.size; simp; omega))
      have HD3 : Hid (w3.heap[w.heap.size]? = some (.cells #[.int .i64 0, .int .i64 0, .int .i64 0] 54 (0, 0))) := (hb3.block _ (by simp; omega)).trans (heap_up HD2.out _)
      clear hb3
      obtain ⟨d0', d1', d2', f0, f1, f2⟩ := at3 HD3.out
      go_wp2
      obtain ⟨⟨r0, r1, r2⟩, hbf⟩ := fin3 HD3.out (Nat.le_refl _) HB3.out (.int .i64 rk) (.int .i64 ra) (.int .i64 rb)
      refine bodyPost_ret (v := .tuple #[.agg #[.int .i64 rk, .int .i64 ra, .int .i64 rb], .int .i64 re]) ?_ rfl ⟨rfl, hbf⟩
      simp [results, Tryz.results70, go_sem, r0, r1, r2]
    · change er ≠ 0 at h0
      change (⟨tk, ta, tb⟩ : VA) = VA.zero at hk
      obtain ⟨rfl, rfl, rfl⟩ : tk = 0 ∧ ta = 0 ∧ tb = 0 := by
        unfold VA.zero at hk
        injection hk with h1 h2 h3
        exact ⟨h1, h2, h3⟩
      rw [if_pos h0]
      have tne := int_ne h0
      have HIH : Hid (∀ (W : World), RdC W _ cs → RdV W _ vs → RdX W _ xs → RdW W _ ss → Calls _ _ #[_, .int .i64 ((e : Int) - 1), _, _, _] W fun x w' => x = .returned (.tuple #[.agg #[.int .i64 0, .int .i64 0, .int .i64 0], .int .i64 er]) ∧ Below W.heap.size W w') := HIH
      clear h0 hk hon
      have z0 := old_cell (o := (.cells #[.int .i64 0, .int .i64 0, .int .i64 0] 54)) d0
      have z1 := old_cell (o := (.cells #[.int .i64 0, .int .i64 0, .int .i64 0] 54)) d1
      have z2 := old_cell (o := (.cells #[.int .i64 0, .int .i64 0, .int .i64 0] 54)) d2
      go_enter Tryz.func70, Tryz.ntmps70
      go_wp2_with fail
      refine (HOP.out _).mono ?_
      rintro x w1 ⟨rfl, hb1⟩
      have HB1 := Lib.hid (HB0.out.trans (hb1.mono HB0.out.size))
      have hd1 : w1.heap[w.heap.size]? = some (.cells #[.int .i64 0, .int .i64 0, .int .i64 0] 54 (0, 0)) := (hb1.block _ (by simp; omega)).trans HD0.out
      have hc0 := hb1.cell (p := ⟨w.heap.size + 1, 0, none⟩) (by simp)
      have hc1 := hb1.cell (p := ⟨w.heap.size + 1, 1, none⟩) (by simp)
      have hc2 := hb1.cell (p := ⟨w.heap.size + 1, 2, none⟩) (by simp)
      have hz1 : w.heap.size + 1 + 1 ≤ w1.heap.size := by have := hb1.size; simp at this; omega
      have HD1 := Lib.hid hd1
      clear hb1 hd1
      go_wp2_with fail
      refine (HIH.out _ (HR.out.below HB1.out) (HV.out.below HB1.out) (HX.out.below HB1.out) (HS.out.below HB1.out)).mono ?_
      rintro x w2 ⟨rfl, hb2⟩
      have HB2 := Lib.hid ((HB1.out.trans (hb2.mono HB1.out.size)).alloc (HB1.out.trans (hb2.mono HB1.out.size)).size (.cells #[.int .i64 0, .int .i64 0, .int .i64 0] 54))
      have HD2 : Hid ((w2.alloc (.cells #[.int .i64 0, .int .i64 0, .int .i64 0] 54)).heap[w.heap.size]? = some (.cells #[.int .i64 0, .int .i64 0, .int .i64 0] 54 (0, 0))) := heap_up ((hb2.block _ (by omega)).trans HD1.out) _
      clear hb2 hc0 hc1 hc2
      obtain ⟨d0', d1', d2', f0, f1, f2⟩ := at3 HD2.out
      go_wp2
      obtain ⟨⟨r0, r1, r2⟩, hbf⟩ := fin3 HD2.out (Nat.le_refl _) HB2.out (.int .i64 0) (.int .i64 0) (.int .i64 0)
      refine bodyPost_ret (v := .tuple #[.agg #[.int .i64 0, .int .i64 0, .int .i64 0], .int .i64 er]) ?_ rfl ⟨rfl, hbf⟩
      simp [results, Tryz.results70, go_sem, r0, r1, r2]
  | bin o l r ihl ihr =>
    intro ht pre e w he htk hR hV hX hS
    obtain ⟨hce, htk', hlen⟩ := take_shift (l := (post l ++ post r)) he (show _ = _ ++ ((post l ++ post r) ++ [opC o]) from htk)
    have hfm := HF.out (cs[e]'he) (List.getElem_mem _)
    rw [hce] at hfm
    have HV := Lib.hid hV; have HX := Lib.hid hX; have HS := Lib.hid hS; have HR := Lib.hid hR
    obtain ⟨V, vc, rfl⟩ := hV.form
    obtain ⟨X, xc, rfl⟩ := hX.form
    obtain ⟨S, sc, rfl⟩ := hS.form
    obtain ⟨A, c0, rfl, hr⟩ := hR
    obtain ⟨b, o', rfl, d0, d1, d2⟩ := hr e he
    rw [hce] at d0 d1 d2
    obtain ⟨N, hN, hNl⟩ := bstr_some (opC o).nm
    rw [hN] at d2
    have hops := fun W => refOperands_any (opC o) W (by have := formed_name hfm; omega)
    rw [hN, opsR_of hfm (operN_bin ⟨ht.1, ht.2.1⟩)] at hops
    have HOP := Lib.hid hops
    obtain ⟨n, hn⟩ : ∃ n, cs.length = n := ⟨_, rfl⟩
    have hen : e < n := by omega
    have hn32 : n ≤ 32 := by omega
    clear hops hV hX hS hr hce
    have hpl := vpost_pos l
    have hpr := vpost_pos r
    have hlen2 : e = pre.length + (post l).length + (post r).length := by rw [hlen, List.length_append]; omega
    obtain ⟨p, hp⟩ : ∃ p, p = pre.length + (post l).length := ⟨_, rfl⟩
    have hpe : p + (post r).length = e := by omega
    have he1 : ((e - 1 : Nat) : Int) = (e : Int) - 1 := by omega
    have hp1 : ((p - 1 : Nat) : Int) = (p : Int) - 1 := by omega
    have htk2 : cs.take (e - 1 + 1) = pre ++ (post l ++ post r) := by rw [show e - 1 + 1 = e by omega]; exact htk'
    have htp : cs.take (p - 1 + 1) = pre ++ post l := by
      have h1 := congrArg (List.take p) htk'
      rw [List.take_take, Nat.min_eq_left (by omega), ← List.append_assoc, List.take_left' (by rw [List.length_append]; exact hp.symm)] at h1
      rw [show p - 1 + 1 = p by omega]; exact h1
    have hbg : begN (cs.take (e - 1 + 1)).reverse 1 = e - 1 + 1 - p := by
      rw [htk2, ← List.append_assoc, List.reverse_append, beg_tree ht.2.2.2, if_pos rfl]; omega
    have HBG := Lib.hid (fun W hR => begin_any (.slice (some ⟨b, o', none⟩) cs.length c0) cs W hR HF.out hl p (e - 1) (by omega) (by omega) hbg)
    have hih := fun W hR hV hX hS => ihr ht.2.2.2 (pre ++ post l) (e - 1) W (by omega) (by rw [htk2, List.append_assoc]) hR hV hX hS
    have hih2 := fun W hR hV hX hS => ihl ht.2.2.1 pre (p - 1) W (by omega) htp hR hV hX hS
    rw [he1] at hih HBG
    rw [hp1] at hih2
    have HIR := Lib.hid hih
    have HIL := Lib.hid hih2
    have hjo := fun (y z : VA) (hy : OkV y) (hz : OkV z) W => rtwo_any o y z W ⟨ht.1, ht.2.1⟩ hy hz
    have e1 : 1 ≤ e := by omega
    have p1 : 1 ≤ p := by omega
    have pe : p ≤ e := by omega
    have ekt : eT vs xs ss (.bin o l r) = if (eT vs xs ss l).2 ≠ 0 then erV (eT vs xs ss l).2 else if (eT vs xs ss r).2 ≠ 0 then erV (eT vs xs ss r).2 else joinE o (eT vs xs ss l).1 (eT vs xs ss r).1 := rfl
    rw [ekt]
    have hfl := fin_eT (ss := ss) HXO.out HLN.out ht.2.2.1
    have hfr := fin_eT (ss := ss) HXO.out HLN.out ht.2.2.2
    change w.cell? _ = some (.int .i64 o) at d0
    change w.cell? _ = some (.int .i64 0) at d1
    change Hid (∀ W, Calls _ _ #[.agg #[.int .i64 o, .int .i64 0, .string N]] _ _) at HOP
    clear ekt hih hih2 ihl ihr he1 hp1 hpl hpr htk htk' htk2 htp hbg hlen hlen2 hp hpe ht hfm hN hNl
    rw [hn] at he ⊢
    rw [hn] at HIL HIR HBG HR
    clear hn he
    generalize eT vs xs ss l = ql at *
    generalize eT vs xs ss r = qr at *
    obtain ⟨⟨lk, la, lb⟩, le⟩ := ql
    obtain ⟨⟨mk, ma, mb⟩, me⟩ := qr
    have HB0 : Hid (Below w.heap.size w ((w.alloc (.cells #[.int .i64 0, .int .i64 0, .int .i64 0] 54)).alloc (.cells #[.int .i64 o, .int .i64 0, .string N] 93))) := ((Below.refl _ _).alloc (Nat.le_refl _) _).alloc (by simp) _
    have HD0 : Hid (((w.alloc (.cells #[.int .i64 0, .int .i64 0, .int .i64 0] 54)).alloc (.cells #[.int .i64 o, .int .i64 0, .string N] 93)).heap[w.heap.size]? = some (.cells #[.int .i64 0, .int .i64 0, .int .i64 0] 54 (0, 0))) := heap_up (heap_at rfl _ _) _
    rcases hfl with ⟨h0, hk⟩ | ⟨h0, hk⟩
    · change le = 0 at h0
      change OkV ⟨lk, la, lb⟩ at hk
      subst h0
      rw [if_neg (by simp)]
      have HIL : Hid (∀ (W : World), RdC W _ cs → RdV W _ vs → RdX W _ xs → RdW W _ ss → Calls _ _ #[_, .int .i64 ((p : Int) - 1), _, _, _] W fun x w' => x = .returned (.tuple #[.agg #[.int .i64 lk, .int .i64 la, .int .i64 lb], .int .i64 0]) ∧ Below W.heap.size W w') := HIL
      rcases hfr with ⟨h0, hk2⟩ | ⟨h0, hk2⟩
      · change me = 0 at h0
        change OkV ⟨mk, ma, mb⟩ at hk2
        subst h0
        rw [if_neg (by simp)]
        have HIR : Hid (∀ (W : World), RdC W _ cs → RdV W _ vs → RdX W _ xs → RdW W _ ss → Calls _ _ #[_, .int .i64 ((e : Int) - 1), _, _, _] W fun x w' => x = .returned (.tuple #[.agg #[.int .i64 mk, .int .i64 ma, .int .i64 mb], .int .i64 0]) ∧ Below W.heap.size W w') := HIR
        have hjo1 := fun W => hjo ⟨lk, la, lb⟩ ⟨mk, ma, mb⟩ hk hk2 W
        clear hjo hk hk2
        generalize joinE o _ _ = r at *
        obtain ⟨⟨rk, ra, rb⟩, re⟩ := r
        have HJO : Hid (∀ W, Calls Tryz.prog 102 #[.int .i64 o, .agg #[.int .i64 lk, .int .i64 la, .int .i64 lb], .agg #[.int .i64 mk, .int .i64 ma, .int .i64 mb]] W fun e w' => e = .returned (.tuple #[.agg #[.int .i64 rk, .int .i64 ra, .int .i64 rb], .int .i64 re]) ∧ Below W.heap.size W w') := hjo1
        clear hjo1
        have z0 := old_cell (o := (.cells #[.int .i64 0, .int .i64 0, .int .i64 0] 54)) d0
        have z1 := old_cell (o := (.cells #[.int .i64 0, .int .i64 0, .int .i64 0] 54)) d1
        have z2 := old_cell (o := (.cells #[.int .i64 0, .int .i64 0, .int .i64 0] 54)) d2
        go_enter Tryz.func70, Tryz.ntmps70
        go_wp2_with fail
        refine (HOP.out _).mono ?_
        rintro x w1 ⟨rfl, hb1⟩
        have HB1 := Lib.hid (HB0.out.trans (hb1.mono HB0.out.size))
        have hd1 : w1.heap[w.heap.size]? = some (.cells #[.int .i64 0, .int .i64 0, .int .i64 0] 54 (0, 0)) := (hb1.block _ (by simp; omega)).trans HD0.out
        have hc0 := hb1.cell (p := ⟨w.heap.size + 1, 0, none⟩) (by simp)
        have hc1 := hb1.cell (p := ⟨w.heap.size + 1, 1, none⟩) (by simp)
        have hc2 := hb1.cell (p := ⟨w.heap.size + 1, 2, none⟩) (by simp)
        have hz1 : w.heap.size + 1 + 1 ≤ w1.heap.size := by have := hb1.size; simp at this; omega
        have HD1 := Lib.hid hd1
        clear hb1 hd1
        go_wp2_with fail
        refine (HBG.out _ (HR.out.below HB1.out)).mono ?_
        rintro x wb ⟨rfl, hbb⟩
        have HBB := Lib.hid (HB1.out.trans (hbb.mono HB1.out.size))
        have hzb := hbb.size
        go_wp2_with fail
        refine (HIL.out _ (HR.out.below HBB.out) (HV.out.below HBB.out) (HX.out.below HBB.out) (HS.out.below HBB.out)).mono ?_
        rintro x w2 ⟨rfl, hb2'⟩
        have hb2 : Below w1.heap.size w1 w2 := hbb.trans (hb2'.mono hbb.size)
        have hz2 := hb2.size
        have hBA : Below w.heap.size w (w2.alloc (.cells #[.int .i64 lk, .int .i64 la, .int .i64 lb] 54)) := (HB1.out.trans (hb2.mono HB1.out.size)).alloc (HB1.out.trans (hb2.mono HB1.out.size)).size _
        have HBA := Lib.hid hBA
        have HDA : Hid ((w2.alloc (.cells #[.int .i64 lk, .int .i64 la, .int .i64 lb] 54)).heap[w.heap.size]? = some (.cells #[.int .i64 0, .int .i64 0, .int .i64 0] 54 (0, 0))) := heap_up ((hb2.block _ (by omega)).trans HD1.out) _
        have hc0' := (hb2.cell (p := ⟨w.heap.size + 1, 0, none⟩) (by show w.heap.size + 1 < _; omega)).trans (hc0.trans (new_cell (v := .int .i64 o) (by simp) rfl))
        clear hb2' hbb hb2 hBA hc1 hc2
        go_wp2_with fail
        refine (HIR.out _ (HR.out.below HBA.out) (HV.out.below HBA.out) (HX.out.below HBA.out) (HS.out.below HBA.out)).mono ?_
        rintro x w3 ⟨rfl, hb3⟩
        have hz3 := hb3.size
        have g0 := old_cell (o := (.cells #[.int .i64 mk, .int .i64 ma, .int .i64 mb] 54)) ((hb3.cell (p := ⟨w2.heap.size, 0, none⟩) (by simp)).trans (new_cell (v := .int .i64 lk) rfl rfl))
        have g1 := old_cell (o := (.cells #[.int .i64 mk, .int .i64 ma, .int .i64 mb] 54)) ((hb3.cell (p := ⟨w2.heap.size, 1, none⟩) (by simp)).trans (new_cell (v := .int .i64 la) rfl rfl))
        have g2 := old_cell (o := (.cells #[.int .i64 mk, .int .i64 ma, .int .i64 mb] 54)) ((hb3.cell (p := ⟨w2.heap.size, 2, none⟩) (by simp)).trans (new_cell (v := .int .i64 lb) rfl rfl))
        have hc0'' := hb3.cell (p := ⟨w.heap.size + 1, 0, none⟩) (by simp; omega)
        have hq0 : (w2.alloc (.cells #[.int .i64 lk, .int .i64 la, .int .i64 lb] 54)).cell? ⟨w.heap.size + 1, 0, none⟩ = w2.cell? ⟨w.heap.size + 1, 0, none⟩ := World.cell?_alloc_lt w2 _ _ (by show w.heap.size + 1 < _; omega)
        have hc3 := old_cell (o := (.cells #[.int .i64 mk, .int .i64 ma, .int .i64 mb] 54)) ((hc0''.trans hq0).trans hc0')
        have HB3 := Lib.hid (HBA.out.trans (hb3.mono HBA.out.size))
        have HD3 : Hid (w3.heap[w.heap.size]? = some (.cells #[.int .i64 0, .int .i64 0, .int .i64 0] 54 (0, 0))) := (hb3.block _ (by simp; omega)).trans HDA.out
        have hz4 : w2.heap.size + 1 ≤ w3.heap.size := by have := hb3.size; simpa using this
        clear hb3 hc0 hc0' hc0'' hq0 hz3
        go_wp2_with fail
        refine (HJO.out _).mono ?_
        rintro x w4 ⟨rfl, hb4⟩
        have HB4 : Hid (Below w.heap.size w w4) := (HB3.out.alloc HB3.out.size _).trans (hb4.mono (by have := HB3.out.size; simp; omega))
        have HD4 : Hid (w4.heap[w.heap.size]? = some (.cells #[.int .i64 0, .int .i64 0, .int .i64 0] 54 (0, 0))) := (hb4.block _ (by simp; omega)).trans (heap_up HD3.out _)
        clear hb4
        obtain ⟨d0', d1', d2', f0, f1, f2⟩ := at3 HD4.out
        go_wp2
        obtain ⟨⟨r0, r1, r2⟩, hbf⟩ := fin3 HD4.out (Nat.le_refl _) HB4.out (.int .i64 rk) (.int .i64 ra) (.int .i64 rb)
        refine bodyPost_ret (v := .tuple #[.agg #[.int .i64 rk, .int .i64 ra, .int .i64 rb], .int .i64 re]) ?_ rfl ⟨rfl, hbf⟩
        simp [results, Tryz.results70, go_sem, r0, r1, r2]
      · change me ≠ 0 at h0
        change (⟨mk, ma, mb⟩ : VA) = VA.zero at hk2
        obtain ⟨rfl, rfl, rfl⟩ : mk = 0 ∧ ma = 0 ∧ mb = 0 := by
          unfold VA.zero at hk2
          injection hk2 with h1 h2 h3
          exact ⟨h1, h2, h3⟩
        rw [if_pos h0]
        have tne := int_ne h0
        have HIR : Hid (∀ (W : World), RdC W _ cs → RdV W _ vs → RdX W _ xs → RdW W _ ss → Calls _ _ #[_, .int .i64 ((e : Int) - 1), _, _, _] W fun x w' => x = .returned (.tuple #[.agg #[.int .i64 0, .int .i64 0, .int .i64 0], .int .i64 me]) ∧ Below W.heap.size W w') := HIR
        clear h0 hk hk2 hjo
        have z0 := old_cell (o := (.cells #[.int .i64 0, .int .i64 0, .int .i64 0] 54)) d0
        have z1 := old_cell (o := (.cells #[.int .i64 0, .int .i64 0, .int .i64 0] 54)) d1
        have z2 := old_cell (o := (.cells #[.int .i64 0, .int .i64 0, .int .i64 0] 54)) d2
        go_enter Tryz.func70, Tryz.ntmps70
        go_wp2_with fail
        refine (HOP.out _).mono ?_
        rintro x w1 ⟨rfl, hb1⟩
        have HB1 := Lib.hid (HB0.out.trans (hb1.mono HB0.out.size))
        have hd1 : w1.heap[w.heap.size]? = some (.cells #[.int .i64 0, .int .i64 0, .int .i64 0] 54 (0, 0)) := (hb1.block _ (by simp; omega)).trans HD0.out
        have hc0 := hb1.cell (p := ⟨w.heap.size + 1, 0, none⟩) (by simp)
        have hc1 := hb1.cell (p := ⟨w.heap.size + 1, 1, none⟩) (by simp)
        have hc2 := hb1.cell (p := ⟨w.heap.size + 1, 2, none⟩) (by simp)
        have hz1 : w.heap.size + 1 + 1 ≤ w1.heap.size := by have := hb1.size; simp at this; omega
        have HD1 := Lib.hid hd1
        clear hb1 hd1
        go_wp2_with fail
        refine (HBG.out _ (HR.out.below HB1.out)).mono ?_
        rintro x wb ⟨rfl, hbb⟩
        have HBB := Lib.hid (HB1.out.trans (hbb.mono HB1.out.size))
        have hzb := hbb.size
        go_wp2_with fail
        refine (HIL.out _ (HR.out.below HBB.out) (HV.out.below HBB.out) (HX.out.below HBB.out) (HS.out.below HBB.out)).mono ?_
        rintro x w2 ⟨rfl, hb2'⟩
        have hb2 : Below w1.heap.size w1 w2 := hbb.trans (hb2'.mono hbb.size)
        have hz2 := hb2.size
        have hBA : Below w.heap.size w (w2.alloc (.cells #[.int .i64 lk, .int .i64 la, .int .i64 lb] 54)) := (HB1.out.trans (hb2.mono HB1.out.size)).alloc (HB1.out.trans (hb2.mono HB1.out.size)).size _
        have HBA := Lib.hid hBA
        have HDA : Hid ((w2.alloc (.cells #[.int .i64 lk, .int .i64 la, .int .i64 lb] 54)).heap[w.heap.size]? = some (.cells #[.int .i64 0, .int .i64 0, .int .i64 0] 54 (0, 0))) := heap_up ((hb2.block _ (by omega)).trans HD1.out) _
        clear hb2' hbb hb2 hBA hc1 hc2 hc0
        go_wp2_with fail
        refine (HIR.out _ (HR.out.below HBA.out) (HV.out.below HBA.out) (HX.out.below HBA.out) (HS.out.below HBA.out)).mono ?_
        rintro x w3 ⟨rfl, hb3⟩
        have HB3 := Lib.hid ((HBA.out.trans (hb3.mono HBA.out.size)).alloc (HBA.out.trans (hb3.mono HBA.out.size)).size (.cells #[.int .i64 0, .int .i64 0, .int .i64 0] 54))
        have HD3 : Hid ((w3.alloc (.cells #[.int .i64 0, .int .i64 0, .int .i64 0] 54)).heap[w.heap.size]? = some (.cells #[.int .i64 0, .int .i64 0, .int .i64 0] 54 (0, 0))) := heap_up ((hb3.block _ (by simp; omega)).trans HDA.out) _
        clear hb3
        obtain ⟨d0', d1', d2', f0, f1, f2⟩ := at3 HD3.out
        go_wp2
        obtain ⟨⟨r0, r1, r2⟩, hbf⟩ := fin3 HD3.out (Nat.le_refl _) HB3.out (.int .i64 0) (.int .i64 0) (.int .i64 0)
        refine bodyPost_ret (v := .tuple #[.agg #[.int .i64 0, .int .i64 0, .int .i64 0], .int .i64 me]) ?_ rfl ⟨rfl, hbf⟩
        simp [results, Tryz.results70, go_sem, r0, r1, r2]
    · change le ≠ 0 at h0
      change (⟨lk, la, lb⟩ : VA) = VA.zero at hk
      obtain ⟨rfl, rfl, rfl⟩ : lk = 0 ∧ la = 0 ∧ lb = 0 := by
        unfold VA.zero at hk
        injection hk with h1 h2 h3
        exact ⟨h1, h2, h3⟩
      rw [if_pos h0]
      have tne := int_ne h0
      have HIL : Hid (∀ (W : World), RdC W _ cs → RdV W _ vs → RdX W _ xs → RdW W _ ss → Calls _ _ #[_, .int .i64 ((p : Int) - 1), _, _, _] W fun x w' => x = .returned (.tuple #[.agg #[.int .i64 0, .int .i64 0, .int .i64 0], .int .i64 le]) ∧ Below W.heap.size W w') := HIL
      clear h0 hk hjo hfr HIR
      have z0 := old_cell (o := (.cells #[.int .i64 0, .int .i64 0, .int .i64 0] 54)) d0
      have z1 := old_cell (o := (.cells #[.int .i64 0, .int .i64 0, .int .i64 0] 54)) d1
      have z2 := old_cell (o := (.cells #[.int .i64 0, .int .i64 0, .int .i64 0] 54)) d2
      go_enter Tryz.func70, Tryz.ntmps70
      go_wp2_with fail
      refine (HOP.out _).mono ?_
      rintro x w1 ⟨rfl, hb1⟩
      have HB1 := Lib.hid (HB0.out.trans (hb1.mono HB0.out.size))
      have hd1 : w1.heap[w.heap.size]? = some (.cells #[.int .i64 0, .int .i64 0, .int .i64 0] 54 (0, 0)) := (hb1.block _ (by simp; omega)).trans HD0.out
      have hc0 := hb1.cell (p := ⟨w.heap.size + 1, 0, none⟩) (by simp)
      have hc1 := hb1.cell (p := ⟨w.heap.size + 1, 1, none⟩) (by simp)
      have hc2 := hb1.cell (p := ⟨w.heap.size + 1, 2, none⟩) (by simp)
      have hz1 : w.heap.size + 1 + 1 ≤ w1.heap.size := by have := hb1.size; simp at this; omega
      have HD1 := Lib.hid hd1
      clear hb1 hd1
      go_wp2_with fail
      refine (HBG.out _ (HR.out.below HB1.out)).mono ?_
      rintro x wb ⟨rfl, hbb⟩
      have HBB := Lib.hid (HB1.out.trans (hbb.mono HB1.out.size))
      have hzb := hbb.size
      go_wp2_with fail
      refine (HIL.out _ (HR.out.below HBB.out) (HV.out.below HBB.out) (HX.out.below HBB.out) (HS.out.below HBB.out)).mono ?_
      rintro x w2 ⟨rfl, hb2'⟩
      have hb2 : Below w1.heap.size w1 w2 := hbb.trans (hb2'.mono hbb.size)
      have hz2 := hb2.size
      have HB2 := Lib.hid ((HB1.out.trans (hb2.mono HB1.out.size)).alloc (HB1.out.trans (hb2.mono HB1.out.size)).size (.cells #[.int .i64 0, .int .i64 0, .int .i64 0] 54))
      have HD2 : Hid ((w2.alloc (.cells #[.int .i64 0, .int .i64 0, .int .i64 0] 54)).heap[w.heap.size]? = some (.cells #[.int .i64 0, .int .i64 0, .int .i64 0] 54 (0, 0))) := heap_up ((hb2.block _ (by omega)).trans HD1.out) _
      clear hb2' hbb hb2 hc0 hc1 hc2
      obtain ⟨d0', d1', d2', f0, f1, f2⟩ := at3 HD2.out
      go_wp2
      obtain ⟨⟨r0, r1, r2⟩, hbf⟩ := fin3 HD2.out (Nat.le_refl _) HB2.out (.int .i64 0) (.int .i64 0) (.int .i64 0)
      refine bodyPost_ret (v := .tuple #[.agg #[.int .i64 0, .int .i64 0, .int .i64 0], .int .i64 le]) ?_ rfl ⟨rfl, hbf⟩
      simp [results, Tryz.results70, go_sem, r0, r1, r2]
end Go.Proofs.YtjgfkmakfdepcaaGreatDoor
