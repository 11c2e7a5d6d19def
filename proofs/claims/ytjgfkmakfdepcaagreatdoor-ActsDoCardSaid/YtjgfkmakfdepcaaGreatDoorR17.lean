/- Own texts, joined: Vl, Vm, Ot, Os. -/
import Derived.Test.YtjgfkmakfdepcaaGreatDoorR13
import Derived.Test.YtjgfkmakfdepcaaGreatDoorR15
import Derived.Test.YtjgfkmakfdepcaaGreatDoorR16
namespace Go.Proofs.YtjgfkmakfdepcaaGreatDoor
open Go.RowKit

theorem val_zero : valV VA.zero = .agg #[.int .i64 0, .int .i64 0, .int .i64 0] := rfl
theorem at3 {w : World} {D : Nat} {x0 x1 x2 : Value} {t : TypeId} (h : w.heap[D]? = some (.cells #[x0, x1, x2] t (0, 0))) :
    w.cell? ⟨D, 0, none⟩ = some x0 ∧ w.cell? ⟨D, 1, none⟩ = some x1 ∧ w.cell? ⟨D, 2, none⟩ = some x2 ∧
    w.frozen? ⟨D, 0, none⟩ = false ∧ w.frozen? ⟨D, 1, none⟩ = false ∧ w.frozen? ⟨D, 2, none⟩ = false := by
  simp [World.cell?, World.frozen?, h]
theorem fin3 {w w1 : World} {D B : Nat} {x0 x1 x2 : Value} {t : TypeId} (h : w1.heap[D]? = some (.cells #[x0, x1, x2] t (0, 0))) (hB : B ≤ D) (hb : Below B w w1) (u0 u1 u2 : Value) :
    ((((w1.setCell ⟨D, 0, none⟩ u0).setCell ⟨D, 1, none⟩ u1).setCell ⟨D, 2, none⟩ u2).cell? ⟨D, 0, none⟩ = some u0 ∧
    (((w1.setCell ⟨D, 0, none⟩ u0).setCell ⟨D, 1, none⟩ u1).setCell ⟨D, 2, none⟩ u2).cell? ⟨D, 1, none⟩ = some u1 ∧
    (((w1.setCell ⟨D, 0, none⟩ u0).setCell ⟨D, 1, none⟩ u1).setCell ⟨D, 2, none⟩ u2).cell? ⟨D, 2, none⟩ = some u2) ∧
    Below B w (((w1.setCell ⟨D, 0, none⟩ u0).setCell ⟨D, 1, none⟩ u1).setCell ⟨D, 2, none⟩ u2) := by
  have h1 := heap_setCell_same _ _ 0 _ _ u0 h
  have h2 := heap_setCell_same _ _ 1 _ _ u1 h1
  have h3 := heap_setCell_same _ _ 2 _ _ u2 h2
  obtain ⟨r0, r1, r2, _⟩ := at3 (x0 := u0) (x1 := u1) (x2 := u2) h3
  exact ⟨⟨r0, r1, r2⟩, ((hb.setCell hB _).setCell hB _).setCell hB _⟩
theorem out_form2 (p : VA × Int) : ∃ k x t c1 c2 er, outV p = .returned (.tuple #[.agg #[.int .i64 k, .int .i64 x, .bool t, .complex .f64 c1 c2], .int .i64 er]) ∧ p.2 = er ∧ opL p.1 = [.int .i64 k, .int .i64 x, .bool t, .complex .f64 c1 c2] := ⟨_, _, _, _, _, _, rfl, rfl, rfl⟩
set_option maxRecDepth 100000 in
set_option maxHeartbeats 8000000 in
theorem evOf_right (v : Value) (cs : List CM) (vs : List VM) (xs : List VA) (ss : List (List UInt8)) (V X S : Option Addr) (m vc xc sc : Nat) (w : World) (hR : RdC w v cs) (hB : rightB cs = true)
    (hV : RdV w (.slice V m vc) vs) (hX : RdX w (.slice X m xc) xs) (hS : RdW w (.slice S ss.length sc) ss) (hvm : vs.length = m) (hxm : xs.length = m) (hml : m ≤ 4611686018427387904) (hsl : ss.length ≤ 4611686018427387904) (ha : xs.all rightV = true) (hx : ∀ x ∈ xs, OkV x) :
    Calls Tryz.prog 66 #[v, .slice V m vc, .slice X m xc, .slice S ss.length sc] w fun e w' => e = .returned (.tuple #[valV (eRun vs xs ss cs []).1, .int .i64 (eRun vs xs ss cs []).2]) ∧ Below w.heap.size w w' := by
  have hl32 : cs.length ≤ 32 := by unfold rightB at hB; simp at hB; exact hB.1
  have hl : vs.length = xs.length := by omega
  have hb0 : Below w.heap.size w (w.alloc (.cells #[.int .i64 0, .int .i64 0, .int .i64 0] 54)) := (Below.refl _ _).alloc (Nat.le_refl _) _
  have hd0 : (w.alloc (.cells #[.int .i64 0, .int .i64 0, .int .i64 0] 54)).heap[w.heap.size]? = some (.cells #[.int .i64 0, .int .i64 0, .int .i64 0] 54 (0, 0)) := heap_alloc_new w _
  have hz0 : (w.alloc (.cells #[.int .i64 0, .int .i64 0, .int .i64 0] 54)).heap.size = w.heap.size + 1 := by simp
  obtain ⟨W0, hW0⟩ : ∃ W, W = w.alloc (.cells #[.int .i64 0, .int .i64 0, .int .i64 0] 54) := ⟨_, rfl⟩
  rw [← hW0] at hb0 hd0 hz0
  have HRG := Lib.hid (right_any v cs W0 (hR.below hb0) (by omega))
  have HBT := Lib.hid hB
  have HZ := Lib.hid (EE.zero (vs := vs) (xs := xs) (ss := ss) hB)
  have HVC := Lib.hid (fun W (hb : Below w.heap.size w W) => valContains_any (.slice X m xc) xs W (hX.below hb) (by omega))
  have HAL := Lib.hid ha
  have HOK := Lib.hid hx
  have HNX := Lib.hid (fun (k : Nat) (st : List VA) (h : EE vs xs ss cs k st) (hk : k < cs.length) => EE.next hx hl h hk)
  have hm : ((m : Int) != (m : Int)) = false := by simp
  clear hB ha
  obtain ⟨A, c, rfl, hr⟩ := hR
  have HR := Lib.hid hr; clear hr
  have HV := Lib.hid hV; have HX := Lib.hid hX; have HS := Lib.hid hS
  clear hV hX hS
  obtain ⟨n, hn⟩ : ∃ n, cs.length = n := ⟨_, rfl⟩
  have HN := Lib.hid hn
  rw [hn] at hl32 HRG ⊢
  clear hn
  obtain ⟨i0, hi0, hz0', hz1, hz2⟩ := info_parts infoOp
  have HI := Lib.hid hi0; have HZ0 := Lib.hid hz0'; have HZ1 := Lib.hid hz1; have HZ2 := Lib.hid hz2
  clear hi0 hz0' hz1 hz2
  have HB0 := Lib.hid hb0; have HD0 := Lib.hid hd0; have HS0 := Lib.hid hz0
  clear hb0 hd0 hz0
  have HXL := Lib.hid hx; clear hx
  have HLN := Lib.hid hl; have HVM := Lib.hid hvm; have HXM := Lib.hid hxm
  clear hl hvm hxm
  subst hW0
  go_enter Tryz.func66, Tryz.ntmps66
  go_wp2_with fail
  refine HRG.out.mono ?_
  rintro e wa ⟨rfl, hba⟩
  rw [HBT.out]
  have HA := Lib.hid (HB0.out.trans (hba.mono HB0.out.size))
  have HDA : Hid (wa.heap[w.heap.size]? = some (.cells #[.int .i64 0, .int .i64 0, .int .i64 0] 54 (0, 0))) := (hba.block _ (by rw [HS0.out]; omega)).trans HD0.out
  clear hba
  go_wp2_with fail
  refine (HVC.out _ HA.out).mono ?_
  rintro e wb ⟨rfl, hbb⟩
  rw [HAL.out]
  have HB := Lib.hid (HA.out.trans (hbb.mono HA.out.size))
  have HDB : Hid (wb.heap[w.heap.size]? = some (.cells #[.int .i64 0, .int .i64 0, .int .i64 0] 54 (0, 0))) := (hbb.block _ (lt_of_block HDA.out)).trans HDA.out
  clear hbb
  have hbm : Below w.heap.size w (wb.alloc (.cells #[.slice V m vc, .slice X m xc, .slice S ss.length sc] 140)) := HB.out.alloc HB.out.size _
  have HBM := Lib.hid hbm
  have HSM : Hid ((wb.alloc (.cells #[.slice V m vc, .slice X m xc, .slice S ss.length sc] 140)).heap.size = wb.heap.size + 1) := by show _ = _; simp
  have HDM : Hid ((wb.alloc (.cells #[.slice V m vc, .slice X m xc, .slice S ss.length sc] 140)).heap[w.heap.size]? = some (.cells #[.int .i64 0, .int .i64 0, .int .i64 0] 54 (0, 0))) := by
    show _ = _
    rw [Below.heap_alloc _ _ _ (lt_of_block HDB.out)]; exact HDB.out
  have HMM : Hid ((wb.alloc (.cells #[.slice V m vc, .slice X m xc, .slice S ss.length sc] 140)).cell? ⟨wb.heap.size, 0, none⟩ = some (.slice V m vc) ∧ (wb.alloc (.cells #[.slice V m vc, .slice X m xc, .slice S ss.length sc] 140)).cell? ⟨wb.heap.size, 1, none⟩ = some (.slice X m xc) ∧ (wb.alloc (.cells #[.slice V m vc, .slice X m xc, .slice S ss.length sc] 140)).cell? ⟨wb.heap.size, 2, none⟩ = some (.slice S ss.length sc)) := ⟨new_cell rfl rfl, new_cell rfl rfl, new_cell rfl rfl⟩
  obtain ⟨WM, hWM⟩ : ∃ W, W = wb.alloc (.cells #[.slice V m vc, .slice X m xc, .slice S ss.length sc] 140) := ⟨_, rfl⟩
  rw [← hWM] at HBM HSM HDM HMM
  have HLT := Lib.hid (lt_of_block HDB.out)
  clear hbm
  go_wp2
  rw [← hWM]
  go_loopw [9, 11, 37] (fun x9 lv i wr => x9 = .int .i64 0 ∧ ∃ k st, k ≤ n ∧ i = .int .i64 (k : Int) ∧ Hid (EE vs xs ss cs k st) ∧ Below WM.heap.size WM wr ∧ wr.ownsRow WM.heap.size 144 4 lv st.length (flatO st)) (fun _ _ i _ => n - (intOf i).toNat)
  case atStart => exact ⟨rfl, 0, [], by omega, rfl, HZ.out, Below.refl _ _, World.ownsRow_nil _ _ _ _⟩
  case round =>
    obtain ⟨rfl, k, st, hk, rfl, HK, hP⟩ := hrel
    have HP := Lib.hid hP; clear hP
    have hmz := HP.out.1.size
    have hms := HSM.out
    have hlt := HLT.out
    have hl1 : wb.heap.size < wr.heap.size := by omega
    have hl2 : w.heap.size < wr.heap.size := by omega
    have HW : Hid (Below w.heap.size w wr) := HBM.out.trans (HP.out.1.mono HBM.out.size)
    have g0 := (HP.out.1.cell (by rw [HSM.out]; exact Nat.lt_succ_self _)).trans HMM.out.1
    have g1 := (HP.out.1.cell (by rw [HSM.out]; exact Nat.lt_succ_self _)).trans HMM.out.2.1
    have g2 := (HP.out.1.cell (by rw [HSM.out]; exact Nat.lt_succ_self _)).trans HMM.out.2.2
    have HDR : Hid (wr.heap[w.heap.size]? = some (.cells #[.int .i64 0, .int .i64 0, .int .i64 0] 54 (0, 0))) := (HP.out.1.block _ (lt_of_block HDM.out)).trans HDM.out
    by_cases hkn : k < n
    · obtain ⟨hfm, hon, hnx⟩ := HNX.out k st HK.out (by rw [HN.out]; exact hkn)
      obtain ⟨b, o, rfl, d0, d1, d2⟩ := HR.out k (by rw [HN.out]; exact hkn)
      obtain ⟨cc, hcc⟩ : ∃ cc, cs[k]'(by rw [HN.out]; exact hkn) = cc := ⟨_, rfl⟩
      rw [hcc] at d0 d1 d2 hfm hon hnx
      clear hcc
      have e0 := (HW.out.cell (cell_lt d0)).trans d0
      have e1 := (HW.out.cell (cell_lt d1)).trans d1
      have e2 := (HW.out.cell (cell_lt d2)).trans d2
      clear d0 d1 d2
      obtain ⟨N, hNm, hNl⟩ := bstr_some cc.nm
      rw [hNm] at e2
      have hce : cc = ⟨cc.op, cc.a, N.data.toList⟩ := by rw [hNl]
      have HCE := Lib.hid hce
      clear hNm hNl hce
      have hst := HK.out.len
      have hops := formed_op hfm
      have hop := Lib.hid (fun W => operands5_any cc.op W hops)
      obtain ⟨n0, hn0⟩ : ∃ n0, st.length - operN cc.op = n0 := ⟨_, rfl⟩
      have hN3 := operN_le cc.op
      rw [hn0] at hnx
      have HNXT := Lib.hid hnx; clear hnx
      have hsl' : st.length = n0 + operN cc.op := by omega
      have HTL : Hid ((st.take n0).length = n0) := by show _ = _; rw [List.length_take]; omega
      have hdl : (st.drop n0).length = operN cc.op := by rw [List.length_drop]; omega
      have hown := HP.out.2
      rw [hsl'] at hown
      have hform := own_form hown
      have hn32 : n0 ≤ 32 := by omega
      have hcs : operN cc.op = 0 ∨ operN cc.op = 1 ∨ operN cc.op = 2 := by omega
      have HTV : Hid ((flatO st).take (n0 * 4) = flatO (st.take n0)) := flatO_take _ _
      -- REST
      have hrd : ∀ x ∈ st.drop n0, OkV x := fun x hx => HK.out.ok x (List.mem_of_mem_drop hx)
      have h2f : cc.op = 2 → inB cc.a = true := fun e => by
        have h := hfm
        unfold formedB at h
        rw [if_neg (by omega), if_pos e] at h
        simp at h
        exact inB_iff.2 (by omega)
      have HBD : Hid (Below wr.heap.size wr (wr.alloc (.cells #[.int .i64 cc.op, .int .i64 cc.a, .string N] 93)).drew) := ((Below.refl _ _).alloc (Nat.le_refl _) _).drew
      have HSZ : Hid (wr.heap.size ≤ (wr.alloc (.cells #[.int .i64 cc.op, .int .i64 cc.a, .string N] 93)).drew.heap.size) := HBD.out.size
      obtain ⟨m0, hm0⟩ : ∃ m0, operN cc.op = m0 := ⟨_, rfl⟩
      obtain ⟨mm, hmv⟩ : ∃ mm, madeE vs xs ss cc (st.drop n0) = mm := ⟨_, rfl⟩
      rw [hmv] at HNXT
      rw [hm0] at hown hform hop hsl' hdl
      obtain ⟨A0, c0, rfl, hfm2⟩ : ∃ A0 c0, u11 = .slice A0 (n0 + m0) c0 ∧ ((A0 = none ∧ c0 = 0 ∧ n0 + m0 = 0) ∨ ∃ g, A0 = some ⟨g, 0, none⟩ ∧ n0 + m0 ≤ c0 ∧ c0 ≤ maxLen) := by
        rcases hform with ⟨rfl, h0⟩ | ⟨g, cap, rfl, h1, h2⟩
        · exact ⟨none, 0, by rw [h0], Or.inl ⟨rfl, rfl, h0⟩⟩
        · exact ⟨_, cap, rfl, Or.inr ⟨g, rfl, h1, h2⟩⟩
      have HM : Hid (∀ W A c, Below wr.heap.size wr W → (m0 ≠ 0 → ∃ g, A0 = some ⟨g, 0, none⟩ ∧ A = some ⟨g, n0 * 4, none⟩) → Calls Tryz.prog 95 #[.agg #[.slice V m vc, .slice X m xc, .slice S ss.length sc], .agg #[.int .i64 cc.op, .int .i64 cc.a, .string N], .slice A m0 c] W fun e w' => e = outV mm ∧ Below W.heap.size W w') := by
        intro W A c hb hA
        have hbw := HW.out.trans (hb.mono HW.out.size)
        have hh1 := HV.out.below hbw; have hh2 := HX.out.below hbw
        rw [← HVM.out] at hh1
        rw [← HXM.out] at hh2
        have hN := hm0
        rcases hcs with h | h | h
        · obtain rfl := hN.symm.trans h
          have hmm : madeE vs xs ss cc (st.drop n0) = leafE vs xs ss cc := by unfold madeE; rw [h]; rfl
          have h := done0_any vs xs ss V X S vc xc sc cc.op cc.a N A c W (operN_zero h) h2f hh1 hh2 (HS.out.below hbw) (by rw [HVM.out]; exact hml) hsl HLN.out HXL.out
          rw [← HCE.out, ← hmm, hmv, HVM.out, HXM.out] at h
          exact h
        · obtain rfl := hN.symm.trans h
          obtain ⟨x, hx⟩ := len_one hdl
          have hmm : madeE vs xs ss cc (st.drop n0) = unE cc.op x := by rw [hx]; unfold madeE; rw [h]; rfl
          obtain ⟨g, rfl, rfl⟩ := hA (by decide)
          have hown2 := hown
          have hat : OpAt W g (n0 * 4) x := by
            have h5 := vop_at hown2 (j := n0) (by omega)
            have h6 : st[n0]'(by omega) = x := by
              have := List.getElem_drop (xs := st) (i := n0) (j := 0) (h := by rw [hdl]; omega)
              simp only [hx] at this
              simpa using this.symm
            rw [h6] at h5
            exact h5.below hb
          have h := done1_any vs xs ss V X S vc xc sc cc.op cc.a N g (n0 * 4) c x W (operN_one h) (hrd x (by rw [hx]; simp)) hat
          rw [← hmm, hmv, HVM.out, HXM.out] at h
          exact h
        · obtain rfl := hN.symm.trans h
          obtain ⟨x, y, hx⟩ := len_two hdl
          have hmm : madeE vs xs ss cc (st.drop n0) = joinE cc.op x y := by rw [hx]; unfold madeE; rw [h]; rfl
          obtain ⟨g, rfl, rfl⟩ := hA (by decide)
          have hown2 := hown
          have hat : OpAt W g (n0 * 4) x := by
            have h5 := vop_at hown2 (j := n0) (by omega)
            have h6 : st[n0]'(by omega) = x := by
              have := List.getElem_drop (xs := st) (i := n0) (j := 0) (h := by rw [hdl]; omega)
              simp only [hx] at this
              simpa using this.symm
            rw [h6] at h5
            exact h5.below hb
          have hat2 : OpAt W g (n0 * 4 + 4) y := by
            have h5 := vop_at hown2 (j := n0 + 1) (by omega)
            have h6 : st[n0 + 1]'(by omega) = y := by
              have := List.getElem_drop (xs := st) (i := n0) (j := 1) (h := by rw [hdl]; omega)
              simp only [hx] at this
              simpa using this.symm
            rw [h6, Nat.succ_mul] at h5
            exact h5.below hb
          have h := done2_any vs xs ss V X S vc xc sc cc.op cc.a N g (n0 * 4) c x y W (operN_two h hops) (hrd x (by rw [hx]; simp)) (hrd y (by rw [hx]; simp)) hat hat2
          rw [← hmm, hmv, HVM.out, HXM.out] at h
          exact h
      have HFM := Lib.hid hfm2
      clear hfm2 hform
      clear hm0 hcs hmv hdl hrd h2f hN3
      obtain ⟨fk, fx, ft, f1, f2, fe, hf, hf2, hf3⟩ := out_form2 mm
      have HF := Lib.hid hf
      have HFO : Hid (mm.2 = fe ∧ opL mm.1 = [.int .i64 fk, .int .i64 fx, .bool ft, .complex .f64 f1 f2]) := ⟨hf2, hf3⟩
      clear hf hf2 hf3
      go_wp2_with fail
      refine (hop.out _).mono ?_
      rintro e w1 ⟨rfl, rfl⟩
      go_wp2_with fail
      refine Oz.region_own' 71 [Ow.eqR (.agg #[.slice V m vc, .slice X m xc, .slice S ss.length sc]), Ow.eqR (.agg #[.int .i64 cc.op, .int .i64 cc.a, .string N]), Ow.eqR (.slice A0 (n0 + m0) c0), Ow.eqR (.int .i64 (n0 : Int)), fun v _ => ∃ A c, v = .slice A m0 c ∧ (m0 ≠ 0 → ∃ g, A0 = some ⟨g, 0, none⟩ ∧ A = some ⟨g, n0 * 4, none⟩), Ow.eqR (.tuple #[.agg #[.int .i64 fk, .int .i64 fx, .bool ft, .complex .f64 f1 f2], .int .i64 fe]), Ow.eqR (.tuple #[.agg #[.int .i64 fk, .int .i64 fx, .bool ft, .complex .f64 f1 f2], .int .i64 fe]), Ow.eqR (.agg #[.int .i64 fk, .int .i64 fx, .bool ft, .complex .f64 f1 f2]), Ow.eqR (.int .i64 fe), Oz.BoxR (wr.heap.size) 144 #[.int .i64 0, .int .i64 0, .bool false, .complex .f64 0 0], Oz.BoxR (wr.heap.size) 144 #[.int .i64 fk, .int .i64 fx, .bool ft, .complex .f64 f1 f2], Ow.eqR (.int .i64 fe)] [false, false, false, false, false, false, false, false, false, true, true, false] [none, none, none, none, none, none, none, none, none, none, some 9, none] (by kernel_rfl) rfl (by kernel_rfl) ⟨Oz.keeps_eq _ _, Oz.keeps_eq _ _, Oz.keeps_eq _ _, Oz.keeps_eq _ _, fun _ _ _ _ h _ _ _ => h, Oz.keeps_eq _ _, Oz.keeps_eq _ _, Oz.keeps_eq _ _, Oz.keeps_eq _ _, Oz.keeps_box _ _ _, Oz.keeps_box _ _ _, Oz.keeps_eq _ _, trivial⟩ ?_
      apply Oz.walk_cons rfl
      · intro w1 hb hu hd ho K hK
        clear hu hd ho
        have c0 : w1.cell? ⟨wb.heap.size, 0, none⟩ = some (.slice V m vc) := (hb.cell (by simp; omega)).trans ((HBD.out.cell hl1).trans g0)
        have c1 : w1.cell? ⟨wb.heap.size, 1, none⟩ = some (.slice X m xc) := (hb.cell (by simp; omega)).trans ((HBD.out.cell hl1).trans g1)
        have c2 : w1.cell? ⟨wb.heap.size, 2, none⟩ = some (.slice S ss.length sc) := (hb.cell (by simp; omega)).trans ((HBD.out.cell hl1).trans g2)
        go_simp
        exact hK _ _ (Oz.good_same rfl rfl rfl)
      · intro v; simp only [Act.put, List.setIfInBounds_toArray, List.set_cons_succ, List.set_cons_zero]; exact rfl
      · intro v; exact (rfl : _ = ([v] : List Value))
      intro x48
      apply Oz.walk_cons rfl
      · intro w1 hb hu hd ho K hK
        clear hu hd ho
        have c0 : w1.cell? ⟨wr.heap.size, 0, none⟩ = some (.int .i64 cc.op) := (hb.cell (by simp)).trans (by simp)
        have c1 : w1.cell? ⟨wr.heap.size, 1, none⟩ = some (.int .i64 cc.a) := (hb.cell (by simp)).trans (by simp)
        have c2 : w1.cell? ⟨wr.heap.size, 2, none⟩ = some (.string N) := (hb.cell (by simp)).trans (by simp)
        go_simp
        exact hK _ _ (Oz.good_same rfl rfl rfl)
      · intro v; simp only [Act.put, List.setIfInBounds_toArray, List.set_cons_succ, List.set_cons_zero]; exact rfl
      · intro v; exact (rfl : _ = ([x48, v] : List Value))
      intro x49
      apply Oz.walk_cons rfl
      · intro w1 hb hu hd ho K hK
        clear hu hd ho
        go_simp
        exact hK _ _ (Oz.good_same rfl rfl rfl)
      · intro v; simp only [Act.put, List.setIfInBounds_toArray, List.set_cons_succ, List.set_cons_zero]; exact rfl
      · intro v; exact (rfl : _ = ([x48, x49, v] : List Value))
      intro x50
      apply Oz.walk_cons rfl
      · intro w1 hb hu hd ho K hK
        clear hu hd ho
        go_simp
        exact hK _ _ (Oz.good_same rfl rfl rfl)
      · intro v; simp only [Act.put, List.setIfInBounds_toArray, List.set_cons_succ, List.set_cons_zero]; exact rfl
      · intro v; exact (rfl : _ = ([x48, x49, x50, v] : List Value))
      intro x51
      apply Oz.walk_cons rfl
      · intro w1 hb hu hd ho K hK
        have e50 : _ = x50 := Eq.symm (hd 2 (by kernel_rfl))
        subst e50
        have e51 : _ = x51 := Eq.symm (hd 3 (by kernel_rfl))
        subst e51
        clear hu hd ho
        rcases HFM.out with ⟨rfl, rfl, h0⟩ | ⟨g, rfl, hcap, hcm⟩
        · obtain ⟨rfl, rfl⟩ : n0 = 0 ∧ m0 = 0 := by omega
          go_simp
          exact hK _ _ (Oz.good_same rfl rfl ⟨_, _, rfl, fun h => absurd rfl h⟩)
        · have hq : (n0 : Int) ≤ (n0 : Int) + (m0 : Int) := by omega
          by_cases hcn : c0 = n0
          · obtain rfl : m0 = 0 := by omega
            subst hcn
            go_simp
            exact hK _ _ (Oz.good_same rfl rfl ⟨_, _, rfl, fun h => absurd rfl h⟩)
          · have hcn1 : n0 < c0 := by omega
            have hcn2 : (c0 : Int) ≠ n0 := by omega
            go_simp
            refine hK _ _ (Oz.good_same rfl rfl ?_)
            refine ⟨some ⟨g, n0 * 4, none⟩, c0 - n0, ?_, fun _ => ⟨g, rfl, rfl⟩⟩
            exact rfl
      · intro v; simp only [Act.put, List.setIfInBounds_toArray, List.set_cons_succ, List.set_cons_zero]; exact rfl
      · intro v; exact (rfl : _ = ([x48, x49, x50, x51, v] : List Value))
      intro x52
      apply Oz.walk_cons rfl
      · intro w1 hb hu hd ho K hK
        have e48 : _ = x48 := Eq.symm (hd 0 (by kernel_rfl))
        subst e48
        have e49 : _ = x49 := Eq.symm (hd 1 (by kernel_rfl))
        subst e49
        have h52 := hd 4 (by kernel_rfl)
        clear hu hd ho
        obtain ⟨A2, c2, rfl, hA⟩ := h52
        go_simp
        refine (HM.out w1 A2 c2 (HBD.out.trans (hb.mono HSZ.out)) hA).mono ?_
        rintro e w2 ⟨rfl, hb2⟩
        rw [HF.out]
        go_simp
        exact hK _ _ (Oz.good_below rfl rfl hb2 rfl)
      · intro v; simp only [Act.put, List.setIfInBounds_toArray, List.set_cons_succ, List.set_cons_zero]; exact rfl
      · intro v; exact (rfl : _ = ([x48, x49, x50, x51, x52, v] : List Value))
      intro x53
      apply Oz.walk_cons rfl
      · intro w1 hb hu hd ho K hK
        have e53 : _ = x53 := Eq.symm (hd 5 (by kernel_rfl))
        subst e53
        clear hu hd ho
        go_simp
        exact hK _ _ (Oz.good_same rfl rfl rfl)
      · intro v; simp only [Act.put, List.setIfInBounds_toArray, List.set_cons_succ, List.set_cons_zero]; exact rfl
      · intro v; exact (rfl : _ = ([x48, x49, x50, x51, x52, x53, v] : List Value))
      intro x47
      apply Oz.walk_cons rfl
      · intro w1 hb hu hd ho K hK
        have e47 : _ = x47 := Eq.symm (hd 6 (by kernel_rfl))
        subst e47
        clear hu hd ho
        go_simp
        exact hK _ _ (Oz.good_same rfl rfl rfl)
      · intro v; simp only [Act.put, List.setIfInBounds_toArray, List.set_cons_succ, List.set_cons_zero]; exact rfl
      · intro v; exact (rfl : _ = ([x48, x49, x50, x51, x52, x53, x47, v] : List Value))
      intro x54
      apply Oz.walk_cons rfl
      · intro w1 hb hu hd ho K hK
        have e47 : _ = x47 := Eq.symm (hd 6 (by kernel_rfl))
        subst e47
        clear hu hd ho
        go_simp
        exact hK _ _ (Oz.good_same rfl rfl rfl)
      · intro v; simp only [Act.put, List.setIfInBounds_toArray, List.set_cons_succ, List.set_cons_zero]; exact rfl
      · intro v; exact (rfl : _ = ([x48, x49, x50, x51, x52, x53, x47, x54, v] : List Value))
      intro x55
      apply Oz.walk_cons rfl
      · intro w1 hb hu hd ho K hK
        have hz := hb.size
        clear hu hd ho
        go_simp
        exact hK _ _ (Oz.good_box (b0 := wr.heap.size) rfl (by simp) hz rfl)
      · intro v; simp only [Act.put, List.setIfInBounds_toArray, List.set_cons_succ, List.set_cons_zero]; exact rfl
      · intro v; exact (rfl : _ = ([x48, x49, x50, x51, x52, x53, x47, x54, x55, v] : List Value))
      intro x15
      apply Oz.walk_cons rfl
      · intro w1 hb hu hd ho K hK
        have h15 := hd 9 (by kernel_rfl)
        have e54 : _ = x54 := Eq.symm (hd 7 (by kernel_rfl))
        subst e54
        have hz := hb.size
        have hoo := ho 9 (by kernel_rfl) rfl
        obtain ⟨b, rfl, hb0, hh⟩ := h15
        have dq0 : w1.cell? ⟨b, 0, none⟩ = some (.int .i64 0) := by simp [World.cell?, hh]
        have fq0 : w1.frozen? ⟨b, 0, none⟩ = false := by simp [World.frozen?, hh]
        have dq1 : w1.cell? ⟨b, 1, none⟩ = some (.int .i64 0) := by simp [World.cell?, hh]
        have fq1 : w1.frozen? ⟨b, 1, none⟩ = false := by simp [World.frozen?, hh]
        have dq2 : w1.cell? ⟨b, 2, none⟩ = some (.bool false) := by simp [World.cell?, hh]
        have fq2 : w1.frozen? ⟨b, 2, none⟩ = false := by simp [World.frozen?, hh]
        have dq3 : w1.cell? ⟨b, 3, none⟩ = some (.complex .f64 0 0) := by simp [World.cell?, hh]
        have fq3 : w1.frozen? ⟨b, 3, none⟩ = false := by simp [World.frozen?, hh]
        have kq0 := heap_setCell_same _ _ 0 _ _ (.int .i64 fk) hh
        have kq1 := heap_setCell_same _ _ 1 _ _ (.int .i64 fx) kq0
        have kq2 := heap_setCell_same _ _ 2 _ _ (.bool ft) kq1
        have kq3 := heap_setCell_same _ _ 3 _ _ (.complex .f64 f1 f2) kq2
        clear hu hd ho
        go_simp
        exact hK undef _ (Oz.good_put (k := 9) (cs := #[.int .i64 fk, .int .i64 fx, .bool ft, .complex .f64 f1 f2]) rfl rfl hb0 hz (Oz.setAll_grown b [.int .i64 fk, .int .i64 fx, .bool ft, .complex .f64 f1 f2] 0 w1) rfl kq3 hoo)
      · intro v; exact rfl
      · intro v; exact (rfl : _ = ([x48, x49, x50, x51, x52, x53, x47, x54, x55, x15, x15] : List Value))
      intro xn10
      apply Oz.walk_cons rfl
      · intro w1 hb hu hd ho K hK
        have e55 : _ = x55 := Eq.symm (hd 8 (by kernel_rfl))
        subst e55
        clear hu hd ho
        go_simp
        exact hK _ _ (Oz.good_same rfl rfl rfl)
      · intro v; simp only [Act.put, List.setIfInBounds_toArray, List.set_cons_succ, List.set_cons_zero]; exact rfl
      · intro v; exact (rfl : _ = ([x48, x49, x50, x51, x52, x53, x47, x54, x55, x15, x15, v] : List Value))
      intro x16
      refine Oz.walk_nil rfl (fun w1 hb hu hd => ?_)
      have e48 : _ = x48 := Eq.symm (hd 0 (by kernel_rfl))
      subst e48
      have e49 : _ = x49 := Eq.symm (hd 1 (by kernel_rfl))
      subst e49
      have e50 : _ = x50 := Eq.symm (hd 2 (by kernel_rfl))
      subst e50
      have e51 : _ = x51 := Eq.symm (hd 3 (by kernel_rfl))
      subst e51
      have h52 := hd 4 (by kernel_rfl)
      have e53 : _ = x53 := Eq.symm (hd 5 (by kernel_rfl))
      subst e53
      have e47 : _ = x47 := Eq.symm (hd 6 (by kernel_rfl))
      subst e47
      have e54 : _ = x54 := Eq.symm (hd 7 (by kernel_rfl))
      subst e54
      have e55 : _ = x55 := Eq.symm (hd 8 (by kernel_rfl))
      subst e55
      have hn10 := hd 10 (by kernel_rfl)
      have e16 : _ = x16 := Eq.symm (hd 11 (by kernel_rfl))
      subst e16
      clear hd hu
      have HBB : Hid (Below wr.heap.size wr w1) := HBD.out.trans (hb.mono HSZ.out)
      clear hb
      obtain ⟨bx, rfl, hb0, hh⟩ := hn10
      go_simp
      obtain ⟨wq, hwq⟩ : ∃ W, W = w1 := ⟨_, rfl⟩
      subst hwq
      have HDW : Hid (wq.heap[w.heap.size]? = some (.cells #[.int .i64 0, .int .i64 0, .int .i64 0] 54 (0, 0))) := (HBB.out.block _ hl2).trans HDR.out
      have HBW := Lib.hid (HW.out.trans (HBB.out.mono HW.out.size))
      have HBM2 := Lib.hid (HP.out.1.trans (HBB.out.mono HP.out.1.size))
      have hs1 := HBB.out.size
      have HOW : Hid (wq.ownsRow WM.heap.size 144 4 (.slice A0 n0 c0) n0 (flatO (st.take n0))) := by
        have h := own_take4 (own_below hown HBB.out)
        rw [HTV.out] at h
        exact h
      clear g0 g1 g2 e0 e1 e2 HM hop
      rcases HNXT.out with ⟨he, hK1⟩ | ⟨he, hE⟩
      · have hfe : fe = 0 := by rw [← HFO.out.1]; exact he
        subst hfe
        have HK1 := Lib.hid hK1
        clear hK1 he hfm hon
        have HQZ := Lib.hid HBM2.out.size
        have HBG : Hid ((Value.slice A0 n0 c0).ownBlock ≠ some bx) := by
          show _ ≠ _
          intro h
          have h1 := own_take4 hown
          rw [HTV.out] at h1
          have := (h1.lt bx h).2
          omega
        have hc0 : n0 ≤ c0 := by
          rcases HFM.out with ⟨_, _, h0⟩ | ⟨_, _, h1, _⟩ <;> omega
        clear hown
        go_wp2_with fail
        refine Oz.region_claim 71 [Ow.eqR (.slice A0 (n0 + m0) c0), Ow.eqR (.int .i64 (n0 : Int)), fun v w' => w'.ownsRow WM.heap.size 144 4 v (n0) (flatO (st.take n0)), Ow.eqR (.agg #[.int .i64 fk, .int .i64 fx, .bool ft, .complex .f64 f1 f2]), fun v w' => w'.ownsRow WM.heap.size 144 4 v (1) ([.int .i64 fk, .int .i64 fx, .bool ft, .complex .f64 f1 f2]), fun v w' => w'.ownsRow WM.heap.size 144 4 v (n0 + 1) (flatO (st.take n0) ++ [.int .i64 fk, .int .i64 fx, .bool ft, .complex .f64 f1 f2]), fun v w' => w'.ownsRow WM.heap.size 144 4 v (n0 + 1) (flatO (st.take n0) ++ [.int .i64 fk, .int .i64 fx, .bool ft, .complex .f64 f1 f2])] [false, false, true, false, true, true, true] [none, none, none, none, none, some 2, some 5] (WM.heap.size) 2 (.slice A0 n0 c0) (HOW.out) (HQZ.out) (by kernel_rfl) rfl (by kernel_rfl) ⟨Oz.keeps_eq _ _, Oz.keeps_eq _ _, Oz.keeps_own _ _ _ _ _, Oz.keeps_eq _ _, Oz.keeps_own _ _ _ _ _, Oz.keeps_own _ _ _ _ _, Oz.keeps_own _ _ _ _ _, trivial⟩ ?_
        apply Oz.walk_cons rfl
        · intro w1 hb hu hd ho K hK
          clear hu hd ho
          go_simp
          exact hK _ _ (Oz.good_same rfl rfl rfl)
        · intro v; simp only [Act.put, List.setIfInBounds_toArray, List.set_cons_succ, List.set_cons_zero]; exact rfl
        · intro v; exact (rfl : _ = ([v] : List Value))
        intro x60
        apply Oz.walk_cons rfl
        · intro w1 hb hu hd ho K hK
          clear hu hd ho
          go_simp
          exact hK _ _ (Oz.good_same rfl rfl rfl)
        · intro v; simp only [Act.put, List.setIfInBounds_toArray, List.set_cons_succ, List.set_cons_zero]; exact rfl
        · intro v; exact (rfl : _ = ([x60, v] : List Value))
        intro x61
        apply Oz.walk_cons rfl
        · intro w1 hb hu hd ho K hK
          have e60 : _ = x60 := Eq.symm (hd 0 (by kernel_rfl))
          subst e60
          have e61 : _ = x61 := Eq.symm (hd 1 (by kernel_rfl))
          subst e61
          have hx := Oz.own_same HOW.out (w' := w1) (fun g hg => hu g (HOW.out.lt g hg).2 (fun j hj => by
            by_cases hjk : j = 2
            · exact hjk
            · exact absurd ((if_neg hjk).symm.trans hj) (by simp)))
          clear hu hd ho
          go_simp
          exact hK _ _ (Oz.good_claim rfl (Nat.le_refl _) hx hx rfl)
        · intro v; simp only [Act.put, List.setIfInBounds_toArray, List.set_cons_succ, List.set_cons_zero]; exact rfl
        · intro v; exact (rfl : _ = ([x60, x61, v] : List Value))
        intro x62
        apply Oz.walk_cons rfl
        · intro w1 hb hu hd ho K hK
          have hx : w1.heap[bx]? = some (.cells #[.int .i64 fk, .int .i64 fx, .bool ft, .complex .f64 f1 f2] 144 (0, 0)) := (hu bx (Array.getElem?_eq_some_iff.1 hh).1 (fun j hj => absurd hj (Oz.cl_ne HBG.out j))).trans hh
          obtain ⟨q0, q1, q2, q3, p0, p1, p2, p3⟩ := at4 hx
          clear hu hd ho
          go_simp
          exact hK _ _ (Oz.good_same rfl rfl rfl)
        · intro v; simp only [Act.put, List.setIfInBounds_toArray, List.set_cons_succ, List.set_cons_zero]; exact rfl
        · intro v; exact (rfl : _ = ([x60, x61, x62, v] : List Value))
        intro x63
        apply Oz.walk_cons rfl
        · intro w1 hb hu hd ho K hK
          have e63 : _ = x63 := Eq.symm (hd 3 (by kernel_rfl))
          subst e63
          have hz := Nat.le_trans HQZ.out hb.size
          clear hu hd ho
          go_simp
          exact hK _ _ (Oz.good_laid #[.int .i64 fk, .int .i64 fx, .bool ft, .complex .f64 f1 f2] rfl hz (by decide) rfl hz rfl)
        · intro v; simp only [Act.put, List.setIfInBounds_toArray, List.set_cons_succ, List.set_cons_zero]; exact rfl
        · intro v; exact (rfl : _ = ([x60, x61, x62, x63, v] : List Value))
        intro x64
        apply Oz.walk_cons rfl
        · intro w1 hb hu hd ho K hK
          have h62 := hd 2 (by kernel_rfl)
          have h64 := hd 4 (by kernel_rfl)
          have hz := Nat.le_trans HQZ.out hb.size
          have hoo := ho 2 (by kernel_rfl) rfl
          clear hu hd ho
          refine Ow.step_append rfl (.tmp 62) (.tmp 64) 141 rfl WM.heap.size 144 i0 _ 4 40 Tryz.underlying141 HI.out HZ0.out HZ1.out HZ2.out rfl (by decide) x62 n0 (flatO (st.take n0)) (by simp [Act.eval]) h62 _ 1 [.int .i64 fk, .int .i64 fx, .bool ft, .complex .f64 f1 f2] (by simp [Act.eval]) (Inn.of_own h64) (by intro u hu; simp only [List.mem_cons, List.not_mem_nil, or_false] at hu; rcases hu with rfl | rfl | rfl | rfl <;> rfl) (by unfold maxLen; omega) (by omega) hz ?_
          intro v' w' hown hg hob
          exact hK _ _ (Oz.good_row (k := 2) rfl hz h62 hg hown hown hoo hob)
        · intro v; simp only [Act.put, List.setIfInBounds_toArray, List.set_cons_succ, List.set_cons_zero]; exact rfl
        · intro v; exact (rfl : _ = ([x60, x61, x62, x63, x64, v] : List Value))
        intro x65
        apply Oz.walk_cons rfl
        · intro w1 hb hu hd ho K hK
          have h65 := hd 5 (by kernel_rfl)
          have hz := Nat.le_trans HQZ.out hb.size
          have hoo := ho 5 (by kernel_rfl) rfl
          clear hu hd ho
          go_simp
          exact hK _ _ (Oz.good_row (k := 5) rfl hz h65 ⟨rfl, rfl, rfl, Nat.le_refl _, fun _ _ _ => rfl⟩ h65 h65 hoo (Or.inl ⟨rfl, fun g hg => (h65.lt g hg).2⟩))
        · intro v; simp only [Act.put, List.setIfInBounds_toArray, List.set_cons_succ, List.set_cons_zero]; exact rfl
        · intro v; exact (rfl : _ = ([x60, x61, x62, x63, x64, x65, v] : List Value))
        intro x11
        refine Oz.walk_nil rfl (fun w1 hb hu hd => ?_)
        have e60 : _ = x60 := Eq.symm (hd 0 (by kernel_rfl))
        subst e60
        have e61 : _ = x61 := Eq.symm (hd 1 (by kernel_rfl))
        subst e61
        have e63 : _ = x63 := Eq.symm (hd 3 (by kernel_rfl))
        subst e63
        have h64 := hd 4 (by kernel_rfl)
        have h11 := hd 6 (by kernel_rfl)
        clear hd
        go_simp
        go_wp2
        go_roundw
        case rel =>
          have h12 : w1.ownsRow WM.heap.size 144 4 x11 (n0 + 1) (flatO (st.take n0) ++ [.int .i64 fk, .int .i64 fx, .bool ft, .complex .f64 f1 f2]) := h11
          exact ⟨rfl, k + 1, st.take n0 ++ [mm.1], by omega, by go_num, HK1.out, HBM2.out.drew.trans hb, by rw [flatO_append, flatO_one, HFO.out.2]; simpa [HTL.out] using h12⟩
        case measure => simp [intOf]; omega
      · have HE := Lib.hid hE
        have hfe : fe ≠ 0 := by rw [← HFO.out.1]; exact he
        have te := int_ne hfe
        clear hE he hfm hon
        obtain ⟨d0, d1, d2, f0, f1, f2⟩ := at3 HDW.out
        go_wp2
        obtain ⟨⟨r0, r1, r2⟩, hbf⟩ := fin3 HDW.out (Nat.le_refl _) HBW.out (.int .i64 0) (.int .i64 0) (.int .i64 0)
        refine bodyPost_ret (v := .tuple #[.agg #[.int .i64 0, .int .i64 0, .int .i64 0], .int .i64 fe]) ?_ rfl ⟨?_, hbf⟩
        · simp [results, Tryz.results66, go_sem, r0, r1, r2]
        · rw [HE.out]
          show _ = Ending.returned (.tuple #[valV VA.zero, .int .i64 mm.2])
          rw [HFO.out.1, val_zero]
    · obtain rfl : k = n := by omega
      have hK := HK.out
      rw [← HN.out] at hK
      obtain ⟨x, rfl, hx, hxo⟩ := hK.done
      have HX1 := Lib.hid hx
      have HV1 := Lib.hid (fun W => value_any x W hxo)
      have hown := HP.out.2
      rcases own_form hown with ⟨_, h0⟩ | ⟨g, cap, rfl, hcap, hcm⟩
      · simp at h0
      · obtain ⟨yk, yx, yt, y1, y2, hyv, hyc⟩ := opV_form x
        have h5 := vop_at hown (j := 0) (by simp)
        obtain ⟨m0, m1, m2, m3⟩ := h5.at_ hyc
        simp only [Nat.zero_mul, Nat.zero_add] at m0 m1 m2 m3
        rw [hyv] at HV1
        clear hx hK hxo hown h5 hyv hyc HNX HVC HAL HOK
        go_wp2_with fail
        refine (HV1.out _).mono ?_
        rintro e w1 ⟨rfl, hb1⟩
        have HB1 := Lib.hid hb1
        have hd1 : w1.heap[w.heap.size]? = some (.cells #[.int .i64 0, .int .i64 0, .int .i64 0] 54 (0, 0)) := (hb1.block _ hl2).trans HDR.out
        have HD1 := Lib.hid hd1
        clear hb1 hd1
        obtain ⟨d0, d1, d2, f0, f1, f2⟩ := at3 HD1.out
        have hvv : valV x = .agg #[.int .i64 x.kd, .int .i64 x.a, .int .i64 x.b] := rfl
        rw [hvv]
        go_wp2
        obtain ⟨⟨r0, r1, r2⟩, hbf⟩ := fin3 HD1.out (Nat.le_refl _) (HW.out.trans (HB1.out.mono HW.out.size)) (.int .i64 x.kd) (.int .i64 x.a) (.int .i64 x.b)
        refine bodyPost_ret (v := .tuple #[.agg #[.int .i64 x.kd, .int .i64 x.a, .int .i64 x.b], .int .i64 0]) ?_ rfl ⟨?_, hbf⟩
        · simp [results, Tryz.results66, go_sem, r0, r1, r2]
        · rw [HX1.out]; rfl
end Go.Proofs.YtjgfkmakfdepcaaGreatDoor
namespace Go.Proofs.YtjgfkmakfdepcaaGreatDoor
open Go.RowKit

theorem evP_form {vs : List VM} {xs : List VA} {ss : List (List UInt8)} {cs : List CM} (h : rightB cs = false) : evP vs xs ss cs = erV 1 := by unfold evP; rw [h]; rfl
theorem evP_arg {vs : List VM} {xs : List VA} {ss : List (List UInt8)} {cs : List CM} (h : rightB cs = true) (h2 : worldB vs xs = false) : evP vs xs ss cs = erV 12 := by unfold evP; rw [h, h2]; rfl
theorem evP_run {vs : List VM} {xs : List VA} {ss : List (List UInt8)} {cs : List CM} (h : rightB cs = true) (h2 : worldB vs xs = true) : evP vs xs ss cs = eRun vs xs ss cs [] := by unfold evP; rw [h, h2]; rfl

set_option maxRecDepth 100000 in
set_option maxHeartbeats 4000000 in
theorem evOf_any (v vv xv sv : Value) (cs : List CM) (vs : List VM) (xs : List VA) (ss : List (List UInt8)) (w : World) (hR : RdC w v cs) (hl : cs.length ≤ 4611686018427387904)
    (hV : RdV w vv vs) (hX : RdX w xv xs) (hS : RdW w sv ss) (hvl : vs.length ≤ 4611686018427387904) (hxl : xs.length ≤ 4611686018427387904) (hsl : ss.length ≤ 4611686018427387904) (hi : ∀ x ∈ xs, inL x.a = true) :
    Calls Tryz.prog 66 #[v, vv, xv, sv] w fun e w' => e = .returned (.tuple #[valV (evP vs xs ss cs).1, .int .i64 (evP vs xs ss cs).2]) ∧ Below w.heap.size w w' := by
  cases hB : rightB cs with
  | true =>
    cases hW : worldB vs xs with
    | true =>
      obtain ⟨h1, h2, h3⟩ := world_of hW hi
      rw [evP_run hB hW]
      obtain ⟨V, vc, rfl⟩ := hV.form
      obtain ⟨X, xc, rfl⟩ := hX.form
      obtain ⟨S, sc, rfl⟩ := hS.form
      rw [h1] at hX ⊢
      exact evOf_right v cs vs xs ss V X S vs.length vc xc sc w hR hB hV hX hS rfl h1 hvl hsl h2 h3
    | false =>
      rw [evP_arg hB hW]
      have hb0 : Below w.heap.size w (w.alloc (.cells #[.int .i64 0, .int .i64 0, .int .i64 0] 54)) := (Below.refl _ _).alloc (Nat.le_refl _) _
      have hd0 : (w.alloc (.cells #[.int .i64 0, .int .i64 0, .int .i64 0] 54)).heap[w.heap.size]? = some (.cells #[.int .i64 0, .int .i64 0, .int .i64 0] 54 (0, 0)) := heap_alloc_new w _
      have hz0 : (w.alloc (.cells #[.int .i64 0, .int .i64 0, .int .i64 0] 54)).heap.size = w.heap.size + 1 := by simp
      obtain ⟨W0, hW0⟩ : ∃ W, W = w.alloc (.cells #[.int .i64 0, .int .i64 0, .int .i64 0] 54) := ⟨_, rfl⟩
      rw [← hW0] at hb0 hd0 hz0
      have HRG := Lib.hid (right_any v cs W0 (hR.below hb0) hl)
      have HBT := Lib.hid hB
      have HVC := Lib.hid (fun W (hb : Below w.heap.size w W) => valContains_any xv xs W (hX.below hb) hxl)
      have HB0 := Lib.hid hb0; have HD0 := Lib.hid hd0; have HS0 := Lib.hid hz0
      obtain ⟨V, vc, rfl⟩ := hV.form
      obtain ⟨X, xc, rfl⟩ := hX.form
      obtain ⟨S, sc, rfl⟩ := hS.form
      obtain ⟨A, c, rfl, hr⟩ := hR
      unfold worldB at hW
      clear hr hV hX hS hB hb0 hd0 hz0 hi
      subst hW0
      by_cases hlen : xs.length = vs.length
      · have HAL : Hid (xs.all rightV = false) := by
          show _ = _
          rw [decide_eq_true hlen, Bool.true_and] at hW; exact hW
        rw [hlen] at HVC ⊢
        have hm : ((vs.length : Int) != (vs.length : Int)) = false := by simp
        clear hW hlen
        generalize vs.length = m at *
        go_enter Tryz.func66, Tryz.ntmps66
        go_wp2_with fail
        refine HRG.out.mono ?_
        rintro e wa ⟨rfl, hba⟩
        rw [HBT.out]
        have HA := Lib.hid (HB0.out.trans (hba.mono HB0.out.size))
        have HDA : Hid (wa.heap[w.heap.size]? = some (.cells #[.int .i64 0, .int .i64 0, .int .i64 0] 54 (0, 0))) := (hba.block _ (by rw [HS0.out]; omega)).trans HD0.out
        clear hba
        go_wp2_with fail
        refine (HVC.out _ HA.out).mono ?_
        rintro e wb ⟨rfl, hbb⟩
        rw [HAL.out]
        have HB := Lib.hid (HA.out.trans (hbb.mono HA.out.size))
        have HDB : Hid (wb.heap[w.heap.size]? = some (.cells #[.int .i64 0, .int .i64 0, .int .i64 0] 54 (0, 0))) := (hbb.block _ (lt_of_block HDA.out)).trans HDA.out
        clear hbb
        obtain ⟨d0, d1, d2, f0, f1, f2⟩ := at3 HDB.out
        go_wp2
        obtain ⟨⟨r0, r1, r2⟩, hbf⟩ := fin3 HDB.out (Nat.le_refl _) HB.out (.int .i64 0) (.int .i64 0) (.int .i64 0)
        refine bodyPost_ret (v := .tuple #[.agg #[.int .i64 0, .int .i64 0, .int .i64 0], .int .i64 12]) ?_ rfl ⟨rfl, hbf⟩
        simp [results, Tryz.results66, go_sem, r0, r1, r2]
      · have hm : ((xs.length : Int) != (vs.length : Int)) = true := by simp; omega
        clear hW hlen HVC
        generalize vs.length = m at *
        generalize xs.length = n at *
        go_enter Tryz.func66, Tryz.ntmps66
        go_wp2_with fail
        refine HRG.out.mono ?_
        rintro e wa ⟨rfl, hba⟩
        rw [HBT.out]
        have HA := Lib.hid (HB0.out.trans (hba.mono HB0.out.size))
        have HDA : Hid (wa.heap[w.heap.size]? = some (.cells #[.int .i64 0, .int .i64 0, .int .i64 0] 54 (0, 0))) := (hba.block _ (by rw [HS0.out]; omega)).trans HD0.out
        clear hba
        obtain ⟨d0, d1, d2, f0, f1, f2⟩ := at3 HDA.out
        go_wp2
        obtain ⟨⟨r0, r1, r2⟩, hbf⟩ := fin3 HDA.out (Nat.le_refl _) HA.out (.int .i64 0) (.int .i64 0) (.int .i64 0)
        refine bodyPost_ret (v := .tuple #[.agg #[.int .i64 0, .int .i64 0, .int .i64 0], .int .i64 12]) ?_ rfl ⟨rfl, hbf⟩
        simp [results, Tryz.results66, go_sem, r0, r1, r2]
  | false =>
    rw [evP_form hB]
    have hb0 : Below w.heap.size w (w.alloc (.cells #[.int .i64 0, .int .i64 0, .int .i64 0] 54)) := (Below.refl _ _).alloc (Nat.le_refl _) _
    have hd0 : (w.alloc (.cells #[.int .i64 0, .int .i64 0, .int .i64 0] 54)).heap[w.heap.size]? = some (.cells #[.int .i64 0, .int .i64 0, .int .i64 0] 54 (0, 0)) := heap_alloc_new w _
    have hz0 : (w.alloc (.cells #[.int .i64 0, .int .i64 0, .int .i64 0] 54)).heap.size = w.heap.size + 1 := by simp
    obtain ⟨W0, hW0⟩ : ∃ W, W = w.alloc (.cells #[.int .i64 0, .int .i64 0, .int .i64 0] 54) := ⟨_, rfl⟩
    rw [← hW0] at hb0 hd0 hz0
    have HRG := Lib.hid (right_any v cs W0 (hR.below hb0) hl)
    have HBT := Lib.hid hB
    have HB0 := Lib.hid hb0; have HD0 := Lib.hid hd0; have HS0 := Lib.hid hz0
    obtain ⟨V, vc, rfl⟩ := hV.form
    obtain ⟨X, xc, rfl⟩ := hX.form
    obtain ⟨S, sc, rfl⟩ := hS.form
    obtain ⟨A, c, rfl, hr⟩ := hR
    clear hr hV hX hS hB hb0 hd0 hz0 hi
    subst hW0
    generalize vs.length = m at *
    generalize xs.length = n at *
    go_enter Tryz.func66, Tryz.ntmps66
    go_wp2_with fail
    refine HRG.out.mono ?_
    rintro e wa ⟨rfl, hba⟩
    rw [HBT.out]
    have HA := Lib.hid (HB0.out.trans (hba.mono HB0.out.size))
    have HDA : Hid (wa.heap[w.heap.size]? = some (.cells #[.int .i64 0, .int .i64 0, .int .i64 0] 54 (0, 0))) := (hba.block _ (by rw [HS0.out]; omega)).trans HD0.out
    clear hba
    obtain ⟨d0, d1, d2, f0, f1, f2⟩ := at3 HDA.out
    go_wp2
    obtain ⟨⟨r0, r1, r2⟩, hbf⟩ := fin3 HDA.out (Nat.le_refl _) HA.out (.int .i64 0) (.int .i64 0) (.int .i64 0)
    refine bodyPost_ret (v := .tuple #[.agg #[.int .i64 0, .int .i64 0, .int .i64 0], .int .i64 1]) ?_ rfl ⟨rfl, hbf⟩
    simp [results, Tryz.results66, go_sem, r0, r1, r2]
end Go.Proofs.YtjgfkmakfdepcaaGreatDoor
namespace Go.Proofs.YtjgfkmakfdepcaaGreatDoor
open Go.RowKit

section
variable {w : World} {B : Nat} {e : TypeId} {size n cap g : Nat} {xs : List Value}
theorem own_cells (h : w.ownsRow B e size (.slice (some ⟨g, 0, none⟩) n cap) n xs) : ∃ cur : Array Value, B ≤ g ∧ w.heap[g]? = some (.cells cur e (0, 0)) ∧ n ≤ cap ∧ cap ≤ maxLen ∧ cur.size = cap * size ∧ cur.toList.take (n * size) = xs := by
  obtain ⟨_, ⟨hv, _⟩ | ⟨g', cap', cur, hv, h1, h2, h3, h4, h5, h6⟩⟩ := h
  · cases hv
  · simp only [Value.slice.injEq, Option.some.injEq, Addr.mk.injEq, and_true, true_and] at hv
    obtain ⟨rfl, rfl⟩ := hv
    exact ⟨cur, h1, h2, h3, h4, h5, h6⟩
theorem own_frozen (h : w.ownsRow B e size (.slice (some ⟨g, 0, none⟩) n cap) n xs) (j : Nat) : w.frozen? ⟨g, j, none⟩ = false := by
  obtain ⟨cur, _, h2, _⟩ := own_cells h
  simp [World.frozen?, h2]
/-- a cell of the row is written -/
theorem own_set (h : w.ownsRow B e size (.slice (some ⟨g, 0, none⟩) n cap) n xs) (j : Nat) (u : Value) : (w.setCell ⟨g, j, none⟩ u).ownsRow B e size (.slice (some ⟨g, 0, none⟩) n cap) n (xs.set j u) := by
  obtain ⟨cur, h1, h2, h3, h4, h5, h6⟩ := own_cells h
  refine ⟨by rw [List.length_set]; exact h.1, Or.inr ⟨g, cap, cur.setIfInBounds j u, rfl, h1, heap_setCell_same _ _ _ _ _ _ h2, h3, h4, by simpa using h5, ?_⟩⟩
  rw [Array.toList_setIfInBounds, ← h6, List.take_set]
end
end Go.Proofs.YtjgfkmakfdepcaaGreatDoor
namespace Go.Proofs.YtjgfkmakfdepcaaGreatDoor
open Go.RowKit

/-- an element of a row of values is written -/
theorem flatX_set3 (v : VA) : ∀ (xs : List VA) (k : Nat), k < xs.length → (((flatX xs).set (k * 3) (.int .i64 v.kd)).set (k * 3 + 1) (.int .i64 v.a)).set (k * 3 + 2) (.int .i64 v.b) = flatX (xs.set k v)
  | [], k, h => by simp at h
  | x :: r, 0, _ => rfl
  | x :: r, k + 1, h => by
    have ih := flatX_set3 v r k (by simpa using h)
    have e : (k + 1) * 3 = k * 3 + 3 := by omega
    show ((((cellsV x ++ flatX r).set ((k + 1) * 3) _).set ((k + 1) * 3 + 1) _).set ((k + 1) * 3 + 2) _) = cellsV x ++ flatX (r.set k v)
    have e1 : (k + 1) * 3 + 1 = (k * 3 + 1) + 3 := by omega
    have e2 : (k + 1) * 3 + 2 = (k * 3 + 2) + 3 := by omega
    rw [← ih, e1, e2, e]
    rfl
theorem own_setX {w : World} {B : Nat} {e : TypeId} {n cap g : Nat} {xs : List VA} (h : w.ownsRow B e 3 (.slice (some ⟨g, 0, none⟩) n cap) n (flatX xs)) (k : Nat) (hk : k < xs.length) (v : VA) :
    (((w.setCell ⟨g, k * 3, none⟩ (.int .i64 v.kd)).setCell ⟨g, k * 3 + 1, none⟩ (.int .i64 v.a)).setCell ⟨g, k * 3 + 2, none⟩ (.int .i64 v.b)).ownsRow B e 3 (.slice (some ⟨g, 0, none⟩) n cap) n (flatX (xs.set k v)) := by
  rw [← flatX_set3 v xs k hk]
  exact own_set (own_set (own_set h _ _) _ _) _ _
end Go.Proofs.YtjgfkmakfdepcaaGreatDoor
