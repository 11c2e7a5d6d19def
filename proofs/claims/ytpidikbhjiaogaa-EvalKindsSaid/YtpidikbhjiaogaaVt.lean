/- The document's value of any list of cells, in any world. -/
import Derived.Test.YtpidikbhjiaogaaVs
namespace Go.Proofs.Ytpidikbhjiaogaa
open Go.RowKit

theorem all_drop {xs : List VA} {k : Nat} (h : k < xs.length) : (xs.drop k).all rightV = (rightV xs[k] && (xs.drop (k + 1)).all rightV) := by
  rw [List.drop_eq_getElem_cons h]; rfl

set_option maxRecDepth 100000 in
set_option maxHeartbeats 4000000 in
theorem refEvOf_any (v vv xv sv : Value) (cs : List CM) (vs : List VM) (xs : List VA) (ss : List (List UInt8)) (w : World) (hR : RdC w v cs) (hl : cs.length ≤ 4611686018427387904) (hN : Names cs)
    (hV : RdV w vv vs) (hX : RdX w xv xs) (hS : RdW w sv ss) (hvl : vs.length ≤ 4611686018427387904) (hxl : xs.length ≤ 4611686018427387904) (hsl : ss.length ≤ 4611686018427387904) (hi : ∀ x ∈ xs, inL x.a = true) :
    Calls Try.prog 13 #[v, vv, xv, sv] w fun e w' => e = outW (evP vs xs ss cs) ∧ Below w.heap.size w w' := by
  have HB0 : Hid (Below w.heap.size w (w.alloc (.cells #[.int .i64 0, .int .i64 0, .int .i64 0] 23))) := (Below.refl _ _).alloc (Nat.le_refl _) _
  have HD0 : Hid ((w.alloc (.cells #[.int .i64 0, .int .i64 0, .int .i64 0] 23)).heap[w.heap.size]? = some (.cells #[.int .i64 0, .int .i64 0, .int .i64 0] 23 (0, 0))) := heap_at rfl _ _
  have HRG := Lib.hid (refRight_any v cs (w.alloc (.cells #[.int .i64 0, .int .i64 0, .int .i64 0] 23)) (hR.below HB0.out) hl hN)
  cases hB : rightB cs with
  | false =>
    rw [evP_form hB]
    have HBT := Lib.hid hB
    obtain ⟨V, vc, rfl⟩ := hV.form
    obtain ⟨X, xc, rfl⟩ := hX.form
    obtain ⟨S, sc, rfl⟩ := hS.form
    obtain ⟨A, c, rfl, hr⟩ := hR
    clear hr hV hX hS hB hi
    generalize vs.length = m at *
    generalize xs.length = n at *
    go_enter Try.func13, Try.ntmps13
    go_wp2_with fail
    refine HRG.out.mono ?_
    rintro e wa ⟨rfl, hba⟩
    rw [HBT.out]
    have HA := Lib.hid (HB0.out.trans (hba.mono HB0.out.size))
    have HDA : Hid (wa.heap[w.heap.size]? = some (.cells #[.int .i64 0, .int .i64 0, .int .i64 0] 23 (0, 0))) := (hba.block _ (by simp)).trans HD0.out
    have hza : w.heap.size + 1 ≤ wa.heap.size := by have := hba.size; simpa using this
    clear hba
    obtain ⟨d0', d1', d2', f0, f1, f2⟩ := at3 HDA.out
    go_wp2
    obtain ⟨⟨r0, r1, r2⟩, hbf⟩ := fin3 HDA.out (Nat.le_refl _) HA.out (.int .i64 0) (.int .i64 0) (.int .i64 0)
    refine bodyPost_ret (v := .tuple #[.agg #[.int .i64 0, .int .i64 0, .int .i64 0], .int .i64 1]) ?_ rfl ⟨rfl, hbf⟩
    simp [results, Try.results13, go_sem, r0, r1, r2]
  | true =>
    by_cases hlen : xs.length = vs.length
    · obtain ⟨t, ht, htc⟩ := right_tree hB
      have hl32 : cs.length ≤ 32 := by unfold rightB at hB; simp at hB; exact hB.1
      have hpp := post_pos t
      have hlt := congrArg List.length htc
      have hF := right_formed hB
      have hcl : 1 ≤ cs.length := by omega
      have hrec := fun (hx : ∀ x ∈ xs, OkV x) W hR hV hX hS => refEv_rec v vv xv sv cs vs xs ss hF hl32 hvl hxl hsl hlen.symm hx t ht [] (cs.length - 1) W (by omega) (by rw [show cs.length - 1 + 1 = cs.length by omega, List.take_length, htc]; rfl) hR hV hX hS
      rw [show ((cs.length - 1 : Nat) : Int) = (cs.length : Int) - 1 by omega] at hrec
      have hev : evP vs xs ss cs = if xs.all rightV = true then eT vs xs ss t else erV 12 := by
        cases ha : xs.all rightV with
        | true =>
          have hW : worldB vs xs = true := by unfold worldB; rw [decide_eq_true hlen, ha]; rfl
          obtain ⟨h1, _, h3⟩ := world_of hW hi
          rw [evP_run hB hW, if_pos rfl, ← htc]
          exact ev_tree h3 h1.symm ht
        | false => rw [evP_arg hB (by unfold worldB; rw [ha, Bool.and_false]), if_neg (by decide)]
      have hok : xs.all rightV = true → ∀ x ∈ xs, OkV x := fun ha => (world_of (by unfold worldB; rw [decide_eq_true hlen, ha]; rfl) hi).2.2
      rw [hev]
      have HREC : Hid (xs.all rightV = true → _) := fun ha => hrec (hok ha)
      have HBT := Lib.hid hB
      have HR := Lib.hid hR; have HV := Lib.hid hV; have HX := Lib.hid hX; have HS := Lib.hid hS
      obtain ⟨V, vc, rfl⟩ := hV.form
      obtain ⟨X, xc, rfl⟩ := hX.form
      obtain ⟨S, sc, rfl⟩ := hS.form
      obtain ⟨A, c, rfl, hr⟩ := hR
      obtain ⟨p, hp⟩ : ∃ p, eT vs xs ss t = p := ⟨_, rfl⟩
      rw [hp] at HREC ⊢
      obtain ⟨⟨rk, ra, rb⟩, re⟩ := p
      have HREC : Hid (xs.all rightV = true → ∀ (W : World), RdC W (.slice A cs.length c) cs → RdV W (.slice V vs.length vc) vs → RdX W (.slice X xs.length xc) xs → RdW W (.slice S ss.length sc) ss → Calls Try.prog 21 #[.slice A cs.length c, .int .i64 ((cs.length : Int) - 1), .slice V vs.length vc, .slice X xs.length xc, .slice S ss.length sc] W fun x w' => x = .returned (.tuple #[.agg #[.int .i64 rk, .int .i64 ra, .int .i64 rb], .int .i64 re]) ∧ Below W.heap.size W w') := HREC
      clear hr hV hX hS hB hi hrec hev hok hF htc ht hpp hlt hp
      obtain ⟨q, hq⟩ : ∃ q, cs.length = q := ⟨_, rfl⟩
      rw [hq] at HREC HR HRG hl32 hcl hl ⊢
      have HXS := Lib.hid hlen
      rw [← hlen] at HREC HV hvl ⊢
      clear hlen hvl
      obtain ⟨n, hn⟩ : ∃ n, xs.length = n := ⟨_, rfl⟩
      have HN := Lib.hid hn
      rw [hn] at HREC HV HX hxl ⊢
      clear hn hq
      have hm : ((n : Int) != (n : Int)) = false := by simp
      have HRT : Hid (xs.all rightV = true → outW (if xs.all rightV = true then ((⟨rk, ra, rb⟩ : VA), re) else erV 12) = .returned (.tuple #[.agg #[.int .i64 rk, .int .i64 ra, .int .i64 rb], .int .i64 re])) := fun ha => by rw [if_pos ha]; rfl
      have HRF : Hid (xs.all rightV = false → outW (if xs.all rightV = true then ((⟨rk, ra, rb⟩ : VA), re) else erV 12) = .returned (.tuple #[.agg #[.int .i64 0, .int .i64 0, .int .i64 0], .int .i64 12])) := fun ha => by rw [if_neg (by rw [ha]; decide)]; rfl
      generalize outW (if xs.all rightV = true then ((⟨rk, ra, rb⟩ : VA), re) else erV 12) = R at *
      go_enter Try.func13, Try.ntmps13
      go_wp2_with fail
      refine HRG.out.mono ?_
      rintro e wa ⟨rfl, hba⟩
      rw [HBT.out]
      have HA := Lib.hid (HB0.out.trans (hba.mono HB0.out.size))
      have HDA : Hid (wa.heap[w.heap.size]? = some (.cells #[.int .i64 0, .int .i64 0, .int .i64 0] 23 (0, 0))) := (hba.block _ (by simp)).trans HD0.out
      have hza : w.heap.size + 1 ≤ wa.heap.size := by have := hba.size; simpa using this
      clear hba
      go_wp2
      go_loopw [10] (fun i wr => ∃ k, k ≤ n ∧ i = .int .i64 (k : Int) ∧ (xs.drop k).all rightV = xs.all rightV ∧ Below wa.heap.size wa wr) (fun i _ => n - (intOf i).toNat)
      case atStart => exact ⟨0, by omega, rfl, by rw [List.drop_zero], Below.refl _ _⟩
      case round =>
        obtain ⟨k, hk, rfl, hal, hb⟩ := hrel
        have HAL := Lib.hid hal
        have HBR := Lib.hid hb
        have HW := Lib.hid (HA.out.trans (hb.mono HA.out.size))
        have HDR : Hid (wr.heap[w.heap.size]? = some (.cells #[.int .i64 0, .int .i64 0, .int .i64 0] 23 (0, 0))) := (hb.block _ (by omega)).trans HDA.out
        have hzr := hb.size
        clear hal hb
        by_cases hkn : k < n
        · have hkx : k < xs.length := by rw [HN.out]; exact hkn
          obtain ⟨bb, oo, rfl, _, x0, x1, x2⟩ := (HX.out.below HW.out).at_ hkx
          have HAD := Lib.hid (all_drop hkx)
          obtain ⟨x, hx⟩ : ∃ x, xs[k] = x := ⟨_, rfl⟩
          rw [hx] at x0 x1 x2 HAD
          have HRR := Lib.hid (fun W => rRight_any x W)
          obtain ⟨xk, xa, xb⟩ := x
          change wr.cell? _ = some (.int .i64 xk) at x0
          change wr.cell? _ = some (.int .i64 xa) at x1
          change wr.cell? _ = some (.int .i64 xb) at x2
          have HRR : Hid (∀ W, Calls Try.prog 11 #[.agg #[.int .i64 xk, .int .i64 xa, .int .i64 xb]] W fun e w' => e = .returned (.bool (rightV ⟨xk, xa, xb⟩)) ∧ Below W.heap.size W w') := HRR
          clear hx
          cases hrv : rightV ⟨xk, xa, xb⟩ with
          | true =>
            rw [hrv] at HRR HAD
            have HAN : Hid ((xs.drop (k + 1)).all rightV = xs.all rightV) := by
              have h1 := HAL.out; have h2 := HAD.out
              show _ = _
              rw [← h1, h2, Bool.true_and]
            clear hrv
            go_wp2_with fail
            refine (HRR.out _).mono ?_
            rintro e w2 ⟨rfl, hb2⟩
            have HB2 := Lib.hid (HBR.out.trans (hb2.mono HBR.out.size))
            clear hb2
            go_wp2
            go_roundw
            case rel => exact ⟨k + 1, by omega, by go_num, HAN.out, HB2.out⟩
            case measure => simp [intOf]; omega
          | false =>
            rw [hrv] at HRR HAD
            have HAF : Hid (xs.all rightV = false) := by
              have h1 := HAL.out; have h2 := HAD.out
              show _ = _
              rw [← h1, h2, Bool.false_and]
            clear hrv
            go_wp2_with fail
            refine (HRR.out _).mono ?_
            rintro e w2 ⟨rfl, hb2⟩
            have HB2 := Lib.hid (HW.out.trans (hb2.mono HW.out.size))
            have HD2 : Hid (w2.heap[w.heap.size]? = some (.cells #[.int .i64 0, .int .i64 0, .int .i64 0] 23 (0, 0))) := (hb2.block _ (by omega)).trans HDR.out
            clear hb2
            obtain ⟨d0', d1', d2', f0, f1, f2⟩ := at3 HD2.out
            go_wp2
            obtain ⟨⟨r0, r1, r2⟩, hbf⟩ := fin3 HD2.out (Nat.le_refl _) HB2.out (.int .i64 0) (.int .i64 0) (.int .i64 0)
            refine bodyPost_ret (v := .tuple #[.agg #[.int .i64 0, .int .i64 0, .int .i64 0], .int .i64 12]) ?_ rfl ⟨(HRF.out HAF.out).symm, hbf⟩
            simp [results, Try.results13, go_sem, r0, r1, r2]
        · obtain rfl : k = n := by omega
          have HAT : Hid (xs.all rightV = true) := by
            have h1 := HAL.out
            rw [← HN.out, List.drop_length] at h1
            exact h1.symm
          have HRE := Lib.hid (HREC.out HAT.out)
          go_wp2_with fail
          refine (HRE.out _ (HR.out.below HW.out) (HV.out.below HW.out) (HX.out.below HW.out) (HS.out.below HW.out)).mono ?_
          rintro e w2 ⟨rfl, hb2⟩
          have HB2 := Lib.hid (HW.out.trans (hb2.mono HW.out.size))
          have HD2 : Hid (w2.heap[w.heap.size]? = some (.cells #[.int .i64 0, .int .i64 0, .int .i64 0] 23 (0, 0))) := (hb2.block _ (by omega)).trans HDR.out
          clear hb2
          obtain ⟨d0', d1', d2', f0, f1, f2⟩ := at3 HD2.out
          go_wp2
          obtain ⟨⟨r0, r1, r2⟩, hbf⟩ := fin3 HD2.out (Nat.le_refl _) HB2.out (.int .i64 rk) (.int .i64 ra) (.int .i64 rb)
          refine bodyPost_ret (v := .tuple #[.agg #[.int .i64 rk, .int .i64 ra, .int .i64 rb], .int .i64 re]) ?_ rfl ⟨(HRT.out HAT.out).symm, hbf⟩
          simp [results, Try.results13, go_sem, r0, r1, r2]
    · rw [evP_arg hB (by unfold worldB; rw [decide_eq_false hlen]; rfl)]
      have HBT := Lib.hid hB
      have hm : ((vs.length : Int) != (xs.length : Int)) = true := by simp; omega
      obtain ⟨V, vc, rfl⟩ := hV.form
      obtain ⟨X, xc, rfl⟩ := hX.form
      obtain ⟨S, sc, rfl⟩ := hS.form
      obtain ⟨A, c, rfl, hr⟩ := hR
      clear hr hV hX hS hB hi hlen
      generalize vs.length = m at *
      generalize xs.length = n at *
      go_enter Try.func13, Try.ntmps13
      go_wp2_with fail
      refine HRG.out.mono ?_
      rintro e wa ⟨rfl, hba⟩
      rw [HBT.out]
      have HA := Lib.hid (HB0.out.trans (hba.mono HB0.out.size))
      have HDA : Hid (wa.heap[w.heap.size]? = some (.cells #[.int .i64 0, .int .i64 0, .int .i64 0] 23 (0, 0))) := (hba.block _ (by simp)).trans HD0.out
      have hza : w.heap.size + 1 ≤ wa.heap.size := by have := hba.size; simpa using this
      clear hba
      obtain ⟨d0', d1', d2', f0, f1, f2⟩ := at3 HDA.out
      go_wp2
      obtain ⟨⟨r0, r1, r2⟩, hbf⟩ := fin3 HDA.out (Nat.le_refl _) HA.out (.int .i64 0) (.int .i64 0) (.int .i64 0)
      refine bodyPost_ret (v := .tuple #[.agg #[.int .i64 0, .int .i64 0, .int .i64 0], .int .i64 12]) ?_ rfl ⟨rfl, hbf⟩
      simp [results, Try.results13, go_sem, r0, r1, r2]
end Go.Proofs.Ytpidikbhjiaogaa
