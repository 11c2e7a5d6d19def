/- eval.Of at every list of cells, in any world. -/
import Derived.Test.YtpidikbhjiaogaaVl
namespace Go.Proofs.Ytpidikbhjiaogaa
open Go.RowKit

theorem evP_form {vs : List VM} {xs : List VA} {ss : List (List UInt8)} {cs : List CM} (h : rightB cs = false) : evP vs xs ss cs = erV 1 := by unfold evP; rw [h]; rfl
theorem evP_arg {vs : List VM} {xs : List VA} {ss : List (List UInt8)} {cs : List CM} (h : rightB cs = true) (h2 : worldB vs xs = false) : evP vs xs ss cs = erV 12 := by unfold evP; rw [h, h2]; rfl
theorem evP_run {vs : List VM} {xs : List VA} {ss : List (List UInt8)} {cs : List CM} (h : rightB cs = true) (h2 : worldB vs xs = true) : evP vs xs ss cs = eRun vs xs ss cs [] := by unfold evP; rw [h, h2]; rfl

set_option maxRecDepth 100000 in
set_option maxHeartbeats 4000000 in
theorem evOf_any (v vv xv sv : Value) (cs : List CM) (vs : List VM) (xs : List VA) (ss : List (List UInt8)) (w : World) (hR : RdC w v cs) (hl : cs.length ≤ 4611686018427387904)
    (hV : RdV w vv vs) (hX : RdX w xv xs) (hS : RdW w sv ss) (hvl : vs.length ≤ 4611686018427387904) (hxl : xs.length ≤ 4611686018427387904) (hsl : ss.length ≤ 4611686018427387904) (hi : ∀ x ∈ xs, inL x.a = true) :
    Calls Try.prog 18 #[v, vv, xv, sv] w fun e w' => e = .returned (.tuple #[valV (evP vs xs ss cs).1, .int .i64 (evP vs xs ss cs).2]) ∧ Below w.heap.size w w' := by
  cases hB : rightB cs with
  | true =>
    cases hW : worldB vs xs with
    | true =>
      obtain ⟨h1, h2, h3⟩ := world_of hW hi
      rw [evP_run hB hW]
      obtain ⟨V, vc, rfl⟩ := hV.form
      obtain ⟨X, xc, rfl⟩ := hX.form
      obtain ⟨S, sc, rfl⟩ := hS.form
      rw [h1] at hX ⊢
      exact evOf_right v cs vs xs ss V X S vs.length vc xc sc w hR hB hV hX hS rfl h1 hvl hsl h2 h3
    | false =>
      rw [evP_arg hB hW]
      have hb0 : Below w.heap.size w (w.alloc (.cells #[.int .i64 0, .int .i64 0, .int .i64 0] 23)) := (Below.refl _ _).alloc (Nat.le_refl _) _
      have hd0 : (w.alloc (.cells #[.int .i64 0, .int .i64 0, .int .i64 0] 23)).heap[w.heap.size]? = some (.cells #[.int .i64 0, .int .i64 0, .int .i64 0] 23 (0, 0)) := heap_alloc_new w _
      have hz0 : (w.alloc (.cells #[.int .i64 0, .int .i64 0, .int .i64 0] 23)).heap.size = w.heap.size + 1 := by simp
      obtain ⟨W0, hW0⟩ : ∃ W, W = w.alloc (.cells #[.int .i64 0, .int .i64 0, .int .i64 0] 23) := ⟨_, rfl⟩
      rw [← hW0] at hb0 hd0 hz0
      have HRG := Lib.hid (right_any v cs W0 (hR.below hb0) hl)
      have HBT := Lib.hid hB
      have HVC := Lib.hid (fun W (hb : Below w.heap.size w W) => valContains_any xv xs W (hX.below hb) hxl)
      have HB0 := Lib.hid hb0; have HD0 := Lib.hid hd0; have HS0 := Lib.hid hz0
      obtain ⟨V, vc, rfl⟩ := hV.form
      obtain ⟨X, xc, rfl⟩ := hX.form
      obtain ⟨S, sc, rfl⟩ := hS.form
      obtain ⟨A, c, rfl, hr⟩ := hR
      unfold worldB at hW
      clear hr hV hX hS hB hb0 hd0 hz0 hi
      subst hW0
      by_cases hlen : xs.length = vs.length
      · have HAL : Hid (xs.all rightV = false) := by
          show _ = _
          rw [decide_eq_true hlen, Bool.true_and] at hW; exact hW
        rw [hlen] at HVC ⊢
        have hm : ((vs.length : Int) != (vs.length : Int)) = false := by simp
        clear hW hlen
        generalize vs.length = m at *
        go_enter Try.func18, Try.ntmps18
        go_wp2_with fail
        refine HRG.out.mono ?_
        rintro e wa ⟨rfl, hba⟩
        rw [HBT.out]
        have HA := Lib.hid (HB0.out.trans (hba.mono HB0.out.size))
        have HDA : Hid (wa.heap[w.heap.size]? = some (.cells #[.int .i64 0, .int .i64 0, .int .i64 0] 23 (0, 0))) := (hba.block _ (by rw [HS0.out]; omega)).trans HD0.out
        clear hba
        go_wp2_with fail
        refine (HVC.out _ HA.out).mono ?_
        rintro e wb ⟨rfl, hbb⟩
        rw [HAL.out]
        have HB := Lib.hid (HA.out.trans (hbb.mono HA.out.size))
        have HDB : Hid (wb.heap[w.heap.size]? = some (.cells #[.int .i64 0, .int .i64 0, .int .i64 0] 23 (0, 0))) := (hbb.block _ (lt_of_block HDA.out)).trans HDA.out
        clear hbb
        obtain ⟨d0, d1, d2, f0, f1, f2⟩ := at3 HDB.out
        go_wp2
        obtain ⟨⟨r0, r1, r2⟩, hbf⟩ := fin3 HDB.out (Nat.le_refl _) HB.out (.int .i64 0) (.int .i64 0) (.int .i64 0)
        refine bodyPost_ret (v := .tuple #[.agg #[.int .i64 0, .int .i64 0, .int .i64 0], .int .i64 12]) ?_ rfl ⟨rfl, hbf⟩
        simp [results, Try.results18, go_sem, r0, r1, r2]
      · have hm : ((xs.length : Int) != (vs.length : Int)) = true := by simp; omega
        clear hW hlen HVC
        generalize vs.length = m at *
        generalize xs.length = n at *
        go_enter Try.func18, Try.ntmps18
        go_wp2_with fail
        refine HRG.out.mono ?_
        rintro e wa ⟨rfl, hba⟩
        rw [HBT.out]
        have HA := Lib.hid (HB0.out.trans (hba.mono HB0.out.size))
        have HDA : Hid (wa.heap[w.heap.size]? = some (.cells #[.int .i64 0, .int .i64 0, .int .i64 0] 23 (0, 0))) := (hba.block _ (by rw [HS0.out]; omega)).trans HD0.out
        clear hba
        obtain ⟨d0, d1, d2, f0, f1, f2⟩ := at3 HDA.out
        go_wp2
        obtain ⟨⟨r0, r1, r2⟩, hbf⟩ := fin3 HDA.out (Nat.le_refl _) HA.out (.int .i64 0) (.int .i64 0) (.int .i64 0)
        refine bodyPost_ret (v := .tuple #[.agg #[.int .i64 0, .int .i64 0, .int .i64 0], .int .i64 12]) ?_ rfl ⟨rfl, hbf⟩
        simp [results, Try.results18, go_sem, r0, r1, r2]
  | false =>
    rw [evP_form hB]
    have hb0 : Below w.heap.size w (w.alloc (.cells #[.int .i64 0, .int .i64 0, .int .i64 0] 23)) := (Below.refl _ _).alloc (Nat.le_refl _) _
    have hd0 : (w.alloc (.cells #[.int .i64 0, .int .i64 0, .int .i64 0] 23)).heap[w.heap.size]? = some (.cells #[.int .i64 0, .int .i64 0, .int .i64 0] 23 (0, 0)) := heap_alloc_new w _
    have hz0 : (w.alloc (.cells #[.int .i64 0, .int .i64 0, .int .i64 0] 23)).heap.size = w.heap.size + 1 := by simp
    obtain ⟨W0, hW0⟩ : ∃ W, W = w.alloc (.cells #[.int .i64 0, .int .i64 0, .int .i64 0] 23) := ⟨_, rfl⟩
    rw [← hW0] at hb0 hd0 hz0
    have HRG := Lib.hid (right_any v cs W0 (hR.below hb0) hl)
    have HBT := Lib.hid hB
    have HB0 := Lib.hid hb0; have HD0 := Lib.hid hd0; have HS0 := Lib.hid hz0
    obtain ⟨V, vc, rfl⟩ := hV.form
    obtain ⟨X, xc, rfl⟩ := hX.form
    obtain ⟨S, sc, rfl⟩ := hS.form
    obtain ⟨A, c, rfl, hr⟩ := hR
    clear hr hV hX hS hB hb0 hd0 hz0 hi
    subst hW0
    generalize vs.length = m at *
    generalize xs.length = n at *
    go_enter Try.func18, Try.ntmps18
    go_wp2_with fail
    refine HRG.out.mono ?_
    rintro e wa ⟨rfl, hba⟩
    rw [HBT.out]
    have HA := Lib.hid (HB0.out.trans (hba.mono HB0.out.size))
    have HDA : Hid (wa.heap[w.heap.size]? = some (.cells #[.int .i64 0, .int .i64 0, .int .i64 0] 23 (0, 0))) := (hba.block _ (by rw [HS0.out]; omega)).trans HD0.out
    clear hba
    obtain ⟨d0, d1, d2, f0, f1, f2⟩ := at3 HDA.out
    go_wp2
    obtain ⟨⟨r0, r1, r2⟩, hbf⟩ := fin3 HDA.out (Nat.le_refl _) HA.out (.int .i64 0) (.int .i64 0) (.int .i64 0)
    refine bodyPost_ret (v := .tuple #[.agg #[.int .i64 0, .int .i64 0, .int .i64 0], .int .i64 1]) ?_ rfl ⟨rfl, hbf⟩
    simp [results, Try.results18, go_sem, r0, r1, r2]
end Go.Proofs.Ytpidikbhjiaogaa
