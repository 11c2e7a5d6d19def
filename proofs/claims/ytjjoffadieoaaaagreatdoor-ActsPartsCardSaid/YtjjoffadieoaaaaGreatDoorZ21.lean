/- Own texts, joined: Vm, Ot, Os, A4. -/
import Derived.Test.YtjjoffadieoaaaaGreatDoorZ15
import Derived.Test.YtjjoffadieoaaaaGreatDoorZ17
import Derived.Test.YtjjoffadieoaaaaGreatDoorZ19
import Derived.Test.YtjjoffadieoaaaaGreatDoorZ20
namespace Go.Proofs.YtjjoffadieoaaaaGreatDoor
open Go.RowKit

theorem evP_form {vs : List VM} {xs : List VA} {ss : List (List UInt8)} {cs : List CM} (h : rightB cs = false) : evP vs xs ss cs = erV 1 := by unfold evP; rw [h]; rfl
theorem evP_arg {vs : List VM} {xs : List VA} {ss : List (List UInt8)} {cs : List CM} (h : rightB cs = true) (h2 : worldB vs xs = false) : evP vs xs ss cs = erV 12 := by unfold evP; rw [h, h2]; rfl
theorem evP_run {vs : List VM} {xs : List VA} {ss : List (List UInt8)} {cs : List CM} (h : rightB cs = true) (h2 : worldB vs xs = true) : evP vs xs ss cs = eRun vs xs ss cs [] := by unfold evP; rw [h, h2]; rfl

set_option maxRecDepth 100000 in
set_option maxHeartbeats 4000000 in
theorem evOf_any (v vv xv sv : Value) (cs : List CM) (vs : List VM) (xs : List VA) (ss : List (List UInt8)) (w : World) (hR : RdC w v cs) (hl : cs.length ≤ 4611686018427387904)
    (hV : RdV w vv vs) (hX : RdX w xv xs) (hS : RdW w sv ss) (hvl : vs.length ≤ 4611686018427387904) (hxl : xs.length ≤ 4611686018427387904) (hsl : ss.length ≤ 4611686018427387904) (hi : ∀ x ∈ xs, inL x.a = true) :
    Calls Tryz.prog 66 #[v, vv, xv, sv] w fun e w' => e = .returned (.tuple #[valV (evP vs xs ss cs).1, .int .i64 (evP vs xs ss cs).2]) ∧ Below w.heap.size w w' := by
  cases hB : rightB cs with
  | true =>
    cases hW : worldB vs xs with
    | true =>
      obtain ⟨h1, h2, h3⟩ := world_of hW hi
      rw [evP_run hB hW]
      obtain ⟨V, vc, rfl⟩ := hV.form
      obtain ⟨X, xc, rfl⟩ := hX.form
      obtain ⟨S, sc, rfl⟩ := hS.form
      rw [h1] at hX ⊢
      exact evOf_right v cs vs xs ss V X S vs.length vc xc sc w hR hB hV hX hS rfl h1 hvl hsl h2 h3
    | false =>
      rw [evP_arg hB hW]
      have hb0 : Below w.heap.size w (w.alloc (.cells #[.int .i64 0, .int .i64 0, .int .i64 0] 54)) := (Below.refl _ _).alloc (Nat.le_refl _) _
      have hd0 : (w.alloc (.cells #[.int .i64 0, .int .i64 0, .int .i64 0] 54)).heap[w.heap.size]? = some (.cells #[.int .i64 0, .int .i64 0, .int .i64 0] 54 (0, 0)) := heap_alloc_new w _
      have hz0 : (w.alloc (.cells #[.int .i64 0, .int .i64 0, .int .i64 0] 54)).heap.size = w.heap.size + 1 := by simp
      obtain ⟨W0, hW0⟩ : ∃ W, W = w.alloc (.cells #[.int .i64 0, .int .i64 0, .int .i64 0] 54) := ⟨_, rfl⟩
      rw [← hW0] at hb0 hd0 hz0
      have HRG := Lib.hid (right_any v cs W0 (hR.below hb0) hl)
      have HBT := Lib.hid hB
      have HVC := Lib.hid (fun W (hb : Below w.heap.size w W) => valContains_any xv xs W (hX.below hb) hxl)
      have HB0 := Lib.hid hb0; have HD0 := Lib.hid hd0; have HS0 := Lib.hid hz0
      obtain ⟨V, vc, rfl⟩ := hV.form
      obtain ⟨X, xc, rfl⟩ := hX.form
      obtain ⟨S, sc, rfl⟩ := hS.form
      obtain ⟨A, c, rfl, hr⟩ := hR
      unfold worldB at hW
      clear hr hV hX hS hB hb0 hd0 hz0 hi
      subst hW0
      by_cases hlen : xs.length = vs.length
      · have HAL : Hid (xs.all rightV = false) := by
          show _ = _
          rw [decide_eq_true hlen, Bool.true_and] at hW; exact hW
        rw [hlen] at HVC ⊢
        have hm : ((vs.length : Int) != (vs.length : Int)) = false := by simp
        clear hW hlen
        generalize vs.length = m at *
        go_enter Tryz.func66, Tryz.ntmps66
        go_wp2_with fail
        refine HRG.out.mono ?_
        rintro e wa ⟨rfl, hba⟩
        rw [HBT.out]
        have HA := Lib.hid (HB0.out.trans (hba.mono HB0.out.size))
        have HDA : Hid (wa.heap[w.heap.size]? = some (.cells #[.int .i64 0, .int .i64 0, .int .i64 0] 54 (0, 0))) := (hba.block _ (by rw [HS0.out]; omega)).trans HD0.out
        clear hba
        go_wp2_with fail
        refine (HVC.out _ HA.out).mono ?_
        rintro e wb ⟨rfl, hbb⟩
        rw [HAL.out]
        have HB := Lib.hid (HA.out.trans (hbb.mono HA.out.size))
        have HDB : Hid (wb.heap[w.heap.size]? = some (.cells #[.int .i64 0, .int .i64 0, .int .i64 0] 54 (0, 0))) := (hbb.block _ (lt_of_block HDA.out)).trans HDA.out
        clear hbb
        obtain ⟨d0, d1, d2, f0, f1, f2⟩ := at3 HDB.out
        go_wp2
        obtain ⟨⟨r0, r1, r2⟩, hbf⟩ := fin3 HDB.out (Nat.le_refl _) HB.out (.int .i64 0) (.int .i64 0) (.int .i64 0)
        refine bodyPost_ret (v := .tuple #[.agg #[.int .i64 0, .int .i64 0, .int .i64 0], .int .i64 12]) ?_ rfl ⟨rfl, hbf⟩
        simp [results, Tryz.results66, go_sem, r0, r1, r2]
      · have hm : ((xs.length : Int) != (vs.length : Int)) = true := by simp; omega
        clear hW hlen HVC
        generalize vs.length = m at *
        generalize xs.length = n at *
        go_enter Tryz.func66, Tryz.ntmps66
        go_wp2_with fail
        refine HRG.out.mono ?_
        rintro e wa ⟨rfl, hba⟩
        rw [HBT.out]
        have HA := Lib.hid (HB0.out.trans (hba.mono HB0.out.size))
        have HDA : Hid (wa.heap[w.heap.size]? = some (.cells #[.int .i64 0, .int .i64 0, .int .i64 0] 54 (0, 0))) := (hba.block _ (by rw [HS0.out]; omega)).trans HD0.out
        clear hba
        obtain ⟨d0, d1, d2, f0, f1, f2⟩ := at3 HDA.out
        go_wp2
        obtain ⟨⟨r0, r1, r2⟩, hbf⟩ := fin3 HDA.out (Nat.le_refl _) HA.out (.int .i64 0) (.int .i64 0) (.int .i64 0)
        refine bodyPost_ret (v := .tuple #[.agg #[.int .i64 0, .int .i64 0, .int .i64 0], .int .i64 12]) ?_ rfl ⟨rfl, hbf⟩
        simp [results, Tryz.results66, go_sem, r0, r1, r2]
  | false =>
    rw [evP_form hB]
    have hb0 : Below w.heap.size w (w.alloc (.cells #[.int .i64 0, .int .i64 0, .int .i64 0] 54)) := (Below.refl _ _).alloc (Nat.le_refl _) _
    have hd0 : (w.alloc (.cells #[.int .i64 0, .int .i64 0, .int .i64 0] 54)).heap[w.heap.size]? = some (.cells #[.int .i64 0, .int .i64 0, .int .i64 0] 54 (0, 0)) := heap_alloc_new w _
    have hz0 : (w.alloc (.cells #[.int .i64 0, .int .i64 0, .int .i64 0] 54)).heap.size = w.heap.size + 1 := by simp
    obtain ⟨W0, hW0⟩ : ∃ W, W = w.alloc (.cells #[.int .i64 0, .int .i64 0, .int .i64 0] 54) := ⟨_, rfl⟩
    rw [← hW0] at hb0 hd0 hz0
    have HRG := Lib.hid (right_any v cs W0 (hR.below hb0) hl)
    have HBT := Lib.hid hB
    have HB0 := Lib.hid hb0; have HD0 := Lib.hid hd0; have HS0 := Lib.hid hz0
    obtain ⟨V, vc, rfl⟩ := hV.form
    obtain ⟨X, xc, rfl⟩ := hX.form
    obtain ⟨S, sc, rfl⟩ := hS.form
    obtain ⟨A, c, rfl, hr⟩ := hR
    clear hr hV hX hS hB hb0 hd0 hz0 hi
    subst hW0
    generalize vs.length = m at *
    generalize xs.length = n at *
    go_enter Tryz.func66, Tryz.ntmps66
    go_wp2_with fail
    refine HRG.out.mono ?_
    rintro e wa ⟨rfl, hba⟩
    rw [HBT.out]
    have HA := Lib.hid (HB0.out.trans (hba.mono HB0.out.size))
    have HDA : Hid (wa.heap[w.heap.size]? = some (.cells #[.int .i64 0, .int .i64 0, .int .i64 0] 54 (0, 0))) := (hba.block _ (by rw [HS0.out]; omega)).trans HD0.out
    clear hba
    obtain ⟨d0, d1, d2, f0, f1, f2⟩ := at3 HDA.out
    go_wp2
    obtain ⟨⟨r0, r1, r2⟩, hbf⟩ := fin3 HDA.out (Nat.le_refl _) HA.out (.int .i64 0) (.int .i64 0) (.int .i64 0)
    refine bodyPost_ret (v := .tuple #[.agg #[.int .i64 0, .int .i64 0, .int .i64 0], .int .i64 1]) ?_ rfl ⟨rfl, hbf⟩
    simp [results, Tryz.results66, go_sem, r0, r1, r2]
end Go.Proofs.YtjjoffadieoaaaaGreatDoor
namespace Go.Proofs.YtjjoffadieoaaaaGreatDoor
open Go.RowKit

section
variable {w : World} {B : Nat} {e : TypeId} {size n cap g : Nat} {xs : List Value}
theorem own_cells (h : w.ownsRow B e size (.slice (some ⟨g, 0, none⟩) n cap) n xs) : ∃ cur : Array Value, B ≤ g ∧ w.heap[g]? = some (.cells cur e (0, 0)) ∧ n ≤ cap ∧ cap ≤ maxLen ∧ cur.size = cap * size ∧ cur.toList.take (n * size) = xs := by
  obtain ⟨_, ⟨hv, _⟩ | ⟨g', cap', cur, hv, h1, h2, h3, h4, h5, h6⟩⟩ := h
  · cases hv
  · simp only [Value.slice.injEq, Option.some.injEq, Addr.mk.injEq, and_true, true_and] at hv
    obtain ⟨rfl, rfl⟩ := hv
    exact ⟨cur, h1, h2, h3, h4, h5, h6⟩
theorem own_frozen (h : w.ownsRow B e size (.slice (some ⟨g, 0, none⟩) n cap) n xs) (j : Nat) : w.frozen? ⟨g, j, none⟩ = false := by
  obtain ⟨cur, _, h2, _⟩ := own_cells h
  simp [World.frozen?, h2]
/-- a cell of the row is written -/
theorem own_set (h : w.ownsRow B e size (.slice (some ⟨g, 0, none⟩) n cap) n xs) (j : Nat) (u : Value) : (w.setCell ⟨g, j, none⟩ u).ownsRow B e size (.slice (some ⟨g, 0, none⟩) n cap) n (xs.set j u) := by
  obtain ⟨cur, h1, h2, h3, h4, h5, h6⟩ := own_cells h
  refine ⟨by rw [List.length_set]; exact h.1, Or.inr ⟨g, cap, cur.setIfInBounds j u, rfl, h1, heap_setCell_same _ _ _ _ _ _ h2, h3, h4, by simpa using h5, ?_⟩⟩
  rw [Array.toList_setIfInBounds, ← h6, List.take_set]
end
end Go.Proofs.YtjjoffadieoaaaaGreatDoor
namespace Go.Proofs.YtjjoffadieoaaaaGreatDoor
open Go.RowKit

/-- an element of a row of values is written -/
theorem flatX_set3 (v : VA) : ∀ (xs : List VA) (k : Nat), k < xs.length → (((flatX xs).set (k * 3) (.int .i64 v.kd)).set (k * 3 + 1) (.int .i64 v.a)).set (k * 3 + 2) (.int .i64 v.b) = flatX (xs.set k v)
  | [], k, h => by simp at h
  | x :: r, 0, _ => rfl
  | x :: r, k + 1, h => by
    have ih := flatX_set3 v r k (by simpa using h)
    have e : (k + 1) * 3 = k * 3 + 3 := by omega
    show ((((cellsV x ++ flatX r).set ((k + 1) * 3) _).set ((k + 1) * 3 + 1) _).set ((k + 1) * 3 + 2) _) = cellsV x ++ flatX (r.set k v)
    have e1 : (k + 1) * 3 + 1 = (k * 3 + 1) + 3 := by omega
    have e2 : (k + 1) * 3 + 2 = (k * 3 + 2) + 3 := by omega
    rw [← ih, e1, e2, e]
    rfl
theorem own_setX {w : World} {B : Nat} {e : TypeId} {n cap g : Nat} {xs : List VA} (h : w.ownsRow B e 3 (.slice (some ⟨g, 0, none⟩) n cap) n (flatX xs)) (k : Nat) (hk : k < xs.length) (v : VA) :
    (((w.setCell ⟨g, k * 3, none⟩ (.int .i64 v.kd)).setCell ⟨g, k * 3 + 1, none⟩ (.int .i64 v.a)).setCell ⟨g, k * 3 + 2, none⟩ (.int .i64 v.b)).ownsRow B e 3 (.slice (some ⟨g, 0, none⟩) n cap) n (flatX (xs.set k v)) := by
  rw [← flatX_set3 v xs k hk]
  exact own_set (own_set (own_set h _ _) _ _) _ _
end Go.Proofs.YtjjoffadieoaaaaGreatDoor
namespace Go.Proofs.YtjjoffadieoaaaaGreatDoor
open Go.RowKit

theorem withinA_any (x : VM) (X : ByteArray) (n : Int) (w : World) :
    Calls Tryz.prog 97 #[.agg #[.string X, .int .i64 x.kd, .int .i64 x.lo, .int .i64 x.hi, .int .i64 x.ik, .int .i64 x.ia, .int .i64 x.ib], .int .i64 n] w fun e w' => e = .returned (.bool (decide (x.lo ≤ n ∧ n ≤ x.hi))) ∧ Below w.heap.size w w' := by
  have HB : Hid (∀ W : World, ∀ o : Obj, Below W.heap.size W (W.alloc o)) := fun W o => (Below.refl _ _).alloc (Nat.le_refl _) o
  by_cases h1 : x.lo ≤ n
  · by_cases h2 : n ≤ x.hi
    · rw [decide_eq_true ⟨h1, h2⟩]
      go_enter Tryz.func97, Tryz.ntmps97
      go_wp2
      go_ret
      exact ⟨rfl, HB.out _ _⟩
    · rw [decide_eq_false (fun h => h2 h.2)]
      go_enter Tryz.func97, Tryz.ntmps97
      go_wp2
      go_ret
      exact ⟨rfl, HB.out _ _⟩
  · rw [decide_eq_false (fun h => h1 h.1)]
    go_enter Tryz.func97, Tryz.ntmps97
    go_wp2
    go_ret
    exact ⟨rfl, HB.out _ _⟩

set_option maxRecDepth 100000 in
set_option maxHeartbeats 2000000 in
theorem mayHold_any (x : VM) (X : ByteArray) (y : VA) (w : World) :
    Calls Tryz.prog 67 #[.agg #[.string X, .int .i64 x.kd, .int .i64 x.lo, .int .i64 x.hi, .int .i64 x.ik, .int .i64 x.ia, .int .i64 x.ib], .agg #[.int .i64 y.kd, .int .i64 y.a, .int .i64 y.b]] w fun e w' => e = .returned (.bool (mayB x y)) ∧ Below w.heap.size w w' := by
  obtain ⟨yk, ya, yb⟩ := y
  obtain ⟨xnm, xkd, xlo, xhi, xik, xia, xib⟩ := x
  dsimp only
  have HW := Lib.hid (withinA_any ⟨xnm, xkd, xlo, xhi, xik, xia, xib⟩ X)
  have HB0 : Hid (∀ o1 o2 : Obj, Below w.heap.size w ((w.alloc o1).alloc o2)) := fun o1 o2 => ((Below.refl _ _).alloc (Nat.le_refl _) _).alloc (by simp) _
  by_cases h1 : yk = xkd
  · obtain rfl : xkd = yk := h1.symm
    have d0 : ((w.alloc (.cells #[.string X, .int .i64 xkd, .int .i64 xlo, .int .i64 xhi, .int .i64 xik, .int .i64 xia, .int .i64 xib] 56)).alloc (.cells #[.int .i64 xkd, .int .i64 ya, .int .i64 yb] 54)).cell? ⟨w.heap.size, 0, none⟩ = some (.string X) := by simp
    have d1 : ((w.alloc (.cells #[.string X, .int .i64 xkd, .int .i64 xlo, .int .i64 xhi, .int .i64 xik, .int .i64 xia, .int .i64 xib] 56)).alloc (.cells #[.int .i64 xkd, .int .i64 ya, .int .i64 yb] 54)).cell? ⟨w.heap.size, 1, none⟩ = some (.int .i64 xkd) := by simp
    have d2 : ((w.alloc (.cells #[.string X, .int .i64 xkd, .int .i64 xlo, .int .i64 xhi, .int .i64 xik, .int .i64 xia, .int .i64 xib] 56)).alloc (.cells #[.int .i64 xkd, .int .i64 ya, .int .i64 yb] 54)).cell? ⟨w.heap.size, 2, none⟩ = some (.int .i64 xlo) := by simp
    have d3 : ((w.alloc (.cells #[.string X, .int .i64 xkd, .int .i64 xlo, .int .i64 xhi, .int .i64 xik, .int .i64 xia, .int .i64 xib] 56)).alloc (.cells #[.int .i64 xkd, .int .i64 ya, .int .i64 yb] 54)).cell? ⟨w.heap.size, 3, none⟩ = some (.int .i64 xhi) := by simp
    have d4 : ((w.alloc (.cells #[.string X, .int .i64 xkd, .int .i64 xlo, .int .i64 xhi, .int .i64 xik, .int .i64 xia, .int .i64 xib] 56)).alloc (.cells #[.int .i64 xkd, .int .i64 ya, .int .i64 yb] 54)).cell? ⟨w.heap.size, 4, none⟩ = some (.int .i64 xik) := by simp
    have d5 : ((w.alloc (.cells #[.string X, .int .i64 xkd, .int .i64 xlo, .int .i64 xhi, .int .i64 xik, .int .i64 xia, .int .i64 xib] 56)).alloc (.cells #[.int .i64 xkd, .int .i64 ya, .int .i64 yb] 54)).cell? ⟨w.heap.size, 5, none⟩ = some (.int .i64 xia) := by simp
    have d6 : ((w.alloc (.cells #[.string X, .int .i64 xkd, .int .i64 xlo, .int .i64 xhi, .int .i64 xik, .int .i64 xia, .int .i64 xib] 56)).alloc (.cells #[.int .i64 xkd, .int .i64 ya, .int .i64 yb] 54)).cell? ⟨w.heap.size, 6, none⟩ = some (.int .i64 xib) := by simp
    have g0 : ((w.alloc (.cells #[.string X, .int .i64 xkd, .int .i64 xlo, .int .i64 xhi, .int .i64 xik, .int .i64 xia, .int .i64 xib] 56)).alloc (.cells #[.int .i64 xkd, .int .i64 ya, .int .i64 yb] 54)).cell? ⟨w.heap.size + 1, 0, none⟩ = some (.int .i64 xkd) := by simp
    have g1 : ((w.alloc (.cells #[.string X, .int .i64 xkd, .int .i64 xlo, .int .i64 xhi, .int .i64 xik, .int .i64 xia, .int .i64 xib] 56)).alloc (.cells #[.int .i64 xkd, .int .i64 ya, .int .i64 yb] 54)).cell? ⟨w.heap.size + 1, 1, none⟩ = some (.int .i64 ya) := by simp
    have g2 : ((w.alloc (.cells #[.string X, .int .i64 xkd, .int .i64 xlo, .int .i64 xhi, .int .i64 xik, .int .i64 xia, .int .i64 xib] 56)).alloc (.cells #[.int .i64 xkd, .int .i64 ya, .int .i64 yb] 54)).cell? ⟨w.heap.size + 1, 2, none⟩ = some (.int .i64 yb) := by simp
    by_cases h2 : xlo ≤ ya ∧ ya ≤ xhi
    · have HE := Lib.hid (decide_eq_true h2)
      by_cases h3 : xkd = 3
      · have HL : Hid (mayB ⟨xnm, xkd, xlo, xhi, xik, xia, xib⟩ ⟨xkd, ya, yb⟩ = decide (xlo ≤ yb ∧ yb ≤ xhi)) := by show mayB _ _ = _; simp only [mayB, decide_eq_true h2, h3]; simp
        rw [HL.out]
        subst h3
        clear h2
        go_enter Tryz.func67, Tryz.ntmps67
        go_wp2_with fail
        refine (HW.out _ _).mono ?_
        rintro e w1 ⟨rfl, hb1⟩
        rw [HE.out]
        have e0 := (hb1.cell (cell_lt d0)).trans d0
        have e1 := (hb1.cell (cell_lt d1)).trans d1
        have e2 := (hb1.cell (cell_lt d2)).trans d2
        have e3 := (hb1.cell (cell_lt d3)).trans d3
        have e4 := (hb1.cell (cell_lt d4)).trans d4
        have e5 := (hb1.cell (cell_lt d5)).trans d5
        have e6 := (hb1.cell (cell_lt d6)).trans d6
        have k0 := (hb1.cell (cell_lt g0)).trans g0
        have k1 := (hb1.cell (cell_lt g1)).trans g1
        have k2 := (hb1.cell (cell_lt g2)).trans g2
        have HB1 := Lib.hid ((HB0.out _ _).trans (hb1.mono (HB0.out _ _).size)); clear hb1 d0 d1 d2 d3 d4 d5 d6 g0 g1 g2
        go_wp2_with fail
        refine (HW.out _ _).mono ?_
        rintro e w2 ⟨rfl, hb2⟩
        have HB2 := Lib.hid (HB1.out.trans (hb2.mono HB1.out.size)); clear hb2
        go_wp2
        go_ret
        exact ⟨by rw [Bool.decide_and]; rfl, HB2.out⟩
      · have HL : Hid (mayB ⟨xnm, xkd, xlo, xhi, xik, xia, xib⟩ ⟨xkd, ya, yb⟩ = true) := by show mayB _ _ = _; simp only [mayB, decide_eq_true h2, decide_eq_true h3]; simp
        rw [HL.out]
        have h3' := int_ne h3
        have h3'' : (xkd != 3) = true := bne_iff_ne.2 h3
        clear h2
        go_enter Tryz.func67, Tryz.ntmps67
        go_wp2_with fail
        refine (HW.out _ _).mono ?_
        rintro e w1 ⟨rfl, hb1⟩
        rw [HE.out]
        have e0 := (hb1.cell (cell_lt d0)).trans d0
        have e1 := (hb1.cell (cell_lt d1)).trans d1
        have e2 := (hb1.cell (cell_lt d2)).trans d2
        have e3 := (hb1.cell (cell_lt d3)).trans d3
        have e4 := (hb1.cell (cell_lt d4)).trans d4
        have e5 := (hb1.cell (cell_lt d5)).trans d5
        have e6 := (hb1.cell (cell_lt d6)).trans d6
        have k0 := (hb1.cell (cell_lt g0)).trans g0
        have k1 := (hb1.cell (cell_lt g1)).trans g1
        have k2 := (hb1.cell (cell_lt g2)).trans g2
        have HB1 := Lib.hid ((HB0.out _ _).trans (hb1.mono (HB0.out _ _).size)); clear hb1 d0 d1 d2 d3 d4 d5 d6 g0 g1 g2
        go_wp2
        go_ret
        exact ⟨rfl, HB1.out⟩
    · have HE := Lib.hid (decide_eq_false h2)
      have HL : Hid (mayB ⟨xnm, xkd, xlo, xhi, xik, xia, xib⟩ ⟨xkd, ya, yb⟩ = false) := by show mayB _ _ = _; simp only [mayB, decide_eq_false h2]; simp
      rw [HL.out]
      clear h2
      go_enter Tryz.func67, Tryz.ntmps67
      go_wp2_with fail
      refine (HW.out _ _).mono ?_
      rintro e w1 ⟨rfl, hb1⟩
      rw [HE.out]
      have HB1 := Lib.hid ((HB0.out _ _).trans (hb1.mono (HB0.out _ _).size)); clear hb1 d0 d1 d2 d3 d4 d5 d6 g0 g1 g2
      go_wp2
      go_ret
      exact ⟨rfl, HB1.out⟩
  · have h1' := int_ne h1
    have HL : Hid (mayB ⟨xnm, xkd, xlo, xhi, xik, xia, xib⟩ ⟨yk, ya, yb⟩ = false) := by show mayB _ _ = _; simp only [mayB, decide_eq_false h1]; simp
    rw [HL.out]
    go_enter Tryz.func67, Tryz.ntmps67
    go_wp2
    go_ret
    exact ⟨rfl, HB0.out _ _⟩

theorem setCalled_any (x : VM) (X N : ByteArray) (g : Nat) (w : World) (hg : g < w.heap.size) (hN : w.cell? ⟨g, 1, none⟩ = some (.string N)) :
    Calls Tryz.prog 65 #[.agg #[.string X, .int .i64 x.kd, .int .i64 x.lo, .int .i64 x.hi, .int .i64 x.ik, .int .i64 x.ia, .int .i64 x.ib], .pointer (some ⟨g, 0, none⟩)] w fun e w' => e = .returned (.bool (decide (X.data.toList = N.data.toList))) ∧ Below w.heap.size w w' := by
  have HB : Hid (∀ W : World, ∀ o : Obj, Below W.heap.size W (W.alloc o)) := fun W o => (Below.refl _ _).alloc (Nat.le_refl _) o
  have hne0 : w.heap.size ≠ g := by omega
  by_cases he : X.data.toList = N.data.toList
  · obtain rfl := str_eq he
    rw [decide_eq_true he]
    clear he
    go_enter Tryz.func65, Tryz.ntmps65
    go_wp2
    go_ret
    exact ⟨rfl, HB.out _ _⟩
  · have hne := str_ne he
    have hne' := str_ne (Ne.symm he)
    rw [decide_eq_false he]
    clear he
    go_enter Tryz.func65, Tryz.ntmps65
    go_wp2
    go_ret
    exact ⟨rfl, HB.out _ _⟩

set_option maxHeartbeats 1000000 in
theorem setIndex_any (v : Value) (vs : List VM) (N : ByteArray) (g : Nat) (w : World) (hR : RdV w v vs) (hl : vs.length ≤ 4611686018427387904) (hg : g < w.heap.size) (hN : w.cell? ⟨g, 1, none⟩ = some (.string N)) :
    Calls Tryz.prog 64 #[v, .func (.func 65) #[] #[.pointer (some ⟨g, 0, none⟩)]] w fun e w' => e = .returned (.int .i64 (ixP (isV N.data.toList) vs 0)) ∧ Below w.heap.size w w' := by
  obtain ⟨A, c, rfl⟩ := hR.form
  have HR := Lib.hid hR; clear hR
  obtain ⟨n, hn⟩ : ∃ n, vs.length = n := ⟨_, rfl⟩
  have HN := Lib.hid hn
  rw [hn] at hl HR ⊢
  clear hn
  have HNM := Lib.hid hN; clear hN
  go_enter Tryz.func64, Tryz.ntmps64
  go_wp2
  go_loopw [4, 5, 8] (fun x4 x5 i wr => x4 = .int .i64 0 ∧ (x5 = .int .i64 0 ∨ True) ∧ ∃ k : Nat, k ≤ n ∧ i = .int .i64 k ∧ Hid (ixP (isV N.data.toList) (vs.drop k) k = ixP (isV N.data.toList) vs 0) ∧ Below w.heap.size w wr) (fun _ _ i _ => n - (intOf i).toNat)
  case atStart => exact ⟨rfl, Or.inr trivial, 0, by omega, rfl, rfl, Below.refl _ _⟩
  case round =>
    obtain ⟨rfl, _, k, hk, rfl, HI, hb⟩ := hrel
    have HBL := Lib.hid hb
    by_cases hkn : k < n
    · have HR' := HR.out.below hb
      have hst := ix_step (p := isV N.data.toList) (l := vs) (k := k) (by rw [HN.out]; exact hkn)
      rw [HI.out] at hst
      obtain ⟨b, o, rfl, _, hc0, hc1, hc2, hc3, hc4, hc5, hc6⟩ := HR'.at_ (k := k) (by rw [HN.out]; exact hkn)
      obtain ⟨X, hX, hXl⟩ := bstr_some (vs[k]'(by rw [HN.out]; exact hkn)).nm
      have hiv : isV N.data.toList (vs[k]'(by rw [HN.out]; exact hkn)) = decide (X.data.toList = N.data.toList) := by rw [hXl]; rfl
      rw [hiv] at hst
      rw [hX] at hc0
      generalize vs[k]'(by rw [HN.out]; exact hkn) = x at *
      clear hX hXl hiv
      have HC := Lib.hid (setCalled_any x X N g wr (by have := HBL.out.size; omega) ((hb.cell hg).trans HNM.out))
      clear hb HR'
      by_cases he : decide (X.data.toList = N.data.toList) = true
      · have hr : ixP (isV N.data.toList) vs 0 = k := by rw [hst, if_pos he]
        have HRR := Lib.hid hr
        have HE := Lib.hid he
        clear hst hr he HI
        go_wp2_with fail
        refine HC.out.mono ?_
        rintro e w1 ⟨rfl, hb1⟩
        rw [HE.out]
        have HB1 := Lib.hid (HBL.out.trans (hb1.mono HBL.out.size)); clear hb1
        go_wp2
        go_ret
        exact ⟨ret_int HRR.out.symm, HB1.out⟩
      · have hr : ixP (isV N.data.toList) (vs.drop (k + 1)) (k + 1) = ixP (isV N.data.toList) vs 0 := by rw [hst, if_neg he]
        have HRR := Lib.hid hr
        have HE := Lib.hid ((Bool.not_eq_true _).mp he)
        clear hst hr he HI
        go_wp2_with fail
        refine HC.out.mono ?_
        rintro e w1 ⟨rfl, hb1⟩
        rw [HE.out]
        have HB1 := Lib.hid (HBL.out.trans (hb1.mono HBL.out.size)); clear hb1
        go_wp2
        go_roundw
        case rel => exact ⟨rfl, Or.inr trivial, k + 1, by omega, by go_num, HRR.out, HB1.out⟩
        case measure => simp [intOf]; omega
    · have hr : ixP (isV N.data.toList) vs 0 = -1 := by rw [← HI.out, ix_end (by rw [HN.out]; exact hkn)]
      have HRR := Lib.hid hr
      clear hr HI
      go_wp2
      go_ret
      exact ⟨ret_int HRR.out.symm, HBL.out⟩
end Go.Proofs.YtjjoffadieoaaaaGreatDoor
