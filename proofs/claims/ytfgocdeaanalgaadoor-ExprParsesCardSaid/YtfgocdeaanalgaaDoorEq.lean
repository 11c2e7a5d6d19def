/- The texts of pieces: within, between. -/
import Derived.Test.YtfgocdeaanalgaaDoorEh
import Derived.Test.YtfgocdeaanalgaaDoorDi
import Derived.Test.YtfgocdeaanalgaaDoorEo
namespace Go.Proofs.YtfgocdeaanalgaaDoor
open Go.RowKit

def inP (x : List UInt8) (st k : Int) : List UInt8 := if st < k then [40] ++ x ++ [41] else x

theorem sz0 (s : ByteArray) : s.data.toList.length = s.size := (Lib.size_eq s).symm
theorem ret_s {a b : ByteArray} (h : a = b) : Ending.returned (.string a) = .returned (.string b) := by rw [h]

theorem within_any (x : List UInt8) (st k : Int) (w : World) (hx : x.length ≤ 100000) :
    Calls Tryd.prog 30 #[.agg #[.string ⟨x.toArray⟩, .int .i64 st], .int .i64 k] w fun e w' => e = .returned (.string ⟨(inP x st k).toArray⟩) ∧ Below w.heap.size w w' := by
  obtain ⟨X, hX⟩ : ∃ X : ByteArray, (⟨x.toArray⟩ : ByteArray) = X := ⟨_, rfl⟩
  have hXs : X.size ≤ 100000 := by rw [← hX, size_list]; exact hx
  have HX := Lib.hid hX
  rw [hX]; clear hX
  by_cases h : st < k
  · have hI : inP x st k = [40] ++ x ++ [41] := by unfold inP; rw [if_pos h]
    rw [hI]; clear hI
    have h1 : ((⟨#[40]⟩ : ByteArray).size : Int) + (X.size : Int) ≤ 9223372036854775807 := by
      show ((1 : Nat) : Int) + _ ≤ _; omega
    have h2 : (((⟨#[40]⟩ : ByteArray) ++ X).size : Int) + ((⟨#[41]⟩ : ByteArray).size : Int) ≤ 9223372036854775807 := by
      rw [ByteArray.size_append]
      show ((((1 : Nat) + X.size : Nat)) : Int) + ((1 : Nat) : Int) ≤ _; omega
    go_enter Tryd.func30, Tryd.ntmps30
    go_wp2
    go_ret
    refine ⟨ret_s ?_, (Below.refl _ _).alloc (Nat.le_refl _) _⟩
    rw [← HX.out]
    show ((⟨[40].toArray⟩ : ByteArray) ++ _) ++ (⟨[41].toArray⟩ : ByteArray) = _
    rw [bytes_join, bytes_join]
    simp
  · have hI : inP x st k = x := by unfold inP; rw [if_neg h]
    rw [hI]; clear hI
    have h' := decide_eq_false h
    clear h
    go_enter Tryd.func30, Tryd.ntmps30
    go_wp2
    go_ret
    exact ⟨ret_s HX.out.symm, (Below.refl _ _).alloc (Nat.le_refl _) _⟩

/-- what stands between two pieces: by an operator's text and strength -/
def betP (ot : List UInt8) (os : Int) (l r : List UInt8 × Int) : List UInt8 × Int := (inP l.1 l.2 (if os = 3 then os + 1 else os) ++ ot ++ inP r.1 r.2 (os + 1), os)

theorem inP_len (x : List UInt8) (st k : Int) : (inP x st k).length ≤ x.length + 2 := by
  unfold inP; split
  · simp
  · omega

theorem two_at {w : World} {b : Nat} {x y : Value} {t : TypeId} (h : w.heap[b]? = some (.cells #[x, y] t (0, 0))) : w.cell? ⟨b, 0, none⟩ = some x ∧ w.cell? ⟨b, 1, none⟩ = some y ∧ w.frozen? ⟨b, 0, none⟩ = false ∧ w.frozen? ⟨b, 1, none⟩ = false :=
  ⟨(cell_of_row w b 0 _ _ _ h).trans rfl, (cell_of_row w b 1 _ _ _ h).trans rfl, frozen_of_row w b 0 _ _ h, frozen_of_row w b 1 _ _ h⟩

/-- four blocks one behind the other -/
theorem four_at (w : World) (a b c d : Obj) : Below w.heap.size w ((((w.alloc a).alloc b).alloc c).alloc d) ∧ ((((w.alloc a).alloc b).alloc c).alloc d).heap.size = w.heap.size + 4 ∧
    ((((w.alloc a).alloc b).alloc c).alloc d).heap[w.heap.size]? = some a ∧ ((((w.alloc a).alloc b).alloc c).alloc d).heap[w.heap.size + 1]? = some b ∧ ((((w.alloc a).alloc b).alloc c).alloc d).heap[w.heap.size + 1 + 1]? = some c ∧
    ((((w.alloc a).alloc b).alloc c).alloc d).heap[w.heap.size + 1 + 1 + 1]? = some d := by
  refine ⟨((((Below.refl _ _).alloc (Nat.le_refl _) _).alloc (by simp) _).alloc (by simp; omega) _).alloc (by simp; omega) _, by simp, ?_, ?_, ?_, ?_⟩
  · exact (Below.heap_alloc _ _ _ (by simp; omega)).trans ((Below.heap_alloc _ _ _ (by simp; omega)).trans ((Below.heap_alloc _ _ _ (by simp)).trans (heap_alloc_new w a)))
  · have := heap_alloc_new (w.alloc a) b
    rw [show (w.alloc a).heap.size = w.heap.size + 1 by simp] at this
    exact (Below.heap_alloc _ _ _ (by simp)).trans ((Below.heap_alloc _ _ _ (by simp)).trans this)
  · have := heap_alloc_new ((w.alloc a).alloc b) c
    rw [show ((w.alloc a).alloc b).heap.size = w.heap.size + 1 + 1 by simp] at this
    exact (Below.heap_alloc _ _ _ (by simp)).trans this
  · have := heap_alloc_new (((w.alloc a).alloc b).alloc c) d
    rw [show (((w.alloc a).alloc b).alloc c).heap.size = w.heap.size + 1 + 1 + 1 by simp] at this
    exact this

/-- what a cell holds, told by itself -/
def cur (w : World) (a : Addr) : Value := (w.cell? a).getD undef
theorem cur_of {w : World} {a : Addr} {u : Value} (h : w.cell? a = some u) : w.cell? a = some (cur w a) := by unfold cur; rw [h]; rfl

theorem bt_keep {w w1 : World} {bo N : Nat} {x1 x2 x3 x4 x5 x6 : Value} (hb : Below w.heap.size w w1) (h0 : N ≤ w.heap.size) (hN : bo + 3 < N)
    (c1 : w.cell? ⟨bo, 1, none⟩ = some x1) (c2 : w.cell? ⟨bo, 2, none⟩ = some x2) (c3 : w.cell? ⟨bo + 1, 0, none⟩ = some x3) (c4 : w.cell? ⟨bo + 1, 1, none⟩ = some x4) (c5 : w.cell? ⟨bo + 1 + 1, 0, none⟩ = some x5) (c6 : w.cell? ⟨bo + 1 + 1, 1, none⟩ = some x6)
    (s1 : w.cell? ⟨bo + 1 + 1 + 1, 0, none⟩ = some (cur w ⟨bo + 1 + 1 + 1, 0, none⟩)) (s2 : w.cell? ⟨bo + 1 + 1 + 1, 1, none⟩ = some (cur w ⟨bo + 1 + 1 + 1, 1, none⟩)) (f1 : w.frozen? ⟨bo + 1 + 1 + 1, 0, none⟩ = false) (f2 : w.frozen? ⟨bo + 1 + 1 + 1, 1, none⟩ = false) :
    N ≤ w1.heap.size ∧ w1.cell? ⟨bo, 1, none⟩ = some x1 ∧ w1.cell? ⟨bo, 2, none⟩ = some x2 ∧ w1.cell? ⟨bo + 1, 0, none⟩ = some x3 ∧ w1.cell? ⟨bo + 1, 1, none⟩ = some x4 ∧ w1.cell? ⟨bo + 1 + 1, 0, none⟩ = some x5 ∧ w1.cell? ⟨bo + 1 + 1, 1, none⟩ = some x6 ∧
      w1.cell? ⟨bo + 1 + 1 + 1, 0, none⟩ = some (cur w1 ⟨bo + 1 + 1 + 1, 0, none⟩) ∧ w1.cell? ⟨bo + 1 + 1 + 1, 1, none⟩ = some (cur w1 ⟨bo + 1 + 1 + 1, 1, none⟩) ∧ w1.frozen? ⟨bo + 1 + 1 + 1, 0, none⟩ = false ∧ w1.frozen? ⟨bo + 1 + 1 + 1, 1, none⟩ = false := by
  have k : ∀ b o, b < w.heap.size → w1.cell? ⟨b, o, none⟩ = w.cell? ⟨b, o, none⟩ := fun b o h => hb.cell (p := ⟨b, o, none⟩) h
  have f : ∀ b o, b < w.heap.size → w1.frozen? ⟨b, o, none⟩ = w.frozen? ⟨b, o, none⟩ := fun b o h => hb.frozen (p := ⟨b, o, none⟩) h
  have := hb.size
  exact ⟨by omega, (k _ _ (by omega)).trans c1, (k _ _ (by omega)).trans c2, (k _ _ (by omega)).trans c3, (k _ _ (by omega)).trans c4, (k _ _ (by omega)).trans c5, (k _ _ (by omega)).trans c6, cur_of ((k _ _ (by omega)).trans s1), cur_of ((k _ _ (by omega)).trans s2), (f _ _ (by omega)).trans f1, (f _ _ (by omega)).trans f2⟩
theorem bt_set {w : World} {bo N : Nat} {x1 x2 x3 x4 x5 x6 u v : Value} (h0 : N ≤ w.heap.size)
    (c1 : w.cell? ⟨bo, 1, none⟩ = some x1) (c2 : w.cell? ⟨bo, 2, none⟩ = some x2) (c3 : w.cell? ⟨bo + 1, 0, none⟩ = some x3) (c4 : w.cell? ⟨bo + 1, 1, none⟩ = some x4) (c5 : w.cell? ⟨bo + 1 + 1, 0, none⟩ = some x5) (c6 : w.cell? ⟨bo + 1 + 1, 1, none⟩ = some x6)
    (s1 : w.cell? ⟨bo + 1 + 1 + 1, 0, none⟩ = some (cur w ⟨bo + 1 + 1 + 1, 0, none⟩)) (s2 : w.cell? ⟨bo + 1 + 1 + 1, 1, none⟩ = some (cur w ⟨bo + 1 + 1 + 1, 1, none⟩)) (f1 : w.frozen? ⟨bo + 1 + 1 + 1, 0, none⟩ = false) (f2 : w.frozen? ⟨bo + 1 + 1 + 1, 1, none⟩ = false) :
    N ≤ ((w.setCell ⟨bo + 1 + 1 + 1, 0, none⟩ u).setCell ⟨bo + 1 + 1 + 1, 1, none⟩ v).heap.size ∧ ((w.setCell ⟨bo + 1 + 1 + 1, 0, none⟩ u).setCell ⟨bo + 1 + 1 + 1, 1, none⟩ v).cell? ⟨bo, 1, none⟩ = some x1 ∧ ((w.setCell ⟨bo + 1 + 1 + 1, 0, none⟩ u).setCell ⟨bo + 1 + 1 + 1, 1, none⟩ v).cell? ⟨bo, 2, none⟩ = some x2 ∧
      ((w.setCell ⟨bo + 1 + 1 + 1, 0, none⟩ u).setCell ⟨bo + 1 + 1 + 1, 1, none⟩ v).cell? ⟨bo + 1, 0, none⟩ = some x3 ∧ ((w.setCell ⟨bo + 1 + 1 + 1, 0, none⟩ u).setCell ⟨bo + 1 + 1 + 1, 1, none⟩ v).cell? ⟨bo + 1, 1, none⟩ = some x4 ∧
      ((w.setCell ⟨bo + 1 + 1 + 1, 0, none⟩ u).setCell ⟨bo + 1 + 1 + 1, 1, none⟩ v).cell? ⟨bo + 1 + 1, 0, none⟩ = some x5 ∧ ((w.setCell ⟨bo + 1 + 1 + 1, 0, none⟩ u).setCell ⟨bo + 1 + 1 + 1, 1, none⟩ v).cell? ⟨bo + 1 + 1, 1, none⟩ = some x6 ∧
      ((w.setCell ⟨bo + 1 + 1 + 1, 0, none⟩ u).setCell ⟨bo + 1 + 1 + 1, 1, none⟩ v).cell? ⟨bo + 1 + 1 + 1, 0, none⟩ = some (cur ((w.setCell ⟨bo + 1 + 1 + 1, 0, none⟩ u).setCell ⟨bo + 1 + 1 + 1, 1, none⟩ v) ⟨bo + 1 + 1 + 1, 0, none⟩) ∧
      ((w.setCell ⟨bo + 1 + 1 + 1, 0, none⟩ u).setCell ⟨bo + 1 + 1 + 1, 1, none⟩ v).cell? ⟨bo + 1 + 1 + 1, 1, none⟩ = some (cur ((w.setCell ⟨bo + 1 + 1 + 1, 0, none⟩ u).setCell ⟨bo + 1 + 1 + 1, 1, none⟩ v) ⟨bo + 1 + 1 + 1, 1, none⟩) ∧
      ((w.setCell ⟨bo + 1 + 1 + 1, 0, none⟩ u).setCell ⟨bo + 1 + 1 + 1, 1, none⟩ v).frozen? ⟨bo + 1 + 1 + 1, 0, none⟩ = false ∧ ((w.setCell ⟨bo + 1 + 1 + 1, 0, none⟩ u).setCell ⟨bo + 1 + 1 + 1, 1, none⟩ v).frozen? ⟨bo + 1 + 1 + 1, 1, none⟩ = false := by
  have k : ∀ b o, b ≠ bo + 1 + 1 + 1 → ((w.setCell ⟨bo + 1 + 1 + 1, 0, none⟩ u).setCell ⟨bo + 1 + 1 + 1, 1, none⟩ v).cell? ⟨b, o, none⟩ = w.cell? ⟨b, o, none⟩ := by
    intro b o h
    rw [World.cell?_setCell_other _ _ _ _ (by intro e; injection e with e; omega), World.cell?_setCell_other _ _ _ _ (by intro e; injection e with e; omega)]
  have e1 : (w.setCell ⟨bo + 1 + 1 + 1, 0, none⟩ u).cell? ⟨bo + 1 + 1 + 1, 0, none⟩ = some u := World.cell?_setCell_same _ _ _ s1
  have e2 : (w.setCell ⟨bo + 1 + 1 + 1, 0, none⟩ u).cell? ⟨bo + 1 + 1 + 1, 1, none⟩ = some (cur w ⟨bo + 1 + 1 + 1, 1, none⟩) := by
    rw [World.cell?_setCell_other _ _ _ _ (by intro e; injection e with _ e; omega)]; exact s2
  refine ⟨by simpa using h0, (k _ _ (by omega)).trans c1, (k _ _ (by omega)).trans c2, (k _ _ (by omega)).trans c3, (k _ _ (by omega)).trans c4, (k _ _ (by omega)).trans c5, (k _ _ (by omega)).trans c6, ?_, ?_, by simpa using f1, by simpa using f2⟩
  · refine cur_of (u := u) ?_
    rw [World.cell?_setCell_other _ _ _ _ (by intro e; injection e with _ e; omega)]; exact e1
  · exact cur_of (World.cell?_setCell_same _ _ _ e2)
theorem within_bytes (X : ByteArray) (st k : Int) (w : World) (hx : X.size ≤ 100000) :
    Calls Tryd.prog 30 #[.agg #[.string X, .int .i64 st], .int .i64 k] w fun e w' => e = .returned (.string ⟨(inP X.data.toList st k).toArray⟩) ∧ Below w.heap.size w w' :=
  within_any X.data.toList st k w (by rw [sz0]; exact hx)

set_option maxRecDepth 100000 in
set_option maxHeartbeats 4000000 in
theorem between_any (oi os : Int) (OT LB RB : ByteArray) (ls rs : Int) (w : World) (hot : OT.size ≤ 2) (hl : LB.size ≤ 10000) (hr : RB.size ≤ 10000) (h0 : 0 ≤ os) (h5 : os ≤ 5) :
    Calls Tryd.prog 31 #[.agg #[.int .i64 oi, .string OT, .int .i64 os], .agg #[.string LB, .int .i64 ls], .agg #[.string RB, .int .i64 rs]] w
      fun e w' => e = .returned (.agg #[.string ⟨(betP OT.data.toList os (LB.data.toList, ls) (RB.data.toList, rs)).1.toArray⟩, .int .i64 os]) ∧ Below w.heap.size w w' := by
  obtain ⟨hW, hWs, ha, hb, hc, hd⟩ := four_at w (.cells #[.int .i64 oi, .string OT, .int .i64 os] 63) (.cells #[.string LB, .int .i64 ls] 44) (.cells #[.string RB, .int .i64 rs] 44) (.cells #[.string ⟨#[]⟩, .int .i64 0] 44)
  have HW := Lib.hid hW; have HWS := Lib.hid hWs; have HA := Lib.hid ha; have HB := Lib.hid hb; have HC := Lib.hid hc; have HD := Lib.hid hd
  clear hW hWs ha hb hc hd
  have hll := inP_len LB.data.toList ls (if os = 3 then os + 1 else os)
  have hrl := inP_len RB.data.toList rs (os + 1)
  rw [sz0] at hll hrl
  have hbet : (⟨(betP OT.data.toList os (LB.data.toList, ls) (RB.data.toList, rs)).1.toArray⟩ : ByteArray) = (⟨(inP LB.data.toList ls (if os = 3 then os + 1 else os)).toArray⟩ ++ OT) ++ ⟨(inP RB.data.toList rs (os + 1)).toArray⟩ := by
    apply ByteArray.ext
    simp [betP]
  rw [hbet]
  clear hbet
  by_cases h3 : os = 3
  · subst h3
    rw [if_pos rfl] at hll ⊢
    rw [show (3 : Int) + 1 = 4 from rfl] at hll hrl ⊢
    have HCL := Lib.hid (within_bytes LB ls 4 · (by omega))
    have HCR := Lib.hid (within_bytes RB rs 4 · (by omega))
    obtain ⟨L2, hL2⟩ : ∃ L2 : ByteArray, ⟨(inP LB.data.toList ls 4).toArray⟩ = L2 := ⟨_, rfl⟩
    obtain ⟨R2, hR2⟩ : ∃ R2 : ByteArray, ⟨(inP RB.data.toList rs 4).toArray⟩ = R2 := ⟨_, rfl⟩
    rw [hL2] at HCL ⊢
    rw [hR2] at HCR ⊢
    have hls : L2.size ≤ 10002 := by rw [← hL2, size_list]; omega
    have hrs : R2.size ≤ 10002 := by rw [← hR2, size_list]; omega
    clear hL2 hR2 hll hrl
    have k1 : ∀ W : World, (Op.stringOp .add L2 OT).run Tryd.prog W = .ok (.string (L2 ++ OT)) W := fun W => run_string_add_sum (P := Tryd.prog) (w := W) L2 OT (by omega)
    have k2 : ∀ W : World, (Op.stringOp .add (L2 ++ OT) R2).run Tryd.prog W = .ok (.string (L2 ++ OT ++ R2)) W := fun W => run_string_add_sum (P := Tryd.prog) (w := W) (L2 ++ OT) R2 (by rw [ByteArray.size_append]; omega)
    clear hls hrs hot hl hr h0 h5
    go_enter Tryd.func31, Tryd.ntmps31
    go_wp2
    generalize hg : (((w.alloc (.cells #[.int .i64 oi, .string OT, .int .i64 3] 63)).alloc (.cells #[.string LB, .int .i64 ls] 44)).alloc (.cells #[.string RB, .int .i64 rs] 44)).alloc (.cells #[.string ⟨#[]⟩, .int .i64 0] 44) = W at HW HWS HA HB HC HD ⊢
    clear hg
    have hsz := HWS.out
    obtain ⟨a0, a1, a2, _, _, _⟩ := three_at HA.out
    obtain ⟨b0, b1, _, _⟩ := two_at HB.out
    obtain ⟨c0, c1, _, _⟩ := two_at HC.out
    obtain ⟨d0, d1, df0, df1⟩ := two_at HD.out
    generalize hbo : w.heap.size = bo at *
    have hWb : bo + 3 < W.heap.size := by omega
    clear hsz
    have hwr : IntKind.i64.wrap 4 = 4 := IntWalk.i64_in _ (by omega)
    have ds0 := cur_of d0
    have ds1 := cur_of d1
    clear d0 d1
    go_region_held3 (fun w' => W.heap.size ≤ w'.heap.size ∧ w'.cell? ⟨bo, 1, none⟩ = some (.string OT) ∧ w'.cell? ⟨bo, 2, none⟩ = some (.int .i64 3) ∧ w'.cell? ⟨bo + 1, 0, none⟩ = some (.string LB) ∧ w'.cell? ⟨bo + 1, 1, none⟩ = some (.int .i64 ls) ∧
        w'.cell? ⟨bo + 1 + 1, 0, none⟩ = some (.string RB) ∧ w'.cell? ⟨bo + 1 + 1, 1, none⟩ = some (.int .i64 rs) ∧ w'.cell? ⟨bo + 1 + 1 + 1, 0, none⟩ = some (cur w' ⟨bo + 1 + 1 + 1, 0, none⟩) ∧ w'.cell? ⟨bo + 1 + 1 + 1, 1, none⟩ = some (cur w' ⟨bo + 1 + 1 + 1, 1, none⟩) ∧ w'.frozen? ⟨bo + 1 + 1 + 1, 0, none⟩ = false ∧ w'.frozen? ⟨bo + 1 + 1 + 1, 1, none⟩ = false)
      (first
        | (go_split_ands; exact bt_keep hb1 (by assumption) hWb (by assumption) (by assumption) (by assumption) (by assumption) (by assumption) (by assumption) (by assumption) (by assumption) (by assumption) (by assumption))
        | (go_split_ands; exact bt_set (by assumption) (by assumption) (by assumption) (by assumption) (by assumption) (by assumption) (by assumption) (by assumption) (by assumption) (by assumption) (by assumption))
        | (go_split_ands; exact ⟨Nat.le_refl _, by assumption, by assumption, by assumption, by assumption, by assumption, by assumption, by assumption, by assumption, by assumption, by assumption⟩)
        | go_keep)
      ((first | (go_at_call 30; (with_reducible refine (HCL.out _).mono ?_); rintro e w1 ⟨rfl, hb1⟩) | (go_at_call 30; (with_reducible refine (HCR.out _).mono ?_); rintro e w1 ⟨rfl, hb1⟩)))
    all_goals
      go_wp2
      have hA := ‹Below W.drew.heap.size W.drew _›
      have hDW : W.drew.heap[bo + 1 + 1 + 1]? = some (.cells #[.string ⟨#[]⟩, .int .i64 0] 44 (0, 0)) := HD.out
      have hlw : bo + 1 + 1 + 1 < W.drew.heap.size := lt_of_block hDW
      have hD1 := (hA.block _ hlw).trans hDW
      have hD2 := (hb1.block _ (lt_of_block hD1)).trans hD1
      have hD3 := heap_setCell_same _ _ 0 _ _ (.string (L2 ++ OT ++ R2)) hD2
      have hD4 := heap_setCell_same _ _ 1 _ _ (.int .i64 3) hD3
      obtain ⟨r0, r1, _, _⟩ := two_at (x := .string (L2 ++ OT ++ R2)) (y := .int .i64 3) hD4
      have hsA := hA.size
      have hsW : bo ≤ W.drew.heap.size := by omega
      have hBB : Below bo w ((w1.setCell ⟨bo + 1 + 1 + 1, 0, none⟩ (.string (L2 ++ OT ++ R2))).setCell ⟨bo + 1 + 1 + 1, 1, none⟩ (.int .i64 3)) :=
        (((HW.out.drew.trans (hA.mono hsW)).trans (hb1.mono (by omega))).setCell (by simp; omega) _).setCell (by simp; omega) _
      exact bodyPost_ret (v := .agg #[.string (L2 ++ OT ++ R2), .int .i64 3]) (by simp [results, Tryd.results31, go_sem, r0, r1]) rfl ⟨rfl, by rw [hbo]; exact hBB⟩
  · have t3 := int_ne h3
    rw [if_neg h3] at hll ⊢
    clear h3
    have HCL := Lib.hid (within_bytes LB ls os · (by omega))
    have HCR := Lib.hid (within_bytes RB rs (os + 1) · (by omega))
    obtain ⟨L2, hL2⟩ : ∃ L2 : ByteArray, ⟨(inP LB.data.toList ls os).toArray⟩ = L2 := ⟨_, rfl⟩
    obtain ⟨R2, hR2⟩ : ∃ R2 : ByteArray, ⟨(inP RB.data.toList rs (os + 1)).toArray⟩ = R2 := ⟨_, rfl⟩
    rw [hL2] at HCL ⊢
    rw [hR2] at HCR ⊢
    have hls : L2.size ≤ 10002 := by rw [← hL2, size_list]; omega
    have hrs : R2.size ≤ 10002 := by rw [← hR2, size_list]; omega
    clear hL2 hR2 hll hrl
    have k1 : ∀ W : World, (Op.stringOp .add L2 OT).run Tryd.prog W = .ok (.string (L2 ++ OT)) W := fun W => run_string_add_sum (P := Tryd.prog) (w := W) L2 OT (by omega)
    have k2 : ∀ W : World, (Op.stringOp .add (L2 ++ OT) R2).run Tryd.prog W = .ok (.string (L2 ++ OT ++ R2)) W := fun W => run_string_add_sum (P := Tryd.prog) (w := W) (L2 ++ OT) R2 (by rw [ByteArray.size_append]; omega)
    clear hls hrs hot hl hr
    go_enter Tryd.func31, Tryd.ntmps31
    go_wp2
    generalize hg : (((w.alloc (.cells #[.int .i64 oi, .string OT, .int .i64 os] 63)).alloc (.cells #[.string LB, .int .i64 ls] 44)).alloc (.cells #[.string RB, .int .i64 rs] 44)).alloc (.cells #[.string ⟨#[]⟩, .int .i64 0] 44) = W at HW HWS HA HB HC HD ⊢
    clear hg
    have hsz := HWS.out
    obtain ⟨a0, a1, a2, _, _, _⟩ := three_at HA.out
    obtain ⟨b0, b1, _, _⟩ := two_at HB.out
    obtain ⟨c0, c1, _, _⟩ := two_at HC.out
    obtain ⟨d0, d1, df0, df1⟩ := two_at HD.out
    generalize hbo : w.heap.size = bo at *
    have hWb : bo + 3 < W.heap.size := by omega
    clear hsz
    have ds0 := cur_of d0
    have ds1 := cur_of d1
    clear d0 d1
    have hwr : IntKind.i64.wrap (os + 1) = os + 1 := IntWalk.i64_in _ (by omega)
    go_region_held3 (fun w' => W.heap.size ≤ w'.heap.size ∧ w'.cell? ⟨bo, 1, none⟩ = some (.string OT) ∧ w'.cell? ⟨bo, 2, none⟩ = some (.int .i64 os) ∧ w'.cell? ⟨bo + 1, 0, none⟩ = some (.string LB) ∧ w'.cell? ⟨bo + 1, 1, none⟩ = some (.int .i64 ls) ∧
        w'.cell? ⟨bo + 1 + 1, 0, none⟩ = some (.string RB) ∧ w'.cell? ⟨bo + 1 + 1, 1, none⟩ = some (.int .i64 rs) ∧ w'.cell? ⟨bo + 1 + 1 + 1, 0, none⟩ = some (cur w' ⟨bo + 1 + 1 + 1, 0, none⟩) ∧ w'.cell? ⟨bo + 1 + 1 + 1, 1, none⟩ = some (cur w' ⟨bo + 1 + 1 + 1, 1, none⟩) ∧ w'.frozen? ⟨bo + 1 + 1 + 1, 0, none⟩ = false ∧ w'.frozen? ⟨bo + 1 + 1 + 1, 1, none⟩ = false)
      (first
        | (go_split_ands; exact bt_keep hb1 (by assumption) hWb (by assumption) (by assumption) (by assumption) (by assumption) (by assumption) (by assumption) (by assumption) (by assumption) (by assumption) (by assumption))
        | (go_split_ands; exact bt_set (by assumption) (by assumption) (by assumption) (by assumption) (by assumption) (by assumption) (by assumption) (by assumption) (by assumption) (by assumption) (by assumption))
        | (go_split_ands; exact ⟨Nat.le_refl _, by assumption, by assumption, by assumption, by assumption, by assumption, by assumption, by assumption, by assumption, by assumption, by assumption⟩)
        | go_keep)
      ((first | (go_at_call 30; (with_reducible refine (HCL.out _).mono ?_); rintro e w1 ⟨rfl, hb1⟩) | (go_at_call 30; (with_reducible refine (HCR.out _).mono ?_); rintro e w1 ⟨rfl, hb1⟩)))
    all_goals
      go_wp2
      have hA := ‹Below W.drew.heap.size W.drew _›
      have hDW : W.drew.heap[bo + 1 + 1 + 1]? = some (.cells #[.string ⟨#[]⟩, .int .i64 0] 44 (0, 0)) := HD.out
      have hlw : bo + 1 + 1 + 1 < W.drew.heap.size := lt_of_block hDW
      have hD1 := (hA.block _ hlw).trans hDW
      have hD2 := (hb1.block _ (lt_of_block hD1)).trans hD1
      have hD3 := heap_setCell_same _ _ 0 _ _ (.string (L2 ++ OT ++ R2)) hD2
      have hD4 := heap_setCell_same _ _ 1 _ _ (.int .i64 os) hD3
      obtain ⟨r0, r1, _, _⟩ := two_at (x := .string (L2 ++ OT ++ R2)) (y := .int .i64 os) hD4
      have hsA := hA.size
      have hsW : bo ≤ W.drew.heap.size := by omega
      have hBB : Below bo w ((w1.setCell ⟨bo + 1 + 1 + 1, 0, none⟩ (.string (L2 ++ OT ++ R2))).setCell ⟨bo + 1 + 1 + 1, 1, none⟩ (.int .i64 os)) :=
        (((HW.out.drew.trans (hA.mono hsW)).trans (hb1.mono (by omega))).setCell (by simp; omega) _).setCell (by simp; omega) _
      exact bodyPost_ret (v := .agg #[.string (L2 ++ OT ++ R2), .int .i64 os]) (by simp [results, Tryd.results31, go_sem, r0, r1]) rfl ⟨rfl, by rw [hbo]; exact hBB⟩
end Go.Proofs.YtfgocdeaanalgaaDoor
