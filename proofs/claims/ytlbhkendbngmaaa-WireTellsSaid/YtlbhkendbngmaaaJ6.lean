/- Layer 16: the document's comparison of like messages. -/
import Derived.Test.YtlbhkendbngmaaaJi
import Derived.Deep.QuietTactic
import Derived.BigQuiet
import Derived.Laws.StructEq
namespace Go.Proofs.Ytlbhkendbngmaaa.Wi
open Go.RowKit
set_option maxRecDepth 100000

theorem RdL.drewN {w : World} {v : Value} {l : List Int} (h : RdL w v l) (n : Nat) : RdL (w.drewN n) v l := h
theorem RdS.drewN {w : World} {v : Value} {l : List SetM} (h : RdS w v l) (n : Nat) : RdS (w.drewN n) v l := h
theorem RdP.drewN {w : World} {v : Value} {l : List PastM} (h : RdP w v l) (n : Nat) : RdP (w.drewN n) v l := h
set_option maxHeartbeats 1600000 in
theorem refSameI_any (v u : Value) (l : List Int) (w : World) (hv : RdL w v l) (hu : RdL w u l) (hl : l.length ≤ 4611686018427387904) :
    Calls Try.prog 26 #[v, u] w fun e w' => e = .returned (.bool true) ∧ ∃ n, w' = w.drewN n := by
  obtain ⟨A, c, rfl, ha⟩ := hv
  obtain ⟨B, d, rfl, hb⟩ := hu
  have HA := Lib.hid ha; have HB := Lib.hid hb
  obtain ⟨n, hn⟩ : ∃ n, l.length = n := ⟨_, rfl⟩
  have HN := Lib.hid hn
  rw [hn] at hl ⊢
  clear ha hb hn
  go_enter Try.func26, Try.ntmps26
  go_wp2
  go_loopw [5] (fun x5 wr => ∃ i m : Nat, i ≤ n ∧ x5 = .int .i64 i ∧ wr = w.drewN m) (fun x _ => n - (intOf x).toNat)
  case atStart => exact ⟨0, 0, by omega, rfl, rfl⟩
  case round =>
    obtain ⟨i, m, hi, rfl, rfl⟩ := hrel
    by_cases hin : i < n
    · have hil : i < l.length := by rw [HN.out]; exact hin
      obtain ⟨b1, o1, rfl, h1⟩ := HA.out i hil
      obtain ⟨b2, o2, rfl, h2⟩ := HB.out i hil
      have hini : (i : Int) < (n : Int) := by omega
      generalize l[i] = y at *
      go_wp2
      go_quiet (fail)
      go_wp2
      go_roundw
      case rel => exact ⟨i + 1, m + nq, by omega, by go_num, rfl⟩
      case measure => simp [intOf]; omega
    · obtain rfl : i = n := by omega
      go_wp2
      go_ret
      exact ⟨rfl, m, rfl⟩
theorem neq_set (x : SetM) (w : World) : (binOp .neq 66 (.agg #[.int .i64 x.var, .int .i64 x.kd, .int .i64 x.a, .int .i64 x.b]) (.agg #[.int .i64 x.var, .int .i64 x.kd, .int .i64 x.a, .int .i64 x.b])).run Try.prog w = .ok (.bool false) w := by
  have u3 := Try.underlying3; have a3 := Try.isAgg3; have z3 := Try.sizeOf3
  have u4 := Try.underlying2; have a4 := Try.isAgg2; have z4 := Try.sizeOf2
  have a8 := Try.isAgg64; have z8 := Try.sizeOf64
  have hS : Try.prog.underlying 66 = some (.struct (Try.prog.fieldsOf 66)) := by kernel_rfl
  have hp : Try.prog.stoodInHeld 66 = false := by kernel_rfl
  have hS8 : Try.prog.underlying 64 = some (.struct (Try.prog.fieldsOf 64)) := by kernel_rfl
  have hp8 : Try.prog.stoodInHeld 64 = false := by kernel_rfl
  have inner : ∀ d w, (Op.equalIn (d + 1) 64 (.agg #[.int .i64 x.kd, .int .i64 x.a, .int .i64 x.b]) (.agg #[.int .i64 x.kd, .int .i64 x.a, .int .i64 x.b])).run Try.prog w = (Op.eqFields d #[.int .i64 x.kd, .int .i64 x.a, .int .i64 x.b] #[.int .i64 x.kd, .int .i64 x.a, .int .i64 x.b] (Try.prog.fieldsOf 64).toList).run Try.prog w := fun d w => run_equalIn_agg w d _ _ _ hS8 hp8
  rw [run_neq_struct, show (10000 : Nat) = 9997 + 1 + 1 + 1 from rfl, run_equalIn_agg w _ 66 _ _ hS hp]
  simp only [Program.fieldsOf, Try.underlying66]
  simp only [Program.fieldsOf, Try.underlying64] at inner
  go_simp
theorem quiet_ons {P : Program} {f : FuncId} {args : Array Value} {w : World} {a n : Nat} {v : Value} (h : Calls P f args (w.drewN (a + n)) fun e w' => e = .returned v ∧ ∃ r, w' = (w.drewN (a + n)).drewN r) :
    Calls P f args (w.drewN (a + n)) fun e w'' => e = .returned v ∧ ∃ m, w'' = w.drewN (a + m) := h.mono fun _ _ ⟨he, r, hr⟩ => ⟨he, n + r, by rw [hr, World.drewN_drewN, Nat.add_assoc]⟩
set_option maxHeartbeats 1600000 in
theorem refSameP_any (v u : Value) (l : List PastM) (w : World) (hv : RdP w v l) (hu : RdP w u l) (hl : l.length ≤ 4611686018427387904) :
    Calls Try.prog 27 #[v, u] w fun e w' => e = .returned (.bool true) ∧ ∃ n, w' = w.drewN n := by
  obtain ⟨A, c, rfl, ha⟩ := hv
  obtain ⟨B, d, rfl, hb⟩ := hu
  have HA := Lib.hid ha; have HB := Lib.hid hb
  obtain ⟨n, hn⟩ : ∃ n, l.length = n := ⟨_, rfl⟩
  have HN := Lib.hid hn
  rw [hn] at hl ⊢
  clear ha hb hn
  go_enter Try.func27, Try.ntmps27
  go_wp2
  go_loopw [5] (fun x5 wr => ∃ i m : Nat, i ≤ n ∧ x5 = .int .i64 i ∧ wr = w.drewN m) (fun x _ => n - (intOf x).toNat)
  case atStart => exact ⟨0, 0, by omega, rfl, rfl⟩
  case round =>
    obtain ⟨i, m, hi, rfl, rfl⟩ := hrel
    by_cases hin : i < n
    · have hil : i < l.length := by rw [HN.out]; exact hin
      obtain ⟨b1, o1, u1, rfl, h1, g1, r1, _⟩ := HA.out i hil
      obtain ⟨b2, o2, u2, rfl, h2, g2, r2, hs⟩ := HB.out i hil
      obtain ⟨A1, c1, e1⟩ := r1.form
      obtain ⟨A2, c2, e2⟩ := r2.form
      have HC := Lib.hid (fun W (k1 : RdL W u1 l[i].set) (k2 : RdL W u2 l[i].set) => refSameI_any u1 u2 l[i].set W k1 k2 hs)
      have HR1 := Lib.hid (fun k => r1.drewN k); have HR2 := Lib.hid (fun k => r2.drewN k)
      subst e1 e2
      have hini : (i : Int) < (n : Int) := by omega
      generalize l[i] = y at *
      clear r1 r2 hs
      go_wp2
      go_quiet ((go_at_call 26; exact quiet_ons (HC.out _ (HR1.out _) (HR2.out _))))
      go_wp2
      go_roundw
      case rel => exact ⟨i + 1, _, by omega, by go_num, rfl⟩
      case measure => simp [intOf]; omega
    · obtain rfl : i = n := by omega
      go_wp2
      go_ret
      exact ⟨rfl, m, rfl⟩
theorem MsgIn.drewN {w : World} {m : MsgM} {ev : ByteArray} {t s n v st ps : Value} (h : MsgIn w m ev t s n v st ps) (k : Nat) : MsgIn (w.drewN k) m ev t s n v st ps :=
  ⟨h.evd, h.evl, h.step, h.tr.drewN k, h.ss.drewN k, h.en.drewN k, h.vs.drewN k, h.sets.drewN k, h.pasts.drewN k, h.ltr, h.lss, h.len, h.lvs, h.lst, h.lps⟩
set_option maxHeartbeats 4000000 in
theorem refSame_any (w : World) (m : MsgM) (ev : ByteArray) (t s n v st ps t' s' n' v' st' ps' : Value) (hm : MsgIn w m ev t s n v st ps) (hm' : MsgIn w m ev t' s' n' v' st' ps') :
    Calls Try.prog 14 #[msgV m ev t s n v st ps, msgV m ev t' s' n' v' st' ps'] w fun e w' => e = .returned (.bool true) ∧ Below w.heap.size w w' := by
  obtain ⟨A3, C3, rfl⟩ := hm.tr.form
  obtain ⟨B3, D3, rfl⟩ := hm'.tr.form
  obtain ⟨A4, C4, rfl⟩ := hm.ss.form
  obtain ⟨B4, D4, rfl⟩ := hm'.ss.form
  obtain ⟨A5, C5, rfl⟩ := hm.en.form
  obtain ⟨B5, D5, rfl⟩ := hm'.en.form
  obtain ⟨A6, C6, rfl⟩ := hm.vs.form
  obtain ⟨B6, D6, rfl⟩ := hm'.vs.form
  obtain ⟨A7, C7, rfl⟩ := hm.sets.form
  obtain ⟨B7, D7, rfl⟩ := hm'.sets.form
  obtain ⟨A8, C8, rfl⟩ := hm.pasts.form
  obtain ⟨B8, D8, rfl⟩ := hm'.pasts.form
  unfold msgV
  obtain ⟨w1, hw1⟩ : ∃ W, W = w.alloc (.cells #[.int .i64 m.kd, .int .u64 m.step, .string ev, .slice A3 m.tr.length C3, .slice A4 m.ss.length C4, .slice A5 m.en.length C5, .slice A6 m.vs.length C6, .slice A7 m.sets.length C7, .slice A8 m.pasts.length C8] 27) := ⟨_, rfl⟩
  obtain ⟨w2, hw2⟩ : ∃ W, W = w1.alloc (.cells #[.int .i64 m.kd, .int .u64 m.step, .string ev, .slice B3 m.tr.length D3, .slice B4 m.ss.length D4, .slice B5 m.en.length D5, .slice B6 m.vs.length D6, .slice B7 m.sets.length D7, .slice B8 m.pasts.length D8] 27) := ⟨_, rfl⟩
  have hs1 : w1.heap.size = w.heap.size + 1 := by rw [hw1]; simp
  have hb1 : Below w.heap.size w w1 := by rw [hw1]; exact (Below.refl _ _).alloc (Nat.le_refl _) _
  have hb2 : Below w1.heap.size w1 w2 := by rw [hw2]; exact (Below.refl _ _).alloc (Nat.le_refl _) _
  have hb : Below w.heap.size w w2 := hb1.trans (hb2.mono (by omega))
  have hrd : ∀ j x, #[.int .i64 m.kd, .int .u64 m.step, .string ev, .slice A3 m.tr.length C3, .slice A4 m.ss.length C4, .slice A5 m.en.length C5, .slice A6 m.vs.length C6, .slice A7 m.sets.length C7, .slice A8 m.pasts.length C8][j]? = some x → w2.cell? ⟨w.heap.size, j, none⟩ = some x := fun j x hx =>
    (cell_of_row w2 _ j _ _ _ ((hb2.block _ (by omega)).trans ((congrArg (fun W => W.heap[w.heap.size]?) hw1).trans (heap_alloc_new w _)))).trans hx
  have hrd2 : ∀ j x, #[.int .i64 m.kd, .int .u64 m.step, .string ev, .slice B3 m.tr.length D3, .slice B4 m.ss.length D4, .slice B5 m.en.length D5, .slice B6 m.vs.length D6, .slice B7 m.sets.length D7, .slice B8 m.pasts.length D8][j]? = some x → w2.cell? ⟨w.heap.size + 1, j, none⟩ = some x := fun j x hx => by
    rw [← hs1]
    exact (cell_of_row w2 _ j _ _ _ ((congrArg (fun W => W.heap[w1.heap.size]?) hw2).trans (heap_alloc_new w1 _))).trans hx
  have q0 : w2.cell? ⟨w.heap.size, 0, none⟩ = some (.int .i64 m.kd) := hrd 0 _ rfl
  have p0 : w2.cell? ⟨w.heap.size + 1, 0, none⟩ = some (.int .i64 m.kd) := hrd2 0 _ rfl
  have q1 : w2.cell? ⟨w.heap.size, 1, none⟩ = some (.int .u64 m.step) := hrd 1 _ rfl
  have p1 : w2.cell? ⟨w.heap.size + 1, 1, none⟩ = some (.int .u64 m.step) := hrd2 1 _ rfl
  have q2 : w2.cell? ⟨w.heap.size, 2, none⟩ = some (.string ev) := hrd 2 _ rfl
  have p2 : w2.cell? ⟨w.heap.size + 1, 2, none⟩ = some (.string ev) := hrd2 2 _ rfl
  have q3 : w2.cell? ⟨w.heap.size, 3, none⟩ = some (.slice A3 m.tr.length C3) := hrd 3 _ rfl
  have p3 : w2.cell? ⟨w.heap.size + 1, 3, none⟩ = some (.slice B3 m.tr.length D3) := hrd2 3 _ rfl
  have q4 : w2.cell? ⟨w.heap.size, 4, none⟩ = some (.slice A4 m.ss.length C4) := hrd 4 _ rfl
  have p4 : w2.cell? ⟨w.heap.size + 1, 4, none⟩ = some (.slice B4 m.ss.length D4) := hrd2 4 _ rfl
  have q5 : w2.cell? ⟨w.heap.size, 5, none⟩ = some (.slice A5 m.en.length C5) := hrd 5 _ rfl
  have p5 : w2.cell? ⟨w.heap.size + 1, 5, none⟩ = some (.slice B5 m.en.length D5) := hrd2 5 _ rfl
  have q6 : w2.cell? ⟨w.heap.size, 6, none⟩ = some (.slice A6 m.vs.length C6) := hrd 6 _ rfl
  have p6 : w2.cell? ⟨w.heap.size + 1, 6, none⟩ = some (.slice B6 m.vs.length D6) := hrd2 6 _ rfl
  have q7 : w2.cell? ⟨w.heap.size, 7, none⟩ = some (.slice A7 m.sets.length C7) := hrd 7 _ rfl
  have p7 : w2.cell? ⟨w.heap.size + 1, 7, none⟩ = some (.slice B7 m.sets.length D7) := hrd2 7 _ rfl
  have q8 : w2.cell? ⟨w.heap.size, 8, none⟩ = some (.slice A8 m.pasts.length C8) := hrd 8 _ rfl
  have p8 : w2.cell? ⟨w.heap.size + 1, 8, none⟩ = some (.slice B8 m.pasts.length D8) := hrd2 8 _ rfl
  have HM := Lib.hid (hm.below hb); have HM' := Lib.hid (hm'.below hb)
  have HW1 := Lib.hid hw1; have HW2 := Lib.hid hw2; have HB := Lib.hid hb; have HS1 := Lib.hid hs1
  have hlst := hm.lst
  clear hrd hrd2 hb1 hb2 hb hw1 hw2 hs1 hm hm'
  generalize hK : w.heap.size = K at *
  go_enter Try.func14, Try.ntmps14
  go_upto_region 1 with fail
  rw [← HW1.out, ← HW2.out]
  have hz1 : (m.kd == m.kd) = true := by simp
  have hz2 : (((m.step : Nat) : Int) == ((m.step : Nat) : Int)) = true := by simp
  have hz3 : (ev.toList == ev.toList) = true := by simp
  have hz4 : ((m.sets.length : Int) == (m.sets.length : Int)) = true := by simp
  have hy1 : (m.kd != m.kd) = false := by simp
  have hy2 : (((m.step : Nat) : Int) != ((m.step : Nat) : Int)) = false := by simp
  have hy3 : (ev.toList != ev.toList) = false := by simp
  have hy4 : ((m.sets.length : Int) != (m.sets.length : Int)) = false := by simp
  go_wp2
  go_loopw [5] (fun x5 wr => ∃ i k : Nat, i ≤ m.sets.length ∧ x5 = .int .i64 i ∧ wr = w2.drewN k) (fun x _ => m.sets.length - (intOf x).toNat)
  case atStart => exact ⟨0, 0, by omega, rfl, rfl⟩
  case round =>
    obtain ⟨i, k, hi, rfl, rfl⟩ := hrel
    by_cases hin : i < m.sets.length
    · obtain ⟨ca, cc, e1, r1⟩ := HM.out.sets
      obtain ⟨cb, cd, e2, r2⟩ := HM'.out.sets
      injection e1 with e11 _ e13
      injection e2 with e21 _ e23
      subst e13 e23
      obtain ⟨b1, o1, h0, h1, h2, h3, h4, _⟩ := r1 i hin
      obtain ⟨b2, o2, g0, g1, g2, g3, g4, _⟩ := r2 i hin
      obtain rfl := e11.trans h0
      obtain rfl := e21.trans g0
      have hini : (i : Int) < (m.sets.length : Int) := by omega
      have hq := fun w => neq_set m.sets[i] w
      have HQ := Lib.hid hq
      generalize m.sets[i] = y at *
      clear r1 r2 e11 e21 h0 g0
      go_wp2
      go_quiet (fail)
      go_wp2
      go_roundw
      case rel => exact ⟨i + 1, k + nq, by omega, by go_num, rfl⟩
      case measure => simp [intOf]; omega
    · obtain rfl : i = m.sets.length := by omega
      have HC1 := Lib.hid (fun k => refSameI_any _ _ m.tr (w2.drewN k) (HM.out.tr.drewN k) (HM'.out.tr.drewN k) HM.out.ltr)
      have HC2 := Lib.hid (fun k => refSameI_any _ _ m.ss (w2.drewN k) (HM.out.ss.drewN k) (HM'.out.ss.drewN k) HM.out.lss)
      have HC3 := Lib.hid (fun k => refSameI_any _ _ m.en (w2.drewN k) (HM.out.en.drewN k) (HM'.out.en.drewN k) HM.out.len)
      have HC4 := Lib.hid (fun k => refSameI_any _ _ m.vs (w2.drewN k) (HM.out.vs.drewN k) (HM'.out.vs.drewN k) HM.out.lvs)
      have HC5 := Lib.hid (fun k => refSameP_any _ _ m.pasts (w2.drewN k) (HM.out.pasts.drewN k) (HM'.out.pasts.drewN k) HM.out.lps)
      go_wp2_with fail
      refine (HC1.out _).mono ?_
      rintro e w3 ⟨rfl, k1, rfl⟩
      go_wp2_with fail
      refine (HC2.out _).mono ?_
      rintro e w3 ⟨rfl, k2, rfl⟩
      go_wp2_with fail
      refine (HC3.out _).mono ?_
      rintro e w3 ⟨rfl, k3, rfl⟩
      go_wp2_with fail
      refine (HC4.out _).mono ?_
      rintro e w3 ⟨rfl, k4, rfl⟩
      go_wp2_with fail
      refine (HC5.out _).mono ?_
      rintro e w3 ⟨rfl, k5, rfl⟩
      go_wp2
      go_ret
      exact ⟨rfl, below_drewN HB.out _⟩
end Go.Proofs.Ytlbhkendbngmaaa.Wi
