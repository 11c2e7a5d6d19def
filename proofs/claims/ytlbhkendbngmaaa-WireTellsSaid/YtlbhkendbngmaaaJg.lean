/- Layer 16: the writer: lists of variables that become something, and of pasts. -/
import Derived.Test.YtlbhkendbngmaaaJf
import Derived.Deep.CutBlock
namespace Go.Proofs.Ytlbhkendbngmaaa.Wi
open Go.RowKit
set_option maxRecDepth 100000

set_option maxHeartbeats 4000000 in
theorem list_sets {w0 w : World} {g : Nat} {L : Bytes} {b : Bool} (h : WW w0 g L b w) (v : Value) (l : List SetM) (hv : RdS w0 v l) (hl : l.length ≤ 4611686018427387904) (hL : L.length ≤ 700000) :
    Calls Try.prog 43 #[wp_ g, .int .i64 8, v, mW 44 g] w fun e w' => e = .returned (.tuple #[]) ∧ Wrote w0 g L b (l.length ≤ 8 ∧ ∀ x ∈ l, okSet x) (someT setT l) 145 w w' := by
  obtain ⟨A, c, rfl, hr⟩ := hv
  have HR := Lib.hid hr
  have hx := (small_any h (l.length : Int) 0 8 (by omega))
  have HX := Lib.hid hx
  clear hx hr h
  unfold wp_ mW at *
  go_enter Try.func43, Try.ntmps43
  go_wp2_with fail
  refine HX.out.mono ?_
  rintro e w1 ⟨rfl, h1, hk1⟩
  have hb2 := or_false3 b ((l.length : Int) < 0) (8 < (l.length : Int))
  generalize (b || (decide ((l.length : Int) < 0) || decide (8 < (l.length : Int)))) = b1 at *
  obtain ⟨v, ⟨_, d1, _, _⟩, _, _⟩ := h1.at_
  have H1 := Lib.hid h1; have HK1 := Lib.hid hk1; have HB2 := Lib.hid hb2
  clear h1 hk1 hb2 HX
  cases b1
  · obtain ⟨hbf, hl0, hl48⟩ := HB2.out.1 rfl
    have HBF := Lib.hid hbf
    have hl9 : l.length ≤ 8 := by omega
    have hh1 : (L ++ [lowB l.length]) = L ++ intT l.length := by rw [low_int (k := 8) (by decide) ⟨by omega, by omega⟩]
    have hh2 : (L ++ [lowB l.length]).length = L.length + 1 := by simp
    have HH1 := Lib.hid hh1; have HH2 := Lib.hid hh2
    have H0 : Hid (Upto w0 g (L ++ [lowB l.length]) false okSet setT l 18 w1 0 w1) := Lib.hid (by
      have := Wrote.nil H1.out
      exact this.mono (by simp) (fun _ => by simp) (by omega))
    have HP : Hid (∀ (w : World) (L : Bytes) (b : Bool) (x : SetM), WW w0 g L b w → L.length ≤ 800000 → okW x.a → okW x.b → Calls Try.prog 44 #[.pointer (some ⟨g, 0, none⟩), .agg #[.int .i64 x.var, .int .i64 x.kd, .int .i64 x.a, .int .i64 x.b]] w fun e w' => e = .returned (.tuple #[]) ∧ Wrote w0 g L b (okSet x) (setT x) 18 w w') := Lib.hid (fun w L b x h hL ha hb => set_any h x (by omega) ha hb)
    have hgf : wp_ g = .pointer (some ⟨g, 0, none⟩) := rfl
    generalize L ++ [lowB l.length] = L1 at *
    clear hl0 hl48 hh1 hh2 hl hbf HB2
    rw [hgf]
    clear hgf
    go_wp2
    go_loopw [9, 21] (fun _ x21 wr => ∃ i : Nat, i ≤ l.length ∧ x21 = .int .i64 i ∧ Hid (Upto w0 g L1 false okSet setT l 18 w1 i wr)) (fun _ x _ => l.length - (intOf x).toNat)
    case atStart => exact ⟨0, by omega, rfl, H0⟩
    case round =>
      clear H0
      obtain ⟨i, hi, rfl, HU⟩ := hrel
      obtain ⟨W, hW⟩ : ∃ W, W = wr := ⟨_, rfl⟩
      subst hW
      by_cases hil : i < l.length
      · obtain ⟨L2, b2, k1, k2, k3, k4, k5⟩ := HU.out
        obtain ⟨B, o, rfl, hc0, hc1, hc2, hc3, ha, hb⟩ := HR.out i hil
        have d0 := (k1.below.cell (cell_lt hc0)).trans hc0
        have d1 := (k1.below.cell (cell_lt hc1)).trans hc1
        have d2 := (k1.below.cell (cell_lt hc2)).trans hc2
        have d3 := (k1.below.cell (cell_lt hc3)).trans hc3
        obtain ⟨W1, hW1⟩ : ∃ W1, W1 = W.alloc (.cells #[.int .i64 l[i].var, .int .i64 l[i].kd, .int .i64 l[i].a, .int .i64 l[i].b] 66) := ⟨_, rfl⟩
        have hb1 : Below W.heap.size W W1 := by rw [hW1]; exact (Below.refl _ _).alloc (Nat.le_refl _) _
        have hst := fun w2 (h : Wrote w0 g L2 b2 (okSet l[i]) (setT l[i]) 18 W1 w2) => Upto.step (ok := okSet) (t := setT) hil k2 k3 k4 (k5.trans (KeptU.of_below hb1)) h
        have HST := Lib.hid hst
        have hl2 : L2.length ≤ 800000 := by have := HH2.out; omega
        have HC := Lib.hid (HP.out W1 L2 b2 l[i] (k1.later hb1) hl2 ha hb)
        have HW1 := Lib.hid hW1
        clear hst k1 k2 k3 k4 k5 hc0 hc1 hc2 hc3 ha hb HU HP hb1 hW1
        go_upto_region 5 with fail
        rw [← HW1.out]
        have e0 : W1.cell? ⟨W.heap.size, 0, none⟩ = some (.int .i64 l[i].var) ∧ W1.cell? ⟨W.heap.size, 1, none⟩ = some (.int .i64 l[i].kd) ∧ W1.cell? ⟨W.heap.size, 2, none⟩ = some (.int .i64 l[i].a) ∧ W1.cell? ⟨W.heap.size, 3, none⟩ = some (.int .i64 l[i].b) := by rw [HW1.out]; simp
        obtain ⟨e0, e1, e2, e3⟩ := e0
        generalize l[i] = y at *
        generalize W.heap.size = K at *
        go_wp2_with fail
        refine HC.out.mono ?_
        rintro e w2 ⟨rfl, h2⟩
        have H2 := Lib.hid (HST.out _ h2)
        clear h2
        go_wp2
        go_roundw
        case rel => exact ⟨i + 1, by omega, by go_num, H2⟩
        case measure => simp [intOf]; omega
      · obtain rfl : i = l.length := by omega
        go_wp2
        go_end0
        refine ⟨rfl, ?_⟩
        have hf := list_done (most := 8) (k := 18) (b := b) (b1 := false) (by decide) ⟨fun _ => ⟨HBF.out, by unfold okI; omega⟩, fun _ => rfl⟩ (fun _ => HH1.out) (by rw [HH2.out]; exact Nat.le_refl _) HK1.out hl9 HU.out
        exact hf
  · go_wp2
    refine bodyPost_ret (v := .tuple #[]) (by simp [results, Try.results43, go_sem]) rfl ⟨rfl, _, true, H1.out, ?_, (fun e => by cases e), by rw [List.length_append]; simp, HK1.out⟩
    rw [HB2.out]
    constructor
    · rintro ⟨h1, h2, h3⟩; exfalso; have := HB2.out.2 ⟨h1, h2, h3⟩; cases this
    · rintro ⟨h1, h2, _⟩; exact ⟨h1, by omega, by omega⟩
set_option maxHeartbeats 4000000 in
theorem list_pasts {w0 w : World} {g : Nat} {L : Bytes} {b : Bool} (h : WW w0 g L b w) (v : Value) (l : List PastM) (hv : RdP w0 v l) (hl : l.length ≤ 4611686018427387904) (hL : L.length ≤ 700000) :
    Calls Try.prog 45 #[wp_ g, .int .i64 40, v, mW 46 g] w fun e w' => e = .returned (.tuple #[]) ∧ Wrote w0 g L b (l.length ≤ 40 ∧ ∀ x ∈ l, okPast x) (someT pastT l) 2001 w w' := by
  obtain ⟨A, c, rfl, hr⟩ := hv
  have HR := Lib.hid hr
  have hx := (small_any h (l.length : Int) 0 40 (by omega))
  have HX := Lib.hid hx
  clear hx hr h
  unfold wp_ mW at *
  go_enter Try.func45, Try.ntmps45
  go_wp2_with fail
  refine HX.out.mono ?_
  rintro e w1 ⟨rfl, h1, hk1⟩
  have hb2 := or_false3 b ((l.length : Int) < 0) (40 < (l.length : Int))
  generalize (b || (decide ((l.length : Int) < 0) || decide (40 < (l.length : Int)))) = b1 at *
  obtain ⟨v, ⟨_, d1, _, _⟩, _, _⟩ := h1.at_
  have H1 := Lib.hid h1; have HK1 := Lib.hid hk1; have HB2 := Lib.hid hb2
  clear h1 hk1 hb2 HX
  cases b1
  · obtain ⟨hbf, hl0, hl48⟩ := HB2.out.1 rfl
    have HBF := Lib.hid hbf
    have hl9 : l.length ≤ 40 := by omega
    have hh1 : (L ++ [lowB l.length]) = L ++ intT l.length := by rw [low_int (k := 40) (by decide) ⟨by omega, by omega⟩]
    have hh2 : (L ++ [lowB l.length]).length = L.length + 1 := by simp
    have HH1 := Lib.hid hh1; have HH2 := Lib.hid hh2
    have H0 : Hid (Upto w0 g (L ++ [lowB l.length]) false okPast pastT l 50 w1 0 w1) := Lib.hid (by
      have := Wrote.nil H1.out
      exact this.mono (by simp) (fun _ => by simp) (by omega))
    have HP : Hid (∀ (w : World) (L : Bytes) (b : Bool) (x : Int) (u : Value) (y : List Int), WW w0 g L b w → L.length ≤ 800000 → RdL w0 u y → y.length ≤ 4611686018427387904 → Calls Try.prog 46 #[.pointer (some ⟨g, 0, none⟩), .agg #[.int .i64 x, u]] w fun e w' => e = .returned (.tuple #[]) ∧ Wrote w0 g L b (okPast ⟨x, y⟩) (pastT ⟨x, y⟩) 50 w w') := Lib.hid (fun w L b x u y h hL ha hb => past_any h x u y ha hb hL)
    have hgf : wp_ g = .pointer (some ⟨g, 0, none⟩) := rfl
    generalize L ++ [lowB l.length] = L1 at *
    clear hl0 hl48 hh1 hh2 hl hbf HB2
    rw [hgf]
    clear hgf
    go_wp2
    go_loopw [9, 21] (fun _ x21 wr => ∃ i : Nat, i ≤ l.length ∧ x21 = .int .i64 i ∧ Hid (Upto w0 g L1 false okPast pastT l 50 w1 i wr)) (fun _ x _ => l.length - (intOf x).toNat)
    case atStart => exact ⟨0, by omega, rfl, H0⟩
    case round =>
      clear H0
      obtain ⟨i, hi, rfl, HU⟩ := hrel
      obtain ⟨W, hW⟩ : ∃ W, W = wr := ⟨_, rfl⟩
      subst hW
      by_cases hil : i < l.length
      · obtain ⟨L2, b2, k1, k2, k3, k4, k5⟩ := HU.out
        obtain ⟨B, o, u, rfl, hc0, hc1, ha, hb⟩ := HR.out i hil
        obtain ⟨A2, C2, hu, _⟩ := id ha
        subst hu
        have d0 := (k1.below.cell (cell_lt hc0)).trans hc0
        have d1 := (k1.below.cell (cell_lt hc1)).trans hc1
        obtain ⟨W1, hW1⟩ : ∃ W1, W1 = W.alloc (.cells #[.int .i64 l[i].st, .slice A2 l[i].set.length C2] 68) := ⟨_, rfl⟩
        have hb1 : Below W.heap.size W W1 := by rw [hW1]; exact (Below.refl _ _).alloc (Nat.le_refl _) _
        have hst := fun w2 (h : Wrote w0 g L2 b2 (okPast l[i]) (pastT l[i]) 50 W1 w2) => Upto.step (ok := okPast) (t := pastT) hil k2 k3 k4 (k5.trans (KeptU.of_below hb1)) h
        have HST := Lib.hid hst
        have hl2 : L2.length ≤ 800000 := by have := HH2.out; omega
        have HC := Lib.hid (HP.out W1 L2 b2 l[i].st _ l[i].set (k1.later hb1) hl2 ha hb)
        have HW1 := Lib.hid hW1
        clear hst k1 k2 k3 k4 k5 hc0 hc1 ha hb HU HP hb1 hW1
        go_upto_region 5 with fail
        rw [← HW1.out]
        have e0 : W1.cell? ⟨W.heap.size, 0, none⟩ = some (.int .i64 l[i].st) ∧ W1.cell? ⟨W.heap.size, 1, none⟩ = some (.slice A2 l[i].set.length C2) := by rw [HW1.out]; simp
        obtain ⟨e0, e1⟩ := e0
        generalize l[i] = y at *
        generalize W.heap.size = K at *
        go_wp2_with fail
        refine HC.out.mono ?_
        rintro e w2 ⟨rfl, h2⟩
        have H2 := Lib.hid (HST.out _ h2)
        clear h2
        go_wp2
        go_roundw
        case rel => exact ⟨i + 1, by omega, by go_num, H2⟩
        case measure => simp [intOf]; omega
      · obtain rfl : i = l.length := by omega
        go_wp2
        go_end0
        refine ⟨rfl, ?_⟩
        have hf := list_done (most := 40) (k := 50) (b := b) (b1 := false) (by decide) ⟨fun _ => ⟨HBF.out, by unfold okI; omega⟩, fun _ => rfl⟩ (fun _ => HH1.out) (by rw [HH2.out]; exact Nat.le_refl _) HK1.out hl9 HU.out
        exact hf
  · go_wp2
    refine bodyPost_ret (v := .tuple #[]) (by simp [results, Try.results45, go_sem]) rfl ⟨rfl, _, true, H1.out, ?_, (fun e => by cases e), by rw [List.length_append]; simp, HK1.out⟩
    rw [HB2.out]
    constructor
    · rintro ⟨h1, h2, h3⟩; exfalso; have := HB2.out.2 ⟨h1, h2, h3⟩; cases this
    · rintro ⟨h1, h2, _⟩; exact ⟨h1, by omega, by omega⟩
end Go.Proofs.Ytlbhkendbngmaaa.Wi
