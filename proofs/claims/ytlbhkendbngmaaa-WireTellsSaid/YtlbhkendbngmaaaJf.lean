/- Layer 16: the writer: what a variable becomes, a past. -/
import Derived.Test.YtlbhkendbngmaaaJe
namespace Go.Proofs.Ytlbhkendbngmaaa.Wi
open Go.RowKit
set_option maxRecDepth 100000

theorem small_w {w0 w : World} {g : Nat} {L : Bytes} {b : Bool} (h : WW w0 g L b w) (n lo : Int) (hi : Nat) (hlo : 0 ≤ lo) (hhi : hi < 256) (hL : L.length ≤ 1000000) :
    Calls Try.prog 33 #[wp_ g, .int .i64 n, .int .i64 lo, .int .i64 hi] w fun e w' => e = .returned (.tuple #[]) ∧ Wrote w0 g L b (lo ≤ n ∧ n ≤ hi) (intT n) 1 w w' :=
  (small_any h n lo hi hL).mono fun e w' hh => ⟨hh.1, _, _, hh.2.1, by rw [or_false3]; constructor <;> (intro k; exact ⟨k.1, by omega⟩), fun e => by
    rw [or_false3] at e
    rw [low_int (k := hi) hhi (by unfold okI; omega)], by rw [List.length_append]; exact Nat.le_refl _, hh.2.2⟩
theorem num_w {w0 w : World} {g : Nat} {L : Bytes} {b : Bool} (h : WW w0 g L b w) (n : Nat) (hL : L.length ≤ 1000000) :
    Calls Try.prog 34 #[wp_ g, .int .u64 n] w fun e w' => e = .returned (.tuple #[]) ∧ Wrote w0 g L b True (leN 8 n) 8 w w' :=
  (eight_any h n hL).mono fun e w' hh => ⟨hh.1, _, _, hh.2.1, by simp, fun _ => rfl, by rw [List.length_append, leN_len]; exact Nat.le_refl _, hh.2.2⟩
def setV (x : SetM) : List Value := [.int .i64 x.var, .int .i64 x.kd, .int .i64 x.a, .int .i64 x.b]
theorem wide_nat (a : Int) : ((wideN a : Nat) : Int) = a % 18446744073709551616 := by unfold wideN; omega
set_option maxHeartbeats 400000 in
theorem set_any {w0 w : World} {g : Nat} {L : Bytes} {b : Bool} (h : WW w0 g L b w) (x : SetM) (hL : L.length ≤ 900000) (ha : okW x.a) (hb : okW x.b) :
    Calls Try.prog 44 #[wp_ g, .agg (setV x).toArray] w fun e w' => e = .returned (.tuple #[]) ∧ Wrote w0 g L b (okSet x) (setT x) 18 w w' := by
  obtain ⟨x1, x2, x3, x4⟩ := x
  unfold setV
  have hgl := h.lt
  obtain ⟨w1, hw1⟩ : ∃ W, W = w.alloc (.cells #[.int .i64 x1, .int .i64 x2, .int .i64 x3, .int .i64 x4] 66) := ⟨_, rfl⟩
  have hb1 : Below w.heap.size w w1 := by rw [hw1]; exact (Below.refl _ _).alloc (Nat.le_refl _) _
  have h1 := h.later hb1
  have hn : w1.heap[w.heap.size]? = some (.cells #[.int .i64 x1, .int .i64 x2, .int .i64 x3, .int .i64 x4] 66 (0, 0)) := by rw [hw1]; exact heap_alloc_new w _
  have hk1 : KeptU g w w1 := KeptU.of_below hb1
  have HW1 := Lib.hid hw1
  obtain ⟨k, hk⟩ : ∃ k, k = w.heap.size := ⟨_, rfl⟩
  have HK := Lib.hid hk
  rw [← hk] at hn
  have hkg : k ≠ g := by omega
  have hcell : ∀ W, KeptU g w1 W → W.cell? ⟨k, 0, none⟩ = some (.int .i64 x1) ∧ W.cell? ⟨k, 1, none⟩ = some (.int .i64 x2) ∧ W.cell? ⟨k, 2, none⟩ = some (.int .i64 x3) ∧ W.cell? ⟨k, 3, none⟩ = some (.int .i64 x4) := fun W hW => by
    have := hW k _ _ _ hkg (by decide) hn
    exact ⟨(cell_of_row W k 0 _ _ _ this).trans rfl, (cell_of_row W k 1 _ _ _ this).trans rfl, (cell_of_row W k 2 _ _ _ this).trans rfl, (cell_of_row W k 3 _ _ _ this).trans rfl⟩
  have HC := Lib.hid hcell
  have H1 := Lib.hid h1; have HK1 := Lib.hid hk1
  have hx3 : IntKind.u64.wrap x3 = ((wideN x3 : Nat) : Int) := by rw [wide_nat]; simp [IntKind.wrap, IntKind.bits, IntKind.signed]
  have hx4 : IntKind.u64.wrap x4 = ((wideN x4 : Nat) : Int) := by rw [wide_nat]; simp [IntKind.wrap, IntKind.bits, IntKind.signed]
  have HT : Hid (setT ⟨x1, x2, x3, x4⟩ = intT x1 ++ (intT x2 ++ (leN 8 (wideN x3) ++ leN 8 (wideN x4)))) := rfl
  clear hcell hn hk h hb1 h1 hk1 hw1
  unfold wp_
  go_enter Try.func44, Try.ntmps44
  go_upto_region 1 with fail
  rw [← HW1.out, ← HK.out]
  obtain ⟨c0, _, _, _⟩ := HC.out w1 (KeptU.refl _ _)
  go_wp2_with fail
  refine (place_w H1.out x1 (by omega)).mono ?_
  rintro e w2 ⟨rfl, L2, b2, h2, e2, t2, l2, k2⟩
  have H2 := Lib.hid h2; have E2 := Lib.hid e2; have T2 := Lib.hid t2; have K2 := Lib.hid k2
  clear c0 h2 e2 t2 k2
  obtain ⟨_, c1, _, _⟩ := HC.out w2 K2.out
  go_wp2_with fail
  refine (small_w H2.out x2 1 3 (by decide) (by decide) (by omega)).mono ?_
  rintro e w3 ⟨rfl, L3, b3, h3, e3, t3, l3, k3⟩
  have H3 := Lib.hid h3; have E3 := Lib.hid e3; have T3 := Lib.hid t3; have K3 := Lib.hid k3
  clear c1 h3 e3 t3 k3
  obtain ⟨_, _, c2, _⟩ := HC.out w3 (K2.out.trans K3.out)
  go_wp2_with fail
  refine (num_w H3.out (wideN x3) (by omega)).mono ?_
  rintro e w4 ⟨rfl, L4, b4, h4, e4, t4, l4, k4⟩
  have H4 := Lib.hid h4; have E4 := Lib.hid e4; have T4 := Lib.hid t4; have K4 := Lib.hid k4
  clear c2 h4 e4 t4 k4
  obtain ⟨_, _, _, c3⟩ := HC.out w4 (K2.out.trans (K3.out.trans K4.out))
  go_wp2_with fail
  refine (num_w H4.out (wideN x4) (by omega)).mono ?_
  rintro e w5 ⟨rfl, h5⟩
  have H5 := Lib.hid h5
  clear c3 h5
  go_wp2
  go_end0
  refine ⟨rfl, ?_⟩
  have hf := Wrote.trans E2.out T2.out l2 (HK1.out.trans K2.out) (Wrote.trans E3.out T3.out l3 K3.out (Wrote.trans E4.out T4.out l4 K4.out H5.out))
  refine hf.mono ?_ (fun _ => HT.out.symm) (by omega)
  unfold okSet
  constructor
  · rintro ⟨a, b, _, _⟩; exact ⟨a, b, ha, hb⟩
  · rintro ⟨a, b, _, _⟩; exact ⟨a, b, trivial, trivial⟩
/-- a slice of variables that become something, as it is read -/
def RdS (w : World) (v : Value) (l : List SetM) : Prop :=
  ∃ (A : Option Addr) (c : Nat), v = .slice A l.length c ∧ ∀ i (h : i < l.length), ∃ b o, A = some ⟨b, o, none⟩ ∧ w.cell? ⟨b, o + i * 4, none⟩ = some (.int .i64 l[i].var) ∧ w.cell? ⟨b, o + i * 4 + 1, none⟩ = some (.int .i64 l[i].kd) ∧
    w.cell? ⟨b, o + i * 4 + 2, none⟩ = some (.int .i64 l[i].a) ∧ w.cell? ⟨b, o + i * 4 + 3, none⟩ = some (.int .i64 l[i].b) ∧ okW l[i].a ∧ okW l[i].b
theorem RdS.below {w w' : World} {v : Value} {l : List SetM} (h : RdS w v l) (hb : Below w.heap.size w w') : RdS w' v l := by
  obtain ⟨A, c, rfl, hr⟩ := h
  refine ⟨A, c, rfl, fun i hi => ?_⟩
  obtain ⟨b, o, rfl, h0, h1, h2, h3, h4⟩ := hr i hi
  exact ⟨b, o, rfl, (hb.cell (cell_lt h0)).trans h0, (hb.cell (cell_lt h1)).trans h1, (hb.cell (cell_lt h2)).trans h2, (hb.cell (cell_lt h3)).trans h3, h4⟩
/-- a slice of pasts, as it is read -/
def RdP (w : World) (v : Value) (l : List PastM) : Prop :=
  ∃ (A : Option Addr) (c : Nat), v = .slice A l.length c ∧ ∀ i (h : i < l.length), ∃ b o u, A = some ⟨b, o, none⟩ ∧ w.cell? ⟨b, o + i * 2, none⟩ = some (.int .i64 l[i].st) ∧ w.cell? ⟨b, o + i * 2 + 1, none⟩ = some u ∧ RdL w u l[i].set ∧ l[i].set.length ≤ 4611686018427387904
theorem RdP.below {w w' : World} {v : Value} {l : List PastM} (h : RdP w v l) (hb : Below w.heap.size w w') : RdP w' v l := by
  obtain ⟨A, c, rfl, hr⟩ := h
  refine ⟨A, c, rfl, fun i hi => ?_⟩
  obtain ⟨b, o, u, rfl, h0, h1, h2, h3⟩ := hr i hi
  exact ⟨b, o, u, rfl, (hb.cell (cell_lt h0)).trans h0, (hb.cell (cell_lt h1)).trans h1, h2.below hb, h3⟩
theorem places_any {w0 w : World} {g : Nat} {L : Bytes} {b : Bool} (h : WW w0 g L b w) (v : Value) (l : List Int) (hv : RdL w0 v l) (hl : l.length ≤ 4611686018427387904) (hL : L.length ≤ 900000) :
    Calls Try.prog 42 #[wp_ g, v] w fun e w' => e = .returned (.tuple #[]) ∧ Wrote w0 g L b (okL l) (listT l) 49 w w' := by
  have HS := Lib.hid (list_ints h v l hv hl hL)
  unfold mW wp_ at *
  clear h
  have hmf : ∀ (fn : Fn) (first cap : Array Value) (w : World), (Instr.makeFunc fn first cap).run Try.prog w = .ok (.func fn first cap) w := fun _ _ _ _ => rfl
  go_enter Try.func42, Try.ntmps42
  go_wp2_with fail
  refine HS.out.mono ?_
  rintro e w1 ⟨rfl, h1⟩
  have H1 := Lib.hid h1
  clear h1
  go_wp2
  go_end0
  exact ⟨rfl, H1.out⟩
set_option maxHeartbeats 400000 in
theorem past_any {w0 w : World} {g : Nat} {L : Bytes} {b : Bool} (h : WW w0 g L b w) (st : Int) (u : Value) (l : List Int) (hv : RdL w0 u l) (hl : l.length ≤ 4611686018427387904) (hL : L.length ≤ 800000) :
    Calls Try.prog 46 #[wp_ g, .agg #[.int .i64 st, u]] w fun e w' => e = .returned (.tuple #[]) ∧ Wrote w0 g L b (okPast ⟨st, l⟩) (pastT ⟨st, l⟩) 50 w w' := by
  obtain ⟨A, c, hu⟩ : ∃ A c, u = .slice A l.length c := by obtain ⟨A, c, h, _⟩ := hv; exact ⟨A, c, h⟩
  subst hu
  have hgl := h.lt
  obtain ⟨w1, hw1⟩ : ∃ W, W = w.alloc (.cells #[.int .i64 st, .slice A l.length c] 68) := ⟨_, rfl⟩
  have hb1 : Below w.heap.size w w1 := by rw [hw1]; exact (Below.refl _ _).alloc (Nat.le_refl _) _
  have h1 := h.later hb1
  have hn : w1.heap[w.heap.size]? = some (.cells #[.int .i64 st, .slice A l.length c] 68 (0, 0)) := by rw [hw1]; exact heap_alloc_new w _
  have hk1 : KeptU g w w1 := KeptU.of_below hb1
  have HW1 := Lib.hid hw1
  obtain ⟨k, hk⟩ : ∃ k, k = w.heap.size := ⟨_, rfl⟩
  have HK := Lib.hid hk
  rw [← hk] at hn
  have hkg : k ≠ g := by omega
  have hcell : ∀ W, KeptU g w1 W → W.cell? ⟨k, 0, none⟩ = some (.int .i64 st) ∧ W.cell? ⟨k, 1, none⟩ = some (.slice A l.length c) := fun W hW => by
    have := hW k _ _ _ hkg (by decide) hn
    exact ⟨(cell_of_row W k 0 _ _ _ this).trans rfl, (cell_of_row W k 1 _ _ _ this).trans rfl⟩
  have HC := Lib.hid hcell
  have H1 := Lib.hid h1; have HK1 := Lib.hid hk1; have HV := Lib.hid hv
  have HT : Hid (pastT ⟨st, l⟩ = intT st ++ listT l) := rfl
  clear hcell hn hk h hb1 h1 hk1 hw1 hv
  unfold wp_
  go_enter Try.func46, Try.ntmps46
  go_upto_region 1 with fail
  rw [← HW1.out, ← HK.out]
  obtain ⟨c0, _⟩ := HC.out w1 (KeptU.refl _ _)
  go_wp2_with fail
  refine (place_w H1.out st (by omega)).mono ?_
  rintro e w2 ⟨rfl, L2, b2, h2, e2, t2, l2, k2⟩
  have H2 := Lib.hid h2; have E2 := Lib.hid e2; have T2 := Lib.hid t2; have K2 := Lib.hid k2
  clear c0 h2 e2 t2 k2
  obtain ⟨_, c1⟩ := HC.out w2 K2.out
  go_wp2_with fail
  refine (places_any H2.out _ l HV.out hl (by omega)).mono ?_
  rintro e w5 ⟨rfl, h5⟩
  have H5 := Lib.hid h5
  clear c1 h5
  go_wp2
  go_end0
  refine ⟨rfl, ?_⟩
  exact (Wrote.trans E2.out T2.out l2 (HK1.out.trans K2.out) H5.out).mono Iff.rfl (fun _ => HT.out.symm) (by omega)
end Go.Proofs.Ytlbhkendbngmaaa.Wi
