/- Layer 16: the writer: lists. -/
import Derived.Test.YtlbhkendbngmaaaJd
namespace Go.Proofs.Ytlbhkendbngmaaa.Wi
open Go.RowKit
set_option maxRecDepth 100000

theorem cell_lt {w : World} {p : Addr} {u : Value} (h : w.cell? p = some u) : p.block < w.heap.size := World.block_lt_of_cell? w p h
/-- what a method of the writer leaves: beyond just if it was or what is told may not be; else its bytes stand behind the others -/
def Wrote (w0 : World) (g : Nat) (L : Bytes) (b : Bool) (ok : Prop) (t : Bytes) (m : Nat) (w w' : World) : Prop :=
  ∃ L' b', WW w0 g L' b' w' ∧ (b' = false ↔ b = false ∧ ok) ∧ (b' = false → L' = L ++ t) ∧ L'.length ≤ L.length + m ∧ KeptU g w w'
section
variable {w0 w w1 w2 : World} {g : Nat} {L : Bytes} {b : Bool} {ok ok2 : Prop} {t t2 : Bytes} {m m2 : Nat}
theorem Wrote.mono (h : Wrote w0 g L b ok t m w w1) (ho : ok ↔ ok2) (ht : ok → t = t2) (hm : m ≤ m2) : Wrote w0 g L b ok2 t2 m2 w w1 := by
  obtain ⟨L', b', h1, h2, h3, h4, h5⟩ := h
  exact ⟨L', b', h1, by rw [h2, ho], fun e => by rw [h3 e, ht (h2.1 e).2], by omega, h5⟩
theorem Wrote.nil (h : WW w0 g L b w) : Wrote w0 g L b True [] 0 w w := ⟨L, b, h, by simp, fun _ => by simp, Nat.le_refl _, KeptU.refl _ _⟩
theorem Wrote.trans {L1 : Bytes} {b1 : Bool} (h2 : b1 = false ↔ b = false ∧ ok) (h3 : b1 = false → L1 = L ++ t) (h4 : L1.length ≤ L.length + m) (h5 : KeptU g w w1) (k : Wrote w0 g L1 b1 ok2 t2 m2 w1 w2) : Wrote w0 g L b (ok ∧ ok2) (t ++ t2) (m + m2) w w2 := by
  obtain ⟨L', b', k1, k2, k3, k4, k5⟩ := k
  refine ⟨L', b', k1, ?_, fun e => ?_, by omega, h5.trans k5⟩
  · rw [k2, h2, and_assoc]
  · rw [k3 e, h3 (k2.1 e).1, List.append_assoc]
end
theorem or_false3 (b : Bool) (p q : Prop) [Decidable p] [Decidable q] : (b || (decide p || decide q)) = false ↔ b = false ∧ (¬ p ∧ ¬ q) := by
  cases b <;> by_cases hp : p <;> by_cases hq : q <;> simp [hp, hq]
theorem low_int {n : Int} {k : Nat} (hk : k < 256) (h : okI k n) : [lowB n] = intT n := by
  unfold lowB intT byteT
  have := h.1
  have := h.2
  rw [show (n % 256).toNat = n.toNat by omega]
theorem place_w {w0 w : World} {g : Nat} {L : Bytes} {b : Bool} (h : WW w0 g L b w) (n : Int) (hL : L.length ≤ 1000000) :
    Calls Try.prog 61 #[wp_ g, .int .i64 n] w fun e w' => e = .returned (.tuple #[]) ∧ Wrote w0 g L b (okI 63 n) (intT n) 1 w w' :=
  (place_any h n hL).mono fun e w' hh => ⟨hh.1, _, _, hh.2.1, by rw [or_false3]; unfold okI; constructor <;> (intro k; exact ⟨k.1, by omega⟩), fun e => by
    rw [or_false3] at e
    rw [low_int (k := 63) (by decide) (by unfold okI; omega)], by rw [List.length_append]; exact Nat.le_refl _, hh.2.2⟩
/-- the rest of a list that is told by one thing behind the other -/
def listF {α : Type} (t : α → Bytes) (l : List α) : Bytes := byteT l.length ++ l.flatMap t
/-- a slice of whole numbers, as it is read -/
def RdL (w : World) (v : Value) (l : List Int) : Prop :=
  ∃ (A : Option Addr) (c : Nat), v = .slice A l.length c ∧ ∀ i (h : i < l.length), ∃ b o, A = some ⟨b, o, none⟩ ∧ w.cell? ⟨b, o + i, none⟩ = some (.int .i64 l[i])
theorem RdL.below {w w' : World} {v : Value} {l : List Int} (h : RdL w v l) (hb : Below w.heap.size w w') : RdL w' v l := by
  obtain ⟨A, c, rfl, hr⟩ := h
  refine ⟨A, c, rfl, fun i hi => ?_⟩
  obtain ⟨b, o, rfl, h0⟩ := hr i hi
  exact ⟨b, o, rfl, (hb.cell (cell_lt h0)).trans h0⟩
/-- behind the first i things of a list -/
def Upto {α : Type} (w0 : World) (g : Nat) (L : Bytes) (b : Bool) (ok : α → Prop) (t : α → Bytes) (l : List α) (k : Nat) (w : World) (i : Nat) (w' : World) : Prop :=
  Wrote w0 g L b (∀ x ∈ l.take i, ok x) ((l.take i).flatMap t) (i * k) w w'
theorem Upto.step {α : Type} {w0 : World} {g : Nat} {L : Bytes} {b : Bool} {ok : α → Prop} {t : α → Bytes} {l : List α} {k : Nat} {w w1 w2 : World} {i : Nat} {L1 : Bytes} {b1 : Bool} (hi : i < l.length)
    (h2 : b1 = false ↔ b = false ∧ (∀ x ∈ l.take i, ok x)) (h3 : b1 = false → L1 = L ++ (l.take i).flatMap t) (h4 : L1.length ≤ L.length + i * k) (h5 : KeptU g w w1) (h : Wrote w0 g L1 b1 (ok l[i]) (t l[i]) k w1 w2) : Upto w0 g L b ok t l k w (i + 1) w2 := by
  refine (Wrote.trans h2 h3 h4 h5 h).mono ?_ ?_ ?_
  · rw [List.take_succ_eq_append_getElem hi]
    constructor
    · rintro ⟨a, c⟩ x hx
      rcases List.mem_append.1 hx with hx | hx
      · exact a x hx
      · rw [List.mem_singleton.1 hx]; exact c
    · intro a
      exact ⟨fun x hx => a x (List.mem_append.2 (Or.inl hx)), a _ (List.mem_append.2 (Or.inr (List.mem_singleton.2 rfl)))⟩
  · intro _
    rw [List.take_succ_eq_append_getElem hi, List.flatMap_append]
    simp
  · rw [Nat.succ_mul]; exact Nat.le_refl _
theorem list_done {α : Type} {w0 : World} {g : Nat} {L : Bytes} {b : Bool} {ok : α → Prop} {t : α → Bytes} {l : List α} {k most : Nat} {w w1 w2 : World} {b1 : Bool} {L1 : Bytes} (_hm : most < 256)
    (h2 : b1 = false ↔ b = false ∧ okI most (l.length : Int)) (h3 : b1 = false → L1 = L ++ intT (l.length : Int)) (h4 : L1.length ≤ L.length + 1) (h5 : KeptU g w w1) (hl : l.length ≤ most) (h : Upto w0 g L1 b1 ok t l k w1 l.length w2) :
    Wrote w0 g L b (l.length ≤ most ∧ ∀ x ∈ l, ok x) (someT t l) (1 + most * k) w w2 := by
  unfold Upto at h
  rw [List.take_length] at h
  refine (Wrote.trans h2 h3 h4 h5 h).mono ?_ ?_ ?_
  · unfold okI
    constructor
    · rintro ⟨a, c⟩; exact ⟨hl, c⟩
    · rintro ⟨a, c⟩; exact ⟨⟨by omega, by omega⟩, c⟩
  · intro _
    unfold someT intT
    rw [Int.toNat_natCast]
  · have := Nat.mul_le_mul_right k hl
    omega
def mW (f g : Nat) : Value := .func (.func f) #[wp_ g] #[]
set_option maxHeartbeats 4000000 in
theorem list_ints {w0 w : World} {g : Nat} {L : Bytes} {b : Bool} (h : WW w0 g L b w) (v : Value) (l : List Int) (hv : RdL w0 v l) (hl : l.length ≤ 4611686018427387904) (hL : L.length ≤ 900000) :
    Calls Try.prog 60 #[wp_ g, .int .i64 48, v, mW 61 g] w fun e w' => e = .returned (.tuple #[]) ∧ Wrote w0 g L b (okL l) (listT l) 49 w w' := by
  obtain ⟨A, c, rfl, hr⟩ := hv
  have HR := Lib.hid hr
  have hx := (small_any h (l.length : Int) 0 48 (by omega))
  have HX := Lib.hid hx
  clear hx hr h
  unfold wp_ mW at *
  go_enter Try.func60, Try.ntmps60
  go_wp2_with fail
  refine HX.out.mono ?_
  rintro e w1 ⟨rfl, h1, hk1⟩
  have hb2 := or_false3 b ((l.length : Int) < 0) (48 < (l.length : Int))
  generalize (b || (decide ((l.length : Int) < 0) || decide (48 < (l.length : Int)))) = b1 at *
  obtain ⟨v, ⟨d0, d1, e0, e1⟩, _, _⟩ := h1.at_
  have H1 := Lib.hid h1; have HK1 := Lib.hid hk1; have HB2 := Lib.hid hb2
  clear h1 hk1 hb2 HX
  cases b1
  · obtain ⟨hbf, hl0, hl48⟩ := HB2.out.1 rfl
    have HBF := Lib.hid hbf
    have hl9 : l.length ≤ 48 := by omega
    have hh1 : (L ++ [lowB l.length]) = L ++ intT l.length := by rw [low_int (k := 48) (by decide) ⟨by omega, by omega⟩]
    have hh2 : (L ++ [lowB l.length]).length = L.length + 1 := by simp
    have HH1 := Lib.hid hh1; have HH2 := Lib.hid hh2
    have H0 : Hid (Upto w0 g (L ++ [lowB l.length]) false (okI 63) intT l 1 w1 0 w1) := Lib.hid (by
      have := Wrote.nil H1.out
      exact this.mono (by simp) (fun _ => by simp) (by omega))
    have HP : Hid (∀ (w : World) (L : Bytes) (b : Bool) (n : Int), WW w0 g L b w → L.length ≤ 1000000 → Calls Try.prog 61 #[.pointer (some ⟨g, 0, none⟩), .int .i64 n] w fun e w' => e = .returned (.tuple #[]) ∧ Wrote w0 g L b (okI 63 n) (intT n) 1 w w') := Lib.hid (fun w L b n h hL => place_w h n hL)
    have hgf : wp_ g = .pointer (some ⟨g, 0, none⟩) := rfl
    generalize L ++ [lowB l.length] = L1 at *
    clear hl0 hl48 hh1 hh2 hl hbf HB2
    rw [hgf]
    clear hgf
    go_wp2
    go_loopw [9, 21] (fun _ x21 wr => ∃ i : Nat, i ≤ l.length ∧ x21 = .int .i64 i ∧ Hid (Upto w0 g L1 false (okI 63) intT l 1 w1 i wr)) (fun _ x _ => l.length - (intOf x).toNat)
    case atStart => exact ⟨0, by omega, rfl, H0⟩
    case round =>
      clear H0
      obtain ⟨i, hi, rfl, HU⟩ := hrel
      obtain ⟨W, hW⟩ : ∃ W, W = wr := ⟨_, rfl⟩
      subst hW
      by_cases hil : i < l.length
      · obtain ⟨L2, b2, k1, k2, k3, k4, k5⟩ := HU.out
        obtain ⟨B, o, rfl, hc⟩ := HR.out i hil
        have hc2 := (k1.below.cell (cell_lt hc)).trans hc
        have hst := fun w2 (h : Wrote w0 g L2 b2 (okI 63 l[i]) (intT l[i]) 1 W w2) => Upto.step (ok := okI 63) (t := intT) hil k2 k3 k4 k5 h
        have HST := Lib.hid hst
        have hl2 : L2.length ≤ 1000000 := by have := HH2.out; omega
        have HC := Lib.hid (HP.out W L2 b2 l[i] k1 hl2)
        generalize l[i] = y at *
        clear hst k1 k2 k3 k4 k5 hc HU HP
        go_wp2_with fail
        refine HC.out.mono ?_
        rintro e w2 ⟨rfl, h2⟩
        have H2 := Lib.hid (HST.out _ h2)
        clear h2
        go_wp2
        go_roundw
        case rel => exact ⟨i + 1, by omega, by go_num, H2⟩
        case measure => simp [intOf]; omega
      · obtain rfl : i = l.length := by omega
        go_wp2
        go_end0
        refine ⟨rfl, ?_⟩
        have hf := list_done (most := 48) (k := 1) (b := b) (b1 := false) (by decide) ⟨fun _ => ⟨HBF.out, by unfold okI; omega⟩, fun _ => rfl⟩ (fun _ => HH1.out) (by rw [HH2.out]; exact Nat.le_refl _) HK1.out hl9 HU.out
        exact hf
  · go_wp2
    refine bodyPost_ret (v := .tuple #[]) (by simp [results, Try.results60, go_sem]) rfl ⟨rfl, _, true, H1.out, ?_, (fun e => by cases e), by rw [List.length_append]; simp, HK1.out⟩
    rw [HB2.out]
    unfold okL okI
    constructor
    · rintro ⟨h1, h2, h3⟩; exfalso; have := HB2.out.2 ⟨h1, h2, h3⟩; cases this
    · rintro ⟨h1, h2, _⟩; exact ⟨h1, by omega, by omega⟩
end Go.Proofs.Ytlbhkendbngmaaa.Wi
