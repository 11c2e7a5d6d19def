/- Is it a right tree? as the program asks it. -/
import Derived.Test.YtpmgleioldlolaaUf
namespace Go.Proofs.Ytpmgleioldlolaa
open Go.RowKit

/-- what the program asks of each place -/
def OkR (d kd : Nat → Int) (n i : Nat) : Prop := (1 ≤ kd i ∧ kd i ≤ 6) ∧ FilC d kd n i ∧ (d i = 0 → kd i = 2)
theorem fil_filC {d kd : Nat → Int} {n i : Nat} (hf : ∀ k, k < n → 1 ≤ kd k ∧ kd k ≤ 6) : Fil d kd n i ↔ FilC d kd n i := by
  have h : (∀ k ∈ kids d n i, mayP (kd i) (kd k)) ↔ ∀ k ∈ kids d n i, mayC (kd i) (kd k) := by
    constructor
    · intro h k hk
      have := h k hk; have := hf k (mem_kids.1 hk).1
      unfold mayP at *; unfold mayC; omega
    · intro h k hk
      have := h k hk
      unfold mayC at *; unfold mayP; omega
  unfold Fil FilC
  rw [h]
theorem right_okR {d kd : Nat → Int} {n : Nat} : RightP d kd n ↔ 1 ≤ n ∧ n ≤ 40 ∧ Nst d n ∧ (∀ i, i < n → OkR d kd n i) ∧ regs d n ≤ 4 := by
  constructor
  · intro h
    exact ⟨h.pos, h.le, h.nst, fun i hi => ⟨(h.fine i hi).kind, (fil_filC (fun k hk => (h.fine k hk).kind)).1 (h.fil i hi), (h.fine i hi).region⟩, h.regs⟩
  · rintro ⟨h1, h2, h3, h4, h5⟩
    exact ⟨h1, h2, h3, fun i hi => ⟨(h4 i hi).1, (h4 i hi).2.2⟩, fun i hi => (fil_filC (fun k hk => (h4 k hk).1)).2 (h4 i hi).2.1, h5⟩
theorem regs_succ (d : Nat → Int) (k : Nat) : regs d (k + 1) = regs d k + if d k = 0 then 1 else 0 := rfl

/-- a state, boxed -/
theorem at6 {w : World} {D : Nat} {x0 x1 x2 x3 x4 x5 : Value} {t : TypeId} (h : w.heap[D]? = some (.cells #[x0, x1, x2, x3, x4, x5] t (0, 0))) :
    w.cell? ⟨D, 1, none⟩ = some x1 ∧ w.cell? ⟨D, 2, none⟩ = some x2 := by
  simp [World.cell?, h]

set_option maxHeartbeats 4000000 in
theorem right_any (v : Value) (xs : List SM) (w : World) (hR : RdT w v xs) (hl : xs.length ≤ 4611686018427387904) :
    Calls Try.prog 10 #[v] w fun e w' => e = .returned (.bool (decide (RightP (dp xs) (kp xs) xs.length))) ∧ Below w.heap.size w w' := by
  obtain ⟨A, c, rfl⟩ := hR.form
  have HNE := Lib.hid (fun W (h : RdT W _ xs) => isNested_any (.slice A xs.length c) xs W h hl)
  have HFI := Lib.hid (fun i W (h : RdT W _ xs) (hi : i < xs.length) hN => isFilled_any (.slice A xs.length c) xs i W h hi hl hN)
  have HRI := Lib.hid (right_okR (d := dp xs) (kd := kp xs) (n := xs.length))
  obtain ⟨n, hn⟩ : ∃ n, xs.length = n := ⟨_, rfl⟩
  have HR := Lib.hid hR
  have HNN := Lib.hid hn
  rw [hn] at hl HR HNE HFI HRI ⊢
  clear hR hn
  by_cases h1 : n < 1
  · have hf : decide (RightP (dp xs) (kp xs) n) = false := decide_eq_false fun h => by have := h.pos; omega
    rw [hf]
    clear hf
    go_enter Try.func10, Try.ntmps10
    go_wp2
    go_ret
    exact ⟨rfl, Below.refl _ _⟩
  by_cases h40 : 40 < n
  · have hf : decide (RightP (dp xs) (kp xs) n) = false := decide_eq_false fun h => by have := h.le; omega
    rw [hf]
    clear hf
    go_enter Try.func10, Try.ntmps10
    go_wp2
    go_ret
    exact ⟨rfl, Below.refl _ _⟩
  by_cases hnst : Nst (dp xs) n
  rotate_left
  · have hf : decide (RightP (dp xs) (kp xs) n) = false := decide_eq_false fun h => hnst h.nst
    have HD := Lib.hid (decide_eq_false hnst)
    rw [hf]
    clear hf hnst
    go_enter Try.func10, Try.ntmps10
    go_wp2_with fail
    refine (HNE.out _ HR.out).mono ?_
    rintro e w1 ⟨rfl, hb1⟩
    rw [HD.out]
    have HB1 := Lib.hid hb1; clear hb1
    go_wp2
    go_ret
    exact ⟨rfl, HB1.out⟩
  have HD := Lib.hid (decide_eq_true hnst)
  have HNS := Lib.hid hnst
  clear hnst
  go_enter Try.func10, Try.ntmps10
  go_wp2_with fail
  refine (HNE.out _ HR.out).mono ?_
  rintro e w1 ⟨rfl, hb1⟩
  rw [HD.out]
  have HB1 := Lib.hid hb1; clear hb1
  go_wp2
  go_loopw [3, 21] (fun x3 x21 wr => ∃ k : Nat, k ≤ n ∧ x21 = .int .i64 k ∧ x3 = .int .i64 (regs (dp xs) k) ∧ Hid (∀ m, m < k → OkR (dp xs) (kp xs) n m) ∧ Below w.heap.size w wr) (fun _ x _ => n - (intOf x).toNat)
  case atStart => exact ⟨0, by omega, rfl, rfl, fun m hm => by omega, HB1.out⟩
  case round =>
    obtain ⟨k, hk, rfl, rfl, HK, hbw⟩ := hrel
    obtain ⟨wl, hwl⟩ : ∃ W, W = wr := ⟨_, rfl⟩
    subst hwl
    have hrl := regs_le (dp xs) k
    by_cases hkn : k < n
    · have hR1 := HR.out.below hbw
      obtain ⟨b, o, rfl, hb, hc⟩ := hR1.base (by rw [HNN.out]; omega)
      obtain ⟨c0, c1, c2, c3, c4, c5⟩ := hc k (by rw [HNN.out]; exact hkn)
      have HR1 := Lib.hid hR1; have HBW := Lib.hid hbw
      clear hbw hc hb hR1
      generalize xs[k]'(by rw [HNN.out]; exact hkn) = x at *
      obtain ⟨xnm, xk, xd, xini, xea, xen, xec, xxa, xxn, xxc⟩ := x
      simp only at c0 c3 c4 c5
      by_cases hkd : 1 ≤ kp xs k ∧ kp xs k ≤ 6
      rotate_left
      · have hf : decide (RightP (dp xs) (kp xs) n) = false := decide_eq_false fun h => hkd (h.fine k hkn).kind
        have HF := Lib.hid hf
        have HBX := Lib.hid (fun o => HBW.out.alloc HBW.out.size o)
        clear hf HK
        by_cases hk1 : kp xs k < 1
        · clear hkd
          go_wp2
          go_ret
          exact ⟨ret_bool HF.out.symm, HBX.out _⟩
        · have hk6 : 6 < kp xs k := by omega
          clear hkd
          go_wp2
          go_ret
          exact ⟨ret_bool HF.out.symm, HBX.out _⟩
      obtain ⟨W2, hW2⟩ : ∃ W, W = wl.alloc (.cells #[.string xnm, .int .i64 (kp xs k), .int .i64 (dp xs k), .string xini, .slice xea xen xec, .slice xxa xxn xxc] 35) := ⟨_, rfl⟩
      have hX : W2.heap[wl.heap.size]? = some (.cells #[.string xnm, .int .i64 (kp xs k), .int .i64 (dp xs k), .string xini, .slice xea xen xec, .slice xxa xxn xxc] 35 (0, 0)) := by rw [hW2]; exact heap_alloc_new _ _
      have hBX : Below wl.heap.size wl W2 := by rw [hW2]; exact (Below.refl _ _).alloc (Nat.le_refl _) _
      have hSX : W2.heap.size = wl.heap.size + 1 := by rw [hW2]; simp
      have HX := Lib.hid hX; have HBX := Lib.hid hBX; have HSX := Lib.hid hSX
      have HR2 := Lib.hid (HR1.out.below hBX)
      have HC := Lib.hid (HFI.out k W2 HR2.out hkn HNS.out)
      clear hX hBX hSX
      obtain ⟨k1, k6⟩ := hkd
      go_wp2_with (fail)
      rw [← hW2]
      clear hW2
      refine HC.out.mono ?_
      rintro e w3 ⟨rfl, hb3⟩
      have hq : w3.heap[wl.heap.size]? = W2.heap[wl.heap.size]? := hb3.block wl.heap.size (by rw [HSX.out]; omega)
      obtain ⟨d1, d2⟩ := at6 (hq.trans HX.out)
      clear hq
      have HB3 := Lib.hid ((HBW.out.trans (HBX.out.mono HBW.out.size)).trans (hb3.mono (by have := HBX.out.size; have := HBW.out.size; omega)))
      clear hb3
      by_cases hfil : FilC (dp xs) (kp xs) n k
      rotate_left
      · have hf : decide (RightP (dp xs) (kp xs) n) = false := decide_eq_false fun h => hfil ((HRI.out.1 h).2.2.2.1 k hkn).2.1
        have HF := Lib.hid hf
        have HFL := Lib.hid (decide_eq_false hfil)
        rw [HFL.out]
        clear hf hfil HK
        go_wp2
        go_ret
        exact ⟨ret_bool HF.out.symm, HB3.out⟩
      have HFL := Lib.hid (decide_eq_true hfil)
      have HFIL := Lib.hid hfil
      rw [HFL.out]
      clear hfil
      by_cases hz : dp xs k = 0
      · by_cases h2 : kp xs k = 2
        · have HS : Hid (∀ m, m < k + 1 → OkR (dp xs) (kp xs) n m) := fun m hm => by
            by_cases e : m = k
            · subst e; exact ⟨⟨k1, k6⟩, HFIL.out, fun _ => h2⟩
            · exact HK.out m (by omega)
          have HRG : Hid ((regs (dp xs) (k + 1) : Int) = regs (dp xs) k + 1) := Lib.hid (by rw [regs_succ, if_pos hz]; omega)
          rw [hz] at d2
          rw [h2] at d1
          clear HK hz h2
          go_wp2
          go_roundw
          case rel => exact ⟨k + 1, by omega, by go_num, by rw [HRG.out], HS.out, HB3.out⟩
          case measure => simp [intOf] <;> omega
        · have hf : decide (RightP (dp xs) (kp xs) n) = false := decide_eq_false fun h => h2 ((h.fine k hkn).region hz)
          have HF := Lib.hid hf
          have hne := int_ne h2
          rw [hz] at d2
          clear hf HK hz
          go_wp2
          go_ret
          exact ⟨ret_bool HF.out.symm, HB3.out⟩
      · have HS : Hid (∀ m, m < k + 1 → OkR (dp xs) (kp xs) n m) := fun m hm => by
          by_cases e : m = k
          · subst e; exact ⟨⟨k1, k6⟩, HFIL.out, fun h0 => absurd h0 hz⟩
          · exact HK.out m (by omega)
        have HRG : Hid ((regs (dp xs) (k + 1) : Int) = regs (dp xs) k) := Lib.hid (by rw [regs_succ, if_neg hz]; omega)
        have hne := int_ne hz
        clear HK
        go_wp2
        go_roundw
        case rel => exact ⟨k + 1, by omega, by go_num, by rw [HRG.out], HS.out, HB3.out⟩
        case measure => simp [intOf] <;> omega
    · obtain rfl : k = n := by omega
      have HBW := Lib.hid hbw
      have hf : decide (RightP (dp xs) (kp xs) k) = decide ((regs (dp xs) k : Int) ≤ 4) := by
        by_cases h4 : regs (dp xs) k ≤ 4
        · rw [decide_eq_true (HRI.out.2 ⟨by omega, by omega, HNS.out, HK.out, h4⟩), decide_eq_true (by omega)]
        · rw [decide_eq_false (fun h => h4 h.regs), decide_eq_false (by omega)]
      have HF := Lib.hid hf
      clear hf HK hbw
      go_wp2
      go_ret
      exact ⟨ret_bool HF.out.symm, HBW.out⟩
end Go.Proofs.Ytpmgleioldlolaa
