/- What is within: of the program, and of the document. -/
import Derived.Test.YtpmgleioldlolaaUb
namespace Go.Proofs.Ytpmgleioldlolaa
open Go.RowKit

set_option maxHeartbeats 1000000 in
theorem within_any (v : Value) (xs : List SM) (i j : Nat) (w : World) (hR : RdT w v xs) (hi : i < xs.length) (hj : j < xs.length) (hl : xs.length ≤ 4611686018427387904) :
    Calls Try.prog 35 #[v, .int .i64 i, .int .i64 j] w fun e w' => e = .returned (.bool (decide (wi (dp xs) i j))) ∧ ∃ n, w' = w.drewN n := by
  have HE := Lib.hid (fun W (h : RdT W v xs) => end_any v xs i W h hi hl)
  have HI := Lib.hid (wi_iff (d := dp xs) hi hj)
  have hes := (en_spec (dp xs) hi).2.1
  generalize en (dp xs) xs.length i = E at *
  have HR := Lib.hid hR; clear hR
  by_cases hij : i < j
  · by_cases hE : j < E
    · have hw : decide (wi (dp xs) i j) = true := decide_eq_true (HI.out.2 ⟨hij, hE⟩)
      rw [hw]
      clear hw HI
      go_enter Try.func35, Try.ntmps35
      go_wp2_with fail
      refine (HE.out _ HR.out).mono ?_
      rintro e w1 ⟨rfl, q, rfl⟩
      go_wp2
      go_ret
      exact ⟨rfl, q, rfl⟩
    · have hw : decide (wi (dp xs) i j) = false := decide_eq_false (fun h => hE (HI.out.1 h).2)
      rw [hw]
      clear hw HI
      go_enter Try.func35, Try.ntmps35
      go_wp2_with fail
      refine (HE.out _ HR.out).mono ?_
      rintro e w1 ⟨rfl, q, rfl⟩
      go_wp2
      go_ret
      exact ⟨rfl, q, rfl⟩
  · have hw : decide (wi (dp xs) i j) = false := decide_eq_false (fun h => hij h.1)
    rw [hw]
    clear hw HI
    go_enter Try.func35, Try.ntmps35
    go_wp2
    go_ret
    exact ⟨rfl, 0, rfl⟩

set_option maxHeartbeats 1000000 in
theorem refWithin_any (v : Value) (xs : List SM) (i j : Nat) (w : World) (hR : RdT w v xs) (hj : j < xs.length) (hl : xs.length ≤ 4611686018427387904) (hN : Nst (dp xs) xs.length) :
    Calls Try.prog 25 #[v, .int .i64 i, .int .i64 j] w fun e w' => e = .returned (.bool (decide (wi (dp xs) i j))) ∧ ∃ n, w' = w.drewN n := by
  have HP := Lib.hid (fun k W (hk : k < xs.length) (h : RdT W v xs) => refParent_any v xs k W h hk hl hN)
  have HN := Lib.hid hN
  have HR := Lib.hid hR; clear hR hN
  have hwp := HN.out.wi_par (i := i) hj
  have hp0 : par (dp xs) j = -1 ∨ ∃ p : Nat, par (dp xs) j = p ∧ p < xs.length := by
    rcases HN.out.nearest hj with ⟨h, _⟩ | ⟨p, h, h1, _⟩
    · exact Or.inl h
    · exact Or.inr ⟨p, h, by omega⟩
  have HW := Lib.hid hwp; have HP0 := Lib.hid hp0
  clear hwp hp0
  go_enter Try.func25, Try.ntmps25
  go_wp2_with fail
  refine (HP.out j _ hj HR.out).mono ?_
  rintro e w1 ⟨rfl, q, rfl⟩
  go_wp2
  go_loopw [7] (fun x wr => ∃ m : Nat, wr = w.drewN m ∧ ((x = .int .i64 (-1) ∧ Hid (¬ wi (dp xs) i j)) ∨ ∃ k : Nat, x = .int .i64 k ∧ k < xs.length ∧ Hid (wi (dp xs) i j ↔ (k = i ∨ wi (dp xs) i k)))) (fun x _ => (intOf x + 1).toNat)
  case atStart =>
    refine ⟨q, rfl, ?_⟩
    rcases HP0.out with h | ⟨p, h, hp⟩
    · exact Or.inl ⟨by rw [h], fun hw => by obtain ⟨p, e, _⟩ := HW.out.1 hw; rw [h] at e; omega⟩
    · refine Or.inr ⟨p, by rw [h], hp, HW.out.trans ?_⟩
      constructor
      · rintro ⟨p', e, hh⟩
        rw [h] at e
        obtain rfl : p = p' := by omega
        exact hh
      · exact fun hh => ⟨p, h, hh⟩
  case round =>
    obtain ⟨m, rfl, ⟨hx, HF⟩ | ⟨k, hx, hk, HF⟩⟩ := hrel
    · subst hx
      have hw : decide (wi (dp xs) i j) = false := decide_eq_false HF.out
      have HD := Lib.hid hw
      clear hw HF
      go_wp2
      go_ret
      exact ⟨ret_bool HD.out.symm, m, rfl⟩
    · subst hx
      by_cases hki : k = i
      · subst hki
        have hw : decide (wi (dp xs) k j) = true := decide_eq_true (HF.out.2 (Or.inl rfl))
        have HD := Lib.hid hw
        clear hw HF
        go_wp2
        go_ret
        exact ⟨ret_bool HD.out.symm, m, rfl⟩
      · have hne : ((k : Int) == (i : Int)) = false := int_ne (by omega)
        have hwk := HN.out.wi_par (i := i) hk
        have hnx : (par (dp xs) k = -1 ∧ ¬ wi (dp xs) i j) ∨ ∃ p : Nat, par (dp xs) k = p ∧ p < k ∧ (wi (dp xs) i j ↔ (p = i ∨ wi (dp xs) i p)) := by
          rcases HN.out.nearest hk with ⟨h, _⟩ | ⟨p, h, h1, _⟩
          · refine Or.inl ⟨h, fun hw => ?_⟩
            rcases HF.out.1 hw with e | hw2
            · exact hki e
            · obtain ⟨p, e, _⟩ := hwk.1 hw2; rw [h] at e; omega
          · refine Or.inr ⟨p, h, h1, HF.out.trans ?_⟩
            constructor
            · rintro (e | hw2)
              · exact absurd e hki
              · obtain ⟨p', e, hh⟩ := hwk.1 hw2
                rw [h] at e
                obtain rfl : p = p' := by omega
                exact hh
            · exact fun hh => Or.inr (hwk.2 ⟨p, h, hh⟩)
        have HX := Lib.hid hnx
        clear hwk hnx HF
        go_wp2_with fail
        refine (HP.out k _ hk (HR.out.drew _)).mono ?_
        rintro e w1 ⟨rfl, q2, rfl⟩
        rcases HX.out with ⟨h, hf⟩ | ⟨p, h, hpk, hf⟩
        · rw [h]
          have HF := Lib.hid hf
          clear hf h HX
          go_wp2
          go_roundw
          case rel => exact ⟨m + q2, rfl, Or.inl ⟨rfl, HF.out⟩⟩
          case measure => simp [intOf] <;> omega
        · rw [h]
          have HF := Lib.hid hf
          clear hf h HX
          go_wp2
          go_roundw
          case rel => exact ⟨m + q2, rfl, Or.inr ⟨p, rfl, by omega, HF.out⟩⟩
          case measure => simp [intOf] <;> omega
end Go.Proofs.Ytpmgleioldlolaa
