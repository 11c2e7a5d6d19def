/- Layer 16: the reader: a small number, a number of eight bytes, a place, the end. -/
import Derived.Test.YtlbhkendbngmaaaJk
import Derived.Laws.BitsAllLaws
import Derived.Laws.ShiftsVarLaws
namespace Go.Proofs.Ytlbhkendbngmaaa.Wi
open Go.RowKit
set_option maxRecDepth 100000

section
variable {α : Type} {g : Nat} {s : Bytes} {p : P α} {V : α → Value → World → Prop} {w w' : World} {e : Ending}
theorem Got.some {x : α} {r : Bytes} {v : Value} (hp : p s = some (x, r)) (hg : w.grownBy w' (Option.some g)) (hv : V x v w') (hr : RB g r w') : Got g s p V w (.returned v) w' := by
  unfold Got
  rw [hp]
  exact ⟨hg, ⟨v, rfl, hv⟩, hr⟩
theorem Got.none (hp : p s = Option.none) (hg : w.grownBy w' (Option.some g)) : Got g s p V w gaveUp w' := by
  unfold Got
  rw [hp]
  exact ⟨hg, rfl⟩
theorem Got.split (h : Got g s p V w e w') : (∃ x r v, p s = Option.some (x, r) ∧ e = .returned v ∧ V x v w' ∧ RB g r w' ∧ w.grownBy w' (Option.some g)) ∨ (p s = Option.none ∧ e = gaveUp ∧ w.grownBy w' (Option.some g)) := by
  unfold Got at h
  cases hp : p s with
  | none => rw [hp] at h; exact Or.inr ⟨rfl, h.2, h.1⟩
  | some z => obtain ⟨x, r⟩ := z; rw [hp] at h; obtain ⟨h1, ⟨v, h2, h3⟩, h4⟩ := h; exact Or.inl ⟨x, r, v, rfl, h2, h3, h4, h1⟩
end
def smallR (lo hi : Nat) : P Int := guardP (fun k : Int => decide ((lo : Int) ≤ k)) (intP hi)
theorem smallR_nil (lo hi : Nat) : smallR lo hi [] = none := rfl
theorem smallR_cons (lo hi : Nat) (b : UInt8) (r : Bytes) : smallR lo hi (b :: r) = if lo ≤ b.toNat ∧ b.toNat ≤ hi then some ((b.toNat : Int), r) else none := by
  unfold smallR guardP intP mapP smallP
  by_cases h1 : b.toNat ≤ hi
  · by_cases h2 : lo ≤ b.toNat
    · simp [h1, h2]
    · have h3 : ¬ ((lo : Int) ≤ (b.toNat : Int)) := by omega
      simp [h1, h2, h3]
  · simp [h1]
theorem smallR_zero (hi : Nat) : smallR 0 hi = intP hi := by
  funext s
  unfold smallR guardP
  cases h : intP hi s with
  | none => rfl
  | some z =>
    obtain ⟨x, r⟩ := z
    have : (0 : Int) ≤ x := by
      unfold intP mapP at h
      cases h2 : smallP hi s with
      | none => rw [h2] at h; cases h
      | some y => rw [h2] at h; simp at h; omega
    simp [this]
theorem one_str (b : UInt8) : ∃ S : ByteArray, bstr [b] = .string S ∧ S.size = 1 ∧ ∀ h : 0 < S.size, S[0] = b := ⟨⟨#[b]⟩, rfl, rfl, fun _ => rfl⟩
theorem take_one {s x r : Bytes} (h : takeP 1 s = some (x, r)) : ∃ b, s = b :: r ∧ x = [b] := by
  unfold takeP at h
  cases s with
  | nil => simp at h
  | cons b s => simp at h; exact ⟨b, by rw [h.2], h.1.symm⟩
theorem take_none {s : Bytes} (h : takeP 1 s = none) : s = [] := by
  unfold takeP at h
  cases s with
  | nil => rfl
  | cons b s => simp at h
set_option maxHeartbeats 1000000 in
theorem small_r {g : Nat} {s : Bytes} {w : World} (h : RB g s w) (lo hi : Nat) (hs : s.length ≤ 4611686018427387904) :
    Calls Try.prog 47 #[wp_ g, .int .i64 lo, .int .i64 hi] w fun e w' => Got g s (smallR lo hi) (fun x v _ => v = .int .i64 x) w e w' := by
  have HT := Lib.hid (take_any h 1 hs (by decide))
  unfold wp_ at *
  have HG := Lib.hid (fun w => giveUp_any w (.pointer (some ⟨g, 0, none⟩)))
  clear h
  go_enter Try.func47, Try.ntmps47
  go_wp2_with fail
  refine HT.out.mono ?_
  intro e w1 h1
  rcases h1.split with ⟨x, r, v, hp, rfl, rfl, hr, hg⟩ | ⟨hp, rfl, hg⟩
  · obtain ⟨b, rfl, rfl⟩ := take_one hp
    · have hb8 : (b.toNat : Int) < 256 := by have := byte_lt8 b; omega
      obtain ⟨S, hS, hsz, h0⟩ := one_str b
      have h0 := h0 (by omega)
      have hc := smallR_cons lo hi b r
      have HR := Lib.hid hr; have HGR := Lib.hid hg
      rw [hS]
      clear h1 hp hr hg hS HT
      by_cases h1 : (b.toNat : Int) < lo
      · have HC := Lib.hid (hc.trans (if_neg (by omega)))
        have h2 : decide ((b.toNat : Int) < lo) = true := decide_eq_true h1
        clear hc
        go_wp2_with fail
        refine (HG.out _).mono ?_
        rintro e w2 ⟨rfl, rfl⟩
        exact ⟨rfl, Got.none HC.out HGR.out⟩
      · have h2 : decide ((b.toNat : Int) < lo) = false := decide_eq_false h1
        by_cases h3 : (hi : Int) < b.toNat
        · have HC := Lib.hid (hc.trans (if_neg (by omega)))
          have h4 : decide ((hi : Int) < b.toNat) = true := decide_eq_true h3
          clear hc
          go_wp2_with fail
          refine (HG.out _).mono ?_
          rintro e w2 ⟨rfl, rfl⟩
          exact ⟨rfl, Got.none HC.out HGR.out⟩
        · have HC := Lib.hid (hc.trans (if_pos (by omega)))
          have h4 : decide ((hi : Int) < b.toNat) = false := decide_eq_false h3
          clear hc
          go_wp2
          go_ret
          exact Got.some HC.out HGR.out rfl HR.out
  · have hn := take_none hp
    subst hn
    exact ⟨rfl, Got.none rfl hg⟩
end Go.Proofs.Ytlbhkendbngmaaa.Wi
