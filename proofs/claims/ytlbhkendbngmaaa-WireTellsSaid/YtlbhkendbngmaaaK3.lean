/- Layer 16: the document's reader: a list of places; what a loop of such steps has read. -/
import Derived.Test.YtlbhkendbngmaaaK2
namespace Go.Proofs.Ytlbhkendbngmaaa.Wi
open Go.RowKit
set_option maxRecDepth 100000

/-- what a loop has read, m rounds before its end -/
structure LoopI {α : Type} (z : Option (List α × Bytes)) (p : P α) (b0 : Bool) (L : List α) (m : Nat) (s : Bytes) (b : Bool) : Prop where
  good : b = false → b0 = false ∧ z = joinP L (manyP p m s)
  bad : b = true → b0 = true ∨ z = none
section
variable {α : Type} {z : Option (List α × Bytes)} {p : P α} {b0 b b1 b2 : Bool} {L : List α} {m n most : Nat} {s s0 s1 s2 : Bytes} {x : α}
theorem small_of_int {most n : Nat} {s r : Bytes} (h : intP most s = some ((n : Int), r)) : smallP most s = some (n, r) := by
  obtain ⟨k, hk, h2, _⟩ := int_small h
  obtain rfl : n = k := by omega
  exact h2
theorem LoopI.start (h : Step (intP most) s0 b0 (n : Int) s1 b1) : LoopI (someP most p s0) p b0 [] n s1 b1 := by
  refine ⟨fun e => ?_, fun e => ?_⟩
  · obtain ⟨e1, h1⟩ := h.good e
    exact ⟨e1, by rw [some_eq, small_of_int h1, join_start]⟩
  · exact (h.bad e).imp id fun k => by rw [some_eq, int_none k]
theorem LoopI.next (h : LoopI z p b0 L (n - m) s1 false) (hm : m < n) (k : Step p s1 false x s2 b2) : LoopI z p b0 (L ++ [x]) (n - (m + 1)) s2 b2 := by
  obtain ⟨e0, hz⟩ := h.good rfl
  refine ⟨fun e => ?_, fun e => ?_⟩
  · obtain ⟨_, h1⟩ := k.good e
    exact ⟨e0, hz.trans (join_some hm h1)⟩
  · rcases k.bad e with h3 | h3
    · cases h3
    · exact Or.inr (hz.trans (join_none hm h3))
theorem LoopI.done {q : P (List α)} (h : LoopI (q s0) p b0 L (n - m) s b) (he : m = n ∨ b = true) : Step q s0 b0 L s b := by
  refine ⟨fun e => ?_, h.bad⟩
  rcases he with rfl | he
  · obtain ⟨e1, h1⟩ := h.good e
    exact ⟨e1, by rw [h1, join_end]⟩
  · rw [he] at e; cases e
end
theorem R2.grown {g : Nat} {s : Bytes} {b : Bool} {w w' : World} {v : Value} {B : Nat} (h : R2 g s b w) (hg : w.grownBy w' v.ownBlock) (hv : ∀ k, v.ownBlock = some k → B ≤ k) (hB : g < B) : R2 g s b w' :=
  (hg.block g h.lt (fun e => by have := hv g e.symm; omega)).trans h
set_option maxHeartbeats 1600000 in
theorem places_2 {g : Nat} {s : Bytes} {b : Bool} {w : World} (h : R2 g s b w) :
    Calls Try.prog 31 #[wp_ g] w fun e w' => Took g s b listP (fun l v w' => w'.ownsRow w.heap.size 3 1 v l.length (intV l)) w e w' := by
  obtain ⟨i0, hi0, hz0, hz1, hz2⟩ := info_parts Try.infoInt
  have HI := Lib.hid hi0; have HZ0 := Lib.hid hz0; have HZ1 := Lib.hid hz1; have HZ2 := Lib.hid hz2
  clear hi0 hz0 hz1 hz2
  have hgl := h.lt
  have HX := Lib.hid (small_2 h 48)
  unfold wp_ at *
  clear h
  go_enter Try.func31, Try.ntmps31
  go_wp2_with fail
  refine HX.out.mono ?_
  rintro e w1 ⟨x, v, s1, b1, rfl, ⟨rfl, hx0, hx1⟩, hr, hl, hg, hst⟩
  obtain ⟨n, rfl⟩ := Int.eq_ofNat_of_zero_le hx0
  have hn : n ≤ 48 := by omega
  have H0 : Hid (∃ L sk bk, L.length = 0 ∧ w.grownBy w1 (some g) ∧ R2 g sk bk w1 ∧ w1.ownsRow w.heap.size 3 1 (.slice none 0 0) L.length (intV L) ∧ sk.length ≤ s.length ∧ LoopI (listP s) (intP 63) b L (n - 0) sk bk) :=
    Lib.hid ⟨[], s1, b1, rfl, hg, hr, World.ownsRow_nil _ _ _ _, hl, LoopI.start hst⟩
  clear hr hg hl hst HX hx0 hx1
  go_wp2
  go_loopw [3, 5] (fun x3 x5 wr => ∃ k : Nat, k ≤ n ∧ x5 = .int .i64 k ∧ Hid (∃ L sk bk, L.length = k ∧ w.grownBy wr (some g) ∧ R2 g sk bk wr ∧ wr.ownsRow w.heap.size 3 1 x3 L.length (intV L) ∧ sk.length ≤ s.length ∧ LoopI (listP s) (intP 63) b L (n - k) sk bk)) (fun _ x _ => n - (intOf x).toNat)
  case atStart => exact ⟨0, by omega, rfl, H0⟩
  case round =>
    clear H0
    obtain ⟨k, hk, rfl, HH⟩ := hrel
    obtain ⟨W, hW⟩ : ∃ W, W = wr := ⟨_, rfl⟩
    subst hW
    obtain ⟨L, sk, bk, hL, hg, hr, ho, hl, hj⟩ := HH.out
    obtain ⟨A, c, hv⟩ := own_form ho
    have c1 := hr.cell1
    by_cases hkn : k < n
    · cases bk
      · have HC := Lib.hid (small_2 hr 63)
        have HG := Lib.hid hg; have HO := Lib.hid ho; have HJ := Lib.hid hj; have HL := Lib.hid hL
        unfold wp_ at HC
        clear hg hr ho hj hL HH
        have hki : (k : Int) < n := by omega
        subst hv
        go_wp2_with fail
        refine HC.out.mono ?_
        rintro e w2 ⟨x, v, s2, b2, rfl, ⟨rfl, hx0, hx1⟩, hr2, hl2, hg2, hst2⟩
        have hL2 : (L ++ [x]).length = k + 1 := by rw [List.length_append, HL.out]; rfl
        have hj2 := HJ.out.next hkn hst2
        have ho2 := own_grown HO.out (by omega) hg2
        have hg3 := grown_trans HG.out hg2
        have hL9 : L.length ≤ 47 := by have := HL.out; omega
        have hsz := HG.out.size
        have hsz2 := hg2.size
        have HO2 := Lib.hid ho2; have HG3 := Lib.hid hg3; have HR2 := Lib.hid hr2; have HJ2 := Lib.hid hj2; have HL2 := Lib.hid hL2; have HLE := Lib.hid (Nat.le_trans hl2 hl)
        clear ho2 hg3 hr2 hj2 hL2 hl2 hst2 hg2 hl hx0 hx1 c1
        go_wp2_with (at_builtin; refine wpList_append_own _ rfl _ _ 23 rfl w.heap.size 3 i0 _ 1 8 Try.underlying23 HI.out HZ0.out HZ1.out HZ2.out rfl (by decide) _ L.length (intV L) rfl (HO2.out.alloc _) ⟨w2.heap.size, 0, none⟩ 1 1 [.int .i64 x] rfl rfl (one_cell w2 _ _) (by intro u hu; simp at hu; subst hu; rfl) (by unfold maxLen; omega) (by omega) (by simp; omega) ?_)
        intro v' w3 hown hgr _
        have hnew : Hid (∃ L sk bk, L.length = k + 1 ∧ w.grownBy w3 (some g) ∧ R2 g sk bk w3 ∧ w3.ownsRow w.heap.size 3 1 v' L.length (intV L) ∧ sk.length ≤ s.length ∧ LoopI (listP s) (intP 63) b L (n - (k + 1)) sk bk) := Lib.hid (by
          have hlt := fun q hq => (HO2.out.lt q hq).1
          have hga := grown_trans HG3.out (grown_alloc w2 (.cells #[.int .i64 x] 3) (some g))
          refine ⟨L ++ [x], s2, b2, HL2.out, grown_row hga hgr hlt, (HR2.out.below ((Below.refl _ _).alloc (Nat.le_refl _) _)).grown hgr hlt hgl, ?_, HLE.out, HJ2.out⟩
          rw [intV_append, List.length_append]
          exact hown)
        clear hown hgr
        go_wp2
        go_roundw
        case rel => exact ⟨k + 1, by omega, by go_num, hnew⟩
        case measure => simp [intOf]; omega
      · subst hv
        have HX : Hid (Took g s b listP (fun l v w' => w'.ownsRow w.heap.size 3 1 v l.length (intV l)) w (.returned (.slice A L.length c)) W) := Lib.hid ⟨L, _, sk, true, rfl, ho, hr, hl, hg, hj.done (Or.inr rfl)⟩
        clear hg hr ho hj HH hL hl
        have hki : (k : Int) < n := by omega
        go_wp2
        go_ret
        exact HX.out
    · obtain rfl : k = n := by omega
      subst hv
      have HX : Hid (Took g s b listP (fun l v w' => w'.ownsRow w.heap.size 3 1 v l.length (intV l)) w (.returned (.slice A L.length c)) W) := Lib.hid ⟨L, _, sk, bk, rfl, ho, hr, hl, hg, hj.done (Or.inl rfl)⟩
      clear hg hr ho hj HH hL hl
      go_wp2
      go_ret
      exact HX.out
end Go.Proofs.Ytlbhkendbngmaaa.Wi
