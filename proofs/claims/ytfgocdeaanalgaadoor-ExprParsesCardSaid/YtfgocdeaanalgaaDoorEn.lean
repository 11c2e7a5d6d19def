/- expr.Parse at every text. -/
import Derived.Test.YtfgocdeaanalgaaDoorEm
namespace Go.Proofs.YtfgocdeaanalgaaDoor
open Go.RowKit

/-- a slice value that the call owns, a list of cells -/
structure Own (w : World) (cs : List CM) (v : Value) (w' : World) : Prop where
  own : w'.ownsRow w.heap.size 38 3 v cs.length (flat cs)
  below : Below w.heap.size w w'

/-- what Parse comes to -/
def ParsePost (l : List UInt8) (w : World) (e : Ending) (w' : World) : Prop :=
  ∃ v, e = .returned (.tuple #[v, .int .i64 (parseP l).2.1, .int .i64 (parseP l).2.2]) ∧ Own w (parseP l).1 v w'
theorem ParsePost.of {l : List UInt8} {w w' : World} {cs : List CM} {p : Nat} {e : Int} {v : Value} (h : parseP l = (cs, p, e)) (ho : Own w cs v w') : ParsePost l w (.returned (.tuple #[v, .int .i64 p, .int .i64 e])) w' := by
  unfold ParsePost; rw [h]; exact ⟨v, rfl, ho⟩

theorem St.begin (w : World) (s : ByteArray) : St w (w.alloc (.cells #[.string s, .int .i64 0, .slice none 0 0] 48)) w.heap.size s 0 [] (w.alloc (.cells #[.string s, .int .i64 0, .slice none 0 0] 48)) :=
  ⟨⟨_, heap_alloc_new w _, World.ownsRow_nil _ _ _ _⟩, Nat.le_refl _, (Below.refl _ _).alloc (Nat.le_refl _) _, Keeps.refl _ _⟩

theorem parse_any (s : ByteArray) (w : World) (hO : Ops w) (hs : s.size ≤ 9223372036854775807) :
    Calls Tryd.prog 15 #[.string s] w (ParsePost s.data.toList w) := by
  by_cases h6 : 600 < s.size
  · have hP : parseP s.data.toList = ([], 0, 4) := by unfold parseP; rw [if_pos (by rw [sz]; exact h6)]
    have h6' : (600 : Int) < s.size := by omega
    have HP := Lib.hid (ParsePost.of (w := w) (w' := w) (v := .slice none 0 0) hP ⟨World.ownsRow_nil _ _ _ _, Below.refl _ _⟩)
    clear hP
    go_enter Tryd.func15, Tryd.ntmps15
    go_wp2
    go_ret3
    exact HP.out
  · have h6' : decide ((600 : Int) < s.size) = false := decide_eq_false (by omega)
    have HB := Lib.hid (St.begin w s)
    have HJ := Lib.hid ((reads s (by omega) (s.data.toList.length * 10 + 8)).1 w _ _ w.heap.size 0 [] 1 HB.out hO (by omega) (by omega) (by omega) (by simp) (by simp only [need]; omega))
    have hgo := goes s.data.toList (s.data.toList.length * 10 + 8) (.joins 1) 0 [] (by omega)
    have hP : parseP s.data.toList = if (D s.data.toList (s.data.toList.length * 10 + 8) (.joins 1) 0 []).1 = false ∨ (D s.data.toList (s.data.toList.length * 10 + 8) (.joins 1) 0 []).2.1 < s.data.toList.length then ([], (D s.data.toList (s.data.toList.length * 10 + 8) (.joins 1) 0 []).2.1, 1)
        else if 32 < (D s.data.toList (s.data.toList.length * 10 + 8) (.joins 1) 0 []).2.2.length then ([], 0, 4) else ((D s.data.toList (s.data.toList.length * 10 + 8) (.joins 1) 0 []).2.2, 0, 0) := by
      conv => lhs; unfold parseP
      rw [if_neg (by rw [sz]; exact h6)]
    obtain ⟨b, p, cs, hr⟩ : ∃ b p cs, D s.data.toList (s.data.toList.length * 10 + 8) (.joins 1) 0 [] = (b, p, cs) := ⟨_, _, _, rfl⟩
    rw [hr] at HJ hgo hP
    have hp : p ≤ s.size := by have := hgo.le; rw [sz] at this; exact this
    rw [sz] at hP
    have HP := Lib.hid hP
    clear hP hr hgo HB
    unfold rp at *
    have fin : ∀ {w' : World} {wa g}, St w wa g s p cs w' → Below w.heap.size w w' := fun h => h.below
    cases b
    · have HPP : Hid (parseP s.data.toList = ([], p, 1)) := by
        have := HP.out
        rw [if_pos (Or.inl rfl)] at this
        exact this
      go_enter Tryd.func15, Tryd.ntmps15
      go_wp2_with fail
      refine HJ.out.mono ?_
      rintro e w1 ⟨rfl, h1⟩
      obtain ⟨v, ⟨c0, c1, c2, _, _⟩, _, _⟩ := h1.at_
      have HB1 := Lib.hid h1.below
      clear h1
      go_wp2
      go_quiet (fail)
      go_wp2
      go_ret3
      exact ParsePost.of HPP.out ⟨World.ownsRow_nil _ _ _ _, ⟨HB1.out.os, HB1.out.tape, HB1.out.output, HB1.out.size, HB1.out.block⟩⟩
    · by_cases hps : p < s.size
      · have HPP : Hid (parseP s.data.toList = ([], p, 1)) := by
          have := HP.out
          rw [if_pos (Or.inr hps)] at this
          exact this
        have hps' : (p : Int) < s.size := by omega
        go_enter Tryd.func15, Tryd.ntmps15
        go_wp2_with fail
        refine HJ.out.mono ?_
        rintro e w1 ⟨rfl, h1⟩
        obtain ⟨v, ⟨c0, c1, c2, _, _⟩, _, _⟩ := h1.at_
        have HB1 := Lib.hid h1.below
        clear h1
        go_wp2
        go_quiet (fail)
        go_wp2
        go_ret3
        exact ParsePost.of HPP.out ⟨World.ownsRow_nil _ _ _ _, ⟨HB1.out.os, HB1.out.tape, HB1.out.output, HB1.out.size, HB1.out.block⟩⟩
      · have hps' : decide ((p : Int) < s.size) = false := decide_eq_false (by omega)
        by_cases h32 : 32 < cs.length
        · have HPP : Hid (parseP s.data.toList = ([], 0, 4)) := by
            have := HP.out
            rw [if_neg (by simp; omega), if_pos h32] at this
            exact this
          have h32' : (32 : Int) < cs.length := by omega
          go_enter Tryd.func15, Tryd.ntmps15
          go_wp2_with fail
          refine HJ.out.mono ?_
          rintro e w1 ⟨rfl, h1⟩
          obtain ⟨v, ⟨c0, c1, c2, _, _⟩, _, hown⟩ := h1.at_
          obtain ⟨g1, cap, rfl, _, _⟩ := hown.form (show 0 < cs.length by omega)
          have HB1 := Lib.hid h1.below
          clear h1 hown
          go_wp2
          go_ret3
          exact ParsePost.of HPP.out ⟨World.ownsRow_nil _ _ _ _, HB1.out⟩
        · have HPP : Hid (parseP s.data.toList = (cs, 0, 0)) := by
            have := HP.out
            rw [if_neg (by simp; omega), if_neg h32] at this
            exact this
          have h32' : decide ((32 : Int) < cs.length) = false := decide_eq_false (by omega)
          go_enter Tryd.func15, Tryd.ntmps15
          go_wp2_with fail
          refine HJ.out.mono ?_
          rintro e w1 ⟨rfl, h1⟩
          obtain ⟨v, ⟨c0, c1, c2, _, _⟩, _, hown⟩ := h1.at_
          have hform : ∃ A c, v = .slice A cs.length c := by
            rcases hown.2 with ⟨rfl, h0⟩ | ⟨g, cap, cur, rfl, _⟩
            · have : cs = [] := by
                cases cs with
                | nil => rfl
                | cons c r => simp at h0
              subst this; exact ⟨_, _, rfl⟩
            · exact ⟨_, _, rfl⟩
          obtain ⟨A, c, rfl⟩ := hform
          have HB1 := Lib.hid h1.below; have HOWN := Lib.hid hown
          clear h1 hown
          go_wp2
          go_ret3
          exact ParsePost.of HPP.out ⟨HOWN.out, HB1.out⟩
end Go.Proofs.YtfgocdeaanalgaaDoor
