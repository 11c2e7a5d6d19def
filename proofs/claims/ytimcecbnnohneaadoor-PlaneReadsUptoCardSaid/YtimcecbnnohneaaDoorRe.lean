/- plane.Read at every text: just the points' texts are read. -/
import Derived.Test.YtimcecbnnohneaaDoorGs
namespace Go.Proofs.YtimcecbnnohneaaDoor
open Go.RowKit

theorem guess_key {l : List UInt8} {k a b : Int} (hk : Ix ((Lib.trimSuffix l [105]).drop 1) k) (h : refL l = some (a, b)) : guessL l k = some (a, b) := by
  obtain ⟨ha, hb, e⟩ := refL_some h
  rcases hk.just with hj | ⟨c, hc, h128⟩
  · rw [hj, e]; exact guessL_shw a b ha hb
  · exfalso
    have hc' : c ∈ shw a b := by
      rw [← e]
      have := List.mem_of_mem_drop hc
      unfold Lib.trimSuffix at this
      split at this
      · exact List.mem_of_mem_take this
      · exact this
    have := shw_ascii a b c hc'
    omega

/-- what Read comes to -/
def ReadPost (l : List UInt8) (w : World) (e : Ending) (w' : World) : Prop :=
  Below w.heap.size w w' ∧
    ((∃ a b, refL l = some (a, b) ∧ e = .returned (.tuple #[.complex .f64 (floatOfInt .f64 a) (floatOfInt .f64 b), .int .i64 0])) ∨
     (refL l = none ∧ e = .returned (.tuple #[.complex .f64 0 0, .int .i64 1])))

theorem read_any (s : ByteArray) (w : World) (hs : s.size < 4294967281) (hL : Laid w) :
    Calls Tryd.prog 4 #[.string s] w (ReadPost s.data.toList w) := by
  have HL := Lib.hid hL; clear hL
  go_enter Tryd.func4, Tryd.ntmps4
  go_wp2_with fail
  refine (guess_any s w hs HL.out).mono ?_
  rintro e w1 ⟨k, hk, hb1, ⟨a, b, hg, rfl⟩ | ⟨hg, rfl⟩⟩
  · have HB1 := Lib.hid hb1; have HK := Lib.hid hk; have HG := Lib.hid hg; clear hb1 hk hg
    obtain ⟨ha, hb⟩ := guessL_bd HG.out
    go_wp2_with (go_at_call 9; refine (show_ok a b _ ha hb (HL.out.below HB1.out)).mono ?_; rintro e w2 ⟨rfl, hb2⟩)
    · rename_i hne
      go_ret2
      refine ⟨HB1.out.trans (hb2.mono HB1.out.size), Or.inr ⟨?_, rfl⟩⟩
      cases hr : refL s.data.toList with
      | none => rfl
      | some p =>
        obtain ⟨a', b'⟩ := p
        have h1 := guess_key HK.out hr
        rw [HG.out] at h1
        injection h1 with h1
        injection h1 with h1 h2
        subst h1; subst h2
        have h3 := (refL_some hr).2.2
        rw [Lib.toList_data, ← h3] at hne
        simp at hne
    · rename_i heq
      go_ret2
      refine ⟨HB1.out.trans (hb2.mono HB1.out.size), Or.inl ⟨a, b, ?_, rfl⟩⟩
      rw [Lib.toList_data] at heq
      have h3 : shw a b = s.data.toList := by simpa using heq
      rw [← h3]
      exact refL_shw a b ha hb
  · have HB1 := Lib.hid hb1; have HK := Lib.hid hk; have HG := Lib.hid hg; clear hb1 hk hg
    go_wp2
    go_ret2
    refine ⟨HB1.out, Or.inr ⟨?_, rfl⟩⟩
    cases hr : refL s.data.toList with
    | none => rfl
    | some p =>
      obtain ⟨a, b⟩ := p
      rw [guess_key HK.out hr] at HG
      cases HG.out
end Go.Proofs.YtimcecbnnohneaaDoor
