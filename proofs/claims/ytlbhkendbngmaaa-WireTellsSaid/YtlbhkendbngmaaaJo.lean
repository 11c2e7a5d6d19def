/- Layer 16: the reader: a place, the end, lists of places. -/
import Derived.Test.YtlbhkendbngmaaaJn
namespace Go.Proofs.Ytlbhkendbngmaaa.Wi
open Go.RowKit
set_option maxRecDepth 100000

theorem place_r {g : Nat} {s : Bytes} {w : World} (h : RB g s w) (hs : s.length ≤ 4611686018427387904) :
    Calls Try.prog 64 #[wp_ g] w fun e w' => Got g s (intP 63) (fun x v _ => v = .int .i64 x) w e w' := by
  have hx := small_r h 0 63 hs
  rw [smallR_zero] at hx
  have HX := Lib.hid hx
  unfold wp_ at *
  clear h hx
  go_enter Try.func64, Try.ntmps64
  go_wp2_with fail
  refine HX.out.mono ?_
  intro e w1 h1
  rcases h1.split with ⟨x, r, v, hp, rfl, rfl, hr, hg⟩ | ⟨hp, rfl, hg⟩
  · have HP := Lib.hid hp; have HR := Lib.hid hr; have HG := Lib.hid hg
    clear hp hr hg h1 HX
    go_wp2
    go_ret
    exact Got.some HP.out HG.out rfl HR.out
  · exact ⟨rfl, Got.none hp hg⟩
theorem end_r {g : Nat} {s : Bytes} {w : World} (h : RB g s w) :
    Calls Try.prog 25 #[wp_ g] w fun e w' => w' = w ∧ (s = [] → e = .returned (.tuple #[])) ∧ (s ≠ [] → e = gaveUp) := by
  have c0 := h.cell
  have HG := Lib.hid (giveUp_any w (.pointer (some ⟨g, 0, none⟩)))
  unfold wp_ at *
  clear h
  cases s with
  | nil =>
    unfold bstr at c0
    go_enter Try.func25, Try.ntmps25
    go_wp2
    go_end0
    exact ⟨rfl, fun _ => rfl, fun k => absurd rfl k⟩
  | cons b r =>
    unfold bstr at c0
    obtain ⟨S, hS⟩ : ∃ S : ByteArray, S = ⟨(b :: r).toArray⟩ := ⟨_, rfl⟩
    rw [← hS] at c0
    have hne : S.toList.isEmpty = false := by rw [Lib.toList_data, hS]; rfl
    have hne2 : S.toList ≠ [] := by rw [Lib.toList_data, hS]; intro k; cases k
    clear hS
    go_enter Try.func25, Try.ntmps25
    go_wp2_with fail
    refine HG.out.mono ?_
    rintro e w1 ⟨rfl, rfl⟩
    exact ⟨rfl, rfl, (fun k => by cases k), fun _ => rfl⟩
end Go.Proofs.Ytlbhkendbngmaaa.Wi
