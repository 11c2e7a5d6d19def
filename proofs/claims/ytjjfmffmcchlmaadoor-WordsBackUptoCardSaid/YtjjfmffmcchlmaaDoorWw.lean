/- The examples of chapter 2 hold (wakes of quintainlaw02). -/
import Derived.Test.YtjjfmffmcchlmaaDoorSm
import Derived.Test.YtjjfmffmcchlmaaDoorDi
import Derived.Test.YtjjfmffmcchlmaaDoorEv
namespace Go.Proofs.YtjjfmffmcchlmaaDoor
open Go.RowKit

theorem name_at (s : ByteArray) (b : Bool) (h : nameB s.data.toList = b) (w : World) :
    Calls Tryd.prog 13 #[.string s] w fun e w' => e = .returned (.bool b) ∧ w = w' := by
  subst h; exact name_any s w

theorem itoa_7 : Lib.itoa (-7) = [45, 55] := by decide +kernel

theorem line_ongo : lineB [32, 32, 111, 110, 32, 103, 111] = true ∧ depthL [32, 32, 111, 110, 32, 103, 111] = 2 ∧ lineW [32, 32, 111, 110, 32, 103, 111] = [[111, 110], [103, 111]] := by decide +kernel

theorem Mem.alloc {w w' : World} {xs : List (List UInt8)} {v : Value} (h : Mem w xs v w') (o : Obj) : Mem w xs v (w'.alloc o) := ⟨h.own.alloc o, h.below.alloc h.below.size o⟩

theorem rd_two (w : World) (x y : List UInt8) : RdS (w.alloc (.cells #[strV x, strV y] 9)) (.slice (some ⟨w.heap.size, 0, none⟩) 2 2) [x, y] := by
  refine ⟨_, _, rfl, fun i hi => ⟨_, rfl, ?_⟩⟩
  match i, hi with
  | 0, _ => simp [Addr.add]
  | 1, _ => simp [Addr.add]
  | n + 2, hi => simp at hi; omega

set_option maxHeartbeats 1000000 in
theorem wakes_any (w : World) (hL : Laid w) :
    Calls Tryd.prog 11 #[] w fun e w' => e = .returned (.bool true) ∧ Below w.heap.size w w' := by
  have HL := Lib.hid hL; clear hL
  go_enter Tryd.func11, Tryd.ntmps11
  go_wp2_with fail
  refine (line_any _ _ (by decide)).mono ?_
  rintro e w1 (⟨_, v, rfl, hM⟩ | ⟨h, _⟩)
  · rw [line_ongo.2.1]
    have hm := hM
    rw [show lineW (⟨#[32, 32, 111, 110, 32, 103, 111]⟩ : ByteArray).data.toList = [[111, 110], [103, 111]] from line_ongo.2.2] at hm
    have HM := Lib.hid hm; clear hm hM
    go_wp2_with fail
    refine (same_any _ _ [[111, 110], [103, 111]] [[111, 110], [103, 111]] _ (HM.out.alloc _).rd (rd_two w1 [111, 110] [103, 111]) (by decide)).mono ?_
    rintro e w2 ⟨rfl, n, rfl⟩
    rw [show decide ([[111, 110], [103, 111]] = ([[111, 110], [103, 111]] : List (List UInt8))) = true from by decide]
    go_wp2_with fail
    refine (name_at ⟨#[97, 95, 49]⟩ true (by decide +kernel) _).mono ?_
    rintro e w' ⟨rfl, rfl⟩
    go_wp2_with fail
    refine (name_at ⟨#[105, 110]⟩ false (by decide +kernel) _).mono ?_
    rintro e w' ⟨rfl, rfl⟩
    go_wp2_with fail
    have hb : Below w.heap.size w ((w1.alloc (.cells #[strV [111, 110], strV [103, 111]] 9)).drewN n) := by
      have := (HM.out.below.alloc HM.out.below.size (.cells #[strV [111, 110], strV [103, 111]] 9))
      exact ⟨this.os, this.tape, this.output, this.size, this.block⟩
    have hl2 : Laid ((w1.alloc (.cells #[strV [111, 110], strV [103, 111]] 9)).drewN n) := HL.out.below hb
    have HB := Lib.hid hb; have HL2 := Lib.hid hl2; clear hb hl2
    refine (digits_any (-7) _ (by omega) (by omega) HL2.out).mono ?_
    rintro e w3 ⟨rfl, hb3⟩
    rw [itoa_7]
    have HB3 := Lib.hid hb3; clear hb3
    go_wp2
    go_ret
    exact ⟨rfl, HB.out.trans (HB3.out.mono HB.out.size)⟩
  · exact absurd (line_ongo.1.symm.trans h) (by decide)
end Go.Proofs.YtjjfmffmcchlmaaDoor
