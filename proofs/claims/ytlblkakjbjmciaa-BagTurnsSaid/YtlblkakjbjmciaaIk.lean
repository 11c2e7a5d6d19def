/- Layer 17: the chapter's example holds. -/
import Derived.Test.YtlblkakjbjmciaaIg
import Derived.Test.YtlblkakjbjmciaaIi
import Derived.Test.YtlblkakjbjmciaaIj
namespace Go.Proofs.Ytlblkakjbjmciaa.Bg
open Go.RowKit Go.Proofs.Ytlblkakjbjmciaa.Wi
set_option maxRecDepth 100000

theorem w1_any (K : Nat) (w : World) (h : BagAt K [] w) : Calls Try.prog 8 #[bp K, .string ⟨#[97]⟩] w fun e w' => e = .returned (.bool true) ∧ BagAt K [([97], false)] w' ∧ Fr K w w' := put_any h ⟨#[97]⟩ (by decide)
theorem w2_any (K : Nat) (w : World) (h : BagAt K [([97], false)] w) : Calls Try.prog 8 #[bp K, .string ⟨#[98]⟩] w fun e w' => e = .returned (.bool true) ∧ BagAt K [([97], false), ([98], false)] w' ∧ Fr K w w' := put_any h ⟨#[98]⟩ (by decide)
theorem w3_any (K : Nat) (w : World) (h : BagAt K [([97], false), ([98], false)] w) : Calls Try.prog 13 #[bp K, .int .i64 0] w fun e w' => e = .returned (.int .i64 0) ∧ BagAt K [([97], false), ([98], false), ([97], false)] w' ∧ Fr K w w' := by
  have h1 := twice_any h 0
  rw [show twiceE [([97], false), ([98], false)] 0 = 0 by decide, show twiceB [([97], false), ([98], false)] 0 = [([97], false), ([98], false), ([97], false)] by decide] at h1
  exact h1
theorem w4_any (K : Nat) (w : World) (h : BagAt K [([97], false), ([98], false), ([97], false)] w) : Calls Try.prog 15 #[bp K, .int .i64 1] w fun e w' => e = .returned (.tuple #[.string ⟨#[98]⟩, .int .i64 0]) ∧ BagAt K [([97], false), ([97], false)] w' ∧ Fr K w w' := by
  have h1 := take_any h (by decide) 1
  rw [show askE [([97], false), ([98], false), ([97], false)] 1 = 0 by decide, show takeB [([97], false), ([98], false), ([97], false)] 1 = [([97], false), ([97], false)] by decide, show takeS [([97], false), ([98], false), ([97], false)] 1 = [98] by decide] at h1
  exact h1
theorem w5_any (K : Nat) (w : World) (h : BagAt K [([97], false), ([97], false)] w) : Calls Try.prog 12 #[bp K, .int .i64 0, .int .i64 9] w fun e w' => e = .returned (.int .i64 0) ∧ BagAt K [([99], true), ([97], false)] w' ∧ Fr K w w' := by
  have h1 := turn_any h (by decide) 0 9 (by decide)
  rw [show turnE [([97], false), ([97], false)] 0 9 = 0 by decide, show turnB [([97], false), ([97], false)] 0 9 = [([99], true), ([97], false)] by decide] at h1
  exact h1
theorem w6_any (K : Nat) (w : World) (h : BagAt K [([99], true), ([97], false)] w) : Calls Try.prog 12 #[bp K, .int .i64 0, .int .i64 0] w fun e w' => e = .returned (.int .i64 3) ∧ BagAt K [([99], true), ([97], false)] w' ∧ Fr K w w' := by
  have h1 := turn_any h (by decide) 0 0 (by decide)
  rw [show turnE [([99], true), ([97], false)] 0 0 = 3 by decide, show turnB [([99], true), ([97], false)] 0 0 = [([99], true), ([97], false)] by decide] at h1
  exact h1
theorem w7_any (K : Nat) (w : World) (h : BagAt K [([99], true), ([97], false)] w) : Calls Try.prog 11 #[bp K] w fun e w' => ∃ v, e = .returned v ∧ RdS w' v [[99], [97]] ∧ Below w.heap.size w w' := by
  exact (all_any h (by decide)).mono fun e w' ⟨v, h1, h2, h3⟩ => ⟨v, h1, RdS.own h2 rfl, h3⟩
theorem w8_any {v u : Value} {w : World} (h1 : RdS w v [[99], [97]]) (h2 : RdS w u [[99], [97]]) : Calls Try.prog 14 #[v, u] w fun e w' => e = .returned (.bool true) ∧ Below w.heap.size w w' := by
  have h3 := same_any v u _ _ w h1 h2 (by decide)
  rw [show decide ([[(99 : UInt8)], [97]] = [[99], [97]]) = true from rfl] at h3
  exact h3.mono fun e w' ⟨h4, n, h5⟩ => ⟨h4, by rw [h5]; exact ⟨rfl, rfl, rfl, Nat.le_refl _, fun _ _ => rfl⟩⟩
theorem two_read (w : World) : RdS (w.alloc (.cells #[.string ⟨#[99]⟩, .string ⟨#[97]⟩] 9)) (.slice (some ⟨w.heap.size, 0, none⟩) 2 2) [[99], [97]] := by
  refine ⟨_, 2, rfl, fun i hi => ⟨_, rfl, ?_⟩⟩
  rcases (show i = 0 ∨ i = 1 by simp at hi; omega) with rfl | rfl
  · simp [Addr.add]; rfl
  · simp [Addr.add]; rfl
set_option maxHeartbeats 3200000 in
theorem wakes_any (w : World) : Calls Try.prog 9 #[] w fun e w' => e = .returned (.bool true) ∧ Below w.heap.size w w' := by
  have HN := Lib.hid (new_any w)
  obtain ⟨K, hK⟩ : ∃ K, K = w.heap.size := ⟨_, rfl⟩
  have HK := Lib.hid hK
  have H1 := Lib.hid (w1_any K); have H2 := Lib.hid (w2_any K); have H3 := Lib.hid (w3_any K); have H4 := Lib.hid (w4_any K); have H5 := Lib.hid (w5_any K); have H6 := Lib.hid (w6_any K); have H7 := Lib.hid (w7_any K)
  rw [← hK] at HN
  clear hK
  have HG := Lib.hid (fun (x : World) => two_read x)
  unfold bp at *
  go_enter Try.func9, Try.ntmps9
  go_wp2_with fail
  refine HN.out.mono ?_
  rintro e w1 ⟨rfl, hb1, hw1⟩
  have HB := Lib.hid hb1; have HW := Lib.hid hw1
  clear hb1 hw1 HN
  go_wp2_with fail
  refine (H1.out _ HB.out).mono ?_
  rintro e w2 ⟨rfl, hb1, hf1⟩
  have HB2 := Lib.hid hb1; have HF2 := Lib.hid hf1
  clear hb1 hf1 H1 HB
  go_wp2_with fail
  refine (H2.out _ HB2.out).mono ?_
  rintro e w3 ⟨rfl, hb1, hf1⟩
  have HB3 := Lib.hid hb1; have HF3 := Lib.hid (HF2.out.trans hf1)
  clear hb1 hf1 H2 HB2 HF2
  go_wp2_with fail
  refine (H3.out _ HB3.out).mono ?_
  rintro e w4 ⟨rfl, hb1, hf1⟩
  have HB4 := Lib.hid hb1; have HF4 := Lib.hid (HF3.out.trans hf1)
  clear hb1 hf1 H3 HB3 HF3
  go_wp2_with fail
  refine (H4.out _ HB4.out).mono ?_
  rintro e w5 ⟨rfl, hb1, hf1⟩
  have HB5 := Lib.hid hb1; have HF5 := Lib.hid (HF4.out.trans hf1)
  clear hb1 hf1 H4 HB4 HF4
  go_wp2_with fail
  refine (H5.out _ HB5.out).mono ?_
  rintro e w6 ⟨rfl, hb1, hf1⟩
  have HB6 := Lib.hid hb1; have HF6 := Lib.hid (HF5.out.trans hf1)
  clear hb1 hf1 H5 HB5 HF5
  have heq : (([98] : List UInt8) == [98]) = true := rfl
  go_wp2_with fail
  refine (H6.out _ HB6.out).mono ?_
  rintro e w7 ⟨rfl, hb1, hf1⟩
  have HB7 := Lib.hid hb1; have HF7 := Lib.hid (HF6.out.trans hf1)
  clear hb1 hf1 H6 HB6 HF6
  go_wp2_with fail
  refine (H7.out _ HB7.out).mono ?_
  rintro e w8 ⟨v, rfl, hr, hw8⟩
  have HR := Lib.hid hr; have HW8 := Lib.hid hw8
  clear hr hw8 H7
  go_wp2_with fail
  refine (w8_any (RdS.later HR.out ((Below.refl _ _).alloc (Nat.le_refl _) _)) (HG.out _)).mono ?_
  rintro e w9 ⟨rfl, hw9⟩
  have hall : Below w.heap.size w w9 := by
    have h0 : Below w.heap.size w w1 := by rw [← HK.out]; exact HW.out
    have h1 := Fr.own h0 HF7.out (by rw [HK.out]; exact Nat.le_refl _)
    have h2 := h1.trans (HW8.out.mono h1.size)
    have h3 := h2.alloc h2.size (.cells #[.string ⟨#[99]⟩, .string ⟨#[97]⟩] 9)
    exact h3.trans (hw9.mono h3.size)
  have HA := Lib.hid hall
  clear hall hw9
  go_wp2
  go_ret
  exact ⟨rfl, HA.out⟩
end Go.Proofs.Ytlblkakjbjmciaa.Bg
