/- A list of states of one's own; the example wakes. -/
import Derived.Test.YtpmgleioldlolaaUl
namespace Go.Proofs.Ytpmgleioldlolaa
open Go.RowKit

theorem flatT_vals (xs : List SM) : ∀ u ∈ flatT xs, u.oneCell' = true := by
  intro u hu
  obtain ⟨x, _, hv⟩ := List.mem_flatMap.1 hu
  simp only [stV, List.mem_cons, List.not_mem_nil, or_false] at hv
  rcases hv with rfl | rfl | rfl | rfl | rfl | rfl <;> rfl
theorem Try.infoState : (Try.prog.info? 35).map (fun i => (i.zero, i.size, i.bytes)) = some (some (.agg #[.string ByteArray.empty, .int .i64 0, .int .i64 0, .string ByteArray.empty, .slice none 0 0, .slice none 0 0]), 6, 96) := by kernel_rfl

set_option maxHeartbeats 1000000 in
theorem copied_any (v : Value) (xs : List SM) (w : World) (hR : RdT w v xs) (hl : xs.length * 96 ≤ 140737488355328) :
    Calls Try.prog 11 #[v] w fun e w' => ∃ u, e = .returned u ∧ RdT w' u xs ∧ Below w.heap.size w w' := by
  obtain ⟨ia, hi0, hi1, hi2, hi3⟩ := info_parts Try.infoState
  have HX0 := Lib.hid hi0; have HX1 := Lib.hid hi1; have HX2 := Lib.hid hi2; have HX3 := Lib.hid hi3
  obtain ⟨A, c, rfl⟩ := hR.form
  have HW : Hid (Below w.heap.size w (w.alloc (.cells #[] 35))) := (Below.refl _ _).alloc (Nat.le_refl _) _
  have HE : Hid ((w.alloc (.cells #[] 35)).ownsRow w.heap.size 35 6 (.slice (some ⟨w.heap.size, 0, none⟩) 0 0) 0 []) := World.ownsRow_made w #[] 0 (Nat.le_refl _) (by unfold maxLen; omega) (by simp)
  have HI : Hid (Inn (w.alloc (.cells #[] 35)) 6 (.slice A xs.length c) xs.length (flatT xs)) := Inn.below hR HW.out
  obtain ⟨n, hn⟩ : ∃ n, xs.length = n := ⟨_, rfl⟩
  have HN := Lib.hid hn
  rw [hn] at hl HI ⊢
  clear hi0 hi1 hi2 hi3 hR hn
  go_enter Try.func11, Try.ntmps11
  go_wp2_with (at_builtin; refine Ow.wpList_append rfl (.tmp 3) (.tmp 4) 22 rfl w.heap.size 35 ia _ 6 96 Try.underlying22 HX0.out HX1.out HX2.out HX3.out rfl (by decide) _ 0 [] rfl HE.out _ n (flatT xs) rfl HI.out (flatT_vals xs) (by unfold maxLen; omega) (by omega) (by simp) ?_)
  intro v1 w1 ho1 hg1 _
  have ho1 : w1.ownsRow w.heap.size 35 6 v1 n (flatT xs) := by simpa using ho1
  have HB1 : Hid (Below w.heap.size w w1) := HW.out.grown hg1 (by simp) (fun k hk => (HE.out.lt k hk).1)
  have HRD : Hid (RdT w1 v1 xs) := by
    show Inn w1 6 v1 xs.length (flatT xs)
    rw [HN.out]; exact Inn.of_own ho1
  clear ho1 hg1
  go_wp2
  go_ret
  exact ⟨_, rfl, HRD.out, HB1.out⟩

/-- the example's tree -/
def someX : List SM := [⟨⟨#[]⟩, 2, 0, ⟨#[]⟩, none, 0, 0, none, 0, 0⟩, ⟨⟨#[]⟩, 1, 1, ⟨#[]⟩, none, 0, 0, none, 0, 0⟩, ⟨⟨#[]⟩, 3, 1, ⟨#[]⟩, none, 0, 0, none, 0, 0⟩, ⟨⟨#[]⟩, 1, 2, ⟨#[]⟩, none, 0, 0, none, 0, 0⟩]
theorem inn_new (w : World) {D : Nat} (hD : w.heap.size = D) (size n : Nat) (t : TypeId) (cs : List Value) (hl : cs.length = n * size) : Inn (w.alloc (.cells cs.toArray t)) size (.slice (some ⟨D, 0, none⟩) n n) n cs := by
  subst hD
  refine Or.inr ⟨⟨w.heap.size, 0, none⟩, _, rfl, hl, fun _ => ⟨w.heap.size, 0, rfl, by simp, fun j u hu => ?_⟩⟩
  have := heap_alloc_new w (.cells cs.toArray t)
  simp only [World.cell?, Nat.zero_add]
  rw [this]
  simpa using hu
theorem some_any (w : World) : Calls Try.prog 27 #[] w fun e w' => ∃ u, e = .returned u ∧ RdT w' u someX ∧ Below w.heap.size w w' := by
  have HI : Hid (RdT (w.alloc (.cells (flatT someX).toArray 35)) (.slice (some ⟨w.heap.size, 0, none⟩) 4 4) someX) := inn_new w rfl 6 4 _ _ rfl
  have HB : Hid (Below w.heap.size w (w.alloc (.cells (flatT someX).toArray 35))) := (Below.refl _ _).alloc (Nat.le_refl _) _
  go_enter Try.func27, Try.ntmps27
  go_wp2
  go_ret
  exact ⟨_, rfl, HI.out, HB.out⟩

theorem four {p : Nat → Prop} (h0 : p 0) (h1 : p 1) (h2 : p 2) (h3 : p 3) : ∀ i, i < 4 → p i := by
  intro i hi
  have : i = 0 ∨ i = 1 ∨ i = 2 ∨ i = 3 := by omega
  rcases this with rfl | rfl | rfl | rfl <;> assumption
theorem some_d : dp someX 0 = 0 ∧ dp someX 1 = 1 ∧ dp someX 2 = 1 ∧ dp someX 3 = 2 := ⟨rfl, rfl, rfl, rfl⟩
theorem some_k : kp someX 0 = 2 ∧ kp someX 1 = 1 ∧ kp someX 2 = 3 ∧ kp someX 3 = 1 := ⟨rfl, rfl, rfl, rfl⟩
theorem some_nst : Nst (dp someX) 4 := nst_ok.2 (four ⟨by decide, by decide, by decide⟩ ⟨by decide, by decide, by decide⟩ ⟨by decide, by decide, by decide⟩ ⟨by decide, by decide, by decide⟩)
theorem some_par : par (dp someX) 0 = -1 ∧ par (dp someX) 1 = 0 ∧ par (dp someX) 2 = 0 ∧ par (dp someX) 3 = 2 := by decide
theorem some_kids : kids (dp someX) 4 0 = [1, 2] ∧ kids (dp someX) 4 1 = [] ∧ kids (dp someX) 4 2 = [3] ∧ kids (dp someX) 4 3 = [] := by decide
theorem some_right : RightP (dp someX) (kp someX) someX.length := by
  obtain ⟨k0, k1, k2, k3⟩ := some_kids
  refine ⟨by decide, by decide, some_nst, four ⟨by decide, by decide⟩ ⟨by decide, by decide⟩ ⟨by decide, by decide⟩ ⟨by decide, by decide⟩, four ?_ ?_ ?_ ?_, by decide⟩
  · show (∀ k ∈ kids (dp someX) 4 0, _) ∧ ((∃ k ∈ kids (dp someX) 4 0, _) ↔ _)
    rw [k0]; decide
  · show (∀ k ∈ kids (dp someX) 4 1, _) ∧ ((∃ k ∈ kids (dp someX) 4 1, _) ↔ _)
    rw [k1]; decide
  · show (∀ k ∈ kids (dp someX) 4 2, _) ∧ ((∃ k ∈ kids (dp someX) 4 2, _) ↔ _)
    rw [k2]; decide
  · show (∀ k ∈ kids (dp someX) 4 3, _) ∧ ((∃ k ∈ kids (dp someX) 4 3, _) ↔ _)
    rw [k3]; decide
theorem some_dom : dom (dp someX) (kp someX) 1 3 = 0 := by
  rw [some_nst.dom_par (k := 1) (p := 0) (by decide) (decide_eq_false (fun h => by have := h.1; exact absurd this (by decide))) some_par.2.1]
  refine dom_here (decide_eq_true ⟨by decide, by decide, fun m h1 h2 => ?_⟩)
  have : m = 1 ∨ m = 2 ∨ m = 3 := by omega
  rcases this with rfl | rfl | rfl <;> decide
theorem some_en : en (dp someX) someX.length 1 = 2 := by decide

set_option maxHeartbeats 2000000 in
theorem wakes_any (w : World) : Calls Try.prog 9 #[] w fun e w' => e = .returned (.bool true) ∧ Below w.heap.size w w' := by
  have HS := Lib.hid some_any
  have H1 := Lib.hid (fun v W (h : RdT W v someX) => right_any v someX W h (by decide))
  rw [decide_eq_true some_right] at H1
  have H2 := Lib.hid (fun v W (h : RdT W v someX) => parent_yes v someX 3 W h (by decide) some_right)
  rw [some_par.2.2.2] at H2
  have H3 := Lib.hid (fun v W (h : RdT W v someX) => end_yes v someX 1 W h (by decide) some_right)
  rw [some_en] at H3
  have H4 := Lib.hid (fun v W (h : RdT W v someX) => domain_yes v someX 1 3 W h (by decide) (by decide) some_right)
  rw [some_dom] at H4
  have H5 := Lib.hid (fun v W (h : RdT W v someX) => kids_any v someX 0 W h (by decide) some_right)
  rw [show someX.length = 4 from rfl, some_kids.1] at H5
  go_enter Try.func9, Try.ntmps9
  go_wp2_with (fail)
  refine (HS.out _).mono ?_
  rintro e w1 ⟨v1, rfl, hr1, hb1⟩
  have HB1 := Lib.hid hb1; have HR1 := Lib.hid hr1; clear hb1 hr1
  go_wp2_with (fail)
  refine (H1.out _ _ HR1.out).mono ?_
  rintro e w2 ⟨rfl, hb⟩
  have HB2 := Lib.hid (HB1.out.trans (hb.mono HB1.out.size)); clear hb
  go_wp2_with (fail)
  refine (HS.out _).mono ?_
  rintro e w3 ⟨v3, rfl, hr3, hb⟩
  have HB3 := Lib.hid (HB2.out.trans (hb.mono HB2.out.size)); have HR3 := Lib.hid hr3; clear hb hr3
  go_wp2_with (fail)
  refine (H2.out _ _ HR3.out).mono ?_
  rintro e w4 ⟨rfl, hb⟩
  have HB4 := Lib.hid (HB3.out.trans (hb.mono HB3.out.size)); clear hb
  go_wp2_with (fail)
  refine (HS.out _).mono ?_
  rintro e w5 ⟨v5, rfl, hr5, hb⟩
  have HB5 := Lib.hid (HB4.out.trans (hb.mono HB4.out.size)); have HR5 := Lib.hid hr5; clear hb hr5
  go_wp2_with (fail)
  refine (H3.out _ _ HR5.out).mono ?_
  rintro e w6 ⟨rfl, hb⟩
  have HB6 := Lib.hid (HB5.out.trans (hb.mono HB5.out.size)); clear hb
  go_wp2_with (fail)
  refine (HS.out _).mono ?_
  rintro e w7 ⟨v7, rfl, hr7, hb⟩
  have HB7 := Lib.hid (HB6.out.trans (hb.mono HB6.out.size)); have HR7 := Lib.hid hr7; clear hb hr7
  go_wp2_with (fail)
  refine (H4.out _ _ HR7.out).mono ?_
  rintro e w8 ⟨rfl, hb⟩
  have HB8 := Lib.hid (HB7.out.trans (hb.mono HB7.out.size)); clear hb
  go_wp2_with (fail)
  refine (HS.out _).mono ?_
  rintro e w9 ⟨v9, rfl, hr9, hb⟩
  have HB9 := Lib.hid (HB8.out.trans (hb.mono HB8.out.size)); have HR9 := Lib.hid hr9; clear hb hr9
  go_wp2_with (fail)
  refine (H5.out _ _ HR9.out).mono ?_
  rintro e wA ⟨⟨u, rfl, hown⟩, hb⟩
  have HBA := Lib.hid (HB9.out.trans (hb.mono HB9.out.size)); clear hb
  have HOW : Hid (RdN wA u [1, 2]) := Inn.of_own hown
  have HAL : Hid (Below w.heap.size w (wA.alloc (.cells #[.int .i64 1, .int .i64 2] 3))) := HBA.out.alloc HBA.out.size _
  have HSA := Lib.hid (same_any u (.slice (some ⟨wA.heap.size, 0, none⟩) 2 2) [1, 2] [1, 2] (wA.alloc (.cells #[.int .i64 1, .int .i64 2] 3)) (Inn.below HOW.out ((Below.refl _ _).alloc (Nat.le_refl _) _)) (inn_new wA rfl 1 2 _ _ rfl) (by decide) (by decide))
  clear hown
  go_wp2_with (fail)
  refine HSA.out.mono ?_
  rintro e wB ⟨rfl, q, rfl⟩
  go_wp2
  go_ret
  exact ⟨rfl, below_drewN HAL.out q⟩
end Go.Proofs.Ytpmgleioldlolaa
