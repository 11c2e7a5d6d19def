/- The laws' examples (wakes of quintainlaw05), and the program's value by lists of its own. -/
import Derived.Test.YtpidikbhjiaogaaVt
namespace Go.Proofs.Ytpidikbhjiaogaa
open Go.RowKit

theorem own_low {w : World} {B B' : Nat} {e : TypeId} {size n : Nat} {v : Value} {xs : List Value} (h : w.ownsRow B e size v n xs) (hb : B' ≤ B) : w.ownsRow B' e size v n xs := by
  obtain ⟨h1, h2⟩ := h
  refine ⟨h1, ?_⟩
  rcases h2 with h2 | ⟨g, cap, cur, h3, h4, h5⟩
  · exact Or.inl h2
  · exact Or.inr ⟨g, cap, cur, h3, by omega, h5⟩
theorem own_made0 (w : World) (e : TypeId) (size : Nat) : (w.alloc (.cells #[] e)).ownsRow 0 e size (.slice (some ⟨w.heap.size, 0, none⟩) 0 0) 0 [] :=
  own_low (World.ownsRow_made w #[] 0 (Nat.le_refl _) (by unfold maxLen; omega) (by simp)) (Nat.zero_le _)
theorem infoVal : (Try.prog.info? 23).map (fun i => (i.zero, i.size, i.bytes)) = some (some (.agg #[.int .i64 0, .int .i64 0, .int .i64 0]), 3, 24) := by kernel_rfl
theorem rd_new_cells (w : World) (cs : List CM) (arr : Array Value) (t : TypeId) (n : Nat) (h : arr.toList = flat cs) (hn : n = cs.length) : RdC (w.alloc (.cells arr t)) (.slice (some ⟨w.heap.size, 0, none⟩) n n) cs := by
  subst hn
  refine ⟨_, _, rfl, fun i hi => ⟨_, _, rfl, ?_⟩⟩
  obtain ⟨f0, f1, f2⟩ := flat_at hi
  have key : ∀ j u, (flat cs)[j]? = some u → (w.alloc (.cells arr t)).cell? ⟨w.heap.size, j, none⟩ = some u := by
    intro j u hu
    rw [cell_of_row _ _ j _ _ _ (heap_alloc_new w _), ← Array.getElem?_toList, h]; exact hu
  rw [Nat.zero_add]
  exact ⟨key _ _ f0, key _ _ f1, key _ _ f2⟩
/-- cells that are read are cells -/
theorem rd_of_inn {w : World} {v : Value} {cs : List CM} (h : Inn w 3 v cs.length (flat cs)) : RdC w v cs := by
  obtain ⟨A, c, rfl⟩ := h.form
  refine ⟨A, c, rfl, fun i hi => ?_⟩
  obtain ⟨b, o, hA, _, hc⟩ := Inn.at_ h hi
  obtain ⟨f0, f1, f2⟩ := flat_at hi
  exact ⟨b, o, hA, hc 0 _ f0, hc 1 _ f1, hc 2 _ f2⟩
/-- lists of one's own, laid beside each other, are read -/
theorem evOf_own (v vv xv sv : Value) (cs : List CM) (vs : List VM) (xs : List VA) (ss : List (List UInt8)) (w : World) (hR : w.ownsRow 0 41 3 v cs.length (flat cs)) (hl : cs.length ≤ 4611686018427387904)
    (hV : w.ownsRow 0 39 7 vv vs.length (flatV vs)) (hX : w.ownsRow 0 23 3 xv xs.length (flatX xs)) (hS : w.ownsRow 0 9 1 sv ss.length (ss.map bstr)) (hvl : vs.length ≤ 4611686018427387904) (hxl : xs.length ≤ 4611686018427387904) (hsl : ss.length ≤ 4611686018427387904) (hi : ∀ x ∈ xs, inL x.a = true) :
    Calls Try.prog 18 #[v, vv, xv, sv] w fun e w' => e = outW (evP vs xs ss cs) ∧ Below w.heap.size w w' :=
  evOf_any v vv xv sv cs vs xs ss w (rd_of_inn (Inn.of_own hR)) hl (Inn.of_own hV) (Inn.of_own hX) (Inn.of_own hS) hvl hxl hsl hi

def sevenC : List CM := [⟨1, 7, []⟩, ⟨7, 0, []⟩, ⟨1, 2, []⟩, ⟨14, 0, []⟩]
def squareC : List CM := [⟨2, 1, []⟩, ⟨2, 1, []⟩, ⟨13, 0, []⟩]
theorem ev_seven : evP [] [] [] sevenC = (⟨1, -3, 0⟩, 0) := by kernel_rfl
theorem ev_square : evP [] [] [] squareC = (⟨3, -1, 0⟩, 0) := by kernel_rfl

theorem own_fresh {W : World} {ob : Obj} {n c g : Nat} (h : Oz.ownB (.slice (some ⟨W.heap.size, 0, none⟩) n c) = some g) : W.heap.size ≤ g ∧ g < (W.alloc ob).heap.size := by
  simp [Oz.ownB, Value.ownBlock] at h
  subst h; simp
set_option maxRecDepth 100000 in
theorem wake_seven (W : World) (D : Nat) (hD : W.heap.size = D) : Calls Try.prog 18 #[.slice (some ⟨D, 0, none⟩) 4 4, .slice none 0 0, .slice none 0 0, .slice none 0 0] (W.alloc (.cells #[.int .i64 1, .int .i64 7, .string ⟨#[]⟩, .int .i64 7, .int .i64 0, .string ⟨#[]⟩, .int .i64 1, .int .i64 2, .string ⟨#[]⟩, .int .i64 14, .int .i64 0, .string ⟨#[]⟩] 41)) fun e w' => e = .returned (.tuple #[.agg #[.int .i64 1, .int .i64 (-3), .int .i64 0], .int .i64 0]) ∧ Below (W.alloc (.cells #[.int .i64 1, .int .i64 7, .string ⟨#[]⟩, .int .i64 7, .int .i64 0, .string ⟨#[]⟩, .int .i64 1, .int .i64 2, .string ⟨#[]⟩, .int .i64 14, .int .i64 0, .string ⟨#[]⟩] 41)).heap.size (W.alloc (.cells #[.int .i64 1, .int .i64 7, .string ⟨#[]⟩, .int .i64 7, .int .i64 0, .string ⟨#[]⟩, .int .i64 1, .int .i64 2, .string ⟨#[]⟩, .int .i64 14, .int .i64 0, .string ⟨#[]⟩] 41)) w' := by
  subst hD
  have h := evOf_any _ (.slice none 0 0) (.slice none 0 0) (.slice none 0 0) sevenC [] [] [] _ (rd_new_cells W sevenC #[.int .i64 1, .int .i64 7, .string ⟨#[]⟩, .int .i64 7, .int .i64 0, .string ⟨#[]⟩, .int .i64 1, .int .i64 2, .string ⟨#[]⟩, .int .i64 14, .int .i64 0, .string ⟨#[]⟩] 41 4 rfl rfl) (by decide) (Inn.nil _ _) (Inn.nil _ _) (Inn.nil _ _) (by decide) (by decide) (by decide) (fun x hx => by cases hx)
  rw [ev_seven] at h
  exact h
set_option maxRecDepth 100000 in
theorem wake_square (W : World) (D : Nat) (hD : W.heap.size = D) : Calls Try.prog 18 #[.slice (some ⟨D, 0, none⟩) 3 3, .slice none 0 0, .slice none 0 0, .slice none 0 0] (W.alloc (.cells #[.int .i64 2, .int .i64 1, .string ⟨#[]⟩, .int .i64 2, .int .i64 1, .string ⟨#[]⟩, .int .i64 13, .int .i64 0, .string ⟨#[]⟩] 41)) fun e w' => e = .returned (.tuple #[.agg #[.int .i64 3, .int .i64 (-1), .int .i64 0], .int .i64 0]) ∧ Below (W.alloc (.cells #[.int .i64 2, .int .i64 1, .string ⟨#[]⟩, .int .i64 2, .int .i64 1, .string ⟨#[]⟩, .int .i64 13, .int .i64 0, .string ⟨#[]⟩] 41)).heap.size (W.alloc (.cells #[.int .i64 2, .int .i64 1, .string ⟨#[]⟩, .int .i64 2, .int .i64 1, .string ⟨#[]⟩, .int .i64 13, .int .i64 0, .string ⟨#[]⟩] 41)) w' := by
  subst hD
  have h := evOf_any _ (.slice none 0 0) (.slice none 0 0) (.slice none 0 0) squareC [] [] [] _ (rd_new_cells W squareC #[.int .i64 2, .int .i64 1, .string ⟨#[]⟩, .int .i64 2, .int .i64 1, .string ⟨#[]⟩, .int .i64 13, .int .i64 0, .string ⟨#[]⟩] 41 3 rfl rfl) (by decide) (Inn.nil _ _) (Inn.nil _ _) (Inn.nil _ _) (by decide) (by decide) (by decide) (fun x hx => by cases hx)
  rw [ev_square] at h
  exact h

set_option maxRecDepth 100000 in
set_option maxHeartbeats 2000000 in
theorem wakes5_any (w : World) :
    Calls Try.prog 9 #[] w fun e w' => e = .returned (.bool true) ∧ Below w.heap.size w w' := by
  have HB0 : Hid (Below w.heap.size w (w.alloc (.cells #[.int .i64 1, .int .i64 7, .string ⟨#[]⟩, .int .i64 7, .int .i64 0, .string ⟨#[]⟩, .int .i64 1, .int .i64 2, .string ⟨#[]⟩, .int .i64 14, .int .i64 0, .string ⟨#[]⟩] 41))) := (Below.refl _ _).alloc (Nat.le_refl _) _
  go_enter Try.func9, Try.ntmps9
  go_wp2_with fail
  refine (wake_seven w _ rfl).mono ?_
  rintro e w1 ⟨rfl, hb1⟩
  have HB1 := Lib.hid (HB0.out.trans (hb1.mono HB0.out.size))
  clear hb1
  go_wp2_with fail
  refine (wake_square (w1.alloc (.cells #[.int .i64 1, .int .i64 (-3), .int .i64 0] 23)) (w1.heap.size + 1) (by simp)).mono ?_
  rintro e w2 ⟨rfl, hb2⟩
  have HBA : Hid (Below w.heap.size w (w1.alloc (.cells #[.int .i64 1, .int .i64 (-3), .int .i64 0] 23))) := HB1.out.alloc HB1.out.size _
  have HBB : Hid (Below w.heap.size w ((w1.alloc (.cells #[.int .i64 1, .int .i64 (-3), .int .i64 0] 23)).alloc (.cells #[.int .i64 2, .int .i64 1, .string ⟨#[]⟩, .int .i64 2, .int .i64 1, .string ⟨#[]⟩, .int .i64 13, .int .i64 0, .string ⟨#[]⟩] 41))) := HBA.out.alloc HBA.out.size _
  have HB2 := Lib.hid (HBB.out.trans (hb2.mono HBB.out.size))
  have c0 : w2.cell? ⟨w1.heap.size, 0, none⟩ = some (.int .i64 1) := (hb2.cell (p := ⟨w1.heap.size, 0, none⟩) (by simp; omega)).trans (old_cell (new_cell (v := .int .i64 1) rfl rfl))
  have c1 : w2.cell? ⟨w1.heap.size, 1, none⟩ = some (.int .i64 (-3)) := (hb2.cell (p := ⟨w1.heap.size, 1, none⟩) (by simp; omega)).trans (old_cell (new_cell (v := .int .i64 (-3)) rfl rfl))
  have c2 : w2.cell? ⟨w1.heap.size, 2, none⟩ = some (.int .i64 0) := (hb2.cell (p := ⟨w1.heap.size, 2, none⟩) (by simp; omega)).trans (old_cell (new_cell (v := .int .i64 0) rfl rfl))
  have hz2 : w1.heap.size < w2.heap.size := by have := hb2.size; simp at this; omega
  have e0 := old_cell (o := .cells #[.int .i64 3, .int .i64 (-1), .int .i64 0] 23) c0
  have e1 := old_cell (o := .cells #[.int .i64 3, .int .i64 (-1), .int .i64 0] 23) c1
  have e2 := old_cell (o := .cells #[.int .i64 3, .int .i64 (-1), .int .i64 0] 23) c2
  clear hb2
  go_wp2
  go_ret
  exact ⟨rfl, HB2.out.alloc HB2.out.size _⟩

set_option maxRecDepth 100000 in
set_option maxHeartbeats 4000000 in
theorem of5_any (vl vv xv sv : Value) (cs : List CM) (vs : List VM) (xs : List VA) (ss : List (List UInt8)) (w : World) (hR : RdI w vl cs) (hl : cs.length * 32 ≤ 140737488355328) (hV : RdV w vv vs) (hvl : vs.length * 64 ≤ 140737488355328) (hX : RdX w xv xs) (hxl : xs.length * 24 ≤ 140737488355328) (hS : RdW w sv ss) (hsl : ss.length * 16 ≤ 140737488355328) (hi : ∀ x ∈ xs, inL x.a = true) :
    Calls Try.prog 12 #[vl, .agg #[vv, xv, sv]] w fun e w' => e = outW (evP vs xs ss cs) ∧ Below w.heap.size w w' := by
  obtain ⟨V, vc, rfl⟩ := hV.form
  obtain ⟨X, xc, rfl⟩ := hX.form
  obtain ⟨S, sc, rfl⟩ := hS.form
  have hin := hR.inn
  obtain ⟨A, c0, rfl⟩ := hin.form
  obtain ⟨ic, hc0, hc1, hc2, hc3⟩ := info_parts Try.infoCell
  have HC0 := Lib.hid hc0; have HC1 := Lib.hid hc1; have HC2 := Lib.hid hc2; have HC3 := Lib.hid hc3
  clear hc0 hc1 hc2 hc3
  obtain ⟨iv, hv0, hv1, hv2, hv3⟩ := info_parts infoVar
  have HV0 := Lib.hid hv0; have HV1 := Lib.hid hv1; have HV2 := Lib.hid hv2; have HV3 := Lib.hid hv3
  clear hv0 hv1 hv2 hv3
  obtain ⟨ix, hx0, hx1, hx2, hx3⟩ := info_parts infoVal
  have HX0 := Lib.hid hx0; have HX1 := Lib.hid hx1; have HX2 := Lib.hid hx2; have HX3 := Lib.hid hx3
  clear hx0 hx1 hx2 hx3
  obtain ⟨is, hs0, hs1, hs2, hs3⟩ := info_parts infoStr
  have HS0 := Lib.hid hs0; have HS1 := Lib.hid hs1; have HS2 := Lib.hid hs2; have HS3 := Lib.hid hs3
  clear hs0 hs1 hs2 hs3
  have HBX : Hid (Below w.heap.size w ((w.alloc (.cells #[.slice V vs.length vc, .slice X xs.length xc, .slice S ss.length sc] 31)).alloc (.cells #[.int .i64 0, .int .i64 0, .int .i64 0] 23))) := ((Below.refl _ _).alloc (Nat.le_refl _) _).alloc (by simp) _
  have HDZ : Hid (((w.alloc (.cells #[.slice V vs.length vc, .slice X xs.length xc, .slice S ss.length sc] 31)).alloc (.cells #[.int .i64 0, .int .i64 0, .int .i64 0] 23)).heap[w.heap.size + 1]? = some (.cells #[.int .i64 0, .int .i64 0, .int .i64 0] 23 (0, 0))) := heap_at (by simp) _ _
  have HW1 : Hid (∀ w1, Below (w.heap.size + 1) ((w.alloc (.cells #[.slice V vs.length vc, .slice X xs.length xc, .slice S ss.length sc] 31)).alloc (.cells #[.int .i64 0, .int .i64 0, .int .i64 0] 23)).drew w1 → Below w.heap.size w w1) := fun w1 hb => HBX.out.trans (((Below.refl _ _).drew.trans hb).mono (by omega))
  have HIC : Hid (∀ w1, Below (w.heap.size + 1) ((w.alloc (.cells #[.slice V vs.length vc, .slice X xs.length xc, .slice S ss.length sc] 31)).alloc (.cells #[.int .i64 0, .int .i64 0, .int .i64 0] 23)).drew w1 → Inn w1 3 (.slice A cs.length c0) cs.length (flat cs)) := fun w1 hb => hin.below (HW1.out w1 hb)
  have HIV : Hid (∀ w1, Below (w.heap.size + 1) ((w.alloc (.cells #[.slice V vs.length vc, .slice X xs.length xc, .slice S ss.length sc] 31)).alloc (.cells #[.int .i64 0, .int .i64 0, .int .i64 0] 23)).drew w1 → Inn w1 7 (.slice V vs.length vc) vs.length (flatV vs)) := fun w1 hb => hV.below (HW1.out w1 hb)
  have HIX : Hid (∀ w1, Below (w.heap.size + 1) ((w.alloc (.cells #[.slice V vs.length vc, .slice X xs.length xc, .slice S ss.length sc] 31)).alloc (.cells #[.int .i64 0, .int .i64 0, .int .i64 0] 23)).drew w1 → Inn w1 3 (.slice X xs.length xc) xs.length (flatX xs)) := fun w1 hb => hX.below (HW1.out w1 hb)
  have HIS : Hid (∀ w1, Below (w.heap.size + 1) ((w.alloc (.cells #[.slice V vs.length vc, .slice X xs.length xc, .slice S ss.length sc] 31)).alloc (.cells #[.int .i64 0, .int .i64 0, .int .i64 0] 23)).drew w1 → Inn w1 1 (.slice S ss.length sc) ss.length (ss.map bstr)) := fun w1 hb => hS.below (HW1.out w1 hb)
  have hev := fun w1 v1 v2 v3 v4 h1 h2 h3 h4 => evOf_own v1 v2 v3 v4 cs vs xs ss w1 h1 (by omega) h2 h3 h4 (by omega) (by omega) (by omega) hi
  generalize evP vs xs ss cs = r at *
  obtain ⟨⟨rk, ra, rb⟩, re⟩ := r
  have HEV : Hid (∀ (w1 : World) (v1 v2 v3 v4 : Value), w1.ownsRow 0 41 3 v1 cs.length (flat cs) → w1.ownsRow 0 39 7 v2 vs.length (flatV vs) → w1.ownsRow 0 23 3 v3 xs.length (flatX xs) → w1.ownsRow 0 9 1 v4 ss.length (ss.map bstr) → Calls Try.prog 18 #[v1, v2, v3, v4] w1 fun e w' => e = .returned (.tuple #[.agg #[.int .i64 rk, .int .i64 ra, .int .i64 rb], .int .i64 re]) ∧ Below w1.heap.size w1 w') := hev
  clear hev hR hV hX hS hin hi
  go_enter Try.func12, Try.ntmps12
  go_wp2_with fail
  refine Oz.region_box 24 [fun v w' => w'.ownsRow 0 41 3 v 0 [], Ow.eqR (.slice A cs.length c0), fun v w' => w'.ownsRow 0 41 3 v cs.length (flat cs), fun v w' => w'.ownsRow 0 39 7 v 0 [], Ow.eqR (.pointer (some ⟨w.heap.size, 0, none⟩)), Ow.eqR (.slice V vs.length vc), fun v w' => w'.ownsRow 0 39 7 v vs.length (flatV vs), fun v w' => w'.ownsRow 0 23 3 v 0 [], Ow.eqR (.pointer (some ⟨w.heap.size, 1, none⟩)), Ow.eqR (.slice X xs.length xc), fun v w' => w'.ownsRow 0 23 3 v xs.length (flatX xs), fun v w' => w'.ownsRow 0 9 1 v 0 [], Ow.eqR (.pointer (some ⟨w.heap.size, 2, none⟩)), Ow.eqR (.slice S ss.length sc), fun v w' => w'.ownsRow 0 9 1 v ss.length (ss.map bstr), Ow.eqR (.tuple #[.agg #[.int .i64 rk, .int .i64 ra, .int .i64 rb], .int .i64 re]), Ow.eqR (.agg #[.int .i64 rk, .int .i64 ra, .int .i64 rb]), Ow.eqR (.int .i64 re), Oz.BoxR (w.heap.size + 1) 23 #[.int .i64 rk, .int .i64 ra, .int .i64 rb], Ow.eqR (.int .i64 re)] [true, false, true, true, false, false, true, true, false, false, true, true, false, false, true, false, false, false, true, false] [none, none, some 0, none, none, none, some 3, none, none, none, some 7, none, none, none, some 11, none, none, none, none, none] (w.heap.size + 1) 18 (w.heap.size + 1) ((Nat.le_refl _)) (by simp) (by simp) (by kernel_rfl) rfl (by kernel_rfl) ⟨Oz.keeps_own _ _ _ _ _, Oz.keeps_eq _ _, Oz.keeps_own _ _ _ _ _, Oz.keeps_own _ _ _ _ _, Oz.keeps_eq _ _, Oz.keeps_eq _ _, Oz.keeps_own _ _ _ _ _, Oz.keeps_own _ _ _ _ _, Oz.keeps_eq _ _, Oz.keeps_eq _ _, Oz.keeps_own _ _ _ _ _, Oz.keeps_own _ _ _ _ _, Oz.keeps_eq _ _, Oz.keeps_eq _ _, Oz.keeps_own _ _ _ _ _, Oz.keeps_eq _ _, Oz.keeps_eq _ _, Oz.keeps_eq _ _, Oz.keeps_box _ _ _, Oz.keeps_eq _ _, trivial⟩ ?_
  apply Oz.walk_cons rfl
  · intro w1 hb hu hd ho K hK
    have hz : w.heap.size + 1 ≤ w1.heap.size := by have := hb.size; simp at this; omega
    clear hu hd ho
    go_simp
    exact hK _ _ (Oz.good_new rfl hz ((Below.refl _ _).alloc (Nat.le_refl _) _) (own_made0 w1 41 3) (fun g hg => own_fresh hg))
  · intro v; simp only [Act.put, List.setIfInBounds_toArray, List.set_cons_succ, List.set_cons_zero]; exact rfl
  · intro v; exact (rfl : _ = ([v] : List Value))
  intro x6
  apply Oz.walk_cons rfl
  · intro w1 hb hu hd ho K hK
    clear hu hd ho
    go_simp
    exact hK _ _ (Oz.good_same rfl rfl rfl)
  · intro v; simp only [Act.put, List.setIfInBounds_toArray, List.set_cons_succ, List.set_cons_zero]; exact rfl
  · intro v; exact (rfl : _ = ([x6, v] : List Value))
  intro x7
  apply Oz.walk_cons rfl
  · intro w1 hb hu hd ho K hK
    have h6 := hd 0 (by kernel_rfl)
    have e7 : _ = x7 := Eq.symm (hd 1 (by kernel_rfl))
    subst e7
    have hz : w.heap.size + 1 ≤ w1.heap.size := by have := hb.size; simp at this; omega
    have hoo := ho 0 (by kernel_rfl) rfl
    clear hu hd ho
    refine Ow.step_append rfl (.tmp 6) (.tmp 7) 26 rfl 0 41 ic _ 3 32 Try.underlying26 HC0.out HC1.out HC2.out HC3.out rfl (by decide) x6 0 [] (by simp [Act.eval]) h6 _ cs.length (flat cs) (by simp [Act.eval]) (HIC.out w1 hb) (flat_vals _) (by unfold maxLen; omega) (by omega) (Nat.zero_le _) ?_
    intro v' w' hown hg hob
    simp only [Nat.zero_add, List.nil_append] at hown
    exact hK _ _ (Oz.good_row (k := 0) rfl hz h6 hg hown hown hoo hob)
  · intro v; simp only [Act.put, List.setIfInBounds_toArray, List.set_cons_succ, List.set_cons_zero]; exact rfl
  · intro v; exact (rfl : _ = ([x6, x7, v] : List Value))
  intro x8
  apply Oz.walk_cons rfl
  · intro w1 hb hu hd ho K hK
    have hz : w.heap.size + 1 ≤ w1.heap.size := by have := hb.size; simp at this; omega
    clear hu hd ho
    go_simp
    exact hK _ _ (Oz.good_new rfl hz ((Below.refl _ _).alloc (Nat.le_refl _) _) (own_made0 w1 39 7) (fun g hg => own_fresh hg))
  · intro v; simp only [Act.put, List.setIfInBounds_toArray, List.set_cons_succ, List.set_cons_zero]; exact rfl
  · intro v; exact (rfl : _ = ([x6, x7, x8, v] : List Value))
  intro x9
  apply Oz.walk_cons rfl
  · intro w1 hb hu hd ho K hK
    clear hu hd ho
    go_simp
    exact hK _ _ (Oz.good_same rfl rfl rfl)
  · intro v; simp only [Act.put, List.setIfInBounds_toArray, List.set_cons_succ, List.set_cons_zero]; exact rfl
  · intro v; exact (rfl : _ = ([x6, x7, x8, x9, v] : List Value))
  intro x10
  apply Oz.walk_cons rfl
  · intro w1 hb hu hd ho K hK
    have e10 : _ = x10 := Eq.symm (hd 4 (by kernel_rfl))
    subst e10
    clear hu hd ho
    have c0 : w1.cell? ⟨w.heap.size, 0, none⟩ = some (.slice V vs.length vc) := (hb.cell (by show w.heap.size < _; omega)).trans (by simp)
    go_simp
    exact hK _ _ (Oz.good_same rfl rfl rfl)
  · intro v; simp only [Act.put, List.setIfInBounds_toArray, List.set_cons_succ, List.set_cons_zero]; exact rfl
  · intro v; exact (rfl : _ = ([x6, x7, x8, x9, x10, v] : List Value))
  intro x11
  apply Oz.walk_cons rfl
  · intro w1 hb hu hd ho K hK
    have h9 := hd 3 (by kernel_rfl)
    have e11 : _ = x11 := Eq.symm (hd 5 (by kernel_rfl))
    subst e11
    have hz : w.heap.size + 1 ≤ w1.heap.size := by have := hb.size; simp at this; omega
    have hoo := ho 3 (by kernel_rfl) rfl
    clear hu hd ho
    refine Ow.step_append rfl (.tmp 9) (.tmp 11) 27 rfl 0 39 iv _ 7 64 Try.underlying27 HV0.out HV1.out HV2.out HV3.out rfl (by decide) x9 0 [] (by simp [Act.eval]) h9 _ vs.length (flatV vs) (by simp [Act.eval]) (HIV.out w1 hb) (flatV_vals _) (by unfold maxLen; omega) (by omega) (Nat.zero_le _) ?_
    intro v' w' hown hg hob
    simp only [Nat.zero_add, List.nil_append] at hown
    exact hK _ _ (Oz.good_row (k := 3) rfl hz h9 hg hown hown hoo hob)
  · intro v; simp only [Act.put, List.setIfInBounds_toArray, List.set_cons_succ, List.set_cons_zero]; exact rfl
  · intro v; exact (rfl : _ = ([x6, x7, x8, x9, x10, x11, v] : List Value))
  intro x12
  apply Oz.walk_cons rfl
  · intro w1 hb hu hd ho K hK
    have hz : w.heap.size + 1 ≤ w1.heap.size := by have := hb.size; simp at this; omega
    clear hu hd ho
    go_simp
    exact hK _ _ (Oz.good_new rfl hz ((Below.refl _ _).alloc (Nat.le_refl _) _) (own_made0 w1 23 3) (fun g hg => own_fresh hg))
  · intro v; simp only [Act.put, List.setIfInBounds_toArray, List.set_cons_succ, List.set_cons_zero]; exact rfl
  · intro v; exact (rfl : _ = ([x6, x7, x8, x9, x10, x11, x12, v] : List Value))
  intro x13
  apply Oz.walk_cons rfl
  · intro w1 hb hu hd ho K hK
    clear hu hd ho
    go_simp
    exact hK _ _ (Oz.good_same rfl rfl rfl)
  · intro v; simp only [Act.put, List.setIfInBounds_toArray, List.set_cons_succ, List.set_cons_zero]; exact rfl
  · intro v; exact (rfl : _ = ([x6, x7, x8, x9, x10, x11, x12, x13, v] : List Value))
  intro x14
  apply Oz.walk_cons rfl
  · intro w1 hb hu hd ho K hK
    have e14 : _ = x14 := Eq.symm (hd 8 (by kernel_rfl))
    subst e14
    clear hu hd ho
    have c0 : w1.cell? ⟨w.heap.size, 1, none⟩ = some (.slice X xs.length xc) := (hb.cell (by show w.heap.size < _; omega)).trans (by simp)
    go_simp
    exact hK _ _ (Oz.good_same rfl rfl rfl)
  · intro v; simp only [Act.put, List.setIfInBounds_toArray, List.set_cons_succ, List.set_cons_zero]; exact rfl
  · intro v; exact (rfl : _ = ([x6, x7, x8, x9, x10, x11, x12, x13, x14, v] : List Value))
  intro x15
  apply Oz.walk_cons rfl
  · intro w1 hb hu hd ho K hK
    have h13 := hd 7 (by kernel_rfl)
    have e15 : _ = x15 := Eq.symm (hd 9 (by kernel_rfl))
    subst e15
    have hz : w.heap.size + 1 ≤ w1.heap.size := by have := hb.size; simp at this; omega
    have hoo := ho 7 (by kernel_rfl) rfl
    clear hu hd ho
    refine Ow.step_append rfl (.tmp 13) (.tmp 15) 28 rfl 0 23 ix _ 3 24 Try.underlying28 HX0.out HX1.out HX2.out HX3.out rfl (by decide) x13 0 [] (by simp [Act.eval]) h13 _ xs.length (flatX xs) (by simp [Act.eval]) (HIX.out w1 hb) (flatX_vals _) (by unfold maxLen; omega) (by omega) (Nat.zero_le _) ?_
    intro v' w' hown hg hob
    simp only [Nat.zero_add, List.nil_append] at hown
    exact hK _ _ (Oz.good_row (k := 7) rfl hz h13 hg hown hown hoo hob)
  · intro v; simp only [Act.put, List.setIfInBounds_toArray, List.set_cons_succ, List.set_cons_zero]; exact rfl
  · intro v; exact (rfl : _ = ([x6, x7, x8, x9, x10, x11, x12, x13, x14, x15, v] : List Value))
  intro x16
  apply Oz.walk_cons rfl
  · intro w1 hb hu hd ho K hK
    have hz : w.heap.size + 1 ≤ w1.heap.size := by have := hb.size; simp at this; omega
    clear hu hd ho
    go_simp
    exact hK _ _ (Oz.good_new rfl hz ((Below.refl _ _).alloc (Nat.le_refl _) _) (own_made0 w1 9 1) (fun g hg => own_fresh hg))
  · intro v; simp only [Act.put, List.setIfInBounds_toArray, List.set_cons_succ, List.set_cons_zero]; exact rfl
  · intro v; exact (rfl : _ = ([x6, x7, x8, x9, x10, x11, x12, x13, x14, x15, x16, v] : List Value))
  intro x17
  apply Oz.walk_cons rfl
  · intro w1 hb hu hd ho K hK
    clear hu hd ho
    go_simp
    exact hK _ _ (Oz.good_same rfl rfl rfl)
  · intro v; simp only [Act.put, List.setIfInBounds_toArray, List.set_cons_succ, List.set_cons_zero]; exact rfl
  · intro v; exact (rfl : _ = ([x6, x7, x8, x9, x10, x11, x12, x13, x14, x15, x16, x17, v] : List Value))
  intro x18
  apply Oz.walk_cons rfl
  · intro w1 hb hu hd ho K hK
    have e18 : _ = x18 := Eq.symm (hd 12 (by kernel_rfl))
    subst e18
    clear hu hd ho
    have c0 : w1.cell? ⟨w.heap.size, 2, none⟩ = some (.slice S ss.length sc) := (hb.cell (by show w.heap.size < _; omega)).trans (by simp)
    go_simp
    exact hK _ _ (Oz.good_same rfl rfl rfl)
  · intro v; simp only [Act.put, List.setIfInBounds_toArray, List.set_cons_succ, List.set_cons_zero]; exact rfl
  · intro v; exact (rfl : _ = ([x6, x7, x8, x9, x10, x11, x12, x13, x14, x15, x16, x17, x18, v] : List Value))
  intro x19
  apply Oz.walk_cons rfl
  · intro w1 hb hu hd ho K hK
    have h17 := hd 11 (by kernel_rfl)
    have e19 : _ = x19 := Eq.symm (hd 13 (by kernel_rfl))
    subst e19
    have hz : w.heap.size + 1 ≤ w1.heap.size := by have := hb.size; simp at this; omega
    have hoo := ho 11 (by kernel_rfl) rfl
    clear hu hd ho
    refine Ow.step_append rfl (.tmp 17) (.tmp 19) 29 rfl 0 9 is _ 1 16 Try.underlying29 HS0.out HS1.out HS2.out HS3.out rfl (by decide) x17 0 [] (by simp [Act.eval]) h17 _ ss.length (ss.map bstr) (by simp [Act.eval]) (HIS.out w1 hb) (strs_vals _) (by unfold maxLen; omega) (by omega) (Nat.zero_le _) ?_
    intro v' w' hown hg hob
    simp only [Nat.zero_add, List.nil_append] at hown
    exact hK _ _ (Oz.good_row (k := 11) rfl hz h17 hg hown hown hoo hob)
  · intro v; simp only [Act.put, List.setIfInBounds_toArray, List.set_cons_succ, List.set_cons_zero]; exact rfl
  · intro v; exact (rfl : _ = ([x6, x7, x8, x9, x10, x11, x12, x13, x14, x15, x16, x17, x18, x19, v] : List Value))
  intro x20
  apply Oz.walk_cons rfl
  · intro w1 hb hu hd ho K hK
    have h8 := hd 2 (by kernel_rfl)
    have h12 := hd 6 (by kernel_rfl)
    have h16 := hd 10 (by kernel_rfl)
    have h20 := hd 14 (by kernel_rfl)
    clear hu hd ho
    go_simp
    refine (HEV.out w1 x8 x12 x16 x20 h8 h12 h16 h20).mono ?_
    rintro e w2 ⟨rfl, hb2⟩
    go_simp
    exact hK _ _ (Oz.good_below rfl rfl hb2 rfl)
  · intro v; simp only [Act.put, List.setIfInBounds_toArray, List.set_cons_succ, List.set_cons_zero]; exact rfl
  · intro v; exact (rfl : _ = ([x6, x7, x8, x9, x10, x11, x12, x13, x14, x15, x16, x17, x18, x19, x20, v] : List Value))
  intro x21
  apply Oz.walk_cons rfl
  · intro w1 hb hu hd ho K hK
    have e21 : _ = x21 := Eq.symm (hd 15 (by kernel_rfl))
    subst e21
    clear hu hd ho
    go_simp
    exact hK _ _ (Oz.good_same rfl rfl rfl)
  · intro v; simp only [Act.put, List.setIfInBounds_toArray, List.set_cons_succ, List.set_cons_zero]; exact rfl
  · intro v; exact (rfl : _ = ([x6, x7, x8, x9, x10, x11, x12, x13, x14, x15, x16, x17, x18, x19, x20, x21, v] : List Value))
  intro x22
  apply Oz.walk_cons rfl
  · intro w1 hb hu hd ho K hK
    have e21 : _ = x21 := Eq.symm (hd 15 (by kernel_rfl))
    subst e21
    clear hu hd ho
    go_simp
    exact hK _ _ (Oz.good_same rfl rfl rfl)
  · intro v; simp only [Act.put, List.setIfInBounds_toArray, List.set_cons_succ, List.set_cons_zero]; exact rfl
  · intro v; exact (rfl : _ = ([x6, x7, x8, x9, x10, x11, x12, x13, x14, x15, x16, x17, x18, x19, x20, x21, x22, v] : List Value))
  intro x23
  apply Oz.walk_cons rfl
  · intro w1 hb hu hd ho K hK
    have e22 : _ = x22 := Eq.symm (hd 16 (by kernel_rfl))
    subst e22
    have hh : w1.heap[w.heap.size + 1]? = some (.cells #[.int .i64 0, .int .i64 0, .int .i64 0] 23 (0, 0)) := (hu _ (Array.getElem?_eq_some_iff.1 HDZ.out).1 (fun j hj => Oz.box_uniq hj)).trans HDZ.out
    have dq0 : w1.cell? ⟨w.heap.size + 1, 0, none⟩ = some (.int .i64 0) := by simp [World.cell?, hh]
    have fq0 : w1.frozen? ⟨w.heap.size + 1, 0, none⟩ = false := by simp [World.frozen?, hh]
    have dq1 : w1.cell? ⟨w.heap.size + 1, 1, none⟩ = some (.int .i64 0) := by simp [World.cell?, hh]
    have fq1 : w1.frozen? ⟨w.heap.size + 1, 1, none⟩ = false := by simp [World.frozen?, hh]
    have dq2 : w1.cell? ⟨w.heap.size + 1, 2, none⟩ = some (.int .i64 0) := by simp [World.cell?, hh]
    have fq2 : w1.frozen? ⟨w.heap.size + 1, 2, none⟩ = false := by simp [World.frozen?, hh]
    have kq0 := heap_setCell_same _ _ 0 _ _ (.int .i64 rk) hh
    have kq1 := heap_setCell_same _ _ 1 _ _ (.int .i64 ra) kq0
    have kq2 := heap_setCell_same _ _ 2 _ _ (.int .i64 rb) kq1
    clear hu hd ho
    go_simp
    exact hK undef _ (Oz.good_into (b := w.heap.size + 1) (cs := #[.int .i64 rk, .int .i64 ra, .int .i64 rb]) rfl rfl (Nat.le_refl _) (Oz.setAll_grown (w.heap.size + 1) [.int .i64 rk, .int .i64 ra, .int .i64 rb] 0 w1) rfl kq2)
  · intro v; exact rfl
  · intro v; exact (rfl : _ = ([x6, x7, x8, x9, x10, x11, x12, x13, x14, x15, x16, x17, x18, x19, x20, x21, x22, x23, .pointer (some ⟨w.heap.size + 1, 0, none⟩)] : List Value))
  intro xn18
  apply Oz.walk_cons rfl
  · intro w1 hb hu hd ho K hK
    have e23 : _ = x23 := Eq.symm (hd 17 (by kernel_rfl))
    subst e23
    clear hu hd ho
    go_simp
    exact hK _ _ (Oz.good_same rfl rfl rfl)
  · intro v; simp only [Act.put, List.setIfInBounds_toArray, List.set_cons_succ, List.set_cons_zero]; exact rfl
  · intro v; exact (rfl : _ = ([x6, x7, x8, x9, x10, x11, x12, x13, x14, x15, x16, x17, x18, x19, x20, x21, x22, x23, .pointer (some ⟨w.heap.size + 1, 0, none⟩), v] : List Value))
  intro x5
  refine Oz.walk_nil rfl (fun w1 hb hu hd => ?_)
  have e7 : _ = x7 := Eq.symm (hd 1 (by kernel_rfl))
  subst e7
  have h8 := hd 2 (by kernel_rfl)
  have e10 : _ = x10 := Eq.symm (hd 4 (by kernel_rfl))
  subst e10
  have e11 : _ = x11 := Eq.symm (hd 5 (by kernel_rfl))
  subst e11
  have h12 := hd 6 (by kernel_rfl)
  have e14 : _ = x14 := Eq.symm (hd 8 (by kernel_rfl))
  subst e14
  have e15 : _ = x15 := Eq.symm (hd 9 (by kernel_rfl))
  subst e15
  have h16 := hd 10 (by kernel_rfl)
  have e18 : _ = x18 := Eq.symm (hd 12 (by kernel_rfl))
  subst e18
  have e19 : _ = x19 := Eq.symm (hd 13 (by kernel_rfl))
  subst e19
  have h20 := hd 14 (by kernel_rfl)
  have e21 : _ = x21 := Eq.symm (hd 15 (by kernel_rfl))
  subst e21
  have e22 : _ = x22 := Eq.symm (hd 16 (by kernel_rfl))
  subst e22
  have e23 : _ = x23 := Eq.symm (hd 17 (by kernel_rfl))
  subst e23
  have hn18 := hd 18 (by kernel_rfl)
  have e5 : _ = x5 := Eq.symm (hd 19 (by kernel_rfl))
  subst e5
  clear hd
  have HB1 : Hid (Below w.heap.size w w1) := HW1.out w1 hb
  have HD1 := Lib.hid (Oz.box_of hn18)
  clear hb hn18
  go_simp
  obtain ⟨r0, r1, r2, _⟩ := at3 HD1.out
  go_wp2
  refine bodyPost_ret (v := .tuple #[.agg #[.int .i64 rk, .int .i64 ra, .int .i64 rb], .int .i64 re]) ?_ rfl ⟨rfl, HB1.out⟩
  simp [results, Try.results12, go_sem, r0, r1, r2]
end Go.Proofs.Ytpidikbhjiaogaa
