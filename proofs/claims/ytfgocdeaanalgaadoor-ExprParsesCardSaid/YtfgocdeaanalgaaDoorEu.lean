/- copied, Same (the document's); the examples of chapter 3 hold (wakes of quintainlaw03). -/
import Derived.Test.YtfgocdeaanalgaaDoorEt
namespace Go.Proofs.YtfgocdeaanalgaaDoor
open Go.RowKit

/-- what comes in as a slice of cells: nil, or cells that are read -/
def RdI (w : World) (v : Value) (cs : List CM) : Prop := (v = .slice none 0 0 ∧ cs = []) ∨ ∃ ad c, v = .slice (some ad) cs.length c ∧ RdC w v cs
theorem RdI.rd {w : World} {v : Value} {cs : List CM} (h : RdI w v cs) : RdC w v cs := by
  rcases h with ⟨rfl, rfl⟩ | ⟨_, _, _, h⟩
  · exact ⟨_, _, rfl, fun i hi => absurd hi (by simp)⟩
  · exact h
theorem RdI.below {w w' : World} {v : Value} {cs : List CM} (h : RdI w v cs) (hb : Below w.heap.size w w') : RdI w' v cs := by
  rcases h with h | ⟨ad, c, e, h⟩
  · exact Or.inl h
  · exact Or.inr ⟨ad, c, e, h.below hb⟩

theorem flat_get {cs : List CM} {j : Nat} {u : Value} (h : (flat cs)[j]? = some u) : ∃ i, ∃ hi : i < cs.length, (j = i * 3 ∧ u = .int .i64 cs[i].op) ∨ (j = i * 3 + 1 ∧ u = .int .i64 cs[i].a) ∨ (j = i * 3 + 2 ∧ u = bstr cs[i].nm) := by
  have hj : j < cs.length * 3 := by
    rw [← flat_length]
    exact (List.getElem?_eq_some_iff.1 h).1
  have hi : j / 3 < cs.length := by omega
  refine ⟨j / 3, hi, ?_⟩
  obtain ⟨f0, f1, f2⟩ := flat_at hi
  have hc : j = j / 3 * 3 ∨ j = j / 3 * 3 + 1 ∨ j = j / 3 * 3 + 2 := by omega
  rcases hc with e | e | e
  · rw [← e, h] at f0; exact Or.inl ⟨e, Option.some.inj f0⟩
  · rw [← e, h] at f1; exact Or.inr (Or.inl ⟨e, Option.some.inj f1⟩)
  · rw [← e, h] at f2; exact Or.inr (Or.inr ⟨e, Option.some.inj f2⟩)
theorem add_lit' (b o n : Nat) : (⟨b, o, none⟩ : Addr).add n = ⟨b, o + n, none⟩ := by unfold Addr.add; by_cases h : n = 0 <;> simp [h]
theorem RdC.news {w : World} {ad : Addr} {n c : Nat} {cs : List CM} (h : RdC w (.slice (some ad) n c) cs) (o : Obj) : ∀ j u, (flat cs)[j]? = some u → (w.alloc o).cell? (ad.add j) = some u := by
  intro j u hu
  obtain ⟨i, hi, hc⟩ := flat_get hu
  obtain ⟨A, c', hv, hr⟩ := h
  obtain ⟨b, k, rfl, d0, d1, d2⟩ := hr i hi
  simp only [Value.slice.injEq, Option.some.injEq] at hv
  rw [hv.1, add_lit']
  rcases hc with ⟨rfl, rfl⟩ | ⟨rfl, rfl⟩ | ⟨rfl, rfl⟩
  · exact (World.cell?_alloc_lt w _ _ (cell_lt d0)).trans d0
  · rw [← Nat.add_assoc]; exact (World.cell?_alloc_lt w _ _ (cell_lt d1)).trans d1
  · rw [← Nat.add_assoc]; exact (World.cell?_alloc_lt w _ _ (cell_lt d2)).trans d2
theorem flat_vals (cs : List CM) : ∀ u ∈ flat cs, u.oneCell' = true := by
  intro u hu
  obtain ⟨j, hj⟩ := List.mem_iff_getElem?.1 hu
  obtain ⟨i, hi, hc⟩ := flat_get hj
  rcases hc with ⟨_, rfl⟩ | ⟨_, rfl⟩ | ⟨_, rfl⟩ <;> rfl

theorem own_empty (w : World) (cs : Array Value) (h : cs = #[]) : (w.alloc (.cells cs 38)).ownsRow w.heap.size 38 3 (.slice (some ⟨w.heap.size, 0, none⟩) 0 0) 0 [] := by
  subst h
  exact World.ownsRow_made w #[] 0 (Nat.le_refl _) (by unfold maxLen; omega) rfl

set_option maxRecDepth 100000 in
theorem copied_any (v : Value) (cs : List CM) (w : World) (h : RdI w v cs) (hl : cs.length * 32 ≤ 140737488355328) :
    Calls Tryd.prog 11 #[v] w fun e w' => ∃ v', e = .returned v' ∧ Own w cs v' w' := by
  obtain ⟨i0, hi0, hz0, hz1, hz2⟩ := info_parts Tryd.infoCell
  have HI := Lib.hid hi0; have HZ0 := Lib.hid hz0; have HZ1 := Lib.hid hz1; have HZ2 := Lib.hid hz2
  clear hi0 hz0 hz1 hz2
  have hW : Below w.heap.size w (w.alloc (.cells #[] 38)) := (Below.refl _ _).alloc (Nat.le_refl _) _
  have HW := Lib.hid hW; clear hW
  have HE := Lib.hid (own_empty w #[] rfl)
  rcases h with ⟨rfl, rfl⟩ | ⟨ad, c, rfl, hR⟩
  · go_enter Tryd.func11, Tryd.ntmps11
    go_wp2_with (at_builtin; refine wpList_append_own_none _ rfl _ _ 22 rfl w.heap.size 38 i0 3 Tryd.underlying22 HI.out _ _ _ rfl HE.out rfl ?_)
    go_ret
    exact ⟨_, rfl, HE.out, HW.out⟩
  · have HN := Lib.hid (hR.news (.cells #[] 38))
    have hfl := flat_length cs
    have HFL := Lib.hid hfl; clear hfl hR
    go_enter Tryd.func11, Tryd.ntmps11
    go_wp2_with (at_builtin; refine wpList_append_own _ rfl _ _ 22 rfl w.heap.size 38 i0 _ 3 32 Tryd.underlying22 HI.out HZ0.out HZ1.out HZ2.out rfl (by decide) _ 0 [] rfl HE.out ad cs.length c (flat cs) rfl HFL.out HN.out (flat_vals cs) (by unfold maxLen; omega) (by omega) (by simp) ?_)
    intro v' w2 hown' hgrow _
    have HO : Hid (w2.ownsRow w.heap.size 38 3 v' cs.length (flat cs)) := by
      exact hown'
    have HB : Hid (Below w.heap.size w w2) := HW.out.grown hgrow (by simp) (fun k hk => by simp [Value.ownBlock] at hk; omega)
    clear hown' hgrow
    go_wp2
    go_ret
    exact ⟨v', rfl, HO.out, HB.out⟩

theorem cm_eq {a b : CM} : a = b ↔ a.op = b.op ∧ a.a = b.a ∧ a.nm = b.nm := by cases a; cases b; simp

set_option maxRecDepth 100000 in
set_option maxHeartbeats 2000000 in
theorem same_any (va vb : Value) (xs ys : List CM) (w : World) (ha : RdC w va xs) (hb : RdC w vb ys) (hx : xs.length ≤ 140737488355328) :
    Calls Tryd.prog 17 #[va, vb] w fun e w' => e = .returned (.bool (decide (xs = ys))) ∧ ∃ n, w' = w.drewN n := by
  obtain ⟨A, c, rfl, ha⟩ := ha
  obtain ⟨B, d, rfl, hb⟩ := hb
  have HA := Lib.hid ha; have HB := Lib.hid hb; clear ha hb
  by_cases hlen : xs.length = ys.length
  · obtain ⟨n, hxl⟩ : ∃ n, xs.length = n := ⟨_, rfl⟩
    have hyl : ys.length = n := by omega
    rw [hxl] at hx
    have HXL := Lib.hid hxl; have HYL := Lib.hid hyl
    rw [hxl, hyl]
    clear hlen hxl hyl
    have hr : ∀ k, xs.take k = ys.take k → ¬ k < n → decide (xs = ys) = true := by
      intro k h hk
      rw [List.take_of_length_le (by rw [HXL.out]; omega), List.take_of_length_le (by rw [HYL.out]; omega)] at h
      exact decide_eq_true h
    have HR := Lib.hid hr; clear hr
    go_enter Tryd.func17, Tryd.ntmps17
    go_wp2
    go_loopw [4, 5] (fun x i wr => x = .bool false ∧ ∃ k m : Nat, k ≤ n ∧ Hid (xs.take k = ys.take k) ∧ wr = w.drewN m ∧ i = .int .i64 k) (fun _ i _ => n - (intOf i).toNat)
    case atStart => exact ⟨rfl, 0, 0, by omega, rfl, rfl, rfl⟩
    case round =>
      obtain ⟨rfl, k, m, hk, HT, rfl, rfl⟩ := hrel
      by_cases hkn : k < n
      · obtain ⟨b1, o1, rfl, c0, c1, c2⟩ := HA.out k (by rw [HXL.out]; exact hkn)
        obtain ⟨b2, o2, rfl, d0, d1, d2⟩ := HB.out k (by rw [HYL.out]; exact hkn)
        unfold bstr at c2 d2
        obtain ⟨X, hX⟩ : ∃ X : ByteArray, X = ⟨(xs[k]'(by rw [HXL.out]; exact hkn)).nm.toArray⟩ := ⟨_, rfl⟩
        obtain ⟨Y, hY⟩ : ∃ Y : ByteArray, Y = ⟨(ys[k]'(by rw [HYL.out]; exact hkn)).nm.toArray⟩ := ⟨_, rfl⟩
        obtain ⟨x1, hx1⟩ : ∃ z, (xs[k]'(by rw [HXL.out]; exact hkn)).op = z := ⟨_, rfl⟩
        obtain ⟨x2, hx2⟩ : ∃ z, (xs[k]'(by rw [HXL.out]; exact hkn)).a = z := ⟨_, rfl⟩
        obtain ⟨y1, hy1⟩ : ∃ z, (ys[k]'(by rw [HYL.out]; exact hkn)).op = z := ⟨_, rfl⟩
        obtain ⟨y2, hy2⟩ : ∃ z, (ys[k]'(by rw [HYL.out]; exact hkn)).a = z := ⟨_, rfl⟩
        rw [← hX] at c2; rw [← hY] at d2
        rw [hx1] at c0; rw [hx2] at c1; rw [hy1] at d0; rw [hy2] at d1
        have hXl : X.data.toList = (xs[k]'(by rw [HXL.out]; exact hkn)).nm := by rw [hX]
        have hYl : Y.data.toList = (ys[k]'(by rw [HYL.out]; exact hkn)).nm := by rw [hY]
        have hE : xs[k]'(by rw [HXL.out]; exact hkn) = ys[k]'(by rw [HYL.out]; exact hkn) ↔ x1 = y1 ∧ x2 = y2 ∧ X.data.toList = Y.data.toList := by rw [cm_eq, hx1, hx2, hy1, hy2, hXl, hYl]
        have HE := Lib.hid hE
        clear hX hY hx1 hx2 hy1 hy2 hXl hYl hE
        have hno : (¬ (x1 = y1 ∧ x2 = y2 ∧ X.data.toList = Y.data.toList)) → decide (xs = ys) = false := fun h => decide_eq_false (fun e => h (HE.out.1 (by subst e; rfl)))
        have HNO := Lib.hid hno; clear hno
        by_cases e1 : x1 = y1
        · subst e1
          by_cases e2 : x2 = y2
          · subst e2
            by_cases e3 : X.data.toList = Y.data.toList
            · have hs : xs.take (k + 1) = ys.take (k + 1) := by
                rw [List.take_succ_eq_append_getElem (by rw [HXL.out]; exact hkn), List.take_succ_eq_append_getElem (by rw [HYL.out]; exact hkn), HT.out, HE.out.2 ⟨rfl, rfl, e3⟩]
              have HS := Lib.hid hs; clear hs
              obtain rfl : X = Y := by apply ByteArray.ext; exact Array.toList_inj.1 e3
              clear e3
              go_wp2
              go_quiet (fail)
              go_wp2
              go_roundw
              case rel => exact ⟨rfl, k + 1, m + nq, by omega, HS.out, rfl, by go_num⟩
              case measure => simp [intOf]; omega
            · have hne : (X.toList == Y.toList) = false := by
                rw [Lib.toList_data, Lib.toList_data]
                exact beq_eq_false_iff_ne.2 e3
              have HD := Lib.hid (HNO.out (fun h => e3 h.2.2))
              clear e3
              go_wp2
              go_quiet (fail)
              go_wp2
              go_ret
              exact ⟨ret_bool HD.out.symm, m + nq, World.drewN_drewN _ _ _⟩
          · have t2 := int_ne e2
            have HD := Lib.hid (HNO.out (fun h => e2 h.2.1))
            clear e2
            go_wp2
            go_quiet (fail)
            go_wp2
            go_ret
            exact ⟨ret_bool HD.out.symm, m + nq, World.drewN_drewN _ _ _⟩
        · have t1 := int_ne e1
          have HD := Lib.hid (HNO.out (fun h => e1 h.1))
          clear e1
          go_wp2
          go_quiet (fail)
          go_wp2
          go_ret
          exact ⟨ret_bool HD.out.symm, m + nq, World.drewN_drewN _ _ _⟩
      · have HD := Lib.hid (HR.out k HT.out hkn)
        go_wp2
        go_ret
        exact ⟨ret_bool HD.out.symm, m, rfl⟩
  · have hr : decide (xs = ys) = false := decide_eq_false (fun e => hlen (by rw [e]))
    have hl' : ((xs.length : Int) == (ys.length : Int)) = false := beq_eq_false_iff_ne.2 (by omega)
    rw [hr]; clear hr hlen
    go_enter Tryd.func17, Tryd.ntmps17
    go_wp2
    go_ret
    exact ⟨rfl, 0, rfl⟩

theorem show_one : showP [⟨5, 0, [97]⟩, ⟨5, 0, [98]⟩, ⟨5, 0, [99]⟩, opC 11, opC 12] = ([97, 45, 40, 98, 43, 99, 41], 0) := by decide +kernel

theorem own_slice {w : World} {base : Nat} {e : TypeId} {size n : Nat} {v : Value} {xs : List Value} (h : w.ownsRow base e size v n xs) : ∃ A c, v = .slice A n c := by
  rcases own_form h with ⟨rfl, rfl⟩ | ⟨g, cap, rfl, _⟩
  · exact ⟨_, _, rfl⟩
  · exact ⟨_, _, rfl⟩

theorem wakes_any (w : World) (hO : Ops w) (hL : Laid w) :
    Calls Tryd.prog 9 #[] w fun e w' => e = .returned (.bool true) ∧ Below w.heap.size w w' := by
  have HP1 := Lib.hid (parse_any ⟨#[97, 45, 40, 98, 43, 99, 41]⟩ w hO (by decide))
  have HOW : Hid (Ops w ∧ Laid w) := ⟨hO, hL⟩
  clear hO hL
  go_enter Tryd.func9, Tryd.ntmps9
  go_wp2_with fail
  refine HP1.out.mono ?_
  rintro e w1 ⟨v, rfl, h1⟩
  rw [show (parseP (⟨#[97, 45, 40, 98, 43, 99, 41]⟩ : ByteArray).data.toList) = _ from parse_one] at h1 ⊢
  obtain ⟨A, c, rfl⟩ := own_slice h1.own
  have H1 := Lib.hid h1
  clear h1
  go_wp2_with fail
  refine (show_any _ _ _ H1.out.rd (by decide) (HOW.out.1.below H1.out.below) (HOW.out.2.below H1.out.below)).mono ?_
  rintro e w2 ⟨rfl, hb2⟩
  rw [show_one]
  have HB2 := Lib.hid (H1.out.below.trans (hb2.mono H1.out.below.size))
  clear hb2
  have HP2 := Lib.hid (parse_any ⟨#[49, 60, 50, 60, 51]⟩ w2 (HOW.out.1.below HB2.out) (by decide))
  go_wp2_with fail
  refine HP2.out.mono ?_
  rintro e w3 ⟨v3, rfl, h3⟩
  rw [show (parseP (⟨#[49, 60, 50, 60, 51]⟩ : ByteArray).data.toList) = _ from parse_two] at h3 ⊢
  have HB3 := Lib.hid (HB2.out.trans (h3.below.mono HB2.out.size))
  clear h3
  go_wp2
  go_ret
  exact ⟨rfl, HB3.out⟩
end Go.Proofs.YtfgocdeaanalgaaDoor
