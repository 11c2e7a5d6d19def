/- The law EvalKinds walked. -/
import Derived.Test.YtpidikbhjiaogaaWe
namespace Go.Proofs.Ytpidikbhjiaogaa
open Go.RowKit

/-- the states that an expression names -/
def nmsOf (l : List CM) : List (List UInt8) := (l.filter fun c => decide (c.op = 6)).map (·.nm)
theorem nms_step {cs : List CM} {k : Nat} (h : k < cs.length) : nmsOf (cs.take (k + 1)) = nmsOf (cs.take k) ++ (if cs[k].op = 6 then [cs[k].nm] else []) := by
  unfold nmsOf
  rw [List.take_succ_eq_append_getElem h, List.filter_append, List.map_append]
  congr 1
  by_cases h6 : cs[k].op = 6
  · simp [h6]
  · simp [h6]
theorem nms_len (l : List CM) : (nmsOf l).length ≤ l.length := by
  unfold nmsOf; rw [List.length_map]; exact List.length_filter_le _ _
theorem nms_mem {cs : List CM} : ∀ c ∈ cs, c.op = 6 → c.nm ∈ nmsOf cs := by
  intro c hc h6
  unfold nmsOf
  exact List.mem_map.2 ⟨c, List.mem_filter.2 ⟨hc, by simp [h6]⟩, rfl⟩

set_option maxRecDepth 100000 in
set_option maxHeartbeats 16000000 in
theorem evalKinds_law (vl vv xv sv : Value) (cs : List CM) (vs : List VM) (xs : List VA) (ss : List (List UInt8)) (w : World) (hR : RdI w vl cs) (hl : cs.length * 32 ≤ 140737488355328) (hN : Names cs) (hV : RdV w vv vs) (hvl : vs.length * 64 ≤ 140737488355328) (hX : RdX w xv xs) (hxl : xs.length * 24 ≤ 140737488355328) (hS : RdW w sv ss) (hsl : ss.length * 16 ≤ 140737488355328) (hi : ∀ x ∈ xs, inL x.a = true) :
    Calls Try.prog 5 #[vl, .agg #[vv, xv, sv]] w fun e w' => e = .returned (.bool true) ∧ Below w.heap.size w w' := by
  have hof := fun W (hb : Below w.heap.size w W) => of5_any vl vv xv sv cs vs xs ss W (hR.below hb) hl (hV.below hb) hvl (hX.below hb) hxl (hS.below hb) hsl hi
  have hkd := fun (ns : List (List UInt8)) (v : Value) W (hb : Below w.heap.size w W) (hs : RdW W v ns) (hns : ns.length ≤ 4611686018427387904) => refKinds_any vl vv v cs vs ns W (hR.below hb).rd (by omega) hN (hV.below hb) (by omega) hs hns
  have hsnd := fun (h1 : vs.length = xs.length) (h2 : ∀ i (h : i < xs.length) (h' : i < vs.length), xs[i].kd = vs[i].kd) (h3 : xs.all rightV = true) => snd_law (ss := ss) (ns := nmsOf cs) h1 h2 h3 hi nms_mem
  obtain ⟨V, vc, rfl⟩ := hV.form
  obtain ⟨X, xc, rfl⟩ := hX.form
  obtain ⟨S, sc, rfl⟩ := hS.form
  obtain ⟨A, c0, rfl⟩ := hR.inn.form
  have HRA := Lib.hid hR
  obtain ⟨is, hs0, hs1, hs2, hs3⟩ := info_parts infoStr
  have HS0 := Lib.hid hs0; have HS1 := Lib.hid hs1; have HS2 := Lib.hid hs2; have HS3 := Lib.hid hs3
  clear hs0 hs1 hs2 hs3
  generalize hp : evP vs xs ss cs = p at *
  obtain ⟨⟨pk, pa, pb⟩, pe⟩ := p
  by_cases hlen : xs.length = vs.length
  rotate_left
  · as_aux_lemma =>
    have HOF : Hid (∀ W, Below w.heap.size w W → Calls Try.prog 12 #[.slice A cs.length c0, .agg #[.slice V vs.length vc, .slice X xs.length xc, .slice S ss.length sc]] W fun e w' => e = .returned (.tuple #[.agg #[.int .i64 pk, .int .i64 pa, .int .i64 pb], .int .i64 pe]) ∧ Below W.heap.size W w') := hof
    have HB0 : Hid (Below w.heap.size w (w.alloc (.cells #[.slice V vs.length vc, .slice X xs.length xc, .slice S ss.length sc] 31))) := (Below.refl _ _).alloc (Nat.le_refl _) _
    have HG0 : Hid ((w.alloc (.cells #[.slice V vs.length vc, .slice X xs.length xc, .slice S ss.length sc] 31)).heap[w.heap.size]? = some (.cells #[.slice V vs.length vc, .slice X xs.length xc, .slice S ss.length sc] 31 (0, 0))) := heap_at rfl _ _
    have hm : ((vs.length : Int) != (xs.length : Int)) = true := by simp; omega
    clear hof hkd hsnd hR hV hX hS hi hp hlen
    generalize vs.length = n at *
    generalize xs.length = m at *
    go_enter Try.func5, Try.ntmps5
    go_wp2_with fail
    refine (HOF.out _ HB0.out).mono ?_
    rintro e w1 ⟨rfl, hb1⟩
    have hg1 := heap_up ((hb1.block _ (by simp)).trans HG0.out) (.cells #[.int .i64 pk, .int .i64 pa, .int .i64 pb] 23)
    have HB1 := Lib.hid ((HB0.out.trans (hb1.mono HB0.out.size)).alloc (HB0.out.trans (hb1.mono HB0.out.size)).size (.cells #[.int .i64 pk, .int .i64 pa, .int .i64 pb] 23))
    clear hb1
    go_wp2_with fail
    refine (wakes5_any _).mono ?_
    rintro e w2 ⟨rfl, hb2⟩
    obtain ⟨g0, g1, g2, _⟩ := at3 ((hb2.block _ (Array.getElem?_eq_some_iff.1 hg1).1).trans hg1)
    have HB2 := Lib.hid (HB1.out.trans (hb2.mono HB1.out.size))
    clear hb2 hg1
    go_wp2
    go_ret
    exact ⟨rfl, HB2.out⟩
  obtain ⟨n, hn⟩ : ∃ n, vs.length = n := ⟨_, rfl⟩
  have hxn : xs.length = n := hlen.trans hn
  rw [hn] at hof hkd hV hvl ⊢
  rw [hxn] at hof hX hxl ⊢
  have HVA := Lib.hid hV; have HXA := Lib.hid hX
  have HOF : Hid (∀ W, Below w.heap.size w W → Calls Try.prog 12 #[.slice A cs.length c0, .agg #[.slice V n vc, .slice X n xc, .slice S ss.length sc]] W fun e w' => e = .returned (.tuple #[.agg #[.int .i64 pk, .int .i64 pa, .int .i64 pb], .int .i64 pe]) ∧ Below W.heap.size W w') := hof
  have hk0 := fun v W hb hs hns => hkd (nmsOf cs) v W hb hs hns
  have hsn := fun h2 h3 => hsnd hlen.symm h2 h3
  generalize hq : kindP vs (nmsOf cs) cs = q at *
  obtain ⟨kk, kf⟩ := q
  have HKD : Hid (∀ (v : Value) (W : World), Below w.heap.size w W → RdW W v (nmsOf cs) → (nmsOf cs).length ≤ 4611686018427387904 → Calls Try.prog 14 #[.slice A cs.length c0, .slice V n vc, v] W fun x w' => x = .returned (.tuple #[.int .i64 kk, .int .i64 kf]) ∧ Below W.heap.size W w') := hk0
  have HSN := Lib.hid hsn
  have HN := Lib.hid hn; have HXN := Lib.hid hxn
  have HB0 : Hid (Below w.heap.size w (w.alloc (.cells #[.slice V n vc, .slice X n xc, .slice S ss.length sc] 31))) := (Below.refl _ _).alloc (Nat.le_refl _) _
  have HG0 : Hid ((w.alloc (.cells #[.slice V n vc, .slice X n xc, .slice S ss.length sc] 31)).heap[w.heap.size]? = some (.cells #[.slice V n vc, .slice X n xc, .slice S ss.length sc] 31 (0, 0))) := heap_at rfl _ _
  have hm : ((n : Int) != (n : Int)) = false := by simp
  clear hof hkd hsnd hk0 hsn hR hV hX hS hi hp hq hlen hn hxn
  go_enter Try.func5, Try.ntmps5
  go_wp2_with fail
  refine (HOF.out _ HB0.out).mono ?_
  rintro e w1 ⟨rfl, hb1⟩
  have hg1 := heap_up ((hb1.block _ (by simp)).trans HG0.out) (.cells #[.int .i64 pk, .int .i64 pa, .int .i64 pb] 23)
  have HB1 := Lib.hid ((HB0.out.trans (hb1.mono HB0.out.size)).alloc (HB0.out.trans (hb1.mono HB0.out.size)).size (.cells #[.int .i64 pk, .int .i64 pa, .int .i64 pb] 23))
  have p0 : (w1.alloc (.cells #[.int .i64 pk, .int .i64 pa, .int .i64 pb] 23)).cell? ⟨w1.heap.size, 0, none⟩ = some (.int .i64 pk) := new_cell rfl rfl
  have p1 : (w1.alloc (.cells #[.int .i64 pk, .int .i64 pa, .int .i64 pb] 23)).cell? ⟨w1.heap.size, 1, none⟩ = some (.int .i64 pa) := new_cell rfl rfl
  have p2 : (w1.alloc (.cells #[.int .i64 pk, .int .i64 pa, .int .i64 pb] 23)).cell? ⟨w1.heap.size, 2, none⟩ = some (.int .i64 pb) := new_cell rfl rfl
  clear hb1
  go_wp2_with fail
  refine (wakes5_any _).mono ?_
  rintro e w2 ⟨rfl, hb2⟩
  have q0 := (hb2.cell (cell_lt p0)).trans p0
  have q1 := (hb2.cell (cell_lt p1)).trans p1
  have q2 := (hb2.cell (cell_lt p2)).trans p2
  obtain ⟨g0, g1, g2, _⟩ := at3 ((hb2.block _ (Array.getElem?_eq_some_iff.1 hg1).1).trans hg1)
  have HW2 := Lib.hid (HB1.out.trans (hb2.mono HB1.out.size))
  clear hb2 hg1 p0 p1 p2 HB1 HB0 HG0 HOF
  go_wp2
  go_loopw [7, 30] (fun _ x30 wr => ∃ k : Nat, k ≤ n ∧ x30 = .int .i64 (k : Int) ∧ Below w2.heap.size w2 wr ∧ Hid (∀ i (h : i < xs.length) (h' : i < vs.length), i < k → xs[i].kd = vs[i].kd ∧ rightV xs[i] = true)) (fun _ x _ => n - (intOf x).toNat)
  case atStart => exact ⟨0, by omega, rfl, Below.refl _ _, fun i _ _ h => by omega⟩
  case round =>
    obtain ⟨k, hk, rfl, hbr, HC⟩ := hrel
    have HBR := Lib.hid hbr
    have HWR := Lib.hid (HW2.out.trans (hbr.mono HW2.out.size))
    clear hbr
    by_cases hkn : k < n
    · have hkx : k < xs.length := by rw [HXN.out]; exact hkn
      have hkv : k < vs.length := by rw [HN.out]; exact hkn
      obtain ⟨bx, ox, rfl, _, x0, x1, x2⟩ := (HXA.out.below HWR.out).at_ hkx
      obtain ⟨bv, ov, rfl, _, _, y1, _⟩ := (HVA.out.below HWR.out).at_ hkv
      have hnext : xs[k].kd = vs[k].kd → rightV xs[k] = true → ∀ i (h : i < xs.length) (h' : i < vs.length), i < k + 1 → xs[i].kd = vs[i].kd ∧ rightV xs[i] = true := by
        intro h1 h2 i h h' hik
        by_cases hik' : i = k
        · subst hik'; exact ⟨h1, h2⟩
        · exact HC.out i h h' (by omega)
      have hrr := fun W => rRight_any xs[k] W
      generalize xs[k] = x at *
      generalize vs[k].kd = vk at *
      obtain ⟨xk, xa, xb⟩ := x
      change wr.cell? _ = some (.int .i64 xk) at x0
      change wr.cell? _ = some (.int .i64 xa) at x1
      change wr.cell? _ = some (.int .i64 xb) at x2
      change xk = vk → _ at hnext
      have HNX := Lib.hid hnext
      have hrr : ∀ W, Calls Try.prog 11 #[.agg #[.int .i64 xk, .int .i64 xa, .int .i64 xb]] W fun e w' => e = .returned (.bool (rightV ⟨xk, xa, xb⟩)) ∧ Below W.heap.size W w' := hrr
      clear hnext HC
      by_cases hke : xk = vk
      · subst hke
        cases hrv : rightV ⟨xk, xa, xb⟩ with
        | true =>
          have HCN := Lib.hid (HNX.out rfl hrv)
          rw [hrv] at hrr
          have HRR := Lib.hid hrr
          clear hrr hrv HNX
          go_wp2_with fail
          refine Oz.region_own' 126 [Ow.eqR (.pointer (some ⟨w.heap.size, 1, none⟩)), Ow.eqR (.slice (some ⟨bx, ox, none⟩) n xc), Ow.eqR (.int .i64 (k : Int)), Ow.eqR (.pointer (some ⟨bx, ox + k * 3, none⟩)), Ow.eqR (.pointer (some ⟨bx, ox + k * 3, none⟩)), Ow.eqR (.int .i64 xk), Ow.eqR (.pointer (some ⟨w.heap.size, 0, none⟩)), Ow.eqR (.slice (some ⟨bv, ov, none⟩) n vc), Ow.eqR (.int .i64 (k : Int)), Ow.eqR (.pointer (some ⟨bv, ov + k * 7, none⟩)), Ow.eqR (.pointer (some ⟨bv, ov + k * 7 + 1, none⟩)), Ow.eqR (.int .i64 xk), Ow.eqR (.bool false), Ow.eqR (.bool false), Ow.eqR (.pointer (some ⟨w.heap.size, 1, none⟩)), Ow.eqR (.slice (some ⟨bx, ox, none⟩) n xc), Ow.eqR (.int .i64 (k : Int)), Ow.eqR (.pointer (some ⟨bx, ox + k * 3, none⟩)), Ow.eqR (.agg #[.int .i64 xk, .int .i64 xa, .int .i64 xb]), Ow.eqR (.bool true), Ow.eqR (.bool false), Ow.eqR (.bool false)] [false, false, false, false, false, false, false, false, false, false, false, false, false, false, false, false, false, false, false, false, false, false] [none, none, none, none, none, none, none, none, none, none, none, none, none, none, none, none, none, none, none, none, none, none] (by kernel_rfl) rfl (by kernel_rfl) ⟨Oz.keeps_eq _ _, Oz.keeps_eq _ _, Oz.keeps_eq _ _, Oz.keeps_eq _ _, Oz.keeps_eq _ _, Oz.keeps_eq _ _, Oz.keeps_eq _ _, Oz.keeps_eq _ _, Oz.keeps_eq _ _, Oz.keeps_eq _ _, Oz.keeps_eq _ _, Oz.keeps_eq _ _, Oz.keeps_eq _ _, Oz.keeps_eq _ _, Oz.keeps_eq _ _, Oz.keeps_eq _ _, Oz.keeps_eq _ _, Oz.keeps_eq _ _, Oz.keeps_eq _ _, Oz.keeps_eq _ _, Oz.keeps_eq _ _, Oz.keeps_eq _ _, trivial⟩ ?_
          apply Oz.walk_cons rfl
          · intro w1 hb hu hd ho K hK
            clear hu hd ho
            go_simp
            exact hK _ _ (Oz.good_same rfl rfl rfl)
          · intro v; simp only [Act.put, List.setIfInBounds_toArray, List.set_cons_succ, List.set_cons_zero]; exact rfl
          · intro v; exact (rfl : _ = ([v] : List Value))
          intro x33
          apply Oz.walk_cons rfl
          · intro w1 hb hu hd ho K hK
            have e33 : _ = x33 := Eq.symm (hd 0 (by kernel_rfl))
            subst e33
            clear hu hd ho
            have hfull : Below w2.heap.size w2 w1 := HBR.out.drew.trans (hb.mono HBR.out.size)
            have c0 := (hfull.cell (cell_lt g1)).trans g1
            clear hfull
            go_simp
            exact hK _ _ (Oz.good_same rfl rfl rfl)
          · intro v; simp only [Act.put, List.setIfInBounds_toArray, List.set_cons_succ, List.set_cons_zero]; exact rfl
          · intro v; exact (rfl : _ = ([x33, v] : List Value))
          intro x34
          apply Oz.walk_cons rfl
          · intro w1 hb hu hd ho K hK
            clear hu hd ho
            go_simp
            exact hK _ _ (Oz.good_same rfl rfl rfl)
          · intro v; simp only [Act.put, List.setIfInBounds_toArray, List.set_cons_succ, List.set_cons_zero]; exact rfl
          · intro v; exact (rfl : _ = ([x33, x34, v] : List Value))
          intro x35
          apply Oz.walk_cons rfl
          · intro w1 hb hu hd ho K hK
            have e34 : _ = x34 := Eq.symm (hd 1 (by kernel_rfl))
            subst e34
            have e35 : _ = x35 := Eq.symm (hd 2 (by kernel_rfl))
            subst e35
            clear hu hd ho
            go_simp
            exact hK _ _ (Oz.good_same rfl rfl rfl)
          · intro v; simp only [Act.put, List.setIfInBounds_toArray, List.set_cons_succ, List.set_cons_zero]; exact rfl
          · intro v; exact (rfl : _ = ([x33, x34, x35, v] : List Value))
          intro x36
          apply Oz.walk_cons rfl
          · intro w1 hb hu hd ho K hK
            have e36 : _ = x36 := Eq.symm (hd 3 (by kernel_rfl))
            subst e36
            clear hu hd ho
            go_simp
            exact hK _ _ (Oz.good_same rfl rfl rfl)
          · intro v; simp only [Act.put, List.setIfInBounds_toArray, List.set_cons_succ, List.set_cons_zero]; exact rfl
          · intro v; exact (rfl : _ = ([x33, x34, x35, x36, v] : List Value))
          intro x37
          apply Oz.walk_cons rfl
          · intro w1 hb hu hd ho K hK
            have e37 : _ = x37 := Eq.symm (hd 4 (by kernel_rfl))
            subst e37
            clear hu hd ho
            have c0 := (hb.cell (cell_lt x0)).trans x0
            go_simp
            exact hK _ _ (Oz.good_same rfl rfl rfl)
          · intro v; simp only [Act.put, List.setIfInBounds_toArray, List.set_cons_succ, List.set_cons_zero]; exact rfl
          · intro v; exact (rfl : _ = ([x33, x34, x35, x36, x37, v] : List Value))
          intro x38
          apply Oz.walk_cons rfl
          · intro w1 hb hu hd ho K hK
            clear hu hd ho
            go_simp
            exact hK _ _ (Oz.good_same rfl rfl rfl)
          · intro v; simp only [Act.put, List.setIfInBounds_toArray, List.set_cons_succ, List.set_cons_zero]; exact rfl
          · intro v; exact (rfl : _ = ([x33, x34, x35, x36, x37, x38, v] : List Value))
          intro x39
          apply Oz.walk_cons rfl
          · intro w1 hb hu hd ho K hK
            have e39 : _ = x39 := Eq.symm (hd 6 (by kernel_rfl))
            subst e39
            clear hu hd ho
            have hfull : Below w2.heap.size w2 w1 := HBR.out.drew.trans (hb.mono HBR.out.size)
            have c0 := (hfull.cell (cell_lt g0)).trans g0
            clear hfull
            go_simp
            exact hK _ _ (Oz.good_same rfl rfl rfl)
          · intro v; simp only [Act.put, List.setIfInBounds_toArray, List.set_cons_succ, List.set_cons_zero]; exact rfl
          · intro v; exact (rfl : _ = ([x33, x34, x35, x36, x37, x38, x39, v] : List Value))
          intro x40
          apply Oz.walk_cons rfl
          · intro w1 hb hu hd ho K hK
            clear hu hd ho
            go_simp
            exact hK _ _ (Oz.good_same rfl rfl rfl)
          · intro v; simp only [Act.put, List.setIfInBounds_toArray, List.set_cons_succ, List.set_cons_zero]; exact rfl
          · intro v; exact (rfl : _ = ([x33, x34, x35, x36, x37, x38, x39, x40, v] : List Value))
          intro x41
          apply Oz.walk_cons rfl
          · intro w1 hb hu hd ho K hK
            have e40 : _ = x40 := Eq.symm (hd 7 (by kernel_rfl))
            subst e40
            have e41 : _ = x41 := Eq.symm (hd 8 (by kernel_rfl))
            subst e41
            clear hu hd ho
            go_simp
            exact hK _ _ (Oz.good_same rfl rfl rfl)
          · intro v; simp only [Act.put, List.setIfInBounds_toArray, List.set_cons_succ, List.set_cons_zero]; exact rfl
          · intro v; exact (rfl : _ = ([x33, x34, x35, x36, x37, x38, x39, x40, x41, v] : List Value))
          intro x42
          apply Oz.walk_cons rfl
          · intro w1 hb hu hd ho K hK
            have e42 : _ = x42 := Eq.symm (hd 9 (by kernel_rfl))
            subst e42
            clear hu hd ho
            go_simp
            exact hK _ _ (Oz.good_same rfl rfl rfl)
          · intro v; simp only [Act.put, List.setIfInBounds_toArray, List.set_cons_succ, List.set_cons_zero]; exact rfl
          · intro v; exact (rfl : _ = ([x33, x34, x35, x36, x37, x38, x39, x40, x41, x42, v] : List Value))
          intro x43
          apply Oz.walk_cons rfl
          · intro w1 hb hu hd ho K hK
            have e43 : _ = x43 := Eq.symm (hd 10 (by kernel_rfl))
            subst e43
            clear hu hd ho
            have c0 := (hb.cell (cell_lt y1)).trans y1
            go_simp
            exact hK _ _ (Oz.good_same rfl rfl rfl)
          · intro v; simp only [Act.put, List.setIfInBounds_toArray, List.set_cons_succ, List.set_cons_zero]; exact rfl
          · intro v; exact (rfl : _ = ([x33, x34, x35, x36, x37, x38, x39, x40, x41, x42, x43, v] : List Value))
          intro x44
          apply Oz.walk_cons rfl
          · intro w1 hb hu hd ho K hK
            have e38 : _ = x38 := Eq.symm (hd 5 (by kernel_rfl))
            subst e38
            have e44 : _ = x44 := Eq.symm (hd 11 (by kernel_rfl))
            subst e44
            clear hu hd ho
            go_simp
            exact hK _ _ (Oz.good_same rfl rfl rfl)
          · intro v; simp only [Act.put, List.setIfInBounds_toArray, List.set_cons_succ, List.set_cons_zero]; exact rfl
          · intro v; exact (rfl : _ = ([x33, x34, x35, x36, x37, x38, x39, x40, x41, x42, x43, x44, v] : List Value))
          intro x45
          apply Oz.walk_cons rfl
          · intro w1 hb hu hd ho K hK
            have e45 : _ = x45 := Eq.symm (hd 12 (by kernel_rfl))
            subst e45
            clear hu hd ho
            go_simp
            exact hK _ _ (Oz.good_same rfl rfl rfl)
          · intro v; simp only [Act.put, List.setIfInBounds_toArray, List.set_cons_succ, List.set_cons_zero]; exact rfl
          · intro v; exact (rfl : _ = ([x33, x34, x35, x36, x37, x38, x39, x40, x41, x42, x43, x44, x45, v] : List Value))
          intro x46
          apply Oz.walk_cons rfl
          · intro w1 hb hu hd ho K hK
            have e46 : _ = x46 := Eq.symm (hd 13 (by kernel_rfl))
            subst e46
            clear hu hd ho
            go_simp
            exact hK _ _ (Oz.good_same rfl rfl rfl)
          · intro v; simp only [Act.put, List.setIfInBounds_toArray, List.set_cons_succ, List.set_cons_zero]; exact rfl
          · intro v; exact (rfl : _ = ([x33, x34, x35, x36, x37, x38, x39, x40, x41, x42, x43, x44, x45, x46, v] : List Value))
          intro x47
          apply Oz.walk_cons rfl
          · intro w1 hb hu hd ho K hK
            have e47 : _ = x47 := Eq.symm (hd 14 (by kernel_rfl))
            subst e47
            have e46 : _ = x46 := Eq.symm (hd 13 (by kernel_rfl))
            subst e46
            clear hu hd ho
            have hfull : Below w2.heap.size w2 w1 := HBR.out.drew.trans (hb.mono HBR.out.size)
            have c0 := (hfull.cell (cell_lt g1)).trans g1
            clear hfull
            go_simp
            exact hK _ _ (Oz.good_same rfl rfl rfl)
          · intro v; simp only [Act.put, List.setIfInBounds_toArray, List.set_cons_succ, List.set_cons_zero]; exact rfl
          · intro v; exact (rfl : _ = ([x33, x34, x35, x36, x37, x38, x39, x40, x41, x42, x43, x44, x45, x46, x47, v] : List Value))
          intro x48
          apply Oz.walk_cons rfl
          · intro w1 hb hu hd ho K hK
            have e46 : _ = x46 := Eq.symm (hd 13 (by kernel_rfl))
            subst e46
            clear hu hd ho
            go_simp
            exact hK _ _ (Oz.good_same rfl rfl rfl)
          · intro v; simp only [Act.put, List.setIfInBounds_toArray, List.set_cons_succ, List.set_cons_zero]; exact rfl
          · intro v; exact (rfl : _ = ([x33, x34, x35, x36, x37, x38, x39, x40, x41, x42, x43, x44, x45, x46, x47, x48, v] : List Value))
          intro x49
          apply Oz.walk_cons rfl
          · intro w1 hb hu hd ho K hK
            have e48 : _ = x48 := Eq.symm (hd 15 (by kernel_rfl))
            subst e48
            have e49 : _ = x49 := Eq.symm (hd 16 (by kernel_rfl))
            subst e49
            have e46 : _ = x46 := Eq.symm (hd 13 (by kernel_rfl))
            subst e46
            clear hu hd ho
            go_simp
            exact hK _ _ (Oz.good_same rfl rfl rfl)
          · intro v; simp only [Act.put, List.setIfInBounds_toArray, List.set_cons_succ, List.set_cons_zero]; exact rfl
          · intro v; exact (rfl : _ = ([x33, x34, x35, x36, x37, x38, x39, x40, x41, x42, x43, x44, x45, x46, x47, x48, x49, v] : List Value))
          intro x50
          apply Oz.walk_cons rfl
          · intro w1 hb hu hd ho K hK
            have e50 : _ = x50 := Eq.symm (hd 17 (by kernel_rfl))
            subst e50
            have e46 : _ = x46 := Eq.symm (hd 13 (by kernel_rfl))
            subst e46
            clear hu hd ho
            have c0 := (hb.cell (cell_lt x0)).trans x0
            have c1 := (hb.cell (cell_lt x1)).trans x1
            have c2 := (hb.cell (cell_lt x2)).trans x2
            go_simp
            exact hK _ _ (Oz.good_same rfl rfl rfl)
          · intro v; simp only [Act.put, List.setIfInBounds_toArray, List.set_cons_succ, List.set_cons_zero]; exact rfl
          · intro v; exact (rfl : _ = ([x33, x34, x35, x36, x37, x38, x39, x40, x41, x42, x43, x44, x45, x46, x47, x48, x49, x50, v] : List Value))
          intro x51
          apply Oz.walk_cons rfl
          · intro w1 hb hu hd ho K hK
            have e51 : _ = x51 := Eq.symm (hd 18 (by kernel_rfl))
            subst e51
            have e46 : _ = x46 := Eq.symm (hd 13 (by kernel_rfl))
            subst e46
            clear hu hd ho
            go_simp
            refine (HRR.out w1).mono ?_
            rintro e w2 ⟨rfl, hb2⟩
            go_simp
            exact hK _ _ (Oz.good_below rfl rfl hb2 rfl)
          · intro v; simp only [Act.put, List.setIfInBounds_toArray, List.set_cons_succ, List.set_cons_zero]; exact rfl
          · intro v; exact (rfl : _ = ([x33, x34, x35, x36, x37, x38, x39, x40, x41, x42, x43, x44, x45, x46, x47, x48, x49, x50, x51, v] : List Value))
          intro x52
          apply Oz.walk_cons rfl
          · intro w1 hb hu hd ho K hK
            have e52 : _ = x52 := Eq.symm (hd 19 (by kernel_rfl))
            subst e52
            have e46 : _ = x46 := Eq.symm (hd 13 (by kernel_rfl))
            subst e46
            clear hu hd ho
            go_simp
            exact hK _ _ (Oz.good_same rfl rfl rfl)
          · intro v; simp only [Act.put, List.setIfInBounds_toArray, List.set_cons_succ, List.set_cons_zero]; exact rfl
          · intro v; exact (rfl : _ = ([x33, x34, x35, x36, x37, x38, x39, x40, x41, x42, x43, x44, x45, x46, x47, x48, x49, x50, x51, x52, v] : List Value))
          intro x53
          apply Oz.walk_cons rfl
          · intro w1 hb hu hd ho K hK
            have e46 : _ = x46 := Eq.symm (hd 13 (by kernel_rfl))
            subst e46
            have e53 : _ = x53 := Eq.symm (hd 20 (by kernel_rfl))
            subst e53
            clear hu hd ho
            go_simp
            exact hK _ _ (Oz.good_same rfl rfl rfl)
          · intro v; simp only [Act.put, List.setIfInBounds_toArray, List.set_cons_succ, List.set_cons_zero]; exact rfl
          · intro v; exact (rfl : _ = ([x33, x34, x35, x36, x37, x38, x39, x40, x41, x42, x43, x44, x45, x46, x47, x48, x49, x50, x51, x52, x53, v] : List Value))
          intro x54
          refine Oz.walk_nil rfl (fun w1 hb hu hd => ?_)
          have e33 : _ = x33 := Eq.symm (hd 0 (by kernel_rfl))
          subst e33
          have e34 : _ = x34 := Eq.symm (hd 1 (by kernel_rfl))
          subst e34
          have e35 : _ = x35 := Eq.symm (hd 2 (by kernel_rfl))
          subst e35
          have e36 : _ = x36 := Eq.symm (hd 3 (by kernel_rfl))
          subst e36
          have e37 : _ = x37 := Eq.symm (hd 4 (by kernel_rfl))
          subst e37
          have e38 : _ = x38 := Eq.symm (hd 5 (by kernel_rfl))
          subst e38
          have e39 : _ = x39 := Eq.symm (hd 6 (by kernel_rfl))
          subst e39
          have e40 : _ = x40 := Eq.symm (hd 7 (by kernel_rfl))
          subst e40
          have e41 : _ = x41 := Eq.symm (hd 8 (by kernel_rfl))
          subst e41
          have e42 : _ = x42 := Eq.symm (hd 9 (by kernel_rfl))
          subst e42
          have e43 : _ = x43 := Eq.symm (hd 10 (by kernel_rfl))
          subst e43
          have e44 : _ = x44 := Eq.symm (hd 11 (by kernel_rfl))
          subst e44
          have e45 : _ = x45 := Eq.symm (hd 12 (by kernel_rfl))
          subst e45
          have e46 : _ = x46 := Eq.symm (hd 13 (by kernel_rfl))
          subst e46
          have e47 : _ = x47 := Eq.symm (hd 14 (by kernel_rfl))
          subst e47
          have e48 : _ = x48 := Eq.symm (hd 15 (by kernel_rfl))
          subst e48
          have e49 : _ = x49 := Eq.symm (hd 16 (by kernel_rfl))
          subst e49
          have e50 : _ = x50 := Eq.symm (hd 17 (by kernel_rfl))
          subst e50
          have e51 : _ = x51 := Eq.symm (hd 18 (by kernel_rfl))
          subst e51
          have e52 : _ = x52 := Eq.symm (hd 19 (by kernel_rfl))
          subst e52
          have e53 : _ = x53 := Eq.symm (hd 20 (by kernel_rfl))
          subst e53
          have e54 : _ = x54 := Eq.symm (hd 21 (by kernel_rfl))
          subst e54
          clear hd hu
          have HBN := Lib.hid (HBR.out.drew.trans (hb.mono HBR.out.size))
          clear hb
          go_simp
          go_wp2
          go_roundw
          case rel => exact ⟨k + 1, by omega, by go_num, HBN.out, HCN⟩
          case measure => simp [intOf]; omega
        | false =>
          rw [hrv] at hrr
          have HRR := Lib.hid hrr
          clear hrr hrv HNX
          go_wp2_with fail
          refine Oz.region_own' 126 [Ow.eqR (.pointer (some ⟨w.heap.size, 1, none⟩)), Ow.eqR (.slice (some ⟨bx, ox, none⟩) n xc), Ow.eqR (.int .i64 (k : Int)), Ow.eqR (.pointer (some ⟨bx, ox + k * 3, none⟩)), Ow.eqR (.pointer (some ⟨bx, ox + k * 3, none⟩)), Ow.eqR (.int .i64 xk), Ow.eqR (.pointer (some ⟨w.heap.size, 0, none⟩)), Ow.eqR (.slice (some ⟨bv, ov, none⟩) n vc), Ow.eqR (.int .i64 (k : Int)), Ow.eqR (.pointer (some ⟨bv, ov + k * 7, none⟩)), Ow.eqR (.pointer (some ⟨bv, ov + k * 7 + 1, none⟩)), Ow.eqR (.int .i64 xk), Ow.eqR (.bool false), Ow.eqR (.bool false), Ow.eqR (.pointer (some ⟨w.heap.size, 1, none⟩)), Ow.eqR (.slice (some ⟨bx, ox, none⟩) n xc), Ow.eqR (.int .i64 (k : Int)), Ow.eqR (.pointer (some ⟨bx, ox + k * 3, none⟩)), Ow.eqR (.agg #[.int .i64 xk, .int .i64 xa, .int .i64 xb]), Ow.eqR (.bool false), Ow.eqR (.bool true), Ow.eqR (.bool true)] [false, false, false, false, false, false, false, false, false, false, false, false, false, false, false, false, false, false, false, false, false, false] [none, none, none, none, none, none, none, none, none, none, none, none, none, none, none, none, none, none, none, none, none, none] (by kernel_rfl) rfl (by kernel_rfl) ⟨Oz.keeps_eq _ _, Oz.keeps_eq _ _, Oz.keeps_eq _ _, Oz.keeps_eq _ _, Oz.keeps_eq _ _, Oz.keeps_eq _ _, Oz.keeps_eq _ _, Oz.keeps_eq _ _, Oz.keeps_eq _ _, Oz.keeps_eq _ _, Oz.keeps_eq _ _, Oz.keeps_eq _ _, Oz.keeps_eq _ _, Oz.keeps_eq _ _, Oz.keeps_eq _ _, Oz.keeps_eq _ _, Oz.keeps_eq _ _, Oz.keeps_eq _ _, Oz.keeps_eq _ _, Oz.keeps_eq _ _, Oz.keeps_eq _ _, Oz.keeps_eq _ _, trivial⟩ ?_
          apply Oz.walk_cons rfl
          · intro w1 hb hu hd ho K hK
            clear hu hd ho
            go_simp
            exact hK _ _ (Oz.good_same rfl rfl rfl)
          · intro v; simp only [Act.put, List.setIfInBounds_toArray, List.set_cons_succ, List.set_cons_zero]; exact rfl
          · intro v; exact (rfl : _ = ([v] : List Value))
          intro x33
          apply Oz.walk_cons rfl
          · intro w1 hb hu hd ho K hK
            have e33 : _ = x33 := Eq.symm (hd 0 (by kernel_rfl))
            subst e33
            clear hu hd ho
            have hfull : Below w2.heap.size w2 w1 := HBR.out.drew.trans (hb.mono HBR.out.size)
            have c0 := (hfull.cell (cell_lt g1)).trans g1
            clear hfull
            go_simp
            exact hK _ _ (Oz.good_same rfl rfl rfl)
          · intro v; simp only [Act.put, List.setIfInBounds_toArray, List.set_cons_succ, List.set_cons_zero]; exact rfl
          · intro v; exact (rfl : _ = ([x33, v] : List Value))
          intro x34
          apply Oz.walk_cons rfl
          · intro w1 hb hu hd ho K hK
            clear hu hd ho
            go_simp
            exact hK _ _ (Oz.good_same rfl rfl rfl)
          · intro v; simp only [Act.put, List.setIfInBounds_toArray, List.set_cons_succ, List.set_cons_zero]; exact rfl
          · intro v; exact (rfl : _ = ([x33, x34, v] : List Value))
          intro x35
          apply Oz.walk_cons rfl
          · intro w1 hb hu hd ho K hK
            have e34 : _ = x34 := Eq.symm (hd 1 (by kernel_rfl))
            subst e34
            have e35 : _ = x35 := Eq.symm (hd 2 (by kernel_rfl))
            subst e35
            clear hu hd ho
            go_simp
            exact hK _ _ (Oz.good_same rfl rfl rfl)
          · intro v; simp only [Act.put, List.setIfInBounds_toArray, List.set_cons_succ, List.set_cons_zero]; exact rfl
          · intro v; exact (rfl : _ = ([x33, x34, x35, v] : List Value))
          intro x36
          apply Oz.walk_cons rfl
          · intro w1 hb hu hd ho K hK
            have e36 : _ = x36 := Eq.symm (hd 3 (by kernel_rfl))
            subst e36
            clear hu hd ho
            go_simp
            exact hK _ _ (Oz.good_same rfl rfl rfl)
          · intro v; simp only [Act.put, List.setIfInBounds_toArray, List.set_cons_succ, List.set_cons_zero]; exact rfl
          · intro v; exact (rfl : _ = ([x33, x34, x35, x36, v] : List Value))
          intro x37
          apply Oz.walk_cons rfl
          · intro w1 hb hu hd ho K hK
            have e37 : _ = x37 := Eq.symm (hd 4 (by kernel_rfl))
            subst e37
            clear hu hd ho
            have c0 := (hb.cell (cell_lt x0)).trans x0
            go_simp
            exact hK _ _ (Oz.good_same rfl rfl rfl)
          · intro v; simp only [Act.put, List.setIfInBounds_toArray, List.set_cons_succ, List.set_cons_zero]; exact rfl
          · intro v; exact (rfl : _ = ([x33, x34, x35, x36, x37, v] : List Value))
          intro x38
          apply Oz.walk_cons rfl
          · intro w1 hb hu hd ho K hK
            clear hu hd ho
            go_simp
            exact hK _ _ (Oz.good_same rfl rfl rfl)
          · intro v; simp only [Act.put, List.setIfInBounds_toArray, List.set_cons_succ, List.set_cons_zero]; exact rfl
          · intro v; exact (rfl : _ = ([x33, x34, x35, x36, x37, x38, v] : List Value))
          intro x39
          apply Oz.walk_cons rfl
          · intro w1 hb hu hd ho K hK
            have e39 : _ = x39 := Eq.symm (hd 6 (by kernel_rfl))
            subst e39
            clear hu hd ho
            have hfull : Below w2.heap.size w2 w1 := HBR.out.drew.trans (hb.mono HBR.out.size)
            have c0 := (hfull.cell (cell_lt g0)).trans g0
            clear hfull
            go_simp
            exact hK _ _ (Oz.good_same rfl rfl rfl)
          · intro v; simp only [Act.put, List.setIfInBounds_toArray, List.set_cons_succ, List.set_cons_zero]; exact rfl
          · intro v; exact (rfl : _ = ([x33, x34, x35, x36, x37, x38, x39, v] : List Value))
          intro x40
          apply Oz.walk_cons rfl
          · intro w1 hb hu hd ho K hK
            clear hu hd ho
            go_simp
            exact hK _ _ (Oz.good_same rfl rfl rfl)
          · intro v; simp only [Act.put, List.setIfInBounds_toArray, List.set_cons_succ, List.set_cons_zero]; exact rfl
          · intro v; exact (rfl : _ = ([x33, x34, x35, x36, x37, x38, x39, x40, v] : List Value))
          intro x41
          apply Oz.walk_cons rfl
          · intro w1 hb hu hd ho K hK
            have e40 : _ = x40 := Eq.symm (hd 7 (by kernel_rfl))
            subst e40
            have e41 : _ = x41 := Eq.symm (hd 8 (by kernel_rfl))
            subst e41
            clear hu hd ho
            go_simp
            exact hK _ _ (Oz.good_same rfl rfl rfl)
          · intro v; simp only [Act.put, List.setIfInBounds_toArray, List.set_cons_succ, List.set_cons_zero]; exact rfl
          · intro v; exact (rfl : _ = ([x33, x34, x35, x36, x37, x38, x39, x40, x41, v] : List Value))
          intro x42
          apply Oz.walk_cons rfl
          · intro w1 hb hu hd ho K hK
            have e42 : _ = x42 := Eq.symm (hd 9 (by kernel_rfl))
            subst e42
            clear hu hd ho
            go_simp
            exact hK _ _ (Oz.good_same rfl rfl rfl)
          · intro v; simp only [Act.put, List.setIfInBounds_toArray, List.set_cons_succ, List.set_cons_zero]; exact rfl
          · intro v; exact (rfl : _ = ([x33, x34, x35, x36, x37, x38, x39, x40, x41, x42, v] : List Value))
          intro x43
          apply Oz.walk_cons rfl
          · intro w1 hb hu hd ho K hK
            have e43 : _ = x43 := Eq.symm (hd 10 (by kernel_rfl))
            subst e43
            clear hu hd ho
            have c0 := (hb.cell (cell_lt y1)).trans y1
            go_simp
            exact hK _ _ (Oz.good_same rfl rfl rfl)
          · intro v; simp only [Act.put, List.setIfInBounds_toArray, List.set_cons_succ, List.set_cons_zero]; exact rfl
          · intro v; exact (rfl : _ = ([x33, x34, x35, x36, x37, x38, x39, x40, x41, x42, x43, v] : List Value))
          intro x44
          apply Oz.walk_cons rfl
          · intro w1 hb hu hd ho K hK
            have e38 : _ = x38 := Eq.symm (hd 5 (by kernel_rfl))
            subst e38
            have e44 : _ = x44 := Eq.symm (hd 11 (by kernel_rfl))
            subst e44
            clear hu hd ho
            go_simp
            exact hK _ _ (Oz.good_same rfl rfl rfl)
          · intro v; simp only [Act.put, List.setIfInBounds_toArray, List.set_cons_succ, List.set_cons_zero]; exact rfl
          · intro v; exact (rfl : _ = ([x33, x34, x35, x36, x37, x38, x39, x40, x41, x42, x43, x44, v] : List Value))
          intro x45
          apply Oz.walk_cons rfl
          · intro w1 hb hu hd ho K hK
            have e45 : _ = x45 := Eq.symm (hd 12 (by kernel_rfl))
            subst e45
            clear hu hd ho
            go_simp
            exact hK _ _ (Oz.good_same rfl rfl rfl)
          · intro v; simp only [Act.put, List.setIfInBounds_toArray, List.set_cons_succ, List.set_cons_zero]; exact rfl
          · intro v; exact (rfl : _ = ([x33, x34, x35, x36, x37, x38, x39, x40, x41, x42, x43, x44, x45, v] : List Value))
          intro x46
          apply Oz.walk_cons rfl
          · intro w1 hb hu hd ho K hK
            have e46 : _ = x46 := Eq.symm (hd 13 (by kernel_rfl))
            subst e46
            clear hu hd ho
            go_simp
            exact hK _ _ (Oz.good_same rfl rfl rfl)
          · intro v; simp only [Act.put, List.setIfInBounds_toArray, List.set_cons_succ, List.set_cons_zero]; exact rfl
          · intro v; exact (rfl : _ = ([x33, x34, x35, x36, x37, x38, x39, x40, x41, x42, x43, x44, x45, x46, v] : List Value))
          intro x47
          apply Oz.walk_cons rfl
          · intro w1 hb hu hd ho K hK
            have e47 : _ = x47 := Eq.symm (hd 14 (by kernel_rfl))
            subst e47
            have e46 : _ = x46 := Eq.symm (hd 13 (by kernel_rfl))
            subst e46
            clear hu hd ho
            have hfull : Below w2.heap.size w2 w1 := HBR.out.drew.trans (hb.mono HBR.out.size)
            have c0 := (hfull.cell (cell_lt g1)).trans g1
            clear hfull
            go_simp
            exact hK _ _ (Oz.good_same rfl rfl rfl)
          · intro v; simp only [Act.put, List.setIfInBounds_toArray, List.set_cons_succ, List.set_cons_zero]; exact rfl
          · intro v; exact (rfl : _ = ([x33, x34, x35, x36, x37, x38, x39, x40, x41, x42, x43, x44, x45, x46, x47, v] : List Value))
          intro x48
          apply Oz.walk_cons rfl
          · intro w1 hb hu hd ho K hK
            have e46 : _ = x46 := Eq.symm (hd 13 (by kernel_rfl))
            subst e46
            clear hu hd ho
            go_simp
            exact hK _ _ (Oz.good_same rfl rfl rfl)
          · intro v; simp only [Act.put, List.setIfInBounds_toArray, List.set_cons_succ, List.set_cons_zero]; exact rfl
          · intro v; exact (rfl : _ = ([x33, x34, x35, x36, x37, x38, x39, x40, x41, x42, x43, x44, x45, x46, x47, x48, v] : List Value))
          intro x49
          apply Oz.walk_cons rfl
          · intro w1 hb hu hd ho K hK
            have e48 : _ = x48 := Eq.symm (hd 15 (by kernel_rfl))
            subst e48
            have e49 : _ = x49 := Eq.symm (hd 16 (by kernel_rfl))
            subst e49
            have e46 : _ = x46 := Eq.symm (hd 13 (by kernel_rfl))
            subst e46
            clear hu hd ho
            go_simp
            exact hK _ _ (Oz.good_same rfl rfl rfl)
          · intro v; simp only [Act.put, List.setIfInBounds_toArray, List.set_cons_succ, List.set_cons_zero]; exact rfl
          · intro v; exact (rfl : _ = ([x33, x34, x35, x36, x37, x38, x39, x40, x41, x42, x43, x44, x45, x46, x47, x48, x49, v] : List Value))
          intro x50
          apply Oz.walk_cons rfl
          · intro w1 hb hu hd ho K hK
            have e50 : _ = x50 := Eq.symm (hd 17 (by kernel_rfl))
            subst e50
            have e46 : _ = x46 := Eq.symm (hd 13 (by kernel_rfl))
            subst e46
            clear hu hd ho
            have c0 := (hb.cell (cell_lt x0)).trans x0
            have c1 := (hb.cell (cell_lt x1)).trans x1
            have c2 := (hb.cell (cell_lt x2)).trans x2
            go_simp
            exact hK _ _ (Oz.good_same rfl rfl rfl)
          · intro v; simp only [Act.put, List.setIfInBounds_toArray, List.set_cons_succ, List.set_cons_zero]; exact rfl
          · intro v; exact (rfl : _ = ([x33, x34, x35, x36, x37, x38, x39, x40, x41, x42, x43, x44, x45, x46, x47, x48, x49, x50, v] : List Value))
          intro x51
          apply Oz.walk_cons rfl
          · intro w1 hb hu hd ho K hK
            have e51 : _ = x51 := Eq.symm (hd 18 (by kernel_rfl))
            subst e51
            have e46 : _ = x46 := Eq.symm (hd 13 (by kernel_rfl))
            subst e46
            clear hu hd ho
            go_simp
            refine (HRR.out w1).mono ?_
            rintro e w2 ⟨rfl, hb2⟩
            go_simp
            exact hK _ _ (Oz.good_below rfl rfl hb2 rfl)
          · intro v; simp only [Act.put, List.setIfInBounds_toArray, List.set_cons_succ, List.set_cons_zero]; exact rfl
          · intro v; exact (rfl : _ = ([x33, x34, x35, x36, x37, x38, x39, x40, x41, x42, x43, x44, x45, x46, x47, x48, x49, x50, x51, v] : List Value))
          intro x52
          apply Oz.walk_cons rfl
          · intro w1 hb hu hd ho K hK
            have e52 : _ = x52 := Eq.symm (hd 19 (by kernel_rfl))
            subst e52
            have e46 : _ = x46 := Eq.symm (hd 13 (by kernel_rfl))
            subst e46
            clear hu hd ho
            go_simp
            exact hK _ _ (Oz.good_same rfl rfl rfl)
          · intro v; simp only [Act.put, List.setIfInBounds_toArray, List.set_cons_succ, List.set_cons_zero]; exact rfl
          · intro v; exact (rfl : _ = ([x33, x34, x35, x36, x37, x38, x39, x40, x41, x42, x43, x44, x45, x46, x47, x48, x49, x50, x51, x52, v] : List Value))
          intro x53
          apply Oz.walk_cons rfl
          · intro w1 hb hu hd ho K hK
            have e46 : _ = x46 := Eq.symm (hd 13 (by kernel_rfl))
            subst e46
            have e53 : _ = x53 := Eq.symm (hd 20 (by kernel_rfl))
            subst e53
            clear hu hd ho
            go_simp
            exact hK _ _ (Oz.good_same rfl rfl rfl)
          · intro v; simp only [Act.put, List.setIfInBounds_toArray, List.set_cons_succ, List.set_cons_zero]; exact rfl
          · intro v; exact (rfl : _ = ([x33, x34, x35, x36, x37, x38, x39, x40, x41, x42, x43, x44, x45, x46, x47, x48, x49, x50, x51, x52, x53, v] : List Value))
          intro x54
          refine Oz.walk_nil rfl (fun w1 hb hu hd => ?_)
          have e33 : _ = x33 := Eq.symm (hd 0 (by kernel_rfl))
          subst e33
          have e34 : _ = x34 := Eq.symm (hd 1 (by kernel_rfl))
          subst e34
          have e35 : _ = x35 := Eq.symm (hd 2 (by kernel_rfl))
          subst e35
          have e36 : _ = x36 := Eq.symm (hd 3 (by kernel_rfl))
          subst e36
          have e37 : _ = x37 := Eq.symm (hd 4 (by kernel_rfl))
          subst e37
          have e38 : _ = x38 := Eq.symm (hd 5 (by kernel_rfl))
          subst e38
          have e39 : _ = x39 := Eq.symm (hd 6 (by kernel_rfl))
          subst e39
          have e40 : _ = x40 := Eq.symm (hd 7 (by kernel_rfl))
          subst e40
          have e41 : _ = x41 := Eq.symm (hd 8 (by kernel_rfl))
          subst e41
          have e42 : _ = x42 := Eq.symm (hd 9 (by kernel_rfl))
          subst e42
          have e43 : _ = x43 := Eq.symm (hd 10 (by kernel_rfl))
          subst e43
          have e44 : _ = x44 := Eq.symm (hd 11 (by kernel_rfl))
          subst e44
          have e45 : _ = x45 := Eq.symm (hd 12 (by kernel_rfl))
          subst e45
          have e46 : _ = x46 := Eq.symm (hd 13 (by kernel_rfl))
          subst e46
          have e47 : _ = x47 := Eq.symm (hd 14 (by kernel_rfl))
          subst e47
          have e48 : _ = x48 := Eq.symm (hd 15 (by kernel_rfl))
          subst e48
          have e49 : _ = x49 := Eq.symm (hd 16 (by kernel_rfl))
          subst e49
          have e50 : _ = x50 := Eq.symm (hd 17 (by kernel_rfl))
          subst e50
          have e51 : _ = x51 := Eq.symm (hd 18 (by kernel_rfl))
          subst e51
          have e52 : _ = x52 := Eq.symm (hd 19 (by kernel_rfl))
          subst e52
          have e53 : _ = x53 := Eq.symm (hd 20 (by kernel_rfl))
          subst e53
          have e54 : _ = x54 := Eq.symm (hd 21 (by kernel_rfl))
          subst e54
          clear hd hu
          have HBN := Lib.hid (HBR.out.drew.trans (hb.mono HBR.out.size))
          clear hb
          go_simp
          go_wp2
          go_ret
          exact ⟨rfl, HW2.out.trans (HBN.out.mono HW2.out.size)⟩
      · have tne := int_ne hke
        have tne' : (xk != vk) = true := bne_iff_ne.2 hke
        clear hrr HNX
        go_wp2_with fail
        refine Oz.region_own' 126 [Ow.eqR (.pointer (some ⟨w.heap.size, 1, none⟩)), Ow.eqR (.slice (some ⟨bx, ox, none⟩) n xc), Ow.eqR (.int .i64 (k : Int)), Ow.eqR (.pointer (some ⟨bx, ox + k * 3, none⟩)), Ow.eqR (.pointer (some ⟨bx, ox + k * 3, none⟩)), Ow.eqR (.int .i64 xk), Ow.eqR (.pointer (some ⟨w.heap.size, 0, none⟩)), Ow.eqR (.slice (some ⟨bv, ov, none⟩) n vc), Ow.eqR (.int .i64 (k : Int)), Ow.eqR (.pointer (some ⟨bv, ov + k * 7, none⟩)), Ow.eqR (.pointer (some ⟨bv, ov + k * 7 + 1, none⟩)), Ow.eqR (.int .i64 vk), Ow.eqR (.bool true), Ow.eqR (.bool true), Ow.eqR (undef), Ow.eqR (undef), Ow.eqR (undef), Ow.eqR (undef), Ow.eqR (undef), Ow.eqR (undef), Ow.eqR (undef), Ow.eqR (.bool true)] [false, false, false, false, false, false, false, false, false, false, false, false, false, false, false, false, false, false, false, false, false, false] [none, none, none, none, none, none, none, none, none, none, none, none, none, none, none, none, none, none, none, none, none, none] (by kernel_rfl) rfl (by kernel_rfl) ⟨Oz.keeps_eq _ _, Oz.keeps_eq _ _, Oz.keeps_eq _ _, Oz.keeps_eq _ _, Oz.keeps_eq _ _, Oz.keeps_eq _ _, Oz.keeps_eq _ _, Oz.keeps_eq _ _, Oz.keeps_eq _ _, Oz.keeps_eq _ _, Oz.keeps_eq _ _, Oz.keeps_eq _ _, Oz.keeps_eq _ _, Oz.keeps_eq _ _, Oz.keeps_eq _ _, Oz.keeps_eq _ _, Oz.keeps_eq _ _, Oz.keeps_eq _ _, Oz.keeps_eq _ _, Oz.keeps_eq _ _, Oz.keeps_eq _ _, Oz.keeps_eq _ _, trivial⟩ ?_
        apply Oz.walk_cons rfl
        · intro w1 hb hu hd ho K hK
          clear hu hd ho
          go_simp
          exact hK _ _ (Oz.good_same rfl rfl rfl)
        · intro v; simp only [Act.put, List.setIfInBounds_toArray, List.set_cons_succ, List.set_cons_zero]; exact rfl
        · intro v; exact (rfl : _ = ([v] : List Value))
        intro x33
        apply Oz.walk_cons rfl
        · intro w1 hb hu hd ho K hK
          have e33 : _ = x33 := Eq.symm (hd 0 (by kernel_rfl))
          subst e33
          clear hu hd ho
          have hfull : Below w2.heap.size w2 w1 := HBR.out.drew.trans (hb.mono HBR.out.size)
          have c0 := (hfull.cell (cell_lt g1)).trans g1
          clear hfull
          go_simp
          exact hK _ _ (Oz.good_same rfl rfl rfl)
        · intro v; simp only [Act.put, List.setIfInBounds_toArray, List.set_cons_succ, List.set_cons_zero]; exact rfl
        · intro v; exact (rfl : _ = ([x33, v] : List Value))
        intro x34
        apply Oz.walk_cons rfl
        · intro w1 hb hu hd ho K hK
          clear hu hd ho
          go_simp
          exact hK _ _ (Oz.good_same rfl rfl rfl)
        · intro v; simp only [Act.put, List.setIfInBounds_toArray, List.set_cons_succ, List.set_cons_zero]; exact rfl
        · intro v; exact (rfl : _ = ([x33, x34, v] : List Value))
        intro x35
        apply Oz.walk_cons rfl
        · intro w1 hb hu hd ho K hK
          have e34 : _ = x34 := Eq.symm (hd 1 (by kernel_rfl))
          subst e34
          have e35 : _ = x35 := Eq.symm (hd 2 (by kernel_rfl))
          subst e35
          clear hu hd ho
          go_simp
          exact hK _ _ (Oz.good_same rfl rfl rfl)
        · intro v; simp only [Act.put, List.setIfInBounds_toArray, List.set_cons_succ, List.set_cons_zero]; exact rfl
        · intro v; exact (rfl : _ = ([x33, x34, x35, v] : List Value))
        intro x36
        apply Oz.walk_cons rfl
        · intro w1 hb hu hd ho K hK
          have e36 : _ = x36 := Eq.symm (hd 3 (by kernel_rfl))
          subst e36
          clear hu hd ho
          go_simp
          exact hK _ _ (Oz.good_same rfl rfl rfl)
        · intro v; simp only [Act.put, List.setIfInBounds_toArray, List.set_cons_succ, List.set_cons_zero]; exact rfl
        · intro v; exact (rfl : _ = ([x33, x34, x35, x36, v] : List Value))
        intro x37
        apply Oz.walk_cons rfl
        · intro w1 hb hu hd ho K hK
          have e37 : _ = x37 := Eq.symm (hd 4 (by kernel_rfl))
          subst e37
          clear hu hd ho
          have c0 := (hb.cell (cell_lt x0)).trans x0
          go_simp
          exact hK _ _ (Oz.good_same rfl rfl rfl)
        · intro v; simp only [Act.put, List.setIfInBounds_toArray, List.set_cons_succ, List.set_cons_zero]; exact rfl
        · intro v; exact (rfl : _ = ([x33, x34, x35, x36, x37, v] : List Value))
        intro x38
        apply Oz.walk_cons rfl
        · intro w1 hb hu hd ho K hK
          clear hu hd ho
          go_simp
          exact hK _ _ (Oz.good_same rfl rfl rfl)
        · intro v; simp only [Act.put, List.setIfInBounds_toArray, List.set_cons_succ, List.set_cons_zero]; exact rfl
        · intro v; exact (rfl : _ = ([x33, x34, x35, x36, x37, x38, v] : List Value))
        intro x39
        apply Oz.walk_cons rfl
        · intro w1 hb hu hd ho K hK
          have e39 : _ = x39 := Eq.symm (hd 6 (by kernel_rfl))
          subst e39
          clear hu hd ho
          have hfull : Below w2.heap.size w2 w1 := HBR.out.drew.trans (hb.mono HBR.out.size)
          have c0 := (hfull.cell (cell_lt g0)).trans g0
          clear hfull
          go_simp
          exact hK _ _ (Oz.good_same rfl rfl rfl)
        · intro v; simp only [Act.put, List.setIfInBounds_toArray, List.set_cons_succ, List.set_cons_zero]; exact rfl
        · intro v; exact (rfl : _ = ([x33, x34, x35, x36, x37, x38, x39, v] : List Value))
        intro x40
        apply Oz.walk_cons rfl
        · intro w1 hb hu hd ho K hK
          clear hu hd ho
          go_simp
          exact hK _ _ (Oz.good_same rfl rfl rfl)
        · intro v; simp only [Act.put, List.setIfInBounds_toArray, List.set_cons_succ, List.set_cons_zero]; exact rfl
        · intro v; exact (rfl : _ = ([x33, x34, x35, x36, x37, x38, x39, x40, v] : List Value))
        intro x41
        apply Oz.walk_cons rfl
        · intro w1 hb hu hd ho K hK
          have e40 : _ = x40 := Eq.symm (hd 7 (by kernel_rfl))
          subst e40
          have e41 : _ = x41 := Eq.symm (hd 8 (by kernel_rfl))
          subst e41
          clear hu hd ho
          go_simp
          exact hK _ _ (Oz.good_same rfl rfl rfl)
        · intro v; simp only [Act.put, List.setIfInBounds_toArray, List.set_cons_succ, List.set_cons_zero]; exact rfl
        · intro v; exact (rfl : _ = ([x33, x34, x35, x36, x37, x38, x39, x40, x41, v] : List Value))
        intro x42
        apply Oz.walk_cons rfl
        · intro w1 hb hu hd ho K hK
          have e42 : _ = x42 := Eq.symm (hd 9 (by kernel_rfl))
          subst e42
          clear hu hd ho
          go_simp
          exact hK _ _ (Oz.good_same rfl rfl rfl)
        · intro v; simp only [Act.put, List.setIfInBounds_toArray, List.set_cons_succ, List.set_cons_zero]; exact rfl
        · intro v; exact (rfl : _ = ([x33, x34, x35, x36, x37, x38, x39, x40, x41, x42, v] : List Value))
        intro x43
        apply Oz.walk_cons rfl
        · intro w1 hb hu hd ho K hK
          have e43 : _ = x43 := Eq.symm (hd 10 (by kernel_rfl))
          subst e43
          clear hu hd ho
          have c0 := (hb.cell (cell_lt y1)).trans y1
          go_simp
          exact hK _ _ (Oz.good_same rfl rfl rfl)
        · intro v; simp only [Act.put, List.setIfInBounds_toArray, List.set_cons_succ, List.set_cons_zero]; exact rfl
        · intro v; exact (rfl : _ = ([x33, x34, x35, x36, x37, x38, x39, x40, x41, x42, x43, v] : List Value))
        intro x44
        apply Oz.walk_cons rfl
        · intro w1 hb hu hd ho K hK
          have e38 : _ = x38 := Eq.symm (hd 5 (by kernel_rfl))
          subst e38
          have e44 : _ = x44 := Eq.symm (hd 11 (by kernel_rfl))
          subst e44
          clear hu hd ho
          go_simp
          exact hK _ _ (Oz.good_same rfl rfl rfl)
        · intro v; simp only [Act.put, List.setIfInBounds_toArray, List.set_cons_succ, List.set_cons_zero]; exact rfl
        · intro v; exact (rfl : _ = ([x33, x34, x35, x36, x37, x38, x39, x40, x41, x42, x43, x44, v] : List Value))
        intro x45
        apply Oz.walk_cons rfl
        · intro w1 hb hu hd ho K hK
          have e45 : _ = x45 := Eq.symm (hd 12 (by kernel_rfl))
          subst e45
          clear hu hd ho
          go_simp
          exact hK _ _ (Oz.good_same rfl rfl rfl)
        · intro v; simp only [Act.put, List.setIfInBounds_toArray, List.set_cons_succ, List.set_cons_zero]; exact rfl
        · intro v; exact (rfl : _ = ([x33, x34, x35, x36, x37, x38, x39, x40, x41, x42, x43, x44, x45, v] : List Value))
        intro x46
        apply Oz.walk_cons rfl
        · intro w1 hb hu hd ho K hK
          have e46 : _ = x46 := Eq.symm (hd 13 (by kernel_rfl))
          subst e46
          clear hu hd ho
          go_simp
          exact hK _ _ (Oz.good_same rfl rfl rfl)
        · intro v; simp only [Act.put, List.setIfInBounds_toArray, List.set_cons_succ, List.set_cons_zero]; exact rfl
        · intro v; exact (rfl : _ = ([x33, x34, x35, x36, x37, x38, x39, x40, x41, x42, x43, x44, x45, x46, v] : List Value))
        intro x47
        apply Oz.walk_cons rfl
        · intro w1 hb hu hd ho K hK
          have e47 : _ = x47 := Eq.symm (hd 14 (by kernel_rfl))
          subst e47
          have e46 : _ = x46 := Eq.symm (hd 13 (by kernel_rfl))
          subst e46
          clear hu hd ho
          go_simp
          exact hK _ _ (Oz.good_same rfl rfl rfl)
        · intro v; simp only [Act.put, List.setIfInBounds_toArray, List.set_cons_succ, List.set_cons_zero]; exact rfl
        · intro v; exact (rfl : _ = ([x33, x34, x35, x36, x37, x38, x39, x40, x41, x42, x43, x44, x45, x46, x47, v] : List Value))
        intro x48
        apply Oz.walk_cons rfl
        · intro w1 hb hu hd ho K hK
          have e46 : _ = x46 := Eq.symm (hd 13 (by kernel_rfl))
          subst e46
          clear hu hd ho
          go_simp
          exact hK _ _ (Oz.good_same rfl rfl rfl)
        · intro v; simp only [Act.put, List.setIfInBounds_toArray, List.set_cons_succ, List.set_cons_zero]; exact rfl
        · intro v; exact (rfl : _ = ([x33, x34, x35, x36, x37, x38, x39, x40, x41, x42, x43, x44, x45, x46, x47, x48, v] : List Value))
        intro x49
        apply Oz.walk_cons rfl
        · intro w1 hb hu hd ho K hK
          have e48 : _ = x48 := Eq.symm (hd 15 (by kernel_rfl))
          subst e48
          have e49 : _ = x49 := Eq.symm (hd 16 (by kernel_rfl))
          subst e49
          have e46 : _ = x46 := Eq.symm (hd 13 (by kernel_rfl))
          subst e46
          clear hu hd ho
          go_simp
          exact hK _ _ (Oz.good_same rfl rfl rfl)
        · intro v; simp only [Act.put, List.setIfInBounds_toArray, List.set_cons_succ, List.set_cons_zero]; exact rfl
        · intro v; exact (rfl : _ = ([x33, x34, x35, x36, x37, x38, x39, x40, x41, x42, x43, x44, x45, x46, x47, x48, x49, v] : List Value))
        intro x50
        apply Oz.walk_cons rfl
        · intro w1 hb hu hd ho K hK
          have e50 : _ = x50 := Eq.symm (hd 17 (by kernel_rfl))
          subst e50
          have e46 : _ = x46 := Eq.symm (hd 13 (by kernel_rfl))
          subst e46
          clear hu hd ho
          go_simp
          exact hK _ _ (Oz.good_same rfl rfl rfl)
        · intro v; simp only [Act.put, List.setIfInBounds_toArray, List.set_cons_succ, List.set_cons_zero]; exact rfl
        · intro v; exact (rfl : _ = ([x33, x34, x35, x36, x37, x38, x39, x40, x41, x42, x43, x44, x45, x46, x47, x48, x49, x50, v] : List Value))
        intro x51
        apply Oz.walk_cons rfl
        · intro w1 hb hu hd ho K hK
          have e51 : _ = x51 := Eq.symm (hd 18 (by kernel_rfl))
          subst e51
          have e46 : _ = x46 := Eq.symm (hd 13 (by kernel_rfl))
          subst e46
          clear hu hd ho
          go_simp
          exact hK _ _ (Oz.good_same rfl rfl rfl)
        · intro v; simp only [Act.put, List.setIfInBounds_toArray, List.set_cons_succ, List.set_cons_zero]; exact rfl
        · intro v; exact (rfl : _ = ([x33, x34, x35, x36, x37, x38, x39, x40, x41, x42, x43, x44, x45, x46, x47, x48, x49, x50, x51, v] : List Value))
        intro x52
        apply Oz.walk_cons rfl
        · intro w1 hb hu hd ho K hK
          have e52 : _ = x52 := Eq.symm (hd 19 (by kernel_rfl))
          subst e52
          have e46 : _ = x46 := Eq.symm (hd 13 (by kernel_rfl))
          subst e46
          clear hu hd ho
          go_simp
          exact hK _ _ (Oz.good_same rfl rfl rfl)
        · intro v; simp only [Act.put, List.setIfInBounds_toArray, List.set_cons_succ, List.set_cons_zero]; exact rfl
        · intro v; exact (rfl : _ = ([x33, x34, x35, x36, x37, x38, x39, x40, x41, x42, x43, x44, x45, x46, x47, x48, x49, x50, x51, x52, v] : List Value))
        intro x53
        apply Oz.walk_cons rfl
        · intro w1 hb hu hd ho K hK
          have e46 : _ = x46 := Eq.symm (hd 13 (by kernel_rfl))
          subst e46
          have e53 : _ = x53 := Eq.symm (hd 20 (by kernel_rfl))
          subst e53
          clear hu hd ho
          go_simp
          exact hK _ _ (Oz.good_same rfl rfl rfl)
        · intro v; simp only [Act.put, List.setIfInBounds_toArray, List.set_cons_succ, List.set_cons_zero]; exact rfl
        · intro v; exact (rfl : _ = ([x33, x34, x35, x36, x37, x38, x39, x40, x41, x42, x43, x44, x45, x46, x47, x48, x49, x50, x51, x52, x53, v] : List Value))
        intro x54
        refine Oz.walk_nil rfl (fun w1 hb hu hd => ?_)
        have e33 : _ = x33 := Eq.symm (hd 0 (by kernel_rfl))
        subst e33
        have e34 : _ = x34 := Eq.symm (hd 1 (by kernel_rfl))
        subst e34
        have e35 : _ = x35 := Eq.symm (hd 2 (by kernel_rfl))
        subst e35
        have e36 : _ = x36 := Eq.symm (hd 3 (by kernel_rfl))
        subst e36
        have e37 : _ = x37 := Eq.symm (hd 4 (by kernel_rfl))
        subst e37
        have e38 : _ = x38 := Eq.symm (hd 5 (by kernel_rfl))
        subst e38
        have e39 : _ = x39 := Eq.symm (hd 6 (by kernel_rfl))
        subst e39
        have e40 : _ = x40 := Eq.symm (hd 7 (by kernel_rfl))
        subst e40
        have e41 : _ = x41 := Eq.symm (hd 8 (by kernel_rfl))
        subst e41
        have e42 : _ = x42 := Eq.symm (hd 9 (by kernel_rfl))
        subst e42
        have e43 : _ = x43 := Eq.symm (hd 10 (by kernel_rfl))
        subst e43
        have e44 : _ = x44 := Eq.symm (hd 11 (by kernel_rfl))
        subst e44
        have e45 : _ = x45 := Eq.symm (hd 12 (by kernel_rfl))
        subst e45
        have e46 : _ = x46 := Eq.symm (hd 13 (by kernel_rfl))
        subst e46
        have e47 : _ = x47 := Eq.symm (hd 14 (by kernel_rfl))
        subst e47
        have e48 : _ = x48 := Eq.symm (hd 15 (by kernel_rfl))
        subst e48
        have e49 : _ = x49 := Eq.symm (hd 16 (by kernel_rfl))
        subst e49
        have e50 : _ = x50 := Eq.symm (hd 17 (by kernel_rfl))
        subst e50
        have e51 : _ = x51 := Eq.symm (hd 18 (by kernel_rfl))
        subst e51
        have e52 : _ = x52 := Eq.symm (hd 19 (by kernel_rfl))
        subst e52
        have e53 : _ = x53 := Eq.symm (hd 20 (by kernel_rfl))
        subst e53
        have e54 : _ = x54 := Eq.symm (hd 21 (by kernel_rfl))
        subst e54
        clear hd hu
        have HBN := Lib.hid (HBR.out.drew.trans (hb.mono HBR.out.size))
        clear hb
        go_simp
        go_wp2
        go_ret
        exact ⟨rfl, HW2.out.trans (HBN.out.mono HW2.out.size)⟩
    · obtain rfl : k = n := by omega
      have hsn := HSN.out (fun i h h' => (HC.out i h h' (by rw [← HXN.out]; exact h)).1) (by
        rw [List.all_eq_true]
        intro x hx
        obtain ⟨i, hi, rfl⟩ := List.mem_iff_getElem.1 hx
        exact (HC.out i hi (by rw [HN.out, ← HXN.out]; exact hi) (by rw [← HXN.out]; exact hi)).2)
      have HSN2 := Lib.hid hsn
      clear hsn HSN HC
      have e0 := (HBR.out.cell (cell_lt q0)).trans q0
      have e1 := (HBR.out.cell (cell_lt q1)).trans q1
      have e2 := (HBR.out.cell (cell_lt q2)).trans q2
      have f0 := (HBR.out.cell (cell_lt g0)).trans g0
      clear q0 q1 q2 g0 g1 g2
      obtain ⟨wb, hwb⟩ : ∃ W, W = wr := ⟨_, rfl⟩
      subst hwb
      go_wp2
      go_loopw [8, 9, 58] (fun x8 _ x58 wr => ∃ k : Nat, k ≤ cs.length ∧ x58 = .int .i64 (k : Int) ∧ Below wb.heap.size wb wr ∧ Hid (wr.ownsRow wb.heap.size 9 1 x8 (nmsOf (cs.take k)).length ((nmsOf (cs.take k)).map bstr))) (fun _ _ x _ => cs.length - (intOf x).toNat)
      case atStart => exact ⟨0, by omega, rfl, Below.refl _ _, World.ownsRow_nil _ _ _ _⟩
      case round =>
        obtain ⟨j, hj, rfl, hbj, HO⟩ := hrel
        have HBJ := Lib.hid hbj
        have HWJ := Lib.hid (HWR.out.trans (hbj.mono HWR.out.size))
        clear hbj
        by_cases hjc : j < cs.length
        · obtain ⟨A', c', he, hrd⟩ := (HRA.out.below HWJ.out).rd
          simp only [Value.slice.injEq] at he
          obtain ⟨rfl, _, rfl⟩ := he
          obtain ⟨b, o, rfl, d0, _, d2⟩ := hrd j hjc
          have hst := nms_step hjc
          obtain ⟨N, hN1, hN2⟩ := bstr_some cs[j].nm
          rw [hN1] at d2
          rw [← hN2] at hst
          have hnl := nms_len (cs.take j)
          have htl : (cs.take j).length ≤ cs.length := by rw [List.length_take]; omega
          clear hrd hN1 hN2
          generalize cs[j].op = co at *
          by_cases h6 : co = 6
          · subst h6
            rw [if_pos rfl] at hst
            obtain ⟨ns, hns⟩ : ∃ ns, nmsOf (cs.take j) = ns := ⟨_, rfl⟩
            rw [hns] at HO hst hnl
            have HST := Lib.hid hst
            have HN1 : Hid (∀ W : World, Inn (W.alloc (.cells #[.string N] 9)) 1 (.slice (some ⟨W.heap.size, 0, none⟩) 1 1) 1 [.string N]) := fun W => Inn.of_own (Oz.own_laid (B := 0) (size := 1) W #[.string N] (Nat.zero_le _) (by decide) rfl)
            have hbz := HBJ.out.size
            clear hst hns
            go_wp2_with (at_builtin; refine Ow.wpList_append rfl (.tmp 67) (.tmp 73) 29 rfl wb.heap.size 9 is _ 1 16 Try.underlying29 HS0.out HS1.out HS2.out HS3.out rfl (by decide) _ ns.length (ns.map bstr) rfl (HO.out.alloc _) _ 1 [.string N] rfl (HN1.out _) (by intro u hu; simp only [List.mem_cons, List.not_mem_nil, or_false] at hu; subst hu; rfl) (by unfold maxLen; omega) (by omega) (by simp; omega) ?_)
            intro v' w' hown hgr _
            have HO2 : Hid (w'.ownsRow wb.heap.size 9 1 v' (nmsOf (cs.take (j + 1))).length ((nmsOf (cs.take (j + 1))).map bstr)) := by
              rw [HST.out, List.length_append, List.map_append]
              exact hown
            have HB2 : Hid (Below wb.heap.size wb w') := (HBJ.out.alloc HBJ.out.size (.cells #[.string N] 9)).grown hgr (by simp; omega) (fun k hk => (HO.out.lt k hk).1)
            clear hown hgr
            go_wp2
            go_roundw
            case rel => exact ⟨j + 1, by omega, by go_num, HB2.out, HO2⟩
            case measure => simp [intOf]; omega
          · rw [if_neg h6, List.append_nil] at hst
            have HST := Lib.hid hst
            have t6 := int_ne h6
            clear hst
            go_wp2
            go_roundw
            case rel => exact ⟨j + 1, by omega, by go_num, HBJ.out, by rw [HST.out]; exact HO⟩
            case measure => simp [intOf]; omega
        · obtain rfl : j = cs.length := by omega
          have ho := HO.out
          rw [List.take_length] at ho
          have hnl := nms_len cs
          have i0 := (HBJ.out.cell (cell_lt e0)).trans e0
          have i1 := (HBJ.out.cell (cell_lt e1)).trans e1
          have i2 := (HBJ.out.cell (cell_lt e2)).trans e2
          have j0 := (HBJ.out.cell (cell_lt f0)).trans f0
          have HRN := Lib.hid (Inn.of_own ho)
          have HLN : Hid ((nmsOf cs).length ≤ 4611686018427387904) := by show _ ≤ _; omega
          obtain ⟨A8, c8, rfl⟩ := HRN.out.form
          clear ho HO e0 e1 e2 f0
          go_wp2_with fail
          refine (HKD.out _ _ HWJ.out HRN.out HLN.out).mono ?_
          rintro e w5 ⟨rfl, hb5⟩
          have m0 := (hb5.cell (cell_lt i0)).trans i0
          have m1 := (hb5.cell (cell_lt i1)).trans i1
          have m2 := (hb5.cell (cell_lt i2)).trans i2
          have HWF := Lib.hid (HWJ.out.trans (hb5.mono HWJ.out.size))
          obtain ⟨hs1, hs2⟩ := HSN2.out
          change kf = 0 → _ at hs1
          change kf ≠ 0 → kf = 8 ∨ pe ≠ 0 at hs2
          clear hb5 i0 i1 i2 j0 HSN2
          by_cases hkf : kf = 0
          · clear hs2
            rcases hs1 hkf with ⟨he, hkd, hrt⟩ | ⟨hz, he⟩
            · as_aux_lemma =>
              change pe = 0 at he
              change pk = kk at hkd
              change rightV ⟨pk, pa, pb⟩ = true at hrt
              have hrr := fun W => evRight_any ⟨pk, pa, pb⟩ W
              rw [hrt] at hrr
              have HRR : Hid (∀ W, Calls Try.prog 10 #[.agg #[.int .i64 pk, .int .i64 pa, .int .i64 pb]] W fun e w' => e = .returned (.bool true) ∧ Below W.heap.size W w') := hrr
              subst hkf he hkd
              clear hs1 hrr hrt
              go_wp2_with fail
              refine (HRR.out _).mono ?_
              rintro e w6 ⟨rfl, hb6⟩
              have HWG := Lib.hid (HWF.out.trans (hb6.mono HWF.out.size))
              clear hb6
              go_wp2
              go_ret
              exact ⟨rfl, HWG.out⟩
            · as_aux_lemma =>
              change (⟨pk, pa, pb⟩ : VA) = VA.zero at hz
              obtain ⟨rfl, rfl, rfl⟩ : pk = 0 ∧ pa = 0 ∧ pb = 0 := by
                unfold VA.zero at hz
                injection hz with h1 h2 h3
                exact ⟨h1, h2, h3⟩
              change pe = 5 ∨ pe = 6 ∨ pe = 7 at he
              subst hkf
              clear hs1 hz
              rcases he with rfl | rfl | rfl
              all_goals
                go_wp2
                go_ret
                exact ⟨rfl, HWF.out⟩
          · have tkf := int_ne hkf
            have hs3 := hs2 hkf
            clear hs1 hs2
            by_cases hpe : pe = 0
            · have hk8 := hs3.resolve_right (fun h => h hpe)
              subst hpe hk8
              clear hs3
              by_cases hz : 0 < (nmsOf cs).length
              · as_aux_lemma =>
                go_wp2
                go_ret
                exact ⟨rfl, HWF.out⟩
              · as_aux_lemma =>
                go_wp2
                go_ret
                exact ⟨rfl, HWF.out⟩
            · as_aux_lemma =>
              have tpe := int_ne hpe
              clear hs3
              go_wp2
              go_ret
              exact ⟨rfl, HWF.out⟩
end Go.Proofs.Ytpidikbhjiaogaa
