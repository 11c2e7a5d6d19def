/- The law EvalIn walked. -/
import Derived.Test.YtpidikbhjiaogaaVw
namespace Go.Proofs.Ytpidikbhjiaogaa
open Go.RowKit

/-- without variables and states the world counts for nothing -/
theorem made_alone (vs : List VM) (xs : List VA) (ss : List (List UInt8)) (c : CM) (st : List VA) (h5 : c.op ≠ 5) (h6 : c.op ≠ 6) : madeE vs xs ss c st = madeE [] [] [] c st := by
  unfold madeE
  split
  · unfold leafE
    rw [if_neg h5, if_neg h5, if_neg h6, if_neg h6]
  · rfl
  · rfl
theorem run_alone (vs : List VM) (xs : List VA) (ss : List (List UInt8)) : ∀ (l : List CM) (st : List VA), (∀ c ∈ l, c.op ≠ 5 ∧ c.op ≠ 6) → eRun vs xs ss l st = eRun [] [] [] l st
  | [], st, _ => rfl
  | c :: r, st, h => by
    have hc := h c (by simp)
    have hr := fun st => run_alone vs xs ss r st (fun c' hc' => h c' (by simp [hc']))
    rw [eRun, eRun, made_alone vs xs ss c _ hc.1 hc.2, hr]
theorem ev_alone (vs : List VM) (xs : List VA) (ss : List (List UInt8)) (cs : List CM) (h : ∀ c ∈ cs, c.op ≠ 5 ∧ c.op ≠ 6) : (evP vs xs ss cs).2 = 12 ∨ evP [] [] [] cs = evP vs xs ss cs := by
  cases hB : rightB cs with
  | false => right; rw [evP_form hB, evP_form hB]
  | true =>
    cases hW : worldB vs xs with
    | false => left; rw [evP_arg hB hW]; rfl
    | true => right; rw [evP_run hB hW, evP_run hB rfl, run_alone vs xs ss cs [] h]
theorem ev_in (ss : List (List UInt8)) (nm : List UInt8) : evP [] [] ss [⟨6, 0, nm⟩] = if rightB [⟨6, 0, nm⟩] = true then (truV (decide (nm ∈ ss)), 0) else erV 1 := by
  cases hB : rightB [⟨6, 0, nm⟩] with
  | false => rw [evP_form hB]; rfl
  | true => rw [evP_run hB rfl, if_pos rfl]; rfl
theorem take_mem {ss : List (List UInt8)} {nm : List UInt8} {k : Nat} (h : k < ss.length) : decide (nm ∈ ss.take (k + 1)) = (decide (nm ∈ ss.take k) || decide (ss[k] = nm)) := by
  rw [List.take_succ_eq_append_getElem h, Bool.eq_iff_iff]
  simp only [decide_eq_true_eq, Bool.or_eq_true, List.mem_append, List.mem_singleton]
  constructor
  · rintro (h | h)
    · exact Or.inl h
    · exact Or.inr h.symm
  · rintro (h | h)
    · exact Or.inl h
    · exact Or.inr h.symm

set_option maxRecDepth 100000 in
set_option maxHeartbeats 8000000 in
theorem evalIn_law (N : ByteArray) (hNs : N.size ≤ 9223372036854775807) (vl vv xv sv : Value) (cs : List CM) (vs : List VM) (xs : List VA) (ss : List (List UInt8)) (w : World) (hR : RdI w vl cs) (hl : cs.length * 32 ≤ 140737488355328) (hV : RdV w vv vs) (hvl : vs.length * 64 ≤ 140737488355328) (hX : RdX w xv xs) (hxl : xs.length * 24 ≤ 140737488355328) (hS : RdW w sv ss) (hsl : ss.length * 16 ≤ 140737488355328) (hi : ∀ x ∈ xs, inL x.a = true) :
    Calls Try.prog 8 #[.string N, .agg #[vv, xv, sv], vl] w fun e w' => e = .returned (.bool true) ∧ Below w.heap.size w w' := by
  obtain ⟨V, vc, rfl⟩ := hV.form
  obtain ⟨X, xc, rfl⟩ := hX.form
  obtain ⟨S, sc, rfl⟩ := hS.form
  have hin := hR.inn
  obtain ⟨A, c0, rfl⟩ := hin.form
  have hb0 : Below w.heap.size w ((w.alloc (.cells #[.slice V vs.length vc, .slice X xs.length xc, .slice S ss.length sc] 31)).alloc (.cells #[.int .i64 6, .int .i64 0, .string N] 41)) := ((Below.refl _ _).alloc (Nat.le_refl _) _).alloc (by simp) _
  have hz0 : ((w.alloc (.cells #[.slice V vs.length vc, .slice X xs.length xc, .slice S ss.length sc] 31)).alloc (.cells #[.int .i64 6, .int .i64 0, .string N] 41)).heap.size = w.heap.size + 1 + 1 := by simp
  have hri : RdC ((w.alloc (.cells #[.slice V vs.length vc, .slice X xs.length xc, .slice S ss.length sc] 31)).alloc (.cells #[.int .i64 6, .int .i64 0, .string N] 41)) (.slice (some ⟨w.heap.size + 1, 0, none⟩) 1 1) [⟨6, 0, N.data.toList⟩] := by
    have h := rd_new_cells (w.alloc (.cells #[.slice V vs.length vc, .slice X xs.length xc, .slice S ss.length sc] 31)) [⟨6, 0, N.data.toList⟩] #[.int .i64 6, .int .i64 0, .string N] 41 1 rfl rfl
    rw [show (w.alloc (.cells #[.slice V vs.length vc, .slice X xs.length xc, .slice S ss.length sc] 31)).heap.size = w.heap.size + 1 by simp] at h
    exact h
  have hbx0 : ((w.alloc (.cells #[.slice V vs.length vc, .slice X xs.length xc, .slice S ss.length sc] 31)).alloc (.cells #[.int .i64 6, .int .i64 0, .string N] 41)).heap[w.heap.size]? = some (.cells #[.slice V vs.length vc, .slice X xs.length xc, .slice S ss.length sc] 31 (0, 0)) := heap_up (heap_at rfl _ _) _
  have hNm : Names [⟨6, 0, N.data.toList⟩] := by
    intro c hc
    simp only [List.mem_cons, List.not_mem_nil, or_false] at hc
    subst hc
    simpa using hNs
  have ho1 := fun W (hb : Below ((w.alloc (.cells #[.slice V vs.length vc, .slice X xs.length xc, .slice S ss.length sc] 31)).alloc (.cells #[.int .i64 6, .int .i64 0, .string N] 41)).heap.size ((w.alloc (.cells #[.slice V vs.length vc, .slice X xs.length xc, .slice S ss.length sc] 31)).alloc (.cells #[.int .i64 6, .int .i64 0, .string N] 41)) W) => of5_any (.slice (some ⟨w.heap.size + 1, 0, none⟩) 1 1) (.slice none 0 0) (.slice none 0 0) (.slice S ss.length sc) [⟨6, 0, N.data.toList⟩] [] [] ss W (Or.inr ⟨_, _, rfl, hri.below hb⟩) (by simp) (Inn.nil _ _) (by decide) (Inn.nil _ _) (by decide) (hS.below (hb0.trans (hb.mono hb0.size))) hsl (fun x hx => by cases hx)
  have hrr := fun W (hb : Below ((w.alloc (.cells #[.slice V vs.length vc, .slice X xs.length xc, .slice S ss.length sc] 31)).alloc (.cells #[.int .i64 6, .int .i64 0, .string N] 41)).heap.size ((w.alloc (.cells #[.slice V vs.length vc, .slice X xs.length xc, .slice S ss.length sc] 31)).alloc (.cells #[.int .i64 6, .int .i64 0, .string N] 41)) W) => refRight_any (.slice (some ⟨w.heap.size + 1, 0, none⟩) 1 1) [⟨6, 0, N.data.toList⟩] W (hri.below hb) (by simp) hNm
  have ho2 := fun W (hb : Below w.heap.size w W) => of5_any (.slice A cs.length c0) (.slice none 0 0) (.slice none 0 0) (.slice none 0 0) cs [] [] [] W (hR.below hb) hl (Inn.nil _ _) (by decide) (Inn.nil _ _) (by decide) (Inn.nil _ _) (by decide) (fun x hx => by cases hx)
  have ho3 := fun W (hb : Below w.heap.size w W) => of5_any (.slice A cs.length c0) (.slice V vs.length vc) (.slice X xs.length xc) (.slice S ss.length sc) cs vs xs ss W (hR.below hb) hl (hV.below hb) hvl (hX.below hb) hxl (hS.below hb) hsl hi
  have hpin := ev_in ss N.data.toList
  have hal := ev_alone vs xs ss cs
  have HSA := Lib.hid hS
  have HRA := Lib.hid hR
  generalize hp : evP [] [] ss [⟨6, 0, N.data.toList⟩] = p at *
  generalize hq : evP [] [] [] cs = q at *
  generalize hr : evP vs xs ss cs = r at *
  obtain ⟨⟨pk, pa, pb⟩, pe⟩ := p
  obtain ⟨⟨qk, qa, qb⟩, qe⟩ := q
  obtain ⟨⟨rk, ra, rb⟩, re⟩ := r
  have HO1 : Hid (∀ W, Below ((w.alloc (.cells #[.slice V vs.length vc, .slice X xs.length xc, .slice S ss.length sc] 31)).alloc (.cells #[.int .i64 6, .int .i64 0, .string N] 41)).heap.size ((w.alloc (.cells #[.slice V vs.length vc, .slice X xs.length xc, .slice S ss.length sc] 31)).alloc (.cells #[.int .i64 6, .int .i64 0, .string N] 41)) W → Calls Try.prog 12 #[.slice (some ⟨w.heap.size + 1, 0, none⟩) 1 1, .agg #[.slice none 0 0, .slice none 0 0, .slice S ss.length sc]] W fun e w' => e = .returned (.tuple #[.agg #[.int .i64 pk, .int .i64 pa, .int .i64 pb], .int .i64 pe]) ∧ Below W.heap.size W w') := ho1
  have HO2 : Hid (∀ W, Below w.heap.size w W → Calls Try.prog 12 #[.slice A cs.length c0, .agg #[.slice none 0 0, .slice none 0 0, .slice none 0 0]] W fun e w' => e = .returned (.tuple #[.agg #[.int .i64 qk, .int .i64 qa, .int .i64 qb], .int .i64 qe]) ∧ Below W.heap.size W w') := ho2
  have HO3 : Hid (∀ W, Below w.heap.size w W → Calls Try.prog 12 #[.slice A cs.length c0, .agg #[.slice V vs.length vc, .slice X xs.length xc, .slice S ss.length sc]] W fun e w' => e = .returned (.tuple #[.agg #[.int .i64 rk, .int .i64 ra, .int .i64 rb], .int .i64 re]) ∧ Below W.heap.size W w') := ho3
  have HRR := Lib.hid hrr
  have HPI := Lib.hid hpin
  have HAL := Lib.hid hal
  have HB0 := Lib.hid hb0; have HZ0 := Lib.hid hz0; have HX0 := Lib.hid hbx0
  clear ho1 ho2 ho3 hrr hpin hal hR hV hX hS hin hi hb0 hbx0 hri hNm hp hq hr
  go_enter Try.func8, Try.ntmps8
  go_wp2_with fail
  refine (HO1.out _ (Below.refl _ _)).mono ?_
  rintro e wv ⟨rfl, hb1⟩
  have hx1 := heap_up ((hb1.block _ (by rw [hz0]; omega)).trans HX0.out) (.cells #[.int .i64 pk, .int .i64 pa, .int .i64 pb] 23)
  obtain ⟨b0, b1, b2, _⟩ := at3 hx1
  have HB1 := Lib.hid (hb1.alloc hb1.size (.cells #[.int .i64 pk, .int .i64 pa, .int .i64 pb] 23))
  have hzv : w.heap.size + 1 + 1 ≤ wv.heap.size := by have := hb1.size; rw [hz0] at this; exact this
  have v0' : (wv.alloc (.cells #[.int .i64 pk, .int .i64 pa, .int .i64 pb] 23)).cell? ⟨wv.heap.size, 0, none⟩ = some (.int .i64 pk) := new_cell rfl rfl
  have v1' : (wv.alloc (.cells #[.int .i64 pk, .int .i64 pa, .int .i64 pb] 23)).cell? ⟨wv.heap.size, 1, none⟩ = some (.int .i64 pa) := new_cell rfl rfl
  have v2' : (wv.alloc (.cells #[.int .i64 pk, .int .i64 pa, .int .i64 pb] 23)).cell? ⟨wv.heap.size, 2, none⟩ = some (.int .i64 pb) := new_cell rfl rfl
  have HBW := Lib.hid (HB0.out.trans (HB1.out.mono HB0.out.size))
  have HX1 := Lib.hid hx1
  clear hb1 hx1
  go_wp2
  obtain ⟨WV, hWV⟩ : ∃ W, W = wv.alloc (.cells #[.int .i64 pk, .int .i64 pa, .int .i64 pb] 23) := ⟨_, rfl⟩
  have hzW : WV.heap.size = wv.heap.size + 1 := by rw [hWV]; simp
  rw [← hWV] at HB1 HBW v0' v1' v2' b0 b1 b2 HX1 ⊢
  clear hWV
  go_loopw [10, 11, 31] (fun x10 _ x31 wr => wr = WV ∧ ∃ k, k ≤ ss.length ∧ x31 = .int .i64 (k : Int) ∧ x10 = .bool (decide (N.data.toList ∈ ss.take k))) (fun _ _ x _ => ss.length - (intOf x).toNat)
  case atStart => exact ⟨rfl, 0, by omega, rfl, by simp⟩
  case round =>
    obtain ⟨rfl, k, hk, rfl, rfl⟩ := hrel
    by_cases hks : k < ss.length
    · skip
      obtain ⟨b, o, rfl, _, hc⟩ := (HSA.out.below HBW.out).at_ hks
      have hst := take_mem (nm := N.data.toList) hks
      obtain ⟨Y, hY, hYl⟩ := bstr_some ss[k]
      rw [hY] at hc
      rw [← hYl] at hst
      clear hY hYl
      cases hbk : decide (N.data.toList ∈ ss.take k) with
      | true =>
        rw [hbk, Bool.true_or] at hst
        have hmem := of_decide_eq_true hst
        clear hst
        go_wp2
        go_roundw
        case rel => exact ⟨by trivial, k + 1, by omega, by go_num, by simp [hmem]⟩
        case measure => simp [intOf]; omega
      | false =>
        rw [hbk, Bool.false_or] at hst
        by_cases he : Y.data.toList = N.data.toList
        · obtain rfl := str_eq he
          rw [decide_eq_true rfl] at hst
          have hmem := of_decide_eq_true hst
          clear hst
          go_wp2
          go_roundw
          case rel => exact ⟨by trivial, k + 1, by omega, by go_num, by simp [hmem]⟩
          case measure => simp [intOf]; omega
        · rw [decide_eq_false he] at hst
          have hmem := of_decide_eq_false hst
          have hne := str_ne he
          have hne' := str_ne (Ne.symm he)
          clear hst
          go_wp2
          go_roundw
          case rel => exact ⟨by trivial, k + 1, by omega, by go_num, by simp [hmem]⟩
          case measure => simp [intOf]; omega
    · obtain rfl : k = ss.length := by omega
      have hbk : decide (N.data.toList ∈ ss.take ss.length) = decide (N.data.toList ∈ ss) := by rw [List.take_length]
      rw [hbk]
      generalize decide (N.data.toList ∈ ss) = bb at *
      clear hbk
      go_wp2_with fail
      refine (wakes5_any _).mono ?_
      rintro e w2 ⟨rfl, hb2⟩
      have HB2 := Lib.hid (HB1.out.trans (hb2.mono HB1.out.size))
      have u0 := (hb2.cell (p := ⟨wv.heap.size, 0, none⟩) (by show wv.heap.size < _; omega)).trans v0'
      have u1 := (hb2.cell (p := ⟨wv.heap.size, 1, none⟩) (by show wv.heap.size < _; omega)).trans v1'
      have u2 := (hb2.cell (p := ⟨wv.heap.size, 2, none⟩) (by show wv.heap.size < _; omega)).trans v2'
      have HX2 := Lib.hid ((hb2.block _ (by omega)).trans HX1.out)
      have hz2 := hb2.size
      clear hb2 v0' v1' v2' b0 b1 b2
      go_wp2_with fail
      refine (HRR.out _ HB2.out).mono ?_
      rintro e w3 ⟨rfl, hb3⟩
      have HB3 := Lib.hid (HB2.out.trans (hb3.mono HB2.out.size))
      have HBW3 := Lib.hid (HB0.out.trans (HB3.out.mono HB0.out.size))
      have v0 := (hb3.cell (p := ⟨wv.heap.size, 0, none⟩) (by show wv.heap.size < _; omega)).trans u0
      have v1 := (hb3.cell (p := ⟨wv.heap.size, 1, none⟩) (by show wv.heap.size < _; omega)).trans u1
      have v2 := (hb3.cell (p := ⟨wv.heap.size, 2, none⟩) (by show wv.heap.size < _; omega)).trans u2
      have HX3 := Lib.hid ((hb3.block _ (by omega)).trans HX2.out)
      have hz3 := hb3.size
      have hpi := HPI.out
      clear hb3 u0 u1 u2 HRR HPI
      generalize rightB [⟨6, 0, N.data.toList⟩] = rt at *
      cases rt with
      | false =>
        rw [if_neg (by decide)] at hpi
        have hpe : pe = 1 := congrArg Prod.snd hpi
        subst hpe
        clear hpi
        go_wp2
        go_ret
        exact ⟨rfl, HBW3.out⟩
      | true =>
        rw [if_pos rfl] at hpi
        have hpe : pe = 0 := congrArg Prod.snd hpi
        have hpv : (⟨pk, pa, pb⟩ : VA) = truV bb := congrArg Prod.fst hpi
        unfold truV at hpv
        injection hpv with hk1 ha1 hb1
        subst hpe hk1 hb1
        have HTR : Hid (∀ W, Calls Try.prog 17 #[.bool bb] W fun e w' => e = .returned (.agg #[.int .i64 2, .int .i64 pa, .int .i64 0]) ∧ Below W.heap.size W w') := fun W => by
          have h := rTruth_any bb W
          unfold valV truV at h
          simp only at h
          rw [← ha1] at h
          exact h
        clear hpi ha1
        have hlv : wv.heap.size < w3.heap.size := by omega
        go_wp2_with fail
        refine Oz.region_own' 104 [Ow.eqR (.int .i64 0), Ow.eqR (.bool false), Ow.eqR (.bool false), Ow.eqR (.agg #[.int .i64 2, .int .i64 pa, .int .i64 0]), Ow.eqR (.bool bb), Ow.eqR (.agg #[.int .i64 2, .int .i64 pa, .int .i64 0]), Ow.eqR (.bool false), Ow.eqR (.bool false)] [false, false, false, false, false, false, false, false] [none, none, none, none, none, none, none, none] (by kernel_rfl) rfl (by kernel_rfl) ⟨Oz.keeps_eq _ _, Oz.keeps_eq _ _, Oz.keeps_eq _ _, Oz.keeps_eq _ _, Oz.keeps_eq _ _, Oz.keeps_eq _ _, Oz.keeps_eq _ _, Oz.keeps_eq _ _, trivial⟩ ?_
        apply Oz.walk_cons rfl
        · intro w1 hb hu hd ho K hK
          clear hu hd ho
          go_simp
          exact hK _ _ (Oz.good_same rfl rfl rfl)
        · intro v; simp only [Act.put, List.setIfInBounds_toArray, List.set_cons_succ, List.set_cons_zero]; exact rfl
        · intro v; exact (rfl : _ = ([v] : List Value))
        intro x52
        apply Oz.walk_cons rfl
        · intro w1 hb hu hd ho K hK
          have e52 : _ = x52 := Eq.symm (hd 0 (by kernel_rfl))
          subst e52
          clear hu hd ho
          go_simp
          exact hK _ _ (Oz.good_same rfl rfl rfl)
        · intro v; simp only [Act.put, List.setIfInBounds_toArray, List.set_cons_succ, List.set_cons_zero]; exact rfl
        · intro v; exact (rfl : _ = ([x52, v] : List Value))
        intro x53
        apply Oz.walk_cons rfl
        · intro w1 hb hu hd ho K hK
          have e53 : _ = x53 := Eq.symm (hd 1 (by kernel_rfl))
          subst e53
          clear hu hd ho
          go_simp
          exact hK _ _ (Oz.good_same rfl rfl rfl)
        · intro v; simp only [Act.put, List.setIfInBounds_toArray, List.set_cons_succ, List.set_cons_zero]; exact rfl
        · intro v; exact (rfl : _ = ([x52, x53, v] : List Value))
        intro x54
        apply Oz.walk_cons rfl
        · intro w1 hb hu hd ho K hK
          have e54 : _ = x54 := Eq.symm (hd 2 (by kernel_rfl))
          subst e54
          clear hu hd ho
          have c0 : w1.cell? ⟨wv.heap.size, 0, none⟩ = some (.int .i64 2) := (hb.cell (by show wv.heap.size < w3.heap.size; omega)).trans v0
          have c1 : w1.cell? ⟨wv.heap.size, 1, none⟩ = some (.int .i64 pa) := (hb.cell (by show wv.heap.size < w3.heap.size; omega)).trans v1
          have c2 : w1.cell? ⟨wv.heap.size, 2, none⟩ = some (.int .i64 0) := (hb.cell (by show wv.heap.size < w3.heap.size; omega)).trans v2
          go_simp
          exact hK _ _ (Oz.good_same rfl rfl rfl)
        · intro v; simp only [Act.put, List.setIfInBounds_toArray, List.set_cons_succ, List.set_cons_zero]; exact rfl
        · intro v; exact (rfl : _ = ([x52, x53, x54, v] : List Value))
        intro x55
        apply Oz.walk_cons rfl
        · intro w1 hb hu hd ho K hK
          have e54 : _ = x54 := Eq.symm (hd 2 (by kernel_rfl))
          subst e54
          clear hu hd ho
          go_simp
          exact hK _ _ (Oz.good_same rfl rfl rfl)
        · intro v; simp only [Act.put, List.setIfInBounds_toArray, List.set_cons_succ, List.set_cons_zero]; exact rfl
        · intro v; exact (rfl : _ = ([x52, x53, x54, x55, v] : List Value))
        intro x56
        apply Oz.walk_cons rfl
        · intro w1 hb hu hd ho K hK
          have e56 : _ = x56 := Eq.symm (hd 4 (by kernel_rfl))
          subst e56
          have e54 : _ = x54 := Eq.symm (hd 2 (by kernel_rfl))
          subst e54
          clear hu hd ho
          go_simp
          refine (HTR.out w1).mono ?_
          rintro e w2 ⟨rfl, hb2⟩
          go_simp
          exact hK _ _ (Oz.good_below rfl rfl hb2 rfl)
        · intro v; simp only [Act.put, List.setIfInBounds_toArray, List.set_cons_succ, List.set_cons_zero]; exact rfl
        · intro v; exact (rfl : _ = ([x52, x53, x54, x55, x56, v] : List Value))
        intro x57
        apply Oz.walk_cons rfl
        · intro w1 hb hu hd ho K hK
          have e55 : _ = x55 := Eq.symm (hd 3 (by kernel_rfl))
          subst e55
          have e57 : _ = x57 := Eq.symm (hd 5 (by kernel_rfl))
          subst e57
          have e54 : _ = x54 := Eq.symm (hd 2 (by kernel_rfl))
          subst e54
          clear hu hd ho
          go_simp
          exact hK _ _ (Oz.good_same rfl rfl rfl)
        · intro v; simp only [Act.put, List.setIfInBounds_toArray, List.set_cons_succ, List.set_cons_zero]; exact rfl
        · intro v; exact (rfl : _ = ([x52, x53, x54, x55, x56, x57, v] : List Value))
        intro x58
        apply Oz.walk_cons rfl
        · intro w1 hb hu hd ho K hK
          have e54 : _ = x54 := Eq.symm (hd 2 (by kernel_rfl))
          subst e54
          have e58 : _ = x58 := Eq.symm (hd 6 (by kernel_rfl))
          subst e58
          clear hu hd ho
          go_simp
          exact hK _ _ (Oz.good_same rfl rfl rfl)
        · intro v; simp only [Act.put, List.setIfInBounds_toArray, List.set_cons_succ, List.set_cons_zero]; exact rfl
        · intro v; exact (rfl : _ = ([x52, x53, x54, x55, x56, x57, x58, v] : List Value))
        intro x59
        refine Oz.walk_nil rfl (fun w1 hb hu hd => ?_)
        have e52 : _ = x52 := Eq.symm (hd 0 (by kernel_rfl))
        subst e52
        have e53 : _ = x53 := Eq.symm (hd 1 (by kernel_rfl))
        subst e53
        have e54 : _ = x54 := Eq.symm (hd 2 (by kernel_rfl))
        subst e54
        have e55 : _ = x55 := Eq.symm (hd 3 (by kernel_rfl))
        subst e55
        have e56 : _ = x56 := Eq.symm (hd 4 (by kernel_rfl))
        subst e56
        have e57 : _ = x57 := Eq.symm (hd 5 (by kernel_rfl))
        subst e57
        have e58 : _ = x58 := Eq.symm (hd 6 (by kernel_rfl))
        subst e58
        have e59 : _ = x59 := Eq.symm (hd 7 (by kernel_rfl))
        subst e59
        clear hd hu
        have HB4 : Hid (Below w3.heap.size w3 w1) := (Below.refl _ _).drew.trans hb
        clear hb
        go_simp
        obtain ⟨w4, hw4⟩ : ∃ W, W = w1 := ⟨_, rfl⟩
        subst hw4
        go_wp2
        have hz4 := HB4.out.size
        have HBW4 := Lib.hid (HBW3.out.trans (HB4.out.mono HBW3.out.size))
        have HX4 := Lib.hid ((HB4.out.block _ (by omega)).trans HX3.out)
        go_loopw [12, 62] (fun _ x62 wr => wr = w4 ∧ ∃ k, k ≤ cs.length ∧ x62 = .int .i64 (k : Int) ∧ Hid (∀ c ∈ cs.take k, c.op ≠ 5 ∧ c.op ≠ 6)) (fun _ x _ => cs.length - (intOf x).toNat)
        case atStart => exact ⟨rfl, 0, by omega, rfl, fun c hc => by simp at hc⟩
        case round =>
          obtain ⟨rfl, k, hk, rfl, HC⟩ := hrel
          by_cases hkc : k < cs.length
          · skip
            obtain ⟨A', c', he, hrd⟩ := (HRA.out.below HBW4.out).rd
            simp only [Value.slice.injEq] at he
            obtain ⟨rfl, _, rfl⟩ := he
            obtain ⟨b, o, rfl, d0, _, _⟩ := hrd k hkc
            have hnx : ∀ (h5 : cs[k].op ≠ 5) (h6 : cs[k].op ≠ 6), ∀ c ∈ cs.take (k + 1), c.op ≠ 5 ∧ c.op ≠ 6 := by
              intro h5 h6 c hc
              rw [List.take_succ_eq_append_getElem hkc] at hc
              rcases List.mem_append.1 hc with hc | hc
              · exact HC.out c hc
              · simp only [List.mem_cons, List.not_mem_nil, or_false] at hc
                subst hc; exact ⟨h5, h6⟩
            clear hrd
            generalize cs[k].op = co at *
            by_cases h5 : co = 5
            · subst h5
              clear hnx
              go_wp2
              go_ret
              exact ⟨rfl, HBW4.out⟩
            · by_cases h6 : co = 6
              · subst h6
                clear hnx
                go_wp2
                go_ret
                exact ⟨rfl, HBW4.out⟩
              · have HN2 := Lib.hid (hnx h5 h6)
                have t5 := int_ne h5; have t6 := int_ne h6
                clear hnx h5 h6
                go_wp2
                go_roundw
                case rel => exact ⟨by trivial, k + 1, by omega, by go_num, HN2⟩
                case measure => simp [intOf]; omega
          · obtain rfl : k = cs.length := by omega
            have hall := HC.out
            rw [List.take_length] at hall
            have hfin := HAL.out hall
            clear hall HAL
            go_wp2_with fail
            refine (HO2.out _ HBW4.out).mono ?_
            rintro e w5 ⟨rfl, hb5⟩
            have HB5 := Lib.hid (HBW4.out.trans (hb5.mono HBW4.out.size))
            have HX5 := Lib.hid (heap_up ((hb5.block _ (by omega)).trans HX4.out) (.cells #[.int .i64 qk, .int .i64 qa, .int .i64 qb] 23))
            have HB5' := Lib.hid (HB5.out.alloc HB5.out.size (.cells #[.int .i64 qk, .int .i64 qa, .int .i64 qb] 23))
            obtain ⟨g0, g1, g2, _⟩ := at3 HX5.out
            clear hb5
            go_wp2_with fail
            refine (HO3.out _ HB5'.out).mono ?_
            rintro e w6 ⟨rfl, hb6⟩
            have HB6 := Lib.hid (HB5'.out.trans (hb6.mono HB5'.out.size))
            have c0 := old_cell (o := (.cells #[.int .i64 rk, .int .i64 ra, .int .i64 rb] 23)) ((hb6.cell (p := ⟨w5.heap.size, 0, none⟩) (by simp)).trans (new_cell (v := .int .i64 qk) rfl rfl))
            have c1 := old_cell (o := (.cells #[.int .i64 rk, .int .i64 ra, .int .i64 rb] 23)) ((hb6.cell (p := ⟨w5.heap.size, 1, none⟩) (by simp)).trans (new_cell (v := .int .i64 qa) rfl rfl))
            have c2 := old_cell (o := (.cells #[.int .i64 rk, .int .i64 ra, .int .i64 rb] 23)) ((hb6.cell (p := ⟨w5.heap.size, 2, none⟩) (by simp)).trans (new_cell (v := .int .i64 qb) rfl rfl))
            clear hb6 g0 g1 g2
            rcases hfin with h12 | heq
            · change re = 12 at h12
              subst h12
              go_wp2
              go_ret
              exact ⟨rfl, HB6.out.alloc HB6.out.size _⟩
            · injection heq with h1 h2
              injection h1 with h3 h4 h5
              subst h2 h3 h4 h5
              by_cases h12 : qe = 12
              · subst h12
                go_wp2
                go_ret
                exact ⟨rfl, HB6.out.alloc HB6.out.size _⟩
              · have t12 := int_ne h12
                go_wp2
                go_ret
                exact ⟨rfl, HB6.out.alloc HB6.out.size _⟩
end Go.Proofs.Ytpidikbhjiaogaa
