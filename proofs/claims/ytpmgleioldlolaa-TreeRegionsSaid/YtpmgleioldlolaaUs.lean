/- The law TreeRegions, walked. -/
import Derived.Test.YtpmgleioldlolaaUm
namespace Go.Proofs.Ytpmgleioldlolaa
open Go.RowKit

section
variable {d d' kd kd' : Nat → Int} {n n' r : Nat}
/-- a region by itself -/
structure Sub (d d' : Nat → Int) (n n' r : Nat) : Prop where
  nst : Nst d n
  lt : r < n
  zero : d r = 0
  en : en d n r = r + n'
  same : ∀ i, i < n' → d' i = d (r + i)
theorem Sub.pos (h : Sub d d' n n' r) : 0 < n' := by have := (en_spec d h.lt).1; rw [h.en] at this; omega
theorem Sub.le (h : Sub d d' n n' r) : r + n' ≤ n := by have := (en_spec d h.lt).2.1; rw [h.en] at this; omega
theorem Sub.deep (h : Sub d d' n n' r) {i : Nat} (h0 : 0 < i) (hi : i < n') : 0 < d (r + i) := by
  have := (en_spec d h.lt).2.2.1 (r + i) (by omega) (by rw [h.en]; omega)
  rw [h.zero] at this; exact this
theorem Sub.nst' (h : Sub d d' n n' r) : Nst d' n' := by
  have hl := h.le
  refine ⟨fun i hi => ?_, fun i hi => ?_, fun h0 => ?_, fun i hi => ?_⟩
  · rw [h.same i hi]; exact h.nst.lo _ (by omega)
  · rw [h.same i hi]; exact h.nst.hi _ (by omega)
  · rw [h.same 0 h0, Nat.add_zero, h.zero]; omega
  · rw [h.same i (by omega), h.same (i + 1) hi]; exact h.nst.step (r + i) (by omega)
theorem Sub.par0 (h : Sub d d' n n' r) : par d r = -1 := (h.nst.par_neg h.lt).2 h.zero
theorem Sub.par (h : Sub d d' n n' r) {i : Nat} (h0 : 0 < i) (hi : i < n') : ∃ q : Nat, Go.Proofs.Ytpmgleioldlolaa.par d' i = q ∧ Go.Proofs.Ytpmgleioldlolaa.par d (r + i) = ((r + q : Nat) : Int) ∧ q < i := by
  have hl := h.le
  have hd := h.deep h0 hi
  rcases h.nst.nearest (i := r + i) (by omega) with ⟨_, e⟩ | ⟨p, hp, h1, h2, h3⟩
  · omega
  · have hr : r ≤ p := by
      by_cases c : r ≤ p
      · exact c
      · have := h3 r (by omega) (by omega); rw [h.zero] at this; omega
    obtain ⟨q, rfl⟩ : ∃ q, p = r + q := ⟨p - r, by omega⟩
    refine ⟨q, h.nst'.par_eq hi (by omega) ?_ fun m hm hk => ?_, hp, by omega⟩
    · rw [h.same q (by omega), h.same i hi]; omega
    · rw [h.same m (by omega), h.same i hi]; exact h3 (r + m) (by omega) (by omega)
theorem Sub.en' (h : Sub d d' n n' r) {i : Nat} (hi : i < n') : ∃ e : Nat, Go.Proofs.Ytpmgleioldlolaa.en d' n' i = e ∧ Go.Proofs.Ytpmgleioldlolaa.en d n (r + i) = r + e ∧ e ≤ n' := by
  have hl := h.le
  obtain ⟨g1, g2, g3, g4⟩ := en_spec d h.lt
  rw [h.en] at g1 g2 g3 g4
  obtain ⟨f1, f2, f3, f4⟩ := en_spec d (n := n) (i := r + i) (by omega)
  have hle : Go.Proofs.Ytpmgleioldlolaa.en d n (r + i) ≤ r + n' := by
    by_cases c : Go.Proofs.Ytpmgleioldlolaa.en d n (r + i) ≤ r + n'
    · exact c
    · have h1 := f3 (r + n') (by omega) (by omega)
      have h2 := g4 (by omega)
      have := h.nst.lo (r + i) (by omega)
      rw [h.zero] at h2; omega
  obtain ⟨e, he⟩ : ∃ e, Go.Proofs.Ytpmgleioldlolaa.en d n (r + i) = r + e := ⟨Go.Proofs.Ytpmgleioldlolaa.en d n (r + i) - r, by omega⟩
  rw [he] at f1 f2 f3 f4 hle
  refine ⟨e, en_eq hi (by omega) (by omega) (fun m hm hk => ?_) (fun hlt => ?_), he, by omega⟩
  · rw [h.same i hi, h.same m (by omega)]; exact f3 (r + m) (by omega) (by omega)
  · rw [h.same e hlt, h.same i hi]; exact f4 (by omega)
theorem Sub.root (h : Sub d d' n n' r) {i : Nat} (hi : i < n') : rootF d (r + i) = r := by
  have hl := h.le
  refine h.nst.root_eq (by omega) (by omega) h.zero fun m hm hk => ?_
  obtain ⟨j, rfl⟩ : ∃ j, m = r + j := ⟨m - r, by omega⟩
  exact h.deep (by omega) (by omega)
theorem Sub.regs (h : Sub d d' n n' r) : ∀ k, k ≤ n' → regs d' k ≤ 1
  | 0, _ => Nat.zero_le _
  | k + 1, hk => by
    rw [regs_succ]
    by_cases h0 : k = 0
    · subst h0
      show 0 + _ ≤ 1
      split <;> omega
    · have := h.regs k (by omega)
      have h2 := h.deep (i := k) (by omega) (by omega)
      rw [if_neg (by rw [h.same k (by omega)]; omega)]
      omega
theorem Sub.right (h : Sub d d' n n' r) (hP : RightP d kd n) (hk : ∀ i, i < n' → kd' i = kd (r + i)) : RightP d' kd' n' := by
  have hl := h.le
  have hn' := h.nst'
  obtain ⟨ha, hb⟩ := fil_iff.1 hP.fil
  refine ⟨h.pos, by have := hP.le; omega, hn', fun i hi => ⟨?_, fun e => ?_⟩, fil_iff.2 ⟨fun k hkn p hp e => ?_, fun i hi hpar => ?_⟩, Nat.le_trans (h.regs n' (Nat.le_refl _)) (by omega)⟩
  · rw [hk i hi]; exact (hP.fine (r + i) (by omega)).kind
  · rw [hk i hi]; exact (hP.fine (r + i) (by omega)).region (by rw [← h.same i hi]; exact e)
  · rcases Nat.eq_zero_or_pos k with rfl | h0
    · have : Go.Proofs.Ytpmgleioldlolaa.par d' 0 = -1 := (hn'.par_neg hkn).2 (by rw [h.same 0 hkn, Nat.add_zero]; exact h.zero)
      omega
    · obtain ⟨q, e1, e2, e3⟩ := h.par h0 hkn
      obtain rfl : p = q := by omega
      rw [hk p hp, hk k hkn]
      exact ha (r + k) (by omega) (r + p) (by omega) e2
  · rw [hk i hi] at hpar
    obtain ⟨k, hkk, hno⟩ := hb (r + i) (by omega) hpar
    obtain ⟨k1, k2⟩ := mem_kids.1 hkk
    have k3 := (h.nst.kid k1 k2).1
    have hwi : wi d r k := (h.nst.wi_par k1).2 ⟨r + i, k2, by
      rcases Nat.eq_zero_or_pos i with rfl | h0
      · exact Or.inl rfl
      · exact Or.inr ((wi_iff h.lt (by omega)).2 ⟨by omega, by rw [h.en]; omega⟩)⟩
    have hke := ((wi_iff h.lt k1).1 hwi).2
    rw [h.en] at hke
    obtain ⟨j, rfl⟩ : ∃ j, k = r + j := ⟨k - r, by omega⟩
    have hj : j < n' := by omega
    obtain ⟨q, e1, e2, e3⟩ := h.par (i := j) (by omega) hj
    refine ⟨j, mem_kids.2 ⟨hj, ?_⟩, by rw [hk j hj]; exact hno⟩
    rw [e1]
    have : r + q = r + i := by omega
    omega
end

/-- a part of a list of states -/
def subT (xs : List SM) (r m : Nat) : List SM := (xs.drop r).take m
theorem subT_length {xs : List SM} {r m : Nat} (h : r + m ≤ xs.length) : (subT xs r m).length = m := by simp [subT]; omega
theorem subT_get {xs : List SM} {r m i : Nat} (hi : i < m) : (subT xs r m)[i]? = xs[r + i]? := by
  unfold subT
  rw [List.getElem?_take_of_lt hi, List.getElem?_drop]
theorem flatT_append (a b : List SM) : flatT (a ++ b) = flatT a ++ flatT b := by simp [flatT]
theorem rdT_sub {w : World} {b o n c c' : Nat} {xs : List SM} {r m : Nat} (h : RdT w (.slice (some ⟨b, o, none⟩) n c) xs) (hb : b < w.heap.size) (hm : 0 < m) (hrm : r + m ≤ xs.length) : RdT w (.slice (some ⟨b, o + r * 6, none⟩) m c') (subT xs r m) := by
  have hl := subT_length hrm
  refine Or.inr ⟨⟨b, o + r * 6, none⟩, c', by rw [hl], by rw [flatT_length], fun _ => ⟨b, o + r * 6, rfl, hb, fun j u hu => ?_⟩⟩
  rcases h with ⟨e, _⟩ | ⟨ad, c2, e, _, hc⟩
  · cases e
  · simp only [Value.slice.injEq] at e
    obtain ⟨b2, o2, rfl, _, hc⟩ := hc (by omega)
    simp only [Option.some.injEq, Addr.mk.injEq, and_true] at e
    obtain ⟨⟨rfl, rfl⟩, _⟩ := e
    have hsp : xs = xs.take r ++ (subT xs r m ++ (xs.drop r).drop m) := by
      unfold subT; rw [List.take_append_drop, List.take_append_drop]
    have hlt : (flatT (xs.take r)).length = r * 6 := by rw [flatT_length, List.length_take]; congr 1; omega
    have hj := (List.getElem?_eq_some_iff.1 hu).1
    have hf : (flatT xs)[r * 6 + j]? = some u := by
      rw [hsp, flatT_append, flatT_append, List.getElem?_append_right (by omega), hlt, Nat.add_sub_cancel_left, List.getElem?_append_left hj]
      exact hu
    rw [Nat.add_assoc]
    exact hc _ _ hf
theorem dp_sub {xs : List SM} {r m i : Nat} (hi : i < m) : dp (subT xs r m) i = dp xs (r + i) := by unfold dp; rw [subT_get hi]
theorem kp_sub {xs : List SM} {r m i : Nat} (hi : i < m) : kp (subT xs r m) i = kp xs (r + i) := by unfold kp; rw [subT_get hi]

set_option maxRecDepth 100000 in
set_option maxHeartbeats 8000000 in
theorem treeRegions_law (v : Value) (xs : List SM) (w : World) (hR : RdT w v xs) (hl : xs.length * 96 ≤ 140737488355328) (hcap : ∀ A m c, v = .slice A m c → m ≤ c) :
    Calls Try.prog 8 #[v] w fun e w' => e = .returned (.bool true) ∧ Below w.heap.size w w' := by
  obtain ⟨A, c, rfl⟩ := hR.form
  have hnc : xs.length ≤ c := hcap _ _ _ rfl
  clear hcap
  have HR := Lib.hid hR
  have HW := Lib.hid wakes_any
  have HRF := Lib.hid (fun W (h : RdT W _ xs) => refRight_any (.slice A xs.length c) xs W h (by omega))
  by_cases hP : RightP (dp xs) (kp xs) xs.length
  rotate_left
  · rw [decide_eq_false hP] at HRF
    clear hR hP
    go_enter Try.func8, Try.ntmps8
    go_wp2_with (fail)
    refine (HW.out _).mono ?_
    rintro e w1 ⟨rfl, hb⟩
    have HB1 := Lib.hid hb; clear hb
    go_wp2_with (fail)
    refine (HRF.out _ (HR.out.below HB1.out)).mono ?_
    rintro e w2 ⟨rfl, hb⟩
    have HB2 := Lib.hid (HB1.out.trans (hb.mono HB1.out.size)); clear hb
    go_wp2
    go_ret
    exact ⟨rfl, HB2.out⟩
  rw [decide_eq_true hP] at HRF
  have HEN := Lib.hid (fun k W (hk : k < xs.length) (h : RdT W _ xs) => end_yes (.slice A xs.length c) xs k W h hk hP)
  have HPA := Lib.hid (fun k W (hk : k < xs.length) (h : RdT W _ xs) => parent_yes (.slice A xs.length c) xs k W h hk hP)
  have HRG := Lib.hid (fun k W (hk : k < xs.length) (h : RdT W _ xs) => region_yes (.slice A xs.length c) xs k W h hk hP)
  have HPP := Lib.hid hP
  have HN := Lib.hid hP.nst
  have h40 := hP.le
  have h1 := hP.pos
  obtain ⟨bb, oo, rfl, hbl, hcc⟩ := hR.base (by omega)
  obtain ⟨n, hn⟩ : ∃ n, xs.length = n := ⟨_, rfl⟩
  have HCL : Hid (∀ m, m < n → w.cell? ⟨bb, oo + m * 6 + 2, none⟩ = some (.int .i64 (dp xs m))) := fun m hm => (hcc m (by omega)).2.2.1
  have HBL := Lib.hid hbl
  have HNN := Lib.hid hn
  rw [hn] at HR HRF HEN HPA HRG HPP HN h40 h1 hnc ⊢
  clear hR hP hcc hbl hl hn
  go_enter Try.func8, Try.ntmps8
  go_wp2_with (fail)
  refine (HW.out _).mono ?_
  rintro e w1 ⟨rfl, hb⟩
  have HB1 := Lib.hid hb; clear hb
  go_wp2_with (fail)
  refine (HRF.out _ (HR.out.below HB1.out)).mono ?_
  rintro e w2 ⟨rfl, hb⟩
  have HB2 := Lib.hid (HB1.out.trans (hb.mono HB1.out.size)); clear hb
  go_wp2
  go_loopw [15] (fun x15 wr => ∃ r : Nat, r ≤ n ∧ x15 = .int .i64 r ∧ Below w.heap.size w wr) (fun x _ => n - (intOf x).toNat)
  case atStart => exact ⟨0, by omega, rfl, HB2.out⟩
  case round =>
    obtain ⟨r, hr, hx, hbw⟩ := hrel
    subst hx
    obtain ⟨wl, hwl⟩ : ∃ W, W = wr := ⟨_, rfl⟩
    subst hwl
    have HBW := Lib.hid hbw
    clear hbw
    by_cases hrn : r < n
    rotate_left
    · go_wp2
      go_ret
      exact ⟨rfl, HBW.out⟩
    have cr := (HBW.out.cell HBL.out).trans (HCL.out r hrn)
    have hlo := HN.out.lo r hrn
    by_cases hz : dp xs r = 0
    rotate_left
    · have hpos : 0 < dp xs r := by omega
      clear hz
      go_wp2
      go_roundw
      case rel => exact ⟨r + 1, by omega, by go_num, HBW.out⟩
      case measure => simp [intOf] <;> omega
    rw [hz] at cr
    obtain ⟨m, hm⟩ : ∃ m, en (dp xs) n r = r + m := ⟨en (dp xs) n r - r, by have := (en_spec (dp xs) hrn).1; omega⟩
    have hsub : Sub (dp xs) (dp (subT xs r m)) n m r := ⟨HN.out, hrn, hz, hm, fun i hi => dp_sub hi⟩
    have hm0 := hsub.pos
    have hmn := hsub.le
    have HSUB := Lib.hid hsub
    have hsl : (subT xs r m).length = m := subT_length (by rw [HNN.out]; exact hmn)
    have hrt : RightP (dp (subT xs r m)) (kp (subT xs r m)) (subT xs r m).length := by rw [hsl]; exact hsub.right HPP.out (fun i hi => kp_sub hi)
    have HRT := Lib.hid hrt
    have HSL := Lib.hid hsl
    have HM := Lib.hid hm
    have HCO := Lib.hid (fun W (h : RdT W _ (subT xs r m)) => copied_any (.slice (some ⟨bb, oo + r * 6, none⟩) m (c - r)) (subT xs r m) W h (by rw [HSL.out]; omega))
    have HRI := Lib.hid (fun u W (h : RdT W u (subT xs r m)) => right_any u (subT xs r m) W h (by rw [HSL.out]; omega))
    rw [decide_eq_true hrt] at HRI
    have HPO := Lib.hid (fun i u W (h : RdT W u (subT xs r m)) (hi : i < m) => parent_yes u (subT xs r m) i W h (by rw [HSL.out]; exact hi) HRT.out)
    have HEO := Lib.hid (fun i u W (h : RdT W u (subT xs r m)) (hi : i < m) => end_yes u (subT xs r m) i W h (by rw [HSL.out]; exact hi) HRT.out)
    have HRS : Hid (∀ W, Below w.heap.size w W → RdT W (.slice (some ⟨bb, oo + r * 6, none⟩) m (c - r)) (subT xs r m)) := fun W hb => (rdT_sub HR.out HBL.out hm0 (by rw [HNN.out]; exact hmn)).below hb
    clear hsub hsl hrt hm hz
    go_wp2_with (fail)
    refine (HEN.out r _ hrn (HR.out.below HBW.out)).mono ?_
    rintro e w3 ⟨rfl, hb⟩
    have HB3 := Lib.hid (HBW.out.trans (hb.mono HBW.out.size)); clear hb
    rw [HM.out]
    have ec : ((r + m : Nat) : Int) = (r : Int) + m := Int.natCast_add r m
    rw [ec]
    go_wp2_with (fail)
    refine (HCO.out _ (HRS.out _ HB3.out)).mono ?_
    rintro e w4 ⟨u4, rfl, hr4, hb⟩
    have HB4 := Lib.hid (HB3.out.trans (hb.mono HB3.out.size)); have HR4 := Lib.hid hr4; clear hb hr4
    go_wp2_with (fail)
    refine (HRI.out _ _ HR4.out).mono ?_
    rintro e w5 ⟨rfl, hb⟩
    have HB5 := Lib.hid (HB4.out.trans (hb.mono HB4.out.size)); have HR5 := Lib.hid (HR4.out.below hb); clear hb
    obtain ⟨A4, c4, e4⟩ := RdT.form HR5.out
    rw [HSL.out] at e4
    subst e4
    go_wp2
    go_loopw [42] (fun x42 wr => ∃ i : Nat, i ≤ m ∧ x42 = .int .i64 i ∧ Below w5.heap.size w5 wr) (fun x _ => m - (intOf x).toNat)
    case atStart => exact ⟨0, by omega, rfl, Below.refl _ _⟩
    case round =>
      obtain ⟨i, hi, hx, hbi⟩ := hrel
      subst hx
      obtain ⟨wi', hwi⟩ : ∃ W, W = wr := ⟨_, rfl⟩
      subst hwi
      have HBI := Lib.hid hbi
      have HBT := Lib.hid (HB5.out.trans (hbi.mono HB5.out.size))
      clear hbi
      by_cases him : i < m
      rotate_left
      · go_wp2
        go_roundw
        case rel => exact ⟨r + 1, by omega, by go_num, HBT.out⟩
        case measure => simp [intOf] <;> omega
      have HC1 := Lib.hid (fun W h => HPA.out (r + i) W (by omega) h)
      have HC2 := Lib.hid (fun u W h => HEO.out i u W h him)
      have HC3 := Lib.hid (fun W h => HEN.out (r + i) W (by omega) h)
      have HC4 := Lib.hid (fun W h => HRG.out (r + i) W (by omega) h)
      have HC5 := Lib.hid (fun u W h => HPO.out i u W h him)
      obtain ⟨E, hE1, hE2, hE3⟩ := HSUB.out.en' him
      have hE1' : en (dp (subT xs r m)) (subT xs r m).length i = E := by rw [HSL.out]; exact hE1
      rw [hE1'] at HC2
      rw [hE2] at HC3
      obtain ⟨V, hV⟩ : ∃ V : Int, V = ((r + E : Nat) : Int) := ⟨_, rfl⟩
      rw [← hV] at HC3
      have hV1 : V - (r : Int) = E := by omega
      have hV2 : 0 ≤ V ∧ V ≤ 80 := by omega
      have hV3 : -9223372036854775808 ≤ V - (r : Int) ∧ V - (r : Int) ≤ 9223372036854775807 := by omega
      clear hV hV3
      rw [HSUB.out.root him] at HC4
      rw [Int.natCast_add] at HC1 HC3 HC4
      rcases Nat.eq_zero_or_pos i with h0 | h0
      · subst h0
        have hp := HSUB.out.par0
        rw [Nat.add_zero, hp] at HC1
        simp only [Int.natCast_zero, Int.add_zero] at HC1 HC3 HC4
        clear hE1 hE2 hE1' hp
        go_wp2_with (fail)
        refine (HC1.out _ (HR.out.below HBT.out)).mono ?_
        rintro e wa ⟨rfl, hb⟩
        have HBa := Lib.hid (HBT.out.trans (hb.mono HBT.out.size)); have HIa := Lib.hid (HBI.out.trans (hb.mono HBI.out.size)); clear hb
        go_wp2_with (fail)
        refine (HC2.out _ _ (HR5.out.below HIa.out)).mono ?_
        rintro e wb ⟨rfl, hb⟩
        have HBb := Lib.hid (HBa.out.trans (hb.mono HBa.out.size)); have HIb := Lib.hid (HIa.out.trans (hb.mono HIa.out.size)); clear hb
        go_wp2_with (fail)
        refine (HC3.out _ (HR.out.below HBb.out)).mono ?_
        rintro e wc ⟨rfl, hb⟩
        have HBc := Lib.hid (HBb.out.trans (hb.mono HBb.out.size)); have HIc := Lib.hid (HIb.out.trans (hb.mono HIb.out.size)); clear hb
        go_wp2_with (fail)
        refine (HC4.out _ (HR.out.below HBc.out)).mono ?_
        rintro e wd ⟨rfl, hb⟩
        have HBd := Lib.hid (HBc.out.trans (hb.mono HBc.out.size)); have HId := Lib.hid (HIc.out.trans (hb.mono HIc.out.size)); clear hb
        go_wp2
        go_roundw
        case rel => exact ⟨0 + 1, by omega, by go_num, HId.out⟩
        case measure => simp [intOf] <;> omega
      · obtain ⟨q, hq1, hq2, hq3⟩ := HSUB.out.par h0 him
        rw [hq2] at HC1
        rw [hq1] at HC5
        obtain ⟨P, hP⟩ : ∃ P : Int, P = ((r + q : Nat) : Int) := ⟨_, rfl⟩
        rw [← hP] at HC1
        have hP1 : P - (r : Int) = q := by omega
        have hP2 : 0 ≤ P ∧ P ≤ 80 := by omega
        clear hP
        have hne0 : ((i : Int) == 0) = false := int_ne (by omega)
        clear hE1 hE2 hE1' hq1 hq2
        go_wp2_with (fail)
        refine (HC1.out _ (HR.out.below HBT.out)).mono ?_
        rintro e wa ⟨rfl, hb⟩
        have HBa := Lib.hid (HBT.out.trans (hb.mono HBT.out.size)); have HIa := Lib.hid (HBI.out.trans (hb.mono HBI.out.size)); clear hb
        go_wp2_with (fail)
        refine (HC5.out _ _ (HR5.out.below HIa.out)).mono ?_
        rintro e wb ⟨rfl, hb⟩
        have HBb := Lib.hid (HBa.out.trans (hb.mono HBa.out.size)); have HIb := Lib.hid (HIa.out.trans (hb.mono HIa.out.size)); clear hb
        go_wp2_with (fail)
        refine (HC2.out _ _ (HR5.out.below HIb.out)).mono ?_
        rintro e wc ⟨rfl, hb⟩
        have HBc := Lib.hid (HBb.out.trans (hb.mono HBb.out.size)); have HIc := Lib.hid (HIb.out.trans (hb.mono HIb.out.size)); clear hb
        go_wp2_with (fail)
        refine (HC3.out _ (HR.out.below HBc.out)).mono ?_
        rintro e wd ⟨rfl, hb⟩
        have HBd := Lib.hid (HBc.out.trans (hb.mono HBc.out.size)); have HId := Lib.hid (HIc.out.trans (hb.mono HIc.out.size)); clear hb
        go_wp2_with (fail)
        refine (HC4.out _ (HR.out.below HBd.out)).mono ?_
        rintro e we ⟨rfl, hb⟩
        have HBe := Lib.hid (HBd.out.trans (hb.mono HBd.out.size)); have HIe := Lib.hid (HId.out.trans (hb.mono HId.out.size)); clear hb
        go_wp2
        go_roundw
        case rel => exact ⟨i + 1, by omega, by go_num, HIe.out⟩
        case measure => simp [intOf] <;> omega
end Go.Proofs.Ytpmgleioldlolaa
