/- The law TreeParts, walked. -/
import Derived.Test.YtpmgleioldlolaaUm
namespace Go.Proofs.Ytpmgleioldlolaa
open Go.RowKit

/-- the children of the places below k, one behind the other -/
def seenF (d : Nat → Int) (n : Nat) : Nat → List Nat
  | 0 => []
  | k + 1 => seenF d n k ++ kids d n k
theorem seenF_succ (d : Nat → Int) (n k : Nat) : seenF d n (k + 1) = seenF d n k ++ kids d n k := rfl
theorem seenF_len (d : Nat → Int) (n : Nat) : ∀ k, (seenF d n k).length ≤ k * n
  | 0 => by simp [seenF]
  | k + 1 => by
    have := seenF_len d n k; have := kids_len d n k
    rw [seenF_succ, List.length_append, Nat.succ_mul]; omega
theorem count_kids (d : Nat → Int) (p i : Nat) : ∀ m, (kids d m p).count i = if i < m ∧ par d i = (p : Int) then 1 else 0
  | 0 => by simp [kids]
  | m + 1 => by
    rw [kids_succ, List.count_append, count_kids d p i m]
    by_cases hm : m = i
    · subst hm
      rw [if_neg (by omega)]
      by_cases hp : par d m = (p : Int)
      · rw [show kidB d p m = true from decide_eq_true hp, if_pos rfl, if_pos ⟨by omega, hp⟩]; simp
      · rw [show kidB d p m = false from decide_eq_false hp, if_neg (by simp), if_neg (fun h => hp h.2)]; simp
    · have h0 : (if kidB d p m = true then [m] else []).count i = 0 := by
        split
        · rw [List.count_eq_zero]; simp; exact fun e => hm e.symm
        · simp
      rw [h0, Nat.add_zero]
      by_cases hi : i < m ∧ par d i = (p : Int)
      · rw [if_pos hi, if_pos ⟨by omega, hi.2⟩]
      · rw [if_neg hi, if_neg (fun h => hi ⟨by omega, h.2⟩)]
theorem count_seen {d : Nat → Int} {n i : Nat} (hi : i < n) : ∀ k, (seenF d n k).count i = if 0 ≤ par d i ∧ par d i < k then 1 else 0
  | 0 => by
    rw [if_neg (by omega)]; rfl
  | k + 1 => by
    rw [seenF_succ, List.count_append, count_seen hi k, count_kids]
    by_cases h1 : par d i = (k : Int)
    · rw [if_neg (by omega), if_pos ⟨hi, h1⟩, if_pos (by omega)]
    · have e : (if i < n ∧ par d i = (k : Int) then 1 else 0) = 0 := if_neg (fun h => h1 h.2)
      rw [e]
      by_cases h2 : 0 ≤ par d i ∧ par d i < k
      · rw [if_pos h2, if_pos (by omega)]
      · rw [if_neg h2, if_neg (by omega)]
theorem count_take {l : List Nat} {j i : Nat} (h : j < l.length) : (l.take (j + 1)).count i = (l.take j).count i + if l[j] = i then 1 else 0 := by
  rw [List.take_succ_eq_append_getElem h, List.count_append, List.count_singleton]
  congr 1
  by_cases e : l[j] = i <;> simp [e]

set_option maxRecDepth 100000 in
set_option maxHeartbeats 4000000 in
theorem treeParts_law (v : Value) (xs : List SM) (w : World) (hR : RdT w v xs) (hl : xs.length * 96 ≤ 140737488355328) :
    Calls Try.prog 6 #[v] w fun e w' => e = .returned (.bool true) ∧ Below w.heap.size w w' := by
  obtain ⟨i0, hi0, hz0, hz1, hz2⟩ := info_parts Try.infoInt
  have HI := Lib.hid hi0; have HZ0 := Lib.hid hz0; have HZ1 := Lib.hid hz1; have HZ2 := Lib.hid hz2
  clear hi0 hz0 hz1 hz2
  obtain ⟨A, c, rfl⟩ := hR.form
  have HR := Lib.hid hR
  have HW := Lib.hid wakes_any
  have HRF := Lib.hid (fun W (h : RdT W _ xs) => refRight_any (.slice A xs.length c) xs W h (by omega))
  by_cases hP : RightP (dp xs) (kp xs) xs.length
  rotate_left
  · have HCO := Lib.hid (fun W (h : RdT W _ xs) => copied_any (.slice A xs.length c) xs W h hl)
    have HRI := Lib.hid (fun u W (h : RdT W u xs) => right_any u xs W h (by omega))
    rw [decide_eq_false hP] at HRF HRI
    clear hR hP
    go_enter Try.func6, Try.ntmps6
    go_wp2_with (fail)
    refine (HW.out _).mono ?_
    rintro e w1 ⟨rfl, hb⟩
    have HB1 := Lib.hid hb; clear hb
    go_wp2_with (fail)
    refine (HRF.out _ (HR.out.below HB1.out)).mono ?_
    rintro e w2 ⟨rfl, hb⟩
    have HB2 := Lib.hid (HB1.out.trans (hb.mono HB1.out.size)); clear hb
    go_wp2_with (fail)
    refine (HCO.out _ (HR.out.below HB2.out)).mono ?_
    rintro e w3 ⟨u3, rfl, hr, hb⟩
    have HB3 := Lib.hid (HB2.out.trans (hb.mono HB2.out.size)); have HR3 := Lib.hid hr; clear hb hr
    go_wp2_with (fail)
    refine (HRI.out _ _ HR3.out).mono ?_
    rintro e w4 ⟨rfl, hb⟩
    have HB4 := Lib.hid (HB3.out.trans (hb.mono HB3.out.size)); clear hb
    go_wp2
    go_ret
    exact ⟨rfl, HB4.out⟩
  rw [decide_eq_true hP] at HRF
  have HEN := Lib.hid (fun k W (hk : k < xs.length) (h : RdT W _ xs) => end_yes (.slice A xs.length c) xs k W h hk hP)
  have HWI := Lib.hid (fun k j W (hk : k < xs.length) (hj : j < xs.length) (h : RdT W _ xs) => within_yes (.slice A xs.length c) xs k j W h hk hj hP)
  have HKI := Lib.hid (fun k W (hk : k < xs.length) (h : RdT W _ xs) => kids_any (.slice A xs.length c) xs k W h hk hP)
  have HWF := Lib.hid (fun k j (hk : k < xs.length) (hj : j < xs.length) => wi_iff (d := dp xs) (i := k) (j := j) hk hj)
  have HES := Lib.hid (fun k (hk : k < xs.length) => (en_spec (dp xs) (n := xs.length) hk).2.1)
  have HN := Lib.hid hP.nst
  have h40 := hP.le
  have h1 := hP.pos
  obtain ⟨bb, oo, rfl, hbl, hcc⟩ := hR.base (by omega)
  obtain ⟨n, hn⟩ : ∃ n, xs.length = n := ⟨_, rfl⟩
  have HCL : Hid (∀ m, m < n → w.cell? ⟨bb, oo + m * 6 + 2, none⟩ = some (.int .i64 (dp xs m))) := fun m hm => (hcc m (by omega)).2.2.1
  have HBL := Lib.hid hbl
  rw [hn] at HR HRF HEN HWI HKI HWF HES HN h40 h1 ⊢
  clear hR hP hcc hbl hl hn
  go_enter Try.func6, Try.ntmps6
  go_wp2_with (fail)
  refine (HW.out _).mono ?_
  rintro e w1 ⟨rfl, hb⟩
  have HB1 := Lib.hid hb; clear hb
  go_wp2_with (fail)
  refine (HRF.out _ (HR.out.below HB1.out)).mono ?_
  rintro e w2 ⟨rfl, hb⟩
  have HB2 := Lib.hid (HB1.out.trans (hb.mono HB1.out.size)); clear hb
  go_wp2
  go_loopw [3, 22] (fun x3 x22 wr => ∃ k : Nat, k ≤ n ∧ x22 = .int .i64 k ∧ wr.ownsRow w.heap.size 3 1 x3 (seenF (dp xs) n k).length (kvN (seenF (dp xs) n k)) ∧ Below w.heap.size w wr) (fun _ x _ => n - (intOf x).toNat)
  case atStart => exact ⟨0, by omega, rfl, World.ownsRow_nil _ _ _ _, HB2.out⟩
  case round =>
    obtain ⟨k, hk, hx, hown, hbw⟩ := hrel
    subst hx
    obtain ⟨wl, hwl⟩ : ∃ W, W = wr := ⟨_, rfl⟩
    subst hwl
    obtain ⟨A3, c3, e3⟩ := own_slice hown
    subst e3
    have HBW := Lib.hid hbw; have HOW := Lib.hid hown
    clear hbw hown
    by_cases hkn : k < n
    · have hsl := seenF_len (dp xs) n k
      have hss := seenF_succ (dp xs) n k
      have hkl := kids_len (dp xs) n k
      have hkn2 : k * n ≤ 1600 := Nat.le_trans (Nat.mul_le_mul hk h40) (by have : n * 40 ≤ 40 * 40 := Nat.mul_le_mul_right 40 h40; omega)
      have HSS := Lib.hid hss
      have hes := HES.out k hkn
      obtain ⟨S, hS⟩ : ∃ S, S = seenF (dp xs) n k := ⟨_, rfl⟩
      rw [← hS] at HOW HSS hsl ⊢
      clear hss hS
      go_wp2_with (fail)
      refine (HEN.out k _ hkn (HR.out.below HBW.out)).mono ?_
      rintro e w3 ⟨rfl, hb⟩
      have HB3 := Lib.hid (HBW.out.trans (hb.mono HBW.out.size)); have HO3 := Lib.hid (own_below HOW.out hb); clear hb
      have HWE := Lib.hid (fun j hj => HWF.out k j hkn hj)
      generalize en (dp xs) n k = E at *
      go_wp2
      go_loopw [30] (fun x30 wr => ∃ j : Nat, j ≤ n ∧ x30 = .int .i64 j ∧ Below w3.heap.size w3 wr) (fun x _ => n - (intOf x).toNat)
      case atStart => exact ⟨0, by omega, rfl, Below.refl _ _⟩
      case round =>
        obtain ⟨j, hj, hx, hbj⟩ := hrel
        subst hx
        obtain ⟨wj, hwj⟩ : ∃ W, W = wr := ⟨_, rfl⟩
        subst hwj
        have HBJ := Lib.hid hbj
        have HBT := Lib.hid (HB3.out.trans (hbj.mono HB3.out.size))
        clear hbj
        by_cases hjn : j < n
        · have hiff := HWE.out j hjn
          by_cases hkj : k < j
          · by_cases hjE : j < E
            · have HD := Lib.hid (decide_eq_true (hiff.2 ⟨hkj, hjE⟩))
              clear hiff
              go_wp2_with (fail)
              refine (HWI.out k j _ hkn hjn (HR.out.below HBT.out)).mono ?_
              rintro e w4 ⟨rfl, hb⟩
              have HB4 := Lib.hid (HBJ.out.trans (hb.mono HBJ.out.size)); clear hb
              rw [HD.out]
              go_wp2
              go_roundw
              case rel => exact ⟨j + 1, by omega, by go_num, HB4.out⟩
              case measure => simp [intOf] <;> omega
            · have HD := Lib.hid (decide_eq_false (fun h => hjE (hiff.1 h).2))
              clear hiff
              go_wp2_with (fail)
              refine (HWI.out k j _ hkn hjn (HR.out.below HBT.out)).mono ?_
              rintro e w4 ⟨rfl, hb⟩
              have HB4 := Lib.hid (HBJ.out.trans (hb.mono HBJ.out.size)); clear hb
              rw [HD.out]
              go_wp2
              go_roundw
              case rel => exact ⟨j + 1, by omega, by go_num, HB4.out⟩
              case measure => simp [intOf] <;> omega
          · have HD := Lib.hid (decide_eq_false (fun h => hkj (hiff.1 h).1))
            clear hiff
            go_wp2_with (fail)
            refine (HWI.out k j _ hkn hjn (HR.out.below HBT.out)).mono ?_
            rintro e w4 ⟨rfl, hb⟩
            have HB4 := Lib.hid (HBJ.out.trans (hb.mono HBJ.out.size)); clear hb
            rw [HD.out]
            go_wp2
            go_roundw
            case rel => exact ⟨j + 1, by omega, by go_num, HB4.out⟩
            case measure => simp [intOf] <;> omega
        · go_wp2_with (fail)
          refine (HKI.out k _ hkn (HR.out.below HBT.out)).mono ?_
          rintro e w4 ⟨⟨uk, rfl, hok⟩, hb⟩
          have HB4 := Lib.hid (HBT.out.trans (hb.mono HBT.out.size))
          have HO4 := Lib.hid (own_below (own_below HO3.out HBJ.out) hb)
          have HIN : Hid (Inn w4 1 uk (kids (dp xs) n k).length (kvN (kids (dp xs) n k))) := Inn.of_own hok
          obtain ⟨AK, cK, eK⟩ := own_slice hok
          subst eK
          clear hb hok
          generalize kids (dp xs) n k = KS at *
          go_wp2_with (at_builtin; refine Ow.wpList_append rfl (.tmp 47) (.tmp 50) 27 rfl w.heap.size 3 i0 _ 1 8 Try.underlying27 HI.out HZ0.out HZ1.out HZ2.out rfl (by decide) _ S.length (kvN S) rfl HO4.out _ KS.length (kvN KS) rfl HIN.out (by intro u hu; obtain ⟨y, _, rfl⟩ := List.mem_map.1 hu; rfl) (by unfold maxLen; omega) (by omega) (by have := HB4.out.size; omega) ?_)
          intro v5 w5 ho5 hg5 _
          have HO5 : Hid (w5.ownsRow w.heap.size 3 1 v5 (seenF (dp xs) n (k + 1)).length (kvN (seenF (dp xs) n (k + 1)))) := by
            show World.ownsRow _ _ _ _ _ _ _
            rw [HSS.out, kvN_append, List.length_append]; exact ho5
          have HB5 : Hid (Below w.heap.size w w5) := HB4.out.grown hg5 HB4.out.size (fun q hq => (HO4.out.lt q hq).1)
          clear ho5 hg5
          go_wp2
          go_roundw
          case rel => exact ⟨k + 1, by omega, by go_num, HO5.out, HB5.out⟩
          case measure => simp [intOf] <;> omega
    · obtain rfl : n = k := by omega
      have hcs := fun i (hi : i < n) => count_seen (d := dp xs) hi n
      have HCS := Lib.hid hcs
      have hsl := seenF_len (dp xs) n n
      have hnn : n * n ≤ 1600 := Nat.le_trans (Nat.mul_le_mul h40 h40) (by omega)
      have HRD : Hid (RdN wl (.slice A3 (seenF (dp xs) n n).length c3) (seenF (dp xs) n n)) := Inn.of_own HOW.out
      generalize seenF (dp xs) n n = L at *
      clear hcs HOW
      go_wp2
      go_loopw [55] (fun x55 wr => wr = wl ∧ ∃ i : Nat, i ≤ n ∧ x55 = .int .i64 i) (fun x _ => n - (intOf x).toNat)
      case atStart => exact ⟨rfl, 0, by omega, rfl⟩
      case round =>
        obtain ⟨rfl, i, hi, hx⟩ := hrel
        subst hx
        obtain ⟨wm, hwm⟩ : ∃ W, W = wr := ⟨_, rfl⟩
        subst hwm
        by_cases hin : i < n
        rotate_left
        · go_wp2
          go_ret
          exact ⟨rfl, HBW.out⟩
        have ci := (HBW.out.cell HBL.out).trans (HCL.out i hin)
        have hcnt := HCS.out i hin
        have hnear := HN.out.nearest hin
        have hlo := HN.out.lo i hin
        have hlt : par (dp xs) i < n := by
          rcases hnear with ⟨h, _⟩ | ⟨p, h, h2, _⟩ <;> omega
        have hfin : (L.count i = 0 ∧ dp xs i = 0) ∨ (L.count i = 1 ∧ dp xs i ≠ 0) := by
          rcases hnear with ⟨h, h2⟩ | ⟨p, h, h2, h3, _⟩
          · exact Or.inl ⟨by rw [hcnt, if_neg (by omega)], h2⟩
          · have := HN.out.lo p (by omega)
            exact Or.inr ⟨by rw [hcnt, if_pos (by omega)], by omega⟩
        have HFIN := Lib.hid hfin
        clear hcnt hnear hfin
        go_wp2
        go_loopw [8, 60] (fun x8 x60 wr => wr = wm ∧ ∃ j : Nat, j ≤ L.length ∧ x60 = .int .i64 j ∧ x8 = .int .i64 ((L.take j).count i : Nat)) (fun _ x _ => L.length - (intOf x).toNat)
        case atStart => exact ⟨rfl, 0, by omega, rfl, rfl⟩
        case round =>
          obtain ⟨rfl, j, hj, hx, hy⟩ := hrel
          subst hx
          subst hy
          have hcj := List.count_le_length (a := i) (l := L.take j)
          rw [List.length_take] at hcj
          by_cases hjl : j < L.length
          · obtain ⟨b9, o9, rfl, cy⟩ := HRD.out.at_ hjl
            have hct := count_take (i := i) hjl
            by_cases he : L[j] = i
            · rw [he] at cy
              rw [if_pos he] at hct
              have HCT := Lib.hid hct
              clear hct he
              generalize (L.take j).count i = m at *
              go_wp2
              go_roundw
              case rel => exact ⟨trivial, j + 1, by omega, by go_num, by rw [HCT.out]; go_num⟩
              case measure => simp [intOf] <;> omega
            · rw [if_neg he, Nat.add_zero] at hct
              have HCT := Lib.hid hct
              have hne : (((L[j] : Nat) : Int) == (i : Int)) = false := int_ne (by omega)
              clear hct he
              generalize L[j] = y at *
              generalize (L.take j).count i = m at *
              go_wp2
              go_roundw
              case rel => exact ⟨trivial, j + 1, by omega, by go_num, by rw [HCT.out]; rfl⟩
              case measure => simp [intOf] <;> omega
          · obtain rfl : L.length = j := by omega
            rw [List.take_length]
            rcases HFIN.out with ⟨h1, h2⟩ | ⟨h1, h2⟩
            · rw [h1]
              rw [h2] at ci
              clear h1 h2 HFIN
              go_wp2
              go_roundw
              case rel => exact ⟨trivial, i + 1, by omega, by go_num⟩
              case measure => simp [intOf] <;> omega
            · rw [h1]
              have hne := int_ne h2
              clear h1 h2 HFIN
              go_wp2
              go_roundw
              case rel => exact ⟨trivial, i + 1, by omega, by go_num⟩
              case measure => simp [intOf] <;> omega
end Go.Proofs.Ytpmgleioldlolaa
