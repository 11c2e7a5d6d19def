/- Layer 17: the law BagOwn. -/
import Derived.Test.YtlblkakjbjmciaaIl
namespace Go.Proofs.Ytlblkakjbjmciaa.Bg
open Go.RowKit Go.Proofs.Ytlblkakjbjmciaa.Wi
set_option maxRecDepth 100000

/-- a slice that comes in: its texts, and room for as many -/
def Ins (w : World) (v : Value) (xs : List Bytes) : Prop := RdS w v xs ∧ ∀ A n c, v = .slice A n c → n ≤ c
/-- so many of a list are put -/
def putsB (xs : List Bytes) (j : Nat) : Bag := (xs.take (min j 16)).map fun s => (s, false)
theorem putsB_len (xs : List Bytes) (j : Nat) (h : j ≤ xs.length) : (putsB xs j).length = min j 16 := by unfold putsB; rw [List.length_map, List.length_take]; omega
theorem putsB_put (xs : List Bytes) (j : Nat) (h : j < xs.length) : bagPut (putsB xs j) xs[j] = putsB xs (j + 1) := by
  unfold bagPut
  rw [putsB_len _ _ (by omega)]
  unfold putsB
  by_cases h6 : min j 16 < 16
  · have e : min j 16 = j := by omega
    rw [if_pos h6, show min (j + 1) 16 = j + 1 by omega, e, List.take_succ_eq_append_getElem h, List.map_append]
    rfl
  · rw [if_neg h6, show min (j + 1) 16 = min j 16 by omega]
theorem putsB_small (xs : List Bytes) (j B : Nat) (h : ∀ x ∈ xs, x.length ≤ B) : ∀ p ∈ putsB xs j, p.1.length ≤ B := by
  intro p hp
  obtain ⟨s, hs, rfl⟩ := List.mem_map.1 hp
  exact h s (List.mem_of_mem_take hs)
theorem putsB_all (xs : List Bytes) (_h : (putsB xs xs.length).length = min xs.length 16) : (putsB xs xs.length).map Prod.fst = xs.take (min xs.length 16) := by
  unfold putsB
  rw [List.map_map]
  exact List.map_id _
/-- a row of texts that is written: from i on they are as long as they were -/
def Own1 (w : World) (g n i : Nat) : Prop := ∀ q, q < n → w.frozen? ⟨g, q, none⟩ = false ∧ ∃ S : ByteArray, w.cell? ⟨g, q, none⟩ = some (.string S) ∧ (i ≤ q → S.size ≤ 281474976710656)
theorem Own1.set {w : World} {g n i : Nat} (h : Own1 w g n i) (S : ByteArray) : Own1 (w.setCell ⟨g, i, none⟩ (.string S)) g n (i + 1) := by
  intro q hq
  obtain ⟨h1, T, h2, h3⟩ := h q hq
  rw [World.frozen?_setCell]
  refine ⟨h1, ?_⟩
  by_cases e : i = q
  · subst e
    exact ⟨S, World.cell?_setCell_same w _ _ h2, fun h4 => by omega⟩
  · exact ⟨T, by rw [World.cell?_setCell_other w (a := ⟨g, i, none⟩) (b := ⟨g, q, none⟩) _ (by intro k; injection k with _ k _; exact e k)]; exact h2, fun h4 => h3 (by omega)⟩
theorem own1_of {w : World} {base n : Nat} {v : Value} {L : Bag} (h : w.ownsRow base 9 1 v n (txtV L)) (hs : ∀ p ∈ L, p.1.length ≤ 281474976710656) (hn : n = L.length) :
    ∃ A c, v = .slice A n c ∧ ∃ g, base ≤ g ∧ Own1 w g n 0 ∧ (0 < n → A = some ⟨g, 0, none⟩) := by
  rcases h.2 with ⟨rfl, h0⟩ | ⟨g, cap, cur, rfl, hb, hg, hc, _, hsz, ht⟩
  · exact ⟨none, 0, by rw [h0], base, Nat.le_refl _, fun q hq => by omega, fun h => by omega⟩
  · refine ⟨_, cap, rfl, g, hb, fun q hq => ⟨frozen_of_row w g q _ _ hg, ?_⟩, fun _ => rfl⟩
    have hq2 : q < L.length := by omega
    have h2 : (cur.toList.take (n * 1))[q]? = some (bS (L[q]).1) := by rw [ht]; unfold txtV; simp [hq2]
    rw [List.getElem?_take_of_lt (by omega), Array.getElem?_toList] at h2
    obtain ⟨S, hS, _, hSz⟩ := bS_eq (L[q]).1
    exact ⟨S, by rw [cell_of_row w g q _ _ _ hg, h2, hS], fun _ => by rw [hSz]; exact hs _ (List.getElem_mem hq2)⟩
set_option maxHeartbeats 3200000 in
theorem own_law (v : Value) (xs : List Bytes) (w : World) (hv : Ins w v xs) (hx : xs.length ≤ 140737488355328) (hs : ∀ x ∈ xs, x.length ≤ 281474976710656) :
    Calls Try.prog 5 #[v] w fun e w' => e = .returned (.bool true) ∧ Below w.heap.size w w' := by
  have HW := Lib.hid wakes_any
  obtain ⟨⟨A, c, rfl, hcell⟩, hcap⟩ := hv
  have hnc := hcap _ _ _ rfl
  have hRd : ∀ W, Below w.heap.size w W → RdS W (.slice A xs.length c) xs := fun W hW => RdS.later ⟨A, c, rfl, hcell⟩ hW
  clear hcap
  obtain ⟨n, hn⟩ : ∃ n, n = xs.length := ⟨_, rfl⟩
  rw [← hn] at hx hnc
  have HN := Lib.hid hn; have HS := Lib.hid hs; have HRd := Lib.hid hRd
  rw [← hn]
  clear hn hs hcell hRd
  by_cases h100 : 100 < n
  · have h1 : (100 : Int) < n := by omega
    go_enter Try.func5, Try.ntmps5
    go_wp2_with fail
    refine (HW.out _).mono ?_
    rintro e w1 ⟨rfl, hb1⟩
    have HB1 := Lib.hid hb1
    clear hb1 HW
    go_wp2
    go_ret
    exact ⟨rfl, HB1.out⟩
  have h1 : ¬ (100 : Int) < n := by omega
  have h2 : decide ((100 : Int) < n) = false := decide_eq_false h1
  go_enter Try.func5, Try.ntmps5
  go_wp2_with fail
  refine (HW.out _).mono ?_
  rintro e w1 ⟨rfl, hb1⟩
  have HB1 := Lib.hid hb1
  have HNew := Lib.hid (new_any w1)
  obtain ⟨K, hK⟩ : ∃ K, K = w1.heap.size := ⟨_, rfl⟩
  rw [← hK] at HNew
  have hwK : w.heap.size ≤ K := by rw [hK]; exact hb1.size
  have HK := Lib.hid hK
  clear hb1 HW hK
  unfold bp at *
  go_wp2_with fail
  refine HNew.out.mono ?_
  rintro e w2 ⟨rfl, hb2, hw2⟩
  have hw02 : Below w.heap.size w w2 := HB1.out.trans (hw2.mono hwK)
  have H0 : Hid (BagAt K (putsB xs 0) w2 ∧ Below w.heap.size w w2) := ⟨by simpa [putsB] using hb2, hw02⟩
  clear HNew hb2 hw2 hw02 HB1 HK
  go_wp2
  go_loopw [15] (fun x15 wr => ∃ j : Nat, j ≤ n ∧ x15 = .int .i64 j ∧ Hid (BagAt K (putsB xs j) wr ∧ Below w.heap.size w wr)) (fun x _ => n - (intOf x).toNat)
  case atStart => exact ⟨0, by omega, rfl, H0⟩
  case round =>
    clear H0
    obtain ⟨j, hj, rfl, HH⟩ := hrel
    obtain ⟨W, hW⟩ : ∃ W, W = wr := ⟨_, rfl⟩
    subst hW
    by_cases hlt : j < n
    · have hlt2 : (j : Int) < (n : Int) := by omega
      have hjx : j < xs.length := by rw [← HN.out]; exact hlt
      obtain ⟨_, _, he, hc⟩ := HRd.out W HH.out.2
      cases he
      obtain ⟨ad, rfl, hcj⟩ := hc j hjx
      obtain ⟨S, hS, hSl, hSz⟩ := bS_eq xs[j]
      have hsz := HS.out xs[j] (List.getElem_mem hjx)
      rw [hS] at hcj
      have hp := put_any HH.out.1 S (by omega)
      rw [hSl, putsB_put xs j hjx] at hp
      have hwr : IntKind.i64.wrap (j : Int) = (j : Int) := IntWalk.i64_in _ (by omega)
      have HP := Lib.hid hp
      clear hc hS hSl hSz hsz hp hjx
      generalize roomB (putsB xs j) = rb at *
      unfold bp at *
      go_wp2_with fail
      refine HP.out.mono ?_
      rintro e w3 ⟨rfl, hb3, hf3⟩
      have HH2 : Hid (BagAt K (putsB xs (j + 1)) w3 ∧ Below w.heap.size w w3) := ⟨hb3, by
        have := HH.out.2
        exact this.trans (⟨hf3.os, hf3.tape, hf3.output, hf3.size, fun k hk => hf3.block k (by have := this.size; omega) (fun e => by cases e; omega)⟩)⟩
      clear hb3 hf3 HP HH
      go_wp2
      go_roundw
      case rel => exact ⟨j + 1, by omega, by first | rfl | go_num, HH2⟩
      case measure => simp [intOf]; omega
    · obtain rfl : n = j := by omega
      have hlt2 : ¬ (n : Int) < (n : Int) := by omega
      obtain ⟨m, hm⟩ : ∃ m, m = min n 16 := ⟨_, rfl⟩
      have hML : (putsB xs n).length = m := by rw [hm]; exact putsB_len xs n (by rw [HN.out]; exact Nat.le_refl _)
      have hMS := putsB_small xs n 281474976710656 HS.out
      have hMA : (putsB xs n).map Prod.fst = xs.take m := by
        have := putsB_all xs (by rw [← HN.out, hML, hm])
        rw [← HN.out, ← hm] at this
        exact this
      have hmin : min (n : Int) 16 = (m : Int) := by omega
      have hmc : m ≤ c := by omega
      have hmci : (m : Int) ≤ (c : Int) := by omega
      have hm16 : m ≤ 16 := by omega
      have hmn : m ≤ n := by omega
      have HMA := Lib.hid hMA
      generalize putsB xs n = M at *
      have HA1 : Hid (∀ W1, BagAt K M W1 → Calls Try.prog 11 #[.pointer (some ⟨K, 0, none⟩)] W1 fun e w' => ∃ A2 c2 g, e = .returned (.slice A2 m c2) ∧ W1.heap.size ≤ g ∧ Own1 w' g m 0 ∧ (0 < m → A2 = some ⟨g, 0, none⟩) ∧ Below W1.heap.size W1 w') := fun W1 h1 => by
        refine (all_any h1 hMS).mono fun e w' ⟨v, h2, h3, h4⟩ => ?_
        rw [hML] at h3
        obtain ⟨A2, c2, rfl, g, h5, h6, h7⟩ := own1_of h3 hMS hML.symm
        exact ⟨A2, c2, g, h2, h5, h6, h7, h4⟩
      have HA2 : Hid (∀ W1, BagAt K M W1 → Calls Try.prog 11 #[.pointer (some ⟨K, 0, none⟩)] W1 fun e w' => ∃ v, e = .returned v ∧ RdS w' v (xs.take m) ∧ Below W1.heap.size W1 w') := fun W1 h1 => by
        refine (all_any h1 hMS).mono fun e w' ⟨v, h2, h3, h4⟩ => ⟨v, h2, RdS.own h3 ?_, h4⟩
        rw [← hMA]
        unfold txtV
        rw [List.map_map]; rfl
      clear hm hML hMS hMA
      go_wp2_with fail
      refine (HA1.out _ HH.out.1).mono ?_
      rintro e w3 ⟨A2, c2, g, rfl, hg, ho, hA2, hb3⟩
      have HB3 : Hid (BagAt K M w3 ∧ Below w.heap.size w w3) := ⟨⟨HH.out.1.box.below hb3, HH.out.1.le⟩, HH.out.2.trans (hb3.mono HH.out.2.size)⟩
      have hKg : K < g := Nat.lt_of_lt_of_le HH.out.1.box.lt hg
      have H0 : Hid (Own1 w3 g m 0 ∧ Fr g w3 w3) := ⟨ho, Fr.refl _ _⟩
      have HA2e := Lib.hid hA2
      clear HA1 HH hb3 hg ho hA2
      go_wp2
      go_loopw [29] (fun x29 wr => ∃ j : Nat, j ≤ m ∧ x29 = .int .i64 j ∧ Hid (Own1 wr g m j ∧ Fr g w3 wr)) (fun x _ => m - (intOf x).toNat)
      case atStart => exact ⟨0, by omega, rfl, H0⟩
      case round =>
        clear H0
        obtain ⟨j, hj, rfl, HH⟩ := hrel
        obtain ⟨W, hW⟩ : ∃ W, W = wr := ⟨_, rfl⟩
        subst hW
        by_cases hlt : j < m
        · have hlt2 : (j : Int) < (m : Int) := by omega
          have hAe := HA2e.out (by omega)
          subst hAe
          obtain ⟨hf, S, hc0, hS⟩ := HH.out.1 j hlt
          have hsz := hS (Nat.le_refl _)
          have hwr : IntKind.i64.wrap (j : Int) = (j : Int) := IntWalk.i64_in _ (by omega)
          have hx1 : ∀ w : World, (Op.stringOp .add ⟨#[120]⟩ S).run Try.prog w = .ok (.string (⟨#[120]⟩ ++ S)) w := fun w => by
            refine run_string_add_sum w _ _ ?_
            show 1 + S.size ≤ _
            omega
          obtain ⟨T, hT⟩ : ∃ T : ByteArray, T = ⟨#[120]⟩ ++ S := ⟨_, rfl⟩
          rw [← hT] at hx1
          have HH2 : Hid (Own1 (W.setCell ⟨g, j, none⟩ (.string T)) g m (j + 1) ∧ Fr g w3 (W.setCell ⟨g, j, none⟩ (.string T))) := ⟨HH.out.1.set T, HH.out.2.trans (Fr.set g j W _)⟩
          clear hS HH hT
          go_wp2
          go_roundw
          case rel => exact ⟨j + 1, by omega, by first | rfl | go_num, HH2⟩
          case measure => simp [intOf]; omega
        · obtain rfl : m = j := by omega
          have hlt2 : ¬ (m : Int) < (m : Int) := by omega
          have hbK : BagAt K M W.drew := ⟨(HH.out.2.block K HB3.out.1.box.lt (fun e => by cases e; omega)).trans HB3.out.1.box, HB3.out.1.le⟩
          have hbW : Below w.heap.size w W.drew := by
            have h1 : Below w.heap.size w W := HB3.out.2.grown HH.out.2 HB3.out.2.size (fun k e => by cases e; omega)
            exact h1.drew
          have HAW := Lib.hid (HA2.out W.drew hbK)
          have HFin : Hid (∀ v W5, RdS W5 v (xs.take m) → Below W.drew.heap.size W.drew W5 → Calls Try.prog 14 #[v, .slice A m c] W5 fun e w' => e = .returned (.bool true) ∧ Below w.heap.size w w') := fun v W5 h1 h2 => by
            have h3 : Below w.heap.size w W5 := hbW.trans (h2.mono hbW.size)
            have h4 : RdS W5 (.slice A m c) (xs.take m) := by
              obtain ⟨_, _, he, hc⟩ := HRd.out W5 h3
              cases he
              have hl : (xs.take m).length = m := by rw [List.length_take, ← HN.out]; omega
              refine ⟨A, c, by rw [hl], fun i hi => ?_⟩
              obtain ⟨ad, ha, hcc⟩ := hc i (by rw [← HN.out]; omega)
              exact ⟨ad, ha, by rw [List.getElem_take]; exact hcc⟩
            have h5 := same_any v (.slice A m c) _ _ W5 h1 h4 (by rw [List.length_take]; omega)
            rw [decide_eq_true rfl] at h5
            refine h5.mono fun e w' ⟨h6, q, h7⟩ => ⟨h6, ?_⟩
            rw [h7]
            exact ⟨h3.os, h3.tape, h3.output, h3.size, h3.block⟩
          clear hbK hbW HH HB3 HA2 HA2e HMA
          go_upto_region 17 with fail
          go_region_with (first
            | (go_at_call 11; refine HAW.out.mono ?_; rintro e w5 ⟨v5, rfl, hr5, hb5⟩; have HR5 := Lib.hid (HFin.out _ _ hr5 hb5); clear hr5 hb5)
            | (go_at_call 14; refine HR5.out.mono ?_; rintro e w6 ⟨rfl, hb6⟩))
          all_goals (first | (go_ret; exact ⟨rfl, hb6⟩) | (go_wp2; go_ret; exact ⟨rfl, hb6⟩))
end Go.Proofs.Ytlblkakjbjmciaa.Bg
