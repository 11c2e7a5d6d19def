/- Own texts, joined: Xg, Kc, Kd, Ke, Kf. -/
import Derived.Test.YtcnfcililiehlaaGreatDoorR2
import Derived.Test.YtcnfcililiehlaaGreatDoorR3
import Derived.Test.YtcnfcililiehlaaGreatDoorR4
import Derived.Test.YtcnfcililiehlaaGreatDoorR11
namespace Go.Proofs.YtcnfcililiehlaaGreatDoor.Ch.Vd
open Go.RowKit
set_option maxRecDepth 100000
theorem own_cap {w : World} {base : Nat} {e : TypeId} {size n : Nat} {v : Value} {xs : List Value} (h : w.ownsRow base e size v n xs) : ∃ A k, v = .slice A n k /\ n <= k := by
 rcases own_form h with ⟨rfl, rfl⟩ | ⟨g, cap, rfl, h1, h2⟩
 ·exact ⟨_, _, rfl, Nat.le_refl _⟩
 ·exact ⟨_, _, rfl, h1⟩
def nm3 (c : CH) (k : Nat) : List (List UInt8) := if k = 0 then c.es else if k = 1 then varN c else stN c
theorem named_nm3 (c : CH) : namedB c = (nameB c.nm && ((nm3 c 0).all nameB && ((nm3 c 1).all nameB && (nm3 c 2).all nameB))) := rfl
theorem apart_nm3 (c : CH) : apartB c = (apartL (nm3 c 0) && (apartL (nm3 c 1) && apartL (nm3 c 2))) := rfl
theorem named_no {c : CH} {k : Nat} (hk : k < 3) {n : List UInt8} (hn : n ∈ nm3 c k) (h : nameB n = false) : namedB c = false := by
 rw [named_nm3];have hf : (nm3 c k).all nameB = false := by
  rw [List.all_eq_false];exact ⟨n, hn, by rw [h]; decide⟩
 rcases (show k = 0 \/ k = 1 \/ k = 2 by omega) with rfl | rfl | rfl <;> rw [hf] <;> simp
theorem named_yes {c : CH} (hn : nameB c.nm = true) (h : ∀ j, j < 3 -> (nm3 c j).all nameB = true) : namedB c = true := by
 rw [named_nm3, hn, h 0 (by omega), h 1 (by omega), h 2 (by omega)]; rfl
theorem nodup_take {l : List (List UInt8)} (h : ∀ i (hi : i < l.length), l[i] ∉ l.take i) : ∀ k, k <= l.length -> (l.take k).Nodup
 | 0, _ => by simp
 | k + 1, hk => by
  have hi : k < l.length := by omega
  rw [List.take_add_one, List.getElem?_eq_getElem hi];simp only [Option.toList_some];rw [List.nodup_append];refine ⟨nodup_take h k (by omega), by simp, ?_⟩;intro a ha b hb e;simp at hb;subst hb; subst e;exact h k hi ha
theorem apart_yes {l : List (List UInt8)} (h : ∀ i (hi : i < l.length), l[i] ∉ l.take i) : apartL l = true := by
 have := nodup_take h l.length (Nat.le_refl _);rw [List.take_length] at this;exact decide_eq_true this
theorem apart_no {l : List (List UInt8)} {i : Nat} (hi : i < l.length) (h : l[i] ∈ l.take i) : apartL l = false := by
 refine decide_eq_false fun hn => ?_
 obtain ⟨j, hj, e⟩ := List.getElem_of_mem h;rw [List.length_take] at hj;rw [List.getElem_take] at e;have := (List.nodup_iff_pairwise_ne.1 hn);rw [List.pairwise_iff_getElem] at this;exact this j i (by omega) hi (by omega) e
theorem apart3_no {c : CH} {k : Nat} (hk : k < 3) (h : apartL (nm3 c k) = false) : apartB c = false := by
 rw [apart_nm3];rcases (show k = 0 \/ k = 1 \/ k = 2 by omega) with rfl | rfl | rfl <;> rw [h] <;> simp
theorem apart3_yes {c : CH} (h : ∀ j, j < 3 -> apartL (nm3 c j) = true) : apartB c = true := by
 rw [apart_nm3, h 0 (by omega), h 1 (by omega), h 2 (by omega)]; rfl
theorem ix3 {W : World} {c : CH} {x0 x1 x2 : Value} (h0 : RdW W x0 (nm3 c 0)) (h1 : RdW W x1 (nm3 c 1)) (h2 : RdW W x2 (nm3 c 2)) {k : Nat} (hk : k < 3) :
 ∃ A cp, (∀ w, (Instr.index 167 (.agg #[x0, x1, x2]) (.int .i64 k)).run Tryz.prog w = .ok (.slice A (nm3 c k).length cp) w) /\ RdW W (.slice A (nm3 c k).length cp) (nm3 c k) := by
 obtain ⟨A0, c0, rfl⟩ := h0.form;obtain ⟨A1, c1, rfl⟩ := h1.form;obtain ⟨A2, c2, rfl⟩ := h2.form;rcases (show k = 0 \/ k = 1 \/ k = 2 by omega) with rfl | rfl | rfl
 ·exact ⟨A0, c0, fun w => by kernel_rfl, h0⟩
 ·exact ⟨A1, c1, fun w => by kernel_rfl, h1⟩
 ·exact ⟨A2, c2, fun w => by kernel_rfl, h2⟩
theorem ix3c {W : World} {c : CH} {A0 A1 A2 : Option Addr} {c0 c1 c2 : Nat} (h0 : RdW W (.slice A0 (nm3 c 0).length c0) (nm3 c 0)) (h1 : RdW W (.slice A1 (nm3 c 1).length c1) (nm3 c 1)) (h2 : RdW W (.slice A2 (nm3 c 2).length c2) (nm3 c 2)) (e0 : (nm3 c 0).length <= c0) (e1 : (nm3 c 1).length <= c1) (e2 : (nm3 c 2).length <= c2) {k : Nat} (hk : k < 3) :
 ∃ A cp, (∀ w, (Instr.index 167 (.agg #[.slice A0 (nm3 c 0).length c0, .slice A1 (nm3 c 1).length c1, .slice A2 (nm3 c 2).length c2]) (.int .i64 k)).run Tryz.prog w = .ok (.slice A (nm3 c k).length cp) w) /\ RdW W (.slice A (nm3 c k).length cp) (nm3 c k) /\ (nm3 c k).length <= cp := by
 rcases (show k = 0 \/ k = 1 \/ k = 2 by omega) with rfl | rfl | rfl
 ·exact ⟨A0, c0, fun w => by kernel_rfl, h0, e0⟩
 ·exact ⟨A1, c1, fun w => by kernel_rfl, h1, e1⟩
 ·exact ⟨A2, c2, fun w => by kernel_rfl, h2, e2⟩
theorem _root_.Go.Proofs.YtcnfcililiehlaaGreatDoor.RdW.front {w : World} {A : Option Addr} {m cp cp' : Nat} {xs : List (List UInt8)} (h : RdW w (.slice A m cp) xs) {k : Nat} (hk : k <= xs.length) (hA : k = 0 -> A = none -> cp' = 0) : RdW w (.slice A k cp') (xs.take k) := by
 have hl : (xs.take k).length = k := by rw [List.length_take]; omega
 unfold RdW;rw [hl];rcases h with ⟨e, h0, h1⟩ | ⟨ad, c', e, hln, hc⟩
 ·cases e;have : k = 0 := by omega
  subst this;rw [hA rfl rfl];exact Or.inl ⟨rfl, rfl, by simp⟩
 ·simp only [Value.slice.injEq] at e;obtain ⟨rfl, rfl, rfl⟩ := e;refine Or.inr ⟨ad, cp', rfl, by rw [List.length_map, hl]; omega, fun hk0 => ?_⟩;obtain ⟨b, o, e, hb, hc⟩ := hc (by omega);refine ⟨b, o, e, hb, fun j u hu => hc j u ?_⟩;rw [List.map_take, List.getElem?_take] at hu;split at hu
  ·exact hu
  ·cases hu
set_option maxHeartbeats 4000000 in
theorem isNamed_any {w : World} {c : CH} {eV vV sV tV : Value} {sp : List SP} {tp : List TP} (h : ChM w c eV vV sV tV sp tp) (hel : c.es.length <= 1000000) (hvl : c.vs.length <= 1000000) (hsl : sp.length <= 1000000) :
 Calls Tryz.prog 124 #[chA c eV vV sV tV] w fun e w' => e = .returned (.bool (namedB c)) /\ Below w.heap.size w w' := by
 obtain ⟨M, hM, hMl⟩ := bstr_some c.nm;obtain ⟨w1, hw1⟩ : ∃ W, W = w.alloc (.cells #[.string M, eV, vV, sV, tV] 27) := ⟨_, rfl⟩
 have hb1 : Below w.heap.size w w1 := hw1 ▸ (Below.refl _ _).alloc (Nat.le_refl _) _;have hNM := names_any (h.below hb1) hvl hsl;have hE := h.es;have hL0 : ∀ k, (nm3 c k).length <= 1000000 := fun k => by
  unfold nm3;split
  ·exact hel
  ·split
   ·unfold varN; rw [List.length_map]; exact hvl
   ·unfold stN; rw [List.length_map, <- h.sLen]; exact hsl
 obtain ⟨⟨A1, k1, rfl⟩, ⟨A2, k2, rfl⟩, ⟨A3, k3, rfl⟩, ⟨A4, k4, rfl⟩⟩ := h.forms;unfold chA at hNM ⊢;rw [hM] at hNM ⊢;have hz1 : w1.heap.size = w.heap.size + 1 := by rw [hw1]; simp
 have d0 : w1.cell? ⟨w.heap.size, 0, none⟩ = some (.string M) := by rw [hw1]; simp
 have d1 : w1.cell? ⟨w.heap.size, 1, none⟩ = some (.slice A1 c.es.length k1) := by rw [hw1]; simp
 have d2 : w1.cell? ⟨w.heap.size, 2, none⟩ = some (.slice A2 c.vs.length k2) := by rw [hw1]; simp
 have d3 : w1.cell? ⟨w.heap.size, 3, none⟩ = some (.slice A3 sp.length k3) := by rw [hw1]; simp
 have d4 : w1.cell? ⟨w.heap.size, 4, none⟩ = some (.slice A4 tp.length k4) := by rw [hw1]; simp
 have HC := Lib.hid hNM; have HW := Lib.hid hw1; have HB := Lib.hid hb1; have HE := Lib.hid hE; have HL0 := Lib.hid hL0;have HNA := Lib.hid (fun (X : ByteArray) W => name_any X W);have HML := Lib.hid hMl;clear h hM hMl hNM hw1 hb1 hE hL0;generalize hn1 : c.es.length = n1 at *
 have HN1 := Lib.hid hn1;clear hn1;generalize c.vs.length = n2 at *; generalize sp.length = n3 at *; generalize tp.length = n4 at *
 go_enter Tryz.func124, Tryz.ntmps124
 go_wp2_with fail
 rw [<- HW.out]
 go_wp2_with fail
 refine (HNA.out M _).mono ?_;rintro e w2 ⟨rfl, h2⟩;obtain rfl := h2;rw [HML.out];cases hn : nameB c.nm with
 | false =>
  have hf : namedB c = false := by rw [named_nm3, hn]; rfl
  have HF := Lib.hid hf;clear hn hf;go_wp2;go_ret;exact ⟨ret_bool HF.out.symm, HB.out⟩
 | true =>
  have HN := Lib.hid hn;clear hn
  go_wp2_with fail
  refine HC.out.mono ?_;rintro e w3 ⟨⟨u1, u2, rfl, ho1, ho2⟩, hb3⟩;obtain ⟨B1, j1, rfl⟩ := own_slice ho1;obtain ⟨B2, j2, rfl⟩ := own_slice ho2;have hI : ∀ k : Nat, k < 3 -> ∃ A cp, (∀ w, (Instr.index 167 (.agg #[.slice A1 n1 k1, .slice B1 (varN c).length j1, .slice B2 (stN c).length j2]) (.int .i64 k)).run Tryz.prog w = .ok (.slice A (nm3 c k).length cp) w) /\ RdW w3 (.slice A (nm3 c k).length cp) (nm3 c k) := fun k hk => by
   have hE' := HE.out.below (HB.out.trans (hb3.mono HB.out.size));rw [<- HN1.out] at hE' ⊢;exact ix3 (c := c) (show RdW w3 _ (nm3 c 0) from hE') (show RdW w3 _ (nm3 c 1) from Inn.of_own ho1) (show RdW w3 _ (nm3 c 2) from Inn.of_own ho2) hk
  have HI := Lib.hid hI;have HB3 := Lib.hid (HB.out.trans (hb3.mono HB.out.size));have hz3 := hb3.size;generalize (varN c).length = m1 at *; generalize (stN c).length = m2 at *
  clear hI ho1 ho2 hb3 d0 d1 d2 d3 d4;go_wp2
  go_loopw [4, 6, 13] (fun x4 x6 xi wr => (x4 = x4 /\ x6 = x6) /\ ∃ k : Nat, k <= 3 /\ xi = .int .i64 k /\ Hid (∀ j, j < k -> (nm3 c j).all nameB = true) /\ w3 = wr) (fun _ _ x _ => 3 - (intOf x).toNat)
  case atStart => exact ⟨⟨rfl, rfl⟩, 0, by omega, rfl, fun j hj => by omega, rfl⟩
  case round =>
   obtain ⟨_, k, hk, hxi, HA, hwr⟩ := hrel;subst hxi;subst hwr;by_cases hk3 : k < 3
   ·obtain ⟨A, cp, hix, hrd⟩ := HI.out k hk3;have hlk := HL0.out k;have HRD := Lib.hid hrd;obtain ⟨n, hnl⟩ : ∃ n, (nm3 c k).length = n := ⟨_, rfl⟩
    have HNL := Lib.hid hnl;rw [hnl] at hix hlk HRD;clear hrd hnl;go_wp2
    go_loopw [6, 18] (fun x6 xi wr => x6 = x6 /\ ∃ i : Nat, i <= n /\ xi = .int .i64 i /\ Hid (∀ j (hj : j < (nm3 c k).length), j < i -> nameB (nm3 c k)[j] = true) /\ w3 = wr) (fun _ x _ => n - (intOf x).toNat)
    case atStart => exact ⟨rfl, 0, by omega, rfl, fun j _ hj => by omega, rfl⟩
    case round =>
     obtain ⟨_, i, hi, hxi, HAI, hwr⟩ := hrel;subst hxi;subst hwr;by_cases hin : i < n
     ·obtain ⟨b, o, rfl, _, hc⟩ := HRD.out.at_ (k := i) (by rw [HNL.out]; exact hin);obtain ⟨X, hX, hXl⟩ := bstr_some ((nm3 c k)[i]'(by rw [HNL.out]; exact hin));rw [hX] at hc;have HNX := Lib.hid (HNA.out X);have HXL := Lib.hid hXl;clear hX hXl;cases hq : nameB X.data.toList with
      | true =>
       have HQ := Lib.hid hq;clear hq
       go_wp2_with fail
       refine (HNX.out _).mono ?_;rintro e w4 ⟨rfl, h4⟩;obtain rfl := h4;rw [HQ.out];go_wp2
       go_roundw
       case rel =>
        refine ⟨(by first | rfl | trivial), i + 1, by omega, by go_num, fun j hj hji => ?_, (by first | rfl | trivial)⟩;rcases Nat.lt_or_ge j i with h | h
        ·exact HAI.out j hj h
        ·obtain rfl : j = i := by omega
         rw [<- HXL.out]; exact HQ.out
       case measure => simp [intOf] <;> omega
      | false =>
       have hf : namedB c = false := named_no hk3 (n := X.data.toList) (by rw [HXL.out]; exact List.getElem_mem _) hq;have HQ := Lib.hid hq; have HF := Lib.hid hf;clear hq hf
       go_wp2_with fail
       refine (HNX.out _).mono ?_;rintro e w4 ⟨rfl, h4⟩;obtain rfl := h4;rw [HQ.out];go_wp2;go_ret;exact ⟨ret_bool HF.out.symm, HB3.out⟩
     ·obtain rfl : i = n := by omega
      have hall : (nm3 c k).all nameB = true := List.all_eq_true.2 fun x hx => by
       obtain ⟨j, hj, rfl⟩ := List.getElem_of_mem hx;exact HAI.out j hj (by rw [<- HNL.out]; exact hj)
      have HALL := Lib.hid hall;clear hall;go_wp2
      go_roundw
      case rel =>
       refine ⟨(by first | exact ⟨rfl, rfl⟩ | trivial | simp), k + 1, by omega, by go_num, fun j hj => ?_, (by first | rfl | trivial)⟩;rcases Nat.lt_or_ge j k with h | h
       ·exact HA.out j h
       ·obtain rfl : j = k := by omega
        exact HALL.out
      case measure => simp [intOf] <;> omega
   ·obtain rfl : k = 3 := by omega
    have HT := Lib.hid (named_yes HN.out HA.out);go_wp2;go_ret;exact ⟨ret_bool HT.out.symm, HB3.out⟩
set_option maxHeartbeats 4000000 in
theorem isApart_any {w : World} {c : CH} {eV vV sV tV : Value} {sp : List SP} {tp : List TP} (h : ChM w c eV vV sV tV sp tp) (hec : ∀ A n k, eV = .slice A n k -> n <= k) (hel : c.es.length <= 1000000) (hvl : c.vs.length <= 1000000) (hsl : sp.length <= 1000000) :
 Calls Tryz.prog 126 #[chA c eV vV sV tV] w fun e w' => e = .returned (.bool (apartB c)) /\ Below w.heap.size w w' := by
 obtain ⟨M, hM, hMl⟩ := bstr_some c.nm;obtain ⟨w1, hw1⟩ : ∃ W, W = w.alloc (.cells #[.string M, eV, vV, sV, tV] 27) := ⟨_, rfl⟩
 have hb1 : Below w.heap.size w w1 := hw1 ▸ (Below.refl _ _).alloc (Nat.le_refl _) _;have hNM := names_any (h.below hb1) hvl hsl;have hE := h.es;have hL0 : ∀ k, (nm3 c k).length <= 1000000 := fun k => by
  unfold nm3;split
  ·exact hel
  ·split
   ·unfold varN; rw [List.length_map]; exact hvl
   ·unfold stN; rw [List.length_map, <- h.sLen]; exact hsl
 obtain ⟨⟨A1, k1, rfl⟩, ⟨A2, k2, rfl⟩, ⟨A3, k3, rfl⟩, ⟨A4, k4, rfl⟩⟩ := h.forms;have hk1 := hec _ _ _ rfl;unfold chA at hNM ⊢;rw [hM] at hNM ⊢;have hz1 : w1.heap.size = w.heap.size + 1 := by rw [hw1]; simp
 have d0 : w1.cell? ⟨w.heap.size, 0, none⟩ = some (.string M) := by rw [hw1]; simp
 have d1 : w1.cell? ⟨w.heap.size, 1, none⟩ = some (.slice A1 c.es.length k1) := by rw [hw1]; simp
 have d2 : w1.cell? ⟨w.heap.size, 2, none⟩ = some (.slice A2 c.vs.length k2) := by rw [hw1]; simp
 have d3 : w1.cell? ⟨w.heap.size, 3, none⟩ = some (.slice A3 sp.length k3) := by rw [hw1]; simp
 have d4 : w1.cell? ⟨w.heap.size, 4, none⟩ = some (.slice A4 tp.length k4) := by rw [hw1]; simp
 have HC := Lib.hid hNM; have HW := Lib.hid hw1; have HB := Lib.hid hb1; have HE := Lib.hid hE; have HL0 := Lib.hid hL0; have HK1 := Lib.hid hk1;clear h hM hMl hNM hw1 hb1 hE hL0 hec hk1;generalize hn1 : c.es.length = n1 at *
 have HN1 := Lib.hid hn1;clear hn1;generalize c.vs.length = n2 at *; generalize sp.length = n3 at *; generalize tp.length = n4 at *
 go_enter Tryz.func126, Tryz.ntmps126
 go_wp2_with fail
 rw [<- HW.out]
 go_wp2_with fail
 refine HC.out.mono ?_;rintro e w3 ⟨⟨u1, u2, rfl, ho1, ho2⟩, hb3⟩;obtain ⟨B1, j1, rfl, hj1⟩ := own_cap ho1;obtain ⟨B2, j2, rfl, hj2⟩ := own_cap ho2;have hI : ∀ k : Nat, k < 3 -> ∃ A cp, (∀ w, (Instr.index 167 (.agg #[.slice A1 n1 k1, .slice B1 (varN c).length j1, .slice B2 (stN c).length j2]) (.int .i64 k)).run Tryz.prog w = .ok (.slice A (nm3 c k).length cp) w) /\ RdW w3 (.slice A (nm3 c k).length cp) (nm3 c k) /\ (nm3 c k).length <= cp := fun k hk => by
  have hE' := HE.out.below (HB.out.trans (hb3.mono HB.out.size));have hk1 := HK1.out;rw [<- HN1.out] at hE' hk1 ⊢;exact ix3c (c := c) (show RdW w3 (.slice A1 (nm3 c 0).length k1) (nm3 c 0) from hE') (show RdW w3 (.slice B1 (nm3 c 1).length j1) (nm3 c 1) from Inn.of_own ho1) (show RdW w3 (.slice B2 (nm3 c 2).length j2) (nm3 c 2) from Inn.of_own ho2) hk1 hj1 hj2 hk
 have HI := Lib.hid hI;have HB3 := Lib.hid (HB.out.trans (hb3.mono HB.out.size));have hz3 := hb3.size;generalize (varN c).length = m1 at *; generalize (stN c).length = m2 at *
 clear hI ho1 ho2 hb3 d0 d1 d2 d3 d4 hj1 hj2;go_wp2
 go_loopw [4, 5, 6, 9] (fun x4 x5 x6 xi wr => (x4 = x4 /\ x5 = x5 /\ x6 = x6) /\ ∃ k : Nat, k <= 3 /\ xi = .int .i64 k /\ Hid (∀ j, j < k -> apartL (nm3 c j) = true) /\ w3 = wr) (fun _ _ _ x _ => 3 - (intOf x).toNat)
 case atStart => exact ⟨⟨rfl, rfl, rfl⟩, 0, by omega, rfl, fun j hj => by omega, rfl⟩
 case round =>
  obtain ⟨_, k, hk, hxi, HA, hwr⟩ := hrel;subst hxi;subst hwr;by_cases hk3 : k < 3
  ·obtain ⟨A, cp, hix, hrd, hcp⟩ := HI.out k hk3;have hlk := HL0.out k;have HRD := Lib.hid hrd;obtain ⟨n, hnl⟩ : ∃ n, (nm3 c k).length = n := ⟨_, rfl⟩
   have HNL := Lib.hid hnl;rw [hnl] at hix hlk HRD hcp;clear hrd hnl;go_wp2
   go_loopw [5, 6, 14] (fun x5 x6 xi wr => (x5 = x5 /\ x6 = x6) /\ ∃ i : Nat, i <= n /\ xi = .int .i64 i /\ Hid (∀ j (hj : j < (nm3 c k).length), j < i -> (nm3 c k)[j] ∉ (nm3 c k).take j) /\ w3 = wr) (fun _ _ x _ => n - (intOf x).toNat)
   case atStart => exact ⟨⟨rfl, rfl⟩, 0, by omega, rfl, fun j _ hj => by omega, rfl⟩
   case round =>
    obtain ⟨_, i, hi, hxi, HAI, hwr⟩ := hrel;subst hxi;subst hwr;by_cases hin : i < n
    ·obtain ⟨b, o, rfl, _, hc⟩ := HRD.out.at_ (k := i) (by rw [HNL.out]; exact hin);obtain ⟨X, hX, hXl⟩ := bstr_some ((nm3 c k)[i]'(by rw [HNL.out]; exact hin));rw [hX] at hc;have HFR : Hid (∀ cp', RdW w3 (.slice (some ⟨b, o, none⟩) i cp') ((nm3 c k).take i)) := fun cp' => HRD.out.front (by rw [HNL.out]; omega) (fun _ h => by cases h)
     have HCT : Hid (∀ cp', Calls Tryz.prog 166 #[.slice (some ⟨b, o, none⟩) i cp', .string X] w3 fun e w' => e = .returned (.bool (decide (X.data.toList ∈ (nm3 c k).take i))) /\ w3 = w') := fun cp' => strContains_any _ _ X _ (HFR.out cp') (by rw [List.length_take]; omega)
     have HXL := Lib.hid hXl;have hicp : i <= cp := by omega
     clear hX hXl;by_cases hq : X.data.toList ∈ (nm3 c k).take i
     ·have hf : apartB c = false := apart3_no hk3 (apart_no (i := i) (by rw [HNL.out]; exact hin) (by rw [<- HXL.out]; exact hq));have HQ := Lib.hid (decide_eq_true hq); have HF := Lib.hid hf;clear hq hf
      go_wp2_with (go_at_call 166; refine (HCT.out _).mono ?_; rintro e w4 ⟨rfl, h4⟩; obtain rfl := h4; rw [HQ.out])
      go_ret;exact ⟨ret_bool HF.out.symm, HB3.out⟩
     ·have HQ := Lib.hid (decide_eq_false hq); have HQN := Lib.hid hq;clear hq
      go_wp2_with (go_at_call 166; refine (HCT.out _).mono ?_; rintro e w4 ⟨rfl, h4⟩; obtain rfl := h4; rw [HQ.out])
      go_roundw
      case rel =>
       refine ⟨(by first | exact ⟨rfl, rfl⟩ | trivial | simp), i + 1, by omega, by go_num, fun j hj hji => ?_, (by first | rfl | trivial)⟩;rcases Nat.lt_or_ge j i with h | h
       ·exact HAI.out j hj h
       ·obtain rfl : j = i := by omega
        rw [<- HXL.out]; exact HQN.out
      case measure => simp [intOf] <;> omega
    ·obtain rfl : i = n := by omega
     have HALL := Lib.hid (apart_yes (l := nm3 c k) fun j hj => HAI.out j hj (by rw [<- HNL.out]; exact hj));go_wp2
     go_roundw
     case rel =>
      refine ⟨(by first | exact ⟨rfl, rfl, rfl⟩ | trivial | simp), k + 1, by omega, by go_num, fun j hj => ?_, (by first | rfl | trivial)⟩;rcases Nat.lt_or_ge j k with h | h
      ·exact HA.out j h
      ·obtain rfl : j = k := by omega
       exact HALL.out
     case measure => simp [intOf] <;> omega
  ·obtain rfl : k = 3 := by omega
   have HT := Lib.hid (apart3_yes HA.out);go_wp2;go_ret;exact ⟨ret_bool HT.out.symm, HB3.out⟩
end Go.Proofs.YtcnfcililiehlaaGreatDoor.Ch.Vd
namespace Go.Proofs.YtcnfcililiehlaaGreatDoor.Kd
open Go.RowKit
theorem op_bin {o : Int} (h : 11 <= o /\ o <= 23) : o = 11 \/ o = 12 \/ o = 13 \/ o = 14 \/ o = 15 \/ o = 16 \/ o = 17 \/ o = 18 \/ o = 19 \/ o = 20 \/ o = 21 \/ o = 22 \/ o = 23 := by omega
theorem op_un {o : Int} (h : 7 <= o /\ o <= 10) : o = 7 \/ o = 8 \/ o = 9 \/ o = 10 := by omega
theorem op_leaf {o : Int} (h : 1 <= o /\ o <= 6) : o = 1 \/ o = 2 \/ o = 3 \/ o = 4 \/ o = 5 \/ o = 6 := by omega
theorem kd_three {k : Int} (h : 1 <= k /\ k <= 3) : k = 1 \/ k = 2 \/ k = 3 := by omega
theorem op_all {o : Int} (h : 1 <= o /\ o <= 23) : (1 <= o /\ o <= 6) \/ (7 <= o /\ o <= 10) \/ (11 <= o /\ o <= 23) := by omega
theorem kOperands_any (op : Int) (w : World) (h : 1 <= op /\ op <= 23) :
 Calls Tryz.prog 262 #[.int .i64 op] w fun e w' => e = .returned (.int .i64 (operN op)) /\ w = w' := by
 rcases op_all h with h | h | h
 ·rcases op_leaf h with rfl | rfl | rfl | rfl | rfl | rfl
  all_goals
   go_enter Tryz.func262, Tryz.ntmps262
   go_wp2;go_ret;exact ⟨rfl, rfl⟩
 ·rcases op_un h with rfl | rfl | rfl | rfl
  all_goals
   go_enter Tryz.func262, Tryz.ntmps262
   go_wp2;go_ret;exact ⟨rfl, rfl⟩
 ·rcases op_bin h with rfl | rfl | rfl | rfl | rfl | rfl | rfl | rfl | rfl | rfl | rfl | rfl | rfl
  all_goals
   go_enter Tryz.func262, Tryz.ntmps262
   go_wp2;go_ret;exact ⟨rfl, rfl⟩
def aloneK (op : Int) : Int := if op = 1 then 1 else if op = 2 then 3 else 2
theorem alone_any (op : Int) (w : World) (h : 1 <= op /\ op <= 6) :
 Calls Tryz.prog 278 #[.int .i64 op] w fun e w' => e = .returned (.int .i64 (aloneK op)) /\ w = w' := by
 rcases op_leaf h with rfl | rfl | rfl | rfl | rfl | rfl
 all_goals
  go_enter Tryz.func278, Tryz.ntmps278
  go_wp2;go_ret;exact ⟨rfl, rfl⟩
set_option maxHeartbeats 1000000 in
theorem ahead_any (op k : Int) (w : World) (h : 7 <= op /\ op <= 10) (hk : 1 <= k /\ k <= 3) :
 Calls Tryz.prog 279 #[.int .i64 op, .int .i64 k] w fun e w' => e = .returned (.int .i64 (unK op k)) /\ w = w' := by
 rcases op_un h with rfl | rfl | rfl | rfl <;> rcases kd_three hk with rfl | rfl | rfl
 all_goals
  go_enter Tryz.func279, Tryz.ntmps279
  go_wp2;go_ret;exact ⟨rfl, rfl⟩
set_option maxHeartbeats 4000000 in
theorem between_any (op a b : Int) (w : World) (h : 11 <= op /\ op <= 23) (hk : 1 <= a /\ a <= 3) :
 Calls Tryz.prog 280 #[.int .i64 op, .int .i64 a, .int .i64 b] w fun e w' => e = .returned (.int .i64 (if a ≠ b then 0 else binK op a)) /\ w = w' := by
 by_cases hab : a = b
 ·subst hab;rw [if_neg (by simp)];rcases op_bin h with rfl | rfl | rfl | rfl | rfl | rfl | rfl | rfl | rfl | rfl | rfl | rfl | rfl <;> rcases kd_three hk with rfl | rfl | rfl
  all_goals
   go_enter Tryz.func280, Tryz.ntmps280
   go_wp2;go_ret;exact ⟨rfl, rfl⟩
 ·rw [if_pos hab];have h' := bne_iff_ne.2 hab;clear hab
  go_enter Tryz.func280, Tryz.ntmps280
  go_wp2;go_ret;exact ⟨rfl, rfl⟩
set_option maxHeartbeats 4000000 in
theorem joined_any (op a : Int) (w : World) (h : 11 <= op /\ op <= 23) (hk : 1 <= a /\ a <= 3) :
 Calls Tryz.prog 184 #[.int .i64 op, .int .i64 a] w fun e w' => e = .returned (.tuple #[.int .i64 (errK (binK op a)).1, .int .i64 (errK (binK op a)).2]) /\ w = w' := by
 rcases op_bin h with rfl | rfl | rfl | rfl | rfl | rfl | rfl | rfl | rfl | rfl | rfl | rfl | rfl <;> rcases kd_three hk with rfl | rfl | rfl
 all_goals
  go_enter Tryz.func184, Tryz.ntmps184
  go_wp2;go_ret2;exact ⟨rfl, rfl⟩
end Go.Proofs.YtcnfcililiehlaaGreatDoor.Kd
namespace Go.Proofs.YtcnfcililiehlaaGreatDoor.Kd
open Go.RowKit
def isV (n : List UInt8) (v : VM) : Bool := decide (v.nm = n)
theorem called_any (x : VM) (X N : ByteArray) (g : Nat) (w : World) (hg : g < w.heap.size) (hN : w.cell? ⟨g, 0, none⟩ = some (.string N)) :
 Calls Tryz.prog 285 #[.agg #[.string X, .int .i64 x.kd, .int .i64 x.lo, .int .i64 x.hi, .int .i64 x.ik, .int .i64 x.ia, .int .i64 x.ib], .pointer (some ⟨g, 0, none⟩)] w fun e w' => e = .returned (.bool (decide (X.data.toList = N.data.toList))) /\ Below w.heap.size w w' := by
 have HB : Hid (∀ W : World, ∀ o : Obj, Below W.heap.size W (W.alloc o)) := fun W o => (Below.refl _ _).alloc (Nat.le_refl _) o
 have hne0 : w.heap.size ≠ g := by omega
 by_cases he : X.data.toList = N.data.toList
 ·obtain rfl := str_eq he;rw [decide_eq_true he];clear he
  go_enter Tryz.func285, Tryz.ntmps285
  go_wp2;go_ret;exact ⟨rfl, HB.out _ _⟩
 ·have hne := str_ne he;have hne' := str_ne (Ne.symm he);rw [decide_eq_false he];clear he
  go_enter Tryz.func285, Tryz.ntmps285
  go_wp2;go_ret;exact ⟨rfl, HB.out _ _⟩
set_option maxHeartbeats 1000000 in
theorem varIndex_any (v : Value) (vs : List VM) (N : ByteArray) (g : Nat) (w : World) (hR : RdV w v vs) (hl : vs.length <= 4611686018427387904) (hg : g < w.heap.size) (hN : w.cell? ⟨g, 0, none⟩ = some (.string N)) :
 Calls Tryz.prog 237 #[v, .func (.func 285) #[] #[.pointer (some ⟨g, 0, none⟩)]] w fun e w' => e = .returned (.int .i64 (ixP (isV N.data.toList) vs 0)) /\ Below w.heap.size w w' := by
 obtain ⟨A, c, rfl⟩ := hR.form;have HR := Lib.hid hR; clear hR;obtain ⟨n, hn⟩ : ∃ n, vs.length = n := ⟨_, rfl⟩
 have HN := Lib.hid hn;rw [hn] at hl HR ⊢;clear hn;have HNM := Lib.hid hN; clear hN
 go_enter Tryz.func237, Tryz.ntmps237
 go_wp2
 go_loopw [4, 5, 8] (fun x4 x5 i wr => x4 = .int .i64 0 /\ (x5 = .int .i64 0 \/ True) /\ ∃ k : Nat, k <= n /\ i = .int .i64 k /\ Hid (ixP (isV N.data.toList) (vs.drop k) k = ixP (isV N.data.toList) vs 0) /\ Below w.heap.size w wr) (fun _ _ i _ => n - (intOf i).toNat)
 case atStart => exact ⟨rfl, Or.inr trivial, 0, by omega, rfl, rfl, Below.refl _ _⟩
 case round =>
  obtain ⟨rfl, _, k, hk, rfl, HI, hb⟩ := hrel;have HBL := Lib.hid hb;by_cases hkn : k < n
  ·have HR' := HR.out.below hb;obtain ⟨b, o, rfl, _, hc0, hc1, hc2, hc3, hc4, hc5, hc6⟩ := HR'.at_ (k := k) (by rw [HN.out]; exact hkn);have hst := ix_step (p := isV N.data.toList) (l := vs) (k := k) (by rw [HN.out]; exact hkn);rw [HI.out] at hst;obtain ⟨X, hX, hXl⟩ := bstr_some (vs[k]'(by rw [HN.out]; exact hkn)).nm;have hiv : isV N.data.toList (vs[k]'(by rw [HN.out]; exact hkn)) = decide (X.data.toList = N.data.toList) := by rw [hXl]; rfl
   rw [hiv] at hst;rw [hX] at hc0;generalize vs[k]'(by rw [HN.out]; exact hkn) = x at *
   have HC := Lib.hid (called_any x X N g wr (by have := HBL.out.size; omega) ((hb.cell hg).trans HNM.out));clear hX hXl hb HR' hiv;by_cases he : X.data.toList = N.data.toList
   ·have hr : ixP (isV N.data.toList) vs 0 = k := by rw [hst, if_pos (by simp [he])]
    have HRR := Lib.hid hr;have HE := Lib.hid (decide_eq_true he);clear hst hr he HI
    go_wp2_with fail
    refine HC.out.mono ?_;rintro e w1 ⟨rfl, hb1⟩;rw [HE.out];have HB1 := Lib.hid (HBL.out.trans (hb1.mono HBL.out.size)); clear hb1;go_wp2;go_ret;exact ⟨ret_int HRR.out.symm, HB1.out⟩
   ·have hr : ixP (isV N.data.toList) (vs.drop (k + 1)) (k + 1) = ixP (isV N.data.toList) vs 0 := by rw [hst, if_neg (by simp [he])]
    have HRR := Lib.hid hr;have HE := Lib.hid (decide_eq_false he);clear hst hr he HI
    go_wp2_with fail
    refine HC.out.mono ?_;rintro e w1 ⟨rfl, hb1⟩;rw [HE.out];have HB1 := Lib.hid (HBL.out.trans (hb1.mono HBL.out.size)); clear hb1;go_wp2
    go_roundw
    case rel => exact ⟨rfl, Or.inr trivial, k + 1, by omega, by go_num, HRR.out, HB1.out⟩
    case measure => simp [intOf]; omega
  ·have hr : ixP (isV N.data.toList) vs 0 = -1 := by rw [<- HI.out, ix_end (by rw [HN.out]; exact hkn)]
   have HRR := Lib.hid hr;clear hr HI;go_wp2;go_ret;exact ⟨ret_int HRR.out.symm, HBL.out⟩
end Go.Proofs.YtcnfcililiehlaaGreatDoor.Kd
namespace Go.Proofs.YtcnfcililiehlaaGreatDoor.Kd
open Go.RowKit
theorem varK_ix (vs : List VM) (n : List UInt8) : (ixP (isV n) vs 0 = -1 /\ varK vs n = (0, 2)) \/ ∃ j, ∃ h : j < vs.length, ixP (isV n) vs 0 = (j : Int) /\ varK vs n = if 1 <= vs[j].kd /\ vs[j].kd <= 3 then (vs[j].kd, 0) else (0, 8) := by
 unfold varK;rcases ix_find (isV n) vs 0 with ⟨h1, h2⟩ | ⟨j, hj, h1, h2⟩
 ·refine Or.inl ⟨h1, ?_⟩;have : vs.find? (fun v => decide (v.nm = n)) = none := h2;rw [this]
 ·refine Or.inr ⟨j, hj, by rw [h1]; simp, ?_⟩;have : vs.find? (fun v => decide (v.nm = n)) = some vs[j] := h2;rw [this]
theorem ret_pair {k : IntKind} {a b : Int} {p : Int × Int} (h : p = (a, b)) : Ending.returned (.tuple #[.int k a, .int k b]) = .returned (.tuple #[.int k p.1, .int k p.2]) := by rw [h]
set_option maxHeartbeats 1000000 in
theorem variable_any (v : Value) (vs : List VM) (N : ByteArray) (w : World) (hR : RdV w v vs) (hl : vs.length <= 4611686018427387904) :
 Calls Tryz.prog 277 #[.string N, v] w fun e w' => e = .returned (.tuple #[.int .i64 (varK vs N.data.toList).1, .int .i64 (varK vs N.data.toList).2]) /\ Below w.heap.size w w' := by
 have hW : Below w.heap.size w (w.alloc (.cells #[.string N] 9)) := (Below.refl _ _).alloc (Nat.le_refl _) _;have hsz : w.heap.size < (w.alloc (.cells #[.string N] 9)).heap.size := by simp
 have hcl : (w.alloc (.cells #[.string N] 9)).cell? ⟨w.heap.size, 0, none⟩ = some (.string N) := by simp
 have HI := Lib.hid (varIndex_any v vs N w.heap.size (w.alloc (.cells #[.string N] 9)) (hR.below hW) hl hsz hcl);have HW := Lib.hid hW;obtain ⟨A, c, rfl⟩ := hR.form;have HR := Lib.hid hR;clear hR hsz hcl hW;rcases varK_ix vs N.data.toList with ⟨h1, h2⟩ | ⟨j, hj, h1, h2⟩
 ·have H1 := Lib.hid h1; have H2 := Lib.hid h2;clear h1 h2
  go_enter Tryz.func277, Tryz.ntmps277
  go_wp2_with fail
  go_in
  go_wp2_with fail
  refine HI.out.mono ?_;rintro e w1 ⟨rfl, hb1⟩;rw [H1.out];have HB1 := Lib.hid (HW.out.trans (hb1.mono HW.out.size)); clear hb1;go_wp2;go_ret2;exact ⟨ret_pair H2.out, HB1.out⟩
 ·obtain ⟨x, hx⟩ : ∃ x, vs[j] = x := ⟨_, rfl⟩
  rw [hx] at h2;have H1 := Lib.hid h1; have H2 := Lib.hid h2;have hk : ((1 <= x.kd /\ x.kd <= 3) \/ x.kd < 1) \/ 3 < x.kd := by omega
  obtain ⟨b, o, rfl, hbw, hc0, hc1, hcx⟩ := HR.out.at_ hj;clear hc0 hcx;rw [hx] at hc1;have hjj : j < vs.length := hj;clear h1 h2;have HC := Lib.hid hc1; clear hc1;clear hx hj;generalize x.kd = kd at *
  rcases hk with (⟨hk1, hk2⟩ | hk) | hk
  ·have hv : varK vs N.data.toList = (kd, 0) := by rw [H2.out, if_pos ⟨hk1, hk2⟩]
   have HV := Lib.hid hv;have n1 : decide (kd < 1) = false := decide_eq_false (by omega);have n2 : decide (3 < kd) = false := decide_eq_false (by omega);clear hv
   go_enter Tryz.func277, Tryz.ntmps277
   go_wp2_with fail
   go_in
   go_wp2_with fail
   refine HI.out.mono ?_;rintro e w1 ⟨rfl, hb1⟩;rw [H1.out];have hcc := ((HW.out.trans (hb1.mono HW.out.size)).cell hbw).trans HC.out;have HB1 := Lib.hid (HW.out.trans (hb1.mono HW.out.size)); clear hb1;go_wp2;go_ret2;exact ⟨ret_pair HV.out, HB1.out⟩
  all_goals
   have hv : varK vs N.data.toList = (0, 8) := by rw [H2.out, if_neg (by omega)]
   have HV := Lib.hid hv;clear hv
   go_enter Tryz.func277, Tryz.ntmps277
   go_wp2_with fail
   go_in
   go_wp2_with fail
   refine HI.out.mono ?_;rintro e w1 ⟨rfl, hb1⟩;rw [H1.out];have hcc := ((HW.out.trans (hb1.mono HW.out.size)).cell hbw).trans HC.out;have HB1 := Lib.hid (HW.out.trans (hb1.mono HW.out.size)); clear hb1;go_wp2;go_ret2;exact ⟨ret_pair HV.out, HB1.out⟩
end Go.Proofs.YtcnfcililiehlaaGreatDoor.Kd
namespace Go.Proofs.YtcnfcililiehlaaGreatDoor.Kd
open Go.RowKit
set_option maxHeartbeats 1000000 in
theorem refFind_any (v : Value) (vs : List VM) (N : ByteArray) (w : World) (hR : RdV w v vs) (hl : vs.length <= 4611686018427387904) :
 Calls Tryz.prog 97 #[v, .string N] w fun e w' => e = .returned (.int .i64 (ixP (isV N.data.toList) vs 0)) /\ w = w' := by
 obtain ⟨A, c, rfl⟩ := hR.form;have HR := Lib.hid hR; clear hR;obtain ⟨n, hn⟩ : ∃ n, vs.length = n := ⟨_, rfl⟩
 have HN := Lib.hid hn;rw [hn] at hl HR ⊢;clear hn
 go_enter Tryz.func97, Tryz.ntmps97
 go_wp2
 go_loop [4, 5] (fun x4 i => x4 = .int .i64 0 /\ ∃ k : Nat, k <= n /\ i = .int .i64 k /\ Hid (ixP (isV N.data.toList) (vs.drop k) k = ixP (isV N.data.toList) vs 0)) (fun _ i => n - (intOf i).toNat)
 case atStart => exact ⟨rfl, 0, by omega, rfl, rfl⟩
 case round =>
  obtain ⟨rfl, k, hk, rfl, HI⟩ := hrel;by_cases hkn : k < n
  ·obtain ⟨b, o, rfl, _, hc, _⟩ := HR.out.at_ (k := k) (by rw [HN.out]; exact hkn);have hst := ix_step (p := isV N.data.toList) (l := vs) (k := k) (by rw [HN.out]; exact hkn);rw [HI.out] at hst;obtain ⟨X, hX, hXl⟩ := bstr_some (vs[k]'(by rw [HN.out]; exact hkn)).nm;have hiv : isV N.data.toList (vs[k]'(by rw [HN.out]; exact hkn)) = decide (X.data.toList = N.data.toList) := by rw [hXl]; rfl
   rw [hiv] at hst;rw [hX] at hc;clear hX hXl hiv;by_cases he : X.data.toList = N.data.toList
   ·have hr : ixP (isV N.data.toList) vs 0 = k := by rw [hst, if_pos (by simp [he])]
    obtain rfl := str_eq he;have HRR := Lib.hid hr;clear hst hr he HI;go_wp2;go_ret;exact ⟨ret_int HRR.out.symm, rfl⟩
   ·have hr : ixP (isV N.data.toList) (vs.drop (k + 1)) (k + 1) = ixP (isV N.data.toList) vs 0 := by rw [hst, if_neg (by simp [he])]
    have HRR := Lib.hid hr;have hne := str_ne he;have hne' := str_ne (Ne.symm he);clear hst hr he HI;go_wp2
    go_round
    case rel => exact ⟨rfl, k + 1, by omega, by go_num, HRR.out⟩
    case measure => simp [intOf]; omega
  ·have hr : ixP (isV N.data.toList) vs 0 = -1 := by rw [<- HI.out, ix_end (by rw [HN.out]; exact hkn)]
   have HRR := Lib.hid hr;clear hr HI;go_wp2;go_ret;exact ⟨ret_int HRR.out.symm, rfl⟩
set_option maxHeartbeats 2000000 in
theorem refLeaf_any (op a : Int) (X : ByteArray) (v s : Value) (vs : List VM) (ss : List (List UInt8)) (w : World) (hop : 1 <= op /\ op <= 6) (hR : RdV w v vs) (hl : vs.length <= 4611686018427387904) (hS : RdW w s ss) (hsl : ss.length <= 4611686018427387904) :
 Calls Tryz.prog 182 #[.agg #[.int .i64 op, .int .i64 a, .string X], v, s] w fun e w' => e = .returned (.tuple #[.int .i64 (leafK vs ss ⟨op, a, X.data.toList⟩).1, .int .i64 (leafK vs ss ⟨op, a, X.data.toList⟩).2]) /\ Below w.heap.size w w' := by
 have HB : Hid (∀ o : Obj, Below w.heap.size w (w.alloc o)) := fun o => (Below.refl _ _).alloc (Nat.le_refl _) o
 have HV : Hid (∀ o : Obj, RdV (w.alloc o) v vs) := fun o => hR.below (HB.out o)
 have HS : Hid (∀ o : Obj, RdW (w.alloc o) s ss) := fun o => hS.below (HB.out o)
 have HF := Lib.hid (fun W h => refFind_any v vs X W h hl);have HH := Lib.hid (fun W h => refHas_any s ss X W h (by omega));have HR := Lib.hid hR;obtain ⟨V, cv, rfl⟩ := hR.form;obtain ⟨S, cs, rfl⟩ := hS.form;clear hR hS;have h56 : op = 1 \/ op = 2 \/ (op = 3 \/ op = 4) \/ op = 5 \/ op = 6 := by omega
 rcases h56 with rfl | rfl | h34 | rfl | rfl
 ·go_enter Tryz.func182, Tryz.ntmps182
  go_wp2;go_ret2;exact ⟨rfl, HB.out _⟩
 ·go_enter Tryz.func182, Tryz.ntmps182
  go_wp2;go_ret2;exact ⟨rfl, HB.out _⟩
 ·rcases h34 with rfl | rfl
  all_goals
   go_enter Tryz.func182, Tryz.ntmps182
   go_wp2;go_ret2;exact ⟨rfl, HB.out _⟩
 ·rw [show leafK vs ss ⟨5, a, X.data.toList⟩ = varK vs X.data.toList from rfl];rcases varK_ix vs X.data.toList with ⟨h1, h2⟩ | ⟨j, hj, h1, h2⟩
  ·have H1 := Lib.hid h1; have H2 := Lib.hid h2;clear h1 h2
   go_enter Tryz.func182, Tryz.ntmps182
   go_wp2_with fail
   refine (HF.out _ (HV.out _)).mono ?_;rintro e w1 ⟨rfl, rfl⟩;rw [H1.out];go_wp2;go_ret2;exact ⟨ret_pair H2.out, HB.out _⟩
  ·obtain ⟨x, hx⟩ : ∃ x, vs[j] = x := ⟨_, rfl⟩
   rw [hx] at h2;have H1 := Lib.hid h1; have H2 := Lib.hid h2;have hk : ((1 <= x.kd /\ x.kd <= 3) \/ x.kd < 1) \/ 3 < x.kd := by omega
   obtain ⟨b, o, rfl, hbw, hc0, hc1, hcx⟩ := HR.out.at_ hj;clear hc0 hcx;rw [hx] at hc1;have hjj : j < vs.length := hj;clear h1 h2 hx hj;generalize x.kd = kd at *
   rcases hk with (⟨hk1, hk2⟩ | hk) | hk
   ·have hv : varK vs X.data.toList = (kd, 0) := by rw [H2.out, if_pos ⟨hk1, hk2⟩]
    have HVK := Lib.hid hv;have n1 : decide (kd < 1) = false := decide_eq_false (by omega);have n2 : decide (3 < kd) = false := decide_eq_false (by omega);clear hv
    go_enter Tryz.func182, Tryz.ntmps182
    go_wp2_with fail
    refine (HF.out _ (HV.out _)).mono ?_;rintro e w1 ⟨rfl, rfl⟩;rw [H1.out];go_wp2;go_ret2;exact ⟨ret_pair HVK.out, HB.out _⟩
   all_goals
    have hv : varK vs X.data.toList = (0, 8) := by rw [H2.out, if_neg (by omega)]
    have HVK := Lib.hid hv;clear hv
    go_enter Tryz.func182, Tryz.ntmps182
    go_wp2_with fail
    refine (HF.out _ (HV.out _)).mono ?_;rintro e w1 ⟨rfl, rfl⟩;rw [H1.out];go_wp2;go_ret2;exact ⟨ret_pair HVK.out, HB.out _⟩
 ·by_cases hm : X.data.toList ∈ ss
  ·have HR2 : Hid (leafK vs ss ⟨6, a, X.data.toList⟩ = (2, 0)) := by
    show leafK _ _ _ = _;unfold leafK; simp [hm]
   have HM := Lib.hid (decide_eq_true hm);clear hm
   go_enter Tryz.func182, Tryz.ntmps182
   go_wp2_with fail
   refine (HH.out _ (HS.out _)).mono ?_;rintro e w1 ⟨rfl, rfl⟩;rw [HM.out];go_wp2;go_ret2;exact ⟨ret_pair HR2.out, HB.out _⟩
  ·have HR2 : Hid (leafK vs ss ⟨6, a, X.data.toList⟩ = (0, 2)) := by
    show leafK _ _ _ = _;unfold leafK; simp [hm]
   have HM := Lib.hid (decide_eq_false hm);clear hm
   go_enter Tryz.func182, Tryz.ntmps182
   go_wp2_with fail
   refine (HH.out _ (HS.out _)).mono ?_;rintro e w1 ⟨rfl, rfl⟩;rw [HM.out];go_wp2;go_ret2;exact ⟨ret_pair HR2.out, HB.out _⟩
end Go.Proofs.YtcnfcililiehlaaGreatDoor.Kd
