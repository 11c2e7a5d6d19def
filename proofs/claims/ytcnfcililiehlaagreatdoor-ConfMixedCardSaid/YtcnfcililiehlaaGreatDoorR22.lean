/- Own texts, joined: Xr, Pa, Pb, Pc. -/
import Derived.Test.YtcnfcililiehlaaGreatDoorR9
import Derived.Test.YtcnfcililiehlaaGreatDoorR11
namespace Go.Proofs.YtcnfcililiehlaaGreatDoor.Ch.Vd
open Go.RowKit
set_option maxRecDepth 100000
set_option maxHeartbeats 4000000 in
theorem refPlace_any {w : World} {c : CH} {eV vV sV tV : Value} {sp : List SP} {tp : List TP} (h : ChM w c eV vV sV tV sp tp) (hl : sp.length <= 4611686018427387904) (N : ByteArray) :
 Calls Tryz.prog 92 #[chA c eV vV sV tV, .string N] w fun e w' => e = .returned (.int .i64 (placeC c.ss N.data.toList)) /\ Below w.heap.size w w' := by
 obtain ⟨M, hM, hMl⟩ := bstr_some c.nm;have hR := h.ss; have hd := h.sd; have hE := h.ssE;obtain ⟨⟨A1, k1, rfl⟩, ⟨A2, k2, rfl⟩, ⟨A3, k3, rfl⟩, ⟨A4, k4, rfl⟩⟩ := h.forms;unfold chA;rw [hM];generalize c.es.length = n1; generalize c.vs.length = n2; generalize tp.length = n4;have HP : Hid (placeC c.ss N.data.toList = ixP (isS N.data.toList) (sp.map Prod.fst) 0) := by show _ = _; rw [<- hE]; rfl
 have HR := Lib.hid hR; have HD := Lib.hid hd;have HML : Hid ((sp.map Prod.fst).length = sp.length) := List.length_map ..;obtain ⟨n3, hn3⟩ : ∃ n, sp.length = n := ⟨_, rfl⟩
 have HN3 := Lib.hid hn3;rw [hn3] at hl HR HML ⊢;clear hn3;obtain ⟨w1, hw1⟩ : ∃ W, W = w.alloc (.cells #[.string M, .slice A1 n1 k1, .slice A2 n2 k2, .slice A3 n3 k3, .slice A4 n4 k4] 27) := ⟨_, rfl⟩
 have hb1 : Below w.heap.size w w1 := hw1 ▸ (Below.refl _ _).alloc (Nat.le_refl _) _;have hz : w.heap.size < w1.heap.size := by rw [hw1]; simp
 have d3 : w1.cell? ⟨w.heap.size, 3, none⟩ = some (.slice A3 n3 k3) := by rw [hw1]; simp
 have HW := Lib.hid hw1; have HB := Lib.hid hb1; have HD3 := Lib.hid d3; have HZ := Lib.hid hz;clear h hM hMl hR hd hE hw1 hb1 d3 hz
 go_enter Tryz.func92, Tryz.ntmps92
 go_wp2_with fail
 rw [<- HW.out];go_wp2
 go_loopw [4, 5] (fun x4 i wr => x4 = .int .i64 0 /\ ∃ k : Nat, k <= n3 /\ i = .int .i64 k /\ Hid (ixP (isS N.data.toList) ((sp.map Prod.fst).drop k) k = ixP (isS N.data.toList) (sp.map Prod.fst) 0) /\ Below w1.heap.size w1 wr) (fun _ x _ => n3 - (intOf x).toNat)
 case atStart => exact ⟨rfl, 0, by omega, rfl, rfl, Below.refl _ _⟩
 case round =>
  obtain ⟨rfl, k, hk, rfl, HI, hb⟩ := hrel;have d3 := (hb.cell HZ.out).trans HD3.out;have HBL := Lib.hid (HB.out.trans (hb.mono (Nat.le_of_lt HZ.out)));by_cases hkn : k < n3
  ·obtain ⟨b, o, X, Y, A4, m4, c4, A5, m5, c5, rfl, _, hX, _, _, _, _, _, e0, _⟩ := st_at (HR.out.below HBL.out) HN3.out (fun p hp => (HD.out p hp).below HBL.out) (k := k) (by rw [HN3.out]; exact hkn);have hst := ix_step (p := isS N.data.toList) (l := sp.map Prod.fst) (k := k) (by rw [HML.out]; exact hkn);rw [HI.out] at hst;have hiv : isS N.data.toList ((sp.map Prod.fst)[k]'(by rw [HML.out]; exact hkn)) = decide (X.data.toList = N.data.toList) := by rw [hX, List.getElem_map]; rfl
   rw [hiv] at hst;have HB2 := Lib.hid hb;clear hX hb hiv;by_cases he : X.data.toList = N.data.toList
   ·have hr : ixP (isS N.data.toList) (sp.map Prod.fst) 0 = k := by rw [hst, if_pos (by simp [he])]
    have HRR := Lib.hid hr;obtain rfl := str_eq he;clear hst hr he HI;go_wp2;go_ret;exact ⟨ret_int (HRR.out.symm.trans HP.out.symm), HBL.out⟩
   ·have hr : ixP (isS N.data.toList) ((sp.map Prod.fst).drop (k + 1)) (k + 1) = ixP (isS N.data.toList) (sp.map Prod.fst) 0 := by rw [hst, if_neg (by simp [he])]
    have HRR := Lib.hid hr;have hne := str_ne he;have hne' := str_ne (Ne.symm he);clear hst hr he HI;go_wp2
    go_roundw
    case rel => exact ⟨rfl, k + 1, by omega, by go_num, HRR.out, HB2.out⟩
    case measure => simp [intOf]; omega
  ·have hr : ixP (isS N.data.toList) (sp.map Prod.fst) 0 = -1 := by rw [<- HI.out, ix_end (by rw [HML.out]; exact hkn)]
   have HRR := Lib.hid hr;clear hr HI;go_wp2;go_ret;exact ⟨ret_int (HRR.out.symm.trans HP.out.symm), HBL.out⟩
end Go.Proofs.YtcnfcililiehlaaGreatDoor.Ch.Vd
namespace Go.Proofs.YtcnfcililiehlaaGreatDoor.Ch.Vd
open Go.RowKit
set_option maxRecDepth 100000
def ApartK (l : List (List UInt8)) (k : Nat) : Prop := ∀ a b (ha : a < l.length) (hb : b < l.length), a < k -> b < a -> l[a] ≠ l[b]
theorem apart_all {l : List (List UInt8)} {k : Nat} (h : ApartK l k) (hk : ¬ k < l.length) : (!apartL l) = false := by
 have : l.Nodup := by
  rw [List.Nodup, List.pairwise_iff_getElem];intro i j hi hj hij e;exact h j i hj hi (by omega) hij e.symm
 unfold apartL;rw [decide_eq_true this]; rfl
theorem apart_not {l : List (List UInt8)} {a b : Nat} (ha : a < l.length) (hb : b < a) (h : l[a] = l[b]'(Nat.lt_trans hb ha)) : (!apartL l) = true := by
 have : ¬ l.Nodup := by
  rw [List.Nodup, List.pairwise_iff_getElem];intro e;exact e b a (Nat.lt_trans hb ha) ha hb h.symm
 unfold apartL;rw [decide_eq_false this]; rfl
set_option maxHeartbeats 4000000 in
theorem refTwice_any (v : Value) (l : List (List UInt8)) (w : World) (hR : RdW w v l) (hl : l.length <= 4611686018427387904) :
 Calls Tryz.prog 56 #[v] w fun e w' => e = .returned (.bool (!apartL l)) /\ Below w.heap.size w w' := by
 obtain ⟨A, c, rfl⟩ := hR.form;have HR := Lib.hid hR; clear hR;obtain ⟨n, hn⟩ : ∃ n, l.length = n := ⟨_, rfl⟩
 have HN := Lib.hid hn;rw [hn] at hl HR ⊢;have HA : Hid (∀ k, ApartK l k -> ¬ k < n -> (!apartL l) = false) := fun k h hk => apart_all h (by rw [HN.out]; exact hk)
 clear hn
 go_enter Tryz.func56, Tryz.ntmps56
 go_wp2
 go_loopw [2, 3, 4] (fun x2 x3 _ wr => x2 = .bool false /\ ∃ k m : Nat, k <= n /\ x3 = .int .i64 k /\ Hid (ApartK l k) /\ wr = w.drewN m) (fun _ x _ _ => n - (intOf x).toNat)
 case atStart => exact ⟨rfl, 0, 0, by omega, rfl, fun a b _ _ h _ => by omega, rfl⟩
 case round =>
  obtain ⟨rfl, k, m, hk, rfl, HK, rfl⟩ := hrel;by_cases hkn : k < n
  ·have hkl : k < l.length := by rw [HN.out]; exact hkn
   obtain ⟨b, o, rfl, _, hc⟩ := HR.out.at_ hkl;obtain ⟨X, hX, hXl⟩ := bstr_some l[k];rw [hX] at hc;have HX := Lib.hid hXl;clear hX hXl;go_wp2
   go_loopw [2, 4] (fun x2 x4 wr => x2 = .bool false /\ ∃ j q : Nat, j <= k /\ x4 = .int .i64 j /\ Hid (∀ a (ha : a < l.length), a < j -> l[k] ≠ l[a]) /\ wr = w.drewN q) (fun _ x _ => k - (intOf x).toNat)
   case atStart => exact ⟨rfl, 0, m, by omega, rfl, fun a _ h => by omega, rfl⟩
   case round =>
    obtain ⟨rfl, j, q, hj, rfl, HJ, rfl⟩ := hrel;by_cases hjk : j < k
    ·have hjl : j < l.length := by omega
     obtain ⟨b2, o2, hA, _, hd⟩ := HR.out.at_ hjl;simp only [Option.some.injEq, Addr.mk.injEq, and_true] at hA;obtain ⟨rfl, rfl⟩ := hA;obtain ⟨Y, hY, hYl⟩ := bstr_some l[j];rw [hY] at hd;have hkn0 : (k : Int) < (n : Int) := by omega
     have hjn0 : (j : Int) < (n : Int) := by omega
     by_cases he : X.data.toList = Y.data.toList
     ·have HRR := Lib.hid (apart_not hkl hjk (by rw [<- HX.out, <- hYl]; exact he));obtain rfl := str_eq he;clear he hY hYl HJ;go_wp2
      go_quiet (fail)
      go_wp2;go_ret;exact ⟨ret_bool HRR.out.symm, below_drewN (below_drewN (Below.refl _ _) _) _⟩
     ·have HJ2 : Hid (∀ a (ha : a < l.length), a < j + 1 -> l[k] ≠ l[a]) := fun a ha h => by
       by_cases haj : a = j
       ·subst haj; rw [<- HX.out, <- hYl]; exact he
       ·exact HJ.out a ha (by omega)
      have hne := str_ne he;have hne' := str_ne (Ne.symm he);clear he hY hYl HJ;go_wp2
      go_quiet (fail)
      go_wp2
      go_roundw
      case rel => exact ⟨rfl, j + 1, q + nq, by omega, by go_num, HJ2, (by first | rfl | exact World.drewN_drewN _ _ _)⟩
      case measure => simp [intOf]; omega
    ·obtain rfl : j = k := by omega
     have HK2 : Hid (ApartK l (j + 1)) := fun a b ha hb h1 h2 => by
      by_cases haj : a = j
      ·subst haj; exact HJ.out b hb h2
      ·exact HK.out a b ha hb (by omega) h2
     clear HJ HK;go_wp2
     go_roundw
     case rel => exact ⟨rfl, j + 1, q, by omega, by go_num, HK2, rfl⟩
     case measure => simp [intOf]; omega
  ·have HRR := Lib.hid (HA.out k HK.out hkn);go_wp2;go_ret;exact ⟨ret_bool HRR.out.symm, below_drewN (Below.refl _ _) _⟩
set_option maxHeartbeats 4000000 in
theorem refSpelled_any (hNm : ∀ (s : ByteArray) (w : World), Calls Tryz.prog 53 #[.string s] w fun e w' => e = .returned (.bool (nameB s.data.toList)) /\ Below w.heap.size w w')
 (v : Value) (l : List (List UInt8)) (w : World) (hR : RdW w v l) (hl : l.length <= 4611686018427387904) :
 Calls Tryz.prog 54 #[v] w fun e w' => e = .returned (.bool (l.all nameB)) /\ Below w.heap.size w w' := by
 obtain ⟨A, c, rfl⟩ := hR.form;have HR := Lib.hid hR; clear hR;have HNM := Lib.hid hNm; clear hNm;obtain ⟨n, hn⟩ : ∃ n, l.length = n := ⟨_, rfl⟩
 have HN := Lib.hid hn;rw [hn] at hl HR ⊢;clear hn
 go_enter Tryz.func54, Tryz.ntmps54
 go_wp2
 go_loopw [2, 3] (fun x1 x2 wr => x1 = .bool false /\ ∃ k : Nat, k <= n /\ x2 = .int .i64 k /\ Hid (∀ a (ha : a < l.length), a < k -> nameB l[a] = true) /\ Hid (Below w.heap.size w wr)) (fun _ x _ => n - (intOf x).toNat)
 case atStart => exact ⟨rfl, 0, by omega, rfl, fun a _ h => by omega, Below.refl _ _⟩
 case round =>
  obtain ⟨rfl, k, hk, rfl, HK, HB⟩ := hrel;obtain ⟨wl, hwl⟩ : ∃ W, W = wr := ⟨_, rfl⟩
  subst hwl;by_cases hkn : k < n
  ·have hkl : k < l.length := by rw [HN.out]; exact hkn
   obtain ⟨b, o, rfl, hlt, hc0⟩ := HR.out.at_ hkl;obtain ⟨X, hX, hXl⟩ := bstr_some l[k];rw [hX] at hc0;have hc := (HB.out.cell hlt).trans hc0;have HX := Lib.hid hXl;have HNX := Lib.hid (HNM.out X wl);clear hX hXl hc0 hlt;by_cases he : nameB X.data.toList = true
   ·have HK2 : Hid (∀ a (ha : a < l.length), a < k + 1 -> nameB l[a] = true) := fun a ha h => by
     by_cases haj : a = k
     ·subst haj; rw [<- HX.out]; exact he
     ·exact HK.out a ha (by omega)
    clear HK
    go_wp2_with fail
    refine HNX.out.mono ?_;rintro e w2 ⟨rfl, hb2⟩;have HB2 := Lib.hid (HB.out.trans (hb2.mono HB.out.size));rw [he];clear hb2 he;go_wp2
    go_roundw
    case rel => exact ⟨rfl, k + 1, by omega, by go_num, HK2, HB2⟩
    case measure => simp [intOf]; omega
   ·have he' : nameB X.data.toList = false := by simpa using he
    have HRR : Hid (l.all nameB = false) := by
     show _ = _;rw [List.all_eq_false];exact ⟨l[k], List.getElem_mem hkl, by rw [<- HX.out]; exact he⟩
    clear HK he
    go_wp2_with fail
    refine HNX.out.mono ?_;rintro e w2 ⟨rfl, hb2⟩;have HB2 := Lib.hid (HB.out.trans (hb2.mono HB.out.size));rw [he'];clear hb2 he';go_wp2;go_ret;exact ⟨ret_bool HRR.out.symm, HB2.out⟩
  ·have HRR : Hid (l.all nameB = true) := by
    show _ = _;rw [List.all_eq_true];intro x hx;obtain ⟨i, hi, rfl⟩ := List.mem_iff_getElem.1 hx;exact HK.out i hi (by rw [HN.out] at hi; omega)
   go_wp2;go_ret;exact ⟨ret_bool HRR.out.symm, HB.out⟩
end Go.Proofs.YtcnfcililiehlaaGreatDoor.Ch.Vd
namespace Go.Proofs.YtcnfcililiehlaaGreatDoor.Ch.Vd
open Go.RowKit
set_option maxRecDepth 100000
def nmB (all : Bool) (s : SC) : Bool := all || !decide (Tr.pastP s.kd)
def nmL (all : Bool) (ss : List SC) : List (List UInt8) := (ss.filter (nmB all)).map SC.nm
theorem nmL_all (c : CH) : nmL true c.ss = stN c := by
 unfold nmL stN nmB;rw [List.filter_eq_self.2 (fun _ _ => by rfl)]
theorem nmL_some (c : CH) : nmL false c.ss = nhC c.ss := by unfold nmL nhC nmB; rfl
theorem nmL_step {all : Bool} {ss : List SC} {k : Nat} (hk : k < ss.length) : nmL all (ss.take (k + 1)) = if nmB all ss[k] = true then nmL all (ss.take k) ++ [ss[k].nm] else nmL all (ss.take k) := by
 unfold nmL;rw [List.take_succ_eq_append_getElem hk, List.filter_append, List.map_append];by_cases h : nmB all ss[k] = true
 ·rw [if_pos h, List.filter_cons_of_pos h]; rfl
 ·rw [if_neg h, List.filter_cons_of_neg h]; simp
theorem nmL_len (all : Bool) (ss : List SC) : (nmL all ss).length <= ss.length := by
 unfold nmL; rw [List.length_map]; exact List.length_filter_le _ _
theorem own_low9 {w : World} {B C : Nat} {e : TypeId} {s n : Nat} {v : Value} {xs : List Value} (h : w.ownsRow B e s v n xs) (hC : C <= B) : w.ownsRow C e s v n xs := by
 obtain ⟨h1, h | ⟨g, cap, cur, rfl, hg, r⟩⟩ := h
 ·exact ⟨h1, Or.inl h⟩
 ·exact ⟨h1, Or.inr ⟨g, cap, cur, rfl, Nat.le_trans hC hg, r⟩⟩
set_option maxHeartbeats 8000000 in
theorem refNames_any (hPa : ∀ (k : Int) (w : World), Calls Tryz.prog 36 #[.int .i64 k] w fun e w' => e = .returned (.bool (decide (Tr.pastP k))) /\ w = w')
 {w : World} {c : CH} {eV vV sV tV : Value} {sp : List SP} {tp : List TP} (h : ChM w c eV vV sV tV sp tp) (hsl : sp.length <= 1000000) (all : Bool) :
 Calls Tryz.prog 55 #[chA c eV vV sV tV, .bool all] w fun e w' => (∃ u, e = .returned u /\ w'.ownsRow w.heap.size 9 1 u (nmL all c.ss).length ((nmL all c.ss).map bstr)) /\ Below w.heap.size w w' := by
 obtain ⟨M, hM, hMl⟩ := bstr_some c.nm;have hR := h.ss; have hd := h.sd; have hE := h.ssE;obtain ⟨is, hs0, hs1, hs2, hs3⟩ := info_of infoStrS;have HS0 := Lib.hid hs0; have HS1 := Lib.hid hs1; have HS2 := Lib.hid hs2; have HS3 := Lib.hid hs3;obtain ⟨⟨A1, k1, rfl⟩, ⟨A2, k2, rfl⟩, ⟨A3, k3, rfl⟩, ⟨A4, k4, rfl⟩⟩ := h.forms;unfold chA;rw [hM];have HPA := Lib.hid hPa;have HSE : Hid (c.ss = sp.map Prod.fst) := hE.symm;have HR := Lib.hid hR; have HD := Lib.hid hd;have HSL : Hid (c.ss.length = sp.length) := by show _ = _; rw [<- hE, List.length_map]
 clear h hM hMl hR hd hE hs0 hs1 hs2 hs3 hPa;generalize c.es.length = n1; generalize c.vs.length = n2; generalize tp.length = n4;obtain ⟨n3, hn3⟩ : ∃ n, sp.length = n := ⟨_, rfl⟩
 have HN3 := Lib.hid hn3;rw [hn3] at hsl HR HSL ⊢;clear hn3;obtain ⟨w1, hw1⟩ : ∃ W, W = w.alloc (.cells #[.string M, .slice A1 n1 k1, .slice A2 n2 k2, .slice A3 n3 k3, .slice A4 n4 k4] 27) := ⟨_, rfl⟩
 have hb1 : Below w.heap.size w w1 := hw1 ▸ (Below.refl _ _).alloc (Nat.le_refl _) _;have hz : w.heap.size < w1.heap.size := by rw [hw1]; simp
 have d3 : w1.cell? ⟨w.heap.size, 3, none⟩ = some (.slice A3 n3 k3) := by rw [hw1]; simp
 have HW := Lib.hid hw1; have HB := Lib.hid hb1; have HD3 := Lib.hid d3; have HZ := Lib.hid hz;clear hw1 hb1 d3 hz
 go_enter Tryz.func55, Tryz.ntmps55
 go_wp2_with fail
 rw [<- HW.out];go_wp2
 go_loopw [5, 6] (fun xs i wr => ∃ k : Nat, k <= n3 /\ i = .int .i64 k /\ wr.ownsRow w1.heap.size 9 1 xs (nmL all (c.ss.take k)).length ((nmL all (c.ss.take k)).map bstr) /\ Below w1.heap.size w1 wr) (fun _ x _ => n3 - (intOf x).toNat)
 case atStart => exact ⟨0, by omega, rfl, World.ownsRow_nil _ _ _ _, Below.refl _ _⟩
 case round =>
  obtain ⟨k, hk, hi, hown, hbw⟩ := hrel;obtain ⟨L, hL⟩ : ∃ L, nmL all (c.ss.take k) = L := ⟨_, rfl⟩
  rw [hL] at hown;have HL := Lib.hid hL;subst hi;obtain ⟨wl, hwl⟩ : ∃ W, W = wr := ⟨_, rfl⟩
  subst hwl;obtain ⟨As, cs, es⟩ := own_slice hown;subst es;have HBW := Lib.hid hbw; have HOW := Lib.hid hown;have hLl : L.length <= 1000000 := by
   have := nmL_len all (c.ss.take k);rw [hL, List.length_take] at this;have := HSL.out;omega
  have d3 := (hbw.cell HZ.out).trans HD3.out;clear hown hL hbw;by_cases hkn : k < n3
  ·have hks : k < c.ss.length := by rw [HSL.out]; exact hkn
   have hst := nmL_step (all := all) hks;rw [HL.out] at hst;obtain ⟨b, o, X, Y, A5, n5, c5, A6, n6, c6, rfl, _, hX, _, _, _, _, _, e0, e1, _⟩ := st_at (HR.out.below (HB.out.trans (HBW.out.mono HB.out.size))) HN3.out (fun p hp => ((HD.out p hp).below HB.out).below HBW.out) (k := k) (by rw [HN3.out]; exact hkn);have hse : c.ss[k] = (sp[k]'(by rw [HN3.out]; exact hkn)).1 := by
    have : c.ss[k]? = (sp.map Prod.fst)[k]? := by rw [HSE.out]
    rw [List.getElem?_eq_getElem hks, List.getElem?_map, List.getElem?_eq_getElem (by rw [HN3.out]; exact hkn)] at this;exact Option.some.inj this
   rw [hse, <- hX] at hst;obtain ⟨kd, hkd⟩ : ∃ x, (sp[k]'(by rw [HN3.out]; exact hkn)).1.kd = x := ⟨_, rfl⟩
   unfold nmB at hst;rw [hkd] at e1 hst;have HST := Lib.hid hst;have HPK := Lib.hid (HPA.out kd wl);have hkk : (k : Int) < (n3 : Int) := by omega
   clear hst hX hse hkd hks;have HIN : Hid (Inn (wl.alloc (.cells #[.string X] 9)) 1 (.slice (some ⟨wl.heap.size, 0, none⟩) 1 1) 1 [.string X]) := Inn.of_own (Oz.own_laid (B := 0) (size := 1) wl #[.string X] (Nat.zero_le _) (by decide) rfl);have hsz := HBW.out.size;obtain ⟨pp, hpp⟩ : ∃ b, decide (Tr.pastP kd) = b := ⟨_, rfl⟩
   rw [hpp] at HPK HST;clear hpp;cases all with
   | true =>
    have HTK : Hid (nmL true (c.ss.take (k + 1)) = L ++ [X.data.toList]) := by show _ = _; rw [HST.out]; rfl
    clear HST HPK
    go_wp2_with (at_builtin; refine Ow.wpList_append rfl (.tmp 25) (.tmp 32) 22 rfl w1.heap.size 9 is _ 1 16 Tryz.underlying22 HS0.out HS1.out HS2.out HS3.out rfl (by decide) _ L.length (L.map bstr) rfl (HOW.out.alloc _) _ 1 [.string X] rfl HIN.out (by intro u hu; simp at hu; subst hu; rfl) (by unfold maxLen; omega) (by omega) (by simp; omega) ?_)
    intro v5 w5 ho5 hg5 _;obtain ⟨hr, hb⟩ := nm_push HBW.out ((Below.refl wl.heap.size wl).alloc (Nat.le_refl _) (.cells #[.string X] 9)) HOW.out (x := X.data.toList) (by rw [bstr_of]; exact ho5) hg5;rw [<- HTK.out] at hr;have HR5 := Lib.hid hr; have HB5 := Lib.hid hb;clear ho5 hg5 hr hb;go_wp2
    go_roundw
    case rel => exact ⟨k + 1, by omega, by go_num, HR5.out, HB5.out⟩
    case measure => simp [intOf] <;> omega
   | false =>
    cases pp with
    | true =>
     have HTK : Hid (nmL false (c.ss.take (k + 1)) = L) := by show _ = _; rw [HST.out]; rfl
     clear HST
     go_wp2_with fail
     refine HPK.out.mono ?_;rintro e w2 ⟨rfl, rfl⟩;go_wp2
     go_roundw
     case rel => exact ⟨k + 1, by omega, by go_num, by rw [HTK.out]; exact HOW.out, HBW.out⟩
     case measure => simp [intOf] <;> omega
    | false =>
     have HTK : Hid (nmL false (c.ss.take (k + 1)) = L ++ [X.data.toList]) := by show _ = _; rw [HST.out]; rfl
     clear HST
     go_wp2_with fail
     refine HPK.out.mono ?_;rintro e w2 ⟨rfl, rfl⟩
     go_wp2_with (at_builtin; refine Ow.wpList_append rfl (.tmp 25) (.tmp 32) 22 rfl w1.heap.size 9 is _ 1 16 Tryz.underlying22 HS0.out HS1.out HS2.out HS3.out rfl (by decide) _ L.length (L.map bstr) rfl (HOW.out.alloc _) _ 1 [.string X] rfl HIN.out (by intro u hu; simp at hu; subst hu; rfl) (by unfold maxLen; omega) (by omega) (by simp; omega) ?_)
     intro v5 w5 ho5 hg5 _;obtain ⟨hr, hb⟩ := nm_push HBW.out ((Below.refl wl.heap.size wl).alloc (Nat.le_refl _) (.cells #[.string X] 9)) HOW.out (x := X.data.toList) (by rw [bstr_of]; exact ho5) hg5;rw [<- HTK.out] at hr;have HR5 := Lib.hid hr; have HB5 := Lib.hid hb;clear ho5 hg5 hr hb;go_wp2
     go_roundw
     case rel => exact ⟨k + 1, by omega, by go_num, HR5.out, HB5.out⟩
     case measure => simp [intOf] <;> omega
  ·obtain rfl : k = n3 := by omega
   have HU : Hid (wl.ownsRow w1.heap.size 9 1 (.slice As L.length cs) (nmL all c.ss).length ((nmL all c.ss).map bstr)) := by
    have := HOW.out;show World.ownsRow _ _ _ _ _ _ _;rw [<- HL.out, List.take_of_length_le (by rw [HSL.out]; exact Nat.le_refl _)] at this ⊢;exact this
   generalize L.length = nv at *
   go_wp2;go_ret;exact ⟨⟨_, rfl, own_low9 HU.out (Nat.le_of_lt HZ.out)⟩, HB.out.trans (HBW.out.mono HB.out.size)⟩
end Go.Proofs.YtcnfcililiehlaaGreatDoor.Ch.Vd
namespace Go.Proofs.YtcnfcililiehlaaGreatDoor.Ch.Vd
open Go.RowKit
set_option maxRecDepth 100000
theorem hold_may {v : VM} {x : VA} (h : x.kd = v.kd) : holdB v x = mayB (vm v) x := by
 unfold holdB mayB vm;rw [h, decide_eq_true rfl, Bool.true_and];by_cases h1 : v.lo <= x.a <;> by_cases h2 : x.a <= v.hi <;> by_cases h3 : v.lo <= x.b <;> by_cases h4 : x.b <= v.hi <;> simp [h1, h2, h3, h4]
theorem varE_of {v : VM} {k : Int} (hk : v.kd = k) (h1 : 1 <= k /\ k <= 3) (hi : v.ik = k) : varE v = unE (bndB v && (rightV (inV v) && mayB (vm v) (inV v))) 5 := by
 unfold varE;rw [if_neg (by rw [hk, hi]; rintro (h | h); exact h h1; exact h rfl), hold_may (v := v) (x := inV v) (by show v.ik = v.kd; rw [hk, hi])]
theorem varE_bad {v : VM} {k : Int} (hk : v.kd = k) (h1 : 1 <= k /\ k <= 3) (hi : v.ik = k) (hb : bndB v = false) : varE v = 5 := by rw [varE_of hk h1 hi, hb]; rfl
theorem varE_right {v : VM} {k : Int} (hk : v.kd = k) (h1 : 1 <= k /\ k <= 3) (hi : v.ik = k) (hb : rightV (inV v) = false) : varE v = 5 := by rw [varE_of hk h1 hi, hb, Bool.false_and, Bool.and_false]; rfl
theorem varE_may {v : VM} {k : Int} (hk : v.kd = k) (h1 : 1 <= k /\ k <= 3) (hi : v.ik = k) (hb : mayB (vm v) (inV v) = false) : varE v = 5 := by rw [varE_of hk h1 hi, hb, Bool.and_false, Bool.and_false]; rfl
theorem varE_good {v : VM} {k : Int} (hk : v.kd = k) (h1 : 1 <= k /\ k <= 3) (hi : v.ik = k) (hb : bndB v = true) (hr : rightV (inV v) = true) (hm : mayB (vm v) (inV v) = true) : varE v = 0 := by rw [varE_of hk h1 hi, hb, hr, hm]; rfl
theorem bnd_1 {v : VM} (h : v.kd = 1) : bndB v = true ↔ ¬ v.hi < v.lo /\ ¬ v.lo < -1099511627776 /\ ¬ 1099511627776 < v.hi := by
 unfold bndB; rw [h, if_neg (by decide), if_neg (by decide)];simp only [Bool.and_eq_true, decide_eq_true_eq]; omega
theorem bnd_3 {v : VM} (h : v.kd = 3) : bndB v = true ↔ ¬ v.hi < v.lo /\ ¬ v.lo < -1048576 /\ ¬ 1048576 < v.hi := by
 unfold bndB; rw [h, if_neg (by decide), if_pos rfl];simp only [Bool.and_eq_true, decide_eq_true_eq]; omega
theorem bnd_2 {v : VM} (h : v.kd = 2) : bndB v = true ↔ v.lo = 0 /\ v.hi = 1 := by
 unfold bndB; rw [h, if_pos rfl];simp only [Bool.and_eq_true, decide_eq_true_eq]
set_option maxHeartbeats 8000000 in
theorem refVariable_any (hRt : ∀ (x : VA) (w : World), Calls Tryz.prog 93 #[.agg #[.int .i64 x.kd, .int .i64 x.a, .int .i64 x.b]] w fun e w' => e = .returned (.bool (rightV x)) /\ Below w.heap.size w w')
 (hFt : ∀ (x : KV) (X : ByteArray) (y : VA) (w : World), Calls Tryz.prog 94 #[.agg #[.string X, .int .i64 x.kd, .int .i64 x.lo, .int .i64 x.hi, .int .i64 x.ik, .int .i64 x.ia, .int .i64 x.ib], .agg #[.int .i64 y.kd, .int .i64 y.a, .int .i64 y.b]] w fun e w' => e = .returned (.bool (mayB x y)) /\ Below w.heap.size w w')
 (v : VM) (X : ByteArray) (w : World) : Calls Tryz.prog 59 #[vaA X v] w fun e w' => e = .returned (.int .i64 (varE v)) /\ Below w.heap.size w w' := by
 have HRT := Lib.hid (fun W => hRt (inV v) W);have HFT := Lib.hid (fun W => hFt (vm v) X (inV v) W);obtain ⟨rr, hrr⟩ : ∃ b, rightV (inV v) = b := ⟨_, rfl⟩
 obtain ⟨mm, hmm⟩ : ∃ b, mayB (vm v) (inV v) = b := ⟨_, rfl⟩
 have HV : Hid (∃ u : VM, u = v) := ⟨v, rfl⟩;have H8 : Hid (¬ (1 <= v.kd /\ v.kd <= 3) \/ v.ik ≠ v.kd -> varE v = 8) := fun h => by unfold varE; exact if_pos h
 have H5b : Hid (1 <= v.kd /\ v.kd <= 3 -> v.ik = v.kd -> bndB v = false -> varE v = 5) := fun h1 hi hb => varE_bad rfl h1 hi hb
 have H5r : Hid (1 <= v.kd /\ v.kd <= 3 -> v.ik = v.kd -> rr = false -> varE v = 5) := fun h1 hi hb => varE_right rfl h1 hi (hrr.trans hb)
 have H5m : Hid (1 <= v.kd /\ v.kd <= 3 -> v.ik = v.kd -> mm = false -> varE v = 5) := fun h1 hi hb => varE_may rfl h1 hi (hmm.trans hb)
 have H0 : Hid (1 <= v.kd /\ v.kd <= 3 -> v.ik = v.kd -> bndB v = true -> rr = true -> mm = true -> varE v = 0) := fun h1 hi hb hr hm => varE_good rfl h1 hi hb (hrr.trans hr) (hmm.trans hm)
 have B1 := Lib.hid (bnd_1 (v := v)); have B2 := Lib.hid (bnd_2 (v := v)); have B3 := Lib.hid (bnd_3 (v := v));rw [hrr] at HRT; rw [hmm] at HFT;clear hRt hFt hrr hmm HV;generalize varE v = res at *
 generalize bndB v = bb at *
 obtain ⟨nm, kd, lo, hi, ik, ia, ib⟩ := v;unfold vaA;unfold vm inV at *
 simp only at *
 obtain ⟨w1, hw1, hb1, hz1, d0, d1, d2, d3, d4, d5, d6⟩ := box_v w (.string X) (.int .i64 kd) (.int .i64 lo) (.int .i64 hi) (.int .i64 ik) (.int .i64 ia) (.int .i64 ib);have HT : Hid (∀ W, Below w1.heap.size w1 W -> W.cell? ⟨w.heap.size, 0, none⟩ = some (.string X) /\ W.cell? ⟨w.heap.size, 1, none⟩ = some (.int .i64 kd) /\ W.cell? ⟨w.heap.size, 2, none⟩ = some (.int .i64 lo) /\ W.cell? ⟨w.heap.size, 3, none⟩ = some (.int .i64 hi) /\ W.cell? ⟨w.heap.size, 4, none⟩ = some (.int .i64 ik) /\ W.cell? ⟨w.heap.size, 5, none⟩ = some (.int .i64 ia) /\ W.cell? ⟨w.heap.size, 6, none⟩ = some (.int .i64 ib)) := fun W hW =>
  ⟨(hW.cell (show w.heap.size < _ by omega)).trans d0, (hW.cell (show w.heap.size < _ by omega)).trans d1, (hW.cell (show w.heap.size < _ by omega)).trans d2, (hW.cell (show w.heap.size < _ by omega)).trans d3, (hW.cell (show w.heap.size < _ by omega)).trans d4, (hW.cell (show w.heap.size < _ by omega)).trans d5, (hW.cell (show w.heap.size < _ by omega)).trans d6⟩
 have HW := Lib.hid hw1; have HB := Lib.hid hb1;clear hw1 hb1 hz1;by_cases hk1 : kd = 1
 ·subst hk1;by_cases hi1 : ik = 1
  ·subst hi1;by_cases a1 : hi < lo
   ·have HF := Lib.hid (H5b.out ⟨by decide, by decide⟩ rfl (by cases bb; rfl; exact absurd (B1.out rfl |>.1 rfl) (by omega)));have q_a1 := decide_eq_true a1;clear H8 H5b H5r H5m H0 B1 B2 B3 HRT HFT HT
    go_enter Tryz.func59, Tryz.ntmps59
    go_wp2_with fail
    rw [<- HW.out];go_wp2;go_ret;exact ⟨ret_int HF.out.symm, HB.out⟩
   have q_a1 := decide_eq_false a1;by_cases a2 : lo < -1099511627776
   ·have HF := Lib.hid (H5b.out ⟨by decide, by decide⟩ rfl (by cases bb; rfl; exact absurd (B1.out rfl |>.1 rfl) (by omega)));have q_a2 := decide_eq_true a2;clear H8 H5b H5r H5m H0 B1 B2 B3 HRT HFT HT
    go_enter Tryz.func59, Tryz.ntmps59
    go_wp2_with fail
    rw [<- HW.out];go_wp2;go_ret;exact ⟨ret_int HF.out.symm, HB.out⟩
   have q_a2 := decide_eq_false a2;by_cases a3 : 1099511627776 < hi
   ·have HF := Lib.hid (H5b.out ⟨by decide, by decide⟩ rfl (by cases bb; rfl; exact absurd (B1.out rfl |>.1 rfl) (by omega)));have q_a3 := decide_eq_true a3;clear H8 H5b H5r H5m H0 B1 B2 B3 HRT HFT HT
    go_enter Tryz.func59, Tryz.ntmps59
    go_wp2_with fail
    rw [<- HW.out];go_wp2;go_ret;exact ⟨ret_int HF.out.symm, HB.out⟩
   have q_a3 := decide_eq_false a3
   go_enter Tryz.func59, Tryz.ntmps59
   go_wp2_with fail
   rw [<- HW.out]
   go_wp2_with fail
   refine (HRT.out _).mono ?_;rintro e w2 ⟨rfl, hb2⟩;have HB2 := Lib.hid hb2;clear hb2 d0 d1 d2 d3 d4 d5 d6;cases rr with
   | false =>
    have HF := Lib.hid (H5r.out (by first | trivial | decide) (by first | rfl | trivial) (by first | rfl | trivial));go_wp2;go_ret;exact ⟨ret_int HF.out.symm, HB.out.trans (HB2.out.mono HB.out.size)⟩
   | true =>
    obtain ⟨d0, d1, d2, d3, d4, d5, d6⟩ := HT.out _ HB2.out
    go_wp2_with fail
    refine (HFT.out _).mono ?_;rintro e w3 ⟨rfl, hb3⟩;have HB3 := Lib.hid (HB2.out.trans (hb3.mono HB2.out.size));clear hb3 d0 d1 d2 d3 d4 d5 d6;cases mm with
    | false =>
     have HF := Lib.hid (H5m.out (by first | trivial | decide) (by first | rfl | trivial) (by first | rfl | trivial));go_wp2;go_ret;exact ⟨ret_int HF.out.symm, HB.out.trans (HB3.out.mono HB.out.size)⟩
    | true =>
     have HF := Lib.hid (H0.out (by first | trivial | decide) (by first | rfl | trivial) (by first | exact (B1.out rfl).2 ⟨a1, a2, a3⟩ | exact B1.out.2 ⟨a1, a2, a3⟩ | exact (B1.out trivial).2 ⟨a1, a2, a3⟩) (by first | rfl | trivial) (by first | rfl | trivial));go_wp2;go_ret;exact ⟨ret_int HF.out.symm, HB.out.trans (HB3.out.mono HB.out.size)⟩
  ·have HF := Lib.hid (H8.out (Or.inr hi1));have q1 : (ik != 1) = true := bne_iff_ne.2 hi1;have q2 := int_ne hi1;clear H8 H5b H5r H5m H0 B1 B2 B3 HRT HFT HT
   go_enter Tryz.func59, Tryz.ntmps59
   go_wp2_with fail
   rw [<- HW.out];go_wp2;go_ret;exact ⟨ret_int HF.out.symm, HB.out⟩
 by_cases hk2 : kd = 2
 ·subst hk2;by_cases hi2 : ik = 2
  ·subst hi2;by_cases a1 : hi < lo
   ·have HF := Lib.hid (H5b.out ⟨by decide, by decide⟩ rfl (by cases bb; rfl; exact absurd (B2.out rfl |>.1 rfl) (by omega)));have q_a1 := decide_eq_true a1;clear H8 H5b H5r H5m H0 B1 B2 B3 HRT HFT HT
    go_enter Tryz.func59, Tryz.ntmps59
    go_wp2_with fail
    rw [<- HW.out];go_wp2;go_ret;exact ⟨ret_int HF.out.symm, HB.out⟩
   have q_a1 := decide_eq_false a1;by_cases a2 : lo < -1099511627776
   ·have HF := Lib.hid (H5b.out ⟨by decide, by decide⟩ rfl (by cases bb; rfl; exact absurd (B2.out rfl |>.1 rfl) (by omega)));have q_a2 := decide_eq_true a2;clear H8 H5b H5r H5m H0 B1 B2 B3 HRT HFT HT
    go_enter Tryz.func59, Tryz.ntmps59
    go_wp2_with fail
    rw [<- HW.out];go_wp2;go_ret;exact ⟨ret_int HF.out.symm, HB.out⟩
   have q_a2 := decide_eq_false a2;by_cases a3 : 1099511627776 < hi
   ·have HF := Lib.hid (H5b.out ⟨by decide, by decide⟩ rfl (by cases bb; rfl; exact absurd (B2.out rfl |>.1 rfl) (by omega)));have q_a3 := decide_eq_true a3;clear H8 H5b H5r H5m H0 B1 B2 B3 HRT HFT HT
    go_enter Tryz.func59, Tryz.ntmps59
    go_wp2_with fail
    rw [<- HW.out];go_wp2;go_ret;exact ⟨ret_int HF.out.symm, HB.out⟩
   have q_a3 := decide_eq_false a3;by_cases a4 : lo ≠ 0
   ·have HF := Lib.hid (H5b.out ⟨by decide, by decide⟩ rfl (by cases bb; rfl; exact absurd (B2.out rfl |>.1 rfl) (by omega)));have q_a4 := int_ne a4;have q_a4' : (lo != 0) = true := bne_iff_ne.2 a4;clear H8 H5b H5r H5m H0 B1 B2 B3 HRT HFT HT
    go_enter Tryz.func59, Tryz.ntmps59
    go_wp2_with fail
    rw [<- HW.out];go_wp2;go_ret;exact ⟨ret_int HF.out.symm, HB.out⟩
   obtain rfl : lo = 0 := by omega
   by_cases a5 : hi ≠ 1
   ·have HF := Lib.hid (H5b.out ⟨by decide, by decide⟩ rfl (by cases bb; rfl; exact absurd (B2.out rfl |>.1 rfl) (by omega)));have q_a5 := int_ne a5;have q_a5' : (hi != 1) = true := bne_iff_ne.2 a5;clear H8 H5b H5r H5m H0 B1 B2 B3 HRT HFT HT
    go_enter Tryz.func59, Tryz.ntmps59
    go_wp2_with fail
    rw [<- HW.out];go_wp2;go_ret;exact ⟨ret_int HF.out.symm, HB.out⟩
   obtain rfl : hi = 1 := by omega
   clear q_a1 q_a2 q_a3 a1 a2 a3
   go_enter Tryz.func59, Tryz.ntmps59
   go_wp2_with fail
   rw [<- HW.out]
   go_wp2_with fail
   refine (HRT.out _).mono ?_;rintro e w2 ⟨rfl, hb2⟩;have HB2 := Lib.hid hb2;clear hb2 d0 d1 d2 d3 d4 d5 d6;cases rr with
   | false =>
    have HF := Lib.hid (H5r.out (by first | trivial | decide) (by first | rfl | trivial) (by first | rfl | trivial));go_wp2;go_ret;exact ⟨ret_int HF.out.symm, HB.out.trans (HB2.out.mono HB.out.size)⟩
   | true =>
    obtain ⟨d0, d1, d2, d3, d4, d5, d6⟩ := HT.out _ HB2.out
    go_wp2_with fail
    refine (HFT.out _).mono ?_;rintro e w3 ⟨rfl, hb3⟩;have HB3 := Lib.hid (HB2.out.trans (hb3.mono HB2.out.size));clear hb3 d0 d1 d2 d3 d4 d5 d6;cases mm with
    | false =>
     have HF := Lib.hid (H5m.out (by first | trivial | decide) (by first | rfl | trivial) (by first | rfl | trivial));go_wp2;go_ret;exact ⟨ret_int HF.out.symm, HB.out.trans (HB3.out.mono HB.out.size)⟩
    | true =>
     have HF := Lib.hid (H0.out (by first | trivial | decide) (by first | rfl | trivial) (by first | exact (B2.out rfl).2 ⟨rfl, rfl⟩ | exact B2.out.2 ⟨rfl, rfl⟩ | exact (B2.out trivial).2 ⟨by first | rfl | trivial, by first | rfl | trivial⟩) (by first | rfl | trivial) (by first | rfl | trivial));go_wp2;go_ret;exact ⟨ret_int HF.out.symm, HB.out.trans (HB3.out.mono HB.out.size)⟩
  ·have HF := Lib.hid (H8.out (Or.inr hi2));have q1 : (ik != 2) = true := bne_iff_ne.2 hi2;have q2 := int_ne hi2;clear H8 H5b H5r H5m H0 B1 B2 B3 HRT HFT HT
   go_enter Tryz.func59, Tryz.ntmps59
   go_wp2_with fail
   rw [<- HW.out];go_wp2;go_ret;exact ⟨ret_int HF.out.symm, HB.out⟩
 by_cases hk3 : kd = 3
 ·subst hk3;by_cases hi3 : ik = 3
  ·subst hi3;by_cases a1 : hi < lo
   ·have HF := Lib.hid (H5b.out ⟨by decide, by decide⟩ rfl (by cases bb; rfl; exact absurd (B3.out rfl |>.1 rfl) (by omega)));have q_a1 := decide_eq_true a1;clear H8 H5b H5r H5m H0 B1 B2 B3 HRT HFT HT
    go_enter Tryz.func59, Tryz.ntmps59
    go_wp2_with fail
    rw [<- HW.out];go_wp2;go_ret;exact ⟨ret_int HF.out.symm, HB.out⟩
   have q_a1 := decide_eq_false a1;by_cases a2 : lo < -1048576
   ·have HF := Lib.hid (H5b.out ⟨by decide, by decide⟩ rfl (by cases bb; rfl; exact absurd (B3.out rfl |>.1 rfl) (by omega)));have q_a2 := decide_eq_true a2;clear H8 H5b H5r H5m H0 B1 B2 B3 HRT HFT HT
    go_enter Tryz.func59, Tryz.ntmps59
    go_wp2_with fail
    rw [<- HW.out];go_wp2;go_ret;exact ⟨ret_int HF.out.symm, HB.out⟩
   have q_a2 := decide_eq_false a2;by_cases a3 : 1048576 < hi
   ·have HF := Lib.hid (H5b.out ⟨by decide, by decide⟩ rfl (by cases bb; rfl; exact absurd (B3.out rfl |>.1 rfl) (by omega)));have q_a3 := decide_eq_true a3;clear H8 H5b H5r H5m H0 B1 B2 B3 HRT HFT HT
    go_enter Tryz.func59, Tryz.ntmps59
    go_wp2_with fail
    rw [<- HW.out];go_wp2;go_ret;exact ⟨ret_int HF.out.symm, HB.out⟩
   have q_a3 := decide_eq_false a3
   go_enter Tryz.func59, Tryz.ntmps59
   go_wp2_with fail
   rw [<- HW.out]
   go_wp2_with fail
   refine (HRT.out _).mono ?_;rintro e w2 ⟨rfl, hb2⟩;have HB2 := Lib.hid hb2;clear hb2 d0 d1 d2 d3 d4 d5 d6;cases rr with
   | false =>
    have HF := Lib.hid (H5r.out (by first | trivial | decide) (by first | rfl | trivial) (by first | rfl | trivial));go_wp2;go_ret;exact ⟨ret_int HF.out.symm, HB.out.trans (HB2.out.mono HB.out.size)⟩
   | true =>
    obtain ⟨d0, d1, d2, d3, d4, d5, d6⟩ := HT.out _ HB2.out
    go_wp2_with fail
    refine (HFT.out _).mono ?_;rintro e w3 ⟨rfl, hb3⟩;have HB3 := Lib.hid (HB2.out.trans (hb3.mono HB2.out.size));clear hb3 d0 d1 d2 d3 d4 d5 d6;cases mm with
    | false =>
     have HF := Lib.hid (H5m.out (by first | trivial | decide) (by first | rfl | trivial) (by first | rfl | trivial));go_wp2;go_ret;exact ⟨ret_int HF.out.symm, HB.out.trans (HB3.out.mono HB.out.size)⟩
    | true =>
     have HF := Lib.hid (H0.out (by first | trivial | decide) (by first | rfl | trivial) (by first | exact (B3.out rfl).2 ⟨a1, a2, a3⟩ | exact B3.out.2 ⟨a1, a2, a3⟩ | exact (B3.out trivial).2 ⟨a1, a2, a3⟩) (by first | rfl | trivial) (by first | rfl | trivial));go_wp2;go_ret;exact ⟨ret_int HF.out.symm, HB.out.trans (HB3.out.mono HB.out.size)⟩
  ·have HF := Lib.hid (H8.out (Or.inr hi3));have q1 : (ik != 3) = true := bne_iff_ne.2 hi3;have q2 := int_ne hi3;clear H8 H5b H5r H5m H0 B1 B2 B3 HRT HFT HT
   go_enter Tryz.func59, Tryz.ntmps59
   go_wp2_with fail
   rw [<- HW.out];go_wp2;go_ret;exact ⟨ret_int HF.out.symm, HB.out⟩
 have HF := Lib.hid (H8.out (Or.inl (by omega)));have q1 : (kd != 1) = true := bne_iff_ne.2 hk1;have r1 := int_ne hk1;have q2 : (kd != 2) = true := bne_iff_ne.2 hk2;have r2 := int_ne hk2;have q3 : (kd != 3) = true := bne_iff_ne.2 hk3;have r3 := int_ne hk3;clear H8 H5b H5r H5m H0 B1 B2 B3 HRT HFT HT
 go_enter Tryz.func59, Tryz.ntmps59
 go_wp2_with fail
 rw [<- HW.out];go_wp2;go_ret;exact ⟨ret_int HF.out.symm, HB.out⟩
end Go.Proofs.YtcnfcililiehlaaGreatDoor.Ch.Vd
