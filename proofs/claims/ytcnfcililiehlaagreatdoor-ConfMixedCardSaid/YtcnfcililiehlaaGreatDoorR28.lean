/- Own texts, joined: Bh. -/
import Derived.Test.YtcnfcililiehlaaGreatDoorR27
namespace Go.Proofs.YtcnfcililiehlaaGreatDoor.Ch
open Go.RowKit
set_option maxHeartbeats 1000000 in
theorem nnIndex_any (A : Option Addr) (n c : Nat) (r : List (List UInt8)) (w : World) (hn : r.length = n) (hR : Inn w 1 (.slice A n c) n (strsV r)) (hl : n <= 4611686018427387904) :
 Calls Tryz.prog 191 #[.slice A n c, .func (.func 102) #[] #[]] w fun e w' => e = .returned (.int .i64 (ixP (fun x => !nameB x) r 0)) /\ w' = w := by
 have hA : ∀ k, k < n -> ∃ q o, A = some ⟨q, o, none⟩ /\ w.cell? ⟨q, o + k, none⟩ = some (bstr (wd r k)) := fun k hk => by
  obtain ⟨q, o, e, _, hc⟩ := hR.at_ hk;have := hc 0 (bstr (wd r k)) (by simp [strsV, wd_at (show k < r.length by omega), show k < r.length by omega]);exact ⟨q, o, e, by simpa using this⟩
 have HA := Lib.hid hA; have HN := Lib.hid hn;clear hA hR hn
 go_enter Tryz.func191, Tryz.ntmps191
 go_wp2
 go_loopw [4, 5, 8] (fun x4 x5 i wr => x4 = .int .i64 0 /\ (x5 = .int .i64 0 \/ True) /\ ∃ k : Nat, k <= n /\ i = .int .i64 k /\ Hid (ixP (fun x => !nameB x) (r.drop k) k = ixP (fun x => !nameB x) r 0) /\ wr = w) (fun _ _ i _ => n - (intOf i).toNat)
 case atStart => exact ⟨rfl, Or.inr trivial, 0, by omega, rfl, rfl, rfl⟩
 case round =>
  obtain ⟨rfl, _, k, hk, rfl, HI, rfl⟩ := hrel;by_cases hkn : k < n
  ·have hst := ix_step (p := fun x => !nameB x) (l := r) (k := k) (by rw [HN.out]; exact hkn);rw [HI.out] at hst;obtain ⟨q, o, rfl, hc⟩ := HA.out k hkn;have hwx : wd r k = r[k]'(by rw [HN.out]; exact hkn) := wd_at _;obtain ⟨X, hX, hXl⟩ := bstr_some (wd r k);rw [hX] at hc;have HC := Lib.hid (isNoName_any X wr);rw [hXl] at HC;rw [<- hwx] at hst;clear hX hXl hwx;generalize wd r k = x at *
   by_cases he : (!nameB x) = true
   ·have hr : ixP (fun x => !nameB x) r 0 = k := by rw [hst, if_pos he]
    have HRR := Lib.hid hr;have HE := Lib.hid he;clear hst hr he HI
    go_wp2_with fail
    refine HC.out.mono ?_;rintro e w1 ⟨rfl, hb1⟩;obtain rfl := hb1;rw [HE.out];go_wp2;go_ret;exact ⟨ret_int HRR.out.symm, rfl⟩
   ·have hr : ixP (fun x => !nameB x) (r.drop (k + 1)) (k + 1) = ixP (fun x => !nameB x) r 0 := by rw [hst, if_neg he]
    have HRR := Lib.hid hr;have HE := Lib.hid ((Bool.not_eq_true _).mp he);clear hst hr he HI
    go_wp2_with fail
    refine HC.out.mono ?_;rintro e w1 ⟨rfl, hb1⟩;obtain rfl := hb1;rw [HE.out];go_wp2
    go_roundw
    case rel => exact ⟨rfl, Or.inr trivial, k + 1, by omega, by go_num, HRR.out, trivial⟩
    case measure => simp [intOf]; omega
  ·have hr : ixP (fun x => !nameB x) r 0 = -1 := by rw [<- HI.out, ix_end (by rw [HN.out]; exact hkn)]
   have HRR := Lib.hid hr;clear hr HI;go_wp2;go_ret;exact ⟨ret_int HRR.out.symm, rfl⟩
theorem nnContains_any (A : Option Addr) (c : Nat) (r : List (List UInt8)) (w : World) (hR : Inn w 1 (.slice A r.length c) r.length (strsV r)) (hl : r.length <= 4611686018427387904) :
 Calls Tryz.prog 153 #[.slice A r.length c, .func (.func 102) #[] #[]] w fun e w' => e = .returned (.bool (r.any fun x => !nameB x)) /\ w' = w := by
 have HI := Lib.hid (nnIndex_any A r.length c r w rfl hR hl);have HW := Lib.hid (ix_any (fun x => !nameB x) r);clear hR;generalize r.length = n at *
 go_enter Tryz.func153, Tryz.ntmps153
 go_wp2_with fail
 refine HI.out.mono ?_;rintro e w1 ⟨rfl, hb1⟩;obtain rfl := hb1;go_wp2;go_ret;refine ⟨?_, rfl⟩;rw [<- HW.out];rfl
set_option maxRecDepth 100000 in
set_option maxHeartbeats 8000000 in
theorem state1_any (k : Int) {b B : Nat} {w0 w : World} {c : CH} {eV vV sV tV : Value} {sp : List SP} {tp : List TP} (h : OwnCh b B 67 w0 c eV vV sV tV sp tp) (hw : Below w0.heap.size w0 w) (hB : Bdd 1000000 c) (d : Nat) (F : ByteArray) (A : Option Addr) (cp : Nat) (r : List (List UInt8)) (_hd : d <= 6000) (hrl : r.length <= 1000000)
 (hr : RestR w0 w A cp r) : Calls Tryz.prog 109 #[.pointer (some ⟨b, 0, none⟩), .agg #[.int .i64 d, .string F, .slice A r.length cp], .int .i64 k, .int .i64 1] w (MPost b B w (stateS k 1 c d r)) := by
 obtain ⟨w1, hw1⟩ : ∃ W, W = w.alloc (.cells #[.int .i64 d, .string F, .slice A r.length cp] 74) := ⟨_, rfl⟩
 have hb1 : Below w.heap.size w w1 := hw1 ▸ (Below.refl w.heap.size w).alloc (Nat.le_refl _) _;have d2 : w1.cell? ⟨w.heap.size, 2, none⟩ = some (.slice A r.length cp) := by rw [hw1]; simp
 have d0 : w1.cell? ⟨w.heap.size, 0, none⟩ = some (.int .i64 d) := by rw [hw1]; simp
 have hsz1 : w1.heap.size = w.heap.size + 1 := by rw [hw1]; simp
 have h1 := (h.below hw).below hb1;have hle0 := h.le;have hzw := hw.size;have HNW : Hid (∀ m, Calls Tryz.prog 48 #[.pointer (some ⟨b, 0, none⟩)] (w1.drewN m) fun e w' => e = .returned (.bool c.nm.isEmpty) /\ w' = w1.drewN m) := fun m => isNew_any (h1.below (below_drewN (Below.refl _ _) m))
 have HDE : Hid (∀ m, Calls Tryz.prog 152 #[.pointer (some ⟨b, 0, none⟩)] (w1.drewN m) fun e w' => e = .returned (.int .i64 (roomC c.ss)) /\ w' = w1.drewN m) := fun m => deepest_any (h1.below (below_drewN (Below.refl _ _) m)) hB
 have HCF : Hid (∀ m, Calls Tryz.prog 153 #[.slice A r.length cp, .func (.func 102) #[] #[]] (w1.drewN m) fun e w' => e = .returned (.bool (r.any fun x => !nameB x)) /\ w' = w1.drewN m) := fun m => nnContains_any A cp r _ (((hr.below hb1).below (below_drewN (Below.refl _ _) m)).inn) (by omega)
 have HR := Lib.hid (hr.below hb1); have H1 := Lib.hid h1; have HB1 := Lib.hid hb1; have HW := Lib.hid hw1; have HBd := Lib.hid hB;have HK1 : Hid (∀ m, KeptB b B w (w1.drewN m)) := fun m => KeptB.of_below (below_drewN hb1 m) (by omega)
 have HLT : Hid (∀ g, sV.ownBlock = some g -> g < w0.heap.size) := fun g hg => (h.ss.lt g hg).2
 have hv0 : stateS k 1 c d r = if (!c.nm.isEmpty && decide ((d : Int) <= roomC c.ss) && decide (r.length = 1) && !(r.any fun x => !nameB x)) = true then some { c with ss := c.ss ++ [⟨wd r 0, k, d, [], [], []⟩] } else none := by
  have e : r.all nameB = !(r.any fun x => !nameB x) := by simp [List.any_eq_not_all_not]
  unfold stateS stateB; rw [e]; rfl
 have HV0 := Lib.hid hv0;have hss := hB.ss;have hsl := SP.len h.ssE;have hs6 : sp.length <= 1000000 := by omega
 obtain ⟨ie, hi0, hi1, hi2, hi3⟩ := info_of Tryz.infoState;have HE0 := Lib.hid hi0; have HE1 := Lib.hid hi1; have HE2 := Lib.hid hi2; have HE3 := Lib.hid hi3;clear h hw hB h1 hr hb1 hw1 hv0 hi0 hi1 hi2 hi3 hss hsl;generalize c.nm.isEmpty = nw at *
 generalize roomC c.ss = rm at *
 generalize (r.any fun x => !nameB x) = an at *
 obtain ⟨rl, hrl2⟩ : ∃ n, r.length = n := ⟨_, rfl⟩
 have HRL := Lib.hid hrl2;rw [hrl2] at HV0 HW HCF d2 ⊢;clear hrl2 hrl
 go_enter Tryz.func109, Tryz.ntmps109
 go_wp2_with fail
 rw [<- HW.out];cases nw with
 | true =>
  have hv : stateS k 1 c d r = none := by rw [HV0.out]; simp
  have HV := Lib.hid hv;clear hv
  go_big_quiet (first | (go_at_call 48; exact quiet_at (HNW.out _)) | (go_at_call 152; exact quiet_at (HDE.out _)) | (go_at_call 153; exact quiet_at (HCF.out _)))
  go_wp2;go_ret;exact MPost.no HV.out (HK1.out _)
 | false =>
  by_cases h2 : (d : Int) <= rm
  ·have q2 : decide (rm < (d : Int)) = false := decide_eq_false (by omega);by_cases h3 : rl = 1
   ·subst h3;cases an with
    | true =>
     have hv : stateS k 1 c d r = none := by rw [HV0.out]; simp
     have HV := Lib.hid hv;clear hv
     go_big_quiet (first | (go_at_call 48; exact quiet_at (HNW.out _)) | (go_at_call 152; exact quiet_at (HDE.out _)) | (go_at_call 153; exact quiet_at (HCF.out _)))
     go_wp2;go_ret;exact MPost.no HV.out (HK1.out _)
    | false =>
    obtain ⟨q, o, rfl, hq0, hq2, hc⟩ := HR.out.all (by have := HRL.out; omega);obtain ⟨X0, hX0, hX0l⟩ := bstr_some (wd r 0);have c0 := hc 0 (by have := HRL.out; omega);rw [hX0, Nat.add_zero] at c0;have hv : stateS k 1 c d r = some { c with ss := c.ss ++ [⟨X0.data.toList, k, d, [], [], []⟩] } := by rw [HV0.out, decide_eq_true h2, decide_eq_true rfl, hX0l]; rfl
    have HV := Lib.hid hv;clear hv hc hX0 hX0l h2
    go_big_quiet (first | (go_at_call 48; exact quiet_at (HNW.out _)) | (go_at_call 152; exact quiet_at (HDE.out _)) | (go_at_call 153; exact quiet_at (HCF.out _)))
    obtain ⟨w2, hw2⟩ : ∃ W, W = w1.drewN nq := ⟨_, rfl⟩
    have HO := Lib.hid (H1.out.below (below_drewN (Below.refl _ _) nq));have HK := Lib.hid (HK1.out nq);replace d0 : w2.cell? ⟨w.heap.size, 0, none⟩ = some (.int .i64 d) := by rw [hw2]; exact d0
    replace d2 : w2.cell? ⟨w.heap.size, 2, none⟩ = some (.slice (some ⟨q, o, none⟩) 1 cp) := by rw [hw2]; exact d2
    replace c0 : w2.cell? ⟨q, o, none⟩ = some (.string X0) := by rw [hw2]; exact c0
    skip
    have hzz : w1.heap.size = w2.heap.size := by rw [hw2]; rfl
    rw [<- hw2] at HO HK;have HW2 := Lib.hid hw2;clear hw2
    go_wp2_with fail
    rw [<- HW2.out];refine Oz.region_own' 58 [Ow.eqR (.pointer (some ⟨w.heap.size, 2, none⟩)), Ow.eqR (.slice (some ⟨q, o, none⟩) 1 cp), Ow.eqR (.pointer (some ⟨q, o, none⟩)), Ow.eqR (.string X0), Ow.eqR (.int .i64 k), Ow.eqR (.pointer (some ⟨w.heap.size, 0, none⟩)), Ow.eqR (.int .i64 d), Ow.eqR (.agg #[.string X0, .int .i64 k, .int .i64 d, .string ByteArray.empty, .slice none 0 0, .slice none 0 0]), Oz.BoxR (w2.heap.size) 50 #[.string ByteArray.empty, .int .i64 0, .int .i64 0, .string ByteArray.empty, .slice none 0 0, .slice none 0 0], Oz.BoxR (w2.heap.size) 50 #[.string X0, .int .i64 k, .int .i64 d, .string ByteArray.empty, .slice none 0 0, .slice none 0 0]] [false, false, false, false, false, false, false, false, true, true] [none, none, none, none, none, none, none, none, none, some 8] (by kernel_rfl) rfl (by kernel_rfl) ⟨Oz.keeps_eq _ _, Oz.keeps_eq _ _, Oz.keeps_eq _ _, Oz.keeps_eq _ _, Oz.keeps_eq _ _, Oz.keeps_eq _ _, Oz.keeps_eq _ _, Oz.keeps_eq _ _, Oz.keeps_box _ _ _, Oz.keeps_box _ _ _, trivial⟩ ?_;refine Oz.walk_q ?_ fun x31 => ?_
    ·intro w1 hb hu hd ho K hK;clear hu hd ho;go_simp;exact hK _ _ (Oz.good_same rfl rfl rfl)
    refine Oz.walk_q ?_ fun x32 => ?_
    ·intro w1 hb hu hd ho K hK;obtain rfl : _ = x31 := Eq.symm (hd 0 (by kernel_rfl));clear hu hd ho;have c_d2 := (hb.cell (show w.heap.size < _ by omega)).trans d2;go_simp;exact hK _ _ (Oz.good_same rfl rfl rfl)
    refine Oz.walk_q ?_ fun x33 => ?_
    ·intro w1 hb hu hd ho K hK;obtain rfl : _ = x32 := Eq.symm (hd 1 (by kernel_rfl));clear hu hd ho;go_simp;exact hK _ _ (Oz.good_same rfl rfl rfl)
    refine Oz.walk_q ?_ fun x34 => ?_
    ·intro w1 hb hu hd ho K hK;obtain rfl : _ = x33 := Eq.symm (hd 2 (by kernel_rfl));clear hu hd ho;have c_c0 := (hb.cell (show q < _ by omega)).trans c0;go_simp;exact hK _ _ (Oz.good_same rfl rfl rfl)
    refine Oz.walk_q ?_ fun x35 => ?_
    ·intro w1 hb hu hd ho K hK;clear hu hd ho;go_simp;exact hK _ _ (Oz.good_same rfl rfl rfl)
    refine Oz.walk_q ?_ fun x36 => ?_
    ·intro w1 hb hu hd ho K hK;clear hu hd ho;go_simp;exact hK _ _ (Oz.good_same rfl rfl rfl)
    refine Oz.walk_q ?_ fun x37 => ?_
    ·intro w1 hb hu hd ho K hK;obtain rfl : _ = x36 := Eq.symm (hd 5 (by kernel_rfl));clear hu hd ho;have c_d0 := (hb.cell (show w.heap.size < _ by omega)).trans d0;go_simp;exact hK _ _ (Oz.good_same rfl rfl rfl)
    refine Oz.walk_q ?_ fun x38 => ?_
    ·intro w1 hb hu hd ho K hK;obtain rfl : _ = x34 := Eq.symm (hd 3 (by kernel_rfl));obtain rfl : _ = x35 := Eq.symm (hd 4 (by kernel_rfl));obtain rfl : _ = x37 := Eq.symm (hd 6 (by kernel_rfl));clear hu hd ho;go_simp;exact hK _ _ (Oz.good_same rfl rfl rfl)
    refine Oz.walk_q ?_ fun x9 => ?_
    ·intro w1 hb hu hd ho K hK;have hz := hb.size;clear hu hd ho;go_simp;exact hK _ _ (Oz.good_box (b0 := w2.heap.size) rfl (Nat.le_refl _) hz rfl)
    apply Oz.walk_cons rfl
    ·intro w1 hb hu hd ho K hK;have h9 := hd 8 (by kernel_rfl);obtain rfl : _ = x38 := Eq.symm (hd 7 (by kernel_rfl));have hz := hb.size;have hoo := ho 8 (by kernel_rfl) rfl;obtain ⟨b, rfl, hb0, hh⟩ := h9;have dq0 : w1.cell? ⟨b, 0, none⟩ = some (.string ByteArray.empty) := by simp [World.cell?, hh]
     have fq0 : w1.frozen? ⟨b, 0, none⟩ = false := by simp [World.frozen?, hh]
     have dq1 : w1.cell? ⟨b, 1, none⟩ = some (.int .i64 0) := by simp [World.cell?, hh]
     have fq1 : w1.frozen? ⟨b, 1, none⟩ = false := by simp [World.frozen?, hh]
     have dq2 : w1.cell? ⟨b, 2, none⟩ = some (.int .i64 0) := by simp [World.cell?, hh]
     have fq2 : w1.frozen? ⟨b, 2, none⟩ = false := by simp [World.frozen?, hh]
     have dq3 : w1.cell? ⟨b, 3, none⟩ = some (.string ByteArray.empty) := by simp [World.cell?, hh]
     have fq3 : w1.frozen? ⟨b, 3, none⟩ = false := by simp [World.frozen?, hh]
     have dq4 : w1.cell? ⟨b, 4, none⟩ = some (.slice none 0 0) := by simp [World.cell?, hh]
     have fq4 : w1.frozen? ⟨b, 4, none⟩ = false := by simp [World.frozen?, hh]
     have dq5 : w1.cell? ⟨b, 5, none⟩ = some (.slice none 0 0) := by simp [World.cell?, hh]
     have fq5 : w1.frozen? ⟨b, 5, none⟩ = false := by simp [World.frozen?, hh]
     have kq0 := heap_setCell_same _ _ 0 _ _ (.string X0) hh;have kq1 := heap_setCell_same _ _ 1 _ _ (.int .i64 k) kq0;have kq2 := heap_setCell_same _ _ 2 _ _ (.int .i64 d) kq1;have kq3 := heap_setCell_same _ _ 3 _ _ (.string ByteArray.empty) kq2;have kq4 := heap_setCell_same _ _ 4 _ _ (.slice none 0 0) kq3;have kq5 := heap_setCell_same _ _ 5 _ _ (.slice none 0 0) kq4;clear hu hd ho;go_simp;exact hK undef _ (Oz.good_put (k := 8) (cs := #[.string X0, .int .i64 k, .int .i64 d, .string ByteArray.empty, .slice none 0 0, .slice none 0 0]) rfl rfl hb0 hz (Oz.setAll_grown b [.string X0, .int .i64 k, .int .i64 d, .string ByteArray.empty, .slice none 0 0, .slice none 0 0] 0 w1) rfl kq5 hoo)
    ·intro v; exact rfl
    ·intro v; exact (rfl : _ = ([x31, x32, x33, x34, x35, x36, x37, x38, x9, x9] : List Value))
    intro xn9;refine Oz.walk_nil rfl (fun w1 hb hu hd => ?_);obtain rfl : _ = x31 := Eq.symm (hd 0 (by kernel_rfl));obtain rfl : _ = x32 := Eq.symm (hd 1 (by kernel_rfl));obtain rfl : _ = x33 := Eq.symm (hd 2 (by kernel_rfl));obtain rfl : _ = x34 := Eq.symm (hd 3 (by kernel_rfl));obtain rfl : _ = x35 := Eq.symm (hd 4 (by kernel_rfl));obtain rfl : _ = x36 := Eq.symm (hd 5 (by kernel_rfl));obtain rfl : _ = x37 := Eq.symm (hd 6 (by kernel_rfl));obtain rfl : _ = x38 := Eq.symm (hd 7 (by kernel_rfl));have hn9 := hd 9 (by kernel_rfl);clear hd hu;obtain ⟨bx, rfl, hbx0, hhx⟩ := hn9;have HBX := Lib.hid ((Below.refl w2.heap.size w2).drew.trans hb);obtain ⟨w3, hw3⟩ : ∃ W, W = w1 := ⟨_, rfl⟩
    subst hw3;clear hb;replace d2 := (HBX.out.cell (show w.heap.size < _ by omega)).trans d2;replace d0 := (HBX.out.cell (show w.heap.size < _ by omega)).trans d0;have hh4 := hhx;have hb4 := HBX.out;obtain ⟨w4, hw4⟩ : ∃ W, W = w3 := ⟨_, rfl⟩
    have HW4 := Lib.hid hw4;rw [<- hw4] at hh4 hb4;clear hw4;obtain ⟨t0, t1, t2, t3, t4, t5⟩ : w4.cell? ⟨bx, 0, none⟩ = some (.string X0) /\ w4.cell? ⟨bx, 1, none⟩ = some (.int .i64 k) /\ w4.cell? ⟨bx, 2, none⟩ = some (.int .i64 d) /\ w4.cell? ⟨bx, 3, none⟩ = some (.string ByteArray.empty) /\ w4.cell? ⟨bx, 4, none⟩ = some (.slice none 0 0) /\ w4.cell? ⟨bx, 5, none⟩ = some (.slice none 0 0) := by simp [World.cell?, hh4]
    have hlt4 := lt_of_heap hh4;have H4 := Lib.hid (HO.out.below hb4);have HK4 : Hid (KeptB b B w w4) := HK.out.trans (KeptB.of_below hb4 (by omega));have hz4 := hb4.size;clear hh4 hb4 hhx;go_simp
    go_wp2_with fail
    rw [<- HW4.out];refine Oz.region_two 58 [Ow.eqR (.pointer (some ⟨b, 0, none⟩)), Ow.eqR (.pointer (some ⟨b, 0, none⟩)), Ow.eqR (.pointer (some ⟨b, 0, none⟩)), Ow.eqR (.pointer (some ⟨b, 0, none⟩)), Ow.eqR (.pointer (some ⟨b, 3, none⟩)), fun v w' => v = sV /\ w'.ownsRow B 50 6 v sp.length (flatS sp), Ow.eqR (.agg #[.string X0, .int .i64 k, .int .i64 d, .string ByteArray.empty, .slice none 0 0, .slice none 0 0]), fun v w' => w'.ownsRow B 50 6 v 1 [.string X0, .int .i64 k, .int .i64 d, .string ByteArray.empty, .slice none 0 0, .slice none 0 0], fun v w' => w'.ownsRow B 50 6 v (sp.length + 1) (flatS sp ++ [.string X0, .int .i64 k, .int .i64 d, .string ByteArray.empty, .slice none 0 0, .slice none 0 0]), Ow.eqR (.pointer (some ⟨b, 0, none⟩)), Ow.eqR (.pointer (some ⟨b, 0, none⟩)), Ow.eqR (.pointer (some ⟨b, 3, none⟩)), fun _ w' => ∃ v', w'.heap[b]? = some (.cells #[bstr c.nm, eV, vV, v', tV] 67 (0, 0)) /\ w'.ownsRow B 50 6 v' (sp.length + 1) (flatS sp ++ [.string X0, .int .i64 k, .int .i64 d, .string ByteArray.empty, .slice none 0 0, .slice none 0 0])] [false, false, false, false, false, true, false, true, true, false, false, false, false] [none, none, none, none, none, none, none, none, some 5, none, none, none, none] (b) 5 12 (b) (sV) (own_lower (H4.out.ss) (Nat.le_of_lt H4.out.lt)) (own_neq (H4.out.ss) H4.out.lt) (Nat.le_refl _) ((Nat.lt_of_lt_of_le H4.out.lt H4.out.le)) (by kernel_rfl) rfl (by kernel_rfl) (by kernel_rfl) rfl rfl ⟨Oz.keeps_eq _ _, Oz.keeps_eq _ _, Oz.keeps_eq _ _, Oz.keeps_eq _ _, Oz.keeps_eq _ _, keeps_is, Oz.keeps_eq _ _, Oz.keeps_own _ _ _ _ _, Oz.keeps_own _ _ _ _ _, Oz.keeps_eq _ _, Oz.keeps_eq _ _, Oz.keeps_eq _ _, trivial⟩ ?_;refine Oz.walk_qL ?_ fun x46 => ?_
    ·intro w1 hb hu hd ho K hK;clear hu hd ho;go_simp;exact hK _ _ (Oz.good_same rfl rfl rfl)
    refine Oz.walk_qL ?_ fun x47 => ?_
    ·intro w1 hb hu hd ho K hK;clear hu hd ho;go_simp;exact hK _ _ (Oz.good_same rfl rfl rfl)
    refine Oz.walk_qL ?_ fun x48 => ?_
    ·intro w1 hb hu hd ho K hK;obtain rfl : _ = x47 := Eq.symm (hd 1 (by kernel_rfl));clear hu hd ho;go_simp;exact hK _ _ (Oz.good_same rfl rfl rfl)
    refine Oz.walk_qL ?_ fun x49 => ?_
    ·intro w1 hb hu hd ho K hK;obtain rfl : _ = x48 := Eq.symm (hd 2 (by kernel_rfl));clear hu hd ho;go_simp;exact hK _ _ (Oz.good_same rfl rfl rfl)
    refine Oz.walk_qL ?_ fun x50 => ?_
    ·intro w1 hb hu hd ho K hK;obtain rfl : _ = x49 := Eq.symm (hd 3 (by kernel_rfl));clear hu hd ho;go_simp;exact hK _ _ (Oz.good_same rfl rfl rfl)
    refine Oz.walk_qL ?_ fun x51 => ?_
    ·intro w1 hb hu hd ho K hK;obtain rfl : _ = x50 := Eq.symm (hd 4 (by kernel_rfl));have hh : w1.heap[b]? = some (.cells #[bstr c.nm, eV, vV, sV, tV] 67 (0, 0)) := (hu _ (by have := H4.out.lt; have := H4.out.le; simp; omega) (fun j hj => by rcases Oz.cl2_cases hj with ⟨_, h⟩ | ⟨rfl, _⟩; exact absurd h (own_neq (H4.out.ss) H4.out.lt); exact Or.inr rfl)).trans H4.out.box;obtain ⟨b0, b1, b2, b3, b4, g0, g1, g2, g3, g4⟩ := at5 hh;have hx := Oz.own_same (H4.out.ss) (w' := w1) (fun g hg => (hu g (by have := (H4.out.ss).lt g hg; simp; omega) (fun j hj => by rcases Oz.cl2_cases hj with ⟨rfl, _⟩ | ⟨rfl, _⟩; exact Or.inl rfl; exact Or.inr rfl)).trans rfl);have hbz := hb.size;clear hu hd ho;go_simp;exact hK _ _ (Oz.good_claim rfl (Nat.le_of_lt H4.out.lt) ⟨rfl, hx⟩ hx Oz.cl2_row)
    refine Oz.walk_qL ?_ fun x52 => ?_
    ·intro w1 hb hu hd ho K hK;have kq := hu bx (by simp; omega) (fun j hj => by rcases Oz.cl2_cases hj with ⟨_, h⟩ | ⟨_, h⟩; exact absurd (HLT.out _ h) (by omega); exact absurd h (by have := H4.out.lt; have := H4.out.le; omega));have c_t0 := (World.cell?_of_block (w := _) (a := ⟨bx, _, none⟩) kq).trans t0;have c_t1 := (World.cell?_of_block (w := _) (a := ⟨bx, _, none⟩) kq).trans t1;have c_t2 := (World.cell?_of_block (w := _) (a := ⟨bx, _, none⟩) kq).trans t2;have c_t3 := (World.cell?_of_block (w := _) (a := ⟨bx, _, none⟩) kq).trans t3;have c_t4 := (World.cell?_of_block (w := _) (a := ⟨bx, _, none⟩) kq).trans t4;have c_t5 := (World.cell?_of_block (w := _) (a := ⟨bx, _, none⟩) kq).trans t5;clear hu hd ho;go_simp;exact hK _ _ (Oz.good_same rfl rfl rfl)
    refine Oz.walk_qL ?_ fun x53 => ?_
    ·intro w1 hb hu hd ho K hK;obtain rfl : _ = x52 := Eq.symm (hd 6 (by kernel_rfl));have hz : B <= w1.heap.size := by have := hb.size; have := H4.out.le; simp at *; omega
     clear hu hd ho;go_simp;exact hK _ _ (Oz.good_laid #[.string X0, .int .i64 k, .int .i64 d, .string ByteArray.empty, .slice none 0 0, .slice none 0 0] rfl (by have := H4.out.lt; omega) (by decide) rfl hz rfl)
    refine Oz.walk_qL ?_ fun x54 => ?_
    ·intro w1 hb hu hd ho K hK;have h51 := hd 5 (by kernel_rfl);have h53 := hd 7 (by kernel_rfl);have hz : B <= w1.heap.size := by have := hb.size; have := H4.out.le; simp at *; omega
     have hoo := ho 5 (by kernel_rfl) rfl;have hq := h51.2;clear hu hd ho;refine Ow.step_append rfl (.tmp 51) (.tmp 53) 24 rfl B 50 ie _ 6 96 Tryz.underlying24 HE0.out HE1.out HE2.out HE3.out rfl (by decide) x51 sp.length (flatS sp) (by simp [Act.eval]) hq _ 1 [.string X0, .int .i64 k, .int .i64 d, .string ByteArray.empty, .slice none 0 0, .slice none 0 0] (by simp [Act.eval]) (Inn.of_own h53) (by intro u hu; simp only [List.mem_cons, List.not_mem_nil, or_false] at hu; rcases hu with rfl | rfl | rfl | rfl | rfl | rfl <;> rfl) (by unfold maxLen; omega) (by omega) hz ?_;intro v' w' hown hg hob;refine hK _ _ (Oz.good_row (k := 5) rfl (by have := H4.out.lt; omega) hq hg (by exact hown) hown hoo hob)
    refine Oz.walk_qL ?_ fun x55 => ?_
    ·intro w1 hb hu hd ho K hK;obtain rfl : _ = x46 := Eq.symm (hd 0 (by kernel_rfl));clear hu hd ho;go_simp;exact hK _ _ (Oz.good_same rfl rfl rfl)
    refine Oz.walk_qL ?_ fun x56 => ?_
    ·intro w1 hb hu hd ho K hK;obtain rfl : _ = x55 := Eq.symm (hd 9 (by kernel_rfl));clear hu hd ho;go_simp;exact hK _ _ (Oz.good_same rfl rfl rfl)
    refine Oz.walk_qL ?_ fun x57 => ?_
    ·intro w1 hb hu hd ho K hK;obtain rfl : _ = x56 := Eq.symm (hd 10 (by kernel_rfl));clear hu hd ho;go_simp;exact hK _ _ (Oz.good_same rfl rfl rfl)
    apply Oz.walk_consL rfl
    ·intro w1 hb hu hd ho K hK;obtain rfl : _ = x57 := Eq.symm (hd 11 (by kernel_rfl));have h54 := hd 8 (by kernel_rfl);have hh : w1.heap[b]? = some (.cells #[bstr c.nm, eV, vV, sV, tV] 67 (0, 0)) := (hu _ (by have := H4.out.lt; have := H4.out.le; simp; omega) (fun j hj => by rcases Oz.cl2_cases hj with ⟨_, h⟩ | ⟨rfl, _⟩; exact absurd h (own_neq (H4.out.ss) H4.out.lt); exact Or.inr rfl)).trans H4.out.box;obtain ⟨b0, b1, b2, b3, b4, g0, g1, g2, g3, g4⟩ := at5 hh;obtain ⟨Az, cz, e1⟩ := own_slice h54;subst e1;clear hu hd ho;go_simp;refine hK undef _ ⟨⟨_, heap_setCell_same _ _ 3 _ _ _ hh, own_past h54 H4.out.lt _ _⟩, Oz.setAll_grown b [_] 3 w1, fun h => by cases h⟩
    ·intro v; exact rfl
    ·intro v; exact rfl
    intro xn12;refine Oz.walk_nilL rfl (fun w1 hb hu hd => ?_);obtain rfl : _ = x46 := Eq.symm (hd 0 (by kernel_rfl));obtain rfl : _ = x47 := Eq.symm (hd 1 (by kernel_rfl));obtain rfl : _ = x48 := Eq.symm (hd 2 (by kernel_rfl));obtain rfl : _ = x49 := Eq.symm (hd 3 (by kernel_rfl));obtain rfl : _ = x50 := Eq.symm (hd 4 (by kernel_rfl));obtain rfl : _ = x52 := Eq.symm (hd 6 (by kernel_rfl));have h53 := hd 7 (by kernel_rfl);have h54 := hd 8 (by kernel_rfl);obtain rfl : _ = x55 := Eq.symm (hd 9 (by kernel_rfl));obtain rfl : _ = x56 := Eq.symm (hd 10 (by kernel_rfl));obtain rfl : _ = x57 := Eq.symm (hd 11 (by kernel_rfl));have hn12 := hd 12 (by kernel_rfl);clear hd;obtain ⟨v', hbx, hnr⟩ := hn12;have hG := GrownT.of_two hb hu;have hP := H4.out.pushS ⟨by decide, by decide⟩ hG hbx (p := (⟨X0.data.toList, k, d, [], [], []⟩, .slice none 0 0, .slice none 0 0)) ⟨BlkO.nil _ _, BlkO.nil _ _⟩ hnr;have HP := Lib.hid hP;clear hb hu hbx hnr hG hP;go_simp;go_wp2;go_ret;exact ret_true HV.out (HK4.out.trans HP.out.2) ⟨_, _, _, _, _, _, HP.out.1⟩
   ·have q3 : ((rl : Int) != 1) = true := bne_iff_ne.2 (by omega);have hv : stateS k 1 c d r = none := by rw [HV0.out, decide_eq_false h3]; simp
    have HV := Lib.hid hv;clear hv
    go_big_quiet (first | (go_at_call 48; exact quiet_at (HNW.out _)) | (go_at_call 152; exact quiet_at (HDE.out _)) | (go_at_call 153; exact quiet_at (HCF.out _)))
    go_wp2;go_ret;exact MPost.no HV.out (HK1.out _)
  ·have q2 : decide (rm < (d : Int)) = true := decide_eq_true (by omega);have hv : stateS k 1 c d r = none := by rw [HV0.out, decide_eq_false h2]; simp
   have HV := Lib.hid hv;clear hv
   go_big_quiet (first | (go_at_call 48; exact quiet_at (HNW.out _)) | (go_at_call 152; exact quiet_at (HDE.out _)) | (go_at_call 153; exact quiet_at (HCF.out _)))
   go_wp2;go_ret;exact MPost.no HV.out (HK1.out _)
set_option maxRecDepth 100000 in
set_option maxHeartbeats 8000000 in
theorem state2_any (k : Int) {b B : Nat} {w0 w : World} {c : CH} {eV vV sV tV : Value} {sp : List SP} {tp : List TP} (h : OwnCh b B 67 w0 c eV vV sV tV sp tp) (hw : Below w0.heap.size w0 w) (hB : Bdd 1000000 c) (d : Nat) (F : ByteArray) (A : Option Addr) (cp : Nat) (r : List (List UInt8)) (_hd : d <= 6000) (hrl : r.length <= 1000000)
 (hr : RestR w0 w A cp r) : Calls Tryz.prog 109 #[.pointer (some ⟨b, 0, none⟩), .agg #[.int .i64 d, .string F, .slice A r.length cp], .int .i64 k, .int .i64 2] w (MPost b B w (stateS k 2 c d r)) := by
 obtain ⟨w1, hw1⟩ : ∃ W, W = w.alloc (.cells #[.int .i64 d, .string F, .slice A r.length cp] 74) := ⟨_, rfl⟩
 have hb1 : Below w.heap.size w w1 := hw1 ▸ (Below.refl w.heap.size w).alloc (Nat.le_refl _) _;have d2 : w1.cell? ⟨w.heap.size, 2, none⟩ = some (.slice A r.length cp) := by rw [hw1]; simp
 have d0 : w1.cell? ⟨w.heap.size, 0, none⟩ = some (.int .i64 d) := by rw [hw1]; simp
 have hsz1 : w1.heap.size = w.heap.size + 1 := by rw [hw1]; simp
 have h1 := (h.below hw).below hb1;have hle0 := h.le;have hzw := hw.size;have HNW : Hid (∀ m, Calls Tryz.prog 48 #[.pointer (some ⟨b, 0, none⟩)] (w1.drewN m) fun e w' => e = .returned (.bool c.nm.isEmpty) /\ w' = w1.drewN m) := fun m => isNew_any (h1.below (below_drewN (Below.refl _ _) m))
 have HDE : Hid (∀ m, Calls Tryz.prog 152 #[.pointer (some ⟨b, 0, none⟩)] (w1.drewN m) fun e w' => e = .returned (.int .i64 (roomC c.ss)) /\ w' = w1.drewN m) := fun m => deepest_any (h1.below (below_drewN (Below.refl _ _) m)) hB
 have HCF : Hid (∀ m, Calls Tryz.prog 153 #[.slice A r.length cp, .func (.func 102) #[] #[]] (w1.drewN m) fun e w' => e = .returned (.bool (r.any fun x => !nameB x)) /\ w' = w1.drewN m) := fun m => nnContains_any A cp r _ (((hr.below hb1).below (below_drewN (Below.refl _ _) m)).inn) (by omega)
 have HR := Lib.hid (hr.below hb1); have H1 := Lib.hid h1; have HB1 := Lib.hid hb1; have HW := Lib.hid hw1; have HBd := Lib.hid hB;have HK1 : Hid (∀ m, KeptB b B w (w1.drewN m)) := fun m => KeptB.of_below (below_drewN hb1 m) (by omega)
 have HLT : Hid (∀ g, sV.ownBlock = some g -> g < w0.heap.size) := fun g hg => (h.ss.lt g hg).2
 have hv0 : stateS k 2 c d r = if (!c.nm.isEmpty && decide ((d : Int) <= roomC c.ss) && decide (r.length = 2) && !(r.any fun x => !nameB x)) = true then some { c with ss := c.ss ++ [⟨wd r 0, k, d, wd r 1, [], []⟩] } else none := by
  have e : r.all nameB = !(r.any fun x => !nameB x) := by simp [List.any_eq_not_all_not]
  unfold stateS stateB; rw [e]; rfl
 have HV0 := Lib.hid hv0;have hss := hB.ss;have hsl := SP.len h.ssE;have hs6 : sp.length <= 1000000 := by omega
 obtain ⟨ie, hi0, hi1, hi2, hi3⟩ := info_of Tryz.infoState;have HE0 := Lib.hid hi0; have HE1 := Lib.hid hi1; have HE2 := Lib.hid hi2; have HE3 := Lib.hid hi3;clear h hw hB h1 hr hb1 hw1 hv0 hi0 hi1 hi2 hi3 hss hsl;generalize c.nm.isEmpty = nw at *
 generalize roomC c.ss = rm at *
 generalize (r.any fun x => !nameB x) = an at *
 obtain ⟨rl, hrl2⟩ : ∃ n, r.length = n := ⟨_, rfl⟩
 have HRL := Lib.hid hrl2;rw [hrl2] at HV0 HW HCF d2 ⊢;clear hrl2 hrl
 go_enter Tryz.func109, Tryz.ntmps109
 go_wp2_with fail
 rw [<- HW.out];cases nw with
 | true =>
  have hv : stateS k 2 c d r = none := by rw [HV0.out]; simp
  have HV := Lib.hid hv;clear hv
  go_big_quiet (first | (go_at_call 48; exact quiet_at (HNW.out _)) | (go_at_call 152; exact quiet_at (HDE.out _)) | (go_at_call 153; exact quiet_at (HCF.out _)))
  go_wp2;go_ret;exact MPost.no HV.out (HK1.out _)
 | false =>
  by_cases h2 : (d : Int) <= rm
  ·have q2 : decide (rm < (d : Int)) = false := decide_eq_false (by omega);by_cases h3 : rl = 2
   ·subst h3;cases an with
    | true =>
     have hv : stateS k 2 c d r = none := by rw [HV0.out]; simp
     have HV := Lib.hid hv;clear hv
     go_big_quiet (first | (go_at_call 48; exact quiet_at (HNW.out _)) | (go_at_call 152; exact quiet_at (HDE.out _)) | (go_at_call 153; exact quiet_at (HCF.out _)))
     go_wp2;go_ret;exact MPost.no HV.out (HK1.out _)
    | false =>
    obtain ⟨q, o, rfl, hq0, hq2, hc⟩ := HR.out.all (by have := HRL.out; omega);obtain ⟨X0, hX0, hX0l⟩ := bstr_some (wd r 0);have c0 := hc 0 (by have := HRL.out; omega);rw [hX0, Nat.add_zero] at c0;obtain ⟨X1, hX1, hX1l⟩ := bstr_some (wd r 1);have c1 := hc 1 (by have := HRL.out; omega);rw [hX1] at c1;have hv : stateS k 2 c d r = some { c with ss := c.ss ++ [⟨X0.data.toList, k, d, X1.data.toList, [], []⟩] } := by rw [HV0.out, decide_eq_true h2, decide_eq_true rfl, hX0l, hX1l]; rfl
    have HV := Lib.hid hv;clear hv hc hX0 hX0l hX1 hX1l h2
    go_big_quiet (first | (go_at_call 48; exact quiet_at (HNW.out _)) | (go_at_call 152; exact quiet_at (HDE.out _)) | (go_at_call 153; exact quiet_at (HCF.out _)))
    obtain ⟨w2, hw2⟩ : ∃ W, W = w1.drewN nq := ⟨_, rfl⟩
    have HO := Lib.hid (H1.out.below (below_drewN (Below.refl _ _) nq));have HK := Lib.hid (HK1.out nq);replace d0 : w2.cell? ⟨w.heap.size, 0, none⟩ = some (.int .i64 d) := by rw [hw2]; exact d0
    replace d2 : w2.cell? ⟨w.heap.size, 2, none⟩ = some (.slice (some ⟨q, o, none⟩) 2 cp) := by rw [hw2]; exact d2
    replace c0 : w2.cell? ⟨q, o, none⟩ = some (.string X0) := by rw [hw2]; exact c0
    replace c1 : w2.cell? ⟨q, o + 1, none⟩ = some (.string X1) := by rw [hw2]; exact c1
    have hzz : w1.heap.size = w2.heap.size := by rw [hw2]; rfl
    rw [<- hw2] at HO HK;have HW2 := Lib.hid hw2;clear hw2
    go_wp2_with fail
    rw [<- HW2.out];refine Oz.region_own' 58 [Ow.eqR (.pointer (some ⟨w.heap.size, 2, none⟩)), Ow.eqR (.slice (some ⟨q, o, none⟩) 2 cp), Ow.eqR (.pointer (some ⟨q, o, none⟩)), Ow.eqR (.string X0), Ow.eqR (.int .i64 k), Ow.eqR (.pointer (some ⟨w.heap.size, 0, none⟩)), Ow.eqR (.int .i64 d), Ow.eqR (.agg #[.string X0, .int .i64 k, .int .i64 d, .string ByteArray.empty, .slice none 0 0, .slice none 0 0]), Oz.BoxR (w2.heap.size) 50 #[.string ByteArray.empty, .int .i64 0, .int .i64 0, .string ByteArray.empty, .slice none 0 0, .slice none 0 0], Oz.BoxR (w2.heap.size) 50 #[.string X0, .int .i64 k, .int .i64 d, .string ByteArray.empty, .slice none 0 0, .slice none 0 0]] [false, false, false, false, false, false, false, false, true, true] [none, none, none, none, none, none, none, none, none, some 8] (by kernel_rfl) rfl (by kernel_rfl) ⟨Oz.keeps_eq _ _, Oz.keeps_eq _ _, Oz.keeps_eq _ _, Oz.keeps_eq _ _, Oz.keeps_eq _ _, Oz.keeps_eq _ _, Oz.keeps_eq _ _, Oz.keeps_eq _ _, Oz.keeps_box _ _ _, Oz.keeps_box _ _ _, trivial⟩ ?_;refine Oz.walk_q ?_ fun x31 => ?_
    ·intro w1 hb hu hd ho K hK;clear hu hd ho;go_simp;exact hK _ _ (Oz.good_same rfl rfl rfl)
    refine Oz.walk_q ?_ fun x32 => ?_
    ·intro w1 hb hu hd ho K hK;obtain rfl : _ = x31 := Eq.symm (hd 0 (by kernel_rfl));clear hu hd ho;have c_d2 := (hb.cell (show w.heap.size < _ by omega)).trans d2;go_simp;exact hK _ _ (Oz.good_same rfl rfl rfl)
    refine Oz.walk_q ?_ fun x33 => ?_
    ·intro w1 hb hu hd ho K hK;obtain rfl : _ = x32 := Eq.symm (hd 1 (by kernel_rfl));clear hu hd ho;go_simp;exact hK _ _ (Oz.good_same rfl rfl rfl)
    refine Oz.walk_q ?_ fun x34 => ?_
    ·intro w1 hb hu hd ho K hK;obtain rfl : _ = x33 := Eq.symm (hd 2 (by kernel_rfl));clear hu hd ho;have c_c0 := (hb.cell (show q < _ by omega)).trans c0;go_simp;exact hK _ _ (Oz.good_same rfl rfl rfl)
    refine Oz.walk_q ?_ fun x35 => ?_
    ·intro w1 hb hu hd ho K hK;clear hu hd ho;go_simp;exact hK _ _ (Oz.good_same rfl rfl rfl)
    refine Oz.walk_q ?_ fun x36 => ?_
    ·intro w1 hb hu hd ho K hK;clear hu hd ho;go_simp;exact hK _ _ (Oz.good_same rfl rfl rfl)
    refine Oz.walk_q ?_ fun x37 => ?_
    ·intro w1 hb hu hd ho K hK;obtain rfl : _ = x36 := Eq.symm (hd 5 (by kernel_rfl));clear hu hd ho;have c_d0 := (hb.cell (show w.heap.size < _ by omega)).trans d0;go_simp;exact hK _ _ (Oz.good_same rfl rfl rfl)
    refine Oz.walk_q ?_ fun x38 => ?_
    ·intro w1 hb hu hd ho K hK;obtain rfl : _ = x34 := Eq.symm (hd 3 (by kernel_rfl));obtain rfl : _ = x35 := Eq.symm (hd 4 (by kernel_rfl));obtain rfl : _ = x37 := Eq.symm (hd 6 (by kernel_rfl));clear hu hd ho;go_simp;exact hK _ _ (Oz.good_same rfl rfl rfl)
    refine Oz.walk_q ?_ fun x9 => ?_
    ·intro w1 hb hu hd ho K hK;have hz := hb.size;clear hu hd ho;go_simp;exact hK _ _ (Oz.good_box (b0 := w2.heap.size) rfl (Nat.le_refl _) hz rfl)
    apply Oz.walk_cons rfl
    ·intro w1 hb hu hd ho K hK;have h9 := hd 8 (by kernel_rfl);obtain rfl : _ = x38 := Eq.symm (hd 7 (by kernel_rfl));have hz := hb.size;have hoo := ho 8 (by kernel_rfl) rfl;obtain ⟨b, rfl, hb0, hh⟩ := h9;have dq0 : w1.cell? ⟨b, 0, none⟩ = some (.string ByteArray.empty) := by simp [World.cell?, hh]
     have fq0 : w1.frozen? ⟨b, 0, none⟩ = false := by simp [World.frozen?, hh]
     have dq1 : w1.cell? ⟨b, 1, none⟩ = some (.int .i64 0) := by simp [World.cell?, hh]
     have fq1 : w1.frozen? ⟨b, 1, none⟩ = false := by simp [World.frozen?, hh]
     have dq2 : w1.cell? ⟨b, 2, none⟩ = some (.int .i64 0) := by simp [World.cell?, hh]
     have fq2 : w1.frozen? ⟨b, 2, none⟩ = false := by simp [World.frozen?, hh]
     have dq3 : w1.cell? ⟨b, 3, none⟩ = some (.string ByteArray.empty) := by simp [World.cell?, hh]
     have fq3 : w1.frozen? ⟨b, 3, none⟩ = false := by simp [World.frozen?, hh]
     have dq4 : w1.cell? ⟨b, 4, none⟩ = some (.slice none 0 0) := by simp [World.cell?, hh]
     have fq4 : w1.frozen? ⟨b, 4, none⟩ = false := by simp [World.frozen?, hh]
     have dq5 : w1.cell? ⟨b, 5, none⟩ = some (.slice none 0 0) := by simp [World.cell?, hh]
     have fq5 : w1.frozen? ⟨b, 5, none⟩ = false := by simp [World.frozen?, hh]
     have kq0 := heap_setCell_same _ _ 0 _ _ (.string X0) hh;have kq1 := heap_setCell_same _ _ 1 _ _ (.int .i64 k) kq0;have kq2 := heap_setCell_same _ _ 2 _ _ (.int .i64 d) kq1;have kq3 := heap_setCell_same _ _ 3 _ _ (.string ByteArray.empty) kq2;have kq4 := heap_setCell_same _ _ 4 _ _ (.slice none 0 0) kq3;have kq5 := heap_setCell_same _ _ 5 _ _ (.slice none 0 0) kq4;clear hu hd ho;go_simp;exact hK undef _ (Oz.good_put (k := 8) (cs := #[.string X0, .int .i64 k, .int .i64 d, .string ByteArray.empty, .slice none 0 0, .slice none 0 0]) rfl rfl hb0 hz (Oz.setAll_grown b [.string X0, .int .i64 k, .int .i64 d, .string ByteArray.empty, .slice none 0 0, .slice none 0 0] 0 w1) rfl kq5 hoo)
    ·intro v; exact rfl
    ·intro v; exact (rfl : _ = ([x31, x32, x33, x34, x35, x36, x37, x38, x9, x9] : List Value))
    intro xn9;refine Oz.walk_nil rfl (fun w1 hb hu hd => ?_);obtain rfl : _ = x31 := Eq.symm (hd 0 (by kernel_rfl));obtain rfl : _ = x32 := Eq.symm (hd 1 (by kernel_rfl));obtain rfl : _ = x33 := Eq.symm (hd 2 (by kernel_rfl));obtain rfl : _ = x34 := Eq.symm (hd 3 (by kernel_rfl));obtain rfl : _ = x35 := Eq.symm (hd 4 (by kernel_rfl));obtain rfl : _ = x36 := Eq.symm (hd 5 (by kernel_rfl));obtain rfl : _ = x37 := Eq.symm (hd 6 (by kernel_rfl));obtain rfl : _ = x38 := Eq.symm (hd 7 (by kernel_rfl));have hn9 := hd 9 (by kernel_rfl);clear hd hu;obtain ⟨bx, rfl, hbx0, hhx⟩ := hn9;have HBX := Lib.hid ((Below.refl w2.heap.size w2).drew.trans hb);obtain ⟨w3, hw3⟩ : ∃ W, W = w1 := ⟨_, rfl⟩
    subst hw3;clear hb;replace d2 := (HBX.out.cell (show w.heap.size < _ by omega)).trans d2;replace d0 := (HBX.out.cell (show w.heap.size < _ by omega)).trans d0;replace c1 := (HBX.out.cell (show q < _ by omega)).trans c1;have z3 : w3.frozen? ⟨bx, 3, none⟩ = false := by simp [World.frozen?, hhx]
    have y3 : w3.cell? ⟨bx, 3, none⟩ = some (.string ByteArray.empty) := by simp [World.cell?, hhx]
    obtain ⟨w4, hw4⟩ : ∃ W, W = w3.setCell ⟨bx, 3, none⟩ (.string X1) := ⟨_, rfl⟩
    have hh4 : w4.heap[bx]? = some (.cells #[.string X0, .int .i64 k, .int .i64 d, .string X1, .slice none 0 0, .slice none 0 0] 50 (0, 0)) := by rw [hw4]; exact heap_setCell_same _ _ 3 _ _ _ hhx
    have hb4 : Below w2.heap.size w2 w4 := by rw [hw4]; exact HBX.out.setCell hbx0 _
    have HW4 := Lib.hid hw4;clear hw4;obtain ⟨t0, t1, t2, t3, t4, t5⟩ : w4.cell? ⟨bx, 0, none⟩ = some (.string X0) /\ w4.cell? ⟨bx, 1, none⟩ = some (.int .i64 k) /\ w4.cell? ⟨bx, 2, none⟩ = some (.int .i64 d) /\ w4.cell? ⟨bx, 3, none⟩ = some (.string X1) /\ w4.cell? ⟨bx, 4, none⟩ = some (.slice none 0 0) /\ w4.cell? ⟨bx, 5, none⟩ = some (.slice none 0 0) := by simp [World.cell?, hh4]
    have hlt4 := lt_of_heap hh4;have H4 := Lib.hid (HO.out.below hb4);have HK4 : Hid (KeptB b B w w4) := HK.out.trans (KeptB.of_below hb4 (by omega));have hz4 := hb4.size;clear hh4 hb4 hhx;go_simp
    go_wp2_with fail
    rw [<- HW4.out];refine Oz.region_two 58 [Ow.eqR (.pointer (some ⟨b, 0, none⟩)), Ow.eqR (.pointer (some ⟨b, 0, none⟩)), Ow.eqR (.pointer (some ⟨b, 0, none⟩)), Ow.eqR (.pointer (some ⟨b, 0, none⟩)), Ow.eqR (.pointer (some ⟨b, 3, none⟩)), fun v w' => v = sV /\ w'.ownsRow B 50 6 v sp.length (flatS sp), Ow.eqR (.agg #[.string X0, .int .i64 k, .int .i64 d, .string X1, .slice none 0 0, .slice none 0 0]), fun v w' => w'.ownsRow B 50 6 v 1 [.string X0, .int .i64 k, .int .i64 d, .string X1, .slice none 0 0, .slice none 0 0], fun v w' => w'.ownsRow B 50 6 v (sp.length + 1) (flatS sp ++ [.string X0, .int .i64 k, .int .i64 d, .string X1, .slice none 0 0, .slice none 0 0]), Ow.eqR (.pointer (some ⟨b, 0, none⟩)), Ow.eqR (.pointer (some ⟨b, 0, none⟩)), Ow.eqR (.pointer (some ⟨b, 3, none⟩)), fun _ w' => ∃ v', w'.heap[b]? = some (.cells #[bstr c.nm, eV, vV, v', tV] 67 (0, 0)) /\ w'.ownsRow B 50 6 v' (sp.length + 1) (flatS sp ++ [.string X0, .int .i64 k, .int .i64 d, .string X1, .slice none 0 0, .slice none 0 0])] [false, false, false, false, false, true, false, true, true, false, false, false, false] [none, none, none, none, none, none, none, none, some 5, none, none, none, none] (b) 5 12 (b) (sV) (own_lower (H4.out.ss) (Nat.le_of_lt H4.out.lt)) (own_neq (H4.out.ss) H4.out.lt) (Nat.le_refl _) ((Nat.lt_of_lt_of_le H4.out.lt H4.out.le)) (by kernel_rfl) rfl (by kernel_rfl) (by kernel_rfl) rfl rfl ⟨Oz.keeps_eq _ _, Oz.keeps_eq _ _, Oz.keeps_eq _ _, Oz.keeps_eq _ _, Oz.keeps_eq _ _, keeps_is, Oz.keeps_eq _ _, Oz.keeps_own _ _ _ _ _, Oz.keeps_own _ _ _ _ _, Oz.keeps_eq _ _, Oz.keeps_eq _ _, Oz.keeps_eq _ _, trivial⟩ ?_;refine Oz.walk_qL ?_ fun x46 => ?_
    ·intro w1 hb hu hd ho K hK;clear hu hd ho;go_simp;exact hK _ _ (Oz.good_same rfl rfl rfl)
    refine Oz.walk_qL ?_ fun x47 => ?_
    ·intro w1 hb hu hd ho K hK;clear hu hd ho;go_simp;exact hK _ _ (Oz.good_same rfl rfl rfl)
    refine Oz.walk_qL ?_ fun x48 => ?_
    ·intro w1 hb hu hd ho K hK;obtain rfl : _ = x47 := Eq.symm (hd 1 (by kernel_rfl));clear hu hd ho;go_simp;exact hK _ _ (Oz.good_same rfl rfl rfl)
    refine Oz.walk_qL ?_ fun x49 => ?_
    ·intro w1 hb hu hd ho K hK;obtain rfl : _ = x48 := Eq.symm (hd 2 (by kernel_rfl));clear hu hd ho;go_simp;exact hK _ _ (Oz.good_same rfl rfl rfl)
    refine Oz.walk_qL ?_ fun x50 => ?_
    ·intro w1 hb hu hd ho K hK;obtain rfl : _ = x49 := Eq.symm (hd 3 (by kernel_rfl));clear hu hd ho;go_simp;exact hK _ _ (Oz.good_same rfl rfl rfl)
    refine Oz.walk_qL ?_ fun x51 => ?_
    ·intro w1 hb hu hd ho K hK;obtain rfl : _ = x50 := Eq.symm (hd 4 (by kernel_rfl));have hh : w1.heap[b]? = some (.cells #[bstr c.nm, eV, vV, sV, tV] 67 (0, 0)) := (hu _ (by have := H4.out.lt; have := H4.out.le; simp; omega) (fun j hj => by rcases Oz.cl2_cases hj with ⟨_, h⟩ | ⟨rfl, _⟩; exact absurd h (own_neq (H4.out.ss) H4.out.lt); exact Or.inr rfl)).trans H4.out.box;obtain ⟨b0, b1, b2, b3, b4, g0, g1, g2, g3, g4⟩ := at5 hh;have hx := Oz.own_same (H4.out.ss) (w' := w1) (fun g hg => (hu g (by have := (H4.out.ss).lt g hg; simp; omega) (fun j hj => by rcases Oz.cl2_cases hj with ⟨rfl, _⟩ | ⟨rfl, _⟩; exact Or.inl rfl; exact Or.inr rfl)).trans rfl);have hbz := hb.size;clear hu hd ho;go_simp;exact hK _ _ (Oz.good_claim rfl (Nat.le_of_lt H4.out.lt) ⟨rfl, hx⟩ hx Oz.cl2_row)
    refine Oz.walk_qL ?_ fun x52 => ?_
    ·intro w1 hb hu hd ho K hK;have kq := hu bx (by simp; omega) (fun j hj => by rcases Oz.cl2_cases hj with ⟨_, h⟩ | ⟨_, h⟩; exact absurd (HLT.out _ h) (by omega); exact absurd h (by have := H4.out.lt; have := H4.out.le; omega));have c_t0 := (World.cell?_of_block (w := _) (a := ⟨bx, _, none⟩) kq).trans t0;have c_t1 := (World.cell?_of_block (w := _) (a := ⟨bx, _, none⟩) kq).trans t1;have c_t2 := (World.cell?_of_block (w := _) (a := ⟨bx, _, none⟩) kq).trans t2;have c_t3 := (World.cell?_of_block (w := _) (a := ⟨bx, _, none⟩) kq).trans t3;have c_t4 := (World.cell?_of_block (w := _) (a := ⟨bx, _, none⟩) kq).trans t4;have c_t5 := (World.cell?_of_block (w := _) (a := ⟨bx, _, none⟩) kq).trans t5;clear hu hd ho;go_simp;exact hK _ _ (Oz.good_same rfl rfl rfl)
    refine Oz.walk_qL ?_ fun x53 => ?_
    ·intro w1 hb hu hd ho K hK;obtain rfl : _ = x52 := Eq.symm (hd 6 (by kernel_rfl));have hz : B <= w1.heap.size := by have := hb.size; have := H4.out.le; simp at *; omega
     clear hu hd ho;go_simp;exact hK _ _ (Oz.good_laid #[.string X0, .int .i64 k, .int .i64 d, .string X1, .slice none 0 0, .slice none 0 0] rfl (by have := H4.out.lt; omega) (by decide) rfl hz rfl)
    refine Oz.walk_qL ?_ fun x54 => ?_
    ·intro w1 hb hu hd ho K hK;have h51 := hd 5 (by kernel_rfl);have h53 := hd 7 (by kernel_rfl);have hz : B <= w1.heap.size := by have := hb.size; have := H4.out.le; simp at *; omega
     have hoo := ho 5 (by kernel_rfl) rfl;have hq := h51.2;clear hu hd ho;refine Ow.step_append rfl (.tmp 51) (.tmp 53) 24 rfl B 50 ie _ 6 96 Tryz.underlying24 HE0.out HE1.out HE2.out HE3.out rfl (by decide) x51 sp.length (flatS sp) (by simp [Act.eval]) hq _ 1 [.string X0, .int .i64 k, .int .i64 d, .string X1, .slice none 0 0, .slice none 0 0] (by simp [Act.eval]) (Inn.of_own h53) (by intro u hu; simp only [List.mem_cons, List.not_mem_nil, or_false] at hu; rcases hu with rfl | rfl | rfl | rfl | rfl | rfl <;> rfl) (by unfold maxLen; omega) (by omega) hz ?_;intro v' w' hown hg hob;refine hK _ _ (Oz.good_row (k := 5) rfl (by have := H4.out.lt; omega) hq hg (by exact hown) hown hoo hob)
    refine Oz.walk_qL ?_ fun x55 => ?_
    ·intro w1 hb hu hd ho K hK;obtain rfl : _ = x46 := Eq.symm (hd 0 (by kernel_rfl));clear hu hd ho;go_simp;exact hK _ _ (Oz.good_same rfl rfl rfl)
    refine Oz.walk_qL ?_ fun x56 => ?_
    ·intro w1 hb hu hd ho K hK;obtain rfl : _ = x55 := Eq.symm (hd 9 (by kernel_rfl));clear hu hd ho;go_simp;exact hK _ _ (Oz.good_same rfl rfl rfl)
    refine Oz.walk_qL ?_ fun x57 => ?_
    ·intro w1 hb hu hd ho K hK;obtain rfl : _ = x56 := Eq.symm (hd 10 (by kernel_rfl));clear hu hd ho;go_simp;exact hK _ _ (Oz.good_same rfl rfl rfl)
    apply Oz.walk_consL rfl
    ·intro w1 hb hu hd ho K hK;obtain rfl : _ = x57 := Eq.symm (hd 11 (by kernel_rfl));have h54 := hd 8 (by kernel_rfl);have hh : w1.heap[b]? = some (.cells #[bstr c.nm, eV, vV, sV, tV] 67 (0, 0)) := (hu _ (by have := H4.out.lt; have := H4.out.le; simp; omega) (fun j hj => by rcases Oz.cl2_cases hj with ⟨_, h⟩ | ⟨rfl, _⟩; exact absurd h (own_neq (H4.out.ss) H4.out.lt); exact Or.inr rfl)).trans H4.out.box;obtain ⟨b0, b1, b2, b3, b4, g0, g1, g2, g3, g4⟩ := at5 hh;obtain ⟨Az, cz, e1⟩ := own_slice h54;subst e1;clear hu hd ho;go_simp;refine hK undef _ ⟨⟨_, heap_setCell_same _ _ 3 _ _ _ hh, own_past h54 H4.out.lt _ _⟩, Oz.setAll_grown b [_] 3 w1, fun h => by cases h⟩
    ·intro v; exact rfl
    ·intro v; exact rfl
    intro xn12;refine Oz.walk_nilL rfl (fun w1 hb hu hd => ?_);obtain rfl : _ = x46 := Eq.symm (hd 0 (by kernel_rfl));obtain rfl : _ = x47 := Eq.symm (hd 1 (by kernel_rfl));obtain rfl : _ = x48 := Eq.symm (hd 2 (by kernel_rfl));obtain rfl : _ = x49 := Eq.symm (hd 3 (by kernel_rfl));obtain rfl : _ = x50 := Eq.symm (hd 4 (by kernel_rfl));obtain rfl : _ = x52 := Eq.symm (hd 6 (by kernel_rfl));have h53 := hd 7 (by kernel_rfl);have h54 := hd 8 (by kernel_rfl);obtain rfl : _ = x55 := Eq.symm (hd 9 (by kernel_rfl));obtain rfl : _ = x56 := Eq.symm (hd 10 (by kernel_rfl));obtain rfl : _ = x57 := Eq.symm (hd 11 (by kernel_rfl));have hn12 := hd 12 (by kernel_rfl);clear hd;obtain ⟨v', hbx, hnr⟩ := hn12;have hG := GrownT.of_two hb hu;have hP := H4.out.pushS ⟨by decide, by decide⟩ hG hbx (p := (⟨X0.data.toList, k, d, X1.data.toList, [], []⟩, .slice none 0 0, .slice none 0 0)) ⟨BlkO.nil _ _, BlkO.nil _ _⟩ hnr;have HP := Lib.hid hP;clear hb hu hbx hnr hG hP;go_simp;go_wp2;go_ret;exact ret_true HV.out (HK4.out.trans HP.out.2) ⟨_, _, _, _, _, _, HP.out.1⟩
   ·have q3 : ((rl : Int) != 2) = true := bne_iff_ne.2 (by omega);have hv : stateS k 2 c d r = none := by rw [HV0.out, decide_eq_false h3]; simp
    have HV := Lib.hid hv;clear hv
    go_big_quiet (first | (go_at_call 48; exact quiet_at (HNW.out _)) | (go_at_call 152; exact quiet_at (HDE.out _)) | (go_at_call 153; exact quiet_at (HCF.out _)))
    go_wp2;go_ret;exact MPost.no HV.out (HK1.out _)
  ·have q2 : decide (rm < (d : Int)) = true := decide_eq_true (by omega);have hv : stateS k 2 c d r = none := by rw [HV0.out, decide_eq_false h2]; simp
   have HV := Lib.hid hv;clear hv
   go_big_quiet (first | (go_at_call 48; exact quiet_at (HNW.out _)) | (go_at_call 152; exact quiet_at (HDE.out _)) | (go_at_call 153; exact quiet_at (HCF.out _)))
   go_wp2;go_ret;exact MPost.no HV.out (HK1.out _)
theorem MPost.from_ {b B : Nat} {w w1 w' : World} {o : Option CH} {e : Ending} (hk : KeptB b B w w1) (h : MPost b B w1 o e w') : MPost b B w o e w' := ⟨hk.trans h.1, h.2⟩
theorem MPost.bool {b B : Nat} {w w' : World} {o : Option CH} {e : Ending} (h : MPost b B w o e w') : ∃ q, e = .returned (.bool q) := by
 obtain ⟨_, h⟩ := h;cases o with
 | none => exact ⟨_, h⟩
 | some c => exact ⟨_, h.1⟩
theorem basic_m : Method 74 (stateS 1 1) := by
 intro b B w0 w c eV vV sV tV sp tp d F A cp r h hw hB hd hrl hr _ _;obtain ⟨w1, hw1⟩ : ∃ W, W = w.alloc (.cells #[.int .i64 d, .string F, .slice A r.length cp] 74) := ⟨_, rfl⟩
 have hb1 : Below w.heap.size w w1 := hw1 ▸ (Below.refl w.heap.size w).alloc (Nat.le_refl _) _;have hle := h.le;have hzw := hw.size;have HS := Lib.hid (state1_any 1 h (hw.trans (hb1.mono hw.size)) hB d F A cp r hd hrl (hr.below hb1));have HK : Hid (KeptB b B w w1) := KeptB.of_below hb1 (by omega);have HW := Lib.hid hw1;clear h hw hB hr hb1 hw1;generalize stateS 1 1 c d r = oc at *
 generalize r.length = rl at *
 go_enter Tryz.func74, Tryz.ntmps74
 go_wp2_with fail
 rw [<- HW.out];refine HS.out.mono ?_;rintro e w2 hm;obtain ⟨q, rfl⟩ := hm.bool;have HM := Lib.hid (hm.from_ HK.out);clear hm;go_wp2;go_ret;exact HM.out
theorem one_m : Method 77 (stateS 2 2) := by
 intro b B w0 w c eV vV sV tV sp tp d F A cp r h hw hB hd hrl hr _ _;obtain ⟨w1, hw1⟩ : ∃ W, W = w.alloc (.cells #[.int .i64 d, .string F, .slice A r.length cp] 74) := ⟨_, rfl⟩
 have hb1 : Below w.heap.size w w1 := hw1 ▸ (Below.refl w.heap.size w).alloc (Nat.le_refl _) _;have hle := h.le;have hzw := hw.size;have HS := Lib.hid (state2_any 2 h (hw.trans (hb1.mono hw.size)) hB d F A cp r hd hrl (hr.below hb1));have HK : Hid (KeptB b B w w1) := KeptB.of_below hb1 (by omega);have HW := Lib.hid hw1;clear h hw hB hr hb1 hw1;generalize stateS 2 2 c d r = oc at *
 generalize r.length = rl at *
 go_enter Tryz.func77, Tryz.ntmps77
 go_wp2_with fail
 rw [<- HW.out];refine HS.out.mono ?_;rintro e w2 hm;obtain ⟨q, rfl⟩ := hm.bool;have HM := Lib.hid (hm.from_ HK.out);clear hm;go_wp2;go_ret;exact HM.out
end Go.Proofs.YtcnfcililiehlaaGreatDoor.Ch
