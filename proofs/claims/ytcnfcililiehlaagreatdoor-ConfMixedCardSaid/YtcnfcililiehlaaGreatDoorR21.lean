/- Own texts, joined: Xn, Xp. -/
import Derived.Test.YtcnfcililiehlaaGreatDoorR20
namespace Go.Proofs.YtcnfcililiehlaaGreatDoor.Ch.Vd
open Go.RowKit
set_option maxRecDepth 100000
structure BoxC (w : World) (g : Nat) (c : CH) (eV vV sV tV : Value) (sp : List SP) (tp : List TP) : Prop where
 ch : ChM w c eV vV sV tV sp tp
 c0 : w.cell? ⟨g, 0, none⟩ = some (bstr c.nm)
 c1 : w.cell? ⟨g, 1, none⟩ = some eV
 c2 : w.cell? ⟨g, 2, none⟩ = some vV
 c3 : w.cell? ⟨g, 3, none⟩ = some sV
 c4 : w.cell? ⟨g, 4, none⟩ = some tV
section
variable {w : World} {g : Nat} {c : CH} {eV vV sV tV : Value} {sp : List SP} {tp : List TP}
theorem BoxC.below {w' : World} (h : BoxC w g c eV vV sV tV sp tp) (hb : Below w.heap.size w w') : BoxC w' g c eV vV sV tV sp tp :=
 ⟨h.ch.below hb, (hb.cell (cell_lt h.c0)).trans h.c0, (hb.cell (cell_lt h.c1)).trans h.c1, (hb.cell (cell_lt h.c2)).trans h.c2, (hb.cell (cell_lt h.c3)).trans h.c3, (hb.cell (cell_lt h.c4)).trans h.c4⟩
theorem BoxC.open (h : BoxC w g c eV vV sV tV sp tp) : ∃ (M : ByteArray) (A1 A2 A3 A4 : Option Addr) (k1 k2 k3 k4 : Nat), bstr c.nm = .string M /\ eV = .slice A1 c.es.length k1 /\ vV = .slice A2 c.vs.length k2 /\ sV = .slice A3 sp.length k3 /\ tV = .slice A4 tp.length k4 /\
 w.cell? ⟨g, 0, none⟩ = some (.string M) /\ w.cell? ⟨g, 1, none⟩ = some (.slice A1 c.es.length k1) /\ w.cell? ⟨g, 2, none⟩ = some (.slice A2 c.vs.length k2) /\ w.cell? ⟨g, 3, none⟩ = some (.slice A3 sp.length k3) /\ w.cell? ⟨g, 4, none⟩ = some (.slice A4 tp.length k4) := by
 obtain ⟨M, hM, _⟩ := bstr_some c.nm;obtain ⟨⟨A1, k1, e1⟩, ⟨A2, k2, e2⟩, ⟨A3, k3, e3⟩, ⟨A4, k4, e4⟩⟩ := h.ch.forms;exact ⟨M, A1, A2, A3, A4, k1, k2, k3, k4, hM, e1, e2, e3, e4, hM ▸ h.c0, e1 ▸ h.c1, e2 ▸ h.c2, e3 ▸ h.c3, e4 ▸ h.c4⟩
theorem q1_any (h : BoxC w g c eV vV sV tV sp tp) : Calls Tryz.prog 120 #[.pointer (some ⟨g, 0, none⟩)] w fun e w' => e = .returned (.int .i64 (unE (shortB c) 4)) /\ Below w.heap.size w w' := by
 have HC := Lib.hid (isShort_any h.ch);obtain ⟨M, A1, A2, A3, A4, k1, k2, k3, k4, hM, rfl, rfl, rfl, rfl, d0, d1, d2, d3, d4⟩ := h.open;unfold chA at HC;rw [hM] at HC;clear h hM;generalize c.es.length = n1 at *; generalize c.vs.length = n2 at *; generalize sp.length = n3 at *; generalize tp.length = n4 at *
 go_enter Tryz.func120, Tryz.ntmps120
 go_wp2_with fail
 refine HC.out.mono ?_;rintro e w2 ⟨rfl, hb2⟩;have HB2 := Lib.hid hb2; clear hb2
 go_wp2_with fail
 refine (unl_any _ _ _).mono ?_;rintro e w3 ⟨rfl, hb3⟩;have HB3 := Lib.hid (HB2.out.trans (hb3.mono HB2.out.size)); clear hb3;go_wp2;go_ret;exact ⟨rfl, HB3.out⟩
theorem q2_any (h : BoxC w g c eV vV sV tV sp tp) (hs : Sm c sp tp) : Calls Tryz.prog 123 #[.pointer (some ⟨g, 0, none⟩)] w fun e w' => e = .returned (.int .i64 (unE (namedB c) 2)) /\ Below w.heap.size w w' := by
 have HC := Lib.hid (isNamed_any h.ch hs.es hs.vs hs.ss);obtain ⟨M, A1, A2, A3, A4, k1, k2, k3, k4, hM, rfl, rfl, rfl, rfl, d0, d1, d2, d3, d4⟩ := h.open;unfold chA at HC;rw [hM] at HC;clear h hM;generalize c.es.length = n1 at *; generalize c.vs.length = n2 at *; generalize sp.length = n3 at *; generalize tp.length = n4 at *
 go_enter Tryz.func123, Tryz.ntmps123
 go_wp2_with fail
 refine HC.out.mono ?_;rintro e w2 ⟨rfl, hb2⟩;have HB2 := Lib.hid hb2; clear hb2
 go_wp2_with fail
 refine (unl_any _ _ _).mono ?_;rintro e w3 ⟨rfl, hb3⟩;have HB3 := Lib.hid (HB2.out.trans (hb3.mono HB2.out.size)); clear hb3;go_wp2;go_ret;exact ⟨rfl, HB3.out⟩
theorem q3_any (h : BoxC w g c eV vV sV tV sp tp) (hs : Sm c sp tp) (hec : ∀ A n k, eV = .slice A n k -> n <= k) : Calls Tryz.prog 125 #[.pointer (some ⟨g, 0, none⟩)] w fun e w' => e = .returned (.int .i64 (unE (apartB c) 3)) /\ Below w.heap.size w w' := by
 have HC := Lib.hid (isApart_any h.ch hec hs.es hs.vs hs.ss);obtain ⟨M, A1, A2, A3, A4, k1, k2, k3, k4, hM, rfl, rfl, rfl, rfl, d0, d1, d2, d3, d4⟩ := h.open;unfold chA at HC;rw [hM] at HC;clear h hM;generalize c.es.length = n1 at *; generalize c.vs.length = n2 at *; generalize sp.length = n3 at *; generalize tp.length = n4 at *
 go_enter Tryz.func125, Tryz.ntmps125
 go_wp2_with fail
 refine HC.out.mono ?_;rintro e w2 ⟨rfl, hb2⟩;have HB2 := Lib.hid hb2; clear hb2
 go_wp2_with fail
 refine (unl_any _ _ _).mono ?_;rintro e w3 ⟨rfl, hb3⟩;have HB3 := Lib.hid (HB2.out.trans (hb3.mono HB2.out.size)); clear hb3;go_wp2;go_ret;exact ⟨rfl, HB3.out⟩
theorem cRight (h : ChM w c eV vV sV tV sp tp) (hl : sp.length <= 4611686018427387904) : Calls Tryz.prog 128 #[sV] w fun e w' => e = .returned (.bool (decide (treeP c))) /\ Below w.heap.size w w' := by
 have := Tr.right_any sV (sp.map toT) w h.rdT (by rw [List.length_map]; exact hl);rw [dp_toT h, kp_toT h, List.length_map, h.sLen] at this;refine this.mono fun e w' ⟨he, hb⟩ => ⟨he.trans ?_, hb⟩
 congr 2
 all_goals (first | rfl | (rw [Bool.eq_iff_iff, decide_eq_true_iff, decide_eq_true_iff]; rfl))
theorem q4_any (h : BoxC w g c eV vV sV tV sp tp) (hs : Sm c sp tp) : Calls Tryz.prog 127 #[.pointer (some ⟨g, 0, none⟩)] w fun e w' => e = .returned (.int .i64 (unE (decide (treeP c)) 9)) /\ Below w.heap.size w w' := by
 have hss := hs.ss;have HC := Lib.hid (cRight h.ch (by omega));obtain ⟨M, A1, A2, A3, A4, k1, k2, k3, k4, hM, rfl, rfl, rfl, rfl, d0, d1, d2, d3, d4⟩ := h.open;clear h hM hs;generalize c.es.length = n1 at *; generalize c.vs.length = n2 at *; generalize sp.length = n3 at *; generalize tp.length = n4 at *
 go_enter Tryz.func127, Tryz.ntmps127
 go_wp2_with fail
 refine HC.out.mono ?_;rintro e w2 ⟨rfl, hb2⟩;have HB2 := Lib.hid hb2; clear hb2
 go_wp2_with fail
 refine (unl_any _ _ _).mono ?_;rintro e w3 ⟨rfl, hb3⟩;have HB3 := Lib.hid (HB2.out.trans (hb3.mono HB2.out.size)); clear hb3;go_wp2;go_ret;exact ⟨rfl, HB3.out⟩
theorem q5At_any (h : BoxC w g c eV vV sV tV sp tp) (hT : treeP c) (i : Nat) (hi : i < sp.length) : Calls Tryz.prog 131 (#[.int .i64 i] ++ #[.pointer (some ⟨g, 0, none⟩)]) w fun e w' => e = .returned (.int .i64 (initE c.ss i)) /\ Below w.heap.size w w' := by
 have HC := Lib.hid (initial_any h.ch hT i hi);obtain ⟨M, A1, A2, A3, A4, k1, k2, k3, k4, hM, rfl, rfl, rfl, rfl, d0, d1, d2, d3, d4⟩ := h.open;unfold chA at HC;rw [hM] at HC;clear h hM hT;generalize c.es.length = n1 at *; generalize c.vs.length = n2 at *; generalize sp.length = n3 at *; generalize tp.length = n4 at *
 go_enter Tryz.func131, Tryz.ntmps131
 go_wp2_with fail
 refine HC.out.mono ?_;rintro e w2 ⟨rfl, hb2⟩;have HB2 := Lib.hid hb2; clear hb2;go_wp2;go_ret;exact ⟨rfl, HB2.out⟩
theorem q8At_any (h : BoxC w g c eV vV sV tV sp tp) (hs : Sm c sp tp) (hsb : Sb c) (hT : treeP c) (hnd : (stN c).Nodup) (i : Nat) (hi : i < tp.length) : Calls Tryz.prog 140 (#[.int .i64 i] ++ #[.pointer (some ⟨g, 0, none⟩)]) w fun e w' => e = .returned (.int .i64 (transE c i)) /\ Below w.heap.size w w' := by
 have HC := Lib.hid (transition_any h.ch hs hsb hT hnd i hi);obtain ⟨M, A1, A2, A3, A4, k1, k2, k3, k4, hM, rfl, rfl, rfl, rfl, d0, d1, d2, d3, d4⟩ := h.open;unfold chA at HC;rw [hM] at HC;clear h hM hs hsb hT hnd;generalize c.es.length = n1 at *; generalize c.vs.length = n2 at *; generalize sp.length = n3 at *; generalize tp.length = n4 at *
 go_enter Tryz.func140, Tryz.ntmps140
 go_wp2_with fail
 refine HC.out.mono ?_;rintro e w2 ⟨rfl, hb2⟩;have HB2 := Lib.hid hb2; clear hb2;go_wp2;go_ret;exact ⟨rfl, HB2.out⟩
theorem q6At_any (h : BoxC w g c eV vV sV tV sp tp) (i : Nat) (hi : i < c.vs.length) : Calls Tryz.prog 134 (#[.int .i64 i] ++ #[.pointer (some ⟨g, 0, none⟩)]) w fun e w' => e = .returned (.int .i64 (varAt c i)) /\ Below w.heap.size w w' := by
 have hva : varAt c i = varE c.vs[i] := by unfold varAt; rw [List.getElem?_eq_getElem hi]
 rw [hva];have hR := h.ch.vs;obtain ⟨M, A1, A2, A3, A4, k1, k2, k3, k4, hM, rfl, rfl, rfl, rfl, d0, d1, d2, d3, d4⟩ := h.open;obtain ⟨b, o, X, rfl, -, -, e0, e1, e2, e3, e4, e5, e6⟩ := va_at hR rfl hi;have HC := Lib.hid (variable_any c.vs[i] X w);unfold vaA at HC;clear h hM hR hva;generalize c.vs[i] = v at *
 generalize c.es.length = n1 at *; generalize c.vs.length = n2 at *; generalize sp.length = n3 at *; generalize tp.length = n4 at *
 go_enter Tryz.func134, Tryz.ntmps134
 go_wp2_with fail
 refine HC.out.mono ?_;rintro e w2 ⟨rfl, hb2⟩;have HB2 := Lib.hid hb2; clear hb2;go_wp2;go_ret;exact ⟨rfl, HB2.out⟩
set_option maxHeartbeats 4000000 in
theorem q7At_any (h : BoxC w g c eV vV sV tV sp tp) (hs : Sm c sp tp) (hsb : Sb c) (i : Nat) (hi : i < sp.length) : Calls Tryz.prog 137 (#[.int .i64 i] ++ #[.pointer (some ⟨g, 0, none⟩)]) w fun e w' => e = .returned (.int .i64 (blocksAt c i)) /\ Below w.heap.size w w' := by
 have hba : blocksAt c i = blocksE c (sp[i]).1 := by unfold blocksAt; rw [<- h.ch.ssE, List.getElem?_map, List.getElem?_eq_getElem hi]; rfl
 have hmem : (sp[i]).1 ∈ c.ss := by rw [<- h.ch.ssE]; exact List.mem_map.2 ⟨_, List.getElem_mem hi, rfl⟩
 obtain ⟨hb1, hb2⟩ := hsb.en _ hmem;have hst := h.ch.sd _ (List.getElem_mem hi);have hR := h.ch.ss; have hD := h.ch.sd; have hch := h.ch;obtain ⟨M, A1, A2, A3, A4, k1, k2, k3, k4, hM, rfl, rfl, rfl, rfl, d0, d1, d2, d3, d4⟩ := h.open;obtain ⟨b, o, X, Y, E4, m4, q4, E5, m5, q5, rfl, -, -, -, -, -, h4, h5, e0, e1, e2, e3, e4, e5⟩ := st_at hR rfl hD hi;have hBK := fun W (hW : Below w.heap.size w W) => blocks_any (hch.below hW) hs sp[i] (hst.below hW) hb1 hb2 X Y
 unfold chA at hBK;rw [hM, h4, h5] at hBK;have HBK := Lib.hid hBK; have HAT := Lib.hid hba;obtain ⟨ER, hER⟩ : ∃ x, blocksE c (sp[i]).1 = x := ⟨_, rfl⟩
 rw [hER] at HBK HAT;have HBW : Hid (∀ w1, Below w.heap.size w.drew w1 -> Below w.heap.size w w1) := fun w1 hb => (Below.refl _ _).drew.trans hb
 clear h hM hR hD hch hst hBK hba hmem hb1 hb2 h4 h5 hER hs hsb;generalize (sp[i]).1.kd = kd at *
 generalize (sp[i]).1.dp = dd at *
 generalize blocksAt c i = RA at *
 generalize c.es.length = n1 at *; generalize c.vs.length = n2 at *; generalize sp.length = n3 at *; generalize tp.length = n4 at *
 go_enter Tryz.func137, Tryz.ntmps137
 go_wp2_with fail
 refine Oy.region_quiet 11 [Oy.eqD (.agg #[.string M, .slice A1 n1 k1, .slice A2 n2 k2, .slice (some ⟨b, o, none⟩) n3 k3, .slice A4 n4 k4]), Oy.eqD (.pointer (some ⟨g, 3, none⟩)), Oy.eqD (.slice (some ⟨b, o, none⟩) n3 k3), Oy.eqD (.int .i64 i), Oy.eqD (.pointer (some ⟨b, o + i * 6, none⟩)), Oy.eqD (.agg #[.string X, .int .i64 kd, .int .i64 dd, .string Y, .slice E4 m4 q4, .slice E5 m5 q5]), Oy.eqD (.int .i64 ER), Oy.eqD (.int .i64 ER)] [[], [], [], [], [], [], [], []] (by kernel_rfl) rfl (by kernel_rfl) (by kernel_rfl) ⟨Oy.keeps_eq _, Oy.keeps_eq _, Oy.keeps_eq _, Oy.keeps_eq _, Oy.keeps_eq _, Oy.keeps_eq _, Oy.keeps_eq _, Oy.keeps_eq _, trivial⟩ ?_;refine Oy.walk_q ?_ fun x4 => ?_
 ·intro w1 hb hd K hK;clear hd;have c_d0 := (hb.cell (cell_lt d0)).trans d0;have c_d1 := (hb.cell (cell_lt d1)).trans d1;have c_d2 := (hb.cell (cell_lt d2)).trans d2;have c_d3 := (hb.cell (cell_lt d3)).trans d3;have c_d4 := (hb.cell (cell_lt d4)).trans d4;go_simp;exact hK _ _ (Below.refl _ _) rfl
 refine Oy.walk_q ?_ fun x5 => ?_
 ·intro w1 hb hd K hK;clear hd;go_simp;exact hK _ _ (Below.refl _ _) rfl
 refine Oy.walk_q ?_ fun x6 => ?_
 ·intro w1 hb hd K hK;obtain rfl : _ = x5 := Eq.symm (hd 1 (by kernel_rfl));clear hd;have c_d3 := (hb.cell (cell_lt d3)).trans d3;go_simp;exact hK _ _ (Below.refl _ _) rfl
 refine Oy.walk_q ?_ fun x7 => ?_
 ·intro w1 hb hd K hK;clear hd;go_simp;exact hK _ _ (Below.refl _ _) rfl
 refine Oy.walk_q ?_ fun x8 => ?_
 ·intro w1 hb hd K hK;obtain rfl : _ = x6 := Eq.symm (hd 2 (by kernel_rfl));obtain rfl : _ = x7 := Eq.symm (hd 3 (by kernel_rfl));clear hd;go_simp;exact hK _ _ (Below.refl _ _) rfl
 refine Oy.walk_q ?_ fun x9 => ?_
 ·intro w1 hb hd K hK;obtain rfl : _ = x8 := Eq.symm (hd 4 (by kernel_rfl));clear hd;have c_e0 := (hb.cell (cell_lt e0)).trans e0;have c_e1 := (hb.cell (cell_lt e1)).trans e1;have c_e2 := (hb.cell (cell_lt e2)).trans e2;have c_e3 := (hb.cell (cell_lt e3)).trans e3;have c_e4 := (hb.cell (cell_lt e4)).trans e4;have c_e5 := (hb.cell (cell_lt e5)).trans e5;go_simp;exact hK _ _ (Below.refl _ _) rfl
 refine Oy.walk_q ?_ fun x10 => ?_
 ·intro w1 hb hd K hK;obtain rfl : _ = x4 := Eq.symm (hd 0 (by kernel_rfl));obtain rfl : _ = x9 := Eq.symm (hd 5 (by kernel_rfl));clear hd;go_simp;refine (HBK.out w1 (HBW.out w1 hb)).mono ?_;rintro e w5 ⟨rfl, hb5⟩;go_simp;exact hK _ _ hb5 rfl
 refine Oy.walk_q ?_ fun x3 => ?_
 ·intro w1 hb hd K hK;obtain rfl : _ = x10 := Eq.symm (hd 6 (by kernel_rfl));clear hd;go_simp;exact hK _ _ (Below.refl _ _) rfl
 refine Oy.walk_nil rfl (fun w1 hb hd => ?_);obtain rfl : _ = x4 := Eq.symm (hd 0 (by kernel_rfl));obtain rfl : _ = x5 := Eq.symm (hd 1 (by kernel_rfl));obtain rfl : _ = x6 := Eq.symm (hd 2 (by kernel_rfl));obtain rfl : _ = x7 := Eq.symm (hd 3 (by kernel_rfl));obtain rfl : _ = x8 := Eq.symm (hd 4 (by kernel_rfl));obtain rfl : _ = x9 := Eq.symm (hd 5 (by kernel_rfl));obtain rfl : _ = x10 := Eq.symm (hd 6 (by kernel_rfl));obtain rfl : _ = x3 := Eq.symm (hd 7 (by kernel_rfl));clear hd;have HBZ := Lib.hid (HBW.out w1 hb);clear hb;go_simp;go_wp2;go_ret;exact ⟨ret_int HAT.out.symm, HBZ.out⟩
theorem q5_any (h : BoxC w g c eV vV sV tV sp tp) (hs : Sm c sp tp) (hT : treeP c) : Calls Tryz.prog 129 #[.pointer (some ⟨g, 0, none⟩)] w fun e w' => e = .returned (.int .i64 (firE (initE c.ss) sp.length)) /\ Below w.heap.size w w' := by
 have hx1 := hs.vs; have hx2 := hs.ss; have hx3 := hs.ts;have HC := Lib.hid (first_any sp.length 131 #[.pointer (some ⟨g, 0, none⟩)] (initE c.ss) w (by omega) (enters_of Tryz.func131 (by kernel_rfl) rfl) (fun W i hW hi => q5At_any (h.below hW) hT i hi));obtain ⟨M, A1, A2, A3, A4, k1, k2, k3, k4, hM, rfl, rfl, rfl, rfl, d0, d1, d2, d3, d4⟩ := h.open;clear h hM hs hx1 hx2 hx3;generalize c.es.length = n1 at *; generalize c.vs.length = n2 at *; generalize sp.length = n3 at *; generalize tp.length = n4 at *
 go_enter Tryz.func129, Tryz.ntmps129
 go_wp2_with fail
 refine HC.out.mono ?_;rintro e w2 ⟨rfl, hb2⟩;have HB2 := Lib.hid hb2; clear hb2;go_wp2;go_ret;exact ⟨rfl, HB2.out⟩
theorem q6_any (h : BoxC w g c eV vV sV tV sp tp) (hs : Sm c sp tp) : Calls Tryz.prog 133 #[.pointer (some ⟨g, 0, none⟩)] w fun e w' => e = .returned (.int .i64 (firE (varAt c) c.vs.length)) /\ Below w.heap.size w w' := by
 have hx1 := hs.vs; have hx2 := hs.ss; have hx3 := hs.ts;have HC := Lib.hid (first_any c.vs.length 134 #[.pointer (some ⟨g, 0, none⟩)] (varAt c) w (by omega) (enters_of Tryz.func134 (by kernel_rfl) rfl) (fun W i hW hi => q6At_any (h.below hW) i hi));obtain ⟨M, A1, A2, A3, A4, k1, k2, k3, k4, hM, rfl, rfl, rfl, rfl, d0, d1, d2, d3, d4⟩ := h.open;clear h hM hs hx1 hx2 hx3;generalize c.es.length = n1 at *; generalize c.vs.length = n2 at *; generalize sp.length = n3 at *; generalize tp.length = n4 at *
 go_enter Tryz.func133, Tryz.ntmps133
 go_wp2_with fail
 refine HC.out.mono ?_;rintro e w2 ⟨rfl, hb2⟩;have HB2 := Lib.hid hb2; clear hb2;go_wp2;go_ret;exact ⟨rfl, HB2.out⟩
theorem q7_any (h : BoxC w g c eV vV sV tV sp tp) (hs : Sm c sp tp) (hsb : Sb c) : Calls Tryz.prog 136 #[.pointer (some ⟨g, 0, none⟩)] w fun e w' => e = .returned (.int .i64 (firE (blocksAt c) sp.length)) /\ Below w.heap.size w w' := by
 have hx1 := hs.vs; have hx2 := hs.ss; have hx3 := hs.ts;have HC := Lib.hid (first_any sp.length 137 #[.pointer (some ⟨g, 0, none⟩)] (blocksAt c) w (by omega) (enters_of Tryz.func137 (by kernel_rfl) rfl) (fun W i hW hi => q7At_any (h.below hW) hs hsb i hi));obtain ⟨M, A1, A2, A3, A4, k1, k2, k3, k4, hM, rfl, rfl, rfl, rfl, d0, d1, d2, d3, d4⟩ := h.open;clear h hM hs hx1 hx2 hx3;generalize c.es.length = n1 at *; generalize c.vs.length = n2 at *; generalize sp.length = n3 at *; generalize tp.length = n4 at *
 go_enter Tryz.func136, Tryz.ntmps136
 go_wp2_with fail
 refine HC.out.mono ?_;rintro e w2 ⟨rfl, hb2⟩;have HB2 := Lib.hid hb2; clear hb2;go_wp2;go_ret;exact ⟨rfl, HB2.out⟩
theorem q8_any (h : BoxC w g c eV vV sV tV sp tp) (hs : Sm c sp tp) (hsb : Sb c) (hT : treeP c) (hnd : (stN c).Nodup) : Calls Tryz.prog 139 #[.pointer (some ⟨g, 0, none⟩)] w fun e w' => e = .returned (.int .i64 (firE (transE c) tp.length)) /\ Below w.heap.size w w' := by
 have hx1 := hs.vs; have hx2 := hs.ss; have hx3 := hs.ts;have HC := Lib.hid (first_any tp.length 140 #[.pointer (some ⟨g, 0, none⟩)] (transE c) w (by omega) (enters_of Tryz.func140 (by kernel_rfl) rfl) (fun W i hW hi => q8At_any (h.below hW) hs hsb hT hnd i hi));obtain ⟨M, A1, A2, A3, A4, k1, k2, k3, k4, hM, rfl, rfl, rfl, rfl, d0, d1, d2, d3, d4⟩ := h.open;clear h hM hs hx1 hx2 hx3;generalize c.es.length = n1 at *; generalize c.vs.length = n2 at *; generalize sp.length = n3 at *; generalize tp.length = n4 at *
 go_enter Tryz.func139, Tryz.ntmps139
 go_wp2_with fail
 refine HC.out.mono ?_;rintro e w2 ⟨rfl, hb2⟩;have HB2 := Lib.hid hb2; clear hb2;go_wp2;go_ret;exact ⟨rfl, HB2.out⟩
end
end Go.Proofs.YtcnfcililiehlaaGreatDoor.Ch.Vd
namespace Go.Proofs.YtcnfcililiehlaaGreatDoor.Ch.Vd
open Go.RowKit
set_option maxRecDepth 100000
noncomputable def qE (c : CH) : Nat -> Int
 | 0 => unE (shortB c) 4
 | 1 => unE (namedB c) 2
 | 2 => unE (apartB c) 3
 | 3 => unE (decide (treeP c)) 9
 | 4 => firE (initE c.ss) c.ss.length
 | 5 => firE (varAt c) c.vs.length
 | 6 => firE (blocksAt c) c.ss.length
 | 7 => firE (transE c) c.ts.length
 | _ => 0
theorem unE_zero {b : Bool} {e : Int} (he : e ≠ 0) : unE b e = 0 ↔ b = true := by
 unfold unE;cases b
 ·exact ⟨fun h => absurd (by simpa using h) he, fun h => by cases h⟩
 ·exact ⟨fun _ => rfl, fun _ => rfl⟩
theorem check_qE (c : CH) : checkE c = firE (qE c) 8 := by
 have e : firE (qE c) 8 = orE (qE c 0) (orE (qE c 1) (orE (qE c 2) (orE (qE c 3) (orE (qE c 4) (orE (qE c 5) (orE (qE c 6) (orE (qE c 7) 0))))))) := rfl;rw [e];show checkE c = orE (unE (shortB c) 4) (orE (unE (namedB c) 2) (orE (unE (apartB c) 3) (orE (unE (decide (treeP c)) 9) (orE (firE (initE c.ss) c.ss.length) (orE (firE (varAt c) c.vs.length) (orE (firE (blocksAt c) c.ss.length) (orE (firE (transE c) c.ts.length) 0)))))));have h0 : ∀ x : Int, orE x 0 = x := fun x => by unfold orE; split; rfl; omega
 rw [h0];unfold checkE partsE;cases shortB c with
 | false => rfl
 | true =>
  cases namedB c with
  | false => rfl
  | true =>
   cases apartB c with
   | false => rfl
   | true =>
    by_cases hT : treeP c
    ·rw [decide_eq_true hT, if_neg (by decide), if_neg (by decide), if_neg (by decide), if_neg (fun k => k hT)]; rfl
    ·rw [decide_eq_false hT, if_neg (by decide), if_neg (by decide), if_neg (by decide), if_pos hT]; rfl
theorem fir_from {f : Nat -> Int} {n : Nat} : ∀ {k : Nat}, (∀ j, j < k -> f j = 0) -> k <= n -> firF f (n - k) k = firE f n
 | 0, _, _ => rfl
 | k + 1, h, hk => by
  have ih := fir_from (f := f) (n := n) (k := k) (fun j hj => h j (by omega)) (by omega);rw [firF_step f (show k < n by omega), if_neg (fun hne => hne (h k (by omega)))] at ih;exact ih
section
variable {w : World} {g : Nat} {c : CH} {eV vV sV tV : Value} {sp : List SP} {tp : List TP}
theorem sm_of_short (h : ChM w c eV vV sV tV sp tp) (hb : shortB c = true) : Sm c sp tp := by
 unfold shortB at hb;simp only [Bool.and_eq_true, decide_eq_true_eq] at hb;obtain ⟨h1, h2, h3, h4⟩ := hb;exact ⟨by omega, by omega, by rw [h.sLen]; omega, by rw [h.tLen]; omega⟩
def askF : Nat -> FuncId
 | 0 => 120
 | 1 => 123
 | 2 => 125
 | 3 => 127
 | 4 => 129
 | 5 => 133
 | 6 => 136
 | _ => 139
theorem ask_any (h : BoxC w g c eV vV sV tV sp tp) (hec : ∀ A n k, eV = .slice A n k -> n <= k) (hsb : Sb c) {k : Nat} (hk : k < 8) (hp : ∀ j, j < k -> qE c j = 0) :
 Calls Tryz.prog (askF k) #[.pointer (some ⟨g, 0, none⟩)] w fun e w' => e = .returned (.int .i64 (qE c k)) /\ Below w.heap.size w w' := by
 have hS : 0 < k -> Sm c sp tp := fun h0 => sm_of_short h.ch ((unE_zero (by decide)).1 (hp 0 h0))
 have hT : 3 < k -> treeP c := fun h0 => by
  have := (unE_zero (by decide)).1 (hp 3 h0);exact of_decide_eq_true this
 have hN : 2 < k -> (stN c).Nodup := fun h0 => by
  have := (unE_zero (by decide)).1 (hp 2 h0);unfold apartB apartL at this;simp only [Bool.and_eq_true, decide_eq_true_eq] at this;exact this.2.2
 have hs3 : sp.length = c.ss.length := h.ch.sLen;have hs4 : tp.length = c.ts.length := h.ch.tLen;rcases (show k = 0 \/ k = 1 \/ k = 2 \/ k = 3 \/ k = 4 \/ k = 5 \/ k = 6 \/ k = 7 by omega) with rfl | rfl | rfl | rfl | rfl | rfl | rfl | rfl
 ·exact q1_any h
 ·exact q2_any h (hS (by omega))
 ·exact q3_any h (hS (by omega)) hec
 ·exact q4_any h (hS (by omega))
 ·have := q5_any h (hS (by omega)) (hT (by omega)); rw [hs3] at this; exact this
 ·exact q6_any h (hS (by omega))
 ·have := q7_any h (hS (by omega)) hsb; rw [hs3] at this; exact this
 ·have := q8_any h (hS (by omega)) hsb (hT (by omega)) (hN (by omega)); rw [hs4] at this; exact this
theorem ask_enters (k : Nat) : ∀ args w, (callFunc (askF k) args).run Tryz.prog w = .ok (.enter (askF k) args) w := by
 match k with
 | 0 => exact enters_of Tryz.func120 (by kernel_rfl) rfl
 | 1 => exact enters_of Tryz.func123 (by kernel_rfl) rfl
 | 2 => exact enters_of Tryz.func125 (by kernel_rfl) rfl
 | 3 => exact enters_of Tryz.func127 (by kernel_rfl) rfl
 | 4 => exact enters_of Tryz.func129 (by kernel_rfl) rfl
 | 5 => exact enters_of Tryz.func133 (by kernel_rfl) rfl
 | 6 => exact enters_of Tryz.func136 (by kernel_rfl) rfl
 | _ + 7 => exact enters_of Tryz.func139 (by kernel_rfl) rfl
end
def rowF (g : Nat) : Array Value := #[.func (.func 120) #[] #[.pointer (some ⟨g, 0, none⟩)], .func (.func 123) #[] #[.pointer (some ⟨g, 0, none⟩)], .func (.func 125) #[] #[.pointer (some ⟨g, 0, none⟩)], .func (.func 127) #[] #[.pointer (some ⟨g, 0, none⟩)], .func (.func 129) #[] #[.pointer (some ⟨g, 0, none⟩)], .func (.func 133) #[] #[.pointer (some ⟨g, 0, none⟩)], .func (.func 136) #[] #[.pointer (some ⟨g, 0, none⟩)], .func (.func 139) #[] #[.pointer (some ⟨g, 0, none⟩)]]
theorem rowF_at (g : Nat) {k : Nat} (hk : k < 8) : (rowF g)[k]? = some (.func (.func (askF k)) #[] #[.pointer (some ⟨g, 0, none⟩)]) := by
 rcases (show k = 0 \/ k = 1 \/ k = 2 \/ k = 3 \/ k = 4 \/ k = 5 \/ k = 6 \/ k = 7 by omega) with rfl | rfl | rfl | rfl | rfl | rfl | rfl | rfl <;> rfl
theorem questions_any (x0 x1 x2 x3 x4 : Value) (w : World) (h0 : ∃ X, x0 = .string X) (h1 : ∃ A n k, x1 = .slice A n k) (h2 : ∃ A n k, x2 = .slice A n k) (h3 : ∃ A n k, x3 = .slice A n k) (h4 : ∃ A n k, x4 = .slice A n k) :
 Calls Tryz.prog 87 #[.agg #[x0, x1, x2, x3, x4]] w fun e w' => e = .returned (.slice (some ⟨w.heap.size + 1, 0, none⟩) 8 8) /\ w' = (w.alloc (.cells #[x0, x1, x2, x3, x4] 27)).alloc (.cells (rowF w.heap.size) 104) := by
 obtain ⟨X, rfl⟩ := h0; obtain ⟨A1, n1, k1, rfl⟩ := h1; obtain ⟨A2, n2, k2, rfl⟩ := h2; obtain ⟨A3, n3, k3, rfl⟩ := h3; obtain ⟨A4, n4, k4, rfl⟩ := h4
 go_enter Tryz.func87, Tryz.ntmps87
 go_wp2;go_ret;exact ⟨rfl, rfl⟩
set_option maxHeartbeats 4000000 in
theorem check_any {w : World} {c : CH} {eV vV sV tV : Value} {sp : List SP} {tp : List TP} (h : ChM w c eV vV sV tV sp tp) (hec : ∀ A n k, eV = .slice A n k -> n <= k) (hsb : Sb c) :
 Calls Tryz.prog 49 #[chA c eV vV sV tV] w fun e w' => e = .returned (.int .i64 (checkE c)) /\ Below w.heap.size w w' := by
 rw [check_qE];obtain ⟨M, A1, A2, A3, A4, k1, k2, k3, k4, w1, hM, rfl, rfl, rfl, rfl, hw1, hb1, hz1, d0, d1, d2, d3, d4⟩ := box_ch h;unfold chA;rw [hM];obtain ⟨w2, hw2⟩ : ∃ W, W = (w1.alloc (.cells #[.string M, .slice A1 c.es.length k1, .slice A2 c.vs.length k2, .slice A3 sp.length k3, .slice A4 tp.length k4] 27)).alloc (.cells (rowF w1.heap.size) 104) := ⟨_, rfl⟩
 have hb2 : Below w1.heap.size w1 w2 := hw2 ▸ ((Below.refl _ _).alloc (Nat.le_refl _) _).alloc (by simp) _;have hbx : BoxC w2 w1.heap.size c (.slice A1 c.es.length k1) (.slice A2 c.vs.length k2) (.slice A3 sp.length k3) (.slice A4 tp.length k4) sp tp := by
  refine ⟨(h.below hb1).below hb2, ?_, ?_, ?_, ?_, ?_⟩
  ·rw [hM, hw2]; simp
  ·rw [hw2]; simp
  ·rw [hw2]; simp
  ·rw [hw2]; simp
  ·rw [hw2]; simp
 have hrow : w2.heap[w1.heap.size + 1]? = some (.cells (rowF w1.heap.size) 104 (0, 0)) := by
  have := World.alloc_heap_new (w1.alloc (.cells #[.string M, .slice A1 c.es.length k1, .slice A2 c.vs.length k2, .slice A3 sp.length k3, .slice A4 tp.length k4] 27)) (.cells (rowF w1.heap.size) 104);rw [World.size_alloc] at this;rw [hw2]; exact this
 have HBX := Lib.hid hbx; have HRW := Lib.hid hrow; have HE := Lib.hid hec; have HSB := Lib.hid hsb;have HW := Lib.hid hw1; have HB := Lib.hid hb1; have HX := Lib.hid hw2; have HB2 := Lib.hid (hb1.trans (hb2.mono hb1.size));have hz2 : w1.heap.size + 1 < w2.heap.size := by rw [hw2]; simp
 have HZ2 := Lib.hid hz2;clear h hM hw1 hb1 hw2 hb2 hbx hrow hec hsb hz2;generalize c.es.length = n1 at *; generalize c.vs.length = n2 at *; generalize sp.length = n3 at *; generalize tp.length = n4 at *
 go_enter Tryz.func49, Tryz.ntmps49
 go_wp2_with fail
 rw [<- HW.out]
 go_wp2_with fail
 refine (questions_any _ _ _ _ _ _ ⟨_, rfl⟩ ⟨_, _, _, rfl⟩ ⟨_, _, _, rfl⟩ ⟨_, _, _, rfl⟩ ⟨_, _, _, rfl⟩).mono ?_;rintro e w3 ⟨rfl, h3⟩;rw [<- HX.out] at h3;subst h3;clear d0 d1 d2 d3 d4;obtain ⟨B, hB⟩ : ∃ B, w1.heap.size = B := ⟨_, rfl⟩
 rw [hB] at HBX HRW HZ2 ⊢;clear hz1;have HBE := Lib.hid hB;clear hB;go_wp2
 go_loopw [4, 5, 9] (fun x4 x5 xi wr => (x4 = x4 /\ x5 = x5) /\ ∃ k : Nat, k <= 8 /\ xi = .int .i64 k /\ Hid (∀ j, j < k -> qE c j = 0) /\ Below w3.heap.size w3 wr) (fun _ _ x _ => 8 - (intOf x).toNat)
 case atStart => exact ⟨(by first | exact ⟨rfl, rfl⟩ | trivial | simp), 0, by omega, rfl, fun j hj => by omega, Below.refl _ _⟩
 case round =>
  obtain ⟨_, k, hk, hxi, HQ, hbw⟩ := hrel;subst hxi;have HBL := Lib.hid (HB2.out.trans (hbw.mono HB2.out.size)); have HBW := Lib.hid hbw;have hst := fun (hk8 : k < 8) => firF_step (qE c) hk8
  by_cases hk8 : k < 8
  ·have hrow := (hbw.block (B + 1) HZ2.out).trans HRW.out;have hc : wr.cell? ⟨B + 1, k, none⟩ = some (.func (.func (askF k)) #[] #[.pointer (some ⟨B, 0, none⟩)]) := by
    unfold World.cell?;rw [hrow];exact rowF_at B hk8
   have HC := Lib.hid (ask_any (HBX.out.below hbw) HE.out HSB.out hk8 HQ.out);have hent := ask_enters k;generalize askF k = f at *
   clear hbw hrow hst;by_cases he : qE c k = 0
   ·have HR : Hid (∀ j, j < k + 1 -> qE c j = 0) := fun j hj => by
     rcases Nat.lt_or_ge j k with h | h
     ·exact HQ.out j h
     ·obtain rfl : j = k := by omega
      exact he
    have HE0 := Lib.hid he;clear he
    go_wp2_with fail
    refine HC.out.mono ?_;rintro e w4 ⟨rfl, hb4⟩;rw [HE0.out];have HB4 := Lib.hid (HBW.out.trans (hb4.mono HBW.out.size)); clear hb4;go_wp2
    go_roundw
    case rel => exact ⟨(by first | exact ⟨rfl, rfl⟩ | trivial | simp), k + 1, by omega, by go_num, HR.out, HB4.out⟩
    case measure => simp [intOf] <;> omega
   ·have hr : qE c k = firE (qE c) 8 := by
     have hz : firF (qE c) (8 - k) k = firE (qE c) 8 := fir_from HQ.out hk;rw [<- hz, firF_step (qE c) hk8, if_pos he]
    have HR := Lib.hid hr;have hne := int_ne he;obtain ⟨ek, hek⟩ : ∃ x, qE c k = x := ⟨_, rfl⟩
    rw [hek] at hne HR HC;clear hr he hek
    go_wp2_with fail
    refine HC.out.mono ?_;rintro e w4 ⟨rfl, hb4⟩;have HB4 := Lib.hid (HBL.out.trans (hb4.mono HBL.out.size)); clear hb4;go_wp2;go_ret;exact ⟨ret_int HR.out, HB4.out⟩
  ·obtain rfl : k = 8 := by omega
   have hr : (0 : Int) = firE (qE c) 8 := (firE_zero.2 HQ.out).symm;have HR := Lib.hid hr;clear hr hbw hst;go_wp2;go_ret;exact ⟨ret_int HR.out, HBL.out⟩
end Go.Proofs.YtcnfcililiehlaaGreatDoor.Ch.Vd
