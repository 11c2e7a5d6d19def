/- Own texts, joined: Be, Bf, Bg. -/
import Derived.Test.YtkjkcgbmaojpiaaGreatDoorR26
import Derived.StillTailTactics
namespace Go.Proofs.YtkjkcgbmaojpiaaGreatDoor.Ch
open Go.RowKit
theorem infoStr : (Tryz.prog.info? 9).map (fun i => (i.zero, i.size, i.bytes)) = some (some (.string ByteArray.empty), 1, 16) := by kernel_rfl
theorem keeps_is {base : Nat} {rv : Value} {B : Nat} {e : TypeId} {size n : Nat} {ys : List Value} : Oz.Keeps1 base true (fun v w => v = rv ∧ w.ownsRow B e size v n ys) :=
 fun v w w' row h hg hb hne => ⟨h.1, Oz.keeps_own (base := base) B e size n ys v w w' row h.2 hg hb hne⟩
theorem at5 {w : World} {D : Nat} {x0 x1 x2 x3 x4 : Value} {t : TypeId} (h : w.heap[D]? = some (.cells #[x0, x1, x2, x3, x4] t (0, 0))) :
  w.cell? ⟨D, 0, none⟩ = some x0 ∧ w.cell? ⟨D, 1, none⟩ = some x1 ∧ w.cell? ⟨D, 2, none⟩ = some x2 ∧ w.cell? ⟨D, 3, none⟩ = some x3 ∧ w.cell? ⟨D, 4, none⟩ = some x4 ∧
  w.frozen? ⟨D, 0, none⟩ = false ∧ w.frozen? ⟨D, 1, none⟩ = false ∧ w.frozen? ⟨D, 2, none⟩ = false ∧ w.frozen? ⟨D, 3, none⟩ = false ∧ w.frozen? ⟨D, 4, none⟩ = false := by
 simp [World.cell?, World.frozen?, h]
theorem one_str (X : ByteArray) : ∀ u ∈ [Value.string X], u.oneCell' = true := by intro u hu; simp at hu; subst hu; rfl
structure Env (w : World) : Prop where
 ops : Ops w
 laid : Laid w
 ml : ML w
 pl : Pl.Laid w
theorem Env.below {w w' : World} (h : Env w) (hb : Below w.heap.size w w') : Env w' := ⟨h.ops.below hb, h.laid.below hb, h.ml.below hb, h.pl.below hb⟩
def MPost (b B : Nat) (w : World) (o : Option CH) (e : Ending) (w' : World) : Prop := KeptB b B w w' ∧ match o with
 | none => e = .returned (.bool false)
 | some c' => e = .returned (.bool true) ∧ Rdr b B 63 w' c'
theorem MPost.no {b B : Nat} {w w' : World} {o : Option CH} (ho : o = none) (h : KeptB b B w w') : MPost b B w o (.returned (.bool false)) w' := by subst ho; exact ⟨h, rfl⟩
def Method (f : FuncId) (g : StepS) : Prop := ∀ (b B : Nat) (w0 w : World) (c : CH) (eV vV sV tV : Value) (sp : List SP) (tp : List TP) (d : Nat) (F : ByteArray) (A : Option Addr) (cp : Nat) (r : List (List UInt8)),
 OwnCh b B 63 w0 c eV vV sV tV sp tp → Below w0.heap.size w0 w → Bdd 1000000 c → d ≤ 6000 → r.length ≤ 1000000 → RestR w0 w A cp r → (∀ x ∈ r, x.length ≤ 6000) → Env w →
 Calls Tryz.prog f #[.pointer (some ⟨b, 0, none⟩), .agg #[.int .i64 d, .string F, .slice A r.length cp]] w (MPost b B w (g c d r))
set_option maxRecDepth 100000 in
set_option maxHeartbeats 8000000 in
theorem event_m : Method 65 eventS := by
 intro b B w0 w c eV vV sV tV sp tp d F A cp r h hw hB hd hrl hr _ _
 obtain ⟨w1, hw1⟩ : ∃ W, W = w.alloc (.cells #[.int .i64 d, .string F, .slice A r.length cp] 70) := ⟨_, rfl⟩
 have hb1 : Below w.heap.size w w1 := hw1 ▸ (Below.refl w.heap.size w).alloc (Nat.le_refl _) _
 have d2 : w1.cell? ⟨w.heap.size, 2, none⟩ = some (.slice A r.length cp) := by rw [hw1]; simp
 have dl : w1.cell? ⟨w.heap.size, 0, none⟩ = some (.int .i64 d) ∧ w1.cell? ⟨w.heap.size, 1, none⟩ = some (.string F) := by rw [hw1]; simp
 obtain ⟨d0, d1⟩ := dl
 have hsz1 : w1.heap.size = w.heap.size + 1 := by rw [hw1]; simp
 have h1 := (h.below hw).below hb1
 have hle0 := h.le
 have hzw := hw.size
 have HD := Lib.hid (isHead_any h1 hB d 1 F A cp r hrl (by omega) (by omega))
 have hes := hB.es
 obtain ⟨ie, hi0, hi1, hi2, hi3⟩ := info_of infoStr
 have HE0 := Lib.hid hi0; have HE1 := Lib.hid hi1; have HE2 := Lib.hid hi2; have HE3 := Lib.hid hi3
 have HLT : Hid (∀ g, eV.ownBlock = some g → g < w0.heap.size) := fun g hg => (h.es.lt g hg).2
 have HR := Lib.hid (hr.below hb1); have H1 := Lib.hid h1; have HB1 := Lib.hid hb1; have HW := Lib.hid hw1
 clear h hw hB h1 hr hb1 hw1 hi0 hi1 hi2 hi3
 obtain ⟨q1, hq1⟩ : ∃ q, headB c d 1 r = q := ⟨_, rfl⟩
 have HQ := Lib.hid hq1
 rw [hq1] at HD
 clear hq1
 go_enter Tryz.func65, Tryz.ntmps65
 go_wp2_with fail
 rw [← HW.out]
 refine HD.out.mono ?_
 rintro e w2 ⟨rfl, hb2⟩
 have HO := Lib.hid (H1.out.below hb2)
 have hzz := hb2.size
 have HK : Hid (KeptB b B w w2) := KeptB.of_below (HB1.out.trans (hb2.mono HB1.out.size)) (by omega)
 replace d0 := (hb2.cell (show w.heap.size < _ by omega)).trans d0
 replace d1 := (hb2.cell (show w.heap.size < _ by omega)).trans d1
 replace d2 := (hb2.cell (show w.heap.size < _ by omega)).trans d2
 have HR2 := Lib.hid (HR.out.below hb2)
 clear hb2
 cases q1 with
 | false =>
  have hv : eventS c d r = none := by unfold eventS; rw [HQ.out]; rfl
  have HV := Lib.hid hv; clear hv
  go_wp2
  go_ret
  exact MPost.no HV.out HK.out
 | true =>
  have hr1 : r.length = 1 := by have := HQ.out; unfold headB at this; simp only [Bool.and_eq_true, decide_eq_true_eq] at this; exact this.2
  obtain ⟨q, o, rfl, hq0, hq2, dx⟩ := HR2.out.at_ (k := 0) (by omega)
  obtain ⟨x, hx⟩ : ∃ x, wd r 0 = x := ⟨_, rfl⟩
  obtain ⟨X, hX, hXl⟩ := bstr_some x
  rw [hx, hX] at dx
  rw [hr1] at d2
  have HX := Lib.hid hX
  rw [Nat.add_zero] at dx
  obtain ⟨q2, hq2n⟩ : ∃ q, nameB x = q := ⟨_, rfl⟩
  have HNN : Hid (∀ W, Calls Tryz.prog 101 #[.string X] W fun e w' => e = .returned (.bool (!q2)) ∧ w' = W) := fun W => by have := isNoName_any X W; rw [hXl, hq2n] at this; exact this
  have hv : eventS c d r = if q2 = true then some { c with es := c.es ++ [x] } else none := by
   unfold eventS; rw [HQ.out, hx, hq2n]; simp
  have HV := Lib.hid hv
  clear hv hXl hq2n hx hX
  rw [hr1] at HW
  cases q2 with
  | false =>
   go_wp2_with (go_at_call 101; refine (HNN.out _).mono ?_; rintro e w3 ⟨rfl, h3⟩; obtain rfl := h3)
   go_ret
   exact MPost.no HV.out HK.out
  | true =>
   go_wp2_with (go_at_call 101; refine (HNN.out _).mono ?_; rintro e w3 ⟨rfl, h3⟩; obtain rfl := h3)
   refine Oz.region_two 31 [Ow.eqR (.pointer (some ⟨b, 0, none⟩)), Ow.eqR (.pointer (some ⟨b, 0, none⟩)), Ow.eqR (.pointer (some ⟨b, 0, none⟩)), Ow.eqR (.pointer (some ⟨b, 0, none⟩)), Ow.eqR (.pointer (some ⟨b, 1, none⟩)), fun v w' => v = eV ∧ w'.ownsRow B 9 1 v c.es.length (strsV c.es), Ow.eqR (.pointer (some ⟨w.heap.size, 2, none⟩)), Ow.eqR (.slice (some ⟨q, o, none⟩) 1 cp), Ow.eqR (.pointer (some ⟨q, o, none⟩)), Ow.eqR (.string X), fun v w' => w'.ownsRow B 9 1 v 1 [.string X], fun v w' => w'.ownsRow B 9 1 v (c.es.length + 1) (strsV c.es ++ [.string X]), Ow.eqR (.pointer (some ⟨b, 0, none⟩)), Ow.eqR (.pointer (some ⟨b, 0, none⟩)), Ow.eqR (.pointer (some ⟨b, 1, none⟩)), fun _ w' => ∃ v', w'.heap[b]? = some (.cells #[bstr c.nm, v', vV, sV, tV] 63 (0, 0)) ∧ w'.ownsRow B 9 1 v' (c.es.length + 1) (strsV c.es ++ [.string X])] [false, false, false, false, false, true, false, false, false, false, true, true, false, false, false, false] [none, none, none, none, none, none, none, none, none, none, none, some 5, none, none, none, none] (b) 5 15 (b) (eV) (own_lower (HO.out.es) (Nat.le_of_lt HO.out.lt)) (own_neq (HO.out.es) HO.out.lt) (Nat.le_refl _) ((Nat.lt_of_lt_of_le HO.out.lt HO.out.le)) (by kernel_rfl) rfl (by kernel_rfl) (by kernel_rfl) rfl rfl ⟨Oz.keeps_eq _ _, Oz.keeps_eq _ _, Oz.keeps_eq _ _, Oz.keeps_eq _ _, Oz.keeps_eq _ _, keeps_is, Oz.keeps_eq _ _, Oz.keeps_eq _ _, Oz.keeps_eq _ _, Oz.keeps_eq _ _, Oz.keeps_own _ _ _ _ _, Oz.keeps_own _ _ _ _ _, Oz.keeps_eq _ _, Oz.keeps_eq _ _, Oz.keeps_eq _ _, trivial⟩ ?_
   apply Oz.walk_consL rfl
   ·intro w1 hb hu hd ho K hK
    clear hu hd ho
    go_simp
    exact hK _ _ (Oz.good_same rfl rfl rfl)
   ·intro v; simp only [Act.put, List.setIfInBounds_toArray, List.set_cons_succ, List.set_cons_zero]; exact rfl
   ·intro v; exact (rfl : _ = ([v] : List Value))
   intro x16
   apply Oz.walk_consL rfl
   ·intro w1 hb hu hd ho K hK
    clear hu hd ho
    go_simp
    exact hK _ _ (Oz.good_same rfl rfl rfl)
   ·intro v; simp only [Act.put, List.setIfInBounds_toArray, List.set_cons_succ, List.set_cons_zero]; exact rfl
   ·intro v; exact (rfl : _ = ([x16, v] : List Value))
   intro x17
   apply Oz.walk_consL rfl
   ·intro w1 hb hu hd ho K hK
    have e17 : _ = x17 := Eq.symm (hd 1 (by kernel_rfl))
    subst e17
    clear hu hd ho
    go_simp
    exact hK _ _ (Oz.good_same rfl rfl rfl)
   ·intro v; simp only [Act.put, List.setIfInBounds_toArray, List.set_cons_succ, List.set_cons_zero]; exact rfl
   ·intro v; exact (rfl : _ = ([x16, x17, v] : List Value))
   intro x18
   apply Oz.walk_consL rfl
   ·intro w1 hb hu hd ho K hK
    have e18 : _ = x18 := Eq.symm (hd 2 (by kernel_rfl))
    subst e18
    clear hu hd ho
    go_simp
    exact hK _ _ (Oz.good_same rfl rfl rfl)
   ·intro v; simp only [Act.put, List.setIfInBounds_toArray, List.set_cons_succ, List.set_cons_zero]; exact rfl
   ·intro v; exact (rfl : _ = ([x16, x17, x18, v] : List Value))
   intro x19
   apply Oz.walk_consL rfl
   ·intro w1 hb hu hd ho K hK
    have e19 : _ = x19 := Eq.symm (hd 3 (by kernel_rfl))
    subst e19
    clear hu hd ho
    go_simp
    exact hK _ _ (Oz.good_same rfl rfl rfl)
   ·intro v; simp only [Act.put, List.setIfInBounds_toArray, List.set_cons_succ, List.set_cons_zero]; exact rfl
   ·intro v; exact (rfl : _ = ([x16, x17, x18, x19, v] : List Value))
   intro x20
   apply Oz.walk_consL rfl
   ·intro w1 hb hu hd ho K hK
    have e20 : _ = x20 := Eq.symm (hd 4 (by kernel_rfl))
    subst e20
    have hh : w1.heap[b]? = some (.cells #[bstr c.nm, eV, vV, sV, tV] 63 (0, 0)) := (hu _ (by have := HO.out.lt; have := HO.out.le; simp; omega) (fun j hj => by rcases Oz.cl2_cases hj with ⟨_, h⟩ | ⟨rfl, _⟩; exact absurd h (own_neq (HO.out.es) HO.out.lt); exact Or.inr rfl)).trans HO.out.box
    obtain ⟨b0, b1, b2, b3, b4, g0, g1, g2, g3, g4⟩ := at5 hh
    have hx := Oz.own_same (HO.out.es) (w' := w1) (fun g hg => (hu g (by have := (HO.out.es).lt g hg; simp; omega) (fun j hj => by rcases Oz.cl2_cases hj with ⟨rfl, _⟩ | ⟨rfl, _⟩; exact Or.inl rfl; exact Or.inr rfl)).trans rfl)
    have hbz := hb.size
    clear hu hd ho
    go_simp
    exact hK _ _ (Oz.good_claim rfl (Nat.le_of_lt HO.out.lt) ⟨rfl, hx⟩ hx Oz.cl2_row)
   ·intro v; simp only [Act.put, List.setIfInBounds_toArray, List.set_cons_succ, List.set_cons_zero]; exact rfl
   ·intro v; exact (rfl : _ = ([x16, x17, x18, x19, x20, v] : List Value))
   intro x21
   apply Oz.walk_consL rfl
   ·intro w1 hb hu hd ho K hK
    clear hu hd ho
    go_simp
    exact hK _ _ (Oz.good_same rfl rfl rfl)
   ·intro v; simp only [Act.put, List.setIfInBounds_toArray, List.set_cons_succ, List.set_cons_zero]; exact rfl
   ·intro v; exact (rfl : _ = ([x16, x17, x18, x19, x20, x21, v] : List Value))
   intro x22
   apply Oz.walk_consL rfl
   ·intro w1 hb hu hd ho K hK
    have e22 : _ = x22 := Eq.symm (hd 6 (by kernel_rfl))
    subst e22
    have kq := hu w.heap.size (by simp; omega) (fun j hj => by rcases Oz.cl2_cases hj with ⟨_, h⟩ | ⟨_, h⟩; exact absurd (HLT.out _ h) (by omega); exact absurd h (by have := HO.out.lt; have := HO.out.le; omega))
    have c_d2 := (World.cell?_of_block (w := _) (a := ⟨w.heap.size, _, none⟩) kq).trans d2
    clear hu hd ho
    go_simp
    exact hK _ _ (Oz.good_same rfl rfl rfl)
   ·intro v; simp only [Act.put, List.setIfInBounds_toArray, List.set_cons_succ, List.set_cons_zero]; exact rfl
   ·intro v; exact (rfl : _ = ([x16, x17, x18, x19, x20, x21, x22, v] : List Value))
   intro x23
   apply Oz.walk_consL rfl
   ·intro w1 hb hu hd ho K hK
    have e23 : _ = x23 := Eq.symm (hd 7 (by kernel_rfl))
    subst e23
    clear hu hd ho
    go_simp
    exact hK _ _ (Oz.good_same rfl rfl rfl)
   ·intro v; simp only [Act.put, List.setIfInBounds_toArray, List.set_cons_succ, List.set_cons_zero]; exact rfl
   ·intro v; exact (rfl : _ = ([x16, x17, x18, x19, x20, x21, x22, x23, v] : List Value))
   intro x24
   apply Oz.walk_consL rfl
   ·intro w1 hb hu hd ho K hK
    have e24 : _ = x24 := Eq.symm (hd 8 (by kernel_rfl))
    subst e24
    have kq := hu q (by simp; omega) (fun j hj => by rcases Oz.cl2_cases hj with ⟨_, h⟩ | ⟨_, h⟩; exact absurd (HLT.out _ h) (by omega); exact absurd h (by have := HO.out.lt; have := HO.out.le; omega))
    have c_dx := (World.cell?_of_block (w := _) (a := ⟨q, _, none⟩) kq).trans dx
    clear hu hd ho
    go_simp
    exact hK _ _ (Oz.good_same rfl rfl rfl)
   ·intro v; simp only [Act.put, List.setIfInBounds_toArray, List.set_cons_succ, List.set_cons_zero]; exact rfl
   ·intro v; exact (rfl : _ = ([x16, x17, x18, x19, x20, x21, x22, x23, x24, v] : List Value))
   intro x25
   apply Oz.walk_consL rfl
   ·intro w1 hb hu hd ho K hK
    have e25 : _ = x25 := Eq.symm (hd 9 (by kernel_rfl))
    subst e25
    have hz : B ≤ w1.heap.size := by have := hb.size; have := HO.out.le; simp at *; omega
    clear hu hd ho
    go_simp
    exact hK _ _ (Oz.good_laid #[.string X] rfl (by have := HO.out.lt; omega) (by decide) rfl hz rfl)
   ·intro v; simp only [Act.put, List.setIfInBounds_toArray, List.set_cons_succ, List.set_cons_zero]; exact rfl
   ·intro v; exact (rfl : _ = ([x16, x17, x18, x19, x20, x21, x22, x23, x24, x25, v] : List Value))
   intro x26
   apply Oz.walk_consL rfl
   ·intro w1 hb hu hd ho K hK
    have h21 := hd 5 (by kernel_rfl)
    have h26 := hd 10 (by kernel_rfl)
    have hz : B ≤ w1.heap.size := by have := hb.size; have := HO.out.le; simp at *; omega
    have hoo := ho 5 (by kernel_rfl) rfl
    have hq := h21.2
    clear hu hd ho
    refine Ow.step_append rfl (.tmp 21) (.tmp 26) 22 rfl B 9 ie _ 1 16 Tryz.underlying22 HE0.out HE1.out HE2.out HE3.out rfl (by decide) x21 c.es.length (strsV c.es) (by simp [Act.eval]) hq _ 1 [.string X] (by simp [Act.eval]) (Inn.of_own h26) (one_str _) (by unfold maxLen; omega) (by omega) hz ?_
    intro v' w' hown hg hob
    refine hK _ _ (Oz.good_row (k := 5) rfl (by have := HO.out.lt; omega) hq hg (by exact hown) hown hoo hob)
   ·intro v; simp only [Act.put, List.setIfInBounds_toArray, List.set_cons_succ, List.set_cons_zero]; exact rfl
   ·intro v; exact (rfl : _ = ([x16, x17, x18, x19, x20, x21, x22, x23, x24, x25, x26, v] : List Value))
   intro x27
   apply Oz.walk_consL rfl
   ·intro w1 hb hu hd ho K hK
    have e16 : _ = x16 := Eq.symm (hd 0 (by kernel_rfl))
    subst e16
    clear hu hd ho
    go_simp
    exact hK _ _ (Oz.good_same rfl rfl rfl)
   ·intro v; simp only [Act.put, List.setIfInBounds_toArray, List.set_cons_succ, List.set_cons_zero]; exact rfl
   ·intro v; exact (rfl : _ = ([x16, x17, x18, x19, x20, x21, x22, x23, x24, x25, x26, x27, v] : List Value))
   intro x28
   apply Oz.walk_consL rfl
   ·intro w1 hb hu hd ho K hK
    have e28 : _ = x28 := Eq.symm (hd 12 (by kernel_rfl))
    subst e28
    clear hu hd ho
    go_simp
    exact hK _ _ (Oz.good_same rfl rfl rfl)
   ·intro v; simp only [Act.put, List.setIfInBounds_toArray, List.set_cons_succ, List.set_cons_zero]; exact rfl
   ·intro v; exact (rfl : _ = ([x16, x17, x18, x19, x20, x21, x22, x23, x24, x25, x26, x27, x28, v] : List Value))
   intro x29
   apply Oz.walk_consL rfl
   ·intro w1 hb hu hd ho K hK
    have e29 : _ = x29 := Eq.symm (hd 13 (by kernel_rfl))
    subst e29
    clear hu hd ho
    go_simp
    exact hK _ _ (Oz.good_same rfl rfl rfl)
   ·intro v; simp only [Act.put, List.setIfInBounds_toArray, List.set_cons_succ, List.set_cons_zero]; exact rfl
   ·intro v; exact (rfl : _ = ([x16, x17, x18, x19, x20, x21, x22, x23, x24, x25, x26, x27, x28, x29, v] : List Value))
   intro x30
   apply Oz.walk_consL rfl
   ·intro w1 hb hu hd ho K hK
    have e30 : _ = x30 := Eq.symm (hd 14 (by kernel_rfl))
    subst e30
    have h27 := hd 11 (by kernel_rfl)
    have hh : w1.heap[b]? = some (.cells #[bstr c.nm, eV, vV, sV, tV] 63 (0, 0)) := (hu _ (by have := HO.out.lt; have := HO.out.le; simp; omega) (fun j hj => by rcases Oz.cl2_cases hj with ⟨_, h⟩ | ⟨rfl, _⟩; exact absurd h (own_neq (HO.out.es) HO.out.lt); exact Or.inr rfl)).trans HO.out.box
    obtain ⟨b0, b1, b2, b3, b4, g0, g1, g2, g3, g4⟩ := at5 hh
    obtain ⟨Az, cz, e1⟩ := own_slice h27
    subst e1
    clear hu hd ho
    go_simp
    refine hK undef _ ⟨⟨_, heap_setCell_same _ _ 1 _ _ _ hh, own_past h27 HO.out.lt _ _⟩, Oz.setAll_grown b [_] 1 w1, fun h => by cases h⟩
   ·intro v; exact rfl
   ·intro v; exact rfl
   intro xn15
   refine Oz.walk_nilL rfl (fun w1 hb hu hd => ?_)
   have e16 : _ = x16 := Eq.symm (hd 0 (by kernel_rfl))
   subst e16
   have e17 : _ = x17 := Eq.symm (hd 1 (by kernel_rfl))
   subst e17
   have e18 : _ = x18 := Eq.symm (hd 2 (by kernel_rfl))
   subst e18
   have e19 : _ = x19 := Eq.symm (hd 3 (by kernel_rfl))
   subst e19
   have e20 : _ = x20 := Eq.symm (hd 4 (by kernel_rfl))
   subst e20
   have e22 : _ = x22 := Eq.symm (hd 6 (by kernel_rfl))
   subst e22
   have e23 : _ = x23 := Eq.symm (hd 7 (by kernel_rfl))
   subst e23
   have e24 : _ = x24 := Eq.symm (hd 8 (by kernel_rfl))
   subst e24
   have e25 : _ = x25 := Eq.symm (hd 9 (by kernel_rfl))
   subst e25
   have h26 := hd 10 (by kernel_rfl)
   have h27 := hd 11 (by kernel_rfl)
   have e28 : _ = x28 := Eq.symm (hd 12 (by kernel_rfl))
   subst e28
   have e29 : _ = x29 := Eq.symm (hd 13 (by kernel_rfl))
   subst e29
   have e30 : _ = x30 := Eq.symm (hd 14 (by kernel_rfl))
   subst e30
   have hn15 := hd 15 (by kernel_rfl)
   clear hd
   obtain ⟨v', hbx, hnr⟩ := hn15
   have hG := GrownT.of_two hb hu
   have hP := HO.out.pushE ⟨by decide, by decide⟩ hG hbx (x := x) (by rw [HX.out]; exact hnr)
   have HP := Lib.hid hP
   clear hb hu hbx hnr hG hP
   go_simp
   go_wp2
   go_ret
   exact ⟨HK.out.trans HP.out.2, by rw [HV.out]; exact ⟨rfl, _, _, _, _, _, _, HP.out.1⟩⟩
end Go.Proofs.YtkjkcgbmaojpiaaGreatDoor.Ch
namespace Go.Proofs.YtkjkcgbmaojpiaaGreatDoor.Ch
open Go.RowKit
theorem ret_true {b B : Nat} {w w' : World} {o : Option CH} {c' : CH} (ho : o = some c') (hk : KeptB b B w w') (hr : Rdr b B 63 w' c') : MPost b B w o (.returned (.bool true)) w' := by subst ho; exact ⟨hk, rfl, hr⟩
set_option maxRecDepth 100000 in
set_option maxHeartbeats 8000000 in
theorem name_m : Method 64 nameS := by
 intro b B w0 w c eV vV sV tV sp tp d F A cp r h hw hB hd hrl hr _ _
 obtain ⟨w1, hw1⟩ : ∃ W, W = w.alloc (.cells #[.int .i64 d, .string F, .slice A r.length cp] 70) := ⟨_, rfl⟩
 have hb1 : Below w.heap.size w w1 := hw1 ▸ (Below.refl w.heap.size w).alloc (Nat.le_refl _) _
 have d2 : w1.cell? ⟨w.heap.size, 2, none⟩ = some (.slice A r.length cp) := by rw [hw1]; simp
 have d0 : w1.cell? ⟨w.heap.size, 0, none⟩ = some (.int .i64 d) := by rw [hw1]; simp
 have h1 := (h.below hw).below hb1
 have hle0 := h.le
 have hzw := hw.size
 have HD := Lib.hid (isNew_any h1)
 have HK : Hid (KeptB b B w w1) := KeptB.of_below hb1 (by omega)
 have HR := Lib.hid (hr.below hb1); have H1 := Lib.hid h1; have HW := Lib.hid hw1
 obtain ⟨b0, _⟩ := h1.cells
 have g0 := h1.frozen 0
 clear h hw hB h1 hr hb1 hw1
 obtain ⟨q1, hq1⟩ : ∃ q, c.nm.isEmpty = q := ⟨_, rfl⟩
 have hv0 : nameS c d r = if (q1 && decide (d = 0) && decide (r.length = 1) && nameB (wd r 0)) = true then some { c with nm := wd r 0 } else none := by unfold nameS; rw [hq1]
 have HV0 := Lib.hid hv0
 rw [hq1] at HD
 clear hq1 hv0
 go_enter Tryz.func64, Tryz.ntmps64
 go_wp2_with fail
 rw [← HW.out]
 refine HD.out.mono ?_
 rintro e w2 ⟨rfl, h2⟩
 obtain rfl := h2
 cases q1 with
 | false =>
  have hv : nameS c d r = none := HV0.out
  have HV := Lib.hid hv; clear hv
  go_wp2
  go_ret
  exact MPost.no HV.out HK.out
 | true =>
  by_cases hd0 : (0 : Int) < (d : Int)
  ·have hv : nameS c d r = none := by rw [HV0.out, decide_eq_false (show ¬ d = 0 by omega)]; rfl
   have HV := Lib.hid hv; clear hv
   go_wp2
   go_ret
   exact MPost.no HV.out HK.out
  ·obtain rfl : d = 0 := by omega
   by_cases hr1 : (r.length : Int) = 1
   ·have hr1' : r.length = 1 := by omega
    obtain ⟨q, o, rfl, hq0, hq2, dx⟩ := HR.out.at_ (k := 0) (by omega)
    obtain ⟨x, hx⟩ : ∃ x, wd r 0 = x := ⟨_, rfl⟩
    obtain ⟨X, hX, hXl⟩ := bstr_some x
    rw [hx, hX] at dx
    rw [hr1'] at d2 HW
    have HX := Lib.hid hX
    rw [Nat.add_zero] at dx
    obtain ⟨q2, hq2n⟩ : ∃ q, nameB x = q := ⟨_, rfl⟩
    have HNN : Hid (∀ W, Calls Tryz.prog 101 #[.string X] W fun e w' => e = .returned (.bool (!q2)) ∧ w' = W) := fun W => by have := isNoName_any X W; rw [hXl, hq2n] at this; exact this
    have hv : nameS c 0 r = if q2 = true then some { c with nm := x } else none := by
     rw [HV0.out, decide_eq_true hr1', hx, hq2n]; rfl
    have HV := Lib.hid hv
    clear hv hXl hq2n hx hX hd0 hr1 hr1' HR
    cases q2 with
    | false =>
     go_wp2_with (go_at_call 101; refine (HNN.out _).mono ?_; rintro e w3 ⟨rfl, h3⟩; obtain rfl := h3)
     go_ret
     exact MPost.no HV.out HK.out
    | true =>
     have hS := H1.out.setN ⟨by decide, by decide⟩ x
     rw [HX.out] at hS
     have HS := Lib.hid hS; clear hS
     go_wp2_with (go_at_call 101; refine (HNN.out _).mono ?_; rintro e w3 ⟨rfl, h3⟩; obtain rfl := h3)
     go_ret
     exact ret_true HV.out (HK.out.trans HS.out.2) ⟨_, _, _, _, _, _, HS.out.1⟩
   ·have hv : nameS c 0 r = none := by rw [HV0.out, decide_eq_false (show ¬ r.length = 1 by omega)]; rfl
    have HV := Lib.hid hv; clear hv
    generalize r.length = rl at *
    go_wp2
    go_ret
    exact MPost.no HV.out HK.out
set_option maxRecDepth 100000 in
set_option maxHeartbeats 8000000 in
theorem variable_any {b B : Nat} {w : World} {c : CH} {eV vV sV tV : Value} {sp : List SP} {tp : List TP} (h : OwnCh b B 63 w c eV vV sV tV sp tp) (hB : Bdd 1000000 c) (N : ByteArray) (kd lo hi ik ia ib : Int) :
  Calls Tryz.prog 105 #[.pointer (some ⟨b, 0, none⟩), .agg #[.string N, .int .i64 kd, .int .i64 lo, .int .i64 hi, .int .i64 ik, .int .i64 ia, .int .i64 ib]] w (MPost b B w (varS c ⟨N.data.toList, ik, lo, hi, ik, ia, ib⟩)) := by
 obtain ⟨w2, hw2⟩ : ∃ W, W = (w.alloc (.cells #[.string N, .int .i64 ik, .int .i64 lo, .int .i64 hi, .int .i64 ik, .int .i64 ia, .int .i64 ib] 51)) := ⟨_, rfl⟩
 have hb2 : Below w.heap.size w w2 := hw2 ▸ (Below.refl w.heap.size w).alloc (Nat.le_refl _) _
 have hx2 : w2.heap[w.heap.size]? = some (.cells #[.string N, .int .i64 ik, .int .i64 lo, .int .i64 hi, .int .i64 ik, .int .i64 ia, .int .i64 ib] 51 (0, 0)) := by rw [hw2]; exact heap_alloc_new w _
 have hd : w2.cell? ⟨w.heap.size, 0, none⟩ = some (.string N) ∧ w2.cell? ⟨w.heap.size, 1, none⟩ = some (.int .i64 ik) ∧ w2.cell? ⟨w.heap.size, 2, none⟩ = some (.int .i64 lo) ∧ w2.cell? ⟨w.heap.size, 3, none⟩ = some (.int .i64 hi) ∧ w2.cell? ⟨w.heap.size, 4, none⟩ = some (.int .i64 ik) ∧ w2.cell? ⟨w.heap.size, 5, none⟩ = some (.int .i64 ia) ∧ w2.cell? ⟨w.heap.size, 6, none⟩ = some (.int .i64 ib) := by simp [World.cell?, hx2]
 obtain ⟨d0, d1, d2, d3, d4, d5, d6⟩ := hd
 have hsz2 := lt_of_heap hx2
 have HO := Lib.hid (h.below hb2)
 have hle := h.le
 have HK : Hid (KeptB b B w w2) := KeptB.of_below hb2 h.le
 have HLT : Hid (∀ g, vV.ownBlock = some g → g < w.heap.size) := fun g hg => (h.vs.lt g hg).2
 have hvs := hB.vs
 obtain ⟨ie, hi0, hi1, hi2, hi3⟩ := info_of Tryz.infoVar
 have HE0 := Lib.hid hi0; have HE1 := Lib.hid hi1; have HE2 := Lib.hid hi2; have HE3 := Lib.hid hi3
 have HW2 := Lib.hid hw2
 obtain ⟨q2, hq2n⟩ : ∃ q, nameB N.data.toList = q := ⟨_, rfl⟩
 have HNN : Hid (∀ W, Calls Tryz.prog 82 #[.string N] W fun e w' => e = .returned (.bool q2) ∧ W = w') := fun W => by have := name_any N W; rw [hq2n] at this; exact this
 have hv : varS c ⟨N.data.toList, ik, lo, hi, ik, ia, ib⟩ = if q2 = true then some { c with vs := c.vs ++ [⟨N.data.toList, ik, lo, hi, ik, ia, ib⟩] } else none := by
  unfold varS; simp only [hq2n]
 have HV := Lib.hid hv
 clear h hB hb2 hx2 hw2 hi0 hi1 hi2 hi3 hv hq2n
 go_enter Tryz.func105, Tryz.ntmps105
 go_wp2_with fail
 rw [← HW2.out]
 refine Oz.region_two 24 [Ow.eqR (.pointer (some ⟨b, 0, none⟩)), Ow.eqR (.pointer (some ⟨b, 0, none⟩)), Ow.eqR (.pointer (some ⟨b, 0, none⟩)), Ow.eqR (.pointer (some ⟨b, 0, none⟩)), Ow.eqR (.pointer (some ⟨b, 2, none⟩)), fun v w' => v = vV ∧ w'.ownsRow B 51 7 v c.vs.length (flatV c.vs), Ow.eqR (.agg #[.string N, .int .i64 ik, .int .i64 lo, .int .i64 hi, .int .i64 ik, .int .i64 ia, .int .i64 ib]), fun v w' => w'.ownsRow B 51 7 v 1 [.string N, .int .i64 ik, .int .i64 lo, .int .i64 hi, .int .i64 ik, .int .i64 ia, .int .i64 ib], fun v w' => w'.ownsRow B 51 7 v (c.vs.length + 1) (flatV c.vs ++ [.string N, .int .i64 ik, .int .i64 lo, .int .i64 hi, .int .i64 ik, .int .i64 ia, .int .i64 ib]), Ow.eqR (.pointer (some ⟨b, 0, none⟩)), Ow.eqR (.pointer (some ⟨b, 0, none⟩)), Ow.eqR (.pointer (some ⟨b, 2, none⟩)), fun _ w' => ∃ v', w'.heap[b]? = some (.cells #[bstr c.nm, eV, v', sV, tV] 63 (0, 0)) ∧ w'.ownsRow B 51 7 v' (c.vs.length + 1) (flatV c.vs ++ [.string N, .int .i64 ik, .int .i64 lo, .int .i64 hi, .int .i64 ik, .int .i64 ia, .int .i64 ib])] [false, false, false, false, false, true, false, true, true, false, false, false, false] [none, none, none, none, none, none, none, none, some 5, none, none, none, none] (b) 5 12 (b) (vV) (own_lower (HO.out.vs) (Nat.le_of_lt HO.out.lt)) (own_neq (HO.out.vs) HO.out.lt) (Nat.le_refl _) ((Nat.lt_of_lt_of_le HO.out.lt HO.out.le)) (by kernel_rfl) rfl (by kernel_rfl) (by kernel_rfl) rfl rfl ⟨Oz.keeps_eq _ _, Oz.keeps_eq _ _, Oz.keeps_eq _ _, Oz.keeps_eq _ _, Oz.keeps_eq _ _, keeps_is, Oz.keeps_eq _ _, Oz.keeps_own _ _ _ _ _, Oz.keeps_own _ _ _ _ _, Oz.keeps_eq _ _, Oz.keeps_eq _ _, Oz.keeps_eq _ _, trivial⟩ ?_
 apply Oz.walk_consL rfl
 ·intro w1 hb hu hd ho K hK
  clear hu hd ho
  go_simp
  exact hK _ _ (Oz.good_same rfl rfl rfl)
 ·intro v; simp only [Act.put, List.setIfInBounds_toArray, List.set_cons_succ, List.set_cons_zero]; exact rfl
 ·intro v; exact (rfl : _ = ([v] : List Value))
 intro x9
 apply Oz.walk_consL rfl
 ·intro w1 hb hu hd ho K hK
  clear hu hd ho
  go_simp
  exact hK _ _ (Oz.good_same rfl rfl rfl)
 ·intro v; simp only [Act.put, List.setIfInBounds_toArray, List.set_cons_succ, List.set_cons_zero]; exact rfl
 ·intro v; exact (rfl : _ = ([x9, v] : List Value))
 intro x10
 apply Oz.walk_consL rfl
 ·intro w1 hb hu hd ho K hK
  have e10 : _ = x10 := Eq.symm (hd 1 (by kernel_rfl))
  subst e10
  clear hu hd ho
  go_simp
  exact hK _ _ (Oz.good_same rfl rfl rfl)
 ·intro v; simp only [Act.put, List.setIfInBounds_toArray, List.set_cons_succ, List.set_cons_zero]; exact rfl
 ·intro v; exact (rfl : _ = ([x9, x10, v] : List Value))
 intro x11
 apply Oz.walk_consL rfl
 ·intro w1 hb hu hd ho K hK
  have e11 : _ = x11 := Eq.symm (hd 2 (by kernel_rfl))
  subst e11
  clear hu hd ho
  go_simp
  exact hK _ _ (Oz.good_same rfl rfl rfl)
 ·intro v; simp only [Act.put, List.setIfInBounds_toArray, List.set_cons_succ, List.set_cons_zero]; exact rfl
 ·intro v; exact (rfl : _ = ([x9, x10, x11, v] : List Value))
 intro x12
 apply Oz.walk_consL rfl
 ·intro w1 hb hu hd ho K hK
  have e12 : _ = x12 := Eq.symm (hd 3 (by kernel_rfl))
  subst e12
  clear hu hd ho
  go_simp
  exact hK _ _ (Oz.good_same rfl rfl rfl)
 ·intro v; simp only [Act.put, List.setIfInBounds_toArray, List.set_cons_succ, List.set_cons_zero]; exact rfl
 ·intro v; exact (rfl : _ = ([x9, x10, x11, x12, v] : List Value))
 intro x13
 apply Oz.walk_consL rfl
 ·intro w1 hb hu hd ho K hK
  have e13 : _ = x13 := Eq.symm (hd 4 (by kernel_rfl))
  subst e13
  have hh : w1.heap[b]? = some (.cells #[bstr c.nm, eV, vV, sV, tV] 63 (0, 0)) := (hu _ (by have := HO.out.lt; have := HO.out.le; simp; omega) (fun j hj => by rcases Oz.cl2_cases hj with ⟨_, h⟩ | ⟨rfl, _⟩; exact absurd h (own_neq (HO.out.vs) HO.out.lt); exact Or.inr rfl)).trans HO.out.box
  obtain ⟨b0, b1, b2, b3, b4, g0, g1, g2, g3, g4⟩ := at5 hh
  have hx := Oz.own_same (HO.out.vs) (w' := w1) (fun g hg => (hu g (by have := (HO.out.vs).lt g hg; simp; omega) (fun j hj => by rcases Oz.cl2_cases hj with ⟨rfl, _⟩ | ⟨rfl, _⟩; exact Or.inl rfl; exact Or.inr rfl)).trans rfl)
  have hbz := hb.size
  clear hu hd ho
  go_simp
  exact hK _ _ (Oz.good_claim rfl (Nat.le_of_lt HO.out.lt) ⟨rfl, hx⟩ hx Oz.cl2_row)
 ·intro v; simp only [Act.put, List.setIfInBounds_toArray, List.set_cons_succ, List.set_cons_zero]; exact rfl
 ·intro v; exact (rfl : _ = ([x9, x10, x11, x12, x13, v] : List Value))
 intro x14
 apply Oz.walk_consL rfl
 ·intro w1 hb hu hd ho K hK
  have kq := hu w.heap.size (by simp; omega) (fun j hj => by rcases Oz.cl2_cases hj with ⟨_, h⟩ | ⟨_, h⟩; exact absurd (HLT.out _ h) (by omega); exact absurd h (by have := HO.out.lt; have := HO.out.le; omega))
  have c_d0 := (World.cell?_of_block (w := _) (a := ⟨w.heap.size, _, none⟩) kq).trans d0
  have c_d1 := (World.cell?_of_block (w := _) (a := ⟨w.heap.size, _, none⟩) kq).trans d1
  have c_d2 := (World.cell?_of_block (w := _) (a := ⟨w.heap.size, _, none⟩) kq).trans d2
  have c_d3 := (World.cell?_of_block (w := _) (a := ⟨w.heap.size, _, none⟩) kq).trans d3
  have c_d4 := (World.cell?_of_block (w := _) (a := ⟨w.heap.size, _, none⟩) kq).trans d4
  have c_d5 := (World.cell?_of_block (w := _) (a := ⟨w.heap.size, _, none⟩) kq).trans d5
  have c_d6 := (World.cell?_of_block (w := _) (a := ⟨w.heap.size, _, none⟩) kq).trans d6
  clear hu hd ho
  go_simp
  exact hK _ _ (Oz.good_same rfl rfl rfl)
 ·intro v; simp only [Act.put, List.setIfInBounds_toArray, List.set_cons_succ, List.set_cons_zero]; exact rfl
 ·intro v; exact (rfl : _ = ([x9, x10, x11, x12, x13, x14, v] : List Value))
 intro x15
 apply Oz.walk_consL rfl
 ·intro w1 hb hu hd ho K hK
  have e15 : _ = x15 := Eq.symm (hd 6 (by kernel_rfl))
  subst e15
  have hz : B ≤ w1.heap.size := by have := hb.size; have := HO.out.le; simp at *; omega
  clear hu hd ho
  go_simp
  exact hK _ _ (Oz.good_laid #[.string N, .int .i64 ik, .int .i64 lo, .int .i64 hi, .int .i64 ik, .int .i64 ia, .int .i64 ib] rfl (by have := HO.out.lt; omega) (by decide) rfl hz rfl)
 ·intro v; simp only [Act.put, List.setIfInBounds_toArray, List.set_cons_succ, List.set_cons_zero]; exact rfl
 ·intro v; exact (rfl : _ = ([x9, x10, x11, x12, x13, x14, x15, v] : List Value))
 intro x16
 apply Oz.walk_consL rfl
 ·intro w1 hb hu hd ho K hK
  have h14 := hd 5 (by kernel_rfl)
  have h16 := hd 7 (by kernel_rfl)
  have hz : B ≤ w1.heap.size := by have := hb.size; have := HO.out.le; simp at *; omega
  have hoo := ho 5 (by kernel_rfl) rfl
  have hq := h14.2
  clear hu hd ho
  refine Ow.step_append rfl (.tmp 14) (.tmp 16) 23 rfl B 51 ie _ 7 64 Tryz.underlying23 HE0.out HE1.out HE2.out HE3.out rfl (by decide) x14 c.vs.length (flatV c.vs) (by simp [Act.eval]) hq _ 1 [.string N, .int .i64 ik, .int .i64 lo, .int .i64 hi, .int .i64 ik, .int .i64 ia, .int .i64 ib] (by simp [Act.eval]) (Inn.of_own h16) (by intro u hu; simp only [List.mem_cons, List.not_mem_nil, or_false] at hu; rcases hu with rfl | rfl | rfl | rfl | rfl | rfl | rfl <;> rfl) (by unfold maxLen; omega) (by omega) hz ?_
  intro v' w' hown hg hob
  refine hK _ _ (Oz.good_row (k := 5) rfl (by have := HO.out.lt; omega) hq hg (by exact hown) hown hoo hob)
 ·intro v; simp only [Act.put, List.setIfInBounds_toArray, List.set_cons_succ, List.set_cons_zero]; exact rfl
 ·intro v; exact (rfl : _ = ([x9, x10, x11, x12, x13, x14, x15, x16, v] : List Value))
 intro x17
 apply Oz.walk_consL rfl
 ·intro w1 hb hu hd ho K hK
  have e9 : _ = x9 := Eq.symm (hd 0 (by kernel_rfl))
  subst e9
  clear hu hd ho
  go_simp
  exact hK _ _ (Oz.good_same rfl rfl rfl)
 ·intro v; simp only [Act.put, List.setIfInBounds_toArray, List.set_cons_succ, List.set_cons_zero]; exact rfl
 ·intro v; exact (rfl : _ = ([x9, x10, x11, x12, x13, x14, x15, x16, x17, v] : List Value))
 intro x18
 apply Oz.walk_consL rfl
 ·intro w1 hb hu hd ho K hK
  have e18 : _ = x18 := Eq.symm (hd 9 (by kernel_rfl))
  subst e18
  clear hu hd ho
  go_simp
  exact hK _ _ (Oz.good_same rfl rfl rfl)
 ·intro v; simp only [Act.put, List.setIfInBounds_toArray, List.set_cons_succ, List.set_cons_zero]; exact rfl
 ·intro v; exact (rfl : _ = ([x9, x10, x11, x12, x13, x14, x15, x16, x17, x18, v] : List Value))
 intro x19
 apply Oz.walk_consL rfl
 ·intro w1 hb hu hd ho K hK
  have e19 : _ = x19 := Eq.symm (hd 10 (by kernel_rfl))
  subst e19
  clear hu hd ho
  go_simp
  exact hK _ _ (Oz.good_same rfl rfl rfl)
 ·intro v; simp only [Act.put, List.setIfInBounds_toArray, List.set_cons_succ, List.set_cons_zero]; exact rfl
 ·intro v; exact (rfl : _ = ([x9, x10, x11, x12, x13, x14, x15, x16, x17, x18, x19, v] : List Value))
 intro x20
 apply Oz.walk_consL rfl
 ·intro w1 hb hu hd ho K hK
  have e20 : _ = x20 := Eq.symm (hd 11 (by kernel_rfl))
  subst e20
  have h17 := hd 8 (by kernel_rfl)
  have hh : w1.heap[b]? = some (.cells #[bstr c.nm, eV, vV, sV, tV] 63 (0, 0)) := (hu _ (by have := HO.out.lt; have := HO.out.le; simp; omega) (fun j hj => by rcases Oz.cl2_cases hj with ⟨_, h⟩ | ⟨rfl, _⟩; exact absurd h (own_neq (HO.out.vs) HO.out.lt); exact Or.inr rfl)).trans HO.out.box
  obtain ⟨b0, b1, b2, b3, b4, g0, g1, g2, g3, g4⟩ := at5 hh
  obtain ⟨Az, cz, e1⟩ := own_slice h17
  subst e1
  clear hu hd ho
  go_simp
  refine hK undef _ ⟨⟨_, heap_setCell_same _ _ 2 _ _ _ hh, own_past h17 HO.out.lt _ _⟩, Oz.setAll_grown b [_] 2 w1, fun h => by cases h⟩
 ·intro v; exact rfl
 ·intro v; exact rfl
 intro xn12
 refine Oz.walk_nilL rfl (fun w1 hb hu hd => ?_)
 have e9 : _ = x9 := Eq.symm (hd 0 (by kernel_rfl))
 subst e9
 have e10 : _ = x10 := Eq.symm (hd 1 (by kernel_rfl))
 subst e10
 have e11 : _ = x11 := Eq.symm (hd 2 (by kernel_rfl))
 subst e11
 have e12 : _ = x12 := Eq.symm (hd 3 (by kernel_rfl))
 subst e12
 have e13 : _ = x13 := Eq.symm (hd 4 (by kernel_rfl))
 subst e13
 have e15 : _ = x15 := Eq.symm (hd 6 (by kernel_rfl))
 subst e15
 have h16 := hd 7 (by kernel_rfl)
 have h17 := hd 8 (by kernel_rfl)
 have e18 : _ = x18 := Eq.symm (hd 9 (by kernel_rfl))
 subst e18
 have e19 : _ = x19 := Eq.symm (hd 10 (by kernel_rfl))
 subst e19
 have e20 : _ = x20 := Eq.symm (hd 11 (by kernel_rfl))
 subst e20
 have hn12 := hd 12 (by kernel_rfl)
 clear hd
 obtain ⟨v', hbx, hnr⟩ := hn12
 have hG := GrownT.of_two hb hu
 have hP := HO.out.pushV ⟨by decide, by decide⟩ hG hbx (x := ⟨N.data.toList, ik, lo, hi, ik, ia, ib⟩) hnr
 have HP := Lib.hid hP
 have kq := hu w.heap.size (by simp; omega) (fun j hj => by rcases Oz.cl2_cases hj with ⟨_, h⟩ | ⟨_, h⟩; exact absurd (HLT.out _ h) (by omega); exact absurd h (by have := HO.out.lt; omega))
 have c0 := (World.cell?_of_block (w := _) (a := ⟨w.heap.size, 0, none⟩) kq).trans d0
 clear hb hu hbx hnr hG hP kq
 go_simp
 go_wp2_with (go_at_call 82; refine (HNN.out _).mono ?_; rintro e w4 ⟨rfl, h4⟩; obtain rfl := h4)
 go_ret
 cases q2 with
 | false => exact MPost.no HV.out (HK.out.trans HP.out.2)
 | true => exact ret_true HV.out (HK.out.trans HP.out.2) ⟨_, _, _, _, _, _, HP.out.1⟩
end Go.Proofs.YtkjkcgbmaojpiaaGreatDoor.Ch
namespace Go.Proofs.YtkjkcgbmaojpiaaGreatDoor.Ch
open Go.RowKit
theorem RestR.all {w0 w : World} {A : Option Addr} {cp : Nat} {r : List (List UInt8)} (h : RestR w0 w A cp r) (h0 : 0 < r.length) : ∃ q o, A = some ⟨q, o, none⟩ ∧ w0.heap.size ≤ q ∧ q < w.heap.size ∧ ∀ k, k < r.length → w.cell? ⟨q, o + k, none⟩ = some (bstr (wd r k)) := by
 obtain ⟨q, o, rfl, h1, h2, _⟩ := h.at_ h0
 refine ⟨q, o, rfl, h1, h2, fun k hk => ?_⟩
 obtain ⟨q', o', e, _, _, h3⟩ := h.at_ hk
 simp only [Option.some.injEq, Addr.mk.injEq, and_true] at e
 obtain ⟨rfl, rfl⟩ := e
 exact h3
theorem wd_len {r : List (List UInt8)} (hx : ∀ x ∈ r, x.length ≤ 6000) (k : Nat) : (wd r k).length ≤ 6000 := by
 by_cases hk : k < r.length
 ·rw [wd_at hk]; exact hx _ (List.getElem_mem hk)
 ·unfold wd; rw [List.getD_eq_getElem?_getD, List.getElem?_eq_none (by omega)]; simp
end Go.Proofs.YtkjkcgbmaojpiaaGreatDoor.Ch
