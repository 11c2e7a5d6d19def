/- Own texts, joined: Gs, Re, Be. -/
import Derived.Test.YtdelihhbmagphaaGreatDoorR19
namespace Go.Proofs.YtdelihhbmagphaaGreatDoor.Pl
open Go.RowKit
theorem indexAny_lt (chars : List UInt8) : ∀ l : List UInt8, Lib.indexAny l chars < l.length ∨ l = []
 | [] => Or.inr rfl
 | b :: l => by
  refine Or.inl ?_
  rw [Lib.indexAny]
  split
  ·simp
  ·split
   ·simp; omega
   ·rcases indexAny_lt chars l with h | h
    ·simp; omega
    ·subst h; simp [Lib.indexAny] at *
structure Ix (l : List UInt8) (k : Int) : Prop where
 lo : -1 ≤ k
 hi : k < l.length ∨ k = -1
 just : k = Lib.indexAny l [43, 45] ∨ ∃ c ∈ l, 128 ≤ c.toNat
def IxPost (l : List UInt8) (w : World) (e : Ending) (w' : World) : Prop := ∃ k : Int, Ix l k ∧ e = .returned (.int .i64 k) ∧ Below w.heap.size w w'
theorem hv61 : ∀ w, (zeroValue 229).run Tryz.prog w = .ok (.agg (Array.replicate 256 (.bool false))) w := by intro w; kernel_rfl
theorem ix_exact (l : List UInt8) : Ix l (Lib.indexAny l [43, 45]) :=
 ⟨Lib.indexAny_ge _ _, (indexAny_lt [43, 45] l).imp id (fun h => by subst h; rfl), Or.inl rfl⟩
theorem index_all (s : ByteArray) (w : World) (hs : s.size < 4294967281) :
  Calls Tryz.prog 145 #[.string s, .string ⟨#[43, 45]⟩] w (IxPost s.data.toList w) := by
 have hpm : ∀ (j : Nat) b, (⟨#[43, 45]⟩ : ByteArray).data.toList[j]? = some b → b.toNat < 128 := by
  intro j b hj
  have := List.mem_of_getElem? hj
  simp at this
  rcases this with rfl | rfl <;> decide
 by_cases h8 : 8 < s.size
 ·refine (Tryz.strings_IndexAny_long hv61 s ⟨#[43, 45]⟩ w (by decide) h8 hs (by decide) hpm).mono ?_
  rintro e w' ⟨rfl, rfl⟩
  exact ⟨_, ix_exact _, rfl, ((Below.refl _ _).alloc (Nat.le_refl _) _).alloc (by simp) _⟩
 ·by_cases ha : ∀ c ∈ s.data.toList, c.toNat < 128
  ·refine (Tryz.strings_IndexAny_short s ⟨#[43, 45]⟩ w (by decide) (by omega) (fun j b hj => ha b (List.mem_of_getElem? hj))).mono ?_
   rintro e w' ⟨rfl, pos, rfl⟩
   exact ⟨_, ix_exact _, rfl, (Below.refl _ _).alloc (Nat.le_refl _) _⟩
  ·refine (indexAny_any s w (by omega)).mono ?_
   rintro e w' ⟨k, h1, h2, rfl, hb⟩
   refine ⟨k, ⟨h1, Or.inl (by rw [← Lib.size_eq]; exact h2), Or.inr ?_⟩, rfl, hb⟩
   simp only [Classical.not_forall, Nat.not_lt] at ha
   obtain ⟨c, hc, hc2⟩ := ha
   exact ⟨c, hc, hc2⟩
def GuessPost (l : List UInt8) (w : World) (e : Ending) (w' : World) : Prop :=
 ∃ k : Int, Ix ((Lib.trimSuffix l [105]).drop 1) k ∧ Below w.heap.size w w' ∧
  ((∃ a b, guessL l k = some (a, b) ∧ e = .returned (.tuple #[.complex .f64 (floatOfInt .f64 a) (floatOfInt .f64 b), .bool true])) ∨
   (guessL l k = none ∧ e = .returned (.tuple #[.complex .f64 0 0, .bool false])))
theorem guess_any (s : ByteArray) (w : World) (hs : s.size < 4294967281) (hL : Laid w) :
  Calls Tryz.prog 109 #[.string s] w (GuessPost s.data.toList w) := by
 have hcut := Tryz.strings_CutSuffix s ⟨#[105]⟩ w (by omega)
 have HL := Lib.hid hL; clear hL
 obtain ⟨B, hB⟩ : ∃ B : ByteArray, B = ⟨(Lib.trimSuffix s.data.toList [105]).toArray⟩ := ⟨_, rfl⟩
 have hBl : B.data.toList = Lib.trimSuffix s.data.toList [105] := by rw [hB]
 have hBs : B.size ≤ s.size := by
  rw [Lib.size_eq, Lib.size_eq, hBl]
  unfold Lib.trimSuffix
  split
  ·rw [List.length_take]; omega
  ·exact Nat.le_refl _
 rw [show (⟨#[105]⟩ : ByteArray).data.toList = [105] from rfl, ← hB] at hcut
 have HC := Lib.hid hcut; clear hcut
 have HBL := Lib.hid hBl; clear hBl hB
 have stop : ∀ (k : Int) (w' : World), Ix ((Lib.trimSuffix s.data.toList [105]).drop 1) k → Below w.heap.size w w' → guessL s.data.toList k = none → GuessPost s.data.toList w (.returned (.tuple #[.complex .f64 0 0, .bool false])) w' :=
  fun k w' hk hb hg => ⟨k, hk, hb, Or.inr ⟨hg, rfl⟩⟩
 have STOP := Lib.hid stop; clear stop
 cases hsuf : Lib.hasSuffix s.data.toList [105]
 ·go_enter Tryz.func109, Tryz.ntmps109
  go_wp2_with (go_at_call 144; refine HC.out.mono ?_; rintro e w' ⟨rfl, rfl⟩)
  go_ret2
  exact STOP.out _ _ (ix_exact _) (Below.refl _ _) (by unfold guessL; rw [if_pos (Or.inl hsuf)])
 ·by_cases hne : B.data.toList = []
  ·have hemp : B.toList.isEmpty = true := by rw [Lib.toList_data, hne]; rfl
   have HNE := Lib.hid hne; clear hne
   go_enter Tryz.func109, Tryz.ntmps109
   go_wp2_with (go_at_call 144; refine HC.out.mono ?_; rintro e w' ⟨rfl, rfl⟩)
   go_ret2
   exact STOP.out _ _ (ix_exact _) (Below.refl _ _) (by unfold guessL; rw [if_pos (Or.inr (Or.inl (HBL.out ▸ HNE.out)))])
  ·have h1 : (1 : Int) ≤ B.size := by
    have := List.length_pos_iff.2 hne
    rw [Lib.size_eq]; omega
   have hemp : B.toList.isEmpty = false := by
    rw [Lib.toList_data]; simpa using hne
   clear hne
   have htl : (B.extract 1 B.size).data.toList = (Lib.trimSuffix s.data.toList [105]).drop 1 := by rw [Lib.extract_to_end, HBL.out]
   have hts : (B.extract 1 B.size).size = B.size - 1 := by rw [Lib.size_eq, Lib.extract_to_end, List.length_drop, ← Lib.size_eq]
   have HTL := Lib.hid htl; have HTS := Lib.hid hts; clear htl hts
   go_enter Tryz.func109, Tryz.ntmps109
   go_wp2_with (go_at_call 144; refine HC.out.mono ?_; rintro e w' ⟨rfl, rfl⟩)
   refine (index_all _ _ (by rw [HTS.out]; omega)).mono ?_
   rintro e w1 ⟨k, hk, rfl, hb1⟩
   rw [HTL.out] at hk
   have HB1 := Lib.hid hb1; clear hb1
   have hlo := hk.lo
   have hhi : k < (B.size : Int) - 1 := by
    rcases hk.hi with h | h
    ·rw [← HTL.out, ← Lib.size_eq, HTS.out] at h; omega
    ·omega
   have HK := Lib.hid hk; clear hk
   obtain ⟨n, rfl⟩ : ∃ n : Nat, k = (n : Int) - 1 := ⟨(k + 1).toNat, by omega⟩
   have hsum : (1 : Int) + ((n : Int) - 1) = n := by omega
   by_cases hn : n = 0
   ·subst hn
    go_wp2
    go_ret2
    exact STOP.out _ _ HK.out HB1.out (by unfold guessL; rw [if_pos (Or.inr (Or.inr (by omega)))])
   ·have hn' : ((n : Int) == 0) = false := beq_eq_false_iff_ne.2 (by omega)
    have e1 : (B.extract 0 n).data.toList = (Lib.trimSuffix s.data.toList [105]).take n := by
     rw [Lib.extract_data, HBL.out, List.drop_zero, Nat.sub_zero]
    have e2 : (B.extract n B.size).data.toList = (Lib.trimSuffix s.data.toList [105]).drop n := by
     rw [Lib.extract_to_end, HBL.out]
    have z1 : (B.extract 0 n).size ≤ 281474976710656 := by
     rw [Lib.size_eq, e1, List.length_take, ← HBL.out, ← Lib.size_eq]; omega
    have z2 : (B.extract n B.size).size ≤ 281474976710656 := by
     rw [Lib.size_eq, e2, List.length_drop, ← HBL.out, ← Lib.size_eq]; omega
    have hg : guessL s.data.toList ((n : Int) - 1) = finP (Lib.parseIntB 64 (B.extract 0 n).data.toList) (Lib.parseIntB 64 (B.extract n B.size).data.toList) := by
     unfold guessL
     rw [if_neg, e1, e2]
     ·rw [show (1 + ((n : Int) - 1)).toNat = n by omega]
     ·rintro (h | h | h)
      ·rw [hsuf] at h; cases h
      ·rw [← HBL.out] at h; rw [Lib.toList_data, h] at hemp; cases hemp
      ·omega
    have HG := Lib.hid hg; clear hg
    clear e1 e2
    have HZ1 := Lib.hid z1; have HZ2 := Lib.hid z2; clear z1 z2
    by_cases hp1 : ∃ a, Lib.parseIntB 64 (B.extract 0 n).data.toList = .ok a
    ·obtain ⟨a, hp1⟩ := hp1
     have hab := Lib.parseIntB_bounds hp1
     have HP1 := Lib.hid hp1; clear hp1
     go_wp2_with fail
     refine (parse_ok _ a _ HZ1.out HP1.out).mono ?_
     rintro e w2 ⟨rfl, hb2⟩
     have HB2 := Lib.hid hb2; clear hb2
     by_cases hp2 : ∃ b, Lib.parseIntB 64 (B.extract n B.size).data.toList = .ok b
     ·obtain ⟨b, hp2⟩ := hp2
      have hbb := Lib.parseIntB_bounds hp2
      have HP2 := Lib.hid hp2; clear hp2
      go_wp2_with fail
      refine (parse_ok _ b _ HZ2.out HP2.out).mono ?_
      rintro e w3 ⟨rfl, hb3⟩
      have HB3 := Lib.hid hb3; clear hb3
      cases hin : (inB a && inB b)
      ·go_wp2_with (go_at_call 97; refine (made_no _ _ _ hin).mono ?_; rintro e w' ⟨rfl, rfl⟩)
       go_ret2
       exact STOP.out _ _ HK.out ((HB1.out.trans (HB2.out.mono HB1.out.size)).trans (HB3.out.mono (Nat.le_trans HB1.out.size HB2.out.size))) (by rw [HG.out, HP1.out, HP2.out]; unfold finP; simp only [hin]; rfl)
      ·go_wp2_with (go_at_call 97; refine (made_ok _ _ _ (by simp at hin; exact hin.1) (by simp at hin; exact hin.2)).mono ?_; rintro e w' ⟨rfl, rfl⟩)
       go_ret2
       exact ⟨_, HK.out, (HB1.out.trans (HB2.out.mono HB1.out.size)).trans (HB3.out.mono (Nat.le_trans HB1.out.size HB2.out.size)), Or.inl ⟨a, b, by rw [HG.out, HP1.out, HP2.out]; unfold finP; simp only [hin]; rfl, rfl⟩⟩
     ·go_wp2_with fail
      refine (parse_bad _ _ HZ2.out ((HL.out.below HB1.out).below HB2.out) (fun v hv => hp2 ⟨v, hv⟩)).mono ?_
      rintro e w3 ⟨v, T, N, rfl, hb3⟩
      have HB3 := Lib.hid hb3; clear hb3
      go_wp2
      go_ret2
      exact STOP.out _ _ HK.out ((HB1.out.trans (HB2.out.mono HB1.out.size)).trans (HB3.out.mono (Nat.le_trans HB1.out.size HB2.out.size))) (by
       rw [HG.out, HP1.out]; unfold finP; split
       ·rename_i h; exact absurd ⟨_, h⟩ hp2
       ·rfl)
    ·go_wp2_with fail
     refine (parse_bad _ _ HZ1.out (HL.out.below HB1.out) (fun v hv => hp1 ⟨v, hv⟩)).mono ?_
     rintro e w2 ⟨v, T, N, rfl, hb2⟩
     have HB2 := Lib.hid hb2; clear hb2
     go_wp2
     go_ret2
     exact STOP.out _ _ HK.out (HB1.out.trans (HB2.out.mono HB1.out.size)) (by
      rw [HG.out]; unfold finP; split
      ·rename_i h _; exact absurd ⟨_, h⟩ hp1
      ·rfl)
end Go.Proofs.YtdelihhbmagphaaGreatDoor.Pl
namespace Go.Proofs.YtdelihhbmagphaaGreatDoor.Pl
open Go.RowKit
theorem guess_key {l : List UInt8} {k a b : Int} (hk : Ix ((Lib.trimSuffix l [105]).drop 1) k) (h : refL l = some (a, b)) : guessL l k = some (a, b) := by
 obtain ⟨ha, hb, e⟩ := refL_some h
 rcases hk.just with hj | ⟨c, hc, h128⟩
 ·rw [hj, e]; exact guessL_shw a b ha hb
 ·exfalso
  have hc' : c ∈ shw a b := by
   rw [← e]
   have := List.mem_of_mem_drop hc
   unfold Lib.trimSuffix at this
   split at this
   ·exact List.mem_of_mem_take this
   ·exact this
  have := shw_ascii a b c hc'
  omega
def ReadPost (l : List UInt8) (w : World) (e : Ending) (w' : World) : Prop :=
 Below w.heap.size w w' ∧
  ((∃ a b, refL l = some (a, b) ∧ e = .returned (.tuple #[.complex .f64 (floatOfInt .f64 a) (floatOfInt .f64 b), .int .i64 0])) ∨
   (refL l = none ∧ e = .returned (.tuple #[.complex .f64 0 0, .int .i64 1])))
theorem read_any (s : ByteArray) (w : World) (hs : s.size < 4294967281) (hL : Laid w) :
  Calls Tryz.prog 75 #[.string s] w (ReadPost s.data.toList w) := by
 have HL := Lib.hid hL; clear hL
 go_enter Tryz.func75, Tryz.ntmps75
 go_wp2_with fail
 refine (guess_any s w hs HL.out).mono ?_
 rintro e w1 ⟨k, hk, hb1, ⟨a, b, hg, rfl⟩ | ⟨hg, rfl⟩⟩
 ·have HB1 := Lib.hid hb1; have HK := Lib.hid hk; have HG := Lib.hid hg; clear hb1 hk hg
  obtain ⟨ha, hb⟩ := guessL_bd HG.out
  go_wp2_with (go_at_call 98; refine (show_ok a b _ ha hb (HL.out.below HB1.out)).mono ?_; rintro e w2 ⟨rfl, hb2⟩)
  ·rename_i hne
   go_ret2
   refine ⟨HB1.out.trans (hb2.mono HB1.out.size), Or.inr ⟨?_, rfl⟩⟩
   cases hr : refL s.data.toList with
   | none => rfl
   | some p =>
    obtain ⟨a', b'⟩ := p
    have h1 := guess_key HK.out hr
    rw [HG.out] at h1
    injection h1 with h1
    injection h1 with h1 h2
    subst h1; subst h2
    have h3 := (refL_some hr).2.2
    rw [Lib.toList_data, ← h3] at hne
    simp at hne
  ·rename_i heq
   go_ret2
   refine ⟨HB1.out.trans (hb2.mono HB1.out.size), Or.inl ⟨a, b, ?_, rfl⟩⟩
   rw [Lib.toList_data] at heq
   have h3 : shw a b = s.data.toList := by simpa using heq
   rw [← h3]
   exact refL_shw a b ha hb
 ·have HB1 := Lib.hid hb1; have HK := Lib.hid hk; have HG := Lib.hid hg; clear hb1 hk hg
  go_wp2
  go_ret2
  refine ⟨HB1.out, Or.inr ⟨?_, rfl⟩⟩
  cases hr : refL s.data.toList with
  | none => rfl
  | some p =>
   obtain ⟨a, b⟩ := p
   rw [guess_key HK.out hr] at HG
   cases HG.out
end Go.Proofs.YtdelihhbmagphaaGreatDoor.Pl
namespace Go.Proofs.YtdelihhbmagphaaGreatDoor.Ch
open Go.RowKit
theorem infoStr : (Tryz.prog.info? 9).map (fun i => (i.zero, i.size, i.bytes)) = some (some (.string ByteArray.empty), 1, 16) := by kernel_rfl
theorem keeps_is {base : Nat} {rv : Value} {B : Nat} {e : TypeId} {size n : Nat} {ys : List Value} : Oz.Keeps1 base true (fun v w => v = rv ∧ w.ownsRow B e size v n ys) :=
 fun v w w' row h hg hb hne => ⟨h.1, Oz.keeps_own (base := base) B e size n ys v w w' row h.2 hg hb hne⟩
theorem at5 {w : World} {D : Nat} {x0 x1 x2 x3 x4 : Value} {t : TypeId} (h : w.heap[D]? = some (.cells #[x0, x1, x2, x3, x4] t (0, 0))) :
  w.cell? ⟨D, 0, none⟩ = some x0 ∧ w.cell? ⟨D, 1, none⟩ = some x1 ∧ w.cell? ⟨D, 2, none⟩ = some x2 ∧ w.cell? ⟨D, 3, none⟩ = some x3 ∧ w.cell? ⟨D, 4, none⟩ = some x4 ∧
  w.frozen? ⟨D, 0, none⟩ = false ∧ w.frozen? ⟨D, 1, none⟩ = false ∧ w.frozen? ⟨D, 2, none⟩ = false ∧ w.frozen? ⟨D, 3, none⟩ = false ∧ w.frozen? ⟨D, 4, none⟩ = false := by
 simp [World.cell?, World.frozen?, h]
theorem one_str (X : ByteArray) : ∀ u ∈ [Value.string X], u.oneCell' = true := by intro u hu; simp at hu; subst hu; rfl
structure Env (w : World) : Prop where
 ops : Ops w
 laid : Laid w
 ml : ML w
 pl : Pl.Laid w
theorem Env.below {w w' : World} (h : Env w) (hb : Below w.heap.size w w') : Env w' := ⟨h.ops.below hb, h.laid.below hb, h.ml.below hb, h.pl.below hb⟩
def MPost (b B : Nat) (w : World) (o : Option CH) (e : Ending) (w' : World) : Prop := KeptB b B w w' ∧ match o with
 | none => e = .returned (.bool false)
 | some c' => e = .returned (.bool true) ∧ Rdr b B 44 w' c'
theorem MPost.no {b B : Nat} {w w' : World} {o : Option CH} (ho : o = none) (h : KeptB b B w w') : MPost b B w o (.returned (.bool false)) w' := by subst ho; exact ⟨h, rfl⟩
def Method (f : FuncId) (g : StepS) : Prop := ∀ (b B : Nat) (w0 w : World) (c : CH) (eV vV sV tV : Value) (sp : List SP) (tp : List TP) (d : Nat) (F : ByteArray) (A : Option Addr) (cp : Nat) (r : List (List UInt8)),
 OwnCh b B 44 w0 c eV vV sV tV sp tp → Below w0.heap.size w0 w → Bdd 1000000 c → d ≤ 6000 → r.length ≤ 1000000 → RestR w0 w A cp r → (∀ x ∈ r, x.length ≤ 6000) → Env w →
 Calls Tryz.prog f #[.pointer (some ⟨b, 0, none⟩), .agg #[.int .i64 d, .string F, .slice A r.length cp]] w (MPost b B w (g c d r))
set_option maxRecDepth 100000 in
set_option maxHeartbeats 8000000 in
theorem event_m : Method 32 eventS := by
 intro b B w0 w c eV vV sV tV sp tp d F A cp r h hw hB hd hrl hr _ _
 obtain ⟨w1, hw1⟩ : ∃ W, W = w.alloc (.cells #[.int .i64 d, .string F, .slice A r.length cp] 51) := ⟨_, rfl⟩
 have hb1 : Below w.heap.size w w1 := hw1 ▸ (Below.refl w.heap.size w).alloc (Nat.le_refl _) _
 have d2 : w1.cell? ⟨w.heap.size, 2, none⟩ = some (.slice A r.length cp) := by rw [hw1]; simp
 have dl : w1.cell? ⟨w.heap.size, 0, none⟩ = some (.int .i64 d) ∧ w1.cell? ⟨w.heap.size, 1, none⟩ = some (.string F) := by rw [hw1]; simp
 obtain ⟨d0, d1⟩ := dl
 have hsz1 : w1.heap.size = w.heap.size + 1 := by rw [hw1]; simp
 have h1 := (h.below hw).below hb1
 have hle0 := h.le
 have hzw := hw.size
 have HD := Lib.hid (isHead_any h1 hB d 1 F A cp r hrl (by omega) (by omega))
 have hes := hB.es
 obtain ⟨ie, hi0, hi1, hi2, hi3⟩ := info_of infoStr
 have HE0 := Lib.hid hi0; have HE1 := Lib.hid hi1; have HE2 := Lib.hid hi2; have HE3 := Lib.hid hi3
 have HLT : Hid (∀ g, eV.ownBlock = some g → g < w0.heap.size) := fun g hg => (h.es.lt g hg).2
 have HR := Lib.hid (hr.below hb1); have H1 := Lib.hid h1; have HB1 := Lib.hid hb1; have HW := Lib.hid hw1
 clear h hw hB h1 hr hb1 hw1 hi0 hi1 hi2 hi3
 obtain ⟨q1, hq1⟩ : ∃ q, headB c d 1 r = q := ⟨_, rfl⟩
 have HQ := Lib.hid hq1
 rw [hq1] at HD
 clear hq1
 go_enter Tryz.func32, Tryz.ntmps32
 go_wp2_with fail
 rw [← HW.out]
 refine HD.out.mono ?_
 rintro e w2 ⟨rfl, hb2⟩
 have HO := Lib.hid (H1.out.below hb2)
 have hzz := hb2.size
 have HK : Hid (KeptB b B w w2) := KeptB.of_below (HB1.out.trans (hb2.mono HB1.out.size)) (by omega)
 replace d0 := (hb2.cell (show w.heap.size < _ by omega)).trans d0
 replace d1 := (hb2.cell (show w.heap.size < _ by omega)).trans d1
 replace d2 := (hb2.cell (show w.heap.size < _ by omega)).trans d2
 have HR2 := Lib.hid (HR.out.below hb2)
 clear hb2
 cases q1 with
 | false =>
  have hv : eventS c d r = none := by unfold eventS; rw [HQ.out]; rfl
  have HV := Lib.hid hv; clear hv
  go_wp2
  go_ret
  exact MPost.no HV.out HK.out
 | true =>
  have hr1 : r.length = 1 := by have := HQ.out; unfold headB at this; simp only [Bool.and_eq_true, decide_eq_true_eq] at this; exact this.2
  obtain ⟨q, o, rfl, hq0, hq2, dx⟩ := HR2.out.at_ (k := 0) (by omega)
  obtain ⟨x, hx⟩ : ∃ x, wd r 0 = x := ⟨_, rfl⟩
  obtain ⟨X, hX, hXl⟩ := bstr_some x
  rw [hx, hX] at dx
  rw [hr1] at d2
  have HX := Lib.hid hX
  rw [Nat.add_zero] at dx
  obtain ⟨q2, hq2n⟩ : ∃ q, nameB x = q := ⟨_, rfl⟩
  have HNN : Hid (∀ W, Calls Tryz.prog 70 #[.string X] W fun e w' => e = .returned (.bool (!q2)) ∧ w' = W) := fun W => by have := isNoName_any X W; rw [hXl, hq2n] at this; exact this
  have hv : eventS c d r = if q2 = true then some { c with es := c.es ++ [x] } else none := by
   unfold eventS; rw [HQ.out, hx, hq2n]; simp
  have HV := Lib.hid hv
  clear hv hXl hq2n hx hX
  rw [hr1] at HW
  cases q2 with
  | false =>
   go_wp2_with (go_at_call 70; refine (HNN.out _).mono ?_; rintro e w3 ⟨rfl, h3⟩; obtain rfl := h3)
   go_ret
   exact MPost.no HV.out HK.out
  | true =>
   go_wp2_with (go_at_call 70; refine (HNN.out _).mono ?_; rintro e w3 ⟨rfl, h3⟩; obtain rfl := h3)
   refine Oz.region_two 31 [Ow.eqR (.pointer (some ⟨b, 0, none⟩)), Ow.eqR (.pointer (some ⟨b, 0, none⟩)), Ow.eqR (.pointer (some ⟨b, 0, none⟩)), Ow.eqR (.pointer (some ⟨b, 0, none⟩)), Ow.eqR (.pointer (some ⟨b, 1, none⟩)), fun v w' => v = eV ∧ w'.ownsRow B 9 1 v c.es.length (strsV c.es), Ow.eqR (.pointer (some ⟨w.heap.size, 2, none⟩)), Ow.eqR (.slice (some ⟨q, o, none⟩) 1 cp), Ow.eqR (.pointer (some ⟨q, o, none⟩)), Ow.eqR (.string X), fun v w' => w'.ownsRow B 9 1 v 1 [.string X], fun v w' => w'.ownsRow B 9 1 v (c.es.length + 1) (strsV c.es ++ [.string X]), Ow.eqR (.pointer (some ⟨b, 0, none⟩)), Ow.eqR (.pointer (some ⟨b, 0, none⟩)), Ow.eqR (.pointer (some ⟨b, 1, none⟩)), fun _ w' => ∃ v', w'.heap[b]? = some (.cells #[bstr c.nm, v', vV, sV, tV] 44 (0, 0)) ∧ w'.ownsRow B 9 1 v' (c.es.length + 1) (strsV c.es ++ [.string X])] [false, false, false, false, false, true, false, false, false, false, true, true, false, false, false, false] [none, none, none, none, none, none, none, none, none, none, none, some 5, none, none, none, none] (b) 5 15 (b) (eV) (own_lower (HO.out.es) (Nat.le_of_lt HO.out.lt)) (own_neq (HO.out.es) HO.out.lt) (Nat.le_refl _) ((Nat.lt_of_lt_of_le HO.out.lt HO.out.le)) (by kernel_rfl) rfl (by kernel_rfl) (by kernel_rfl) rfl rfl ⟨Oz.keeps_eq _ _, Oz.keeps_eq _ _, Oz.keeps_eq _ _, Oz.keeps_eq _ _, Oz.keeps_eq _ _, keeps_is, Oz.keeps_eq _ _, Oz.keeps_eq _ _, Oz.keeps_eq _ _, Oz.keeps_eq _ _, Oz.keeps_own _ _ _ _ _, Oz.keeps_own _ _ _ _ _, Oz.keeps_eq _ _, Oz.keeps_eq _ _, Oz.keeps_eq _ _, trivial⟩ ?_
   apply Oz.walk_consL rfl
   ·intro w1 hb hu hd ho K hK
    clear hu hd ho
    go_simp
    exact hK _ _ (Oz.good_same rfl rfl rfl)
   ·intro v; simp only [Act.put, List.setIfInBounds_toArray, List.set_cons_succ, List.set_cons_zero]; exact rfl
   ·intro v; exact (rfl : _ = ([v] : List Value))
   intro x16
   apply Oz.walk_consL rfl
   ·intro w1 hb hu hd ho K hK
    clear hu hd ho
    go_simp
    exact hK _ _ (Oz.good_same rfl rfl rfl)
   ·intro v; simp only [Act.put, List.setIfInBounds_toArray, List.set_cons_succ, List.set_cons_zero]; exact rfl
   ·intro v; exact (rfl : _ = ([x16, v] : List Value))
   intro x17
   apply Oz.walk_consL rfl
   ·intro w1 hb hu hd ho K hK
    have e17 : _ = x17 := Eq.symm (hd 1 (by kernel_rfl))
    subst e17
    clear hu hd ho
    go_simp
    exact hK _ _ (Oz.good_same rfl rfl rfl)
   ·intro v; simp only [Act.put, List.setIfInBounds_toArray, List.set_cons_succ, List.set_cons_zero]; exact rfl
   ·intro v; exact (rfl : _ = ([x16, x17, v] : List Value))
   intro x18
   apply Oz.walk_consL rfl
   ·intro w1 hb hu hd ho K hK
    have e18 : _ = x18 := Eq.symm (hd 2 (by kernel_rfl))
    subst e18
    clear hu hd ho
    go_simp
    exact hK _ _ (Oz.good_same rfl rfl rfl)
   ·intro v; simp only [Act.put, List.setIfInBounds_toArray, List.set_cons_succ, List.set_cons_zero]; exact rfl
   ·intro v; exact (rfl : _ = ([x16, x17, x18, v] : List Value))
   intro x19
   apply Oz.walk_consL rfl
   ·intro w1 hb hu hd ho K hK
    have e19 : _ = x19 := Eq.symm (hd 3 (by kernel_rfl))
    subst e19
    clear hu hd ho
    go_simp
    exact hK _ _ (Oz.good_same rfl rfl rfl)
   ·intro v; simp only [Act.put, List.setIfInBounds_toArray, List.set_cons_succ, List.set_cons_zero]; exact rfl
   ·intro v; exact (rfl : _ = ([x16, x17, x18, x19, v] : List Value))
   intro x20
   apply Oz.walk_consL rfl
   ·intro w1 hb hu hd ho K hK
    have e20 : _ = x20 := Eq.symm (hd 4 (by kernel_rfl))
    subst e20
    have hh : w1.heap[b]? = some (.cells #[bstr c.nm, eV, vV, sV, tV] 44 (0, 0)) := (hu _ (by have := HO.out.lt; have := HO.out.le; simp; omega) (fun j hj => by rcases Oz.cl2_cases hj with ⟨_, h⟩ | ⟨rfl, _⟩; exact absurd h (own_neq (HO.out.es) HO.out.lt); exact Or.inr rfl)).trans HO.out.box
    obtain ⟨b0, b1, b2, b3, b4, g0, g1, g2, g3, g4⟩ := at5 hh
    have hx := Oz.own_same (HO.out.es) (w' := w1) (fun g hg => (hu g (by have := (HO.out.es).lt g hg; simp; omega) (fun j hj => by rcases Oz.cl2_cases hj with ⟨rfl, _⟩ | ⟨rfl, _⟩; exact Or.inl rfl; exact Or.inr rfl)).trans rfl)
    have hbz := hb.size
    clear hu hd ho
    go_simp
    exact hK _ _ (Oz.good_claim rfl (Nat.le_of_lt HO.out.lt) ⟨rfl, hx⟩ hx Oz.cl2_row)
   ·intro v; simp only [Act.put, List.setIfInBounds_toArray, List.set_cons_succ, List.set_cons_zero]; exact rfl
   ·intro v; exact (rfl : _ = ([x16, x17, x18, x19, x20, v] : List Value))
   intro x21
   apply Oz.walk_consL rfl
   ·intro w1 hb hu hd ho K hK
    clear hu hd ho
    go_simp
    exact hK _ _ (Oz.good_same rfl rfl rfl)
   ·intro v; simp only [Act.put, List.setIfInBounds_toArray, List.set_cons_succ, List.set_cons_zero]; exact rfl
   ·intro v; exact (rfl : _ = ([x16, x17, x18, x19, x20, x21, v] : List Value))
   intro x22
   apply Oz.walk_consL rfl
   ·intro w1 hb hu hd ho K hK
    have e22 : _ = x22 := Eq.symm (hd 6 (by kernel_rfl))
    subst e22
    have kq := hu w.heap.size (by simp; omega) (fun j hj => by rcases Oz.cl2_cases hj with ⟨_, h⟩ | ⟨_, h⟩; exact absurd (HLT.out _ h) (by omega); exact absurd h (by have := HO.out.lt; have := HO.out.le; omega))
    have c_d2 := (World.cell?_of_block (w := _) (a := ⟨w.heap.size, _, none⟩) kq).trans d2
    clear hu hd ho
    go_simp
    exact hK _ _ (Oz.good_same rfl rfl rfl)
   ·intro v; simp only [Act.put, List.setIfInBounds_toArray, List.set_cons_succ, List.set_cons_zero]; exact rfl
   ·intro v; exact (rfl : _ = ([x16, x17, x18, x19, x20, x21, x22, v] : List Value))
   intro x23
   apply Oz.walk_consL rfl
   ·intro w1 hb hu hd ho K hK
    have e23 : _ = x23 := Eq.symm (hd 7 (by kernel_rfl))
    subst e23
    clear hu hd ho
    go_simp
    exact hK _ _ (Oz.good_same rfl rfl rfl)
   ·intro v; simp only [Act.put, List.setIfInBounds_toArray, List.set_cons_succ, List.set_cons_zero]; exact rfl
   ·intro v; exact (rfl : _ = ([x16, x17, x18, x19, x20, x21, x22, x23, v] : List Value))
   intro x24
   apply Oz.walk_consL rfl
   ·intro w1 hb hu hd ho K hK
    have e24 : _ = x24 := Eq.symm (hd 8 (by kernel_rfl))
    subst e24
    have kq := hu q (by simp; omega) (fun j hj => by rcases Oz.cl2_cases hj with ⟨_, h⟩ | ⟨_, h⟩; exact absurd (HLT.out _ h) (by omega); exact absurd h (by have := HO.out.lt; have := HO.out.le; omega))
    have c_dx := (World.cell?_of_block (w := _) (a := ⟨q, _, none⟩) kq).trans dx
    clear hu hd ho
    go_simp
    exact hK _ _ (Oz.good_same rfl rfl rfl)
   ·intro v; simp only [Act.put, List.setIfInBounds_toArray, List.set_cons_succ, List.set_cons_zero]; exact rfl
   ·intro v; exact (rfl : _ = ([x16, x17, x18, x19, x20, x21, x22, x23, x24, v] : List Value))
   intro x25
   apply Oz.walk_consL rfl
   ·intro w1 hb hu hd ho K hK
    have e25 : _ = x25 := Eq.symm (hd 9 (by kernel_rfl))
    subst e25
    have hz : B ≤ w1.heap.size := by have := hb.size; have := HO.out.le; simp at *; omega
    clear hu hd ho
    go_simp
    exact hK _ _ (Oz.good_laid #[.string X] rfl (by have := HO.out.lt; omega) (by decide) rfl hz rfl)
   ·intro v; simp only [Act.put, List.setIfInBounds_toArray, List.set_cons_succ, List.set_cons_zero]; exact rfl
   ·intro v; exact (rfl : _ = ([x16, x17, x18, x19, x20, x21, x22, x23, x24, x25, v] : List Value))
   intro x26
   apply Oz.walk_consL rfl
   ·intro w1 hb hu hd ho K hK
    have h21 := hd 5 (by kernel_rfl)
    have h26 := hd 10 (by kernel_rfl)
    have hz : B ≤ w1.heap.size := by have := hb.size; have := HO.out.le; simp at *; omega
    have hoo := ho 5 (by kernel_rfl) rfl
    have hq := h21.2
    clear hu hd ho
    refine Ow.step_append rfl (.tmp 21) (.tmp 26) 22 rfl B 9 ie _ 1 16 Tryz.underlying22 HE0.out HE1.out HE2.out HE3.out rfl (by decide) x21 c.es.length (strsV c.es) (by simp [Act.eval]) hq _ 1 [.string X] (by simp [Act.eval]) (Inn.of_own h26) (one_str _) (by unfold maxLen; omega) (by omega) hz ?_
    intro v' w' hown hg hob
    refine hK _ _ (Oz.good_row (k := 5) rfl (by have := HO.out.lt; omega) hq hg (by exact hown) hown hoo hob)
   ·intro v; simp only [Act.put, List.setIfInBounds_toArray, List.set_cons_succ, List.set_cons_zero]; exact rfl
   ·intro v; exact (rfl : _ = ([x16, x17, x18, x19, x20, x21, x22, x23, x24, x25, x26, v] : List Value))
   intro x27
   apply Oz.walk_consL rfl
   ·intro w1 hb hu hd ho K hK
    have e16 : _ = x16 := Eq.symm (hd 0 (by kernel_rfl))
    subst e16
    clear hu hd ho
    go_simp
    exact hK _ _ (Oz.good_same rfl rfl rfl)
   ·intro v; simp only [Act.put, List.setIfInBounds_toArray, List.set_cons_succ, List.set_cons_zero]; exact rfl
   ·intro v; exact (rfl : _ = ([x16, x17, x18, x19, x20, x21, x22, x23, x24, x25, x26, x27, v] : List Value))
   intro x28
   apply Oz.walk_consL rfl
   ·intro w1 hb hu hd ho K hK
    have e28 : _ = x28 := Eq.symm (hd 12 (by kernel_rfl))
    subst e28
    clear hu hd ho
    go_simp
    exact hK _ _ (Oz.good_same rfl rfl rfl)
   ·intro v; simp only [Act.put, List.setIfInBounds_toArray, List.set_cons_succ, List.set_cons_zero]; exact rfl
   ·intro v; exact (rfl : _ = ([x16, x17, x18, x19, x20, x21, x22, x23, x24, x25, x26, x27, x28, v] : List Value))
   intro x29
   apply Oz.walk_consL rfl
   ·intro w1 hb hu hd ho K hK
    have e29 : _ = x29 := Eq.symm (hd 13 (by kernel_rfl))
    subst e29
    clear hu hd ho
    go_simp
    exact hK _ _ (Oz.good_same rfl rfl rfl)
   ·intro v; simp only [Act.put, List.setIfInBounds_toArray, List.set_cons_succ, List.set_cons_zero]; exact rfl
   ·intro v; exact (rfl : _ = ([x16, x17, x18, x19, x20, x21, x22, x23, x24, x25, x26, x27, x28, x29, v] : List Value))
   intro x30
   apply Oz.walk_consL rfl
   ·intro w1 hb hu hd ho K hK
    have e30 : _ = x30 := Eq.symm (hd 14 (by kernel_rfl))
    subst e30
    have h27 := hd 11 (by kernel_rfl)
    have hh : w1.heap[b]? = some (.cells #[bstr c.nm, eV, vV, sV, tV] 44 (0, 0)) := (hu _ (by have := HO.out.lt; have := HO.out.le; simp; omega) (fun j hj => by rcases Oz.cl2_cases hj with ⟨_, h⟩ | ⟨rfl, _⟩; exact absurd h (own_neq (HO.out.es) HO.out.lt); exact Or.inr rfl)).trans HO.out.box
    obtain ⟨b0, b1, b2, b3, b4, g0, g1, g2, g3, g4⟩ := at5 hh
    obtain ⟨Az, cz, e1⟩ := own_slice h27
    subst e1
    clear hu hd ho
    go_simp
    refine hK undef _ ⟨⟨_, heap_setCell_same _ _ 1 _ _ _ hh, own_past h27 HO.out.lt _ _⟩, Oz.setAll_grown b [_] 1 w1, fun h => by cases h⟩
   ·intro v; exact rfl
   ·intro v; exact rfl
   intro xn15
   refine Oz.walk_nilL rfl (fun w1 hb hu hd => ?_)
   have e16 : _ = x16 := Eq.symm (hd 0 (by kernel_rfl))
   subst e16
   have e17 : _ = x17 := Eq.symm (hd 1 (by kernel_rfl))
   subst e17
   have e18 : _ = x18 := Eq.symm (hd 2 (by kernel_rfl))
   subst e18
   have e19 : _ = x19 := Eq.symm (hd 3 (by kernel_rfl))
   subst e19
   have e20 : _ = x20 := Eq.symm (hd 4 (by kernel_rfl))
   subst e20
   have e22 : _ = x22 := Eq.symm (hd 6 (by kernel_rfl))
   subst e22
   have e23 : _ = x23 := Eq.symm (hd 7 (by kernel_rfl))
   subst e23
   have e24 : _ = x24 := Eq.symm (hd 8 (by kernel_rfl))
   subst e24
   have e25 : _ = x25 := Eq.symm (hd 9 (by kernel_rfl))
   subst e25
   have h26 := hd 10 (by kernel_rfl)
   have h27 := hd 11 (by kernel_rfl)
   have e28 : _ = x28 := Eq.symm (hd 12 (by kernel_rfl))
   subst e28
   have e29 : _ = x29 := Eq.symm (hd 13 (by kernel_rfl))
   subst e29
   have e30 : _ = x30 := Eq.symm (hd 14 (by kernel_rfl))
   subst e30
   have hn15 := hd 15 (by kernel_rfl)
   clear hd
   obtain ⟨v', hbx, hnr⟩ := hn15
   have hG := GrownT.of_two hb hu
   have hP := HO.out.pushE ⟨by decide, by decide⟩ hG hbx (x := x) (by rw [HX.out]; exact hnr)
   have HP := Lib.hid hP
   clear hb hu hbx hnr hG hP
   go_simp
   go_wp2
   go_ret
   exact ⟨HK.out.trans HP.out.2, by rw [HV.out]; exact ⟨rfl, _, _, _, _, _, _, HP.out.1⟩⟩
end Go.Proofs.YtdelihhbmagphaaGreatDoor.Ch
