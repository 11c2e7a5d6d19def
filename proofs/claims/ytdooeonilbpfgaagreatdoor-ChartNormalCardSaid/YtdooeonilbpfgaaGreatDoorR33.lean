/- Own texts, joined: Ta, Tm, Tn. -/
import Derived.Test.YtdooeonilbpfgaaGreatDoorR32
namespace Go.Proofs.YtdooeonilbpfgaaGreatDoor.Ch
open Go.RowKit
def headL (s : SC) : Option (List (List UInt8)) :=
 if s.kd = 1 then some [wBasic, s.nm]
 else if s.kd = 3 then some [wBoth, s.nm]
 else if s.kd = 4 then some [wFinal, s.nm]
 else if s.kd = 2 then some [wOne, s.nm, s.ini]
 else if s.kd = 5 then some [wShallow, s.nm, s.ini]
 else if s.kd = 6 then some [wDeep, s.nm, s.ini]
 else none
def blkL (k : List UInt8) (l : List AM) : Option (List (List UInt8)) := if l = [] then none else some [k, (showA l).1]
def putS (l : List UInt8) (s : SC) : List UInt8 := putO (putO (putO l s.dp (headL s)) (s.dp + 1) (blkL wEntry s.en)) (s.dp + 1) (blkL wExit s.ex)
structure StZ (s : SC) : Prop where
 nm : s.nm.length ≤ 140737488355328
 ini : s.ini.length ≤ 140737488355328
 dp : I64 s.dp
 en : s.en.length ≤ 4611686018427387904
 ex : s.ex.length ≤ 4611686018427387904
 ent : (showA s.en).1.length ≤ 140737488355328
 ext : (showA s.ex).1.length ≤ 140737488355328
theorem putL_len {l : List UInt8} (h : l.length ≤ 6000) (d : Int) {ls : List (List UInt8)} (hn : ls ≠ []) : (putL l d ls).length ≤ 6000 := by
 unfold putL
 split
 ·rename_i hf
  unfold fitsB at hf
  simp only [Bool.and_eq_true, decide_eq_true_eq] at hf
  obtain ⟨⟨h0, h1⟩, h2⟩ := hf
  cases ls with
  | nil => exact absurd rfl hn
  | cons x r =>
   unfold lineTx
   rw [List.length_append, List.length_append, List.length_append, List.length_replicate, join_cons2]
   unfold sumL at h2 ⊢
   simp at h2 ⊢
   omega
 ·exact h
theorem headL_ne {s : SC} {ls : List (List UInt8)} (h : headL s = some ls) : ls ≠ [] := by
 unfold headL at h
 repeat' split at h
 all_goals first | (injection h with h; subst h; simp) | cases h
theorem putO_len {l : List UInt8} (h : l.length ≤ 6000) (d : Int) {o : Option (List (List UInt8))} (hn : ∀ ls, o = some ls → ls ≠ []) : (putO l d o).length ≤ 6000 := by
 cases o with
 | none => exact h
 | some ls => exact putL_len h d (hn ls rfl)
theorem varL_ne {v : VM} {ls : List (List UInt8)} (h : varL v = some ls) : ls ≠ [] := by
 unfold varL at h
 repeat' split at h
 all_goals first | (injection h with h; subst h; simp) | cases h
theorem blkL_ne {k : List UInt8} {l : List AM} {ls : List (List UInt8)} (h : blkL k l = some ls) : ls ≠ [] := by
 unfold blkL at h
 split at h
 ·cases h
 ·injection h with h; subst h; simp
theorem putL_wrap {d : Int} (hd : I64 d) (l : List UInt8) (ls : List (List UInt8)) : putL l (IntKind.i64.wrap (d + 1)) ls = putL l (d + 1) ls := by
 by_cases h : d = 9223372036854775807
 ·subst h
  have e : IntKind.i64.wrap (9223372036854775807 + 1) = -9223372036854775808 := by decide
  rw [e]
  unfold putL fitsB
  rfl
 ·rw [IntWalk.i64_in _ (by unfold I64 at hd; omega)]
theorem KeptB.low {b B B0 : Nat} {w0 w w' : World} (h : KeptB b B w w') (hw : Below B0 w0 w) (hb : B0 ≤ b) (hB : b < B) : Below B0 w0 w' := hw.trans (h.below hb (by omega))
theorem kS4 {W : World} {D : Nat} {x0 x1 x2 x3 x4 x5 : Value} {t : TypeId} (h : W.heap[D]? = some (.cells #[x0, x1, x2, x3, x4, x5] t (0, 0))) : W.heap[D]? = some (.cells #[x0, x1, x2, x3, x4, x5] t (0, 0)) ∧ W.cell? ⟨D, 2, none⟩ = some x2 ∧ W.cell? ⟨D, 4, none⟩ = some x4 := by simp [World.cell?, h]
theorem kS5 {W : World} {D : Nat} {x0 x1 x2 x3 x4 x5 : Value} {t : TypeId} (h : W.heap[D]? = some (.cells #[x0, x1, x2, x3, x4, x5] t (0, 0))) : W.heap[D]? = some (.cells #[x0, x1, x2, x3, x4, x5] t (0, 0)) ∧ W.cell? ⟨D, 2, none⟩ = some x2 ∧ W.cell? ⟨D, 5, none⟩ = some x5 := by simp [World.cell?, h]
set_option maxRecDepth 100000 in
set_option maxHeartbeats 8000000 in
theorem wstate_any {b B : Nat} {w0 w : World} {l : List UInt8} (h : Wr b B w l) (hl : l.length ≤ 6000) (p : SP) (hw0 : Below w0.heap.size w0 w) (hb0 : w0.heap.size ≤ b) (hp : StR w0 p) (hz : StZ p.1) (hE : Env w0) :
  Calls Tryz.prog 56 #[.pointer (some ⟨b, 0, none⟩), .agg (stV p).toArray] w fun e w' => e = .returned (.tuple #[]) ∧ Wr b B w' (putS l p.1) ∧ KeptB b B w w' ∧ KeptU b w w' := by
 obtain ⟨⟨nm, kd, dp, ini, en, ex⟩, nv, xv⟩ := p
 obtain ⟨An, cn, hnv⟩ := BlkR.form hp.1
 obtain ⟨Ax, cx, hxv⟩ := BlkR.form hp.2
 simp only at hnv hxv
 subst hnv; subst hxv
 have hEN : ∀ W, Below w0.heap.size w0 W → Calls Tryz.prog 99 #[.slice An en.length cn] W fun e w' => e = .returned (bstr (showA en).1) ∧ Below W.heap.size W w' := fun W hW => blockText_any _ en W (hp.1.below hW) hz.en (hE.below hW)
 have hEX : ∀ W, Below w0.heap.size w0 W → Calls Tryz.prog 99 #[.slice Ax ex.length cx] W fun e w' => e = .returned (bstr (showA ex).1) ∧ Below W.heap.size W w' := fun W hW => blockText_any _ ex W (hp.2.below hW) hz.ex (hE.below hW)
 have HH := Lib.hid h; have HZ := Lib.hid hz
 show Calls _ _ #[_, .agg #[bstr nm, .int .i64 kd, .int .i64 dp, bstr ini, .slice An en.length cn, .slice Ax ex.length cx]] w fun e w' => e = .returned (.tuple #[]) ∧ Wr b B w' (putS l ⟨nm, kd, dp, ini, en, ex⟩) ∧ _
 obtain ⟨XN, hXN, _⟩ := bstr_some nm
 obtain ⟨XI, hXI, _⟩ := bstr_some ini
 obtain ⟨XE, hXE, _⟩ := bstr_some (showA en).1
 obtain ⟨XX, hXX, _⟩ := bstr_some (showA ex).1
 rw [hXN, hXI]
 rw [hXE] at hEN
 rw [hXX] at hEX
 have HEN := Lib.hid hEN; have HEX := Lib.hid hEX
 have HXN := Lib.hid hXN; have HXI := Lib.hid hXI; have HXE := Lib.hid hXE; have HXX := Lib.hid hXX
 have HW0 := Lib.hid hw0; have HB0 := Lib.hid hb0
 clear hp hz hE h hEN hEX hXN hXI hXE hXX hw0 hb0
 obtain ⟨w2, hw2⟩ : ∃ W, W = w.alloc (.cells #[.string XN, .int .i64 kd, .int .i64 dp, .string XI, .slice An en.length cn, .slice Ax ex.length cx] 67) := ⟨_, rfl⟩
 have hb2 : Below w.heap.size w w2 := hw2 ▸ (Below.refl _ _).alloc (Nat.le_refl _) _
 have hr : w2.heap[w.heap.size]? = some (.cells #[.string XN, .int .i64 kd, .int .i64 dp, .string XI, .slice An en.length cn, .slice Ax ex.length cx] 67 (0, 0)) := by rw [hw2]; exact World.alloc_heap_new w _
 have c0 : w2.cell? ⟨w.heap.size, 0, none⟩ = some (.string XN) := by rw [hw2]; simp
 have c1 : w2.cell? ⟨w.heap.size, 1, none⟩ = some (.int .i64 kd) := by rw [hw2]; simp
 have c2 : w2.cell? ⟨w.heap.size, 2, none⟩ = some (.int .i64 dp) := by rw [hw2]; simp
 have c3 : w2.cell? ⟨w.heap.size, 3, none⟩ = some (.string XI) := by rw [hw2]; simp
 have H2 := Lib.hid (HH.out.below hb2)
 have HBW := Lib.hid hb2; have HR := Lib.hid hr; have HW2 := Lib.hid hw2
 have hbne : w.heap.size ≠ b := fun e => by have := HH.out.lt; have := HH.out.le; omega
 have HNE := Lib.hid hbne
 clear hb2 hr hw2 hbne
 go_enter Tryz.func56, Tryz.ntmps56
 go_upto_block 0 with fail
 rw [← HW2.out]
 go_cut [] from 6 to 65 (fun wc => Hid (Wr b B wc (putO l dp (headL ⟨nm, kd, dp, ini, en, ex⟩)) ∧ KeptB b B w2 wc ∧ KeptU b w2 wc))
 case first =>
  have k1 : ∀ n : Int, kd ≠ n → (kd == n) = false := fun n h => beq_eq_false_iff_ne.2 h
  by_cases hk1 : kd = 1
  ·subst hk1
   have hvl : headL ⟨nm, 1, dp, ini, en, ex⟩ = some [wBasic, nm] := rfl
   have hcur : (#[.string ⟨#[98, 97, 115, 105, 99]⟩, .string XN] : Array Value).toList = strsV [wBasic, nm] := by simp only [strsV, List.map]; rw [HXN.out]; rfl
   have hle : ∀ x ∈ [wBasic, nm], x.length ≤ 140737488355328 := by intro x hx; simp only [List.mem_cons, List.not_mem_nil, or_false] at hx; rcases hx with rfl | rfl; decide; exact HZ.out.nm
   have HVL := Lib.hid hvl; have HCUR := Lib.hid hcur; have HLE := Lib.hid hle
   clear hvl hcur hle k1 
   go_wp2_with (go_at_call 54; refine (line_at H2.out hl (Below.refl _ _) dp [wBasic, nm] #[.string ⟨#[98, 97, 115, 105, 99]⟩, .string XN] 2 rfl HCUR.out (by omega) HLE.out).mono ?_; rintro e w9 ⟨rfl, h1, h2, h3⟩)
   go_meet
   case rel => exact ⟨by rw [HVL.out]; exact h1, h2, h3⟩
  have e1 := k1 1 hk1
  by_cases hk3 : kd = 3
  ·subst hk3
   have hvl : headL ⟨nm, 3, dp, ini, en, ex⟩ = some [wBoth, nm] := rfl
   have hcur : (#[.string ⟨#[98, 111, 116, 104]⟩, .string XN] : Array Value).toList = strsV [wBoth, nm] := by simp only [strsV, List.map]; rw [HXN.out]; rfl
   have hle : ∀ x ∈ [wBoth, nm], x.length ≤ 140737488355328 := by intro x hx; simp only [List.mem_cons, List.not_mem_nil, or_false] at hx; rcases hx with rfl | rfl; decide; exact HZ.out.nm
   have HVL := Lib.hid hvl; have HCUR := Lib.hid hcur; have HLE := Lib.hid hle
   clear hvl hcur hle k1 e1 hk1
   go_wp2_with (go_at_call 54; refine (line_at H2.out hl (Below.refl _ _) dp [wBoth, nm] #[.string ⟨#[98, 111, 116, 104]⟩, .string XN] 2 rfl HCUR.out (by omega) HLE.out).mono ?_; rintro e w9 ⟨rfl, h1, h2, h3⟩)
   go_meet
   case rel => exact ⟨by rw [HVL.out]; exact h1, h2, h3⟩
  have e3 := k1 3 hk3
  by_cases hk4 : kd = 4
  ·subst hk4
   have hvl : headL ⟨nm, 4, dp, ini, en, ex⟩ = some [wFinal, nm] := rfl
   have hcur : (#[.string ⟨#[102, 105, 110, 97, 108]⟩, .string XN] : Array Value).toList = strsV [wFinal, nm] := by simp only [strsV, List.map]; rw [HXN.out]; rfl
   have hle : ∀ x ∈ [wFinal, nm], x.length ≤ 140737488355328 := by intro x hx; simp only [List.mem_cons, List.not_mem_nil, or_false] at hx; rcases hx with rfl | rfl; decide; exact HZ.out.nm
   have HVL := Lib.hid hvl; have HCUR := Lib.hid hcur; have HLE := Lib.hid hle
   clear hvl hcur hle k1 e1 hk1 e3 hk3
   go_wp2_with (go_at_call 54; refine (line_at H2.out hl (Below.refl _ _) dp [wFinal, nm] #[.string ⟨#[102, 105, 110, 97, 108]⟩, .string XN] 2 rfl HCUR.out (by omega) HLE.out).mono ?_; rintro e w9 ⟨rfl, h1, h2, h3⟩)
   go_meet
   case rel => exact ⟨by rw [HVL.out]; exact h1, h2, h3⟩
  have e4 := k1 4 hk4
  by_cases hk2 : kd = 2
  ·subst hk2
   have hvl : headL ⟨nm, 2, dp, ini, en, ex⟩ = some [wOne, nm, ini] := rfl
   have hcur : (#[.string ⟨#[111, 110, 101]⟩, .string XN, .string XI] : Array Value).toList = strsV [wOne, nm, ini] := by simp only [strsV, List.map]; rw [HXN.out, HXI.out]; rfl
   have hle : ∀ x ∈ [wOne, nm, ini], x.length ≤ 140737488355328 := by intro x hx; simp only [List.mem_cons, List.not_mem_nil, or_false] at hx; rcases hx with rfl | rfl | rfl; decide; exact HZ.out.nm; exact HZ.out.ini
   have HVL := Lib.hid hvl; have HCUR := Lib.hid hcur; have HLE := Lib.hid hle
   clear hvl hcur hle k1 e1 hk1 e3 hk3 e4 hk4
   go_wp2_with (go_at_call 54; refine (line_at H2.out hl (Below.refl _ _) dp [wOne, nm, ini] #[.string ⟨#[111, 110, 101]⟩, .string XN, .string XI] 3 rfl HCUR.out (by omega) HLE.out).mono ?_; rintro e w9 ⟨rfl, h1, h2, h3⟩)
   go_meet
   case rel => exact ⟨by rw [HVL.out]; exact h1, h2, h3⟩
  have e2 := k1 2 hk2
  by_cases hk5 : kd = 5
  ·subst hk5
   have hvl : headL ⟨nm, 5, dp, ini, en, ex⟩ = some [wShallow, nm, ini] := rfl
   have hcur : (#[.string ⟨#[115, 104, 97, 108, 108, 111, 119]⟩, .string XN, .string XI] : Array Value).toList = strsV [wShallow, nm, ini] := by simp only [strsV, List.map]; rw [HXN.out, HXI.out]; rfl
   have hle : ∀ x ∈ [wShallow, nm, ini], x.length ≤ 140737488355328 := by intro x hx; simp only [List.mem_cons, List.not_mem_nil, or_false] at hx; rcases hx with rfl | rfl | rfl; decide; exact HZ.out.nm; exact HZ.out.ini
   have HVL := Lib.hid hvl; have HCUR := Lib.hid hcur; have HLE := Lib.hid hle
   clear hvl hcur hle k1 e1 hk1 e3 hk3 e4 hk4 e2 hk2
   go_wp2_with (go_at_call 54; refine (line_at H2.out hl (Below.refl _ _) dp [wShallow, nm, ini] #[.string ⟨#[115, 104, 97, 108, 108, 111, 119]⟩, .string XN, .string XI] 3 rfl HCUR.out (by omega) HLE.out).mono ?_; rintro e w9 ⟨rfl, h1, h2, h3⟩)
   go_meet
   case rel => exact ⟨by rw [HVL.out]; exact h1, h2, h3⟩
  have e5 := k1 5 hk5
  by_cases hk6 : kd = 6
  ·subst hk6
   have hvl : headL ⟨nm, 6, dp, ini, en, ex⟩ = some [wDeep, nm, ini] := rfl
   have hcur : (#[.string ⟨#[100, 101, 101, 112]⟩, .string XN, .string XI] : Array Value).toList = strsV [wDeep, nm, ini] := by simp only [strsV, List.map]; rw [HXN.out, HXI.out]; rfl
   have hle : ∀ x ∈ [wDeep, nm, ini], x.length ≤ 140737488355328 := by intro x hx; simp only [List.mem_cons, List.not_mem_nil, or_false] at hx; rcases hx with rfl | rfl | rfl; decide; exact HZ.out.nm; exact HZ.out.ini
   have HVL := Lib.hid hvl; have HCUR := Lib.hid hcur; have HLE := Lib.hid hle
   clear hvl hcur hle k1 e1 hk1 e3 hk3 e4 hk4 e2 hk2 e5 hk5
   go_wp2_with (go_at_call 54; refine (line_at H2.out hl (Below.refl _ _) dp [wDeep, nm, ini] #[.string ⟨#[100, 101, 101, 112]⟩, .string XN, .string XI] 3 rfl HCUR.out (by omega) HLE.out).mono ?_; rintro e w9 ⟨rfl, h1, h2, h3⟩)
   go_meet
   case rel => exact ⟨by rw [HVL.out]; exact h1, h2, h3⟩
  have e6 := k1 6 hk6
  have hvl : headL ⟨nm, kd, dp, ini, en, ex⟩ = none := by unfold headL; rw [if_neg hk1, if_neg hk3, if_neg hk4, if_neg hk2, if_neg hk5, if_neg hk6]
  have HVL := Lib.hid hvl
  clear hvl k1 hk1 hk3 hk4 hk2 hk5 hk6
  go_wp2
  go_meet
  case rel => exact ⟨by rw [HVL.out]; exact H2.out, KeptB.refl _ _ _, KeptU.refl _ _⟩
 case rest =>
  have HC1 := hcut
  clear hcut c0 c1 c2 c3
  obtain ⟨wc1, hwc1⟩ : ∃ W, W = wc := ⟨_, rfl⟩
  rw [← hwc1] at HC1 ⊢; clear hwc1
  obtain ⟨l1, hl1⟩ : ∃ L, putO l dp (headL ⟨nm, kd, dp, ini, en, ex⟩) = L := ⟨_, rfl⟩
  have hs1 : l1.length ≤ 6000 := hl1 ▸ putO_len hl dp (fun ls h => headL_ne h)
  rw [hl1] at HC1
  have HL1 := Lib.hid hl1; clear hl1
  have hq := HC1.out.2.2 w.heap.size _ _ _ HNE.out (by decide) HR.out
  have d2 : wc1.cell? ⟨w.heap.size, 2, none⟩ = some (.int .i64 dp) := by simp [World.cell?, hq]
  have d4 : wc1.cell? ⟨w.heap.size, 4, none⟩ = some (.slice An en.length cn) := by simp [World.cell?, hq]
  have hlow : Below w0.heap.size w0 wc1 := HC1.out.2.1.low (HW0.out.trans (HBW.out.mono HW0.out.size)) HB0.out HH.out.lt
  have HLOW := Lib.hid hlow; clear hlow
  go_upto_if 69 with fail
  go_cut [] from 66 to 78 (fun wc => Hid (Wr b B wc (putO l1 (dp + 1) (blkL wEntry en)) ∧ KeptB b B w2 wc ∧ KeptU b w2 wc))
  case first =>
   by_cases hen : en = []
   ·subst hen
    clear hq
    go_wp2
    go_meet
    case rel => exact HC1
   ·skip
    have hel : 0 < en.length := List.length_pos_iff.2 hen
    have hvl : blkL wEntry en = some [wEntry, (showA en).1] := if_neg hen
    have hcur : (#[.string ⟨#[101, 110, 116, 114, 121]⟩, .string XE] : Array Value).toList = strsV [wEntry, (showA en).1] := by simp only [strsV, List.map]; rw [HXE.out]; rfl
    have hle : ∀ x ∈ [wEntry, (showA en).1], x.length ≤ 140737488355328 := by intro x hx; simp only [List.mem_cons, List.not_mem_nil, or_false] at hx; rcases hx with rfl | rfl; decide; exact HZ.out.ent
    have HVL := Lib.hid hvl; have HCUR := Lib.hid hcur; have HLE := Lib.hid hle
    clear hvl hcur hle hen
    go_wp2_with fail
    have HQ1 := Lib.hid hq
    go_region_held3 (fun w' => w'.heap[w.heap.size]? = some (.cells #[.string XN, .int .i64 kd, .int .i64 dp, .string XI, .slice An en.length cn, .slice Ax ex.length cx] 67 (0, 0)) ∧ w'.cell? ⟨w.heap.size, 2, none⟩ = some (.int .i64 dp) ∧ w'.cell? ⟨w.heap.size, 4, none⟩ = some (.slice An en.length cn))
     (first
      | (go_split_ands; exact kS4 (hb5.block _ (lt_of_heap (by assumption)) |>.trans (by assumption)))
      | (go_split_ands; exact kS4 (h3 _ _ _ _ HNE.out (by decide) HQ1.out))
      | (go_split_ands; exact kS4 (heap_old (by assumption)))
      | (go_split_ands; exact kS4 (by assumption))
      | go_keep)
     ((first | (go_at_call 99; (with_reducible refine (HEN.out _ (by first | exact HLOW.out | exact Below.drew HLOW.out)).mono ?_); rintro e w5 ⟨rfl, hb5⟩) | (go_at_call 54; (with_reducible refine (line_at HC1.out.1 hs1 (by first | exact hb5 | exact below_of_drew hb5) _ [wEntry, (showA en).1] #[.string ⟨#[101, 110, 116, 114, 121]⟩, .string XE] 2 rfl HCUR.out (by omega) HLE.out).mono ?_); rintro e w9 ⟨rfl, h1, h2, h3⟩)))
    all_goals (
     go_wp2
     go_meet
     case rel => exact ⟨by rw [HVL.out]; show Wr b B _ (putL l1 (dp + 1) _); rw [← putL_wrap HZ.out.dp]; exact h1, HC1.out.2.1.trans h2, HC1.out.2.2.trans h3⟩)
  case rest =>
   have HC2 := hcut
   clear hcut d2 d4 hq
   obtain ⟨wc2, hwc2⟩ : ∃ W, W = wc := ⟨_, rfl⟩
   rw [← hwc2] at HC2 ⊢; clear hwc2 HLOW
   obtain ⟨l2, hl2⟩ : ∃ L, putO l1 (dp + 1) (blkL wEntry en) = L := ⟨_, rfl⟩
   have hs2 : l2.length ≤ 6000 := hl2 ▸ putO_len hs1 _ (fun ls h => blkL_ne h)
   rw [hl2] at HC2
   have HL2 := Lib.hid hl2; clear hl2
   have FIN : Hid (∀ wz : World, (Wr b B wz (putO l2 (dp + 1) (blkL wExit ex)) ∧ KeptB b B w2 wz ∧ KeptU b w2 wz) → (Wr b B wz (putS l ⟨nm, kd, dp, ini, en, ex⟩) ∧ KeptB b B w wz ∧ KeptU b w wz)) := by
    intro wz h
    refine ⟨?_, (KeptB.of_below HBW.out HH.out.le).trans h.2.1, (KeptU.of_below HBW.out).trans h.2.2⟩
    show Wr b B _ (putO (putO (putO l dp (headL ⟨nm, kd, dp, ini, en, ex⟩)) (dp + 1) (blkL wEntry en)) (dp + 1) (blkL wExit ex))
    rw [HL1.out, HL2.out]
    exact h.1
   have hq := HC2.out.2.2 w.heap.size _ _ _ HNE.out (by decide) HR.out
   have d2 : wc2.cell? ⟨w.heap.size, 2, none⟩ = some (.int .i64 dp) := by simp [World.cell?, hq]
   have d5 : wc2.cell? ⟨w.heap.size, 5, none⟩ = some (.slice Ax ex.length cx) := by simp [World.cell?, hq]
   have hlow : Below w0.heap.size w0 wc2 := HC2.out.2.1.low (HW0.out.trans (HBW.out.mono HW0.out.size)) HB0.out HH.out.lt
   have HLOW := Lib.hid hlow; clear hlow
   go_upto_if 82 with fail
   by_cases hen : ex = []
   ·subst hen
    clear hq
    go_wp2
    go_end0
    exact ⟨rfl, FIN.out _ HC2.out⟩
   ·skip
    have hel : 0 < ex.length := List.length_pos_iff.2 hen
    have hvl : blkL wExit ex = some [wExit, (showA ex).1] := if_neg hen
    have hcur : (#[.string ⟨#[101, 120, 105, 116]⟩, .string XX] : Array Value).toList = strsV [wExit, (showA ex).1] := by simp only [strsV, List.map]; rw [HXX.out]; rfl
    have hle : ∀ x ∈ [wExit, (showA ex).1], x.length ≤ 140737488355328 := by intro x hx; simp only [List.mem_cons, List.not_mem_nil, or_false] at hx; rcases hx with rfl | rfl; decide; exact HZ.out.ext
    have HVL := Lib.hid hvl; have HCUR := Lib.hid hcur; have HLE := Lib.hid hle
    clear hvl hcur hle hen
    go_wp2_with fail
    have HQ2 := Lib.hid hq
    go_region_held3 (fun w' => w'.heap[w.heap.size]? = some (.cells #[.string XN, .int .i64 kd, .int .i64 dp, .string XI, .slice An en.length cn, .slice Ax ex.length cx] 67 (0, 0)) ∧ w'.cell? ⟨w.heap.size, 2, none⟩ = some (.int .i64 dp) ∧ w'.cell? ⟨w.heap.size, 5, none⟩ = some (.slice Ax ex.length cx))
     (first
      | (go_split_ands; exact kS5 (hb5.block _ (lt_of_heap (by assumption)) |>.trans (by assumption)))
      | (go_split_ands; exact kS5 (h3 _ _ _ _ HNE.out (by decide) HQ2.out))
      | (go_split_ands; exact kS5 (heap_old (by assumption)))
      | (go_split_ands; exact kS5 (by assumption))
      | go_keep)
     ((first | (go_at_call 99; (with_reducible refine (HEX.out _ (by first | exact HLOW.out | exact Below.drew HLOW.out)).mono ?_); rintro e w5 ⟨rfl, hb5⟩) | (go_at_call 54; (with_reducible refine (line_at HC2.out.1 hs2 (by first | exact hb5 | exact below_of_drew hb5) _ [wExit, (showA ex).1] #[.string ⟨#[101, 120, 105, 116]⟩, .string XX] 2 rfl HCUR.out (by omega) HLE.out).mono ?_); rintro e w9 ⟨rfl, h1, h2, h3⟩)))
    all_goals (
     go_wp2
     go_end0
     refine ⟨rfl, FIN.out _ ⟨?_, HC2.out.2.1.trans h2, HC2.out.2.2.trans h3⟩⟩
     rw [HVL.out]; show Wr b B _ (putL l2 (dp + 1) _); rw [← putL_wrap HZ.out.dp]; exact h1)
end Go.Proofs.YtdooeonilbpfgaaGreatDoor.Ch
namespace Go.Proofs.YtdooeonilbpfgaaGreatDoor.Ch
open Go.RowKit
def joinW : List (List UInt8) → List UInt8
 | [] => []
 | [w] => w
 | w :: x :: r => w ++ 32 :: joinW (x :: r)
theorem joinW_cons {w : List UInt8} {X : List (List UInt8)} (h : X ≠ []) : joinW (w :: X) = w ++ 32 :: joinW X := by
 cases X with
 | nil => exact absurd rfl h
 | cons x r => rfl
theorem joinW_glue {p : List UInt8} {X : List (List UInt8)} (h : X ≠ []) : joinW (glue p X) = p ++ joinW X := by
 cases X with
 | nil => exact absurd rfl h
 | cons x r =>
  cases r with
  | nil => rfl
  | cons y t => simp [glue, joinW]
theorem join_pieces : ∀ l : List UInt8, joinW (pieces l) = l
 | [] => rfl
 | c :: r => by
  by_cases hc : c = 32
  ·subst hc
   rw [pieces_blank, joinW_cons (pieces_ne _), join_pieces r]; rfl
  ·rw [pieces_cons hc, joinW_glue (pieces_ne _), join_pieces r]; rfl
theorem depth_le : ∀ l : List UInt8, depthL l ≤ l.length
 | [] => Nat.le_refl _
 | c :: r => by
  have := depth_le r
  unfold depthL; split
  ·simp; omega
  ·simp
theorem pieces_good {w r : List UInt8} : w.all isSB = true → pieces (w ++ r) = glue w (pieces r) := by
 induction w with
 | nil => intro _; rw [glue_nil (pieces_ne _)]; rfl
 | cons c t ih =>
  intro h
  rw [List.all_cons, Bool.and_eq_true] at h
  rw [List.cons_append, pieces_cons (not_blank h.1), ih h.2, glue_glue]; rfl
theorem goodW_all {w : List UInt8} (h : goodW w = true) : w.all isSB = true := by
 unfold goodW at h; rw [Bool.and_eq_true] at h; exact h.2
theorem pieces_join : ∀ X : List (List UInt8), X ≠ [] → X.all goodW = true → pieces (joinW X) = X
 | [], h, _ => absurd rfl h
 | [w], _, h => by
  have hw : goodW w = true := by simpa using h
  have := pieces_good (r := []) (goodW_all hw)
  rw [List.append_nil] at this
  show pieces w = [w]
  rw [this, pieces_nil, glue_blank]
 | w :: x :: r, _, h => by
  rw [List.all_cons, Bool.and_eq_true] at h
  rw [joinW_cons (by simp), pieces_good (goodW_all h.1), pieces_blank, glue_blank, pieces_join (x :: r) (by simp) h.2]
theorem depth_rep : ∀ (k : Nat) (r : List UInt8), depthL r = 0 → depthL (List.replicate k 32 ++ r) = k
 | 0, r, h => by simpa using h
 | k + 1, r, h => by
  rw [List.replicate_succ, List.cons_append]
  simp only [depthL, if_true]
  rw [depth_rep k r h]
theorem depth_good {w r : List UInt8} (h : goodW w = true) : depthL (w ++ r) = 0 := by
 cases w with
 | nil => simp [goodW] at h
 | cons c t =>
  have := goodW_all h
  rw [List.all_cons, Bool.and_eq_true] at this
  simp only [List.cons_append, depthL, if_neg (not_blank this.1)]
theorem depth_join {X : List (List UInt8)} (hne : X ≠ []) (h : X.all goodW = true) : depthL (joinW X) = 0 := by
 match X, hne with
 | [w], _ =>
  have hw : goodW w = true := by simpa using h
  have := depth_good (r := []) hw
  rw [List.append_nil] at this; exact this
 | w :: x :: r, _ =>
  rw [List.all_cons, Bool.and_eq_true] at h
  rw [joinW_cons (by simp)]; exact depth_good h.1
theorem line_join {X : List (List UInt8)} {k : Nat} {l : List UInt8} (e : l = List.replicate k 32 ++ joinW X) (hne : X ≠ []) (h : X.all goodW = true) : lineB l = true ∧ depthL l = k ∧ lineW l = X := by
 have hd : depthL l = k := by rw [e]; exact depth_rep k _ (depth_join hne h)
 have hw : lineW l = X := by
  unfold lineW
  rw [hd, e, List.drop_append_of_le_length (by simp)]
  rw [List.drop_of_length_le (by simp), List.nil_append, pieces_join X hne h]
 refine ⟨?_, hd, hw⟩
 unfold lineB; rw [hw, h]
theorem okB_vis {c : UInt8} (h : okB c = true) : isSB c = true := by
 unfold okB at h
 simp only [Bool.or_eq_true, beq_iff_eq] at h
 rw [isSB_iff]
 rcases h with (h | h) | h
 ·have := isLB_iff.1 h; omega
 ·have := isD_iff.1 h; omega
 ·subst h; decide
theorem name_vis {l : List UInt8} (h : nameB l = true) : ∀ c ∈ l, isSB c = true := by
 cases l with
 | nil => intro c hc; simp at hc
 | cons a r =>
  simp only [nameB, Bool.and_eq_true] at h
  obtain ⟨⟨⟨_, ha⟩, hr⟩, _⟩ := h
  intro c hc
  rcases List.mem_cons.1 hc with rfl | hc
  ·exact okB_vis (by unfold okB; rw [ha]; rfl)
  ·exact okB_vis (List.all_eq_true.1 hr _ hc)
theorem event_vis {l : List UInt8} (h : eventB l = true) : ∀ c ∈ l, isSB c = true := by
 unfold eventB Lib.trimPrefix at h
 split at h
 ·rename_i hp
  have hp := (hasPrefix_iff _ _).1 hp
  intro c hc
  rw [← List.take_append_drop 5 l] at hc
  rcases List.mem_append.1 hc with hc | hc
  ·rw [show l.take 5 = [100, 111, 110, 101, 46] from hp] at hc
   have key : ∀ x ∈ ([100, 111, 110, 101, 46] : List UInt8), isSB x = true := by decide
   exact key c hc
  ·exact name_vis h c hc
 ·exact fun c hc => name_vis h c hc
theorem dec_vis : ∀ (n : Nat), ∀ c ∈ Lib.decDigits n, isSB c = true := by
 intro n
 induction n using Nat.strongRecOn with
 | ind n ih =>
  intro c hc
  by_cases h : n < 10
  ·rw [dec_small h] at hc
   simp at hc
   subst hc
   have : n = 0 ∨ n = 1 ∨ n = 2 ∨ n = 3 ∨ n = 4 ∨ n = 5 ∨ n = 6 ∨ n = 7 ∨ n = 8 ∨ n = 9 := by omega
   rcases this with rfl | rfl | rfl | rfl | rfl | rfl | rfl | rfl | rfl | rfl <;> decide
  ·rw [dec_big h] at hc
   rcases List.mem_append.1 hc with hc | hc
   ·exact ih _ (by omega) c hc
   ·simp at hc
    subst hc
    have : n % 10 = 0 ∨ n % 10 = 1 ∨ n % 10 = 2 ∨ n % 10 = 3 ∨ n % 10 = 4 ∨ n % 10 = 5 ∨ n % 10 = 6 ∨ n % 10 = 7 ∨ n % 10 = 8 ∨ n % 10 = 9 := by omega
    rcases this with e | e | e | e | e | e | e | e | e | e <;> rw [e] <;> decide
theorem inP_vis {x : List UInt8} (h : ∀ c ∈ x, isSB c = true) (a b : Int) : ∀ c ∈ inP x a b, isSB c = true := by
 unfold inP
 split
 ·intro c hc
  simp only [List.mem_append, List.mem_singleton] at hc
  rcases hc with (rfl | hc) | rfl
  ·decide
  ·exact h c hc
  ·decide
 ·exact h
theorem tab_vis (k : Nat) : ∀ c ∈ (tabAt k).2.1, isSB c = true := by
 by_cases hk : k < 13
 ·have hh : k = 0 ∨ k = 1 ∨ k = 2 ∨ k = 3 ∨ k = 4 ∨ k = 5 ∨ k = 6 ∨ k = 7 ∨ k = 8 ∨ k = 9 ∨ k = 10 ∨ k = 11 ∨ k = 12 := by omega
  rcases hh with rfl | rfl | rfl | rfl | rfl | rfl | rfl | rfl | rfl | rfl | rfl | rfl | rfl <;> decide
 ·have e : tabAt k = (0, [], 0) := by
   unfold tabAt
   rw [List.getD_eq_getElem?_getD, List.getElem?_eq_none (by show 13 ≤ k; omega)]; rfl
  rw [e]; intro c hc; cases hc
theorem leaf_vis {c : CM} (h : OkT (.leaf c)) : ∀ x ∈ (joinP c none0 none0).1, isSB x = true := by
 have h16 : 1 ≤ c.op ∧ c.op ≤ 6 := by
  have h1 := formed_op h.1
  have ho := h.2
  unfold operN at ho
  split at ho
  ·assumption
  ·split at ho <;> omega
 unfold joinP
 split
 ·rename_i e; have := formed_num h.1 (Or.inl e); simp only; rw [itoa_nat this.1]; exact dec_vis _
 ·split
  ·rename_i e
   have := formed_num h.1 (Or.inr e)
   simp only
   rw [itoa_nat this.1]
   intro x hx
   simp only [List.mem_append, List.mem_singleton] at hx
   rcases hx with hx | rfl
   ·exact dec_vis _ x hx
   ·decide
  ·split
   ·intro x hx; revert hx; revert x; simp only [wTrue]; decide
   ·split
    ·intro x hx; revert hx; revert x; simp only [wFalse]; decide
    ·have hn : ∀ (o : Int), c.op = o → (o = 5 ∨ o = 6) → nameB c.nm = true := by
      intro o e ho
      have := h.1
      unfold formedB at this
      rw [if_neg (by omega), if_neg (by omega), if_pos (by omega)] at this
      simp at this
      exact this.2
     split
     ·rename_i e; exact fun x hx => name_vis (hn _ e (Or.inl rfl)) x hx
     ·split
      ·rename_i e
       intro x hx
       simp only [List.mem_append, List.mem_singleton] at hx
       rcases hx with (hx | hx) | rfl
       ·revert hx; revert x; decide
       ·exact name_vis (hn _ e (Or.inr rfl)) x hx
       ·decide
      ·exfalso; omega
theorem tree_vis {t : T} (h : OkT t) : ∀ x ∈ (pcT t).1, isSB x = true := by
 induction t with
 | leaf c => exact leaf_vis h
 | un o t ih =>
  have ih := ih h.2.2
  have hc : o = 7 ∨ o = 8 ∨ o = 9 ∨ o = 10 := by have := h.1; have := h.2.1; omega
  have h6 := inP_vis ih (pcT t).2 6
  rcases hc with rfl | rfl | rfl | rfl
  ·show ∀ x ∈ [45] ++ inP (pcT t).1 (pcT t).2 6, isSB x = true
   intro x hx
   rcases List.mem_append.1 hx with hx | hx
   ·simp at hx; subst hx; decide
   ·exact h6 x hx
  ·show ∀ x ∈ [33] ++ inP (pcT t).1 (pcT t).2 6, isSB x = true
   intro x hx
   rcases List.mem_append.1 hx with hx | hx
   ·simp at hx; subst hx; decide
   ·exact h6 x hx
  ·show ∀ x ∈ [114, 101, 40] ++ (pcT t).1 ++ [41], isSB x = true
   intro x hx
   simp only [List.mem_append, List.mem_singleton] at hx
   rcases hx with (hx | hx) | rfl
   ·revert hx; revert x; decide
   ·exact ih x hx
   ·decide
  ·show ∀ x ∈ [105, 109, 40] ++ (pcT t).1 ++ [41], isSB x = true
   intro x hx
   simp only [List.mem_append, List.mem_singleton] at hx
   rcases hx with (hx | hx) | rfl
   ·revert hx; revert x; decide
   ·exact ih x hx
   ·decide
 | bin o l r ihl ihr =>
  have h1 := ihl h.2.2.1
  have h2 := ihr h.2.2.2
  show ∀ x ∈ (joinP (opC o) (pcT l) (pcT r)).1, isSB x = true
  rw [joinP_bin h.1]
  unfold betP
  intro x hx
  simp only [List.mem_append] at hx
  rcases hx with (hx | hx) | hx
  ·exact inP_vis h1 _ _ x hx
  ·exact tab_vis _ x hx
  ·exact inP_vis h2 _ _ x hx
theorem show_vis {cs : List CM} (h : rightB cs = true) : ∀ x ∈ (showP cs).1, isSB x = true := by
 obtain ⟨t, h1, rfl⟩ := right_tree h
 have hl : (post t).length ≤ 32 := by unfold rightB at h; simp at h; exact h.1
 rw [tree_show h1 hl]
 exact tree_vis h1
theorem text_vis {a : AM} (h : oneB a = true) : ∀ c ∈ textA a, isSB c = true := by
 rcases one_kinds h with ⟨e, hn, hr, _⟩ | ⟨e, he, hx⟩
 ·unfold textA
  rw [if_neg (by omega), if_neg (by omega)]
  intro c hc
  simp only [List.mem_append, List.mem_singleton] at hc
  rcases hc with (hc | rfl) | hc
  ·exact name_vis hn c hc
  ·decide
  ·exact show_vis hr c hc
 ·have := event_vis he
  unfold textA
  rcases e with e | e
  ·rw [if_pos e]
   intro c hc
   rcases List.mem_append.1 hc with hc | hc
   ·have key : ∀ x ∈ wRaise, isSB x = true := by decide
    exact key c hc
   ·exact this c hc
  ·rw [if_neg (by omega), if_pos e]
   intro c hc
   rcases List.mem_append.1 hc with hc | hc
   ·have key : ∀ x ∈ wSend, isSB x = true := by decide
    exact key c hc
   ·exact this c hc
theorem joinW_tail : ∀ (x : List UInt8) (r : List (List UInt8)), joinW (x :: r) = x ++ (r.map ([32] ++ ·)).flatten
 | x, [] => by simp [joinW]
 | x, y :: r => by
  rw [joinW_cons (by simp), joinW_tail y r]
  simp
theorem join_is (ls : List (List UInt8)) (h : ls ≠ []) : Lib.join ls [32] = joinW ls := by
 cases ls with
 | nil => exact absurd rfl h
 | cons x r => rw [Lib.join_cons, joinW_tail]; rfl
theorem goodW_of {w : List UInt8} (hn : w ≠ []) (h : ∀ c ∈ w, isSB c = true) : goodW w = true := by
 unfold goodW
 rw [Bool.and_eq_true]
 refine ⟨?_, List.all_eq_true.2 h⟩
 cases w with
 | nil => exact absurd rfl hn
 | cons _ _ => rfl
theorem name_good {l : List UInt8} (h : nameB l = true) : goodW l = true := goodW_of (nameB_ne h) (name_vis h)
theorem event_ne {l : List UInt8} (h : eventB l = true) : l ≠ [] := by
 intro e; subst e; revert h; decide
theorem event_good {l : List UInt8} (h : eventB l = true) : goodW l = true := goodW_of (event_ne h) (event_vis h)
theorem show_ne {cs : List CM} (h : rightB cs = true) : (showP cs).1 ≠ [] := by
 intro e
 have h1 := (back h).1
 rw [e] at h1
 have : (parseP []).2.2 = 0 := by rw [h1]
 revert this; decide +kernel
theorem show_good {cs : List CM} (h : rightB cs = true) : goodW (showP cs).1 = true := goodW_of (show_ne h) (show_vis h)
theorem showA_ne {l : List AM} (h : rightA l = true) : (showA l).1 ≠ [] := by
 intro e
 have h1 := (backA h).1
 rw [e] at h1
 have : (parseA []).2 = 0 := by rw [h1]
 revert this; decide +kernel
theorem join59_vis (ts : List (List UInt8)) (h : ∀ t ∈ ts, ∀ c ∈ t, isSB c = true) : ∀ c ∈ Lib.join ts [59], isSB c = true := by
 cases ts with
 | nil => intro c hc; simp [Lib.join] at hc
 | cons x r =>
  rw [Lib.join_cons]
  unfold Lib.joinTail
  intro c hc
  rcases List.mem_append.1 hc with hc | hc
  ·exact h x (by simp) c hc
  ·obtain ⟨q, hq, hcq⟩ := List.mem_flatten.1 hc
   obtain ⟨y, hy, rfl⟩ := List.mem_map.1 hq
   rcases List.mem_append.1 hcq with hcq | hcq
   ·simp at hcq; subst hcq; decide
   ·exact h y (by simp [hy]) c hcq
theorem showA_good {l : List AM} (h : rightA l = true) : goodW (showA l).1 = true := by
 refine goodW_of (showA_ne h) ?_
 have hs : showA l = (Lib.join (l.map textA) [59], 0) := if_pos h
 rw [hs]
 refine join59_vis _ (fun t ht => ?_)
 obtain ⟨a, ha, rfl⟩ := List.mem_map.1 ht
 unfold rightA at h
 rw [Bool.and_eq_true] at h
 exact text_vis (List.all_eq_true.1 h.2 a ha)
theorem itoa_good (n : Int) : goodW (Lib.itoa n) = true := by
 refine goodW_of ?_ ?_
 ·rcases Int.lt_or_le n 0 with h | h
  ·rw [Pl.itoa_neg' h]; simp
  ·rw [itoa_nat h]; exact dec_ne _
 ·rcases Int.lt_or_le n 0 with h | h
  ·rw [Pl.itoa_neg' h]
   intro c hc
   rcases List.mem_cons.1 hc with rfl | hc
   ·decide
   ·exact dec_vis _ c hc
  ·rw [itoa_nat h]; exact dec_vis _
theorem shw_good (a b : Int) : goodW (Pl.shw a b) = true := by
 have hv : ∀ n : Int, ∀ c ∈ Lib.itoa n, isSB c = true := fun n c hc => List.all_eq_true.1 (goodW_all (itoa_good n)) c hc
 unfold Pl.shw
 refine goodW_of (by simp) (fun c hc => ?_)
 simp only [List.mem_append, List.mem_singleton] at hc
 rcases hc with (hc | hc | hc) | rfl
 ·exact hv _ c hc
 ·unfold Pl.sgn at hc
  split at hc
  ·simp at hc
  ·simp at hc; subst hc; decide
 ·exact hv _ c hc
 ·decide
end Go.Proofs.YtdooeonilbpfgaaGreatDoor.Ch
namespace Go.Proofs.YtdooeonilbpfgaaGreatDoor.Ch
open Go.RowKit
abbrev Call := Int × List (List UInt8)
def optC (d : Int) : Option (List (List UInt8)) → List Call
 | none => []
 | some ls => [(d, ls)]
def writeC (l : List UInt8) (cs : List Call) : List UInt8 := cs.foldl (fun l x => putL l x.1 x.2) l
def stC (s : SC) : List Call := optC s.dp (headL s) ++ optC (s.dp + 1) (blkL wEntry s.en) ++ optC (s.dp + 1) (blkL wExit s.ex)
def trC (d i : Int) : List TC → List Call × List TC
 | [] => ([], [])
 | t :: r => if t.fr = i then ((d, onL t) :: (trC d i r).1, (trC d i r).2) else ([], t :: r)
def bodyC : Nat → List SC → List TC → List Call
 | _, [], _ => []
 | i, s :: r, ts => stC s ++ (trC (s.dp + 1) i ts).1 ++ bodyC (i + 1) r (trC (s.dp + 1) i ts).2
def headC (c : CH) : List Call := (0, [wChart, c.nm]) :: (c.es.map (fun e => ((0 : Int), [wEvent, e])) ++ c.vs.flatMap (fun v => optC 0 (varL v)))
def callsC (c : CH) : List Call := headC c ++ bodyC 0 c.ss c.ts
def lineX (x : Call) : List UInt8 := lineTx x.1.toNat x.2
def fullC (cs : List Call) : List UInt8 := cs.flatMap lineX
theorem writeC_append (l : List UInt8) (a b : List Call) : writeC l (a ++ b) = writeC (writeC l a) b := List.foldl_append
theorem writeC_cons (l : List UInt8) (x : Call) (r : List Call) : writeC l (x :: r) = writeC (putL l x.1 x.2) r := rfl
theorem writeC_opt (l : List UInt8) (d : Int) (o : Option (List (List UInt8))) : writeC l (optC d o) = putO l d o := by cases o <;> rfl
theorem putS_is (l : List UInt8) (s : SC) : putS l s = writeC l (stC s) := by
 unfold stC
 rw [writeC_append, writeC_append, writeC_opt, writeC_opt, writeC_opt]
 rfl
theorem lineTx_len (d : Nat) {ls : List (List UInt8)} (h : ls ≠ []) : (lineTx d ls).length = d + (ls.length + sumL ls) := by
 cases ls with
 | nil => exact absurd rfl h
 | cons x r =>
  unfold lineTx
  rw [List.length_append, List.length_append, List.length_replicate, join_cons2]
  unfold sumL
  simp
  omega
theorem lineTx_ne (d : Nat) (ls : List (List UInt8)) : lineTx d ls ≠ [] := by unfold lineTx; simp
theorem putL_eq {l : List UInt8} {d : Int} {ls : List (List UInt8)} (h : ls ≠ []) : putL l d ls = if 0 ≤ d ∧ l.length + (lineTx d.toNat ls).length ≤ 6000 then l ++ lineTx d.toNat ls else l := by
 unfold putL
 have e : fitsB l d ls = decide (0 ≤ d ∧ l.length + (lineTx d.toNat ls).length ≤ 6000) := by
  rw [lineTx_len _ h]
  unfold fitsB
  rw [Bool.eq_iff_iff]
  simp only [Bool.and_eq_true, decide_eq_true_eq]
  constructor
  ·rintro ⟨⟨h1, h2⟩, h3⟩; omega
  ·rintro ⟨h1, h2⟩; omega
 rw [e]
 by_cases hq : 0 ≤ d ∧ l.length + (lineTx d.toNat ls).length ≤ 6000
 ·rw [if_pos hq, decide_eq_true hq, if_pos rfl]
 ·rw [if_neg hq, decide_eq_false hq]; rfl
theorem fullC_append (a b : List Call) : fullC (a ++ b) = fullC a ++ fullC b := by simp [fullC]
theorem fullC_cons (x : Call) (r : List Call) : fullC (x :: r) = lineX x ++ fullC r := by simp [fullC]
theorem writeC_full : ∀ (cs : List Call) (l : List UInt8), (∀ x ∈ cs, 0 ≤ x.1 ∧ x.2 ≠ []) → l.length + (fullC cs).length ≤ 6000 → writeC l cs = l ++ fullC cs
 | [], l, _, _ => by simp [writeC, fullC]
 | x :: r, l, h, hl => by
  rw [fullC_cons, List.length_append] at hl
  have hx := h x (by simp)
  rw [writeC_cons, putL_eq hx.2, if_pos ⟨hx.1, by unfold lineX at hl; omega⟩, writeC_full r _ (fun y hy => h y (by simp [hy])) (by unfold lineX at hl; rw [List.length_append]; omega), fullC_cons]
  unfold lineX
  rw [List.append_assoc]
theorem writeC_some : ∀ (cs : List Call) (l : List UInt8), (∀ x ∈ cs, x.2 ≠ []) → l.length ≤ 6000 → ∃ ks : List Call, ks.Sublist cs ∧ writeC l cs = l ++ fullC ks ∧ l.length + (fullC ks).length ≤ 6000 ∧ ∀ x ∈ ks, 0 ≤ x.1
 | [], l, _, hl => ⟨[], List.Sublist.slnil, by simp [writeC, fullC], by simp [fullC]; exact hl, fun x hx => by cases hx⟩
 | x :: r, l, h, hl => by
  rw [writeC_cons, putL_eq (h x (by simp))]
  have hr : ∀ y ∈ r, y.2 ≠ [] := fun y hy => h y (by simp [hy])
  by_cases hq : 0 ≤ x.1 ∧ l.length + (lineTx x.1.toNat x.2).length ≤ 6000
  ·rw [if_pos hq]
   obtain ⟨ks, h1, h2, h3, h4⟩ := writeC_some r (l ++ lineTx x.1.toNat x.2) hr (by rw [List.length_append]; exact hq.2)
   refine ⟨x :: ks, h1.cons_cons x, by rw [h2, fullC_cons, List.append_assoc]; rfl, ?_, ?_⟩
   ·rw [fullC_cons, List.length_append]
    rw [List.length_append] at h3
    unfold lineX
    omega
   ·intro y hy
    rcases List.mem_cons.1 hy with rfl | hy
    ·exact hq.1
    ·exact h4 y hy
  ·rw [if_neg hq]
   obtain ⟨ks, h1, h2, h3, h4⟩ := writeC_some r l hr hl
   exact ⟨ks, h1.cons x, h2, h3, h4⟩
theorem onL_ne (t : TC) : onL t ≠ [] := by unfold onL; simp
theorem trC_ne (d i : Int) : ∀ ts : List TC, ∀ x ∈ (trC d i ts).1, x.2 ≠ []
 | [], x, hx => by cases hx
 | t :: r, x, hx => by
  unfold trC at hx
  split at hx
  ·rcases List.mem_cons.1 hx with rfl | hx
   ·exact onL_ne t
   ·exact trC_ne d i r x hx
  ·cases hx
theorem optC_ne {d : Int} {o : Option (List (List UInt8))} (h : ∀ ls, o = some ls → ls ≠ []) : ∀ x ∈ optC d o, x.2 ≠ [] := by
 cases o with
 | none => intro x hx; cases hx
 | some ls => intro x hx; simp [optC] at hx; subst hx; exact h ls rfl
theorem stC_ne (s : SC) : ∀ x ∈ stC s, x.2 ≠ [] := by
 intro x hx
 unfold stC at hx
 simp only [List.mem_append] at hx
 rcases hx with (hx | hx) | hx
 ·exact optC_ne (fun ls h => headL_ne h) x hx
 ·exact optC_ne (fun ls h => blkL_ne h) x hx
 ·exact optC_ne (fun ls h => blkL_ne h) x hx
theorem bodyC_ne : ∀ (ss : List SC) (i : Nat) (ts : List TC), ∀ x ∈ bodyC i ss ts, x.2 ≠ []
 | [], _, _, x, hx => by cases hx
 | s :: r, i, ts, x, hx => by
  unfold bodyC at hx
  simp only [List.mem_append] at hx
  rcases hx with (hx | hx) | hx
  ·exact stC_ne s x hx
  ·exact trC_ne _ _ _ x hx
  ·exact bodyC_ne r _ _ x hx
theorem callsC_ne (c : CH) : ∀ x ∈ callsC c, x.2 ≠ [] := by
 intro x hx
 unfold callsC headC at hx
 simp only [List.mem_append, List.mem_cons] at hx
 rcases hx with (rfl | hx | hx) | hx
 ·simp
 ·obtain ⟨e, _, rfl⟩ := List.mem_map.1 hx; simp
 ·obtain ⟨v, _, hv⟩ := List.mem_flatMap.1 hx; exact optC_ne (fun ls h => varL_ne h) x hv
 ·exact bodyC_ne _ _ _ x hx
end Go.Proofs.YtdooeonilbpfgaaGreatDoor.Ch
