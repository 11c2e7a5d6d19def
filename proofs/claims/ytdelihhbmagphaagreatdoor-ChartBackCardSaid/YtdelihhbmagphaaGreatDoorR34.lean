/- Own texts, joined: Ta, Tn, To, Ts, Tb. -/
import Derived.Test.YtdelihhbmagphaaGreatDoorR33
namespace Go.Proofs.YtdelihhbmagphaaGreatDoor.Ch
open Go.RowKit
def headL (s : SC) : Option (List (List UInt8)) :=
 if s.kd = 1 then some [wBasic, s.nm]
 else if s.kd = 3 then some [wBoth, s.nm]
 else if s.kd = 4 then some [wFinal, s.nm]
 else if s.kd = 2 then some [wOne, s.nm, s.ini]
 else if s.kd = 5 then some [wShallow, s.nm, s.ini]
 else if s.kd = 6 then some [wDeep, s.nm, s.ini]
 else none
def blkL (k : List UInt8) (l : List AM) : Option (List (List UInt8)) := if l = [] then none else some [k, (showA l).1]
def putS (l : List UInt8) (s : SC) : List UInt8 := putO (putO (putO l s.dp (headL s)) (s.dp + 1) (blkL wEntry s.en)) (s.dp + 1) (blkL wExit s.ex)
structure StZ (s : SC) : Prop where
 nm : s.nm.length ≤ 140737488355328
 ini : s.ini.length ≤ 140737488355328
 dp : I64 s.dp
 en : s.en.length ≤ 4611686018427387904
 ex : s.ex.length ≤ 4611686018427387904
 ent : (showA s.en).1.length ≤ 140737488355328
 ext : (showA s.ex).1.length ≤ 140737488355328
theorem putL_len {l : List UInt8} (h : l.length ≤ 6000) (d : Int) {ls : List (List UInt8)} (hn : ls ≠ []) : (putL l d ls).length ≤ 6000 := by
 unfold putL
 split
 ·rename_i hf
  unfold fitsB at hf
  simp only [Bool.and_eq_true, decide_eq_true_eq] at hf
  obtain ⟨⟨h0, h1⟩, h2⟩ := hf
  cases ls with
  | nil => exact absurd rfl hn
  | cons x r =>
   unfold lineTx
   rw [List.length_append, List.length_append, List.length_append, List.length_replicate, join_cons2]
   unfold sumL at h2 ⊢
   simp at h2 ⊢
   omega
 ·exact h
theorem headL_ne {s : SC} {ls : List (List UInt8)} (h : headL s = some ls) : ls ≠ [] := by
 unfold headL at h
 repeat' split at h
 all_goals first | (injection h with h; subst h; simp) | cases h
theorem putO_len {l : List UInt8} (h : l.length ≤ 6000) (d : Int) {o : Option (List (List UInt8))} (hn : ∀ ls, o = some ls → ls ≠ []) : (putO l d o).length ≤ 6000 := by
 cases o with
 | none => exact h
 | some ls => exact putL_len h d (hn ls rfl)
theorem varL_ne {v : VM} {ls : List (List UInt8)} (h : varL v = some ls) : ls ≠ [] := by
 unfold varL at h
 repeat' split at h
 all_goals first | (injection h with h; subst h; simp) | cases h
theorem blkL_ne {k : List UInt8} {l : List AM} {ls : List (List UInt8)} (h : blkL k l = some ls) : ls ≠ [] := by
 unfold blkL at h
 split at h
 ·cases h
 ·injection h with h; subst h; simp
theorem putL_wrap {d : Int} (hd : I64 d) (l : List UInt8) (ls : List (List UInt8)) : putL l (IntKind.i64.wrap (d + 1)) ls = putL l (d + 1) ls := by
 by_cases h : d = 9223372036854775807
 ·subst h
  have e : IntKind.i64.wrap (9223372036854775807 + 1) = -9223372036854775808 := by decide
  rw [e]
  unfold putL fitsB
  rfl
 ·rw [IntWalk.i64_in _ (by unfold I64 at hd; omega)]
theorem KeptB.low {b B B0 : Nat} {w0 w w' : World} (h : KeptB b B w w') (hw : Below B0 w0 w) (hb : B0 ≤ b) (hB : b < B) : Below B0 w0 w' := hw.trans (h.below hb (by omega))
theorem kS4 {W : World} {D : Nat} {x0 x1 x2 x3 x4 x5 : Value} {t : TypeId} (h : W.heap[D]? = some (.cells #[x0, x1, x2, x3, x4, x5] t (0, 0))) : W.heap[D]? = some (.cells #[x0, x1, x2, x3, x4, x5] t (0, 0)) ∧ W.cell? ⟨D, 2, none⟩ = some x2 ∧ W.cell? ⟨D, 4, none⟩ = some x4 := by simp [World.cell?, h]
theorem kS5 {W : World} {D : Nat} {x0 x1 x2 x3 x4 x5 : Value} {t : TypeId} (h : W.heap[D]? = some (.cells #[x0, x1, x2, x3, x4, x5] t (0, 0))) : W.heap[D]? = some (.cells #[x0, x1, x2, x3, x4, x5] t (0, 0)) ∧ W.cell? ⟨D, 2, none⟩ = some x2 ∧ W.cell? ⟨D, 5, none⟩ = some x5 := by simp [World.cell?, h]
set_option maxRecDepth 100000 in
set_option maxHeartbeats 8000000 in
theorem wstate_any {b B : Nat} {w0 w : World} {l : List UInt8} (h : Wr b B w l) (hl : l.length ≤ 6000) (p : SP) (hw0 : Below w0.heap.size w0 w) (hb0 : w0.heap.size ≤ b) (hp : StR w0 p) (hz : StZ p.1) (hE : Env w0) :
  Calls Tryz.prog 56 #[.pointer (some ⟨b, 0, none⟩), .agg (stV p).toArray] w fun e w' => e = .returned (.tuple #[]) ∧ Wr b B w' (putS l p.1) ∧ KeptB b B w w' ∧ KeptU b w w' := by
 obtain ⟨⟨nm, kd, dp, ini, en, ex⟩, nv, xv⟩ := p
 obtain ⟨An, cn, hnv⟩ := BlkR.form hp.1
 obtain ⟨Ax, cx, hxv⟩ := BlkR.form hp.2
 simp only at hnv hxv
 subst hnv; subst hxv
 have hEN : ∀ W, Below w0.heap.size w0 W → Calls Tryz.prog 99 #[.slice An en.length cn] W fun e w' => e = .returned (bstr (showA en).1) ∧ Below W.heap.size W w' := fun W hW => blockText_any _ en W (hp.1.below hW) hz.en (hE.below hW)
 have hEX : ∀ W, Below w0.heap.size w0 W → Calls Tryz.prog 99 #[.slice Ax ex.length cx] W fun e w' => e = .returned (bstr (showA ex).1) ∧ Below W.heap.size W w' := fun W hW => blockText_any _ ex W (hp.2.below hW) hz.ex (hE.below hW)
 have HH := Lib.hid h; have HZ := Lib.hid hz
 show Calls _ _ #[_, .agg #[bstr nm, .int .i64 kd, .int .i64 dp, bstr ini, .slice An en.length cn, .slice Ax ex.length cx]] w fun e w' => e = .returned (.tuple #[]) ∧ Wr b B w' (putS l ⟨nm, kd, dp, ini, en, ex⟩) ∧ _
 obtain ⟨XN, hXN, _⟩ := bstr_some nm
 obtain ⟨XI, hXI, _⟩ := bstr_some ini
 obtain ⟨XE, hXE, _⟩ := bstr_some (showA en).1
 obtain ⟨XX, hXX, _⟩ := bstr_some (showA ex).1
 rw [hXN, hXI]
 rw [hXE] at hEN
 rw [hXX] at hEX
 have HEN := Lib.hid hEN; have HEX := Lib.hid hEX
 have HXN := Lib.hid hXN; have HXI := Lib.hid hXI; have HXE := Lib.hid hXE; have HXX := Lib.hid hXX
 have HW0 := Lib.hid hw0; have HB0 := Lib.hid hb0
 clear hp hz hE h hEN hEX hXN hXI hXE hXX hw0 hb0
 obtain ⟨w2, hw2⟩ : ∃ W, W = w.alloc (.cells #[.string XN, .int .i64 kd, .int .i64 dp, .string XI, .slice An en.length cn, .slice Ax ex.length cx] 67) := ⟨_, rfl⟩
 have hb2 : Below w.heap.size w w2 := hw2 ▸ (Below.refl _ _).alloc (Nat.le_refl _) _
 have hr : w2.heap[w.heap.size]? = some (.cells #[.string XN, .int .i64 kd, .int .i64 dp, .string XI, .slice An en.length cn, .slice Ax ex.length cx] 67 (0, 0)) := by rw [hw2]; exact World.alloc_heap_new w _
 have c0 : w2.cell? ⟨w.heap.size, 0, none⟩ = some (.string XN) := by rw [hw2]; simp
 have c1 : w2.cell? ⟨w.heap.size, 1, none⟩ = some (.int .i64 kd) := by rw [hw2]; simp
 have c2 : w2.cell? ⟨w.heap.size, 2, none⟩ = some (.int .i64 dp) := by rw [hw2]; simp
 have c3 : w2.cell? ⟨w.heap.size, 3, none⟩ = some (.string XI) := by rw [hw2]; simp
 have H2 := Lib.hid (HH.out.below hb2)
 have HBW := Lib.hid hb2; have HR := Lib.hid hr; have HW2 := Lib.hid hw2
 have hbne : w.heap.size ≠ b := fun e => by have := HH.out.lt; have := HH.out.le; omega
 have HNE := Lib.hid hbne
 clear hb2 hr hw2 hbne
 go_enter Tryz.func56, Tryz.ntmps56
 go_upto_block 0 with fail
 rw [← HW2.out]
 go_cut [] from 6 to 65 (fun wc => Hid (Wr b B wc (putO l dp (headL ⟨nm, kd, dp, ini, en, ex⟩)) ∧ KeptB b B w2 wc ∧ KeptU b w2 wc))
 case first =>
  have k1 : ∀ n : Int, kd ≠ n → (kd == n) = false := fun n h => beq_eq_false_iff_ne.2 h
  by_cases hk1 : kd = 1
  ·subst hk1
   have hvl : headL ⟨nm, 1, dp, ini, en, ex⟩ = some [wBasic, nm] := rfl
   have hcur : (#[.string ⟨#[98, 97, 115, 105, 99]⟩, .string XN] : Array Value).toList = strsV [wBasic, nm] := by simp only [strsV, List.map]; rw [HXN.out]; rfl
   have hle : ∀ x ∈ [wBasic, nm], x.length ≤ 140737488355328 := by intro x hx; simp only [List.mem_cons, List.not_mem_nil, or_false] at hx; rcases hx with rfl | rfl; decide; exact HZ.out.nm
   have HVL := Lib.hid hvl; have HCUR := Lib.hid hcur; have HLE := Lib.hid hle
   clear hvl hcur hle k1 
   go_wp2_with (go_at_call 54; refine (line_at H2.out hl (Below.refl _ _) dp [wBasic, nm] #[.string ⟨#[98, 97, 115, 105, 99]⟩, .string XN] 2 rfl HCUR.out (by omega) HLE.out).mono ?_; rintro e w9 ⟨rfl, h1, h2, h3⟩)
   go_meet
   case rel => exact ⟨by rw [HVL.out]; exact h1, h2, h3⟩
  have e1 := k1 1 hk1
  by_cases hk3 : kd = 3
  ·subst hk3
   have hvl : headL ⟨nm, 3, dp, ini, en, ex⟩ = some [wBoth, nm] := rfl
   have hcur : (#[.string ⟨#[98, 111, 116, 104]⟩, .string XN] : Array Value).toList = strsV [wBoth, nm] := by simp only [strsV, List.map]; rw [HXN.out]; rfl
   have hle : ∀ x ∈ [wBoth, nm], x.length ≤ 140737488355328 := by intro x hx; simp only [List.mem_cons, List.not_mem_nil, or_false] at hx; rcases hx with rfl | rfl; decide; exact HZ.out.nm
   have HVL := Lib.hid hvl; have HCUR := Lib.hid hcur; have HLE := Lib.hid hle
   clear hvl hcur hle k1 e1 hk1
   go_wp2_with (go_at_call 54; refine (line_at H2.out hl (Below.refl _ _) dp [wBoth, nm] #[.string ⟨#[98, 111, 116, 104]⟩, .string XN] 2 rfl HCUR.out (by omega) HLE.out).mono ?_; rintro e w9 ⟨rfl, h1, h2, h3⟩)
   go_meet
   case rel => exact ⟨by rw [HVL.out]; exact h1, h2, h3⟩
  have e3 := k1 3 hk3
  by_cases hk4 : kd = 4
  ·subst hk4
   have hvl : headL ⟨nm, 4, dp, ini, en, ex⟩ = some [wFinal, nm] := rfl
   have hcur : (#[.string ⟨#[102, 105, 110, 97, 108]⟩, .string XN] : Array Value).toList = strsV [wFinal, nm] := by simp only [strsV, List.map]; rw [HXN.out]; rfl
   have hle : ∀ x ∈ [wFinal, nm], x.length ≤ 140737488355328 := by intro x hx; simp only [List.mem_cons, List.not_mem_nil, or_false] at hx; rcases hx with rfl | rfl; decide; exact HZ.out.nm
   have HVL := Lib.hid hvl; have HCUR := Lib.hid hcur; have HLE := Lib.hid hle
   clear hvl hcur hle k1 e1 hk1 e3 hk3
   go_wp2_with (go_at_call 54; refine (line_at H2.out hl (Below.refl _ _) dp [wFinal, nm] #[.string ⟨#[102, 105, 110, 97, 108]⟩, .string XN] 2 rfl HCUR.out (by omega) HLE.out).mono ?_; rintro e w9 ⟨rfl, h1, h2, h3⟩)
   go_meet
   case rel => exact ⟨by rw [HVL.out]; exact h1, h2, h3⟩
  have e4 := k1 4 hk4
  by_cases hk2 : kd = 2
  ·subst hk2
   have hvl : headL ⟨nm, 2, dp, ini, en, ex⟩ = some [wOne, nm, ini] := rfl
   have hcur : (#[.string ⟨#[111, 110, 101]⟩, .string XN, .string XI] : Array Value).toList = strsV [wOne, nm, ini] := by simp only [strsV, List.map]; rw [HXN.out, HXI.out]; rfl
   have hle : ∀ x ∈ [wOne, nm, ini], x.length ≤ 140737488355328 := by intro x hx; simp only [List.mem_cons, List.not_mem_nil, or_false] at hx; rcases hx with rfl | rfl | rfl; decide; exact HZ.out.nm; exact HZ.out.ini
   have HVL := Lib.hid hvl; have HCUR := Lib.hid hcur; have HLE := Lib.hid hle
   clear hvl hcur hle k1 e1 hk1 e3 hk3 e4 hk4
   go_wp2_with (go_at_call 54; refine (line_at H2.out hl (Below.refl _ _) dp [wOne, nm, ini] #[.string ⟨#[111, 110, 101]⟩, .string XN, .string XI] 3 rfl HCUR.out (by omega) HLE.out).mono ?_; rintro e w9 ⟨rfl, h1, h2, h3⟩)
   go_meet
   case rel => exact ⟨by rw [HVL.out]; exact h1, h2, h3⟩
  have e2 := k1 2 hk2
  by_cases hk5 : kd = 5
  ·subst hk5
   have hvl : headL ⟨nm, 5, dp, ini, en, ex⟩ = some [wShallow, nm, ini] := rfl
   have hcur : (#[.string ⟨#[115, 104, 97, 108, 108, 111, 119]⟩, .string XN, .string XI] : Array Value).toList = strsV [wShallow, nm, ini] := by simp only [strsV, List.map]; rw [HXN.out, HXI.out]; rfl
   have hle : ∀ x ∈ [wShallow, nm, ini], x.length ≤ 140737488355328 := by intro x hx; simp only [List.mem_cons, List.not_mem_nil, or_false] at hx; rcases hx with rfl | rfl | rfl; decide; exact HZ.out.nm; exact HZ.out.ini
   have HVL := Lib.hid hvl; have HCUR := Lib.hid hcur; have HLE := Lib.hid hle
   clear hvl hcur hle k1 e1 hk1 e3 hk3 e4 hk4 e2 hk2
   go_wp2_with (go_at_call 54; refine (line_at H2.out hl (Below.refl _ _) dp [wShallow, nm, ini] #[.string ⟨#[115, 104, 97, 108, 108, 111, 119]⟩, .string XN, .string XI] 3 rfl HCUR.out (by omega) HLE.out).mono ?_; rintro e w9 ⟨rfl, h1, h2, h3⟩)
   go_meet
   case rel => exact ⟨by rw [HVL.out]; exact h1, h2, h3⟩
  have e5 := k1 5 hk5
  by_cases hk6 : kd = 6
  ·subst hk6
   have hvl : headL ⟨nm, 6, dp, ini, en, ex⟩ = some [wDeep, nm, ini] := rfl
   have hcur : (#[.string ⟨#[100, 101, 101, 112]⟩, .string XN, .string XI] : Array Value).toList = strsV [wDeep, nm, ini] := by simp only [strsV, List.map]; rw [HXN.out, HXI.out]; rfl
   have hle : ∀ x ∈ [wDeep, nm, ini], x.length ≤ 140737488355328 := by intro x hx; simp only [List.mem_cons, List.not_mem_nil, or_false] at hx; rcases hx with rfl | rfl | rfl; decide; exact HZ.out.nm; exact HZ.out.ini
   have HVL := Lib.hid hvl; have HCUR := Lib.hid hcur; have HLE := Lib.hid hle
   clear hvl hcur hle k1 e1 hk1 e3 hk3 e4 hk4 e2 hk2 e5 hk5
   go_wp2_with (go_at_call 54; refine (line_at H2.out hl (Below.refl _ _) dp [wDeep, nm, ini] #[.string ⟨#[100, 101, 101, 112]⟩, .string XN, .string XI] 3 rfl HCUR.out (by omega) HLE.out).mono ?_; rintro e w9 ⟨rfl, h1, h2, h3⟩)
   go_meet
   case rel => exact ⟨by rw [HVL.out]; exact h1, h2, h3⟩
  have e6 := k1 6 hk6
  have hvl : headL ⟨nm, kd, dp, ini, en, ex⟩ = none := by unfold headL; rw [if_neg hk1, if_neg hk3, if_neg hk4, if_neg hk2, if_neg hk5, if_neg hk6]
  have HVL := Lib.hid hvl
  clear hvl k1 hk1 hk3 hk4 hk2 hk5 hk6
  go_wp2
  go_meet
  case rel => exact ⟨by rw [HVL.out]; exact H2.out, KeptB.refl _ _ _, KeptU.refl _ _⟩
 case rest =>
  have HC1 := hcut
  clear hcut c0 c1 c2 c3
  obtain ⟨wc1, hwc1⟩ : ∃ W, W = wc := ⟨_, rfl⟩
  rw [← hwc1] at HC1 ⊢; clear hwc1
  obtain ⟨l1, hl1⟩ : ∃ L, putO l dp (headL ⟨nm, kd, dp, ini, en, ex⟩) = L := ⟨_, rfl⟩
  have hs1 : l1.length ≤ 6000 := hl1 ▸ putO_len hl dp (fun ls h => headL_ne h)
  rw [hl1] at HC1
  have HL1 := Lib.hid hl1; clear hl1
  have hq := HC1.out.2.2 w.heap.size _ _ _ HNE.out (by decide) HR.out
  have d2 : wc1.cell? ⟨w.heap.size, 2, none⟩ = some (.int .i64 dp) := by simp [World.cell?, hq]
  have d4 : wc1.cell? ⟨w.heap.size, 4, none⟩ = some (.slice An en.length cn) := by simp [World.cell?, hq]
  have hlow : Below w0.heap.size w0 wc1 := HC1.out.2.1.low (HW0.out.trans (HBW.out.mono HW0.out.size)) HB0.out HH.out.lt
  have HLOW := Lib.hid hlow; clear hlow
  go_upto_if 69 with fail
  go_cut [] from 66 to 78 (fun wc => Hid (Wr b B wc (putO l1 (dp + 1) (blkL wEntry en)) ∧ KeptB b B w2 wc ∧ KeptU b w2 wc))
  case first =>
   by_cases hen : en = []
   ·subst hen
    clear hq
    go_wp2
    go_meet
    case rel => exact HC1
   ·skip
    have hel : 0 < en.length := List.length_pos_iff.2 hen
    have hvl : blkL wEntry en = some [wEntry, (showA en).1] := if_neg hen
    have hcur : (#[.string ⟨#[101, 110, 116, 114, 121]⟩, .string XE] : Array Value).toList = strsV [wEntry, (showA en).1] := by simp only [strsV, List.map]; rw [HXE.out]; rfl
    have hle : ∀ x ∈ [wEntry, (showA en).1], x.length ≤ 140737488355328 := by intro x hx; simp only [List.mem_cons, List.not_mem_nil, or_false] at hx; rcases hx with rfl | rfl; decide; exact HZ.out.ent
    have HVL := Lib.hid hvl; have HCUR := Lib.hid hcur; have HLE := Lib.hid hle
    clear hvl hcur hle hen
    go_wp2_with fail
    have HQ1 := Lib.hid hq
    go_region_held3 (fun w' => w'.heap[w.heap.size]? = some (.cells #[.string XN, .int .i64 kd, .int .i64 dp, .string XI, .slice An en.length cn, .slice Ax ex.length cx] 67 (0, 0)) ∧ w'.cell? ⟨w.heap.size, 2, none⟩ = some (.int .i64 dp) ∧ w'.cell? ⟨w.heap.size, 4, none⟩ = some (.slice An en.length cn))
     (first
      | (go_split_ands; exact kS4 (hb5.block _ (lt_of_heap (by assumption)) |>.trans (by assumption)))
      | (go_split_ands; exact kS4 (h3 _ _ _ _ HNE.out (by decide) HQ1.out))
      | (go_split_ands; exact kS4 (heap_old (by assumption)))
      | (go_split_ands; exact kS4 (by assumption))
      | go_keep)
     ((first | (go_at_call 99; (with_reducible refine (HEN.out _ (by first | exact HLOW.out | exact Below.drew HLOW.out)).mono ?_); rintro e w5 ⟨rfl, hb5⟩) | (go_at_call 54; (with_reducible refine (line_at HC1.out.1 hs1 (by first | exact hb5 | exact below_of_drew hb5) _ [wEntry, (showA en).1] #[.string ⟨#[101, 110, 116, 114, 121]⟩, .string XE] 2 rfl HCUR.out (by omega) HLE.out).mono ?_); rintro e w9 ⟨rfl, h1, h2, h3⟩)))
    all_goals (
     go_wp2
     go_meet
     case rel => exact ⟨by rw [HVL.out]; show Wr b B _ (putL l1 (dp + 1) _); rw [← putL_wrap HZ.out.dp]; exact h1, HC1.out.2.1.trans h2, HC1.out.2.2.trans h3⟩)
  case rest =>
   have HC2 := hcut
   clear hcut d2 d4 hq
   obtain ⟨wc2, hwc2⟩ : ∃ W, W = wc := ⟨_, rfl⟩
   rw [← hwc2] at HC2 ⊢; clear hwc2 HLOW
   obtain ⟨l2, hl2⟩ : ∃ L, putO l1 (dp + 1) (blkL wEntry en) = L := ⟨_, rfl⟩
   have hs2 : l2.length ≤ 6000 := hl2 ▸ putO_len hs1 _ (fun ls h => blkL_ne h)
   rw [hl2] at HC2
   have HL2 := Lib.hid hl2; clear hl2
   have FIN : Hid (∀ wz : World, (Wr b B wz (putO l2 (dp + 1) (blkL wExit ex)) ∧ KeptB b B w2 wz ∧ KeptU b w2 wz) → (Wr b B wz (putS l ⟨nm, kd, dp, ini, en, ex⟩) ∧ KeptB b B w wz ∧ KeptU b w wz)) := by
    intro wz h
    refine ⟨?_, (KeptB.of_below HBW.out HH.out.le).trans h.2.1, (KeptU.of_below HBW.out).trans h.2.2⟩
    show Wr b B _ (putO (putO (putO l dp (headL ⟨nm, kd, dp, ini, en, ex⟩)) (dp + 1) (blkL wEntry en)) (dp + 1) (blkL wExit ex))
    rw [HL1.out, HL2.out]
    exact h.1
   have hq := HC2.out.2.2 w.heap.size _ _ _ HNE.out (by decide) HR.out
   have d2 : wc2.cell? ⟨w.heap.size, 2, none⟩ = some (.int .i64 dp) := by simp [World.cell?, hq]
   have d5 : wc2.cell? ⟨w.heap.size, 5, none⟩ = some (.slice Ax ex.length cx) := by simp [World.cell?, hq]
   have hlow : Below w0.heap.size w0 wc2 := HC2.out.2.1.low (HW0.out.trans (HBW.out.mono HW0.out.size)) HB0.out HH.out.lt
   have HLOW := Lib.hid hlow; clear hlow
   go_upto_if 82 with fail
   by_cases hen : ex = []
   ·subst hen
    clear hq
    go_wp2
    go_end0
    exact ⟨rfl, FIN.out _ HC2.out⟩
   ·skip
    have hel : 0 < ex.length := List.length_pos_iff.2 hen
    have hvl : blkL wExit ex = some [wExit, (showA ex).1] := if_neg hen
    have hcur : (#[.string ⟨#[101, 120, 105, 116]⟩, .string XX] : Array Value).toList = strsV [wExit, (showA ex).1] := by simp only [strsV, List.map]; rw [HXX.out]; rfl
    have hle : ∀ x ∈ [wExit, (showA ex).1], x.length ≤ 140737488355328 := by intro x hx; simp only [List.mem_cons, List.not_mem_nil, or_false] at hx; rcases hx with rfl | rfl; decide; exact HZ.out.ext
    have HVL := Lib.hid hvl; have HCUR := Lib.hid hcur; have HLE := Lib.hid hle
    clear hvl hcur hle hen
    go_wp2_with fail
    have HQ2 := Lib.hid hq
    go_region_held3 (fun w' => w'.heap[w.heap.size]? = some (.cells #[.string XN, .int .i64 kd, .int .i64 dp, .string XI, .slice An en.length cn, .slice Ax ex.length cx] 67 (0, 0)) ∧ w'.cell? ⟨w.heap.size, 2, none⟩ = some (.int .i64 dp) ∧ w'.cell? ⟨w.heap.size, 5, none⟩ = some (.slice Ax ex.length cx))
     (first
      | (go_split_ands; exact kS5 (hb5.block _ (lt_of_heap (by assumption)) |>.trans (by assumption)))
      | (go_split_ands; exact kS5 (h3 _ _ _ _ HNE.out (by decide) HQ2.out))
      | (go_split_ands; exact kS5 (heap_old (by assumption)))
      | (go_split_ands; exact kS5 (by assumption))
      | go_keep)
     ((first | (go_at_call 99; (with_reducible refine (HEX.out _ (by first | exact HLOW.out | exact Below.drew HLOW.out)).mono ?_); rintro e w5 ⟨rfl, hb5⟩) | (go_at_call 54; (with_reducible refine (line_at HC2.out.1 hs2 (by first | exact hb5 | exact below_of_drew hb5) _ [wExit, (showA ex).1] #[.string ⟨#[101, 120, 105, 116]⟩, .string XX] 2 rfl HCUR.out (by omega) HLE.out).mono ?_); rintro e w9 ⟨rfl, h1, h2, h3⟩)))
    all_goals (
     go_wp2
     go_end0
     refine ⟨rfl, FIN.out _ ⟨?_, HC2.out.2.1.trans h2, HC2.out.2.2.trans h3⟩⟩
     rw [HVL.out]; show Wr b B _ (putL l2 (dp + 1) _); rw [← putL_wrap HZ.out.dp]; exact h1)
end Go.Proofs.YtdelihhbmagphaaGreatDoor.Ch
namespace Go.Proofs.YtdelihhbmagphaaGreatDoor.Ch
open Go.RowKit
abbrev Call := Int × List (List UInt8)
def optC (d : Int) : Option (List (List UInt8)) → List Call
 | none => []
 | some ls => [(d, ls)]
def writeC (l : List UInt8) (cs : List Call) : List UInt8 := cs.foldl (fun l x => putL l x.1 x.2) l
def stC (s : SC) : List Call := optC s.dp (headL s) ++ optC (s.dp + 1) (blkL wEntry s.en) ++ optC (s.dp + 1) (blkL wExit s.ex)
def trC (d i : Int) : List TC → List Call × List TC
 | [] => ([], [])
 | t :: r => if t.fr = i then ((d, onL t) :: (trC d i r).1, (trC d i r).2) else ([], t :: r)
def bodyC : Nat → List SC → List TC → List Call
 | _, [], _ => []
 | i, s :: r, ts => stC s ++ (trC (s.dp + 1) i ts).1 ++ bodyC (i + 1) r (trC (s.dp + 1) i ts).2
def headC (c : CH) : List Call := (0, [wChart, c.nm]) :: (c.es.map (fun e => ((0 : Int), [wEvent, e])) ++ c.vs.flatMap (fun v => optC 0 (varL v)))
def callsC (c : CH) : List Call := headC c ++ bodyC 0 c.ss c.ts
theorem writeC_append (l : List UInt8) (a b : List Call) : writeC l (a ++ b) = writeC (writeC l a) b := List.foldl_append
theorem writeC_cons (l : List UInt8) (x : Call) (r : List Call) : writeC l (x :: r) = writeC (putL l x.1 x.2) r := rfl
theorem writeC_opt (l : List UInt8) (d : Int) (o : Option (List (List UInt8))) : writeC l (optC d o) = putO l d o := by cases o <;> rfl
theorem putS_is (l : List UInt8) (s : SC) : putS l s = writeC l (stC s) := by
 unfold stC
 rw [writeC_append, writeC_append, writeC_opt, writeC_opt, writeC_opt]
 rfl
theorem onL_ne (t : TC) : onL t ≠ [] := by unfold onL; simp
theorem optC_ne {d : Int} {o : Option (List (List UInt8))} (h : ∀ ls, o = some ls → ls ≠ []) : ∀ x ∈ optC d o, x.2 ≠ [] := by
 cases o with
 | none => intro x hx; cases hx
 | some ls => intro x hx; simp [optC] at hx; subst hx; exact h ls rfl
theorem stC_ne (s : SC) : ∀ x ∈ stC s, x.2 ≠ [] := by
 intro x hx
 unfold stC at hx
 simp only [List.mem_append] at hx
 rcases hx with (hx | hx) | hx
 ·exact optC_ne (fun ls h => headL_ne h) x hx
 ·exact optC_ne (fun ls h => blkL_ne h) x hx
 ·exact optC_ne (fun ls h => blkL_ne h) x hx
end Go.Proofs.YtdelihhbmagphaaGreatDoor.Ch
namespace Go.Proofs.YtdelihhbmagphaaGreatDoor.Ch
open Go.RowKit
def Num (n : Int) : Prop := -1099511627776 ≤ n ∧ n ≤ 1099511627776
def VGood (v : VM) : Prop := nameB v.nm = true ∧ ((v.kd = 1 ∧ v.ik = 1 ∧ Num v.lo ∧ Num v.hi ∧ Num v.ia ∧ v.ib = 0) ∨ (v.kd = 2 ∧ v.ik = 2 ∧ v.lo = 0 ∧ v.hi = 1 ∧ (v.ia = 0 ∨ v.ia = 1) ∧ v.ib = 0) ∨ (v.kd = 3 ∧ v.ik = 3 ∧ Num v.lo ∧ Num v.hi ∧ Pl.inB v.ia = true ∧ Pl.inB v.ib = true))
def AGood (l : List AM) : Prop := l = [] ∨ rightA l = true
def SGood (s : SC) : Prop := nameB s.nm = true ∧ (((s.kd = 1 ∨ s.kd = 3 ∨ s.kd = 4) ∧ s.ini = []) ∨ ((s.kd = 2 ∨ s.kd = 5 ∨ s.kd = 6) ∧ nameB s.ini = true)) ∧ AGood s.en ∧ AGood s.ex
def TGood (t : TC) : Prop := (t.ev = [] ∨ eventB t.ev = true) ∧ (t.gd = [] ∨ rightB t.gd = true) ∧ (t.to = [] ∨ nameB t.to = true) ∧ AGood t.ac
def Deps : Int → List SC → Prop
 | _, [] => True
 | r, s :: q => 0 ≤ s.dp ∧ s.dp ≤ r ∧ Deps (s.dp + 1) q
def Froms : Int → Int → List TC → Prop
 | _, _, [] => True
 | lo, n, t :: r => lo ≤ t.fr ∧ t.fr < n ∧ Froms t.fr n r
structure Good (c : CH) : Prop where
 nm : nameB c.nm = true
 es : ∀ e ∈ c.es, nameB e = true
 vs : ∀ v ∈ c.vs, VGood v
 ss : ∀ s ∈ c.ss, SGood s
 dp : Deps 0 c.ss
 ts : ∀ t ∈ c.ts, TGood t
 fr : Froms 0 c.ss.length c.ts
end Go.Proofs.YtdelihhbmagphaaGreatDoor.Ch
namespace Go.Proofs.YtdelihhbmagphaaGreatDoor.Ch
open Go.RowKit
def textC (c : CH) : List UInt8 := writeC [] (callsC c)
end Go.Proofs.YtdelihhbmagphaaGreatDoor.Ch
namespace Go.Proofs.YtdelihhbmagphaaGreatDoor.Ch
open Go.RowKit
structure WS (b B : Nat) (w w' : World) (l : List UInt8) : Prop where
 wr : Wr b B w' l
 kb : KeptB b B w w'
 ku : KeptU b w w'
 len : l.length ≤ 6000
theorem WS.step {b B : Nat} {w w1 w2 : World} {l l2 : List UInt8} (h : WS b B w w1 l) (h1 : Wr b B w2 l2) (h2 : KeptB b B w1 w2) (h3 : KeptU b w1 w2) (h4 : l2.length ≤ 6000) : WS b B w w2 l2 := ⟨h1, h.kb.trans h2, h.ku.trans h3, h4⟩
theorem WS.from_ {b B : Nat} {w0 w w1 : World} {l : List UInt8} (h : WS b B w w1 l) (hb : Below w0.heap.size w0 w) (hB : B ≤ w0.heap.size) : WS b B w0 w1 l := ⟨h.wr, (KeptB.of_below hb hB).trans h.kb, (KeptU.of_below hb).trans h.ku, h.len⟩
theorem WS.low {b B : Nat} {w0 w w' : World} {l : List UInt8} (h : WS b B w w' l) (hw : Below w0.heap.size w0 w) (hb : w0.heap.size ≤ b) : Below w0.heap.size w0 w' := h.kb.low hw hb h.wr.lt
def evC (e : List UInt8) : Call := (0, [wEvent, e])
def vaC (v : VM) : List Call := optC 0 (varL v)
theorem headC_is (c : CH) : headC c = (0, [wChart, c.nm]) :: (c.es.map evC ++ c.vs.flatMap vaC) := rfl
theorem write_len {l : List UInt8} (h : l.length ≤ 6000) : ∀ (cs : List Call), (∀ x ∈ cs, x.2 ≠ []) → (writeC l cs).length ≤ 6000 := by
 intro cs
 induction cs generalizing l with
 | nil => intro _; exact h
 | cons x r ih => intro hx; exact ih (putL_len h _ (hx x (by simp))) (fun y hy => hx y (by simp [hy]))
theorem take_next {α : Type} {l : List α} {k : Nat} (h : k < l.length) : l.take (k + 1) = l.take k ++ [l[k]] := List.take_succ_eq_append_getElem h
set_option maxRecDepth 100000 in
set_option maxHeartbeats 8000000 in
theorem head_any {b B : Nat} {w0 w : World} {l : List UInt8} (h : Wr b B w l) (hl : l.length ≤ 6000) (c : CH) (eV vV sV tV : Value) (sp : List SP) (tp : List TP) (hM : ChM w0 c eV vV sV tV sp tp) (hw0 : Below w0.heap.size w0 w) (hb0 : w0.heap.size ≤ b) (hnm : c.nm.length ≤ 140737488355328) (hes : ∀ e ∈ c.es, e.length ≤ 140737488355328) (hvs : ∀ v ∈ c.vs, VaZ v) (hE : Env w0) :
  Calls Tryz.prog 25 #[.pointer (some ⟨b, 0, none⟩), .agg #[bstr c.nm, eV, vV, sV, tV]] w fun e w' => e = .returned (.tuple #[]) ∧ WS b B w w' (writeC l (headC c)) := by
 obtain ⟨nm, es, vs, ss, ts⟩ := c
 obtain ⟨Ae, ce, rfl⟩ := Inn.form hM.es
 obtain ⟨Av, cv, rfl⟩ := Inn.form hM.vs
 obtain ⟨ne, hne⟩ : ∃ n, es.length = n := ⟨_, rfl⟩
 obtain ⟨nv, hnv⟩ : ∃ n, vs.length = n := ⟨_, rfl⟩
 obtain ⟨N, hN, _⟩ := bstr_some nm
 have HH := Lib.hid h; have HW0 := Lib.hid hw0; have HB0 := Lib.hid hb0; have HE := Lib.hid hE
 have HES := Lib.hid hM.es; have HVS := Lib.hid hM.vs
 have hel := hM.el; have hvl := hM.vl
 simp only at hel hvl HES HVS hnm hes hvs hne hnv
 rw [hne] at hel; rw [hnv] at hvl
 have HNE := Lib.hid hne; have HNV := Lib.hid hnv
 have HEL : Hid (∀ e ∈ es, e.length ≤ 140737488355328) := hes
 have HVL : Hid (∀ v ∈ vs, VaZ v) := hvs
 have HNL : Hid (nm.length ≤ 140737488355328) := hnm
 simp only
 rw [hN, hne, hnv]
 have HN := Lib.hid hN
 rw [hne] at HES
 rw [hnv] at HVS
 obtain ⟨w2, hw2⟩ : ∃ W, W = w.alloc (.cells #[.string N, .slice Ae ne ce, .slice Av nv cv, sV, tV] 27) := ⟨_, rfl⟩
 have hb2 : Below w.heap.size w w2 := hw2 ▸ (Below.refl _ _).alloc (Nat.le_refl _) _
 have hr : w2.heap[w.heap.size]? = some (.cells #[.string N, .slice Ae ne ce, .slice Av nv cv, sV, tV] 27 (0, 0)) := by rw [hw2]; exact World.alloc_heap_new w _
 have c0 : w2.cell? ⟨w.heap.size, 0, none⟩ = some (.string N) := by rw [hw2]; simp
 have HB2 := Lib.hid hb2; have HR := Lib.hid hr; have HW2 := Lib.hid hw2
 have hbne : w.heap.size ≠ b := fun e => by have := HH.out.lt; have := HH.out.le; omega
 have HBN := Lib.hid hbne
 have HLE := HH.out.le
 have HLO : Hid (Below w0.heap.size w0 w2) := hw0.trans (hb2.mono hw0.size)
 have H2 : Hid (WS b B w2 w2 l) := ⟨HH.out.below hb2, KeptB.refl _ _ _, KeptU.refl _ _, hl⟩
 clear h hM hw0 hb0 hnm hes hvs hE hne hnv hN hb2 hr hw2 hbne
 have HCUR : Hid ((#[.string ⟨#[99, 104, 97, 114, 116]⟩, .string N] : Array Value).toList = strsV [wChart, nm]) := by show _ = _; simp only [strsV, List.map]; rw [HN.out]; rfl
 have HLS : Hid (∀ x ∈ [wChart, nm], x.length ≤ 140737488355328) := by intro x hx; simp only [List.mem_cons, List.not_mem_nil, or_false] at hx; rcases hx with rfl | rfl; decide; exact HNL.out
 go_enter Tryz.func25, Tryz.ntmps25
 go_upto_region 1 with fail
 rw [← HW2.out]
 go_wp2_with fail
 go_at_call 54
 refine (line_at H2.out.wr hl (Below.refl _ _) 0 [wChart, nm] #[.string ⟨#[99, 104, 97, 114, 116]⟩, .string N] 2 rfl HCUR.out (by omega) HLS.out).mono ?_
 rintro e w3 ⟨rfl, h1, h2, h3⟩
 have H3 : Hid (WS b B w2 w3 (putL l 0 [wChart, nm])) := H2.out.step h1 h2 h3 (putL_len hl _ (by simp))
 obtain ⟨l3, hl3⟩ : ∃ L, putL l 0 [wChart, nm] = L := ⟨_, rfl⟩
 rw [hl3] at H3
 have HL3 := Lib.hid hl3
 clear h1 h2 h3 hl3 c0 HCUR HLS
 have hq3 := H3.out.ku w.heap.size _ _ _ HBN.out (by decide) HR.out
 have d1 : w3.cell? ⟨w.heap.size, 1, none⟩ = some (.slice Ae ne ce) := by simp [World.cell?, hq3]
 clear hq3
 go_wp2
 go_loopw [5, 16] (fun x5 x16 wr => x5 = x5 ∧ ∃ k : Nat, k ≤ ne ∧ x16 = .int .i64 k ∧ Hid (WS b B w2 wr (writeC l3 ((es.take k).map evC)))) (fun _ i _ => ne - (intOf i).toNat)
 case atStart => exact ⟨rfl, 0, Nat.zero_le _, rfl, Lib.hid H3.out⟩
 case round =>
  obtain ⟨_, k, hk, rfl, HS⟩ := hrel
  obtain ⟨wl, hwl⟩ : ∃ W, W = wr := ⟨_, rfl⟩
  subst hwl
  have hlow := HS.out.low HLO.out HB0.out
  by_cases hkn : k < ne
  ·have hkl : k < es.length := by rw [HNE.out]; exact hkn
   obtain ⟨q, o, rfl, hq, hc⟩ := Inn.at_ (HES.out.below hlow) hkn
   obtain ⟨X, hX, _⟩ := bstr_some es[k]
   have cx : wl.cell? ⟨q, o + k, none⟩ = some (.string X) := by
    have := hc 0 (bstr es[k]) (by simp [strsV, hkl])
    rw [hX] at this
    simpa using this
   have HCUR : Hid ((#[.string ⟨#[101, 118, 101, 110, 116]⟩, .string X] : Array Value).toList = strsV [wEvent, es[k]]) := by show _ = _; simp only [strsV, List.map]; rw [hX]; rfl
   have HLS : Hid (∀ x ∈ [wEvent, es[k]], x.length ≤ 140737488355328) := by intro x hx; simp only [List.mem_cons, List.not_mem_nil, or_false] at hx; rcases hx with rfl | rfl; decide; exact HEL.out _ (List.getElem_mem hkl)
   have HNX : Hid (writeC l3 ((es.take (k + 1)).map evC) = putL (writeC l3 ((es.take k).map evC)) 0 [wEvent, es[k]]) := by
    show _ = _
    rw [take_next hkl, List.map_append, writeC_append]; rfl
   clear hc hX hlow
   generalize es[k] = x at *
   go_wp2_with fail
   go_at_call 54
   refine (line_at HS.out.wr HS.out.len (Below.refl _ _) 0 [wEvent, x] #[.string ⟨#[101, 118, 101, 110, 116]⟩, .string X] 2 rfl HCUR.out (by omega) HLS.out).mono ?_
   rintro e w5 ⟨rfl, h1, h2, h3⟩
   have H5 : Hid (WS b B w2 w5 (writeC l3 ((es.take (k + 1)).map evC))) := by rw [HNX.out]; exact HS.out.step h1 h2 h3 (putL_len HS.out.len _ (by simp))
   clear h1 h2 h3 cx
   go_wp2
   go_roundw
   case rel => exact ⟨trivial, k + 1, by omega, by go_num, H5⟩
   case measure => simp [intOf]; omega
  ·have hkn2 : k = ne := by omega
   subst hkn2
   have ht : es.take k = es := List.take_of_length_le (by rw [HNE.out]; omega)
   rw [ht] at HS
   obtain ⟨l4, hl4⟩ : ∃ L, writeC l3 (es.map evC) = L := ⟨_, rfl⟩
   rw [hl4] at HS
   have HL4 := Lib.hid hl4
   have hq3 := HS.out.ku w.heap.size _ _ _ HBN.out (by decide) HR.out
   have d2 : wl.cell? ⟨w.heap.size, 2, none⟩ = some (.slice Av nv cv) := by simp [World.cell?, hq3]
   clear hl4 ht hq3 hlow hkn
   go_wp2
   go_loopw [7, 28] (fun x7 x28 wr => x7 = x7 ∧ ∃ k : Nat, k ≤ nv ∧ x28 = .int .i64 k ∧ Hid (WS b B w2 wr (writeC l4 ((vs.take k).flatMap vaC)))) (fun _ i _ => nv - (intOf i).toNat)
   case atStart => exact ⟨rfl, 0, Nat.zero_le _, rfl, Lib.hid HS.out⟩
   case round =>
    obtain ⟨_, j, hj, rfl, HT⟩ := hrel
    obtain ⟨wm, hwm⟩ : ∃ W, W = wr := ⟨_, rfl⟩
    subst hwm
    have hlow := HT.out.low HLO.out HB0.out
    by_cases hjn : j < nv
    ·have hjl : j < vs.length := by rw [HNV.out]; exact hjn
     obtain ⟨q, o, rfl, hq, hc⟩ := Inn.at_ (HVS.out.below hlow) hjn
     have a0 : wm.cell? ⟨q, o + j * 7, none⟩ = some (bstr vs[j].nm) := hc 0 _ ((flatM_at vaV 7 (fun _ => rfl) hjl (by omega)).trans rfl)
     have a1 : wm.cell? ⟨q, o + j * 7 + 1, none⟩ = some (.int .i64 vs[j].kd) := hc 1 _ ((flatM_at vaV 7 (fun _ => rfl) hjl (by omega)).trans rfl)
     have a2 : wm.cell? ⟨q, o + j * 7 + 2, none⟩ = some (.int .i64 vs[j].lo) := hc 2 _ ((flatM_at vaV 7 (fun _ => rfl) hjl (by omega)).trans rfl)
     have a3 : wm.cell? ⟨q, o + j * 7 + 3, none⟩ = some (.int .i64 vs[j].hi) := hc 3 _ ((flatM_at vaV 7 (fun _ => rfl) hjl (by omega)).trans rfl)
     have a4 : wm.cell? ⟨q, o + j * 7 + 4, none⟩ = some (.int .i64 vs[j].ik) := hc 4 _ ((flatM_at vaV 7 (fun _ => rfl) hjl (by omega)).trans rfl)
     have a5 : wm.cell? ⟨q, o + j * 7 + 5, none⟩ = some (.int .i64 vs[j].ia) := hc 5 _ ((flatM_at vaV 7 (fun _ => rfl) hjl (by omega)).trans rfl)
     have a6 : wm.cell? ⟨q, o + j * 7 + 6, none⟩ = some (.int .i64 vs[j].ib) := hc 6 _ ((flatM_at vaV 7 (fun _ => rfl) hjl (by omega)).trans rfl)
     have HNX : Hid (writeC l4 ((vs.take (j + 1)).flatMap vaC) = putO (writeC l4 ((vs.take j).flatMap vaC)) 0 (varL vs[j])) := by
      show _ = _
      rw [take_next hjl, List.flatMap_append, writeC_append, ← writeC_opt]
      simp [vaC]
     have HVZ := Lib.hid (HVL.out _ (List.getElem_mem hjl))
     have HEW := Lib.hid (HE.out.below hlow)
     clear hc hlow
     generalize vs[j] = x at *
     obtain ⟨xn, xk, xlo, xhi, xik, xia, xib⟩ := x
     obtain ⟨X, hX, _⟩ := bstr_some xn
     simp only at a0 a1 a2 a3 a4 a5 a6
     rw [hX] at a0
     have HX := Lib.hid hX
     clear hX
     go_wp2_with fail
     go_at_call 55
     have hal : ∀ o, Below wm.heap.size wm (wm.alloc o) := fun o => (Below.refl _ _).alloc (Nat.le_refl _) o
     have hc : ∀ o, Calls Tryz.prog 55 #[.pointer (some ⟨b, 0, none⟩), .agg #[bstr xn, .int .i64 xk, .int .i64 xlo, .int .i64 xhi, .int .i64 xik, .int .i64 xia, .int .i64 xib]] (wm.alloc o) fun e w' => e = .returned (.tuple #[]) ∧ Wr b B w' (putO (writeC l4 ((vs.take j).flatMap vaC)) 0 (varL ⟨xn, xk, xlo, xhi, xik, xia, xib⟩)) ∧ KeptB b B (wm.alloc o) w' ∧ KeptU b (wm.alloc o) w' := fun o => wvar_any (HT.out.wr.below (hal o)) HT.out.len ⟨xn, xk, xlo, xhi, xik, xia, xib⟩ HVZ.out (HEW.out.below (hal o))
     rw [HX.out] at hc
     refine (hc _).mono ?_
     rintro e w5 ⟨rfl, h1, h2, h3⟩
     have H5 : Hid (WS b B w2 w5 (writeC l4 ((vs.take (j + 1)).flatMap vaC))) := by rw [HNX.out]; exact HT.out.step h1 ((KeptB.of_below (hal _) HT.out.wr.le).trans h2) ((KeptU.of_below (hal _)).trans h3) (putO_len HT.out.len _ (fun ls h => varL_ne h))
     clear h1 h2 h3 hal hc a0 a1 a2 a3 a4 a5 a6
     go_wp2
     go_roundw
     case rel => exact ⟨trivial, j + 1, by omega, by go_num, H5⟩
     case measure => simp [intOf]; omega
    ·have hjn2 : j = nv := by omega
     subst hjn2
     have ht : vs.take j = vs := List.take_of_length_le (by rw [HNV.out]; omega)
     rw [ht] at HT
     clear hlow
     go_wp2
     go_end0
     refine ⟨rfl, ?_⟩
     rw [headC_is, writeC_cons, writeC_append]
     show WS b B w _ (writeC (writeC (putL l 0 [wChart, nm]) (es.map evC)) (vs.flatMap vaC))
     rw [HL3.out, HL4.out]
     exact HT.out.from_ HB2.out HLE
end Go.Proofs.YtdelihhbmagphaaGreatDoor.Ch
