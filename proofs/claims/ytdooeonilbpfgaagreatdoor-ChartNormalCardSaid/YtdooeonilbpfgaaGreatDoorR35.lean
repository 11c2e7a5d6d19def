/- Own texts, joined: Tr, Ts, Tb. -/
import Derived.Test.YtdooeonilbpfgaaGreatDoorR34
namespace Go.Proofs.YtdooeonilbpfgaaGreatDoor.Ch
open Go.RowKit
def bareX (x : Call) : List UInt8 := List.replicate x.1.toNat 32 ++ joinW x.2
def GoodX (x : Call) : Prop := 0 ≤ x.1 ∧ x.2 ≠ [] ∧ x.2.all goodW = true
theorem lineX_bare {x : Call} (h : x.2 ≠ []) : lineX x = bareX x ++ [10] := by
 unfold lineX lineTx bareX
 rw [join_is _ h]
theorem good_signs {w : List UInt8} (h : goodW w = true) : ∀ c ∈ w, c ≠ 10 := by
 intro c hc e
 have := isSB_iff.1 (List.all_eq_true.1 (goodW_all h) c hc)
 subst e
 revert this; decide
theorem joinW_signs : ∀ ws : List (List UInt8), ws.all goodW = true → ∀ c ∈ joinW ws, c ≠ 10
 | [], _, c, hc => by cases hc
 | [w], h, c, hc => by
  have hw : goodW w = true := by simpa using h
  exact good_signs hw c hc
 | w :: x :: r, h, c, hc => by
  rw [List.all_cons, Bool.and_eq_true] at h
  rw [joinW_cons (by simp)] at hc
  rcases List.mem_append.1 hc with hc | hc
  ·exact good_signs h.1 c hc
  ·rcases List.mem_cons.1 hc with rfl | hc
   ·decide
   ·exact joinW_signs (x :: r) h.2 c hc
theorem bare_signs {x : Call} (h : x.2.all goodW = true) : ∀ c ∈ bareX x, c ≠ 10 := by
 intro c hc
 unfold bareX at hc
 rcases List.mem_append.1 hc with hc | hc
 ·have := List.eq_of_mem_replicate hc
  subst this; decide
 ·exact joinW_signs _ h c hc
theorem lines_full : ∀ cs : List Call, (∀ x ∈ cs, GoodX x) → linesL (fullC cs) = cs.map bareX
 | [], _ => rfl
 | x :: r, h => by
  have hx := h x (by simp)
  rw [fullC_cons, lineX_bare hx.2.1, List.append_assoc]
  show linesL (bareX x ++ 10 :: fullC r) = _
  rw [linesL_cut (bare_signs hx.2.2), lines_full r (fun y hy => h y (by simp [hy]))]
  rfl
theorem lineC_bare (c : CH) {x : Call} (h : GoodX x) : lineC c (bareX x) = stepC c x.1.toNat x.2 := by
 obtain ⟨h1, h2, h3⟩ := line_join (l := bareX x) rfl h.2.1 h.2.2
 unfold lineC
 rw [if_pos h1, h2, h3]
theorem foldC_cons (c : CH) (l : List UInt8) (r : List (List UInt8)) : foldC c (l :: r) = match lineC c l with
  | none => none
  | some c' => foldC c' r := rfl
theorem fold_one {c c' : CH} {x : Call} (h : GoodX x) (hs : stepC c x.1.toNat x.2 = some c') (r : List (List UInt8)) : foldC c (bareX x :: r) = foldC c' r := by
 rw [foldC_cons, lineC_bare c h, hs]
theorem sF_chart : stepF wChart = some nameS := rfl
theorem sF_event : stepF wEvent = some eventS := rfl
theorem sF_int : stepF wInt = some intS := rfl
theorem sF_bool : stepF wBool = some boolS := rfl
theorem sF_point : stepF wPoint = some pointS := rfl
theorem sF_basic : stepF wBasic = some (stateS 1 1) := rfl
theorem sF_both : stepF wBoth = some (stateS 3 1) := rfl
theorem sF_final : stepF wFinal = some (stateS 4 1) := rfl
theorem sF_one : stepF wOne = some (stateS 2 2) := rfl
theorem sF_shallow : stepF wShallow = some (stateS 5 2) := rfl
theorem sF_deep : stepF wDeep = some (stateS 6 2) := rfl
theorem sF_entry : stepF wEntry = some entryS := rfl
theorem sF_exit : stepF wExit = some exitS := rfl
theorem sF_on : stepF wOn = some onS := rfl
theorem stepC_of {c : CH} {d : Nat} {f : List UInt8} {r : List (List UInt8)} {g : StepS} (h : stepF f = some g) : stepC c d (f :: r) = g c d r := by
 show (match stepF f with | none => none | some g => g c d r) = _
 rw [h]
theorem ptB_good (a b : Int) : goodW (ptB a b) = true := by
 unfold ptB; split <;> exact shw_good _ _
theorem varL_good {v : VM} (hv : VGood v) {ls : List (List UInt8)} (h : varL v = some ls) : ls.all goodW = true := by
 have hn := name_good hv.1
 unfold varL at h
 split at h
 ·injection h with h; subst h
  simp [hn, itoa_good, show goodW wInt = true by decide]
 ·split at h
  ·injection h with h; subst h
   have : goodW (if v.ia = 1 then wTrue else wFalse) = true := by split <;> decide
   simp [hn, this, show goodW wBool = true by decide]
  ·split at h
   ·injection h with h; subst h
    simp [hn, itoa_good, ptB_good, show goodW wPoint = true by decide]
   ·cases h
theorem headL_good {s : SC} (hs : SGood s) {ls : List (List UInt8)} (h : headL s = some ls) : ls.all goodW = true := by
 have hn := name_good hs.1
 have h2 : (s.kd = 2 ∨ s.kd = 5 ∨ s.kd = 6) → goodW s.ini = true := by
  intro hk
  rcases hs.2.1 with ⟨hk', _⟩ | ⟨_, hi⟩
  ·omega
  ·exact name_good hi
 unfold headL at h
 repeat' split at h
 ·injection h with h; subst h; simp [hn, show goodW wBasic = true by decide]
 ·injection h with h; subst h; simp [hn, show goodW wBoth = true by decide]
 ·injection h with h; subst h; simp [hn, show goodW wFinal = true by decide]
 ·rename_i hk; injection h with h; subst h; simp [hn, h2 (Or.inl hk), show goodW wOne = true by decide]
 ·rename_i hk; injection h with h; subst h; simp [hn, h2 (Or.inr (Or.inl hk)), show goodW wShallow = true by decide]
 ·rename_i hk; injection h with h; subst h; simp [hn, h2 (Or.inr (Or.inr hk)), show goodW wDeep = true by decide]
 ·cases h
theorem blkL_good {k : List UInt8} (hk : goodW k = true) {l : List AM} (hl : AGood l) {ls : List (List UInt8)} (h : blkL k l = some ls) : ls.all goodW = true := by
 unfold blkL at h
 split at h
 ·cases h
 ·rename_i hn
  injection h with h; subst h
  rcases hl with hl | hl
  ·exact absurd hl hn
  ·simp [hk, showA_good hl]
theorem onL_good {t : TC} (ht : TGood t) : (onL t).all goodW = true := by
 have h45 : goodW [45] = true := by decide
 have h1 : goodW (if t.ev = [] then [45] else t.ev) = true := by
  split
  ·exact h45
  ·rename_i e; exact event_good (ht.1.resolve_left e)
 have h2 : goodW (if t.gd = [] then [45] else (showP t.gd).1) = true := by
  split
  ·exact h45
  ·rename_i e; exact show_good (ht.2.1.resolve_left e)
 have h3 : goodW (if t.to = [] then [45] else t.to) = true := by
  split
  ·exact h45
  ·rename_i e; exact name_good (ht.2.2.1.resolve_left e)
 have h4 : goodW (if t.ac = [] then [45] else (showA t.ac).1) = true := by
  split
  ·exact h45
  ·rename_i e; exact showA_good (ht.2.2.2.resolve_left e)
 unfold onL
 simp [h1, h2, h3, h4, show goodW wOn = true by decide]
theorem optC_good {d : Int} (hd : 0 ≤ d) {o : Option (List (List UInt8))} (hne : ∀ ls, o = some ls → ls ≠ []) (h : ∀ ls, o = some ls → ls.all goodW = true) : ∀ x ∈ optC d o, GoodX x := by
 cases o with
 | none => intro x hx; cases hx
 | some ls => intro x hx; simp [optC] at hx; subst hx; exact ⟨hd, hne ls rfl, h ls rfl⟩
theorem stC_good {s : SC} (hs : SGood s) (hd : 0 ≤ s.dp) : ∀ x ∈ stC s, GoodX x := by
 intro x hx
 unfold stC at hx
 simp only [List.mem_append] at hx
 rcases hx with (hx | hx) | hx
 ·exact optC_good hd (fun ls h => headL_ne h) (fun ls h => headL_good hs h) x hx
 ·exact optC_good (by omega) (fun ls h => blkL_ne h) (fun ls h => blkL_good (by decide) hs.2.2.1 h) x hx
 ·exact optC_good (by omega) (fun ls h => blkL_ne h) (fun ls h => blkL_good (by decide) hs.2.2.2 h) x hx
theorem trC_good {d i : Int} (hd : 0 ≤ d) : ∀ ts : List TC, (∀ t ∈ ts, TGood t) → ∀ x ∈ (trC d i ts).1, GoodX x
 | [], _, x, hx => by cases hx
 | t :: r, h, x, hx => by
  unfold trC at hx
  split at hx
  ·rcases List.mem_cons.1 hx with rfl | hx
   ·exact ⟨hd, onL_ne t, onL_good (h t (by simp))⟩
   ·exact trC_good hd r (fun u hu => h u (by simp [hu])) x hx
  ·cases hx
theorem bodyC_good : ∀ (ss : List SC) (i : Nat) (ts : List TC) (r : Int), (∀ s ∈ ss, SGood s) → Deps r ss → (∀ t ∈ ts, TGood t) → ∀ x ∈ bodyC i ss ts, GoodX x
 | [], _, _, _, _, _, _, x, hx => by cases hx
 | s :: q, i, ts, r, hs, hd, ht, x, hx => by
  unfold bodyC at hx
  simp only [List.mem_append] at hx
  have h0 := hd.1
  rcases hx with (hx | hx) | hx
  ·exact stC_good (hs s (by simp)) h0 x hx
  ·exact trC_good (by omega) ts ht x hx
  ·exact bodyC_good q _ _ _ (fun u hu => hs u (by simp [hu])) hd.2.2 (fun t h => ht t (trC_mem _ _ ts t h)) x hx
theorem callsC_good {c : CH} (hc : Good c) : ∀ x ∈ callsC c, GoodX x := by
 intro x hx
 unfold callsC headC at hx
 simp only [List.mem_append, List.mem_cons] at hx
 rcases hx with (rfl | hx | hx) | hx
 ·exact ⟨Int.le_refl _, by simp, by simp [name_good hc.nm, show goodW wChart = true by decide]⟩
 ·obtain ⟨e, he, rfl⟩ := List.mem_map.1 hx
  exact ⟨Int.le_refl _, by simp, by simp [name_good (hc.es e he), show goodW wEvent = true by decide]⟩
 ·obtain ⟨v, hv, hx⟩ := List.mem_flatMap.1 hx
  exact optC_good (Int.le_refl _) (fun ls h => varL_ne h) (fun ls h => varL_good (hc.vs v hv) h) x hx
 ·exact bodyC_good _ _ _ _ hc.ss hc.dp hc.ts x hx
theorem fold_events (nm : List UInt8) (hn : nm ≠ []) : ∀ (es e0 : List (List UInt8)), (∀ e ∈ es, nameB e = true) → foldC ⟨nm, e0, [], [], []⟩ ((es.map (fun e => ((0 : Int), [wEvent, e]))).map bareX) = some ⟨nm, e0 ++ es, [], [], []⟩
 | [], e0, _ => by simp [foldC]
 | e :: r, e0, h => by
  have he := h e (by simp)
  have hs : stepC ⟨nm, e0, [], [], []⟩ 0 [wEvent, e] = some ⟨nm, e0 ++ [e], [], [], []⟩ := by
   rw [stepC_of sF_event]
   unfold eventS
   have hb : (headB ⟨nm, e0, [], [], []⟩ 0 1 [e] && nameB (wd [e] 0)) = true := by
    rw [show wd [e] 0 = e from rfl, he, Bool.and_true]
    unfold headB
    cases nm with
    | nil => exact absurd rfl hn
    | cons _ _ => rfl
   rw [if_pos hb]; rfl
  rw [List.map_cons, List.map_cons, fold_one (x := (0, [wEvent, e])) ⟨Int.le_refl _, by simp, by simp [name_good he, show goodW wEvent = true by decide]⟩ hs, fold_events nm hn r (e0 ++ [e]) (fun u hu => h u (by simp [hu]))]
  simp
theorem var_step (nm : List UInt8) (hn : nm ≠ []) (es : List (List UInt8)) (v0 : List VM) {v : VM} (hv : VGood v) : ∃ ls, varL v = some ls ∧ stepC ⟨nm, es, v0, [], []⟩ 0 ls = some ⟨nm, es, v0 ++ [v], [], []⟩ := by
 obtain ⟨vn, kd, lo, hi, ik, ia, ib⟩ := v
 have hh : ∀ n r, r.length = n → headB ⟨nm, es, v0, [], []⟩ 0 n r = true := by
  intro n r hr
  unfold headB
  rw [decide_eq_true hr]
  cases nm with
  | nil => exact absurd rfl hn
  | cons _ _ => rfl
 obtain ⟨h0, hk⟩ := hv
 simp only at h0 hk
 have hvar : ∀ v : VM, nameB v.nm = true → varS ⟨nm, es, v0, [], []⟩ v = some ⟨nm, es, v0 ++ [v], [], []⟩ := by
  intro v hv
  unfold varS
  rw [if_pos hv]
 rcases hk with ⟨rfl, rfl, h1, h2, h3, rfl⟩ | ⟨rfl, rfl, rfl, rfl, h3, rfl⟩ | ⟨rfl, rfl, h1, h2, h3, h4⟩
 ·refine ⟨_, if_pos rfl, ?_⟩
  rw [stepC_of sF_int]
  unfold intS boundS
  have e0 : wd [vn, Lib.itoa lo, Lib.itoa hi, Lib.itoa ia] 0 = vn := rfl
  have e1 : wd [vn, Lib.itoa lo, Lib.itoa hi, Lib.itoa ia] 1 = Lib.itoa lo := rfl
  have e2 : wd [vn, Lib.itoa lo, Lib.itoa hi, Lib.itoa ia] 2 = Lib.itoa hi := rfl
  have e3 : wd [vn, Lib.itoa lo, Lib.itoa hi, Lib.itoa ia] 3 = Lib.itoa ia := rfl
  simp only [e0, e1, e2, e3, num_itoa h1, num_itoa h2, num_itoa h3]
  rw [if_pos ⟨hh 4 _ rfl, trivial⟩, if_pos ⟨trivial, trivial⟩]
  exact hvar _ h0
 ·refine ⟨_, varL_bool _ _ _ _ _ _, ?_⟩
  rw [stepC_of sF_bool]
  rcases h3 with rfl | rfl
  ·have e0 : wd [vn, if (0 : Int) = 1 then wTrue else wFalse] 0 = vn := rfl
   have e1 : wd [vn, if (0 : Int) = 1 then wTrue else wFalse] 1 = wFalse := rfl
   unfold boolS
   rw [e0, e1, if_pos ⟨hh 2 _ rfl, Or.inr rfl⟩, if_neg (by decide)]
   exact hvar _ h0
  ·have e0 : wd [vn, if (1 : Int) = 1 then wTrue else wFalse] 0 = vn := rfl
   have e1 : wd [vn, if (1 : Int) = 1 then wTrue else wFalse] 1 = wTrue := rfl
   unfold boolS
   rw [e0, e1, if_pos ⟨hh 2 _ rfl, Or.inl rfl⟩, if_pos rfl]
   exact hvar _ h0
 ·refine ⟨_, varL_point _ _ _ _ _ _, ?_⟩
  rw [stepC_of sF_point]
  unfold pointS boundS
  rw [ptB_in h3 h4]
  have e0 : wd [vn, Lib.itoa lo, Lib.itoa hi, Pl.shw ia ib] 0 = vn := rfl
  have e1 : wd [vn, Lib.itoa lo, Lib.itoa hi, Pl.shw ia ib] 1 = Lib.itoa lo := rfl
  have e2 : wd [vn, Lib.itoa lo, Lib.itoa hi, Pl.shw ia ib] 2 = Lib.itoa hi := rfl
  have e3 : wd [vn, Lib.itoa lo, Lib.itoa hi, Pl.shw ia ib] 3 = Pl.shw ia ib := rfl
  simp only [e0, e1, e2, e3, num_itoa h1, num_itoa h2, Pl.refL_shw ia ib h3 h4]
  rw [if_pos (hh 4 _ rfl), if_pos ⟨trivial, trivial⟩]
  exact hvar _ h0
theorem fold_vars (nm : List UInt8) (hn : nm ≠ []) (es : List (List UInt8)) : ∀ (vs v0 : List VM), (∀ v ∈ vs, VGood v) → foldC ⟨nm, es, v0, [], []⟩ ((vs.flatMap (fun v => optC 0 (varL v))).map bareX) = some ⟨nm, es, v0 ++ vs, [], []⟩
 | [], v0, _ => by simp [foldC]
 | v :: r, v0, h => by
  have hv := h v (by simp)
  obtain ⟨ls, hl, hs⟩ := var_step nm hn es v0 hv
  rw [List.flatMap_cons, hl]
  show foldC _ (bareX (0, ls) :: ((r.flatMap (fun v => optC 0 (varL v))).map bareX)) = _
  rw [fold_one (x := (0, ls)) ⟨Int.le_refl _, varL_ne hl, varL_good hv hl⟩ hs, fold_vars nm hn es r (v0 ++ [v]) (fun u hu => h u (by simp [hu]))]
  simp
theorem fold_head {c : CH} (hc : Good c) : foldC noCH ((headC c).map bareX) = some ⟨c.nm, c.es, c.vs, [], []⟩ := by
 have hs : stepC noCH 0 [wChart, c.nm] = some ⟨c.nm, [], [], [], []⟩ := by
  rw [stepC_of sF_chart]
  unfold nameS
  have hb : (noCH.nm.isEmpty && decide ((0 : Nat) = 0) && decide ([c.nm].length = 1) && nameB (wd [c.nm] 0)) = true := by
   rw [show wd [c.nm] 0 = c.nm from rfl, hc.nm]; rfl
  rw [if_pos hb]; rfl
 unfold headC
 rw [List.map_cons, fold_one (x := (0, [wChart, c.nm])) ⟨Int.le_refl _, by simp, by simp [name_good hc.nm, show goodW wChart = true by decide]⟩ hs, List.map_append]
 have h1 := fold_events c.nm (good_nm hc) c.es [] hc.es
 rw [foldC_append h1, fold_vars c.nm (good_nm hc) ([] ++ c.es) c.vs [] hc.vs]
 rfl
end Go.Proofs.YtdooeonilbpfgaaGreatDoor.Ch
namespace Go.Proofs.YtdooeonilbpfgaaGreatDoor.Ch
open Go.RowKit
theorem headL_step {c : CH} (hn : c.nm ≠ []) {s : SC} (hs : SGood s) (h0 : 0 ≤ s.dp) (hr : s.dp ≤ roomC c.ss) : ∃ ls, headL s = some ls ∧ stepC c s.dp.toNat ls = some { c with ss := c.ss ++ [⟨s.nm, s.kd, s.dp, s.ini, [], []⟩] } := by
 have hd : ((s.dp.toNat : Nat) : Int) = s.dp := by omega
 have h1 : ∀ k : Int, s.kd = k → s.ini = [] → stateS k 1 c s.dp.toNat [s.nm] = some { c with ss := c.ss ++ [⟨s.nm, s.kd, s.dp, s.ini, [], []⟩] } := by
  intro k hk hi
  unfold stateS
  have hb : stateB c s.dp.toNat 1 [s.nm] = true := by
   unfold stateB
   rw [hd, decide_eq_true hr]
   have : c.nm.isEmpty = false := List.isEmpty_eq_false_iff.2 hn
   simp [this, hs.1]
  rw [if_pos hb, hd, if_neg (by decide), hk, hi]
  rfl
 have h2 : ∀ k : Int, s.kd = k → nameB s.ini = true → stateS k 2 c s.dp.toNat [s.nm, s.ini] = some { c with ss := c.ss ++ [⟨s.nm, s.kd, s.dp, s.ini, [], []⟩] } := by
  intro k hk hi
  unfold stateS
  have hb : stateB c s.dp.toNat 2 [s.nm, s.ini] = true := by
   unfold stateB
   rw [hd, decide_eq_true hr]
   have : c.nm.isEmpty = false := List.isEmpty_eq_false_iff.2 hn
   simp [this, hs.1, hi]
  rw [if_pos hb, hd, if_pos (by decide), hk]
  rfl
 unfold headL
 rcases hs.2.1 with ⟨hk, hi⟩ | ⟨hk, hi⟩
 ·rcases hk with hk | hk | hk
  ·exact ⟨_, by rw [if_pos hk], by rw [stepC_of sF_basic]; exact h1 1 hk hi⟩
  ·exact ⟨_, by rw [if_neg (by rw [hk]; decide), if_pos hk], by rw [stepC_of sF_both]; exact h1 3 hk hi⟩
  ·exact ⟨_, by rw [if_neg (by rw [hk]; decide), if_neg (by rw [hk]; decide), if_pos hk], by rw [stepC_of sF_final]; exact h1 4 hk hi⟩
 ·rcases hk with hk | hk | hk
  ·exact ⟨_, by rw [if_neg (by rw [hk]; decide), if_neg (by rw [hk]; decide), if_neg (by rw [hk]; decide), if_pos hk], by rw [stepC_of sF_one]; exact h2 2 hk hi⟩
  ·exact ⟨_, by rw [if_neg (by rw [hk]; decide), if_neg (by rw [hk]; decide), if_neg (by rw [hk]; decide), if_neg (by rw [hk]; decide), if_pos hk], by rw [stepC_of sF_shallow]; exact h2 5 hk hi⟩
  ·exact ⟨_, by rw [if_neg (by rw [hk]; decide), if_neg (by rw [hk]; decide), if_neg (by rw [hk]; decide), if_neg (by rw [hk]; decide), if_neg (by rw [hk]; decide), if_pos hk], by rw [stepC_of sF_deep]; exact h2 6 hk hi⟩
theorem partB_of {c : CH} {q : List SC} {s : SC} (hq : c.ss = q ++ [s]) (h0 : 0 ≤ s.dp) {n : Nat} {r : List (List UInt8)} (hr : r.length = n) : partB c (s.dp + 1).toNat n r = true := by
 unfold partB
 rw [hq, roomC_snoc, decide_eq_true hr]
 have : (((s.dp + 1).toNat : Nat) : Int) = s.dp + 1 := by omega
 rw [decide_eq_true this]
 cases q <;> rfl
theorem entry_fold {c : CH} {q : List SC} {s : SC} (hq : c.ss = q ++ [s]) (h0 : 0 ≤ s.dp) (hs : s.en = []) {l : List AM} (hl : AGood l) (r : List (List UInt8)) : foldC c ((optC (s.dp + 1) (blkL wEntry l)).map bareX ++ r) = foldC { c with ss := q ++ [{ s with en := l }] } r := by
 rcases hl with rfl | hl
 ·have : ({ c with ss := q ++ [{ s with en := [] }] } : CH) = c := by
   have e : ({ s with en := [] } : SC) = s := by rw [← hs]
   rw [e, ← hq]
  rw [this]
  simp [blkL, optC]
 ·have e : blkL wEntry l = some [wEntry, (showA l).1] := if_neg (rightA_ne hl)
  rw [e]
  refine fold_one (x := (s.dp + 1, [wEntry, (showA l).1])) ⟨by show 0 ≤ s.dp + 1; omega, by simp, by simp [showA_good hl, show goodW wEntry = true by decide]⟩ ?_ r
  show stepC c (s.dp + 1).toNat (wEntry :: [(showA l).1]) = _
  rw [stepC_of sF_entry]
  unfold entryS
  rw [if_pos (partB_of (n := 1) (r := [(showA l).1]) hq h0 rfl), lastS_snoc hq]
  have e1 : wd [(showA l).1] 0 = (showA l).1 := rfl
  rw [e1, (backA hl).1, hs]
  rfl
theorem exit_fold {c : CH} {q : List SC} {s : SC} (hq : c.ss = q ++ [s]) (h0 : 0 ≤ s.dp) (hs : s.ex = []) {l : List AM} (hl : AGood l) (r : List (List UInt8)) : foldC c ((optC (s.dp + 1) (blkL wExit l)).map bareX ++ r) = foldC { c with ss := q ++ [{ s with ex := l }] } r := by
 rcases hl with rfl | hl
 ·have : ({ c with ss := q ++ [{ s with ex := [] }] } : CH) = c := by
   have e : ({ s with ex := [] } : SC) = s := by rw [← hs]
   rw [e, ← hq]
  rw [this]
  simp [blkL, optC]
 ·have e : blkL wExit l = some [wExit, (showA l).1] := if_neg (rightA_ne hl)
  rw [e]
  refine fold_one (x := (s.dp + 1, [wExit, (showA l).1])) ⟨by show 0 ≤ s.dp + 1; omega, by simp, by simp [showA_good hl, show goodW wExit = true by decide]⟩ ?_ r
  show stepC c (s.dp + 1).toNat (wExit :: [(showA l).1]) = _
  rw [stepC_of sF_exit]
  unfold exitS
  rw [if_pos (partB_of (n := 1) (r := [(showA l).1]) hq h0 rfl), lastS_snoc hq]
  have e1 : wd [(showA l).1] 0 = (showA l).1 := rfl
  rw [e1, (backA hl).1, hs]
  rfl
theorem state_fold {c : CH} (hn : c.nm ≠ []) {s : SC} (hs : SGood s) (h0 : 0 ≤ s.dp) (hr : s.dp ≤ roomC c.ss) (r : List (List UInt8)) : foldC c ((stC s).map bareX ++ r) = foldC { c with ss := c.ss ++ [s] } r := by
 obtain ⟨ls, hl, hst⟩ := headL_step hn hs h0 hr
 unfold stC
 rw [hl, List.map_append, List.map_append]
 show foldC c ((bareX (s.dp, ls) :: (optC (s.dp + 1) (blkL wEntry s.en)).map bareX ++ (optC (s.dp + 1) (blkL wExit s.ex)).map bareX) ++ r) = _
 rw [List.cons_append, List.cons_append, fold_one (x := (s.dp, ls)) ⟨h0, headL_ne hl, headL_good hs hl⟩ hst, List.append_assoc]
 rw [entry_fold (c := { c with ss := c.ss ++ [⟨s.nm, s.kd, s.dp, s.ini, [], []⟩] }) (q := c.ss) (s := ⟨s.nm, s.kd, s.dp, s.ini, [], []⟩) rfl h0 rfl hs.2.2.1]
 rw [exit_fold (c := { c with ss := c.ss ++ [⟨s.nm, s.kd, s.dp, s.ini, s.en, []⟩] }) (q := c.ss) (s := ⟨s.nm, s.kd, s.dp, s.ini, s.en, []⟩) rfl h0 rfl hs.2.2.2]
theorem dash_back {α : Type} (z : α) (w : List UInt8) (a : α) (h : w ≠ wDash) : dashed z w a = a := if_neg h
theorem on_step {c : CH} {q : List SC} {s : SC} (hq : c.ss = q ++ [s]) (h0 : 0 ≤ s.dp) {t : TC} (ht : TGood t) (hf : t.fr = (q.length : Int)) : stepC c (s.dp + 1).toNat (onL t) = some { c with ts := c.ts ++ [t] } := by
 unfold onL
 rw [stepC_of sF_on]
 obtain ⟨fr, ev, gd, tt, ac⟩ := t
 obtain ⟨h1, h2, h3, h4⟩ := ht
 simp only at h1 h2 h3 h4 hf
 have e1 : evOk (if ev = [] then [45] else ev) = true ∧ dashed [] (if ev = [] then [45] else ev) (if ev = [] then [45] else ev) = ev := by
  by_cases he : ev = []
  ·subst he; rw [if_pos rfl]; exact ⟨rfl, rfl⟩
  ·rw [if_neg he]
   have hb := h1.resolve_left he
   have hd : ev ≠ wDash := by intro e; rw [e] at hb; revert hb; decide
   exact ⟨by unfold evOk; rw [hb, Bool.or_true], dash_back _ _ _ hd⟩
 have e2 : gdOk (if gd = [] then [45] else (showP gd).1) = true ∧ dashed [] (if gd = [] then [45] else (showP gd).1) (parseP (if gd = [] then [45] else (showP gd).1)).1 = gd := by
  by_cases he : gd = []
  ·subst he; rw [if_pos rfl]; exact ⟨rfl, rfl⟩
  ·rw [if_neg he]
   have hb := (back (h2.resolve_left he)).1
   have hd : (showP gd).1 ≠ wDash := by
    intro e; rw [e] at hb
    have : (parseP wDash).2.2 = 0 := by rw [hb]
    revert this; decide +kernel
   exact ⟨by unfold gdOk; rw [hb]; simp, by rw [dash_back _ _ _ hd, hb]⟩
 have e3 : toOk (if tt = [] then [45] else tt) = true ∧ dashed [] (if tt = [] then [45] else tt) (if tt = [] then [45] else tt) = tt := by
  by_cases he : tt = []
  ·subst he; rw [if_pos rfl]; exact ⟨rfl, rfl⟩
  ·rw [if_neg he]
   have hb := h3.resolve_left he
   have hd : tt ≠ wDash := by intro e; rw [e] at hb; revert hb; decide
   exact ⟨by unfold toOk; rw [hb, Bool.or_true], dash_back _ _ _ hd⟩
 have e4 : acOk (if ac = [] then [45] else (showA ac).1) = true ∧ dashed [] (if ac = [] then [45] else (showA ac).1) (parseA (if ac = [] then [45] else (showA ac).1)).1 = ac := by
  by_cases he : ac = []
  ·subst he; rw [if_pos rfl]; exact ⟨rfl, rfl⟩
  ·rw [if_neg he]
   have hb := (backA (Or.resolve_left h4 he)).1
   have hd : (showA ac).1 ≠ wDash := by
    intro e; rw [e] at hb
    have : (parseA wDash).2 = 0 := by rw [hb]
    revert this; decide +kernel
   exact ⟨by unfold acOk; rw [hb]; simp, by rw [dash_back _ _ _ hd, hb]⟩
 have hw : ∀ a b d e : List UInt8, wd [a, b, d, e] 0 = a ∧ wd [a, b, d, e] 1 = b ∧ wd [a, b, d, e] 2 = d ∧ wd [a, b, d, e] 3 = e := fun _ _ _ _ => ⟨rfl, rfl, rfl, rfl⟩
 unfold onS onT
 simp only [(hw _ _ _ _).1, (hw _ _ _ _).2.1, (hw _ _ _ _).2.2.1, (hw _ _ _ _).2.2.2]
 have hpb : ∀ a b d e : List UInt8, partB c (s.dp + 1).toNat 4 [a, b, d, e] = true := fun a b d e => partB_of (n := 4) (r := [a, b, d, e]) hq h0 rfl
 rw [hpb, e1.1, e2.1, e3.1, e4.1, e1.2, e2.2, e3.2, e4.2]
 have hl : ((c.ss.length : Nat) : Int) - 1 = fr := by rw [hq, hf]; simp
 rw [if_pos (by rfl), hl]
theorem trans_fold {q : List SC} {s : SC} (h0 : 0 ≤ s.dp) : ∀ (ts : List TC) (c : CH), c.ss = q ++ [s] → (∀ t ∈ ts, TGood t) → ∀ r, ∃ tk, ts = tk ++ (trC (s.dp + 1) (q.length : Nat) ts).2 ∧ foldC c ((trC (s.dp + 1) (q.length : Nat) ts).1.map bareX ++ r) = foldC { c with ts := c.ts ++ tk } r
 | [], c, _, _, r => ⟨[], rfl, by simp [trC]⟩
 | t :: u, c, hq, h, r => by
  unfold trC
  by_cases e : t.fr = (q.length : Nat)
  ·rw [if_pos e]
   have ht := h t (by simp)
   obtain ⟨tk, h1, h2⟩ := trans_fold h0 u { c with ts := c.ts ++ [t] } hq (fun x hx => h x (by simp [hx])) r
   refine ⟨t :: tk, by rw [List.cons_append, ← h1], ?_⟩
   show foldC c (bareX (s.dp + 1, onL t) :: ((trC (s.dp + 1) (q.length : Nat) u).1.map bareX ++ r)) = _
   rw [fold_one (x := (s.dp + 1, onL t)) ⟨by show 0 ≤ s.dp + 1; omega, onL_ne t, onL_good ht⟩ (on_step hq h0 ht e), h2]
   simp
  ·rw [if_neg e]
   exact ⟨[], rfl, by simp⟩
theorem body_fold : ∀ (ss : List SC) (ts : List TC) (c : CH), c.nm ≠ [] → (∀ s ∈ ss, SGood s) → Deps (roomC c.ss) ss → (∀ t ∈ ts, TGood t) → Froms (c.ss.length : Nat) (c.ss.length + ss.length : Nat) ts → foldC c ((bodyC c.ss.length ss ts).map bareX) = some { c with ss := c.ss ++ ss, ts := c.ts ++ ts }
 | [], ts, c, _, _, _, _, hf => by
  obtain rfl := froms_none (by simp) hf
  simp [bodyC, foldC]
 | s :: q, ts, c, hn, hs, hd, ht, hf => by
  have h0 := hd.1
  unfold bodyC
  rw [List.map_append, List.map_append, List.append_assoc, state_fold hn (hs s (by simp)) h0 hd.2.1]
  obtain ⟨tk, h1, h2⟩ := trans_fold (q := c.ss) (s := s) h0 ts { c with ss := c.ss ++ [s] } rfl ht ((bodyC (c.ss.length + 1) q (trC (s.dp + 1) (c.ss.length : Nat) ts).2).map bareX)
  rw [h2]
  have h3 := froms_left (s.dp + 1) ts _ _ hf
  have hlen : (c.ss ++ [s]).length = c.ss.length + 1 := by simp
  have ih := body_fold q (trC (s.dp + 1) (c.ss.length : Nat) ts).2 ⟨c.nm, c.es, c.vs, c.ss ++ [s], c.ts ++ tk⟩ hn (fun u hu => hs u (by simp [hu])) (by rw [roomC_snoc]; exact hd.2.2) (fun t h => ht t (trC_mem _ _ ts t h)) (by
   show Froms ((c.ss ++ [s]).length : Nat) ((c.ss ++ [s]).length + q.length : Nat) _
   rw [hlen]
   rw [List.length_cons] at h3
   have e1 : ((c.ss.length + 1 : Nat) : Int) = (c.ss.length : Nat) + 1 := by omega
   have e2 : c.ss.length + 1 + q.length = c.ss.length + (q.length + 1) := by omega
   rw [e1, e2]
   exact h3)
  rw [show (CH.mk c.nm c.es c.vs (c.ss ++ [s]) (c.ts ++ tk)).ss.length = c.ss.length + 1 from hlen] at ih
  show foldC ⟨c.nm, c.es, c.vs, c.ss ++ [s], c.ts ++ tk⟩ _ = _
  rw [ih]
  show some (CH.mk c.nm c.es c.vs (c.ss ++ [s] ++ q) (c.ts ++ tk ++ (trC (s.dp + 1) (c.ss.length : Nat) ts).2)) = _
  rw [List.append_assoc c.ts, ← h1, List.append_assoc]
  rfl
theorem run_of_fold {ls : List (List UInt8)} {c c' : CH} {k : Nat} (h : foldC c ls = some c') : runC c k ls = (c', 0, 0) := by
 have := runC_split (b := []) (k := k) h
 rw [List.append_nil] at this
 rw [this]; rfl
theorem fold_of_run : ∀ (ls : List (List UInt8)) (c c' : CH) (k : Nat), runC c k ls = (c', 0, 0) → foldC c ls = some c'
 | [], c, c', k, h => by
  injection h with h _
  rw [← h]; rfl
 | l :: r, c, c', k, h => by
  unfold runC at h
  unfold foldC
  cases hl : lineC c l with
  | none => rw [hl] at h; injection h with _ h; injection h with _ h; cases h
  | some c2 => rw [hl] at h; exact fold_of_run r c2 c' (k + 1) h
def textC (c : CH) : List UInt8 := writeC [] (callsC c)
def fullT (c : CH) : List UInt8 := fullC (callsC c)
theorem full_ne (c : CH) : fullT c ≠ [] := by
 unfold fullT callsC headC
 rw [List.cons_append, fullC_cons]
 intro e
 exact lineTx_ne _ _ (List.append_eq_nil_iff.1 e).1
theorem fold_full {c : CH} (hc : Good c) : foldC noCH (linesL (fullT c)) = some c := by
 unfold fullT
 rw [lines_full _ (callsC_good hc)]
 unfold callsC
 rw [List.map_append, foldC_append (fold_head hc)]
 have h := body_fold c.ss c.ts ⟨c.nm, c.es, c.vs, [], []⟩ (nameB_ne hc.nm) hc.ss hc.dp hc.ts (by
  show Froms ((0 : Nat) : Int) ((0 + c.ss.length : Nat) : Int) c.ts
  rw [Nat.zero_add]
  exact hc.fr)
 exact h
theorem parse_full {c : CH} (hc : Good c) (hl : (fullT c).length ≤ 6000) : parseC (fullT c) = (c, 0, 0) := by
 unfold parseC
 rw [if_neg (by omega), if_neg (full_ne c)]
 exact run_of_fold (fold_full hc)
theorem linesL_sum : ∀ s : List UInt8, ((linesL s).map List.length).sum + (linesL s).length ≤ s.length + 1
 | [] => by simp [linesL]
 | c :: r => by
  have ih := linesL_sum r
  unfold linesL
  split
  ·simp; omega
  ·split
   ·simp
   ·rename_i p ps e
    rw [e] at ih
    simp at ih ⊢
    omega
theorem parse_good {s : List UInt8} {c : CH} (h : parseC s = (c, 0, 0)) : Good c ∧ (fullT c).length ≤ s.length + 1 ∧ (callsC c).length = (linesL s).length ∧ s.length ≤ 6000 := by
 unfold parseC at h
 split at h
 ·injection h with _ h; injection h with _ h; cases h
 ·split at h
  ·injection h with _ h; injection h with h _; cases h
  ·rename_i h1 h2
   have hf := fold_of_run _ _ _ _ h
   obtain ⟨i1, i2, i3⟩ := fold_ins _ _ _ (Or.inl rfl) hf
   have hg : Good c := i1.resolve_left (linesL_ne h2)
   have hp : partsC c = callsC c := by unfold partsC; rw [if_neg (good_nm hg)]
   have hp0 : partsC noCH = [] := rfl
   rw [hp, hp0] at i2 i3
   have := linesL_sum s
   refine ⟨hg, ?_, by simpa using i2, by omega⟩
   unfold fullT
   simp [fullC] at i3 ⊢
   omega
theorem text_judge (c : CH) : parseC (textC c) = (c, 0, 0) ↔ Good c ∧ (fullT c).length ≤ 6000 := by
 constructor
 ·intro h
  obtain ⟨hg, _, hn, _⟩ := parse_good h
  refine ⟨hg, ?_⟩
  obtain ⟨ks, h1, h2, h3, h4⟩ := writeC_some (callsC c) [] (callsC_ne c) (by simp)
  have hgx : ∀ x ∈ ks, GoodX x := fun x hx => callsC_good hg x (h1.subset hx)
  have e : textC c = fullC ks := by unfold textC; rw [h2, List.nil_append]
  rw [e, lines_full ks hgx, List.length_map] at hn
  have hk : ks = callsC c := h1.eq_of_length hn.symm
  rw [hk] at h3
  simpa [fullT] using h3
 ·rintro ⟨hg, hl⟩
  have e : textC c = fullT c := by
   unfold textC
   rw [writeC_full _ _ (fun x hx => ⟨(callsC_good hg x hx).1, (callsC_good hg x hx).2.1⟩) (by simpa [fullT] using hl), List.nil_append]
   rfl
  rw [e]
  exact parse_full hg hl
end Go.Proofs.YtdooeonilbpfgaaGreatDoor.Ch
namespace Go.Proofs.YtdooeonilbpfgaaGreatDoor.Ch
open Go.RowKit
structure WS (b B : Nat) (w w' : World) (l : List UInt8) : Prop where
 wr : Wr b B w' l
 kb : KeptB b B w w'
 ku : KeptU b w w'
 len : l.length ≤ 6000
theorem WS.step {b B : Nat} {w w1 w2 : World} {l l2 : List UInt8} (h : WS b B w w1 l) (h1 : Wr b B w2 l2) (h2 : KeptB b B w1 w2) (h3 : KeptU b w1 w2) (h4 : l2.length ≤ 6000) : WS b B w w2 l2 := ⟨h1, h.kb.trans h2, h.ku.trans h3, h4⟩
theorem WS.from_ {b B : Nat} {w0 w w1 : World} {l : List UInt8} (h : WS b B w w1 l) (hb : Below w0.heap.size w0 w) (hB : B ≤ w0.heap.size) : WS b B w0 w1 l := ⟨h.wr, (KeptB.of_below hb hB).trans h.kb, (KeptU.of_below hb).trans h.ku, h.len⟩
theorem WS.low {b B : Nat} {w0 w w' : World} {l : List UInt8} (h : WS b B w w' l) (hw : Below w0.heap.size w0 w) (hb : w0.heap.size ≤ b) : Below w0.heap.size w0 w' := h.kb.low hw hb h.wr.lt
def evC (e : List UInt8) : Call := (0, [wEvent, e])
def vaC (v : VM) : List Call := optC 0 (varL v)
theorem headC_is (c : CH) : headC c = (0, [wChart, c.nm]) :: (c.es.map evC ++ c.vs.flatMap vaC) := rfl
theorem write_len {l : List UInt8} (h : l.length ≤ 6000) : ∀ (cs : List Call), (∀ x ∈ cs, x.2 ≠ []) → (writeC l cs).length ≤ 6000 := by
 intro cs
 induction cs generalizing l with
 | nil => intro _; exact h
 | cons x r ih => intro hx; exact ih (putL_len h _ (hx x (by simp))) (fun y hy => hx y (by simp [hy]))
theorem take_next {α : Type} {l : List α} {k : Nat} (h : k < l.length) : l.take (k + 1) = l.take k ++ [l[k]] := List.take_succ_eq_append_getElem h
set_option maxRecDepth 100000 in
set_option maxHeartbeats 8000000 in
theorem head_any {b B : Nat} {w0 w : World} {l : List UInt8} (h : Wr b B w l) (hl : l.length ≤ 6000) (c : CH) (eV vV sV tV : Value) (sp : List SP) (tp : List TP) (hM : ChM w0 c eV vV sV tV sp tp) (hw0 : Below w0.heap.size w0 w) (hb0 : w0.heap.size ≤ b) (hnm : c.nm.length ≤ 140737488355328) (hes : ∀ e ∈ c.es, e.length ≤ 140737488355328) (hvs : ∀ v ∈ c.vs, VaZ v) (hE : Env w0) :
  Calls Tryz.prog 25 #[.pointer (some ⟨b, 0, none⟩), .agg #[bstr c.nm, eV, vV, sV, tV]] w fun e w' => e = .returned (.tuple #[]) ∧ WS b B w w' (writeC l (headC c)) := by
 obtain ⟨nm, es, vs, ss, ts⟩ := c
 obtain ⟨Ae, ce, rfl⟩ := Inn.form hM.es
 obtain ⟨Av, cv, rfl⟩ := Inn.form hM.vs
 obtain ⟨ne, hne⟩ : ∃ n, es.length = n := ⟨_, rfl⟩
 obtain ⟨nv, hnv⟩ : ∃ n, vs.length = n := ⟨_, rfl⟩
 obtain ⟨N, hN, _⟩ := bstr_some nm
 have HH := Lib.hid h; have HW0 := Lib.hid hw0; have HB0 := Lib.hid hb0; have HE := Lib.hid hE
 have HES := Lib.hid hM.es; have HVS := Lib.hid hM.vs
 have hel := hM.el; have hvl := hM.vl
 simp only at hel hvl HES HVS hnm hes hvs hne hnv
 rw [hne] at hel; rw [hnv] at hvl
 have HNE := Lib.hid hne; have HNV := Lib.hid hnv
 have HEL : Hid (∀ e ∈ es, e.length ≤ 140737488355328) := hes
 have HVL : Hid (∀ v ∈ vs, VaZ v) := hvs
 have HNL : Hid (nm.length ≤ 140737488355328) := hnm
 simp only
 rw [hN, hne, hnv]
 have HN := Lib.hid hN
 rw [hne] at HES
 rw [hnv] at HVS
 obtain ⟨w2, hw2⟩ : ∃ W, W = w.alloc (.cells #[.string N, .slice Ae ne ce, .slice Av nv cv, sV, tV] 27) := ⟨_, rfl⟩
 have hb2 : Below w.heap.size w w2 := hw2 ▸ (Below.refl _ _).alloc (Nat.le_refl _) _
 have hr : w2.heap[w.heap.size]? = some (.cells #[.string N, .slice Ae ne ce, .slice Av nv cv, sV, tV] 27 (0, 0)) := by rw [hw2]; exact World.alloc_heap_new w _
 have c0 : w2.cell? ⟨w.heap.size, 0, none⟩ = some (.string N) := by rw [hw2]; simp
 have HB2 := Lib.hid hb2; have HR := Lib.hid hr; have HW2 := Lib.hid hw2
 have hbne : w.heap.size ≠ b := fun e => by have := HH.out.lt; have := HH.out.le; omega
 have HBN := Lib.hid hbne
 have HLE := HH.out.le
 have HLO : Hid (Below w0.heap.size w0 w2) := hw0.trans (hb2.mono hw0.size)
 have H2 : Hid (WS b B w2 w2 l) := ⟨HH.out.below hb2, KeptB.refl _ _ _, KeptU.refl _ _, hl⟩
 clear h hM hw0 hb0 hnm hes hvs hE hne hnv hN hb2 hr hw2 hbne
 have HCUR : Hid ((#[.string ⟨#[99, 104, 97, 114, 116]⟩, .string N] : Array Value).toList = strsV [wChart, nm]) := by show _ = _; simp only [strsV, List.map]; rw [HN.out]; rfl
 have HLS : Hid (∀ x ∈ [wChart, nm], x.length ≤ 140737488355328) := by intro x hx; simp only [List.mem_cons, List.not_mem_nil, or_false] at hx; rcases hx with rfl | rfl; decide; exact HNL.out
 go_enter Tryz.func25, Tryz.ntmps25
 go_upto_region 1 with fail
 rw [← HW2.out]
 go_wp2_with fail
 go_at_call 54
 refine (line_at H2.out.wr hl (Below.refl _ _) 0 [wChart, nm] #[.string ⟨#[99, 104, 97, 114, 116]⟩, .string N] 2 rfl HCUR.out (by omega) HLS.out).mono ?_
 rintro e w3 ⟨rfl, h1, h2, h3⟩
 have H3 : Hid (WS b B w2 w3 (putL l 0 [wChart, nm])) := H2.out.step h1 h2 h3 (putL_len hl _ (by simp))
 obtain ⟨l3, hl3⟩ : ∃ L, putL l 0 [wChart, nm] = L := ⟨_, rfl⟩
 rw [hl3] at H3
 have HL3 := Lib.hid hl3
 clear h1 h2 h3 hl3 c0 HCUR HLS
 have hq3 := H3.out.ku w.heap.size _ _ _ HBN.out (by decide) HR.out
 have d1 : w3.cell? ⟨w.heap.size, 1, none⟩ = some (.slice Ae ne ce) := by simp [World.cell?, hq3]
 clear hq3
 go_wp2
 go_loopw [5, 16] (fun x5 x16 wr => x5 = x5 ∧ ∃ k : Nat, k ≤ ne ∧ x16 = .int .i64 k ∧ Hid (WS b B w2 wr (writeC l3 ((es.take k).map evC)))) (fun _ i _ => ne - (intOf i).toNat)
 case atStart => exact ⟨rfl, 0, Nat.zero_le _, rfl, Lib.hid H3.out⟩
 case round =>
  obtain ⟨_, k, hk, rfl, HS⟩ := hrel
  obtain ⟨wl, hwl⟩ : ∃ W, W = wr := ⟨_, rfl⟩
  subst hwl
  have hlow := HS.out.low HLO.out HB0.out
  by_cases hkn : k < ne
  ·have hkl : k < es.length := by rw [HNE.out]; exact hkn
   obtain ⟨q, o, rfl, hq, hc⟩ := Inn.at_ (HES.out.below hlow) hkn
   obtain ⟨X, hX, _⟩ := bstr_some es[k]
   have cx : wl.cell? ⟨q, o + k, none⟩ = some (.string X) := by
    have := hc 0 (bstr es[k]) (by simp [strsV, hkl])
    rw [hX] at this
    simpa using this
   have HCUR : Hid ((#[.string ⟨#[101, 118, 101, 110, 116]⟩, .string X] : Array Value).toList = strsV [wEvent, es[k]]) := by show _ = _; simp only [strsV, List.map]; rw [hX]; rfl
   have HLS : Hid (∀ x ∈ [wEvent, es[k]], x.length ≤ 140737488355328) := by intro x hx; simp only [List.mem_cons, List.not_mem_nil, or_false] at hx; rcases hx with rfl | rfl; decide; exact HEL.out _ (List.getElem_mem hkl)
   have HNX : Hid (writeC l3 ((es.take (k + 1)).map evC) = putL (writeC l3 ((es.take k).map evC)) 0 [wEvent, es[k]]) := by
    show _ = _
    rw [take_next hkl, List.map_append, writeC_append]; rfl
   clear hc hX hlow
   generalize es[k] = x at *
   go_wp2_with fail
   go_at_call 54
   refine (line_at HS.out.wr HS.out.len (Below.refl _ _) 0 [wEvent, x] #[.string ⟨#[101, 118, 101, 110, 116]⟩, .string X] 2 rfl HCUR.out (by omega) HLS.out).mono ?_
   rintro e w5 ⟨rfl, h1, h2, h3⟩
   have H5 : Hid (WS b B w2 w5 (writeC l3 ((es.take (k + 1)).map evC))) := by rw [HNX.out]; exact HS.out.step h1 h2 h3 (putL_len HS.out.len _ (by simp))
   clear h1 h2 h3 cx
   go_wp2
   go_roundw
   case rel => exact ⟨trivial, k + 1, by omega, by go_num, H5⟩
   case measure => simp [intOf]; omega
  ·have hkn2 : k = ne := by omega
   subst hkn2
   have ht : es.take k = es := List.take_of_length_le (by rw [HNE.out]; omega)
   rw [ht] at HS
   obtain ⟨l4, hl4⟩ : ∃ L, writeC l3 (es.map evC) = L := ⟨_, rfl⟩
   rw [hl4] at HS
   have HL4 := Lib.hid hl4
   have hq3 := HS.out.ku w.heap.size _ _ _ HBN.out (by decide) HR.out
   have d2 : wl.cell? ⟨w.heap.size, 2, none⟩ = some (.slice Av nv cv) := by simp [World.cell?, hq3]
   clear hl4 ht hq3 hlow hkn
   go_wp2
   go_loopw [7, 28] (fun x7 x28 wr => x7 = x7 ∧ ∃ k : Nat, k ≤ nv ∧ x28 = .int .i64 k ∧ Hid (WS b B w2 wr (writeC l4 ((vs.take k).flatMap vaC)))) (fun _ i _ => nv - (intOf i).toNat)
   case atStart => exact ⟨rfl, 0, Nat.zero_le _, rfl, Lib.hid HS.out⟩
   case round =>
    obtain ⟨_, j, hj, rfl, HT⟩ := hrel
    obtain ⟨wm, hwm⟩ : ∃ W, W = wr := ⟨_, rfl⟩
    subst hwm
    have hlow := HT.out.low HLO.out HB0.out
    by_cases hjn : j < nv
    ·have hjl : j < vs.length := by rw [HNV.out]; exact hjn
     obtain ⟨q, o, rfl, hq, hc⟩ := Inn.at_ (HVS.out.below hlow) hjn
     have a0 : wm.cell? ⟨q, o + j * 7, none⟩ = some (bstr vs[j].nm) := hc 0 _ ((flatM_at vaV 7 (fun _ => rfl) hjl (by omega)).trans rfl)
     have a1 : wm.cell? ⟨q, o + j * 7 + 1, none⟩ = some (.int .i64 vs[j].kd) := hc 1 _ ((flatM_at vaV 7 (fun _ => rfl) hjl (by omega)).trans rfl)
     have a2 : wm.cell? ⟨q, o + j * 7 + 2, none⟩ = some (.int .i64 vs[j].lo) := hc 2 _ ((flatM_at vaV 7 (fun _ => rfl) hjl (by omega)).trans rfl)
     have a3 : wm.cell? ⟨q, o + j * 7 + 3, none⟩ = some (.int .i64 vs[j].hi) := hc 3 _ ((flatM_at vaV 7 (fun _ => rfl) hjl (by omega)).trans rfl)
     have a4 : wm.cell? ⟨q, o + j * 7 + 4, none⟩ = some (.int .i64 vs[j].ik) := hc 4 _ ((flatM_at vaV 7 (fun _ => rfl) hjl (by omega)).trans rfl)
     have a5 : wm.cell? ⟨q, o + j * 7 + 5, none⟩ = some (.int .i64 vs[j].ia) := hc 5 _ ((flatM_at vaV 7 (fun _ => rfl) hjl (by omega)).trans rfl)
     have a6 : wm.cell? ⟨q, o + j * 7 + 6, none⟩ = some (.int .i64 vs[j].ib) := hc 6 _ ((flatM_at vaV 7 (fun _ => rfl) hjl (by omega)).trans rfl)
     have HNX : Hid (writeC l4 ((vs.take (j + 1)).flatMap vaC) = putO (writeC l4 ((vs.take j).flatMap vaC)) 0 (varL vs[j])) := by
      show _ = _
      rw [take_next hjl, List.flatMap_append, writeC_append, ← writeC_opt]
      simp [vaC]
     have HVZ := Lib.hid (HVL.out _ (List.getElem_mem hjl))
     have HEW := Lib.hid (HE.out.below hlow)
     clear hc hlow
     generalize vs[j] = x at *
     obtain ⟨xn, xk, xlo, xhi, xik, xia, xib⟩ := x
     obtain ⟨X, hX, _⟩ := bstr_some xn
     simp only at a0 a1 a2 a3 a4 a5 a6
     rw [hX] at a0
     have HX := Lib.hid hX
     clear hX
     go_wp2_with fail
     go_at_call 55
     have hal : ∀ o, Below wm.heap.size wm (wm.alloc o) := fun o => (Below.refl _ _).alloc (Nat.le_refl _) o
     have hc : ∀ o, Calls Tryz.prog 55 #[.pointer (some ⟨b, 0, none⟩), .agg #[bstr xn, .int .i64 xk, .int .i64 xlo, .int .i64 xhi, .int .i64 xik, .int .i64 xia, .int .i64 xib]] (wm.alloc o) fun e w' => e = .returned (.tuple #[]) ∧ Wr b B w' (putO (writeC l4 ((vs.take j).flatMap vaC)) 0 (varL ⟨xn, xk, xlo, xhi, xik, xia, xib⟩)) ∧ KeptB b B (wm.alloc o) w' ∧ KeptU b (wm.alloc o) w' := fun o => wvar_any (HT.out.wr.below (hal o)) HT.out.len ⟨xn, xk, xlo, xhi, xik, xia, xib⟩ HVZ.out (HEW.out.below (hal o))
     rw [HX.out] at hc
     refine (hc _).mono ?_
     rintro e w5 ⟨rfl, h1, h2, h3⟩
     have H5 : Hid (WS b B w2 w5 (writeC l4 ((vs.take (j + 1)).flatMap vaC))) := by rw [HNX.out]; exact HT.out.step h1 ((KeptB.of_below (hal _) HT.out.wr.le).trans h2) ((KeptU.of_below (hal _)).trans h3) (putO_len HT.out.len _ (fun ls h => varL_ne h))
     clear h1 h2 h3 hal hc a0 a1 a2 a3 a4 a5 a6
     go_wp2
     go_roundw
     case rel => exact ⟨trivial, j + 1, by omega, by go_num, H5⟩
     case measure => simp [intOf]; omega
    ·have hjn2 : j = nv := by omega
     subst hjn2
     have ht : vs.take j = vs := List.take_of_length_le (by rw [HNV.out]; omega)
     rw [ht] at HT
     clear hlow
     go_wp2
     go_end0
     refine ⟨rfl, ?_⟩
     rw [headC_is, writeC_cons, writeC_append]
     show WS b B w _ (writeC (writeC (putL l 0 [wChart, nm]) (es.map evC)) (vs.flatMap vaC))
     rw [HL3.out, HL4.out]
     exact HT.out.from_ HB2.out HLE
end Go.Proofs.YtdooeonilbpfgaaGreatDoor.Ch
