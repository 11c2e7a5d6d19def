/- Own texts, joined: Tc, Td, Tg, Th. -/
import Derived.Test.YtdelihhbmagphaaGreatDoorR27
import Derived.Test.YtdelihhbmagphaaGreatDoorR34
namespace Go.Proofs.YtdelihhbmagphaaGreatDoor.Ch
open Go.RowKit
structure Lf (w0 : World) (v : Value) (r : List TP) : Prop where
 inn : Inn w0 5 v r.length (flatT r)
 cap : ∃ A c, v = .slice A r.length c ∧ r.length ≤ c
theorem flatT_cons (p : TP) (r : List TP) : flatT (p :: r) = trV p ++ flatT r := by simp [flatT]
theorem Lf.tail {w0 : World} {A : Option Addr} {n c : Nat} {p : TP} {r : List TP} (h : Lf w0 (.slice A n c) (p :: r)) : ∃ q o, A = some ⟨q, o, none⟩ ∧ n = r.length + 1 ∧ n ≤ c ∧ q < w0.heap.size ∧ (∀ j u, (trV p)[j]? = some u → w0.cell? ⟨q, o + j, none⟩ = some u) ∧ Lf w0 (.slice (some ⟨q, o + 5, none⟩) r.length (c - 1)) r ∧ (c = 1 → Lf w0 (.slice (some ⟨q, o, none⟩) r.length 0) r) := by
 obtain ⟨A', c', e, hc⟩ := h.cap
 injection e with e1 e2 e3
 subst e1; subst e2; subst e3
 obtain ⟨q, o, rfl, hq, hcell⟩ := Inn.at_ h.inn (k := 0) (by simp)
 simp only [Nat.zero_mul, Nat.zero_add, Nat.add_zero] at hcell
 have hl : (trV p).length = 5 := rfl
 have hcell2 : ∀ j u, (flatT r)[j]? = some u → w0.cell? ⟨q, o + 5 + j, none⟩ = some u := by
  intro j u hu
  have := hcell (5 + j) u (by rw [flatT_cons, List.getElem?_append_right (by omega), hl, show 5 + j - 5 = j by omega]; exact hu)
  rw [← Nat.add_assoc] at this
  exact this
 refine ⟨q, o, rfl, by simp, by simpa using hc, hq, fun j u hu => hcell j u ?_, ⟨?_, _, _, rfl, by simp at hc; omega⟩, ?_⟩
 ·rw [flatT_cons, List.getElem?_append_left (List.getElem?_eq_some_iff.1 hu).1]; exact hu
 ·exact Or.inr ⟨_, _, rfl, flatT_length r, fun _ => ⟨q, o + 5, rfl, hq, hcell2⟩⟩
 ·intro h1
  have hr : r = [] := by
   have : r.length = 0 := by simp at hc; omega
   exact List.eq_nil_of_length_eq_zero this
  subst hr
  exact ⟨Or.inr ⟨_, _, rfl, flatT_length [], fun h => absurd h (by simp)⟩, _, _, rfl, Nat.zero_le _⟩
theorem write_tr (d i : Int) (l : List UInt8) (t : TC) (r : List TC) (h : t.fr = i) : (trC d i (t :: r)).2 = (trC d i r).2 ∧ writeC l (trC d i (t :: r)).1 = writeC (putL l d (onL t)) (trC d i r).1 := by
 have e : trC d i (t :: r) = ((d, onL t) :: (trC d i r).1, (trC d i r).2) := by conv => lhs; unfold trC; rw [if_pos h]
 rw [e]
 exact ⟨rfl, rfl⟩
theorem write_no (d i : Int) (t : TC) (r : List TC) (h : t.fr ≠ i) : trC d i (t :: r) = ([], t :: r) := by
 conv => lhs; unfold trC
 rw [if_neg h]
def lenS : Value → Nat
 | .slice _ n _ => n
 | _ => 0
structure TrI (b B : Nat) (w0 w2 wr : World) (D : Nat) (bx : Array Value) (tp r : List TP) (A : Option Addr) (c : Nat) (L : List UInt8) : Prop where
 ws : WS b B w2 wr L
 lf : Lf w0 (.slice A r.length c) r
 mem : ∀ p ∈ r, p ∈ tp
 len : r.length ≤ tp.length
 box : wr.heap[D]? = some (.cells bx 67 (0, 0))
theorem TrI.step {b B : Nat} {w0 w2 wr w' : World} {D : Nat} {bx : Array Value} {tp r : List TP} {A : Option Addr} {c : Nat} {L L' : List UInt8} {p : TP} {A' : Option Addr} {c' : Nat} (h : TrI b B w0 w2 wr D bx tp (p :: r) A c L) (hD : D ≠ b) (h1 : Wr b B w' L') (h2 : KeptB b B wr w') (h3 : KeptU b wr w') (h4 : L'.length ≤ 6000) (hl : Lf w0 (.slice A' r.length c') r) : TrI b B w0 w2 w' D bx tp r A' c' L' :=
 ⟨h.ws.step h1 h2 h3 h4, hl, fun q hq => h.mem q (by simp [hq]), by have := h.len; simp at this; omega, h3 _ _ _ _ hD (by decide) h.box⟩
set_option maxRecDepth 100000 in
set_option maxHeartbeats 8000000 in
theorem body_any {b B : Nat} {w0 w : World} {l : List UInt8} (h : Wr b B w l) (hl : l.length ≤ 6000) (c : CH) (eV vV sV tV : Value) (sp : List SP) (tp : List TP) (hM : ChM w0 c eV vV sV tV sp tp) (hcap : ∃ A k, tV = .slice A tp.length k ∧ tp.length ≤ k) (hw0 : Below w0.heap.size w0 w) (hb0 : w0.heap.size ≤ b) (hss : ∀ p ∈ sp, StZ p.1) (hts : ∀ p ∈ tp, TrZ p.1) (hE : Env w0) :
  Calls Tryz.prog 26 #[.pointer (some ⟨b, 0, none⟩), .agg #[bstr c.nm, eV, vV, sV, tV]] w fun e w' => e = .returned (.tuple #[]) ∧ WS b B w w' (writeC l (bodyC 0 c.ss c.ts)) := by
 obtain ⟨nm, es, vs, ss, ts⟩ := c
 obtain ⟨As, cs, rfl⟩ := Inn.form hM.ss
 obtain ⟨ns, hns⟩ : ∃ n, sp.length = n := ⟨_, rfl⟩
 obtain ⟨N, hN, _⟩ := bstr_some nm
 have HH := Lib.hid h; have HW0 := Lib.hid hw0; have HB0 := Lib.hid hb0; have HE := Lib.hid hE
 have HSS := Lib.hid hM.ss
 have HLT : Hid (Lf w0 tV tp) := ⟨hM.ts, hcap⟩
 have hsl := hM.sl
 have hse := hM.ssE; have hte := hM.tsE
 simp only at hse hte
 rw [hns] at hsl
 have HNS := Lib.hid hns
 have HSZ : Hid (∀ p ∈ sp, StZ p.1) := hss
 have HTZ : Hid (∀ p ∈ tp, TrZ p.1) := hts
 have HSD : Hid (∀ p ∈ sp, StR w0 p) := hM.sd
 have HTD : Hid (∀ p ∈ tp, TrR w0 p) := hM.td
 have htl := hM.tl
 have HSE := Lib.hid hse; have HTE := Lib.hid hte
 simp only
 rw [hN, hns]
 rw [hns] at HSS
 obtain ⟨At, ct, htV, htc⟩ := hcap
 rw [htV] at HLT ⊢
 obtain ⟨w2, hw2⟩ : ∃ W, W = w.alloc (.cells #[.string N, eV, vV, .slice As ns cs, .slice At tp.length ct] 27) := ⟨_, rfl⟩
 have hb2 : Below w.heap.size w w2 := hw2 ▸ (Below.refl _ _).alloc (Nat.le_refl _) _
 have c3 : w2.cell? ⟨w.heap.size, 3, none⟩ = some (.slice As ns cs) := by rw [hw2]; simp
 have c4 : w2.cell? ⟨w.heap.size, 4, none⟩ = some (.slice At tp.length ct) := by rw [hw2]; simp
 have HB2 := Lib.hid hb2; have HW2 := Lib.hid hw2
 have HLE := HH.out.le
 have HLO : Hid (Below w0.heap.size w0 w2) := hw0.trans (hb2.mono hw0.size)
 have H2 : Hid (WS b B w2 w2 l) := ⟨HH.out.below hb2, KeptB.refl _ _ _, KeptU.refl _ _, hl⟩
 obtain ⟨R, hR⟩ : ∃ R, writeC l (bodyC 0 ss ts) = R := ⟨_, rfl⟩
 have HR := Lib.hid hR
 clear h hM hw0 hb0 hss hts hE hns hN hb2 hw2 htV hse hte hR
 go_enter Tryz.func26, Tryz.ntmps26
 go_upto_region 1 with fail
 rw [← HW2.out]
 go_wp2
 go_loopw [4, 5, 6, 12] (fun x4 x5 x6 x12 wr => (x5 = x5 ∧ x6 = x6) ∧ ∃ (k : Nat) (L : List UInt8) (r : List TP) (A : Option Addr) (c : Nat), k ≤ ns ∧ x12 = .int .i64 k ∧ x4 = .slice A r.length c ∧ Hid (WS b B w2 wr L ∧ Lf w0 (.slice A r.length c) r ∧ (∀ p ∈ r, p ∈ tp) ∧ r.length ≤ tp.length ∧ writeC L (bodyC k (ss.drop k) (r.map Prod.fst)) = R)) (fun _ _ _ i _ => ns - (intOf i).toNat)
 case atStart => exact ⟨⟨rfl, rfl⟩, 0, l, tp, At, ct, Nat.zero_le _, rfl, rfl, H2.out, HLT.out, fun p hp => hp, Nat.le_refl _, by rw [HTE.out]; exact HR.out⟩
 case round =>
  obtain ⟨_, k, L, r, A, cc, hk, rfl, rfl, HI⟩ := hrel
  obtain ⟨wl, hwl⟩ : ∃ W, W = wr := ⟨_, rfl⟩
  subst hwl
  have hlow := HI.out.1.low HLO.out HB0.out
  by_cases hkn : k < ns
  ·have hkl : k < sp.length := by rw [HNS.out]; exact hkn
   have hks : k < ss.length := by rw [← HSE.out, List.length_map]; exact hkl
   have hsk : ss[k] = sp[k].1 := by simp [← HSE.out]
   obtain ⟨q, o, rfl, hq, hc⟩ := Inn.at_ (HSS.out.below hlow) hkn
   have a0 : wl.cell? ⟨q, o + k * 6, none⟩ = some (bstr sp[k].1.nm) := hc 0 _ ((flatM_at stV 6 (fun _ => rfl) hkl (by omega)).trans rfl)
   have a1 : wl.cell? ⟨q, o + k * 6 + 1, none⟩ = some (.int .i64 sp[k].1.kd) := hc 1 _ ((flatM_at stV 6 (fun _ => rfl) hkl (by omega)).trans rfl)
   have a2 : wl.cell? ⟨q, o + k * 6 + 2, none⟩ = some (.int .i64 sp[k].1.dp) := hc 2 _ ((flatM_at stV 6 (fun _ => rfl) hkl (by omega)).trans rfl)
   have a3 : wl.cell? ⟨q, o + k * 6 + 3, none⟩ = some (bstr sp[k].1.ini) := hc 3 _ ((flatM_at stV 6 (fun _ => rfl) hkl (by omega)).trans rfl)
   have a4 : wl.cell? ⟨q, o + k * 6 + 4, none⟩ = some sp[k].2.1 := hc 4 _ ((flatM_at stV 6 (fun _ => rfl) hkl (by omega)).trans rfl)
   have a5 : wl.cell? ⟨q, o + k * 6 + 5, none⟩ = some sp[k].2.2 := hc 5 _ ((flatM_at stV 6 (fun _ => rfl) hkl (by omega)).trans rfl)
   have HZ := Lib.hid (HSZ.out _ (List.getElem_mem hkl)); have HD := Lib.hid (HSD.out _ (List.getElem_mem hkl))
   have HDR : Hid (ss.drop k = sp[k].1 :: ss.drop (k + 1)) := by show _ = _; rw [← hsk]; exact List.drop_eq_getElem_cons hks
   clear hc hlow hsk
   generalize sp[k] = p at *
   obtain ⟨⟨xn, xk, xd, xi, xe, xx⟩, ve, vx⟩ := p
   obtain ⟨Ae, ce, rfl⟩ : ∃ A c, ve = .slice A xe.length c := BlkR.form HD.out.1
   obtain ⟨Ax, cx, rfl⟩ : ∃ A c, vx = .slice A xx.length c := BlkR.form HD.out.2
   obtain ⟨X, hX, _⟩ := bstr_some xn
   obtain ⟨Y, hY, _⟩ := bstr_some xi
   simp only at a0 a1 a2 a3 a4 a5
   rw [hX] at a0
   rw [hY] at a3
   have HX := Lib.hid hX; have HY := Lib.hid hY
   clear hX hY
   go_wp2_with fail
   go_at_call 56
   have hal : ∀ o, Below wl.heap.size wl (wl.alloc o) := fun o => (Below.refl _ _).alloc (Nat.le_refl _) o
   have hlw := HI.out.1.low HLO.out HB0.out
   have hc : ∀ o, Calls Tryz.prog 56 #[.pointer (some ⟨b, 0, none⟩), .agg #[bstr xn, .int .i64 xk, .int .i64 xd, bstr xi, .slice Ae xe.length ce, .slice Ax xx.length cx]] (wl.alloc o) fun e w' => e = .returned (.tuple #[]) ∧ Wr b B w' (putS L ⟨xn, xk, xd, xi, xe, xx⟩) ∧ KeptB b B (wl.alloc o) w' ∧ KeptU b (wl.alloc o) w' := fun o => wstate_any (HI.out.1.wr.below (hal o)) HI.out.1.len (⟨xn, xk, xd, xi, xe, xx⟩, .slice Ae xe.length ce, .slice Ax xx.length cx) (hlw.trans ((hal o).mono hlw.size)) HB0.out HD.out HZ.out HE.out
   rw [HX.out, HY.out] at hc
   refine (hc _).mono ?_
   rintro e w5 ⟨rfl, h1, h2, h3⟩
   obtain ⟨D, hDD⟩ : ∃ D, D = wl.heap.size := ⟨_, rfl⟩
   have hDb : D ≠ b := by have := HI.out.1.wr.lt; have := HI.out.1.wr.le; omega
   have HDB := Lib.hid hDb
   obtain ⟨bx, hbx⟩ : ∃ bx : Array Value, bx = #[.string X, .int .i64 xk, .int .i64 xd, .string Y, .slice Ae xe.length ce, .slice Ax xx.length cx] := ⟨_, rfl⟩
   have hbox : w5.heap[D]? = some (.cells bx 67 (0, 0)) := h3 _ _ _ _ hDb (by decide) (by rw [hDD, hbx]; exact World.alloc_heap_new wl _)
   have h5 := HI.out.1.step h1 ((KeptB.of_below (hal _) HI.out.1.wr.le).trans h2) ((KeptU.of_below (hal _)).trans h3) (write_len HI.out.1.len _ (stC_ne ⟨xn, xk, xd, xi, xe, xx⟩) |> fun h => by rw [putS_is]; exact h)
   have HI5 : Hid (TrI b B w0 w2 w5 D bx tp r A cc (putS L ⟨xn, xk, xd, xi, xe, xx⟩)) := ⟨h5, HI.out.2.1, HI.out.2.2.1, HI.out.2.2.2.1, hbox⟩
   have hEq : writeC (putS L ⟨xn, xk, xd, xi, xe, xx⟩) ((trC (xd + 1) (k : Nat) (r.map Prod.fst)).1 ++ bodyC (k + 1) (ss.drop (k + 1)) (trC (xd + 1) (k : Nat) (r.map Prod.fst)).2) = R := by
    have := HI.out.2.2.2.2
    rw [HDR.out] at this
    rw [putS_is, ← writeC_append, ← List.append_assoc]
    exact this
   have HEQ := Lib.hid hEq
   have HBX := Lib.hid hbx
   have HDZ : Hid (I64 xd) := HZ.out.dp
   rw [← hDD]
   clear h1 h2 h3 hc hal hlw hDb hbox h5 hEq hbx hDD a0 a1 a2 a3 a4 a5
   go_wp2
   go_loopw [4] (fun x4 wr => ∃ (L' : List UInt8) (r' : List TP) (A' : Option Addr) (c' : Nat), x4 = .slice A' r'.length c' ∧ Hid (TrI b B w0 w2 wr D bx tp r' A' c' L') ∧ Hid (writeC L' ((trC (xd + 1) (k : Nat) (r'.map Prod.fst)).1 ++ bodyC (k + 1) (ss.drop (k + 1)) (trC (xd + 1) (k : Nat) (r'.map Prod.fst)).2) = R)) (fun x _ => lenS x)
   case atStart => exact ⟨_, r, A, cc, rfl, HI5, HEQ⟩
   case round =>
    obtain ⟨L', r', A', c', rfl, HT, HQ⟩ := hrel
    obtain ⟨wm, hwm⟩ : ∃ W, W = wr := ⟨_, rfl⟩
    subst hwm
    clear HI5 HEQ HI
    cases r' with
    | nil =>
     have HQ2 : Hid (writeC L' (bodyC (k + 1) (ss.drop (k + 1)) (([] : List TP).map Prod.fst)) = R) := HQ.out
     clear HQ
     go_wp2
     go_roundw
     case rel => exact ⟨⟨trivial, trivial⟩, k + 1, L', [], A', c', by omega, by go_num, rfl, ⟨HT.out.ws, HT.out.lf, HT.out.mem, HT.out.len, HQ2.out⟩⟩
     case measure => simp [intOf]; omega
    | cons p q =>
     have hlm := HT.out.ws.low HLO.out HB0.out
     obtain ⟨g, o, rfl, hn, hnc, hg, hcell, hl1, hl2⟩ := HT.out.lf.tail
     have hq63 : q.length + 1 ≤ tp.length := by have := HT.out.len; simpa using this
     have HP := Lib.hid (HTD.out p (HT.out.mem p (by simp)))
     have HPZ := Lib.hid (HTZ.out p (HT.out.mem p (by simp)))
     obtain ⟨⟨fr, ev, gd, tt, ac⟩, gv, av⟩ := p
     obtain ⟨XE, hXE, _⟩ := bstr_some ev
     obtain ⟨XT, hXT, _⟩ := bstr_some tt
     have a0 : wm.cell? ⟨g, o, none⟩ = some (.int .i64 fr) := (Below.cell hlm (p := ⟨g, o, none⟩) hg).trans (by simpa using hcell 0 (.int .i64 fr) rfl)
     have a1 : wm.cell? ⟨g, o + 1, none⟩ = some (.string XE) := (Below.cell hlm (p := ⟨g, o + 1, none⟩) hg).trans (by rw [← hXE]; exact hcell 1 _ rfl)
     have a2 : wm.cell? ⟨g, o + 2, none⟩ = some gv := (Below.cell hlm (p := ⟨g, o + 2, none⟩) hg).trans (hcell 2 _ rfl)
     have a3 : wm.cell? ⟨g, o + 3, none⟩ = some (.string XT) := (Below.cell hlm (p := ⟨g, o + 3, none⟩) hg).trans (by rw [← hXT]; exact hcell 3 _ rfl)
     have a4 : wm.cell? ⟨g, o + 4, none⟩ = some av := (Below.cell hlm (p := ⟨g, o + 4, none⟩) hg).trans (hcell 4 _ rfl)
     obtain ⟨Ag, cg, hgv⟩ : ∃ A c, gv = .slice A gd.length c := HP.out.1.1.slice
     obtain ⟨Aa, ca, hav⟩ : ∃ A c, av = .slice A ac.length c := BlkR.form HP.out.2
     subst hgv
     subst hav
     have hbx := HT.out.box
     rw [HBX.out] at hbx
     have d2 : wm.cell? ⟨D, 2, none⟩ = some (.int .i64 xd) := by simp [World.cell?, hbx]
     have HXE := Lib.hid hXE; have HXT := Lib.hid hXT; have HL1 := Lib.hid hl1; have HL2 := Lib.hid hl2
     have HLM := Lib.hid hlm
     have hc1 : 1 ≤ c' := by omega
     clear hcell hl1 hl2 hXE hXT hlm hbx hn hg
     rw [List.length_cons] at hnc ⊢
     by_cases hfr : fr = (k : Nat)
     ·subst hfr
      have hcl : Calls Tryz.prog 57 #[.pointer (some ⟨b, 0, none⟩), (.int .i64 (wrap64 (xd + 1))), .agg #[.int .i64 (k : Nat), .string XE, .slice Ag gd.length cg, .string XT, .slice Aa ac.length ca]] wm.drew fun e w' => e = .returned (.tuple #[]) ∧ Wr b B w' (putL L' (xd + 1) (onL ⟨(k : Nat), ev, gd, tt, ac⟩)) ∧ KeptB b B wm.drew w' ∧ KeptU b wm.drew w' := by
       have hdw : Below wm.heap.size wm wm.drew := Below.drew (Below.refl _ _)
       have h := on_any (HT.out.ws.wr.below hdw) HT.out.ws.len (IntKind.i64.wrap (xd + 1)) (⟨(k : Nat), ev, gd, tt, ac⟩, .slice Ag gd.length cg, .slice Aa ac.length ca) (HP.out.below (HLM.out.trans (hdw.mono HLM.out.size))) HPZ.out (HE.out.below (HLM.out.trans (hdw.mono HLM.out.size)))
       rw [putL_wrap HDZ.out, IntWalk.i64_left] at h
       rw [← HXE.out, ← HXT.out]
       exact h
      have HCL := Lib.hid hcl
      clear hcl
      have hk0 : (((k : Nat) : Int) == ((k : Nat) : Int)) = true := beq_self_eq_true _
      have p0 : (0 : Int) < (q.length : Int) + 1 := by omega
      go_upto_region 7 with fail
      refine wp_region_tail 7 (by kernel_rfl) (by kernel_rfl) ?_
      simp only [List.take_succ_cons, List.take_zero, List.drop_succ_cons, List.drop_zero]
      repeat still_step
      refine wpStill_nil ?_
      have HQ2 : Hid (writeC (putL L' (xd + 1) (onL ⟨(k : Nat), ev, gd, tt, ac⟩)) ((trC (xd + 1) (k : Nat) (q.map Prod.fst)).1 ++ bodyC (k + 1) (ss.drop (k + 1)) (trC (xd + 1) (k : Nat) (q.map Prod.fst)).2) = R) := by
       have := HQ.out
       obtain ⟨e1, e2⟩ := write_tr (xd + 1) (k : Nat) L' ⟨(k : Nat), ev, gd, tt, ac⟩ (q.map Prod.fst) rfl
       rw [List.map_cons, e1, writeC_append, e2, ← writeC_append] at this
       exact this
      have H6 : Hid (∀ (w6 : World), Wr b B w6 (putL L' (xd + 1) (onL ⟨(k : Nat), ev, gd, tt, ac⟩)) → KeptB b B wm.drew w6 → KeptU b wm.drew w6 → ∀ A' c'', Lf w0 (.slice A' q.length c'') q → TrI b B w0 w2 w6 D bx tp q A' c'' (putL L' (xd + 1) (onL ⟨(k : Nat), ev, gd, tt, ac⟩))) := fun w6 h1 h2 h3 A' c'' hl => HT.out.step HDB.out h1 ((KeptB.of_below (Below.drew (Below.refl _ _)) HT.out.ws.wr.le).trans h2) ((KeptU.of_below (Below.drew (Below.refl _ _))).trans h3) (putL_len HT.out.ws.len _ (onL_ne _)) hl
      clear HQ
      go_wp2_with fail
      go_at_call 57
      refine HCL.out.mono ?_
      rintro e w6 ⟨rfl, h1, h2, h3⟩
      have H7 := Lib.hid (H6.out w6 h1 h2 h3)
      clear h1 h2 h3 a0 a1 a2 a3 a4 d2
      go_wp2
      constructor
      ·by_cases h1 : c' = 1
       ·subst h1
        rw [if_pos rfl]
        exact ⟨_, q, _, 0, rfl, Lib.hid (H7.out _ _ (HL2.out rfl)), HQ2⟩
       ·rw [if_neg h1]
        exact ⟨_, q, _, c' - 1, rfl, Lib.hid (H7.out _ _ HL1.out), HQ2⟩
      ·show q.length < q.length + 1
       omega
     ·have hne : (fr == (k : Int)) = false := beq_eq_false_iff_ne.2 hfr
      have hno := write_no (xd + 1) (k : Nat) ⟨fr, ev, gd, tt, ac⟩ (q.map Prod.fst) hfr
      have HQ2 : Hid (writeC L' (bodyC (k + 1) (ss.drop (k + 1)) (((⟨fr, ev, gd, tt, ac⟩, .slice Ag gd.length cg, .slice Aa ac.length ca) :: q).map Prod.fst)) = R) := by
       have := HQ.out
       rw [List.map_cons, hno] at this
       exact this
      clear hno HQ hfr
      go_wp2
      go_roundw
      case rel => exact ⟨⟨trivial, trivial⟩, k + 1, L', (⟨fr, ev, gd, tt, ac⟩, .slice Ag gd.length cg, .slice Aa ac.length ca) :: q, _, c', by omega, by go_num, rfl, ⟨HT.out.ws, HT.out.lf, HT.out.mem, HT.out.len, HQ2.out⟩⟩
      case measure => simp [intOf]; omega
  ·have hkn2 : k = ns := by omega
   subst hkn2
   clear hlow
   go_wp2
   go_end0
   refine ⟨rfl, ?_⟩
   have hd : ss.drop k = [] := List.drop_of_length_le (by rw [← HSE.out, List.length_map, HNS.out]; exact Nat.le_refl _)
   have := HI.out.2.2.2.2
   rw [hd] at this
   have e : L = R := this
   show WS b B w _ (writeC l (bodyC 0 ss ts))
   rw [HR.out, ← e]
   exact HI.out.1.from_ HB2.out HLE
end Go.Proofs.YtdelihhbmagphaaGreatDoor.Ch
namespace Go.Proofs.YtdelihhbmagphaaGreatDoor.Ch
open Go.RowKit
def showC (c : CH) : List UInt8 × Int := if parseC (textC c) = (c, 0, 0) then (textC c, 0) else ([], 1)
structure ChZ (c : CH) : Prop where
 nm : c.nm.length ≤ 140737488355328
 es : ∀ e ∈ c.es, e.length ≤ 140737488355328
 vs : ∀ v ∈ c.vs, VaZ v
 ss : ∀ s ∈ c.ss, StZ s
 ts : ∀ t ∈ c.ts, TrZ t
theorem run_ok : ∀ (ls : List (List UInt8)) (c : CH) (k : Nat), (runC c k ls).2.2 = 0 → (runC c k ls).2.1 = 0
 | [], _, _, _ => rfl
 | l :: r, c, k, h => by
  unfold runC at h ⊢
  cases hl : lineC c l with
  | none => rw [hl] at h; cases h
  | some c2 => rw [hl] at h; exact run_ok r c2 (k + 1) h
theorem parse_ok {l : List UInt8} (h : (parseC l).2.2 = 0) : (parseC l).2.1 = 0 := by
 unfold parseC at h ⊢
 split
 ·rfl
 ·rename_i h1
  rw [if_neg h1] at h
  split
  ·rename_i h2; rw [if_pos h2] at h; cases h
  ·rename_i h2; rw [if_neg h2] at h; exact run_ok _ _ _ h
theorem showC_yes {c : CH} (h0 : (parseC (textC c)).2.2 = 0) (h : (parseC (textC c)).1 = c) : showC c = (textC c, 0) := by
 unfold showC
 rw [if_pos]
 have h1 := parse_ok h0
 exact Prod.ext h (Prod.ext h1 h0)
theorem showC_no {c : CH} (h : (parseC (textC c)).2.2 ≠ 0 ∨ (parseC (textC c)).1 ≠ c) : showC c = ([], 1) := by
 unfold showC
 rw [if_neg]
 intro e
 rcases h with h | h
 ·exact h (by rw [e])
 ·exact h (by rw [e])
theorem writer_zero (w : World) : Wr w.heap.size (w.heap.size + 1) (w.alloc (.cells #[.pointer none, .slice none 0 0] 78)) [] :=
 ⟨⟨_, _, Or.inl rfl, World.alloc_heap_new w _, World.ownsRow_nil _ _ _ _, fun _ => rfl⟩, Nat.lt_succ_self _, by simp⟩
set_option maxRecDepth 100000 in
set_option maxHeartbeats 8000000 in
theorem chartShow_any (c : CH) (eV vV sV tV : Value) (sp : List SP) (tp : List TP) (w : World) (hM : ChM w c eV vV sV tV sp tp) (hcap : ∃ A k, tV = .slice A tp.length k ∧ tp.length ≤ k) (hz : ChZ c) (hE : Env w) :
  Calls Tryz.prog 13 #[.agg #[bstr c.nm, eV, vV, sV, tV]] w fun e w' => e = .returned (.tuple #[bstr (showC c).1, .int .i64 (showC c).2]) ∧ Below w.heap.size w w' := by
 have hssz : ∀ p ∈ sp, StZ p.1 := fun p hp => hz.ss _ (by rw [← hM.ssE]; exact List.mem_map_of_mem hp)
 have htsz : ∀ p ∈ tp, TrZ p.1 := fun p hp => hz.ts _ (by rw [← hM.tsE]; exact List.mem_map_of_mem hp)
 obtain ⟨N, hN, _⟩ := bstr_some c.nm
 rw [hN]
 obtain ⟨w1, hw1⟩ : ∃ W, W = w.alloc (.cells #[.string N, eV, vV, sV, tV] 27) := ⟨_, rfl⟩
 have hb1 : Below w.heap.size w w1 := hw1 ▸ (Below.refl _ _).alloc (Nat.le_refl _) _
 have hs1 : w1.heap.size = w.heap.size + 1 := by rw [hw1]; simp
 obtain ⟨w2, hw2⟩ : ∃ W, W = w1.alloc (.cells #[.pointer none, .slice none 0 0] 78) := ⟨_, rfl⟩
 have hWr := writer_zero w1
 rw [← hw2, hs1] at hWr
 have hb2 : Below w1.heap.size w1 w2 := hw2 ▸ (Below.refl _ _).alloc (Nat.le_refl _) _
 have hb12 : Below w.heap.size w w2 := hb1.trans (hb2.mono hb1.size)
 have hM1 := hM.below hb1
 have hE1 := hE.below hb1
 have r1 : w1.heap[w.heap.size]? = some (.cells #[.string N, eV, vV, sV, tV] 27 (0, 0)) := by rw [hw1]; exact World.alloc_heap_new w _
 have r2 : w2.heap[w.heap.size]? = some (.cells #[.string N, eV, vV, sV, tV] 27 (0, 0)) := (hb2.block _ (by omega)).trans r1
 have hle : w1.heap.size ≤ w.heap.size + 1 := by omega
 have HHD := Lib.hid (head_any hWr (by simp) c eV vV sV tV sp tp hM1 hb2 hle hz.nm hz.es hz.vs hE1)
 have HBD : Hid (∀ wb, WS (w.heap.size + 1) (w.heap.size + 1 + 1) w2 wb (writeC [] (headC c)) → Calls Tryz.prog 26 #[.pointer (some ⟨w.heap.size + 1, 0, none⟩), .agg #[.string N, eV, vV, sV, tV]] wb fun e w' => e = .returned (.tuple #[]) ∧ WS (w.heap.size + 1) (w.heap.size + 1 + 1) wb w' (textC c)) := fun wb hS => by
  have h := body_any hS.wr hS.len c eV vV sV tV sp tp hM1 hcap (hS.low hb2 hle) hle hssz htsz hE1
  rw [hN, ← writeC_append] at h
  exact h
 rw [hN] at HHD
 have HM := Lib.hid hM; have HE := Lib.hid hE; have HB12 := Lib.hid hb12; have HR2 := Lib.hid r2
 have HW1 := Lib.hid hw1; have HW2 := Lib.hid hw2; have HN := Lib.hid hN
 have HLO : Hid (∀ wx l, WS (w.heap.size + 1) (w.heap.size + 1 + 1) w2 wx l → Below w.heap.size w wx) := fun wx l hS => hS.low hb12 (by omega)
 have HCL : Hid (∀ wx : World, wx.heap[w.heap.size]? = some (.cells #[.string N, eV, vV, sV, tV] 27 (0, 0)) → wx.cell? ⟨w.heap.size, 0, none⟩ = some (.string N) ∧ wx.cell? ⟨w.heap.size, 1, none⟩ = some eV ∧ wx.cell? ⟨w.heap.size, 2, none⟩ = some vV ∧ wx.cell? ⟨w.heap.size, 3, none⟩ = some sV ∧ wx.cell? ⟨w.heap.size, 4, none⟩ = some tV) := fun wx h => by simp [World.cell?, h]
 obtain ⟨c0, c1, c2, c3, c4⟩ := HCL.out _ r2
 clear hM hcap hz hE hssz htsz hN hw1 hb1 hw2 hWr hb2 hb12 hM1 hE1 r1 r2 hle
 go_enter Tryz.func13, Tryz.ntmps13
 go_upto_region 2 with fail
 rw [← HW1.out, ← HW2.out]
 go_wp2_with fail
 go_at_call 25
 refine HHD.out.mono ?_
 rintro e wb ⟨rfl, hS⟩
 have HS1 := Lib.hid hS
 obtain ⟨d0, d1, d2, d3, d4⟩ := HCL.out _ (hS.ku _ _ _ _ (by omega) (by decide) HR2.out)
 clear hS c0 c1 c2 c3 c4
 go_wp2_with fail
 go_at_call 26
 refine (HBD.out _ HS1.out).mono ?_
 rintro e wc ⟨rfl, hS2⟩
 have HS := Lib.hid (HS1.out.step hS2.wr hS2.kb hS2.ku hS2.len)
 clear hS2 d0 d1 d2 d3 d4 HS1
 go_wp2_with fail
 go_at_call 27
 refine (text_any HS.out.wr).mono ?_
 rintro e wd ⟨rfl, hbd⟩
 have hrd := (hbd.block w.heap.size (by omega)).trans (HS.out.ku _ _ _ _ (by omega) (by decide) HR2.out)
 have hbw := (HLO.out _ _ HS.out).trans (hbd.mono (by omega))
 have HRD := Lib.hid hrd; have HBW := Lib.hid hbw
 have HED := Lib.hid (HE.out.below hbw)
 obtain ⟨d0, d1, d2, d3, d4⟩ := HCL.out _ hrd
 clear hbd hrd hbw
 go_wp2_with fail
 go_at_call 8
 refine (parse_any _ wd HED.out).mono ?_
 rintro e we ⟨⟨e2, v2, s2, t2, sp2, tp2, rfl, hO⟩, hbe⟩
 have hdl : (⟨(textC c).toArray⟩ : ByteArray).data.toList = textC c := rfl
 rw [hdl] at hO ⊢
 obtain ⟨q, hq⟩ : ∃ q, parseC (textC c) = q := ⟨_, rfl⟩
 rw [hq] at hO ⊢
 have HQ := Lib.hid hq; have HO := Lib.hid hO.read
 have HRE := Lib.hid ((hbe.block _ (lt_of_heap HRD.out)).trans HRD.out)
 have HBE := Lib.hid (HBW.out.trans (hbe.mono HBW.out.size))
 obtain ⟨qc, qn, qe⟩ := q
 obtain ⟨M, hM, _⟩ := bstr_some qc.nm
 obtain ⟨d0, d1, d2, d3, d4⟩ := HCL.out _ HRE.out
 have hlt : w.heap.size < we.heap.size := lt_of_heap HRE.out
 simp only at HO
 obtain ⟨Ae2, ce2, rfl⟩ := Inn.form HO.out.es
 obtain ⟨Av2, cv2, rfl⟩ := Inn.form HO.out.vs
 obtain ⟨As2, cs2, rfl⟩ := Inn.form HO.out.ss
 obtain ⟨At2, ct2, rfl⟩ := Inn.form HO.out.ts
 rw [hM]
 have HMM := Lib.hid hM
 clear hO hq hbe hdl hM
 by_cases he : qe = 0
 ·subst he
  have hal : ∀ o, Below we.heap.size we (we.alloc o) := fun o => (Below.refl _ _).alloc (Nat.le_refl _) o
  have HSM : Hid (∀ o, Calls Tryz.prog 28 #[.agg #[.string M, .slice Ae2 qc.es.length ce2, .slice Av2 qc.vs.length cv2, .slice As2 sp2.length cs2, .slice At2 tp2.length ct2], .agg #[.string N, eV, vV, sV, tV]] (we.alloc o) fun e w' => e = .returned (.bool (decide (qc = c))) ∧ Below (we.alloc o).heap.size (we.alloc o) w') := fun o => by
   have h := same_any qc c _ _ _ _ eV vV sV tV sp2 sp tp2 tp (we.alloc o) (HO.out.below (hal o)) (HM.out.below (HBE.out.trans ((hal o).mono HBE.out.size)))
   rw [HMM.out, HN.out] at h
   exact h
  have HAL := Lib.hid hal
  clear hal
  by_cases hc : qc = c
  ·have hd : decide (qc = c) = true := decide_eq_true hc
   rw [hd] at HSM
   have HF := Lib.hid (showC_yes (c := c) (by rw [HQ.out]) (by rw [HQ.out]; exact hc))
   clear hc hd
   go_wp2_with (go_at_call 28; refine (HSM.out _).mono ?_; rintro e wf ⟨rfl, hbf⟩)
   go_ret2
   refine ⟨?_, (HBE.out.trans ((HAL.out _).mono HBE.out.size)).trans (hbf.mono (by have := HBE.out.size; simp; omega))⟩
   rw [HF.out]; rfl
  ·have hd : decide (qc = c) = false := decide_eq_false hc
   rw [hd] at HSM
   have HF := Lib.hid (showC_no (c := c) (Or.inr (by rw [HQ.out]; exact hc)))
   clear hc hd
   go_wp2_with (go_at_call 28; refine (HSM.out _).mono ?_; rintro e wf ⟨rfl, hbf⟩)
   go_ret2
   refine ⟨?_, (HBE.out.trans ((HAL.out _).mono HBE.out.size)).trans (hbf.mono (by have := HBE.out.size; simp; omega))⟩
   rw [HF.out]; rfl
 ·have hen : (qe == 0) = false := beq_eq_false_iff_ne.2 he
  have hen2 : (qe != 0) = true := bne_iff_ne.2 he
  have HF := Lib.hid (showC_no (c := c) (Or.inl (by rw [HQ.out]; exact he)))
  have HAL : Hid (∀ o, Below we.heap.size we (we.alloc o)) := fun o => (Below.refl _ _).alloc (Nat.le_refl _) o
  clear he
  go_wp2
  go_ret2
  refine ⟨?_, HBE.out.trans ((HAL.out _).mono HBE.out.size)⟩
  rw [HF.out]; rfl
end Go.Proofs.YtdelihhbmagphaaGreatDoor.Ch
namespace Go.Proofs.YtdelihhbmagphaaGreatDoor.Ch
open Go.RowKit
def exC : CH := ⟨[99], [], [], [⟨[114], 2, 0, [97], [], []⟩, ⟨[97], 1, 1, [], [], []⟩], [⟨1, [103, 111], [], [], []⟩]⟩
theorem ex_parse : parseC [99, 104, 97, 114, 116, 32, 99, 10, 111, 110, 101, 32, 114, 32, 97, 10, 32, 98, 97, 115, 105, 99, 32, 97, 10, 32, 32, 111, 110, 32, 103, 111, 32, 45, 32, 45, 32, 45, 10] = (exC, 0, 0) := by decide +kernel
theorem ex_fault : parseC [99, 104, 97, 114, 116, 32, 99, 10, 32, 98, 97, 115, 105, 99, 32, 97] = (noCH, 2, 1) := by decide +kernel
theorem ex_text : textC exC = [99, 104, 97, 114, 116, 32, 99, 10, 111, 110, 101, 32, 114, 32, 97, 10, 32, 98, 97, 115, 105, 99, 32, 97, 10, 32, 32, 111, 110, 32, 103, 111, 32, 45, 32, 45, 32, 45, 10] := by decide +kernel
theorem ex_show : showC exC = ([99, 104, 97, 114, 116, 32, 99, 10, 111, 110, 101, 32, 114, 32, 97, 10, 32, 98, 97, 115, 105, 99, 32, 97, 10, 32, 32, 111, 110, 32, 103, 111, 32, 45, 32, 45, 32, 45, 10], 0) := by
 unfold showC
 rw [ex_text, if_pos ex_parse]
theorem ex_z : ChZ exC := by
 refine ⟨by decide, fun e he => (by cases he), fun v hv => (by cases hv), fun s hs => ?_, fun t ht => ?_⟩
 ·simp only [exC, List.mem_cons, List.not_mem_nil, or_false] at hs
  rcases hs with rfl | rfl
  ·exact ⟨by decide, by decide, by constructor <;> decide, by decide, by decide, by decide, by decide⟩
  ·exact ⟨by decide, by decide, by constructor <;> decide, by decide, by decide, by decide, by decide⟩
 ·simp only [exC, List.mem_cons, List.not_mem_nil, or_false] at ht
  subst ht
  exact ⟨by decide, by decide, by decide, by decide +kernel, by decide +kernel⟩
theorem own_cap {w : World} {base : Nat} {e : TypeId} {size n : Nat} {v : Value} {xs : List Value} (h : w.ownsRow base e size v n xs) : ∃ A k, v = .slice A n k ∧ n ≤ k := by
 rcases own_form h with ⟨rfl, rfl⟩ | ⟨g, cap, rfl, h1, h2⟩
 ·exact ⟨_, _, rfl, Nat.le_refl _⟩
 ·exact ⟨_, _, rfl, h1⟩
set_option maxRecDepth 100000 in
set_option maxHeartbeats 8000000 in
theorem wakes8_any (w : World) (hE : Env w) :
  Calls Tryz.prog 10 #[] w fun e w' => e = .returned (.bool true) ∧ Below w.heap.size w w' := by
 have HP := Lib.hid (parse_any ⟨#[99, 104, 97, 114, 116, 32, 99, 10, 111, 110, 101, 32, 114, 32, 97, 10, 32, 98, 97, 115, 105, 99, 32, 97, 10, 32, 32, 111, 110, 32, 103, 111, 32, 45, 32, 45, 32, 45, 10]⟩ w hE)
 have HE := Lib.hid hE
 clear hE
 go_enter Tryz.func10, Tryz.ntmps10
 go_wp2_with fail
 go_at_call 8
 refine HP.out.mono ?_
 rintro e w1 ⟨⟨eV, vV, sV, tV, sp, tp, rfl, hO⟩, hb1⟩
 rw [show parseC (ByteArray.mk #[99, 104, 97, 114, 116, 32, 99, 10, 111, 110, 101, 32, 114, 32, 97, 10, 32, 98, 97, 115, 105, 99, 32, 97, 10, 32, 32, 111, 110, 32, 103, 111, 32, 45, 32, 45, 32, 45, 10]).data.toList = (exC, 0, 0) from ex_parse] at hO ⊢
 have hl1 : sp.length = 2 := by have := congrArg List.length hO.ssE; rw [List.length_map] at this; exact this
 have hl2 : tp.length = 1 := by have := congrArg List.length hO.tsE; rw [List.length_map] at this; exact this
 have HM := Lib.hid hO.read
 have hcap := own_cap hO.ts
 have HSH : Hid (∀ W, Below w1.heap.size w1 W → Calls Tryz.prog 13 #[.agg #[.string ⟨#[99]⟩, eV, vV, sV, tV]] W fun e w' => e = .returned (.tuple #[.string ⟨#[99, 104, 97, 114, 116, 32, 99, 10, 111, 110, 101, 32, 114, 32, 97, 10, 32, 98, 97, 115, 105, 99, 32, 97, 10, 32, 32, 111, 110, 32, 103, 111, 32, 45, 32, 45, 32, 45, 10]⟩, .int .i64 0]) ∧ Below W.heap.size W w') := fun W hW => by
  have h := chartShow_any exC eV vV sV tV sp tp W (HM.out.below hW) hcap ex_z (HE.out.below (hb1.trans (hW.mono hb1.size)))
  rw [ex_show] at h
  exact h
 have HB1 := Lib.hid hb1
 clear HP hb1 hcap
 obtain ⟨Ae, ce, rfl⟩ := Inn.form HM.out.es
 obtain ⟨Av, cv, rfl⟩ := Inn.form HM.out.vs
 obtain ⟨As, cs, rfl⟩ := Inn.form HM.out.ss
 obtain ⟨At, ct, rfl⟩ := Inn.form HM.out.ts
 have e1 : bstr exC.nm = .string ⟨#[99]⟩ := rfl
 have e2 : exC.es.length = 0 := rfl
 have e3 : exC.vs.length = 0 := rfl
 rw [hl1, hl2, e2, e3] at HSH
 rw [hl1, hl2, e1, e2, e3]
 have hal : Below w1.heap.size w1 (w1.alloc (.cells #[.string ⟨#[99]⟩, .slice Ae 0 ce, .slice Av 0 cv, .slice As 2 cs, .slice At 1 ct] 27)) := (Below.refl _ _).alloc (Nat.le_refl _) _
 have HSA := Lib.hid (HSH.out _ hal)
 obtain ⟨w2, hw2⟩ : ∃ W, W = w1.alloc (.cells #[.string ⟨#[99]⟩, .slice Ae 0 ce, .slice Av 0 cv, .slice As 2 cs, .slice At 1 ct] 27) := ⟨_, rfl⟩
 have hc : w2.cell? ⟨w1.heap.size, 3, none⟩ = some (.slice As 2 cs) ∧ w2.cell? ⟨w1.heap.size, 4, none⟩ = some (.slice At 1 ct) := by rw [hw2]; simp
 rw [← hw2] at HSA
 have hb2 := HB1.out.trans (hal.mono HB1.out.size)
 rw [← hw2] at hb2
 have HB2 := Lib.hid hb2; have HC := Lib.hid hc; have HW2 := Lib.hid hw2
 have hz2 : w1.heap.size < w2.heap.size := by rw [hw2]; simp
 have HZ2 := Lib.hid hz2
 clear hO hl1 hl2 e1 e2 e3 HM HSH hal hc hw2 hb2 hz2
 go_wp2_with fail
 go_at_call 13
 rw [← HW2.out]
 refine HSA.out.mono ?_
 rintro e w3 ⟨rfl, hb3⟩
 obtain ⟨c3, c4⟩ := HC.out
 replace c3 := (hb3.cell (show w1.heap.size < w2.heap.size from HZ2.out)).trans c3
 replace c4 := (hb3.cell (show w1.heap.size < w2.heap.size from HZ2.out)).trans c4
 have hlt : w1.heap.size < w3.heap.size := Nat.lt_of_lt_of_le HZ2.out hb3.size
 have HB3 := Lib.hid (HB2.out.trans (hb3.mono HB2.out.size))
 have HP2 := Lib.hid (parse_any ⟨#[99, 104, 97, 114, 116, 32, 99, 10, 32, 98, 97, 115, 105, 99, 32, 97]⟩ w3 (HE.out.below HB3.out))
 clear hb3 HSA
 go_wp2_with fail
 go_at_call 8
 refine HP2.out.mono ?_
 rintro e w4 ⟨⟨e5, v5, s5, t5, sp5, tp5, rfl, hO⟩, hb4⟩
 rw [show parseC (ByteArray.mk #[99, 104, 97, 114, 116, 32, 99, 10, 32, 98, 97, 115, 105, 99, 32, 97]).data.toList = (noCH, 2, 1) from ex_fault] at hO ⊢
 obtain ⟨A5, k5, rfl⟩ := Inn.form hO.read.es
 obtain ⟨A6, k6, rfl⟩ := Inn.form hO.read.vs
 obtain ⟨A7, k7, rfl⟩ := Inn.form hO.read.ss
 obtain ⟨A8, k8, rfl⟩ := Inn.form hO.read.ts
 have e1 : bstr noCH.nm = .string ⟨#[]⟩ := rfl
 rw [e1]
 replace c3 := (hb4.cell (show w1.heap.size < w3.heap.size from hlt)).trans c3
 replace c4 := (hb4.cell (show w1.heap.size < w3.heap.size from hlt)).trans c4
 have hlt4 : w1.heap.size < w4.heap.size := Nat.lt_of_lt_of_le hlt hb4.size
 have HB4 := Lib.hid (HB3.out.trans (hb4.mono HB3.out.size))
 have HAL : Hid (∀ o, Below w4.heap.size w4 (w4.alloc o)) := fun o => (Below.refl _ _).alloc (Nat.le_refl _) o
 clear hO hb4 hlt e1 HP2
 go_wp2
 go_ret
 exact ⟨rfl, HB4.out.trans ((HAL.out _).mono HB4.out.size)⟩
end Go.Proofs.YtdelihhbmagphaaGreatDoor.Ch
namespace Go.Proofs.YtdelihhbmagphaaGreatDoor.Ch
open Go.RowKit
theorem parse_form (s : ByteArray) (w : World) (hE : Env w) : Calls Tryz.prog 8 #[.string s] w fun e w' => ∃ (N : ByteArray) (A1 A2 A3 A4 : Option Addr) (n1 n2 n3 n4 c1 c2 c3 c4 : Nat) (sp : List SP) (tp : List TP), e = .returned (.tuple #[.agg #[.string N, .slice A1 n1 c1, .slice A2 n2 c2, .slice A3 n3 c3, .slice A4 n4 c4], .int .i64 (parseC s.data.toList).2.1, .int .i64 (parseC s.data.toList).2.2]) ∧ Below w.heap.size w w' ∧ bstr (parseC s.data.toList).1.nm = .string N ∧ ChO w.heap.size w' (parseC s.data.toList).1 (.slice A1 n1 c1) (.slice A2 n2 c2) (.slice A3 n3 c3) (.slice A4 n4 c4) sp tp ∧ n4 = tp.length ∧ n4 ≤ c4 := by
 refine (parse_any s w hE).mono ?_
 rintro e w' ⟨⟨eV, vV, sV, tV, sp, tp, rfl, hO⟩, hb⟩
 obtain ⟨N, hN, _⟩ := bstr_some (parseC s.data.toList).1.nm
 obtain ⟨A1, c1, rfl⟩ := own_slice hO.es
 obtain ⟨A2, c2, rfl⟩ := own_slice hO.vs
 obtain ⟨A3, c3, rfl⟩ := own_slice hO.ss
 obtain ⟨A4, c4, e4, hc⟩ := own_cap hO.ts
 subst e4
 exact ⟨N, A1, A2, A3, A4, _, _, _, _, c1, c2, c3, c4, sp, tp, by rw [hN], hb, hN, hO, rfl, hc⟩
end Go.Proofs.YtdelihhbmagphaaGreatDoor.Ch
