/- Own texts, joined: Ki, A15. -/
import Derived.Test.YtcnfcililiehlaaGreatDoorR3
import Derived.Test.YtcnfcililiehlaaGreatDoorR8
import Derived.Test.YtcnfcililiehlaaGreatDoorR17
namespace Go.Proofs.YtcnfcililiehlaaGreatDoor.Kd
open Go.RowKit
set_option maxRecDepth 100000 in
theorem kindsOf_any (v vv sv : Value) (cs : List CM) (vs : List VM) (ss : List (List UInt8)) (w : World) (hR : RdC w v cs) (hl : cs.length <= 4611686018427387904) (hV : RdV w vv vs) (hvl : vs.length <= 4611686018427387904) (hS : RdW w sv ss) (hsl : ss.length <= 4611686018427387904) :
 Calls Tryz.prog 239 #[v, vv, sv] w fun e w' => e = .returned (.tuple #[.int .i64 (kindP vs ss cs).1, .int .i64 (kindP vs ss cs).2]) /\ Below w.heap.size w w' := by
 cases hB : rightB cs with
 | true => exact kindsOf_right v vv sv cs vs ss w hR hB hV hvl hS hsl
 | false =>
  have hK : kindP vs ss cs = (0, 1) := by unfold kindP; rw [hB]; rfl
  have HRG := Lib.hid (right_any v cs w hR hl);have HBT := Lib.hid hB;rw [hK];obtain ⟨V, vc, rfl⟩ := hV.form;obtain ⟨S, sc, rfl⟩ := hS.form;obtain ⟨A, c, rfl, hr⟩ := hR;clear hr hV hS hB hK
  go_enter Tryz.func239, Tryz.ntmps239
  go_wp2_with fail
  refine HRG.out.mono ?_;rintro e w0 ⟨rfl, hb0⟩;rw [HBT.out];have HB0 := Lib.hid hb0; clear hb0;go_wp2;go_ret2;exact ⟨rfl, HB0.out⟩
theorem post_pos (t : T) : 1 <= (post t).length := by
 cases t <;> simp [post] <;> omega
theorem take_shift {cs pre l : List CM} {c : CM} {e : Nat} (he : e < cs.length) (h : cs.take (e + 1) = pre ++ (l ++ [c])) : cs[e] = c /\ cs.take e = pre ++ l /\ e = pre.length + l.length := by
 have hl := congrArg List.length h;simp at hl;have hlen : e = pre.length + l.length := by omega
 rw [List.take_succ_eq_append_getElem he, <- List.append_assoc] at h;have := List.append_inj h (by simp; omega);refine ⟨by simpa using this.2, this.1, hlen⟩
theorem right_formed {cs : List CM} (h : rightB cs = true) : ∀ c ∈ cs, formedB c = true := by
 have key : ∀ (l : List CM) (v : Nat) (r : Nat), runB l v = some r -> ∀ c ∈ l, formedB c = true := by
  intro l
  induction l with
  | nil => intro _ _ _ c hc; cases hc
  | cons x r ih =>
   intro v k h c hc;unfold runB at h;split at h
   ·rename_i hx
    rcases List.mem_cons.1 hc with rfl | hc
    ·exact hx.1
    ·exact ih _ _ h c hc
   ·cases h
 unfold rightB at h;simp at h;exact key cs 0 1 h.2
theorem opsR_of {c : CM} {k : Nat} (h : formedB c = true) (hk : operN c.op = k) : opsR c = k := by rw [opsR_yes h, hk]
set_option maxRecDepth 100000 in
set_option maxHeartbeats 4000000 in
theorem refOf_rec (v vv sv : Value) (cs : List CM) (vs : List VM) (ss : List (List UInt8)) (hF : ∀ c ∈ cs, formedB c = true) (hl : cs.length <= 32) (hvl : vs.length <= 4611686018427387904) (hsl : ss.length <= 4611686018427387904) (t : T) : OkT t -> ∀ (pre : List CM) (e : Nat) (w : World), e < cs.length -> cs.take (e + 1) = pre ++ post t -> RdC w v cs -> RdV w vv vs -> RdW w sv ss ->
 Calls Tryz.prog 147 #[v, .int .i64 e, vv, sv] w fun x w' => x = .returned (.tuple #[.int .i64 (kT vs ss t).1, .int .i64 (kT vs ss t).2]) /\ Below w.heap.size w w' := by
 have HF := Lib.hid hF; clear hF
 induction t with
 | leaf c =>
  intro ht pre e w he htk hR hV hS;obtain ⟨hce, htk', hlen⟩ := take_shift (l := ([] : List CM)) he htk;have hfm := HF.out (cs[e]'he) (List.getElem_mem _);rw [hce] at hfm;have HV := Lib.hid hV; have HS := Lib.hid hS; have HR := Lib.hid hR;have hBX : ∀ o : Obj, Below w.heap.size w (w.alloc o) := fun o => (Below.refl _ _).alloc (Nat.le_refl _) o
  have HBX := Lib.hid hBX; clear hBX;obtain ⟨V, vc, rfl⟩ := hV.form;obtain ⟨S, sc, rfl⟩ := hS.form;obtain ⟨A, c0, rfl, hr⟩ := hR;obtain ⟨b, o', rfl, d0, d1, d2⟩ := hr e he;rw [hce] at d0 d1 d2;obtain ⟨X, hX, hXl⟩ := bstr_some c.nm;rw [hX] at d2;have hops := fun W => refOperands_any c W (by have := formed_name hfm; omega)
  rw [hX, opsR_of hfm ht.2] at hops;have HOP := Lib.hid hops;obtain ⟨n, hn⟩ : ∃ n, cs.length = n := ⟨_, rfl⟩
  have HN := Lib.hid hn;have hen : e < n := by omega
  have hn32 : n <= 32 := by omega
  clear hops hV hS hr hce;have hop : 1 <= c.op /\ c.op <= 6 := operN_zero ht.2;have hLF := fun W hV hS => refLeaf_any c.op c.a X (.slice V vs.length vc) (.slice S ss.length sc) vs ss W hop hV hvl hS hsl
  rw [hXl] at hLF;have HLF := Lib.hid hLF;rw [show kT vs ss (.leaf c) = leafK vs ss c from rfl];clear hLF htk htk' hlen ht hop hfm hX hXl;rw [hn];clear hn he
  go_enter Tryz.func147, Tryz.ntmps147
  go_wp2_with fail
  refine (HOP.out _).mono ?_;rintro x w1 ⟨rfl, hb1⟩;have HB1 := Lib.hid ((HBX.out _).trans (hb1.mono (HBX.out _).size));have hc0 := hb1.cell (p := ⟨w.heap.size, 0, none⟩) (by simp);have hc1 := hb1.cell (p := ⟨w.heap.size, 1, none⟩) (by simp);have hc2 := hb1.cell (p := ⟨w.heap.size, 2, none⟩) (by simp);clear hb1
  go_wp2_with fail
  refine (HLF.out _ (HV.out.below HB1.out) (HS.out.below HB1.out)).mono ?_;rintro x w2 ⟨rfl, hb2⟩;have HB2 := Lib.hid (HB1.out.trans (hb2.mono HB1.out.size));clear hb2;go_wp2;go_ret2;exact ⟨rfl, HB2.out⟩
 | un o t ih =>
  intro ht pre e w he htk hR hV hS;obtain ⟨hce, htk', hlen⟩ := take_shift (l := post t) he (show _ = _ ++ (post t ++ [opC o]) from htk);have hfm := HF.out (cs[e]'he) (List.getElem_mem _);rw [hce] at hfm;have HV := Lib.hid hV; have HS := Lib.hid hS; have HR := Lib.hid hR;have hBX : ∀ o : Obj, Below w.heap.size w (w.alloc o) := fun o => (Below.refl _ _).alloc (Nat.le_refl _) o
  have HBX := Lib.hid hBX; clear hBX;obtain ⟨V, vc, rfl⟩ := hV.form;obtain ⟨S, sc, rfl⟩ := hS.form;obtain ⟨A, c0, rfl, hr⟩ := hR;obtain ⟨b, o', rfl, d0, d1, d2⟩ := hr e he;rw [hce] at d0 d1 d2;obtain ⟨X, hX, hXl⟩ := bstr_some (opC o).nm;rw [hX] at d2;have hops := fun W => refOperands_any (opC o) W (by have := formed_name hfm; omega)
  rw [hX, opsR_of hfm (operN_un ⟨ht.1, ht.2.1⟩)] at hops;have HOP := Lib.hid hops;obtain ⟨n, hn⟩ : ∃ n, cs.length = n := ⟨_, rfl⟩
  have HN := Lib.hid hn;have hen : e < n := by omega
  have hn32 : n <= 32 := by omega
  clear hops hV hS hr hce;have hpp := post_pos t;have he1 : ((e - 1 : Nat) : Int) = (e : Int) - 1 := by omega
  have hih := fun W hR hV hS => ih ht.2.2 pre (e - 1) W (by omega) (by rw [show e - 1 + 1 = e by omega]; exact htk') hR hV hS
  rw [he1] at hih;have HIH := Lib.hid hih;have ho := ht.1;have ho2 := ht.2.1;have e1 : 1 <= e := by omega
  have ekt : kT vs ss (.un o t) = if (kT vs ss t).2 ≠ 0 then (0, (kT vs ss t).2) else errK (unK o (kT vs ss t).1) := rfl
  rw [ekt];have hrg := kT_range (vs := vs) (ss := ss) t;clear ekt hih ih he1 hpp htk htk' hlen ht hfm hX hXl;rw [hn] at he ⊢;rw [hn] at HIH HR;clear hn he;generalize kT vs ss t = p at *
  obtain ⟨k, er⟩ := p
  change Int at k er
  simp only at hrg HIH ⊢;rcases hrg with ⟨h0, hk⟩ | ⟨h0, hk⟩
  ·subst h0;rw [if_neg (by simp)];have hoo := op_un ⟨ho, ho2⟩
   change 7 <= o at ho
   rcases hoo with rfl | rfl | rfl | rfl <;> rcases kd_three hk with rfl | rfl | rfl
   all_goals
    go_enter Tryz.func147, Tryz.ntmps147
    go_wp2_with fail
    refine (HOP.out _).mono ?_;rintro x w1 ⟨rfl, hb1⟩;have HB1 := Lib.hid ((HBX.out _).trans (hb1.mono (HBX.out _).size));have hc0 := hb1.cell (p := ⟨w.heap.size, 0, none⟩) (by simp);have hc1 := hb1.cell (p := ⟨w.heap.size, 1, none⟩) (by simp);have hc2 := hb1.cell (p := ⟨w.heap.size, 2, none⟩) (by simp);have hz1 : w.heap.size + 1 <= w1.heap.size := by have := hb1.size; simp at this; omega
    clear hb1
    go_wp2_with fail
    refine (HIH.out _ (HR.out.below HB1.out) (HV.out.below HB1.out) (HS.out.below HB1.out)).mono ?_;rintro x w2 ⟨rfl, hb2⟩;have hd0 := (hb2.cell (p := ⟨w.heap.size, 0, none⟩) (by show w.heap.size < _; omega)).trans hc0;have HB2 := Lib.hid (HB1.out.trans (hb2.mono HB1.out.size));clear hb2;go_wp2;go_ret2;exact ⟨rfl, HB2.out⟩
  ·have h0' := bne_iff_ne.2 h0;rw [if_pos h0];clear h0
   go_enter Tryz.func147, Tryz.ntmps147
   go_wp2_with fail
   refine (HOP.out _).mono ?_;rintro x w1 ⟨rfl, hb1⟩;have HB1 := Lib.hid ((HBX.out _).trans (hb1.mono (HBX.out _).size));have hc0 := hb1.cell (p := ⟨w.heap.size, 0, none⟩) (by simp);have hc1 := hb1.cell (p := ⟨w.heap.size, 1, none⟩) (by simp);have hc2 := hb1.cell (p := ⟨w.heap.size, 2, none⟩) (by simp);have hz1 : w.heap.size + 1 <= w1.heap.size := by have := hb1.size; simp at this; omega
   clear hb1
   go_wp2_with fail
   refine (HIH.out _ (HR.out.below HB1.out) (HV.out.below HB1.out) (HS.out.below HB1.out)).mono ?_;rintro x w2 ⟨rfl, hb2⟩;have HB2 := Lib.hid (HB1.out.trans (hb2.mono HB1.out.size));clear hb2;go_wp2;go_ret2;exact ⟨rfl, HB2.out⟩
 | bin o l r ihl ihr =>
  intro ht pre e w he htk hR hV hS;obtain ⟨hce, htk', hlen⟩ := take_shift (l := (post l ++ post r)) he (show _ = _ ++ (post l ++ post r ++ [opC o]) from htk);have hfm := HF.out (cs[e]'he) (List.getElem_mem _);rw [hce] at hfm;have HV := Lib.hid hV; have HS := Lib.hid hS; have HR := Lib.hid hR;have hBX : ∀ o : Obj, Below w.heap.size w (w.alloc o) := fun o => (Below.refl _ _).alloc (Nat.le_refl _) o
  have HBX := Lib.hid hBX; clear hBX;obtain ⟨V, vc, rfl⟩ := hV.form;obtain ⟨S, sc, rfl⟩ := hS.form;obtain ⟨A, c0, rfl, hr⟩ := hR;obtain ⟨b, o', rfl, d0, d1, d2⟩ := hr e he;rw [hce] at d0 d1 d2;obtain ⟨X, hX, hXl⟩ := bstr_some (opC o).nm;rw [hX] at d2;have hops := fun W => refOperands_any (opC o) W (by have := formed_name hfm; omega)
  rw [hX, opsR_of hfm (operN_bin ⟨ht.1, ht.2.1⟩)] at hops;have HOP := Lib.hid hops;obtain ⟨n, hn⟩ : ∃ n, cs.length = n := ⟨_, rfl⟩
  have HN := Lib.hid hn;have hen : e < n := by omega
  have hn32 : n <= 32 := by omega
  clear hops hV hS hr hce;have hpl := post_pos l;have hpr := post_pos r;have hlen2 : e = pre.length + (post l).length + (post r).length := by rw [hlen, List.length_append]; omega
  obtain ⟨p, hp⟩ : ∃ p, p = pre.length + (post l).length := ⟨_, rfl⟩
  have hpe : p + (post r).length = e := by omega
  have he1 : ((e - 1 : Nat) : Int) = (e : Int) - 1 := by omega
  have hp1 : ((p - 1 : Nat) : Int) = (p : Int) - 1 := by omega
  have htk2 : cs.take (e - 1 + 1) = pre ++ (post l ++ post r) := by rw [show e - 1 + 1 = e by omega]; exact htk'
  have htp : cs.take (p - 1 + 1) = pre ++ post l := by
   have h1 := congrArg (List.take p) htk';rw [List.take_take, Nat.min_eq_left (by omega), <- List.append_assoc, List.take_left' (by rw [List.length_append]; exact hp.symm)] at h1;rw [show p - 1 + 1 = p by omega]; exact h1
  have hbg : begN (cs.take (e - 1 + 1)).reverse 1 = e - 1 + 1 - p := by
   rw [htk2, <- List.append_assoc, List.reverse_append, beg_tree ht.2.2.2, if_pos rfl]; omega
  have HBG := Lib.hid (fun W hR => begin_any (.slice (some ⟨b, o', none⟩) cs.length c0) cs W hR HF.out hl p (e - 1) (by omega) (by omega) hbg);have hih := fun W hR hV hS => ihr ht.2.2.2 (pre ++ post l) (e - 1) W (by omega) (by rw [htk2, List.append_assoc]) hR hV hS
  have hih2 := fun W hR hV hS => ihl ht.2.2.1 pre (p - 1) W (by omega) htp hR hV hS
  rw [he1] at hih HBG;rw [hp1] at hih2;have HIR := Lib.hid hih;have HIL := Lib.hid hih2;have ho := ht.1;have ho2 := ht.2.1;have e1 : 1 <= e := by omega
  have p1 : 1 <= p := by omega
  have pe : p <= e := by omega
  have ekt : kT vs ss (.bin o l r) = if (kT vs ss l).2 ≠ 0 then (0, (kT vs ss l).2) else if (kT vs ss r).2 ≠ 0 then (0, (kT vs ss r).2) else joinK o (kT vs ss l).1 (kT vs ss r).1 := rfl
  rw [ekt];have hrg := kT_range (vs := vs) (ss := ss) l;have hrg2 := kT_range (vs := vs) (ss := ss) r;clear ekt hih hih2 ihl ihr he1 hp1 hpl hpr htk htk' htk2 htp hbg hlen hlen2 hp hpe ht hfm hX hXl;rw [hn] at he ⊢;rw [hn] at HIL HIR HBG HR;clear hn he;generalize kT vs ss l = kl at *
  generalize kT vs ss r = kr at *
  obtain ⟨k, er⟩ := kl;obtain ⟨k2, er2⟩ := kr
  change Int at k er k2 er2
  simp only at hrg hrg2 HIL HIR ⊢;rcases hrg with ⟨h0, hk⟩ | ⟨h0, hk⟩
  ·subst h0;rw [if_neg (by simp)];rcases hrg2 with ⟨h02, hk2⟩ | ⟨h02, hk2⟩
   ·subst h02;rw [if_neg (by simp)];by_cases hkk : k = k2
    ·subst hkk;have HJ := Lib.hid (fun W => joined_any o k W ⟨ho, ho2⟩ hk);rw [show joinK o k k = errK (binK o k) by unfold joinK; rw [if_neg (by simp)]]
     go_enter Tryz.func147, Tryz.ntmps147
     go_wp2_with fail
     refine (HOP.out _).mono ?_;rintro x w1 ⟨rfl, hb1⟩;have HB1 := Lib.hid ((HBX.out _).trans (hb1.mono (HBX.out _).size));have hc0 := hb1.cell (p := ⟨w.heap.size, 0, none⟩) (by simp);have hc1 := hb1.cell (p := ⟨w.heap.size, 1, none⟩) (by simp);have hc2 := hb1.cell (p := ⟨w.heap.size, 2, none⟩) (by simp);have hz1 : w.heap.size + 1 <= w1.heap.size := by have := hb1.size; simp at this; omega
     clear hb1
     go_wp2_with fail
     refine (HBG.out _ (HR.out.below HB1.out)).mono ?_;rintro x wb ⟨rfl, hbb⟩;have HBB := Lib.hid (HB1.out.trans (hbb.mono HB1.out.size));have hzb := hbb.size
     go_wp2_with fail
     refine (HIL.out _ (HR.out.below HBB.out) (HV.out.below HBB.out) (HS.out.below HBB.out)).mono ?_;rintro x w2 ⟨rfl, hb2'⟩;have hb2 : Below w1.heap.size w1 w2 := hbb.trans (hb2'.mono hbb.size);have HB2 := Lib.hid (HB1.out.trans (hb2.mono HB1.out.size));have hz2 := hb2.size;clear hb2' hbb
     go_wp2_with fail
     refine (HIR.out _ (HR.out.below HB2.out) (HV.out.below HB2.out) (HS.out.below HB2.out)).mono ?_;rintro x w3 ⟨rfl, hb3⟩;have hd0 := (hb3.cell (p := ⟨w.heap.size, 0, none⟩) (by show w.heap.size < _; omega)).trans ((hb2.cell (p := ⟨w.heap.size, 0, none⟩) (by show w.heap.size < _; omega)).trans hc0);have HB3 := Lib.hid (HB2.out.trans (hb3.mono HB2.out.size));clear hb2 hb3 hc0 hc1 hc2
     go_wp2_with fail
     refine (HJ.out _).mono ?_;rintro x w4 ⟨rfl, rfl⟩;go_wp2;go_ret2;exact ⟨rfl, HB3.out⟩
    ·have hkk' := bne_iff_ne.2 hkk;rw [show joinK o k k2 = (0, 8) by unfold joinK; rw [if_pos hkk]];clear hkk
     go_enter Tryz.func147, Tryz.ntmps147
     go_wp2_with fail
     refine (HOP.out _).mono ?_;rintro x w1 ⟨rfl, hb1⟩;have HB1 := Lib.hid ((HBX.out _).trans (hb1.mono (HBX.out _).size));have hc0 := hb1.cell (p := ⟨w.heap.size, 0, none⟩) (by simp);have hc1 := hb1.cell (p := ⟨w.heap.size, 1, none⟩) (by simp);have hc2 := hb1.cell (p := ⟨w.heap.size, 2, none⟩) (by simp);have hz1 : w.heap.size + 1 <= w1.heap.size := by have := hb1.size; simp at this; omega
     clear hb1
     go_wp2_with fail
     refine (HBG.out _ (HR.out.below HB1.out)).mono ?_;rintro x wb ⟨rfl, hbb⟩;have HBB := Lib.hid (HB1.out.trans (hbb.mono HB1.out.size));have hzb := hbb.size
     go_wp2_with fail
     refine (HIL.out _ (HR.out.below HBB.out) (HV.out.below HBB.out) (HS.out.below HBB.out)).mono ?_;rintro x w2 ⟨rfl, hb2'⟩;have hb2 : Below w1.heap.size w1 w2 := hbb.trans (hb2'.mono hbb.size);have HB2 := Lib.hid (HB1.out.trans (hb2.mono HB1.out.size));have hz2 := hb2.size;clear hb2' hbb
     go_wp2_with fail
     refine (HIR.out _ (HR.out.below HB2.out) (HV.out.below HB2.out) (HS.out.below HB2.out)).mono ?_;rintro x w3 ⟨rfl, hb3⟩;have HB3 := Lib.hid (HB2.out.trans (hb3.mono HB2.out.size));clear hb2 hb3 hc0 hc1 hc2;go_wp2;go_ret2;exact ⟨rfl, HB3.out⟩
   ·have h0' := bne_iff_ne.2 h02;rw [if_pos h02];clear h02
    go_enter Tryz.func147, Tryz.ntmps147
    go_wp2_with fail
    refine (HOP.out _).mono ?_;rintro x w1 ⟨rfl, hb1⟩;have HB1 := Lib.hid ((HBX.out _).trans (hb1.mono (HBX.out _).size));have hc0 := hb1.cell (p := ⟨w.heap.size, 0, none⟩) (by simp);have hc1 := hb1.cell (p := ⟨w.heap.size, 1, none⟩) (by simp);have hc2 := hb1.cell (p := ⟨w.heap.size, 2, none⟩) (by simp);have hz1 : w.heap.size + 1 <= w1.heap.size := by have := hb1.size; simp at this; omega
    clear hb1
    go_wp2_with fail
    refine (HBG.out _ (HR.out.below HB1.out)).mono ?_;rintro x wb ⟨rfl, hbb⟩;have HBB := Lib.hid (HB1.out.trans (hbb.mono HB1.out.size));have hzb := hbb.size
    go_wp2_with fail
    refine (HIL.out _ (HR.out.below HBB.out) (HV.out.below HBB.out) (HS.out.below HBB.out)).mono ?_;rintro x w2 ⟨rfl, hb2'⟩;have hb2 : Below w1.heap.size w1 w2 := hbb.trans (hb2'.mono hbb.size);have HB2 := Lib.hid (HB1.out.trans (hb2.mono HB1.out.size));have hz2 := hb2.size;clear hb2' hbb
    go_wp2_with fail
    refine (HIR.out _ (HR.out.below HB2.out) (HV.out.below HB2.out) (HS.out.below HB2.out)).mono ?_;rintro x w3 ⟨rfl, hb3⟩;have HB3 := Lib.hid (HB2.out.trans (hb3.mono HB2.out.size));clear hb2 hb3 hc0 hc1 hc2;go_wp2;go_ret2;exact ⟨rfl, HB3.out⟩
  ·have h0' := bne_iff_ne.2 h0;rw [if_pos h0];clear h0
   go_enter Tryz.func147, Tryz.ntmps147
   go_wp2_with fail
   refine (HOP.out _).mono ?_;rintro x w1 ⟨rfl, hb1⟩;have HB1 := Lib.hid ((HBX.out _).trans (hb1.mono (HBX.out _).size));have hc0 := hb1.cell (p := ⟨w.heap.size, 0, none⟩) (by simp);have hc1 := hb1.cell (p := ⟨w.heap.size, 1, none⟩) (by simp);have hc2 := hb1.cell (p := ⟨w.heap.size, 2, none⟩) (by simp);have hz1 : w.heap.size + 1 <= w1.heap.size := by have := hb1.size; simp at this; omega
   clear hb1
   go_wp2_with fail
   refine (HBG.out _ (HR.out.below HB1.out)).mono ?_;rintro x wb ⟨rfl, hbb⟩;have HBB := Lib.hid (HB1.out.trans (hbb.mono HB1.out.size));have hzb := hbb.size
   go_wp2_with fail
   refine (HIL.out _ (HR.out.below HBB.out) (HV.out.below HBB.out) (HS.out.below HBB.out)).mono ?_;rintro x w2 ⟨rfl, hb2'⟩;have hb2 : Below w1.heap.size w1 w2 := hbb.trans (hb2'.mono hbb.size);have HB2 := Lib.hid (HB1.out.trans (hb2.mono HB1.out.size));have hz2 := hb2.size;clear hb2' hbb;have HB3 := Lib.hid HB2.out;clear hb2 hc0 hc1 hc2;go_wp2;go_ret2;exact ⟨rfl, HB3.out⟩
set_option maxRecDepth 100000 in
theorem refKinds_any (v vv sv : Value) (cs : List CM) (vs : List VM) (ss : List (List UInt8)) (w : World) (hR : RdC w v cs) (hl : cs.length <= 4611686018427387904) (hN : Names cs) (hV : RdV w vv vs) (hvl : vs.length <= 4611686018427387904) (hS : RdW w sv ss) (hsl : ss.length <= 4611686018427387904) :
 Calls Tryz.prog 98 #[v, vv, sv] w fun x w' => x = .returned (.tuple #[.int .i64 (kindP vs ss cs).1, .int .i64 (kindP vs ss cs).2]) /\ Below w.heap.size w w' := by
 have HRG := Lib.hid (refRight_any v cs w hR hl hN);cases hB : rightB cs with
 | false =>
  have hK : kindP vs ss cs = (0, 1) := by unfold kindP; rw [hB]; rfl
  have HBT := Lib.hid hB;rw [hK];obtain ⟨V, vc, rfl⟩ := hV.form;obtain ⟨S, sc, rfl⟩ := hS.form;obtain ⟨A, c, rfl, hr⟩ := hR;clear hr hV hS hB hK
  go_enter Tryz.func98, Tryz.ntmps98
  go_wp2_with fail
  refine HRG.out.mono ?_;rintro e w0 ⟨rfl, hb0⟩;rw [HBT.out];have HB0 := Lib.hid hb0; clear hb0;go_wp2;go_ret2;exact ⟨rfl, HB0.out⟩
 | true =>
  obtain ⟨t, ht, htc⟩ := right_tree hB;have hl32 : cs.length <= 32 := by unfold rightB at hB; simp at hB; exact hB.1
  have hpp := post_pos t;have hlt := congrArg List.length htc;have hK : kindP vs ss cs = kT vs ss t := by rw [<- htc]; exact kind_tree ht (by rw [htc]; exact hl32)
  have hF := right_formed hB;have hrec := fun W hR hV hS => refOf_rec v vv sv cs vs ss hF hl32 hvl hsl t ht [] (cs.length - 1) W (by omega) (by rw [show cs.length - 1 + 1 = cs.length by omega, List.take_length, htc]; rfl) hR hV hS
  rw [show ((cs.length - 1 : Nat) : Int) = (cs.length : Int) - 1 by omega] at hrec;have HREC := Lib.hid hrec;have HBT := Lib.hid hB;have hcl : 1 <= cs.length := by omega
  rw [hK];have HR := Lib.hid hR; have HV := Lib.hid hV; have HS := Lib.hid hS;obtain ⟨V, vc, rfl⟩ := hV.form;obtain ⟨S, sc, rfl⟩ := hS.form;obtain ⟨A, c, rfl, hr⟩ := hR;clear hr hV hS hB hK hF htc ht hlt hpp hrec
  go_enter Tryz.func98, Tryz.ntmps98
  go_wp2_with fail
  refine HRG.out.mono ?_;rintro e w0 ⟨rfl, hb0⟩;rw [HBT.out];have HB0 := Lib.hid hb0; clear hb0
  go_wp2_with fail
  refine (HREC.out _ (HR.out.below HB0.out) (HV.out.below HB0.out) (HS.out.below HB0.out)).mono ?_;rintro e w1 ⟨rfl, hb1⟩;have HB1 := Lib.hid (HB0.out.trans (hb1.mono HB0.out.size)); clear hb1;go_wp2;go_ret2;exact ⟨rfl, HB1.out⟩
end Go.Proofs.YtcnfcililiehlaaGreatDoor.Kd
namespace Go.Proofs.YtcnfcililiehlaaGreatDoor
open Go.RowKit
theorem any_not (ps : List AP) : ps.any (fun q : AP => !oneB q.1) = !((ps.map Prod.fst).all oneB) := by
 induction ps with
 | nil => rfl
 | cons a r ih => simp only [List.any_cons, List.map_cons, List.all_cons, ih, Bool.not_and]
theorem aRight_any (v : Value) (ps : List AP) (w : World) (hR : RdA w v ps) (hl : ps.length <= 4611686018427387904) :
 Calls Tryz.prog 209 #[v] w fun e w' => e = .returned (.bool (rightA (ps.map Prod.fst))) /\ Below w.heap.size w w' := by
 obtain ⟨A, c, rfl⟩ := hR.form;have HC := Lib.hid (actContains_any _ ps w hR hl);have hr : rightA (ps.map Prod.fst) = (decide (1 <= ps.length /\ ps.length <= 8) && (ps.map Prod.fst).all oneB) := by
  unfold rightA; rw [List.length_map]
 rw [any_not] at HC;rw [hr];clear hR hr;generalize (ps.map Prod.fst).all oneB = b at *
 generalize ps.length = n at *
 have HB0 : Hid (Below w.heap.size w w) := Below.refl _ _;by_cases h1 : 1 <= n
 ·by_cases h8 : n <= 8
  ·have hd : decide (1 <= n /\ n <= 8) = true := decide_eq_true ⟨h1, h8⟩;rw [hd, Bool.true_and];have h1' : (1 : Int) <= n := by omega
   have h8' : (n : Int) <= 8 := by omega
   clear hd
   go_enter Tryz.func209, Tryz.ntmps209
   go_wp2_with fail
   refine HC.out.mono ?_;rintro e w1 ⟨rfl, hb⟩;have HB := Lib.hid hb;clear hb;cases b
   ·go_wp2;go_ret;exact ⟨rfl, HB.out⟩
   ·go_wp2;go_ret;exact ⟨rfl, HB.out⟩
  ·have hd : decide (1 <= n /\ n <= 8) = false := decide_eq_false (by omega);rw [hd, Bool.false_and];have h1' : (1 : Int) <= n := by omega
   have h8' : ¬ (n : Int) <= 8 := by omega
   clear hd HC
   go_enter Tryz.func209, Tryz.ntmps209
   go_wp2;go_ret;exact ⟨rfl, HB0.out⟩
 ·have hd : decide (1 <= n /\ n <= 8) = false := decide_eq_false (by omega);rw [hd, Bool.false_and];have h1' : ¬ (1 : Int) <= n := by omega
  clear hd HC
  go_enter Tryz.func209, Tryz.ntmps209
  go_wp2;go_ret;exact ⟨rfl, HB0.out⟩
end Go.Proofs.YtcnfcililiehlaaGreatDoor
