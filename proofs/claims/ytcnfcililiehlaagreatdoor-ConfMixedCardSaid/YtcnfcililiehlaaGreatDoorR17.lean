/- Own texts, joined: Kh. -/
import Derived.Test.YtcnfcililiehlaaGreatDoorR16
namespace Go.Proofs.YtcnfcililiehlaaGreatDoor.Kd
open Go.RowKit
theorem own_take' {w : World} {base : Nat} {e : TypeId} {n N : Nat} {A : Option Addr} {cap : Nat} {xs : List Value} (h : w.ownsRow base e 1 (.slice A (n + N) cap) (n + N) xs) : w.ownsRow base e 1 (.slice A n cap) n (xs.take n) := by
 obtain ⟨h1, h2⟩ := h;rcases h2 with ⟨hv, h0⟩ | ⟨g, cap', cur, hv, hb, hh, hnc, hcm, hcs, ht⟩
 ·simp only [Value.slice.injEq] at hv;obtain ⟨rfl, _, rfl⟩ := hv;obtain rfl : n = 0 := by omega
  exact ⟨by simp, Or.inl ⟨rfl, rfl⟩⟩
 ·simp only [Value.slice.injEq] at hv;obtain ⟨rfl, _, rfl⟩ := hv;refine ⟨?_, Or.inr ⟨g, cap, cur, rfl, hb, hh, by omega, hcm, hcs, ?_⟩⟩
  ·rw [List.length_take, h1]; omega
  ·rw [<- ht, List.take_take]; congr 1; omega
theorem operN_zero {o : Int} (h : operN o = 0) : 1 <= o /\ o <= 6 := by
 unfold operN at h;by_cases h1 : 1 <= o /\ o <= 6
 ·exact h1
 ·rw [if_neg h1] at h; split at h <;> cases h
theorem operN_one {o : Int} (h : operN o = 1) : 7 <= o /\ o <= 10 := by
 unfold operN at h;by_cases h1 : 1 <= o /\ o <= 6
 ·rw [if_pos h1] at h; cases h
 ·rw [if_neg h1] at h;by_cases h2 : 7 <= o /\ o <= 10
  ·exact h2
  ·rw [if_neg h2] at h; cases h
theorem operN_two {o : Int} (h : operN o = 2) (ho : 1 <= o /\ o <= 23) : 11 <= o /\ o <= 23 := by
 unfold operN at h;by_cases h1 : 1 <= o /\ o <= 6
 ·rw [if_pos h1] at h; cases h
 ·rw [if_neg h1] at h;by_cases h2 : 7 <= o /\ o <= 10
  ·rw [if_pos h2] at h; cases h
  ·omega
theorem len_one {α : Type} {l : List α} (h : l.length = 1) : ∃ x, l = [x] := by
 match l, h with
 | [x], _ => exact ⟨x, rfl⟩
theorem len_two {α : Type} {l : List α} (h : l.length = 2) : ∃ x y, l = [x, y] := by
 match l, h with
 | [x, y], _ => exact ⟨x, y, rfl⟩
theorem kv_app (a b : List Int) : kv (a ++ b) = kv a ++ kv b := by simp [kv]
theorem Tryz.infoInt : (Tryz.prog.info? 3).map (fun i => (i.zero, i.size, i.bytes)) = some (some (.int .i64 0), 1, 8) := by kernel_rfl
structure KK (vs : List VM) (ss : List (List UInt8)) (cs : List CM) (k : Nat) (st : List Int) : Prop where
 le : k <= cs.length
 len : st.length <= k
 run : runB (cs.drop k) st.length = some 1
 kr : kRun vs ss (cs.drop k) st = kRun vs ss cs []
 rng : ∀ x ∈ st, 1 <= x /\ x <= 3
theorem made_range (vs : List VM) (ss : List (List UInt8)) (c : CM) (st : List Int) (hn : operN c.op <= st.length) (hr : ∀ x ∈ st, 1 <= x /\ x <= 3) :
 ((madeK vs ss c st).2 = 0 /\ 1 <= (madeK vs ss c st).1 /\ (madeK vs ss c st).1 <= 3) \/ ((madeK vs ss c st).2 ≠ 0 /\ (madeK vs ss c st).1 = 0) := by
 unfold madeK;have h2 := operN_le c.op;have hc : operN c.op = 0 \/ operN c.op = 1 \/ operN c.op = 2 := by omega
 rcases hc with h | h | h
 ·rw [h]; exact leafK_range c
 ·rw [h]
  match st, hn with
  | [], hn => rw [h] at hn; simp at hn
  | a :: r, _ => exact errK_range (unK_range (hr a (by simp)))
 ·rw [h]
  match st, hn with
  | [], hn => rw [h] at hn; simp at hn
  | a :: r, _ => exact joinK_range (hr a (by simp))
section
variable {vs : List VM} {ss : List (List UInt8)} {cs : List CM} {k : Nat} {st : List Int}
theorem KK.zero (h : rightB cs = true) : KK vs ss cs 0 [] := by
 unfold rightB at h;simp at h;exact ⟨Nat.zero_le _, Nat.le_refl _, h.2, rfl, fun x hx => by cases hx⟩
theorem KK.next (h : KK vs ss cs k st) (hk : k < cs.length) : formedB cs[k] = true /\ operN cs[k].op <= st.length /\
 (((madeK vs ss cs[k] (st.drop (st.length - operN cs[k].op))).2 = 0 /\ KK vs ss cs (k + 1) (st.take (st.length - operN cs[k].op) ++ [(madeK vs ss cs[k] (st.drop (st.length - operN cs[k].op))).1])) \/
  ((madeK vs ss cs[k] (st.drop (st.length - operN cs[k].op))).2 ≠ 0 /\ kRun vs ss cs [] = (0, (madeK vs ss cs[k] (st.drop (st.length - operN cs[k].op))).2))) := by
 have h1 := h.run;rw [run_at hk] at h1;split at h1
 ·rename_i hc
  refine ⟨hc.1, hc.2, ?_⟩;have hkr := h.kr;rw [List.drop_eq_getElem_cons hk, kRun] at hkr;rcases made_range vs ss cs[k] (st.drop (st.length - operN cs[k].op)) (by simp; omega) (fun x hx => h.rng x (List.mem_of_mem_drop hx)) with ⟨h2, h3⟩ | ⟨h2, h3⟩
  ·refine Or.inl ⟨h2, ⟨by omega, ?_, ?_, ?_, ?_⟩⟩
   ·have := h.len; simp; omega
   ·have e : (st.take (st.length - operN cs[k].op) ++ [(madeK vs ss cs[k] (st.drop (st.length - operN cs[k].op))).1]).length = st.length + 1 - operN cs[k].op := by simp; omega
    rw [e]; exact h1
   ·rw [if_neg (by simp [h2])] at hkr; exact hkr
   ·intro x hx;rcases List.mem_append.1 hx with hx | hx
    ·exact h.rng x (List.mem_of_mem_take hx)
    ·simp at hx; subst hx; exact h3
  ·refine Or.inr ⟨h2, ?_⟩;rw [if_pos h2] at hkr; exact hkr.symm
 ·cases h1
theorem KK.done (h : KK vs ss cs cs.length st) : ∃ x, st = [x] /\ kRun vs ss cs [] = (x, 0) := by
 have h1 := h.run;rw [List.drop_length] at h1;have h2 : st.length = 1 := by simpa [runB] using h1
 match st, h2 with
 | [x], _ =>
  have h3 := h.kr;rw [List.drop_length] at h3;exact ⟨x, rfl, h3.symm⟩
end
set_option maxRecDepth 100000 in
theorem one_int (w : World) (x : Int) : ∀ j u, [Value.int .i64 x][j]? = some u -> (w.alloc (.cells #[.int .i64 x] 3)).cell? ((⟨w.heap.size, 0, none⟩ : Addr).add j) = some u := by
 intro j u hu
 match j with
 | 0 => simp at hu; subst hu; simp [Addr.add]
 | j + 1 => simp at hu
set_option maxRecDepth 100000 in
set_option maxHeartbeats 3000000 in
theorem kindsOf_right (v vv sv : Value) (cs : List CM) (vs : List VM) (ss : List (List UInt8)) (w : World) (hR : RdC w v cs) (hB : rightB cs = true) (hV : RdV w vv vs) (hvl : vs.length <= 4611686018427387904) (hS : RdW w sv ss) (hsl : ss.length <= 4611686018427387904) :
 Calls Tryz.prog 239 #[v, vv, sv] w fun e w' => e = .returned (.tuple #[.int .i64 (kindP vs ss cs).1, .int .i64 (kindP vs ss cs).2]) /\ Below w.heap.size w w' := by
 have hl32 : cs.length <= 32 := by unfold rightB at hB; simp at hB; exact hB.1
 have HRG := Lib.hid (right_any v cs w hR (by omega));have HBT := Lib.hid hB;have HZ := Lib.hid (KK.zero (vs := vs) (ss := ss) hB);clear hB;obtain ⟨A, c, rfl, hr⟩ := hR;have HR := Lib.hid hr; clear hr;obtain ⟨V, vc, rfl⟩ := hV.form;obtain ⟨S, sc, rfl⟩ := hS.form;have HV := Lib.hid hV; have HS := Lib.hid hS;clear hV hS;obtain ⟨n, hn⟩ : ∃ n, cs.length = n := ⟨_, rfl⟩
 have HN := Lib.hid hn;rw [hn] at hl32 HRG ⊢;clear hn;obtain ⟨i0, hi0, hz0, hz1, hz2⟩ := info_parts Tryz.infoInt;have HI := Lib.hid hi0; have HZ0 := Lib.hid hz0; have HZ1 := Lib.hid hz1; have HZ2 := Lib.hid hz2;clear hi0 hz0 hz1 hz2
 go_enter Tryz.func239, Tryz.ntmps239
 go_wp2_with fail
 refine HRG.out.mono ?_;rintro e w0 ⟨rfl, hb0⟩;rw [HBT.out];have HB0 := Lib.hid hb0; clear hb0;go_wp2
 go_loopw [6, 7, 8, 19] (fun x6 x7 lv i wr => x6 = .int .i64 0 /\ x7 = .int .i64 0 /\ ∃ k st, k <= n /\ i = .int .i64 (k : Int) /\ Hid (KK vs ss cs k st) /\ Below w.heap.size w wr /\ wr.ownsRow w.heap.size 3 1 lv st.length (kv st)) (fun _ _ _ i _ => n - (intOf i).toNat)
 case atStart => exact ⟨rfl, rfl, 0, [], by omega, rfl, HZ.out, HB0.out, World.ownsRow_nil _ _ _ _⟩
 case round =>
  obtain ⟨rfl, rfl, k, st, hk, rfl, HK, hP⟩ := hrel;have HP := Lib.hid hP; clear hP;by_cases hkn : k < n
  ·obtain ⟨hfm, hon, hnx⟩ := HK.out.next (by rw [HN.out]; exact hkn);obtain ⟨b, o, rfl, d0, d1, d2⟩ := HR.out k (by rw [HN.out]; exact hkn);obtain ⟨cc, hcc⟩ : ∃ cc, cs[k]'(by rw [HN.out]; exact hkn) = cc := ⟨_, rfl⟩
   rw [hcc] at d0 d1 d2 hfm hon hnx;clear hcc;have e0 := (HP.out.1.cell (cell_lt d0)).trans d0;have e1 := (HP.out.1.cell (cell_lt d1)).trans d1;have e2 := (HP.out.1.cell (cell_lt d2)).trans d2;clear d0 d1 d2;obtain ⟨X, hX, hXl⟩ := bstr_some cc.nm;rw [hX] at e2;have hce : cc = ⟨cc.op, cc.a, X.data.toList⟩ := by rw [hXl]
   have HCE := Lib.hid hce;clear hX hXl hce;have hst := HK.out.len;have hrg := Lib.hid HK.out.rng;have hops := formed_op hfm;have hop := Lib.hid (fun W => kOperands_any cc.op W hops);obtain ⟨n0, hn0⟩ : ∃ n0, st.length - operN cc.op = n0 := ⟨_, rfl⟩
   have hN3 := operN_le cc.op;rw [hn0] at hnx;have HNX := Lib.hid hnx; clear hnx;have hsl' : st.length = n0 + operN cc.op := by omega
   have HTL : Hid ((st.take n0).length = n0) := by show _ = _; rw [List.length_take]; omega
   have hdl : (st.drop n0).length = operN cc.op := by rw [List.length_drop]; omega
   have hown := HP.out.2;rw [hsl'] at hown;have hform := own_form hown;have hn32 : n0 <= 32 := by omega
   have hcs : operN cc.op = 0 \/ operN cc.op = 1 \/ operN cc.op = 2 := by omega
   have HDK : Hid (kv st = kv (st.take n0) ++ kv (st.drop n0)) := by show _ = _; rw [<- kv_app, List.take_append_drop]
   have HTV : Hid ((kv st).take n0 = kv (st.take n0)) := by show _ = _; simp [kv]
   have hrd : ∀ x ∈ st.drop n0, 1 <= x /\ x <= 3 := fun x hx => hrg.out x (List.mem_of_mem_drop hx)
   rcases hcs with hN | hN | hN
   ·rw [hN] at hown hform hop hdl;have hle := operN_zero hN;have hmm : madeK vs ss cc (st.drop n0) = leafK vs ss cc := by unfold madeK; rw [hN]; rfl
    rw [hmm] at HNX;obtain ⟨mm, hmv⟩ : ∃ mm, leafK vs ss cc = mm := ⟨_, rfl⟩
    rw [hmv] at HNX;rcases hform with ⟨rfl, h0⟩ | ⟨g, cap, rfl, hcap, hcm⟩
    ·obtain rfl : n0 = 0 := by omega
     have HBX : Hid (Below wr.heap.size wr (wr.alloc (.cells #[.int .i64 cc.op, .int .i64 cc.a, .string X] 176)).drew) := ((Below.refl _ _).alloc (Nat.le_refl _) _).drew;have HSZ : Hid (wr.heap.size <= (wr.alloc (.cells #[.int .i64 cc.op, .int .i64 cc.a, .string X] 176)).drew.heap.size) := HBX.out.size;have HM : Hid (∀ W, Below (wr.alloc (.cells #[.int .i64 cc.op, .int .i64 cc.a, .string X] 176)).heap.size (wr.alloc (.cells #[.int .i64 cc.op, .int .i64 cc.a, .string X] 176)).drew W -> Calls Tryz.prog 263 #[.agg #[.int .i64 cc.op, .int .i64 cc.a, .string X], .slice none 0 0, .slice V vs.length vc, .slice S ss.length sc] W fun e w' => e = .returned (.tuple #[.int .i64 mm.1, .int .i64 mm.2]) /\ Below W.heap.size W w') := by
      intro W hW;have hb := HP.out.1.trans ((HBX.out.trans (hW.mono HSZ.out)).mono HP.out.1.size);have h := made0_any cc.op cc.a X (.slice none 0 0) _ _ vs ss W hle none 0 rfl (HV.out.below hb) hvl (HS.out.below hb) hsl;rw [<- HCE.out, hmv] at h;exact h
     have HTK' := own_take' hown;rw [HTV.out] at HTK';have HTK := Lib.hid HTK';clear hown HTK' hmm hmv hN hdl hrd hle;have hz := HP.out.1.size;rcases HNX.out with ⟨he, hK1⟩ | ⟨he, hE⟩
     ·have HK1 := Lib.hid hK1; have HE := Lib.hid he;clear hK1 he hfm hon
      go_wp2_with fail
      refine (hop.out _).mono ?_;rintro e w1 ⟨rfl, rfl⟩
      go_wp2_with fail
      refine Ow.region_own' 52 [Ow.eqR (.agg #[.int .i64 cc.op, .int .i64 cc.a, .string X]), Ow.eqR (.slice none 0 0), Ow.eqR (.int .i64 0), Ow.eqR (.slice none 0 0), Ow.eqR (.slice V vs.length vc), Ow.eqR (.slice S ss.length sc), Ow.eqR (.tuple #[.int .i64 mm.1, .int .i64 mm.2]), Ow.eqR (.tuple #[.int .i64 mm.1, .int .i64 mm.2]), Ow.eqR (.int .i64 mm.1), Ow.eqR (.int .i64 mm.2), Ow.eqR (.int .i64 mm.1), Ow.eqR (.int .i64 mm.2)] [false, false, false, false, false, false, false, false, false, false, false, false] [none, none, none, none, none, none, none, none, none, none, none, none] (by kernel_rfl) rfl (by kernel_rfl) ⟨Ow.keeps_eq _ _, Ow.keeps_eq _ _, Ow.keeps_eq _ _, Ow.keeps_eq _ _, Ow.keeps_eq _ _, Ow.keeps_eq _ _, Ow.keeps_eq _ _, Ow.keeps_eq _ _, Ow.keeps_eq _ _, Ow.keeps_eq _ _, Ow.keeps_eq _ _, Ow.keeps_eq _ _, trivial⟩ ?_;refine Ow.walk_q ?_ fun x30 => ?_
      ·intro w1 hb hd ho K hK;clear hd ho;have c0 : w1.cell? ⟨wr.heap.size, 0, none⟩ = some (.int .i64 cc.op) := (hb.cell (by simp)).trans (by simp);have c1 : w1.cell? ⟨wr.heap.size, 1, none⟩ = some (.int .i64 cc.a) := (hb.cell (by simp)).trans (by simp);have c2 : w1.cell? ⟨wr.heap.size, 2, none⟩ = some (.string X) := (hb.cell (by simp)).trans (by simp);go_simp;exact hK _ _ (Ow.good_same rfl rfl rfl)
      refine Ow.walk_q ?_ fun x31 => ?_
      ·intro w1 hb hd ho K hK;clear hd ho;go_simp;exact hK _ _ (Ow.good_same rfl rfl rfl)
      refine Ow.walk_q ?_ fun x32 => ?_
      ·intro w1 hb hd ho K hK;clear hd ho;go_simp;exact hK _ _ (Ow.good_same rfl rfl rfl)
      refine Ow.walk_q ?_ fun x33 => ?_
      ·intro w1 hb hd ho K hK;obtain rfl : _ = x31 := Eq.symm (hd 1 (by kernel_rfl));obtain rfl : _ = x32 := Eq.symm (hd 2 (by kernel_rfl));clear hd ho;go_simp;exact hK _ _ (Ow.good_same rfl rfl rfl)
      refine Ow.walk_q ?_ fun x34 => ?_
      ·intro w1 hb hd ho K hK;clear hd ho;go_simp;exact hK _ _ (Ow.good_same rfl rfl rfl)
      refine Ow.walk_q ?_ fun x35 => ?_
      ·intro w1 hb hd ho K hK;clear hd ho;go_simp;exact hK _ _ (Ow.good_same rfl rfl rfl)
      refine Ow.walk_q ?_ fun x36 => ?_
      ·intro w1 hb hd ho K hK;obtain rfl : _ = x30 := Eq.symm (hd 0 (by kernel_rfl));obtain rfl : _ = x33 := Eq.symm (hd 3 (by kernel_rfl));obtain rfl : _ = x34 := Eq.symm (hd 4 (by kernel_rfl));obtain rfl : _ = x35 := Eq.symm (hd 5 (by kernel_rfl));clear hd ho;go_simp;refine (HM.out w1 hb).mono ?_;rintro e w2 ⟨rfl, hb2⟩;go_simp;exact hK _ _ (Ow.good_below rfl rfl hb2 rfl)
      refine Ow.walk_q ?_ fun x29 => ?_
      ·intro w1 hb hd ho K hK;obtain rfl : _ = x36 := Eq.symm (hd 6 (by kernel_rfl));clear hd ho;go_simp;exact hK _ _ (Ow.good_same rfl rfl rfl)
      refine Ow.walk_q ?_ fun x37 => ?_
      ·intro w1 hb hd ho K hK;obtain rfl : _ = x29 := Eq.symm (hd 7 (by kernel_rfl));clear hd ho;go_simp;exact hK _ _ (Ow.good_same rfl rfl rfl)
      refine Ow.walk_q ?_ fun x38 => ?_
      ·intro w1 hb hd ho K hK;obtain rfl : _ = x29 := Eq.symm (hd 7 (by kernel_rfl));clear hd ho;go_simp;exact hK _ _ (Ow.good_same rfl rfl rfl)
      refine Ow.walk_q ?_ fun x12 => ?_
      ·intro w1 hb hd ho K hK;obtain rfl : _ = x37 := Eq.symm (hd 8 (by kernel_rfl));clear hd ho;go_simp;exact hK _ _ (Ow.good_same rfl rfl rfl)
      refine Ow.walk_q ?_ fun x13 => ?_
      ·intro w1 hb hd ho K hK;obtain rfl : _ = x38 := Eq.symm (hd 9 (by kernel_rfl));clear hd ho;go_simp;exact hK _ _ (Ow.good_same rfl rfl rfl)
      refine Ow.walk_nil rfl (fun w1 hb hd => ?_);obtain rfl : _ = x30 := Eq.symm (hd 0 (by kernel_rfl));obtain rfl : _ = x31 := Eq.symm (hd 1 (by kernel_rfl));obtain rfl : _ = x32 := Eq.symm (hd 2 (by kernel_rfl));obtain rfl : _ = x33 := Eq.symm (hd 3 (by kernel_rfl));obtain rfl : _ = x34 := Eq.symm (hd 4 (by kernel_rfl));obtain rfl : _ = x35 := Eq.symm (hd 5 (by kernel_rfl));obtain rfl : _ = x36 := Eq.symm (hd 6 (by kernel_rfl));obtain rfl : _ = x29 := Eq.symm (hd 7 (by kernel_rfl));obtain rfl : _ = x37 := Eq.symm (hd 8 (by kernel_rfl));obtain rfl : _ = x38 := Eq.symm (hd 9 (by kernel_rfl));obtain rfl : _ = x12 := Eq.symm (hd 10 (by kernel_rfl));obtain rfl : _ = x13 := Eq.symm (hd 11 (by kernel_rfl));clear hd;have HBB : Hid (Below wr.heap.size wr w1) := HBX.out.trans (hb.mono HSZ.out);clear hb;go_simp;rw [HE.out];have hown1 := own_below HTK.out HBB.out;have hz1 := HBB.out.size;have HO1 := Lib.hid hown1; clear hown1
      go_wp2_with (at_builtin; refine wpList_append_own _ rfl _ _ 29 rfl w.heap.size 3 i0 _ 1 8 Tryz.underlying29 HI.out HZ0.out HZ1.out HZ2.out rfl (by decide) _ 0 (kv (st.take 0)) rfl (HO1.out.alloc _) ⟨w1.heap.size, 0, none⟩ 1 1 [.int .i64 mm.1] rfl rfl (one_int w1 _) (by intro u hu; simp at hu; subst hu; rfl) (by unfold maxLen; omega) (by omega) (by simp; omega) ?_)
      intro v' w2 hown' hgrow _;have HO2 : Hid (w2.ownsRow w.heap.size 3 1 v' (0 + 1) (kv (st.take 0 ++ [mm.1]))) := by
       show World.ownsRow _ _ _ _ _ _ _;have e : kv (st.take 0 ++ [mm.1]) = kv (st.take 0) ++ [.int .i64 mm.1] := by simp [kv]
       rw [e]; exact hown'
      have HB2 : Hid (Below w.heap.size w w2) := by
       have h1 := (HP.out.1.trans (HBB.out.mono HP.out.1.size)).alloc (by omega) (.cells #[.int .i64 mm.1] 3);exact h1.grown hgrow (by simp; omega) (fun k hk => (HO1.out.lt k hk).1)
      clear hown' hgrow;go_wp2
      go_roundw
      case rel => exact ⟨rfl, rfl, k + 1, st.take 0 ++ [mm.1], by omega, by go_num, HK1.out, HB2.out, by simpa [HTL.out] using HO2.out⟩
      case measure => simp [intOf]; omega
     ·have HE := Lib.hid hE;have te := (bne_iff_ne (a := mm.2) (b := 0)).2 he;clear hE he hfm hon
      go_wp2_with fail
      refine (hop.out _).mono ?_;rintro e w1 ⟨rfl, rfl⟩
      go_wp2_with fail
      refine Ow.region_own' 52 [Ow.eqR (.agg #[.int .i64 cc.op, .int .i64 cc.a, .string X]), Ow.eqR (.slice none 0 0), Ow.eqR (.int .i64 0), Ow.eqR (.slice none 0 0), Ow.eqR (.slice V vs.length vc), Ow.eqR (.slice S ss.length sc), Ow.eqR (.tuple #[.int .i64 mm.1, .int .i64 mm.2]), Ow.eqR (.tuple #[.int .i64 mm.1, .int .i64 mm.2]), Ow.eqR (.int .i64 mm.1), Ow.eqR (.int .i64 mm.2), Ow.eqR (.int .i64 mm.1), Ow.eqR (.int .i64 mm.2)] [false, false, false, false, false, false, false, false, false, false, false, false] [none, none, none, none, none, none, none, none, none, none, none, none] (by kernel_rfl) rfl (by kernel_rfl) ⟨Ow.keeps_eq _ _, Ow.keeps_eq _ _, Ow.keeps_eq _ _, Ow.keeps_eq _ _, Ow.keeps_eq _ _, Ow.keeps_eq _ _, Ow.keeps_eq _ _, Ow.keeps_eq _ _, Ow.keeps_eq _ _, Ow.keeps_eq _ _, Ow.keeps_eq _ _, Ow.keeps_eq _ _, trivial⟩ ?_;refine Ow.walk_q ?_ fun x30 => ?_
      ·intro w1 hb hd ho K hK;clear hd ho;have c0 : w1.cell? ⟨wr.heap.size, 0, none⟩ = some (.int .i64 cc.op) := (hb.cell (by simp)).trans (by simp);have c1 : w1.cell? ⟨wr.heap.size, 1, none⟩ = some (.int .i64 cc.a) := (hb.cell (by simp)).trans (by simp);have c2 : w1.cell? ⟨wr.heap.size, 2, none⟩ = some (.string X) := (hb.cell (by simp)).trans (by simp);go_simp;exact hK _ _ (Ow.good_same rfl rfl rfl)
      refine Ow.walk_q ?_ fun x31 => ?_
      ·intro w1 hb hd ho K hK;clear hd ho;go_simp;exact hK _ _ (Ow.good_same rfl rfl rfl)
      refine Ow.walk_q ?_ fun x32 => ?_
      ·intro w1 hb hd ho K hK;clear hd ho;go_simp;exact hK _ _ (Ow.good_same rfl rfl rfl)
      refine Ow.walk_q ?_ fun x33 => ?_
      ·intro w1 hb hd ho K hK;obtain rfl : _ = x31 := Eq.symm (hd 1 (by kernel_rfl));obtain rfl : _ = x32 := Eq.symm (hd 2 (by kernel_rfl));clear hd ho;go_simp;exact hK _ _ (Ow.good_same rfl rfl rfl)
      refine Ow.walk_q ?_ fun x34 => ?_
      ·intro w1 hb hd ho K hK;clear hd ho;go_simp;exact hK _ _ (Ow.good_same rfl rfl rfl)
      refine Ow.walk_q ?_ fun x35 => ?_
      ·intro w1 hb hd ho K hK;clear hd ho;go_simp;exact hK _ _ (Ow.good_same rfl rfl rfl)
      refine Ow.walk_q ?_ fun x36 => ?_
      ·intro w1 hb hd ho K hK;obtain rfl : _ = x30 := Eq.symm (hd 0 (by kernel_rfl));obtain rfl : _ = x33 := Eq.symm (hd 3 (by kernel_rfl));obtain rfl : _ = x34 := Eq.symm (hd 4 (by kernel_rfl));obtain rfl : _ = x35 := Eq.symm (hd 5 (by kernel_rfl));clear hd ho;go_simp;refine (HM.out w1 hb).mono ?_;rintro e w2 ⟨rfl, hb2⟩;go_simp;exact hK _ _ (Ow.good_below rfl rfl hb2 rfl)
      refine Ow.walk_q ?_ fun x29 => ?_
      ·intro w1 hb hd ho K hK;obtain rfl : _ = x36 := Eq.symm (hd 6 (by kernel_rfl));clear hd ho;go_simp;exact hK _ _ (Ow.good_same rfl rfl rfl)
      refine Ow.walk_q ?_ fun x37 => ?_
      ·intro w1 hb hd ho K hK;obtain rfl : _ = x29 := Eq.symm (hd 7 (by kernel_rfl));clear hd ho;go_simp;exact hK _ _ (Ow.good_same rfl rfl rfl)
      refine Ow.walk_q ?_ fun x38 => ?_
      ·intro w1 hb hd ho K hK;obtain rfl : _ = x29 := Eq.symm (hd 7 (by kernel_rfl));clear hd ho;go_simp;exact hK _ _ (Ow.good_same rfl rfl rfl)
      refine Ow.walk_q ?_ fun x12 => ?_
      ·intro w1 hb hd ho K hK;obtain rfl : _ = x37 := Eq.symm (hd 8 (by kernel_rfl));clear hd ho;go_simp;exact hK _ _ (Ow.good_same rfl rfl rfl)
      refine Ow.walk_q ?_ fun x13 => ?_
      ·intro w1 hb hd ho K hK;obtain rfl : _ = x38 := Eq.symm (hd 9 (by kernel_rfl));clear hd ho;go_simp;exact hK _ _ (Ow.good_same rfl rfl rfl)
      refine Ow.walk_nil rfl (fun w1 hb hd => ?_);obtain rfl : _ = x30 := Eq.symm (hd 0 (by kernel_rfl));obtain rfl : _ = x31 := Eq.symm (hd 1 (by kernel_rfl));obtain rfl : _ = x32 := Eq.symm (hd 2 (by kernel_rfl));obtain rfl : _ = x33 := Eq.symm (hd 3 (by kernel_rfl));obtain rfl : _ = x34 := Eq.symm (hd 4 (by kernel_rfl));obtain rfl : _ = x35 := Eq.symm (hd 5 (by kernel_rfl));obtain rfl : _ = x36 := Eq.symm (hd 6 (by kernel_rfl));obtain rfl : _ = x29 := Eq.symm (hd 7 (by kernel_rfl));obtain rfl : _ = x37 := Eq.symm (hd 8 (by kernel_rfl));obtain rfl : _ = x38 := Eq.symm (hd 9 (by kernel_rfl));obtain rfl : _ = x12 := Eq.symm (hd 10 (by kernel_rfl));obtain rfl : _ = x13 := Eq.symm (hd 11 (by kernel_rfl));clear hd;have HBB : Hid (Below wr.heap.size wr w1) := HBX.out.trans (hb.mono HSZ.out);clear hb;go_simp;go_wp2;go_ret2;refine ⟨ret_pair ?_, HP.out.1.trans (HBB.out.mono HP.out.1.size)⟩;unfold kindP;rw [if_pos HBT.out, HE.out]
    ·by_cases hcn : cap = n0
     ·subst hcn;have HBX : Hid (Below wr.heap.size wr (wr.alloc (.cells #[.int .i64 cc.op, .int .i64 cc.a, .string X] 176)).drew) := ((Below.refl _ _).alloc (Nat.le_refl _) _).drew;have HSZ : Hid (wr.heap.size <= (wr.alloc (.cells #[.int .i64 cc.op, .int .i64 cc.a, .string X] 176)).drew.heap.size) := HBX.out.size;have HM : Hid (∀ W, Below (wr.alloc (.cells #[.int .i64 cc.op, .int .i64 cc.a, .string X] 176)).heap.size (wr.alloc (.cells #[.int .i64 cc.op, .int .i64 cc.a, .string X] 176)).drew W -> Calls Tryz.prog 263 #[.agg #[.int .i64 cc.op, .int .i64 cc.a, .string X], .slice (some ⟨g, 0, none⟩) 0 0, .slice V vs.length vc, .slice S ss.length sc] W fun e w' => e = .returned (.tuple #[.int .i64 mm.1, .int .i64 mm.2]) /\ Below W.heap.size W w') := by
       intro W hW;have hb := HP.out.1.trans ((HBX.out.trans (hW.mono HSZ.out)).mono HP.out.1.size);have h := made0_any cc.op cc.a X (.slice (some ⟨g, 0, none⟩) 0 0) _ _ vs ss W hle (some ⟨g, 0, none⟩) 0 rfl (HV.out.below hb) hvl (HS.out.below hb) hsl;rw [<- HCE.out, hmv] at h;exact h
      have HTK' := own_take' hown;rw [HTV.out] at HTK';have HTK := Lib.hid HTK';clear hown HTK' hmm hmv hN hdl hrd hle;have hz := HP.out.1.size;rcases HNX.out with ⟨he, hK1⟩ | ⟨he, hE⟩
      ·have HK1 := Lib.hid hK1; have HE := Lib.hid he;clear hK1 he hfm hon
       go_wp2_with fail
       refine (hop.out _).mono ?_;rintro e w1 ⟨rfl, rfl⟩
       go_wp2_with fail
       refine Ow.region_own' 52 [Ow.eqR (.agg #[.int .i64 cc.op, .int .i64 cc.a, .string X]), Ow.eqR (.slice (some ⟨g, 0, none⟩) cap cap), Ow.eqR (.int .i64 (cap : Int)), Ow.eqR (.slice (some ⟨g, 0, none⟩) 0 0), Ow.eqR (.slice V vs.length vc), Ow.eqR (.slice S ss.length sc), Ow.eqR (.tuple #[.int .i64 mm.1, .int .i64 mm.2]), Ow.eqR (.tuple #[.int .i64 mm.1, .int .i64 mm.2]), Ow.eqR (.int .i64 mm.1), Ow.eqR (.int .i64 mm.2), Ow.eqR (.int .i64 mm.1), Ow.eqR (.int .i64 mm.2)] [false, false, false, false, false, false, false, false, false, false, false, false] [none, none, none, none, none, none, none, none, none, none, none, none] (by kernel_rfl) rfl (by kernel_rfl) ⟨Ow.keeps_eq _ _, Ow.keeps_eq _ _, Ow.keeps_eq _ _, Ow.keeps_eq _ _, Ow.keeps_eq _ _, Ow.keeps_eq _ _, Ow.keeps_eq _ _, Ow.keeps_eq _ _, Ow.keeps_eq _ _, Ow.keeps_eq _ _, Ow.keeps_eq _ _, Ow.keeps_eq _ _, trivial⟩ ?_;refine Ow.walk_q ?_ fun x30 => ?_
       ·intro w1 hb hd ho K hK;clear hd ho;have c0 : w1.cell? ⟨wr.heap.size, 0, none⟩ = some (.int .i64 cc.op) := (hb.cell (by simp)).trans (by simp);have c1 : w1.cell? ⟨wr.heap.size, 1, none⟩ = some (.int .i64 cc.a) := (hb.cell (by simp)).trans (by simp);have c2 : w1.cell? ⟨wr.heap.size, 2, none⟩ = some (.string X) := (hb.cell (by simp)).trans (by simp);go_simp;exact hK _ _ (Ow.good_same rfl rfl rfl)
       refine Ow.walk_q ?_ fun x31 => ?_
       ·intro w1 hb hd ho K hK;clear hd ho;go_simp;exact hK _ _ (Ow.good_same rfl rfl rfl)
       refine Ow.walk_q ?_ fun x32 => ?_
       ·intro w1 hb hd ho K hK;clear hd ho;go_simp;exact hK _ _ (Ow.good_same rfl rfl rfl)
       refine Ow.walk_q ?_ fun x33 => ?_
       ·intro w1 hb hd ho K hK;obtain rfl : _ = x31 := Eq.symm (hd 1 (by kernel_rfl));obtain rfl : _ = x32 := Eq.symm (hd 2 (by kernel_rfl));clear hd ho;go_simp;exact hK _ _ (Ow.good_same rfl rfl rfl)
       refine Ow.walk_q ?_ fun x34 => ?_
       ·intro w1 hb hd ho K hK;clear hd ho;go_simp;exact hK _ _ (Ow.good_same rfl rfl rfl)
       refine Ow.walk_q ?_ fun x35 => ?_
       ·intro w1 hb hd ho K hK;clear hd ho;go_simp;exact hK _ _ (Ow.good_same rfl rfl rfl)
       refine Ow.walk_q ?_ fun x36 => ?_
       ·intro w1 hb hd ho K hK;obtain rfl : _ = x30 := Eq.symm (hd 0 (by kernel_rfl));obtain rfl : _ = x33 := Eq.symm (hd 3 (by kernel_rfl));obtain rfl : _ = x34 := Eq.symm (hd 4 (by kernel_rfl));obtain rfl : _ = x35 := Eq.symm (hd 5 (by kernel_rfl));clear hd ho;go_simp;refine (HM.out w1 hb).mono ?_;rintro e w2 ⟨rfl, hb2⟩;go_simp;exact hK _ _ (Ow.good_below rfl rfl hb2 rfl)
       refine Ow.walk_q ?_ fun x29 => ?_
       ·intro w1 hb hd ho K hK;obtain rfl : _ = x36 := Eq.symm (hd 6 (by kernel_rfl));clear hd ho;go_simp;exact hK _ _ (Ow.good_same rfl rfl rfl)
       refine Ow.walk_q ?_ fun x37 => ?_
       ·intro w1 hb hd ho K hK;obtain rfl : _ = x29 := Eq.symm (hd 7 (by kernel_rfl));clear hd ho;go_simp;exact hK _ _ (Ow.good_same rfl rfl rfl)
       refine Ow.walk_q ?_ fun x38 => ?_
       ·intro w1 hb hd ho K hK;obtain rfl : _ = x29 := Eq.symm (hd 7 (by kernel_rfl));clear hd ho;go_simp;exact hK _ _ (Ow.good_same rfl rfl rfl)
       refine Ow.walk_q ?_ fun x12 => ?_
       ·intro w1 hb hd ho K hK;obtain rfl : _ = x37 := Eq.symm (hd 8 (by kernel_rfl));clear hd ho;go_simp;exact hK _ _ (Ow.good_same rfl rfl rfl)
       refine Ow.walk_q ?_ fun x13 => ?_
       ·intro w1 hb hd ho K hK;obtain rfl : _ = x38 := Eq.symm (hd 9 (by kernel_rfl));clear hd ho;go_simp;exact hK _ _ (Ow.good_same rfl rfl rfl)
       refine Ow.walk_nil rfl (fun w1 hb hd => ?_);obtain rfl : _ = x30 := Eq.symm (hd 0 (by kernel_rfl));obtain rfl : _ = x31 := Eq.symm (hd 1 (by kernel_rfl));obtain rfl : _ = x32 := Eq.symm (hd 2 (by kernel_rfl));obtain rfl : _ = x33 := Eq.symm (hd 3 (by kernel_rfl));obtain rfl : _ = x34 := Eq.symm (hd 4 (by kernel_rfl));obtain rfl : _ = x35 := Eq.symm (hd 5 (by kernel_rfl));obtain rfl : _ = x36 := Eq.symm (hd 6 (by kernel_rfl));obtain rfl : _ = x29 := Eq.symm (hd 7 (by kernel_rfl));obtain rfl : _ = x37 := Eq.symm (hd 8 (by kernel_rfl));obtain rfl : _ = x38 := Eq.symm (hd 9 (by kernel_rfl));obtain rfl : _ = x12 := Eq.symm (hd 10 (by kernel_rfl));obtain rfl : _ = x13 := Eq.symm (hd 11 (by kernel_rfl));clear hd;have HBB : Hid (Below wr.heap.size wr w1) := HBX.out.trans (hb.mono HSZ.out);clear hb;go_simp;rw [HE.out];have hown1 := own_below HTK.out HBB.out;have hz1 := HBB.out.size;have HO1 := Lib.hid hown1; clear hown1
       go_wp2_with (at_builtin; refine wpList_append_own _ rfl _ _ 29 rfl w.heap.size 3 i0 _ 1 8 Tryz.underlying29 HI.out HZ0.out HZ1.out HZ2.out rfl (by decide) _ cap (kv (st.take cap)) rfl (HO1.out.alloc _) ⟨w1.heap.size, 0, none⟩ 1 1 [.int .i64 mm.1] rfl rfl (one_int w1 _) (by intro u hu; simp at hu; subst hu; rfl) (by unfold maxLen; omega) (by omega) (by simp; omega) ?_)
       intro v' w2 hown' hgrow _;have HO2 : Hid (w2.ownsRow w.heap.size 3 1 v' (cap + 1) (kv (st.take cap ++ [mm.1]))) := by
        show World.ownsRow _ _ _ _ _ _ _;have e : kv (st.take cap ++ [mm.1]) = kv (st.take cap) ++ [.int .i64 mm.1] := by simp [kv]
        rw [e]; exact hown'
       have HB2 : Hid (Below w.heap.size w w2) := by
        have h1 := (HP.out.1.trans (HBB.out.mono HP.out.1.size)).alloc (by omega) (.cells #[.int .i64 mm.1] 3);exact h1.grown hgrow (by simp; omega) (fun k hk => (HO1.out.lt k hk).1)
       clear hown' hgrow;go_wp2
       go_roundw
       case rel => exact ⟨rfl, rfl, k + 1, st.take cap ++ [mm.1], by omega, by go_num, HK1.out, HB2.out, by simpa [HTL.out] using HO2.out⟩
       case measure => simp [intOf]; omega
      ·have HE := Lib.hid hE;have te := (bne_iff_ne (a := mm.2) (b := 0)).2 he;clear hE he hfm hon
       go_wp2_with fail
       refine (hop.out _).mono ?_;rintro e w1 ⟨rfl, rfl⟩
       go_wp2_with fail
       refine Ow.region_own' 52 [Ow.eqR (.agg #[.int .i64 cc.op, .int .i64 cc.a, .string X]), Ow.eqR (.slice (some ⟨g, 0, none⟩) cap cap), Ow.eqR (.int .i64 (cap : Int)), Ow.eqR (.slice (some ⟨g, 0, none⟩) 0 0), Ow.eqR (.slice V vs.length vc), Ow.eqR (.slice S ss.length sc), Ow.eqR (.tuple #[.int .i64 mm.1, .int .i64 mm.2]), Ow.eqR (.tuple #[.int .i64 mm.1, .int .i64 mm.2]), Ow.eqR (.int .i64 mm.1), Ow.eqR (.int .i64 mm.2), Ow.eqR (.int .i64 mm.1), Ow.eqR (.int .i64 mm.2)] [false, false, false, false, false, false, false, false, false, false, false, false] [none, none, none, none, none, none, none, none, none, none, none, none] (by kernel_rfl) rfl (by kernel_rfl) ⟨Ow.keeps_eq _ _, Ow.keeps_eq _ _, Ow.keeps_eq _ _, Ow.keeps_eq _ _, Ow.keeps_eq _ _, Ow.keeps_eq _ _, Ow.keeps_eq _ _, Ow.keeps_eq _ _, Ow.keeps_eq _ _, Ow.keeps_eq _ _, Ow.keeps_eq _ _, Ow.keeps_eq _ _, trivial⟩ ?_;refine Ow.walk_q ?_ fun x30 => ?_
       ·intro w1 hb hd ho K hK;clear hd ho;have c0 : w1.cell? ⟨wr.heap.size, 0, none⟩ = some (.int .i64 cc.op) := (hb.cell (by simp)).trans (by simp);have c1 : w1.cell? ⟨wr.heap.size, 1, none⟩ = some (.int .i64 cc.a) := (hb.cell (by simp)).trans (by simp);have c2 : w1.cell? ⟨wr.heap.size, 2, none⟩ = some (.string X) := (hb.cell (by simp)).trans (by simp);go_simp;exact hK _ _ (Ow.good_same rfl rfl rfl)
       refine Ow.walk_q ?_ fun x31 => ?_
       ·intro w1 hb hd ho K hK;clear hd ho;go_simp;exact hK _ _ (Ow.good_same rfl rfl rfl)
       refine Ow.walk_q ?_ fun x32 => ?_
       ·intro w1 hb hd ho K hK;clear hd ho;go_simp;exact hK _ _ (Ow.good_same rfl rfl rfl)
       refine Ow.walk_q ?_ fun x33 => ?_
       ·intro w1 hb hd ho K hK;obtain rfl : _ = x31 := Eq.symm (hd 1 (by kernel_rfl));obtain rfl : _ = x32 := Eq.symm (hd 2 (by kernel_rfl));clear hd ho;go_simp;exact hK _ _ (Ow.good_same rfl rfl rfl)
       refine Ow.walk_q ?_ fun x34 => ?_
       ·intro w1 hb hd ho K hK;clear hd ho;go_simp;exact hK _ _ (Ow.good_same rfl rfl rfl)
       refine Ow.walk_q ?_ fun x35 => ?_
       ·intro w1 hb hd ho K hK;clear hd ho;go_simp;exact hK _ _ (Ow.good_same rfl rfl rfl)
       refine Ow.walk_q ?_ fun x36 => ?_
       ·intro w1 hb hd ho K hK;obtain rfl : _ = x30 := Eq.symm (hd 0 (by kernel_rfl));obtain rfl : _ = x33 := Eq.symm (hd 3 (by kernel_rfl));obtain rfl : _ = x34 := Eq.symm (hd 4 (by kernel_rfl));obtain rfl : _ = x35 := Eq.symm (hd 5 (by kernel_rfl));clear hd ho;go_simp;refine (HM.out w1 hb).mono ?_;rintro e w2 ⟨rfl, hb2⟩;go_simp;exact hK _ _ (Ow.good_below rfl rfl hb2 rfl)
       refine Ow.walk_q ?_ fun x29 => ?_
       ·intro w1 hb hd ho K hK;obtain rfl : _ = x36 := Eq.symm (hd 6 (by kernel_rfl));clear hd ho;go_simp;exact hK _ _ (Ow.good_same rfl rfl rfl)
       refine Ow.walk_q ?_ fun x37 => ?_
       ·intro w1 hb hd ho K hK;obtain rfl : _ = x29 := Eq.symm (hd 7 (by kernel_rfl));clear hd ho;go_simp;exact hK _ _ (Ow.good_same rfl rfl rfl)
       refine Ow.walk_q ?_ fun x38 => ?_
       ·intro w1 hb hd ho K hK;obtain rfl : _ = x29 := Eq.symm (hd 7 (by kernel_rfl));clear hd ho;go_simp;exact hK _ _ (Ow.good_same rfl rfl rfl)
       refine Ow.walk_q ?_ fun x12 => ?_
       ·intro w1 hb hd ho K hK;obtain rfl : _ = x37 := Eq.symm (hd 8 (by kernel_rfl));clear hd ho;go_simp;exact hK _ _ (Ow.good_same rfl rfl rfl)
       refine Ow.walk_q ?_ fun x13 => ?_
       ·intro w1 hb hd ho K hK;obtain rfl : _ = x38 := Eq.symm (hd 9 (by kernel_rfl));clear hd ho;go_simp;exact hK _ _ (Ow.good_same rfl rfl rfl)
       refine Ow.walk_nil rfl (fun w1 hb hd => ?_);obtain rfl : _ = x30 := Eq.symm (hd 0 (by kernel_rfl));obtain rfl : _ = x31 := Eq.symm (hd 1 (by kernel_rfl));obtain rfl : _ = x32 := Eq.symm (hd 2 (by kernel_rfl));obtain rfl : _ = x33 := Eq.symm (hd 3 (by kernel_rfl));obtain rfl : _ = x34 := Eq.symm (hd 4 (by kernel_rfl));obtain rfl : _ = x35 := Eq.symm (hd 5 (by kernel_rfl));obtain rfl : _ = x36 := Eq.symm (hd 6 (by kernel_rfl));obtain rfl : _ = x29 := Eq.symm (hd 7 (by kernel_rfl));obtain rfl : _ = x37 := Eq.symm (hd 8 (by kernel_rfl));obtain rfl : _ = x38 := Eq.symm (hd 9 (by kernel_rfl));obtain rfl : _ = x12 := Eq.symm (hd 10 (by kernel_rfl));obtain rfl : _ = x13 := Eq.symm (hd 11 (by kernel_rfl));clear hd;have HBB : Hid (Below wr.heap.size wr w1) := HBX.out.trans (hb.mono HSZ.out);clear hb;go_simp;go_wp2;go_ret2;refine ⟨ret_pair ?_, HP.out.1.trans (HBB.out.mono HP.out.1.size)⟩;unfold kindP;rw [if_pos HBT.out, HE.out]
     ·skip
      have HBX : Hid (Below wr.heap.size wr (wr.alloc (.cells #[.int .i64 cc.op, .int .i64 cc.a, .string X] 176)).drew) := ((Below.refl _ _).alloc (Nat.le_refl _) _).drew;have HSZ : Hid (wr.heap.size <= (wr.alloc (.cells #[.int .i64 cc.op, .int .i64 cc.a, .string X] 176)).drew.heap.size) := HBX.out.size;have hcn1 : n0 < cap := by omega
      have hcn2 : (cap : Int) ≠ n0 := by omega
      have HM : Hid (∀ W, Below (wr.alloc (.cells #[.int .i64 cc.op, .int .i64 cc.a, .string X] 176)).heap.size (wr.alloc (.cells #[.int .i64 cc.op, .int .i64 cc.a, .string X] 176)).drew W -> Calls Tryz.prog 263 #[.agg #[.int .i64 cc.op, .int .i64 cc.a, .string X], .slice (some ⟨g, n0, none⟩) 0 (cap - n0), .slice V vs.length vc, .slice S ss.length sc] W fun e w' => e = .returned (.tuple #[.int .i64 mm.1, .int .i64 mm.2]) /\ Below W.heap.size W w') := by
       intro W hW;have hb := HP.out.1.trans ((HBX.out.trans (hW.mono HSZ.out)).mono HP.out.1.size);have h := made0_any cc.op cc.a X (.slice (some ⟨g, n0, none⟩) 0 (cap - n0)) _ _ vs ss W hle (some ⟨g, n0, none⟩) (cap - n0) rfl (HV.out.below hb) hvl (HS.out.below hb) hsl;rw [<- HCE.out, hmv] at h;exact h
      have HTK' := own_take' hown;rw [HTV.out] at HTK';have HTK := Lib.hid HTK';clear hown HTK' hmm hmv hN hdl hrd hle;have hz := HP.out.1.size;rcases HNX.out with ⟨he, hK1⟩ | ⟨he, hE⟩
      ·have HK1 := Lib.hid hK1; have HE := Lib.hid he;clear hK1 he hfm hon
       go_wp2_with fail
       refine (hop.out _).mono ?_;rintro e w1 ⟨rfl, rfl⟩
       go_wp2_with fail
       refine Ow.region_own' 52 [Ow.eqR (.agg #[.int .i64 cc.op, .int .i64 cc.a, .string X]), Ow.eqR (.slice (some ⟨g, 0, none⟩) n0 cap), Ow.eqR (.int .i64 (n0 : Int)), Ow.eqR (.slice (some ⟨g, n0, none⟩) 0 (cap - n0)), Ow.eqR (.slice V vs.length vc), Ow.eqR (.slice S ss.length sc), Ow.eqR (.tuple #[.int .i64 mm.1, .int .i64 mm.2]), Ow.eqR (.tuple #[.int .i64 mm.1, .int .i64 mm.2]), Ow.eqR (.int .i64 mm.1), Ow.eqR (.int .i64 mm.2), Ow.eqR (.int .i64 mm.1), Ow.eqR (.int .i64 mm.2)] [false, false, false, false, false, false, false, false, false, false, false, false] [none, none, none, none, none, none, none, none, none, none, none, none] (by kernel_rfl) rfl (by kernel_rfl) ⟨Ow.keeps_eq _ _, Ow.keeps_eq _ _, Ow.keeps_eq _ _, Ow.keeps_eq _ _, Ow.keeps_eq _ _, Ow.keeps_eq _ _, Ow.keeps_eq _ _, Ow.keeps_eq _ _, Ow.keeps_eq _ _, Ow.keeps_eq _ _, Ow.keeps_eq _ _, Ow.keeps_eq _ _, trivial⟩ ?_;refine Ow.walk_q ?_ fun x30 => ?_
       ·intro w1 hb hd ho K hK;clear hd ho;have c0 : w1.cell? ⟨wr.heap.size, 0, none⟩ = some (.int .i64 cc.op) := (hb.cell (by simp)).trans (by simp);have c1 : w1.cell? ⟨wr.heap.size, 1, none⟩ = some (.int .i64 cc.a) := (hb.cell (by simp)).trans (by simp);have c2 : w1.cell? ⟨wr.heap.size, 2, none⟩ = some (.string X) := (hb.cell (by simp)).trans (by simp);go_simp;exact hK _ _ (Ow.good_same rfl rfl rfl)
       refine Ow.walk_q ?_ fun x31 => ?_
       ·intro w1 hb hd ho K hK;clear hd ho;go_simp;exact hK _ _ (Ow.good_same rfl rfl rfl)
       refine Ow.walk_q ?_ fun x32 => ?_
       ·intro w1 hb hd ho K hK;clear hd ho;go_simp;exact hK _ _ (Ow.good_same rfl rfl rfl)
       refine Ow.walk_q ?_ fun x33 => ?_
       ·intro w1 hb hd ho K hK;obtain rfl : _ = x31 := Eq.symm (hd 1 (by kernel_rfl));obtain rfl : _ = x32 := Eq.symm (hd 2 (by kernel_rfl));clear hd ho;go_simp;exact hK _ _ (Ow.good_same rfl rfl rfl)
       refine Ow.walk_q ?_ fun x34 => ?_
       ·intro w1 hb hd ho K hK;clear hd ho;go_simp;exact hK _ _ (Ow.good_same rfl rfl rfl)
       refine Ow.walk_q ?_ fun x35 => ?_
       ·intro w1 hb hd ho K hK;clear hd ho;go_simp;exact hK _ _ (Ow.good_same rfl rfl rfl)
       refine Ow.walk_q ?_ fun x36 => ?_
       ·intro w1 hb hd ho K hK;obtain rfl : _ = x30 := Eq.symm (hd 0 (by kernel_rfl));obtain rfl : _ = x33 := Eq.symm (hd 3 (by kernel_rfl));obtain rfl : _ = x34 := Eq.symm (hd 4 (by kernel_rfl));obtain rfl : _ = x35 := Eq.symm (hd 5 (by kernel_rfl));clear hd ho;go_simp;refine (HM.out w1 hb).mono ?_;rintro e w2 ⟨rfl, hb2⟩;go_simp;exact hK _ _ (Ow.good_below rfl rfl hb2 rfl)
       refine Ow.walk_q ?_ fun x29 => ?_
       ·intro w1 hb hd ho K hK;obtain rfl : _ = x36 := Eq.symm (hd 6 (by kernel_rfl));clear hd ho;go_simp;exact hK _ _ (Ow.good_same rfl rfl rfl)
       refine Ow.walk_q ?_ fun x37 => ?_
       ·intro w1 hb hd ho K hK;obtain rfl : _ = x29 := Eq.symm (hd 7 (by kernel_rfl));clear hd ho;go_simp;exact hK _ _ (Ow.good_same rfl rfl rfl)
       refine Ow.walk_q ?_ fun x38 => ?_
       ·intro w1 hb hd ho K hK;obtain rfl : _ = x29 := Eq.symm (hd 7 (by kernel_rfl));clear hd ho;go_simp;exact hK _ _ (Ow.good_same rfl rfl rfl)
       refine Ow.walk_q ?_ fun x12 => ?_
       ·intro w1 hb hd ho K hK;obtain rfl : _ = x37 := Eq.symm (hd 8 (by kernel_rfl));clear hd ho;go_simp;exact hK _ _ (Ow.good_same rfl rfl rfl)
       refine Ow.walk_q ?_ fun x13 => ?_
       ·intro w1 hb hd ho K hK;obtain rfl : _ = x38 := Eq.symm (hd 9 (by kernel_rfl));clear hd ho;go_simp;exact hK _ _ (Ow.good_same rfl rfl rfl)
       refine Ow.walk_nil rfl (fun w1 hb hd => ?_);obtain rfl : _ = x30 := Eq.symm (hd 0 (by kernel_rfl));obtain rfl : _ = x31 := Eq.symm (hd 1 (by kernel_rfl));obtain rfl : _ = x32 := Eq.symm (hd 2 (by kernel_rfl));obtain rfl : _ = x33 := Eq.symm (hd 3 (by kernel_rfl));obtain rfl : _ = x34 := Eq.symm (hd 4 (by kernel_rfl));obtain rfl : _ = x35 := Eq.symm (hd 5 (by kernel_rfl));obtain rfl : _ = x36 := Eq.symm (hd 6 (by kernel_rfl));obtain rfl : _ = x29 := Eq.symm (hd 7 (by kernel_rfl));obtain rfl : _ = x37 := Eq.symm (hd 8 (by kernel_rfl));obtain rfl : _ = x38 := Eq.symm (hd 9 (by kernel_rfl));obtain rfl : _ = x12 := Eq.symm (hd 10 (by kernel_rfl));obtain rfl : _ = x13 := Eq.symm (hd 11 (by kernel_rfl));clear hd;have HBB : Hid (Below wr.heap.size wr w1) := HBX.out.trans (hb.mono HSZ.out);clear hb;go_simp;rw [HE.out];have hown1 := own_below HTK.out HBB.out;have hz1 := HBB.out.size;have HO1 := Lib.hid hown1; clear hown1
       go_wp2_with (at_builtin; refine wpList_append_own _ rfl _ _ 29 rfl w.heap.size 3 i0 _ 1 8 Tryz.underlying29 HI.out HZ0.out HZ1.out HZ2.out rfl (by decide) _ n0 (kv (st.take n0)) rfl (HO1.out.alloc _) ⟨w1.heap.size, 0, none⟩ 1 1 [.int .i64 mm.1] rfl rfl (one_int w1 _) (by intro u hu; simp at hu; subst hu; rfl) (by unfold maxLen; omega) (by omega) (by simp; omega) ?_)
       intro v' w2 hown' hgrow _;have HO2 : Hid (w2.ownsRow w.heap.size 3 1 v' (n0 + 1) (kv (st.take n0 ++ [mm.1]))) := by
        show World.ownsRow _ _ _ _ _ _ _;have e : kv (st.take n0 ++ [mm.1]) = kv (st.take n0) ++ [.int .i64 mm.1] := by simp [kv]
        rw [e]; exact hown'
       have HB2 : Hid (Below w.heap.size w w2) := by
        have h1 := (HP.out.1.trans (HBB.out.mono HP.out.1.size)).alloc (by omega) (.cells #[.int .i64 mm.1] 3);exact h1.grown hgrow (by simp; omega) (fun k hk => (HO1.out.lt k hk).1)
       clear hown' hgrow;go_wp2
       go_roundw
       case rel => exact ⟨rfl, rfl, k + 1, st.take n0 ++ [mm.1], by omega, by go_num, HK1.out, HB2.out, by simpa [HTL.out] using HO2.out⟩
       case measure => simp [intOf]; omega
      ·have HE := Lib.hid hE;have te := (bne_iff_ne (a := mm.2) (b := 0)).2 he;clear hE he hfm hon
       go_wp2_with fail
       refine (hop.out _).mono ?_;rintro e w1 ⟨rfl, rfl⟩
       go_wp2_with fail
       refine Ow.region_own' 52 [Ow.eqR (.agg #[.int .i64 cc.op, .int .i64 cc.a, .string X]), Ow.eqR (.slice (some ⟨g, 0, none⟩) n0 cap), Ow.eqR (.int .i64 (n0 : Int)), Ow.eqR (.slice (some ⟨g, n0, none⟩) 0 (cap - n0)), Ow.eqR (.slice V vs.length vc), Ow.eqR (.slice S ss.length sc), Ow.eqR (.tuple #[.int .i64 mm.1, .int .i64 mm.2]), Ow.eqR (.tuple #[.int .i64 mm.1, .int .i64 mm.2]), Ow.eqR (.int .i64 mm.1), Ow.eqR (.int .i64 mm.2), Ow.eqR (.int .i64 mm.1), Ow.eqR (.int .i64 mm.2)] [false, false, false, false, false, false, false, false, false, false, false, false] [none, none, none, none, none, none, none, none, none, none, none, none] (by kernel_rfl) rfl (by kernel_rfl) ⟨Ow.keeps_eq _ _, Ow.keeps_eq _ _, Ow.keeps_eq _ _, Ow.keeps_eq _ _, Ow.keeps_eq _ _, Ow.keeps_eq _ _, Ow.keeps_eq _ _, Ow.keeps_eq _ _, Ow.keeps_eq _ _, Ow.keeps_eq _ _, Ow.keeps_eq _ _, Ow.keeps_eq _ _, trivial⟩ ?_;refine Ow.walk_q ?_ fun x30 => ?_
       ·intro w1 hb hd ho K hK;clear hd ho;have c0 : w1.cell? ⟨wr.heap.size, 0, none⟩ = some (.int .i64 cc.op) := (hb.cell (by simp)).trans (by simp);have c1 : w1.cell? ⟨wr.heap.size, 1, none⟩ = some (.int .i64 cc.a) := (hb.cell (by simp)).trans (by simp);have c2 : w1.cell? ⟨wr.heap.size, 2, none⟩ = some (.string X) := (hb.cell (by simp)).trans (by simp);go_simp;exact hK _ _ (Ow.good_same rfl rfl rfl)
       refine Ow.walk_q ?_ fun x31 => ?_
       ·intro w1 hb hd ho K hK;clear hd ho;go_simp;exact hK _ _ (Ow.good_same rfl rfl rfl)
       refine Ow.walk_q ?_ fun x32 => ?_
       ·intro w1 hb hd ho K hK;clear hd ho;go_simp;exact hK _ _ (Ow.good_same rfl rfl rfl)
       refine Ow.walk_q ?_ fun x33 => ?_
       ·intro w1 hb hd ho K hK;obtain rfl : _ = x31 := Eq.symm (hd 1 (by kernel_rfl));obtain rfl : _ = x32 := Eq.symm (hd 2 (by kernel_rfl));clear hd ho;go_simp;exact hK _ _ (Ow.good_same rfl rfl rfl)
       refine Ow.walk_q ?_ fun x34 => ?_
       ·intro w1 hb hd ho K hK;clear hd ho;go_simp;exact hK _ _ (Ow.good_same rfl rfl rfl)
       refine Ow.walk_q ?_ fun x35 => ?_
       ·intro w1 hb hd ho K hK;clear hd ho;go_simp;exact hK _ _ (Ow.good_same rfl rfl rfl)
       refine Ow.walk_q ?_ fun x36 => ?_
       ·intro w1 hb hd ho K hK;obtain rfl : _ = x30 := Eq.symm (hd 0 (by kernel_rfl));obtain rfl : _ = x33 := Eq.symm (hd 3 (by kernel_rfl));obtain rfl : _ = x34 := Eq.symm (hd 4 (by kernel_rfl));obtain rfl : _ = x35 := Eq.symm (hd 5 (by kernel_rfl));clear hd ho;go_simp;refine (HM.out w1 hb).mono ?_;rintro e w2 ⟨rfl, hb2⟩;go_simp;exact hK _ _ (Ow.good_below rfl rfl hb2 rfl)
       refine Ow.walk_q ?_ fun x29 => ?_
       ·intro w1 hb hd ho K hK;obtain rfl : _ = x36 := Eq.symm (hd 6 (by kernel_rfl));clear hd ho;go_simp;exact hK _ _ (Ow.good_same rfl rfl rfl)
       refine Ow.walk_q ?_ fun x37 => ?_
       ·intro w1 hb hd ho K hK;obtain rfl : _ = x29 := Eq.symm (hd 7 (by kernel_rfl));clear hd ho;go_simp;exact hK _ _ (Ow.good_same rfl rfl rfl)
       refine Ow.walk_q ?_ fun x38 => ?_
       ·intro w1 hb hd ho K hK;obtain rfl : _ = x29 := Eq.symm (hd 7 (by kernel_rfl));clear hd ho;go_simp;exact hK _ _ (Ow.good_same rfl rfl rfl)
       refine Ow.walk_q ?_ fun x12 => ?_
       ·intro w1 hb hd ho K hK;obtain rfl : _ = x37 := Eq.symm (hd 8 (by kernel_rfl));clear hd ho;go_simp;exact hK _ _ (Ow.good_same rfl rfl rfl)
       refine Ow.walk_q ?_ fun x13 => ?_
       ·intro w1 hb hd ho K hK;obtain rfl : _ = x38 := Eq.symm (hd 9 (by kernel_rfl));clear hd ho;go_simp;exact hK _ _ (Ow.good_same rfl rfl rfl)
       refine Ow.walk_nil rfl (fun w1 hb hd => ?_);obtain rfl : _ = x30 := Eq.symm (hd 0 (by kernel_rfl));obtain rfl : _ = x31 := Eq.symm (hd 1 (by kernel_rfl));obtain rfl : _ = x32 := Eq.symm (hd 2 (by kernel_rfl));obtain rfl : _ = x33 := Eq.symm (hd 3 (by kernel_rfl));obtain rfl : _ = x34 := Eq.symm (hd 4 (by kernel_rfl));obtain rfl : _ = x35 := Eq.symm (hd 5 (by kernel_rfl));obtain rfl : _ = x36 := Eq.symm (hd 6 (by kernel_rfl));obtain rfl : _ = x29 := Eq.symm (hd 7 (by kernel_rfl));obtain rfl : _ = x37 := Eq.symm (hd 8 (by kernel_rfl));obtain rfl : _ = x38 := Eq.symm (hd 9 (by kernel_rfl));obtain rfl : _ = x12 := Eq.symm (hd 10 (by kernel_rfl));obtain rfl : _ = x13 := Eq.symm (hd 11 (by kernel_rfl));clear hd;have HBB : Hid (Below wr.heap.size wr w1) := HBX.out.trans (hb.mono HSZ.out);clear hb;go_simp;go_wp2;go_ret2;refine ⟨ret_pair ?_, HP.out.1.trans (HBB.out.mono HP.out.1.size)⟩;unfold kindP;rw [if_pos HBT.out, HE.out]
   ·rw [hN] at hown hform hop hdl;have hle := operN_one hN;obtain ⟨x, hx⟩ := len_one hdl;have hxr := hrd x (by rw [hx]; simp);have hmm : madeK vs ss cc (st.drop n0) = errK (unK cc.op x) := by rw [hx]; unfold madeK; rw [hN]; rfl
    rw [hmm] at HNX;obtain ⟨mm, hmv⟩ : ∃ mm, errK (unK cc.op x) = mm := ⟨_, rfl⟩
    rw [hmv] at HNX;rcases hform with ⟨_, h0⟩ | ⟨g, cap, rfl, hcap, hcm⟩
    ·omega
    ·have hgx : wr.cell? ⟨g, n0, none⟩ = some (.int .i64 x) := by
      rw [hown.cellAt n0 (by omega), HDK.out, List.getElem?_append_right (by rw [kv_length, HTL.out]; omega), kv_length, HTL.out, Nat.sub_self, hx]; rfl
     rw [hx] at hrd hdl;clear hx;have HBX : Hid (Below wr.heap.size wr (wr.alloc (.cells #[.int .i64 cc.op, .int .i64 cc.a, .string X] 176)).drew) := ((Below.refl _ _).alloc (Nat.le_refl _) _).drew;have HSZ : Hid (wr.heap.size <= (wr.alloc (.cells #[.int .i64 cc.op, .int .i64 cc.a, .string X] 176)).drew.heap.size) := HBX.out.size;have hcn1 : n0 < cap := by omega
     have hcn2 : (cap : Int) ≠ n0 := by omega
     have HM : Hid (∀ W, Below (wr.alloc (.cells #[.int .i64 cc.op, .int .i64 cc.a, .string X] 176)).heap.size (wr.alloc (.cells #[.int .i64 cc.op, .int .i64 cc.a, .string X] 176)).drew W -> Calls Tryz.prog 263 #[.agg #[.int .i64 cc.op, .int .i64 cc.a, .string X], .slice (some ⟨g, n0, none⟩) 1 (cap - n0), .slice V vs.length vc, .slice S ss.length sc] W fun e w' => e = .returned (.tuple #[.int .i64 mm.1, .int .i64 mm.2]) /\ Below W.heap.size W w') := by
      intro W hW;have hb := HP.out.1.trans ((HBX.out.trans (hW.mono HSZ.out)).mono HP.out.1.size);have hb2 := HBX.out.trans (hW.mono HSZ.out);have h := made1_any cc.op cc.a X _ _ _ x W hle hxr g n0 (cap - n0) rfl ((hb2.cell (cell_lt hgx)).trans hgx) (RdV.form (HV.out.below hb) |>.imp fun _ h => ⟨_, h⟩) (RdW.form (HS.out.below hb) |>.imp fun _ h => ⟨_, h⟩);rw [hmv] at h;exact h
     have HTK' := own_take' hown;rw [HTV.out] at HTK';have HTK := Lib.hid HTK';clear hown HTK' hmm hmv hN hdl hrd hle hgx hxr;have hz := HP.out.1.size;rcases HNX.out with ⟨he, hK1⟩ | ⟨he, hE⟩
     ·have HK1 := Lib.hid hK1; have HE := Lib.hid he;clear hK1 he hfm hon
      go_wp2_with fail
      refine (hop.out _).mono ?_;rintro e w1 ⟨rfl, rfl⟩
      go_wp2_with fail
      refine Ow.region_own' 52 [Ow.eqR (.agg #[.int .i64 cc.op, .int .i64 cc.a, .string X]), Ow.eqR (.slice (some ⟨g, 0, none⟩) (n0 + 1) cap), Ow.eqR (.int .i64 (n0 : Int)), Ow.eqR (.slice (some ⟨g, n0, none⟩) 1 (cap - n0)), Ow.eqR (.slice V vs.length vc), Ow.eqR (.slice S ss.length sc), Ow.eqR (.tuple #[.int .i64 mm.1, .int .i64 mm.2]), Ow.eqR (.tuple #[.int .i64 mm.1, .int .i64 mm.2]), Ow.eqR (.int .i64 mm.1), Ow.eqR (.int .i64 mm.2), Ow.eqR (.int .i64 mm.1), Ow.eqR (.int .i64 mm.2)] [false, false, false, false, false, false, false, false, false, false, false, false] [none, none, none, none, none, none, none, none, none, none, none, none] (by kernel_rfl) rfl (by kernel_rfl) ⟨Ow.keeps_eq _ _, Ow.keeps_eq _ _, Ow.keeps_eq _ _, Ow.keeps_eq _ _, Ow.keeps_eq _ _, Ow.keeps_eq _ _, Ow.keeps_eq _ _, Ow.keeps_eq _ _, Ow.keeps_eq _ _, Ow.keeps_eq _ _, Ow.keeps_eq _ _, Ow.keeps_eq _ _, trivial⟩ ?_;refine Ow.walk_q ?_ fun x30 => ?_
      ·intro w1 hb hd ho K hK;clear hd ho;have c0 : w1.cell? ⟨wr.heap.size, 0, none⟩ = some (.int .i64 cc.op) := (hb.cell (by simp)).trans (by simp);have c1 : w1.cell? ⟨wr.heap.size, 1, none⟩ = some (.int .i64 cc.a) := (hb.cell (by simp)).trans (by simp);have c2 : w1.cell? ⟨wr.heap.size, 2, none⟩ = some (.string X) := (hb.cell (by simp)).trans (by simp);go_simp;exact hK _ _ (Ow.good_same rfl rfl rfl)
      refine Ow.walk_q ?_ fun x31 => ?_
      ·intro w1 hb hd ho K hK;clear hd ho;go_simp;exact hK _ _ (Ow.good_same rfl rfl rfl)
      refine Ow.walk_q ?_ fun x32 => ?_
      ·intro w1 hb hd ho K hK;clear hd ho;go_simp;exact hK _ _ (Ow.good_same rfl rfl rfl)
      refine Ow.walk_q ?_ fun x33 => ?_
      ·intro w1 hb hd ho K hK;obtain rfl : _ = x31 := Eq.symm (hd 1 (by kernel_rfl));obtain rfl : _ = x32 := Eq.symm (hd 2 (by kernel_rfl));clear hd ho;have hq : (n0 : Int) <= (n0 : Int) + 1 := by omega
       go_simp;exact hK _ _ (Ow.good_same rfl rfl (by show _ = _; rw [if_neg (by omega)]))
      refine Ow.walk_q ?_ fun x34 => ?_
      ·intro w1 hb hd ho K hK;clear hd ho;go_simp;exact hK _ _ (Ow.good_same rfl rfl rfl)
      refine Ow.walk_q ?_ fun x35 => ?_
      ·intro w1 hb hd ho K hK;clear hd ho;go_simp;exact hK _ _ (Ow.good_same rfl rfl rfl)
      refine Ow.walk_q ?_ fun x36 => ?_
      ·intro w1 hb hd ho K hK;obtain rfl : _ = x30 := Eq.symm (hd 0 (by kernel_rfl));obtain rfl : _ = x33 := Eq.symm (hd 3 (by kernel_rfl));obtain rfl : _ = x34 := Eq.symm (hd 4 (by kernel_rfl));obtain rfl : _ = x35 := Eq.symm (hd 5 (by kernel_rfl));clear hd ho;go_simp;refine (HM.out w1 hb).mono ?_;rintro e w2 ⟨rfl, hb2⟩;go_simp;exact hK _ _ (Ow.good_below rfl rfl hb2 rfl)
      refine Ow.walk_q ?_ fun x29 => ?_
      ·intro w1 hb hd ho K hK;obtain rfl : _ = x36 := Eq.symm (hd 6 (by kernel_rfl));clear hd ho;go_simp;exact hK _ _ (Ow.good_same rfl rfl rfl)
      refine Ow.walk_q ?_ fun x37 => ?_
      ·intro w1 hb hd ho K hK;obtain rfl : _ = x29 := Eq.symm (hd 7 (by kernel_rfl));clear hd ho;go_simp;exact hK _ _ (Ow.good_same rfl rfl rfl)
      refine Ow.walk_q ?_ fun x38 => ?_
      ·intro w1 hb hd ho K hK;obtain rfl : _ = x29 := Eq.symm (hd 7 (by kernel_rfl));clear hd ho;go_simp;exact hK _ _ (Ow.good_same rfl rfl rfl)
      refine Ow.walk_q ?_ fun x12 => ?_
      ·intro w1 hb hd ho K hK;obtain rfl : _ = x37 := Eq.symm (hd 8 (by kernel_rfl));clear hd ho;go_simp;exact hK _ _ (Ow.good_same rfl rfl rfl)
      refine Ow.walk_q ?_ fun x13 => ?_
      ·intro w1 hb hd ho K hK;obtain rfl : _ = x38 := Eq.symm (hd 9 (by kernel_rfl));clear hd ho;go_simp;exact hK _ _ (Ow.good_same rfl rfl rfl)
      refine Ow.walk_nil rfl (fun w1 hb hd => ?_);obtain rfl : _ = x30 := Eq.symm (hd 0 (by kernel_rfl));obtain rfl : _ = x31 := Eq.symm (hd 1 (by kernel_rfl));obtain rfl : _ = x32 := Eq.symm (hd 2 (by kernel_rfl));obtain rfl : _ = x33 := Eq.symm (hd 3 (by kernel_rfl));obtain rfl : _ = x34 := Eq.symm (hd 4 (by kernel_rfl));obtain rfl : _ = x35 := Eq.symm (hd 5 (by kernel_rfl));obtain rfl : _ = x36 := Eq.symm (hd 6 (by kernel_rfl));obtain rfl : _ = x29 := Eq.symm (hd 7 (by kernel_rfl));obtain rfl : _ = x37 := Eq.symm (hd 8 (by kernel_rfl));obtain rfl : _ = x38 := Eq.symm (hd 9 (by kernel_rfl));obtain rfl : _ = x12 := Eq.symm (hd 10 (by kernel_rfl));obtain rfl : _ = x13 := Eq.symm (hd 11 (by kernel_rfl));clear hd;have HBB : Hid (Below wr.heap.size wr w1) := HBX.out.trans (hb.mono HSZ.out);clear hb;go_simp;rw [HE.out];have hown1 := own_below HTK.out HBB.out;have hz1 := HBB.out.size;have HO1 := Lib.hid hown1; clear hown1
      go_wp2_with (at_builtin; refine wpList_append_own _ rfl _ _ 29 rfl w.heap.size 3 i0 _ 1 8 Tryz.underlying29 HI.out HZ0.out HZ1.out HZ2.out rfl (by decide) _ n0 (kv (st.take n0)) rfl (HO1.out.alloc _) ⟨w1.heap.size, 0, none⟩ 1 1 [.int .i64 mm.1] rfl rfl (one_int w1 _) (by intro u hu; simp at hu; subst hu; rfl) (by unfold maxLen; omega) (by omega) (by simp; omega) ?_)
      intro v' w2 hown' hgrow _;have HO2 : Hid (w2.ownsRow w.heap.size 3 1 v' (n0 + 1) (kv (st.take n0 ++ [mm.1]))) := by
       show World.ownsRow _ _ _ _ _ _ _;have e : kv (st.take n0 ++ [mm.1]) = kv (st.take n0) ++ [.int .i64 mm.1] := by simp [kv]
       rw [e]; exact hown'
      have HB2 : Hid (Below w.heap.size w w2) := by
       have h1 := (HP.out.1.trans (HBB.out.mono HP.out.1.size)).alloc (by omega) (.cells #[.int .i64 mm.1] 3);exact h1.grown hgrow (by simp; omega) (fun k hk => (HO1.out.lt k hk).1)
      clear hown' hgrow;go_wp2
      go_roundw
      case rel => exact ⟨rfl, rfl, k + 1, st.take n0 ++ [mm.1], by omega, by go_num, HK1.out, HB2.out, by simpa [HTL.out] using HO2.out⟩
      case measure => simp [intOf]; omega
     ·have HE := Lib.hid hE;have te := (bne_iff_ne (a := mm.2) (b := 0)).2 he;clear hE he hfm hon
      go_wp2_with fail
      refine (hop.out _).mono ?_;rintro e w1 ⟨rfl, rfl⟩
      go_wp2_with fail
      refine Ow.region_own' 52 [Ow.eqR (.agg #[.int .i64 cc.op, .int .i64 cc.a, .string X]), Ow.eqR (.slice (some ⟨g, 0, none⟩) (n0 + 1) cap), Ow.eqR (.int .i64 (n0 : Int)), Ow.eqR (.slice (some ⟨g, n0, none⟩) 1 (cap - n0)), Ow.eqR (.slice V vs.length vc), Ow.eqR (.slice S ss.length sc), Ow.eqR (.tuple #[.int .i64 mm.1, .int .i64 mm.2]), Ow.eqR (.tuple #[.int .i64 mm.1, .int .i64 mm.2]), Ow.eqR (.int .i64 mm.1), Ow.eqR (.int .i64 mm.2), Ow.eqR (.int .i64 mm.1), Ow.eqR (.int .i64 mm.2)] [false, false, false, false, false, false, false, false, false, false, false, false] [none, none, none, none, none, none, none, none, none, none, none, none] (by kernel_rfl) rfl (by kernel_rfl) ⟨Ow.keeps_eq _ _, Ow.keeps_eq _ _, Ow.keeps_eq _ _, Ow.keeps_eq _ _, Ow.keeps_eq _ _, Ow.keeps_eq _ _, Ow.keeps_eq _ _, Ow.keeps_eq _ _, Ow.keeps_eq _ _, Ow.keeps_eq _ _, Ow.keeps_eq _ _, Ow.keeps_eq _ _, trivial⟩ ?_;refine Ow.walk_q ?_ fun x30 => ?_
      ·intro w1 hb hd ho K hK;clear hd ho;have c0 : w1.cell? ⟨wr.heap.size, 0, none⟩ = some (.int .i64 cc.op) := (hb.cell (by simp)).trans (by simp);have c1 : w1.cell? ⟨wr.heap.size, 1, none⟩ = some (.int .i64 cc.a) := (hb.cell (by simp)).trans (by simp);have c2 : w1.cell? ⟨wr.heap.size, 2, none⟩ = some (.string X) := (hb.cell (by simp)).trans (by simp);go_simp;exact hK _ _ (Ow.good_same rfl rfl rfl)
      refine Ow.walk_q ?_ fun x31 => ?_
      ·intro w1 hb hd ho K hK;clear hd ho;go_simp;exact hK _ _ (Ow.good_same rfl rfl rfl)
      refine Ow.walk_q ?_ fun x32 => ?_
      ·intro w1 hb hd ho K hK;clear hd ho;go_simp;exact hK _ _ (Ow.good_same rfl rfl rfl)
      refine Ow.walk_q ?_ fun x33 => ?_
      ·intro w1 hb hd ho K hK;obtain rfl : _ = x31 := Eq.symm (hd 1 (by kernel_rfl));obtain rfl : _ = x32 := Eq.symm (hd 2 (by kernel_rfl));clear hd ho;have hq : (n0 : Int) <= (n0 : Int) + 1 := by omega
       go_simp;exact hK _ _ (Ow.good_same rfl rfl (by show _ = _; rw [if_neg (by omega)]))
      refine Ow.walk_q ?_ fun x34 => ?_
      ·intro w1 hb hd ho K hK;clear hd ho;go_simp;exact hK _ _ (Ow.good_same rfl rfl rfl)
      refine Ow.walk_q ?_ fun x35 => ?_
      ·intro w1 hb hd ho K hK;clear hd ho;go_simp;exact hK _ _ (Ow.good_same rfl rfl rfl)
      refine Ow.walk_q ?_ fun x36 => ?_
      ·intro w1 hb hd ho K hK;obtain rfl : _ = x30 := Eq.symm (hd 0 (by kernel_rfl));obtain rfl : _ = x33 := Eq.symm (hd 3 (by kernel_rfl));obtain rfl : _ = x34 := Eq.symm (hd 4 (by kernel_rfl));obtain rfl : _ = x35 := Eq.symm (hd 5 (by kernel_rfl));clear hd ho;go_simp;refine (HM.out w1 hb).mono ?_;rintro e w2 ⟨rfl, hb2⟩;go_simp;exact hK _ _ (Ow.good_below rfl rfl hb2 rfl)
      refine Ow.walk_q ?_ fun x29 => ?_
      ·intro w1 hb hd ho K hK;obtain rfl : _ = x36 := Eq.symm (hd 6 (by kernel_rfl));clear hd ho;go_simp;exact hK _ _ (Ow.good_same rfl rfl rfl)
      refine Ow.walk_q ?_ fun x37 => ?_
      ·intro w1 hb hd ho K hK;obtain rfl : _ = x29 := Eq.symm (hd 7 (by kernel_rfl));clear hd ho;go_simp;exact hK _ _ (Ow.good_same rfl rfl rfl)
      refine Ow.walk_q ?_ fun x38 => ?_
      ·intro w1 hb hd ho K hK;obtain rfl : _ = x29 := Eq.symm (hd 7 (by kernel_rfl));clear hd ho;go_simp;exact hK _ _ (Ow.good_same rfl rfl rfl)
      refine Ow.walk_q ?_ fun x12 => ?_
      ·intro w1 hb hd ho K hK;obtain rfl : _ = x37 := Eq.symm (hd 8 (by kernel_rfl));clear hd ho;go_simp;exact hK _ _ (Ow.good_same rfl rfl rfl)
      refine Ow.walk_q ?_ fun x13 => ?_
      ·intro w1 hb hd ho K hK;obtain rfl : _ = x38 := Eq.symm (hd 9 (by kernel_rfl));clear hd ho;go_simp;exact hK _ _ (Ow.good_same rfl rfl rfl)
      refine Ow.walk_nil rfl (fun w1 hb hd => ?_);obtain rfl : _ = x30 := Eq.symm (hd 0 (by kernel_rfl));obtain rfl : _ = x31 := Eq.symm (hd 1 (by kernel_rfl));obtain rfl : _ = x32 := Eq.symm (hd 2 (by kernel_rfl));obtain rfl : _ = x33 := Eq.symm (hd 3 (by kernel_rfl));obtain rfl : _ = x34 := Eq.symm (hd 4 (by kernel_rfl));obtain rfl : _ = x35 := Eq.symm (hd 5 (by kernel_rfl));obtain rfl : _ = x36 := Eq.symm (hd 6 (by kernel_rfl));obtain rfl : _ = x29 := Eq.symm (hd 7 (by kernel_rfl));obtain rfl : _ = x37 := Eq.symm (hd 8 (by kernel_rfl));obtain rfl : _ = x38 := Eq.symm (hd 9 (by kernel_rfl));obtain rfl : _ = x12 := Eq.symm (hd 10 (by kernel_rfl));obtain rfl : _ = x13 := Eq.symm (hd 11 (by kernel_rfl));clear hd;have HBB : Hid (Below wr.heap.size wr w1) := HBX.out.trans (hb.mono HSZ.out);clear hb;go_simp;go_wp2;go_ret2;refine ⟨ret_pair ?_, HP.out.1.trans (HBB.out.mono HP.out.1.size)⟩;unfold kindP;rw [if_pos HBT.out, HE.out]
   ·rw [hN] at hown hform hop hdl;have hle := operN_two hN hops;obtain ⟨x, y, hx⟩ := len_two hdl;have hxr := hrd x (by rw [hx]; simp);have hmm : madeK vs ss cc (st.drop n0) = joinK cc.op x y := by rw [hx]; unfold madeK; rw [hN]; rfl
    rw [hmm] at HNX;obtain ⟨mm, hmv⟩ : ∃ mm, joinK cc.op x y = mm := ⟨_, rfl⟩
    rw [hmv] at HNX;rcases hform with ⟨_, h0⟩ | ⟨g, cap, rfl, hcap, hcm⟩
    ·omega
    ·have hgx : wr.cell? ⟨g, n0, none⟩ = some (.int .i64 x) := by
      rw [hown.cellAt n0 (by omega), HDK.out, List.getElem?_append_right (by rw [kv_length, HTL.out]; omega), kv_length, HTL.out, Nat.sub_self, hx]; rfl
     have hgy : wr.cell? ⟨g, n0 + 1, none⟩ = some (.int .i64 y) := by
      rw [hown.cellAt (n0 + 1) (by omega), HDK.out, List.getElem?_append_right (by rw [kv_length, HTL.out]; omega), kv_length, HTL.out, Nat.add_sub_cancel_left, hx]; rfl
     rw [hx] at hrd hdl;clear hx;have HBX : Hid (Below wr.heap.size wr (wr.alloc (.cells #[.int .i64 cc.op, .int .i64 cc.a, .string X] 176)).drew) := ((Below.refl _ _).alloc (Nat.le_refl _) _).drew;have HSZ : Hid (wr.heap.size <= (wr.alloc (.cells #[.int .i64 cc.op, .int .i64 cc.a, .string X] 176)).drew.heap.size) := HBX.out.size;have hcn1 : n0 < cap := by omega
     have hcn2 : (cap : Int) ≠ n0 := by omega
     have HM : Hid (∀ W, Below (wr.alloc (.cells #[.int .i64 cc.op, .int .i64 cc.a, .string X] 176)).heap.size (wr.alloc (.cells #[.int .i64 cc.op, .int .i64 cc.a, .string X] 176)).drew W -> Calls Tryz.prog 263 #[.agg #[.int .i64 cc.op, .int .i64 cc.a, .string X], .slice (some ⟨g, n0, none⟩) 2 (cap - n0), .slice V vs.length vc, .slice S ss.length sc] W fun e w' => e = .returned (.tuple #[.int .i64 mm.1, .int .i64 mm.2]) /\ Below W.heap.size W w') := by
      intro W hW;have hb := HP.out.1.trans ((HBX.out.trans (hW.mono HSZ.out)).mono HP.out.1.size);have hb2 := HBX.out.trans (hW.mono HSZ.out);have h := made2_any cc.op cc.a X _ _ _ x y W hle hxr g n0 (cap - n0) rfl ((hb2.cell (cell_lt hgx)).trans hgx) ((hb2.cell (cell_lt hgy)).trans hgy) (RdV.form (HV.out.below hb) |>.imp fun _ h => ⟨_, h⟩) (RdW.form (HS.out.below hb) |>.imp fun _ h => ⟨_, h⟩);rw [hmv] at h;exact h
     have HTK' := own_take' hown;rw [HTV.out] at HTK';have HTK := Lib.hid HTK';clear hown HTK' hmm hmv hN hdl hrd hle hgx hgy hxr;have hz := HP.out.1.size;rcases HNX.out with ⟨he, hK1⟩ | ⟨he, hE⟩
     ·have HK1 := Lib.hid hK1; have HE := Lib.hid he;clear hK1 he hfm hon
      go_wp2_with fail
      refine (hop.out _).mono ?_;rintro e w1 ⟨rfl, rfl⟩
      go_wp2_with fail
      refine Ow.region_own' 52 [Ow.eqR (.agg #[.int .i64 cc.op, .int .i64 cc.a, .string X]), Ow.eqR (.slice (some ⟨g, 0, none⟩) (n0 + 2) cap), Ow.eqR (.int .i64 (n0 : Int)), Ow.eqR (.slice (some ⟨g, n0, none⟩) 2 (cap - n0)), Ow.eqR (.slice V vs.length vc), Ow.eqR (.slice S ss.length sc), Ow.eqR (.tuple #[.int .i64 mm.1, .int .i64 mm.2]), Ow.eqR (.tuple #[.int .i64 mm.1, .int .i64 mm.2]), Ow.eqR (.int .i64 mm.1), Ow.eqR (.int .i64 mm.2), Ow.eqR (.int .i64 mm.1), Ow.eqR (.int .i64 mm.2)] [false, false, false, false, false, false, false, false, false, false, false, false] [none, none, none, none, none, none, none, none, none, none, none, none] (by kernel_rfl) rfl (by kernel_rfl) ⟨Ow.keeps_eq _ _, Ow.keeps_eq _ _, Ow.keeps_eq _ _, Ow.keeps_eq _ _, Ow.keeps_eq _ _, Ow.keeps_eq _ _, Ow.keeps_eq _ _, Ow.keeps_eq _ _, Ow.keeps_eq _ _, Ow.keeps_eq _ _, Ow.keeps_eq _ _, Ow.keeps_eq _ _, trivial⟩ ?_;refine Ow.walk_q ?_ fun x30 => ?_
      ·intro w1 hb hd ho K hK;clear hd ho;have c0 : w1.cell? ⟨wr.heap.size, 0, none⟩ = some (.int .i64 cc.op) := (hb.cell (by simp)).trans (by simp);have c1 : w1.cell? ⟨wr.heap.size, 1, none⟩ = some (.int .i64 cc.a) := (hb.cell (by simp)).trans (by simp);have c2 : w1.cell? ⟨wr.heap.size, 2, none⟩ = some (.string X) := (hb.cell (by simp)).trans (by simp);go_simp;exact hK _ _ (Ow.good_same rfl rfl rfl)
      refine Ow.walk_q ?_ fun x31 => ?_
      ·intro w1 hb hd ho K hK;clear hd ho;go_simp;exact hK _ _ (Ow.good_same rfl rfl rfl)
      refine Ow.walk_q ?_ fun x32 => ?_
      ·intro w1 hb hd ho K hK;clear hd ho;go_simp;exact hK _ _ (Ow.good_same rfl rfl rfl)
      refine Ow.walk_q ?_ fun x33 => ?_
      ·intro w1 hb hd ho K hK;obtain rfl : _ = x31 := Eq.symm (hd 1 (by kernel_rfl));obtain rfl : _ = x32 := Eq.symm (hd 2 (by kernel_rfl));clear hd ho;have hq : (n0 : Int) <= (n0 : Int) + 2 := by omega
       go_simp;exact hK _ _ (Ow.good_same rfl rfl (by show _ = _; rw [if_neg (by omega)]))
      refine Ow.walk_q ?_ fun x34 => ?_
      ·intro w1 hb hd ho K hK;clear hd ho;go_simp;exact hK _ _ (Ow.good_same rfl rfl rfl)
      refine Ow.walk_q ?_ fun x35 => ?_
      ·intro w1 hb hd ho K hK;clear hd ho;go_simp;exact hK _ _ (Ow.good_same rfl rfl rfl)
      refine Ow.walk_q ?_ fun x36 => ?_
      ·intro w1 hb hd ho K hK;obtain rfl : _ = x30 := Eq.symm (hd 0 (by kernel_rfl));obtain rfl : _ = x33 := Eq.symm (hd 3 (by kernel_rfl));obtain rfl : _ = x34 := Eq.symm (hd 4 (by kernel_rfl));obtain rfl : _ = x35 := Eq.symm (hd 5 (by kernel_rfl));clear hd ho;go_simp;refine (HM.out w1 hb).mono ?_;rintro e w2 ⟨rfl, hb2⟩;go_simp;exact hK _ _ (Ow.good_below rfl rfl hb2 rfl)
      refine Ow.walk_q ?_ fun x29 => ?_
      ·intro w1 hb hd ho K hK;obtain rfl : _ = x36 := Eq.symm (hd 6 (by kernel_rfl));clear hd ho;go_simp;exact hK _ _ (Ow.good_same rfl rfl rfl)
      refine Ow.walk_q ?_ fun x37 => ?_
      ·intro w1 hb hd ho K hK;obtain rfl : _ = x29 := Eq.symm (hd 7 (by kernel_rfl));clear hd ho;go_simp;exact hK _ _ (Ow.good_same rfl rfl rfl)
      refine Ow.walk_q ?_ fun x38 => ?_
      ·intro w1 hb hd ho K hK;obtain rfl : _ = x29 := Eq.symm (hd 7 (by kernel_rfl));clear hd ho;go_simp;exact hK _ _ (Ow.good_same rfl rfl rfl)
      refine Ow.walk_q ?_ fun x12 => ?_
      ·intro w1 hb hd ho K hK;obtain rfl : _ = x37 := Eq.symm (hd 8 (by kernel_rfl));clear hd ho;go_simp;exact hK _ _ (Ow.good_same rfl rfl rfl)
      refine Ow.walk_q ?_ fun x13 => ?_
      ·intro w1 hb hd ho K hK;obtain rfl : _ = x38 := Eq.symm (hd 9 (by kernel_rfl));clear hd ho;go_simp;exact hK _ _ (Ow.good_same rfl rfl rfl)
      refine Ow.walk_nil rfl (fun w1 hb hd => ?_);obtain rfl : _ = x30 := Eq.symm (hd 0 (by kernel_rfl));obtain rfl : _ = x31 := Eq.symm (hd 1 (by kernel_rfl));obtain rfl : _ = x32 := Eq.symm (hd 2 (by kernel_rfl));obtain rfl : _ = x33 := Eq.symm (hd 3 (by kernel_rfl));obtain rfl : _ = x34 := Eq.symm (hd 4 (by kernel_rfl));obtain rfl : _ = x35 := Eq.symm (hd 5 (by kernel_rfl));obtain rfl : _ = x36 := Eq.symm (hd 6 (by kernel_rfl));obtain rfl : _ = x29 := Eq.symm (hd 7 (by kernel_rfl));obtain rfl : _ = x37 := Eq.symm (hd 8 (by kernel_rfl));obtain rfl : _ = x38 := Eq.symm (hd 9 (by kernel_rfl));obtain rfl : _ = x12 := Eq.symm (hd 10 (by kernel_rfl));obtain rfl : _ = x13 := Eq.symm (hd 11 (by kernel_rfl));clear hd;have HBB : Hid (Below wr.heap.size wr w1) := HBX.out.trans (hb.mono HSZ.out);clear hb;go_simp;rw [HE.out];have hown1 := own_below HTK.out HBB.out;have hz1 := HBB.out.size;have HO1 := Lib.hid hown1; clear hown1
      go_wp2_with (at_builtin; refine wpList_append_own _ rfl _ _ 29 rfl w.heap.size 3 i0 _ 1 8 Tryz.underlying29 HI.out HZ0.out HZ1.out HZ2.out rfl (by decide) _ n0 (kv (st.take n0)) rfl (HO1.out.alloc _) ⟨w1.heap.size, 0, none⟩ 1 1 [.int .i64 mm.1] rfl rfl (one_int w1 _) (by intro u hu; simp at hu; subst hu; rfl) (by unfold maxLen; omega) (by omega) (by simp; omega) ?_)
      intro v' w2 hown' hgrow _;have HO2 : Hid (w2.ownsRow w.heap.size 3 1 v' (n0 + 1) (kv (st.take n0 ++ [mm.1]))) := by
       show World.ownsRow _ _ _ _ _ _ _;have e : kv (st.take n0 ++ [mm.1]) = kv (st.take n0) ++ [.int .i64 mm.1] := by simp [kv]
       rw [e]; exact hown'
      have HB2 : Hid (Below w.heap.size w w2) := by
       have h1 := (HP.out.1.trans (HBB.out.mono HP.out.1.size)).alloc (by omega) (.cells #[.int .i64 mm.1] 3);exact h1.grown hgrow (by simp; omega) (fun k hk => (HO1.out.lt k hk).1)
      clear hown' hgrow;go_wp2
      go_roundw
      case rel => exact ⟨rfl, rfl, k + 1, st.take n0 ++ [mm.1], by omega, by go_num, HK1.out, HB2.out, by simpa [HTL.out] using HO2.out⟩
      case measure => simp [intOf]; omega
     ·have HE := Lib.hid hE;have te := (bne_iff_ne (a := mm.2) (b := 0)).2 he;clear hE he hfm hon
      go_wp2_with fail
      refine (hop.out _).mono ?_;rintro e w1 ⟨rfl, rfl⟩
      go_wp2_with fail
      refine Ow.region_own' 52 [Ow.eqR (.agg #[.int .i64 cc.op, .int .i64 cc.a, .string X]), Ow.eqR (.slice (some ⟨g, 0, none⟩) (n0 + 2) cap), Ow.eqR (.int .i64 (n0 : Int)), Ow.eqR (.slice (some ⟨g, n0, none⟩) 2 (cap - n0)), Ow.eqR (.slice V vs.length vc), Ow.eqR (.slice S ss.length sc), Ow.eqR (.tuple #[.int .i64 mm.1, .int .i64 mm.2]), Ow.eqR (.tuple #[.int .i64 mm.1, .int .i64 mm.2]), Ow.eqR (.int .i64 mm.1), Ow.eqR (.int .i64 mm.2), Ow.eqR (.int .i64 mm.1), Ow.eqR (.int .i64 mm.2)] [false, false, false, false, false, false, false, false, false, false, false, false] [none, none, none, none, none, none, none, none, none, none, none, none] (by kernel_rfl) rfl (by kernel_rfl) ⟨Ow.keeps_eq _ _, Ow.keeps_eq _ _, Ow.keeps_eq _ _, Ow.keeps_eq _ _, Ow.keeps_eq _ _, Ow.keeps_eq _ _, Ow.keeps_eq _ _, Ow.keeps_eq _ _, Ow.keeps_eq _ _, Ow.keeps_eq _ _, Ow.keeps_eq _ _, Ow.keeps_eq _ _, trivial⟩ ?_;refine Ow.walk_q ?_ fun x30 => ?_
      ·intro w1 hb hd ho K hK;clear hd ho;have c0 : w1.cell? ⟨wr.heap.size, 0, none⟩ = some (.int .i64 cc.op) := (hb.cell (by simp)).trans (by simp);have c1 : w1.cell? ⟨wr.heap.size, 1, none⟩ = some (.int .i64 cc.a) := (hb.cell (by simp)).trans (by simp);have c2 : w1.cell? ⟨wr.heap.size, 2, none⟩ = some (.string X) := (hb.cell (by simp)).trans (by simp);go_simp;exact hK _ _ (Ow.good_same rfl rfl rfl)
      refine Ow.walk_q ?_ fun x31 => ?_
      ·intro w1 hb hd ho K hK;clear hd ho;go_simp;exact hK _ _ (Ow.good_same rfl rfl rfl)
      refine Ow.walk_q ?_ fun x32 => ?_
      ·intro w1 hb hd ho K hK;clear hd ho;go_simp;exact hK _ _ (Ow.good_same rfl rfl rfl)
      refine Ow.walk_q ?_ fun x33 => ?_
      ·intro w1 hb hd ho K hK;obtain rfl : _ = x31 := Eq.symm (hd 1 (by kernel_rfl));obtain rfl : _ = x32 := Eq.symm (hd 2 (by kernel_rfl));clear hd ho;have hq : (n0 : Int) <= (n0 : Int) + 2 := by omega
       go_simp;exact hK _ _ (Ow.good_same rfl rfl (by show _ = _; rw [if_neg (by omega)]))
      refine Ow.walk_q ?_ fun x34 => ?_
      ·intro w1 hb hd ho K hK;clear hd ho;go_simp;exact hK _ _ (Ow.good_same rfl rfl rfl)
      refine Ow.walk_q ?_ fun x35 => ?_
      ·intro w1 hb hd ho K hK;clear hd ho;go_simp;exact hK _ _ (Ow.good_same rfl rfl rfl)
      refine Ow.walk_q ?_ fun x36 => ?_
      ·intro w1 hb hd ho K hK;obtain rfl : _ = x30 := Eq.symm (hd 0 (by kernel_rfl));obtain rfl : _ = x33 := Eq.symm (hd 3 (by kernel_rfl));obtain rfl : _ = x34 := Eq.symm (hd 4 (by kernel_rfl));obtain rfl : _ = x35 := Eq.symm (hd 5 (by kernel_rfl));clear hd ho;go_simp;refine (HM.out w1 hb).mono ?_;rintro e w2 ⟨rfl, hb2⟩;go_simp;exact hK _ _ (Ow.good_below rfl rfl hb2 rfl)
      refine Ow.walk_q ?_ fun x29 => ?_
      ·intro w1 hb hd ho K hK;obtain rfl : _ = x36 := Eq.symm (hd 6 (by kernel_rfl));clear hd ho;go_simp;exact hK _ _ (Ow.good_same rfl rfl rfl)
      refine Ow.walk_q ?_ fun x37 => ?_
      ·intro w1 hb hd ho K hK;obtain rfl : _ = x29 := Eq.symm (hd 7 (by kernel_rfl));clear hd ho;go_simp;exact hK _ _ (Ow.good_same rfl rfl rfl)
      refine Ow.walk_q ?_ fun x38 => ?_
      ·intro w1 hb hd ho K hK;obtain rfl : _ = x29 := Eq.symm (hd 7 (by kernel_rfl));clear hd ho;go_simp;exact hK _ _ (Ow.good_same rfl rfl rfl)
      refine Ow.walk_q ?_ fun x12 => ?_
      ·intro w1 hb hd ho K hK;obtain rfl : _ = x37 := Eq.symm (hd 8 (by kernel_rfl));clear hd ho;go_simp;exact hK _ _ (Ow.good_same rfl rfl rfl)
      refine Ow.walk_q ?_ fun x13 => ?_
      ·intro w1 hb hd ho K hK;obtain rfl : _ = x38 := Eq.symm (hd 9 (by kernel_rfl));clear hd ho;go_simp;exact hK _ _ (Ow.good_same rfl rfl rfl)
      refine Ow.walk_nil rfl (fun w1 hb hd => ?_);obtain rfl : _ = x30 := Eq.symm (hd 0 (by kernel_rfl));obtain rfl : _ = x31 := Eq.symm (hd 1 (by kernel_rfl));obtain rfl : _ = x32 := Eq.symm (hd 2 (by kernel_rfl));obtain rfl : _ = x33 := Eq.symm (hd 3 (by kernel_rfl));obtain rfl : _ = x34 := Eq.symm (hd 4 (by kernel_rfl));obtain rfl : _ = x35 := Eq.symm (hd 5 (by kernel_rfl));obtain rfl : _ = x36 := Eq.symm (hd 6 (by kernel_rfl));obtain rfl : _ = x29 := Eq.symm (hd 7 (by kernel_rfl));obtain rfl : _ = x37 := Eq.symm (hd 8 (by kernel_rfl));obtain rfl : _ = x38 := Eq.symm (hd 9 (by kernel_rfl));obtain rfl : _ = x12 := Eq.symm (hd 10 (by kernel_rfl));obtain rfl : _ = x13 := Eq.symm (hd 11 (by kernel_rfl));clear hd;have HBB : Hid (Below wr.heap.size wr w1) := HBX.out.trans (hb.mono HSZ.out);clear hb;go_simp;go_wp2;go_ret2;refine ⟨ret_pair ?_, HP.out.1.trans (HBB.out.mono HP.out.1.size)⟩;unfold kindP;rw [if_pos HBT.out, HE.out]
  ·obtain rfl : k = n := by omega
   have hK := HK.out;rw [<- HN.out] at hK;obtain ⟨x, rfl, hx⟩ := hK.done;have HX := Lib.hid hx;have hown := HP.out.2;rcases own_form hown with ⟨_, h0⟩ | ⟨g, cap, rfl, hcap, hcm⟩
   ·simp at h0
   ·have hcc : wr.cell? ⟨g, 0, none⟩ = some (.int .i64 x) := by rw [hown.cellAt 0 (by simp)]; rfl
    clear hown hx hK;go_wp2;go_ret2;refine ⟨ret_pair ?_, HP.out.1⟩;unfold kindP;rw [if_pos HBT.out, HX.out]
end Go.Proofs.YtcnfcililiehlaaGreatDoor.Kd
