/- Own texts, joined: Bc, Xf. -/
import Derived.Test.YtgjeofaedidnpaaGreatDoorR9
import Derived.Test.YtgjeofaedidnpaaGreatDoorR10
import Derived.Test.YtgjeofaedidnpaaGreatDoorR11
namespace Go.Proofs.YtgjeofaedidnpaaGreatDoor.Ch
open Go.RowKit
structure GrownT (b : Nat) (rv : Value) (w w' : World) : Prop where
 os : w'.os = w.os
 tape : w'.tape = w.tape
 output : w'.output = w.output
 size : w.heap.size <= w'.heap.size
 block : ∀ k, k < w.heap.size -> k ≠ b -> rv.ownBlock ≠ some k -> w'.heap[k]? = w.heap[k]?
theorem GrownT.of_two {b base kr kb : Nat} {rv : Value} {w w1 : World} (hb : Below base w.drew w1) (hu : ∀ k, k < w.drew.heap.size -> (∀ j, Oz.cl2 rv b kr kb j ≠ some k) -> w1.heap[k]? = w.drew.heap[k]?) : GrownT b rv w w1 :=
 ⟨hb.os, hb.tape, hb.output, hb.size, fun k hk hne hrv => hu k hk (fun j hj => by
  rcases Oz.cl2_cases hj with ⟨_, h⟩ | ⟨_, h⟩
  ·exact hrv h
  ·exact hne h)⟩
theorem own_neq {w : World} {B : Nat} {e : TypeId} {size n b : Nat} {v : Value} {xs : List Value} (h : w.ownsRow B e size v n xs) (hb : b < B) : v.ownBlock ≠ some b := by
 intro hv;have := (h.lt b hv).1;omega
theorem own_past {w : World} {B : Nat} {e : TypeId} {size n : Nat} {v : Value} {xs : List Value} {b : Nat} (h : w.ownsRow B e size v n xs) (hb : b < B) (j : Nat) (u : Value) : (w.setCell ⟨b, j, none⟩ u).ownsRow B e size v n xs :=
 Oz.own_same h (fun g hg => Below.heap_setCell _ _ _ _ (by have := (h.lt g hg).1; show g ≠ b; omega))
theorem rows_apart {w : World} {B B' : Nat} {e e' : TypeId} {s s' n n' : Nat} {v v' : Value} {xs xs' : List Value} (h1 : w.ownsRow B e s v n xs) (h2 : w.ownsRow B' e' s' v' n' xs') (hne : e ≠ e') : ∀ g, v.ownBlock = some g -> v'.ownBlock ≠ some g := by
 intro g hv hv';rcases h1.2 with ⟨rfl, _⟩ | ⟨g1, _, c1, rfl, _, k1, _⟩
 ·cases hv
 ·rcases h2.2 with ⟨rfl, _⟩ | ⟨g2, _, c2, rfl, _, k2, _⟩
  ·cases hv'
  ·have e1 : g1 = g := by simpa [Value.ownBlock] using hv
   have e2 : g2 = g := by simpa [Value.ownBlock] using hv'
   subst e1; subst e2;rw [k1] at k2;injection k2 with k2
   injection k2 with _ k2 _
   exact hne k2
theorem GrownT.row {b B : Nat} {rv : Value} {w w' : World} (hG : GrownT b rv w w') {e : TypeId} {size n : Nat} {v : Value} {xs : List Value} (ho : w.ownsRow B e size v n xs) (hb : b < B) (hne : ∀ g, v.ownBlock = some g -> rv.ownBlock ≠ some g) : w'.ownsRow B e size v n xs :=
 Oz.own_same ho (fun g hg => hG.block g (ho.lt g hg).2 (by have := (ho.lt g hg).1; omega) (hne g hg))
theorem GrownT.inner {b B : Nat} {rv : Value} {w w' : World} (hG : GrownT b rv w w') {T e : TypeId} {size n : Nat} {xs : List Value} {cur : Array Value} (hbox : w.heap[b]? = some (.cells cur T (0, 0))) (ho : w.ownsRow B e size rv n xs)
 (hT : T ≠ 90 /\ T ≠ 144) (he : e ≠ 90 /\ e ≠ 144) : KeepI w w' := by
 refine ⟨hG.size, fun k cur' t ht hk => (hG.block k (lt_of_heap hk) ?_ ?_).trans hk⟩
 ·rintro rfl;rw [hbox] at hk;injection hk with hk
  injection hk with _ hk _
  rcases ht with ht | ht
  ·exact hT.1 (hk.trans ht)
  ·exact hT.2 (hk.trans ht)
 ·intro hv;rcases ho.2 with ⟨rfl, _⟩ | ⟨g1, _, c1, rfl, _, k1, _⟩
  ·cases hv
  ·have e1 : g1 = k := by simpa [Value.ownBlock] using hv
   subst e1;rw [k1] at hk;injection hk with hk
   injection hk with _ hk _
   rcases ht with ht | ht
   ·exact he.1 (hk.trans ht)
   ·exact he.2 (hk.trans ht)
theorem GrownT.kept {b B : Nat} {rv : Value} {w w' : World} (hG : GrownT b rv w w') {e : TypeId} {size n : Nat} {xs : List Value} (ho : w.ownsRow B e size rv n xs) (hB : B <= w.heap.size) {cur : Array Value} {T : TypeId} (hbox : w.heap[b]? = some (.cells cur T (0, 0))) : KeptB b B w w' :=
 ⟨hG.os, hG.tape, hG.output, hG.size, fun k hk hb => hG.block k (by omega) hb (fun e => by have := (ho.lt k e).1; omega), fun k o h1 h2 => (hG.block k (lt_of_heap h1) (fun e => by subst e; rw [hbox] at h1; cases h1; cases h2) (fun e => by
  rcases ho.2 with ⟨rfl, _⟩ | ⟨g, _, c1, rfl, _, k1, _⟩
  ·cases e
  ·have e1 : g = k := by simpa [Value.ownBlock] using e
   subst e1; rw [k1] at h1; cases h1; cases h2)).trans h1⟩
section
variable {b B : Nat} {T : TypeId} {w w' : World} {c : CH} {eV vV sV tV v' : Value} {sp : List SP} {tp : List TP}
theorem OwnCh.pushE (h : OwnCh b B T w c eV vV sV tV sp tp) (hT : T ≠ 90 /\ T ≠ 144) (hG : GrownT b eV w w') (hx : w'.heap[b]? = some (.cells #[bstr c.nm, v', vV, sV, tV] T (0, 0)))
 {x : List UInt8} (hr : w'.ownsRow B 9 1 v' (c.es.length + 1) (strsV c.es ++ [bstr x])) : OwnCh b B T w' { c with es := c.es ++ [x] } v' vV sV tV sp tp /\ KeptB b B w w' := by
 have hk := hG.inner h.box h.es hT ⟨by decide, by decide⟩;exact ⟨⟨hx, h.lt, Nat.le_trans h.le hG.size, by simpa [strsV] using hr, hG.row h.vs h.lt (rows_apart h.vs h.es (by decide)), h.ssE, hG.row h.ss h.lt (rows_apart h.ss h.es (by decide)), h.tsE, hG.row h.ts h.lt (rows_apart h.ts h.es (by decide)),
  fun p hp => ⟨(h.sd p hp).1.keep hk, (h.sd p hp).2.keep hk⟩, fun p hp => ⟨(h.td p hp).1.keep hk, (h.td p hp).2.keep hk⟩⟩, hG.kept h.es h.le h.box⟩
theorem OwnCh.pushS (h : OwnCh b B T w c eV vV sV tV sp tp) (hT : T ≠ 90 /\ T ≠ 144) (hG : GrownT b sV w w') (hx : w'.heap[b]? = some (.cells #[bstr c.nm, eV, vV, v', tV] T (0, 0)))
 {p : SP} (hp : BlkO B w p.2.1 p.1.en /\ BlkO B w p.2.2 p.1.ex) (hr : w'.ownsRow B 39 6 v' (sp.length + 1) (flatS sp ++ stV p)) : OwnCh b B T w' { c with ss := c.ss ++ [p.1] } eV vV v' tV (sp ++ [p]) tp /\ KeptB b B w w' := by
 have hk := hG.inner h.box h.ss hT ⟨by decide, by decide⟩;refine ⟨⟨hx, h.lt, Nat.le_trans h.le hG.size, hG.row h.es h.lt (rows_apart h.es h.ss (by decide)), hG.row h.vs h.lt (rows_apart h.vs h.ss (by decide)), by simp [h.ssE], by simpa [flatS] using hr, h.tsE, hG.row h.ts h.lt (rows_apart h.ts h.ss (by decide)),
  fun q hq => ?_, fun p hp => ⟨(h.td p hp).1.keep hk, (h.td p hp).2.keep hk⟩⟩, hG.kept h.ss h.le h.box⟩
 rcases List.mem_append.1 hq with hq | hq
 ·exact ⟨(h.sd q hq).1.keep hk, (h.sd q hq).2.keep hk⟩
 ·rw [List.mem_singleton] at hq; subst hq; exact ⟨hp.1.keep hk, hp.2.keep hk⟩
theorem OwnCh.pushT (h : OwnCh b B T w c eV vV sV tV sp tp) (hT : T ≠ 90 /\ T ≠ 144) (hG : GrownT b tV w w') (hx : w'.heap[b]? = some (.cells #[bstr c.nm, eV, vV, sV, v'] T (0, 0)))
 {p : TP} (hp : GdO B w p.2.1 p.1.gd /\ BlkO B w p.2.2 p.1.ac) (hr : w'.ownsRow B 42 5 v' (tp.length + 1) (flatT tp ++ trV p)) : OwnCh b B T w' { c with ts := c.ts ++ [p.1] } eV vV sV v' sp (tp ++ [p]) /\ KeptB b B w w' := by
 have hk := hG.inner h.box h.ts hT ⟨by decide, by decide⟩;refine ⟨⟨hx, h.lt, Nat.le_trans h.le hG.size, hG.row h.es h.lt (rows_apart h.es h.ts (by decide)), hG.row h.vs h.lt (rows_apart h.vs h.ts (by decide)), h.ssE, hG.row h.ss h.lt (rows_apart h.ss h.ts (by decide)), by simp [h.tsE], by simpa [flatT] using hr,
  fun p hp => ⟨(h.sd p hp).1.keep hk, (h.sd p hp).2.keep hk⟩, fun q hq => ?_⟩, hG.kept h.ts h.le h.box⟩
 rcases List.mem_append.1 hq with hq | hq
 ·exact ⟨(h.td q hq).1.keep hk, (h.td q hq).2.keep hk⟩
 ·rw [List.mem_singleton] at hq; subst hq; exact ⟨hp.1.keep hk, hp.2.keep hk⟩
theorem OwnCh.setN (h : OwnCh b B T w c eV vV sV tV sp tp) (hT : T ≠ 90 /\ T ≠ 144) (x : List UInt8) : OwnCh b B T (w.setCell ⟨b, 0, none⟩ (bstr x)) { c with nm := x } eV vV sV tV sp tp /\ KeptB b B w (w.setCell ⟨b, 0, none⟩ (bstr x)) := by
 have hg := grownBy_setCell' w b (bstr x);have hk := KeepI.of_grown hg h.box hT.1 hT.2;exact ⟨⟨heap_setCell_same _ _ 0 _ _ _ h.box, h.lt, Nat.le_trans h.le hg.size, own_past h.es h.lt _ _, own_past h.vs h.lt _ _, h.ssE, own_past h.ss h.lt _ _, h.tsE, own_past h.ts h.lt _ _,
  fun p hp => ⟨(h.sd p hp).1.keep hk, (h.sd p hp).2.keep hk⟩, fun p hp => ⟨(h.td p hp).1.keep hk, (h.td p hp).2.keep hk⟩⟩, KeptB.of_grown hg h.le (fun g e => Or.inl (Option.some.inj e).symm) (fun g e => by cases e; exact ⟨_, _, _, h.box⟩)⟩
end
section
variable {b B : Nat} {w : World} {c : CH} {eV vV sV tV : Value} {sp : List SP} {tp : List TP}
theorem isNew_any (h : OwnCh b B 63 w c eV vV sV tV sp tp) : Calls Tryz.prog 31 #[.pointer (some ⟨b, 0, none⟩)] w fun e w' => e = .returned (.bool c.nm.isEmpty) /\ w' = w := by
 obtain ⟨b0, _⟩ := h.cells;obtain ⟨N, hN, hNl⟩ := bstr_some c.nm;rw [hN] at b0;have HN := Lib.hid hNl;clear h hN hNl
 go_enter Tryz.func31, Tryz.ntmps31
 go_wp2;go_ret;exact ⟨ret_bool (by rw [<- HN.out, Lib.toList_data]), rfl⟩
structure Bdd (n : Nat) (c : CH) : Prop where
 es : c.es.length <= n
 vs : c.vs.length <= n
 ss : c.ss.length <= n
 ts : c.ts.length <= n
 dp : ∀ s ∈ c.ss, 0 <= s.dp /\ s.dp <= 6000
theorem SP.len (h : sp.map Prod.fst = c.ss) : sp.length = c.ss.length := by rw [<- h, List.length_map]
theorem ss_last (h : sp.map Prod.fst = c.ss) {k : Nat} (hk : sp.length = k + 1) : ∃ hl : k < sp.length, c.ss.getLast? = some (sp[k]).1 := by
 refine ⟨by omega, ?_⟩;have e : sp.length - 1 = k := by omega
 rw [<- h, List.getLast?_map, List.getLast?_eq_getElem?, e];simp [show k < sp.length by omega]
theorem deepest_any (h : OwnCh b B 63 w c eV vV sV tV sp tp) (hB : Bdd 1000000 c) : Calls Tryz.prog 145 #[.pointer (some ⟨b, 0, none⟩)] w fun e w' => e = .returned (.int .i64 (roomC c.ss)) /\ w' = w := by
 obtain ⟨_, _, _, b3, _⟩ := h.cells;obtain ⟨A, cp, rfl⟩ := own_slice h.ss;have hsl := SP.len h.ssE;have hss := hB.ss;rcases Nat.eq_zero_or_pos sp.length with h0 | h0
 ·have hr : roomC c.ss = 0 := by
   have : c.ss = [] := List.eq_nil_of_length_eq_zero (by omega);rw [this]; rfl
  rw [hr];rw [h0] at b3;clear h hB hsl hss hr
  go_enter Tryz.func145, Tryz.ntmps145
  go_wp2;go_ret;exact ⟨rfl, rfl⟩
 ·obtain ⟨k, hk⟩ : ∃ k, sp.length = k + 1 := ⟨sp.length - 1, by omega⟩
  obtain ⟨hkl, hlast⟩ := ss_last h.ssE hk;have hr : roomC c.ss = (sp[k]).1.dp + 1 := by unfold roomC; rw [hlast]
  obtain ⟨bs, o, rfl, _, hc⟩ := (Inn.of_own h.ss).at_ hkl;have c2 := hc 2 _ ((flatM_at stV 6 (fun _ => rfl) hkl (by omega : 2 < 6)).trans rfl);obtain ⟨d1, d2⟩ := hB.dp (sp[k]).1 (List.mem_of_getLast? hlast);rw [hr];rw [hk] at b3;generalize (sp[k]).1.dp = D at *
  have hkm : k < 1000000 := by omega
  clear h hB hsl hss hr hc hlast hkl
  go_enter Tryz.func145, Tryz.ntmps145
  go_wp2;go_ret;exact ⟨by go_num, rfl⟩
end
end Go.Proofs.YtgjeofaedidnpaaGreatDoor.Ch
namespace Go.Proofs.YtgjeofaedidnpaaGreatDoor.Ch.Vd
open Go.RowKit
set_option maxRecDepth 100000
theorem nm_push {w w1 w2 W : World} {L : List (List UInt8)} {x : List UInt8} {v v' : Value} (hb : Below w.heap.size w w1) (hW : Below w1.heap.size w1 W) (ho : w1.ownsRow w.heap.size 9 1 v L.length (L.map bstr))
 (h2 : w2.ownsRow w.heap.size 9 1 v' (L.length + 1) (L.map bstr ++ [bstr x])) (hg : W.grownBy w2 v.ownBlock) : w2.ownsRow w.heap.size 9 1 v' (L ++ [x]).length ((L ++ [x]).map bstr) /\ Below w.heap.size w w2 := by
 refine ⟨by rw [List.map_append, List.length_append]; exact h2, (hb.trans (hW.mono hb.size)).grown hg (hb.trans (hW.mono hb.size)).size (fun k hk => (ho.lt k hk).1)⟩
theorem va_at {w : World} {A : Option Addr} {m cp : Nat} {vs : List VM} {n : Nat} (hR : Inn w 7 (.slice A m cp) n (Ch.flatV vs)) (hn : vs.length = n) {k : Nat} (hk : k < vs.length) :
 ∃ b o X, A = some ⟨b, o, none⟩ /\ b < w.heap.size /\ X.data.toList = vs[k].nm /\ w.cell? ⟨b, o + k * 7, none⟩ = some (.string X) /\ w.cell? ⟨b, o + k * 7 + 1, none⟩ = some (.int .i64 vs[k].kd) /\ w.cell? ⟨b, o + k * 7 + 2, none⟩ = some (.int .i64 vs[k].lo) /\ w.cell? ⟨b, o + k * 7 + 3, none⟩ = some (.int .i64 vs[k].hi) /\
  w.cell? ⟨b, o + k * 7 + 4, none⟩ = some (.int .i64 vs[k].ik) /\ w.cell? ⟨b, o + k * 7 + 5, none⟩ = some (.int .i64 vs[k].ia) /\ w.cell? ⟨b, o + k * 7 + 6, none⟩ = some (.int .i64 vs[k].ib) := by
 subst hn;obtain ⟨b, o, rfl, hb, hc⟩ := hR.at_ hk;obtain ⟨X, hX, hXl⟩ := bstr_some vs[k].nm;have f := fun j u (h : (vaV vs[k])[j]? = some u) (hj : j < 7) => hc j u ((flatM_at vaV 7 (fun _ => rfl) hk hj).trans h)
 have f0 := f 0 (bstr vs[k].nm) rfl (by omega);rw [hX] at f0;exact ⟨b, o, X, rfl, hb, hXl, f0, f 1 _ rfl (by omega), f 2 _ rfl (by omega), f 3 _ rfl (by omega), f 4 _ rfl (by omega), f 5 _ rfl (by omega), f 6 _ rfl (by omega)⟩
theorem take_map_snoc {α β : Type} (f : α -> β) {l : List α} {k : Nat} (hk : k < l.length) : (l.map f).take (k + 1) = (l.map f).take k ++ [f l[k]] := by
 rw [List.take_add_one];simp [hk]
set_option maxHeartbeats 8000000 in
theorem names_any {w : World} {c : CH} {eV vV sV tV : Value} {sp : List SP} {tp : List TP} (h : ChM w c eV vV sV tV sp tp) (hvl : c.vs.length <= 1000000) (hsl : sp.length <= 1000000) :
 Calls Tryz.prog 83 #[chA c eV vV sV tV] w fun e w' => (∃ u1 u2, e = .returned (.agg #[eV, u1, u2]) /\ w'.ownsRow w.heap.size 9 1 u1 (varN c).length ((varN c).map bstr) /\ w'.ownsRow w.heap.size 9 1 u2 (stN c).length ((stN c).map bstr)) /\ Below w.heap.size w w' := by
 obtain ⟨M, hM, hMl⟩ := bstr_some c.nm;have hR := h.ss; have hd := h.sd; have hE := h.ssE; have hV := h.vs;obtain ⟨is, hs0, hs1, hs2, hs3⟩ := info_of infoStrS;have HS0 := Lib.hid hs0; have HS1 := Lib.hid hs1; have HS2 := Lib.hid hs2; have HS3 := Lib.hid hs3;obtain ⟨⟨A1, k1, rfl⟩, ⟨A2, k2, rfl⟩, ⟨A3, k3, rfl⟩, ⟨A4, k4, rfl⟩⟩ := h.forms;unfold chA;rw [hM];have HVN : Hid (varN c = c.vs.map VM.nm) := rfl;have HSN : Hid (stN c = sp.map fun p => p.1.nm) := by show _ = _; unfold stN; rw [<- hE, List.map_map]; rfl
 have HVL : Hid ((varN c).length = c.vs.length) := by show _ = _; unfold varN; rw [List.length_map]
 have HSL : Hid ((stN c).length = sp.length) := by show _ = _; rw [HSN.out, List.length_map]
 have HV := Lib.hid hV; have HR := Lib.hid hR; have HD := Lib.hid hd;clear h hM hMl hR hd hE hV hs0 hs1 hs2 hs3;generalize c.es.length = n1; generalize tp.length = n4;obtain ⟨n2, hn2⟩ : ∃ n, c.vs.length = n := ⟨_, rfl⟩
 obtain ⟨n3, hn3⟩ : ∃ n, sp.length = n := ⟨_, rfl⟩
 have HN2 := Lib.hid hn2; have HN3 := Lib.hid hn3;rw [hn2] at hvl HV HVL; rw [hn3] at hsl HR HSL;show Calls _ _ #[.agg #[.string M, .slice A1 n1 k1, .slice A2 c.vs.length k2, .slice A3 sp.length k3, .slice A4 n4 k4]] w _;rw [hn2, hn3];clear hn2 hn3;obtain ⟨w1, hw1⟩ : ∃ W, W = (w.alloc (.cells #[.string M, .slice A1 n1 k1, .slice A2 n2 k2, .slice A3 n3 k3, .slice A4 n4 k4] 27)).alloc (.cells #[.slice none 0 0, .slice none 0 0, .slice none 0 0] 101) := ⟨_, rfl⟩
 have hb1 : Below w.heap.size w w1 := hw1 ▸ ((Below.refl _ _).alloc (Nat.le_refl _) _).alloc (by simp) _;have d1 : w1.cell? ⟨w.heap.size, 1, none⟩ = some (.slice A1 n1 k1) := by rw [hw1]; simp
 have d2 : w1.cell? ⟨w.heap.size, 2, none⟩ = some (.slice A2 n2 k2) := by rw [hw1]; simp
 have d3 : w1.cell? ⟨w.heap.size, 3, none⟩ = some (.slice A3 n3 k3) := by rw [hw1]; simp
 have g0 : w1.heap[w.heap.size + 1]? = some (.cells #[.slice none 0 0, .slice none 0 0, .slice none 0 0] 101 (0, 0)) := by
  have := World.alloc_heap_new (w.alloc (.cells #[.string M, .slice A1 n1 k1, .slice A2 n2 k2, .slice A3 n3 k3, .slice A4 n4 k4] 27)) (.cells #[.slice none 0 0, .slice none 0 0, .slice none 0 0] 101);rw [World.size_alloc] at this;rw [hw1]; exact this
 have HZ : Hid (w1.heap.size = w.heap.size + 2) := by show _ = _; rw [hw1]; simp
 have HW := Lib.hid hw1; have HB := Lib.hid hb1;have HG0 := Lib.hid g0; have HD1 := Lib.hid d1; have HD3 := Lib.hid d3;clear hw1 hb1 g0
 go_enter Tryz.func83, Tryz.ntmps83
 go_wp2_with fail
 rw [<- HW.out];go_wp2
 go_loopw [3, 6, 12] (fun xs xb xi wr => xb = xb /\ ∃ k : Nat, k <= n2 /\ xi = .int .i64 k /\ wr.ownsRow w1.heap.size 9 1 xs ((varN c).take k).length (((varN c).take k).map bstr) /\ Below w1.heap.size w1 wr) (fun _ _ x _ => n2 - (intOf x).toNat)
 case atStart => exact ⟨rfl, 0, by omega, rfl, World.ownsRow_nil _ _ _ _, Below.refl _ _⟩
 case round =>
  obtain ⟨_, k, hk, hxi, hown, hbw⟩ := hrel;obtain ⟨L, hL⟩ : ∃ L, (varN c).take k = L := ⟨_, rfl⟩
  rw [hL] at hown;have HL := Lib.hid hL;subst hxi;obtain ⟨wl, hwl⟩ : ∃ W, W = wr := ⟨_, rfl⟩
  subst hwl;obtain ⟨As, cs, es⟩ := own_slice hown;subst es;have HBW := Lib.hid hbw; have HOW := Lib.hid hown;have hLl : L.length <= 1000000 := by rw [<- hL, List.length_take]; omega
  clear hown hL;by_cases hkn : k < n2
  ·obtain ⟨b, o, X, rfl, _, hX, e0, e1, e2, e3, e4, e5, e6⟩ := va_at (HV.out.below (HB.out.trans (hbw.mono HB.out.size))) HN2.out (k := k) (by rw [HN2.out]; exact hkn);have htk : (varN c).take (k + 1) = L ++ [X.data.toList] := by rw [<- HL.out, HVN.out, hX]; exact take_map_snoc _ _
   generalize (c.vs[k]'(by rw [HN2.out]; exact hkn)).kd = x1 at *
   generalize (c.vs[k]'(by rw [HN2.out]; exact hkn)).lo = x2 at *
   generalize (c.vs[k]'(by rw [HN2.out]; exact hkn)).hi = x3 at *
   generalize (c.vs[k]'(by rw [HN2.out]; exact hkn)).ik = x4 at *
   generalize (c.vs[k]'(by rw [HN2.out]; exact hkn)).ia = x5 at *
   generalize (c.vs[k]'(by rw [HN2.out]; exact hkn)).ib = x6 at *
   have HTK := Lib.hid htk;obtain ⟨wm, hwm⟩ : ∃ W, W = wl.alloc (.cells #[.string X, .int .i64 x1, .int .i64 x2, .int .i64 x3, .int .i64 x4, .int .i64 x5, .int .i64 x6] 51) := ⟨_, rfl⟩
   have hbm : Below wl.heap.size wl wm := hwm ▸ (Below.refl _ _).alloc (Nat.le_refl _) _;have m0 : wm.cell? ⟨wl.heap.size, 0, none⟩ = some (.string X) := by rw [hwm]; simp
   have hzm : wm.heap.size = wl.heap.size + 1 := by rw [hwm]; simp
   have HIN : Hid (Inn (wm.alloc (.cells #[.string X] 9)) 1 (.slice (some ⟨wl.heap.size + 1, 0, none⟩) 1 1) 1 [.string X]) := by rw [<- hzm]; exact Inn.of_own (Oz.own_laid (B := 0) (size := 1) wm #[.string X] (Nat.zero_le _) (by decide) rfl)
   have HWM := Lib.hid hwm; have HBM := Lib.hid hbm;have hsz := HBW.out.size;clear hwm hbm hX htk hbw
   go_wp2_with (at_builtin; rw [<- HWM.out]; refine Ow.wpList_append rfl (.tmp 16) (.tmp 19) 22 rfl w1.heap.size 9 is _ 1 16 Tryz.underlying22 HS0.out HS1.out HS2.out HS3.out rfl (by decide) _ L.length (L.map bstr) rfl ((own_below HOW.out HBM.out).alloc _) _ 1 [.string X] rfl HIN.out (by intro u hu; simp at hu; subst hu; rfl) (by unfold maxLen; omega) (by omega) (by simp; omega) ?_)
   intro v5 w5 ho5 hg5 _;obtain ⟨hr, hb⟩ := nm_push HBW.out (HBM.out.alloc HBM.out.size (.cells #[.string X] 9)) HOW.out (x := X.data.toList) (by rw [bstr_of]; exact ho5) hg5;rw [<- HTK.out] at hr;have HR5 := Lib.hid hr; have HB5 := Lib.hid hb;clear ho5 hg5 hr hb;go_wp2
   go_roundw
   case rel => exact ⟨(by first | rfl | trivial), k + 1, by omega, by go_num, HR5.out, HB5.out⟩
   case measure => simp [intOf] <;> omega
  ·obtain rfl : k = n2 := by omega
   have HU1 : Hid (wl.ownsRow w1.heap.size 9 1 (.slice As L.length cs) (varN c).length ((varN c).map bstr)) := by
    show World.ownsRow _ _ _ _ _ _ _;have := HOW.out;rw [show L = varN c by rw [<- HL.out]; exact List.take_of_length_le (by rw [HVL.out]; exact Nat.le_refl _)] at this ⊢;exact this
   have d3 := (hbw.cell (by have := HZ.out; have := HBW.out.size; show w.heap.size < _; omega)).trans HD3.out;have d1 := (hbw.cell (by have := HZ.out; have := HBW.out.size; show w.heap.size < _; omega)).trans HD1.out;have g1 := Lib.hid ((hbw.block (w.heap.size + 1) (by have := HZ.out; omega)).trans HG0.out);have hsz0 := hbw.size;generalize L.length = nv at *
   clear hbw hkn hk d2 hLl;have HD1' := Lib.hid d1;go_wp2
   go_loopw [4, 8, 25] (fun xs xb xi wr => xb = xb /\ ∃ j : Nat, j <= n3 /\ xi = .int .i64 j /\ wr.ownsRow wl.heap.size 9 1 xs ((stN c).take j).length (((stN c).take j).map bstr) /\ Below wl.heap.size wl wr) (fun _ _ x _ => n3 - (intOf x).toNat)
   case atStart => exact ⟨rfl, 0, by omega, rfl, World.ownsRow_nil _ _ _ _, Below.refl _ _⟩
   case round =>
    obtain ⟨_, j, hj, hxi, hown, hbj⟩ := hrel;obtain ⟨K, hK⟩ : ∃ L, (stN c).take j = L := ⟨_, rfl⟩
    rw [hK] at hown;have HKL := Lib.hid hK;subst hxi;obtain ⟨wk, hwk⟩ : ∃ W, W = wr := ⟨_, rfl⟩
    subst hwk;obtain ⟨At, ct, et⟩ := own_slice hown;subst et;have HBJ := Lib.hid hbj; have HOJ := Lib.hid hown;have hLj : K.length <= 1000000 := by rw [<- hK, List.length_take]; omega
    clear hown hK;by_cases hjn : j < n3
    ·obtain ⟨b, o, X, Y, A4, n4, c4, A5, n5, c5, rfl, _, hX, _, _, _, _, _, e0, e1, e2, e3, e4, e5⟩ := st_at ((HR.out.below (HB.out.trans (HBW.out.mono HB.out.size))).below hbj) HN3.out (fun p hp => (((HD.out p hp).below HB.out).below HBW.out).below hbj) (k := j) (by rw [HN3.out]; exact hjn);have htk : (stN c).take (j + 1) = K ++ [X.data.toList] := by rw [<- HKL.out, HSN.out, hX]; exact take_map_snoc _ _
     generalize (sp[j]'(by rw [HN3.out]; exact hjn)).1.kd = x1 at *
     generalize (sp[j]'(by rw [HN3.out]; exact hjn)).1.dp = x2 at *
     have HTK := Lib.hid htk;obtain ⟨wm, hwm⟩ : ∃ W, W = wk.alloc (.cells #[.string X, .int .i64 x1, .int .i64 x2, .string Y, .slice A4 n4 c4, .slice A5 n5 c5] 39) := ⟨_, rfl⟩
     have hbm : Below wk.heap.size wk wm := hwm ▸ (Below.refl _ _).alloc (Nat.le_refl _) _;have m0 : wm.cell? ⟨wk.heap.size, 0, none⟩ = some (.string X) := by rw [hwm]; simp
     have hzm : wm.heap.size = wk.heap.size + 1 := by rw [hwm]; simp
     have HIN : Hid (Inn (wm.alloc (.cells #[.string X] 9)) 1 (.slice (some ⟨wk.heap.size + 1, 0, none⟩) 1 1) 1 [.string X]) := by rw [<- hzm]; exact Inn.of_own (Oz.own_laid (B := 0) (size := 1) wm #[.string X] (Nat.zero_le _) (by decide) rfl)
     have HWM := Lib.hid hwm; have HBM := Lib.hid hbm;have hsj := HBJ.out.size;clear hwm hbm hX htk hbj
     go_wp2_with (at_builtin; rw [<- HWM.out]; refine Ow.wpList_append rfl (.tmp 29) (.tmp 32) 22 rfl wl.heap.size 9 is _ 1 16 Tryz.underlying22 HS0.out HS1.out HS2.out HS3.out rfl (by decide) _ K.length (K.map bstr) rfl ((own_below HOJ.out HBM.out).alloc _) _ 1 [.string X] rfl HIN.out (by intro u hu; simp at hu; subst hu; rfl) (by unfold maxLen; omega) (by omega) (by simp; omega) ?_)
     intro v5 w5 ho5 hg5 _;obtain ⟨hr, hb⟩ := nm_push HBJ.out (HBM.out.alloc HBM.out.size (.cells #[.string X] 9)) HOJ.out (x := X.data.toList) (by rw [bstr_of]; exact ho5) hg5;rw [<- HTK.out] at hr;have HR5 := Lib.hid hr; have HB5 := Lib.hid hb;clear ho5 hg5 hr hb;go_wp2
     go_roundw
     case rel => exact ⟨(by first | rfl | trivial), j + 1, by omega, by go_num, HR5.out, HB5.out⟩
     case measure => simp [intOf] <;> omega
    ·obtain rfl : j = n3 := by omega
     have HU2 : Hid (wk.ownsRow wl.heap.size 9 1 (.slice At K.length ct) (stN c).length ((stN c).map bstr)) := by
      show World.ownsRow _ _ _ _ _ _ _;have := HOJ.out;rw [show K = stN c by rw [<- HKL.out]; exact List.take_of_length_le (by rw [HSL.out]; exact Nat.le_refl _)] at this ⊢;exact this
     have q1 := (hbj.cell (by have := HZ.out; have := HBW.out.size; show w.heap.size < _; omega)).trans HD1'.out;have g2 := (hbj.block (w.heap.size + 1) (by have := HZ.out; have := HBW.out.size; omega)).trans g1.out;have HG2 := Lib.hid g2;obtain ⟨f0, f1, f2⟩ : wk.frozen? ⟨w.heap.size + 1, 0, none⟩ = false /\ wk.frozen? ⟨w.heap.size + 1, 1, none⟩ = false /\ wk.frozen? ⟨w.heap.size + 1, 2, none⟩ = false := by simp [World.frozen?, g2]
     obtain ⟨y0, y1, y2⟩ : wk.cell? ⟨w.heap.size + 1, 0, none⟩ = some (.slice none 0 0) /\ wk.cell? ⟨w.heap.size + 1, 1, none⟩ = some (.slice none 0 0) /\ wk.cell? ⟨w.heap.size + 1, 2, none⟩ = some (.slice none 0 0) := by simp [World.cell?, g2]
     generalize K.length = nt at *
     clear hjn hj d1 d3 hLj hbj g2;go_wp2;have r0 : (wk.setCell ⟨w.heap.size + 1, 0, none⟩ (.slice A1 n1 k1)).heap[w.heap.size + 1]? = some (.cells #[.slice A1 n1 k1, .slice none 0 0, .slice none 0 0] 101 (0, 0)) := heap_setCell_same _ _ 0 _ _ _ HG2.out;have r1 : ((wk.setCell ⟨w.heap.size + 1, 0, none⟩ (.slice A1 n1 k1)).setCell ⟨w.heap.size + 1, 1, none⟩ (.slice As nv cs)).heap[w.heap.size + 1]? = some (.cells #[.slice A1 n1 k1, .slice As nv cs, .slice none 0 0] 101 (0, 0)) := heap_setCell_same _ _ 1 _ _ _ r0;have r2 : (((wk.setCell ⟨w.heap.size + 1, 0, none⟩ (.slice A1 n1 k1)).setCell ⟨w.heap.size + 1, 1, none⟩ (.slice As nv cs)).setCell ⟨w.heap.size + 1, 2, none⟩ (.slice At nt ct)).heap[w.heap.size + 1]? = some (.cells #[.slice A1 n1 k1, .slice As nv cs, .slice At nt ct] 101 (0, 0)) := heap_setCell_same _ _ 2 _ _ _ r1;have hz2 := HZ.out;have hzl := HBW.out.size;have hp1 : w.heap.size + 1 < w1.heap.size := by omega
     have hp2 : w.heap.size + 1 < wl.heap.size := by omega
     have hu1 := own_lower (own_past (own_past (own_past (own_below HU1.out HBJ.out) hp1 0 (.slice A1 n1 k1)) hp1 1 (.slice As nv cs)) hp1 2 (.slice At nt ct)) (show w.heap.size <= w1.heap.size by omega);have hu2 := own_lower (own_past (own_past (own_past HU2.out hp2 0 (.slice A1 n1 k1)) hp2 1 (.slice As nv cs)) hp2 2 (.slice At nt ct)) (show w.heap.size <= wl.heap.size by omega);have hbf := (((HB.out.trans ((HBW.out.trans (HBJ.out.mono HBW.out.size)).mono HB.out.size)).setCell (p := ⟨w.heap.size + 1, 0, none⟩) (show w.heap.size <= w.heap.size + 1 by omega) (.slice A1 n1 k1)).setCell (p := ⟨w.heap.size + 1, 1, none⟩) (show w.heap.size <= w.heap.size + 1 by omega) (.slice As nv cs)).setCell (p := ⟨w.heap.size + 1, 2, none⟩) (show w.heap.size <= w.heap.size + 1 by omega) (.slice At nt ct);clear r0 r1 hz2 hzl hp1 hp2 f0 f1 f2 y0 y1 y2;generalize World.setCell _ _ _ = WF at *
     obtain ⟨z0, z1, z2⟩ : WF.cell? ⟨w.heap.size + 1, 0, none⟩ = some (.slice A1 n1 k1) /\ WF.cell? ⟨w.heap.size + 1, 1, none⟩ = some (.slice As nv cs) /\ WF.cell? ⟨w.heap.size + 1, 2, none⟩ = some (.slice At nt ct) := by simp [World.cell?, r2]
     refine bodyPost_ret (v := .agg #[.slice A1 n1 k1, .slice As nv cs, .slice At nt ct]) ?_ rfl ⟨⟨_, _, rfl, hu1, hu2⟩, hbf⟩;have hr := Tryz.results83;unfold results;rw [hr];simp [go_sem, Sem.run_bind, Result.andThen, z0, z1, z2]
end Go.Proofs.YtgjeofaedidnpaaGreatDoor.Ch.Vd
