/- Own texts, joined: A28. -/
import Derived.Test.YtjgfkmakfdepcaaGreatDoorR25
import Derived.Test.YtjgfkmakfdepcaaGreatDoorR26
namespace Go.Proofs.YtjgfkmakfdepcaaGreatDoor
open Go.RowKit

/-- a row that took over an older one, or is new -/
def NewRow (rv : Value) (S B : Nat) (e : TypeId) (n : Nat) (ys : List Value) : Ow.Rel := fun v w => w.ownsRow B e 1 v n ys ∧ ∀ g, v.ownBlock = some g → rv.ownBlock = some g ∨ S ≤ g
theorem keeps_new {base : Nat} {rv : Value} {S B : Nat} {e : TypeId} {n : Nat} {ys : List Value} : Oz.Keeps1 base true (NewRow rv S B e n ys) :=
  fun v w w' row h hg hb hne => ⟨Oz.keeps_own (base := base) B e 1 n ys v w w' row h.1 hg hb hne, h.2⟩
theorem keeps_is {base : Nat} {rv : Value} {B : Nat} {e : TypeId} {n : Nat} {ys : List Value} : Oz.Keeps1 base true (fun v w => v = rv ∧ w.ownsRow B e 1 v n ys) :=
  fun v w w' row h hg hb hne => ⟨h.1, Oz.keeps_own (base := base) B e 1 n ys v w w' row h.2 hg hb hne⟩
theorem new_or {rv v v' : Value} {S n m : Nat} (e : v = rv) (hz : S ≤ n) (hob : (v'.ownBlock = v.ownBlock ∧ ∀ g, v'.ownBlock = some g → g < m) ∨ ∀ g, v'.ownBlock = some g → n ≤ g ∧ g < m) : ∀ g, v'.ownBlock = some g → rv.ownBlock = some g ∨ S ≤ g := by
  subst e
  intro g hg
  rcases hob with ⟨h, _⟩ | h
  · exact Or.inl (h ▸ hg)
  · exact Or.inr (Nat.le_trans hz (h g hg).1)
theorem own_neq {w : World} {B : Nat} {e : TypeId} {size n b : Nat} {v : Value} {xs : List Value} (h : w.ownsRow B e size v n xs) (hb : b < B) : v.ownBlock ≠ some b := by
  intro hv
  have := (h.lt b hv).1
  omega
theorem NewRow.past {rv v : Value} {S B : Nat} {e : TypeId} {n : Nat} {ys : List Value} {w : World} {b : Nat} (h : NewRow rv S B e n ys v w) (hb : b < B) (j : Nat) (u : Value) : NewRow rv S B e n ys v (w.setCell ⟨b, j, none⟩ u) :=
  ⟨own_past h.1 hb _ _, h.2⟩
section
variable {w wl w1 : World} {xv rv sv v' : Value} {ok : Bool} {xs : List VA} {r s : List (List UInt8)} {nm : List UInt8} {kr kb : Nat}
theorem DidI.low (h : DidI w wl xv rv sv ok xs r s) (hb : Below wl.heap.size wl w1) : DidI w w1 xv rv sv ok xs r s := by
  have hz := h.size
  exact ⟨(hb.block _ (by omega)).trans h.res, (hb.block _ (by omega)).trans h.box, h.rows.below hb, h.below.trans (hb.mono (by omega)), Nat.le_trans hz hb.size⟩
theorem DidI.okS (h : DidI w wl xv rv sv ok xs r s) (q : Bool) : DidI w (wl.setCell ⟨w.heap.size + 1, 3, none⟩ (.bool q)) xv rv sv q xs r s :=
  did_store 3 h.res h.box h.below h.size h.rows rfl
theorem DidI.okd (h : DidI w wl xv rv sv ok xs r s) {q : Bool} (hb : Below (w.heap.size + 1) wl.drew w1) (hu : ∀ k, k < wl.drew.heap.size → (∀ j, Oz.cl2 (.slice none 0 0) (w.heap.size + 1) kr kb j ≠ some k) → w1.heap[k]? = wl.drew.heap[k]?)
    (hx : w1.heap[w.heap.size + 1]? = some (.cells #[xv, rv, sv, .bool q] 46 (0, 0))) : DidI w w1 xv rv sv q xs r s := by
  have hz := h.size
  have key : ∀ k, k < wl.heap.size → k ≠ w.heap.size + 1 → w1.heap[k]? = wl.heap[k]? := fun k hk hne => hu k hk (fun j hj => by
    rcases Oz.cl2_cases hj with ⟨_, h⟩ | ⟨_, h⟩
    · cases h
    · exact hne h)
  have row : ∀ {e : TypeId} {size n : Nat} {v : Value} {ys : List Value}, wl.ownsRow (w.heap.size + 2) e size v n ys → w1.ownsRow (w.heap.size + 2) e size v n ys := fun ho => Oz.own_same ho (fun g hg => key g (ho.lt g hg).2 (by have := (ho.lt g hg).1; omega))
  refine ⟨(key _ (by omega) (by omega)).trans h.res, hx, ⟨row h.rows.x, row h.rows.r, row h.rows.s, h.rows.xr, h.rows.xs, h.rows.rs⟩, h.below.trans (((Below.refl _ _).drew.trans hb).mono (by omega)), Nat.le_trans hz hb.size⟩
theorem DidI.push1 (h : DidI w wl xv rv sv true xs r s) (hb : Below (w.heap.size + 1) wl.drew w1) (hu : ∀ k, k < wl.drew.heap.size → (∀ j, Oz.cl2 rv (w.heap.size + 1) kr kb j ≠ some k) → w1.heap[k]? = wl.drew.heap[k]?)
    (hx : w1.heap[w.heap.size + 1]? = some (.cells #[xv, v', sv, .bool true] 46 (0, 0))) (hn : NewRow rv wl.heap.size (w.heap.size + 2) 9 (r.length + 1) (r.map bstr ++ [bstr nm]) v' w1) : DidI w w1 xv v' sv true xs (r ++ [nm]) s := by
  have hz := h.size
  have key : ∀ k, k < wl.heap.size → k ≠ w.heap.size + 1 → rv.ownBlock ≠ some k → w1.heap[k]? = wl.heap[k]? := fun k hk hne hrv => hu k hk (fun j hj => by
    rcases Oz.cl2_cases hj with ⟨_, h⟩ | ⟨_, h⟩
    · exact hrv h
    · exact hne h)
  have row : ∀ {e : TypeId} {size n : Nat} {v : Value} {ys : List Value}, wl.ownsRow (w.heap.size + 2) e size v n ys → (∀ g, v.ownBlock = some g → rv.ownBlock ≠ some g) → w1.ownsRow (w.heap.size + 2) e size v n ys := fun ho hne => Oz.own_same ho (fun g hg => key g (ho.lt g hg).2 (by have := (ho.lt g hg).1; omega) (hne g hg))
  have apart : ∀ {e : TypeId} {size n : Nat} {v : Value} {ys : List Value}, wl.ownsRow (w.heap.size + 2) e size v n ys → (∀ g, v.ownBlock = some g → rv.ownBlock ≠ some g) → ∀ g, v.ownBlock = some g → v'.ownBlock ≠ some g := fun ho hne g hg hv => by
    rcases hn.2 g hv with h1 | h1
    · exact hne g hg h1
    · have := (ho.lt g hg).2; omega
  have hnr := hn.1
  refine ⟨(key _ (by omega) (by omega) (own_neq h.rows.r (by omega))).trans h.res, hx, ⟨row h.rows.x h.rows.xr, by simpa using hnr, row h.rows.s (ne_symm h.rows.rs), apart h.rows.x h.rows.xr, h.rows.xs, ne_symm (apart h.rows.s (ne_symm h.rows.rs))⟩, h.below.trans (((Below.refl _ _).drew.trans hb).mono (by omega)), Nat.le_trans hz hb.size⟩
theorem DidI.push2 (h : DidI w wl xv rv sv true xs r s) (hb : Below (w.heap.size + 1) wl.drew w1) (hu : ∀ k, k < wl.drew.heap.size → (∀ j, Oz.cl2 sv (w.heap.size + 1) kr kb j ≠ some k) → w1.heap[k]? = wl.drew.heap[k]?)
    (hx : w1.heap[w.heap.size + 1]? = some (.cells #[xv, rv, v', .bool true] 46 (0, 0))) (hn : NewRow sv wl.heap.size (w.heap.size + 2) 9 (s.length + 1) (s.map bstr ++ [bstr nm]) v' w1) : DidI w w1 xv rv v' true xs r (s ++ [nm]) := by
  have hz := h.size
  have key : ∀ k, k < wl.heap.size → k ≠ w.heap.size + 1 → sv.ownBlock ≠ some k → w1.heap[k]? = wl.heap[k]? := fun k hk hne hrv => hu k hk (fun j hj => by
    rcases Oz.cl2_cases hj with ⟨_, h⟩ | ⟨_, h⟩
    · exact hrv h
    · exact hne h)
  have row : ∀ {e : TypeId} {size n : Nat} {v : Value} {ys : List Value}, wl.ownsRow (w.heap.size + 2) e size v n ys → (∀ g, v.ownBlock = some g → sv.ownBlock ≠ some g) → w1.ownsRow (w.heap.size + 2) e size v n ys := fun ho hne => Oz.own_same ho (fun g hg => key g (ho.lt g hg).2 (by have := (ho.lt g hg).1; omega) (hne g hg))
  have apart : ∀ {e : TypeId} {size n : Nat} {v : Value} {ys : List Value}, wl.ownsRow (w.heap.size + 2) e size v n ys → (∀ g, v.ownBlock = some g → sv.ownBlock ≠ some g) → ∀ g, v.ownBlock = some g → v'.ownBlock ≠ some g := fun ho hne g hg hv => by
    rcases hn.2 g hv with h1 | h1
    · exact hne g hg h1
    · have := (ho.lt g hg).2; omega
  have hnr := hn.1
  refine ⟨(key _ (by omega) (by omega) (own_neq h.rows.s (by omega))).trans h.res, hx, ⟨row h.rows.x h.rows.xs, row h.rows.r h.rows.rs, by simpa using hnr, h.rows.xr, apart h.rows.x h.rows.xs, apart h.rows.r h.rows.rs⟩, h.below.trans (((Below.refl _ _).drew.trans hb).mono (by omega)), Nat.le_trans hz hb.size⟩
theorem DidI.setX {gx cx : Nat} (h : DidI w wl (.slice (some ⟨gx, 0, none⟩) xs.length cx) rv sv ok xs r s) (i : Nat) (hi : i < xs.length) (x : VA) :
    DidI w (((wl.setCell ⟨gx, i * 3, none⟩ (.int .i64 x.kd)).setCell ⟨gx, i * 3 + 1, none⟩ (.int .i64 x.a)).setCell ⟨gx, i * 3 + 2, none⟩ (.int .i64 x.b)) (.slice (some ⟨gx, 0, none⟩) xs.length cx) rv sv ok (xs.set i x) r s := by
  have hl := h.rows.x.lt gx rfl
  have hg : wl.grownBy (((wl.setCell ⟨gx, i * 3, none⟩ (.int .i64 x.kd)).setCell ⟨gx, i * 3 + 1, none⟩ (.int .i64 x.a)).setCell ⟨gx, i * 3 + 2, none⟩ (.int .i64 x.b)) (some gx) := Lib.grownBy_setB (Lib.grownBy_setB (Lib.grownBy_setB (World.grownBy.refl wl (some gx)) _ _) _ _) _ _
  have hd := h.grown hg (fun g hg => by obtain rfl := Option.some.inj hg; exact hl.1)
  have hs := own_setX h.rows.x i hi x
  refine ⟨hd.1, hd.2.1, h.rows.set (xs' := xs.set i x) (by rw [List.length_set]; exact hs) hg, hd.2.2.1, hd.2.2.2⟩
end
theorem own_at {w : World} {B : Nat} {e : TypeId} {size n m c : Nat} {A : Option Addr} {xs : List Value} (h : w.ownsRow B e size (.slice A m c) n xs) (hn : 0 < n) : ∃ g, A = some ⟨g, 0, none⟩ := by
  rcases h.2 with ⟨_, h2⟩ | ⟨g, cap, cur, h2, _⟩
  · omega
  · simp only [Value.slice.injEq] at h2
    exact ⟨g, h2.1⟩
theorem own_at3 {w : World} {B g c : Nat} {xs : List VA} (h : w.ownsRow B 54 3 (.slice (some ⟨g, 0, none⟩) xs.length c) xs.length (flatX xs)) {i : Nat} (hi : i < xs.length) :
    ∃ a b d, w.cell? ⟨g, i * 3, none⟩ = some (.int .i64 a) ∧ w.cell? ⟨g, i * 3 + 1, none⟩ = some (.int .i64 b) ∧ w.cell? ⟨g, i * 3 + 2, none⟩ = some (.int .i64 d) :=
  ⟨_, _, _, (h.cellAt (i * 3) (by omega)).trans ((flatX_at hi (j := 0) (by omega)).trans rfl), (h.cellAt (i * 3 + 1) (by omega)).trans ((flatX_at hi (j := 1) (by omega)).trans rfl), (h.cellAt (i * 3 + 2) (by omega)).trans ((flatX_at hi (j := 2) (by omega)).trans rfl)⟩
/-- the loop, done or failed -/
structure LoopI (vs : List VM) (al : List AM) (xs0 : List VA) (n k : Nat) (xs : List VA) (r s : List (List UInt8)) (ok : Bool) : Prop where
  le : k ≤ n
  rl : r.length ≤ n
  go : ok = true → DoI vs al xs0 n k xs r s
  no : ok = false → doP vs al xs0 [] [] = ⟨xs, r ++ [wErr], s, false⟩
theorem LoopI.of {vs : List VM} {al : List AM} {xs0 xs : List VA} {n k : Nat} {r s : List (List UInt8)} (h : DoI vs al xs0 n k xs r s) : LoopI vs al xs0 n k xs r s true :=
  ⟨h.le, Nat.le_trans h.rl h.le, fun _ => h, (fun h => by cases h)⟩
theorem LoopI.failed {vs : List VM} {al : List AM} {xs0 xs : List VA} {n k : Nat} {r s : List (List UInt8)} (hk : k ≤ n) (hr : r.length ≤ n) (h : doP vs al xs0 [] [] = ⟨xs, r ++ [wErr], s, false⟩) : LoopI vs al xs0 n k xs r s false :=
  ⟨hk, hr, (fun h => by cases h), fun _ => h⟩
theorem fin4d {w w1 : World} {xv rv sv : Value} {ok : Bool} {xs : List VA} {r s : List (List UInt8)} (h : DidI w w1 xv rv sv ok xs r s) :
    ((((((w1.setCell ⟨w.heap.size, 0, none⟩ xv).setCell ⟨w.heap.size, 1, none⟩ rv).setCell ⟨w.heap.size, 2, none⟩ sv).setCell ⟨w.heap.size, 3, none⟩ (.bool ok)).cell? ⟨w.heap.size, 0, none⟩ = some xv ∧
    ((((w1.setCell ⟨w.heap.size, 0, none⟩ xv).setCell ⟨w.heap.size, 1, none⟩ rv).setCell ⟨w.heap.size, 2, none⟩ sv).setCell ⟨w.heap.size, 3, none⟩ (.bool ok)).cell? ⟨w.heap.size, 1, none⟩ = some rv ∧
    ((((w1.setCell ⟨w.heap.size, 0, none⟩ xv).setCell ⟨w.heap.size, 1, none⟩ rv).setCell ⟨w.heap.size, 2, none⟩ sv).setCell ⟨w.heap.size, 3, none⟩ (.bool ok)).cell? ⟨w.heap.size, 2, none⟩ = some sv ∧
    ((((w1.setCell ⟨w.heap.size, 0, none⟩ xv).setCell ⟨w.heap.size, 1, none⟩ rv).setCell ⟨w.heap.size, 2, none⟩ sv).setCell ⟨w.heap.size, 3, none⟩ (.bool ok)).cell? ⟨w.heap.size, 3, none⟩ = some (.bool ok))) ∧
    Rows3 w.heap.size ((((w1.setCell ⟨w.heap.size, 0, none⟩ xv).setCell ⟨w.heap.size, 1, none⟩ rv).setCell ⟨w.heap.size, 2, none⟩ sv).setCell ⟨w.heap.size, 3, none⟩ (.bool ok)) xv rv sv xs r s ∧
    Below w.heap.size w ((((w1.setCell ⟨w.heap.size, 0, none⟩ xv).setCell ⟨w.heap.size, 1, none⟩ rv).setCell ⟨w.heap.size, 2, none⟩ sv).setCell ⟨w.heap.size, 3, none⟩ (.bool ok)) := by
  have h1 := heap_setCell_same _ _ 0 _ _ xv h.res
  have h2 := heap_setCell_same _ _ 1 _ _ rv h1
  have h3 := heap_setCell_same _ _ 2 _ _ sv h2
  have h4 := heap_setCell_same _ _ 3 _ _ (.bool ok) h3
  obtain ⟨r0, r1, r2, r3, _⟩ := at4d (x0 := xv) (x1 := rv) (x2 := sv) (x3 := .bool ok) h4
  have hB : w.heap.size < w.heap.size + 2 := by omega
  exact ⟨⟨r0, r1, r2, r3⟩, ((((h.rows.past hB 0 xv).past hB 1 rv).past hB 2 sv).past hB 3 (.bool ok)).low (by omega), (((h.below.setCell (Nat.le_refl _) _).setCell (Nat.le_refl _) _).setCell (Nat.le_refl _) _).setCell (Nat.le_refl _) _⟩

set_option maxRecDepth 100000 in
set_option maxHeartbeats 16000000 in
theorem refDo_any (v vv xv : Value) (ps : List AP) (vs : List VM) (xs : List VA) (w : World) (hA : RdA w v ps) (hpl : ps.length * 48 ≤ 140737488355328) (hV : RdV w vv vs) (hvl : vs.length * 64 ≤ 140737488355328)
    (hX : RdX w xv xs) (hxl : xs.length * 24 ≤ 140737488355328) (hi : ∀ x ∈ xs, inL x.a = true) :
    Calls Tryz.prog 20 #[v, vv, xv] w (DidPost (doP vs (ps.map Prod.fst) xs [] []) w) := by
  obtain ⟨P, pc, rfl⟩ := hA.form
  obtain ⟨V, vc, rfl⟩ := hV.form
  obtain ⟨X, xc, rfl⟩ := RdX.form hX
  obtain ⟨is, hs0, hs1, hs2, hs3⟩ := info_of infoStrS
  have HS0 := Lib.hid hs0; have HS1 := Lib.hid hs1; have HS2 := Lib.hid hs2; have HS3 := Lib.hid hs3
  obtain ⟨iv, hv0, hv1, hv2, hv3⟩ := info_of infoValue
  have HV0 := Lib.hid hv0; have HV1 := Lib.hid hv1; have HV2 := Lib.hid hv2; have HV3 := Lib.hid hv3
  have HAW0 := Lib.hid hA
  have HVW : Hid (∀ W, Below w.heap.size w W → RdV W (.slice V vs.length vc) vs) := fun W hb => hV.below hb
  have HVW0 := Lib.hid hV
  obtain ⟨hZ, hA1, hB, hS⟩ := two_boxes w #[.slice none 0 0, .slice none 0 0, .slice none 0 0, .bool false] #[.slice none 0 0, .slice none 0 0, .slice none 0 0, .bool true] 46
  have HXI : Hid (Inn ((w.alloc (.cells #[.slice none 0 0, .slice none 0 0, .slice none 0 0, .bool false] 46)).alloc (.cells #[.slice none 0 0, .slice none 0 0, .slice none 0 0, .bool true] 46)) 3 (.slice X xs.length xc) xs.length (flatX xs)) := Inn.below hX hB
  have HZ := Lib.hid hZ; have HA1 := Lib.hid hA1; have HB := Lib.hid hB; have HS := Lib.hid hS
  obtain ⟨n, hn⟩ : ∃ n, ps.length = n := ⟨_, rfl⟩
  have HL := Lib.hid hn
  have HN : Hid ((ps.map Prod.fst).length = n) := by rw [← hn]; exact List.length_map _
  have HLI0 : Hid (LoopI vs (ps.map Prod.fst) xs n 0 xs [] [] true) := LoopI.of ⟨by omega, rfl, Nat.le_refl _, Nat.le_refl _, hi, rfl⟩
  rw [hn] at hpl HAW0 ⊢
  obtain ⟨a0, a1, a2, a3, f0, f1, f2, f3⟩ := at4d hA1
  clear hs0 hs1 hs2 hs3 hv0 hv1 hv2 hv3 hA hV hX hZ hA1 hB hS hn hi
  go_enter Tryz.func20, Tryz.ntmps20
  go_wp2_with (at_builtin; refine Ow.wpList_append rfl (.tmp 14) (.tmp 15) 39 rfl (w.heap.size + 2) 54 iv _ 3 24 Tryz.underlying39 HV0.out HV1.out HV2.out HV3.out rfl (by decide) _ 0 [] rfl (World.ownsRow_nil _ _ _ _) _ xs.length (flatX xs) rfl HXI.out (flatX_vals xs) (by unfold maxLen; omega) (by omega) (by rw [HS.out]; omega) ?_)
  intro v1 w1 ho1 hg1 hob1
  have ho1 : w1.ownsRow (w.heap.size + 2) 54 3 v1 xs.length (flatX xs) := by simpa using ho1
  have hg1 : World.grownBy _ w1 none := hg1
  have hz1 := (hg1.block w.heap.size (by rw [HS.out]; omega) (by simp)).trans HZ.out
  have hb1 := (hg1.block (w.heap.size + 1) (by rw [HS.out]; omega) (by simp)).trans HA1.out
  have hbw1 := HB.out.grown hg1 (by rw [HS.out]; omega) (fun k hk => by cases hk)
  have hs1 := hg1.size
  rw [HS.out] at hs1
  obtain ⟨Av, cv, e1⟩ := own_slice ho1
  subst e1
  have HI0 : Hid (DidI w (w1.setCell ⟨w.heap.size + 1, 0, none⟩ (.slice Av xs.length cv)) (.slice Av xs.length cv) (.slice none 0 0) (.slice none 0 0) true xs [] []) := did_store 0 hz1 hb1 hbw1 hs1 ⟨ho1, World.ownsRow_nil _ _ _ _, World.ownsRow_nil _ _ _ _, (by intro g _ h; cases h), (by intro g _ h; cases h), (by intro g _ h; cases h)⟩ rfl
  clear a0 a1 a2 a3 f0 f1 f2 f3
  obtain ⟨a0, a1, a2, a3, f0, f1, f2, f3⟩ := at4d hb1
  clear ho1 hg1 hob1 hz1 hb1 hbw1 hs1
  go_wp2
  go_loopw [8] (fun x8 wr => ∃ (k : Nat) (ys : List VA) (r s : List (List UInt8)) (ok : Bool) (xv rv sv : Value), LoopI vs (ps.map Prod.fst) xs n k ys r s ok ∧ DidI w wr xv rv sv ok ys r s ∧ x8 = .int .i64 (k : Int)) (fun i _ => n - (intOf i).toNat)
  case atStart => exact ⟨0, xs, [], [], true, _, _, _, HLI0.out, HI0.out, rfl⟩
  case round =>
    obtain ⟨k, ys, r, s, ok, xv, rv, sv, hL, hD, rfl⟩ := hrel
    obtain ⟨wl, hwl⟩ : ∃ W, W = wr := ⟨_, rfl⟩
    subst hwl
    have hk := hL.le
    have hrl := hL.rl
    have hz := hD.size
    have HLX := Lib.hid hL
    have HDX := Lib.hid hD
    obtain ⟨a0, a1, a2, a3, f0, f1, f2, f3⟩ := at4d hD.box
    obtain ⟨c0, c1, c2, c3, d0, d1, d2, d3⟩ := at4d hD.res
    clear hL hD
    have HERR : ok = false → _ := fun h => HLX.out.no h
    by_cases hbody : k < n ∧ ok = true
    · obtain ⟨hkn, rfl⟩ := hbody
      have hI := HLX.out.go rfl
      have hsl := hI.sl
      have HI := Lib.hid hI
      have hyl := hI.xl
      have hyi := hI.inl
      clear hI HERR
      obtain ⟨bl, ol, rfl, hbl, hc0, hc1, hc2, hAR⟩ := HAW0.out.at_ (k := k) (by rw [HL.out]; exact hkn)
      have ha : (ps.map Prod.fst)[k]'(by rw [HN.out]; exact hkn) = (ps[k]'(by rw [HL.out]; exact hkn)).1 := List.getElem_map _
      generalize ps[k]'(by rw [HL.out]; exact hkn) = p at *
      obtain ⟨⟨pk, pn, pe⟩, pv⟩ := p
      simp only at hc0 hc1 hc2 ha
      obtain ⟨N, hN, hNl⟩ := bstr_some pn
      rw [hN] at hc1
      subst hNl
      obtain ⟨hA1, hA2, hA3, hA4⟩ := hAR
      simp only at hA1 hA2 hA3 hA4
      have HA := Lib.hid ha
      have e0 := (HDX.out.below.cell (show bl < _ from hbl)).trans hc0
      have e1 := (HDX.out.below.cell (show bl < _ from hbl)).trans hc1
      have e2 := (HDX.out.below.cell (show bl < _ from hbl)).trans hc2
      obtain ⟨Ae, ce, rfl⟩ := hA1.slice
      have HA1 := Lib.hid hA1
      have HA3 := Lib.hid hA3
      clear hA1 hA3 hA4 ha hN hc0 hc1 hc2
      by_cases h2 : pk = 2
      · subst h2
        have HP := Lib.hid (LoopI.of (HI.out.raise HN.out (by exact hkn) HA.out))
        go_wp2_with fail
        refine Oz.region_two 113 [Ow.eqR (.pointer (some ⟨w.heap.size + 1, 1, none⟩)), fun v w' => v = rv ∧ w'.ownsRow (w.heap.size + 2) 9 1 v r.length (r.map bstr), Ow.eqR (.slice (some ⟨bl, ol, none⟩) n pc), Ow.eqR (.int .i64 (k : Int)), Ow.eqR (.pointer (some ⟨bl, ol + k * 3, none⟩)), Ow.eqR (.pointer (some ⟨bl, ol + k * 3 + 1, none⟩)), Ow.eqR (.string N), fun v w' => w'.ownsRow (w.heap.size + 2) 9 1 v 1 [.string N], NewRow (rv) wl.heap.size (w.heap.size + 2) 9 (r.length + 1) (r.map bstr ++ [.string N]), Ow.eqR (.pointer (some ⟨w.heap.size + 1, 1, none⟩)), fun _ w' => ∃ v', w'.heap[w.heap.size + 1]? = some (.cells #[xv, v', sv, .bool true] 46 (0, 0)) ∧ NewRow (rv) wl.heap.size (w.heap.size + 2) 9 (r.length + 1) (r.map bstr ++ [.string N]) v' w'] [false, true, false, false, false, false, false, true, true, false, false] [none, none, none, none, none, none, none, none, some 1, none, none] (w.heap.size + 1) 1 10 (w.heap.size + 1) (rv) (own_lower (HDX.out.rows.r) (by omega)) (own_neq (HDX.out.rows.r) (by omega)) (Nat.le_refl _) (by omega) (by kernel_rfl) rfl (by kernel_rfl) (by kernel_rfl) rfl rfl ⟨Oz.keeps_eq _ _, keeps_is, Oz.keeps_eq _ _, Oz.keeps_eq _ _, Oz.keeps_eq _ _, Oz.keeps_eq _ _, Oz.keeps_eq _ _, Oz.keeps_own _ _ _ _ _, keeps_new, Oz.keeps_eq _ _, trivial⟩ ?_
        apply Oz.walk_consL rfl
        · intro w1 hb hu hd ho K hK
          clear hu hd ho
          go_simp
          exact hK _ _ (Oz.good_same rfl rfl rfl)
        · intro v; simp only [Act.put, List.setIfInBounds_toArray, List.set_cons_succ, List.set_cons_zero]; exact rfl
        · intro v; exact (rfl : _ = ([v] : List Value))
        intro x36
        apply Oz.walk_consL rfl
        · intro w1 hb hu hd ho K hK
          have e36 : _ = x36 := Eq.symm (hd 0 (by kernel_rfl))
          subst e36
          have hh : w1.heap[w.heap.size + 1]? = some (.cells #[xv, rv, sv, .bool true] 46 (0, 0)) := (hu _ (by simp; omega) (fun j hj => by rcases Oz.cl2_cases hj with ⟨_, h⟩ | ⟨rfl, _⟩; exact absurd h (own_neq (HDX.out.rows.r) (by omega)); exact Or.inr rfl)).trans HDX.out.box
          obtain ⟨b0, b1, b2, b3, g0, g1, g2, g3⟩ := at4d hh
          have hx := Oz.own_same (HDX.out.rows.r) (w' := w1) (fun g hg => (hu g (by have := (HDX.out.rows.r).lt g hg; simp; omega) (fun j hj => by rcases Oz.cl2_cases hj with ⟨rfl, _⟩ | ⟨rfl, _⟩; exact Or.inl rfl; exact Or.inr rfl)).trans rfl)
          have hbz := hb.size
          clear hu hd ho
          go_simp
          exact hK _ _ (Oz.good_claim rfl (by omega) ⟨rfl, hx⟩ hx Oz.cl2_row)
        · intro v; simp only [Act.put, List.setIfInBounds_toArray, List.set_cons_succ, List.set_cons_zero]; exact rfl
        · intro v; exact (rfl : _ = ([x36, v] : List Value))
        intro x37
        apply Oz.walk_consL rfl
        · intro w1 hb hu hd ho K hK
          clear hu hd ho
          go_simp
          exact hK _ _ (Oz.good_same rfl rfl rfl)
        · intro v; simp only [Act.put, List.setIfInBounds_toArray, List.set_cons_succ, List.set_cons_zero]; exact rfl
        · intro v; exact (rfl : _ = ([x36, x37, v] : List Value))
        intro x38
        apply Oz.walk_consL rfl
        · intro w1 hb hu hd ho K hK
          clear hu hd ho
          go_simp
          exact hK _ _ (Oz.good_same rfl rfl rfl)
        · intro v; simp only [Act.put, List.setIfInBounds_toArray, List.set_cons_succ, List.set_cons_zero]; exact rfl
        · intro v; exact (rfl : _ = ([x36, x37, x38, v] : List Value))
        intro x39
        apply Oz.walk_consL rfl
        · intro w1 hb hu hd ho K hK
          have e38 : _ = x38 := Eq.symm (hd 2 (by kernel_rfl))
          subst e38
          have e39 : _ = x39 := Eq.symm (hd 3 (by kernel_rfl))
          subst e39
          clear hu hd ho
          go_simp
          exact hK _ _ (Oz.good_same rfl rfl rfl)
        · intro v; simp only [Act.put, List.setIfInBounds_toArray, List.set_cons_succ, List.set_cons_zero]; exact rfl
        · intro v; exact (rfl : _ = ([x36, x37, x38, x39, v] : List Value))
        intro x40
        apply Oz.walk_consL rfl
        · intro w1 hb hu hd ho K hK
          have e40 : _ = x40 := Eq.symm (hd 4 (by kernel_rfl))
          subst e40
          clear hu hd ho
          go_simp
          exact hK _ _ (Oz.good_same rfl rfl rfl)
        · intro v; simp only [Act.put, List.setIfInBounds_toArray, List.set_cons_succ, List.set_cons_zero]; exact rfl
        · intro v; exact (rfl : _ = ([x36, x37, x38, x39, x40, v] : List Value))
        intro x41
        apply Oz.walk_consL rfl
        · intro w1 hb hu hd ho K hK
          have e41 : _ = x41 := Eq.symm (hd 5 (by kernel_rfl))
          subst e41
          clear hu hd ho
          have c_e1 := (hb.cell (show bl < _ by omega)).trans e1
          go_simp
          exact hK _ _ (Oz.good_same rfl rfl rfl)
        · intro v; simp only [Act.put, List.setIfInBounds_toArray, List.set_cons_succ, List.set_cons_zero]; exact rfl
        · intro v; exact (rfl : _ = ([x36, x37, x38, x39, x40, x41, v] : List Value))
        intro x42
        apply Oz.walk_consL rfl
        · intro w1 hb hu hd ho K hK
          have e42 : _ = x42 := Eq.symm (hd 6 (by kernel_rfl))
          subst e42
          have hz : w.heap.size + 2 ≤ w1.heap.size := by have := hb.size; simp at this; omega
          clear hu hd ho
          go_simp
          exact hK _ _ (Oz.good_laid #[.string N] rfl (by omega) (by decide) rfl hz rfl)
        · intro v; simp only [Act.put, List.setIfInBounds_toArray, List.set_cons_succ, List.set_cons_zero]; exact rfl
        · intro v; exact (rfl : _ = ([x36, x37, x38, x39, x40, x41, x42, v] : List Value))
        intro x43
        apply Oz.walk_consL rfl
        · intro w1 hb hu hd ho K hK
          have h37 := hd 1 (by kernel_rfl)
          have h43 := hd 7 (by kernel_rfl)
          have hz : w.heap.size + 2 ≤ w1.heap.size := by have := hb.size; simp at this; omega
          have hzl : wl.heap.size ≤ w1.heap.size := by have := hb.size; simp at this; exact this
          have hoo := ho 1 (by kernel_rfl) rfl
          have hq37 := h37.2
          clear hu hd ho
          refine Ow.step_append rfl (.tmp 37) (.tmp 43) 42 rfl (w.heap.size + 2) 9 is _ 1 16 Tryz.underlying42 HS0.out HS1.out HS2.out HS3.out rfl (by decide) x37 r.length (r.map bstr) (by simp [Act.eval]) hq37 _ 1 [.string N] (by simp [Act.eval]) (Inn.of_own h43) (one_str _) (by unfold maxLen; omega) (by omega) hz ?_
          intro v' w' hown hg hob
          refine hK _ _ (Oz.good_row (k := 1) rfl (by omega) hq37 hg (by exact ⟨hown, new_or h37.1 hzl hob⟩) hown hoo hob)
        · intro v; simp only [Act.put, List.setIfInBounds_toArray, List.set_cons_succ, List.set_cons_zero]; exact rfl
        · intro v; exact (rfl : _ = ([x36, x37, x38, x39, x40, x41, x42, x43, v] : List Value))
        intro x44
        apply Oz.walk_consL rfl
        · intro w1 hb hu hd ho K hK
          clear hu hd ho
          go_simp
          exact hK _ _ (Oz.good_same rfl rfl rfl)
        · intro v; simp only [Act.put, List.setIfInBounds_toArray, List.set_cons_succ, List.set_cons_zero]; exact rfl
        · intro v; exact (rfl : _ = ([x36, x37, x38, x39, x40, x41, x42, x43, x44, v] : List Value))
        intro x45
        apply Oz.walk_consL rfl
        · intro w1 hb hu hd ho K hK
          have e45 : _ = x45 := Eq.symm (hd 9 (by kernel_rfl))
          subst e45
          have h44 := hd 8 (by kernel_rfl)
          have hh : w1.heap[w.heap.size + 1]? = some (.cells #[xv, rv, sv, .bool true] 46 (0, 0)) := (hu _ (by simp; omega) (fun j hj => by rcases Oz.cl2_cases hj with ⟨_, h⟩ | ⟨rfl, _⟩; exact absurd h (own_neq (HDX.out.rows.r) (by omega)); exact Or.inr rfl)).trans HDX.out.box
          obtain ⟨b0, b1, b2, b3, g0, g1, g2, g3⟩ := at4d hh
          obtain ⟨Az, cz, e1⟩ := own_slice h44.1
          subst e1
          clear hu hd ho
          go_simp
          refine hK undef _ ⟨⟨_, heap_setCell_same _ _ 1 _ _ _ hh, h44.past (by omega) _ _⟩, Oz.setAll_grown (w.heap.size + 1) [_] 1 w1, fun h => by cases h⟩
        · intro v; exact rfl
        · intro v; exact rfl
        intro xn10
        refine Oz.walk_nilL rfl (fun w1 hb hu hd => ?_)
        have e36 : _ = x36 := Eq.symm (hd 0 (by kernel_rfl))
        subst e36
        have e38 : _ = x38 := Eq.symm (hd 2 (by kernel_rfl))
        subst e38
        have e39 : _ = x39 := Eq.symm (hd 3 (by kernel_rfl))
        subst e39
        have e40 : _ = x40 := Eq.symm (hd 4 (by kernel_rfl))
        subst e40
        have e41 : _ = x41 := Eq.symm (hd 5 (by kernel_rfl))
        subst e41
        have e42 : _ = x42 := Eq.symm (hd 6 (by kernel_rfl))
        subst e42
        have h43 := hd 7 (by kernel_rfl)
        have h44 := hd 8 (by kernel_rfl)
        have e45 : _ = x45 := Eq.symm (hd 9 (by kernel_rfl))
        subst e45
        have hn10 := hd 10 (by kernel_rfl)
        clear hd
        obtain ⟨v', hbx, hnr⟩ := hn10
        have HDN := Lib.hid (DidI.push1 HDX.out hb hu hbx (by rw [bstr_of]; exact hnr))
        clear hb hu hbx hnr
        obtain ⟨wn, hwn⟩ : ∃ W, W = w1 := ⟨_, rfl⟩
        subst hwn
        go_simp
        go_wp2
        go_roundw
        case rel => exact ⟨_, _, _, _, _, _, _, _, HP.out, HDN.out, by go_num⟩
        case measure => simp [intOf]; omega
      · have h2' := int_ne h2
        by_cases h3 : pk = 3
        · subst h3
          have HP := Lib.hid (LoopI.of (HI.out.send HN.out (by exact hkn) HA.out))
          go_wp2_with fail
          refine Oz.region_two 113 [Ow.eqR (.pointer (some ⟨w.heap.size + 1, 2, none⟩)), fun v w' => v = sv ∧ w'.ownsRow (w.heap.size + 2) 9 1 v s.length (s.map bstr), Ow.eqR (.slice (some ⟨bl, ol, none⟩) n pc), Ow.eqR (.int .i64 (k : Int)), Ow.eqR (.pointer (some ⟨bl, ol + k * 3, none⟩)), Ow.eqR (.pointer (some ⟨bl, ol + k * 3 + 1, none⟩)), Ow.eqR (.string N), fun v w' => w'.ownsRow (w.heap.size + 2) 9 1 v 1 [.string N], NewRow (sv) wl.heap.size (w.heap.size + 2) 9 (s.length + 1) (s.map bstr ++ [.string N]), Ow.eqR (.pointer (some ⟨w.heap.size + 1, 2, none⟩)), fun _ w' => ∃ v', w'.heap[w.heap.size + 1]? = some (.cells #[xv, rv, v', .bool true] 46 (0, 0)) ∧ NewRow (sv) wl.heap.size (w.heap.size + 2) 9 (s.length + 1) (s.map bstr ++ [.string N]) v' w'] [false, true, false, false, false, false, false, true, true, false, false] [none, none, none, none, none, none, none, none, some 1, none, none] (w.heap.size + 1) 1 10 (w.heap.size + 1) (sv) (own_lower (HDX.out.rows.s) (by omega)) (own_neq (HDX.out.rows.s) (by omega)) (Nat.le_refl _) (by omega) (by kernel_rfl) rfl (by kernel_rfl) (by kernel_rfl) rfl rfl ⟨Oz.keeps_eq _ _, keeps_is, Oz.keeps_eq _ _, Oz.keeps_eq _ _, Oz.keeps_eq _ _, Oz.keeps_eq _ _, Oz.keeps_eq _ _, Oz.keeps_own _ _ _ _ _, keeps_new, Oz.keeps_eq _ _, trivial⟩ ?_
          apply Oz.walk_consL rfl
          · intro w1 hb hu hd ho K hK
            clear hu hd ho
            go_simp
            exact hK _ _ (Oz.good_same rfl rfl rfl)
          · intro v; simp only [Act.put, List.setIfInBounds_toArray, List.set_cons_succ, List.set_cons_zero]; exact rfl
          · intro v; exact (rfl : _ = ([v] : List Value))
          intro x48
          apply Oz.walk_consL rfl
          · intro w1 hb hu hd ho K hK
            have e48 : _ = x48 := Eq.symm (hd 0 (by kernel_rfl))
            subst e48
            have hh : w1.heap[w.heap.size + 1]? = some (.cells #[xv, rv, sv, .bool true] 46 (0, 0)) := (hu _ (by simp; omega) (fun j hj => by rcases Oz.cl2_cases hj with ⟨_, h⟩ | ⟨rfl, _⟩; exact absurd h (own_neq (HDX.out.rows.s) (by omega)); exact Or.inr rfl)).trans HDX.out.box
            obtain ⟨b0, b1, b2, b3, g0, g1, g2, g3⟩ := at4d hh
            have hx := Oz.own_same (HDX.out.rows.s) (w' := w1) (fun g hg => (hu g (by have := (HDX.out.rows.s).lt g hg; simp; omega) (fun j hj => by rcases Oz.cl2_cases hj with ⟨rfl, _⟩ | ⟨rfl, _⟩; exact Or.inl rfl; exact Or.inr rfl)).trans rfl)
            have hbz := hb.size
            clear hu hd ho
            go_simp
            exact hK _ _ (Oz.good_claim rfl (by omega) ⟨rfl, hx⟩ hx Oz.cl2_row)
          · intro v; simp only [Act.put, List.setIfInBounds_toArray, List.set_cons_succ, List.set_cons_zero]; exact rfl
          · intro v; exact (rfl : _ = ([x48, v] : List Value))
          intro x49
          apply Oz.walk_consL rfl
          · intro w1 hb hu hd ho K hK
            clear hu hd ho
            go_simp
            exact hK _ _ (Oz.good_same rfl rfl rfl)
          · intro v; simp only [Act.put, List.setIfInBounds_toArray, List.set_cons_succ, List.set_cons_zero]; exact rfl
          · intro v; exact (rfl : _ = ([x48, x49, v] : List Value))
          intro x50
          apply Oz.walk_consL rfl
          · intro w1 hb hu hd ho K hK
            clear hu hd ho
            go_simp
            exact hK _ _ (Oz.good_same rfl rfl rfl)
          · intro v; simp only [Act.put, List.setIfInBounds_toArray, List.set_cons_succ, List.set_cons_zero]; exact rfl
          · intro v; exact (rfl : _ = ([x48, x49, x50, v] : List Value))
          intro x51
          apply Oz.walk_consL rfl
          · intro w1 hb hu hd ho K hK
            have e50 : _ = x50 := Eq.symm (hd 2 (by kernel_rfl))
            subst e50
            have e51 : _ = x51 := Eq.symm (hd 3 (by kernel_rfl))
            subst e51
            clear hu hd ho
            go_simp
            exact hK _ _ (Oz.good_same rfl rfl rfl)
          · intro v; simp only [Act.put, List.setIfInBounds_toArray, List.set_cons_succ, List.set_cons_zero]; exact rfl
          · intro v; exact (rfl : _ = ([x48, x49, x50, x51, v] : List Value))
          intro x52
          apply Oz.walk_consL rfl
          · intro w1 hb hu hd ho K hK
            have e52 : _ = x52 := Eq.symm (hd 4 (by kernel_rfl))
            subst e52
            clear hu hd ho
            go_simp
            exact hK _ _ (Oz.good_same rfl rfl rfl)
          · intro v; simp only [Act.put, List.setIfInBounds_toArray, List.set_cons_succ, List.set_cons_zero]; exact rfl
          · intro v; exact (rfl : _ = ([x48, x49, x50, x51, x52, v] : List Value))
          intro x53
          apply Oz.walk_consL rfl
          · intro w1 hb hu hd ho K hK
            have e53 : _ = x53 := Eq.symm (hd 5 (by kernel_rfl))
            subst e53
            clear hu hd ho
            have c_e1 := (hb.cell (show bl < _ by omega)).trans e1
            go_simp
            exact hK _ _ (Oz.good_same rfl rfl rfl)
          · intro v; simp only [Act.put, List.setIfInBounds_toArray, List.set_cons_succ, List.set_cons_zero]; exact rfl
          · intro v; exact (rfl : _ = ([x48, x49, x50, x51, x52, x53, v] : List Value))
          intro x54
          apply Oz.walk_consL rfl
          · intro w1 hb hu hd ho K hK
            have e54 : _ = x54 := Eq.symm (hd 6 (by kernel_rfl))
            subst e54
            have hz : w.heap.size + 2 ≤ w1.heap.size := by have := hb.size; simp at this; omega
            clear hu hd ho
            go_simp
            exact hK _ _ (Oz.good_laid #[.string N] rfl (by omega) (by decide) rfl hz rfl)
          · intro v; simp only [Act.put, List.setIfInBounds_toArray, List.set_cons_succ, List.set_cons_zero]; exact rfl
          · intro v; exact (rfl : _ = ([x48, x49, x50, x51, x52, x53, x54, v] : List Value))
          intro x55
          apply Oz.walk_consL rfl
          · intro w1 hb hu hd ho K hK
            have h49 := hd 1 (by kernel_rfl)
            have h55 := hd 7 (by kernel_rfl)
            have hz : w.heap.size + 2 ≤ w1.heap.size := by have := hb.size; simp at this; omega
            have hzl : wl.heap.size ≤ w1.heap.size := by have := hb.size; simp at this; exact this
            have hoo := ho 1 (by kernel_rfl) rfl
            have hq49 := h49.2
            clear hu hd ho
            refine Ow.step_append rfl (.tmp 49) (.tmp 55) 42 rfl (w.heap.size + 2) 9 is _ 1 16 Tryz.underlying42 HS0.out HS1.out HS2.out HS3.out rfl (by decide) x49 s.length (s.map bstr) (by simp [Act.eval]) hq49 _ 1 [.string N] (by simp [Act.eval]) (Inn.of_own h55) (one_str _) (by unfold maxLen; omega) (by omega) hz ?_
            intro v' w' hown hg hob
            refine hK _ _ (Oz.good_row (k := 1) rfl (by omega) hq49 hg (by exact ⟨hown, new_or h49.1 hzl hob⟩) hown hoo hob)
          · intro v; simp only [Act.put, List.setIfInBounds_toArray, List.set_cons_succ, List.set_cons_zero]; exact rfl
          · intro v; exact (rfl : _ = ([x48, x49, x50, x51, x52, x53, x54, x55, v] : List Value))
          intro x56
          apply Oz.walk_consL rfl
          · intro w1 hb hu hd ho K hK
            clear hu hd ho
            go_simp
            exact hK _ _ (Oz.good_same rfl rfl rfl)
          · intro v; simp only [Act.put, List.setIfInBounds_toArray, List.set_cons_succ, List.set_cons_zero]; exact rfl
          · intro v; exact (rfl : _ = ([x48, x49, x50, x51, x52, x53, x54, x55, x56, v] : List Value))
          intro x57
          apply Oz.walk_consL rfl
          · intro w1 hb hu hd ho K hK
            have e57 : _ = x57 := Eq.symm (hd 9 (by kernel_rfl))
            subst e57
            have h56 := hd 8 (by kernel_rfl)
            have hh : w1.heap[w.heap.size + 1]? = some (.cells #[xv, rv, sv, .bool true] 46 (0, 0)) := (hu _ (by simp; omega) (fun j hj => by rcases Oz.cl2_cases hj with ⟨_, h⟩ | ⟨rfl, _⟩; exact absurd h (own_neq (HDX.out.rows.s) (by omega)); exact Or.inr rfl)).trans HDX.out.box
            obtain ⟨b0, b1, b2, b3, g0, g1, g2, g3⟩ := at4d hh
            obtain ⟨Az, cz, e1⟩ := own_slice h56.1
            subst e1
            clear hu hd ho
            go_simp
            refine hK undef _ ⟨⟨_, heap_setCell_same _ _ 2 _ _ _ hh, h56.past (by omega) _ _⟩, Oz.setAll_grown (w.heap.size + 1) [_] 2 w1, fun h => by cases h⟩
          · intro v; exact rfl
          · intro v; exact rfl
          intro xn10
          refine Oz.walk_nilL rfl (fun w1 hb hu hd => ?_)
          have e48 : _ = x48 := Eq.symm (hd 0 (by kernel_rfl))
          subst e48
          have e50 : _ = x50 := Eq.symm (hd 2 (by kernel_rfl))
          subst e50
          have e51 : _ = x51 := Eq.symm (hd 3 (by kernel_rfl))
          subst e51
          have e52 : _ = x52 := Eq.symm (hd 4 (by kernel_rfl))
          subst e52
          have e53 : _ = x53 := Eq.symm (hd 5 (by kernel_rfl))
          subst e53
          have e54 : _ = x54 := Eq.symm (hd 6 (by kernel_rfl))
          subst e54
          have h55 := hd 7 (by kernel_rfl)
          have h56 := hd 8 (by kernel_rfl)
          have e57 : _ = x57 := Eq.symm (hd 9 (by kernel_rfl))
          subst e57
          have hn10 := hd 10 (by kernel_rfl)
          clear hd
          obtain ⟨v', hbx, hnr⟩ := hn10
          have HDN := Lib.hid (DidI.push2 HDX.out hb hu hbx (by rw [bstr_of]; exact hnr))
          clear hb hu hbx hnr
          obtain ⟨wn, hwn⟩ : ∃ W, W = w1 := ⟨_, rfl⟩
          subst hwn
          go_simp
          go_wp2
          go_roundw
          case rel => exact ⟨_, _, _, _, _, _, _, _, HP.out, HDN.out, by go_num⟩
          case measure => simp [intOf]; omega
        · have h3' := int_ne h3
          by_cases h1 : pk = 1
          · subst h1
            obtain ⟨Ax, cx, rfl⟩ := own_slice HDX.out.rows.x
            have HFI := Lib.hid (fun W (hb : Below w.heap.size w W) => refFind_any (.slice V vs.length vc) vs N W (HVW.out W hb) (by omega))
            have HEV := Lib.hid (fun W (hb : Below wl.heap.size wl.drew W) => refEvOf_any (.slice Ae pe.length ce) (.slice V vs.length vc) (.slice Ax ys.length cx) (.slice none 0 0) pe vs ys [] W (HA1.out.below (HDX.out.below.trans (((Below.refl _ _).drew.trans hb).mono HDX.out.below.size))).rd (by omega) HA3.out (HVW.out W (HDX.out.below.trans (((Below.refl _ _).drew.trans hb).mono HDX.out.below.size))) (Inn.of_own (own_below HDX.out.rows.x ((Below.refl _ _).drew.trans hb))) (Or.inl ⟨rfl, rfl, rfl⟩) (by omega) (by omega) (by simp) hyi)
            have hfin := ev_fin (vs := vs) (ss := []) hyi pe
            have HNO := Lib.hid (set_no (vs := vs) (xs := ys) (a := ⟨1, N.data.toList, pe⟩))
            have HER := Lib.hid (set_err (vs := vs) (xs := ys) (a := ⟨1, N.data.toList, pe⟩))
            have HIF := Lib.hid (fun i hi => set_if (vs := vs) (xs := ys) (a := ⟨1, N.data.toList, pe⟩) (i := i) hi)
            obtain ⟨z, hz0⟩ : ∃ z, ixP (isV N.data.toList) vs 0 = z := ⟨_, rfl⟩
            have HZC : Hid (z = -1 ∨ ∃ i, i < vs.length ∧ z = ((i : Nat) : Int)) := by
              rcases ix_find (isV N.data.toList) vs 0 with ⟨h1, _⟩ | ⟨j, hj, h1, _⟩
              · exact Or.inl (hz0.symm.trans h1)
              · exact Or.inr ⟨j, hj, hz0.symm.trans (h1.trans (by rw [Nat.zero_add]))⟩
            obtain ⟨p, hp⟩ : ∃ p, evP vs ys [] pe = p := ⟨_, rfl⟩
            have HPE := Lib.hid hp
            rw [hz0] at HFI HNO HIF
            rw [hp] at HEV hfin
            simp only [hp] at HER HIF
            obtain ⟨⟨rk, ra, rb⟩, re⟩ := p
            have HEV : Hid (∀ W, Below wl.heap.size wl.drew W → Calls Tryz.prog 39 #[.slice Ae pe.length ce, .slice V vs.length vc, .slice Ax ys.length cx, .slice none 0 0] W fun e w' => e = .returned (.tuple #[.agg #[.int .i64 rk, .int .i64 ra, .int .i64 rb], .int .i64 re]) ∧ Below W.heap.size W w') := HEV
            have hyv := fun h => hfin.2 h
            simp only at hyv HER HIF
            have HYV := Lib.hid hyv
            clear hfin hz0 hp hyv hyi hyl
            go_wp2_with fail
            refine (HFI.out _ HDX.out.below).mono ?_
            rintro e wf ⟨rfl, hwf⟩
            subst hwf
            go_wp2_with fail
            refine Oz.region_own' 113 [Ow.eqR (.slice (some ⟨bl, ol, none⟩) n pc), Ow.eqR (.int .i64 (k : Int)), Ow.eqR (.pointer (some ⟨bl, ol + k * 3, none⟩)), Ow.eqR (.pointer (some ⟨bl, ol + k * 3 + 2, none⟩)), Ow.eqR (.slice Ae pe.length ce), Ow.eqR (.slice V vs.length vc), Ow.eqR (.pointer (some ⟨w.heap.size + 1, 0, none⟩)), Ow.eqR (.slice Ax ys.length cx), Ow.eqR (.tuple #[.agg #[.int .i64 rk, .int .i64 ra, .int .i64 rb], .int .i64 re]), Ow.eqR (.tuple #[.agg #[.int .i64 rk, .int .i64 ra, .int .i64 rb], .int .i64 re]), Ow.eqR (.agg #[.int .i64 rk, .int .i64 ra, .int .i64 rb]), Ow.eqR (.int .i64 re), Oz.BoxR (wl.heap.size) 54 #[.int .i64 0, .int .i64 0, .int .i64 0], Oz.BoxR (wl.heap.size) 54 #[.int .i64 rk, .int .i64 ra, .int .i64 rb], Ow.eqR (.int .i64 re)] [false, false, false, false, false, false, false, false, false, false, false, false, true, true, false] [none, none, none, none, none, none, none, none, none, none, none, none, none, some 12, none] (by kernel_rfl) rfl (by kernel_rfl) ⟨Oz.keeps_eq _ _, Oz.keeps_eq _ _, Oz.keeps_eq _ _, Oz.keeps_eq _ _, Oz.keeps_eq _ _, Oz.keeps_eq _ _, Oz.keeps_eq _ _, Oz.keeps_eq _ _, Oz.keeps_eq _ _, Oz.keeps_eq _ _, Oz.keeps_eq _ _, Oz.keeps_eq _ _, Oz.keeps_box _ _ _, Oz.keeps_box _ _ _, Oz.keeps_eq _ _, trivial⟩ ?_
            apply Oz.walk_cons rfl
            · intro w1 hb hu hd ho K hK
              clear hu hd ho
              go_simp
              exact hK _ _ (Oz.good_same rfl rfl rfl)
            · intro v; simp only [Act.put, List.setIfInBounds_toArray, List.set_cons_succ, List.set_cons_zero]; exact rfl
            · intro v; exact (rfl : _ = ([v] : List Value))
            intro x68
            apply Oz.walk_cons rfl
            · intro w1 hb hu hd ho K hK
              clear hu hd ho
              go_simp
              exact hK _ _ (Oz.good_same rfl rfl rfl)
            · intro v; simp only [Act.put, List.setIfInBounds_toArray, List.set_cons_succ, List.set_cons_zero]; exact rfl
            · intro v; exact (rfl : _ = ([x68, v] : List Value))
            intro x69
            apply Oz.walk_cons rfl
            · intro w1 hb hu hd ho K hK
              have e68 : _ = x68 := Eq.symm (hd 0 (by kernel_rfl))
              subst e68
              have e69 : _ = x69 := Eq.symm (hd 1 (by kernel_rfl))
              subst e69
              clear hu hd ho
              go_simp
              exact hK _ _ (Oz.good_same rfl rfl rfl)
            · intro v; simp only [Act.put, List.setIfInBounds_toArray, List.set_cons_succ, List.set_cons_zero]; exact rfl
            · intro v; exact (rfl : _ = ([x68, x69, v] : List Value))
            intro x70
            apply Oz.walk_cons rfl
            · intro w1 hb hu hd ho K hK
              have e70 : _ = x70 := Eq.symm (hd 2 (by kernel_rfl))
              subst e70
              clear hu hd ho
              go_simp
              exact hK _ _ (Oz.good_same rfl rfl rfl)
            · intro v; simp only [Act.put, List.setIfInBounds_toArray, List.set_cons_succ, List.set_cons_zero]; exact rfl
            · intro v; exact (rfl : _ = ([x68, x69, x70, v] : List Value))
            intro x71
            apply Oz.walk_cons rfl
            · intro w1 hb hu hd ho K hK
              have e71 : _ = x71 := Eq.symm (hd 3 (by kernel_rfl))
              subst e71
              clear hu hd ho
              have c_e2 := (hb.cell (show bl < _ by omega)).trans e2
              go_simp
              exact hK _ _ (Oz.good_same rfl rfl rfl)
            · intro v; simp only [Act.put, List.setIfInBounds_toArray, List.set_cons_succ, List.set_cons_zero]; exact rfl
            · intro v; exact (rfl : _ = ([x68, x69, x70, x71, v] : List Value))
            intro x72
            apply Oz.walk_cons rfl
            · intro w1 hb hu hd ho K hK
              clear hu hd ho
              go_simp
              exact hK _ _ (Oz.good_same rfl rfl rfl)
            · intro v; simp only [Act.put, List.setIfInBounds_toArray, List.set_cons_succ, List.set_cons_zero]; exact rfl
            · intro v; exact (rfl : _ = ([x68, x69, x70, x71, x72, v] : List Value))
            intro x73
            apply Oz.walk_cons rfl
            · intro w1 hb hu hd ho K hK
              clear hu hd ho
              go_simp
              exact hK _ _ (Oz.good_same rfl rfl rfl)
            · intro v; simp only [Act.put, List.setIfInBounds_toArray, List.set_cons_succ, List.set_cons_zero]; exact rfl
            · intro v; exact (rfl : _ = ([x68, x69, x70, x71, x72, x73, v] : List Value))
            intro x74
            apply Oz.walk_cons rfl
            · intro w1 hb hu hd ho K hK
              have e74 : _ = x74 := Eq.symm (hd 6 (by kernel_rfl))
              subst e74
              clear hu hd ho
              have c_a0 := (hb.cell (show w.heap.size + 1 < _ by omega)).trans a0
              go_simp
              exact hK _ _ (Oz.good_same rfl rfl rfl)
            · intro v; simp only [Act.put, List.setIfInBounds_toArray, List.set_cons_succ, List.set_cons_zero]; exact rfl
            · intro v; exact (rfl : _ = ([x68, x69, x70, x71, x72, x73, x74, v] : List Value))
            intro x75
            apply Oz.walk_cons rfl
            · intro w1 hb hu hd ho K hK
              have e72 : _ = x72 := Eq.symm (hd 4 (by kernel_rfl))
              subst e72
              have e73 : _ = x73 := Eq.symm (hd 5 (by kernel_rfl))
              subst e73
              have e75 : _ = x75 := Eq.symm (hd 7 (by kernel_rfl))
              subst e75
              clear hu hd ho
              go_simp
              refine (HEV.out w1 hb).mono ?_
              rintro e w2 ⟨rfl, hb2⟩
              go_simp
              exact hK _ _ (Oz.good_below rfl rfl hb2 rfl)
            · intro v; simp only [Act.put, List.setIfInBounds_toArray, List.set_cons_succ, List.set_cons_zero]; exact rfl
            · intro v; exact (rfl : _ = ([x68, x69, x70, x71, x72, x73, x74, x75, v] : List Value))
            intro x76
            apply Oz.walk_cons rfl
            · intro w1 hb hu hd ho K hK
              have e76 : _ = x76 := Eq.symm (hd 8 (by kernel_rfl))
              subst e76
              clear hu hd ho
              go_simp
              exact hK _ _ (Oz.good_same rfl rfl rfl)
            · intro v; simp only [Act.put, List.setIfInBounds_toArray, List.set_cons_succ, List.set_cons_zero]; exact rfl
            · intro v; exact (rfl : _ = ([x68, x69, x70, x71, x72, x73, x74, x75, x76, v] : List Value))
            intro x67
            apply Oz.walk_cons rfl
            · intro w1 hb hu hd ho K hK
              have e67 : _ = x67 := Eq.symm (hd 9 (by kernel_rfl))
              subst e67
              clear hu hd ho
              go_simp
              exact hK _ _ (Oz.good_same rfl rfl rfl)
            · intro v; simp only [Act.put, List.setIfInBounds_toArray, List.set_cons_succ, List.set_cons_zero]; exact rfl
            · intro v; exact (rfl : _ = ([x68, x69, x70, x71, x72, x73, x74, x75, x76, x67, v] : List Value))
            intro x77
            apply Oz.walk_cons rfl
            · intro w1 hb hu hd ho K hK
              have e67 : _ = x67 := Eq.symm (hd 9 (by kernel_rfl))
              subst e67
              clear hu hd ho
              go_simp
              exact hK _ _ (Oz.good_same rfl rfl rfl)
            · intro v; simp only [Act.put, List.setIfInBounds_toArray, List.set_cons_succ, List.set_cons_zero]; exact rfl
            · intro v; exact (rfl : _ = ([x68, x69, x70, x71, x72, x73, x74, x75, x76, x67, x77, v] : List Value))
            intro x78
            apply Oz.walk_cons rfl
            · intro w1 hb hu hd ho K hK
              have hz := hb.size
              clear hu hd ho
              go_simp
              exact hK _ _ (Oz.good_box (b0 := wl.heap.size) rfl (Nat.le_refl _) hz rfl)
            · intro v; simp only [Act.put, List.setIfInBounds_toArray, List.set_cons_succ, List.set_cons_zero]; exact rfl
            · intro v; exact (rfl : _ = ([x68, x69, x70, x71, x72, x73, x74, x75, x76, x67, x77, x78, v] : List Value))
            intro x10
            apply Oz.walk_cons rfl
            · intro w1 hb hu hd ho K hK
              have h10 := hd 12 (by kernel_rfl)
              have e77 : _ = x77 := Eq.symm (hd 10 (by kernel_rfl))
              subst e77
              have hz := hb.size
              have hoo := ho 12 (by kernel_rfl) rfl
              obtain ⟨b, rfl, hb0, hh⟩ := h10
              have dq0 : w1.cell? ⟨b, 0, none⟩ = some (.int .i64 0) := by simp [World.cell?, hh]
              have fq0 : w1.frozen? ⟨b, 0, none⟩ = false := by simp [World.frozen?, hh]
              have dq1 : w1.cell? ⟨b, 1, none⟩ = some (.int .i64 0) := by simp [World.cell?, hh]
              have fq1 : w1.frozen? ⟨b, 1, none⟩ = false := by simp [World.frozen?, hh]
              have dq2 : w1.cell? ⟨b, 2, none⟩ = some (.int .i64 0) := by simp [World.cell?, hh]
              have fq2 : w1.frozen? ⟨b, 2, none⟩ = false := by simp [World.frozen?, hh]
              have kq0 := heap_setCell_same _ _ 0 _ _ (.int .i64 rk) hh
              have kq1 := heap_setCell_same _ _ 1 _ _ (.int .i64 ra) kq0
              have kq2 := heap_setCell_same _ _ 2 _ _ (.int .i64 rb) kq1
              clear hu hd ho
              go_simp
              exact hK undef _ (Oz.good_put (k := 12) (cs := #[.int .i64 rk, .int .i64 ra, .int .i64 rb]) rfl rfl hb0 hz (Oz.setAll_grown b [.int .i64 rk, .int .i64 ra, .int .i64 rb] 0 w1) rfl kq2 hoo)
            · intro v; exact rfl
            · intro v; exact (rfl : _ = ([x68, x69, x70, x71, x72, x73, x74, x75, x76, x67, x77, x78, x10, x10] : List Value))
            intro xn13
            apply Oz.walk_cons rfl
            · intro w1 hb hu hd ho K hK
              have e78 : _ = x78 := Eq.symm (hd 11 (by kernel_rfl))
              subst e78
              clear hu hd ho
              go_simp
              exact hK _ _ (Oz.good_same rfl rfl rfl)
            · intro v; simp only [Act.put, List.setIfInBounds_toArray, List.set_cons_succ, List.set_cons_zero]; exact rfl
            · intro v; exact (rfl : _ = ([x68, x69, x70, x71, x72, x73, x74, x75, x76, x67, x77, x78, x10, x10, v] : List Value))
            intro x11
            refine Oz.walk_nil rfl (fun w1 hb hu hd => ?_)
            have e68 : _ = x68 := Eq.symm (hd 0 (by kernel_rfl))
            subst e68
            have e69 : _ = x69 := Eq.symm (hd 1 (by kernel_rfl))
            subst e69
            have e70 : _ = x70 := Eq.symm (hd 2 (by kernel_rfl))
            subst e70
            have e71 : _ = x71 := Eq.symm (hd 3 (by kernel_rfl))
            subst e71
            have e72 : _ = x72 := Eq.symm (hd 4 (by kernel_rfl))
            subst e72
            have e73 : _ = x73 := Eq.symm (hd 5 (by kernel_rfl))
            subst e73
            have e74 : _ = x74 := Eq.symm (hd 6 (by kernel_rfl))
            subst e74
            have e75 : _ = x75 := Eq.symm (hd 7 (by kernel_rfl))
            subst e75
            have e76 : _ = x76 := Eq.symm (hd 8 (by kernel_rfl))
            subst e76
            have e67 : _ = x67 := Eq.symm (hd 9 (by kernel_rfl))
            subst e67
            have e77 : _ = x77 := Eq.symm (hd 10 (by kernel_rfl))
            subst e77
            have e78 : _ = x78 := Eq.symm (hd 11 (by kernel_rfl))
            subst e78
            have hn13 := hd 13 (by kernel_rfl)
            have e11 : _ = x11 := Eq.symm (hd 14 (by kernel_rfl))
            subst e11
            clear hd hu
            obtain ⟨bx, rfl, hbx0, hhx⟩ := hn13
            obtain ⟨wq, hwq⟩ : ∃ W, W = w1 := ⟨_, rfl⟩
            subst hwq
            have HBQ : Hid (Below wl.heap.size wl wq) := (Below.refl _ _).drew.trans hb
            clear hb
            have HDQ := Lib.hid (HDX.out.low HBQ.out)
            go_simp
            have hbxl := (Array.getElem?_eq_some_iff.1 hhx).1
            rcases HZC.out with rfl | ⟨i, hiv, rfl⟩
            · have HN0 := Lib.hid (LoopI.failed (vs := vs) (al := ps.map Prod.fst) (xs0 := xs) (n := n) (k := k + 1) (r := r) hkn hrl (HI.out.setNo HN.out (by exact hkn) HA.out (HNO.out rfl)))
              obtain ⟨wp, hwp⟩ : ∃ W, W = wq.setCell ⟨w.heap.size + 1, 3, none⟩ (.bool false) := ⟨_, rfl⟩
              have HDP : Hid (DidI w wp (.slice Ax ys.length cx) rv sv false ys r s) := by rw [hwp]; exact HDQ.out.okS _
              have HHX : Hid (wp.heap[bx]? = some (.cells #[.int .i64 rk, .int .i64 ra, .int .i64 rb] 54 (0, 0))) := by rw [hwp, Below.heap_setCell _ _ _ _ (by simp; omega)]; exact hhx
              have hpz : wq.heap.size ≤ wp.heap.size := by rw [hwp]; simp
              have HPB : Hid (Below wl.heap.size wl wq) := HBQ
              have HWP := Lib.hid hwp
              clear hwp
              have hzp := HDP.out.size
              have hbxp : bx < wp.heap.size := by omega
              obtain ⟨b0, b1, b2, b3, g0, g1, g2, g3⟩ := at4d HDQ.out.box
              go_wp2_with fail
              rw [← HWP.out]
              refine Oz.region_two 113 [Ow.eqR (.pointer (some ⟨w.heap.size + 1, 3, none⟩)), Ow.eqR (.bool false), Ow.eqR (.bool false), Ow.eqR (undef), Ow.eqR (undef), Ow.eqR (undef), Ow.eqR (undef), Ow.eqR (undef), Ow.eqR (undef), Ow.eqR (.bool false), Ow.eqR (.pointer (some ⟨w.heap.size + 1, 3, none⟩)), fun _ w' => w'.heap[w.heap.size + 1]? = some (.cells #[.slice Ax ys.length cx, rv, sv, .bool false] 46 (0, 0))] [false, false, false, false, false, false, false, false, false, false, false, false] [none, none, none, none, none, none, none, none, none, none, none, none] (w.heap.size + 1) 99 11 (w.heap.size + 1) (.slice none 0 0) (World.ownsRow_nil _ _ 9 1) (by intro h; cases h) (Nat.le_refl _) (by omega) (by kernel_rfl) rfl (by kernel_rfl) (by kernel_rfl) rfl rfl ⟨Oz.keeps_eq _ _, Oz.keeps_eq _ _, Oz.keeps_eq _ _, Oz.keeps_eq _ _, Oz.keeps_eq _ _, Oz.keeps_eq _ _, Oz.keeps_eq _ _, Oz.keeps_eq _ _, Oz.keeps_eq _ _, Oz.keeps_eq _ _, Oz.keeps_eq _ _, trivial⟩ ?_
              apply Oz.walk_consL rfl
              · intro w1 hb hu hd ho K hK
                clear hu hd ho
                go_simp
                exact hK _ _ (Oz.good_same rfl rfl rfl)
              · intro v; simp only [Act.put, List.setIfInBounds_toArray, List.set_cons_succ, List.set_cons_zero]; exact rfl
              · intro v; exact (rfl : _ = ([v] : List Value))
              intro x86
              apply Oz.walk_consL rfl
              · intro w1 hb hu hd ho K hK
                have e86 : _ = x86 := Eq.symm (hd 0 (by kernel_rfl))
                subst e86
                have hh : w1.heap[w.heap.size + 1]? = some (.cells #[.slice Ax ys.length cx, rv, sv, .bool false] 46 (0, 0)) := (hu _ (by simp; omega) (fun j hj => by rcases Oz.cl2_cases hj with ⟨_, h⟩ | ⟨rfl, _⟩; cases h; exact Or.inr rfl)).trans HDP.out.box
                obtain ⟨b0, b1, b2, b3, g0, g1, g2, g3⟩ := at4d hh
                clear hu hd ho
                go_simp
                exact hK _ _ (Oz.good_same rfl rfl rfl)
              · intro v; simp only [Act.put, List.setIfInBounds_toArray, List.set_cons_succ, List.set_cons_zero]; exact rfl
              · intro v; exact (rfl : _ = ([x86, v] : List Value))
              intro x87
              apply Oz.walk_consL rfl
              · intro w1 hb hu hd ho K hK
                have e87 : _ = x87 := Eq.symm (hd 1 (by kernel_rfl))
                subst e87
                clear hu hd ho
                go_simp
                exact hK _ _ (Oz.good_same rfl rfl rfl)
              · intro v; simp only [Act.put, List.setIfInBounds_toArray, List.set_cons_succ, List.set_cons_zero]; exact rfl
              · intro v; exact (rfl : _ = ([x86, x87, v] : List Value))
              intro x88
              apply Oz.walk_consL rfl
              · intro w1 hb hu hd ho K hK
                have e88 : _ = x88 := Eq.symm (hd 2 (by kernel_rfl))
                subst e88
                clear hu hd ho
                go_simp
                exact hK _ _ (Oz.good_same rfl rfl rfl)
              · intro v; simp only [Act.put, List.setIfInBounds_toArray, List.set_cons_succ, List.set_cons_zero]; exact rfl
              · intro v; exact (rfl : _ = ([x86, x87, x88, v] : List Value))
              intro x89
              apply Oz.walk_consL rfl
              · intro w1 hb hu hd ho K hK
                have e88 : _ = x88 := Eq.symm (hd 2 (by kernel_rfl))
                subst e88
                clear hu hd ho
                go_simp
                exact hK _ _ (Oz.good_same rfl rfl rfl)
              · intro v; simp only [Act.put, List.setIfInBounds_toArray, List.set_cons_succ, List.set_cons_zero]; exact rfl
              · intro v; exact (rfl : _ = ([x86, x87, x88, x89, v] : List Value))
              intro x90
              apply Oz.walk_consL rfl
              · intro w1 hb hu hd ho K hK
                have e89 : _ = x89 := Eq.symm (hd 3 (by kernel_rfl))
                subst e89
                have e90 : _ = x90 := Eq.symm (hd 4 (by kernel_rfl))
                subst e90
                have e88 : _ = x88 := Eq.symm (hd 2 (by kernel_rfl))
                subst e88
                clear hu hd ho
                go_simp
                exact hK _ _ (Oz.good_same rfl rfl rfl)
              · intro v; simp only [Act.put, List.setIfInBounds_toArray, List.set_cons_succ, List.set_cons_zero]; exact rfl
              · intro v; exact (rfl : _ = ([x86, x87, x88, x89, x90, v] : List Value))
              intro x91
              apply Oz.walk_consL rfl
              · intro w1 hb hu hd ho K hK
                have e91 : _ = x91 := Eq.symm (hd 5 (by kernel_rfl))
                subst e91
                have e88 : _ = x88 := Eq.symm (hd 2 (by kernel_rfl))
                subst e88
                clear hu hd ho
                go_simp
                exact hK _ _ (Oz.good_same rfl rfl rfl)
              · intro v; simp only [Act.put, List.setIfInBounds_toArray, List.set_cons_succ, List.set_cons_zero]; exact rfl
              · intro v; exact (rfl : _ = ([x86, x87, x88, x89, x90, x91, v] : List Value))
              intro x92
              apply Oz.walk_consL rfl
              · intro w1 hb hu hd ho K hK
                have e88 : _ = x88 := Eq.symm (hd 2 (by kernel_rfl))
                subst e88
                clear hu hd ho
                go_simp
                exact hK _ _ (Oz.good_same rfl rfl rfl)
              · intro v; simp only [Act.put, List.setIfInBounds_toArray, List.set_cons_succ, List.set_cons_zero]; exact rfl
              · intro v; exact (rfl : _ = ([x86, x87, x88, x89, x90, x91, x92, v] : List Value))
              intro x93
              apply Oz.walk_consL rfl
              · intro w1 hb hu hd ho K hK
                have e92 : _ = x92 := Eq.symm (hd 6 (by kernel_rfl))
                subst e92
                have e93 : _ = x93 := Eq.symm (hd 7 (by kernel_rfl))
                subst e93
                have e88 : _ = x88 := Eq.symm (hd 2 (by kernel_rfl))
                subst e88
                clear hu hd ho
                go_simp
                exact hK _ _ (Oz.good_same rfl rfl rfl)
              · intro v; simp only [Act.put, List.setIfInBounds_toArray, List.set_cons_succ, List.set_cons_zero]; exact rfl
              · intro v; exact (rfl : _ = ([x86, x87, x88, x89, x90, x91, x92, x93, v] : List Value))
              intro x94
              apply Oz.walk_consL rfl
              · intro w1 hb hu hd ho K hK
                have e88 : _ = x88 := Eq.symm (hd 2 (by kernel_rfl))
                subst e88
                have e94 : _ = x94 := Eq.symm (hd 8 (by kernel_rfl))
                subst e94
                clear hu hd ho
                go_simp
                exact hK _ _ (Oz.good_same rfl rfl rfl)
              · intro v; simp only [Act.put, List.setIfInBounds_toArray, List.set_cons_succ, List.set_cons_zero]; exact rfl
              · intro v; exact (rfl : _ = ([x86, x87, x88, x89, x90, x91, x92, x93, x94, v] : List Value))
              intro x95
              apply Oz.walk_consL rfl
              · intro w1 hb hu hd ho K hK
                clear hu hd ho
                go_simp
                exact hK _ _ (Oz.good_same rfl rfl rfl)
              · intro v; simp only [Act.put, List.setIfInBounds_toArray, List.set_cons_succ, List.set_cons_zero]; exact rfl
              · intro v; exact (rfl : _ = ([x86, x87, x88, x89, x90, x91, x92, x93, x94, x95, v] : List Value))
              intro x96
              apply Oz.walk_consL rfl
              · intro w1 hb hu hd ho K hK
                have e96 : _ = x96 := Eq.symm (hd 10 (by kernel_rfl))
                subst e96
                have e95 : _ = x95 := Eq.symm (hd 9 (by kernel_rfl))
                subst e95
                have hh : w1.heap[w.heap.size + 1]? = some (.cells #[.slice Ax ys.length cx, rv, sv, .bool false] 46 (0, 0)) := (hu _ (by simp; omega) (fun j hj => by rcases Oz.cl2_cases hj with ⟨_, h⟩ | ⟨rfl, _⟩; cases h; exact Or.inr rfl)).trans HDP.out.box
                obtain ⟨b0, b1, b2, b3, g0, g1, g2, g3⟩ := at4d hh
                clear hu hd ho
                go_simp
                refine hK undef _ ⟨heap_setCell_same _ _ 3 _ _ _ hh, Oz.setAll_grown (w.heap.size + 1) [.bool false] 3 w1, fun h => by cases h⟩
              · intro v; exact rfl
              · intro v; exact rfl
              intro xn11
              refine Oz.walk_nilL rfl (fun w1 hb hu hd => ?_)
              have e86 : _ = x86 := Eq.symm (hd 0 (by kernel_rfl))
              subst e86
              have e87 : _ = x87 := Eq.symm (hd 1 (by kernel_rfl))
              subst e87
              have e88 : _ = x88 := Eq.symm (hd 2 (by kernel_rfl))
              subst e88
              have e89 : _ = x89 := Eq.symm (hd 3 (by kernel_rfl))
              subst e89
              have e90 : _ = x90 := Eq.symm (hd 4 (by kernel_rfl))
              subst e90
              have e91 : _ = x91 := Eq.symm (hd 5 (by kernel_rfl))
              subst e91
              have e92 : _ = x92 := Eq.symm (hd 6 (by kernel_rfl))
              subst e92
              have e93 : _ = x93 := Eq.symm (hd 7 (by kernel_rfl))
              subst e93
              have e94 : _ = x94 := Eq.symm (hd 8 (by kernel_rfl))
              subst e94
              have e95 : _ = x95 := Eq.symm (hd 9 (by kernel_rfl))
              subst e95
              have e96 : _ = x96 := Eq.symm (hd 10 (by kernel_rfl))
              subst e96
              have hn11 := hd 11 (by kernel_rfl)
              clear hd
              have HDE := Lib.hid (HDP.out.okd hb hu hn11)
              clear hb hu hn11
              obtain ⟨we, hwe⟩ : ∃ W, W = w1 := ⟨_, rfl⟩
              subst hwe
              obtain ⟨k0, k1, k2, k3, l0, l1, l2, l3⟩ := at4d HDE.out.box
              go_simp
              go_wp2
              go_roundw
              case rel => exact ⟨_, _, _, _, _, _, _, _, HN0.out, HDE.out, by go_num⟩
              case measure => simp [intOf]; omega
            · have hi0 : (0 : Int) ≤ (i : Int) := by omega
              by_cases hre : re = 0
              · subst hre
                have hyn := HYV.out rfl
                have hiy : i < ys.length := by omega
                clear hyn
                have hif := HIF.out i hiv rfl rfl
                obtain ⟨bv, ov, rfl, hbv, y0, y1, y2, y3, y4, y5, y6⟩ := HVW0.out.at_ hiv
                have hft := refFits_any (vs[i]) 
                obtain ⟨x, hx⟩ : ∃ x, vs[i] = x := ⟨_, rfl⟩
                rw [hx] at y0 y1 y2 y3 y4 y5 y6 hif hft
                obtain ⟨vn, vk, vlo, vhi, vik, via, vib⟩ := x
                simp only at y0 y1 y2 y3 y4 y5 y6
                obtain ⟨VN, hVN, hVl⟩ := bstr_some vn
                rw [hVN] at y0
                clear hx hVN
                cases hm : mayB ⟨vn, vk, vlo, vhi, vik, via, vib⟩ ⟨rk, ra, rb⟩ with
                | false =>
                  rw [hm, if_neg (by decide)] at hif
                  have HFT : Hid (∀ W, Calls Tryz.prog 23 #[.agg #[.string VN, .int .i64 vk, .int .i64 vlo, .int .i64 vhi, .int .i64 vik, .int .i64 via, .int .i64 vib], .agg #[.int .i64 rk, .int .i64 ra, .int .i64 rb]] W fun e w' => e = .returned (.bool false) ∧ Below W.heap.size W w') := fun W => by rw [← hm]; exact hft VN ⟨rk, ra, rb⟩ W
                  have HN0 := Lib.hid (LoopI.failed (vs := vs) (al := ps.map Prod.fst) (xs0 := xs) (n := n) (k := k + 1) (r := r) hkn hrl (HI.out.setNo HN.out (by exact hkn) HA.out hif))
                  clear hif hft hm
                  obtain ⟨wp, hwp⟩ : ∃ W, W = wq.setCell ⟨w.heap.size + 1, 3, none⟩ (.bool true) := ⟨_, rfl⟩
                  have HDP : Hid (DidI w wp (.slice Ax ys.length cx) rv sv true ys r s) := by rw [hwp]; exact HDQ.out.okS _
                  have HHX : Hid (wp.heap[bx]? = some (.cells #[.int .i64 rk, .int .i64 ra, .int .i64 rb] 54 (0, 0))) := by rw [hwp, Below.heap_setCell _ _ _ _ (by simp; omega)]; exact hhx
                  have hpz : wq.heap.size ≤ wp.heap.size := by rw [hwp]; simp
                  have HPB : Hid (Below wl.heap.size wl wq) := HBQ
                  replace y0 := (HDP.out.below.cell (show bv < _ from hbv)).trans y0
                  replace y1 := (HDP.out.below.cell (show bv < _ from hbv)).trans y1
                  replace y2 := (HDP.out.below.cell (show bv < _ from hbv)).trans y2
                  replace y3 := (HDP.out.below.cell (show bv < _ from hbv)).trans y3
                  replace y4 := (HDP.out.below.cell (show bv < _ from hbv)).trans y4
                  replace y5 := (HDP.out.below.cell (show bv < _ from hbv)).trans y5
                  replace y6 := (HDP.out.below.cell (show bv < _ from hbv)).trans y6
                  have HWP := Lib.hid hwp
                  clear hwp
                  have hzp := HDP.out.size
                  have hbxp : bx < wp.heap.size := by omega
                  obtain ⟨b0, b1, b2, b3, g0, g1, g2, g3⟩ := at4d HDQ.out.box
                  go_wp2_with fail
                  rw [← HWP.out]
                  refine Oz.region_two 113 [Ow.eqR (.pointer (some ⟨w.heap.size + 1, 3, none⟩)), Ow.eqR (.bool true), Ow.eqR (.bool true), Ow.eqR (.slice (some ⟨bv, ov, none⟩) vs.length vc), Ow.eqR (.int .i64 (i : Int)), Ow.eqR (.pointer (some ⟨bv, ov + i * 7, none⟩)), Ow.eqR (.agg #[.string VN, .int .i64 vk, .int .i64 vlo, .int .i64 vhi, .int .i64 vik, .int .i64 via, .int .i64 vib]), Ow.eqR (.agg #[.int .i64 rk, .int .i64 ra, .int .i64 rb]), Ow.eqR (.bool false), Ow.eqR (.bool false), Ow.eqR (.pointer (some ⟨w.heap.size + 1, 3, none⟩)), fun _ w' => w'.heap[w.heap.size + 1]? = some (.cells #[.slice Ax ys.length cx, rv, sv, .bool false] 46 (0, 0))] [false, false, false, false, false, false, false, false, false, false, false, false] [none, none, none, none, none, none, none, none, none, none, none, none] (w.heap.size + 1) 99 11 (w.heap.size + 1) (.slice none 0 0) (World.ownsRow_nil _ _ 9 1) (by intro h; cases h) (Nat.le_refl _) (by omega) (by kernel_rfl) rfl (by kernel_rfl) (by kernel_rfl) rfl rfl ⟨Oz.keeps_eq _ _, Oz.keeps_eq _ _, Oz.keeps_eq _ _, Oz.keeps_eq _ _, Oz.keeps_eq _ _, Oz.keeps_eq _ _, Oz.keeps_eq _ _, Oz.keeps_eq _ _, Oz.keeps_eq _ _, Oz.keeps_eq _ _, Oz.keeps_eq _ _, trivial⟩ ?_
                  apply Oz.walk_consL rfl
                  · intro w1 hb hu hd ho K hK
                    clear hu hd ho
                    go_simp
                    exact hK _ _ (Oz.good_same rfl rfl rfl)
                  · intro v; simp only [Act.put, List.setIfInBounds_toArray, List.set_cons_succ, List.set_cons_zero]; exact rfl
                  · intro v; exact (rfl : _ = ([v] : List Value))
                  intro x86
                  apply Oz.walk_consL rfl
                  · intro w1 hb hu hd ho K hK
                    have e86 : _ = x86 := Eq.symm (hd 0 (by kernel_rfl))
                    subst e86
                    have hh : w1.heap[w.heap.size + 1]? = some (.cells #[.slice Ax ys.length cx, rv, sv, .bool true] 46 (0, 0)) := (hu _ (by simp; omega) (fun j hj => by rcases Oz.cl2_cases hj with ⟨_, h⟩ | ⟨rfl, _⟩; cases h; exact Or.inr rfl)).trans HDP.out.box
                    obtain ⟨b0, b1, b2, b3, g0, g1, g2, g3⟩ := at4d hh
                    clear hu hd ho
                    go_simp
                    exact hK _ _ (Oz.good_same rfl rfl rfl)
                  · intro v; simp only [Act.put, List.setIfInBounds_toArray, List.set_cons_succ, List.set_cons_zero]; exact rfl
                  · intro v; exact (rfl : _ = ([x86, v] : List Value))
                  intro x87
                  apply Oz.walk_consL rfl
                  · intro w1 hb hu hd ho K hK
                    have e87 : _ = x87 := Eq.symm (hd 1 (by kernel_rfl))
                    subst e87
                    clear hu hd ho
                    go_simp
                    exact hK _ _ (Oz.good_same rfl rfl rfl)
                  · intro v; simp only [Act.put, List.setIfInBounds_toArray, List.set_cons_succ, List.set_cons_zero]; exact rfl
                  · intro v; exact (rfl : _ = ([x86, x87, v] : List Value))
                  intro x88
                  apply Oz.walk_consL rfl
                  · intro w1 hb hu hd ho K hK
                    have e88 : _ = x88 := Eq.symm (hd 2 (by kernel_rfl))
                    subst e88
                    clear hu hd ho
                    go_simp
                    exact hK _ _ (Oz.good_same rfl rfl rfl)
                  · intro v; simp only [Act.put, List.setIfInBounds_toArray, List.set_cons_succ, List.set_cons_zero]; exact rfl
                  · intro v; exact (rfl : _ = ([x86, x87, x88, v] : List Value))
                  intro x89
                  apply Oz.walk_consL rfl
                  · intro w1 hb hu hd ho K hK
                    have e88 : _ = x88 := Eq.symm (hd 2 (by kernel_rfl))
                    subst e88
                    clear hu hd ho
                    go_simp
                    exact hK _ _ (Oz.good_same rfl rfl rfl)
                  · intro v; simp only [Act.put, List.setIfInBounds_toArray, List.set_cons_succ, List.set_cons_zero]; exact rfl
                  · intro v; exact (rfl : _ = ([x86, x87, x88, x89, v] : List Value))
                  intro x90
                  apply Oz.walk_consL rfl
                  · intro w1 hb hu hd ho K hK
                    have e89 : _ = x89 := Eq.symm (hd 3 (by kernel_rfl))
                    subst e89
                    have e90 : _ = x90 := Eq.symm (hd 4 (by kernel_rfl))
                    subst e90
                    have e88 : _ = x88 := Eq.symm (hd 2 (by kernel_rfl))
                    subst e88
                    clear hu hd ho
                    go_simp
                    exact hK _ _ (Oz.good_same rfl rfl rfl)
                  · intro v; simp only [Act.put, List.setIfInBounds_toArray, List.set_cons_succ, List.set_cons_zero]; exact rfl
                  · intro v; exact (rfl : _ = ([x86, x87, x88, x89, x90, v] : List Value))
                  intro x91
                  apply Oz.walk_consL rfl
                  · intro w1 hb hu hd ho K hK
                    have e91 : _ = x91 := Eq.symm (hd 5 (by kernel_rfl))
                    subst e91
                    have e88 : _ = x88 := Eq.symm (hd 2 (by kernel_rfl))
                    subst e88
                    clear hu hd ho
                    have c_y0 := (hb.cell (show bv < _ by omega)).trans y0
                    have c_y1 := (hb.cell (show bv < _ by omega)).trans y1
                    have c_y2 := (hb.cell (show bv < _ by omega)).trans y2
                    have c_y3 := (hb.cell (show bv < _ by omega)).trans y3
                    have c_y4 := (hb.cell (show bv < _ by omega)).trans y4
                    have c_y5 := (hb.cell (show bv < _ by omega)).trans y5
                    have c_y6 := (hb.cell (show bv < _ by omega)).trans y6
                    go_simp
                    exact hK _ _ (Oz.good_same rfl rfl rfl)
                  · intro v; simp only [Act.put, List.setIfInBounds_toArray, List.set_cons_succ, List.set_cons_zero]; exact rfl
                  · intro v; exact (rfl : _ = ([x86, x87, x88, x89, x90, x91, v] : List Value))
                  intro x92
                  apply Oz.walk_consL rfl
                  · intro w1 hb hu hd ho K hK
                    have e88 : _ = x88 := Eq.symm (hd 2 (by kernel_rfl))
                    subst e88
                    have hq := (hu bx (by simp; omega) (fun j hj => by rcases Oz.cl2_cases hj with ⟨_, h⟩ | ⟨rfl, _⟩; cases h; exact Or.inr rfl)).trans HHX.out
                    obtain ⟨q0, q1, q2, _, _, _⟩ := at3 hq
                    clear hu hd ho
                    go_simp
                    exact hK _ _ (Oz.good_same rfl rfl rfl)
                  · intro v; simp only [Act.put, List.setIfInBounds_toArray, List.set_cons_succ, List.set_cons_zero]; exact rfl
                  · intro v; exact (rfl : _ = ([x86, x87, x88, x89, x90, x91, x92, v] : List Value))
                  intro x93
                  apply Oz.walk_consL rfl
                  · intro w1 hb hu hd ho K hK
                    have e92 : _ = x92 := Eq.symm (hd 6 (by kernel_rfl))
                    subst e92
                    have e93 : _ = x93 := Eq.symm (hd 7 (by kernel_rfl))
                    subst e93
                    have e88 : _ = x88 := Eq.symm (hd 2 (by kernel_rfl))
                    subst e88
                    clear hu hd ho
                    go_simp
                    refine (HFT.out w1).mono ?_
                    rintro e w2 ⟨rfl, hb2⟩
                    go_simp
                    exact hK _ _ (Oz.good_below rfl rfl hb2 rfl)
                  · intro v; simp only [Act.put, List.setIfInBounds_toArray, List.set_cons_succ, List.set_cons_zero]; exact rfl
                  · intro v; exact (rfl : _ = ([x86, x87, x88, x89, x90, x91, x92, x93, v] : List Value))
                  intro x94
                  apply Oz.walk_consL rfl
                  · intro w1 hb hu hd ho K hK
                    have e88 : _ = x88 := Eq.symm (hd 2 (by kernel_rfl))
                    subst e88
                    have e94 : _ = x94 := Eq.symm (hd 8 (by kernel_rfl))
                    subst e94
                    clear hu hd ho
                    go_simp
                    exact hK _ _ (Oz.good_same rfl rfl rfl)
                  · intro v; simp only [Act.put, List.setIfInBounds_toArray, List.set_cons_succ, List.set_cons_zero]; exact rfl
                  · intro v; exact (rfl : _ = ([x86, x87, x88, x89, x90, x91, x92, x93, x94, v] : List Value))
                  intro x95
                  apply Oz.walk_consL rfl
                  · intro w1 hb hu hd ho K hK
                    clear hu hd ho
                    go_simp
                    exact hK _ _ (Oz.good_same rfl rfl rfl)
                  · intro v; simp only [Act.put, List.setIfInBounds_toArray, List.set_cons_succ, List.set_cons_zero]; exact rfl
                  · intro v; exact (rfl : _ = ([x86, x87, x88, x89, x90, x91, x92, x93, x94, x95, v] : List Value))
                  intro x96
                  apply Oz.walk_consL rfl
                  · intro w1 hb hu hd ho K hK
                    have e96 : _ = x96 := Eq.symm (hd 10 (by kernel_rfl))
                    subst e96
                    have e95 : _ = x95 := Eq.symm (hd 9 (by kernel_rfl))
                    subst e95
                    have hh : w1.heap[w.heap.size + 1]? = some (.cells #[.slice Ax ys.length cx, rv, sv, .bool true] 46 (0, 0)) := (hu _ (by simp; omega) (fun j hj => by rcases Oz.cl2_cases hj with ⟨_, h⟩ | ⟨rfl, _⟩; cases h; exact Or.inr rfl)).trans HDP.out.box
                    obtain ⟨b0, b1, b2, b3, g0, g1, g2, g3⟩ := at4d hh
                    clear hu hd ho
                    go_simp
                    refine hK undef _ ⟨heap_setCell_same _ _ 3 _ _ _ hh, Oz.setAll_grown (w.heap.size + 1) [.bool false] 3 w1, fun h => by cases h⟩
                  · intro v; exact rfl
                  · intro v; exact rfl
                  intro xn11
                  refine Oz.walk_nilL rfl (fun w1 hb hu hd => ?_)
                  have e86 : _ = x86 := Eq.symm (hd 0 (by kernel_rfl))
                  subst e86
                  have e87 : _ = x87 := Eq.symm (hd 1 (by kernel_rfl))
                  subst e87
                  have e88 : _ = x88 := Eq.symm (hd 2 (by kernel_rfl))
                  subst e88
                  have e89 : _ = x89 := Eq.symm (hd 3 (by kernel_rfl))
                  subst e89
                  have e90 : _ = x90 := Eq.symm (hd 4 (by kernel_rfl))
                  subst e90
                  have e91 : _ = x91 := Eq.symm (hd 5 (by kernel_rfl))
                  subst e91
                  have e92 : _ = x92 := Eq.symm (hd 6 (by kernel_rfl))
                  subst e92
                  have e93 : _ = x93 := Eq.symm (hd 7 (by kernel_rfl))
                  subst e93
                  have e94 : _ = x94 := Eq.symm (hd 8 (by kernel_rfl))
                  subst e94
                  have e95 : _ = x95 := Eq.symm (hd 9 (by kernel_rfl))
                  subst e95
                  have e96 : _ = x96 := Eq.symm (hd 10 (by kernel_rfl))
                  subst e96
                  have hn11 := hd 11 (by kernel_rfl)
                  clear hd
                  have HDE := Lib.hid (HDP.out.okd hb hu hn11)
                  clear hb hu hn11
                  obtain ⟨we, hwe⟩ : ∃ W, W = w1 := ⟨_, rfl⟩
                  subst hwe
                  obtain ⟨k0, k1, k2, k3, l0, l1, l2, l3⟩ := at4d HDE.out.box
                  go_simp
                  go_wp2
                  go_roundw
                  case rel => exact ⟨_, _, _, _, _, _, _, _, HN0.out, HDE.out, by go_num⟩
                  case measure => simp [intOf]; omega
                | true =>
                  rw [hm, if_pos rfl] at hif
                  have HFT : Hid (∀ W, Calls Tryz.prog 23 #[.agg #[.string VN, .int .i64 vk, .int .i64 vlo, .int .i64 vhi, .int .i64 vik, .int .i64 via, .int .i64 vib], .agg #[.int .i64 rk, .int .i64 ra, .int .i64 rb]] W fun e w' => e = .returned (.bool true) ∧ Below W.heap.size W w') := fun W => by rw [← hm]; exact hft VN ⟨rk, ra, rb⟩ W
                  have HP := Lib.hid (LoopI.of (HI.out.set HN.out (by exact hkn) HA.out hif))
                  clear hif hft hm
                  obtain ⟨wp, hwp⟩ : ∃ W, W = wq.setCell ⟨w.heap.size + 1, 3, none⟩ (.bool true) := ⟨_, rfl⟩
                  have HDP : Hid (DidI w wp (.slice Ax ys.length cx) rv sv true ys r s) := by rw [hwp]; exact HDQ.out.okS _
                  have HHX : Hid (wp.heap[bx]? = some (.cells #[.int .i64 rk, .int .i64 ra, .int .i64 rb] 54 (0, 0))) := by rw [hwp, Below.heap_setCell _ _ _ _ (by simp; omega)]; exact hhx
                  have hpz : wq.heap.size ≤ wp.heap.size := by rw [hwp]; simp
                  have HPB : Hid (Below wl.heap.size wl wq) := HBQ
                  replace y0 := (HDP.out.below.cell (show bv < _ from hbv)).trans y0
                  replace y1 := (HDP.out.below.cell (show bv < _ from hbv)).trans y1
                  replace y2 := (HDP.out.below.cell (show bv < _ from hbv)).trans y2
                  replace y3 := (HDP.out.below.cell (show bv < _ from hbv)).trans y3
                  replace y4 := (HDP.out.below.cell (show bv < _ from hbv)).trans y4
                  replace y5 := (HDP.out.below.cell (show bv < _ from hbv)).trans y5
                  replace y6 := (HDP.out.below.cell (show bv < _ from hbv)).trans y6
                  have HWP := Lib.hid hwp
                  clear hwp
                  have hzp := HDP.out.size
                  have hbxp : bx < wp.heap.size := by omega
                  obtain ⟨b0, b1, b2, b3, g0, g1, g2, g3⟩ := at4d HDQ.out.box
                  go_wp2_with fail
                  rw [← HWP.out]
                  refine Oz.region_two 113 [Ow.eqR (.pointer (some ⟨w.heap.size + 1, 3, none⟩)), Ow.eqR (.bool true), Ow.eqR (.bool true), Ow.eqR (.slice (some ⟨bv, ov, none⟩) vs.length vc), Ow.eqR (.int .i64 (i : Int)), Ow.eqR (.pointer (some ⟨bv, ov + i * 7, none⟩)), Ow.eqR (.agg #[.string VN, .int .i64 vk, .int .i64 vlo, .int .i64 vhi, .int .i64 vik, .int .i64 via, .int .i64 vib]), Ow.eqR (.agg #[.int .i64 rk, .int .i64 ra, .int .i64 rb]), Ow.eqR (.bool true), Ow.eqR (.bool true), Ow.eqR (.pointer (some ⟨w.heap.size + 1, 3, none⟩)), fun _ w' => w'.heap[w.heap.size + 1]? = some (.cells #[.slice Ax ys.length cx, rv, sv, .bool true] 46 (0, 0))] [false, false, false, false, false, false, false, false, false, false, false, false] [none, none, none, none, none, none, none, none, none, none, none, none] (w.heap.size + 1) 99 11 (w.heap.size + 1) (.slice none 0 0) (World.ownsRow_nil _ _ 9 1) (by intro h; cases h) (Nat.le_refl _) (by omega) (by kernel_rfl) rfl (by kernel_rfl) (by kernel_rfl) rfl rfl ⟨Oz.keeps_eq _ _, Oz.keeps_eq _ _, Oz.keeps_eq _ _, Oz.keeps_eq _ _, Oz.keeps_eq _ _, Oz.keeps_eq _ _, Oz.keeps_eq _ _, Oz.keeps_eq _ _, Oz.keeps_eq _ _, Oz.keeps_eq _ _, Oz.keeps_eq _ _, trivial⟩ ?_
                  apply Oz.walk_consL rfl
                  · intro w1 hb hu hd ho K hK
                    clear hu hd ho
                    go_simp
                    exact hK _ _ (Oz.good_same rfl rfl rfl)
                  · intro v; simp only [Act.put, List.setIfInBounds_toArray, List.set_cons_succ, List.set_cons_zero]; exact rfl
                  · intro v; exact (rfl : _ = ([v] : List Value))
                  intro x86
                  apply Oz.walk_consL rfl
                  · intro w1 hb hu hd ho K hK
                    have e86 : _ = x86 := Eq.symm (hd 0 (by kernel_rfl))
                    subst e86
                    have hh : w1.heap[w.heap.size + 1]? = some (.cells #[.slice Ax ys.length cx, rv, sv, .bool true] 46 (0, 0)) := (hu _ (by simp; omega) (fun j hj => by rcases Oz.cl2_cases hj with ⟨_, h⟩ | ⟨rfl, _⟩; cases h; exact Or.inr rfl)).trans HDP.out.box
                    obtain ⟨b0, b1, b2, b3, g0, g1, g2, g3⟩ := at4d hh
                    clear hu hd ho
                    go_simp
                    exact hK _ _ (Oz.good_same rfl rfl rfl)
                  · intro v; simp only [Act.put, List.setIfInBounds_toArray, List.set_cons_succ, List.set_cons_zero]; exact rfl
                  · intro v; exact (rfl : _ = ([x86, v] : List Value))
                  intro x87
                  apply Oz.walk_consL rfl
                  · intro w1 hb hu hd ho K hK
                    have e87 : _ = x87 := Eq.symm (hd 1 (by kernel_rfl))
                    subst e87
                    clear hu hd ho
                    go_simp
                    exact hK _ _ (Oz.good_same rfl rfl rfl)
                  · intro v; simp only [Act.put, List.setIfInBounds_toArray, List.set_cons_succ, List.set_cons_zero]; exact rfl
                  · intro v; exact (rfl : _ = ([x86, x87, v] : List Value))
                  intro x88
                  apply Oz.walk_consL rfl
                  · intro w1 hb hu hd ho K hK
                    have e88 : _ = x88 := Eq.symm (hd 2 (by kernel_rfl))
                    subst e88
                    clear hu hd ho
                    go_simp
                    exact hK _ _ (Oz.good_same rfl rfl rfl)
                  · intro v; simp only [Act.put, List.setIfInBounds_toArray, List.set_cons_succ, List.set_cons_zero]; exact rfl
                  · intro v; exact (rfl : _ = ([x86, x87, x88, v] : List Value))
                  intro x89
                  apply Oz.walk_consL rfl
                  · intro w1 hb hu hd ho K hK
                    have e88 : _ = x88 := Eq.symm (hd 2 (by kernel_rfl))
                    subst e88
                    clear hu hd ho
                    go_simp
                    exact hK _ _ (Oz.good_same rfl rfl rfl)
                  · intro v; simp only [Act.put, List.setIfInBounds_toArray, List.set_cons_succ, List.set_cons_zero]; exact rfl
                  · intro v; exact (rfl : _ = ([x86, x87, x88, x89, v] : List Value))
                  intro x90
                  apply Oz.walk_consL rfl
                  · intro w1 hb hu hd ho K hK
                    have e89 : _ = x89 := Eq.symm (hd 3 (by kernel_rfl))
                    subst e89
                    have e90 : _ = x90 := Eq.symm (hd 4 (by kernel_rfl))
                    subst e90
                    have e88 : _ = x88 := Eq.symm (hd 2 (by kernel_rfl))
                    subst e88
                    clear hu hd ho
                    go_simp
                    exact hK _ _ (Oz.good_same rfl rfl rfl)
                  · intro v; simp only [Act.put, List.setIfInBounds_toArray, List.set_cons_succ, List.set_cons_zero]; exact rfl
                  · intro v; exact (rfl : _ = ([x86, x87, x88, x89, x90, v] : List Value))
                  intro x91
                  apply Oz.walk_consL rfl
                  · intro w1 hb hu hd ho K hK
                    have e91 : _ = x91 := Eq.symm (hd 5 (by kernel_rfl))
                    subst e91
                    have e88 : _ = x88 := Eq.symm (hd 2 (by kernel_rfl))
                    subst e88
                    clear hu hd ho
                    have c_y0 := (hb.cell (show bv < _ by omega)).trans y0
                    have c_y1 := (hb.cell (show bv < _ by omega)).trans y1
                    have c_y2 := (hb.cell (show bv < _ by omega)).trans y2
                    have c_y3 := (hb.cell (show bv < _ by omega)).trans y3
                    have c_y4 := (hb.cell (show bv < _ by omega)).trans y4
                    have c_y5 := (hb.cell (show bv < _ by omega)).trans y5
                    have c_y6 := (hb.cell (show bv < _ by omega)).trans y6
                    go_simp
                    exact hK _ _ (Oz.good_same rfl rfl rfl)
                  · intro v; simp only [Act.put, List.setIfInBounds_toArray, List.set_cons_succ, List.set_cons_zero]; exact rfl
                  · intro v; exact (rfl : _ = ([x86, x87, x88, x89, x90, x91, v] : List Value))
                  intro x92
                  apply Oz.walk_consL rfl
                  · intro w1 hb hu hd ho K hK
                    have e88 : _ = x88 := Eq.symm (hd 2 (by kernel_rfl))
                    subst e88
                    have hq := (hu bx (by simp; omega) (fun j hj => by rcases Oz.cl2_cases hj with ⟨_, h⟩ | ⟨rfl, _⟩; cases h; exact Or.inr rfl)).trans HHX.out
                    obtain ⟨q0, q1, q2, _, _, _⟩ := at3 hq
                    clear hu hd ho
                    go_simp
                    exact hK _ _ (Oz.good_same rfl rfl rfl)
                  · intro v; simp only [Act.put, List.setIfInBounds_toArray, List.set_cons_succ, List.set_cons_zero]; exact rfl
                  · intro v; exact (rfl : _ = ([x86, x87, x88, x89, x90, x91, x92, v] : List Value))
                  intro x93
                  apply Oz.walk_consL rfl
                  · intro w1 hb hu hd ho K hK
                    have e92 : _ = x92 := Eq.symm (hd 6 (by kernel_rfl))
                    subst e92
                    have e93 : _ = x93 := Eq.symm (hd 7 (by kernel_rfl))
                    subst e93
                    have e88 : _ = x88 := Eq.symm (hd 2 (by kernel_rfl))
                    subst e88
                    clear hu hd ho
                    go_simp
                    refine (HFT.out w1).mono ?_
                    rintro e w2 ⟨rfl, hb2⟩
                    go_simp
                    exact hK _ _ (Oz.good_below rfl rfl hb2 rfl)
                  · intro v; simp only [Act.put, List.setIfInBounds_toArray, List.set_cons_succ, List.set_cons_zero]; exact rfl
                  · intro v; exact (rfl : _ = ([x86, x87, x88, x89, x90, x91, x92, x93, v] : List Value))
                  intro x94
                  apply Oz.walk_consL rfl
                  · intro w1 hb hu hd ho K hK
                    have e88 : _ = x88 := Eq.symm (hd 2 (by kernel_rfl))
                    subst e88
                    have e94 : _ = x94 := Eq.symm (hd 8 (by kernel_rfl))
                    subst e94
                    clear hu hd ho
                    go_simp
                    exact hK _ _ (Oz.good_same rfl rfl rfl)
                  · intro v; simp only [Act.put, List.setIfInBounds_toArray, List.set_cons_succ, List.set_cons_zero]; exact rfl
                  · intro v; exact (rfl : _ = ([x86, x87, x88, x89, x90, x91, x92, x93, x94, v] : List Value))
                  intro x95
                  apply Oz.walk_consL rfl
                  · intro w1 hb hu hd ho K hK
                    clear hu hd ho
                    go_simp
                    exact hK _ _ (Oz.good_same rfl rfl rfl)
                  · intro v; simp only [Act.put, List.setIfInBounds_toArray, List.set_cons_succ, List.set_cons_zero]; exact rfl
                  · intro v; exact (rfl : _ = ([x86, x87, x88, x89, x90, x91, x92, x93, x94, x95, v] : List Value))
                  intro x96
                  apply Oz.walk_consL rfl
                  · intro w1 hb hu hd ho K hK
                    have e96 : _ = x96 := Eq.symm (hd 10 (by kernel_rfl))
                    subst e96
                    have e95 : _ = x95 := Eq.symm (hd 9 (by kernel_rfl))
                    subst e95
                    have hh : w1.heap[w.heap.size + 1]? = some (.cells #[.slice Ax ys.length cx, rv, sv, .bool true] 46 (0, 0)) := (hu _ (by simp; omega) (fun j hj => by rcases Oz.cl2_cases hj with ⟨_, h⟩ | ⟨rfl, _⟩; cases h; exact Or.inr rfl)).trans HDP.out.box
                    obtain ⟨b0, b1, b2, b3, g0, g1, g2, g3⟩ := at4d hh
                    clear hu hd ho
                    go_simp
                    refine hK undef _ ⟨heap_setCell_same _ _ 3 _ _ _ hh, Oz.setAll_grown (w.heap.size + 1) [.bool true] 3 w1, fun h => by cases h⟩
                  · intro v; exact rfl
                  · intro v; exact rfl
                  intro xn11
                  refine Oz.walk_nilL rfl (fun w1 hb hu hd => ?_)
                  have e86 : _ = x86 := Eq.symm (hd 0 (by kernel_rfl))
                  subst e86
                  have e87 : _ = x87 := Eq.symm (hd 1 (by kernel_rfl))
                  subst e87
                  have e88 : _ = x88 := Eq.symm (hd 2 (by kernel_rfl))
                  subst e88
                  have e89 : _ = x89 := Eq.symm (hd 3 (by kernel_rfl))
                  subst e89
                  have e90 : _ = x90 := Eq.symm (hd 4 (by kernel_rfl))
                  subst e90
                  have e91 : _ = x91 := Eq.symm (hd 5 (by kernel_rfl))
                  subst e91
                  have e92 : _ = x92 := Eq.symm (hd 6 (by kernel_rfl))
                  subst e92
                  have e93 : _ = x93 := Eq.symm (hd 7 (by kernel_rfl))
                  subst e93
                  have e94 : _ = x94 := Eq.symm (hd 8 (by kernel_rfl))
                  subst e94
                  have e95 : _ = x95 := Eq.symm (hd 9 (by kernel_rfl))
                  subst e95
                  have e96 : _ = x96 := Eq.symm (hd 10 (by kernel_rfl))
                  subst e96
                  have hn11 := hd 11 (by kernel_rfl)
                  clear hd
                  have HDE := Lib.hid (HDP.out.okd hb hu hn11)
                  have hqx := (hu bx (by simp; omega) (fun j hj => by rcases Oz.cl2_cases hj with ⟨_, h⟩ | ⟨_, h⟩; cases h; omega)).trans HHX.out
                  clear hb hu hn11
                  obtain ⟨we, hwe⟩ : ∃ W, W = w1 := ⟨_, rfl⟩
                  subst hwe
                  obtain ⟨k0, k1, k2, k3, l0, l1, l2, l3⟩ := at4d HDE.out.box
                  obtain ⟨q0, q1, q2, _, _, _⟩ := at3 hqx
                  clear hqx
                  have hrx := HDE.out.rows.x
                  obtain ⟨gx, rfl⟩ := own_at hrx (by omega)
                  obtain ⟨z0, z1, z2, t0, t1, t2⟩ := own_at3 hrx (i := i) (by omega)
                  have s0 := own_frozen hrx (i * 3)
                  have s1 := own_frozen hrx (i * 3 + 1)
                  have s2 := own_frozen hrx (i * 3 + 2)
                  have HDF := Lib.hid (HDE.out.setX i (by omega) ⟨rk, ra, rb⟩)
                  clear hrx
                  go_simp
                  go_wp2
                  go_roundw
                  case rel => exact ⟨_, _, _, _, _, _, _, _, HP.out, HDF.out, by go_num⟩
                  case measure => simp [intOf]; omega
              · have hre' := int_ne hre
                have HN0 := Lib.hid (LoopI.failed (vs := vs) (al := ps.map Prod.fst) (xs0 := xs) (n := n) (k := k + 1) (r := r) hkn hrl (HI.out.setNo HN.out (by exact hkn) HA.out (HER.out hre)))
                obtain ⟨wp, hwp⟩ : ∃ W, W = wq.setCell ⟨w.heap.size + 1, 3, none⟩ (.bool false) := ⟨_, rfl⟩
                have HDP : Hid (DidI w wp (.slice Ax ys.length cx) rv sv false ys r s) := by rw [hwp]; exact HDQ.out.okS _
                have HHX : Hid (wp.heap[bx]? = some (.cells #[.int .i64 rk, .int .i64 ra, .int .i64 rb] 54 (0, 0))) := by rw [hwp, Below.heap_setCell _ _ _ _ (by simp; omega)]; exact hhx
                have hpz : wq.heap.size ≤ wp.heap.size := by rw [hwp]; simp
                have HPB : Hid (Below wl.heap.size wl wq) := HBQ
                have HWP := Lib.hid hwp
                clear hwp
                have hzp := HDP.out.size
                have hbxp : bx < wp.heap.size := by omega
                obtain ⟨b0, b1, b2, b3, g0, g1, g2, g3⟩ := at4d HDQ.out.box
                go_wp2_with fail
                rw [← HWP.out]
                refine Oz.region_two 113 [Ow.eqR (.pointer (some ⟨w.heap.size + 1, 3, none⟩)), Ow.eqR (.bool false), Ow.eqR (.bool false), Ow.eqR (undef), Ow.eqR (undef), Ow.eqR (undef), Ow.eqR (undef), Ow.eqR (undef), Ow.eqR (undef), Ow.eqR (.bool false), Ow.eqR (.pointer (some ⟨w.heap.size + 1, 3, none⟩)), fun _ w' => w'.heap[w.heap.size + 1]? = some (.cells #[.slice Ax ys.length cx, rv, sv, .bool false] 46 (0, 0))] [false, false, false, false, false, false, false, false, false, false, false, false] [none, none, none, none, none, none, none, none, none, none, none, none] (w.heap.size + 1) 99 11 (w.heap.size + 1) (.slice none 0 0) (World.ownsRow_nil _ _ 9 1) (by intro h; cases h) (Nat.le_refl _) (by omega) (by kernel_rfl) rfl (by kernel_rfl) (by kernel_rfl) rfl rfl ⟨Oz.keeps_eq _ _, Oz.keeps_eq _ _, Oz.keeps_eq _ _, Oz.keeps_eq _ _, Oz.keeps_eq _ _, Oz.keeps_eq _ _, Oz.keeps_eq _ _, Oz.keeps_eq _ _, Oz.keeps_eq _ _, Oz.keeps_eq _ _, Oz.keeps_eq _ _, trivial⟩ ?_
                apply Oz.walk_consL rfl
                · intro w1 hb hu hd ho K hK
                  clear hu hd ho
                  go_simp
                  exact hK _ _ (Oz.good_same rfl rfl rfl)
                · intro v; simp only [Act.put, List.setIfInBounds_toArray, List.set_cons_succ, List.set_cons_zero]; exact rfl
                · intro v; exact (rfl : _ = ([v] : List Value))
                intro x86
                apply Oz.walk_consL rfl
                · intro w1 hb hu hd ho K hK
                  have e86 : _ = x86 := Eq.symm (hd 0 (by kernel_rfl))
                  subst e86
                  have hh : w1.heap[w.heap.size + 1]? = some (.cells #[.slice Ax ys.length cx, rv, sv, .bool false] 46 (0, 0)) := (hu _ (by simp; omega) (fun j hj => by rcases Oz.cl2_cases hj with ⟨_, h⟩ | ⟨rfl, _⟩; cases h; exact Or.inr rfl)).trans HDP.out.box
                  obtain ⟨b0, b1, b2, b3, g0, g1, g2, g3⟩ := at4d hh
                  clear hu hd ho
                  go_simp
                  exact hK _ _ (Oz.good_same rfl rfl rfl)
                · intro v; simp only [Act.put, List.setIfInBounds_toArray, List.set_cons_succ, List.set_cons_zero]; exact rfl
                · intro v; exact (rfl : _ = ([x86, v] : List Value))
                intro x87
                apply Oz.walk_consL rfl
                · intro w1 hb hu hd ho K hK
                  have e87 : _ = x87 := Eq.symm (hd 1 (by kernel_rfl))
                  subst e87
                  clear hu hd ho
                  go_simp
                  exact hK _ _ (Oz.good_same rfl rfl rfl)
                · intro v; simp only [Act.put, List.setIfInBounds_toArray, List.set_cons_succ, List.set_cons_zero]; exact rfl
                · intro v; exact (rfl : _ = ([x86, x87, v] : List Value))
                intro x88
                apply Oz.walk_consL rfl
                · intro w1 hb hu hd ho K hK
                  have e88 : _ = x88 := Eq.symm (hd 2 (by kernel_rfl))
                  subst e88
                  clear hu hd ho
                  go_simp
                  exact hK _ _ (Oz.good_same rfl rfl rfl)
                · intro v; simp only [Act.put, List.setIfInBounds_toArray, List.set_cons_succ, List.set_cons_zero]; exact rfl
                · intro v; exact (rfl : _ = ([x86, x87, x88, v] : List Value))
                intro x89
                apply Oz.walk_consL rfl
                · intro w1 hb hu hd ho K hK
                  have e88 : _ = x88 := Eq.symm (hd 2 (by kernel_rfl))
                  subst e88
                  clear hu hd ho
                  go_simp
                  exact hK _ _ (Oz.good_same rfl rfl rfl)
                · intro v; simp only [Act.put, List.setIfInBounds_toArray, List.set_cons_succ, List.set_cons_zero]; exact rfl
                · intro v; exact (rfl : _ = ([x86, x87, x88, x89, v] : List Value))
                intro x90
                apply Oz.walk_consL rfl
                · intro w1 hb hu hd ho K hK
                  have e89 : _ = x89 := Eq.symm (hd 3 (by kernel_rfl))
                  subst e89
                  have e90 : _ = x90 := Eq.symm (hd 4 (by kernel_rfl))
                  subst e90
                  have e88 : _ = x88 := Eq.symm (hd 2 (by kernel_rfl))
                  subst e88
                  clear hu hd ho
                  go_simp
                  exact hK _ _ (Oz.good_same rfl rfl rfl)
                · intro v; simp only [Act.put, List.setIfInBounds_toArray, List.set_cons_succ, List.set_cons_zero]; exact rfl
                · intro v; exact (rfl : _ = ([x86, x87, x88, x89, x90, v] : List Value))
                intro x91
                apply Oz.walk_consL rfl
                · intro w1 hb hu hd ho K hK
                  have e91 : _ = x91 := Eq.symm (hd 5 (by kernel_rfl))
                  subst e91
                  have e88 : _ = x88 := Eq.symm (hd 2 (by kernel_rfl))
                  subst e88
                  clear hu hd ho
                  go_simp
                  exact hK _ _ (Oz.good_same rfl rfl rfl)
                · intro v; simp only [Act.put, List.setIfInBounds_toArray, List.set_cons_succ, List.set_cons_zero]; exact rfl
                · intro v; exact (rfl : _ = ([x86, x87, x88, x89, x90, x91, v] : List Value))
                intro x92
                apply Oz.walk_consL rfl
                · intro w1 hb hu hd ho K hK
                  have e88 : _ = x88 := Eq.symm (hd 2 (by kernel_rfl))
                  subst e88
                  clear hu hd ho
                  go_simp
                  exact hK _ _ (Oz.good_same rfl rfl rfl)
                · intro v; simp only [Act.put, List.setIfInBounds_toArray, List.set_cons_succ, List.set_cons_zero]; exact rfl
                · intro v; exact (rfl : _ = ([x86, x87, x88, x89, x90, x91, x92, v] : List Value))
                intro x93
                apply Oz.walk_consL rfl
                · intro w1 hb hu hd ho K hK
                  have e92 : _ = x92 := Eq.symm (hd 6 (by kernel_rfl))
                  subst e92
                  have e93 : _ = x93 := Eq.symm (hd 7 (by kernel_rfl))
                  subst e93
                  have e88 : _ = x88 := Eq.symm (hd 2 (by kernel_rfl))
                  subst e88
                  clear hu hd ho
                  go_simp
                  exact hK _ _ (Oz.good_same rfl rfl rfl)
                · intro v; simp only [Act.put, List.setIfInBounds_toArray, List.set_cons_succ, List.set_cons_zero]; exact rfl
                · intro v; exact (rfl : _ = ([x86, x87, x88, x89, x90, x91, x92, x93, v] : List Value))
                intro x94
                apply Oz.walk_consL rfl
                · intro w1 hb hu hd ho K hK
                  have e88 : _ = x88 := Eq.symm (hd 2 (by kernel_rfl))
                  subst e88
                  have e94 : _ = x94 := Eq.symm (hd 8 (by kernel_rfl))
                  subst e94
                  clear hu hd ho
                  go_simp
                  exact hK _ _ (Oz.good_same rfl rfl rfl)
                · intro v; simp only [Act.put, List.setIfInBounds_toArray, List.set_cons_succ, List.set_cons_zero]; exact rfl
                · intro v; exact (rfl : _ = ([x86, x87, x88, x89, x90, x91, x92, x93, x94, v] : List Value))
                intro x95
                apply Oz.walk_consL rfl
                · intro w1 hb hu hd ho K hK
                  clear hu hd ho
                  go_simp
                  exact hK _ _ (Oz.good_same rfl rfl rfl)
                · intro v; simp only [Act.put, List.setIfInBounds_toArray, List.set_cons_succ, List.set_cons_zero]; exact rfl
                · intro v; exact (rfl : _ = ([x86, x87, x88, x89, x90, x91, x92, x93, x94, x95, v] : List Value))
                intro x96
                apply Oz.walk_consL rfl
                · intro w1 hb hu hd ho K hK
                  have e96 : _ = x96 := Eq.symm (hd 10 (by kernel_rfl))
                  subst e96
                  have e95 : _ = x95 := Eq.symm (hd 9 (by kernel_rfl))
                  subst e95
                  have hh : w1.heap[w.heap.size + 1]? = some (.cells #[.slice Ax ys.length cx, rv, sv, .bool false] 46 (0, 0)) := (hu _ (by simp; omega) (fun j hj => by rcases Oz.cl2_cases hj with ⟨_, h⟩ | ⟨rfl, _⟩; cases h; exact Or.inr rfl)).trans HDP.out.box
                  obtain ⟨b0, b1, b2, b3, g0, g1, g2, g3⟩ := at4d hh
                  clear hu hd ho
                  go_simp
                  refine hK undef _ ⟨heap_setCell_same _ _ 3 _ _ _ hh, Oz.setAll_grown (w.heap.size + 1) [.bool false] 3 w1, fun h => by cases h⟩
                · intro v; exact rfl
                · intro v; exact rfl
                intro xn11
                refine Oz.walk_nilL rfl (fun w1 hb hu hd => ?_)
                have e86 : _ = x86 := Eq.symm (hd 0 (by kernel_rfl))
                subst e86
                have e87 : _ = x87 := Eq.symm (hd 1 (by kernel_rfl))
                subst e87
                have e88 : _ = x88 := Eq.symm (hd 2 (by kernel_rfl))
                subst e88
                have e89 : _ = x89 := Eq.symm (hd 3 (by kernel_rfl))
                subst e89
                have e90 : _ = x90 := Eq.symm (hd 4 (by kernel_rfl))
                subst e90
                have e91 : _ = x91 := Eq.symm (hd 5 (by kernel_rfl))
                subst e91
                have e92 : _ = x92 := Eq.symm (hd 6 (by kernel_rfl))
                subst e92
                have e93 : _ = x93 := Eq.symm (hd 7 (by kernel_rfl))
                subst e93
                have e94 : _ = x94 := Eq.symm (hd 8 (by kernel_rfl))
                subst e94
                have e95 : _ = x95 := Eq.symm (hd 9 (by kernel_rfl))
                subst e95
                have e96 : _ = x96 := Eq.symm (hd 10 (by kernel_rfl))
                subst e96
                have hn11 := hd 11 (by kernel_rfl)
                clear hd
                have HDE := Lib.hid (HDP.out.okd hb hu hn11)
                clear hb hu hn11
                obtain ⟨we, hwe⟩ : ∃ W, W = w1 := ⟨_, rfl⟩
                subst hwe
                obtain ⟨k0, k1, k2, k3, l0, l1, l2, l3⟩ := at4d HDE.out.box
                go_simp
                go_wp2
                go_roundw
                case rel => exact ⟨_, _, _, _, _, _, _, _, HN0.out, HDE.out, by go_num⟩
                case measure => simp [intOf]; omega
          · have h1' := int_ne h1
            have HN0 := Lib.hid (LoopI.failed (vs := vs) (al := ps.map Prod.fst) (xs0 := xs) (n := n) (k := k + 1) (r := r) hkn hrl (HI.out.none HN.out (by exact hkn) HA.out h1 h2 h3))
            have HDE := Lib.hid (HDX.out.okS false)
            go_wp2
            go_roundw
            case rel => exact ⟨_, _, _, _, _, _, _, _, HN0.out, HDE.out, by go_num⟩
            case measure => simp [intOf]; omega
    · have hcond : ¬ (k < n) ∨ ok = false := by
        cases ok
        · exact Or.inr rfl
        · exact Or.inl (fun h => hbody ⟨h, rfl⟩)
      clear hbody
      cases ok with
      | true =>
        have hkn : ¬ k < n := by rcases hcond with h | h; exact h; cases h
        have HP := Lib.hid ((HLX.out.go rfl).done HN.out hkn)
        obtain rfl : k = n := by omega
        obtain ⟨A1, q1, rfl⟩ := own_slice HDX.out.rows.x
        obtain ⟨A2, q2, rfl⟩ := own_slice HDX.out.rows.r
        obtain ⟨A3, q3, rfl⟩ := own_slice HDX.out.rows.s
        obtain ⟨⟨r0, r1, r2, r3⟩, hrows, hbf⟩ := fin4d HDX.out
        have HR0 := Lib.hid r0; have HR1 := Lib.hid r1; have HR2 := Lib.hid r2; have HR3 := Lib.hid r3; have HRO := Lib.hid hrows; have HBF := Lib.hid hbf
        clear r0 r1 r2 r3 hrows hbf hcond HERR
        go_wp2
        refine bodyPost_ret (v := .agg #[.slice A1 ys.length q1, .slice A2 r.length q2, .slice A3 s.length q3, .bool true]) ?_ rfl ⟨_, _, _, by rw [HP.out], by rw [HP.out]; exact HRO.out, HBF.out⟩
        simp [results, Tryz.results20, go_sem, HR0.out, HR1.out, HR2.out, HR3.out]
      | false =>
        have HP := Lib.hid (HERR rfl)
        obtain ⟨A1, q1, rfl⟩ := own_slice HDX.out.rows.x
        obtain ⟨A3, q3, rfl⟩ := own_slice HDX.out.rows.s
        have hlow := HDX.out.low ((Below.refl _ _).alloc (Nat.le_refl _) (.cells #[.string ⟨#[101, 114, 114, 111, 114]⟩] 9))
        have HLO := Lib.hid hlow
        obtain ⟨m0, m1, m2, m3, _, _, _, _⟩ := at4d hlow.box
        have hls := hlow.size
        clear hlow hcond HERR
        by_cases hkn : k < n
        · go_wp2_with (at_builtin; refine Ow.wpList_append rfl (.tmp 108) (.tmp 109) 42 rfl (w.heap.size + 2) 9 is _ 1 16 Tryz.underlying42 HS0.out HS1.out HS2.out HS3.out rfl (by decide) _ r.length (r.map bstr) rfl HLO.out.rows.r _ 1 [.string ⟨#[101, 114, 114, 111, 114]⟩] rfl (inn_one _ _ _ (by simp)) (one_str _) (by unfold maxLen; omega) (by omega) hls ?_)
          intro v5 w5 ho5 hg5 hob5
          obtain ⟨A2, q2, rfl⟩ := own_slice ho5
          have hR5 := HLO.out.rows.raise (n := wErr) ho5 hg5 (by simpa using hob5)
          obtain ⟨g1, g2, g3, g4⟩ := HLO.out.grown hg5 (fun g hg => (HLO.out.rows.r.lt g hg).1)
          have hd5 := did_store 1 (u := .slice A2 (r.length + 1) q2) g1 g2 g3 g4 hR5 rfl
          obtain ⟨k0, k1, k2, k3, l0, l1, l2, l3⟩ := at4d g2
          obtain ⟨o0, o1, o2, o3, p0, p1, p2, p3⟩ := at4d g1
          obtain ⟨⟨r0, r1, r2, r3⟩, hrows, hbf⟩ := fin4d hd5
          have HR0 := Lib.hid r0; have HR1 := Lib.hid r1; have HR2 := Lib.hid r2; have HR3 := Lib.hid r3; have HRO := Lib.hid hrows; have HBF := Lib.hid hbf
          clear ho5 hg5 hob5 hR5 g1 g2 g3 g4 hd5 r0 r1 r2 r3 hrows hbf a0 a1 a2 a3 f0 f1 f2 f3 c0 c1 c2 c3 d0 d1 d2 d3 m0 m1 m2 m3
          go_wp2
          refine bodyPost_ret (v := .agg #[.slice A1 ys.length q1, .slice A2 (r.length + 1) q2, .slice A3 s.length q3, .bool false]) ?_ rfl ⟨_, _, _, by rw [HP.out], by rw [HP.out]; exact HRO.out, HBF.out⟩
          simp [results, Tryz.results20, go_sem, HR0.out, HR1.out, HR2.out, HR3.out]
        · go_wp2_with (at_builtin; refine Ow.wpList_append rfl (.tmp 108) (.tmp 109) 42 rfl (w.heap.size + 2) 9 is _ 1 16 Tryz.underlying42 HS0.out HS1.out HS2.out HS3.out rfl (by decide) _ r.length (r.map bstr) rfl HLO.out.rows.r _ 1 [.string ⟨#[101, 114, 114, 111, 114]⟩] rfl (inn_one _ _ _ (by simp)) (one_str _) (by unfold maxLen; omega) (by omega) hls ?_)
          intro v5 w5 ho5 hg5 hob5
          obtain ⟨A2, q2, rfl⟩ := own_slice ho5
          have hR5 := HLO.out.rows.raise (n := wErr) ho5 hg5 (by simpa using hob5)
          obtain ⟨g1, g2, g3, g4⟩ := HLO.out.grown hg5 (fun g hg => (HLO.out.rows.r.lt g hg).1)
          have hd5 := did_store 1 (u := .slice A2 (r.length + 1) q2) g1 g2 g3 g4 hR5 rfl
          obtain ⟨k0, k1, k2, k3, l0, l1, l2, l3⟩ := at4d g2
          obtain ⟨o0, o1, o2, o3, p0, p1, p2, p3⟩ := at4d g1
          obtain ⟨⟨r0, r1, r2, r3⟩, hrows, hbf⟩ := fin4d hd5
          have HR0 := Lib.hid r0; have HR1 := Lib.hid r1; have HR2 := Lib.hid r2; have HR3 := Lib.hid r3; have HRO := Lib.hid hrows; have HBF := Lib.hid hbf
          clear ho5 hg5 hob5 hR5 g1 g2 g3 g4 hd5 r0 r1 r2 r3 hrows hbf a0 a1 a2 a3 f0 f1 f2 f3 c0 c1 c2 c3 d0 d1 d2 d3 m0 m1 m2 m3
          go_wp2
          refine bodyPost_ret (v := .agg #[.slice A1 ys.length q1, .slice A2 (r.length + 1) q2, .slice A3 s.length q3, .bool false]) ?_ rfl ⟨_, _, _, by rw [HP.out], by rw [HP.out]; exact HRO.out, HBF.out⟩
          simp [results, Tryz.results20, go_sem, HR0.out, HR1.out, HR2.out, HR3.out]
end Go.Proofs.YtjgfkmakfdepcaaGreatDoor
