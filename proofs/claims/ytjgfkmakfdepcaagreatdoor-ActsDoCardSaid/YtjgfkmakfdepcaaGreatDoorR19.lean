/- Own texts, joined: A6, Shel2, Vn. -/
import Derived.Test.YtjgfkmakfdepcaaGreatDoorR4
import Derived.Test.YtjgfkmakfdepcaaGreatDoorR17
import Derived.Test.YtjgfkmakfdepcaaGreatDoorR18
import Derived.WalkMore
import Derived.Shelf.Strings.Builder1
import Derived.Shelf.Strings.Builder2
import Derived.Shelf.Strings.OnBuilder
import Derived.Shelf.Small.Wraps
import Derived.Shelf.Strings.BuilderF
import Derived.Shelf.Strings.BuilderK
import Derived.Shelf.Utf8.RuneCount
import Derived.Shelf.Strings.Builder2Cap
import Derived.Shelf.Strconv.Itoa0
import Derived.Shelf.Strconv.Itoa1
import Derived.Shelf.LaysM
import Derived.Shelf.Strconv.Itoa2
import Derived.Shelf.Strconv.Itoa3
import Derived.Shelf.Strconv.Itoa4
import Derived.Shelf.Strconv.Clone
import Derived.Shelf.Strings.Search1
import Derived.Shelf.Strings.Search2
import Derived.Shelf.Strings.Search3
import Derived.Shelf.Strings.Cut
import Derived.Shelf.Strings.Count
import Derived.Shelf.Strings.Shaped
import Derived.Shelf.Strings.Prefix
import Derived.Shelf.Strings.Split
import Derived.Shelf.Strings.SplitShaped
import Derived.Shelf.Unicode.Decode
import Derived.Shelf.Strings.RuneCount
import Derived.Shelf.Strings.Explode
import Derived.Shelf.Unicode.DecodeSlow
import Derived.Shelf.Unicode.DecodeAny
import Derived.Test.YtjgfkmakfdepcaaGreatDoorProg
namespace Go.Proofs.YtjgfkmakfdepcaaGreatDoor
open Go.RowKit

theorem infoValue : (Tryz.prog.info? 54).map (fun i => (i.zero, i.size, i.bytes)) = some (some (.agg #[.int .i64 0, .int .i64 0, .int .i64 0]), 3, 24) := by kernel_rfl
theorem infoStrS : (Tryz.prog.info? 9).map (fun i => (i.zero, i.size, i.bytes)) = some (some (.string ByteArray.empty), 1, 16) := by kernel_rfl
theorem info_of {e : TypeId} {z : Value} {s b : Nat} (h : (Tryz.prog.info? e).map (fun i => (i.zero, i.size, i.bytes)) = some (some z, s, b)) : ∃ i, Tryz.prog.info? e = some i ∧ i.zero = some z ∧ i.size = s ∧ i.bytes = b := by
  match hh : Tryz.prog.info? e, h with
  | some i, h => simp only [Option.map_some, Option.some.injEq, Prod.mk.injEq] at h; exact ⟨i, rfl, h.1, h.2.1, h.2.2⟩

set_option maxRecDepth 100000 in
set_option maxHeartbeats 1000000 in
theorem cloneX_any (v : Value) (xs : List VA) (w : World) (hX : RdX w v xs) (hl : xs.length * 24 ≤ 140737488355328) :
    Calls Tryz.prog 35 #[v] w fun e w' => ∃ v', e = .returned v' ∧ w'.ownsRow w.heap.size 54 3 v' xs.length (flatX xs) ∧ Below w.heap.size w w' := by
  have q39 : ∀ (w : World) (a : Option Addr) (n c n' c' : Nat), (binOp .eql 39 (.slice a n c) (.slice none n' c')).run Tryz.prog w = .ok (.bool a.isNone) w := fun w a n c n' c' => Lib.run_eql_slice_nil w _ _ a n c n' c' Tryz.underlying39
  rcases hX with ⟨rfl, h0, _⟩ | ⟨ad, c, rfl, h1, h2⟩
  · obtain rfl := List.length_eq_zero_iff.1 h0
    go_enter Tryz.func35, Tryz.ntmps35
    go_wp2
    go_ret
    exact ⟨_, rfl, World.ownsRow_nil _ _ _ _, Below.refl _ _⟩
  · have hX : RdX w (.slice (some ad) xs.length c) xs := Or.inr ⟨ad, c, rfl, h1, h2⟩
    obtain ⟨ix, hx0, hx1, hx2, hx3⟩ := info_of infoValue
    have HX0 := Lib.hid hx0; have HX1 := Lib.hid hx1; have HX2 := Lib.hid hx2; have HX3 := Lib.hid hx3
    have HW : Hid (Below w.heap.size w (w.alloc (.cells #[] 54))) := (Below.refl _ _).alloc (Nat.le_refl _) _
    have HE : Hid ((w.alloc (.cells #[] 54)).ownsRow w.heap.size 54 3 (.slice (some ⟨w.heap.size, 0, none⟩) 0 0) 0 []) := World.ownsRow_made w #[] 0 (Nat.le_refl _) (by unfold maxLen; omega) (by simp)
    have HI : Hid (Inn (w.alloc (.cells #[] 54)) 3 (.slice (some ad) xs.length c) xs.length (flatX xs)) := Inn.below hX HW.out
    clear hX h1 h2 hx0 hx1 hx2 hx3
    go_enter Tryz.func35, Tryz.ntmps35
    go_wp2_with (at_builtin; refine Ow.wpList_append rfl (.tmp 5) (.tmp 6) 39 rfl w.heap.size 54 ix _ 3 24 Tryz.underlying39 HX0.out HX1.out HX2.out HX3.out rfl (by decide) _ 0 [] rfl HE.out _ xs.length (flatX xs) rfl HI.out (flatX_vals xs) (by unfold maxLen; omega) (by omega) (by simp) ?_)
    intro v1 w1 ho1 hg1 _
    have ho1 : w1.ownsRow w.heap.size 54 3 v1 xs.length (flatX xs) := by simpa using ho1
    have HB1 : Hid (Below w.heap.size w w1) := HW.out.grown hg1 (by simp) (fun k hk => (HE.out.lt k hk).1)
    have HO1 := Lib.hid ho1
    clear ho1 hg1
    go_wp2
    go_ret
    exact ⟨_, rfl, HO1.out, HB1.out⟩

/-- three rows of one's own: values, what was raised, what was sent -/
structure Rows3 (B : Nat) (w : World) (xv rv sv : Value) (xs : List VA) (r s : List (List UInt8)) : Prop where
  x : w.ownsRow B 54 3 xv xs.length (flatX xs)
  r : w.ownsRow B 9 1 rv r.length (r.map bstr)
  s : w.ownsRow B 9 1 sv s.length (s.map bstr)
  xr : ∀ g, xv.ownBlock = some g → rv.ownBlock ≠ some g
  xs : ∀ g, xv.ownBlock = some g → sv.ownBlock ≠ some g
  rs : ∀ g, rv.ownBlock = some g → sv.ownBlock ≠ some g
theorem own_grown {w w' : World} {B : Nat} {e : TypeId} {size n : Nat} {v v' : Value} {xs : List Value} (h : w.ownsRow B e size v n xs) (hg : w.grownBy w' v'.ownBlock) (hne : ∀ g, v'.ownBlock = some g → v.ownBlock ≠ some g) : w'.ownsRow B e size v n xs := by
  refine h.kept hg ?_
  cases hv : v.ownBlock with
  | none => exact Or.inl rfl
  | some g => exact Or.inr (fun he => hne g he.symm hv)
theorem ne_symm {v v' : Value} (h : ∀ g, v.ownBlock = some g → v'.ownBlock ≠ some g) : ∀ g, v'.ownBlock = some g → v.ownBlock ≠ some g := fun g h1 h2 => h g h2 h1
theorem Rows3.below {B : Nat} {w w' : World} {xv rv sv : Value} {xs : List VA} {r s : List (List UInt8)} (h : Rows3 B w xv rv sv xs r s) (hb : Below w.heap.size w w') : Rows3 B w' xv rv sv xs r s :=
  ⟨own_below h.x hb, own_below h.r hb, own_below h.s hb, h.xr, h.xs, h.rs⟩
theorem Rows3.set {B : Nat} {w w' : World} {xv rv sv : Value} {xs xs' : List VA} {r s : List (List UInt8)} (h : Rows3 B w xv rv sv xs r s) (hx : w'.ownsRow B 54 3 xv xs'.length (flatX xs')) (hg : w.grownBy w' xv.ownBlock) : Rows3 B w' xv rv sv xs' r s :=
  ⟨hx, own_grown h.r hg h.xr, own_grown h.s hg h.xs, h.xr, h.xs, h.rs⟩
theorem new_ne {B : Nat} {w w' : World} {e : TypeId} {size n : Nat} {v v' u : Value} {xs : List Value} (h : w.ownsRow B e size u n xs) (hne : ∀ g, u.ownBlock = some g → v.ownBlock ≠ some g) (hob : (v'.ownBlock = v.ownBlock ∧ ∀ g, v'.ownBlock = some g → g < w'.heap.size) ∨ ∀ g, v'.ownBlock = some g → w.heap.size ≤ g ∧ g < w'.heap.size) : ∀ g, u.ownBlock = some g → v'.ownBlock ≠ some g := by
  intro g hu hv
  rcases hob with ⟨he, _⟩ | hf
  · rw [he] at hv; exact hne g hu hv
  · have := (hf g hv).1; have := (h.lt g hu).2; omega
theorem Rows3.raise {B : Nat} {w w' : World} {xv rv rv' sv : Value} {xs : List VA} {r s : List (List UInt8)} {n : List UInt8} (h : Rows3 B w xv rv sv xs r s) (ho : w'.ownsRow B 9 1 rv' (r.length + 1) (r.map bstr ++ [bstr n])) (hg : w.grownBy w' rv.ownBlock)
    (hob : (rv'.ownBlock = rv.ownBlock ∧ ∀ g, rv'.ownBlock = some g → g < w'.heap.size) ∨ ∀ g, rv'.ownBlock = some g → w.heap.size ≤ g ∧ g < w'.heap.size) : Rows3 B w' xv rv' sv xs (r ++ [n]) s :=
  ⟨own_grown h.x hg (ne_symm h.xr), by simpa using ho, own_grown h.s hg h.rs, new_ne h.x h.xr hob, h.xs, ne_symm (new_ne h.s (ne_symm h.rs) hob)⟩
theorem Rows3.send {B : Nat} {w w' : World} {xv rv sv' sv : Value} {xs : List VA} {r s : List (List UInt8)} {n : List UInt8} (h : Rows3 B w xv rv sv xs r s) (ho : w'.ownsRow B 9 1 sv' (s.length + 1) (s.map bstr ++ [bstr n])) (hg : w.grownBy w' sv.ownBlock)
    (hob : (sv'.ownBlock = sv.ownBlock ∧ ∀ g, sv'.ownBlock = some g → g < w'.heap.size) ∨ ∀ g, sv'.ownBlock = some g → w.heap.size ≤ g ∧ g < w'.heap.size) : Rows3 B w' xv rv sv' xs r (s ++ [n]) :=
  ⟨own_grown h.x hg (ne_symm h.xs), own_grown h.r hg (ne_symm h.rs), by simpa using ho, h.xr, new_ne h.x h.xs hob, new_ne h.r h.rs hob⟩

theorem results_tmp4 {fn : Func} {t u v s : Tmp} (h : fn.results = #[.tmp t, .tmp u, .tmp v, .tmp s]) (tmps : Array Value) (P : Program) (w : World) :
    (results fn tmps).run P w = .ok (.tuple #[tmps.getD t undef, tmps.getD u undef, tmps.getD v undef, tmps.getD s undef]) w := by
  simp [results, h]
/-- what Do comes to -/
def DoPost (d : DM) (w : World) (e : Ending) (w' : World) : Prop :=
  ∃ v1 v2 v3, e = .returned (.tuple #[v1, v2, v3, .bool d.ok]) ∧ Rows3 w.heap.size w' v1 v2 v3 d.xs d.r d.s ∧ Below w.heap.size w w'
/-- where the loop stands -/
structure DoI (vs : List VM) (al : List AM) (xs0 : List VA) (n k : Nat) (xs : List VA) (r s : List (List UInt8)) : Prop where
  le : k ≤ n
  xl : xs.length = xs0.length
  rl : r.length ≤ k
  sl : s.length ≤ k
  inl : ∀ x ∈ xs, inL x.a = true
  rest : doP vs (al.drop k) xs r s = doP vs al xs0 [] []
theorem doP_cons (vs : List VM) (a : AM) (al : List AM) (xs : List VA) (r s : List (List UInt8)) : doP vs (a :: al) xs r s =
    if a.kd = 1 then (match setP vs xs a with | some ys => doP vs al ys r s | none => ⟨xs, r ++ [wErr], s, false⟩)
    else if a.kd = 2 then doP vs al xs (r ++ [a.nm]) s
    else if a.kd = 3 then doP vs al xs r (s ++ [a.nm])
    else ⟨xs, r ++ [wErr], s, false⟩ := rfl
section
variable {vs : List VM} {al : List AM} {xs0 xs : List VA} {n k : Nat} {r s : List (List UInt8)}
theorem DoI.open (h : DoI vs al xs0 n k xs r s) (hn : al.length = n) (hk : k < n) {kd : Int} {nm : List UInt8} {ex : List CM} (ha : al[k]'(by omega) = ⟨kd, nm, ex⟩) : doP vs (⟨kd, nm, ex⟩ :: al.drop (k + 1)) xs r s = doP vs al xs0 [] [] := by
  rw [← h.rest, ← ha, ← List.drop_eq_getElem_cons]
theorem DoI.set (h : DoI vs al xs0 n k xs r s) (hn : al.length = n) (hk : k < n) {nm : List UInt8} {ex : List CM} (ha : al[k]'(by omega) = ⟨1, nm, ex⟩) {ys : List VA} (hs : setP vs xs ⟨1, nm, ex⟩ = some ys) : DoI vs al xs0 n (k + 1) ys r s := by
  have ho := h.open hn hk ha
  rw [doP_cons, if_pos rfl, hs] at ho
  exact ⟨hk, (set_len hs).trans h.xl, by have := h.rl; omega, by have := h.sl; omega, set_in h.inl hs, ho⟩
theorem DoI.setNo (h : DoI vs al xs0 n k xs r s) (hn : al.length = n) (hk : k < n) {nm : List UInt8} {ex : List CM} (ha : al[k]'(by omega) = ⟨1, nm, ex⟩) (hs : setP vs xs ⟨1, nm, ex⟩ = none) : doP vs al xs0 [] [] = ⟨xs, r ++ [wErr], s, false⟩ := by
  have ho := h.open hn hk ha
  rw [doP_cons, if_pos rfl, hs] at ho
  exact ho.symm
theorem DoI.raise (h : DoI vs al xs0 n k xs r s) (hn : al.length = n) (hk : k < n) {nm : List UInt8} {ex : List CM} (ha : al[k]'(by omega) = ⟨2, nm, ex⟩) : DoI vs al xs0 n (k + 1) xs (r ++ [nm]) s := by
  have ho := h.open hn hk ha
  rw [doP_cons, if_neg (by simp), if_pos rfl] at ho
  exact ⟨hk, h.xl, by have := h.rl; simp; omega, by have := h.sl; omega, h.inl, ho⟩
theorem DoI.send (h : DoI vs al xs0 n k xs r s) (hn : al.length = n) (hk : k < n) {nm : List UInt8} {ex : List CM} (ha : al[k]'(by omega) = ⟨3, nm, ex⟩) : DoI vs al xs0 n (k + 1) xs r (s ++ [nm]) := by
  have ho := h.open hn hk ha
  rw [doP_cons, if_neg (by simp), if_neg (by simp), if_pos rfl] at ho
  exact ⟨hk, h.xl, by have := h.rl; omega, by have := h.sl; simp; omega, h.inl, ho⟩
theorem DoI.none (h : DoI vs al xs0 n k xs r s) (hn : al.length = n) (hk : k < n) {kd : Int} {nm : List UInt8} {ex : List CM} (ha : al[k]'(by omega) = ⟨kd, nm, ex⟩) (h1 : kd ≠ 1) (h2 : kd ≠ 2) (h3 : kd ≠ 3) : doP vs al xs0 [] [] = ⟨xs, r ++ [wErr], s, false⟩ := by
  have ho := h.open hn hk ha
  rw [doP_cons, if_neg h1, if_neg h2, if_neg h3] at ho
  exact ho.symm
theorem DoI.done (h : DoI vs al xs0 n k xs r s) (hn : al.length = n) (hk : ¬ k < n) : doP vs al xs0 [] [] = ⟨xs, r, s, true⟩ := by
  rw [← h.rest, List.drop_of_length_le (by omega)]; rfl
end
theorem one_str (X : ByteArray) : ∀ u ∈ [Value.string X], u.oneCell' = true := by intro u hu; simp only [List.mem_cons, List.not_mem_nil, or_false] at hu; subst hu; rfl
theorem inn_one (w : World) (u : Value) (t : TypeId) {D : Nat} (hD : w.heap.size = D) : Inn (w.alloc (.cells #[u] t)) 1 (.slice (some ⟨D, 0, none⟩) 1 1) 1 [u] := hD ▸ Inn.of_own (Oz.own_laid (B := 0) (size := 1) w #[u] (Nat.zero_le _) (by decide) rfl)

set_option maxRecDepth 100000 in
set_option maxHeartbeats 16000000 in
theorem do_any (v vv xv : Value) (ps : List AP) (vs : List VM) (xs : List VA) (w : World) (hA : RdA w v ps) (hpl : ps.length * 48 ≤ 140737488355328) (hV : RdV w vv vs) (hvl : vs.length * 64 ≤ 140737488355328)
    (hX : RdX w xv xs) (hxl : xs.length * 24 ≤ 140737488355328) (hi : ∀ x ∈ xs, inL x.a = true) :
    Calls Tryz.prog 19 #[v, vv, xv] w (DoPost (doP vs (ps.map Prod.fst) xs [] []) w) := by
  have HC := Lib.hid (cloneX_any xv xs w hX hxl)
  obtain ⟨P, pc, rfl⟩ := hA.form
  obtain ⟨V, vc, rfl⟩ := hV.form
  obtain ⟨X, xc, rfl⟩ := RdX.form hX
  have HA0 : Hid (∀ W, Below w.heap.size w W → RdA W (.slice P ps.length pc) ps) := fun W hb => hA.below hb
  have HV0 : Hid (∀ W, Below w.heap.size w W → RdV W (.slice V vs.length vc) vs) := fun W hb => hV.below hb
  obtain ⟨is, hs0, hs1, hs2, hs3⟩ := info_of infoStrS
  have HS0 := Lib.hid hs0; have HS1 := Lib.hid hs1; have HS2 := Lib.hid hs2; have HS3 := Lib.hid hs3
  obtain ⟨n, hn⟩ : ∃ n, ps.length = n := ⟨_, rfl⟩
  have HL := Lib.hid hn
  have HN : Hid ((ps.map Prod.fst).length = n) := by rw [← hn]; exact List.length_map _
  have HI0 : Hid (DoI vs (ps.map Prod.fst) xs n 0 xs [] []) := ⟨by omega, rfl, Nat.le_refl _, Nat.le_refl _, hi, rfl⟩
  rw [hn] at hpl HA0 ⊢
  clear hs0 hs1 hs2 hs3 hA hV hX hn hi
  go_enter Tryz.func19, Tryz.ntmps19
  go_wp2_with fail
  go_step3
  go_wp2_with fail
  refine HC.out.mono ?_
  rintro e w0 ⟨x1, rfl, ho0, hb0⟩
  have HB0 := Lib.hid hb0
  have HR0 : Hid (Rows3 w.heap.size w0 x1 (.slice none 0 0) (.slice none 0 0) xs [] []) := ⟨ho0, World.ownsRow_nil _ _ _ _, World.ownsRow_nil _ _ _ _, (by intro g _ h; cases h), (by intro g _ h; cases h), (by intro g _ h; cases h)⟩
  clear ho0 hb0
  go_wp2
  go_step3
  go_wp2
  go_loopw [10, 11, 12, 19] (fun x10 x11 x12 x19 wr => ∃ (k : Nat) (ys : List VA) (r s : List (List UInt8)) (rv sv : Value), DoI vs (ps.map Prod.fst) xs n k ys r s ∧ Below w.heap.size w wr ∧ Rows3 w.heap.size wr x1 rv sv ys r s ∧ x10 = rv ∧ x11 = sv ∧ x12 = .int .i64 (k : Int) ∧ x19 = .int .i64 (k : Int)) (fun _ _ _ i _ => n - (intOf i).toNat)
  case atStart => exact ⟨0, xs, [], [], _, _, HI0.out, HB0.out, HR0.out, rfl, rfl, rfl, rfl⟩
  case round =>
    obtain ⟨k, ys, r, s, rv, sv, hI, hb, hR, hx10, hx11, rfl, rfl⟩ := hrel
    replace hx10 := hx10.symm
    replace hx11 := hx11.symm
    subst hx10 hx11
    obtain ⟨wl, hwl⟩ : ∃ W, W = wr := ⟨_, rfl⟩
    subst hwl
    have hk := hI.le
    have hrl := hI.rl
    have hsl := hI.sl
    have HI := Lib.hid hI
    have HBL := Lib.hid hb
    by_cases hkn : k < n
    · have HR' := HA0.out _ hb
      obtain ⟨b, o, rfl, hbl, hc0, hc1, hc2, hAR⟩ := HR'.at_ (k := k) (by rw [HL.out]; exact hkn)
      have ha : (ps.map Prod.fst)[k]'(by rw [HN.out]; exact hkn) = (ps[k]'(by rw [HL.out]; exact hkn)).1 := List.getElem_map _
      generalize ps[k]'(by rw [HL.out]; exact hkn) = p at *
      obtain ⟨⟨pk, pn, pe⟩, pv⟩ := p
      simp only at hc0 hc1 hc2 ha
      obtain ⟨N, hN, hNl⟩ := bstr_some pn
      rw [hN] at hc1
      subst hNl
      obtain ⟨hA1, hA2, _, hA4⟩ := hAR
      simp only at hA1 hA2 hA4
      have HA := Lib.hid ha
      have hset := fun W (hb : Below wl.heap.size wl W) => set_any pk N pv (.slice V vs.length vc) x1 pe vs ys w.heap.size W (hA1.below hb) hA2 ((HV0.out _ HBL.out).below hb) hvl (own_below hR.x hb) (by rw [hI.xl]; exact hxl) hI.inl
      have HCL : Hid (∀ W, Calls Tryz.prog 37 #[.string N] W fun e w' => e = .returned (.string N) ∧ Below W.heap.size W w') := fun W => clone_any N W (by rw [Lib.size_eq]; omega)
      obtain ⟨Ae, ce, rfl⟩ := hA1.slice
      obtain ⟨wm, hwm⟩ : ∃ W, W = wl.alloc (.cells #[.int .i64 pk, .string N, .slice Ae pe.length ce] 59) := ⟨_, rfl⟩
      have HB1 : Hid (Below w.heap.size w wm) := by rw [hwm]; exact HBL.out.alloc HBL.out.size _
      have HBM : Hid (Below wl.heap.size wl wm) := by rw [hwm]; exact (Below.refl _ _).alloc (Nat.le_refl _) _
      have HR1 : Hid (Rows3 w.heap.size wm x1 rv sv ys r s) := hR.below HBM.out
      have e0 : wm.cell? ⟨wl.heap.size, 0, none⟩ = some (.int .i64 pk) := by rw [hwm]; simp
      have e1 : wm.cell? ⟨wl.heap.size, 1, none⟩ = some (.string N) := by rw [hwm]; simp
      have e2 : wm.cell? ⟨wl.heap.size, 2, none⟩ = some (.slice Ae pe.length ce) := by rw [hwm]; simp
      have HSET := Lib.hid (hset wm HBM.out)
      have HWM := Lib.hid hwm
      clear hset hA1 hA2 hA4 hR hb HR' hI hwm
      by_cases h1 : pk = 1
      · subst h1
        cases hs : setP vs ys ⟨1, N.data.toList, pe⟩ with
        | some zs =>
          have HP := Lib.hid (HI.out.set HN.out (by exact hkn) HA.out hs)
          rw [hs] at HSET
          have HSET' : Hid (Calls Tryz.prog 36 #[.agg #[.int .i64 1, .string N, .slice Ae pe.length ce], .slice V vs.length vc, x1] wm fun e w' => e = .returned (.bool true) ∧ w'.ownsRow w.heap.size 54 3 x1 zs.length (flatX zs) ∧ wm.grownBy w' x1.ownBlock) := by
            refine HSET.out.mono ?_
            rintro e w' ⟨h1, h2, h3⟩
            rw [show ys.length = zs.length from (set_len hs).symm] at h2
            exact ⟨h1, h2, h3⟩
          clear hs HSET
          go_wp2_with fail
          rw [← HWM.out]
          refine HSET'.out.mono ?_
          rintro e w2 ⟨rfl, ho2, hg2⟩
          have HB2 := Lib.hid (HB1.out.grown hg2 HB1.out.size (fun q hq => (HR1.out.x.lt q hq).1))
          have HR2 := Lib.hid (HR1.out.set ho2 hg2)
          clear ho2 hg2
          go_wp2
          go_roundw
          case rel => exact ⟨_, _, _, _, _, _, HP.out, HB2.out, HR2.out, rfl, rfl, by go_num, by go_num⟩
          case measure => simp [intOf]; omega
        | none =>
          have HP := Lib.hid (HI.out.setNo HN.out (by exact hkn) HA.out hs)
          rw [hs] at HSET
          clear hs
          go_wp2_with fail
          rw [← HWM.out]
          refine HSET.out.mono ?_
          rintro e w2 ⟨rfl, ho2, hg2⟩
          have HB4 := Lib.hid (HB1.out.grown hg2 HB1.out.size (fun q hq => (HR1.out.x.lt q hq).1))
          have HR4 := Lib.hid (HR1.out.set ho2 hg2)
          clear ho2 hg2
          have HRE := Lib.hid (HR4.out.below ((Below.refl _ _).alloc (Nat.le_refl _) (.cells #[.string ⟨#[101, 114, 114, 111, 114]⟩] 9)))
          have HBE := Lib.hid (HB4.out.alloc HB4.out.size (.cells #[.string ⟨#[101, 114, 114, 111, 114]⟩] 9))
          go_wp2_with (at_builtin; refine Ow.wpList_append rfl (.tmp 56) (.tmp 57) 42 rfl w.heap.size 9 is _ 1 16 Tryz.underlying42 HS0.out HS1.out HS2.out HS3.out rfl (by decide) _ r.length (r.map bstr) rfl HRE.out.r _ 1 [.string ⟨#[101, 114, 114, 111, 114]⟩] rfl (inn_one _ _ _ (by simp)) (one_str _) (by unfold maxLen; omega) (by omega) HBE.out.size ?_)
          intro v5 w5 ho5 hg5 hob5
          have HB5 := Lib.hid (HBE.out.grown hg5 HBE.out.size (fun q hq => (HRE.out.r.lt q hq).1))
          have HR5 := Lib.hid (HRE.out.raise (n := wErr) ho5 hg5 (by simpa using hob5))
          clear ho5 hg5 hob5
          go_wp2
          simp only [Exit.noGoto_ret]; refine bodyPost_ret (results_tmp4 rfl _ _ _) rfl ?_
          exact ⟨_, _, _, by rw [HP.out]; rfl, by rw [HP.out]; exact HR5.out, HB5.out⟩
      · have h1' := int_ne h1
        by_cases h2 : pk = 2
        · subst h2
          have HP := Lib.hid (HI.out.raise HN.out (by exact hkn) HA.out)
          go_wp2_with fail
          rw [← HWM.out]
          refine (HCL.out _).mono ?_
          rintro e w2 ⟨rfl, hb2⟩
          have HB2 := Lib.hid (HB1.out.trans (hb2.mono HB1.out.size))
          have HRC := Lib.hid (HR1.out.below hb2)
          clear hb2
          have HRE := Lib.hid (HRC.out.below ((Below.refl _ _).alloc (Nat.le_refl _) (.cells #[.string N] 9)))
          have HBE := Lib.hid (HB2.out.alloc HB2.out.size (.cells #[.string N] 9))
          go_wp2_with (at_builtin; refine Ow.wpList_append rfl (.tmp 34) (.tmp 38) 42 rfl w.heap.size 9 is _ 1 16 Tryz.underlying42 HS0.out HS1.out HS2.out HS3.out rfl (by decide) _ r.length (r.map bstr) rfl HRE.out.r _ 1 [.string N] rfl (inn_one _ _ _ (by simp)) (one_str _) (by unfold maxLen; omega) (by omega) HBE.out.size ?_)
          intro v5 w5 ho5 hg5 hob5
          have HB5 := Lib.hid (HBE.out.grown hg5 HBE.out.size (fun q hq => (HRE.out.r.lt q hq).1))
          have HR5 := Lib.hid (HRE.out.raise (n := N.data.toList) (by rw [bstr_of]; exact ho5) hg5 (by simpa using hob5))
          clear ho5 hg5 hob5
          go_wp2
          go_roundw
          case rel => exact ⟨_, _, _, _, _, _, HP.out, HB5.out, HR5.out, rfl, rfl, by go_num, by go_num⟩
          case measure => simp [intOf]; omega
        · have h2' := int_ne h2
          by_cases h3 : pk = 3
          · subst h3
            have HP := Lib.hid (HI.out.send HN.out (by exact hkn) HA.out)
            go_wp2_with fail
            rw [← HWM.out]
            refine (HCL.out _).mono ?_
            rintro e w2 ⟨rfl, hb2⟩
            have HB2 := Lib.hid (HB1.out.trans (hb2.mono HB1.out.size))
            have HRC := Lib.hid (HR1.out.below hb2)
            clear hb2
            have HRE := Lib.hid (HRC.out.below ((Below.refl _ _).alloc (Nat.le_refl _) (.cells #[.string N] 9)))
            have HBE := Lib.hid (HB2.out.alloc HB2.out.size (.cells #[.string N] 9))
            go_wp2_with (at_builtin; refine Ow.wpList_append rfl (.tmp 42) (.tmp 46) 42 rfl w.heap.size 9 is _ 1 16 Tryz.underlying42 HS0.out HS1.out HS2.out HS3.out rfl (by decide) _ s.length (s.map bstr) rfl HRE.out.s _ 1 [.string N] rfl (inn_one _ _ _ (by simp)) (one_str _) (by unfold maxLen; omega) (by omega) HBE.out.size ?_)
            intro v5 w5 ho5 hg5 hob5
            have HB5 := Lib.hid (HBE.out.grown hg5 HBE.out.size (fun q hq => (HRE.out.s.lt q hq).1))
            have HR5 := Lib.hid (HRE.out.send (n := N.data.toList) (by rw [bstr_of]; exact ho5) hg5 (by simpa using hob5))
            clear ho5 hg5 hob5
            go_wp2
            go_roundw
            case rel => exact ⟨_, _, _, _, _, _, HP.out, HB5.out, HR5.out, rfl, rfl, by go_num, by go_num⟩
            case measure => simp [intOf]; omega
          · have h3' := int_ne h3
            have HP := Lib.hid (HI.out.none HN.out (by exact hkn) HA.out h1 h2 h3)
            have hwm := HWM.out
            clear HWM
            subst hwm
            have HB4 := HB1
            have HR4 := HR1
            have HRE := Lib.hid (HR4.out.below ((Below.refl _ _).alloc (Nat.le_refl _) (.cells #[.string ⟨#[101, 114, 114, 111, 114]⟩] 9)))
            have HBE := Lib.hid (HB4.out.alloc HB4.out.size (.cells #[.string ⟨#[101, 114, 114, 111, 114]⟩] 9))
            go_wp2_with (at_builtin; refine Ow.wpList_append rfl (.tmp 56) (.tmp 57) 42 rfl w.heap.size 9 is _ 1 16 Tryz.underlying42 HS0.out HS1.out HS2.out HS3.out rfl (by decide) _ r.length (r.map bstr) rfl HRE.out.r _ 1 [.string ⟨#[101, 114, 114, 111, 114]⟩] rfl (inn_one _ _ _ (by simp)) (one_str _) (by unfold maxLen; omega) (by omega) HBE.out.size ?_)
            intro v5 w5 ho5 hg5 hob5
            have HB5 := Lib.hid (HBE.out.grown hg5 HBE.out.size (fun q hq => (HRE.out.r.lt q hq).1))
            have HR5 := Lib.hid (HRE.out.raise (n := wErr) ho5 hg5 (by simpa using hob5))
            clear ho5 hg5 hob5
            go_wp2
            simp only [Exit.noGoto_ret]; refine bodyPost_ret (results_tmp4 rfl _ _ _) rfl ?_
            exact ⟨_, _, _, by rw [HP.out]; rfl, by rw [HP.out]; exact HR5.out, HB5.out⟩
    · have HP := Lib.hid (HI.out.done HN.out hkn)
      obtain rfl : k = n := by omega
      have HR1 := Lib.hid hR
      clear hR hb hI
      go_wp2
      simp only [Exit.noGoto_ret]; refine bodyPost_ret (results_tmp4 rfl _ _ _) rfl ?_
      exact ⟨_, _, _, by rw [HP.out]; rfl, by rw [HP.out]; exact HR1.out, HBL.out⟩
end Go.Proofs.YtjgfkmakfdepcaaGreatDoor
namespace Go.Proofs
open Go.Shelf
def Tryz.lays103_ren : Go.Shelf.Ren := ⟨fun | 103 => 59 | 210 => 87 | 206 => 115 | n => n, fun | 9 => 9 | 4 => 4 | 24 => 98 | 3 => 3 | n => n, fun | n => n⟩
theorem Tryz.lays103 : Go.Proofs.Lays.n103 Tryz.prog Tryz.lays103_ren := {
  mixed := by kernel_rfl
  f103 := Tryz.func59.trans (congrArg some (by kernel_rfl))
  f206 := Tryz.func115.trans (congrArg some (by kernel_rfl))
  f210 := Tryz.func87.trans (congrArg some (by kernel_rfl))
  t3 := Tryz.underlying3
  a3 := Tryz.isAgg3
  z3 := Tryz.sizeOf3
  v3 := Tryz.zeroValue3
  t4 := Tryz.underlying4
  a4 := Tryz.isAgg4
  z4 := Tryz.sizeOf4
  v4 := Tryz.zeroValue4
  t9 := Tryz.underlying9
  a9 := Tryz.isAgg9
  z9 := Tryz.sizeOf9
  v9 := Tryz.zeroValue9
  t24 := Tryz.underlying98
  a24 := Tryz.isAgg98
  z24 := Tryz.sizeOf98
  v24 := Tryz.zeroValue98 }
open Go.RowKit in
/-- strings.CutPrefix: "CutPrefix returns s without the provided leading prefix string and reports whether it found the prefix. If s doesn't start with prefix, CutPrefix returns s, false. If prefix is the empty string, CutPrefix returns s, true.": IT RETURNS '(Lib.trimPrefix s p, Lib.hasPrefix s p)'; the world is as it was. (LAID: no walk: one application.) -/
theorem Tryz.strings_CutPrefix (s p : ByteArray) (w : World) :
    Calls Tryz.prog 59 #[.string s, .string p] w fun e w' => e = .returned (.tuple #[.string ⟨(Lib.trimPrefix s.data.toList p.data.toList).toArray⟩, .bool (Lib.hasPrefix s.data.toList p.data.toList)]) ∧ w' = w := Any.strings_CutPrefix Tryz.lays103 s p w
def Tryz.lays145_ren : Go.Shelf.Ren := ⟨fun | 145 => 60 | 220 => 88 | 219 => 85 | 217 => 110 | 225 => 111 | 224 => 112 | 267 => 113 | 266 => 131 | 314 => 132 | n => n, fun | 9 => 9 | 4 => 4 | 59 => 100 | 3 => 3 | 5 => 5 | 46 => 164 | 146 => 182 | 51 => 181 | n => n, fun | 1 => 0 | n => n⟩
theorem Tryz.lays145 : Go.Proofs.Lays.n145 Tryz.prog Tryz.lays145_ren := {
  mixed := by kernel_rfl
  f145 := Tryz.func60.trans (congrArg some (by kernel_rfl))
  f217 := Tryz.func110.trans (congrArg some (by kernel_rfl))
  f219 := Tryz.func85.trans (congrArg some (by kernel_rfl))
  f220 := Tryz.func88.trans (congrArg some (by kernel_rfl))
  f224 := Tryz.func112.trans (congrArg some (by kernel_rfl))
  f225 := Tryz.func111.trans (congrArg some (by kernel_rfl))
  f266 := Tryz.func131.trans (congrArg some (by kernel_rfl))
  f267 := Tryz.func113.trans (congrArg some (by kernel_rfl))
  f314 := Tryz.func132.trans (congrArg some (by kernel_rfl))
  t3 := Tryz.underlying3
  a3 := Tryz.isAgg3
  z3 := Tryz.sizeOf3
  v3 := Tryz.zeroValue3
  t4 := Tryz.underlying4
  a4 := Tryz.isAgg4
  z4 := Tryz.sizeOf4
  v4 := Tryz.zeroValue4
  t5 := Tryz.underlying5
  a5 := Tryz.isAgg5
  z5 := Tryz.sizeOf5
  v5 := Tryz.zeroValue5
  t9 := Tryz.underlying9
  a9 := Tryz.isAgg9
  z9 := Tryz.sizeOf9
  v9 := Tryz.zeroValue9
  t46 := Tryz.underlying164
  a46 := Tryz.isAgg164
  z46 := Tryz.sizeOf164
  v46 := Tryz.zeroValue164
  t51 := Tryz.underlying181
  a51 := Tryz.isAgg181
  z51 := Tryz.sizeOf181
  v51 := Tryz.zeroValue181
  t59 := Tryz.underlying100
  a59 := Tryz.isAgg100
  z59 := Tryz.sizeOf100
  v59 := Tryz.zeroValue100
  t146 := Tryz.underlying182
  a146 := Tryz.isAgg182
  z146 := Tryz.sizeOf182
  v146 := Tryz.zeroValue182
  g1 := by kernel_rfl }
open Go.RowKit Go.Lib in
/-- strings.Cut: "Cut slices s around the first instance of sep, returning the text before and after sep. The found result reports whether sep appears in s. If sep does not appear in s, cut returns s, "", false.": IT RETURNS 'Lib.cut s sep'; the world is as it was but for the count of draws. (LAID: no walk: one application.) -/
theorem Tryz.strings_Cut (s sep : ByteArray) (m : Int) (w : World) (hs : s.size < 4294967281) (hm : w.cell? ⟨0, 0, none⟩ = some (.int .i64 m)) :
    Calls Tryz.prog 60 #[.string s, .string sep] w fun e w' => e = .returned (.tuple #[.string ⟨(Lib.cut s.data.toList sep.data.toList).1.toArray⟩, .string ⟨(Lib.cut s.data.toList sep.data.toList).2.1.toArray⟩, .bool (Lib.cut s.data.toList sep.data.toList).2.2]) ∧ ∃ n, w' = w.drewN n := Any.strings_Cut Tryz.lays145 s sep m w hs hm
def Tryz.lays138_ren : Go.Shelf.Ren := ⟨fun | 138 => 30 | 195 => 55 | 218 => 56 | 143 => 57 | 219 => 85 | 217 => 110 | 225 => 111 | 224 => 112 | 267 => 113 | 266 => 131 | 314 => 132 | n => n, fun | 9 => 9 | 3 => 3 | 4 => 4 | 5 => 5 | 0 => 0 | 46 => 164 | 146 => 182 | 51 => 181 | n => n, fun | 1 => 0 | n => n⟩
theorem Tryz.lays138 : Go.Proofs.Lays.n138 Tryz.prog Tryz.lays138_ren := {
  mixed := by kernel_rfl
  f138 := Tryz.func30.trans (congrArg some (by kernel_rfl))
  f143 := Tryz.func57.trans (congrArg some (by kernel_rfl))
  f195 := Tryz.func55.trans (congrArg some (by kernel_rfl))
  f217 := Tryz.func110.trans (congrArg some (by kernel_rfl))
  f218 := Tryz.func56.trans (congrArg some (by kernel_rfl))
  f219 := Tryz.func85.trans (congrArg some (by kernel_rfl))
  f224 := Tryz.func112.trans (congrArg some (by kernel_rfl))
  f225 := Tryz.func111.trans (congrArg some (by kernel_rfl))
  f266 := Tryz.func131.trans (congrArg some (by kernel_rfl))
  f267 := Tryz.func113.trans (congrArg some (by kernel_rfl))
  f314 := Tryz.func132.trans (congrArg some (by kernel_rfl))
  t0 := Tryz.underlying0
  a0 := Tryz.isAgg0
  z0 := Tryz.sizeOf0
  v0 := Tryz.zeroValue0
  t3 := Tryz.underlying3
  a3 := Tryz.isAgg3
  z3 := Tryz.sizeOf3
  v3 := Tryz.zeroValue3
  t4 := Tryz.underlying4
  a4 := Tryz.isAgg4
  z4 := Tryz.sizeOf4
  v4 := Tryz.zeroValue4
  t5 := Tryz.underlying5
  a5 := Tryz.isAgg5
  z5 := Tryz.sizeOf5
  v5 := Tryz.zeroValue5
  t9 := Tryz.underlying9
  a9 := Tryz.isAgg9
  z9 := Tryz.sizeOf9
  v9 := Tryz.zeroValue9
  t46 := Tryz.underlying164
  a46 := Tryz.isAgg164
  z46 := Tryz.sizeOf164
  v46 := Tryz.zeroValue164
  t51 := Tryz.underlying181
  a51 := Tryz.isAgg181
  z51 := Tryz.sizeOf181
  v51 := Tryz.zeroValue181
  t146 := Tryz.underlying182
  a146 := Tryz.isAgg182
  z146 := Tryz.sizeOf182
  v146 := Tryz.zeroValue182
  g1 := by kernel_rfl }
open Go.RowKit Go.Lib in
/-- strings.Count AT A substr OF ONE BYTE ('hp'): "Count counts the number of non-overlapping instances of substr in s.": IT RETURNS 'Lib.countByte s (that byte)'; the world is as it was. ✋ NO CONTRACT HERE YET at an empty substr (utf8.RuneCountInString) or at a longer one (a loop over strings.Index). (LAID: no walk: one application.) -/
theorem Tryz.strings_Count_one (s : ByteArray) (c : UInt8) (w : World) :
    Calls Tryz.prog 30 #[.string s, .string ⟨#[c]⟩] w fun e w' => e = .returned (.int .i64 (Lib.countByte s.data.toList c)) ∧ w' = w := Any.strings_Count_one Tryz.lays138 s c w
def Tryz.lays146_ren : Go.Shelf.Ren := ⟨fun | 146 => 31 | 221 => 58 | 268 => 86 | 138 => 30 | 143 => 57 | 195 => 55 | 197 => 114 | 218 => 56 | 219 => 85 | 260 => 133 | 217 => 110 | 225 => 111 | 224 => 112 | 267 => 113 | 266 => 131 | 314 => 132 | n => n, fun | 9 => 9 | 31 => 42 | 3 => 3 | 4 => 4 | 0 => 0 | 105 => 165 | 21 => 21 | 5 => 5 | 46 => 164 | 119 => 203 | 139 => 206 | 138 => 205 | 146 => 182 | 51 => 181 | n => n, fun | 1 => 0 | 3 => 2 | 4 => 3 | n => n⟩
theorem Tryz.lays146 : Go.Proofs.Lays.n146 Tryz.prog Tryz.lays146_ren := {
  mixed := by kernel_rfl
  f138 := Tryz.func30.trans (congrArg some (by kernel_rfl))
  f143 := Tryz.func57.trans (congrArg some (by kernel_rfl))
  f146 := Tryz.func31.trans (congrArg some (by kernel_rfl))
  f195 := Tryz.func55.trans (congrArg some (by kernel_rfl))
  f197 := Tryz.func114.trans (congrArg some (by kernel_rfl))
  f217 := Tryz.func110.trans (congrArg some (by kernel_rfl))
  f218 := Tryz.func56.trans (congrArg some (by kernel_rfl))
  f219 := Tryz.func85.trans (congrArg some (by kernel_rfl))
  f221 := Tryz.func58.trans (congrArg some (by kernel_rfl))
  f224 := Tryz.func112.trans (congrArg some (by kernel_rfl))
  f225 := Tryz.func111.trans (congrArg some (by kernel_rfl))
  f260 := Tryz.func133.trans (congrArg some (by kernel_rfl))
  f266 := Tryz.func131.trans (congrArg some (by kernel_rfl))
  f267 := Tryz.func113.trans (congrArg some (by kernel_rfl))
  f268 := Tryz.func86.trans (congrArg some (by kernel_rfl))
  f314 := Tryz.func132.trans (congrArg some (by kernel_rfl))
  t0 := Tryz.underlying0
  a0 := Tryz.isAgg0
  z0 := Tryz.sizeOf0
  v0 := Tryz.zeroValue0
  t3 := Tryz.underlying3
  a3 := Tryz.isAgg3
  z3 := Tryz.sizeOf3
  v3 := Tryz.zeroValue3
  t4 := Tryz.underlying4
  a4 := Tryz.isAgg4
  z4 := Tryz.sizeOf4
  v4 := Tryz.zeroValue4
  t5 := Tryz.underlying5
  a5 := Tryz.isAgg5
  z5 := Tryz.sizeOf5
  v5 := Tryz.zeroValue5
  t9 := Tryz.underlying9
  a9 := Tryz.isAgg9
  z9 := Tryz.sizeOf9
  v9 := Tryz.zeroValue9
  t21 := Tryz.underlying21
  a21 := Tryz.isAgg21
  z21 := Tryz.sizeOf21
  v21 := Tryz.zeroValue21
  t31 := Tryz.underlying42
  a31 := Tryz.isAgg42
  z31 := Tryz.sizeOf42
  v31 := Tryz.zeroValue42
  t46 := Tryz.underlying164
  a46 := Tryz.isAgg164
  z46 := Tryz.sizeOf164
  v46 := Tryz.zeroValue164
  t51 := Tryz.underlying181
  a51 := Tryz.isAgg181
  z51 := Tryz.sizeOf181
  v51 := Tryz.zeroValue181
  t105 := Tryz.underlying165
  a105 := Tryz.isAgg165
  z105 := Tryz.sizeOf165
  v105 := Tryz.zeroValue165
  t119 := Tryz.underlying203
  a119 := Tryz.isAgg203
  z119 := Tryz.sizeOf203
  t138 := Tryz.underlying205
  a138 := Tryz.isAgg205
  z138 := Tryz.sizeOf205
  v138 := Tryz.zeroValue205
  t139 := Tryz.underlying206
  a139 := Tryz.isAgg206
  z139 := Tryz.sizeOf206
  v139 := Tryz.zeroValue206
  t146 := Tryz.underlying182
  a146 := Tryz.isAgg182
  z146 := Tryz.sizeOf182
  v146 := Tryz.zeroValue182
  g1 := by kernel_rfl
  g3 := by kernel_rfl
  g4 := by kernel_rfl }
open Go.RowKit Go.Lib in
/-- strings.Split. (LAID: no walk: one application.) -/
theorem Tryz.strings_Split (s sep : ByteArray) (m : Int) (w : World) (hs : s.size < 4294967281) (hm : w.cell? ⟨0, 0, none⟩ = some (.int .i64 m)) (h1 : 1 ≤ sep.size) :
    Calls Tryz.prog 31 #[.string s, .string sep] w fun e w' =>
      e = .returned (.slice (some ⟨w.heap.size, 0, none⟩) (Lib.countB s sep + 1) (Lib.countB s sep + 1)) ∧ w' = w.alloc (.cells ((Lib.splitB sep 0 (Lib.countB s sep) s).map Value.string).toArray 9) := Any.strings_Split Tryz.lays146 (by kernel_rfl) s sep m w hs hm h1
end Go.Proofs
namespace Go.Proofs.YtjgfkmakfdepcaaGreatDoor
open Go.RowKit

theorem rIn_any (n : Int) (w : World) :
    Calls Tryz.prog 98 #[.int .i64 n] w fun e w' => e = .returned (.bool (inB n)) ∧ w = w' := by
  by_cases h1 : -1048576 ≤ n
  · by_cases h2 : n ≤ 1048576
    · have hL : inB n = true := decide_eq_true ⟨h1, h2⟩
      rw [hL]; clear hL
      go_enter Tryz.func98, Tryz.ntmps98
      go_wp2
      go_ret
      exact ⟨rfl, rfl⟩
    · have hL : inB n = false := decide_eq_false (fun h => h2 h.2)
      rw [hL]; clear hL
      go_enter Tryz.func98, Tryz.ntmps98
      go_wp2
      go_ret
      exact ⟨rfl, rfl⟩
  · have hL : inB n = false := decide_eq_false (fun h => h1 h.1)
    rw [hL]; clear hL
    go_enter Tryz.func98, Tryz.ntmps98
    go_wp2
    go_ret
    exact ⟨rfl, rfl⟩

/-- what is answered of a point -/
def outP (a b : Int) : Ending := if (inB a && inB b) = true then .returned (.tuple #[.agg #[.int .i64 a, .int .i64 b], .int .i64 0]) else .returned (.tuple #[.agg #[.int .i64 0, .int .i64 0], .int .i64 5])
theorem outP_form (a b : Int) : ∃ c1 c2 er, outP a b = .returned (.tuple #[.agg #[.int .i64 c1, .int .i64 c2], .int .i64 er]) := by
  unfold outP
  split
  · exact ⟨a, b, 0, rfl⟩
  · exact ⟨0, 0, 5, rfl⟩
theorem outP_pt (a b : Int) : ∃ c1 c2 er, outP a b = .returned (.tuple #[.agg #[.int .i64 c1, .int .i64 c2], .int .i64 er]) ∧ ((er = 0 ∧ ptE a b = (ptV c1 c2, 0)) ∨ (er ≠ 0 ∧ ptE a b = erV er)) := by
  unfold outP ptE
  split
  · exact ⟨a, b, 0, rfl, Or.inl ⟨rfl, rfl⟩⟩
  · exact ⟨0, 0, 5, rfl, Or.inr ⟨by decide, rfl⟩⟩

theorem bound_any (a b : Int) (w : World) :
    Calls Tryz.prog 176 #[.int .i64 a, .int .i64 b] w fun e w' => e = outP a b ∧ Below w.heap.size w w' := by
  cases ha : inB a with
  | false =>
    have HA := Lib.hid (fun W => rIn_any a W)
    rw [ha] at HA
    have HO : Hid (outP a b = .returned (.tuple #[.agg #[.int .i64 0, .int .i64 0], .int .i64 5])) := by show _ = _; unfold outP; rw [ha]; rfl
    generalize outP a b = R at *
    clear ha
    go_enter Tryz.func176, Tryz.ntmps176
    go_wp2_with (first | (go_at_call 98; refine (HA.out _).mono ?_; rintro e w1 ⟨rfl, rfl⟩))
    refine bodyPost_ret ?_ rfl ⟨HO.out.symm, ?_⟩
    · simp [results, Tryz.results176, go_sem]
    · exact (Below.refl _ _).alloc (Nat.le_refl _) _
  | true =>
    have HA := Lib.hid (fun W => rIn_any a W)
    have HB := Lib.hid (fun W => rIn_any b W)
    rw [ha] at HA
    cases hb : inB b with
    | false =>
      rw [hb] at HB
      have HO : Hid (outP a b = .returned (.tuple #[.agg #[.int .i64 0, .int .i64 0], .int .i64 5])) := by show _ = _; unfold outP; rw [ha, hb]; rfl
      generalize outP a b = R at *
      clear ha hb
      go_enter Tryz.func176, Tryz.ntmps176
      go_wp2_with fail
      refine (HA.out _).mono ?_
      rintro e w1 ⟨rfl, rfl⟩
      go_wp2_with fail
      refine (HB.out _).mono ?_
      rintro e w1 ⟨rfl, rfl⟩
      go_wp2
      refine bodyPost_ret ?_ rfl ⟨HO.out.symm, ?_⟩
      · simp [results, Tryz.results176, go_sem]
      · exact (Below.refl _ _).alloc (Nat.le_refl _) _
    | true =>
      rw [hb] at HB
      have HO : Hid (outP a b = .returned (.tuple #[.agg #[.int .i64 a, .int .i64 b], .int .i64 0])) := by show _ = _; unfold outP; rw [ha, hb]; rfl
      generalize outP a b = R at *
      clear ha hb
      go_enter Tryz.func176, Tryz.ntmps176
      go_wp2_with fail
      refine (HA.out _).mono ?_
      rintro e w1 ⟨rfl, rfl⟩
      go_wp2_with fail
      refine (HB.out _).mono ?_
      rintro e w1 ⟨rfl, rfl⟩
      go_wp2
      refine bodyPost_ret ?_ rfl ⟨HO.out.symm, ?_⟩
      · simp [results, Tryz.results176, go_sem]
      · exact (Below.refl _ _).alloc (Nat.le_refl _) _

/-- the result's variable of two parts, behind a call -/
theorem at2 {w : World} {D : Nat} {x0 x1 : Value} {t : TypeId} (h : w.heap[D]? = some (.cells #[x0, x1] t (0, 0))) :
    w.cell? ⟨D, 0, none⟩ = some x0 ∧ w.cell? ⟨D, 1, none⟩ = some x1 ∧ w.frozen? ⟨D, 0, none⟩ = false ∧ w.frozen? ⟨D, 1, none⟩ = false := by
  simp [World.cell?, World.frozen?, h]
theorem fwd2 {w W w1 : World} {D : Nat} {x0 x1 : Value} {t : TypeId} (hD : W.heap.size = D) (hW : Below w.heap.size w W)
    (hb1 : Below (W.alloc (.cells #[x0, x1] t)).heap.size (W.alloc (.cells #[x0, x1] t)) w1) :
    w1.heap[D]? = some (.cells #[x0, x1] t (0, 0)) ∧ Below w.heap.size w w1 := by
  refine ⟨?_, (hW.alloc hW.size _).trans (hb1.mono (Nat.le_trans hW.size (by simp)))⟩
  rw [hb1.block D (by rw [← hD]; simp), ← hD]
  exact heap_alloc_new W _
theorem fwd3 {w W w1 : World} {D : Nat} {x0 x1 x2 : Value} {t : TypeId} (hD : W.heap.size = D) (hW : Below w.heap.size w W)
    (hb1 : Below (W.alloc (.cells #[x0, x1, x2] t)).heap.size (W.alloc (.cells #[x0, x1, x2] t)) w1) :
    w1.heap[D]? = some (.cells #[x0, x1, x2] t (0, 0)) ∧ Below w.heap.size w w1 := by
  refine ⟨?_, (hW.alloc hW.size _).trans (hb1.mono (Nat.le_trans hW.size (by simp)))⟩
  rw [hb1.block D (by rw [← hD]; simp), ← hD]
  exact heap_alloc_new W _
theorem fin2 {w w1 : World} {D B : Nat} {x0 x1 : Value} {t : TypeId} (h : w1.heap[D]? = some (.cells #[x0, x1] t (0, 0))) (hB : B ≤ D) (hb : Below B w w1) (u0 u1 : Value) :
    (((w1.setCell ⟨D, 0, none⟩ u0).setCell ⟨D, 1, none⟩ u1).cell? ⟨D, 0, none⟩ = some u0 ∧
    ((w1.setCell ⟨D, 0, none⟩ u0).setCell ⟨D, 1, none⟩ u1).cell? ⟨D, 1, none⟩ = some u1) ∧
    Below B w ((w1.setCell ⟨D, 0, none⟩ u0).setCell ⟨D, 1, none⟩ u1) := by
  have h1 := heap_setCell_same _ _ 0 _ _ u0 h
  have h2 := heap_setCell_same _ _ 1 _ _ u1 h1
  obtain ⟨r0, r1, _⟩ := at2 (x0 := u0) (x1 := u1) h2
  exact ⟨⟨r0, r1⟩, (hb.setCell hB _).setCell hB _⟩

set_option maxHeartbeats 1000000 in
theorem rAdd_any (a b c d : Int) (w : World) (ha : inB a = true) (hb : inB b = true) (hc : inB c = true) (hd : inB d = true) :
    Calls Tryz.prog 150 #[.agg #[.int .i64 a, .int .i64 b], .agg #[.int .i64 c, .int .i64 d]] w fun e w' => e = outP (a + c) (b + d) ∧ Below w.heap.size w w' := by
  have ka := inB_iff.1 ha; have kb := inB_iff.1 hb; have kc := inB_iff.1 hc; have kd := inB_iff.1 hd
  have e0 : wrap64 (a + c) = a + c := wrap_id (by omega)
  have e1 : wrap64 (b + d) = b + d := wrap_id (by omega)
  have HS := Lib.hid (fun W => bound_any (a + c) (b + d) W)
  obtain ⟨c1, c2, er, ho⟩ := outP_form (a + c) (b + d)
  have HO := Lib.hid ho
  rw [ho] at HS ⊢
  clear ha hb hc hd ka kb kc kd ho
  go_enter Tryz.func150, Tryz.ntmps150
  go_wp2_with fail
  refine (HS.out _).mono ?_
  rintro e w1 ⟨rfl, hb1⟩
  obtain ⟨hh, hbw⟩ := fwd2 (show ((w.alloc _).alloc _).heap.size = w.heap.size + 1 + 1 by simp) (((Below.refl _ _).alloc (Nat.le_refl _) _).alloc (by simp) _) hb1
  obtain ⟨d0, d1, f0, f1⟩ := at2 hh
  clear hb1
  go_wp2
  obtain ⟨⟨r0, r1⟩, hbf⟩ := fin2 hh (by omega) hbw (.int .i64 c1) (.int .i64 c2)
  refine bodyPost_ret ?_ rfl ⟨rfl, hbf⟩
  simp [results, Tryz.results150, go_sem, r0, r1]

set_option maxHeartbeats 1000000 in
theorem rSub_any (a b c d : Int) (w : World) (ha : inB a = true) (hb : inB b = true) (hc : inB c = true) (hd : inB d = true) :
    Calls Tryz.prog 151 #[.agg #[.int .i64 a, .int .i64 b], .agg #[.int .i64 c, .int .i64 d]] w fun e w' => e = outP (a - c) (b - d) ∧ Below w.heap.size w w' := by
  have ka := inB_iff.1 ha; have kb := inB_iff.1 hb; have kc := inB_iff.1 hc; have kd := inB_iff.1 hd
  have e0 : wrap64 (a - c) = a - c := wrap_id (by omega)
  have e1 : wrap64 (b - d) = b - d := wrap_id (by omega)
  have HS := Lib.hid (fun W => bound_any (a - c) (b - d) W)
  obtain ⟨c1, c2, er, ho⟩ := outP_form (a - c) (b - d)
  have HO := Lib.hid ho
  rw [ho] at HS ⊢
  clear ha hb hc hd ka kb kc kd ho
  go_enter Tryz.func151, Tryz.ntmps151
  go_wp2_with fail
  refine (HS.out _).mono ?_
  rintro e w1 ⟨rfl, hb1⟩
  obtain ⟨hh, hbw⟩ := fwd2 (show ((w.alloc _).alloc _).heap.size = w.heap.size + 1 + 1 by simp) (((Below.refl _ _).alloc (Nat.le_refl _) _).alloc (by simp) _) hb1
  obtain ⟨d0, d1, f0, f1⟩ := at2 hh
  clear hb1
  go_wp2
  obtain ⟨⟨r0, r1⟩, hbf⟩ := fin2 hh (by omega) hbw (.int .i64 c1) (.int .i64 c2)
  refine bodyPost_ret ?_ rfl ⟨rfl, hbf⟩
  simp [results, Tryz.results151, go_sem, r0, r1]

set_option maxHeartbeats 1000000 in
theorem rMul_any (a b c d : Int) (w : World) (ha : inB a = true) (hb : inB b = true) (hc : inB c = true) (hd : inB d = true) :
    Calls Tryz.prog 152 #[.agg #[.int .i64 a, .int .i64 b], .agg #[.int .i64 c, .int .i64 d]] w fun e w' => e = outP (a * c - b * d) (a * d + b * c) ∧ Below w.heap.size w w' := by
  have ka := inB_iff.1 ha; have kb := inB_iff.1 hb; have kc := inB_iff.1 hc; have kd := inB_iff.1 hd
  have m1 := mul_bd ka kc; have m2 := mul_bd kb kd; have m3 := mul_bd ka kd; have m4 := mul_bd kb kc
  generalize hp1 : a * c = p1 at *
  generalize hp2 : b * d = p2 at *
  generalize hp3 : a * d = p3 at *
  generalize hp4 : b * c = p4 at *
  have e0 : wrap64 (p1) = p1 := wrap_id (by omega)
  have e1 : wrap64 (p2) = p2 := wrap_id (by omega)
  have e2 : wrap64 (p3) = p3 := wrap_id (by omega)
  have e3 : wrap64 (p4) = p4 := wrap_id (by omega)
  have e4 : wrap64 (p1 - p2) = p1 - p2 := wrap_id (by omega)
  have e5 : wrap64 (p3 + p4) = p3 + p4 := wrap_id (by omega)
  have HS := Lib.hid (fun W => bound_any (p1 - p2) (p3 + p4) W)
  obtain ⟨c1, c2, er, ho⟩ := outP_form (p1 - p2) (p3 + p4)
  have HO := Lib.hid ho
  rw [ho] at HS ⊢
  clear ha hb hc hd ka kb kc kd ho m1 m2 m3 m4
  go_enter Tryz.func152, Tryz.ntmps152
  go_wp2_with fail
  refine (HS.out _).mono ?_
  rintro e w1 ⟨rfl, hb1⟩
  obtain ⟨hh, hbw⟩ := fwd2 (show ((w.alloc _).alloc _).heap.size = w.heap.size + 1 + 1 by simp) (((Below.refl _ _).alloc (Nat.le_refl _) _).alloc (by simp) _) hb1
  obtain ⟨d0, d1, f0, f1⟩ := at2 hh
  clear hb1
  go_wp2
  obtain ⟨⟨r0, r1⟩, hbf⟩ := fin2 hh (by omega) hbw (.int .i64 c1) (.int .i64 c2)
  refine bodyPost_ret ?_ rfl ⟨rfl, hbf⟩
  simp [results, Tryz.results152, go_sem, r0, r1]
end Go.Proofs.YtjgfkmakfdepcaaGreatDoor
