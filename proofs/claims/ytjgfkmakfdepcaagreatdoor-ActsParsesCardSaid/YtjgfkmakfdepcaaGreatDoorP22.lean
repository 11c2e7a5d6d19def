/- Own texts, joined: A17, A10, A11, A19, FJ, FM, A22, A23. -/
import Derived.Test.YtjgfkmakfdepcaaGreatDoorP3
import Derived.Test.YtjgfkmakfdepcaaGreatDoorP8
import Derived.Test.YtjgfkmakfdepcaaGreatDoorP9
import Derived.Test.YtjgfkmakfdepcaaGreatDoorP11
import Derived.Test.YtjgfkmakfdepcaaGreatDoorP15
import Derived.Test.YtjgfkmakfdepcaaGreatDoorP16
import Derived.Test.YtjgfkmakfdepcaaGreatDoorP21
namespace Go.Proofs.YtjgfkmakfdepcaaGreatDoor
open Go.RowKit

instance : DecidableEq AM := fun x y => decidable_of_iff (x.kd = y.kd ∧ x.nm = y.nm ∧ x.ex = y.ex) (by cases x; cases y; simp)
theorem take_next {l m : List AM} {k : Nat} {a : AM} (h : l.take k = m.take k) (h1 : l[k]? = some a) (h2 : m[k]? = some a) : l.take (k + 1) = m.take (k + 1) := by
  obtain ⟨k1, e1⟩ := List.getElem?_eq_some_iff.1 h1
  obtain ⟨k2, e2⟩ := List.getElem?_eq_some_iff.1 h2
  rw [List.take_succ_eq_append_getElem k1, List.take_succ_eq_append_getElem k2, h, e1, e2]
theorem take_not {l m : List AM} {k : Nat} {a b : AM} (hne : a ≠ b) (h1 : l[k]? = some a) (h2 : m[k]? = some b) : decide (l = m) = false :=
  decide_eq_false (fun e => hne (by subst e; rw [h1] at h2; injection h2))
theorem quiet_ons {P : Program} {f : FuncId} {args : Array Value} {w : World} {a n : Nat} {v : Value} (h : Calls P f args (w.drewN (a + n)) fun e w' => e = .returned v ∧ ∃ r, w' = (w.drewN (a + n)).drewN r) :
    Calls P f args (w.drewN (a + n)) fun e w'' => e = .returned v ∧ ∃ m, w'' = w.drewN (a + m) := h.mono fun _ _ ⟨he, r, hr⟩ => ⟨he, n + r, by rw [hr, World.drewN_drewN, Nat.add_assoc]⟩
theorem fst_at {ps : List AP} {k : Nat} (h : k < ps.length) : (ps.map Prod.fst)[k]? = some ps[k].1 := by
  rw [List.getElem?_map, List.getElem?_eq_getElem h]; rfl

set_option maxRecDepth 100000 in
set_option maxHeartbeats 8000000 in
theorem aSame_any (va vb : Value) (ps qs : List AP) (w : World) (ha : RdA w va ps) (hb : RdA w vb qs) (hx : ps.length ≤ 140737488355328) :
    Calls Tryz.prog 17 #[va, vb] w fun e w' => e = .returned (.bool (decide (ps.map Prod.fst = qs.map Prod.fst))) ∧ ∃ n, w' = w.drewN n := by
  obtain ⟨A, c, rfl⟩ := ha.form
  obtain ⟨B, d, rfl⟩ := hb.form
  have HA := Lib.hid ha; have HB := Lib.hid hb; clear ha hb
  by_cases hlen : ps.length = qs.length
  · obtain ⟨n, hxl⟩ : ∃ n, ps.length = n := ⟨_, rfl⟩
    have hyl : qs.length = n := by omega
    rw [hxl] at hx
    have HXL := Lib.hid hxl; have HYL := Lib.hid hyl
    rw [hxl] at HA
    rw [hyl] at HB
    rw [hxl, hyl]
    clear hlen hxl hyl
    have hr : ∀ k, (ps.map Prod.fst).take k = (qs.map Prod.fst).take k → ¬ k < n → decide (ps.map Prod.fst = qs.map Prod.fst) = true := by
      intro k h hk
      rw [List.take_of_length_le (by rw [List.length_map, HXL.out]; omega), List.take_of_length_le (by rw [List.length_map, HYL.out]; omega)] at h
      exact decide_eq_true h
    have HR := Lib.hid hr; clear hr
    go_enter Tryz.func17, Tryz.ntmps17
    go_wp2
    go_loopw [4, 5] (fun x i wr => x = .bool false ∧ ∃ k m : Nat, k ≤ n ∧ Hid ((ps.map Prod.fst).take k = (qs.map Prod.fst).take k) ∧ wr = w.drewN m ∧ i = .int .i64 k) (fun _ i _ => n - (intOf i).toNat)
    case atStart => exact ⟨rfl, 0, 0, by omega, rfl, rfl, rfl⟩
    case round =>
      obtain ⟨rfl, k, m, hk, HT, rfl, rfl⟩ := hrel
      by_cases hkn : k < n
      · have hkx : k < ps.length := by rw [HXL.out]; exact hkn
        have hky : k < qs.length := by rw [HYL.out]; exact hkn
        obtain ⟨bA, oA, rfl, _, a0, a1, a2, hA⟩ := HA.out.at_ hkx
        obtain ⟨bB, oB, rfl, _, b0, b1, b2, hB⟩ := HB.out.at_ hky
        have hpx := fst_at hkx
        have hpy := fst_at hky
        generalize ps[k] = x at *
        generalize qs[k] = y at *
        obtain ⟨⟨xk, xn, xe⟩, xv⟩ := x
        obtain ⟨⟨yk, yn, ye⟩, yv⟩ := y
        simp only at a0 a1 a2 b0 b1 b2 hpx hpy
        obtain ⟨X, hX, hXl⟩ := bstr_some xn
        obtain ⟨Y, hY, hYl⟩ := bstr_some yn
        rw [hX] at a1
        rw [hY] at b1
        have hA1 := hA.rd
        have hA2 := hA.len
        have hB1 := hB.rd
        simp only at hA1 hA2 hB1
        clear hA hB
        obtain ⟨Ax, cx, rfl⟩ := hA1.slice
        obtain ⟨Ay, cy, rfl⟩ := hB1.slice
        have HCC : Hid (∀ q, Calls Tryz.prog 34 #[.slice Ax xe.length cx, .slice Ay ye.length cy] (w.drewN q) fun e w' => e = .returned (.bool (decide (xe = ye))) ∧ ∃ r, w' = (w.drewN q).drewN r) := fun q =>
          have hb := below_drewN (Below.refl w.heap.size w) q
          same_any _ _ xe ye _ (hA1.below hb).rd (hB1.below hb).rd (by omega)
        clear hA1 hB1
        by_cases h1 : xk = yk
        · subst h1
          by_cases h2 : xn = yn
          · subst h2
            obtain rfl : X = Y := str_eq (by rw [hXl, hYl])
            by_cases h3 : xe = ye
            · subst h3
              have HS := Lib.hid (take_next HT.out hpx hpy)
              rw [decide_eq_true rfl] at HCC
              clear hpx hpy hX hY hXl hYl
              go_wp2
              go_quiet ((go_at_call 34; exact quiet_ons (HCC.out _)))
              go_wp2
              go_roundw
              case rel => exact ⟨rfl, k + 1, m + nq, by omega, HS.out, rfl, by go_num⟩
              case measure => simp [intOf]; omega
            · have HD := Lib.hid (take_not (fun e => h3 (by injection e)) hpx hpy)
              rw [decide_eq_false h3] at HCC
              clear hpx hpy hX hY hXl hYl h3
              go_wp2
              go_quiet ((go_at_call 34; exact quiet_ons (HCC.out _)))
              go_wp2
              go_ret
              exact ⟨ret_bool HD.out.symm, m + nq, World.drewN_drewN _ _ _⟩
          · have HD := Lib.hid (take_not (fun e => h2 (by injection e)) hpx hpy)
            have hn0 : X.data.toList ≠ Y.data.toList := by rw [hXl, hYl]; exact h2
            have hne := str_ne hn0
            have hne' := str_ne (Ne.symm hn0)
            clear hpx hpy hX hY hXl hYl h2 HCC hn0
            go_wp2
            go_quiet (fail)
            go_wp2
            go_ret
            exact ⟨ret_bool HD.out.symm, m + nq, World.drewN_drewN _ _ _⟩
        · have HD := Lib.hid (take_not (fun e => h1 (by injection e)) hpx hpy)
          have h2 := int_ne h1
          have h3 := int_ne (Ne.symm h1)
          have h4 : (xk != yk) = true := bne_iff_ne.2 h1
          clear hpx hpy hX hY hXl hYl h1 HCC
          go_wp2
          go_quiet (fail)
          go_wp2
          go_ret
          exact ⟨ret_bool HD.out.symm, m + nq, World.drewN_drewN _ _ _⟩
      · have HD := Lib.hid (HR.out k HT.out hkn)
        go_wp2
        go_ret
        exact ⟨ret_bool HD.out.symm, m, rfl⟩
  · have hr : decide (ps.map Prod.fst = qs.map Prod.fst) = false := decide_eq_false (fun e => hlen (by have := congrArg List.length e; simpa using this))
    have hl' : ((ps.length : Int) == (qs.length : Int)) = false := beq_eq_false_iff_ne.2 (by omega)
    rw [hr]; clear hr hlen
    go_enter Tryz.func17, Tryz.ntmps17
    go_wp2
    go_ret
    exact ⟨rfl, 0, rfl⟩
end Go.Proofs.YtjgfkmakfdepcaaGreatDoor
namespace Go.Proofs.YtjgfkmakfdepcaaGreatDoor
open Go.RowKit

def wakeL : List AM := [⟨1, [120], [⟨5, 0, [120]⟩, ⟨1, 1, []⟩, ⟨11, 0, []⟩]⟩, ⟨3, [100, 111, 110, 101], []⟩]
def wakeV : List VM := [⟨[120], 1, 0, 9, 0, 0, 0⟩]
def wakeX : List VA := [⟨1, 3, 0⟩]
theorem parse_wake : parseA [120, 61, 120, 43, 49, 59, 115, 101, 110, 100, 58, 100, 111, 110, 101] = (wakeL, 0) := by kernel_rfl
theorem do_wake : doP wakeV wakeL wakeX [] [] = ⟨[⟨1, 4, 0⟩], [], [[100, 111, 110, 101]], true⟩ := by kernel_rfl

set_option maxRecDepth 100000 in
set_option maxHeartbeats 4000000 in
theorem wakes6_any (w : World) (hO : Ops w) (hM : ML w) :
    Calls Tryz.prog 12 #[] w fun e w' => e = .returned (.bool true) ∧ Below w.heap.size w w' := by
  have HP := Lib.hid (parseA_any ⟨#[120, 61, 120, 43, 49, 59, 115, 101, 110, 100, 58, 100, 111, 110, 101]⟩ w hO hM (by decide))
  clear hO hM
  go_enter Tryz.func12, Tryz.ntmps12
  go_wp2_with fail
  refine HP.out.mono ?_
  rintro e w1 ⟨v, ps, rfl, hps, hrow, hact, hb1⟩
  rw [show parseA (ByteArray.mk #[120, 61, 120, 43, 49, 59, 115, 101, 110, 100, 58, 100, 111, 110, 101]).data.toList = (wakeL, 0) from parse_wake] at hps ⊢
  simp only at hps ⊢
  have hl : ps.length = 2 := by have := congrArg List.length hps; rw [List.length_map] at this; exact this
  have hA : RdA w1 v ps := ⟨Inn.of_own hrow, hact⟩
  obtain ⟨A, c, rfl⟩ := hA.form
  rw [hl] at hA ⊢
  have HB2 : Hid (Below w.heap.size w ((w1.alloc (.cells #[.string ⟨#[120]⟩, .int .i64 1, .int .i64 0, .int .i64 9, .int .i64 0, .int .i64 0, .int .i64 0] 56)).alloc (.cells #[.int .i64 1, .int .i64 3, .int .i64 0] 54))) := (hb1.alloc hb1.size _).alloc (hb1.alloc hb1.size _).size _
  have HB2' : Hid (Below w1.heap.size w1 ((w1.alloc (.cells #[.string ⟨#[120]⟩, .int .i64 1, .int .i64 0, .int .i64 9, .int .i64 0, .int .i64 0, .int .i64 0] 56)).alloc (.cells #[.int .i64 1, .int .i64 3, .int .i64 0] 54))) := ((Below.refl _ _).alloc (Nat.le_refl _) _).alloc (by simp) _
  have hv : RdV (w1.alloc (.cells #[.string ⟨#[120]⟩, .int .i64 1, .int .i64 0, .int .i64 9, .int .i64 0, .int .i64 0, .int .i64 0] 56)) (.slice (some ⟨w1.heap.size, 0, none⟩) 1 1) wakeV := Inn.of_own (Oz.own_laid (B := 0) (size := 7) w1 #[.string ⟨#[120]⟩, .int .i64 1, .int .i64 0, .int .i64 9, .int .i64 0, .int .i64 0, .int .i64 0] (Nat.zero_le _) (by decide) rfl)
  have hv2 : RdV ((w1.alloc (.cells #[.string ⟨#[120]⟩, .int .i64 1, .int .i64 0, .int .i64 9, .int .i64 0, .int .i64 0, .int .i64 0] 56)).alloc (.cells #[.int .i64 1, .int .i64 3, .int .i64 0] 54)) (.slice (some ⟨w1.heap.size, 0, none⟩) 1 1) wakeV := hv.below ((Below.refl _ _).alloc (Nat.le_refl _) _)
  have hx2 : RdX ((w1.alloc (.cells #[.string ⟨#[120]⟩, .int .i64 1, .int .i64 0, .int .i64 9, .int .i64 0, .int .i64 0, .int .i64 0] 56)).alloc (.cells #[.int .i64 1, .int .i64 3, .int .i64 0] 54)) (.slice (some ⟨w1.heap.size + 1, 0, none⟩) 1 1) wakeX := by
    have := Inn.of_own (Oz.own_laid (B := 0) (e := 54) (n := 1) (size := 3) (w1.alloc (.cells #[.string ⟨#[120]⟩, .int .i64 1, .int .i64 0, .int .i64 9, .int .i64 0, .int .i64 0, .int .i64 0] 56)) #[.int .i64 1, .int .i64 3, .int .i64 0] (Nat.zero_le _) (by decide) rfl)
    rw [show (w1.alloc (.cells #[.string ⟨#[120]⟩, .int .i64 1, .int .i64 0, .int .i64 9, .int .i64 0, .int .i64 0, .int .i64 0] 56)).heap.size = w1.heap.size + 1 by simp] at this
    exact this
  have hdo := do_any (.slice A 2 c) _ _ ps wakeV wakeX _ (hA.below HB2'.out) (by omega) hv2 (by decide) hx2 (by decide) (by decide)
  rw [hps, do_wake] at hdo
  have HDO := Lib.hid hdo
  clear hA hrow hact hv hv2 hx2 hdo hps hl hb1
  go_wp2_with fail
  refine HDO.out.mono ?_
  rintro e w2 ⟨v1, v2, v3, rfl, hR, hb2⟩
  have HB3 := Lib.hid (HB2.out.trans (hb2.mono HB2.out.size))
  clear hb2
  have HX := hR.x; have HR := hR.r; have HS := hR.s
  clear hR
  obtain ⟨R1, rc, rfl⟩ := own_slice HR
  obtain ⟨S1, sc, rfl⟩ := own_slice HS
  obtain ⟨g, xc, rfl⟩ : ∃ g cap, v1 = .slice (some ⟨g, 0, none⟩) 1 cap := by
    rcases HX.2 with ⟨_, h0⟩ | ⟨g, cap, cur, h1, _⟩
    · cases h0
    · exact ⟨g, cap, h1⟩
  have hc1 : w2.cell? ⟨g, 1, none⟩ = some (.int .i64 4) := (HX.cellAt 1 (by decide)).trans rfl
  have HB4 : Hid (Below w.heap.size w (w2.alloc (.cells #[.string ⟨#[100, 111, 110, 101]⟩] 9))) := HB3.out.alloc HB3.out.size _
  have hc1' : (w2.alloc (.cells #[.string ⟨#[100, 111, 110, 101]⟩] 9)).cell? ⟨g, 1, none⟩ = some (.int .i64 4) := old_cell hc1
  have hsame := same2_any (.slice S1 1 sc) (.slice (some ⟨w2.heap.size, 0, none⟩) 1 1) [[100, 111, 110, 101]] [[100, 111, 110, 101]] (w2.alloc (.cells #[.string ⟨#[100, 111, 110, 101]⟩] 9)) (Inn.below (Inn.of_own HS) ((Below.refl _ _).alloc (Nat.le_refl _) _)) (inn_one _ _ _ rfl) (by decide)
  rw [decide_eq_true rfl] at hsame
  have HSA := Lib.hid hsame
  clear HX HR HS hsame hc1
  go_wp2_with fail
  refine HSA.out.mono ?_
  rintro e w3 ⟨rfl, q, rfl⟩
  have hc2 : ((w2.alloc (.cells #[.string ⟨#[100, 111, 110, 101]⟩] 9)).drewN q).cell? ⟨g, 1, none⟩ = some (.int .i64 4) := hc1'
  have HB5 := Lib.hid (below_drewN HB4.out q)
  clear hc1'
  go_wp2
  go_ret
  exact ⟨rfl, HB5.out⟩
end Go.Proofs.YtjgfkmakfdepcaaGreatDoor
namespace Go.Proofs.YtjgfkmakfdepcaaGreatDoor
open Go.RowKit

theorem flatA_set (v : Value) : ∀ (ps : List AP) (k : Nat) (h : k < ps.length), (flatA ps).set (k * 3 + 2) v = flatA (ps.set k (ps[k].1, v))
  | [], k, h => by simp at h
  | p :: r, 0, _ => rfl
  | p :: r, k + 1, h => by
    have ih := flatA_set v r k (by simpa using h)
    have e : (k + 1) * 3 + 2 = (k * 3 + 2) + 3 := by omega
    show ((actV p ++ flatA r).set ((k + 1) * 3 + 2) v) = actV p ++ flatA (r.set k ((p :: r)[k + 1].1, v))
    rw [e]
    show actV p ++ (flatA r).set (k * 3 + 2) v = _
    rw [ih]; rfl

structure CoI (ps : List AP) (w wr : World) (v : Value) (k : Nat) (qs : List AP) : Prop where
  le : k ≤ ps.length
  len : qs.length = ps.length
  eq : qs.map Prod.fst = ps.map Prod.fst
  rest : ∀ j, k ≤ j → qs[j]? = ps[j]?
  row : wr.ownsRow w.heap.size 59 3 v ps.length (flatA qs)
  act : ∀ j p, j < k → qs[j]? = some p → ActO w.heap.size wr p ∧ ∀ g, v.ownBlock = some g → p.2.ownBlock ≠ some g
  below : Below w.heap.size w wr
theorem CoI.put {ps qs : List AP} {w wr w2 : World} {g n cap k : Nat} {v' : Value} (hn : ps.length = n) (h : CoI ps w wr (.slice (some ⟨g, 0, none⟩) n cap) k qs) (hk : k < n) (hb : Below wr.heap.size wr w2) (hr : w2.ownsRow wr.heap.size 93 3 v' (ps[k]'(by omega)).1.ex.length (flat (ps[k]'(by omega)).1.ex)) (hA : ActR w (ps[k]'(by omega))) :
    CoI ps w (w2.setCell ⟨g, k * 3 + 2, none⟩ v') (.slice (some ⟨g, 0, none⟩) n cap) (k + 1) (qs.set k ((ps[k]'(by omega)).1, v')) := by
  subst hn
  have hkq : k < qs.length := by rw [h.len]; exact hk
  have hqk : qs[k] = ps[k] := by
    have := h.rest k (Nat.le_refl _)
    rw [List.getElem?_eq_getElem hkq, List.getElem?_eq_getElem hk] at this
    exact Option.some.inj this
  have hs := h.below.size
  have hgl := h.row.lt g rfl
  have hrow := own_set (own_below h.row hb) (k * 3 + 2) v'
  rw [flatA_set v' qs k hkq, hqk] at hrow
  have hb3 : Below w.heap.size w (w2.setCell ⟨g, k * 3 + 2, none⟩ v') := ((h.below.trans (hb.mono hs))).setCell hgl.1 _
  have hfar : ∀ q, v'.ownBlock = some q → g ≠ q := fun q hq => by have := (hr.lt q hq).1; omega
  have hgr : w2.grownBy (w2.setCell ⟨g, k * 3 + 2, none⟩ v') (some g) := Lib.grownBy_setB (World.grownBy.refl w2 (some g)) _ _
  refine ⟨hk, by rw [List.length_set]; exact h.len, ?_, ?_, hrow, ?_, hb3⟩
  · rw [List.map_set, h.eq]
    have e : ps[k].1 = (ps.map Prod.fst)[k]'(by simpa using hk) := by simp
    rw [show ((ps[k].1, v') : AP).1 = ps[k].1 from rfl, e]
    exact List.set_getElem_self _
  · intro j hj
    rw [List.getElem?_set_ne (by omega)]
    exact h.rest j (by omega)
  · intro j p hj hp
    by_cases e : j = k
    · subst e
      rw [List.getElem?_set_self hkq] at hp
      cases hp
      refine ⟨⟨(own_lower hr hs).kept hgr ?_, hA.len, hA.names, hA.name⟩, fun q hq hv => ?_⟩
      · cases hv : v'.ownBlock with
        | none => exact Or.inl rfl
        | some q => exact Or.inr (fun he => hfar q hv (Option.some.inj he).symm)
      · simp only [Value.ownBlock, Option.some.injEq] at hq
        exact hfar q hv hq
    · rw [List.getElem?_set_ne (fun h => e h.symm)] at hp
      obtain ⟨h1, h2⟩ := h.act j p (by omega) hp
      refine ⟨⟨(own_below h1.own hb).kept hgr ?_, h1.len, h1.names, h1.name⟩, h2⟩
      cases hv : p.2.ownBlock with
      | none => exact Or.inl rfl
      | some q => exact Or.inr (fun he => h2 g rfl (hv.trans he))

end Go.Proofs.YtjgfkmakfdepcaaGreatDoor
namespace Go.Proofs.YtjgfkmakfdepcaaGreatDoor
open Go.RowKit

theorem any_take {α : Type} {p : α → Bool} {l : List α} {k : Nat} (hk : k < l.length) (h : (l.take k).any p = false) : (l.take (k + 1)).any p = p l[k] := by
  rw [List.take_succ_eq_append_getElem hk, List.any_append, h]; simp
theorem any_hit {α : Type} {p : α → Bool} {l : List α} {k : Nat} (hk : k < l.length) (h : p l[k] = true) : l.any p = true :=
  List.any_eq_true.2 ⟨_, List.getElem_mem hk, h⟩
theorem any_end {α : Type} {p : α → Bool} {l : List α} {k : Nat} (hk : ¬ k < l.length) (h : (l.take k).any p = false) : l.any p = false := by
  rw [List.take_of_length_le (by omega)] at h; exact h

set_option maxRecDepth 100000 in
set_option maxHeartbeats 2000000 in
theorem refAsks_any (v : Value) (cs : List CM) (w : World) (hR : RdC w v cs) (hl : cs.length ≤ 4611686018427387904) :
    Calls Tryz.prog 53 #[v] w fun e w' => e = .returned (.bool (asksB cs)) ∧ w' = w := by
  obtain ⟨A, c, rfl⟩ := hR.form
  have HR := Lib.hid hR; clear hR
  obtain ⟨n, hn⟩ : ∃ n, cs.length = n := ⟨_, rfl⟩
  have HN := Lib.hid hn
  rw [hn] at hl HR ⊢
  clear hn
  go_enter Tryz.func53, Tryz.ntmps53
  go_wp2
  go_loopw [2, 3] (fun x i wr => x = .bool false ∧ ∃ k : Nat, k ≤ n ∧ Hid ((cs.take k).any isIn = false) ∧ wr = w ∧ i = .int .i64 k) (fun _ i _ => n - (intOf i).toNat)
  case atStart => exact ⟨rfl, 0, by omega, rfl, rfl, rfl⟩
  case round =>
    obtain ⟨rfl, k, hk, HT, hw, rfl⟩ := hrel
    replace hw := hw.symm
    subst hw
    by_cases hkn : k < n
    · have hkc : k < cs.length := by rw [HN.out]; exact hkn
      obtain ⟨b, o, rfl, c0, _, _⟩ := HR.out.at_ hkc
      have hat := any_take hkc HT.out
      have hhit := any_hit (p := isIn) hkc
      generalize cs[k] = x at *
      by_cases h6 : x.op = 6
      · have hL : asksB cs = true := hhit (decide_eq_true h6)
        have HL := Lib.hid hL
        rw [h6] at c0
        clear hat hhit h6 hL
        go_wp2
        go_ret
        exact ⟨ret_bool HL.out.symm, rfl⟩
      · have HL : Hid ((cs.take (k + 1)).any isIn = false) := hat.trans (decide_eq_false h6)
        have h6' := int_ne h6
        clear hat hhit
        go_wp2
        go_roundw
        case rel => exact ⟨rfl, k + 1, by omega, HL.out, (by first | exact trivial | rfl), by go_num⟩
        case measure => simp [intOf]; omega
    · have HL : Hid (asksB cs = false) := any_end (by rw [HN.out]; exact hkn) HT.out
      go_wp2
      go_ret
      exact ⟨ret_bool HL.out.symm, rfl⟩

set_option maxRecDepth 100000 in
set_option maxHeartbeats 4000000 in
theorem refOne_any (k : Int) (X : ByteArray) (v : Value) (cs : List CM) (w : World) (hR : RdI w v cs) (hl : cs.length * 32 ≤ 140737488355328) (hN : Names cs) (hX : X.size ≤ 281474976710656) :
    Calls Tryz.prog 29 #[.agg #[.int .i64 k, .string X, v]] w fun e w' => e = .returned (.bool (oneB ⟨k, X.data.toList, cs⟩)) ∧ Below w.heap.size w w' := by
  have HC0 : Hid (∀ W, Below w.heap.size w W → Calls Tryz.prog 44 #[v] W fun e w' => e = .returned (.bool (rightB cs)) ∧ Below W.heap.size W w') := fun W hb => refRight_any v cs W (hR.below hb).rd (by omega) hN
  have HC1 : Hid (∀ W, Below w.heap.size w W → Calls Tryz.prog 53 #[v] W fun e w' => e = .returned (.bool (asksB cs)) ∧ w' = W) := fun W hb => refAsks_any v cs W (hR.below hb).rd (by omega)
  have HN := Lib.hid (refName_any X)
  have HE := Lib.hid (fun W => refEvent_any X W hX)
  obtain ⟨A, c, rfl⟩ := hR.slice
  have HB0 : Hid (Below w.heap.size w (w.alloc (.cells #[.int .i64 k, .string X, .slice A cs.length c] 59))) := (Below.refl _ _).alloc (Nat.le_refl _) _
  have d2 : (w.alloc (.cells #[.int .i64 k, .string X, .slice A cs.length c] 59)).cell? ⟨w.heap.size, 2, none⟩ = some (.slice A cs.length c) := by simp
  have hlen : (cs.length : Int) ≤ 4398046511104 := by omega
  have HBA : Hid (∀ o : Obj, Below w.heap.size w (w.alloc o)) := fun o => (Below.refl _ _).alloc (Nat.le_refl _) o
  clear hR hl hN
  by_cases h1 : k = 1
  · subst h1
    cases hn : nameB X.data.toList with
    | false =>
      have hL : Hid (oneB ⟨1, X.data.toList, cs⟩ = false) := by show oneB _ = false; unfold oneB; rw [if_pos rfl]; simp only [hn]; rfl
      have HH := Lib.hid hn; clear hn
      go_enter Tryz.func29, Tryz.ntmps29
      go_wp2_with fail
      refine (HN.out _).mono ?_
      rintro e w1 ⟨rfl, rfl⟩
      rw [HH.out]
      go_wp2
      go_ret
      exact ⟨by rw [hL.out]; rfl, HB0.out⟩
    | true =>
      have HH := Lib.hid hn
      cases hr : rightB cs with
      | false =>
        have hL : Hid (oneB ⟨1, X.data.toList, cs⟩ = false) := by show oneB _ = false; unfold oneB; rw [if_pos rfl]; simp only [hr, Bool.and_false, Bool.false_and]
        have HH2 := Lib.hid hr; clear hr hn
        go_enter Tryz.func29, Tryz.ntmps29
        go_wp2_with fail
        refine (HN.out _).mono ?_
        rintro e w1 ⟨rfl, rfl⟩
        rw [HH.out]
        go_wp2_with fail
        refine (HC0.out _ HB0.out).mono ?_
        rintro e w2 ⟨rfl, hb2⟩
        rw [HH2.out]
        have HB2 := Lib.hid (HB0.out.trans (hb2.mono HB0.out.size)); clear hb2
        go_wp2
        go_ret
        exact ⟨by rw [hL.out]; rfl, HB2.out⟩
      | true =>
        have hL : Hid (oneB ⟨1, X.data.toList, cs⟩ = !asksB cs) := by show oneB _ = _; unfold oneB; rw [if_pos rfl]; simp only [hr, hn, Bool.true_and]
        have HH2 := Lib.hid hr; clear hr hn
        go_enter Tryz.func29, Tryz.ntmps29
        go_wp2_with fail
        refine (HN.out _).mono ?_
        rintro e w1 ⟨rfl, rfl⟩
        rw [HH.out]
        go_wp2_with fail
        refine (HC0.out _ HB0.out).mono ?_
        rintro e w2 ⟨rfl, hb2⟩
        rw [HH2.out]
        have HB2 := Lib.hid (HB0.out.trans (hb2.mono HB0.out.size))
        have e2 := (hb2.cell (by simp)).trans d2
        clear hb2
        go_wp2_with fail
        refine (HC1.out _ HB2.out).mono ?_
        rintro e w3 ⟨rfl, hw3⟩
        obtain rfl := hw3.symm
        go_wp2
        go_ret
        exact ⟨by rw [hL.out]; rfl, HB2.out⟩
  · have h1' := int_ne h1
    by_cases h23 : k = 2 ∨ k = 3
    · cases he : eventB X.data.toList with
      | false =>
        have hL : Hid (oneB ⟨k, X.data.toList, cs⟩ = false) := by show oneB _ = false; unfold oneB; rw [if_neg h1, if_pos h23]; simp only [he]; rfl
        have HH := Lib.hid he; clear he
        rcases h23 with rfl | rfl
        all_goals
          go_enter Tryz.func29, Tryz.ntmps29
          go_wp2_with fail
          refine (HE.out _).mono ?_
          rintro e w1 ⟨rfl, rfl⟩
          rw [HH.out]
          go_wp2
          go_ret
          exact ⟨by rw [hL.out]; rfl, HB0.out⟩
      | true =>
        have hL : Hid (oneB ⟨k, X.data.toList, cs⟩ = decide (cs.length = 0)) := by show oneB _ = _; unfold oneB; rw [if_neg h1, if_pos h23]; simp only [he, Bool.true_and]
        have HH := Lib.hid he; clear he
        by_cases h0 : cs.length = 0
        · have HL : Hid (oneB ⟨k, X.data.toList, cs⟩ = true) := hL.out.trans (decide_eq_true h0)
          have h0' : ((cs.length : Int) == 0) = true := by simp [h0]
          rcases h23 with rfl | rfl
          all_goals
            go_enter Tryz.func29, Tryz.ntmps29
            go_wp2_with fail
            refine (HE.out _).mono ?_
            rintro e w1 ⟨rfl, rfl⟩
            rw [HH.out]
            go_wp2
            go_ret
            exact ⟨ret_bool HL.out.symm, HBA.out _⟩
        · have HL : Hid (oneB ⟨k, X.data.toList, cs⟩ = false) := hL.out.trans (decide_eq_false h0)
          have h0' : ((cs.length : Int) == 0) = false := int_ne (by omega)
          rcases h23 with rfl | rfl
          all_goals
            go_enter Tryz.func29, Tryz.ntmps29
            go_wp2_with fail
            refine (HE.out _).mono ?_
            rintro e w1 ⟨rfl, rfl⟩
            rw [HH.out]
            go_wp2
            go_ret
            exact ⟨ret_bool HL.out.symm, HB0.out⟩
    · have HL : Hid (oneB ⟨k, X.data.toList, cs⟩ = false) := by show oneB _ = false; unfold oneB; rw [if_neg h1, if_neg h23]
      have h2' := int_ne (fun h => h23 (Or.inl h) : ¬ k = 2)
      have h3' := int_ne (fun h => h23 (Or.inr h) : ¬ k = 3)
      go_enter Tryz.func29, Tryz.ntmps29
      go_wp2
      go_ret
      exact ⟨ret_bool HL.out.symm, HB0.out⟩
end Go.Proofs.YtjgfkmakfdepcaaGreatDoor
namespace Go.Proofs.YtjgfkmakfdepcaaGreatDoor
open Go.RowKit

theorem cells3_at {w : World} {b : Nat} {x y z : Value} {t : TypeId} (h : w.heap[b]? = some (.cells #[x, y, z] t (0, 0))) : w.cell? ⟨b, 0, none⟩ = some x ∧ w.cell? ⟨b, 1, none⟩ = some y ∧ w.cell? ⟨b, 2, none⟩ = some z :=
  ⟨(cell_of_row w b 0 _ _ _ h).trans rfl, (cell_of_row w b 1 _ _ _ h).trans rfl, (cell_of_row w b 2 _ _ _ h).trans rfl⟩
def ToldPost (x : List UInt8) (w : World) (e : Ending) (w' : World) : Prop := e = .returned (bstr x) ∧ Below w.heap.size w w'
theorem ToldPost.of {x : List UInt8} {w w' : World} {X : ByteArray} (hX : X = ⟨x.toArray⟩) (hb : Below w.heap.size w w') : ToldPost x w (.returned (.string X)) w' := by subst hX; exact ⟨rfl, hb⟩
theorem sg_bin {k : Nat} (hk : k < 13) (W : World) : Calls Tryz.prog 76 #[.int .i64 ((k : Int) + 11)] W fun x w' => x = .returned (.tuple #[.string ⟨(tabAt k).2.1.toArray⟩, .int .i64 (tabAt k).2.2]) ∧ Below W.heap.size W w' := by
  have h := sign_any (k + 11) (by omega) W
  have e1 : sgT (k + 11) = (tabAt k).2.1 := by unfold sgT; rw [if_neg (by omega), if_neg (by omega), if_neg (by omega), Nat.add_sub_cancel]
  have e2 : pwT (k + 11) = (tabAt k).2.2 := by unfold pwT; rw [if_neg (by omega), if_neg (by omega), if_neg (by omega), Nat.add_sub_cancel]
  unfold SignPost at h
  rw [e1, e2, show ((k + 11 : Nat) : Int) = (k : Int) + 11 by omega] at h
  exact h

end Go.Proofs.YtjgfkmakfdepcaaGreatDoor
namespace Go.Proofs.YtjgfkmakfdepcaaGreatDoor
open Go.RowKit

/-- where the cells of a tree stand in a list -/
def Sits (cs : List CM) (p : Nat) (t : T) : Prop := ∃ A B, cs = A ++ post t ++ B ∧ A.length = p
theorem Sits.le {cs : List CM} {p : Nat} {t : T} (h : Sits cs p t) : p + (post t).length ≤ cs.length := by
  obtain ⟨A, B, rfl, rfl⟩ := h; rw [List.length_append, List.length_append]; omega
theorem Sits.un {cs : List CM} {p : Nat} {o : Int} {t : T} (h : Sits cs p (.un o t)) : Sits cs p t := by
  obtain ⟨A, B, rfl, rfl⟩ := h
  exact ⟨A, opC o :: B, by simp [post], rfl⟩
theorem Sits.left {cs : List CM} {p : Nat} {o : Int} {l r : T} (h : Sits cs p (.bin o l r)) : Sits cs p l := by
  obtain ⟨A, B, rfl, rfl⟩ := h
  exact ⟨A, post r ++ opC o :: B, by simp [post], rfl⟩
theorem Sits.right {cs : List CM} {p : Nat} {o : Int} {l r : T} (h : Sits cs p (.bin o l r)) : Sits cs (p + (post l).length) r := by
  obtain ⟨A, B, rfl, rfl⟩ := h
  exact ⟨A ++ post l, opC o :: B, by simp [post], by simp⟩
def lastC : T → CM
  | .leaf c => c
  | .un o _ => opC o
  | .bin o _ _ => opC o
theorem Sits.last {cs : List CM} {p : Nat} {t : T} (h : Sits cs p t) : cs[p + (post t).length - 1]? = some (lastC t) := by
  obtain ⟨A, B, rfl, rfl⟩ := h
  cases t with
  | leaf c => simp [post, lastC]
  | un o t =>
    have e : A.length + (post (.un o t)).length - 1 = (A ++ post t).length := by simp [post]
    rw [e, show A ++ post (.un o t) ++ B = (A ++ post t) ++ (opC o :: B) by simp [post]]
    simp [lastC]
  | bin o l r =>
    have e : A.length + (post (.bin o l r)).length - 1 = (A ++ post l ++ post r).length := by simp [post]; omega
    rw [e, show A ++ post (.bin o l r) ++ B = (A ++ post l ++ post r) ++ (opC o :: B) by simp [post]]
    simp [lastC]

end Go.Proofs.YtjgfkmakfdepcaaGreatDoor
namespace Go.Proofs.YtjgfkmakfdepcaaGreatDoor
open Go.RowKit

theorem starts_any (s p : ByteArray) (w : World) (_ : s.size ≤ 281474976710656) (_ : p.size ≤ 100) :
    Calls Tryz.prog 62 #[.string s, .string p] w fun e w' => e = .returned (.bool (Lib.hasPrefix s.data.toList p.data.toList)) ∧ w' = w := by
  by_cases h : p.size ≤ s.size
  · have h' : (p.size : Int) ≤ (s.size : Int) := by omega
    go_enter Tryz.func62, Tryz.ntmps62
    go_wp2
    go_ret
    refine ⟨?_, rfl⟩
    refine ret_bool ?_
    rw [Lib.toList_data, Lib.toList_data, Lib.extract_data, List.drop_zero]
    rw [Bool.eq_iff_iff, beq_iff_eq]
    unfold Lib.hasPrefix
    rw [List.isPrefixOf_iff_prefix, List.prefix_iff_eq_take, ← Lib.size_eq]
    simp only [Nat.sub_zero]
    exact eq_comm
  · have h' : ¬ (p.size : Int) ≤ (s.size : Int) := by omega
    have hr : Lib.hasPrefix s.data.toList p.data.toList = false := by
      refine Bool.eq_false_iff.2 (fun e => ?_)
      have := (List.isPrefixOf_iff_prefix.1 e).length_le
      rw [← Lib.size_eq, ← Lib.size_eq] at this
      omega
    rw [hr]
    clear hr
    go_enter Tryz.func62, Tryz.ntmps62
    go_wp2
    go_ret
    exact ⟨rfl, rfl⟩
end Go.Proofs.YtjgfkmakfdepcaaGreatDoor
namespace Go.Proofs.YtjgfkmakfdepcaaGreatDoor
open Go.RowKit

/-- what the document's read comes to -/
def ReadRPost (s : List UInt8) (w : World) (e : Ending) (w' : World) : Prop :=
  ∃ k X A n c b, e = .returned (.tuple #[.agg #[.int .i64 k, .string X, .slice A n c], .bool b]) ∧ b = oneB (readA s) ∧ (b = true → k = (readA s).kd ∧ X.data.toList = (readA s).nm ∧ ActO w.heap.size w' (readA s, .slice A n c)) ∧ Below w.heap.size w w'
theorem at3r {w : World} {D : Nat} {x0 x1 x2 : Value} {t : TypeId} (h : w.heap[D]? = some (.cells #[x0, x1, x2] t (0, 0))) :
    w.cell? ⟨D, 0, none⟩ = some x0 ∧ w.cell? ⟨D, 1, none⟩ = some x1 ∧ w.cell? ⟨D, 2, none⟩ = some x2 ∧
    w.frozen? ⟨D, 0, none⟩ = false ∧ w.frozen? ⟨D, 1, none⟩ = false ∧ w.frozen? ⟨D, 2, none⟩ = false := by
  simp [World.cell?, World.frozen?, h]
theorem fin3r {w w1 : World} {D B : Nat} {x0 x1 x2 : Value} {t : TypeId} (h : w1.heap[D]? = some (.cells #[x0, x1, x2] t (0, 0))) (hB : B ≤ D) (hb : Below B w w1) (u0 u1 u2 : Value) :
    ((((w1.setCell ⟨D, 0, none⟩ u0).setCell ⟨D, 1, none⟩ u1).setCell ⟨D, 2, none⟩ u2).cell? ⟨D, 0, none⟩ = some u0 ∧
    (((w1.setCell ⟨D, 0, none⟩ u0).setCell ⟨D, 1, none⟩ u1).setCell ⟨D, 2, none⟩ u2).cell? ⟨D, 1, none⟩ = some u1 ∧
    (((w1.setCell ⟨D, 0, none⟩ u0).setCell ⟨D, 1, none⟩ u1).setCell ⟨D, 2, none⟩ u2).cell? ⟨D, 2, none⟩ = some u2) ∧
    Below B w (((w1.setCell ⟨D, 0, none⟩ u0).setCell ⟨D, 1, none⟩ u1).setCell ⟨D, 2, none⟩ u2) := by
  have h1 := heap_setCell_same _ _ 0 _ _ u0 h
  have h2 := heap_setCell_same _ _ 1 _ _ u1 h1
  have h3 := heap_setCell_same _ _ 2 _ _ u2 h2
  obtain ⟨r0, r1, r2, _⟩ := at3r (x0 := u0) (x1 := u1) (x2 := u2) h3
  exact ⟨⟨r0, r1, r2⟩, ((hb.setCell hB _).setCell hB _).setCell hB _⟩
theorem two_boxes (w : World) (Z A : Array Value) (t : TypeId) : ((w.alloc (.cells Z t)).alloc (.cells A t)).heap[w.heap.size]? = some (.cells Z t (0, 0)) ∧
    ((w.alloc (.cells Z t)).alloc (.cells A t)).heap[w.heap.size + 1]? = some (.cells A t (0, 0)) ∧ Below w.heap.size w ((w.alloc (.cells Z t)).alloc (.cells A t)) ∧ ((w.alloc (.cells Z t)).alloc (.cells A t)).heap.size = w.heap.size + 2 := by
  have hs : (w.alloc (.cells Z t)).heap.size = w.heap.size + 1 := by simp
  refine ⟨?_, ?_, ((Below.refl _ _).alloc (Nat.le_refl _) _).alloc (by simp) _, by simp⟩
  · have h := ((Below.refl (w.alloc (.cells Z t)).heap.size (w.alloc (.cells Z t))).alloc (Nat.le_refl _) (.cells A t)).block w.heap.size (by simp)
    rw [h]
    exact heap_alloc_new w _
  · have h := heap_alloc_new (w.alloc (.cells Z t)) (.cells A t)
    rw [hs] at h
    exact h
theorem after_oneR {w W w1 : World} {Z A : Obj} (hZ : W.heap[w.heap.size]? = some Z) (hA : W.heap[w.heap.size + 1]? = some A) (hB : Below w.heap.size w W) (hs : w.heap.size + 2 ≤ W.heap.size) (hb1 : Below W.drew.heap.size W.drew w1) :
    w1.heap[w.heap.size]? = some Z ∧ w1.heap[w.heap.size + 1]? = some A ∧ Below w.heap.size w w1 ∧ Below W.heap.size W w1 := by
  have hb : Below W.heap.size W w1 := (Below.refl _ _).drew.trans hb1
  exact ⟨(hb.block _ (by omega)).trans hZ, (hb.block _ (by omega)).trans hA, hB.trans (hb.mono hB.size), hb⟩

theorem cut_no {l : List UInt8} (h : ∀ x ∈ l, x ≠ 61) : Lib.cut l [61] = (l, [], false) := by
  unfold Lib.cut
  have hi : Lib.index l [61] = -1 := by
    rw [Lib.index_one]
    have h2 : ¬ 0 ≤ Lib.indexByte l 61 := fun h0 => by
      obtain ⟨e, _⟩ := at_index (i := (Lib.indexByte l 61).toNat) (s := l) (c := 61) (by omega)
      exact h 61 (by rw [e]; simp) rfl
    generalize hq : Lib.indexByte l 61 = q at *
    have h3 := Lib.indexByte_ge l 61
    rw [hq] at h3
    omega
  rw [hi, if_neg (by omega)]
theorem cut_at {l : List UInt8} {k : Nat} (h : ∀ x ∈ l.take k, x ≠ 61) (hk : l[k]? = some 61) : Lib.cut l [61] = (l.take k, l.drop (k + 1), true) := by
  obtain ⟨hk', e⟩ := List.getElem?_eq_some_iff.1 hk
  have hl : l = l.take k ++ 61 :: l.drop (k + 1) := by
    have h1 := (List.take_append_drop k l).symm
    rw [List.drop_eq_getElem_cons hk', e] at h1
    exact h1
  have hi : Lib.index l [61] = k := by
    rw [Lib.index_one]
    have h2 := index_in (r := l.drop (k + 1)) h
    rw [← hl, List.length_take] at h2
    rw [h2]
    omega
  unfold Lib.cut
  rw [hi, if_pos (by omega)]
  simp
theorem one_none (n : List UInt8) : oneB ⟨1, n, []⟩ = false := by
  unfold oneB
  rw [if_pos rfl]
  have : rightB [] = false := by unfold rightB; rfl
  simp [this]
set_option maxRecDepth 100000 in
set_option maxHeartbeats 4000000 in
theorem refRead_raise (s : ByteArray) (w : World) (hs : s.size ≤ 6000) (h : Lib.hasPrefix s.data.toList wRaise = true) :
    Calls Tryz.prog 33 #[.string s] w (ReadRPost s.data.toList w) := by
  have hr : readA s.data.toList = ⟨2, s.data.toList.drop 6, []⟩ := by unfold readA; rw [if_pos h]
  have hl : 6 ≤ s.size := by have := (List.isPrefixOf_iff_prefix.1 h).length_le; rw [← Lib.size_eq] at this; simpa [wRaise] using this
  have hX : (s.extract 6 s.size).data.toList = s.data.toList.drop 6 := Lib.extract_to_end s 6
  have hXs : (s.extract 6 s.size).size ≤ 140737488355328 := by rw [Lib.size_eq, hX, List.length_drop, ← Lib.size_eq]; omega
  obtain ⟨hZ, hA, hB, hS⟩ := two_boxes w #[.int .i64 0, .string ⟨#[]⟩, .slice none 0 0] #[.int .i64 2, .string (s.extract 6 s.size), .slice none 0 0] 59
  have hO := refOne_any 2 (s.extract 6 s.size) (.slice none 0 0) [] ((w.alloc (.cells #[.int .i64 0, .string ⟨#[]⟩, .slice none 0 0] 59)).alloc (.cells #[.int .i64 2, .string (s.extract 6 s.size), .slice none 0 0] 59)).drew (Or.inl ⟨rfl, rfl⟩) (by decide) (fun c hc => by cases hc) (by omega)
  rw [hX, ← hr] at hO
  have HF : Hid (∀ (b : Bool) (W : World), Below w.heap.size w W → b = oneB (readA s.data.toList) → ReadRPost s.data.toList w (.returned (.tuple #[.agg #[.int .i64 2, .string (s.extract 6 s.size), .slice none 0 0], .bool b])) W) := fun b W hb h1 =>
    ⟨_, _, _, _, _, _, rfl, h1, fun _ => ⟨by rw [hr], by rw [hr, hX], by rw [hr]; exact World.ownsRow_nil _ _ _ _, by rw [hr]; simp, by rw [hr]; exact (fun c hc => (by cases hc)), by rw [hr, ← hX, ← Lib.size_eq]; exact hXs⟩, hb⟩
  generalize hone : oneB (readA s.data.toList) = b1 at *
  have HO := Lib.hid hO
  have HZ := Lib.hid hZ; have HA := Lib.hid hA; have HBW := Lib.hid hB
  have HSZ := Lib.hid (Nat.le_of_eq hS.symm)
  have HST := Lib.hid (fun W => starts_any s ⟨#[114, 97, 105, 115, 101, 58]⟩ W (by omega) (by decide))
  have h1 : Lib.hasPrefix s.data.toList (⟨#[114, 97, 105, 115, 101, 58]⟩ : ByteArray).data.toList = true := h
  have H1 := Lib.hid h1
  clear h1
  clear hr hX hXs hO hZ hB hS hone h
  go_enter Tryz.func33, Tryz.ntmps33
  go_wp2_with fail
  refine (HST.out _).mono ?_
  rintro e w1 ⟨rfl, hw1⟩
  rw [H1.out]
  obtain rfl := hw1.symm
  clear hw1
  obtain ⟨g0, g1, g2, _⟩ := at3r hA
  clear hA
  go_wp2
  go_region_with (go_at_call 29; refine (HO.out).mono ?_; rintro e w1 ⟨rfl, hb1⟩; obtain ⟨hz1, ha1, hbw, hbW⟩ := after_oneR HZ.out HA.out HBW.out HSZ.out hb1; obtain ⟨d0, d1, d2, f0, f1, f2⟩ := at3r hz1; obtain ⟨g0, g1, g2, _⟩ := at3r ha1; clear hb1)
  all_goals
    go_wp2
    obtain ⟨⟨r0, r1, r2⟩, hbf⟩ := fin3r hz1 (by omega) hbw (.int .i64 2) (.string (s.extract 6 s.size)) (.slice none 0 0)
    refine bodyPost_ret ?_ rfl (HF.out _ _ hbf rfl)
    simp [results, Tryz.results33, go_sem, r0, r1, r2]
set_option maxRecDepth 100000 in
set_option maxHeartbeats 4000000 in
theorem refRead_send (s : ByteArray) (w : World) (hs : s.size ≤ 6000) (h0 : Lib.hasPrefix s.data.toList wRaise = false) (h : Lib.hasPrefix s.data.toList wSend = true) :
    Calls Tryz.prog 33 #[.string s] w (ReadRPost s.data.toList w) := by
  have hr : readA s.data.toList = ⟨3, s.data.toList.drop 5, []⟩ := by unfold readA; rw [if_neg (by rw [h0]; decide), if_pos h]
  have hl : 5 ≤ s.size := by have := (List.isPrefixOf_iff_prefix.1 h).length_le; rw [← Lib.size_eq] at this; simpa [wSend] using this
  have hX : (s.extract 5 s.size).data.toList = s.data.toList.drop 5 := Lib.extract_to_end s 5
  have hXs : (s.extract 5 s.size).size ≤ 140737488355328 := by rw [Lib.size_eq, hX, List.length_drop, ← Lib.size_eq]; omega
  obtain ⟨hZ, hA, hB, hS⟩ := two_boxes w #[.int .i64 0, .string ⟨#[]⟩, .slice none 0 0] #[.int .i64 3, .string (s.extract 5 s.size), .slice none 0 0] 59
  have hO := refOne_any 3 (s.extract 5 s.size) (.slice none 0 0) [] ((w.alloc (.cells #[.int .i64 0, .string ⟨#[]⟩, .slice none 0 0] 59)).alloc (.cells #[.int .i64 3, .string (s.extract 5 s.size), .slice none 0 0] 59)).drew (Or.inl ⟨rfl, rfl⟩) (by decide) (fun c hc => by cases hc) (by omega)
  rw [hX, ← hr] at hO
  have HF : Hid (∀ (b : Bool) (W : World), Below w.heap.size w W → b = oneB (readA s.data.toList) → ReadRPost s.data.toList w (.returned (.tuple #[.agg #[.int .i64 3, .string (s.extract 5 s.size), .slice none 0 0], .bool b])) W) := fun b W hb h1 =>
    ⟨_, _, _, _, _, _, rfl, h1, fun _ => ⟨by rw [hr], by rw [hr, hX], by rw [hr]; exact World.ownsRow_nil _ _ _ _, by rw [hr]; simp, by rw [hr]; exact (fun c hc => (by cases hc)), by rw [hr, ← hX, ← Lib.size_eq]; exact hXs⟩, hb⟩
  generalize hone : oneB (readA s.data.toList) = b1 at *
  have HO := Lib.hid hO
  have HZ := Lib.hid hZ; have HA := Lib.hid hA; have HBW := Lib.hid hB
  have HSZ := Lib.hid (Nat.le_of_eq hS.symm)
  have HST := Lib.hid (fun W => starts_any s ⟨#[114, 97, 105, 115, 101, 58]⟩ W (by omega) (by decide))
  have HSS := Lib.hid (fun W => starts_any s ⟨#[115, 101, 110, 100, 58]⟩ W (by omega) (by decide))
  have h1 : Lib.hasPrefix s.data.toList (⟨#[114, 97, 105, 115, 101, 58]⟩ : ByteArray).data.toList = false := h0
  have h2 : Lib.hasPrefix s.data.toList (⟨#[115, 101, 110, 100, 58]⟩ : ByteArray).data.toList = true := h
  have H1 := Lib.hid h1
  have H2 := Lib.hid h2
  clear h1 h2 h0
  clear hr hX hXs hO hZ hB hS hone h
  go_enter Tryz.func33, Tryz.ntmps33
  go_wp2_with fail
  refine (HST.out _).mono ?_
  rintro e w1 ⟨rfl, hw1⟩
  rw [H1.out]
  obtain rfl := hw1.symm
  clear hw1
  go_wp2_with fail
  refine (HSS.out _).mono ?_
  rintro e w1 ⟨rfl, hw1⟩
  rw [H2.out]
  obtain rfl := hw1.symm
  clear hw1
  obtain ⟨g0, g1, g2, _⟩ := at3r hA
  clear hA
  go_wp2
  go_region_with (go_at_call 29; refine (HO.out).mono ?_; rintro e w1 ⟨rfl, hb1⟩; obtain ⟨hz1, ha1, hbw, hbW⟩ := after_oneR HZ.out HA.out HBW.out HSZ.out hb1; obtain ⟨d0, d1, d2, f0, f1, f2⟩ := at3r hz1; obtain ⟨g0, g1, g2, _⟩ := at3r ha1; clear hb1)
  all_goals
    go_wp2
    obtain ⟨⟨r0, r1, r2⟩, hbf⟩ := fin3r hz1 (by omega) hbw (.int .i64 3) (.string (s.extract 5 s.size)) (.slice none 0 0)
    refine bodyPost_ret ?_ rfl (HF.out _ _ hbf rfl)
    simp [results, Tryz.results33, go_sem, r0, r1, r2]

theorem take_ne {s : ByteArray} {k : Nat} (hk : k < s.size) (h : ∀ x ∈ s.data.toList.take k, x ≠ 61) (hc : s[k] ≠ 61) : ∀ x ∈ s.data.toList.take (k + 1), x ≠ 61 := by
  have hk' : k < s.data.toList.length := by rw [← Lib.size_eq]; exact hk
  rw [List.take_succ_eq_append_getElem hk']
  intro x hx
  rcases List.mem_append.1 hx with hx | hx
  · exact h x hx
  · simp only [List.mem_singleton] at hx
    rw [hx, at_list s k hk]
    exact hc
end Go.Proofs.YtjgfkmakfdepcaaGreatDoor
