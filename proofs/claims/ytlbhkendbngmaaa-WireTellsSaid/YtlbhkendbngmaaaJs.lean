/- Layer 16: the reader: lists of variables that become something, and of pasts. -/
import Derived.Test.YtlbhkendbngmaaaJr
namespace Go.Proofs.Ytlbhkendbngmaaa.Wi
open Go.RowKit
set_option maxRecDepth 100000

theorem add_lit (b o n : Nat) : (⟨b, o, none⟩ : Addr).add n = ⟨b, o + n, none⟩ := by unfold Addr.add; by_cases h : n = 0 <;> simp [h]
theorem row_cells (w : World) (cs : List Value) (t : TypeId) : ∀ j v, cs[j]? = some v → (w.alloc (.cells cs.toArray t)).cell? ((⟨w.heap.size, 0, none⟩ : Addr).add j) = some v := by
  intro j v h
  rw [add_lit, Nat.zero_add, cell_of_row _ _ j _ _ _ (heap_alloc_new w _)]
  simpa using h
def setsV (l : List SetM) : List Value := l.flatMap setV
theorem setsV_append (a b : List SetM) : setsV (a ++ b) = setsV a ++ setsV b := by simp [setsV]
theorem setsV_one (x : SetM) : setsV [x] = setV x := by simp [setsV]
theorem Try.infoSet : (Try.prog.info? 66).map (fun i => (i.zero, i.size, i.bytes)) = some (some (.agg #[.int .i64 0, .int .i64 0, .int .i64 0, .int .i64 0]), 4, 32) := by kernel_rfl
theorem Try.infoPast : (Try.prog.info? 68).map (fun i => (i.zero, i.size, i.bytes)) = some (some (.agg #[.int .i64 0, .slice none 0 0]), 2, 32) := by kernel_rfl
def pairV (q : PastM × Value) : List Value := [.int .i64 q.1.st, q.2]
theorem own_apart {w : World} {base b2 size size2 n n2 : Nat} {e e2 : TypeId} {v v2 : Value} {xs ys : List Value} (h1 : w.ownsRow base e size v n xs) (h2 : w.ownsRow b2 e2 size2 v2 n2 ys) (hte : e ≠ e2) : v2.ownBlock = none ∨ v2.ownBlock ≠ v.ownBlock := by
  rcases h1.2 with ⟨rfl, _⟩ | ⟨g', cap, cur, rfl, _, hh, _⟩
  · cases hv : v2.ownBlock with
    | none => exact Or.inl rfl
    | some k => exact Or.inr (by simp [Value.ownBlock])
  · exact Or.inr (own_off h2 hh hte)
/-- rows of the call's own: of pasts, and of the places of each -/
def PR (B : Nat) (w : World) (l : List PastM) (v : Value) : Prop :=
  ∃ Q : List (PastM × Value), Q.map Prod.fst = l ∧ w.ownsRow B 68 2 v l.length (Q.flatMap pairV) ∧ ∀ q ∈ Q, w.ownsRow B 3 1 q.2 q.1.set.length (intV q.1.set)
theorem PR.nil (B : Nat) (w : World) : PR B w [] (.slice none 0 0) := ⟨[], rfl, World.ownsRow_nil _ _ _ _, fun q h => by cases h⟩
theorem PR.grown {B g : Nat} {w w' : World} {l : List PastM} {v : Value} (h : PR B w l v) (hB : g < B) (hg : w.grownBy w' (some g)) : PR B w' l v := by
  obtain ⟨Q, h1, h2, h3⟩ := h
  exact ⟨Q, h1, own_grown h2 hB hg, fun q hq => own_grown (h3 q hq) hB hg⟩
theorem PR.le {B B' : Nat} {w : World} {l : List PastM} {v : Value} (h : PR B w l v) (hb : B' ≤ B) : PR B' w l v := by
  obtain ⟨Q, h1, h2, h3⟩ := h
  exact ⟨Q, h1, own_le h2 hb, fun q hq => own_le (h3 q hq) hb⟩
theorem PR.low {B k j : Nat} {w : World} {l : List PastM} {v : Value} (h : PR B w l v) (hk : k < B) (u : Value) : PR B (w.setCell ⟨k, j, none⟩ u) l v := by
  obtain ⟨Q, h1, h2, h3⟩ := h
  exact ⟨Q, h1, ownsRow_setCell_below h2 (a := ⟨k, j, none⟩) hk u, fun q hq => ownsRow_setCell_below (h3 q hq) (a := ⟨k, j, none⟩) hk u⟩
theorem pasts_form {B : Nat} {w : World} {l : List PastM} {v : Value} (h : PR B w l v) : ∃ A c, v = .slice A l.length c := by
  obtain ⟨Q, h1, h2, h3⟩ := h
  exact own_form h2
set_option maxHeartbeats 1000000 in
theorem sets_r {g : Nat} {s : Bytes} {w : World} (h : RB g s w) (hs : s.length ≤ 4611686018427387904) :
    Calls Try.prog 52 #[wp_ g, .int .i64 8, mR 53 g] w fun e w' => Got g s (someP 8 setP) (fun l v w' => w'.ownsRow w.heap.size 66 4 v l.length (setsV l)) w e w' := by
  obtain ⟨i0, hi0, hz0, hz1, hz2⟩ := info_parts Try.infoSet
  have HI := Lib.hid hi0; have HZ0 := Lib.hid hz0; have HZ1 := Lib.hid hz1; have HZ2 := Lib.hid hz2
  clear hi0 hz0 hz1 hz2
  have hx := small_r h 0 8 hs
  rw [smallR_zero] at hx
  have hgl := h.lt
  have HX := Lib.hid hx
  unfold wp_ mR at *
  clear h hx
  go_enter Try.func52, Try.ntmps52
  go_wp2_with fail
  refine HX.out.mono ?_
  intro e w1 h1
  rcases h1.split with ⟨x, r, v, hp, rfl, rfl, hr, hg⟩ | ⟨hp, rfl, hg⟩
  · obtain ⟨n, rfl, hsm, hn⟩ := int_small hp
    have hle := left_le (small_reads 8 (by decide)) hsm
    have H0 : Hid (∃ L sk, L.length = 0 ∧ w.grownBy w1 (some g) ∧ RB g sk w1 ∧ w1.ownsRow w.heap.size 66 4 (.slice none 0 0) L.length (setsV L) ∧ sk.length ≤ s.length ∧ someP 8 setP s = joinP L (manyP setP (n - 0) sk)) :=
      Lib.hid ⟨[], r, rfl, hg, hr, World.ownsRow_nil _ _ _ _, hle, by rw [some_eq, hsm, join_start]; rfl⟩
    clear hp hr hg h1 HX hsm hle
    go_wp2
    go_loopw [7, 11] (fun x7 x11 wr => ∃ k : Nat, k ≤ n ∧ x11 = .int .i64 k ∧ Hid (∃ L sk, L.length = k ∧ w.grownBy wr (some g) ∧ RB g sk wr ∧ wr.ownsRow w.heap.size 66 4 x7 L.length (setsV L) ∧ sk.length ≤ s.length ∧ someP 8 setP s = joinP L (manyP setP (n - k) sk))) (fun _ x _ => n - (intOf x).toNat)
    case atStart => exact ⟨0, by omega, rfl, H0⟩
    case round =>
      clear H0
      obtain ⟨k, hk, rfl, HH⟩ := hrel
      obtain ⟨W, hW⟩ : ∃ W, W = wr := ⟨_, rfl⟩
      subst hW
      obtain ⟨L, sk, hL, hg, hr, ho, hl, hj⟩ := HH.out
      obtain ⟨A, c, hv⟩ := own_form ho
      by_cases hkn : k < n
      · have HC := Lib.hid (set_r hr (by omega))
        have HG := Lib.hid hg; have HO := Lib.hid ho; have HJ := Lib.hid hj; have HL := Lib.hid hL
        unfold wp_ at HC
        clear hg hr ho hj hL HH
        go_wp2_with fail
        refine HC.out.mono ?_
        intro e w2 h2
        rcases h2.split with ⟨x, r2, v, hp, rfl, rfl, hr2, hg2⟩ | ⟨hp, rfl, hg2⟩
        · have hL2 : (L ++ [x]).length = k + 1 := by rw [List.length_append, HL.out]; rfl
          have hle2 := left_le set_reads hp
          have hj2 := HJ.out.trans (join_some hkn hp)
          have ho2 := own_grown HO.out (by omega) hg2
          have hg3 := grown_trans HG.out hg2
          have hL9 : L.length ≤ 47 := by have := HL.out; omega
          have hsz := HG.out.size
          have hsz2 := hg2.size
          subst hv
          have HO2 := Lib.hid ho2; have HG3 := Lib.hid hg3; have HR2 := Lib.hid hr2; have HJ2 := Lib.hid hj2; have HL2 := Lib.hid hL2; have HLE := Lib.hid (Nat.le_trans hle2 hl)
          clear ho2 hg3 hr2 hj2 hL2 hle2 hp hg2 h2 hl
          unfold setV
          go_wp2_with (at_builtin; refine wpList_append_own _ rfl _ _ 24 rfl w.heap.size 66 i0 _ 4 32 Try.underlying24 HI.out HZ0.out HZ1.out HZ2.out rfl (by decide) _ L.length (setsV L) rfl (HO2.out.alloc _) ⟨w2.heap.size, 0, none⟩ 1 1 (setV x) rfl rfl (row_cells w2 (setV x) _) (by intro u hu; simp [setV] at hu; rcases hu with rfl | rfl | rfl | rfl <;> rfl) (by unfold maxLen; omega) (by omega) (by simp; omega) ?_)
          intro v' w3 hown hgr _
          have hnew : Hid (∃ L sk, L.length = k + 1 ∧ w.grownBy w3 (some g) ∧ RB g sk w3 ∧ w3.ownsRow w.heap.size 66 4 v' L.length (setsV L) ∧ sk.length ≤ s.length ∧ someP 8 setP s = joinP L (manyP setP (n - (k + 1)) sk)) := Lib.hid (by
            have hlt := fun q hq => (HO2.out.lt q hq).1
            have hga := grown_trans HG3.out (grown_alloc w2 (.cells (setV x).toArray 66) (some g))
            refine ⟨L ++ [x], r2, HL2.out, grown_row hga hgr hlt, (HR2.out.below ((Below.refl _ _).alloc (Nat.le_refl _) _)).grown hgr hlt hgl, ?_, HLE.out, HJ2.out⟩
            rw [setsV_append, setsV_one, List.length_append]
            exact hown)
          clear hown hgr
          go_wp2
          go_roundw
          case rel => exact ⟨k + 1, by omega, by go_num, hnew⟩
          case measure => simp [intOf]; omega
        · exact ⟨rfl, Got.none (HJ.out.trans (join_none hkn hp)) (grown_trans HG.out hg2)⟩
      · obtain rfl : k = n := by omega
        rw [join_end] at hj
        have HG := Lib.hid hg; have HR := Lib.hid hr; have HO := Lib.hid ho; have HJ := Lib.hid hj
        clear hg hr ho hj HH hL hl
        subst hv
        go_wp2
        go_ret
        exact Got.some HJ.out HG.out HO.out HR.out
  · have hN : someP 8 setP s = none := by rw [some_eq, int_none hp]
    exact ⟨rfl, Got.none hN hg⟩
set_option maxHeartbeats 1000000 in
theorem pasts_r {g : Nat} {s : Bytes} {w : World} (h : RB g s w) (hs : s.length ≤ 4611686018427387904) :
    Calls Try.prog 54 #[wp_ g, .int .i64 40, mR 55 g] w fun e w' => Got g s (someP 40 pastP) (fun l v w' => PR (w.heap.size) w' l v) w e w' := by
  obtain ⟨i0, hi0, hz0, hz1, hz2⟩ := info_parts Try.infoPast
  have HI := Lib.hid hi0; have HZ0 := Lib.hid hz0; have HZ1 := Lib.hid hz1; have HZ2 := Lib.hid hz2
  clear hi0 hz0 hz1 hz2
  have hx := small_r h 0 40 hs
  rw [smallR_zero] at hx
  have hgl := h.lt
  have HX := Lib.hid hx
  unfold wp_ mR at *
  clear h hx
  go_enter Try.func54, Try.ntmps54
  go_wp2_with fail
  refine HX.out.mono ?_
  intro e w1 h1
  rcases h1.split with ⟨x, r, v, hp, rfl, rfl, hr, hg⟩ | ⟨hp, rfl, hg⟩
  · obtain ⟨n, rfl, hsm, hn⟩ := int_small hp
    have hle := left_le (small_reads 40 (by decide)) hsm
    have H0 : Hid (∃ L sk, L.length = 0 ∧ w.grownBy w1 (some g) ∧ RB g sk w1 ∧ PR (w.heap.size) w1 L (.slice none 0 0) ∧ sk.length ≤ s.length ∧ someP 40 pastP s = joinP L (manyP pastP (n - 0) sk)) :=
      Lib.hid ⟨[], r, rfl, hg, hr, PR.nil _ _, hle, by rw [some_eq, hsm, join_start]; rfl⟩
    clear hp hr hg h1 HX hsm hle
    go_wp2
    go_loopw [7, 11] (fun x7 x11 wr => ∃ k : Nat, k ≤ n ∧ x11 = .int .i64 k ∧ Hid (∃ L sk, L.length = k ∧ w.grownBy wr (some g) ∧ RB g sk wr ∧ PR (w.heap.size) wr L x7 ∧ sk.length ≤ s.length ∧ someP 40 pastP s = joinP L (manyP pastP (n - k) sk))) (fun _ x _ => n - (intOf x).toNat)
    case atStart => exact ⟨0, by omega, rfl, H0⟩
    case round =>
      clear H0
      obtain ⟨k, hk, rfl, HH⟩ := hrel
      obtain ⟨W, hW⟩ : ∃ W, W = wr := ⟨_, rfl⟩
      subst hW
      obtain ⟨L, sk, hL, hg, hr, ho, hl, hj⟩ := HH.out
      obtain ⟨A, c, hv⟩ := pasts_form ho
      by_cases hkn : k < n
      · have HC := Lib.hid (past_r hr (by omega))
        have HG := Lib.hid hg; have HO := Lib.hid ho; have HJ := Lib.hid hj; have HL := Lib.hid hL
        unfold wp_ at HC
        clear hg hr ho hj hL HH
        go_wp2_with fail
        refine HC.out.mono ?_
        intro e w2 h2
        rcases h2.split with ⟨x, r2, v, hp, rfl, ⟨u, rfl, hu⟩, hr2, hg2⟩ | ⟨hp, rfl, hg2⟩
        · have hL2 : (L ++ [x]).length = k + 1 := by rw [List.length_append, HL.out]; rfl
          have hle2 := left_le past_reads hp
          have hj2 := HJ.out.trans (join_some hkn hp)
          have ho2 := HO.out.grown (by omega) hg2
          have hg3 := grown_trans HG.out hg2
          have hL9 : L.length ≤ 47 := by have := HL.out; omega
          have hsz := HG.out.size
          have hsz2 := hg2.size
          subst hv
          obtain ⟨A2, C2, rfl⟩ := own_form hu
          have hu2 := own_le hu hsz
          have hst : W.heap.size ≤ w2.heap.size := hg2.size
          obtain ⟨Q, hQ1, hQ2, hQ3⟩ := ho2
          have HU := Lib.hid hu2; have HQ1 := Lib.hid hQ1; have HQ3 := Lib.hid hQ3
          clear hu hu2 hQ1 hQ3
          have HO2 := Lib.hid hQ2; have HG3 := Lib.hid hg3; have HR2 := Lib.hid hr2; have HJ2 := Lib.hid hj2; have HL2 := Lib.hid hL2; have HLE := Lib.hid (Nat.le_trans hle2 hl)
          clear hQ2 hg3 hr2 hj2 hL2 hle2 hp hg2 h2 hl
          go_wp2_with (at_builtin; refine wpList_append_own _ rfl _ _ 25 rfl w.heap.size 68 i0 _ 2 32 Try.underlying25 HI.out HZ0.out HZ1.out HZ2.out rfl (by decide) _ L.length (Q.flatMap pairV) rfl (HO2.out.alloc _) ⟨w2.heap.size, 0, none⟩ 1 1 [.int .i64 x.st, .slice A2 x.set.length C2] rfl rfl (row_cells w2 [.int .i64 x.st, .slice A2 x.set.length C2] _) (by intro u hu; simp at hu; rcases hu with rfl | rfl <;> rfl) (by unfold maxLen; omega) (by omega) (by simp; omega) ?_)
          intro v' w3 hown hgr _
          have hnew : Hid (∃ L sk, L.length = k + 1 ∧ w.grownBy w3 (some g) ∧ RB g sk w3 ∧ PR (w.heap.size) w3 L v' ∧ sk.length ≤ s.length ∧ someP 40 pastP s = joinP L (manyP pastP (n - (k + 1)) sk)) := Lib.hid (by
            have hlt := fun q hq => (HO2.out.lt q hq).1
            have hga := grown_trans HG3.out (grown_alloc w2 (.cells #[.int .i64 x.st, .slice A2 x.set.length C2] 68) (some g))
            refine ⟨L ++ [x], r2, HL2.out, grown_row hga hgr hlt, (HR2.out.below ((Below.refl _ _).alloc (Nat.le_refl _) _)).grown hgr hlt hgl, ?_, HLE.out, HJ2.out⟩
            have hap := fun q hq => own_apart HO2.out (HQ3.out q hq) (by decide)
            have hap2 := own_apart HO2.out HU.out (by decide)
            refine ⟨Q ++ [(x, .slice A2 x.set.length C2)], by rw [List.map_append, HQ1.out]; rfl, ?_, fun q hq => ?_⟩
            · rw [List.flatMap_append, List.length_append]
              exact hown
            · rcases List.mem_append.1 hq with hq | hq
              · exact ((HQ3.out q hq).alloc _).kept hgr (hap q hq)
              · rw [List.mem_singleton.1 hq]
                exact (HU.out.alloc _).kept hgr hap2)
          clear hown hgr
          go_wp2
          go_roundw
          case rel => exact ⟨k + 1, by omega, by go_num, hnew⟩
          case measure => simp [intOf]; omega
        · exact ⟨rfl, Got.none (HJ.out.trans (join_none hkn hp)) (grown_trans HG.out hg2)⟩
      · obtain rfl : k = n := by omega
        rw [join_end] at hj
        have HG := Lib.hid hg; have HR := Lib.hid hr; have HO := Lib.hid ho; have HJ := Lib.hid hj
        clear hg hr ho hj HH hL hl
        subst hv
        go_wp2
        go_ret
        exact Got.some HJ.out HG.out HO.out HR.out
  · have hN : someP 40 pastP s = none := by rw [some_eq, int_none hp]
    exact ⟨rfl, Got.none hN hg⟩
end Go.Proofs.Ytlbhkendbngmaaa.Wi
