/- Layer 16: the reader: lists of places. -/
import Derived.Test.YtlbhkendbngmaaaJo
namespace Go.Proofs.Ytlbhkendbngmaaa.Wi
open Go.RowKit
set_option maxRecDepth 100000

/-- what n things are, when the first ones are read -/
def joinP {α : Type} (L : List α) (z : Option (List α × Bytes)) : Option (List α × Bytes) := z.map fun y => (L ++ y.1, y.2)
theorem join_start {α : Type} (z : Option (List α × Bytes)) : joinP [] z = z := by cases z <;> simp [joinP]
theorem join_none {α : Type} {p : P α} {L : List α} {n k : Nat} {s : Bytes} (hk : k < n) (h : p s = none) : joinP L (manyP p (n - k) s) = none := by
  rw [show n - k = (n - (k + 1)) + 1 by omega]
  unfold manyP
  rw [h]; rfl
theorem join_some {α : Type} {p : P α} {L : List α} {n k : Nat} {s r : Bytes} {x : α} (hk : k < n) (h : p s = some (x, r)) : joinP L (manyP p (n - k) s) = joinP (L ++ [x]) (manyP p (n - (k + 1)) r) := by
  rw [show n - k = (n - (k + 1)) + 1 by omega]
  conv => lhs; unfold manyP
  rw [h]
  simp only
  cases manyP p (n - (k + 1)) r with
  | none => rfl
  | some z => simp [joinP]
theorem join_end {α : Type} {p : P α} {L : List α} {n : Nat} {s : Bytes} : joinP L (manyP p (n - n) s) = some (L, s) := by
  rw [Nat.sub_self]
  simp [joinP, manyP]
/-- as many as a byte says: what is read -/
theorem some_eq {α : Type} {p : P α} {most : Nat} {s : Bytes} : someP most p s = match smallP most s with | none => none | some (n, r) => manyP p n r := by
  unfold someP mapP bindP
  cases smallP most s with
  | none => rfl
  | some z =>
    obtain ⟨n, r⟩ := z
    simp only
    cases manyP p n r with
    | none => rfl
    | some y => rfl
theorem list_some : listP = someP 48 (intP 63) := rfl
theorem int_small {most : Nat} {s r : Bytes} {x : Int} (h : intP most s = some (x, r)) : ∃ n : Nat, x = n ∧ smallP most s = some (n, r) ∧ n ≤ most := by
  unfold intP mapP at h
  cases hs : smallP most s with
  | none => rw [hs] at h; cases h
  | some z =>
    obtain ⟨n, r'⟩ := z
    rw [hs] at h
    simp at h
    refine ⟨n, h.1.symm, by rw [h.2], ?_⟩
    unfold smallP at hs
    cases s with
    | nil => cases hs
    | cons b s =>
      simp only at hs
      split at hs
      · next hl => injection hs with hs; injection hs with h1 _; omega
      · cases hs
theorem int_none {most : Nat} {s : Bytes} (h : intP most s = none) : smallP most s = none := by
  unfold intP mapP at h
  cases hs : smallP most s with
  | none => rfl
  | some z => rw [hs] at h; cases h
theorem left_le {α : Type} {p : P α} {t : α → Bytes} {ok : α → Prop} (hp : Reads p t ok) {s r : Bytes} {x : α} (h : p s = some (x, r)) : r.length ≤ s.length := by
  rw [(hp.only s x r h).2, List.length_append]; omega
theorem own_grown {w w' : World} {g : Nat} {e : TypeId} {size n : Nat} {v : Value} {xs : List Value} {B : Nat} (h : w.ownsRow B e size v n xs) (hB : g < B) (hg : w.grownBy w' (some g)) : w'.ownsRow B e size v n xs :=
  h.kept hg (by cases hv : v.ownBlock with
    | none => exact Or.inl rfl
    | some k => exact Or.inr (fun e => by have := (h.lt k hv).1; have e := Option.some.inj e; omega))
def intV (l : List Int) : List Value := l.map fun x => .int .i64 x
theorem intV_append (a b : List Int) : intV (a ++ b) = intV a ++ intV b := by simp [intV]
theorem one_cell (w : World) (u : Value) (t : TypeId) : ∀ j v, [u][j]? = some v → (w.alloc (.cells #[u] t)).cell? ((⟨w.heap.size, 0, none⟩ : Addr).add j) = some v := by
  intro j v h
  rcases j with _ | j
  · simp at h; subst h; simp [Addr.add]
  · simp at h
theorem grown_row {w0 w w1 : World} {g : Nat} {v : Value} (hg : w0.grownBy w (some g)) (hb : w.grownBy w1 v.ownBlock) (hs : ∀ k, v.ownBlock = some k → w0.heap.size ≤ k) : w0.grownBy w1 (some g) := by
  have h1 := hg.size
  have h2 := hb.size
  refine ⟨hb.os.trans hg.os, hb.tape.trans hg.tape, hb.output.trans hg.output, by omega, fun q hq hr => ?_⟩
  exact (hb.block q (by omega) (fun e => by have := hs q e.symm; omega)).trans (hg.block q hq hr)
theorem grown_alloc (w : World) (o : Obj) (r : Option Nat) : w.grownBy (w.alloc o) r := grown_below ((Below.refl _ _).alloc (Nat.le_refl _) o) r
theorem RB.grown {g : Nat} {s : Bytes} {w w' : World} {v : Value} {B : Nat} (h : RB g s w) (hg : w.grownBy w' v.ownBlock) (hv : ∀ k, v.ownBlock = some k → B ≤ k) (hB : g < B) : RB g s w' :=
  (hg.block g h.lt (fun e => by have := hv g e.symm; omega)).trans h
def mR (f g : Nat) : Value := .func (.func f) #[wp_ g] #[]
theorem Try.infoInt : (Try.prog.info? 3).map (fun i => (i.zero, i.size, i.bytes)) = some (some (.int .i64 0), 1, 8) := by kernel_rfl
set_option maxHeartbeats 1000000 in
theorem ints_r {g : Nat} {s : Bytes} {w : World} (h : RB g s w) (hs : s.length ≤ 4611686018427387904) :
    Calls Try.prog 63 #[wp_ g, .int .i64 48, mR 64 g] w fun e w' => Got g s listP (fun l v w' => w'.ownsRow w.heap.size 3 1 v l.length (intV l)) w e w' := by
  obtain ⟨i0, hi0, hz0, hz1, hz2⟩ := info_parts Try.infoInt
  have HI := Lib.hid hi0; have HZ0 := Lib.hid hz0; have HZ1 := Lib.hid hz1; have HZ2 := Lib.hid hz2
  clear hi0 hz0 hz1 hz2
  have hx := small_r h 0 48 hs
  rw [smallR_zero] at hx
  have hgl := h.lt
  have HX := Lib.hid hx
  unfold wp_ mR at *
  clear h hx
  go_enter Try.func63, Try.ntmps63
  go_wp2_with fail
  refine HX.out.mono ?_
  intro e w1 h1
  rcases h1.split with ⟨x, r, v, hp, rfl, rfl, hr, hg⟩ | ⟨hp, rfl, hg⟩
  · obtain ⟨n, rfl, hsm, hn⟩ := int_small hp
    have hle := left_le (small_reads 48 (by decide)) hsm
    have H0 : Hid (∃ L sk, L.length = 0 ∧ w.grownBy w1 (some g) ∧ RB g sk w1 ∧ w1.ownsRow w.heap.size 3 1 (.slice none 0 0) L.length (intV L) ∧ sk.length ≤ s.length ∧ listP s = joinP L (manyP (intP 63) (n - 0) sk)) :=
      Lib.hid ⟨[], r, rfl, hg, hr, World.ownsRow_nil _ _ _ _, hle, by rw [list_some, some_eq, hsm, join_start]; rfl⟩
    clear hp hr hg h1 HX hsm hle
    go_wp2
    go_loopw [7, 11] (fun x7 x11 wr => ∃ k : Nat, k ≤ n ∧ x11 = .int .i64 k ∧ Hid (∃ L sk, L.length = k ∧ w.grownBy wr (some g) ∧ RB g sk wr ∧ wr.ownsRow w.heap.size 3 1 x7 L.length (intV L) ∧ sk.length ≤ s.length ∧ listP s = joinP L (manyP (intP 63) (n - k) sk))) (fun _ x _ => n - (intOf x).toNat)
    case atStart => exact ⟨0, by omega, rfl, H0⟩
    case round =>
      clear H0
      obtain ⟨k, hk, rfl, HH⟩ := hrel
      obtain ⟨W, hW⟩ : ∃ W, W = wr := ⟨_, rfl⟩
      subst hW
      obtain ⟨L, sk, hL, hg, hr, ho, hl, hj⟩ := HH.out
      obtain ⟨A, c, hv⟩ := own_form ho
      by_cases hkn : k < n
      · have HC := Lib.hid (place_r hr (by omega))
        have HG := Lib.hid hg; have HO := Lib.hid ho; have HJ := Lib.hid hj; have HL := Lib.hid hL
        unfold wp_ at HC
        clear hg hr ho hj hL HH
        go_wp2_with fail
        refine HC.out.mono ?_
        intro e w2 h2
        rcases h2.split with ⟨x, r2, v, hp, rfl, rfl, hr2, hg2⟩ | ⟨hp, rfl, hg2⟩
        · have hL2 : (L ++ [x]).length = k + 1 := by rw [List.length_append, HL.out]; rfl
          have hle2 := left_le (int_reads 63 (by decide)) hp
          have hj2 := HJ.out.trans (join_some hkn hp)
          have ho2 := own_grown HO.out (by omega) hg2
          have hg3 := grown_trans HG.out hg2
          have hL9 : L.length ≤ 47 := by have := HL.out; omega
          have hsz := HG.out.size
          have hsz2 := hg2.size
          subst hv
          have HO2 := Lib.hid ho2; have HG3 := Lib.hid hg3; have HR2 := Lib.hid hr2; have HJ2 := Lib.hid hj2; have HL2 := Lib.hid hL2; have HLE := Lib.hid (Nat.le_trans hle2 hl)
          clear ho2 hg3 hr2 hj2 hL2 hle2 hp hg2 h2 hl
          go_wp2_with (at_builtin; refine wpList_append_own _ rfl _ _ 23 rfl w.heap.size 3 i0 _ 1 8 Try.underlying23 HI.out HZ0.out HZ1.out HZ2.out rfl (by decide) _ L.length (intV L) rfl (HO2.out.alloc _) ⟨w2.heap.size, 0, none⟩ 1 1 [.int .i64 x] rfl rfl (one_cell w2 _ _) (by intro u hu; simp at hu; subst hu; rfl) (by unfold maxLen; omega) (by omega) (by simp; omega) ?_)
          intro v' w3 hown hgr _
          have hnew : Hid (∃ L sk, L.length = k + 1 ∧ w.grownBy w3 (some g) ∧ RB g sk w3 ∧ w3.ownsRow w.heap.size 3 1 v' L.length (intV L) ∧ sk.length ≤ s.length ∧ listP s = joinP L (manyP (intP 63) (n - (k + 1)) sk)) := Lib.hid (by
            have hlt := fun q hq => (HO2.out.lt q hq).1
            have hga := grown_trans HG3.out (grown_alloc w2 (.cells #[.int .i64 x] 3) (some g))
            refine ⟨L ++ [x], r2, HL2.out, grown_row hga hgr hlt, (HR2.out.below ((Below.refl _ _).alloc (Nat.le_refl _) _)).grown hgr hlt hgl, ?_, HLE.out, HJ2.out⟩
            rw [intV_append, List.length_append]
            exact hown)
          clear hown hgr
          go_wp2
          go_roundw
          case rel => exact ⟨k + 1, by omega, by go_num, hnew⟩
          case measure => simp [intOf]; omega
        · exact ⟨rfl, Got.none (HJ.out.trans (join_none hkn hp)) (grown_trans HG.out hg2)⟩
      · obtain rfl : k = n := by omega
        rw [join_end] at hj
        have HG := Lib.hid hg; have HR := Lib.hid hr; have HO := Lib.hid ho; have HJ := Lib.hid hj
        clear hg hr ho hj HH hL hl
        subst hv
        go_wp2
        go_ret
        exact Got.some HJ.out HG.out HO.out HR.out
  · have hN : listP s = none := by rw [list_some, some_eq, int_none hp]
    exact ⟨rfl, Got.none hN hg⟩
end Go.Proofs.Ytlbhkendbngmaaa.Wi
