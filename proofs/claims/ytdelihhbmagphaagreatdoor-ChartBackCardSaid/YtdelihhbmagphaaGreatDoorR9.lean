/- Own texts, joined: Et, Eu, F1. -/
import Derived.Test.YtdelihhbmagphaaGreatDoorR8
namespace Go.Proofs.YtdelihhbmagphaaGreatDoor
open Go.RowKit
theorem Tryz.infoPiece : (Tryz.prog.info? 183).map (fun i => (i.zero, i.size, i.bytes)) = some (some (.agg #[.string ByteArray.empty, .int .i64 0]), 2, 24) := by kernel_rfl
structure OwnP (w : World) (st : List Pc) (v : Value) (w' : World) : Prop where
 own : w'.ownsRow w.heap.size 183 2 v st.length (flatP st)
 below : Below w.heap.size w w'
structure ShK (cs : List CM) (k : Nat) (st : List Pc) : Prop where
 stk : stackP (cs.take k) = st
 run : runB (cs.drop k) st.length = some 1
 sum : sumP st ≤ 110 * k
 len : st.length ≤ k
theorem ShK.next {cs : List CM} {k : Nat} {st : List Pc} (h : ShK cs k st) (hk : k < cs.length) : formedB cs[k] = true ∧ operN cs[k].op ≤ st.length ∧ ShK cs (k + 1) (stepP st cs[k]) := by
 have hr := h.run
 rw [run_at hk] at hr
 split at hr
 ·rename_i hc
  refine ⟨hc.1, hc.2, ?_, ?_, ?_, ?_⟩
  ·unfold stackP
   rw [List.take_succ_eq_append_getElem hk, List.foldl_append]
   show stepP (stackP (cs.take k)) cs[k] = _
   rw [h.stk]
  ·rw [stepP_length hc.2]; exact hr
  ·have := stepP_sum (st := st) hc.1; have := h.sum; omega
  ·rw [stepP_length hc.2]; have := h.len; omega
 ·cases hr
theorem ShK.zero {cs : List CM} (h : rightB cs = true) : ShK cs 0 [] := by
 unfold rightB at h
 simp at h
 exact ⟨rfl, h.2, by simp [sumP], by simp⟩
theorem ShK.done {cs : List CM} {st : List Pc} (h : ShK cs cs.length st) : stackP cs = st ∧ st.length = 1 := by
 have h1 := h.stk; have h2 := h.run
 rw [List.take_length] at h1
 rw [List.drop_length] at h2
 exact ⟨h1, by simpa [runB] using h2⟩
theorem own_form {w : World} {base : Nat} {e : TypeId} {size n : Nat} {v : Value} {xs : List Value} (h : w.ownsRow base e size v n xs) : (v = .slice none 0 0 ∧ n = 0) ∨ ∃ g cap, v = .slice (some ⟨g, 0, none⟩) n cap ∧ n ≤ cap ∧ cap ≤ maxLen := by
 rcases h.2 with ⟨hv, h0⟩ | ⟨g, cap, cur, hv, _, _, h1, h2, _⟩
 ·exact Or.inl ⟨hv, h0⟩
 ·exact Or.inr ⟨g, cap, hv, h1, h2⟩
theorem one_piece (w1 : World) (x y : Value) (t : TypeId) : ∀ (j : Nat) (u : Value), [x, y][j]? = some u → (w1.alloc (.cells #[x, y] t)).cell? ((⟨w1.heap.size, 0, none⟩ : Addr).add j) = some u := by
 intro j u hj
 match j, hj with
 | 0, hj => simp at hj; subst hj; simp [Addr.add]
 | 1, hj => simp at hj; subst hj; simp [Addr.add]
 | j + 2, hj => simp at hj
theorem piece_vals (p : Pc) : ∀ u ∈ pieceV p, u.oneCell' = true := by
 intro u hu
 simp [pieceV] at hu
 rcases hu with rfl | rfl <;> rfl
theorem box_below {w w1 : World} {b : Nat} {x y z : Value} (hb : Below w.heap.size w w1) (hl : b < w.heap.size) (h0 : w.cell? ⟨b, 0, none⟩ = some x) (h1 : w.cell? ⟨b, 1, none⟩ = some y) (h2 : w.cell? ⟨b, 2, none⟩ = some z) :
  w1.cell? ⟨b, 0, none⟩ = some x ∧ w1.cell? ⟨b, 1, none⟩ = some y ∧ w1.cell? ⟨b, 2, none⟩ = some z := ⟨(hb.cell hl).trans h0, (hb.cell hl).trans h1, (hb.cell hl).trans h2⟩
theorem box_alloc {w : World} {o : Obj} {b : Nat} {x y z : Value} (h0 : w.cell? ⟨b, 0, none⟩ = some x) (h1 : w.cell? ⟨b, 1, none⟩ = some y) (h2 : w.cell? ⟨b, 2, none⟩ = some z) :
  (w.alloc o).cell? ⟨b, 0, none⟩ = some x ∧ (w.alloc o).cell? ⟨b, 1, none⟩ = some y ∧ (w.alloc o).cell? ⟨b, 2, none⟩ = some z := ⟨(World.cell?_alloc_lt w _ _ (cell_lt h0)).trans h0, (World.cell?_alloc_lt w _ _ (cell_lt h1)).trans h1, (World.cell?_alloc_lt w _ _ (cell_lt h2)).trans h2⟩
theorem box_grown {w w1 : World} {row : Option Nat} {b : Nat} {x y z : Value} (hg : w.grownBy w1 row) (hl : b < w.heap.size) (hn : row ≠ some b) (h0 : w.cell? ⟨b, 0, none⟩ = some x) (h1 : w.cell? ⟨b, 1, none⟩ = some y) (h2 : w.cell? ⟨b, 2, none⟩ = some z) :
  w1.cell? ⟨b, 0, none⟩ = some x ∧ w1.cell? ⟨b, 1, none⟩ = some y ∧ w1.cell? ⟨b, 2, none⟩ = some z := ⟨(hg.cell_far _ hl (Ne.symm hn)).trans h0, (hg.cell_far _ hl (Ne.symm hn)).trans h1, (hg.cell_far _ hl (Ne.symm hn)).trans h2⟩
def ShowPost (cs : List CM) (w : World) (e : Ending) (w' : World) : Prop := e = .returned (.tuple #[.string ⟨(showP cs).1.toArray⟩, .int .i64 (showP cs).2]) ∧ Below w.heap.size w w'
theorem ShowPost.of {cs : List CM} {w w' : World} {X : ByteArray} {n : Int} (hX : X.data.toList = (showP cs).1) (hn : n = (showP cs).2) (hb : Below w.heap.size w w') : ShowPost cs w (.returned (.tuple #[.string X, .int .i64 n])) w' := by
 subst hn; unfold ShowPost; rw [← hX]; exact ⟨rfl, hb⟩
theorem OwnP.step {w wr w1 w2 : World} {st : List Pc} {v v' : Value} {c : CM} {n0 : Nat} {p : Pc} (h : OwnP w st v wr) (hn : st.length - operN c.op = n0) (hp : joinP c ((st.drop (st.length - operN c.op)).getD 0 none0) ((st.drop (st.length - operN c.op)).getD 1 none0) = p) (hb : Below wr.heap.size wr w1) {vp : Value} (hvp : vp.ownBlock = v.ownBlock)
  (hown : w2.ownsRow w.heap.size 183 2 v' (n0 + 1) (flatP (st.take n0) ++ pieceV p)) (hg : w1.grownBy w2 vp.ownBlock) (hle : n0 ≤ st.length) : OwnP w (stepP st c) v' w2 := by
 have e : stepP st c = st.take n0 ++ [p] := by unfold stepP; rw [hp, hn]
 refine ⟨?_, ?_⟩
 ·rw [e, flatP_append, flatP_one, List.length_append, List.length_take, Nat.min_eq_left hle]
  exact hown
 ·have h1 := h.below.trans (hb.mono h.below.size)
  exact h1.grown hg h1.size (fun k hk => by rw [hvp] at hk; exact (h.own.lt k hk).1)
set_option maxRecDepth 100000 in
set_option maxHeartbeats 4000000 in
theorem show_right (v : Value) (cs : List CM) (w : World) (hR : RdC w v cs) (hB : rightB cs = true) (hO : Ops w) (hL : Laid w) :
  Calls Tryz.prog 100 #[v] w (ShowPost cs w) := by
 have hl32 : cs.length ≤ 32 := by unfold rightB at hB; simp at hB; exact hB.1
 have HRG := Lib.hid (right_any v cs w hR (by omega))
 have HSH : Hid (∀ st, ShK cs cs.length st → (showP cs).1 = (st.getD 0 none0).1 ∧ (showP cs).2 = 0 ∧ st.length = 1) := by
  intro st h
  obtain ⟨h1, h2⟩ := h.done
  unfold showP
  rw [if_pos hB, h1]
  exact ⟨rfl, rfl, h2⟩
 have HBT := Lib.hid hB
 have HZ := Lib.hid (ShK.zero hB)
 clear hB
 have hRR := Lib.hid hR
 obtain ⟨A, c, rfl, hr⟩ := hR
 have HR := Lib.hid hr; clear hr
 obtain ⟨n, hn⟩ : ∃ n, cs.length = n := ⟨_, rfl⟩
 have HN := Lib.hid hn
 rw [hn] at hl32 HSH HRG ⊢
 clear hn
 obtain ⟨i0, hi0, hz0, hz1, hz2⟩ := info_parts Tryz.infoPiece
 have HI := Lib.hid hi0; have HZ0 := Lib.hid hz0; have HZ1 := Lib.hid hz1; have HZ2 := Lib.hid hz2
 have HO := Lib.hid hO; have HL := Lib.hid hL
 clear hi0 hz0 hz1 hz2 hO hL
 go_enter Tryz.func100, Tryz.ntmps100
 go_wp2_with fail
 refine HRG.out.mono ?_
 rintro e w0 ⟨rfl, hb0⟩
 rw [HBT.out]
 have HB0 := Lib.hid hb0; clear hb0
 go_wp2
 go_loopw [4, 13] (fun lv i wr => ∃ k st, k ≤ n ∧ i = .int .i64 (k : Int) ∧ Hid (ShK cs k st) ∧ OwnP w st lv wr) (fun _ i _ => n - (intOf i).toNat)
 case atStart => exact ⟨0, [], by omega, rfl, HZ.out, ⟨World.ownsRow_nil _ _ _ _, HB0.out⟩⟩
 case round =>
  obtain ⟨k, st, hk, rfl, HK, hP⟩ := hrel
  have HP := Lib.hid hP; clear hP
  by_cases hkn : k < n
  ·obtain ⟨hfm, hon, hnx⟩ := HK.out.next (by rw [HN.out]; exact hkn)
   have HNX := Lib.hid hnx; clear hnx
   obtain ⟨b, o, rfl, d0, d1, d2⟩ := HR.out k (by rw [HN.out]; exact hkn)
   obtain ⟨cc, hcc⟩ : ∃ cc, cs[k]'(by rw [HN.out]; exact hkn) = cc := ⟨_, rfl⟩
   rw [hcc] at d0 d1 d2 hfm hon HNX
   clear hcc
   have e0 := (HP.out.below.cell (cell_lt d0)).trans d0
   have e1 := (HP.out.below.cell (cell_lt d1)).trans d1
   have e2 := (HP.out.below.cell (cell_lt d2)).trans d2
   clear d0 d1 d2
   obtain ⟨X, hX⟩ : ∃ X : ByteArray, bstr cc.nm = .string X := ⟨_, rfl⟩
   rw [hX] at e2
   have HXX := Lib.hid hX; clear hX
   have hLr := Lib.hid (HL.out.below HP.out.below)
   have hOr := Lib.hid (HO.out.below HP.out.below)
   have hst := HK.out.len
   have hsum := HK.out.sum
   have HFM := Lib.hid hfm; clear hfm
   obtain ⟨n0, hn0⟩ : ∃ n0, st.length - operN cc.op = n0 := ⟨_, rfl⟩
   have hN3 := operN_le cc.op
   obtain ⟨N, hNN⟩ : ∃ N, operN cc.op = N := ⟨_, rfl⟩
   have HNN := Lib.hid hNN; have HN0 := Lib.hid hn0
   rw [hNN] at hn0 hon hN3
   have hsl : st.length = n0 + N := by omega
   have HSL := Lib.hid hsl
   have hop := Lib.hid (operands_any cc.op)
   rw [hNN] at hop
   clear hNN
   have hown := HP.out.own
   rw [hsl] at hown
   have hform := own_form hown
   have HOT := Lib.hid (own_take (A := none) (cap := 0) (N := N) (n := n0) (e := 0) (base := 0) (w := wr) (size := 2) (xs := []))
   clear HOT hn0 hsl
   have hcs : N = 0 ∨ N = 1 ∨ N = 2 := by omega
   rcases hcs with rfl | rfl | rfl
   ·rcases hform with ⟨rfl, h0⟩ | ⟨g, cap, rfl, hcap, hcm⟩
    ·obtain rfl : n0 = 0 := by omega
     have hsl2 : 0 ≤ st.length := by have := HSL.out; omega
     have HTK := Lib.hid (own_take hown)
     obtain ⟨pp, hpp⟩ : ∃ pp, joinP cc ((st.drop (st.length - operN cc.op)).getD 0 none0) ((st.drop (st.length - operN cc.op)).getD 1 none0) = pp := ⟨_, rfl⟩
     have HPP := Lib.hid hpp
     obtain ⟨Y, hY⟩ : ∃ Y : ByteArray, (⟨pp.1.toArray⟩ : ByteArray) = Y := ⟨_, rfl⟩
     obtain ⟨pn, hpn⟩ : ∃ pn, pp.2 = pn := ⟨_, rfl⟩
     have HY : Hid ([Value.string Y, .int .i64 pn] = pieceV pp) := by rw [← hY, ← hpn]; rfl
     have hY1 : ∀ u ∈ [Value.string Y, .int .i64 pn], u.oneCell' = true := by rw [HY.out]; exact piece_vals pp
     have HY1 := Lib.hid hY1
     have HJ : Hid (∀ (o : Obj) (vu : Value), Calls Tryz.prog 138 #[.agg #[.int .i64 cc.op, .int .i64 cc.a, .string X], vu] (wr.alloc o).drew fun e w' => e = .returned (.agg #[.string Y, .int .i64 pn]) ∧ Below (wr.alloc o).drew.heap.size (wr.alloc o).drew w') := by
      intro o vu
      show Calls _ _ _ _ _
      rw [← hY, ← hpn]
      change Calls _ _ _ _ (JoinPost pp (wr.alloc o).drew)
      rw [← hpp, ← HXX.out]
      exact joined_none HFM.out HNN.out _ _ vu _ ((hLr.out.below ((Below.refl _ _).alloc (Nat.le_refl _) o)).below (Below.refl _ _).drew)
     clear hY hpn hY1 hpp
     have HNB : Hid ((Value.slice none 0 0).ownBlock ≠ some wr.heap.size) := by
      show _ ≠ _
      simp [Value.ownBlock]
     have HOWN : Hid (∀ w1, Below (wr.alloc (.cells #[.int .i64 cc.op, .int .i64 cc.a, .string X] 96)).drew.heap.size (wr.alloc (.cells #[.int .i64 cc.op, .int .i64 cc.a, .string X] 96)).drew w1 → w1.ownsRow w.heap.size 183 2 (.slice none 0 0) 0 (flatP (st.take 0))) := by
      intro w1 hb1
      have hB : Below wr.heap.size wr w1 := (((Below.refl _ _).alloc (Nat.le_refl _) _).drew).trans (hb1.mono (by show _ ≤ (wr.alloc _).heap.size; simp))
      have := own_below HTK.out hB
      rw [flatP_take] at this
      exact this
     clear hown
     go_wp2_with fail
     refine (hop.out _).mono ?_
     rintro e w1 ⟨rfl, rfl⟩
     go_wp2
     have HZZ : Hid (∀ w1, Below (wr.alloc (.cells #[.int .i64 cc.op, .int .i64 cc.a, .string X] 96)).drew.heap.size (wr.alloc (.cells #[.int .i64 cc.op, .int .i64 cc.a, .string X] 96)).drew w1 → wr.heap.size + 1 ≤ w1.heap.size) := by
      intro w1 hb1
      have := hb1.size
      have e : (wr.alloc (.cells #[.int .i64 cc.op, .int .i64 cc.a, .string X] 96)).drew.heap.size = wr.heap.size + 1 := by
       show (wr.alloc _).heap.size = _
       simp
      omega
     have hww := HP.out.below.size
     go_region_held3 (fun w' => w'.cell? ⟨wr.heap.size, 0, none⟩ = some (.int .i64 cc.op) ∧ w'.cell? ⟨wr.heap.size, 1, none⟩ = some (.int .i64 cc.a) ∧ w'.cell? ⟨wr.heap.size, 2, none⟩ = some (.string X))
      (first
       | (go_split_ands; exact box_below hb1 (by show wr.heap.size < (wr.alloc _).heap.size; simp) (by assumption) (by assumption) (by assumption))
       | (go_split_ands; exact box_grown hgrow (by simp; omega) HNB.out (by assumption) (by assumption) (by assumption))
       | (go_split_ands; exact box_alloc (by assumption) (by assumption) (by assumption))
       | go_keep)
      ((first
       | (go_at_call 138; (with_reducible refine (HJ.out _ _).mono ?_); rintro e w1 ⟨rfl, hb1⟩; have hz1 := HZZ.out _ hb1)
       | (refine step_append_lies _ (by rfl) _ _ _ (by rfl) w.heap.size 183 i0 _ 2 24 Tryz.underlying180 HI.out HZ0.out HZ1.out HZ2.out rfl (by omega) (.slice none 0 0) 0 (flatP (st.take 0)) (by rfl) ((HOWN.out _ (by first | exact hb1 | assumption)).alloc _) ⟨w1.heap.size, 0, none⟩ 1 1 [.string Y, .int .i64 pn] (by rfl) (by rfl) (one_piece w1 _ _ _) HY1.out (by omega) (by unfold maxLen; omega) (by omega) (by simp; omega) (w1.heap.size + 1) (by simp) ?_; intro gg cp w2 hown1 hgrow hat hlt)))
     have HQ : Hid (OwnP w (stepP st cc) (.slice (some ⟨gg, 0, none⟩) (0 + 1) cp) w2) := by
      rw [HY.out] at hown1
      have hB : Below wr.heap.size wr w1 := (((Below.refl _ _).alloc (Nat.le_refl _) _).drew).trans (hb1.mono (by show _ ≤ (wr.alloc _).heap.size; simp))
      exact HP.out.step HN0.out HPP.out (w1 := w1.alloc (.cells #[.string Y, .int .i64 pn] 183)) (hB.alloc (by omega) _) (vp := .slice none 0 0) rfl hown1 hgrow (by omega)
     clear hown1 hgrow hat hlt hb1
     go_wp2
     go_roundw
     case rel => exact ⟨k + 1, stepP st cc, by omega, by go_num, HNX.out, HQ.out⟩
     case measure => simp [intOf]; omega
    ·have hsl2 : n0 ≤ st.length := by have := HSL.out; omega
     have HTK := Lib.hid (own_take hown)
     obtain ⟨pp, hpp⟩ : ∃ pp, joinP cc ((st.drop (st.length - operN cc.op)).getD 0 none0) ((st.drop (st.length - operN cc.op)).getD 1 none0) = pp := ⟨_, rfl⟩
     have HPP := Lib.hid hpp
     obtain ⟨Y, hY⟩ : ∃ Y : ByteArray, (⟨pp.1.toArray⟩ : ByteArray) = Y := ⟨_, rfl⟩
     obtain ⟨pn, hpn⟩ : ∃ pn, pp.2 = pn := ⟨_, rfl⟩
     have HY : Hid ([Value.string Y, .int .i64 pn] = pieceV pp) := by rw [← hY, ← hpn]; rfl
     have hY1 : ∀ u ∈ [Value.string Y, .int .i64 pn], u.oneCell' = true := by rw [HY.out]; exact piece_vals pp
     have HY1 := Lib.hid hY1
     have HJ : Hid (∀ (o : Obj) (vu : Value), Calls Tryz.prog 138 #[.agg #[.int .i64 cc.op, .int .i64 cc.a, .string X], vu] (wr.alloc o).drew fun e w' => e = .returned (.agg #[.string Y, .int .i64 pn]) ∧ Below (wr.alloc o).drew.heap.size (wr.alloc o).drew w') := by
      intro o vu
      show Calls _ _ _ _ _
      rw [← hY, ← hpn]
      change Calls _ _ _ _ (JoinPost pp (wr.alloc o).drew)
      rw [← hpp, ← HXX.out]
      exact joined_none HFM.out HNN.out _ _ vu _ ((hLr.out.below ((Below.refl _ _).alloc (Nat.le_refl _) o)).below (Below.refl _ _).drew)
     clear hY hpn hY1 hpp
     unfold maxLen at hcm
     by_cases hce : cap = n0
     ·subst hce
      have HLT := Lib.hid (hown.lt g rfl).2
      have HNB : Hid ((Value.slice (some ⟨g, 0, none⟩) cap cap).ownBlock ≠ some wr.heap.size) := by
       intro e
       have e : g = wr.heap.size := by simpa [Value.ownBlock] using e
       have := HLT.out; omega
      have HOWN : Hid (∀ w1, Below (wr.alloc (.cells #[.int .i64 cc.op, .int .i64 cc.a, .string X] 96)).drew.heap.size (wr.alloc (.cells #[.int .i64 cc.op, .int .i64 cc.a, .string X] 96)).drew w1 → w1.ownsRow w.heap.size 183 2 (.slice (some ⟨g, 0, none⟩) cap cap) cap (flatP (st.take cap))) := by
       intro w1 hb1
       have hB : Below wr.heap.size wr w1 := (((Below.refl _ _).alloc (Nat.le_refl _) _).drew).trans (hb1.mono (by show _ ≤ (wr.alloc _).heap.size; simp))
       have := own_below HTK.out hB
       rw [flatP_take] at this
       exact this
      clear hown
      go_wp2_with fail
      refine (hop.out _).mono ?_
      rintro e w1 ⟨rfl, rfl⟩
      go_wp2
      have HZZ : Hid (∀ w1, Below (wr.alloc (.cells #[.int .i64 cc.op, .int .i64 cc.a, .string X] 96)).drew.heap.size (wr.alloc (.cells #[.int .i64 cc.op, .int .i64 cc.a, .string X] 96)).drew w1 → wr.heap.size + 1 ≤ w1.heap.size) := by
       intro w1 hb1
       have := hb1.size
       have e : (wr.alloc (.cells #[.int .i64 cc.op, .int .i64 cc.a, .string X] 96)).drew.heap.size = wr.heap.size + 1 := by
        show (wr.alloc _).heap.size = _
        simp
       omega
      have hww := HP.out.below.size
      have hbx : g ≠ wr.heap.size := by have := HLT.out; omega
      go_region_held3 (fun w' => w'.cell? ⟨wr.heap.size, 0, none⟩ = some (.int .i64 cc.op) ∧ w'.cell? ⟨wr.heap.size, 1, none⟩ = some (.int .i64 cc.a) ∧ w'.cell? ⟨wr.heap.size, 2, none⟩ = some (.string X))
       (first
        | (go_split_ands; exact box_below hb1 (by show wr.heap.size < (wr.alloc _).heap.size; simp) (by assumption) (by assumption) (by assumption))
        | (go_split_ands; exact box_grown hgrow (by simp; omega) HNB.out (by assumption) (by assumption) (by assumption))
        | (go_split_ands; exact box_alloc (by assumption) (by assumption) (by assumption))
        | go_keep)
       ((first
        | (go_at_call 138; (with_reducible refine (HJ.out _ _).mono ?_); rintro e w1 ⟨rfl, hb1⟩; have hz1 := HZZ.out _ hb1)
        | (refine step_append_lies _ (by rfl) _ _ _ (by rfl) w.heap.size 183 i0 _ 2 24 Tryz.underlying180 HI.out HZ0.out HZ1.out HZ2.out rfl (by omega) (.slice (some ⟨g, 0, none⟩) cap cap) cap (flatP (st.take cap)) (by rfl) ((HOWN.out _ (by first | exact hb1 | assumption)).alloc _) ⟨w1.heap.size, 0, none⟩ 1 1 [.string Y, .int .i64 pn] (by rfl) (by rfl) (one_piece w1 _ _ _) HY1.out (by omega) (by unfold maxLen; omega) (by omega) (by simp; omega) (w1.heap.size + 1) (by simp) ?_; intro gg cp w2 hown1 hgrow hat hlt)))
      have HQ : Hid (OwnP w (stepP st cc) (.slice (some ⟨gg, 0, none⟩) (cap + 1) cp) w2) := by
       rw [HY.out] at hown1
       have hB : Below wr.heap.size wr w1 := (((Below.refl _ _).alloc (Nat.le_refl _) _).drew).trans (hb1.mono (by show _ ≤ (wr.alloc _).heap.size; simp))
       exact HP.out.step HN0.out HPP.out (w1 := w1.alloc (.cells #[.string Y, .int .i64 pn] 183)) (hB.alloc (by omega) _) (vp := .slice (some ⟨g, 0, none⟩) cap cap) rfl hown1 hgrow (by omega)
      clear hown1 hgrow hat hlt hb1
      go_wp2
      go_roundw
      case rel => exact ⟨k + 1, stepP st cc, by omega, by go_num, HNX.out, HQ.out⟩
      case measure => simp [intOf]; omega
     ·have hcap0 : n0 ≤ cap := by omega
      have hcap1 : n0 ≠ cap := by omega
      have hcap2 : cap ≠ n0 := by omega
      have hcap3 : (n0 : Int) ≤ (cap : Int) := by omega
      have HLT := Lib.hid (hown.lt g rfl).2
      have HNB : Hid ((Value.slice (some ⟨g, 0, none⟩) n0 cap).ownBlock ≠ some wr.heap.size) := by
       intro e
       have e : g = wr.heap.size := by simpa [Value.ownBlock] using e
       have := HLT.out; omega
      have HOWN : Hid (∀ w1, Below (wr.alloc (.cells #[.int .i64 cc.op, .int .i64 cc.a, .string X] 96)).drew.heap.size (wr.alloc (.cells #[.int .i64 cc.op, .int .i64 cc.a, .string X] 96)).drew w1 → w1.ownsRow w.heap.size 183 2 (.slice (some ⟨g, 0, none⟩) n0 cap) n0 (flatP (st.take n0))) := by
       intro w1 hb1
       have hB : Below wr.heap.size wr w1 := (((Below.refl _ _).alloc (Nat.le_refl _) _).drew).trans (hb1.mono (by show _ ≤ (wr.alloc _).heap.size; simp))
       have := own_below HTK.out hB
       rw [flatP_take] at this
       exact this
      clear hown
      go_wp2_with fail
      refine (hop.out _).mono ?_
      rintro e w1 ⟨rfl, rfl⟩
      go_wp2
      have HZZ : Hid (∀ w1, Below (wr.alloc (.cells #[.int .i64 cc.op, .int .i64 cc.a, .string X] 96)).drew.heap.size (wr.alloc (.cells #[.int .i64 cc.op, .int .i64 cc.a, .string X] 96)).drew w1 → wr.heap.size + 1 ≤ w1.heap.size) := by
       intro w1 hb1
       have := hb1.size
       have e : (wr.alloc (.cells #[.int .i64 cc.op, .int .i64 cc.a, .string X] 96)).drew.heap.size = wr.heap.size + 1 := by
        show (wr.alloc _).heap.size = _
        simp
       omega
      have hww := HP.out.below.size
      have hbx : g ≠ wr.heap.size := by have := HLT.out; omega
      go_region_held3 (fun w' => w'.cell? ⟨wr.heap.size, 0, none⟩ = some (.int .i64 cc.op) ∧ w'.cell? ⟨wr.heap.size, 1, none⟩ = some (.int .i64 cc.a) ∧ w'.cell? ⟨wr.heap.size, 2, none⟩ = some (.string X))
       (first
        | (go_split_ands; exact box_below hb1 (by show wr.heap.size < (wr.alloc _).heap.size; simp) (by assumption) (by assumption) (by assumption))
        | (go_split_ands; exact box_grown hgrow (by simp; omega) HNB.out (by assumption) (by assumption) (by assumption))
        | (go_split_ands; exact box_alloc (by assumption) (by assumption) (by assumption))
        | go_keep)
       ((first
        | (go_at_call 138; (with_reducible refine (HJ.out _ _).mono ?_); rintro e w1 ⟨rfl, hb1⟩; have hz1 := HZZ.out _ hb1)
        | (refine step_append_lies _ (by rfl) _ _ _ (by rfl) w.heap.size 183 i0 _ 2 24 Tryz.underlying180 HI.out HZ0.out HZ1.out HZ2.out rfl (by omega) (.slice (some ⟨g, 0, none⟩) n0 cap) n0 (flatP (st.take n0)) (by rfl) ((HOWN.out _ (by first | exact hb1 | assumption)).alloc _) ⟨w1.heap.size, 0, none⟩ 1 1 [.string Y, .int .i64 pn] (by rfl) (by rfl) (one_piece w1 _ _ _) HY1.out (by omega) (by unfold maxLen; omega) (by omega) (by simp; omega) (w1.heap.size + 1) (by simp) ?_; intro gg cp w2 hown1 hgrow hat hlt)))
      have HQ : Hid (OwnP w (stepP st cc) (.slice (some ⟨gg, 0, none⟩) (n0 + 1) cp) w2) := by
       rw [HY.out] at hown1
       have hB : Below wr.heap.size wr w1 := (((Below.refl _ _).alloc (Nat.le_refl _) _).drew).trans (hb1.mono (by show _ ≤ (wr.alloc _).heap.size; simp))
       exact HP.out.step HN0.out HPP.out (w1 := w1.alloc (.cells #[.string Y, .int .i64 pn] 183)) (hB.alloc (by omega) _) (vp := .slice (some ⟨g, 0, none⟩) n0 cap) rfl hown1 hgrow (by omega)
      clear hown1 hgrow hat hlt hb1
      go_wp2
      go_roundw
      case rel => exact ⟨k + 1, stepP st cc, by omega, by go_num, HNX.out, HQ.out⟩
      case measure => simp [intOf]; omega
   ·rcases hform with ⟨rfl, h0⟩ | ⟨g, cap, rfl, hcap, hcm⟩
    ·omega
    ·have hsl2 : n0 + 1 ≤ st.length := by have := HSL.out; omega
     have HTK := Lib.hid (own_take hown)
     have hc := fun j hj => hown.cellAt (g := g) (cap := cap) j hj
     have hf0 := flatP_at (cs := st) (i := n0) (by omega)
     have f0 := (hc (n0 * 2) (by omega)).trans hf0.1
     have f1 := (hc (n0 * 2 + 1) (by omega)).trans hf0.2
     obtain ⟨pp, hpp⟩ : ∃ pp, joinP cc ((st.drop (st.length - operN cc.op)).getD 0 none0) ((st.drop (st.length - operN cc.op)).getD 1 none0) = pp := ⟨_, rfl⟩
     have HPP := Lib.hid hpp
     have hg0 : (st.drop (st.length - operN cc.op)).getD 0 none0 = (st[n0]'(by omega)) := by
      rw [HN0.out, List.getD_eq_getElem?_getD, List.getElem?_drop, List.getElem?_eq_getElem (by omega)]; rfl
     have hs0 := sumP_at (st := st) (i := n0)
     rw [List.getD_eq_getElem?_getD, List.getElem?_eq_getElem (by omega)] at hs0
     obtain ⟨Y, hY⟩ : ∃ Y : ByteArray, (⟨pp.1.toArray⟩ : ByteArray) = Y := ⟨_, rfl⟩
     obtain ⟨pn, hpn⟩ : ∃ pn, pp.2 = pn := ⟨_, rfl⟩
     have HY : Hid ([Value.string Y, .int .i64 pn] = pieceV pp) := by rw [← hY, ← hpn]; rfl
     have hY1 : ∀ u ∈ [Value.string Y, .int .i64 pn], u.oneCell' = true := by rw [HY.out]; exact piece_vals pp
     have HY1 := Lib.hid hY1
     have HJ : Hid (∀ o : Obj, Calls Tryz.prog 138 #[.agg #[.int .i64 cc.op, .int .i64 cc.a, .string X], .slice (some ⟨g, n0 * 2, none⟩) 1 (cap - n0)] (wr.alloc o).drew fun e w' => e = .returned (.agg #[.string Y, .int .i64 pn]) ∧ Below (wr.alloc o).drew.heap.size (wr.alloc o).drew w') := by
      intro o
      show Calls _ _ _ _ _
      rw [← hY, ← hpn]
      change Calls _ _ _ _ (JoinPost pp (wr.alloc o).drew)
      rw [← hpp, hg0, ← HXX.out]
      have k0 : ∀ j u, wr.cell? ⟨g, j, none⟩ = some u → (wr.alloc o).drew.cell? ⟨g, j, none⟩ = some u := fun j u h => (World.cell?_alloc_lt wr _ _ (cell_lt h)).trans h
      exact joined_one HFM.out HNN.out _ g (n0 * 2) (cap - n0) ⟨(st[n0]'(by omega)).1.toArray⟩ _ _ (k0 _ _ f0) (k0 _ _ f1) (by rw [size_list]; simp only [Option.getD_some] at hs0; omega)
     clear hY hpn hY1 hc hf0 f0 f1 hpp hg0 hs0
     unfold maxLen at hcm
     have hcap0 : n0 ≤ cap := by omega
     have hcap1 : n0 ≠ cap := by omega
     have hcap2 : cap ≠ n0 := by omega
     have hcap3 : (n0 : Int) ≤ (cap : Int) := by omega
     have hcap4 : (n0 : Int) ≤ (n0 : Int) + 1 := by omega
     have HLT := Lib.hid (hown.lt g rfl).2
     have HNB : Hid ((Value.slice (some ⟨g, 0, none⟩) n0 cap).ownBlock ≠ some wr.heap.size) := by
      intro e
      have e : g = wr.heap.size := by simpa [Value.ownBlock] using e
      have := HLT.out; omega
     have HOWN : Hid (∀ w1, Below (wr.alloc (.cells #[.int .i64 cc.op, .int .i64 cc.a, .string X] 96)).drew.heap.size (wr.alloc (.cells #[.int .i64 cc.op, .int .i64 cc.a, .string X] 96)).drew w1 → w1.ownsRow w.heap.size 183 2 (.slice (some ⟨g, 0, none⟩) n0 cap) n0 (flatP (st.take n0))) := by
      intro w1 hb1
      have hB : Below wr.heap.size wr w1 := (((Below.refl _ _).alloc (Nat.le_refl _) _).drew).trans (hb1.mono (by show _ ≤ (wr.alloc _).heap.size; simp))
      have := own_below HTK.out hB
      rw [flatP_take] at this
      exact this
     clear hown
     go_wp2_with fail
     refine (hop.out _).mono ?_
     rintro e w1 ⟨rfl, rfl⟩
     go_wp2
     have HZZ : Hid (∀ w1, Below (wr.alloc (.cells #[.int .i64 cc.op, .int .i64 cc.a, .string X] 96)).drew.heap.size (wr.alloc (.cells #[.int .i64 cc.op, .int .i64 cc.a, .string X] 96)).drew w1 → wr.heap.size + 1 ≤ w1.heap.size) := by
      intro w1 hb1
      have := hb1.size
      have e : (wr.alloc (.cells #[.int .i64 cc.op, .int .i64 cc.a, .string X] 96)).drew.heap.size = wr.heap.size + 1 := by
       show (wr.alloc _).heap.size = _
       simp
      omega
     have hww := HP.out.below.size
     have hbx : g ≠ wr.heap.size := by have := HLT.out; omega
     go_region_held3 (fun w' => w'.cell? ⟨wr.heap.size, 0, none⟩ = some (.int .i64 cc.op) ∧ w'.cell? ⟨wr.heap.size, 1, none⟩ = some (.int .i64 cc.a) ∧ w'.cell? ⟨wr.heap.size, 2, none⟩ = some (.string X))
      (first
       | (go_split_ands; exact box_below hb1 (by show wr.heap.size < (wr.alloc _).heap.size; simp) (by assumption) (by assumption) (by assumption))
       | (go_split_ands; exact box_grown hgrow (by simp; omega) HNB.out (by assumption) (by assumption) (by assumption))
       | (go_split_ands; exact box_alloc (by assumption) (by assumption) (by assumption))
       | go_keep)
      ((first
       | (go_at_call 138; (with_reducible refine (HJ.out _).mono ?_); rintro e w1 ⟨rfl, hb1⟩; have hz1 := HZZ.out _ hb1)
       | (refine step_append_lies _ (by rfl) _ _ _ (by rfl) w.heap.size 183 i0 _ 2 24 Tryz.underlying180 HI.out HZ0.out HZ1.out HZ2.out rfl (by omega) (.slice (some ⟨g, 0, none⟩) n0 cap) n0 (flatP (st.take n0)) (by rfl) ((HOWN.out _ (by first | exact hb1 | assumption)).alloc _) ⟨w1.heap.size, 0, none⟩ 1 1 [.string Y, .int .i64 pn] (by rfl) (by rfl) (one_piece w1 _ _ _) HY1.out (by omega) (by unfold maxLen; omega) (by omega) (by simp; omega) (w1.heap.size + 1) (by simp) ?_; intro gg cp w2 hown1 hgrow hat hlt)))
     have HQ : Hid (OwnP w (stepP st cc) (.slice (some ⟨gg, 0, none⟩) (n0 + 1) cp) w2) := by
      rw [HY.out] at hown1
      have hB : Below wr.heap.size wr w1 := (((Below.refl _ _).alloc (Nat.le_refl _) _).drew).trans (hb1.mono (by show _ ≤ (wr.alloc _).heap.size; simp))
      exact HP.out.step HN0.out HPP.out (w1 := w1.alloc (.cells #[.string Y, .int .i64 pn] 183)) (hB.alloc (by omega) _) (vp := .slice (some ⟨g, 0, none⟩) n0 cap) rfl hown1 hgrow (by omega)
     clear hown1 hgrow hat hlt hb1
     go_wp2
     go_roundw
     case rel => exact ⟨k + 1, stepP st cc, by omega, by go_num, HNX.out, HQ.out⟩
     case measure => simp [intOf]; omega
   ·rcases hform with ⟨rfl, h0⟩ | ⟨g, cap, rfl, hcap, hcm⟩
    ·omega
    ·have hsl2 : n0 + 2 ≤ st.length := by have := HSL.out; omega
     have HTK := Lib.hid (own_take hown)
     have hc := fun j hj => hown.cellAt (g := g) (cap := cap) j hj
     have hf0 := flatP_at (cs := st) (i := n0) (by omega)
     have hf1 := flatP_at (cs := st) (i := n0 + 1) (by omega)
     have f0 := (hc (n0 * 2) (by omega)).trans hf0.1
     have f1 := (hc (n0 * 2 + 1) (by omega)).trans hf0.2
     have f2 := (hc (n0 * 2 + 2) (by omega)).trans ((congrArg (fun j => (flatP st)[j]?) (by omega)).trans hf1.1)
     have f3 := (hc (n0 * 2 + 2 + 1) (by omega)).trans ((congrArg (fun j => (flatP st)[j]?) (by omega)).trans hf1.2)
     obtain ⟨pp, hpp⟩ : ∃ pp, joinP cc ((st.drop (st.length - operN cc.op)).getD 0 none0) ((st.drop (st.length - operN cc.op)).getD 1 none0) = pp := ⟨_, rfl⟩
     have HPP := Lib.hid hpp
     have hg0 : (st.drop (st.length - operN cc.op)).getD 0 none0 = (st[n0]'(by omega)) := by
      rw [HN0.out, List.getD_eq_getElem?_getD, List.getElem?_drop, List.getElem?_eq_getElem (by omega)]; rfl
     have hg1 : (st.drop (st.length - operN cc.op)).getD 1 none0 = (st[n0 + 1]'(by omega)) := by
      rw [HN0.out, List.getD_eq_getElem?_getD, List.getElem?_drop, List.getElem?_eq_getElem (by omega)]; rfl
     have hs0 := sumP_at (st := st) (i := n0)
     have hs1 := sumP_at (st := st) (i := n0 + 1)
     rw [List.getD_eq_getElem?_getD, List.getElem?_eq_getElem (by omega)] at hs0 hs1
     obtain ⟨Y, hY⟩ : ∃ Y : ByteArray, (⟨pp.1.toArray⟩ : ByteArray) = Y := ⟨_, rfl⟩
     obtain ⟨pn, hpn⟩ : ∃ pn, pp.2 = pn := ⟨_, rfl⟩
     have HY : Hid ([Value.string Y, .int .i64 pn] = pieceV pp) := by rw [← hY, ← hpn]; rfl
     have hY1 : ∀ u ∈ [Value.string Y, .int .i64 pn], u.oneCell' = true := by rw [HY.out]; exact piece_vals pp
     have HY1 := Lib.hid hY1
     have HJ : Hid (∀ o : Obj, Calls Tryz.prog 138 #[.agg #[.int .i64 cc.op, .int .i64 cc.a, .string X], .slice (some ⟨g, n0 * 2, none⟩) 2 (cap - n0)] (wr.alloc o).drew fun e w' => e = .returned (.agg #[.string Y, .int .i64 pn]) ∧ Below (wr.alloc o).drew.heap.size (wr.alloc o).drew w') := by
      intro o
      show Calls _ _ _ _ _
      rw [← hY, ← hpn]
      change Calls _ _ _ _ (JoinPost pp (wr.alloc o).drew)
      rw [← hpp, hg0, hg1, ← HXX.out]
      have k0 : ∀ j u, wr.cell? ⟨g, j, none⟩ = some u → (wr.alloc o).drew.cell? ⟨g, j, none⟩ = some u := fun j u h => (World.cell?_alloc_lt wr _ _ (cell_lt h)).trans h
      exact joined_pair HFM.out HNN.out g (n0 * 2) (cap - n0) ⟨(st[n0]'(by omega)).1.toArray⟩ ⟨(st[n0 + 1]'(by omega)).1.toArray⟩ _ _ _ ((hOr.out.below ((Below.refl _ _).alloc (Nat.le_refl _) o)).below (Below.refl _ _).drew) (k0 _ _ f0) (k0 _ _ f1) (k0 _ _ f2) (k0 _ _ f3)
       (by rw [size_list]; simp only [Option.getD_some] at hs0; omega) (by rw [size_list]; simp only [Option.getD_some] at hs1; omega)
     clear hY hpn hY1 hc hf0 hf1 f0 f1 f2 f3 hpp hg0 hg1 hs0 hs1
     unfold maxLen at hcm
     have hcap0 : n0 ≤ cap := by omega
     have hcap1 : n0 ≠ cap := by omega
     have hcap2 : cap ≠ n0 := by omega
     have hcap3 : (n0 : Int) ≤ (cap : Int) := by omega
     have hcap4 : (n0 : Int) ≤ (n0 : Int) + 2 := by omega
     have HLT := Lib.hid (hown.lt g rfl).2
     have HNB : Hid ((Value.slice (some ⟨g, 0, none⟩) n0 cap).ownBlock ≠ some wr.heap.size) := by
      intro e
      have e : g = wr.heap.size := by simpa [Value.ownBlock] using e
      have := HLT.out; omega
     have HOWN : Hid (∀ w1, Below (wr.alloc (.cells #[.int .i64 cc.op, .int .i64 cc.a, .string X] 96)).drew.heap.size (wr.alloc (.cells #[.int .i64 cc.op, .int .i64 cc.a, .string X] 96)).drew w1 → w1.ownsRow w.heap.size 183 2 (.slice (some ⟨g, 0, none⟩) n0 cap) n0 (flatP (st.take n0))) := by
      intro w1 hb1
      have hB : Below wr.heap.size wr w1 := (((Below.refl _ _).alloc (Nat.le_refl _) _).drew).trans (hb1.mono (by show _ ≤ (wr.alloc _).heap.size; simp))
      have := own_below HTK.out hB
      rw [flatP_take] at this
      exact this
     clear hown
     go_wp2_with fail
     refine (hop.out _).mono ?_
     rintro e w1 ⟨rfl, rfl⟩
     go_wp2
     have HZZ : Hid (∀ w1, Below (wr.alloc (.cells #[.int .i64 cc.op, .int .i64 cc.a, .string X] 96)).drew.heap.size (wr.alloc (.cells #[.int .i64 cc.op, .int .i64 cc.a, .string X] 96)).drew w1 → wr.heap.size + 1 ≤ w1.heap.size) := by
      intro w1 hb1
      have := hb1.size
      have e : (wr.alloc (.cells #[.int .i64 cc.op, .int .i64 cc.a, .string X] 96)).drew.heap.size = wr.heap.size + 1 := by
       show (wr.alloc _).heap.size = _
       simp
      omega
     have hww := HP.out.below.size
     have hbx : g ≠ wr.heap.size := by have := HLT.out; omega
     go_region_held3 (fun w' => w'.cell? ⟨wr.heap.size, 0, none⟩ = some (.int .i64 cc.op) ∧ w'.cell? ⟨wr.heap.size, 1, none⟩ = some (.int .i64 cc.a) ∧ w'.cell? ⟨wr.heap.size, 2, none⟩ = some (.string X))
      (first
       | (go_split_ands; exact box_below hb1 (by show wr.heap.size < (wr.alloc _).heap.size; simp) (by assumption) (by assumption) (by assumption))
       | (go_split_ands; exact box_grown hgrow (by simp; omega) HNB.out (by assumption) (by assumption) (by assumption))
       | (go_split_ands; exact box_alloc (by assumption) (by assumption) (by assumption))
       | go_keep)
      ((first
       | (go_at_call 138; (with_reducible refine (HJ.out _).mono ?_); rintro e w1 ⟨rfl, hb1⟩; have hz1 := HZZ.out _ hb1)
       | (refine step_append_lies _ (by rfl) _ _ _ (by rfl) w.heap.size 183 i0 _ 2 24 Tryz.underlying180 HI.out HZ0.out HZ1.out HZ2.out rfl (by omega) (.slice (some ⟨g, 0, none⟩) n0 cap) n0 (flatP (st.take n0)) (by rfl) ((HOWN.out _ (by first | exact hb1 | assumption)).alloc _) ⟨w1.heap.size, 0, none⟩ 1 1 [.string Y, .int .i64 pn] (by rfl) (by rfl) (one_piece w1 _ _ _) HY1.out (by omega) (by unfold maxLen; omega) (by omega) (by simp; omega) (w1.heap.size + 1) (by simp) ?_; intro gg cp w2 hown1 hgrow hat hlt)))
     have HQ : Hid (OwnP w (stepP st cc) (.slice (some ⟨gg, 0, none⟩) (n0 + 1) cp) w2) := by
      rw [HY.out] at hown1
      have hB : Below wr.heap.size wr w1 := (((Below.refl _ _).alloc (Nat.le_refl _) _).drew).trans (hb1.mono (by show _ ≤ (wr.alloc _).heap.size; simp))
      exact HP.out.step HN0.out HPP.out (w1 := w1.alloc (.cells #[.string Y, .int .i64 pn] 183)) (hB.alloc (by omega) _) (vp := .slice (some ⟨g, 0, none⟩) n0 cap) rfl hown1 hgrow (by omega)
     clear hown1 hgrow hat hlt hb1
     go_wp2
     go_roundw
     case rel => exact ⟨k + 1, stepP st cc, by omega, by go_num, HNX.out, HQ.out⟩
     case measure => simp [intOf]; omega
  ·obtain rfl : k = n := by omega
   have hfin := HSH.out st HK.out
   obtain ⟨h1, h2, h3⟩ := hfin
   have hown := HP.out.own
   rcases own_form hown with ⟨rfl, h0⟩ | ⟨g, cap, rfl, hcap, hcm⟩
   ·omega
   ·have hf0 := flatP_at (cs := st) (i := 0) (by omega)
    have f0 := (hown.cellAt (g := g) (cap := cap) 0 (by omega)).trans hf0.1
    obtain ⟨Z, hZ⟩ : ∃ Z : ByteArray, bstr (st[0]'(by omega)).1 = .string Z ∧ Z.data.toList = (st[0]'(by omega)).1 := ⟨⟨(st[0]'(by omega)).1.toArray⟩, rfl, rfl⟩
    rw [hZ.1] at f0
    have hZ2 : Z.data.toList = (showP cs).1 := by
     rw [h1, hZ.2, List.getD_eq_getElem?_getD, List.getElem?_eq_getElem (by omega)]; rfl
    have HZ2 := Lib.hid hZ2; have H2 := Lib.hid h2
    have h3' : 0 < st.length := by omega
    have hBB := Lib.hid HP.out.below
    clear hown hf0 hZ hZ2 h1 h2 h3
    go_wp2
    go_ret2
    exact ShowPost.of HZ2.out H2.out.symm hBB.out
theorem show_wrong (v : Value) (cs : List CM) (w : World) (hR : RdC w v cs) (hB : rightB cs = false) (hl : cs.length ≤ 4611686018427387904) :
  Calls Tryz.prog 100 #[v] w (ShowPost cs w) := by
 have HRG := Lib.hid (right_any v cs w hR hl)
 have hS : showP cs = ([], 1) := by unfold showP; rw [hB, if_neg (by decide)]
 have HS := Lib.hid hS
 have HB := Lib.hid hB
 obtain ⟨A, c, rfl, hr⟩ := hR
 clear hr hS hB
 go_enter Tryz.func100, Tryz.ntmps100
 go_wp2_with fail
 refine HRG.out.mono ?_
 rintro e w0 ⟨rfl, hb0⟩
 rw [HB.out]
 have HB0 := Lib.hid hb0; clear hb0
 go_wp2
 go_ret2
 exact ShowPost.of (by rw [HS.out]) (by rw [HS.out]) HB0.out
theorem show_any (v : Value) (cs : List CM) (w : World) (hR : RdC w v cs) (hl : cs.length ≤ 4611686018427387904) (hO : Ops w) (hL : Laid w) :
  Calls Tryz.prog 100 #[v] w (ShowPost cs w) := by
 cases hB : rightB cs
 ·exact show_wrong v cs w hR hB hl
 ·exact show_right v cs w hR hB hO hL
end Go.Proofs.YtdelihhbmagphaaGreatDoor
namespace Go.Proofs.YtdelihhbmagphaaGreatDoor
open Go.RowKit
def RdI (w : World) (v : Value) (cs : List CM) : Prop := (v = .slice none 0 0 ∧ cs = []) ∨ ∃ ad c, v = .slice (some ad) cs.length c ∧ RdC w v cs
theorem RdI.rd {w : World} {v : Value} {cs : List CM} (h : RdI w v cs) : RdC w v cs := by
 rcases h with ⟨rfl, rfl⟩ | ⟨_, _, _, h⟩
 ·exact ⟨_, _, rfl, fun i hi => absurd hi (by simp)⟩
 ·exact h
theorem RdI.below {w w' : World} {v : Value} {cs : List CM} (h : RdI w v cs) (hb : Below w.heap.size w w') : RdI w' v cs := by
 rcases h with h | ⟨ad, c, e, h⟩
 ·exact Or.inl h
 ·exact Or.inr ⟨ad, c, e, h.below hb⟩
theorem add_lit' (b o n : Nat) : (⟨b, o, none⟩ : Addr).add n = ⟨b, o + n, none⟩ := by unfold Addr.add; by_cases h : n = 0 <;> simp [h]
theorem cm_eq {a b : CM} : a = b ↔ a.op = b.op ∧ a.a = b.a ∧ a.nm = b.nm := by cases a; cases b; simp
set_option maxRecDepth 100000 in
set_option maxHeartbeats 2000000 in
theorem same_any (va vb : Value) (xs ys : List CM) (w : World) (ha : RdC w va xs) (hb : RdC w vb ys) (hx : xs.length ≤ 140737488355328) :
  Calls Tryz.prog 24 #[va, vb] w fun e w' => e = .returned (.bool (decide (xs = ys))) ∧ ∃ n, w' = w.drewN n := by
 obtain ⟨A, c, rfl, ha⟩ := ha
 obtain ⟨B, d, rfl, hb⟩ := hb
 have HA := Lib.hid ha; have HB := Lib.hid hb; clear ha hb
 by_cases hlen : xs.length = ys.length
 ·obtain ⟨n, hxl⟩ : ∃ n, xs.length = n := ⟨_, rfl⟩
  have hyl : ys.length = n := by omega
  rw [hxl] at hx
  have HXL := Lib.hid hxl; have HYL := Lib.hid hyl
  rw [hxl, hyl]
  clear hlen hxl hyl
  have hr : ∀ k, xs.take k = ys.take k → ¬ k < n → decide (xs = ys) = true := by
   intro k h hk
   rw [List.take_of_length_le (by rw [HXL.out]; omega), List.take_of_length_le (by rw [HYL.out]; omega)] at h
   exact decide_eq_true h
  have HR := Lib.hid hr; clear hr
  go_enter Tryz.func24, Tryz.ntmps24
  go_wp2
  go_loopw [4, 5] (fun x i wr => x = .bool false ∧ ∃ k m : Nat, k ≤ n ∧ Hid (xs.take k = ys.take k) ∧ wr = w.drewN m ∧ i = .int .i64 k) (fun _ i _ => n - (intOf i).toNat)
  case atStart => exact ⟨rfl, 0, 0, by omega, rfl, rfl, rfl⟩
  case round =>
   obtain ⟨rfl, k, m, hk, HT, rfl, rfl⟩ := hrel
   by_cases hkn : k < n
   ·obtain ⟨b1, o1, rfl, c0, c1, c2⟩ := HA.out k (by rw [HXL.out]; exact hkn)
    obtain ⟨b2, o2, rfl, d0, d1, d2⟩ := HB.out k (by rw [HYL.out]; exact hkn)
    unfold bstr at c2 d2
    obtain ⟨X, hX⟩ : ∃ X : ByteArray, X = ⟨(xs[k]'(by rw [HXL.out]; exact hkn)).nm.toArray⟩ := ⟨_, rfl⟩
    obtain ⟨Y, hY⟩ : ∃ Y : ByteArray, Y = ⟨(ys[k]'(by rw [HYL.out]; exact hkn)).nm.toArray⟩ := ⟨_, rfl⟩
    obtain ⟨x1, hx1⟩ : ∃ z, (xs[k]'(by rw [HXL.out]; exact hkn)).op = z := ⟨_, rfl⟩
    obtain ⟨x2, hx2⟩ : ∃ z, (xs[k]'(by rw [HXL.out]; exact hkn)).a = z := ⟨_, rfl⟩
    obtain ⟨y1, hy1⟩ : ∃ z, (ys[k]'(by rw [HYL.out]; exact hkn)).op = z := ⟨_, rfl⟩
    obtain ⟨y2, hy2⟩ : ∃ z, (ys[k]'(by rw [HYL.out]; exact hkn)).a = z := ⟨_, rfl⟩
    rw [← hX] at c2; rw [← hY] at d2
    rw [hx1] at c0; rw [hx2] at c1; rw [hy1] at d0; rw [hy2] at d1
    have hXl : X.data.toList = (xs[k]'(by rw [HXL.out]; exact hkn)).nm := by rw [hX]
    have hYl : Y.data.toList = (ys[k]'(by rw [HYL.out]; exact hkn)).nm := by rw [hY]
    have hE : xs[k]'(by rw [HXL.out]; exact hkn) = ys[k]'(by rw [HYL.out]; exact hkn) ↔ x1 = y1 ∧ x2 = y2 ∧ X.data.toList = Y.data.toList := by rw [cm_eq, hx1, hx2, hy1, hy2, hXl, hYl]
    have HE := Lib.hid hE
    clear hX hY hx1 hx2 hy1 hy2 hXl hYl hE
    have hno : (¬ (x1 = y1 ∧ x2 = y2 ∧ X.data.toList = Y.data.toList)) → decide (xs = ys) = false := fun h => decide_eq_false (fun e => h (HE.out.1 (by subst e; rfl)))
    have HNO := Lib.hid hno; clear hno
    by_cases e1 : x1 = y1
    ·subst e1
     by_cases e2 : x2 = y2
     ·subst e2
      by_cases e3 : X.data.toList = Y.data.toList
      ·have hs : xs.take (k + 1) = ys.take (k + 1) := by
        rw [List.take_succ_eq_append_getElem (by rw [HXL.out]; exact hkn), List.take_succ_eq_append_getElem (by rw [HYL.out]; exact hkn), HT.out, HE.out.2 ⟨rfl, rfl, e3⟩]
       have HS := Lib.hid hs; clear hs
       obtain rfl : X = Y := by apply ByteArray.ext; exact Array.toList_inj.1 e3
       clear e3
       go_wp2
       go_quiet (fail)
       go_wp2
       go_roundw
       case rel => exact ⟨rfl, k + 1, m + nq, by omega, HS.out, rfl, by go_num⟩
       case measure => simp [intOf]; omega
      ·have hne : (X.toList == Y.toList) = false := by
        rw [Lib.toList_data, Lib.toList_data]
        exact beq_eq_false_iff_ne.2 e3
       have HD := Lib.hid (HNO.out (fun h => e3 h.2.2))
       clear e3
       go_wp2
       go_quiet (fail)
       go_wp2
       go_ret
       exact ⟨ret_bool HD.out.symm, m + nq, World.drewN_drewN _ _ _⟩
     ·have t2 := int_ne e2
      have HD := Lib.hid (HNO.out (fun h => e2 h.2.1))
      clear e2
      go_wp2
      go_quiet (fail)
      go_wp2
      go_ret
      exact ⟨ret_bool HD.out.symm, m + nq, World.drewN_drewN _ _ _⟩
    ·have t1 := int_ne e1
     have HD := Lib.hid (HNO.out (fun h => e1 h.1))
     clear e1
     go_wp2
     go_quiet (fail)
     go_wp2
     go_ret
     exact ⟨ret_bool HD.out.symm, m + nq, World.drewN_drewN _ _ _⟩
   ·have HD := Lib.hid (HR.out k HT.out hkn)
    go_wp2
    go_ret
    exact ⟨ret_bool HD.out.symm, m, rfl⟩
 ·have hr : decide (xs = ys) = false := decide_eq_false (fun e => hlen (by rw [e]))
  have hl' : ((xs.length : Int) == (ys.length : Int)) = false := beq_eq_false_iff_ne.2 (by omega)
  rw [hr]; clear hr hlen
  go_enter Tryz.func24, Tryz.ntmps24
  go_wp2
  go_ret
  exact ⟨rfl, 0, rfl⟩
theorem own_slice {w : World} {base : Nat} {e : TypeId} {size n : Nat} {v : Value} {xs : List Value} (h : w.ownsRow base e size v n xs) : ∃ A c, v = .slice A n c := by
 rcases own_form h with ⟨rfl, rfl⟩ | ⟨g, cap, rfl, _⟩
 ·exact ⟨_, _, rfl⟩
 ·exact ⟨_, _, rfl⟩
end Go.Proofs.YtdelihhbmagphaaGreatDoor
namespace Go.Proofs.YtdelihhbmagphaaGreatDoor
open Go.RowKit
theorem ret_int {k : IntKind} {a b : Int} (h : a = b) : Ending.returned (.int k a) = .returned (.int k b) := by rw [h]
end Go.Proofs.YtdelihhbmagphaaGreatDoor
