/- Own texts, joined: Vj, Vk. -/
import Derived.Test.YtjjoffadieoaaaaGreatDoorZ17
import Derived.StillTailTactics
namespace Go.Proofs.YtjjoffadieoaaaaGreatDoor
open Go.RowKit

/-- the places of an operand in memory -/
def opL (v : VA) : List Value := [.int .i64 v.kd, .int .i64 (if v.kd = 1 then v.a else 0), .bool (decide (v.kd = 2 ∧ v.a = 1)), .complex .f64 (fl (if v.kd = 3 then v.a else 0)) (fl (if v.kd = 3 then v.b else 0))]
theorem opV_form (v : VA) : ∃ k x t c1 c2, opV v = .agg #[.int .i64 k, .int .i64 x, .bool t, .complex .f64 c1 c2] ∧ opL v = [.int .i64 k, .int .i64 x, .bool t, .complex .f64 c1 c2] := ⟨_, _, _, _, _, rfl, rfl⟩
/-- an operand at a place -/
def OpAt (w : World) (b o : Nat) (v : VA) : Prop := ∀ j u, (opL v)[j]? = some u → w.cell? ⟨b, o + j, none⟩ = some u
theorem OpAt.below {w w' : World} {b o : Nat} {v : VA} (h : OpAt w b o v) (hb : Below w.heap.size w w') : OpAt w' b o v := fun j u hu => (hb.cell (cell_lt (h j u hu))).trans (h j u hu)
theorem OpAt.at_ {w : World} {b o : Nat} {v : VA} {k x : Int} {t : Bool} {c1 c2 : Nat} (h : OpAt w b o v) (he : opL v = [.int .i64 k, .int .i64 x, .bool t, .complex .f64 c1 c2]) :
    w.cell? ⟨b, o, none⟩ = some (.int .i64 k) ∧ w.cell? ⟨b, o + 1, none⟩ = some (.int .i64 x) ∧ w.cell? ⟨b, o + 2, none⟩ = some (.bool t) ∧ w.cell? ⟨b, o + 3, none⟩ = some (.complex .f64 c1 c2) := by
  unfold OpAt at h
  rw [he] at h
  exact ⟨h 0 _ rfl, h 1 _ rfl, h 2 _ rfl, h 3 _ rfl⟩

set_option maxRecDepth 100000 in
set_option maxHeartbeats 2000000 in
theorem done0_any (vs : List VM) (xs : List VA) (ss : List (List UInt8)) (V X S : Option Addr) (vc xc sc : Nat) (op a : Int) (N : ByteArray) (U : Option Addr) (uc : Nat) (w : World) (hop : 1 ≤ op ∧ op ≤ 6) (h2 : op = 2 → inB a = true) (hV : RdV w (.slice V vs.length vc) vs) (hX : RdX w (.slice X xs.length xc) xs) (hS : RdW w (.slice S ss.length sc) ss) (hvl : vs.length ≤ 4611686018427387904) (hsl : ss.length ≤ 4611686018427387904) (hl : vs.length = xs.length) (hx : ∀ v ∈ xs, OkV v) :
    Calls Tryz.prog 95 #[.agg #[.slice V vs.length vc, .slice X xs.length xc, .slice S ss.length sc], .agg #[.int .i64 op, .int .i64 a, .string N], .slice U 0 uc] w fun e w' => e = outV (leafE vs xs ss ⟨op, a, N.data.toList⟩) ∧ Below w.heap.size w w' := by
  obtain ⟨W3, hW3⟩ : ∃ W, W = (((w.alloc (.cells #[.slice V vs.length vc, .slice X xs.length xc, .slice S ss.length sc] 140)).alloc (.cells #[.int .i64 op, .int .i64 a, .string N] 93)).alloc (.cells #[.int .i64 0, .int .i64 0, .bool false, .complex .f64 0 0] 144)) := ⟨_, rfl⟩
  have hb3 : Below w.heap.size w W3 := by rw [hW3]; exact (((Below.refl _ _).alloc (Nat.le_refl _) _).alloc (by simp) _).alloc (by simp; omega) _
  have HC := Lib.hid (alone_any vs xs ss V X S vc xc sc op a N W3 hop h2 (hV.below hb3) (hX.below hb3) (hS.below hb3) hvl hsl hl hx)
  generalize leafE vs xs ss ⟨op, a, N.data.toList⟩ = p at *
  clear hV hX hS hvl hsl hl hx h2 hb3
  subst hW3
  obtain ⟨k, x, t, c1, c2, er, hf⟩ := out_form (p)
  have HF := Lib.hid hf
  clear hf
  go_enter Tryz.func95, Tryz.ntmps95
  go_wp2_with fail
  refine (HC.out).mono ?_
  rintro e w1 ⟨rfl, hb1⟩
  rw [HF.out]
  obtain ⟨hh, hbw⟩ := fwd4 (show ((w.alloc _).alloc _).heap.size = w.heap.size + 1 + 1 by simp) (((Below.refl _ _).alloc (Nat.le_refl _) _).alloc (by simp) _) hb1
  obtain ⟨d0, d1, d2, d3, f0, f1, f2, f3⟩ := at4 hh
  clear hb1
  go_wp2
  obtain ⟨⟨r0, r1, r2, r3⟩, hbf⟩ := fin4 hh (by omega) hbw (.int .i64 k) (.int .i64 x) (.bool t) (.complex .f64 c1 c2)
  refine bodyPost_ret ?_ rfl ⟨HF.out.symm, hbf⟩
  simp [results, Tryz.results95, go_sem, r0, r1, r2, r3]

set_option maxRecDepth 100000 in
set_option maxHeartbeats 4000000 in
theorem done1_any (vs : List VM) (xs : List VA) (ss : List (List UInt8)) (V X S : Option Addr) (vc xc sc : Nat) (op a : Int) (N : ByteArray) (b o uc : Nat) (y : VA) (w : World) (hop : 7 ≤ op ∧ op ≤ 10) (hy : OkV y) (hu : OpAt w b o y) :
    Calls Tryz.prog 95 #[.agg #[.slice V vs.length vc, .slice X xs.length xc, .slice S ss.length sc], .agg #[.int .i64 op, .int .i64 a, .string N], .slice (some ⟨b, o, none⟩) 1 uc] w fun e w' => e = outV (unE op y) ∧ Below w.heap.size w w' := by
  obtain ⟨W3, hW3⟩ : ∃ W, W = (((w.alloc (.cells #[.slice V vs.length vc, .slice X xs.length xc, .slice S ss.length sc] 140)).alloc (.cells #[.int .i64 op, .int .i64 a, .string N] 93)).alloc (.cells #[.int .i64 0, .int .i64 0, .bool false, .complex .f64 0 0] 144)) := ⟨_, rfl⟩
  have hb3 : Below w.heap.size w W3 := by rw [hW3]; exact (((Below.refl _ _).alloc (Nat.le_refl _) _).alloc (by simp) _).alloc (by simp; omega) _
  obtain ⟨yk, yx, yt, y1, y2, hyv, hyc⟩ := opV_form y
  obtain ⟨m0, m1, m2, m3⟩ := (hu.below hb3).at_ hyc
  have HC := Lib.hid (vahead_any op y W3.drew hop hy)
  rw [hyv] at HC
  generalize unE op y = p at *
  clear hb3 hyv hyc hu hy hop
  subst hW3
  obtain ⟨k, x, t, c1, c2, er, hf⟩ := out_form (p)
  have HF := Lib.hid hf
  clear hf
  go_enter Tryz.func95, Tryz.ntmps95
  go_wp2_with fail
  go_region_with (go_at_call 125; refine (HC.out).mono ?_; rintro e w1 ⟨rfl, hb1⟩; rw [HF.out]; obtain ⟨hh, hbw⟩ := fwd4 (show ((w.alloc _).alloc _).heap.size = w.heap.size + 1 + 1 by simp) (((Below.refl _ _).alloc (Nat.le_refl _) _).alloc (by simp) _) (((Below.refl _ _).drew.trans hb1).mono (Nat.le_refl _)); obtain ⟨d0, d1, d2, d3, f0, f1, f2, f3⟩ := at4 hh; clear hb1)
  all_goals
    go_wp2
    obtain ⟨⟨r0, r1, r2, r3⟩, hbf⟩ := fin4 hh (by omega) hbw (.int .i64 k) (.int .i64 x) (.bool t) (.complex .f64 c1 c2)
    refine bodyPost_ret ?_ rfl ⟨HF.out.symm, hbf⟩
    simp [results, Tryz.results95, go_sem, r0, r1, r2, r3]

set_option maxRecDepth 100000 in
set_option maxHeartbeats 4000000 in
theorem done2_any (vs : List VM) (xs : List VA) (ss : List (List UInt8)) (V X S : Option Addr) (vc xc sc : Nat) (op a : Int) (N : ByteArray) (b o uc : Nat) (y z : VA) (w : World) (hop : 11 ≤ op ∧ op ≤ 23) (hy : OkV y) (hz : OkV z) (hu : OpAt w b o y) (hu2 : OpAt w b (o + 4) z) :
    Calls Tryz.prog 95 #[.agg #[.slice V vs.length vc, .slice X xs.length xc, .slice S ss.length sc], .agg #[.int .i64 op, .int .i64 a, .string N], .slice (some ⟨b, o, none⟩) 2 uc] w fun e w' => e = outV (joinE op y z) ∧ Below w.heap.size w w' := by
  obtain ⟨W3, hW3⟩ : ∃ W, W = (((w.alloc (.cells #[.slice V vs.length vc, .slice X xs.length xc, .slice S ss.length sc] 140)).alloc (.cells #[.int .i64 op, .int .i64 a, .string N] 93)).alloc (.cells #[.int .i64 0, .int .i64 0, .bool false, .complex .f64 0 0] 144)) := ⟨_, rfl⟩
  have hb3 : Below w.heap.size w W3 := by rw [hW3]; exact (((Below.refl _ _).alloc (Nat.le_refl _) _).alloc (by simp) _).alloc (by simp; omega) _
  obtain ⟨yk, yx, yt, y1, y2, hyv, hyc⟩ := opV_form y
  obtain ⟨m0, m1, m2, m3⟩ := (hu.below hb3).at_ hyc
  obtain ⟨zk, zx, zt, z1, z2, hzv, hzc⟩ := opV_form z
  obtain ⟨n0, n1, n2, n3⟩ := (hu2.below hb3).at_ hzc
  have HC := Lib.hid (vbetween_any op y z W3.drew hop hy hz)
  rw [hyv, hzv] at HC
  generalize joinE op y z = p at *
  clear hb3 hyv hyc hu hy hop hzv hzc hz hu2
  subst hW3
  obtain ⟨k, x, t, c1, c2, er, hf⟩ := out_form (p)
  have HF := Lib.hid hf
  clear hf
  go_enter Tryz.func95, Tryz.ntmps95
  go_wp2_with fail
  go_region_with (go_at_call 126; refine (HC.out).mono ?_; rintro e w1 ⟨rfl, hb1⟩; rw [HF.out]; obtain ⟨hh, hbw⟩ := fwd4 (show ((w.alloc _).alloc _).heap.size = w.heap.size + 1 + 1 by simp) (((Below.refl _ _).alloc (Nat.le_refl _) _).alloc (by simp) _) (((Below.refl _ _).drew.trans hb1).mono (Nat.le_refl _)); obtain ⟨d0, d1, d2, d3, f0, f1, f2, f3⟩ := at4 hh; clear hb1)
  all_goals
    go_wp2
    obtain ⟨⟨r0, r1, r2, r3⟩, hbf⟩ := fin4 hh (by omega) hbw (.int .i64 k) (.int .i64 x) (.bool t) (.complex .f64 c1 c2)
    refine bodyPost_ret ?_ rfl ⟨HF.out.symm, hbf⟩
    simp [results, Tryz.results95, go_sem, r0, r1, r2, r3]
end Go.Proofs.YtjjoffadieoaaaaGreatDoor
namespace Go.Proofs.YtjjoffadieoaaaaGreatDoor
open Go.RowKit

theorem operands5_any (op : Int) (w : World) (h : 1 ≤ op ∧ op ≤ 23) :
    Calls Tryz.prog 94 #[.int .i64 op] w fun e w' => e = .returned (.int .i64 (operN op)) ∧ w = w' := by
  rcases (show (1 ≤ op ∧ op ≤ 6) ∨ (7 ≤ op ∧ op ≤ 10) ∨ (11 ≤ op ∧ op ≤ 23) by omega) with h | h | h
  · rcases op_leaf h with rfl | rfl | rfl | rfl | rfl | rfl
    all_goals
      go_enter Tryz.func94, Tryz.ntmps94
      go_wp2
      go_ret
      exact ⟨rfl, rfl⟩
  · rcases op_un h with rfl | rfl | rfl | rfl
    all_goals
      go_enter Tryz.func94, Tryz.ntmps94
      go_wp2
      go_ret
      exact ⟨rfl, rfl⟩
  · rcases op_bin h with rfl | rfl | rfl | rfl | rfl | rfl | rfl | rfl | rfl | rfl | rfl | rfl | rfl
    all_goals
      go_enter Tryz.func94, Tryz.ntmps94
      go_wp2
      go_ret
      exact ⟨rfl, rfl⟩

theorem operN_zero {o : Int} (h : operN o = 0) : 1 ≤ o ∧ o ≤ 6 := by
  unfold operN at h
  by_cases h1 : 1 ≤ o ∧ o ≤ 6
  · exact h1
  · rw [if_neg h1] at h; split at h <;> cases h
theorem operN_one {o : Int} (h : operN o = 1) : 7 ≤ o ∧ o ≤ 10 := by
  unfold operN at h
  by_cases h1 : 1 ≤ o ∧ o ≤ 6
  · rw [if_pos h1] at h; cases h
  · rw [if_neg h1] at h
    by_cases h2 : 7 ≤ o ∧ o ≤ 10
    · exact h2
    · rw [if_neg h2] at h; cases h
theorem operN_two {o : Int} (h : operN o = 2) (ho : 1 ≤ o ∧ o ≤ 23) : 11 ≤ o ∧ o ≤ 23 := by
  unfold operN at h
  by_cases h1 : 1 ≤ o ∧ o ≤ 6
  · rw [if_pos h1] at h; cases h
  · rw [if_neg h1] at h
    by_cases h2 : 7 ≤ o ∧ o ≤ 10
    · rw [if_pos h2] at h; cases h
    · omega
theorem len_one {α : Type} {l : List α} (h : l.length = 1) : ∃ x, l = [x] := by
  match l, h with
  | [x], _ => exact ⟨x, rfl⟩
theorem len_two {α : Type} {l : List α} (h : l.length = 2) : ∃ x y, l = [x, y] := by
  match l, h with
  | [x, y], _ => exact ⟨x, y, rfl⟩

/-- the stack of operands in memory -/
def flatO (st : List VA) : List Value := st.flatMap opL
theorem flatO_append (a b : List VA) : flatO (a ++ b) = flatO a ++ flatO b := by simp [flatO]
theorem flatO_one (v : VA) : flatO [v] = opL v := by simp [flatO]
theorem opL_length (v : VA) : (opL v).length = 4 := rfl
theorem flatO_length (st : List VA) : (flatO st).length = st.length * 4 := by
  induction st with
  | nil => rfl
  | cons v r ih => show (opL v ++ flatO r).length = _; rw [List.length_append, ih, opL_length]; simp; omega
theorem flatO_take (st : List VA) (n : Nat) : (flatO st).take (n * 4) = flatO (st.take n) := by
  induction st generalizing n with
  | nil => simp [flatO]
  | cons v r ih =>
    cases n with
    | zero => simp [flatO]
    | succ n =>
      show (opL v ++ flatO r).take ((n + 1) * 4) = opL v ++ flatO (r.take n)
      rw [List.take_append, List.take_of_length_le (by rw [opL_length]; omega), opL_length, ← ih n, show (n + 1) * 4 - 4 = n * 4 by omega]
theorem infoOp : (Tryz.prog.info? 144).map (fun i => (i.zero, i.size, i.bytes)) = some (some (.agg #[.int .i64 0, .int .i64 0, .bool false, .complex .f64 0 0]), 4, 40) := by kernel_rfl
theorem own_take4 {w : World} {base : Nat} {e : TypeId} {n N : Nat} {A : Option Addr} {cap size : Nat} {xs : List Value} (h : w.ownsRow base e size (.slice A (n + N) cap) (n + N) xs) : w.ownsRow base e size (.slice A n cap) n (xs.take (n * size)) := by
  obtain ⟨h1, h2⟩ := h
  have hm : n * size ≤ (n + N) * size := Nat.mul_le_mul_right _ (by omega)
  rcases h2 with ⟨hv, h0⟩ | ⟨g, cap', cur, hv, hb, hh, hnc, hcm, hcs, ht⟩
  · simp only [Value.slice.injEq] at hv
    obtain ⟨rfl, _, rfl⟩ := hv
    obtain rfl : n = 0 := by omega
    exact ⟨by simp, Or.inl ⟨rfl, rfl⟩⟩
  · simp only [Value.slice.injEq] at hv
    obtain ⟨rfl, _, rfl⟩ := hv
    refine ⟨?_, Or.inr ⟨g, cap, cur, rfl, hb, hh, by omega, hcm, hcs, ?_⟩⟩
    · rw [List.length_take, h1, Nat.min_eq_left hm]
    · rw [← ht, List.take_take, Nat.min_eq_left hm]

/-- an operand of the stack at its place -/
theorem vop_at {w : World} {base n : Nat} {e : TypeId} {g cap : Nat} {st : List VA} (h : w.ownsRow base e 4 (.slice (some ⟨g, 0, none⟩) n cap) n (flatO st)) {j : Nat} (hj : j < st.length) : OpAt w g (j * 4) st[j] := by
  intro i u hu
  have hi : i < 4 := by
    have := (List.getElem?_eq_some_iff.1 hu).1
    rwa [opL_length] at this
  have hfl := flatO_length st
  rw [h.cellAt (j * 4 + i) (by rw [h.1.symm, hfl]; omega)]
  have e : st = st.take j ++ (st[j] :: st.drop (j + 1)) := by rw [List.getElem_cons_drop, List.take_append_drop]
  have e2 : flatO st = flatO (st.take j) ++ (opL st[j] ++ flatO (st.drop (j + 1))) := by
    conv => lhs; rw [e]
    rw [flatO_append]; rfl
  have hlt : (flatO (st.take j)).length = j * 4 := by rw [flatO_length, List.length_take, Nat.min_eq_left (by omega)]
  rw [e2, List.getElem?_append_right (by rw [hlt]; omega), hlt, Nat.add_sub_cancel_left, List.getElem?_append_left (by rw [opL_length]; exact hi)]
  exact hu

/-- where the loop stands: what is put down is the operands so far -/
structure EE (vs : List VM) (xs : List VA) (ss : List (List UInt8)) (cs : List CM) (k : Nat) (st : List VA) : Prop where
  le : k ≤ cs.length
  len : st.length ≤ k
  run : runB (cs.drop k) st.length = some 1
  er : eRun vs xs ss (cs.drop k) st = eRun vs xs ss cs []
  ok : ∀ v ∈ st, OkV v

theorem fin_made (vs : List VM) (xs : List VA) (ss : List (List UInt8)) (hx : ∀ v ∈ xs, OkV v) (hl : vs.length = xs.length) (c : CM) (st : List VA) (hf : formedB c = true) (hn : operN c.op ≤ st.length) (hr : ∀ v ∈ st, OkV v) : Fin (madeE vs xs ss c st) := by
  unfold madeE
  have h2 := operN_le c.op
  have hc : operN c.op = 0 ∨ operN c.op = 1 ∨ operN c.op = 2 := by omega
  rcases hc with h | h | h
  · rw [h]; exact fin_leaf hx hl hf
  · rw [h]
    match st, hn with
    | [], hn => rw [h] at hn; simp at hn
    | a :: r, _ => exact fin_un (hr a (by simp))
  · rw [h]
    match st, hn with
    | [], hn => rw [h] at hn; simp at hn
    | a :: r, _ => exact fin_join (hr a (by simp))

section
variable {vs : List VM} {xs : List VA} {ss : List (List UInt8)} {cs : List CM} {k : Nat} {st : List VA}
theorem EE.zero (h : rightB cs = true) : EE vs xs ss cs 0 [] := by
  unfold rightB at h
  simp at h
  exact ⟨Nat.zero_le _, Nat.le_refl _, h.2, rfl, fun x hx => by cases hx⟩
theorem EE.next (hx : ∀ v ∈ xs, OkV v) (hl : vs.length = xs.length) (h : EE vs xs ss cs k st) (hk : k < cs.length) : formedB cs[k] = true ∧ operN cs[k].op ≤ st.length ∧
    (((madeE vs xs ss cs[k] (st.drop (st.length - operN cs[k].op))).2 = 0 ∧ EE vs xs ss cs (k + 1) (st.take (st.length - operN cs[k].op) ++ [(madeE vs xs ss cs[k] (st.drop (st.length - operN cs[k].op))).1])) ∨
     ((madeE vs xs ss cs[k] (st.drop (st.length - operN cs[k].op))).2 ≠ 0 ∧ eRun vs xs ss cs [] = erV (madeE vs xs ss cs[k] (st.drop (st.length - operN cs[k].op))).2)) := by
  have h1 := h.run
  rw [run_at hk] at h1
  split at h1
  · rename_i hc
    refine ⟨hc.1, hc.2, ?_⟩
    have hkr := h.er
    rw [List.drop_eq_getElem_cons hk, eRun] at hkr
    rcases fin_made vs xs ss hx hl cs[k] (st.drop (st.length - operN cs[k].op)) hc.1 (by simp; omega) (fun x hx => h.ok x (List.mem_of_mem_drop hx)) with ⟨h2, h3⟩ | ⟨h2, h3⟩
    · refine Or.inl ⟨h2, ⟨by omega, ?_, ?_, ?_, ?_⟩⟩
      · have := h.len; simp; omega
      · have e : (st.take (st.length - operN cs[k].op) ++ [(madeE vs xs ss cs[k] (st.drop (st.length - operN cs[k].op))).1]).length = st.length + 1 - operN cs[k].op := by simp; omega
        rw [e]; exact h1
      · rw [if_neg (by simp [h2])] at hkr; exact hkr
      · intro x hx
        rcases List.mem_append.1 hx with hx | hx
        · exact h.ok x (List.mem_of_mem_take hx)
        · simp at hx; subst hx; exact h3
    · refine Or.inr ⟨h2, ?_⟩
      rw [if_pos h2] at hkr; exact hkr.symm
  · cases h1
theorem EE.done (h : EE vs xs ss cs cs.length st) : ∃ x, st = [x] ∧ eRun vs xs ss cs [] = (x, 0) ∧ OkV x := by
  have h1 := h.run
  rw [List.drop_length] at h1
  have h2 : st.length = 1 := by simpa [runB] using h1
  match st, h2 with
  | [x], _ =>
    have h3 := h.er
    rw [List.drop_length] at h3
    exact ⟨x, rfl, h3.symm, h.ok x (by simp)⟩
theorem world_of (h : worldB vs xs = true) (hi : ∀ x ∈ xs, inL x.a = true) : xs.length = vs.length ∧ xs.all rightV = true ∧ ∀ x ∈ xs, OkV x := by
  unfold worldB at h
  simp only [Bool.and_eq_true, decide_eq_true_eq] at h
  refine ⟨h.1, h.2, fun x hx => ⟨?_, hi x hx⟩⟩
  have := h.2
  rw [List.all_eq_true] at this
  exact this x hx
end
end Go.Proofs.YtjjoffadieoaaaaGreatDoor
