/- Has a state such children as it must? as the program asks it. -/
import Derived.Test.YtpmgleioldlolaaUe
import Derived.Test.YtpmgleioldlolaaUq
namespace Go.Proofs.Ytpmgleioldlolaa
open Go.RowKit Go.Shelf

attribute [local go_sem] Oper.semAt_some

theorem children_any (A : Option Addr) (n c : Nat) (i : Nat) (w : World) : Calls Try.prog 34 #[.slice A n c, .int .i64 i] w fun e w' =>
    e = .returned (.func (.func 39) #[] #[.pointer (some ⟨w.heap.size + 1, 0, none⟩), .pointer (some ⟨w.heap.size, 0, none⟩)]) ∧ w' = (w.alloc (.cells #[.slice A n c] 22)).alloc (.cells #[.int .i64 i] 3) := by
  go_enter Try.func34, Try.ntmps34
  go_wp2
  go_ret
  exact ⟨rfl, rfl⟩

abbrev Pl (n : Nat) := { k : Nat // k < n }
/-- what children hands out: each child, in order; or a part, a round having said 'no more' -/
theorem children_stops (v : Value) (xs : List SM) (i : Nat) (hi : i < xs.length) (hl : xs.length ≤ 4611686018427387904) (hN : Nst (dp xs) xs.length) (w0 : World) (hR : RdT w0 v xs) (BL BI : Nat) (w : World) (hW : Below w0.heap.size w0 w) (hBL : Boxed w BL 22 v) (hBI : Boxed w BI 3 (.int .i64 i)) :
    SeqStopsK Fence.wide 2 Try.prog 39 #[.pointer (some ⟨BI, 0, none⟩), .pointer (some ⟨BL, 0, none⟩)] (fun x : Pl xs.length => #[Value.int .i64 x.1]) (KeepP (keepC w0.heap.size BL BI))
      (fun ys => ys.map (·.1) = kids (dp xs) xs.length i) (fun pre => pre.map (·.1) <+: kids (dp xs) xs.length i) xs.length w := fun l J Jx W hWW hJ _ hY h0 =>
  children1_in 2 (by omega) l BL BI v xs i hi hl hN w0 hR J Jx
    (fun pre W m h => hJ pre W (World.drewN W m) none h (grown_of_below (below_drewN (Below.refl _ _) m) none) (fun r e => by cases e)) hY W
    ⟨Nat.le_trans hW.size hWW.size, fun k hk => (hWW.block k (by have := hW.size; omega)).trans (hW.block k hk)⟩
    ((hWW.block BL hBL.lt).trans hBL) ((hWW.block BI hBI.lt).trans hBI) h0

/-- the program's word for a state's children -/
def FilC (d kd : Nat → Int) (n i : Nat) : Prop := (∀ k ∈ kids d n i, mayC (kd i) (kd k)) ∧ ((∃ k ∈ kids d n i, ¬ pastP (kd k)) ↔ parentP (kd i))
noncomputable instance {d kd : Nat → Int} {n i : Nat} : Decidable (FilC d kd n i) := Classical.propDecidable _
/-- is one of them no history? -/
def anyB {n : Nat} (kd : Nat → Int) (l : List (Pl n)) : Bool := l.any fun k => !decide (pastP (kd k.1))
theorem anyB_snoc {n : Nat} (kd : Nat → Int) (l : List (Pl n)) (x : Pl n) : anyB kd (l ++ [x]) = (anyB kd l || !decide (pastP (kd x.1))) := by simp [anyB]
/-- it goes on, and so -/
def NormP (p : Act → World → Prop) : Exit → Act → World → Prop
  | .normal, a, w => p a w
  | _, _, _ => False
/-- what its boxes hold -/
structure FilI (w : World) (v : Value) (i : Nat) (r f : Bool) (W : World) : Prop where
  bl : Boxed W w.heap.size 22 v
  bi : Boxed W (w.heap.size + 1) 3 (.int .i64 i)
  br : Boxed W (w.heap.size + 1 + 1) 4 (.bool r)
  bf : Boxed W (w.heap.size + 1 + 1 + 1) 4 (.bool f)
  below : Below w.heap.size w W
theorem FilI.grown {w : World} {v : Value} {i : Nat} {r f : Bool} {W W' : World} {row : Option Nat} (h : FilI w v i r f W) (hg : W.grownBy W' row) (hr : ∀ q, row = some q → w.heap.size + 3 < q) : FilI w v i r f W' := by
  have hne : ∀ k, k ≤ w.heap.size + 3 → some k ≠ row := fun k hk e => by have := hr k e.symm; omega
  exact ⟨h.bl.kept hg (hne _ (by omega)), h.bi.kept hg (hne _ (by omega)), h.br.kept hg (hne _ (by omega)), h.bf.kept hg (hne _ (by omega)), h.below.grown hg h.below.size (fun k hk => by have := hr k hk; omega)⟩

theorem FilI.drewN {w : World} {v : Value} {i : Nat} {r f : Bool} {W : World} (h : FilI w v i r f W) (m : Nat) : FilI w v i r f (W.drewN m) := ⟨h.bl, h.bi, h.br, h.bf, below_drewN h.below m⟩
theorem FilI.setR {w : World} {v : Value} {i : Nat} {r f : Bool} {W : World} (h : FilI w v i r f W) (u : Bool) : FilI w v i u f (W.setCell ⟨w.heap.size + 1 + 1, 0, none⟩ (.bool u)) :=
  ⟨h.bl.other (by omega) _, h.bi.other (by omega) _, h.br.set _, h.bf.other (by omega) _, h.below.setCell (by simp; omega) _⟩
theorem FilI.setF {w : World} {v : Value} {i : Nat} {r f : Bool} {W : World} (h : FilI w v i r f W) (u : Bool) : FilI w v i r u (W.setCell ⟨w.heap.size + 1 + 1 + 1, 0, none⟩ (.bool u)) :=
  ⟨h.bl.other (by omega) _, h.bi.other (by omega) _, h.br.other (by omega) _, h.bf.set _, h.below.setCell (by simp; omega) _⟩
theorem KeepP.setCell {keep : Nat → Prop} {A B : World} {b : Nat} (h : KeepP keep A B) (hb : ¬ keep b) (u : Value) : KeepP keep A (B.setCell ⟨b, 0, none⟩ u) :=
  h.trans ⟨(grownBy_setCell' B b u).size, fun k hk => (Below.heap_setCell _ _ _ k (fun e => hb (by have e : k = b := e; subst e; exact hk)))⟩
theorem keepC_not {B0 k : Nat} (h1 : B0 ≤ k) (h2 : k < B0 + 4) : ¬ keepC B0 (B0 + 1 + 1 + 1 + 1) (B0 + 1 + 1 + 1 + 1 + 1) k := by
  rintro (h | h | h) <;> omega
theorem others_drewN (W : World) (m : Nat) : KeepsOthers W (W.drewN m) := ⟨Nat.le_refl _, fun _ _ h _ => h⟩
theorem filC_true {d kd : Nat → Int} {n i : Nat} {ys : List (Pl n)} (h : ys.map (·.1) = kids d n i) (hm : ∀ k ∈ ys, mayC (kd i) (kd k.1)) : decide (FilC d kd n i) = (anyB kd ys == decide (parentP (kd i))) := by
  have h1 : ∀ k ∈ kids d n i, mayC (kd i) (kd k) := by
    intro k hk
    rw [← h] at hk
    obtain ⟨y, hy, rfl⟩ := List.mem_map.1 hk
    exact hm y hy
  have h2 : anyB kd ys = true ↔ ∃ k ∈ kids d n i, ¬ pastP (kd k) := by
    rw [← h]
    unfold anyB
    simp
  by_cases hp : parentP (kd i)
  · rw [decide_eq_true hp]
    by_cases ha : anyB kd ys = true
    · rw [ha]; exact decide_eq_true ⟨h1, fun _ => hp, fun _ => h2.1 ha⟩
    · rw [Bool.eq_false_iff.2 ha]; exact decide_eq_false (fun hf => ha (h2.2 (hf.2.2 hp)))
  · rw [decide_eq_false hp]
    by_cases ha : anyB kd ys = true
    · rw [ha]; exact decide_eq_false (fun hf => hp (hf.2.1 (h2.1 ha)))
    · rw [Bool.eq_false_iff.2 ha]; exact decide_eq_true ⟨h1, fun hx => absurd (h2.2 hx) ha, fun hx => absurd hx hp⟩
theorem filC_false {d kd : Nat → Int} {n i : Nat} {pre : List (Pl n)} (h : pre.map (·.1) <+: kids d n i) (hm : ∃ k ∈ pre, ¬ mayC (kd i) (kd k.1)) : decide (FilC d kd n i) = false := by
  refine decide_eq_false fun hf => ?_
  obtain ⟨k, hk, hn⟩ := hm
  exact hn (hf.1 k.1 (h.subset (List.mem_map.2 ⟨k, hk, rfl⟩)))
theorem boxed_at {W : World} {B : Nat} {t : TypeId} {v : Value} (hB : W.heap.size = B) : Boxed (W.alloc (.cells #[v] t)) B t v := hB ▸ Boxed.new W t v
theorem fil_start (w : World) (v : Value) (i : Nat) {W : World} (hW : W = (((((w.alloc (.cells #[v] 22)).alloc (.cells #[.int .i64 i] 3)).alloc (.cells #[.bool false] 4)).alloc (.cells #[.bool false] 4)).alloc (.cells #[v] 22)).alloc (.cells #[.int .i64 i] 3)) :
    FilI w v i false false W ∧ Boxed W (w.heap.size + 1 + 1 + 1 + 1) 22 v ∧ Boxed W (w.heap.size + 1 + 1 + 1 + 1 + 1) 3 (.int .i64 i) ∧ W.heap.size = w.heap.size + 6 := by
  subst hW
  refine ⟨⟨(((((boxed_at rfl).alloc _).alloc _).alloc _).alloc _).alloc _, ((((boxed_at (by simp)).alloc _).alloc _).alloc _).alloc _, (((boxed_at (by simp)).alloc _).alloc _).alloc _, ((boxed_at (by simp)).alloc _).alloc _, ?_⟩, (boxed_at (by simp)).alloc _, boxed_at (by simp), by simp⟩
  exact ((((((Below.refl _ _).alloc (Nat.le_refl _) _).alloc (by simp) _).alloc (by simp; omega) _).alloc (by simp; omega) _).alloc (by simp; omega) _).alloc (by simp; omega) _

set_option maxRecDepth 100000 in
set_option maxHeartbeats 8000000 in
theorem isFilled_any (v : Value) (xs : List SM) (i : Nat) (w : World) (hR : RdT w v xs) (hi : i < xs.length) (hl : xs.length ≤ 4611686018427387904) (hN : Nst (dp xs) xs.length) :
    Calls Try.prog 29 #[v, .int .i64 i] w fun e w' => e = .returned (.bool (decide (FilC (dp xs) (kp xs) xs.length i))) ∧ Below w.heap.size w w' := by
  obtain ⟨A, c, rfl⟩ := hR.form
  obtain ⟨b, o, rfl, hb, hc⟩ := hR.base (by omega)
  obtain ⟨n, hn⟩ : ∃ n, xs.length = n := ⟨_, rfl⟩
  have HC : Hid (∀ m, m < n → w.cell? ⟨b, o + m * 6 + 1, none⟩ = some (.int .i64 (kp xs m))) := fun m hm => (hc m (by omega)).2.1
  have HS := Lib.hid (fun BL BI w' => children_stops _ xs i hi hl hN w hR BL BI w')
  have HCH := Lib.hid (fun W => children_any (some ⟨b, o, none⟩) xs.length c i W)
  have HMH := Lib.hid mayHave_any; have HIH := Lib.hid isHistory_any; have HIP := Lib.hid isParent_any
  rw [hn] at hi hl HS HCH ⊢
  have HNN := Lib.hid hn
  clear hR hn hc hN
  refine (callsIn_wide (n := 3)).1 ?_
  refine callsIn_of_wp_marks Try.func29 rfl trivial ?_ rfl
  simp only [Try.ntmps29, List.size_toArray, List.length_cons, List.length_nil, Nat.reduceAdd, Nat.reduceSub, Array.replicate_succ, Array.replicate_zero, List.push_toArray, List.append_toArray, List.nil_append, List.cons_append]
  gi_wp2_with (refine ⟨trivial, ?_⟩; gi_at_call 34; refine (callsIn_wide.2 (HCH.out _)).mono ?_; rintro e w1 ⟨rfl, rfl⟩)
  obtain ⟨W6, hW6⟩ : ∃ W, W = (((((w.alloc (.cells #[.slice (some ⟨b, o, none⟩) n c] 22)).alloc (.cells #[.int .i64 i] 3)).alloc (.cells #[.bool false] 4)).alloc (.cells #[.bool false] 4)).alloc (.cells #[.slice (some ⟨b, o, none⟩) n c] 22)).alloc (.cells #[.int .i64 i] 3) := ⟨_, rfl⟩
  rw [← hW6]
  obtain ⟨hF6, hbl, hbi, hs6⟩ := fil_start w _ i hW6
  have HS6 := Lib.hid (HS.out _ _ _ hF6.below hbl hbi)
  clear hW6 hbl hbi
  refine wpIn_rangeFunc_ownF rfl (by decide) (gf := 39) (lb := #[.pointer (some ⟨w.heap.size + 1 + 1 + 1 + 1 + 1, 0, none⟩), .pointer (some ⟨w.heap.size + 1 + 1 + 1 + 1, 0, none⟩)]) rfl trivial (enters_of Try.func39 (by kernel_rfl) rfl)
    HS6.out KeepP.trans (fun W l o o' hl _ _ _ => ⟨by simp, fun k hk => World.putObj_heap_other (by rcases hk with hk | rfl | rfl <;> omega)⟩) (Below.refl _ _) (fun _ => rfl)
    (fun pre W => FilI w (.slice (some ⟨b, o, none⟩) n c) i false (anyB (kp xs) pre) W ∧ ∀ k ∈ pre, mayC (kp xs i) (kp xs k.1))
    (fun cd pre W => cd = .ret ∧ (∃ fb, FilI w (.slice (some ⟨b, o, none⟩) n c) i false fb W) ∧ ∃ k ∈ pre, ¬ mayC (kp xs i) (kp xs k.1))
    (fun s A B row hs hg hr => ⟨hs.1.grown hg (fun q hq => by have := (hr q hq).1; omega), hs.2⟩)
    (fun cd s A B row hs hg hr => ⟨hs.1, hs.2.1.imp (fun fb h => h.grown hg (fun q hq => by have := (hr q hq).1; omega)), hs.2.2⟩)
    ⟨hF6, fun k hk => by cases hk⟩
    (fun x => { tmps := #[(.slice (some ⟨b, o, none⟩) n c), .int .i64 i, .pointer (some ⟨w.heap.size, 0, none⟩), .pointer (some ⟨w.heap.size + 1, 0, none⟩), .pointer (some ⟨w.heap.size + 1 + 1, 0, none⟩), .pointer (some ⟨w.heap.size + 1 + 1 + 1, 0, none⟩), .int .i64 x.1, (.slice (some ⟨b, o, none⟩) n c), .int .i64 i, .func (.func 39) #[] #[.pointer (some ⟨w.heap.size + 1 + 1 + 1 + 1 + 1, 0, none⟩), .pointer (some ⟨w.heap.size + 1 + 1 + 1 + 1, 0, none⟩)], .int .i64 x.1, undef, undef, undef, undef, undef, undef, undef, undef, undef, undef, undef, undef, undef, undef, undef, undef, undef, undef, undef, undef, undef, undef, undef, undef, undef, undef, undef], defers := [] }) ?assign ?body ?done ?stop
  case assign =>
    intro l x W K hK
    gi_wp2
    exact hK
  case body =>
    rintro l pre x W ⟨hF, hm⟩ hlen
    have d0 := hF.bl.cell; have d1 := hF.bi.cell; have d2 := hF.br.cell; have d3 := hF.bf.cell
    have f2 := hF.br.frozen; have f3 := hF.bf.frozen
    have ci := (hF.below.cell (p := ⟨b, o + i * 6 + 1, none⟩) hb).trans (HC.out i hi)
    have cx := (hF.below.cell (p := ⟨b, o + x.1 * 6 + 1, none⟩) hb).trans (HC.out x.1 x.2)
    have hx := x.2
    have hd : 1 ≤ 3 - 1 - 1 := by decide
    have hf36 : Fence.wide.fn 36 := trivial
    have hmo : Try.prog.follows .mixedOrders = true := by kernel_rfl
    have hfi : Fence.wide.fn 37 := trivial
    have HF := Lib.hid hF; have HM := Lib.hid hm
    clear hF hm
    by_cases hmay : mayC (kp xs i) (kp xs x.1)
    · have HMT : Hid (∀ W, Calls Try.prog 36 #[.int .i64 (kp xs i), .int .i64 (kp xs x.1)] W fun e w' => e = .returned (.bool true) ∧ w' = W) := fun W => (HMH.out _ _ W).mono fun _ _ h => ⟨by rw [h.1, decide_eq_true hmay], h.2.symm⟩
      have HMY := Lib.hid hmay
      clear hmay
      gi_wp2
      refine region_round (by kernel_rfl) hmo (by kernel_rfl) ?_
      repeat (gi_big_quiet_step ((gi_at_call 36; exact CallsIn.quiet_of_same (CallsIn.inRound l (callsIn_wide.2 (HMT.out _))))))
      refine wpQuietIn_nil ?_
      rintro w2 ⟨nq, rfl⟩
      by_cases hpast : pastP (kp xs x.1)
      · have HIT : Hid (∀ W, Calls Try.prog 37 #[.int .i64 (kp xs x.1)] W fun e w' => e = .returned (.bool true) ∧ w' = W) := fun W => (HIH.out _ W).mono fun _ _ h => ⟨by rw [h.1, decide_eq_true hpast], h.2.symm⟩
        gi_wp2_with (gi_at_call 37; refine (CallsIn.inRound l (callsIn_wide.2 (HIT.out _))).mono ?_; rintro e w3 ⟨rfl, rfl⟩)
        refine ⟨others_drewN _ _, KeepP.refl _ _, ?_, ?_⟩
        · rw [anyB_snoc, decide_eq_true hpast, Bool.not_true, Bool.or_false]; exact HF.out.drewN nq
        · intro k hk
          rcases List.mem_append.1 hk with hk | hk
          · exact HM.out k hk
          · simp at hk; subst hk; exact HMY.out
      · have HIT : Hid (∀ W, Calls Try.prog 37 #[.int .i64 (kp xs x.1)] W fun e w' => e = .returned (.bool false) ∧ w' = W) := fun W => (HIH.out _ W).mono fun _ _ h => ⟨by rw [h.1, decide_eq_false hpast], h.2.symm⟩
        gi_wp2_with (gi_at_call 37; refine (CallsIn.inRound l (callsIn_wide.2 (HIT.out _))).mono ?_; rintro e w3 ⟨rfl, rfl⟩)
        refine ⟨(others_drewN _ _).trans (KeepsOthers.setCell _ _ _), ((KeepP.refl _ _).drewN _).setCell (keepC_not (by omega) (by omega)) _, ?_, ?_⟩
        · rw [anyB_snoc, decide_eq_false hpast, Bool.not_false, Bool.or_true]; exact (HF.out.drewN nq).setF true
        · intro k hk
          rcases List.mem_append.1 hk with hk | hk
          · exact HM.out k hk
          · simp at hk; subst hk; exact HMY.out
    · have HMT : Hid (∀ W, Calls Try.prog 36 #[.int .i64 (kp xs i), .int .i64 (kp xs x.1)] W fun e w' => e = .returned (.bool false) ∧ w' = W) := fun W => (HMH.out _ _ W).mono fun _ _ h => ⟨by rw [h.1, decide_eq_false hmay], h.2.symm⟩
      have HMY := Lib.hid hmay
      clear hmay
      gi_wp2
      refine region_round (by kernel_rfl) hmo (by kernel_rfl) ?_
      repeat (gi_big_quiet_step ((gi_at_call 36; exact CallsIn.quiet_of_same (CallsIn.inRound l (callsIn_wide.2 (HMT.out _))))))
      refine wpQuietIn_nil ?_
      rintro w2 ⟨nq, rfl⟩
      gi_wp2
      exact ⟨(others_drewN _ _).trans (KeepsOthers.setCell _ _ _), rfl, ⟨_, (HF.out.drewN nq).setR false⟩, x, by simp, HMY.out⟩
  case done =>
    rintro D ys W hD hS ⟨hF, hm⟩ hK
    have d0 := hF.bl.cell; have d1 := hF.bi.cell; have d2 := hF.br.cell; have d3 := hF.bf.cell
    have f2 := hF.br.frozen
    have ci := (hF.below.cell (p := ⟨b, o + i * 6 + 1, none⟩) hb).trans (HC.out i hi)
    have hmo : Try.prog.follows .mixedOrders = true := by kernel_rfl
    have hv := filC_true hS hm
    have HF := Lib.hid hF; have HV := Lib.hid hv
    clear hF hm hv hS
    gi_wp2
    refine Code.wpIn_mono (Q := NormP fun a' w' => w' = W.drew.setCell ⟨w.heap.size + 1 + 1, 0, none⟩ (.bool (anyB (kp xs) ys == decide (parentP (kp xs i)))) ∧ ∃ u30 u31 u32 u33 u34 u35 u36 u37 : Value, a' = { tmps := #[(.slice (some ⟨b, o, none⟩) n c), .int .i64 i, .pointer (some ⟨w.heap.size, 0, none⟩), .pointer (some ⟨w.heap.size + 1, 0, none⟩), .pointer (some ⟨w.heap.size + 1 + 1, 0, none⟩), .pointer (some ⟨w.heap.size + 1 + 1 + 1, 0, none⟩), undef, (.slice (some ⟨b, o, none⟩) n c), .int .i64 i, .func (.func 39) #[] #[.pointer (some ⟨w.heap.size + 1 + 1 + 1 + 1 + 1, 0, none⟩), .pointer (some ⟨w.heap.size + 1 + 1 + 1 + 1, 0, none⟩)], undef, undef, undef, undef, undef, undef, undef, undef, undef, undef, undef, undef, undef, undef, undef, undef, undef, undef, undef, undef, u30, u31, u32, u33, u34, u35, u36, u37], defers := [{ target := .collected D, args := #[] }] }) ?_ (wpIn_wide.2 ?_)
    · intro e a' w' h
      cases e with
      | normal =>
        obtain ⟨rfl, u30, u31, u32, u33, u34, u35, u36, u37, rfl⟩ := h
        have hK' : (W.drew.setCell ⟨w.heap.size + 1 + 1, 0, none⟩ (.bool (anyB (kp xs) ys == decide (parentP (kp xs i))))).heap[D]? = some (.deferred (some [])) := (KeepsOthers.setCell W.drew ⟨w.heap.size + 1 + 1, 0, none⟩ _).same D _ hK rfl
        gi_wp2
        refine ⟨by simp, .inl ⟨_, _, rfl, run_takeDeferred hK', ?_⟩⟩
        have hG := ((show FilI w _ i false _ W.drew from HF.out.drewN 1).setR (anyB (kp xs) ys == decide (parentP (kp xs i)))).grown (grownBy_putObj' _ D (.deferred none)) (fun q hq => by cases hq; omega)
        have hr := hG.br.cell
        refine ⟨.bool (anyB (kp xs) ys == decide (parentP (kp xs i))), ?_, by rw [HV.out], hG.below⟩
        clear hG
        generalize World.putObj _ D _ = WF at hr ⊢
        simp [results, Try.results29, go_sem, hr]
      | _ => exact h.elim
    · go_region_with (go_at_call 38; refine (HIP.out _ _).mono ?_; rintro e w2 ⟨rfl, rfl⟩)
      all_goals exact ⟨rfl, _, _, _, _, _, _, _, _, rfl⟩
  case stop =>
    rintro D cd pre W hD hS ⟨rfl, ⟨fb, hF⟩, hm⟩ hK
    have d2 := hF.br.cell
    have hv := filC_false hS hm
    have HF := Lib.hid hF; have HV := Lib.hid hv
    clear hF hm hv hS
    gi_wp2
    refine ⟨by simp, .inl ⟨_, _, rfl, run_takeDeferred hK, ?_⟩⟩
    have hG := HF.out.grown (grownBy_putObj' _ D (.deferred none)) (fun q hq => by cases hq; omega)
    have hr := hG.br.cell
    refine ⟨.bool false, ?_, by rw [HV.out], hG.below⟩
    clear hG
    generalize World.putObj _ D _ = WF at hr ⊢
    simp [results, Try.results29, go_sem, hr]
end Go.Proofs.Ytpmgleioldlolaa
