/- Places that a tree has; a state's children, collected. -/
import Derived.Test.YtpmgleioldlolaaUh
namespace Go.Proofs.Ytpmgleioldlolaa
open Go.RowKit Go.Shelf

attribute [local go_sem] Oper.semAt_some

/-- a slice value that reads as a list of numbers -/
def RdZ (w : World) (v : Value) (l : List Int) : Prop := Inn w 1 v l.length (l.map fun i => Value.int .i64 i)
theorem RdZ.at_ {w : World} {A : Option Addr} {m c : Nat} {l : List Int} (h : RdZ w (.slice A m c) l) {k : Nat} (hk : k < l.length) : ∃ b o, A = some ⟨b, o, none⟩ ∧ b < w.heap.size ∧ w.cell? ⟨b, o + k, none⟩ = some (.int .i64 l[k]) := by
  rcases h with ⟨_, h1, _⟩ | ⟨ad, c', e, hl, hc⟩
  · omega
  · obtain ⟨b, o, rfl, hlt, hc⟩ := hc (by omega)
    simp only [Value.slice.injEq] at e
    refine ⟨b, o, e.1, hlt, hc k _ ?_⟩
    rw [List.getElem?_map, List.getElem?_eq_getElem hk]; rfl
/-- a list of numbers that was built at once -/
theorem rdZ_new {w : World} {D : Nat} (hD : w.heap.size = D) (l : List Int) (_ : 0 < l.length) : RdZ (w.alloc (.cells (l.map fun i => Value.int .i64 i).toArray 3)) (.slice (some ⟨D, 0, none⟩) l.length l.length) l := by
  subst hD
  refine Or.inr ⟨⟨w.heap.size, 0, none⟩, _, rfl, by simp, fun _ => ⟨w.heap.size, 0, rfl, by simp, fun j u hu => ?_⟩⟩
  have := heap_alloc_new w (.cells (l.map fun i => Value.int .i64 i).toArray 3)
  simp only [World.cell?, Nat.zero_add]
  rw [this]
  simpa using hu

/-- does a right tree have the place? -/
def HasP (xs : List SM) (i : Int) : Prop := 0 ≤ i ∧ i < xs.length ∧ RightP (dp xs) (kp xs) xs.length
noncomputable instance {xs : List SM} {i : Int} : Decidable (HasP xs i) := Classical.propDecidable _
def HoldP (xs : List SM) (l : List Int) : Prop := (∀ i ∈ l, 0 ≤ i ∧ i < xs.length) ∧ RightP (dp xs) (kp xs) xs.length
noncomputable instance {xs : List SM} {l : List Int} : Decidable (HoldP xs l) := Classical.propDecidable _
theorem hold_one {xs : List SM} {i : Int} : HoldP xs [i] ↔ HasP xs i := by
  unfold HoldP HasP
  simp [and_assoc]
theorem hold_two {xs : List SM} {i j : Int} : HoldP xs [i, j] ↔ HasP xs i ∧ HasP xs j := by
  unfold HoldP HasP
  constructor
  · rintro ⟨h, hr⟩
    exact ⟨⟨(h i (by simp)).1, (h i (by simp)).2, hr⟩, (h j (by simp)).1, (h j (by simp)).2, hr⟩
  · rintro ⟨⟨a, b, c⟩, d, e, _⟩
    refine ⟨fun k hk => ?_, c⟩
    simp at hk
    rcases hk with rfl | rfl
    · exact ⟨a, b⟩
    · exact ⟨d, e⟩

set_option maxHeartbeats 2000000 in
theorem hold_any (v pv : Value) (xs : List SM) (l : List Int) (w : World) (hR : RdT w v xs) (hZ : RdZ w pv l) (hl : xs.length ≤ 4611686018427387904) (hll : l.length ≤ 4611686018427387904) :
    Calls Try.prog 31 #[v, pv] w fun e w' => e = .returned (.bool (decide (HoldP xs l))) ∧ Below w.heap.size w w' := by
  obtain ⟨A, c, rfl⟩ := hR.form
  obtain ⟨B, d, rfl⟩ := Inn.form hZ
  have HRT := Lib.hid (fun W (h : RdT W _ xs) => right_any (.slice A xs.length c) xs W h hl)
  obtain ⟨n, hn⟩ : ∃ n, xs.length = n := ⟨_, rfl⟩
  obtain ⟨g, hg⟩ : ∃ g, l.length = g := ⟨_, rfl⟩
  have HR := Lib.hid hR; have HZ := Lib.hid hZ; have HN := Lib.hid hn; have HG := Lib.hid hg
  rw [hn] at hl HR HRT
  rw [hn]
  rw [hg] at hll HZ ⊢
  clear hR hZ hn hg
  go_enter Try.func31, Try.ntmps31
  go_wp2
  go_loopw [9] (fun x9 wr => wr = w ∧ ∃ k : Nat, k ≤ g ∧ x9 = .int .i64 k ∧ Hid (∀ j (h : j < l.length), j < k → 0 ≤ l[j] ∧ l[j] < n)) (fun x _ => g - (intOf x).toNat)
  case atStart => exact ⟨rfl, 0, by omega, rfl, fun j _ h => by omega⟩
  case round =>
    obtain ⟨rfl, k, hk, rfl, HK⟩ := hrel
    by_cases hkg : k < g
    · have hkl : k < l.length := by rw [HG.out]; exact hkg
      obtain ⟨b, o, rfl, _, cz⟩ := HZ.out.at_ hkl
      by_cases hok : 0 ≤ l[k] ∧ l[k] < n
      · have HS : Hid (∀ j (h : j < l.length), j < k + 1 → 0 ≤ l[j] ∧ l[j] < n) := fun j h hj => by
          by_cases e : j = k
          · subst e; exact hok
          · exact HK.out j h (by omega)
        obtain ⟨z1, z2⟩ := hok
        clear HK
        generalize l[k] = z at *
        go_wp2
        go_roundw
        case rel => exact ⟨trivial, k + 1, by omega, by go_num, HS.out⟩
        case measure => simp [intOf] <;> omega
      · have hf : decide (HoldP xs l) = false := decide_eq_false fun h => hok (by have := h.1 _ (List.getElem_mem hkl); rw [HN.out] at this; exact this)
        have HF := Lib.hid hf
        clear hf HK
        generalize l[k] = z at *
        by_cases hz : z < 0
        · clear hok
          go_wp2
          go_ret
          exact ⟨ret_bool HF.out.symm, Below.refl _ _⟩
        · have hz2 : (n : Int) ≤ z := by omega
          clear hok
          go_wp2
          go_ret
          exact ⟨ret_bool HF.out.symm, Below.refl _ _⟩
    · obtain rfl : g = k := by omega
      have hf : decide (HoldP xs l) = decide (RightP (dp xs) (kp xs) n) := by
        have ha : ∀ i ∈ l, 0 ≤ i ∧ i < (xs.length : Int) := fun i hi => by
          obtain ⟨j, hj, rfl⟩ := List.getElem_of_mem hi
          rw [HN.out]; exact HK.out j hj (by rw [HG.out] at hj; exact hj)
        by_cases hr : RightP (dp xs) (kp xs) n
        · rw [decide_eq_true hr]; exact decide_eq_true ⟨ha, by rw [HN.out]; exact hr⟩
        · rw [decide_eq_false hr]; exact decide_eq_false fun h => hr (by have := h.2; rw [HN.out] at this; exact this)
      have HF := Lib.hid hf
      have HC := Lib.hid (HRT.out _ HR.out)
      clear hf HK
      go_wp2_with (fail)
      refine HC.out.mono ?_
      rintro e w1 ⟨rfl, hb⟩
      have HB := Lib.hid hb; clear hb
      obtain ⟨q, hq⟩ : ∃ q, q = decide (RightP (dp xs) (kp xs) n) := ⟨_, rfl⟩
      have HQ := Lib.hid hq
      rw [← hq]
      clear hq
      go_wp2
      go_ret
      exact ⟨ret_bool (by rw [HQ.out, HF.out]), HB.out⟩

theorem own_lower {w : World} {b0 b1 : Nat} {e : TypeId} {size n : Nat} {v : Value} {xs : List Value} (h : w.ownsRow b1 e size v n xs) (hb : b0 ≤ b1) : w.ownsRow b0 e size v n xs := by
  obtain ⟨h1, h2⟩ := h
  refine ⟨h1, ?_⟩
  rcases h2 with h2 | ⟨g, cap, cur, e1, e2, e3⟩
  · exact Or.inl h2
  · exact Or.inr ⟨g, cap, cur, e1, Nat.le_trans hb e2, e3⟩
/-- what a round that collects leaves -/
theorem coll_step {W w1 : World} {n₀ B B0 : Nat} {t e : TypeId} {size : Nat} {v v' : Value} {k m : Nat} {xs ys : List Value} {tmp : Obj}
    (hv : Boxed W B t v) (hB : B < n₀) (hB0 : B0 ≤ B) (hn : n₀ ≤ W.heap.size) (hrow : W.ownsRow n₀ e size v k xs)
    (hown' : w1.ownsRow n₀ e size v' m ys) (hgrow : (W.alloc tmp).grownBy w1 v.ownBlock) :
    Boxed w1 B t v ∧ Boxed (w1.setCell ⟨B, 0, none⟩ v') B t v' ∧ (w1.setCell ⟨B, 0, none⟩ v').ownsRow n₀ e size v' m ys ∧ KeepsOthers W (w1.setCell ⟨B, 0, none⟩ v') ∧
      (∀ keep : Nat → Prop, (∀ j, keep j → j < n₀ ∧ j ≠ B) → KeepP keep W (w1.setCell ⟨B, 0, none⟩ v')) ∧ Below B0 W (w1.setCell ⟨B, 0, none⟩ v') := by
  have hlow : ∀ j, v.ownBlock = some j → n₀ ≤ j := fun j hj => (hrow.lt j hj).1
  have hne : ∀ j, j < n₀ → some j ≠ v.ownBlock := fun j hj e => by have := hlow j e.symm; omega
  have hv1 : Boxed w1 B t v := (hv.alloc tmp).kept hgrow (hne B hB)
  have hlow' : ∀ j, v'.ownBlock = some j → n₀ ≤ j := fun j hj => (hown'.lt j hj).1
  refine ⟨hv1, hv1.set v', hown'.kept (grownBy_setCell' w1 B v') ?_, ?_, fun keep hk => ?_, ?_⟩
  · cases hv' : v'.ownBlock with
    | none => exact Or.inl rfl
    | some q => exact Or.inr (fun e => by have := hlow' q hv'; have e := Option.some.inj e; omega)
  · refine ((KeepsOthers.alloc W tmp).trans (KeepsOthers.of_grownBy hgrow fun j o ej hj => ?_)).trans (KeepsOthers.setCell _ _ _)
    rcases (hrow.alloc tmp).2 with ⟨rfl, _⟩ | ⟨g, cap, cur, rfl, _, hgb, _⟩
    · simp [Value.ownBlock] at ej
    · obtain rfl : g = j := by simpa [Value.ownBlock] using ej
      rw [hgb] at hj; cases hj; rfl
  · refine ⟨?_, fun j hj => ?_⟩
    · have h1 := hgrow.size
      have h2 := (grownBy_setCell' w1 B v').size
      rw [World.size_alloc] at h1
      omega
    · obtain ⟨h1, h2⟩ := hk j hj
      have e1 : (w1.setCell ⟨B, 0, none⟩ v').heap[j]? = w1.heap[j]? := Below.heap_setCell _ _ _ j (fun e => h2 e)
      have e2 : w1.heap[j]? = (W.alloc tmp).heap[j]? := hgrow.block j (by rw [World.size_alloc]; omega) (hne j h1)
      rw [e1, e2]
      exact Below.heap_alloc W _ j (by omega)
  · exact (((Below.refl B0 W).alloc (by omega) tmp).grown hgrow (by simp; omega) fun j ej => by have := hlow j ej; omega).setCell (p := ⟨B, 0, none⟩) hB0 v'

/-- what the collecting loop knows -/
structure KidI (w : World) (B5 : Nat) {n : Nat} (pre : List (Pl n)) (W : World) : Prop where
  out : ∃ v, Boxed W B5 27 v ∧ W.ownsRow (B5 + 1 + 1 + 1) 3 1 v pre.length (kvN (pre.map (·.1)))
  below : Below w.heap.size w W
  size : B5 + 1 + 1 + 1 ≤ W.heap.size
theorem KidI.grown {w : World} {B5 n : Nat} {pre : List (Pl n)} {W W' : World} {row : Option Nat} (h : KidI w B5 pre W) (hw : w.heap.size ≤ B5) (hg : W.grownBy W' row) (hr : ∀ r, row = some r → B5 + 1 + 1 + 1 ≤ r ∧ ∃ o : Obj, W.heap[r]? = some o ∧ o.isCells = false) : KidI w B5 pre W' := by
  obtain ⟨v, hv, hrow⟩ := h.out
  refine ⟨⟨v, hv.kept hg (fun e => by have := (hr _ e.symm).1; omega), hrow.kept hg ?_⟩, h.below.grown hg h.below.size (fun k hk => by have := (hr k hk).1; omega), Nat.le_trans h.size hg.size⟩
  rcases hrow.2 with ⟨rfl, _⟩ | ⟨g, cap, cur, rfl, _, hgb, _⟩
  · exact .inl rfl
  · refine .inr fun e' => ?_
    obtain ⟨_, o, ho, hc⟩ := hr g (by simpa [Value.ownBlock] using e'.symm)
    rw [hgb] at ho; cases ho; cases hc
theorem kid_start (w w1 : World) (v : Value) (i n : Nat) (hb : Below w.heap.size w w1) {W : World} (hW : W = ((w1.alloc (.cells #[.slice none 0 0] 27)).alloc (.cells #[v] 22)).alloc (.cells #[.int .i64 i] 3)) :
    KidI w w1.heap.size ([] : List (Pl n)) W ∧ Boxed W (w1.heap.size + 1) 22 v ∧ Boxed W (w1.heap.size + 1 + 1) 3 (.int .i64 i) ∧ W.heap.size = w1.heap.size + 1 + 1 + 1 := by
  subst hW
  refine ⟨⟨⟨_, ((boxed_at rfl).alloc _).alloc _, World.ownsRow_nil _ _ _ _⟩, ?_, by simp⟩, (boxed_at (by simp)).alloc _, boxed_at (by simp), by simp⟩
  have := hb.size
  exact ((hb.alloc (by omega) _).alloc (by simp; omega) _).alloc (by simp; omega) _

set_option maxRecDepth 100000 in
set_option maxHeartbeats 4000000 in
/-- the children of a place that there is -/
theorem kids_any (v : Value) (xs : List SM) (i : Nat) (w : World) (hR : RdT w v xs) (hi : i < xs.length) (hP : RightP (dp xs) (kp xs) xs.length) :
    Calls Try.prog 15 #[v, .int .i64 i] w fun e w' => (∃ u, e = .returned u ∧ w'.ownsRow w.heap.size 3 1 u (kids (dp xs) xs.length i).length (kvN (kids (dp xs) xs.length i))) ∧ Below w.heap.size w w' := by
  obtain ⟨i0, hi0, hz0, hz1, hz2⟩ := info_parts Try.infoInt
  have HI := Lib.hid hi0; have HZ0 := Lib.hid hz0; have HZ1 := Lib.hid hz1; have HZ2 := Lib.hid hz2
  clear hi0 hz0 hz1 hz2
  obtain ⟨A, c, rfl⟩ := hR.form
  have hl : xs.length ≤ 40 := hP.le
  have HHO := Lib.hid (fun W (h : RdT W _ xs) pv hz => hold_any (.slice A xs.length c) pv xs [(i : Int)] W h hz (by omega) (by simp))
  have hold : decide (HoldP xs [(i : Int)]) = true := decide_eq_true (hold_one.2 ⟨by omega, by omega, hP⟩)
  rw [hold] at HHO
  obtain ⟨n, hn⟩ : ∃ n, xs.length = n := ⟨_, rfl⟩
  have HS := Lib.hid (fun W0 (h : RdT W0 _ xs) BL BI w' => children_stops (.slice A xs.length c) xs i hi (by omega) hP.nst W0 h BL BI w')
  have HCH := Lib.hid (fun W => children_any A xs.length c i W)
  have HR := Lib.hid hR
  have HNN := Lib.hid hn
  rw [hn] at hi hl HS HCH HHO HR ⊢
  clear hR hn hP hold
  refine (callsIn_wide (n := 3)).1 ?_
  refine callsIn_of_wp_marks Try.func15 rfl trivial ?_ rfl
  simp only [Try.ntmps15, List.size_toArray, List.length_cons, List.length_nil, Nat.reduceAdd, Nat.reduceSub, Array.replicate_succ, Array.replicate_zero, List.push_toArray, List.append_toArray, List.nil_append, List.cons_append]
  have HB0 : Hid (Below w.heap.size w (w.alloc (.cells #[.int .i64 i] 3))) := (Below.refl _ _).alloc (Nat.le_refl _) _
  have HC0 := Lib.hid (HHO.out _ (HR.out.below HB0.out) _ (rdZ_new rfl [(i : Int)] (by simp)))
  gi_wp2_with (refine ⟨trivial, ?_⟩; first | (gi_at_call 31; refine (callsIn_wide.2 HC0.out).mono ?_; rintro e w1 ⟨rfl, hb1⟩) | (gi_at_call 34; refine (callsIn_wide.2 (HCH.out _)).mono ?_; rintro e w2 ⟨rfl, rfl⟩))
  have hb01 : Below w.heap.size w w1 := HB0.out.trans (hb1.mono HB0.out.size)
  have hs1 := hb01.size
  obtain ⟨W3, hW3⟩ : ∃ W, W = ((w1.alloc (.cells #[.slice none 0 0] 27)).alloc (.cells #[.slice A n c] 22)).alloc (.cells #[.int .i64 i] 3) := ⟨_, rfl⟩
  rw [← hW3]
  obtain ⟨hF, hbl, hbi, hs3⟩ := kid_start w w1 _ i n hb01 hW3
  have HS3 := Lib.hid (HS.out w HR.out _ _ _ hF.below hbl hbi)
  clear hW3 hbl hbi hb01 hb1
  refine wpIn_rangeFunc_ownG rfl (by decide) (gf := 39) (lb := #[.pointer (some ⟨w1.heap.size + 1 + 1, 0, none⟩), .pointer (some ⟨w1.heap.size + 1, 0, none⟩)]) rfl trivial (enters_of Try.func39 (by kernel_rfl) rfl)
    HS3.out KeepP.trans (fun W l o o' hl _ _ _ => ⟨by simp, fun k hk => World.putObj_heap_other (by rcases hk with hk | rfl | rfl <;> omega)⟩) (Below.refl _ _) (fun _ => rfl)
    (fun pre W => KidI w w1.heap.size pre W)
    (fun _ _ _ => False)
    (fun s X Y row hs hg hr => hs.grown hs1 hg (fun q hq => by have := hr q hq; rw [hs3] at this; exact this))
    (fun _ _ _ _ _ hs _ _ => hs)
    hF
    (fun x => { tmps := #[.slice A n c, .int .i64 i, undef, undef, .slice none 0 0, .pointer (some ⟨w1.heap.size, 0, none⟩), .int .i64 x.1, .slice A n c, .int .i64 i, .slice (some ⟨w.heap.size, 0, none⟩) 1 1, .bool true, .bool false, .slice A n c, .int .i64 i, .func (.func 39) #[] #[.pointer (some ⟨w1.heap.size + 1 + 1, 0, none⟩), .pointer (some ⟨w1.heap.size + 1, 0, none⟩)], .int .i64 x.1, undef, undef, undef, undef, undef], defers := [] }) ?assign ?body ?done ?stop
  case assign =>
    intro l x W K hK
    gi_wp2
    exact hK
  case body =>
    rintro l pre x W hI hlen
    obtain ⟨v, hv, hrow⟩ := hI.out
    have hc := hv.cell
    have hsz := hI.size
    gi_wp2_with (gi_at_builtin; refine wpListIn_append_own _ rfl _ _ 27 rfl (w1.heap.size + 1 + 1 + 1) 3 i0 (.int .i64 0) 1 8 Try.underlying27 HI.out HZ0.out HZ1.out HZ2.out rfl (by decide) _ _ _ rfl (hrow.alloc _) ⟨W.heap.size, 0, none⟩ 1 1 [.int .i64 x.1] rfl rfl (one_int _ _) (by intro u hu; simp at hu; subst hu; rfl) (by unfold maxLen; omega) (by omega) (by simp; omega) ?_; intro v' w4 hown' hgrow _; obtain ⟨g', cap', rfl⟩ := ownsRow_succ hown'; obtain ⟨hv1, hv2, hr2, hk2, hkp, hb2⟩ := coll_step (B0 := w.heap.size) hv (by omega) hs1 hsz hrow hown' hgrow; have hc1 := hv1.cell; have hf1 := hv1.frozen)
    refine ⟨hk2.from _, hkp _ (fun j hj => by rcases hj with h | rfl | rfl <;> omega), ⟨⟨_, hv2, ?_⟩, hI.below.trans (hb2.mono (Nat.le_refl _)), ?_⟩⟩
    · rw [List.map_append, List.length_append, kvN_append]; exact hr2
    · have := (hkp (fun _ => False) (fun _ h => h.elim)).1; omega
  case done =>
    rintro D ys W hD hS hI hK
    obtain ⟨v, hv, hrow⟩ := hI.out
    have hc := hv.cell
    gi_wp2
    refine ⟨by simp, .inl ⟨_, _, rfl, run_takeDeferred hK, ?_⟩⟩
    have hG := (hI.below).grown (grownBy_putObj' W D (.deferred none)) hI.below.size (fun k hk => by cases hk; omega)
    refine ⟨_, results_tmp rfl _ _ _, ⟨v, rfl, ?_⟩, hG⟩
    have h2 := own_lower (ownsRow_putObj hrow (.deferred none) hK rfl) (show w.heap.size ≤ w1.heap.size + 1 + 1 + 1 by omega)
    have hlen : ys.length = (kids (dp xs) n i).length := by rw [← hS, List.length_map]
    rw [hS, hlen] at h2
    exact h2
  case stop =>
    rintro D cd pre W _ _ h _
    exact h.elim
end Go.Proofs.Ytpmgleioldlolaa
