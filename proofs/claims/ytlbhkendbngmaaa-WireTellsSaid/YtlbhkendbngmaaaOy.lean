/- A region that draws its order, of operations that read, or make memory of their own, and write nothing older: it is walked once, in the order of the text; what an operation's value is may be told by the values of those that it waits for. No program is named here. -/
import Derived.Test.YtlbhkendbngmaaaOw
namespace Go.Proofs.Ytlbhkendbngmaaa
open Go Go.RowKit
namespace Oy
open Ow (beforeB dstAt looksB shapeB Shape acts vals vals_succ vals_at valAt valAt_put before_iff acts_size acts_at run_alike oper_alike countP_lt NoWay shape_of)

abbrev RelD := List Value → Value → World → Prop
def eqD (x : Value) : RelD := fun _ v _ => v = x
def anyD : RelD := fun _ _ _ => True

section
variable (P : Program) (ops : Array Oper) (Q : Exit → Act → World → Prop) (md : Region.Mode) (Rs : List RelD) (par : List (List Nat))

def parV (f : Nat → Value) (i : Nat) : List Value := (par.getD i []).map f
def relD (i : Nat) : RelD := (Rs[i]?).getD fun _ _ _ => True

/-- an operation's own duty; vs: the values of those ahead of it in the text -/
def Duty (w0 : World) (i : Nat) (o : Oper) (a : Act) (vs : List Value) : Prop :=
  ∀ w, Below w0.heap.size w0 w → (∀ j, beforeB md ops j i = true → relD Rs j (parV par (fun k => vs.getD k undef) j) (vs.getD j undef) w) →
    ∀ K : Act → World → Prop, (∀ v w', Below w.heap.size w w' → relD Rs i (parV par (fun k => vs.getD k undef) i) v w' → K (a.put o.dst v) w') →
      if Region.wanted o (yielded ops a.tmps) = true then Oper.wp P o a w K NoWay else K (a.put o.dst undef) w
def Walk (w0 : World) : List Oper → Nat → Act → List Value → Prop
  | [], _, a, vs => ∀ w, Below w0.heap.size w0 w → (∀ j, j < ops.size → relD Rs j (parV par (fun k => vs.getD k undef) j) (vs.getD j undef) w) → Q .normal a w
  | o :: r, i, a, vs => Duty P ops md Rs par w0 i o a vs ∧ ∀ v, Walk w0 r (i + 1) (a.put o.dst v) (vs ++ [v])
end

section
variable {P : Program} {ops : Array Oper} {Q : Exit → Act → World → Prop} {md : Region.Mode} {Rs : List RelD} {par : List (List Nat)} {w0 : World}

theorem walk_acts (a0 : Act) (vs : Nat → Value) : ∀ (l : List Oper) (i : Nat), (∀ j, l[j]? = ops[i + j]?) → Walk P ops Q md Rs par w0 l i (acts ops a0 vs i) (vals vs i) →
    (∀ j o, i ≤ j → ops[j]? = some o → Duty P ops md Rs par w0 j o (acts ops a0 vs j) (vals vs j)) ∧ (i ≤ ops.size → Walk P ops Q md Rs par w0 [] ops.size (acts ops a0 vs ops.size) (vals vs ops.size)) := by
  intro l
  induction l with
  | nil =>
    intro i hl h
    have hs : ops.size ≤ i := by
      have := hl 0
      simp at this
      exact this
    refine ⟨fun j o hj ho => ?_, fun hi => ?_⟩
    · have := (Array.getElem?_eq_some_iff.1 ho).1; omega
    · have : i = ops.size := by omega
      subst this
      exact h
  | cons o r ih =>
    intro i hl h
    have h0 : ops[i]? = some o := by have := hl 0; simpa using this.symm
    have hd : dstAt ops i = o.dst := by simp [dstAt, h0]
    have hw := h.2 (vs i)
    rw [← hd, ← vals_succ] at hw
    obtain ⟨h1, h2⟩ := ih (i + 1) (fun j => by have := hl (j + 1); simp at this; rw [this]; congr 1; omega) hw
    refine ⟨fun j p hj hp => ?_, fun _ => h2 (by have := (Array.getElem?_eq_some_iff.1 h0).1; omega)⟩
    by_cases hji : j = i
    · subst hji
      obtain rfl : o = p := by rw [h0] at hp; exact Option.some.inj hp
      exact h.1
    · exact h1 j p (by omega) hp

/-- what holds at each point of each order -/
structure Inv (P : Program) (ops : Array Oper) (md : Region.Mode) (Rs : List RelD) (par : List (List Nat)) (eats : List (Option Nat)) (w0 : World) (a0 : Act) (L : Nat → Bool) (a : Act) (w : World) : Prop where
  inv : Ow.Inv P ops md [] [] eats w0.heap.size w0 a0 L a w
  fact : ∀ i, i < ops.size → L i = true → relD Rs i (parV par (valAt ops a) i) (valAt ops a i) w

theorem below_of {w w' : World} (h : w.grownBy w' none) : Below w.heap.size w w' := ⟨h.os, h.tape, h.output, h.size, fun k hk => h.block k hk (by simp)⟩
theorem par_same {f g : Nat → Value} {i : Nat} (h : ∀ p, p ∈ par.getD i [] → f p = g p) : parV par f i = parV par g i := by
  unfold parV
  exact List.map_congr_left h

theorem any_quiet {n : Nat} {eats : List (Option Nat)} (he : ∀ i, Ow.eatsAt eats i = none) (S : Shape md ops [] eats n) (hK : ∀ i, i < ops.size → ∀ ps v w w', relD Rs i ps v w → Below w.heap.size w w' → relD Rs i ps v w') (hP : ∀ i p, i < ops.size → p ∈ par.getD i [] → beforeB md ops p i = true) {a0 : Act} (hn : a0.tmps.size = n)
    (hW : Walk P ops Q md Rs par w0 ops.toList 0 a0 []) : ∀ (fuel : Nat) (listed : Array Bool) (a : Act) (w : World), listed.size = ops.size → (List.range ops.size).countP (fun i => !listed.getD i false) ≤ fuel → w0.heap.size ≤ w.heap.size →
    Inv P ops md Rs par eats w0 a0 (fun i => listed.getD i false) a w → wpAny P md ops Q fuel listed a w := by
  have hWv : ∀ vs : Nat → Value, (∀ j o, ops[j]? = some o → Duty P ops md Rs par w0 j o (acts ops a0 vs j) (vals vs j)) ∧ Walk P ops Q md Rs par w0 [] ops.size (acts ops a0 vs ops.size) (vals vs ops.size) := by
    intro vs
    obtain ⟨h1, h2⟩ := walk_acts a0 vs ops.toList 0 (by simp) hW
    exact ⟨fun j o ho => h1 j o (Nat.zero_le _) ho, h2 (Nat.zero_le _)⟩
  have fin : ∀ (listed : Array Bool) (a : Act) (w : World), listed.size = ops.size → Inv P ops md Rs par eats w0 a0 (fun i => listed.getD i false) a w → Region.ready md ops listed = [] → Q .normal a w := by
    intro listed a w hls I hr
    have all : ∀ i, i < ops.size → listed.getD i false = true := by
      intro i
      induction i using Nat.strongRecOn with
      | _ i ih =>
        intro hi
        cases hli : listed.getD i false with
        | true => rfl
        | false =>
          have : i ∈ Region.ready md ops listed := by
            rw [mem_ready]
            refine ⟨by rw [← hli]; simp [Array.getD, hls, hi], ops[i], by simp [hi], fun e he hb => ?_⟩
            have hbf := S.deps i ops[i] (by simp [hi]) e he hb
            exact ih _ (S.back _ _ hbf) (by have := S.back _ _ hbf; omega)
          rw [hr] at this; cases this
    obtain ⟨_, h2⟩ := hWv (valAt ops a)
    have hact : acts ops a0 (valAt ops a) ops.size = a := by
      obtain ⟨s1, s2⟩ := acts_size (ops := ops) a0 (valAt ops a) ops.size
      have ht : (acts ops a0 (valAt ops a) ops.size).tmps = a.tmps := by
        apply Array.ext_getElem?
        intro d
        obtain ⟨k1, k2⟩ := acts_at S a0 hn (valAt ops a) d ops.size (Nat.le_refl _)
        by_cases hj : ∃ j, j < ops.size ∧ dstAt ops j = some d
        · obtain ⟨j, hj, hjd⟩ := hj
          rw [k1 j hj hjd]
          obtain ⟨e, he', hen⟩ := S.dst j hj
          obtain rfl : e = d := by rw [hjd] at he'; exact (Option.some.inj he').symm
          unfold valAt
          rw [hjd]
          have : e < a.tmps.size := by rw [I.inv.size, hn]; exact hen
          simp [Array.getD, this]
        · rw [k2 (fun k hk hkd => hj ⟨k, hk, hkd⟩)]
          exact (I.inv.rest d (fun k hk hkd => absurd ⟨k, hk, hkd⟩ hj)).symm
      have hdf := s2.trans I.inv.defers.symm
      generalize acts ops a0 (valAt ops a) ops.size = b at *
      obtain ⟨bt, bd⟩ := b
      obtain ⟨at', ad⟩ := a
      simp at ht hdf
      rw [ht, hdf]
    have := h2 w I.inv.below
    rw [hact] at this
    refine this (fun j hj => ?_)
    rw [vals_at _ hj, par_same (g := valAt ops a) (fun p hp => vals_at _ (by have := S.back _ _ (hP j p hj hp); omega))]
    exact I.fact j hj (all j hj)
  intro fuel
  induction fuel with
  | zero =>
    intro listed a w hls hc hb I
    have hr : Region.ready md ops listed = [] := by
      cases h : Region.ready md ops listed with
      | nil => rfl
      | cons i r =>
        exfalso
        have hi : i ∈ Region.ready md ops listed := by rw [h]; simp
        obtain ⟨h0, o, ho, _⟩ := mem_ready.1 hi
        have his := (Array.getElem?_eq_some_iff.1 ho).1
        have : 0 < (List.range ops.size).countP (fun i => !listed.getD i false) := List.countP_pos_iff.2 ⟨i, List.mem_range.2 his, by
          rw [show listed.getD i false = listed.getD i true by simp [Array.getD, hls, his], h0]; rfl⟩
        omega
    exact ⟨hr, fin listed a w hls I hr⟩
  | succ fuel ih =>
    intro listed a w hls hc hb I
    refine ⟨fin listed a w hls I, fun i hi => ?_⟩
    obtain ⟨h0, o, ho, hall⟩ := mem_ready.1 hi
    have his := (Array.getElem?_eq_some_iff.1 ho).1
    have hL : listed.getD i false = false := by rw [show listed.getD i false = listed.getD i true by simp [Array.getD, hls, his], h0]
    have hdep : ∀ j, beforeB md ops j i = true → listed.getD j false = true := by
      intro j hj
      obtain ⟨o', ho', e, he, hbd, rfl⟩ := before_iff.1 hj
      obtain rfl : o = o' := by rw [ho] at ho'; exact Option.some.inj ho'
      exact hall e he hbd
    have hds : o.dst = dstAt ops i := by simp [dstAt, ho]
    obtain ⟨d, hd, hdn⟩ := S.dst i his
    have hag := I.inv.agrees S hn his hL hdep
    obtain ⟨hex, hwt⟩ := run_alike (ops := ops) (o := o) (S.sel i o · · ho) (a := a) (b := acts ops a0 (valAt ops a) i) (fun d hd => hag d (by unfold looksB; rw [ho]; simpa using hd))
    have hval : ∀ j, beforeB md ops j i = true → (vals (valAt ops a) i).getD j undef = valAt ops a j := fun j hj => vals_at _ (S.back _ _ hj)
    have hpar : parV par (fun k => (vals (valAt ops a) i).getD k undef) i = parV par (valAt ops a) i := par_same (fun p hp => hval p (hP i p his hp))
    have hnext : ∀ v w', Below w.heap.size w w' → relD Rs i (parV par (fun k => (vals (valAt ops a) i).getD k undef) i) v w' → wpAny P md ops Q fuel (listed.setIfInBounds i true) (a.put o.dst v) w' := by
      intro v w' hbl hr
      rw [hpar] at hr
      have hgr : w.grownBy w' (Ow.rowOf ops eats a i) := by
        unfold Ow.rowOf
        rw [he i]
        exact ⟨hbl.os, hbl.tape, hbl.output, hbl.size, fun k hk _ => hbl.block k hk⟩
      obtain ⟨I', hb'⟩ := I.inv.step S (fun j _ => by intro v w w' row _ _ _ _; simp [Ow.rel]) hn hb his hL hdep (v := v) (w' := w') ⟨by simp [Ow.rel], hgr, by simp⟩
      obtain ⟨hvi, hvj⟩ := valAt_put S (I.inv.size.trans hn) his v
      rw [hds]
      refine ih _ _ _ (by simp [hls]) ?_ hb' ?_
      · have : (List.range ops.size).countP (fun j => !(listed.setIfInBounds i true).getD j false) < (List.range ops.size).countP (fun j => !listed.getD j false) := by
          refine countP_lt _ i (List.mem_range.2 his) (by simp [hL]) (by simp [Array.getD, hls, his]) (fun j hj h => ?_)
          by_cases hji : i = j
          · subst hji; simp [Array.getD, hls, his] at h
          · simpa [Array.getD_eq_getD_getElem?, Array.getElem?_setIfInBounds_ne hji] using h
        omega
      · have hfun : (fun j => (listed.setIfInBounds i true).getD j false) = fun j => if j = i then true else listed.getD j false := by
          funext j
          by_cases hji : j = i
          · subst hji; simp [Array.getD, hls, his]
          · simp [Array.getD_eq_getD_getElem?, Array.getElem?_setIfInBounds_ne (Ne.symm hji), hji]
        rw [hfun]
        refine ⟨I', fun j hj hLj => ?_⟩
        by_cases hji : j = i
        · subst hji
          rw [hvi, par_same (g := valAt ops a) (fun p hp => hvj p (by have := S.back _ _ (hP j p hj hp); omega) (by have := S.back _ _ (hP j p hj hp); omega))]
          exact hr
        · have hLj' : listed.getD j false = true := by simpa [hji] using hLj
          rw [hvj j hj hji, par_same (g := valAt ops a) (fun p hp => by
            have hbf := hP j p hj hp
            have hLp : listed.getD p false = true := I.inv.closed j p hj hLj' hbf
            refine hvj p (by have := S.back _ _ hbf; omega) (fun e => ?_)
            subst e
            rw [hL] at hLp; cases hLp)]
          exact hK j hj _ _ _ _ (I.fact j hj hLj') hbl
    have hduty := (hWv (valAt ops a)).1 i o ho w I.inv.below
      (fun j hj => by
        have hji := S.back _ _ hj
        rw [hval j hj, par_same (g := valAt ops a) (fun p hp => vals_at _ (by have := S.back _ _ (hP j p (by omega) hp); omega))]
        exact I.fact j (by omega) (hdep j hj))
      (fun a' w' => ∃ v, a' = (acts ops a0 (valAt ops a) i).put o.dst v ∧ Below w.heap.size w w' ∧ relD Rs i (parV par (fun k => (vals (valAt ops a) i).getD k undef) i) v w') (fun v w' h1 h2 => ⟨v, rfl, h1, h2⟩)
    have hinj : ∀ u v, (acts ops a0 (valAt ops a) i).put o.dst u = (acts ops a0 (valAt ops a) i).put o.dst v → u = v := by
      intro u v huv
      rw [hds, hd] at huv
      have h1 := congrArg (fun x => x.tmps[d]?) huv
      have hsz := (acts_size (ops := ops) a0 (valAt ops a) i).1
      have hlt : d < (acts ops a0 (valAt ops a) i).tmps.size := by rw [hsz, hn]; exact hdn
      simp [Act.put, hlt] at h1
      exact h1
    unfold wpOp
    simp only [ho]
    rw [hwt]
    split
    · rename_i hw
      rw [if_pos hw] at hduty
      refine Or.inl (Oper.wp_mono (fun a' w' h => ?_) (oper_alike (d := d) (by rw [hds, hd]) (by rw [(acts_size (ops := ops) a0 (valAt ops a) i).1, hn]; exact hdn) hex hduty))
      obtain ⟨v, rfl, h1, h2⟩ := h
      exact hnext v w' h1 h2
    · rename_i hw
      rw [if_neg hw] at hduty
      obtain ⟨v, h1, h2, h3⟩ := hduty
      obtain rfl := hinj _ _ h1
      exact hnext undef w h2 h3
end

def KeepsD (R : RelD) : Prop := ∀ ps v w w', R ps v w → Below w.heap.size w w' → R ps v w'
def KeepsL : List RelD → Prop
  | [] => True
  | R :: rs => KeepsD R ∧ KeepsL rs
theorem KeepsL.all : ∀ (rs : List RelD), KeepsL rs → ∀ i, KeepsD (relD rs i)
  | [], _, i => by intro ps v w w' _ _; simp [relD]
  | R :: rs, h, 0 => h.1
  | R :: rs, h, i + 1 => by
    have := KeepsL.all rs h.2 i
    unfold relD at this ⊢
    simpa using this
theorem keeps_eq (x : Value) : KeepsD (eqD x) := fun _ _ _ _ h _ => h
theorem keeps_any : KeepsD anyD := fun _ _ _ _ _ _ => trivial
theorem keeps_pure (R : List Value → Value → Prop) : KeepsD (fun ps v _ => R ps v) := fun _ _ _ _ h _ => h
def parB (md : Region.Mode) (ops : Array Oper) (par : List (List Nat)) : Bool := (List.range ops.size).all fun i => (par.getD i []).all fun p => beforeB md ops p i
theorem par_of {md : Region.Mode} {ops : Array Oper} {par : List (List Nat)} (h : parB md ops par = true) : ∀ i p, i < ops.size → p ∈ par.getD i [] → beforeB md ops p i = true := by
  intro i p hi hp
  unfold parB at h
  rw [List.all_eq_true] at h
  have := h i (List.mem_range.2 hi)
  rw [List.all_eq_true] at this
  exact this p hp
theorem region_quiet {P : Program} {ops : Array Oper} {Q : Exit → Act → World → Prop} {id : Nat} {a0 : Act} {w : World} (n : Nat) (Rs : List RelD) (par : List (List Nat)) (hm : P.follows .mixedOrders = true) (hn : a0.tmps.size = n) (hs : shapeB .any ops [] (List.replicate ops.size none) n = true) (hp : parB .any ops par = true)
    (hK : KeepsL Rs) (hW : Walk P ops Q .any Rs par w.drew ops.toList 0 a0 []) : (Code.region id ops true).wp P Q a0 w := by
  refine wp_region_any hm (any_quiet (w0 := w.drew) (eats := List.replicate ops.size none) (fun i => ?_) (shape_of hs) (fun i _ => KeepsL.all _ hK i) (par_of hp) hn hW ops.size _ a0 w.drew (by simp) ?_ (Nat.le_refl _) ?_)
  · unfold Ow.eatsAt
    by_cases hi : i < ops.size
    · simp [hi]
    · simp [hi]
  · exact Nat.le_trans List.countP_le_length (by simp)
  · refine ⟨⟨Below.refl _ _, rfl, rfl, fun _ _ => rfl, ?_, ?_, ?_, ?_⟩, ?_⟩
    all_goals
      intros
      rename_i h
      first | (simp [Array.getD] at h; done) | (rename_i h' _; simp [Array.getD] at *)
theorem walk_cons {P : Program} {ops : Array Oper} {Q : Exit → Act → World → Prop} {md : Region.Mode} {Rs : List RelD} {par : List (List Nat)} {w0 : World} {l r : List Oper} {o : Oper} {i : Nat} {a : Act} {vs : List Value} {f : Value → Act} {us : Value → List Value}
    (hl : l = o :: r) (h : Duty P ops md Rs par w0 i o a vs) (hf : ∀ v, a.put o.dst v = f v) (hu : ∀ v, vs ++ [v] = us v) (hr : ∀ v, Walk P ops Q md Rs par w0 r (i + 1) (f v) (us v)) : Walk P ops Q md Rs par w0 l i a vs := by
  subst hl; exact ⟨h, fun v => by rw [hf, hu]; exact hr v⟩
theorem walk_nil {P : Program} {ops : Array Oper} {Q : Exit → Act → World → Prop} {md : Region.Mode} {Rs : List RelD} {par : List (List Nat)} {w0 : World} {l : List Oper} {i : Nat} {a : Act} {vs : List Value}
    (hl : l = []) (h : ∀ w, Below w0.heap.size w0 w → (∀ j, Nat.blt j ops.size = true → relD Rs j (parV par (fun k => vs.getD k undef) j) (vs.getD j undef) w) → Q .normal a w) : Walk P ops Q md Rs par w0 l i a vs := by
  subst hl
  exact fun w hb hd => h w hb fun j hj => hd j (by simpa using hj)
/-- with its closing duties by tactic: one bullet an operation -/
theorem walk_q {P : Program} {ops : Array Oper} {Q : Exit → Act → World → Prop} {md : Region.Mode} {Rs : List RelD} {par : List (List Nat)} {w0 : World} {l r : List Oper} {o : Oper} {i : Nat} {a : Act} {vs : List Value} {f : Value → Act} {us : Value → List Value}
    (h : Duty P ops md Rs par w0 i o a vs) (hr : ∀ v, Walk P ops Q md Rs par w0 r (i + 1) (f v) (us v))
    (hl : l = o :: r := by exact rfl) (hf : ∀ v, a.put o.dst v = f v := by intro v; simp only [Act.put, List.setIfInBounds_toArray, List.set_cons_succ, List.set_cons_zero]; exact rfl) (hu : ∀ v, vs ++ [v] = us v := by intro v; simp only [List.cons_append, List.nil_append]; exact rfl) : Walk P ops Q md Rs par w0 l i a vs :=
  walk_cons hl h hf hu hr
end Oy
end Go.Proofs.Ytlbhkendbngmaaa
