/- Own texts, joined: Oy, A12, A14, Vt, A27. -/
import Derived.Test.YtjgfkmakfdepcaaGreatDoorR1
import Derived.Test.YtjgfkmakfdepcaaGreatDoorR19
import Derived.Test.YtjgfkmakfdepcaaGreatDoorR22
import Derived.Test.YtjgfkmakfdepcaaGreatDoorR24
namespace Go.Proofs.YtjgfkmakfdepcaaGreatDoor
open Go Go.RowKit
namespace Oy
open Ow (beforeB dstAt looksB shapeB Shape acts vals vals_succ vals_at valAt valAt_put before_iff acts_size acts_at run_alike oper_alike countP_lt NoWay shape_of)

abbrev RelD := List Value → Value → World → Prop
def eqD (x : Value) : RelD := fun _ v _ => v = x
section
variable (P : Program) (ops : Array Oper) (Q : Exit → Act → World → Prop) (md : Region.Mode) (Rs : List RelD) (par : List (List Nat))

def parV (f : Nat → Value) (i : Nat) : List Value := (par.getD i []).map f
def relD (i : Nat) : RelD := (Rs[i]?).getD fun _ _ _ => True

/-- an operation's own duty; vs: the values of those ahead of it in the text -/
def Duty (w0 : World) (i : Nat) (o : Oper) (a : Act) (vs : List Value) : Prop :=
  ∀ w, Below w0.heap.size w0 w → (∀ j, beforeB md ops j i = true → relD Rs j (parV par (fun k => vs.getD k undef) j) (vs.getD j undef) w) →
    ∀ K : Act → World → Prop, (∀ v w', Below w.heap.size w w' → relD Rs i (parV par (fun k => vs.getD k undef) i) v w' → K (a.put o.dst v) w') →
      if Region.wanted o (yielded ops a.tmps) = true then Oper.wp P o a w K NoWay else K (a.put o.dst undef) w
def Walk (w0 : World) : List Oper → Nat → Act → List Value → Prop
  | [], _, a, vs => ∀ w, Below w0.heap.size w0 w → (∀ j, j < ops.size → relD Rs j (parV par (fun k => vs.getD k undef) j) (vs.getD j undef) w) → Q .normal a w
  | o :: r, i, a, vs => Duty P ops md Rs par w0 i o a vs ∧ ∀ v, Walk w0 r (i + 1) (a.put o.dst v) (vs ++ [v])
end

section
variable {P : Program} {ops : Array Oper} {Q : Exit → Act → World → Prop} {md : Region.Mode} {Rs : List RelD} {par : List (List Nat)} {w0 : World}

theorem walk_acts (a0 : Act) (vs : Nat → Value) : ∀ (l : List Oper) (i : Nat), (∀ j, l[j]? = ops[i + j]?) → Walk P ops Q md Rs par w0 l i (acts ops a0 vs i) (vals vs i) →
    (∀ j o, i ≤ j → ops[j]? = some o → Duty P ops md Rs par w0 j o (acts ops a0 vs j) (vals vs j)) ∧ (i ≤ ops.size → Walk P ops Q md Rs par w0 [] ops.size (acts ops a0 vs ops.size) (vals vs ops.size)) := by
  intro l
  induction l with
  | nil =>
    intro i hl h
    have hs : ops.size ≤ i := by
      have := hl 0
      simp at this
      exact this
    refine ⟨fun j o hj ho => ?_, fun hi => ?_⟩
    · have := (Array.getElem?_eq_some_iff.1 ho).1; omega
    · have : i = ops.size := by omega
      subst this
      exact h
  | cons o r ih =>
    intro i hl h
    have h0 : ops[i]? = some o := by have := hl 0; simpa using this.symm
    have hd : dstAt ops i = o.dst := by simp [dstAt, h0]
    have hw := h.2 (vs i)
    rw [← hd, ← vals_succ] at hw
    obtain ⟨h1, h2⟩ := ih (i + 1) (fun j => by have := hl (j + 1); simp at this; rw [this]; congr 1; omega) hw
    refine ⟨fun j p hj hp => ?_, fun _ => h2 (by have := (Array.getElem?_eq_some_iff.1 h0).1; omega)⟩
    by_cases hji : j = i
    · subst hji
      obtain rfl : o = p := by rw [h0] at hp; exact Option.some.inj hp
      exact h.1
    · exact h1 j p (by omega) hp

/-- what holds at each point of each order -/
structure Inv (P : Program) (ops : Array Oper) (md : Region.Mode) (Rs : List RelD) (par : List (List Nat)) (eats : List (Option Nat)) (w0 : World) (a0 : Act) (L : Nat → Bool) (a : Act) (w : World) : Prop where
  inv : Ow.Inv P ops md [] [] eats w0.heap.size w0 a0 L a w
  fact : ∀ i, i < ops.size → L i = true → relD Rs i (parV par (valAt ops a) i) (valAt ops a i) w

theorem par_same {f g : Nat → Value} {i : Nat} (h : ∀ p, p ∈ par.getD i [] → f p = g p) : parV par f i = parV par g i := by
  unfold parV
  exact List.map_congr_left h

theorem any_quiet {n : Nat} {eats : List (Option Nat)} (he : ∀ i, Ow.eatsAt eats i = none) (S : Shape md ops [] eats n) (hK : ∀ i, i < ops.size → ∀ ps v w w', relD Rs i ps v w → Below w.heap.size w w' → relD Rs i ps v w') (hP : ∀ i p, i < ops.size → p ∈ par.getD i [] → beforeB md ops p i = true) {a0 : Act} (hn : a0.tmps.size = n)
    (hW : Walk P ops Q md Rs par w0 ops.toList 0 a0 []) : ∀ (fuel : Nat) (listed : Array Bool) (a : Act) (w : World), listed.size = ops.size → (List.range ops.size).countP (fun i => !listed.getD i false) ≤ fuel → w0.heap.size ≤ w.heap.size →
    Inv P ops md Rs par eats w0 a0 (fun i => listed.getD i false) a w → wpAny P md ops Q fuel listed a w := by
  have hWv : ∀ vs : Nat → Value, (∀ j o, ops[j]? = some o → Duty P ops md Rs par w0 j o (acts ops a0 vs j) (vals vs j)) ∧ Walk P ops Q md Rs par w0 [] ops.size (acts ops a0 vs ops.size) (vals vs ops.size) := by
    intro vs
    obtain ⟨h1, h2⟩ := walk_acts a0 vs ops.toList 0 (by simp) hW
    exact ⟨fun j o ho => h1 j o (Nat.zero_le _) ho, h2 (Nat.zero_le _)⟩
  have fin : ∀ (listed : Array Bool) (a : Act) (w : World), listed.size = ops.size → Inv P ops md Rs par eats w0 a0 (fun i => listed.getD i false) a w → Region.ready md ops listed = [] → Q .normal a w := by
    intro listed a w hls I hr
    have all : ∀ i, i < ops.size → listed.getD i false = true := by
      intro i
      induction i using Nat.strongRecOn with
      | _ i ih =>
        intro hi
        cases hli : listed.getD i false with
        | true => rfl
        | false =>
          have : i ∈ Region.ready md ops listed := by
            rw [mem_ready]
            refine ⟨by rw [← hli]; simp [Array.getD, hls, hi], ops[i], by simp [hi], fun e he hb => ?_⟩
            have hbf := S.deps i ops[i] (by simp [hi]) e he hb
            exact ih _ (S.back _ _ hbf) (by have := S.back _ _ hbf; omega)
          rw [hr] at this; cases this
    obtain ⟨_, h2⟩ := hWv (valAt ops a)
    have hact : acts ops a0 (valAt ops a) ops.size = a := by
      obtain ⟨s1, s2⟩ := acts_size (ops := ops) a0 (valAt ops a) ops.size
      have ht : (acts ops a0 (valAt ops a) ops.size).tmps = a.tmps := by
        apply Array.ext_getElem?
        intro d
        obtain ⟨k1, k2⟩ := acts_at S a0 hn (valAt ops a) d ops.size (Nat.le_refl _)
        by_cases hj : ∃ j, j < ops.size ∧ dstAt ops j = some d
        · obtain ⟨j, hj, hjd⟩ := hj
          rw [k1 j hj hjd]
          obtain ⟨e, he', hen⟩ := S.dst j hj
          obtain rfl : e = d := by rw [hjd] at he'; exact (Option.some.inj he').symm
          unfold valAt
          rw [hjd]
          have : e < a.tmps.size := by rw [I.inv.size, hn]; exact hen
          simp [Array.getD, this]
        · rw [k2 (fun k hk hkd => hj ⟨k, hk, hkd⟩)]
          exact (I.inv.rest d (fun k hk hkd => absurd ⟨k, hk, hkd⟩ hj)).symm
      have hdf := s2.trans I.inv.defers.symm
      generalize acts ops a0 (valAt ops a) ops.size = b at *
      obtain ⟨bt, bd⟩ := b
      obtain ⟨at', ad⟩ := a
      simp at ht hdf
      rw [ht, hdf]
    have := h2 w I.inv.below
    rw [hact] at this
    refine this (fun j hj => ?_)
    rw [vals_at _ hj, par_same (g := valAt ops a) (fun p hp => vals_at _ (by have := S.back _ _ (hP j p hj hp); omega))]
    exact I.fact j hj (all j hj)
  intro fuel
  induction fuel with
  | zero =>
    intro listed a w hls hc hb I
    have hr : Region.ready md ops listed = [] := by
      cases h : Region.ready md ops listed with
      | nil => rfl
      | cons i r =>
        exfalso
        have hi : i ∈ Region.ready md ops listed := by rw [h]; simp
        obtain ⟨h0, o, ho, _⟩ := mem_ready.1 hi
        have his := (Array.getElem?_eq_some_iff.1 ho).1
        have : 0 < (List.range ops.size).countP (fun i => !listed.getD i false) := List.countP_pos_iff.2 ⟨i, List.mem_range.2 his, by
          rw [show listed.getD i false = listed.getD i true by simp [Array.getD, hls, his], h0]; rfl⟩
        omega
    exact ⟨hr, fin listed a w hls I hr⟩
  | succ fuel ih =>
    intro listed a w hls hc hb I
    refine ⟨fin listed a w hls I, fun i hi => ?_⟩
    obtain ⟨h0, o, ho, hall⟩ := mem_ready.1 hi
    have his := (Array.getElem?_eq_some_iff.1 ho).1
    have hL : listed.getD i false = false := by rw [show listed.getD i false = listed.getD i true by simp [Array.getD, hls, his], h0]
    have hdep : ∀ j, beforeB md ops j i = true → listed.getD j false = true := by
      intro j hj
      obtain ⟨o', ho', e, he, hbd, rfl⟩ := before_iff.1 hj
      obtain rfl : o = o' := by rw [ho] at ho'; exact Option.some.inj ho'
      exact hall e he hbd
    have hds : o.dst = dstAt ops i := by simp [dstAt, ho]
    obtain ⟨d, hd, hdn⟩ := S.dst i his
    have hag := I.inv.agrees S hn his hL hdep
    obtain ⟨hex, hwt⟩ := run_alike (ops := ops) (o := o) (S.sel i o · · ho) (a := a) (b := acts ops a0 (valAt ops a) i) (fun d hd => hag d (by unfold looksB; rw [ho]; simpa using hd))
    have hval : ∀ j, beforeB md ops j i = true → (vals (valAt ops a) i).getD j undef = valAt ops a j := fun j hj => vals_at _ (S.back _ _ hj)
    have hpar : parV par (fun k => (vals (valAt ops a) i).getD k undef) i = parV par (valAt ops a) i := par_same (fun p hp => hval p (hP i p his hp))
    have hnext : ∀ v w', Below w.heap.size w w' → relD Rs i (parV par (fun k => (vals (valAt ops a) i).getD k undef) i) v w' → wpAny P md ops Q fuel (listed.setIfInBounds i true) (a.put o.dst v) w' := by
      intro v w' hbl hr
      rw [hpar] at hr
      have hgr : w.grownBy w' (Ow.rowOf ops eats a i) := by
        unfold Ow.rowOf
        rw [he i]
        exact ⟨hbl.os, hbl.tape, hbl.output, hbl.size, fun k hk _ => hbl.block k hk⟩
      obtain ⟨I', hb'⟩ := I.inv.step S (fun j _ => by intro v w w' row _ _ _ _; simp [Ow.rel]) hn hb his hL hdep (v := v) (w' := w') ⟨by simp [Ow.rel], hgr, by simp⟩
      obtain ⟨hvi, hvj⟩ := valAt_put S (I.inv.size.trans hn) his v
      rw [hds]
      refine ih _ _ _ (by simp [hls]) ?_ hb' ?_
      · have : (List.range ops.size).countP (fun j => !(listed.setIfInBounds i true).getD j false) < (List.range ops.size).countP (fun j => !listed.getD j false) := by
          refine countP_lt _ i (List.mem_range.2 his) (by simp [hL]) (by simp [Array.getD, hls, his]) (fun j hj h => ?_)
          by_cases hji : i = j
          · subst hji; simp [Array.getD, hls, his] at h
          · simpa [Array.getD_eq_getD_getElem?, Array.getElem?_setIfInBounds_ne hji] using h
        omega
      · have hfun : (fun j => (listed.setIfInBounds i true).getD j false) = fun j => if j = i then true else listed.getD j false := by
          funext j
          by_cases hji : j = i
          · subst hji; simp [Array.getD, hls, his]
          · simp [Array.getD_eq_getD_getElem?, Array.getElem?_setIfInBounds_ne (Ne.symm hji), hji]
        rw [hfun]
        refine ⟨I', fun j hj hLj => ?_⟩
        by_cases hji : j = i
        · subst hji
          rw [hvi, par_same (g := valAt ops a) (fun p hp => hvj p (by have := S.back _ _ (hP j p hj hp); omega) (by have := S.back _ _ (hP j p hj hp); omega))]
          exact hr
        · have hLj' : listed.getD j false = true := by simpa [hji] using hLj
          rw [hvj j hj hji, par_same (g := valAt ops a) (fun p hp => by
            have hbf := hP j p hj hp
            have hLp : listed.getD p false = true := I.inv.closed j p hj hLj' hbf
            refine hvj p (by have := S.back _ _ hbf; omega) (fun e => ?_)
            subst e
            rw [hL] at hLp; cases hLp)]
          exact hK j hj _ _ _ _ (I.fact j hj hLj') hbl
    have hduty := (hWv (valAt ops a)).1 i o ho w I.inv.below
      (fun j hj => by
        have hji := S.back _ _ hj
        rw [hval j hj, par_same (g := valAt ops a) (fun p hp => vals_at _ (by have := S.back _ _ (hP j p (by omega) hp); omega))]
        exact I.fact j (by omega) (hdep j hj))
      (fun a' w' => ∃ v, a' = (acts ops a0 (valAt ops a) i).put o.dst v ∧ Below w.heap.size w w' ∧ relD Rs i (parV par (fun k => (vals (valAt ops a) i).getD k undef) i) v w') (fun v w' h1 h2 => ⟨v, rfl, h1, h2⟩)
    have hinj : ∀ u v, (acts ops a0 (valAt ops a) i).put o.dst u = (acts ops a0 (valAt ops a) i).put o.dst v → u = v := by
      intro u v huv
      rw [hds, hd] at huv
      have h1 := congrArg (fun x => x.tmps[d]?) huv
      have hsz := (acts_size (ops := ops) a0 (valAt ops a) i).1
      have hlt : d < (acts ops a0 (valAt ops a) i).tmps.size := by rw [hsz, hn]; exact hdn
      simp [Act.put, hlt] at h1
      exact h1
    unfold wpOp
    simp only [ho]
    rw [hwt]
    split
    · rename_i hw
      rw [if_pos hw] at hduty
      refine Or.inl (Oper.wp_mono (fun a' w' h => ?_) (oper_alike (d := d) (by rw [hds, hd]) (by rw [(acts_size (ops := ops) a0 (valAt ops a) i).1, hn]; exact hdn) hex hduty))
      obtain ⟨v, rfl, h1, h2⟩ := h
      exact hnext v w' h1 h2
    · rename_i hw
      rw [if_neg hw] at hduty
      obtain ⟨v, h1, h2, h3⟩ := hduty
      obtain rfl := hinj _ _ h1
      exact hnext undef w h2 h3
end

def KeepsD (R : RelD) : Prop := ∀ ps v w w', R ps v w → Below w.heap.size w w' → R ps v w'
def KeepsL : List RelD → Prop
  | [] => True
  | R :: rs => KeepsD R ∧ KeepsL rs
theorem KeepsL.all : ∀ (rs : List RelD), KeepsL rs → ∀ i, KeepsD (relD rs i)
  | [], _, i => by intro ps v w w' _ _; simp [relD]
  | R :: rs, h, 0 => h.1
  | R :: rs, h, i + 1 => by
    have := KeepsL.all rs h.2 i
    unfold relD at this ⊢
    simpa using this
theorem keeps_eq (x : Value) : KeepsD (eqD x) := fun _ _ _ _ h _ => h
theorem keeps_pure (R : List Value → Value → Prop) : KeepsD (fun ps v _ => R ps v) := fun _ _ _ _ h _ => h
def parB (md : Region.Mode) (ops : Array Oper) (par : List (List Nat)) : Bool := (List.range ops.size).all fun i => (par.getD i []).all fun p => beforeB md ops p i
theorem par_of {md : Region.Mode} {ops : Array Oper} {par : List (List Nat)} (h : parB md ops par = true) : ∀ i p, i < ops.size → p ∈ par.getD i [] → beforeB md ops p i = true := by
  intro i p hi hp
  unfold parB at h
  rw [List.all_eq_true] at h
  have := h i (List.mem_range.2 hi)
  rw [List.all_eq_true] at this
  exact this p hp
theorem region_quiet {P : Program} {ops : Array Oper} {Q : Exit → Act → World → Prop} {id : Nat} {a0 : Act} {w : World} (n : Nat) (Rs : List RelD) (par : List (List Nat)) (hm : P.follows .mixedOrders = true) (hn : a0.tmps.size = n) (hs : shapeB .any ops [] (List.replicate ops.size none) n = true) (hp : parB .any ops par = true)
    (hK : KeepsL Rs) (hW : Walk P ops Q .any Rs par w.drew ops.toList 0 a0 []) : (Code.region id ops true).wp P Q a0 w := by
  refine wp_region_any hm (any_quiet (w0 := w.drew) (eats := List.replicate ops.size none) (fun i => ?_) (shape_of hs) (fun i _ => KeepsL.all _ hK i) (par_of hp) hn hW ops.size _ a0 w.drew (by simp) ?_ (Nat.le_refl _) ?_)
  · unfold Ow.eatsAt
    by_cases hi : i < ops.size
    · simp [hi]
    · simp [hi]
  · exact Nat.le_trans List.countP_le_length (by simp)
  · refine ⟨⟨Below.refl _ _, rfl, rfl, fun _ _ => rfl, ?_, ?_, ?_, ?_⟩, ?_⟩
    all_goals
      intros
      rename_i h
      first | (simp [Array.getD] at h; done) | (rename_i h' _; simp [Array.getD] at *)
theorem walk_cons {P : Program} {ops : Array Oper} {Q : Exit → Act → World → Prop} {md : Region.Mode} {Rs : List RelD} {par : List (List Nat)} {w0 : World} {l r : List Oper} {o : Oper} {i : Nat} {a : Act} {vs : List Value} {f : Value → Act} {us : Value → List Value}
    (hl : l = o :: r) (h : Duty P ops md Rs par w0 i o a vs) (hf : ∀ v, a.put o.dst v = f v) (hu : ∀ v, vs ++ [v] = us v) (hr : ∀ v, Walk P ops Q md Rs par w0 r (i + 1) (f v) (us v)) : Walk P ops Q md Rs par w0 l i a vs := by
  subst hl; exact ⟨h, fun v => by rw [hf, hu]; exact hr v⟩
theorem walk_nil {P : Program} {ops : Array Oper} {Q : Exit → Act → World → Prop} {md : Region.Mode} {Rs : List RelD} {par : List (List Nat)} {w0 : World} {l : List Oper} {i : Nat} {a : Act} {vs : List Value}
    (hl : l = []) (h : ∀ w, Below w0.heap.size w0 w → (∀ j, Nat.blt j ops.size = true → relD Rs j (parV par (fun k => vs.getD k undef) j) (vs.getD j undef) w) → Q .normal a w) : Walk P ops Q md Rs par w0 l i a vs := by
  subst hl
  exact fun w hb hd => h w hb fun j hj => hd j (by simpa using hj)
end Oy
end Go.Proofs.YtjgfkmakfdepcaaGreatDoor
namespace Go.Proofs.YtjgfkmakfdepcaaGreatDoor
open Go.RowKit

namespace Oy
def sameD : RelD := fun ps v _ => ps = [v]
def comp0 : RelD := fun ps v _ => ∃ v2 v3 b, ps = [.tuple #[v, v2, v3, .bool b]]
def comp1 : RelD := fun ps v _ => ∃ v1 v3 b, ps = [.tuple #[v1, v, v3, .bool b]]
def comp2 : RelD := fun ps v _ => ∃ v1 v2 b, ps = [.tuple #[v1, v2, v, .bool b]]
end Oy
def CopyR (al : List AM) : Oy.RelD := fun _ v w => ∃ qs, qs.map Prod.fst = al ∧ RdA w v qs
theorem keeps_copy (al : List AM) : Oy.KeepsD (CopyR al) := fun _ _ _ _ ⟨qs, h1, h2⟩ hb => ⟨qs, h1, h2.below hb⟩
theorem Rows3.low {B B' : Nat} {w : World} {xv rv sv : Value} {xs : List VA} {r s : List (List UInt8)} (h : Rows3 B w xv rv sv xs r s) (hb : B' ≤ B) : Rows3 B' w xv rv sv xs r s :=
  ⟨own_lower h.x hb, own_lower h.r hb, own_lower h.s hb, h.xr, h.xs, h.rs⟩
def DoR (B : Nat) (d : DM) : Oy.RelD := fun _ v w => ∃ v1 v2 v3, v = .tuple #[v1, v2, v3, .bool d.ok] ∧ Rows3 B w v1 v2 v3 d.xs d.r d.s
theorem keeps_do (B : Nat) (d : DM) : Oy.KeepsD (DoR B d) := fun _ _ _ _ ⟨v1, v2, v3, h1, h2⟩ hb => ⟨v1, v2, v3, h1, h2.below hb⟩
theorem keeps_mv (B : Nat) (d : DM) : Oy.KeepsD (fun ps v w => ps = [v] ∧ DoR B d ps v w) := fun ps v w w' ⟨h1, h2⟩ hb => ⟨h1, keeps_do B d ps v w w' h2 hb⟩
end Go.Proofs.YtjgfkmakfdepcaaGreatDoor
namespace Go.Proofs.YtjgfkmakfdepcaaGreatDoor
open Go.RowKit

theorem RdA.take {w : World} {A : Option Addr} {c : Nat} {ps : List AP} (h : RdA w (.slice A ps.length c) ps) {k : Nat} (hk : k ≤ ps.length) : RdA w (.slice A k c) (ps.take k) := by
  have hl : (ps.take k).length = k := by rw [List.length_take]; omega
  refine ⟨?_, fun p hp => h.acts p (List.mem_of_mem_take hp)⟩
  rw [hl]
  rcases h.inn with ⟨h1, h2, _⟩ | ⟨ad, c', h1, _, h3⟩
  · injection h1 with e1 e2 e3
    have : k = 0 := by omega
    subst this
    subst e1; subst e3
    exact Or.inl ⟨rfl, rfl, by simp [flatA]⟩
  · injection h1 with e1 e2 e3
    subst e1; subst e3
    refine Or.inr ⟨ad, c, rfl, by rw [flatA_length, hl], fun hk0 => ?_⟩
    obtain ⟨b, o, e, hb, hc⟩ := h3 (by omega)
    refine ⟨b, o, e, hb, fun j u hu => ?_⟩
    have : flatA ps = flatA (ps.take k) ++ flatA (ps.drop k) := by rw [← flatA_append, List.take_append_drop]
    have hj := (List.getElem?_eq_some_iff.1 hu).1
    exact hc j u (by rw [this, List.getElem?_append_left hj]; exact hu)
theorem RdA.drop {w : World} {A : Option Addr} {c : Nat} {ps : List AP} (h : RdA w (.slice A ps.length c) ps) {k : Nat} (hk : k ≤ ps.length) (hc : ps.length ≤ c) : RdA w (.slice (if c = k then A else A.map (fun a => a.add (k * 3))) (ps.length - k) (c - k)) (ps.drop k) := by
  have hl : (ps.drop k).length = ps.length - k := List.length_drop
  refine ⟨?_, fun p hp => h.acts p (List.mem_of_mem_drop hp)⟩
  rw [hl]
  by_cases hck : c = k
  · have h0 : ps.length - k = 0 := by omega
    rw [if_pos hck, h0]
    have hd : ps.drop k = [] := List.drop_of_length_le (by omega)
    rw [hd]
    rcases h.inn with ⟨h1, _, _⟩ | ⟨ad, c', h1, _, _⟩
    · injection h1 with e1 e2 e3
      subst e1
      exact Or.inl ⟨by congr 1; omega, rfl, rfl⟩
    · injection h1 with e1 e2 e3
      subst e1
      exact Or.inr ⟨ad, c - k, rfl, by simp [flatA], fun h => absurd h (by omega)⟩
  · rw [if_neg hck]
    rcases h.inn with ⟨h1, h2, _⟩ | ⟨ad, c', h1, _, h3⟩
    · injection h1 with e1 e2 e3
      omega
    · injection h1 with e1 e2 e3
      subst e1; subst e3
      refine Or.inr ⟨ad.add (k * 3), c - k, rfl, by rw [flatA_length, hl], fun hk0 => ?_⟩
      obtain ⟨b, o, e, hb, hcc⟩ := h3 (by omega)
      subst e
      refine ⟨b, o + k * 3, by rw [add_lit'], hb, fun j u hu => ?_⟩
      have : flatA ps = flatA (ps.take k) ++ flatA (ps.drop k) := by rw [← flatA_append, List.take_append_drop]
      have hlt : (flatA (ps.take k)).length = k * 3 := by rw [flatA_length, List.length_take]; congr 1; omega
      have := hcc (k * 3 + j) u (by rw [this, List.getElem?_append_right (by omega), hlt, Nat.add_sub_cancel_left]; exact hu)
      rw [← Nat.add_assoc] at this
      exact this
theorem do_rs (vs : List VM) : ∀ (l : List AM) (xs : List VA) (r s : List (List UInt8)), (doP vs l xs r s).r.length ≤ r.length + l.length + 1 ∧ (doP vs l xs r s).s.length ≤ s.length + l.length
  | [], _, _, _ => by simp [doP]
  | a :: l, xs, r, s => by
    rw [doP_cons]
    simp only [List.length_cons]
    split
    · split
      · rename_i ys _; have := do_rs vs l ys r s; omega
      · simp only [List.length_append, List.length_singleton]; omega
    · split
      · have := do_rs vs l xs (r ++ [a.nm]) s; simp only [List.length_append, List.length_singleton] at this; omega
      · split
        · have := do_rs vs l xs r (s ++ [a.nm]); simp only [List.length_append, List.length_singleton] at this; omega
        · simp only [List.length_append, List.length_singleton]; omega
end Go.Proofs.YtjgfkmakfdepcaaGreatDoor
namespace Go.Proofs.YtjgfkmakfdepcaaGreatDoor
open Go.RowKit

theorem all_drop {xs : List VA} {k : Nat} (h : k < xs.length) : (xs.drop k).all rightV = (rightV xs[k] && (xs.drop (k + 1)).all rightV) := by
  rw [List.drop_eq_getElem_cons h]; rfl

set_option maxRecDepth 100000 in
set_option maxHeartbeats 4000000 in
theorem refEvOf_any (v vv xv sv : Value) (cs : List CM) (vs : List VM) (xs : List VA) (ss : List (List UInt8)) (w : World) (hR : RdC w v cs) (hl : cs.length ≤ 4611686018427387904) (hN : Names cs)
    (hV : RdV w vv vs) (hX : RdX w xv xs) (hS : RdW w sv ss) (hvl : vs.length ≤ 4611686018427387904) (hxl : xs.length ≤ 4611686018427387904) (hsl : ss.length ≤ 4611686018427387904) (hi : ∀ x ∈ xs, inL x.a = true) :
    Calls Tryz.prog 39 #[v, vv, xv, sv] w fun e w' => e = outW (evP vs xs ss cs) ∧ Below w.heap.size w w' := by
  have HB0 : Hid (Below w.heap.size w (w.alloc (.cells #[.int .i64 0, .int .i64 0, .int .i64 0] 54))) := (Below.refl _ _).alloc (Nat.le_refl _) _
  have HD0 : Hid ((w.alloc (.cells #[.int .i64 0, .int .i64 0, .int .i64 0] 54)).heap[w.heap.size]? = some (.cells #[.int .i64 0, .int .i64 0, .int .i64 0] 54 (0, 0))) := heap_at rfl _ _
  have HRG := Lib.hid (refRight_any v cs (w.alloc (.cells #[.int .i64 0, .int .i64 0, .int .i64 0] 54)) (hR.below HB0.out) hl hN)
  cases hB : rightB cs with
  | false =>
    rw [evP_form hB]
    have HBT := Lib.hid hB
    obtain ⟨V, vc, rfl⟩ := hV.form
    obtain ⟨X, xc, rfl⟩ := hX.form
    obtain ⟨S, sc, rfl⟩ := hS.form
    obtain ⟨A, c, rfl, hr⟩ := hR
    clear hr hV hX hS hB hi
    generalize vs.length = m at *
    generalize xs.length = n at *
    go_enter Tryz.func39, Tryz.ntmps39
    go_wp2_with fail
    refine HRG.out.mono ?_
    rintro e wa ⟨rfl, hba⟩
    rw [HBT.out]
    have HA := Lib.hid (HB0.out.trans (hba.mono HB0.out.size))
    have HDA : Hid (wa.heap[w.heap.size]? = some (.cells #[.int .i64 0, .int .i64 0, .int .i64 0] 54 (0, 0))) := (hba.block _ (by simp)).trans HD0.out
    have hza : w.heap.size + 1 ≤ wa.heap.size := by have := hba.size; simpa using this
    clear hba
    obtain ⟨d0', d1', d2', f0, f1, f2⟩ := at3 HDA.out
    go_wp2
    obtain ⟨⟨r0, r1, r2⟩, hbf⟩ := fin3 HDA.out (Nat.le_refl _) HA.out (.int .i64 0) (.int .i64 0) (.int .i64 0)
    refine bodyPost_ret (v := .tuple #[.agg #[.int .i64 0, .int .i64 0, .int .i64 0], .int .i64 1]) ?_ rfl ⟨rfl, hbf⟩
    simp [results, Tryz.results39, go_sem, r0, r1, r2]
  | true =>
    by_cases hlen : xs.length = vs.length
    · obtain ⟨t, ht, htc⟩ := right_tree hB
      have hl32 : cs.length ≤ 32 := by unfold rightB at hB; simp at hB; exact hB.1
      have hpp := vpost_pos t
      have hlt := congrArg List.length htc
      have hF := right_formed hB
      have hcl : 1 ≤ cs.length := by omega
      have hrec := fun (hx : ∀ x ∈ xs, OkV x) W hR hV hX hS => refEv_rec v vv xv sv cs vs xs ss hF hl32 hvl hxl hsl hlen.symm hx t ht [] (cs.length - 1) W (by omega) (by rw [show cs.length - 1 + 1 = cs.length by omega, List.take_length, htc]; rfl) hR hV hX hS
      rw [show ((cs.length - 1 : Nat) : Int) = (cs.length : Int) - 1 by omega] at hrec
      have hev : evP vs xs ss cs = if xs.all rightV = true then eT vs xs ss t else erV 12 := by
        cases ha : xs.all rightV with
        | true =>
          have hW : worldB vs xs = true := by unfold worldB; rw [decide_eq_true hlen, ha]; rfl
          obtain ⟨h1, _, h3⟩ := world_of hW hi
          rw [evP_run hB hW, if_pos rfl, ← htc]
          exact ev_tree h3 h1.symm ht
        | false => rw [evP_arg hB (by unfold worldB; rw [ha, Bool.and_false]), if_neg (by decide)]
      have hok : xs.all rightV = true → ∀ x ∈ xs, OkV x := fun ha => (world_of (by unfold worldB; rw [decide_eq_true hlen, ha]; rfl) hi).2.2
      rw [hev]
      have HREC : Hid (xs.all rightV = true → _) := fun ha => hrec (hok ha)
      have HBT := Lib.hid hB
      have HR := Lib.hid hR; have HV := Lib.hid hV; have HX := Lib.hid hX; have HS := Lib.hid hS
      obtain ⟨V, vc, rfl⟩ := hV.form
      obtain ⟨X, xc, rfl⟩ := hX.form
      obtain ⟨S, sc, rfl⟩ := hS.form
      obtain ⟨A, c, rfl, hr⟩ := hR
      obtain ⟨p, hp⟩ : ∃ p, eT vs xs ss t = p := ⟨_, rfl⟩
      rw [hp] at HREC ⊢
      obtain ⟨⟨rk, ra, rb⟩, re⟩ := p
      have HREC : Hid (xs.all rightV = true → ∀ (W : World), RdC W (.slice A cs.length c) cs → RdV W (.slice V vs.length vc) vs → RdX W (.slice X xs.length xc) xs → RdW W (.slice S ss.length sc) ss → Calls Tryz.prog 70 #[.slice A cs.length c, .int .i64 ((cs.length : Int) - 1), .slice V vs.length vc, .slice X xs.length xc, .slice S ss.length sc] W fun x w' => x = .returned (.tuple #[.agg #[.int .i64 rk, .int .i64 ra, .int .i64 rb], .int .i64 re]) ∧ Below W.heap.size W w') := HREC
      clear hr hV hX hS hB hi hrec hev hok hF htc ht hpp hlt hp
      obtain ⟨q, hq⟩ : ∃ q, cs.length = q := ⟨_, rfl⟩
      rw [hq] at HREC HR HRG hl32 hcl hl ⊢
      have HXS := Lib.hid hlen
      rw [← hlen] at HREC HV hvl ⊢
      clear hlen hvl
      obtain ⟨n, hn⟩ : ∃ n, xs.length = n := ⟨_, rfl⟩
      have HN := Lib.hid hn
      rw [hn] at HREC HV HX hxl ⊢
      clear hn hq
      have hm : ((n : Int) != (n : Int)) = false := by simp
      have HRT : Hid (xs.all rightV = true → outW (if xs.all rightV = true then ((⟨rk, ra, rb⟩ : VA), re) else erV 12) = .returned (.tuple #[.agg #[.int .i64 rk, .int .i64 ra, .int .i64 rb], .int .i64 re])) := fun ha => by rw [if_pos ha]; rfl
      have HRF : Hid (xs.all rightV = false → outW (if xs.all rightV = true then ((⟨rk, ra, rb⟩ : VA), re) else erV 12) = .returned (.tuple #[.agg #[.int .i64 0, .int .i64 0, .int .i64 0], .int .i64 12])) := fun ha => by rw [if_neg (by rw [ha]; decide)]; rfl
      generalize outW (if xs.all rightV = true then ((⟨rk, ra, rb⟩ : VA), re) else erV 12) = R at *
      go_enter Tryz.func39, Tryz.ntmps39
      go_wp2_with fail
      refine HRG.out.mono ?_
      rintro e wa ⟨rfl, hba⟩
      rw [HBT.out]
      have HA := Lib.hid (HB0.out.trans (hba.mono HB0.out.size))
      have HDA : Hid (wa.heap[w.heap.size]? = some (.cells #[.int .i64 0, .int .i64 0, .int .i64 0] 54 (0, 0))) := (hba.block _ (by simp)).trans HD0.out
      have hza : w.heap.size + 1 ≤ wa.heap.size := by have := hba.size; simpa using this
      clear hba
      go_wp2
      go_loopw [10] (fun i wr => ∃ k, k ≤ n ∧ i = .int .i64 (k : Int) ∧ (xs.drop k).all rightV = xs.all rightV ∧ Below wa.heap.size wa wr) (fun i _ => n - (intOf i).toNat)
      case atStart => exact ⟨0, by omega, rfl, by rw [List.drop_zero], Below.refl _ _⟩
      case round =>
        obtain ⟨k, hk, rfl, hal, hb⟩ := hrel
        have HAL := Lib.hid hal
        have HBR := Lib.hid hb
        have HW := Lib.hid (HA.out.trans (hb.mono HA.out.size))
        have HDR : Hid (wr.heap[w.heap.size]? = some (.cells #[.int .i64 0, .int .i64 0, .int .i64 0] 54 (0, 0))) := (hb.block _ (by omega)).trans HDA.out
        have hzr := hb.size
        clear hal hb
        by_cases hkn : k < n
        · have hkx : k < xs.length := by rw [HN.out]; exact hkn
          obtain ⟨bb, oo, rfl, _, x0, x1, x2⟩ := (HX.out.below HW.out).at_ hkx
          have HAD := Lib.hid (all_drop hkx)
          obtain ⟨x, hx⟩ : ∃ x, xs[k] = x := ⟨_, rfl⟩
          rw [hx] at x0 x1 x2 HAD
          have HRR := Lib.hid (fun W => rRight_any x W)
          obtain ⟨xk, xa, xb⟩ := x
          change wr.cell? _ = some (.int .i64 xk) at x0
          change wr.cell? _ = some (.int .i64 xa) at x1
          change wr.cell? _ = some (.int .i64 xb) at x2
          have HRR : Hid (∀ W, Calls Tryz.prog 69 #[.agg #[.int .i64 xk, .int .i64 xa, .int .i64 xb]] W fun e w' => e = .returned (.bool (rightV ⟨xk, xa, xb⟩)) ∧ Below W.heap.size W w') := HRR
          clear hx
          cases hrv : rightV ⟨xk, xa, xb⟩ with
          | true =>
            rw [hrv] at HRR HAD
            have HAN : Hid ((xs.drop (k + 1)).all rightV = xs.all rightV) := by
              have h1 := HAL.out; have h2 := HAD.out
              show _ = _
              rw [← h1, h2, Bool.true_and]
            clear hrv
            go_wp2_with fail
            refine (HRR.out _).mono ?_
            rintro e w2 ⟨rfl, hb2⟩
            have HB2 := Lib.hid (HBR.out.trans (hb2.mono HBR.out.size))
            clear hb2
            go_wp2
            go_roundw
            case rel => exact ⟨k + 1, by omega, by go_num, HAN.out, HB2.out⟩
            case measure => simp [intOf]; omega
          | false =>
            rw [hrv] at HRR HAD
            have HAF : Hid (xs.all rightV = false) := by
              have h1 := HAL.out; have h2 := HAD.out
              show _ = _
              rw [← h1, h2, Bool.false_and]
            clear hrv
            go_wp2_with fail
            refine (HRR.out _).mono ?_
            rintro e w2 ⟨rfl, hb2⟩
            have HB2 := Lib.hid (HW.out.trans (hb2.mono HW.out.size))
            have HD2 : Hid (w2.heap[w.heap.size]? = some (.cells #[.int .i64 0, .int .i64 0, .int .i64 0] 54 (0, 0))) := (hb2.block _ (by omega)).trans HDR.out
            clear hb2
            obtain ⟨d0', d1', d2', f0, f1, f2⟩ := at3 HD2.out
            go_wp2
            obtain ⟨⟨r0, r1, r2⟩, hbf⟩ := fin3 HD2.out (Nat.le_refl _) HB2.out (.int .i64 0) (.int .i64 0) (.int .i64 0)
            refine bodyPost_ret (v := .tuple #[.agg #[.int .i64 0, .int .i64 0, .int .i64 0], .int .i64 12]) ?_ rfl ⟨(HRF.out HAF.out).symm, hbf⟩
            simp [results, Tryz.results39, go_sem, r0, r1, r2]
        · obtain rfl : k = n := by omega
          have HAT : Hid (xs.all rightV = true) := by
            have h1 := HAL.out
            rw [← HN.out, List.drop_length] at h1
            exact h1.symm
          have HRE := Lib.hid (HREC.out HAT.out)
          go_wp2_with fail
          refine (HRE.out _ (HR.out.below HW.out) (HV.out.below HW.out) (HX.out.below HW.out) (HS.out.below HW.out)).mono ?_
          rintro e w2 ⟨rfl, hb2⟩
          have HB2 := Lib.hid (HW.out.trans (hb2.mono HW.out.size))
          have HD2 : Hid (w2.heap[w.heap.size]? = some (.cells #[.int .i64 0, .int .i64 0, .int .i64 0] 54 (0, 0))) := (hb2.block _ (by omega)).trans HDR.out
          clear hb2
          obtain ⟨d0', d1', d2', f0, f1, f2⟩ := at3 HD2.out
          go_wp2
          obtain ⟨⟨r0, r1, r2⟩, hbf⟩ := fin3 HD2.out (Nat.le_refl _) HB2.out (.int .i64 rk) (.int .i64 ra) (.int .i64 rb)
          refine bodyPost_ret (v := .tuple #[.agg #[.int .i64 rk, .int .i64 ra, .int .i64 rb], .int .i64 re]) ?_ rfl ⟨(HRT.out HAT.out).symm, hbf⟩
          simp [results, Tryz.results39, go_sem, r0, r1, r2]
    · rw [evP_arg hB (by unfold worldB; rw [decide_eq_false hlen]; rfl)]
      have HBT := Lib.hid hB
      have hm : ((vs.length : Int) != (xs.length : Int)) = true := by simp; omega
      obtain ⟨V, vc, rfl⟩ := hV.form
      obtain ⟨X, xc, rfl⟩ := hX.form
      obtain ⟨S, sc, rfl⟩ := hS.form
      obtain ⟨A, c, rfl, hr⟩ := hR
      clear hr hV hX hS hB hi hlen
      generalize vs.length = m at *
      generalize xs.length = n at *
      go_enter Tryz.func39, Tryz.ntmps39
      go_wp2_with fail
      refine HRG.out.mono ?_
      rintro e wa ⟨rfl, hba⟩
      rw [HBT.out]
      have HA := Lib.hid (HB0.out.trans (hba.mono HB0.out.size))
      have HDA : Hid (wa.heap[w.heap.size]? = some (.cells #[.int .i64 0, .int .i64 0, .int .i64 0] 54 (0, 0))) := (hba.block _ (by simp)).trans HD0.out
      have hza : w.heap.size + 1 ≤ wa.heap.size := by have := hba.size; simpa using this
      clear hba
      obtain ⟨d0', d1', d2', f0, f1, f2⟩ := at3 HDA.out
      go_wp2
      obtain ⟨⟨r0, r1, r2⟩, hbf⟩ := fin3 HDA.out (Nat.le_refl _) HA.out (.int .i64 0) (.int .i64 0) (.int .i64 0)
      refine bodyPost_ret (v := .tuple #[.agg #[.int .i64 0, .int .i64 0, .int .i64 0], .int .i64 12]) ?_ rfl ⟨rfl, hbf⟩
      simp [results, Tryz.results39, go_sem, r0, r1, r2]
end Go.Proofs.YtjgfkmakfdepcaaGreatDoor
namespace Go.Proofs.YtjgfkmakfdepcaaGreatDoor
open Go.RowKit

theorem at4d {w : World} {D : Nat} {x0 x1 x2 x3 : Value} {t : TypeId} (h : w.heap[D]? = some (.cells #[x0, x1, x2, x3] t (0, 0))) :
    w.cell? ⟨D, 0, none⟩ = some x0 ∧ w.cell? ⟨D, 1, none⟩ = some x1 ∧ w.cell? ⟨D, 2, none⟩ = some x2 ∧ w.cell? ⟨D, 3, none⟩ = some x3 ∧
    w.frozen? ⟨D, 0, none⟩ = false ∧ w.frozen? ⟨D, 1, none⟩ = false ∧ w.frozen? ⟨D, 2, none⟩ = false ∧ w.frozen? ⟨D, 3, none⟩ = false := by
  simp [World.cell?, World.frozen?, h]
/-- where the document's Do stands: the result's box, its own box, what that one holds -/
structure DidI (w wr : World) (xv rv sv : Value) (ok : Bool) (xs : List VA) (r s : List (List UInt8)) : Prop where
  res : wr.heap[w.heap.size]? = some (.cells #[.slice none 0 0, .slice none 0 0, .slice none 0 0, .bool false] 46 (0, 0))
  box : wr.heap[w.heap.size + 1]? = some (.cells #[xv, rv, sv, .bool ok] 46 (0, 0))
  rows : Rows3 (w.heap.size + 2) wr xv rv sv xs r s
  below : Below w.heap.size w wr
  size : w.heap.size + 2 ≤ wr.heap.size
theorem own_past {w : World} {B : Nat} {e : TypeId} {size n : Nat} {v : Value} {xs : List Value} {b : Nat} (h : w.ownsRow B e size v n xs) (hb : b < B) (j : Nat) (u : Value) : (w.setCell ⟨b, j, none⟩ u).ownsRow B e size v n xs :=
  h.kept (Lib.grownBy_setB (World.grownBy.refl w (some b)) _ _) (by
    cases hv : v.ownBlock with
    | none => exact Or.inl rfl
    | some q => exact Or.inr (fun e => by have := (h.lt q hv).1; have e := Option.some.inj e; omega))
theorem Rows3.past {B : Nat} {w : World} {xv rv sv : Value} {xs : List VA} {r s : List (List UInt8)} {b : Nat} (h : Rows3 B w xv rv sv xs r s) (hb : b < B) (j : Nat) (u : Value) : Rows3 B (w.setCell ⟨b, j, none⟩ u) xv rv sv xs r s :=
  ⟨own_past h.x hb _ _, own_past h.r hb _ _, own_past h.s hb _ _, h.xr, h.xs, h.rs⟩
/-- a row has grown: the boxes stand -/
theorem DidI.grown {w wr w' : World} {xv rv sv : Value} {ok : Bool} {xs : List VA} {r s : List (List UInt8)} {row : Option Nat} (h : DidI w wr xv rv sv ok xs r s) (hg : wr.grownBy w' row) (hr : ∀ g, row = some g → w.heap.size + 2 ≤ g) :
    w'.heap[w.heap.size]? = some (.cells #[.slice none 0 0, .slice none 0 0, .slice none 0 0, .bool false] 46 (0, 0)) ∧ w'.heap[w.heap.size + 1]? = some (.cells #[xv, rv, sv, .bool ok] 46 (0, 0)) ∧ Below w.heap.size w w' ∧ w.heap.size + 2 ≤ w'.heap.size := by
  have hs := h.size
  exact ⟨(hg.block _ (by omega) (fun e => by have := hr _ e.symm; omega)).trans h.res, (hg.block _ (by omega) (fun e => by have := hr _ e.symm; omega)).trans h.box, h.below.grown hg h.below.size (fun g hg' => by have := hr g hg'; omega), Nat.le_trans hs hg.size⟩
/-- a field of the box is stored -/
theorem did_store {w w' : World} {x0 x1 x2 x3 u xv rv sv : Value} {ok : Bool} {xs : List VA} {r s : List (List UInt8)} (j : Nat)
    (h1 : w'.heap[w.heap.size]? = some (.cells #[.slice none 0 0, .slice none 0 0, .slice none 0 0, .bool false] 46 (0, 0))) (h2 : w'.heap[w.heap.size + 1]? = some (.cells #[x0, x1, x2, x3] 46 (0, 0))) (h3 : Below w.heap.size w w') (h4 : w.heap.size + 2 ≤ w'.heap.size)
    (hR : Rows3 (w.heap.size + 2) w' xv rv sv xs r s) (hc : (#[x0, x1, x2, x3] : Array Value).setIfInBounds j u = #[xv, rv, sv, .bool ok]) : DidI w (w'.setCell ⟨w.heap.size + 1, j, none⟩ u) xv rv sv ok xs r s := by
  have hb := heap_setCell_same _ _ j _ _ u h2
  rw [hc] at hb
  refine ⟨?_, hb, hR.past (by omega) _ _, h3.setCell (by simp) _, by simpa using h4⟩
  rw [Below.heap_setCell _ _ _ _ (by simp)]
  exact h1
/-- what Do comes to -/
def DidPost (d : DM) (w : World) (e : Ending) (w' : World) : Prop :=
  ∃ v1 v2 v3, e = .returned (.agg #[v1, v2, v3, .bool d.ok]) ∧ Rows3 w.heap.size w' v1 v2 v3 d.xs d.r d.s ∧ Below w.heap.size w w'

end Go.Proofs.YtjgfkmakfdepcaaGreatDoor
